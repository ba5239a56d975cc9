/-
  Texts joined, in build order, each with its own comment and its own conditions: W15Lay.
-/
import Derived.Test.YtehdnbidgphecaaGreatDoorJ05
import Derived.Deep.RegionHeld3
import Derived.BigQuiet
/-
  Layer 15 (prog), walks of the methods that lay one step, and of lay: the method of a piece's kind is called. The conditions stand in the statements.
-/
namespace Go.Proofs.YtehdnbidgphecaaGreatDoor.W15
set_option maxRecDepth 100000
open Go Go.RowKit Go.Proofs.YtehdnbidgphecaaGreatDoor.Strs Go.Proofs.YtehdnbidgphecaaGreatDoor.Recs Go.Proofs.YtehdnbidgphecaaGreatDoor.M15
open Go.Proofs.YtehdnbidgphecaaGreatDoor.M14 (Piece size sizes)
open Go.Proofs.YtehdnbidgphecaaGreatDoor.W14 (Raw rawA rawC PAt PBox Kids below_new cell_block own_same own_form box_arg load_piece run_load_op)
open Go.Proofs.YtehdnbidgphecaaGreatDoor.Row256 (Beside)
open Go.Proofs.YtehdnbidgphecaaGreatDoor.Kit (below_draws on)

/-- a method's work on a piece -/
def Does (f : Nat) (b : Nat) (v : Value) (L : List Inst) (r : Raw) (p : Piece) (N : List Inst) (w : World) : Prop :=
  Lay w b v L → PAt (fun k => k < b) w r p → Calls Tryz.prog f #[.pointer (some ⟨b, 0, none⟩), .agg (rawA r)] w (Laid b v w N)
theorem Laid.on {w w1 w2 : World} {b : Nat} {v : Value} {L : List Inst} {e : Ending} (hb : Below w.heap.size w w1) (h : Laid b v w1 L e w2) : Laid b v w L e w2 := by
  obtain ⟨rfl, v', h1, h2⟩ := h
  exact ⟨rfl, v', h1, (Grow.of hb).trans h2⟩
set_option maxHeartbeats 1000000 in
theorem empty_any {w : World} {b : Nat} {v : Value} {L : List Inst} (h : Lay w b v L) (r : Raw) : Calls Tryz.prog 61 #[.pointer (some ⟨b, 0, none⟩), .agg (rawA r)] w (Laid b v w L) := by
  have H := Lib.hid h
  clear h
  go_enter Tryz.func61, Tryz.ntmps61
  go_wp2_with (first
    | (refine box_arg (r := r) rfl (.tmp 1) rfl rfl ?_; intro w1 b1 e1 p1 l1 z1; have L1 := Lib.hid l1; clear e1 p1 l1 z1))
  go_end0
  exact ⟨rfl, v, H.out.below L1.out, Grow.of L1.out⟩
set_option maxHeartbeats 1000000 in
theorem char_any {w : World} {b : Nat} {v : Value} {L : List Inst} (h : Lay w b v L) (hl : L.length ≤ 900000) (r : Raw) : Calls Tryz.prog 62 #[.pointer (some ⟨b, 0, none⟩), .agg (rawA r)] w (Laid b v w (L ++ [one 1 r.text L.length])) := by
  have H := Lib.hid h
  have HL := Lib.hid hl
  clear h hl
  go_enter Tryz.func62, Tryz.ntmps62
  go_wp2_with (first
    | (refine box_arg (r := r) rfl (.tmp 1) rfl rfl ?_; intro w1 b1 e1 p1 l1 z1; have a1 := p1.c1; have L1 := Lib.hid l1; clear e1 p1 l1 z1))
  refine (step_any (H.out.below L1.out) HL.out 1 r.text).mono ?_
  rintro e w2 ⟨rfl, v', h1, h2⟩
  have HH := Lib.hid h1
  have GG := Lib.hid ((Grow.of L1.out).trans h2)
  clear h1 h2
  go_wp2_with fail
  go_end0
  exact ⟨rfl, v', HH.out, GG.out⟩
set_option maxHeartbeats 1000000 in
theorem any_any {w : World} {b : Nat} {v : Value} {L : List Inst} (h : Lay w b v L) (hl : L.length ≤ 900000) (r : Raw) : Calls Tryz.prog 63 #[.pointer (some ⟨b, 0, none⟩), .agg (rawA r)] w (Laid b v w (L ++ [one 2 ⟨#[]⟩ L.length])) := by
  have H := Lib.hid h
  have HL := Lib.hid hl
  clear h hl
  go_enter Tryz.func63, Tryz.ntmps63
  go_wp2_with (first
    | (refine box_arg (r := r) rfl (.tmp 1) rfl rfl ?_; intro w1 b1 e1 p1 l1 z1; have a1 := p1.c1; have L1 := Lib.hid l1; clear e1 p1 l1 z1))
  refine (step_any (H.out.below L1.out) HL.out 2 ⟨#[]⟩).mono ?_
  rintro e w2 ⟨rfl, v', h1, h2⟩
  have HH := Lib.hid h1
  have GG := Lib.hid ((Grow.of L1.out).trans h2)
  clear h1 h2
  go_wp2_with fail
  go_end0
  exact ⟨rfl, v', HH.out, GG.out⟩
set_option maxHeartbeats 1000000 in
theorem set_any {w : World} {b : Nat} {v : Value} {L : List Inst} (h : Lay w b v L) (hl : L.length ≤ 900000) (r : Raw) : Calls Tryz.prog 64 #[.pointer (some ⟨b, 0, none⟩), .agg (rawA r)] w (Laid b v w (L ++ [one 3 r.text L.length])) := by
  have H := Lib.hid h
  have HL := Lib.hid hl
  clear h hl
  go_enter Tryz.func64, Tryz.ntmps64
  go_wp2_with (first
    | (refine box_arg (r := r) rfl (.tmp 1) rfl rfl ?_; intro w1 b1 e1 p1 l1 z1; have a1 := p1.c1; have L1 := Lib.hid l1; clear e1 p1 l1 z1))
  refine (step_any (H.out.below L1.out) HL.out 3 r.text).mono ?_
  rintro e w2 ⟨rfl, v', h1, h2⟩
  have HH := Lib.hid h1
  have GG := Lib.hid ((Grow.of L1.out).trans h2)
  clear h1 h2
  go_wp2_with fail
  go_end0
  exact ⟨rfl, v', HH.out, GG.out⟩
set_option maxHeartbeats 1000000 in
theorem begin_any {w : World} {b : Nat} {v : Value} {L : List Inst} (h : Lay w b v L) (hl : L.length ≤ 900000) (r : Raw) : Calls Tryz.prog 65 #[.pointer (some ⟨b, 0, none⟩), .agg (rawA r)] w (Laid b v w (L ++ [one 4 ⟨#[]⟩ L.length])) := by
  have H := Lib.hid h
  have HL := Lib.hid hl
  clear h hl
  go_enter Tryz.func65, Tryz.ntmps65
  go_wp2_with (first
    | (refine box_arg (r := r) rfl (.tmp 1) rfl rfl ?_; intro w1 b1 e1 p1 l1 z1; have a1 := p1.c1; have L1 := Lib.hid l1; clear e1 p1 l1 z1))
  refine (step_any (H.out.below L1.out) HL.out 4 ⟨#[]⟩).mono ?_
  rintro e w2 ⟨rfl, v', h1, h2⟩
  have HH := Lib.hid h1
  have GG := Lib.hid ((Grow.of L1.out).trans h2)
  clear h1 h2
  go_wp2_with fail
  go_end0
  exact ⟨rfl, v', HH.out, GG.out⟩
set_option maxHeartbeats 1000000 in
theorem end_any {w : World} {b : Nat} {v : Value} {L : List Inst} (h : Lay w b v L) (hl : L.length ≤ 900000) (r : Raw) : Calls Tryz.prog 66 #[.pointer (some ⟨b, 0, none⟩), .agg (rawA r)] w (Laid b v w (L ++ [one 5 ⟨#[]⟩ L.length])) := by
  have H := Lib.hid h
  have HL := Lib.hid hl
  clear h hl
  go_enter Tryz.func66, Tryz.ntmps66
  go_wp2_with (first
    | (refine box_arg (r := r) rfl (.tmp 1) rfl rfl ?_; intro w1 b1 e1 p1 l1 z1; have a1 := p1.c1; have L1 := Lib.hid l1; clear e1 p1 l1 z1))
  refine (step_any (H.out.below L1.out) HL.out 5 ⟨#[]⟩).mono ?_
  rintro e w2 ⟨rfl, v', h1, h2⟩
  have HH := Lib.hid h1
  have GG := Lib.hid ((Grow.of L1.out).trans h2)
  clear h1 h2
  go_wp2_with fail
  go_end0
  exact ⟨rfl, v', HH.out, GG.out⟩
set_option maxHeartbeats 2000000 in
theorem lay_empty {w : World} {b : Nat} {v : Value} {L N : List Inst} {t : ByteArray} {A : Option Addr} {n c : Nat} {m tp : Int} {p : Piece} (h : Lay w b v L) (hp : PAt (fun k => k < b) w ⟨1, t, A, n, c, m, tp⟩ p) (hC : ∀ w, Does 61 b v L ⟨1, t, A, n, c, m, tp⟩ p N w) : Calls Tryz.prog 47 #[.pointer (some ⟨b, 0, none⟩), .agg (rawA ⟨1, t, A, n, c, m, tp⟩)] w (Laid b v w N) := by
  have H := Lib.hid h
  have HP := Lib.hid hp
  have HX := Lib.hid hC
  clear h hp hC
  go_enter Tryz.func47, Tryz.ntmps47
  go_wp2_with (first
    | (refine box_arg (r := ⟨1, t, A, n, c, m, tp⟩) rfl (.tmp 1) rfl rfl ?_; intro w1 b1 e1 p1 l1 z1; have P1 := Lib.hid p1; have L1 := Lib.hid l1; have E1 := Lib.hid e1; clear e1 p1 l1 z1))
  have L2 := Lib.hid (on L1.out (below_draws w1 1))
  have H2 := Lib.hid (H.out.below L2.out)
  have HC := Lib.hid (HX.out (w1.drewN 1) H2.out (below_piece L2.out H.out.box.lt HP.out))
  have S0 : Hid ((w1.drewN 1).cell? ⟨b1, 0, none⟩ = some (.int .i64 1) ∧ (w1.drewN 1).cell? ⟨b, 2, none⟩ = some (way 61 b) ∧ PBox (w1.drewN 1) b1 ⟨1, t, A, n, c, m, tp⟩) := ⟨P1.out.c0, cell_of_row _ b 2 _ _ _ H2.out.box, P1.out⟩
  have KEEP : Hid (∀ v' x1, Lay x1 b v' N → Grow b v v' (w1.drewN 1) x1 → x1.cell? ⟨b1, 0, none⟩ = some (.int .i64 1) ∧ x1.cell? ⟨b, 2, none⟩ = some (way 61 b) ∧ PBox x1 b1 ⟨1, t, A, n, c, m, tp⟩) := fun v' x1 h1 h2 => by
    have hb : PBox x1 b1 ⟨1, t, A, n, c, m, tp⟩ := (h2.block b1 P1.out.lt (by have := E1.out; have := H.out.box.lt; omega) (fun q => by have := (H.out.own_gt b1 q).2; have := E1.out; omega)).trans P1.out
    exact ⟨hb.c0, cell_of_row _ b 2 _ _ _ h1.box, hb⟩
  refine wp_region_held_drew (S := fun w' => w'.cell? ⟨b1, 0, none⟩ = some (.int .i64 1) ∧ w'.cell? ⟨b, 2, none⟩ = some (way 61 b) ∧ PBox w' b1 ⟨1, t, A, n, c, m, tp⟩) (by kernel_rfl) S0.out (fun hHeld => ?_)
  refine wpAnyH_take (i := 0) (oi := { dst := some 4, op := Op.move (Operand.tmp 0), type := 85, pos := "prog.go:63", after := #[], guard := none }) (v := ?vq10) rfl (by kernel_rfl) (by kernel_rfl) (by kernel_rfl) (fun _ _ _ h => h) (Or.inl ⟨by rfl, ?hq10⟩) (by assumption) ?rq10
  case hq10 => (intro w hSw; (try dsimp only at hSw); go_simp; try with_reducible rfl)
  try simp only [Act.put, List.setIfInBounds_toArray, List.set_cons_zero, List.set_cons_succ]
  refine wpAnyH_take (i := 1) (oi := { dst := some 5, op := Op.fieldAddr 25 (Operand.tmp 3) 0, type := 0, pos := "prog.go:63", after := #[], guard := none }) (v := ?vq11) rfl (by kernel_rfl) (by kernel_rfl) (by kernel_rfl) (fun _ _ _ h => h) (Or.inl ⟨by rfl, ?hq11⟩) (by assumption) ?rq11
  case hq11 => (intro w hSw; (try dsimp only at hSw); go_simp; try with_reducible rfl)
  try simp only [Act.put, List.setIfInBounds_toArray, List.set_cons_zero, List.set_cons_succ]
  refine wpAnyH_take (i := 2) (oi := { dst := some 6, op := Op.load 3 (Operand.tmp 5), type := 3, pos := "prog.go:63", after := #[{ on := 1, ground := Ground.data }], guard := none }) (v := ?vq12) rfl (by kernel_rfl) (by kernel_rfl) (by kernel_rfl) (fun _ _ _ h => h) (Or.inl ⟨by rfl, ?hq12⟩) (by assumption) ?rq12
  case hq12 => (intro w hSw; (try dsimp only at hSw); go_simp; try with_reducible rfl)
  try simp only [Act.put, List.setIfInBounds_toArray, List.set_cons_zero, List.set_cons_succ]
  refine wpAnyH_take (i := 3) (oi := { dst := some 7, op := Op.nilCheck (Operand.tmp 4), type := 0, pos := "prog.go:63", after := #[{ on := 0, ground := Ground.data }], guard := none }) (v := ?vq13) rfl (by kernel_rfl) (by kernel_rfl) (by kernel_rfl) (fun _ _ _ h => h) (Or.inl ⟨by rfl, ?hq13⟩) (by assumption) ?rq13
  case hq13 => (intro w hSw; (try dsimp only at hSw); go_simp; try with_reducible rfl)
  try simp only [Act.put, List.setIfInBounds_toArray, List.set_cons_zero, List.set_cons_succ]
  refine wpAnyH_take (i := 4) (oi := { dst := some 8, op := Op.fieldAddr 90 (Operand.tmp 7) 1, type := 0, pos := "prog.go:63", after := #[{ on := 3, ground := Ground.data }], guard := none }) (v := ?vq14) rfl (by kernel_rfl) (by kernel_rfl) (by kernel_rfl) (fun _ _ _ h => h) (Or.inl ⟨by rfl, ?hq14⟩) (by assumption) ?rq14
  case hq14 => (intro w hSw; (try dsimp only at hSw); go_simp; try with_reducible rfl)
  try simp only [Act.put, List.setIfInBounds_toArray, List.set_cons_zero, List.set_cons_succ]
  refine wpAnyH_take (i := 5) (oi := { dst := some 9, op := Op.indexAddr 88 (Operand.tmp 8) (Operand.tmp 6), type := 0, pos := "prog.go:63", after := #[{ on := 4, ground := Ground.data }, { on := 2, ground := Ground.data }], guard := none }) (v := ?vq15) rfl (by kernel_rfl) (by kernel_rfl) (by kernel_rfl) (fun _ _ _ h => h) (Or.inl ⟨by rfl, ?hq15⟩) (by assumption) ?rq15
  case hq15 => (intro w hSw; (try dsimp only at hSw); go_simp; try with_reducible rfl)
  try simp only [Act.put, List.setIfInBounds_toArray, List.set_cons_zero, List.set_cons_succ]
  refine wpAnyH_take (i := 6) (oi := { dst := some 10, op := Op.load 87 (Operand.tmp 9), type := 87, pos := "prog.go:63", after := #[{ on := 5, ground := Ground.data }], guard := none }) (v := ?vq16) rfl (by kernel_rfl) (by kernel_rfl) (by kernel_rfl) (fun _ _ _ h => h) (Or.inl ⟨by rfl, ?hq16⟩) (by assumption) ?rq16
  case hq16 => (intro w hSw; (try dsimp only at hSw); go_simp; try with_reducible rfl)
  try simp only [Act.put, List.setIfInBounds_toArray, List.set_cons_zero, List.set_cons_succ]
  refine wpAnyH_take (i := 7) (oi := { dst := some 11, op := Op.load 25 (Operand.tmp 3), type := 25, pos := "prog.go:63", after := #[], guard := none }) (v := ?vq17) rfl (by kernel_rfl) (by kernel_rfl) (by kernel_rfl) (fun _ _ _ h => h) (Or.inl ⟨by rfl, ?hq17⟩) (by assumption) ?rq17
  case hq17 => (intro w hSw; (try dsimp only at hSw); refine run_load_op (.tmp 3) ?_ ?_ hSw.2.2.cells <;> rfl)
  try simp only [Act.put, List.setIfInBounds_toArray, List.set_cons_zero, List.set_cons_succ]
  refine wpAnyH_ready (rs := [8]) (by kernel_rfl) (by simp) ?_
  refine AllReadyH.cons (o := { dst := some 12, op := Op.call { callee := Callee.value (Operand.tmp 10), args := #[Operand.tmp 11], argTypes := #[25] }, type := 0, pos := "prog.go:63", after := #[{ on := 6, ground := Ground.data }, { on := 7, ground := Ground.data }], guard := none }) rfl (fun K hK => ?_) AllReadyH.nil
  go_simp
  (go_at_call 61; refine HC.out.mono ?_; rintro e x1 ⟨rfl, v', h1, h2⟩; have HH := Lib.hid h1; have GG := Lib.hid h2; have hS1 := KEEP.out v' x1 h1 h2; clear h1 h2)
  go_wp2_with fail
  refine hK.out _ _ ?_ (fun hHeld => ?_)
  · exact hS1
  clear hK K
  try simp only [Act.put, List.setIfInBounds_toArray, List.set_cons_zero, List.set_cons_succ]
  refine wpAnyH_done (by kernel_rfl) ?_ _
  go_wp2_with fail
  go_end0
  exact ⟨rfl, _, HH.out, (Grow.of L2.out).trans GG.out⟩
set_option maxHeartbeats 2000000 in
theorem lay_char {w : World} {b : Nat} {v : Value} {L N : List Inst} {t : ByteArray} {A : Option Addr} {n c : Nat} {m tp : Int} {p : Piece} (h : Lay w b v L) (hp : PAt (fun k => k < b) w ⟨2, t, A, n, c, m, tp⟩ p) (hC : ∀ w, Does 62 b v L ⟨2, t, A, n, c, m, tp⟩ p N w) : Calls Tryz.prog 47 #[.pointer (some ⟨b, 0, none⟩), .agg (rawA ⟨2, t, A, n, c, m, tp⟩)] w (Laid b v w N) := by
  have H := Lib.hid h
  have HP := Lib.hid hp
  have HX := Lib.hid hC
  clear h hp hC
  go_enter Tryz.func47, Tryz.ntmps47
  go_wp2_with (first
    | (refine box_arg (r := ⟨2, t, A, n, c, m, tp⟩) rfl (.tmp 1) rfl rfl ?_; intro w1 b1 e1 p1 l1 z1; have P1 := Lib.hid p1; have L1 := Lib.hid l1; have E1 := Lib.hid e1; clear e1 p1 l1 z1))
  have L2 := Lib.hid (on L1.out (below_draws w1 1))
  have H2 := Lib.hid (H.out.below L2.out)
  have HC := Lib.hid (HX.out (w1.drewN 1) H2.out (below_piece L2.out H.out.box.lt HP.out))
  have S0 : Hid ((w1.drewN 1).cell? ⟨b1, 0, none⟩ = some (.int .i64 2) ∧ (w1.drewN 1).cell? ⟨b, 3, none⟩ = some (way 62 b) ∧ PBox (w1.drewN 1) b1 ⟨2, t, A, n, c, m, tp⟩) := ⟨P1.out.c0, cell_of_row _ b 3 _ _ _ H2.out.box, P1.out⟩
  have KEEP : Hid (∀ v' x1, Lay x1 b v' N → Grow b v v' (w1.drewN 1) x1 → x1.cell? ⟨b1, 0, none⟩ = some (.int .i64 2) ∧ x1.cell? ⟨b, 3, none⟩ = some (way 62 b) ∧ PBox x1 b1 ⟨2, t, A, n, c, m, tp⟩) := fun v' x1 h1 h2 => by
    have hb : PBox x1 b1 ⟨2, t, A, n, c, m, tp⟩ := (h2.block b1 P1.out.lt (by have := E1.out; have := H.out.box.lt; omega) (fun q => by have := (H.out.own_gt b1 q).2; have := E1.out; omega)).trans P1.out
    exact ⟨hb.c0, cell_of_row _ b 3 _ _ _ h1.box, hb⟩
  refine wp_region_held_drew (S := fun w' => w'.cell? ⟨b1, 0, none⟩ = some (.int .i64 2) ∧ w'.cell? ⟨b, 3, none⟩ = some (way 62 b) ∧ PBox w' b1 ⟨2, t, A, n, c, m, tp⟩) (by kernel_rfl) S0.out (fun hHeld => ?_)
  refine wpAnyH_take (i := 0) (oi := { dst := some 4, op := Op.move (Operand.tmp 0), type := 85, pos := "prog.go:63", after := #[], guard := none }) (v := ?vq20) rfl (by kernel_rfl) (by kernel_rfl) (by kernel_rfl) (fun _ _ _ h => h) (Or.inl ⟨by rfl, ?hq20⟩) (by assumption) ?rq20
  case hq20 => (intro w hSw; (try dsimp only at hSw); go_simp; try with_reducible rfl)
  try simp only [Act.put, List.setIfInBounds_toArray, List.set_cons_zero, List.set_cons_succ]
  refine wpAnyH_take (i := 1) (oi := { dst := some 5, op := Op.fieldAddr 25 (Operand.tmp 3) 0, type := 0, pos := "prog.go:63", after := #[], guard := none }) (v := ?vq21) rfl (by kernel_rfl) (by kernel_rfl) (by kernel_rfl) (fun _ _ _ h => h) (Or.inl ⟨by rfl, ?hq21⟩) (by assumption) ?rq21
  case hq21 => (intro w hSw; (try dsimp only at hSw); go_simp; try with_reducible rfl)
  try simp only [Act.put, List.setIfInBounds_toArray, List.set_cons_zero, List.set_cons_succ]
  refine wpAnyH_take (i := 2) (oi := { dst := some 6, op := Op.load 3 (Operand.tmp 5), type := 3, pos := "prog.go:63", after := #[{ on := 1, ground := Ground.data }], guard := none }) (v := ?vq22) rfl (by kernel_rfl) (by kernel_rfl) (by kernel_rfl) (fun _ _ _ h => h) (Or.inl ⟨by rfl, ?hq22⟩) (by assumption) ?rq22
  case hq22 => (intro w hSw; (try dsimp only at hSw); go_simp; try with_reducible rfl)
  try simp only [Act.put, List.setIfInBounds_toArray, List.set_cons_zero, List.set_cons_succ]
  refine wpAnyH_take (i := 3) (oi := { dst := some 7, op := Op.nilCheck (Operand.tmp 4), type := 0, pos := "prog.go:63", after := #[{ on := 0, ground := Ground.data }], guard := none }) (v := ?vq23) rfl (by kernel_rfl) (by kernel_rfl) (by kernel_rfl) (fun _ _ _ h => h) (Or.inl ⟨by rfl, ?hq23⟩) (by assumption) ?rq23
  case hq23 => (intro w hSw; (try dsimp only at hSw); go_simp; try with_reducible rfl)
  try simp only [Act.put, List.setIfInBounds_toArray, List.set_cons_zero, List.set_cons_succ]
  refine wpAnyH_take (i := 4) (oi := { dst := some 8, op := Op.fieldAddr 90 (Operand.tmp 7) 1, type := 0, pos := "prog.go:63", after := #[{ on := 3, ground := Ground.data }], guard := none }) (v := ?vq24) rfl (by kernel_rfl) (by kernel_rfl) (by kernel_rfl) (fun _ _ _ h => h) (Or.inl ⟨by rfl, ?hq24⟩) (by assumption) ?rq24
  case hq24 => (intro w hSw; (try dsimp only at hSw); go_simp; try with_reducible rfl)
  try simp only [Act.put, List.setIfInBounds_toArray, List.set_cons_zero, List.set_cons_succ]
  refine wpAnyH_take (i := 5) (oi := { dst := some 9, op := Op.indexAddr 88 (Operand.tmp 8) (Operand.tmp 6), type := 0, pos := "prog.go:63", after := #[{ on := 4, ground := Ground.data }, { on := 2, ground := Ground.data }], guard := none }) (v := ?vq25) rfl (by kernel_rfl) (by kernel_rfl) (by kernel_rfl) (fun _ _ _ h => h) (Or.inl ⟨by rfl, ?hq25⟩) (by assumption) ?rq25
  case hq25 => (intro w hSw; (try dsimp only at hSw); go_simp; try with_reducible rfl)
  try simp only [Act.put, List.setIfInBounds_toArray, List.set_cons_zero, List.set_cons_succ]
  refine wpAnyH_take (i := 6) (oi := { dst := some 10, op := Op.load 87 (Operand.tmp 9), type := 87, pos := "prog.go:63", after := #[{ on := 5, ground := Ground.data }], guard := none }) (v := ?vq26) rfl (by kernel_rfl) (by kernel_rfl) (by kernel_rfl) (fun _ _ _ h => h) (Or.inl ⟨by rfl, ?hq26⟩) (by assumption) ?rq26
  case hq26 => (intro w hSw; (try dsimp only at hSw); go_simp; try with_reducible rfl)
  try simp only [Act.put, List.setIfInBounds_toArray, List.set_cons_zero, List.set_cons_succ]
  refine wpAnyH_take (i := 7) (oi := { dst := some 11, op := Op.load 25 (Operand.tmp 3), type := 25, pos := "prog.go:63", after := #[], guard := none }) (v := ?vq27) rfl (by kernel_rfl) (by kernel_rfl) (by kernel_rfl) (fun _ _ _ h => h) (Or.inl ⟨by rfl, ?hq27⟩) (by assumption) ?rq27
  case hq27 => (intro w hSw; (try dsimp only at hSw); refine run_load_op (.tmp 3) ?_ ?_ hSw.2.2.cells <;> rfl)
  try simp only [Act.put, List.setIfInBounds_toArray, List.set_cons_zero, List.set_cons_succ]
  refine wpAnyH_ready (rs := [8]) (by kernel_rfl) (by simp) ?_
  refine AllReadyH.cons (o := { dst := some 12, op := Op.call { callee := Callee.value (Operand.tmp 10), args := #[Operand.tmp 11], argTypes := #[25] }, type := 0, pos := "prog.go:63", after := #[{ on := 6, ground := Ground.data }, { on := 7, ground := Ground.data }], guard := none }) rfl (fun K hK => ?_) AllReadyH.nil
  go_simp
  (go_at_call 62; refine HC.out.mono ?_; rintro e x1 ⟨rfl, v', h1, h2⟩; have HH := Lib.hid h1; have GG := Lib.hid h2; have hS1 := KEEP.out v' x1 h1 h2; clear h1 h2)
  go_wp2_with fail
  refine hK.out _ _ ?_ (fun hHeld => ?_)
  · exact hS1
  clear hK K
  try simp only [Act.put, List.setIfInBounds_toArray, List.set_cons_zero, List.set_cons_succ]
  refine wpAnyH_done (by kernel_rfl) ?_ _
  go_wp2_with fail
  go_end0
  exact ⟨rfl, _, HH.out, (Grow.of L2.out).trans GG.out⟩
set_option maxHeartbeats 2000000 in
theorem lay_any {w : World} {b : Nat} {v : Value} {L N : List Inst} {t : ByteArray} {A : Option Addr} {n c : Nat} {m tp : Int} {p : Piece} (h : Lay w b v L) (hp : PAt (fun k => k < b) w ⟨3, t, A, n, c, m, tp⟩ p) (hC : ∀ w, Does 63 b v L ⟨3, t, A, n, c, m, tp⟩ p N w) : Calls Tryz.prog 47 #[.pointer (some ⟨b, 0, none⟩), .agg (rawA ⟨3, t, A, n, c, m, tp⟩)] w (Laid b v w N) := by
  have H := Lib.hid h
  have HP := Lib.hid hp
  have HX := Lib.hid hC
  clear h hp hC
  go_enter Tryz.func47, Tryz.ntmps47
  go_wp2_with (first
    | (refine box_arg (r := ⟨3, t, A, n, c, m, tp⟩) rfl (.tmp 1) rfl rfl ?_; intro w1 b1 e1 p1 l1 z1; have P1 := Lib.hid p1; have L1 := Lib.hid l1; have E1 := Lib.hid e1; clear e1 p1 l1 z1))
  have L2 := Lib.hid (on L1.out (below_draws w1 1))
  have H2 := Lib.hid (H.out.below L2.out)
  have HC := Lib.hid (HX.out (w1.drewN 1) H2.out (below_piece L2.out H.out.box.lt HP.out))
  have S0 : Hid ((w1.drewN 1).cell? ⟨b1, 0, none⟩ = some (.int .i64 3) ∧ (w1.drewN 1).cell? ⟨b, 4, none⟩ = some (way 63 b) ∧ PBox (w1.drewN 1) b1 ⟨3, t, A, n, c, m, tp⟩) := ⟨P1.out.c0, cell_of_row _ b 4 _ _ _ H2.out.box, P1.out⟩
  have KEEP : Hid (∀ v' x1, Lay x1 b v' N → Grow b v v' (w1.drewN 1) x1 → x1.cell? ⟨b1, 0, none⟩ = some (.int .i64 3) ∧ x1.cell? ⟨b, 4, none⟩ = some (way 63 b) ∧ PBox x1 b1 ⟨3, t, A, n, c, m, tp⟩) := fun v' x1 h1 h2 => by
    have hb : PBox x1 b1 ⟨3, t, A, n, c, m, tp⟩ := (h2.block b1 P1.out.lt (by have := E1.out; have := H.out.box.lt; omega) (fun q => by have := (H.out.own_gt b1 q).2; have := E1.out; omega)).trans P1.out
    exact ⟨hb.c0, cell_of_row _ b 4 _ _ _ h1.box, hb⟩
  refine wp_region_held_drew (S := fun w' => w'.cell? ⟨b1, 0, none⟩ = some (.int .i64 3) ∧ w'.cell? ⟨b, 4, none⟩ = some (way 63 b) ∧ PBox w' b1 ⟨3, t, A, n, c, m, tp⟩) (by kernel_rfl) S0.out (fun hHeld => ?_)
  refine wpAnyH_take (i := 0) (oi := { dst := some 4, op := Op.move (Operand.tmp 0), type := 85, pos := "prog.go:63", after := #[], guard := none }) (v := ?vq30) rfl (by kernel_rfl) (by kernel_rfl) (by kernel_rfl) (fun _ _ _ h => h) (Or.inl ⟨by rfl, ?hq30⟩) (by assumption) ?rq30
  case hq30 => (intro w hSw; (try dsimp only at hSw); go_simp; try with_reducible rfl)
  try simp only [Act.put, List.setIfInBounds_toArray, List.set_cons_zero, List.set_cons_succ]
  refine wpAnyH_take (i := 1) (oi := { dst := some 5, op := Op.fieldAddr 25 (Operand.tmp 3) 0, type := 0, pos := "prog.go:63", after := #[], guard := none }) (v := ?vq31) rfl (by kernel_rfl) (by kernel_rfl) (by kernel_rfl) (fun _ _ _ h => h) (Or.inl ⟨by rfl, ?hq31⟩) (by assumption) ?rq31
  case hq31 => (intro w hSw; (try dsimp only at hSw); go_simp; try with_reducible rfl)
  try simp only [Act.put, List.setIfInBounds_toArray, List.set_cons_zero, List.set_cons_succ]
  refine wpAnyH_take (i := 2) (oi := { dst := some 6, op := Op.load 3 (Operand.tmp 5), type := 3, pos := "prog.go:63", after := #[{ on := 1, ground := Ground.data }], guard := none }) (v := ?vq32) rfl (by kernel_rfl) (by kernel_rfl) (by kernel_rfl) (fun _ _ _ h => h) (Or.inl ⟨by rfl, ?hq32⟩) (by assumption) ?rq32
  case hq32 => (intro w hSw; (try dsimp only at hSw); go_simp; try with_reducible rfl)
  try simp only [Act.put, List.setIfInBounds_toArray, List.set_cons_zero, List.set_cons_succ]
  refine wpAnyH_take (i := 3) (oi := { dst := some 7, op := Op.nilCheck (Operand.tmp 4), type := 0, pos := "prog.go:63", after := #[{ on := 0, ground := Ground.data }], guard := none }) (v := ?vq33) rfl (by kernel_rfl) (by kernel_rfl) (by kernel_rfl) (fun _ _ _ h => h) (Or.inl ⟨by rfl, ?hq33⟩) (by assumption) ?rq33
  case hq33 => (intro w hSw; (try dsimp only at hSw); go_simp; try with_reducible rfl)
  try simp only [Act.put, List.setIfInBounds_toArray, List.set_cons_zero, List.set_cons_succ]
  refine wpAnyH_take (i := 4) (oi := { dst := some 8, op := Op.fieldAddr 90 (Operand.tmp 7) 1, type := 0, pos := "prog.go:63", after := #[{ on := 3, ground := Ground.data }], guard := none }) (v := ?vq34) rfl (by kernel_rfl) (by kernel_rfl) (by kernel_rfl) (fun _ _ _ h => h) (Or.inl ⟨by rfl, ?hq34⟩) (by assumption) ?rq34
  case hq34 => (intro w hSw; (try dsimp only at hSw); go_simp; try with_reducible rfl)
  try simp only [Act.put, List.setIfInBounds_toArray, List.set_cons_zero, List.set_cons_succ]
  refine wpAnyH_take (i := 5) (oi := { dst := some 9, op := Op.indexAddr 88 (Operand.tmp 8) (Operand.tmp 6), type := 0, pos := "prog.go:63", after := #[{ on := 4, ground := Ground.data }, { on := 2, ground := Ground.data }], guard := none }) (v := ?vq35) rfl (by kernel_rfl) (by kernel_rfl) (by kernel_rfl) (fun _ _ _ h => h) (Or.inl ⟨by rfl, ?hq35⟩) (by assumption) ?rq35
  case hq35 => (intro w hSw; (try dsimp only at hSw); go_simp; try with_reducible rfl)
  try simp only [Act.put, List.setIfInBounds_toArray, List.set_cons_zero, List.set_cons_succ]
  refine wpAnyH_take (i := 6) (oi := { dst := some 10, op := Op.load 87 (Operand.tmp 9), type := 87, pos := "prog.go:63", after := #[{ on := 5, ground := Ground.data }], guard := none }) (v := ?vq36) rfl (by kernel_rfl) (by kernel_rfl) (by kernel_rfl) (fun _ _ _ h => h) (Or.inl ⟨by rfl, ?hq36⟩) (by assumption) ?rq36
  case hq36 => (intro w hSw; (try dsimp only at hSw); go_simp; try with_reducible rfl)
  try simp only [Act.put, List.setIfInBounds_toArray, List.set_cons_zero, List.set_cons_succ]
  refine wpAnyH_take (i := 7) (oi := { dst := some 11, op := Op.load 25 (Operand.tmp 3), type := 25, pos := "prog.go:63", after := #[], guard := none }) (v := ?vq37) rfl (by kernel_rfl) (by kernel_rfl) (by kernel_rfl) (fun _ _ _ h => h) (Or.inl ⟨by rfl, ?hq37⟩) (by assumption) ?rq37
  case hq37 => (intro w hSw; (try dsimp only at hSw); refine run_load_op (.tmp 3) ?_ ?_ hSw.2.2.cells <;> rfl)
  try simp only [Act.put, List.setIfInBounds_toArray, List.set_cons_zero, List.set_cons_succ]
  refine wpAnyH_ready (rs := [8]) (by kernel_rfl) (by simp) ?_
  refine AllReadyH.cons (o := { dst := some 12, op := Op.call { callee := Callee.value (Operand.tmp 10), args := #[Operand.tmp 11], argTypes := #[25] }, type := 0, pos := "prog.go:63", after := #[{ on := 6, ground := Ground.data }, { on := 7, ground := Ground.data }], guard := none }) rfl (fun K hK => ?_) AllReadyH.nil
  go_simp
  (go_at_call 63; refine HC.out.mono ?_; rintro e x1 ⟨rfl, v', h1, h2⟩; have HH := Lib.hid h1; have GG := Lib.hid h2; have hS1 := KEEP.out v' x1 h1 h2; clear h1 h2)
  go_wp2_with fail
  refine hK.out _ _ ?_ (fun hHeld => ?_)
  · exact hS1
  clear hK K
  try simp only [Act.put, List.setIfInBounds_toArray, List.set_cons_zero, List.set_cons_succ]
  refine wpAnyH_done (by kernel_rfl) ?_ _
  go_wp2_with fail
  go_end0
  exact ⟨rfl, _, HH.out, (Grow.of L2.out).trans GG.out⟩
set_option maxHeartbeats 2000000 in
theorem lay_set {w : World} {b : Nat} {v : Value} {L N : List Inst} {t : ByteArray} {A : Option Addr} {n c : Nat} {m tp : Int} {p : Piece} (h : Lay w b v L) (hp : PAt (fun k => k < b) w ⟨4, t, A, n, c, m, tp⟩ p) (hC : ∀ w, Does 64 b v L ⟨4, t, A, n, c, m, tp⟩ p N w) : Calls Tryz.prog 47 #[.pointer (some ⟨b, 0, none⟩), .agg (rawA ⟨4, t, A, n, c, m, tp⟩)] w (Laid b v w N) := by
  have H := Lib.hid h
  have HP := Lib.hid hp
  have HX := Lib.hid hC
  clear h hp hC
  go_enter Tryz.func47, Tryz.ntmps47
  go_wp2_with (first
    | (refine box_arg (r := ⟨4, t, A, n, c, m, tp⟩) rfl (.tmp 1) rfl rfl ?_; intro w1 b1 e1 p1 l1 z1; have P1 := Lib.hid p1; have L1 := Lib.hid l1; have E1 := Lib.hid e1; clear e1 p1 l1 z1))
  have L2 := Lib.hid (on L1.out (below_draws w1 1))
  have H2 := Lib.hid (H.out.below L2.out)
  have HC := Lib.hid (HX.out (w1.drewN 1) H2.out (below_piece L2.out H.out.box.lt HP.out))
  have S0 : Hid ((w1.drewN 1).cell? ⟨b1, 0, none⟩ = some (.int .i64 4) ∧ (w1.drewN 1).cell? ⟨b, 5, none⟩ = some (way 64 b) ∧ PBox (w1.drewN 1) b1 ⟨4, t, A, n, c, m, tp⟩) := ⟨P1.out.c0, cell_of_row _ b 5 _ _ _ H2.out.box, P1.out⟩
  have KEEP : Hid (∀ v' x1, Lay x1 b v' N → Grow b v v' (w1.drewN 1) x1 → x1.cell? ⟨b1, 0, none⟩ = some (.int .i64 4) ∧ x1.cell? ⟨b, 5, none⟩ = some (way 64 b) ∧ PBox x1 b1 ⟨4, t, A, n, c, m, tp⟩) := fun v' x1 h1 h2 => by
    have hb : PBox x1 b1 ⟨4, t, A, n, c, m, tp⟩ := (h2.block b1 P1.out.lt (by have := E1.out; have := H.out.box.lt; omega) (fun q => by have := (H.out.own_gt b1 q).2; have := E1.out; omega)).trans P1.out
    exact ⟨hb.c0, cell_of_row _ b 5 _ _ _ h1.box, hb⟩
  refine wp_region_held_drew (S := fun w' => w'.cell? ⟨b1, 0, none⟩ = some (.int .i64 4) ∧ w'.cell? ⟨b, 5, none⟩ = some (way 64 b) ∧ PBox w' b1 ⟨4, t, A, n, c, m, tp⟩) (by kernel_rfl) S0.out (fun hHeld => ?_)
  refine wpAnyH_take (i := 0) (oi := { dst := some 4, op := Op.move (Operand.tmp 0), type := 85, pos := "prog.go:63", after := #[], guard := none }) (v := ?vq40) rfl (by kernel_rfl) (by kernel_rfl) (by kernel_rfl) (fun _ _ _ h => h) (Or.inl ⟨by rfl, ?hq40⟩) (by assumption) ?rq40
  case hq40 => (intro w hSw; (try dsimp only at hSw); go_simp; try with_reducible rfl)
  try simp only [Act.put, List.setIfInBounds_toArray, List.set_cons_zero, List.set_cons_succ]
  refine wpAnyH_take (i := 1) (oi := { dst := some 5, op := Op.fieldAddr 25 (Operand.tmp 3) 0, type := 0, pos := "prog.go:63", after := #[], guard := none }) (v := ?vq41) rfl (by kernel_rfl) (by kernel_rfl) (by kernel_rfl) (fun _ _ _ h => h) (Or.inl ⟨by rfl, ?hq41⟩) (by assumption) ?rq41
  case hq41 => (intro w hSw; (try dsimp only at hSw); go_simp; try with_reducible rfl)
  try simp only [Act.put, List.setIfInBounds_toArray, List.set_cons_zero, List.set_cons_succ]
  refine wpAnyH_take (i := 2) (oi := { dst := some 6, op := Op.load 3 (Operand.tmp 5), type := 3, pos := "prog.go:63", after := #[{ on := 1, ground := Ground.data }], guard := none }) (v := ?vq42) rfl (by kernel_rfl) (by kernel_rfl) (by kernel_rfl) (fun _ _ _ h => h) (Or.inl ⟨by rfl, ?hq42⟩) (by assumption) ?rq42
  case hq42 => (intro w hSw; (try dsimp only at hSw); go_simp; try with_reducible rfl)
  try simp only [Act.put, List.setIfInBounds_toArray, List.set_cons_zero, List.set_cons_succ]
  refine wpAnyH_take (i := 3) (oi := { dst := some 7, op := Op.nilCheck (Operand.tmp 4), type := 0, pos := "prog.go:63", after := #[{ on := 0, ground := Ground.data }], guard := none }) (v := ?vq43) rfl (by kernel_rfl) (by kernel_rfl) (by kernel_rfl) (fun _ _ _ h => h) (Or.inl ⟨by rfl, ?hq43⟩) (by assumption) ?rq43
  case hq43 => (intro w hSw; (try dsimp only at hSw); go_simp; try with_reducible rfl)
  try simp only [Act.put, List.setIfInBounds_toArray, List.set_cons_zero, List.set_cons_succ]
  refine wpAnyH_take (i := 4) (oi := { dst := some 8, op := Op.fieldAddr 90 (Operand.tmp 7) 1, type := 0, pos := "prog.go:63", after := #[{ on := 3, ground := Ground.data }], guard := none }) (v := ?vq44) rfl (by kernel_rfl) (by kernel_rfl) (by kernel_rfl) (fun _ _ _ h => h) (Or.inl ⟨by rfl, ?hq44⟩) (by assumption) ?rq44
  case hq44 => (intro w hSw; (try dsimp only at hSw); go_simp; try with_reducible rfl)
  try simp only [Act.put, List.setIfInBounds_toArray, List.set_cons_zero, List.set_cons_succ]
  refine wpAnyH_take (i := 5) (oi := { dst := some 9, op := Op.indexAddr 88 (Operand.tmp 8) (Operand.tmp 6), type := 0, pos := "prog.go:63", after := #[{ on := 4, ground := Ground.data }, { on := 2, ground := Ground.data }], guard := none }) (v := ?vq45) rfl (by kernel_rfl) (by kernel_rfl) (by kernel_rfl) (fun _ _ _ h => h) (Or.inl ⟨by rfl, ?hq45⟩) (by assumption) ?rq45
  case hq45 => (intro w hSw; (try dsimp only at hSw); go_simp; try with_reducible rfl)
  try simp only [Act.put, List.setIfInBounds_toArray, List.set_cons_zero, List.set_cons_succ]
  refine wpAnyH_take (i := 6) (oi := { dst := some 10, op := Op.load 87 (Operand.tmp 9), type := 87, pos := "prog.go:63", after := #[{ on := 5, ground := Ground.data }], guard := none }) (v := ?vq46) rfl (by kernel_rfl) (by kernel_rfl) (by kernel_rfl) (fun _ _ _ h => h) (Or.inl ⟨by rfl, ?hq46⟩) (by assumption) ?rq46
  case hq46 => (intro w hSw; (try dsimp only at hSw); go_simp; try with_reducible rfl)
  try simp only [Act.put, List.setIfInBounds_toArray, List.set_cons_zero, List.set_cons_succ]
  refine wpAnyH_take (i := 7) (oi := { dst := some 11, op := Op.load 25 (Operand.tmp 3), type := 25, pos := "prog.go:63", after := #[], guard := none }) (v := ?vq47) rfl (by kernel_rfl) (by kernel_rfl) (by kernel_rfl) (fun _ _ _ h => h) (Or.inl ⟨by rfl, ?hq47⟩) (by assumption) ?rq47
  case hq47 => (intro w hSw; (try dsimp only at hSw); refine run_load_op (.tmp 3) ?_ ?_ hSw.2.2.cells <;> rfl)
  try simp only [Act.put, List.setIfInBounds_toArray, List.set_cons_zero, List.set_cons_succ]
  refine wpAnyH_ready (rs := [8]) (by kernel_rfl) (by simp) ?_
  refine AllReadyH.cons (o := { dst := some 12, op := Op.call { callee := Callee.value (Operand.tmp 10), args := #[Operand.tmp 11], argTypes := #[25] }, type := 0, pos := "prog.go:63", after := #[{ on := 6, ground := Ground.data }, { on := 7, ground := Ground.data }], guard := none }) rfl (fun K hK => ?_) AllReadyH.nil
  go_simp
  (go_at_call 64; refine HC.out.mono ?_; rintro e x1 ⟨rfl, v', h1, h2⟩; have HH := Lib.hid h1; have GG := Lib.hid h2; have hS1 := KEEP.out v' x1 h1 h2; clear h1 h2)
  go_wp2_with fail
  refine hK.out _ _ ?_ (fun hHeld => ?_)
  · exact hS1
  clear hK K
  try simp only [Act.put, List.setIfInBounds_toArray, List.set_cons_zero, List.set_cons_succ]
  refine wpAnyH_done (by kernel_rfl) ?_ _
  go_wp2_with fail
  go_end0
  exact ⟨rfl, _, HH.out, (Grow.of L2.out).trans GG.out⟩
set_option maxHeartbeats 2000000 in
theorem lay_begin {w : World} {b : Nat} {v : Value} {L N : List Inst} {t : ByteArray} {A : Option Addr} {n c : Nat} {m tp : Int} {p : Piece} (h : Lay w b v L) (hp : PAt (fun k => k < b) w ⟨5, t, A, n, c, m, tp⟩ p) (hC : ∀ w, Does 65 b v L ⟨5, t, A, n, c, m, tp⟩ p N w) : Calls Tryz.prog 47 #[.pointer (some ⟨b, 0, none⟩), .agg (rawA ⟨5, t, A, n, c, m, tp⟩)] w (Laid b v w N) := by
  have H := Lib.hid h
  have HP := Lib.hid hp
  have HX := Lib.hid hC
  clear h hp hC
  go_enter Tryz.func47, Tryz.ntmps47
  go_wp2_with (first
    | (refine box_arg (r := ⟨5, t, A, n, c, m, tp⟩) rfl (.tmp 1) rfl rfl ?_; intro w1 b1 e1 p1 l1 z1; have P1 := Lib.hid p1; have L1 := Lib.hid l1; have E1 := Lib.hid e1; clear e1 p1 l1 z1))
  have L2 := Lib.hid (on L1.out (below_draws w1 1))
  have H2 := Lib.hid (H.out.below L2.out)
  have HC := Lib.hid (HX.out (w1.drewN 1) H2.out (below_piece L2.out H.out.box.lt HP.out))
  have S0 : Hid ((w1.drewN 1).cell? ⟨b1, 0, none⟩ = some (.int .i64 5) ∧ (w1.drewN 1).cell? ⟨b, 6, none⟩ = some (way 65 b) ∧ PBox (w1.drewN 1) b1 ⟨5, t, A, n, c, m, tp⟩) := ⟨P1.out.c0, cell_of_row _ b 6 _ _ _ H2.out.box, P1.out⟩
  have KEEP : Hid (∀ v' x1, Lay x1 b v' N → Grow b v v' (w1.drewN 1) x1 → x1.cell? ⟨b1, 0, none⟩ = some (.int .i64 5) ∧ x1.cell? ⟨b, 6, none⟩ = some (way 65 b) ∧ PBox x1 b1 ⟨5, t, A, n, c, m, tp⟩) := fun v' x1 h1 h2 => by
    have hb : PBox x1 b1 ⟨5, t, A, n, c, m, tp⟩ := (h2.block b1 P1.out.lt (by have := E1.out; have := H.out.box.lt; omega) (fun q => by have := (H.out.own_gt b1 q).2; have := E1.out; omega)).trans P1.out
    exact ⟨hb.c0, cell_of_row _ b 6 _ _ _ h1.box, hb⟩
  refine wp_region_held_drew (S := fun w' => w'.cell? ⟨b1, 0, none⟩ = some (.int .i64 5) ∧ w'.cell? ⟨b, 6, none⟩ = some (way 65 b) ∧ PBox w' b1 ⟨5, t, A, n, c, m, tp⟩) (by kernel_rfl) S0.out (fun hHeld => ?_)
  refine wpAnyH_take (i := 0) (oi := { dst := some 4, op := Op.move (Operand.tmp 0), type := 85, pos := "prog.go:63", after := #[], guard := none }) (v := ?vq50) rfl (by kernel_rfl) (by kernel_rfl) (by kernel_rfl) (fun _ _ _ h => h) (Or.inl ⟨by rfl, ?hq50⟩) (by assumption) ?rq50
  case hq50 => (intro w hSw; (try dsimp only at hSw); go_simp; try with_reducible rfl)
  try simp only [Act.put, List.setIfInBounds_toArray, List.set_cons_zero, List.set_cons_succ]
  refine wpAnyH_take (i := 1) (oi := { dst := some 5, op := Op.fieldAddr 25 (Operand.tmp 3) 0, type := 0, pos := "prog.go:63", after := #[], guard := none }) (v := ?vq51) rfl (by kernel_rfl) (by kernel_rfl) (by kernel_rfl) (fun _ _ _ h => h) (Or.inl ⟨by rfl, ?hq51⟩) (by assumption) ?rq51
  case hq51 => (intro w hSw; (try dsimp only at hSw); go_simp; try with_reducible rfl)
  try simp only [Act.put, List.setIfInBounds_toArray, List.set_cons_zero, List.set_cons_succ]
  refine wpAnyH_take (i := 2) (oi := { dst := some 6, op := Op.load 3 (Operand.tmp 5), type := 3, pos := "prog.go:63", after := #[{ on := 1, ground := Ground.data }], guard := none }) (v := ?vq52) rfl (by kernel_rfl) (by kernel_rfl) (by kernel_rfl) (fun _ _ _ h => h) (Or.inl ⟨by rfl, ?hq52⟩) (by assumption) ?rq52
  case hq52 => (intro w hSw; (try dsimp only at hSw); go_simp; try with_reducible rfl)
  try simp only [Act.put, List.setIfInBounds_toArray, List.set_cons_zero, List.set_cons_succ]
  refine wpAnyH_take (i := 3) (oi := { dst := some 7, op := Op.nilCheck (Operand.tmp 4), type := 0, pos := "prog.go:63", after := #[{ on := 0, ground := Ground.data }], guard := none }) (v := ?vq53) rfl (by kernel_rfl) (by kernel_rfl) (by kernel_rfl) (fun _ _ _ h => h) (Or.inl ⟨by rfl, ?hq53⟩) (by assumption) ?rq53
  case hq53 => (intro w hSw; (try dsimp only at hSw); go_simp; try with_reducible rfl)
  try simp only [Act.put, List.setIfInBounds_toArray, List.set_cons_zero, List.set_cons_succ]
  refine wpAnyH_take (i := 4) (oi := { dst := some 8, op := Op.fieldAddr 90 (Operand.tmp 7) 1, type := 0, pos := "prog.go:63", after := #[{ on := 3, ground := Ground.data }], guard := none }) (v := ?vq54) rfl (by kernel_rfl) (by kernel_rfl) (by kernel_rfl) (fun _ _ _ h => h) (Or.inl ⟨by rfl, ?hq54⟩) (by assumption) ?rq54
  case hq54 => (intro w hSw; (try dsimp only at hSw); go_simp; try with_reducible rfl)
  try simp only [Act.put, List.setIfInBounds_toArray, List.set_cons_zero, List.set_cons_succ]
  refine wpAnyH_take (i := 5) (oi := { dst := some 9, op := Op.indexAddr 88 (Operand.tmp 8) (Operand.tmp 6), type := 0, pos := "prog.go:63", after := #[{ on := 4, ground := Ground.data }, { on := 2, ground := Ground.data }], guard := none }) (v := ?vq55) rfl (by kernel_rfl) (by kernel_rfl) (by kernel_rfl) (fun _ _ _ h => h) (Or.inl ⟨by rfl, ?hq55⟩) (by assumption) ?rq55
  case hq55 => (intro w hSw; (try dsimp only at hSw); go_simp; try with_reducible rfl)
  try simp only [Act.put, List.setIfInBounds_toArray, List.set_cons_zero, List.set_cons_succ]
  refine wpAnyH_take (i := 6) (oi := { dst := some 10, op := Op.load 87 (Operand.tmp 9), type := 87, pos := "prog.go:63", after := #[{ on := 5, ground := Ground.data }], guard := none }) (v := ?vq56) rfl (by kernel_rfl) (by kernel_rfl) (by kernel_rfl) (fun _ _ _ h => h) (Or.inl ⟨by rfl, ?hq56⟩) (by assumption) ?rq56
  case hq56 => (intro w hSw; (try dsimp only at hSw); go_simp; try with_reducible rfl)
  try simp only [Act.put, List.setIfInBounds_toArray, List.set_cons_zero, List.set_cons_succ]
  refine wpAnyH_take (i := 7) (oi := { dst := some 11, op := Op.load 25 (Operand.tmp 3), type := 25, pos := "prog.go:63", after := #[], guard := none }) (v := ?vq57) rfl (by kernel_rfl) (by kernel_rfl) (by kernel_rfl) (fun _ _ _ h => h) (Or.inl ⟨by rfl, ?hq57⟩) (by assumption) ?rq57
  case hq57 => (intro w hSw; (try dsimp only at hSw); refine run_load_op (.tmp 3) ?_ ?_ hSw.2.2.cells <;> rfl)
  try simp only [Act.put, List.setIfInBounds_toArray, List.set_cons_zero, List.set_cons_succ]
  refine wpAnyH_ready (rs := [8]) (by kernel_rfl) (by simp) ?_
  refine AllReadyH.cons (o := { dst := some 12, op := Op.call { callee := Callee.value (Operand.tmp 10), args := #[Operand.tmp 11], argTypes := #[25] }, type := 0, pos := "prog.go:63", after := #[{ on := 6, ground := Ground.data }, { on := 7, ground := Ground.data }], guard := none }) rfl (fun K hK => ?_) AllReadyH.nil
  go_simp
  (go_at_call 65; refine HC.out.mono ?_; rintro e x1 ⟨rfl, v', h1, h2⟩; have HH := Lib.hid h1; have GG := Lib.hid h2; have hS1 := KEEP.out v' x1 h1 h2; clear h1 h2)
  go_wp2_with fail
  refine hK.out _ _ ?_ (fun hHeld => ?_)
  · exact hS1
  clear hK K
  try simp only [Act.put, List.setIfInBounds_toArray, List.set_cons_zero, List.set_cons_succ]
  refine wpAnyH_done (by kernel_rfl) ?_ _
  go_wp2_with fail
  go_end0
  exact ⟨rfl, _, HH.out, (Grow.of L2.out).trans GG.out⟩
set_option maxHeartbeats 2000000 in
theorem lay_end {w : World} {b : Nat} {v : Value} {L N : List Inst} {t : ByteArray} {A : Option Addr} {n c : Nat} {m tp : Int} {p : Piece} (h : Lay w b v L) (hp : PAt (fun k => k < b) w ⟨6, t, A, n, c, m, tp⟩ p) (hC : ∀ w, Does 66 b v L ⟨6, t, A, n, c, m, tp⟩ p N w) : Calls Tryz.prog 47 #[.pointer (some ⟨b, 0, none⟩), .agg (rawA ⟨6, t, A, n, c, m, tp⟩)] w (Laid b v w N) := by
  have H := Lib.hid h
  have HP := Lib.hid hp
  have HX := Lib.hid hC
  clear h hp hC
  go_enter Tryz.func47, Tryz.ntmps47
  go_wp2_with (first
    | (refine box_arg (r := ⟨6, t, A, n, c, m, tp⟩) rfl (.tmp 1) rfl rfl ?_; intro w1 b1 e1 p1 l1 z1; have P1 := Lib.hid p1; have L1 := Lib.hid l1; have E1 := Lib.hid e1; clear e1 p1 l1 z1))
  have L2 := Lib.hid (on L1.out (below_draws w1 1))
  have H2 := Lib.hid (H.out.below L2.out)
  have HC := Lib.hid (HX.out (w1.drewN 1) H2.out (below_piece L2.out H.out.box.lt HP.out))
  have S0 : Hid ((w1.drewN 1).cell? ⟨b1, 0, none⟩ = some (.int .i64 6) ∧ (w1.drewN 1).cell? ⟨b, 7, none⟩ = some (way 66 b) ∧ PBox (w1.drewN 1) b1 ⟨6, t, A, n, c, m, tp⟩) := ⟨P1.out.c0, cell_of_row _ b 7 _ _ _ H2.out.box, P1.out⟩
  have KEEP : Hid (∀ v' x1, Lay x1 b v' N → Grow b v v' (w1.drewN 1) x1 → x1.cell? ⟨b1, 0, none⟩ = some (.int .i64 6) ∧ x1.cell? ⟨b, 7, none⟩ = some (way 66 b) ∧ PBox x1 b1 ⟨6, t, A, n, c, m, tp⟩) := fun v' x1 h1 h2 => by
    have hb : PBox x1 b1 ⟨6, t, A, n, c, m, tp⟩ := (h2.block b1 P1.out.lt (by have := E1.out; have := H.out.box.lt; omega) (fun q => by have := (H.out.own_gt b1 q).2; have := E1.out; omega)).trans P1.out
    exact ⟨hb.c0, cell_of_row _ b 7 _ _ _ h1.box, hb⟩
  refine wp_region_held_drew (S := fun w' => w'.cell? ⟨b1, 0, none⟩ = some (.int .i64 6) ∧ w'.cell? ⟨b, 7, none⟩ = some (way 66 b) ∧ PBox w' b1 ⟨6, t, A, n, c, m, tp⟩) (by kernel_rfl) S0.out (fun hHeld => ?_)
  refine wpAnyH_take (i := 0) (oi := { dst := some 4, op := Op.move (Operand.tmp 0), type := 85, pos := "prog.go:63", after := #[], guard := none }) (v := ?vq60) rfl (by kernel_rfl) (by kernel_rfl) (by kernel_rfl) (fun _ _ _ h => h) (Or.inl ⟨by rfl, ?hq60⟩) (by assumption) ?rq60
  case hq60 => (intro w hSw; (try dsimp only at hSw); go_simp; try with_reducible rfl)
  try simp only [Act.put, List.setIfInBounds_toArray, List.set_cons_zero, List.set_cons_succ]
  refine wpAnyH_take (i := 1) (oi := { dst := some 5, op := Op.fieldAddr 25 (Operand.tmp 3) 0, type := 0, pos := "prog.go:63", after := #[], guard := none }) (v := ?vq61) rfl (by kernel_rfl) (by kernel_rfl) (by kernel_rfl) (fun _ _ _ h => h) (Or.inl ⟨by rfl, ?hq61⟩) (by assumption) ?rq61
  case hq61 => (intro w hSw; (try dsimp only at hSw); go_simp; try with_reducible rfl)
  try simp only [Act.put, List.setIfInBounds_toArray, List.set_cons_zero, List.set_cons_succ]
  refine wpAnyH_take (i := 2) (oi := { dst := some 6, op := Op.load 3 (Operand.tmp 5), type := 3, pos := "prog.go:63", after := #[{ on := 1, ground := Ground.data }], guard := none }) (v := ?vq62) rfl (by kernel_rfl) (by kernel_rfl) (by kernel_rfl) (fun _ _ _ h => h) (Or.inl ⟨by rfl, ?hq62⟩) (by assumption) ?rq62
  case hq62 => (intro w hSw; (try dsimp only at hSw); go_simp; try with_reducible rfl)
  try simp only [Act.put, List.setIfInBounds_toArray, List.set_cons_zero, List.set_cons_succ]
  refine wpAnyH_take (i := 3) (oi := { dst := some 7, op := Op.nilCheck (Operand.tmp 4), type := 0, pos := "prog.go:63", after := #[{ on := 0, ground := Ground.data }], guard := none }) (v := ?vq63) rfl (by kernel_rfl) (by kernel_rfl) (by kernel_rfl) (fun _ _ _ h => h) (Or.inl ⟨by rfl, ?hq63⟩) (by assumption) ?rq63
  case hq63 => (intro w hSw; (try dsimp only at hSw); go_simp; try with_reducible rfl)
  try simp only [Act.put, List.setIfInBounds_toArray, List.set_cons_zero, List.set_cons_succ]
  refine wpAnyH_take (i := 4) (oi := { dst := some 8, op := Op.fieldAddr 90 (Operand.tmp 7) 1, type := 0, pos := "prog.go:63", after := #[{ on := 3, ground := Ground.data }], guard := none }) (v := ?vq64) rfl (by kernel_rfl) (by kernel_rfl) (by kernel_rfl) (fun _ _ _ h => h) (Or.inl ⟨by rfl, ?hq64⟩) (by assumption) ?rq64
  case hq64 => (intro w hSw; (try dsimp only at hSw); go_simp; try with_reducible rfl)
  try simp only [Act.put, List.setIfInBounds_toArray, List.set_cons_zero, List.set_cons_succ]
  refine wpAnyH_take (i := 5) (oi := { dst := some 9, op := Op.indexAddr 88 (Operand.tmp 8) (Operand.tmp 6), type := 0, pos := "prog.go:63", after := #[{ on := 4, ground := Ground.data }, { on := 2, ground := Ground.data }], guard := none }) (v := ?vq65) rfl (by kernel_rfl) (by kernel_rfl) (by kernel_rfl) (fun _ _ _ h => h) (Or.inl ⟨by rfl, ?hq65⟩) (by assumption) ?rq65
  case hq65 => (intro w hSw; (try dsimp only at hSw); go_simp; try with_reducible rfl)
  try simp only [Act.put, List.setIfInBounds_toArray, List.set_cons_zero, List.set_cons_succ]
  refine wpAnyH_take (i := 6) (oi := { dst := some 10, op := Op.load 87 (Operand.tmp 9), type := 87, pos := "prog.go:63", after := #[{ on := 5, ground := Ground.data }], guard := none }) (v := ?vq66) rfl (by kernel_rfl) (by kernel_rfl) (by kernel_rfl) (fun _ _ _ h => h) (Or.inl ⟨by rfl, ?hq66⟩) (by assumption) ?rq66
  case hq66 => (intro w hSw; (try dsimp only at hSw); go_simp; try with_reducible rfl)
  try simp only [Act.put, List.setIfInBounds_toArray, List.set_cons_zero, List.set_cons_succ]
  refine wpAnyH_take (i := 7) (oi := { dst := some 11, op := Op.load 25 (Operand.tmp 3), type := 25, pos := "prog.go:63", after := #[], guard := none }) (v := ?vq67) rfl (by kernel_rfl) (by kernel_rfl) (by kernel_rfl) (fun _ _ _ h => h) (Or.inl ⟨by rfl, ?hq67⟩) (by assumption) ?rq67
  case hq67 => (intro w hSw; (try dsimp only at hSw); refine run_load_op (.tmp 3) ?_ ?_ hSw.2.2.cells <;> rfl)
  try simp only [Act.put, List.setIfInBounds_toArray, List.set_cons_zero, List.set_cons_succ]
  refine wpAnyH_ready (rs := [8]) (by kernel_rfl) (by simp) ?_
  refine AllReadyH.cons (o := { dst := some 12, op := Op.call { callee := Callee.value (Operand.tmp 10), args := #[Operand.tmp 11], argTypes := #[25] }, type := 0, pos := "prog.go:63", after := #[{ on := 6, ground := Ground.data }, { on := 7, ground := Ground.data }], guard := none }) rfl (fun K hK => ?_) AllReadyH.nil
  go_simp
  (go_at_call 66; refine HC.out.mono ?_; rintro e x1 ⟨rfl, v', h1, h2⟩; have HH := Lib.hid h1; have GG := Lib.hid h2; have hS1 := KEEP.out v' x1 h1 h2; clear h1 h2)
  go_wp2_with fail
  refine hK.out _ _ ?_ (fun hHeld => ?_)
  · exact hS1
  clear hK K
  try simp only [Act.put, List.setIfInBounds_toArray, List.set_cons_zero, List.set_cons_succ]
  refine wpAnyH_done (by kernel_rfl) ?_ _
  go_wp2_with fail
  go_end0
  exact ⟨rfl, _, HH.out, (Grow.of L2.out).trans GG.out⟩
set_option maxHeartbeats 2000000 in
theorem lay_seq {w : World} {b : Nat} {v : Value} {L N : List Inst} {t : ByteArray} {A : Option Addr} {n c : Nat} {m tp : Int} {p : Piece} (h : Lay w b v L) (hp : PAt (fun k => k < b) w ⟨7, t, A, n, c, m, tp⟩ p) (hC : ∀ w, Does 67 b v L ⟨7, t, A, n, c, m, tp⟩ p N w) : Calls Tryz.prog 47 #[.pointer (some ⟨b, 0, none⟩), .agg (rawA ⟨7, t, A, n, c, m, tp⟩)] w (Laid b v w N) := by
  have H := Lib.hid h
  have HP := Lib.hid hp
  have HX := Lib.hid hC
  clear h hp hC
  go_enter Tryz.func47, Tryz.ntmps47
  go_wp2_with (first
    | (refine box_arg (r := ⟨7, t, A, n, c, m, tp⟩) rfl (.tmp 1) rfl rfl ?_; intro w1 b1 e1 p1 l1 z1; have P1 := Lib.hid p1; have L1 := Lib.hid l1; have E1 := Lib.hid e1; clear e1 p1 l1 z1))
  have L2 := Lib.hid (on L1.out (below_draws w1 1))
  have H2 := Lib.hid (H.out.below L2.out)
  have HC := Lib.hid (HX.out (w1.drewN 1) H2.out (below_piece L2.out H.out.box.lt HP.out))
  have S0 : Hid ((w1.drewN 1).cell? ⟨b1, 0, none⟩ = some (.int .i64 7) ∧ (w1.drewN 1).cell? ⟨b, 8, none⟩ = some (way 67 b) ∧ PBox (w1.drewN 1) b1 ⟨7, t, A, n, c, m, tp⟩) := ⟨P1.out.c0, cell_of_row _ b 8 _ _ _ H2.out.box, P1.out⟩
  have KEEP : Hid (∀ v' x1, Lay x1 b v' N → Grow b v v' (w1.drewN 1) x1 → x1.cell? ⟨b1, 0, none⟩ = some (.int .i64 7) ∧ x1.cell? ⟨b, 8, none⟩ = some (way 67 b) ∧ PBox x1 b1 ⟨7, t, A, n, c, m, tp⟩) := fun v' x1 h1 h2 => by
    have hb : PBox x1 b1 ⟨7, t, A, n, c, m, tp⟩ := (h2.block b1 P1.out.lt (by have := E1.out; have := H.out.box.lt; omega) (fun q => by have := (H.out.own_gt b1 q).2; have := E1.out; omega)).trans P1.out
    exact ⟨hb.c0, cell_of_row _ b 8 _ _ _ h1.box, hb⟩
  refine wp_region_held_drew (S := fun w' => w'.cell? ⟨b1, 0, none⟩ = some (.int .i64 7) ∧ w'.cell? ⟨b, 8, none⟩ = some (way 67 b) ∧ PBox w' b1 ⟨7, t, A, n, c, m, tp⟩) (by kernel_rfl) S0.out (fun hHeld => ?_)
  refine wpAnyH_take (i := 0) (oi := { dst := some 4, op := Op.move (Operand.tmp 0), type := 85, pos := "prog.go:63", after := #[], guard := none }) (v := ?vq70) rfl (by kernel_rfl) (by kernel_rfl) (by kernel_rfl) (fun _ _ _ h => h) (Or.inl ⟨by rfl, ?hq70⟩) (by assumption) ?rq70
  case hq70 => (intro w hSw; (try dsimp only at hSw); go_simp; try with_reducible rfl)
  try simp only [Act.put, List.setIfInBounds_toArray, List.set_cons_zero, List.set_cons_succ]
  refine wpAnyH_take (i := 1) (oi := { dst := some 5, op := Op.fieldAddr 25 (Operand.tmp 3) 0, type := 0, pos := "prog.go:63", after := #[], guard := none }) (v := ?vq71) rfl (by kernel_rfl) (by kernel_rfl) (by kernel_rfl) (fun _ _ _ h => h) (Or.inl ⟨by rfl, ?hq71⟩) (by assumption) ?rq71
  case hq71 => (intro w hSw; (try dsimp only at hSw); go_simp; try with_reducible rfl)
  try simp only [Act.put, List.setIfInBounds_toArray, List.set_cons_zero, List.set_cons_succ]
  refine wpAnyH_take (i := 2) (oi := { dst := some 6, op := Op.load 3 (Operand.tmp 5), type := 3, pos := "prog.go:63", after := #[{ on := 1, ground := Ground.data }], guard := none }) (v := ?vq72) rfl (by kernel_rfl) (by kernel_rfl) (by kernel_rfl) (fun _ _ _ h => h) (Or.inl ⟨by rfl, ?hq72⟩) (by assumption) ?rq72
  case hq72 => (intro w hSw; (try dsimp only at hSw); go_simp; try with_reducible rfl)
  try simp only [Act.put, List.setIfInBounds_toArray, List.set_cons_zero, List.set_cons_succ]
  refine wpAnyH_take (i := 3) (oi := { dst := some 7, op := Op.nilCheck (Operand.tmp 4), type := 0, pos := "prog.go:63", after := #[{ on := 0, ground := Ground.data }], guard := none }) (v := ?vq73) rfl (by kernel_rfl) (by kernel_rfl) (by kernel_rfl) (fun _ _ _ h => h) (Or.inl ⟨by rfl, ?hq73⟩) (by assumption) ?rq73
  case hq73 => (intro w hSw; (try dsimp only at hSw); go_simp; try with_reducible rfl)
  try simp only [Act.put, List.setIfInBounds_toArray, List.set_cons_zero, List.set_cons_succ]
  refine wpAnyH_take (i := 4) (oi := { dst := some 8, op := Op.fieldAddr 90 (Operand.tmp 7) 1, type := 0, pos := "prog.go:63", after := #[{ on := 3, ground := Ground.data }], guard := none }) (v := ?vq74) rfl (by kernel_rfl) (by kernel_rfl) (by kernel_rfl) (fun _ _ _ h => h) (Or.inl ⟨by rfl, ?hq74⟩) (by assumption) ?rq74
  case hq74 => (intro w hSw; (try dsimp only at hSw); go_simp; try with_reducible rfl)
  try simp only [Act.put, List.setIfInBounds_toArray, List.set_cons_zero, List.set_cons_succ]
  refine wpAnyH_take (i := 5) (oi := { dst := some 9, op := Op.indexAddr 88 (Operand.tmp 8) (Operand.tmp 6), type := 0, pos := "prog.go:63", after := #[{ on := 4, ground := Ground.data }, { on := 2, ground := Ground.data }], guard := none }) (v := ?vq75) rfl (by kernel_rfl) (by kernel_rfl) (by kernel_rfl) (fun _ _ _ h => h) (Or.inl ⟨by rfl, ?hq75⟩) (by assumption) ?rq75
  case hq75 => (intro w hSw; (try dsimp only at hSw); go_simp; try with_reducible rfl)
  try simp only [Act.put, List.setIfInBounds_toArray, List.set_cons_zero, List.set_cons_succ]
  refine wpAnyH_take (i := 6) (oi := { dst := some 10, op := Op.load 87 (Operand.tmp 9), type := 87, pos := "prog.go:63", after := #[{ on := 5, ground := Ground.data }], guard := none }) (v := ?vq76) rfl (by kernel_rfl) (by kernel_rfl) (by kernel_rfl) (fun _ _ _ h => h) (Or.inl ⟨by rfl, ?hq76⟩) (by assumption) ?rq76
  case hq76 => (intro w hSw; (try dsimp only at hSw); go_simp; try with_reducible rfl)
  try simp only [Act.put, List.setIfInBounds_toArray, List.set_cons_zero, List.set_cons_succ]
  refine wpAnyH_take (i := 7) (oi := { dst := some 11, op := Op.load 25 (Operand.tmp 3), type := 25, pos := "prog.go:63", after := #[], guard := none }) (v := ?vq77) rfl (by kernel_rfl) (by kernel_rfl) (by kernel_rfl) (fun _ _ _ h => h) (Or.inl ⟨by rfl, ?hq77⟩) (by assumption) ?rq77
  case hq77 => (intro w hSw; (try dsimp only at hSw); refine run_load_op (.tmp 3) ?_ ?_ hSw.2.2.cells <;> rfl)
  try simp only [Act.put, List.setIfInBounds_toArray, List.set_cons_zero, List.set_cons_succ]
  refine wpAnyH_ready (rs := [8]) (by kernel_rfl) (by simp) ?_
  refine AllReadyH.cons (o := { dst := some 12, op := Op.call { callee := Callee.value (Operand.tmp 10), args := #[Operand.tmp 11], argTypes := #[25] }, type := 0, pos := "prog.go:63", after := #[{ on := 6, ground := Ground.data }, { on := 7, ground := Ground.data }], guard := none }) rfl (fun K hK => ?_) AllReadyH.nil
  go_simp
  (go_at_call 67; refine HC.out.mono ?_; rintro e x1 ⟨rfl, v', h1, h2⟩; have HH := Lib.hid h1; have GG := Lib.hid h2; have hS1 := KEEP.out v' x1 h1 h2; clear h1 h2)
  go_wp2_with fail
  refine hK.out _ _ ?_ (fun hHeld => ?_)
  · exact hS1
  clear hK K
  try simp only [Act.put, List.setIfInBounds_toArray, List.set_cons_zero, List.set_cons_succ]
  refine wpAnyH_done (by kernel_rfl) ?_ _
  go_wp2_with fail
  go_end0
  exact ⟨rfl, _, HH.out, (Grow.of L2.out).trans GG.out⟩
set_option maxHeartbeats 2000000 in
theorem lay_alt {w : World} {b : Nat} {v : Value} {L N : List Inst} {t : ByteArray} {A : Option Addr} {n c : Nat} {m tp : Int} {p : Piece} (h : Lay w b v L) (hp : PAt (fun k => k < b) w ⟨8, t, A, n, c, m, tp⟩ p) (hC : ∀ w, Does 68 b v L ⟨8, t, A, n, c, m, tp⟩ p N w) : Calls Tryz.prog 47 #[.pointer (some ⟨b, 0, none⟩), .agg (rawA ⟨8, t, A, n, c, m, tp⟩)] w (Laid b v w N) := by
  have H := Lib.hid h
  have HP := Lib.hid hp
  have HX := Lib.hid hC
  clear h hp hC
  go_enter Tryz.func47, Tryz.ntmps47
  go_wp2_with (first
    | (refine box_arg (r := ⟨8, t, A, n, c, m, tp⟩) rfl (.tmp 1) rfl rfl ?_; intro w1 b1 e1 p1 l1 z1; have P1 := Lib.hid p1; have L1 := Lib.hid l1; have E1 := Lib.hid e1; clear e1 p1 l1 z1))
  have L2 := Lib.hid (on L1.out (below_draws w1 1))
  have H2 := Lib.hid (H.out.below L2.out)
  have HC := Lib.hid (HX.out (w1.drewN 1) H2.out (below_piece L2.out H.out.box.lt HP.out))
  have S0 : Hid ((w1.drewN 1).cell? ⟨b1, 0, none⟩ = some (.int .i64 8) ∧ (w1.drewN 1).cell? ⟨b, 9, none⟩ = some (way 68 b) ∧ PBox (w1.drewN 1) b1 ⟨8, t, A, n, c, m, tp⟩) := ⟨P1.out.c0, cell_of_row _ b 9 _ _ _ H2.out.box, P1.out⟩
  have KEEP : Hid (∀ v' x1, Lay x1 b v' N → Grow b v v' (w1.drewN 1) x1 → x1.cell? ⟨b1, 0, none⟩ = some (.int .i64 8) ∧ x1.cell? ⟨b, 9, none⟩ = some (way 68 b) ∧ PBox x1 b1 ⟨8, t, A, n, c, m, tp⟩) := fun v' x1 h1 h2 => by
    have hb : PBox x1 b1 ⟨8, t, A, n, c, m, tp⟩ := (h2.block b1 P1.out.lt (by have := E1.out; have := H.out.box.lt; omega) (fun q => by have := (H.out.own_gt b1 q).2; have := E1.out; omega)).trans P1.out
    exact ⟨hb.c0, cell_of_row _ b 9 _ _ _ h1.box, hb⟩
  refine wp_region_held_drew (S := fun w' => w'.cell? ⟨b1, 0, none⟩ = some (.int .i64 8) ∧ w'.cell? ⟨b, 9, none⟩ = some (way 68 b) ∧ PBox w' b1 ⟨8, t, A, n, c, m, tp⟩) (by kernel_rfl) S0.out (fun hHeld => ?_)
  refine wpAnyH_take (i := 0) (oi := { dst := some 4, op := Op.move (Operand.tmp 0), type := 85, pos := "prog.go:63", after := #[], guard := none }) (v := ?vq80) rfl (by kernel_rfl) (by kernel_rfl) (by kernel_rfl) (fun _ _ _ h => h) (Or.inl ⟨by rfl, ?hq80⟩) (by assumption) ?rq80
  case hq80 => (intro w hSw; (try dsimp only at hSw); go_simp; try with_reducible rfl)
  try simp only [Act.put, List.setIfInBounds_toArray, List.set_cons_zero, List.set_cons_succ]
  refine wpAnyH_take (i := 1) (oi := { dst := some 5, op := Op.fieldAddr 25 (Operand.tmp 3) 0, type := 0, pos := "prog.go:63", after := #[], guard := none }) (v := ?vq81) rfl (by kernel_rfl) (by kernel_rfl) (by kernel_rfl) (fun _ _ _ h => h) (Or.inl ⟨by rfl, ?hq81⟩) (by assumption) ?rq81
  case hq81 => (intro w hSw; (try dsimp only at hSw); go_simp; try with_reducible rfl)
  try simp only [Act.put, List.setIfInBounds_toArray, List.set_cons_zero, List.set_cons_succ]
  refine wpAnyH_take (i := 2) (oi := { dst := some 6, op := Op.load 3 (Operand.tmp 5), type := 3, pos := "prog.go:63", after := #[{ on := 1, ground := Ground.data }], guard := none }) (v := ?vq82) rfl (by kernel_rfl) (by kernel_rfl) (by kernel_rfl) (fun _ _ _ h => h) (Or.inl ⟨by rfl, ?hq82⟩) (by assumption) ?rq82
  case hq82 => (intro w hSw; (try dsimp only at hSw); go_simp; try with_reducible rfl)
  try simp only [Act.put, List.setIfInBounds_toArray, List.set_cons_zero, List.set_cons_succ]
  refine wpAnyH_take (i := 3) (oi := { dst := some 7, op := Op.nilCheck (Operand.tmp 4), type := 0, pos := "prog.go:63", after := #[{ on := 0, ground := Ground.data }], guard := none }) (v := ?vq83) rfl (by kernel_rfl) (by kernel_rfl) (by kernel_rfl) (fun _ _ _ h => h) (Or.inl ⟨by rfl, ?hq83⟩) (by assumption) ?rq83
  case hq83 => (intro w hSw; (try dsimp only at hSw); go_simp; try with_reducible rfl)
  try simp only [Act.put, List.setIfInBounds_toArray, List.set_cons_zero, List.set_cons_succ]
  refine wpAnyH_take (i := 4) (oi := { dst := some 8, op := Op.fieldAddr 90 (Operand.tmp 7) 1, type := 0, pos := "prog.go:63", after := #[{ on := 3, ground := Ground.data }], guard := none }) (v := ?vq84) rfl (by kernel_rfl) (by kernel_rfl) (by kernel_rfl) (fun _ _ _ h => h) (Or.inl ⟨by rfl, ?hq84⟩) (by assumption) ?rq84
  case hq84 => (intro w hSw; (try dsimp only at hSw); go_simp; try with_reducible rfl)
  try simp only [Act.put, List.setIfInBounds_toArray, List.set_cons_zero, List.set_cons_succ]
  refine wpAnyH_take (i := 5) (oi := { dst := some 9, op := Op.indexAddr 88 (Operand.tmp 8) (Operand.tmp 6), type := 0, pos := "prog.go:63", after := #[{ on := 4, ground := Ground.data }, { on := 2, ground := Ground.data }], guard := none }) (v := ?vq85) rfl (by kernel_rfl) (by kernel_rfl) (by kernel_rfl) (fun _ _ _ h => h) (Or.inl ⟨by rfl, ?hq85⟩) (by assumption) ?rq85
  case hq85 => (intro w hSw; (try dsimp only at hSw); go_simp; try with_reducible rfl)
  try simp only [Act.put, List.setIfInBounds_toArray, List.set_cons_zero, List.set_cons_succ]
  refine wpAnyH_take (i := 6) (oi := { dst := some 10, op := Op.load 87 (Operand.tmp 9), type := 87, pos := "prog.go:63", after := #[{ on := 5, ground := Ground.data }], guard := none }) (v := ?vq86) rfl (by kernel_rfl) (by kernel_rfl) (by kernel_rfl) (fun _ _ _ h => h) (Or.inl ⟨by rfl, ?hq86⟩) (by assumption) ?rq86
  case hq86 => (intro w hSw; (try dsimp only at hSw); go_simp; try with_reducible rfl)
  try simp only [Act.put, List.setIfInBounds_toArray, List.set_cons_zero, List.set_cons_succ]
  refine wpAnyH_take (i := 7) (oi := { dst := some 11, op := Op.load 25 (Operand.tmp 3), type := 25, pos := "prog.go:63", after := #[], guard := none }) (v := ?vq87) rfl (by kernel_rfl) (by kernel_rfl) (by kernel_rfl) (fun _ _ _ h => h) (Or.inl ⟨by rfl, ?hq87⟩) (by assumption) ?rq87
  case hq87 => (intro w hSw; (try dsimp only at hSw); refine run_load_op (.tmp 3) ?_ ?_ hSw.2.2.cells <;> rfl)
  try simp only [Act.put, List.setIfInBounds_toArray, List.set_cons_zero, List.set_cons_succ]
  refine wpAnyH_ready (rs := [8]) (by kernel_rfl) (by simp) ?_
  refine AllReadyH.cons (o := { dst := some 12, op := Op.call { callee := Callee.value (Operand.tmp 10), args := #[Operand.tmp 11], argTypes := #[25] }, type := 0, pos := "prog.go:63", after := #[{ on := 6, ground := Ground.data }, { on := 7, ground := Ground.data }], guard := none }) rfl (fun K hK => ?_) AllReadyH.nil
  go_simp
  (go_at_call 68; refine HC.out.mono ?_; rintro e x1 ⟨rfl, v', h1, h2⟩; have HH := Lib.hid h1; have GG := Lib.hid h2; have hS1 := KEEP.out v' x1 h1 h2; clear h1 h2)
  go_wp2_with fail
  refine hK.out _ _ ?_ (fun hHeld => ?_)
  · exact hS1
  clear hK K
  try simp only [Act.put, List.setIfInBounds_toArray, List.set_cons_zero, List.set_cons_succ]
  refine wpAnyH_done (by kernel_rfl) ?_ _
  go_wp2_with fail
  go_end0
  exact ⟨rfl, _, HH.out, (Grow.of L2.out).trans GG.out⟩
set_option maxHeartbeats 2000000 in
theorem lay_repeat {w : World} {b : Nat} {v : Value} {L N : List Inst} {t : ByteArray} {A : Option Addr} {n c : Nat} {m tp : Int} {p : Piece} (h : Lay w b v L) (hp : PAt (fun k => k < b) w ⟨9, t, A, n, c, m, tp⟩ p) (hC : ∀ w, Does 69 b v L ⟨9, t, A, n, c, m, tp⟩ p N w) : Calls Tryz.prog 47 #[.pointer (some ⟨b, 0, none⟩), .agg (rawA ⟨9, t, A, n, c, m, tp⟩)] w (Laid b v w N) := by
  have H := Lib.hid h
  have HP := Lib.hid hp
  have HX := Lib.hid hC
  clear h hp hC
  go_enter Tryz.func47, Tryz.ntmps47
  go_wp2_with (first
    | (refine box_arg (r := ⟨9, t, A, n, c, m, tp⟩) rfl (.tmp 1) rfl rfl ?_; intro w1 b1 e1 p1 l1 z1; have P1 := Lib.hid p1; have L1 := Lib.hid l1; have E1 := Lib.hid e1; clear e1 p1 l1 z1))
  have L2 := Lib.hid (on L1.out (below_draws w1 1))
  have H2 := Lib.hid (H.out.below L2.out)
  have HC := Lib.hid (HX.out (w1.drewN 1) H2.out (below_piece L2.out H.out.box.lt HP.out))
  have S0 : Hid ((w1.drewN 1).cell? ⟨b1, 0, none⟩ = some (.int .i64 9) ∧ (w1.drewN 1).cell? ⟨b, 10, none⟩ = some (way 69 b) ∧ PBox (w1.drewN 1) b1 ⟨9, t, A, n, c, m, tp⟩) := ⟨P1.out.c0, cell_of_row _ b 10 _ _ _ H2.out.box, P1.out⟩
  have KEEP : Hid (∀ v' x1, Lay x1 b v' N → Grow b v v' (w1.drewN 1) x1 → x1.cell? ⟨b1, 0, none⟩ = some (.int .i64 9) ∧ x1.cell? ⟨b, 10, none⟩ = some (way 69 b) ∧ PBox x1 b1 ⟨9, t, A, n, c, m, tp⟩) := fun v' x1 h1 h2 => by
    have hb : PBox x1 b1 ⟨9, t, A, n, c, m, tp⟩ := (h2.block b1 P1.out.lt (by have := E1.out; have := H.out.box.lt; omega) (fun q => by have := (H.out.own_gt b1 q).2; have := E1.out; omega)).trans P1.out
    exact ⟨hb.c0, cell_of_row _ b 10 _ _ _ h1.box, hb⟩
  refine wp_region_held_drew (S := fun w' => w'.cell? ⟨b1, 0, none⟩ = some (.int .i64 9) ∧ w'.cell? ⟨b, 10, none⟩ = some (way 69 b) ∧ PBox w' b1 ⟨9, t, A, n, c, m, tp⟩) (by kernel_rfl) S0.out (fun hHeld => ?_)
  refine wpAnyH_take (i := 0) (oi := { dst := some 4, op := Op.move (Operand.tmp 0), type := 85, pos := "prog.go:63", after := #[], guard := none }) (v := ?vq90) rfl (by kernel_rfl) (by kernel_rfl) (by kernel_rfl) (fun _ _ _ h => h) (Or.inl ⟨by rfl, ?hq90⟩) (by assumption) ?rq90
  case hq90 => (intro w hSw; (try dsimp only at hSw); go_simp; try with_reducible rfl)
  try simp only [Act.put, List.setIfInBounds_toArray, List.set_cons_zero, List.set_cons_succ]
  refine wpAnyH_take (i := 1) (oi := { dst := some 5, op := Op.fieldAddr 25 (Operand.tmp 3) 0, type := 0, pos := "prog.go:63", after := #[], guard := none }) (v := ?vq91) rfl (by kernel_rfl) (by kernel_rfl) (by kernel_rfl) (fun _ _ _ h => h) (Or.inl ⟨by rfl, ?hq91⟩) (by assumption) ?rq91
  case hq91 => (intro w hSw; (try dsimp only at hSw); go_simp; try with_reducible rfl)
  try simp only [Act.put, List.setIfInBounds_toArray, List.set_cons_zero, List.set_cons_succ]
  refine wpAnyH_take (i := 2) (oi := { dst := some 6, op := Op.load 3 (Operand.tmp 5), type := 3, pos := "prog.go:63", after := #[{ on := 1, ground := Ground.data }], guard := none }) (v := ?vq92) rfl (by kernel_rfl) (by kernel_rfl) (by kernel_rfl) (fun _ _ _ h => h) (Or.inl ⟨by rfl, ?hq92⟩) (by assumption) ?rq92
  case hq92 => (intro w hSw; (try dsimp only at hSw); go_simp; try with_reducible rfl)
  try simp only [Act.put, List.setIfInBounds_toArray, List.set_cons_zero, List.set_cons_succ]
  refine wpAnyH_take (i := 3) (oi := { dst := some 7, op := Op.nilCheck (Operand.tmp 4), type := 0, pos := "prog.go:63", after := #[{ on := 0, ground := Ground.data }], guard := none }) (v := ?vq93) rfl (by kernel_rfl) (by kernel_rfl) (by kernel_rfl) (fun _ _ _ h => h) (Or.inl ⟨by rfl, ?hq93⟩) (by assumption) ?rq93
  case hq93 => (intro w hSw; (try dsimp only at hSw); go_simp; try with_reducible rfl)
  try simp only [Act.put, List.setIfInBounds_toArray, List.set_cons_zero, List.set_cons_succ]
  refine wpAnyH_take (i := 4) (oi := { dst := some 8, op := Op.fieldAddr 90 (Operand.tmp 7) 1, type := 0, pos := "prog.go:63", after := #[{ on := 3, ground := Ground.data }], guard := none }) (v := ?vq94) rfl (by kernel_rfl) (by kernel_rfl) (by kernel_rfl) (fun _ _ _ h => h) (Or.inl ⟨by rfl, ?hq94⟩) (by assumption) ?rq94
  case hq94 => (intro w hSw; (try dsimp only at hSw); go_simp; try with_reducible rfl)
  try simp only [Act.put, List.setIfInBounds_toArray, List.set_cons_zero, List.set_cons_succ]
  refine wpAnyH_take (i := 5) (oi := { dst := some 9, op := Op.indexAddr 88 (Operand.tmp 8) (Operand.tmp 6), type := 0, pos := "prog.go:63", after := #[{ on := 4, ground := Ground.data }, { on := 2, ground := Ground.data }], guard := none }) (v := ?vq95) rfl (by kernel_rfl) (by kernel_rfl) (by kernel_rfl) (fun _ _ _ h => h) (Or.inl ⟨by rfl, ?hq95⟩) (by assumption) ?rq95
  case hq95 => (intro w hSw; (try dsimp only at hSw); go_simp; try with_reducible rfl)
  try simp only [Act.put, List.setIfInBounds_toArray, List.set_cons_zero, List.set_cons_succ]
  refine wpAnyH_take (i := 6) (oi := { dst := some 10, op := Op.load 87 (Operand.tmp 9), type := 87, pos := "prog.go:63", after := #[{ on := 5, ground := Ground.data }], guard := none }) (v := ?vq96) rfl (by kernel_rfl) (by kernel_rfl) (by kernel_rfl) (fun _ _ _ h => h) (Or.inl ⟨by rfl, ?hq96⟩) (by assumption) ?rq96
  case hq96 => (intro w hSw; (try dsimp only at hSw); go_simp; try with_reducible rfl)
  try simp only [Act.put, List.setIfInBounds_toArray, List.set_cons_zero, List.set_cons_succ]
  refine wpAnyH_take (i := 7) (oi := { dst := some 11, op := Op.load 25 (Operand.tmp 3), type := 25, pos := "prog.go:63", after := #[], guard := none }) (v := ?vq97) rfl (by kernel_rfl) (by kernel_rfl) (by kernel_rfl) (fun _ _ _ h => h) (Or.inl ⟨by rfl, ?hq97⟩) (by assumption) ?rq97
  case hq97 => (intro w hSw; (try dsimp only at hSw); refine run_load_op (.tmp 3) ?_ ?_ hSw.2.2.cells <;> rfl)
  try simp only [Act.put, List.setIfInBounds_toArray, List.set_cons_zero, List.set_cons_succ]
  refine wpAnyH_ready (rs := [8]) (by kernel_rfl) (by simp) ?_
  refine AllReadyH.cons (o := { dst := some 12, op := Op.call { callee := Callee.value (Operand.tmp 10), args := #[Operand.tmp 11], argTypes := #[25] }, type := 0, pos := "prog.go:63", after := #[{ on := 6, ground := Ground.data }, { on := 7, ground := Ground.data }], guard := none }) rfl (fun K hK => ?_) AllReadyH.nil
  go_simp
  (go_at_call 69; refine HC.out.mono ?_; rintro e x1 ⟨rfl, v', h1, h2⟩; have HH := Lib.hid h1; have GG := Lib.hid h2; have hS1 := KEEP.out v' x1 h1 h2; clear h1 h2)
  go_wp2_with fail
  refine hK.out _ _ ?_ (fun hHeld => ?_)
  · exact hS1
  clear hK K
  try simp only [Act.put, List.setIfInBounds_toArray, List.set_cons_zero, List.set_cons_succ]
  refine wpAnyH_done (by kernel_rfl) ?_ _
  go_wp2_with fail
  go_end0
  exact ⟨rfl, _, HH.out, (Grow.of L2.out).trans GG.out⟩
end Go.Proofs.YtehdnbidgphecaaGreatDoor.W15
