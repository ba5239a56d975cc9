/-
  Texts joined, in build order, each with its own comment and its own conditions: W14Take, W14Same, W14RefSize, W14RefRep, W14Sizes.
-/
import Derived.Test.YtenlogfiabhfmaaGreatDoorJ06
import Derived.Test.YtenlogfiabhfmaaGreatDoorJ16
import Derived.Deep.LoopGhost
import Derived.Deep.RegionHeld3
import Derived.BigQuiet
import Derived.Deep.Cut
import Derived.Lib.MinMax
import Derived.Test.YtenlogfiabhfmaaGreatDoorJ12
/-
  Layer 14 (pattern), pieces as arguments: put into a box, loaded out of it, their kids by number; how all this is kept. The conditions stand in the statements.
-/
namespace Go.Proofs.YtenlogfiabhfmaaGreatDoor.W14
open Go Go.RowKit Go.Proofs.YtenlogfiabhfmaaGreatDoor.Strs Go.Proofs.YtenlogfiabhfmaaGreatDoor.Recs Go.Proofs.YtenlogfiabhfmaaGreatDoor.M14
open Go.Proofs.YtenlogfiabhfmaaGreatDoor.Row256 (Beside)
open Go.Proofs.YtenlogfiabhfmaaGreatDoor.Kit (below_draws on)

section
variable {ops : Array Oper} {rest : List Oper} {o : Oper} {a : Act} {w : World} {Q : Exit → Act → World → Prop}
/-- a piece that came in is put into a box -/
theorem box_arg (hgd : o.guard = none) (x : Operand) (ho : o.op = .box 25 x) {r : Raw} (hx : a.eval x = .agg (rawA r))
    (h : ∀ w' b, w.heap.size = b → PBox w' b r → Below w.heap.size w w' → w'.heap.size = w.heap.size + 1 → wpList Tryz.prog ops Q rest (a.put o.dst (.pointer (some ⟨b, 0, none⟩))) w') : wpList Tryz.prog ops Q (o :: rest) a w :=
  wpList_plain hgd fun _ hK => by
    unfold Oper.wp execOp
    simp only [ho, hx, Instr.box, newVar, newRow, Sem.run_bind, Sem.run_pure]
    exact hK _ _ (h _ _ rfl (heap_alloc_new w _) (below_new w _) (World.size_alloc w _))
end
/-- a piece's load as an operation of a drawn region -/
theorem run_load_op {a : Act} {o : Oper} {w : World} (x : Operand) (ho : o.op = .load 25 x) {b k : Nat} (hx : a.eval x = .pointer (some ⟨b, k, none⟩)) {r : Raw} (hr : ∀ j, j < 5 → w.cell? ⟨b, k + j, none⟩ = (rawC r)[j]?) : (execOp a.eval o).run Tryz.prog w = .ok (.value (.agg (rawA r))) w := by
  have hl : (loadCells ⟨b, k, none⟩ (rawC r).length).run Tryz.prog w = .ok (rawC r).toArray w := run_loadCells_list (P := Tryz.prog) w ⟨b, k, none⟩ (rawC r) fun j v hv => by
    have hadd : (⟨b, k, none⟩ : Addr).add j = ⟨b, k + j, none⟩ := by unfold Addr.add; split <;> simp_all
    have hj : j < 5 := by
      rcases Nat.lt_or_ge j (rawC r).length with q | q
      · rw [rawC_len] at q; exact q
      · rw [List.getElem?_eq_none q] at hv; cases hv
    rw [hadd, hr j hj]; exact hv
  obtain ⟨i, hi, -, h2, -⟩ := info_parts piece_info
  have hagg : (isAgg 25).run Tryz.prog w = .ok true w := by
    unfold isAgg
    rw [Sem.run_bind, run_underlying Tryz.underlying25 w]
    rfl
  rw [rawC_len] at hl
  unfold execOp
  simp only [ho, hx, Instr.loadAt, Instr.sureAddr, loadVar, sizeOf, typeInfo, Sem.run_bind, Sem.run_pure, Result.andThen_ok, hagg]
  simp [hi, h2, hl, Sem.run_bind, Result.andThen]
  rfl
section
variable {w w' : World} {b : Nat} {r : Raw}
theorem PBox.c0 (h : PBox w b r) : w.cell? ⟨b, 0, none⟩ = some (.int .i64 r.kind) := cell_of_row w b 0 _ _ _ h
theorem PBox.c1 (h : PBox w b r) : w.cell? ⟨b, 1, none⟩ = some (.string r.text) := cell_of_row w b 1 _ _ _ h
theorem PBox.c2 (h : PBox w b r) : w.cell? ⟨b, 2, none⟩ = some (.slice r.ad r.len r.cap) := cell_of_row w b 2 _ _ _ h
theorem PBox.c3 (h : PBox w b r) : w.cell? ⟨b, 3, none⟩ = some (.int .i64 r.least) := cell_of_row w b 3 _ _ _ h
theorem PBox.c4 (h : PBox w b r) : w.cell? ⟨b, 4, none⟩ = some (.int .i64 r.top) := cell_of_row w b 4 _ _ _ h
theorem PBox.cells (h : PBox w b r) : ∀ j, j < 5 → w.cell? ⟨b, 0 + j, none⟩ = (rawC r)[j]? := by
  intro j hj
  rw [Nat.zero_add, cell_of_row w b j _ _ _ h]
  match j, hj with
  | 0, _ => rfl
  | 1, _ => rfl
  | 2, _ => rfl
  | 3, _ => rfl
  | 4, _ => rfl
end
/-- a piece, all whose blocks lie below the world's end -/
def PLow (w : World) (r : Raw) (p : Piece) : Prop := PAt (fun b => b < w.heap.size) w r p
theorem PLow.below {w w' : World} {r : Raw} {p : Piece} (h : PLow w r p) (hb : Below w.heap.size w w') : PLow w' r p :=
  PAt.keep h (fun _ q => Nat.lt_of_lt_of_le q hb.size) fun _ q => cell_block (hb.block _ q)
theorem PAt.low {lo : Nat} {w : World} {r : Raw} {p : Piece} (h : PAt (In lo w.heap.size) w r p) : PLow w r p := h.keep (fun _ q => q.2) fun _ _ => rfl
/-- a piece's kids in memory -/
def Kids (w : World) (A : Option Addr) (c : Nat) (raws : List Raw) (ks : List Piece) : Prop :=
  (∃ B, Raws B w (.slice A ks.length c) raws) ∧ (∀ ad, A = some ad → 0 < raws.length → ad.block < w.heap.size) ∧ PAll (fun b => b < w.heap.size) w raws ks
theorem PLow.parts {w : World} {r : Raw} {k : Int} {t : ByteArray} {ks : List Piece} {l tp : Int} (h : PLow w r (.mk k t ks l tp)) : ∃ A c raws, r = ⟨k, t, A, ks.length, c, l, tp⟩ ∧ Kids w A c raws ks := by
  unfold PLow at h
  cases h with
  | mk _ _ A n c _ _ raws _ B h hX hl hk =>
    have hn : n = ks.length := by
      obtain ⟨A', c', e, -⟩ := h
      injection e with e1 e2 e3
      omega
    subst hn
    exact ⟨A, c, raws, rfl, ⟨B, h⟩, hX, hl, hk⟩
theorem Kids.below {w w' : World} {A : Option Addr} {c : Nat} {raws : List Raw} {ks : List Piece} (h : Kids w A c raws ks) (hb : Below w.heap.size w w') : Kids w' A c raws ks := by
  obtain ⟨⟨B, h1⟩, h2, h3⟩ := h
  refine ⟨⟨B, raws_keep h1 fun ad e hn p hp => cell_block (hb.block _ (by rw [hp]; exact h2 ad e hn))⟩, fun ad e hn => Nat.lt_of_lt_of_le (h2 ad e hn) hb.size, h3.keep (fun _ q => Nat.lt_of_lt_of_le q hb.size) fun _ q => cell_block (hb.block _ q)⟩
theorem Kids.room {w : World} {A : Option Addr} {c : Nat} {raws : List Raw} {ks : List Piece} (h : Kids w A c raws ks) : ks.length ≤ c ∧ c ≤ 9223372036854775807 := by
  obtain ⟨⟨B, A', c', e, h2, h3, -⟩, -, h4, -⟩ := h
  injection e with e1 e2 e3
  subst e3
  unfold maxLen at h3
  omega
theorem Kids.at_ {w : World} {A : Option Addr} {c : Nat} {raws : List Raw} {ks : List Piece} (h : Kids w A c raws ks) (hn : 0 < ks.length) : ∃ g o, A = some ⟨g, o, none⟩ ∧ ∀ i (hi : i < raws.length), ∀ j, j < 5 → w.cell? ⟨g, o + i * 5 + j, none⟩ = (rawC raws[i])[j]? := by
  obtain ⟨⟨B, h1⟩, h2, h3, -⟩ := h
  obtain ⟨g, o, hl, e, -, -⟩ := h1.flat_ rawC_len (by decide) (k := 0) hn
  refine ⟨g, o, e, fun i hi => ?_⟩
  obtain ⟨g', o', hl', e', -, hc⟩ := h1.flat_ rawC_len (by decide) (k := i) (by omega)
  rw [e] at e'
  cases e'
  exact hc
theorem Kids.kid {w : World} {A : Option Addr} {c : Nat} {raws : List Raw} {ks : List Piece} (h : Kids w A c raws ks) {i : Nat} (hi : i < ks.length) : ∃ hr : i < raws.length, PLow w raws[i] ks[i] := by
  obtain ⟨-, -, h3, h4⟩ := h
  exact ⟨by omega, h4 i (by omega) hi⟩
theorem Kids.moved {w w' : World} {g o c : Nat} {raws : List Raw} {ks : List Piece} (h : Kids w (some ⟨g, o, none⟩) c raws ks) (hb : Below w.heap.size w w') {i : Nat} (hi : i < raws.length) (hc : ∀ j, j < 5 → w.cell? ⟨g, o + i * 5 + j, none⟩ = (rawC raws[i])[j]?) : ∀ j, j < 5 → w'.cell? ⟨g, o + i * 5 + j, none⟩ = (rawC raws[i])[j]? := fun j hj =>
  (cell_block (hb.block g (h.2.1 _ rfl (Nat.lt_of_le_of_lt (Nat.zero_le _) hi)))).trans (hc j hj)
end Go.Proofs.YtenlogfiabhfmaaGreatDoor.W14
/-
  Layer 14 (pattern), walk of the document's Same: of one piece that is read twice it is true. The conditions stand in the statement.
-/
namespace Go.Proofs.YtenlogfiabhfmaaGreatDoor.W14
set_option maxRecDepth 100000
open Go Go.RowKit Go.Proofs.YtenlogfiabhfmaaGreatDoor.Strs Go.Proofs.YtenlogfiabhfmaaGreatDoor.Recs Go.Proofs.YtenlogfiabhfmaaGreatDoor.M14
open Go.Proofs.YtenlogfiabhfmaaGreatDoor.Kit (below_draws on)

set_option maxHeartbeats 4000000 in
theorem same_any {X : Nat → Prop} {w0 : World} {r0 : Raw} {p : Piece} (h : PAt X w0 r0 p) : ∀ (w : World) (r1 r2 : Raw), PLow w r1 p → PLow w r2 p → Calls Tryz.prog 7 #[.agg (rawA r1), .agg (rawA r2)] w fun e w' => e = .returned (.bool true) ∧ Below w.heap.size w w' := by
  induction h with
  | mk k t A0 n0 c0 l tp raws0 ks B h hX hl hk ih =>
    intro w r1 r2 h1 h2
    obtain ⟨A1, c1, raws1, rfl, k1⟩ := h1.parts
    obtain ⟨A2, c2, raws2, rfl, k2⟩ := h2.parts
    have IH : Hid (∀ i (hi : i < ks.length), ∀ (w : World) (r1 r2 : Raw), PLow w r1 ks[i] → PLow w r2 ks[i] → Calls Tryz.prog 7 #[.agg (rawA r1), .agg (rawA r2)] w fun e w' => e = .returned (.bool true) ∧ Below w.heap.size w w') := fun i hi => ih i (by omega) hi
    have K1 := Lib.hid k1
    have K2 := Lib.hid k2
    have r1 := k1.room
    have r2 := k2.room
    clear h hX hl hk ih h1 h2 k1 k2
    have tk : (k != k) = false := by simp
    have tt : (t.toList != t.toList) = false := by simp
    have tl : (l != l) = false := by simp
    have tp2 : (tp != tp) = false := by simp
    have tn : ((ks.length : Int) != (ks.length : Int)) = false := by simp
    go_enter Tryz.func7, Tryz.ntmps7
    go_wp2_with (first
      | (refine box_arg (r := ⟨k, t, A1, ks.length, c1, l, tp⟩) rfl (.tmp 0) rfl rfl ?_; intro w1 b1 e1 p1 l1 z1)
      | (refine box_arg (r := ⟨k, t, A2, ks.length, c2, l, tp⟩) rfl (.tmp 1) rfl rfl ?_; intro w2 b2 e2 p2 l2 z2; have q1 := p1.below l2; have a0 := q1.c0; have a1 := q1.c1; have a2 := q1.c2; have a3 := q1.c3; have a4 := q1.c4; have d0 := p2.c0; have d1 := p2.c1; have d2 := p2.c2; have d3 := p2.c3; have d4 := p2.c4; have L2 := Lib.hid (l1.trans (l2.mono l1.size)); have P1 := Lib.hid q1; have P2 := Lib.hid p2; clear e1 p1 l1 z1 e2 p2 l2 z2 q1; simp only at a0 a1 a2 a3 a4 d0 d1 d2 d3 d4))
    clear a0 a1 a2 a3 a4 d0 d1 d2 d3 d4 tk tt tl tp2 tn
    have HN := Lib.hid (show ks.length ≤ c1 ∧ c1 ≤ 9223372036854775807 ∧ ks.length ≤ c2 ∧ c2 ≤ 9223372036854775807 from ⟨r1.1, r1.2, r2.1, r2.2⟩)
    clear r1 r2
    have K1 := Lib.hid (K1.out.below L2.out)
    have K2 := Lib.hid (K2.out.below L2.out)
    go_loopg [5] ks.length (fun gk s5 wr => ∃ i : Nat, s5 = .int .i64 i ∧ Hid (i + gk = ks.length) ∧ Hid (PBox wr b1 ⟨k, t, A1, ks.length, c1, l, tp⟩) ∧ Hid (PBox wr b2 ⟨k, t, A2, ks.length, c2, l, tp⟩) ∧ Hid (Kids wr A1 c1 raws1 ks) ∧ Hid (Kids wr A2 c2 raws2 ks) ∧ Hid (Below w.heap.size w wr))
    case atStart => exact ⟨0, rfl, by unfold Hid; omega, P1, P2, K1, K2, L2⟩
    case round =>
      obtain ⟨i, rfl, hig, P1, P2, K1, K2, HB⟩ := hrel
      have a2 := P1.out.c2
      have d2 := P2.out.c2
      simp only at a2 d2
      have hn1 := HN.out.1
      have hn2 := HN.out.2.1
      have hn3 := HN.out.2.2.1
      have hn4 := HN.out.2.2.2
      by_cases hi : i < ks.length
      · have ti : (i : Int) < (ks.length : Int) := by omega
        have hw : wrap64 ((i : Int) + 1) = ((i + 1 : Nat) : Int) := by unfold wrap64; omega
        obtain ⟨g1, o1, rfl, C1⟩ := K1.out.at_ (Nat.lt_of_le_of_lt (Nat.zero_le _) hi)
        obtain ⟨g2, o2, rfl, C2⟩ := K2.out.at_ (Nat.lt_of_le_of_lt (Nat.zero_le _) hi)
        obtain ⟨hr1, q1⟩ := K1.out.kid hi
        obtain ⟨hr2, q2⟩ := K2.out.kid hi
        have E1 := C1 i hr1
        have E2 := C2 i hr2
        have S0 : Hid ((wr.drewN 1).cell? ⟨b1, 2, none⟩ = some (.slice (some ⟨g1, o1, none⟩) ks.length c1) ∧ (wr.drewN 1).cell? ⟨b2, 2, none⟩ = some (.slice (some ⟨g2, o2, none⟩) ks.length c2) ∧ (∀ j, j < 5 → (wr.drewN 1).cell? ⟨g1, o1 + i * 5 + j, none⟩ = (rawC raws1[i])[j]?) ∧ (∀ j, j < 5 → (wr.drewN 1).cell? ⟨g2, o2 + i * 5 + j, none⟩ = (rawC raws2[i])[j]?) ∧ Below wr.heap.size wr (wr.drewN 1)) := ⟨a2, d2, E1, E2, below_draws wr 1⟩
        have KEEP : Hid (∀ (x : World), Below wr.heap.size wr x → x.cell? ⟨b1, 2, none⟩ = some (.slice (some ⟨g1, o1, none⟩) ks.length c1) ∧ x.cell? ⟨b2, 2, none⟩ = some (.slice (some ⟨g2, o2, none⟩) ks.length c2) ∧ (∀ j, j < 5 → x.cell? ⟨g1, o1 + i * 5 + j, none⟩ = (rawC raws1[i])[j]?) ∧ (∀ j, j < 5 → x.cell? ⟨g2, o2 + i * 5 + j, none⟩ = (rawC raws2[i])[j]?) ∧ Below wr.heap.size wr x) := fun x hx => ⟨(P1.out.below hx).c2, (P2.out.below hx).c2, K1.out.moved hx hr1 E1, K2.out.moved hx hr2 E2, hx⟩
        have HC := Lib.hid (fun x (hx : Below wr.heap.size wr x) => IH.out i hi x _ _ (q1.below hx) (q2.below hx))
        have HNW := Lib.hid hw
        clear C1 C2 q1 q2 E1 E2
        go_wp2_with fail
        refine wp_region_held_drew (S := fun w' => w'.cell? ⟨b1, 2, none⟩ = some (.slice (some ⟨g1, o1, none⟩) ks.length c1) ∧ w'.cell? ⟨b2, 2, none⟩ = some (.slice (some ⟨g2, o2, none⟩) ks.length c2) ∧ (∀ j, j < 5 → w'.cell? ⟨g1, o1 + i * 5 + j, none⟩ = (rawC raws1[i])[j]?) ∧ (∀ j, j < 5 → w'.cell? ⟨g2, o2 + i * 5 + j, none⟩ = (rawC raws2[i])[j]?) ∧ Below wr.heap.size wr w') (by kernel_rfl) S0.out (fun hHeld => ?_)
        refine wpAnyH_take (i := 0) (oi := { dst := some 48, op := Op.fieldAddr 25 (Operand.tmp 2) 2, type := 0, pos := "ref.go:254", after := #[], guard := none }) (v := ?vq0) rfl (by kernel_rfl) (by kernel_rfl) (by kernel_rfl) (fun _ _ _ h => h) (Or.inl ⟨by rfl, ?hq0⟩) (by assumption) ?rq0
        case hq0 => (intro w hSw; (try dsimp only at hSw); go_simp; try with_reducible rfl)
        try simp only [Act.put, List.setIfInBounds_toArray, List.set_cons_zero, List.set_cons_succ]
        refine wpAnyH_take (i := 1) (oi := { dst := some 49, op := Op.load 23 (Operand.tmp 48), type := 23, pos := "ref.go:254", after := #[{ on := 0, ground := Ground.data }], guard := none }) (v := ?vq1) rfl (by kernel_rfl) (by kernel_rfl) (by kernel_rfl) (fun _ _ _ h => h) (Or.inl ⟨by rfl, ?hq1⟩) (by assumption) ?rq1
        case hq1 => (intro w hSw; (try dsimp only at hSw); go_simp; try with_reducible rfl)
        try simp only [Act.put, List.setIfInBounds_toArray, List.set_cons_zero, List.set_cons_succ]
        refine wpAnyH_take (i := 2) (oi := { dst := some 50, op := Op.move (Operand.tmp 5), type := 3, pos := "ref.go:254", after := #[], guard := none }) (v := ?vq2) rfl (by kernel_rfl) (by kernel_rfl) (by kernel_rfl) (fun _ _ _ h => h) (Or.inl ⟨by rfl, ?hq2⟩) (by assumption) ?rq2
        case hq2 => (intro w hSw; (try dsimp only at hSw); go_simp; try with_reducible rfl)
        try simp only [Act.put, List.setIfInBounds_toArray, List.set_cons_zero, List.set_cons_succ]
        refine wpAnyH_take (i := 3) (oi := { dst := some 51, op := Op.indexAddr 23 (Operand.tmp 49) (Operand.tmp 50), type := 0, pos := "ref.go:254", after := #[{ on := 1, ground := Ground.data }, { on := 2, ground := Ground.data }], guard := none }) (v := ?vq3) rfl (by kernel_rfl) (by kernel_rfl) (by kernel_rfl) (fun _ _ _ h => h) (Or.inl ⟨by rfl, ?hq3⟩) (by assumption) ?rq3
        case hq3 => (intro w hSw; (try dsimp only at hSw); go_simp; try with_reducible rfl)
        try simp only [Act.put, List.setIfInBounds_toArray, List.set_cons_zero, List.set_cons_succ]
        refine wpAnyH_take (i := 4) (oi := { dst := some 52, op := Op.load 25 (Operand.tmp 51), type := 25, pos := "ref.go:254", after := #[{ on := 3, ground := Ground.data }], guard := none }) (v := ?vq4) rfl (by kernel_rfl) (by kernel_rfl) (by kernel_rfl) (fun _ _ _ h => h) (Or.inl ⟨by rfl, ?hq4⟩) (by assumption) ?rq4
        case hq4 => (intro w hSw; (try dsimp only at hSw); (first | (refine run_load_op (.tmp 51) ?_ ?_ hSw.2.2.1 <;> rfl) | (refine run_load_op (.tmp 56) ?_ ?_ hSw.2.2.2.1 <;> rfl) | (go_simp; try with_reducible rfl)))
        try simp only [Act.put, List.setIfInBounds_toArray, List.set_cons_zero, List.set_cons_succ]
        refine wpAnyH_take (i := 5) (oi := { dst := some 53, op := Op.fieldAddr 25 (Operand.tmp 3) 2, type := 0, pos := "ref.go:254", after := #[], guard := none }) (v := ?vq5) rfl (by kernel_rfl) (by kernel_rfl) (by kernel_rfl) (fun _ _ _ h => h) (Or.inl ⟨by rfl, ?hq5⟩) (by assumption) ?rq5
        case hq5 => (intro w hSw; (try dsimp only at hSw); go_simp; try with_reducible rfl)
        try simp only [Act.put, List.setIfInBounds_toArray, List.set_cons_zero, List.set_cons_succ]
        refine wpAnyH_take (i := 6) (oi := { dst := some 54, op := Op.load 23 (Operand.tmp 53), type := 23, pos := "ref.go:254", after := #[{ on := 5, ground := Ground.data }], guard := none }) (v := ?vq6) rfl (by kernel_rfl) (by kernel_rfl) (by kernel_rfl) (fun _ _ _ h => h) (Or.inl ⟨by rfl, ?hq6⟩) (by assumption) ?rq6
        case hq6 => (intro w hSw; (try dsimp only at hSw); go_simp; try with_reducible rfl)
        try simp only [Act.put, List.setIfInBounds_toArray, List.set_cons_zero, List.set_cons_succ]
        refine wpAnyH_take (i := 7) (oi := { dst := some 55, op := Op.move (Operand.tmp 5), type := 3, pos := "ref.go:254", after := #[], guard := none }) (v := ?vq7) rfl (by kernel_rfl) (by kernel_rfl) (by kernel_rfl) (fun _ _ _ h => h) (Or.inl ⟨by rfl, ?hq7⟩) (by assumption) ?rq7
        case hq7 => (intro w hSw; (try dsimp only at hSw); go_simp; try with_reducible rfl)
        try simp only [Act.put, List.setIfInBounds_toArray, List.set_cons_zero, List.set_cons_succ]
        refine wpAnyH_take (i := 8) (oi := { dst := some 56, op := Op.indexAddr 23 (Operand.tmp 54) (Operand.tmp 55), type := 0, pos := "ref.go:254", after := #[{ on := 6, ground := Ground.data }, { on := 7, ground := Ground.data }], guard := none }) (v := ?vq8) rfl (by kernel_rfl) (by kernel_rfl) (by kernel_rfl) (fun _ _ _ h => h) (Or.inl ⟨by rfl, ?hq8⟩) (by assumption) ?rq8
        case hq8 => (intro w hSw; (try dsimp only at hSw); go_simp; try with_reducible rfl)
        try simp only [Act.put, List.setIfInBounds_toArray, List.set_cons_zero, List.set_cons_succ]
        refine wpAnyH_take (i := 9) (oi := { dst := some 57, op := Op.load 25 (Operand.tmp 56), type := 25, pos := "ref.go:254", after := #[{ on := 8, ground := Ground.data }], guard := none }) (v := ?vq9) rfl (by kernel_rfl) (by kernel_rfl) (by kernel_rfl) (fun _ _ _ h => h) (Or.inl ⟨by rfl, ?hq9⟩) (by assumption) ?rq9
        case hq9 => (intro w hSw; (try dsimp only at hSw); (first | (refine run_load_op (.tmp 51) ?_ ?_ hSw.2.2.1 <;> rfl) | (refine run_load_op (.tmp 56) ?_ ?_ hSw.2.2.2.1 <;> rfl) | (go_simp; try with_reducible rfl)))
        try simp only [Act.put, List.setIfInBounds_toArray, List.set_cons_zero, List.set_cons_succ]
        refine wpAnyH_ready (rs := [10]) (by kernel_rfl) (by simp) ?_
        refine AllReadyH.cons (o := { dst := some 58, op := Op.call { callee := Callee.value (Operand.func 7), args := #[Operand.tmp 52, Operand.tmp 57], argTypes := #[25, 25] }, type := 4, pos := "ref.go:254", after := #[{ on := 4, ground := Ground.data }, { on := 9, ground := Ground.data }], guard := none }) rfl (fun K hK => ?_) AllReadyH.nil
        go_simp
        (go_at_call 7; refine (HC.out _ S0.out.2.2.2.2).mono ?_; rintro e x1 ⟨rfl, hb1⟩; have hS1 := KEEP.out _ (S0.out.2.2.2.2.trans (hb1.mono S0.out.2.2.2.2.size)); clear hb1)
        go_wp2_with fail
        refine hK.out _ _ ?_ (fun hHeld => ?_)
        · exact hS1
        clear hK K
        try simp only [Act.put, List.setIfInBounds_toArray, List.set_cons_zero, List.set_cons_succ]
        refine wpAnyH_take (i := 11) (oi := { dst := some 59, op := Op.unOp UnOp.not 4 (Operand.tmp 58), type := 4, pos := "ref.go:254", after := #[{ on := 10, ground := Ground.data }], guard := none }) (v := ?vq11) rfl (by kernel_rfl) (by kernel_rfl) (by kernel_rfl) (fun _ _ _ h => h) (Or.inl ⟨by rfl, ?hq11⟩) (by assumption) ?rq11
        case hq11 => (intro w hSw; (try dsimp only at hSw); go_simp; try with_reducible rfl)
        try simp only [Act.put, List.setIfInBounds_toArray, List.set_cons_zero, List.set_cons_succ]
        refine wpAnyH_done (by kernel_rfl) ?_ _
        have hx := hS1.2.2.2.2
        have N1 := Lib.hid (P1.out.below hx)
        have N2 := Lib.hid (P2.out.below hx)
        have M1 := Lib.hid (K1.out.below hx)
        have M2 := Lib.hid (K2.out.below hx)
        have NB := Lib.hid (HB.out.trans (hx.mono HB.out.size))
        clear hS1 hx S0 KEEP HC
        cases gk with
        | zero => exact absurd hig.out (by omega)
        | succ g =>
          go_wp2_with fail
          go_roundg g
          case measure => omega
          case rel => exact ⟨i + 1, by first | rfl | exact congrArg (Value.int .i64) HNW.out, by have := hig.out; unfold Hid; omega, N1, N2, M1, M2, NB⟩
      · have ti : ¬ (i : Int) < (ks.length : Int) := by omega
        go_wp2_with fail
        go_ret
        exact ⟨rfl, HB.out⟩
end Go.Proofs.YtenlogfiabhfmaaGreatDoor.W14
/-
  Layer 14 (pattern), walk of the document's Size: of a piece that may be it is the mathematics' size. The conditions stand in the statements.
-/
namespace Go.Proofs.YtenlogfiabhfmaaGreatDoor.W14
set_option maxRecDepth 100000
open Go Go.RowKit Go.Proofs.YtenlogfiabhfmaaGreatDoor.Strs Go.Proofs.YtenlogfiabhfmaaGreatDoor.Recs Go.Proofs.YtenlogfiabhfmaaGreatDoor.M14
open Go.Proofs.YtenlogfiabhfmaaGreatDoor.Kit (below_draws on)

theorem size_leaf {k : Int} (hk : k = 1 ∨ k = 2 ∨ k = 3 ∨ k = 4 ∨ k = 5 ∨ k = 6) (t : ByteArray) : size (M14.leaf k t) = if k = 1 then 0 else 1 := by
  unfold M14.leaf size
  by_cases h1 : k = 1
  · simp [h1]
  · simp [h1, show 2 ≤ k ∧ k ≤ 6 by omega]
def SizeTo (w : World) (p : Piece) (e : Ending) (w' : World) : Prop := e = .returned (.int .i64 (size p)) ∧ Below w.heap.size w w'
set_option maxHeartbeats 4000000 in
theorem rsize_leaf {k : Int} (hk : k = 1 ∨ k = 2 ∨ k = 3 ∨ k = 4 ∨ k = 5 ∨ k = 6) {t : ByteArray} {w : World} {r : Raw} (h : PLow w r (M14.leaf k t)) : Calls Tryz.prog 9 #[.agg (rawA r)] w (SizeTo w (M14.leaf k t)) := by
  unfold SizeTo
  rw [size_leaf hk]
  unfold M14.leaf at h
  obtain ⟨A, c, raws, rfl, k1⟩ := h.parts
  have r1 := k1.room.2
  simp only [List.length_nil]
  clear h k1
  rcases hk with rfl | rfl | rfl | rfl | rfl | rfl
  all_goals
    go_enter Tryz.func9, Tryz.ntmps9
    go_wp2_with (first
      | (refine box_arg rfl (.tmp 0) rfl rfl ?_; intro w1 b1 e1 p1 l1 z1; have a0 := p1.c0; have a2 := p1.c2; have L1 := Lib.hid l1; clear e1 p1 l1 z1; simp only at a0 a2))
    go_loopg [3, 4] 1 (fun gk s3 s4 wr => s3 = .int .i64 0 ∧ s4 = .int .i64 0 ∧ wr = w1)
    case atStart => exact ⟨rfl, rfl, rfl⟩
    case round =>
      obtain ⟨rfl, rfl, rfl⟩ := hrel
      go_wp2_with fail
      go_ret
      exact ⟨by first | rfl | simp, L1.out⟩
/-- what the loop has counted behind i kids -/
def cnt (k : Int) (ks : List Piece) (i : Nat) : Nat := min (sizes (ks.take i) + (if k = 8 then 2 * (i - 1) else 0)) 4001
theorem size_many {k : Int} (hk : k = 7 ∨ k = 8) (ks : List Piece) : size (.mk k ⟨#[]⟩ ks 0 0) = cnt k ks ks.length := by
  unfold size cnt
  rw [List.take_length]
  rcases hk with rfl | rfl
  · rw [if_neg (by decide), if_neg (by decide), if_pos rfl, if_neg (by decide)]; omega
  · rw [if_neg (by decide), if_neg (by decide), if_neg (by decide), if_pos rfl, if_pos rfl]; omega
theorem cnt_le (k : Int) (ks : List Piece) (i : Nat) : cnt k ks i ≤ 4001 := Nat.min_le_right _ _
theorem cnt_7 {ks : List Piece} {i n m : Nat} (hi : i < ks.length) (hn : cnt 7 ks i = n) (hm : size (ks[i]'hi) = m) : cnt 7 ks (i + 1) = min (n + m) 4001 := by
  subst hn hm
  unfold cnt
  rw [if_neg (by decide), if_neg (by decide), sizes_take hi]; omega
theorem cnt_8 {ks : List Piece} {i n m : Nat} (hi : i < ks.length) (hn : cnt 8 ks i = n) (hm : size (ks[i]'hi) = m) : cnt 8 ks (i + 1) = min (n + m + (if 0 < i then 2 else 0)) 4001 := by
  subst hn hm
  unfold cnt
  rw [if_pos rfl, if_pos rfl, sizes_take hi]
  by_cases h : 0 < i
  · rw [if_pos h]; omega
  · rw [if_neg h]
    obtain rfl : i = 0 := by omega
    simp only [List.take_zero, Nat.mul_zero, Nat.add_zero, Nat.zero_sub, Nat.zero_add, Nat.sub_self]
    omega
set_option maxHeartbeats 4000000 in
theorem rsize_seq {ks : List Piece} (IH : ∀ i (hi : i < ks.length) (w : World) (r : Raw), PLow w r ks[i] → Calls Tryz.prog 9 #[.agg (rawA r)] w (SizeTo w ks[i])) {w : World} {r : Raw} (h : PLow w r (.mk 7 ⟨#[]⟩ ks 0 0)) : Calls Tryz.prog 9 #[.agg (rawA r)] w (SizeTo w (.mk 7 ⟨#[]⟩ ks 0 0)) := by
  unfold SizeTo
  rw [size_many (.inl rfl)]
  obtain ⟨A, c, raws, rfl, k1⟩ := h.parts
  have HI := Lib.hid IH
  have hr1 := k1.room.1
  have hr2 := k1.room.2
  have K1 := Lib.hid k1
  clear h k1 IH
  go_enter Tryz.func9, Tryz.ntmps9
  go_wp2_with (first
    | (refine box_arg (r := ⟨7, ⟨#[]⟩, A, ks.length, c, 0, 0⟩) rfl (.tmp 0) rfl rfl ?_; intro w1 b1 e1 p1 l1 z1; have P1 := Lib.hid p1; have L1 := Lib.hid l1; clear e1 p1 l1 z1))
  have K1 := Lib.hid (K1.out.below L1.out)
  have HR := Lib.hid (show ks.length ≤ c ∧ c ≤ 9223372036854775807 from ⟨hr1, hr2⟩)
  clear hr1 hr2
  go_loopg [3, 4] ks.length (fun gk s3 s4 wr => ∃ i : Nat, s3 = .int .i64 (cnt 7 ks i : Nat) ∧ s4 = .int .i64 i ∧ Hid (i + gk = ks.length) ∧ Hid (PBox wr b1 ⟨7, ⟨#[]⟩, A, ks.length, c, 0, 0⟩) ∧ Hid (Kids wr A c raws ks) ∧ Hid (Below w.heap.size w wr))
  case atStart => exact ⟨0, rfl, rfl, by unfold Hid; omega, P1, K1, L1⟩
  case round =>
    obtain ⟨i, rfl, rfl, hig, P1, K1, HB⟩ := hrel
    have a0 := P1.out.c0
    have a2 := P1.out.c2
    simp only at a0 a2
    have hn1 := HR.out.1
    have hn2 := HR.out.2
    by_cases hi : i < ks.length
    · have ti : (i : Int) < (ks.length : Int) := by omega
      obtain ⟨g1, o1, rfl, C1⟩ := K1.out.at_ (Nat.lt_of_le_of_lt (Nat.zero_le _) hi)
      obtain ⟨hr1, q1⟩ := K1.out.kid hi
      have E1 := Lib.hid (C1 i hr1)
      have HC := Lib.hid (HI.out i hi wr _ q1)
      have HL := Lib.hid (cnt_le 7 ks i)
      have HI2 := Lib.hid hi
      clear C1 q1
      obtain ⟨n, hn⟩ : ∃ n, cnt 7 ks i = n := ⟨_, rfl⟩
      obtain ⟨m, hm⟩ : ∃ m, size (ks[i]'hi) = m := ⟨_, rfl⟩
      have HX := Lib.hid (cnt_7 hi hn hm)
      rw [hn] at HL ⊢
      have HS := Lib.hid (show m ≤ 4001 from hm ▸ size_le _)
      have HM := Lib.hid hm
      clear hn hm
      go_wp2_with (first | (refine load_at rfl (.tmp 27) rfl rfl (r := raws[i]) E1.out ?_))
      refine HC.out.mono ?_
      rintro e w2 ⟨rfl, l2⟩
      rw [HM.out]
      have P2 := Lib.hid (P1.out.below l2)
      have K2 := Lib.hid (K1.out.below l2)
      have B2 := Lib.hid (HB.out.trans (l2.mono HB.out.size))
      have a0 := P2.out.c0
      have a2 := P2.out.c2
      simp only at a0 a2
      have hw : wrap64 ((n : Int) + (m : Int)) = ((n + m : Nat) : Int) := by have := HS.out; have := HL.out; unfold wrap64; omega
      have hwi : wrap64 ((i : Int) + 1) = ((i + 1 : Nat) : Int) := by unfold wrap64; omega
      have hmin : min ((n + m : Nat) : Int) 4001 = ((cnt 7 ks (i + 1) : Nat) : Int) := by rw [HX.out]; omega
      have HWI := Lib.hid hwi
      clear l2 HC E1
      cases gk with
      | zero => exact absurd hig.out (by have := HI2.out; omega)
      | succ g =>
        by_cases h0 : 0 < i
        · have t0 : (0 : Int) < (i : Int) := by omega
          go_wp2_with fail
          go_roundg g
          case measure => omega
          case rel => exact ⟨i + 1, by first | rfl | exact congrArg (Value.int .i64) hmin, by first | rfl | exact congrArg (Value.int .i64) HWI.out, by have := hig.out; unfold Hid; omega, P2, K2, B2⟩
        · have t0 : ¬ (0 : Int) < (i : Int) := by omega
          go_wp2_with fail
          go_roundg g
          case measure => omega
          case rel => exact ⟨i + 1, by first | rfl | exact congrArg (Value.int .i64) hmin, by first | rfl | exact congrArg (Value.int .i64) HWI.out, by have := hig.out; unfold Hid; omega, P2, K2, B2⟩
    · have ti : ¬ (i : Int) < (ks.length : Int) := by omega
      have hie : i = ks.length := by have := hig.out; omega
      have hle := cnt_le 7 ks i
      have HE := Lib.hid hie
      have hmin : min ((cnt 7 ks i : Nat) : Int) 4001 = ((cnt 7 ks i : Nat) : Int) := by omega
      clear hle hie
      go_wp2_with fail
      go_ret
      exact ⟨by rw [← HE.out]; first | rfl | rw [hmin], HB.out⟩
set_option maxHeartbeats 4000000 in
theorem rsize_alt {ks : List Piece} (IH : ∀ i (hi : i < ks.length) (w : World) (r : Raw), PLow w r ks[i] → Calls Tryz.prog 9 #[.agg (rawA r)] w (SizeTo w ks[i])) {w : World} {r : Raw} (h : PLow w r (.mk 8 ⟨#[]⟩ ks 0 0)) : Calls Tryz.prog 9 #[.agg (rawA r)] w (SizeTo w (.mk 8 ⟨#[]⟩ ks 0 0)) := by
  unfold SizeTo
  rw [size_many (.inr rfl)]
  obtain ⟨A, c, raws, rfl, k1⟩ := h.parts
  have HI := Lib.hid IH
  have hr1 := k1.room.1
  have hr2 := k1.room.2
  have K1 := Lib.hid k1
  clear h k1 IH
  go_enter Tryz.func9, Tryz.ntmps9
  go_wp2_with (first
    | (refine box_arg (r := ⟨8, ⟨#[]⟩, A, ks.length, c, 0, 0⟩) rfl (.tmp 0) rfl rfl ?_; intro w1 b1 e1 p1 l1 z1; have P1 := Lib.hid p1; have L1 := Lib.hid l1; clear e1 p1 l1 z1))
  have K1 := Lib.hid (K1.out.below L1.out)
  have HR := Lib.hid (show ks.length ≤ c ∧ c ≤ 9223372036854775807 from ⟨hr1, hr2⟩)
  clear hr1 hr2
  go_loopg [3, 4] ks.length (fun gk s3 s4 wr => ∃ i : Nat, s3 = .int .i64 (cnt 8 ks i : Nat) ∧ s4 = .int .i64 i ∧ Hid (i + gk = ks.length) ∧ Hid (PBox wr b1 ⟨8, ⟨#[]⟩, A, ks.length, c, 0, 0⟩) ∧ Hid (Kids wr A c raws ks) ∧ Hid (Below w.heap.size w wr))
  case atStart => exact ⟨0, rfl, rfl, by unfold Hid; omega, P1, K1, L1⟩
  case round =>
    obtain ⟨i, rfl, rfl, hig, P1, K1, HB⟩ := hrel
    have a0 := P1.out.c0
    have a2 := P1.out.c2
    simp only at a0 a2
    have hn1 := HR.out.1
    have hn2 := HR.out.2
    by_cases hi : i < ks.length
    · have ti : (i : Int) < (ks.length : Int) := by omega
      obtain ⟨g1, o1, rfl, C1⟩ := K1.out.at_ (Nat.lt_of_le_of_lt (Nat.zero_le _) hi)
      obtain ⟨hr1, q1⟩ := K1.out.kid hi
      have E1 := Lib.hid (C1 i hr1)
      have HC := Lib.hid (HI.out i hi wr _ q1)
      have HL := Lib.hid (cnt_le 8 ks i)
      have HI2 := Lib.hid hi
      clear C1 q1
      obtain ⟨n, hn⟩ : ∃ n, cnt 8 ks i = n := ⟨_, rfl⟩
      obtain ⟨m, hm⟩ : ∃ m, size (ks[i]'hi) = m := ⟨_, rfl⟩
      have HX := Lib.hid (cnt_8 hi hn hm)
      rw [hn] at HL ⊢
      have HS := Lib.hid (show m ≤ 4001 from hm ▸ size_le _)
      have HM := Lib.hid hm
      clear hn hm
      go_wp2_with (first | (refine load_at rfl (.tmp 27) rfl rfl (r := raws[i]) E1.out ?_))
      refine HC.out.mono ?_
      rintro e w2 ⟨rfl, l2⟩
      rw [HM.out]
      have P2 := Lib.hid (P1.out.below l2)
      have K2 := Lib.hid (K1.out.below l2)
      have B2 := Lib.hid (HB.out.trans (l2.mono HB.out.size))
      have a0 := P2.out.c0
      have a2 := P2.out.c2
      simp only at a0 a2
      have hw : wrap64 ((n : Int) + (m : Int)) = ((n + m : Nat) : Int) := by have := HS.out; have := HL.out; unfold wrap64; omega
      have hwi : wrap64 ((i : Int) + 1) = ((i + 1 : Nat) : Int) := by unfold wrap64; omega
      have HWI := Lib.hid hwi
      clear l2 HC E1
      cases gk with
      | zero => exact absurd hig.out (by have := HI2.out; omega)
      | succ g =>
        by_cases h0 : 0 < i
        · have t0 : (0 : Int) < (i : Int) := by omega
          have hw3 : wrap64 ((n : Int) + (m : Int) + 2) = ((n + m + 2 : Nat) : Int) := by have := HS.out; have := HL.out; unfold wrap64; omega
          have hmin : min (wrap64 ((n : Int) + (m : Int) + 2)) 4001 = ((cnt 8 ks (i + 1) : Nat) : Int) := by rw [hw3, HX.out, if_pos h0]; omega
          clear hw3
          go_wp2_with fail
          go_roundg g
          case measure => omega
          case rel => exact ⟨i + 1, by first | rfl | exact congrArg (Value.int .i64) hmin, by first | rfl | exact congrArg (Value.int .i64) HWI.out, by have := hig.out; unfold Hid; omega, P2, K2, B2⟩
        · have t0 : ¬ (0 : Int) < (i : Int) := by omega
          have hmin : min ((n + m : Nat) : Int) 4001 = ((cnt 8 ks (i + 1) : Nat) : Int) := by rw [HX.out, if_neg h0]; omega
          go_wp2_with fail
          go_roundg g
          case measure => omega
          case rel => exact ⟨i + 1, by first | rfl | exact congrArg (Value.int .i64) hmin, by first | rfl | exact congrArg (Value.int .i64) HWI.out, by have := hig.out; unfold Hid; omega, P2, K2, B2⟩
    · have ti : ¬ (i : Int) < (ks.length : Int) := by omega
      have hie : i = ks.length := by have := hig.out; omega
      have hle := cnt_le 8 ks i
      have HE := Lib.hid hie
      have hmin : min ((cnt 8 ks i : Nat) : Int) 4001 = ((cnt 8 ks i : Nat) : Int) := by omega
      clear hle hie
      go_wp2_with fail
      go_ret
      exact ⟨by rw [← HE.out]; first | rfl | rw [hmin], HB.out⟩
theorem size_rep (p : Piece) (M : Nat) (t : Int) : size (.mk 9 ⟨#[]⟩ [p] M t) = min 4001 (if t = -1 then M * size p + size p + 2 else M * size p + (t - M).toNat * (size p + 1)) := by
  have h1 : sizes [p] = size p := by simp [sizes]
  conv => lhs; unfold size
  rw [if_neg (by decide), if_neg (by decide), if_neg (by decide), if_neg (by decide), h1, Int.toNat_natCast]
theorem mul_small {a b : Nat} (ha : a ≤ 100) (hb : b ≤ 4002) : a * b ≤ 400200 := Nat.le_trans (Nat.mul_le_mul ha hb) (by decide)
/-- what tells how often may tell -/
def Often (m t : Int) : Prop := (0 ≤ m ∧ m ≤ 100) ∧ (t = -1 ∨ m ≤ t ∧ t ≤ 100)
set_option maxHeartbeats 1000000 in
theorem roften_any {m t : Int} (h : Often m t) {A : Option Addr} {c : Nat} (hc : 1 ≤ c ∧ c ≤ 9223372036854775807) (w : World) : Calls Tryz.prog 14 #[.agg (rawA ⟨9, ⟨#[]⟩, A, 1, c, m, t⟩)] w fun e w' => e = .returned (.bool true) ∧ Below w.heap.size w w' := by
  obtain ⟨⟨hm0, hm1⟩, ht⟩ := h
  have hc1 := hc.1
  have hc2 := hc.2
  have x1 : ¬ m < 0 := by omega
  have x2 : ¬ 100 < m := by omega
  have x3 : ¬ 100 < t := by omega
  by_cases q : t = -1
  · subst q
    clear hc x3 hm0 hm1 ht
    go_enter Tryz.func14, Tryz.ntmps14
    go_wp2_with (first
      | (refine box_arg (r := ⟨9, ⟨#[]⟩, A, 1, c, m, -1⟩) rfl (.tmp 0) rfl rfl ?_; intro w1 b1 e1 p1 l1 z1; have a1 := p1.c1; have a2 := p1.c2; have a3 := p1.c3; have a4 := p1.c4; have L1 := Lib.hid l1; clear e1 p1 l1 z1; simp only at a1 a2 a3 a4))
    go_ret
    exact ⟨rfl, L1.out⟩
  · have x4 : (t == -1) = false := by simpa using q
    have x5 : m ≤ t := by omega
    clear hc hm0 hm1 ht q
    go_enter Tryz.func14, Tryz.ntmps14
    go_wp2_with (first
      | (refine box_arg (r := ⟨9, ⟨#[]⟩, A, 1, c, m, t⟩) rfl (.tmp 0) rfl rfl ?_; intro w1 b1 e1 p1 l1 z1; have a1 := p1.c1; have a2 := p1.c2; have a3 := p1.c3; have a4 := p1.c4; have L1 := Lib.hid l1; clear e1 p1 l1 z1; simp only at a1 a2 a3 a4))
    go_ret
    exact ⟨rfl, L1.out⟩
end Go.Proofs.YtenlogfiabhfmaaGreatDoor.W14
/-
  Layer 14 (pattern), walk of the document's Size: of what is asked for often, and of any piece that may be. The conditions stand in the statements.
-/
namespace Go.Proofs.YtenlogfiabhfmaaGreatDoor.W14
set_option maxRecDepth 100000
open Go Go.RowKit Go.Proofs.YtenlogfiabhfmaaGreatDoor.Strs Go.Proofs.YtenlogfiabhfmaaGreatDoor.Recs Go.Proofs.YtenlogfiabhfmaaGreatDoor.M14
open Go.Proofs.YtenlogfiabhfmaaGreatDoor.Kit (below_draws on)

theorem wrap_nat {a : Int} {n : Nat} (h : a = (n : Int)) (hn : n ≤ 4000000) : wrap64 a = (n : Int) := by subst h; unfold wrap64; omega
theorem min_nat (n : Nat) : min (n : Int) 4001 = ((min 4001 n : Nat) : Int) := by omega
set_option maxHeartbeats 4000000 in
theorem rsize_ever {p : Piece} {M : Nat} (hM : M ≤ 100) (IH : ∀ (w : World) (r : Raw), PLow w r p → Calls Tryz.prog 9 #[.agg (rawA r)] w (SizeTo w p)) {w : World} {r : Raw} (h : PLow w r (.mk 9 ⟨#[]⟩ [p] M (-1))) : Calls Tryz.prog 9 #[.agg (rawA r)] w (SizeTo w (.mk 9 ⟨#[]⟩ [p] M (-1))) := by
  unfold SizeTo
  rw [size_rep]
  obtain ⟨A, c, raws, rfl, k1⟩ := h.parts
  have hr : 1 ≤ c ∧ c ≤ 9223372036854775807 := k1.room
  obtain ⟨g1, o1, rfl, C1⟩ := k1.at_ (Nat.lt_succ_self 0)
  obtain ⟨hr1, q1⟩ := k1.kid (i := 0) (Nat.lt_succ_self 0)
  have HG := Lib.hid (k1.2.1 _ rfl (Nat.lt_of_le_of_lt (Nat.zero_le _) hr1))
  have E1 := C1 0 hr1
  obtain ⟨rk, hrk⟩ : ∃ rk, raws[0] = rk := ⟨_, rfl⟩
  rw [hrk] at E1 q1
  have Q1 : Hid (PLow w rk p) := q1
  rw [show o1 + 0 * 5 = o1 by omega] at E1
  have E1 := Lib.hid E1
  have HI := Lib.hid (fun (w : World) (h : PLow w rk p) => IH w rk h)
  have HO := Lib.hid (fun w => roften_any (m := (M : Int)) (t := (-1)) ⟨by omega, by omega⟩ (A := some ⟨g1, o1, none⟩) hr w)
  have hS := size_le p
  obtain ⟨K, hK⟩ : ∃ K, size p = K := ⟨_, rfl⟩
  have HK := Lib.hid hK
  rw [hK] at hS ⊢
  have hMS := mul_small (a := M) (b := K) (by omega) (by omega)
  obtain ⟨P, hP⟩ : ∃ P, M * K = P := ⟨_, rfl⟩
  rw [hP] at hMS
  have hw1 : Hid (wrap64 ((M : Int) * (K : Int)) = (P : Int)) := wrap_nat (by rw [← Int.natCast_mul, hP]) (Nat.le_trans hMS (by decide))
  replace hP := Lib.hid hP
  obtain ⟨P2, hP2⟩ : ∃ P2, P + K = P2 := ⟨_, rfl⟩
  have hw2 : Hid (wrap64 ((P : Int) + (K : Int)) = (P2 : Int)) := wrap_nat (by rw [← hP2, Int.natCast_add]) (by omega)
  obtain ⟨P3, hP3⟩ : ∃ P3, P2 + 2 = P3 := ⟨_, rfl⟩
  have hw3 : Hid (wrap64 ((P2 : Int) + 2) = (P3 : Int)) := wrap_nat (by rw [← hP3, Int.natCast_add]; rfl) (by omega)
  have hmin := min_nat P3
  have HE : Hid (min 4001 (if (-1 : Int) = -1 then M * K + K + 2 else M * K + (-1 - (M : Int)).toNat * (K + 1)) = min 4001 P3) := by
    unfold Hid
    rw [if_pos rfl, hP.out, hP2, hP3]
  rw [HE.out]
  clear HE
  have hc1 := hr.1
  have hc2 := hr.2
  have HMIN := Lib.hid hmin
  clear hM
  clear h k1 C1 q1 hrk hr1 IH hK hS hMS hP2 hP3 hr hmin
  go_enter Tryz.func9, Tryz.ntmps9
  go_wp2_with (first
    | (refine box_arg (r := ⟨9, ⟨#[]⟩, some ⟨g1, o1, none⟩, 1, c, (M : Int), (-1)⟩) rfl (.tmp 0) rfl rfl ?_; intro w1 b1 e1 p1 l1 z1; have P1 := Lib.hid p1; have L1 := Lib.hid l1; have a0 := p1.c0; have a1 := p1.c1; have a2 := p1.c2; have a3 := p1.c3; have a4 := p1.c4; clear e1 p1 l1 z1; simp only at a0 a1 a2 a3 a4))
  go_loopg [3, 4] 1 (fun gk s3 s4 wr => s3 = .int .i64 0 ∧ s4 = .int .i64 0 ∧ wr = w1)
  case atStart => exact ⟨rfl, rfl, rfl⟩
  case round =>
    obtain ⟨rfl, rfl, rfl⟩ := hrel
    go_wp2_with fail
    refine (HO.out _).mono ?_
    rintro e w2 ⟨rfl, l2⟩
    have PB2 := Lib.hid (P1.out.below l2)
    have L2 := Lib.hid (L1.out.trans (l2.mono L1.out.size))
    have E2 : Hid (∀ j, j < 5 → w2.cell? ⟨g1, o1 + j, none⟩ = (rawC rk)[j]?) := fun j hj => (cell_block (L2.out.block g1 HG.out)).trans (E1.out j hj)
    have Q2 := Lib.hid (Q1.out.below L2.out)
    have a0 := PB2.out.c0
    have a2 := PB2.out.c2
    simp only at a0 a2
    clear l2
    go_wp2_with (first | (refine load_at rfl (.tmp 73) rfl rfl (r := rk) E2.out ?_))
    refine (HI.out _ Q2.out).mono ?_
    rintro e w3 ⟨rfl, l3⟩
    rw [HK.out]
    have PB3 := Lib.hid (PB2.out.below l3)
    have L3 := Lib.hid (L2.out.trans (l3.mono L2.out.size))
    have a3 := PB3.out.c3
    have a4 := PB3.out.c4
    simp only at a3 a4
    clear l3
    replace hw1 := hw1.out
    replace hw2 := hw2.out
    replace hw3 := hw3.out
    go_wp2_with fail
    go_ret
    refine ⟨?_, L3.out⟩
    first | rfl | exact congrArg (fun x => Ending.returned (Value.int .i64 x)) HMIN.out
set_option maxHeartbeats 4000000 in
theorem rsize_upto {p : Piece} {M T : Nat} (hM : M ≤ 100) (hT : M ≤ T ∧ T ≤ 100) (IH : ∀ (w : World) (r : Raw), PLow w r p → Calls Tryz.prog 9 #[.agg (rawA r)] w (SizeTo w p)) {w : World} {r : Raw} (h : PLow w r (.mk 9 ⟨#[]⟩ [p] M (T : Int))) : Calls Tryz.prog 9 #[.agg (rawA r)] w (SizeTo w (.mk 9 ⟨#[]⟩ [p] M (T : Int))) := by
  unfold SizeTo
  rw [size_rep]
  obtain ⟨A, c, raws, rfl, k1⟩ := h.parts
  have hr : 1 ≤ c ∧ c ≤ 9223372036854775807 := k1.room
  obtain ⟨g1, o1, rfl, C1⟩ := k1.at_ (Nat.lt_succ_self 0)
  obtain ⟨hr1, q1⟩ := k1.kid (i := 0) (Nat.lt_succ_self 0)
  have HG := Lib.hid (k1.2.1 _ rfl (Nat.lt_of_le_of_lt (Nat.zero_le _) hr1))
  have E1 := C1 0 hr1
  obtain ⟨rk, hrk⟩ : ∃ rk, raws[0] = rk := ⟨_, rfl⟩
  rw [hrk] at E1 q1
  have Q1 : Hid (PLow w rk p) := q1
  rw [show o1 + 0 * 5 = o1 by omega] at E1
  have E1 := Lib.hid E1
  have HI := Lib.hid (fun (w : World) (h : PLow w rk p) => IH w rk h)
  have HO := Lib.hid (fun w => roften_any (m := (M : Int)) (t := (T : Int)) ⟨by omega, by omega⟩ (A := some ⟨g1, o1, none⟩) hr w)
  have hS := size_le p
  obtain ⟨K, hK⟩ : ∃ K, size p = K := ⟨_, rfl⟩
  have HK := Lib.hid hK
  rw [hK] at hS ⊢
  have hMS := mul_small (a := M) (b := K) (by omega) (by omega)
  obtain ⟨P, hP⟩ : ∃ P, M * K = P := ⟨_, rfl⟩
  rw [hP] at hMS
  have hw1 : Hid (wrap64 ((M : Int) * (K : Int)) = (P : Int)) := wrap_nat (by rw [← Int.natCast_mul, hP]) (Nat.le_trans hMS (by decide))
  replace hP := Lib.hid hP
  obtain ⟨P2, hP2⟩ : ∃ P2, P + K = P2 := ⟨_, rfl⟩
  have hw2 : Hid (wrap64 ((P : Int) + (K : Int)) = (P2 : Int)) := wrap_nat (by rw [← hP2, Int.natCast_add]) (by omega)
  obtain ⟨P3, hP3⟩ : ∃ P3, P2 + 2 = P3 := ⟨_, rfl⟩
  have hw3 : Hid (wrap64 ((P2 : Int) + 2) = (P3 : Int)) := wrap_nat (by rw [← hP3, Int.natCast_add]; rfl) (by omega)
  obtain ⟨D, hD⟩ : ∃ D, T - M = D := ⟨_, rfl⟩
  have hw4 : Hid (wrap64 ((T : Int) - (M : Int)) = (D : Int)) := wrap_nat (by omega) (by omega)
  obtain ⟨K2, hK2⟩ : ∃ K2, K + 1 = K2 := ⟨_, rfl⟩
  have hw5 : Hid (wrap64 ((K : Int) + 1) = (K2 : Int)) := wrap_nat (by omega) (by omega)
  have hDS := mul_small (a := D) (b := K2) (by omega) (by omega)
  obtain ⟨G, hG⟩ : ∃ G, D * K2 = G := ⟨_, rfl⟩
  rw [hG] at hDS
  have hw6 : Hid (wrap64 ((D : Int) * (K2 : Int)) = (G : Int)) := wrap_nat (by rw [← Int.natCast_mul, hG]) (Nat.le_trans hDS (by decide))
  replace hG := Lib.hid hG
  obtain ⟨N, hN⟩ : ∃ N, P + G = N := ⟨_, rfl⟩
  have hw7 : Hid (wrap64 ((P : Int) + (G : Int)) = (N : Int)) := wrap_nat (by rw [← hN, Int.natCast_add]) (by omega)
  have hmin := min_nat N
  have HE : Hid (min 4001 (if (T : Int) = -1 then M * K + K + 2 else M * K + ((T : Int) - (M : Int)).toNat * (K + 1)) = min 4001 N) := by
    unfold Hid
    rw [if_neg (by omega), show ((T : Int) - (M : Int)).toNat = D by omega, hP.out, hK2, hG.out, hN]
  have x0 : (0 : Int) ≤ (T : Int) := by omega
  rw [HE.out]
  clear HE
  have hc1 := hr.1
  have hc2 := hr.2
  have HMIN := Lib.hid hmin
  replace x0 := Lib.hid x0
  clear hM hT
  clear h k1 C1 q1 hrk hr1 IH hK hS hMS hP2 hP3 hr hmin hD hK2 hDS hN
  go_enter Tryz.func9, Tryz.ntmps9
  go_wp2_with (first
    | (refine box_arg (r := ⟨9, ⟨#[]⟩, some ⟨g1, o1, none⟩, 1, c, (M : Int), (T : Int)⟩) rfl (.tmp 0) rfl rfl ?_; intro w1 b1 e1 p1 l1 z1; have P1 := Lib.hid p1; have L1 := Lib.hid l1; have a0 := p1.c0; have a1 := p1.c1; have a2 := p1.c2; have a3 := p1.c3; have a4 := p1.c4; clear e1 p1 l1 z1; simp only at a0 a1 a2 a3 a4))
  go_loopg [3, 4] 1 (fun gk s3 s4 wr => s3 = .int .i64 0 ∧ s4 = .int .i64 0 ∧ wr = w1)
  case atStart => exact ⟨rfl, rfl, rfl⟩
  case round =>
    obtain ⟨rfl, rfl, rfl⟩ := hrel
    go_wp2_with fail
    refine (HO.out _).mono ?_
    rintro e w2 ⟨rfl, l2⟩
    have PB2 := Lib.hid (P1.out.below l2)
    have L2 := Lib.hid (L1.out.trans (l2.mono L1.out.size))
    have E2 : Hid (∀ j, j < 5 → w2.cell? ⟨g1, o1 + j, none⟩ = (rawC rk)[j]?) := fun j hj => (cell_block (L2.out.block g1 HG.out)).trans (E1.out j hj)
    have Q2 := Lib.hid (Q1.out.below L2.out)
    have a0 := PB2.out.c0
    have a2 := PB2.out.c2
    simp only at a0 a2
    clear l2
    go_wp2_with (first | (refine load_at rfl (.tmp 73) rfl rfl (r := rk) E2.out ?_))
    refine (HI.out _ Q2.out).mono ?_
    rintro e w3 ⟨rfl, l3⟩
    rw [HK.out]
    have PB3 := Lib.hid (PB2.out.below l3)
    have L3 := Lib.hid (L2.out.trans (l3.mono L2.out.size))
    have a3 := PB3.out.c3
    have a4 := PB3.out.c4
    simp only at a3 a4
    clear l3
    replace hw1 := hw1.out
    replace hw2 := hw2.out
    replace hw3 := hw3.out
    replace hw4 := hw4.out
    replace hw5 := hw5.out
    replace hw6 := hw6.out
    replace hw7 := hw7.out
    replace x0 := x0.out
    go_wp2_with fail
    go_ret
    refine ⟨?_, L3.out⟩
    first | rfl | exact congrArg (fun x => Ending.returned (Value.int .i64 x)) HMIN.out
theorem rsize_any {p : Piece} (h : Whole p) : ∀ (w : World) (r : Raw), PLow w r p → Calls Tryz.prog 9 #[.agg (rawA r)] w (SizeTo w p) := by
  induction h with
  | none k hk => exact fun w r q => rsize_leaf (by omega) q
  | char c => exact fun w r q => rsize_leaf (by omega) q
  | set f => exact fun w r q => rsize_leaf (by omega) q
  | many k hk l h2 h3 hw ih =>
    have IH : ∀ i (hi : i < l.length) (w : World) (r : Raw), PLow w r l[i] → Calls Tryz.prog 9 #[.agg (rawA r)] w (SizeTo w l[i]) := fun i hi => ih l[i] (List.getElem_mem hi)
    rcases hk with rfl | rfl
    · exact fun w r q => rsize_seq IH q
    · exact fun w r q => rsize_alt IH q
  | rep p m t hm ht hw ih =>
    obtain ⟨M, rfl⟩ : ∃ M : Nat, m = (M : Int) := ⟨m.toNat, by omega⟩
    by_cases q : t = -1
    · subst q; exact fun w r q => rsize_ever (by omega) ih q
    · obtain ⟨T, rfl⟩ : ∃ T : Nat, t = (T : Int) := ⟨t.toNat, by omega⟩
      exact fun w r q => rsize_upto (by omega) (by omega) ih q
end Go.Proofs.YtenlogfiabhfmaaGreatDoor.W14
/-
  Layer 14 (pattern), walks of the program's sizes, isRepeat and repeated. The conditions stand in the statements.
-/
namespace Go.Proofs.YtenlogfiabhfmaaGreatDoor.W14
set_option maxRecDepth 100000
open Go Go.RowKit Go.Proofs.YtenlogfiabhfmaaGreatDoor.Strs Go.Proofs.YtenlogfiabhfmaaGreatDoor.Recs Go.Proofs.YtenlogfiabhfmaaGreatDoor.M14
open Go.Proofs.YtenlogfiabhfmaaGreatDoor.Kit (below_draws on)

/-- the program's Size of a piece -/
def PSize (p : Piece) : Prop := ∀ (w : World) (r : Raw), PLow w r p → Calls Tryz.prog 10 #[.agg (rawA r)] w (SizeTo w p)
theorem wrap_nat2 {a : Int} {n : Nat} (h : a = (n : Int)) (hn : n ≤ 9000000) : wrap64 a = (n : Int) := by subst h; unfold wrap64; omega
theorem mayB_often {m t : Int} (h : Often m t) : mayB m t = true := by
  obtain ⟨⟨h1, h2⟩, h3⟩ := h
  unfold mayB
  rcases h3 with h3 | ⟨h3, h4⟩ <;> simp [*]
def SumTo (w : World) (N0 : Nat) (e : Ending) (w' : World) : Prop := ∃ N : Nat, e = .returned (.int .i64 N) ∧ Hid (min 4001 N = min 4001 N0) ∧ Hid (N ≤ 4000000) ∧ Below w.heap.size w w'
set_option maxHeartbeats 4000000 in
theorem psizes_any {ks : List Piece} (IH : ∀ i (hi : i < ks.length), PSize ks[i]) {w : World} {A : Option Addr} {c : Nat} {raws : List Raw} (k1 : Kids w A c raws ks) : Calls Tryz.prog 15 #[.slice A ks.length c] w (SumTo w (sizes ks)) := by
  have HI := Lib.hid IH
  have hr1 := k1.room.1
  have hr2 := k1.room.2
  have K1 := Lib.hid k1
  have HR := Lib.hid (show ks.length ≤ c ∧ c ≤ 9223372036854775807 from ⟨hr1, hr2⟩)
  clear IH k1
  go_enter Tryz.func15, Tryz.ntmps15
  go_wp2_with fail
  clear hr1 hr2
  go_loopg [3, 8] ks.length (fun gk s3 s8 wr => ∃ i n : Nat, s3 = .int .i64 n ∧ s8 = .int .i64 i ∧ Hid (n = sizes (ks.take i)) ∧ Hid (n ≤ 4000) ∧ Hid (i + gk = ks.length) ∧ Hid (Kids wr A c raws ks) ∧ Hid (Below w.heap.size w wr))
  case atStart => exact ⟨0, 0, rfl, rfl, rfl, Nat.zero_le _, by unfold Hid; omega, K1, Below.refl _ _⟩
  case round =>
    obtain ⟨i, n, rfl, rfl, hn, hnl, hig, K1, HB⟩ := hrel
    have hn1 := HR.out.1
    have hn2 := HR.out.2
    by_cases hi : i < ks.length
    · have ti : (i : Int) < (ks.length : Int) := by omega
      obtain ⟨g1, o1, rfl, C1⟩ := K1.out.at_ (Nat.lt_of_le_of_lt (Nat.zero_le _) hi)
      obtain ⟨hr1, q1⟩ := K1.out.kid hi
      have E1 := Lib.hid (C1 i hr1)
      have Q1 := Lib.hid q1
      have HS := Lib.hid (size_le (ks[i]'hi))
      have HT := Lib.hid (sizes_take hi)
      have HI2 := Lib.hid hi
      obtain ⟨rk, hrk⟩ : ∃ rk, raws[i]'hr1 = rk := ⟨_, rfl⟩
      rw [hrk] at E1 Q1
      have HC := Lib.hid (fun (w : World) (h : PLow w rk (ks[i]'hi)) => HI.out i hi w rk h)
      obtain ⟨m, hm⟩ : ∃ m, size (ks[i]'hi) = m := ⟨_, rfl⟩
      have HM := Lib.hid hm
      rw [hm] at HS HT
      clear C1 q1 hm hrk
      go_wp2_with (first
        | (refine load_at rfl (.tmp 10) rfl rfl (r := rk) E1.out ?_)
        | (refine alloc_piece rfl rfl ?_; intro w3 b3 e3 p3 l3 z3)
        | (refine store_piece (r := rk) rfl (.tmp 5) (.tmp 11) rfl rfl rfl p3 ?_; intro w4 p4 l4 z4; have L4 := Lib.hid (two_new l3 l4 e3); have P4 := Lib.hid p4; clear e3 p3 l3 z3 p4 l4 z4)
        | (refine load_piece (r := rk) rfl (.tmp 5) rfl rfl P4.out ?_))
      refine (HC.out _ (Q1.out.below L4.out)).mono ?_
      rintro e w5 ⟨rfl, l5⟩
      rw [HM.out]
      have K5 := Lib.hid ((K1.out.below L4.out).below l5)
      have B5 := Lib.hid (HB.out.trans ((L4.out.trans (l5.mono L4.out.size)).mono HB.out.size))
      obtain ⟨s, hs⟩ : ∃ s, n + m = s := ⟨_, rfl⟩
      have hw : Hid (wrap64 ((n : Int) + (m : Int)) = (s : Int)) := wrap_nat (by rw [← hs, Int.natCast_add]) (by have := HS.out; have := hnl.out; omega)
      have HSS : Hid (s = sizes (ks.take (i + 1)) ∧ s ≤ 8001) := ⟨by rw [HT.out, ← hn.out]; exact hs.symm, by have := HS.out; have := hnl.out; omega⟩
      have hwi : Hid (wrap64 ((i : Int) + 1) = ((i + 1 : Nat) : Int)) := by unfold Hid wrap64; omega
      have HW := hw
      clear l5 hs hn hnl HS HT HM
      by_cases hbig : 4001 ≤ s
      · have tb : (4001 : Int) ≤ (s : Int) := by omega
        have HEQ : Hid (min 4001 s = min 4001 (sizes ks)) := by
          have h1 := sizes_take_le ks (i + 1)
          rw [← HSS.out.1] at h1
          unfold Hid; omega
        have HSB : Hid (s ≤ 4000000) := Nat.le_trans HSS.out.2 (by decide)
        replace hw := hw.out
        clear hbig
        go_wp2_with fail
        go_ret
        exact ⟨s, by first | rfl | exact congrArg (fun x => Ending.returned (Value.int .i64 x)) HW.out, HEQ, HSB, B5.out⟩
      · have tb : ¬ (4001 : Int) ≤ (s : Int) := by omega
        have HSB : Hid (s ≤ 4000) := by unfold Hid; omega
        cases gk with
        | zero => exact absurd hig.out (by have := HI2.out; omega)
        | succ g =>
          replace hw := hw.out
          replace hwi := hwi.out
          have HWI := Lib.hid hwi
          clear hbig
          go_wp2_with fail
          go_roundg g
          case measure => omega
          case rel => exact ⟨i + 1, s, by first | rfl | exact congrArg (Value.int .i64) HW.out, by first | rfl | exact congrArg (Value.int .i64) HWI.out, HSS.out.1, HSB, by have := hig.out; unfold Hid; omega, K5, B5⟩
    · have ti : ¬ (i : Int) < (ks.length : Int) := by omega
      have hie : i = ks.length := by have := hig.out; omega
      have HE : Hid (n = sizes ks) := by have := hn.out; rw [hie, List.take_length] at this; exact this
      have HSB : Hid (n ≤ 4000000) := Nat.le_trans hnl.out (by decide)
      clear hie
      go_wp2_with fail
      go_ret
      exact ⟨n, rfl, by rw [HE.out]; rfl, HSB, HB.out⟩
set_option maxHeartbeats 1000000 in
theorem isRepeat_any {m t : Int} (h : Often m t) {A : Option Addr} {c : Nat} (hc : 1 ≤ c ∧ c ≤ 9223372036854775807) (w : World) : Calls Tryz.prog 22 #[.agg (rawA ⟨9, ⟨#[]⟩, A, 1, c, m, t⟩)] w fun e w' => e = .returned (.bool true) ∧ Below w.heap.size w w' := by
  have hc1 := hc.1
  have hc2 := hc.2
  have HM : Hid (∀ w, Calls Tryz.prog 29 #[.int .i64 m, .int .i64 t] w fun e w' => e = .returned (.bool true) ∧ w' = w) := fun w => by
    have := mayBe_any m t w
    rw [mayB_often h] at this
    exact this
  clear hc h
  go_enter Tryz.func22, Tryz.ntmps22
  go_wp2_with (first
    | (refine box_arg (r := ⟨9, ⟨#[]⟩, A, 1, c, m, t⟩) rfl (.tmp 0) rfl rfl ?_; intro w1 b1 e1 p1 l1 z1; have a1 := p1.c1; have a2 := p1.c2; have a3 := p1.c3; have a4 := p1.c4; have L1 := Lib.hid l1; clear e1 p1 l1 z1; simp only at a1 a2 a3 a4))
  refine (HM.out _).mono ?_
  rintro e w2 ⟨rfl, rfl⟩
  go_wp2_with fail
  go_ret
  exact ⟨rfl, L1.out⟩
set_option maxHeartbeats 4000000 in
theorem repeated_ever {p : Piece} {M : Nat} (hM : M ≤ 100) (IH : PSize p) {w : World} {r : Raw} (h : PLow w r (.mk 9 ⟨#[]⟩ [p] M (-1))) : Calls Tryz.prog 16 #[.agg (rawA r)] w (SumTo w (size (.mk 9 ⟨#[]⟩ [p] M (-1)))) := by
  rw [size_rep]
  obtain ⟨A, c, raws, rfl, k1⟩ := h.parts
  have hr : 1 ≤ c ∧ c ≤ 9223372036854775807 := k1.room
  obtain ⟨g1, o1, rfl, C1⟩ := k1.at_ (Nat.lt_succ_self 0)
  obtain ⟨hr1, q1⟩ := k1.kid (i := 0) (Nat.lt_succ_self 0)
  have HG := Lib.hid (k1.2.1 _ rfl (Nat.lt_of_le_of_lt (Nat.zero_le _) hr1))
  have E1 := C1 0 hr1
  obtain ⟨rk, hrk⟩ : ∃ rk, raws[0] = rk := ⟨_, rfl⟩
  rw [hrk] at E1 q1
  have Q1 : Hid (PLow w rk p) := q1
  rw [show o1 + 0 * 5 = o1 by omega] at E1
  have E1 := Lib.hid E1
  have HI := Lib.hid (fun (w : World) (h : PLow w rk p) => IH w rk h)
  have HO := Lib.hid (fun w => isRepeat_any (m := (M : Int)) (t := (-1)) ⟨by omega, by omega⟩ (A := some ⟨g1, o1, none⟩) hr w)
  have hS := size_le p
  obtain ⟨K, hK⟩ : ∃ K, size p = K := ⟨_, rfl⟩
  have HK := Lib.hid hK
  rw [hK] at hS ⊢
  have hMS := mul_small (a := M) (b := K) (by omega) (by omega)
  obtain ⟨P, hP⟩ : ∃ P, M * K = P := ⟨_, rfl⟩
  rw [hP] at hMS
  have hw1 : Hid (wrap64 ((M : Int) * (K : Int)) = (P : Int)) := wrap_nat (by rw [← Int.natCast_mul, hP]) (Nat.le_trans hMS (by decide))
  replace hP := Lib.hid hP
  obtain ⟨P2, hP2⟩ : ∃ P2, P + K = P2 := ⟨_, rfl⟩
  have hw2 : Hid (wrap64 ((P : Int) + (K : Int)) = (P2 : Int)) := wrap_nat (by rw [← hP2, Int.natCast_add]) (by omega)
  obtain ⟨N, hN⟩ : ∃ N, P2 + 2 = N := ⟨_, rfl⟩
  have hw3 : Hid (wrap64 ((P2 : Int) + 2) = (N : Int)) := wrap_nat (by rw [← hN, Int.natCast_add]; rfl) (by omega)
  have HNB : Hid (N ≤ 4000000) := by unfold Hid; omega
  have HE : Hid (min 4001 (if (-1 : Int) = -1 then M * K + K + 2 else M * K + (-1 - (M : Int)).toNat * (K + 1)) = min 4001 N) := by
    unfold Hid
    rw [if_pos rfl, hP.out, hP2, hN]
  rw [HE.out]
  have HWL := hw3
  have HFIN : Hid (min 4001 N = min 4001 (min 4001 N)) := by unfold Hid; omega
  have hc1 := hr.1
  have hc2 := hr.2
  clear h k1 C1 q1 hrk hr1 IH hK hS hMS hr HE hM hN hP2
  go_enter Tryz.func16, Tryz.ntmps16
  go_wp2_with (first
    | (refine box_arg (r := ⟨9, ⟨#[]⟩, some ⟨g1, o1, none⟩, 1, c, (M : Int), (-1)⟩) rfl (.tmp 0) rfl rfl ?_; intro w1 b1 e1 p1 l1 z1; have P1 := Lib.hid p1; have L1 := Lib.hid l1; clear e1 p1 l1 z1)
    | (refine load_piece (r := ⟨9, ⟨#[]⟩, some ⟨g1, o1, none⟩, 1, c, (M : Int), (-1)⟩) rfl (.tmp 1) rfl rfl P1.out ?_))
  refine (HO.out _).mono ?_
  rintro e w2 ⟨rfl, l2⟩
  have PB2 := Lib.hid (P1.out.below l2)
  have L2 := Lib.hid (L1.out.trans (l2.mono L1.out.size))
  have E2 : Hid (∀ j, j < 5 → w2.cell? ⟨g1, o1 + j, none⟩ = (rawC rk)[j]?) := fun j hj => (cell_block (L2.out.block g1 HG.out)).trans (E1.out j hj)
  have Q2 := Lib.hid (Q1.out.below L2.out)
  have a2 := PB2.out.c2
  simp only at a2
  clear l2
  go_wp2_with (first | (refine load_at rfl (.tmp 10) rfl rfl (r := rk) E2.out ?_))
  refine (HI.out _ Q2.out).mono ?_
  rintro e w3 ⟨rfl, l3⟩
  rw [HK.out]
  have PB3 := Lib.hid (PB2.out.below l3)
  have L3 := Lib.hid (L2.out.trans (l3.mono L2.out.size))
  have a3 := PB3.out.c3
  have a4 := PB3.out.c4
  simp only at a3 a4
  replace hw1 := hw1.out
  replace hw2 := hw2.out
  replace hw3 := hw3.out
  clear l3
  go_wp2_with fail
  go_ret
  exact ⟨N, by first | rfl | exact congrArg (fun x => Ending.returned (Value.int .i64 x)) HWL.out, HFIN.out, HNB.out, L3.out⟩
set_option maxHeartbeats 4000000 in
theorem repeated_upto {p : Piece} {M T : Nat} (hM : M ≤ 100) (hT : M ≤ T ∧ T ≤ 100) (IH : PSize p) {w : World} {r : Raw} (h : PLow w r (.mk 9 ⟨#[]⟩ [p] M (T : Int))) : Calls Tryz.prog 16 #[.agg (rawA r)] w (SumTo w (size (.mk 9 ⟨#[]⟩ [p] M (T : Int)))) := by
  rw [size_rep]
  obtain ⟨A, c, raws, rfl, k1⟩ := h.parts
  have hr : 1 ≤ c ∧ c ≤ 9223372036854775807 := k1.room
  obtain ⟨g1, o1, rfl, C1⟩ := k1.at_ (Nat.lt_succ_self 0)
  obtain ⟨hr1, q1⟩ := k1.kid (i := 0) (Nat.lt_succ_self 0)
  have HG := Lib.hid (k1.2.1 _ rfl (Nat.lt_of_le_of_lt (Nat.zero_le _) hr1))
  have E1 := C1 0 hr1
  obtain ⟨rk, hrk⟩ : ∃ rk, raws[0] = rk := ⟨_, rfl⟩
  rw [hrk] at E1 q1
  have Q1 : Hid (PLow w rk p) := q1
  rw [show o1 + 0 * 5 = o1 by omega] at E1
  have E1 := Lib.hid E1
  have HI := Lib.hid (fun (w : World) (h : PLow w rk p) => IH w rk h)
  have HO := Lib.hid (fun w => isRepeat_any (m := (M : Int)) (t := (T : Int)) ⟨by omega, by omega⟩ (A := some ⟨g1, o1, none⟩) hr w)
  have hS := size_le p
  obtain ⟨K, hK⟩ : ∃ K, size p = K := ⟨_, rfl⟩
  have HK := Lib.hid hK
  rw [hK] at hS ⊢
  have hMS := mul_small (a := M) (b := K) (by omega) (by omega)
  obtain ⟨P, hP⟩ : ∃ P, M * K = P := ⟨_, rfl⟩
  rw [hP] at hMS
  have hw1 : Hid (wrap64 ((M : Int) * (K : Int)) = (P : Int)) := wrap_nat (by rw [← Int.natCast_mul, hP]) (Nat.le_trans hMS (by decide))
  replace hP := Lib.hid hP
  obtain ⟨D, hD⟩ : ∃ D, T - M = D := ⟨_, rfl⟩
  have hw2 : Hid (wrap64 ((T : Int) - (M : Int)) = (D : Int)) := wrap_nat (by omega) (by omega)
  obtain ⟨K2, hK2⟩ : ∃ K2, K + 1 = K2 := ⟨_, rfl⟩
  have hw3 : Hid (wrap64 ((K : Int) + 1) = (K2 : Int)) := wrap_nat (by omega) (by omega)
  have hDS := mul_small (a := D) (b := K2) (by omega) (by omega)
  obtain ⟨G, hG⟩ : ∃ G, D * K2 = G := ⟨_, rfl⟩
  rw [hG] at hDS
  have hw4 : Hid (wrap64 ((D : Int) * (K2 : Int)) = (G : Int)) := wrap_nat (by rw [← Int.natCast_mul, hG]) (Nat.le_trans hDS (by decide))
  replace hG := Lib.hid hG
  obtain ⟨N, hN⟩ : ∃ N, P + G = N := ⟨_, rfl⟩
  have hw5 : Hid (wrap64 ((P : Int) + (G : Int)) = (N : Int)) := wrap_nat (by rw [← hN, Int.natCast_add]) (by omega)
  have HNB : Hid (N ≤ 4000000) := by unfold Hid; omega
  have HE : Hid (min 4001 (if (T : Int) = -1 then M * K + K + 2 else M * K + ((T : Int) - (M : Int)).toNat * (K + 1)) = min 4001 N) := by
    unfold Hid
    rw [if_neg (by omega), show ((T : Int) - (M : Int)).toNat = D by omega, hP.out, hK2, hG.out, hN]
  have x0 : Hid (((T : Int) == -1) = false) := by unfold Hid; simp
  rw [HE.out]
  have HWL := hw5
  have HFIN : Hid (min 4001 N = min 4001 (min 4001 N)) := by unfold Hid; omega
  have hc1 := hr.1
  have hc2 := hr.2
  clear h k1 C1 q1 hrk hr1 IH hK hS hMS hr HE hM hN hT hD hK2 hDS
  go_enter Tryz.func16, Tryz.ntmps16
  go_wp2_with (first
    | (refine box_arg (r := ⟨9, ⟨#[]⟩, some ⟨g1, o1, none⟩, 1, c, (M : Int), (T : Int)⟩) rfl (.tmp 0) rfl rfl ?_; intro w1 b1 e1 p1 l1 z1; have P1 := Lib.hid p1; have L1 := Lib.hid l1; clear e1 p1 l1 z1)
    | (refine load_piece (r := ⟨9, ⟨#[]⟩, some ⟨g1, o1, none⟩, 1, c, (M : Int), (T : Int)⟩) rfl (.tmp 1) rfl rfl P1.out ?_))
  refine (HO.out _).mono ?_
  rintro e w2 ⟨rfl, l2⟩
  have PB2 := Lib.hid (P1.out.below l2)
  have L2 := Lib.hid (L1.out.trans (l2.mono L1.out.size))
  have E2 : Hid (∀ j, j < 5 → w2.cell? ⟨g1, o1 + j, none⟩ = (rawC rk)[j]?) := fun j hj => (cell_block (L2.out.block g1 HG.out)).trans (E1.out j hj)
  have Q2 := Lib.hid (Q1.out.below L2.out)
  have a2 := PB2.out.c2
  simp only at a2
  clear l2
  go_wp2_with (first | (refine load_at rfl (.tmp 10) rfl rfl (r := rk) E2.out ?_))
  refine (HI.out _ Q2.out).mono ?_
  rintro e w3 ⟨rfl, l3⟩
  rw [HK.out]
  have PB3 := Lib.hid (PB2.out.below l3)
  have L3 := Lib.hid (L2.out.trans (l3.mono L2.out.size))
  have a3 := PB3.out.c3
  have a4 := PB3.out.c4
  simp only at a3 a4
  replace hw1 := hw1.out
  replace hw2 := hw2.out
  replace hw3 := hw3.out
  replace hw4 := hw4.out
  replace hw5 := hw5.out
  replace x0 := x0.out
  clear l3
  go_wp2_with fail
  go_ret
  exact ⟨N, by first | rfl | exact congrArg (fun x => Ending.returned (Value.int .i64 x)) HWL.out, HFIN.out, HNB.out, L3.out⟩
end Go.Proofs.YtenlogfiabhfmaaGreatDoor.W14
