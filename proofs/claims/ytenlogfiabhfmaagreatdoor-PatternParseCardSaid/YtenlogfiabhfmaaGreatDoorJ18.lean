/-
  Texts joined, in build order, each with its own comment and its own conditions: W14Size, W14Right, W14Laws.
-/
import Derived.Test.YtenlogfiabhfmaaGreatDoorJ17
import Derived.Deep.RegionHeld3
import Derived.BigQuiet
import Derived.Test.YtenlogfiabhfmaaGreatDoorJ11
import Derived.Test.YtenlogfiabhfmaaGreatDoorJ01
import Derived.Test.YtenlogfiabhfmaaGreatDoorJ04
import Derived.Test.YtenlogfiabhfmaaGreatDoorJ16
/-
  Layer 14 (pattern), walk of the program's Size: of a piece that may be it is the mathematics' size. The conditions stand in the statements.
-/
namespace Go.Proofs.YtenlogfiabhfmaaGreatDoor.W14
set_option maxRecDepth 100000
open Go Go.RowKit Go.Proofs.YtenlogfiabhfmaaGreatDoor.Strs Go.Proofs.YtenlogfiabhfmaaGreatDoor.Recs Go.Proofs.YtenlogfiabhfmaaGreatDoor.M14
open Go.Proofs.YtenlogfiabhfmaaGreatDoor.Kit (below_draws on)

set_option maxHeartbeats 4000000 in
theorem psize_leaf {k : Int} (hk : k = 1 ∨ k = 2 ∨ k = 3 ∨ k = 4 ∨ k = 5 ∨ k = 6) (t : ByteArray) : PSize (M14.leaf k t) := by
  intro w r h
  unfold SizeTo
  rw [size_leaf hk]
  unfold M14.leaf at h
  obtain ⟨A, c, raws, rfl, k1⟩ := h.parts
  have r1 := k1.room.2
  simp only [List.length_nil]
  clear h k1
  rcases hk with rfl | rfl | rfl | rfl | rfl | rfl
  all_goals
    go_enter Tryz.func10, Tryz.ntmps10
    go_wp2_with (first
      | (refine box_arg rfl (.tmp 0) rfl rfl ?_; intro w1 b1 e1 p1 l1 z1; have a0 := p1.c0; have L1 := Lib.hid l1; clear e1 p1 l1 z1; simp only at a0))
    go_ret
    exact ⟨by first | rfl | simp, L1.out⟩
theorem min_sum {N M0 : Nat} (h : min 4001 N = min 4001 M0) : min (N : Int) 4001 = ((min 4001 M0 : Nat) : Int) := by omega
set_option maxHeartbeats 4000000 in
theorem psize_seq {ks : List Piece} (IH : ∀ i (hi : i < ks.length), PSize ks[i]) : PSize (.mk 7 ⟨#[]⟩ ks 0 0) := by
  intro w r h
  unfold SizeTo
  have hs : size (.mk 7 ⟨#[]⟩ ks 0 0) = min 4001 (sizes ks) := by
    unfold size
    rw [if_neg (by decide), if_neg (by decide), if_pos rfl]
  rw [hs]
  obtain ⟨A, c, raws, rfl, k1⟩ := h.parts
  have HI := Lib.hid IH
  have K1 := Lib.hid k1
  have hr1 := k1.room.1
  have hr2 := k1.room.2
  clear h k1 IH hs
  go_enter Tryz.func10, Tryz.ntmps10
  go_wp2_with (first
    | (refine box_arg (r := ⟨7, ⟨#[]⟩, A, ks.length, c, 0, 0⟩) rfl (.tmp 0) rfl rfl ?_; intro w1 b1 e1 p1 l1 z1; have a0 := p1.c0; have a2 := p1.c2; have L1 := Lib.hid l1; clear e1 p1 l1 z1; simp only at a0 a2))
  refine (psizes_any HI.out (K1.out.below L1.out)).mono ?_
  rintro e w2 ⟨N, rfl, hN1, hN2, l2⟩
  have L2 := Lib.hid (L1.out.trans (l2.mono L1.out.size))
  have hmin := min_sum hN1.out
  have HMIN := Lib.hid hmin
  clear l2 hN1 hN2
  go_wp2_with fail
  go_ret
  exact ⟨by first | rfl | exact congrArg (fun x => Ending.returned (Value.int .i64 x)) HMIN.out, L2.out⟩
set_option maxHeartbeats 4000000 in
theorem psize_alt {ks : List Piece} (h3 : ks.length ≤ 1000 ∧ 2 ≤ ks.length) (IH : ∀ i (hi : i < ks.length), PSize ks[i]) : PSize (.mk 8 ⟨#[]⟩ ks 0 0) := by
  intro w r h
  unfold SizeTo
  have hs : size (.mk 8 ⟨#[]⟩ ks 0 0) = min 4001 (sizes ks + 2 * (ks.length - 1)) := by
    unfold size
    rw [if_neg (by decide), if_neg (by decide), if_neg (by decide), if_pos rfl]
  rw [hs]
  obtain ⟨A, c, raws, rfl, k1⟩ := h.parts
  have HI := Lib.hid IH
  have K1 := Lib.hid k1
  have hr1 := k1.room.1
  have hr2 := k1.room.2
  obtain ⟨n, hn⟩ : ∃ n, ks.length = n + 1 := ⟨ks.length - 1, by omega⟩
  have hwn : wrap64 ((ks.length : Int) - 1) = (n : Int) := wrap_nat (by omega) (by omega)
  have hmx : max (n : Int) 0 = (n : Int) := by omega
  have hw2 : Hid (wrap64 (2 * (n : Int)) = ((2 * n : Nat) : Int)) := wrap_nat (by rw [Int.natCast_mul]; rfl) (by omega)
  obtain ⟨m, hm⟩ : ∃ m, 2 * n = m := ⟨_, rfl⟩
  rw [hm] at hw2
  have HX : Hid (wrap64 (2 * max ((ks.length : Int) - 1) 0) = (m : Int)) := by
    unfold Hid
    rw [show max ((ks.length : Int) - 1) 0 = (n : Int) by omega]; exact hw2.out
  have HWN : Hid (∀ N : Nat, min 4001 N = min 4001 (sizes ks) → N ≤ 4000000 → ∃ s : Nat, Hid (wrap64 ((N : Int) + (m : Int)) = (s : Int)) ∧ Hid (min (s : Int) 4001 = ((min 4001 (sizes ks + 2 * (ks.length - 1)) : Nat) : Int))) := by
    intro N h1 h2
    refine ⟨N + m, wrap_nat2 (by rw [Int.natCast_add]) (by omega), ?_⟩
    unfold Hid
    omega
  clear h k1 IH hs h3 hn hm
  replace hwn := Lib.hid hwn
  go_enter Tryz.func10, Tryz.ntmps10
  go_wp2_with (first
    | (refine box_arg (r := ⟨8, ⟨#[]⟩, A, ks.length, c, 0, 0⟩) rfl (.tmp 0) rfl rfl ?_; intro w1 b1 e1 p1 l1 z1; have P1 := Lib.hid p1; have a0 := p1.c0; have a2 := p1.c2; have L1 := Lib.hid l1; clear e1 p1 l1 z1; simp only at a0 a2))
  have S0 : Hid ((w1.drewN 1).cell? ⟨b1, 2, none⟩ = some (.slice A ks.length c) ∧ Below w1.heap.size w1 (w1.drewN 1)) := ⟨a2, below_draws w1 1⟩
  have KEEP : Hid (∀ x, Below w1.heap.size w1 x → x.cell? ⟨b1, 2, none⟩ = some (.slice A ks.length c) ∧ Below w1.heap.size w1 x) := fun x hx => ⟨(P1.out.below hx).c2, hx⟩
  have K1 := Lib.hid (K1.out.below L1.out)
  refine wp_region_held_drew (S := fun w' => w'.cell? ⟨b1, 2, none⟩ = some (.slice A ks.length c) ∧ Below w1.heap.size w1 w') (by kernel_rfl) S0.out (fun hHeld => ?_)
  refine wpAnyH_take (i := 0) (oi := { dst := some 21, op := Op.fieldAddr 25 (Operand.tmp 1) 2, type := 0, pos := "pattern.go:256", after := #[], guard := none }) (v := ?vz0) rfl (by kernel_rfl) (by kernel_rfl) (by kernel_rfl) (fun _ _ _ h => h) (Or.inl ⟨by rfl, ?hz0⟩) (by assumption) ?rz0
  case hz0 => (intro w hSw; (try dsimp only at hSw); go_simp; try with_reducible rfl)
  try simp only [Act.put, List.setIfInBounds_toArray, List.set_cons_zero, List.set_cons_succ]
  refine wpAnyH_take (i := 1) (oi := { dst := some 22, op := Op.load 23 (Operand.tmp 21), type := 23, pos := "pattern.go:256", after := #[{ on := 0, ground := Ground.data }], guard := none }) (v := ?vz1) rfl (by kernel_rfl) (by kernel_rfl) (by kernel_rfl) (fun _ _ _ h => h) (Or.inl ⟨by rfl, ?hz1⟩) (by assumption) ?rz1
  case hz1 => (intro w hSw; (try dsimp only at hSw); go_simp; try with_reducible rfl)
  try simp only [Act.put, List.setIfInBounds_toArray, List.set_cons_zero, List.set_cons_succ]
  refine wpAnyH_take (i := 3) (oi := { dst := some 24, op := Op.fieldAddr 25 (Operand.tmp 1) 2, type := 0, pos := "pattern.go:256", after := #[], guard := none }) (v := ?vz3) rfl (by kernel_rfl) (by kernel_rfl) (by kernel_rfl) (fun _ _ _ h => h) (Or.inl ⟨by rfl, ?hz3⟩) (by assumption) ?rz3
  case hz3 => (intro w hSw; (try dsimp only at hSw); go_simp; try with_reducible rfl)
  try simp only [Act.put, List.setIfInBounds_toArray, List.set_cons_zero, List.set_cons_succ]
  refine wpAnyH_take (i := 4) (oi := { dst := some 25, op := Op.load 23 (Operand.tmp 24), type := 23, pos := "pattern.go:256", after := #[{ on := 3, ground := Ground.data }], guard := none }) (v := ?vz4) rfl (by kernel_rfl) (by kernel_rfl) (by kernel_rfl) (fun _ _ _ h => h) (Or.inl ⟨by rfl, ?hz4⟩) (by assumption) ?rz4
  case hz4 => (intro w hSw; (try dsimp only at hSw); go_simp; try with_reducible rfl)
  try simp only [Act.put, List.setIfInBounds_toArray, List.set_cons_zero, List.set_cons_succ]
  refine wpAnyH_take (i := 5) (oi := { dst := some 26, op := Op.call { callee := Callee.builtin Builtin.len, args := #[Operand.tmp 25], argTypes := #[23] }, type := 3, pos := "pattern.go:256", after := #[{ on := 4, ground := Ground.data }], guard := none }) (v := ?vz5) rfl (by kernel_rfl) (by kernel_rfl) (by kernel_rfl) (fun _ _ _ h => h) (Or.inl ⟨by rfl, ?hz5⟩) (by assumption) ?rz5
  case hz5 => (intro w hSw; (try dsimp only at hSw); go_simp; try with_reducible rfl)
  try simp only [Act.put, List.setIfInBounds_toArray, List.set_cons_zero, List.set_cons_succ]
  refine wpAnyH_take (i := 6) (oi := { dst := some 27, op := Op.binOp BinOp.sub 3 (Operand.tmp 26) (Operand.const (Value.int IntKind.i64 1)) 3, type := 3, pos := "pattern.go:256", after := #[{ on := 5, ground := Ground.data }], guard := none }) (v := ?vz6) rfl (by kernel_rfl) (by kernel_rfl) (by kernel_rfl) (fun _ _ _ h => h) (Or.inl ⟨by rfl, ?hz6⟩) (by assumption) ?rz6
  case hz6 => (intro w hSw; (try dsimp only at hSw); go_simp; try with_reducible rfl)
  try simp only [Act.put, List.setIfInBounds_toArray, List.set_cons_zero, List.set_cons_succ]
  refine wpAnyH_take (i := 7) (oi := { dst := some 28, op := Op.call { callee := Callee.builtin Builtin.max, args := #[Operand.tmp 27, Operand.const (Value.int IntKind.i64 0)], argTypes := #[3, 3] }, type := 3, pos := "pattern.go:256", after := #[{ on := 6, ground := Ground.data }], guard := none }) (v := ?vz7) rfl (by kernel_rfl) (by kernel_rfl) (by kernel_rfl) (fun _ _ _ h => h) (Or.inl ⟨by rfl, ?hz7⟩) (by assumption) ?rz7
  case hz7 => (intro w hSw; (try dsimp only at hSw); go_simp; try with_reducible rfl)
  try simp only [Act.put, List.setIfInBounds_toArray, List.set_cons_zero, List.set_cons_succ]
  refine wpAnyH_take (i := 8) (oi := { dst := some 29, op := Op.binOp BinOp.mul 3 (Operand.const (Value.int IntKind.i64 2)) (Operand.tmp 28) 3, type := 3, pos := "pattern.go:256", after := #[{ on := 7, ground := Ground.data }], guard := none }) (v := ?vz8) rfl (by kernel_rfl) (by kernel_rfl) (by kernel_rfl) (fun _ _ _ h => h) (Or.inl ⟨by rfl, ?hz8⟩) (by assumption) ?rz8
  case hz8 => (intro w hSw; (try dsimp only at hSw); go_simp; try with_reducible rfl)
  try simp only [Act.put, List.setIfInBounds_toArray, List.set_cons_zero, List.set_cons_succ]
  refine wpAnyH_ready (rs := [2]) (by kernel_rfl) (by simp) ?_
  refine AllReadyH.cons (o := { dst := some 23, op := Op.call { callee := Callee.value (Operand.func 15), args := #[Operand.tmp 22], argTypes := #[23] }, type := 3, pos := "pattern.go:256", after := #[{ on := 1, ground := Ground.data }], guard := none }) rfl (fun K hK => ?_) AllReadyH.nil
  go_simp
  (go_at_call 15; refine (psizes_any HI.out (K1.out.below S0.out.2)).mono ?_; rintro e x1 ⟨N, rfl, hN1, hN2, l5⟩; have hS1 := KEEP.out _ (S0.out.2.trans (l5.mono S0.out.2.size)); have hwN := HWN.out N hN1.out hN2.out; clear l5)
  go_wp2_with fail
  refine hK.out _ _ ?_ (fun hHeld => ?_)
  · exact hS1
  clear hK K
  try simp only [Act.put, List.setIfInBounds_toArray, List.set_cons_zero, List.set_cons_succ]
  refine wpAnyH_take (i := 9) (oi := { dst := some 30, op := Op.binOp BinOp.add 3 (Operand.tmp 23) (Operand.tmp 29) 3, type := 3, pos := "pattern.go:256", after := #[{ on := 2, ground := Ground.data }, { on := 8, ground := Ground.data }], guard := none }) (v := ?vz9) rfl (by kernel_rfl) (by kernel_rfl) (by kernel_rfl) (fun _ _ _ h => h) (Or.inl ⟨by rfl, ?hz9⟩) (by assumption) ?rz9
  case hz9 => (intro w hSw; (try dsimp only at hSw); go_simp; try with_reducible rfl)
  try simp only [Act.put, List.setIfInBounds_toArray, List.set_cons_zero, List.set_cons_succ]
  refine wpAnyH_take (i := 10) (oi := { dst := some 3, op := Op.assign (Operand.tmp 30), type := 3, pos := "pattern.go:256", after := #[{ on := 9, ground := Ground.data }, { on := 2, ground := Ground.chain }, { on := 0, ground := Ground.phase }, { on := 1, ground := Ground.phase }, { on := 2, ground := Ground.phase }, { on := 3, ground := Ground.phase }, { on := 4, ground := Ground.phase }, { on := 5, ground := Ground.phase }, { on := 6, ground := Ground.phase }, { on := 7, ground := Ground.phase }, { on := 8, ground := Ground.phase }, { on := 9, ground := Ground.phase }], guard := none }) (v := ?vz10) rfl (by kernel_rfl) (by kernel_rfl) (by kernel_rfl) (fun _ _ _ h => h) (Or.inl ⟨by rfl, ?hz10⟩) (by assumption) ?rz10
  case hz10 => (intro w hSw; (try dsimp only at hSw); go_simp; try with_reducible rfl)
  try simp only [Act.put, List.setIfInBounds_toArray, List.set_cons_zero, List.set_cons_succ]
  refine wpAnyH_done (by kernel_rfl) ?_ _
  obtain ⟨s, hs1, hs2⟩ := hwN
  have HV : Hid (min (wrap64 ((N : Int) + wrap64 (2 * max ((ks.length : Int) - 1) 0))) 4001 = ((min 4001 (sizes ks + 2 * (ks.length - 1)) : Nat) : Int)) := by
    unfold Hid
    rw [HX.out, hs1.out]; exact hs2.out
  have L9 := Lib.hid (L1.out.trans (hS1.2.mono L1.out.size))
  clear hS1 hmx hN1 hN2 hs1 hs2
  go_wp2_with fail
  go_ret
  exact ⟨by first | rfl | exact congrArg (fun x => Ending.returned (Value.int .i64 x)) HV.out, L9.out⟩
set_option maxHeartbeats 1000000 in
theorem psize_rep {p : Piece} {m t : Int} (hR : ∀ (w : World) (r : Raw), PLow w r (.mk 9 ⟨#[]⟩ [p] m t) → Calls Tryz.prog 16 #[.agg (rawA r)] w (SumTo w (size (.mk 9 ⟨#[]⟩ [p] m t)))) : PSize (.mk 9 ⟨#[]⟩ [p] m t) := by
  intro w r h
  unfold SizeTo
  have hle := size_le (.mk 9 ⟨#[]⟩ [p] m t)
  have HR := Lib.hid (fun w => hR w r)
  have HL := Lib.hid h
  obtain ⟨s, hs⟩ : ∃ s, size (.mk 9 ⟨#[]⟩ [p] m t) = s := ⟨_, rfl⟩
  rw [hs] at HR hle ⊢
  obtain ⟨A, c, raws, rfl, k1⟩ := h.parts
  clear h k1 hs
  go_enter Tryz.func10, Tryz.ntmps10
  go_wp2_with (first
    | (refine box_arg (r := ⟨9, ⟨#[]⟩, A, [p].length, c, m, t⟩) rfl (.tmp 0) rfl rfl ?_; intro w1 b1 e1 p1 l1 z1; have P1 := Lib.hid p1; have a0 := p1.c0; have L1 := Lib.hid l1; clear e1 p1 l1 z1; simp only at a0)
    | (refine load_piece (r := ⟨9, ⟨#[]⟩, A, [p].length, c, m, t⟩) rfl (.tmp 1) rfl rfl P1.out ?_))
  refine (HR.out _ (HL.out.below L1.out)).mono ?_
  rintro e w2 ⟨N, rfl, hN1, hN2, l2⟩
  have L2 := Lib.hid (L1.out.trans (l2.mono L1.out.size))
  have HV : Hid (min (N : Int) 4001 = (s : Int)) := by have := hN1.out; unfold Hid; omega
  clear l2 hN1 hN2 hle
  go_wp2_with fail
  go_ret
  exact ⟨by first | rfl | exact congrArg (fun x => Ending.returned (Value.int .i64 x)) HV.out, L2.out⟩
theorem psize_any {p : Piece} (h : Whole p) : PSize p := by
  induction h with
  | none k hk => exact psize_leaf (by omega) _
  | char c => exact psize_leaf (by omega) _
  | set f => exact psize_leaf (by omega) _
  | many k hk l h2 h3 hw ih =>
    have IH : ∀ i (hi : i < l.length), PSize l[i] := fun i hi => ih l[i] (List.getElem_mem hi)
    rcases hk with rfl | rfl
    · exact psize_seq IH
    · exact psize_alt ⟨h3, h2⟩ IH
  | rep p m t hm ht hw ih =>
    obtain ⟨M, rfl⟩ : ∃ M : Nat, m = (M : Int) := ⟨m.toNat, by omega⟩
    by_cases q : t = -1
    · subst q; exact psize_rep fun w r q => repeated_ever (by omega) ih q
    · obtain ⟨T, rfl⟩ : ∃ T : Nat, t = (T : Int) := ⟨t.toNat, by omega⟩
      exact psize_rep fun w r q => repeated_upto (by omega) (by omega) ih q
end Go.Proofs.YtenlogfiabhfmaaGreatDoor.W14
/-
  Layer 14 (pattern), walks of the program's isSet, isAlike, isParsed and Right. The conditions stand in the statements.
-/
namespace Go.Proofs.YtenlogfiabhfmaaGreatDoor.W14
set_option maxRecDepth 100000
open Go Go.RowKit Go.Proofs.YtenlogfiabhfmaaGreatDoor.Strs Go.Proofs.YtenlogfiabhfmaaGreatDoor.Recs Go.Proofs.YtenlogfiabhfmaaGreatDoor.M14
open Go.Proofs.YtenlogfiabhfmaaGreatDoor.Kit (below_draws on)

theorem pnot_tx (f : Nat → Bool) (w : World) : Calls Tryz.prog 34 #[.string (W13.tx f)] w fun e w' => e = .returned (.string (W13.tx fun i => !f i)) ∧ Below w.heap.size w w' :=
  (W13.not_any _ _).mono fun _ _ h => ⟨h.1.trans (congrArg (fun x => Ending.returned (.string x)) (W13.tx_congr fun i hi => by rw [W13.has_tx f hi])), h.2⟩
set_option maxHeartbeats 1000000 in
theorem isSet_any (f : Nat → Bool) (w : World) : Calls Tryz.prog 28 #[.string (txt f)] w fun e w' => e = .returned (.bool true) ∧ Below w.heap.size w w' := by
  have h1 := pnot_tx f
  have h2 := pnot_tx (fun i => !f i)
  rw [show (W13.tx fun i => !(!f i)) = W13.tx f from W13.tx_congr fun _ _ => Bool.not_not _] at h2
  obtain ⟨d, hd⟩ : ∃ d, W13.tx f = d := ⟨_, rfl⟩
  obtain ⟨g, hg⟩ : ∃ g, (W13.tx fun i => !f i) = g := ⟨_, rfl⟩
  rw [show txt f = W13.tx f from rfl]
  rw [hd, hg] at h1
  rw [hg, hd] at h2
  rw [hd]
  have H1 := Lib.hid h1
  have H2 := Lib.hid h2
  clear h1 h2 hd hg
  have te : (d.toList == d.toList) = true := beq_self_eq_true _
  go_enter Tryz.func28, Tryz.ntmps28
  go_wp2_with fail
  refine (H1.out _).mono ?_
  rintro e w2 ⟨rfl, l2⟩
  have L2 := Lib.hid l2
  clear l2
  go_wp2_with fail
  refine (H2.out _).mono ?_
  rintro e w3 ⟨rfl, l3⟩
  have L3 := Lib.hid (on L2.out l3)
  clear l3
  go_wp2_with fail
  go_ret
  exact ⟨rfl, L3.out⟩
/-- what a predicate of pieces answers -/
def YesTo (w : World) (e : Ending) (w' : World) : Prop := e = .returned (.bool true) ∧ Below w.heap.size w w'
def Alike (p : Piece) : Prop := ∀ (w : World) (r : Raw), PLow w r p → Calls Tryz.prog 21 #[.agg (rawA r)] w (YesTo w)
set_option maxHeartbeats 2000000 in
theorem alike_none {k : Int} (hk : k = 1 ∨ k = 3 ∨ k = 5 ∨ k = 6) : Alike (M14.leaf k ⟨#[]⟩) := by
  intro w r h
  unfold YesTo
  unfold M14.leaf at h
  obtain ⟨A, c, raws, rfl, k1⟩ := h.parts
  have r1 := k1.room.2
  clear h k1
  simp only [List.length_nil]
  rcases hk with rfl | rfl | rfl | rfl
  all_goals
    go_enter Tryz.func21, Tryz.ntmps21
    go_wp2_with (first
      | (refine box_arg rfl (.tmp 0) rfl rfl ?_; intro w1 b1 e1 p1 l1 z1; have a0 := p1.c0; have a1 := p1.c1; have a2 := p1.c2; have a3 := p1.c3; have a4 := p1.c4; have L1 := Lib.hid l1; clear e1 p1 l1 z1; simp only at a0 a1 a2 a3 a4))
    go_ret
    exact ⟨rfl, L1.out⟩
set_option maxHeartbeats 2000000 in
theorem alike_char (u : UInt8) : Alike (M14.leaf 2 (chr u)) := by
  intro w r h
  unfold YesTo
  unfold M14.leaf at h
  obtain ⟨A, c, raws, rfl, k1⟩ := h.parts
  have r1 := k1.room.2
  clear h k1
  simp only [List.length_nil]
  obtain ⟨d, hd⟩ : ∃ d, chr u = d := ⟨_, rfl⟩
  have hz : d.size = 1 := by rw [← hd]; rfl
  rw [hd]
  clear hd
  go_enter Tryz.func21, Tryz.ntmps21
  go_wp2_with (first
    | (refine box_arg rfl (.tmp 0) rfl rfl ?_; intro w1 b1 e1 p1 l1 z1; have a0 := p1.c0; have a1 := p1.c1; have a2 := p1.c2; have a3 := p1.c3; have a4 := p1.c4; have L1 := Lib.hid l1; clear e1 p1 l1 z1; simp only at a0 a1 a2 a3 a4))
  go_ret
  exact ⟨rfl, L1.out⟩
set_option maxHeartbeats 2000000 in
theorem alike_set (f : Nat → Bool) : Alike (M14.leaf 4 (txt f)) := by
  intro w r h
  unfold YesTo
  unfold M14.leaf at h
  obtain ⟨A, c, raws, rfl, k1⟩ := h.parts
  have r1 := k1.room.2
  have HS := Lib.hid (isSet_any f)
  clear h k1
  simp only [List.length_nil]
  obtain ⟨d, hd⟩ : ∃ d, txt f = d := ⟨_, rfl⟩
  rw [hd] at HS ⊢
  clear hd
  go_enter Tryz.func21, Tryz.ntmps21
  go_wp2_with (first
    | (refine box_arg (r := ⟨4, d, A, 0, c, 0, 0⟩) rfl (.tmp 0) rfl rfl ?_; intro w1 b1 e1 p1 l1 z1; have P1 := Lib.hid p1; have a0 := p1.c0; have a1 := p1.c1; have a2 := p1.c2; have a3 := p1.c3; have a4 := p1.c4; have L1 := Lib.hid l1; clear e1 p1 l1 z1; simp only at a0 a1 a2 a3 a4))
  refine (HS.out _).mono ?_
  rintro e w2 ⟨rfl, l2⟩
  have PB2 := Lib.hid (P1.out.below l2)
  have L2 := Lib.hid (L1.out.trans (l2.mono L1.out.size))
  have d2 := PB2.out.c2
  simp only at d2
  clear l2
  go_wp2_with fail
  go_ret
  exact ⟨rfl, L2.out⟩
set_option maxHeartbeats 2000000 in
theorem alike_many {k : Int} (hk : k = 7 ∨ k = 8) {ks : List Piece} (h2 : 2 ≤ ks.length) : Alike (.mk k ⟨#[]⟩ ks 0 0) := by
  intro w r h
  unfold YesTo
  obtain ⟨A, c, raws, rfl, k1⟩ := h.parts
  have hr1 := k1.room.1
  have hr2 := k1.room.2
  have t2 : (2 : Int) ≤ (ks.length : Int) := by omega
  clear h k1 h2
  rcases hk with rfl | rfl
  all_goals
    go_enter Tryz.func21, Tryz.ntmps21
    go_wp2_with (first
      | (refine box_arg rfl (.tmp 0) rfl rfl ?_; intro w1 b1 e1 p1 l1 z1; have a0 := p1.c0; have a1 := p1.c1; have a2 := p1.c2; have a3 := p1.c3; have a4 := p1.c4; have L1 := Lib.hid l1; clear e1 p1 l1 z1; simp only at a0 a1 a2 a3 a4))
    go_ret
    exact ⟨rfl, L1.out⟩
set_option maxHeartbeats 2000000 in
theorem alike_rep {p : Piece} {m t : Int} (ho : Often m t) : Alike (.mk 9 ⟨#[]⟩ [p] m t) := by
  intro w r h
  unfold YesTo
  obtain ⟨A, c, raws, rfl, k1⟩ := h.parts
  have hr : 1 ≤ c ∧ c ≤ 9223372036854775807 := k1.room
  have HO : Hid (∀ w, Calls Tryz.prog 22 #[.agg (rawA ⟨9, ⟨#[]⟩, A, [p].length, c, m, t⟩)] w fun e w' => e = .returned (.bool true) ∧ Below w.heap.size w w') := fun w => isRepeat_any ho hr w
  clear h k1 hr ho
  go_enter Tryz.func21, Tryz.ntmps21
  go_wp2_with (first
    | (refine box_arg (r := ⟨9, ⟨#[]⟩, A, [p].length, c, m, t⟩) rfl (.tmp 0) rfl rfl ?_; intro w1 b1 e1 p1 l1 z1; have P1 := Lib.hid p1; have a0 := p1.c0; have L1 := Lib.hid l1; clear e1 p1 l1 z1; simp only at a0)
    | (refine load_piece (r := ⟨9, ⟨#[]⟩, A, [p].length, c, m, t⟩) rfl (.tmp 1) rfl rfl P1.out ?_))
  refine (HO.out _).mono ?_
  rintro e w2 ⟨rfl, l2⟩
  have L2 := Lib.hid (L1.out.trans (l2.mono L1.out.size))
  clear l2
  go_wp2_with fail
  go_ret
  exact ⟨rfl, L2.out⟩
def Parsd (p : Piece) : Prop := ∀ (w : World) (r : Raw), PLow w r p → Calls Tryz.prog 13 #[.agg (rawA r)] w (YesTo w)
set_option maxHeartbeats 4000000 in
theorem parsed_mk {k : Int} {t : ByteArray} {ks : List Piece} {l tp : Int} (hA : Alike (.mk k t ks l tp)) (IH : ∀ i (hi : i < ks.length), Parsd ks[i]) : Parsd (.mk k t ks l tp) := by
  intro w r h
  unfold YesTo
  have HI := Lib.hid IH
  have HA := Lib.hid (fun w => hA w r)
  have HL := Lib.hid h
  obtain ⟨A, c, raws, rfl, k1⟩ := h.parts
  have K1 := Lib.hid k1
  have HR := Lib.hid k1.room
  clear h k1 IH hA
  go_enter Tryz.func13, Tryz.ntmps13
  go_wp2_with (first
    | (refine box_arg (r := ⟨k, t, A, ks.length, c, l, tp⟩) rfl (.tmp 0) rfl rfl ?_; intro w1 b1 e1 p1 l1 z1; have P1 := Lib.hid p1; have L1 := Lib.hid l1; clear e1 p1 l1 z1)
    | (refine load_piece (r := ⟨k, t, A, ks.length, c, l, tp⟩) rfl (.tmp 1) rfl rfl P1.out ?_))
  refine (HA.out _ (HL.out.below L1.out)).mono ?_
  rintro e w2 ⟨rfl, l2⟩
  have PB2 := Lib.hid (P1.out.below l2)
  have L2 := Lib.hid (L1.out.trans (l2.mono L1.out.size))
  have K2 := Lib.hid (K1.out.below L2.out)
  have a2 := PB2.out.c2
  simp only at a2
  have hr1 := HR.out.1
  have hr2 := HR.out.2
  clear l2
  go_wp2_with fail
  clear a2 hr1 hr2
  go_loopg [11] ks.length (fun gk s11 wr => ∃ i : Nat, s11 = .int .i64 i ∧ Hid (i + gk = ks.length) ∧ Hid (Kids wr A c raws ks) ∧ Hid (Below w.heap.size w wr))
  case atStart => exact ⟨0, rfl, by unfold Hid; omega, K2, L2⟩
  case round =>
    obtain ⟨i, rfl, hig, K1, HB⟩ := hrel
    have hn1 := HR.out.1
    have hn2 := HR.out.2
    by_cases hi : i < ks.length
    · have ti : (i : Int) < (ks.length : Int) := by omega
      obtain ⟨g1, o1, rfl, C1⟩ := K1.out.at_ (Nat.lt_of_le_of_lt (Nat.zero_le _) hi)
      obtain ⟨hr1, q1⟩ := K1.out.kid hi
      have E1 := Lib.hid (C1 i hr1)
      have Q1 := Lib.hid q1
      have HI2 := Lib.hid hi
      obtain ⟨rk, hrk⟩ : ∃ rk, raws[i]'hr1 = rk := ⟨_, rfl⟩
      rw [hrk] at E1 Q1
      have HC := Lib.hid (fun (w : World) (h : PLow w rk (ks[i]'hi)) => HI.out i hi w rk h)
      have hwi : Hid (wrap64 ((i : Int) + 1) = ((i + 1 : Nat) : Int)) := by unfold Hid wrap64; omega
      clear C1 q1 hrk
      go_wp2_with (first
        | (refine load_at rfl (.tmp 13) rfl rfl (r := rk) E1.out ?_)
        | (refine alloc_piece rfl rfl ?_; intro w3 b3 e3 p3 l3 z3)
        | (refine store_piece (r := rk) rfl (.tmp 4) (.tmp 14) rfl rfl rfl p3 ?_; intro w4 p4 l4 z4; have L4 := Lib.hid (two_new l3 l4 e3); have P4 := Lib.hid p4; clear e3 p3 l3 z3 p4 l4 z4)
        | (refine load_piece (r := rk) rfl (.tmp 4) rfl rfl P4.out ?_))
      refine (HC.out _ (Q1.out.below L4.out)).mono ?_
      rintro e w5 ⟨rfl, l5⟩
      have K5 := Lib.hid ((K1.out.below L4.out).below l5)
      have B5 := Lib.hid (HB.out.trans ((L4.out.trans (l5.mono L4.out.size)).mono HB.out.size))
      clear l5
      cases gk with
      | zero => exact absurd hig.out (by have := HI2.out; omega)
      | succ g =>
        go_wp2_with fail
        go_roundg g
        case measure => omega
        case rel => exact ⟨i + 1, by first | rfl | exact congrArg (Value.int .i64) hwi.out, by have := hig.out; unfold Hid; omega, K5, B5⟩
    · have ti : ¬ (i : Int) < (ks.length : Int) := by omega
      go_wp2_with fail
      go_ret
      exact ⟨rfl, HB.out⟩
theorem parsed_any {p : Piece} (h : Whole p) : Parsd p := by
  induction h with
  | none k hk => exact parsed_mk (alike_none hk) fun i hi => absurd hi (by simp)
  | char c => exact parsed_mk (alike_char c) fun i hi => absurd hi (by simp)
  | set f => exact parsed_mk (alike_set f) fun i hi => absurd hi (by simp)
  | many k hk l h2 h3 hw ih => exact parsed_mk (alike_many hk h2) fun i hi => ih l[i] (List.getElem_mem hi)
  | rep p m t hm ht hw ih =>
    refine parsed_mk (alike_rep ⟨hm, ht⟩) fun i hi => ?_
    obtain rfl : i = 0 := by simpa using hi
    exact ih
set_option maxHeartbeats 1000000 in
/-- Right of a piece that may be: its size alone decides -/
theorem right_any {p : Piece} (h : Whole p) {w : World} {r : Raw} (hl : PLow w r p) : Calls Tryz.prog 8 #[.agg (rawA r)] w fun e w' => e = .returned (.bool (decide ((size p : Int) ≤ 4000))) ∧ Below w.heap.size w w' := by
  have HS := Lib.hid (psize_any h)
  have HP := Lib.hid (parsed_any h)
  have HL := Lib.hid hl
  obtain ⟨n, hn⟩ : ∃ n, size p = n := ⟨_, rfl⟩
  have HN := Lib.hid hn
  rw [hn]
  clear h hl hn
  by_cases hb : (n : Int) ≤ 4000
  · have td : decide ((n : Int) ≤ 4000) = true := decide_eq_true hb
    rw [td]
    go_enter Tryz.func8, Tryz.ntmps8
    go_wp2_with (first
      | (refine box_arg (r := r) rfl (.tmp 0) rfl rfl ?_; intro w1 b1 e1 p1 l1 z1; have P1 := Lib.hid p1; have L1 := Lib.hid l1; have a0 := p1.c0; have a1 := p1.c1; have a2 := p1.c2; have a3 := p1.c3; have a4 := p1.c4; clear e1 p1 l1 z1)
      | (refine load_piece (r := r) rfl (.tmp 1) rfl rfl P1.out ?_))
    refine (HS.out _ _ (HL.out.below L1.out)).mono ?_
    rintro e w2 ⟨rfl, l2⟩
    rw [HN.out]
    have PB2 := Lib.hid (P1.out.below l2)
    have L2 := Lib.hid (L1.out.trans (l2.mono L1.out.size))
    have a0 := PB2.out.c0
    have a1 := PB2.out.c1
    have a2 := PB2.out.c2
    have a3 := PB2.out.c3
    have a4 := PB2.out.c4
    clear l2
    go_wp2_with fail
    refine (HP.out _ _ (HL.out.below L2.out)).mono ?_
    rintro e w3 ⟨rfl, l3⟩
    have L3 := Lib.hid (L2.out.trans (l3.mono L2.out.size))
    clear l3
    go_wp2_with fail
    go_ret
    exact ⟨rfl, L3.out⟩
  · have td : decide ((n : Int) ≤ 4000) = false := decide_eq_false hb
    rw [td]
    go_enter Tryz.func8, Tryz.ntmps8
    go_wp2_with (first
      | (refine box_arg (r := r) rfl (.tmp 0) rfl rfl ?_; intro w1 b1 e1 p1 l1 z1; have P1 := Lib.hid p1; have L1 := Lib.hid l1; clear e1 p1 l1 z1)
      | (refine load_piece (r := r) rfl (.tmp 1) rfl rfl P1.out ?_))
    refine (HS.out _ _ (HL.out.below L1.out)).mono ?_
    rintro e w2 ⟨rfl, l2⟩
    rw [HN.out]
    have L2 := Lib.hid (L1.out.trans (l2.mono L1.out.size))
    clear l2
    go_wp2_with fail
    go_ret
    exact ⟨rfl, L2.out⟩
end Go.Proofs.YtenlogfiabhfmaaGreatDoor.W14
/-
  The law of layer 14 (pattern): PatternParse returns true whatever it is given. The conditions stand in the statements.
-/
namespace Go.Proofs.YtenlogfiabhfmaaGreatDoor.W14
set_option maxRecDepth 100000
open Go Go.RowKit Go.Proofs.YtenlogfiabhfmaaGreatDoor.Strs Go.Proofs.YtenlogfiabhfmaaGreatDoor.Recs Go.Proofs.YtenlogfiabhfmaaGreatDoor.M14
open Go.Proofs.YtenlogfiabhfmaaGreatDoor.Kit (below_draws on)

theorem p13_ok {s : ByteArray} (hs : s.size ≤ 900) : P13Ok s := by
  intro a w ha
  have hz : (s.extract a s.size).size = s.size - a := by rw [ByteArray.size_extract]; omega
  have h := W13.refParse_any (s := s.extract a s.size) (by omega) (by omega) w
  rw [Kit.drop_bytes s a] at h
  exact h
set_option maxHeartbeats 2000000 in
theorem lives_any (w : World) : Calls Tryz.prog 4 #[] w (YesTo w) := by
  unfold YesTo
  obtain ⟨g, hg, -, hC⟩ := parse_any (s := ⟨#[97, 124, 98, 42]⟩) (by decide)
  have hg2 : g = .ok livesP 4 := by
    have := lives_rows
    have e : rows [97, 124, 98, 42] 5 0 0 = some g := hg
    rw [this] at e
    injection e with e
    exact e.symm
  subst hg2
  have hfx : fix (⟨#[97, 124, 98, 42]⟩ : ByteArray).data.toList 0 (.ok livesP 4) = .ok livesP 4 := by rfl
  rw [hfx] at hC
  have HC := Lib.hid hC
  clear hC hg hfx
  go_enter Tryz.func4, Tryz.ntmps4
  go_wp2_with fail
  refine (HC.out _).mono ?_
  rintro e w1 ⟨l1, r, rfl, hp⟩
  have L1 := Lib.hid l1
  have A1 := Lib.hid hp.low
  obtain ⟨A, c, raws, rfl, k1⟩ := A1.out.parts
  have hr1 := k1.room.1
  have hr2 := k1.room.2
  obtain ⟨g1, o1, rfl, C1⟩ := k1.at_ (by decide)
  obtain ⟨hx, q1⟩ := k1.kid (i := 1) (by decide)
  have E1 := C1 1 hx
  have q2 : PLow w1 raws[1] (.mk 9 ⟨#[]⟩ [leaf 2 (chr 98)] 0 (-1)) := q1
  obtain ⟨A2, c2, raws2, hr, -⟩ := q2.parts
  rw [hr] at E1
  have E9 : Hid (w1.cell? ⟨g1, o1 + 5, none⟩ = some (.int .i64 9)) := by
    have := E1 0 (by decide)
    rw [show o1 + 1 * 5 + 0 = o1 + 5 by omega] at this
    exact this
  have HG := Lib.hid (k1.2.1 _ rfl (Nat.lt_of_le_of_lt (Nat.zero_le _) hx))
  have HR : Hid (2 ≤ c ∧ c ≤ 9223372036854775807) := ⟨hr1, hr2⟩
  clear l1 hp k1 C1 hx q1 q2 hr E1 hr1 hr2
  go_wp2_with (first
    | (refine alloc_piece rfl rfl ?_; intro w3 b3 e3 p3 l3 z3)
    | (refine store_piece (r := ⟨8, ⟨#[]⟩, some ⟨g1, o1, none⟩, 2, c, 0, 0⟩) rfl (.tmp 1) (.tmp 6) rfl rfl rfl p3 ?_; intro w4 p4 l4 z4; have L4 := Lib.hid (two_new l3 l4 e3); have P4 := Lib.hid p4; have e9 : w4.cell? ⟨g1, o1 + 5, none⟩ = some (.int .i64 9) := (cell_block (L4.out.block g1 HG.out)).trans E9.out; have hc1 := HR.out.1; have hc2 := HR.out.2; have a0 := p4.c0; have a1 := p4.c1; have a2 := p4.c2; have a3 := p4.c3; have a4 := p4.c4; clear e3 p3 l3 z3 p4 l4 z4; simp only at a0 a1 a2 a3 a4)
    | (refine load_piece (r := ⟨8, ⟨#[]⟩, some ⟨g1, o1, none⟩, 2, c, 0, 0⟩) rfl (.tmp 1) rfl rfl P4.out ?_))
  refine (psize_any lives_whole _ _ (A1.out.below L4.out)).mono ?_
  rintro e w5 ⟨rfl, l5⟩
  rw [lives_size]
  have L5 := Lib.hid (L1.out.trans ((L4.out.trans (l5.mono L4.out.size)).mono L1.out.size))
  clear l5
  go_wp2_with fail
  go_ret
  exact ⟨rfl, L5.out⟩
theorem zero_low (w : World) : PLow w zeroR (leaf 0 ⟨#[]⟩) := PAt.leaf _ _ 0 ⟨#[]⟩
set_option maxHeartbeats 4000000 in
theorem law_ok {s : ByteArray} (hs : s.size ≤ 300) {p : Piece} {to : Nat} (hw : Whole p) (h1 : ∀ w, Calls Tryz.prog 5 #[.string s] w (ParsesTo w (.ok p to))) (h2 : ∀ w, Calls Tryz.prog 6 #[.string s] w (ParsesTo w (.ok p to))) (w : World) : Calls Tryz.prog 3 #[.string s] w (YesTo w) := by
  unfold YesTo
  have H1 := Lib.hid h1
  have H2 := Lib.hid h2
  have ti : ¬ (300 : Int) < (s.size : Int) := by omega
  have HW := Lib.hid hw
  obtain ⟨n, hn⟩ : ∃ n, size p = n := ⟨_, rfl⟩
  have HN := Lib.hid hn
  clear hn hw
  clear h1 h2 hs
  go_enter Tryz.func3, Tryz.ntmps3
  go_wp2_with fail
  refine (H1.out _).mono ?_
  rintro e w1 ⟨l1, r1, rfl, hp1⟩
  have L1 := Lib.hid l1
  have A1 := Lib.hid hp1.low
  clear l1 hp1
  go_wp2_with (first
    | (refine alloc_piece rfl rfl ?_; intro w2 b1 e2 p2 l2 z2)
    | (refine store_piece (r := r1) rfl (.tmp 3) (.tmp 16) rfl rfl rfl p2 ?_; intro w3 p3 l3 z3; have L13 := Lib.hid (two_new l2 l3 e2); have P1 := Lib.hid p3; have L3 := Lib.hid (L1.out.trans (L13.out.mono L1.out.size)); clear e2 p2 l2 z2 p3 l3 z3))
  refine (H2.out _).mono ?_
  rintro e w4 ⟨l4, r2, rfl, hp2⟩
  have A2 := Lib.hid hp2.low
  clear hp2
  have L4 := Lib.hid (L3.out.trans (l4.mono L3.out.size))
  have P1 := Lib.hid (P1.out.below l4)
  have A1 := Lib.hid ((A1.out.below L13.out).below l4)
  clear l4
  go_wp2_with (first
    | (refine alloc_piece rfl rfl ?_; intro w2 b2 e2 p2 l2 z2)
    | (refine store_piece (r := r2) rfl (.tmp 6) (.tmp 22) rfl rfl rfl p2 ?_; intro wb p3 l3 z3; have L45 := Lib.hid (two_new l2 l3 e2); have P2 := Lib.hid p3; have P1 := Lib.hid (P1.out.below L45.out); have L5 := Lib.hid (L4.out.trans (L45.out.mono L4.out.size)); clear e2 p2 l2 z2 p3 l3 z3)
    | (refine load_piece (r := r1) rfl (.tmp 3) rfl rfl P1.out ?_)
    | (refine load_piece (r := r2) rfl (.tmp 6) rfl rfl P2.out ?_))
  refine (same_any A1.out _ _ _ (A1.out.below L45.out) (A2.out.below L45.out)).mono ?_
  rintro e w5 ⟨rfl, l5⟩
  have P1 := Lib.hid (P1.out.below l5)
  have P2 := Lib.hid (P2.out.below l5)
  have A1 := Lib.hid ((A1.out.below L45.out).below l5)
  have A2 := Lib.hid ((A2.out.below L45.out).below l5)
  have L6 := Lib.hid (L5.out.trans (l5.mono L5.out.size))
  clear l5
  go_wp2_with fail
  have S0 : Hid (PBox (w5.drewN 1) b1 r1 ∧ PBox (w5.drewN 1) b2 r2 ∧ Below w5.heap.size w5 (w5.drewN 1)) := ⟨P1.out, P2.out, below_draws w5 1⟩
  have KEEP : Hid (∀ x, Below w5.heap.size w5 x → PBox x b1 r1 ∧ PBox x b2 r2 ∧ Below w5.heap.size w5 x) := fun x hx => ⟨P1.out.below hx, P2.out.below hx, hx⟩
  have tb : ((decide ((n : Int) ≤ 4000)) == (decide ((n : Int) ≤ 4000))) = true := beq_self_eq_true _
  refine wp_region_held_drew (S := fun w' => PBox w' b1 r1 ∧ PBox w' b2 r2 ∧ Below w5.heap.size w5 w') (by kernel_rfl) S0.out (fun hHeld => ?_)
  refine wpAnyH_take (i := 0) (oi := { dst := some 39, op := Op.move (Operand.tmp 5), type := 26, pos := "law.go:26", after := #[], guard := none }) (v := ?vk0) rfl (by kernel_rfl) (by kernel_rfl) (by kernel_rfl) (fun _ _ _ h => h) (Or.inl ⟨by rfl, ?hk0⟩) (by assumption) ?rk0
  case hk0 => (intro w hSw; (try dsimp only at hSw); go_simp; try with_reducible rfl)
  try simp only [Act.put, List.setIfInBounds_toArray, List.set_cons_zero, List.set_cons_succ]
  refine wpAnyH_take (i := 1) (oi := { dst := some 40, op := Op.binOp BinOp.neq 26 (Operand.tmp 39) (Operand.const (Value.int IntKind.i64 0)) 26, type := 4, pos := "law.go:26", after := #[{ on := 0, ground := Ground.data }], guard := none }) (v := ?vk1) rfl (by kernel_rfl) (by kernel_rfl) (by kernel_rfl) (fun _ _ _ h => h) (Or.inl ⟨by rfl, ?hk1⟩) (by assumption) ?rk1
  case hk1 => (intro w hSw; (try dsimp only at hSw); go_simp; try with_reducible rfl)
  try simp only [Act.put, List.setIfInBounds_toArray, List.set_cons_zero, List.set_cons_succ]
  refine wpAnyH_take (i := 2) (oi := { dst := some 41, op := Op.move (Operand.tmp 40), type := 4, pos := "law.go:26", after := #[{ on := 1, ground := Ground.data }], guard := none }) (v := ?vk2) rfl (by kernel_rfl) (by kernel_rfl) (by kernel_rfl) (fun _ _ _ h => h) (Or.inl ⟨by rfl, ?hk2⟩) (by assumption) ?rk2
  case hk2 => (intro w hSw; (try dsimp only at hSw); go_simp; try with_reducible rfl)
  try simp only [Act.put, List.setIfInBounds_toArray, List.set_cons_zero, List.set_cons_succ]
  refine wpAnyH_take (i := 3) (oi := { dst := some 42, op := Op.load 25 (Operand.tmp 3), type := 25, pos := "law.go:26", after := #[{ on := 2, ground := Ground.guard }], guard := some (2, false) }) (v := ?vk3) rfl (by kernel_rfl) (by kernel_rfl) (by kernel_rfl) (fun _ _ _ h => h) (Or.inl ⟨by rfl, ?hk3⟩) (by assumption) ?rk3
  case hk3 => (intro w hSw; (try dsimp only at hSw); (first | (refine run_load_op (.tmp 3) ?_ ?_ hSw.1.cells <;> rfl) | (go_simp; try with_reducible rfl)))
  try simp only [Act.put, List.setIfInBounds_toArray, List.set_cons_zero, List.set_cons_succ]
  refine wpAnyH_take (i := 5) (oi := { dst := some 44, op := Op.load 25 (Operand.tmp 6), type := 25, pos := "law.go:26", after := #[{ on := 2, ground := Ground.guard }], guard := some (2, false) }) (v := ?vk5) rfl (by kernel_rfl) (by kernel_rfl) (by kernel_rfl) (fun _ _ _ h => h) (Or.inl ⟨by rfl, ?hk5⟩) (by assumption) ?rk5
  case hk5 => (intro w hSw; (try dsimp only at hSw); (first | (refine run_load_op (.tmp 6) ?_ ?_ hSw.2.1.cells <;> rfl) | (go_simp; try with_reducible rfl)))
  try simp only [Act.put, List.setIfInBounds_toArray, List.set_cons_zero, List.set_cons_succ]
  refine wpAnyH_ready (rs := [4]) (by kernel_rfl) (by simp) ?_
  refine AllReadyH.cons (o := { dst := some 43, op := Op.call { callee := Callee.value (Operand.func 8), args := #[Operand.tmp 42], argTypes := #[25] }, type := 4, pos := "law.go:26", after := #[{ on := 3, ground := Ground.data }, { on := 2, ground := Ground.chain }, { on := 2, ground := Ground.guard }], guard := some (2, false) }) rfl (fun K hK => ?_) AllReadyH.nil
  go_simp
  (go_at_call 8; refine (right_any HW.out (A1.out.below S0.out.2.2)).mono ?_; rintro e x2 ⟨rfl, m2⟩; have L2 := Lib.hid (S0.out.2.2.trans (m2.mono S0.out.2.2.size)); clear m2)
  go_wp2_with fail
  refine hK.out _ _ ?_ (fun hHeld => ?_)
  · exact KEEP.out _ L2.out
  clear hK K
  try simp only [Act.put, List.setIfInBounds_toArray, List.set_cons_zero, List.set_cons_succ]
  refine wpAnyH_ready (rs := [6]) (by kernel_rfl) (by simp) ?_
  refine AllReadyH.cons (o := { dst := some 45, op := Op.call { callee := Callee.value (Operand.func 9), args := #[Operand.tmp 44], argTypes := #[25] }, type := 3, pos := "law.go:26", after := #[{ on := 5, ground := Ground.data }, { on := 4, ground := Ground.chain }, { on := 2, ground := Ground.guard }], guard := some (2, false) }) rfl (fun K hK => ?_) AllReadyH.nil
  go_simp
  (go_at_call 9; refine (rsize_any HW.out _ _ (A2.out.below L2.out)).mono ?_; rintro e x3 ⟨rfl, m3⟩; rw [HN.out]; have L3 := Lib.hid (L2.out.trans (m3.mono L2.out.size)); clear m3)
  go_wp2_with fail
  refine hK.out _ _ ?_ (fun hHeld => ?_)
  · exact KEEP.out _ L3.out
  clear hK K
  try simp only [Act.put, List.setIfInBounds_toArray, List.set_cons_zero, List.set_cons_succ]
  refine wpAnyH_take (i := 7) (oi := { dst := some 46, op := Op.binOp BinOp.leq 3 (Operand.tmp 45) (Operand.const (Value.int IntKind.i64 4000)) 3, type := 4, pos := "law.go:26", after := #[{ on := 6, ground := Ground.data }, { on := 2, ground := Ground.guard }], guard := some (2, false) }) (v := ?vk7) rfl (by kernel_rfl) (by kernel_rfl) (by kernel_rfl) (fun _ _ _ h => h) (Or.inl ⟨by rfl, ?hk7⟩) (by assumption) ?rk7
  case hk7 => (intro w hSw; (try dsimp only at hSw); go_simp; try with_reducible rfl)
  try simp only [Act.put, List.setIfInBounds_toArray, List.set_cons_zero, List.set_cons_succ]
  refine wpAnyH_take (i := 8) (oi := { dst := some 47, op := Op.binOp BinOp.eql 4 (Operand.tmp 43) (Operand.tmp 46) 4, type := 4, pos := "law.go:26", after := #[{ on := 4, ground := Ground.data }, { on := 7, ground := Ground.data }, { on := 2, ground := Ground.guard }], guard := some (2, false) }) (v := ?vk8) rfl (by kernel_rfl) (by kernel_rfl) (by kernel_rfl) (fun _ _ _ h => h) (Or.inl ⟨by rfl, ?hk8⟩) (by assumption) ?rk8
  case hk8 => (intro w hSw; (try dsimp only at hSw); go_simp; try with_reducible rfl)
  try simp only [Act.put, List.setIfInBounds_toArray, List.set_cons_zero, List.set_cons_succ]
  refine wpAnyH_take (i := 9) (oi := { dst := some 48, op := Op.pick (Operand.tmp 41) (Operand.const (Value.bool true)) (Operand.tmp 47), type := 4, pos := "law.go:26", after := #[{ on := 2, ground := Ground.data }, { on := 8, ground := Ground.data }], guard := none }) (v := ?vk9) rfl (by kernel_rfl) (by kernel_rfl) (by kernel_rfl) (fun _ _ _ h => h) (Or.inl ⟨by rfl, ?hk9⟩) (by assumption) ?rk9
  case hk9 => (intro w hSw; (try dsimp only at hSw); go_simp; try with_reducible rfl)
  try simp only [Act.put, List.setIfInBounds_toArray, List.set_cons_zero, List.set_cons_succ]
  refine wpAnyH_take (i := 10) (oi := { dst := some 49, op := Op.move (Operand.tmp 48), type := 4, pos := "law.go:26", after := #[{ on := 9, ground := Ground.data }, { on := 6, ground := Ground.chain }], guard := none }) (v := ?vk10) rfl (by kernel_rfl) (by kernel_rfl) (by kernel_rfl) (fun _ _ _ h => h) (Or.inl ⟨by rfl, ?hk10⟩) (by assumption) ?rk10
  case hk10 => (intro w hSw; (try dsimp only at hSw); go_simp; try with_reducible rfl)
  try simp only [Act.put, List.setIfInBounds_toArray, List.set_cons_zero, List.set_cons_succ]
  refine wpAnyH_ready (rs := [11]) (by kernel_rfl) (by simp) ?_
  refine AllReadyH.cons (o := { dst := some 50, op := Op.call { callee := Callee.value (Operand.func 4), args := #[], argTypes := #[] }, type := 4, pos := "law.go:26", after := #[{ on := 10, ground := Ground.chain }, { on := 10, ground := Ground.guard }], guard := some (10, true) }) rfl (fun K hK => ?_) AllReadyH.nil
  go_simp
  (go_at_call 4; refine (lives_any _).mono ?_; rintro e x4 ⟨rfl, m4⟩; have L4 := Lib.hid (L3.out.trans (m4.mono L3.out.size)); clear m4)
  go_wp2_with fail
  refine hK.out _ _ ?_ (fun hHeld => ?_)
  · exact KEEP.out _ L4.out
  clear hK K
  try simp only [Act.put, List.setIfInBounds_toArray, List.set_cons_zero, List.set_cons_succ]
  refine wpAnyH_take (i := 12) (oi := { dst := some 51, op := Op.pick (Operand.tmp 49) (Operand.tmp 50) (Operand.const (Value.bool false)), type := 4, pos := "law.go:26", after := #[{ on := 10, ground := Ground.data }, { on := 11, ground := Ground.data }], guard := none }) (v := ?vk12) rfl (by kernel_rfl) (by kernel_rfl) (by kernel_rfl) (fun _ _ _ h => h) (Or.inl ⟨by rfl, ?hk12⟩) (by assumption) ?rk12
  case hk12 => (intro w hSw; (try dsimp only at hSw); go_simp; try with_reducible rfl)
  try simp only [Act.put, List.setIfInBounds_toArray, List.set_cons_zero, List.set_cons_succ]
  refine wpAnyH_take (i := 13) (oi := { dst := some 2, op := Op.assign (Operand.tmp 51), type := 4, pos := "law.go:26", after := #[{ on := 12, ground := Ground.data }, { on := 11, ground := Ground.chain }, { on := 0, ground := Ground.phase }, { on := 1, ground := Ground.phase }, { on := 2, ground := Ground.phase }, { on := 3, ground := Ground.phase }, { on := 4, ground := Ground.phase }, { on := 5, ground := Ground.phase }, { on := 6, ground := Ground.phase }, { on := 7, ground := Ground.phase }, { on := 8, ground := Ground.phase }, { on := 9, ground := Ground.phase }, { on := 10, ground := Ground.phase }, { on := 11, ground := Ground.phase }, { on := 12, ground := Ground.phase }], guard := none }) (v := ?vk13) rfl (by kernel_rfl) (by kernel_rfl) (by kernel_rfl) (fun _ _ _ h => h) (Or.inl ⟨by rfl, ?hk13⟩) (by assumption) ?rk13
  case hk13 => (intro w hSw; (try dsimp only at hSw); go_simp; try with_reducible rfl)
  try simp only [Act.put, List.setIfInBounds_toArray, List.set_cons_zero, List.set_cons_succ]
  refine wpAnyH_done (by kernel_rfl) ?_ _
  have L9 := Lib.hid (L6.out.trans (L4.out.mono L6.out.size))
  go_wp2_with fail
  go_ret
  exact ⟨rfl, L9.out⟩
set_option maxHeartbeats 4000000 in
theorem law_bad {s : ByteArray} (hs : s.size ≤ 300) {q : Nat} {er : Int} (h1 : ∀ w, Calls Tryz.prog 5 #[.string s] w (ParsesTo w (.bad q er))) (h2 : ∀ w, Calls Tryz.prog 6 #[.string s] w (ParsesTo w (.bad q er))) (w : World) : Calls Tryz.prog 3 #[.string s] w (YesTo w) := by
  unfold YesTo
  have H1 := Lib.hid h1
  have H2 := Lib.hid h2
  have ti : ¬ (300 : Int) < (s.size : Int) := by omega
  clear h1 h2 hs
  go_enter Tryz.func3, Tryz.ntmps3
  go_wp2_with fail
  refine (H1.out _).mono ?_
  rintro e w1 ⟨l1, he, rfl⟩
  have L1 := Lib.hid l1
  have A1 := Lib.hid (zero_low w1)
  have te : (er != 0) = true := by simpa using he
  have tq : ((q : Int) != (q : Int)) = false := by simp
  have tr : (er != er) = false := by simp
  clear l1 he
  go_wp2_with (first
    | (refine alloc_piece rfl rfl ?_; intro w2 b1 e2 p2 l2 z2)
    | (refine store_piece (r := zeroR) rfl (.tmp 3) (.tmp 16) rfl rfl rfl p2 ?_; intro w3 p3 l3 z3; have L13 := Lib.hid (two_new l2 l3 e2); have P1 := Lib.hid p3; have L3 := Lib.hid (L1.out.trans (L13.out.mono L1.out.size)); clear e2 p2 l2 z2 p3 l3 z3))
  refine (H2.out _).mono ?_
  rintro e w4 ⟨l4, -, rfl⟩
  have A2 := Lib.hid (zero_low w4)
  have L4 := Lib.hid (L3.out.trans (l4.mono L3.out.size))
  have P1 := Lib.hid (P1.out.below l4)
  have A1 := Lib.hid ((A1.out.below L13.out).below l4)
  clear l4
  go_wp2_with (first
    | (refine alloc_piece rfl rfl ?_; intro w2 b2 e2 p2 l2 z2)
    | (refine store_piece (r := zeroR) rfl (.tmp 6) (.tmp 22) rfl rfl rfl p2 ?_; intro wb p3 l3 z3; have L45 := Lib.hid (two_new l2 l3 e2); have P2 := Lib.hid p3; have P1 := Lib.hid (P1.out.below L45.out); have L5 := Lib.hid (L4.out.trans (L45.out.mono L4.out.size)); clear e2 p2 l2 z2 p3 l3 z3)
    | (refine load_piece (r := zeroR) rfl (.tmp 3) rfl rfl P1.out ?_)
    | (refine load_piece (r := zeroR) rfl (.tmp 6) rfl rfl P2.out ?_))
  refine (same_any A1.out _ _ _ (A1.out.below L45.out) (A2.out.below L45.out)).mono ?_
  rintro e w5 ⟨rfl, l5⟩
  have P1 := Lib.hid (P1.out.below l5)
  have P2 := Lib.hid (P2.out.below l5)
  have A1 := Lib.hid ((A1.out.below L45.out).below l5)
  have A2 := Lib.hid ((A2.out.below L45.out).below l5)
  have L6 := Lib.hid (L5.out.trans (l5.mono L5.out.size))
  clear l5
  go_wp2_with fail
  have S0 : Hid (PBox (w5.drewN 1) b1 zeroR ∧ PBox (w5.drewN 1) b2 zeroR ∧ Below w5.heap.size w5 (w5.drewN 1)) := ⟨P1.out, P2.out, below_draws w5 1⟩
  have KEEP : Hid (∀ x, Below w5.heap.size w5 x → PBox x b1 zeroR ∧ PBox x b2 zeroR ∧ Below w5.heap.size w5 x) := fun x hx => ⟨P1.out.below hx, P2.out.below hx, hx⟩
  have S0' := Lib.hid S0.out.2.2
  refine wp_region_held_drew (S := fun w' => PBox w' b1 zeroR ∧ PBox w' b2 zeroR ∧ Below w5.heap.size w5 w') (by kernel_rfl) S0.out (fun hHeld => ?_)
  refine wpAnyH_take (i := 0) (oi := { dst := some 39, op := Op.move (Operand.tmp 5), type := 26, pos := "law.go:26", after := #[], guard := none }) (v := ?vk0) rfl (by kernel_rfl) (by kernel_rfl) (by kernel_rfl) (fun _ _ _ h => h) (Or.inl ⟨by rfl, ?hk0⟩) (by assumption) ?rk0
  case hk0 => (intro w hSw; (try dsimp only at hSw); go_simp; try with_reducible rfl)
  try simp only [Act.put, List.setIfInBounds_toArray, List.set_cons_zero, List.set_cons_succ]
  refine wpAnyH_take (i := 1) (oi := { dst := some 40, op := Op.binOp BinOp.neq 26 (Operand.tmp 39) (Operand.const (Value.int IntKind.i64 0)) 26, type := 4, pos := "law.go:26", after := #[{ on := 0, ground := Ground.data }], guard := none }) (v := ?vk1) rfl (by kernel_rfl) (by kernel_rfl) (by kernel_rfl) (fun _ _ _ h => h) (Or.inl ⟨by rfl, ?hk1⟩) (by assumption) ?rk1
  case hk1 => (intro w hSw; (try dsimp only at hSw); go_simp; try with_reducible rfl)
  try simp only [Act.put, List.setIfInBounds_toArray, List.set_cons_zero, List.set_cons_succ]
  refine wpAnyH_take (i := 2) (oi := { dst := some 41, op := Op.move (Operand.tmp 40), type := 4, pos := "law.go:26", after := #[{ on := 1, ground := Ground.data }], guard := none }) (v := ?vk2) rfl (by kernel_rfl) (by kernel_rfl) (by kernel_rfl) (fun _ _ _ h => h) (Or.inl ⟨by rfl, ?hk2⟩) (by assumption) ?rk2
  case hk2 => (intro w hSw; (try dsimp only at hSw); go_simp; try with_reducible rfl)
  try simp only [Act.put, List.setIfInBounds_toArray, List.set_cons_zero, List.set_cons_succ]
  refine wpAnyH_take (i := 3) (oi := { dst := some 42, op := Op.load 25 (Operand.tmp 3), type := 25, pos := "law.go:26", after := #[{ on := 2, ground := Ground.guard }], guard := some (2, false) }) (v := undef) rfl (by kernel_rfl) (by kernel_rfl) (by kernel_rfl) (fun _ _ _ h => h) (Or.inr ⟨by rfl, rfl⟩) (by assumption) ?_
  try simp only [Act.put, List.setIfInBounds_toArray, List.set_cons_zero, List.set_cons_succ]
  refine wpAnyH_take (i := 4) (oi := { dst := some 43, op := Op.call { callee := Callee.value (Operand.func 8), args := #[Operand.tmp 42], argTypes := #[25] }, type := 4, pos := "law.go:26", after := #[{ on := 3, ground := Ground.data }, { on := 2, ground := Ground.chain }, { on := 2, ground := Ground.guard }], guard := some (2, false) }) (v := undef) rfl (by kernel_rfl) (by kernel_rfl) (by kernel_rfl) (fun _ _ _ h => h) (Or.inr ⟨by rfl, rfl⟩) (by assumption) ?_
  try simp only [Act.put, List.setIfInBounds_toArray, List.set_cons_zero, List.set_cons_succ]
  refine wpAnyH_take (i := 5) (oi := { dst := some 44, op := Op.load 25 (Operand.tmp 6), type := 25, pos := "law.go:26", after := #[{ on := 2, ground := Ground.guard }], guard := some (2, false) }) (v := undef) rfl (by kernel_rfl) (by kernel_rfl) (by kernel_rfl) (fun _ _ _ h => h) (Or.inr ⟨by rfl, rfl⟩) (by assumption) ?_
  try simp only [Act.put, List.setIfInBounds_toArray, List.set_cons_zero, List.set_cons_succ]
  refine wpAnyH_take (i := 6) (oi := { dst := some 45, op := Op.call { callee := Callee.value (Operand.func 9), args := #[Operand.tmp 44], argTypes := #[25] }, type := 3, pos := "law.go:26", after := #[{ on := 5, ground := Ground.data }, { on := 4, ground := Ground.chain }, { on := 2, ground := Ground.guard }], guard := some (2, false) }) (v := undef) rfl (by kernel_rfl) (by kernel_rfl) (by kernel_rfl) (fun _ _ _ h => h) (Or.inr ⟨by rfl, rfl⟩) (by assumption) ?_
  try simp only [Act.put, List.setIfInBounds_toArray, List.set_cons_zero, List.set_cons_succ]
  refine wpAnyH_take (i := 7) (oi := { dst := some 46, op := Op.binOp BinOp.leq 3 (Operand.tmp 45) (Operand.const (Value.int IntKind.i64 4000)) 3, type := 4, pos := "law.go:26", after := #[{ on := 6, ground := Ground.data }, { on := 2, ground := Ground.guard }], guard := some (2, false) }) (v := undef) rfl (by kernel_rfl) (by kernel_rfl) (by kernel_rfl) (fun _ _ _ h => h) (Or.inr ⟨by rfl, rfl⟩) (by assumption) ?_
  try simp only [Act.put, List.setIfInBounds_toArray, List.set_cons_zero, List.set_cons_succ]
  refine wpAnyH_take (i := 8) (oi := { dst := some 47, op := Op.binOp BinOp.eql 4 (Operand.tmp 43) (Operand.tmp 46) 4, type := 4, pos := "law.go:26", after := #[{ on := 4, ground := Ground.data }, { on := 7, ground := Ground.data }, { on := 2, ground := Ground.guard }], guard := some (2, false) }) (v := undef) rfl (by kernel_rfl) (by kernel_rfl) (by kernel_rfl) (fun _ _ _ h => h) (Or.inr ⟨by rfl, rfl⟩) (by assumption) ?_
  try simp only [Act.put, List.setIfInBounds_toArray, List.set_cons_zero, List.set_cons_succ]
  refine wpAnyH_take (i := 9) (oi := { dst := some 48, op := Op.pick (Operand.tmp 41) (Operand.const (Value.bool true)) (Operand.tmp 47), type := 4, pos := "law.go:26", after := #[{ on := 2, ground := Ground.data }, { on := 8, ground := Ground.data }], guard := none }) (v := ?vk9) rfl (by kernel_rfl) (by kernel_rfl) (by kernel_rfl) (fun _ _ _ h => h) (Or.inl ⟨by rfl, ?hk9⟩) (by assumption) ?rk9
  case hk9 => (intro w hSw; (try dsimp only at hSw); go_simp; try with_reducible rfl)
  try simp only [Act.put, List.setIfInBounds_toArray, List.set_cons_zero, List.set_cons_succ]
  refine wpAnyH_take (i := 10) (oi := { dst := some 49, op := Op.move (Operand.tmp 48), type := 4, pos := "law.go:26", after := #[{ on := 9, ground := Ground.data }, { on := 6, ground := Ground.chain }], guard := none }) (v := ?vk10) rfl (by kernel_rfl) (by kernel_rfl) (by kernel_rfl) (fun _ _ _ h => h) (Or.inl ⟨by rfl, ?hk10⟩) (by assumption) ?rk10
  case hk10 => (intro w hSw; (try dsimp only at hSw); go_simp; try with_reducible rfl)
  try simp only [Act.put, List.setIfInBounds_toArray, List.set_cons_zero, List.set_cons_succ]
  refine wpAnyH_ready (rs := [11]) (by kernel_rfl) (by simp) ?_
  refine AllReadyH.cons (o := { dst := some 50, op := Op.call { callee := Callee.value (Operand.func 4), args := #[], argTypes := #[] }, type := 4, pos := "law.go:26", after := #[{ on := 10, ground := Ground.chain }, { on := 10, ground := Ground.guard }], guard := some (10, true) }) rfl (fun K hK => ?_) AllReadyH.nil
  go_simp
  (go_at_call 4; refine (lives_any _).mono ?_; rintro e x4 ⟨rfl, m4⟩; have L4 := Lib.hid (S0'.out.trans (m4.mono S0'.out.size)); clear m4)
  go_wp2_with fail
  refine hK.out _ _ ?_ (fun hHeld => ?_)
  · exact KEEP.out _ L4.out
  clear hK K
  try simp only [Act.put, List.setIfInBounds_toArray, List.set_cons_zero, List.set_cons_succ]
  refine wpAnyH_take (i := 12) (oi := { dst := some 51, op := Op.pick (Operand.tmp 49) (Operand.tmp 50) (Operand.const (Value.bool false)), type := 4, pos := "law.go:26", after := #[{ on := 10, ground := Ground.data }, { on := 11, ground := Ground.data }], guard := none }) (v := ?vk12) rfl (by kernel_rfl) (by kernel_rfl) (by kernel_rfl) (fun _ _ _ h => h) (Or.inl ⟨by rfl, ?hk12⟩) (by assumption) ?rk12
  case hk12 => (intro w hSw; (try dsimp only at hSw); go_simp; try with_reducible rfl)
  try simp only [Act.put, List.setIfInBounds_toArray, List.set_cons_zero, List.set_cons_succ]
  refine wpAnyH_take (i := 13) (oi := { dst := some 2, op := Op.assign (Operand.tmp 51), type := 4, pos := "law.go:26", after := #[{ on := 12, ground := Ground.data }, { on := 11, ground := Ground.chain }, { on := 0, ground := Ground.phase }, { on := 1, ground := Ground.phase }, { on := 2, ground := Ground.phase }, { on := 3, ground := Ground.phase }, { on := 4, ground := Ground.phase }, { on := 5, ground := Ground.phase }, { on := 6, ground := Ground.phase }, { on := 7, ground := Ground.phase }, { on := 8, ground := Ground.phase }, { on := 9, ground := Ground.phase }, { on := 10, ground := Ground.phase }, { on := 11, ground := Ground.phase }, { on := 12, ground := Ground.phase }], guard := none }) (v := ?vk13) rfl (by kernel_rfl) (by kernel_rfl) (by kernel_rfl) (fun _ _ _ h => h) (Or.inl ⟨by rfl, ?hk13⟩) (by assumption) ?rk13
  case hk13 => (intro w hSw; (try dsimp only at hSw); go_simp; try with_reducible rfl)
  try simp only [Act.put, List.setIfInBounds_toArray, List.set_cons_zero, List.set_cons_succ]
  refine wpAnyH_done (by kernel_rfl) ?_ _
  have L9 := Lib.hid (L6.out.trans (L4.out.mono L6.out.size))
  go_wp2_with fail
  go_ret
  exact ⟨rfl, L9.out⟩
set_option maxHeartbeats 2000000 in
theorem patternParse_law {w : World} (s : ByteArray) (_hs : s.size ≤ 140737488351232) : Calls Tryz.prog 3 #[.string s] w fun e w' => e = .returned (.bool true) ∧ Below w.heap.size w w' := by
  by_cases hb : s.size ≤ 300
  · obtain ⟨g, hg, hf, hC⟩ := parse_any (s := s) (by omega)
    have hR := rparse_any (by omega) (p13_ok (by omega)) hg hf
    match hx : fix s.data.toList 0 g, hC, hR with
    | .bad q er, hC, hR => exact law_bad hb hC hR w
    | .ok p to, hC, hR =>
      refine law_ok hb ?_ hC hR w
      match g, hf, hx with
      | .bad q er, hf, hx => simp [fix] at hx
      | .ok p2 to2, hf, hx =>
        simp only [fix] at hx
        split at hx
        · simp at hx
        · injection hx with h1 h2
          subst h1
          exact hf.2.2
  · have ti : (300 : Int) < (s.size : Int) := by omega
    clear hb _hs
    go_enter Tryz.func3, Tryz.ntmps3
    go_wp2_with fail
    refine (lives_any _).mono ?_
    rintro e w1 ⟨rfl, l1⟩
    have L1 := Lib.hid l1
    clear l1
    go_wp2_with fail
    go_ret
    exact ⟨rfl, L1.out⟩
end Go.Proofs.YtenlogfiabhfmaaGreatDoor.W14
