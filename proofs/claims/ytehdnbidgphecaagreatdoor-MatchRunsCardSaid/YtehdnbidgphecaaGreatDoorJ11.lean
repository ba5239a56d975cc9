/-
  Texts joined, in build order, each with its own comment and its own conditions: W16Put, W15Gen, W13Ref, W15Goes.
-/
import Derived.Test.YtehdnbidgphecaaGreatDoorJ10
import Derived.Test.YtehdnbidgphecaaGreatDoorJ05
import Derived.Test.YtehdnbidgphecaaGreatDoorJ01
import Derived.Test.YtehdnbidgphecaaGreatDoorJ08
import Derived.Deep.OwnRows
import Derived.Test.YtehdnbidgphecaaGreatDoorJ04
import Derived.Test.YtehdnbidgphecaaGreatDoorJ09
import Derived.Deep.LoopGhost
/-
  Layer 16 (match), walk of put: a mark is put behind a row if its step has none. The conditions stand in the statements.
-/
namespace Go.Proofs.YtehdnbidgphecaaGreatDoor.W16
set_option maxRecDepth 100000
open Go Go.RowKit Go.Proofs.YtehdnbidgphecaaGreatDoor.Strs Go.Proofs.YtehdnbidgphecaaGreatDoor.Recs Go.Proofs.YtehdnbidgphecaaGreatDoor.Range
open Go.Proofs.YtehdnbidgphecaaGreatDoor.M16 (Text steps put put_old put_new)
open Go.Proofs.YtehdnbidgphecaaGreatDoor.W15 (own_type own_block_same)
open Go.Proofs.YtehdnbidgphecaaGreatDoor.W14 (below_new own_same own_form cell_block)
open Go.Proofs.YtehdnbidgphecaaGreatDoor.Kit (below_draws on)

set_option maxHeartbeats 4000000 in
theorem put_any {base : Nat} {w : World} {r g n : Nat} {v : Value} {M : List M16.Mark} (h : RowAt base w r v g n M) (m : M16.Mark) (hm : m.1 < n) (hl : M.length < 1000000) : Calls Tryz.prog 53 #[.pointer (some ⟨r, 0, none⟩), .agg (markA m)] w fun e w' => e = .returned (.tuple #[]) ∧ ∃ v', RowAt base w' r v' g n (put M m) ∧ Grew r g v v' w w' := by
  have H := Lib.hid h
  have hm1 : (m.1 : Int) < (n : Int) := by omega
  have HB := Lib.hid hl
  have HN := Lib.hid hm
  by_cases c : m.1 ∈ steps M
  · rw [put_old c]
    have HD : Hid (decide (m.1 ∈ steps M) = true) := by unfold Hid; simpa using c
    clear h hm hl c
    go_enter Tryz.func53, Tryz.ntmps53
    go_wp2_with (first | (refine box_mark (r := m) rfl (.tmp 1) rfl rfl ?_; intro w1 b1 e1 p1 l1 z1; have a0 := p1.c0; have L1 := Lib.hid l1; have R1 := Lib.hid (H.out.below l1); have a1 := R1.out.c1; have a2 : w1.cell? ⟨g, m.1, none⟩ = some (.bool true) := by { have := R1.out.bits.cell HN.out; rw [HD.out] at this; exact this }; clear e1 p1 l1 z1))
    go_quiet (fail)
    go_wp2_with fail
    go_end0
    exact ⟨rfl, v, R1.out.below (below_draws w1 _), (Grew.of L1.out).trans (Grew.of (below_draws w1 _))⟩
  · rw [put_new c]
    have HD : Hid (decide (m.1 ∈ steps M) = false) := by unfold Hid; simpa using c
    have HC := Lib.hid c
    clear h hm hl c
    go_enter Tryz.func53, Tryz.ntmps53
    go_wp2_with (first | (refine box_mark (r := m) rfl (.tmp 1) rfl rfl ?_; intro w1 b1 e1 p1 l1 z1; have a0 := p1.c0; have L1 := Lib.hid l1; have R1 := Lib.hid (H.out.below l1); have a1 := R1.out.c1; have a2 : w1.cell? ⟨g, m.1, none⟩ = some (.bool false) := by { have := R1.out.bits.cell HN.out; rw [HD.out] at this; exact this }; have a3 := R1.out.bits.free m.1; have P1 := Lib.hid p1; have HB0 := Lib.hid e1; clear e1 p1 l1 z1))
    have NB : Hid (v.ownBlock ≠ some b1) := by unfold Hid; intro q; have := (H.out.own.lt b1 q).2; have := HB0.out; omega
    go_quiet (fail)
    go_wp2_with fail
    go_region
    have r2 := (R1.out.below (below_draws w1 (nq + 1))).set m.1 true
    have m2 : MBox ((w1.drewN (nq + 1)).setCell ⟨g, m.1, none⟩ (.bool true)) b1 m := (P1.out.below (below_draws w1 (nq + 1))).same (heap_setCell_other _ _ _ _ fun e => by
      have e2 : b1 = g := e
      subst e2
      exact absurd (ty_ne P1.out R1.out.bits) (by decide))
    have G2 := Lib.hid (((Grew.of L1.out).trans (Grew.of (below_draws w1 (nq + 1)))).trans r2.2)
    have r3 := r2.1
    clear r2 a0 a1 a2 a3 hm1
    go_wp2_with fail
    generalize ((w1.drewN (nq + 1)).setCell ⟨g, m.1, none⟩ (.bool true)) = w5 at r3 m2 G2 ⊢
    have R5 := Lib.hid (r3.below (below_draws w5 1))
    have M5 := Lib.hid (m2.below (below_draws w5 1))
    have G5 := Lib.hid (G2.out.trans (Grew.of (below_draws w5 1)))
    have HB1 : Hid (b1 ≠ r) := by unfold Hid; have := H.out.lt; have := HB0.out; omega
    have a5 : w5.drew.cell? ⟨r, 0, none⟩ = some v := R5.out.c0
    clear r3 m2
    refine wp_region_held_drew (S := fun w' => MBox w' b1 m) (by kernel_rfl) M5.out (fun hHeld => ?_)
    refine wpAnyH_take (i := 0) (oi := { dst := some 20, op := Op.move (Operand.tmp 0), type := 70, pos := "match.go:149", after := #[], guard := none }) (v := ?vo0) rfl (by kernel_rfl) (by kernel_rfl) (by kernel_rfl) (fun _ _ _ h => h) (Or.inl ⟨by rfl, ?ho0⟩) (by assumption) ?ro0
    case ho0 => (intro w hSw; (try dsimp only at hSw); go_simp; try with_reducible rfl)
    try simp only [Act.put, List.setIfInBounds_toArray, List.set_cons_zero, List.set_cons_succ]
    refine wpAnyH_take (i := 1) (oi := { dst := some 21, op := Op.move (Operand.tmp 0), type := 70, pos := "match.go:149", after := #[], guard := none }) (v := ?vo1) rfl (by kernel_rfl) (by kernel_rfl) (by kernel_rfl) (fun _ _ _ h => h) (Or.inl ⟨by rfl, ?ho1⟩) (by assumption) ?ro1
    case ho1 => (intro w hSw; (try dsimp only at hSw); go_simp; try with_reducible rfl)
    try simp only [Act.put, List.setIfInBounds_toArray, List.set_cons_zero, List.set_cons_succ]
    refine wpAnyH_take (i := 2) (oi := { dst := some 22, op := Op.nilCheck (Operand.tmp 21), type := 0, pos := "match.go:149", after := #[{ on := 1, ground := Ground.data }], guard := none }) (v := ?vo2) rfl (by kernel_rfl) (by kernel_rfl) (by kernel_rfl) (fun _ _ _ h => h) (Or.inl ⟨by rfl, ?ho2⟩) (by assumption) ?ro2
    case ho2 => (intro w hSw; (try dsimp only at hSw); go_simp; try with_reducible rfl)
    try simp only [Act.put, List.setIfInBounds_toArray, List.set_cons_zero, List.set_cons_succ]
    refine wpAnyH_take (i := 3) (oi := { dst := some 23, op := Op.fieldAddr 74 (Operand.tmp 22) 0, type := 0, pos := "match.go:149", after := #[{ on := 2, ground := Ground.data }], guard := none }) (v := ?vo3) rfl (by kernel_rfl) (by kernel_rfl) (by kernel_rfl) (fun _ _ _ h => h) (Or.inl ⟨by rfl, ?ho3⟩) (by assumption) ?ro3
    case ho3 => (intro w hSw; (try dsimp only at hSw); go_simp; try with_reducible rfl)
    try simp only [Act.put, List.setIfInBounds_toArray, List.set_cons_zero, List.set_cons_succ]
    refine wpAnyH_take (i := 5) (oi := { dst := some 25, op := Op.load 77 (Operand.tmp 3), type := 77, pos := "match.go:149", after := #[], guard := none }) (v := ?vo5) rfl (by kernel_rfl) (by kernel_rfl) (by kernel_rfl) (fun _ _ _ h => h) (Or.inl ⟨by rfl, ?ho5⟩) (by assumption) ?ro5
    case ho5 => (intro w hSw; (try dsimp only at hSw); refine run_load_mark (.tmp 3) ?_ ?_ hSw.cells <;> rfl)
    try simp only [Act.put, List.setIfInBounds_toArray, List.set_cons_zero, List.set_cons_succ]
    refine wpAnyH_ready (rs := [4, 6]) (by kernel_rfl) (by simp) ?_
    refine AllReadyH.cons (o := { dst := some 24, op := Op.load 72 (Operand.tmp 23), type := 72, pos := "match.go:149", after := #[{ on := 3, ground := Ground.data }], guard := none }) rfl (fun K hK => ?_) (AllReadyH.cons (o := { dst := some 26, op := Op.buildSlice 72 1 #[(0, Operand.tmp 25)], type := 72, pos := "match.go:149", after := #[{ on := 5, ground := Ground.data }], guard := none }) rfl (fun K hK => ?_) AllReadyH.nil)
    · go_simp
      skip
      go_wp2_with fail
      refine hK.out _ _ ?_ (fun hHeld => ?_)
      · exact M5.out
      clear hK K
      try simp only [Act.put, List.setIfInBounds_toArray, List.set_cons_zero, List.set_cons_succ]
      refine wpAnyH_ready (rs := [6]) (by kernel_rfl) (by simp) ?_
      refine AllReadyH.cons (o := { dst := some 26, op := Op.buildSlice 72 1 #[(0, Operand.tmp 25)], type := 72, pos := "match.go:149", after := #[{ on := 5, ground := Ground.data }], guard := none }) rfl (fun K hK => ?_) AllReadyH.nil
      rw [if_pos (by rfl)]
      (refine wp_slice_mark (r := m) (.tmp 25) rfl rfl ?_; intro w6 b6 e6 p6 l6 z6 o6; have P6 := Lib.hid p6; have L6 := Lib.hid l6; clear e6 p6 l6 z6 o6; have R6 := Lib.hid (R5.out.below L6.out); have M6 := Lib.hid (M5.out.below L6.out); have a6 := R6.out.c0)
      refine hK.out _ _ ?_ (fun hHeld => ?_)
      · exact M6.out
      clear hK K
      try simp only [Act.put, List.setIfInBounds_toArray, List.set_cons_zero, List.set_cons_succ]
      refine wpAnyH_ready (rs := [7]) (by kernel_rfl) (by simp) ?_
      refine AllReadyH.cons (o := { dst := some 27, op := Op.call { callee := Callee.builtin Builtin.append, args := #[Operand.tmp 24, Operand.tmp 26], argTypes := #[72, 72] }, type := 72, pos := "match.go:149", after := #[{ on := 4, ground := Ground.data }, { on := 6, ground := Ground.data }], guard := none }) rfl (fun K hK => ?_) AllReadyH.nil
      rw [if_pos (by rfl)]
      (refine wp_append_mark (.tmp 24) (.tmp 26) rfl rfl rfl R6.out.own P6.out (by simp only [List.length_cons, List.length_nil]; have := HB.out; omega) (Nat.le_trans R6.out.low (Nat.le_of_lt R6.out.lt)) ?_; intro v7 w7 o7 p7; obtain ⟨g7, c7, rfl, -, -, -, -⟩ := own_form o7 (by simp); have O7 := Lib.hid p7; have N7 := Lib.hid o7; have R7 := Lib.hid (R6.out.put_box p7); have M7 := Lib.hid (mbox_put p7 M6.out NB.out); clear o7 p7; obtain ⟨q7, hq7⟩ : ∃ q7, (M ++ [m]).length = q7 := ⟨_, rfl⟩; have HQ := Lib.hid hq7; rw [hq7]; clear hq7; have f7 := R7.out.2; have d7 := R7.out.1)
      refine hK.out _ _ ?_ (fun hHeld => ?_)
      · exact M7.out
      clear hK K
      try simp only [Act.put, List.setIfInBounds_toArray, List.set_cons_zero, List.set_cons_succ]
      refine wpAnyH_take (i := 8) (oi := { dst := some 28, op := Op.nilCheck (Operand.tmp 20), type := 0, pos := "match.go:149", after := #[{ on := 0, ground := Ground.data }, { on := 0, ground := Ground.phase }, { on := 1, ground := Ground.phase }, { on := 2, ground := Ground.phase }, { on := 3, ground := Ground.phase }, { on := 4, ground := Ground.phase }, { on := 5, ground := Ground.phase }, { on := 6, ground := Ground.phase }, { on := 7, ground := Ground.phase }], guard := none }) (v := ?vp8) rfl (by kernel_rfl) (by kernel_rfl) (by kernel_rfl) (fun _ _ _ h => h) (Or.inl ⟨by rfl, ?hp8⟩) (by assumption) ?rp8
      case hp8 => (intro w hSw; (try dsimp only at hSw); go_simp; try with_reducible rfl)
      try simp only [Act.put, List.setIfInBounds_toArray, List.set_cons_zero, List.set_cons_succ]
      refine wpAnyH_take (i := 9) (oi := { dst := some 29, op := Op.fieldAddr 74 (Operand.tmp 28) 0, type := 0, pos := "match.go:149", after := #[{ on := 8, ground := Ground.data }, { on := 0, ground := Ground.phase }, { on := 1, ground := Ground.phase }, { on := 2, ground := Ground.phase }, { on := 3, ground := Ground.phase }, { on := 4, ground := Ground.phase }, { on := 5, ground := Ground.phase }, { on := 6, ground := Ground.phase }, { on := 7, ground := Ground.phase }], guard := none }) (v := ?vp9) rfl (by kernel_rfl) (by kernel_rfl) (by kernel_rfl) (fun _ _ _ h => h) (Or.inl ⟨by rfl, ?hp9⟩) (by assumption) ?rp9
      case hp9 => (intro w hSw; (try dsimp only at hSw); go_simp; try with_reducible rfl)
      try simp only [Act.put, List.setIfInBounds_toArray, List.set_cons_zero, List.set_cons_succ]
      refine wpAnyH_ready (rs := [10]) (by kernel_rfl) (by simp) ?_
      refine AllReadyH.cons (o := { dst := none, op := Op.store 72 (Operand.tmp 29) (Operand.tmp 27), type := 0, pos := "match.go:149", after := #[{ on := 9, ground := Ground.data }, { on := 7, ground := Ground.data }, { on := 7, ground := Ground.chain }, { on := 0, ground := Ground.phase }, { on := 1, ground := Ground.phase }, { on := 2, ground := Ground.phase }, { on := 3, ground := Ground.phase }, { on := 4, ground := Ground.phase }, { on := 5, ground := Ground.phase }, { on := 6, ground := Ground.phase }, { on := 7, ground := Ground.phase }], guard := none }) rfl (fun K hK => ?_) AllReadyH.nil
      go_simp
      skip
      go_wp2_with fail
      refine hK.out _ _ ?_ (fun hHeld => ?_)
      · exact M7.out.same (heap_setCell_other w7 _ _ _ (fun e => HB1.out e))
      clear hK K
      try simp only [Act.put, List.setIfInBounds_toArray, List.set_cons_zero, List.set_cons_succ]
      refine wpAnyH_done (by kernel_rfl) ?_ _
      go_wp2_with fail
      go_end0
      have h9 := R6.out.more N7.out O7.out
      rw [HQ.out] at h9
      refine ⟨rfl, _, h9.1.is fun i hi => ?_, (G5.out.trans (Grew.of L6.out)).trans h9.2⟩
      unfold steps
      rw [List.map_append]
      by_cases e : i = m.1
      · subst e; simp
      · simp [e]
    · rw [if_pos (by rfl)]
      (refine wp_slice_mark (r := m) (.tmp 25) rfl rfl ?_; intro w6 b6 e6 p6 l6 z6 o6; have P6 := Lib.hid p6; have L6 := Lib.hid l6; clear e6 p6 l6 z6 o6; have R6 := Lib.hid (R5.out.below L6.out); have M6 := Lib.hid (M5.out.below L6.out); have a6 := R6.out.c0)
      refine hK.out _ _ ?_ (fun hHeld => ?_)
      · exact M6.out
      clear hK K
      try simp only [Act.put, List.setIfInBounds_toArray, List.set_cons_zero, List.set_cons_succ]
      refine wpAnyH_ready (rs := [4]) (by kernel_rfl) (by simp) ?_
      refine AllReadyH.cons (o := { dst := some 24, op := Op.load 72 (Operand.tmp 23), type := 72, pos := "match.go:149", after := #[{ on := 3, ground := Ground.data }], guard := none }) rfl (fun K hK => ?_) AllReadyH.nil
      go_simp
      skip
      go_wp2_with fail
      refine hK.out _ _ ?_ (fun hHeld => ?_)
      · exact M6.out
      clear hK K
      try simp only [Act.put, List.setIfInBounds_toArray, List.set_cons_zero, List.set_cons_succ]
      refine wpAnyH_ready (rs := [7]) (by kernel_rfl) (by simp) ?_
      refine AllReadyH.cons (o := { dst := some 27, op := Op.call { callee := Callee.builtin Builtin.append, args := #[Operand.tmp 24, Operand.tmp 26], argTypes := #[72, 72] }, type := 72, pos := "match.go:149", after := #[{ on := 4, ground := Ground.data }, { on := 6, ground := Ground.data }], guard := none }) rfl (fun K hK => ?_) AllReadyH.nil
      rw [if_pos (by rfl)]
      (refine wp_append_mark (.tmp 24) (.tmp 26) rfl rfl rfl R6.out.own P6.out (by simp only [List.length_cons, List.length_nil]; have := HB.out; omega) (Nat.le_trans R6.out.low (Nat.le_of_lt R6.out.lt)) ?_; intro v7 w7 o7 p7; obtain ⟨g7, c7, rfl, -, -, -, -⟩ := own_form o7 (by simp); have O7 := Lib.hid p7; have N7 := Lib.hid o7; have R7 := Lib.hid (R6.out.put_box p7); have M7 := Lib.hid (mbox_put p7 M6.out NB.out); clear o7 p7; obtain ⟨q7, hq7⟩ : ∃ q7, (M ++ [m]).length = q7 := ⟨_, rfl⟩; have HQ := Lib.hid hq7; rw [hq7]; clear hq7; have f7 := R7.out.2; have d7 := R7.out.1)
      refine hK.out _ _ ?_ (fun hHeld => ?_)
      · exact M7.out
      clear hK K
      try simp only [Act.put, List.setIfInBounds_toArray, List.set_cons_zero, List.set_cons_succ]
      refine wpAnyH_take (i := 8) (oi := { dst := some 28, op := Op.nilCheck (Operand.tmp 20), type := 0, pos := "match.go:149", after := #[{ on := 0, ground := Ground.data }, { on := 0, ground := Ground.phase }, { on := 1, ground := Ground.phase }, { on := 2, ground := Ground.phase }, { on := 3, ground := Ground.phase }, { on := 4, ground := Ground.phase }, { on := 5, ground := Ground.phase }, { on := 6, ground := Ground.phase }, { on := 7, ground := Ground.phase }], guard := none }) (v := ?vq8) rfl (by kernel_rfl) (by kernel_rfl) (by kernel_rfl) (fun _ _ _ h => h) (Or.inl ⟨by rfl, ?hq8⟩) (by assumption) ?rq8
      case hq8 => (intro w hSw; (try dsimp only at hSw); go_simp; try with_reducible rfl)
      try simp only [Act.put, List.setIfInBounds_toArray, List.set_cons_zero, List.set_cons_succ]
      refine wpAnyH_take (i := 9) (oi := { dst := some 29, op := Op.fieldAddr 74 (Operand.tmp 28) 0, type := 0, pos := "match.go:149", after := #[{ on := 8, ground := Ground.data }, { on := 0, ground := Ground.phase }, { on := 1, ground := Ground.phase }, { on := 2, ground := Ground.phase }, { on := 3, ground := Ground.phase }, { on := 4, ground := Ground.phase }, { on := 5, ground := Ground.phase }, { on := 6, ground := Ground.phase }, { on := 7, ground := Ground.phase }], guard := none }) (v := ?vq9) rfl (by kernel_rfl) (by kernel_rfl) (by kernel_rfl) (fun _ _ _ h => h) (Or.inl ⟨by rfl, ?hq9⟩) (by assumption) ?rq9
      case hq9 => (intro w hSw; (try dsimp only at hSw); go_simp; try with_reducible rfl)
      try simp only [Act.put, List.setIfInBounds_toArray, List.set_cons_zero, List.set_cons_succ]
      refine wpAnyH_ready (rs := [10]) (by kernel_rfl) (by simp) ?_
      refine AllReadyH.cons (o := { dst := none, op := Op.store 72 (Operand.tmp 29) (Operand.tmp 27), type := 0, pos := "match.go:149", after := #[{ on := 9, ground := Ground.data }, { on := 7, ground := Ground.data }, { on := 7, ground := Ground.chain }, { on := 0, ground := Ground.phase }, { on := 1, ground := Ground.phase }, { on := 2, ground := Ground.phase }, { on := 3, ground := Ground.phase }, { on := 4, ground := Ground.phase }, { on := 5, ground := Ground.phase }, { on := 6, ground := Ground.phase }, { on := 7, ground := Ground.phase }], guard := none }) rfl (fun K hK => ?_) AllReadyH.nil
      go_simp
      skip
      go_wp2_with fail
      refine hK.out _ _ ?_ (fun hHeld => ?_)
      · exact M7.out.same (heap_setCell_other w7 _ _ _ (fun e => HB1.out e))
      clear hK K
      try simp only [Act.put, List.setIfInBounds_toArray, List.set_cons_zero, List.set_cons_succ]
      refine wpAnyH_done (by kernel_rfl) ?_ _
      go_wp2_with fail
      go_end0
      have h9 := R6.out.more N7.out O7.out
      rw [HQ.out] at h9
      refine ⟨rfl, _, h9.1.is fun i hi => ?_, (G5.out.trans (Grew.of L6.out)).trans h9.2⟩
      unfold steps
      rw [List.map_append]
      by_cases e : i = m.1
      · subst e; simp
      · simp [e]
end Go.Proofs.YtehdnbidgphecaaGreatDoor.W16
/-
  Layer 15 (prog), plain mathematics of any piece: whether it may be, how many steps it has. No condition but those that each theorem bears.
-/
namespace Go.Proofs.YtehdnbidgphecaaGreatDoor.M15
open Go Go.Proofs.YtehdnbidgphecaaGreatDoor.M14
open Go.Proofs.YtehdnbidgphecaaGreatDoor.M13 (good)

/-- whether a piece tells how often its one kid may be there -/
def oft (t : ByteArray) (n : Nat) (m tp : Int) : Bool := decide (n = 1) && decide (t.size = 0) && decide (0 ≤ m) && decide (m ≤ 100) && decide (tp ≤ 100) && (decide (tp = -1) || decide (m ≤ tp))
/-- whether a piece is as those of its kind, but for its kids -/
def own (k : Int) (t : ByteArray) (n : Nat) (m tp : Int) : Bool :=
  if k = 9 then oft t n m tp
  else decide (m = 0) && (decide (tp = 0) && (if k = 7 ∨ k = 8 then decide (1 < n) && decide (t.size = 0)
    else decide (n = 0) && (if k = 2 then decide (t.size = 1) else if k = 4 then good t.data.toList else decide (t.size = 0) && decide (k = 1 ∨ k = 3 ∨ k = 5 ∨ k = 6))))
mutual
def gwhole : Piece → Bool
  | .mk k t ks m tp => gwholes ks && own k t ks.length m tp
def gwholes : List Piece → Bool
  | [] => true
  | p :: l => gwhole p && gwholes l
end
theorem gwholes_all : ∀ l : List Piece, gwholes l = l.all gwhole
  | [] => by simp [gwholes]
  | p :: l => by rw [gwholes, gwholes_all l, List.all_cons]
theorem gwhole_mk (k : Int) (t : ByteArray) (ks : List Piece) (m tp : Int) : gwhole (.mk k t ks m tp) = (ks.all gwhole && own k t ks.length m tp) := by
  rw [gwhole, gwholes_all]
theorem oft_is {t : ByteArray} {n : Nat} {m tp : Int} (h : oft t n m tp = true) : n = 1 ∧ t.size = 0 ∧ (0 ≤ m ∧ m ≤ 100) ∧ (tp = -1 ∨ m ≤ tp ∧ tp ≤ 100) := by
  unfold oft at h
  simp only [Bool.and_eq_true, Bool.or_eq_true, decide_eq_true_eq] at h
  obtain ⟨⟨⟨⟨⟨h1, h2⟩, h3⟩, h4⟩, h5⟩, h6⟩ := h
  exact ⟨h1, h2, ⟨h3, h4⟩, by omega⟩
theorem no_of {t : ByteArray} (h : t.size = 0) : t = no := by
  have h1 : t.data.size = 0 := h
  obtain ⟨d⟩ := t
  rw [show d = #[] from Array.eq_empty_of_size_eq_zero h1]
  rfl
/-- the texts of a piece's steps, given those of its own kind -/
theorem good_of {p : Piece} : gwhole p = true → Good p := by
  induction p using ind with
  | h k t ks m tp ih =>
    intro h
    rw [gwhole_mk, Bool.and_eq_true] at h
    obtain ⟨h1, h2⟩ := h
    have hk : ∀ p, p ∈ ks → Good p := fun p hp => ih p hp (List.all_eq_true.1 h1 p hp)
    unfold own at h2
    by_cases c9 : k = 9
    · rw [if_pos c9] at h2
      obtain ⟨a1, a2, a3, a4⟩ := oft_is h2
      subst c9
      obtain ⟨p, rfl⟩ : ∃ p, ks = [p] := List.length_eq_one_iff.1 a1
      rw [no_of a2]
      exact .rep p m tp a3 a4 (hk p (by simp))
    · rw [if_neg c9] at h2
      simp only [Bool.and_eq_true, decide_eq_true_eq] at h2
      obtain ⟨rfl, rfl, h2⟩ := h2
      by_cases c7 : k = 7 ∨ k = 8
      · rw [if_pos c7] at h2
        simp only [Bool.and_eq_true, decide_eq_true_eq] at h2
        rw [no_of h2.2]
        exact .many k c7 ks (by omega) hk
      · rw [if_neg c7] at h2
        simp only [Bool.and_eq_true, decide_eq_true_eq] at h2
        obtain ⟨h3, h4⟩ := h2
        have h5 : ks = [] := List.length_eq_zero_iff.1 h3
        subst h5
        by_cases c2 : k = 2
        · exact .leaf k t (by omega)
        · rw [if_neg c2] at h4
          by_cases c4 : k = 4
          · exact .leaf k t (by omega)
          · rw [if_neg c4] at h4
            simp only [Bool.and_eq_true, decide_eq_true_eq] at h4
            exact .leaf k t (by omega)
end Go.Proofs.YtehdnbidgphecaaGreatDoor.M15
/-
  Layer 13 (class), walks of the document's own answers: Make, Span, Has, Union, Not, Count, Named. The conditions stand in the statements.
-/
namespace Go.Proofs.YtehdnbidgphecaaGreatDoor.W13
set_option maxRecDepth 100000
open Go Go.RowKit Go.Proofs.YtehdnbidgphecaaGreatDoor.M13 Go.Proofs.YtehdnbidgphecaaGreatDoor.Row256
open Go.Proofs.YtehdnbidgphecaaGreatDoor.Kit (ret_str ret_bool ret_int mk_of mk_bytes ba_ext below_draws on take_next cat_bytes)

theorem infoBool : (Tryz.prog.info? 4).map (fun i => (i.zero, i.size, i.bytes)) = some (some (Value.bool false), 1, 1) := by kernel_rfl
set_option maxHeartbeats 1000000 in
theorem refMake_any {w : World} {b : Nat} {t : TypeId} {f : Nat → Bool} (h : Row w b t (bv f)) :
    Calls Tryz.prog 55 #[.slice (some ⟨b, 0, none⟩) 256 256] w fun e w' => e = .returned (.string (tx f)) ∧ w' = w := by
  have HC := Lib.hid h
  clear h
  go_enter Tryz.func55, Tryz.ntmps55
  go_wp2_with fail
  go_loopg [3, 4] 256 (fun g s3 s4 wr => ∃ (i : Nat) (d : ByteArray), s3 = .string d ∧ s4 = .int .i64 i ∧ i + g = 256 ∧ Hid (d.data.toList = (List.range i).map fun j => bit (f j)) ∧ wr = w)
  case atStart => exact ⟨0, ⟨#[]⟩, rfl, rfl, rfl, rfl, rfl⟩
  case round =>
    obtain ⟨i, d, rfl, rfl, hig, hd, rfl⟩ := hrel
    cases gk with
    | zero =>
      obtain rfl : i = 256 := by omega
      go_wp2_with fail
      go_ret
      exact ⟨ret_str (ba_ext hd.out), rfl⟩
    | succ g =>
      have hi3 : (i : Int) < 256 := by omega
      have hcell : wr.cell? ⟨b, i, none⟩ = some (.bool (f i)) := HC.out.cell (i := i) (by omega)
      have hstep : ∀ u : UInt8, u = bit (f i) → Hid ((d ++ ⟨#[u]⟩).data.toList = (List.range (i + 1)).map fun j => bit (f j)) := by
        intro u hu
        unfold Hid
        rw [cat_bytes, hd.out, List.range_succ, List.map_append, hu]; rfl
      have HS := Lib.hid hstep
      clear hstep
      have hdz : d.size = i := by rw [Lib.size_eq, hd.out, List.length_map, List.length_range]
      have hn : ¬ 9223372036854775807 < d.size + 1 := by omega
      clear hdz
      cases hf : f i with
      | true =>
        rw [hf] at hcell
        go_wp2_with fail
        go_roundg g
        case measure => omega
        case rel => exact ⟨i + 1, _, rfl, by first | rfl | simp, by omega, HS.out 49 (by rw [hf]; rfl), rfl⟩
      | false =>
        rw [hf] at hcell
        go_wp2_with fail
        go_roundg g
        case measure => omega
        case rel => exact ⟨i + 1, _, rfl, by first | rfl | simp, by omega, HS.out 48 (by rw [hf]; rfl), rfl⟩
theorem made_row (v : Value) : madeCells #[v] 256 = rowV fun _ => v := by
  refine rowV_ext (size_madeCells _ _) fun j hj => ?_
  simp [madeCells, hj, Nat.mod_one]
theorem make_row (w : World) : (Instr.makeSlice 37 (.int .i64 256) (.int .i64 256)).run Tryz.prog w = .ok (.slice (some ⟨w.heap.size, 0, none⟩) 256 256) (w.alloc (.cells (rowV (bv fun _ => false)) 4)) := by
  have h := run_make_row' (P := Tryz.prog) 37 4 (.bool false) 1 Tryz.underlying37 infoBool rfl .i64 .i64 256 (by omega) (by omega) w
  rw [made_row] at h
  exact h
theorem new_bools (w : World) : Row (w.alloc (.cells (rowV (bv fun _ => false)) 4)) w.heap.size 4 (bv fun _ => false) ∧ Below w.heap.size w (w.alloc (.cells (rowV (bv fun _ => false)) 4)) :=
  ⟨Row.new _ _ _, (Below.refl w.heap.size w).alloc (Nat.le_refl _) _⟩
theorem byte_is (s : ByteArray) {i : Nat} (hi : i < s.size) (u : UInt8) : ((s[i].toNat : Int) == (u.toNat : Int)) = decide (s[i] = u) := Kit.byte_test _ _
theorem good_of {s : ByteArray} (hs : s.size = 256) (h : ∀ j (hj : j < s.size), s[j] = 48 ∨ s[j] = 49) : good s.data.toList = true := by
  unfold good
  rw [← Lib.size_eq, decide_eq_true hs, Bool.true_and, List.all_eq_true]
  intro c hc
  obtain ⟨j, hj, rfl⟩ := List.mem_iff_getElem.1 hc
  have := h j (by rw [Lib.size_eq]; exact hj)
  rcases this with e | e
  · rw [show s.data.toList[j] = 48 from e]; rfl
  · rw [show s.data.toList[j] = 49 from e]; rfl
theorem bad_of {s : ByteArray} {j : Nat} (hj : j < s.size) (h0 : ¬ s[j] = 48) (h1 : ¬ s[j] = 49) : good s.data.toList = false := by
  cases h : good s.data.toList with
  | false => rfl
  | true =>
    exfalso
    unfold good at h
    have h2 := List.all_eq_true.1 (Bool.and_eq_true_iff.1 h).2 s[j] (List.getElem_mem _)
    rw [decide_eq_false h0, decide_eq_false h1] at h2
    cases h2
theorem has_at2 {s : ByteArray} (hg : good s.data.toList = true) {i : Nat} (hi : i < s.size) : ((s[i].toNat : Int) == 49) = has s.data.toList i := by
  rw [has_good hg, Kit.byte_get s i hi]
  exact byte_is s hi 49
set_option maxHeartbeats 1000000 in
theorem refHas_any (s : ByteArray) (c : Nat) (w : World) : Calls Tryz.prog 23 #[.string s, .int .i64 c] w fun e w' => e = .returned (.bool (has s.data.toList c)) ∧ w' = w := by
  have h0 : ¬ ((c : Int) < 0) := by omega
  by_cases hs : s.size = 256
  · have hz : (((s.size : Nat) : Int) != 256) = false := by rw [hs]; rfl
    by_cases hc : c < 256
    · have hc2 : ¬ (255 < (c : Int)) := by omega
      have HS := Lib.hid (And.intro hs hc)
      clear hs hc
      go_enter Tryz.func23, Tryz.ntmps23
      go_wp2_with fail
      go_loopg [5] 256 (fun g s5 wr => ∃ i : Nat, s5 = .int .i64 i ∧ i + g = 256 ∧ Hid (∀ j (hj : j < s.size), j < i → s[j] = 48 ∨ s[j] = 49) ∧ wr = w)
      case atStart => exact ⟨0, rfl, rfl, fun j _ h => absurd h (by omega), rfl⟩
      case round =>
        obtain ⟨i, rfl, hig, hall, rfl⟩ := hrel
        cases gk with
        | zero =>
          obtain rfl : i = 256 := by omega
          have hg := good_of HS.out.1 (fun j hj => hall.out j hj (by rw [← HS.out.1]; exact hj))
          have hcs : c < s.size := by rw [HS.out.1]; exact HS.out.2
          have HV := Lib.hid (has_at2 hg hcs)
          clear hg
          go_wp2_with fail
          go_ret
          exact ⟨ret_bool HV.out, rfl⟩
        | succ g =>
          have hi : i < s.size := by rw [HS.out.1]; omega
          have hi3 : (i : Int) < 256 := by omega
          by_cases e0 : s[i] = 48
          · have t0 : (s[i].toNat : Int) = 48 := by rw [e0]; rfl
            have HE := Lib.hid e0
            clear e0
            go_wp2_with fail
            go_roundg g
            case measure => omega
            case rel =>
              refine ⟨i + 1, by first | rfl | simp, by omega, fun j hj h => ?_, rfl⟩
              by_cases e : j = i
              · subst e; exact Or.inl HE.out
              · exact hall.out j hj (by omega)
          · have t0 : ¬ (s[i].toNat : Int) = 48 := fun e => e0 (UInt8.toNat_inj.1 (show s[i].toNat = 48 by omega))
            by_cases e1 : s[i] = 49
            · have t1 : (s[i].toNat : Int) = 49 := by rw [e1]; rfl
              have HE := Lib.hid e1
              clear e0 e1 t0
              go_wp2_with fail
              go_roundg g
              case measure => omega
              case rel =>
                refine ⟨i + 1, by first | rfl | simp, by omega, fun j hj h => ?_, rfl⟩
                by_cases e : j = i
                · subst e; exact Or.inr HE.out
                · exact hall.out j hj (by omega)
            · have t1 : ¬ (s[i].toNat : Int) = 49 := fun e => e1 (UInt8.toNat_inj.1 (show s[i].toNat = 49 by omega))
              have HV := Lib.hid (has_bad (bad_of hi e0 e1) c)
              have q0 : ((s[i].toNat : Int) != 48) = true := by simpa using t0
              have q1 : ((s[i].toNat : Int) != 49) = true := by simpa using t1
              clear e0 e1 t0 t1
              go_wp2_with fail
              go_ret
              exact ⟨ret_bool HV.out.symm, rfl⟩
    · have hc2 : 255 < (c : Int) := by omega
      have HV := Lib.hid (has_far (s := s.data.toList) (i := c) (by omega))
      clear hs hc
      go_enter Tryz.func23, Tryz.ntmps23
      go_wp2_with fail
      go_ret
      exact ⟨ret_bool HV.out.symm, rfl⟩
  · have hz : (((s.size : Nat) : Int) != 256) = true := by simp; omega
    have hb : good s.data.toList = false := by unfold good; rw [← Lib.size_eq, decide_eq_false hs]; rfl
    have HV := Lib.hid (has_bad hb c)
    clear hs hb
    go_enter Tryz.func23, Tryz.ntmps23
    go_wp2_with fail
    go_ret
    exact ⟨ret_bool HV.out.symm, rfl⟩
set_option maxHeartbeats 1000000 in
theorem refUnion_any (a b : ByteArray) (w : World) : Calls Tryz.prog 41 #[.string a, .string b] w fun e w' => e = .returned (.string (tx fun i => has a.data.toList i || has b.data.toList i)) ∧ Below w.heap.size w w' := by
  have hmk := make_row
  go_enter Tryz.func41, Tryz.ntmps41
  go_wp2_with fail
  have HN := Lib.hid (new_bools w)
  generalize (w.alloc (.cells (rowV (bv fun _ => false)) 4)) = w1 at HN ⊢
  clear hmk
  go_loopg [6] 256 (fun g s6 wr => ∃ i : Nat, s6 = .int .i64 i ∧ i + g = 256 ∧ Hid (Row wr w.heap.size 4 (bv fun j => if j < i then has a.data.toList j || has b.data.toList j else false)) ∧ Hid (Below w.heap.size w wr))
  case atStart => exact ⟨0, rfl, rfl, HN.out.1.is fun j _ => bv_eq (by rw [if_neg (by omega)]), HN.out.2⟩
  case round =>
    obtain ⟨i, rfl, hig, hr, hb⟩ := hrel
    cases gk with
    | zero =>
      obtain rfl : i = 256 := by omega
      go_wp2_with fail
      refine (refMake_any hr.out).mono ?_
      rintro e w2 ⟨rfl, rfl⟩
      go_wp2_with fail
      go_ret
      exact ⟨congrArg (fun x => Ending.returned (.string x)) (tx_congr fun j hj => by first | rw [if_pos hj] | rw [decide_eq_true hj, Bool.true_and]), hb.out⟩
    | succ g =>
      have hi3 : (i : Int) < 256 := by omega
      have hcell := hr.out.cell (i := i) (by omega)
      have hfree := hr.out.free i
      generalize hold : bv (fun j => if j < i then has a.data.toList j || has b.data.toList j else false) i = old at hcell
      clear hold
      obtain ⟨W0, rfl⟩ : ∃ W0 : World, W0 = wr := ⟨_, rfl⟩
      go_wp2_with fail
      refine (refHas_any _ _ _).mono ?_
      rintro e w2 ⟨rfl, rfl⟩
      cases hA : has a.data.toList i with
      | true =>
        go_wp2_with fail
        go_roundg g
        case measure => omega
        case rel => exact ⟨i + 1, by first | rfl | simp, by omega, row_step hr.out (by rw [hA]; rfl), hb.out.setCell (Nat.le_refl _) _⟩
      | false =>
        go_wp2_with fail
        refine (refHas_any _ _ _).mono ?_
        rintro e w2 ⟨rfl, rfl⟩
        go_wp2_with fail
        go_roundg g
        case measure => omega
        case rel => exact ⟨i + 1, by first | rfl | simp, by omega, row_step hr.out (by rw [hA]; rfl), hb.out.setCell (Nat.le_refl _) _⟩
/-! what these answer of texts of truths -/
theorem has_tx (f : Nat → Bool) {i : Nat} (h : i < 256) : has (tx f).data.toList i = f i := has_text f h
end Go.Proofs.YtehdnbidgphecaaGreatDoor.W13
/-
  Layer 15 (prog), walks of the program's goesOn and Right: whether a program may be. The conditions stand in the statements.
-/
namespace Go.Proofs.YtehdnbidgphecaaGreatDoor.W15
set_option maxRecDepth 100000
open Go Go.RowKit Go.Proofs.YtehdnbidgphecaaGreatDoor.Strs Go.Proofs.YtehdnbidgphecaaGreatDoor.Recs Go.Proofs.YtehdnbidgphecaaGreatDoor.M15
open Go.Proofs.YtehdnbidgphecaaGreatDoor.M13 (good)
open Go.Proofs.YtehdnbidgphecaaGreatDoor.W14 (two_new cell_block)
open Go.Proofs.YtehdnbidgphecaaGreatDoor.Kit (below_draws on)

set_option maxHeartbeats 2000000 in
theorem goes_1 (t : ByteArray) (a b : Int) (n : Nat) (w : World) : Calls Tryz.prog 52 #[.agg (insA ⟨1, t, a, b⟩), .int .i64 n] w fun e w' => e = .returned (.bool (goes 1 a b n)) ∧ Below w.heap.size w w' := by
  have hv : goes 1 a b n = (place a n && decide (b = 0)) := rfl
  rw [hv]
  have HP := Lib.hid (fun w => isPlace_any a n w)
  generalize place a n = q at *
  clear hv
  cases q with
  | false =>
    rw [Bool.false_and]
    go_enter Tryz.func52, Tryz.ntmps52
    go_wp2_with (first
      | (refine box_ins (r := ⟨1, t, a, b⟩) rfl (.tmp 0) rfl rfl ?_; intro w1 b1 e1 p1 l1 z1; have c0 := p1.c0; have c2 := p1.c2; have c3 := p1.c3; have L1 := Lib.hid l1; clear e1 p1 l1 z1; simp only at c0 c2 c3))
    refine (HP.out _).mono ?_
    rintro e w2 ⟨rfl, rfl⟩
    go_wp2_with fail
    go_ret
    exact ⟨rfl, L1.out⟩
  | true =>
    rw [Bool.true_and]
    by_cases hb : b = 0
    · rw [decide_eq_true hb]
      subst hb
      go_enter Tryz.func52, Tryz.ntmps52
      go_wp2_with (first
        | (refine box_ins (r := ⟨1, t, a, 0⟩) rfl (.tmp 0) rfl rfl ?_; intro w1 b1 e1 p1 l1 z1; have c0 := p1.c0; have c2 := p1.c2; have c3 := p1.c3; have L1 := Lib.hid l1; clear e1 p1 l1 z1; simp only at c0 c2 c3))
      refine (HP.out _).mono ?_
      rintro e w2 ⟨rfl, rfl⟩
      go_wp2_with fail
      go_ret
      exact ⟨rfl, L1.out⟩
    · rw [decide_eq_false hb]
      have tb : (b == 0) = false := by simpa using hb
      clear hb
      go_enter Tryz.func52, Tryz.ntmps52
      go_wp2_with (first
        | (refine box_ins (r := ⟨1, t, a, b⟩) rfl (.tmp 0) rfl rfl ?_; intro w1 b1 e1 p1 l1 z1; have c0 := p1.c0; have c2 := p1.c2; have c3 := p1.c3; have L1 := Lib.hid l1; clear e1 p1 l1 z1; simp only at c0 c2 c3))
      refine (HP.out _).mono ?_
      rintro e w2 ⟨rfl, rfl⟩
      go_wp2_with fail
      go_ret
      exact ⟨rfl, L1.out⟩
set_option maxHeartbeats 2000000 in
theorem goes_2 (t : ByteArray) (a b : Int) (n : Nat) (w : World) : Calls Tryz.prog 52 #[.agg (insA ⟨2, t, a, b⟩), .int .i64 n] w fun e w' => e = .returned (.bool (goes 2 a b n)) ∧ Below w.heap.size w w' := by
  have hv : goes 2 a b n = (place a n && decide (b = 0)) := rfl
  rw [hv]
  have HP := Lib.hid (fun w => isPlace_any a n w)
  generalize place a n = q at *
  clear hv
  cases q with
  | false =>
    rw [Bool.false_and]
    go_enter Tryz.func52, Tryz.ntmps52
    go_wp2_with (first
      | (refine box_ins (r := ⟨2, t, a, b⟩) rfl (.tmp 0) rfl rfl ?_; intro w1 b1 e1 p1 l1 z1; have c0 := p1.c0; have c2 := p1.c2; have c3 := p1.c3; have L1 := Lib.hid l1; clear e1 p1 l1 z1; simp only at c0 c2 c3))
    refine (HP.out _).mono ?_
    rintro e w2 ⟨rfl, rfl⟩
    go_wp2_with fail
    go_ret
    exact ⟨rfl, L1.out⟩
  | true =>
    rw [Bool.true_and]
    by_cases hb : b = 0
    · rw [decide_eq_true hb]
      subst hb
      go_enter Tryz.func52, Tryz.ntmps52
      go_wp2_with (first
        | (refine box_ins (r := ⟨2, t, a, 0⟩) rfl (.tmp 0) rfl rfl ?_; intro w1 b1 e1 p1 l1 z1; have c0 := p1.c0; have c2 := p1.c2; have c3 := p1.c3; have L1 := Lib.hid l1; clear e1 p1 l1 z1; simp only at c0 c2 c3))
      refine (HP.out _).mono ?_
      rintro e w2 ⟨rfl, rfl⟩
      go_wp2_with fail
      go_ret
      exact ⟨rfl, L1.out⟩
    · rw [decide_eq_false hb]
      have tb : (b == 0) = false := by simpa using hb
      clear hb
      go_enter Tryz.func52, Tryz.ntmps52
      go_wp2_with (first
        | (refine box_ins (r := ⟨2, t, a, b⟩) rfl (.tmp 0) rfl rfl ?_; intro w1 b1 e1 p1 l1 z1; have c0 := p1.c0; have c2 := p1.c2; have c3 := p1.c3; have L1 := Lib.hid l1; clear e1 p1 l1 z1; simp only at c0 c2 c3))
      refine (HP.out _).mono ?_
      rintro e w2 ⟨rfl, rfl⟩
      go_wp2_with fail
      go_ret
      exact ⟨rfl, L1.out⟩
set_option maxHeartbeats 2000000 in
theorem goes_3 (t : ByteArray) (a b : Int) (n : Nat) (w : World) : Calls Tryz.prog 52 #[.agg (insA ⟨3, t, a, b⟩), .int .i64 n] w fun e w' => e = .returned (.bool (goes 3 a b n)) ∧ Below w.heap.size w w' := by
  have hv : goes 3 a b n = (place a n && decide (b = 0)) := rfl
  rw [hv]
  have HP := Lib.hid (fun w => isPlace_any a n w)
  generalize place a n = q at *
  clear hv
  cases q with
  | false =>
    rw [Bool.false_and]
    go_enter Tryz.func52, Tryz.ntmps52
    go_wp2_with (first
      | (refine box_ins (r := ⟨3, t, a, b⟩) rfl (.tmp 0) rfl rfl ?_; intro w1 b1 e1 p1 l1 z1; have c0 := p1.c0; have c2 := p1.c2; have c3 := p1.c3; have L1 := Lib.hid l1; clear e1 p1 l1 z1; simp only at c0 c2 c3))
    refine (HP.out _).mono ?_
    rintro e w2 ⟨rfl, rfl⟩
    go_wp2_with fail
    go_ret
    exact ⟨rfl, L1.out⟩
  | true =>
    rw [Bool.true_and]
    by_cases hb : b = 0
    · rw [decide_eq_true hb]
      subst hb
      go_enter Tryz.func52, Tryz.ntmps52
      go_wp2_with (first
        | (refine box_ins (r := ⟨3, t, a, 0⟩) rfl (.tmp 0) rfl rfl ?_; intro w1 b1 e1 p1 l1 z1; have c0 := p1.c0; have c2 := p1.c2; have c3 := p1.c3; have L1 := Lib.hid l1; clear e1 p1 l1 z1; simp only at c0 c2 c3))
      refine (HP.out _).mono ?_
      rintro e w2 ⟨rfl, rfl⟩
      go_wp2_with fail
      go_ret
      exact ⟨rfl, L1.out⟩
    · rw [decide_eq_false hb]
      have tb : (b == 0) = false := by simpa using hb
      clear hb
      go_enter Tryz.func52, Tryz.ntmps52
      go_wp2_with (first
        | (refine box_ins (r := ⟨3, t, a, b⟩) rfl (.tmp 0) rfl rfl ?_; intro w1 b1 e1 p1 l1 z1; have c0 := p1.c0; have c2 := p1.c2; have c3 := p1.c3; have L1 := Lib.hid l1; clear e1 p1 l1 z1; simp only at c0 c2 c3))
      refine (HP.out _).mono ?_
      rintro e w2 ⟨rfl, rfl⟩
      go_wp2_with fail
      go_ret
      exact ⟨rfl, L1.out⟩
set_option maxHeartbeats 2000000 in
theorem goes_4 (t : ByteArray) (a b : Int) (n : Nat) (w : World) : Calls Tryz.prog 52 #[.agg (insA ⟨4, t, a, b⟩), .int .i64 n] w fun e w' => e = .returned (.bool (goes 4 a b n)) ∧ Below w.heap.size w w' := by
  have hv : goes 4 a b n = (place a n && decide (b = 0)) := rfl
  rw [hv]
  have HP := Lib.hid (fun w => isPlace_any a n w)
  generalize place a n = q at *
  clear hv
  cases q with
  | false =>
    rw [Bool.false_and]
    go_enter Tryz.func52, Tryz.ntmps52
    go_wp2_with (first
      | (refine box_ins (r := ⟨4, t, a, b⟩) rfl (.tmp 0) rfl rfl ?_; intro w1 b1 e1 p1 l1 z1; have c0 := p1.c0; have c2 := p1.c2; have c3 := p1.c3; have L1 := Lib.hid l1; clear e1 p1 l1 z1; simp only at c0 c2 c3))
    refine (HP.out _).mono ?_
    rintro e w2 ⟨rfl, rfl⟩
    go_wp2_with fail
    go_ret
    exact ⟨rfl, L1.out⟩
  | true =>
    rw [Bool.true_and]
    by_cases hb : b = 0
    · rw [decide_eq_true hb]
      subst hb
      go_enter Tryz.func52, Tryz.ntmps52
      go_wp2_with (first
        | (refine box_ins (r := ⟨4, t, a, 0⟩) rfl (.tmp 0) rfl rfl ?_; intro w1 b1 e1 p1 l1 z1; have c0 := p1.c0; have c2 := p1.c2; have c3 := p1.c3; have L1 := Lib.hid l1; clear e1 p1 l1 z1; simp only at c0 c2 c3))
      refine (HP.out _).mono ?_
      rintro e w2 ⟨rfl, rfl⟩
      go_wp2_with fail
      go_ret
      exact ⟨rfl, L1.out⟩
    · rw [decide_eq_false hb]
      have tb : (b == 0) = false := by simpa using hb
      clear hb
      go_enter Tryz.func52, Tryz.ntmps52
      go_wp2_with (first
        | (refine box_ins (r := ⟨4, t, a, b⟩) rfl (.tmp 0) rfl rfl ?_; intro w1 b1 e1 p1 l1 z1; have c0 := p1.c0; have c2 := p1.c2; have c3 := p1.c3; have L1 := Lib.hid l1; clear e1 p1 l1 z1; simp only at c0 c2 c3))
      refine (HP.out _).mono ?_
      rintro e w2 ⟨rfl, rfl⟩
      go_wp2_with fail
      go_ret
      exact ⟨rfl, L1.out⟩
set_option maxHeartbeats 2000000 in
theorem goes_5 (t : ByteArray) (a b : Int) (n : Nat) (w : World) : Calls Tryz.prog 52 #[.agg (insA ⟨5, t, a, b⟩), .int .i64 n] w fun e w' => e = .returned (.bool (goes 5 a b n)) ∧ Below w.heap.size w w' := by
  have hv : goes 5 a b n = (place a n && decide (b = 0)) := rfl
  rw [hv]
  have HP := Lib.hid (fun w => isPlace_any a n w)
  generalize place a n = q at *
  clear hv
  cases q with
  | false =>
    rw [Bool.false_and]
    go_enter Tryz.func52, Tryz.ntmps52
    go_wp2_with (first
      | (refine box_ins (r := ⟨5, t, a, b⟩) rfl (.tmp 0) rfl rfl ?_; intro w1 b1 e1 p1 l1 z1; have c0 := p1.c0; have c2 := p1.c2; have c3 := p1.c3; have L1 := Lib.hid l1; clear e1 p1 l1 z1; simp only at c0 c2 c3))
    refine (HP.out _).mono ?_
    rintro e w2 ⟨rfl, rfl⟩
    go_wp2_with fail
    go_ret
    exact ⟨rfl, L1.out⟩
  | true =>
    rw [Bool.true_and]
    by_cases hb : b = 0
    · rw [decide_eq_true hb]
      subst hb
      go_enter Tryz.func52, Tryz.ntmps52
      go_wp2_with (first
        | (refine box_ins (r := ⟨5, t, a, 0⟩) rfl (.tmp 0) rfl rfl ?_; intro w1 b1 e1 p1 l1 z1; have c0 := p1.c0; have c2 := p1.c2; have c3 := p1.c3; have L1 := Lib.hid l1; clear e1 p1 l1 z1; simp only at c0 c2 c3))
      refine (HP.out _).mono ?_
      rintro e w2 ⟨rfl, rfl⟩
      go_wp2_with fail
      go_ret
      exact ⟨rfl, L1.out⟩
    · rw [decide_eq_false hb]
      have tb : (b == 0) = false := by simpa using hb
      clear hb
      go_enter Tryz.func52, Tryz.ntmps52
      go_wp2_with (first
        | (refine box_ins (r := ⟨5, t, a, b⟩) rfl (.tmp 0) rfl rfl ?_; intro w1 b1 e1 p1 l1 z1; have c0 := p1.c0; have c2 := p1.c2; have c3 := p1.c3; have L1 := Lib.hid l1; clear e1 p1 l1 z1; simp only at c0 c2 c3))
      refine (HP.out _).mono ?_
      rintro e w2 ⟨rfl, rfl⟩
      go_wp2_with fail
      go_ret
      exact ⟨rfl, L1.out⟩
set_option maxHeartbeats 2000000 in
theorem goes_6 (t : ByteArray) (a b : Int) (n : Nat) (w : World) : Calls Tryz.prog 52 #[.agg (insA ⟨6, t, a, b⟩), .int .i64 n] w fun e w' => e = .returned (.bool (goes 6 a b n)) ∧ Below w.heap.size w w' := by
  have hv : goes 6 a b n = (place a n && place b n) := rfl
  rw [hv]
  have HP := Lib.hid (fun w => isPlace_any a n w)
  have HQ := Lib.hid (fun w => isPlace_any b n w)
  generalize place a n = q at *
  generalize place b n = q2 at *
  clear hv
  cases q with
  | false =>
    rw [Bool.false_and]
    go_enter Tryz.func52, Tryz.ntmps52
    go_wp2_with (first
      | (refine box_ins (r := ⟨6, t, a, b⟩) rfl (.tmp 0) rfl rfl ?_; intro w1 b1 e1 p1 l1 z1; have c0 := p1.c0; have c2 := p1.c2; have c3 := p1.c3; have L1 := Lib.hid l1; clear e1 p1 l1 z1; simp only at c0 c2 c3))
    refine (HP.out _).mono ?_
    rintro e w2 ⟨rfl, rfl⟩
    go_wp2_with fail
    go_ret
    exact ⟨rfl, L1.out⟩
  | true =>
    rw [Bool.true_and]
    go_enter Tryz.func52, Tryz.ntmps52
    go_wp2_with (first
      | (refine box_ins (r := ⟨6, t, a, b⟩) rfl (.tmp 0) rfl rfl ?_; intro w1 b1 e1 p1 l1 z1; have c0 := p1.c0; have c2 := p1.c2; have c3 := p1.c3; have L1 := Lib.hid l1; clear e1 p1 l1 z1; simp only at c0 c2 c3))
    refine (HP.out _).mono ?_
    rintro e w2 ⟨rfl, rfl⟩
    go_wp2_with fail
    refine (HQ.out _).mono ?_
    rintro e w2 ⟨rfl, rfl⟩
    go_wp2_with fail
    go_ret
    exact ⟨rfl, L1.out⟩
set_option maxHeartbeats 2000000 in
theorem goes_7 (t : ByteArray) (a b : Int) (n : Nat) (w : World) : Calls Tryz.prog 52 #[.agg (insA ⟨7, t, a, b⟩), .int .i64 n] w fun e w' => e = .returned (.bool (goes 7 a b n)) ∧ Below w.heap.size w w' := by
  have hv : goes 7 a b n = (decide (a = 0) && decide (b = 0)) := rfl
  rw [hv]
  clear hv
  by_cases ha : a = 0
  · rw [decide_eq_true ha, Bool.true_and]
    subst ha
    by_cases hb : b = 0
    · rw [decide_eq_true hb]
      subst hb
      go_enter Tryz.func52, Tryz.ntmps52
      go_wp2_with (first
        | (refine box_ins (r := ⟨7, t, 0, 0⟩) rfl (.tmp 0) rfl rfl ?_; intro w1 b1 e1 p1 l1 z1; have c0 := p1.c0; have c2 := p1.c2; have c3 := p1.c3; have L1 := Lib.hid l1; clear e1 p1 l1 z1; simp only at c0 c2 c3))
      go_ret
      exact ⟨rfl, L1.out⟩
    · rw [decide_eq_false hb]
      have tb : (b == 0) = false := by simpa using hb
      clear hb
      go_enter Tryz.func52, Tryz.ntmps52
      go_wp2_with (first
        | (refine box_ins (r := ⟨7, t, 0, b⟩) rfl (.tmp 0) rfl rfl ?_; intro w1 b1 e1 p1 l1 z1; have c0 := p1.c0; have c2 := p1.c2; have c3 := p1.c3; have L1 := Lib.hid l1; clear e1 p1 l1 z1; simp only at c0 c2 c3))
      go_ret
      exact ⟨rfl, L1.out⟩
  · rw [decide_eq_false ha, Bool.false_and]
    have ta : (a == 0) = false := by simpa using ha
    clear ha
    go_enter Tryz.func52, Tryz.ntmps52
    go_wp2_with (first
      | (refine box_ins (r := ⟨7, t, a, b⟩) rfl (.tmp 0) rfl rfl ?_; intro w1 b1 e1 p1 l1 z1; have c0 := p1.c0; have c2 := p1.c2; have c3 := p1.c3; have L1 := Lib.hid l1; clear e1 p1 l1 z1; simp only at c0 c2 c3))
    go_ret
    exact ⟨rfl, L1.out⟩
set_option maxHeartbeats 2000000 in
theorem goes_8 (t : ByteArray) (a b : Int) (n : Nat) (w : World) : Calls Tryz.prog 52 #[.agg (insA ⟨8, t, a, b⟩), .int .i64 n] w fun e w' => e = .returned (.bool (goes 8 a b n)) ∧ Below w.heap.size w w' := by
  have hv : goes 8 a b n = (place a n && decide (b = 0)) := rfl
  rw [hv]
  have HP := Lib.hid (fun w => isPlace_any a n w)
  generalize place a n = q at *
  clear hv
  cases q with
  | false =>
    rw [Bool.false_and]
    go_enter Tryz.func52, Tryz.ntmps52
    go_wp2_with (first
      | (refine box_ins (r := ⟨8, t, a, b⟩) rfl (.tmp 0) rfl rfl ?_; intro w1 b1 e1 p1 l1 z1; have c0 := p1.c0; have c2 := p1.c2; have c3 := p1.c3; have L1 := Lib.hid l1; clear e1 p1 l1 z1; simp only at c0 c2 c3))
    refine (HP.out _).mono ?_
    rintro e w2 ⟨rfl, rfl⟩
    go_wp2_with fail
    go_ret
    exact ⟨rfl, L1.out⟩
  | true =>
    rw [Bool.true_and]
    by_cases hb : b = 0
    · rw [decide_eq_true hb]
      subst hb
      go_enter Tryz.func52, Tryz.ntmps52
      go_wp2_with (first
        | (refine box_ins (r := ⟨8, t, a, 0⟩) rfl (.tmp 0) rfl rfl ?_; intro w1 b1 e1 p1 l1 z1; have c0 := p1.c0; have c2 := p1.c2; have c3 := p1.c3; have L1 := Lib.hid l1; clear e1 p1 l1 z1; simp only at c0 c2 c3))
      refine (HP.out _).mono ?_
      rintro e w2 ⟨rfl, rfl⟩
      go_wp2_with fail
      go_ret
      exact ⟨rfl, L1.out⟩
    · rw [decide_eq_false hb]
      have tb : (b == 0) = false := by simpa using hb
      clear hb
      go_enter Tryz.func52, Tryz.ntmps52
      go_wp2_with (first
        | (refine box_ins (r := ⟨8, t, a, b⟩) rfl (.tmp 0) rfl rfl ?_; intro w1 b1 e1 p1 l1 z1; have c0 := p1.c0; have c2 := p1.c2; have c3 := p1.c3; have L1 := Lib.hid l1; clear e1 p1 l1 z1; simp only at c0 c2 c3))
      refine (HP.out _).mono ?_
      rintro e w2 ⟨rfl, rfl⟩
      go_wp2_with fail
      go_ret
      exact ⟨rfl, L1.out⟩
set_option maxHeartbeats 2000000 in
theorem goes_other {k : Int} (hk : ¬ (1 ≤ k ∧ k ≤ 8)) (t : ByteArray) (a b : Int) (n : Nat) (w : World) : Calls Tryz.prog 52 #[.agg (insA ⟨k, t, a, b⟩), .int .i64 n] w fun e w' => e = .returned (.bool (goes k a b n)) ∧ Below w.heap.size w w' := by
  have hv : goes k a b n = false := by
    unfold goes
    rw [if_neg (by omega), if_neg (by omega), if_neg hk]
  rw [hv]
  have t1 : (k == 1) = false := by simp; omega
  have t2 : (k == 2) = false := by simp; omega
  have t3 : (k == 3) = false := by simp; omega
  have t4 : (k == 4) = false := by simp; omega
  have t5 : (k == 5) = false := by simp; omega
  have t6 : (k == 6) = false := by simp; omega
  have t7 : (k == 7) = false := by simp; omega
  have t8 : (k == 8) = false := by simp; omega
  clear hv hk
  go_enter Tryz.func52, Tryz.ntmps52
  go_wp2_with (first
    | (refine box_ins (r := ⟨k, t, a, b⟩) rfl (.tmp 0) rfl rfl ?_; intro w1 b1 e1 p1 l1 z1; have c0 := p1.c0; have c2 := p1.c2; have c3 := p1.c3; have L1 := Lib.hid l1; clear e1 p1 l1 z1; simp only at c0 c2 c3))
  go_ret
  exact ⟨rfl, L1.out⟩
theorem goesOn_any (x : Inst) (n : Nat) (w : World) : Calls Tryz.prog 52 #[.agg (insA x), .int .i64 n] w fun e w' => e = .returned (.bool (goes x.kind x.x x.y n)) ∧ Below w.heap.size w w' := by
  obtain ⟨k, t, a, b⟩ := x
  by_cases hk : 1 ≤ k ∧ k ≤ 8
  · have : k = 1 ∨ k = 2 ∨ k = 3 ∨ k = 4 ∨ k = 5 ∨ k = 6 ∨ k = 7 ∨ k = 8 := by omega
    rcases this with rfl | rfl | rfl | rfl | rfl | rfl | rfl | rfl
    · exact goes_1 t a b n w
    · exact goes_2 t a b n w
    · exact goes_3 t a b n w
    · exact goes_4 t a b n w
    · exact goes_5 t a b n w
    · exact goes_6 t a b n w
    · exact goes_7 t a b n w
    · exact goes_8 t a b n w
  · exact goes_other hk t a b n w
theorem all_take {α : Type} {f : α → Bool} {L : List α} {i : Nat} (hi : i < L.length) : (L.take (i + 1)).all f = ((L.take i).all f && f L[i]) := by
  rw [List.take_succ_eq_append_getElem hi, List.all_append]
  simp only [List.all_cons, List.all_nil, Bool.and_true]
theorem all_no {α : Type} {f : α → Bool} {L : List α} {i : Nat} (hi : i < L.length) (h : f L[i] = false) : L.all f = false := by
  rw [List.all_eq_false]
  exact ⟨L[i], List.getElem_mem hi, by simp [h]⟩
set_option maxHeartbeats 4000000 in
theorem right_any {w : World} {B : Nat} {v : Value} {L : List Inst} (h : Prg B w v L) (hB : B ≤ w.heap.size) : Calls Tryz.prog 36 #[v] w fun e w' => e = .returned (.bool (rightP L)) ∧ Below w.heap.size w w' := by
  obtain ⟨A, c, rfl, h1, h2⟩ := h.form
  have H := Lib.hid h
  unfold maxLen at h2
  have HC := Lib.hid (show L.length ≤ c ∧ c ≤ 9223372036854775807 from ⟨h1, h2⟩)
  have HBB := Lib.hid hB
  obtain ⟨R, hR⟩ : ∃ R, rightP L = R := ⟨_, rfl⟩
  rw [hR]
  have HR := Lib.hid hR
  clear h hB hR
  go_enter Tryz.func36, Tryz.ntmps36
  go_wp2_with fail
  clear h1 h2
  go_loopg [7] L.length (fun gk s7 wr => ∃ i : Nat, s7 = .int .i64 i ∧ Hid (i + gk = L.length) ∧ Hid ((L.take i).all (okI L.length) = true) ∧ Hid (Below w.heap.size w wr))
  case atStart => exact ⟨0, rfl, by unfold Hid; omega, by unfold Hid; simp, Below.refl _ _⟩
  case round =>
    obtain ⟨i, rfl, hig, HOK, LB⟩ := hrel
    have hc1 := HC.out.1
    have hc2 := HC.out.2
    by_cases hi : i < L.length
    · have ti : (i : Int) < (L.length : Int) := by omega
      obtain ⟨b1, o1, hl1, rfl, hb1, e1⟩ := H.out.flat_ insC_len (by decide) hi
      obtain ⟨x, hx⟩ : ∃ x, L[i] = x := ⟨_, rfl⟩
      rw [hx] at e1
      have E1 : Hid (∀ j, j < 4 → wr.cell? ⟨b1, o1 + i * 4 + j, none⟩ = (insC x)[j]?) := fun j hj => (cell_block (LB.out.block b1 (Nat.lt_of_lt_of_le hb1 HBB.out))).trans (e1 j hj)
      have HT := Lib.hid (isText_any x)
      have HG := Lib.hid (goesOn_any x L.length)
      have HALL := all_take (f := okI L.length) hi
      have HNO := fun q => all_no (f := okI L.length) hi q
      rw [hx] at HALL HNO
      have hok : okI L.length x = (txtOk x.kind x.text && goes x.kind x.x x.y L.length) := rfl
      rw [hok] at HALL HNO
      obtain ⟨q1, hq1⟩ : ∃ q1, txtOk x.kind x.text = q1 := ⟨_, rfl⟩
      obtain ⟨q2, hq2⟩ : ∃ q2, goes x.kind x.x x.y L.length = q2 := ⟨_, rfl⟩
      rw [hq1, hq2] at HALL HNO
      rw [hq1] at HT
      rw [hq2] at HG
      have HAL := Lib.hid HALL
      have HN2 := Lib.hid HNO
      have hwi : Hid (wrap64 ((i : Int) + 1) = ((i + 1 : Nat) : Int)) := by unfold Hid wrap64; omega
      have HI2 := Lib.hid hi
      clear e1 hb1 hx hl1 HALL HNO hok hq1 hq2 hi
      have RF : Hid ((q1 && q2) = false → rightP L = false) := fun q => by
        unfold rightP
        rw [HN2.out q, Bool.false_and]
      cases q1 with
      | false =>
        go_wp2_with (first
          | (refine load_ins rfl (.tmp 9) rfl rfl (r := x) E1.out ?_)
          | (refine alloc_ins rfl rfl ?_; intro w3 b3 e3 p3 l3 z3)
          | (refine store_ins (r := x) rfl (.tmp 4) (.tmp 10) rfl rfl rfl p3 ?_; intro w4 p4 l4 z4; have L4 := Lib.hid (two_new l3 l4 e3); have P4 := Lib.hid p4; clear e3 p3 l3 z3 p4 l4 z4)
          | (refine load_ibox rfl (.tmp 4) rfl rfl (r := x) P4.out ?_))
        refine (HT.out _).mono ?_
        rintro e w5 ⟨rfl, l5⟩
        have L5 := Lib.hid (LB.out.trans ((on L4.out l5).mono LB.out.size))
        clear l5
        go_wp2_with fail
        go_ret
        exact ⟨by rw [← HR.out, RF.out rfl]; rfl, L5.out⟩
      | true =>
        go_wp2_with (first
          | (refine load_ins rfl (.tmp 9) rfl rfl (r := x) E1.out ?_)
          | (refine alloc_ins rfl rfl ?_; intro w3 b3 e3 p3 l3 z3)
          | (refine store_ins (r := x) rfl (.tmp 4) (.tmp 10) rfl rfl rfl p3 ?_; intro w4 p4 l4 z4; have L4 := Lib.hid (two_new l3 l4 e3); have P4 := Lib.hid p4; clear e3 p3 l3 z3 p4 l4 z4)
          | (refine load_ibox rfl (.tmp 4) rfl rfl (r := x) P4.out ?_))
        refine (HT.out _).mono ?_
        rintro e w5 ⟨rfl, l5⟩
        have P5 := Lib.hid (P4.out.below l5)
        have b0 := P5.out.c0
        have b1' := P5.out.c1
        have b2 := P5.out.c2
        have b3' := P5.out.c3
        have W5 := Lib.hid (on L4.out l5)
        clear l5
        go_wp2_with fail
        refine (HG.out _).mono ?_
        rintro e w6 ⟨rfl, l6⟩
        have L6 := Lib.hid (LB.out.trans ((on W5.out l6).mono LB.out.size))
        clear l6 b0 b1' b2 b3'
        cases q2 with
        | false =>
          go_wp2_with fail
          go_ret
          exact ⟨by rw [← HR.out, RF.out rfl]; rfl, L6.out⟩
        | true =>
          cases gk with
          | zero => exact absurd hig.out (by have := HI2.out; omega)
          | succ g =>
            go_wp2_with fail
            go_roundg g
            case measure => omega
            case rel => exact ⟨i + 1, by first | rfl | exact congrArg (Value.int .i64) hwi.out, by have := hig.out; unfold Hid; omega, by unfold Hid; rw [HAL.out, HOK.out]; rfl, L6⟩
    · have ti : ¬ (i : Int) < (L.length : Int) := by omega
      have hie : i = L.length := by have := hig.out; omega
      have HV : Hid (rightP L = decide (0 < L.length)) := by
        have := HOK.out
        rw [hie, List.take_length] at this
        unfold Hid rightP
        rw [this, Bool.true_and]
      clear hie hi
      go_wp2_with fail
      go_ret
      exact ⟨by rw [← HR.out, HV.out]; rfl, LB.out⟩
end Go.Proofs.YtehdnbidgphecaaGreatDoor.W15
