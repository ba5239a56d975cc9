/-
  Layer 19 (task), walks: isPlace, mayHave, Right of the program, and the document's Right. The conditions stand in the statements.
-/
import Derived.Test.YthplnkchmelbmaaDoorW19Walk
import Derived.Test.YthplnkchmelbmaaDoorW04Code
import Derived.Test.YthplnkchmelbmaaDoorW04Under
import Derived.BigQuiet
namespace Go.Proofs.YthplnkchmelbmaaDoor.W19
set_option maxRecDepth 100000
open Go Go.RowKit Go.Proofs.YthplnkchmelbmaaDoor.M19
open Go.Proofs.YthplnkchmelbmaaDoor.W09 (Tk)
open Go.Proofs.YthplnkchmelbmaaDoor.M04 (isPath)
open Go.Proofs.YthplnkchmelbmaaDoor.W04 (eq_bytes ne_bytes)
open Go.Proofs.YthplnkchmelbmaaDoor.Kit (ret_str ret_bool ret_int mk_of mk_bytes ba_ext below_draws on list_full list_ne list_none list_nil bytes_nil bytes_cons)

section
variable {s : ByteArray}
theorem root_eq (h : s.data.toList = [47]) : (s.toList == [47]) = true := by rw [Lib.toList_data, h]; rfl
theorem root_ne (h : ¬ s.data.toList = [47]) : (s.toList == [47]) = false := by rw [Lib.toList_data]; simpa using h
theorem place_no (h : isPath s.data.toList = false) : place s.data.toList = false := by unfold place; rw [h]; rfl
theorem place_root (h : s.data.toList = [47]) : place s.data.toList = false := by unfold place; rw [h]; simp
theorem place_yes (h : isPath s.data.toList = true) (h2 : ¬ s.data.toList = [47]) : place s.data.toList = true := by unfold place; rw [h]; simp [h2]
end
set_option maxHeartbeats 400000 in
theorem place_any (s : ByteArray) (hs : s.size ≤ 2147483648) (w : World) : Calls Tryd.prog 22 #[.string s] w fun e w' => e = .returned (.bool (place s.data.toList)) ∧ Below w.heap.size w w' := by
  have HI := Lib.hid (fun w => W04.is_any s hs w)
  cases hp : isPath s.data.toList with
  | false =>
    rw [hp] at HI
    rw [place_no hp]
    go_enter Tryd.func22, Tryd.ntmps22
    go_wp2_with fail
    refine (HI.out _).mono ?_
    rintro e w1 ⟨rfl, hb⟩
    have HB := Lib.hid hb
    clear hb
    go_wp2_with fail
    go_ret
    exact ⟨rfl, HB.out⟩
  | true =>
    rw [hp] at HI
    by_cases hr : s.data.toList = [47]
    · have t := root_eq hr
      have t2 := beq_iff_eq.1 t
      rw [place_root hr]
      clear hr hp
      go_enter Tryd.func22, Tryd.ntmps22
      go_wp2_with fail
      refine (HI.out _).mono ?_
      rintro e w1 ⟨rfl, hb⟩
      have HB := Lib.hid hb
      clear hb
      go_wp2_with fail
      go_ret
      exact ⟨ret_bool (by first | rfl | simp [t]), HB.out⟩
    · have t := root_ne hr
      have t2 := beq_eq_false_iff_ne.1 t
      rw [place_yes hp hr]
      clear hr hp
      go_enter Tryd.func22, Tryd.ntmps22
      go_wp2_with fail
      refine (HI.out _).mono ?_
      rintro e w1 ⟨rfl, hb⟩
      have HB := Lib.hid hb
      clear hb
      go_wp2_with fail
      go_ret
      exact ⟨ret_bool (by first | rfl | simp [t]), HB.out⟩
theorem mays_one {k : Int} {t : Bytes} (h : k = 1 ∨ k = 2 ∨ k = 4) : mays k t = decide (t = []) := if_pos h
theorem mays_link {t : Bytes} : mays 3 t = (decide (t ≠ []) && decide (t.length ≤ 65536)) := rfl
theorem mays_move {t : Bytes} : mays 5 t = place t := rfl
theorem mays_write {t : Bytes} : mays 6 t = decide (t.length ≤ 65536) := rfl
theorem mays_no {k : Int} {t : Bytes} (h1 : ¬ k = 1) (h2 : ¬ k = 2) (h3 : ¬ k = 3) (h4 : ¬ k = 4) (h5 : ¬ k = 5) (h6 : ¬ k = 6) : mays k t = false := by
  unfold mays
  rw [if_neg (by omega), if_neg h3, if_neg h5]
  simp [h6]
theorem empty_text {s : ByteArray} : decide (s.data.toList = []) = !decide (0 < s.size) := by
  by_cases h : 0 < s.size
  · rw [bytes_cons h]; simp [h]
  · rw [bytes_nil h]; simp [h]
set_option maxHeartbeats 1000000 in
theorem mays_any (k : Int) (s : ByteArray) (hs : s.size ≤ 2147483648) (w : World) : Calls Tryd.prog 23 #[.int .i64 k, .string s] w fun e w' => e = .returned (.bool (mays k s.data.toList)) ∧ Below w.heap.size w w' := by
  have HB : Hid (∀ w : World, Below w.heap.size w w) := fun w => Below.refl _ w
  have HPL := Lib.hid (fun w => place_any s hs w)
  have h124 : ∀ j : Int, (j = 1 ∨ j = 2 ∨ j = 4) → Calls Tryd.prog 23 #[.int .i64 j, .string s] w fun e w' => e = .returned (.bool (mays j s.data.toList)) ∧ Below w.heap.size w w' := by
    intro j hj
    rw [mays_one hj, empty_text]
    by_cases h0 : 0 < s.size
    · have z1 := list_ne h0
      have z2 := list_full h0
      rw [decide_eq_true h0]
      rcases hj with rfl | rfl | rfl
      · go_enter Tryd.func23, Tryd.ntmps23
        go_wp2_with fail
        go_ret
        exact ⟨ret_bool (by first | rfl | simp [z2, z1]), HB.out _⟩
      · go_enter Tryd.func23, Tryd.ntmps23
        go_wp2_with fail
        go_ret
        exact ⟨ret_bool (by first | rfl | simp [z2, z1]), HB.out _⟩
      · go_enter Tryd.func23, Tryd.ntmps23
        go_wp2_with fail
        go_ret
        exact ⟨ret_bool (by first | rfl | simp [z2, z1]), HB.out _⟩
    · have z1 := list_nil h0
      have z2 := list_none h0
      rw [decide_eq_false h0]
      rcases hj with rfl | rfl | rfl
      · go_enter Tryd.func23, Tryd.ntmps23
        go_wp2_with fail
        go_ret
        exact ⟨ret_bool (by first | rfl | simp [z2, z1]), HB.out _⟩
      · go_enter Tryd.func23, Tryd.ntmps23
        go_wp2_with fail
        go_ret
        exact ⟨ret_bool (by first | rfl | simp [z2, z1]), HB.out _⟩
      · go_enter Tryd.func23, Tryd.ntmps23
        go_wp2_with fail
        go_ret
        exact ⟨ret_bool (by first | rfl | simp [z2, z1]), HB.out _⟩
  by_cases h1 : k = 1
  · exact h124 k (Or.inl h1)
  by_cases h2 : k = 2
  · exact h124 k (Or.inr (Or.inl h2))
  by_cases h4 : k = 4
  · exact h124 k (Or.inr (Or.inr h4))
  clear h124
  by_cases h3 : k = 3
  · subst h3
    rw [mays_link, show decide (s.data.toList ≠ []) = decide (0 < s.size) by rw [decide_not, empty_text, Bool.not_not], ← Lib.size_eq]
    clear h1 h2 h4
    by_cases h0 : 0 < s.size
    · have z1 := list_ne h0
      have z2 := list_full h0
      rw [decide_eq_true h0]
      go_enter Tryd.func23, Tryd.ntmps23
      go_wp2_with fail
      go_ret
      exact ⟨ret_bool (by simp; try omega), HB.out _⟩
    · have z1 := list_nil h0
      have z2 := list_none h0
      rw [decide_eq_false h0]
      go_enter Tryd.func23, Tryd.ntmps23
      go_wp2_with fail
      go_ret
      exact ⟨ret_bool (by first | rfl | simp [z2, z1]), HB.out _⟩
  by_cases h5 : k = 5
  · subst h5
    rw [mays_move]
    clear h1 h2 h3 h4
    go_enter Tryd.func23, Tryd.ntmps23
    go_wp2_with fail
    refine (HPL.out _).mono ?_
    rintro e w1 ⟨rfl, hb⟩
    have HB := Lib.hid hb
    clear hb
    go_wp2_with fail
    go_ret
    exact ⟨rfl, HB.out⟩
  by_cases h6 : k = 6
  · subst h6
    rw [mays_write, ← Lib.size_eq]
    clear h1 h2 h3 h4 h5
    go_enter Tryd.func23, Tryd.ntmps23
    go_wp2_with fail
    go_ret
    exact ⟨ret_bool (by simp; try omega), HB.out _⟩
  rw [mays_no h1 h2 h3 h4 h5 h6]
  have t1 : (k == 1) = false := by simp [h1]
  have t2 : (k == 2) = false := by simp [h2]
  have t3 : (k == 3) = false := by simp [h3]
  have t4 : (k == 4) = false := by simp [h4]
  have t5 : (k == 5) = false := by simp [h5]
  have t6 : (k == 6) = false := by simp [h6]
  clear h1 h2 h3 h4 h5 h6
  go_enter Tryd.func23, Tryd.ntmps23
  go_wp2_with fail
  go_ret
  exact ⟨rfl, HB.out _⟩
/-- a task as a value -/
def taskV (k : Int) (p t : ByteArray) : Value := .agg #[.int .i64 k, .string p, .string t]
theorem cell_at (w : World) (cs : Array Value) (ty : TypeId) (j : Nat) (u : Value) (h : cs[j]? = some u) : (w.alloc (.cells cs ty)).cell? ⟨w.heap.size, j, none⟩ = some u := by
  simpa using h
theorem cell_in {w : World} {b o : Nat} {v : Value} (h : w.cell? ⟨b, o, none⟩ = some v) : b < w.heap.size := by
  rcases Nat.lt_or_ge b w.heap.size with hlt | hge
  · exact hlt
  · simp [World.cell?, Array.getElem?_eq_none hge] at h
/-- the boxed task, wherever what lay there is kept -/
theorem box_kept {w w1 : World} {ty : TypeId} {k : Int} {p t : ByteArray} (hb : Below (w.heap.size + 1) (w.alloc (.cells #[.int .i64 k, .string p, .string t] ty)) w1) :
    w1.cell? ⟨w.heap.size, 0, none⟩ = some (.int .i64 k) ∧ w1.cell? ⟨w.heap.size, 1, none⟩ = some (.string p) ∧ w1.cell? ⟨w.heap.size, 2, none⟩ = some (.string t) ∧ Below w.heap.size w w1 :=
  ⟨(hb.cell (Nat.lt_succ_self _)).trans (cell_at w _ ty 0 _ rfl), (hb.cell (Nat.lt_succ_self _)).trans (cell_at w _ ty 1 _ rfl), (hb.cell (Nat.lt_succ_self _)).trans (cell_at w _ ty 2 _ rfl), ((Below.refl _ w).alloc (Nat.le_refl _) _).trans (hb.mono (Nat.le_succ _))⟩
set_option maxHeartbeats 1000000 in
theorem right_any (k : Int) (p t : ByteArray) (hp : p.size ≤ 2147483648) (ht : t.size ≤ 2147483648) (w : World) : Calls Tryd.prog 8 #[taskV k p t] w fun e w' => e = .returned (.bool (right ⟨k, p.data.toList, t.data.toList⟩)) ∧ Below w.heap.size w w' := by
  have HP := Lib.hid (fun w => place_any p hp w)
  have HM := Lib.hid (fun w => mays_any k t ht w)
  show Calls _ _ _ _ fun e w' => e = .returned (.bool (place p.data.toList && mays k t.data.toList)) ∧ _
  unfold taskV
  cases hq : place p.data.toList with
  | false =>
    rw [hq] at HP
    clear hq
    go_enter Tryd.func8, Tryd.ntmps8
    go_wp2_with fail
    refine (HP.out _).mono ?_
    rintro e w1 ⟨rfl, hb⟩
    obtain ⟨-, -, -, hb1⟩ := box_kept (by rw [World.size_alloc] at hb; exact hb)
    have HB := Lib.hid hb1
    clear hb hb1
    go_wp2_with fail
    go_ret
    exact ⟨rfl, HB.out⟩
  | true =>
    rw [hq] at HP
    clear hq
    go_enter Tryd.func8, Tryd.ntmps8
    go_wp2_with fail
    refine (HP.out _).mono ?_
    rintro e w1 ⟨rfl, hb⟩
    obtain ⟨c0, c1, c2, hb1⟩ := box_kept (by rw [World.size_alloc] at hb; exact hb)
    have HB := Lib.hid hb1
    clear hb hb1
    go_wp2_with fail
    refine (HM.out _).mono ?_
    rintro e w2 ⟨rfl, hb2⟩
    have HB2 := Lib.hid (on HB.out hb2)
    clear hb2
    go_wp2_with fail
    go_ret
    exact ⟨ret_bool (by first | rfl | simp), HB2.out⟩
theorem right_place {k : Int} {p t : Bytes} (h : place p = false) : right ⟨k, p, t⟩ = false := by unfold right; rw [h]; rfl
theorem right_mays {k : Int} {p t : Bytes} (h : place p = true) : right ⟨k, p, t⟩ = mays k t := by unfold right; rw [h]; rfl
set_option maxHeartbeats 4000000 in
theorem refRight_any (k : Int) (p t : ByteArray) (hp : p.size ≤ 1099511627776) (ht : t.size ≤ 1099511627776) (w : World) : Calls Tryd.prog 9 #[taskV k p t] w fun e w' => e = .returned (.bool (right ⟨k, p.data.toList, t.data.toList⟩)) ∧ Below w.heap.size w w' := by
  have HI := Lib.hid (fun w => W04.refIs_any p hp w)
  have HJ := Lib.hid (fun w => W04.refIs_any t ht w)
  unfold taskV
  cases hq : isPath p.data.toList with
  | false =>
    rw [hq] at HI
    rw [right_place (place_no hq)]
    clear hq
    go_enter Tryd.func9, Tryd.ntmps9
    go_wp2_with fail
    refine (HI.out _).mono ?_
    rintro e w1 ⟨rfl, hb⟩
    obtain ⟨c0, c1, c2, hb1⟩ := box_kept (by rw [World.size_alloc] at hb; exact hb)
    have HB := Lib.hid hb1
    clear hb hb1
    go_wp2_with fail
    go_ret
    exact ⟨rfl, HB.out⟩
  | true =>
    rw [hq] at HI
    by_cases hr : p.data.toList = [47]
    · have t := root_eq hr
      have t2 := beq_iff_eq.1 t
      rw [right_place (place_root hr)]
      clear hr hq
      go_enter Tryd.func9, Tryd.ntmps9
      go_wp2_with fail
      refine (HI.out _).mono ?_
      rintro e w1 ⟨rfl, hb⟩
      obtain ⟨c0, c1, c2, hb1⟩ := box_kept (by rw [World.size_alloc] at hb; exact hb)
      have HB := Lib.hid hb1
      clear hb hb1
      go_wp2_with fail
      go_ret
      exact ⟨rfl, HB.out⟩
    · have z := root_ne hr
      have z2 := beq_eq_false_iff_ne.1 z
      rw [right_mays (place_yes hq hr)]
      clear hr hq
      by_cases h124 : k = 1 ∨ k = 2 ∨ k = 4
      · rw [mays_one h124, empty_text]
        by_cases h0 : 0 < t.size
        · have z1 := list_ne h0
          have z3 := list_full h0
          rw [decide_eq_true h0]
          rcases h124 with rfl | rfl | rfl
          · go_enter Tryd.func9, Tryd.ntmps9
            go_wp2_with fail
            refine (HI.out _).mono ?_
            rintro e w1 ⟨rfl, hb⟩
            obtain ⟨c0, c1, c2, hb1⟩ := box_kept (by rw [World.size_alloc] at hb; exact hb)
            have HB := Lib.hid hb1
            clear hb hb1
            go_wp2_with fail
            go_ret
            exact ⟨ret_bool (by first | rfl | simp [z1, z3]), HB.out⟩
          · go_enter Tryd.func9, Tryd.ntmps9
            go_wp2_with fail
            refine (HI.out _).mono ?_
            rintro e w1 ⟨rfl, hb⟩
            obtain ⟨c0, c1, c2, hb1⟩ := box_kept (by rw [World.size_alloc] at hb; exact hb)
            have HB := Lib.hid hb1
            clear hb hb1
            go_wp2_with fail
            go_ret
            exact ⟨ret_bool (by first | rfl | simp [z1, z3]), HB.out⟩
          · go_enter Tryd.func9, Tryd.ntmps9
            go_wp2_with fail
            refine (HI.out _).mono ?_
            rintro e w1 ⟨rfl, hb⟩
            obtain ⟨c0, c1, c2, hb1⟩ := box_kept (by rw [World.size_alloc] at hb; exact hb)
            have HB := Lib.hid hb1
            clear hb hb1
            go_wp2_with fail
            go_ret
            exact ⟨ret_bool (by first | rfl | simp [z1, z3]), HB.out⟩
        · have z1 := list_nil h0
          have z3 := list_none h0
          rw [decide_eq_false h0]
          rcases h124 with rfl | rfl | rfl
          · go_enter Tryd.func9, Tryd.ntmps9
            go_wp2_with fail
            refine (HI.out _).mono ?_
            rintro e w1 ⟨rfl, hb⟩
            obtain ⟨c0, c1, c2, hb1⟩ := box_kept (by rw [World.size_alloc] at hb; exact hb)
            have HB := Lib.hid hb1
            clear hb hb1
            go_wp2_with fail
            go_ret
            exact ⟨ret_bool (by first | rfl | simp [z1, z3]), HB.out⟩
          · go_enter Tryd.func9, Tryd.ntmps9
            go_wp2_with fail
            refine (HI.out _).mono ?_
            rintro e w1 ⟨rfl, hb⟩
            obtain ⟨c0, c1, c2, hb1⟩ := box_kept (by rw [World.size_alloc] at hb; exact hb)
            have HB := Lib.hid hb1
            clear hb hb1
            go_wp2_with fail
            go_ret
            exact ⟨ret_bool (by first | rfl | simp [z1, z3]), HB.out⟩
          · go_enter Tryd.func9, Tryd.ntmps9
            go_wp2_with fail
            refine (HI.out _).mono ?_
            rintro e w1 ⟨rfl, hb⟩
            obtain ⟨c0, c1, c2, hb1⟩ := box_kept (by rw [World.size_alloc] at hb; exact hb)
            have HB := Lib.hid hb1
            clear hb hb1
            go_wp2_with fail
            go_ret
            exact ⟨ret_bool (by first | rfl | simp [z1, z3]), HB.out⟩
      by_cases h3 : k = 3
      · subst h3
        rw [mays_link, show decide (t.data.toList ≠ []) = decide (0 < t.size) by rw [decide_not, empty_text, Bool.not_not], ← Lib.size_eq]
        clear h124
        by_cases h0 : 0 < t.size
        · have h1 : (1 : Int) ≤ t.size := by omega
          rw [decide_eq_true h0]
          go_enter Tryd.func9, Tryd.ntmps9
          go_wp2_with fail
          refine (HI.out _).mono ?_
          rintro e w1 ⟨rfl, hb⟩
          obtain ⟨c0, c1, c2, hb1⟩ := box_kept (by rw [World.size_alloc] at hb; exact hb)
          have HB := Lib.hid hb1
          clear hb hb1
          go_wp2_with fail
          go_ret
          exact ⟨ret_bool (by simp; try omega), HB.out⟩
        · have h1 : ¬ (1 : Int) ≤ t.size := by omega
          rw [decide_eq_false h0]
          go_enter Tryd.func9, Tryd.ntmps9
          go_wp2_with fail
          refine (HI.out _).mono ?_
          rintro e w1 ⟨rfl, hb⟩
          obtain ⟨c0, c1, c2, hb1⟩ := box_kept (by rw [World.size_alloc] at hb; exact hb)
          have HB := Lib.hid hb1
          clear hb hb1
          go_wp2_with fail
          go_ret
          exact ⟨ret_bool (by first | rfl | simp), HB.out⟩
      by_cases h5 : k = 5
      · subst h5
        rw [mays_move]
        clear h124 h3
        cases hq : isPath t.data.toList with
        | false =>
          rw [hq] at HJ
          rw [place_no hq]
          clear hq
          go_enter Tryd.func9, Tryd.ntmps9
          go_wp2_with fail
          refine (HI.out _).mono ?_
          rintro e w1 ⟨rfl, hb⟩
          obtain ⟨c0, c1, c2, hb1⟩ := box_kept (by rw [World.size_alloc] at hb; exact hb)
          have HB := Lib.hid hb1
          clear hb hb1
          go_wp2_with fail
          refine (HJ.out _).mono ?_
          rintro e w2 ⟨rfl, hb2⟩
          have HB2 := Lib.hid (on HB.out hb2)
          clear hb2
          go_wp2_with fail
          go_ret
          exact ⟨rfl, HB2.out⟩
        | true =>
          rw [hq] at HJ
          by_cases hr : t.data.toList = [47]
          · have t1 := root_eq hr
            have t2 := beq_iff_eq.1 t1
            rw [place_root hr]
            clear hr hq
            go_enter Tryd.func9, Tryd.ntmps9
            go_wp2_with fail
            refine (HI.out _).mono ?_
            rintro e w1 ⟨rfl, hb⟩
            obtain ⟨c0, c1, c2, hb1⟩ := box_kept (by rw [World.size_alloc] at hb; exact hb)
            have HB := Lib.hid hb1
            clear hb hb1
            go_wp2_with fail
            refine (HJ.out _).mono ?_
            rintro e w2 ⟨rfl, hb2⟩
            have HB2 := Lib.hid (on HB.out hb2)
            have d2 := (hb2.cell (cell_in c2)).trans c2
            clear hb2
            go_wp2_with fail
            go_ret
            exact ⟨ret_bool (by first | rfl | simp [t1]), HB2.out⟩
          · have t1 := root_ne hr
            have t2 := beq_eq_false_iff_ne.1 t1
            rw [place_yes hq hr]
            clear hr hq
            go_enter Tryd.func9, Tryd.ntmps9
            go_wp2_with fail
            refine (HI.out _).mono ?_
            rintro e w1 ⟨rfl, hb⟩
            obtain ⟨c0, c1, c2, hb1⟩ := box_kept (by rw [World.size_alloc] at hb; exact hb)
            have HB := Lib.hid hb1
            clear hb hb1
            go_wp2_with fail
            refine (HJ.out _).mono ?_
            rintro e w2 ⟨rfl, hb2⟩
            have HB2 := Lib.hid (on HB.out hb2)
            have d2 := (hb2.cell (cell_in c2)).trans c2
            clear hb2
            go_wp2_with fail
            go_ret
            exact ⟨ret_bool (by first | rfl | simp [t1]), HB2.out⟩
      by_cases h6 : k = 6
      · subst h6
        rw [mays_write, ← Lib.size_eq]
        clear h124 h3 h5
        go_enter Tryd.func9, Tryd.ntmps9
        go_wp2_with fail
        refine (HI.out _).mono ?_
        rintro e w1 ⟨rfl, hb⟩
        obtain ⟨c0, c1, c2, hb1⟩ := box_kept (by rw [World.size_alloc] at hb; exact hb)
        have HB := Lib.hid hb1
        clear hb hb1
        go_wp2_with fail
        go_ret
        exact ⟨ret_bool (by simp; try omega), HB.out⟩
      rw [mays_no (fun e => h124 (Or.inl e)) (fun e => h124 (Or.inr (Or.inl e))) h3 (fun e => h124 (Or.inr (Or.inr e))) h5 h6]
      have t1 : (k == 1) = false := by simp; omega
      have t2 : (k == 2) = false := by simp; omega
      have t3 : (k == 3) = false := by simp [h3]
      have t4 : (k == 4) = false := by simp; omega
      have t5 : (k == 5) = false := by simp [h5]
      have t6 : (k == 6) = false := by simp [h6]
      clear h124 h3 h5 h6
      go_enter Tryd.func9, Tryd.ntmps9
      go_wp2_with fail
      refine (HI.out _).mono ?_
      rintro e w1 ⟨rfl, hb⟩
      obtain ⟨c0, c1, c2, hb1⟩ := box_kept (by rw [World.size_alloc] at hb; exact hb)
      have HB := Lib.hid hb1
      clear hb hb1
      go_wp2_with fail
      go_ret
      exact ⟨rfl, HB.out⟩
end Go.Proofs.YthplnkchmelbmaaDoor.W19
