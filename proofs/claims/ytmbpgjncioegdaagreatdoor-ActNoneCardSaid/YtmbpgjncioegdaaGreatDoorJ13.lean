/-
  Texts joined, in build order, each with its own comment and its own conditions: W04Code, W19Right, Maps.
-/
import Derived.Test.YtmbpgjncioegdaaGreatDoorJ12
import Derived.Test.YtmbpgjncioegdaaGreatDoorJ11
import Derived.Test.YtmbpgjncioegdaaGreatDoorJ09
import Derived.BigQuiet
import Derived.Test.YtmbpgjncioegdaaGreatDoorJ01
import Derived.Maps.RangeWalk
import Derived.OwnWalk
/-
  Layer 4 (path), walks: what the program's isClean, Is, Join, Dir, Base, Under and Within return at texts of less than 2^48 bytes (Is: of at most 2^31); nothing that was there is changed.
-/
namespace Go.Proofs.YtmbpgjncioegdaaGreatDoor.W04
set_option maxRecDepth 100000
open Go Go.RowKit Go.Proofs.YtmbpgjncioegdaaGreatDoor.Strs Go.Proofs.YtmbpgjncioegdaaGreatDoor.M04
open Go.Proofs.YtmbpgjncioegdaaGreatDoor.M03 (check)
open Go.Proofs.YtmbpgjncioegdaaGreatDoor.Kit (ret_str ret_bool ret_int mk_of mk_bytes ba_ext below_draws on take_bytes drop_bytes cat_bytes bytes_nil bytes_cons list_full list_ne list_none list_nil)

theorem same_bytes (a b : ByteArray) : (a.toList == b.toList) = decide (a.data.toList = b.data.toList) := by
  rw [Lib.toList_data, Lib.toList_data]
  by_cases h : a.data.toList = b.data.toList
  · simp [h]
  · rw [decide_eq_false h]
    exact beq_eq_false_iff_ne.2 h
theorem isClean_any (s : ByteArray) (hs : s.size < 281474976710656) (w : World) : Calls Tryz.prog 108 #[.string s] w fun e w' => e = .returned (.bool (decide (clean s.data.toList = s.data.toList))) ∧ Below w.heap.size w w' := by
  obtain ⟨c, hc⟩ := text_of (clean s.data.toList)
  have HC := Lib.hid (clean_at s c hc (by omega))
  have HE := Lib.hid (same_bytes c s)
  rw [hc] at HE
  clear hc
  generalize decide (clean s.data.toList = s.data.toList) = r at *
  go_enter Tryz.func108, Tryz.ntmps108
  go_wp2_with fail
  refine (HC.out _).mono ?_
  rintro e w1 ⟨rfl, hb⟩
  go_wp2_with fail
  go_ret
  exact ⟨ret_bool HE.out, hb⟩
theorem all_parts (s : ByteArray) : (partsOf s).all rightOf = (parts s.data.toList).all (fun p => decide (check p = 0)) := by
  unfold partsOf
  rw [List.all_map]
  rfl
theorem is_any (s : ByteArray) (hs : s.size ≤ 2147483648) (w : World) : Calls Tryz.prog 85 #[.string s] w fun e w' => e = .returned (.bool (isPath s.data.toList)) ∧ Below w.heap.size w w' := by
  have HC := Lib.hid (isClean_any s (by omega))
  have HO := Lib.hid (hasOnly_right s hs)
  have HE := Lib.hid (isPath_real s.data.toList)
  rw [← all_parts, ← Lib.size_eq] at HE
  generalize isPath s.data.toList = r at *
  generalize decide (clean s.data.toList = s.data.toList) = a at *
  generalize (partsOf s).all rightOf = b at *
  by_cases hl : (s.size : Int) ≤ 1024
  · rw [decide_eq_true (by omega), Bool.true_and] at HE
    cases a with
    | true =>
      go_enter Tryz.func85, Tryz.ntmps85
      go_wp2_with fail
      refine (HC.out _).mono ?_
      rintro e w1 ⟨rfl, hb⟩
      go_wp2_with fail
      refine (HO.out _).mono ?_
      rintro e w2 ⟨rfl, hb2⟩
      go_wp2_with fail
      go_ret
      exact ⟨ret_bool (by rw [HE.out]; rfl), on hb hb2⟩
    | false =>
      go_enter Tryz.func85, Tryz.ntmps85
      go_wp2_with fail
      refine (HC.out _).mono ?_
      rintro e w1 ⟨rfl, hb⟩
      go_wp2_with fail
      go_ret
      exact ⟨ret_bool (by rw [HE.out]; rfl), hb⟩
  · rw [decide_eq_false (by omega), Bool.false_and, Bool.false_and] at HE
    go_enter Tryz.func85, Tryz.ntmps85
    go_wp2_with fail
    go_ret
    exact ⟨ret_bool HE.out.symm, Below.refl _ _⟩
end Go.Proofs.YtmbpgjncioegdaaGreatDoor.W04
/-
  Layer 19 (task), walks: isPlace, mayHave, Right of the program, and the document's Right. The conditions stand in the statements.
-/
namespace Go.Proofs.YtmbpgjncioegdaaGreatDoor.W19
set_option maxRecDepth 100000
open Go Go.RowKit Go.Proofs.YtmbpgjncioegdaaGreatDoor.M19
open Go.Proofs.YtmbpgjncioegdaaGreatDoor.W09 (Tk)
open Go.Proofs.YtmbpgjncioegdaaGreatDoor.M04 (isPath)
open Go.Proofs.YtmbpgjncioegdaaGreatDoor.W04 (eq_bytes ne_bytes)
open Go.Proofs.YtmbpgjncioegdaaGreatDoor.Kit (ret_str ret_bool ret_int mk_of mk_bytes ba_ext below_draws on list_full list_ne list_none list_nil bytes_nil bytes_cons)

section
variable {s : ByteArray}
theorem root_eq (h : s.data.toList = [47]) : (s.toList == [47]) = true := by rw [Lib.toList_data, h]; rfl
theorem root_ne (h : ¬ s.data.toList = [47]) : (s.toList == [47]) = false := by rw [Lib.toList_data]; simpa using h
theorem place_no (h : isPath s.data.toList = false) : place s.data.toList = false := by unfold place; rw [h]; rfl
theorem place_root (h : s.data.toList = [47]) : place s.data.toList = false := by unfold place; rw [h]; simp
theorem place_yes (h : isPath s.data.toList = true) (h2 : ¬ s.data.toList = [47]) : place s.data.toList = true := by unfold place; rw [h]; simp [h2]
end
set_option maxHeartbeats 400000 in
theorem place_any (s : ByteArray) (hs : s.size ≤ 2147483648) (w : World) : Calls Tryz.prog 69 #[.string s] w fun e w' => e = .returned (.bool (place s.data.toList)) ∧ Below w.heap.size w w' := by
  have HI := Lib.hid (fun w => W04.is_any s hs w)
  cases hp : isPath s.data.toList with
  | false =>
    rw [hp] at HI
    rw [place_no hp]
    go_enter Tryz.func69, Tryz.ntmps69
    go_wp2_with fail
    refine (HI.out _).mono ?_
    rintro e w1 ⟨rfl, hb⟩
    have HB := Lib.hid hb
    clear hb
    go_wp2_with fail
    go_ret
    exact ⟨rfl, HB.out⟩
  | true =>
    rw [hp] at HI
    by_cases hr : s.data.toList = [47]
    · have t := root_eq hr
      have t2 := beq_iff_eq.1 t
      rw [place_root hr]
      clear hr hp
      go_enter Tryz.func69, Tryz.ntmps69
      go_wp2_with fail
      refine (HI.out _).mono ?_
      rintro e w1 ⟨rfl, hb⟩
      have HB := Lib.hid hb
      clear hb
      go_wp2_with fail
      go_ret
      exact ⟨ret_bool (by first | rfl | simp [t]), HB.out⟩
    · have t := root_ne hr
      have t2 := beq_eq_false_iff_ne.1 t
      rw [place_yes hp hr]
      clear hr hp
      go_enter Tryz.func69, Tryz.ntmps69
      go_wp2_with fail
      refine (HI.out _).mono ?_
      rintro e w1 ⟨rfl, hb⟩
      have HB := Lib.hid hb
      clear hb
      go_wp2_with fail
      go_ret
      exact ⟨ret_bool (by first | rfl | simp [t]), HB.out⟩
theorem mays_one {k : Int} {t : Bytes} (h : k = 1 ∨ k = 2 ∨ k = 4) : mays k t = decide (t = []) := if_pos h
theorem mays_link {t : Bytes} : mays 3 t = (decide (t ≠ []) && decide (t.length ≤ 65536)) := rfl
theorem mays_move {t : Bytes} : mays 5 t = place t := rfl
theorem mays_write {t : Bytes} : mays 6 t = decide (t.length ≤ 65536) := rfl
theorem mays_no {k : Int} {t : Bytes} (h1 : ¬ k = 1) (h2 : ¬ k = 2) (h3 : ¬ k = 3) (h4 : ¬ k = 4) (h5 : ¬ k = 5) (h6 : ¬ k = 6) : mays k t = false := by
  unfold mays
  rw [if_neg (by omega), if_neg h3, if_neg h5]
  simp [h6]
theorem empty_text {s : ByteArray} : decide (s.data.toList = []) = !decide (0 < s.size) := by
  by_cases h : 0 < s.size
  · rw [bytes_cons h]; simp [h]
  · rw [bytes_nil h]; simp [h]
set_option maxHeartbeats 1000000 in
theorem mays_any (k : Int) (s : ByteArray) (hs : s.size ≤ 2147483648) (w : World) : Calls Tryz.prog 70 #[.int .i64 k, .string s] w fun e w' => e = .returned (.bool (mays k s.data.toList)) ∧ Below w.heap.size w w' := by
  have HB : Hid (∀ w : World, Below w.heap.size w w) := fun w => Below.refl _ w
  have HPL := Lib.hid (fun w => place_any s hs w)
  have h124 : ∀ j : Int, (j = 1 ∨ j = 2 ∨ j = 4) → Calls Tryz.prog 70 #[.int .i64 j, .string s] w fun e w' => e = .returned (.bool (mays j s.data.toList)) ∧ Below w.heap.size w w' := by
    intro j hj
    rw [mays_one hj, empty_text]
    by_cases h0 : 0 < s.size
    · have z1 := list_ne h0
      have z2 := list_full h0
      rw [decide_eq_true h0]
      rcases hj with rfl | rfl | rfl
      · go_enter Tryz.func70, Tryz.ntmps70
        go_wp2_with fail
        go_ret
        exact ⟨ret_bool (by first | rfl | simp [z2, z1]), HB.out _⟩
      · go_enter Tryz.func70, Tryz.ntmps70
        go_wp2_with fail
        go_ret
        exact ⟨ret_bool (by first | rfl | simp [z2, z1]), HB.out _⟩
      · go_enter Tryz.func70, Tryz.ntmps70
        go_wp2_with fail
        go_ret
        exact ⟨ret_bool (by first | rfl | simp [z2, z1]), HB.out _⟩
    · have z1 := list_nil h0
      have z2 := list_none h0
      rw [decide_eq_false h0]
      rcases hj with rfl | rfl | rfl
      · go_enter Tryz.func70, Tryz.ntmps70
        go_wp2_with fail
        go_ret
        exact ⟨ret_bool (by first | rfl | simp [z2, z1]), HB.out _⟩
      · go_enter Tryz.func70, Tryz.ntmps70
        go_wp2_with fail
        go_ret
        exact ⟨ret_bool (by first | rfl | simp [z2, z1]), HB.out _⟩
      · go_enter Tryz.func70, Tryz.ntmps70
        go_wp2_with fail
        go_ret
        exact ⟨ret_bool (by first | rfl | simp [z2, z1]), HB.out _⟩
  by_cases h1 : k = 1
  · exact h124 k (Or.inl h1)
  by_cases h2 : k = 2
  · exact h124 k (Or.inr (Or.inl h2))
  by_cases h4 : k = 4
  · exact h124 k (Or.inr (Or.inr h4))
  clear h124
  by_cases h3 : k = 3
  · subst h3
    rw [mays_link, show decide (s.data.toList ≠ []) = decide (0 < s.size) by rw [decide_not, empty_text, Bool.not_not], ← Lib.size_eq]
    clear h1 h2 h4
    by_cases h0 : 0 < s.size
    · have z1 := list_ne h0
      have z2 := list_full h0
      rw [decide_eq_true h0]
      go_enter Tryz.func70, Tryz.ntmps70
      go_wp2_with fail
      go_ret
      exact ⟨ret_bool (by simp; try omega), HB.out _⟩
    · have z1 := list_nil h0
      have z2 := list_none h0
      rw [decide_eq_false h0]
      go_enter Tryz.func70, Tryz.ntmps70
      go_wp2_with fail
      go_ret
      exact ⟨ret_bool (by first | rfl | simp [z2, z1]), HB.out _⟩
  by_cases h5 : k = 5
  · subst h5
    rw [mays_move]
    clear h1 h2 h3 h4
    go_enter Tryz.func70, Tryz.ntmps70
    go_wp2_with fail
    refine (HPL.out _).mono ?_
    rintro e w1 ⟨rfl, hb⟩
    have HB := Lib.hid hb
    clear hb
    go_wp2_with fail
    go_ret
    exact ⟨rfl, HB.out⟩
  by_cases h6 : k = 6
  · subst h6
    rw [mays_write, ← Lib.size_eq]
    clear h1 h2 h3 h4 h5
    go_enter Tryz.func70, Tryz.ntmps70
    go_wp2_with fail
    go_ret
    exact ⟨ret_bool (by simp; try omega), HB.out _⟩
  rw [mays_no h1 h2 h3 h4 h5 h6]
  have t1 : (k == 1) = false := by simp [h1]
  have t2 : (k == 2) = false := by simp [h2]
  have t3 : (k == 3) = false := by simp [h3]
  have t4 : (k == 4) = false := by simp [h4]
  have t5 : (k == 5) = false := by simp [h5]
  have t6 : (k == 6) = false := by simp [h6]
  clear h1 h2 h3 h4 h5 h6
  go_enter Tryz.func70, Tryz.ntmps70
  go_wp2_with fail
  go_ret
  exact ⟨rfl, HB.out _⟩
/-- a task as a value -/
def taskV (k : Int) (p t : ByteArray) : Value := .agg #[.int .i64 k, .string p, .string t]
theorem cell_at (w : World) (cs : Array Value) (ty : TypeId) (j : Nat) (u : Value) (h : cs[j]? = some u) : (w.alloc (.cells cs ty)).cell? ⟨w.heap.size, j, none⟩ = some u := by
  simpa using h
theorem cell_in {w : World} {b o : Nat} {v : Value} (h : w.cell? ⟨b, o, none⟩ = some v) : b < w.heap.size := by
  rcases Nat.lt_or_ge b w.heap.size with hlt | hge
  · exact hlt
  · simp [World.cell?, Array.getElem?_eq_none hge] at h
/-- the boxed task, wherever what lay there is kept -/
theorem box_kept {w w1 : World} {ty : TypeId} {k : Int} {p t : ByteArray} (hb : Below (w.heap.size + 1) (w.alloc (.cells #[.int .i64 k, .string p, .string t] ty)) w1) :
    w1.cell? ⟨w.heap.size, 0, none⟩ = some (.int .i64 k) ∧ w1.cell? ⟨w.heap.size, 1, none⟩ = some (.string p) ∧ w1.cell? ⟨w.heap.size, 2, none⟩ = some (.string t) ∧ Below w.heap.size w w1 :=
  ⟨(hb.cell (Nat.lt_succ_self _)).trans (cell_at w _ ty 0 _ rfl), (hb.cell (Nat.lt_succ_self _)).trans (cell_at w _ ty 1 _ rfl), (hb.cell (Nat.lt_succ_self _)).trans (cell_at w _ ty 2 _ rfl), ((Below.refl _ w).alloc (Nat.le_refl _) _).trans (hb.mono (Nat.le_succ _))⟩
set_option maxHeartbeats 1000000 in
theorem right_any (k : Int) (p t : ByteArray) (hp : p.size ≤ 2147483648) (ht : t.size ≤ 2147483648) (w : World) : Calls Tryz.prog 53 #[taskV k p t] w fun e w' => e = .returned (.bool (right ⟨k, p.data.toList, t.data.toList⟩)) ∧ Below w.heap.size w w' := by
  have HP := Lib.hid (fun w => place_any p hp w)
  have HM := Lib.hid (fun w => mays_any k t ht w)
  show Calls _ _ _ _ fun e w' => e = .returned (.bool (place p.data.toList && mays k t.data.toList)) ∧ _
  unfold taskV
  cases hq : place p.data.toList with
  | false =>
    rw [hq] at HP
    clear hq
    go_enter Tryz.func53, Tryz.ntmps53
    go_wp2_with fail
    refine (HP.out _).mono ?_
    rintro e w1 ⟨rfl, hb⟩
    obtain ⟨-, -, -, hb1⟩ := box_kept (by rw [World.size_alloc] at hb; exact hb)
    have HB := Lib.hid hb1
    clear hb hb1
    go_wp2_with fail
    go_ret
    exact ⟨rfl, HB.out⟩
  | true =>
    rw [hq] at HP
    clear hq
    go_enter Tryz.func53, Tryz.ntmps53
    go_wp2_with fail
    refine (HP.out _).mono ?_
    rintro e w1 ⟨rfl, hb⟩
    obtain ⟨c0, c1, c2, hb1⟩ := box_kept (by rw [World.size_alloc] at hb; exact hb)
    have HB := Lib.hid hb1
    clear hb hb1
    go_wp2_with fail
    refine (HM.out _).mono ?_
    rintro e w2 ⟨rfl, hb2⟩
    have HB2 := Lib.hid (on HB.out hb2)
    clear hb2
    go_wp2_with fail
    go_ret
    exact ⟨ret_bool (by first | rfl | simp), HB2.out⟩
theorem right_place {k : Int} {p t : Bytes} (h : place p = false) : right ⟨k, p, t⟩ = false := by unfold right; rw [h]; rfl
theorem right_mays {k : Int} {p t : Bytes} (h : place p = true) : right ⟨k, p, t⟩ = mays k t := by unfold right; rw [h]; rfl
set_option maxHeartbeats 4000000 in
theorem refRight_any (k : Int) (p t : ByteArray) (hp : p.size ≤ 1099511627776) (ht : t.size ≤ 1099511627776) (w : World) : Calls Tryz.prog 56 #[taskV k p t] w fun e w' => e = .returned (.bool (right ⟨k, p.data.toList, t.data.toList⟩)) ∧ Below w.heap.size w w' := by
  have HI := Lib.hid (fun w => W04.refIs_any p hp w)
  have HJ := Lib.hid (fun w => W04.refIs_any t ht w)
  unfold taskV
  cases hq : isPath p.data.toList with
  | false =>
    rw [hq] at HI
    rw [right_place (place_no hq)]
    clear hq
    go_enter Tryz.func56, Tryz.ntmps56
    go_wp2_with fail
    refine (HI.out _).mono ?_
    rintro e w1 ⟨rfl, hb⟩
    obtain ⟨c0, c1, c2, hb1⟩ := box_kept (by rw [World.size_alloc] at hb; exact hb)
    have HB := Lib.hid hb1
    clear hb hb1
    go_wp2_with fail
    go_ret
    exact ⟨rfl, HB.out⟩
  | true =>
    rw [hq] at HI
    by_cases hr : p.data.toList = [47]
    · have t := root_eq hr
      have t2 := beq_iff_eq.1 t
      rw [right_place (place_root hr)]
      clear hr hq
      go_enter Tryz.func56, Tryz.ntmps56
      go_wp2_with fail
      refine (HI.out _).mono ?_
      rintro e w1 ⟨rfl, hb⟩
      obtain ⟨c0, c1, c2, hb1⟩ := box_kept (by rw [World.size_alloc] at hb; exact hb)
      have HB := Lib.hid hb1
      clear hb hb1
      go_wp2_with fail
      go_ret
      exact ⟨rfl, HB.out⟩
    · have z := root_ne hr
      have z2 := beq_eq_false_iff_ne.1 z
      rw [right_mays (place_yes hq hr)]
      clear hr hq
      by_cases h124 : k = 1 ∨ k = 2 ∨ k = 4
      · rw [mays_one h124, empty_text]
        by_cases h0 : 0 < t.size
        · have z1 := list_ne h0
          have z3 := list_full h0
          rw [decide_eq_true h0]
          rcases h124 with rfl | rfl | rfl
          · go_enter Tryz.func56, Tryz.ntmps56
            go_wp2_with fail
            refine (HI.out _).mono ?_
            rintro e w1 ⟨rfl, hb⟩
            obtain ⟨c0, c1, c2, hb1⟩ := box_kept (by rw [World.size_alloc] at hb; exact hb)
            have HB := Lib.hid hb1
            clear hb hb1
            go_wp2_with fail
            go_ret
            exact ⟨ret_bool (by first | rfl | simp [z1, z3]), HB.out⟩
          · go_enter Tryz.func56, Tryz.ntmps56
            go_wp2_with fail
            refine (HI.out _).mono ?_
            rintro e w1 ⟨rfl, hb⟩
            obtain ⟨c0, c1, c2, hb1⟩ := box_kept (by rw [World.size_alloc] at hb; exact hb)
            have HB := Lib.hid hb1
            clear hb hb1
            go_wp2_with fail
            go_ret
            exact ⟨ret_bool (by first | rfl | simp [z1, z3]), HB.out⟩
          · go_enter Tryz.func56, Tryz.ntmps56
            go_wp2_with fail
            refine (HI.out _).mono ?_
            rintro e w1 ⟨rfl, hb⟩
            obtain ⟨c0, c1, c2, hb1⟩ := box_kept (by rw [World.size_alloc] at hb; exact hb)
            have HB := Lib.hid hb1
            clear hb hb1
            go_wp2_with fail
            go_ret
            exact ⟨ret_bool (by first | rfl | simp [z1, z3]), HB.out⟩
        · have z1 := list_nil h0
          have z3 := list_none h0
          rw [decide_eq_false h0]
          rcases h124 with rfl | rfl | rfl
          · go_enter Tryz.func56, Tryz.ntmps56
            go_wp2_with fail
            refine (HI.out _).mono ?_
            rintro e w1 ⟨rfl, hb⟩
            obtain ⟨c0, c1, c2, hb1⟩ := box_kept (by rw [World.size_alloc] at hb; exact hb)
            have HB := Lib.hid hb1
            clear hb hb1
            go_wp2_with fail
            go_ret
            exact ⟨ret_bool (by first | rfl | simp [z1, z3]), HB.out⟩
          · go_enter Tryz.func56, Tryz.ntmps56
            go_wp2_with fail
            refine (HI.out _).mono ?_
            rintro e w1 ⟨rfl, hb⟩
            obtain ⟨c0, c1, c2, hb1⟩ := box_kept (by rw [World.size_alloc] at hb; exact hb)
            have HB := Lib.hid hb1
            clear hb hb1
            go_wp2_with fail
            go_ret
            exact ⟨ret_bool (by first | rfl | simp [z1, z3]), HB.out⟩
          · go_enter Tryz.func56, Tryz.ntmps56
            go_wp2_with fail
            refine (HI.out _).mono ?_
            rintro e w1 ⟨rfl, hb⟩
            obtain ⟨c0, c1, c2, hb1⟩ := box_kept (by rw [World.size_alloc] at hb; exact hb)
            have HB := Lib.hid hb1
            clear hb hb1
            go_wp2_with fail
            go_ret
            exact ⟨ret_bool (by first | rfl | simp [z1, z3]), HB.out⟩
      by_cases h3 : k = 3
      · subst h3
        rw [mays_link, show decide (t.data.toList ≠ []) = decide (0 < t.size) by rw [decide_not, empty_text, Bool.not_not], ← Lib.size_eq]
        clear h124
        by_cases h0 : 0 < t.size
        · have h1 : (1 : Int) ≤ t.size := by omega
          rw [decide_eq_true h0]
          go_enter Tryz.func56, Tryz.ntmps56
          go_wp2_with fail
          refine (HI.out _).mono ?_
          rintro e w1 ⟨rfl, hb⟩
          obtain ⟨c0, c1, c2, hb1⟩ := box_kept (by rw [World.size_alloc] at hb; exact hb)
          have HB := Lib.hid hb1
          clear hb hb1
          go_wp2_with fail
          go_ret
          exact ⟨ret_bool (by simp; try omega), HB.out⟩
        · have h1 : ¬ (1 : Int) ≤ t.size := by omega
          rw [decide_eq_false h0]
          go_enter Tryz.func56, Tryz.ntmps56
          go_wp2_with fail
          refine (HI.out _).mono ?_
          rintro e w1 ⟨rfl, hb⟩
          obtain ⟨c0, c1, c2, hb1⟩ := box_kept (by rw [World.size_alloc] at hb; exact hb)
          have HB := Lib.hid hb1
          clear hb hb1
          go_wp2_with fail
          go_ret
          exact ⟨ret_bool (by first | rfl | simp), HB.out⟩
      by_cases h5 : k = 5
      · subst h5
        rw [mays_move]
        clear h124 h3
        cases hq : isPath t.data.toList with
        | false =>
          rw [hq] at HJ
          rw [place_no hq]
          clear hq
          go_enter Tryz.func56, Tryz.ntmps56
          go_wp2_with fail
          refine (HI.out _).mono ?_
          rintro e w1 ⟨rfl, hb⟩
          obtain ⟨c0, c1, c2, hb1⟩ := box_kept (by rw [World.size_alloc] at hb; exact hb)
          have HB := Lib.hid hb1
          clear hb hb1
          go_wp2_with fail
          refine (HJ.out _).mono ?_
          rintro e w2 ⟨rfl, hb2⟩
          have HB2 := Lib.hid (on HB.out hb2)
          clear hb2
          go_wp2_with fail
          go_ret
          exact ⟨rfl, HB2.out⟩
        | true =>
          rw [hq] at HJ
          by_cases hr : t.data.toList = [47]
          · have t1 := root_eq hr
            have t2 := beq_iff_eq.1 t1
            rw [place_root hr]
            clear hr hq
            go_enter Tryz.func56, Tryz.ntmps56
            go_wp2_with fail
            refine (HI.out _).mono ?_
            rintro e w1 ⟨rfl, hb⟩
            obtain ⟨c0, c1, c2, hb1⟩ := box_kept (by rw [World.size_alloc] at hb; exact hb)
            have HB := Lib.hid hb1
            clear hb hb1
            go_wp2_with fail
            refine (HJ.out _).mono ?_
            rintro e w2 ⟨rfl, hb2⟩
            have HB2 := Lib.hid (on HB.out hb2)
            have d2 := (hb2.cell (cell_in c2)).trans c2
            clear hb2
            go_wp2_with fail
            go_ret
            exact ⟨ret_bool (by first | rfl | simp [t1]), HB2.out⟩
          · have t1 := root_ne hr
            have t2 := beq_eq_false_iff_ne.1 t1
            rw [place_yes hq hr]
            clear hr hq
            go_enter Tryz.func56, Tryz.ntmps56
            go_wp2_with fail
            refine (HI.out _).mono ?_
            rintro e w1 ⟨rfl, hb⟩
            obtain ⟨c0, c1, c2, hb1⟩ := box_kept (by rw [World.size_alloc] at hb; exact hb)
            have HB := Lib.hid hb1
            clear hb hb1
            go_wp2_with fail
            refine (HJ.out _).mono ?_
            rintro e w2 ⟨rfl, hb2⟩
            have HB2 := Lib.hid (on HB.out hb2)
            have d2 := (hb2.cell (cell_in c2)).trans c2
            clear hb2
            go_wp2_with fail
            go_ret
            exact ⟨ret_bool (by first | rfl | simp [t1]), HB2.out⟩
      by_cases h6 : k = 6
      · subst h6
        rw [mays_write, ← Lib.size_eq]
        clear h124 h3 h5
        go_enter Tryz.func56, Tryz.ntmps56
        go_wp2_with fail
        refine (HI.out _).mono ?_
        rintro e w1 ⟨rfl, hb⟩
        obtain ⟨c0, c1, c2, hb1⟩ := box_kept (by rw [World.size_alloc] at hb; exact hb)
        have HB := Lib.hid hb1
        clear hb hb1
        go_wp2_with fail
        go_ret
        exact ⟨ret_bool (by simp; try omega), HB.out⟩
      rw [mays_no (fun e => h124 (Or.inl e)) (fun e => h124 (Or.inr (Or.inl e))) h3 (fun e => h124 (Or.inr (Or.inr e))) h5 h6]
      have t1 : (k == 1) = false := by simp; omega
      have t2 : (k == 2) = false := by simp; omega
      have t3 : (k == 3) = false := by simp [h3]
      have t4 : (k == 4) = false := by simp; omega
      have t5 : (k == 5) = false := by simp [h5]
      have t6 : (k == 6) = false := by simp [h6]
      clear h124 h3 h5 h6
      go_enter Tryz.func56, Tryz.ntmps56
      go_wp2_with fail
      refine (HI.out _).mono ?_
      rintro e w1 ⟨rfl, hb⟩
      obtain ⟨c0, c1, c2, hb1⟩ := box_kept (by rw [World.size_alloc] at hb; exact hb)
      have HB := Lib.hid hb1
      clear hb hb1
      go_wp2_with fail
      go_ret
      exact ⟨rfl, HB.out⟩
end Go.Proofs.YtmbpgjncioegdaaGreatDoor.W19
/-
  Maps keyed by int whose elements are told by a function from the keys: what they hold, how many they are; look-up, store, delete, len, range at the operations; for every program. Plain lemmas on worlds; no condition but those that each theorem bears.
-/
namespace Go.Proofs.YtmbpgjncioegdaaGreatDoor.Maps
open Go Go.RowKit Go.Maps Go.ChangeMaps Go.MapKept
open Go.WideElems (Fit rd rg pl rd_key rd_val rg_of)

/-- an element as it is -/
def hold (v : Value) : Option (DataW Value × List MemPlace) := some (.held v, [])
/-- in w the block b is a map that holds at each key what f tells; its entries are m -/
def MapIs (w : World) (P : Program) (k : TypeId) (b : Nat) (f : Int → Option Value) (m : Nat) : Prop :=
  ∃ l : List (Lit × DataW Value), w.ownsMap P k hold b m (.map l) ∧ l.length = m ∧ ∀ n v, f n = some v ↔ (Lit.int .i64 n, DataW.held v) ∈ l
def upd {α : Type} (f : Int → α) (n : Int) (x : α) : Int → α := fun m => if m = n then x else f m
theorem upd_here {α : Type} (f : Int → α) (n : Int) (x : α) : upd f n x n = x := by unfold upd; rw [if_pos rfl]
theorem upd_other {α : Type} (f : Int → α) {n m : Int} (x : α) (h : m ≠ n) : upd f n x m = f m := by unfold upd; rw [if_neg h]
section
variable {P : Program} {k t e : TypeId} {w w' : World} {b m : Nat} {f : Int → Option Value}
theorem exact_ {n : Nat} {l : List (Lit × DataW Value)} (h : w.ownsMap P k hold b n (.map l)) : w.ownsMap P k hold b l.length (.map l) := by
  obtain ⟨es, clock, hb, F, hs, hD⟩ := h
  refine ⟨es, clock, hb, F, ?_, hD⟩
  injection hD with hD
  rw [hD, length_sorted]; simp
theorem MapIs.keep (h : MapIs w P k b f m) (hb : w'.heap[b]? = w.heap[b]?) : MapIs w' P k b f m := by
  obtain ⟨l, ⟨es, clock, hb2, r⟩, h2⟩ := h
  exact ⟨l, ⟨es, clock, hb.trans hb2, r⟩, h2⟩
theorem MapIs.lt (h : MapIs w P k b f m) : b < w.heap.size := by obtain ⟨l, h, _⟩ := h; exact h.lt
theorem MapIs.alloc (h : MapIs w P k b f m) (o : Obj) : MapIs (w.alloc o) P k b f m := h.keep (Below.heap_alloc _ _ _ h.lt)
theorem MapIs.as {g : Int → Option Value} {n : Nat} (h : MapIs w P k b f m) (hf : ∀ i, f i = g i) (hn : m = n) : MapIs w P k b g n := by subst hn; obtain rfl : f = g := funext hf; exact h
theorem map_made (w : World) (P : Program) (k : TypeId) : MapIs (w.alloc (.map #[] 0)) P k w.heap.size (fun _ => none) 0 :=
  ⟨[], World.ownsMap_made _ _ _ _, rfl, fun n v => by simp⟩
/-- where the map lies there is a map -/
theorem MapIs.at_ (h : MapIs w P k b f m) : ∃ es clock, w.heap[b]? = some (.map es clock) := by
  obtain ⟨l, ⟨es, clock, hb2, r⟩, h2⟩ := h
  exact ⟨es, clock, hb2⟩
theorem MapIs.keys (h : MapIs w P k b f m) (hk : P.underlying k = some (.int .i64)) : ∃ l : List (Lit × DataW Value), l.length = m ∧ (∀ n v, f n = some v ↔ (Lit.int .i64 n, DataW.held v) ∈ l) ∧ l.Pairwise (fun p q => p.1 ≠ q.1) ∧ ∀ p ∈ l, ∃ n v, p = (Lit.int .i64 n, DataW.held v) ∧ (Lit.int .i64 n).wf = true := by
  obtain ⟨l, h, hl, hf⟩ := h
  obtain ⟨l', e, hp⟩ := h.tidy (int_keyed hk)
  injection e with e
  subst e
  refine ⟨l, hl, hf, hp, fun p hp => ?_⟩
  obtain ⟨es, clock, hb, F, hs, hD⟩ := h
  injection hD with hD
  rw [hD] at hp
  obtain ⟨x, hx, rfl⟩ := List.mem_map.1 (mem_sorted.1 hp)
  obtain ⟨y, hy⟩ := F.reads x hx
  rw [rg_of hy]
  obtain ⟨n, -, e2, hw⟩ := Maps.keyOf_int_inv hk (rd_key hy)
  obtain ⟨z, hz, e3⟩ := rd_val hy
  unfold hold at hz
  cases hz
  exact ⟨n, x.val, Prod.ext e2 e3, hw⟩
theorem MapIs.wf (h : MapIs w P k b f m) (hk : P.underlying k = some (.int .i64)) {n : Int} {v : Value} (hv : f n = some v) : (Lit.int .i64 n).wf = true := by
  obtain ⟨l, -, hf, -, hw⟩ := h.keys hk
  obtain ⟨n', v', e, hn⟩ := hw _ ((hf n v).1 hv)
  cases e
  exact hn
theorem nodup_sub {α : Type} [DecidableEq α] : ∀ {a b : List α}, a.Nodup → (∀ x ∈ a, x ∈ b) → a.length ≤ b.length
  | [], _, _, _ => Nat.zero_le _
  | x :: r, b, h, hs => by
    rw [List.nodup_cons] at h
    have hx := hs x List.mem_cons_self
    have h1 := nodup_sub (b := b.erase x) h.2 (fun y hy => (List.mem_erase_of_ne (fun e => h.1 (by rw [← e]; exact hy))).2 (hs y (List.mem_cons_of_mem _ hy)))
    rw [List.length_erase_of_mem hx] at h1
    have := List.length_pos_of_mem hx
    rw [List.length_cons]; omega
def numOf : Lit × DataW Value → Int | (.int _ n, _) => n | _ => 0
/-- two maps with one set of keys are of one size -/
theorem MapIs.one_size {w2 : World} {b2 m2 : Nat} {f2 : Int → Option Value} (h : MapIs w P k b f m) (h2 : MapIs w2 P k b2 f2 m2) (hk : P.underlying k = some (.int .i64)) (hs : ∀ n, (f n).isSome = true → (f2 n).isSome = true) : m ≤ m2 := by
  obtain ⟨l, hl, hf, hp, hw⟩ := h.keys hk
  obtain ⟨l2, hl2, hf2, hp2, hw2⟩ := h2.keys hk
  have hn : (l.map numOf).Nodup := by
    rw [List.Nodup, List.pairwise_map]
    refine List.Pairwise.imp_of_mem ?_ hp
    intro x y hx hy hne e
    obtain ⟨n, v, rfl, _⟩ := hw x hx
    obtain ⟨n', v', rfl, _⟩ := hw y hy
    exact hne (by show Lit.int .i64 n = Lit.int .i64 n'; rw [show n = n' from e])
  have := nodup_sub (b := l2.map numOf) hn (fun x hx => by
    obtain ⟨p, hp, rfl⟩ := List.mem_map.1 hx
    obtain ⟨n, v, rfl, _⟩ := hw p hp
    have h1 := hs n (by rw [(hf n v).2 hp]; rfl)
    obtain ⟨v2, hv2⟩ := Option.isSome_iff_exists.1 h1
    exact List.mem_map.2 ⟨_, (hf2 n v2).1 hv2, rfl⟩)
  simp only [List.length_map] at this
  omega

theorem MapIs.has_ {l : List (Lit × DataW Value)} (hown : w.ownsMap P k hold b m (.map l)) (hl : l.length = m) (hf : ∀ n v, f n = some v ↔ (Lit.int .i64 n, DataW.held v) ∈ l) (hk : P.underlying k = some (.int .i64)) (n : Int) : has (.map l) (.int .i64 n) = (f n).isSome := by
  obtain ⟨l2, hl2, hf2, hp2, hw2⟩ := MapIs.keys (f := f) (m := m) ⟨l, hown, hl, hf⟩ hk
  rw [has_eq]
  cases hv : f n with
  | none =>
    rw [List.any_eq_false.2 (fun p hp he => ?_)]; · rfl
    have e1 := WideAt.sameKey_eq he
    obtain ⟨es, clock, hb, F, hs, hD⟩ := hown
    injection hD with hD
    rw [hD] at hp
    obtain ⟨x, hx, rfl⟩ := List.mem_map.1 (mem_sorted.1 hp)
    obtain ⟨y, hy⟩ := F.reads x hx
    obtain ⟨q, hq, e3⟩ := rd_val hy
    unfold hold at hq
    cases hq
    have : f n = some x.val := by
      rw [hf, hD]
      refine mem_sorted.2 (List.mem_map.2 ⟨x, hx, ?_⟩)
      have e4 := rg_of hy
      rw [e4] at e1
      exact e4.trans (Prod.ext e1 e3)
    rw [hv] at this
    cases this
  | some u =>
    show _ = true
    exact List.any_eq_true.2 ⟨_, (hf n u).1 hv, WideAt.sameKey_self (by exact trivial)⟩
/-- 'm[k]' at whatever number -/
theorem MapIs.look (h : MapIs w P k b f m) (hk : P.underlying k = some (.int .i64)) (ht : P.underlying t = some (.map k e)) {z : Value} (hz : (zeroValue e).run P w = .ok z w) (n : Int) :
    (Instr.lookup t (.map (some b)) (.int .i64 n) false).run P w = .ok ((f n).getD z) w := by
  obtain ⟨l, ⟨es, clock, hb, F, hs, hD⟩, hl, hf⟩ := h
  injection hD with hD
  have hmem : ∀ x ∈ es.toList, ∃ j, x.key = .int .i64 j ∧ rg P k hold x = (Lit.int .i64 j, DataW.held x.val) := fun x hx => by
    obtain ⟨y, hy⟩ := F.reads x hx
    obtain ⟨j, e1, e2, hw⟩ := Maps.keyOf_int_inv hk (rd_key hy)
    obtain ⟨q, hq, e3⟩ := rd_val hy
    unfold hold at hq
    cases hq
    exact ⟨j, e1, (rg_of hy).trans (Prod.ext e2 e3)⟩
  have hc := run_checkKey (P := P) (w := w) (k := .int .i64 n) hk rfl
  rcases findNow_spec (d := .int .i64) (k := .int .i64 n) rfl es.toList 0 (fun x hx => by obtain ⟨j, e1, -⟩ := hmem x hx; rw [e1]; rfl) with ⟨h1, h2⟩ | ⟨j, e0, h1, h2, h3⟩
  · have h0 : f n = none := by
      cases hv : f n with
      | none => rfl
      | some v =>
        have := (hf n v).1 hv
        rw [hD] at this
        obtain ⟨x, hx, e⟩ := List.mem_map.1 (mem_sorted.1 this)
        obtain ⟨j, e1, e2⟩ := hmem x hx
        rw [e2] at e
        cases e
        exact absurd e1 (h2 x hx)
    rw [h0]
    simp [Instr.lookup, run_underlying ht, MapKept.run_getObj_map hb, hc, run_findKey hk h1, hz, Result.andThen]
  · have hm0 : e0 ∈ es.toList := List.mem_of_getElem? h2
    have h0 : f n = some e0.val := by
      obtain ⟨j', e1, e2⟩ := hmem e0 hm0
      rw [h3] at e1
      cases e1
      rw [hf, hD]
      exact mem_sorted.2 (List.mem_map.2 ⟨e0, hm0, e2⟩)
    rw [h0]
    simp [Instr.lookup, run_underlying ht, MapKept.run_getObj_map hb, hc, run_findKey hk h1, Result.andThen]
/-- 'm[k]' of a map that is nil is not asked for here. 'm[k] = v' -/
theorem MapIs.store (h : MapIs w P k b f m) (hk : P.underlying k = some (.int .i64)) (ht : P.underlying t = some (.map k e)) (hm : m < maxLen) {n : Int} (hn : (Lit.int .i64 n).wf = true) (v : Value) :
    ∃ w', (Instr.mapUpdate t (.map (some b)) (.int .i64 n) v).run P w = .ok () w' ∧ MapIs w' P k b (upd f n (some v)) (if (f n).isSome = true then m else m + 1) ∧ w.mapTurned w' b := by
  obtain ⟨l, hown, hl, hf⟩ := h
  have K := int_keyed hk
  have htd := hown.tidy K
  obtain ⟨w', hrun, hown', hturn⟩ := hown.store K ht hm (keyOf_int_mk hk hn) (d := .held v) (ps := []) rfl
  refine ⟨w', hrun, ?_, hturn⟩
  have hsz := size_put (k := Lit.int .i64 n) htd (DataW.held v)
  obtain ⟨l', hl'⟩ : ∃ l', (DataW.map l).put (.int .i64 n) (.held v) = .map l' := hown'.isMap
  have hl'' : l' = DataW.insert (Lit.int .i64 n, DataW.held v) (l.filter fun p => !p.1.sameKey (.int .i64 n)) := by
    have : (DataW.map l).put (.int .i64 n) (.held v) = .map (DataW.insert (Lit.int .i64 n, DataW.held v) (l.filter fun p => !p.1.sameKey (.int .i64 n))) := rfl
    rw [hl'] at this
    injection this
  rw [hl'] at hown' hsz
  have hhas := MapIs.has_ hown hl hf hk n
  rw [hhas] at hsz
  have hsz : l'.length = if (f n).isSome = true then m else m + 1 := by rw [← hl]; exact hsz
  refine ⟨l', by have := exact_ hown'; rw [hsz] at this; exact this, hsz, fun j u => ?_⟩
  rw [hl'', mem_insert_iff]
  unfold upd
  by_cases e1 : j = n
  · subst e1
    rw [if_pos rfl]
    constructor
    · intro e2; cases e2; exact Or.inl rfl
    · rintro (e2 | e2)
      · cases e2; rfl
      · have := (List.mem_filter.1 e2).2
        rw [WideAt.sameKey_self (by exact trivial)] at this
        cases this
  · rw [if_neg e1, hf]
    constructor
    · intro e2
      exact Or.inr (List.mem_filter.2 ⟨e2, by rw [sameKey_ne (by intro e3; cases e3; exact e1 rfl)]; rfl⟩)
    · rintro (e2 | e2)
      · cases e2; exact absurd rfl e1
      · exact (List.mem_filter.1 e2).1
/-- 'delete(m, k)' -/
theorem MapIs.drop (h : MapIs w P k b f m) (hk : P.underlying k = some (.int .i64)) (ht : P.underlying t = some (.map k e)) {n : Int} (hn : (Lit.int .i64 n).wf = true) (ty : TypeId) :
    ∃ w', (Builtin.delete_ #[t, k] ty #[.map (some b), .int .i64 n]).run P w = .ok (.tuple #[]) w' ∧ MapIs w' P k b (upd f n none) (if (f n).isSome = true then m - 1 else m) ∧ w.mapTurned w' b := by
  obtain ⟨l, hown, hl, hf⟩ := h
  have K := int_keyed hk
  have htd := hown.tidy K
  obtain ⟨w', hrun, hown', hturn⟩ := hown.drop K ht (keyOf_int_mk hk hn) ty
  refine ⟨w', hrun, ?_, hturn⟩
  have hsz := size_del (k := Lit.int .i64 n) htd
  rw [MapIs.has_ hown hl hf hk n] at hsz
  have hsz : (l.filter fun p => !p.1.sameKey (.int .i64 n)).length = if (f n).isSome = true then m - 1 else m := by
    have h1 : (l.filter fun p => !p.1.sameKey (.int .i64 n)).length + (if (f n).isSome = true then 1 else 0) = l.length := hsz
    split at h1 <;> rename_i h2 <;> simp only [h2, if_true, if_false, Bool.false_eq_true] <;> omega
  refine ⟨_, by have := exact_ (l := l.filter fun p => !p.1.sameKey (.int .i64 n)) hown'; rw [hsz] at this; exact this, hsz, fun j u => ?_⟩
  unfold upd
  by_cases e1 : j = n
  · subst e1
    rw [if_pos rfl]
    constructor
    · intro e2; cases e2
    · intro e2
      have := (List.mem_filter.1 e2).2
      rw [WideAt.sameKey_self (by exact trivial)] at this
      cases this
  · rw [if_neg e1, hf]
    constructor
    · intro e2
      exact List.mem_filter.2 ⟨e2, by rw [sameKey_ne (by intro e3; cases e3; exact e1 rfl)]; rfl⟩
    · intro e2; exact (List.mem_filter.1 e2).1
/-- 'len(m)' -/
theorem MapIs.len (h : MapIs w P k b f m) (ht : P.underlying t = some (.map k e)) (ty : TypeId) : (Builtin.len_ #[t] ty #[.map (some b)]).run P w = .ok (.int .i64 m) w := by
  obtain ⟨l, hown, hl, -⟩ := h
  have := hown.len ht ty
  rw [show Maps.size (.map l) = l.length from rfl, hl] at this
  exact this
theorem pair_ne {α β : Type} : ∀ {l : List (α × β)} {p q : α × β}, l.Pairwise (fun p q => p.1 ≠ q.1) → p ∈ l → q ∈ l → p ≠ q → p.1 ≠ q.1
  | [], _, _, _, h, _, _ => absurd h (by simp)
  | x :: r, p, q, h, hp, hq, hne => by
    rw [List.pairwise_cons] at h
    rcases List.mem_cons.1 hp with e1 | hp1
    · rcases List.mem_cons.1 hq with e2 | hq1
      · exact absurd (e1.trans e2.symm) hne
      · rw [e1]; exact h.1 q hq1
    · rcases List.mem_cons.1 hq with e2 | hq1
      · rw [e2]; exact fun e => h.1 p hp1 e.symm
      · exact pair_ne h.2 hp1 hq1 hne
/-- 'for k, v := range m' under way: left tells which numbers are still to come -/
def Going (w : World) (P : Program) (k : TypeId) (b r : Nat) (f : Int → Option Value) (m : Nat) (left : Int → Bool) (cnt : Nat) : Prop :=
  ∃ l lf, w.ranges P k hold b r m (.map l) lf cnt ∧ l.length = m ∧ (∀ n v, f n = some v ↔ (Lit.int .i64 n, DataW.held v) ∈ l) ∧ ∀ n, lf (.int .i64 n) = left n
theorem Going.is {r cnt : Nat} {left : Int → Bool} (h : Going w P k b r f m left cnt) : MapIs w P k b f m := by
  obtain ⟨l, lf, h1, h2, h3, h4⟩ := h
  exact ⟨l, h1.owns, h2, h3⟩
theorem Going.lt {r cnt : Nat} {left : Int → Bool} (h : Going w P k b r f m left cnt) : r < w.heap.size := by
  obtain ⟨l, lf, h1, h2, h3, h4⟩ := h
  exact h1.lt
theorem Going.left_eq {r cnt : Nat} {left : Int → Bool} (h : Going w P k b r f m left cnt) : w.rangeLeft b r = cnt := by
  obtain ⟨l, lf, h1, h2, h3, h4⟩ := h
  exact h1.left_eq
theorem Going.keep {r cnt : Nat} {left : Int → Bool} (h : Going w P k b r f m left cnt) (hb : w'.heap[b]? = w.heap[b]?) (hr : w'.heap[r]? = w.heap[r]?) : Going w' P k b r f m left cnt := by
  obtain ⟨l, lf, ⟨es, clock, since, seen, c0, h1, F, hs, hD, h5, rest⟩, h2⟩ := h
  exact ⟨l, lf, ⟨es, clock, since, seen, c0, hb.trans h1, F, hs, hD, hr.trans h5, rest⟩, h2⟩
end
section
variable {P : Program} (w : World) {ops : Array Oper} {rest : List Oper} {o : Oper} {a : Act} {Q : Exit → Act → World → Prop}
theorem wpList_look (hg : o.guard = none) (m x : Operand) (t : TypeId) (hop : o.op = Op.lookup t m x false) (k e : TypeId) (hk : P.underlying k = some (.int .i64)) (ht : P.underlying t = some (.map k e))
    {z : Value} (hz : (zeroValue e).run P w = .ok z w) (b s : Nat) (f : Int → Option Value) (hm : a.eval m = .map (some b)) (h : MapIs w P k b f s) (n : Int) (hx : a.eval x = .int .i64 n) (v : Value) (hv : (f n).getD z = v)
    (hK : wpList P ops Q rest (a.put o.dst v) w) : wpList P ops Q (o :: rest) a w := by
  refine wpList_plain hg fun K' hK' => ?_
  have hrun := h.look hk ht hz n
  rw [hv] at hrun
  unfold Oper.wp
  simp [execOp, hop, hm, hx, hrun, Result.andThen]
  exact hK' _ _ hK
theorem wpList_drop (hg : o.guard = none) (m x : Operand) (t k : TypeId) (hop : o.op = Op.call { callee := Callee.builtin Builtin.delete, args := #[m, x], argTypes := #[t, k] }) (e : TypeId) (hk : P.underlying k = some (.int .i64)) (ht : P.underlying t = some (.map k e))
    (b s : Nat) (f : Int → Option Value) (hm : a.eval m = .map (some b)) (h : MapIs w P k b f s) (n : Int) (hx : a.eval x = .int .i64 n) (hn : (Lit.int .i64 n).wf = true)
    (hK : ∀ w', MapIs w' P k b (upd f n none) (if (f n).isSome = true then s - 1 else s) → w.mapTurned w' b → wpList P ops Q rest (a.put o.dst (.tuple #[])) w') : wpList P ops Q (o :: rest) a w := by
  refine wpList_plain hg fun K' hK' => ?_
  obtain ⟨w', hrun, r1, r2⟩ := h.drop hk ht hn o.type
  unfold Oper.wp
  simp [execOp, hop, resolve, invoke, builtin, hm, hx, hrun, Result.andThen]
  exact hK' _ _ (hK w' r1 r2)
theorem wpList_range (hg : o.guard = none) (m : Operand) (t : TypeId) (hop : o.op = Op.range t m) (k e : TypeId) (hk : P.underlying k = some (.int .i64)) (ht : P.underlying t = some (.map k e)) (b s : Nat) (f : Int → Option Value)
    (hm : a.eval m = .map (some b)) (h : MapIs w P k b f s)
    (hK : ∀ w', Going w' P k b w.heap.size f s (fun n => (f n).isSome) s → w.grownBy w' none → w'.heap.size = w.heap.size + 1 → wpList P ops Q rest (a.put o.dst (.pointer (some ⟨w.heap.size, 0, none⟩))) w') :
    wpList P ops Q (o :: rest) a w := by
  obtain ⟨l, hown, hl, hf⟩ := h
  refine wpList_range_own w hg m t hop k e (int_keyed hk) ht hold b s (.map l) hm hown fun w' h1 h2 h3 => hK w' ⟨l, _, ?_, hl, hf, fun n => MapIs.has_ hown hl hf hk n⟩ h2 h3
  rw [← hl]
  rw [← hl] at h1
  exact h1
/-- the step: nothing is left; or some number has come, with what f tells of it -/
theorem wpList_turn (hg : o.guard = none) (it : Operand) (hop : o.op = Op.next it false) (k : TypeId) (hk : P.underlying k = some (.int .i64)) (b r s : Nat) (f : Int → Option Value) (V : Int → Value) (hV : ∀ n v, f n = some v → v = V n) (left : Int → Bool) (cnt : Nat)
    (hit : a.eval it = .pointer (some ⟨r, 0, none⟩)) (h : Going w P k b r f s left cnt)
    (hDone : cnt = 0 → (∀ n, left n = false) → wpList P ops Q rest (a.put o.dst (.tuple #[.bool false])) w)
    (hMore : ∀ (n : Int) (w' : World) (cnt' : Nat), f n = some (V n) → left n = true → Going w' P k b r f s (upd left n false) cnt' → cnt' < cnt → w.grownBy w' (some r) → w'.heap.size = w.heap.size →
      (Instr.entry (.pointer (some ⟨r, 0, none⟩))).run P w' = .ok (.tuple #[.int .i64 n, V n]) w' → wpList P ops Q rest (a.put o.dst (.tuple #[.bool true, .int .i64 n, V n])) w') :
    wpList P ops Q (o :: rest) a w := by
  obtain ⟨l, lf, hr, hl, hf, hlf⟩ := h
  refine wpList_plain hg fun K' hK' => ?_
  unfold Oper.wp
  rcases hr.next (int_keyed hk) o.type with ⟨h0, hl0, hrun⟩ | ⟨key, v, kl, y, w', cnt', hkey, hlk, hv, hat, hrun, hrg, hlt, hgr, hsz, hen⟩
  · simp [execOp, hop, hit, hrun, Result.andThen]
    exact hK' _ _ (hDone h0 (fun n => (hlf n).symm.trans (hl0 _)))
  · obtain ⟨n, rfl, rfl, hw⟩ := Maps.keyOf_int_inv hk hkey
    unfold hold at hv
    cases hv
    have hfn : f n = some v := by
      cases hv : f n with
      | none =>
        have h1 := MapIs.has_ hr.owns hl hf hk n
        rw [hv] at h1
        have h2 := atKey_of_not_has (D := .map l) (k := .int .i64 n) h1 .nil
        rw [hat .nil] at h2
        cases h2
      | some u =>
        have h1 := (hf n u).1 hv
        obtain ⟨l', e, hp⟩ := hr.owns.tidy (int_keyed hk)
        injection e with e
        subst e
        have h2 : (DataW.map l).atKey (.int .i64 n) .nil = .held u := by
          unfold DataW.atKey
          simp only []
          cases hq : l.find? (fun p => p.1.sameKey (.int .i64 n)) with
          | none =>
            have := (List.find?_eq_none.1 hq) _ h1
            rw [WideAt.sameKey_self (by exact trivial)] at this
            exact absurd rfl this
          | some p =>
            have hp1 := List.mem_of_find?_eq_some hq
            have hp2 := List.find?_some hq
            have e1 := WideAt.sameKey_eq hp2
            by_cases e2 : p = (.int .i64 n, .held u)
            · simp only [e2]
            · exact absurd e1 (pair_ne hp hp1 h1 e2)
        rw [hat .nil] at h2
        injection h2 with h2
        rw [h2]
    have hVn := hV n v hfn
    subst hVn
    simp [execOp, hop, hit, hrun, Result.andThen]
    refine hK' _ _ (hMore n w' cnt' hfn ((hlf n).symm.trans hlk) ⟨l, _, hrg, hl, hf, fun j => ?_⟩ hlt hgr hsz hen)
    show (lf (.int .i64 j) && !(Lit.int .i64 j).sameKey (.int .i64 n)) = upd left n false j
    rw [hlf]
    unfold upd
    by_cases e1 : j = n
    · subst e1
      rw [if_pos rfl, WideAt.sameKey_self (by exact trivial)]; simp
    · rw [if_neg e1, sameKey_ne (by intro e3; cases e3; exact e1 rfl)]; simp
end
end Go.Proofs.YtmbpgjncioegdaaGreatDoor.Maps
