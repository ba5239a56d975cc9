/-
  Layer 3 (name), walks: what the program's Check, Right and Plain return. No condition but those that each theorem bears.
-/
import Derived.Test.YthplnkchmelbmaaDoorW03May
namespace Go.Proofs.YthplnkchmelbmaaDoor.W03
set_option maxRecDepth 100000
open Go Go.RowKit Go.Proofs.YthplnkchmelbmaaDoor.Strs Go.Proofs.YthplnkchmelbmaaDoor.M03
open Go.Proofs.YthplnkchmelbmaaDoor.Kit (ret_str ret_bool ret_int mk_of below_draws on list_full list_ne list_none list_nil)

def isPts (l : List UInt8) : Bool := (l == [46]) || (l == [46, 46])
theorem isPoints_any (s : ByteArray) (w : World) :
    Calls Tryd.prog 54 #[.string s] w fun e w' => e = .returned (.bool (isPts s.data.toList)) ∧ w' = w := by
  have HE : Hid (isPts s.data.toList = ((s.toList == [46]) || (s.toList == [46, 46]))) := by
    show isPts _ = _
    rw [Lib.toList_data]; rfl
  cases t1 : (s.toList == [46]) with
  | true =>
    have HX : Hid (isPts s.data.toList = true) := by show isPts _ = _; rw [HE.out, t1]; rfl
    clear HE
    go_enter Tryd.func54, Tryd.ntmps54
    go_wp2
    go_ret
    exact ⟨ret_bool HX.out.symm, rfl⟩
  | false =>
    cases t2 : (s.toList == [46, 46]) with
    | true =>
      have HX : Hid (isPts s.data.toList = true) := by show isPts _ = _; rw [HE.out, t1, t2]; rfl
      clear HE
      go_enter Tryd.func54, Tryd.ntmps54
      go_wp2
      go_ret
      exact ⟨ret_bool HX.out.symm, rfl⟩
    | false =>
      have HX : Hid (isPts s.data.toList = false) := by show isPts _ = _; rw [HE.out, t1, t2]; rfl
      clear HE
      go_enter Tryd.func54, Tryd.ntmps54
      go_wp2
      go_ret
      exact ⟨ret_bool HX.out.symm, rfl⟩
theorem check_of {s : ByteArray} (h0 : 0 < s.size) (h : ¬ (64 : Int) < s.size) : check s.data.toList = if s.data.toList.all goodB = true then (if isPts s.data.toList = true then 6 else 0) else 11 := by
  unfold check
  rw [← Lib.size_eq, if_neg (by omega), if_neg (by omega)]
  have e : s.data.toList.any badByte = !(s.data.toList.all goodB) := by
    rw [List.all_eq_not_any_not, Bool.not_not]
    congr 1
    funext c; simp [goodB]
  rw [e]
  cases s.data.toList.all goodB with
  | false => simp
  | true => simp [isPts]
theorem check_free (s : ByteArray) (w : World) :
    Calls Tryd.prog 46 #[.string s] w fun e w' => e = .returned (.int .i64 (check s.data.toList)) ∧ Below w.heap.size w w' := by
  by_cases h0 : 0 < s.size
  · have z0 := list_full h0
    have z1 := list_ne h0
    by_cases h64 : (64 : Int) < s.size
    · have HE := Lib.hid (check_long h0 h64)
      go_enter Tryd.func46, Tryd.ntmps46
      go_wp2
      go_ret
      exact ⟨ret_int HE.out, Below.refl _ _⟩
    · have HE := Lib.hid (check_of h0 h64)
      have HA := Lib.hid (hasOnly_may s)
      have HP := Lib.hid (isPoints_any s)
      generalize s.data.toList.all goodB = a at *
      generalize isPts s.data.toList = b at *
      have h65 : (s.size : Int) ≤ 64 := by omega
      clear h64
      cases a with
      | false =>
        go_enter Tryd.func46, Tryd.ntmps46
        go_wp2_with fail
        refine (HA.out _).mono ?_
        rintro e w1 ⟨rfl, hb1⟩
        go_wp2
        go_ret
        exact ⟨ret_int (by rw [HE.out]; rfl), hb1⟩
      | true =>
        go_enter Tryd.func46, Tryd.ntmps46
        go_wp2_with fail
        refine (HA.out _).mono ?_
        rintro e w1 ⟨rfl, hb1⟩
        cases b with
        | false =>
          go_wp2_with fail
          refine (HP.out _).mono ?_
          rintro e w2 ⟨rfl, rfl⟩
          go_wp2
          go_ret
          exact ⟨ret_int (by rw [HE.out]; rfl), hb1⟩
        | true =>
          go_wp2_with fail
          refine (HP.out _).mono ?_
          rintro e w2 ⟨rfl, rfl⟩
          go_wp2
          go_ret
          exact ⟨ret_int (by rw [HE.out]; rfl), hb1⟩
  · have z0 := list_none h0
    have z1 := list_nil h0
    have HE := Lib.hid (check_empty h0)
    go_enter Tryd.func46, Tryd.ntmps46
    go_wp2
    go_ret
    exact ⟨ret_int HE.out, Below.refl _ _⟩
theorem check_any (s : ByteArray) (_hs : s.size ≤ 140737488351232) (w : World) :
    Calls Tryd.prog 46 #[.string s] w fun e w' => e = .returned (.int .i64 (check s.data.toList)) ∧ Below w.heap.size w w' := check_free s w
theorem right_any (s : ByteArray) (hs : s.size ≤ 140737488351232) (w : World) :
    Calls Tryd.prog 41 #[.string s] w fun e w' => e = .returned (.bool (decide (check s.data.toList = 0))) ∧ Below w.heap.size w w' := by
  have HC := Lib.hid (check_any s hs)
  generalize check s.data.toList = c at *
  go_enter Tryd.func41, Tryd.ntmps41
  go_wp2_with fail
  refine (HC.out _).mono ?_
  rintro e w1 ⟨rfl, hb⟩
  go_wp2_with fail
  go_ret
  exact ⟨ret_bool (by by_cases h : c = 0 <;> simp [h]), hb⟩
theorem check_full {s : ByteArray} (h : check s.data.toList = 0) : 0 < s.size := by
  rcases Nat.eq_zero_or_pos s.size with e | e
  · exfalso; revert h; unfold check; rw [← Lib.size_eq, if_pos e]; decide
  · exact e
end Go.Proofs.YthplnkchmelbmaaDoor.W03
