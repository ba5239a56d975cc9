/-
  Layer 4 (path), walks: what the program's isClean, Is, Join, Dir, Base, Under and Within return at texts of less than 2^48 bytes (Is: of at most 2^31); nothing that was there is changed.
-/
import Derived.Test.YthplnkchmelbmaaDoorW04IsCode
import Derived.Test.YthplnkchmelbmaaDoorW04CleanCode
import Derived.Test.YthplnkchmelbmaaDoorW04Real
namespace Go.Proofs.YthplnkchmelbmaaDoor.W04
set_option maxRecDepth 100000
open Go Go.RowKit Go.Proofs.YthplnkchmelbmaaDoor.Strs Go.Proofs.YthplnkchmelbmaaDoor.M04
open Go.Proofs.YthplnkchmelbmaaDoor.M03 (check)
open Go.Proofs.YthplnkchmelbmaaDoor.Kit (ret_str ret_bool ret_int mk_of mk_bytes ba_ext below_draws on take_bytes drop_bytes cat_bytes bytes_nil bytes_cons list_full list_ne list_none list_nil)

theorem same_bytes (a b : ByteArray) : (a.toList == b.toList) = decide (a.data.toList = b.data.toList) := by
  rw [Lib.toList_data, Lib.toList_data]
  by_cases h : a.data.toList = b.data.toList
  · simp [h]
  · rw [decide_eq_false h]
    exact beq_eq_false_iff_ne.2 h
theorem isClean_any (s : ByteArray) (hs : s.size < 281474976710656) (w : World) : Calls Tryd.prog 39 #[.string s] w fun e w' => e = .returned (.bool (decide (clean s.data.toList = s.data.toList))) ∧ Below w.heap.size w w' := by
  obtain ⟨c, hc⟩ := text_of (clean s.data.toList)
  have HC := Lib.hid (clean_at s c hc (by omega))
  have HE := Lib.hid (same_bytes c s)
  rw [hc] at HE
  clear hc
  generalize decide (clean s.data.toList = s.data.toList) = r at *
  go_enter Tryd.func39, Tryd.ntmps39
  go_wp2_with fail
  refine (HC.out _).mono ?_
  rintro e w1 ⟨rfl, hb⟩
  go_wp2_with fail
  go_ret
  exact ⟨ret_bool HE.out, hb⟩
theorem all_parts (s : ByteArray) : (partsOf s).all rightOf = (parts s.data.toList).all (fun p => decide (check p = 0)) := by
  unfold partsOf
  rw [List.all_map]
  rfl
theorem is_any (s : ByteArray) (hs : s.size ≤ 2147483648) (w : World) : Calls Tryd.prog 32 #[.string s] w fun e w' => e = .returned (.bool (isPath s.data.toList)) ∧ Below w.heap.size w w' := by
  have HC := Lib.hid (isClean_any s (by omega))
  have HO := Lib.hid (hasOnly_right s hs)
  have HE := Lib.hid (isPath_real s.data.toList)
  rw [← all_parts, ← Lib.size_eq] at HE
  generalize isPath s.data.toList = r at *
  generalize decide (clean s.data.toList = s.data.toList) = a at *
  generalize (partsOf s).all rightOf = b at *
  by_cases hl : (s.size : Int) ≤ 1024
  · rw [decide_eq_true (by omega), Bool.true_and] at HE
    cases a with
    | true =>
      go_enter Tryd.func32, Tryd.ntmps32
      go_wp2_with fail
      refine (HC.out _).mono ?_
      rintro e w1 ⟨rfl, hb⟩
      go_wp2_with fail
      refine (HO.out _).mono ?_
      rintro e w2 ⟨rfl, hb2⟩
      go_wp2_with fail
      go_ret
      exact ⟨ret_bool (by rw [HE.out]; rfl), on hb hb2⟩
    | false =>
      go_enter Tryd.func32, Tryd.ntmps32
      go_wp2_with fail
      refine (HC.out _).mono ?_
      rintro e w1 ⟨rfl, hb⟩
      go_wp2_with fail
      go_ret
      exact ⟨ret_bool (by rw [HE.out]; rfl), hb⟩
  · rw [decide_eq_false (by omega), Bool.false_and, Bool.false_and] at HE
    go_enter Tryd.func32, Tryd.ntmps32
    go_wp2_with fail
    go_ret
    exact ⟨ret_bool HE.out.symm, Below.refl _ _⟩
theorem under_flag (s d : Bytes) : (under s d).2 = isUnder s d := by
  unfold under
  split
  · rename_i h; exact h.symm
  · rename_i h; simp at h; exact h.symm
theorem not_clean_under {s d : Bytes} (h : ¬ (clean s = s ∧ clean d = d)) : under s d = ([], false) := by
  unfold under isUnder
  rw [if_neg]
  intro e
  simp only [Bool.and_eq_true, decide_eq_true_eq] at e
  exact h e.1
theorem head_byte {r : ByteArray} (h : 0 < r.size) : (r.data.toList = [] ∨ r.data.toList.head? = some 47) ↔ (r[0].toNat : Int) = 47 := by
  rw [bytes_cons h]
  constructor
  · rintro (e | e)
    · cases e
    · simp at e
      rw [e]; rfl
  · intro e
    right
    have : r[0] = 47 := Kit.byte_eq (d := 47) e
    simp [this]
theorem ret_text_bool {a b : ByteArray} (h : a = b) (x : Bool) : Ending.returned (.tuple #[.string a, .bool x]) = .returned (.tuple #[.string b, .bool x]) := by rw [h]
end Go.Proofs.YthplnkchmelbmaaDoor.W04
