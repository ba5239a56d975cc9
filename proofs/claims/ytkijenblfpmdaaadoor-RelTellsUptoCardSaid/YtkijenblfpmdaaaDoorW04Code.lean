/-
  Layer 4 (path), walks: what the program's isClean, Is, Join, Dir, Base, Under and Within return at texts of less than 2^48 bytes (Is: of at most 2^31); nothing that was there is changed.
-/
import Derived.Test.YtkijenblfpmdaaaDoorW04CleanCode
import Derived.Test.YtkijenblfpmdaaaDoorW04Real
namespace Go.Proofs.YtkijenblfpmdaaaDoor.W04
open Go Go.RowKit Go.Proofs.YtkijenblfpmdaaaDoor.Strs Go.Proofs.YtkijenblfpmdaaaDoor.M04
open Go.Proofs.YtkijenblfpmdaaaDoor.Kit (ret_str ret_bool ret_int mk_of mk_bytes ba_ext below_draws on take_bytes drop_bytes cat_bytes bytes_nil bytes_cons list_full list_ne list_none list_nil)

theorem same_bytes (a b : ByteArray) : (a.toList == b.toList) = decide (a.data.toList = b.data.toList) := by
  rw [Lib.toList_data, Lib.toList_data]
  by_cases h : a.data.toList = b.data.toList
  · simp [h]
  · rw [decide_eq_false h]
    exact beq_eq_false_iff_ne.2 h
theorem join_at (dir s d : ByteArray) (hd : d.data.toList = join dir.data.toList s.data.toList) (hs : dir.size + s.size < 281474976710655) (w : World) : Calls Tryd.prog 15 #[.string dir, .string s] w fun e w' => e = .returned (.string d) ∧ Below w.heap.size w w' := by
  have HX := Lib.hid (Tryd.strings_HasPrefix s ⟨#[47]⟩)
  rw [show Lib.hasPrefix s.data.toList (⟨#[47]⟩ : ByteArray).data.toList = decide (s.data.toList.head? = some 47) from prefix_slash _] at HX
  unfold join at hd
  by_cases h : s.data.toList.head? = some 47
  · rw [if_pos h] at hd
    rw [decide_eq_true h] at HX
    have HC := Lib.hid (clean_at s d hd (by omega))
    clear hd h
    go_enter Tryd.func15, Tryd.ntmps15
    go_wp2_with fail
    refine (HX.out _).mono ?_
    rintro e w1 ⟨rfl, rfl⟩
    go_wp2_with fail
    refine (HC.out _).mono ?_
    rintro e w1 ⟨rfl, hb⟩
    go_wp2_with fail
    go_ret
    exact ⟨rfl, hb⟩
  · rw [if_neg h] at hd
    rw [decide_eq_false h] at HX
    have hsz : (dir ++ ⟨#[47]⟩ ++ s).size = dir.size + 1 + s.size := by rw [ByteArray.size_append, ByteArray.size_append]; rfl
    have HC := Lib.hid (clean_at (dir ++ ⟨#[47]⟩ ++ s) d (by rw [hd, cat_bytes, cat_bytes, List.append_assoc]; rfl) (by omega))
    clear hd h
    go_enter Tryd.func15, Tryd.ntmps15
    go_wp2_with fail
    refine (HX.out _).mono ?_
    rintro e w1 ⟨rfl, rfl⟩
    go_wp2_with fail
    refine (HC.out _).mono ?_
    rintro e w1 ⟨rfl, hb⟩
    go_wp2_with fail
    go_ret
    exact ⟨rfl, hb⟩
theorem under_flag (s d : Bytes) : (under s d).2 = isUnder s d := by
  unfold under
  split
  · rename_i h; exact h.symm
  · rename_i h; simp at h; exact h.symm
theorem not_clean_under {s d : Bytes} (h : ¬ (clean s = s ∧ clean d = d)) : under s d = ([], false) := by
  unfold under isUnder
  rw [if_neg]
  intro e
  simp only [Bool.and_eq_true, decide_eq_true_eq] at e
  exact h e.1
theorem head_byte {r : ByteArray} (h : 0 < r.size) : (r.data.toList = [] ∨ r.data.toList.head? = some 47) ↔ (r[0].toNat : Int) = 47 := by
  rw [bytes_cons h]
  constructor
  · rintro (e | e)
    · cases e
    · simp at e
      rw [e]; rfl
  · intro e
    right
    have : r[0] = 47 := Kit.byte_eq (d := 47) e
    simp [this]
theorem ret_text_bool {a b : ByteArray} (h : a = b) (x : Bool) : Ending.returned (.tuple #[.string a, .bool x]) = .returned (.tuple #[.string b, .bool x]) := by rw [h]
end Go.Proofs.YtkijenblfpmdaaaDoor.W04
