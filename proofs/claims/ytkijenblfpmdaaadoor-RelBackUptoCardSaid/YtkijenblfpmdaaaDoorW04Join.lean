/-
  Layer 4 (path), walks: the plain answers Join, Dir, Base and Is: what each returns at texts of at most 2^40 bytes; new memory may be laid, nothing that was there is changed.
-/
import Derived.Test.YtkijenblfpmdaaaDoorW04Clean
import Derived.Test.YtkijenblfpmdaaaDoorW03Walk
namespace Go.Proofs.YtkijenblfpmdaaaDoor.W04
open Go Go.RowKit Go.Proofs.YtkijenblfpmdaaaDoor.Strs Go.Proofs.YtkijenblfpmdaaaDoor.M04
open Go.Proofs.YtkijenblfpmdaaaDoor.M03 (check)
open Go.Proofs.YtkijenblfpmdaaaDoor.Kit (ret_str ret_bool mk_of mk_bytes ba_ext cat_bytes list_full list_ne list_none list_nil bytes_nil bytes_cons byte_eq byte_ne below_draws on)

theorem clean_size {s d : ByteArray} (hd : d.data.toList = clean s.data.toList) : d.size ≤ s.size + 2 := by
  rw [Lib.size_eq, hd, Lib.size_eq]; exact clean_len _
theorem join_rooted {dir s : ByteArray} (h0 : 0 < s.size) (h : s[0] = 47) : join dir.data.toList s.data.toList = clean s.data.toList := by
  unfold join; rw [if_pos]; rw [bytes_cons h0, h]; rfl
theorem join_from {dir s : ByteArray} (h : ∀ h0 : 0 < s.size, ¬ s[0] = 47) : join dir.data.toList s.data.toList = clean (dir ++ ⟨#[47]⟩ ++ s).data.toList := by
  unfold join
  rw [if_neg, cat_bytes, cat_bytes, List.append_assoc]
  · rfl
  · intro e
    by_cases h0 : 0 < s.size
    · rw [bytes_cons h0] at e
      exact h h0 (by simpa using e)
    · rw [bytes_nil h0] at e; simp at e

theorem refJoin_any (dir s d : ByteArray) (hd : d.data.toList = join dir.data.toList s.data.toList) (hs : dir.size + s.size < 1099511627776) (w : World) :
    Calls Tryd.prog 17 #[.string dir, .string s] w fun e w' => e = .returned (.string d) ∧ Below w.heap.size w w' := by
  by_cases h0 : 0 < s.size
  · have hf := list_full h0
    have hn := list_ne h0
    by_cases h47 : (s[0].toNat : Int) = 47
    · have HC := Lib.hid (refClean_any s d (hd.trans (join_rooted h0 (byte_eq (d := 47) h47))) (by omega))
      have t47 : ((s[0].toNat : Int) == 47) = true := by simp [h47]
      clear h47 hd
      go_enter Tryd.func17, Tryd.ntmps17
      go_wp2_with fail
      refine (HC.out _).mono ?_
      rintro e w1 ⟨rfl, hb⟩
      go_wp2_with fail
      go_ret
      exact ⟨rfl, hb⟩
    · have HC := Lib.hid (refClean_any (dir ++ ⟨#[47]⟩ ++ s) d (hd.trans (join_from fun _ => byte_ne (d := 47) h47)) (by simp [ByteArray.size_append]; have : (⟨#[47]⟩ : ByteArray).size = 1 := rfl; omega))
      have t47 : ((s[0].toNat : Int) == 47) = false := by simp [h47]
      clear h47 hd
      go_enter Tryd.func17, Tryd.ntmps17
      go_wp2_with fail
      refine (HC.out _).mono ?_
      rintro e w1 ⟨rfl, hb⟩
      go_wp2_with fail
      go_ret
      exact ⟨rfl, hb⟩
  · have hf := list_none h0
    have hn := list_nil h0
    have HC := Lib.hid (refClean_any (dir ++ ⟨#[47]⟩ ++ s) d (hd.trans (join_from fun h => absurd h h0)) (by simp [ByteArray.size_append]; have : (⟨#[47]⟩ : ByteArray).size = 1 := rfl; omega))
    clear hd
    go_enter Tryd.func17, Tryd.ntmps17
    go_wp2_with fail
    refine (HC.out _).mono ?_
    rintro e w1 ⟨rfl, hb⟩
    go_wp2_with fail
    go_ret
    exact ⟨rfl, hb⟩

end Go.Proofs.YtkijenblfpmdaaaDoor.W04
