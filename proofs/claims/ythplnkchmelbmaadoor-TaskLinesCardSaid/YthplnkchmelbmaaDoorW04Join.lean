/-
  Layer 4 (path), walks: the plain answers Join, Dir, Base and Is: what each returns at texts of at most 2^40 bytes; new memory may be laid, nothing that was there is changed.
-/
import Derived.Test.YthplnkchmelbmaaDoorW04Clean
import Derived.Test.YthplnkchmelbmaaDoorW03Walk
namespace Go.Proofs.YthplnkchmelbmaaDoor.W04
open Go Go.RowKit Go.Proofs.YthplnkchmelbmaaDoor.Strs Go.Proofs.YthplnkchmelbmaaDoor.M04
open Go.Proofs.YthplnkchmelbmaaDoor.M03 (check)
open Go.Proofs.YthplnkchmelbmaaDoor.Kit (ret_str ret_bool mk_of mk_bytes ba_ext cat_bytes list_full list_ne list_none list_nil bytes_nil bytes_cons byte_eq byte_ne below_draws on)

theorem clean_size {s d : ByteArray} (hd : d.data.toList = clean s.data.toList) : d.size ≤ s.size + 2 := by
  rw [Lib.size_eq, hd, Lib.size_eq]; exact clean_len _
theorem join_rooted {dir s : ByteArray} (h0 : 0 < s.size) (h : s[0] = 47) : join dir.data.toList s.data.toList = clean s.data.toList := by
  unfold join; rw [if_pos]; rw [bytes_cons h0, h]; rfl
theorem join_from {dir s : ByteArray} (h : ∀ h0 : 0 < s.size, ¬ s[0] = 47) : join dir.data.toList s.data.toList = clean (dir ++ ⟨#[47]⟩ ++ s).data.toList := by
  unfold join
  rw [if_neg, cat_bytes, cat_bytes, List.append_assoc]
  · rfl
  · intro e
    by_cases h0 : 0 < s.size
    · rw [bytes_cons h0] at e
      exact h h0 (by simpa using e)
    · rw [bytes_nil h0] at e; simp at e


end Go.Proofs.YthplnkchmelbmaaDoor.W04
