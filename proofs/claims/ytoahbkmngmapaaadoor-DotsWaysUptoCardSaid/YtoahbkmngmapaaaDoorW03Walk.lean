/-
  Layer 3 (name), walks: the plain answers Check, Plain and Find: what each returns at every argument; the world as it was, but for draws.
-/
import Derived.Test.YtoahbkmngmapaaaDoorW03Math
import Derived.Test.YtoahbkmngmapaaaDoorStrs
import Derived.Test.YtoahbkmngmapaaaDoorChecked
import Derived.WalkSpells
import Derived.WalkLawsBesides
import Derived.BigQuiet
namespace Go.Proofs.YtoahbkmngmapaaaDoor.W03
open Go Go.RowKit Go.Proofs.YtoahbkmngmapaaaDoor.Strs Go.Proofs.YtoahbkmngmapaaaDoor.M03
open Go.Proofs.YtoahbkmngmapaaaDoor.Kit (ret_str ret_int ret_bool mk_bytes ba_ext bytes_nil bytes_cons byte_get take_next take_end list_full list_ne list_none list_nil byte_eq byte_ne head_of below_draws)

theorem check_empty {s : ByteArray} (h : ¬ 0 < s.size) : (5 : Int) = check s.data.toList := by
  unfold check; rw [← Lib.size_eq, if_pos (by omega)]
theorem check_long {s : ByteArray} (_h0 : 0 < s.size) (h : (64 : Int) < s.size) : (11 : Int) = check s.data.toList := by
  unfold check; rw [← Lib.size_eq, if_neg (by omega), if_pos (by omega)]
theorem check_bad {s : ByteArray} {k : Nat} (h0 : 0 < s.size) (h : (s.size : Int) ≤ 64) (hk : k < s.size) (hb : badByte s[k] = true) : (11 : Int) = check s.data.toList := by
  have : s.data.toList.any badByte = true := by
    rw [List.any_eq_true]
    have hk2 : k < s.data.toList.length := by rw [← Lib.size_eq]; exact hk
    exact ⟨s.data.toList[k], List.getElem_mem hk2, hb⟩
  unfold check; rw [← Lib.size_eq, if_neg (by omega), if_neg (by omega), if_pos this]
theorem check_end {s : ByteArray} {k : Nat} (h0 : 0 < s.size) (h : (s.size : Int) ≤ 64) (hk : ¬ k < s.size) (hb : (s.data.toList.take k).any badByte = false) : check s.data.toList = if s.data.toList = [46] ∨ s.data.toList = [46, 46] then 6 else 0 := by
  rw [take_end s k hk] at hb
  unfold check; rw [← Lib.size_eq, if_neg (by omega), if_neg (by omega), if_neg (by rw [hb]; decide)]
theorem any_next {s : ByteArray} {k : Nat} (hk : k < s.size) (h : (s.data.toList.take k).any badByte = false) (hb : badByte s[k] = false) : (s.data.toList.take (k + 1)).any badByte = false := by
  rw [take_next s k hk, List.any_append, h]; simp [hb]

end Go.Proofs.YtoahbkmngmapaaaDoor.W03
