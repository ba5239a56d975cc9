/-
  Layer 19 (task), walks: strings.Cut at a blank: what stands ahead of the first blank, and behind it. The conditions stand in the statements.
-/
import Derived.Test.YthplnkchmelbmaaDoorShelf
import Derived.Test.YthplnkchmelbmaaDoorW19Walk
import Derived.Test.YthplnkchmelbmaaDoorW04Pieces
import Derived.BigQuiet
namespace Go.Proofs.YthplnkchmelbmaaDoor.W19
set_option maxRecDepth 100000
open Go Go.RowKit Go.Proofs.YthplnkchmelbmaaDoor.M19
open Go.Proofs.YthplnkchmelbmaaDoor.Kit (ret_str ret_bool ret_int mk_of mk_bytes ba_ext below_draws on drop_bytes take_bytes)

/-- what stands ahead of the first blank and behind it, and whether there is one -/
def CutAt (l a b : Bytes) (o : Bool) : Prop := (o = true ∧ bare a ∧ l = a ++ 32 :: b) ∨ (o = false ∧ a = l ∧ b = [] ∧ bare l)
theorem bare_of {l : Bytes} (h : (32 : UInt8) ∉ l) : bare l := fun c hc e => h (by rw [← e]; exact hc)
/-- what a call of Cut returns -/
def Cuts (w : World) (l : Bytes) (e : Ending) (w' : World) : Prop := ∃ (a b : ByteArray) (o : Bool), e = .returned (.tuple #[.string a, .string b, .bool o]) ∧ CutAt l a.data.toList b.data.toList o ∧ ∃ n, w' = w.drewN n
set_option maxHeartbeats 1000000 in
theorem slCut_any (s : ByteArray) (hs : s.size ≤ 1099511627776) (w : World) : Calls Tryd.prog 42 #[.string s, .string ⟨#[32]⟩] w (Cuts w s.data.toList) := by
  have HI := Lib.hid (fun w => Tryd.stringslite_Index_one s 32 w)
  by_cases h : 0 ≤ Lib.indexByte s.data.toList 32
  · obtain ⟨k, h1, h2, h3, h4⟩ := M04.index_some _ _ h
    have HC : Hid (CutAt s.data.toList (s.extract 0 k).data.toList (s.extract (k + 1) s.size).data.toList true) := Or.inl ⟨rfl, by rw [take_bytes]; exact bare_of h4, by rw [take_bytes, drop_bytes]; exact h3⟩
    rw [h1] at HI
    rw [← Lib.size_eq] at h2
    clear h h1 h3 h4
    go_enter Tryd.func42, Tryd.ntmps42
    go_wp2_with fail
    refine (HI.out _).mono ?_
    rintro e w1 ⟨rfl, rfl⟩
    go_wp2_with fail
    go_quiet (fail)
    go_wp2_with fail
    go_ret3
    exact ⟨_, _, true, rfl, HC.out, nq, rfl⟩
  · have HC : Hid (CutAt s.data.toList s.data.toList [] false) := Or.inr ⟨rfl, rfl, rfl, bare_of (M04.index_none _ _ (by omega))⟩
    have h1 : Lib.indexByte s.data.toList 32 = -1 := by have := Lib.indexByte_ge s.data.toList 32; omega
    rw [h1] at HI
    clear h h1
    go_enter Tryd.func42, Tryd.ntmps42
    go_wp2_with fail
    refine (HI.out _).mono ?_
    rintro e w1 ⟨rfl, rfl⟩
    go_wp2_with fail
    go_ret3
    exact ⟨s, ⟨#[]⟩, false, rfl, HC.out, 0, rfl⟩
set_option maxHeartbeats 400000 in
theorem cut_any (s : ByteArray) (hs : s.size ≤ 1099511627776) (w : World) : Calls Tryd.prog 36 #[.string s, .string ⟨#[32]⟩] w (Cuts w s.data.toList) := by
  have HI := Lib.hid (fun w => slCut_any s hs w)
  go_enter Tryd.func36, Tryd.ntmps36
  go_wp2_with fail
  refine (HI.out _).mono ?_
  rintro e w1 ⟨a, b, o, rfl, hc, n, rfl⟩
  have HC := Lib.hid hc
  clear hc
  go_wp2_with fail
  go_ret3
  exact ⟨a, b, o, rfl, HC.out, n, rfl⟩
end Go.Proofs.YthplnkchmelbmaaDoor.W19
