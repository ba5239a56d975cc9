/-
  Plain mathematics for layer 18 (dots): names that stand for names with a point; lists of bytes alone. No condition but those that each theorem bears.
-/
import Derived.Test.YtoahbkmngmapaaaDoorKit
namespace Go.Proofs.YtoahbkmngmapaaaDoor.M18
open Go
open Go.Proofs.YtoahbkmngmapaaaDoor.Kit (bytes_cons bytes_nil drop_bytes drop_next)

abbrev Bytes := List UInt8
def point : Bytes := [46]
def sign : Bytes := [100, 111, 116, 45]
/-- what is empty, or begins with a point -/
def bare (r : Bytes) : Bool := r.isEmpty || Lib.hasPrefix r [46]
/-- one beginning for another one -/
def swap (l a b : Bytes) : Bytes := if Lib.hasPrefix l a = true ∧ bare (l.drop a.length) = false then b ++ l.drop a.length else l
/-- the name for which one stands, and the one that stands for it -/
def toP (l : Bytes) : Bytes := swap l sign point
def ofP (l : Bytes) : Bytes := swap l point sign

theorem prefix_take (l p : Bytes) : Lib.hasPrefix l p = true ↔ l.take p.length = p := by
  unfold Lib.hasPrefix
  rw [List.isPrefixOf_iff_prefix, List.prefix_iff_eq_take]
  exact eq_comm
theorem swap_yes {l a b : Bytes} (h : Lib.hasPrefix l a = true) (h2 : bare (l.drop a.length) = false) : swap l a b = b ++ l.drop a.length := if_pos ⟨h, h2⟩
theorem swap_other {l a b : Bytes} (h : Lib.hasPrefix l a = false) : swap l a b = l := if_neg (fun e => by rw [h] at e; exact absurd e.1 (by decide))
theorem swap_bare {l a b : Bytes} (h2 : bare (l.drop a.length) = true) : swap l a b = l := if_neg (fun e => by rw [h2] at e; exact absurd e.2 (by decide))
theorem swap_back {l a b : Bytes} (h : swap l a b ≠ l) : swap (swap l a b) b a = l := by
  by_cases h1 : Lib.hasPrefix l a = true ∧ bare (l.drop a.length) = false
  · rw [swap_yes h1.1 h1.2]
    have e1 : (b ++ l.drop a.length).drop b.length = l.drop a.length := by simp
    rw [swap_yes (by rw [prefix_take]; simp) (by rw [e1]; exact h1.2), e1]
    conv => rhs; rw [← List.take_append_drop a.length l]
    rw [(prefix_take l a).1 h1.1]
  · exact absurd (if_neg h1) h
theorem swap_len (l a b : Bytes) : (swap l a b).length ≤ l.length + b.length := by
  unfold swap
  split
  · rw [List.length_append, List.length_drop]; omega
  · omega
theorem to_back {l : Bytes} (h : toP l ≠ l) : ofP (toP l) = l := swap_back h
theorem of_back {l : Bytes} (h : ofP l ≠ l) : toP (ofP l) = l := swap_back h
theorem to_len (l : Bytes) : (toP l).length ≤ l.length := by
  unfold toP swap
  split
  · rename_i h
    have := congrArg List.length ((prefix_take l sign).1 h.1)
    rw [List.length_take] at this
    rw [List.length_append, List.length_drop]
    simp only [sign, point, List.length_cons, List.length_nil] at this ⊢
    omega
  · exact Nat.le_refl _
theorem of_len (l : Bytes) : (ofP l).length ≤ l.length + 4 := swap_len l point sign
section
variable {s : ByteArray}
theorem bare_short {k : Nat} (h : ¬ k < s.size) : bare (s.data.toList.drop k) = true := by
  rw [List.drop_eq_nil_of_le (by rw [← Lib.size_eq]; omega)]; rfl
theorem bare_next {k : Nat} (h : k < s.size) : bare (s.data.toList.drop k) = decide (s[k] = 46) := by
  rw [drop_next s k h]
  show (false || ([46] : Bytes).isPrefixOf (s[k] :: _)) = _
  rw [Bool.false_or, List.isPrefixOf, List.isPrefixOf, Bool.and_true]
  by_cases e : s[k] = 46
  · rw [e]; rfl
  · rw [decide_eq_false e]; simpa using fun h => e h.symm
theorem to_short (h : ¬ 4 < s.size) : toP s.data.toList = s.data.toList := swap_bare (bare_short h)
theorem take_sign : (s.extract 0 4).toList = s.data.toList.take 4 := by rw [Lib.toList_data, Kit.take_bytes]
theorem to_other (h : ((s.extract 0 4).toList == [100, 111, 116, 45]) = false) : toP s.data.toList = s.data.toList := swap_other (by
  rw [← Bool.not_eq_true, prefix_take]
  rw [take_sign] at h
  exact beq_eq_false_iff_ne.1 h)
theorem to_point (h : 4 < s.size) (h2 : s[4] = 46) : toP s.data.toList = s.data.toList := swap_bare (by
  show bare (s.data.toList.drop 4) = true
  rw [bare_next h, h2]; rfl)
theorem to_yes (h : 4 < s.size) (h1 : ((s.extract 0 4).toList == [100, 111, 116, 45]) = true) (h2 : ¬ s[4] = 46) : (⟨#[46]⟩ ++ s.extract 4 s.size : ByteArray).data.toList = toP s.data.toList := by
  rw [take_sign] at h1
  unfold toP
  rw [swap_yes ((prefix_take _ _).2 (beq_iff_eq.1 h1)) (by show bare (s.data.toList.drop 4) = false; rw [bare_next h, decide_eq_false h2]), Kit.cat_bytes, drop_bytes]
  rfl
theorem of_short (h : ¬ 1 < s.size) : ofP s.data.toList = s.data.toList := swap_bare (bare_short h)
theorem head_point (h : 0 < s.size) : Lib.hasPrefix s.data.toList point = decide (s[0] = 46) := by
  rw [bytes_cons h]
  show ([46] : Bytes).isPrefixOf (s[0] :: _) = _
  rw [List.isPrefixOf, List.isPrefixOf, Bool.and_true]
  by_cases e : s[0] = 46
  · rw [e]; rfl
  · rw [decide_eq_false e]; simpa using fun h => e h.symm
theorem of_other (h : 0 < s.size) (h1 : ¬ s[0] = 46) : ofP s.data.toList = s.data.toList := swap_other (by rw [head_point h, decide_eq_false h1])
theorem of_point (h : 1 < s.size) (h2 : s[1] = 46) : ofP s.data.toList = s.data.toList := swap_bare (by
  show bare (s.data.toList.drop 1) = true
  rw [bare_next h, h2]; rfl)
theorem of_yes (h : 1 < s.size) (h0 : s[0] = 46) (h2 : ¬ s[1] = 46) : (⟨#[100, 111, 116, 45]⟩ ++ s.extract 1 s.size : ByteArray).data.toList = ofP s.data.toList := by
  unfold ofP
  rw [swap_yes (by rw [head_point (by omega), h0]; rfl) (by show bare (s.data.toList.drop 1) = false; rw [bare_next h, decide_eq_false h2]), Kit.cat_bytes, drop_bytes]
  rfl
end
end Go.Proofs.YtoahbkmngmapaaaDoor.M18
