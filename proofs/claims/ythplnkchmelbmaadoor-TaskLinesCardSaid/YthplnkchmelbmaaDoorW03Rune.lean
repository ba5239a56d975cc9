/-
  Layer 3 (name), walks over a text's runes: hasOnly asks of each rune what its function says; a byte below 128 is a rune by itself, and what isn't is told by bytes of 128 and above alone. So what hasOnly answers is told by the text's bytes. No condition but those that each theorem bears.
-/
import Derived.Test.YthplnkchmelbmaaDoorW03Walk
import Derived.Laws.RangeAny
import Derived.LoopTactic
namespace Go.Proofs.YthplnkchmelbmaaDoor.W03
open Go Go.RowKit Go.Proofs.YthplnkchmelbmaaDoor.Strs Go.Proofs.YthplnkchmelbmaaDoor.M03
open Go.Proofs.YthplnkchmelbmaaDoor.Kit (ret_str ret_bool ret_int mk_of below_draws on take_next take_end byte_eq byte_ne)

theorem get_bang (s : ByteArray) (k : Nat) (h : k < s.size) : s.get! k = s[k] := by
  simp [ByteArray.get!, getElem!_pos, h]; rfl
/-- a rune of 128 and above lies over bytes of 128 and above -/
theorem decode_cover (s : ByteArray) (pos : Nat) (h : pos < s.size) (ha : 128 ≤ (s[pos]).toNat) :
    pos + (Utf8.decode s pos).2 ≤ s.size ∧ ∀ j, j < (Utf8.decode s pos).2 → 128 ≤ (s.get! (pos + j)).toNat := by
  have hn : ¬ (s[pos]).toNat < 128 := by omega
  have h0 : 128 ≤ (s.get! (pos + 0)).toNat := by rw [get_at s pos h]; exact ha
  simp only [Utf8.decode, get_at s pos h, hn, if_false, Bool.and_eq_true, decide_eq_true_eq, beq_iff_eq]
  repeat' split
  all_goals first
    | (refine ⟨by simp only []; omega, fun j hj => ?_⟩
       simp only [] at hj
       have hj4 : j = 0 ∨ j = 1 ∨ j = 2 ∨ j = 3 := by omega
       rcases hj4 with rfl | rfl | rfl | rfl <;> omega)
/-- what is asked of a rune is asked of the bytes: p of a byte below 128 is q of it as a rune, and all above are hi -/
structure Alike (q : Nat → Bool) (p : UInt8 → Bool) (hi : Bool) : Prop where
  low : ∀ c : UInt8, c.toNat < 128 → p c = q c.toNat
  high : ∀ c : UInt8, 128 ≤ c.toNat → p c = hi
  rune : ∀ r, 128 ≤ r → q r = hi
theorem alike_no {q : Nat → Bool} {p : UInt8 → Bool} {hi : Bool} (A : Alike q p hi) {s : ByteArray} {pos : Nat} (h : pos < s.size) (hq : q (Utf8.decode s pos).1 = false) : s.data.toList.all p = false := by
  have hk2 : pos < s.data.toList.length := by rw [← Lib.size_eq]; exact h
  have hp : p s[pos] = false := by
    by_cases ha : (s[pos]).toNat < 128
    · rw [decode_ascii s pos h ha] at hq; rw [A.low _ ha]; exact hq
    · have hd := decode_high s pos h (by omega)
      rw [A.rune _ hd.1] at hq
      rw [A.high _ (by omega)]; exact hq
  rw [List.all_eq_false]
  exact ⟨s.data.toList[pos], List.getElem_mem hk2, by show ¬ p s[pos] = true; rw [hp]; decide⟩
theorem all_span {p : UInt8 → Bool} {s : ByteArray} : ∀ (n pos : Nat), pos + n ≤ s.size → (s.data.toList.take pos).all p = true → (∀ j, j < n → p (s.get! (pos + j)) = true) → (s.data.toList.take (pos + n)).all p = true
  | 0, pos, _, h, _ => h
  | n + 1, pos, hn, h, hj => by
    have h1 := all_span n pos (by omega) h (fun j hj2 => hj j (by omega))
    have hlt : pos + n < s.size := by omega
    rw [show pos + (n + 1) = (pos + n) + 1 by omega, take_next s _ hlt, List.all_append, h1]
    have := hj n (by omega)
    rw [get_bang s _ hlt] at this
    simp [this]
theorem alike_yes {q : Nat → Bool} {p : UInt8 → Bool} {hi : Bool} (A : Alike q p hi) {s : ByteArray} {pos : Nat} (h : pos < s.size) (hq : q (Utf8.decode s pos).1 = true) (ht : (s.data.toList.take pos).all p = true) :
    pos + (Utf8.decode s pos).2 ≤ s.size ∧ (s.data.toList.take (pos + (Utf8.decode s pos).2)).all p = true := by
  by_cases ha : (s[pos]).toNat < 128
  · rw [decode_ascii s pos h ha] at hq ⊢
    refine ⟨h, ?_⟩
    show (s.data.toList.take (pos + 1)).all p = true
    rw [take_next s pos h, List.all_append, ht]
    have : p s[pos] = true := by rw [A.low _ ha]; exact hq
    simp [this]
  · have hd := decode_high s pos h (by omega)
    have hc := decode_cover s pos h (by omega)
    rw [A.rune _ hd.1] at hq
    exact ⟨hc.1, all_span _ pos hc.1 ht (fun j hj => by rw [A.high _ (hc.2 j hj)]; exact hq)⟩
theorem width_pos (s : ByteArray) (pos : Nat) (h : pos < s.size) : 1 ≤ (Utf8.decode s pos).2 := by
  by_cases ha : (s[pos]'h).toNat < 128
  · rw [decode_ascii s pos h ha]
    exact Nat.le_refl _
  · exact (decode_high s pos h (by omega)).2
end Go.Proofs.YthplnkchmelbmaaDoor.W03
