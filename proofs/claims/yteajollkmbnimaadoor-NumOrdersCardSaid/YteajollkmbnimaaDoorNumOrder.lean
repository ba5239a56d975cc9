/-
  Plain mathematics for layer 1 (num): the order of texts part by part, digits by their numbers; that it is an order in which two unlike texts are never level. Lists of bytes alone: nothing of the program is read here; no condition but those that each theorem bears.
-/
import Derived.Test.YteajollkmbnimaaDoorNumMath
import Derived.Laws.Strings
namespace Go.Proofs.YteajollkmbnimaaDoor.NumM
open Go

theorem cmpB_self (a : List UInt8) : Lib.compareBytes a a = 0 := by
  induction a with
  | nil => rfl
  | cons c r ih => simp only [Lib.compareBytes, UInt8.lt_irrefl, if_false, ih]
theorem cmpB_zero : ∀ (a b : List UInt8), Lib.compareBytes a b = 0 → a = b
  | [], [], _ => rfl
  | [], _ :: _, h => by simp [Lib.compareBytes] at h
  | _ :: _, [], h => by simp [Lib.compareBytes] at h
  | c :: r, d :: s, h => by
    simp only [Lib.compareBytes] at h
    split at h
    · simp at h
    · split at h
      · simp at h
      · rename_i h1 h2
        have e : c = d := UInt8.le_antisymm (UInt8.not_lt.1 h2) (UInt8.not_lt.1 h1)
        rw [e, cmpB_zero r s h]
theorem cmpB_swap : ∀ (a b : List UInt8), Lib.compareBytes b a = -Lib.compareBytes a b
  | [], [] => rfl
  | [], _ :: _ => rfl
  | _ :: _, [] => rfl
  | c :: r, d :: s => by
    have ih := cmpB_swap r s
    simp only [Lib.compareBytes]
    by_cases h1 : c < d
    · have h2 : ¬ d < c := UInt8.not_lt.2 (UInt8.le_of_lt h1)
      simp only [h1, h2, if_true, if_false]
      rfl
    · by_cases h2 : d < c
      · simp only [h1, h2, if_true, if_false]
      · simp only [h1, h2, if_false, ih]
theorem cmpB_three : ∀ (a b : List UInt8), Lib.compareBytes a b = -1 ∨ Lib.compareBytes a b = 0 ∨ Lib.compareBytes a b = 1
  | [], [] => Or.inr (Or.inl rfl)
  | [], _ :: _ => Or.inl rfl
  | _ :: _, [] => Or.inr (Or.inr rfl)
  | c :: r, d :: s => by
    simp only [Lib.compareBytes]
    split
    · exact Or.inl rfl
    · split
      · exact Or.inr (Or.inr rfl)
      · exact cmpB_three r s
theorem less_cmpB : ∀ (a b : List UInt8), Op.bytesLess a b = decide (Lib.compareBytes a b = -1)
  | [], [] => by decide
  | [], _ :: _ => by simp [Op.bytesLess, Lib.compareBytes]
  | _ :: _, [] => by simp [Op.bytesLess, Lib.compareBytes]
  | c :: r, d :: s => by
    have ih := less_cmpB r s
    simp only [Op.bytesLess, Lib.compareBytes, ih]
    by_cases h1 : c < d
    · simp [h1]
    · by_cases h2 : d < c
      · have : ¬ c = d := fun e => by subst e; exact h1 h2
        simp [h1, h2, this]
      · have e : c = d := UInt8.le_antisymm (UInt8.not_lt.1 h2) (UInt8.not_lt.1 h1)
        subst e
        simp

/-- the part that a text begins with -/
def headPart (l : List UInt8) : List UInt8 := l.take (max 1 (run l))
def cmpNums (x y : List UInt8) : Int :=
  if (Lib.trimLeftB x 48).length = (Lib.trimLeftB y 48).length then Lib.compareBytes (Lib.trimLeftB x 48) (Lib.trimLeftB y 48) else Lib.compareInt (Lib.trimLeftB x 48).length (Lib.trimLeftB y 48).length
def cmpParts (x y : List UInt8) : Int := if dig (x.headD 0) = true ∧ dig (y.headD 0) = true ∧ cmpNums x y ≠ 0 then cmpNums x y else Lib.compareBytes x y
def natF : Nat → List UInt8 → List UInt8 → Int
  | 0, a, b => Lib.compareInt a.length b.length
  | f + 1, a, b => if a = [] ∨ b = [] then Lib.compareInt a.length b.length else if cmpParts (headPart a) (headPart b) = 0 then natF f (a.drop (headPart a).length) (b.drop (headPart b).length) else cmpParts (headPart a) (headPart b)
def nat (a b : List UInt8) : Int := natF a.length a b

theorem part_pos {l : List UInt8} (h : l ≠ []) : 1 ≤ (headPart l).length ∧ (headPart l).length ≤ l.length := by
  have h1 : 1 ≤ l.length := List.length_pos_iff.2 h
  have h2 := run_le l
  simp only [headPart, List.length_take]
  omega
theorem part_head {l : List UInt8} : (headPart l).headD 0 = l.headD 0 := by
  cases l with
  | nil => simp [headPart]
  | cons c r =>
    simp only [headPart]
    obtain ⟨k, hk⟩ : ∃ k, max 1 (run (c :: r)) = k + 1 := ⟨max 1 (run (c :: r)) - 1, by omega⟩
    rw [hk]; rfl
theorem natF_enough : ∀ (f g : Nat) (a b : List UInt8), a.length ≤ f → a.length ≤ g → natF f a b = natF g a b
  | 0, 0, a, b, _, _ => rfl
  | 0, g + 1, a, b, h, _ => by
    have : a = [] := List.length_eq_zero_iff.1 (by omega)
    subst this; simp [natF]
  | f + 1, 0, a, b, _, h => by
    have : a = [] := List.length_eq_zero_iff.1 (by omega)
    subst this; simp [natF]
  | f + 1, g + 1, a, b, hf, hg => by
    simp only [natF]
    split
    · rfl
    · rename_i h
      split
      · have hp := part_pos (l := a) (fun e => h (Or.inl e))
        exact natF_enough f g _ _ (by simp; omega) (by simp; omega)
      · rfl
theorem nat_done {a b : List UInt8} (h : a = [] ∨ b = []) : nat a b = Lib.compareInt a.length b.length := by
  unfold nat
  cases a with
  | nil => simp [natF]
  | cons c r => simp only [List.length_cons, natF, if_pos h]
theorem nat_step {a b : List UInt8} (ha : a ≠ []) (hb : b ≠ []) : nat a b = if cmpParts (headPart a) (headPart b) = 0 then nat (a.drop (headPart a).length) (b.drop (headPart b).length) else cmpParts (headPart a) (headPart b) := by
  have hp := part_pos ha
  unfold nat
  cases a with
  | nil => exact absurd rfl ha
  | cons c r =>
    simp only [List.length_cons, natF]
    rw [if_neg (by simp [hb])]
    split
    · exact natF_enough _ _ _ _ (by simp at hp ⊢; omega) (by simp)
    · rfl
theorem cmpI_swap (x y : Int) : Lib.compareInt y x = -Lib.compareInt x y := by unfold Lib.compareInt; split <;> split <;> (try split) <;> omega
theorem cmpI_zero {x y : Int} : Lib.compareInt x y = 0 ↔ x = y := by unfold Lib.compareInt; split <;> (try split) <;> omega
theorem cmpNums_swap (x y : List UInt8) : cmpNums y x = -cmpNums x y := by
  unfold cmpNums
  by_cases h : (Lib.trimLeftB x 48).length = (Lib.trimLeftB y 48).length
  · rw [if_pos h, if_pos h.symm, cmpB_swap]
  · rw [if_neg h, if_neg (fun e => h e.symm), cmpI_swap]
theorem cmpParts_swap (x y : List UInt8) : cmpParts y x = -cmpParts x y := by
  unfold cmpParts
  rw [cmpNums_swap]
  by_cases h : dig (x.headD 0) = true ∧ dig (y.headD 0) = true ∧ cmpNums x y ≠ 0
  · rw [if_pos h, if_pos ⟨h.2.1, h.1, by have := h.2.2; omega⟩]
  · rw [if_neg h, if_neg (fun e => h ⟨e.2.1, e.1, by have := e.2.2; omega⟩), cmpB_swap]
theorem cmpParts_zero {x y : List UInt8} (h : cmpParts x y = 0) : x = y := by
  unfold cmpParts at h
  split at h
  · rename_i h1; exact absurd h h1.2.2
  · exact cmpB_zero _ _ h
theorem cmpParts_self (x : List UInt8) : cmpParts x x = 0 := by
  have := cmpParts_swap x x
  omega
theorem nat_swap (a b : List UInt8) : nat b a = -nat a b := by
  generalize hn : a.length = n
  induction n using Nat.strongRecOn generalizing a b with
  | _ n ih =>
    by_cases h : a = [] ∨ b = []
    · rw [nat_done h, nat_done h.symm, cmpI_swap]
    · have ha : a ≠ [] := fun e => h (Or.inl e)
      have hb : b ≠ [] := fun e => h (Or.inr e)
      have hp := part_pos ha
      rw [nat_step ha hb, nat_step hb ha, cmpParts_swap (headPart a) (headPart b)]
      by_cases hc : cmpParts (headPart a) (headPart b) = 0
      · rw [if_pos hc, if_pos (by omega)]
        exact ih (a.drop (headPart a).length).length (by simp; omega) _ _ rfl
      · rw [if_neg hc, if_neg (by omega)]
theorem nat_self (a : List UInt8) : nat a a = 0 := by
  have := nat_swap a a
  omega
theorem nat_zero_of : ∀ (n : Nat) (a b : List UInt8), a.length = n → nat a b = 0 → a = b := by
  intro n
  induction n using Nat.strongRecOn with
  | _ n ih =>
    intro a b hn h
    by_cases he : a = [] ∨ b = []
    · rw [nat_done he, cmpI_zero] at h
      have hl : a.length = b.length := by omega
      rcases he with rfl | rfl
      · exact (List.length_eq_zero_iff.1 hl.symm).symm
      · exact List.length_eq_zero_iff.1 hl
    · have ha : a ≠ [] := fun e => he (Or.inl e)
      have hb : b ≠ [] := fun e => he (Or.inr e)
      have hp := part_pos ha
      rw [nat_step ha hb] at h
      split at h
      · rename_i hc
        have e := cmpParts_zero hc
        have e2 := ih (a.drop (headPart a).length).length (by simp; omega) _ _ rfl h
        have pa : a = headPart a ++ a.drop (headPart a).length := by
          conv => lhs; rw [← List.take_append_drop (max 1 (run a)) a]
          have : (headPart a).length = min (max 1 (run a)) a.length := by simp [headPart]
          rw [this]
          simp only [headPart]
          congr 1
          rw [Nat.min_def]; split
          · rfl
          · rw [List.drop_of_length_le (by omega), List.drop_of_length_le (by omega)]
        have pb : b = headPart b ++ b.drop (headPart b).length := by
          conv => lhs; rw [← List.take_append_drop (max 1 (run b)) b]
          have : (headPart b).length = min (max 1 (run b)) b.length := by simp [headPart]
          rw [this]
          simp only [headPart]
          congr 1
          rw [Nat.min_def]; split
          · rfl
          · rw [List.drop_of_length_le (by omega), List.drop_of_length_le (by omega)]
        rw [pa, pb, e2, e]
      · rename_i hc; exact absurd h hc
theorem nat_zero {a b : List UInt8} (h : nat a b = 0) : a = b := nat_zero_of _ a b rfl h
end Go.Proofs.YteajollkmbnimaaDoor.NumM
