/-
  Plain mathematics for layer 3 (name): which names may be, which are plain; an order of texts byte by byte; lists of texts that rise. Lists alone; no condition but those that each theorem bears.
-/
import Derived.Test.YthplnkchmelbmaaDoorKit
import Derived.Lib.Bytealg
import Derived.Laws.Strings
namespace Go.Proofs.YthplnkchmelbmaaDoor.M03
open Go

def badByte (c : UInt8) : Bool := decide (c = 0) || decide (c = 47)
/-- a name's error -/
def check (l : List UInt8) : Int := if l.length = 0 then 5 else if 64 < l.length then 11 else if l.any badByte = true then 11 else if l = [46] ∨ l = [46, 46] then 6 else 0
def plainByte (c : UInt8) : Bool := (decide (97 ≤ c.toNat) && decide (c.toNat ≤ 122)) || (decide (65 ≤ c.toNat) && decide (c.toNat ≤ 90)) || (decide (48 ≤ c.toNat) && decide (c.toNat ≤ 57)) || decide (c = 46) || decide (c = 95) || decide (c = 43) || decide (c = 45)
/-- a plain name -/
def plain (l : List UInt8) : Bool := decide (check l = 0) && decide (l.headD 0 ≠ 45) && l.all plainByte
theorem plain_right {l : List UInt8} (h : plain l = true) : check l = 0 := by
  simp only [plain, Bool.and_eq_true, decide_eq_true_eq] at h; exact h.1.1

/-- a stands ahead of b -/
def lt (a b : List UInt8) : Prop := Lib.compareBytes a b = -1
instance (a b : List UInt8) : Decidable (lt a b) := by unfold lt; infer_instance
theorem cmp_self (a : List UInt8) : Lib.compareBytes a a = 0 := by
  induction a with
  | nil => rfl
  | cons c r ih => simp only [Lib.compareBytes, UInt8.lt_irrefl, if_false, ih]
theorem cmp_zero : ∀ {a b : List UInt8}, Lib.compareBytes a b = 0 → a = b
  | [], [], _ => rfl
  | [], _ :: _, h => by simp [Lib.compareBytes] at h
  | _ :: _, [], h => by simp [Lib.compareBytes] at h
  | c :: r, d :: s, h => by
    simp only [Lib.compareBytes] at h
    split at h
    · simp at h
    · split at h
      · simp at h
      · rename_i h1 h2
        have e : c = d := UInt8.le_antisymm (UInt8.not_lt.1 h2) (UInt8.not_lt.1 h1)
        rw [e, cmp_zero h]
theorem cmp_swap : ∀ (a b : List UInt8), Lib.compareBytes b a = -Lib.compareBytes a b
  | [], [] => rfl
  | [], _ :: _ => rfl
  | _ :: _, [] => rfl
  | c :: r, d :: s => by
    have ih := cmp_swap r s
    simp only [Lib.compareBytes]
    by_cases h1 : c < d
    · have h2 : ¬ d < c := UInt8.not_lt.2 (UInt8.le_of_lt h1)
      simp only [h1, h2, if_true, if_false]
      rfl
    · by_cases h2 : d < c
      · simp only [h1, h2, if_true, if_false]
      · simp only [h1, h2, if_false, ih]
theorem cmp_three : ∀ (a b : List UInt8), Lib.compareBytes a b = -1 ∨ Lib.compareBytes a b = 0 ∨ Lib.compareBytes a b = 1
  | [], [] => Or.inr (Or.inl rfl)
  | [], _ :: _ => Or.inl rfl
  | _ :: _, [] => Or.inr (Or.inr rfl)
  | c :: r, d :: s => by
    simp only [Lib.compareBytes]
    split
    · exact Or.inl rfl
    · split
      · exact Or.inr (Or.inr rfl)
      · exact cmp_three r s
theorem less_cmp : ∀ (a b : List UInt8), Op.bytesLess a b = decide (lt a b)
  | [], [] => by decide
  | [], _ :: _ => by simp [Op.bytesLess, Lib.compareBytes, lt]
  | _ :: _, [] => by simp [Op.bytesLess, Lib.compareBytes, lt]
  | c :: r, d :: s => by
    have ih := less_cmp r s
    simp only [Op.bytesLess, Lib.compareBytes, ih, lt]
    by_cases h1 : c < d
    · simp [h1]
    · by_cases h2 : d < c
      · have : ¬ c = d := fun e => by subst e; exact h1 h2
        simp [h1, h2, this]
      · have e : c = d := UInt8.le_antisymm (UInt8.not_lt.1 h2) (UInt8.not_lt.1 h1)
        subst e
        simp
theorem lt_trans : ∀ {a b c : List UInt8}, lt a b → lt b c → lt a c
  | [], [], _, h, _ => by simp [lt, Lib.compareBytes] at h
  | [], _ :: _, [], _, h => by simp [lt, Lib.compareBytes] at h
  | [], _ :: _, _ :: _, _, _ => rfl
  | _ :: _, [], _, h, _ => by simp [lt, Lib.compareBytes] at h
  | _ :: _, _ :: _, [], _, h => by simp [lt, Lib.compareBytes] at h
  | x :: a, y :: b, z :: c, h1, h2 => by
    have ih := @lt_trans a b c
    unfold lt at *
    simp only [Lib.compareBytes] at *
    by_cases xy : x < y
    · by_cases yz : y < z
      · rw [if_pos (UInt8.lt_trans xy yz)]
      · rw [if_neg yz] at h2
        by_cases zy : z < y
        · rw [if_pos zy] at h2; simp at h2
        · have e : y = z := UInt8.le_antisymm (UInt8.not_lt.1 zy) (UInt8.not_lt.1 yz)
          subst e; rw [if_pos xy]
    · rw [if_neg xy] at h1
      by_cases yx : y < x
      · rw [if_pos yx] at h1; simp at h1
      · have e : x = y := UInt8.le_antisymm (UInt8.not_lt.1 yx) (UInt8.not_lt.1 xy)
        subst e
        rw [if_neg yx] at h1
        by_cases yz : x < z
        · rw [if_pos yz]
        · rw [if_neg yz] at h2 ⊢
          by_cases zy : z < x
          · rw [if_pos zy] at h2; simp at h2
          · rw [if_neg zy] at h2 ⊢
            exact ih h1 h2
theorem lt_irrefl (a : List UInt8) : ¬ lt a a := by unfold lt; rw [cmp_self]; decide
theorem lt_asymm {a b : List UInt8} (h : lt a b) : ¬ lt b a := fun e => lt_irrefl _ (lt_trans h e)
theorem lt_total (a b : List UInt8) : lt a b ∨ a = b ∨ lt b a := by
  rcases cmp_three a b with h | h | h
  · exact Or.inl h
  · exact Or.inr (Or.inl (cmp_zero h))
  · right; right; unfold lt; rw [cmp_swap, h]

/-- texts that rise -/
def Rises (l : List (List UInt8)) : Prop := l.Pairwise lt
theorem rises_nodup {l : List (List UInt8)} (h : Rises l) : l.Nodup := List.Pairwise.imp (fun h e => by subst e; exact lt_irrefl _ h) h
/-- two lists that rise and hold the same texts are one -/
theorem rises_unique : ∀ {l m : List (List UInt8)}, Rises l → Rises m → (∀ x, x ∈ l ↔ x ∈ m) → l = m
  | [], [], _, _, _ => rfl
  | [], b :: m, _, _, h => by have := (h b).2 (by simp); simp at this
  | a :: l, [], _, _, h => by have := (h a).1 (by simp); simp at this
  | a :: l, b :: m, hl, hm, h => by
    unfold Rises at hl hm
    rw [List.pairwise_cons] at hl hm
    have hab : a = b := by
      have h1 := (h a).1 (by simp)
      have h2 := (h b).2 (by simp)
      rcases List.mem_cons.1 h1 with e | e
      · exact e
      · rcases List.mem_cons.1 h2 with e2 | e2
        · exact e2.symm
        · exact absurd (lt_trans (hm.1 a e) (hl.1 b e2)) (lt_irrefl _)
    subst hab
    have h3 : ∀ x, x ∈ l ↔ x ∈ m := by
      intro x
      constructor
      · intro hx
        rcases List.mem_cons.1 ((h x).1 (by simp [hx])) with e | e
        · subst e; exact absurd (hl.1 x hx) (lt_irrefl _)
        · exact e
      · intro hx
        rcases List.mem_cons.1 ((h x).2 (by simp [hx])) with e | e
        · subst e; exact absurd (hm.1 x hx) (lt_irrefl _)
        · exact e
    rw [rises_unique hl.2 hm.2 h3]
theorem sub_len : ∀ (l m : List (List UInt8)), l.Nodup → (∀ x ∈ l, x ∈ m) → l.length ≤ m.length
  | [], m, _, _ => by simp
  | a :: l, m, hd, h => by
    rw [List.nodup_cons] at hd
    have ha := h a (by simp)
    have := sub_len l (m.erase a) hd.2 (fun x hx => (List.mem_erase_of_ne (fun e => by subst e; exact hd.1 hx)).2 (h x (by simp [hx])))
    rw [List.length_erase_of_mem ha] at this
    have hp := List.length_pos_of_mem ha
    simp only [List.length_cons]; omega
/-- where a text stands in a list, and whether it is there -/
def find : List (List UInt8) → List UInt8 → Nat × Bool
  | [], _ => (0, false)
  | a :: l, s => if lt a s then ((find l s).1 + 1, (find l s).2) else (0, decide (a = s))
end Go.Proofs.YthplnkchmelbmaaDoor.M03
