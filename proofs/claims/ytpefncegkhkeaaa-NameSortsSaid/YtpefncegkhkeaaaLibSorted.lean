/-
  Plain mathematics for sorted lists of texts: Lean's order on lists of bytes is the order byte by byte; of a sorted list the first of each run of equals rises and holds the same texts. No condition but those that each theorem bears.
-/
import Derived.Test.YtpefncegkhkeaaaW03Math
import Derived.Lib.SlicesCompact
import Derived.Lib.RowBridge
namespace Go.Proofs.Ytpefncegkhkeaaa.M03
open Go

theorem lt_lex : ∀ (a b : List UInt8), lt a b ↔ a < b
  | [], [] => by simp [lt, Lib.compareBytes]
  | [], _ :: _ => by simp [lt, Lib.compareBytes]
  | _ :: _, [] => by simp [lt, Lib.compareBytes]
  | c :: r, d :: s => by
    have ih := lt_lex r s
    unfold lt at ih ⊢
    rw [List.cons_lt_cons_iff, ← ih]
    simp only [Lib.compareBytes]
    by_cases h1 : c < d
    · simp [h1]
    · by_cases h2 : d < c
      · have : ¬ c = d := fun e => by subst e; exact h1 h2
        simp [h1, h2, this]
      · have e : c = d := UInt8.le_antisymm (UInt8.not_lt.1 h2) (UInt8.not_lt.1 h1)
        subst e
        simp
theorem le_lex (a b : List UInt8) : (a ≤ b) ↔ ¬ lt b a := by
  rw [lt_lex]; exact Iff.rfl
theorem le_refl' (a : List UInt8) : ¬ lt a a := lt_irrefl a
theorem lt_of_not {a b c : List UInt8} (h1 : ¬ lt b a) (h2 : lt b c) : lt a c := by
  rcases lt_total a b with h | h | h
  · exact lt_trans h h2
  · subst h; exact h2
  · exact absurd h h1
theorem not_trans {a b c : List UInt8} (h1 : ¬ lt b a) (h2 : ¬ lt c b) : ¬ lt c a := fun h => h2 (by
  rcases lt_total a b with e | e | e
  · exact lt_trans h e
  · subst e; exact h
  · exact absurd e h1)
/-- Lean's sort sorts -/
theorem sort_pair (l : List (List UInt8)) : (l.mergeSort fun x y => decide (x ≤ y)).Pairwise (fun x y => ¬ lt y x) := by
  have h := List.pairwise_mergeSort (le := fun x y : List UInt8 => decide (x ≤ y))
    (fun a b c h1 h2 => by simp only [decide_eq_true_eq, le_lex] at *; exact not_trans h1 h2)
    (fun a b => by
      simp only [Bool.or_eq_true, decide_eq_true_eq, le_lex]
      rcases lt_total a b with e | e | e
      · exact Or.inl (lt_asymm e)
      · subst e; exact Or.inl (lt_irrefl _)
      · exact Or.inr (lt_asymm e)) l
  exact h.imp (fun {a b} hab => by simpa only [decide_eq_true_eq, le_lex] using hab)
theorem at_bang (zs : List (List UInt8)) (j : Nat) (hj : j < zs.length) : zs.toArray[j]! = zs[j] := by
  rw [getElem!_pos _ j (by simpa using hj)]; simp
/-- of a sorted list the first ones of its runs -/
theorem compact_rises (zs : List (List UInt8)) (h : zs.Pairwise (fun x y => ¬ lt y x)) : Rises (Lib.compact zs) ∧ ∀ x, x ∈ Lib.compact zs ↔ x ∈ zs := by
  have hp : ∀ i j, i ≤ j → j < zs.length → ¬ lt (zs.toArray[j]!) (zs.toArray[i]!) := fun i j hij hj => by
    rcases Nat.lt_or_ge i j with e | e
    · rw [at_bang zs j hj, at_bang zs i (by omega)]; exact List.pairwise_iff_getElem.1 h i j (by omega) hj e
    · have : i = j := by omega
      subst this; exact lt_irrefl _
  have key : ∀ m, m ≤ zs.length → Rises (Lib.compactUpTo zs.toArray m) ∧ ∀ x, x ∈ Lib.compactUpTo zs.toArray m ↔ ∃ j, j < m ∧ zs.toArray[j]! = x := by
    intro m
    induction m with
    | zero => intro _; exact ⟨by simp [Lib.compactUpTo, Rises], fun x => by simp [Lib.compactUpTo]⟩
    | succ m ih =>
      intro hm
      obtain ⟨ih1, ih2⟩ := ih (by omega)
      rw [Lib.compactUpTo_succ]
      by_cases hk : Lib.keeps zs.toArray m = true
      · rw [if_pos hk]
        refine ⟨?_, fun x => ?_⟩
        · unfold Rises at ih1 ⊢
          rw [List.pairwise_append]
          refine ⟨ih1, List.pairwise_singleton _ _, fun a ha b hb => ?_⟩
          obtain ⟨j, hj, rfl⟩ := (ih2 a).1 ha
          obtain rfl := List.mem_singleton.1 hb
          have hm0 : m ≠ 0 := by omega
          have hne : zs.toArray[m]! ≠ zs.toArray[m - 1]! := by
            intro e; rw [Lib.keeps_neg (by omega) e] at hk; exact Bool.noConfusion hk
          have h1 := hp j (m - 1) (by omega) (by omega)
          have h2 := hp (m - 1) m (by omega) (by omega)
          refine lt_of_not h1 ?_
          rcases lt_total (zs.toArray[m - 1]!) (zs.toArray[m]!) with e | e | e
          · exact e
          · exact absurd e.symm hne
          · exact absurd e h2
        · rw [List.mem_append, ih2, List.mem_singleton]
          constructor
          · rintro (⟨j, hj, rfl⟩ | rfl)
            · exact ⟨j, by omega, rfl⟩
            · exact ⟨m, by omega, rfl⟩
          · rintro ⟨j, hj, rfl⟩
            by_cases e : j = m
            · subst e; exact Or.inr rfl
            · exact Or.inl ⟨j, by omega, rfl⟩
      · rw [if_neg hk, List.append_nil]
        refine ⟨ih1, fun x => ?_⟩
        rw [ih2]
        constructor
        · rintro ⟨j, hj, rfl⟩; exact ⟨j, by omega, rfl⟩
        · rintro ⟨j, hj, rfl⟩
          by_cases e : j = m
          · subst e
            have hj0 : j ≠ 0 := fun e => by subst e; exact hk (Lib.keeps_lt_one _ 0 (by omega))
            refine ⟨j - 1, by omega, ?_⟩
            by_cases e2 : zs.toArray[j]! = zs.toArray[j - 1]!
            · exact e2.symm
            · exact absurd (Lib.keeps_pos e2) hk
          · exact ⟨j, by omega, rfl⟩
  obtain ⟨h1, h2⟩ := key zs.length (Nat.le_refl _)
  refine ⟨h1, fun x => (h2 x).trans ⟨?_, fun hx => ?_⟩⟩
  · rintro ⟨j, hj, rfl⟩; rw [at_bang zs j hj]; exact List.getElem_mem hj
  · obtain ⟨j, hj, rfl⟩ := List.getElem_of_mem hx; exact ⟨j, hj, at_bang zs j hj⟩
/-- sorted, and of each run the first one: the list's texts, rising -/
theorem sorted_rises (l : List (List UInt8)) : Rises (Lib.compact (l.mergeSort fun x y => decide (x ≤ y))) ∧ ∀ x, x ∈ Lib.compact (l.mergeSort fun x y => decide (x ≤ y)) ↔ x ∈ l := by
  obtain ⟨h1, h2⟩ := compact_rises _ (sort_pair l)
  exact ⟨h1, fun x => (h2 x).trans (List.mem_mergeSort)⟩
end Go.Proofs.Ytpefncegkhkeaaa.M03
