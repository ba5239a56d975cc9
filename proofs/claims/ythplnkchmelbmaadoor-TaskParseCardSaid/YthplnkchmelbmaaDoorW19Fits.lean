/-
  Plain mathematics for layer 19 (task): which task a line's pieces tell; lists of bytes alone. No condition but those that each theorem bears.
-/
import Derived.Test.YthplnkchmelbmaaDoorW19Split
namespace Go.Proofs.YthplnkchmelbmaaDoor.M19
open Go
open Go.Proofs.YthplnkchmelbmaaDoor.W09 (Tk)
theorem pieces_one {l : Bytes} {L M : List Bytes} (h : Pieces l L) (h2 : Pieces l M) : L = M := by
  suffices H : ∀ (L M : List Bytes), (∀ x ∈ L, bare x) → (∀ x ∈ M, bare x) → L ≠ [] → M ≠ [] → joined L = joined M → L = M from H L M h.2.1 h2.2.1 h.2.2 h2.2.2 (h.1.trans h2.1.symm)
  intro L
  induction L with
  | nil => intro M _ _ h; exact absurd rfl h
  | cons a r ih =>
    intro M ha hb _ hM e
    match r, M, hM with
    | [], [c], _ => rw [show a = c from e]
    | [], c :: d :: t, _ =>
      have e2 : a = c ++ 32 :: joined (d :: t) := e
      exact absurd (e2 ▸ ha a (by simp)) not_bare
    | x :: r, [c], _ =>
      have e2 : a ++ 32 :: joined (x :: r) = c := e
      exact absurd (e2 ▸ hb c (by simp)) not_bare
    | x :: r, c :: d :: t, _ =>
      obtain ⟨e1, e2⟩ := cut_one (ha a (by simp)) (hb c (by simp)) (show a ++ 32 :: joined (x :: r) = c ++ 32 :: joined (d :: t) from e)
      rw [e1, ih (d :: t) (fun y hy => ha y (by simp [hy])) (fun y hy => hb y (by simp [hy])) (by simp) (by simp) e2]
/-- how many pieces a kind's line has -/
def want (k : Int) : Nat := if has k then 3 else 2
theorem raw_pieces (y : Tk) : ∃ L, Pieces (raw y) L ∧ L.length = want y.kind ∧ L.head? = some (verb y.kind) := by
  unfold want
  cases hn : has y.kind with
  | true =>
    refine ⟨[verb y.kind, shield y.path, shield y.text], ⟨(raw_has hn).symm, fun x hx => ?_, by simp⟩, rfl, rfl⟩
    simp at hx
    rcases hx with rfl | rfl | rfl
    · exact verb_bare _
    · exact shield_bare _
    · exact shield_bare _
  | false =>
    refine ⟨[verb y.kind, shield y.path], ⟨(raw_not hn).symm, fun x hx => ?_, by simp⟩, rfl, rfl⟩
    simp at hx
    rcases hx with rfl | rfl
    · exact verb_bare _
    · exact shield_bare _
/-- no kind below z fits these pieces -/
def NoFit (L : List Bytes) (z : Int) : Prop := ∀ k : Int, 1 ≤ k → k < z → ¬ (L.head? = some (verb k) ∧ L.length = want k)
theorem noFit_next {L : List Bytes} {z : Int} (h : NoFit L z) (h2 : ¬ (L.head? = some (verb z) ∧ L.length = want z)) : NoFit L (z + 1) := fun k h0 hk => by
  by_cases e : k = z
  · rw [e]; exact h2
  · exact h k h0 (by omega)
theorem noFit_end {l : Bytes} {L : List Bytes} (h : NoFit L 7) (hp : Pieces l L) : Ans l zero 3 := Or.inr (Or.inr ⟨rfl, rfl, fun y hy e => by
  obtain ⟨M, h1, h2, h3⟩ := raw_pieces y
  rw [e] at h1
  rw [pieces_one h1 hp] at h2 h3
  exact h y.kind hy.1.1 (by have := hy.1.2; omega) ⟨h3, h2⟩⟩)
theorem fits_two {l a f d : Bytes} {k : Int} {o : Bool} (hp : Pieces l [a, f]) (ha : a = verb k) (hk : Kind k) (hn : has k = false) (h : WordOf f d o) : Split l ⟨k, d, []⟩ o := by
  rw [← hp.1, ha]; exact split_one hk hn h
theorem fits_three {l a f g d t : Bytes} {k : Int} {o p : Bool} (hp : Pieces l [a, f, g]) (ha : a = verb k) (hk : Kind k) (hn : has k = true) (h : WordOf f d o) (h2 : WordOf g t p) : Split l ⟨k, d, t⟩ (o && p) := by
  have hb := hp.2.1 f (by simp)
  rw [← hp.1, ha]; exact split_two hk hn hb h h2
end Go.Proofs.YthplnkchmelbmaaDoor.M19
