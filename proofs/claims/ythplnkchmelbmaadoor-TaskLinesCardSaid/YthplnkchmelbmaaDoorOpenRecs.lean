/-
  An argument that is a slice of records, opened: it reads as a list of records below the heap's size, where each element's cells read as a record. For every program; the conditions stand in the statement.
-/
import Derived.Test.YthplnkchmelbmaaDoorRecs
import Derived.ProofKit
import Derived.Deep.SlicePairs
import Derived.Lib.SmallJoins
import Derived.SizedLaws
namespace Go.Proofs.YthplnkchmelbmaaDoor.Recs
open Go Go.RowKit Go.ChangeShapes Go.WideShapes Go.Deep
open Go.Proofs.YthplnkchmelbmaaDoor.Strs (strV)

theorem choose_list {α : Type} {P : Nat → α → Prop} : ∀ n : Nat, (∀ i, i < n → ∃ x, P i x) → ∃ L : List α, L.length = n ∧ ∀ i (h : i < L.length), P i L[i]
  | 0, _ => ⟨[], rfl, fun i h => by simp at h⟩
  | n + 1, h => by
    obtain ⟨L, hl, hL⟩ := choose_list n (fun i hi => h i (by omega))
    obtain ⟨x, hx⟩ := h n (by omega)
    refine ⟨L ++ [x], by rw [List.length_append, hl]; rfl, fun i hi => ?_⟩
    rcases Nat.lt_or_ge i L.length with h1 | h1
    · rw [List.getElem_append_left h1]; exact hL i h1
    · have : i = L.length := by rw [List.length_append] at hi; simp at hi; omega
      subst this
      rw [List.getElem_append_right (Nat.le_refl _)]
      simp only [Nat.sub_self, List.getElem_cons_zero]
      rw [hl]; exact hx
theorem open_recs {α : Type} {encA : α → List Value} {sz : Nat} {Q : α → Prop} {H : Type} {enc : TypeId × Value → H} {P : Program} {W : World} {base : Nat} {t e : TypeId} {v : Value} {d : DataW H} {p : List MemPlace}
    (ht : P.underlying t = some (.slice e)) (hc : P.cellsOf e = sz) (h0 : 0 < sz)
    (hel : ∀ (n : Nat) (cs : List Value) (x : DataW H × List MemPlace), cs.length = sz → DataW.trod enc P W 0 (fun _ => true) true n e cs = some x → ∃ r : α, cs = encA r ∧ Q r)
    (hok : Value.okWide P W .any base t v) (h : DataW.Trod enc P W 0 (fun _ => true) true t v d p) (hlt : ∀ x ∈ p, x.block < W.heap.size) :
    ∃ L : List α, Recs encA sz W.heap.size W v L ∧ ∀ r ∈ L, Q r := by
  obtain ⟨a0, len, cap, rfl⟩ := okWide_slice ht hok
  obtain ⟨fuel, hf⟩ := h
  rcases open_slice ht hf with ⟨hcs, hx⟩ | ⟨a, len', cap', m, n, D, Pl, hcs, _, hl, hm, hz, hx, hi⟩
  · simp [Value.cells] at hcs
    obtain ⟨rfl, rfl, rfl⟩ := hcs
    exact ⟨[], recs_nil _ _ _ _, fun r hr => by simp at hr⟩
  · simp [Value.cells] at hcs
    obtain ⟨rfl, rfl, rfl⟩ := hcs
    simp only [Prod.mk.injEq] at hx
    obtain ⟨rfl, rfl⟩ := hx
    simp only [if_true] at hz
    subst hz
    have each : ∀ i, i < len → ∃ r : α, (∀ j, j < sz → W.cell? (a.add (i * sz + j)) = (encA r)[j]?) ∧ Q r := by
      intro i hi2
      obtain ⟨cs', h1, h2⟩ := hi i (by omega)
      rw [hc] at h1
      obtain ⟨_, hlen, hcell⟩ := World.cells?_some h1
      obtain ⟨r, hr, hq⟩ := hel _ _ _ hlen h2
      refine ⟨r, fun j hj => ?_, hq⟩
      have := hcell j hj
      rw [hr, Go.Deep.add_add] at this
      exact this
    obtain ⟨L, hL, hP⟩ := choose_list len each
    refine ⟨L, ⟨some a, m, by rw [hL], by rw [hL]; exact hl, hm, fun hn => ⟨a, rfl, ?_, fun k hk j hj => (hP k hk).1 j hj⟩⟩, fun r hr => ?_⟩
    · rw [hL] at hn
      obtain ⟨b, off, spot⟩ := a
      refine hlt (.cell b off) (List.mem_append_left _ (MemPlace.mem_row.2 ⟨0, ?_, by simp⟩))
      rw [hc]
      exact Nat.mul_pos (by omega) h0
    · obtain ⟨i, hi2, e⟩ := List.getElem_of_mem hr
      rw [← e]; exact (hP i hi2).2
end Go.Proofs.YthplnkchmelbmaaDoor.Recs
