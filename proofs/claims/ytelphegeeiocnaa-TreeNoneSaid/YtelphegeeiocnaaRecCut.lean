/-
  Slices of records: parts of one (the first ones, those from a place on, those between), as the walk spells the cut's value. Plain lemmas on worlds, for every program; no condition but those that each theorem bears.
-/
import Derived.Test.YtelphegeeiocnaaRecs
namespace Go.Proofs.Ytelphegeeiocnaa.Recs
open Go Go.RowKit
open Go.Proofs.Ytelphegeeiocnaa.Strs (block_add strV)
section
variable {α : Type} {enc : α → List Value} {sz : Nat} {B : Nat} {w : World} {A : Option Addr} {n c : Nat} {L : List α}
theorem Recs.count (h : Recs enc sz B w (.slice A n c) L) : n = L.length ∧ n ≤ c ∧ c ≤ maxLen := by
  obtain ⟨A', c', e, h1, h2, h3⟩ := h
  injection e with e1 e2 e3
  subst e1 e2 e3
  exact ⟨rfl, h1, h2⟩
/-- no record: whatever the address -/
theorem recs_none (enc : α → List Value) (sz B : Nat) (w : World) (A : Option Addr) {c : Nat} (hc : c ≤ maxLen) : Recs enc sz B w (.slice A 0 c) [] := ⟨A, c, rfl, Nat.zero_le _, hc, fun h => absurd h (by simp)⟩
theorem Recs.take (h : Recs enc sz B w (.slice A n c) L) {k : Nat} (hk : k ≤ n) : Recs enc sz B w (.slice A k c) (L.take k) := by
  obtain ⟨hn, hc1, hc2⟩ := h.count
  subst hn
  obtain ⟨A0, c0, e, h1, h2, h3⟩ := h
  cases e
  have hl : (L.take k).length = k := by rw [List.length_take]; omega
  refine ⟨A, c, by rw [hl], by omega, hc2, fun h0 => ?_⟩
  obtain ⟨ad, rfl, hb, hc⟩ := h3 (by omega)
  refine ⟨ad, rfl, hb, fun i hi j hj => ?_⟩
  rw [hc i (by omega) j hj, List.getElem_take]
theorem Recs.drop (h : Recs enc sz B w (.slice A n c) L) (he : ∀ x : α, (enc x).length = sz) (h0 : 0 < sz) {k : Nat} (hk : k ≤ n) : Recs enc sz B w (.slice (A.map fun x => x.add (k * sz)) (n - k) (c - k)) (L.drop k) := by
  obtain ⟨hn, hc1, hc2⟩ := h.count
  have hfl : 0 < n → ∃ b o, A = some ⟨b, o, none⟩ := fun hp => by
    obtain ⟨b, o, _, e, _⟩ := h.flat_ he h0 hp
    exact ⟨b, o, e⟩
  subst hn
  obtain ⟨A0, c0, e, h1, h2, h3⟩ := h
  cases e
  refine ⟨_, c - k, by rw [List.length_drop], by rw [List.length_drop]; omega, by omega, fun hp => ?_⟩
  rw [List.length_drop] at hp
  obtain ⟨b, o, rfl⟩ := hfl (by omega)
  obtain ⟨ad, e, hb, hc⟩ := h3 (by omega)
  cases e
  refine ⟨_, rfl, by rw [block_add]; exact hb, fun i hi j hj => ?_⟩
  rw [List.length_drop] at hi
  have := hc (k + i) (by omega) j hj
  rw [Addr.add_lit] at this
  show w.cell? (((⟨b, o, none⟩ : Addr).add (k * sz)).add (i * sz + j)) = _
  rw [Addr.add_lit, Addr.add_lit, show o + k * sz + (i * sz + j) = o + ((k + i) * sz + j) by rw [Nat.add_mul]; omega, this]
  congr 2
  simp
theorem Recs.drop_all (h : Recs enc sz B w (.slice A n c) L) {k : Nat} (hk : k ≤ n) (hkc : c = k) {m : Nat} (hm : m ≤ maxLen) : Recs enc sz B w (.slice A (n - k) m) (L.drop k) := by
  obtain ⟨hn, hc1, hc2⟩ := h.count
  have e1 : n - k = 0 := by omega
  have e2 : L.drop k = [] := List.drop_of_length_le (by omega)
  rw [e1, e2]
  exact recs_none _ _ _ _ _ hm
/-- those between two places, the address moved -/
theorem Recs.mid (h : Recs enc sz B w (.slice A n c) L) (he : ∀ x : α, (enc x).length = sz) (h0 : 0 < sz) {i j : Nat} (hij : i ≤ j) (hj : j ≤ n) : Recs enc sz B w (.slice (A.map fun x => x.add (i * sz)) (j - i) (c - i)) ((L.take j).drop i) := (h.take hj).drop he h0 hij
theorem Recs.mid_all (h : Recs enc sz B w (.slice A n c) L) {i j : Nat} (hij : i ≤ j) (hj : j ≤ n) (hkc : c = i) {m : Nat} (hm : m ≤ maxLen) : Recs enc sz B w (.slice A (j - i) m) ((L.take j).drop i) := (h.take hj).drop_all hij hkc hm
/-- one alone, at its place -/
theorem Recs.one (h : Recs enc sz B w (.slice A n c) L) (he : ∀ x : α, (enc x).length = sz) (h0 : 0 < sz) {i : Nat} (hj : i + 1 ≤ n) : Recs enc sz B w (.slice (A.map fun x => x.add (i * sz)) 1 (c - i)) ((L.take (i + 1)).drop i) := by
  have := h.mid he h0 (Nat.le_succ i) hj
  rwa [show i + 1 - i = 1 by omega] at this
theorem Recs.one_last {i : Nat} (h : Recs enc sz B w (.slice A n (i + 1)) L) (he : ∀ x : α, (enc x).length = sz) (h0 : 0 < sz) (hj : i + 1 ≤ n) : Recs enc sz B w (.slice (A.map fun x => x.add (i * sz)) 1 1) ((L.take (i + 1)).drop i) := by
  have := h.one he h0 hj
  rwa [show i + 1 - i = 1 by omega] at this
theorem Recs.drop_last {k : Nat} (h : Recs enc sz B w (.slice A n k) L) (hk : k ≤ n) : Recs enc sz B w (.slice A 0 0) (L.drop k) := by
  have h2 := h.count
  have := h.drop_all hk rfl (Nat.zero_le maxLen)
  rwa [show n - k = 0 by omega] at this
theorem Recs.void {i : Nat} {A' : Option Addr} {c' : Nat} (hc : c' ≤ maxLen) : Recs enc sz B w (.slice A' 0 c') ((L.take i).drop i) := by
  rw [List.drop_of_length_le (by rw [List.length_take]; omega)]
  exact recs_none _ _ _ _ _ hc
end
end Go.Proofs.Ytelphegeeiocnaa.Recs
