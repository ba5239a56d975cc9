/-
  Slices of records: when a slice value reads as a list of records (each so many cells) in a world, how the reading is kept by what a call lays and writes, and what a row of the call's own gives. Plain lemmas on worlds, for every program; no condition but those that each theorem bears.
-/
import Derived.Test.YthplnkchmelbmaaDoorStrs
import Derived.ProofKit
namespace Go.Proofs.YthplnkchmelbmaaDoor.Recs
open Go Go.RowKit
open Go.Proofs.YthplnkchmelbmaaDoor.Strs (block_add strV)

/-- The slice value v reads as the records L, each of sz cells, below block B. -/
def Recs {α : Type} (enc : α → List Value) (sz : Nat) (B : Nat) (w : World) (v : Value) (L : List α) : Prop :=
  ∃ (A : Option Addr) (c : Nat), v = .slice A L.length c ∧ L.length ≤ c ∧ c ≤ maxLen ∧
    (0 < L.length → ∃ ad, A = some ad ∧ ad.block < B ∧ ∀ k (h : k < L.length) j, j < sz → w.cell? (ad.add (k * sz + j)) = (enc L[k])[j]?)
section
variable {α : Type} {enc : α → List Value} {sz B B' : Nat} {w w' : World} {v : Value} {L : List α}
theorem Recs.keep (h : Recs enc sz B w v L) (hk : ∀ p : Addr, p.block < B → w'.cell? p = w.cell? p) : Recs enc sz B w' v L := by
  obtain ⟨A, c, e, h1, h2, h3⟩ := h
  exact ⟨A, c, e, h1, h2, fun hn => by
    obtain ⟨ad, e2, hb, hc⟩ := h3 hn
    exact ⟨ad, e2, hb, fun k hk2 j hj => (hk _ (by rw [block_add]; exact hb)).trans (hc k hk2 j hj)⟩⟩
theorem Recs.more (h : Recs enc sz B w v L) (hB : B ≤ B') : Recs enc sz B' w v L := by
  obtain ⟨A, c, e, h1, h2, h3⟩ := h
  exact ⟨A, c, e, h1, h2, fun hn => by
    obtain ⟨ad, e2, hb, hc⟩ := h3 hn
    exact ⟨ad, e2, by omega, hc⟩⟩
theorem Recs.below (h : Recs enc sz B w v L) (hb : Below B w w') : Recs enc sz B w' v L := h.keep fun _ hp => hb.cell hp
theorem Recs.alloc (h : Recs enc sz B w v L) (hB : B ≤ w.heap.size) (o : Obj) : Recs enc sz B (w.alloc o) v L := h.keep fun p hp => World.cell?_alloc_lt w o p (by omega)
theorem Recs.drewN (h : Recs enc sz B w v L) (k : Nat) : Recs enc sz B (w.drewN k) v L := h
theorem Recs.len (h : Recs enc sz B w v L) : L.length ≤ maxLen := by
  obtain ⟨A, c, e, h1, h2, h3⟩ := h
  omega
theorem Recs.form (h : Recs enc sz B w v L) : ∃ A c, v = .slice A L.length c ∧ L.length ≤ c ∧ c ≤ maxLen := by
  obtain ⟨A, c, e, h1, h2, h3⟩ := h
  exact ⟨A, c, e, h1, h2⟩
theorem Recs.at_ {A : Option Addr} {n c : Nat} (h : Recs enc sz B w (.slice A n c) L) {k : Nat} (hk : k < n) : ∃ (ad : Addr) (hl : k < L.length), A = some ad ∧ ad.block < B ∧ ∀ j, j < sz → w.cell? (ad.add (k * sz + j)) = (enc L[k])[j]? := by
  obtain ⟨A', c', e, h1, h2, h3⟩ := h
  injection e with e1 e2 e3
  subst e1 e2 e3
  obtain ⟨ad, e2, hb, hc⟩ := h3 (by omega)
  exact ⟨ad, hk, e2, hb, hc k hk⟩
/-- the same, by plain addresses -/
theorem Recs.flat_ {A : Option Addr} {n c : Nat} (h : Recs enc sz B w (.slice A n c) L) (he : ∀ x : α, (enc x).length = sz) (h0 : 0 < sz) {k : Nat} (hk : k < n) : ∃ (b o : Nat) (hl : k < L.length), A = some ⟨b, o, none⟩ ∧ b < B ∧ ∀ j, j < sz → w.cell? ⟨b, o + k * sz + j, none⟩ = (enc L[k])[j]? := by
  obtain ⟨ad, hl, rfl, hb, hc⟩ := h.at_ hk
  obtain ⟨b, o, sp⟩ := ad
  have hsp : sp = none := by
    obtain ⟨ad2, hl2, e2, -, hc2⟩ := h.at_ (k := 0) (by omega)
    cases e2
    have := hc2 0 h0
    rw [List.getElem?_eq_getElem (by rw [he]; exact h0)] at this
    simpa [Addr.add] using World.cell?_spot this
  subst hsp
  refine ⟨b, o, hl, rfl, hb, fun j hj => ?_⟩
  have := hc j hj
  rw [show (⟨b, o, none⟩ : Addr).add (k * sz + j) = ⟨b, o + k * sz + j, none⟩ by unfold Addr.add; split <;> simp_all <;> omega] at this
  exact this
theorem recs_nil (enc : α → List Value) (sz B : Nat) (w : World) : Recs enc sz B w (.slice none 0 0) [] := ⟨none, 0, rfl, Nat.le_refl _, Nat.zero_le _, fun h => absurd h (by simp)⟩
theorem flat_at (he : ∀ x : α, (enc x).length = sz) : ∀ (L : List α) (k : Nat) (h : k < L.length) (j : Nat), j < sz → (L.flatMap enc)[k * sz + j]? = (enc L[k])[j]?
  | [], k, h, _, _ => by simp at h
  | x :: L, 0, h, j, hj => by
    rw [List.flatMap_cons, Nat.zero_mul, Nat.zero_add, List.getElem?_append_left (by rw [he]; exact hj)]; rfl
  | x :: L, k + 1, h, j, hj => by
    rw [List.flatMap_cons, List.getElem?_append_right (by rw [he, Nat.succ_mul]; omega), he]
    have := flat_at he L k (by simpa using h) j hj
    rw [show (k + 1) * sz + j - sz = k * sz + j by rw [Nat.succ_mul]; omega, this]; rfl
theorem flat_len (he : ∀ x : α, (enc x).length = sz) (L : List α) : (L.flatMap enc).length = L.length * sz := by
  induction L with
  | nil => simp
  | cons x L ih => rw [List.flatMap_cons, List.length_append, ih, he, List.length_cons, Nat.succ_mul]; omega
/-- a row of the call's own -/
theorem Recs.of_own (he : ∀ x : α, (enc x).length = sz) {base : Nat} {e : TypeId} {n : Nat} (hn : n = L.length) (h : w.ownsRow base e sz v n (L.flatMap enc)) : Recs enc sz w.heap.size w v L := by
  subst hn
  rcases h.2 with ⟨rfl, h0⟩ | ⟨g, cap, cur, rfl, hg, hh, hn, hcap, hsz, htk⟩
  · have : L = [] := List.length_eq_zero_iff.1 h0
    subst this
    exact recs_nil _ _ _ _
  · refine ⟨_, _, rfl, by omega, by omega, fun hn0 => ⟨_, rfl, ?_, fun k hk j hj => ?_⟩⟩
    · rcases Nat.lt_or_ge g w.heap.size with hlt | hge
      · exact hlt
      · rw [Array.getElem?_eq_none hge] at hh; cases hh
    · have hf := flat_at he L k hk j hj
      have hlt : j < (enc L[k]).length := by rw [he]; exact hj
      rw [List.getElem?_eq_getElem hlt] at hf ⊢
      have := h.cells (g := g) rfl (k * sz + j) ((enc L[k])[j]) hf
      exact this
theorem Recs.other {g o n c : Nat} (h : Recs enc sz B w (.slice (some ⟨g, o, none⟩) n c) L) (hk : ∀ p : Addr, p.block = g → w'.cell? p = w.cell? p) : Recs enc sz B w' (.slice (some ⟨g, o, none⟩) n c) L := by
  obtain ⟨A, c', e, h1, h2, h3⟩ := h
  injection e with e1 e2 e3
  subst e1 e2 e3
  exact ⟨_, _, rfl, h1, h2, fun hn => by
    obtain ⟨ad, e2, hb, hc⟩ := h3 hn
    cases e2
    exact ⟨_, rfl, hb, fun k hk2 j hj => (hk _ (by rw [block_add])).trans (hc k hk2 j hj)⟩⟩
/-- all the cells of a slice of records, one by one -/
theorem Recs.news {A : Option Addr} {n c : Nat} (h : Recs enc sz B w (.slice A n c) L) (he : ∀ x : α, (enc x).length = sz) (h0 : 0 < sz) (hn : 0 < n) : ∃ b o : Nat, A = some ⟨b, o, none⟩ ∧ b < B ∧ ∀ j u, (L.flatMap enc)[j]? = some u → w.cell? ((⟨b, o, none⟩ : Addr).add j) = some u := by
  obtain ⟨b, o, hl0, rfl, hb, -⟩ := h.flat_ he h0 hn
  have hln : n = L.length := by obtain ⟨A', c', e, _⟩ := h; injection e
  refine ⟨b, o, rfl, hb, fun j u hj => ?_⟩
  have hjl : j < L.length * sz := by
    rw [← flat_len he L]
    rcases Nat.lt_or_ge j (L.flatMap enc).length with hlt | hge
    · exact hlt
    · rw [List.getElem?_eq_none hge] at hj; cases hj
  have hk : j / sz < n := by rw [hln]; exact (Nat.div_lt_iff_lt_mul h0).2 hjl
  obtain ⟨b', o', hl, e, -, hc⟩ := h.flat_ he h0 hk
  cases e
  have hi : j % sz < sz := Nat.mod_lt _ h0
  have h1 := hc (j % sz) hi
  have h2 := flat_at he L (j / sz) hl (j % sz) hi
  have e2 : j / sz * sz + j % sz = j := by rw [Nat.mul_comm]; exact Nat.div_add_mod j sz
  rw [e2, hj] at h2
  rw [show (⟨b, o, none⟩ : Addr).add j = ⟨b, o + j / sz * sz + j % sz, none⟩ by unfold Addr.add; split <;> simp_all <;> omega]
  rw [h1, ← h2]
end
/-- the cells of a block just laid -/
theorem cells_new (w : World) (cs : List Value) (t : TypeId) : ∀ j u, cs[j]? = some u → (w.alloc (.cells cs.toArray t)).cell? ((⟨w.heap.size, 0, none⟩ : Addr).add j) = some u := by
  intro j u hj
  have hadd : (⟨w.heap.size, 0, none⟩ : Addr).add j = ⟨w.heap.size, j, none⟩ := by unfold Addr.add; split <;> simp_all
  rw [hadd]
  simp [hj]
end Go.Proofs.YthplnkchmelbmaaDoor.Recs
