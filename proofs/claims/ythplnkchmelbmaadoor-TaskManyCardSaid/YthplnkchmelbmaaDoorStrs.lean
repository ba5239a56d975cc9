/-
  Slices of strings: when a slice value reads as a list of texts in a world, how the reading is kept by what a call lays and writes, and what a row of the call's own gives. Plain lemmas on worlds, for every program; no condition but those that each theorem bears.
-/
import Derived.WalkKit
import Derived.Below
import Derived.Laws.OwnMore
import Derived.Deep.AppendLies
import Derived.Deep.Draws
import Derived.Lib.Strings
import Derived.Lib.Hide
namespace Go.Proofs.YthplnkchmelbmaaDoor.Strs
open Go Go.RowKit

theorem block_add (a : Addr) (n : Nat) : (a.add n).block = a.block := by unfold Addr.add; split <;> rfl
/-- a text's value -/
def strV (l : List UInt8) : Value := .string ⟨l.toArray⟩
/-- The slice value v reads as the texts L, below block B. -/
def Texts (B : Nat) (w : World) (v : Value) (L : List (List UInt8)) : Prop :=
  ∃ (A : Option Addr) (c : Nat), v = .slice A L.length c ∧ L.length ≤ c ∧ c ≤ maxLen ∧
    (0 < L.length → ∃ ad, A = some ad ∧ ad.block < B ∧ ∀ k, k < L.length → w.cell? (ad.add k) = some (strV (L.getD k [])))
section
variable {B B' : Nat} {w w' : World} {v : Value} {L : List (List UInt8)}
theorem Texts.keep (h : Texts B w v L) (hk : ∀ p : Addr, p.block < B → w'.cell? p = w.cell? p) : Texts B w' v L := by
  obtain ⟨A, c, e, h1, h2, h3⟩ := h
  exact ⟨A, c, e, h1, h2, fun hn => by
    obtain ⟨ad, e2, hb, hc⟩ := h3 hn
    exact ⟨ad, e2, hb, fun k hk2 => (hk _ (by rw [block_add]; exact hb)).trans (hc k hk2)⟩⟩
theorem Texts.more (h : Texts B w v L) (hB : B ≤ B') : Texts B' w v L := by
  obtain ⟨A, c, e, h1, h2, h3⟩ := h
  exact ⟨A, c, e, h1, h2, fun hn => by
    obtain ⟨ad, e2, hb, hc⟩ := h3 hn
    exact ⟨ad, e2, by omega, hc⟩⟩
theorem Texts.below (h : Texts B w v L) (hb : Below B w w') : Texts B w' v L := h.keep fun _ hp => hb.cell hp
theorem Texts.alloc (h : Texts B w v L) (hB : B ≤ w.heap.size) (o : Obj) : Texts B (w.alloc o) v L := h.keep fun p hp => World.cell?_alloc_lt w o p (by omega)
theorem Texts.drewN (h : Texts B w v L) (k : Nat) : Texts B (w.drewN k) v L := h
theorem Texts.len (h : Texts B w v L) : L.length ≤ maxLen := by
  obtain ⟨A, c, e, h1, h2, h3⟩ := h
  omega
/-- the value, written out -/
theorem Texts.form (h : Texts B w v L) : ∃ A c, v = .slice A L.length c ∧ L.length ≤ c ∧ c ≤ maxLen := by
  obtain ⟨A, c, e, h1, h2, h3⟩ := h
  exact ⟨A, c, e, h1, h2⟩
/-- the cell at a place -/
theorem Texts.at_ {A : Option Addr} {n c : Nat} (h : Texts B w (.slice A n c) L) {k : Nat} (hk : k < n) : ∃ ad s, A = some ad ∧ ad.block < B ∧ w.cell? (ad.add k) = some (.string s) ∧ s.data.toList = L.getD k [] := by
  obtain ⟨A', c', e, h1, h2, h3⟩ := h
  injection e with e1 e2 e3
  subst e1 e2 e3
  obtain ⟨ad, e2, hb, hc⟩ := h3 (by omega)
  exact ⟨ad, _, e2, hb, hc k hk, rfl⟩
theorem Texts.count {A : Option Addr} {n c : Nat} (h : Texts B w (.slice A n c) L) : n = L.length ∧ n ≤ c ∧ c ≤ maxLen := by
  obtain ⟨A', c', e, h1, h2, h3⟩ := h
  injection e with e1 e2 e3
  subst e1 e2 e3
  exact ⟨rfl, h1, h2⟩
theorem texts_nil (B : Nat) (w : World) : Texts B w (.slice none 0 0) [] := ⟨none, 0, rfl, Nat.le_refl _, Nat.zero_le _, fun h => absurd h (by simp)⟩
/-- a row of the call's own -/
theorem Texts.of_own {base : Nat} {e : TypeId} {n : Nat} (h : w.ownsRow base e 1 v n (L.map strV)) : Texts w.heap.size w v L := by
  have hl : n = L.length := by have := h.1; simpa using this.symm
  subst hl
  rcases h.2 with ⟨rfl, h0⟩ | ⟨g, cap, cur, rfl, hg, hh, hn, hcap, hsz, htk⟩
  · have : L = [] := by simpa using h0
    subst this
    exact texts_nil _ _
  · refine ⟨_, _, rfl, by omega, by omega, fun hn0 => ⟨_, rfl, ?_, fun k hk => ?_⟩⟩
    · rcases Nat.lt_or_ge g w.heap.size with hlt | hge
      · exact hlt
      · rw [Array.getElem?_eq_none hge] at hh; cases hh
    · have := h.cells (g := g) rfl k (strV (L.getD k [])) (by rw [List.getElem?_map, List.getElem?_eq_getElem hk]; simp [hk])
      exact this
end
end Go.Proofs.YthplnkchmelbmaaDoor.Strs
