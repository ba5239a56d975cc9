/-
  Slices of texts: the first ones left out, as the walk spells the cut's value. Plain lemmas on worlds, for every program; no condition but those that each theorem bears.
-/
import Derived.Test.YtoahbkmngmapaaaDoorStrs
namespace Go.Proofs.YtoahbkmngmapaaaDoor.Strs
open Go Go.RowKit

/-- the first ones left out, as the walk spells the cut's value -/
theorem Texts.drop {B : Nat} {w : World} {A : Option Addr} {n c k : Nat} {L : List (List UInt8)} (h : Texts B w (.slice A n c) L) (hk : k ≤ n) : Texts B w (.slice (A.map fun x => x.add k) (n - k) (c - k)) (L.drop k) := by
  obtain ⟨hn, hc1, hc2⟩ := h.count
  subst hn
  obtain ⟨A0, c0, e, h1, h2, h3⟩ := h
  cases e
  refine ⟨_, c - k, by rw [List.length_drop], by rw [List.length_drop]; omega, by omega, fun h0 => ?_⟩
  rw [List.length_drop] at h0
  obtain ⟨ad, rfl, hb, hc⟩ := h3 (by omega)
  refine ⟨ad.add k, rfl, by rw [block_add]; exact hb, fun j hj => ?_⟩
  rw [List.length_drop] at hj
  have := hc (k + j) (by omega)
  rw [show (ad.add k).add j = ad.add (k + j) by obtain ⟨b, o, s⟩ := ad; rw [show s = none by simpa [Addr.add] using World.cell?_spot (hc 0 (by omega)), Addr.add_lit, Addr.add_lit, Addr.add_lit, Nat.add_assoc]]
  rw [this]
  congr 2
  simp
theorem Texts.drop_all {B : Nat} {w : World} {A : Option Addr} {n k : Nat} {L : List (List UInt8)} (h : Texts B w (.slice A n k) L) (hk : k ≤ n) : Texts B w (.slice A (n - k) 0) (L.drop k) := by
  obtain ⟨hn, hc1, hc2⟩ := h.count
  subst hn
  obtain rfl : k = L.length := by omega
  refine ⟨A, 0, by rw [List.length_drop], by rw [List.length_drop]; omega, Nat.zero_le _, fun h0 => ?_⟩
  rw [List.length_drop] at h0
  omega
end Go.Proofs.YtoahbkmngmapaaaDoor.Strs
