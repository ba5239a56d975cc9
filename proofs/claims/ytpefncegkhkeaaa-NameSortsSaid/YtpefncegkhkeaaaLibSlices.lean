/-
  Go's library on slices of texts, in words of rows that a call owns: slices.Clone, slices.Sort, slices.Compact: out of the laid contracts. No condition but those that each theorem bears.
-/
import Derived.Test.YtpefncegkhkeaaaShelf
import Derived.Test.YtpefncegkhkeaaaLibSorted
import Derived.Test.YtpefncegkhkeaaaStrOwn
import Derived.Sort.OwnSorted
import Derived.Lib.OwnBridge
namespace Go.Proofs.Ytpefncegkhkeaaa.Strs
open Go Go.RowKit Go.Sort

theorem texts_list (L : List (List UInt8)) : L.map strV = L.map encStr := rfl
theorem bytes_map (L : List (List UInt8)) : (L.map fun l => (⟨l.toArray⟩ : ByteArray)).map Value.string = L.map strV := by
  rw [List.map_map]; rfl
theorem clone_texts (v : Value) (L : List (List UInt8)) (B : Nat) (w : World) (h : Texts B w v L) (hn : L.length ≤ 8796093022208) :
    Calls Try.prog 20 #[v] w fun e w' => ∃ v', e = .returned v' ∧ w'.ownsRow w.heap.size 9 1 v' L.length (L.map strV) ∧ Below w.heap.size w w' := by
  obtain ⟨A, c, rfl, h1, h2, h3⟩ := h
  cases A with
  | none =>
    have h0 : L = [] := by
      cases L with
      | nil => rfl
      | cons a L => obtain ⟨ad, e, -⟩ := h3 (by simp); cases e
    subst h0
    refine (Try.slices_Clone_string_nil 0 c w).mono ?_
    rintro e w' ⟨rfl, rfl⟩
    exact ⟨_, rfl, World.ownsRow_nil _ _ _ _, Below.refl _ _⟩
  | some ad =>
    rcases Nat.eq_zero_or_pos L.length with h0 | h0
    · have hL : L = [] := List.length_eq_zero_iff.1 h0
      subst hL
      refine (Try.slices_Clone_string_zero ad c w).mono ?_
      rintro e w' ⟨v', rfl, ho, -, hb⟩
      exact ⟨_, rfl, ho, hb⟩
    · obtain ⟨ad', e, hb, hc⟩ := h3 h0
      obtain rfl : ad = ad' := by injection e
      obtain ⟨b, off, spot⟩ := ad
      have hspot : spot = none := by simpa [Addr.add] using World.cell?_spot (hc 0 h0)
      subst hspot
      have hcc : ∀ j, j < (L.map fun l => (⟨l.toArray⟩ : ByteArray)).length → w.cell? ⟨b, off + j, none⟩ = some (.string ((L.map fun l => (⟨l.toArray⟩ : ByteArray)).getD j ByteArray.empty)) := by
        intro j hj
        rw [List.length_map] at hj
        have := hc j hj
        rw [Addr.add_lit] at this
        have e1 : L.getD j [] = L[j] := by simp [List.getD_eq_getElem?_getD, List.getElem?_eq_getElem hj]
        have e2 : (L.map fun l => (⟨l.toArray⟩ : ByteArray)).getD j ByteArray.empty = ⟨L[j].toArray⟩ := by simp [List.getD_eq_getElem?_getD, List.getElem?_eq_getElem hj]
        rw [this, e1, e2]
        rfl
      have hk := Try.slices_Clone_string b off L.length c _ w (by rw [List.length_map]; exact Nat.le_refl _) (by omega) hcc
      refine hk.mono ?_
      rintro e w' ⟨v', rfl, ho, -, hb⟩
      rw [List.take_of_length_le (by rw [List.length_map]; exact Nat.le_refl _), bytes_map] at ho
      exact ⟨_, rfl, ho, hb⟩
theorem sort_own (v : Value) (L : List (List UInt8)) (n base : Nat) (w : World) (h : w.ownsRow base 9 1 v n (L.map strV)) (hb : base ≤ w.heap.size) (hn : L.length ≤ 8796093022208) :
    Calls Try.prog 21 #[v] w fun e w' => e = .returned (.tuple #[]) ∧ w'.ownsRow base 9 1 v n ((L.mergeSort fun x y => decide (x ≤ y)).map strV) ∧ Below base w w' := by
  have hl : L.length = n := by have := h.1; simpa using this
  rcases h.2 with ⟨rfl, h0⟩ | ⟨g, cap, cur, rfl, hg, hh, h1, h2, h3, h4⟩
  · subst h0
    have hL : L = [] := List.length_eq_zero_iff.1 hl
    subst hL
    refine (Try.slices_Sort_string_none none 0 w).mono ?_
    rintro e w' ⟨rfl, rfl⟩
    exact ⟨rfl, by simpa using h, Below.refl _ _⟩
  · obtain ⟨g', cap', e, hg', hlt, -, -, -, hH⟩ := Lib.holds_of_ownsRow (enc := encStr) h (by simp)
    injection e with e1 e2 e3
    injection e1 with e1
    injection e1 with e1
    subst e1 e3
    subst hl
    refine (Try.slices_Sort_string g 0 cap L w hH hlt (by omega)).mono ?_
    rintro e w' ⟨rfl, k, os, rfl⟩
    exact ⟨rfl, ownsRow_sorted (List.length_mergeSort L) hg hh h1 h2 h3, (Below.refl base w).grown (grownBy_sorted _) hb (fun j hj => by cases hj; exact hg)⟩
theorem compact_own (v : Value) (L : List (List UInt8)) (n base : Nat) (w : World) (h : w.ownsRow base 9 1 v n (L.map strV)) (hn : L.length ≤ 8796093022208) :
    Calls Try.prog 22 #[v] w fun e w' => ∃ v', e = .returned v' ∧ w'.ownsRow base 9 1 v' (Lib.compact L).length ((Lib.compact L).map strV) ∧ Below base w w' := by
  have hl : L.length = n := by have := h.1; simpa using this
  have hcl := Lib.compact_length_le L
  rcases h.2 with ⟨rfl, h0⟩ | ⟨g, cap, cur, rfl, hg, hh, h1, h2, h3, h4⟩
  · subst h0
    have hL : L = [] := List.length_eq_zero_iff.1 hl
    subst hL
    refine (Try.slices_Compact_string_empty none 0 w).mono ?_
    rintro e w' ⟨rfl, rfl⟩
    exact ⟨_, rfl, World.ownsRow_nil _ _ _ _, Below.refl _ _⟩
  · obtain ⟨g', cap', e, hg', hlt, -, -, -, hH⟩ := Lib.holds_of_ownsRow (enc := encStr) h (by simp)
    injection e with e1 e2 e3
    injection e1 with e1
    injection e1 with e1
    subst e1 e3
    subst hl
    unfold maxLen at h2
    refine (Try.slices_Compact_string g 0 cap L w hH (by omega) h1).mono ?_
    rintro e w' ⟨rfl, q, rfl⟩
    have hc := Lib.ownsRow_putRow (q := q) (k := (Lib.compact L).length) (ys := Lib.compact L ++ List.replicate (L.length - (Lib.compact L).length) []) (enc := encStr) h (by simp; omega) hcl
    rw [List.take_left] at hc
    exact ⟨_, rfl, hc, Lib.below_putRow (Below.refl _ _) hg⟩
end Go.Proofs.Ytpefncegkhkeaaa.Strs
