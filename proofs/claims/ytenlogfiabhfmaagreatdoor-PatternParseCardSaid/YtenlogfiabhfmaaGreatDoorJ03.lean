/-
  Texts joined, in build order, each with its own comment and its own conditions: W13RefMath.
-/
import Derived.Test.YtenlogfiabhfmaaGreatDoorJ01
/-
  Layer 13 (class), plain mathematics: items by absolute places, as the document's own Parse goes through them. No condition but those that each theorem bears.
-/
namespace Go.Proofs.YtenlogfiabhfmaaGreatDoor.M13
open Go

/-- items and their end, by absolute places -/
def itemsA (s : List UInt8) : Nat → Nat → Bool → (Nat → Bool) → (Nat → Bool) × Nat × Int
  | 0, _, _, _ => (fun _ => false, 0, 3)
  | fuel + 1, a, fst, f =>
    if s.length ≤ a then (fun _ => false, 0, 3)
    else if s.getD a 0 = 93 ∧ fst = false then (f, a + 1, 0)
    else if (item (s.drop a)).2.1 ≠ 0 then (fun _ => false, 0, (item (s.drop a)).2.1)
    else itemsA s fuel (a + (item (s.drop a)).1) false (fun i => f i || (item (s.drop a)).2.2 i)
theorem item_pos' {s : List UInt8} (h : (item s).2.1 = 0) : 0 < (item s).1 := by
  revert h
  unfold item
  split
  · simp
  · rename_i hn
    split
    · split
      · simp
      · simp only; omega
    · split
      · simp only; omega
      · split
        · simp
        · split
          · simp
          · split
            · simp
            · simp only; omega
theorem itemsA_is (s : List UInt8) (o : Nat) : ∀ (fuel k : Nat) (f : Nat → Bool), itemsA s fuel (o + k) (decide (k = 0)) f = ((items (s.drop o) fuel k f).1, (if (items (s.drop o) fuel k f).2.2 = 0 then o + (items (s.drop o) fuel k f).2.1 else 0), (items (s.drop o) fuel k f).2.2)
  | 0, k, f => rfl
  | fuel + 1, k, f => by
    unfold itemsA items
    have hlen : (s.drop o).length = s.length - o := List.length_drop
    have hget : (s.drop o).getD k 0 = s.getD (o + k) 0 := by rw [List.getD_eq_getElem?_getD, List.getD_eq_getElem?_getD, List.getElem?_drop]
    have hdrop : (s.drop o).drop k = s.drop (o + k) := by rw [List.drop_drop]
    rw [hget, hdrop, hlen]
    obtain ⟨⟨n, er, G⟩, hI⟩ : ∃ r, item (s.drop (o + k)) = r := ⟨_, rfl⟩
    have hpos := @item_pos' (s.drop (o + k))
    rw [hI] at hpos ⊢
    simp only at hpos ⊢
    by_cases h1 : s.length ≤ o + k
    · have g1 : s.length - o ≤ k := by omega
      simp only [if_pos h1, if_pos g1]; rfl
    · have g1 : ¬ s.length - o ≤ k := by omega
      simp only [if_neg h1, if_neg g1]
      by_cases h2 : s.getD (o + k) 0 = 93 ∧ 0 < k
      · have g2 : s.getD (o + k) 0 = 93 ∧ decide (k = 0) = false := ⟨h2.1, by simp; omega⟩
        simp only [if_pos h2, if_pos g2]; rfl
      · have g2 : ¬ (s.getD (o + k) 0 = 93 ∧ decide (k = 0) = false) := by rintro ⟨a, b⟩; exact h2 ⟨a, by simpa [Nat.pos_iff_ne_zero] using b⟩
        simp only [if_neg h2, if_neg g2]
        by_cases h3 : er ≠ 0
        · simp only [if_pos h3, if_neg h3]
        · simp only [if_neg h3]
          have hp : 0 < n := hpos (by simpa using h3)
          have := itemsA_is s o fuel (k + n) (fun i => f i || G i)
          rw [← Nat.add_assoc, decide_eq_false (by omega : ¬ k + n = 0)] at this
          exact this
section
variable {S : List UInt8} {a k : Nat} {fst : Bool} {F G : Nat → Bool}
theorem itemsA_bad {er : Int} (hne : ¬ (S.getD a 0 = 93 ∧ fst = false)) (hi : item (S.drop a) = (0, er, G)) (her : er ≠ 0) (h3 : S.length ≤ a → er = 3) : itemsA S (k + 1) a fst F = (fun _ => false, 0, er) := by
  unfold itemsA
  by_cases h : S.length ≤ a
  · rw [if_pos h, h3 h]
  · rw [if_neg h, if_neg hne, hi, if_pos her]
theorem itemsA_on {n : Nat} (hlt : a < S.length) (hne : ¬ (S.getD a 0 = 93 ∧ fst = false)) (hi : item (S.drop a) = (n, 0, G)) : itemsA S (k + 1) a fst F = itemsA S k (a + n) false (fun i => F i || G i) := by
  rw [itemsA, if_neg (by omega), if_neg hne, hi, if_neg (by simp)]
theorem itemsA_end (hlt : a < S.length) (h93 : S.getD a 0 = 93) : itemsA S (k + 1) a false F = (F, a + 1, 0) := by
  rw [itemsA, if_neg (by omega), if_pos ⟨h93, rfl⟩]
end
/-- what Parse makes of the items -/
def fin (neg : Bool) (R : (Nat → Bool) × Nat × Int) : (Nat → Bool) × Nat × Int :=
  if R.2.2 ≠ 0 then (fun _ => false, 0, R.2.2) else if neg = true then (fun i => !R.1 i, R.2.1, 0) else (R.1, R.2.1, 0)
theorem fin_bad {neg : Bool} {er : Int} {F : Nat → Bool} {n : Nat} (h : er ≠ 0) : fin neg (F, n, er) = (fun _ => false, 0, er) := if_pos h
theorem fin_neg {F : Nat → Bool} {n : Nat} : fin true (F, n, 0) = (fun i => !F i, n, 0) := rfl
theorem fin_ok {F : Nat → Bool} {n : Nat} : fin false (F, n, 0) = (F, n, 0) := rfl
theorem parse_neg (q : List UInt8) : parse (91 :: 94 :: q) = fin true (itemsA (91 :: 94 :: q) (q.length + 1) 2 true (fun _ => false)) := by
  have h := itemsA_is (91 :: 94 :: q) 2 (q.length + 1) 0 (fun _ => false)
  rw [Nat.add_zero, show decide (0 = 0) = true from rfl, show (91 :: 94 :: q).drop 2 = q from rfl] at h
  rw [h]
  unfold parse
  simp only [if_pos]
  by_cases he : (items q (q.length + 1) 0 (fun _ => false)).2.2 ≠ 0
  · rw [if_pos he, fin_bad he]
  · have he2 : (items q (q.length + 1) 0 (fun _ => false)).2.2 = 0 := by simpa using he
    rw [if_neg he, if_pos he2, he2]; rfl
theorem parse_pos (r : List UInt8) (h94 : r.getD 0 0 ≠ 94) : parse (91 :: r) = fin false (itemsA (91 :: r) (r.length + 1) 1 true (fun _ => false)) := by
  have h := itemsA_is (91 :: r) 1 (r.length + 1) 0 (fun _ => false)
  rw [Nat.add_zero, show decide (0 = 0) = true from rfl, show (91 :: r).drop 1 = r from rfl] at h
  rw [h]
  unfold parse
  match r, h94 with
  | [], _ => rfl
  | d :: q, h94 =>
    have hd : ¬ d = 94 := h94
    simp only [if_pos]
    rw [if_neg hd]
    by_cases he : (items (d :: q) ((d :: q).length + 1) 0 (fun _ => false)).2.2 ≠ 0
    · rw [if_pos he, fin_bad he]
    · have he2 : (items (d :: q) ((d :: q).length + 1) 0 (fun _ => false)).2.2 = 0 := by simpa using he
      rw [if_neg he, if_pos he2, he2]; rfl

/-! an item, way by way -/
section
variable {D : List UInt8} {c c2 : UInt8} {m m2 : Nat} {l l2 : Bool}
theorem item_none (h : one D = (c, 0, l)) : item D = (0, 3, fun _ => false) := by unfold item; rw [h]; rfl
theorem item_lj (h : one D = (c, m, true)) (hm : m ≠ 0) (hj : joined (D.drop m) = true) : item D = (0, 3, fun _ => false) := by
  unfold item; rw [h]; simp only; rw [if_neg hm, if_pos trivial, if_pos hj]
theorem item_l (h : one D = (c, m, true)) (hm : m ≠ 0) (hj : joined (D.drop m) = false) : item D = (m, 0, namedF c) := by
  unfold item; rw [h]; simp only; rw [if_neg hm, if_pos trivial, if_neg (by rw [hj]; simp)]
theorem item_p (h : one D = (c, m, false)) (hm : m ≠ 0) (hj : joined (D.drop m) = false) : item D = (m, 0, fun i => decide (i = c.toNat)) := by
  unfold item; rw [h]; simp only; rw [if_neg hm, if_neg (by simp), if_pos hj]
theorem item_n2 (h : one D = (c, m, false)) (hm : m ≠ 0) (hj : joined (D.drop m) = true) (h2 : one (D.drop (m + 1)) = (c2, 0, l2)) : item D = (0, 3, fun _ => false) := by
  unfold item; rw [h]; simp only; rw [if_neg hm, if_neg (by simp), if_neg (by rw [hj]; simp), h2]; rfl
theorem item_l2 (h : one D = (c, m, false)) (hm : m ≠ 0) (hj : joined (D.drop m) = true) (h2 : one (D.drop (m + 1)) = (c2, m2, true)) (hm2 : m2 ≠ 0) : item D = (0, 3, fun _ => false) := by
  unfold item; rw [h]; simp only; rw [if_neg hm, if_neg (by simp), if_neg (by rw [hj]; simp), h2]; simp only; rw [if_neg hm2, if_pos trivial]
theorem item_lt (h : one D = (c, m, false)) (hm : m ≠ 0) (hj : joined (D.drop m) = true) (h2 : one (D.drop (m + 1)) = (c2, m2, false)) (hm2 : m2 ≠ 0) (hlt : c2.toNat < c.toNat) : item D = (0, 4, fun _ => false) := by
  unfold item; rw [h]; simp only; rw [if_neg hm, if_neg (by simp), if_neg (by rw [hj]; simp), h2]; simp only; rw [if_neg hm2, if_neg (by simp), if_pos hlt]
theorem item_ok (h : one D = (c, m, false)) (hm : m ≠ 0) (hj : joined (D.drop m) = true) (h2 : one (D.drop (m + 1)) = (c2, m2, false)) (hm2 : m2 ≠ 0) (hlt : ¬ c2.toNat < c.toNat) : item D = (m + 1 + m2, 0, between c.toNat c2.toNat) := by
  unfold item; rw [h]; simp only; rw [if_neg hm, if_neg (by simp), if_neg (by rw [hj]; simp), h2]; simp only; rw [if_neg hm2, if_neg (by simp), if_neg hlt]
end
end Go.Proofs.YtenlogfiabhfmaaGreatDoor.M13
