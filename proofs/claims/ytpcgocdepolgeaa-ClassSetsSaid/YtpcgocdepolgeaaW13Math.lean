/-
  Layer 13 (class), plain mathematics: sets of bytes as 256 truths and as texts; which set a text begins with. No condition but those that each theorem bears.
-/
import Derived.Test.YtpcgocdepolgeaaKit
namespace Go.Proofs.Ytpcgocdepolgeaa.M13
open Go

def bit (b : Bool) : UInt8 := if b then 49 else 48
/-- the text of 256 truths -/
def textOf (f : Nat → Bool) : List UInt8 := (List.range 256).map fun i => bit (f i)
def good (s : List UInt8) : Bool := decide (s.length = 256) && s.all (fun c => decide (c = 48) || decide (c = 49))
/-- the bytes of a set -/
def has (s : List UInt8) (i : Nat) : Bool := good s && decide (s.getD i 0 = 49)

theorem textOf_congr {f g : Nat → Bool} (h : ∀ i, i < 256 → f i = g i) : textOf f = textOf g := by
  unfold textOf
  refine List.map_congr_left fun i hi => ?_
  rw [h i (List.mem_range.1 hi)]
theorem textOf_len (f : Nat → Bool) : (textOf f).length = 256 := by unfold textOf; rw [List.length_map, List.length_range]
theorem textOf_get (f : Nat → Bool) {i : Nat} (h : i < 256) : (textOf f)[i]? = some (bit (f i)) := by
  unfold textOf
  rw [List.getElem?_map, List.getElem?_range h]; rfl
theorem bit_is (b : Bool) : bit b = 48 ∨ bit b = 49 := by cases b <;> simp [bit]
theorem bit_one (b : Bool) : decide (bit b = 49) = b := by cases b <;> rfl
theorem textOf_good (f : Nat → Bool) : good (textOf f) = true := by
  unfold good
  rw [textOf_len]
  simp only [decide_true, Bool.true_and, List.all_eq_true]
  intro c hc
  unfold textOf at hc
  obtain ⟨i, _, rfl⟩ := List.mem_map.1 hc
  rcases bit_is (f i) with h | h <;> rw [h] <;> rfl
theorem has_text (f : Nat → Bool) {i : Nat} (h : i < 256) : has (textOf f) i = f i := by
  unfold has
  rw [textOf_good, List.getD_eq_getElem?_getD, textOf_get f h, Option.getD_some, bit_one, Bool.true_and]
theorem has_far {s : List UInt8} {i : Nat} (h : 256 ≤ i) : has s i = false := by
  unfold has
  by_cases e : s.length = 256
  · rw [List.getD_eq_getElem?_getD, List.getElem?_eq_none (by omega)]; simp
  · unfold good; rw [decide_eq_false e]; rfl
theorem has_bad {s : List UInt8} (h : good s = false) (i : Nat) : has s i = false := by unfold has; rw [h]; rfl
theorem has_good {s : List UInt8} (h : good s = true) (i : Nat) : has s i = decide (s.getD i 0 = 49) := by unfold has; rw [h]; rfl
theorem good_len {s : List UInt8} (h : good s = true) : s.length = 256 := by
  unfold good at h
  exact of_decide_eq_true (Bool.and_eq_true_iff.1 h).1
theorem good_at {s : List UInt8} (h : good s = true) {i : Nat} (hi : i < 256) : s[i]? = some (bit (has s i)) := by
  have hl := good_len h
  have hm : s[i]? = some (s[i]'(by omega)) := List.getElem?_eq_getElem _
  rw [has_good h, List.getD_eq_getElem?_getD, hm, Option.getD_some]
  unfold good at h
  have h2 := List.all_eq_true.1 (Bool.and_eq_true_iff.1 h).2 (s[i]'(by omega)) (List.getElem_mem _)
  generalize s[i]'(by omega) = c at h2 ⊢
  by_cases e : c = 49
  · subst e; rfl
  · rw [decide_eq_false e] at h2 ⊢
    rw [Bool.or_false] at h2
    rw [of_decide_eq_true h2]; rfl
theorem good_text {s : List UInt8} (h : good s = true) : s = textOf (has s) := by
  apply List.ext_getElem?
  intro i
  by_cases hi : i < 256
  · rw [good_at h hi, textOf_get _ hi]
  · rw [List.getElem?_eq_none (by rw [good_len h]; omega), List.getElem?_eq_none (by rw [textOf_len]; omega)]
theorem counts_le : ∀ s : List UInt8, s.count 48 + s.count 49 ≤ s.length
  | [] => Nat.le_refl _
  | c :: s => by
    have := counts_le s
    rw [List.count_cons, List.count_cons, List.length_cons]
    by_cases e : c = 48
    · subst e; simp; omega
    · by_cases e2 : c = 49
      · subst e2; simp; omega
      · simp [e, e2]; omega
theorem counts_all : ∀ s : List UInt8, decide (s.count 48 + s.count 49 = s.length) = s.all (fun c => decide (c = 48) || decide (c = 49))
  | [] => rfl
  | c :: s => by
    have ih := counts_all s
    have hle := counts_le s
    rw [List.count_cons, List.count_cons, List.length_cons, List.all_cons, ← ih]
    by_cases e : c = 48
    · subst e
      simp only [beq_self_eq_true, if_true, decide_true, Bool.true_or, Bool.true_and]
      rw [show ((48 : UInt8) == 49) = false from rfl]
      simp only [Bool.false_eq_true, if_false, Nat.add_zero]
      exact decide_eq_decide.2 (by omega)
    · by_cases e2 : c = 49
      · subst e2
        simp only [beq_self_eq_true, if_true, decide_true, Bool.or_true, Bool.true_and]
        rw [show ((49 : UInt8) == 48) = false from rfl]
        simp only [Bool.false_eq_true, if_false, Nat.add_zero]
        exact decide_eq_decide.2 (by omega)
      · rw [decide_eq_false e, decide_eq_false e2, show (c == 48) = false from beq_eq_false_iff_ne.2 e, show (c == 49) = false from beq_eq_false_iff_ne.2 e2]
        simp only [Bool.false_eq_true, if_false, Nat.add_zero, Bool.or_self, Bool.false_and]
        exact decide_eq_false (by omega)
/-- what the program asks of a set -/
theorem good_counts (s : List UInt8) : (decide (s.length = 256) && decide (s.count 48 + s.count 49 = s.length)) = good s := by unfold good; rw [counts_all]

/-- how many bytes belong to a set -/
def count (s : List UInt8) : Nat := if good s then s.count 49 else 0
theorem countP_far (s : List UInt8) : (List.range 256).countP (has s) = count s := by
  unfold count
  by_cases h : good s = true
  · rw [if_pos h]
    conv => rhs; rw [good_text h]
    unfold textOf
    rw [List.count_eq_countP, List.countP_map]
    congr 1
    funext i
    show has s i = (bit (has s i) == 49)
    cases has s i <;> rfl
  · rw [if_neg h]
    refine List.countP_eq_zero.2 fun i _ => ?_
    rw [has_bad (by simpa using h)]; simp

/-! the letters' sets -/
def between (a b i : Nat) : Bool := decide (a ≤ i) && decide (i ≤ b)
def letter (c : UInt8) : Bool := decide (c = 100) || decide (c = 119) || decide (c = 115) || decide (c = 68) || decide (c = 87) || decide (c = 83)
def digitF (i : Nat) : Bool := between 48 57 i
def wordF (i : Nat) : Bool := between 97 122 i || between 65 90 i || decide (i = 95) || between 48 57 i
def spaceF (i : Nat) : Bool := between 9 13 i || decide (i = 32)
def namedF (c : UInt8) (i : Nat) : Bool :=
  if c = 100 then digitF i else if c = 119 then wordF i else if c = 115 then spaceF i else if c = 68 then !digitF i else if c = 87 then !wordF i else if c = 83 then !spaceF i else false

/-! which set a text begins with -/
/-- a byte: itself, how many bytes tell it, is it a letter's set? -/
def one : List UInt8 → UInt8 × Nat × Bool
  | [] => (0, 0, false)
  | c :: r => if c = 92 then (match r with | [] => (0, 0, false) | d :: _ => (d, 2, letter d)) else (c, 1, false)
def joined : List UInt8 → Bool
  | [] => false
  | c :: r => decide (c = 45) && (match r with | [] => true | d :: _ => !decide (d = 93))
/-- an item: how many bytes tell it, an error, what it adds -/
def item (s : List UInt8) : Nat × Int × (Nat → Bool) :=
  if (one s).2.1 = 0 then (0, 3, fun _ => false)
  else if (one s).2.2 then (if joined (s.drop (one s).2.1) then (0, 3, fun _ => false) else ((one s).2.1, 0, namedF (one s).1))
  else if joined (s.drop (one s).2.1) = false then ((one s).2.1, 0, fun i => decide (i = (one s).1.toNat))
  else if (one (s.drop ((one s).2.1 + 1))).2.1 = 0 then (0, 3, fun _ => false)
  else if (one (s.drop ((one s).2.1 + 1))).2.2 then (0, 3, fun _ => false)
  else if (one (s.drop ((one s).2.1 + 1))).1.toNat < (one s).1.toNat then (0, 4, fun _ => false)
  else ((one s).2.1 + 1 + (one (s.drop ((one s).2.1 + 1))).2.1, 0, between (one s).1.toNat (one (s.drop ((one s).2.1 + 1))).1.toNat)
/-- items and their end, from a place on: the set, how many bytes, an error -/
def items (s : List UInt8) : Nat → Nat → (Nat → Bool) → (Nat → Bool) × Nat × Int
  | 0, _, _ => (fun _ => false, 0, 3)
  | fuel + 1, at_, f =>
    if s.length ≤ at_ then (fun _ => false, 0, 3)
    else if s.getD at_ 0 = 93 ∧ 0 < at_ then (f, at_ + 1, 0)
    else if (item (s.drop at_)).2.1 ≠ 0 then (fun _ => false, 0, (item (s.drop at_)).2.1)
    else items s fuel (at_ + (item (s.drop at_)).1) (fun i => f i || (item (s.drop at_)).2.2 i)
/-- the set that a text begins with, how many bytes it takes, an error -/
def parse (s : List UInt8) : (Nat → Bool) × Nat × Int :=
  match s with
  | [] => (fun _ => false, 0, 3)
  | c :: r => if c = 91 then
      (match r with
      | [] => (fun _ => false, 0, 3)
      | d :: q => if d = 94 then
          (if (items q (q.length + 1) 0 (fun _ => false)).2.2 ≠ 0 then (fun _ => false, 0, (items q (q.length + 1) 0 (fun _ => false)).2.2) else (fun i => !(items q (q.length + 1) 0 (fun _ => false)).1 i, 2 + (items q (q.length + 1) 0 (fun _ => false)).2.1, 0))
        else
          (if (items r (r.length + 1) 0 (fun _ => false)).2.2 ≠ 0 then (fun _ => false, 0, (items r (r.length + 1) 0 (fun _ => false)).2.2) else ((items r (r.length + 1) 0 (fun _ => false)).1, 1 + (items r (r.length + 1) 0 (fun _ => false)).2.1, 0)))
    else (fun _ => false, 0, 3)
theorem one_le (s : List UInt8) : (one s).2.1 ≤ s.length := by
  unfold one
  split
  · exact Nat.le_refl _
  · rename_i c r
    by_cases h : c = 92
    · rw [if_pos h]
      split
      · exact Nat.zero_le _
      · simp only [List.length_cons]; omega
    · rw [if_neg h]; simp only [List.length_cons]; omega
set_option maxRecDepth 100000 in
theorem lives_parse : (parse [91, 94, 97, 45, 99, 92, 100, 93, 120]).2.1 = 8 ∧ (parse [91, 94, 97, 45, 99, 92, 100, 93, 120]).2.2 = 0 ∧ (List.range 256).countP (parse [91, 94, 97, 45, 99, 92, 100, 93, 120]).1 = 243 ∧ (parse [91, 94, 97, 45, 99, 92, 100, 93, 120]).1 98 = false ∧ (parse [91, 94, 97, 45, 99, 92, 100, 93, 120]).1 120 = true := by
  refine ⟨by decide, by decide, by decide, by decide, by decide⟩
end Go.Proofs.Ytpcgocdepolgeaa.M13
