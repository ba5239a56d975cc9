/-
  Plain mathematics for layer 1 (num): numbers as texts, the order by the numbers in texts; lists of bytes and integers alone. Nothing of the program is read here; no condition but those that each theorem bears.
-/
import Derived.Lib.Strings
import Derived.Lib.Bytealg
import Derived.Lib.ItoaNum
import Derived.Lib.ItoaMem
import Derived.Lib.AtoiAll
import Derived.Lib.Small
import Derived.Lib.TrimByte
import Derived.Lib.RepeatB
namespace Go.Proofs.YteajollkmbnimaaDoor.NumM
open Go

/-- a decimal digit -/
def dig (c : UInt8) : Bool := decide (48 ≤ (c.toNat : Int)) && decide ((c.toNat : Int) ≤ 57)
theorem dig_yes {c : UInt8} (h1 : 48 ≤ c.toNat) (h2 : c.toNat ≤ 57) : dig c = true := by simp [dig]; omega
theorem dig_iff {c : UInt8} : dig c = true ↔ 48 ≤ c.toNat ∧ c.toNat ≤ 57 := by simp [dig]; omega

/-- how many digits a text begins with -/
def run : List UInt8 → Nat
  | [] => 0
  | c :: r => if dig c then run r + 1 else 0
theorem run_le : ∀ l, run l ≤ l.length
  | [] => by simp [run]
  | c :: r => by have := run_le r; simp only [run]; split <;> simp <;> omega
theorem run_cons_pos {c : UInt8} {r : List UInt8} (h : dig c = true) : run (c :: r) = run r + 1 := by simp [run, h]
theorem run_cons_no {c : UInt8} {r : List UInt8} (h : dig c = false) : run (c :: r) = 0 := by simp [run, h]
theorem run_all : ∀ l, (run l = l.length) = (l.all dig = true)
  | [] => by simp [run]
  | c :: r => by
    have h := run_all r
    have := run_le r
    simp only [run, List.all_cons, List.length_cons, Bool.and_eq_true]
    by_cases hc : dig c = true
    · simp only [hc, if_true, true_and, ← h, eq_iff_iff]; omega
    · simp [hc]
/-- the digits so far: k of them, all digits -/
theorem run_of_prefix : ∀ (l : List UInt8) (k : Nat), k ≤ l.length → (∀ j, j < k → dig (l.getD j 0) = true) → (k < l.length → dig (l.getD k 0) = false) → run l = k
  | [], k, h, _, _ => by simp at h; simp [run, h]
  | c :: r, 0, _, _, h2 => by
    have := h2 (by simp)
    simp at this
    simp [run, this]
  | c :: r, k + 1, h0, h1, h2 => by
    have hc := h1 0 (by omega)
    simp at hc
    rw [run_cons_pos hc]
    have := run_of_prefix r k (by simpa using h0) (fun j hj => by have := h1 (j + 1) (by omega); simpa using this) (fun hk => by have := h2 (by simpa using hk); simpa using this)
    omega
theorem run_take_all : ∀ (l : List UInt8), (l.take (run l)).all dig = true
  | [] => by simp [run]
  | c :: r => by
    simp only [run]
    split
    · rename_i h; simp only [List.take_succ_cons, List.all_cons, h, run_take_all r, Bool.and_self]
    · simp

/-! ### values of digits -/
def step (a : Nat) (c : UInt8) : Nat := a * 10 + (c.toNat - 48)
def val (acc : Nat) (l : List UInt8) : Nat := l.foldl step acc
theorem val_nil (acc : Nat) : val acc [] = acc := by unfold val; rw [List.foldl_nil]
theorem val_cons (acc : Nat) (c : UInt8) (r : List UInt8) : val acc (c :: r) = val (acc * 10 + (c.toNat - 48)) r := by unfold val; rw [List.foldl_cons]; rfl
theorem val_append (l m : List UInt8) (acc : Nat) : val acc (l ++ m) = val (val acc l) m := by unfold val; rw [List.foldl_append]
theorem val_ge : ∀ (l : List UInt8) (acc : Nat), acc * 10 ^ l.length ≤ val acc l
  | [], acc => by simp [val_nil]
  | c :: r, acc => by
    have h := val_ge r (acc * 10 + (c.toNat - 48))
    simp only [val_cons, List.length_cons]
    refine Nat.le_trans ?_ h
    rw [Nat.pow_succ, Nat.mul_comm (10 ^ r.length) 10, ← Nat.mul_assoc]
    exact Nat.mul_le_mul_right _ (by omega)
theorem val_lt : ∀ (l : List UInt8) (acc : Nat), l.all dig = true → val acc l < (acc + 1) * 10 ^ l.length
  | [], acc, _ => by simp [val_nil]
  | c :: r, acc, h => by
    simp only [List.all_cons, Bool.and_eq_true] at h
    have hd := dig_iff.1 h.1
    have h2 := val_lt r (acc * 10 + (c.toNat - 48)) h.2
    simp only [val_cons, List.length_cons]
    refine Nat.lt_of_lt_of_le h2 ?_
    rw [Nat.pow_succ, Nat.mul_comm (10 ^ r.length) 10, ← Nat.mul_assoc]
    exact Nat.mul_le_mul_right _ (by omega)

/-- the library's reading of digits -/
theorem parseUint_all : ∀ (l : List UInt8) (acc : Nat), l.all dig = true → acc < 18446744073709551616 → (val acc l < 18446744073709551616 → Lib.parseUint10 acc l = .ok (val acc l)) ∧ (18446744073709551616 ≤ val acc l → Lib.parseUint10 acc l = .range)
  | [], acc, _, ha => ⟨fun _ => by simp only [Lib.parseUint10, val_nil], fun h => by simp only [val_nil] at h; omega⟩
  | c :: r, acc, h, ha => by
    simp only [List.all_cons, Bool.and_eq_true] at h
    have hd := dig_iff.1 h.1
    simp only [Lib.parseUint10, if_pos hd, val_cons]
    have hg := val_ge r (acc * 10 + (c.toNat - 48))
    have hp : 1 ≤ 10 ^ r.length := Nat.pos_of_ne_zero (by simp)
    have hg2 : acc * 10 + (c.toNat - 48) ≤ val (acc * 10 + (c.toNat - 48)) r := Nat.le_trans (Nat.le_mul_of_pos_right _ hp) hg
    by_cases h1 : 1844674407370955162 ≤ acc
    · rw [if_pos h1]
      exact ⟨fun h3 => by omega, fun _ => rfl⟩
    · rw [if_neg h1]
      by_cases h2 : 18446744073709551616 ≤ acc * 10 + (c.toNat - 48)
      · rw [if_pos h2]
        exact ⟨fun h3 => by omega, fun _ => rfl⟩
      · rw [if_neg h2]
        exact parseUint_all r _ h.2 (by omega)

/-! ### which texts are numbers -/
/-- a number's digits as they are written -/
def digits (l : List UInt8) : Bool := l.all dig && !(l.isEmpty) && (decide (l.headD 0 ≠ 48) || l.length == 1)
/-- a text that begins with a minus sign -/
def neg : List UInt8 → Bool
  | [] => false
  | c :: _ => decide (c = 45)
/-- a number's text -/
def isText (l : List UInt8) : Bool := if neg l = true then digits l.tail && decide (l.tail ≠ [48]) else digits l
/-- its value -/
def valT (l : List UInt8) : Int := if neg l = true then -(val 0 l.tail : Int) else (val 0 l : Int)
theorem text_pos {l : List UInt8} (h : neg l = false) : isText l = digits l ∧ valT l = (val 0 l : Int) := by simp [isText, valT, h]
theorem text_neg (r : List UInt8) : isText (45 :: r) = (digits r && decide (r ≠ [48])) ∧ valT (45 :: r) = -(val 0 r : Int) := ⟨rfl, rfl⟩
/-- Parse's two answers -/
def parseN (l : List UInt8) (low high : Int) : Int := if isText l = true ∧ -9223372036854775808 ≤ valT l ∧ valT l ≤ 9223372036854775807 ∧ low ≤ valT l ∧ valT l ≤ high then valT l else 0
def parseE (l : List UInt8) (low high : Int) : Int := if isText l = true then (if -9223372036854775808 ≤ valT l ∧ valT l ≤ 9223372036854775807 ∧ low ≤ valT l ∧ valT l ≤ high then 0 else 4) else 3

theorem atoi_text {l : List UInt8} (h : isText l = true) :
    (-9223372036854775808 ≤ valT l ∧ valT l ≤ 9223372036854775807 → Lib.atoiAll l = .ok (valT l)) ∧ (¬ (-9223372036854775808 ≤ valT l ∧ valT l ≤ 9223372036854775807) → Lib.atoiAll l = .range) := by
  cases l with
  | nil => simp [isText, digits] at h
  | cons c r =>
    by_cases hc : c = 45
    · subst hc
      rw [(text_neg r).1] at h
      rw [(text_neg r).2]
      simp only [digits, Bool.and_eq_true, Bool.not_eq_true', List.isEmpty_eq_false_iff] at h
      obtain ⟨⟨⟨h1, h2⟩, _⟩, _⟩ := h
      have hp := parseUint_all r 0 h1 (by omega)
      simp only [Lib.atoiAll, Lib.parseMag]
      rw [if_pos (Or.inr (by decide : (45 : UInt8).toNat = 45)), if_neg h2]
      by_cases hb : val 0 r < 18446744073709551616
      · rw [hp.1 hb]
        simp only [show (45 : UInt8).toNat = 45 from rfl, not_true_eq_false, false_and, if_false, true_and, if_true]
        constructor
        · intro hr; rw [if_neg (by omega)]
        · intro hr; rw [if_pos (by omega)]
      · rw [hp.2 (by omega)]
        constructor
        · intro hr; omega
        · intro hr; rfl
    · have hn : neg (c :: r) = false := by simp [neg, hc]
      rw [(text_pos hn).1] at h
      rw [(text_pos hn).2]
      simp only [digits, Bool.and_eq_true, Bool.not_eq_true', List.isEmpty_eq_false_iff] at h
      obtain ⟨⟨h1, h2⟩, _⟩ := h
      have hd := h1
      simp only [List.all_cons, Bool.and_eq_true] at hd
      have hd := dig_iff.1 hd.1
      have hp := parseUint_all (c :: r) 0 h1 (by omega)
      simp only [Lib.atoiAll, Lib.parseMag]
      rw [if_neg (show ¬ (c.toNat = 43 ∨ c.toNat = 45) by omega), if_neg h2]
      by_cases hb : val 0 (c :: r) < 18446744073709551616
      · rw [hp.1 hb]
        have n45 : ¬ c.toNat = 45 := by omega
        simp only [n45, not_false_eq_true, true_and, false_and, if_false]
        constructor
        · intro hr; rw [if_neg (by omega)]
        · intro hr; rw [if_pos (by omega)]
      · rw [hp.2 (by omega)]
        constructor
        · intro hr; omega
        · intro hr; rfl

/-! ### numbers as texts -/
theorem dig_ofNat {i : Nat} (h : i < 10) : (UInt8.ofNat (48 + i)).toNat = 48 + i := by
  simp [UInt8.toNat_ofNat']; omega
theorem decDigits_all : ∀ (u : Nat), (Lib.decDigits u).all dig = true := by
  intro u
  induction u using Nat.strongRecOn with
  | _ u ih =>
    rw [Lib.decDigits]
    split
    · rename_i h
      simp only [List.all_cons, List.all_nil, Bool.and_true]
      exact dig_iff.2 (by rw [dig_ofNat h]; omega)
    · rename_i h
      rw [List.all_append, ih (u / 10) (by omega)]
      simp only [List.all_cons, List.all_nil, Bool.and_true, Bool.true_and]
      exact dig_iff.2 (by rw [dig_ofNat (by omega)]; omega)
theorem decDigits_val : ∀ (u : Nat), val 0 (Lib.decDigits u) = u := by
  intro u
  induction u using Nat.strongRecOn with
  | _ u ih =>
    rw [Lib.decDigits]
    split
    · rename_i h
      simp only [val_nil, val_cons]; rw [dig_ofNat h]; omega
    · rename_i h
      rw [val_append, ih (u / 10) (by omega)]
      simp only [val_nil, val_cons]; rw [dig_ofNat (by omega)]; omega
theorem decDigits_ne (u : Nat) : Lib.decDigits u ≠ [] := by
  rw [Lib.decDigits]; split <;> simp
theorem decDigits_head : ∀ (u : Nat), 1 ≤ u → (Lib.decDigits u).headD 0 ≠ 48 := by
  intro u
  induction u using Nat.strongRecOn with
  | _ u ih =>
    intro h1
    rw [Lib.decDigits]
    split
    · rename_i h
      simp only [List.headD_cons]
      intro e
      have := congrArg UInt8.toNat e
      rw [dig_ofNat h] at this
      simp at this
      omega
    · rename_i h
      have := ih (u / 10) (by omega) (by omega)
      have hne := decDigits_ne (u / 10)
      cases hl : Lib.decDigits (u / 10) with
      | nil => exact absurd hl hne
      | cons c r => rw [hl] at this; simpa using this
theorem digits_dec (u : Nat) : digits (Lib.decDigits u) = true := by
  simp only [digits, decDigits_all, Bool.true_and, Bool.and_eq_true, Bool.not_eq_true', List.isEmpty_eq_false_iff, Bool.or_eq_true, decide_eq_true_eq]
  refine ⟨decDigits_ne u, ?_⟩
  by_cases h : 1 ≤ u
  · exact Or.inl (decDigits_head u h)
  · obtain rfl : u = 0 := by omega
    right; rw [Lib.decDigits]; simp
theorem neg_dec (u : Nat) : neg (Lib.decDigits u) = false := by
  have h := decDigits_all u
  have hne := decDigits_ne u
  cases hl : Lib.decDigits u with
  | nil => exact absurd hl hne
  | cons c r =>
    rw [hl] at h
    simp only [List.all_cons, Bool.and_eq_true] at h
    have := dig_iff.1 h.1
    simp only [neg, decide_eq_false_iff_not]
    intro e
    rw [e] at this
    simp at this
theorem itoa_text (n : Int) : isText (Lib.itoa n) = true ∧ valT (Lib.itoa n) = n := by
  unfold Lib.itoa
  split
  · rename_i h
    rw [(text_neg _).1, (text_neg _).2, digits_dec, decDigits_val, Bool.true_and, decide_eq_true_eq]
    constructor
    · intro e
      have := decDigits_val n.natAbs
      rw [e] at this
      simp [val_nil, val_cons] at this
      omega
    · omega
  · rename_i h
    rw [(text_pos (neg_dec _)).1, (text_pos (neg_dec _)).2, digits_dec, decDigits_val]
    exact ⟨rfl, by omega⟩

/-! ### the plain parse's steps -/
/-- more than 19 digits: beyond every int -/
theorem val_big {l : List UInt8} (h : digits l = true) (hl : 19 < l.length) : 10000000000000000000 ≤ val 0 l := by
  simp only [digits, Bool.and_eq_true, Bool.or_eq_true, decide_eq_true_eq, beq_iff_eq] at h
  obtain ⟨⟨h1, h2⟩, h3⟩ := h
  cases l with
  | nil => simp at hl
  | cons c r =>
    have h4 : c ≠ 48 := by
      rcases h3 with h3 | h3
      · simpa using h3
      · simp only [List.length_cons] at h3 hl; omega
    simp only [List.all_cons, Bool.and_eq_true] at h1
    have hd := dig_iff.1 h1.1
    have hd2 : 49 ≤ c.toNat := by
      rcases Nat.lt_or_ge c.toNat 49 with h5 | h5
      · exact absurd (UInt8.toNat_inj.1 (show c.toNat = (48 : UInt8).toNat by simp; omega)) h4
      · exact h5
    simp only [List.length_cons] at hl
    have hg := val_ge r (0 * 10 + (c.toNat - 48))
    have hp : 10 ^ 19 ≤ 10 ^ r.length := Nat.pow_le_pow_right (by decide) (by omega)
    have h6 : 10 ^ 19 ≤ (0 * 10 + (c.toNat - 48)) * 10 ^ r.length := Nat.le_trans hp (Nat.le_mul_of_pos_left _ (by omega))
    simp only [val_cons]
    have : (10 : Nat) ^ 19 = 10000000000000000000 := by decide
    omega
theorem val_small {l : List UInt8} (h : l.all dig = true) (k : Nat) (hk : k ≤ 19) : val 0 (l.take k) < 10000000000000000000 := by
  have ha : (l.take k).all dig = true := by
    rw [List.all_eq_true] at h ⊢
    exact fun x hx => h x (List.mem_of_mem_take hx)
  have h1 := val_lt (l.take k) 0 ha
  have h2 : (l.take k).length ≤ 19 := Nat.le_trans (List.length_take_le _ _) hk
  have h3 : 10 ^ (l.take k).length ≤ 10 ^ 19 := Nat.pow_le_pow_right (by decide) h2
  have : (10 : Nat) ^ 19 = 10000000000000000000 := by decide
  omega
theorem val_take_succ (l : List UInt8) (k : Nat) (h : k < l.length) : val 0 (l.take (k + 1)) = val 0 (l.take k) * 10 + (l[k].toNat - 48) := by
  rw [List.take_succ_eq_append_getElem h, val_append, val_cons, val_nil]
end Go.Proofs.YteajollkmbnimaaDoor.NumM
