/-
  Texts joined, in build order, each with its own comment and its own conditions: W14Math, Strs, Recs, RecCut, RecAppend, W14Heap.
-/
import Derived.Test.YtenlogfiabhfmaaGreatDoorJ01
import Derived.WalkKit
import Derived.Below
import Derived.Laws.OwnMore
import Derived.Deep.AppendLies
import Derived.Deep.Draws
import Derived.Lib.Strings
import Derived.Lib.Hide
import Derived.ProofKit
import Derived.Tactics
/-
  Layer 14 (pattern), plain mathematics: pieces, which piece a pattern is, how many steps it has. No condition but those that each theorem bears.
-/
namespace Go.Proofs.YtenlogfiabhfmaaGreatDoor.M14
open Go Go.Proofs.YtenlogfiabhfmaaGreatDoor.M13

/-- a piece: its kind, its text, its kids, how often at least, at most -/
inductive Piece where
  | mk (kind : Int) (text : ByteArray) (kids : List Piece) (least top : Int)
def leaf (kind : Int) (t : ByteArray) : Piece := .mk kind t [] 0 0
/-- what was read: a piece and the place behind it; or the place of an error, and which -/
inductive Got where
  | ok (p : Piece) (to : Nat)
  | bad (at_ : Nat) (e : Int)

def txt (f : Nat → Bool) : ByteArray := ⟨(textOf f).toArray⟩
def chr (c : UInt8) : ByteArray := ⟨#[c]⟩
def dig (c : UInt8) : Bool := decide (48 ≤ c) && decide (c ≤ 57)
def val (l : List UInt8) : Nat := l.foldl (fun n c => n * 10 + (c.toNat - 48)) 0
/-- the value of one to three digits -/
def number (t : List UInt8) : Option Nat := if t ≠ [] ∧ t.length ≤ 3 ∧ t.all dig = true then some (val t) else none
/-- an error, at least, at most, how many bytes -/
def range (m top : Int) (n : Nat) : Int × Int × Int × Nat := if m > 100 ∨ top > 100 ∨ (0 ≤ top ∧ m > top) then (4, 0, 0, 0) else (0, m, top, n)
def no3 : Int × Int × Int × Nat := (3, 0, 0, 0)
/-- what stands behind a { -/
def braces (l : List UInt8) : Int × Int × Int × Nat :=
  match number (l.takeWhile dig) with
  | none => no3
  | some m =>
    match l.dropWhile dig with
    | [] => no3
    | c :: r =>
      if c = 125 then range m m ((l.takeWhile dig).length + 2)
      else if c = 44 then
        (if r.takeWhile dig = [] then (if r.headD 0 = 125 then range m (-1) ((l.takeWhile dig).length + 3) else no3)
        else match number (r.takeWhile dig) with
          | none => no3
          | some k => if (r.dropWhile dig).headD 0 = 125 then range m k ((l.takeWhile dig).length + (r.takeWhile dig).length + 3) else no3)
      else no3

def atom (R : Nat → Nat → Option Got) (S : List UInt8) (at_ deep : Nat) : Option Got :=
  if S.getD at_ 0 = 40 then
    (if deep = 64 then some (.bad at_ 21)
    else match R (at_ + 1) (deep + 1) with
      | none => none
      | some (.bad b e) => some (.bad b e)
      | some (.ok p to) => if to = S.length then some (.bad S.length 3) else some (.ok p (to + 1)))
  else if S.getD at_ 0 = 91 then
    (if (parse (S.drop at_)).2.2 ≠ 0 then some (.bad at_ (parse (S.drop at_)).2.2) else some (.ok (leaf 4 (txt (parse (S.drop at_)).1)) (at_ + (parse (S.drop at_)).2.1)))
  else if S.getD at_ 0 = 46 then some (.ok (leaf 3 ⟨#[]⟩) (at_ + 1))
  else if S.getD at_ 0 = 94 then some (.ok (leaf 5 ⟨#[]⟩) (at_ + 1))
  else if S.getD at_ 0 = 36 then some (.ok (leaf 6 ⟨#[]⟩) (at_ + 1))
  else if S.getD at_ 0 = 42 ∨ S.getD at_ 0 = 43 ∨ S.getD at_ 0 = 63 ∨ S.getD at_ 0 = 123 then some (.bad at_ 3)
  else if S.getD at_ 0 ≠ 92 then some (.ok (leaf 2 (chr (S.getD at_ 0))) (at_ + 1))
  else if at_ + 1 = S.length then some (.bad at_ 3)
  else if letter (S.getD (at_ + 1) 0) then some (.ok (leaf 4 (txt (namedF (S.getD (at_ + 1) 0)))) (at_ + 2))
  else some (.ok (leaf 2 (chr (S.getD (at_ + 1) 0))) (at_ + 2))
/-- how often what was read is asked for -/
def often (S : List UInt8) (p : Piece) (to : Nat) : Got :=
  if to = S.length then .ok p to
  else if S.getD to 0 = 123 then (if (braces (S.drop (to + 1))).1 ≠ 0 then .bad to (braces (S.drop (to + 1))).1 else .ok (.mk 9 ⟨#[]⟩ [p] (braces (S.drop (to + 1))).2.1 (braces (S.drop (to + 1))).2.2.1) (to + (braces (S.drop (to + 1))).2.2.2))
  else if S.getD to 0 = 42 then .ok (.mk 9 ⟨#[]⟩ [p] 0 (-1)) (to + 1)
  else if S.getD to 0 = 43 then .ok (.mk 9 ⟨#[]⟩ [p] 1 (-1)) (to + 1)
  else if S.getD to 0 = 63 then .ok (.mk 9 ⟨#[]⟩ [p] 0 1) (to + 1)
  else .ok p to
def part (R : Nat → Nat → Option Got) (S : List UInt8) (at_ deep : Nat) : Option Got :=
  match atom R S at_ deep with
  | none => none
  | some (.bad b e) => some (.bad b e)
  | some (.ok p to) => some (often S p to)
def together (kind : Int) : List Piece → Piece
  | [] => leaf 1 ⟨#[]⟩
  | [p] => p
  | p :: q :: l => .mk kind ⟨#[]⟩ (p :: q :: l) 0 0
/-- no part begins here -/
def stop (S : List UInt8) (at_ : Nat) : Prop := S.length ≤ at_ ∨ S.getD at_ 0 = 124 ∨ S.getD at_ 0 = 41
instance (S : List UInt8) (at_ : Nat) : Decidable (stop S at_) := by unfold stop; infer_instance
def row (R : Nat → Nat → Option Got) (S : List UInt8) (deep : Nat) : Nat → Nat → List Piece → Option Got
  | 0, _, _ => none
  | k + 1, at_, acc =>
    if stop S at_ then some (.ok (together 7 acc) at_)
    else match part R S at_ deep with
      | none => none
      | some (.bad b e) => some (.bad b e)
      | some (.ok p to) => row R S deep k to (acc ++ [p])
def rowsL (R : Nat → Nat → Option Got) (S : List UInt8) (deep : Nat) : Nat → Nat → List Piece → Option Got
  | 0, _, _ => none
  | k + 1, at_, acc =>
    match row R S deep (S.length + 1) at_ [] with
    | none => none
    | some (.bad b e) => some (.bad b e)
    | some (.ok p to) => if to = S.length ∨ S.getD to 0 ≠ 124 then some (.ok (together 8 (acc ++ [p])) to) else rowsL R S deep k (to + 1) (acc ++ [p])
def rows (S : List UInt8) : Nat → Nat → Nat → Option Got
  | 0, _, _ => none
  | n + 1, at_, deep => rowsL (rows S n) S deep (S.length + 1) at_ []
/-- a pattern of no bracket may not end at one -/
def fix (S : List UInt8) (deep : Nat) : Got → Got
  | .bad b e => .bad b e
  | .ok p to => if deep = 0 ∧ to < S.length ∧ S.getD to 0 = 41 then .bad to 3 else .ok p to

/-! what is read may be -/
inductive Whole : Piece → Prop where
  | none (k : Int) (h : k = 1 ∨ k = 3 ∨ k = 5 ∨ k = 6) : Whole (leaf k ⟨#[]⟩)
  | char (c : UInt8) : Whole (leaf 2 (chr c))
  | set (f : Nat → Bool) : Whole (leaf 4 (txt f))
  | many (k : Int) (h : k = 7 ∨ k = 8) (l : List Piece) (h2 : 2 ≤ l.length) (h3 : l.length ≤ 1000) (hk : ∀ p, p ∈ l → Whole p) : Whole (.mk k ⟨#[]⟩ l 0 0)
  | rep (p : Piece) (m t : Int) (hm : 0 ≤ m ∧ m ≤ 100) (ht : t = -1 ∨ m ≤ t ∧ t ≤ 100) (hk : Whole p) : Whole (.mk 9 ⟨#[]⟩ [p] m t)
theorem whole_together {k : Int} (h : k = 7 ∨ k = 8) {l : List Piece} (h3 : l.length ≤ 1000) (hl : ∀ p, p ∈ l → Whole p) : Whole (together k l) := by
  match l with
  | [] => exact .none 1 (by omega)
  | [p] => exact hl p (by simp)
  | p :: q :: r => exact .many k h _ (by simp) h3 hl
theorem dig_len (l : List UInt8) : (l.takeWhile dig).length + (l.dropWhile dig).length = l.length := by
  rw [← List.length_append, List.takeWhile_append_dropWhile]
theorem range_ok {m top : Int} {n : Nat} (hm : 0 ≤ m) (ht : -1 ≤ top) (h : (range m top n).1 = 0) : range m top n = (0, m, top, n) ∧ (0 ≤ m ∧ m ≤ 100) ∧ (top = -1 ∨ m ≤ top ∧ top ≤ 100) := by
  unfold range at h ⊢
  by_cases c : m > 100 ∨ top > 100 ∨ (0 ≤ top ∧ m > top)
  · rw [if_pos c] at h; simp at h
  · rw [if_neg c]; refine ⟨rfl, ?_, ?_⟩ <;> omega
theorem head_125 {l : List UInt8} (h : l.headD 0 = 125) : 0 < l.length := by
  cases l with
  | nil => simp at h
  | cons c r => simp
/-- what braces tell, if they do -/
theorem braces_ok {l : List UInt8} (h : (braces l).1 = 0) : (0 ≤ (braces l).2.1 ∧ (braces l).2.1 ≤ 100) ∧ ((braces l).2.2.1 = -1 ∨ (braces l).2.1 ≤ (braces l).2.2.1 ∧ (braces l).2.2.1 ≤ 100) ∧ 0 < (braces l).2.2.2 ∧ (braces l).2.2.2 ≤ l.length + 1 := by
  have hl := dig_len l
  unfold braces at h ⊢
  cases hn : number (l.takeWhile dig) with
  | none => rw [hn] at h; simp [no3] at h
  | some m =>
    rw [hn] at h
    simp only at h ⊢
    cases hd : l.dropWhile dig with
    | nil => rw [hd] at h; simp [no3] at h
    | cons c r =>
      rw [hd] at h hl
      rw [List.length_cons] at hl
      simp only at h ⊢
      have hr := dig_len r
      by_cases c1 : c = 125
      · rw [if_pos c1] at h ⊢
        obtain ⟨e, h1, h2⟩ := range_ok (by omega) (by omega) h
        rw [e]
        exact ⟨h1, h2, by simp only; omega, by simp only; omega⟩
      · rw [if_neg c1] at h ⊢
        by_cases c2 : c = 44
        · rw [if_pos c2] at h ⊢
          by_cases c3 : r.takeWhile dig = []
          · rw [if_pos c3] at h ⊢
            by_cases c4 : r.headD 0 = 125
            · rw [if_pos c4] at h ⊢
              have := head_125 c4
              obtain ⟨e, h1, h2⟩ := range_ok (by omega) (by omega) h
              rw [e]
              exact ⟨h1, h2, by simp only; omega, by simp only; omega⟩
            · rw [if_neg c4] at h; simp [no3] at h
          · rw [if_neg c3] at h ⊢
            cases hn2 : number (r.takeWhile dig) with
            | none => rw [hn2] at h; simp [no3] at h
            | some k =>
              rw [hn2] at h
              simp only at h ⊢
              by_cases c4 : (r.dropWhile dig).headD 0 = 125
              · rw [if_pos c4] at h ⊢
                have := head_125 c4
                obtain ⟨e, h1, h2⟩ := range_ok (by omega) (by omega) h
                rw [e]
                exact ⟨h1, h2, by simp only; omega, by simp only; omega⟩
              · rw [if_neg c4] at h; simp [no3] at h
        · rw [if_neg c2] at h; simp [no3] at h
theorem items_le (s : List UInt8) : ∀ (k at_ : Nat) (f : Nat → Bool), (items s k at_ f).2.2 = 0 → (items s k at_ f).2.1 ≤ s.length ∧ 0 < (items s k at_ f).2.1
  | 0, _, _ => by intro h; simp [items] at h
  | k + 1, at_, f => by
    intro h
    unfold items at h ⊢
    by_cases c1 : s.length ≤ at_
    · rw [if_pos c1] at h; simp at h
    · rw [if_neg c1] at h ⊢
      by_cases c2 : s.getD at_ 0 = 93 ∧ 0 < at_
      · rw [if_pos c2] at h ⊢
        exact ⟨by simp only; omega, by simp only; omega⟩
      · rw [if_neg c2] at h ⊢
        by_cases c3 : (item (s.drop at_)).2.1 ≠ 0
        · rw [if_pos c3] at h; exact absurd h c3
        · rw [if_neg c3] at h ⊢
          exact items_le s k _ _ h
theorem parse_le {s : List UInt8} (h : (parse s).2.2 = 0) : (parse s).2.1 ≤ s.length ∧ 0 < (parse s).2.1 := by
  revert h
  unfold parse
  match s with
  | [] => simp
  | c :: r =>
    by_cases c1 : c = 91
    · simp only [if_pos c1]
      match r with
      | [] => simp
      | d :: q =>
        simp only
        by_cases c2 : d = 94
        · rw [if_pos c2]
          have := items_le q (q.length + 1) 0 (fun _ => false)
          by_cases c3 : (items q (q.length + 1) 0 (fun _ => false)).2.2 ≠ 0
          · rw [if_pos c3]; intro h; exact absurd h c3
          · rw [if_neg c3]
            intro _
            have := this (by simpa using c3)
            simp only [List.length_cons]
            omega
        · rw [if_neg c2]
          have := items_le (d :: q) ((d :: q).length + 1) 0 (fun _ => false)
          by_cases c3 : (items (d :: q) ((d :: q).length + 1) 0 (fun _ => false)).2.2 ≠ 0
          · rw [if_pos c3]; intro h; exact absurd h c3
          · rw [if_neg c3]
            intro _
            have := this (by simpa using c3)
            rw [List.length_cons] at this
            simp only [List.length_cons] at this ⊢
            omega
    · simp only [if_neg c1]; simp

/-! what is read is there, and its place -/
/-- a good answer from a place on: it ends behind that place (or there), and may be -/
def Fine (S : List UInt8) (lo : Nat) : Got → Prop
  | .ok p to => lo ≤ to ∧ to ≤ S.length ∧ Whole p
  | .bad b _ => b ≤ S.length
theorem atom_fine {R : Nat → Nat → Option Got} {S : List UInt8} {at_ deep : Nat} (h : at_ < S.length) (hR : deep ≠ 64 → at_ + 1 ≤ S.length → ∃ g, R (at_ + 1) (deep + 1) = some g ∧ Fine S (at_ + 1) g) : ∃ g, atom R S at_ deep = some g ∧ Fine S (at_ + 1) g := by
  unfold atom
  by_cases c1 : S.getD at_ 0 = 40
  · rw [if_pos c1]
    by_cases c2 : deep = 64
    · rw [if_pos c2]; exact ⟨_, rfl, by show at_ ≤ S.length; omega⟩
    · rw [if_neg c2]
      obtain ⟨g, e, hg⟩ := hR c2 (by omega)
      rw [e]
      match g, hg with
      | .bad b e, hg => exact ⟨_, rfl, hg⟩
      | .ok p to, hg =>
        simp only
        by_cases c3 : to = S.length
        · rw [if_pos c3]; exact ⟨_, rfl, Nat.le_refl _⟩
        · rw [if_neg c3]
          obtain ⟨h1, h2, h3⟩ := hg
          exact ⟨_, rfl, by omega, by omega, h3⟩
  · rw [if_neg c1]
    by_cases c2 : S.getD at_ 0 = 91
    · rw [if_pos c2]
      by_cases c3 : (parse (S.drop at_)).2.2 ≠ 0
      · rw [if_pos c3]; exact ⟨_, rfl, by show at_ ≤ S.length; omega⟩
      · rw [if_neg c3]
        have := parse_le (s := S.drop at_) (by simpa using c3)
        rw [List.length_drop] at this
        exact ⟨_, rfl, by omega, by omega, .set _⟩
    · rw [if_neg c2]
      by_cases c3 : S.getD at_ 0 = 46
      · rw [if_pos c3]; exact ⟨_, rfl, Nat.le_refl _, h, .none 3 (by omega)⟩
      · rw [if_neg c3]
        by_cases c4 : S.getD at_ 0 = 94
        · rw [if_pos c4]; exact ⟨_, rfl, Nat.le_refl _, h, .none 5 (by omega)⟩
        · rw [if_neg c4]
          by_cases c5 : S.getD at_ 0 = 36
          · rw [if_pos c5]; exact ⟨_, rfl, Nat.le_refl _, h, .none 6 (by omega)⟩
          · rw [if_neg c5]
            split
            · exact ⟨_, rfl, by show at_ ≤ S.length; omega⟩
            · split
              · exact ⟨_, rfl, Nat.le_refl _, h, .char _⟩
              · split
                · exact ⟨_, rfl, by show at_ ≤ S.length; omega⟩
                · split
                  · exact ⟨_, rfl, by omega, by omega, .set _⟩
                  · exact ⟨_, rfl, by omega, by omega, .char _⟩
theorem often_fine {S : List UInt8} {p : Piece} {lo to : Nat} (h1 : lo ≤ to) (h2 : to ≤ S.length) (h3 : Whole p) : Fine S lo (often S p to) := by
  unfold often
  by_cases c0 : to = S.length
  · rw [if_pos c0]; exact ⟨h1, h2, h3⟩
  · rw [if_neg c0]
    split
    · by_cases c1 : (braces (S.drop (to + 1))).1 ≠ 0
      · rw [if_pos c1]; exact h2
      · rw [if_neg c1]
        obtain ⟨a, b, c, d⟩ := braces_ok (l := S.drop (to + 1)) (by simpa using c1)
        rw [List.length_drop] at d
        exact ⟨by omega, by omega, .rep p _ _ a b h3⟩
    · split
      · exact ⟨by omega, by omega, .rep p _ _ (by omega) (by omega) h3⟩
      · split
        · exact ⟨by omega, by omega, .rep p _ _ (by omega) (by omega) h3⟩
        · split
          · exact ⟨by omega, by omega, .rep p _ _ (by omega) (by omega) h3⟩
          · exact ⟨h1, h2, h3⟩
theorem part_fine {R : Nat → Nat → Option Got} {S : List UInt8} {at_ deep : Nat} (h : at_ < S.length) (hR : deep ≠ 64 → at_ + 1 ≤ S.length → ∃ g, R (at_ + 1) (deep + 1) = some g ∧ Fine S (at_ + 1) g) : ∃ g, part R S at_ deep = some g ∧ Fine S (at_ + 1) g := by
  obtain ⟨g, e, hg⟩ := atom_fine h hR
  unfold part
  rw [e]
  match g, hg with
  | .bad b e, hg => exact ⟨_, rfl, hg⟩
  | .ok p to, hg => exact ⟨_, rfl, often_fine hg.1 hg.2.1 hg.2.2⟩
theorem Fine.less {S : List UInt8} {lo lo' : Nat} {g : Got} (h : Fine S lo g) (k : lo' ≤ lo) : Fine S lo' g := by
  match g, h with
  | .bad b e, h => exact h
  | .ok p to, h => exact ⟨Nat.le_trans k h.1, h.2⟩
theorem row_fine {R : Nat → Nat → Option Got} {S : List UInt8} {deep lo : Nat} (hs : S.length ≤ 900) (hR : deep ≠ 64 → ∀ to, lo < to → to ≤ S.length → ∃ g, R to (deep + 1) = some g ∧ Fine S to g) :
    ∀ (k at_ : Nat) (acc : List Piece), lo ≤ at_ → at_ ≤ S.length → S.length < at_ + k → acc.length ≤ at_ → (∀ p, p ∈ acc → Whole p) → ∃ g, row R S deep k at_ acc = some g ∧ Fine S at_ g
  | 0, at_, acc, _, h1, h2, _, _ => by omega
  | k + 1, at_, acc, h0, h1, h2, h3, h4 => by
    unfold row
    by_cases c : stop S at_
    · rw [if_pos c]; exact ⟨_, rfl, Nat.le_refl _, h1, whole_together (by omega) (by omega) h4⟩
    · rw [if_neg c]
      have hlt : at_ < S.length := by unfold stop at c; omega
      obtain ⟨g, e, hg⟩ := part_fine (R := R) (deep := deep) hlt (fun d q => hR d _ (by omega) q)
      rw [e]
      match g, hg with
      | .bad b e, hg => exact ⟨_, rfl, hg⟩
      | .ok p to, hg =>
        obtain ⟨g1, g2, g3⟩ := hg
        obtain ⟨g, e2, hg2⟩ := row_fine hs hR k to (acc ++ [p]) (by omega) g2 (by omega) (by rw [List.length_append]; simp only [List.length_cons, List.length_nil]; omega) (by
          intro q hq
          rcases List.mem_append.1 hq with hq | hq
          · exact h4 q hq
          · rw [List.mem_singleton.1 hq]; exact g3)
        exact ⟨g, e2, hg2.less (by omega)⟩
theorem rowsL_fine {R : Nat → Nat → Option Got} {S : List UInt8} {deep lo : Nat} (hs : S.length ≤ 900) (hR : deep ≠ 64 → ∀ to, lo < to → to ≤ S.length → ∃ g, R to (deep + 1) = some g ∧ Fine S to g) :
    ∀ (k at_ : Nat) (acc : List Piece), lo ≤ at_ → at_ ≤ S.length → S.length < at_ + k → acc.length ≤ at_ → (∀ p, p ∈ acc → Whole p) → ∃ g, rowsL R S deep k at_ acc = some g ∧ Fine S at_ g
  | 0, at_, acc, _, h1, h2, _, _ => by omega
  | k + 1, at_, acc, h0, h1, h2, h3, h4 => by
    unfold rowsL
    obtain ⟨g, e, hg⟩ := row_fine (deep := deep) hs (fun d to a b => hR d to (by omega) b) (S.length + 1) at_ [] (Nat.le_refl at_) h1 (by omega) (Nat.zero_le _) (by simp)
    rw [e]
    match g, hg with
    | .bad b e, hg => exact ⟨_, rfl, hg⟩
    | .ok p to, hg =>
      obtain ⟨g1, g2, g3⟩ := hg
      have hall : ∀ q, q ∈ acc ++ [p] → Whole q := by
        intro q hq
        rcases List.mem_append.1 hq with hq | hq
        · exact h4 q hq
        · rw [List.mem_singleton.1 hq]; exact g3
      have hlen : (acc ++ [p]).length = acc.length + 1 := by simp
      simp only
      by_cases c : to = S.length ∨ S.getD to 0 ≠ 124
      · rw [if_pos c]; exact ⟨_, rfl, g1, g2, whole_together (by omega) (by omega) hall⟩
      · rw [if_neg c]
        obtain ⟨g, e2, hg2⟩ := rowsL_fine hs hR k (to + 1) (acc ++ [p]) (by omega) (by omega) (by omega) (by omega) hall
        exact ⟨g, e2, hg2.less (by omega)⟩
theorem rows_fine {S : List UInt8} (hs : S.length ≤ 900) : ∀ (n at_ deep : Nat), at_ ≤ S.length → S.length < at_ + n → ∃ g, rows S n at_ deep = some g ∧ Fine S at_ g
  | 0, at_, deep, h1, h2 => by omega
  | n + 1, at_, deep, h1, h2 => by
    unfold rows
    exact rowsL_fine (lo := at_) hs (fun _ to h3 h4 => rows_fine hs n to _ h4 (by omega)) (S.length + 1) at_ [] (Nat.le_refl at_) h1 (by omega) (Nat.zero_le _) (by simp)

/-! how many steps -/
mutual
def size : Piece → Nat
  | .mk k _ l m t => min 4001 (if k = 1 then 0 else if 2 ≤ k ∧ k ≤ 6 then 1 else if k = 7 then sizes l else if k = 8 then sizes l + 2 * (l.length - 1) else if t = -1 then m.toNat * sizes l + sizes l + 2 else m.toNat * sizes l + (t - m).toNat * (sizes l + 1))
def sizes : List Piece → Nat
  | [] => 0
  | p :: l => size p + sizes l
end
theorem size_le (p : Piece) : size p ≤ 4001 := by
  match p with
  | .mk k t l a b => unfold size; exact Nat.min_le_left _ _
theorem sizes_append (l m : List Piece) : sizes (l ++ m) = sizes l + sizes m := by
  induction l with
  | nil => simp [sizes]
  | cons p l ih => rw [List.cons_append, sizes, ih, sizes]; omega
end Go.Proofs.YtenlogfiabhfmaaGreatDoor.M14
/-
  Slices of strings: when a slice value reads as a list of texts in a world, how the reading is kept by what a call lays and writes, and what a row of the call's own gives. Plain lemmas on worlds, for every program; no condition but those that each theorem bears.
-/
namespace Go.Proofs.YtenlogfiabhfmaaGreatDoor.Strs
open Go Go.RowKit

theorem block_add (a : Addr) (n : Nat) : (a.add n).block = a.block := by unfold Addr.add; split <;> rfl
/-- a text's value -/
def strV (l : List UInt8) : Value := .string ⟨l.toArray⟩
/-- The slice value v reads as the texts L, below block B. -/
def Texts (B : Nat) (w : World) (v : Value) (L : List (List UInt8)) : Prop :=
  ∃ (A : Option Addr) (c : Nat), v = .slice A L.length c ∧ L.length ≤ c ∧ c ≤ maxLen ∧
    (0 < L.length → ∃ ad, A = some ad ∧ ad.block < B ∧ ∀ k, k < L.length → w.cell? (ad.add k) = some (strV (L.getD k [])))
section
variable {B B' : Nat} {w w' : World} {v : Value} {L : List (List UInt8)}
theorem Texts.keep (h : Texts B w v L) (hk : ∀ p : Addr, p.block < B → w'.cell? p = w.cell? p) : Texts B w' v L := by
  obtain ⟨A, c, e, h1, h2, h3⟩ := h
  exact ⟨A, c, e, h1, h2, fun hn => by
    obtain ⟨ad, e2, hb, hc⟩ := h3 hn
    exact ⟨ad, e2, hb, fun k hk2 => (hk _ (by rw [block_add]; exact hb)).trans (hc k hk2)⟩⟩
theorem Texts.more (h : Texts B w v L) (hB : B ≤ B') : Texts B' w v L := by
  obtain ⟨A, c, e, h1, h2, h3⟩ := h
  exact ⟨A, c, e, h1, h2, fun hn => by
    obtain ⟨ad, e2, hb, hc⟩ := h3 hn
    exact ⟨ad, e2, by omega, hc⟩⟩
theorem Texts.below (h : Texts B w v L) (hb : Below B w w') : Texts B w' v L := h.keep fun _ hp => hb.cell hp
theorem Texts.alloc (h : Texts B w v L) (hB : B ≤ w.heap.size) (o : Obj) : Texts B (w.alloc o) v L := h.keep fun p hp => World.cell?_alloc_lt w o p (by omega)
theorem Texts.drewN (h : Texts B w v L) (k : Nat) : Texts B (w.drewN k) v L := h
theorem Texts.len (h : Texts B w v L) : L.length ≤ maxLen := by
  obtain ⟨A, c, e, h1, h2, h3⟩ := h
  omega
/-- the value, written out -/
theorem Texts.form (h : Texts B w v L) : ∃ A c, v = .slice A L.length c ∧ L.length ≤ c ∧ c ≤ maxLen := by
  obtain ⟨A, c, e, h1, h2, h3⟩ := h
  exact ⟨A, c, e, h1, h2⟩
/-- the cell at a place -/
theorem Texts.at_ {A : Option Addr} {n c : Nat} (h : Texts B w (.slice A n c) L) {k : Nat} (hk : k < n) : ∃ ad s, A = some ad ∧ ad.block < B ∧ w.cell? (ad.add k) = some (.string s) ∧ s.data.toList = L.getD k [] := by
  obtain ⟨A', c', e, h1, h2, h3⟩ := h
  injection e with e1 e2 e3
  subst e1 e2 e3
  obtain ⟨ad, e2, hb, hc⟩ := h3 (by omega)
  exact ⟨ad, _, e2, hb, hc k hk, rfl⟩
theorem Texts.count {A : Option Addr} {n c : Nat} (h : Texts B w (.slice A n c) L) : n = L.length ∧ n ≤ c ∧ c ≤ maxLen := by
  obtain ⟨A', c', e, h1, h2, h3⟩ := h
  injection e with e1 e2 e3
  subst e1 e2 e3
  exact ⟨rfl, h1, h2⟩
theorem texts_nil (B : Nat) (w : World) : Texts B w (.slice none 0 0) [] := ⟨none, 0, rfl, Nat.le_refl _, Nat.zero_le _, fun h => absurd h (by simp)⟩
/-- a row of the call's own -/
theorem Texts.of_own {base : Nat} {e : TypeId} {n : Nat} (h : w.ownsRow base e 1 v n (L.map strV)) : Texts w.heap.size w v L := by
  have hl : n = L.length := by have := h.1; simpa using this.symm
  subst hl
  rcases h.2 with ⟨rfl, h0⟩ | ⟨g, cap, cur, rfl, hg, hh, hn, hcap, hsz, htk⟩
  · have : L = [] := by simpa using h0
    subst this
    exact texts_nil _ _
  · refine ⟨_, _, rfl, by omega, by omega, fun hn0 => ⟨_, rfl, ?_, fun k hk => ?_⟩⟩
    · rcases Nat.lt_or_ge g w.heap.size with hlt | hge
      · exact hlt
      · rw [Array.getElem?_eq_none hge] at hh; cases hh
    · have := h.cells (g := g) rfl k (strV (L.getD k [])) (by rw [List.getElem?_map, List.getElem?_eq_getElem hk]; simp [hk])
      exact this
end
end Go.Proofs.YtenlogfiabhfmaaGreatDoor.Strs
/-
  Slices of records: when a slice value reads as a list of records (each so many cells) in a world, how the reading is kept by what a call lays and writes, and what a row of the call's own gives. Plain lemmas on worlds, for every program; no condition but those that each theorem bears.
-/
namespace Go.Proofs.YtenlogfiabhfmaaGreatDoor.Recs
open Go Go.RowKit
open Go.Proofs.YtenlogfiabhfmaaGreatDoor.Strs (block_add strV)

/-- The slice value v reads as the records L, each of sz cells, below block B. -/
def Recs {α : Type} (enc : α → List Value) (sz : Nat) (B : Nat) (w : World) (v : Value) (L : List α) : Prop :=
  ∃ (A : Option Addr) (c : Nat), v = .slice A L.length c ∧ L.length ≤ c ∧ c ≤ maxLen ∧
    (0 < L.length → ∃ ad, A = some ad ∧ ad.block < B ∧ ∀ k (h : k < L.length) j, j < sz → w.cell? (ad.add (k * sz + j)) = (enc L[k])[j]?)
section
variable {α : Type} {enc : α → List Value} {sz B B' : Nat} {w w' : World} {v : Value} {L : List α}
theorem Recs.keep (h : Recs enc sz B w v L) (hk : ∀ p : Addr, p.block < B → w'.cell? p = w.cell? p) : Recs enc sz B w' v L := by
  obtain ⟨A, c, e, h1, h2, h3⟩ := h
  exact ⟨A, c, e, h1, h2, fun hn => by
    obtain ⟨ad, e2, hb, hc⟩ := h3 hn
    exact ⟨ad, e2, hb, fun k hk2 j hj => (hk _ (by rw [block_add]; exact hb)).trans (hc k hk2 j hj)⟩⟩
theorem Recs.more (h : Recs enc sz B w v L) (hB : B ≤ B') : Recs enc sz B' w v L := by
  obtain ⟨A, c, e, h1, h2, h3⟩ := h
  exact ⟨A, c, e, h1, h2, fun hn => by
    obtain ⟨ad, e2, hb, hc⟩ := h3 hn
    exact ⟨ad, e2, by omega, hc⟩⟩
theorem Recs.below (h : Recs enc sz B w v L) (hb : Below B w w') : Recs enc sz B w' v L := h.keep fun _ hp => hb.cell hp
theorem Recs.alloc (h : Recs enc sz B w v L) (hB : B ≤ w.heap.size) (o : Obj) : Recs enc sz B (w.alloc o) v L := h.keep fun p hp => World.cell?_alloc_lt w o p (by omega)
theorem Recs.drewN (h : Recs enc sz B w v L) (k : Nat) : Recs enc sz B (w.drewN k) v L := h
theorem Recs.len (h : Recs enc sz B w v L) : L.length ≤ maxLen := by
  obtain ⟨A, c, e, h1, h2, h3⟩ := h
  omega
theorem Recs.form (h : Recs enc sz B w v L) : ∃ A c, v = .slice A L.length c ∧ L.length ≤ c ∧ c ≤ maxLen := by
  obtain ⟨A, c, e, h1, h2, h3⟩ := h
  exact ⟨A, c, e, h1, h2⟩
theorem Recs.at_ {A : Option Addr} {n c : Nat} (h : Recs enc sz B w (.slice A n c) L) {k : Nat} (hk : k < n) : ∃ (ad : Addr) (hl : k < L.length), A = some ad ∧ ad.block < B ∧ ∀ j, j < sz → w.cell? (ad.add (k * sz + j)) = (enc L[k])[j]? := by
  obtain ⟨A', c', e, h1, h2, h3⟩ := h
  injection e with e1 e2 e3
  subst e1 e2 e3
  obtain ⟨ad, e2, hb, hc⟩ := h3 (by omega)
  exact ⟨ad, hk, e2, hb, hc k hk⟩
/-- the same, by plain addresses -/
theorem Recs.flat_ {A : Option Addr} {n c : Nat} (h : Recs enc sz B w (.slice A n c) L) (he : ∀ x : α, (enc x).length = sz) (h0 : 0 < sz) {k : Nat} (hk : k < n) : ∃ (b o : Nat) (hl : k < L.length), A = some ⟨b, o, none⟩ ∧ b < B ∧ ∀ j, j < sz → w.cell? ⟨b, o + k * sz + j, none⟩ = (enc L[k])[j]? := by
  obtain ⟨ad, hl, rfl, hb, hc⟩ := h.at_ hk
  obtain ⟨b, o, sp⟩ := ad
  have hsp : sp = none := by
    obtain ⟨ad2, hl2, e2, -, hc2⟩ := h.at_ (k := 0) (by omega)
    cases e2
    have := hc2 0 h0
    rw [List.getElem?_eq_getElem (by rw [he]; exact h0)] at this
    simpa [Addr.add] using World.cell?_spot this
  subst hsp
  refine ⟨b, o, hl, rfl, hb, fun j hj => ?_⟩
  have := hc j hj
  rw [show (⟨b, o, none⟩ : Addr).add (k * sz + j) = ⟨b, o + k * sz + j, none⟩ by unfold Addr.add; split <;> simp_all <;> omega] at this
  exact this
theorem recs_nil (enc : α → List Value) (sz B : Nat) (w : World) : Recs enc sz B w (.slice none 0 0) [] := ⟨none, 0, rfl, Nat.le_refl _, Nat.zero_le _, fun h => absurd h (by simp)⟩
theorem flat_at (he : ∀ x : α, (enc x).length = sz) : ∀ (L : List α) (k : Nat) (h : k < L.length) (j : Nat), j < sz → (L.flatMap enc)[k * sz + j]? = (enc L[k])[j]?
  | [], k, h, _, _ => by simp at h
  | x :: L, 0, h, j, hj => by
    rw [List.flatMap_cons, Nat.zero_mul, Nat.zero_add, List.getElem?_append_left (by rw [he]; exact hj)]; rfl
  | x :: L, k + 1, h, j, hj => by
    rw [List.flatMap_cons, List.getElem?_append_right (by rw [he, Nat.succ_mul]; omega), he]
    have := flat_at he L k (by simpa using h) j hj
    rw [show (k + 1) * sz + j - sz = k * sz + j by rw [Nat.succ_mul]; omega, this]; rfl
theorem flat_len (he : ∀ x : α, (enc x).length = sz) (L : List α) : (L.flatMap enc).length = L.length * sz := by
  induction L with
  | nil => simp
  | cons x L ih => rw [List.flatMap_cons, List.length_append, ih, he, List.length_cons, Nat.succ_mul]; omega
/-- a row of the call's own -/
theorem Recs.of_own (he : ∀ x : α, (enc x).length = sz) {base : Nat} {e : TypeId} {n : Nat} (hn : n = L.length) (h : w.ownsRow base e sz v n (L.flatMap enc)) : Recs enc sz w.heap.size w v L := by
  subst hn
  rcases h.2 with ⟨rfl, h0⟩ | ⟨g, cap, cur, rfl, hg, hh, hn, hcap, hsz, htk⟩
  · have : L = [] := List.length_eq_zero_iff.1 h0
    subst this
    exact recs_nil _ _ _ _
  · refine ⟨_, _, rfl, by omega, by omega, fun hn0 => ⟨_, rfl, ?_, fun k hk j hj => ?_⟩⟩
    · rcases Nat.lt_or_ge g w.heap.size with hlt | hge
      · exact hlt
      · rw [Array.getElem?_eq_none hge] at hh; cases hh
    · have hf := flat_at he L k hk j hj
      have hlt : j < (enc L[k]).length := by rw [he]; exact hj
      rw [List.getElem?_eq_getElem hlt] at hf ⊢
      have := h.cells (g := g) rfl (k * sz + j) ((enc L[k])[j]) hf
      exact this
theorem Recs.other {g o n c : Nat} (h : Recs enc sz B w (.slice (some ⟨g, o, none⟩) n c) L) (hk : ∀ p : Addr, p.block = g → w'.cell? p = w.cell? p) : Recs enc sz B w' (.slice (some ⟨g, o, none⟩) n c) L := by
  obtain ⟨A, c', e, h1, h2, h3⟩ := h
  injection e with e1 e2 e3
  subst e1 e2 e3
  exact ⟨_, _, rfl, h1, h2, fun hn => by
    obtain ⟨ad, e2, hb, hc⟩ := h3 hn
    cases e2
    exact ⟨_, rfl, hb, fun k hk2 j hj => (hk _ (by rw [block_add])).trans (hc k hk2 j hj)⟩⟩
/-- all the cells of a slice of records, one by one -/
theorem Recs.news {A : Option Addr} {n c : Nat} (h : Recs enc sz B w (.slice A n c) L) (he : ∀ x : α, (enc x).length = sz) (h0 : 0 < sz) (hn : 0 < n) : ∃ b o : Nat, A = some ⟨b, o, none⟩ ∧ b < B ∧ ∀ j u, (L.flatMap enc)[j]? = some u → w.cell? ((⟨b, o, none⟩ : Addr).add j) = some u := by
  obtain ⟨b, o, hl0, rfl, hb, -⟩ := h.flat_ he h0 hn
  have hln : n = L.length := by obtain ⟨A', c', e, _⟩ := h; injection e
  refine ⟨b, o, rfl, hb, fun j u hj => ?_⟩
  have hjl : j < L.length * sz := by
    rw [← flat_len he L]
    rcases Nat.lt_or_ge j (L.flatMap enc).length with hlt | hge
    · exact hlt
    · rw [List.getElem?_eq_none hge] at hj; cases hj
  have hk : j / sz < n := by rw [hln]; exact (Nat.div_lt_iff_lt_mul h0).2 hjl
  obtain ⟨b', o', hl, e, -, hc⟩ := h.flat_ he h0 hk
  cases e
  have hi : j % sz < sz := Nat.mod_lt _ h0
  have h1 := hc (j % sz) hi
  have h2 := flat_at he L (j / sz) hl (j % sz) hi
  have e2 : j / sz * sz + j % sz = j := by rw [Nat.mul_comm]; exact Nat.div_add_mod j sz
  rw [e2, hj] at h2
  rw [show (⟨b, o, none⟩ : Addr).add j = ⟨b, o + j / sz * sz + j % sz, none⟩ by unfold Addr.add; split <;> simp_all <;> omega]
  rw [h1, ← h2]
end
/-- the cells of a block just laid -/
theorem cells_new (w : World) (cs : List Value) (t : TypeId) : ∀ j u, cs[j]? = some u → (w.alloc (.cells cs.toArray t)).cell? ((⟨w.heap.size, 0, none⟩ : Addr).add j) = some u := by
  intro j u hj
  have hadd : (⟨w.heap.size, 0, none⟩ : Addr).add j = ⟨w.heap.size, j, none⟩ := by unfold Addr.add; split <;> simp_all
  rw [hadd]
  simp [hj]
end Go.Proofs.YtenlogfiabhfmaaGreatDoor.Recs
/-
  Slices of records: parts of one (the first ones, those from a place on, those between), as the walk spells the cut's value. Plain lemmas on worlds, for every program; no condition but those that each theorem bears.
-/
namespace Go.Proofs.YtenlogfiabhfmaaGreatDoor.Recs
open Go Go.RowKit
open Go.Proofs.YtenlogfiabhfmaaGreatDoor.Strs (block_add strV)
section
variable {α : Type} {enc : α → List Value} {sz : Nat} {B : Nat} {w : World} {A : Option Addr} {n c : Nat} {L : List α}
theorem Recs.count (h : Recs enc sz B w (.slice A n c) L) : n = L.length ∧ n ≤ c ∧ c ≤ maxLen := by
  obtain ⟨A', c', e, h1, h2, h3⟩ := h
  injection e with e1 e2 e3
  subst e1 e2 e3
  exact ⟨rfl, h1, h2⟩
theorem Recs.take (h : Recs enc sz B w (.slice A n c) L) {k : Nat} (hk : k ≤ n) : Recs enc sz B w (.slice A k c) (L.take k) := by
  obtain ⟨hn, hc1, hc2⟩ := h.count
  subst hn
  obtain ⟨A0, c0, e, h1, h2, h3⟩ := h
  cases e
  have hl : (L.take k).length = k := by rw [List.length_take]; omega
  refine ⟨A, c, by rw [hl], by omega, hc2, fun h0 => ?_⟩
  obtain ⟨ad, rfl, hb, hc⟩ := h3 (by omega)
  refine ⟨ad, rfl, hb, fun i hi j hj => ?_⟩
  rw [hc i (by omega) j hj, List.getElem_take]
theorem Recs.drop (h : Recs enc sz B w (.slice A n c) L) (he : ∀ x : α, (enc x).length = sz) (h0 : 0 < sz) {k : Nat} (hk : k ≤ n) : Recs enc sz B w (.slice (A.map fun x => x.add (k * sz)) (n - k) (c - k)) (L.drop k) := by
  obtain ⟨hn, hc1, hc2⟩ := h.count
  have hfl : 0 < n → ∃ b o, A = some ⟨b, o, none⟩ := fun hp => by
    obtain ⟨b, o, _, e, _⟩ := h.flat_ he h0 hp
    exact ⟨b, o, e⟩
  subst hn
  obtain ⟨A0, c0, e, h1, h2, h3⟩ := h
  cases e
  refine ⟨_, c - k, by rw [List.length_drop], by rw [List.length_drop]; omega, by omega, fun hp => ?_⟩
  rw [List.length_drop] at hp
  obtain ⟨b, o, rfl⟩ := hfl (by omega)
  obtain ⟨ad, e, hb, hc⟩ := h3 (by omega)
  cases e
  refine ⟨_, rfl, by rw [block_add]; exact hb, fun i hi j hj => ?_⟩
  rw [List.length_drop] at hi
  have := hc (k + i) (by omega) j hj
  rw [Addr.add_lit] at this
  show w.cell? (((⟨b, o, none⟩ : Addr).add (k * sz)).add (i * sz + j)) = _
  rw [Addr.add_lit, Addr.add_lit, show o + k * sz + (i * sz + j) = o + ((k + i) * sz + j) by rw [Nat.add_mul]; omega, this]
  congr 2
  simp
/-- those between two places, the address moved -/
theorem Recs.mid (h : Recs enc sz B w (.slice A n c) L) (he : ∀ x : α, (enc x).length = sz) (h0 : 0 < sz) {i j : Nat} (hij : i ≤ j) (hj : j ≤ n) : Recs enc sz B w (.slice (A.map fun x => x.add (i * sz)) (j - i) (c - i)) ((L.take j).drop i) := (h.take hj).drop he h0 hij
/-- one alone, at its place -/
theorem Recs.one (h : Recs enc sz B w (.slice A n c) L) (he : ∀ x : α, (enc x).length = sz) (h0 : 0 < sz) {i : Nat} (hj : i + 1 ≤ n) : Recs enc sz B w (.slice (A.map fun x => x.add (i * sz)) 1 (c - i)) ((L.take (i + 1)).drop i) := by
  have := h.mid he h0 (Nat.le_succ i) hj
  rwa [show i + 1 - i = 1 by omega] at this
end
end Go.Proofs.YtenlogfiabhfmaaGreatDoor.Recs
/-
  append(own, records...) where the first is a row of the call's own and the other one whatever slice of records: with an address or without, empty or not: one law. For every program; the conditions stand in the statement.
-/
namespace Go.Proofs.YtenlogfiabhfmaaGreatDoor.Recs
open Go Go.RowKit

theorem run_append_void {P : Program} {w : World} (base : Nat) (t ty e : TypeId) (i : TypeInfo) (size : Nat) (ht : P.underlying t = some (.slice e)) (hi : P.info? e = some i)
    (v : Value) (n c : Nat) (xs : List Value) (hown : w.ownsRow base e size v n xs) :
    (Builtin.append_ #[t, t] ty #[v, .slice none 0 c]).run P w = .ok v w := by
  rcases hown.2 with ⟨rfl, rfl⟩ | ⟨g, cap, cur, rfl, _, _, hnc, _⟩
  · simp [Builtin.append_, run_underlying ht, sizeOf, typeInfo, hi, Builtin.lenOf, Builtin.firstCells]
  · simp [Builtin.append_, run_underlying ht, sizeOf, typeInfo, hi, Builtin.lenOf, Builtin.firstCells, hnc, storeCells]
/-- where the block of what an append gives lies -/
theorem own_block_next {P : Program} (w : World) (base : Nat) (t ty e : TypeId) (i : TypeInfo) (z : Value) (size bytes : Nat) (ht : P.underlying t = some (.slice e)) (hi : P.info? e = some i) (hz : i.zero = some z)
    (hsize : i.size = size) (hby : i.bytes = bytes) (hzs : z.cells.size = size) (hsz : 0 < size)
    (v : Value) (n : Nat) (xs : List Value) (hown : w.ownsRow base e size v n xs)
    (a : Addr) (m c : Nat) (news : List Value) (hl : news.length = m * size) (hnews : ∀ j u, news[j]? = some u → w.cell? (a.add j) = some u) (h1 : ∀ u ∈ news, u.oneCell' = true)
    (h63 : n + m ≤ maxLen) (hbytes : (n + m) * bytes ≤ 140737488355328) {v' : Value} {w' : World} (hr : (Builtin.append_ #[t, t] ty #[v, .slice (some a) m c]).run P w = .ok v' w') :
    ∀ k, v'.ownBlock = some k → v.ownBlock = some k ∨ w.heap.size ≤ k := by
  subst hsize
  subst hby
  have hsmall : n + m ≤ 9223372036854775807 := by simp only [maxLen] at h63; omega
  intro k hk
  rcases hown.2 with ⟨rfl, rfl⟩ | ⟨g, cap, cur, rfl, hbg, hg, hnc, hcm, hcs, htake⟩
  · obtain ⟨v2, w2, hr2, ho2, -, -⟩ := run_append_own w w.heap.size t ty e i z i.size i.bytes ht hi hz rfl rfl hzs hsz (.slice none 0 0) 0 xs (by have hx : xs = [] := List.eq_nil_of_length_eq_zero (by simpa using hown.1); rw [hx]; exact World.ownsRow_nil _ _ _ _) a m c news hl hnews h1 h63 hbytes (Nat.le_refl _)
    rw [hr] at hr2
    cases hr2
    exact Or.inr (ho2.lt k hk).1
  · by_cases hroom : n + m ≤ cap
    · have hfit : n * i.size + news.length ≤ cur.size := by rw [hl, hcs, ← Nat.add_mul]; exact Nat.mul_le_mul_right _ hroom
      rw [run_append_room w t ty e i ht hi g n cap cur hg a m c news hl hnews h1 hroom hfit] at hr
      cases hr
      exact Or.inl hk
    · have holds : ∀ j u, xs[j]? = some u → w.cell? ((⟨g, 0, none⟩ : Addr).add j) = some u := hown.cells (g := g) rfl
      rw [run_append_grow w t ty e i z ht hi hz ⟨g, 0, none⟩ n cap xs hown.1 holds a m c news hl hnews (by omega) (by omega) (growslice_fits (by omega) hbytes)] at hr
      cases hr
      simp [Value.ownBlock] at hk
      exact Or.inr (by omega)
theorem wp_append_recs {α : Type} {enc : α → List Value} {P : Program} {w : World} {o : Oper} {a : Act} {K : Act → World → Prop} {Q : Exit → Act → World → Prop} (s x : Operand) (t : TypeId)
    (ho : o.op = .call { callee := .builtin .append, args := #[s, x], argTypes := #[t, t] })
    (base : Nat) (e : TypeId) (i : TypeInfo) (z : Value) (size bytes : Nat) (ht : P.underlying t = some (.slice e)) (hi : P.info? e = some i) (hz : i.zero = some z)
    (hsize : i.size = size) (hby : i.bytes = bytes) (hzs : z.cells.size = size) (hsz : 0 < size)
    (v : Value) (n : Nat) (xs : List Value) (hs : a.eval s = v) (hown : w.ownsRow base e size v n xs)
    (u : Value) (L : List α) (B : Nat) (hx : a.eval x = u) (hu : Recs enc size B w u L) (he : ∀ r : α, (enc r).length = size) (h1 : ∀ r : α, ∀ c ∈ enc r, c.oneCell' = true)
    (h63 : n + L.length ≤ maxLen) (hbytes : (n + L.length) * bytes ≤ 140737488355328) (hbase : base ≤ w.heap.size)
    (h : ∀ v' w', w'.ownsRow base e size v' (n + L.length) (xs ++ L.flatMap enc) → w.grownBy w' v.ownBlock → (∀ k, v'.ownBlock = some k → v.ownBlock = some k ∨ w.heap.size ≤ k) → K (a.put o.dst v') w') : o.wp P a w K Q := by
  obtain ⟨A, c, rfl, hc1, hc2⟩ := hu.form
  have hfl : (L.flatMap enc).length = L.length * size := flat_len he L
  have hone : ∀ u ∈ L.flatMap enc, u.oneCell' = true := fun q hq => by
    obtain ⟨r, _, hr⟩ := List.mem_flatMap.1 hq
    exact h1 r q hr
  cases A with
  | none =>
    have h0 : L.length = 0 := by
      rcases Nat.eq_zero_or_pos L.length with q | q
      · exact q
      · obtain ⟨b, o, hf, _⟩ := hu.news he hsz q
        cases hf
    have hL : L = [] := List.length_eq_zero_iff.1 h0
    subst hL
    have hrun := run_append_void (P := P) (w := w) base t o.type e i size ht hi v n c xs hown
    have hx' : a.eval x = .slice none 0 c := hx
    unfold Oper.wp
    simp [execOp, ho, resolve, invoke, builtin, hs, hx', hrun, Result.andThen]
    exact h v w (by simpa using hown) ⟨rfl, rfl, rfl, Nat.le_refl _, fun _ _ _ => rfl⟩ (fun k hk => Or.inl hk)
  | some ad =>
    have hnews : ∀ j q, (L.flatMap enc)[j]? = some q → w.cell? (ad.add j) = some q := by
      intro j q hq
      rcases Nat.eq_zero_or_pos L.length with h0 | h0
      · have : L = [] := List.length_eq_zero_iff.1 h0
        subst this
        simp at hq
      · obtain ⟨b, o, hf, _, hcell⟩ := hu.news he hsz h0
        cases hf
        exact hcell j q hq
    obtain ⟨v', w', hr, h2, h3, -⟩ := run_append_own (P := P) w base t o.type e i z size bytes ht hi hz hsize hby hzs hsz v n xs hown ad L.length c (L.flatMap enc) hfl hnews hone h63 hbytes hbase
    have h4 := own_block_next w base t o.type e i z size bytes ht hi hz hsize hby hzs hsz v n xs hown ad L.length c (L.flatMap enc) hfl hnews hone h63 hbytes hr
    have hx' : a.eval x = .slice (some ad) L.length c := hx
    unfold Oper.wp execOp
    simp only [ho, resolve, invoke, builtin, Sem.run_bind, Sem.run_pure, Result.andThen_ok, List.map_toArray, List.map_cons, List.map_nil, hs, hx', hr]
    exact h v' w' h2 h3 h4
theorem wpList_append_recs {α : Type} {enc : α → List Value} {P : Program} {w : World} {ops : Array Oper} {rest : List Oper} {o : Oper} {a : Act} {Q : Exit → Act → World → Prop} (hgd : o.guard = none) (s x : Operand) (t : TypeId)
    (ho : o.op = .call { callee := .builtin .append, args := #[s, x], argTypes := #[t, t] })
    (base : Nat) (e : TypeId) (i : TypeInfo) (z : Value) (size bytes : Nat) (ht : P.underlying t = some (.slice e)) (hi : P.info? e = some i) (hz : i.zero = some z)
    (hsize : i.size = size) (hby : i.bytes = bytes) (hzs : z.cells.size = size) (hsz : 0 < size)
    (v : Value) (n : Nat) (xs : List Value) (hs : a.eval s = v) (hown : w.ownsRow base e size v n xs)
    (u : Value) (L : List α) (B : Nat) (hx : a.eval x = u) (hu : Recs enc size B w u L) (he : ∀ r : α, (enc r).length = size) (h1 : ∀ r : α, ∀ c ∈ enc r, c.oneCell' = true)
    (h63 : n + L.length ≤ maxLen) (hbytes : (n + L.length) * bytes ≤ 140737488355328) (hbase : base ≤ w.heap.size)
    (h : ∀ v' w', w'.ownsRow base e size v' (n + L.length) (xs ++ L.flatMap enc) → w.grownBy w' v.ownBlock → (∀ k, v'.ownBlock = some k → v.ownBlock = some k ∨ w.heap.size ≤ k) → wpList P ops Q rest (a.put o.dst v') w') : wpList P ops Q (o :: rest) a w :=
  wpList_plain hgd fun _ hK => wp_append_recs s x t ho base e i z size bytes ht hi hz hsize hby hzs hsz v n xs hs hown u L B hx hu he h1 h63 hbytes hbase fun v' w' h2 h3 h4 => hK _ _ (h v' w' h2 h3 h4)
end Go.Proofs.YtenlogfiabhfmaaGreatDoor.Recs
/-
  Layer 14 (pattern), pieces in memory: when five cells and the blocks below them read as a piece; how the reading is kept; lists of pieces while they are made. Plain lemmas on worlds, no condition but those that each theorem bears.
-/
namespace Go.Proofs.YtenlogfiabhfmaaGreatDoor.W14
open Go Go.RowKit Go.Proofs.YtenlogfiabhfmaaGreatDoor.Strs Go.Proofs.YtenlogfiabhfmaaGreatDoor.Recs Go.Proofs.YtenlogfiabhfmaaGreatDoor.M14
open Go.Proofs.YtenlogfiabhfmaaGreatDoor.Row256 (Beside)

/-- a piece's cells: its kids are a slice -/
structure Raw where
  kind : Int
  text : ByteArray
  ad : Option Addr
  len : Nat
  cap : Nat
  least : Int
  top : Int
def rawC (r : Raw) : List Value := [.int .i64 r.kind, .string r.text, .slice r.ad r.len r.cap, .int .i64 r.least, .int .i64 r.top]
def rawA (r : Raw) : Array Value := #[.int .i64 r.kind, .string r.text, .slice r.ad r.len r.cap, .int .i64 r.least, .int .i64 r.top]
theorem rawC_len (r : Raw) : (rawC r).length = 5 := rfl
theorem rawC_one (r : Raw) : ∀ c ∈ rawC r, c.oneCell' = true := by
  intro c hc
  simp only [rawC, List.mem_cons, List.not_mem_nil, or_false] at hc
  rcases hc with rfl | rfl | rfl | rfl | rfl <;> rfl
abbrev Raws (B : Nat) (w : World) (v : Value) (L : List Raw) : Prop := Recs rawC 5 B w v L

/-- five cells read as a piece, all blocks below it are among X -/
inductive PAt (X : Nat → Prop) (w : World) : Raw → Piece → Prop
  | mk (k : Int) (t : ByteArray) (A : Option Addr) (n c : Nat) (l tp : Int) (raws : List Raw) (ks : List Piece) (B : Nat)
      (h : Raws B w (.slice A n c) raws) (hX : ∀ ad, A = some ad → 0 < raws.length → X ad.block) (hl : raws.length = ks.length)
      (hk : ∀ (i : Nat) (h1 : i < raws.length) (h2 : i < ks.length), PAt X w (raws[i]'h1) (ks[i]'h2)) : PAt X w ⟨k, t, A, n, c, l, tp⟩ (.mk k t ks l tp)
def PAll (X : Nat → Prop) (w : World) (raws : List Raw) (ks : List Piece) : Prop := raws.length = ks.length ∧ ∀ (i : Nat) (h1 : i < raws.length) (h2 : i < ks.length), PAt X w (raws[i]'h1) (ks[i]'h2)
theorem raws_keep {B : Nat} {w w' : World} {A : Option Addr} {n c : Nat} {L : List Raw} (h : Raws B w (.slice A n c) L) (hk : ∀ ad, A = some ad → 0 < L.length → ∀ p : Addr, p.block = ad.block → w'.cell? p = w.cell? p) : Raws B w' (.slice A n c) L := by
  obtain ⟨A', c', e, h1, h2, h3⟩ := h
  injection e with e1 e2 e3
  subst e1 e2 e3
  exact ⟨_, _, rfl, h1, h2, fun hn => by
    obtain ⟨ad, e2, hb, hc⟩ := h3 hn
    subst e2
    exact ⟨_, rfl, hb, fun k hk2 j hj => (hk ad rfl hn _ (by rw [block_add])).trans (hc k hk2 j hj)⟩⟩
theorem PAt.keep {X Y : Nat → Prop} {w w' : World} {r : Raw} {p : Piece} (h : PAt X w r p) (hXY : ∀ b, X b → Y b) (hk : ∀ a : Addr, X a.block → w'.cell? a = w.cell? a) : PAt Y w' r p := by
  induction h with
  | mk k t A n c l tp raws ks B h hX hl hks ih =>
    exact .mk k t A n c l tp raws ks B (raws_keep h fun ad e hn p hp => hk p (by rw [hp]; exact hX ad e hn)) (fun ad e hn => hXY _ (hX ad e hn)) hl (fun i h1 h2 => ih i h1 h2)
theorem PAll.keep {X Y : Nat → Prop} {w w' : World} {rs : List Raw} {ps : List Piece} (h : PAll X w rs ps) (hXY : ∀ b, X b → Y b) (hk : ∀ a : Addr, X a.block → w'.cell? a = w.cell? a) : PAll Y w' rs ps :=
  ⟨h.1, fun i h1 h2 => (h.2 i h1 h2).keep hXY hk⟩
theorem PAll.nil (X : Nat → Prop) (w : World) : PAll X w [] [] := ⟨rfl, fun i h1 => absurd h1 (by simp)⟩
theorem PAll.snoc {X : Nat → Prop} {w : World} {rs : List Raw} {ps : List Piece} {r : Raw} {p : Piece} (h : PAll X w rs ps) (hp : PAt X w r p) : PAll X w (rs ++ [r]) (ps ++ [p]) := by
  refine ⟨by simp [h.1], fun i h1 h2 => ?_⟩
  by_cases hi : i < rs.length
  · rw [List.getElem_append_left hi, List.getElem_append_left (by rw [← h.1]; exact hi)]
    exact h.2 i hi _
  · have h1' : i < rs.length + 1 := by simpa using h1
    have e : i = rs.length := by omega
    subst e
    rw [List.getElem_append_right (Nat.le_refl _), List.getElem_append_right (by rw [h.1]; exact Nat.le_refl _)]
    simpa [h.1] using hp
/-- a piece without kids -/
theorem PAt.leaf (X : Nat → Prop) (w : World) (k : Int) (t : ByteArray) : PAt X w ⟨k, t, none, 0, 0, 0, 0⟩ (M14.leaf k t) :=
  .mk k t none 0 0 0 0 [] [] 0 (recs_nil _ _ _ _) (fun ad e => by cases e) rfl (fun i h1 => absurd h1 (by simp))
/-- blocks from lo on, below hi -/
def In (lo hi b : Nat) : Prop := lo ≤ b ∧ b < hi
theorem cell_block {w w' : World} {a : Addr} (h : w'.heap[a.block]? = w.heap[a.block]?) : w'.cell? a = w.cell? a := by
  unfold World.cell?; rw [h]
theorem PAt.by_beside {lo rb : Nat} {w w' : World} {r : Raw} {p : Piece} (h : PAt (In lo w.heap.size) w r p) (hb : Beside rb w w') (hr : rb < lo) : PAt (In lo w'.heap.size) w' r p :=
  h.keep (fun _ ⟨h1, h2⟩ => ⟨h1, Nat.lt_of_lt_of_le h2 hb.size⟩) fun _ ⟨h1, h2⟩ => cell_block (hb.block _ h2 (by omega))
theorem PAt.by_below {lo : Nat} {w w' : World} {r : Raw} {p : Piece} (h : PAt (In lo w.heap.size) w r p) (hb : Below w.heap.size w w') : PAt (In lo w'.heap.size) w' r p :=
  h.keep (fun _ ⟨h1, h2⟩ => ⟨h1, Nat.lt_of_lt_of_le h2 hb.size⟩) fun _ ⟨_, h2⟩ => cell_block (hb.block _ h2)
theorem PAt.by_less {lo lo' hi : Nat} {w : World} {r : Raw} {p : Piece} (h : PAt (In lo hi) w r p) (k : lo' ≤ lo) : PAt (In lo' hi) w r p := h.keep (fun _ ⟨h1, h2⟩ => ⟨Nat.le_trans k h1, h2⟩) fun _ _ => rfl

/-- a list of pieces in a row of the call's own (base: where its blocks begin) -/
def Build (e : TypeId) (base : Nat) (w : World) (v : Value) (ks : List Piece) : Prop :=
  ∃ raws : List Raw, w.ownsRow base e 5 v raws.length (raws.flatMap rawC) ∧ PAll (fun b => In base w.heap.size b ∧ v.ownBlock ≠ some b) w raws ks
theorem Build.nil (e : TypeId) (base : Nat) (w : World) : Build e base w (.slice none 0 0) [] := ⟨[], World.ownsRow_nil _ _ _ _, PAll.nil _ _⟩
theorem own_same {base : Nat} {e : TypeId} {size n : Nat} {v : Value} {xs : List Value} {w w' : World} (h : w.ownsRow base e size v n xs) (hk : ∀ k, base ≤ k → k < w.heap.size → w'.heap[k]? = w.heap[k]?) : w'.ownsRow base e size v n xs := by
  refine ⟨h.1, ?_⟩
  rcases h.2 with h0 | ⟨g, cap, cur, e1, hb, hh, rest⟩
  · exact Or.inl h0
  · subst e1
    exact Or.inr ⟨g, cap, cur, rfl, hb, (hk g hb (Array.getElem?_eq_some_iff.1 hh).1).trans hh, rest⟩
theorem Build.same {e : TypeId} {base : Nat} {w w' : World} {v : Value} {ks : List Piece} (h : Build e base w v ks) (hs : w.heap.size ≤ w'.heap.size) (hk : ∀ k, base ≤ k → k < w.heap.size → w'.heap[k]? = w.heap[k]?) : Build e base w' v ks := by
  obtain ⟨raws, h1, h2⟩ := h
  exact ⟨raws, own_same h1 hk, h2.keep (fun b ⟨⟨a, c⟩, d⟩ => ⟨⟨a, Nat.lt_of_lt_of_le c hs⟩, d⟩) fun a ⟨⟨b, c⟩, _⟩ => cell_block (hk _ b c)⟩
theorem Build.beside {e : TypeId} {base rb : Nat} {w w' : World} {v : Value} {ks : List Piece} (h : Build e base w v ks) (hb : Beside rb w w') (hr : rb < base) : Build e base w' v ks :=
  h.same hb.size fun k h1 h2 => hb.block k h2 (by omega)
theorem Build.below {e : TypeId} {base : Nat} {w w' : World} {v : Value} {ks : List Piece} (h : Build e base w v ks) (hb : Below w.heap.size w w') : Build e base w' v ks :=
  h.same hb.size fun k _ h2 => hb.block k h2
theorem Build.len {e : TypeId} {base : Nat} {w : World} {v : Value} {ks : List Piece} (h : Build e base w v ks) : ∃ A c, v = .slice A ks.length c ∧ ks.length ≤ c ∧ c ≤ maxLen := by
  obtain ⟨raws, h1, h2⟩ := h
  obtain ⟨A, c, e, a, b⟩ := (Recs.of_own rawC_len rfl h1).form
  rw [h2.1] at e a
  exact ⟨A, c, e, a, b⟩
/-- one more piece, its blocks all newer than the row's -/
theorem Build.more {e : TypeId} {base : Nat} {w w1 : World} {v v' : Value} {ks : List Piece} {raws : List Raw} {r : Raw} {p : Piece} {lo : Nat}
    (h2 : PAll (fun b => In base w.heap.size b ∧ v.ownBlock ≠ some b) w raws ks) (hn : ∀ g, v.ownBlock = some g → g < lo) (hlo : base ≤ lo) (hp : PAt (In lo w.heap.size) w r p)
    (hown : w1.ownsRow base e 5 v' (raws.length + 1) (raws.flatMap rawC ++ [r].flatMap rawC)) (hg : w.grownBy w1 v.ownBlock) (hb : ∀ k, v'.ownBlock = some k → v.ownBlock = some k ∨ w.heap.size ≤ k) : Build e base w1 v' (ks ++ [p]) := by
  obtain ⟨g1, g2, g3, g4, g5⟩ := hg
  refine ⟨raws ++ [r], by rw [List.length_append, List.flatMap_append]; exact hown, PAll.snoc (h2.keep ?_ ?_) (hp.keep ?_ ?_)⟩
  · rintro b ⟨⟨a, c⟩, d⟩
    refine ⟨⟨a, Nat.lt_of_lt_of_le c g4⟩, fun q => ?_⟩
    rcases hb b q with q2 | q2
    · exact d q2
    · omega
  · rintro a ⟨⟨b, c⟩, d⟩
    exact cell_block (g5 _ c (fun q => d (by rw [q])))
  · rintro b ⟨a, c⟩
    refine ⟨⟨by omega, Nat.lt_of_lt_of_le c g4⟩, fun q => ?_⟩
    rcases hb b q with q2 | q2
    · have := hn b q2; omega
    · omega
  · rintro a ⟨b, c⟩
    refine cell_block (g5 _ c (fun q => ?_))
    have := hn a.block (by rw [q])
    omega
end Go.Proofs.YtenlogfiabhfmaaGreatDoor.W14
