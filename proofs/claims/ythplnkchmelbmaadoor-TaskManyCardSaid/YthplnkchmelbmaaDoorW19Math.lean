/-
  Plain mathematics for layer 19 (task): texts as words, tasks as lines; lists of bytes alone. No condition but those that each theorem bears.
-/
import Derived.Test.YthplnkchmelbmaaDoorKit
import Derived.Test.YthplnkchmelbmaaDoorTaskRec
import Derived.Test.YthplnkchmelbmaaDoorW04Math
namespace Go.Proofs.YthplnkchmelbmaaDoor.M19
open Go
open Go.Proofs.YthplnkchmelbmaaDoor.W09 (Tk)
open Go.Proofs.YthplnkchmelbmaaDoor.M04 (isPath)

abbrev Bytes := List UInt8
/-- a byte that stands as it is -/
def plain (c : UInt8) : Bool := decide (33 ≤ c.toNat) && decide (c.toNat ≤ 126) && decide (c.toNat ≠ 37)
def hexB (n : Nat) : UInt8 := if n < 10 then UInt8.ofNat (48 + n) else UInt8.ofNat (55 + n)
def word (c : UInt8) : Bytes := if plain c then [c] else [37, hexB (c.toNat / 16), hexB (c.toNat % 16)]
/-- a text as a word -/
def shield (l : Bytes) : Bytes := l.flatMap word
/-- a digit's number -/
def dig (c : UInt8) : Option Nat := if 48 ≤ c.toNat ∧ c.toNat ≤ 57 then some (c.toNat - 48) else if 65 ≤ c.toNat ∧ c.toNat ≤ 70 then some (c.toNat - 55) else none
def hexed (a b : UInt8) : Option UInt8 := match dig a, dig b with
  | some x, some y => if plain (UInt8.ofNat (16 * x + y)) then none else some (UInt8.ofNat (16 * x + y))
  | _, _ => none
def second (r : Bytes) : Option (UInt8 × Nat) := match r with
  | a :: b :: _ => (hexed a b).map fun x => (x, 3)
  | _ => none
/-- the byte that a word tells first, and by how many bytes -/
def first (l : Bytes) : Option (UInt8 × Nat) := match l with
  | [] => none
  | c :: r => if plain c = true then some (c, 1) else if c = 37 then second r else none
theorem first_plain {c : UInt8} {r : Bytes} (h : plain c = true) : first (c :: r) = some (c, 1) := if_pos h
theorem first_sign {r : Bytes} : first (37 :: r) = second r := by
  show (if plain 37 = true then some (37, 1) else if (37 : UInt8) = 37 then second r else none) = _
  rw [if_neg (by decide), if_pos rfl]
theorem first_no {c : UInt8} {r : Bytes} (h : plain c = false) (h2 : c ≠ 37) : first (c :: r) = none := by
  show (if plain c = true then some (c, 1) else if c = 37 then second r else none) = _
  rw [if_neg (by rw [h]; decide), if_neg h2]

theorem all_bytes {p : UInt8 → Bool} (h : ∀ n, n < 256 → p (UInt8.ofNat n) = true) (c : UInt8) : p c = true := by
  have := h c.toNat c.toNat_lt
  rwa [UInt8.ofNat_toNat] at this
theorem hexed_word (c : UInt8) (h : plain c = false) : hexed (hexB (c.toNat / 16)) (hexB (c.toNat % 16)) = some c := by
  have := all_bytes (p := fun c => plain c || decide (hexed (hexB (c.toNat / 16)) (hexB (c.toNat % 16)) = some c)) (by decide +kernel) c
  simpa [h] using this
theorem dig_hex (c : UInt8) (n : Nat) (h : dig c = some n) : n < 16 ∧ hexB n = c := by
  unfold dig at h
  split at h
  · rename_i h1
    injection h with h
    subst h
    refine ⟨by omega, ?_⟩
    unfold hexB
    rw [if_pos (by omega), show 48 + (c.toNat - 48) = c.toNat by omega, UInt8.ofNat_toNat]
  · split at h
    · rename_i h1 h2
      injection h with h
      subst h
      refine ⟨by omega, ?_⟩
      unfold hexB
      rw [if_neg (by omega), show 55 + (c.toNat - 55) = c.toNat by omega, UInt8.ofNat_toNat]
    · cases h
theorem word_plain {c : UInt8} (h : plain c = true) : word c = [c] := by unfold word; rw [if_pos h]
theorem word_not {c : UInt8} (h : plain c = false) : word c = [37, hexB (c.toNat / 16), hexB (c.toNat % 16)] := by unfold word; rw [if_neg (by rw [h]; decide)]
theorem hexed_some {a b c : UInt8} (h : hexed a b = some c) : plain c = false ∧ a = hexB (c.toNat / 16) ∧ b = hexB (c.toNat % 16) := by
  unfold hexed at h
  split at h
  · rename_i x y hx hy
    obtain ⟨x1, x2⟩ := dig_hex _ _ hx
    obtain ⟨y1, y2⟩ := dig_hex _ _ hy
    cases hp : plain (UInt8.ofNat (16 * x + y)) with
    | true => rw [if_pos hp] at h; cases h
    | false =>
      rw [if_neg (by rw [hp]; decide)] at h
      injection h with h
      subst h
      have : (UInt8.ofNat (16 * x + y)).toNat = 16 * x + y := by
        rw [UInt8.toNat_ofNat']; omega
      rw [this]
      exact ⟨hp, by rw [show (16 * x + y) / 16 = x by omega, x2], by rw [show (16 * x + y) % 16 = y by omega, y2]⟩
  · cases h
theorem first_word (c : UInt8) (r : Bytes) : first (word c ++ r) = some (c, (word c).length) := by
  cases h : plain c with
  | true => rw [word_plain h]; exact first_plain h
  | false =>
    rw [word_not h]
    refine first_sign.trans ?_
    show (hexed _ _).map _ = _
    rw [hexed_word c h]; rfl
theorem first_some {l : Bytes} {c : UInt8} {n : Nat} (h : first l = some (c, n)) : n = (word c).length ∧ l = word c ++ l.drop n := by
  match l, h with
  | x :: r, h =>
    cases hp : plain x with
    | true =>
      rw [first_plain hp] at h
      injection h with h
      injection h with h1 h2
      subst h1 h2
      rw [word_plain hp]; exact ⟨rfl, rfl⟩
    | false =>
      by_cases h37 : x = 37
      · subst h37
        rw [first_sign] at h
        match r, h with
        | a :: b :: r, h =>
          obtain ⟨y, hy, e⟩ := Option.map_eq_some_iff.1 h
          injection e with e1 e2
          subst e1 e2
          obtain ⟨q, rfl, rfl⟩ := hexed_some hy
          rw [word_not q]; exact ⟨rfl, rfl⟩
      · rw [first_no hp h37] at h; cases h
theorem word_pos (c : UInt8) : 0 < (word c).length := by
  unfold word; split <;> simp
theorem word_le (c : UInt8) : (word c).length ≤ 3 := by
  unfold word; split <;> simp
theorem shield_nil : shield [] = [] := rfl
theorem shield_cons (c : UInt8) (l : Bytes) : shield (c :: l) = word c ++ shield l := rfl
theorem shield_app (a b : Bytes) : shield (a ++ b) = shield a ++ shield b := by unfold shield; rw [List.flatMap_append]
theorem shield_more (a : Bytes) (c : UInt8) : shield (a ++ [c]) = shield a ++ word c := by rw [shield_app, shield_cons, shield_nil, List.append_nil]
theorem shield_len (l : Bytes) : (shield l).length ≤ 3 * l.length := by
  induction l with
  | nil => simp [shield_nil]
  | cons c l ih => rw [shield_cons, List.length_append, List.length_cons]; have := word_le c; omega
theorem shield_ge (l : Bytes) : l.length ≤ (shield l).length := by
  induction l with
  | nil => simp
  | cons c l ih => rw [shield_cons, List.length_append, List.length_cons]; have := word_pos c; omega
theorem shield_cut : ∀ (a r x : Bytes), shield a ++ r = shield x → ∃ y, x = a ++ y ∧ r = shield y
  | [], r, x, h => ⟨x, rfl, h⟩
  | c :: a, r, x, h => by
    match x with
    | [] =>
      rw [shield_cons, shield_nil] at h
      have := congrArg List.length h
      rw [List.length_append, List.length_append, List.length_nil] at this
      have := word_pos c
      omega
    | c' :: x =>
      rw [shield_cons, shield_cons, List.append_assoc] at h
      have h1 := first_word c (shield a ++ r)
      rw [h, first_word] at h1
      injection h1 with h1
      injection h1 with h1 h2
      subst h1
      obtain ⟨y, rfl, hr⟩ := shield_cut a r x (List.append_cancel_left h)
      exact ⟨y, rfl, hr⟩
theorem shield_inj {a b : Bytes} (h : shield a = shield b) : a = b := by
  obtain ⟨y, rfl, hy⟩ := shield_cut a [] b (by rw [List.append_nil]; exact h)
  match y with
  | [] => rw [List.append_nil]
  | c :: y =>
    rw [shield_cons] at hy
    have := congrArg List.length hy
    rw [List.length_append, List.length_nil] at this
    have := word_pos c
    omega
theorem stops {a r x : Bytes} (h : first r = none) (hr : r ≠ []) : shield x ≠ shield a ++ r := by
  intro e
  obtain ⟨y, rfl, hy⟩ := shield_cut a r x e.symm
  match y with
  | [] => exact hr hy
  | c :: y => rw [hy, shield_cons, first_word] at h; cases h

/-- what the word l tells: a text, and whether it tells one -/
def WordOf (l d : Bytes) (o : Bool) : Prop := (o = true ∧ shield d = l) ∨ (o = false ∧ d = [] ∧ ∀ x, shield x ≠ l)
theorem wordOf_one {l d d' : Bytes} {o o' : Bool} (h : WordOf l d o) (h' : WordOf l d' o') : d = d' ∧ o = o' := by
  rcases h with ⟨rfl, h1⟩ | ⟨rfl, rfl, h1⟩ <;> rcases h' with ⟨rfl, h2⟩ | ⟨rfl, rfl, h2⟩
  · exact ⟨shield_inj (h1.trans h2.symm), rfl⟩
  · exact absurd h1 (h2 d)
  · exact absurd h2 (h1 d')
  · exact ⟨rfl, rfl⟩
theorem wordOf_shield (l : Bytes) : WordOf (shield l) l true := Or.inl ⟨rfl, rfl⟩

/-- no blank -/
def bare (l : Bytes) : Prop := ∀ c ∈ l, c ≠ 32
theorem word_bare (c : UInt8) : bare (word c) := by
  have := all_bytes (p := fun c => (word c).all fun x => decide (x ≠ 32)) (by decide +kernel) c
  intro x hx
  have := List.all_eq_true.1 this x hx
  simpa using this
theorem shield_bare (l : Bytes) : bare (shield l) := by
  intro x hx
  obtain ⟨c, -, hc⟩ := List.mem_flatMap.1 hx
  exact word_bare c x hc
theorem cut_one : ∀ {a b c d : Bytes}, bare a → bare c → a ++ 32 :: b = c ++ 32 :: d → a = c ∧ b = d
  | [], b, [], d, _, _, h => ⟨rfl, by injection h⟩
  | [], b, x :: c, d, _, hc, h => by
    injection h with h1 h2
    exact absurd h1.symm (hc x (by simp))
  | x :: a, b, [], d, ha, _, h => by
    injection h with h1 h2
    exact absurd h1 (ha x (by simp))
  | x :: a, b, y :: c, d, ha, hc, h => by
    injection h with h1 h2
    obtain ⟨e1, e2⟩ := cut_one (fun z hz => ha z (by simp [hz])) (fun z hz => hc z (by simp [hz])) h2
    exact ⟨by rw [h1, e1], e2⟩
theorem not_bare {a b : Bytes} : ¬ bare (a ++ 32 :: b) := fun h => h 32 (by simp) rfl

/-- a kind's word -/
def verb (k : Int) : Bytes := if k = 1 then [109, 107, 100, 105, 114] else if k = 2 then [114, 109, 100, 105, 114] else if k = 3 then [108, 105, 110, 107] else if k = 4 then [117, 110, 108, 105, 110, 107] else if k = 5 then [109, 111, 118, 101] else [119, 114, 105, 116, 101]
/-- whether a kind's line has a second word -/
def has (k : Int) : Bool := k == 3 || k == 5 || k == 6
def Kind (k : Int) : Prop := 1 ≤ k ∧ k ≤ 6
theorem kinds {k : Int} (h : Kind k) : k = 1 ∨ k = 2 ∨ k = 3 ∨ k = 4 ∨ k = 5 ∨ k = 6 := by unfold Kind at h; omega
theorem verb_bare (k : Int) : bare (verb k) := by
  have e : (verb k).all (fun x => decide (x ≠ 32)) = true := by
    unfold verb
    split <;> try rfl
    split <;> try rfl
    split <;> try rfl
    split <;> try rfl
    split <;> rfl
  intro x hx
  simpa using List.all_eq_true.1 e x hx
theorem verb_one {j k : Int} (hj : Kind j) (hk : Kind k) (h : verb j = verb k) : j = k := by
  rcases kinds hj with rfl | rfl | rfl | rfl | rfl | rfl <;> rcases kinds hk with rfl | rfl | rfl | rfl | rfl | rfl <;> first | rfl | (exact absurd h (by decide))
/-- whether a node may be put there -/
def place (l : Bytes) : Bool := isPath l && decide (l ≠ [47])
/-- whether a task of a kind may have such a text -/
def mays (k : Int) (t : Bytes) : Bool := if k = 1 ∨ k = 2 ∨ k = 4 then decide (t = []) else if k = 3 then decide (t ≠ []) && decide (t.length ≤ 65536) else if k = 5 then place t else decide (k = 6) && decide (t.length ≤ 65536)
def right (x : Tk) : Bool := place x.path && mays x.kind x.text
def fits (x : Tk) : Prop := Kind x.kind ∧ (has x.kind = false → x.text = [])
/-- a task's line -/
def raw (x : Tk) : Bytes := verb x.kind ++ 32 :: (shield x.path ++ (if has x.kind then 32 :: shield x.text else []))
theorem right_fits {x : Tk} (h : right x = true) : fits x := by
  unfold right at h
  rw [Bool.and_eq_true] at h
  have h2 := h.2
  unfold mays at h2
  unfold fits Kind
  split at h2
  · rename_i h3
    exact ⟨by omega, fun _ => of_decide_eq_true h2⟩
  · split at h2
    · rename_i h4
      exact ⟨by omega, fun e => by rw [h4] at e; exact absurd e (by decide)⟩
    · split at h2
      · rename_i h4
        exact ⟨by omega, fun e => by rw [h4] at e; exact absurd e (by decide)⟩
      · rw [Bool.and_eq_true, decide_eq_true_eq] at h2
        rename_i h4
        have h6 := h2.1
        exact ⟨by omega, fun e => by rw [h6] at e; exact absurd e (by decide)⟩
theorem raw_has {x : Tk} (h : has x.kind = true) : raw x = verb x.kind ++ 32 :: (shield x.path ++ 32 :: shield x.text) := by unfold raw; rw [if_pos h]
theorem raw_not {x : Tk} (h : has x.kind = false) : raw x = verb x.kind ++ 32 :: shield x.path := by unfold raw; rw [if_neg (by rw [h]; decide), List.append_nil]
theorem raw_len (x : Tk) : (raw x).length ≤ 8 + 3 * x.path.length + 3 * x.text.length := by
  have h1 := shield_len x.path
  have h2 := shield_len x.text
  have h3 : (verb x.kind).length ≤ 6 := by
    unfold verb
    split <;> try (simp; done)
    split <;> try (simp; done)
    split <;> try (simp; done)
    split <;> try (simp; done)
    split <;> simp
  unfold raw
  rw [List.length_append, List.length_cons, List.length_append]
  split
  · rw [List.length_cons]; omega
  · rw [List.length_nil]; omega
/-- a line whose verb is known -/
theorem raw_verb {v r : Bytes} {y : Tk} (hv : bare v) (h : raw y = v ++ 32 :: r) : verb y.kind = v ∧ shield y.path ++ (if has y.kind then 32 :: shield y.text else []) = r := cut_one (verb_bare _) hv h
theorem raw_blank {l : Bytes} (h : bare l) (y : Tk) : raw y ≠ l := fun e => by unfold raw at e; rw [← e] at h; exact not_bare h
/-- of a known kind without a second word -/
theorem raw_first {k : Int} {r : Bytes} {y : Tk} (hk : Kind k) (hn : has k = false) (hy : fits y) (h : raw y = verb k ++ 32 :: r) : y.kind = k ∧ shield y.path = r ∧ y.text = [] := by
  obtain ⟨e1, e2⟩ := raw_verb (verb_bare k) h
  have e := verb_one hy.1 hk e1
  rw [e, hn] at e2
  refine ⟨e, ?_, hy.2 (by rw [e]; exact hn)⟩
  simpa using e2
theorem raw_both {k : Int} {r : Bytes} {y : Tk} (hk : Kind k) (hn : has k = true) (hy : fits y) (h : raw y = verb k ++ 32 :: r) : y.kind = k ∧ shield y.path ++ 32 :: shield y.text = r := by
  obtain ⟨e1, e2⟩ := raw_verb (verb_bare k) h
  have e := verb_one hy.1 hk e1
  rw [e, hn] at e2
  exact ⟨e, by simpa using e2⟩
theorem raw_second {k : Int} {f g : Bytes} {y : Tk} (hk : Kind k) (hn : has k = true) (hf : bare f) (hy : fits y) (h : raw y = verb k ++ 32 :: (f ++ 32 :: g)) : y.kind = k ∧ shield y.path = f ∧ shield y.text = g := by
  obtain ⟨e, e2⟩ := raw_both hk hn hy h
  exact ⟨e, cut_one (shield_bare _) hf e2⟩

/-- the task whose line l is, if it is one's -/
def Split (l : Bytes) (x : Tk) (o : Bool) : Prop := (o = true ∧ fits x ∧ raw x = l) ∨ (o = false ∧ ∀ y, fits y → raw y ≠ l)
theorem tk_ext {x y : Tk} (h1 : x.kind = y.kind) (h2 : x.path = y.path) (h3 : x.text = y.text) : x = y := by
  cases x; cases y; simp at h1 h2 h3; simp [h1, h2, h3]
theorem raw_inj {x y : Tk} (hx : fits x) (hy : fits y) (h : raw x = raw y) : x = y := by
  cases hn : has x.kind with
  | true =>
    obtain ⟨e1, e2, e3⟩ := raw_second hx.1 hn (shield_bare _) hy (by rw [← h, raw_has hn])
    exact tk_ext e1.symm (shield_inj e2.symm) (shield_inj e3.symm)
  | false =>
    obtain ⟨e1, e2, e3⟩ := raw_first hx.1 hn hy (by rw [← h, raw_not hn])
    exact tk_ext e1.symm (shield_inj e2.symm) (by rw [e3, hx.2 hn])
/-- without a second word -/
theorem split_one {k : Int} {r d : Bytes} {o : Bool} (hk : Kind k) (hn : has k = false) (h : WordOf r d o) : Split (verb k ++ 32 :: r) ⟨k, d, []⟩ o := by
  rcases h with ⟨rfl, h⟩ | ⟨rfl, rfl, h⟩
  · exact Or.inl ⟨rfl, ⟨hk, fun _ => rfl⟩, by rw [raw_not hn]; show verb k ++ 32 :: shield d = _; rw [h]⟩
  · exact Or.inr ⟨rfl, fun y hy e => h y.path (raw_first hk hn hy e).2.1⟩
/-- with one -/
theorem split_two {k : Int} {f g d t : Bytes} {o p : Bool} (hk : Kind k) (hn : has k = true) (hf : bare f) (h : WordOf f d o) (h2 : WordOf g t p) : Split (verb k ++ 32 :: (f ++ 32 :: g)) ⟨k, d, t⟩ (o && p) := by
  rcases h with ⟨rfl, h⟩ | ⟨rfl, rfl, h⟩
  · rcases h2 with ⟨rfl, h2⟩ | ⟨rfl, rfl, h2⟩
    · exact Or.inl ⟨rfl, ⟨hk, fun e => by rw [show has k = false from e] at hn; cases hn⟩, by rw [raw_has hn]; show verb k ++ 32 :: (shield d ++ 32 :: shield t) = _; rw [h, h2]⟩
    · exact Or.inr ⟨rfl, fun y hy e => h2 y.text (raw_second hk hn hf hy e).2.2⟩
  · exact Or.inr ⟨rfl, fun y hy e => h y.path (raw_second hk hn hf hy e).2.1⟩
/-- a second word is wanting -/
theorem split_less {k : Int} {r : Bytes} (hk : Kind k) (hn : has k = true) (hr : bare r) (x : Tk) : Split (verb k ++ 32 :: r) x false :=
  Or.inr ⟨rfl, fun y hy e => not_bare (by rw [(raw_both hk hn hy e).2]; exact hr)⟩
/-- there is one too many -/
theorem split_more {k : Int} {f g : Bytes} (hk : Kind k) (hn : has k = false) (x : Tk) : Split (verb k ++ 32 :: (f ++ 32 :: g)) x false :=
  Or.inr ⟨rfl, fun y hy e => not_bare (by rw [← (raw_first hk hn hy e).2.1]; exact shield_bare _)⟩
/-- no such verb -/
theorem split_verb {v r : Bytes} (hv : bare v) (h : ∀ k, Kind k → v ≠ verb k) (x : Tk) : Split (v ++ 32 :: r) x false :=
  Or.inr ⟨rfl, fun y hy e => h y.kind hy.1 (raw_verb hv e).1.symm⟩
theorem split_blank {l : Bytes} (h : bare l) (x : Tk) : Split l x false := Or.inr ⟨rfl, fun y _ => raw_blank h y⟩

def zero : Tk := ⟨0, [], []⟩
/-- what parsing a line answers -/
def Ans (l : Bytes) (x : Tk) (e : Int) : Prop := (e = 0 ∧ right x = true ∧ raw x = l) ∨ (e = 2 ∧ x = zero ∧ ∃ y, fits y ∧ right y = false ∧ raw y = l) ∨ (e = 3 ∧ x = zero ∧ ∀ y, fits y → raw y ≠ l)
theorem ans_one {l : Bytes} {x x' : Tk} {e e' : Int} (h : Ans l x e) (h' : Ans l x' e') : x = x' ∧ e = e' := by
  rcases h with ⟨rfl, h1, h2⟩ | ⟨rfl, rfl, y, h1, h2, h3⟩ | ⟨rfl, rfl, h1⟩ <;> rcases h' with ⟨rfl, h1', h2'⟩ | ⟨rfl, rfl, y', h1', h2', h3'⟩ | ⟨rfl, rfl, h1'⟩
  · exact ⟨raw_inj (right_fits h1) (right_fits h1') (h2.trans h2'.symm), rfl⟩
  · rw [raw_inj (right_fits h1) h1' (h2.trans h3'.symm), h2'] at h1; cases h1
  · exact absurd h2 (h1' _ (right_fits h1))
  · rw [raw_inj (right_fits h1') h1 (h2'.trans h3.symm), h2] at h1'; cases h1'
  · exact ⟨rfl, rfl⟩
  · exact absurd h3 (h1' _ h1)
  · exact absurd h2' (h1 _ (right_fits h1'))
  · exact absurd h3' (h1 _ h1')
  · exact ⟨rfl, rfl⟩
theorem ans_form {l : Bytes} {x : Tk} (h : Split l x false) : Ans l zero 3 := by
  rcases h with ⟨h, -⟩ | ⟨-, h⟩
  · cases h
  · exact Or.inr (Or.inr ⟨rfl, rfl, h⟩)
theorem ans_arg {l : Bytes} {x : Tk} (h : Split l x true) (hr : right x = false) : Ans l zero 2 := by
  rcases h with ⟨-, h, h2⟩ | ⟨h, -⟩
  · exact Or.inr (Or.inl ⟨rfl, rfl, x, h, hr, h2⟩)
  · cases h
theorem ans_ok {l : Bytes} {x : Tk} (h : Split l x true) (hr : right x = true) : Ans l x 0 := by
  rcases h with ⟨-, h, h2⟩ | ⟨h, -⟩
  · exact Or.inl ⟨rfl, hr, h2⟩
  · cases h
theorem ans_raw {x : Tk} (h : right x = true) : Ans (raw x) x 0 := Or.inl ⟨rfl, h, rfl⟩
end Go.Proofs.YthplnkchmelbmaaDoor.M19
