/-
  Texts joined, in build order, each with its own comment and its own conditions: W15Math, RecCut, RecAppend, Row256, W14Heap, W14Box, W14Together.
-/
import Derived.Test.YtehdnbidgphecaaGreatDoorJ01
import Derived.Laws.OwnMore
import Derived.Tactics
import Derived.Deep.WholeRow
import Derived.Laws.Rows
import Derived.Laws.Tables
import Derived.Test.YtehdnbidgphecaaGreatDoorChecked
import Derived.WalkKit
import Derived.KernelRfl
import Derived.Great.BuildSlice
import Derived.BigQuiet
/-
  Layer 15 (prog), plain mathematics: steps, which steps a piece has from a place on, how many there are, what moving them comes to. No condition but those that each theorem bears.
-/
namespace Go.Proofs.YtehdnbidgphecaaGreatDoor.M15
open Go Go.Proofs.YtehdnbidgphecaaGreatDoor.M14

/-- a step: its kind, its text, where it goes on -/
structure Inst where
  kind : Int
  text : ByteArray
  x : Int
  y : Int
def no : ByteArray := ⟨#[]⟩
/-- the steps of a split, of a jump, of one byte or place -/
def split (x y : Nat) : Inst := ⟨6, no, x, y⟩
def jump (x : Nat) : Inst := ⟨8, no, x, 0⟩
def one (k : Int) (t : ByteArray) (a : Nat) : Inst := ⟨k, t, (a + 1 : Nat), 0⟩
/-- so often, one behind the other -/
def times (f : Nat → List Inst) : Nat → Nat → List Inst
  | 0, _ => []
  | n + 1, a => f a ++ times f n (a + (f a).length)
/-- so often, each may be left out -/
def maybe (f : Nat → List Inst) (e : Nat) : Nat → Nat → List Inst
  | 0, _ => []
  | n + 1, a => split (a + 1) e :: (f (a + 1) ++ maybe f e n (a + 1 + (f (a + 1)).length))
/-- as often as may be -/
def star (f : Nat → List Inst) (e a : Nat) : List Inst := split (a + 1) e :: (f (a + 1) ++ [jump a])
/-- a repeated piece: at least m times, at most so often -/
def reps (f : Nat → List Inst) (m t : Int) (e a : Nat) : List Inst :=
  times f m.toNat a ++ (if t = -1 then star f e (a + (times f m.toNat a).length) else maybe f e (t - m).toNat (a + (times f m.toNat a).length))
mutual
def steps : Piece → Nat → List Inst
  | .mk k t ks m tp, a =>
    if k = 2 then [one 1 t a] else if k = 3 then [one 2 no a] else if k = 4 then [one 3 t a] else if k = 5 then [one 4 no a] else if k = 6 then [one 5 no a]
    else if k = 7 then seqs ks a
    else if k = 8 then alts ks a (a + size (.mk k t ks m tp))
    else if k = 9 then reps (fun a => first ks a) m tp (a + size (.mk k t ks m tp)) a
    else []
def seqs : List Piece → Nat → List Inst
  | [], _ => []
  | p :: l, a => steps p a ++ seqs l (a + size p)
def alts : List Piece → Nat → Nat → List Inst
  | [], _, _ => []
  | p :: l, a, e => if l.isEmpty then steps p a else split (a + 1) (a + size p + 2) :: (steps p (a + 1) ++ jump e :: alts l (a + size p + 2) e)
def first : List Piece → Nat → List Inst
  | [], _ => []
  | p :: _, a => steps p a
end
/-- the program of a piece -/
def prog (p : Piece) : List Inst := steps p 0 ++ [⟨7, no, 0, 0⟩]

theorem ind {P : Piece → Prop} (h : ∀ k t ks m tp, (∀ p, p ∈ ks → P p) → P (.mk k t ks m tp)) (p : Piece) : P p :=
  @Piece.rec P (fun l => ∀ p, p ∈ l → P p) (fun k t ks m tp ih => h k t ks m tp ih) (by simp) (fun p l hp hl => by
    intro q hq
    rcases List.mem_cons.1 hq with rfl | hq
    · exact hp
    · exact hl q hq) p
/-- a piece as those are of which there are steps: the texts are free -/
inductive Good : Piece → Prop where
  | leaf (k : Int) (t : ByteArray) (h : 1 ≤ k ∧ k ≤ 6) : Good (leaf k t)
  | many (k : Int) (h : k = 7 ∨ k = 8) (ks : List Piece) (h2 : 2 ≤ ks.length) (hk : ∀ p, p ∈ ks → Good p) : Good (.mk k no ks 0 0)
  | rep (p : Piece) (m t : Int) (hm : 0 ≤ m ∧ m ≤ 100) (ht : t = -1 ∨ m ≤ t ∧ t ≤ 100) (hk : Good p) : Good (.mk 9 no [p] m t)
theorem Good.of_whole {p : Piece} (h : Whole p) : Good p := by
  induction h with
  | none k hk => exact .leaf k _ (by omega)
  | char c => exact .leaf 2 _ (by omega)
  | set f => exact .leaf 4 _ (by omega)
  | many k hk l h2 h3 hw ih => exact .many k hk l h2 ih
  | rep p m t hm ht hw ih => exact .rep p m t hm ht ih

theorem size_1 {k : Int} (hk : 1 ≤ k ∧ k ≤ 6) (t : ByteArray) : size (leaf k t) = if k = 1 then 0 else 1 := by
  unfold leaf size
  by_cases h1 : k = 1
  · simp [h1]
  · simp [h1, show 2 ≤ k ∧ k ≤ 6 by omega]
theorem size_7 (t : ByteArray) (ks : List Piece) (m tp : Int) : size (.mk 7 t ks m tp) = min 4001 (sizes ks) := by
  unfold size
  rw [if_neg (by decide), if_neg (by decide), if_pos rfl]
theorem size_8 (t : ByteArray) (ks : List Piece) (m tp : Int) : size (.mk 8 t ks m tp) = min 4001 (sizes ks + 2 * (ks.length - 1)) := by
  unfold size
  rw [if_neg (by decide), if_neg (by decide), if_neg (by decide), if_pos rfl]
theorem size_9 (t : ByteArray) (p : Piece) (m tp : Int) : size (.mk 9 t [p] m tp) = min 4001 (if tp = -1 then m.toNat * size p + size p + 2 else m.toNat * size p + (tp - m).toNat * (size p + 1)) := by
  conv => lhs; unfold size
  rw [if_neg (by decide), if_neg (by decide), if_neg (by decide), if_neg (by decide), show sizes [p] = size p by simp only [sizes, Nat.add_zero]]
theorem size_mem {p : Piece} : ∀ {l : List Piece}, p ∈ l → size p ≤ sizes l
  | q :: l, h => by
    rw [sizes]
    rcases List.mem_cons.1 h with rfl | h
    · omega
    · have := size_mem h; omega

/-! how many steps -/
/-- of a function that tells the same number of steps wherever it begins -/
theorem times_len {f : Nat → List Inst} {n : Nat} (hf : ∀ a, (f a).length = n) : ∀ (m a : Nat), (times f m a).length = m * n
  | 0, a => by simp [times]
  | m + 1, a => by rw [times, List.length_append, hf, times_len hf m, Nat.succ_mul]; omega
theorem maybe_len {f : Nat → List Inst} {n : Nat} (hf : ∀ a, (f a).length = n) (e : Nat) : ∀ (m a : Nat), (maybe f e m a).length = m * (n + 1)
  | 0, a => by simp [maybe]
  | m + 1, a => by rw [maybe, List.length_cons, List.length_append, hf, maybe_len hf e m, Nat.succ_mul]; omega
theorem star_len {f : Nat → List Inst} {n : Nat} (hf : ∀ a, (f a).length = n) (e a : Nat) : (star f e a).length = n + 2 := by
  rw [star, List.length_cons, List.length_append, hf]; rfl
/-- a kid that is asked for has few enough steps -/
theorem rep_kid {p : Piece} {t : ByteArray} {m tp : Int} (h : size (.mk 9 t [p] m tp) ≤ 4000) (hu : 0 < m ∨ tp = -1 ∨ m < tp) (hm : 0 ≤ m) : size p ≤ 4000 := by
  rw [size_9] at h
  by_cases c : tp = -1
  · rw [if_pos c] at h
    have := size_le p
    omega
  · rw [if_neg c] at h
    have h1 : m.toNat * size p ≤ 4000 := by omega
    have h2 : (tp - m).toNat * (size p + 1) ≤ 4000 := by omega
    rcases hu with hu | hu | hu
    · have : 1 * size p ≤ m.toNat * size p := Nat.mul_le_mul_right _ (by omega)
      omega
    · exact absurd hu c
    · have : 1 * (size p + 1) ≤ (tp - m).toNat * (size p + 1) := Nat.mul_le_mul_right _ (by omega)
      omega
theorem seqs_len : ∀ {ks : List Piece}, (∀ p, p ∈ ks → ∀ a, (steps p a).length = size p) → ∀ a, (seqs ks a).length = sizes ks
  | [], _, a => by simp [seqs, sizes]
  | p :: l, h, a => by
    rw [seqs, sizes, List.length_append, h p (by simp), seqs_len (fun q hq => h q (by simp [hq]))]
theorem alts_1 (p : Piece) (a e : Nat) : alts [p] a e = steps p a := by rw [alts, if_pos (by simp)]
theorem alts_2 (p q : Piece) (l : List Piece) (a e : Nat) : alts (p :: q :: l) a e = split (a + 1) (a + size p + 2) :: (steps p (a + 1) ++ jump e :: alts (q :: l) (a + size p + 2) e) := by rw [alts, if_neg (by simp)]
theorem alts_len : ∀ {ks : List Piece}, ks ≠ [] → (∀ p, p ∈ ks → ∀ a, (steps p a).length = size p) → ∀ a e, (alts ks a e).length = sizes ks + 2 * (ks.length - 1)
  | [], h0, _, a, e => absurd rfl h0
  | [p], _, h, a, e => by
    rw [alts_1, h p (by simp)]; simp [sizes]
  | p :: q :: l, _, h, a, e => by
    rw [alts_2, List.length_cons, List.length_append, List.length_cons, h p (by simp), alts_len (by simp) (fun r hr => h r (by simp at hr; simp [hr]))]
    rw [show sizes (p :: q :: l) = size p + sizes (q :: l) by simp only [sizes]]
    simp only [List.length_cons]
    omega
theorem steps_leaf {k : Int} (hk : 1 ≤ k ∧ k ≤ 6) (t : ByteArray) (a : Nat) : steps (leaf k t) a = if k = 1 then [] else [one (k - 1) (if k = 2 ∨ k = 4 then t else no) a] := by
  unfold leaf steps
  have : k = 1 ∨ k = 2 ∨ k = 3 ∨ k = 4 ∨ k = 5 ∨ k = 6 := by omega
  rcases this with rfl | rfl | rfl | rfl | rfl | rfl <;> rfl
theorem steps_7 (t : ByteArray) (ks : List Piece) (m tp : Int) (a : Nat) : steps (.mk 7 t ks m tp) a = seqs ks a := by
  unfold steps; rfl
theorem steps_8 (t : ByteArray) (ks : List Piece) (m tp : Int) (a : Nat) : steps (.mk 8 t ks m tp) a = alts ks a (a + size (.mk 8 t ks m tp)) := by
  unfold steps; rfl
theorem steps_9 (t : ByteArray) (p : Piece) (m tp : Int) (a : Nat) : steps (.mk 9 t [p] m tp) a = reps (steps p) m tp (a + size (.mk 9 t [p] m tp)) a := by
  unfold steps; rfl
theorem reps_len {f : Nat → List Inst} {n : Nat} (hf : ∀ a, (f a).length = n) (m t : Int) (e a : Nat) : (reps f m t e a).length = if t = -1 then m.toNat * n + n + 2 else m.toNat * n + (t - m).toNat * (n + 1) := by
  unfold reps
  rw [List.length_append, times_len hf]
  by_cases c : t = -1
  · rw [if_pos c, if_pos c, star_len hf]; omega
  · rw [if_neg c, if_neg c, maybe_len hf]
/-- a piece of no more than 4000 steps has so many -/
theorem steps_len {p : Piece} (h : Good p) : size p ≤ 4000 → ∀ a, (steps p a).length = size p := by
  induction h with
  | leaf k t h =>
    intro _ a
    rw [steps_leaf h, size_1 h]
    split <;> rfl
  | many k hk ks h2 hw ih =>
    intro hs a
    rcases hk with rfl | rfl
    · rw [size_7] at hs ⊢
      have hall : ∀ p, p ∈ ks → ∀ a, (steps p a).length = size p := fun p hp => ih p hp (by have := size_mem hp; omega)
      rw [steps_7, seqs_len hall]; omega
    · rw [steps_8]
      rw [size_8] at hs ⊢
      have hall : ∀ p, p ∈ ks → ∀ a, (steps p a).length = size p := fun p hp => ih p hp (by have := size_mem hp; omega)
      rw [alts_len (by intro q; subst q; simp at h2) hall]; omega
  | rep p m t hm ht hw ih =>
    intro hs a
    rw [steps_9]
    by_cases hu : 0 < m ∨ t = -1 ∨ m < t
    · have hf := ih (rep_kid hs hu hm.1)
      rw [reps_len hf, size_9]
      rw [size_9] at hs
      omega
    · have hm0 : m = 0 := by omega
      have ht0 : t = 0 := by omega
      subst hm0 ht0
      rw [size_9]
      unfold reps
      simp [times, maybe]

/-! steps elsewhere -/
def shift (d : Nat) (x : Inst) : Inst := ⟨x.kind, x.text, x.x + d, if x.kind = 6 then x.y + d else x.y⟩
theorem shift_one (k : Int) (t : ByteArray) (a d : Nat) (hk : k ≠ 6) : shift d (one k t a) = one k t (a + d) := by
  unfold shift one
  rw [if_neg (show ¬ (Inst.mk k t ((a + 1 : Nat) : Int) 0).kind = 6 from hk)]
  simp only [Inst.mk.injEq, true_and, and_true]
  omega
theorem shift_split (x y d : Nat) : shift d (split x y) = split (x + d) (y + d) := by
  unfold shift split
  rw [if_pos rfl]
  simp only [Inst.mk.injEq, true_and]
  omega
theorem shift_jump (x d : Nat) : shift d (jump x) = jump (x + d) := by
  unfold shift jump
  rw [if_neg (show ¬ (8 : Int) = 6 by decide)]
  simp only [Inst.mk.injEq, true_and, and_true]
  omega
theorem times_shift {f : Nat → List Inst} (d : Nat) (hf : ∀ a, f (a + d) = (f a).map (shift d)) : ∀ (m a : Nat), times f m (a + d) = (times f m a).map (shift d)
  | 0, a => rfl
  | m + 1, a => by
    rw [times, times, List.map_append, hf, List.length_map, ← times_shift d hf m, show a + d + (f a).length = a + (f a).length + d by omega]
theorem maybe_shift {f : Nat → List Inst} (d : Nat) (hf : ∀ a, f (a + d) = (f a).map (shift d)) (e : Nat) : ∀ (m a : Nat), maybe f (e + d) m (a + d) = (maybe f e m a).map (shift d)
  | 0, a => rfl
  | m + 1, a => by
    rw [maybe, maybe, List.map_cons, List.map_append, shift_split, show a + d + 1 = a + 1 + d by omega, hf, List.length_map, ← maybe_shift d hf e m, show a + 1 + d + (f (a + 1)).length = a + 1 + (f (a + 1)).length + d by omega]
theorem star_shift {f : Nat → List Inst} (d : Nat) (hf : ∀ a, f (a + d) = (f a).map (shift d)) (e a : Nat) : star f (e + d) (a + d) = (star f e a).map (shift d) := by
  rw [star, star, List.map_cons, List.map_append, shift_split, show a + d + 1 = a + 1 + d by omega, hf, List.map_cons, List.map_nil, shift_jump]
theorem reps_shift {f : Nat → List Inst} (d : Nat) (hf : ∀ a, f (a + d) = (f a).map (shift d)) (m t : Int) (e a : Nat) : reps f m t (e + d) (a + d) = (reps f m t e a).map (shift d) := by
  unfold reps
  rw [List.map_append, times_shift d hf, List.length_map, show a + d + (times f m.toNat a).length = a + (times f m.toNat a).length + d by omega]
  by_cases c : t = -1
  · rw [if_pos c, if_pos c, star_shift d hf]
  · rw [if_neg c, if_neg c, maybe_shift d hf]
theorem seqs_shift (d : Nat) : ∀ {ks : List Piece}, (∀ p, p ∈ ks → ∀ a, steps p (a + d) = (steps p a).map (shift d)) → ∀ a, seqs ks (a + d) = (seqs ks a).map (shift d)
  | [], _, a => by simp [seqs]
  | p :: l, h, a => by
    rw [seqs, seqs, List.map_append, h p (by simp), show a + d + size p = a + size p + d by omega, seqs_shift d (fun q hq => h q (by simp [hq]))]
theorem alts_shift (d : Nat) : ∀ {ks : List Piece}, (∀ p, p ∈ ks → ∀ a, steps p (a + d) = (steps p a).map (shift d)) → ∀ a e, alts ks (a + d) (e + d) = (alts ks a e).map (shift d)
  | [], _, a, e => by simp [alts]
  | [p], h, a, e => by
    rw [alts_1, alts_1, h p (by simp)]
  | p :: q :: l, h, a, e => by
    rw [alts_2, alts_2, List.map_cons, List.map_append, List.map_cons, shift_split, shift_jump, show a + d + 1 = a + 1 + d by omega, h p (by simp), show a + d + size p + 2 = a + size p + 2 + d by omega, alts_shift d (fun r hr => h r (by simp at hr; simp [hr]))]
theorem steps_shift (d : Nat) (p : Piece) : ∀ a, steps p (a + d) = (steps p a).map (shift d) := by
  induction p using ind with
  | h k t ks m tp ih =>
    intro a
    unfold steps
    by_cases h2 : k = 2
    · rw [if_pos h2, if_pos h2, List.map_cons, shift_one _ _ _ _ (by decide)]; rfl
    rw [if_neg h2, if_neg h2]
    by_cases h3 : k = 3
    · rw [if_pos h3, if_pos h3, List.map_cons, shift_one _ _ _ _ (by decide)]; rfl
    rw [if_neg h3, if_neg h3]
    by_cases h4 : k = 4
    · rw [if_pos h4, if_pos h4, List.map_cons, shift_one _ _ _ _ (by decide)]; rfl
    rw [if_neg h4, if_neg h4]
    by_cases h5 : k = 5
    · rw [if_pos h5, if_pos h5, List.map_cons, shift_one _ _ _ _ (by decide)]; rfl
    rw [if_neg h5, if_neg h5]
    by_cases h6 : k = 6
    · rw [if_pos h6, if_pos h6, List.map_cons, shift_one _ _ _ _ (by decide)]; rfl
    rw [if_neg h6, if_neg h6]
    by_cases h7 : k = 7
    · rw [if_pos h7, if_pos h7, seqs_shift d ih]
    rw [if_neg h7, if_neg h7]
    by_cases h8 : k = 8
    · rw [if_pos h8, if_pos h8, show a + d + size (.mk k t ks m tp) = a + size (.mk k t ks m tp) + d by omega, alts_shift d ih]
    rw [if_neg h8, if_neg h8]
    by_cases h9 : k = 9
    · rw [if_pos h9, if_pos h9, show a + d + size (.mk k t ks m tp) = a + size (.mk k t ks m tp) + d by omega, reps_shift d (fun b => ?_)]
      match ks, ih with
      | [], _ => rfl
      | p :: l, ih => exact ih p (by simp) b
    rw [if_neg h9, if_neg h9]
    rfl
end Go.Proofs.YtehdnbidgphecaaGreatDoor.M15
/-
  Slices of records: parts of one (the first ones, those from a place on, those between), as the walk spells the cut's value. Plain lemmas on worlds, for every program; no condition but those that each theorem bears.
-/
namespace Go.Proofs.YtehdnbidgphecaaGreatDoor.Recs
open Go Go.RowKit
open Go.Proofs.YtehdnbidgphecaaGreatDoor.Strs (block_add strV)
section
variable {α : Type} {enc : α → List Value} {sz : Nat} {B : Nat} {w : World} {A : Option Addr} {n c : Nat} {L : List α}
theorem Recs.count (h : Recs enc sz B w (.slice A n c) L) : n = L.length ∧ n ≤ c ∧ c ≤ maxLen := by
  obtain ⟨A', c', e, h1, h2, h3⟩ := h
  injection e with e1 e2 e3
  subst e1 e2 e3
  exact ⟨rfl, h1, h2⟩
theorem Recs.take (h : Recs enc sz B w (.slice A n c) L) {k : Nat} (hk : k ≤ n) : Recs enc sz B w (.slice A k c) (L.take k) := by
  obtain ⟨hn, hc1, hc2⟩ := h.count
  subst hn
  obtain ⟨A0, c0, e, h1, h2, h3⟩ := h
  cases e
  have hl : (L.take k).length = k := by rw [List.length_take]; omega
  refine ⟨A, c, by rw [hl], by omega, hc2, fun h0 => ?_⟩
  obtain ⟨ad, rfl, hb, hc⟩ := h3 (by omega)
  refine ⟨ad, rfl, hb, fun i hi j hj => ?_⟩
  rw [hc i (by omega) j hj, List.getElem_take]
theorem Recs.drop (h : Recs enc sz B w (.slice A n c) L) (he : ∀ x : α, (enc x).length = sz) (h0 : 0 < sz) {k : Nat} (hk : k ≤ n) : Recs enc sz B w (.slice (A.map fun x => x.add (k * sz)) (n - k) (c - k)) (L.drop k) := by
  obtain ⟨hn, hc1, hc2⟩ := h.count
  have hfl : 0 < n → ∃ b o, A = some ⟨b, o, none⟩ := fun hp => by
    obtain ⟨b, o, _, e, _⟩ := h.flat_ he h0 hp
    exact ⟨b, o, e⟩
  subst hn
  obtain ⟨A0, c0, e, h1, h2, h3⟩ := h
  cases e
  refine ⟨_, c - k, by rw [List.length_drop], by rw [List.length_drop]; omega, by omega, fun hp => ?_⟩
  rw [List.length_drop] at hp
  obtain ⟨b, o, rfl⟩ := hfl (by omega)
  obtain ⟨ad, e, hb, hc⟩ := h3 (by omega)
  cases e
  refine ⟨_, rfl, by rw [block_add]; exact hb, fun i hi j hj => ?_⟩
  rw [List.length_drop] at hi
  have := hc (k + i) (by omega) j hj
  rw [Addr.add_lit] at this
  show w.cell? (((⟨b, o, none⟩ : Addr).add (k * sz)).add (i * sz + j)) = _
  rw [Addr.add_lit, Addr.add_lit, show o + k * sz + (i * sz + j) = o + ((k + i) * sz + j) by rw [Nat.add_mul]; omega, this]
  congr 2
  simp
/-- those between two places, the address moved -/
theorem Recs.mid (h : Recs enc sz B w (.slice A n c) L) (he : ∀ x : α, (enc x).length = sz) (h0 : 0 < sz) {i j : Nat} (hij : i ≤ j) (hj : j ≤ n) : Recs enc sz B w (.slice (A.map fun x => x.add (i * sz)) (j - i) (c - i)) ((L.take j).drop i) := (h.take hj).drop he h0 hij
/-- one alone, at its place -/
theorem Recs.one (h : Recs enc sz B w (.slice A n c) L) (he : ∀ x : α, (enc x).length = sz) (h0 : 0 < sz) {i : Nat} (hj : i + 1 ≤ n) : Recs enc sz B w (.slice (A.map fun x => x.add (i * sz)) 1 (c - i)) ((L.take (i + 1)).drop i) := by
  have := h.mid he h0 (Nat.le_succ i) hj
  rwa [show i + 1 - i = 1 by omega] at this
end
end Go.Proofs.YtehdnbidgphecaaGreatDoor.Recs
/-
  append(own, records...) where the first is a row of the call's own and the other one whatever slice of records: with an address or without, empty or not: one law. For every program; the conditions stand in the statement.
-/
namespace Go.Proofs.YtehdnbidgphecaaGreatDoor.Recs
open Go Go.RowKit

theorem run_append_void {P : Program} {w : World} (base : Nat) (t ty e : TypeId) (i : TypeInfo) (size : Nat) (ht : P.underlying t = some (.slice e)) (hi : P.info? e = some i)
    (v : Value) (n c : Nat) (xs : List Value) (hown : w.ownsRow base e size v n xs) :
    (Builtin.append_ #[t, t] ty #[v, .slice none 0 c]).run P w = .ok v w := by
  rcases hown.2 with ⟨rfl, rfl⟩ | ⟨g, cap, cur, rfl, _, _, hnc, _⟩
  · simp [Builtin.append_, run_underlying ht, sizeOf, typeInfo, hi, Builtin.lenOf, Builtin.firstCells]
  · simp [Builtin.append_, run_underlying ht, sizeOf, typeInfo, hi, Builtin.lenOf, Builtin.firstCells, hnc, storeCells]
/-- where the block of what an append gives lies -/
theorem own_block_next {P : Program} (w : World) (base : Nat) (t ty e : TypeId) (i : TypeInfo) (z : Value) (size bytes : Nat) (ht : P.underlying t = some (.slice e)) (hi : P.info? e = some i) (hz : i.zero = some z)
    (hsize : i.size = size) (hby : i.bytes = bytes) (hzs : z.cells.size = size) (hsz : 0 < size)
    (v : Value) (n : Nat) (xs : List Value) (hown : w.ownsRow base e size v n xs)
    (a : Addr) (m c : Nat) (news : List Value) (hl : news.length = m * size) (hnews : ∀ j u, news[j]? = some u → w.cell? (a.add j) = some u) (h1 : ∀ u ∈ news, u.oneCell' = true)
    (h63 : n + m ≤ maxLen) (hbytes : (n + m) * bytes ≤ 140737488355328) {v' : Value} {w' : World} (hr : (Builtin.append_ #[t, t] ty #[v, .slice (some a) m c]).run P w = .ok v' w') :
    ∀ k, v'.ownBlock = some k → v.ownBlock = some k ∨ w.heap.size ≤ k := by
  subst hsize
  subst hby
  have hsmall : n + m ≤ 9223372036854775807 := by simp only [maxLen] at h63; omega
  intro k hk
  rcases hown.2 with ⟨rfl, rfl⟩ | ⟨g, cap, cur, rfl, hbg, hg, hnc, hcm, hcs, htake⟩
  · obtain ⟨v2, w2, hr2, ho2, -, -⟩ := run_append_own w w.heap.size t ty e i z i.size i.bytes ht hi hz rfl rfl hzs hsz (.slice none 0 0) 0 xs (by have hx : xs = [] := List.eq_nil_of_length_eq_zero (by simpa using hown.1); rw [hx]; exact World.ownsRow_nil _ _ _ _) a m c news hl hnews h1 h63 hbytes (Nat.le_refl _)
    rw [hr] at hr2
    cases hr2
    exact Or.inr (ho2.lt k hk).1
  · by_cases hroom : n + m ≤ cap
    · have hfit : n * i.size + news.length ≤ cur.size := by rw [hl, hcs, ← Nat.add_mul]; exact Nat.mul_le_mul_right _ hroom
      rw [run_append_room w t ty e i ht hi g n cap cur hg a m c news hl hnews h1 hroom hfit] at hr
      cases hr
      exact Or.inl hk
    · have holds : ∀ j u, xs[j]? = some u → w.cell? ((⟨g, 0, none⟩ : Addr).add j) = some u := hown.cells (g := g) rfl
      rw [run_append_grow w t ty e i z ht hi hz ⟨g, 0, none⟩ n cap xs hown.1 holds a m c news hl hnews (by omega) (by omega) (growslice_fits (by omega) hbytes)] at hr
      cases hr
      simp [Value.ownBlock] at hk
      exact Or.inr (by omega)
theorem wp_append_recs {α : Type} {enc : α → List Value} {P : Program} {w : World} {o : Oper} {a : Act} {K : Act → World → Prop} {Q : Exit → Act → World → Prop} (s x : Operand) (t : TypeId)
    (ho : o.op = .call { callee := .builtin .append, args := #[s, x], argTypes := #[t, t] })
    (base : Nat) (e : TypeId) (i : TypeInfo) (z : Value) (size bytes : Nat) (ht : P.underlying t = some (.slice e)) (hi : P.info? e = some i) (hz : i.zero = some z)
    (hsize : i.size = size) (hby : i.bytes = bytes) (hzs : z.cells.size = size) (hsz : 0 < size)
    (v : Value) (n : Nat) (xs : List Value) (hs : a.eval s = v) (hown : w.ownsRow base e size v n xs)
    (u : Value) (L : List α) (B : Nat) (hx : a.eval x = u) (hu : Recs enc size B w u L) (he : ∀ r : α, (enc r).length = size) (h1 : ∀ r : α, ∀ c ∈ enc r, c.oneCell' = true)
    (h63 : n + L.length ≤ maxLen) (hbytes : (n + L.length) * bytes ≤ 140737488355328) (hbase : base ≤ w.heap.size)
    (h : ∀ v' w', w'.ownsRow base e size v' (n + L.length) (xs ++ L.flatMap enc) → w.grownBy w' v.ownBlock → (∀ k, v'.ownBlock = some k → v.ownBlock = some k ∨ w.heap.size ≤ k) → K (a.put o.dst v') w') : o.wp P a w K Q := by
  obtain ⟨A, c, rfl, hc1, hc2⟩ := hu.form
  have hfl : (L.flatMap enc).length = L.length * size := flat_len he L
  have hone : ∀ u ∈ L.flatMap enc, u.oneCell' = true := fun q hq => by
    obtain ⟨r, _, hr⟩ := List.mem_flatMap.1 hq
    exact h1 r q hr
  cases A with
  | none =>
    have h0 : L.length = 0 := by
      rcases Nat.eq_zero_or_pos L.length with q | q
      · exact q
      · obtain ⟨b, o, hf, _⟩ := hu.news he hsz q
        cases hf
    have hL : L = [] := List.length_eq_zero_iff.1 h0
    subst hL
    have hrun := run_append_void (P := P) (w := w) base t o.type e i size ht hi v n c xs hown
    have hx' : a.eval x = .slice none 0 c := hx
    unfold Oper.wp
    simp [execOp, ho, resolve, invoke, builtin, hs, hx', hrun, Result.andThen]
    exact h v w (by simpa using hown) ⟨rfl, rfl, rfl, Nat.le_refl _, fun _ _ _ => rfl⟩ (fun k hk => Or.inl hk)
  | some ad =>
    have hnews : ∀ j q, (L.flatMap enc)[j]? = some q → w.cell? (ad.add j) = some q := by
      intro j q hq
      rcases Nat.eq_zero_or_pos L.length with h0 | h0
      · have : L = [] := List.length_eq_zero_iff.1 h0
        subst this
        simp at hq
      · obtain ⟨b, o, hf, _, hcell⟩ := hu.news he hsz h0
        cases hf
        exact hcell j q hq
    obtain ⟨v', w', hr, h2, h3, -⟩ := run_append_own (P := P) w base t o.type e i z size bytes ht hi hz hsize hby hzs hsz v n xs hown ad L.length c (L.flatMap enc) hfl hnews hone h63 hbytes hbase
    have h4 := own_block_next w base t o.type e i z size bytes ht hi hz hsize hby hzs hsz v n xs hown ad L.length c (L.flatMap enc) hfl hnews hone h63 hbytes hr
    have hx' : a.eval x = .slice (some ad) L.length c := hx
    unfold Oper.wp execOp
    simp only [ho, resolve, invoke, builtin, Sem.run_bind, Sem.run_pure, Result.andThen_ok, List.map_toArray, List.map_cons, List.map_nil, hs, hx', hr]
    exact h v' w' h2 h3 h4
theorem wpList_append_recs {α : Type} {enc : α → List Value} {P : Program} {w : World} {ops : Array Oper} {rest : List Oper} {o : Oper} {a : Act} {Q : Exit → Act → World → Prop} (hgd : o.guard = none) (s x : Operand) (t : TypeId)
    (ho : o.op = .call { callee := .builtin .append, args := #[s, x], argTypes := #[t, t] })
    (base : Nat) (e : TypeId) (i : TypeInfo) (z : Value) (size bytes : Nat) (ht : P.underlying t = some (.slice e)) (hi : P.info? e = some i) (hz : i.zero = some z)
    (hsize : i.size = size) (hby : i.bytes = bytes) (hzs : z.cells.size = size) (hsz : 0 < size)
    (v : Value) (n : Nat) (xs : List Value) (hs : a.eval s = v) (hown : w.ownsRow base e size v n xs)
    (u : Value) (L : List α) (B : Nat) (hx : a.eval x = u) (hu : Recs enc size B w u L) (he : ∀ r : α, (enc r).length = size) (h1 : ∀ r : α, ∀ c ∈ enc r, c.oneCell' = true)
    (h63 : n + L.length ≤ maxLen) (hbytes : (n + L.length) * bytes ≤ 140737488355328) (hbase : base ≤ w.heap.size)
    (h : ∀ v' w', w'.ownsRow base e size v' (n + L.length) (xs ++ L.flatMap enc) → w.grownBy w' v.ownBlock → (∀ k, v'.ownBlock = some k → v.ownBlock = some k ∨ w.heap.size ≤ k) → wpList P ops Q rest (a.put o.dst v') w') : wpList P ops Q (o :: rest) a w :=
  wpList_plain hgd fun _ hK => wp_append_recs s x t ho base e i z size bytes ht hi hz hsize hby hzs hsz v n xs hs hown u L B hx hu he h1 h63 hbytes hbase fun v' w' h2 h3 h4 => hK _ _ (h v' w' h2 h3 h4)
end Go.Proofs.YtehdnbidgphecaaGreatDoor.Recs
/-
  Arrays of 256 values in a block of their own: what they read as, what a store makes of them; for every program. No condition but those that each theorem bears.
-/
namespace Go.Proofs.YtehdnbidgphecaaGreatDoor.Row256
open Go Go.RowKit

/-- 256 values -/
def rowV (g : Nat → Value) : Array Value := ((List.range 256).map g).toArray
theorem rowV_size (g : Nat → Value) : (rowV g).size = 256 := by unfold rowV; rw [List.size_toArray, List.length_map, List.length_range]
theorem rowV_get (g : Nat → Value) {i : Nat} (h : i < 256) : (rowV g)[i]? = some (g i) := by
  unfold rowV
  rw [List.getElem?_toArray, List.getElem?_map, List.getElem?_range h]; rfl
theorem rowV_congr {g h : Nat → Value} (e : ∀ i, i < 256 → g i = h i) : rowV g = rowV h := by
  unfold rowV
  congr 1
  exact List.map_congr_left fun i hi => e i (List.mem_range.1 hi)
theorem rowV_ext {a : Array Value} {g : Nat → Value} (hs : a.size = 256) (h : ∀ i, i < 256 → a[i]? = some (g i)) : a = rowV g := by
  apply Array.ext_getElem?
  intro i
  by_cases hi : i < 256
  · rw [h i hi, rowV_get g hi]
  · rw [Array.getElem?_eq_none (by omega), Array.getElem?_eq_none (by rw [rowV_size]; omega)]
theorem rowV_set (g : Nat → Value) {i : Nat} (v : Value) : (rowV g).setIfInBounds i v = rowV (fun j => if j = i then v else g j) := by
  refine rowV_ext (by rw [Array.size_setIfInBounds, rowV_size]) fun j hj => ?_
  rw [Array.getElem?_setIfInBounds, rowV_size, rowV_get g hj]
  by_cases e : i = j
  · subst e; rw [if_pos rfl, if_pos hj, if_pos rfl]
  · rw [if_neg e, if_neg (fun q => e q.symm)]
theorem rowV_same (v : Value) : Array.replicate 256 v = rowV (fun _ => v) := by
  refine rowV_ext (by rw [Array.size_replicate]) fun j hj => ?_
  rw [Array.getElem?_replicate, if_pos hj]
theorem rowV_one {g : Nat → Value} (h : ∀ i, (g i).oneCell' = true) : (rowV g).all (·.oneCell') = true := by
  unfold rowV
  rw [Array.all_eq_true_iff_forall_mem]
  intro v hv
  obtain ⟨i, _, rfl⟩ := List.mem_map.1 (List.mem_toArray.1 hv)
  exact h i

/-- block b is an array of 256 values, and may be written -/
def Row (w : World) (b : Nat) (t : TypeId) (g : Nat → Value) : Prop := w.heap[b]? = some (.cells (rowV g) t (0, 0))
theorem Row.new (w : World) (t : TypeId) (g : Nat → Value) : Row (w.alloc (.cells (rowV g) t)) w.heap.size t g := heap_alloc_new w _
theorem Row.lt {w : World} {b : Nat} {t : TypeId} {g : Nat → Value} (h : Row w b t g) : b < w.heap.size := (Array.getElem?_eq_some_iff.1 h).1
theorem Row.alloc {w : World} {b : Nat} {t : TypeId} {g : Nat → Value} (h : Row w b t g) (o : Obj) : Row (w.alloc o) b t g := (Below.heap_alloc w o b h.lt).trans h
theorem Row.cell {w : World} {b : Nat} {t : TypeId} {g : Nat → Value} (h : Row w b t g) {i : Nat} (hi : i < 256) : w.cell? ⟨b, i, none⟩ = some (g i) := by
  rw [cell_of_row w b i _ t _ h, rowV_get g hi]
theorem Row.free {w : World} {b : Nat} {t : TypeId} {g : Nat → Value} (h : Row w b t g) (i : Nat) : w.frozen? ⟨b, i, none⟩ = false := frozen_of_row w b i _ t h
theorem Row.put {w : World} {b : Nat} {t : TypeId} {g : Nat → Value} (h : Row w b t g) (i : Nat) (v : Value) : Row (w.setCell ⟨b, i, none⟩ v) b t (fun j => if j = i then v else g j) := by
  unfold Row
  rw [heap_setCell_same w b i _ t v h, rowV_set]
theorem Row.other {w : World} {b : Nat} {t : TypeId} {g : Nat → Value} (h : Row w b t g) {a : Addr} (ha : b ≠ a.block) (v : Value) : Row (w.setCell a v) b t g := (heap_setCell_other w a b v ha).trans h
theorem Row.on {w w' : World} {b B : Nat} {t : TypeId} {g : Nat → Value} (h : Row w b t g) (k : Below B w w') (hb : b < B) : Row w' b t g := (k.block b hb).trans h
theorem Row.is {w : World} {b : Nat} {t : TypeId} {g k : Nat → Value} (h : Row w b t g) (e : ∀ i, i < 256 → g i = k i) : Row w b t k := by
  unfold Row at *; rw [h, rowV_congr e]
theorem Row.set {w : World} {b : Nat} {t : TypeId} {g : Nat → Value} (h : Row w b t g) (k : Nat → Value) : Row (w.setRow b (rowV k)) b t k := setRow_heap w b _ _ t _ h
/-- but for block b the world w' is as w was, below its end -/
structure Beside (b : Nat) (w w' : World) : Prop where
  os : w'.os = w.os
  tape : w'.tape = w.tape
  output : w'.output = w.output
  size : w.heap.size ≤ w'.heap.size
  block : ∀ k, k < w.heap.size → k ≠ b → w'.heap[k]? = w.heap[k]?
theorem Beside.refl (b : Nat) (w : World) : Beside b w w := ⟨rfl, rfl, rfl, Nat.le_refl _, fun _ _ _ => rfl⟩
theorem Beside.trans {b : Nat} {u v w : World} (h : Beside b u v) (k : Beside b v w) : Beside b u w :=
  ⟨k.os.trans h.os, k.tape.trans h.tape, k.output.trans h.output, Nat.le_trans h.size k.size, fun i hi e => (k.block i (Nat.lt_of_lt_of_le hi h.size) e).trans (h.block i hi e)⟩
theorem Beside.of {b : Nat} {w w' : World} (h : Below w.heap.size w w') : Beside b w w' := ⟨h.os, h.tape, h.output, h.size, fun k hk _ => h.block k hk⟩
theorem Beside.put {b : Nat} {u w : World} (h : Beside b u w) (i : Nat) (v : Value) : Beside b u (w.setCell ⟨b, i, none⟩ v) :=
  h.trans ⟨rfl, rfl, rfl, by rw [World.size_setCell]; exact Nat.le_refl _, fun k _ e => heap_setCell_other w _ k v e⟩
theorem Beside.below {b B : Nat} {w w' : World} (h : Beside b w w') (hB : B ≤ w.heap.size) (hb : B ≤ b) : Below B w w' := ⟨h.os, h.tape, h.output, h.size, fun k hk => h.block k (by omega) (by omega)⟩
theorem Beside.new {b B : Nat} {u w w' : World} (h : Below B u w) (k : Beside b w w') (hB : B ≤ w.heap.size) (hb : B ≤ b) : Below B u w' := h.trans (k.below hB hb)
theorem Row.beside {w w' : World} {b c : Nat} {t : TypeId} {g : Nat → Value} (h : Row w b t g) (k : Beside c w w') (hb : b ≠ c) : Row w' b t g := (k.block b h.lt hb).trans h
end Go.Proofs.YtehdnbidgphecaaGreatDoor.Row256
/-
  Layer 14 (pattern), pieces in memory: when five cells and the blocks below them read as a piece; how the reading is kept; lists of pieces while they are made. Plain lemmas on worlds, no condition but those that each theorem bears.
-/
namespace Go.Proofs.YtehdnbidgphecaaGreatDoor.W14
open Go Go.RowKit Go.Proofs.YtehdnbidgphecaaGreatDoor.Strs Go.Proofs.YtehdnbidgphecaaGreatDoor.Recs Go.Proofs.YtehdnbidgphecaaGreatDoor.M14
open Go.Proofs.YtehdnbidgphecaaGreatDoor.Row256 (Beside)

/-- a piece's cells: its kids are a slice -/
structure Raw where
  kind : Int
  text : ByteArray
  ad : Option Addr
  len : Nat
  cap : Nat
  least : Int
  top : Int
def rawC (r : Raw) : List Value := [.int .i64 r.kind, .string r.text, .slice r.ad r.len r.cap, .int .i64 r.least, .int .i64 r.top]
def rawA (r : Raw) : Array Value := #[.int .i64 r.kind, .string r.text, .slice r.ad r.len r.cap, .int .i64 r.least, .int .i64 r.top]
theorem rawC_len (r : Raw) : (rawC r).length = 5 := rfl
theorem rawC_one (r : Raw) : ∀ c ∈ rawC r, c.oneCell' = true := by
  intro c hc
  simp only [rawC, List.mem_cons, List.not_mem_nil, or_false] at hc
  rcases hc with rfl | rfl | rfl | rfl | rfl <;> rfl
abbrev Raws (B : Nat) (w : World) (v : Value) (L : List Raw) : Prop := Recs rawC 5 B w v L

/-- five cells read as a piece, all blocks below it are among X -/
inductive PAt (X : Nat → Prop) (w : World) : Raw → Piece → Prop
  | mk (k : Int) (t : ByteArray) (A : Option Addr) (n c : Nat) (l tp : Int) (raws : List Raw) (ks : List Piece) (B : Nat)
      (h : Raws B w (.slice A n c) raws) (hX : ∀ ad, A = some ad → 0 < raws.length → X ad.block) (hl : raws.length = ks.length)
      (hk : ∀ (i : Nat) (h1 : i < raws.length) (h2 : i < ks.length), PAt X w (raws[i]'h1) (ks[i]'h2)) : PAt X w ⟨k, t, A, n, c, l, tp⟩ (.mk k t ks l tp)
def PAll (X : Nat → Prop) (w : World) (raws : List Raw) (ks : List Piece) : Prop := raws.length = ks.length ∧ ∀ (i : Nat) (h1 : i < raws.length) (h2 : i < ks.length), PAt X w (raws[i]'h1) (ks[i]'h2)
theorem raws_keep {B : Nat} {w w' : World} {A : Option Addr} {n c : Nat} {L : List Raw} (h : Raws B w (.slice A n c) L) (hk : ∀ ad, A = some ad → 0 < L.length → ∀ p : Addr, p.block = ad.block → w'.cell? p = w.cell? p) : Raws B w' (.slice A n c) L := by
  obtain ⟨A', c', e, h1, h2, h3⟩ := h
  injection e with e1 e2 e3
  subst e1 e2 e3
  exact ⟨_, _, rfl, h1, h2, fun hn => by
    obtain ⟨ad, e2, hb, hc⟩ := h3 hn
    subst e2
    exact ⟨_, rfl, hb, fun k hk2 j hj => (hk ad rfl hn _ (by rw [block_add])).trans (hc k hk2 j hj)⟩⟩
theorem PAt.keep {X Y : Nat → Prop} {w w' : World} {r : Raw} {p : Piece} (h : PAt X w r p) (hXY : ∀ b, X b → Y b) (hk : ∀ a : Addr, X a.block → w'.cell? a = w.cell? a) : PAt Y w' r p := by
  induction h with
  | mk k t A n c l tp raws ks B h hX hl hks ih =>
    exact .mk k t A n c l tp raws ks B (raws_keep h fun ad e hn p hp => hk p (by rw [hp]; exact hX ad e hn)) (fun ad e hn => hXY _ (hX ad e hn)) hl (fun i h1 h2 => ih i h1 h2)
theorem PAll.keep {X Y : Nat → Prop} {w w' : World} {rs : List Raw} {ps : List Piece} (h : PAll X w rs ps) (hXY : ∀ b, X b → Y b) (hk : ∀ a : Addr, X a.block → w'.cell? a = w.cell? a) : PAll Y w' rs ps :=
  ⟨h.1, fun i h1 h2 => (h.2 i h1 h2).keep hXY hk⟩
theorem PAll.nil (X : Nat → Prop) (w : World) : PAll X w [] [] := ⟨rfl, fun i h1 => absurd h1 (by simp)⟩
theorem PAll.snoc {X : Nat → Prop} {w : World} {rs : List Raw} {ps : List Piece} {r : Raw} {p : Piece} (h : PAll X w rs ps) (hp : PAt X w r p) : PAll X w (rs ++ [r]) (ps ++ [p]) := by
  refine ⟨by simp [h.1], fun i h1 h2 => ?_⟩
  by_cases hi : i < rs.length
  · rw [List.getElem_append_left hi, List.getElem_append_left (by rw [← h.1]; exact hi)]
    exact h.2 i hi _
  · have h1' : i < rs.length + 1 := by simpa using h1
    have e : i = rs.length := by omega
    subst e
    rw [List.getElem_append_right (Nat.le_refl _), List.getElem_append_right (by rw [h.1]; exact Nat.le_refl _)]
    simpa [h.1] using hp
/-- a piece without kids -/
theorem PAt.leaf (X : Nat → Prop) (w : World) (k : Int) (t : ByteArray) : PAt X w ⟨k, t, none, 0, 0, 0, 0⟩ (M14.leaf k t) :=
  .mk k t none 0 0 0 0 [] [] 0 (recs_nil _ _ _ _) (fun ad e => by cases e) rfl (fun i h1 => absurd h1 (by simp))
/-- blocks from lo on, below hi -/
def In (lo hi b : Nat) : Prop := lo ≤ b ∧ b < hi
theorem cell_block {w w' : World} {a : Addr} (h : w'.heap[a.block]? = w.heap[a.block]?) : w'.cell? a = w.cell? a := by
  unfold World.cell?; rw [h]
theorem PAt.by_beside {lo rb : Nat} {w w' : World} {r : Raw} {p : Piece} (h : PAt (In lo w.heap.size) w r p) (hb : Beside rb w w') (hr : rb < lo) : PAt (In lo w'.heap.size) w' r p :=
  h.keep (fun _ ⟨h1, h2⟩ => ⟨h1, Nat.lt_of_lt_of_le h2 hb.size⟩) fun _ ⟨h1, h2⟩ => cell_block (hb.block _ h2 (by omega))
theorem PAt.by_below {lo : Nat} {w w' : World} {r : Raw} {p : Piece} (h : PAt (In lo w.heap.size) w r p) (hb : Below w.heap.size w w') : PAt (In lo w'.heap.size) w' r p :=
  h.keep (fun _ ⟨h1, h2⟩ => ⟨h1, Nat.lt_of_lt_of_le h2 hb.size⟩) fun _ ⟨_, h2⟩ => cell_block (hb.block _ h2)
theorem PAt.by_less {lo lo' hi : Nat} {w : World} {r : Raw} {p : Piece} (h : PAt (In lo hi) w r p) (k : lo' ≤ lo) : PAt (In lo' hi) w r p := h.keep (fun _ ⟨h1, h2⟩ => ⟨Nat.le_trans k h1, h2⟩) fun _ _ => rfl

/-- a list of pieces in a row of the call's own (base: where its blocks begin) -/
def Build (e : TypeId) (base : Nat) (w : World) (v : Value) (ks : List Piece) : Prop :=
  ∃ raws : List Raw, w.ownsRow base e 5 v raws.length (raws.flatMap rawC) ∧ PAll (fun b => In base w.heap.size b ∧ v.ownBlock ≠ some b) w raws ks
theorem Build.nil (e : TypeId) (base : Nat) (w : World) : Build e base w (.slice none 0 0) [] := ⟨[], World.ownsRow_nil _ _ _ _, PAll.nil _ _⟩
theorem own_same {base : Nat} {e : TypeId} {size n : Nat} {v : Value} {xs : List Value} {w w' : World} (h : w.ownsRow base e size v n xs) (hk : ∀ k, base ≤ k → k < w.heap.size → w'.heap[k]? = w.heap[k]?) : w'.ownsRow base e size v n xs := by
  refine ⟨h.1, ?_⟩
  rcases h.2 with h0 | ⟨g, cap, cur, e1, hb, hh, rest⟩
  · exact Or.inl h0
  · subst e1
    exact Or.inr ⟨g, cap, cur, rfl, hb, (hk g hb (Array.getElem?_eq_some_iff.1 hh).1).trans hh, rest⟩
theorem Build.same {e : TypeId} {base : Nat} {w w' : World} {v : Value} {ks : List Piece} (h : Build e base w v ks) (hs : w.heap.size ≤ w'.heap.size) (hk : ∀ k, base ≤ k → k < w.heap.size → w'.heap[k]? = w.heap[k]?) : Build e base w' v ks := by
  obtain ⟨raws, h1, h2⟩ := h
  exact ⟨raws, own_same h1 hk, h2.keep (fun b ⟨⟨a, c⟩, d⟩ => ⟨⟨a, Nat.lt_of_lt_of_le c hs⟩, d⟩) fun a ⟨⟨b, c⟩, _⟩ => cell_block (hk _ b c)⟩
theorem Build.beside {e : TypeId} {base rb : Nat} {w w' : World} {v : Value} {ks : List Piece} (h : Build e base w v ks) (hb : Beside rb w w') (hr : rb < base) : Build e base w' v ks :=
  h.same hb.size fun k h1 h2 => hb.block k h2 (by omega)
theorem Build.below {e : TypeId} {base : Nat} {w w' : World} {v : Value} {ks : List Piece} (h : Build e base w v ks) (hb : Below w.heap.size w w') : Build e base w' v ks :=
  h.same hb.size fun k _ h2 => hb.block k h2
theorem Build.len {e : TypeId} {base : Nat} {w : World} {v : Value} {ks : List Piece} (h : Build e base w v ks) : ∃ A c, v = .slice A ks.length c ∧ ks.length ≤ c ∧ c ≤ maxLen := by
  obtain ⟨raws, h1, h2⟩ := h
  obtain ⟨A, c, e, a, b⟩ := (Recs.of_own rawC_len rfl h1).form
  rw [h2.1] at e a
  exact ⟨A, c, e, a, b⟩
/-- one more piece, its blocks all newer than the row's -/
theorem Build.more {e : TypeId} {base : Nat} {w w1 : World} {v v' : Value} {ks : List Piece} {raws : List Raw} {r : Raw} {p : Piece} {lo : Nat}
    (h2 : PAll (fun b => In base w.heap.size b ∧ v.ownBlock ≠ some b) w raws ks) (hn : ∀ g, v.ownBlock = some g → g < lo) (hlo : base ≤ lo) (hp : PAt (In lo w.heap.size) w r p)
    (hown : w1.ownsRow base e 5 v' (raws.length + 1) (raws.flatMap rawC ++ [r].flatMap rawC)) (hg : w.grownBy w1 v.ownBlock) (hb : ∀ k, v'.ownBlock = some k → v.ownBlock = some k ∨ w.heap.size ≤ k) : Build e base w1 v' (ks ++ [p]) := by
  obtain ⟨g1, g2, g3, g4, g5⟩ := hg
  refine ⟨raws ++ [r], by rw [List.length_append, List.flatMap_append]; exact hown, PAll.snoc (h2.keep ?_ ?_) (hp.keep ?_ ?_)⟩
  · rintro b ⟨⟨a, c⟩, d⟩
    refine ⟨⟨a, Nat.lt_of_lt_of_le c g4⟩, fun q => ?_⟩
    rcases hb b q with q2 | q2
    · exact d q2
    · omega
  · rintro a ⟨⟨b, c⟩, d⟩
    exact cell_block (g5 _ c (fun q => d (by rw [q])))
  · rintro b ⟨a, c⟩
    refine ⟨⟨by omega, Nat.lt_of_lt_of_le c g4⟩, fun q => ?_⟩
    rcases hb b q with q2 | q2
    · have := hn b q2; omega
    · omega
  · rintro a ⟨b, c⟩
    refine cell_block (g5 _ c (fun q => ?_))
    have := hn a.block (by rw [q])
    omega
end Go.Proofs.YtehdnbidgphecaaGreatDoor.W14
/-
  Layer 14 (pattern), steps of walks over pieces that lie in boxes: laid, loaded, stored, put into a slice, returned; the reader's box. The conditions stand in the statements.
-/
namespace Go.Proofs.YtehdnbidgphecaaGreatDoor.W14
open Go Go.RowKit Go.Proofs.YtehdnbidgphecaaGreatDoor.Strs Go.Proofs.YtehdnbidgphecaaGreatDoor.Recs Go.Proofs.YtehdnbidgphecaaGreatDoor.M14
open Go.Proofs.YtehdnbidgphecaaGreatDoor.Row256 (Beside)

def zeroR : Raw := ⟨0, ⟨#[]⟩, none, 0, 0, 0, 0⟩
theorem piece_info : (Tryz.prog.info? 25).map (fun i => (i.zero, i.size, i.bytes)) = some (some (.agg #[.int .i64 0, .string ⟨#[]⟩, .slice none 0 0, .int .i64 0, .int .i64 0]), 5, 64) := by kernel_rfl
theorem piece_size (r : Raw) : (Tryz.prog.info? 25).map (·.size) = some (rawA r).size := by
  obtain ⟨i, hi, -, h2, -⟩ := info_parts piece_info
  rw [hi]; simp [rawA, h2]
theorem rawA_one (r : Raw) : (rawA r).all (·.oneCell') = true := by simp [rawA, Value.oneCell']
/-- block b is a piece's box, and may be written -/
def PBox (w : World) (b : Nat) (r : Raw) : Prop := w.heap[b]? = some (.cells (rawA r) 25 (0, 0))
theorem PBox.lt {w : World} {b : Nat} {r : Raw} (h : PBox w b r) : b < w.heap.size := (Array.getElem?_eq_some_iff.1 h).1
theorem PBox.below {w w' : World} {b : Nat} {r : Raw} (h : PBox w b r) (k : Below w.heap.size w w') : PBox w' b r := (k.block b h.lt).trans h
theorem PBox.beside {w w' : World} {b c : Nat} {r : Raw} (h : PBox w b r) (k : Beside c w w') (e : b ≠ c) : PBox w' b r := (k.block b h.lt e).trans h
theorem zero_piece (w : World) : (zeroValue 25).run Tryz.prog w = .ok (.agg (rawA zeroR)) w := by
  obtain ⟨i, hi, h1, -, -⟩ := info_parts piece_info
  simp [zeroValue, typeInfo, hi, h1]; rfl
section
variable {ops : Array Oper} {rest : List Oper} {o : Oper} {a : Act} {w : World} {Q : Exit → Act → World → Prop}
theorem below_new (w : World) (o : Obj) : Below w.heap.size w (w.alloc o) := (Below.refl w.heap.size w).alloc (Nat.le_refl _) o
/-- a piece's box is laid -/
theorem alloc_piece (hgd : o.guard = none) (ho : o.op = .alloc 25)
    (h : ∀ w' b, w.heap.size = b → PBox w' b zeroR → Below w.heap.size w w' → w'.heap.size = w.heap.size + 1 → wpList Tryz.prog ops Q rest (a.put o.dst (.pointer (some ⟨b, 0, none⟩))) w') : wpList Tryz.prog ops Q (o :: rest) a w :=
  wpList_plain hgd fun _ hK => by
    unfold Oper.wp execOp
    simp only [ho, Instr.alloc, newVar, newRow, zero_piece, Sem.run_bind, Sem.run_pure, Result.andThen_ok]
    exact hK _ _ (h _ _ rfl (heap_alloc_new w _) (below_new w _) (World.size_alloc w _))
theorem load_piece (hgd : o.guard = none) (x : Operand) (ho : o.op = .load 25 x) {b : Nat} (hx : a.eval x = .pointer (some ⟨b, 0, none⟩)) {r : Raw} (hr : PBox w b r) (h : wpList Tryz.prog ops Q rest (a.put o.dst (.agg (rawA r))) w) : wpList Tryz.prog ops Q (o :: rest) a w :=
  wpList_load_row hgd 25 x ho b hx 25 (rawA r) (0, 0) _ hr Tryz.underlying25 rfl (piece_size r) h
theorem store_piece (hgd : o.guard = none) (x y : Operand) (ho : o.op = .store 25 x y) {b : Nat} {r old : Raw} (hx : a.eval x = .pointer (some ⟨b, 0, none⟩)) (hy : a.eval y = .agg (rawA r)) (hr : PBox w b old)
    (h : ∀ w', PBox w' b r → Beside b w w' → w'.heap.size = w.heap.size → wpList Tryz.prog ops Q rest (a.put o.dst undef) w') : wpList Tryz.prog ops Q (o :: rest) a w :=
  wpList_store_row hgd 25 x y ho b (rawA r) hx hy 25 (rawA old) hr (piece_size r) rfl (rawA_one r)
    (h _ (setRow_heap w b _ _ _ _ hr) ⟨rfl, rfl, rfl, by rw [setRow_size]; exact Nat.le_refl _, fun k _ e => setRow_other w b k _ e⟩ (setRow_size _ _ _))
/-- a slice of one piece -/
theorem slice_piece (hgd : o.guard = none) (x : Operand) (ho : o.op = .buildSlice 23 1 #[(0, x)]) {r : Raw} (hx : a.eval x = .agg (rawA r))
    (h : ∀ w' b, w.heap.size = b → Raws w'.heap.size w' (.slice (some ⟨b, 0, none⟩) 1 1) [r] → Below w.heap.size w w' → w'.heap.size = w.heap.size + 1 → wpList Tryz.prog ops Q rest (a.put o.dst (.slice (some ⟨b, 0, none⟩) 1 1)) w') : wpList Tryz.prog ops Q (o :: rest) a w := by
  obtain ⟨i, hi, h1, h2, -⟩ := info_parts piece_info
  refine wpList_plain hgd fun _ hK => wp_buildSlice 23 25 1 _ ho (rawA r) i _ Tryz.underlying23 hi h1 (by rw [h2]; decide) (by rw [h2]; decide) ?_ (hK _ _ (h _ _ rfl ?_ (below_new w _) (World.size_alloc w _)))
  · rw [h2]
    simp only [List.map_toArray, List.map_cons, List.map_nil, hx]
    have hr : Array.range (1 * 5) = #[0, 1, 2, 3, 4] := by decide
    rw [hr]
    simp [Instr.fill, rawA, Value.cells]
  · refine ⟨_, _, rfl, Nat.le_refl _, by unfold maxLen; decide, fun _ => ⟨_, rfl, by rw [World.size_alloc]; exact Nat.lt_succ_self _, fun k hk j hj => ?_⟩⟩
    have hk0 : k = 0 := by simp at hk; omega
    subst hk0
    have := cells_new w (rawC r) 25 j
    rw [Nat.zero_mul, Nat.zero_add]
    have h5 : j < (rawC r).length := by rw [rawC_len]; exact hj
    exact (this _ (List.getElem?_eq_getElem h5)).trans (List.getElem?_eq_getElem h5).symm
end
theorem Build.own_lt {e : TypeId} {base : Nat} {w : World} {v : Value} {ks : List Piece} (h : Build e base w v ks) : ∀ g, v.ownBlock = some g → g < w.heap.size := by
  obtain ⟨raws, h1, -⟩ := h
  intro g hg
  exact (h1.lt g hg).2
/-- one more piece is put behind a list's last one -/
theorem append_piece {ops : Array Oper} {rest : List Oper} {o : Oper} {a : Act} {w : World} {Q : Exit → Act → World → Prop} (hgd : o.guard = none) (s x : Operand)
    (ho : o.op = .call { callee := .builtin .append, args := #[s, x], argTypes := #[23, 23] })
    {base lo : Nat} {v u : Value} {ks : List Piece} {r : Raw} {p : Piece} (hs : a.eval s = v) (hx : a.eval x = u) (hb : Build 25 base w v ks) (hn : ∀ g, v.ownBlock = some g → g < lo) (hlo : base ≤ lo) (hbase : base ≤ w.heap.size)
    (hu : Raws w.heap.size w u [r]) (hp : PAt (In lo w.heap.size) w r p) (hl : ks.length ≤ 1000000)
    (h : ∀ v' w', Build 25 base w' v' (ks ++ [p]) → w.grownBy w' v.ownBlock → wpList Tryz.prog ops Q rest (a.put o.dst v') w') : wpList Tryz.prog ops Q (o :: rest) a w := by
  obtain ⟨i, hi, h1, h2, h3⟩ := info_parts piece_info
  obtain ⟨raws, hown, hall⟩ := hb
  have hl2 : raws.length ≤ 1000000 := by rw [hall.1]; exact hl
  refine wpList_append_recs hgd s x 23 ho base 25 i _ 5 64 Tryz.underlying23 hi h1 h2 h3 rfl (by decide) v raws.length (raws.flatMap rawC) hs hown u [r] w.heap.size hx hu rawC_len rawC_one
    (by simp only [List.length_cons, List.length_nil]; unfold maxLen; omega) (by simp only [List.length_cons, List.length_nil]; omega) hbase fun v' w' e1 e2 e3 => h v' w' (Build.more hall hn hlo hp e1 e2 e3) e2
/-- what was there is there: an append changes the list's own block, if any -/
theorem grown_below {e : TypeId} {base : Nat} {w w' : World} {v : Value} {ks : List Piece} (hb : Build e base w v ks) (hg : w.grownBy w' v.ownBlock) : ∀ k, k < base → k < w.heap.size → w'.heap[k]? = w.heap[k]? := by
  obtain ⟨g1, g2, g3, g4, g5⟩ := hg
  obtain ⟨raws, h1, -⟩ := hb
  intro k hk hk2
  refine g5 k hk2 fun q => ?_
  have := (h1.lt k q.symm).1
  omega

/-! the reader -/
/-- block b is the reader's box: its text, its place, how deep it is -/
def Reader (w : World) (b : Nat) (s : ByteArray) (at_ deep : Nat) : Prop := w.heap[b]? = some (.cells #[.string s, .int .i64 at_, .int .i64 deep] 81 (0, 0))
section
variable {w w' : World} {b : Nat} {s : ByteArray} {at_ deep : Nat}
theorem Reader.lt (h : Reader w b s at_ deep) : b < w.heap.size := (Array.getElem?_eq_some_iff.1 h).1
theorem Reader.below (h : Reader w b s at_ deep) (k : Below w.heap.size w w') : Reader w' b s at_ deep := (k.block b h.lt).trans h
theorem Reader.beside {c : Nat} (h : Reader w b s at_ deep) (k : Beside c w w') (e : b ≠ c) : Reader w' b s at_ deep := (k.block b h.lt e).trans h
theorem Reader.c0 (h : Reader w b s at_ deep) : w.cell? ⟨b, 0, none⟩ = some (.string s) := cell_of_row w b 0 _ _ _ h
theorem Reader.c1 (h : Reader w b s at_ deep) : w.cell? ⟨b, 1, none⟩ = some (.int .i64 at_) := cell_of_row w b 1 _ _ _ h
theorem Reader.c2 (h : Reader w b s at_ deep) : w.cell? ⟨b, 2, none⟩ = some (.int .i64 deep) := cell_of_row w b 2 _ _ _ h
theorem Reader.free (h : Reader w b s at_ deep) (i : Nat) : w.frozen? ⟨b, i, none⟩ = false := frozen_of_row w b i _ _ h
theorem Reader.put1 (h : Reader w b s at_ deep) (n : Nat) : Reader (w.setCell ⟨b, 1, none⟩ (.int .i64 n)) b s n deep := by
  unfold Reader at *
  rw [heap_setCell_same w b 1 _ _ _ h]; rfl
theorem Reader.put2 (h : Reader w b s at_ deep) (n : Nat) : Reader (w.setCell ⟨b, 2, none⟩ (.int .i64 n)) b s at_ n := by
  unfold Reader at *
  rw [heap_setCell_same w b 2 _ _ _ h]; rfl
end
theorem beside_put (w : World) (b i : Nat) (v : Value) : Beside b w (w.setCell ⟨b, i, none⟩ v) := (Beside.refl b w).put i v
/-- a box newer than all is not told of -/
theorem beside_fresh {b c : Nat} {w0 w w' : World} (h : Beside b w0 w) (k : Beside c w w') (hc : w0.heap.size ≤ c) : Beside b w0 w' :=
  ⟨k.os.trans h.os, k.tape.trans h.tape, k.output.trans h.output, Nat.le_trans h.size k.size, fun i hi e => (k.block i (Nat.lt_of_lt_of_le hi h.size) (by omega)).trans (h.block i hi e)⟩
theorem beside_onto {b : Nat} {w0 w w' : World} (h : Beside b w0 w) (k : Below w.heap.size w w') : Beside b w0 w' := h.trans (.of k)
/-- a function ends whose first result is a piece in a box, with one more -/
theorem end_piece2 {fn : Func} {R : Ending → World → Prop} {a : Act} {w : World} {p u : Tmp} {b : Nat} {r : Raw} (hf : fn.results = #[.cell p 25, .tmp u]) (hp : a.tmps.getD p undef = .pointer (some ⟨b, 0, none⟩)) (hr : PBox w b r) (hd : a.defers = [])
    (hR : R (.returned (.tuple #[.agg (rawA r), a.tmps.getD u undef])) w) : bodyPost Tryz.prog fn R .ret a w := by
  refine bodyPost_ret ?_ hd hR
  have hp' : a.tmps[p]?.getD undef = .pointer (some ⟨b, 0, none⟩) := by simpa using hp
  have hl := run_loadVar_row w b 25 25 (rawA r) (0, 0) _ hr Tryz.underlying25 rfl (piece_size r)
  simp [results, hf, hp', asAddr, Result.andThen, hl]
theorem end_piece3 {fn : Func} {R : Ending → World → Prop} {a : Act} {w : World} {p u v : Tmp} {b : Nat} {r : Raw} (hf : fn.results = #[.cell p 25, .tmp u, .tmp v]) (hp : a.tmps.getD p undef = .pointer (some ⟨b, 0, none⟩)) (hr : PBox w b r) (hd : a.defers = [])
    (hR : R (.returned (.tuple #[.agg (rawA r), a.tmps.getD u undef, a.tmps.getD v undef])) w) : bodyPost Tryz.prog fn R .ret a w := by
  refine bodyPost_ret ?_ hd hR
  have hp' : a.tmps[p]?.getD undef = .pointer (some ⟨b, 0, none⟩) := by simpa using hp
  have hl := run_loadVar_row w b 25 25 (rawA r) (0, 0) _ hr Tryz.underlying25 rfl (piece_size r)
  simp [results, hf, hp', asAddr, Result.andThen, hl]
theorem end_piece1 {fn : Func} {R : Ending → World → Prop} {a : Act} {w : World} {p : Tmp} {b : Nat} {r : Raw} (hf : fn.results = #[.cell p 25]) (hp : a.tmps.getD p undef = .pointer (some ⟨b, 0, none⟩)) (hr : PBox w b r) (hd : a.defers = [])
    (hR : R (.returned (.agg (rawA r))) w) : bodyPost Tryz.prog fn R .ret a w :=
  bodyPost_ret (results_cell_row hf a.tmps w b 25 (rawA r) (0, 0) _ hp hr Tryz.underlying25 rfl (piece_size r)) hd hR
end Go.Proofs.YtehdnbidgphecaaGreatDoor.W14
/-
  Layer 14 (pattern), walks of the program's functions: what pieces are together; whether no atom begins at a place. The conditions stand in the statements.
-/
namespace Go.Proofs.YtehdnbidgphecaaGreatDoor.W14
set_option maxRecDepth 100000
open Go Go.RowKit Go.Proofs.YtehdnbidgphecaaGreatDoor.Strs Go.Proofs.YtehdnbidgphecaaGreatDoor.Recs Go.Proofs.YtehdnbidgphecaaGreatDoor.M14
open Go.Proofs.YtehdnbidgphecaaGreatDoor.Row256 (Beside)
open Go.Proofs.YtehdnbidgphecaaGreatDoor.Kit (ret_str ret_bool ret_int mk_of mk_bytes ba_ext below_draws on)

/-- a piece is loaded out of a slice -/
theorem load_at {ops : Array Oper} {rest : List Oper} {o : Oper} {a : Act} {w : World} {Q : Exit → Act → World → Prop} (hgd : o.guard = none) (x : Operand) (ho : o.op = .load 25 x) {b k : Nat} (hx : a.eval x = .pointer (some ⟨b, k, none⟩)) {r : Raw}
    (hr : ∀ j, j < 5 → w.cell? ⟨b, k + j, none⟩ = (rawC r)[j]?) (h : wpList Tryz.prog ops Q rest (a.put o.dst (.agg (rawA r))) w) : wpList Tryz.prog ops Q (o :: rest) a w :=
  wpList_plain hgd fun _ hK => by
    have hl : (loadCells ⟨b, k, none⟩ (rawC r).length).run Tryz.prog w = .ok (rawC r).toArray w := run_loadCells_list (P := Tryz.prog) w ⟨b, k, none⟩ (rawC r) fun j v hv => by
      have hadd : (⟨b, k, none⟩ : Addr).add j = ⟨b, k + j, none⟩ := by unfold Addr.add; split <;> simp_all
      have hj : j < 5 := by
        rcases Nat.lt_or_ge j (rawC r).length with q | q
        · rw [rawC_len] at q; exact q
        · rw [List.getElem?_eq_none q] at hv; cases hv
      rw [hadd, hr j hj]; exact hv
    obtain ⟨i, hi, -, h2, -⟩ := info_parts piece_info
    have hagg : (isAgg 25).run Tryz.prog w = .ok true w := by
      unfold isAgg
      rw [Sem.run_bind, run_underlying Tryz.underlying25 w]
      rfl
    rw [rawC_len] at hl
    unfold Oper.wp execOp
    simp only [ho, hx, Instr.loadAt, Instr.sureAddr, loadVar, sizeOf, typeInfo, Sem.run_bind, Sem.run_pure, Result.andThen_ok, hagg]
    simp [hi, h2, hl, Sem.run_bind, Result.andThen]
    exact hK _ _ h
/-- what pieces are together -/
def Laid (base : Nat) (w : World) (p : Piece) (e : Ending) (w' : World) : Prop := ∃ r, e = .returned (.agg (rawA r)) ∧ PAt (In base w'.heap.size) w' r p ∧ Below w.heap.size w w'
theorem own_form {base : Nat} {e : TypeId} {size n : Nat} {v : Value} {xs : List Value} {w : World} (h : w.ownsRow base e size v n xs) (hn : 0 < n) : ∃ g c, v = .slice (some ⟨g, 0, none⟩) n c ∧ base ≤ g ∧ g < w.heap.size ∧ n ≤ c ∧ c ≤ maxLen := by
  rcases h.2 with ⟨rfl, h0⟩ | ⟨g, cap, cur, rfl, hb, hh, hc, hm, -⟩
  · omega
  · exact ⟨g, cap, rfl, hb, (Array.getElem?_eq_some_iff.1 hh).1, hc, hm⟩
set_option maxHeartbeats 1000000 in
theorem together_0 {base : Nat} {w : World} {v : Value} (kind : Int) (h : Build 25 base w v []) : Calls Tryz.prog 58 #[.int .i64 kind, v] w (Laid base w (together kind [])) := by
  obtain ⟨A, c, rfl, h1, h2⟩ := h.len
  unfold maxLen at h2
  go_enter Tryz.func58, Tryz.ntmps58
  go_wp2_with (first
    | (refine alloc_piece rfl rfl ?_; intro w1 b1 e1 p1 l1 z1)
    | (refine store_piece (r := ⟨1, ⟨#[]⟩, none, 0, 0, 0, 0⟩) rfl _ _ rfl rfl rfl p1 ?_; intro w2 p2 l2 z2))
  refine end_piece1 rfl rfl p2 rfl ⟨_, rfl, PAt.leaf _ _ 1 _, l1.trans (l2.below l1.size (by omega))⟩
set_option maxHeartbeats 1000000 in
theorem together_1 {base : Nat} {w : World} {v : Value} {p : Piece} (kind : Int) (h : Build 25 base w v [p]) : Calls Tryz.prog 58 #[.int .i64 kind, v] w (Laid base w (together kind [p])) := by
  obtain ⟨raws, hown, hall⟩ := h
  obtain ⟨r, rfl⟩ : ∃ r, raws = [r] := List.length_eq_one_iff.1 hall.1
  have hp := hall.2 0 (by simp) (by simp)
  simp only [List.getElem_cons_zero] at hp
  have hR := Recs.of_own rawC_len rfl hown
  obtain ⟨g, c, rfl, hg, hgw, h1, h2⟩ := own_form hown (by simp)
  unfold maxLen at h2
  obtain ⟨b, o, hl, hbo, -, hc⟩ := hR.flat_ rawC_len (by decide) (k := 0) (by simp)
  cases hbo
  simp only [List.getElem_cons_zero, Nat.zero_mul, Nat.add_zero] at hc
  have HC := Lib.hid hc
  have HP := Lib.hid hp
  simp only [List.length_cons, List.length_nil, Nat.zero_add] at h1 ⊢
  clear hc hp hR hall hown
  go_enter Tryz.func58, Tryz.ntmps58
  go_wp2_with (first
    | (refine alloc_piece rfl rfl ?_; intro w1 b1 e1 p1 l1 z1)
    | (refine load_at rfl _ rfl rfl (r := r) (fun j hj => (cell_block (l1.block _ hgw)).trans (HC.out j hj)) ?_)
    | (refine store_piece rfl _ _ rfl rfl rfl p1 ?_; intro w2 p2 l2 z2))
  have hb := l1.trans (l2.below l1.size (by omega))
  refine end_piece1 rfl rfl p2 rfl ⟨_, rfl, HP.out.keep (fun _ q => ⟨q.1.1, Nat.lt_of_lt_of_le q.1.2 hb.size⟩) (fun _ q => cell_block (hb.block _ q.1.2)), hb⟩
set_option maxHeartbeats 1000000 in
theorem together_2 {base : Nat} {w : World} {v : Value} {p q : Piece} {ks : List Piece} (kind : Int) (hks : ks.length ≤ 1000000) (h : Build 25 base w v (p :: q :: ks)) : Calls Tryz.prog 58 #[.int .i64 kind, v] w (Laid base w (together kind (p :: q :: ks))) := by
  obtain ⟨raws, hown, hall⟩ := h
  have hlen : raws.length = ks.length + 2 := hall.1
  have hR := Recs.of_own rawC_len rfl hown
  obtain ⟨g, c, rfl, hg, hgw, h1, h2⟩ := own_form hown (by omega)
  have HA := Lib.hid hall
  have HR := Lib.hid hR
  unfold maxLen at h2
  rw [hlen] at h1 HR ⊢
  clear hR hall hown
  have t0 : (((ks.length + 2 : Nat) : Int) == 0) = false := by simpa using (by omega : ¬ (((ks.length + 2 : Nat) : Int) = 0))
  have t1 : (((ks.length + 2 : Nat) : Int) == 1) = false := by simpa using (by omega : ¬ (((ks.length + 2 : Nat) : Int) = 1))
  generalize hn : ks.length + 2 = n at *
  have HN := Lib.hid hn
  clear hn
  go_enter Tryz.func58, Tryz.ntmps58
  go_wp2_with (first
    | (refine alloc_piece rfl rfl ?_; intro w1 b1 e1 p1 l1 z1)
    | (refine store_piece (r := ⟨kind, ⟨#[]⟩, some ⟨g, 0, none⟩, n, c, 0, 0⟩) rfl _ _ rfl rfl rfl p1 ?_; intro w2 p2 l2 z2))
  have hb := l1.trans (l2.below l1.size (by omega))
  refine end_piece1 rfl rfl p2 rfl ⟨_, rfl, .mk _ _ _ _ _ _ _ raws _ _ (HR.out.below hb) ?_ HA.out.1 ?_, hb⟩
  · intro ad e _
    cases e
    exact ⟨hg, Nat.lt_of_lt_of_le hgw hb.size⟩
  · intro i h1 h2
    exact (HA.out.2 i h1 h2).keep (fun _ q => ⟨q.1.1, Nat.lt_of_lt_of_le q.1.2 hb.size⟩) (fun _ q => cell_block (hb.block _ q.1.2))
theorem together_any {base : Nat} {w : World} {v : Value} {ks : List Piece} (kind : Int) (hks : ks.length ≤ 1000000) (h : Build 25 base w v ks) : Calls Tryz.prog 58 #[.int .i64 kind, v] w (Laid base w (together kind ks)) := by
  match ks, h with
  | [], h => exact together_0 kind h
  | [p], h => exact together_1 kind h
  | p :: q :: l, h => exact together_2 kind (by simp only [List.length_cons] at hks; omega) h
end Go.Proofs.YtehdnbidgphecaaGreatDoor.W14
