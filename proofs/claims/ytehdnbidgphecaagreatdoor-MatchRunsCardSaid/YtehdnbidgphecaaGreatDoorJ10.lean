/-
  Texts joined, in build order, each with its own comment and its own conditions: W15Patch, Range, RangeG, RangeH, W16Heap, W16New.
-/
import Derived.Test.YtehdnbidgphecaaGreatDoorJ09
import Derived.RangeFuncNested
import Derived.RangeFuncCalls
import Derived.Lib.Hide
import Derived.Deep.Draws
import Derived.Test.YtehdnbidgphecaaGreatDoorJ05
import Derived.Laws.MakeOwn
import Derived.Test.YtehdnbidgphecaaGreatDoorJ07
import Derived.Deep.LoopGhost
import Derived.Deep.Onto
import Derived.Deep.RegionHeld3
import Derived.BigQuiet
/-
  Layer 15 (prog): alternatives in plain mathematics (where the jumps are that are set at the end); a field of a step that lies in the layer is set; numbers kept beside the layer. The conditions stand in the statements.
-/
namespace Go.Proofs.YtehdnbidgphecaaGreatDoor.M15
open Go Go.Proofs.YtehdnbidgphecaaGreatDoor.M14
/-- the kids of an alternative but the last one: their jumps go to j -/
def pre : List Piece → Nat → Nat → List Inst
  | [], _, _ => []
  | p :: l, a, j => split (a + 1) (a + size p + 2) :: (steps p (a + 1) ++ jump j :: pre l (a + size p + 2) j)
/-- where the jumps are -/
def spots : List Piece → Nat → List Nat
  | [], _ => []
  | p :: l, a => (a + size p + 1) :: spots l (a + size p + 2)
def plen (l : List Piece) : Nat := sizes l + 2 * l.length
theorem plen_cons (p : Piece) (l : List Piece) : plen (p :: l) = size p + 2 + plen l := by
  unfold plen
  rw [show sizes (p :: l) = size p + sizes l by simp only [sizes], List.length_cons]; omega
theorem pre_len {ks : List Piece} (hs : ∀ q, q ∈ ks → ∀ a, (steps q a).length = size q) (j : Nat) : ∀ (l : List Piece) (a : Nat), (∀ q, q ∈ l → q ∈ ks) → (pre l a j).length = plen l
  | [], a, _ => by simp [pre, plen, sizes]
  | p :: l, a, hm => by
    rw [pre, List.length_cons, List.length_append, List.length_cons, hs p (hm p (by simp)), pre_len hs j l _ (fun q hq => hm q (by simp [hq])), plen_cons]; omega
theorem pre_append (j : Nat) : ∀ (l m : List Piece) (a : Nat), pre (l ++ m) a j = pre l a j ++ pre m (a + plen l) j
  | [], m, a => by simp [pre, plen, sizes]
  | p :: l, m, a => by
    rw [List.cons_append, pre, pre, pre_append j l m, plen_cons, show a + size p + 2 + plen l = a + (size p + 2 + plen l) by omega]
    simp only [List.cons_append, List.append_assoc]
theorem spots_len : ∀ (l : List Piece) (a : Nat), (spots l a).length = l.length
  | [], _ => rfl
  | p :: l, a => by rw [spots, List.length_cons, List.length_cons, spots_len l]
theorem spots_append : ∀ (l m : List Piece) (a : Nat), spots (l ++ m) a = spots l a ++ spots m (a + plen l)
  | [], m, a => by simp [spots, plen, sizes]
  | p :: l, m, a => by
    rw [List.cons_append, spots, spots, spots_append l m, plen_cons, show a + size p + 2 + plen l = a + (size p + 2 + plen l) by omega]; rfl
theorem alts_pre (q : Piece) : ∀ (l : List Piece) (a e : Nat), alts (l ++ [q]) a e = pre l a e ++ steps q (a + plen l)
  | [], a, e => by rw [List.nil_append, alts_1]; simp [pre, plen, sizes]
  | [p], a, e => by
    rw [List.cons_append, List.nil_append, alts_2, alts_1, plen_cons]
    simp only [pre, List.cons_append, List.append_assoc, List.nil_append]
    rw [show plen [] = 0 from rfl, show a + size p + 2 = a + (size p + 2 + 0) by omega]
  | p :: r :: l, a, e => by
    have := alts_pre q (r :: l) (a + size p + 2) e
    rw [List.cons_append] at this
    rw [List.cons_append, List.cons_append, alts_2, this, plen_cons p, show a + size p + 2 + plen (r :: l) = a + (size p + 2 + plen (r :: l)) by omega]
    show _ = (split (a + 1) (a + size p + 2) :: (steps p (a + 1) ++ jump e :: pre (r :: l) (a + size p + 2) e)) ++ _
    simp only [List.cons_append, List.append_assoc]
theorem take_one {ks : List Piece} {i n : Nat} (hi : i < n) (hn : n ≤ ks.length) : ∃ q, q ∈ ks ∧ (∃ h : i < ks.length, ks[i] = q) ∧ (ks.take n).take (i + 1) = (ks.take n).take i ++ [q] ∧ (ks.take n).drop i = q :: (ks.take n).drop (i + 1) := by
  have h1 : i < (ks.take n).length := by rw [List.length_take]; omega
  refine ⟨(ks.take n)[i], List.mem_of_mem_take (List.getElem_mem h1), ⟨by omega, (List.getElem_take).symm⟩, List.take_succ_eq_append_getElem h1, List.drop_eq_getElem_cons h1⟩
end Go.Proofs.YtehdnbidgphecaaGreatDoor.M15
namespace Go.Proofs.YtehdnbidgphecaaGreatDoor.W15
open Go Go.RowKit Go.Proofs.YtehdnbidgphecaaGreatDoor.Strs Go.Proofs.YtehdnbidgphecaaGreatDoor.Recs Go.Proofs.YtehdnbidgphecaaGreatDoor.M15
open Go.Proofs.YtehdnbidgphecaaGreatDoor.M14 (Piece size sizes)
open Go.Proofs.YtehdnbidgphecaaGreatDoor.W14 (cell_block own_form)

theorem own_block_same {base : Nat} {e : TypeId} {size n : Nat} {v : Value} {xs : List Value} {w w' : World} (h : w.ownsRow base e size v n xs) (hk : ∀ k, v.ownBlock = some k → w'.heap[k]? = w.heap[k]?) : w'.ownsRow base e size v n xs := by
  refine ⟨h.1, ?_⟩
  rcases h.2 with h0 | ⟨g, cap, cur, e1, hb, hh, rest⟩
  · exact Or.inl h0
  · subst e1
    exact Or.inr ⟨g, cap, cur, rfl, hb, (hk g rfl).trans hh, rest⟩
theorem own_type {base : Nat} {e : TypeId} {size n : Nat} {v : Value} {xs : List Value} {w : World} (h : w.ownsRow base e size v n xs) {k : Nat} (hk : v.ownBlock = some k) : ∃ cur, w.heap[k]? = some (.cells cur e (0, 0)) := by
  rcases h.2 with ⟨rfl, _⟩ | ⟨g, cap, cur, rfl, hb, hh, rest⟩
  · cases hk
  · cases hk
    exact ⟨cur, hh⟩
theorem own_two {base base' : Nat} {e e' : TypeId} {size size' n n' : Nat} {v v' : Value} {xs xs' : List Value} {w : World} (h : w.ownsRow base e size v n xs) (h' : w.ownsRow base' e' size' v' n' xs') (he : e ≠ e') {k : Nat} (hk : v.ownBlock = some k) : v'.ownBlock ≠ some k := by
  intro q
  obtain ⟨c, h1⟩ := own_type h hk
  obtain ⟨c', h2⟩ := own_type h' q
  rw [h1] at h2
  injection h2 with h2
  injection h2 with _ h2
  exact he h2
/-- numbers in a row of the caller's own -/
def Nums (base : Nat) (w : World) (v : Value) (M : List Nat) : Prop := w.ownsRow base 3 1 v M.length (M.flatMap numC)
section
variable {w w' : World} {b base : Nat} {v v' vj vj' : Value} {L : List Inst} {M : List Nat}
theorem Nums.nil (base : Nat) (w : World) : Nums base w (.slice none 0 0) [] := World.ownsRow_nil _ _ _ _
theorem Nums.below (h : Nums base w vj M) (hb : Below w.heap.size w w') : Nums base w' vj M := own_block_same h fun k hk => hb.block k (h.lt k hk).2
theorem Nums.apart (h : Nums base w vj M) (hl : Lay w b v L) {k : Nat} (hk : vj.ownBlock = some k) : v.ownBlock ≠ some k := own_two h hl.own (by decide) hk
theorem Nums.grow (h : Nums base w vj M) (hl : Lay w b v L) (hb : b < base) (hg : Grow b v v' w w') : Nums base w' vj M :=
  own_block_same h fun k hk => hg.block k (h.lt k hk).2 (by have := (h.lt k hk).1; omega) (h.apart hl hk)
theorem Lay.put_nums (hl : Lay w b v L) (h : Nums base w vj M) (hb : b < base) (hp : Put vj vj' w w') : Lay w' b v L := by
  obtain ⟨g1, g2, g3, g4, g5⟩ := hp.grown
  refine ⟨(g5 b hl.box.lt (fun q => by have := (h.lt b q.symm).1; omega)).trans hl.box, own_block_same hl.own fun k hk => g5 k (hl.own_gt k hk).2 (fun q => h.apart hl q.symm hk)⟩
theorem Nums.recs (h : Nums base w vj M) : Recs numC 1 w.heap.size w vj M := Recs.of_own numC_len rfl h
theorem KidsU.put {A : Option Addr} {c : Nat} {raws : List W14.Raw} {ks : List Piece} (hk : KidsU b w A c raws ks) (h : Nums base w vj M) (hb : b < base) (hw : b < w.heap.size) (hp : Put vj vj' w w') : KidsU b w' A c raws ks := by
  obtain ⟨g1, g2, g3, g4, g5⟩ := hp.grown
  exact hk.keep fun k q => g5 k (Nat.lt_trans q hw) (fun q2 => by have := (h.lt k q2.symm).1; omega)
end
/-! a field of a step -/
theorem flat_set (x : Inst) (j : Nat) (u : Value) (y : Inst) (hj : j < 4) (hy : (insC x).set j u = insC y) (X Z : List Inst) : ((X ++ x :: Z).flatMap insC).set (X.length * 4 + j) u = (X ++ y :: Z).flatMap insC := by
  rw [List.flatMap_append, List.flatMap_append, List.flatMap_cons, List.flatMap_cons]
  have hl := flat_len insC_len X
  rw [List.set_append_right _ _ (by omega), hl, show X.length * 4 + j - X.length * 4 = j by omega, List.set_append_left _ _ (by rw [insC_len]; exact hj), hy]
section
variable {w : World} {b g c n : Nat} {X Z : List Inst} {x : Inst}
theorem Lay.set_ {j : Nat} {u : Value} {y : Inst} (hj : j < 4) (hy : (insC x).set j u = insC y) (h : Lay w b (.slice (some ⟨g, 0, none⟩) n c) (X ++ x :: Z)) :
    Lay (w.setCell ⟨g, X.length * 4 + j, none⟩ u) b (.slice (some ⟨g, 0, none⟩) n c) (X ++ y :: Z) ∧ Grow b (.slice (some ⟨g, 0, none⟩) n c) (.slice (some ⟨g, 0, none⟩) n c) w (w.setCell ⟨g, X.length * 4 + j, none⟩ u) := by
  have hgb := (h.own_gt g rfl).1
  obtain ⟨A, c', e, -, -⟩ := h.form
  injection e with e1 e2 e3
  subst e2
  have hs := h.own.stored (X.length * 4 + j) u
  rw [flat_set x j u y hj hy] at hs
  refine ⟨⟨(heap_setCell_other w _ b _ (show b ≠ g by omega)).trans h.box, ?_⟩, ⟨rfl, rfl, rfl, by rw [World.size_setCell]; exact Nat.le_refl _, fun k _ _ e2 => heap_setCell_other w _ k _ (show k ≠ g from fun q => e2 (by rw [q]; rfl)), fun k hk => Or.inl hk⟩⟩
  have hl : (X ++ y :: Z).length = (X ++ x :: Z).length := by simp
  rw [hl]
  exact hs.1
theorem Lay.set2 (h : Lay w b (.slice (some ⟨g, 0, none⟩) n c) (X ++ x :: Z)) (u : Int) :
    Lay (w.setCell ⟨g, X.length * 4 + 2, none⟩ (.int .i64 u)) b (.slice (some ⟨g, 0, none⟩) n c) (X ++ { x with x := u } :: Z) ∧ Grow b (.slice (some ⟨g, 0, none⟩) n c) (.slice (some ⟨g, 0, none⟩) n c) w (w.setCell ⟨g, X.length * 4 + 2, none⟩ (.int .i64 u)) := h.set_ (x := x) (y := { x with x := u }) (by decide) rfl
theorem Lay.set3 (h : Lay w b (.slice (some ⟨g, 0, none⟩) n c) (X ++ x :: Z)) (u : Int) :
    Lay (w.setCell ⟨g, X.length * 4 + 3, none⟩ (.int .i64 u)) b (.slice (some ⟨g, 0, none⟩) n c) (X ++ { x with y := u } :: Z) ∧ Grow b (.slice (some ⟨g, 0, none⟩) n c) (.slice (some ⟨g, 0, none⟩) n c) w (w.setCell ⟨g, X.length * 4 + 3, none⟩ (.int .i64 u)) := h.set_ (x := x) (y := { x with y := u }) (by decide) rfl
/-- what a field of a step is -/
theorem Lay.field {m : Nat} (h : Lay w b (.slice (some ⟨g, 0, none⟩) n c) (X ++ x :: Z)) (hm : X.length = m) : w.cell? ⟨g, m * 4 + 2, none⟩ = some (.int .i64 x.x) ∧ w.cell? ⟨g, m * 4 + 3, none⟩ = some (.int .i64 x.y) ∧ ∀ j, w.frozen? ⟨g, j, none⟩ = false := by
  subst hm
  obtain ⟨A, c', e, -, -⟩ := h.form
  injection e with e1 e2 e3
  subst e2
  have hl : (X ++ x :: Z).length = X.length + Z.length + 1 := by simp; omega
  have hf : ∀ j, j < 4 → ((X ++ x :: Z).flatMap insC)[X.length * 4 + j]? = (insC x)[j]? := by
    intro j hj
    have := flat_at insC_len (X ++ x :: Z) X.length (by omega) j hj
    rw [this]
    simp
  refine ⟨?_, ?_, fun j => h.own.frozenAt j⟩
  · rw [h.own.cellAt _ (by omega), hf 2 (by decide)]; rfl
  · rw [h.own.cellAt _ (by omega), hf 3 (by decide)]; rfl
end
end Go.Proofs.YtehdnbidgphecaaGreatDoor.W15
/-
  A range over a function, at the wide fence: what an iterator promises its caller ('Seq': it hands out the texts of a list, in their order, and turns no blocks but its own), and what a caller owes at such a statement ('wp_range'). The border between the two is drawn by numbers of blocks: the iterator's own ones lie in a set that both know. For every program; no condition but those that each theorem bears.
-/
namespace Go.Proofs.YtehdnbidgphecaaGreatDoor.Range
open Go Go.RowKit

/-- from A to B no block that A had has turned but those of T -/
structure Turns (T : Nat → Prop) (A B : World) : Prop where
  os : B.os = A.os
  tape : B.tape = A.tape
  output : B.output = A.output
  size : A.heap.size ≤ B.heap.size
  block : ∀ k, k < A.heap.size → ¬ T k → B.heap[k]? = A.heap[k]?
section
variable {T T' : Nat → Prop} {A B C : World}
theorem Turns.refl (T : Nat → Prop) (A : World) : Turns T A A := ⟨rfl, rfl, rfl, Nat.le_refl _, fun _ _ _ => rfl⟩
theorem Turns.trans (h : Turns T A B) (k : Turns T B C) : Turns T A C :=
  ⟨k.os.trans h.os, k.tape.trans h.tape, k.output.trans h.output, Nat.le_trans h.size k.size, fun i hi ht => (k.block i (Nat.lt_of_lt_of_le hi h.size) ht).trans (h.block i hi ht)⟩
theorem Turns.wider (h : Turns T A B) (hs : ∀ k, T k → T' k) : Turns T' A B := ⟨h.os, h.tape, h.output, h.size, fun i hi ht => h.block i hi (fun e => ht (hs i e))⟩
theorem Turns.of_grown {row : Option Nat} (h : A.grownBy B row) (hr : ∀ r, row = some r → T r) : Turns T A B :=
  ⟨h.os, h.tape, h.output, h.size, fun i hi ht => h.block i hi (fun e => ht (hr i e.symm))⟩
theorem Turns.of_below {n : Nat} (h : Below n A B) (hs : ∀ k, n ≤ k → k < A.heap.size → T k) : Turns T A B :=
  ⟨h.os, h.tape, h.output, h.size, fun i hi ht => h.block i (by
    rcases Nat.lt_or_ge i n with hlt | hge
    · exact hlt
    · exact absurd (hs i hge hi) ht)⟩
theorem Turns.new (h : Below A.heap.size A B) : Turns T A B := Turns.of_below h (fun k h1 h2 => absurd h1 (by omega))
theorem Turns.alloc (T : Nat → Prop) (A : World) (o : Obj) : Turns T A (A.alloc o) := Turns.of_grown (World.grownBy_alloc A o none) (fun r e => by cases e)
theorem Turns.putObj {r : Nat} (o : Obj) (h : T r) : Turns T A (A.putObj r o) := Turns.of_grown (grownBy_putObj' A r o) (fun k e => by cases e; exact h)
theorem grown_set (A : World) (a : Addr) (v : Value) : A.grownBy (A.setCell a v) (some a.block) :=
  ⟨rfl, rfl, rfl, (KeepsWalks.setCell A a v).size, fun k _ hk => Below.heap_setCell _ _ _ k (fun e => hk (by rw [e]))⟩
theorem Turns.setCell {a : Addr} (v : Value) (h : T a.block) : Turns T A (A.setCell a v) := Turns.of_grown (grown_set A a v) (fun k e => by cases e; exact h)
theorem Turns.below {n : Nat} (h : Turns T A B) (hs : ∀ k, T k → n ≤ k) (hn : n ≤ A.heap.size) : Below n A B :=
  ⟨h.os, h.tape, h.output, h.size, fun i hi => h.block i (by omega) (fun e => by have := hs i e; omega)⟩
theorem Turns.keeps {k : Nat} {o : Obj} (h : Turns T A B) (hk : A.heap[k]? = some o) (ht : ¬ T k) : B.heap[k]? = some o :=
  (h.block k (Array.getElem?_eq_some_iff.1 hk).1 ht).trans hk
theorem Turns.cell {a : Addr} {v : Value} (h : Turns T A B) (hc : A.cell? a = some v) (ht : ¬ T a.block) : B.cell? a = some v :=
  (World.cell?_of_block (h.block _ (World.block_lt_of_cell? A a hc) ht)).trans hc
theorem Turns.frozen {a : Addr} {v : Value} (h : Turns T A B) (hc : A.cell? a = some v) (ht : ¬ T a.block) : B.frozen? a = A.frozen? a :=
  World.frozen?_of_block (h.block _ (World.block_lt_of_cell? A a hc) ht)
theorem Turns.row {base : Nat} {e : TypeId} {size n : Nat} {v : Value} {xs : List Value} (h : Turns T A B) (hr : A.ownsRow base e size v n xs) (ht : ∀ k, base ≤ k → ¬ T k) : B.ownsRow base e size v n xs := by
  refine ⟨hr.1, ?_⟩
  rcases hr.2 with h0 | ⟨g, cap, cur, e1, hb, hh, rest⟩
  · exact Or.inl h0
  · exact Or.inr ⟨g, cap, cur, e1, hb, h.keeps hh (ht g hb), rest⟩
end
theorem round_wide {P : Program} {l f : Nat} {tmps : Array Value} {assign body : Code} {w : World} {R : Ending → World → Prop} {n : Nat} (m : Nat) (h : RoundIn Fence.wide n P l f tmps assign body w R) : RoundIn Fence.wide m P l f tmps assign body w R :=
  ⟨trivial, fun c cs _ => h.2 c cs (room_wide _)⟩
end Go.Proofs.YtehdnbidgphecaaGreatDoor.Range
/-
  A range over a function whose iterator lays blocks as it goes (an iterator that runs over iterators of its own): what it promises its caller ('SeqG'), and what a caller owes that never says 'no more' ('wp_rangeG'). The border between the two is the set of the iterator's blocks, which grows. For every program; no condition but those that each theorem bears.
-/
namespace Go.Proofs.YtehdnbidgphecaaGreatDoor.Range
open Go Go.RowKit

/-- the blocks of T, and those that came between A and B -/
def Fresh (T : Nat → Prop) (A B : World) (k : Nat) : Prop := T k ∨ (A.heap.size ≤ k ∧ k < B.heap.size)
def Lies (base : Nat) (T : Nat → Prop) (W : World) : Prop := ∀ k, T k → base ≤ k ∧ k < W.heap.size
/-- an invariant that does not mind what an iterator of the blocks T turns and lays -/
def Steady {α : Type} (base : Nat) (J : (Nat → Prop) → List α → World → Prop) : Prop := ∀ T s A B, J T s A → Lies base T A → base ≤ A.heap.size → Turns T A B → J (Fresh T A B) s B
theorem set_ext {T T' : Nat → Prop} (h : ∀ k, T k ↔ T' k) : T = T' := funext fun k => propext (h k)
theorem Lies.fresh {base : Nat} {T : Nat → Prop} {A B : World} (h : Lies base T A) (hb : base ≤ A.heap.size) (hs : A.heap.size ≤ B.heap.size) : Lies base (Fresh T A B) B := by
  intro k hk
  rcases hk with hk | ⟨h1, h2⟩
  · have := h k hk; exact ⟨this.1, by omega⟩
  · exact ⟨by omega, h2⟩
theorem Lies.more {base : Nat} {T : Nat → Prop} {A B : World} (h : Lies base T A) (hs : A.heap.size ≤ B.heap.size) : Lies base T B := fun k hk => by have := h k hk; exact ⟨this.1, by omega⟩
end Go.Proofs.YtehdnbidgphecaaGreatDoor.Range
/-
  A range over a function whose iterator lays blocks as it goes and hands out several values at once, by a caller that may say 'no more': what it promises its caller ('SeqH'), and what a caller owes ('wp_rangeH'). The border between the two is the set of the iterator's blocks, which grows. For every program; no condition but those that each theorem bears.
-/
namespace Go.Proofs.YtehdnbidgphecaaGreatDoor.Range
open Go Go.RowKit

/-- a call of yield with some values: it asks for a round, and what the round comes to -/
def YieldsN (P : Program) (l : Nat) (vs : Array Value) (W : World) (R : Ending → World → Prop) : Prop :=
  ∃ fn tmps assign body, (Instr.yield l vs).run P W = .ok (.round l fn tmps assign body) W ∧ RoundIn Fence.wide 9 P l fn tmps assign body W R
/-- WHAT AN ITERATOR PROMISES: called with yield, it hands out the elements of xs in their order, till all have come or a round has said 'no more'; it turns none but its blocks, those of T and those that it lays; a round turns none of these. -/
def SeqH {α : Type} (P : Program) (g : Nat) (lb : Array Value) (enc : α → Array Value) (base : Nat) (O : Nat → Prop) (xs : List α) (w0 : World) : Prop :=
  ∀ (l : Nat) (J Jx : (Nat → Prop) → List α → World → Prop) (T : Nat → Prop) (W : World), (∀ k, k < base ∨ O k → W.heap[k]? = w0.heap[k]?) → w0.heap.size ≤ W.heap.size →
    Steady base J → Steady base Jx → Lies base T W → (∀ k, O k → T k) → base ≤ W.heap.size →
    (∀ T pre x W1, J T pre W1 → Lies base T W1 → pre ++ [x] <+: xs → YieldsN P l (enc x) W1 fun e W' => Turns (fun k => base ≤ k ∧ ¬ T k) W1 W' ∧ ((e = .returned (.bool true) ∧ J T (pre ++ [x]) W') ∨ (e = .returned (.bool false) ∧ Jx T (pre ++ [x]) W'))) →
    J T [] W →
    Calls P g (#[.func (.yield l) #[] #[]] ++ lb) W fun e W' => (∃ v, e = .returned v) ∧ Turns (fun k => base ≤ k) W W' ∧ ∃ T', Lies base T' W' ∧ (∀ k, T k → T' k) ∧ (J T' xs W' ∨ ∃ pre, pre <+: xs ∧ Jx T' pre W')

/-- how a round may be left -/
def roundH {α : Type} (base : Nat) (T : Nat → Prop) (I : (Nat → Prop) → List α → World → Prop) (Ix : Code → (Nat → Prop) → List α → World → Prop) (xs : List α) (W : World) : Exit → Act → World → Prop
  | .normal, _, W' => Turns (fun k => base ≤ k ∧ ¬ T k) W W' ∧ I T xs W'
  | .ret, _, W' => Turns (fun k => base ≤ k ∧ ¬ T k) W W' ∧ Ix .ret T xs W'
  | .exit id, _, W' => Turns (fun k => base ≤ k ∧ ¬ T k) W W' ∧ Ix (.exit id) T xs W'
  | .goto t, _, W' => Turns (fun k => base ≤ k ∧ ¬ T k) W W' ∧ Ix (.goto t) T xs W'
  | .panic _, _, _ => False
  | .outgrown, _, _ => False

/-- WHAT A CALLER OWES AT 'for x, y := range g' -/
theorem wp_rangeH {α : Type} {P : Program} {n : Nat} {g : Operand} {ps : Array Tmp} {assign body : Code} {Q : Exit → Act → World → Prop} {a : Act} {w : World}
    {gf : Nat} {lb : Array Value} (hg : a.eval g = .func (.func gf) #[] lb) (eg : ∀ args w, (callFunc gf args).run P w = .ok (.enter gf args) w)
    {enc : α → Array Value} {base : Nat} {O : Nat → Prop} {xs : List α} (hseq : SeqH P gf lb enc base O xs w) (hO : Lies base O w) (hbase : base ≤ w.heap.size) (hps : ∀ x, (enc x).size = ps.size)
    (I : (Nat → Prop) → List α → World → Prop) (Ix : Code → (Nat → Prop) → List α → World → Prop) (hI : Steady base I) (hIx : ∀ c, Steady base (Ix c)) (h0 : I O [] w) (a₁ : α → Act)
    (hassign : ∀ (l : Nat) (x : α) (W : World) (K : Act → World → Prop), K (a₁ x) W →
      assign.wpIn (Fence.wide.inRound l) 9 P (Exit.then K (fun _ _ _ => False)) { tmps := (ps.zip (enc x)).foldl (fun t (p, v) => t.setIfInBounds p v) a.tmps, defers := [] } W)
    (hbody : ∀ (l : Nat) (T : Nat → Prop) (pre : List α) (x : α) (W : World), I T pre W → Lies base T W → w.heap.size + 2 ≤ W.heap.size → pre ++ [x] <+: xs → body.wpIn (Fence.wide.inRound l) 9 P (roundH base T I Ix (pre ++ [x]) W) (a₁ x) W)
    (hdone : ∀ (T : Nat → Prop) (W : World), I T xs W → Lies base T W → (∀ k, O k → T k) → T w.heap.size → W.heap[w.heap.size]? = some (.deferred (some [])) → Turns (fun k => base ≤ k) w W → Q .normal { a with defers := { target := .collected w.heap.size, args := #[] } :: a.defers } W)
    (hstop : ∀ (c : Code) (T : Nat → Prop) (pre : List α) (W : World), pre <+: xs → Ix c T pre W → Lies base T W → (∀ k, O k → T k) → T w.heap.size → W.heap[w.heap.size]? = some (.deferred (some [])) → Turns (fun k => base ≤ k) w W → c.wpIn Fence.wide n P Q { a with defers := { target := .collected w.heap.size, args := #[] } :: a.defers } W) :
    (Code.rangeFunc g ps assign body).wpIn Fence.wide n P Q a w := by
  refine wpIn_rangeFunc ?_
  intro fn hfn
  show ∃ (l : Nat) (mark : List Deferred) (w₁ : World) (d : Deferred) (w₁' : World) (f : FuncId) (args : Array Value) (w₂ : World),
      (Instr.enterLoop fn a.tmps ps assign body none).run P w = .ok (l, mark) w₁ ∧ _
  obtain ⟨rc, hrc⟩ : ∃ rc : LoopState → Option Code → Loop, rc = fun st pe => { state := st, pending := pe, fn, tmps := a.tmps, params := ps, assign, body, defers := w.heap.size } := ⟨_, rfl⟩
  obtain ⟨W1, hW1⟩ : ∃ W1, (w.alloc (.deferred (some []))).alloc (.loop (rc .ready none)) = W1 := ⟨_, rfl⟩
  have hs1 : W1.heap.size = w.heap.size + 2 := by rw [← hW1]; simp
  have hL1 : W1.heap[w.heap.size + 1]? = some (.loop (rc .ready none)) := by
    rw [← hW1]; have := World.alloc_heap_new (w.alloc (.deferred (some []))) (.loop (rc .ready none)); rwa [World.size_alloc] at this
  have hK1 : W1.heap[w.heap.size]? = some (.deferred (some [])) := by
    rw [← hW1]; exact (Below.heap_alloc _ _ _ (by simp)).trans (World.alloc_heap_new w _)
  have ht1 : ∀ T, Turns T w W1 := fun T => by rw [← hW1]; exact (Turns.alloc T _ _).trans (Turns.alloc T _ _)
  -- the statement's two blocks
  obtain ⟨S, hS⟩ : ∃ S : (Nat → Prop) → Nat → Prop, S = fun T k => T k ∨ k = w.heap.size ∨ k = w.heap.size + 1 := ⟨_, rfl⟩
  have hSin : ∀ T k, S T k ↔ (T k ∨ k = w.heap.size ∨ k = w.heap.size + 1) := fun T k => by rw [hS]
  have hI1 : I (S O) [] W1 := by
    have := hI _ _ _ _ h0 hO hbase (ht1 O)
    have e : Fresh O w W1 = S O := set_ext fun k => by
      rw [hSin]
      unfold Fresh
      rw [hs1]
      constructor
      · rintro (h | h)
        · exact Or.inl h
        · exact Or.inr (by omega)
      · rintro (h | h)
        · exact Or.inl h
        · exact Or.inr (by omega)
    rwa [e] at this
  have hstay : ∀ (J : (Nat → Prop) → List α → World → Prop), Steady base J → ∀ (T : Nat → Prop) (A : World) (o : Obj) s, J (S T) s A → Lies base (S T) A → base ≤ A.heap.size → J (S T) s (A.putObj (w.heap.size + 1) o) := fun J hJ T A o s h hA hb => by
    have := hJ _ _ _ _ h hA hb (Turns.putObj (A := A) o ((hSin T (w.heap.size + 1)).2 (Or.inr (Or.inr rfl))))
    have e : Fresh (S T) A (A.putObj (w.heap.size + 1) o) = S T := set_ext fun k => by
      unfold Fresh
      have hz : (A.putObj (w.heap.size + 1) o).heap.size = A.heap.size := by simp
      rw [hz]
      constructor
      · rintro (h | h)
        · exact h
        · omega
      · exact Or.inl
    rwa [e] at this
  refine ⟨w.heap.size + 1, [{ target := .collected w.heap.size, args := #[] }], W1, { target := .fn (.func gf) lb, args := #[.func (.yield (w.heap.size + 1)) #[] #[]] }, W1, gf,
    #[.func (.yield (w.heap.size + 1)) #[] #[]] ++ lb, W1, ?_, ?_, ?_, ?_, fun h => by simp [Fence.wide] at h, ?_⟩
  · rw [← hW1, hrc]; exact run_enterLoop_outer _ _ _ _ _
  · simp only [resolve, hg]
    simp [go_sem]
  · intro f' _; trivial
  · simp [invoke, go_sem, eg]
  · have hkeepS : ∀ (J : (Nat → Prop) → List α → World → Prop), Steady base J → ∀ (T : Nat → Prop) s A B, J (S T) s A → Lies base T A → base ≤ A.heap.size → w.heap.size + 1 < A.heap.size → Turns T A B → J (S (Fresh T A B)) s B := fun J hJ T s A B h1 hT hbA hlA ht => by
      have hST : Lies base (S T) A := fun k hk => by
        rcases (hSin T k).1 hk with hk | hk | hk
        · exact hT k hk
        · omega
        · omega
      have := hJ _ _ _ _ h1 hST hbA (ht.wider fun k hk => (hSin T k).2 (Or.inl hk))
      rwa [set_ext (T := Fresh (S T) A B) (T' := S (Fresh T A B)) (fun k => by
        rw [hSin]; unfold Fresh; rw [hSin]
        constructor
        · rintro ((h | h) | h)
          · exact Or.inl (Or.inl h)
          · exact Or.inr h
          · exact Or.inl (Or.inr h)
        · rintro ((h | h) | h)
          · exact Or.inl (Or.inl h)
          · exact Or.inr h
          · exact Or.inl (Or.inr h))] at this
    have hfr : ∀ (T : Nat → Prop) (A B : World) k, k < A.heap.size → ¬ T k → ¬ Fresh T A B k := fun T A B k hk ht h => by
      rcases h with h | h
      · exact ht h
      · omega
    refine callsIn_wide.2 ((hseq (w.heap.size + 1)
      (fun T pre W => I (S T) pre W ∧ W.heap[w.heap.size + 1]? = some (.loop (rc .ready none)) ∧ W.heap[w.heap.size]? = some (.deferred (some [])) ∧ ¬ T w.heap.size ∧ ¬ T (w.heap.size + 1))
      (fun T pre W => ∃ c, Ix c (S T) pre W ∧ W.heap[w.heap.size + 1]? = some (.loop (rc .done (some c))) ∧ W.heap[w.heap.size]? = some (.deferred (some [])) ∧ ¬ T w.heap.size ∧ ¬ T (w.heap.size + 1))
      O W1 ?_ (by omega) ?_ ?_ (hO.more (by omega)) (fun k hk => hk) (by omega) ?_ ⟨hI1, hL1, hK1, fun h => by have := hO _ h; omega, fun h => by have := hO _ h; omega⟩).mono ?_)
    · intro k hk
      refine (ht1 (fun _ => False)).block k ?_ id
      rcases hk with hk | hk
      · omega
      · exact (hO k hk).2
    · -- what the iterator turns and lays
      rintro T s A B ⟨h1, h2, h3, h4, h5⟩ hT hbA ht
      have hlA : w.heap.size + 1 < A.heap.size := (Array.getElem?_eq_some_iff.1 h2).1
      exact ⟨hkeepS I hI T s A B h1 hT hbA hlA ht, ht.keeps h2 h5, ht.keeps h3 h4, hfr _ _ _ _ (by omega) h4, hfr _ _ _ _ hlA h5⟩
    · rintro T s A B ⟨c, h1, h2, h3, h4, h5⟩ hT hbA ht
      have hlA : w.heap.size + 1 < A.heap.size := (Array.getElem?_eq_some_iff.1 h2).1
      exact ⟨c, hkeepS (Ix c) (hIx c) T s A B h1 hT hbA hlA ht, ht.keeps h2 h5, ht.keeps h3 h4, hfr _ _ _ _ (by omega) h4, hfr _ _ _ _ hlA h5⟩
    · -- a round
      rintro T pre x W ⟨hi, hl, hk, n0, n1⟩ hT hpre
      have hlt : w.heap.size + 1 < W.heap.size := (Array.getElem?_eq_some_iff.1 hl).1
      have hST : Lies base (S T) W := fun k hk => by
        rcases (hSin T k).1 hk with hk | hk | hk
        · exact hT k hk
        · omega
        · omega
      have s0 : S T w.heap.size := (hSin _ _).2 (Or.inr (Or.inl rfl))
      have s1 : S T (w.heap.size + 1) := (hSin _ _).2 (Or.inr (Or.inr rfl))
      have hy := run_yield (P := P) (args := enc x) hl (by rw [hrc]; exact hps x)
      rw [hrc] at hy
      refine ⟨fn, _, assign, body, hy, roundIn_of_wpIn trivial (hassign _ x W _ ⟨_, run_beginRound hl (by rw [hrc]), ?_⟩)⟩
      have hl2 : (W.putObj (w.heap.size + 1) (.loop { rc .ready none with state := .busy })).heap[w.heap.size + 1]? = some (.loop { rc .ready none with state := .busy }) := World.putObj_heap_same hlt
      have hk2 : (W.putObj (w.heap.size + 1) (.loop { rc .ready none with state := .busy })).heap[w.heap.size]? = some (.deferred (some [])) := (World.putObj_heap_other (by omega)).trans hk
      have hw2 : Turns (fun k => base ≤ k ∧ ¬ T k) W (W.putObj (w.heap.size + 1) (.loop { rc .ready none with state := .busy })) := Turns.putObj _ ⟨by omega, n1⟩
      have hb2 : Lies base (S T) (W.putObj (w.heap.size + 1) (.loop { rc .ready none with state := .busy })) := hST.more (by simp)
      refine wpIn_mono (hbody _ (S T) pre x _ (hstay I hI _ _ _ _ hi hST (by omega)) hb2 (by simp; omega) hpre) ?_
      have fin : ∀ (jump : Option Code) (W3 : World), Turns (fun k => base ≤ k ∧ ¬ S T k) (W.putObj (w.heap.size + 1) (.loop { rc .ready none with state := .busy })) W3 →
          (Instr.endRound (w.heap.size + 1) jump).run P W3 = .ok (.bool jump.isNone) (W3.putObj (w.heap.size + 1) (.loop (rc (if jump.isNone then .ready else .done) jump))) ∧
          (W3.putObj (w.heap.size + 1) (.loop (rc (if jump.isNone then .ready else .done) jump))).heap[w.heap.size + 1]? = some (.loop (rc (if jump.isNone then .ready else .done) jump)) ∧
          (W3.putObj (w.heap.size + 1) (.loop (rc (if jump.isNone then .ready else .done) jump))).heap[w.heap.size]? = some (.deferred (some [])) ∧
          Turns (fun k => base ≤ k ∧ ¬ T k) W (W3.putObj (w.heap.size + 1) (.loop (rc (if jump.isNone then .ready else .done) jump))) ∧ Lies base (S T) W3 ∧ base ≤ W3.heap.size := fun jump W3 hk3 => by
        have hl3 := hk3.keeps hl2 (fun h => h.2 s1)
        have hd3 := hk3.keeps hk2 (fun h => h.2 s0)
        have hz3 := hk3.size
        have hr := run_endRound (P := P) jump hl3
        rw [hrc] at hr ⊢
        exact ⟨hr, World.putObj_heap_same (Array.getElem?_eq_some_iff.1 hl3).1, (World.putObj_heap_other (by omega)).trans hd3,
          (hw2.trans (hk3.wider fun k h => ⟨h.1, fun h2 => h.2 ((hSin _ _).2 (Or.inl h2))⟩)).trans (Turns.putObj _ ⟨by omega, n1⟩), hb2.more hz3, by simp at hz3; omega⟩
      rintro e a3 W3 hp
      cases e with
      | normal =>
        obtain ⟨hk3, hi3⟩ := hp
        obtain ⟨hr, hl4, hk4, ht4, hs4, hb4⟩ := fin none W3 hk3
        exact ⟨_, _, hr, ht4, .inl ⟨rfl, hstay I hI _ _ _ _ hi3 hs4 hb4, hl4, hk4, n0, n1⟩⟩
      | ret =>
        obtain ⟨hk3, hi3⟩ := hp
        obtain ⟨hr, hl4, hk4, ht4, hs4, hb4⟩ := fin (some .ret) W3 hk3
        exact ⟨_, _, hr, ht4, .inr ⟨rfl, .ret, hstay _ (hIx _) _ _ _ _ hi3 hs4 hb4, hl4, hk4, n0, n1⟩⟩
      | exit id =>
        obtain ⟨hk3, hi3⟩ := hp
        obtain ⟨hr, hl4, hk4, ht4, hs4, hb4⟩ := fin (some (.exit id)) W3 hk3
        exact ⟨_, _, hr, ht4, .inr ⟨rfl, .exit id, hstay _ (hIx _) _ _ _ _ hi3 hs4 hb4, hl4, hk4, n0, n1⟩⟩
      | goto t =>
        obtain ⟨hk3, hi3⟩ := hp
        obtain ⟨hr, hl4, hk4, ht4, hs4, hb4⟩ := fin (some (.goto t)) W3 hk3
        exact ⟨_, _, hr, ht4, .inr ⟨rfl, .goto t, hstay _ (hIx _) _ _ _ _ hi3 hs4 hb4, hl4, hk4, n0, n1⟩⟩
      | panic ch => exact hp.elim
      | outgrown => exact hp.elim
    · rintro e W2 ⟨⟨v, rfl⟩, htW, T', hT', hOT, hor⟩
      have s0 : S T' w.heap.size := (hSin _ _).2 (Or.inr (Or.inl rfl))
      have hOS : ∀ k, O k → S T' k := fun k hk => (hSin _ _).2 (Or.inl (hOT k hk))
      have hz1 := htW.size
      have hST : Lies base (S T') W2 := fun k hk => by
        rcases (hSin T' k).1 hk with hk | hk | hk
        · exact hT' k hk
        · omega
        · omega
      have hend : ∀ o, Turns (fun k => base ≤ k) w (W2.putObj (w.heap.size + 1) o) := fun o => ((ht1 _).trans htW).trans (Turns.putObj _ (by omega))
      rcases hor with ⟨hi, hl, hk, n0, n1⟩ | ⟨pre, hpre, c, hi, hl, hk, n0, n1⟩
      · have hr := run_endLoop (P := P) hl (by rw [hrc]; simp)
        rw [hrc] at hr
        exact ⟨none, _, hr, hdone (S T') _ (hstay I hI _ _ _ _ hi hST (by omega)) (hST.more (by simp)) hOS s0 ((World.putObj_heap_other (by omega)).trans hk) (hend _)⟩
      · have hr := run_endLoop (P := P) hl (by rw [hrc]; simp)
        rw [hrc] at hr
        exact ⟨some c, _, hr, hstop c (S T') pre _ hpre (hstay _ (hIx c) _ _ _ _ hi hST (by omega)) (hST.more (by simp)) hOS s0 ((World.putObj_heap_other (by omega)).trans hk) (hend _)⟩
end Go.Proofs.YtehdnbidgphecaaGreatDoor.Range
/-
  Layer 16 (match), marks and rows of marks in memory: boxes, slices, truths by number; what a row of marks reads as, and what stays when it is turned. The conditions stand in the statements.
-/
namespace Go.Proofs.YtehdnbidgphecaaGreatDoor.W16
open Go Go.RowKit Go.Proofs.YtehdnbidgphecaaGreatDoor.Strs Go.Proofs.YtehdnbidgphecaaGreatDoor.Recs Go.Proofs.YtehdnbidgphecaaGreatDoor.Range
open Go.Proofs.YtehdnbidgphecaaGreatDoor.M15 (Inst rightP)
open Go.Proofs.YtehdnbidgphecaaGreatDoor.M16 (Text steps put)
open Go.Proofs.YtehdnbidgphecaaGreatDoor.W15 (insC insC_len Prg IBox own_type own_block_same)
open Go.Proofs.YtehdnbidgphecaaGreatDoor.W14 (below_new own_same own_form cell_block)
open Go.Proofs.YtehdnbidgphecaaGreatDoor.Kit (below_draws on)

/-! truths by number -/
def bitsV (n : Nat) (f : Nat → Bool) : Array Value := ((List.range n).map fun i => Value.bool (f i)).toArray
theorem bitsV_size (n : Nat) (f : Nat → Bool) : (bitsV n f).size = n := by simp [bitsV]
theorem bitsV_get {n i : Nat} (f : Nat → Bool) (h : i < n) : (bitsV n f)[i]? = some (.bool (f i)) := by simp [bitsV, h]
theorem bitsV_congr {n : Nat} {f g : Nat → Bool} (h : ∀ i, i < n → f i = g i) : bitsV n f = bitsV n g := by
  unfold bitsV
  congr 1
  exact List.map_congr_left fun i hi => by rw [h i (List.mem_range.1 hi)]
theorem bitsV_ext {n : Nat} {a : Array Value} {f : Nat → Bool} (hs : a.size = n) (h : ∀ i, i < n → a[i]? = some (.bool (f i))) : a = bitsV n f := by
  apply Array.ext_getElem?
  intro i
  by_cases hi : i < n
  · rw [h i hi, bitsV_get f hi]
  · rw [Array.getElem?_eq_none (by omega), Array.getElem?_eq_none (by rw [bitsV_size]; omega)]
/-- block b holds n truths, and may be written -/
def Bits (w : World) (b n : Nat) (f : Nat → Bool) : Prop := w.heap[b]? = some (.cells (bitsV n f) 4 (0, 0))
section
variable {w w' : World} {b n : Nat} {f g : Nat → Bool}
theorem Bits.lt (h : Bits w b n f) : b < w.heap.size := (Array.getElem?_eq_some_iff.1 h).1
theorem Bits.cell (h : Bits w b n f) {i : Nat} (hi : i < n) : w.cell? ⟨b, i, none⟩ = some (.bool (f i)) := by rw [cell_of_row w b i _ _ _ h, bitsV_get f hi]
theorem Bits.free (h : Bits w b n f) (i : Nat) : w.frozen? ⟨b, i, none⟩ = false := frozen_of_row w b i _ _ h
theorem Bits.same (h : Bits w b n f) (hk : w'.heap[b]? = w.heap[b]?) : Bits w' b n f := hk.trans h
theorem Bits.below (h : Bits w b n f) (k : Below w.heap.size w w') : Bits w' b n f := h.same (k.block b h.lt)
theorem Bits.is (h : Bits w b n f) (e : ∀ i, i < n → f i = g i) : Bits w b n g := by unfold Bits at *; rw [h, bitsV_congr e]
theorem Bits.put (h : Bits w b n f) {i : Nat} (v : Bool) : Bits (w.setCell ⟨b, i, none⟩ (.bool v)) b n (fun j => if j = i then v else f j) := by
  unfold Bits
  rw [heap_setCell_same w b i _ _ _ h]
  congr 2
  refine bitsV_ext (by rw [Array.size_setIfInBounds, bitsV_size]) fun j hj => ?_
  rw [Array.getElem?_setIfInBounds, bitsV_size, bitsV_get f hj]
  by_cases e : i = j
  · subst e; rw [if_pos rfl, if_pos hj, if_pos rfl]
  · rw [if_neg e, if_neg (fun q => e q.symm)]
end
theorem bool_info : (Tryz.prog.info? 4).map (fun i => (i.zero, i.size, i.bytes)) = some (some (.bool false), 1, 1) := by kernel_rfl
theorem made_bits (n : Nat) : madeCells #[.bool false] n = bitsV n fun _ => false := by
  refine bitsV_ext (size_madeCells _ _) fun j hj => ?_
  simp [madeCells, hj, Nat.mod_one]
/-- make([]bool, n) -/
theorem make_bits (w : World) {n : Nat} (hn : n ≤ 1000000) : (Instr.makeSlice 37 (.int .i64 n) (.int .i64 n)).run Tryz.prog w = .ok (.slice (some ⟨w.heap.size, 0, none⟩) n n) (w.alloc (.cells (bitsV n fun _ => false) 4)) := by
  obtain ⟨i, hi, h1, h2, h3⟩ := info_parts bool_info
  have h := run_make (P := Tryz.prog) w 37 4 i (.bool false) Tryz.underlying37 hi h1 .i64 .i64 n n (by omega) (Int.le_refl _) (by rw [h3]; omega) (by omega)
  rw [h2, Nat.mul_one, Int.toNat_natCast] at h
  rw [h, ← made_bits]
  rfl
theorem new_bits (w : World) (n : Nat) (f : Nat → Bool) : Bits (w.alloc (.cells (bitsV n f) 4)) w.heap.size n f := heap_alloc_new w _

/-! marks -/
def markC (x : M16.Mark) : List Value := [.int .i64 x.1, .int .i64 x.2]
def markA (x : M16.Mark) : Array Value := #[.int .i64 x.1, .int .i64 x.2]
theorem markC_len (x : M16.Mark) : (markC x).length = 2 := rfl
theorem markC_one (x : M16.Mark) : ∀ c ∈ markC x, c.oneCell' = true := by
  intro c hc
  simp only [markC, List.mem_cons, List.not_mem_nil, or_false] at hc
  rcases hc with rfl | rfl <;> rfl
abbrev Mks (B : Nat) (w : World) (v : Value) (L : List M16.Mark) : Prop := Recs markC 2 B w v L
theorem mark_info : (Tryz.prog.info? 77).map (fun i => (i.zero, i.size, i.bytes)) = some (some (.agg #[.int .i64 0, .int .i64 0]), 2, 16) := by kernel_rfl
/-- block b is a mark's box -/
def MBox (w : World) (b : Nat) (x : M16.Mark) : Prop := w.heap[b]? = some (.cells (markA x) 77 (0, 0))
section
variable {w w' : World} {b : Nat} {x : M16.Mark}
theorem MBox.lt (h : MBox w b x) : b < w.heap.size := (Array.getElem?_eq_some_iff.1 h).1
theorem MBox.same (h : MBox w b x) (hk : w'.heap[b]? = w.heap[b]?) : MBox w' b x := hk.trans h
theorem MBox.below (h : MBox w b x) (k : Below w.heap.size w w') : MBox w' b x := h.same (k.block b h.lt)
theorem MBox.c0 (h : MBox w b x) : w.cell? ⟨b, 0, none⟩ = some (.int .i64 x.1) := cell_of_row w b 0 _ _ _ h
theorem MBox.c1 (h : MBox w b x) : w.cell? ⟨b, 1, none⟩ = some (.int .i64 x.2) := cell_of_row w b 1 _ _ _ h
theorem MBox.cells (h : MBox w b x) : ∀ j, j < 2 → w.cell? ⟨b, 0 + j, none⟩ = (markC x)[j]? := by
  intro j hj
  rw [Nat.zero_add, cell_of_row w b j _ _ _ h]
  match j, hj with
  | 0, _ => rfl
  | 1, _ => rfl
end
section
variable {ops : Array Oper} {rest : List Oper} {o : Oper} {a : Act} {w : World} {Q : Exit → Act → World → Prop}
/-- a mark that came in is put into a box -/
theorem box_mark (hgd : o.guard = none) (x : Operand) (ho : o.op = .box 77 x) {r : M16.Mark} (hx : a.eval x = .agg (markA r))
    (h : ∀ w' b, w.heap.size = b → MBox w' b r → Below w.heap.size w w' → w'.heap.size = w.heap.size + 1 → wpList Tryz.prog ops Q rest (a.put o.dst (.pointer (some ⟨b, 0, none⟩))) w') : wpList Tryz.prog ops Q (o :: rest) a w :=
  wpList_plain hgd fun _ hK => by
    unfold Oper.wp execOp
    simp only [ho, hx, Instr.box, newVar, newRow, Sem.run_bind, Sem.run_pure]
    exact hK _ _ (h _ _ rfl (heap_alloc_new w _) (below_new w _) (World.size_alloc w _))
theorem mark_size (x : M16.Mark) : (Tryz.prog.info? 77).map (·.size) = some (markA x).size := by
  obtain ⟨i, hi, -, h2, -⟩ := info_parts mark_info
  rw [hi]; simp [markA, h2]
theorem load_mbox (hgd : o.guard = none) (x : Operand) (ho : o.op = .load 77 x) {b : Nat} (hx : a.eval x = .pointer (some ⟨b, 0, none⟩)) {r : M16.Mark} (hr : MBox w b r) (h : wpList Tryz.prog ops Q rest (a.put o.dst (.agg (markA r))) w) : wpList Tryz.prog ops Q (o :: rest) a w :=
  wpList_load_row hgd 77 x ho b hx 77 (markA r) (0, 0) _ hr Tryz.underlying77 rfl (mark_size r) h
theorem wp_slice_mark {K : Act → World → Prop} (x : Operand) (ho : o.op = .buildSlice 72 1 #[(0, x)]) {r : M16.Mark} (hx : a.eval x = .agg (markA r))
    (h : ∀ w' b, w.heap.size = b → Mks w'.heap.size w' (.slice (some ⟨b, 0, none⟩) 1 1) [r] → Below w.heap.size w w' → w'.heap.size = w.heap.size + 1 → w'.ownsRow w.heap.size 77 2 (.slice (some ⟨b, 0, none⟩) 1 1) 1 (markC r) → K (a.put o.dst (.slice (some ⟨b, 0, none⟩) 1 1)) w') : o.wp Tryz.prog a w K Q := by
  obtain ⟨i, hi, h1, h2, -⟩ := info_parts mark_info
  refine wp_buildSlice 72 77 1 _ ho (markA r) i _ Tryz.underlying72 hi h1 (by rw [h2]; decide) (by rw [h2]; decide) ?_ (h _ _ rfl ?_ (below_new w _) (World.size_alloc w _) ?_)
  · rw [h2]
    simp only [List.map_toArray, List.map_cons, List.map_nil, hx]
    have hr : Array.range (1 * 2) = #[0, 1] := by decide
    rw [hr]
    simp [Instr.fill, markA, Value.cells]
  · refine ⟨_, _, rfl, Nat.le_refl _, by unfold maxLen; decide, fun _ => ⟨_, rfl, by rw [World.size_alloc]; exact Nat.lt_succ_self _, fun k hk j hj => ?_⟩⟩
    have hk0 : k = 0 := by simp at hk; omega
    subst hk0
    have := cells_new w (markC r) 77 j
    rw [Nat.zero_mul, Nat.zero_add]
    have h5 : j < (markC r).length := by rw [markC_len]; exact hj
    exact (this _ (List.getElem?_eq_getElem h5)).trans (List.getElem?_eq_getElem h5).symm
  · refine ⟨rfl, Or.inr ⟨w.heap.size, 1, markA r, rfl, Nat.le_refl _, heap_alloc_new w _, Nat.le_refl _, by unfold maxLen; decide, rfl, rfl⟩⟩
/-- a mark's load as an operation of a drawn region -/
theorem run_load_mark {a : Act} {o : Oper} {w : World} (x : Operand) (ho : o.op = .load 77 x) {b k : Nat} (hx : a.eval x = .pointer (some ⟨b, k, none⟩)) {r : M16.Mark} (hr : ∀ j, j < 2 → w.cell? ⟨b, k + j, none⟩ = (markC r)[j]?) : (execOp a.eval o).run Tryz.prog w = .ok (.value (.agg (markA r))) w := by
  have hl : (loadCells ⟨b, k, none⟩ (markC r).length).run Tryz.prog w = .ok (markC r).toArray w := run_loadCells_list (P := Tryz.prog) w ⟨b, k, none⟩ (markC r) fun j v hv => by
    have hadd : (⟨b, k, none⟩ : Addr).add j = ⟨b, k + j, none⟩ := by unfold Addr.add; split <;> simp_all
    have hj : j < 2 := by
      rcases Nat.lt_or_ge j (markC r).length with q | q
      · rw [markC_len] at q; exact q
      · rw [List.getElem?_eq_none q] at hv; cases hv
    rw [hadd, hr j hj]; exact hv
  obtain ⟨i, hi, -, h2, -⟩ := info_parts mark_info
  have hagg : (isAgg 77).run Tryz.prog w = .ok true w := by
    unfold isAgg
    rw [Sem.run_bind, run_underlying Tryz.underlying77 w]
    rfl
  rw [markC_len] at hl
  unfold execOp
  simp only [ho, hx, Instr.loadAt, Instr.sureAddr, loadVar, sizeOf, typeInfo, Sem.run_bind, Sem.run_pure, Result.andThen_ok, hagg]
  simp [hi, h2, hl, Sem.run_bind, Result.andThen]
  rfl
/-- marks are put behind a row of the call's own -/
theorem wp_append_mark {K : Act → World → Prop} (s x : Operand) (ho : o.op = .call { callee := .builtin .append, args := #[s, x], argTypes := #[72, 72] })
    {base B : Nat} {v u : Value} {L M : List M16.Mark} (hs : a.eval s = v) (hx : a.eval x = u) (hown : w.ownsRow base 77 2 v L.length (L.flatMap markC)) (hu : Mks B w u M) (hl : L.length + M.length ≤ 1000000) (hbase : base ≤ w.heap.size)
    (h : ∀ v' w', w'.ownsRow base 77 2 v' (L ++ M).length ((L ++ M).flatMap markC) → Put v v' w w' → K (a.put o.dst v') w') : o.wp Tryz.prog a w K Q := by
  obtain ⟨i, hi, h1, h2, h3⟩ := info_parts mark_info
  refine wp_append_put s x 72 ho base 77 i _ 2 16 Tryz.underlying72 hi h1 h2 h3 rfl (by decide) v L.length (L.flatMap markC) hs hown u M B hx hu markC_len markC_one (by unfold maxLen; omega) (by omega) hbase fun v' w' e1 e2 => h v' w' ?_ e2
  rw [List.length_append, List.flatMap_append]; exact e1
end

/-! rows of marks -/
def rowA (v : Value) (g n : Nat) : Array Value := #[v, .slice (some ⟨g, 0, none⟩) n n]
/-- block r holds a row: its marks in a row v of its own, whether each of n steps is marked in block g -/
structure RowF (base : Nat) (w : World) (r : Nat) (v : Value) (g n : Nat) (M : List M16.Mark) (f : Nat → Bool) : Prop where
  low : base ≤ r
  lowg : base ≤ g
  box : w.heap[r]? = some (.cells (rowA v g n) 74 (0, 0))
  own : w.ownsRow base 77 2 v M.length (M.flatMap markC)
  bits : Bits w g n f
abbrev RowAt (base : Nat) (w : World) (r : Nat) (v : Value) (g n : Nat) (M : List M16.Mark) : Prop := RowF base w r v g n M fun i => decide (i ∈ steps M)
/-- the blocks of a row -/
def RF (r g : Nat) (v : Value) (k : Nat) : Prop := k = r ∨ k = g ∨ v.ownBlock = some k
/-- nothing but a row's blocks turns; what is new in the row is new -/
structure Grew (r g : Nat) (v v' : Value) (w w' : World) : Prop where
  turns : Turns (RF r g v) w w'
  own : ∀ k, v'.ownBlock = some k → v.ownBlock = some k ∨ w.heap.size ≤ k
section
variable {base : Nat} {w w' w'' : World} {r g n : Nat} {v v' v'' : Value} {M : List M16.Mark} {f : Nat → Bool}
theorem RowF.c0 (h : RowF base w r v g n M f) : w.cell? ⟨r, 0, none⟩ = some v := cell_of_row w r 0 _ _ _ h.box
theorem RowF.c1 (h : RowF base w r v g n M f) : w.cell? ⟨r, 1, none⟩ = some (.slice (some ⟨g, 0, none⟩) n n) := cell_of_row w r 1 _ _ _ h.box
theorem RowF.f0 (h : RowF base w r v g n M f) : w.frozen? ⟨r, 0, none⟩ = false := frozen_of_row w r 0 _ _ h.box
theorem RowF.lt (h : RowF base w r v g n M f) : r < w.heap.size := (Array.getElem?_eq_some_iff.1 h.box).1
theorem RowF.form (h : RowF base w r v g n M f) : ∃ A c, v = .slice A M.length c ∧ M.length ≤ c ∧ c ≤ maxLen := (Recs.of_own markC_len rfl h.own).form
theorem RowF.in_ (h : RowF base w r v g n M f) {k : Nat} (hk : RF r g v k) : base ≤ k ∧ k < w.heap.size := by
  rcases hk with rfl | rfl | hk
  · exact ⟨h.low, h.lt⟩
  · exact ⟨h.lowg, h.bits.lt⟩
  · exact h.own.lt k hk
theorem ty_ne {w : World} {k : Nat} {c1 c2 : Array Value} {t1 t2 : TypeId} {p q : Nat × Nat} (h1 : w.heap[k]? = some (.cells c1 t1 p)) (h2 : w.heap[k]? = some (.cells c2 t2 q)) : t1 = t2 := by
  rw [h1] at h2
  injection h2 with h2
  injection h2
theorem RowF.rg (h : RowF base w r v g n M f) : r ≠ g := by
  intro e
  have h1 := h.box
  rw [e] at h1
  exact absurd (ty_ne h1 h.bits) (by decide)
theorem RowF.rv (h : RowF base w r v g n M f) : v.ownBlock ≠ some r := by
  intro e
  obtain ⟨cur, h1⟩ := own_type h.own e
  exact absurd (ty_ne h1 h.box) (by decide)
theorem RowF.gv (h : RowF base w r v g n M f) : v.ownBlock ≠ some g := by
  intro e
  obtain ⟨cur, h1⟩ := own_type h.own e
  exact absurd (ty_ne h1 h.bits) (by decide)
theorem RowF.same (h : RowF base w r v g n M f) (hk : ∀ k, RF r g v k → w'.heap[k]? = w.heap[k]?) : RowF base w' r v g n M f :=
  ⟨h.low, h.lowg, (hk r (Or.inl rfl)).trans h.box, own_block_same h.own fun k q => hk k (Or.inr (Or.inr q)), h.bits.same (hk g (Or.inr (Or.inl rfl)))⟩
theorem RowF.below (h : RowF base w r v g n M f) (k : Below w.heap.size w w') : RowF base w' r v g n M f := h.same fun _ q => k.block _ (h.in_ q).2
theorem RowF.turns {T : Nat → Prop} (h : RowF base w r v g n M f) (k : Turns T w w') (hT : ∀ i, RF r g v i → ¬ T i) : RowF base w' r v g n M f := h.same fun i q => k.block i (h.in_ q).2 (hT i q)
theorem Grew.refl (r g : Nat) (v : Value) (w : World) : Grew r g v v w w := ⟨Turns.refl _ _, fun _ h => Or.inl h⟩
theorem Grew.of (h : Below w.heap.size w w') : Grew r g v v w w' := ⟨Turns.new h, fun _ h => Or.inl h⟩
theorem Grew.trans (h : Grew r g v v' w w') (k : Grew r g v' v'' w' w'') : Grew r g v v'' w w'' := by
  refine ⟨⟨k.turns.os.trans h.turns.os, k.turns.tape.trans h.turns.tape, k.turns.output.trans h.turns.output, Nat.le_trans h.turns.size k.turns.size, fun i hi ht => ?_⟩, fun i hi => ?_⟩
  · refine (k.turns.block i (Nat.lt_of_lt_of_le hi h.turns.size) fun q => ht ?_).trans (h.turns.block i hi ht)
    rcases q with q | q | q
    · exact Or.inl q
    · exact Or.inr (Or.inl q)
    · rcases h.own i q with q2 | q2
      · exact Or.inr (Or.inr q2)
      · omega
  · rcases k.own i hi with q | q
    · exact h.own i q
    · exact Or.inr (Nat.le_trans h.turns.size q)
theorem Grew.keeps (h : Grew r g v v' w w') {k : Nat} (hk : k < w.heap.size) (hn : ¬ RF r g v k) : w'.heap[k]? = w.heap[k]? := h.turns.block k hk hn
/-- what lies below the base stays -/
theorem Grew.below (h : Grew r g v v' w w') (hr : RowF base w r v g n M f) : Below base w w' :=
  ⟨h.turns.os, h.turns.tape, h.turns.output, h.turns.size, fun k hk => h.turns.block k (by have := hr.lt; have := hr.low; omega) (fun q => by have := (hr.in_ q).1; omega)⟩
/-- a row's box behind an append to its marks -/
theorem RowF.put_box (h : RowF base w r v g n M f) (p : Put v v' w w') : w'.cell? ⟨r, 0, none⟩ = some v ∧ w'.frozen? ⟨r, 0, none⟩ = false := by
  obtain ⟨-, -, -, -, g5⟩ := p.grown
  have h1 : w'.heap[r]? = _ := (g5 r h.lt (fun q => h.rv q.symm)).trans h.box
  exact ⟨cell_of_row w' r 0 _ _ _ h1, frozen_of_row w' r 0 _ _ h1⟩
theorem mbox_put {b : Nat} {m : M16.Mark} (p : Put v v' w w') (hm : MBox w b m) (h : v.ownBlock ≠ some b) : MBox w' b m := by
  obtain ⟨-, -, -, -, g5⟩ := p.grown
  exact hm.same (g5 b hm.lt (fun q => h q.symm))
/-- a mark is put behind the others -/
theorem RowF.more {N : List M16.Mark} (h : RowF base w r v g n M f) (ho : w'.ownsRow base 77 2 v' (M ++ N).length ((M ++ N).flatMap markC)) (p : Put v v' w w') : RowF base (w'.setCell ⟨r, 0, none⟩ v') r v' g n (M ++ N) f ∧ Grew r g v v' w (w'.setCell ⟨r, 0, none⟩ v') := by
  obtain ⟨g1, g2, g3, g4, g5⟩ := p.grown
  have hr : w'.heap[r]? = _ := (g5 r h.lt (fun q => h.rv q.symm)).trans h.box
  have hg : w'.heap[g]? = _ := (g5 g h.bits.lt (fun q => h.gv q.symm)).trans h.bits
  refine ⟨⟨h.low, h.lowg, ?_, ?_, ?_⟩, ⟨⟨g1, g2, g3, by rw [World.size_setCell]; exact g4, fun k hk hn => ?_⟩, p.own⟩⟩
  · rw [heap_setCell_same w' r 0 _ _ _ hr]; rfl
  · refine own_block_same ho fun k hk => heap_setCell_other w' _ k _ fun e => ?_
    have e2 : k = r := e
    obtain ⟨cur, h1⟩ := own_type ho hk
    rw [e2, hr] at h1
    injection h1 with h1
    injection h1 with _ h1
    exact absurd h1 (by decide)
  · exact (heap_setCell_other w' _ g _ (fun e => h.rg e.symm)).trans hg
  · rw [heap_setCell_other w' _ k _ (fun e => hn (Or.inl e)), g5 k hk (fun q => hn (Or.inr (Or.inr q.symm)))]
/-- a truth of a row is set -/
theorem RowF.set (h : RowF base w r v g n M f) (i : Nat) (b : Bool) : RowF base (w.setCell ⟨g, i, none⟩ (.bool b)) r v g n M (fun j => if j = i then b else f j) ∧ Grew r g v v w (w.setCell ⟨g, i, none⟩ (.bool b)) := by
  refine ⟨⟨h.low, h.lowg, (heap_setCell_other w _ r _ h.rg).trans h.box, own_block_same h.own fun k hk => heap_setCell_other w _ k _ fun e => ?_, h.bits.put b⟩, ⟨Turns.setCell _ (Or.inr (Or.inl rfl)), fun _ q => Or.inl q⟩⟩
  have e2 : k = g := e
  subst e2
  exact h.gv hk
theorem RowF.is {f' : Nat → Bool} (h : RowF base w r v g n M f) (e : ∀ i, i < n → f i = f' i) : RowF base w r v g n M f' := ⟨h.low, h.lowg, h.box, h.own, h.bits.is e⟩
end
end Go.Proofs.YtehdnbidgphecaaGreatDoor.W16
/-
  Layer 16 (match), walks of newRow, clear and takes. The conditions stand in the statements.
-/
namespace Go.Proofs.YtehdnbidgphecaaGreatDoor.W16
set_option maxRecDepth 100000
open Go Go.RowKit Go.Proofs.YtehdnbidgphecaaGreatDoor.Strs Go.Proofs.YtehdnbidgphecaaGreatDoor.Recs Go.Proofs.YtehdnbidgphecaaGreatDoor.Range
open Go.Proofs.YtehdnbidgphecaaGreatDoor.M15 (Inst)
open Go.Proofs.YtehdnbidgphecaaGreatDoor.M16 (Text steps put takes)
open Go.Proofs.YtehdnbidgphecaaGreatDoor.W15 (insC insA IBox box_ins)
open Go.Proofs.YtehdnbidgphecaaGreatDoor.W14 (below_new own_same own_form cell_block)
open Go.Proofs.YtehdnbidgphecaaGreatDoor.Kit (below_draws on byte_test)

set_option maxHeartbeats 1000000 in
theorem newRow_any {w : World} {base n : Nat} (hb : base ≤ w.heap.size) (hn : n ≤ 1000000) : Calls Tryz.prog 37 #[.int .i64 n] w fun e w' => ∃ r g, e = .returned (.pointer (some ⟨r, 0, none⟩)) ∧ RowAt base w' r (.slice none 0 0) g n [] ∧ w.heap.size ≤ r ∧ w.heap.size ≤ g ∧ Below w.heap.size w w' := by
  have hmk := make_bits w hn
  go_enter Tryz.func37, Tryz.ntmps37
  go_wp2_with fail
  go_ret
  have h1 := new_bits w n fun _ => false
  refine ⟨_, _, rfl, ⟨?_, hb, (by have := heap_alloc_new (w.alloc (.cells (bitsV n fun _ => false) 4)) (.cells (rowA (.slice none 0 0) w.heap.size n) 74); rwa [World.size_alloc] at this), World.ownsRow_nil _ _ _ _, (h1.below (below_new _ _)).is fun i _ => by simp [steps]⟩, ?_, Nat.le_refl _, on (below_new _ _) (below_new _ _)⟩
  · omega
  · simp
set_option maxHeartbeats 1000000 in
theorem takes_any {x : Inst} (hx : x.kind = 1 → x.text.size = 1) (c : UInt8) (w : World) : Calls Tryz.prog 39 #[.agg (insA x), .int .u8 c.toNat] w fun e w' => e = .returned (.bool (takes x c)) ∧ Below w.heap.size w w' := by
  obtain ⟨k, t, a, b⟩ := x
  simp only at hx
  have hH := Lib.hid (W13.has_any t c)
  have hT : Hid (takes ⟨k, t, a, b⟩ c = if k = 1 then decide (t.data.toList.head? = some c) else if k = 2 then decide (c ≠ 10) else if k = 3 then M13.has t.data.toList c.toNat else false) := rfl
  obtain ⟨R, hR⟩ : ∃ R, takes ⟨k, t, a, b⟩ c = R := ⟨_, rfl⟩
  rw [hR] at hT ⊢
  clear hR
  by_cases h1 : k = 1
  · subst h1
    have hz := hx rfl
    have h0 : 0 < t.size := by omega
    have he : ((t[0].toNat : Int) == (c.toNat : Int)) = R := by
      rw [hT.out, if_pos rfl, Kit.bytes_cons h0, byte_test]
      simp
    have hz2 : (0 : Int) < (t.size : Int) := by omega
    clear hT hx hz
    go_enter Tryz.func39, Tryz.ntmps39
    go_wp2_with (first | (refine box_ins (r := ⟨1, t, a, b⟩) rfl (.tmp 0) rfl rfl ?_; intro w1 b1 e1 p1 l1 z1; have c0 := p1.c0; have c1 := p1.c1; have L1 := Lib.hid l1; clear e1 p1 l1 z1))
    go_ret
    exact ⟨rfl, L1.out⟩
  · have t1 : (k == 1) = false := by simpa using h1
    rw [if_neg h1] at hT
    by_cases h2 : k = 2
    · subst h2
      rw [if_pos rfl] at hT
      have he : ((c.toNat : Int) != 10) = R := by
        rw [hT.out]
        have := byte_test c 10
        rw [show (((10 : UInt8).toNat : Nat) : Int) = 10 from rfl] at this
        simp [bne, this]
      clear hT hx
      go_enter Tryz.func39, Tryz.ntmps39
      go_wp2_with (first | (refine box_ins (r := ⟨2, t, a, b⟩) rfl (.tmp 0) rfl rfl ?_; intro w1 b1 e1 p1 l1 z1; have c0 := p1.c0; have c1 := p1.c1; have L1 := Lib.hid l1; clear e1 p1 l1 z1))
      go_ret
      exact ⟨rfl, L1.out⟩
    · have t2 : (k == 2) = false := by simpa using h2
      rw [if_neg h2] at hT
      by_cases h3 : k = 3
      · subst h3
        rw [if_pos rfl] at hT
        rw [← hT.out] at hH
        clear hT hx
        go_enter Tryz.func39, Tryz.ntmps39
        go_wp2_with (first | (refine box_ins (r := ⟨3, t, a, b⟩) rfl (.tmp 0) rfl rfl ?_; intro w1 b1 e1 p1 l1 z1; have c0 := p1.c0; have c1 := p1.c1; have L1 := Lib.hid l1; clear e1 p1 l1 z1))
        refine (hH.out _).mono ?_
        rintro e w2 ⟨rfl, rfl⟩
        go_wp2_with fail
        go_ret
        exact ⟨rfl, L1.out⟩
      · have t3 : (k == 3) = false := by simpa using h3
        rw [if_neg h3] at hT
        have hRf := hT.out
        clear hT hx
        subst hRf
        go_enter Tryz.func39, Tryz.ntmps39
        go_wp2_with (first | (refine box_ins (r := ⟨k, t, a, b⟩) rfl (.tmp 0) rfl rfl ?_; intro w1 b1 e1 p1 l1 z1; have c0 := p1.c0; have c1 := p1.c1; have L1 := Lib.hid l1; clear e1 p1 l1 z1))
        go_ret
        exact ⟨rfl, L1.out⟩
end Go.Proofs.YtehdnbidgphecaaGreatDoor.W16
