/-
  Texts joined, in build order, each with its own comment and its own conditions: Range, RangeG, W12Collect, W06Put, W06More.
-/
import Derived.RangeFuncNested
import Derived.RangeFuncCalls
import Derived.Lib.Hide
import Derived.Deep.Draws
import Derived.Test.YtpihldcchjoinaaGreatDoorJ05
import Derived.RangeFuncBox
import Derived.Shelf.Abstract
import Derived.Shelf.RegionOpen
import Derived.WalkKit
import Derived.OwnWalkIn
import Derived.TacticsInMore
import Derived.LoopNIn
import Derived.LoopIn
import Derived.Maps.AppendAt
import Derived.Deep.Onto
import Derived.Test.YtpihldcchjoinaaGreatDoorJ04
import Derived.Laws.ResultCell
import Derived.Laws.NewBlocks
/-
  A range over a function, at the wide fence: what an iterator promises its caller ('Seq': it hands out the texts of a list, in their order, and turns no blocks but its own), and what a caller owes at such a statement ('wp_range'). The border between the two is drawn by numbers of blocks: the iterator's own ones lie in a set that both know. For every program; no condition but those that each theorem bears.
-/
namespace Go.Proofs.YtpihldcchjoinaaGreatDoor.Range
open Go Go.RowKit

/-- from A to B no block that A had has turned but those of T -/
structure Turns (T : Nat → Prop) (A B : World) : Prop where
  os : B.os = A.os
  tape : B.tape = A.tape
  output : B.output = A.output
  size : A.heap.size ≤ B.heap.size
  block : ∀ k, k < A.heap.size → ¬ T k → B.heap[k]? = A.heap[k]?
section
variable {T T' : Nat → Prop} {A B C : World}
theorem Turns.refl (T : Nat → Prop) (A : World) : Turns T A A := ⟨rfl, rfl, rfl, Nat.le_refl _, fun _ _ _ => rfl⟩
theorem Turns.trans (h : Turns T A B) (k : Turns T B C) : Turns T A C :=
  ⟨k.os.trans h.os, k.tape.trans h.tape, k.output.trans h.output, Nat.le_trans h.size k.size, fun i hi ht => (k.block i (Nat.lt_of_lt_of_le hi h.size) ht).trans (h.block i hi ht)⟩
theorem Turns.wider (h : Turns T A B) (hs : ∀ k, T k → T' k) : Turns T' A B := ⟨h.os, h.tape, h.output, h.size, fun i hi ht => h.block i hi (fun e => ht (hs i e))⟩
theorem Turns.of_grown {row : Option Nat} (h : A.grownBy B row) (hr : ∀ r, row = some r → T r) : Turns T A B :=
  ⟨h.os, h.tape, h.output, h.size, fun i hi ht => h.block i hi (fun e => ht (hr i e.symm))⟩
theorem Turns.of_below {n : Nat} (h : Below n A B) (hs : ∀ k, n ≤ k → k < A.heap.size → T k) : Turns T A B :=
  ⟨h.os, h.tape, h.output, h.size, fun i hi ht => h.block i (by
    rcases Nat.lt_or_ge i n with hlt | hge
    · exact hlt
    · exact absurd (hs i hge hi) ht)⟩
theorem Turns.new (h : Below A.heap.size A B) : Turns T A B := Turns.of_below h (fun k h1 h2 => absurd h1 (by omega))
theorem Turns.alloc (T : Nat → Prop) (A : World) (o : Obj) : Turns T A (A.alloc o) := Turns.of_grown (World.grownBy_alloc A o none) (fun r e => by cases e)
theorem Turns.putObj {r : Nat} (o : Obj) (h : T r) : Turns T A (A.putObj r o) := Turns.of_grown (grownBy_putObj' A r o) (fun k e => by cases e; exact h)
theorem grown_set (A : World) (a : Addr) (v : Value) : A.grownBy (A.setCell a v) (some a.block) :=
  ⟨rfl, rfl, rfl, (KeepsWalks.setCell A a v).size, fun k _ hk => Below.heap_setCell _ _ _ k (fun e => hk (by rw [e]))⟩
theorem Turns.setCell {a : Addr} (v : Value) (h : T a.block) : Turns T A (A.setCell a v) := Turns.of_grown (grown_set A a v) (fun k e => by cases e; exact h)
theorem Turns.draw (T : Nat → Prop) (A : World) (n : Nat) : Turns T A (A.drewN n) := ⟨rfl, rfl, rfl, Nat.le_refl _, fun _ _ _ => rfl⟩
theorem Turns.below {n : Nat} (h : Turns T A B) (hs : ∀ k, T k → n ≤ k) (hn : n ≤ A.heap.size) : Below n A B :=
  ⟨h.os, h.tape, h.output, h.size, fun i hi => h.block i (by omega) (fun e => by have := hs i e; omega)⟩
theorem Turns.keeps {k : Nat} {o : Obj} (h : Turns T A B) (hk : A.heap[k]? = some o) (ht : ¬ T k) : B.heap[k]? = some o :=
  (h.block k (Array.getElem?_eq_some_iff.1 hk).1 ht).trans hk
theorem Turns.cell {a : Addr} {v : Value} (h : Turns T A B) (hc : A.cell? a = some v) (ht : ¬ T a.block) : B.cell? a = some v :=
  (World.cell?_of_block (h.block _ (World.block_lt_of_cell? A a hc) ht)).trans hc
theorem Turns.frozen {a : Addr} {v : Value} (h : Turns T A B) (hc : A.cell? a = some v) (ht : ¬ T a.block) : B.frozen? a = A.frozen? a :=
  World.frozen?_of_block (h.block _ (World.block_lt_of_cell? A a hc) ht)
theorem Turns.row {base : Nat} {e : TypeId} {size n : Nat} {v : Value} {xs : List Value} (h : Turns T A B) (hr : A.ownsRow base e size v n xs) (ht : ∀ k, base ≤ k → ¬ T k) : B.ownsRow base e size v n xs := by
  refine ⟨hr.1, ?_⟩
  rcases hr.2 with h0 | ⟨g, cap, cur, e1, hb, hh, rest⟩
  · exact Or.inl h0
  · exact Or.inr ⟨g, cap, cur, e1, hb, h.keeps hh (ht g hb), rest⟩
theorem Turns.row_at {base g n cap : Nat} {e : TypeId} {size m : Nat} {xs : List Value} (h : Turns T A B) (hr : A.ownsRow base e size (.slice (some ⟨g, 0, none⟩) n cap) m xs) (ht : ¬ T g) : B.ownsRow base e size (.slice (some ⟨g, 0, none⟩) n cap) m xs := by
  refine ⟨hr.1, ?_⟩
  rcases hr.2 with ⟨h0, _⟩ | ⟨g', cap', cur, e1, hb, hh, rest⟩
  · cases h0
  · cases e1
    exact Or.inr ⟨g, cap, cur, rfl, hb, h.keeps hh ht, rest⟩
end
/-- the blocks of an iterator: those of O, and the m that it lays at its start -/
def Its (O : Nat → Prop) (n m : Nat) (k : Nat) : Prop := O k ∨ (n ≤ k ∧ k < n + m)

/-- a call of yield: it asks for a round, and what the round comes to -/
def Yields (P : Program) (l : Nat) (v : Value) (W : World) (R : Ending → World → Prop) : Prop :=
  ∃ fn tmps assign body, (Instr.yield l #[v]).run P W = .ok (.round l fn tmps assign body) W ∧ RoundIn Fence.wide 9 P l fn tmps assign body W R
theorem round_wide {P : Program} {l f : Nat} {tmps : Array Value} {assign body : Code} {w : World} {R : Ending → World → Prop} {n : Nat} (m : Nat) (h : RoundIn Fence.wide n P l f tmps assign body w R) : RoundIn Fence.wide m P l f tmps assign body w R :=
  ⟨trivial, fun c cs _ => h.2 c cs (room_wide _)⟩
theorem round_in {P : Program} {l f : Nat} {tmps : Array Value} {assign body : Code} {w : World} {R : Ending → World → Prop} {n : Nat} (l' m : Nat) (h : RoundIn Fence.wide n P l f tmps assign body w R) : RoundIn (Fence.wide.inRound l') m P l f tmps assign body w R :=
  ⟨trivial, fun c cs _ => h.2 c cs (room_wide _)⟩

/-- WHAT AN ITERATOR PROMISES: called with yield, it hands out the elements of xs in their order, till all have come or a round has said 'no more'; it turns none but its own blocks, and a round turns none of these. -/
def Seq {α : Type} (P : Program) (g : Nat) (lb : Array Value) (enc : α → Value) (O : Nat → Prop) (m : Nat) (xs : List α) (w0 : World) : Prop :=
  ∀ (l : Nat) (J Jx : List α → World → Prop) (W : World), Below w0.heap.size w0 W →
    (∀ s A B, J s A → Turns (Its O W.heap.size m) A B → J s B) → (∀ s A B, Jx s A → Turns (Its O W.heap.size m) A B → Jx s B) →
    (∀ pre x W1, J pre W1 → W.heap.size + m ≤ W1.heap.size → pre ++ [x] <+: xs → Yields P l (enc x) W1 fun e W' =>
      (e = .returned (.bool true) ∧ J (pre ++ [x]) W' ∧ Turns (fun k => ¬ Its O W.heap.size m k) W1 W') ∨ (e = .returned (.bool false) ∧ Jx (pre ++ [x]) W' ∧ Turns (fun k => ¬ Its O W.heap.size m k) W1 W')) →
    J [] W →
    Calls P g (#[.func (.yield l) #[] #[]] ++ lb) W fun e W' => (∃ v, e = .returned v) ∧ (J xs W' ∨ ∃ pre, pre <+: xs ∧ Jx pre W')

/-- how a round may be left -/
def roundEnd {α : Type} (T : Nat → Prop) (I : List α → World → Prop) (Ix : Code → List α → World → Prop) (xs : List α) (W : World) : Exit → Act → World → Prop
  | .normal, _, W' => Turns (fun k => ¬ T k) W W' ∧ I xs W'
  | .ret, _, W' => Turns (fun k => ¬ T k) W W' ∧ Ix .ret xs W'
  | .exit id, _, W' => Turns (fun k => ¬ T k) W W' ∧ Ix (.exit id) xs W'
  | .goto t, _, W' => Turns (fun k => ¬ T k) W W' ∧ Ix (.goto t) xs W'
  | .panic _, _, _ => False
  | .outgrown, _, _ => False

/-- WHAT A CALLER OWES AT 'for x := range g': an invariant that does not mind what the iterator and the statement turn, and one walk of the body. -/
theorem wp_range {α : Type} {P : Program} {n : Nat} {g : Operand} {ps : Array Tmp} {assign body : Code} {Q : Exit → Act → World → Prop} {a : Act} {w : World}
    {gf : Nat} {lb : Array Value} (hg : a.eval g = .func (.func gf) #[] lb) (eg : ∀ args w, (callFunc gf args).run P w = .ok (.enter gf args) w)
    {enc : α → Value} {O : Nat → Prop} {m : Nat} {xs : List α} (hseq : Seq P gf lb enc O m xs w) (hO : ∀ k, O k → k < w.heap.size) (hps : ps.size = 1)
    (T : Nat → Prop) (hT : ∀ k, T k ↔ Its O w.heap.size (m + 2) k)
    (I : List α → World → Prop) (Ix : Code → List α → World → Prop) (hI : ∀ s A B, I s A → Turns T A B → I s B) (hIx : ∀ c s A B, Ix c s A → Turns T A B → Ix c s B) (h0 : I [] w) (a₁ : α → Act)
    (hassign : ∀ (l : Nat) (x : α) (W : World) (K : Act → World → Prop), K (a₁ x) W →
      assign.wpIn (Fence.wide.inRound l) 9 P (Exit.then K (fun _ _ _ => False)) { tmps := (ps.zip #[enc x]).foldl (fun t (p, v) => t.setIfInBounds p v) a.tmps, defers := [] } W)
    (hbody : ∀ (l : Nat) (pre : List α) (x : α) (W : World), I pre W → w.heap.size + m + 2 ≤ W.heap.size → pre ++ [x] <+: xs → body.wpIn (Fence.wide.inRound l) 9 P (roundEnd T I Ix (pre ++ [x]) W) (a₁ x) W)
    (hdone : ∀ (W : World), I xs W → W.heap[w.heap.size]? = some (.deferred (some [])) → Q .normal { a with defers := { target := .collected w.heap.size, args := #[] } :: a.defers } W)
    (hstop : ∀ (c : Code) (pre : List α) (W : World), pre <+: xs → Ix c pre W → W.heap[w.heap.size]? = some (.deferred (some [])) → c.wpIn Fence.wide n P Q { a with defers := { target := .collected w.heap.size, args := #[] } :: a.defers } W) :
    (Code.rangeFunc g ps assign body).wpIn Fence.wide n P Q a w := by
  refine wpIn_rangeFunc ?_
  intro fn hfn
  show ∃ (l : Nat) (mark : List Deferred) (w₁ : World) (d : Deferred) (w₁' : World) (f : FuncId) (args : Array Value) (w₂ : World),
      (Instr.enterLoop fn a.tmps ps assign body none).run P w = .ok (l, mark) w₁ ∧ _
  obtain ⟨rc, hrc⟩ : ∃ rc : LoopState → Option Code → Loop, rc = fun st pe => { state := st, pending := pe, fn, tmps := a.tmps, params := ps, assign, body, defers := w.heap.size } := ⟨_, rfl⟩
  obtain ⟨W1, hW1⟩ : ∃ W1, (w.alloc (.deferred (some []))).alloc (.loop (rc .ready none)) = W1 := ⟨_, rfl⟩
  have hs1 : W1.heap.size = w.heap.size + 2 := by rw [← hW1]; simp
  have hL1 : W1.heap[w.heap.size + 1]? = some (.loop (rc .ready none)) := by
    rw [← hW1]; have := World.alloc_heap_new (w.alloc (.deferred (some []))) (.loop (rc .ready none)); rwa [World.size_alloc] at this
  have hK1 : W1.heap[w.heap.size]? = some (.deferred (some [])) := by
    rw [← hW1]; exact (Below.heap_alloc _ _ _ (by simp)).trans (World.alloc_heap_new w _)
  have hI1 : I [] W1 := by rw [← hW1]; exact hI _ _ _ (hI _ _ _ h0 (Turns.alloc _ _ _)) (Turns.alloc _ _ _)
  have hb1 : Below w.heap.size w W1 := by rw [← hW1]; exact ((Below.refl _ w).alloc (Nat.le_refl _) _).alloc (by simp) _
  have tw : ∀ k, Its O W1.heap.size m k → T k := fun k hk => (hT k).2 (by
    rcases hk with hk | ⟨h1, h2⟩
    · exact Or.inl hk
    · exact Or.inr ⟨by omega, by omega⟩)
  have t0 : T w.heap.size := (hT _).2 (Or.inr ⟨Nat.le_refl _, by omega⟩)
  have t1 : T (w.heap.size + 1) := (hT _).2 (Or.inr ⟨by omega, by omega⟩)
  have n0 : ¬ Its O W1.heap.size m w.heap.size := by
    rintro (h | ⟨h, _⟩)
    · have := hO _ h; omega
    · omega
  have n1 : ¬ Its O W1.heap.size m (w.heap.size + 1) := by
    rintro (h | ⟨h, _⟩)
    · have := hO _ h; omega
    · omega
  refine ⟨w.heap.size + 1, [{ target := .collected w.heap.size, args := #[] }], W1, { target := .fn (.func gf) lb, args := #[.func (.yield (w.heap.size + 1)) #[] #[]] }, W1, gf,
    #[.func (.yield (w.heap.size + 1)) #[] #[]] ++ lb, W1, ?_, ?_, ?_, ?_, fun h => by simp [Fence.wide] at h, ?_⟩
  · rw [← hW1, hrc]; exact run_enterLoop_outer _ _ _ _ _
  · simp only [resolve, hg]
    simp [go_sem]
  · intro f' _; trivial
  · simp [invoke, go_sem, eg]
  · refine callsIn_wide.2 ((hseq (w.heap.size + 1)
      (fun pre W => I pre W ∧ W.heap[w.heap.size + 1]? = some (.loop (rc .ready none)) ∧ W.heap[w.heap.size]? = some (.deferred (some [])))
      (fun pre W => ∃ c, Ix c pre W ∧ W.heap[w.heap.size + 1]? = some (.loop (rc .done (some c))) ∧ W.heap[w.heap.size]? = some (.deferred (some [])))
      W1 hb1
      (fun s A B h ht => ⟨hI s A B h.1 (ht.wider tw), ht.keeps h.2.1 n1, ht.keeps h.2.2 n0⟩)
      (fun s A B h ht => by
        obtain ⟨c, hc, hl, hk⟩ := h
        exact ⟨c, hIx c s A B hc (ht.wider tw), ht.keeps hl n1, ht.keeps hk n0⟩)
      ?_ ⟨hI1, hL1, hK1⟩).mono ?_)
    · rintro pre x W ⟨hi, hl, hk⟩ hsz hpre
      have hlt : w.heap.size + 1 < W.heap.size := (Array.getElem?_eq_some_iff.1 hl).1
      have hy := run_yield (P := P) (args := #[enc x]) hl (by rw [hrc]; exact hps.symm)
      rw [hrc] at hy
      refine ⟨fn, _, assign, body, hy, roundIn_of_wpIn trivial (hassign _ x W _ ⟨_, run_beginRound hl (by rw [hrc]), ?_⟩)⟩
      have hl2 : (W.putObj (w.heap.size + 1) (.loop { rc .ready none with state := .busy })).heap[w.heap.size + 1]? = some (.loop { rc .ready none with state := .busy }) := World.putObj_heap_same hlt
      have hk2 : (W.putObj (w.heap.size + 1) (.loop { rc .ready none with state := .busy })).heap[w.heap.size]? = some (.deferred (some [])) := (World.putObj_heap_other (by omega)).trans hk
      have hw2 : Turns (fun k => ¬ Its O W1.heap.size m k) W (W.putObj (w.heap.size + 1) (.loop { rc .ready none with state := .busy })) := Turns.putObj _ n1
      refine wpIn_mono (hbody _ pre x _ (hI _ _ _ hi (Turns.putObj _ t1)) (by simp; omega) hpre) ?_
      have fin : ∀ (jump : Option Code) (W3 : World), Turns (fun k => ¬ T k) (W.putObj (w.heap.size + 1) (.loop { rc .ready none with state := .busy })) W3 →
          (Instr.endRound (w.heap.size + 1) jump).run P W3 = .ok (.bool jump.isNone) (W3.putObj (w.heap.size + 1) (.loop (rc (if jump.isNone then .ready else .done) jump))) ∧
          (W3.putObj (w.heap.size + 1) (.loop (rc (if jump.isNone then .ready else .done) jump))).heap[w.heap.size + 1]? = some (.loop (rc (if jump.isNone then .ready else .done) jump)) ∧
          (W3.putObj (w.heap.size + 1) (.loop (rc (if jump.isNone then .ready else .done) jump))).heap[w.heap.size]? = some (.deferred (some [])) := fun jump W3 hk3 => by
        have hl3 := hk3.keeps hl2 (fun h => h t1)
        have hr := run_endRound (P := P) jump hl3
        rw [hrc] at hr ⊢
        exact ⟨hr, World.putObj_heap_same (Array.getElem?_eq_some_iff.1 hl3).1, (World.putObj_heap_other (by omega)).trans (hk3.keeps hk2 (fun h => h t0))⟩
      rintro e a3 W3 hp
      cases e with
      | normal =>
        obtain ⟨hk3, hi3⟩ := hp
        obtain ⟨hr, hl4, hk4⟩ := fin none W3 hk3
        exact ⟨_, _, hr, .inl ⟨rfl, ⟨hI _ _ _ hi3 (Turns.putObj _ t1), hl4, hk4⟩, (hw2.trans (hk3.wider fun k h h2 => h (tw k h2))).trans (Turns.putObj _ n1)⟩⟩
      | ret =>
        obtain ⟨hk3, hi3⟩ := hp
        obtain ⟨hr, hl4, hk4⟩ := fin (some .ret) W3 hk3
        exact ⟨_, _, hr, .inr ⟨rfl, ⟨.ret, hIx _ _ _ _ hi3 (Turns.putObj _ t1), hl4, hk4⟩, (hw2.trans (hk3.wider fun k h h2 => h (tw k h2))).trans (Turns.putObj _ n1)⟩⟩
      | exit id =>
        obtain ⟨hk3, hi3⟩ := hp
        obtain ⟨hr, hl4, hk4⟩ := fin (some (.exit id)) W3 hk3
        exact ⟨_, _, hr, .inr ⟨rfl, ⟨.exit id, hIx _ _ _ _ hi3 (Turns.putObj _ t1), hl4, hk4⟩, (hw2.trans (hk3.wider fun k h h2 => h (tw k h2))).trans (Turns.putObj _ n1)⟩⟩
      | goto t =>
        obtain ⟨hk3, hi3⟩ := hp
        obtain ⟨hr, hl4, hk4⟩ := fin (some (.goto t)) W3 hk3
        exact ⟨_, _, hr, .inr ⟨rfl, ⟨.goto t, hIx _ _ _ _ hi3 (Turns.putObj _ t1), hl4, hk4⟩, (hw2.trans (hk3.wider fun k h h2 => h (tw k h2))).trans (Turns.putObj _ n1)⟩⟩
      | panic ch => exact hp.elim
      | outgrown => exact hp.elim
    · rintro e W2 ⟨⟨v, rfl⟩, (⟨hi, hl, hk⟩ | ⟨pre, hpre, c, hi, hl, hk⟩)⟩
      · exact ⟨none, _, by have := run_endLoop (P := P) hl (by rw [hrc]; simp); rw [hrc] at this; exact this, hdone _ (hI _ _ _ hi (Turns.putObj _ t1)) ((World.putObj_heap_other (by omega)).trans hk)⟩
      · exact ⟨some c, _, by have := run_endLoop (P := P) hl (by rw [hrc]; simp); rw [hrc] at this; exact this, hstop c pre _ hpre (hIx c _ _ _ hi (Turns.putObj _ t1)) ((World.putObj_heap_other (by omega)).trans hk)⟩
end Go.Proofs.YtpihldcchjoinaaGreatDoor.Range
/-
  A range over a function whose iterator lays blocks as it goes (an iterator that runs over iterators of its own): what it promises its caller ('SeqG'), and what a caller owes that never says 'no more' ('wp_rangeG'). The border between the two is the set of the iterator's blocks, which grows. For every program; no condition but those that each theorem bears.
-/
namespace Go.Proofs.YtpihldcchjoinaaGreatDoor.Range
open Go Go.RowKit

/-- the blocks of T, and those that came between A and B -/
def Fresh (T : Nat → Prop) (A B : World) (k : Nat) : Prop := T k ∨ (A.heap.size ≤ k ∧ k < B.heap.size)
def Lies (base : Nat) (T : Nat → Prop) (W : World) : Prop := ∀ k, T k → base ≤ k ∧ k < W.heap.size
/-- an invariant that does not mind what an iterator of the blocks T turns and lays -/
def Steady {α : Type} (base : Nat) (J : (Nat → Prop) → List α → World → Prop) : Prop := ∀ T s A B, J T s A → Lies base T A → base ≤ A.heap.size → Turns T A B → J (Fresh T A B) s B
theorem set_ext {T T' : Nat → Prop} (h : ∀ k, T k ↔ T' k) : T = T' := funext fun k => propext (h k)
theorem Lies.fresh {base : Nat} {T : Nat → Prop} {A B : World} (h : Lies base T A) (hb : base ≤ A.heap.size) (hs : A.heap.size ≤ B.heap.size) : Lies base (Fresh T A B) B := by
  intro k hk
  rcases hk with hk | ⟨h1, h2⟩
  · have := h k hk; exact ⟨this.1, by omega⟩
  · exact ⟨by omega, h2⟩
theorem Lies.more {base : Nat} {T : Nat → Prop} {A B : World} (h : Lies base T A) (hs : A.heap.size ≤ B.heap.size) : Lies base T B := fun k hk => by have := h k hk; exact ⟨this.1, by omega⟩
/-- WHAT AN ITERATOR PROMISES: called with yield, by a caller that never says 'no more', it hands out the elements of xs in their order; it turns none but its blocks, those of T and those that it lays; a round turns none of these. -/
def SeqG {α : Type} (P : Program) (g : Nat) (lb : Array Value) (enc : α → Value) (base : Nat) (O : Nat → Prop) (xs : List α) (w0 : World) : Prop :=
  ∀ (l : Nat) (J : (Nat → Prop) → List α → World → Prop) (T : Nat → Prop) (W : World), (∀ k, k < base ∨ O k → W.heap[k]? = w0.heap[k]?) → w0.heap.size ≤ W.heap.size →
    Steady base J → Lies base T W → (∀ k, O k → T k) → base ≤ W.heap.size →
    (∀ T pre x W1, J T pre W1 → Lies base T W1 → pre ++ [x] <+: xs → Yields P l (enc x) W1 fun e W' => e = .returned (.bool true) ∧ J T (pre ++ [x]) W' ∧ Turns (fun k => base ≤ k ∧ ¬ T k) W1 W') →
    J T [] W →
    Calls P g (#[.func (.yield l) #[] #[]] ++ lb) W fun e W' => (∃ v, e = .returned v) ∧ Turns (fun k => base ≤ k) W W' ∧ ∃ T', J T' xs W' ∧ Lies base T' W' ∧ (∀ k, T k → T' k)

/-- how a round is left -/
def roundG {α : Type} (base : Nat) (T : Nat → Prop) (I : (Nat → Prop) → List α → World → Prop) (xs : List α) (W : World) : Exit → Act → World → Prop
  | .normal, _, W' => Turns (fun k => base ≤ k ∧ ¬ T k) W W' ∧ I T xs W'
  | _, _, _ => False

/-- WHAT A CALLER OWES AT 'for x := range g' that no round breaks off -/
theorem wp_rangeG {α : Type} {P : Program} {n : Nat} {g : Operand} {ps : Array Tmp} {assign body : Code} {Q : Exit → Act → World → Prop} {a : Act} {w : World}
    {gf : Nat} {lb : Array Value} (hg : a.eval g = .func (.func gf) #[] lb) (eg : ∀ args w, (callFunc gf args).run P w = .ok (.enter gf args) w)
    {enc : α → Value} {base : Nat} {O : Nat → Prop} {xs : List α} (hseq : SeqG P gf lb enc base O xs w) (hO : Lies base O w) (hbase : base ≤ w.heap.size) (hps : ps.size = 1)
    (I : (Nat → Prop) → List α → World → Prop) (hI : Steady base I) (hIa : ∀ T s A o, I T s A → Lies base T A → base ≤ A.heap.size → I T s (A.alloc o)) (h0 : I O [] w) (a₁ : α → Nat → Act) (ob : α → Obj)
    (hassign : ∀ (l : Nat) (x : α) (W : World) (K : Act → World → Prop), K (a₁ x W.heap.size) (W.alloc (ob x)) →
      assign.wpIn (Fence.wide.inRound l) 9 P (Exit.then K (fun _ _ _ => False)) { tmps := (ps.zip #[enc x]).foldl (fun t (p, v) => t.setIfInBounds p v) a.tmps, defers := [] } W)
    (hbody : ∀ (l : Nat) (T : Nat → Prop) (pre : List α) (x : α) (b : Nat) (W : World), I T pre W → Lies base T W → w.heap.size + 2 ≤ b → W.heap[b]? = some (ob x) → ¬ T b → pre ++ [x] <+: xs → body.wpIn (Fence.wide.inRound l) 9 P (roundG base T I (pre ++ [x]) W) (a₁ x b) W)
    (hdone : ∀ (T : Nat → Prop) (W : World), I T xs W → Lies base T W → (∀ k, O k → T k) → T w.heap.size → W.heap[w.heap.size]? = some (.deferred (some [])) → Turns (fun k => base ≤ k) w W → Q .normal { a with defers := { target := .collected w.heap.size, args := #[] } :: a.defers } W) :
    (Code.rangeFunc g ps assign body).wpIn Fence.wide n P Q a w := by
  refine wpIn_rangeFunc ?_
  intro fn hfn
  show ∃ (l : Nat) (mark : List Deferred) (w₁ : World) (d : Deferred) (w₁' : World) (f : FuncId) (args : Array Value) (w₂ : World),
      (Instr.enterLoop fn a.tmps ps assign body none).run P w = .ok (l, mark) w₁ ∧ _
  obtain ⟨rc, hrc⟩ : ∃ rc : LoopState → Option Code → Loop, rc = fun st pe => { state := st, pending := pe, fn, tmps := a.tmps, params := ps, assign, body, defers := w.heap.size } := ⟨_, rfl⟩
  obtain ⟨W1, hW1⟩ : ∃ W1, (w.alloc (.deferred (some []))).alloc (.loop (rc .ready none)) = W1 := ⟨_, rfl⟩
  have hs1 : W1.heap.size = w.heap.size + 2 := by rw [← hW1]; simp
  have hL1 : W1.heap[w.heap.size + 1]? = some (.loop (rc .ready none)) := by
    rw [← hW1]; have := World.alloc_heap_new (w.alloc (.deferred (some []))) (.loop (rc .ready none)); rwa [World.size_alloc] at this
  have hK1 : W1.heap[w.heap.size]? = some (.deferred (some [])) := by
    rw [← hW1]; exact (Below.heap_alloc _ _ _ (by simp)).trans (World.alloc_heap_new w _)
  have ht1 : ∀ T, Turns T w W1 := fun T => by rw [← hW1]; exact (Turns.alloc T _ _).trans (Turns.alloc T _ _)
  -- the statement's two blocks
  obtain ⟨S, hS⟩ : ∃ S : (Nat → Prop) → Nat → Prop, S = fun T k => T k ∨ k = w.heap.size ∨ k = w.heap.size + 1 := ⟨_, rfl⟩
  have hSin : ∀ T k, S T k ↔ (T k ∨ k = w.heap.size ∨ k = w.heap.size + 1) := fun T k => by rw [hS]
  have hI1 : I (S O) [] W1 := by
    have := hI _ _ _ _ h0 hO hbase (ht1 O)
    have e : Fresh O w W1 = S O := set_ext fun k => by
      rw [hSin]
      unfold Fresh
      rw [hs1]
      constructor
      · rintro (h | h)
        · exact Or.inl h
        · exact Or.inr (by omega)
      · rintro (h | h)
        · exact Or.inl h
        · exact Or.inr (by omega)
    rwa [e] at this
  have hstay : ∀ (T : Nat → Prop) (A : World) (o : Obj) s, I (S T) s A → Lies base (S T) A → base ≤ A.heap.size → I (S T) s (A.putObj (w.heap.size + 1) o) := fun T A o s h hA hb => by
    have := hI _ _ _ _ h hA hb (Turns.putObj (A := A) o ((hSin T (w.heap.size + 1)).2 (Or.inr (Or.inr rfl))))
    have e : Fresh (S T) A (A.putObj (w.heap.size + 1) o) = S T := set_ext fun k => by
      unfold Fresh
      have hz : (A.putObj (w.heap.size + 1) o).heap.size = A.heap.size := by simp
      rw [hz]
      constructor
      · rintro (h | h)
        · exact h
        · omega
      · exact Or.inl
    rwa [e] at this
  refine ⟨w.heap.size + 1, [{ target := .collected w.heap.size, args := #[] }], W1, { target := .fn (.func gf) lb, args := #[.func (.yield (w.heap.size + 1)) #[] #[]] }, W1, gf,
    #[.func (.yield (w.heap.size + 1)) #[] #[]] ++ lb, W1, ?_, ?_, ?_, ?_, fun h => by simp [Fence.wide] at h, ?_⟩
  · rw [← hW1, hrc]; exact run_enterLoop_outer _ _ _ _ _
  · simp only [resolve, hg]
    simp [go_sem]
  · intro f' _; trivial
  · simp [invoke, go_sem, eg]
  · refine callsIn_wide.2 ((hseq (w.heap.size + 1)
      (fun T pre W => I (S T) pre W ∧ W.heap[w.heap.size + 1]? = some (.loop (rc .ready none)) ∧ W.heap[w.heap.size]? = some (.deferred (some [])) ∧ ¬ T w.heap.size ∧ ¬ T (w.heap.size + 1))
      O W1 ?_ (by omega) ?_ (hO.more (by omega)) (fun k hk => hk) (by omega) ?_ ⟨hI1, hL1, hK1, fun h => by have := hO _ h; omega, fun h => by have := hO _ h; omega⟩).mono ?_)
    · intro k hk
      refine (ht1 (fun _ => False)).block k ?_ id
      rcases hk with hk | hk
      · omega
      · exact (hO k hk).2
    · -- what the iterator turns and lays
      rintro T s A B ⟨h1, h2, h3, h4, h5⟩ hT hbA ht
      have hlA : w.heap.size + 1 < A.heap.size := (Array.getElem?_eq_some_iff.1 h2).1
      have hST : Lies base (S T) A := fun k hk => by
        rcases (hSin T k).1 hk with hk | hk | hk
        · exact hT k hk
        · omega
        · omega
      refine ⟨?_, ht.keeps h2 h5, ht.keeps h3 h4, fun h => ?_, fun h => ?_⟩
      · have := hI _ _ _ _ h1 hST hbA (ht.wider fun k hk => (hSin T k).2 (Or.inl hk))
        rwa [set_ext (T := Fresh (S T) A B) (T' := S (Fresh T A B)) (fun k => by
          rw [hSin]; unfold Fresh; rw [hSin]
          constructor
          · rintro ((h | h) | h)
            · exact Or.inl (Or.inl h)
            · exact Or.inr h
            · exact Or.inl (Or.inr h)
          · rintro ((h | h) | h)
            · exact Or.inl (Or.inl h)
            · exact Or.inr h
            · exact Or.inl (Or.inr h))] at this
      · rcases h with h | h
        · exact h4 h
        · omega
      · rcases h with h | h
        · exact h5 h
        · omega
    · -- a round
      rintro T pre x W ⟨hi, hl, hk, n0, n1⟩ hT hpre
      have hlt : w.heap.size + 1 < W.heap.size := (Array.getElem?_eq_some_iff.1 hl).1
      have hST : Lies base (S T) W := fun k hk => by
        rcases (hSin T k).1 hk with hk | hk | hk
        · exact hT k hk
        · omega
        · omega
      have s0 : S T w.heap.size := (hSin _ _).2 (Or.inr (Or.inl rfl))
      have s1 : S T (w.heap.size + 1) := (hSin _ _).2 (Or.inr (Or.inr rfl))
      have hy := run_yield (P := P) (args := #[enc x]) hl (by rw [hrc]; exact hps.symm)
      rw [hrc] at hy
      refine ⟨fn, _, assign, body, hy, roundIn_of_wpIn trivial (hassign _ x W _ ⟨_, run_beginRound ((Turns.alloc (fun _ => False) W (ob x)).keeps hl id) (by rw [hrc]), ?_⟩)⟩
      have hbx : (W.alloc (ob x)).heap[W.heap.size]? = some (ob x) := World.alloc_heap_new W _
      have hta := Turns.alloc (fun k => base ≤ k ∧ ¬ T k) W (ob x)
      have hia := hIa _ _ _ (ob x) hi hST (by omega)
      have hSTa : Lies base (S T) (W.alloc (ob x)) := hST.more hta.size
      have hza : (W.alloc (ob x)).heap.size = W.heap.size + 1 := World.size_alloc _ _
      have hka : (W.alloc (ob x)).heap[w.heap.size]? = some (.deferred (some [])) := (Turns.alloc (fun _ => False) W (ob x)).keeps hk id
      have hnb : ¬ S T W.heap.size := fun h => by have := hST _ h; omega
      generalize W.alloc (ob x) = Wa at *
      have hl2 : (Wa.putObj (w.heap.size + 1) (.loop { rc .ready none with state := .busy })).heap[w.heap.size + 1]? = some (.loop { rc .ready none with state := .busy }) := World.putObj_heap_same (by omega)
      have hk2 : (Wa.putObj (w.heap.size + 1) (.loop { rc .ready none with state := .busy })).heap[w.heap.size]? = some (.deferred (some [])) := (World.putObj_heap_other (by omega)).trans hka
      have hw2 : Turns (fun k => base ≤ k ∧ ¬ T k) W (Wa.putObj (w.heap.size + 1) (.loop { rc .ready none with state := .busy })) := hta.trans (Turns.putObj _ ⟨by omega, n1⟩)
      have hb2 : Lies base (S T) (Wa.putObj (w.heap.size + 1) (.loop { rc .ready none with state := .busy })) := hSTa.more (by simp)
      refine wpIn_mono (hbody _ (S T) pre x W.heap.size _ (hstay _ _ _ _ hia hSTa (by omega)) hb2 (by omega) ((World.putObj_heap_other (by omega)).trans hbx) hnb hpre) ?_
      rintro e a3 W3 hp
      cases e with
      | normal =>
        obtain ⟨hk3, hi3⟩ := hp
        have hl3 := hk3.keeps hl2 (fun h => h.2 s1)
        have hd3 := hk3.keeps hk2 (fun h => h.2 s0)
        have hz3 := hk3.size
        have hr := run_endRound (P := P) none hl3
        rw [hrc] at hr
        refine ⟨_, _, hr, rfl, ⟨hstay _ _ _ _ hi3 (hb2.more hz3) (by simp at hz3; omega), ?_, (World.putObj_heap_other (by omega)).trans hd3, n0, n1⟩, ?_⟩
        · rw [hrc] at hl3 ⊢
          exact World.putObj_heap_same (Array.getElem?_eq_some_iff.1 hl3).1
        · exact (hw2.trans (hk3.wider fun k h => ⟨h.1, fun h2 => h.2 ((hSin _ _).2 (Or.inl h2))⟩)).trans (Turns.putObj _ ⟨by omega, n1⟩)
      | ret => exact hp.elim
      | exit id => exact hp.elim
      | goto t => exact hp.elim
      | panic ch => exact hp.elim
      | outgrown => exact hp.elim
    · rintro e W2 ⟨⟨v, rfl⟩, htW, T', ⟨hi, hl, hk, n0, n1⟩, hT', hOT⟩
      have hl2 : w.heap.size + 1 < W2.heap.size := (Array.getElem?_eq_some_iff.1 hl).1
      have s0 : S T' w.heap.size := (hSin _ _).2 (Or.inr (Or.inl rfl))
      have s1 : S T' (w.heap.size + 1) := (hSin _ _).2 (Or.inr (Or.inr rfl))
      have hST : Lies base (S T') W2 := fun k hk => by
        rcases (hSin T' k).1 hk with hk | hk | hk
        · exact hT' k hk
        · omega
        · omega
      have hr := run_endLoop (P := P) hl (by rw [hrc]; simp)
      rw [hrc] at hr
      refine ⟨none, _, hr, hdone (S T') _ ?_ (hST.more (by simp)) (fun k hk => (hSin _ _).2 (Or.inl (hOT k hk))) s0 ((World.putObj_heap_other (by omega)).trans hk) ?_⟩
      · exact hstay _ _ _ _ hi hST (by omega)
      · exact ((ht1 _).trans htW).trans (Turns.putObj _ (by omega))
end Go.Proofs.YtpihldcchjoinaaGreatDoor.Range
/-
  Layer 12 (dump), walks of Go's slices.AppendSeq and slices.Collect at rows: what an iterator hands out is collected, in new memory. The conditions stand in the statements.
-/
namespace Go.Proofs.YtpihldcchjoinaaGreatDoor.W12
set_option maxRecDepth 100000
open Go Go.RowKit Go.Shelf Go.Proofs.YtpihldcchjoinaaGreatDoor.Strs Go.Proofs.YtpihldcchjoinaaGreatDoor.Recs Go.Proofs.YtpihldcchjoinaaGreatDoor.Range
open Go.Proofs.YtpihldcchjoinaaGreatDoor.M12
open Go.Proofs.YtpihldcchjoinaaGreatDoor.W11
open Go.Proofs.YtpihldcchjoinaaGreatDoor.Kit (ret_str ret_bool ret_int mk_of mk_bytes ba_ext below_draws on)
attribute [local go_sem] Oper.semAt_some

/-- the same promise at a later world -/
theorem SeqG.later {α : Type} {P : Program} {g : Nat} {lb : Array Value} {enc : α → Value} {base : Nat} {O : Nat → Prop} {xs : List α} {w0 w1 : World} (h : SeqG P g lb enc base O xs w0) (hk : ∀ k, k < base ∨ O k → w1.heap[k]? = w0.heap[k]?) (hs : w0.heap.size ≤ w1.heap.size) : SeqG P g lb enc base O xs w1 :=
  fun l J T W hW hz => h l J T W (fun k h => (hW k h).trans (hk k h)) (Nat.le_trans hs hz)
theorem row_turn {T : Nat → Prop} {A B : World} {base : Nat} {e : TypeId} {size n : Nat} {v : Value} {xs : List Value} (h : Turns T A B) (hr : A.ownsRow base e size v n xs) (ht : ∀ k, v.ownBlock = some k → ¬ T k) : B.ownsRow base e size v n xs := by
  refine ⟨hr.1, ?_⟩
  rcases hr.2 with h0 | ⟨g, cap, cur, e1, hb, hh, rest⟩
  · exact Or.inl h0
  · subst e1
    exact Or.inr ⟨g, cap, cur, rfl, hb, h.keeps hh (ht g rfl), rest⟩
theorem wpListIn_append_place {F : Fence} {n : Nat} {P : Program} (w : World) {ops : Array Oper} {rest : List Oper} {o : Oper} {a : Act} {Q : Exit → Act → World → Prop}
    (hg : o.guard = none) (s x : Operand) (t : TypeId) (hop : o.op = Op.call { callee := Callee.builtin Builtin.append, args := #[s, x], argTypes := #[t, t] })
    (base : Nat) (e : TypeId) (i : TypeInfo) (z : Value) (size bytes : Nat) (h1 : P.underlying t = some (.slice e)) (h2 : P.info? e = some i) (h3 : i.zero = some z) (h4 : i.size = size) (h5 : i.bytes = bytes) (h6 : z.cells.size = size) (h7 : 0 < size)
    (v : Value) (k : Nat) (xs : List Value) (hs : a.eval s = v) (hown : w.ownsRow base e size v k xs) (ad : Addr) (m c : Nat) (news : List Value) (hx : a.eval x = .slice (some ad) m c) (hn : news.length = m * size)
    (hc : ∀ j u, news[j]? = some u → w.cell? (ad.add j) = some u) (h1c : ∀ u ∈ news, u.oneCell' = true) (b1 : k + m ≤ maxLen) (b2 : (k + m) * bytes ≤ 140737488355328) (b3 : base ≤ w.heap.size)
    (hK : ∀ v' w', w'.ownsRow base e size v' (k + m) (xs ++ news) → w.grownBy w' v.ownBlock → (∀ q, v'.ownBlock = some q → v.ownBlock = some q ∨ w.heap.size ≤ q) → wpListIn F n P ops Q rest (a.put o.dst v') w') :
    wpListIn F n P ops Q (o :: rest) a w := by
  refine wpListIn_plain hg fun K hK' => ?_
  obtain ⟨v', w', hrun, r1, r2, r3⟩ := run_append_own (P := P) w base t o.type e i z size bytes h1 h2 h3 h4 h5 h6 h7 v k xs hown ad m c news hn hc h1c b1 b2 b3
  have r4 := own_block_next (P := P) w base t o.type e i z size bytes h1 h2 h3 h4 h5 h6 h7 v k xs hown ad m c news hn hc h1c b1 b2 hrun
  unfold Oper.wpIn
  refine ⟨?_, ?_⟩
  · simp [Oper.about, hop, resolve, Target.leads, Sem.run_pure]
  · rw [Oper.semAt_plain F _ _ (by rw [hop]; intro c hc'; cases hc')]
    simp [execOp, hop, resolve, invoke, builtin, hs, hx, hrun, Result.andThen]
    exact hK' _ _ (hK v' w' r1 r2 r4)
def rowOb (r : Rw) : Obj := .cells #[.string ⟨r.path.toArray⟩, .int .i64 r.kind, .string ⟨r.data.toArray⟩] 41
theorem rowOb_cells {W : World} {b : Nat} {r : Rw} (h : W.heap[b]? = some (rowOb r)) : W.cell? ⟨b, 0, none⟩ = some (.string ⟨r.path.toArray⟩) ∧ W.cell? ⟨b, 1, none⟩ = some (.int .i64 r.kind) ∧ W.cell? ⟨b, 2, none⟩ = some (.string ⟨r.data.toArray⟩) :=
  ⟨cell_of_row W b 0 _ _ (0, 0) h, cell_of_row W b 1 _ _ (0, 0) h, cell_of_row W b 2 _ _ (0, 0) h⟩
/-- what the collecting loop holds: the variable's box q, and the row that it holds -/
def Coll (w0 : World) (n0 q : Nat) (T : Nat → Prop) (pre : List Rw) (W : World) : Prop :=
  ∃ v, Boxed W q 31 v ∧ W.ownsRow (q + 1) 41 3 v pre.length (pre.flatMap rowC) ∧ ¬ T q ∧ (∀ k, v.ownBlock = some k → ¬ T k) ∧ Below n0 w0 W
theorem Coll.steady {w0 : World} {n0 base q : Nat} (hn : n0 ≤ base) : Steady base (Coll w0 n0 q) := by
  rintro T s A B ⟨v, h1, h2, h3, h4, h5⟩ hT hA ht
  refine ⟨v, ht.keeps h1 h3, row_turn ht h2 h4, fun h => ?_, fun k hk h => ?_, h5.trans (ht.below (fun k hk => Nat.le_trans hn (hT k hk).1) (by omega))⟩
  · rcases h with h | h
    · exact h3 h
    · have := h1.lt; omega
  · rcases h with h | h
    · exact h4 k hk h
    · have := (h2.lt k hk).2; omega
theorem Coll.alloc {w0 : World} {n0 q : Nat} {T : Nat → Prop} {s : List Rw} {A : World} (h : Coll w0 n0 q T s A) (hA : n0 ≤ A.heap.size) (o : Obj) : Coll w0 n0 q T s (A.alloc o) := by
  obtain ⟨v, h1, h2, h3, h4, h5⟩ := h
  exact ⟨v, h1.alloc o, h2.alloc o, h3, h4, h5.alloc hA o⟩
set_option maxRecDepth 100000 in
set_option maxHeartbeats 4000000 in
theorem appendSeq_any {gf : Nat} {lb : Array Value} (eg : ∀ args w, (callFunc gf args).run Tryz.prog w = .ok (.enter gf args) w) {base : Nat} {O : Nat → Prop} {xs : List Rw} (w : World) (hseq : SeqG Tryz.prog gf lb rowV base O xs w) (hO : Lies base O w) (hbase : base ≤ w.heap.size) (hx : xs.length ≤ 1048576) :
    Calls Tryz.prog 64 #[.slice none 0 0, .func (.func gf) #[] lb] w fun e w' => ∃ v, e = .returned v ∧ RowList w'.heap.size w' v xs ∧ Below base w w' := by
  obtain ⟨j0, hi, hz0, hz1, hz2⟩ := info_parts row_info
  refine (callsIn_wide (n := 9)).1 ?_
  refine callsIn_of_wp_marks Tryz.func64 rfl trivial ?_ rfl
  simp only [Tryz.ntmps64, List.size_toArray, List.length_cons, List.length_nil, Nat.reduceAdd, Nat.reduceSub, Array.replicate_succ, Array.replicate_zero, List.push_toArray, List.append_toArray, List.nil_append, List.cons_append]
  gi_wp2
  have x0 := Boxed.new w 31 (.slice none 0 0)
  obtain ⟨q, hq⟩ : ∃ q, w.heap.size = q := ⟨_, rfl⟩
  rw [hq] at x0
  have hb1 : Below base w (w.alloc (.cells #[.slice none 0 0] 31)) := (Below.refl _ w).alloc (by omega) _
  have hz : (w.alloc (.cells #[.slice none 0 0] 31)).heap.size = q + 1 := by rw [World.size_alloc, hq]
  have hsame : ∀ k, k < base ∨ O k → (w.alloc (.cells #[.slice none 0 0] 31)).heap[k]? = w.heap[k]? := fun k hk => Below.heap_alloc _ _ _ (by
    rcases hk with h | h
    · omega
    · exact (hO k h).2)
  have hseq2 := SeqG.later (w1 := w.alloc (.cells #[.slice none 0 0] 31)) hseq hsame (by omega)
  have hOq : ¬ O q := fun h => by have := hO q h; omega
  have hO2 : Lies base O (w.alloc (.cells #[.slice none 0 0] 31)) := hO.more (by omega)
  generalize w.alloc (.cells #[.slice none 0 0] 31) = U at *
  refine wp_rangeG (gf := gf) (lb := lb) rfl eg hseq2 hO2 (by omega) rfl (Coll w base q) (Coll.steady (Nat.le_refl _)) (fun T s A o h hT hA => h.alloc hA o)
    ⟨_, x0, World.ownsRow_nil _ _ _ _, hOq, (fun k (hk : none = some k) => by cases hk), hb1⟩
    (fun r b => { tmps := #[.slice none 0 0, .func (.func gf) #[] lb, .pointer (some ⟨q, 0, none⟩), undef, .slice none 0 0, .pointer (some ⟨b, 0, none⟩), .func (.func gf) #[] lb, rowV r, undef, undef, undef, undef, undef], defers := [] }) rowOb ?assign ?body ?done
  case assign =>
    intro l r W K hK
    unfold rowV rowOb at *
    gi_wp2
    exact hK
  case body =>
    rintro l T pre r b W ⟨v, hv, hrow, hTq, hTv, hB⟩ hT hb hbx hTb hpre
    have hc := hv.cell
    have hf := hv.frozen
    obtain ⟨c0, c1, c2⟩ := rowOb_cells hbx
    have hle : pre.length + 1 ≤ xs.length := by
      have := hpre.length_le
      rw [List.length_append, List.length_singleton] at this
      exact this
    have hq1 : q + 1 ≤ W.heap.size := by have := hv.lt; omega
    unfold rowV
    gi_wp2_with (gi_at_builtin; refine wpListIn_append_place _ rfl _ _ 31 rfl (q + 1) 41 j0 (.agg #[.string ⟨#[]⟩, .int .i64 0, .string ⟨#[]⟩]) 3 40 Tryz.underlying31 hi hz0 hz1 hz2 rfl (by decide) _ _ _ rfl (hrow.alloc _) ⟨W.heap.size, 0, none⟩ 1 1 (rowC r) rfl rfl (cells_new W (rowC r) _) (rowC_one r) (by unfold maxLen; omega) (by omega) (by rw [World.size_alloc]; omega) ?_; intro v' w1 hown' hgrow hpl; obtain ⟨g', cap', rfl⟩ := ownsRow_succ hown'; have hv1 : Boxed w1 q 31 v := (hv.alloc _).kept hgrow (hv.not_row (by decide) hrow); have hc1 := hv1.cell; have hf1 := hv1.frozen)
    have t1 : Turns (fun k => base ≤ k ∧ ¬ T k) W w1 := (Turns.alloc _ W _).trans (Turns.of_grown hgrow (fun rr hr => ⟨by have := (hrow.lt rr hr).1; omega, hTv rr hr⟩))
    have t2 : Turns (fun k => base ≤ k ∧ ¬ T k) w1 (w1.setCell ⟨q, 0, none⟩ (.slice (some ⟨g', 0, none⟩) (pre.length + 1) cap')) := Turns.setCell (a := ⟨q, 0, none⟩) _ ⟨by show base ≤ q; omega, hTq⟩
    refine ⟨t1.trans t2, _, hv1.set _, ?_, hTq, fun k hk h => ?_, hB.trans ((t1.trans t2).below (fun k hk => hk.1) (by have := hB.size; omega))⟩
    · have h3 := hown'.kept (grownBy_setCell' w1 q (.slice (some ⟨g', 0, none⟩) (pre.length + 1) cap')) (.inr (hv1.not_row (by decide) hown').symm)
      rw [List.length_append, List.flatMap_append]
      simpa using h3
    · rcases hpl k hk with e | e
      · exact hTv k e h
      · have := hT k h
        rw [World.size_alloc] at e
        omega
  case done =>
    rintro T W ⟨v, hv, hrow, hTq, hTv, hB⟩ hT hOT hTd hK htW
    have hc := hv.cell
    gi_wp2
    refine ⟨by simp, .inl ⟨_, _, rfl, run_takeDeferred hK, ?_⟩⟩
    have h2 := ownsRow_putObj hrow (.deferred none) hK rfl
    have h3 : Below base W (W.putObj U.heap.size (.deferred none)) := (Turns.putObj (T := fun k => base ≤ k) _ (by omega)).below (fun k hk => hk) (Nat.le_trans hbase hB.size)
    exact ⟨_, results_tmp rfl _ _ _, v, rfl, Recs.of_own rowC_len rfl h2, hB.trans h3⟩
theorem collect_any {gf : Nat} {lb : Array Value} (eg : ∀ args w, (callFunc gf args).run Tryz.prog w = .ok (.enter gf args) w) {base : Nat} {O : Nat → Prop} {xs : List Rw} (w : World) (hseq : SeqG Tryz.prog gf lb rowV base O xs w) (hO : Lies base O w) (hbase : base ≤ w.heap.size) (hx : xs.length ≤ 1048576) :
    Calls Tryz.prog 30 #[.func (.func gf) #[] lb] w fun e w' => ∃ v, e = .returned v ∧ RowList w'.heap.size w' v xs ∧ Below base w w' := by
  have H := Lib.hid (appendSeq_any eg w hseq hO hbase hx)
  go_enter Tryz.func30, Tryz.ntmps30
  go_wp2_with fail
  refine H.out.mono ?_
  rintro e w' ⟨v, rfl, hv, hb⟩
  go_wp2_with fail
  go_ret
  exact ⟨v, rfl, hv, hb⟩
end Go.Proofs.YtpihldcchjoinaaGreatDoor.W12
/-
  Layer 6 (ents), walks: the plain answers Put, Merge, Next and Same: what each returns; new memory may be laid, nothing that was there is changed.
-/
namespace Go.Proofs.YtpihldcchjoinaaGreatDoor.W06
set_option maxRecDepth 100000
open Go Go.RowKit Go.Proofs.YtpihldcchjoinaaGreatDoor.Strs Go.Proofs.YtpihldcchjoinaaGreatDoor.Recs Go.Proofs.YtpihldcchjoinaaGreatDoor.M06
open Go.Proofs.YtpihldcchjoinaaGreatDoor.M03 (lt)
open Go.Proofs.YtpihldcchjoinaaGreatDoor.W03 (less_bytes same_bytes)
open Go.Proofs.YtpihldcchjoinaaGreatDoor.Kit (ret_str ret_bool ret_int mk_of mk_bytes ba_ext below_draws on)

theorem own_lower {w : World} {a b : Nat} {v : Value} {L : List Ent} (hab : b ≤ a) (h : OwnEnts w a v L) : OwnEnts w b v L := by
  refine ⟨h.1, ?_⟩
  rcases h.2 with hn | ⟨g, cap, cur, hv, hb, hg, rest⟩
  · exact Or.inl hn
  · exact Or.inr ⟨g, cap, cur, hv, by omega, hg, rest⟩
theorem filter_next {L : List Ent} {p : Ent → Bool} {k : Nat} (hk : k < L.length) (h : p L[k] = true) : (L.take (k + 1)).filter p = (L.take k).filter p ++ [L[k]] := by
  rw [take_at hk, List.filter_append]; simp [h]
theorem filter_skip {L : List Ent} {p : Ent → Bool} {k : Nat} (hk : k < L.length) (h : p L[k] = false) : (L.take (k + 1)).filter p = (L.take k).filter p := by
  rw [take_at hk, List.filter_append]; simp [h]

set_option maxHeartbeats 2000000 in
theorem refPut_any (v : Value) (L : List Ent) (B : Nat) (en : ByteArray) (z : Int) (w : World) (h : Ents B w v L) (hB : B ≤ w.heap.size) (hn : L.length ≤ 1099511627776) :
    Calls Tryz.prog 78 #[v, .agg #[.string en, .int .i64 z]] w (MakesE w (put L (en.data.toList, z))) := by
  obtain ⟨i0, hi, hz0, hz1, hz2⟩ := info_parts ent_info
  have HC := Lib.hid (refCut_any v L B en (w.alloc (.cells #[.string en, .int .i64 z] 114)) (h.alloc hB _) (by simp; omega) hn)
  have hcl := cut_len L en.data.toList
  have HPU : Hid (put L (en.data.toList, z) = (cut L en.data.toList).filter (fun a => decide (lt a.1 en.data.toList)) ++ (en.data.toList, z) :: (cut L en.data.toList).filter (fun a => decide (lt en.data.toList a.1))) := rfl
  generalize put L (en.data.toList, z) = R at *
  generalize cut L en.data.toList = M at *
  obtain ⟨A0, c0, rfl, -, -⟩ := h.form
  clear h
  go_enter Tryz.func78, Tryz.ntmps78
  go_wp2_with fail
  refine HC.out.mono ?_
  rintro e w1 ⟨u, rfl, hu, hb1⟩
  have H := Lib.hid hu.reads
  have hx0 : w1.cell? ⟨w.heap.size, 0, none⟩ = some (.string en) := by rw [hb1.cell (by simp)]; simp
  have hx1 : w1.cell? ⟨w.heap.size, 1, none⟩ = some (.int .i64 z) := by rw [hb1.cell (by simp)]; simp
  have hs1 : w.heap.size < w1.heap.size := by have := hb1.size; simp at this; omega
  have B1 : Hid (Below w.heap.size w w1) := ((Below.refl w.heap.size w).alloc (Nat.le_refl _) _).trans (hb1.mono (by simp))
  clear hb1
  obtain ⟨A, c, rfl, hA1, hA2⟩ := hu.reads.form
  clear hu
  unfold maxLen at hA2
  generalize hm : M.length = n at *
  have HM := Lib.hid hm
  clear hm
  go_wp2_with fail
  go_loopw [5, 6] (fun u i wr => ∃ (k : Nat) (out : List Ent), k ≤ n ∧ i = .int .i64 k ∧ out.length ≤ k ∧ Hid (out = (M.take k).filter (fun a => decide (lt a.1 en.data.toList))) ∧ Hid (OwnEnts wr w1.heap.size u out) ∧ Below w1.heap.size w1 wr) (fun _ i _ => n - (intOf i).toNat)
  case atStart => exact ⟨0, [], Nat.zero_le _, rfl, Nat.le_refl _, rfl, own_ents_nil _ _, Below.refl _ _⟩
  case round =>
    obtain ⟨k, out, hk, rfl, hout, hr, hown, hb⟩ := hrel
    have hbs := hb.size
    have hy0 : wr.cell? ⟨w.heap.size, 0, none⟩ = some (.string en) := by rw [hb.cell hs1]; exact hx0
    have hy1 : wr.cell? ⟨w.heap.size, 1, none⟩ = some (.int .i64 z) := by rw [hb.cell hs1]; exact hx1
    by_cases hlt : k < n
    · obtain ⟨b, o, hl1, t, rfl, hbl, ht, hc0, hc1⟩ := Ents.at_ (H.out.below hb) hlt
      have hlb := less_bytes t en
      by_cases hl : lt t.data.toList en.data.toList
      · have t1 : Op.bytesLess t.toList en.toList = true := by rw [hlb]; simpa using hl
        have HX := Lib.hid (filter_next (p := fun a => decide (lt a.1 en.data.toList)) hl1 (by rw [← ht]; simpa using hl))
        rw [← hr.out] at HX
        have HT := Lib.hid (ent_text ht)
        clear hlb hl ht
        go_wp2_with fail
        go_quiet (fail)
        have hown2 : Hid (OwnEnts (wr.drewN nq) w1.heap.size _ out) := hown
        have hb2 : Below w1.heap.size w1 (wr.drewN nq) := hb.trans ((below_draws wr nq).mono hbs)
        have hbs2 := hb2.size
        have d0 : (wr.drewN nq).cell? ⟨b, o + k * 2, none⟩ = some (.string t) := hc0
        have d1 : (wr.drewN nq).cell? ⟨b, o + k * 2 + 1, none⟩ = some (.int .i64 (M[k]).2) := hc1
        generalize wr.drewN nq = W at *
        clear hc0 hc1 hy0 hy1
        go_wp2_with (at_builtin; refine wpList_append_own _ rfl (.tmp 26) (.tmp 31) 89 rfl w1.heap.size 114 i0 (.agg #[.string ⟨#[]⟩, .int .i64 0]) 2 24 Tryz.underlying89 hi hz0 hz1 hz2 rfl (by decide) _ _ _ rfl (own_alloc hown2.out _) ⟨_, 0, none⟩ 1 1 [.string t, .int .i64 (M[k]).2] rfl rfl (cells_new _ [_, _] _) (by intro u hu; simp at hu; rcases hu with rfl | rfl <;> rfl) (by unfold maxLen; omega) (by omega) (by simp; omega) ?_; intro v1 w2 hown1 hgrow1 _)
        rw [HT.out] at hown1
        have B2 := Lib.hid (below_more2 hb2 hbs2 hown2.out hgrow1)
        have O1 := Lib.hid (own_ents_more hown1)
        clear hown1 hgrow1
        go_wp2
        go_roundw
        case rel => exact ⟨k + 1, _, by omega, by go_num, by rw [List.length_append]; simp; omega, HX.symm, O1, B2.out⟩
        case measure => simp [intOf]; omega
      · have t1 : Op.bytesLess t.toList en.toList = false := by rw [hlb]; simpa using hl
        have HX := Lib.hid (hr.out.trans (filter_skip (p := fun a => decide (lt a.1 en.data.toList)) hl1 (by rw [← ht]; simpa using hl)).symm)
        clear hlb hl ht
        go_wp2_with fail
        go_quiet (fail)
        go_wp2_with fail
        go_roundw
        case rel => exact ⟨k + 1, out, by omega, by go_num, by omega, HX, hown, hb.trans ((below_draws wr _).mono hbs)⟩
        case measure => simp [intOf]; omega
    · have HX : Hid (out = M.filter (fun a => decide (lt a.1 en.data.toList))) := hr.out.trans (by rw [take_all (by rw [HM.out]; exact hlt)])
      have HE : Hid (Value.string en = strV en.data.toList) := by show _ = _; unfold strV; rw [mk_bytes]
      go_wp2_with (at_builtin; refine wpList_append_own _ rfl (.tmp 33) (.tmp 35) 89 rfl w1.heap.size 114 i0 (.agg #[.string ⟨#[]⟩, .int .i64 0]) 2 24 Tryz.underlying89 hi hz0 hz1 hz2 rfl (by decide) _ _ _ rfl (own_alloc hown.out _) ⟨_, 0, none⟩ 1 1 [.string en, .int .i64 z] rfl rfl (cells_new _ [_, _] _) (by intro u hu; simp at hu; rcases hu with rfl | rfl <;> rfl) (by unfold maxLen; omega) (by omega) (by simp; omega) ?_; intro v1 w2 hown1 hgrow1 _)
      rw [HE.out] at hown1
      have B2 := Lib.hid (below_more2 hb hbs hown.out hgrow1)
      have O1 := Lib.hid (own_ents_more (e := (en.data.toList, z)) hown1)
      clear hown1 hgrow1
      go_wp2_with fail
      go_loopw [5, 7] (fun u i wr => ∃ (k : Nat) (out2 : List Ent), k ≤ n ∧ i = .int .i64 k ∧ out2.length ≤ k ∧ Hid (out2 = (M.take k).filter (fun a => decide (lt en.data.toList a.1))) ∧ Hid (OwnEnts wr w1.heap.size u (out ++ [(en.data.toList, z)] ++ out2)) ∧ Below w1.heap.size w1 wr) (fun _ i _ => n - (intOf i).toNat)
      case atStart => exact ⟨0, [], Nat.zero_le _, rfl, Nat.le_refl _, rfl, by rw [List.append_nil]; exact O1, B2.out⟩
      case round =>
        clear B2 O1 hown hb hbs hy0 hy1 hlt
        obtain ⟨k2, out2, hk2, rfl, hout2, hr2, hown, hb⟩ := hrel
        have hbs := hb.size
        have hy0 : wr.cell? ⟨w.heap.size, 0, none⟩ = some (.string en) := by rw [hb.cell hs1]; exact hx0
        have hy1 : wr.cell? ⟨w.heap.size, 1, none⟩ = some (.int .i64 z) := by rw [hb.cell hs1]; exact hx1
        by_cases hlt : k2 < n
        · obtain ⟨b, o, hl1, t, rfl, hbl, ht, hc0, hc1⟩ := Ents.at_ (H.out.below hb) hlt
          have hlb := less_bytes t en
          have hsb := same_bytes t en
          by_cases hl : lt en.data.toList t.data.toList
          · have t1 : Op.bytesLess t.toList en.toList = false := by rw [hlb]; simpa using M03.lt_asymm hl
            have t2 : (t.toList == en.toList) = false := by rw [hsb]; simpa using fun e : t.data.toList = en.data.toList => M03.lt_irrefl _ (e ▸ hl)
            clear hsb
            have HX2 := Lib.hid (filter_next (p := fun a => decide (lt en.data.toList a.1)) hl1 (by rw [← ht]; simpa using hl))
            rw [← hr2.out] at HX2
            have HT := Lib.hid (ent_text ht)
            have hll : (out ++ [(en.data.toList, z)] ++ out2).length = out.length + 1 + out2.length := by rw [List.length_append, List.length_append]; rfl
            clear hlb hl ht
            go_wp2_with fail
            go_quiet (fail)
            have hown2 : Hid (OwnEnts (wr.drewN nq) w1.heap.size _ (out ++ [(en.data.toList, z)] ++ out2)) := hown
            have hb2 : Below w1.heap.size w1 (wr.drewN nq) := hb.trans ((below_draws wr nq).mono hbs)
            have hbs2 := hb2.size
            have d0 : (wr.drewN nq).cell? ⟨b, o + k2 * 2, none⟩ = some (.string t) := hc0
            have d1 : (wr.drewN nq).cell? ⟨b, o + k2 * 2 + 1, none⟩ = some (.int .i64 (M[k2]).2) := hc1
            have a1 : (out ++ [(en.data.toList, z)] ++ out2).length + 1 ≤ maxLen := by unfold maxLen; omega
            have a2 : ((out ++ [(en.data.toList, z)] ++ out2).length + 1) * 24 ≤ 140737488355328 := by omega
            clear hll
            generalize wr.drewN nq = W at *
            clear hc0 hc1 hy0 hy1
            go_wp2_with (at_builtin; refine wpList_append_own _ rfl (.tmp 51) (.tmp 56) 89 rfl w1.heap.size 114 i0 (.agg #[.string ⟨#[]⟩, .int .i64 0]) 2 24 Tryz.underlying89 hi hz0 hz1 hz2 rfl (by decide) _ _ _ rfl (own_alloc hown2.out _) ⟨_, 0, none⟩ 1 1 [.string t, .int .i64 (M[k2]).2] rfl rfl (cells_new _ [_, _] _) (by intro u hu; simp at hu; rcases hu with rfl | rfl <;> rfl) a1 a2 (by simp; omega) ?_; intro v1 w2 hown1 hgrow1 _)
            rw [HT.out] at hown1
            have B2 := Lib.hid (below_more2 hb2 hbs2 hown2.out hgrow1)
            have O1 := Lib.hid (own_ents_more hown1)
            rw [List.append_assoc (out ++ [(en.data.toList, z)])] at O1
            clear hown1 hgrow1 a1 a2
            go_wp2
            go_roundw
            case rel => exact ⟨k2 + 1, _, by omega, by go_num, by rw [List.length_append]; simp; omega, HX2.symm, O1, B2.out⟩
            case measure => simp [intOf]; omega
          · have HX2 := Lib.hid (hr2.out.trans (filter_skip (p := fun a => decide (lt en.data.toList a.1)) hl1 (by rw [← ht]; simpa using hl)).symm)
            by_cases hl2 : lt t.data.toList en.data.toList
            · have t1 : Op.bytesLess t.toList en.toList = true := by rw [hlb]; simpa using hl2
              clear hl2
              clear hlb hsb hl ht
              go_wp2_with fail
              go_quiet (fail)
              go_wp2_with fail
              go_roundw
              case rel => exact ⟨k2 + 1, out2, by omega, by go_num, by omega, HX2, hown, hb.trans ((below_draws wr _).mono hbs)⟩
              case measure => simp [intOf]; omega
            · have t1 : Op.bytesLess t.toList en.toList = false := by rw [hlb]; simpa using hl2
              have t2 : (t.toList == en.toList) = true := by
                rw [hsb]
                rcases M03.lt_total t.data.toList en.data.toList with e | e | e
                · exact absurd e hl2
                · simpa using e
                · exact absurd e hl
              clear hl2
              clear hlb hsb hl ht
              go_wp2_with fail
              go_quiet (fail)
              go_wp2_with fail
              go_roundw
              case rel => exact ⟨k2 + 1, out2, by omega, by go_num, by omega, HX2, hown, hb.trans ((below_draws wr _).mono hbs)⟩
              case measure => simp [intOf]; omega
        · have HX2 : Hid (out2 = M.filter (fun a => decide (lt en.data.toList a.1))) := hr2.out.trans (by rw [take_all (by rw [HM.out]; exact hlt)])
          have HR : Hid (R = out ++ [(en.data.toList, z)] ++ out2) := by show _ = _; rw [HPU.out, HX.out, HX2.out]; simp
          go_wp2_with fail
          go_ret
          exact ⟨_, rfl, by rw [HR.out]; exact own_lower (by omega) hown.out, on B1.out hb⟩
end Go.Proofs.YtpihldcchjoinaaGreatDoor.W06
/-
  Layer 6 (ents), walks: the plain answers Merge, Next and Same: what each returns; new memory may be laid, nothing that was there is changed.
-/
namespace Go.Proofs.YtpihldcchjoinaaGreatDoor.W06
set_option maxRecDepth 100000
open Go Go.RowKit Go.Proofs.YtpihldcchjoinaaGreatDoor.Strs Go.Proofs.YtpihldcchjoinaaGreatDoor.Recs Go.Proofs.YtpihldcchjoinaaGreatDoor.M06
open Go.Proofs.YtpihldcchjoinaaGreatDoor.M03 (lt)
open Go.Proofs.YtpihldcchjoinaaGreatDoor.W03 (less_bytes same_bytes)
open Go.Proofs.YtpihldcchjoinaaGreatDoor.Kit (ret_str ret_bool ret_int mk_of mk_bytes ba_ext below_draws on)

/-- what a call returns that hands out entries -/
def HandsE (w : World) (L : List Ent) (e : Ending) (w' : World) : Prop := ∃ v, e = .returned v ∧ Ents w'.heap.size w' v L ∧ Below w.heap.size w w'
/-! ### Next -/
theorem below_box (w : World) (o : Obj) (q : Nat) (v0 v1 : Value) : Below w.heap.size w ((((w.alloc o).drewN q).setCell ⟨w.heap.size, 0, none⟩ v0).setCell ⟨w.heap.size, 1, none⟩ v1) := by
  have h1 : Below w.heap.size w ((w.alloc o).drewN q) := ((Below.refl w.heap.size w).alloc (Nat.le_refl _) o).trans ((below_draws (w.alloc o) q).mono (by simp))
  exact (h1.setCell (Nat.le_refl _) _).setCell (Nat.le_refl _) _
/-! ### Same -/
theorem ents_upto {La Lb : List Ent} {k : Nat} (hl : La.length = Lb.length) (hk : ¬ k < La.length) (h : ∀ j (h1 : j < La.length) (h2 : j < Lb.length), j < k → La[j] = Lb[j]) : La = Lb := by
  apply List.ext_getElem hl
  intro i h1 h2
  exact h i h1 h2 (by omega)
set_option maxHeartbeats 400000 in
theorem refSame_any (va vb : Value) (La Lb : List Ent) (B : Nat) (w : World) (ha : Ents B w va La) (hb : Ents B w vb Lb) :
    Calls Tryz.prog 46 #[va, vb] w fun e w' => e = .returned (.bool (decide (La = Lb))) ∧ ∃ n, w' = w.drewN n := by
  obtain ⟨A, c, rfl, hA1, hA2⟩ := ha.form
  obtain ⟨A', c', rfl, hB1, hB2⟩ := hb.form
  unfold maxLen at hA2 hB2
  by_cases hl : La.length = Lb.length
  · have HL := Lib.hid hl
    have HA := Lib.hid ha
    have HB := Lib.hid (hl ▸ hb)
    have hne : ((La.length : Int) != (Lb.length : Int)) = false := by simp [hl]
    rw [← hl]
    rw [← hl] at hB1 hne
    clear hl ha hb hne
    generalize hn : La.length = n at *
    have HN := Lib.hid hn
    clear hn
    go_enter Tryz.func46, Tryz.ntmps46
    go_wp2
    go_loopw [5] (fun i wr => ∃ k : Nat, k ≤ n ∧ i = .int .i64 k ∧ Hid (∀ j (h1 : j < La.length) (h2 : j < Lb.length), j < k → La[j] = Lb[j]) ∧ ∃ q, wr = w.drewN q) (fun i _ => n - (intOf i).toNat)
    case atStart => exact ⟨0, Nat.zero_le _, rfl, fun j _ _ hj => by omega, 0, rfl⟩
    case round =>
      obtain ⟨k, hk, rfl, hr, q, rfl⟩ := hrel
      by_cases hlt : k < n
      · obtain ⟨b, o, hl1, s, rfl, hbl, hs, hc0, hc1⟩ := Ents.at_ HA.out hlt
        obtain ⟨b', o', hl2, s', rfl, hbl', hs', hd0, hd1⟩ := Ents.at_ HB.out hlt
        have HS := Lib.hid hs
        have HS' := Lib.hid hs'
        clear hs hs'
        have HE : Hid (La[k] = Lb[k] ↔ s.data.toList = s'.data.toList ∧ (La[k]).2 = (Lb[k]).2) := by
          show _ ↔ _
          rw [HS.out, HS'.out]
          exact Prod.ext_iff
        have hsb := same_bytes s s'
        by_cases h1 : s.data.toList = s'.data.toList
        · have t1 : (s.toList == s'.toList) = true := by rw [hsb]; simpa using h1
          by_cases h2 : (La[k]).2 = (Lb[k]).2
          · have t2 : ((La[k]).2 == (Lb[k]).2) = true := by simpa using h2
            have HX : Hid (La[k] = Lb[k]) := HE.out.2 ⟨h1, h2⟩
            clear h1 h2 hsb
            go_wp2_with fail
            go_quiet (fail)
            go_wp2_with fail
            go_roundw
            case rel => exact ⟨k + 1, by omega, by go_num, fun j h1 h2 hj => by
              by_cases e : j = k
              · subst e; exact HX.out
              · exact hr.out j h1 h2 (by omega), q + nq, by first | rfl | rw [World.drewN_drewN]⟩
            case measure => simp [intOf]; omega
          · have t2 : ((La[k]).2 == (Lb[k]).2) = false := by simpa using h2
            have HX : Hid (¬ La = Lb) := fun e => h2 (by simp only [e])
            clear h1 h2 hsb
            go_wp2_with fail
            go_quiet (fail)
            go_wp2_with fail
            go_ret
            exact ⟨ret_bool (decide_eq_false HX.out).symm, q + nq, by first | rfl | rw [World.drewN_drewN]⟩
        · have t1 : (s.toList == s'.toList) = false := by rw [hsb]; simpa using h1
          have HX : Hid (¬ La = Lb) := fun e => h1 (by rw [HS.out, HS'.out]; simp only [e])
          clear h1 hsb
          go_wp2_with fail
          go_quiet (fail)
          go_wp2_with fail
          go_ret
          exact ⟨ret_bool (decide_eq_false HX.out).symm, q + nq, by first | rfl | rw [World.drewN_drewN]⟩
      · have HX := Lib.hid (ents_upto (HN.out.trans HL.out) (k := k) (by rw [HN.out]; exact hlt) hr.out)
        go_wp2
        go_ret
        exact ⟨ret_bool (decide_eq_true HX.out).symm, q, rfl⟩
  · have hne : ((La.length : Int) != (Lb.length : Int)) = true := by simp; omega
    have hd : ¬ La = Lb := fun e => hl (by rw [e])
    go_enter Tryz.func46, Tryz.ntmps46
    go_wp2
    go_ret
    exact ⟨ret_bool (by simp [hd]), 0, rfl⟩
end Go.Proofs.YtpihldcchjoinaaGreatDoor.W06
