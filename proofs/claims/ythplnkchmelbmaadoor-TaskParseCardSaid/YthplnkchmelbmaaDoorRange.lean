/-
  A range over a function, at the wide fence: what an iterator promises its caller ('Seq': it hands out the texts of a list, in their order, and turns no blocks but its own), and what a caller owes at such a statement ('wp_range'). The border between the two is drawn by numbers of blocks: the iterator's own ones lie in a set that both know. For every program; no condition but those that each theorem bears.
-/
import Derived.RangeFuncNested
import Derived.RangeFuncCalls
import Derived.Lib.Hide
import Derived.Deep.Draws
namespace Go.Proofs.YthplnkchmelbmaaDoor.Range
open Go Go.RowKit

/-- from A to B no block that A had has turned but those of T -/
structure Turns (T : Nat → Prop) (A B : World) : Prop where
  os : B.os = A.os
  tape : B.tape = A.tape
  output : B.output = A.output
  size : A.heap.size ≤ B.heap.size
  block : ∀ k, k < A.heap.size → ¬ T k → B.heap[k]? = A.heap[k]?
section
variable {T T' : Nat → Prop} {A B C : World}
theorem Turns.refl (T : Nat → Prop) (A : World) : Turns T A A := ⟨rfl, rfl, rfl, Nat.le_refl _, fun _ _ _ => rfl⟩
theorem Turns.trans (h : Turns T A B) (k : Turns T B C) : Turns T A C :=
  ⟨k.os.trans h.os, k.tape.trans h.tape, k.output.trans h.output, Nat.le_trans h.size k.size, fun i hi ht => (k.block i (Nat.lt_of_lt_of_le hi h.size) ht).trans (h.block i hi ht)⟩
theorem Turns.wider (h : Turns T A B) (hs : ∀ k, T k → T' k) : Turns T' A B := ⟨h.os, h.tape, h.output, h.size, fun i hi ht => h.block i hi (fun e => ht (hs i e))⟩
theorem Turns.of_grown {row : Option Nat} (h : A.grownBy B row) (hr : ∀ r, row = some r → T r) : Turns T A B :=
  ⟨h.os, h.tape, h.output, h.size, fun i hi ht => h.block i hi (fun e => ht (hr i e.symm))⟩
theorem Turns.of_below {n : Nat} (h : Below n A B) (hs : ∀ k, n ≤ k → k < A.heap.size → T k) : Turns T A B :=
  ⟨h.os, h.tape, h.output, h.size, fun i hi ht => h.block i (by
    rcases Nat.lt_or_ge i n with hlt | hge
    · exact hlt
    · exact absurd (hs i hge hi) ht)⟩
theorem Turns.new (h : Below A.heap.size A B) : Turns T A B := Turns.of_below h (fun k h1 h2 => absurd h1 (by omega))
theorem Turns.alloc (T : Nat → Prop) (A : World) (o : Obj) : Turns T A (A.alloc o) := Turns.of_grown (World.grownBy_alloc A o none) (fun r e => by cases e)
theorem Turns.putObj {r : Nat} (o : Obj) (h : T r) : Turns T A (A.putObj r o) := Turns.of_grown (grownBy_putObj' A r o) (fun k e => by cases e; exact h)
theorem grown_set (A : World) (a : Addr) (v : Value) : A.grownBy (A.setCell a v) (some a.block) :=
  ⟨rfl, rfl, rfl, (KeepsWalks.setCell A a v).size, fun k _ hk => Below.heap_setCell _ _ _ k (fun e => hk (by rw [e]))⟩
theorem Turns.setCell {a : Addr} (v : Value) (h : T a.block) : Turns T A (A.setCell a v) := Turns.of_grown (grown_set A a v) (fun k e => by cases e; exact h)
theorem Turns.draw (T : Nat → Prop) (A : World) (n : Nat) : Turns T A (A.drewN n) := ⟨rfl, rfl, rfl, Nat.le_refl _, fun _ _ _ => rfl⟩
theorem Turns.below {n : Nat} (h : Turns T A B) (hs : ∀ k, T k → n ≤ k) (hn : n ≤ A.heap.size) : Below n A B :=
  ⟨h.os, h.tape, h.output, h.size, fun i hi => h.block i (by omega) (fun e => by have := hs i e; omega)⟩
theorem Turns.keeps {k : Nat} {o : Obj} (h : Turns T A B) (hk : A.heap[k]? = some o) (ht : ¬ T k) : B.heap[k]? = some o :=
  (h.block k (Array.getElem?_eq_some_iff.1 hk).1 ht).trans hk
theorem Turns.cell {a : Addr} {v : Value} (h : Turns T A B) (hc : A.cell? a = some v) (ht : ¬ T a.block) : B.cell? a = some v :=
  (World.cell?_of_block (h.block _ (World.block_lt_of_cell? A a hc) ht)).trans hc
theorem Turns.frozen {a : Addr} {v : Value} (h : Turns T A B) (hc : A.cell? a = some v) (ht : ¬ T a.block) : B.frozen? a = A.frozen? a :=
  World.frozen?_of_block (h.block _ (World.block_lt_of_cell? A a hc) ht)
theorem Turns.row {base : Nat} {e : TypeId} {size n : Nat} {v : Value} {xs : List Value} (h : Turns T A B) (hr : A.ownsRow base e size v n xs) (ht : ∀ k, base ≤ k → ¬ T k) : B.ownsRow base e size v n xs := by
  refine ⟨hr.1, ?_⟩
  rcases hr.2 with h0 | ⟨g, cap, cur, e1, hb, hh, rest⟩
  · exact Or.inl h0
  · exact Or.inr ⟨g, cap, cur, e1, hb, h.keeps hh (ht g hb), rest⟩
theorem Turns.row_at {base g n cap : Nat} {e : TypeId} {size m : Nat} {xs : List Value} (h : Turns T A B) (hr : A.ownsRow base e size (.slice (some ⟨g, 0, none⟩) n cap) m xs) (ht : ¬ T g) : B.ownsRow base e size (.slice (some ⟨g, 0, none⟩) n cap) m xs := by
  refine ⟨hr.1, ?_⟩
  rcases hr.2 with ⟨h0, _⟩ | ⟨g', cap', cur, e1, hb, hh, rest⟩
  · cases h0
  · cases e1
    exact Or.inr ⟨g, cap, cur, rfl, hb, h.keeps hh ht, rest⟩
end
/-- the blocks of an iterator: those of O, and the m that it lays at its start -/
def Its (O : Nat → Prop) (n m : Nat) (k : Nat) : Prop := O k ∨ (n ≤ k ∧ k < n + m)

/-- a call of yield: it asks for a round, and what the round comes to -/
def Yields (P : Program) (l : Nat) (v : Value) (W : World) (R : Ending → World → Prop) : Prop :=
  ∃ fn tmps assign body, (Instr.yield l #[v]).run P W = .ok (.round l fn tmps assign body) W ∧ RoundIn Fence.wide 9 P l fn tmps assign body W R
theorem round_wide {P : Program} {l f : Nat} {tmps : Array Value} {assign body : Code} {w : World} {R : Ending → World → Prop} {n : Nat} (m : Nat) (h : RoundIn Fence.wide n P l f tmps assign body w R) : RoundIn Fence.wide m P l f tmps assign body w R :=
  ⟨trivial, fun c cs _ => h.2 c cs (room_wide _)⟩
theorem round_in {P : Program} {l f : Nat} {tmps : Array Value} {assign body : Code} {w : World} {R : Ending → World → Prop} {n : Nat} (l' m : Nat) (h : RoundIn Fence.wide n P l f tmps assign body w R) : RoundIn (Fence.wide.inRound l') m P l f tmps assign body w R :=
  ⟨trivial, fun c cs _ => h.2 c cs (room_wide _)⟩

/-- WHAT AN ITERATOR PROMISES: called with yield, it hands out the elements of xs in their order, till all have come or a round has said 'no more'; it turns none but its own blocks, and a round turns none of these. -/
def Seq {α : Type} (P : Program) (g : Nat) (lb : Array Value) (enc : α → Value) (O : Nat → Prop) (m : Nat) (xs : List α) (w0 : World) : Prop :=
  ∀ (l : Nat) (J Jx : List α → World → Prop) (W : World), Below w0.heap.size w0 W →
    (∀ s A B, J s A → Turns (Its O W.heap.size m) A B → J s B) → (∀ s A B, Jx s A → Turns (Its O W.heap.size m) A B → Jx s B) →
    (∀ pre x W1, J pre W1 → W.heap.size + m ≤ W1.heap.size → pre ++ [x] <+: xs → Yields P l (enc x) W1 fun e W' =>
      (e = .returned (.bool true) ∧ J (pre ++ [x]) W' ∧ Turns (fun k => ¬ Its O W.heap.size m k) W1 W') ∨ (e = .returned (.bool false) ∧ Jx (pre ++ [x]) W' ∧ Turns (fun k => ¬ Its O W.heap.size m k) W1 W')) →
    J [] W →
    Calls P g (#[.func (.yield l) #[] #[]] ++ lb) W fun e W' => (∃ v, e = .returned v) ∧ (J xs W' ∨ ∃ pre, pre <+: xs ∧ Jx pre W')

/-- how a round may be left -/
def roundEnd {α : Type} (T : Nat → Prop) (I : List α → World → Prop) (Ix : Code → List α → World → Prop) (xs : List α) (W : World) : Exit → Act → World → Prop
  | .normal, _, W' => Turns (fun k => ¬ T k) W W' ∧ I xs W'
  | .ret, _, W' => Turns (fun k => ¬ T k) W W' ∧ Ix .ret xs W'
  | .exit id, _, W' => Turns (fun k => ¬ T k) W W' ∧ Ix (.exit id) xs W'
  | .goto t, _, W' => Turns (fun k => ¬ T k) W W' ∧ Ix (.goto t) xs W'
  | .panic _, _, _ => False
  | .outgrown, _, _ => False

/-- WHAT A CALLER OWES AT 'for x := range g': an invariant that does not mind what the iterator and the statement turn, and one walk of the body. -/
theorem wp_range {α : Type} {P : Program} {n : Nat} {g : Operand} {ps : Array Tmp} {assign body : Code} {Q : Exit → Act → World → Prop} {a : Act} {w : World}
    {gf : Nat} {lb : Array Value} (hg : a.eval g = .func (.func gf) #[] lb) (eg : ∀ args w, (callFunc gf args).run P w = .ok (.enter gf args) w)
    {enc : α → Value} {O : Nat → Prop} {m : Nat} {xs : List α} (hseq : Seq P gf lb enc O m xs w) (hO : ∀ k, O k → k < w.heap.size) (hps : ps.size = 1)
    (T : Nat → Prop) (hT : ∀ k, T k ↔ Its O w.heap.size (m + 2) k)
    (I : List α → World → Prop) (Ix : Code → List α → World → Prop) (hI : ∀ s A B, I s A → Turns T A B → I s B) (hIx : ∀ c s A B, Ix c s A → Turns T A B → Ix c s B) (h0 : I [] w) (a₁ : α → Act)
    (hassign : ∀ (l : Nat) (x : α) (W : World) (K : Act → World → Prop), K (a₁ x) W →
      assign.wpIn (Fence.wide.inRound l) 9 P (Exit.then K (fun _ _ _ => False)) { tmps := (ps.zip #[enc x]).foldl (fun t (p, v) => t.setIfInBounds p v) a.tmps, defers := [] } W)
    (hbody : ∀ (l : Nat) (pre : List α) (x : α) (W : World), I pre W → w.heap.size + m + 2 ≤ W.heap.size → pre ++ [x] <+: xs → body.wpIn (Fence.wide.inRound l) 9 P (roundEnd T I Ix (pre ++ [x]) W) (a₁ x) W)
    (hdone : ∀ (W : World), I xs W → W.heap[w.heap.size]? = some (.deferred (some [])) → Q .normal { a with defers := { target := .collected w.heap.size, args := #[] } :: a.defers } W)
    (hstop : ∀ (c : Code) (pre : List α) (W : World), pre <+: xs → Ix c pre W → W.heap[w.heap.size]? = some (.deferred (some [])) → c.wpIn Fence.wide n P Q { a with defers := { target := .collected w.heap.size, args := #[] } :: a.defers } W) :
    (Code.rangeFunc g ps assign body).wpIn Fence.wide n P Q a w := by
  refine wpIn_rangeFunc ?_
  intro fn hfn
  show ∃ (l : Nat) (mark : List Deferred) (w₁ : World) (d : Deferred) (w₁' : World) (f : FuncId) (args : Array Value) (w₂ : World),
      (Instr.enterLoop fn a.tmps ps assign body none).run P w = .ok (l, mark) w₁ ∧ _
  obtain ⟨rc, hrc⟩ : ∃ rc : LoopState → Option Code → Loop, rc = fun st pe => { state := st, pending := pe, fn, tmps := a.tmps, params := ps, assign, body, defers := w.heap.size } := ⟨_, rfl⟩
  obtain ⟨W1, hW1⟩ : ∃ W1, (w.alloc (.deferred (some []))).alloc (.loop (rc .ready none)) = W1 := ⟨_, rfl⟩
  have hs1 : W1.heap.size = w.heap.size + 2 := by rw [← hW1]; simp
  have hL1 : W1.heap[w.heap.size + 1]? = some (.loop (rc .ready none)) := by
    rw [← hW1]; have := World.alloc_heap_new (w.alloc (.deferred (some []))) (.loop (rc .ready none)); rwa [World.size_alloc] at this
  have hK1 : W1.heap[w.heap.size]? = some (.deferred (some [])) := by
    rw [← hW1]; exact (Below.heap_alloc _ _ _ (by simp)).trans (World.alloc_heap_new w _)
  have hI1 : I [] W1 := by rw [← hW1]; exact hI _ _ _ (hI _ _ _ h0 (Turns.alloc _ _ _)) (Turns.alloc _ _ _)
  have hb1 : Below w.heap.size w W1 := by rw [← hW1]; exact ((Below.refl _ w).alloc (Nat.le_refl _) _).alloc (by simp) _
  have tw : ∀ k, Its O W1.heap.size m k → T k := fun k hk => (hT k).2 (by
    rcases hk with hk | ⟨h1, h2⟩
    · exact Or.inl hk
    · exact Or.inr ⟨by omega, by omega⟩)
  have t0 : T w.heap.size := (hT _).2 (Or.inr ⟨Nat.le_refl _, by omega⟩)
  have t1 : T (w.heap.size + 1) := (hT _).2 (Or.inr ⟨by omega, by omega⟩)
  have n0 : ¬ Its O W1.heap.size m w.heap.size := by
    rintro (h | ⟨h, _⟩)
    · have := hO _ h; omega
    · omega
  have n1 : ¬ Its O W1.heap.size m (w.heap.size + 1) := by
    rintro (h | ⟨h, _⟩)
    · have := hO _ h; omega
    · omega
  refine ⟨w.heap.size + 1, [{ target := .collected w.heap.size, args := #[] }], W1, { target := .fn (.func gf) lb, args := #[.func (.yield (w.heap.size + 1)) #[] #[]] }, W1, gf,
    #[.func (.yield (w.heap.size + 1)) #[] #[]] ++ lb, W1, ?_, ?_, ?_, ?_, fun h => by simp [Fence.wide] at h, ?_⟩
  · rw [← hW1, hrc]; exact run_enterLoop_outer _ _ _ _ _
  · simp only [resolve, hg]
    simp [go_sem]
  · intro f' _; trivial
  · simp [invoke, go_sem, eg]
  · refine callsIn_wide.2 ((hseq (w.heap.size + 1)
      (fun pre W => I pre W ∧ W.heap[w.heap.size + 1]? = some (.loop (rc .ready none)) ∧ W.heap[w.heap.size]? = some (.deferred (some [])))
      (fun pre W => ∃ c, Ix c pre W ∧ W.heap[w.heap.size + 1]? = some (.loop (rc .done (some c))) ∧ W.heap[w.heap.size]? = some (.deferred (some [])))
      W1 hb1
      (fun s A B h ht => ⟨hI s A B h.1 (ht.wider tw), ht.keeps h.2.1 n1, ht.keeps h.2.2 n0⟩)
      (fun s A B h ht => by
        obtain ⟨c, hc, hl, hk⟩ := h
        exact ⟨c, hIx c s A B hc (ht.wider tw), ht.keeps hl n1, ht.keeps hk n0⟩)
      ?_ ⟨hI1, hL1, hK1⟩).mono ?_)
    · rintro pre x W ⟨hi, hl, hk⟩ hsz hpre
      have hlt : w.heap.size + 1 < W.heap.size := (Array.getElem?_eq_some_iff.1 hl).1
      have hy := run_yield (P := P) (args := #[enc x]) hl (by rw [hrc]; exact hps.symm)
      rw [hrc] at hy
      refine ⟨fn, _, assign, body, hy, roundIn_of_wpIn trivial (hassign _ x W _ ⟨_, run_beginRound hl (by rw [hrc]), ?_⟩)⟩
      have hl2 : (W.putObj (w.heap.size + 1) (.loop { rc .ready none with state := .busy })).heap[w.heap.size + 1]? = some (.loop { rc .ready none with state := .busy }) := World.putObj_heap_same hlt
      have hk2 : (W.putObj (w.heap.size + 1) (.loop { rc .ready none with state := .busy })).heap[w.heap.size]? = some (.deferred (some [])) := (World.putObj_heap_other (by omega)).trans hk
      have hw2 : Turns (fun k => ¬ Its O W1.heap.size m k) W (W.putObj (w.heap.size + 1) (.loop { rc .ready none with state := .busy })) := Turns.putObj _ n1
      refine wpIn_mono (hbody _ pre x _ (hI _ _ _ hi (Turns.putObj _ t1)) (by simp; omega) hpre) ?_
      have fin : ∀ (jump : Option Code) (W3 : World), Turns (fun k => ¬ T k) (W.putObj (w.heap.size + 1) (.loop { rc .ready none with state := .busy })) W3 →
          (Instr.endRound (w.heap.size + 1) jump).run P W3 = .ok (.bool jump.isNone) (W3.putObj (w.heap.size + 1) (.loop (rc (if jump.isNone then .ready else .done) jump))) ∧
          (W3.putObj (w.heap.size + 1) (.loop (rc (if jump.isNone then .ready else .done) jump))).heap[w.heap.size + 1]? = some (.loop (rc (if jump.isNone then .ready else .done) jump)) ∧
          (W3.putObj (w.heap.size + 1) (.loop (rc (if jump.isNone then .ready else .done) jump))).heap[w.heap.size]? = some (.deferred (some [])) := fun jump W3 hk3 => by
        have hl3 := hk3.keeps hl2 (fun h => h t1)
        have hr := run_endRound (P := P) jump hl3
        rw [hrc] at hr ⊢
        exact ⟨hr, World.putObj_heap_same (Array.getElem?_eq_some_iff.1 hl3).1, (World.putObj_heap_other (by omega)).trans (hk3.keeps hk2 (fun h => h t0))⟩
      rintro e a3 W3 hp
      cases e with
      | normal =>
        obtain ⟨hk3, hi3⟩ := hp
        obtain ⟨hr, hl4, hk4⟩ := fin none W3 hk3
        exact ⟨_, _, hr, .inl ⟨rfl, ⟨hI _ _ _ hi3 (Turns.putObj _ t1), hl4, hk4⟩, (hw2.trans (hk3.wider fun k h h2 => h (tw k h2))).trans (Turns.putObj _ n1)⟩⟩
      | ret =>
        obtain ⟨hk3, hi3⟩ := hp
        obtain ⟨hr, hl4, hk4⟩ := fin (some .ret) W3 hk3
        exact ⟨_, _, hr, .inr ⟨rfl, ⟨.ret, hIx _ _ _ _ hi3 (Turns.putObj _ t1), hl4, hk4⟩, (hw2.trans (hk3.wider fun k h h2 => h (tw k h2))).trans (Turns.putObj _ n1)⟩⟩
      | exit id =>
        obtain ⟨hk3, hi3⟩ := hp
        obtain ⟨hr, hl4, hk4⟩ := fin (some (.exit id)) W3 hk3
        exact ⟨_, _, hr, .inr ⟨rfl, ⟨.exit id, hIx _ _ _ _ hi3 (Turns.putObj _ t1), hl4, hk4⟩, (hw2.trans (hk3.wider fun k h h2 => h (tw k h2))).trans (Turns.putObj _ n1)⟩⟩
      | goto t =>
        obtain ⟨hk3, hi3⟩ := hp
        obtain ⟨hr, hl4, hk4⟩ := fin (some (.goto t)) W3 hk3
        exact ⟨_, _, hr, .inr ⟨rfl, ⟨.goto t, hIx _ _ _ _ hi3 (Turns.putObj _ t1), hl4, hk4⟩, (hw2.trans (hk3.wider fun k h h2 => h (tw k h2))).trans (Turns.putObj _ n1)⟩⟩
      | panic ch => exact hp.elim
      | outgrown => exact hp.elim
    · rintro e W2 ⟨⟨v, rfl⟩, (⟨hi, hl, hk⟩ | ⟨pre, hpre, c, hi, hl, hk⟩)⟩
      · exact ⟨none, _, by have := run_endLoop (P := P) hl (by rw [hrc]; simp); rw [hrc] at this; exact this, hdone _ (hI _ _ _ hi (Turns.putObj _ t1)) ((World.putObj_heap_other (by omega)).trans hk)⟩
      · exact ⟨some c, _, by have := run_endLoop (P := P) hl (by rw [hrc]; simp); rw [hrc] at this; exact this, hstop c pre _ hpre (hIx c _ _ _ hi (Turns.putObj _ t1)) ((World.putObj_heap_other (by omega)).trans hk)⟩
end Go.Proofs.YthplnkchmelbmaaDoor.Range
