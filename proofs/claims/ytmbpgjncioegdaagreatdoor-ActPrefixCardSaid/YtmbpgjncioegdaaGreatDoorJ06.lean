/-
  Texts joined, in build order, each with its own comment and its own conditions: W07New, Range, W07Abs, W04Math, W08Math, W07Whole, W08Real.
-/
import Derived.Test.YtmbpgjncioegdaaGreatDoorJ05
import Derived.RangeFuncNested
import Derived.RangeFuncCalls
import Derived.Lib.Hide
import Derived.Deep.Draws
import Derived.Test.YtmbpgjncioegdaaGreatDoorJ01
import Derived.Test.YtmbpgjncioegdaaGreatDoorJ02
/-
  Layer 7 (tree), a walk: the plain answer's New: a tree with Root alone, in new memory; nothing that was there is changed.
-/
namespace Go.Proofs.YtmbpgjncioegdaaGreatDoor.W07
set_option maxRecDepth 100000
open Go Go.RowKit Go.Proofs.YtmbpgjncioegdaaGreatDoor.Strs Go.Proofs.YtmbpgjncioegdaaGreatDoor.Recs Go.Proofs.YtmbpgjncioegdaaGreatDoor.M07
open Go.Proofs.YtmbpgjncioegdaaGreatDoor.Kit (ret_str ret_bool ret_int mk_of mk_bytes ba_ext below_draws on)

/-- what a call returns that hands out a tree -/
def TreeNew (w : World) (t : Tr) (e : Ending) (w' : World) : Prop := ∃ u, e = .returned (.agg #[u, .int .i64 t.last]) ∧ Nodes w'.heap.size w' u t.L ∧ Below w.heap.size w w' ∧ ∃ g n c, u = .slice (some ⟨g, 0, none⟩) n c ∧ w.heap.size ≤ g
set_option maxHeartbeats 1000000 in
theorem refNew_any (w : World) : Calls Tryz.prog 25 #[] w (TreeNew w new) := by
  have HN : Hid (∀ W : World, Nodes (W.alloc (.cells #[.int .i64 1, .int .i64 1, .string ⟨#[]⟩, .int .i64 1, .string ⟨#[]⟩] 69)).heap.size (W.alloc (.cells #[.int .i64 1, .int .i64 1, .string ⟨#[]⟩, .int .i64 1, .string ⟨#[]⟩] 69)) (.slice (some ⟨W.heap.size, 0, none⟩) 1 1) new.L) := by
    show ∀ W : World, _
    intro W
    refine Recs.of_own nodeC_len rfl (base := W.heap.size) (e := 69) (n := 1) ⟨rfl, Or.inr ⟨W.heap.size, 1, #[.int .i64 1, .int .i64 1, .string ⟨#[]⟩, .int .i64 1, .string ⟨#[]⟩], rfl, Nat.le_refl _, heap_top _ _, Nat.le_refl _, by decide, rfl, rfl⟩⟩
  go_enter Tryz.func25, Tryz.ntmps25
  go_wp2_with fail
  refine bodyPost_ret_by (v := .agg #[.slice (some ⟨w.heap.size + 1, 0, none⟩) 1 1, .int .i64 1]) ?_ rfl ⟨_, rfl, ?_, below_two w _ _, _, _, _, rfl, by omega⟩
  · rw [results_cell_one rfl]
    go_simp
  · have h := HN.out (w.alloc (.cells #[.slice (some ⟨w.heap.size + 1, 0, none⟩) 1 1, .int .i64 1] 30))
    simp only [World.alloc_size] at h ⊢
    exact h
end Go.Proofs.YtmbpgjncioegdaaGreatDoor.W07
/-
  A range over a function, at the wide fence: what an iterator promises its caller ('Seq': it hands out the texts of a list, in their order, and turns no blocks but its own), and what a caller owes at such a statement ('wp_range'). The border between the two is drawn by numbers of blocks: the iterator's own ones lie in a set that both know. For every program; no condition but those that each theorem bears.
-/
namespace Go.Proofs.YtmbpgjncioegdaaGreatDoor.Range
open Go Go.RowKit

/-- from A to B no block that A had has turned but those of T -/
structure Turns (T : Nat → Prop) (A B : World) : Prop where
  os : B.os = A.os
  tape : B.tape = A.tape
  output : B.output = A.output
  size : A.heap.size ≤ B.heap.size
  block : ∀ k, k < A.heap.size → ¬ T k → B.heap[k]? = A.heap[k]?
section
variable {T T' : Nat → Prop} {A B C : World}
theorem Turns.refl (T : Nat → Prop) (A : World) : Turns T A A := ⟨rfl, rfl, rfl, Nat.le_refl _, fun _ _ _ => rfl⟩
theorem Turns.trans (h : Turns T A B) (k : Turns T B C) : Turns T A C :=
  ⟨k.os.trans h.os, k.tape.trans h.tape, k.output.trans h.output, Nat.le_trans h.size k.size, fun i hi ht => (k.block i (Nat.lt_of_lt_of_le hi h.size) ht).trans (h.block i hi ht)⟩
theorem Turns.wider (h : Turns T A B) (hs : ∀ k, T k → T' k) : Turns T' A B := ⟨h.os, h.tape, h.output, h.size, fun i hi ht => h.block i hi (fun e => ht (hs i e))⟩
theorem Turns.of_grown {row : Option Nat} (h : A.grownBy B row) (hr : ∀ r, row = some r → T r) : Turns T A B :=
  ⟨h.os, h.tape, h.output, h.size, fun i hi ht => h.block i hi (fun e => ht (hr i e.symm))⟩
theorem Turns.of_below {n : Nat} (h : Below n A B) (hs : ∀ k, n ≤ k → k < A.heap.size → T k) : Turns T A B :=
  ⟨h.os, h.tape, h.output, h.size, fun i hi ht => h.block i (by
    rcases Nat.lt_or_ge i n with hlt | hge
    · exact hlt
    · exact absurd (hs i hge hi) ht)⟩
theorem Turns.new (h : Below A.heap.size A B) : Turns T A B := Turns.of_below h (fun k h1 h2 => absurd h1 (by omega))
theorem Turns.alloc (T : Nat → Prop) (A : World) (o : Obj) : Turns T A (A.alloc o) := Turns.of_grown (World.grownBy_alloc A o none) (fun r e => by cases e)
theorem Turns.putObj {r : Nat} (o : Obj) (h : T r) : Turns T A (A.putObj r o) := Turns.of_grown (grownBy_putObj' A r o) (fun k e => by cases e; exact h)
theorem grown_set (A : World) (a : Addr) (v : Value) : A.grownBy (A.setCell a v) (some a.block) :=
  ⟨rfl, rfl, rfl, (KeepsWalks.setCell A a v).size, fun k _ hk => Below.heap_setCell _ _ _ k (fun e => hk (by rw [e]))⟩
theorem Turns.setCell {a : Addr} (v : Value) (h : T a.block) : Turns T A (A.setCell a v) := Turns.of_grown (grown_set A a v) (fun k e => by cases e; exact h)
theorem Turns.draw (T : Nat → Prop) (A : World) (n : Nat) : Turns T A (A.drewN n) := ⟨rfl, rfl, rfl, Nat.le_refl _, fun _ _ _ => rfl⟩
theorem Turns.below {n : Nat} (h : Turns T A B) (hs : ∀ k, T k → n ≤ k) (hn : n ≤ A.heap.size) : Below n A B :=
  ⟨h.os, h.tape, h.output, h.size, fun i hi => h.block i (by omega) (fun e => by have := hs i e; omega)⟩
theorem Turns.keeps {k : Nat} {o : Obj} (h : Turns T A B) (hk : A.heap[k]? = some o) (ht : ¬ T k) : B.heap[k]? = some o :=
  (h.block k (Array.getElem?_eq_some_iff.1 hk).1 ht).trans hk
theorem Turns.cell {a : Addr} {v : Value} (h : Turns T A B) (hc : A.cell? a = some v) (ht : ¬ T a.block) : B.cell? a = some v :=
  (World.cell?_of_block (h.block _ (World.block_lt_of_cell? A a hc) ht)).trans hc
theorem Turns.frozen {a : Addr} {v : Value} (h : Turns T A B) (hc : A.cell? a = some v) (ht : ¬ T a.block) : B.frozen? a = A.frozen? a :=
  World.frozen?_of_block (h.block _ (World.block_lt_of_cell? A a hc) ht)
theorem Turns.row {base : Nat} {e : TypeId} {size n : Nat} {v : Value} {xs : List Value} (h : Turns T A B) (hr : A.ownsRow base e size v n xs) (ht : ∀ k, base ≤ k → ¬ T k) : B.ownsRow base e size v n xs := by
  refine ⟨hr.1, ?_⟩
  rcases hr.2 with h0 | ⟨g, cap, cur, e1, hb, hh, rest⟩
  · exact Or.inl h0
  · exact Or.inr ⟨g, cap, cur, e1, hb, h.keeps hh (ht g hb), rest⟩
theorem Turns.row_at {base g n cap : Nat} {e : TypeId} {size m : Nat} {xs : List Value} (h : Turns T A B) (hr : A.ownsRow base e size (.slice (some ⟨g, 0, none⟩) n cap) m xs) (ht : ¬ T g) : B.ownsRow base e size (.slice (some ⟨g, 0, none⟩) n cap) m xs := by
  refine ⟨hr.1, ?_⟩
  rcases hr.2 with ⟨h0, _⟩ | ⟨g', cap', cur, e1, hb, hh, rest⟩
  · cases h0
  · cases e1
    exact Or.inr ⟨g, cap, cur, rfl, hb, h.keeps hh ht, rest⟩
end
/-- the blocks of an iterator: those of O, and the m that it lays at its start -/
def Its (O : Nat → Prop) (n m : Nat) (k : Nat) : Prop := O k ∨ (n ≤ k ∧ k < n + m)

/-- a call of yield: it asks for a round, and what the round comes to -/
def Yields (P : Program) (l : Nat) (v : Value) (W : World) (R : Ending → World → Prop) : Prop :=
  ∃ fn tmps assign body, (Instr.yield l #[v]).run P W = .ok (.round l fn tmps assign body) W ∧ RoundIn Fence.wide 9 P l fn tmps assign body W R
theorem round_wide {P : Program} {l f : Nat} {tmps : Array Value} {assign body : Code} {w : World} {R : Ending → World → Prop} {n : Nat} (m : Nat) (h : RoundIn Fence.wide n P l f tmps assign body w R) : RoundIn Fence.wide m P l f tmps assign body w R :=
  ⟨trivial, fun c cs _ => h.2 c cs (room_wide _)⟩
theorem round_in {P : Program} {l f : Nat} {tmps : Array Value} {assign body : Code} {w : World} {R : Ending → World → Prop} {n : Nat} (l' m : Nat) (h : RoundIn Fence.wide n P l f tmps assign body w R) : RoundIn (Fence.wide.inRound l') m P l f tmps assign body w R :=
  ⟨trivial, fun c cs _ => h.2 c cs (room_wide _)⟩

/-- WHAT AN ITERATOR PROMISES: called with yield, it hands out the elements of xs in their order, till all have come or a round has said 'no more'; it turns none but its own blocks, and a round turns none of these. -/
def Seq {α : Type} (P : Program) (g : Nat) (lb : Array Value) (enc : α → Value) (O : Nat → Prop) (m : Nat) (xs : List α) (w0 : World) : Prop :=
  ∀ (l : Nat) (J Jx : List α → World → Prop) (W : World), Below w0.heap.size w0 W →
    (∀ s A B, J s A → Turns (Its O W.heap.size m) A B → J s B) → (∀ s A B, Jx s A → Turns (Its O W.heap.size m) A B → Jx s B) →
    (∀ pre x W1, J pre W1 → W.heap.size + m ≤ W1.heap.size → pre ++ [x] <+: xs → Yields P l (enc x) W1 fun e W' =>
      (e = .returned (.bool true) ∧ J (pre ++ [x]) W' ∧ Turns (fun k => ¬ Its O W.heap.size m k) W1 W') ∨ (e = .returned (.bool false) ∧ Jx (pre ++ [x]) W' ∧ Turns (fun k => ¬ Its O W.heap.size m k) W1 W')) →
    J [] W →
    Calls P g (#[.func (.yield l) #[] #[]] ++ lb) W fun e W' => (∃ v, e = .returned v) ∧ (J xs W' ∨ ∃ pre, pre <+: xs ∧ Jx pre W')

/-- how a round may be left -/
def roundEnd {α : Type} (T : Nat → Prop) (I : List α → World → Prop) (Ix : Code → List α → World → Prop) (xs : List α) (W : World) : Exit → Act → World → Prop
  | .normal, _, W' => Turns (fun k => ¬ T k) W W' ∧ I xs W'
  | .ret, _, W' => Turns (fun k => ¬ T k) W W' ∧ Ix .ret xs W'
  | .exit id, _, W' => Turns (fun k => ¬ T k) W W' ∧ Ix (.exit id) xs W'
  | .goto t, _, W' => Turns (fun k => ¬ T k) W W' ∧ Ix (.goto t) xs W'
  | .panic _, _, _ => False
  | .outgrown, _, _ => False

/-- WHAT A CALLER OWES AT 'for x := range g': an invariant that does not mind what the iterator and the statement turn, and one walk of the body. -/
theorem wp_range {α : Type} {P : Program} {n : Nat} {g : Operand} {ps : Array Tmp} {assign body : Code} {Q : Exit → Act → World → Prop} {a : Act} {w : World}
    {gf : Nat} {lb : Array Value} (hg : a.eval g = .func (.func gf) #[] lb) (eg : ∀ args w, (callFunc gf args).run P w = .ok (.enter gf args) w)
    {enc : α → Value} {O : Nat → Prop} {m : Nat} {xs : List α} (hseq : Seq P gf lb enc O m xs w) (hO : ∀ k, O k → k < w.heap.size) (hps : ps.size = 1)
    (T : Nat → Prop) (hT : ∀ k, T k ↔ Its O w.heap.size (m + 2) k)
    (I : List α → World → Prop) (Ix : Code → List α → World → Prop) (hI : ∀ s A B, I s A → Turns T A B → I s B) (hIx : ∀ c s A B, Ix c s A → Turns T A B → Ix c s B) (h0 : I [] w) (a₁ : α → Act)
    (hassign : ∀ (l : Nat) (x : α) (W : World) (K : Act → World → Prop), K (a₁ x) W →
      assign.wpIn (Fence.wide.inRound l) 9 P (Exit.then K (fun _ _ _ => False)) { tmps := (ps.zip #[enc x]).foldl (fun t (p, v) => t.setIfInBounds p v) a.tmps, defers := [] } W)
    (hbody : ∀ (l : Nat) (pre : List α) (x : α) (W : World), I pre W → w.heap.size + m + 2 ≤ W.heap.size → pre ++ [x] <+: xs → body.wpIn (Fence.wide.inRound l) 9 P (roundEnd T I Ix (pre ++ [x]) W) (a₁ x) W)
    (hdone : ∀ (W : World), I xs W → W.heap[w.heap.size]? = some (.deferred (some [])) → Q .normal { a with defers := { target := .collected w.heap.size, args := #[] } :: a.defers } W)
    (hstop : ∀ (c : Code) (pre : List α) (W : World), pre <+: xs → Ix c pre W → W.heap[w.heap.size]? = some (.deferred (some [])) → c.wpIn Fence.wide n P Q { a with defers := { target := .collected w.heap.size, args := #[] } :: a.defers } W) :
    (Code.rangeFunc g ps assign body).wpIn Fence.wide n P Q a w := by
  refine wpIn_rangeFunc ?_
  intro fn hfn
  show ∃ (l : Nat) (mark : List Deferred) (w₁ : World) (d : Deferred) (w₁' : World) (f : FuncId) (args : Array Value) (w₂ : World),
      (Instr.enterLoop fn a.tmps ps assign body none).run P w = .ok (l, mark) w₁ ∧ _
  obtain ⟨rc, hrc⟩ : ∃ rc : LoopState → Option Code → Loop, rc = fun st pe => { state := st, pending := pe, fn, tmps := a.tmps, params := ps, assign, body, defers := w.heap.size } := ⟨_, rfl⟩
  obtain ⟨W1, hW1⟩ : ∃ W1, (w.alloc (.deferred (some []))).alloc (.loop (rc .ready none)) = W1 := ⟨_, rfl⟩
  have hs1 : W1.heap.size = w.heap.size + 2 := by rw [← hW1]; simp
  have hL1 : W1.heap[w.heap.size + 1]? = some (.loop (rc .ready none)) := by
    rw [← hW1]; have := World.alloc_heap_new (w.alloc (.deferred (some []))) (.loop (rc .ready none)); rwa [World.size_alloc] at this
  have hK1 : W1.heap[w.heap.size]? = some (.deferred (some [])) := by
    rw [← hW1]; exact (Below.heap_alloc _ _ _ (by simp)).trans (World.alloc_heap_new w _)
  have hI1 : I [] W1 := by rw [← hW1]; exact hI _ _ _ (hI _ _ _ h0 (Turns.alloc _ _ _)) (Turns.alloc _ _ _)
  have hb1 : Below w.heap.size w W1 := by rw [← hW1]; exact ((Below.refl _ w).alloc (Nat.le_refl _) _).alloc (by simp) _
  have tw : ∀ k, Its O W1.heap.size m k → T k := fun k hk => (hT k).2 (by
    rcases hk with hk | ⟨h1, h2⟩
    · exact Or.inl hk
    · exact Or.inr ⟨by omega, by omega⟩)
  have t0 : T w.heap.size := (hT _).2 (Or.inr ⟨Nat.le_refl _, by omega⟩)
  have t1 : T (w.heap.size + 1) := (hT _).2 (Or.inr ⟨by omega, by omega⟩)
  have n0 : ¬ Its O W1.heap.size m w.heap.size := by
    rintro (h | ⟨h, _⟩)
    · have := hO _ h; omega
    · omega
  have n1 : ¬ Its O W1.heap.size m (w.heap.size + 1) := by
    rintro (h | ⟨h, _⟩)
    · have := hO _ h; omega
    · omega
  refine ⟨w.heap.size + 1, [{ target := .collected w.heap.size, args := #[] }], W1, { target := .fn (.func gf) lb, args := #[.func (.yield (w.heap.size + 1)) #[] #[]] }, W1, gf,
    #[.func (.yield (w.heap.size + 1)) #[] #[]] ++ lb, W1, ?_, ?_, ?_, ?_, fun h => by simp [Fence.wide] at h, ?_⟩
  · rw [← hW1, hrc]; exact run_enterLoop_outer _ _ _ _ _
  · simp only [resolve, hg]
    simp [go_sem]
  · intro f' _; trivial
  · simp [invoke, go_sem, eg]
  · refine callsIn_wide.2 ((hseq (w.heap.size + 1)
      (fun pre W => I pre W ∧ W.heap[w.heap.size + 1]? = some (.loop (rc .ready none)) ∧ W.heap[w.heap.size]? = some (.deferred (some [])))
      (fun pre W => ∃ c, Ix c pre W ∧ W.heap[w.heap.size + 1]? = some (.loop (rc .done (some c))) ∧ W.heap[w.heap.size]? = some (.deferred (some [])))
      W1 hb1
      (fun s A B h ht => ⟨hI s A B h.1 (ht.wider tw), ht.keeps h.2.1 n1, ht.keeps h.2.2 n0⟩)
      (fun s A B h ht => by
        obtain ⟨c, hc, hl, hk⟩ := h
        exact ⟨c, hIx c s A B hc (ht.wider tw), ht.keeps hl n1, ht.keeps hk n0⟩)
      ?_ ⟨hI1, hL1, hK1⟩).mono ?_)
    · rintro pre x W ⟨hi, hl, hk⟩ hsz hpre
      have hlt : w.heap.size + 1 < W.heap.size := (Array.getElem?_eq_some_iff.1 hl).1
      have hy := run_yield (P := P) (args := #[enc x]) hl (by rw [hrc]; exact hps.symm)
      rw [hrc] at hy
      refine ⟨fn, _, assign, body, hy, roundIn_of_wpIn trivial (hassign _ x W _ ⟨_, run_beginRound hl (by rw [hrc]), ?_⟩)⟩
      have hl2 : (W.putObj (w.heap.size + 1) (.loop { rc .ready none with state := .busy })).heap[w.heap.size + 1]? = some (.loop { rc .ready none with state := .busy }) := World.putObj_heap_same hlt
      have hk2 : (W.putObj (w.heap.size + 1) (.loop { rc .ready none with state := .busy })).heap[w.heap.size]? = some (.deferred (some [])) := (World.putObj_heap_other (by omega)).trans hk
      have hw2 : Turns (fun k => ¬ Its O W1.heap.size m k) W (W.putObj (w.heap.size + 1) (.loop { rc .ready none with state := .busy })) := Turns.putObj _ n1
      refine wpIn_mono (hbody _ pre x _ (hI _ _ _ hi (Turns.putObj _ t1)) (by simp; omega) hpre) ?_
      have fin : ∀ (jump : Option Code) (W3 : World), Turns (fun k => ¬ T k) (W.putObj (w.heap.size + 1) (.loop { rc .ready none with state := .busy })) W3 →
          (Instr.endRound (w.heap.size + 1) jump).run P W3 = .ok (.bool jump.isNone) (W3.putObj (w.heap.size + 1) (.loop (rc (if jump.isNone then .ready else .done) jump))) ∧
          (W3.putObj (w.heap.size + 1) (.loop (rc (if jump.isNone then .ready else .done) jump))).heap[w.heap.size + 1]? = some (.loop (rc (if jump.isNone then .ready else .done) jump)) ∧
          (W3.putObj (w.heap.size + 1) (.loop (rc (if jump.isNone then .ready else .done) jump))).heap[w.heap.size]? = some (.deferred (some [])) := fun jump W3 hk3 => by
        have hl3 := hk3.keeps hl2 (fun h => h t1)
        have hr := run_endRound (P := P) jump hl3
        rw [hrc] at hr ⊢
        exact ⟨hr, World.putObj_heap_same (Array.getElem?_eq_some_iff.1 hl3).1, (World.putObj_heap_other (by omega)).trans (hk3.keeps hk2 (fun h => h t0))⟩
      rintro e a3 W3 hp
      cases e with
      | normal =>
        obtain ⟨hk3, hi3⟩ := hp
        obtain ⟨hr, hl4, hk4⟩ := fin none W3 hk3
        exact ⟨_, _, hr, .inl ⟨rfl, ⟨hI _ _ _ hi3 (Turns.putObj _ t1), hl4, hk4⟩, (hw2.trans (hk3.wider fun k h h2 => h (tw k h2))).trans (Turns.putObj _ n1)⟩⟩
      | ret =>
        obtain ⟨hk3, hi3⟩ := hp
        obtain ⟨hr, hl4, hk4⟩ := fin (some .ret) W3 hk3
        exact ⟨_, _, hr, .inr ⟨rfl, ⟨.ret, hIx _ _ _ _ hi3 (Turns.putObj _ t1), hl4, hk4⟩, (hw2.trans (hk3.wider fun k h h2 => h (tw k h2))).trans (Turns.putObj _ n1)⟩⟩
      | exit id =>
        obtain ⟨hk3, hi3⟩ := hp
        obtain ⟨hr, hl4, hk4⟩ := fin (some (.exit id)) W3 hk3
        exact ⟨_, _, hr, .inr ⟨rfl, ⟨.exit id, hIx _ _ _ _ hi3 (Turns.putObj _ t1), hl4, hk4⟩, (hw2.trans (hk3.wider fun k h h2 => h (tw k h2))).trans (Turns.putObj _ n1)⟩⟩
      | goto t =>
        obtain ⟨hk3, hi3⟩ := hp
        obtain ⟨hr, hl4, hk4⟩ := fin (some (.goto t)) W3 hk3
        exact ⟨_, _, hr, .inr ⟨rfl, ⟨.goto t, hIx _ _ _ _ hi3 (Turns.putObj _ t1), hl4, hk4⟩, (hw2.trans (hk3.wider fun k h h2 => h (tw k h2))).trans (Turns.putObj _ n1)⟩⟩
      | panic ch => exact hp.elim
      | outgrown => exact hp.elim
    · rintro e W2 ⟨⟨v, rfl⟩, (⟨hi, hl, hk⟩ | ⟨pre, hpre, c, hi, hl, hk⟩)⟩
      · exact ⟨none, _, by have := run_endLoop (P := P) hl (by rw [hrc]; simp); rw [hrc] at this; exact this, hdone _ (hI _ _ _ hi (Turns.putObj _ t1)) ((World.putObj_heap_other (by omega)).trans hk)⟩
      · exact ⟨some c, _, by have := run_endLoop (P := P) hl (by rw [hrc]; simp); rw [hrc] at this; exact this, hstop c pre _ hpre (hIx c _ _ _ hi (Turns.putObj _ t1)) ((World.putObj_heap_other (by omega)).trans hk)⟩
end Go.Proofs.YtmbpgjncioegdaaGreatDoor.Range
/-
  Layer 7 (tree): what the laws ask of the program's calls, as one structure of contracts over any reading of a tree ('Trees'); and the laws' acts as records. No condition but those that each theorem bears.
-/
namespace Go.Proofs.YtmbpgjncioegdaaGreatDoor.W07
open Go Go.RowKit Go.Proofs.YtmbpgjncioegdaaGreatDoor.Strs Go.Proofs.YtmbpgjncioegdaaGreatDoor.Recs Go.Proofs.YtmbpgjncioegdaaGreatDoor.M07 Go.Proofs.YtmbpgjncioegdaaGreatDoor.Range
open Go.Proofs.YtmbpgjncioegdaaGreatDoor.M06 (Ent)
open Go.Proofs.YtmbpgjncioegdaaGreatDoor.W06 (Ents HandsE)
open Go.Proofs.YtmbpgjncioegdaaGreatDoor.Kit (ret_str ret_bool ret_int mk_of mk_bytes ba_ext below_draws on)

def Small (t : Tr) : Prop := t.L.length ≤ 1048576 ∧ t.last ≤ 1048576
/-- behind a call that may have written the tree of the blocks F: it reads as t', in blocks of F and new ones; no other block has turned -/
def Wrote (Rep : (Nat → Prop) → World → Value → Tr → Prop) (F : Nat → Prop) (v : Value) (t' : Tr) (w w' : World) : Prop := ∃ F', Rep F' w' v t' ∧ Turns F w w' ∧ ∀ k, F' k → F k ∨ w.heap.size ≤ k
/-- what a directory's List tells -/
def listed (t : Tr) (n : Int) : List Ent := if (nodeAt t.L n).kind = 1 then listDir t.L n else []
/-- entries are handed out that lie in the tree's blocks, or in new ones -/
def HandsIn (F : Nat → Prop) (w : World) (L : List Ent) (e : Ending) (w' : World) : Prop := ∃ v, e = .returned v ∧ Ents w'.heap.size w' v L ∧ (∀ b o n c, v = .slice (some ⟨b, o, none⟩) n c → F b ∨ w.heap.size ≤ b) ∧ Below w.heap.size w w'
/-- the contracts of the program's calls: Rep F w v t: in w the pointer v leads to a tree that reads as t and lies in the blocks of F -/
structure Trees (Rep : (Nat → Prop) → World → Value → Tr → Prop) : Prop where
  keep : ∀ {F w w' v t}, Rep F w v t → (∀ k, F k → w'.heap[k]? = w.heap[k]?) → w.heap.size ≤ w'.heap.size → Rep F w' v t
  low : ∀ {F w v t}, Rep F w v t → ∀ k, F k → k < w.heap.size
  right : ∀ {F w v t}, Rep F w v t → Right t
  new : ∀ w, Calls Tryz.prog 24 #[] w fun e w' => ∃ v F, e = .returned v ∧ Rep F w' v M07.new ∧ (∀ k, F k → w.heap.size ≤ k) ∧ Below w.heap.size w w'
  kind : ∀ {F w v t}, Rep F w v t → Small t → ∀ n : Int, Calls Tryz.prog 35 #[v, .int .i64 n] w fun e w' => e = .returned (.int .i64 (nodeAt t.L n).kind) ∧ Below w.heap.size w w'
  data : ∀ {F w v t}, Rep F w v t → Small t → ∀ n : Int, Calls Tryz.prog 36 #[v, .int .i64 n] w fun e w' => e = .returned (.string ⟨(nodeAt t.L n).data.toArray⟩) ∧ Below w.heap.size w w'
  up : ∀ {F w v t}, Rep F w v t → Small t → ∀ n : Int, Calls Tryz.prog 37 #[v, .int .i64 n] w fun e w' => e = .returned (.int .i64 (nodeAt t.L n).up) ∧ Below w.heap.size w w'
  len : ∀ {F w v t}, Rep F w v t → Small t → Calls Tryz.prog 33 #[v] w fun e w' => e = .returned (.int .i64 t.L.length) ∧ Below w.heap.size w w'
  lists : ∀ {F w v t}, Rep F w v t → Small t → ∀ n : Int, Calls Tryz.prog 40 #[v, .int .i64 n] w (HandsIn F w (listed t n))
  put : ∀ {F w v t}, Rep F w v t → Small t → ∀ (d : Int) (s : ByteArray) (kind : Int) (x : ByteArray), x.size ≤ maxLen → Calls Tryz.prog 26 #[v, .int .i64 d, .string s, .int .i64 kind, .string x] w fun e w' => e = .returned (.tuple #[.int .i64 (put t d s.data.toList kind x.data.toList).2.1, .int .i64 (put t d s.data.toList kind x.data.toList).2.2]) ∧ Wrote Rep F v (put t d s.data.toList kind x.data.toList).1 w w'
  set : ∀ {F w v t}, Rep F w v t → Small t → ∀ (n : Int) (x : ByteArray), x.size ≤ maxLen → Calls Tryz.prog 118 #[v, .int .i64 n, .string x] w fun e w' => e = .returned (.int .i64 (set t n x.data.toList).2) ∧ Wrote Rep F v (set t n x.data.toList).1 w w'
  cut : ∀ {F w v t}, Rep F w v t → Small t → ∀ (d : Int) (s : ByteArray), Calls Tryz.prog 125 #[v, .int .i64 d, .string s] w fun e w' => e = .returned (.int .i64 (cut t d s.data.toList).2) ∧ Wrote Rep F v (cut t d s.data.toList).1 w w'
  move : ∀ {F w v t}, Rep F w v t → Small t → ∀ (src : Int) (s : ByteArray) (dst : Int) (a : ByteArray), Calls Tryz.prog 116 #[v, .int .i64 src, .string s, .int .i64 dst, .string a] w fun e w' => e = .returned (.int .i64 (M07.move t src s.data.toList dst a.data.toList).2) ∧ Wrote Rep F v (M07.move t src s.data.toList dst a.data.toList).1 w w'
  copy : ∀ {F w v t}, Rep F w v t → Small t → Calls Tryz.prog 30 #[v] w fun e w' => ∃ v' F', e = .returned v' ∧ Rep F' w' v' t ∧ (∀ k, F' k → w.heap.size ≤ k) ∧ Below w.heap.size w w'
section
variable {Rep : (Nat → Prop) → World → Value → Tr → Prop} {F : Nat → Prop} {w w' : World} {v : Value} {t : Tr}
theorem Trees.list (C : Trees Rep) (h : Rep F w v t) (hs : Small t) (n : Int) : Calls Tryz.prog 40 #[v, .int .i64 n] w (HandsE w (listed t n)) :=
  (C.lists h hs n).mono fun _ _ ⟨u, he, hu, _, hb⟩ => ⟨u, he, hu, hb⟩
theorem Trees.below (C : Trees Rep) (h : Rep F w v t) (hb : Below w.heap.size w w') : Rep F w' v t := C.keep h (fun k hk => hb.block k (C.low h k hk)) hb.size
end

/-! acts -/
structure Ac where
  act : Int
  dir : Int
  to : Int
  name : Bytes
  alias : Bytes
  kind : Int
  data : Bytes
def actC (x : Ac) : List Value := [.int .i64 x.act, .int .i64 x.dir, .int .i64 x.to, strV x.name, strV x.alias, .int .i64 x.kind, strV x.data]
theorem actC_len (x : Ac) : (actC x).length = 7 := rfl
abbrev Acts (B : Nat) (w : World) (v : Value) (L : List Ac) : Prop := Recs actC 7 B w v L
theorem Acts.at_ {B : Nat} {w : World} {L : List Ac} {A : Option Addr} {n c : Nat} (h : Acts B w (.slice A n c) L) {k : Nat} (hk : k < n) : ∃ (b o : Nat) (hl : k < L.length), A = some ⟨b, o, none⟩ ∧ b < B ∧ w.cell? ⟨b, o + k * 7, none⟩ = some (.int .i64 (L[k]).act) ∧ w.cell? ⟨b, o + k * 7 + 1, none⟩ = some (.int .i64 (L[k]).dir) ∧ w.cell? ⟨b, o + k * 7 + 2, none⟩ = some (.int .i64 (L[k]).to) ∧ w.cell? ⟨b, o + k * 7 + 3, none⟩ = some (.string ⟨(L[k]).name.toArray⟩) ∧ w.cell? ⟨b, o + k * 7 + 4, none⟩ = some (.string ⟨(L[k]).alias.toArray⟩) ∧ w.cell? ⟨b, o + k * 7 + 5, none⟩ = some (.int .i64 (L[k]).kind) ∧ w.cell? ⟨b, o + k * 7 + 6, none⟩ = some (.string ⟨(L[k]).data.toArray⟩) := by
  obtain ⟨b, o, hl, rfl, hb, hc⟩ := Recs.flat_ h actC_len (by omega) hk
  exact ⟨b, o, hl, rfl, hb, hc 0 (by omega), hc 1 (by omega), hc 2 (by omega), hc 3 (by omega), hc 4 (by omega), hc 5 (by omega), hc 6 (by omega)⟩
end Go.Proofs.YtmbpgjncioegdaaGreatDoor.W07
/-
  Plain mathematics for layer 4 (path): a text's parts, clean paths, joined paths, what is above and below; lists of bytes alone. No condition but those that each theorem bears.
-/
namespace Go.Proofs.YtmbpgjncioegdaaGreatDoor.M04
open Go.Proofs.YtmbpgjncioegdaaGreatDoor.M03 (check)

abbrev Bytes := List UInt8
/-- a part that has ended: kept, unless it is empty or one point -/
def flush (now : Bytes) : List Bytes := if now = [] ∨ now = [46] then [] else [now]
def pgo : Bytes → Bytes → List Bytes
  | [], now => flush now
  | c :: r, now => if c = 47 then flush now ++ pgo r [] else pgo r (now ++ [c])
/-- a text's parts -/
def parts (l : Bytes) : List Bytes := pgo l []
/-- parts as a path -/
def text (L : List Bytes) : Bytes := if L = [] then [47] else L.flatMap (fun p => 47 :: p)
def cstep (out : List Bytes) (p : Bytes) : List Bytes := if p = [46, 46] then out.dropLast else out ++ [p]
def cparts (L : List Bytes) : List Bytes := L.foldl cstep []
def clean (l : Bytes) : Bytes := text (cparts (parts l))
def isPath (l : Bytes) : Bool := decide (l = text (parts l)) && decide (l.length ≤ 1024) && (parts l).all (fun p => decide (check p = 0))
def base (s : Bytes) : Bytes := (parts (clean s)).getLastD []
/-- parts with slashes between -/
def slashed : List Bytes → Bytes
  | [] => []
  | [p] => p
  | p :: q :: r => p ++ 47 :: slashed (q :: r)
def isUnder (s dir : Bytes) : Bool := decide (clean s = s) && decide (clean dir = dir) && (parts dir).isPrefixOf (parts s)
def under (s dir : Bytes) : Bytes × Bool := if isUnder s dir = true then (slashed ((parts s).drop (parts dir).length), true) else ([], false)

/-- what parts are: no slash, not empty, not one point -/
def Part (p : Bytes) : Prop := (47 : UInt8) ∉ p ∧ p ≠ [] ∧ p ≠ [46]
theorem flush_parts {now : Bytes} (h : (47 : UInt8) ∉ now) : ∀ p ∈ flush now, Part p := by
  intro p hp
  unfold flush at hp
  split at hp
  · simp at hp
  · rename_i h2
    simp only [List.mem_singleton] at hp
    subst hp
    exact ⟨h, fun e => h2 (Or.inl e), fun e => h2 (Or.inr e)⟩
theorem pgo_parts : ∀ (l now : Bytes), (47 : UInt8) ∉ now → ∀ p ∈ pgo l now, Part p
  | [], now, h => flush_parts h
  | c :: r, now, h => by
    intro p hp
    unfold pgo at hp
    split at hp
    · rcases List.mem_append.1 hp with h1 | h1
      · exact flush_parts h p h1
      · exact pgo_parts r [] (by simp) p h1
    · rename_i hc
      exact pgo_parts r _ (by
        intro e
        rcases List.mem_append.1 e with e | e
        · exact h e
        · exact hc (List.mem_singleton.1 e).symm) p hp
theorem parts_are (l : Bytes) : ∀ p ∈ parts l, Part p := pgo_parts l [] (by simp)
theorem flush_part {p : Bytes} (h : Part p) : flush p = [p] := by
  unfold flush; rw [if_neg]; rintro (e | e); exact h.2.1 e; exact h.2.2 e
theorem pgo_run : ∀ (p r now : Bytes), (47 : UInt8) ∉ p → pgo (p ++ r) now = pgo r (now ++ p)
  | [], r, now, _ => by simp
  | c :: p, r, now, h => by
    simp only [List.mem_cons, not_or] at h
    show pgo (c :: (p ++ r)) now = _
    rw [pgo, if_neg (fun e => h.1 e.symm), pgo_run p r (now ++ [c]) h.2, List.append_assoc]
    rfl
theorem pgo_slash (l : Bytes) (r now : Bytes) : pgo (l ++ 47 :: r) now = pgo l now ++ parts r := by
  induction l generalizing now with
  | nil => simp [pgo, parts]
  | cons c l ih =>
    show pgo (c :: (l ++ 47 :: r)) now = _
    rw [pgo, pgo]
    split
    · rw [ih, List.append_assoc]
    · rw [ih]
theorem parts_slash (l r : Bytes) : parts (l ++ 47 :: r) = parts l ++ parts r := pgo_slash l r []
theorem parts_one {p : Bytes} (h : Part p) : parts p = [p] := by
  have := pgo_run p [] [] h.1
  rw [List.append_nil] at this
  unfold parts; rw [this]
  show flush ([] ++ p) = _
  rw [List.nil_append, flush_part h]
theorem parts_nil : parts [] = [] := rfl
theorem parts_flat : ∀ (L : List Bytes), (∀ p ∈ L, Part p) → parts (L.flatMap (fun p => 47 :: p)) = L
  | [], _ => rfl
  | p :: L, h => by
    have ih := parts_flat L (fun q hq => h q (by simp [hq]))
    have hp := h p (by simp)
    show parts (47 :: p ++ L.flatMap (fun p => 47 :: p)) = _
    cases L with
    | nil =>
      show parts ([] ++ 47 :: (p ++ [])) = _
      rw [parts_slash, List.append_nil, parts_one hp]; rfl
    | cons q L =>
      have e : (47 :: p ++ (q :: L).flatMap (fun p => 47 :: p) : Bytes) = [] ++ 47 :: (p ++ 47 :: (q ++ L.flatMap (fun p => 47 :: p))) := by simp
      have e2 : ((q :: L).flatMap (fun p => 47 :: p) : Bytes) = [] ++ 47 :: (q ++ L.flatMap (fun p => 47 :: p)) := by simp
      rw [e2, parts_slash] at ih
      rw [e, parts_slash, parts_slash, parts_one hp]
      simp only [parts_nil, List.nil_append] at ih ⊢
      rw [ih]; rfl
theorem parts_text {L : List Bytes} (h : ∀ p ∈ L, Part p) : parts (text L) = L := by
  unfold text
  split
  · rename_i e; subst e; rfl
  · exact parts_flat L h
theorem cstep_part {out : List Bytes} {p : Bytes} (h : ∀ q ∈ out, Part q ∧ q ≠ [46, 46]) (hp : Part p) : ∀ q ∈ cstep out p, Part q ∧ q ≠ [46, 46] := by
  intro q hq
  unfold cstep at hq
  split at hq
  · exact h q (List.dropLast_subset _ hq)
  · rename_i hne
    rcases List.mem_append.1 hq with h1 | h1
    · exact h q h1
    · simp only [List.mem_singleton] at h1; subst h1; exact ⟨hp, hne⟩
theorem fold_part : ∀ (L out : List Bytes), (∀ q ∈ out, Part q ∧ q ≠ [46, 46]) → (∀ p ∈ L, Part p) → ∀ q ∈ L.foldl cstep out, Part q ∧ q ≠ [46, 46]
  | [], _, h, _ => h
  | p :: L, out, h, hL => fold_part L (cstep out p) (cstep_part h (hL p (by simp))) (fun q hq => hL q (by simp [hq]))
theorem cparts_are {L : List Bytes} (h : ∀ p ∈ L, Part p) : ∀ q ∈ cparts L, Part q ∧ q ≠ [46, 46] := fold_part L [] (by simp) h
theorem fold_plain : ∀ (L out : List Bytes), (∀ p ∈ L, p ≠ [46, 46]) → L.foldl cstep out = out ++ L
  | [], out, _ => by simp
  | p :: L, out, h => by
    rw [List.foldl_cons, fold_plain L _ (fun q hq => h q (by simp [hq]))]
    unfold cstep
    rw [if_neg (h p (by simp)), List.append_assoc]; rfl
theorem cparts_plain {L : List Bytes} (h : ∀ p ∈ L, p ≠ [46, 46]) : cparts L = L := by unfold cparts; rw [fold_plain L [] h, List.nil_append]
theorem cparts_append (A B : List Bytes) : cparts (A ++ B) = B.foldl cstep (cparts A) := by unfold cparts; rw [List.foldl_append]
/-! lengths -/
theorem flush_len (now : Bytes) : (flush now).length ≤ 1 := by unfold flush; split <;> simp
theorem pgo_len : ∀ (l now : Bytes), (pgo l now).length ≤ l.length + 1
  | [], now => by have := flush_len now; simpa [pgo] using this
  | c :: r, now => by
    unfold pgo
    split
    · have := pgo_len r []; have := flush_len now
      simp only [List.length_append, List.length_cons]; omega
    · have := pgo_len r (now ++ [c]); simp only [List.length_cons]; omega
theorem parts_count (l : Bytes) : (parts l).length ≤ l.length + 1 := pgo_len l []
def total (L : List Bytes) : Nat := (L.map (fun p => p.length + 1)).foldr (· + ·) 0
theorem total_cons (p : Bytes) (L : List Bytes) : total (p :: L) = p.length + 1 + total L := rfl
theorem total_append (A B : List Bytes) : total (A ++ B) = total A + total B := by
  induction A with
  | nil => simp [total]
  | cons a A ih => rw [List.cons_append, total_cons, total_cons, ih]; omega
theorem total_flush (now : Bytes) : total (flush now) ≤ now.length + 1 := by unfold flush; split <;> simp [total]
theorem pgo_total : ∀ (l now : Bytes), total (pgo l now) ≤ l.length + now.length + 1
  | [], now => by have := total_flush now; simpa [pgo] using this
  | c :: r, now => by
    unfold pgo
    split
    · have := pgo_total r []; have := total_flush now
      rw [total_append]; simp only [List.length_nil, List.length_cons] at *; omega
    · have := pgo_total r (now ++ [c]); simp only [List.length_append, List.length_cons, List.length_nil] at *; omega
theorem parts_total (l : Bytes) : total (parts l) ≤ l.length + 1 := pgo_total l []
theorem flat_total (L : List Bytes) : (L.flatMap (fun p => 47 :: p)).length = total L := by
  induction L with
  | nil => rfl
  | cons p L ih => rw [List.flatMap_cons, List.length_append, ih, total_cons]; simp
theorem total_dropLast (L : List Bytes) : total L.dropLast ≤ total L := by
  induction L with
  | nil => simp
  | cons p L ih =>
    cases L with
    | nil => simp [total]
    | cons q L => rw [List.dropLast_cons_cons, total_cons, total_cons]; omega
theorem fold_total : ∀ (L out : List Bytes), total (L.foldl cstep out) ≤ total out + total L
  | [], out => by simp [total]
  | p :: L, out => by
    have h := fold_total L (cstep out p)
    have h2 : total (cstep out p) ≤ total out + (p.length + 1) := by
      unfold cstep
      split
      · have := total_dropLast out; omega
      · rw [total_append]; simp [total]
    rw [List.foldl_cons, total_cons]; omega
end Go.Proofs.YtmbpgjncioegdaaGreatDoor.M04
/-
  Plain mathematics for layer 8 (seek), the plain answers: where parts lead from a node on, links being followed; lists alone. No condition but those that each theorem bears.
-/
namespace Go.Proofs.YtmbpgjncioegdaaGreatDoor.M08
open Go.Proofs.YtmbpgjncioegdaaGreatDoor.M07 hiding Bytes
open Go.Proofs.YtmbpgjncioegdaaGreatDoor.M04
open Go.Proofs.YtmbpgjncioegdaaGreatDoor.M03 (check)

/-- a tree's nodes have few bytes, and a link has some -/
def Fit (t : Tr) : Prop := ∀ a ∈ t.L, a.data.length ≤ 65536 ∧ (a.kind = 3 → a.data ≠ []) ∧ 1 ≤ a.kind ∧ a.kind ≤ 3
/-- from which node a link's text is gone -/
def base (at_ : Int) (x : Bytes) : Int := if x.head? = some 47 then 1 else at_
/-- where parts lead from a node on; how many links were followed; an error's number -/
def goTo (t : Tr) (at_ : Int) (l : List Bytes) (last : Bool) (hops : Nat) : Int × Nat × Int :=
  match l with
  | [] => (at_, hops, 0)
  | p :: r =>
    if (nodeAt t.L at_).kind ≠ 1 then (0, hops, 7)
    else if p = [46, 46] then goTo t (nodeAt t.L at_).up r last hops
    else if check p ≠ 0 then (0, hops, check p)
    else if inDir t.L at_ p = 0 then (0, hops, 5)
    else if (nodeAt t.L (inDir t.L at_ p)).kind ≠ 3 ∨ (r = [] ∧ last = false) then goTo t (inDir t.L at_ p) r last hops
    else if _h : 40 ≤ hops then (0, hops, 10)
    else goTo t (base at_ (nodeAt t.L (inDir t.L at_ p)).data) (parts (nodeAt t.L (inDir t.L at_ p)).data ++ r) last (hops + 1)
termination_by (40 - hops, l.length)
section
variable {t : Tr} {at_ : Int} {p : Bytes} {r : List Bytes} {last : Bool} {hops : Nat}
theorem go_nil : goTo t at_ [] last hops = (at_, hops, 0) := by rw [goTo]
theorem go_no (h : (nodeAt t.L at_).kind ≠ 1) : goTo t at_ (p :: r) last hops = (0, hops, 7) := by rw [goTo, if_pos h]
theorem go_up (h : (nodeAt t.L at_).kind = 1) (hp : p = [46, 46]) : goTo t at_ (p :: r) last hops = goTo t (nodeAt t.L at_).up r last hops := by rw [goTo, if_neg (by simpa using h), if_pos hp]
theorem go_bad (h : (nodeAt t.L at_).kind = 1) (hp : ¬ p = [46, 46]) (hc : check p ≠ 0) : goTo t at_ (p :: r) last hops = (0, hops, check p) := by rw [goTo, if_neg (by simpa using h), if_neg hp, if_pos hc]
theorem go_none (h : (nodeAt t.L at_).kind = 1) (hp : ¬ p = [46, 46]) (hc : check p = 0) (hn : inDir t.L at_ p = 0) : goTo t at_ (p :: r) last hops = (0, hops, 5) := by rw [goTo, if_neg (by simpa using h), if_neg hp, if_neg (by simpa using hc), if_pos hn]
theorem go_on (h : (nodeAt t.L at_).kind = 1) (hp : ¬ p = [46, 46]) (hc : check p = 0) (hn : ¬ inDir t.L at_ p = 0) (hk : (nodeAt t.L (inDir t.L at_ p)).kind ≠ 3 ∨ (r = [] ∧ last = false)) : goTo t at_ (p :: r) last hops = goTo t (inDir t.L at_ p) r last hops := by rw [goTo, if_neg (by simpa using h), if_neg hp, if_neg (by simpa using hc), if_neg hn, if_pos hk]
theorem go_loop (h : (nodeAt t.L at_).kind = 1) (hp : ¬ p = [46, 46]) (hc : check p = 0) (hn : ¬ inDir t.L at_ p = 0) (hk : ¬ ((nodeAt t.L (inDir t.L at_ p)).kind ≠ 3 ∨ (r = [] ∧ last = false))) (hh : 40 ≤ hops) : goTo t at_ (p :: r) last hops = (0, hops, 10) := by rw [goTo, if_neg (by simpa using h), if_neg hp, if_neg (by simpa using hc), if_neg hn, if_neg hk, dif_pos hh]
theorem go_link (h : (nodeAt t.L at_).kind = 1) (hp : ¬ p = [46, 46]) (hc : check p = 0) (hn : ¬ inDir t.L at_ p = 0) (hk : ¬ ((nodeAt t.L (inDir t.L at_ p)).kind ≠ 3 ∨ (r = [] ∧ last = false))) (hh : ¬ 40 ≤ hops) : goTo t at_ (p :: r) last hops = goTo t (base at_ (nodeAt t.L (inDir t.L at_ p)).data) (parts (nodeAt t.L (inDir t.L at_ p)).data ++ r) last (hops + 1) := by rw [goTo, if_neg (by simpa using h), if_neg hp, if_neg (by simpa using hc), if_neg hn, if_neg hk, dif_neg hh]
end
theorem pgo_len : ∀ (l now : Bytes), (pgo l now).length ≤ l.length + 1
  | [], now => by unfold pgo flush; split <;> simp
  | c :: l, now => by
    unfold pgo
    split
    · have := pgo_len l []
      have h1 : (flush now).length ≤ 1 := by unfold flush; split <;> simp
      rw [List.length_append, List.length_cons]; omega
    · have := pgo_len l (now ++ [c])
      rw [List.length_cons]; omega
theorem parts_len (l : Bytes) : (parts l).length ≤ l.length + 1 := pgo_len l []
/-- what Find answers -/
def find (t : Tr) (p : Bytes) (last : Bool) : Int × Int :=
  if p = [] then (0, 5) else if 1024 < p.length then (0, 11) else ((goTo t 1 (parts p) last 0).1, (goTo t 1 (parts p) last 0).2.2)
/-- what Spot answers -/
def spot (t : Tr) (p : Bytes) : Int × Bytes × Int :=
  if p = [] then (0, [], 5) else if 1024 < p.length then (0, [], 11)
  else if parts p = [] ∨ (parts p).getLastD [] = [46, 46] then (0, [], 6)
  else
    let g := goTo t 1 (parts p).dropLast true 0
    let e := if g.2.2 ≠ 0 then g.2.2 else if (nodeAt t.L g.1).kind ≠ 1 then 7 else check ((parts p).getLastD [])
    if e ≠ 0 then (0, [], e) else (g.1, (parts p).getLastD [], 0)
/-- a put keeps a tree fit -/
theorem fit_new : Fit M07.new := by intro a ha; rw [List.mem_singleton.1 ha]; exact ⟨by decide, by decide, by decide, by decide⟩
theorem fit_put {t : Tr} (h : Fit t) (d : Int) (s : Bytes) (k : Int) (x : Bytes) : Fit (M07.put t d s k x).1 := by
  unfold M07.put
  split
  · exact h
  · rename_i he
    have he0 : putErr t d s k x = 0 := by simpa using he
    intro a ha
    rcases List.mem_append.1 ha with h1 | h1
    · exact h a h1
    · rw [List.mem_singleton.1 h1]
      have hm : mayErr k x = 0 := by
        unfold putErr at he0
        split at he0
        · rename_i q; exact absurd he0 q
        · split at he0
          · rename_i q; exact absurd he0 q
          · split at he0
            · cases he0
            · split at he0
              · rename_i q; exact absurd he0 q
              · rename_i q; simpa using q
      unfold mayErr at hm
      split at hm
      · cases hm
      · rename_i q0
        split at hm
        · cases hm
        · rename_i q
          split at hm
          · cases hm
          · rename_i q2
            refine ⟨by show x.length ≤ _; omega, fun hk hx => q (Or.inr ⟨hk, hx⟩), by show 1 ≤ k; omega, by show k ≤ 3; omega⟩
end Go.Proofs.YtmbpgjncioegdaaGreatDoor.M08
/-
  Plain mathematics for layer 7 (tree): what a directory's entries are in a right tree; going from Root through the directories, each node is come to once. Lists alone. No condition but those that each theorem bears.
-/
namespace Go.Proofs.YtmbpgjncioegdaaGreatDoor.M07
open Go.Proofs.YtmbpgjncioegdaaGreatDoor.M03 (lt lt_trans lt_asymm)
open Go.Proofs.YtmbpgjncioegdaaGreatDoor.M06 (Ent)

theorem mem_put_iff {L : List Ent} {e x : Ent} (h : M06.right L = true) : x ∈ M06.put L e ↔ x = e ∨ (x ∈ L ∧ x.1 ≠ e.1) := by
  unfold M06.put M06.putL M06.cutL
  rw [M06.all_right h]
  simp only [List.mem_append, List.mem_filter, List.mem_cons, decide_eq_true_eq]
  constructor
  · rintro (⟨⟨h1, h2⟩, _⟩ | h1 | ⟨⟨h1, h2⟩, _⟩)
    · exact Or.inr ⟨h1, h2⟩
    · exact Or.inl h1
    · exact Or.inr ⟨h1, h2⟩
  · rintro (h1 | ⟨h1, h2⟩)
    · exact Or.inr (Or.inl h1)
    · rcases M03.lt_total x.1 e.1 with h3 | h3 | h3
      · exact Or.inl ⟨⟨h1, h2⟩, h3⟩
      · exact absurd h3 h2
      · exact Or.inr (Or.inr ⟨⟨h1, h2⟩, h3⟩)
theorem mem_fold : ∀ (l out : List Ent), M06.right out = true → l.Pairwise (fun a b => a.1 ≠ b.1) → (∀ a ∈ out, ∀ b ∈ l, a.1 ≠ b.1) → ∀ x, x ∈ l.foldl M06.put out ↔ x ∈ out ∨ x ∈ l
  | [], out, _, _, _, x => by simp
  | e :: l, out, hr, hp, hd, x => by
    rw [List.pairwise_cons] at hp
    rw [List.foldl_cons, mem_fold l (M06.put out e) (M06.right_put out e) hp.2 (fun a ha b hb => by
      rcases (mem_put_iff hr).1 ha with h1 | ⟨h1, _⟩
      · rw [h1]; exact hp.1 b hb
      · exact hd a h1 b (List.mem_cons_of_mem _ hb)) x, mem_put_iff hr, List.mem_cons]
    constructor
    · rintro ((h1 | ⟨h1, _⟩) | h1)
      · exact Or.inr (Or.inl h1)
      · exact Or.inl h1
      · exact Or.inr (Or.inr h1)
    · rintro (h1 | h1 | h1)
      · exact Or.inl (Or.inr ⟨h1, hd x h1 e List.mem_cons_self⟩)
      · exact Or.inl (Or.inl h1)
      · exact Or.inr h1
/-- a directory's entries are its nodes' -/
theorem mem_list {t : Tr} (h : Right t) {d : Int} {e : Ent} : e ∈ listDir t.L d ↔ ∃ a ∈ t.L, a.up = d ∧ a.num ≠ 1 ∧ entOf a = e := by
  unfold listDir
  have hp : ((t.L.filter (stands d)).map entOf).Pairwise (fun a b => a.1 ≠ b.1) := by
    rw [List.pairwise_map]
    refine List.Pairwise.imp_of_mem ?_ (h.rise.filter (stands d))
    intro a b ha hb hab he
    obtain ⟨ha1, ha2⟩ := List.mem_filter.1 ha
    obtain ⟨hb1, hb2⟩ := List.mem_filter.1 hb
    simp only [stands, Bool.and_eq_true, decide_eq_true_eq] at ha2 hb2
    have := h.once a ha1 b hb1 ha2.2 hb2.2 (by rw [ha2.1, hb2.1]) he
    rw [this] at hab
    omega
  rw [mem_fold _ [] rfl hp (fun a ha => by simp at ha)]
  simp only [List.not_mem_nil, false_or, List.mem_map, List.mem_filter, stands, Bool.and_eq_true, decide_eq_true_eq]
  constructor
  · rintro ⟨a, ⟨h1, h2, h3⟩, h4⟩; exact ⟨a, h1, h2, h3, h4⟩
  · rintro ⟨a, h1, h2, h3, h4⟩; exact ⟨a, ⟨h1, h2, h3⟩, h4⟩
theorem list_rises (L : List Nd) (d : Int) : (listDir L d).Pairwise (fun a b => lt a.1 b.1) := (M06.right_iff _).1 (M06.right_fold _ _ rfl)
/-- the numbers in a directory -/
def kids (t : Tr) (d : Int) : List Int := (listDir t.L d).map (·.2)
/-- what is held while one goes from Root through the directories: met are come to, the first i of them are gone through -/
structure Met (t : Tr) (met : List Int) (i : Nat) : Prop where
  once : met.Nodup
  root : (1 : Int) ∈ met
  are : ∀ n ∈ met, ∃ a ∈ t.L, a.num = n
  done : ∀ n ∈ met.take i, ∀ c ∈ kids t n, c ∈ met
  by_ : ∀ a ∈ t.L, a.num ∈ met → a.num ≠ 1 → a.up ∈ met.take i
theorem nodup_len : ∀ (a b : List Int), a.Nodup → a ⊆ b → a.length ≤ b.length
  | [], _, _, _ => Nat.zero_le _
  | x :: a, b, hn, hs => by
    rw [List.nodup_cons] at hn
    obtain ⟨s, u, rfl⟩ := List.append_of_mem (hs List.mem_cons_self)
    have h1 := nodup_len a (s ++ u) hn.2 (fun y hy => by
      have := hs (List.mem_cons_of_mem _ hy)
      rcases List.mem_append.1 this with h | h
      · exact List.mem_append_left _ h
      · rcases List.mem_cons.1 h with h | h
        · rw [h] at hy; exact absurd hy hn.1
        · exact List.mem_append_right _ h)
    simp only [List.length_append, List.length_cons] at h1 ⊢
    omega
end Go.Proofs.YtmbpgjncioegdaaGreatDoor.M07
/-
  Plain mathematics for layer 8 (seek): the names by which one comes from Root to a node; where they lead; paths that lead by directories alone. Lists alone. No condition but those that each theorem bears.
-/
namespace Go.Proofs.YtmbpgjncioegdaaGreatDoor.M08
open Go.Proofs.YtmbpgjncioegdaaGreatDoor.M07 hiding Bytes
open Go.Proofs.YtmbpgjncioegdaaGreatDoor.M04
open Go.Proofs.YtmbpgjncioegdaaGreatDoor.M03 (check)

/-- each node but Root bears a name that may be -/
def Named (t : Tr) : Prop := ∀ a ∈ t.L, a.num ≠ 1 → check a.name = 0
theorem named_new : Named M07.new := by intro a ha h1; rw [List.mem_singleton.1 ha] at h1; exact absurd rfl h1
theorem put_checked {t : Tr} {d k : Int} {s x : Bytes} (he : putErr t d s k x = 0) : check s = 0 := by
  unfold putErr at he
  split at he
  · rename_i q; exact absurd he q
  · split at he
    · rename_i q; exact absurd he q
    · rename_i q; simpa using q
theorem named_put {t : Tr} (h : Named t) (d : Int) (s : Bytes) (k : Int) (x : Bytes) : Named (M07.put t d s k x).1 := by
  unfold M07.put
  split
  · exact h
  · rename_i he
    have he0 : putErr t d s k x = 0 := by simpa using he
    intro a ha h1
    rcases List.mem_append.1 ha with h2 | h2
    · exact h a h2 h1
    · rw [List.mem_singleton.1 h2]; exact put_checked he0

/-! names from Root down -/
def namesOf (L : List Nd) : Nat → Int → List Bytes
  | 0, _ => []
  | k + 1, n => if n = 1 then [] else namesOf L k (upOf L n) ++ [(nodeAt L n).name]
noncomputable def names (t : Tr) (n : Int) : List Bytes := namesOf t.L (height t.L n) n
theorem height_spec {L : List Nd} {n : Int} (h : ∃ k, upN L k n = 1) : upN L (height L n) n = 1 ∧ ∀ i, upN L i n = 1 → height L n ≤ i := by
  unfold height
  rw [dif_pos h]
  exact Classical.choose_spec (least h)
theorem height_next {L : List Nd} {n : Int} (h : ∃ k, upN L k n = 1) (h1 : n ≠ 1) : height L n = height L (upOf L n) + 1 := by
  obtain ⟨h2, h3⟩ := height_up h h1
  have a := (height_spec h2).1
  have b := (height_spec h).2 (height L (upOf L n) + 1) a
  omega
theorem height_root (L : List Nd) : height L 1 = 0 := by
  have := (height_spec (L := L) (n := 1) ⟨0, rfl⟩).2 0 rfl
  omega
theorem names_root (t : Tr) : names t 1 = [] := by unfold names; rw [height_root]; rfl
theorem names_next {t : Tr} (h : Right t) {n : Int} (hk : (nodeAt t.L n).kind ≠ 0) (h1 : n ≠ 1) : names t n = names t (nodeAt t.L n).up ++ [(nodeAt t.L n).name] := by
  unfold names
  rw [height_next (h.reach hk) h1]
  show (if n = 1 then [] else _) = _
  rw [if_neg h1]
  rfl
theorem names_checked {t : Tr} (h : Right t) (hN : Named t) : ∀ (k : Nat) {n : Int}, (nodeAt t.L n).kind ≠ 0 → height t.L n = k → ∀ p ∈ names t n, check p = 0
  | k, n, hk, he => by
    by_cases h1 : n = 1
    · subst h1; rw [names_root]; intro p hp; cases hp
    · rw [names_next h hk h1]
      have hm := at_some hk
      have hu := h.up _ hm.1
      have hn := height_next (h.reach hk) h1
      intro p hp
      rcases List.mem_append.1 hp with h2 | h2
      · cases k with
        | zero => omega
        | succ k => exact names_checked h hN k (by rw [hu]; decide) (by have e : height t.L (upOf t.L n) = height t.L (nodeAt t.L n).up := rfl; omega) p h2
      · rw [List.mem_singleton.1 h2]
        exact hN _ hm.1 (by rw [hm.2]; exact h1)
/-- the path of the names -/
noncomputable def real (t : Tr) (n : Int) : Bytes × Bool := if (nodeAt t.L n).kind = 0 then ([], false) else (text (names t n), true)
theorem points_not : check [46, 46] ≠ 0 := by decide
theorem check_part {p : Bytes} (h : check p = 0) : Part p := by
  unfold M03.check at h
  split at h
  · cases h
  · rename_i h0
    split at h
    · cases h
    · split at h
      · cases h
      · rename_i hb
        split at h
        · cases h
        · rename_i hp
          refine ⟨fun e => ?_, fun e => h0 (by rw [e]; rfl), fun e => hp (Or.inl e)⟩
          exact hb (List.any_eq_true.2 ⟨47, e, by decide⟩)
theorem zero_none {t : Tr} (h : Right t) : (nodeAt t.L 0).kind = 0 := by
  rw [at_none]
  · rfl
  · intro a ha e; have := (h.ends a ha).1; omega
theorem in_of {t : Tr} (h : Right t) {n : Int} (hk : (nodeAt t.L n).kind ≠ 0) (h1 : n ≠ 1) : inDir t.L (nodeAt t.L n).up (nodeAt t.L n).name = n := by
  have hm := at_some hk
  have hne : inDir t.L (nodeAt t.L n).up (nodeAt t.L n).name ≠ 0 := fun e => in_not (fun a ha => (h.ends a ha).1) e _ hm.1 (by rw [hm.2]; exact h1) ⟨rfl, rfl⟩
  obtain ⟨a, ha, e1, e2, e3, e4⟩ := in_found hne
  have := h.once a ha _ hm.1 e4 (by rw [hm.2]; exact h1) e2 e3
  rw [← e1, this, hm.2]
theorem not_points {p : Bytes} (h : check p = 0) : ¬ p = [46, 46] := fun e => points_not (e ▸ h)
theorem go_names {t : Tr} (h : Right t) (hN : Named t) (last : Bool) (hops : Nat) : ∀ (k : Nat) {d : Int} (rest : List Bytes), (nodeAt t.L d).kind = 1 → height t.L d = k → goTo t 1 (names t d ++ rest) last hops = goTo t d rest last hops
  | k, d, rest, hk, he => by
    by_cases h1 : d = 1
    · subst h1; rw [names_root]; rfl
    · have hk0 : (nodeAt t.L d).kind ≠ 0 := by rw [hk]; decide
      have hm := at_some hk0
      have hu := h.up _ hm.1
      have hn := height_next (h.reach hk0) h1
      have hc := hN _ hm.1 (by rw [hm.2]; exact h1)
      rw [names_next h hk0 h1, List.append_assoc]
      cases k with
      | zero => omega
      | succ k =>
        rw [go_names h hN last hops k _ hu (by have e : height t.L (upOf t.L d) = height t.L (nodeAt t.L d).up := rfl; omega)]
        have e := in_of h hk0 h1
        have := go_on (t := t) (at_ := (nodeAt t.L d).up) (p := (nodeAt t.L d).name) (r := rest) (last := last) (hops := hops) hu (not_points hc) hc (by rw [e]; intro e0; rw [e0] at hk0; exact hk0 (zero_none h)) (Or.inl (by rw [e, hk]; decide))
        rw [e] at this
        exact this
theorem go_to_names {t : Tr} (h : Right t) (hN : Named t) {n : Int} (hk : (nodeAt t.L n).kind ≠ 0) : goTo t 1 (names t n) false 0 = (n, 0, 0) := by
  by_cases h1 : n = 1
  · subst h1; rw [names_root, go_nil]
  · have hm := at_some hk
    have hu := h.up _ hm.1
    have hc := hN _ hm.1 (by rw [hm.2]; exact h1)
    have e := in_of h hk h1
    rw [names_next h hk h1, go_names h hN false 0 _ _ hu rfl, go_on hu (not_points hc) hc (by rw [e]; intro e0; rw [e0] at hk; exact hk (zero_none h)) (Or.inr ⟨rfl, rfl⟩), e, go_nil]
theorem names_parts {t : Tr} (h : Right t) (hN : Named t) {n : Int} (hk : (nodeAt t.L n).kind ≠ 0) : parts (text (names t n)) = names t n := parts_text fun p hp => check_part (names_checked h hN _ hk rfl p hp)
theorem text_ne (L : List Bytes) : text L ≠ [] := by
  unfold text
  split
  · simp
  · rename_i h
    cases L with
    | nil => exact absurd rfl h
    | cons p r => simp
/-! by directories alone -/
/-! how long such a path is -/
theorem names_len {t : Tr} (h : Right t) : ∀ (k : Nat) {n : Int}, (nodeAt t.L n).kind ≠ 0 → height t.L n = k → (names t n).length = k
  | k, n, hk, he => by
    by_cases h1 : n = 1
    · subst h1; rw [height_root] at he; rw [names_root, ← he]; rfl
    · have hm := at_some hk
      have hu := h.up _ hm.1
      have hn := height_next (h.reach hk) h1
      have e : height t.L (upOf t.L n) = height t.L (nodeAt t.L n).up := rfl
      rw [names_next h hk h1, List.length_append]
      cases k with
      | zero => omega
      | succ k => rw [names_len h k (by rw [hu]; decide) (by omega)]; rfl
theorem climb {t : Tr} (h : Right t) : ∀ (i : Nat) {n : Int}, (nodeAt t.L n).kind ≠ 0 → i ≤ height t.L n → height t.L (upN t.L i n) = height t.L n - i ∧ (nodeAt t.L (upN t.L i n)).kind ≠ 0
  | 0, n, hk, _ => ⟨rfl, hk⟩
  | i + 1, n, hk, hi => by
    by_cases h1 : n = 1
    · subst h1; rw [height_root] at hi; omega
    · have hm := at_some hk
      have hu := h.up _ hm.1
      have hn := height_next (h.reach hk) h1
      have hk2 : (nodeAt t.L (upOf t.L n)).kind ≠ 0 := by show (nodeAt t.L (nodeAt t.L n).up).kind ≠ 0; rw [hu]; decide
      have := climb h i (n := upOf t.L n) hk2 (by omega)
      show height t.L (upN t.L i (upOf t.L n)) = _ ∧ (nodeAt t.L (upN t.L i (upOf t.L n))).kind ≠ 0
      exact ⟨by rw [this.1]; omega, this.2⟩
theorem height_le {t : Tr} (h : Right t) {n : Int} (hk : (nodeAt t.L n).kind ≠ 0) : height t.L n ≤ t.L.length := by
  have h1 := nodup_len ((List.range (height t.L n)).map (fun i => upN t.L i n)) (t.L.map (·.num)) (by
    rw [List.Nodup, List.pairwise_map]
    refine List.Pairwise.imp_of_mem ?_ (List.pairwise_lt_range)
    intro a b ha hb hab e
    have ha := List.mem_range.1 ha
    have hb := List.mem_range.1 hb
    have c1 := (climb h a hk (by omega)).1
    have c2 := (climb h b hk (by omega)).1
    rw [e] at c1
    omega) (fun x hx => by
    obtain ⟨i, hi, rfl⟩ := List.mem_map.1 hx
    have hi := List.mem_range.1 hi
    have := at_some (climb h i hk (by omega)).2
    exact List.mem_map.2 ⟨_, this.1, this.2⟩)
  simp only [List.length_map, List.length_range] at h1
  exact h1
def flatN (L : List Bytes) : Bytes := L.flatMap (fun p => 47 :: p)
theorem flatN_len : ∀ (L : List Bytes), (∀ p ∈ L, check p = 0) → (flatN L).length ≤ 65 * L.length
  | [], _ => by simp [flatN]
  | p :: r, h => by
    have := flatN_len r fun q hq => h q (List.mem_cons_of_mem _ hq)
    have hp := h p List.mem_cons_self
    have h64 : p.length ≤ 64 := by
      unfold M03.check at hp
      split at hp
      · cases hp
      · split at hp
        · cases hp
        · omega
    show (47 :: p ++ flatN r).length ≤ _
    rw [List.length_append, List.length_cons, List.length_cons]
    omega
theorem names_bound {t : Tr} (h : Right t) (hN : Named t) {n : Int} (hk : (nodeAt t.L n).kind ≠ 0) : (flatN (names t n)).length ≤ 65 * t.L.length := by
  have h1 := flatN_len (names t n) (names_checked h hN _ hk rfl)
  have h2 := names_len h _ hk rfl
  have h3 := height_le h hk
  omega
theorem flatN_next {t : Tr} (h : Right t) {n : Int} (hk : (nodeAt t.L n).kind ≠ 0) (h1 : n ≠ 1) : flatN (names t n) = flatN (names t (nodeAt t.L n).up) ++ 47 :: (nodeAt t.L n).name := by
  rw [names_next h hk h1]
  unfold flatN
  rw [List.flatMap_append]; simp
theorem text_flatN {L : List Bytes} (h : flatN L ≠ []) : text L = flatN L := by
  unfold text
  rw [if_neg (fun e => h (by rw [e]; rfl))]; rfl
theorem text_flat0 {L : List Bytes} (h : flatN L = []) : text L = [47] := by
  cases L with
  | nil => rfl
  | cons p r => exact absurd h (by simp [flatN])
end Go.Proofs.YtmbpgjncioegdaaGreatDoor.M08
