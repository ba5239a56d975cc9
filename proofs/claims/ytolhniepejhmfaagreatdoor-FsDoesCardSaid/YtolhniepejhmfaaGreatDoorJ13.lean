/-
  Texts joined, in build order, each with its own comment and its own conditions: W07Do, W09Ref.
-/
import Derived.Test.YtolhniepejhmfaaGreatDoorJ12
import Derived.Test.YtolhniepejhmfaaGreatDoorJ09
import Derived.Test.YtolhniepejhmfaaGreatDoorJ04
/-
  Layer 7 (tree), a walk of the law's do: an act done to a tree of the program's, and to the plain answer's tree, comes to the same; nothing that was there is changed but the tree's own blocks.
-/
namespace Go.Proofs.YtolhniepejhmfaaGreatDoor.W07
open Go Go.RowKit Go.Proofs.YtolhniepejhmfaaGreatDoor.Strs Go.Proofs.YtolhniepejhmfaaGreatDoor.Recs Go.Proofs.YtolhniepejhmfaaGreatDoor.M07 Go.Proofs.YtolhniepejhmfaaGreatDoor.Range
open Go.Proofs.YtolhniepejhmfaaGreatDoor.M06 (Ent)
open Go.Proofs.YtolhniepejhmfaaGreatDoor.Kit (ret_str ret_bool ret_int mk_of mk_bytes ba_ext below_draws on)

/-- a slice's own block is none of F -/
def Off (F : Nat → Prop) (u : Value) : Prop := ∀ b o n c, u = .slice (some ⟨b, o, none⟩) n c → ¬ F b
theorem nodes_turns {F : Nat → Prop} {B : Nat} {w w' : World} {v : Value} {L : List Nd} (h : Nodes B w v L) (ht : Turns F w w') (hoff : Off F v) : Nodes B w' v L := by
  by_cases h0 : 0 < L.length
  · obtain ⟨A, c, rfl, h1, h2⟩ := h.form
    obtain ⟨b, o, _, rfl, hb, hc0, _⟩ := Nodes.at_ h h0
    have hlt := World.block_lt_of_cell? w _ hc0
    exact Recs.other h fun p hp => World.cell?_of_block (ht.block _ (by rw [hp]; exact hlt) (by rw [hp]; exact hoff _ _ _ _ rfl))
  · have e : L = [] := List.length_eq_zero_iff.1 (by omega)
    subst e
    obtain ⟨A, c, rfl, h1, h2, h3⟩ := h
    exact ⟨A, c, rfl, h1, h2, fun h => absurd h (by simp)⟩
theorem off_same {F F' : Nat → Prop} {v : Value} {L : List Nd} {n0 : Nat} {w : World} (hn : Nodes n0 w v L) (h0 : 0 < L.length) (hv : Off F v) (hF : ∀ k, F' k → F k ∨ n0 ≤ k) : Off F' v := by
  obtain ⟨A, c, rfl, h1, h2⟩ := hn.form
  obtain ⟨b, o, _, rfl, hb, _⟩ := Nodes.at_ hn h0
  intro b' o' n' c' e hk
  cases e
  rcases hF _ hk with h | h
  · exact hv _ _ _ _ rfl h
  · omega
theorem off_from {F : Nat → Prop} {v u : Value} {S : Nat} (hv : Off F v) (hS : ∀ k, F k → k < S) (hf : FromOr v S u) : Off F u := by
  rcases hf with rfl | rfl | ⟨g, n, c, rfl, hg⟩
  · exact hv
  · intro b o n c e; cases e
  · intro b o n' c' e hk
    cases e
    have := hS _ hk
    omega
noncomputable def doAct (t : Tr) (act dir dst : Int) (name as' : Bytes) (kind : Int) (data : Bytes) : Tr :=
  if act = 0 then (put t dir name kind data).1 else if act = 1 then (set t dir data).1 else if act = 2 then (cut t dir name).1 else if act = 3 then (M07.move t dir name dst as').1 else t
/-- a box of a plain tree -/
def TreeBox (w : World) (p : Nat) (v : Value) (last : Int) : Prop := w.heap[p]? = some (.cells #[v, .int .i64 last] 30 (0, 0))
section
variable {w w' : World} {p : Nat} {v : Value} {last act dir dst kind : Int} {nm al dt : ByteArray}
theorem TreeBox.lt (h : TreeBox w p v last) : p < w.heap.size := (Array.getElem?_eq_some_iff.1 h).1
theorem TreeBox.below (h : TreeBox w p v last) (hb : Below w.heap.size w w') : TreeBox w' p v last := (hb.block _ h.lt).trans h
theorem TreeBox.turns {F : Nat → Prop} (h : TreeBox w p v last) (ht : Turns F w w') (hp : ¬ F p) : TreeBox w' p v last := ht.keeps h hp
theorem TreeBox.c0 (h : TreeBox w p v last) : w.cell? ⟨p, 0, none⟩ = some v := cell_of_row w _ 0 _ _ (0, 0) h
theorem TreeBox.c1 (h : TreeBox w p v last) : w.cell? ⟨p, 1, none⟩ = some (.int .i64 last) := cell_of_row w _ 1 _ _ (0, 0) h
theorem TreeBox.fr (h : TreeBox w p v last) (j : Nat) : w.frozen? ⟨p, j, none⟩ = false := frozen_of_row w _ j _ _ h
end
/-- what do comes to -/
def Did (Rep : (Nat → Prop) → World → Value → Tr → Prop) (F : Nat → Prop) (pv : Value) (t' : Tr) (w : World) (e : Ending) (w' : World) : Prop :=
  ∃ u F', e = .returned (.tuple #[.agg #[u, .int .i64 t'.last], .bool true]) ∧ Nodes w'.heap.size w' u t'.L ∧ Rep F' w' pv t' ∧ Off F' u ∧ Turns F w w' ∧ ∀ k, F' k → F k ∨ w.heap.size ≤ k
theorem turns_box (w : World) (q : Nat) (a b : Value) : Turns (fun k => k = q) w ((w.setCell ⟨q, 0, none⟩ a).setCell ⟨q, 1, none⟩ b) :=
  (Turns.setCell (T := fun k => k = q) (a := ⟨q, 0, none⟩) a rfl).trans (Turns.setCell (T := fun k => k = q) (a := ⟨q, 1, none⟩) b rfl)
theorem turns_old {F : Nat → Prop} {A B : World} (h : Turns (fun k => F k ∨ A.heap.size ≤ k) A B) : Turns F A B := ⟨h.os, h.tape, h.output, h.size, fun k hk hf => h.block k hk (fun e => by rcases e with e | e; exact hf e; omega)⟩
theorem did_done {Rep : (Nat → Prop) → World → Value → Tr → Prop} (C : Trees Rep) {F F' : Nat → Prop} {w wi wf : World} {pv u : Value} {t' : Tr} {q : Nat} {e : Ending}
    (he : e = .returned (.tuple #[.agg #[u, .int .i64 t'.last], .bool true])) (Hi : Rep F' wi pv t') (hF : ∀ k, F' k → F k ∨ w.heap.size ≤ k) (hq : ¬ F' q) (hqw : w.heap.size ≤ q)
    (t1 : Turns (fun k => F k ∨ w.heap.size ≤ k) w wi) (tf : Turns (fun k => k = q) wi wf) (hn : Nodes wf.heap.size wf u t'.L) (ho : Off F' u) : Did Rep F pv t' w e wf :=
  ⟨u, F', he, hn, C.keep Hi (fun k hk => tf.block k (C.low Hi k hk) (fun e => hq (by rw [← e]; exact hk))) tf.size, ho, turns_old (t1.trans (tf.wider fun k hk => Or.inr (by omega))), hF⟩
theorem results_cell_one_tmp {fn : Func} {p t : Tmp} {ty : TypeId} (h : fn.results = #[.cell p ty, .tmp t]) (tmps : Array Value) (P : Program) (w : World) :
    (results fn tmps).run P w = ((asAddr (tmps.getD p undef)).run P w).andThen fun a w₁ => ((loadVar ty a).run P w₁).andThen fun v w₂ => .ok (.tuple #[v, tmps.getD t undef]) w₂ := by
  simp only [results, h]
  simp [Sem.run_bind, Result.andThen]
end Go.Proofs.YtolhniepejhmfaaGreatDoor.W07
/-
  Layer 9 (posix), walks: the plain answers Stat, Data, List; new memory may be laid, nothing that was there is changed. The conditions stand in the statements.
-/
namespace Go.Proofs.YtolhniepejhmfaaGreatDoor.W09
open Go Go.RowKit Go.Proofs.YtolhniepejhmfaaGreatDoor.Strs Go.Proofs.YtolhniepejhmfaaGreatDoor.Recs Go.Proofs.YtolhniepejhmfaaGreatDoor.Range
open Go.Proofs.YtolhniepejhmfaaGreatDoor.M07 (Tr Nd nodeAt inDir Right listDir)
open Go.Proofs.YtolhniepejhmfaaGreatDoor.M08 Go.Proofs.YtolhniepejhmfaaGreatDoor.M09
open Go.Proofs.YtolhniepejhmfaaGreatDoor.W07 (Nodes nodeV TreeBox refAt_any refList_any heap_two_a heap_two_b heap_top)

open Go.Proofs.YtolhniepejhmfaaGreatDoor.W06 (Ents)
open Go.Proofs.YtolhniepejhmfaaGreatDoor.Kit (ret_str ret_bool ret_int mk_of mk_bytes ba_ext below_draws on)

/-- a box of a plain node -/
def NdBox (w : World) (p : Nat) (x : Nd) : Prop := w.heap[p]? = some (.cells #[.int .i64 x.num, .int .i64 x.up, .string ⟨x.name.toArray⟩, .int .i64 x.kind, .string ⟨x.data.toArray⟩] 77 (0, 0))
section
variable {w w' : World} {p : Nat} {a b c : Int} {x : Nd}
theorem NdBox.lt (h : NdBox w p x) : p < w.heap.size := (Array.getElem?_eq_some_iff.1 h).1
theorem NdBox.below (h : NdBox w p x) (hb : Below w.heap.size w w') : NdBox w' p x := (hb.block _ h.lt).trans h
theorem NdBox.c3 (h : NdBox w p x) : w.cell? ⟨p, 3, none⟩ = some (.int .i64 x.kind) := cell_of_row w _ 3 _ _ (0, 0) h
theorem NdBox.c4 (h : NdBox w p x) : w.cell? ⟨p, 4, none⟩ = some (.string ⟨x.data.toArray⟩) := cell_of_row w _ 4 _ _ (0, 0) h
end
/-- a box of a task -/
def TaskBox (w : World) (p : Nat) (k : Int) (a b : ByteArray) : Prop := w.heap[p]? = some (.cells #[.int .i64 k, .string a, .string b] 39 (0, 0))
section
variable {w w' : World} {p : Nat} {k : Int} {a b : ByteArray}
theorem TaskBox.lt (h : TaskBox w p k a b) : p < w.heap.size := (Array.getElem?_eq_some_iff.1 h).1
theorem TaskBox.below (h : TaskBox w p k a b) (hb : Below w.heap.size w w') : TaskBox w' p k a b := (hb.block _ h.lt).trans h
theorem TaskBox.c0 (h : TaskBox w p k a b) : w.cell? ⟨p, 0, none⟩ = some (.int .i64 k) := cell_of_row w _ 0 _ _ (0, 0) h
theorem TaskBox.c1 (h : TaskBox w p k a b) : w.cell? ⟨p, 1, none⟩ = some (.string a) := cell_of_row w _ 1 _ _ (0, 0) h
theorem TaskBox.c2 (h : TaskBox w p k a b) : w.cell? ⟨p, 2, none⟩ = some (.string b) := cell_of_row w _ 2 _ _ (0, 0) h
end
theorem stored3 {w w' : World} {p : Nat} (a b c : Value) (h : Below w.heap.size w w') (hp : w.heap.size ≤ p) : Below w.heap.size w (((w'.setCell ⟨p, 0, none⟩ a).setCell ⟨p, 1, none⟩ b).setCell ⟨p, 2, none⟩ c) :=
  ((h.setCell hp a).setCell hp b).setCell hp c
theorem data_stat (t : Tr) (p : Bytes) (last : Bool) (kind other : Int) : M09.data t p last kind other = if (M09.stat t p last).2 ≠ 0 then ([], (M09.stat t p last).2) else if (M09.stat t p last).1.2.1 ≠ kind then ([], other) else ((nodeAt t.L (M09.stat t p last).1.1).data, 0) := by
  unfold M09.data M09.stat
  by_cases h : (find t p last).2 = 0 <;> simp [h]
theorem list_stat (t : Tr) (p : Bytes) : M09.list t p = if (M09.stat t p true).2 ≠ 0 then ([], (M09.stat t p true).2) else if (M09.stat t p true).1.2.1 ≠ 1 then ([], 7) else ((listDir t.L (M09.stat t p true).1.1).map (·.1), 0) := by
  unfold M09.list M09.stat
  by_cases h : (find t p true).2 = 0 <;> simp [h]
theorem ret_data {a : ByteArray} {b : Int} {r : Bytes × Int} (h : r = (a.data.toList, b)) : Ending.returned (.tuple #[.string a, .int .i64 b]) = .returned (.tuple #[.string ⟨r.1.toArray⟩, .int .i64 r.2]) := by
  rw [h]
end Go.Proofs.YtolhniepejhmfaaGreatDoor.W09
