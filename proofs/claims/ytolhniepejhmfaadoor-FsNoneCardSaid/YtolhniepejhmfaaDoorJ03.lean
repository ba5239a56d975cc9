/-
  Texts joined, in build order, each with its own comment and its own conditions: W06More, W07Walk, W07List, W07With, W07Set, W07Cut, W07Put, W07Move, W07New, Range, W07Abs.
-/
import Derived.Test.YtolhniepejhmfaaDoorJ02
import Derived.Laws.ResultCell
import Derived.Laws.NewBlocks
import Derived.Test.YtolhniepejhmfaaDoorJ01
import Derived.Deep.RegionHeld3
import Derived.RangeFuncNested
import Derived.RangeFuncCalls
import Derived.Lib.Hide
import Derived.Deep.Draws
/-
  Layer 6 (ents), walks: the plain answers Merge, Next and Same: what each returns; new memory may be laid, nothing that was there is changed.
-/
namespace Go.Proofs.YtolhniepejhmfaaDoor.W06
open Go Go.RowKit Go.Proofs.YtolhniepejhmfaaDoor.Strs Go.Proofs.YtolhniepejhmfaaDoor.Recs Go.Proofs.YtolhniepejhmfaaDoor.M06
open Go.Proofs.YtolhniepejhmfaaDoor.M03 (lt)
open Go.Proofs.YtolhniepejhmfaaDoor.W03 (less_bytes same_bytes)
open Go.Proofs.YtolhniepejhmfaaDoor.Kit (ret_str ret_bool ret_int mk_of mk_bytes ba_ext below_draws on)

/-- what a call returns that hands out entries -/
def HandsE (w : World) (L : List Ent) (e : Ending) (w' : World) : Prop := ∃ v, e = .returned v ∧ Ents w'.heap.size w' v L ∧ Below w.heap.size w w'
theorem makes_handsE {w w' : World} {L : List Ent} {e : Ending} (h : MakesE w L e w') : HandsE w L e w' := by
  obtain ⟨v, he, hown, hb⟩ := h
  exact ⟨v, he, hown.reads, hb⟩
theorem fold_at {M out : List Ent} {k : Nat} (hk : k < M.length) : (M.take (k + 1)).foldl put out = put ((M.take k).foldl put out) M[k] := by
  rw [take_at hk, List.foldl_append]; rfl

/-! ### Next -/
theorem next_here {L : List Ent} {s : List UInt8} {k : Nat} (hk : k < L.length) (h : lt s (L[k]).1) : next (L.drop k) s = (L[k], true) := by
  rw [drop_at hk, next, if_pos h]
theorem next_on {L : List Ent} {s : List UInt8} {k : Nat} (hk : k < L.length) (h : ¬ lt s (L[k]).1) : next (L.drop k) s = next (L.drop (k + 1)) s := by
  rw [drop_at hk, next, if_neg h]
theorem next_end {L : List Ent} {s : List UInt8} {k : Nat} (hk : ¬ k < L.length) : next (L.drop k) s = (([], 0), false) := by
  rw [List.drop_of_length_le (by omega)]; rfl
theorem below_box (w : World) (o : Obj) (q : Nat) (v0 v1 : Value) : Below w.heap.size w ((((w.alloc o).drewN q).setCell ⟨w.heap.size, 0, none⟩ v0).setCell ⟨w.heap.size, 1, none⟩ v1) := by
  have h1 : Below w.heap.size w ((w.alloc o).drewN q) := ((Below.refl w.heap.size w).alloc (Nat.le_refl _) o).trans ((below_draws (w.alloc o) q).mono (by simp))
  exact (h1.setCell (Nat.le_refl _) _).setCell (Nat.le_refl _) _
/-- an entry's value -/
def entV (e : Ent) : Value := .agg #[strV e.1, .int .i64 e.2]


/-! ### Same -/
theorem ents_upto {La Lb : List Ent} {k : Nat} (hl : La.length = Lb.length) (hk : ¬ k < La.length) (h : ∀ j (h1 : j < La.length) (h2 : j < Lb.length), j < k → La[j] = Lb[j]) : La = Lb := by
  apply List.ext_getElem hl
  intro i h1 h2
  exact h i h1 h2 (by omega)
end Go.Proofs.YtolhniepejhmfaaDoor.W06
/-
  Layer 7 (tree), walks: the plain answers At, In, dir, may: what each returns; new memory may be laid, nothing that was there is changed.
-/
namespace Go.Proofs.YtolhniepejhmfaaDoor.W07
open Go Go.RowKit Go.Proofs.YtolhniepejhmfaaDoor.Strs Go.Proofs.YtolhniepejhmfaaDoor.Recs Go.Proofs.YtolhniepejhmfaaDoor.M07
open Go.Proofs.YtolhniepejhmfaaDoor.M06 (Ent)
open Go.Proofs.YtolhniepejhmfaaDoor.W03 (less_bytes same_bytes)
open Go.Proofs.YtolhniepejhmfaaDoor.Kit (ret_str ret_bool ret_int mk_of mk_bytes ba_ext below_draws on list_full list_ne list_none list_nil bytes_nil bytes_cons)

/-- a node's cells -/
def nodeC (x : Nd) : List Value := [.int .i64 x.num, .int .i64 x.up, strV x.name, .int .i64 x.kind, strV x.data]
def nodeV (x : Nd) : Value := .agg #[.int .i64 x.num, .int .i64 x.up, .string ⟨x.name.toArray⟩, .int .i64 x.kind, .string ⟨x.data.toArray⟩]
theorem nodeC_len (x : Nd) : (nodeC x).length = 5 := rfl
abbrev Nodes (B : Nat) (w : World) (v : Value) (L : List Nd) : Prop := Recs nodeC 5 B w v L
theorem Nodes.at_ {B : Nat} {w : World} {L : List Nd} {A : Option Addr} {n c : Nat} (h : Nodes B w (.slice A n c) L) {k : Nat} (hk : k < n) : ∃ (b o : Nat) (hl : k < L.length), A = some ⟨b, o, none⟩ ∧ b < B ∧ w.cell? ⟨b, o + k * 5, none⟩ = some (.int .i64 (L[k]).num) ∧ w.cell? ⟨b, o + k * 5 + 1, none⟩ = some (.int .i64 (L[k]).up) ∧ w.cell? ⟨b, o + k * 5 + 2, none⟩ = some (.string ⟨(L[k]).name.toArray⟩) ∧ w.cell? ⟨b, o + k * 5 + 3, none⟩ = some (.int .i64 (L[k]).kind) ∧ w.cell? ⟨b, o + k * 5 + 4, none⟩ = some (.string ⟨(L[k]).data.toArray⟩) := by
  obtain ⟨b, o, hl, rfl, hb, hc⟩ := Recs.flat_ h nodeC_len (by omega) hk
  exact ⟨b, o, hl, rfl, hb, hc 0 (by omega), hc 1 (by omega), hc 2 (by omega), hc 3 (by omega), hc 4 (by omega)⟩
/-- a tree's value, and what it reads as -/
def TreeV (B : Nat) (w : World) (tv : Value) (t : Tr) : Prop := ∃ v, tv = .agg #[v, .int .i64 t.last] ∧ Nodes B w v t.L

theorem results_cell_one {fn : Func} {p : Tmp} {ty : TypeId} (h : fn.results = #[.cell p ty]) (tmps : Array Value) (P : Program) (w : World) :
    (results fn tmps).run P w = ((asAddr (tmps.getD p undef)).run P w).andThen fun a w₁ => ((loadVar ty a).run P w₁).andThen fun v w₂ => .ok v w₂ := by
  simp only [results, h]
  simp [Sem.run_bind, Result.andThen]
  split
  · split <;> simp_all
  · rfl

theorem below_two (w : World) (o1 o2 : Obj) : Below w.heap.size w ((w.alloc o1).alloc o2) := ((Below.refl w.heap.size w).alloc (Nat.le_refl _) o1).alloc (by simp) o2
theorem below_one (w : World) (o1 : Obj) : Below w.heap.size w (w.alloc o1) := (Below.refl w.heap.size w).alloc (Nat.le_refl _) o1

/-! ### dir and may -/
end Go.Proofs.YtolhniepejhmfaaDoor.W07
/-
  Layer 7 (tree), walks: the plain answers In and List: what each returns; new memory may be laid, nothing that was there is changed.
-/
namespace Go.Proofs.YtolhniepejhmfaaDoor.W07
open Go Go.RowKit Go.Proofs.YtolhniepejhmfaaDoor.Strs Go.Proofs.YtolhniepejhmfaaDoor.Recs Go.Proofs.YtolhniepejhmfaaDoor.M07
open Go.Proofs.YtolhniepejhmfaaDoor.M06 (Ent)
open Go.Proofs.YtolhniepejhmfaaDoor.W06 (Ents HandsE)
open Go.Proofs.YtolhniepejhmfaaDoor.W03 (less_bytes same_bytes)
open Go.Proofs.YtolhniepejhmfaaDoor.Kit (ret_str ret_bool ret_int mk_of mk_bytes ba_ext below_draws on list_full list_ne list_none list_nil bytes_nil bytes_cons)

/-! ### List -/
end Go.Proofs.YtolhniepejhmfaaDoor.W07
/-
  Layer 7 (tree), a walk: the plain answer's with: a tree with a node in another one's place, in new memory; nothing that was there is changed.
-/
namespace Go.Proofs.YtolhniepejhmfaaDoor.W07
open Go Go.RowKit Go.Proofs.YtolhniepejhmfaaDoor.Strs Go.Proofs.YtolhniepejhmfaaDoor.Recs Go.Proofs.YtolhniepejhmfaaDoor.M07
open Go.Proofs.YtolhniepejhmfaaDoor.M06 (Ent)
open Go.Proofs.YtolhniepejhmfaaDoor.Kit (ret_str ret_bool ret_int mk_of mk_bytes ba_ext below_draws on)

theorem nodes_one {L : List Nd} : ∀ u ∈ L.flatMap nodeC, u.oneCell' = true := by
  intro u hu
  obtain ⟨x, -, hx⟩ := List.mem_flatMap.1 hu
  simp only [nodeC, List.mem_cons, List.not_mem_nil, or_false] at hx
  rcases hx with rfl | rfl | rfl | rfl | rfl <;> rfl
theorem flat_set (x : Nd) : ∀ (L : List Nd) (k : Nat), k < L.length → ((((((L.flatMap nodeC).set (k * 5) (.int .i64 x.num)).set (k * 5 + 1) (.int .i64 x.up)).set (k * 5 + 2) (strV x.name)).set (k * 5 + 3) (.int .i64 x.kind)).set (k * 5 + 4) (strV x.data)) = (L.set k x).flatMap nodeC
  | [], k, h => by simp at h
  | y :: L, 0, _ => by simp [nodeC]
  | y :: L, k + 1, h => by
    have ih := flat_set x L k (by simpa using h)
    rw [List.set_cons_succ, List.flatMap_cons, List.flatMap_cons, ← ih]
    have hl : (nodeC y).length = 5 := rfl
    have e : ∀ (M : List Value) (j : Nat) (u : Value), (nodeC y ++ M).set (5 + j) u = nodeC y ++ M.set j u := fun M j u => by
      rw [List.set_append_right _ _ (by rw [hl]; omega), hl]
      congr 2; omega
    rw [show (k + 1) * 5 = 5 + k * 5 by omega, show 5 + k * 5 + 1 = 5 + (k * 5 + 1) by omega, show 5 + k * 5 + 2 = 5 + (k * 5 + 2) by omega, show 5 + k * 5 + 3 = 5 + (k * 5 + 3) by omega, show 5 + k * 5 + 4 = 5 + (k * 5 + 4) by omega]
    rw [e, e, e, e, e]
/-- a node stored into an own row -/
def storeNode (w : World) (g k : Nat) (x : Nd) : World := ((((w.setCell ⟨g, k * 5, none⟩ (.int .i64 x.num)).setCell ⟨g, k * 5 + 1, none⟩ (.int .i64 x.up)).setCell ⟨g, k * 5 + 2, none⟩ (.string ⟨x.name.toArray⟩)).setCell ⟨g, k * 5 + 3, none⟩ (.int .i64 x.kind)).setCell ⟨g, k * 5 + 4, none⟩ (.string ⟨x.data.toArray⟩)
theorem below_store {B : Nat} {w wr : World} {g k : Nat} {x : Nd} (h : Below B w wr) (hg : B ≤ g) : Below B w (storeNode wr g k x) :=
  ((((h.setCell hg _).setCell hg _).setCell hg _).setCell hg _).setCell hg _
/-- the nodes when k are gone through -/
def sofar (L : List Nd) (x : Nd) (k : Nat) : List Nd := (L.take k).map (fun a => if a.num = x.num then x else a) ++ L.drop k
theorem sofar_len (L : List Nd) (x : Nd) (k : Nat) : (sofar L x k).length = L.length := by unfold sofar; simp; omega
theorem sofar_at {L : List Nd} {x : Nd} {k : Nat} (hk : k < L.length) : (sofar L x k)[k]'(by rw [sofar_len]; exact hk) = L[k] := by
  unfold sofar
  rw [List.getElem_append_right (by simp; omega)]
  simp [Nat.min_eq_left (Nat.le_of_lt hk)]
theorem sofar_hit {L : List Nd} {x : Nd} {k : Nat} (hk : k < L.length) (h : (L[k]).num = x.num) : (sofar L x k).set k x = sofar L x (k + 1) := by
  have e : (L.drop k).set 0 x = x :: L.drop (k + 1) := by rw [List.drop_eq_getElem_cons hk]; rfl
  have e2 : ((L.take k).map (fun a => if a.num = x.num then x else a)).length = k := by simp; omega
  unfold sofar
  rw [List.set_append_right _ _ (by rw [e2]; exact Nat.le_refl _), e2, Nat.sub_self, e, List.take_succ_eq_append_getElem hk, List.map_append, List.append_assoc]
  simp only [List.map_cons, List.map_nil, h, if_true, List.cons_append, List.nil_append]
theorem sofar_miss {L : List Nd} {x : Nd} {k : Nat} (hk : k < L.length) (h : ¬ (L[k]).num = x.num) : sofar L x k = sofar L x (k + 1) := by
  unfold sofar
  rw [List.take_succ_eq_append_getElem hk, List.map_append]
  conv => lhs; rw [List.drop_eq_getElem_cons hk]
  simp [h]
theorem sofar_end {L : List Nd} {x : Nd} {k : Nat} (hk : ¬ k < L.length) : sofar L x k = L.map (fun a => if a.num = x.num then x else a) := by
  unfold sofar; rw [List.take_of_length_le (by omega), List.drop_of_length_le (by omega), List.append_nil]
theorem sofar_zero (L : List Nd) (x : Nd) : sofar L x 0 = L := by unfold sofar; simp

theorem _root_.Go.World.alloc_size (w : World) (o : Obj) : (w.alloc o).heap.size = w.heap.size + 1 := by show (w.heap.push o).size = _; rw [Array.size_push]
theorem heap_top (w : World) (o : Obj) : (w.alloc o).heap[w.heap.size]? = some o := by show (w.heap.push o)[w.heap.size]? = _; rw [Array.getElem?_push_size]
theorem heap_three_a (w : World) (a b c : Obj) : (((w.alloc a).alloc b).alloc c).heap[w.heap.size]? = some a := by
  rw [Below.heap_alloc _ _ _ (by rw [World.alloc_size, World.alloc_size]; omega), Below.heap_alloc _ _ _ (by rw [World.alloc_size]; omega), heap_top]
theorem heap_three_b (w : World) (a b c : Obj) : (((w.alloc a).alloc b).alloc c).heap[w.heap.size + 1]? = some b := by
  rw [Below.heap_alloc _ _ _ (by rw [World.alloc_size, World.alloc_size]; omega), ← World.alloc_size w a, heap_top]
theorem heap_three_c (w : World) (a b c : Obj) : (((w.alloc a).alloc b).alloc c).heap[w.heap.size + 1 + 1]? = some c := by
  rw [← World.alloc_size w a, ← World.alloc_size (w.alloc a) b, heap_top]

end Go.Proofs.YtolhniepejhmfaaDoor.W07
/-
  Layer 7 (tree), walks: the plain answers Set and Cut: what each returns; new memory may be laid, nothing that was there is changed.
-/
namespace Go.Proofs.YtolhniepejhmfaaDoor.W07
open Go Go.RowKit Go.Proofs.YtolhniepejhmfaaDoor.Strs Go.Proofs.YtolhniepejhmfaaDoor.Recs Go.Proofs.YtolhniepejhmfaaDoor.M07
open Go.Proofs.YtolhniepejhmfaaDoor.M06 (Ent)
open Go.Proofs.YtolhniepejhmfaaDoor.Kit (ret_str ret_bool ret_int mk_of mk_bytes ba_ext below_draws on)

theorem heap_two_a (w : World) (a b : Obj) : ((w.alloc a).alloc b).heap[w.heap.size]? = some a := by
  rw [Below.heap_alloc _ _ _ (by rw [World.alloc_size]; omega), heap_top]
theorem heap_two_b (w : World) (a b : Obj) : ((w.alloc a).alloc b).heap[w.heap.size + 1]? = some b := by
  rw [← World.alloc_size w a, heap_top]
theorem size_two (w : World) (a b : Obj) : ((w.alloc a).alloc b).heap.size = w.heap.size + 1 + 1 := by rw [World.alloc_size, World.alloc_size]
section
variable {w w' : World} {k : Nat} {v : Value} {last : Int}
/-- what stands behind the store of the result -/
theorem stored_nodes {u : Value} {L : List Nd} {B : Nat} {a : Value} {b : Int} (h : Nodes B w u L) (hB : B ≤ k + 1) (hs : k + 1 < w.heap.size) : Nodes ((w.setCell ⟨k + 1, 0, none⟩ a).setCell ⟨k + 1, 1, none⟩ (.int .i64 b)).heap.size ((w.setCell ⟨k + 1, 0, none⟩ a).setCell ⟨k + 1, 1, none⟩ (.int .i64 b)) u L := by
  refine Recs.more (Recs.keep h fun p hp => ?_) (by simp [World.setCell]; omega)
  have hne : ∀ j, (⟨k + 1, j, none⟩ : Addr) ≠ p := fun j e => by rw [← e] at hp; exact absurd hp (by show ¬ k + 1 < B; omega)
  have e1 : ∀ (w' : World) (j : Nat) (u : Value), (w'.setCell ⟨k + 1, j, none⟩ u).cell? p = w'.cell? p := fun w' j u => World.cell?_setCell_other (h := hne j) ..
  rw [e1, e1]
end
theorem stored_other {w : World} {k g n c : Nat} {L : List Nd} {a b : Value} (h : Nodes w.heap.size w (.slice (some ⟨g, 0, none⟩) n c) L) (hne : k + 1 < g) : Nodes ((w.setCell ⟨k + 1, 0, none⟩ a).setCell ⟨k + 1, 1, none⟩ b).heap.size ((w.setCell ⟨k + 1, 0, none⟩ a).setCell ⟨k + 1, 1, none⟩ b) (.slice (some ⟨g, 0, none⟩) n c) L := by
  refine Recs.more (Recs.other h fun p hp => ?_) (by simp [World.setCell])
  have hne : ∀ j, (⟨k + 1, j, none⟩ : Addr) ≠ p := fun j e => by
    have : k + 1 = g := by rw [← hp, ← e]
    omega
  have e1 : ∀ (w' : World) (j : Nat) (u : Value), (w'.setCell ⟨k + 1, j, none⟩ u).cell? p = w'.cell? p := fun w' j u => World.cell?_setCell_other (h := hne j) ..
  rw [e1, e1]
theorem stored_below {w w' : World} {k : Nat} {a b : Value} (h : Below w.heap.size w w') (hk : w.heap.size ≤ k + 1) : Below w.heap.size w ((w'.setCell ⟨k + 1, 0, none⟩ a).setCell ⟨k + 1, 1, none⟩ b) :=
  (h.setCell hk _).setCell hk _
/-- a slice handed out: the one that came in, an empty one, or one in memory from S on -/
def FromOr (v : Value) (S : Nat) (u : Value) : Prop := u = v ∨ u = .slice none 0 0 ∨ ∃ g n c, u = .slice (some ⟨g, 0, none⟩) n c ∧ S ≤ g
/-- what a call returns that hands out a tree and an error -/
def TreeErr (v : Value) (w : World) (R : Tr × Int) (e : Ending) (w' : World) : Prop := ∃ u, e = .returned (.tuple #[.agg #[u, .int .i64 R.1.last], .int .i64 R.2]) ∧ Nodes w'.heap.size w' u R.1.L ∧ Below w.heap.size w w' ∧ FromOr v w.heap.size u

end Go.Proofs.YtolhniepejhmfaaDoor.W07
/-
  Layer 7 (tree), a walk: the plain answer's Cut: a tree without a node, in new memory, or what is wrong; nothing that was there is changed.
-/
namespace Go.Proofs.YtolhniepejhmfaaDoor.W07
open Go Go.RowKit Go.Proofs.YtolhniepejhmfaaDoor.Strs Go.Proofs.YtolhniepejhmfaaDoor.Recs Go.Proofs.YtolhniepejhmfaaDoor.M07
open Go.Proofs.YtolhniepejhmfaaDoor.M06 (Ent)
open Go.Proofs.YtolhniepejhmfaaDoor.Kit (ret_str ret_bool ret_int mk_of mk_bytes ba_ext below_draws on)

theorem filt_in {L : List Nd} {n : Int} {k : Nat} (hk : k < L.length) (h : ¬ (L[k]).num = n) : (L.take (k + 1)).filter (fun a => decide (a.num ≠ n)) = (L.take k).filter (fun a => decide (a.num ≠ n)) ++ [L[k]] := by
  rw [List.take_succ_eq_append_getElem hk, List.filter_append]; simp [h]
theorem filt_out {L : List Nd} {n : Int} {k : Nat} (hk : k < L.length) (h : (L[k]).num = n) : (L.take (k + 1)).filter (fun a => decide (a.num ≠ n)) = (L.take k).filter (fun a => decide (a.num ≠ n)) := by
  rw [List.take_succ_eq_append_getElem hk, List.filter_append]; simp [h]

end Go.Proofs.YtolhniepejhmfaaDoor.W07
/-
  Layer 7 (tree), a walk: the plain answer's Put: a tree with a node more, in new memory, or what is wrong; nothing that was there is changed.
-/
namespace Go.Proofs.YtolhniepejhmfaaDoor.W07
open Go Go.RowKit Go.Proofs.YtolhniepejhmfaaDoor.Strs Go.Proofs.YtolhniepejhmfaaDoor.Recs Go.Proofs.YtolhniepejhmfaaDoor.M07
open Go.Proofs.YtolhniepejhmfaaDoor.M03 (check)

open Go.Proofs.YtolhniepejhmfaaDoor.Kit (ret_str ret_bool ret_int mk_of mk_bytes ba_ext below_draws on)

theorem results_cell_tmp2 {fn : Func} {p u t : Tmp} {ty : TypeId} (h : fn.results = #[.cell p ty, .tmp u, .tmp t]) (tmps : Array Value) (P : Program) (w : World) :
    (results fn tmps).run P w = ((asAddr (tmps.getD p undef)).run P w).andThen fun a w₁ => ((loadVar ty a).run P w₁).andThen fun v w₂ => .ok (.tuple #[v, tmps.getD u undef, tmps.getD t undef]) w₂ := by
  simp only [results, h]
  simp [Sem.run_bind, Result.andThen]
theorem wrap_next {n : Int} (h1 : 0 ≤ n + 1) (h2 : n + 1 < 9223372036854775808) : IntKind.i64.wrap (n + 1) = n + 1 := by
  unfold IntKind.wrap
  have e : ((n + 1) % (2 ^ IntKind.i64.bits : Int)) = n + 1 := by
    show (n + 1) % (2 ^ 64 : Int) = n + 1
    omega
  simp only [e]
  rw [if_neg]
  simp only [Bool.and_eq_true, decide_eq_true_eq, not_and]
  intro _
  show ¬ n + 1 ≥ (2 ^ 63 : Int)
  omega
theorem alloc_news {w : World} {b o : Nat} {xs : List Value} (hb : b < w.heap.size) (h : ∀ j u, xs[j]? = some u → w.cell? ((⟨b, o, none⟩ : Addr).add j) = some u) (ob : Obj) : ∀ j u, xs[j]? = some u → (w.drew.alloc ob).cell? ((⟨b, o, none⟩ : Addr).add j) = some u := fun j u hj => by
  rw [World.cell?_alloc_lt _ _ _ (by rw [block_add]; exact hb)]
  exact h j u hj
theorem below_own {w wr w1 : World} {base : Nat} {v : Value} {n size : Nat} {xs : List Value} {e : TypeId} (hb : Below base w wr) (hbase : base ≤ wr.heap.size) (hown : wr.ownsRow base e size v n xs) (hg : wr.grownBy w1 v.ownBlock) : Below base w w1 :=
  hb.grown hg hbase (fun k hk => (hown.lt k hk).1)
/-- what Put returns -/
def TreePut (v : Value) (w : World) (R : Tr × Int × Int) (e : Ending) (w' : World) : Prop := ∃ u, e = .returned (.tuple #[.agg #[u, .int .i64 R.1.last], .int .i64 R.2.1, .int .i64 R.2.2]) ∧ Nodes w'.heap.size w' u R.1.L ∧ Below w.heap.size w w' ∧ FromOr v w.heap.size u
theorem put_fails {t : Tr} {d kind : Int} {s x : Bytes} {er : Int} (h : putErr t d s kind x = er) (he : er ≠ 0) : put t d s kind x = (t, 0, er) := by
  unfold put; rw [h, if_pos he]
theorem put_works {t : Tr} {d kind : Int} {s x : Bytes} (h : putErr t d s kind x = 0) : put t d s kind x = (⟨t.L ++ [⟨t.last + 1, d, s, kind, x⟩], t.last + 1⟩, t.last + 1, 0) := by
  unfold put; rw [h]; rfl

end Go.Proofs.YtolhniepejhmfaaDoor.W07
/-
  Layer 7 (tree), walks: the plain answers New and Move: what each returns, Move at every right tree; new memory may be laid, nothing that was there is changed.
-/
namespace Go.Proofs.YtolhniepejhmfaaDoor.W07
open Go Go.RowKit Go.Proofs.YtolhniepejhmfaaDoor.Strs Go.Proofs.YtolhniepejhmfaaDoor.Recs Go.Proofs.YtolhniepejhmfaaDoor.M07
open Go.Proofs.YtolhniepejhmfaaDoor.M06 (Ent)
open Go.Proofs.YtolhniepejhmfaaDoor.M03 (check)

open Go.Proofs.YtolhniepejhmfaaDoor.Kit (ret_str ret_bool ret_int mk_of mk_bytes ba_ext below_draws on)

theorem set_heap {w : World} {p : Nat} {cur : Array Value} {t : TypeId} {fz : Nat × Nat} (h : w.heap[p]? = some (.cells cur t fz)) (j : Nat) (u : Value) : (w.setCell ⟨p, j, none⟩ u).heap[p]? = some (.cells (cur.setIfInBounds j u) t fz) := by
  obtain ⟨hlt, hk⟩ := Array.getElem?_eq_some_iff.1 h
  show (w.heap.modify p _)[p]? = _
  rw [Array.getElem?_eq_getElem (by rw [Array.size_modify]; exact hlt), Array.getElem_modify_self, hk]
  rfl
theorem set_size (w : World) (q : Addr) (u : Value) : (w.setCell q u).heap.size = w.heap.size := by show (w.heap.modify _ _).size = _; rw [Array.size_modify]
section
variable {w w' : World} {p : Nat} {x : Nd}
end
theorem cut_len (t : Tr) (d : Int) (s : Bytes) : (cut t d s).1.L.length ≤ t.L.length := by
  unfold cut
  split
  · exact Nat.le_refl _
  · split
    · exact Nat.le_refl _
    · split
      · exact Nat.le_refl _
      · exact List.length_filter_le _ _
theorem cut_last (t : Tr) (d : Int) (s : Bytes) : (cut t d s).1.last = t.last := by
  unfold cut
  split
  · rfl
  · split
    · rfl
    · split <;> rfl
theorem right_full {t : Tr} (h : Right t) : 0 < t.L.length := by
  obtain ⟨r, hr⟩ := h.root
  rw [hr]; simp

end Go.Proofs.YtolhniepejhmfaaDoor.W07
/-
  Layer 7 (tree), a walk: the plain answer's New: a tree with Root alone, in new memory; nothing that was there is changed.
-/
namespace Go.Proofs.YtolhniepejhmfaaDoor.W07
open Go Go.RowKit Go.Proofs.YtolhniepejhmfaaDoor.Strs Go.Proofs.YtolhniepejhmfaaDoor.Recs Go.Proofs.YtolhniepejhmfaaDoor.M07
open Go.Proofs.YtolhniepejhmfaaDoor.Kit (ret_str ret_bool ret_int mk_of mk_bytes ba_ext below_draws on)

/-- what a call returns that hands out a tree -/
def TreeNew (w : World) (t : Tr) (e : Ending) (w' : World) : Prop := ∃ u, e = .returned (.agg #[u, .int .i64 t.last]) ∧ Nodes w'.heap.size w' u t.L ∧ Below w.heap.size w w' ∧ ∃ g n c, u = .slice (some ⟨g, 0, none⟩) n c ∧ w.heap.size ≤ g
end Go.Proofs.YtolhniepejhmfaaDoor.W07
/-
  A range over a function, at the wide fence: what an iterator promises its caller ('Seq': it hands out the texts of a list, in their order, and turns no blocks but its own), and what a caller owes at such a statement ('wp_range'). The border between the two is drawn by numbers of blocks: the iterator's own ones lie in a set that both know. For every program; no condition but those that each theorem bears.
-/
namespace Go.Proofs.YtolhniepejhmfaaDoor.Range
open Go Go.RowKit

/-- from A to B no block that A had has turned but those of T -/
structure Turns (T : Nat → Prop) (A B : World) : Prop where
  os : B.os = A.os
  tape : B.tape = A.tape
  output : B.output = A.output
  size : A.heap.size ≤ B.heap.size
  block : ∀ k, k < A.heap.size → ¬ T k → B.heap[k]? = A.heap[k]?
section
variable {T T' : Nat → Prop} {A B C : World}
theorem Turns.refl (T : Nat → Prop) (A : World) : Turns T A A := ⟨rfl, rfl, rfl, Nat.le_refl _, fun _ _ _ => rfl⟩
theorem Turns.trans (h : Turns T A B) (k : Turns T B C) : Turns T A C :=
  ⟨k.os.trans h.os, k.tape.trans h.tape, k.output.trans h.output, Nat.le_trans h.size k.size, fun i hi ht => (k.block i (Nat.lt_of_lt_of_le hi h.size) ht).trans (h.block i hi ht)⟩
theorem Turns.wider (h : Turns T A B) (hs : ∀ k, T k → T' k) : Turns T' A B := ⟨h.os, h.tape, h.output, h.size, fun i hi ht => h.block i hi (fun e => ht (hs i e))⟩
theorem Turns.of_grown {row : Option Nat} (h : A.grownBy B row) (hr : ∀ r, row = some r → T r) : Turns T A B :=
  ⟨h.os, h.tape, h.output, h.size, fun i hi ht => h.block i hi (fun e => ht (hr i e.symm))⟩
theorem Turns.of_below {n : Nat} (h : Below n A B) (hs : ∀ k, n ≤ k → k < A.heap.size → T k) : Turns T A B :=
  ⟨h.os, h.tape, h.output, h.size, fun i hi ht => h.block i (by
    rcases Nat.lt_or_ge i n with hlt | hge
    · exact hlt
    · exact absurd (hs i hge hi) ht)⟩
theorem Turns.new (h : Below A.heap.size A B) : Turns T A B := Turns.of_below h (fun k h1 h2 => absurd h1 (by omega))
theorem Turns.alloc (T : Nat → Prop) (A : World) (o : Obj) : Turns T A (A.alloc o) := Turns.of_grown (World.grownBy_alloc A o none) (fun r e => by cases e)
theorem Turns.putObj {r : Nat} (o : Obj) (h : T r) : Turns T A (A.putObj r o) := Turns.of_grown (grownBy_putObj' A r o) (fun k e => by cases e; exact h)
theorem grown_set (A : World) (a : Addr) (v : Value) : A.grownBy (A.setCell a v) (some a.block) :=
  ⟨rfl, rfl, rfl, (KeepsWalks.setCell A a v).size, fun k _ hk => Below.heap_setCell _ _ _ k (fun e => hk (by rw [e]))⟩
theorem Turns.setCell {a : Addr} (v : Value) (h : T a.block) : Turns T A (A.setCell a v) := Turns.of_grown (grown_set A a v) (fun k e => by cases e; exact h)
theorem Turns.draw (T : Nat → Prop) (A : World) (n : Nat) : Turns T A (A.drewN n) := ⟨rfl, rfl, rfl, Nat.le_refl _, fun _ _ _ => rfl⟩
theorem Turns.below {n : Nat} (h : Turns T A B) (hs : ∀ k, T k → n ≤ k) (hn : n ≤ A.heap.size) : Below n A B :=
  ⟨h.os, h.tape, h.output, h.size, fun i hi => h.block i (by omega) (fun e => by have := hs i e; omega)⟩
theorem Turns.keeps {k : Nat} {o : Obj} (h : Turns T A B) (hk : A.heap[k]? = some o) (ht : ¬ T k) : B.heap[k]? = some o :=
  (h.block k (Array.getElem?_eq_some_iff.1 hk).1 ht).trans hk
theorem Turns.cell {a : Addr} {v : Value} (h : Turns T A B) (hc : A.cell? a = some v) (ht : ¬ T a.block) : B.cell? a = some v :=
  (World.cell?_of_block (h.block _ (World.block_lt_of_cell? A a hc) ht)).trans hc
theorem Turns.frozen {a : Addr} {v : Value} (h : Turns T A B) (hc : A.cell? a = some v) (ht : ¬ T a.block) : B.frozen? a = A.frozen? a :=
  World.frozen?_of_block (h.block _ (World.block_lt_of_cell? A a hc) ht)
theorem Turns.row {base : Nat} {e : TypeId} {size n : Nat} {v : Value} {xs : List Value} (h : Turns T A B) (hr : A.ownsRow base e size v n xs) (ht : ∀ k, base ≤ k → ¬ T k) : B.ownsRow base e size v n xs := by
  refine ⟨hr.1, ?_⟩
  rcases hr.2 with h0 | ⟨g, cap, cur, e1, hb, hh, rest⟩
  · exact Or.inl h0
  · exact Or.inr ⟨g, cap, cur, e1, hb, h.keeps hh (ht g hb), rest⟩
theorem Turns.row_at {base g n cap : Nat} {e : TypeId} {size m : Nat} {xs : List Value} (h : Turns T A B) (hr : A.ownsRow base e size (.slice (some ⟨g, 0, none⟩) n cap) m xs) (ht : ¬ T g) : B.ownsRow base e size (.slice (some ⟨g, 0, none⟩) n cap) m xs := by
  refine ⟨hr.1, ?_⟩
  rcases hr.2 with ⟨h0, _⟩ | ⟨g', cap', cur, e1, hb, hh, rest⟩
  · cases h0
  · cases e1
    exact Or.inr ⟨g, cap, cur, rfl, hb, h.keeps hh ht, rest⟩
end
/-- the blocks of an iterator: those of O, and the m that it lays at its start -/
def Its (O : Nat → Prop) (n m : Nat) (k : Nat) : Prop := O k ∨ (n ≤ k ∧ k < n + m)

/-- a call of yield: it asks for a round, and what the round comes to -/
def Yields (P : Program) (l : Nat) (v : Value) (W : World) (R : Ending → World → Prop) : Prop :=
  ∃ fn tmps assign body, (Instr.yield l #[v]).run P W = .ok (.round l fn tmps assign body) W ∧ RoundIn Fence.wide 9 P l fn tmps assign body W R
theorem round_wide {P : Program} {l f : Nat} {tmps : Array Value} {assign body : Code} {w : World} {R : Ending → World → Prop} {n : Nat} (m : Nat) (h : RoundIn Fence.wide n P l f tmps assign body w R) : RoundIn Fence.wide m P l f tmps assign body w R :=
  ⟨trivial, fun c cs _ => h.2 c cs (room_wide _)⟩
theorem round_in {P : Program} {l f : Nat} {tmps : Array Value} {assign body : Code} {w : World} {R : Ending → World → Prop} {n : Nat} (l' m : Nat) (h : RoundIn Fence.wide n P l f tmps assign body w R) : RoundIn (Fence.wide.inRound l') m P l f tmps assign body w R :=
  ⟨trivial, fun c cs _ => h.2 c cs (room_wide _)⟩

/-- WHAT AN ITERATOR PROMISES: called with yield, it hands out the elements of xs in their order, till all have come or a round has said 'no more'; it turns none but its own blocks, and a round turns none of these. -/
def Seq {α : Type} (P : Program) (g : Nat) (lb : Array Value) (enc : α → Value) (O : Nat → Prop) (m : Nat) (xs : List α) (w0 : World) : Prop :=
  ∀ (l : Nat) (J Jx : List α → World → Prop) (W : World), Below w0.heap.size w0 W →
    (∀ s A B, J s A → Turns (Its O W.heap.size m) A B → J s B) → (∀ s A B, Jx s A → Turns (Its O W.heap.size m) A B → Jx s B) →
    (∀ pre x W1, J pre W1 → W.heap.size + m ≤ W1.heap.size → pre ++ [x] <+: xs → Yields P l (enc x) W1 fun e W' =>
      (e = .returned (.bool true) ∧ J (pre ++ [x]) W' ∧ Turns (fun k => ¬ Its O W.heap.size m k) W1 W') ∨ (e = .returned (.bool false) ∧ Jx (pre ++ [x]) W' ∧ Turns (fun k => ¬ Its O W.heap.size m k) W1 W')) →
    J [] W →
    Calls P g (#[.func (.yield l) #[] #[]] ++ lb) W fun e W' => (∃ v, e = .returned v) ∧ (J xs W' ∨ ∃ pre, pre <+: xs ∧ Jx pre W')

/-- how a round may be left -/
def roundEnd {α : Type} (T : Nat → Prop) (I : List α → World → Prop) (Ix : Code → List α → World → Prop) (xs : List α) (W : World) : Exit → Act → World → Prop
  | .normal, _, W' => Turns (fun k => ¬ T k) W W' ∧ I xs W'
  | .ret, _, W' => Turns (fun k => ¬ T k) W W' ∧ Ix .ret xs W'
  | .exit id, _, W' => Turns (fun k => ¬ T k) W W' ∧ Ix (.exit id) xs W'
  | .goto t, _, W' => Turns (fun k => ¬ T k) W W' ∧ Ix (.goto t) xs W'
  | .panic _, _, _ => False
  | .outgrown, _, _ => False

/-- WHAT A CALLER OWES AT 'for x := range g': an invariant that does not mind what the iterator and the statement turn, and one walk of the body. -/
theorem wp_range {α : Type} {P : Program} {n : Nat} {g : Operand} {ps : Array Tmp} {assign body : Code} {Q : Exit → Act → World → Prop} {a : Act} {w : World}
    {gf : Nat} {lb : Array Value} (hg : a.eval g = .func (.func gf) #[] lb) (eg : ∀ args w, (callFunc gf args).run P w = .ok (.enter gf args) w)
    {enc : α → Value} {O : Nat → Prop} {m : Nat} {xs : List α} (hseq : Seq P gf lb enc O m xs w) (hO : ∀ k, O k → k < w.heap.size) (hps : ps.size = 1)
    (T : Nat → Prop) (hT : ∀ k, T k ↔ Its O w.heap.size (m + 2) k)
    (I : List α → World → Prop) (Ix : Code → List α → World → Prop) (hI : ∀ s A B, I s A → Turns T A B → I s B) (hIx : ∀ c s A B, Ix c s A → Turns T A B → Ix c s B) (h0 : I [] w) (a₁ : α → Act)
    (hassign : ∀ (l : Nat) (x : α) (W : World) (K : Act → World → Prop), K (a₁ x) W →
      assign.wpIn (Fence.wide.inRound l) 9 P (Exit.then K (fun _ _ _ => False)) { tmps := (ps.zip #[enc x]).foldl (fun t (p, v) => t.setIfInBounds p v) a.tmps, defers := [] } W)
    (hbody : ∀ (l : Nat) (pre : List α) (x : α) (W : World), I pre W → w.heap.size + m + 2 ≤ W.heap.size → pre ++ [x] <+: xs → body.wpIn (Fence.wide.inRound l) 9 P (roundEnd T I Ix (pre ++ [x]) W) (a₁ x) W)
    (hdone : ∀ (W : World), I xs W → W.heap[w.heap.size]? = some (.deferred (some [])) → Q .normal { a with defers := { target := .collected w.heap.size, args := #[] } :: a.defers } W)
    (hstop : ∀ (c : Code) (pre : List α) (W : World), pre <+: xs → Ix c pre W → W.heap[w.heap.size]? = some (.deferred (some [])) → c.wpIn Fence.wide n P Q { a with defers := { target := .collected w.heap.size, args := #[] } :: a.defers } W) :
    (Code.rangeFunc g ps assign body).wpIn Fence.wide n P Q a w := by
  refine wpIn_rangeFunc ?_
  intro fn hfn
  show ∃ (l : Nat) (mark : List Deferred) (w₁ : World) (d : Deferred) (w₁' : World) (f : FuncId) (args : Array Value) (w₂ : World),
      (Instr.enterLoop fn a.tmps ps assign body none).run P w = .ok (l, mark) w₁ ∧ _
  obtain ⟨rc, hrc⟩ : ∃ rc : LoopState → Option Code → Loop, rc = fun st pe => { state := st, pending := pe, fn, tmps := a.tmps, params := ps, assign, body, defers := w.heap.size } := ⟨_, rfl⟩
  obtain ⟨W1, hW1⟩ : ∃ W1, (w.alloc (.deferred (some []))).alloc (.loop (rc .ready none)) = W1 := ⟨_, rfl⟩
  have hs1 : W1.heap.size = w.heap.size + 2 := by rw [← hW1]; simp
  have hL1 : W1.heap[w.heap.size + 1]? = some (.loop (rc .ready none)) := by
    rw [← hW1]; have := World.alloc_heap_new (w.alloc (.deferred (some []))) (.loop (rc .ready none)); rwa [World.size_alloc] at this
  have hK1 : W1.heap[w.heap.size]? = some (.deferred (some [])) := by
    rw [← hW1]; exact (Below.heap_alloc _ _ _ (by simp)).trans (World.alloc_heap_new w _)
  have hI1 : I [] W1 := by rw [← hW1]; exact hI _ _ _ (hI _ _ _ h0 (Turns.alloc _ _ _)) (Turns.alloc _ _ _)
  have hb1 : Below w.heap.size w W1 := by rw [← hW1]; exact ((Below.refl _ w).alloc (Nat.le_refl _) _).alloc (by simp) _
  have tw : ∀ k, Its O W1.heap.size m k → T k := fun k hk => (hT k).2 (by
    rcases hk with hk | ⟨h1, h2⟩
    · exact Or.inl hk
    · exact Or.inr ⟨by omega, by omega⟩)
  have t0 : T w.heap.size := (hT _).2 (Or.inr ⟨Nat.le_refl _, by omega⟩)
  have t1 : T (w.heap.size + 1) := (hT _).2 (Or.inr ⟨by omega, by omega⟩)
  have n0 : ¬ Its O W1.heap.size m w.heap.size := by
    rintro (h | ⟨h, _⟩)
    · have := hO _ h; omega
    · omega
  have n1 : ¬ Its O W1.heap.size m (w.heap.size + 1) := by
    rintro (h | ⟨h, _⟩)
    · have := hO _ h; omega
    · omega
  refine ⟨w.heap.size + 1, [{ target := .collected w.heap.size, args := #[] }], W1, { target := .fn (.func gf) lb, args := #[.func (.yield (w.heap.size + 1)) #[] #[]] }, W1, gf,
    #[.func (.yield (w.heap.size + 1)) #[] #[]] ++ lb, W1, ?_, ?_, ?_, ?_, fun h => by simp [Fence.wide] at h, ?_⟩
  · rw [← hW1, hrc]; exact run_enterLoop_outer _ _ _ _ _
  · simp only [resolve, hg]
    simp [go_sem]
  · intro f' _; trivial
  · simp [invoke, go_sem, eg]
  · refine callsIn_wide.2 ((hseq (w.heap.size + 1)
      (fun pre W => I pre W ∧ W.heap[w.heap.size + 1]? = some (.loop (rc .ready none)) ∧ W.heap[w.heap.size]? = some (.deferred (some [])))
      (fun pre W => ∃ c, Ix c pre W ∧ W.heap[w.heap.size + 1]? = some (.loop (rc .done (some c))) ∧ W.heap[w.heap.size]? = some (.deferred (some [])))
      W1 hb1
      (fun s A B h ht => ⟨hI s A B h.1 (ht.wider tw), ht.keeps h.2.1 n1, ht.keeps h.2.2 n0⟩)
      (fun s A B h ht => by
        obtain ⟨c, hc, hl, hk⟩ := h
        exact ⟨c, hIx c s A B hc (ht.wider tw), ht.keeps hl n1, ht.keeps hk n0⟩)
      ?_ ⟨hI1, hL1, hK1⟩).mono ?_)
    · rintro pre x W ⟨hi, hl, hk⟩ hsz hpre
      have hlt : w.heap.size + 1 < W.heap.size := (Array.getElem?_eq_some_iff.1 hl).1
      have hy := run_yield (P := P) (args := #[enc x]) hl (by rw [hrc]; exact hps.symm)
      rw [hrc] at hy
      refine ⟨fn, _, assign, body, hy, roundIn_of_wpIn trivial (hassign _ x W _ ⟨_, run_beginRound hl (by rw [hrc]), ?_⟩)⟩
      have hl2 : (W.putObj (w.heap.size + 1) (.loop { rc .ready none with state := .busy })).heap[w.heap.size + 1]? = some (.loop { rc .ready none with state := .busy }) := World.putObj_heap_same hlt
      have hk2 : (W.putObj (w.heap.size + 1) (.loop { rc .ready none with state := .busy })).heap[w.heap.size]? = some (.deferred (some [])) := (World.putObj_heap_other (by omega)).trans hk
      have hw2 : Turns (fun k => ¬ Its O W1.heap.size m k) W (W.putObj (w.heap.size + 1) (.loop { rc .ready none with state := .busy })) := Turns.putObj _ n1
      refine wpIn_mono (hbody _ pre x _ (hI _ _ _ hi (Turns.putObj _ t1)) (by simp; omega) hpre) ?_
      have fin : ∀ (jump : Option Code) (W3 : World), Turns (fun k => ¬ T k) (W.putObj (w.heap.size + 1) (.loop { rc .ready none with state := .busy })) W3 →
          (Instr.endRound (w.heap.size + 1) jump).run P W3 = .ok (.bool jump.isNone) (W3.putObj (w.heap.size + 1) (.loop (rc (if jump.isNone then .ready else .done) jump))) ∧
          (W3.putObj (w.heap.size + 1) (.loop (rc (if jump.isNone then .ready else .done) jump))).heap[w.heap.size + 1]? = some (.loop (rc (if jump.isNone then .ready else .done) jump)) ∧
          (W3.putObj (w.heap.size + 1) (.loop (rc (if jump.isNone then .ready else .done) jump))).heap[w.heap.size]? = some (.deferred (some [])) := fun jump W3 hk3 => by
        have hl3 := hk3.keeps hl2 (fun h => h t1)
        have hr := run_endRound (P := P) jump hl3
        rw [hrc] at hr ⊢
        exact ⟨hr, World.putObj_heap_same (Array.getElem?_eq_some_iff.1 hl3).1, (World.putObj_heap_other (by omega)).trans (hk3.keeps hk2 (fun h => h t0))⟩
      rintro e a3 W3 hp
      cases e with
      | normal =>
        obtain ⟨hk3, hi3⟩ := hp
        obtain ⟨hr, hl4, hk4⟩ := fin none W3 hk3
        exact ⟨_, _, hr, .inl ⟨rfl, ⟨hI _ _ _ hi3 (Turns.putObj _ t1), hl4, hk4⟩, (hw2.trans (hk3.wider fun k h h2 => h (tw k h2))).trans (Turns.putObj _ n1)⟩⟩
      | ret =>
        obtain ⟨hk3, hi3⟩ := hp
        obtain ⟨hr, hl4, hk4⟩ := fin (some .ret) W3 hk3
        exact ⟨_, _, hr, .inr ⟨rfl, ⟨.ret, hIx _ _ _ _ hi3 (Turns.putObj _ t1), hl4, hk4⟩, (hw2.trans (hk3.wider fun k h h2 => h (tw k h2))).trans (Turns.putObj _ n1)⟩⟩
      | exit id =>
        obtain ⟨hk3, hi3⟩ := hp
        obtain ⟨hr, hl4, hk4⟩ := fin (some (.exit id)) W3 hk3
        exact ⟨_, _, hr, .inr ⟨rfl, ⟨.exit id, hIx _ _ _ _ hi3 (Turns.putObj _ t1), hl4, hk4⟩, (hw2.trans (hk3.wider fun k h h2 => h (tw k h2))).trans (Turns.putObj _ n1)⟩⟩
      | goto t =>
        obtain ⟨hk3, hi3⟩ := hp
        obtain ⟨hr, hl4, hk4⟩ := fin (some (.goto t)) W3 hk3
        exact ⟨_, _, hr, .inr ⟨rfl, ⟨.goto t, hIx _ _ _ _ hi3 (Turns.putObj _ t1), hl4, hk4⟩, (hw2.trans (hk3.wider fun k h h2 => h (tw k h2))).trans (Turns.putObj _ n1)⟩⟩
      | panic ch => exact hp.elim
      | outgrown => exact hp.elim
    · rintro e W2 ⟨⟨v, rfl⟩, (⟨hi, hl, hk⟩ | ⟨pre, hpre, c, hi, hl, hk⟩)⟩
      · exact ⟨none, _, by have := run_endLoop (P := P) hl (by rw [hrc]; simp); rw [hrc] at this; exact this, hdone _ (hI _ _ _ hi (Turns.putObj _ t1)) ((World.putObj_heap_other (by omega)).trans hk)⟩
      · exact ⟨some c, _, by have := run_endLoop (P := P) hl (by rw [hrc]; simp); rw [hrc] at this; exact this, hstop c pre _ hpre (hIx c _ _ _ hi (Turns.putObj _ t1)) ((World.putObj_heap_other (by omega)).trans hk)⟩
end Go.Proofs.YtolhniepejhmfaaDoor.Range
/-
  Layer 7 (tree): what the laws ask of the program's calls, as one structure of contracts over any reading of a tree ('Trees'); and the laws' acts as records. No condition but those that each theorem bears.
-/
namespace Go.Proofs.YtolhniepejhmfaaDoor.W07
open Go Go.RowKit Go.Proofs.YtolhniepejhmfaaDoor.Strs Go.Proofs.YtolhniepejhmfaaDoor.Recs Go.Proofs.YtolhniepejhmfaaDoor.M07 Go.Proofs.YtolhniepejhmfaaDoor.Range
open Go.Proofs.YtolhniepejhmfaaDoor.M06 (Ent)
open Go.Proofs.YtolhniepejhmfaaDoor.W06 (Ents HandsE)
open Go.Proofs.YtolhniepejhmfaaDoor.Kit (ret_str ret_bool ret_int mk_of mk_bytes ba_ext below_draws on)

def Small (t : Tr) : Prop := t.L.length ≤ 1048576 ∧ t.last ≤ 1048576
/-- behind a call that may have written the tree of the blocks F: it reads as t', in blocks of F and new ones; no other block has turned -/
def Wrote (Rep : (Nat → Prop) → World → Value → Tr → Prop) (F : Nat → Prop) (v : Value) (t' : Tr) (w w' : World) : Prop := ∃ F', Rep F' w' v t' ∧ Turns F w w' ∧ ∀ k, F' k → F k ∨ w.heap.size ≤ k
/-- what a directory's List tells -/
def listed (t : Tr) (n : Int) : List Ent := if (nodeAt t.L n).kind = 1 then listDir t.L n else []
/-- entries are handed out that lie in the tree's blocks, or in new ones -/
def HandsIn (F : Nat → Prop) (w : World) (L : List Ent) (e : Ending) (w' : World) : Prop := ∃ v, e = .returned v ∧ Ents w'.heap.size w' v L ∧ (∀ b o n c, v = .slice (some ⟨b, o, none⟩) n c → F b ∨ w.heap.size ≤ b) ∧ Below w.heap.size w w'
/-- the contracts of the program's calls: Rep F w v t: in w the pointer v leads to a tree that reads as t and lies in the blocks of F -/
structure Trees (Rep : (Nat → Prop) → World → Value → Tr → Prop) : Prop where
  keep : ∀ {F w w' v t}, Rep F w v t → (∀ k, F k → w'.heap[k]? = w.heap[k]?) → w.heap.size ≤ w'.heap.size → Rep F w' v t
  low : ∀ {F w v t}, Rep F w v t → ∀ k, F k → k < w.heap.size
  right : ∀ {F w v t}, Rep F w v t → Right t
  new : ∀ w, Calls Tryd.prog 16 #[] w fun e w' => ∃ v F, e = .returned v ∧ Rep F w' v M07.new ∧ (∀ k, F k → w.heap.size ≤ k) ∧ Below w.heap.size w w'
  kind : ∀ {F w v t}, Rep F w v t → Small t → ∀ n : Int, Calls Tryd.prog 32 #[v, .int .i64 n] w fun e w' => e = .returned (.int .i64 (nodeAt t.L n).kind) ∧ Below w.heap.size w w'
  data : ∀ {F w v t}, Rep F w v t → Small t → ∀ n : Int, Calls Tryd.prog 58 #[v, .int .i64 n] w fun e w' => e = .returned (.string ⟨(nodeAt t.L n).data.toArray⟩) ∧ Below w.heap.size w w'
  up : ∀ {F w v t}, Rep F w v t → Small t → ∀ n : Int, Calls Tryd.prog 70 #[v, .int .i64 n] w fun e w' => e = .returned (.int .i64 (nodeAt t.L n).up) ∧ Below w.heap.size w w'
  len : ∀ {F w v t}, Rep F w v t → Small t → Calls Tryd.prog 14 #[v] w fun e w' => e = .returned (.int .i64 t.L.length) ∧ Below w.heap.size w w'
  lists : ∀ {F w v t}, Rep F w v t → Small t → ∀ n : Int, Calls Tryd.prog 55 #[v, .int .i64 n] w (HandsIn F w (listed t n))
  put : ∀ {F w v t}, Rep F w v t → Small t → ∀ (d : Int) (s : ByteArray) (kind : Int) (x : ByteArray), x.size ≤ maxLen → Calls Tryd.prog 39 #[v, .int .i64 d, .string s, .int .i64 kind, .string x] w fun e w' => e = .returned (.tuple #[.int .i64 (put t d s.data.toList kind x.data.toList).2.1, .int .i64 (put t d s.data.toList kind x.data.toList).2.2]) ∧ Wrote Rep F v (put t d s.data.toList kind x.data.toList).1 w w'
  set : ∀ {F w v t}, Rep F w v t → Small t → ∀ (n : Int) (x : ByteArray), x.size ≤ maxLen → Calls Tryd.prog 37 #[v, .int .i64 n, .string x] w fun e w' => e = .returned (.int .i64 (set t n x.data.toList).2) ∧ Wrote Rep F v (set t n x.data.toList).1 w w'
  cut : ∀ {F w v t}, Rep F w v t → Small t → ∀ (d : Int) (s : ByteArray), Calls Tryd.prog 41 #[v, .int .i64 d, .string s] w fun e w' => e = .returned (.int .i64 (cut t d s.data.toList).2) ∧ Wrote Rep F v (cut t d s.data.toList).1 w w'
  move : ∀ {F w v t}, Rep F w v t → Small t → ∀ (src : Int) (s : ByteArray) (dst : Int) (a : ByteArray), Calls Tryd.prog 35 #[v, .int .i64 src, .string s, .int .i64 dst, .string a] w fun e w' => e = .returned (.int .i64 (M07.move t src s.data.toList dst a.data.toList).2) ∧ Wrote Rep F v (M07.move t src s.data.toList dst a.data.toList).1 w w'
section
variable {Rep : (Nat → Prop) → World → Value → Tr → Prop} {F : Nat → Prop} {w w' : World} {v : Value} {t : Tr}
theorem Trees.list (C : Trees Rep) (h : Rep F w v t) (hs : Small t) (n : Int) : Calls Tryd.prog 55 #[v, .int .i64 n] w (HandsE w (listed t n)) :=
  (C.lists h hs n).mono fun _ _ ⟨u, he, hu, _, hb⟩ => ⟨u, he, hu, hb⟩
theorem Trees.below (C : Trees Rep) (h : Rep F w v t) (hb : Below w.heap.size w w') : Rep F w' v t := C.keep h (fun k hk => hb.block k (C.low h k hk)) hb.size
end

/-! acts -/
structure Ac where
  act : Int
  dir : Int
  to : Int
  name : Bytes
  alias : Bytes
  kind : Int
  data : Bytes
def actC (x : Ac) : List Value := [.int .i64 x.act, .int .i64 x.dir, .int .i64 x.to, strV x.name, strV x.alias, .int .i64 x.kind, strV x.data]
theorem actC_len (x : Ac) : (actC x).length = 7 := rfl
abbrev Acts (B : Nat) (w : World) (v : Value) (L : List Ac) : Prop := Recs actC 7 B w v L
theorem Acts.at_ {B : Nat} {w : World} {L : List Ac} {A : Option Addr} {n c : Nat} (h : Acts B w (.slice A n c) L) {k : Nat} (hk : k < n) : ∃ (b o : Nat) (hl : k < L.length), A = some ⟨b, o, none⟩ ∧ b < B ∧ w.cell? ⟨b, o + k * 7, none⟩ = some (.int .i64 (L[k]).act) ∧ w.cell? ⟨b, o + k * 7 + 1, none⟩ = some (.int .i64 (L[k]).dir) ∧ w.cell? ⟨b, o + k * 7 + 2, none⟩ = some (.int .i64 (L[k]).to) ∧ w.cell? ⟨b, o + k * 7 + 3, none⟩ = some (.string ⟨(L[k]).name.toArray⟩) ∧ w.cell? ⟨b, o + k * 7 + 4, none⟩ = some (.string ⟨(L[k]).alias.toArray⟩) ∧ w.cell? ⟨b, o + k * 7 + 5, none⟩ = some (.int .i64 (L[k]).kind) ∧ w.cell? ⟨b, o + k * 7 + 6, none⟩ = some (.string ⟨(L[k]).data.toArray⟩) := by
  obtain ⟨b, o, hl, rfl, hb, hc⟩ := Recs.flat_ h actC_len (by omega) hk
  exact ⟨b, o, hl, rfl, hb, hc 0 (by omega), hc 1 (by omega), hc 2 (by omega), hc 3 (by omega), hc 4 (by omega), hc 5 (by omega), hc 6 (by omega)⟩
def isShort (l : List Ac) : Bool := l.all (fun x => decide (x.data.length ≤ 70000)) && decide (l.length ≤ 60)
def shortTo (l : List Ac) (k : Nat) : Prop := ∀ x ∈ l.take k, x.data.length ≤ 70000
theorem short_next {l : List Ac} {k : Nat} (hk : k < l.length) (h : shortTo l k) (h2 : (l[k]).data.length ≤ 70000) : shortTo l (k + 1) := by
  intro x hx
  rw [List.take_succ_eq_append_getElem hk] at hx
  rcases List.mem_append.1 hx with hx | hx
  · exact h x hx
  · rw [List.mem_singleton.1 hx]; exact h2
theorem short_end {l : List Ac} {k : Nat} (hk : ¬ k < l.length) (h : shortTo l k) : isShort l = decide (l.length ≤ 60) := by
  unfold shortTo at h
  rw [List.take_of_length_le (by omega)] at h
  unfold isShort
  rw [List.all_eq_true.2 (fun x hx => by simpa using h x hx), Bool.true_and]
theorem short_no {l : List Ac} {k : Nat} (hk : k < l.length) (h2 : ¬ (l[k]).data.length ≤ 70000) : isShort l = false := by
  unfold isShort
  rw [Bool.and_eq_false_iff]
  left
  rw [List.all_eq_false]
  exact ⟨l[k], List.getElem_mem hk, by simpa using h2⟩
end Go.Proofs.YtolhniepejhmfaaDoor.W07
