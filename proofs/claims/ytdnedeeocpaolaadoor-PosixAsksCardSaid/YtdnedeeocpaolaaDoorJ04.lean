/-
  Texts joined, in build order, each with its own comment and its own conditions: W07With, W07Set, W07Cut, W07Put, W07Move, W07New.
-/
import Derived.Test.YtdnedeeocpaolaaDoorJ03
import Derived.Test.YtdnedeeocpaolaaDoorJ02
/-
  Layer 7 (tree), a walk: the plain answer's with: a tree with a node in another one's place, in new memory; nothing that was there is changed.
-/
namespace Go.Proofs.YtdnedeeocpaolaaDoor.W07
open Go Go.RowKit Go.Proofs.YtdnedeeocpaolaaDoor.Strs Go.Proofs.YtdnedeeocpaolaaDoor.Recs Go.Proofs.YtdnedeeocpaolaaDoor.M07
open Go.Proofs.YtdnedeeocpaolaaDoor.M06 (Ent)
open Go.Proofs.YtdnedeeocpaolaaDoor.Kit (ret_str ret_bool ret_int mk_of mk_bytes ba_ext below_draws on)

theorem node_info : (Tryd.prog.info? 71).map (fun i => (i.zero, i.size, i.bytes)) = some (some (.agg #[.int .i64 0, .int .i64 0, .string ⟨#[]⟩, .int .i64 0, .string ⟨#[]⟩]), 5, 56) := by kernel_rfl
def OwnNodes (w : World) (base : Nat) (v : Value) (L : List Nd) : Prop := w.ownsRow base 71 5 v L.length (L.flatMap nodeC)
theorem OwnNodes.reads {w : World} {base : Nat} {v : Value} {L : List Nd} (h : OwnNodes w base v L) : Nodes w.heap.size w v L := Recs.of_own nodeC_len rfl h
theorem nodes_one {L : List Nd} : ∀ u ∈ L.flatMap nodeC, u.oneCell' = true := by
  intro u hu
  obtain ⟨x, -, hx⟩ := List.mem_flatMap.1 hu
  simp only [nodeC, List.mem_cons, List.not_mem_nil, or_false] at hx
  rcases hx with rfl | rfl | rfl | rfl | rfl <;> rfl
theorem flat_set (x : Nd) : ∀ (L : List Nd) (k : Nat), k < L.length → ((((((L.flatMap nodeC).set (k * 5) (.int .i64 x.num)).set (k * 5 + 1) (.int .i64 x.up)).set (k * 5 + 2) (strV x.name)).set (k * 5 + 3) (.int .i64 x.kind)).set (k * 5 + 4) (strV x.data)) = (L.set k x).flatMap nodeC
  | [], k, h => by simp at h
  | y :: L, 0, _ => by simp [nodeC]
  | y :: L, k + 1, h => by
    have ih := flat_set x L k (by simpa using h)
    rw [List.set_cons_succ, List.flatMap_cons, List.flatMap_cons, ← ih]
    have hl : (nodeC y).length = 5 := rfl
    have e : ∀ (M : List Value) (j : Nat) (u : Value), (nodeC y ++ M).set (5 + j) u = nodeC y ++ M.set j u := fun M j u => by
      rw [List.set_append_right _ _ (by rw [hl]; omega), hl]
      congr 2; omega
    rw [show (k + 1) * 5 = 5 + k * 5 by omega, show 5 + k * 5 + 1 = 5 + (k * 5 + 1) by omega, show 5 + k * 5 + 2 = 5 + (k * 5 + 2) by omega, show 5 + k * 5 + 3 = 5 + (k * 5 + 3) by omega, show 5 + k * 5 + 4 = 5 + (k * 5 + 4) by omega]
    rw [e, e, e, e, e]
/-- a node stored into an own row -/
def storeNode (w : World) (g k : Nat) (x : Nd) : World := ((((w.setCell ⟨g, k * 5, none⟩ (.int .i64 x.num)).setCell ⟨g, k * 5 + 1, none⟩ (.int .i64 x.up)).setCell ⟨g, k * 5 + 2, none⟩ (.string ⟨x.name.toArray⟩)).setCell ⟨g, k * 5 + 3, none⟩ (.int .i64 x.kind)).setCell ⟨g, k * 5 + 4, none⟩ (.string ⟨x.data.toArray⟩)
theorem own_store {w : World} {base g n c : Nat} {L : List Nd} {k : Nat} (x : Nd) (hn : n = L.length) (h : OwnNodes w base (.slice (some ⟨g, 0, none⟩) n c) L) (hk : k < L.length) : OwnNodes (storeNode w g k x) base (.slice (some ⟨g, 0, none⟩) n c) (L.set k x) := by
  subst hn
  have h1 := (World.ownsRow.stored h (k * 5) (.int .i64 x.num)).1
  have h2 := (World.ownsRow.stored h1 (k * 5 + 1) (.int .i64 x.up)).1
  have h3 := (World.ownsRow.stored h2 (k * 5 + 2) (strV x.name)).1
  have h4 := (World.ownsRow.stored h3 (k * 5 + 3) (.int .i64 x.kind)).1
  have h5 := (World.ownsRow.stored h4 (k * 5 + 4) (strV x.data)).1
  rw [flat_set x L k hk] at h5
  unfold OwnNodes
  rw [List.length_set]
  exact h5
theorem below_store {B : Nat} {w wr : World} {g k : Nat} {x : Nd} (h : Below B w wr) (hg : B ≤ g) : Below B w (storeNode wr g k x) :=
  ((((h.setCell hg _).setCell hg _).setCell hg _).setCell hg _).setCell hg _
theorem own_form {w : World} {base : Nat} {v : Value} {L : List Nd} (h : OwnNodes w base v L) (h0 : 0 < L.length) : ∃ g c, v = .slice (some ⟨g, 0, none⟩) L.length c ∧ base ≤ g ∧ g < w.heap.size ∧ L.length ≤ c ∧ c ≤ maxLen := by
  rcases h.2 with ⟨_, hz⟩ | ⟨g, cap, cur, hv, hb, hg, hn, hc, _⟩
  · omega
  · refine ⟨g, cap, hv, hb, ?_, hn, hc⟩
    rcases Nat.lt_or_ge g w.heap.size with hlt | hge
    · exact hlt
    · rw [Array.getElem?_eq_none hge] at hg; cases hg
theorem own_frozen {w : World} {base g n c : Nat} {L : List Nd} (hn : n = L.length) (h : OwnNodes w base (.slice (some ⟨g, 0, none⟩) n c) L) (j : Nat) : w.frozen? ⟨g, j, none⟩ = false := by
  subst hn; exact World.ownsRow.frozenAt h j
/-- the nodes when k are gone through -/
def sofar (L : List Nd) (x : Nd) (k : Nat) : List Nd := (L.take k).map (fun a => if a.num = x.num then x else a) ++ L.drop k
theorem sofar_len (L : List Nd) (x : Nd) (k : Nat) : (sofar L x k).length = L.length := by unfold sofar; simp; omega
theorem sofar_at {L : List Nd} {x : Nd} {k : Nat} (hk : k < L.length) : (sofar L x k)[k]'(by rw [sofar_len]; exact hk) = L[k] := by
  unfold sofar
  rw [List.getElem_append_right (by simp; omega)]
  simp [Nat.min_eq_left (Nat.le_of_lt hk)]
theorem sofar_hit {L : List Nd} {x : Nd} {k : Nat} (hk : k < L.length) (h : (L[k]).num = x.num) : (sofar L x k).set k x = sofar L x (k + 1) := by
  have e : (L.drop k).set 0 x = x :: L.drop (k + 1) := by rw [List.drop_eq_getElem_cons hk]; rfl
  have e2 : ((L.take k).map (fun a => if a.num = x.num then x else a)).length = k := by simp; omega
  unfold sofar
  rw [List.set_append_right _ _ (by rw [e2]; exact Nat.le_refl _), e2, Nat.sub_self, e, List.take_succ_eq_append_getElem hk, List.map_append, List.append_assoc]
  simp only [List.map_cons, List.map_nil, h, if_true, List.cons_append, List.nil_append]
theorem sofar_miss {L : List Nd} {x : Nd} {k : Nat} (hk : k < L.length) (h : ¬ (L[k]).num = x.num) : sofar L x k = sofar L x (k + 1) := by
  unfold sofar
  rw [List.take_succ_eq_append_getElem hk, List.map_append]
  conv => lhs; rw [List.drop_eq_getElem_cons hk]
  simp [h]
theorem sofar_end {L : List Nd} {x : Nd} {k : Nat} (hk : ¬ k < L.length) : sofar L x k = L.map (fun a => if a.num = x.num then x else a) := by
  unfold sofar; rw [List.take_of_length_le (by omega), List.drop_of_length_le (by omega), List.append_nil]
theorem sofar_zero (L : List Nd) (x : Nd) : sofar L x 0 = L := by unfold sofar; simp

theorem _root_.Go.World.alloc_size (w : World) (o : Obj) : (w.alloc o).heap.size = w.heap.size + 1 := by show (w.heap.push o).size = _; rw [Array.size_push]
theorem heap_top (w : World) (o : Obj) : (w.alloc o).heap[w.heap.size]? = some o := by show (w.heap.push o)[w.heap.size]? = _; rw [Array.getElem?_push_size]
theorem heap_three_a (w : World) (a b c : Obj) : (((w.alloc a).alloc b).alloc c).heap[w.heap.size]? = some a := by
  rw [Below.heap_alloc _ _ _ (by rw [World.alloc_size, World.alloc_size]; omega), Below.heap_alloc _ _ _ (by rw [World.alloc_size]; omega), heap_top]
theorem heap_three_b (w : World) (a b c : Obj) : (((w.alloc a).alloc b).alloc c).heap[w.heap.size + 1]? = some b := by
  rw [Below.heap_alloc _ _ _ (by rw [World.alloc_size, World.alloc_size]; omega), ← World.alloc_size w a, heap_top]
theorem heap_three_c (w : World) (a b c : Obj) : (((w.alloc a).alloc b).alloc c).heap[w.heap.size + 1 + 1]? = some c := by
  rw [← World.alloc_size w a, ← World.alloc_size (w.alloc a) b, heap_top]

end Go.Proofs.YtdnedeeocpaolaaDoor.W07
/-
  Layer 7 (tree), walks: the plain answers Set and Cut: what each returns; new memory may be laid, nothing that was there is changed.
-/
namespace Go.Proofs.YtdnedeeocpaolaaDoor.W07
open Go Go.RowKit Go.Proofs.YtdnedeeocpaolaaDoor.Strs Go.Proofs.YtdnedeeocpaolaaDoor.Recs Go.Proofs.YtdnedeeocpaolaaDoor.M07
open Go.Proofs.YtdnedeeocpaolaaDoor.M06 (Ent)
open Go.Proofs.YtdnedeeocpaolaaDoor.Kit (ret_str ret_bool ret_int mk_of mk_bytes ba_ext below_draws on)

theorem heap_two_a (w : World) (a b : Obj) : ((w.alloc a).alloc b).heap[w.heap.size]? = some a := by
  rw [Below.heap_alloc _ _ _ (by rw [World.alloc_size]; omega), heap_top]
theorem heap_two_b (w : World) (a b : Obj) : ((w.alloc a).alloc b).heap[w.heap.size + 1]? = some b := by
  rw [← World.alloc_size w a, heap_top]
theorem size_two (w : World) (a b : Obj) : ((w.alloc a).alloc b).heap.size = w.heap.size + 1 + 1 := by rw [World.alloc_size, World.alloc_size]
/-- a box of a tree, and the result's box, as they lie -/
def Boxed (w : World) (k : Nat) (v : Value) (last : Int) : Prop := w.heap[k]? = some (.cells #[v, .int .i64 last] 28 (0, 0)) ∧ w.heap[k + 1]? = some (.cells #[.slice none 0 0, .int .i64 0] 28 (0, 0)) ∧ k + 1 < w.heap.size
section
variable {w w' : World} {k : Nat} {v : Value} {last : Int}
theorem Boxed.below (h : Boxed w k v last) (hb : Below w.heap.size w w') : Boxed w' k v last :=
  ⟨(hb.block _ (by have := h.2.2; omega)).trans h.1, (hb.block _ h.2.2).trans h.2.1, Nat.lt_of_lt_of_le h.2.2 hb.size⟩
theorem Boxed.alloc (h : Boxed w k v last) (o : Obj) : Boxed (w.alloc o) k v last := h.below ((Below.refl w.heap.size w).alloc (Nat.le_refl _) o)
theorem Boxed.t0 (h : Boxed w k v last) : w.cell? ⟨k, 0, none⟩ = some v := cell_of_row w _ 0 _ _ (0, 0) h.1
theorem Boxed.t1 (h : Boxed w k v last) : w.cell? ⟨k, 1, none⟩ = some (.int .i64 last) := cell_of_row w _ 1 _ _ (0, 0) h.1
theorem Boxed.r0 (h : Boxed w k v last) : w.cell? ⟨k + 1, 0, none⟩ = some (.slice none 0 0) := cell_of_row w _ 0 _ _ (0, 0) h.2.1
theorem Boxed.r1 (h : Boxed w k v last) : w.cell? ⟨k + 1, 1, none⟩ = some (.int .i64 0) := cell_of_row w _ 1 _ _ (0, 0) h.2.1
theorem Boxed.f0 (h : Boxed w k v last) : w.frozen? ⟨k + 1, 0, none⟩ = false := frozen_of_row w _ 0 _ _ h.2.1
theorem Boxed.f1 (h : Boxed w k v last) : w.frozen? ⟨k + 1, 1, none⟩ = false := frozen_of_row w _ 1 _ _ h.2.1
/-- what stands behind the store of the result -/
theorem stored_nodes {u : Value} {L : List Nd} {B : Nat} {a : Value} {b : Int} (h : Nodes B w u L) (hB : B ≤ k + 1) (hs : k + 1 < w.heap.size) : Nodes ((w.setCell ⟨k + 1, 0, none⟩ a).setCell ⟨k + 1, 1, none⟩ (.int .i64 b)).heap.size ((w.setCell ⟨k + 1, 0, none⟩ a).setCell ⟨k + 1, 1, none⟩ (.int .i64 b)) u L := by
  refine Recs.more (Recs.keep h fun p hp => ?_) (by simp [World.setCell]; omega)
  have hne : ∀ j, (⟨k + 1, j, none⟩ : Addr) ≠ p := fun j e => by rw [← e] at hp; exact absurd hp (by show ¬ k + 1 < B; omega)
  have e1 : ∀ (w' : World) (j : Nat) (u : Value), (w'.setCell ⟨k + 1, j, none⟩ u).cell? p = w'.cell? p := fun w' j u => World.cell?_setCell_other (h := hne j) ..
  rw [e1, e1]
end
theorem stored_other {w : World} {k g n c : Nat} {L : List Nd} {a b : Value} (h : Nodes w.heap.size w (.slice (some ⟨g, 0, none⟩) n c) L) (hne : k + 1 < g) : Nodes ((w.setCell ⟨k + 1, 0, none⟩ a).setCell ⟨k + 1, 1, none⟩ b).heap.size ((w.setCell ⟨k + 1, 0, none⟩ a).setCell ⟨k + 1, 1, none⟩ b) (.slice (some ⟨g, 0, none⟩) n c) L := by
  refine Recs.more (Recs.other h fun p hp => ?_) (by simp [World.setCell])
  have hne : ∀ j, (⟨k + 1, j, none⟩ : Addr) ≠ p := fun j e => by
    have : k + 1 = g := by rw [← hp, ← e]
    omega
  have e1 : ∀ (w' : World) (j : Nat) (u : Value), (w'.setCell ⟨k + 1, j, none⟩ u).cell? p = w'.cell? p := fun w' j u => World.cell?_setCell_other (h := hne j) ..
  rw [e1, e1]
theorem stored_below {w w' : World} {k : Nat} {a b : Value} (h : Below w.heap.size w w') (hk : w.heap.size ≤ k + 1) : Below w.heap.size w ((w'.setCell ⟨k + 1, 0, none⟩ a).setCell ⟨k + 1, 1, none⟩ b) :=
  (h.setCell hk _).setCell hk _
theorem boxed_new (w : World) (v : Value) (last : Int) : Boxed ((w.alloc (.cells #[v, .int .i64 last] 28)).alloc (.cells #[.slice none 0 0, .int .i64 0] 28)) w.heap.size v last :=
  ⟨heap_two_a _ _ _, heap_two_b _ _ _, by rw [size_two]; omega⟩
/-- a slice handed out: the one that came in, an empty one, or one in memory from S on -/
def FromOr (v : Value) (S : Nat) (u : Value) : Prop := u = v ∨ u = .slice none 0 0 ∨ ∃ g n c, u = .slice (some ⟨g, 0, none⟩) n c ∧ S ≤ g
/-- what a call returns that hands out a tree and an error -/
def TreeErr (v : Value) (w : World) (R : Tr × Int) (e : Ending) (w' : World) : Prop := ∃ u, e = .returned (.tuple #[.agg #[u, .int .i64 R.1.last], .int .i64 R.2]) ∧ Nodes w'.heap.size w' u R.1.L ∧ Below w.heap.size w w' ∧ FromOr v w.heap.size u

end Go.Proofs.YtdnedeeocpaolaaDoor.W07
/-
  Layer 7 (tree), a walk: the plain answer's Cut: a tree without a node, in new memory, or what is wrong; nothing that was there is changed.
-/
namespace Go.Proofs.YtdnedeeocpaolaaDoor.W07
open Go Go.RowKit Go.Proofs.YtdnedeeocpaolaaDoor.Strs Go.Proofs.YtdnedeeocpaolaaDoor.Recs Go.Proofs.YtdnedeeocpaolaaDoor.M07
open Go.Proofs.YtdnedeeocpaolaaDoor.M06 (Ent)
open Go.Proofs.YtdnedeeocpaolaaDoor.Kit (ret_str ret_bool ret_int mk_of mk_bytes ba_ext below_draws on)

theorem own_nodes_nil (w : World) (base : Nat) : OwnNodes w base (.slice none 0 0) [] := World.ownsRow_nil _ _ _ _
theorem own_nodes_alloc {w : World} {base : Nat} {v : Value} {L : List Nd} (h : OwnNodes w base v L) (o : Obj) : (w.alloc o).ownsRow base 71 5 v L.length (L.flatMap nodeC) := World.ownsRow.alloc h o
theorem own_nodes_more {w : World} {base : Nat} {v : Value} {out : List Nd} {x : Nd} (h : w.ownsRow base 71 5 v (out.length + 1) (out.flatMap nodeC ++ [.int .i64 x.num, .int .i64 x.up, .string ⟨x.name.toArray⟩, .int .i64 x.kind, .string ⟨x.data.toArray⟩])) : OwnNodes w base v (out ++ [x]) := by
  unfold OwnNodes
  rw [List.length_append, List.flatMap_append]
  have : ([x].flatMap nodeC) = [.int .i64 x.num, .int .i64 x.up, .string ⟨x.name.toArray⟩, .int .i64 x.kind, .string ⟨x.data.toArray⟩] := by simp [nodeC, strV]
  rw [this]; exact h
theorem stored_own {w : World} {k base : Nat} {u : Value} {L : List Nd} {a b : Value} (h : OwnNodes w base u L) (hne : k + 1 < base) : Nodes ((w.setCell ⟨k + 1, 0, none⟩ a).setCell ⟨k + 1, 1, none⟩ b).heap.size ((w.setCell ⟨k + 1, 0, none⟩ a).setCell ⟨k + 1, 1, none⟩ b) u L := by
  have hr := h.reads
  rcases h.2 with ⟨rfl, h0⟩ | ⟨g, cap, cur, rfl, hb, -⟩
  · have : L = [] := List.length_eq_zero_iff.1 h0
    subst this
    exact recs_nil _ _ _ _
  · exact stored_other hr (by omega)
theorem filt_in {L : List Nd} {n : Int} {k : Nat} (hk : k < L.length) (h : ¬ (L[k]).num = n) : (L.take (k + 1)).filter (fun a => decide (a.num ≠ n)) = (L.take k).filter (fun a => decide (a.num ≠ n)) ++ [L[k]] := by
  rw [List.take_succ_eq_append_getElem hk, List.filter_append]; simp [h]
theorem filt_out {L : List Nd} {n : Int} {k : Nat} (hk : k < L.length) (h : (L[k]).num = n) : (L.take (k + 1)).filter (fun a => decide (a.num ≠ n)) = (L.take k).filter (fun a => decide (a.num ≠ n)) := by
  rw [List.take_succ_eq_append_getElem hk, List.filter_append]; simp [h]

/-- nodes that lie below B, or in a row of one's own from S on -/
def Apart (B S : Nat) (w : World) (u : Value) (L : List Nd) : Prop := Nodes B w u L ∨ ∃ base, S ≤ base ∧ OwnNodes w base u L
theorem Apart.reads {B S : Nat} {w : World} {u : Value} {L : List Nd} (h : Apart B S w u L) (hB : B ≤ w.heap.size) : Nodes w.heap.size w u L := by
  rcases h with h | ⟨base, _, h⟩
  · exact h.more hB
  · exact h.reads
theorem own_cell {w : World} {base q j : Nat} {u : Value} {L : List Nd} {a : Value} (h : OwnNodes w base u L) (hq : q < base) : OwnNodes (w.setCell ⟨q, j, none⟩ a) base u L := by
  refine ⟨h.1, ?_⟩
  rcases h.2 with h0 | ⟨g, cap, cur, e, hb, hh, rest⟩
  · exact Or.inl h0
  · refine Or.inr ⟨g, cap, cur, e, hb, ?_, rest⟩
    rw [Below.heap_setCell _ _ _ _ (by show g ≠ q; omega)]; exact hh
theorem Apart.cell {B S : Nat} {w : World} {q j : Nat} {u : Value} {L : List Nd} {a : Value} (h : Apart B S w u L) (h1 : B ≤ q) (h2 : q < S) : Apart B S (w.setCell ⟨q, j, none⟩ a) u L := by
  rcases h with h | ⟨base, hb, h⟩
  · exact Or.inl (h.below ((Below.refl B w).setCell h1 _))
  · exact Or.inr ⟨base, hb, own_cell h (by omega)⟩
theorem Apart.alloc {B S : Nat} {w : World} {u : Value} {L : List Nd} (h : Apart B S w u L) (hB : B ≤ w.heap.size) (o : Obj) : Apart B S (w.alloc o) u L := by
  rcases h with h | ⟨base, hb, h⟩
  · exact Or.inl (h.alloc hB o)
  · exact Or.inr ⟨base, hb, World.ownsRow.alloc h o⟩
/-- what a call returns that hands out a tree and an error, and where the tree's nodes lie -/
def TreeOut (B : Nat) (v : Value) (w : World) (R : Tr × Int) (e : Ending) (w' : World) : Prop := ∃ u, e = .returned (.tuple #[.agg #[u, .int .i64 R.1.last], .int .i64 R.2]) ∧ Apart B w.heap.size w' u R.1.L ∧ Below w.heap.size w w' ∧ FromOr v w.heap.size u
theorem TreeOut.err {B : Nat} {v : Value} {w w' : World} {R : Tr × Int} {e : Ending} (h : TreeOut B v w R e w') (hB : B ≤ w.heap.size) : TreeErr v w R e w' := by
  obtain ⟨u, he, ha, hb, hf⟩ := h
  exact ⟨u, he, ha.reads (Nat.le_trans hB hb.size), hb, hf⟩

end Go.Proofs.YtdnedeeocpaolaaDoor.W07
/-
  Layer 7 (tree), a walk: the plain answer's Put: a tree with a node more, in new memory, or what is wrong; nothing that was there is changed.
-/
namespace Go.Proofs.YtdnedeeocpaolaaDoor.W07
set_option maxRecDepth 100000
open Go Go.RowKit Go.Proofs.YtdnedeeocpaolaaDoor.Strs Go.Proofs.YtdnedeeocpaolaaDoor.Recs Go.Proofs.YtdnedeeocpaolaaDoor.M07
open Go.Proofs.YtdnedeeocpaolaaDoor.M03 (check)
open Go.Proofs.YtdnedeeocpaolaaDoor.W03 (refCheck_any)
open Go.Proofs.YtdnedeeocpaolaaDoor.Kit (ret_str ret_bool ret_int mk_of mk_bytes ba_ext below_draws on)

theorem results_cell_tmp2 {fn : Func} {p u t : Tmp} {ty : TypeId} (h : fn.results = #[.cell p ty, .tmp u, .tmp t]) (tmps : Array Value) (P : Program) (w : World) :
    (results fn tmps).run P w = ((asAddr (tmps.getD p undef)).run P w).andThen fun a w₁ => ((loadVar ty a).run P w₁).andThen fun v w₂ => .ok (.tuple #[v, tmps.getD u undef, tmps.getD t undef]) w₂ := by
  simp only [results, h]
  simp [Sem.run_bind, Result.andThen]
theorem wrap_next {n : Int} (h1 : 0 ≤ n + 1) (h2 : n + 1 < 9223372036854775808) : IntKind.i64.wrap (n + 1) = n + 1 := by
  unfold IntKind.wrap
  have e : ((n + 1) % (2 ^ IntKind.i64.bits : Int)) = n + 1 := by
    show (n + 1) % (2 ^ 64 : Int) = n + 1
    omega
  simp only [e]
  rw [if_neg]
  simp only [Bool.and_eq_true, decide_eq_true_eq, not_and]
  intro _
  show ¬ n + 1 ≥ (2 ^ 63 : Int)
  omega
theorem alloc_news {w : World} {b o : Nat} {xs : List Value} (hb : b < w.heap.size) (h : ∀ j u, xs[j]? = some u → w.cell? ((⟨b, o, none⟩ : Addr).add j) = some u) (ob : Obj) : ∀ j u, xs[j]? = some u → (w.drew.alloc ob).cell? ((⟨b, o, none⟩ : Addr).add j) = some u := fun j u hj => by
  rw [World.cell?_alloc_lt _ _ _ (by rw [block_add]; exact hb)]
  exact h j u hj
theorem below_own {w wr w1 : World} {base : Nat} {v : Value} {n size : Nat} {xs : List Value} {e : TypeId} (hb : Below base w wr) (hbase : base ≤ wr.heap.size) (hown : wr.ownsRow base e size v n xs) (hg : wr.grownBy w1 v.ownBlock) : Below base w w1 :=
  hb.grown hg hbase (fun k hk => (hown.lt k hk).1)
theorem own_nodes_text {w : World} {base : Nat} {v : Value} {out : List Nd} {a b k : Int} {s x : ByteArray} (h : w.ownsRow base 71 5 v (out.length + 1) (out.flatMap nodeC ++ [.int .i64 a, .int .i64 b, .string s, .int .i64 k, .string x])) : OwnNodes w base v (out ++ [⟨a, b, s.data.toList, k, x.data.toList⟩]) :=
  own_nodes_more (x := ⟨a, b, s.data.toList, k, x.data.toList⟩) (by simp only [mk_bytes]; exact h)
/-- what Put returns -/
def TreePut (v : Value) (w : World) (R : Tr × Int × Int) (e : Ending) (w' : World) : Prop := ∃ u, e = .returned (.tuple #[.agg #[u, .int .i64 R.1.last], .int .i64 R.2.1, .int .i64 R.2.2]) ∧ Nodes w'.heap.size w' u R.1.L ∧ Below w.heap.size w w' ∧ FromOr v w.heap.size u
theorem put_fails {t : Tr} {d kind : Int} {s x : Bytes} {er : Int} (h : putErr t d s kind x = er) (he : er ≠ 0) : put t d s kind x = (t, 0, er) := by
  unfold put; rw [h, if_pos he]
theorem put_works {t : Tr} {d kind : Int} {s x : Bytes} (h : putErr t d s kind x = 0) : put t d s kind x = (⟨t.L ++ [⟨t.last + 1, d, s, kind, x⟩], t.last + 1⟩, t.last + 1, 0) := by
  unfold put; rw [h]; rfl

set_option maxHeartbeats 4000000 in
set_option maxRecDepth 100000 in
theorem refPut_any (v : Value) (L : List Nd) (last d kind : Int) (s x : ByteArray) (hx : x.size ≤ maxLen) (w : World) (h : Nodes w.heap.size w v L) (hn : L.length ≤ 1073741824) (h0' : 0 < L.length) (hl1 : -1 ≤ last) (hl2 : last ≤ 4611686018427387904) :
    Calls Tryd.prog 27 #[.agg #[v, .int .i64 last], .int .i64 d, .string s, .int .i64 kind, .string x] w (TreePut v w (put ⟨L, last⟩ d s.data.toList kind x.data.toList)) := by
  obtain ⟨i0, hi, hz0, hz1, hz2⟩ := info_parts node_info
  have HBX := Lib.hid (boxed_new w v last)
  have HB0 := Lib.hid (below_two w (.cells #[v, .int .i64 last] 28) (.cells #[.slice none 0 0, .int .i64 0] 28))
  have HN0 := Lib.hid (h.below HB0.out)
  have HD := Lib.hid (fun (w' : World) (h : Nodes w.heap.size w' v L) (hB : w.heap.size ≤ w'.heap.size) => refDir_any v L last d w.heap.size w' h hB (by omega))
  have HI := Lib.hid (fun (w' : World) (h : Nodes w.heap.size w' v L) (hB : w.heap.size ≤ w'.heap.size) => refIn_any v L last d s w.heap.size w' h hB (by omega))
  have HK := Lib.hid (refCheck_any s)
  have HM := Lib.hid (refMay_any kind x hx)
  have HFL := Lib.hid (flat_len nodeC_len L)
  have HNEWS := Lib.hid (fun (w' : World) (h : Nodes w.heap.size w' v L) => h)
  obtain ⟨A, c, rfl, hA1, hA2⟩ := h.form
  clear h
  unfold maxLen at hA2
  have HE : Hid (putErr ⟨L, last⟩ d s.data.toList kind x.data.toList = if dirErr L d ≠ 0 then dirErr L d else if check s.data.toList ≠ 0 then check s.data.toList else if 0 < inDir L d s.data.toList then 6 else if mayErr kind x.data.toList ≠ 0 then mayErr kind x.data.toList else if 4096 ≤ L.length then 12 else 0) := rfl
  have HF := Lib.hid (fun er => put_fails (t := ⟨L, last⟩) (d := d) (kind := kind) (s := s.data.toList) (x := x.data.toList) (er := er))
  have HWK := Lib.hid (put_works (t := ⟨L, last⟩) (d := d) (kind := kind) (s := s.data.toList) (x := x.data.toList))
  generalize put ⟨L, last⟩ d s.data.toList kind x.data.toList = R at *
  generalize putErr ⟨L, last⟩ d s.data.toList kind x.data.toList = pe at *
  generalize dirErr L d = de at *
  generalize check s.data.toList = ck at *
  generalize inDir L d s.data.toList = nn at *
  generalize mayErr kind x.data.toList = me at *
  go_enter Tryd.func27, Tryd.ntmps27
  go_wp2_with fail
  refine (HD.out _ HN0.out HB0.out.size).mono ?_
  rintro e w1 ⟨rfl, hb1⟩
  have BX1 := Lib.hid (HBX.out.below hb1)
  have B1 := Lib.hid (on HB0.out hb1)
  have N1 := Lib.hid (HN0.out.below (hb1.mono HB0.out.size))
  clear hb1
  have x0 := BX1.out.t0
  have x1 := BX1.out.t1
  by_cases ke : de = 0
  · have te : (de == 0) = true := by simpa using ke
    have HE2 := Lib.hid (HE.out.trans (if_neg (by simpa using ke)))
    clear ke HE
    by_cases kc : ck = 0
    · have tc : (ck == 0) = true := by simpa using kc
      have HE3 := Lib.hid (HE2.out.trans (if_neg (by simpa using kc)))
      clear kc HE2
      go_wp2_with fail
      refine (HK.out _).mono ?_
      rintro e w1' ⟨rfl, rfl⟩
      go_wp2_with fail
      refine (HI.out _ N1.out B1.out.size).mono ?_
      rintro e w2 ⟨rfl, hb2⟩
      have BX2 := Lib.hid (BX1.out.below hb2)
      have B2 := Lib.hid (on B1.out hb2)
      have N2 := Lib.hid (N1.out.below (hb2.mono B1.out.size))
      clear hb2 x0 x1 BX1 B1 N1
      have x0 := BX2.out.t0
      have x1 := BX2.out.t1
      have y0 := BX2.out.r0
      have y1 := BX2.out.r1
      have g0 := BX2.out.f0
      have g1 := BX2.out.f1
      by_cases kn : 0 < nn
      · have HX : Hid (R = (⟨L, last⟩, 0, 6)) := HF.out 6 (HE3.out.trans (if_pos kn)) (by decide)
        clear HE3
        go_wp2_with fail
        refine bodyPost_ret_by (v := .tuple #[.agg #[.slice A L.length c, .int .i64 last], .int .i64 0, .int .i64 6]) ?_ rfl ?_
        · rw [results_cell_tmp2 rfl]
          go_simp
        · rw [HX.out]
          exact ⟨_, rfl, stored_nodes N2.out (by omega) BX2.out.2.2, stored_below B2.out (by omega), Or.inl rfl⟩
      · have HE4 := Lib.hid (HE3.out.trans (if_neg kn))
        clear HE3
        by_cases km : me = 0
        · have tm : (me == 0) = true := by simpa using km
          have HE5 := Lib.hid (HE4.out.trans (if_neg (by simpa using km)))
          clear km HE4
          by_cases kz : (4096 : Int) ≤ (L.length : Int)
          · have HX : Hid (R = (⟨L, last⟩, 0, 12)) := HF.out 12 (HE5.out.trans (if_pos (by omega))) (by decide)
            clear HE5
            go_wp2_with fail
            refine (HM.out _).mono ?_
            rintro e w3 ⟨rfl, rfl⟩
            go_wp2_with fail
            refine bodyPost_ret_by (v := .tuple #[.agg #[.slice A L.length c, .int .i64 last], .int .i64 0, .int .i64 12]) ?_ rfl ?_
            · rw [results_cell_tmp2 rfl]
              go_simp
            · rw [HX.out]
              exact ⟨_, rfl, stored_nodes N2.out (by omega) BX2.out.2.2, stored_below B2.out (by omega), Or.inl rfl⟩
          · have HX : Hid (R = (⟨L ++ [⟨last + 1, d, s.data.toList, kind, x.data.toList⟩], last + 1⟩, last + 1, 0)) := HWK.out (HE5.out.trans (if_neg (by omega)))
            clear HE5
            go_wp2_with fail
            refine (HM.out _).mono ?_
            rintro e w3 ⟨rfl, rfl⟩
            go_wp2_with fail
            have h0 : 0 < L.length := h0'
            obtain ⟨b, o, rfl, hbB, hnews⟩ := Recs.news N2.out nodeC_len (by omega) h0
            have HNW := Lib.hid hnews
            have hsz2 := BX2.out.2.2
            have hbw3 : b < w3.heap.size := by omega
            have hwr : IntKind.i64.wrap (last + 1) = last + 1 := wrap_next (by omega) (by omega)
            have hbs2 := B2.out.size
            clear hnews
            go_region_held3 (fun w' => w'.cell? ⟨w.heap.size, 0, none⟩ = some (.slice (some ⟨b, o, none⟩) L.length c) ∧ w'.cell? ⟨w.heap.size, 1, none⟩ = some (.int .i64 last))
              (first | exact ⟨(B5.cell (show w.heap.size < w3.heap.size by omega)).trans x0, (B5.cell (show w.heap.size < w3.heap.size by omega)).trans x1⟩ | exact ⟨x0, x1⟩ | exact ⟨(B4.cell (show w.heap.size < w3.heap.size by omega)).trans x0, (B4.cell (show w.heap.size < w3.heap.size by omega)).trans x1⟩ | go_keep)
              (first
                | (refine wp_append_own _ (.const (.slice none 0 0)) (.tmp 49) 26 rfl w3.heap.size 71 i0 (.agg #[.int .i64 0, .int .i64 0, .string ⟨#[]⟩, .int .i64 0, .string ⟨#[]⟩]) 5 56 Tryd.underlying26 hi hz0 hz1 hz2 rfl (by decide) (.slice none 0 0) 0 [] rfl (World.ownsRow_nil _ _ _ _) ⟨b, o, none⟩ L.length c (L.flatMap nodeC) rfl HFL.out HNW.out nodes_one (by unfold maxLen; omega) (by omega) (by first | exact Nat.le_refl _ | omega) ?_; intro v4 w4 hown4 hgrow4 _; have B4 : Below w3.heap.size w3 w4 := on (below_draws w3 1) ((Below.refl w3.heap.size (w3.drewN 1)).grown hgrow4 (Nat.le_refl _) (fun k hk => by cases hk)))
                | (refine wp_append_own _ (.const (.slice none 0 0)) (.tmp 49) 26 rfl w3.heap.size 71 i0 (.agg #[.int .i64 0, .int .i64 0, .string ⟨#[]⟩, .int .i64 0, .string ⟨#[]⟩]) 5 56 Tryd.underlying26 hi hz0 hz1 hz2 rfl (by decide) (.slice none 0 0) 0 [] rfl (World.ownsRow_nil _ _ _ _) ⟨b, o, none⟩ L.length c (L.flatMap nodeC) rfl HFL.out (alloc_news hbw3 HNW.out _) nodes_one (by unfold maxLen; omega) (by omega) (Nat.le_trans (Nat.le_succ _) (Nat.le_of_eq (World.alloc_size w3 _).symm)) ?_; intro v4 w4 hown4 hgrow4 _; have B4c := Lib.hid ((Below.refl (w3.heap.size + 1) _).grown hgrow4 (Nat.le_of_eq (World.alloc_size w3 _).symm) (fun k hk => by cases hk)); have B4 : Below w3.heap.size w3 w4 := on (below_draws w3 1) (((Below.refl w3.heap.size (w3.drewN 1)).alloc (Nat.le_refl _) _).trans (B4c.out.mono (Nat.le_succ _))))
                | (refine wp_append_own _ (.tmp 50) (.tmp 59) 26 rfl w3.heap.size 71 i0 (.agg #[.int .i64 0, .int .i64 0, .string ⟨#[]⟩, .int .i64 0, .string ⟨#[]⟩]) 5 56 Tryd.underlying26 hi hz0 hz1 hz2 rfl (by decide) _ _ _ rfl (World.ownsRow.alloc hown4 _) ⟨_, 0, none⟩ 1 1 [.int .i64 (last + 1), .int .i64 d, .string s, .int .i64 kind, .string x] rfl rfl (cells_new _ [_, _, _, _, _] _) (by intro u hu; simp at hu; rcases hu with rfl | rfl | rfl | rfl | rfl <;> rfl) (by unfold maxLen; omega) (by omega) (Nat.le_trans B4.size (by rw [World.alloc_size]; exact Nat.le_succ _)) ?_; intro v5 w5 hown5 hgrow5 _; have B5 : Below w3.heap.size w3 w5 := W06.below_more2 B4 B4.size hown4 hgrow5)
                | (refine wp_append_own _ (.tmp 50) (.tmp 59) 26 rfl w3.heap.size 71 i0 (.agg #[.int .i64 0, .int .i64 0, .string ⟨#[]⟩, .int .i64 0, .string ⟨#[]⟩]) 5 56 Tryd.underlying26 hi hz0 hz1 hz2 rfl (by decide) _ _ _ rfl hown4 ⟨w3.heap.size, 0, none⟩ 1 1 [.int .i64 (last + 1), .int .i64 d, .string s, .int .i64 kind, .string x] rfl rfl (fun j u hj => (B4c.out.cell (by rw [block_add]; exact Nat.lt_succ_self _)).trans (cells_new (w3.drewN 1) [_, _, _, _, _] _ j u hj)) (by intro u hu; simp at hu; rcases hu with rfl | rfl | rfl | rfl | rfl <;> rfl) (by unfold maxLen; omega) (by omega) B4.size ?_; intro v5 w5 hown5 hgrow5 _; have B5 : Below w3.heap.size w3 w5 := below_own B4 B4.size hown4 hgrow5))
            all_goals (
              rw [Nat.zero_add, List.nil_append] at hown5
              have O5 := Lib.hid (own_nodes_text hown5)
              clear hown5 hown4 hgrow4 hgrow5
              have HBB := Lib.hid (B2.out.trans (B5.mono hbs2))
              have q1 : w5.cell? ⟨w.heap.size, 1, none⟩ = some (.int .i64 last) := (B5.cell (show w.heap.size < w3.heap.size by omega)).trans x1
              have q2 : w5.cell? ⟨w.heap.size + 1, 0, none⟩ = some (.slice none 0 0) := (B5.cell (show w.heap.size + 1 < w3.heap.size by omega)).trans y0
              have q3 : w5.cell? ⟨w.heap.size + 1, 1, none⟩ = some (.int .i64 0) := (B5.cell (show w.heap.size + 1 < w3.heap.size by omega)).trans y1
              have q4 : w5.frozen? ⟨w.heap.size + 1, 0, none⟩ = false := (B5.frozen (show w.heap.size + 1 < w3.heap.size by omega)).trans g0
              have q5 : w5.frozen? ⟨w.heap.size + 1, 1, none⟩ = false := (B5.frozen (show w.heap.size + 1 < w3.heap.size by omega)).trans g1
              clear x0 x1 y0 y1 g0 g1 B4 B5
              generalize hLL : L ++ [⟨last + 1, d, s.data.toList, kind, x.data.toList⟩] = LL at O5 HX
              obtain ⟨g5, c5, rfl, hg5, hg6, hcn, hcm⟩ := own_form O5.out (by rw [← hLL]; simp)
              go_wp2_with fail
              go_region
              all_goals (
                go_wp2_with fail
                refine bodyPost_ret_by (v := .tuple #[.agg #[.slice (some ⟨g5, 0, none⟩) LL.length c5, .int .i64 (last + 1)], .int .i64 (last + 1), .int .i64 0]) ?_ rfl ?_
                · rw [results_cell_tmp2 rfl]
                  go_simp
                · rw [HX.out]
                  exact ⟨_, rfl, stored_own (w := w5.drewN 1) O5.out (by omega), stored_below (w' := w5.drewN 1) (on HBB.out (below_draws w5 1)) (by omega), Or.inr (Or.inr ⟨_, _, _, rfl, by omega⟩)⟩))
        · have tm : (me == 0) = false := by simpa using km
          have HX : Hid (R = (⟨L, last⟩, 0, me)) := HF.out me (HE4.out.trans (if_pos km)) km
          clear km HE4
          go_wp2_with fail
          refine (HM.out _).mono ?_
          rintro e w3 ⟨rfl, rfl⟩
          go_wp2_with fail
          refine bodyPost_ret_by (v := .tuple #[.agg #[.slice A L.length c, .int .i64 last], .int .i64 0, .int .i64 me]) ?_ rfl ?_
          · rw [results_cell_tmp2 rfl]
            go_simp
          · rw [HX.out]
            exact ⟨_, rfl, stored_nodes N2.out (by omega) BX2.out.2.2, stored_below B2.out (by omega), Or.inl rfl⟩
    · have tc : (ck == 0) = false := by simpa using kc
      have HX : Hid (R = (⟨L, last⟩, 0, ck)) := HF.out ck (HE2.out.trans (if_pos kc)) kc
      have y0 := BX1.out.r0
      have y1 := BX1.out.r1
      have g0 := BX1.out.f0
      have g1 := BX1.out.f1
      clear kc HE2
      go_wp2_with fail
      refine (HK.out _).mono ?_
      rintro e w1' ⟨rfl, rfl⟩
      go_wp2_with fail
      refine bodyPost_ret_by (v := .tuple #[.agg #[.slice A L.length c, .int .i64 last], .int .i64 0, .int .i64 ck]) ?_ rfl ?_
      · rw [results_cell_tmp2 rfl]
        go_simp
      · rw [HX.out]
        exact ⟨_, rfl, stored_nodes N1.out (by omega) BX1.out.2.2, stored_below B1.out (by omega), Or.inl rfl⟩
  · have te : (de == 0) = false := by simpa using ke
    have HX : Hid (R = (⟨L, last⟩, 0, de)) := HF.out de (HE.out.trans (if_pos ke)) ke
    have y0 := BX1.out.r0
    have y1 := BX1.out.r1
    have g0 := BX1.out.f0
    have g1 := BX1.out.f1
    clear ke HE
    go_wp2_with fail
    refine bodyPost_ret_by (v := .tuple #[.agg #[.slice A L.length c, .int .i64 last], .int .i64 0, .int .i64 de]) ?_ rfl ?_
    · rw [results_cell_tmp2 rfl]
      go_simp
    · rw [HX.out]
      exact ⟨_, rfl, stored_nodes N1.out (by omega) BX1.out.2.2, stored_below B1.out (by omega), Or.inl rfl⟩
end Go.Proofs.YtdnedeeocpaolaaDoor.W07
/-
  Layer 7 (tree), walks: the plain answers New and Move: what each returns, Move at every right tree; new memory may be laid, nothing that was there is changed.
-/
namespace Go.Proofs.YtdnedeeocpaolaaDoor.W07
open Go Go.RowKit Go.Proofs.YtdnedeeocpaolaaDoor.Strs Go.Proofs.YtdnedeeocpaolaaDoor.Recs Go.Proofs.YtdnedeeocpaolaaDoor.M07
open Go.Proofs.YtdnedeeocpaolaaDoor.M06 (Ent)
open Go.Proofs.YtdnedeeocpaolaaDoor.M03 (check)
open Go.Proofs.YtdnedeeocpaolaaDoor.W03 (refCheck_any)
open Go.Proofs.YtdnedeeocpaolaaDoor.Kit (ret_str ret_bool ret_int mk_of mk_bytes ba_ext below_draws on)

theorem set_heap {w : World} {p : Nat} {cur : Array Value} {t : TypeId} {fz : Nat × Nat} (h : w.heap[p]? = some (.cells cur t fz)) (j : Nat) (u : Value) : (w.setCell ⟨p, j, none⟩ u).heap[p]? = some (.cells (cur.setIfInBounds j u) t fz) := by
  obtain ⟨hlt, hk⟩ := Array.getElem?_eq_some_iff.1 h
  show (w.heap.modify p _)[p]? = _
  rw [Array.getElem?_eq_getElem (by rw [Array.size_modify]; exact hlt), Array.getElem_modify_self, hk]
  rfl
theorem set_size (w : World) (q : Addr) (u : Value) : (w.setCell q u).heap.size = w.heap.size := by show (w.heap.modify _ _).size = _; rw [Array.size_modify]
/-- a box of a node -/
def NodeBox (w : World) (p : Nat) (x : Nd) : Prop := w.heap[p]? = some (.cells #[.int .i64 x.num, .int .i64 x.up, .string ⟨x.name.toArray⟩, .int .i64 x.kind, .string ⟨x.data.toArray⟩] 71 (0, 0))
section
variable {w w' : World} {p : Nat} {x : Nd}
theorem NodeBox.lt (h : NodeBox w p x) : p < w.heap.size := (Array.getElem?_eq_some_iff.1 h).1
theorem NodeBox.below (h : NodeBox w p x) (hb : Below w.heap.size w w') : NodeBox w' p x := (hb.block _ h.lt).trans h
theorem NodeBox.alloc (h : NodeBox w p x) (o : Obj) : NodeBox (w.alloc o) p x := h.below ((Below.refl w.heap.size w).alloc (Nat.le_refl _) o)
theorem NodeBox.new (w : World) (x : Nd) : NodeBox (w.alloc (.cells #[.int .i64 x.num, .int .i64 x.up, .string ⟨x.name.toArray⟩, .int .i64 x.kind, .string ⟨x.data.toArray⟩] 71)) w.heap.size x := heap_top _ _
theorem NodeBox.c0 (h : NodeBox w p x) : w.cell? ⟨p, 0, none⟩ = some (.int .i64 x.num) := cell_of_row w _ 0 _ _ (0, 0) h
theorem NodeBox.c1 (h : NodeBox w p x) : w.cell? ⟨p, 1, none⟩ = some (.int .i64 x.up) := cell_of_row w _ 1 _ _ (0, 0) h
theorem NodeBox.c2 (h : NodeBox w p x) : w.cell? ⟨p, 2, none⟩ = some (.string ⟨x.name.toArray⟩) := cell_of_row w _ 2 _ _ (0, 0) h
theorem NodeBox.c3 (h : NodeBox w p x) : w.cell? ⟨p, 3, none⟩ = some (.int .i64 x.kind) := cell_of_row w _ 3 _ _ (0, 0) h
theorem NodeBox.c4 (h : NodeBox w p x) : w.cell? ⟨p, 4, none⟩ = some (.string ⟨x.data.toArray⟩) := cell_of_row w _ 4 _ _ (0, 0) h
theorem NodeBox.fr (h : NodeBox w p x) (j : Nat) : w.frozen? ⟨p, j, none⟩ = false := frozen_of_row w _ j _ _ h
theorem NodeBox.moved (h : NodeBox w p x) (d : Int) (a : ByteArray) : NodeBox ((w.setCell ⟨p, 1, none⟩ (.int .i64 d)).setCell ⟨p, 2, none⟩ (.string a)) p { x with up := d, name := a.data.toList } := by
  have h2 := set_heap (set_heap h 1 (.int .i64 d)) 2 (.string a)
  have e : (⟨a.data.toList.toArray⟩ : ByteArray) = a := mk_bytes a
  unfold NodeBox
  rw [h2]
  show some (Obj.cells #[.int .i64 x.num, .int .i64 d, .string a, .int .i64 x.kind, .string ⟨x.data.toArray⟩] _ _) = some (Obj.cells #[.int .i64 x.num, .int .i64 d, .string ⟨a.data.toList.toArray⟩, .int .i64 x.kind, .string ⟨x.data.toArray⟩] _ _)
  rw [e]
end
theorem Boxed.cellAt {w : World} {k p j : Nat} {v u : Value} {last : Int} (h : Boxed w k v last) (h1 : k ≠ p) (h2 : k + 1 ≠ p) : Boxed (w.setCell ⟨p, j, none⟩ u) k v last :=
  ⟨(Below.heap_setCell _ _ _ _ (by exact h1)).trans h.1, (Below.heap_setCell _ _ _ _ (by exact h2)).trans h.2.1, by rw [set_size]; exact h.2.2⟩
theorem NodeBox.cellAt {w : World} {p q j : Nat} {x : Nd} {u : Value} (h : NodeBox w p x) (h1 : p ≠ q) : NodeBox (w.setCell ⟨q, j, none⟩ u) p x := (Below.heap_setCell _ _ _ _ (by exact h1)).trans h
theorem Boxed.stored {w : World} {k : Nat} {v : Value} {last : Int} (h : Boxed w k v last) (u : Value) (l : Int) : Boxed ((w.setCell ⟨k, 0, none⟩ u).setCell ⟨k, 1, none⟩ (.int .i64 l)) k u l := by
  refine ⟨set_heap (set_heap h.1 0 u) 1 (.int .i64 l), ?_, by rw [set_size, set_size]; exact h.2.2⟩
  exact (Below.heap_setCell _ _ _ _ (by show k + 1 ≠ k; omega)).trans ((Below.heap_setCell _ _ _ _ (by show k + 1 ≠ k; omega)).trans h.2.1)
theorem cut_len (t : Tr) (d : Int) (s : Bytes) : (cut t d s).1.L.length ≤ t.L.length := by
  unfold cut
  split
  · exact Nat.le_refl _
  · split
    · exact Nat.le_refl _
    · split
      · exact Nat.le_refl _
      · exact List.length_filter_le _ _
theorem cut_last (t : Tr) (d : Int) (s : Bytes) : (cut t d s).1.last = t.last := by
  unfold cut
  split
  · rfl
  · split
    · rfl
    · split <;> rfl
theorem right_full {t : Tr} (h : Right t) : 0 < t.L.length := by
  obtain ⟨r, hr⟩ := h.root
  rw [hr]; simp

end Go.Proofs.YtdnedeeocpaolaaDoor.W07
/-
  Layer 7 (tree), a walk: the plain answer's New: a tree with Root alone, in new memory; nothing that was there is changed.
-/
namespace Go.Proofs.YtdnedeeocpaolaaDoor.W07
set_option maxRecDepth 100000
open Go Go.RowKit Go.Proofs.YtdnedeeocpaolaaDoor.Strs Go.Proofs.YtdnedeeocpaolaaDoor.Recs Go.Proofs.YtdnedeeocpaolaaDoor.M07
open Go.Proofs.YtdnedeeocpaolaaDoor.Kit (ret_str ret_bool ret_int mk_of mk_bytes ba_ext below_draws on)

/-- what a call returns that hands out a tree -/
def TreeNew (w : World) (t : Tr) (e : Ending) (w' : World) : Prop := ∃ u, e = .returned (.agg #[u, .int .i64 t.last]) ∧ Nodes w'.heap.size w' u t.L ∧ Below w.heap.size w w' ∧ ∃ g n c, u = .slice (some ⟨g, 0, none⟩) n c ∧ w.heap.size ≤ g
set_option maxHeartbeats 1000000 in
theorem refNew_any (w : World) : Calls Tryd.prog 25 #[] w (TreeNew w new) := by
  have HN : Hid (∀ W : World, Nodes (W.alloc (.cells #[.int .i64 1, .int .i64 1, .string ⟨#[]⟩, .int .i64 1, .string ⟨#[]⟩] 71)).heap.size (W.alloc (.cells #[.int .i64 1, .int .i64 1, .string ⟨#[]⟩, .int .i64 1, .string ⟨#[]⟩] 71)) (.slice (some ⟨W.heap.size, 0, none⟩) 1 1) new.L) := by
    show ∀ W : World, _
    intro W
    refine Recs.of_own nodeC_len rfl (base := W.heap.size) (e := 71) (n := 1) ⟨rfl, Or.inr ⟨W.heap.size, 1, #[.int .i64 1, .int .i64 1, .string ⟨#[]⟩, .int .i64 1, .string ⟨#[]⟩], rfl, Nat.le_refl _, heap_top _ _, Nat.le_refl _, by decide, rfl, rfl⟩⟩
  go_enter Tryd.func25, Tryd.ntmps25
  go_wp2_with fail
  refine bodyPost_ret_by (v := .agg #[.slice (some ⟨w.heap.size + 1, 0, none⟩) 1 1, .int .i64 1]) ?_ rfl ⟨_, rfl, ?_, below_two w _ _, _, _, _, rfl, by omega⟩
  · rw [results_cell_one rfl]
    go_simp
  · have h := HN.out (w.alloc (.cells #[.slice (some ⟨w.heap.size + 1, 0, none⟩) 1 1, .int .i64 1] 28))
    simp only [World.alloc_size] at h ⊢
    exact h
end Go.Proofs.YtdnedeeocpaolaaDoor.W07
