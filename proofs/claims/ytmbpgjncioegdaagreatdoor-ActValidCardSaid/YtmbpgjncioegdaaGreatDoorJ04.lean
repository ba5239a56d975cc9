/-
  Texts joined, in build order, each with its own comment and its own conditions: W07Set, W07Cut, W07Put.
-/
import Derived.Test.YtmbpgjncioegdaaGreatDoorJ03
/-
  Layer 7 (tree), walks: the plain answers Set and Cut: what each returns; new memory may be laid, nothing that was there is changed.
-/
namespace Go.Proofs.YtmbpgjncioegdaaGreatDoor.W07
set_option maxRecDepth 100000
open Go Go.RowKit Go.Proofs.YtmbpgjncioegdaaGreatDoor.Strs Go.Proofs.YtmbpgjncioegdaaGreatDoor.Recs Go.Proofs.YtmbpgjncioegdaaGreatDoor.M07
open Go.Proofs.YtmbpgjncioegdaaGreatDoor.M06 (Ent)
open Go.Proofs.YtmbpgjncioegdaaGreatDoor.Kit (ret_str ret_bool ret_int mk_of mk_bytes ba_ext below_draws on)

theorem heap_two_a (w : World) (a b : Obj) : ((w.alloc a).alloc b).heap[w.heap.size]? = some a := by
  rw [Below.heap_alloc _ _ _ (by rw [World.alloc_size]; omega), heap_top]
theorem heap_two_b (w : World) (a b : Obj) : ((w.alloc a).alloc b).heap[w.heap.size + 1]? = some b := by
  rw [← World.alloc_size w a, heap_top]
theorem size_two (w : World) (a b : Obj) : ((w.alloc a).alloc b).heap.size = w.heap.size + 1 + 1 := by rw [World.alloc_size, World.alloc_size]
/-- a box of a tree, and the result's box, as they lie -/
def Boxed (w : World) (k : Nat) (v : Value) (last : Int) : Prop := w.heap[k]? = some (.cells #[v, .int .i64 last] 30 (0, 0)) ∧ w.heap[k + 1]? = some (.cells #[.slice none 0 0, .int .i64 0] 30 (0, 0)) ∧ k + 1 < w.heap.size
section
variable {w w' : World} {k : Nat} {v : Value} {last : Int}
theorem Boxed.below (h : Boxed w k v last) (hb : Below w.heap.size w w') : Boxed w' k v last :=
  ⟨(hb.block _ (by have := h.2.2; omega)).trans h.1, (hb.block _ h.2.2).trans h.2.1, Nat.lt_of_lt_of_le h.2.2 hb.size⟩
theorem Boxed.alloc (h : Boxed w k v last) (o : Obj) : Boxed (w.alloc o) k v last := h.below ((Below.refl w.heap.size w).alloc (Nat.le_refl _) o)
theorem Boxed.t0 (h : Boxed w k v last) : w.cell? ⟨k, 0, none⟩ = some v := cell_of_row w _ 0 _ _ (0, 0) h.1
theorem Boxed.t1 (h : Boxed w k v last) : w.cell? ⟨k, 1, none⟩ = some (.int .i64 last) := cell_of_row w _ 1 _ _ (0, 0) h.1
theorem Boxed.r0 (h : Boxed w k v last) : w.cell? ⟨k + 1, 0, none⟩ = some (.slice none 0 0) := cell_of_row w _ 0 _ _ (0, 0) h.2.1
theorem Boxed.r1 (h : Boxed w k v last) : w.cell? ⟨k + 1, 1, none⟩ = some (.int .i64 0) := cell_of_row w _ 1 _ _ (0, 0) h.2.1
theorem Boxed.f0 (h : Boxed w k v last) : w.frozen? ⟨k + 1, 0, none⟩ = false := frozen_of_row w _ 0 _ _ h.2.1
theorem Boxed.f1 (h : Boxed w k v last) : w.frozen? ⟨k + 1, 1, none⟩ = false := frozen_of_row w _ 1 _ _ h.2.1
/-- what stands behind the store of the result -/
theorem stored_nodes {u : Value} {L : List Nd} {B : Nat} {a : Value} {b : Int} (h : Nodes B w u L) (hB : B ≤ k + 1) (hs : k + 1 < w.heap.size) : Nodes ((w.setCell ⟨k + 1, 0, none⟩ a).setCell ⟨k + 1, 1, none⟩ (.int .i64 b)).heap.size ((w.setCell ⟨k + 1, 0, none⟩ a).setCell ⟨k + 1, 1, none⟩ (.int .i64 b)) u L := by
  refine Recs.more (Recs.keep h fun p hp => ?_) (by simp [World.setCell]; omega)
  have hne : ∀ j, (⟨k + 1, j, none⟩ : Addr) ≠ p := fun j e => by rw [← e] at hp; exact absurd hp (by show ¬ k + 1 < B; omega)
  have e1 : ∀ (w' : World) (j : Nat) (u : Value), (w'.setCell ⟨k + 1, j, none⟩ u).cell? p = w'.cell? p := fun w' j u => World.cell?_setCell_other (h := hne j) ..
  rw [e1, e1]
end
theorem stored_other {w : World} {k g n c : Nat} {L : List Nd} {a b : Value} (h : Nodes w.heap.size w (.slice (some ⟨g, 0, none⟩) n c) L) (hne : k + 1 < g) : Nodes ((w.setCell ⟨k + 1, 0, none⟩ a).setCell ⟨k + 1, 1, none⟩ b).heap.size ((w.setCell ⟨k + 1, 0, none⟩ a).setCell ⟨k + 1, 1, none⟩ b) (.slice (some ⟨g, 0, none⟩) n c) L := by
  refine Recs.more (Recs.other h fun p hp => ?_) (by simp [World.setCell])
  have hne : ∀ j, (⟨k + 1, j, none⟩ : Addr) ≠ p := fun j e => by
    have : k + 1 = g := by rw [← hp, ← e]
    omega
  have e1 : ∀ (w' : World) (j : Nat) (u : Value), (w'.setCell ⟨k + 1, j, none⟩ u).cell? p = w'.cell? p := fun w' j u => World.cell?_setCell_other (h := hne j) ..
  rw [e1, e1]
theorem stored_below {w w' : World} {k : Nat} {a b : Value} (h : Below w.heap.size w w') (hk : w.heap.size ≤ k + 1) : Below w.heap.size w ((w'.setCell ⟨k + 1, 0, none⟩ a).setCell ⟨k + 1, 1, none⟩ b) :=
  (h.setCell hk _).setCell hk _
theorem boxed_new (w : World) (v : Value) (last : Int) : Boxed ((w.alloc (.cells #[v, .int .i64 last] 30)).alloc (.cells #[.slice none 0 0, .int .i64 0] 30)) w.heap.size v last :=
  ⟨heap_two_a _ _ _, heap_two_b _ _ _, by rw [size_two]; omega⟩
/-- a slice handed out: the one that came in, an empty one, or one in memory from S on -/
def FromOr (v : Value) (S : Nat) (u : Value) : Prop := u = v ∨ u = .slice none 0 0 ∨ ∃ g n c, u = .slice (some ⟨g, 0, none⟩) n c ∧ S ≤ g
/-- what a call returns that hands out a tree and an error -/
def TreeErr (v : Value) (w : World) (R : Tr × Int) (e : Ending) (w' : World) : Prop := ∃ u, e = .returned (.tuple #[.agg #[u, .int .i64 R.1.last], .int .i64 R.2]) ∧ Nodes w'.heap.size w' u R.1.L ∧ Below w.heap.size w w' ∧ FromOr v w.heap.size u

set_option maxHeartbeats 2000000 in
theorem refSet_any (v : Value) (L : List Nd) (last n : Int) (s : ByteArray) (hs : s.size ≤ maxLen) (w : World) (h : Nodes w.heap.size w v L) (hn : L.length ≤ 1099511627776) (h0 : 0 < L.length) :
    Calls Tryz.prog 77 #[.agg #[v, .int .i64 last], .int .i64 n, .string s] w (TreeErr v w (set ⟨L, last⟩ n s.data.toList)) := by
  have HA := Lib.hid (refAt_any v L last n w.heap.size ((w.alloc (.cells #[v, .int .i64 last] 30)).alloc (.cells #[.slice none 0 0, .int .i64 0] 30)) ((h.alloc (Nat.le_refl _) _).keep fun p hp => World.cell?_alloc_lt _ _ p (by rw [World.alloc_size]; omega)) (by rw [size_two]; omega) hn)
  have HBX := Lib.hid (boxed_new w v last)
  have HB0 := Lib.hid (below_two w (.cells #[v, .int .i64 last] 30) (.cells #[.slice none 0 0, .int .i64 0] 30))
  have H := Lib.hid h
  obtain ⟨A, c, rfl, hA1, hA2⟩ := h.form
  clear h
  have HSET : Hid (set ⟨L, last⟩ n s.data.toList = if (nodeAt L n).kind = 0 then (⟨L, last⟩, 5) else if (nodeAt L n).kind = 1 then (⟨L, last⟩, 8) else if mayErr (nodeAt L n).kind s.data.toList ≠ 0 then (⟨L, last⟩, mayErr (nodeAt L n).kind s.data.toList) else (withNode ⟨L, last⟩ { nodeAt L n with data := s.data.toList }, 0)) := rfl
  generalize set ⟨L, last⟩ n s.data.toList = R at *
  generalize nodeAt L n = x at *
  unfold nodeV at HA
  go_enter Tryz.func77, Tryz.ntmps77
  go_wp2_with fail
  refine HA.out.mono ?_
  rintro e w1 ⟨rfl, hb1⟩
  have BX1 := Lib.hid (HBX.out.below hb1)
  have B1 := Lib.hid (HB0.out.trans (hb1.mono (by rw [size_two]; omega)))
  have N1 := Lib.hid (H.out.below B1.out)
  clear hb1
  have BX2 := BX1.out.alloc (.cells #[.int .i64 x.num, .int .i64 x.up, .string ⟨x.name.toArray⟩, .int .i64 x.kind, .string ⟨x.data.toArray⟩] 69)
  have x0 := BX2.t0
  have x1 := BX2.t1
  have y0 := BX2.r0
  have y1 := BX2.r1
  have g0 := BX2.f0
  have g1 := BX2.f1
  have z2 : w.heap.size + 1 < (w1.alloc (.cells #[.int .i64 x.num, .int .i64 x.up, .string ⟨x.name.toArray⟩, .int .i64 x.kind, .string ⟨x.data.toArray⟩] 69)).heap.size := BX2.2.2
  have N2 := Lib.hid (N1.out.alloc B1.out.size (.cells #[.int .i64 x.num, .int .i64 x.up, .string ⟨x.name.toArray⟩, .int .i64 x.kind, .string ⟨x.data.toArray⟩] 69))
  have B2 := Lib.hid (B1.out.alloc B1.out.size (.cells #[.int .i64 x.num, .int .i64 x.up, .string ⟨x.name.toArray⟩, .int .i64 x.kind, .string ⟨x.data.toArray⟩] 69))
  clear BX2
  by_cases k0 : x.kind = 0
  · have t0 : (x.kind == 0) = true := by simpa using k0
    have HX : Hid (R = (⟨L, last⟩, 5)) := HSET.out.trans (if_pos k0)
    clear k0
    go_wp2_with fail
    refine bodyPost_ret_by (v := .tuple #[.agg #[.slice A L.length c, .int .i64 last], .int .i64 5]) ?_ rfl ?_
    · rw [results_cell_tmp rfl]
      go_simp
    · rw [HX.out]
      exact ⟨_, rfl, stored_nodes N2.out (by omega) z2, stored_below B2.out (by omega), Or.inl rfl⟩
  · have t0 : (x.kind == 0) = false := by simpa using k0
    by_cases k1 : x.kind = 1
    · have t1 : (x.kind == 1) = true := by simpa using k1
      have HX : Hid (R = (⟨L, last⟩, 8)) := HSET.out.trans ((if_neg k0).trans (if_pos k1))
      clear k0 k1
      go_wp2_with fail
      refine bodyPost_ret_by (v := .tuple #[.agg #[.slice A L.length c, .int .i64 last], .int .i64 8]) ?_ rfl ?_
      · rw [results_cell_tmp rfl]
        go_simp
      · rw [HX.out]
        exact ⟨_, rfl, stored_nodes N2.out (by omega) z2, stored_below B2.out (by omega), Or.inl rfl⟩
    · have t1 : (x.kind == 1) = false := by simpa using k1
      have HM := Lib.hid (refMay_any x.kind s hs)
      have HS3 : Hid (R = if mayErr x.kind s.data.toList ≠ 0 then (⟨L, last⟩, mayErr x.kind s.data.toList) else (withNode ⟨L, last⟩ { x with data := s.data.toList }, 0)) := HSET.out.trans ((if_neg k0).trans (if_neg k1))
      generalize mayErr x.kind s.data.toList = er at *
      by_cases ke : er = 0
      · have te : (er == 0) = true := by simpa using ke
        have HX : Hid (R = (withNode ⟨L, last⟩ { x with data := s.data.toList }, 0)) := HS3.out.trans (if_neg (by simpa using ke))
        clear k0 k1 HSET HS3
        subst ke
        go_wp2_with fail
        refine (HM.out _).mono ?_
        rintro e w2 ⟨rfl, rfl⟩
        clear x0 x1 y0 y1 g0 g1 N2 B2 z2
        have BX3 := BX1.out.alloc (.cells #[.int .i64 x.num, .int .i64 x.up, .string ⟨x.name.toArray⟩, .int .i64 x.kind, .string s] 69)
        have x0 := BX3.t0
        have x1 := BX3.t1
        have HW := Lib.hid (refWith_any (.slice A L.length c) L last { x with data := s.data.toList } w.heap.size (w1.alloc (.cells #[.int .i64 x.num, .int .i64 x.up, .string ⟨x.name.toArray⟩, .int .i64 x.kind, .string s] 69)) (N1.out.alloc B1.out.size _) (by rw [World.alloc_size]; have := B1.out.size; omega) hn h0)
        have HBX3 := Lib.hid BX3
        have B3 := Lib.hid (B1.out.alloc B1.out.size (.cells #[.int .i64 x.num, .int .i64 x.up, .string ⟨x.name.toArray⟩, .int .i64 x.kind, .string s] 69))
        unfold nodeV at HW
        simp only [mk_bytes] at HW
        clear BX3
        go_wp2_with fail
        refine HW.out.mono ?_
        rintro e w3 ⟨g3, n3, c3, rfl, hg3, hn3, hb3⟩
        have BX4 := HBX3.out.below hb3
        have B4 := Lib.hid (on B3.out hb3)
        have y0 := BX4.r0
        have y1 := BX4.r1
        have g0 := BX4.f0
        have g1 := BX4.f1
        have z4 := BX4.2.2
        have N4 := Lib.hid hn3
        clear hn3 hb3 BX4
        go_wp2_with fail
        refine bodyPost_ret_by (v := .tuple #[.agg #[.slice (some ⟨g3, 0, none⟩) n3 c3, .int .i64 last], .int .i64 0]) ?_ rfl ?_
        · rw [results_cell_tmp rfl]
          go_simp
        · rw [HX.out]
          exact ⟨_, rfl, stored_other N4.out (by have := B1.out.size; rw [World.alloc_size] at hg3; have := BX1.out.2.2; omega), stored_below B4.out (by omega), Or.inr (Or.inr ⟨_, _, _, rfl, by have := B1.out.size; rw [World.alloc_size] at hg3; omega⟩)⟩
      · have te : (er == 0) = false := by simpa using ke
        have HX : Hid (R = (⟨L, last⟩, er)) := HS3.out.trans (if_pos ke)
        clear k0 k1 ke HSET HS3
        go_wp2_with fail
        refine (HM.out _).mono ?_
        rintro e w2 ⟨rfl, rfl⟩
        go_wp2_with fail
        refine bodyPost_ret_by (v := .tuple #[.agg #[.slice A L.length c, .int .i64 last], .int .i64 er]) ?_ rfl ?_
        · rw [results_cell_tmp rfl]
          go_simp
        · rw [HX.out]
          exact ⟨_, rfl, stored_nodes N2.out (by omega) z2, stored_below B2.out (by omega), Or.inl rfl⟩
end Go.Proofs.YtmbpgjncioegdaaGreatDoor.W07
/-
  Layer 7 (tree), a walk: the plain answer's Cut: a tree without a node, in new memory, or what is wrong; nothing that was there is changed.
-/
namespace Go.Proofs.YtmbpgjncioegdaaGreatDoor.W07
set_option maxRecDepth 100000
open Go Go.RowKit Go.Proofs.YtmbpgjncioegdaaGreatDoor.Strs Go.Proofs.YtmbpgjncioegdaaGreatDoor.Recs Go.Proofs.YtmbpgjncioegdaaGreatDoor.M07
open Go.Proofs.YtmbpgjncioegdaaGreatDoor.M06 (Ent)
open Go.Proofs.YtmbpgjncioegdaaGreatDoor.Kit (ret_str ret_bool ret_int mk_of mk_bytes ba_ext below_draws on)

theorem own_nodes_nil (w : World) (base : Nat) : OwnNodes w base (.slice none 0 0) [] := World.ownsRow_nil _ _ _ _
theorem own_nodes_alloc {w : World} {base : Nat} {v : Value} {L : List Nd} (h : OwnNodes w base v L) (o : Obj) : (w.alloc o).ownsRow base 69 5 v L.length (L.flatMap nodeC) := World.ownsRow.alloc h o
theorem own_nodes_more {w : World} {base : Nat} {v : Value} {out : List Nd} {x : Nd} (h : w.ownsRow base 69 5 v (out.length + 1) (out.flatMap nodeC ++ [.int .i64 x.num, .int .i64 x.up, .string ⟨x.name.toArray⟩, .int .i64 x.kind, .string ⟨x.data.toArray⟩])) : OwnNodes w base v (out ++ [x]) := by
  unfold OwnNodes
  rw [List.length_append, List.flatMap_append]
  have : ([x].flatMap nodeC) = [.int .i64 x.num, .int .i64 x.up, .string ⟨x.name.toArray⟩, .int .i64 x.kind, .string ⟨x.data.toArray⟩] := by simp [nodeC, strV]
  rw [this]; exact h
theorem stored_own {w : World} {k base : Nat} {u : Value} {L : List Nd} {a b : Value} (h : OwnNodes w base u L) (hne : k + 1 < base) : Nodes ((w.setCell ⟨k + 1, 0, none⟩ a).setCell ⟨k + 1, 1, none⟩ b).heap.size ((w.setCell ⟨k + 1, 0, none⟩ a).setCell ⟨k + 1, 1, none⟩ b) u L := by
  have hr := h.reads
  rcases h.2 with ⟨rfl, h0⟩ | ⟨g, cap, cur, rfl, hb, -⟩
  · have : L = [] := List.length_eq_zero_iff.1 h0
    subst this
    exact recs_nil _ _ _ _
  · exact stored_other hr (by omega)
theorem filt_in {L : List Nd} {n : Int} {k : Nat} (hk : k < L.length) (h : ¬ (L[k]).num = n) : (L.take (k + 1)).filter (fun a => decide (a.num ≠ n)) = (L.take k).filter (fun a => decide (a.num ≠ n)) ++ [L[k]] := by
  rw [List.take_succ_eq_append_getElem hk, List.filter_append]; simp [h]
theorem filt_out {L : List Nd} {n : Int} {k : Nat} (hk : k < L.length) (h : (L[k]).num = n) : (L.take (k + 1)).filter (fun a => decide (a.num ≠ n)) = (L.take k).filter (fun a => decide (a.num ≠ n)) := by
  rw [List.take_succ_eq_append_getElem hk, List.filter_append]; simp [h]

/-- nodes that lie below B, or in a row of one's own from S on -/
def Apart (B S : Nat) (w : World) (u : Value) (L : List Nd) : Prop := Nodes B w u L ∨ ∃ base, S ≤ base ∧ OwnNodes w base u L
theorem Apart.reads {B S : Nat} {w : World} {u : Value} {L : List Nd} (h : Apart B S w u L) (hB : B ≤ w.heap.size) : Nodes w.heap.size w u L := by
  rcases h with h | ⟨base, _, h⟩
  · exact h.more hB
  · exact h.reads
theorem own_cell {w : World} {base q j : Nat} {u : Value} {L : List Nd} {a : Value} (h : OwnNodes w base u L) (hq : q < base) : OwnNodes (w.setCell ⟨q, j, none⟩ a) base u L := by
  refine ⟨h.1, ?_⟩
  rcases h.2 with h0 | ⟨g, cap, cur, e, hb, hh, rest⟩
  · exact Or.inl h0
  · refine Or.inr ⟨g, cap, cur, e, hb, ?_, rest⟩
    rw [Below.heap_setCell _ _ _ _ (by show g ≠ q; omega)]; exact hh
theorem Apart.cell {B S : Nat} {w : World} {q j : Nat} {u : Value} {L : List Nd} {a : Value} (h : Apart B S w u L) (h1 : B ≤ q) (h2 : q < S) : Apart B S (w.setCell ⟨q, j, none⟩ a) u L := by
  rcases h with h | ⟨base, hb, h⟩
  · exact Or.inl (h.below ((Below.refl B w).setCell h1 _))
  · exact Or.inr ⟨base, hb, own_cell h (by omega)⟩
theorem Apart.alloc {B S : Nat} {w : World} {u : Value} {L : List Nd} (h : Apart B S w u L) (hB : B ≤ w.heap.size) (o : Obj) : Apart B S (w.alloc o) u L := by
  rcases h with h | ⟨base, hb, h⟩
  · exact Or.inl (h.alloc hB o)
  · exact Or.inr ⟨base, hb, World.ownsRow.alloc h o⟩
/-- what a call returns that hands out a tree and an error, and where the tree's nodes lie -/
def TreeOut (B : Nat) (v : Value) (w : World) (R : Tr × Int) (e : Ending) (w' : World) : Prop := ∃ u, e = .returned (.tuple #[.agg #[u, .int .i64 R.1.last], .int .i64 R.2]) ∧ Apart B w.heap.size w' u R.1.L ∧ Below w.heap.size w w' ∧ FromOr v w.heap.size u
theorem TreeOut.err {B : Nat} {v : Value} {w w' : World} {R : Tr × Int} {e : Ending} (h : TreeOut B v w R e w') (hB : B ≤ w.heap.size) : TreeErr v w R e w' := by
  obtain ⟨u, he, ha, hb, hf⟩ := h
  exact ⟨u, he, ha.reads (Nat.le_trans hB hb.size), hb, hf⟩

set_option maxRecDepth 100000 in
set_option maxHeartbeats 2000000 in
theorem refCut_out (v : Value) (L : List Nd) (last d : Int) (s : ByteArray) (B : Nat) (w : World) (hv : Nodes B w v L) (hB : B ≤ w.heap.size) (hn : L.length ≤ 1099511627776) :
    Calls Tryz.prog 74 #[.agg #[v, .int .i64 last], .int .i64 d, .string s] w (TreeOut B v w (cut ⟨L, last⟩ d s.data.toList)) := by
  have HV := Lib.hid (fun (w' : World) (hb : Below w.heap.size w w') => hv.below (hb.mono hB))
  have h := hv.more hB
  clear hv
  obtain ⟨i0, hi, hz0, hz1, hz2⟩ := info_parts node_info
  have HBX := Lib.hid (boxed_new w v last)
  have HB0 := Lib.hid (below_two w (.cells #[v, .int .i64 last] 30) (.cells #[.slice none 0 0, .int .i64 0] 30))
  have HN0 := Lib.hid (h.below HB0.out)
  have HD := Lib.hid (fun (w' : World) (h : Nodes w.heap.size w' v L) (hB : w.heap.size ≤ w'.heap.size) => refDir_any v L last d w.heap.size w' h hB hn)
  have HI := Lib.hid (fun (w' : World) (h : Nodes w.heap.size w' v L) (hB : w.heap.size ≤ w'.heap.size) => refIn_any v L last d s w.heap.size w' h hB hn)
  have HL := Lib.hid (fun (w' : World) (h : Nodes w.heap.size w' v L) (hB : w.heap.size ≤ w'.heap.size) => refList_any v L last (inDir L d s.data.toList) w.heap.size w' h hB hn)
  obtain ⟨A, c, rfl, hA1, hA2⟩ := h.form
  clear h
  unfold maxLen at hA2
  have HC : Hid (cut ⟨L, last⟩ d s.data.toList = if dirErr L d ≠ 0 then (⟨L, last⟩, dirErr L d) else if inDir L d s.data.toList = 0 then (⟨L, last⟩, 5) else if listDir L (inDir L d s.data.toList) ≠ [] then (⟨L, last⟩, 9) else (⟨L.filter (fun a => decide (a.num ≠ inDir L d s.data.toList)), last⟩, 0)) := rfl
  have hll := list_len L (inDir L d s.data.toList)
  generalize cut ⟨L, last⟩ d s.data.toList = R at *
  generalize dirErr L d = de at *
  generalize listDir L (inDir L d s.data.toList) = E at *
  generalize inDir L d s.data.toList = nn at *
  go_enter Tryz.func74, Tryz.ntmps74
  go_wp2_with fail
  refine (HD.out _ HN0.out HB0.out.size).mono ?_
  rintro e w1 ⟨rfl, hb1⟩
  have BX1 := Lib.hid (HBX.out.below hb1)
  have B1 := Lib.hid (on HB0.out hb1)
  have N1 := Lib.hid (HN0.out.below (hb1.mono HB0.out.size))
  clear hb1
  have x0 := BX1.out.t0
  have x1 := BX1.out.t1
  by_cases ke : de = 0
  · have te : (de == 0) = true := by simpa using ke
    have HC2 := Lib.hid (HC.out.trans (if_neg (by simpa using ke)))
    clear ke HC
    go_wp2_with fail
    refine (HI.out _ N1.out B1.out.size).mono ?_
    rintro e w2 ⟨rfl, hb2⟩
    have BX2 := Lib.hid (BX1.out.below hb2)
    have B2 := Lib.hid (on B1.out hb2)
    have N2 := Lib.hid (N1.out.below (hb2.mono B1.out.size))
    clear hb2 x0 x1 BX1 B1 N1
    have x0 := BX2.out.t0
    have x1 := BX2.out.t1
    by_cases kn : nn = 0
    · have tn : (nn == 0) = true := by simpa using kn
      have HX : Hid (R = (⟨L, last⟩, 5)) := HC2.out.trans (if_pos kn)
      have y0 := BX2.out.r0
      have y1 := BX2.out.r1
      have g0 := BX2.out.f0
      have g1 := BX2.out.f1
      clear kn HC2
      go_wp2_with fail
      refine bodyPost_ret_by (v := .tuple #[.agg #[.slice A L.length c, .int .i64 last], .int .i64 5]) ?_ rfl ?_
      · rw [results_cell_tmp rfl]
        go_simp
      · rw [HX.out]
        exact ⟨_, rfl, Or.inl (HV.out _ (stored_below B2.out (by omega))), stored_below B2.out (by omega), Or.inl rfl⟩
    · have tn : (nn == 0) = false := by simpa using kn
      have HC3 := Lib.hid (HC2.out.trans (if_neg kn))
      clear kn HC2
      go_wp2_with fail
      refine (HL.out _ N2.out B2.out.size).mono ?_
      rintro e w3 ⟨ve, rfl, he, hb3⟩
      have BX3 := Lib.hid (BX2.out.below hb3)
      have B3 := Lib.hid (on B2.out hb3)
      have N3 := Lib.hid (N2.out.below (hb3.mono B2.out.size))
      obtain ⟨Ae, ce, rfl, hE1, hE2⟩ := he.form
      unfold maxLen at hE2
      clear hb3 x0 x1 BX2 B2 N2 he
      have x0 := BX3.out.t0
      have x1 := BX3.out.t1
      by_cases kE : 0 < E.length
      · have HX : Hid (R = (⟨L, last⟩, 9)) := HC3.out.trans (if_pos (fun e => by rw [e] at kE; simp at kE))
        have y0 := BX3.out.r0
        have y1 := BX3.out.r1
        have g0 := BX3.out.f0
        have g1 := BX3.out.f1
        clear HC3
        go_wp2_with fail
        refine bodyPost_ret_by (v := .tuple #[.agg #[.slice A L.length c, .int .i64 last], .int .i64 9]) ?_ rfl ?_
        · rw [results_cell_tmp rfl]
          go_simp
        · rw [HX.out]
          exact ⟨_, rfl, Or.inl (HV.out _ (stored_below B3.out (by omega))), stored_below B3.out (by omega), Or.inl rfl⟩
      · have HX : Hid (R = (⟨L.filter (fun a => decide (a.num ≠ nn)), last⟩, 0)) := HC3.out.trans (if_neg (by
          have : E = [] := List.length_eq_zero_iff.1 (by omega)
          simpa using this))
        clear HC3 HD HI HL
        generalize hm : L.length = m at *
        have HM := Lib.hid hm
        clear hm
        go_wp2_with fail
        go_loopw [10, 11] (fun u i wr => ∃ (k : Nat) (out : List Nd), k ≤ m ∧ i = .int .i64 k ∧ out.length ≤ k ∧ Hid (out = (L.take k).filter (fun a => decide (a.num ≠ nn))) ∧ Hid (OwnNodes wr w3.heap.size u out) ∧ Below w3.heap.size w3 wr) (fun _ i _ => m - (intOf i).toNat)
        case atStart => exact ⟨0, [], Nat.zero_le _, rfl, Nat.le_refl _, rfl, own_nodes_nil _ _, Below.refl _ _⟩
        case round =>
          clear x0 x1
          obtain ⟨k, out, hk, rfl, hout, hr, hown, hb⟩ := hrel
          have hbs := hb.size
          have x0 := (BX3.out.below hb).t0
          have x1 := (BX3.out.below hb).t1
          by_cases hlt : k < m
          · obtain ⟨b, o, hl1, rfl, hbl, hc0, hc1, hc2, hc3, hc4⟩ := Nodes.at_ (N3.out.below (hb.mono B3.out.size)) hlt
            by_cases hnu : (L[k]).num = nn
            · have t4 : ((L[k]).num == nn) = true := by simpa using hnu
              have HXX := Lib.hid (hr.out.trans (filt_out hl1 hnu).symm)
              clear hnu
              go_wp2_with fail
              go_roundw
              case rel => exact ⟨k + 1, out, by omega, by go_num, by omega, HXX, hown, hb⟩
              case measure => simp [intOf]; omega
            · have t4 : ((L[k]).num == nn) = false := by simpa using hnu
              have HXX := Lib.hid (filt_in hl1 hnu)
              rw [← hr.out] at HXX
              clear hnu
              go_wp2_with (at_builtin; refine wpList_append_own _ rfl (.tmp 47) (.tmp 53) 28 rfl w3.heap.size 69 i0 (.agg #[.int .i64 0, .int .i64 0, .string ⟨#[]⟩, .int .i64 0, .string ⟨#[]⟩]) 5 56 Tryz.underlying28 hi hz0 hz1 hz2 rfl (by decide) _ _ _ rfl (own_nodes_alloc hown.out _) ⟨_, 0, none⟩ 1 1 [.int .i64 (L[k]).num, .int .i64 (L[k]).up, .string ⟨(L[k]).name.toArray⟩, .int .i64 (L[k]).kind, .string ⟨(L[k]).data.toArray⟩] rfl rfl (cells_new _ [_, _, _, _, _] _) (by intro u hu; simp at hu; rcases hu with rfl | rfl | rfl | rfl | rfl <;> rfl) (by unfold maxLen; omega) (by omega) (by simp; omega) ?_; intro v1 w4 hown1 hgrow1 _)
              have B5 := Lib.hid (W06.below_more2 hb hbs hown.out hgrow1)
              have O1 := Lib.hid (own_nodes_more hown1)
              clear hown1 hgrow1
              go_wp2
              go_roundw
              case rel => exact ⟨k + 1, _, by omega, by go_num, by rw [List.length_append]; simp; omega, HXX.symm, O1, B5.out⟩
              case measure => simp [intOf]; omega
          · have HXX : Hid (out = L.filter (fun a => decide (a.num ≠ nn))) := hr.out.trans (by rw [List.take_of_length_le (by rw [HM.out]; omega)])
            have y0 := (BX3.out.below hb).r0
            have y1 := (BX3.out.below hb).r1
            have g0 := (BX3.out.below hb).f0
            have g1 := (BX3.out.below hb).f1
            have hz := BX3.out.2.2
            have hoo := hown.out
            rcases hoo.2 with ⟨rfl, -⟩ | ⟨gg, cap, cur, rfl, hgb, -, -, -, -, -⟩
            · clear hoo
              go_wp2_with fail
              refine bodyPost_ret_by (v := .tuple #[.agg #[.slice none 0 0, .int .i64 last], .int .i64 0]) ?_ rfl ?_
              · rw [results_cell_tmp rfl]
                go_simp
              · rw [HX.out, ← HXX.out]
                exact ⟨_, rfl, Or.inr ⟨w3.heap.size, B3.out.size, own_cell (own_cell hown.out hz) hz⟩, stored_below (on B3.out hb) (by omega), Or.inr (Or.inl rfl)⟩
            · clear hoo
              go_wp2_with fail
              refine bodyPost_ret_by (v := .tuple #[.agg #[.slice (some ⟨gg, 0, none⟩) out.length cap, .int .i64 last], .int .i64 0]) ?_ rfl ?_
              · rw [results_cell_tmp rfl]
                go_simp
              · rw [HX.out, ← HXX.out]
                exact ⟨_, rfl, Or.inr ⟨w3.heap.size, B3.out.size, own_cell (own_cell hown.out hz) hz⟩, stored_below (on B3.out hb) (by omega), Or.inr (Or.inr ⟨_, _, _, rfl, Nat.le_trans B3.out.size hgb⟩)⟩
  · have te : (de == 0) = false := by simpa using ke
    have HX : Hid (R = (⟨L, last⟩, de)) := HC.out.trans (if_pos ke)
    have y0 := BX1.out.r0
    have y1 := BX1.out.r1
    have g0 := BX1.out.f0
    have g1 := BX1.out.f1
    clear ke HC
    go_wp2_with fail
    refine bodyPost_ret_by (v := .tuple #[.agg #[.slice A L.length c, .int .i64 last], .int .i64 de]) ?_ rfl ?_
    · rw [results_cell_tmp rfl]
      go_simp
    · rw [HX.out]
      exact ⟨_, rfl, Or.inl (HV.out _ (stored_below B1.out (by omega))), stored_below B1.out (by omega), Or.inl rfl⟩
theorem refCut_any (v : Value) (L : List Nd) (last d : Int) (s : ByteArray) (w : World) (h : Nodes w.heap.size w v L) (hn : L.length ≤ 1099511627776) :
    Calls Tryz.prog 74 #[.agg #[v, .int .i64 last], .int .i64 d, .string s] w (TreeErr v w (cut ⟨L, last⟩ d s.data.toList)) :=
  (refCut_out v L last d s w.heap.size w h (Nat.le_refl _) hn).mono fun _ _ h => h.err (Nat.le_refl _)
end Go.Proofs.YtmbpgjncioegdaaGreatDoor.W07
/-
  Layer 7 (tree), a walk: the plain answer's Put: a tree with a node more, in new memory, or what is wrong; nothing that was there is changed.
-/
namespace Go.Proofs.YtmbpgjncioegdaaGreatDoor.W07
set_option maxRecDepth 100000
open Go Go.RowKit Go.Proofs.YtmbpgjncioegdaaGreatDoor.Strs Go.Proofs.YtmbpgjncioegdaaGreatDoor.Recs Go.Proofs.YtmbpgjncioegdaaGreatDoor.M07
open Go.Proofs.YtmbpgjncioegdaaGreatDoor.M03 (check)
open Go.Proofs.YtmbpgjncioegdaaGreatDoor.W03 (refCheck_any)
open Go.Proofs.YtmbpgjncioegdaaGreatDoor.Kit (ret_str ret_bool ret_int mk_of mk_bytes ba_ext below_draws on)

theorem results_cell_tmp2 {fn : Func} {p u t : Tmp} {ty : TypeId} (h : fn.results = #[.cell p ty, .tmp u, .tmp t]) (tmps : Array Value) (P : Program) (w : World) :
    (results fn tmps).run P w = ((asAddr (tmps.getD p undef)).run P w).andThen fun a w₁ => ((loadVar ty a).run P w₁).andThen fun v w₂ => .ok (.tuple #[v, tmps.getD u undef, tmps.getD t undef]) w₂ := by
  simp only [results, h]
  simp [Sem.run_bind, Result.andThen]
theorem wrap_next {n : Int} (h1 : 0 ≤ n + 1) (h2 : n + 1 < 9223372036854775808) : IntKind.i64.wrap (n + 1) = n + 1 := by
  unfold IntKind.wrap
  have e : ((n + 1) % (2 ^ IntKind.i64.bits : Int)) = n + 1 := by
    show (n + 1) % (2 ^ 64 : Int) = n + 1
    omega
  simp only [e]
  rw [if_neg]
  simp only [Bool.and_eq_true, decide_eq_true_eq, not_and]
  intro _
  show ¬ n + 1 ≥ (2 ^ 63 : Int)
  omega
theorem alloc_news {w : World} {b o : Nat} {xs : List Value} (hb : b < w.heap.size) (h : ∀ j u, xs[j]? = some u → w.cell? ((⟨b, o, none⟩ : Addr).add j) = some u) (ob : Obj) : ∀ j u, xs[j]? = some u → (w.drew.alloc ob).cell? ((⟨b, o, none⟩ : Addr).add j) = some u := fun j u hj => by
  rw [World.cell?_alloc_lt _ _ _ (by rw [block_add]; exact hb)]
  exact h j u hj
theorem below_own {w wr w1 : World} {base : Nat} {v : Value} {n size : Nat} {xs : List Value} {e : TypeId} (hb : Below base w wr) (hbase : base ≤ wr.heap.size) (hown : wr.ownsRow base e size v n xs) (hg : wr.grownBy w1 v.ownBlock) : Below base w w1 :=
  hb.grown hg hbase (fun k hk => (hown.lt k hk).1)
theorem own_nodes_text {w : World} {base : Nat} {v : Value} {out : List Nd} {a b k : Int} {s x : ByteArray} (h : w.ownsRow base 69 5 v (out.length + 1) (out.flatMap nodeC ++ [.int .i64 a, .int .i64 b, .string s, .int .i64 k, .string x])) : OwnNodes w base v (out ++ [⟨a, b, s.data.toList, k, x.data.toList⟩]) :=
  own_nodes_more (x := ⟨a, b, s.data.toList, k, x.data.toList⟩) (by simp only [mk_bytes]; exact h)
/-- what Put returns -/
def TreePut (v : Value) (w : World) (R : Tr × Int × Int) (e : Ending) (w' : World) : Prop := ∃ u, e = .returned (.tuple #[.agg #[u, .int .i64 R.1.last], .int .i64 R.2.1, .int .i64 R.2.2]) ∧ Nodes w'.heap.size w' u R.1.L ∧ Below w.heap.size w w' ∧ FromOr v w.heap.size u
theorem put_fails {t : Tr} {d kind : Int} {s x : Bytes} {er : Int} (h : putErr t d s kind x = er) (he : er ≠ 0) : put t d s kind x = (t, 0, er) := by
  unfold put; rw [h, if_pos he]
theorem put_works {t : Tr} {d kind : Int} {s x : Bytes} (h : putErr t d s kind x = 0) : put t d s kind x = (⟨t.L ++ [⟨t.last + 1, d, s, kind, x⟩], t.last + 1⟩, t.last + 1, 0) := by
  unfold put; rw [h]; rfl

set_option maxHeartbeats 4000000 in
set_option maxRecDepth 100000 in
theorem refPut_any (v : Value) (L : List Nd) (last d kind : Int) (s x : ByteArray) (hx : x.size ≤ maxLen) (w : World) (h : Nodes w.heap.size w v L) (hn : L.length ≤ 1073741824) (h0' : 0 < L.length) (hl1 : -1 ≤ last) (hl2 : last ≤ 4611686018427387904) :
    Calls Tryz.prog 27 #[.agg #[v, .int .i64 last], .int .i64 d, .string s, .int .i64 kind, .string x] w (TreePut v w (put ⟨L, last⟩ d s.data.toList kind x.data.toList)) := by
  obtain ⟨i0, hi, hz0, hz1, hz2⟩ := info_parts node_info
  have HBX := Lib.hid (boxed_new w v last)
  have HB0 := Lib.hid (below_two w (.cells #[v, .int .i64 last] 30) (.cells #[.slice none 0 0, .int .i64 0] 30))
  have HN0 := Lib.hid (h.below HB0.out)
  have HD := Lib.hid (fun (w' : World) (h : Nodes w.heap.size w' v L) (hB : w.heap.size ≤ w'.heap.size) => refDir_any v L last d w.heap.size w' h hB (by omega))
  have HI := Lib.hid (fun (w' : World) (h : Nodes w.heap.size w' v L) (hB : w.heap.size ≤ w'.heap.size) => refIn_any v L last d s w.heap.size w' h hB (by omega))
  have HK := Lib.hid (refCheck_any s)
  have HM := Lib.hid (refMay_any kind x hx)
  have HFL := Lib.hid (flat_len nodeC_len L)
  have HNEWS := Lib.hid (fun (w' : World) (h : Nodes w.heap.size w' v L) => h)
  obtain ⟨A, c, rfl, hA1, hA2⟩ := h.form
  clear h
  unfold maxLen at hA2
  have HE : Hid (putErr ⟨L, last⟩ d s.data.toList kind x.data.toList = if dirErr L d ≠ 0 then dirErr L d else if check s.data.toList ≠ 0 then check s.data.toList else if 0 < inDir L d s.data.toList then 6 else if mayErr kind x.data.toList ≠ 0 then mayErr kind x.data.toList else if 4096 ≤ L.length then 12 else 0) := rfl
  have HF := Lib.hid (fun er => put_fails (t := ⟨L, last⟩) (d := d) (kind := kind) (s := s.data.toList) (x := x.data.toList) (er := er))
  have HWK := Lib.hid (put_works (t := ⟨L, last⟩) (d := d) (kind := kind) (s := s.data.toList) (x := x.data.toList))
  generalize put ⟨L, last⟩ d s.data.toList kind x.data.toList = R at *
  generalize putErr ⟨L, last⟩ d s.data.toList kind x.data.toList = pe at *
  generalize dirErr L d = de at *
  generalize check s.data.toList = ck at *
  generalize inDir L d s.data.toList = nn at *
  generalize mayErr kind x.data.toList = me at *
  go_enter Tryz.func27, Tryz.ntmps27
  go_wp2_with fail
  refine (HD.out _ HN0.out HB0.out.size).mono ?_
  rintro e w1 ⟨rfl, hb1⟩
  have BX1 := Lib.hid (HBX.out.below hb1)
  have B1 := Lib.hid (on HB0.out hb1)
  have N1 := Lib.hid (HN0.out.below (hb1.mono HB0.out.size))
  clear hb1
  have x0 := BX1.out.t0
  have x1 := BX1.out.t1
  by_cases ke : de = 0
  · have te : (de == 0) = true := by simpa using ke
    have HE2 := Lib.hid (HE.out.trans (if_neg (by simpa using ke)))
    clear ke HE
    by_cases kc : ck = 0
    · have tc : (ck == 0) = true := by simpa using kc
      have HE3 := Lib.hid (HE2.out.trans (if_neg (by simpa using kc)))
      clear kc HE2
      go_wp2_with fail
      refine (HK.out _).mono ?_
      rintro e w1' ⟨rfl, rfl⟩
      go_wp2_with fail
      refine (HI.out _ N1.out B1.out.size).mono ?_
      rintro e w2 ⟨rfl, hb2⟩
      have BX2 := Lib.hid (BX1.out.below hb2)
      have B2 := Lib.hid (on B1.out hb2)
      have N2 := Lib.hid (N1.out.below (hb2.mono B1.out.size))
      clear hb2 x0 x1 BX1 B1 N1
      have x0 := BX2.out.t0
      have x1 := BX2.out.t1
      have y0 := BX2.out.r0
      have y1 := BX2.out.r1
      have g0 := BX2.out.f0
      have g1 := BX2.out.f1
      by_cases kn : 0 < nn
      · have HX : Hid (R = (⟨L, last⟩, 0, 6)) := HF.out 6 (HE3.out.trans (if_pos kn)) (by decide)
        clear HE3
        go_wp2_with fail
        refine bodyPost_ret_by (v := .tuple #[.agg #[.slice A L.length c, .int .i64 last], .int .i64 0, .int .i64 6]) ?_ rfl ?_
        · rw [results_cell_tmp2 rfl]
          go_simp
        · rw [HX.out]
          exact ⟨_, rfl, stored_nodes N2.out (by omega) BX2.out.2.2, stored_below B2.out (by omega), Or.inl rfl⟩
      · have HE4 := Lib.hid (HE3.out.trans (if_neg kn))
        clear HE3
        by_cases km : me = 0
        · have tm : (me == 0) = true := by simpa using km
          have HE5 := Lib.hid (HE4.out.trans (if_neg (by simpa using km)))
          clear km HE4
          by_cases kz : (4096 : Int) ≤ (L.length : Int)
          · have HX : Hid (R = (⟨L, last⟩, 0, 12)) := HF.out 12 (HE5.out.trans (if_pos (by omega))) (by decide)
            clear HE5
            go_wp2_with fail
            refine (HM.out _).mono ?_
            rintro e w3 ⟨rfl, rfl⟩
            go_wp2_with fail
            refine bodyPost_ret_by (v := .tuple #[.agg #[.slice A L.length c, .int .i64 last], .int .i64 0, .int .i64 12]) ?_ rfl ?_
            · rw [results_cell_tmp2 rfl]
              go_simp
            · rw [HX.out]
              exact ⟨_, rfl, stored_nodes N2.out (by omega) BX2.out.2.2, stored_below B2.out (by omega), Or.inl rfl⟩
          · have HX : Hid (R = (⟨L ++ [⟨last + 1, d, s.data.toList, kind, x.data.toList⟩], last + 1⟩, last + 1, 0)) := HWK.out (HE5.out.trans (if_neg (by omega)))
            clear HE5
            go_wp2_with fail
            refine (HM.out _).mono ?_
            rintro e w3 ⟨rfl, rfl⟩
            go_wp2_with fail
            have h0 : 0 < L.length := h0'
            obtain ⟨b, o, rfl, hbB, hnews⟩ := Recs.news N2.out nodeC_len (by omega) h0
            have HNW := Lib.hid hnews
            have hsz2 := BX2.out.2.2
            have hbw3 : b < w3.heap.size := by omega
            have hwr : IntKind.i64.wrap (last + 1) = last + 1 := wrap_next (by omega) (by omega)
            have hbs2 := B2.out.size
            clear hnews
            go_region_held3 (fun w' => w'.cell? ⟨w.heap.size, 0, none⟩ = some (.slice (some ⟨b, o, none⟩) L.length c) ∧ w'.cell? ⟨w.heap.size, 1, none⟩ = some (.int .i64 last))
              (first | exact ⟨(B5.cell (show w.heap.size < w3.heap.size by omega)).trans x0, (B5.cell (show w.heap.size < w3.heap.size by omega)).trans x1⟩ | exact ⟨x0, x1⟩ | exact ⟨(B4.cell (show w.heap.size < w3.heap.size by omega)).trans x0, (B4.cell (show w.heap.size < w3.heap.size by omega)).trans x1⟩ | go_keep)
              (first
                | (refine wp_append_own _ (.const (.slice none 0 0)) (.tmp 49) 28 rfl w3.heap.size 69 i0 (.agg #[.int .i64 0, .int .i64 0, .string ⟨#[]⟩, .int .i64 0, .string ⟨#[]⟩]) 5 56 Tryz.underlying28 hi hz0 hz1 hz2 rfl (by decide) (.slice none 0 0) 0 [] rfl (World.ownsRow_nil _ _ _ _) ⟨b, o, none⟩ L.length c (L.flatMap nodeC) rfl HFL.out HNW.out nodes_one (by unfold maxLen; omega) (by omega) (by first | exact Nat.le_refl _ | omega) ?_; intro v4 w4 hown4 hgrow4 _; have B4 : Below w3.heap.size w3 w4 := on (below_draws w3 1) ((Below.refl w3.heap.size (w3.drewN 1)).grown hgrow4 (Nat.le_refl _) (fun k hk => by cases hk)))
                | (refine wp_append_own _ (.const (.slice none 0 0)) (.tmp 49) 28 rfl w3.heap.size 69 i0 (.agg #[.int .i64 0, .int .i64 0, .string ⟨#[]⟩, .int .i64 0, .string ⟨#[]⟩]) 5 56 Tryz.underlying28 hi hz0 hz1 hz2 rfl (by decide) (.slice none 0 0) 0 [] rfl (World.ownsRow_nil _ _ _ _) ⟨b, o, none⟩ L.length c (L.flatMap nodeC) rfl HFL.out (alloc_news hbw3 HNW.out _) nodes_one (by unfold maxLen; omega) (by omega) (Nat.le_trans (Nat.le_succ _) (Nat.le_of_eq (World.alloc_size w3 _).symm)) ?_; intro v4 w4 hown4 hgrow4 _; have B4c := Lib.hid ((Below.refl (w3.heap.size + 1) _).grown hgrow4 (Nat.le_of_eq (World.alloc_size w3 _).symm) (fun k hk => by cases hk)); have B4 : Below w3.heap.size w3 w4 := on (below_draws w3 1) (((Below.refl w3.heap.size (w3.drewN 1)).alloc (Nat.le_refl _) _).trans (B4c.out.mono (Nat.le_succ _))))
                | (refine wp_append_own _ (.tmp 50) (.tmp 59) 28 rfl w3.heap.size 69 i0 (.agg #[.int .i64 0, .int .i64 0, .string ⟨#[]⟩, .int .i64 0, .string ⟨#[]⟩]) 5 56 Tryz.underlying28 hi hz0 hz1 hz2 rfl (by decide) _ _ _ rfl (World.ownsRow.alloc hown4 _) ⟨_, 0, none⟩ 1 1 [.int .i64 (last + 1), .int .i64 d, .string s, .int .i64 kind, .string x] rfl rfl (cells_new _ [_, _, _, _, _] _) (by intro u hu; simp at hu; rcases hu with rfl | rfl | rfl | rfl | rfl <;> rfl) (by unfold maxLen; omega) (by omega) (Nat.le_trans B4.size (by rw [World.alloc_size]; exact Nat.le_succ _)) ?_; intro v5 w5 hown5 hgrow5 _; have B5 : Below w3.heap.size w3 w5 := W06.below_more2 B4 B4.size hown4 hgrow5)
                | (refine wp_append_own _ (.tmp 50) (.tmp 59) 28 rfl w3.heap.size 69 i0 (.agg #[.int .i64 0, .int .i64 0, .string ⟨#[]⟩, .int .i64 0, .string ⟨#[]⟩]) 5 56 Tryz.underlying28 hi hz0 hz1 hz2 rfl (by decide) _ _ _ rfl hown4 ⟨w3.heap.size, 0, none⟩ 1 1 [.int .i64 (last + 1), .int .i64 d, .string s, .int .i64 kind, .string x] rfl rfl (fun j u hj => (B4c.out.cell (by rw [block_add]; exact Nat.lt_succ_self _)).trans (cells_new (w3.drewN 1) [_, _, _, _, _] _ j u hj)) (by intro u hu; simp at hu; rcases hu with rfl | rfl | rfl | rfl | rfl <;> rfl) (by unfold maxLen; omega) (by omega) B4.size ?_; intro v5 w5 hown5 hgrow5 _; have B5 : Below w3.heap.size w3 w5 := below_own B4 B4.size hown4 hgrow5))
            all_goals (
              rw [Nat.zero_add, List.nil_append] at hown5
              have O5 := Lib.hid (own_nodes_text hown5)
              clear hown5 hown4 hgrow4 hgrow5
              have HBB := Lib.hid (B2.out.trans (B5.mono hbs2))
              have q1 : w5.cell? ⟨w.heap.size, 1, none⟩ = some (.int .i64 last) := (B5.cell (show w.heap.size < w3.heap.size by omega)).trans x1
              have q2 : w5.cell? ⟨w.heap.size + 1, 0, none⟩ = some (.slice none 0 0) := (B5.cell (show w.heap.size + 1 < w3.heap.size by omega)).trans y0
              have q3 : w5.cell? ⟨w.heap.size + 1, 1, none⟩ = some (.int .i64 0) := (B5.cell (show w.heap.size + 1 < w3.heap.size by omega)).trans y1
              have q4 : w5.frozen? ⟨w.heap.size + 1, 0, none⟩ = false := (B5.frozen (show w.heap.size + 1 < w3.heap.size by omega)).trans g0
              have q5 : w5.frozen? ⟨w.heap.size + 1, 1, none⟩ = false := (B5.frozen (show w.heap.size + 1 < w3.heap.size by omega)).trans g1
              clear x0 x1 y0 y1 g0 g1 B4 B5
              generalize hLL : L ++ [⟨last + 1, d, s.data.toList, kind, x.data.toList⟩] = LL at O5 HX
              obtain ⟨g5, c5, rfl, hg5, hg6, hcn, hcm⟩ := own_form O5.out (by rw [← hLL]; simp)
              go_wp2_with fail
              go_region
              all_goals (
                go_wp2_with fail
                refine bodyPost_ret_by (v := .tuple #[.agg #[.slice (some ⟨g5, 0, none⟩) LL.length c5, .int .i64 (last + 1)], .int .i64 (last + 1), .int .i64 0]) ?_ rfl ?_
                · rw [results_cell_tmp2 rfl]
                  go_simp
                · rw [HX.out]
                  exact ⟨_, rfl, stored_own (w := w5.drewN 1) O5.out (by omega), stored_below (w' := w5.drewN 1) (on HBB.out (below_draws w5 1)) (by omega), Or.inr (Or.inr ⟨_, _, _, rfl, by omega⟩)⟩))
        · have tm : (me == 0) = false := by simpa using km
          have HX : Hid (R = (⟨L, last⟩, 0, me)) := HF.out me (HE4.out.trans (if_pos km)) km
          clear km HE4
          go_wp2_with fail
          refine (HM.out _).mono ?_
          rintro e w3 ⟨rfl, rfl⟩
          go_wp2_with fail
          refine bodyPost_ret_by (v := .tuple #[.agg #[.slice A L.length c, .int .i64 last], .int .i64 0, .int .i64 me]) ?_ rfl ?_
          · rw [results_cell_tmp2 rfl]
            go_simp
          · rw [HX.out]
            exact ⟨_, rfl, stored_nodes N2.out (by omega) BX2.out.2.2, stored_below B2.out (by omega), Or.inl rfl⟩
    · have tc : (ck == 0) = false := by simpa using kc
      have HX : Hid (R = (⟨L, last⟩, 0, ck)) := HF.out ck (HE2.out.trans (if_pos kc)) kc
      have y0 := BX1.out.r0
      have y1 := BX1.out.r1
      have g0 := BX1.out.f0
      have g1 := BX1.out.f1
      clear kc HE2
      go_wp2_with fail
      refine (HK.out _).mono ?_
      rintro e w1' ⟨rfl, rfl⟩
      go_wp2_with fail
      refine bodyPost_ret_by (v := .tuple #[.agg #[.slice A L.length c, .int .i64 last], .int .i64 0, .int .i64 ck]) ?_ rfl ?_
      · rw [results_cell_tmp2 rfl]
        go_simp
      · rw [HX.out]
        exact ⟨_, rfl, stored_nodes N1.out (by omega) BX1.out.2.2, stored_below B1.out (by omega), Or.inl rfl⟩
  · have te : (de == 0) = false := by simpa using ke
    have HX : Hid (R = (⟨L, last⟩, 0, de)) := HF.out de (HE.out.trans (if_pos ke)) ke
    have y0 := BX1.out.r0
    have y1 := BX1.out.r1
    have g0 := BX1.out.f0
    have g1 := BX1.out.f1
    clear ke HE
    go_wp2_with fail
    refine bodyPost_ret_by (v := .tuple #[.agg #[.slice A L.length c, .int .i64 last], .int .i64 0, .int .i64 de]) ?_ rfl ?_
    · rw [results_cell_tmp2 rfl]
      go_simp
    · rw [HX.out]
      exact ⟨_, rfl, stored_nodes N1.out (by omega) BX1.out.2.2, stored_below B1.out (by omega), Or.inl rfl⟩
end Go.Proofs.YtmbpgjncioegdaaGreatDoor.W07
