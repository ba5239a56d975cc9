/-
  Layer 7 (tree), walks: the plain answers Set and Cut: what each returns; new memory may be laid, nothing that was there is changed.
-/
import Derived.Test.YtelphegeeiocnaaW07With
namespace Go.Proofs.Ytelphegeeiocnaa.W07
open Go Go.RowKit Go.Proofs.Ytelphegeeiocnaa.Strs Go.Proofs.Ytelphegeeiocnaa.Recs Go.Proofs.Ytelphegeeiocnaa.M07
open Go.Proofs.Ytelphegeeiocnaa.M06 (Ent)
open Go.Proofs.Ytelphegeeiocnaa.Kit (ret_str ret_bool ret_int mk_of mk_bytes ba_ext below_draws on)

theorem heap_two_a (w : World) (a b : Obj) : ((w.alloc a).alloc b).heap[w.heap.size]? = some a := by
  rw [Below.heap_alloc _ _ _ (by rw [World.alloc_size]; omega), heap_top]
theorem heap_two_b (w : World) (a b : Obj) : ((w.alloc a).alloc b).heap[w.heap.size + 1]? = some b := by
  rw [← World.alloc_size w a, heap_top]
theorem size_two (w : World) (a b : Obj) : ((w.alloc a).alloc b).heap.size = w.heap.size + 1 + 1 := by rw [World.alloc_size, World.alloc_size]
/-- a box of a tree, and the result's box, as they lie -/
def Boxed (w : World) (k : Nat) (v : Value) (last : Int) : Prop := w.heap[k]? = some (.cells #[v, .int .i64 last] 29 (0, 0)) ∧ w.heap[k + 1]? = some (.cells #[.slice none 0 0, .int .i64 0] 29 (0, 0)) ∧ k + 1 < w.heap.size
section
variable {w w' : World} {k : Nat} {v : Value} {last : Int}
theorem Boxed.below (h : Boxed w k v last) (hb : Below w.heap.size w w') : Boxed w' k v last :=
  ⟨(hb.block _ (by have := h.2.2; omega)).trans h.1, (hb.block _ h.2.2).trans h.2.1, Nat.lt_of_lt_of_le h.2.2 hb.size⟩
theorem Boxed.alloc (h : Boxed w k v last) (o : Obj) : Boxed (w.alloc o) k v last := h.below ((Below.refl w.heap.size w).alloc (Nat.le_refl _) o)
theorem Boxed.t0 (h : Boxed w k v last) : w.cell? ⟨k, 0, none⟩ = some v := cell_of_row w _ 0 _ _ (0, 0) h.1
theorem Boxed.t1 (h : Boxed w k v last) : w.cell? ⟨k, 1, none⟩ = some (.int .i64 last) := cell_of_row w _ 1 _ _ (0, 0) h.1
theorem Boxed.r0 (h : Boxed w k v last) : w.cell? ⟨k + 1, 0, none⟩ = some (.slice none 0 0) := cell_of_row w _ 0 _ _ (0, 0) h.2.1
theorem Boxed.r1 (h : Boxed w k v last) : w.cell? ⟨k + 1, 1, none⟩ = some (.int .i64 0) := cell_of_row w _ 1 _ _ (0, 0) h.2.1
theorem Boxed.f0 (h : Boxed w k v last) : w.frozen? ⟨k + 1, 0, none⟩ = false := frozen_of_row w _ 0 _ _ h.2.1
theorem Boxed.f1 (h : Boxed w k v last) : w.frozen? ⟨k + 1, 1, none⟩ = false := frozen_of_row w _ 1 _ _ h.2.1
/-- what stands behind the store of the result -/
theorem stored_nodes {u : Value} {L : List Nd} {B : Nat} {a : Value} {b : Int} (h : Nodes B w u L) (hB : B ≤ k + 1) (hs : k + 1 < w.heap.size) : Nodes ((w.setCell ⟨k + 1, 0, none⟩ a).setCell ⟨k + 1, 1, none⟩ (.int .i64 b)).heap.size ((w.setCell ⟨k + 1, 0, none⟩ a).setCell ⟨k + 1, 1, none⟩ (.int .i64 b)) u L := by
  refine Recs.more (Recs.keep h fun p hp => ?_) (by simp [World.setCell]; omega)
  have hne : ∀ j, (⟨k + 1, j, none⟩ : Addr) ≠ p := fun j e => by rw [← e] at hp; exact absurd hp (by show ¬ k + 1 < B; omega)
  have e1 : ∀ (w' : World) (j : Nat) (u : Value), (w'.setCell ⟨k + 1, j, none⟩ u).cell? p = w'.cell? p := fun w' j u => World.cell?_setCell_other (h := hne j) ..
  rw [e1, e1]
end
theorem stored_other {w : World} {k g n c : Nat} {L : List Nd} {a b : Value} (h : Nodes w.heap.size w (.slice (some ⟨g, 0, none⟩) n c) L) (hne : k + 1 < g) : Nodes ((w.setCell ⟨k + 1, 0, none⟩ a).setCell ⟨k + 1, 1, none⟩ b).heap.size ((w.setCell ⟨k + 1, 0, none⟩ a).setCell ⟨k + 1, 1, none⟩ b) (.slice (some ⟨g, 0, none⟩) n c) L := by
  refine Recs.more (Recs.other h fun p hp => ?_) (by simp [World.setCell])
  have hne : ∀ j, (⟨k + 1, j, none⟩ : Addr) ≠ p := fun j e => by
    have : k + 1 = g := by rw [← hp, ← e]
    omega
  have e1 : ∀ (w' : World) (j : Nat) (u : Value), (w'.setCell ⟨k + 1, j, none⟩ u).cell? p = w'.cell? p := fun w' j u => World.cell?_setCell_other (h := hne j) ..
  rw [e1, e1]
theorem stored_below {w w' : World} {k : Nat} {a b : Value} (h : Below w.heap.size w w') (hk : w.heap.size ≤ k + 1) : Below w.heap.size w ((w'.setCell ⟨k + 1, 0, none⟩ a).setCell ⟨k + 1, 1, none⟩ b) :=
  (h.setCell hk _).setCell hk _
theorem boxed_new (w : World) (v : Value) (last : Int) : Boxed ((w.alloc (.cells #[v, .int .i64 last] 29)).alloc (.cells #[.slice none 0 0, .int .i64 0] 29)) w.heap.size v last :=
  ⟨heap_two_a _ _ _, heap_two_b _ _ _, by rw [size_two]; omega⟩
/-- a slice handed out: the one that came in, an empty one, or one in memory from S on -/
def FromOr (v : Value) (S : Nat) (u : Value) : Prop := u = v ∨ u = .slice none 0 0 ∨ ∃ g n c, u = .slice (some ⟨g, 0, none⟩) n c ∧ S ≤ g
/-- what a call returns that hands out a tree and an error -/
def TreeErr (v : Value) (w : World) (R : Tr × Int) (e : Ending) (w' : World) : Prop := ∃ u, e = .returned (.tuple #[.agg #[u, .int .i64 R.1.last], .int .i64 R.2]) ∧ Nodes w'.heap.size w' u R.1.L ∧ Below w.heap.size w w' ∧ FromOr v w.heap.size u

set_option maxHeartbeats 2000000 in
theorem refSet_any (v : Value) (L : List Nd) (last n : Int) (s : ByteArray) (hs : s.size ≤ maxLen) (w : World) (h : Nodes w.heap.size w v L) (hn : L.length ≤ 1099511627776) (h0 : 0 < L.length) :
    Calls Try.prog 31 #[.agg #[v, .int .i64 last], .int .i64 n, .string s] w (TreeErr v w (set ⟨L, last⟩ n s.data.toList)) := by
  have HA := Lib.hid (refAt_any v L last n w.heap.size ((w.alloc (.cells #[v, .int .i64 last] 29)).alloc (.cells #[.slice none 0 0, .int .i64 0] 29)) ((h.alloc (Nat.le_refl _) _).keep fun p hp => World.cell?_alloc_lt _ _ p (by rw [World.alloc_size]; omega)) (by rw [size_two]; omega) hn)
  have HBX := Lib.hid (boxed_new w v last)
  have HB0 := Lib.hid (below_two w (.cells #[v, .int .i64 last] 29) (.cells #[.slice none 0 0, .int .i64 0] 29))
  have H := Lib.hid h
  obtain ⟨A, c, rfl, hA1, hA2⟩ := h.form
  clear h
  have HSET : Hid (set ⟨L, last⟩ n s.data.toList = if (nodeAt L n).kind = 0 then (⟨L, last⟩, 5) else if (nodeAt L n).kind = 1 then (⟨L, last⟩, 8) else if mayErr (nodeAt L n).kind s.data.toList ≠ 0 then (⟨L, last⟩, mayErr (nodeAt L n).kind s.data.toList) else (withNode ⟨L, last⟩ { nodeAt L n with data := s.data.toList }, 0)) := rfl
  generalize set ⟨L, last⟩ n s.data.toList = R at *
  generalize nodeAt L n = x at *
  unfold nodeV at HA
  go_enter Try.func31, Try.ntmps31
  go_wp2_with fail
  refine HA.out.mono ?_
  rintro e w1 ⟨rfl, hb1⟩
  have BX1 := Lib.hid (HBX.out.below hb1)
  have B1 := Lib.hid (HB0.out.trans (hb1.mono (by rw [size_two]; omega)))
  have N1 := Lib.hid (H.out.below B1.out)
  clear hb1
  have BX2 := BX1.out.alloc (.cells #[.int .i64 x.num, .int .i64 x.up, .string ⟨x.name.toArray⟩, .int .i64 x.kind, .string ⟨x.data.toArray⟩] 56)
  have x0 := BX2.t0
  have x1 := BX2.t1
  have y0 := BX2.r0
  have y1 := BX2.r1
  have g0 := BX2.f0
  have g1 := BX2.f1
  have z2 : w.heap.size + 1 < (w1.alloc (.cells #[.int .i64 x.num, .int .i64 x.up, .string ⟨x.name.toArray⟩, .int .i64 x.kind, .string ⟨x.data.toArray⟩] 56)).heap.size := BX2.2.2
  have N2 := Lib.hid (N1.out.alloc B1.out.size (.cells #[.int .i64 x.num, .int .i64 x.up, .string ⟨x.name.toArray⟩, .int .i64 x.kind, .string ⟨x.data.toArray⟩] 56))
  have B2 := Lib.hid (B1.out.alloc B1.out.size (.cells #[.int .i64 x.num, .int .i64 x.up, .string ⟨x.name.toArray⟩, .int .i64 x.kind, .string ⟨x.data.toArray⟩] 56))
  clear BX2
  by_cases k0 : x.kind = 0
  · have t0 : (x.kind == 0) = true := by simpa using k0
    have HX : Hid (R = (⟨L, last⟩, 5)) := HSET.out.trans (if_pos k0)
    clear k0
    go_wp2_with fail
    refine bodyPost_ret_by (v := .tuple #[.agg #[.slice A L.length c, .int .i64 last], .int .i64 5]) ?_ rfl ?_
    · rw [results_cell_tmp rfl]
      go_simp
    · rw [HX.out]
      exact ⟨_, rfl, stored_nodes N2.out (by omega) z2, stored_below B2.out (by omega), Or.inl rfl⟩
  · have t0 : (x.kind == 0) = false := by simpa using k0
    by_cases k1 : x.kind = 1
    · have t1 : (x.kind == 1) = true := by simpa using k1
      have HX : Hid (R = (⟨L, last⟩, 8)) := HSET.out.trans ((if_neg k0).trans (if_pos k1))
      clear k0 k1
      go_wp2_with fail
      refine bodyPost_ret_by (v := .tuple #[.agg #[.slice A L.length c, .int .i64 last], .int .i64 8]) ?_ rfl ?_
      · rw [results_cell_tmp rfl]
        go_simp
      · rw [HX.out]
        exact ⟨_, rfl, stored_nodes N2.out (by omega) z2, stored_below B2.out (by omega), Or.inl rfl⟩
    · have t1 : (x.kind == 1) = false := by simpa using k1
      have HM := Lib.hid (refMay_any x.kind s hs)
      have HS3 : Hid (R = if mayErr x.kind s.data.toList ≠ 0 then (⟨L, last⟩, mayErr x.kind s.data.toList) else (withNode ⟨L, last⟩ { x with data := s.data.toList }, 0)) := HSET.out.trans ((if_neg k0).trans (if_neg k1))
      generalize mayErr x.kind s.data.toList = er at *
      by_cases ke : er = 0
      · have te : (er == 0) = true := by simpa using ke
        have HX : Hid (R = (withNode ⟨L, last⟩ { x with data := s.data.toList }, 0)) := HS3.out.trans (if_neg (by simpa using ke))
        clear k0 k1 HSET HS3
        subst ke
        go_wp2_with fail
        refine (HM.out _).mono ?_
        rintro e w2 ⟨rfl, rfl⟩
        clear x0 x1 y0 y1 g0 g1 N2 B2 z2
        have BX3 := BX1.out.alloc (.cells #[.int .i64 x.num, .int .i64 x.up, .string ⟨x.name.toArray⟩, .int .i64 x.kind, .string s] 56)
        have x0 := BX3.t0
        have x1 := BX3.t1
        have HW := Lib.hid (refWith_any (.slice A L.length c) L last { x with data := s.data.toList } w.heap.size (w1.alloc (.cells #[.int .i64 x.num, .int .i64 x.up, .string ⟨x.name.toArray⟩, .int .i64 x.kind, .string s] 56)) (N1.out.alloc B1.out.size _) (by rw [World.alloc_size]; have := B1.out.size; omega) hn h0)
        have HBX3 := Lib.hid BX3
        have B3 := Lib.hid (B1.out.alloc B1.out.size (.cells #[.int .i64 x.num, .int .i64 x.up, .string ⟨x.name.toArray⟩, .int .i64 x.kind, .string s] 56))
        unfold nodeV at HW
        simp only [mk_bytes] at HW
        clear BX3
        go_wp2_with fail
        refine HW.out.mono ?_
        rintro e w3 ⟨g3, n3, c3, rfl, hg3, hn3, hb3⟩
        have BX4 := HBX3.out.below hb3
        have B4 := Lib.hid (on B3.out hb3)
        have y0 := BX4.r0
        have y1 := BX4.r1
        have g0 := BX4.f0
        have g1 := BX4.f1
        have z4 := BX4.2.2
        have N4 := Lib.hid hn3
        clear hn3 hb3 BX4
        go_wp2_with fail
        refine bodyPost_ret_by (v := .tuple #[.agg #[.slice (some ⟨g3, 0, none⟩) n3 c3, .int .i64 last], .int .i64 0]) ?_ rfl ?_
        · rw [results_cell_tmp rfl]
          go_simp
        · rw [HX.out]
          exact ⟨_, rfl, stored_other N4.out (by have := B1.out.size; rw [World.alloc_size] at hg3; have := BX1.out.2.2; omega), stored_below B4.out (by omega), Or.inr (Or.inr ⟨_, _, _, rfl, by have := B1.out.size; rw [World.alloc_size] at hg3; omega⟩)⟩
      · have te : (er == 0) = false := by simpa using ke
        have HX : Hid (R = (⟨L, last⟩, er)) := HS3.out.trans (if_pos ke)
        clear k0 k1 ke HSET HS3
        go_wp2_with fail
        refine (HM.out _).mono ?_
        rintro e w2 ⟨rfl, rfl⟩
        go_wp2_with fail
        refine bodyPost_ret_by (v := .tuple #[.agg #[.slice A L.length c, .int .i64 last], .int .i64 er]) ?_ rfl ?_
        · rw [results_cell_tmp rfl]
          go_simp
        · rw [HX.out]
          exact ⟨_, rfl, stored_nodes N2.out (by omega) z2, stored_below B2.out (by omega), Or.inl rfl⟩
end Go.Proofs.Ytelphegeeiocnaa.W07
