/-
  Texts joined, in build order, each with its own comment and its own conditions: W07Move.
-/
import Derived.Test.YtmbpgjncioegdaaGreatDoorJ02
import Derived.Test.YtmbpgjncioegdaaGreatDoorJ04
/-
  Layer 7 (tree), walks: the plain answers New and Move: what each returns, Move at every right tree; new memory may be laid, nothing that was there is changed.
-/
namespace Go.Proofs.YtmbpgjncioegdaaGreatDoor.W07
set_option maxRecDepth 100000
open Go Go.RowKit Go.Proofs.YtmbpgjncioegdaaGreatDoor.Strs Go.Proofs.YtmbpgjncioegdaaGreatDoor.Recs Go.Proofs.YtmbpgjncioegdaaGreatDoor.M07
open Go.Proofs.YtmbpgjncioegdaaGreatDoor.M06 (Ent)
open Go.Proofs.YtmbpgjncioegdaaGreatDoor.M03 (check)
open Go.Proofs.YtmbpgjncioegdaaGreatDoor.W03 (refCheck_any)
open Go.Proofs.YtmbpgjncioegdaaGreatDoor.Kit (ret_str ret_bool ret_int mk_of mk_bytes ba_ext below_draws on)

theorem set_heap {w : World} {p : Nat} {cur : Array Value} {t : TypeId} {fz : Nat × Nat} (h : w.heap[p]? = some (.cells cur t fz)) (j : Nat) (u : Value) : (w.setCell ⟨p, j, none⟩ u).heap[p]? = some (.cells (cur.setIfInBounds j u) t fz) := by
  obtain ⟨hlt, hk⟩ := Array.getElem?_eq_some_iff.1 h
  show (w.heap.modify p _)[p]? = _
  rw [Array.getElem?_eq_getElem (by rw [Array.size_modify]; exact hlt), Array.getElem_modify_self, hk]
  rfl
theorem set_size (w : World) (q : Addr) (u : Value) : (w.setCell q u).heap.size = w.heap.size := by show (w.heap.modify _ _).size = _; rw [Array.size_modify]
/-- a box of a node -/
def NodeBox (w : World) (p : Nat) (x : Nd) : Prop := w.heap[p]? = some (.cells #[.int .i64 x.num, .int .i64 x.up, .string ⟨x.name.toArray⟩, .int .i64 x.kind, .string ⟨x.data.toArray⟩] 69 (0, 0))
section
variable {w w' : World} {p : Nat} {x : Nd}
theorem NodeBox.lt (h : NodeBox w p x) : p < w.heap.size := (Array.getElem?_eq_some_iff.1 h).1
theorem NodeBox.below (h : NodeBox w p x) (hb : Below w.heap.size w w') : NodeBox w' p x := (hb.block _ h.lt).trans h
theorem NodeBox.alloc (h : NodeBox w p x) (o : Obj) : NodeBox (w.alloc o) p x := h.below ((Below.refl w.heap.size w).alloc (Nat.le_refl _) o)
theorem NodeBox.new (w : World) (x : Nd) : NodeBox (w.alloc (.cells #[.int .i64 x.num, .int .i64 x.up, .string ⟨x.name.toArray⟩, .int .i64 x.kind, .string ⟨x.data.toArray⟩] 69)) w.heap.size x := heap_top _ _
theorem NodeBox.c0 (h : NodeBox w p x) : w.cell? ⟨p, 0, none⟩ = some (.int .i64 x.num) := cell_of_row w _ 0 _ _ (0, 0) h
theorem NodeBox.c1 (h : NodeBox w p x) : w.cell? ⟨p, 1, none⟩ = some (.int .i64 x.up) := cell_of_row w _ 1 _ _ (0, 0) h
theorem NodeBox.c2 (h : NodeBox w p x) : w.cell? ⟨p, 2, none⟩ = some (.string ⟨x.name.toArray⟩) := cell_of_row w _ 2 _ _ (0, 0) h
theorem NodeBox.c3 (h : NodeBox w p x) : w.cell? ⟨p, 3, none⟩ = some (.int .i64 x.kind) := cell_of_row w _ 3 _ _ (0, 0) h
theorem NodeBox.c4 (h : NodeBox w p x) : w.cell? ⟨p, 4, none⟩ = some (.string ⟨x.data.toArray⟩) := cell_of_row w _ 4 _ _ (0, 0) h
theorem NodeBox.fr (h : NodeBox w p x) (j : Nat) : w.frozen? ⟨p, j, none⟩ = false := frozen_of_row w _ j _ _ h
theorem NodeBox.moved (h : NodeBox w p x) (d : Int) (a : ByteArray) : NodeBox ((w.setCell ⟨p, 1, none⟩ (.int .i64 d)).setCell ⟨p, 2, none⟩ (.string a)) p { x with up := d, name := a.data.toList } := by
  have h2 := set_heap (set_heap h 1 (.int .i64 d)) 2 (.string a)
  have e : (⟨a.data.toList.toArray⟩ : ByteArray) = a := mk_bytes a
  unfold NodeBox
  rw [h2]
  show some (Obj.cells #[.int .i64 x.num, .int .i64 d, .string a, .int .i64 x.kind, .string ⟨x.data.toArray⟩] _ _) = some (Obj.cells #[.int .i64 x.num, .int .i64 d, .string ⟨a.data.toList.toArray⟩, .int .i64 x.kind, .string ⟨x.data.toArray⟩] _ _)
  rw [e]
end
theorem Boxed.cellAt {w : World} {k p j : Nat} {v u : Value} {last : Int} (h : Boxed w k v last) (h1 : k ≠ p) (h2 : k + 1 ≠ p) : Boxed (w.setCell ⟨p, j, none⟩ u) k v last :=
  ⟨(Below.heap_setCell _ _ _ _ (by exact h1)).trans h.1, (Below.heap_setCell _ _ _ _ (by exact h2)).trans h.2.1, by rw [set_size]; exact h.2.2⟩
theorem NodeBox.cellAt {w : World} {p q j : Nat} {x : Nd} {u : Value} (h : NodeBox w p x) (h1 : p ≠ q) : NodeBox (w.setCell ⟨q, j, none⟩ u) p x := (Below.heap_setCell _ _ _ _ (by exact h1)).trans h
theorem Boxed.stored {w : World} {k : Nat} {v : Value} {last : Int} (h : Boxed w k v last) (u : Value) (l : Int) : Boxed ((w.setCell ⟨k, 0, none⟩ u).setCell ⟨k, 1, none⟩ (.int .i64 l)) k u l := by
  refine ⟨set_heap (set_heap h.1 0 u) 1 (.int .i64 l), ?_, by rw [set_size, set_size]; exact h.2.2⟩
  exact (Below.heap_setCell _ _ _ _ (by show k + 1 ≠ k; omega)).trans ((Below.heap_setCell _ _ _ _ (by show k + 1 ≠ k; omega)).trans h.2.1)
theorem cut_len (t : Tr) (d : Int) (s : Bytes) : (cut t d s).1.L.length ≤ t.L.length := by
  unfold cut
  split
  · exact Nat.le_refl _
  · split
    · exact Nat.le_refl _
    · split
      · exact Nat.le_refl _
      · exact List.length_filter_le _ _
theorem cut_last (t : Tr) (d : Int) (s : Bytes) : (cut t d s).1.last = t.last := by
  unfold cut
  split
  · rfl
  · split
    · rfl
    · split <;> rfl
theorem right_full {t : Tr} (h : Right t) : 0 < t.L.length := by
  obtain ⟨r, hr⟩ := h.root
  rw [hr]; simp

set_option maxHeartbeats 8000000 in
set_option maxRecDepth 100000 in
theorem refMove_any (v : Value) (L : List Nd) (last src : Int) (s : ByteArray) (dst : Int) (a : ByteArray) (w : World) (h : Nodes w.heap.size w v L) (hn : L.length ≤ 1073741824) (hR : Right ⟨L, last⟩) :
    Calls Tryz.prog 75 #[.agg #[v, .int .i64 last], .int .i64 src, .string s, .int .i64 dst, .string a] w (TreeErr v w (M07.move ⟨L, last⟩ src s.data.toList dst a.data.toList)) := by
  have h0 : 0 < L.length := right_full hR
  have HBX := Lib.hid (boxed_new w v last)
  have HB0 := Lib.hid (below_two w (.cells #[v, .int .i64 last] 30) (.cells #[.slice none 0 0, .int .i64 0] 30))
  have HN0 := Lib.hid (h.below HB0.out)
  have HD := Lib.hid (fun (n : Int) (w' : World) (h : Nodes w.heap.size w' v L) (hB : w.heap.size ≤ w'.heap.size) => refDir_any v L last n w.heap.size w' h hB (by omega))
  have HI := Lib.hid (fun (d : Int) (s : ByteArray) (w' : World) (h : Nodes w.heap.size w' v L) (hB : w.heap.size ≤ w'.heap.size) => refIn_any v L last d s w.heap.size w' h hB (by omega))
  have HA := Lib.hid (fun (n : Int) (w' : World) (h : Nodes w.heap.size w' v L) (hB : w.heap.size ≤ w'.heap.size) => refAt_any v L last n w.heap.size w' h hB (by omega))
  have HC := Lib.hid (fun (w' : World) (h : Nodes w.heap.size w' v L) (hB : w.heap.size ≤ w'.heap.size) => refCut_out v L last dst a w.heap.size w' h hB (by omega))
  have HK := Lib.hid (refCheck_any a)
  have HW := Lib.hid (fun (u : Value) (M : List Nd) (x : Nd) (w' : World) (h : Nodes w'.heap.size w' u M) (h1 : M.length ≤ 1073741824) (h2 : 0 < M.length) => refWith_any u M last x w'.heap.size w' h (Nat.le_refl _) (by omega) h2)
  have HUP := Lib.hid (fun (n : Int) (hk : (nodeAt L n).kind = 1) => hR.reach (n := n) (by show (nodeAt L n).kind ≠ 0; rw [hk]; decide))
  have HDZ := Lib.hid (fun (h : dirErr L dst = 0) => dir_zero h)
  have HCL := Lib.hid (cut_len ⟨L, last⟩ dst a.data.toList)
  have HCT := Lib.hid (cut_last ⟨L, last⟩ dst a.data.toList)
  have HC0 := Lib.hid (right_full (cut_right hR (d := dst) (name := a.data.toList)))
  obtain ⟨A, c, rfl, hA1, hA2⟩ := h.form
  clear h hR
  unfold maxLen at hA2
  have HE : Hid (moveErr L src s.data.toList dst a.data.toList = if dirErr L src ≠ 0 then dirErr L src else if dirErr L dst ≠ 0 then dirErr L dst else if inDir L src s.data.toList = 0 then 5 else check a.data.toList) := rfl
  have HM1 : Hid (moveErr L src s.data.toList dst a.data.toList ≠ 0 → M07.move ⟨L, last⟩ src s.data.toList dst a.data.toList = (⟨L, last⟩, moveErr L src s.data.toList dst a.data.toList)) := fun h => by unfold M07.move; rw [if_pos h]
  have HM2 : Hid (moveErr L src s.data.toList dst a.data.toList = 0 → (nodeAt L (inDir L src s.data.toList)).kind = 1 ∧ Inside L (inDir L src s.data.toList) dst → M07.move ⟨L, last⟩ src s.data.toList dst a.data.toList = (⟨L, last⟩, 14)) := fun h h2 => by unfold M07.move; rw [if_neg (by simpa using h), if_pos h2]
  have HM3 : Hid (moveErr L src s.data.toList dst a.data.toList = 0 → ¬ ((nodeAt L (inDir L src s.data.toList)).kind = 1 ∧ Inside L (inDir L src s.data.toList) dst) → M07.move ⟨L, last⟩ src s.data.toList dst a.data.toList = moveOn ⟨L, last⟩ (inDir L src s.data.toList) dst a.data.toList) := fun h h2 => by unfold M07.move; rw [if_neg (by simpa using h), if_neg h2]
  have HON : Hid (moveOn ⟨L, last⟩ (inDir L src s.data.toList) dst a.data.toList = if inDir L dst a.data.toList = inDir L src s.data.toList then (⟨L, last⟩, 0) else if 0 < inDir L dst a.data.toList then if (nodeAt L (inDir L dst a.data.toList)).kind = 1 ∧ (nodeAt L (inDir L src s.data.toList)).kind ≠ 1 then (⟨L, last⟩, 8) else if (nodeAt L (inDir L dst a.data.toList)).kind ≠ 1 ∧ (nodeAt L (inDir L src s.data.toList)).kind = 1 then (⟨L, last⟩, 7) else if (cut ⟨L, last⟩ dst a.data.toList).2 ≠ 0 then (⟨L, last⟩, (cut ⟨L, last⟩ dst a.data.toList).2) else (placed (cut ⟨L, last⟩ dst a.data.toList).1 (nodeAt L (inDir L src s.data.toList)) dst a.data.toList, 0) else (placed ⟨L, last⟩ (nodeAt L (inDir L src s.data.toList)) dst a.data.toList, 0)) := rfl
  have HNE : Hid (inDir L src s.data.toList ≠ 0 → inDir L src s.data.toList ≠ 1) := fun h => by obtain ⟨b, _, e, _, _, h1⟩ := in_found h; rw [← e]; exact h1
  have HI1 := Lib.hid (HI.out src s)
  have HI2 := Lib.hid (HI.out dst a)
  have HD1 := Lib.hid (HD.out src)
  have HD2 := Lib.hid (HD.out dst)
  have HA1 := Lib.hid (HA.out (inDir L src s.data.toList))
  have HA2 := Lib.hid (HA.out (inDir L dst a.data.toList))
  clear HI HD
  generalize moveErr L src s.data.toList dst a.data.toList = me at *
  generalize M07.move ⟨L, last⟩ src s.data.toList dst a.data.toList = R at *
  generalize moveOn ⟨L, last⟩ (inDir L src s.data.toList) dst a.data.toList = RO at *
  generalize cut ⟨L, last⟩ dst a.data.toList = C at *
  generalize check a.data.toList = ck at *
  generalize dirErr L src = de at *
  generalize hde2 : dirErr L dst = df at *
  generalize nodeAt L (inDir L dst a.data.toList) = y at *
  generalize nodeAt L (inDir L src s.data.toList) = x at *
  generalize inDir L dst a.data.toList = oo at *
  generalize inDir L src s.data.toList = nn at *
  clear hde2
  go_enter Tryz.func75, Tryz.ntmps75
  have z00 := HBX.out.t0
  go_wp2_with fail
  refine (HD1.out _ HN0.out HB0.out.size).mono ?_
  rintro e w1 ⟨rfl, hb1⟩
  have BX1 := Lib.hid (HBX.out.below hb1)
  have B1 := Lib.hid (on HB0.out hb1)
  have N1 := Lib.hid (HN0.out.below (hb1.mono HB0.out.size))
  clear hb1
  have x0 := BX1.out.t0
  have x1 := BX1.out.t1
  have y0 := BX1.out.r0
  have y1 := BX1.out.r1
  have g0 := BX1.out.f0
  have g1 := BX1.out.f1
  by_cases k1 : de = 0
  · have t1 : (de == 0) = true := by simpa using k1
    have E1 := Lib.hid (HE.out.trans (if_neg (by simpa using k1)))
    clear HE
    go_wp2_with fail
    refine (HD2.out _ N1.out B1.out.size).mono ?_
    rintro e w2 ⟨rfl, hb2⟩
    have BX2 := Lib.hid (BX1.out.below hb2)
    have B2 := Lib.hid (on B1.out hb2)
    have N2 := Lib.hid (N1.out.below (hb2.mono B1.out.size))
    clear hb2 x0 x1 y0 y1 g0 g1
    have x0 := BX2.out.t0
    have x1 := BX2.out.t1
    have y0 := BX2.out.r0
    have y1 := BX2.out.r1
    have g0 := BX2.out.f0
    have g1 := BX2.out.f1
    by_cases k2 : df = 0
    · have t2 : (df == 0) = true := by simpa using k2
      have E2 := Lib.hid (E1.out.trans (if_neg (by simpa using k2)))
      clear E1
      go_wp2_with fail
      refine (HI1.out _ N2.out B2.out.size).mono ?_
      rintro e w3 ⟨rfl, hb3⟩
      have BX3 := Lib.hid (BX2.out.below hb3)
      have B3 := Lib.hid (on B2.out hb3)
      have N3 := Lib.hid (N2.out.below (hb3.mono B2.out.size))
      clear hb3 x0 x1 y0 y1 g0 g1
      have x0 := BX3.out.t0
      have x1 := BX3.out.t1
      have y0 := BX3.out.r0
      have y1 := BX3.out.r1
      have g0 := BX3.out.f0
      have g1 := BX3.out.f1
      by_cases k3 : nn = 0
      · have t3 : (nn == 0) = true := by simpa using k3
        have E3 : Hid (me = 5) := E2.out.trans (if_pos k3)
        have HX : Hid (R = (⟨L, last⟩, 5)) := by show _ = _; rw [HM1.out (by rw [E3.out]; decide), E3.out]
        clear k3 E2
        go_wp2_with fail
        refine bodyPost_ret_by (v := .tuple #[.agg #[.slice A L.length c, .int .i64 last], .int .i64 5]) ?_ rfl ?_
        · rw [results_cell_tmp rfl]
          go_simp
        · rw [HX.out]
          exact ⟨_, rfl, stored_nodes N3.out (by omega) BX3.out.2.2, stored_below B3.out (by omega), Or.inl rfl⟩
      · have t3 : (nn == 0) = false := by simpa using k3
        have E3 : Hid (me = ck) := E2.out.trans (if_neg k3)
        clear E2
        by_cases k4 : ck = 0
        · have t4 : (ck == 0) = true := by simpa using k4
          have t4' : (ck != 0) = false := by simp [k4]
          have E4 : Hid (me = 0) := E3.out.trans k4
          clear E3
          go_wp2_with fail
          refine (HK.out _).mono ?_
          rintro e w4' ⟨rfl, rfl⟩
          go_wp2_with fail
          refine (HA1.out _ N3.out B3.out.size).mono ?_
          rintro e w4 ⟨rfl, hb4⟩
          have BX4 := Lib.hid (BX3.out.below hb4)
          have B4 := Lib.hid (on B3.out hb4)
          have N4 := Lib.hid (N3.out.below (hb4.mono B3.out.size))
          clear hb4 x0 x1 y0 y1 g0 g1
          have x0 := BX4.out.t0
          have x1 := BX4.out.t1
          have y0 := BX4.out.r0
          have y1 := BX4.out.r1
          have g0 := BX4.out.f0
          have g1 := BX4.out.f1
          have NB5 := Lib.hid (NodeBox.new w4 x)
          have BX5 := Lib.hid (BX4.out.alloc (.cells #[.int .i64 x.num, .int .i64 x.up, .string ⟨x.name.toArray⟩, .int .i64 x.kind, .string ⟨x.data.toArray⟩] 69))
          have B5 := Lib.hid (B4.out.alloc B4.out.size (.cells #[.int .i64 x.num, .int .i64 x.up, .string ⟨x.name.toArray⟩, .int .i64 x.kind, .string ⟨x.data.toArray⟩] 69))
          have N5 := Lib.hid (N4.out.alloc B4.out.size (.cells #[.int .i64 x.num, .int .i64 x.up, .string ⟨x.name.toArray⟩, .int .i64 x.kind, .string ⟨x.data.toArray⟩] 69))
          have hp : w.heap.size + 1 < w4.heap.size := BX4.out.2.2
          clear x0 x1 y0 y1 g0 g1
          unfold nodeV
          obtain ⟨w5, hw5⟩ : ∃ w5, w4.alloc (.cells #[.int .i64 x.num, .int .i64 x.up, .string ⟨x.name.toArray⟩, .int .i64 x.kind, .string ⟨x.data.toArray⟩] 69) = w5 := ⟨_, rfl⟩
          obtain ⟨p, hp0⟩ : ∃ p, w4.heap.size = p := ⟨_, rfl⟩
          go_wp2_with fail
          rw [hw5] at NB5 BX5 B5 N5
          try rw [hw5]
          rw [hp0] at NB5 hp
          try rw [hp0]
          clear hw5 hp0 N4 BX4 B4
          go_loopw [15] (fun k5 wr => ∃ k : Int, k5 = .int .i64 k ∧ Hid (Inside L nn dst ↔ Inside L nn k) ∧ Hid (∃ j, upN L j k = 1) ∧ Hid (Boxed wr w.heap.size (.slice A L.length c) last) ∧ Hid (NodeBox wr p x) ∧ Hid (Nodes w.heap.size wr (.slice A L.length c) L) ∧ Hid (Below w.heap.size w wr)) (fun k5 _ => height L (intOf k5))
          case atStart => exact ⟨dst, rfl, Iff.rfl, HUP.out dst (HDZ.out k2), BX5, NB5, N5, B5⟩
          case round =>
            clear BX5 NB5 N5 B5
            obtain ⟨k, rfl, hin, hrch, BX6, NB6, N6, B6⟩ := hrel
            have x0 := BX6.out.t0
            have x1 := BX6.out.t1
            have y0 := BX6.out.r0
            have y1 := BX6.out.r1
            have g0 := BX6.out.f0
            have g1 := BX6.out.f1
            have q3 := NB6.out.c3
            obtain ⟨w6, hw6⟩ : ∃ w6, wr = w6 := ⟨_, rfl⟩
            subst hw6
            by_cases kx : x.kind = 1
            · have tx : (x.kind == 1) = true := by simpa using kx
              have tx' : (x.kind != 1) = false := by simp [kx]
              have HKX := Lib.hid kx
              clear kx
              by_cases kn : k = nn
              · have tn : (k == nn) = true := by simpa using kn
                have HX : Hid (R = (⟨L, last⟩, 14)) := HM2.out E4.out ⟨HKX.out, hin.out.2 (by rw [kn]; exact inside_here _ _)⟩
                clear kn
                go_wp2_with fail
                refine bodyPost_ret_by (v := .tuple #[.agg #[.slice A L.length c, .int .i64 last], .int .i64 14]) ?_ rfl ?_
                · rw [results_cell_tmp rfl]
                  go_simp
                · rw [HX.out]
                  exact ⟨_, rfl, stored_nodes N6.out (by omega) BX6.out.2.2, stored_below B6.out (by omega), Or.inl rfl⟩
              · have tn : (k == nn) = false := by simpa using kn
                by_cases kr : k = 1
                · have tr : (k == 1) = true := by simpa using kr
                  have HO : Hid (R = _) := (HM3.out E4.out (fun h => by have h2 := hin.out.1 h.2; rw [kr] at h2; exact inside_root (HNE.out k3) h2)).trans HON.out
                  clear kn kr HON
                  clear HM1 HM2 HM3 HD1 HD2 HI1 HK HUP HDZ HNE HA HA1 HBX HB0 HN0 E4
                  clear hin hrch
                  go_wp2_with fail
                  refine (HI2.out _ N6.out B6.out.size).mono ?_
                  rintro e w7 ⟨rfl, hb7⟩
                  have BX7 := Lib.hid (BX6.out.below hb7)
                  have B7 := Lib.hid (on B6.out hb7)
                  have N7 := Lib.hid (N6.out.below (hb7.mono B6.out.size))
                  have NB7 := Lib.hid (NB6.out.below hb7)
                  clear hb7 x0 x1 y0 y1 g0 g1 q3
                  have x0 := BX7.out.t0
                  have x1 := BX7.out.t1
                  have y0 := BX7.out.r0
                  have y1 := BX7.out.r1
                  have g0 := BX7.out.f0
                  have g1 := BX7.out.f1
                  have q3 := NB7.out.c3
                  by_cases ko : oo = nn
                  · have to1 : (oo == nn) = true := by simpa using ko
                    have HX : Hid (R = (⟨L, last⟩, 0)) := HO.out.trans (if_pos ko)
                    clear ko HO
                    go_wp2_with fail
                    refine bodyPost_ret_by (v := .tuple #[.agg #[.slice A L.length c, .int .i64 last], .int .i64 0]) ?_ rfl ?_
                    · rw [results_cell_tmp rfl]
                      go_simp
                    · rw [HX.out]
                      exact ⟨_, rfl, stored_nodes N7.out (by omega) BX7.out.2.2, stored_below B7.out (by omega), Or.inl rfl⟩
                  · have to1 : (oo == nn) = false := by simpa using ko
                    have HO2 := Lib.hid (HO.out.trans (if_neg ko))
                    clear ko HO
                    by_cases kp : 0 < oo
                    · have HO3 := Lib.hid (HO2.out.trans (if_pos kp))
                      clear HO2
                      go_wp2_with fail
                      refine (HA2.out _ N7.out B7.out.size).mono ?_
                      rintro e w8 ⟨rfl, hb8⟩
                      have BX8 := Lib.hid (BX7.out.below hb8)
                      have B8 := Lib.hid (on B7.out hb8)
                      have N8 := Lib.hid (N7.out.below (hb8.mono B7.out.size))
                      have NB8 := Lib.hid (NB7.out.below hb8)
                      clear hb8 x0 x1 y0 y1 g0 g1 q3
                      have x0 := BX8.out.t0
                      have x1 := BX8.out.t1
                      have y0 := BX8.out.r0
                      have y1 := BX8.out.r1
                      have g0 := BX8.out.f0
                      have g1 := BX8.out.f1
                      have q3 := NB8.out.c3
                      have BX9 := Lib.hid (BX8.out.alloc (.cells #[.int .i64 y.num, .int .i64 y.up, .string ⟨y.name.toArray⟩, .int .i64 y.kind, .string ⟨y.data.toArray⟩] 69))
                      have B9 := Lib.hid (B8.out.alloc B8.out.size (.cells #[.int .i64 y.num, .int .i64 y.up, .string ⟨y.name.toArray⟩, .int .i64 y.kind, .string ⟨y.data.toArray⟩] 69))
                      have N9 := Lib.hid (N8.out.alloc B8.out.size (.cells #[.int .i64 y.num, .int .i64 y.up, .string ⟨y.name.toArray⟩, .int .i64 y.kind, .string ⟨y.data.toArray⟩] 69))
                      have NB9 := Lib.hid (NB8.out.alloc (.cells #[.int .i64 y.num, .int .i64 y.up, .string ⟨y.name.toArray⟩, .int .i64 y.kind, .string ⟨y.data.toArray⟩] 69))
                      have NB29 := Lib.hid (NodeBox.new w8 y)
                      unfold nodeV
                      clear x0 x1 y0 y1 g0 g1 q3
                      have x0 := BX9.out.t0
                      have x1 := BX9.out.t1
                      have y0 := BX9.out.r0
                      have y1 := BX9.out.r1
                      have g0 := BX9.out.f0
                      have g1 := BX9.out.f1
                      have q3 := NB9.out.c3
                      have qy := NB29.out.c3
                      have qx : (w8.alloc (.cells #[.int .i64 y.num, .int .i64 y.up, .string ⟨y.name.toArray⟩, .int .i64 y.kind, .string ⟨y.data.toArray⟩] 69)).cell? ⟨p, 3, none⟩ = some (.int .i64 x.kind) := NB9.out.c3
                      by_cases ky : y.kind = 1
                      · have ty : (y.kind == 1) = true := by simpa using ky
                        have ty' : (y.kind != 1) = false := by simp [ky]
                        have HO4 := Lib.hid (HO3.out.trans ((if_neg (fun h => h.2 HKX.out)).trans ((if_neg (fun h => h.1 ky)))))
                        clear ky HO3
                        go_wp2_with fail
                        refine (HC.out _ N9.out B9.out.size).mono ?_
                        rintro e w10 ⟨u, he, hap, hb10, -⟩
                        obtain ⟨A3, c3', rfl, hA31, hA32⟩ := (hap.reads (Nat.le_trans B9.out.size hb10.size)).form
                        rw [HCT.out] at he
                        subst he
                        unfold maxLen at hA32
                        have AP := Lib.hid hap
                        clear hap
                        have BX10 := Lib.hid (BX9.out.below hb10)
                        have B10 := Lib.hid (on B9.out hb10)
                        have N10 := Lib.hid (N9.out.below (hb10.mono B9.out.size))
                        have NB10 := Lib.hid (NB9.out.below hb10)
                        have hps : p < (w8.alloc (.cells #[.int .i64 y.num, .int .i64 y.up, .string ⟨y.name.toArray⟩, .int .i64 y.kind, .string ⟨y.data.toArray⟩] 69)).heap.size := NB9.out.lt
                        clear hb10 x0 x1 y0 y1 g0 g1 q3 qx qy
                        have BX11 := Lib.hid (BX10.out.alloc (.cells #[.slice A3 C.1.L.length c3', .int .i64 last] 30))
                        have B11 := Lib.hid (B10.out.alloc B10.out.size (.cells #[.slice A3 C.1.L.length c3', .int .i64 last] 30))
                        have N11 := Lib.hid (N10.out.alloc B10.out.size (.cells #[.slice A3 C.1.L.length c3', .int .i64 last] 30))
                        have NB11 := Lib.hid (NB10.out.alloc (.cells #[.slice A3 C.1.L.length c3', .int .i64 last] 30))
                        have AP2 := Lib.hid (AP.out.alloc B10.out.size (.cells #[.slice A3 C.1.L.length c3', .int .i64 last] 30))
                        have cu0 : (w10.alloc (.cells #[.slice A3 C.1.L.length c3', .int .i64 last] 30)).cell? ⟨w10.heap.size, 0, none⟩ = some (.slice A3 C.1.L.length c3') := cell_of_row _ _ 0 _ _ (0, 0) (heap_top _ _)
                        have cu1 : (w10.alloc (.cells #[.slice A3 C.1.L.length c3', .int .i64 last] 30)).cell? ⟨w10.heap.size, 1, none⟩ = some (.int .i64 last) := cell_of_row _ _ 1 _ _ (0, 0) (heap_top _ _)
                        obtain ⟨wT, hT⟩ : ∃ w', w10.alloc (.cells #[.slice A3 C.1.L.length c3', .int .i64 last] 30) = w' := ⟨_, rfl⟩
                        rw [hT] at BX11 B11 N11 NB11 AP2 cu0 cu1
                        clear AP BX10 B10 N10 NB10
                        have x0 := BX11.out.t0
                        have x1 := BX11.out.t1
                        have y0 := BX11.out.r0
                        have y1 := BX11.out.r1
                        have g0 := BX11.out.f0
                        have g1 := BX11.out.f1
                        have q3 := NB11.out.c3
                        by_cases kc : C.2 = 0
                        · have tc : (C.2 != 0) = false := by simp [kc]
                          have tc' : (C.2 == 0) = true := by simpa using kc
                          have HX : Hid (R = (placed C.1 x dst a.data.toList, 0)) := HO4.out.trans (if_neg (by simpa using kc))
                          clear kc HO4
                          obtain ⟨wS1, hS1⟩ : ∃ w', wT.setCell ⟨w.heap.size, 0, none⟩ (.slice A3 C.1.L.length c3') = w' := ⟨_, rfl⟩
                          obtain ⟨wS, hS⟩ : ∃ w', wS1.setCell ⟨w.heap.size, 1, none⟩ (.int .i64 last) = w' := ⟨_, rfl⟩
                          have hSS : (wT.setCell ⟨w.heap.size, 0, none⟩ (.slice A3 C.1.L.length c3')).setCell ⟨w.heap.size, 1, none⟩ (.int .i64 last) = wS := by rw [hS1]; exact hS
                          have ft0 : wT.frozen? ⟨w.heap.size, 0, none⟩ = false := frozen_of_row _ _ 0 _ _ BX11.out.1
                          have ft1 : wS1.frozen? ⟨w.heap.size, 1, none⟩ = false := by rw [← hS1]; exact frozen_of_row _ _ 1 _ _ (set_heap BX11.out.1 0 _)
                          have ct1 : wS1.cell? ⟨w.heap.size, 1, none⟩ = some (.int .i64 last) := by rw [← hS1]; exact cell_of_row _ _ 1 _ _ (0, 0) (set_heap BX11.out.1 0 _)
                          have BXS := Lib.hid (BX11.out.stored (.slice A3 C.1.L.length c3') last)
                          have NBS := Lib.hid (NodeBox.cellAt (j := 1) (u := .int .i64 last) (NodeBox.cellAt (q := w.heap.size) (j := 0) (u := .slice A3 C.1.L.length c3') NB11.out (by omega)) (show p ≠ w.heap.size by omega))
                          have BS : Hid (Below w.heap.size w ((wT.setCell ⟨w.heap.size, 0, none⟩ (.slice A3 C.1.L.length c3')).setCell ⟨w.heap.size, 1, none⟩ (.int .i64 last))) := (B11.out.setCell (p := ⟨w.heap.size, 0, none⟩) (Nat.le_refl _) _).setCell (p := ⟨w.heap.size, 1, none⟩) (Nat.le_refl _) _
                          have APS := Lib.hid (Apart.cell (q := w.heap.size) (j := 1) (a := .int .i64 last) (Apart.cell (q := w.heap.size) (j := 0) (a := .slice A3 C.1.L.length c3') AP2.out (Nat.le_refl _) (by omega)) (Nat.le_refl _) (by omega))
                          rw [hSS] at BXS NBS BS APS
                          clear hSS AP2 BX11 B11 N11 NB11
                          obtain ⟨wZ1, hZ1⟩ : ∃ w', wS.setCell ⟨p, 1, none⟩ (.int .i64 dst) = w' := ⟨_, rfl⟩
                          obtain ⟨wZ, hZ⟩ : ∃ w', wZ1.setCell ⟨p, 2, none⟩ (.string a) = w' := ⟨_, rfl⟩
                          have hZZ : (wS.setCell ⟨p, 1, none⟩ (.int .i64 dst)).setCell ⟨p, 2, none⟩ (.string a) = wZ := by rw [hZ1]; exact hZ
                          have NBZ := Lib.hid (NodeBox.moved NBS.out dst a)
                          have BXZ := Lib.hid (Boxed.cellAt (j := 2) (u := .string a) (Boxed.cellAt (p := p) (j := 1) (u := .int .i64 dst) BXS.out (by omega) (by omega)) (show w.heap.size ≠ p by omega) (by omega))
                          have BZ : Hid (Below w.heap.size w ((wS.setCell ⟨p, 1, none⟩ (.int .i64 dst)).setCell ⟨p, 2, none⟩ (.string a))) := (BS.out.setCell (p := ⟨p, 1, none⟩) (by show w.heap.size ≤ p; omega) _).setCell (p := ⟨p, 2, none⟩) (by show w.heap.size ≤ p; omega) _
                          rw [hZZ] at NBZ BXZ BZ
                          have NZ : Hid (Nodes wZ.heap.size wZ (.slice A3 C.1.L.length c3') C.1.L) := by rw [← hZZ]; exact Apart.reads (Apart.cell (q := p) (j := 2) (a := .string a) (Apart.cell (q := p) (j := 1) (a := .int .i64 dst) APS.out (by omega) (by omega)) (by omega) (by omega)) (by rw [hZZ]; exact BZ.out.size)
                          have HWZ := Lib.hid (HW.out _ _ { x with up := dst, name := a.data.toList } _ NZ.out (by have := HCL.out; omega) HC0.out)
                          unfold nodeV at HWZ
                          simp only [mk_bytes] at HWZ
                          have fr1 : wS.frozen? ⟨p, 1, none⟩ = false := NBS.out.fr 1
                          have fr2 : wZ1.frozen? ⟨p, 2, none⟩ = false := by rw [← hZ1]; exact frozen_of_row _ _ 2 _ _ (set_heap NBS.out 1 (.int .i64 dst))
                          have p1 : wS.cell? ⟨p, 1, none⟩ = some (.int .i64 x.up) := NBS.out.c1
                          have p2 : wZ1.cell? ⟨p, 2, none⟩ = some (.string ⟨x.name.toArray⟩) := by rw [← hZ1]; exact cell_of_row _ _ 2 _ _ (0, 0) (set_heap NBS.out 1 (.int .i64 dst))
                          have z0 : wZ.cell? ⟨p, 0, none⟩ = some (.int .i64 x.num) := NBZ.out.c0
                          have z1 : wZ.cell? ⟨p, 1, none⟩ = some (.int .i64 dst) := NBZ.out.c1
                          have z2 : wZ.cell? ⟨p, 2, none⟩ = some (.string a) := (by have := NBZ.out.c2; rw [mk_bytes] at this; exact this)
                          have z3 : wZ.cell? ⟨p, 3, none⟩ = some (.int .i64 x.kind) := NBZ.out.c3
                          have z4 : wZ.cell? ⟨p, 4, none⟩ = some (.string ⟨x.data.toArray⟩) := NBZ.out.c4
                          have zt0 : wZ.cell? ⟨w.heap.size, 0, none⟩ = some (.slice A3 C.1.L.length c3') := BXZ.out.t0
                          have zt1 : wZ.cell? ⟨w.heap.size, 1, none⟩ = some (.int .i64 last) := BXZ.out.t1
                          clear hZZ NZ NBZ HW HC HCL HC0
                          go_wp2_with fail
                          refine HWZ.out.mono ?_
                          rintro e wz ⟨g3, n3, c3, rfl, hg3, hn3, hbz⟩
                          have BXY := Lib.hid (BXZ.out.below hbz)
                          have BY := Lib.hid (on BZ.out hbz)
                          have NY := Lib.hid hn3
                          have hlt3 : w.heap.size + 1 < g3 := Nat.lt_of_lt_of_le BXZ.out.2.2 hg3
                          clear hn3 hbz hg3 x0 x1 y0 y1 g0 g1 q3 z0 z1 z2 z3 z4 zt0 zt1 fr1 fr2 p1 p2 hZ hZ1 HWZ
                          have yy0 := BXY.out.r0
                          have yy1 := BXY.out.r1
                          have gg0 := BXY.out.f0
                          have gg1 := BXY.out.f1
                          go_wp2_with fail
                          refine bodyPost_ret_by (v := .tuple #[.agg #[.slice (some ⟨g3, 0, none⟩) n3 c3, .int .i64 last], .int .i64 0]) ?_ rfl ?_
                          · rw [results_cell_tmp rfl]
                            go_simp
                          · rw [HX.out]
                            exact ⟨_, by rw [show (placed C.1 x dst a.data.toList).last = last from HCT.out], stored_other NY.out hlt3, stored_below BY.out (by omega), Or.inr (Or.inr ⟨_, _, _, rfl, by omega⟩)⟩
                        · have tc : (C.2 != 0) = true := by simpa using kc
                          have tc' : (C.2 == 0) = false := by simpa using kc
                          have HX : Hid (R = (⟨L, last⟩, C.2)) := HO4.out.trans (if_pos kc)
                          clear kc HO4
                          go_wp2_with fail
                          refine bodyPost_ret_by (v := .tuple #[.agg #[.slice A L.length c, .int .i64 last], .int .i64 C.2]) ?_ rfl ?_
                          · rw [results_cell_tmp rfl]
                            go_simp
                          · rw [HX.out]
                            exact ⟨_, rfl, stored_nodes N11.out (by omega) BX11.out.2.2, stored_below B11.out (by omega), Or.inl rfl⟩
                      · have ty : (y.kind == 1) = false := by simpa using ky
                        have ty' : (y.kind != 1) = true := by simpa using ky
                        have HX : Hid (R = (⟨L, last⟩, 7)) := HO3.out.trans ((if_neg (fun h => ky h.1)).trans (if_pos ⟨ky, HKX.out⟩))
                        clear ky HO3
                        go_wp2_with fail
                        refine bodyPost_ret_by (v := .tuple #[.agg #[.slice A L.length c, .int .i64 last], .int .i64 7]) ?_ rfl ?_
                        · rw [results_cell_tmp rfl]
                          go_simp
                        · rw [HX.out]
                          exact ⟨_, rfl, stored_nodes N9.out (by omega) BX9.out.2.2, stored_below B9.out (by omega), Or.inl rfl⟩
                    · have HX : Hid (R = (placed ⟨L, last⟩ x dst a.data.toList, 0)) := HO2.out.trans (if_neg kp)
                      clear HO2
                      obtain ⟨wZ1, hZ1⟩ : ∃ w', w7.setCell ⟨p, 1, none⟩ (.int .i64 dst) = w' := ⟨_, rfl⟩
                      obtain ⟨wZ, hZ⟩ : ∃ w', wZ1.setCell ⟨p, 2, none⟩ (.string a) = w' := ⟨_, rfl⟩
                      have hZZ : (w7.setCell ⟨p, 1, none⟩ (.int .i64 dst)).setCell ⟨p, 2, none⟩ (.string a) = wZ := by rw [hZ1]; exact hZ
                      have NBZ := Lib.hid (NodeBox.moved NB7.out dst a)
                      have BXZ := Lib.hid (Boxed.cellAt (j := 2) (u := .string a) (Boxed.cellAt (p := p) (j := 1) (u := .int .i64 dst) BX7.out (by omega) (by omega)) (show w.heap.size ≠ p by omega) (by omega))
                      have BZ : Hid (Below w.heap.size w ((w7.setCell ⟨p, 1, none⟩ (.int .i64 dst)).setCell ⟨p, 2, none⟩ (.string a))) := (B7.out.setCell (p := ⟨p, 1, none⟩) (by show w.heap.size ≤ p; omega) _).setCell (p := ⟨p, 2, none⟩) (by show w.heap.size ≤ p; omega) _
                      rw [hZZ] at NBZ BXZ BZ
                      have NZ : Hid (Nodes wZ.heap.size wZ (.slice A L.length c) L) := by rw [← hZZ]; exact ((N7.out.below (((Below.refl w.heap.size _).setCell (p := ⟨p, 1, none⟩) (by show w.heap.size ≤ p; omega) (.int .i64 dst)).setCell (p := ⟨p, 2, none⟩) (by show w.heap.size ≤ p; omega) (.string a))).more (by rw [hZZ]; exact BZ.out.size))
                      have HWZ := Lib.hid (HW.out _ _ { x with up := dst, name := a.data.toList } _ NZ.out (by omega) (by omega))
                      unfold nodeV at HWZ
                      simp only [mk_bytes] at HWZ
                      have fr1 : w7.frozen? ⟨p, 1, none⟩ = false := NB7.out.fr 1
                      have fr2 : wZ1.frozen? ⟨p, 2, none⟩ = false := by rw [← hZ1]; exact frozen_of_row _ _ 2 _ _ (set_heap NB7.out 1 (.int .i64 dst))
                      have p1 : w7.cell? ⟨p, 1, none⟩ = some (.int .i64 x.up) := NB7.out.c1
                      have p2 : wZ1.cell? ⟨p, 2, none⟩ = some (.string ⟨x.name.toArray⟩) := by rw [← hZ1]; exact cell_of_row _ _ 2 _ _ (0, 0) (set_heap NB7.out 1 (.int .i64 dst))
                      have z0 : wZ.cell? ⟨p, 0, none⟩ = some (.int .i64 x.num) := NBZ.out.c0
                      have z1 : wZ.cell? ⟨p, 1, none⟩ = some (.int .i64 dst) := NBZ.out.c1
                      have z2 : wZ.cell? ⟨p, 2, none⟩ = some (.string a) := (by have := NBZ.out.c2; rw [mk_bytes] at this; exact this)
                      have z3 : wZ.cell? ⟨p, 3, none⟩ = some (.int .i64 x.kind) := NBZ.out.c3
                      have z4 : wZ.cell? ⟨p, 4, none⟩ = some (.string ⟨x.data.toArray⟩) := NBZ.out.c4
                      have zt0 : wZ.cell? ⟨w.heap.size, 0, none⟩ = some (.slice A L.length c) := BXZ.out.t0
                      have zt1 : wZ.cell? ⟨w.heap.size, 1, none⟩ = some (.int .i64 last) := BXZ.out.t1
                      clear hZZ NZ NBZ HW HC HCL HC0
                      go_wp2_with fail
                      refine HWZ.out.mono ?_
                      rintro e wz ⟨g3, n3, c3, rfl, hg3, hn3, hbz⟩
                      have BXY := Lib.hid (BXZ.out.below hbz)
                      have BY := Lib.hid (on BZ.out hbz)
                      have NY := Lib.hid hn3
                      have hlt3 : w.heap.size + 1 < g3 := Nat.lt_of_lt_of_le BXZ.out.2.2 hg3
                      clear hn3 hbz hg3 x0 x1 y0 y1 g0 g1 q3 z0 z1 z2 z3 z4 zt0 zt1 fr1 fr2 p1 p2 hZ hZ1 HWZ
                      have yy0 := BXY.out.r0
                      have yy1 := BXY.out.r1
                      have gg0 := BXY.out.f0
                      have gg1 := BXY.out.f1
                      go_wp2_with fail
                      refine bodyPost_ret_by (v := .tuple #[.agg #[.slice (some ⟨g3, 0, none⟩) n3 c3, .int .i64 last], .int .i64 0]) ?_ rfl ?_
                      · rw [results_cell_tmp rfl]
                        go_simp
                      · rw [HX.out]
                        exact ⟨_, rfl, stored_other NY.out hlt3, stored_below BY.out (by omega), Or.inr (Or.inr ⟨_, _, _, rfl, by omega⟩)⟩
                · have tr : (k == 1) = false := by simpa using kr
                  have kf := field_up (nodeAt L k).num (nodeAt L k).up ⟨(nodeAt L k).name.toArray⟩ (nodeAt L k).kind ⟨(nodeAt L k).data.toArray⟩
                  have HAK := Lib.hid (HA.out k)
                  unfold nodeV at HAK
                  have HIN := Lib.hid (hin.out.trans (inside_up kn kr))
                  have HH := Lib.hid (height_up hrch.out kr)
                  clear kn kr
                  go_wp2_with fail
                  refine (HAK.out _ N6.out B6.out.size).mono ?_
                  rintro e w7 ⟨rfl, hb7⟩
                  have BX7 := Lib.hid (BX6.out.below hb7)
                  have B7 := Lib.hid (on B6.out hb7)
                  have N7 := Lib.hid (N6.out.below (hb7.mono B6.out.size))
                  have NB7 := Lib.hid (NB6.out.below hb7)
                  clear hb7 x0 x1 y0 y1 g0 g1 q3
                  have x0 := BX7.out.t0
                  have x1 := BX7.out.t1
                  have y0 := BX7.out.r0
                  have y1 := BX7.out.r1
                  have g0 := BX7.out.f0
                  have g1 := BX7.out.f1
                  have q3 := NB7.out.c3
                  go_wp2_with fail
                  go_roundw
                  case rel => exact ⟨(nodeAt L k).up, rfl, HIN, HH.out.1, BX7, NB7, N7, B7⟩
                  case measure => exact HH.out.2
            · have tx : (x.kind == 1) = false := by simpa using kx
              have tx' : (x.kind != 1) = true := by simpa using kx
              have HKX := Lib.hid kx
              clear kx
              have HO : Hid (R = _) := (HM3.out E4.out (fun h => HKX.out h.1)).trans HON.out
              clear HON
              clear HM1 HM2 HM3 HD1 HD2 HI1 HK HUP HDZ HNE HA HA1 HBX HB0 HN0 E4
              go_wp2_with fail
              refine (HI2.out _ N6.out B6.out.size).mono ?_
              rintro e w7 ⟨rfl, hb7⟩
              have BX7 := Lib.hid (BX6.out.below hb7)
              have B7 := Lib.hid (on B6.out hb7)
              have N7 := Lib.hid (N6.out.below (hb7.mono B6.out.size))
              have NB7 := Lib.hid (NB6.out.below hb7)
              clear hb7 x0 x1 y0 y1 g0 g1 q3
              have x0 := BX7.out.t0
              have x1 := BX7.out.t1
              have y0 := BX7.out.r0
              have y1 := BX7.out.r1
              have g0 := BX7.out.f0
              have g1 := BX7.out.f1
              have q3 := NB7.out.c3
              by_cases ko : oo = nn
              · have to1 : (oo == nn) = true := by simpa using ko
                have HX : Hid (R = (⟨L, last⟩, 0)) := HO.out.trans (if_pos ko)
                clear ko HO
                go_wp2_with fail
                refine bodyPost_ret_by (v := .tuple #[.agg #[.slice A L.length c, .int .i64 last], .int .i64 0]) ?_ rfl ?_
                · rw [results_cell_tmp rfl]
                  go_simp
                · rw [HX.out]
                  exact ⟨_, rfl, stored_nodes N7.out (by omega) BX7.out.2.2, stored_below B7.out (by omega), Or.inl rfl⟩
              · have to1 : (oo == nn) = false := by simpa using ko
                have HO2 := Lib.hid (HO.out.trans (if_neg ko))
                clear ko HO
                by_cases kp : 0 < oo
                · have HO3 := Lib.hid (HO2.out.trans (if_pos kp))
                  clear HO2
                  go_wp2_with fail
                  refine (HA2.out _ N7.out B7.out.size).mono ?_
                  rintro e w8 ⟨rfl, hb8⟩
                  have BX8 := Lib.hid (BX7.out.below hb8)
                  have B8 := Lib.hid (on B7.out hb8)
                  have N8 := Lib.hid (N7.out.below (hb8.mono B7.out.size))
                  have NB8 := Lib.hid (NB7.out.below hb8)
                  clear hb8 x0 x1 y0 y1 g0 g1 q3
                  have x0 := BX8.out.t0
                  have x1 := BX8.out.t1
                  have y0 := BX8.out.r0
                  have y1 := BX8.out.r1
                  have g0 := BX8.out.f0
                  have g1 := BX8.out.f1
                  have q3 := NB8.out.c3
                  have BX9 := Lib.hid (BX8.out.alloc (.cells #[.int .i64 y.num, .int .i64 y.up, .string ⟨y.name.toArray⟩, .int .i64 y.kind, .string ⟨y.data.toArray⟩] 69))
                  have B9 := Lib.hid (B8.out.alloc B8.out.size (.cells #[.int .i64 y.num, .int .i64 y.up, .string ⟨y.name.toArray⟩, .int .i64 y.kind, .string ⟨y.data.toArray⟩] 69))
                  have N9 := Lib.hid (N8.out.alloc B8.out.size (.cells #[.int .i64 y.num, .int .i64 y.up, .string ⟨y.name.toArray⟩, .int .i64 y.kind, .string ⟨y.data.toArray⟩] 69))
                  have NB9 := Lib.hid (NB8.out.alloc (.cells #[.int .i64 y.num, .int .i64 y.up, .string ⟨y.name.toArray⟩, .int .i64 y.kind, .string ⟨y.data.toArray⟩] 69))
                  have NB29 := Lib.hid (NodeBox.new w8 y)
                  unfold nodeV
                  clear x0 x1 y0 y1 g0 g1 q3
                  have x0 := BX9.out.t0
                  have x1 := BX9.out.t1
                  have y0 := BX9.out.r0
                  have y1 := BX9.out.r1
                  have g0 := BX9.out.f0
                  have g1 := BX9.out.f1
                  have q3 := NB9.out.c3
                  have qy := NB29.out.c3
                  have qx : (w8.alloc (.cells #[.int .i64 y.num, .int .i64 y.up, .string ⟨y.name.toArray⟩, .int .i64 y.kind, .string ⟨y.data.toArray⟩] 69)).cell? ⟨p, 3, none⟩ = some (.int .i64 x.kind) := NB9.out.c3
                  by_cases ky : y.kind = 1
                  · have ty : (y.kind == 1) = true := by simpa using ky
                    have ty' : (y.kind != 1) = false := by simp [ky]
                    have HX : Hid (R = (⟨L, last⟩, 8)) := HO3.out.trans (if_pos ⟨ky, HKX.out⟩)
                    clear ky HO3
                    go_wp2_with fail
                    refine bodyPost_ret_by (v := .tuple #[.agg #[.slice A L.length c, .int .i64 last], .int .i64 8]) ?_ rfl ?_
                    · rw [results_cell_tmp rfl]
                      go_simp
                    · rw [HX.out]
                      exact ⟨_, rfl, stored_nodes N9.out (by omega) BX9.out.2.2, stored_below B9.out (by omega), Or.inl rfl⟩
                  · have ty : (y.kind == 1) = false := by simpa using ky
                    have ty' : (y.kind != 1) = true := by simpa using ky
                    have HO4 := Lib.hid (HO3.out.trans ((if_neg (fun h => ky h.1)).trans (if_neg (fun h => HKX.out h.2))))
                    clear ky HO3
                    go_wp2_with fail
                    refine (HC.out _ N9.out B9.out.size).mono ?_
                    rintro e w10 ⟨u, he, hap, hb10, -⟩
                    obtain ⟨A3, c3', rfl, hA31, hA32⟩ := (hap.reads (Nat.le_trans B9.out.size hb10.size)).form
                    rw [HCT.out] at he
                    subst he
                    unfold maxLen at hA32
                    have AP := Lib.hid hap
                    clear hap
                    have BX10 := Lib.hid (BX9.out.below hb10)
                    have B10 := Lib.hid (on B9.out hb10)
                    have N10 := Lib.hid (N9.out.below (hb10.mono B9.out.size))
                    have NB10 := Lib.hid (NB9.out.below hb10)
                    have hps : p < (w8.alloc (.cells #[.int .i64 y.num, .int .i64 y.up, .string ⟨y.name.toArray⟩, .int .i64 y.kind, .string ⟨y.data.toArray⟩] 69)).heap.size := NB9.out.lt
                    clear hb10 x0 x1 y0 y1 g0 g1 q3 qx qy
                    have BX11 := Lib.hid (BX10.out.alloc (.cells #[.slice A3 C.1.L.length c3', .int .i64 last] 30))
                    have B11 := Lib.hid (B10.out.alloc B10.out.size (.cells #[.slice A3 C.1.L.length c3', .int .i64 last] 30))
                    have N11 := Lib.hid (N10.out.alloc B10.out.size (.cells #[.slice A3 C.1.L.length c3', .int .i64 last] 30))
                    have NB11 := Lib.hid (NB10.out.alloc (.cells #[.slice A3 C.1.L.length c3', .int .i64 last] 30))
                    have AP2 := Lib.hid (AP.out.alloc B10.out.size (.cells #[.slice A3 C.1.L.length c3', .int .i64 last] 30))
                    have cu0 : (w10.alloc (.cells #[.slice A3 C.1.L.length c3', .int .i64 last] 30)).cell? ⟨w10.heap.size, 0, none⟩ = some (.slice A3 C.1.L.length c3') := cell_of_row _ _ 0 _ _ (0, 0) (heap_top _ _)
                    have cu1 : (w10.alloc (.cells #[.slice A3 C.1.L.length c3', .int .i64 last] 30)).cell? ⟨w10.heap.size, 1, none⟩ = some (.int .i64 last) := cell_of_row _ _ 1 _ _ (0, 0) (heap_top _ _)
                    obtain ⟨wT, hT⟩ : ∃ w', w10.alloc (.cells #[.slice A3 C.1.L.length c3', .int .i64 last] 30) = w' := ⟨_, rfl⟩
                    rw [hT] at BX11 B11 N11 NB11 AP2 cu0 cu1
                    clear AP BX10 B10 N10 NB10
                    have x0 := BX11.out.t0
                    have x1 := BX11.out.t1
                    have y0 := BX11.out.r0
                    have y1 := BX11.out.r1
                    have g0 := BX11.out.f0
                    have g1 := BX11.out.f1
                    have q3 := NB11.out.c3
                    by_cases kc : C.2 = 0
                    · have tc : (C.2 != 0) = false := by simp [kc]
                      have tc' : (C.2 == 0) = true := by simpa using kc
                      have HX : Hid (R = (placed C.1 x dst a.data.toList, 0)) := HO4.out.trans (if_neg (by simpa using kc))
                      clear kc HO4
                      obtain ⟨wS1, hS1⟩ : ∃ w', wT.setCell ⟨w.heap.size, 0, none⟩ (.slice A3 C.1.L.length c3') = w' := ⟨_, rfl⟩
                      obtain ⟨wS, hS⟩ : ∃ w', wS1.setCell ⟨w.heap.size, 1, none⟩ (.int .i64 last) = w' := ⟨_, rfl⟩
                      have hSS : (wT.setCell ⟨w.heap.size, 0, none⟩ (.slice A3 C.1.L.length c3')).setCell ⟨w.heap.size, 1, none⟩ (.int .i64 last) = wS := by rw [hS1]; exact hS
                      have ft0 : wT.frozen? ⟨w.heap.size, 0, none⟩ = false := frozen_of_row _ _ 0 _ _ BX11.out.1
                      have ft1 : wS1.frozen? ⟨w.heap.size, 1, none⟩ = false := by rw [← hS1]; exact frozen_of_row _ _ 1 _ _ (set_heap BX11.out.1 0 _)
                      have ct1 : wS1.cell? ⟨w.heap.size, 1, none⟩ = some (.int .i64 last) := by rw [← hS1]; exact cell_of_row _ _ 1 _ _ (0, 0) (set_heap BX11.out.1 0 _)
                      have BXS := Lib.hid (BX11.out.stored (.slice A3 C.1.L.length c3') last)
                      have NBS := Lib.hid (NodeBox.cellAt (j := 1) (u := .int .i64 last) (NodeBox.cellAt (q := w.heap.size) (j := 0) (u := .slice A3 C.1.L.length c3') NB11.out (by omega)) (show p ≠ w.heap.size by omega))
                      have BS : Hid (Below w.heap.size w ((wT.setCell ⟨w.heap.size, 0, none⟩ (.slice A3 C.1.L.length c3')).setCell ⟨w.heap.size, 1, none⟩ (.int .i64 last))) := (B11.out.setCell (p := ⟨w.heap.size, 0, none⟩) (Nat.le_refl _) _).setCell (p := ⟨w.heap.size, 1, none⟩) (Nat.le_refl _) _
                      have APS := Lib.hid (Apart.cell (q := w.heap.size) (j := 1) (a := .int .i64 last) (Apart.cell (q := w.heap.size) (j := 0) (a := .slice A3 C.1.L.length c3') AP2.out (Nat.le_refl _) (by omega)) (Nat.le_refl _) (by omega))
                      rw [hSS] at BXS NBS BS APS
                      clear hSS AP2 BX11 B11 N11 NB11
                      obtain ⟨wZ1, hZ1⟩ : ∃ w', wS.setCell ⟨p, 1, none⟩ (.int .i64 dst) = w' := ⟨_, rfl⟩
                      obtain ⟨wZ, hZ⟩ : ∃ w', wZ1.setCell ⟨p, 2, none⟩ (.string a) = w' := ⟨_, rfl⟩
                      have hZZ : (wS.setCell ⟨p, 1, none⟩ (.int .i64 dst)).setCell ⟨p, 2, none⟩ (.string a) = wZ := by rw [hZ1]; exact hZ
                      have NBZ := Lib.hid (NodeBox.moved NBS.out dst a)
                      have BXZ := Lib.hid (Boxed.cellAt (j := 2) (u := .string a) (Boxed.cellAt (p := p) (j := 1) (u := .int .i64 dst) BXS.out (by omega) (by omega)) (show w.heap.size ≠ p by omega) (by omega))
                      have BZ : Hid (Below w.heap.size w ((wS.setCell ⟨p, 1, none⟩ (.int .i64 dst)).setCell ⟨p, 2, none⟩ (.string a))) := (BS.out.setCell (p := ⟨p, 1, none⟩) (by show w.heap.size ≤ p; omega) _).setCell (p := ⟨p, 2, none⟩) (by show w.heap.size ≤ p; omega) _
                      rw [hZZ] at NBZ BXZ BZ
                      have NZ : Hid (Nodes wZ.heap.size wZ (.slice A3 C.1.L.length c3') C.1.L) := by rw [← hZZ]; exact Apart.reads (Apart.cell (q := p) (j := 2) (a := .string a) (Apart.cell (q := p) (j := 1) (a := .int .i64 dst) APS.out (by omega) (by omega)) (by omega) (by omega)) (by rw [hZZ]; exact BZ.out.size)
                      have HWZ := Lib.hid (HW.out _ _ { x with up := dst, name := a.data.toList } _ NZ.out (by have := HCL.out; omega) HC0.out)
                      unfold nodeV at HWZ
                      simp only [mk_bytes] at HWZ
                      have fr1 : wS.frozen? ⟨p, 1, none⟩ = false := NBS.out.fr 1
                      have fr2 : wZ1.frozen? ⟨p, 2, none⟩ = false := by rw [← hZ1]; exact frozen_of_row _ _ 2 _ _ (set_heap NBS.out 1 (.int .i64 dst))
                      have p1 : wS.cell? ⟨p, 1, none⟩ = some (.int .i64 x.up) := NBS.out.c1
                      have p2 : wZ1.cell? ⟨p, 2, none⟩ = some (.string ⟨x.name.toArray⟩) := by rw [← hZ1]; exact cell_of_row _ _ 2 _ _ (0, 0) (set_heap NBS.out 1 (.int .i64 dst))
                      have z0 : wZ.cell? ⟨p, 0, none⟩ = some (.int .i64 x.num) := NBZ.out.c0
                      have z1 : wZ.cell? ⟨p, 1, none⟩ = some (.int .i64 dst) := NBZ.out.c1
                      have z2 : wZ.cell? ⟨p, 2, none⟩ = some (.string a) := (by have := NBZ.out.c2; rw [mk_bytes] at this; exact this)
                      have z3 : wZ.cell? ⟨p, 3, none⟩ = some (.int .i64 x.kind) := NBZ.out.c3
                      have z4 : wZ.cell? ⟨p, 4, none⟩ = some (.string ⟨x.data.toArray⟩) := NBZ.out.c4
                      have zt0 : wZ.cell? ⟨w.heap.size, 0, none⟩ = some (.slice A3 C.1.L.length c3') := BXZ.out.t0
                      have zt1 : wZ.cell? ⟨w.heap.size, 1, none⟩ = some (.int .i64 last) := BXZ.out.t1
                      clear hZZ NZ NBZ HW HC HCL HC0
                      go_wp2_with fail
                      refine HWZ.out.mono ?_
                      rintro e wz ⟨g3, n3, c3, rfl, hg3, hn3, hbz⟩
                      have BXY := Lib.hid (BXZ.out.below hbz)
                      have BY := Lib.hid (on BZ.out hbz)
                      have NY := Lib.hid hn3
                      have hlt3 : w.heap.size + 1 < g3 := Nat.lt_of_lt_of_le BXZ.out.2.2 hg3
                      clear hn3 hbz hg3 x0 x1 y0 y1 g0 g1 q3 z0 z1 z2 z3 z4 zt0 zt1 fr1 fr2 p1 p2 hZ hZ1 HWZ
                      have yy0 := BXY.out.r0
                      have yy1 := BXY.out.r1
                      have gg0 := BXY.out.f0
                      have gg1 := BXY.out.f1
                      go_wp2_with fail
                      refine bodyPost_ret_by (v := .tuple #[.agg #[.slice (some ⟨g3, 0, none⟩) n3 c3, .int .i64 last], .int .i64 0]) ?_ rfl ?_
                      · rw [results_cell_tmp rfl]
                        go_simp
                      · rw [HX.out]
                        exact ⟨_, by rw [show (placed C.1 x dst a.data.toList).last = last from HCT.out], stored_other NY.out hlt3, stored_below BY.out (by omega), Or.inr (Or.inr ⟨_, _, _, rfl, by omega⟩)⟩
                    · have tc : (C.2 != 0) = true := by simpa using kc
                      have tc' : (C.2 == 0) = false := by simpa using kc
                      have HX : Hid (R = (⟨L, last⟩, C.2)) := HO4.out.trans (if_pos kc)
                      clear kc HO4
                      go_wp2_with fail
                      refine bodyPost_ret_by (v := .tuple #[.agg #[.slice A L.length c, .int .i64 last], .int .i64 C.2]) ?_ rfl ?_
                      · rw [results_cell_tmp rfl]
                        go_simp
                      · rw [HX.out]
                        exact ⟨_, rfl, stored_nodes N11.out (by omega) BX11.out.2.2, stored_below B11.out (by omega), Or.inl rfl⟩
                · have HX : Hid (R = (placed ⟨L, last⟩ x dst a.data.toList, 0)) := HO2.out.trans (if_neg kp)
                  clear HO2
                  obtain ⟨wZ1, hZ1⟩ : ∃ w', w7.setCell ⟨p, 1, none⟩ (.int .i64 dst) = w' := ⟨_, rfl⟩
                  obtain ⟨wZ, hZ⟩ : ∃ w', wZ1.setCell ⟨p, 2, none⟩ (.string a) = w' := ⟨_, rfl⟩
                  have hZZ : (w7.setCell ⟨p, 1, none⟩ (.int .i64 dst)).setCell ⟨p, 2, none⟩ (.string a) = wZ := by rw [hZ1]; exact hZ
                  have NBZ := Lib.hid (NodeBox.moved NB7.out dst a)
                  have BXZ := Lib.hid (Boxed.cellAt (j := 2) (u := .string a) (Boxed.cellAt (p := p) (j := 1) (u := .int .i64 dst) BX7.out (by omega) (by omega)) (show w.heap.size ≠ p by omega) (by omega))
                  have BZ : Hid (Below w.heap.size w ((w7.setCell ⟨p, 1, none⟩ (.int .i64 dst)).setCell ⟨p, 2, none⟩ (.string a))) := (B7.out.setCell (p := ⟨p, 1, none⟩) (by show w.heap.size ≤ p; omega) _).setCell (p := ⟨p, 2, none⟩) (by show w.heap.size ≤ p; omega) _
                  rw [hZZ] at NBZ BXZ BZ
                  have NZ : Hid (Nodes wZ.heap.size wZ (.slice A L.length c) L) := by rw [← hZZ]; exact ((N7.out.below (((Below.refl w.heap.size _).setCell (p := ⟨p, 1, none⟩) (by show w.heap.size ≤ p; omega) (.int .i64 dst)).setCell (p := ⟨p, 2, none⟩) (by show w.heap.size ≤ p; omega) (.string a))).more (by rw [hZZ]; exact BZ.out.size))
                  have HWZ := Lib.hid (HW.out _ _ { x with up := dst, name := a.data.toList } _ NZ.out (by omega) (by omega))
                  unfold nodeV at HWZ
                  simp only [mk_bytes] at HWZ
                  have fr1 : w7.frozen? ⟨p, 1, none⟩ = false := NB7.out.fr 1
                  have fr2 : wZ1.frozen? ⟨p, 2, none⟩ = false := by rw [← hZ1]; exact frozen_of_row _ _ 2 _ _ (set_heap NB7.out 1 (.int .i64 dst))
                  have p1 : w7.cell? ⟨p, 1, none⟩ = some (.int .i64 x.up) := NB7.out.c1
                  have p2 : wZ1.cell? ⟨p, 2, none⟩ = some (.string ⟨x.name.toArray⟩) := by rw [← hZ1]; exact cell_of_row _ _ 2 _ _ (0, 0) (set_heap NB7.out 1 (.int .i64 dst))
                  have z0 : wZ.cell? ⟨p, 0, none⟩ = some (.int .i64 x.num) := NBZ.out.c0
                  have z1 : wZ.cell? ⟨p, 1, none⟩ = some (.int .i64 dst) := NBZ.out.c1
                  have z2 : wZ.cell? ⟨p, 2, none⟩ = some (.string a) := (by have := NBZ.out.c2; rw [mk_bytes] at this; exact this)
                  have z3 : wZ.cell? ⟨p, 3, none⟩ = some (.int .i64 x.kind) := NBZ.out.c3
                  have z4 : wZ.cell? ⟨p, 4, none⟩ = some (.string ⟨x.data.toArray⟩) := NBZ.out.c4
                  have zt0 : wZ.cell? ⟨w.heap.size, 0, none⟩ = some (.slice A L.length c) := BXZ.out.t0
                  have zt1 : wZ.cell? ⟨w.heap.size, 1, none⟩ = some (.int .i64 last) := BXZ.out.t1
                  clear hZZ NZ NBZ HW HC HCL HC0
                  go_wp2_with fail
                  refine HWZ.out.mono ?_
                  rintro e wz ⟨g3, n3, c3, rfl, hg3, hn3, hbz⟩
                  have BXY := Lib.hid (BXZ.out.below hbz)
                  have BY := Lib.hid (on BZ.out hbz)
                  have NY := Lib.hid hn3
                  have hlt3 : w.heap.size + 1 < g3 := Nat.lt_of_lt_of_le BXZ.out.2.2 hg3
                  clear hn3 hbz hg3 x0 x1 y0 y1 g0 g1 q3 z0 z1 z2 z3 z4 zt0 zt1 fr1 fr2 p1 p2 hZ hZ1 HWZ
                  have yy0 := BXY.out.r0
                  have yy1 := BXY.out.r1
                  have gg0 := BXY.out.f0
                  have gg1 := BXY.out.f1
                  go_wp2_with fail
                  refine bodyPost_ret_by (v := .tuple #[.agg #[.slice (some ⟨g3, 0, none⟩) n3 c3, .int .i64 last], .int .i64 0]) ?_ rfl ?_
                  · rw [results_cell_tmp rfl]
                    go_simp
                  · rw [HX.out]
                    exact ⟨_, rfl, stored_other NY.out hlt3, stored_below BY.out (by omega), Or.inr (Or.inr ⟨_, _, _, rfl, by omega⟩)⟩
        · have t4 : (ck == 0) = false := by simpa using k4
          have t4' : (ck != 0) = true := by simpa using k4
          have HX : Hid (R = (⟨L, last⟩, ck)) := by show _ = _; rw [HM1.out (by rw [E3.out]; exact k4), E3.out]
          clear k4 E3
          go_wp2_with fail
          refine (HK.out _).mono ?_
          rintro e w4' ⟨rfl, rfl⟩
          go_wp2_with fail
          refine bodyPost_ret_by (v := .tuple #[.agg #[.slice A L.length c, .int .i64 last], .int .i64 ck]) ?_ rfl ?_
          · rw [results_cell_tmp rfl]
            go_simp
          · rw [HX.out]
            exact ⟨_, rfl, stored_nodes N3.out (by omega) BX3.out.2.2, stored_below B3.out (by omega), Or.inl rfl⟩
    · have t2 : (df == 0) = false := by simpa using k2
      have t2' : (df != 0) = true := by simpa using k2
      have E2 : Hid (me = df) := E1.out.trans (if_pos k2)
      have HX : Hid (R = (⟨L, last⟩, df)) := by show _ = _; rw [HM1.out (by rw [E2.out]; exact k2), E2.out]
      clear k2 E1 E2
      go_wp2_with fail
      refine (HI1.out _ N2.out B2.out.size).mono ?_
      rintro e w3 ⟨rfl, hb3⟩
      have BX3 := Lib.hid (BX2.out.below hb3)
      have B3 := Lib.hid (on B2.out hb3)
      have N3 := Lib.hid (N2.out.below (hb3.mono B2.out.size))
      clear hb3 x0 x1 y0 y1 g0 g1
      have x0 := BX3.out.t0
      have x1 := BX3.out.t1
      have y0 := BX3.out.r0
      have y1 := BX3.out.r1
      have g0 := BX3.out.f0
      have g1 := BX3.out.f1
      go_wp2_with fail
      refine bodyPost_ret_by (v := .tuple #[.agg #[.slice A L.length c, .int .i64 last], .int .i64 df]) ?_ rfl ?_
      · rw [results_cell_tmp rfl]
        go_simp
      · rw [HX.out]
        exact ⟨_, rfl, stored_nodes N3.out (by omega) BX3.out.2.2, stored_below B3.out (by omega), Or.inl rfl⟩
  · have t1 : (de == 0) = false := by simpa using k1
    have t1' : (de != 0) = true := by simpa using k1
    have E1 : Hid (me = de) := HE.out.trans (if_pos k1)
    have HX : Hid (R = (⟨L, last⟩, de)) := by show _ = _; rw [HM1.out (by rw [E1.out]; exact k1), E1.out]
    clear k1 HE E1
    go_wp2_with fail
    refine (HI1.out _ N1.out B1.out.size).mono ?_
    rintro e w2 ⟨rfl, hb2⟩
    have BX2 := Lib.hid (BX1.out.below hb2)
    have B2 := Lib.hid (on B1.out hb2)
    have N2 := Lib.hid (N1.out.below (hb2.mono B1.out.size))
    clear hb2 x0 x1 y0 y1 g0 g1
    have x0 := BX2.out.t0
    have x1 := BX2.out.t1
    have y0 := BX2.out.r0
    have y1 := BX2.out.r1
    have g0 := BX2.out.f0
    have g1 := BX2.out.f1
    go_wp2_with fail
    refine bodyPost_ret_by (v := .tuple #[.agg #[.slice A L.length c, .int .i64 last], .int .i64 de]) ?_ rfl ?_
    · rw [results_cell_tmp rfl]
      go_simp
    · rw [HX.out]
      exact ⟨_, rfl, stored_nodes N2.out (by omega) BX2.out.2.2, stored_below B2.out (by omega), Or.inl rfl⟩
end Go.Proofs.YtmbpgjncioegdaaGreatDoor.W07
