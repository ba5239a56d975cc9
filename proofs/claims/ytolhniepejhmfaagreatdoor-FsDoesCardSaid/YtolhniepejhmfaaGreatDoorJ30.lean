/-
  Texts joined, in build order, each with its own comment and its own conditions: W10Ref, W07Lives, W07Goes, W09Does.
-/
import Derived.Test.YtolhniepejhmfaaGreatDoorJ28
import Derived.Test.YtolhniepejhmfaaGreatDoorJ29
import Derived.BigQuiet
import Derived.Test.YtolhniepejhmfaaGreatDoorJ13
import Derived.Test.YtolhniepejhmfaaGreatDoorJ15
import Derived.Test.YtolhniepejhmfaaGreatDoorJ12
/-
  Layer 10 (fs), walks: the plain answer Do: what it returns. New memory is laid, nothing that was there is changed. The conditions stand in the statements.
-/
namespace Go.Proofs.YtolhniepejhmfaaGreatDoor.W10
set_option maxRecDepth 100000
open Go Go.RowKit Go.Proofs.YtolhniepejhmfaaGreatDoor.Strs Go.Proofs.YtolhniepejhmfaaGreatDoor.Recs Go.Proofs.YtolhniepejhmfaaGreatDoor.Range
open Go.Proofs.YtolhniepejhmfaaGreatDoor.M07 (Tr Nd nodeAt Right)
open Go.Proofs.YtolhniepejhmfaaGreatDoor.M09 Go.Proofs.YtolhniepejhmfaaGreatDoor.M10
open Go.Proofs.YtolhniepejhmfaaGreatDoor.W07 (Small Trees Wrote Off heap_top Nodes TreeBox TreeErr FromOr set_heap nodes_turns off_from right_full)
open Go.Proofs.YtolhniepejhmfaaGreatDoor.W09 (Tk tkC tkC_len Tasks Within TaskBox Fits off_nodes FromOr.low)
open Go.Proofs.YtolhniepejhmfaaGreatDoor.Kit (ret_str ret_bool ret_int mk_of mk_bytes ba_ext below_draws on)

/-- a plain FS as a value, and its box -/
def fsV (u : Value) (l : Int) (fv : Value) (c : Int) (d : Bool) : Value := .agg #[u, .int .i64 l, fv, .int .i64 c, .bool d]
def RefBox (w : World) (p : Nat) (u : Value) (l : Int) (fv : Value) (c : Int) (d : Bool) : Prop := w.heap[p]? = some (.cells #[u, .int .i64 l, fv, .int .i64 c, .bool d] 37 (0, 0))
section
variable {w w' : World} {p : Nat} {u fv : Value} {l c : Int} {d : Bool}
theorem RefBox.lt (h : RefBox w p u l fv c d) : p < w.heap.size := (Array.getElem?_eq_some_iff.1 h).1
theorem RefBox.below (h : RefBox w p u l fv c d) (hb : Below w.heap.size w w') : RefBox w' p u l fv c d := (hb.block _ h.lt).trans h
theorem RefBox.turns {T : Nat → Prop} (h : RefBox w p u l fv c d) (ht : Turns T w w') (hp : ¬ T p) : RefBox w' p u l fv c d := ht.keeps h hp
theorem RefBox.c0 (h : RefBox w p u l fv c d) : w.cell? ⟨p, 0, none⟩ = some u := cell_of_row w _ 0 _ _ (0, 0) h
theorem RefBox.c1 (h : RefBox w p u l fv c d) : w.cell? ⟨p, 1, none⟩ = some (.int .i64 l) := cell_of_row w _ 1 _ _ (0, 0) h
theorem RefBox.c2 (h : RefBox w p u l fv c d) : w.cell? ⟨p, 2, none⟩ = some fv := cell_of_row w _ 2 _ _ (0, 0) h
theorem RefBox.c3 (h : RefBox w p u l fv c d) : w.cell? ⟨p, 3, none⟩ = some (.int .i64 c) := cell_of_row w _ 3 _ _ (0, 0) h
theorem RefBox.c4 (h : RefBox w p u l fv c d) : w.cell? ⟨p, 4, none⟩ = some (.bool d) := cell_of_row w _ 4 _ _ (0, 0) h
theorem RefBox.fr (h : RefBox w p u l fv c d) (j : Nat) : w.frozen? ⟨p, j, none⟩ = false := frozen_of_row w _ j _ _ h
/-- all five cells written -/
def store5 (w : World) (p : Nat) (u : Value) (l : Int) (fv : Value) (c : Int) (d : Bool) : World := ((((w.setCell ⟨p, 0, none⟩ u).setCell ⟨p, 1, none⟩ (.int .i64 l)).setCell ⟨p, 2, none⟩ fv).setCell ⟨p, 3, none⟩ (.int .i64 c)).setCell ⟨p, 4, none⟩ (.bool d)
theorem store5_box {u0 fv0 : Value} {l0 c0 : Int} {d0 : Bool} (h : RefBox w p u0 l0 fv0 c0 d0) (u : Value) (l : Int) (fv : Value) (c : Int) (d : Bool) : RefBox (store5 w p u l fv c d) p u l fv c d :=
  set_heap (set_heap (set_heap (set_heap (set_heap h 0 u) 1 (.int .i64 l)) 2 fv) 3 (.int .i64 c)) 4 (.bool d)
theorem turn1 (w : World) (p j : Nat) (u : Value) : Turns (fun k => k = p) w (w.setCell ⟨p, j, none⟩ u) := Turns.setCell u rfl
theorem store5_turns (w : World) (p : Nat) (u : Value) (l : Int) (fv : Value) (c : Int) (d : Bool) : Turns (fun k => k = p) w (store5 w p u l fv c d) :=
  ((((turn1 _ _ _ _).trans (turn1 _ _ _ _)).trans (turn1 _ _ _ _)).trans (turn1 _ _ _ _)).trans (turn1 _ _ _ _)
end
/-- what a call returns that hands out an FS and an error: its tree's list comes from v, or is new -/
def FsErr (v fv : Value) (w : World) (R : Fs × Int) (e : Ending) (w' : World) : Prop := ∃ u, e = .returned (.tuple #[fsV u R.1.t.last fv R.1.count R.1.down, .int .i64 R.2]) ∧ Nodes w'.heap.size w' u R.1.t.L ∧ Below w.heap.size w w' ∧ FromOr v w.heap.size u
/-- the three boxes that Do lays at its start -/
def boxes10 (w : World) (u : Value) (l : Int) (fv : Value) (c : Int) (d : Bool) (k : Int) (p s : ByteArray) : World := ((w.alloc (.cells #[u, .int .i64 l, fv, .int .i64 c, .bool d] 37)).alloc (.cells #[.int .i64 k, .string p, .string s] 39)).alloc (.cells #[.slice none 0 0, .int .i64 0, .slice none 0 0, .int .i64 0, .bool false] 37)
/-- where the walk stands: the boxes, the tree, the faults -/
structure At10 (w wr : World) (B R q : Nat) (u : Value) (t : Tr) (fv : Value) (L : List Fl) (c : Int) (d : Bool) (k : Int) (p s : ByteArray) : Prop where
  box : RefBox wr B u t.last fv c d
  res : RefBox wr R (.slice none 0 0) 0 (.slice none 0 0) 0 false
  task : TaskBox wr q k p s
  below : Below w.heap.size w wr
  faults : Faults w.heap.size wr fv L
  fits : Fits t wr u
  old : Nodes w.heap.size wr u t.L
  b : B = w.heap.size
  q : q = w.heap.size + 1
  r : R = w.heap.size + 1 + 1
section
variable {w wr w' w2 : World} {B R q : Nat} {u fv : Value} {t : Tr} {L : List Fl} {c : Int} {d : Bool} {k : Int} {p s : ByteArray}
theorem boxes10_lie (hf : Fits t w u) (hL : Faults w.heap.size w fv L) : At10 w (boxes10 w u t.last fv c d k p s) w.heap.size (w.heap.size + 1 + 1) (w.heap.size + 1) u t fv L c d k p s := by
  have hb : Below w.heap.size w (boxes10 w u t.last fv c d k p s) := (((Below.refl _ w).alloc (Nat.le_refl _) _).alloc (by rw [World.alloc_size]; omega) _).alloc (by rw [World.alloc_size, World.alloc_size]; omega) _
  exact {
    box := W07.heap_three_a _ _ _ _
    res := W07.heap_three_c _ _ _ _
    task := W07.heap_three_b _ _ _ _
    below := hb
    faults := hL.below hb
    fits := ⟨hf.fit, hf.len, hf.some, hf.low, hf.high, (hf.nodes.below hb).more hb.size⟩
    old := hf.nodes.below hb
    b := rfl
    q := rfl
    r := rfl }
theorem At10.drew (h : At10 w wr B R q u t fv L c d k p s) (n : Nat) : At10 w (wr.drewN n) B R q u t fv L c d k p s := by
  have hb : Below wr.heap.size wr (wr.drewN n) := below_draws wr n
  exact {
    box := h.box.below hb
    res := h.res.below hb
    task := h.task.below hb
    below := on h.below hb
    faults := h.faults.below (hb.mono h.below.size)
    fits := ⟨h.fits.fit, h.fits.len, h.fits.some, h.fits.low, h.fits.high, (h.fits.nodes.below hb).more hb.size⟩
    old := h.old.below (hb.mono h.below.size)
    b := h.b
    q := h.q
    r := h.r }
/-- the first box was written -/
theorem At10.stored (h : At10 w wr B R q u t fv L c d k p s) {c' : Int} {d' : Bool} (ht : Turns (fun k => k = B) wr w') (hb : RefBox w' B u t.last fv c' d') : At10 w w' B R q u t fv L c' d' k p s := by
  have hB := h.b
  have hq := h.q
  have hr := h.r
  have hbl : Below w.heap.size w w' := h.below.trans (ht.below (fun k e => by have : k = B := e; omega) h.below.size)
  have hb2 : Below w.heap.size wr w' := ht.below (fun k e => by have : k = B := e; omega) h.below.size
  exact {
    box := hb
    res := h.res.turns ht (by omega)
    task := ht.keeps h.task (by omega)
    below := hbl
    faults := h.faults.below hb2
    fits := ⟨h.fits.fit, h.fits.len, h.fits.some, h.fits.low, h.fits.high, (h.old.below hb2).more hbl.size⟩
    old := h.old.below hb2
    b := h.b
    q := h.q
    r := h.r }
theorem below3 (w : World) (a b c : Obj) : Below w.heap.size w (((w.alloc a).alloc b).alloc c) := (((Below.refl _ w).alloc (Nat.le_refl _) _).alloc (by rw [World.alloc_size]; omega) _).alloc (by rw [World.alloc_size, World.alloc_size]; omega) _
theorem fs_same {W : World} (hn : Nodes w.heap.size w u t.L) (hb : Below w.heap.size w W) {x : Fs × Int} (hx : x.1.t = t) {c2 : Int} {d2 : Bool} (hd : x.1.count = c2 ∧ x.1.down = d2) {e : Int} (he : x.2 = e) : FsErr u fv w x (.returned (.tuple #[fsV u t.last fv c2 d2, .int .i64 e])) W := by
  refine ⟨u, ?_, ?_, hb, Or.inl rfl⟩
  · rw [hx, hd.1, hd.2, he]
  · rw [hx]; exact (hn.below hb).more hb.size
/-- what is returned where the task was done -/
theorem At10.done (h : At10 w wr B R q u t fv L c d k p s) {w8 : World} {u8 : Value} {t8 : Tr} (hn : Nodes w8.heap.size w8 u8 t8.L) (hb : Below wr.heap.size wr w8) (hf : FromOr u wr.heap.size u8) (o : Obj) {u1 : Value} {l1 : Int} {u2 fv2 : Value} {l2 c2 : Int} {d2 : Bool} {x : Fs × Int} (hx : x.1.t = t8) {c3 : Int} {d3 : Bool} (hd : x.1.count = c3 ∧ x.1.down = d3) {e : Int} (he : x.2 = e) :
    FsErr u fv w x (.returned (.tuple #[fsV u8 t8.last fv c3 d3, .int .i64 e])) ((store5 ((w8.setCell ⟨B, 0, none⟩ u1).setCell ⟨B, 1, none⟩ (.int .i64 l1)) R u2 l2 fv2 c2 d2).alloc o) := by
  have hB := h.b
  have hr := h.r
  have hlB := h.box.lt
  have hlR := h.res.lt
  have ht : Turns (fun k => k = B ∨ k = R) w8 (store5 ((w8.setCell ⟨B, 0, none⟩ u1).setCell ⟨B, 1, none⟩ (.int .i64 l1)) R u2 l2 fv2 c2 d2) :=
    (((turn1 _ _ _ _).trans (turn1 _ _ _ _)).wider fun _ => Or.inl).trans ((store5_turns _ _ _ _ _ _ _).wider fun _ => Or.inr)
  have hoff : Off (fun k => k = B ∨ k = R) u8 := off_from (off_nodes h.old h.fits.some (fun k hk => by rcases hk with e | e <;> omega)) (fun k hk => by rcases hk with e | e <;> omega) hf
  have hb2 : Below w.heap.size w w8 := on h.below hb
  have hb3 := hb2.trans (ht.below (n := w.heap.size) (fun k e => by rcases e with e | e <;> omega) hb2.size)
  have hba := W07.below_one (store5 ((w8.setCell ⟨B, 0, none⟩ u1).setCell ⟨B, 1, none⟩ (.int .i64 l1)) R u2 l2 fv2 c2 d2) o
  refine ⟨u8, ?_, ?_, on hb3 hba, FromOr.low hf h.below.size⟩
  · rw [hx, hd.1, hd.2, he]
  · rw [hx]; exact (((nodes_turns hn ht hoff).more ht.size).below hba).more hba.size
/-- what is returned where the tree stays -/
theorem At10.ends (h : At10 w wr B R q u t fv L c d k p s) {x : Fs × Int} (hx : x.1.t = t) {u2 fv2 : Value} {l2 c2 : Int} {d2 : Bool} (hd : x.1.count = c2 ∧ x.1.down = d2) {e : Int} (he : x.2 = e) : FsErr u fv w x (.returned (.tuple #[fsV u t.last fv c2 d2, .int .i64 e])) (store5 wr R u2 l2 fv2 c2 d2) := by
  have ht := store5_turns wr R u2 l2 fv2 c2 d2
  have hr := h.r
  have hb2 : Below w.heap.size wr (store5 wr R u2 l2 fv2 c2 d2) := ht.below (fun k e => by have : k = R := e; omega) h.below.size
  refine ⟨u, ?_, ?_, h.below.trans hb2, Or.inl rfl⟩
  · rw [hx, hd.1, hd.2, he]
  · rw [hx]; exact (h.old.below hb2).more (h.below.trans hb2).size
end
set_option maxHeartbeats 8000000 in
theorem refDo10_any (t : Tr) (u : Value) (w : World) (hf : Fits t w u) (hR : Right t) (fv : Value) (L : List Fl) (hL : Faults w.heap.size w fv L) (c : Int) (hc0 : 0 ≤ c) (hc1 : c ≤ 1073741824) (d : Bool) (k : Int) (p s : ByteArray) (hs : s.size ≤ maxLen) :
    Calls Tryz.prog 13 #[fsV u t.last fv c d, .agg #[.int .i64 k, .string p, .string s]] w (FsErr u fv w (doFs ⟨t, L, c, d⟩ k p.data.toList s.data.toList)) := by
  have A2 := boxes10_lie (c := c + 1) (d := false) (k := k) (p := p) (s := s) hf hL
  unfold boxes10 at A2
  have A2 := Lib.hid A2
  obtain ⟨Au, cu, rfl, -, -⟩ := hf.nodes.form
  obtain ⟨Af, cf, rfl, hf1, hf2⟩ := hL.recs.form
  unfold maxLen at hf2
  unfold fsV
  have HR := Lib.hid hR
  have HU := Lib.hid hf.nodes
  clear hf hL hR
  cases hd : d with
  | true =>
    have HX : Hid (doFs ⟨t, L, c, true⟩ k p.data.toList s.data.toList = (⟨t, L, c, true⟩, 17)) := by show _ = _; unfold doFs; rw [if_pos rfl]
    rw [HX.out]
    go_enter Tryz.func13, Tryz.ntmps13
    go_wp2_with fail
    refine bodyPost_ret_by (v := .tuple #[fsV (.slice Au t.L.length cu) t.last (.slice Af L.length cf) c true, .int .i64 17]) ?_ rfl ?_
    · rw [results_cell_tmp rfl]
      go_simp
      rfl
    · exact fs_same HU.out (below3 _ _ _ _) rfl ⟨rfl, rfl⟩ rfl
  | false =>
    by_cases hk : 1 ≤ k ∧ k ≤ 6
    · have HXF : Hid (fault L (c + 1) ≠ 0 → doFs ⟨t, L, c, false⟩ k p.data.toList s.data.toList = (⟨t, L, c + 1, decide (fault L (c + 1) = 17)⟩, fault L (c + 1))) := by
        intro hf
        unfold doFs
        rw [if_neg (by simp), if_neg (by omega), if_pos hf]
      have HXT : Hid (fault L (c + 1) = 0 → doFs ⟨t, L, c, false⟩ k p.data.toList s.data.toList = (⟨(doTask t k p.data.toList s.data.toList).1, L, c + 1, false⟩, (doTask t k p.data.toList s.data.toList).2)) := by
        intro hf
        unfold doFs
        rw [if_neg (by simp), if_neg (by omega), if_neg (fun e => e hf)]
      have t1 : decide (k < 1) = false := decide_eq_false (by omega)
      have t2 : decide ((6 : Int) < k) = false := decide_eq_false (by omega)
      generalize hRR : doFs ⟨t, L, c, false⟩ k p.data.toList s.data.toList = RR at *
      generalize hm : L.length = m at *
      have HM := Lib.hid hm
      clear hRR hm hk
      go_enter Tryz.func13, Tryz.ntmps13
      go_wp2_with fail
      go_loopw [6] (fun i wr => ∃ k' : Nat, k' ≤ m ∧ i = .int .i64 k' ∧ Hid (At10 w wr w.heap.size (w.heap.size + 1 + 1) (w.heap.size + 1) (.slice Au t.L.length cu) t (.slice Af m cf) L (c + 1) false k p s) ∧ Hid (∀ x ∈ L.take k', strikes (c + 1) x = false)) (fun i _ => m - (intOf i).toNat)
      case atStart => exact ⟨0, Nat.zero_le _, rfl, A2, fun x hx => by simp at hx⟩
      case round =>
        clear A2
        obtain ⟨j, hj, rfl, hA, hr⟩ := hrel
        have b0 := hA.out.box.c0
        have b1 := hA.out.box.c1
        have b2 := hA.out.box.c2
        have b3 := hA.out.box.c3
        have b4 := hA.out.box.c4
        have v4 := hA.out.box.fr 4
        have z0 := hA.out.res.c0
        have z1 := hA.out.res.c1
        have z2 := hA.out.res.c2
        have z3 := hA.out.res.c3
        have z4 := hA.out.res.c4
        have y0 := hA.out.res.fr 0
        have y1 := hA.out.res.fr 1
        have y2 := hA.out.res.fr 2
        have y3 := hA.out.res.fr 3
        have y4 := hA.out.res.fr 4
        by_cases hlt : j < m
        · obtain ⟨b, o, hl1, rfl, hbl, a0, a1⟩ := Faults.at_ hA.out.faults.recs hlt
          have HD := Lib.hid (fun n => hA.out.drew n)
          have i0 : (0 : Int) ≤ (j : Int) := by omega
          have i1 : (j : Int) < (m : Int) := by omega
          have HS : Hid (strikes (c + 1) L[j] = (decide (L[j].at_ = c + 1) && decide (L[j].err ≠ 0))) := rfl
          have HN : Hid (strikes (c + 1) L[j] = false → ∀ x ∈ L.take (j + 1), strikes (c + 1) x = false) := by
            intro h x hx
            rw [List.take_succ_eq_append_getElem hl1] at hx
            rcases List.mem_append.1 hx with hx | hx
            · exact hr.out x hx
            · rw [List.mem_singleton.1 hx]; exact h
          have HF := Lib.hid (fun (h : strikes (c + 1) L[j] = true) => fault_at hl1 hr.out h)
          by_cases hat : L[j].at_ = c + 1
          · have t3 : (L[j].at_ == c + 1) = true := by simp [hat]
            by_cases her : L[j].err = 0
            · have t4 : (L[j].err != 0) = false := by simp [her]
              have HN := Lib.hid (HN.out (by rw [HS.out, decide_eq_false (fun e : L[j].err ≠ 0 => e her), Bool.and_false]))
              clear hat her
              generalize L[j].at_ = xa at *
              generalize L[j].err = xe at *
              go_wp2_with fail
              go_quiet (fail)
              go_wp2_with fail
              go_roundw
              case rel => exact ⟨j + 1, by omega, by go_num, HD.out _, HN⟩
              case measure => simp [intOf]; omega
            · have t4 : (L[j].err != 0) = true := by simp [her]
              have hfa := HF.out (by rw [HS.out, decide_eq_true hat, decide_eq_true (show L[j].err ≠ 0 from her)]; rfl)
              have HX := Lib.hid (HXF.out (by rw [hfa]; exact her))
              rw [hfa] at HX
              clear hat her hfa HF HN HS
              generalize L[j].at_ = xa at *
              generalize L[j].err = xe at *
              have hbR : ¬ b = w.heap.size + 1 + 1 := by omega
              have hbB : ¬ b = w.heap.size := by omega
              have HB := Lib.hid hA.out.below
              clear HD
              go_wp2_with fail
              go_quiet (fail)
              go_wp2_with fail
              go_region
              go_wp2_with fail
              refine bodyPost_ret_by (v := .tuple #[fsV (.slice Au t.L.length cu) t.last (.slice (some ⟨b, o, none⟩) m cf) (c + 1) (xe == 17), .int .i64 xe]) ?_ rfl ?_
              · rw [results_cell_tmp rfl]
                go_simp
                rfl
              · refine fs_same HU.out ?_ (by rw [HX.out]) (by rw [HX.out]; exact ⟨rfl, rfl⟩) (by rw [HX.out])
                have hn1 : w.heap.size ≤ w.heap.size + 1 + 1 := by omega
                exact (((((((on HB.out (below_draws wr _)).setCell (Nat.le_refl _) _).setCell hn1 _).setCell hn1 _).setCell hn1 _).setCell hn1 _).setCell hn1 _).drew
          · have t3 : (L[j].at_ == c + 1) = false := by simp [hat]
            have HN := Lib.hid (HN.out (by rw [HS.out, decide_eq_false hat, Bool.false_and]))
            clear hat
            generalize L[j].at_ = xa at *
            generalize L[j].err = xe at *
            go_wp2_with fail
            go_quiet (fail)
            go_wp2_with fail
            go_roundw
            case rel => exact ⟨j + 1, by omega, by go_num, HD.out _, HN⟩
            case measure => simp [intOf]; omega
        · have h0 : fault L (c + 1) = 0 := fault_none fun x hx => hr.out x (by rw [List.take_of_length_le (by have := HM.out; omega)]; exact hx)
          have HX := Lib.hid (HXT.out h0)
          have k0 := hA.out.task.c0
          have k1 := hA.out.task.c1
          have k2 := hA.out.task.c2
          have HD := Lib.hid (W09.refDo9_any t _ wr hA.out.fits HR.out k p s hs)
          generalize doTask t k p.data.toList s.data.toList = Q at *
          obtain ⟨T8, e8⟩ := Q
          clear h0
          go_wp2_with fail
          refine HD.out.mono ?_
          rintro e w8 ⟨u8, rfl, hn8, hb8, hf8⟩
          obtain ⟨A8, c8, rfl, -, -⟩ := hn8.form
          have HE := Lib.hid (fun o u1 l1 u2 fv2 l2 c2 d2 => hA.out.done hn8 hb8 hf8 o (u1 := u1) (l1 := l1) (u2 := u2) (fv2 := fv2) (l2 := l2) (c2 := c2) (d2 := d2) (x := RR) (c3 := c + 1) (d3 := false) (e := e8) (by rw [HX.out]) (by rw [HX.out]; exact ⟨rfl, rfl⟩) (by rw [HX.out]))
          have bb := hA.out.box.below hb8
          have rb := hA.out.res.below hb8
          clear b0 b1 b2 b3 b4 v4 z0 z1 z2 z3 z4 y0 y1 y2 y3 y4 k0 k1 k2 HD
          have b0 := bb.c0
          have b1 := bb.c1
          have b2 := bb.c2
          have b3 := bb.c3
          have b4 := bb.c4
          have v0 := bb.fr 0
          have v1 := bb.fr 1
          have z0 := rb.c0
          have z1 := rb.c1
          have z2 := rb.c2
          have z3 := rb.c3
          have z4 := rb.c4
          have y0 := rb.fr 0
          have y1 := rb.fr 1
          have y2 := rb.fr 2
          have y3 := rb.fr 3
          have y4 := rb.fr 4
          have hs1 := bb.lt
          have hs2 := rb.lt
          clear bb rb hn8 hb8 hf8
          go_wp2_with fail
          refine bodyPost_ret_by (v := .tuple #[fsV (.slice A8 T8.L.length c8) T8.last (.slice Af m cf) (c + 1) false, .int .i64 e8]) ?_ rfl ?_
          · rw [results_cell_tmp rfl]
            go_simp
            rfl
          · exact HE.out _ _ _ _ _ _ _ _
    · have HX : Hid (doFs ⟨t, L, c, false⟩ k p.data.toList s.data.toList = (⟨t, L, c, false⟩, 2)) := by
        show _ = _
        unfold doFs
        rw [if_neg (by simp), if_pos (by omega)]
      rw [HX.out]
      by_cases h1 : k < 1
      · have t1 : decide (k < 1) = true := decide_eq_true h1
        clear hk h1
        go_enter Tryz.func13, Tryz.ntmps13
        go_wp2_with fail
        refine bodyPost_ret_by (v := .tuple #[fsV (.slice Au t.L.length cu) t.last (.slice Af L.length cf) c false, .int .i64 2]) ?_ rfl ?_
        · rw [results_cell_tmp rfl]
          go_simp
          rfl
        · exact fs_same HU.out (below3 _ _ _ _) rfl ⟨rfl, rfl⟩ rfl
      · have t1 : decide (k < 1) = false := decide_eq_false h1
        have t2 : decide ((6 : Int) < k) = true := decide_eq_true (by omega)
        clear hk h1
        go_enter Tryz.func13, Tryz.ntmps13
        go_wp2_with fail
        refine bodyPost_ret_by (v := .tuple #[fsV (.slice Au t.L.length cu) t.last (.slice Af L.length cf) c false, .int .i64 2]) ?_ rfl ?_
        · rw [results_cell_tmp rfl]
          go_simp
          rfl
        · exact fs_same HU.out (below3 _ _ _ _) rfl ⟨rfl, rfl⟩ rfl
end Go.Proofs.YtolhniepejhmfaaGreatDoor.W10
/-
  Layer 7 (tree), a walk of the law's lives over the contracts: it returns true; nothing that was there is changed.
-/
namespace Go.Proofs.YtolhniepejhmfaaGreatDoor.W07
open Go Go.RowKit Go.Proofs.YtolhniepejhmfaaGreatDoor.Strs Go.Proofs.YtolhniepejhmfaaGreatDoor.Recs Go.Proofs.YtolhniepejhmfaaGreatDoor.M07 Go.Proofs.YtolhniepejhmfaaGreatDoor.Range
open Go.Proofs.YtolhniepejhmfaaGreatDoor.Kit (ret_str ret_bool ret_int mk_of mk_bytes ba_ext below_draws on)

theorem wrote_below {Rep : (Nat → Prop) → World → Value → Tr → Prop} {F : Nat → Prop} {w w1 w2 : World} {v : Value} {t' : Tr} {n : Nat} (hb : Below n w w1) (hF : ∀ k, F k → n ≤ k) (hn : n ≤ w1.heap.size) (h : Wrote Rep F v t' w1 w2) :
    ∃ F', Rep F' w2 v t' ∧ (∀ k, F' k → n ≤ k) ∧ Below n w w2 := by
  obtain ⟨F', h1, h2, h3⟩ := h
  exact ⟨F', h1, fun k hk => by rcases h3 k hk with h | h; exact hF k h; omega, hb.trans (h2.below hF hn)⟩
theorem one_put : put M07.new 1 [97] 1 [] = (⟨[⟨1, 1, [], 1, []⟩, ⟨2, 1, [97], 1, []⟩], 2⟩, 2, 0) :=
  put_works (t := M07.new) (by decide +kernel)
theorem two_put : put ⟨[⟨1, 1, [], 1, []⟩, ⟨2, 1, [97], 1, []⟩], 2⟩ 2 [98] 2 [120] = (⟨[⟨1, 1, [], 1, []⟩, ⟨2, 1, [97], 1, []⟩, ⟨3, 2, [98], 2, [120]⟩], 3⟩, 3, 0) :=
  put_works (by decide +kernel)
end Go.Proofs.YtolhniepejhmfaaGreatDoor.W07
/-
  Layer 7 (tree), a walk of the law TreeDoes over the contracts: it returns true, at every list of acts; nothing that was there is changed.
-/
namespace Go.Proofs.YtolhniepejhmfaaGreatDoor.W07
open Go Go.RowKit Go.Proofs.YtolhniepejhmfaaGreatDoor.Strs Go.Proofs.YtolhniepejhmfaaGreatDoor.Recs Go.Proofs.YtolhniepejhmfaaGreatDoor.M07 Go.Proofs.YtolhniepejhmfaaGreatDoor.Range
open Go.Proofs.YtolhniepejhmfaaGreatDoor.Kit (ret_str ret_bool ret_int mk_of mk_bytes ba_ext below_draws on)

theorem put_more (t : Tr) (d : Int) (s : Bytes) (k : Int) (x : Bytes) : (put t d s k x).1.L.length ≤ t.L.length + 1 ∧ (put t d s k x).1.last ≤ t.last + 1 := by
  unfold put
  split
  · exact ⟨by show t.L.length ≤ _; omega, by show t.last ≤ _; omega⟩
  · exact ⟨by show (t.L ++ [_]).length ≤ _; simp, by show t.last + 1 ≤ _; omega⟩
theorem set_more (t : Tr) (n : Int) (x : Bytes) : (M07.set t n x).1.L.length ≤ t.L.length + 1 ∧ (M07.set t n x).1.last ≤ t.last + 1 := by
  have e : t.L.length ≤ t.L.length + 1 ∧ t.last ≤ t.last + 1 := ⟨by omega, by omega⟩
  unfold M07.set
  split
  · exact e
  · split
    · exact e
    · split
      · exact e
      · exact ⟨by show (t.L.map _).length ≤ _; rw [List.length_map]; omega, by show t.last ≤ _; omega⟩
theorem cut_more (t : Tr) (d : Int) (s : Bytes) : (cut t d s).1.L.length ≤ t.L.length + 1 ∧ (cut t d s).1.last ≤ t.last + 1 := ⟨by have := cut_len t d s; omega, by rw [cut_last]; omega⟩
theorem move_more (t : Tr) (src : Int) (s : Bytes) (dst : Int) (a : Bytes) : (M07.move t src s dst a).1.L.length ≤ t.L.length + 1 ∧ (M07.move t src s dst a).1.last ≤ t.last + 1 := by
  have e : t.L.length ≤ t.L.length + 1 ∧ t.last ≤ t.last + 1 := ⟨by omega, by omega⟩
  have pl : ∀ (u : Tr) (x : Nd), u.L.length ≤ t.L.length → u.last = t.last → (placed u x dst a).L.length ≤ t.L.length + 1 ∧ (placed u x dst a).last ≤ t.last + 1 := fun u x h1 h2 =>
    ⟨by show (u.L.map _).length ≤ _; rw [List.length_map]; omega, by show u.last ≤ _; omega⟩
  unfold M07.move
  split
  · exact e
  · split
    · exact e
    · unfold moveOn
      split
      · exact e
      · split
        · split
          · exact e
          · split
            · exact e
            · split
              · exact e
              · exact pl _ _ (cut_len _ _ _) (cut_last _ _ _)
        · exact pl _ _ (Nat.le_refl _) rfl
theorem doAct_more (t : Tr) (act dir dst : Int) (nm al : Bytes) (kind : Int) (dt : Bytes) : (doAct t act dir dst nm al kind dt).L.length ≤ t.L.length + 1 ∧ (doAct t act dir dst nm al kind dt).last ≤ t.last + 1 := by
  unfold doAct
  split
  · exact put_more _ _ _ _ _
  · split
    · exact set_more _ _ _
    · split
      · exact cut_more _ _ _
      · split
        · exact move_more _ _ _ _ _
        · exact ⟨by omega, by omega⟩
/-- what is held between two rounds -/
structure Goes (Rep : (Nat → Prop) → World → Value → Tr → Prop) (w wr : World) (p0 : Nat) (pv : Value) (k : Nat) (t : Tr) (F : Nat → Prop) (u : Value) : Prop where
  rep : Rep F wr pv t
  box : TreeBox wr p0 u t.last
  nodes : Nodes wr.heap.size wr u t.L
  off : Off F u
  offp : ¬ F p0
  new : ∀ i, F i → w.heap.size ≤ i
  len : t.L.length ≤ k + 1
  last : t.last ≤ k + 1
  below : Below w.heap.size w wr
  high : w.heap.size ≤ p0
theorem short_data {l : List Ac} (h : isShort l = true) {k : Nat} (hk : k < l.length) : (l[k]).data.length ≤ 70000 := by
  unfold isShort at h
  rw [Bool.and_eq_true] at h
  have := List.all_eq_true.1 h.1 _ (List.getElem_mem hk)
  simpa using this
theorem short_len {l : List Ac} (h : isShort l = true) : l.length ≤ 60 := by
  unfold isShort at h
  rw [Bool.and_eq_true] at h
  simpa using h.2
/-- a copy takes the tree's place, and acts are done to the old one -/
theorem goes_copy {Rep : (Nat → Prop) → World → Value → Tr → Prop} (C : Trees Rep) {w wr w1 : World} {p0 k : Nat} {pv v' u : Value} {t : Tr} {F F' : Nat → Prop} (h : Goes Rep w wr p0 pv k t F u) (hR : Rep F' w1 v' t) (hF : ∀ i, F' i → wr.heap.size ≤ i) (hb : Below wr.heap.size wr w1) : Goes Rep w w1 p0 v' k t F' u where
  rep := hR
  box := h.box.below hb
  nodes := (h.nodes.below hb).more hb.size
  off := by
    intro b o n c e hk
    subst e
    by_cases h0 : 0 < t.L.length
    · have hn : n = t.L.length := by obtain ⟨A', c', e', _⟩ := h.nodes; injection e'
      obtain ⟨b', o', _, e2, hlt, _⟩ := Nodes.at_ h.nodes (k := 0) (by omega)
      cases e2
      have := hF _ hk
      omega
    · exact absurd (right_full (C.right h.rep)) h0
  offp := fun hk => by have := hF _ hk; have := h.box.lt; omega
  new := fun i hi => Nat.le_trans h.below.size (hF i hi)
  len := h.len
  last := h.last
  below := on h.below hb
  high := h.high
/-- what is written in other blocks leaves all this -/
theorem goes_other {Rep : (Nat → Prop) → World → Value → Tr → Prop} (C : Trees Rep) {w wr w1 : World} {p0 k : Nat} {pv u : Value} {t : Tr} {F G : Nat → Prop} (h : Goes Rep w wr p0 pv k t F u) (ht : Turns G wr w1) (hG : ∀ i, F i → ¬ G i) (hp : ¬ G p0) (hu : Off G u) (hw : ∀ i, G i → w.heap.size ≤ i) : Goes Rep w w1 p0 pv k t F u where
  rep := C.keep h.rep (fun i hi => ht.block i (C.low h.rep i hi) (hG i hi)) ht.size
  box := h.box.turns ht hp
  nodes := (nodes_turns h.nodes ht hu).more ht.size
  off := h.off
  offp := h.offp
  new := h.new
  len := h.len
  last := h.last
  below := h.below.trans (ht.below hw h.below.size)
  high := h.high
/-- nodes don't lie in a box of a tree -/
theorem off_box {w : World} {p B n c : Nat} {A : Option Addr} {u' : Value} {last : Int} {L : List Nd} (hb : TreeBox w p (.slice A n c) last) (hn : Nodes B w u' L) (h0 : 0 < L.length) : Off (fun k => k = p) u' := by
  obtain ⟨A', c', rfl, h1, h2⟩ := hn.form
  obtain ⟨b, o, hl, rfl, hlt, hc0, hc1, _⟩ := Nodes.at_ hn h0
  intro b' o' n' c'' e hk
  cases e
  subst hk
  rw [Nat.zero_mul, Nat.add_zero] at hc0 hc1
  have hcell : ∀ j, w.cell? ⟨b, j, none⟩ = (#[Value.slice A n c, Value.int .i64 last] : Array Value)[j]? := fun j => cell_of_row w _ j _ _ (0, 0) hb
  rw [hcell] at hc0 hc1
  match o with
  | 0 => simp at hc0
  | 1 => simp at hc1
  | o + 2 => simp at hc0
theorem box_stored2 {w : World} {p : Nat} {v u : Value} {l last : Int} (h : TreeBox w p v l) : TreeBox ((w.setCell ⟨p, 0, none⟩ u).setCell ⟨p, 1, none⟩ (.int .i64 last)) p u last := set_heap (set_heap h 0 u) 1 (.int .i64 last)
/-- an act done, and its tree laid into the box; other blocks G may have turned -/
theorem goes_next {Rep : (Nat → Prop) → World → Value → Tr → Prop} (C : Trees Rep) {w wr w8 w9 : World} {p0 k n c : Nat} {A : Option Addr} {pv u' : Value} {t t' : Tr} {F F' G : Nat → Prop} (h : Goes Rep w wr p0 pv k t F (.slice A n c)) (hn : Nodes w8.heap.size w8 u' t'.L) (hR : Rep F' w8 pv t') (ho : Off F' u') (ht : Turns F wr w8) (hF : ∀ i, F' i → F i ∨ wr.heap.size ≤ i)
    (hb : Turns G w8 w9) (hG : ∀ i, F' i → ¬ G i) (hGp : ¬ G p0) (hGu : Off G u') (hGw : ∀ i, G i → w.heap.size ≤ i)
    (hl : t'.L.length ≤ t.L.length + 1) (hl2 : t'.last ≤ t.last + 1) : Goes Rep w ((w9.setCell ⟨p0, 0, none⟩ u').setCell ⟨p0, 1, none⟩ (.int .i64 t'.last)) p0 pv (k + 1) t' F' u' := by
  have hp := h.box.lt
  have hnp : ¬ F' p0 := fun hk => by rcases hF _ hk with h1 | h1; exact h.offp h1; omega
  have b8 := h.box.turns ht h.offp
  have b9 := b8.turns hb hGp
  have tq := turns_box w9 p0 u' (.int .i64 t'.last)
  have hnew : ∀ i, F' i → w.heap.size ≤ i := fun i hi => by rcases hF i hi with h1 | h1; exact h.new i h1; exact Nat.le_trans h.below.size h1
  have r9 : Rep F' w9 pv t' := C.keep hR (fun i hi => hb.block i (C.low hR i hi) (hG i hi)) hb.size
  have h1 : Below w.heap.size w w8 := h.below.trans (ht.below h.new h.below.size)
  refine ⟨C.keep r9 (fun i hi => tq.block i (C.low r9 i hi) (fun e => hnp (by rw [← e]; exact hi))) tq.size, box_stored2 b9, ?_, ho, hnp, hnew, by have := h.len; omega, by have := h.last; omega, ?_, h.high⟩
  · exact ((nodes_turns (nodes_turns hn hb hGu) tq (off_box b8 hn (right_full (C.right hR)))).more (Nat.le_trans hb.size tq.size))
  · exact ((h1.trans (hb.below hGw h1.size)).setCell (p := ⟨p0, 0, none⟩) h.high _).setCell (p := ⟨p0, 1, none⟩) h.high _
end Go.Proofs.YtolhniepejhmfaaGreatDoor.W07
/-
  Layer 9 (posix), a walk of the law PosixDoes over the contracts: it returns true, at every list of tasks; nothing that was there is changed. The conditions stand in the statement.
-/
namespace Go.Proofs.YtolhniepejhmfaaGreatDoor.W09
open Go Go.RowKit Go.Proofs.YtolhniepejhmfaaGreatDoor.Strs Go.Proofs.YtolhniepejhmfaaGreatDoor.Recs Go.Proofs.YtolhniepejhmfaaGreatDoor.Range
open Go.Proofs.YtolhniepejhmfaaGreatDoor.M07 (Tr Nd nodeAt inDir Right listDir)
open Go.Proofs.YtolhniepejhmfaaGreatDoor.M08 Go.Proofs.YtolhniepejhmfaaGreatDoor.M09
open Go.Proofs.YtolhniepejhmfaaGreatDoor.W07 (Small Trees Wrote Nodes nodeV TreeBox heap_top TreeErr FromOr Off turns_box nodes_turns off_from off_same right_full same_tree)
open Go.Proofs.YtolhniepejhmfaaGreatDoor.W08 (Sn Snodes snC snC_len isFew few_is made)
open Go.Proofs.YtolhniepejhmfaaGreatDoor.Kit (ret_str ret_bool ret_int mk_of mk_bytes ba_ext below_draws on)

/-- where the loop stands: the tree, the plain tree and its box -/
structure Goes9 (Rep : (Nat → Prop) → World → Value → Tr → Prop) (w0 wr : World) (p0 : Nat) (pv : Value) (n : Nat) (t : Tr) (F : Nat → Prop) (u : Value) : Prop where
  rep : Rep F wr pv t
  box : TreeBox wr p0 u t.last
  nodes : Nodes wr.heap.size wr u t.L
  off : Off F u
  offp : ¬ F p0
  apart : Off (fun k => k = p0) u
  within : Within t n
  new : ∀ k, F k → w0.heap.size ≤ k
  pnew : w0.heap.size ≤ p0
  below : Below w0.heap.size w0 wr
theorem root_last {t : Tr} (h : Right t) : 1 ≤ t.last := by
  obtain ⟨r, hr⟩ := h.root
  exact (h.ends ⟨1, 1, [], 1, []⟩ (by rw [hr]; exact List.mem_cons_self)).2
theorem two_fits {t : Tr} {n : Nat} {w : World} {u : Value} (h : Within t n) (hn : n ≤ 1048576) (N : Nodes w.heap.size w u t.L) : Fits t w u :=
  ⟨h.fit, Nat.le_trans h.len hn, right_full h.right, by have := root_last h.right; omega, by have := h.last; omega, N⟩
/-- the cells that a round's first call reads -/
theorem five_turns {T : Nat → Prop} {w' w'' : World} {p b q : Nat} {y0 y1 y2 y3 y4 : Value} (h : w'.cell? ⟨p, 0, none⟩ = some y0 ∧ w'.cell? ⟨p, 1, none⟩ = some y1 ∧ w'.cell? ⟨b, q, none⟩ = some y2 ∧ w'.cell? ⟨b, q + 1, none⟩ = some y3 ∧ w'.cell? ⟨b, q + 2, none⟩ = some y4) (t : Turns T w' w'') (hp : ¬ T p) (hb : ¬ T b) :
    w''.cell? ⟨p, 0, none⟩ = some y0 ∧ w''.cell? ⟨p, 1, none⟩ = some y1 ∧ w''.cell? ⟨b, q, none⟩ = some y2 ∧ w''.cell? ⟨b, q + 1, none⟩ = some y3 ∧ w''.cell? ⟨b, q + 2, none⟩ = some y4 :=
  ⟨t.cell h.1 hp, t.cell h.2.1 hp, t.cell h.2.2.1 hb, t.cell h.2.2.2.1 hb, t.cell h.2.2.2.2 hb⟩
theorem five_on {w' w'' : World} {p b q : Nat} {y0 y1 y2 y3 y4 : Value} (h : w'.cell? ⟨p, 0, none⟩ = some y0 ∧ w'.cell? ⟨p, 1, none⟩ = some y1 ∧ w'.cell? ⟨b, q, none⟩ = some y2 ∧ w'.cell? ⟨b, q + 1, none⟩ = some y3 ∧ w'.cell? ⟨b, q + 2, none⟩ = some y4) (hB : Below w'.heap.size w' w'') :
    w''.cell? ⟨p, 0, none⟩ = some y0 ∧ w''.cell? ⟨p, 1, none⟩ = some y1 ∧ w''.cell? ⟨b, q, none⟩ = some y2 ∧ w''.cell? ⟨b, q + 1, none⟩ = some y3 ∧ w''.cell? ⟨b, q + 2, none⟩ = some y4 :=
  five_turns h (Turns.new (T := fun _ => False) hB) id id
/-- what stands behind a round's first call and its store -/
structure Mid (w wa w9 : World) (pQ : Nat) (u8 : Value) (T' : Tr) (u : Value) : Prop where
  below : Below wa.heap.size wa w9
  box : TreeBox w9 pQ u8 T'.last
  nodes : Nodes w9.heap.size w9 u8 T'.L
  from_ : FromOr u wa.heap.size u8
theorem Goes9.boxed {Rep : (Nat → Prop) → World → Value → Tr → Prop} (C : Trees Rep) {w0 wr wa : World} {p0 n : Nat} {pv u : Value} {t : Tr} {F : Nat → Prop} (h : Goes9 Rep w0 wr p0 pv n t F u) (hb : Below wr.heap.size wr wa) : Goes9 Rep w0 wa p0 pv n t F u :=
  ⟨C.below h.rep hb, h.box.below hb, (h.nodes.below hb).more hb.size, h.off, h.offp, h.apart, h.within, h.new, h.pnew, h.below.trans (hb.mono h.below.size)⟩
/-- behind the round's second store: the plain tree is the next one; the tree itself is still the old one -/
structure Next (Rep : (Nat → Prop) → World → Value → Tr → Prop) (w0 wr w10 : World) (p0 p8 : Nat) (pv : Value) (n : Nat) (t T' : Tr) (F : Nat → Prop) (u u8 : Value) : Prop where
  rep : Rep F w10 pv t
  box : TreeBox w10 p0 u8 T'.last
  old : TreeBox w10 p8 u t.last
  nodes : Nodes w10.heap.size w10 u8 T'.L
  olds : Nodes w10.heap.size w10 u t.L
  off : Off F u8
  below : Below w0.heap.size w0 w10
  lt : p0 < w10.heap.size
  off8 : ¬ F p8
  apart : Off (fun k => k = p0) u8
theorem Goes9.next {Rep : (Nat → Prop) → World → Value → Tr → Prop} (C : Trees Rep) {w0 wr wa w9 : World} {p0 pQ n : Nat} {pv u u8 : Value} {t T' : Tr} {F : Nat → Prop} (g : Goes9 Rep w0 wr p0 pv n t F u) (ha : wr.alloc (.cells #[u, .int .i64 t.last] 30) = wa) (m : Mid w0 wa w9 pQ u8 T' u) :
    Next Rep w0 wr ((w9.setCell ⟨p0, 0, none⟩ u8).setCell ⟨p0, 1, none⟩ (.int .i64 T'.last)) p0 wr.heap.size pv n t T' F u u8 := by
  have hba : Below wr.heap.size wr wa := by rw [← ha]; exact (Below.refl _ _).alloc (Nat.le_refl _) _
  have T8 : TreeBox wa wr.heap.size u t.last := by rw [← ha]; exact heap_top _ _
  have hsa : wa.heap.size = wr.heap.size + 1 := by rw [← ha]; exact World.size_alloc _ _
  have ga := g.boxed C hba
  have g9 := ga.boxed C m.below
  have hp0 := g.box.lt
  have hlow := C.low g.rep
  have tp := turns_box w9 p0 u8 (.int .i64 T'.last)
  have hap : Off (fun k => k = p0) u8 := off_from g.apart (fun k hk => by have : k = p0 := hk; omega) m.from_
  have h9 := m.below.size
  exact {
    rep := C.keep g9.rep (fun k hk => tp.block k (by have := hlow k hk; omega) (fun e => g.offp (by have : k = p0 := e; rw [← this]; exact hk))) tp.size
    box := W07.box_stored2 g9.box
    old := (T8.below m.below).turns tp (by omega)
    nodes := (nodes_turns m.nodes tp hap).more tp.size
    olds := (nodes_turns g9.nodes tp g.apart).more tp.size
    off := off_from g.off (fun k hk => by have := hlow k hk; omega) m.from_
    below := (g9.below.setCell g.pnew _).setCell g.pnew _
    lt := by have := tp.size; omega
    off8 := fun hk => by have := hlow _ hk; omega
    apart := hap }
/-- the round's end -/
theorem Next.goes {Rep : (Nat → Prop) → World → Value → Tr → Prop} (C : Trees Rep) {w0 wr w10 w11 w12 : World} {p0 p8 n : Nat} {pv u u8 : Value} {t T' : Tr} {F F' : Nat → Prop} (g : Goes9 Rep w0 wr p0 pv n t F u) (x : Next Rep w0 wr w10 p0 p8 pv n t T' F u u8) (k : Kept t T')
    (h1 : Rep F' w11 pv T') (h2 : Turns F w10 w11) (h3 : ∀ k, F' k → F k ∨ w10.heap.size ≤ k) (hb : Below w11.heap.size w11 w12) : Goes9 Rep w0 w12 p0 pv (n + 1) T' F' u8 :=
  have hF' : ∀ k, F' k → w0.heap.size ≤ k := fun k hk => (h3 k hk).elim (g.new k) (fun h => Nat.le_trans x.below.size h)
  { rep := C.below h1 hb
    box := (x.box.turns h2 g.offp).below hb
    nodes := ((nodes_turns x.nodes h2 x.off).more h2.size |>.below hb).more hb.size
    off := off_same x.nodes (right_full (k.right g.within.right)) x.off h3
    offp := fun hk => (h3 _ hk).elim g.offp (fun h => by have := x.lt; omega)
    apart := x.apart
    within := g.within.next k
    new := hF'
    pnew := g.pnew
    below := (x.below.trans (h2.below g.new x.below.size)).trans (hb.mono (Nat.le_trans x.below.size h2.size)) }
theorem mid_in {w wa wN : World} {pQ n c : Nat} {A : Option Addr} {l : Int} {u8 u : Value} {T' : Tr} (hb : Below wa.heap.size wa wN) (h : TreeBox wN pQ (.slice A n c) l) (hn : Nodes wN.heap.size wN u8 T'.L) (h0 : 0 < T'.L.length) (hq : wa.heap.size ≤ pQ) (hf : FromOr u wa.heap.size u8) :
    Mid w wa ((wN.setCell ⟨pQ, 0, none⟩ u8).setCell ⟨pQ, 1, none⟩ (.int .i64 T'.last)) pQ u8 T' u :=
  have ht := turns_box wN pQ u8 (.int .i64 T'.last)
  ⟨(hb.setCell hq _).setCell hq _, W07.box_stored2 h, (nodes_turns hn ht (W07.off_box h hn h0)).more ht.size, hf⟩
end Go.Proofs.YtolhniepejhmfaaGreatDoor.W09
