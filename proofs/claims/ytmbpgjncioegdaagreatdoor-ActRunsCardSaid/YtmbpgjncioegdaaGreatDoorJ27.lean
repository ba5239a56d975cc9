/-
  Texts joined, in build order, each with its own comment and its own conditions: W10Ref, W10RefA.
-/
import Derived.Test.YtmbpgjncioegdaaGreatDoorJ21
import Derived.Test.YtmbpgjncioegdaaGreatDoorJ23
import Derived.BigQuiet
import Derived.Test.YtmbpgjncioegdaaGreatDoorJ24
/-
  Layer 10 (fs), walks: the plain answer Do: what it returns. New memory is laid, nothing that was there is changed. The conditions stand in the statements.
-/
namespace Go.Proofs.YtmbpgjncioegdaaGreatDoor.W10
set_option maxRecDepth 100000
open Go Go.RowKit Go.Proofs.YtmbpgjncioegdaaGreatDoor.Strs Go.Proofs.YtmbpgjncioegdaaGreatDoor.Recs Go.Proofs.YtmbpgjncioegdaaGreatDoor.Range
open Go.Proofs.YtmbpgjncioegdaaGreatDoor.M07 (Tr Nd nodeAt Right)
open Go.Proofs.YtmbpgjncioegdaaGreatDoor.M09 Go.Proofs.YtmbpgjncioegdaaGreatDoor.M10
open Go.Proofs.YtmbpgjncioegdaaGreatDoor.W07 (Small Trees Wrote Off heap_top Nodes TreeBox TreeErr FromOr set_heap nodes_turns off_from right_full)
open Go.Proofs.YtmbpgjncioegdaaGreatDoor.W09 (Tk tkC tkC_len Tasks Within TaskBox Fits off_nodes FromOr.low)
open Go.Proofs.YtmbpgjncioegdaaGreatDoor.Kit (ret_str ret_bool ret_int mk_of mk_bytes ba_ext below_draws on)

/-- a plain FS as a value, and its box -/
def fsV (u : Value) (l : Int) (fv : Value) (c : Int) (d : Bool) : Value := .agg #[u, .int .i64 l, fv, .int .i64 c, .bool d]
def RefBox (w : World) (p : Nat) (u : Value) (l : Int) (fv : Value) (c : Int) (d : Bool) : Prop := w.heap[p]? = some (.cells #[u, .int .i64 l, fv, .int .i64 c, .bool d] 49 (0, 0))
section
variable {w w' : World} {p : Nat} {u fv : Value} {l c : Int} {d : Bool}
theorem RefBox.lt (h : RefBox w p u l fv c d) : p < w.heap.size := (Array.getElem?_eq_some_iff.1 h).1
theorem RefBox.below (h : RefBox w p u l fv c d) (hb : Below w.heap.size w w') : RefBox w' p u l fv c d := (hb.block _ h.lt).trans h
theorem RefBox.turns {T : Nat → Prop} (h : RefBox w p u l fv c d) (ht : Turns T w w') (hp : ¬ T p) : RefBox w' p u l fv c d := ht.keeps h hp
theorem RefBox.c0 (h : RefBox w p u l fv c d) : w.cell? ⟨p, 0, none⟩ = some u := cell_of_row w _ 0 _ _ (0, 0) h
theorem RefBox.c1 (h : RefBox w p u l fv c d) : w.cell? ⟨p, 1, none⟩ = some (.int .i64 l) := cell_of_row w _ 1 _ _ (0, 0) h
theorem RefBox.c2 (h : RefBox w p u l fv c d) : w.cell? ⟨p, 2, none⟩ = some fv := cell_of_row w _ 2 _ _ (0, 0) h
theorem RefBox.c3 (h : RefBox w p u l fv c d) : w.cell? ⟨p, 3, none⟩ = some (.int .i64 c) := cell_of_row w _ 3 _ _ (0, 0) h
theorem RefBox.c4 (h : RefBox w p u l fv c d) : w.cell? ⟨p, 4, none⟩ = some (.bool d) := cell_of_row w _ 4 _ _ (0, 0) h
theorem RefBox.fr (h : RefBox w p u l fv c d) (j : Nat) : w.frozen? ⟨p, j, none⟩ = false := frozen_of_row w _ j _ _ h
/-- all five cells written -/
def store5 (w : World) (p : Nat) (u : Value) (l : Int) (fv : Value) (c : Int) (d : Bool) : World := ((((w.setCell ⟨p, 0, none⟩ u).setCell ⟨p, 1, none⟩ (.int .i64 l)).setCell ⟨p, 2, none⟩ fv).setCell ⟨p, 3, none⟩ (.int .i64 c)).setCell ⟨p, 4, none⟩ (.bool d)
theorem store5_box {u0 fv0 : Value} {l0 c0 : Int} {d0 : Bool} (h : RefBox w p u0 l0 fv0 c0 d0) (u : Value) (l : Int) (fv : Value) (c : Int) (d : Bool) : RefBox (store5 w p u l fv c d) p u l fv c d :=
  set_heap (set_heap (set_heap (set_heap (set_heap h 0 u) 1 (.int .i64 l)) 2 fv) 3 (.int .i64 c)) 4 (.bool d)
theorem turn1 (w : World) (p j : Nat) (u : Value) : Turns (fun k => k = p) w (w.setCell ⟨p, j, none⟩ u) := Turns.setCell u rfl
theorem store5_turns (w : World) (p : Nat) (u : Value) (l : Int) (fv : Value) (c : Int) (d : Bool) : Turns (fun k => k = p) w (store5 w p u l fv c d) :=
  ((((turn1 _ _ _ _).trans (turn1 _ _ _ _)).trans (turn1 _ _ _ _)).trans (turn1 _ _ _ _)).trans (turn1 _ _ _ _)
end
/-- what a call returns that hands out an FS and an error: its tree's list comes from v, or is new -/
def FsErr (v fv : Value) (w : World) (R : Fs × Int) (e : Ending) (w' : World) : Prop := ∃ u, e = .returned (.tuple #[fsV u R.1.t.last fv R.1.count R.1.down, .int .i64 R.2]) ∧ Nodes w'.heap.size w' u R.1.t.L ∧ Below w.heap.size w w' ∧ FromOr v w.heap.size u
/-- the three boxes that Do lays at its start -/
def boxes10 (w : World) (u : Value) (l : Int) (fv : Value) (c : Int) (d : Bool) (k : Int) (p s : ByteArray) : World := ((w.alloc (.cells #[u, .int .i64 l, fv, .int .i64 c, .bool d] 49)).alloc (.cells #[.int .i64 k, .string p, .string s] 59)).alloc (.cells #[.slice none 0 0, .int .i64 0, .slice none 0 0, .int .i64 0, .bool false] 49)
/-- where the walk stands: the boxes, the tree, the faults -/
structure At10 (w wr : World) (B R q : Nat) (u : Value) (t : Tr) (fv : Value) (L : List Fl) (c : Int) (d : Bool) (k : Int) (p s : ByteArray) : Prop where
  box : RefBox wr B u t.last fv c d
  res : RefBox wr R (.slice none 0 0) 0 (.slice none 0 0) 0 false
  task : TaskBox wr q k p s
  below : Below w.heap.size w wr
  faults : Faults w.heap.size wr fv L
  fits : Fits t wr u
  old : Nodes w.heap.size wr u t.L
  b : B = w.heap.size
  q : q = w.heap.size + 1
  r : R = w.heap.size + 1 + 1
section
variable {w wr w' w2 : World} {B R q : Nat} {u fv : Value} {t : Tr} {L : List Fl} {c : Int} {d : Bool} {k : Int} {p s : ByteArray}
theorem boxes10_lie (hf : Fits t w u) (hL : Faults w.heap.size w fv L) : At10 w (boxes10 w u t.last fv c d k p s) w.heap.size (w.heap.size + 1 + 1) (w.heap.size + 1) u t fv L c d k p s := by
  have hb : Below w.heap.size w (boxes10 w u t.last fv c d k p s) := (((Below.refl _ w).alloc (Nat.le_refl _) _).alloc (by rw [World.alloc_size]; omega) _).alloc (by rw [World.alloc_size, World.alloc_size]; omega) _
  exact {
    box := W07.heap_three_a _ _ _ _
    res := W07.heap_three_c _ _ _ _
    task := W07.heap_three_b _ _ _ _
    below := hb
    faults := hL.below hb
    fits := ⟨hf.fit, hf.len, hf.some, hf.low, hf.high, (hf.nodes.below hb).more hb.size⟩
    old := hf.nodes.below hb
    b := rfl
    q := rfl
    r := rfl }
theorem At10.drew (h : At10 w wr B R q u t fv L c d k p s) (n : Nat) : At10 w (wr.drewN n) B R q u t fv L c d k p s := by
  have hb : Below wr.heap.size wr (wr.drewN n) := below_draws wr n
  exact {
    box := h.box.below hb
    res := h.res.below hb
    task := h.task.below hb
    below := on h.below hb
    faults := h.faults.below (hb.mono h.below.size)
    fits := ⟨h.fits.fit, h.fits.len, h.fits.some, h.fits.low, h.fits.high, (h.fits.nodes.below hb).more hb.size⟩
    old := h.old.below (hb.mono h.below.size)
    b := h.b
    q := h.q
    r := h.r }
/-- the first box was written -/
theorem At10.stored (h : At10 w wr B R q u t fv L c d k p s) {c' : Int} {d' : Bool} (ht : Turns (fun k => k = B) wr w') (hb : RefBox w' B u t.last fv c' d') : At10 w w' B R q u t fv L c' d' k p s := by
  have hB := h.b
  have hq := h.q
  have hr := h.r
  have hbl : Below w.heap.size w w' := h.below.trans (ht.below (fun k e => by have : k = B := e; omega) h.below.size)
  have hb2 : Below w.heap.size wr w' := ht.below (fun k e => by have : k = B := e; omega) h.below.size
  exact {
    box := hb
    res := h.res.turns ht (by omega)
    task := ht.keeps h.task (by omega)
    below := hbl
    faults := h.faults.below hb2
    fits := ⟨h.fits.fit, h.fits.len, h.fits.some, h.fits.low, h.fits.high, (h.old.below hb2).more hbl.size⟩
    old := h.old.below hb2
    b := h.b
    q := h.q
    r := h.r }
theorem below3 (w : World) (a b c : Obj) : Below w.heap.size w (((w.alloc a).alloc b).alloc c) := (((Below.refl _ w).alloc (Nat.le_refl _) _).alloc (by rw [World.alloc_size]; omega) _).alloc (by rw [World.alloc_size, World.alloc_size]; omega) _
theorem fs_same {W : World} (hn : Nodes w.heap.size w u t.L) (hb : Below w.heap.size w W) {x : Fs × Int} (hx : x.1.t = t) {c2 : Int} {d2 : Bool} (hd : x.1.count = c2 ∧ x.1.down = d2) {e : Int} (he : x.2 = e) : FsErr u fv w x (.returned (.tuple #[fsV u t.last fv c2 d2, .int .i64 e])) W := by
  refine ⟨u, ?_, ?_, hb, Or.inl rfl⟩
  · rw [hx, hd.1, hd.2, he]
  · rw [hx]; exact (hn.below hb).more hb.size
/-- what is returned where the task was done -/
theorem At10.done (h : At10 w wr B R q u t fv L c d k p s) {w8 : World} {u8 : Value} {t8 : Tr} (hn : Nodes w8.heap.size w8 u8 t8.L) (hb : Below wr.heap.size wr w8) (hf : FromOr u wr.heap.size u8) (o : Obj) {u1 : Value} {l1 : Int} {u2 fv2 : Value} {l2 c2 : Int} {d2 : Bool} {x : Fs × Int} (hx : x.1.t = t8) {c3 : Int} {d3 : Bool} (hd : x.1.count = c3 ∧ x.1.down = d3) {e : Int} (he : x.2 = e) :
    FsErr u fv w x (.returned (.tuple #[fsV u8 t8.last fv c3 d3, .int .i64 e])) ((store5 ((w8.setCell ⟨B, 0, none⟩ u1).setCell ⟨B, 1, none⟩ (.int .i64 l1)) R u2 l2 fv2 c2 d2).alloc o) := by
  have hB := h.b
  have hr := h.r
  have hlB := h.box.lt
  have hlR := h.res.lt
  have ht : Turns (fun k => k = B ∨ k = R) w8 (store5 ((w8.setCell ⟨B, 0, none⟩ u1).setCell ⟨B, 1, none⟩ (.int .i64 l1)) R u2 l2 fv2 c2 d2) :=
    (((turn1 _ _ _ _).trans (turn1 _ _ _ _)).wider fun _ => Or.inl).trans ((store5_turns _ _ _ _ _ _ _).wider fun _ => Or.inr)
  have hoff : Off (fun k => k = B ∨ k = R) u8 := off_from (off_nodes h.old h.fits.some (fun k hk => by rcases hk with e | e <;> omega)) (fun k hk => by rcases hk with e | e <;> omega) hf
  have hb2 : Below w.heap.size w w8 := on h.below hb
  have hb3 := hb2.trans (ht.below (n := w.heap.size) (fun k e => by rcases e with e | e <;> omega) hb2.size)
  have hba := W07.below_one (store5 ((w8.setCell ⟨B, 0, none⟩ u1).setCell ⟨B, 1, none⟩ (.int .i64 l1)) R u2 l2 fv2 c2 d2) o
  refine ⟨u8, ?_, ?_, on hb3 hba, FromOr.low hf h.below.size⟩
  · rw [hx, hd.1, hd.2, he]
  · rw [hx]; exact (((nodes_turns hn ht hoff).more ht.size).below hba).more hba.size
/-- what is returned where the tree stays -/
theorem At10.ends (h : At10 w wr B R q u t fv L c d k p s) {x : Fs × Int} (hx : x.1.t = t) {u2 fv2 : Value} {l2 c2 : Int} {d2 : Bool} (hd : x.1.count = c2 ∧ x.1.down = d2) {e : Int} (he : x.2 = e) : FsErr u fv w x (.returned (.tuple #[fsV u t.last fv c2 d2, .int .i64 e])) (store5 wr R u2 l2 fv2 c2 d2) := by
  have ht := store5_turns wr R u2 l2 fv2 c2 d2
  have hr := h.r
  have hb2 : Below w.heap.size wr (store5 wr R u2 l2 fv2 c2 d2) := ht.below (fun k e => by have : k = R := e; omega) h.below.size
  refine ⟨u, ?_, ?_, h.below.trans hb2, Or.inl rfl⟩
  · rw [hx, hd.1, hd.2, he]
  · rw [hx]; exact (h.old.below hb2).more (h.below.trans hb2).size
end
set_option maxHeartbeats 8000000 in
theorem refDo10_any (t : Tr) (u : Value) (w : World) (hf : Fits t w u) (hR : Right t) (fv : Value) (L : List Fl) (hL : Faults w.heap.size w fv L) (c : Int) (hc0 : 0 ≤ c) (hc1 : c ≤ 1073741824) (d : Bool) (k : Int) (p s : ByteArray) (hs : s.size ≤ maxLen) :
    Calls Tryz.prog 44 #[fsV u t.last fv c d, .agg #[.int .i64 k, .string p, .string s]] w (FsErr u fv w (doFs ⟨t, L, c, d⟩ k p.data.toList s.data.toList)) := by
  have A2 := boxes10_lie (c := c + 1) (d := false) (k := k) (p := p) (s := s) hf hL
  unfold boxes10 at A2
  have A2 := Lib.hid A2
  obtain ⟨Au, cu, rfl, -, -⟩ := hf.nodes.form
  obtain ⟨Af, cf, rfl, hf1, hf2⟩ := hL.recs.form
  unfold maxLen at hf2
  unfold fsV
  have HR := Lib.hid hR
  have HU := Lib.hid hf.nodes
  clear hf hL hR
  cases hd : d with
  | true =>
    have HX : Hid (doFs ⟨t, L, c, true⟩ k p.data.toList s.data.toList = (⟨t, L, c, true⟩, 17)) := by show _ = _; unfold doFs; rw [if_pos rfl]
    rw [HX.out]
    go_enter Tryz.func44, Tryz.ntmps44
    go_wp2_with fail
    refine bodyPost_ret_by (v := .tuple #[fsV (.slice Au t.L.length cu) t.last (.slice Af L.length cf) c true, .int .i64 17]) ?_ rfl ?_
    · rw [results_cell_tmp rfl]
      go_simp
      rfl
    · exact fs_same HU.out (below3 _ _ _ _) rfl ⟨rfl, rfl⟩ rfl
  | false =>
    by_cases hk : 1 ≤ k ∧ k ≤ 6
    · have HXF : Hid (fault L (c + 1) ≠ 0 → doFs ⟨t, L, c, false⟩ k p.data.toList s.data.toList = (⟨t, L, c + 1, decide (fault L (c + 1) = 17)⟩, fault L (c + 1))) := by
        intro hf
        unfold doFs
        rw [if_neg (by simp), if_neg (by omega), if_pos hf]
      have HXT : Hid (fault L (c + 1) = 0 → doFs ⟨t, L, c, false⟩ k p.data.toList s.data.toList = (⟨(doTask t k p.data.toList s.data.toList).1, L, c + 1, false⟩, (doTask t k p.data.toList s.data.toList).2)) := by
        intro hf
        unfold doFs
        rw [if_neg (by simp), if_neg (by omega), if_neg (fun e => e hf)]
      have t1 : decide (k < 1) = false := decide_eq_false (by omega)
      have t2 : decide ((6 : Int) < k) = false := decide_eq_false (by omega)
      generalize hRR : doFs ⟨t, L, c, false⟩ k p.data.toList s.data.toList = RR at *
      generalize hm : L.length = m at *
      have HM := Lib.hid hm
      clear hRR hm hk
      go_enter Tryz.func44, Tryz.ntmps44
      go_wp2_with fail
      go_loopw [6] (fun i wr => ∃ k' : Nat, k' ≤ m ∧ i = .int .i64 k' ∧ Hid (At10 w wr w.heap.size (w.heap.size + 1 + 1) (w.heap.size + 1) (.slice Au t.L.length cu) t (.slice Af m cf) L (c + 1) false k p s) ∧ Hid (∀ x ∈ L.take k', strikes (c + 1) x = false)) (fun i _ => m - (intOf i).toNat)
      case atStart => exact ⟨0, Nat.zero_le _, rfl, A2, fun x hx => by simp at hx⟩
      case round =>
        clear A2
        obtain ⟨j, hj, rfl, hA, hr⟩ := hrel
        have b0 := hA.out.box.c0
        have b1 := hA.out.box.c1
        have b2 := hA.out.box.c2
        have b3 := hA.out.box.c3
        have b4 := hA.out.box.c4
        have v4 := hA.out.box.fr 4
        have z0 := hA.out.res.c0
        have z1 := hA.out.res.c1
        have z2 := hA.out.res.c2
        have z3 := hA.out.res.c3
        have z4 := hA.out.res.c4
        have y0 := hA.out.res.fr 0
        have y1 := hA.out.res.fr 1
        have y2 := hA.out.res.fr 2
        have y3 := hA.out.res.fr 3
        have y4 := hA.out.res.fr 4
        by_cases hlt : j < m
        · obtain ⟨b, o, hl1, rfl, hbl, a0, a1⟩ := Faults.at_ hA.out.faults.recs hlt
          have HD := Lib.hid (fun n => hA.out.drew n)
          have i0 : (0 : Int) ≤ (j : Int) := by omega
          have i1 : (j : Int) < (m : Int) := by omega
          have HS : Hid (strikes (c + 1) L[j] = (decide (L[j].at_ = c + 1) && decide (L[j].err ≠ 0))) := rfl
          have HN : Hid (strikes (c + 1) L[j] = false → ∀ x ∈ L.take (j + 1), strikes (c + 1) x = false) := by
            intro h x hx
            rw [List.take_succ_eq_append_getElem hl1] at hx
            rcases List.mem_append.1 hx with hx | hx
            · exact hr.out x hx
            · rw [List.mem_singleton.1 hx]; exact h
          have HF := Lib.hid (fun (h : strikes (c + 1) L[j] = true) => fault_at hl1 hr.out h)
          by_cases hat : L[j].at_ = c + 1
          · have t3 : (L[j].at_ == c + 1) = true := by simp [hat]
            by_cases her : L[j].err = 0
            · have t4 : (L[j].err != 0) = false := by simp [her]
              have HN := Lib.hid (HN.out (by rw [HS.out, decide_eq_false (fun e : L[j].err ≠ 0 => e her), Bool.and_false]))
              clear hat her
              generalize L[j].at_ = xa at *
              generalize L[j].err = xe at *
              go_wp2_with fail
              go_quiet (fail)
              go_wp2_with fail
              go_roundw
              case rel => exact ⟨j + 1, by omega, by go_num, HD.out _, HN⟩
              case measure => simp [intOf]; omega
            · have t4 : (L[j].err != 0) = true := by simp [her]
              have hfa := HF.out (by rw [HS.out, decide_eq_true hat, decide_eq_true (show L[j].err ≠ 0 from her)]; rfl)
              have HX := Lib.hid (HXF.out (by rw [hfa]; exact her))
              rw [hfa] at HX
              clear hat her hfa HF HN HS
              generalize L[j].at_ = xa at *
              generalize L[j].err = xe at *
              have hbR : ¬ b = w.heap.size + 1 + 1 := by omega
              have hbB : ¬ b = w.heap.size := by omega
              have HB := Lib.hid hA.out.below
              clear HD
              go_wp2_with fail
              go_quiet (fail)
              go_wp2_with fail
              go_region
              go_wp2_with fail
              refine bodyPost_ret_by (v := .tuple #[fsV (.slice Au t.L.length cu) t.last (.slice (some ⟨b, o, none⟩) m cf) (c + 1) (xe == 17), .int .i64 xe]) ?_ rfl ?_
              · rw [results_cell_tmp rfl]
                go_simp
                rfl
              · refine fs_same HU.out ?_ (by rw [HX.out]) (by rw [HX.out]; exact ⟨rfl, rfl⟩) (by rw [HX.out])
                have hn1 : w.heap.size ≤ w.heap.size + 1 + 1 := by omega
                exact (((((((on HB.out (below_draws wr _)).setCell (Nat.le_refl _) _).setCell hn1 _).setCell hn1 _).setCell hn1 _).setCell hn1 _).setCell hn1 _).drew
          · have t3 : (L[j].at_ == c + 1) = false := by simp [hat]
            have HN := Lib.hid (HN.out (by rw [HS.out, decide_eq_false hat, Bool.false_and]))
            clear hat
            generalize L[j].at_ = xa at *
            generalize L[j].err = xe at *
            go_wp2_with fail
            go_quiet (fail)
            go_wp2_with fail
            go_roundw
            case rel => exact ⟨j + 1, by omega, by go_num, HD.out _, HN⟩
            case measure => simp [intOf]; omega
        · have h0 : fault L (c + 1) = 0 := fault_none fun x hx => hr.out x (by rw [List.take_of_length_le (by have := HM.out; omega)]; exact hx)
          have HX := Lib.hid (HXT.out h0)
          have k0 := hA.out.task.c0
          have k1 := hA.out.task.c1
          have k2 := hA.out.task.c2
          have HD := Lib.hid (W09.refDo9_any t _ wr hA.out.fits HR.out k p s hs)
          generalize doTask t k p.data.toList s.data.toList = Q at *
          obtain ⟨T8, e8⟩ := Q
          clear h0
          go_wp2_with fail
          refine HD.out.mono ?_
          rintro e w8 ⟨u8, rfl, hn8, hb8, hf8⟩
          obtain ⟨A8, c8, rfl, -, -⟩ := hn8.form
          have HE := Lib.hid (fun o u1 l1 u2 fv2 l2 c2 d2 => hA.out.done hn8 hb8 hf8 o (u1 := u1) (l1 := l1) (u2 := u2) (fv2 := fv2) (l2 := l2) (c2 := c2) (d2 := d2) (x := RR) (c3 := c + 1) (d3 := false) (e := e8) (by rw [HX.out]) (by rw [HX.out]; exact ⟨rfl, rfl⟩) (by rw [HX.out]))
          have bb := hA.out.box.below hb8
          have rb := hA.out.res.below hb8
          clear b0 b1 b2 b3 b4 v4 z0 z1 z2 z3 z4 y0 y1 y2 y3 y4 k0 k1 k2 HD
          have b0 := bb.c0
          have b1 := bb.c1
          have b2 := bb.c2
          have b3 := bb.c3
          have b4 := bb.c4
          have v0 := bb.fr 0
          have v1 := bb.fr 1
          have z0 := rb.c0
          have z1 := rb.c1
          have z2 := rb.c2
          have z3 := rb.c3
          have z4 := rb.c4
          have y0 := rb.fr 0
          have y1 := rb.fr 1
          have y2 := rb.fr 2
          have y3 := rb.fr 3
          have y4 := rb.fr 4
          have hs1 := bb.lt
          have hs2 := rb.lt
          clear bb rb hn8 hb8 hf8
          go_wp2_with fail
          refine bodyPost_ret_by (v := .tuple #[fsV (.slice A8 T8.L.length c8) T8.last (.slice Af m cf) (c + 1) false, .int .i64 e8]) ?_ rfl ?_
          · rw [results_cell_tmp rfl]
            go_simp
            rfl
          · exact HE.out _ _ _ _ _ _ _ _
    · have HX : Hid (doFs ⟨t, L, c, false⟩ k p.data.toList s.data.toList = (⟨t, L, c, false⟩, 2)) := by
        show _ = _
        unfold doFs
        rw [if_neg (by simp), if_pos (by omega)]
      rw [HX.out]
      by_cases h1 : k < 1
      · have t1 : decide (k < 1) = true := decide_eq_true h1
        clear hk h1
        go_enter Tryz.func44, Tryz.ntmps44
        go_wp2_with fail
        refine bodyPost_ret_by (v := .tuple #[fsV (.slice Au t.L.length cu) t.last (.slice Af L.length cf) c false, .int .i64 2]) ?_ rfl ?_
        · rw [results_cell_tmp rfl]
          go_simp
          rfl
        · exact fs_same HU.out (below3 _ _ _ _) rfl ⟨rfl, rfl⟩ rfl
      · have t1 : decide (k < 1) = false := decide_eq_false h1
        have t2 : decide ((6 : Int) < k) = true := decide_eq_true (by omega)
        clear hk h1
        go_enter Tryz.func44, Tryz.ntmps44
        go_wp2_with fail
        refine bodyPost_ret_by (v := .tuple #[fsV (.slice Au t.L.length cu) t.last (.slice Af L.length cf) c false, .int .i64 2]) ?_ rfl ?_
        · rw [results_cell_tmp rfl]
          go_simp
          rfl
        · exact fs_same HU.out (below3 _ _ _ _) rfl ⟨rfl, rfl⟩ rfl
end Go.Proofs.YtmbpgjncioegdaaGreatDoor.W10
/-
  Layer 10 (fs), walks: the plain answer Apply: what it returns. New memory is laid, nothing that was there is changed. The conditions stand in the statements.
-/
namespace Go.Proofs.YtmbpgjncioegdaaGreatDoor.W10
set_option maxRecDepth 100000
open Go Go.RowKit Go.Proofs.YtmbpgjncioegdaaGreatDoor.Strs Go.Proofs.YtmbpgjncioegdaaGreatDoor.Recs Go.Proofs.YtmbpgjncioegdaaGreatDoor.Range
open Go.Proofs.YtmbpgjncioegdaaGreatDoor.M07 (Tr Nd nodeAt Right)
open Go.Proofs.YtmbpgjncioegdaaGreatDoor.M09 Go.Proofs.YtmbpgjncioegdaaGreatDoor.M10
open Go.Proofs.YtmbpgjncioegdaaGreatDoor.W07 (Small Trees Wrote Off heap_top Nodes TreeBox TreeErr FromOr set_heap nodes_turns off_from right_full turns_box)
open Go.Proofs.YtmbpgjncioegdaaGreatDoor.W09 (Tk tkC tkC_len Tasks Within TaskBox Fits off_nodes FromOr.low five_on five_turns Mid mid_in two_fits refDo9_any)
open Go.Proofs.YtmbpgjncioegdaaGreatDoor.Kit (ret_str ret_bool ret_int mk_of mk_bytes ba_ext below_draws on)

theorem task_stop {t0 t : Tr} {l : List Tk} {k : Nat} {y : Tk} (h : Done t0 l k t) (hy : l[k]? = some y) (he : (doTask t y.kind y.path y.text).2 ≠ 0) : applyAll t0 l = (t, k, (doTask t y.kind y.path y.text).2) := by
  obtain ⟨hk, rfl⟩ := List.getElem?_eq_some_iff.1 hy
  exact h.stop hk he
theorem task_next {t0 t : Tr} {l : List Tk} {k : Nat} {y : Tk} (h : Done t0 l k t) (hy : l[k]? = some y) (he : (doTask t y.kind y.path y.text).2 = 0) : Done t0 l (k + 1) (doTask t y.kind y.path y.text).1 := by
  obtain ⟨hk, rfl⟩ := List.getElem?_eq_some_iff.1 hy
  exact h.next hk he
theorem results_cell_two {fn : Func} {p t s : Tmp} {ty : TypeId} (h : fn.results = #[.cell p ty, .tmp t, .tmp s]) (tmps : Array Value) (P : Program) (w : World) :
    (results fn tmps).run P w = ((asAddr (tmps.getD p undef)).run P w).andThen fun a w₁ => ((loadVar ty a).run P w₁).andThen fun v w₂ => .ok (.tuple #[v, tmps.getD t undef, tmps.getD s undef]) w₂ := by
  simp only [results, h]
  simp [Sem.run_bind, Result.andThen]
theorem low_top (w : World) (o o' : Obj) : ((w.alloc o).alloc o').heap[w.heap.size]? = some o := by
  rw [Below.heap_alloc _ _ _ (by rw [World.alloc_size]; omega)]
  exact heap_top _ _
theorem high_top (w : World) (o o' : Obj) : ((w.alloc o).alloc o').heap[w.heap.size + 1]? = some o' := by
  have := heap_top (w.alloc o) o'
  rw [World.alloc_size] at this
  exact this
/-- where the loop stands -/
structure Ap10 (w wr : World) (p0 pR : Nat) (n : Nat) (t : Tr) (u : Value) : Prop where
  box : TreeBox wr p0 u t.last
  res : TreeBox wr pR (.slice none 0 0) 0
  nodes : Nodes wr.heap.size wr u t.L
  apart : Off (fun k => k = p0 ∨ k = pR) u
  within : Within t n
  below : Below w.heap.size w wr
  pnew : w.heap.size ≤ p0
  rnew : w.heap.size ≤ pR
  ne : p0 ≠ pR
theorem Ap10.mid {w wr w9 : World} {p0 pR pQ n : Nat} {t T' : Tr} {u u8 : Value} (g : Ap10 w wr p0 pR n t u) (m : Mid w wr w9 pQ u8 T' u) : Ap10 w w9 p0 pR n t u :=
  ⟨g.box.below m.below, g.res.below m.below, (g.nodes.below m.below).more m.below.size, g.apart, g.within, on g.below m.below, g.pnew, g.rnew, g.ne⟩
theorem Ap10.next {w wr w9 : World} {p0 pR pQ n : Nat} {t T' : Tr} {u u8 : Value} (g : Ap10 w wr p0 pR n t u) (m : Mid w wr w9 pQ u8 T' u) (k : Kept t T') : Ap10 w ((w9.setCell ⟨p0, 0, none⟩ u8).setCell ⟨p0, 1, none⟩ (.int .i64 T'.last)) p0 pR (n + 1) T' u8 := by
  have g9 := g.mid m
  have h0 := g.box.lt
  have h1 := g.res.lt
  have tp := turns_box w9 p0 u8 (.int .i64 T'.last)
  have hap : Off (fun k => k = p0 ∨ k = pR) u8 := off_from g.apart (fun k hk => by rcases hk with e | e <;> omega) m.from_
  have hne := g.ne
  exact {
    box := W07.box_stored2 g9.box
    res := g9.res.turns tp (fun e => hne (Eq.symm e))
    nodes := (nodes_turns m.nodes tp (fun b o n c e hk => hap b o n c e (Or.inl hk))).more tp.size
    apart := hap
    within := g.within.next k
    below := (g9.below.setCell g.pnew _).setCell g.pnew _
    pnew := g.pnew
    rnew := g.rnew
    ne := g.ne }
/-- what is returned -/
theorem Ap10.ends {w wr : World} {p0 pR n : Nat} {t : Tr} {u : Value} (g : Ap10 w wr p0 pR n t u) (a b : Value) : Nodes ((wr.setCell ⟨pR, 0, none⟩ a).setCell ⟨pR, 1, none⟩ b).heap.size ((wr.setCell ⟨pR, 0, none⟩ a).setCell ⟨pR, 1, none⟩ b) u t.L ∧ Below w.heap.size w ((wr.setCell ⟨pR, 0, none⟩ a).setCell ⟨pR, 1, none⟩ b) :=
  have tp := turns_box wr pR a b
  ⟨(nodes_turns g.nodes tp (fun b o n c e hk => g.apart b o n c e (Or.inr hk))).more tp.size, (g.below.setCell g.rnew _).setCell g.rnew _⟩
/-- what Apply returns -/
def TreeTwo (w : World) (R : Tr × Nat × Int) (e : Ending) (w' : World) : Prop := ∃ u, e = .returned (.tuple #[.agg #[u, .int .i64 R.1.last], .int .i64 (R.2.1 : Int), .int .i64 R.2.2]) ∧ Nodes w'.heap.size w' u R.1.L ∧ Below w.heap.size w w'
theorem two_is {w W : World} {R : Tr × Nat × Int} {t : Tr} {n : Nat} {e : Int} {u : Value} (hR : R = (t, n, e)) (h : Nodes W.heap.size W u t.L ∧ Below w.heap.size w W) : TreeTwo w R (.returned (.tuple #[.agg #[u, .int .i64 t.last], .int .i64 (n : Int), .int .i64 e])) W := by
  subst hR
  exact ⟨u, rfl, h.1, h.2⟩
set_option maxHeartbeats 16000000 in
theorem refApply10_any (T0 : Tr) (u : Value) (n : Nat) (hw : Within T0 n) (w : World) (hn : Nodes w.heap.size w u T0.L) (y : Value) (L : List Tk) (hL : Tasks w.heap.size w y L) (hm : n + L.length ≤ 1048576) (hs : ∀ x ∈ L, x.text.length ≤ 1048576) :
    Calls Tryz.prog 13 #[.agg #[u, .int .i64 T0.last], y] w (TreeTwo w (applyAll T0 L)) := by
  have A0 : Hid (Ap10 w ((w.alloc (.cells #[u, .int .i64 T0.last] 30)).alloc (.cells #[.slice none 0 0, .int .i64 0] 30)) w.heap.size (w.heap.size + 1) n T0 u) := by
    have hb : Below w.heap.size w ((w.alloc (.cells #[u, .int .i64 T0.last] 30)).alloc (.cells #[.slice none 0 0, .int .i64 0] 30)) := ((Below.refl _ w).alloc (Nat.le_refl _) _).alloc (by rw [World.alloc_size]; omega) _
    refine ⟨?_, ?_, (hn.below hb).more hb.size, off_nodes hn (right_full hw.right) (fun k hk => by rcases hk with e | e <;> omega), hw, hb, Nat.le_refl _, Nat.le_succ _, by omega⟩
    · exact low_top _ _ _
    · exact high_top _ _ _
  obtain ⟨Au, cu, rfl, -, -⟩ := hn.form
  obtain ⟨A2, c2, rfl, hk1, hk2⟩ := hL.form
  unfold maxLen at hk2
  have HK := Lib.hid hL
  have HS := Lib.hid hs
  have HEnd := Lib.hid (fun t (hd : Done T0 L L.length t) => hd.all (by omega))
  have HStop := Lib.hid (fun k t z (hd : Done T0 L k t) (hz : L[k]? = some z) => task_stop hd hz)
  clear hn hL hs hw
  generalize hR : applyAll T0 L = R at *
  generalize hq : L.length = q at *
  have HQ := Lib.hid hq
  clear hq hR
  go_enter Tryz.func13, Tryz.ntmps13
  go_wp2_with fail
  go_loopw [7] (fun i wr => ∃ (k : Nat) (t : Tr) (u : Value), k ≤ q ∧ i = .int .i64 k ∧ Hid (Ap10 w wr w.heap.size (w.heap.size + 1) (n + k) t u) ∧ Hid (Done T0 L k t)) (fun i _ => q - (intOf i).toNat)
  case atStart => exact ⟨0, _, _, Nat.zero_le _, rfl, A0, .start⟩
  case round =>
    clear A0
    obtain ⟨k, t, u, hk, rfl, hg, hd⟩ := hrel
    obtain ⟨Au, cu, rfl, hu1, hu2⟩ := hg.out.nodes.form
    by_cases hlt : k < q
    · obtain ⟨b, o, hl1, rfl, hbl, a0, a1, a2⟩ := Tasks.at_ (HK.out.below hg.out.below) hlt
      have hxd := HS.out _ (List.getElem_mem hl1)
      have hy : L[k]? = some L[k] := List.getElem?_eq_getElem hl1
      have HStop := Lib.hid (HStop.out k t _ hd.out hy)
      have HNext := Lib.hid (task_next (t0 := T0) hd.out hy)
      clear hy
      generalize L[k] = x at *
      obtain ⟨xk, xp, xt⟩ := x
      obtain ⟨sp, hsp⟩ : ∃ d : ByteArray, d.data.toList = xp := ⟨⟨xp.toArray⟩, rfl⟩
      obtain ⟨st, hst⟩ : ∃ d : ByteArray, d.data.toList = xt := ⟨⟨xt.toArray⟩, rfl⟩
      subst hsp hst
      have a0 : wr.cell? ⟨b, o + k * 3, none⟩ = some (.int .i64 xk) := a0
      have a1 : wr.cell? ⟨b, o + k * 3 + 1, none⟩ = some (.string sp) := by have := a1; rw [mk_bytes] at this; exact this
      have a2 : wr.cell? ⟨b, o + k * 3 + 2, none⟩ = some (.string st) := by have := a2; rw [mk_bytes] at this; exact this
      have hts : st.size ≤ 1048576 := by have := hxd; rw [← Lib.size_eq] at this; omega
      have hnn : n + k ≤ 1048576 := by omega
      have hbs := hg.out.below.size
      have hp1 := hg.out.res.lt
      have ca : wr.cell? ⟨w.heap.size, 0, none⟩ = some (.slice Au t.L.length cu) ∧ wr.cell? ⟨w.heap.size, 1, none⟩ = some (.int .i64 t.last) ∧ wr.cell? ⟨b, o + k * 3, none⟩ = some (.int .i64 xk) ∧ wr.cell? ⟨b, o + k * 3 + 1, none⟩ = some (.string sp) ∧ wr.cell? ⟨b, o + k * 3 + 2, none⟩ = some (.string st) := ⟨hg.out.box.c0, hg.out.box.c1, a0, a1, a2⟩
      obtain ⟨wA, hwA⟩ : ∃ wA : World, wr.alloc (.cells #[.slice none 0 0, .int .i64 0] 30) = wA := ⟨_, rfl⟩
      have hbA : Below wr.heap.size wr wA := by rw [← hwA]; exact (Below.refl _ _).alloc (Nat.le_refl _) _
      have hlt2 : wr.heap.size < wA.heap.size := by have : wA.heap.size = wr.heap.size + 1 := (by rw [← hwA]; exact World.size_alloc _ _); omega
      have TBA : TreeBox wA wr.heap.size (.slice none 0 0) 0 := by rw [← hwA]; exact heap_top _ _
      have cA := five_on ca hbA
      have HFA : Fits t (wA.drewN 1) (.slice Au t.L.length cu) := two_fits (w := wA.drewN 1) hg.out.within hnn ((hg.out.nodes.below hbA).more hbA.size)
      have HFW : Fits t (wr.drewN 1) (.slice Au t.L.length cu) := two_fits (w := wr.drewN 1) hg.out.within hnn hg.out.nodes
      have HDA := Lib.hid (refDo9_any t _ (wA.drewN 1) HFA hg.out.within.right xk sp st (by unfold maxLen; omega))
      have HDW := Lib.hid (refDo9_any t _ (wr.drewN 1) HFW hg.out.within.right xk sp st (by unfold maxLen; omega))
      have HKP := Lib.hid (kept_do t xk sp.data.toList st.data.toList)
      generalize doTask t xk sp.data.toList st.data.toList = Q at *
      obtain ⟨T', fe⟩ := Q
      have HKP : Hid (Kept t T') := HKP.out
      obtain ⟨c0, c1, e0, e1, e2⟩ := ca
      obtain ⟨x0, x1, y0, y1, y2⟩ := cA
      have hb0 : (0 : Int) ≤ (k : Int) := by omega
      have hb1 : (k : Int) < (q : Int) := by omega
      clear HFA HFW
      go_wp2_with fail
      go_region_held3 (fun w' => w'.cell? ⟨w.heap.size, 0, none⟩ = some (.slice Au t.L.length cu) ∧ w'.cell? ⟨w.heap.size, 1, none⟩ = some (.int .i64 t.last) ∧ w'.cell? ⟨b, o + k * 3, none⟩ = some (.int .i64 xk) ∧ w'.cell? ⟨b, o + k * 3 + 1, none⟩ = some (.string sp) ∧ w'.cell? ⟨b, o + k * 3 + 2, none⟩ = some (.string st))
        (first | exact F5 | exact FN | exact F8 | exact ⟨x0, x1, y0, y1, y2⟩ | exact ⟨c0, c1, e0, e1, e2⟩ | go_keep)
        (first
          | (go_at_call 32; refine HDA.out.mono ?_; rintro e w8 ⟨u8, rfl, hn8, hb8, hf8⟩; obtain ⟨A8, c8, hue8, -, -⟩ := hn8.form; subst hue8; have hb8' : Below wA.heap.size wA w8 := (below_draws wA 1).trans hb8; have F8 := five_on (w' := wA) (p := w.heap.size) (b := b) (q := o + k * 3) ⟨x0, x1, y0, y1, y2⟩ hb8'; obtain ⟨pQ, hpQ⟩ : ∃ p, wr.heap.size = p := ⟨_, rfl⟩; have TBN : TreeBox w8 pQ (.slice none 0 0) 0 := (by rw [← hpQ]; exact TBA.below hb8'); have m0 := TBN.c0; have m1 := TBN.c1; have v0 := TBN.fr 0; have v1 := TBN.fr 1; obtain ⟨w9, hw9⟩ : ∃ w', (w8.setCell ⟨pQ, 0, none⟩ (.slice A8 T'.L.length c8)).setCell ⟨pQ, 1, none⟩ (.int .i64 T'.last) = w' := ⟨_, rfl⟩; have F5 := five_turns F8 (show Turns (fun i => i = pQ) w8 w9 by rw [← hw9]; exact turns_box _ _ _ _) (by omega) (by omega); have MID := Lib.hid (show Mid w wr w9 pQ (.slice A8 T'.L.length c8) T' (.slice Au t.L.length cu) by rw [← hw9]; exact mid_in (hbA.trans (hb8'.mono (by omega))) TBN hn8 (right_full (HKP.out.right hg.out.within.right)) (by omega) (FromOr.low hf8 (by show _ ≤ wA.heap.size; omega))))
          | (go_at_call 32; refine HDW.out.mono ?_; rintro e w8 ⟨u8, rfl, hn8, hb8, hf8⟩; obtain ⟨A8, c8, hue8, -, -⟩ := hn8.form; subst hue8; have hb8' : Below wr.heap.size wr w8 := (below_draws wr 1).trans hb8; have F8 := five_on (w' := wr) (p := w.heap.size) (b := b) (q := o + k * 3) ⟨c0, c1, e0, e1, e2⟩ hb8'; have hz8 := hb8'.size; obtain ⟨pQ, hpQ⟩ : ∃ p, w8.heap.size = p := ⟨_, rfl⟩; obtain ⟨wN, hwN⟩ : ∃ w', w8.alloc (.cells #[.slice none 0 0, .int .i64 0] 30) = w' := ⟨_, rfl⟩; have hbN : Below w8.heap.size w8 wN := (by rw [← hwN]; exact (Below.refl _ _).alloc (Nat.le_refl _) _); have TBN : TreeBox wN pQ (.slice none 0 0) 0 := (by rw [← hpQ, ← hwN]; exact heap_top _ _); have FN := five_on F8 hbN; have m0 := TBN.c0; have m1 := TBN.c1; have v0 := TBN.fr 0; have v1 := TBN.fr 1; obtain ⟨w9, hw9⟩ : ∃ w', (wN.setCell ⟨pQ, 0, none⟩ (.slice A8 T'.L.length c8)).setCell ⟨pQ, 1, none⟩ (.int .i64 T'.last) = w' := ⟨_, rfl⟩; have F5 := five_turns FN (show Turns (fun i => i = pQ) wN w9 by rw [← hw9]; exact turns_box _ _ _ _) (by omega) (by omega); have MID := Lib.hid (show Mid w wr w9 pQ (.slice A8 T'.L.length c8) T' (.slice Au t.L.length cu) by rw [← hw9]; exact mid_in (on hb8' hbN) TBN ((hn8.below hbN).more hbN.size) (right_full (HKP.out.right hg.out.within.right)) (by omega) (FromOr.low hf8 (by show _ ≤ wr.heap.size; omega)))))
      all_goals (
        have n0 := MID.out.box.c0
        have n1 := MID.out.box.c1
        have G9 := Lib.hid (hg.out.mid MID.out)
        have r0 := G9.out.box.c0
        have r1 := G9.out.box.c1
        have z0 := G9.out.box.fr 0
        have z1 := G9.out.box.fr 1
        have s0 := G9.out.res.c0
        have s1 := G9.out.res.c1
        have q0 := G9.out.res.fr 0
        have q1 := G9.out.res.fr 1
        have NX := Lib.hid (hg.out.next MID.out HKP.out)
        clear F5 HDA HDW c0 c1 e0 e1 e2 x0 x1 y0 y1 y2 a0 a1 a2 m0 m1 v0 v1 hg MID
        by_cases hfe : fe = 0
        · subst hfe
          have HD2 := HNext.out rfl
          have HD2 := Lib.hid HD2
          clear HNext HStop
          go_wp2_with fail
          go_roundw
          case rel => exact ⟨k + 1, T', _, by omega, by go_num, NX, HD2⟩
          case measure => simp [intOf]; omega
        · have HR := HStop.out hfe
          have tn : (fe != 0) = true := by simp [hfe]
          have HE := Lib.hid (fun a b => G9.out.ends a b)
          clear HNext HStop hfe NX
          go_wp2_with fail
          refine bodyPost_ret_by (v := .tuple #[.agg #[.slice Au t.L.length cu, .int .i64 t.last], .int .i64 k, .int .i64 fe]) ?_ rfl ?_
          · rw [results_cell_two rfl]
            go_simp
          · exact two_is HR (HE.out _ _))
    · have hkq : k = q := by omega
      subst hkq
      have HR := Lib.hid (HEnd.out t hd.out)
      have r0 := hg.out.box.c0
      have r1 := hg.out.box.c1
      have s0 := hg.out.res.c0
      have s1 := hg.out.res.c1
      have q0 := hg.out.res.fr 0
      have q1 := hg.out.res.fr 1
      have HE := Lib.hid (fun a b => hg.out.ends a b)
      go_wp2_with fail
      refine bodyPost_ret_by (v := .tuple #[.agg #[.slice Au t.L.length cu, .int .i64 t.last], .int .i64 k, .int .i64 0]) ?_ rfl ?_
      · rw [results_cell_two rfl]
        go_simp
      · exact two_is HR.out (HE.out _ _)
end Go.Proofs.YtmbpgjncioegdaaGreatDoor.W10
