/-
  Texts joined, in build order, each with its own comment and its own conditions: W20Ref.
-/
import Derived.Test.YtmbpgjncioegdaaGreatDoorJ22
import Derived.Test.YtmbpgjncioegdaaGreatDoorJ27
/-
  Layer 20 (act), walks: the plain answers Valid and Run: what each returns. New memory is laid, nothing that was there is changed. The conditions stand in the statements.
-/
namespace Go.Proofs.YtmbpgjncioegdaaGreatDoor.W20
set_option maxRecDepth 100000
open Go Go.RowKit Go.Proofs.YtmbpgjncioegdaaGreatDoor.Strs Go.Proofs.YtmbpgjncioegdaaGreatDoor.Recs Go.Proofs.YtmbpgjncioegdaaGreatDoor.Range
open Go.Proofs.YtmbpgjncioegdaaGreatDoor.M07 (Tr Nd nodeAt Right)
open Go.Proofs.YtmbpgjncioegdaaGreatDoor.M09 Go.Proofs.YtmbpgjncioegdaaGreatDoor.M10 Go.Proofs.YtmbpgjncioegdaaGreatDoor.M20
open Go.Proofs.YtmbpgjncioegdaaGreatDoor.W07 (Small Trees Wrote Off heap_top Nodes TreeBox TreeErr FromOr set_heap nodes_turns off_from right_full turns_box)
open Go.Proofs.YtmbpgjncioegdaaGreatDoor.W09 (Tk tkC tkC_len Tasks Within TaskBox Fits off_nodes FromOr.low two_fits)
open Go.Proofs.YtmbpgjncioegdaaGreatDoor.W10 (Faults RefBox store5 store5_box store5_turns TreeTwo refApply10_any refDo10_any FsErr results_cell_two low_top high_top)
open Go.Proofs.YtmbpgjncioegdaaGreatDoor.Kit (ret_str ret_bool ret_int mk_of mk_bytes ba_ext below_draws on)

set_option maxHeartbeats 4000000 in
theorem refValid_any (t : Tr) (u : Value) (n : Nat) (hw : Within t n) (w : World) (hn : Nodes w.heap.size w u t.L) (y : Value) (L : List Tk) (hL : Tasks w.heap.size w y L) (hm : n + L.length ≤ 1048576) (hs : Texts L) :
    Calls Tryz.prog 12 #[.agg #[u, .int .i64 t.last], y] w fun e w' => e = .returned (.tuple #[.int .i64 ((valid t L).1 : Int), .int .i64 (valid t L).2]) ∧ Below w.heap.size w w' := by
  obtain ⟨Au, cu, rfl, -, -⟩ := hn.form
  obtain ⟨A, c, rfl, hA1, hA2⟩ := hL.form
  unfold maxLen at hA2
  obtain ⟨W0, hW0⟩ : ∃ W0, w.alloc (.cells #[.slice Au t.L.length cu, .int .i64 t.last] 30) = W0 := ⟨_, rfl⟩
  obtain ⟨p0, hp0⟩ : ∃ p, w.heap.size = p := ⟨_, rfl⟩
  have hb0 : Below w.heap.size w W0 := by rw [← hW0]; exact W07.below_one _ _
  have TB : Hid (TreeBox W0 p0 (.slice Au t.L.length cu) t.last) := by show TreeBox _ _ _ _; rw [← hp0, ← hW0]; exact heap_top _ _
  have B0 := Lib.hid hb0
  have HMY := Lib.hid (refMay_any _ L w.heap.size W0 (hL.below hb0) hb0.size hs)
  have HAP := Lib.hid (fun (w1 : World) (hb : Below w.heap.size w w1) => refApply10_any t _ n hw w1 ((hn.below hb).more hb.size) _ L ((hL.below hb).more hb.size) hm (fun x hx => (hs x hx).2))
  have HV := Lib.hid (@valid_no t L)
  have HV2 := Lib.hid (@valid_ok t L)
  generalize valid t L = V at *
  generalize applyAll t L = R at *
  generalize may L = m at *
  generalize L.length = q at *
  clear hn hL hs hm hw hb0
  by_cases h0 : m = 0
  · subst h0
    replace HV2 := Lib.hid (HV2.out rfl)
    go_enter Tryz.func12, Tryz.ntmps12
    go_wp2_with fail
    clear hW0
    refine HMY.out.mono ?_
    rintro e w1 ⟨rfl, hb1⟩
    have B1 := Lib.hid (on B0.out hb1)
    have T1 := TB.out.below hb1
    have c0 := T1.c0
    have c1 := T1.c1
    have HAP1 := Lib.hid (HAP.out w1 B1.out)
    clear hb1 T1
    go_wp2_with fail
    refine HAP1.out.mono ?_
    rintro e w2 ⟨u2, rfl, hn2, hb2⟩
    obtain ⟨A2, c2, rfl, -, -⟩ := hn2.form
    have B2 := Lib.hid (on B1.out hb2)
    obtain ⟨w3, hw3⟩ : ∃ w3, w2.alloc (.cells #[.slice A2 R.1.L.length c2, .int .i64 R.1.last] 30) = w3 := ⟨_, rfl⟩
    have B3 : Hid (Below w.heap.size w w3) := by show Below _ _ _; rw [← hw3]; exact on B2.out (W07.below_one _ _)
    clear hb2 hn2 c0 c1
    go_wp2_with fail
    go_ret2
    rw [HV2.out]
    exact ⟨rfl, B3.out⟩
  · have HV := Lib.hid (HV.out h0)
    have tn : (m != 0) = true := by simp [h0]
    clear h0
    go_enter Tryz.func12, Tryz.ntmps12
    go_wp2_with fail
    clear hW0
    refine HMY.out.mono ?_
    rintro e w1 ⟨rfl, hb1⟩
    have B1 := Lib.hid (on B0.out hb1)
    clear hb1
    go_wp2_with fail
    go_ret2
    rw [HV.out]
    exact ⟨rfl, B1.out⟩
/-- behind the plain call and its store -/
structure MidD (w1 w9 : World) (q : Nat) (u u8 fv : Value) (x' : Fs) : Prop where
  below : Below w1.heap.size w1 w9
  box : RefBox w9 q u8 x'.t.last fv x'.count x'.down
  nodes : Nodes w9.heap.size w9 u8 x'.t.L
  from_ : FromOr u w1.heap.size u8
/-- where the loop stands -/
structure Rn (w wr : World) (p0 pR : Nat) (n : Nat) (x : Fs) (u fv : Value) : Prop where
  box : RefBox wr p0 u x.t.last fv x.count x.down
  res : RefBox wr pR (.slice none 0 0) 0 (.slice none 0 0) 0 false
  nodes : Nodes wr.heap.size wr u x.t.L
  faults : Faults w.heap.size wr fv x.faults
  apart : Off (fun k => k = p0 ∨ k = pR) u
  within : Within x.t n
  cnt : 0 ≤ x.count ∧ x.count ≤ n
  below : Below w.heap.size w wr
  pnew : w.heap.size ≤ p0
  rnew : w.heap.size ≤ pR
  ne : p0 ≠ pR
section
variable {w wr w1 w9 : World} {p0 pR q n : Nat} {x x' : Fs} {u u8 fv : Value}
theorem Rn.on_ (h : Rn w wr p0 pR n x u fv) (hb : Below wr.heap.size wr w1) : Rn w w1 p0 pR n x u fv :=
  ⟨h.box.below hb, h.res.below hb, (h.nodes.below hb).more hb.size, h.faults.below (hb.mono h.below.size), h.apart, h.within, h.cnt, on h.below hb, h.pnew, h.rnew, h.ne⟩
theorem Rn.next (h : Rn w wr p0 pR n x u fv) (m : MidD wr w9 q u u8 fv x') (hk : Kept x.t x'.t) (hf : x'.faults = x.faults) (hc : x.count ≤ x'.count ∧ x'.count ≤ x.count + 1) : Rn w (store5 w9 p0 u8 x'.t.last fv x'.count x'.down) p0 pR (n + 1) x' u8 fv := by
  have h9 := h.on_ m.below
  have ht := store5_turns w9 p0 u8 x'.t.last fv x'.count x'.down
  have hbl : Below w.heap.size w9 (store5 w9 p0 u8 x'.t.last fv x'.count x'.down) := ht.below (fun k e => by have : k = p0 := e; have := h.pnew; omega) h9.below.size
  have hp := h.box.lt
  have hr := h.res.lt
  have hap : Off (fun k => k = p0 ∨ k = pR) u8 := off_from h.apart (fun k hk => by rcases hk with e | e <;> omega) m.from_
  have hne := h.ne
  exact {
    box := store5_box h9.box _ _ _ _ _
    res := h9.res.turns ht (fun e => hne (Eq.symm e))
    nodes := (nodes_turns m.nodes ht (fun b o n c e hk => hap b o n c e (Or.inl hk))).more ht.size
    faults := by rw [hf]; exact h9.faults.below hbl
    apart := hap
    within := h.within.next hk
    cnt := by have := h.cnt; omega
    below := h9.below.trans hbl
    pnew := h.pnew
    rnew := h.rnew
    ne := h.ne }
/-- what Run returns -/
def FsThree (w : World) (fv : Value) (R : Fs × Nat × Int) (e : Ending) (w' : World) : Prop := ∃ u, e = .returned (.tuple #[.agg #[u, .int .i64 R.1.t.last, fv, .int .i64 R.1.count, .bool R.1.down], .int .i64 (R.2.1 : Int), .int .i64 R.2.2]) ∧ Nodes w'.heap.size w' u R.1.t.L ∧ Below w.heap.size w w'
theorem Rn.ends (h : Rn w wr p0 pR n x u fv) {R : Fs × Nat × Int} {k : Nat} {e : Int} (hR : R = (x, k, e)) (a b c d f : Value) : FsThree w fv R (.returned (.tuple #[.agg #[u, .int .i64 x.t.last, fv, .int .i64 x.count, .bool x.down], .int .i64 (k : Int), .int .i64 e])) (((((wr.setCell ⟨pR, 0, none⟩ a).setCell ⟨pR, 1, none⟩ b).setCell ⟨pR, 2, none⟩ c).setCell ⟨pR, 3, none⟩ d).setCell ⟨pR, 4, none⟩ f) := by
  subst hR
  have ht : Turns (fun k => k = pR) wr (((((wr.setCell ⟨pR, 0, none⟩ a).setCell ⟨pR, 1, none⟩ b).setCell ⟨pR, 2, none⟩ c).setCell ⟨pR, 3, none⟩ d).setCell ⟨pR, 4, none⟩ f) :=
    ((((W10.turn1 _ _ _ _).trans (W10.turn1 _ _ _ _)).trans (W10.turn1 _ _ _ _)).trans (W10.turn1 _ _ _ _)).trans (W10.turn1 _ _ _ _)
  exact ⟨u, rfl, (nodes_turns h.nodes ht (fun b o n c e hk => h.apart b o n c e (Or.inr hk))).more ht.size, h.below.trans (ht.below (fun k e => by have : k = pR := e; have := h.rnew; omega) h.below.size)⟩
theorem mid_box {w8 : World} (hb : Below w1.heap.size w1 w8) {u0 fv0 : Value} {l0 c0 : Int} {d0 : Bool} (h : RefBox w8 q u0 l0 fv0 c0 d0) (hn : Nodes w8.heap.size w8 u8 x'.t.L) (ho : Off (fun k => k = q) u8) (hq : w1.heap.size ≤ q) (hf : FromOr u w1.heap.size u8) :
    MidD w1 (store5 w8 q u8 x'.t.last fv x'.count x'.down) q u u8 fv x' :=
  have ht := store5_turns w8 q u8 x'.t.last fv x'.count x'.down
  ⟨hb.trans (ht.below (fun k e => by have : k = q := e; omega) hb.size), store5_box h _ _ _ _ _, (nodes_turns hn ht ho).more ht.size, hf⟩
end
/-- FsErr, the FS written out -/
def FsOut (v fv : Value) (w : World) (R : Fs × Int) (e : Ending) (w' : World) : Prop := ∃ u, e = .returned (.tuple #[.agg #[u, .int .i64 R.1.t.last, fv, .int .i64 R.1.count, .bool R.1.down], .int .i64 R.2]) ∧ Nodes w'.heap.size w' u R.1.t.L ∧ Below w.heap.size w w' ∧ FromOr v w.heap.size u
theorem out_fs {v fv : Value} {w : World} {R : Fs × Int} {e : Ending} {w' : World} (h : FsErr v fv w R e w') : FsOut v fv w R e w' := h
theorem faults_drew {B : Nat} {w : World} {v : Value} {L : List Fl} (h : Faults B w v L) (n : Nat) : Faults B (w.drewN n) v L := ⟨h.recs, h.ats⟩
/-- the cells that the plain call's region reads -/
def Eight (w : World) (p b q : Nat) (y0 y1 y2 y3 y4 z0 z1 z2 : Value) : Prop := w.cell? ⟨p, 0, none⟩ = some y0 ∧ w.cell? ⟨p, 1, none⟩ = some y1 ∧ w.cell? ⟨p, 2, none⟩ = some y2 ∧ w.cell? ⟨p, 3, none⟩ = some y3 ∧ w.cell? ⟨p, 4, none⟩ = some y4 ∧ w.cell? ⟨b, q, none⟩ = some z0 ∧ w.cell? ⟨b, q + 1, none⟩ = some z1 ∧ w.cell? ⟨b, q + 2, none⟩ = some z2
theorem eight_turns {T : Nat → Prop} {w' w'' : World} {p b q : Nat} {y0 y1 y2 y3 y4 z0 z1 z2 : Value} (h : Eight w' p b q y0 y1 y2 y3 y4 z0 z1 z2) (t : Turns T w' w'') (hp : ¬ T p) (hb : ¬ T b) : Eight w'' p b q y0 y1 y2 y3 y4 z0 z1 z2 :=
  ⟨t.cell h.1 hp, t.cell h.2.1 hp, t.cell h.2.2.1 hp, t.cell h.2.2.2.1 hp, t.cell h.2.2.2.2.1 hp, t.cell h.2.2.2.2.2.1 hb, t.cell h.2.2.2.2.2.2.1 hb, t.cell h.2.2.2.2.2.2.2 hb⟩
theorem eight_on {w' w'' : World} {p b q : Nat} {y0 y1 y2 y3 y4 z0 z1 z2 : Value} (h : Eight w' p b q y0 y1 y2 y3 y4 z0 z1 z2) (hB : Below w'.heap.size w' w'') : Eight w'' p b q y0 y1 y2 y3 y4 z0 z1 z2 :=
  eight_turns h (Turns.new (T := fun _ => False) hB) id id
set_option maxHeartbeats 32000000 in
theorem refRun_any (x0 : Fs) (u fv : Value) (n : Nat) (hw : Within x0.t n) (w : World) (hn : Nodes w.heap.size w u x0.t.L) (hF : Faults w.heap.size w fv x0.faults) (hc : 0 ≤ x0.count ∧ x0.count ≤ n) (y : Value) (L : List Tk) (hL : Tasks w.heap.size w y L) (hm : n + L.length ≤ 1048576) (hs : Texts L) :
    Calls Tryz.prog 19 #[.agg #[u, .int .i64 x0.t.last, fv, .int .i64 x0.count, .bool x0.down], y] w (FsThree w fv (run x0 L)) := by
  obtain ⟨Au, cu, rfl, -, -⟩ := hn.form
  obtain ⟨Af, cf, rfl, hf1, hf2⟩ := hF.recs.form
  obtain ⟨A2, c2, rfl, hk1, hk2⟩ := hL.form
  unfold maxLen at hk2 hf2
  obtain ⟨W0, hW0⟩ : ∃ W0, (w.alloc (.cells #[.slice Au x0.t.L.length cu, .int .i64 x0.t.last, .slice Af x0.faults.length cf, .int .i64 x0.count, .bool x0.down] 49)).alloc (.cells #[.slice none 0 0, .int .i64 0, .slice none 0 0, .int .i64 0, .bool false] 49) = W0 := ⟨_, rfl⟩
  have hb0 : Below w.heap.size w W0 := by rw [← hW0]; exact ((Below.refl _ w).alloc (Nat.le_refl _) _).alloc (by rw [World.alloc_size]; omega) _
  have A0 : Hid (Rn w W0 w.heap.size (w.heap.size + 1) n x0 (.slice Au x0.t.L.length cu) (.slice Af x0.faults.length cf)) := by
    refine ⟨?_, ?_, (hn.below hb0).more hb0.size, hF.below hb0, off_nodes hn (right_full hw.right) (fun k hk => by rcases hk with e | e <;> omega), hw, hc, hb0, Nat.le_refl _, Nat.le_succ _, by omega⟩
    · rw [← hW0]; exact low_top _ _ _
    · rw [← hW0]; exact high_top _ _ _
  have HMY := Lib.hid (refMay_any _ L w.heap.size W0 (hL.below hb0) hb0.size hs)
  have HK := Lib.hid hL
  have HS := Lib.hid hs
  have HV := Lib.hid (@run_no x0 L)
  have HV2 := Lib.hid (@run_ok x0 L)
  have HEnd := Lib.hid (fun x (hd : Ran x0 L L.length x) => hd.all (by omega))
  have HStop := Lib.hid (fun k x z (hd : Ran x0 L k x) (hz : L[k]? = some z) => ran_stop hd hz)
  clear hn hL hs hw hb0 hF hc
  generalize run x0 L = V at *
  generalize runAll x0 L = R at *
  generalize may L = m at *
  generalize hq : L.length = q at *
  have HQ := Lib.hid hq
  clear hq
  by_cases h0 : m = 0
  · subst h0
    replace HV2 : Hid (V = R) := Lib.hid (HV2.out rfl)
    go_enter Tryz.func19, Tryz.ntmps19
    go_wp2_with fail
    clear hW0
    refine HMY.out.mono ?_
    rintro e w1 ⟨rfl, hb1⟩
    have A1 := Lib.hid (A0.out.on_ hb1)
    clear hb1 A0 HMY
    go_wp2_with fail
    go_loopw [8] (fun i wr => ∃ (k : Nat) (x : Fs) (u : Value), k ≤ q ∧ i = .int .i64 k ∧ x.faults.length = x0.faults.length ∧ Hid (Rn w wr w.heap.size (w.heap.size + 1) (n + k) x u (.slice Af x0.faults.length cf)) ∧ Hid (Ran x0 L k x)) (fun i _ => q - (intOf i).toNat)
    case atStart => exact ⟨0, _, _, Nat.zero_le _, rfl, rfl, A1, .start⟩
    case round =>
      clear A1
      obtain ⟨k, x, u, hk, rfl, hxf, hg, hd⟩ := hrel
      obtain ⟨Au, cu, rfl, hu1, hu2⟩ := hg.out.nodes.form
      by_cases hlt : k < q
      · obtain ⟨b, o, hl1, rfl, hbl, a0, a1, a2⟩ := Tasks.at_ (HK.out.below hg.out.below) hlt
        have hy : L[k]? = some L[k] := List.getElem?_eq_getElem hl1
        have HStop := Lib.hid (HStop.out k x _ hd.out hy)
        have HNext := Lib.hid (fun he => ran_next (f0 := x0) hd.out hy he)
        obtain ⟨xk, sp, st, hyy, e0, e1, e2, hps, hts⟩ := task_cells a0 a1 a2 (HS.out _ (List.getElem_mem hl1))
        rw [hyy] at HStop HNext
        clear hy hyy a0 a1 a2
        have hnn : n + k ≤ 1048576 := by omega
        have hbs := hg.out.below.size
        have hp1 := hg.out.res.lt
        have hcn := hg.out.cnt
        have ca : Eight wr w.heap.size b (o + k * 3) (.slice Au x.t.L.length cu) (.int .i64 x.t.last) (.slice Af x0.faults.length cf) (.int .i64 x.count) (.bool x.down) (.int .i64 xk) (.string sp) (.string st) := ⟨hg.out.box.c0, hg.out.box.c1, hg.out.box.c2, hg.out.box.c3, hg.out.box.c4, e0, e1, e2⟩
        obtain ⟨wA, hwA⟩ : ∃ wA : World, wr.alloc (.cells #[.slice none 0 0, .int .i64 0, .slice none 0 0, .int .i64 0, .bool false] 49) = wA := ⟨_, rfl⟩
        have hbA : Below wr.heap.size wr wA := by rw [← hwA]; exact (Below.refl _ _).alloc (Nat.le_refl _) _
        have hlt2 : wr.heap.size < wA.heap.size := by have : wA.heap.size = wr.heap.size + 1 := (by rw [← hwA]; exact World.size_alloc _ _); omega
        have TBA : RefBox wA wr.heap.size (.slice none 0 0) 0 (.slice none 0 0) 0 false := by rw [← hwA]; exact heap_top _ _
        have cA := eight_on ca hbA
        have HRD := Lib.hid (fun (w' : World) (u : Value) (hf : Fits x.t w' u) (fv : Value) (hL : Faults w'.heap.size w' fv x.faults) => (show Calls Tryz.prog 44 #[.agg #[u, .int .i64 x.t.last, fv, .int .i64 x.count, .bool x.down], .agg #[.int .i64 xk, .string sp, .string st]] w' (FsOut u fv w' (doFs ⟨x.t, x.faults, x.count, x.down⟩ xk sp.data.toList st.data.toList)) from (refDo10_any x.t u w' hf hg.out.within.right fv x.faults hL x.count hcn.1 (by omega) x.down xk sp st (by unfold maxLen; omega)).mono fun _ _ h => out_fs h))
        have hxe : (⟨x.t, x.faults, x.count, x.down⟩ : Fs) = x := rfl
        rw [hxe] at HRD
        have HKP := Lib.hid (kept_fs x xk sp.data.toList st.data.toList)
        have HFA := Lib.hid (faults_fs x xk sp.data.toList st.data.toList)
        have HCO := Lib.hid (count_fs x xk sp.data.toList st.data.toList)
        generalize doFs x xk sp.data.toList st.data.toList = Q at *
        obtain ⟨x', fe⟩ := Q
        have HKP : Hid (Kept x.t x'.t) := HKP.out
        have HFA : Hid (x'.faults = x.faults) := HFA.out
        have HCO : Hid (x.count ≤ x'.count ∧ x'.count ≤ x.count + 1) := HCO.out
        have HDA := Lib.hid (HRD.out (wA.drewN 1) _ (two_fits (w := wA.drewN 1) hg.out.within hnn ((hg.out.nodes.below hbA).more hbA.size)) (.slice Af x0.faults.length cf) (faults_drew ((hg.out.faults.below (hbA.mono hbs)).more (Nat.le_trans hbs hbA.size)) 1))
        have HDW := Lib.hid (HRD.out (wr.drewN 1) _ (two_fits (w := wr.drewN 1) hg.out.within hnn hg.out.nodes) (.slice Af x0.faults.length cf) (faults_drew (hg.out.faults.more hbs) 1))
        have hb0 : (0 : Int) ≤ (k : Int) := by omega
        have hb1 : (k : Int) < (q : Int) := by omega
        obtain ⟨c0, c1, c2', c3, c4, e0, e1, e2⟩ := ca
        obtain ⟨x0', x1, x2, x3, x4, y0, y1, y2⟩ := cA
        clear HRD hxe hcn hps hts
        go_wp2_with fail
        go_region_held3 (fun w' => w'.cell? ⟨w.heap.size, 0, none⟩ = some (.slice Au x.t.L.length cu) ∧ w'.cell? ⟨w.heap.size, 1, none⟩ = some (.int .i64 x.t.last) ∧ w'.cell? ⟨w.heap.size, 2, none⟩ = some (.slice Af x0.faults.length cf) ∧ w'.cell? ⟨w.heap.size, 3, none⟩ = some (.int .i64 x.count) ∧ w'.cell? ⟨w.heap.size, 4, none⟩ = some (.bool x.down) ∧ w'.cell? ⟨b, o + k * 3, none⟩ = some (.int .i64 xk) ∧ w'.cell? ⟨b, o + k * 3 + 1, none⟩ = some (.string sp) ∧ w'.cell? ⟨b, o + k * 3 + 2, none⟩ = some (.string st))
          (first | exact F5 | exact FN | exact F8 | exact ⟨x0', x1, x2, x3, x4, y0, y1, y2⟩ | exact ⟨c0, c1, c2', c3, c4, e0, e1, e2⟩ | go_keep)
          (first
            | (go_at_call 44; refine HDA.out.mono ?_; rintro e w8 ⟨u8, rfl, hn8, hb8, hf8⟩; obtain ⟨A8, c8, hue8, -, -⟩ := hn8.form; subst hue8; have hb8' : Below wA.heap.size wA w8 := (below_draws wA 1).trans hb8; have F8 := eight_on (w' := wA) (p := w.heap.size) (b := b) (q := o + k * 3) ⟨x0', x1, x2, x3, x4, y0, y1, y2⟩ hb8'; obtain ⟨pQ, hpQ⟩ : ∃ p, wr.heap.size = p := ⟨_, rfl⟩; have TBN : RefBox w8 pQ (.slice none 0 0) 0 (.slice none 0 0) 0 false := (by rw [← hpQ]; exact TBA.below hb8'); have m0 := TBN.c0; have n0 := TBN.fr 0; have m1 := TBN.c1; have n1 := TBN.fr 1; have m2 := TBN.c2; have n2 := TBN.fr 2; have m3 := TBN.c3; have n3 := TBN.fr 3; have m4 := TBN.c4; have n4 := TBN.fr 4; obtain ⟨w9, hw9⟩ : ∃ w', store5 w8 pQ (.slice A8 x'.t.L.length c8) x'.t.last (.slice Af x0.faults.length cf) x'.count x'.down = w' := ⟨_, rfl⟩; have F5 := eight_turns F8 (show Turns (fun i => i = pQ) w8 w9 by rw [← hw9]; exact store5_turns _ _ _ _ _ _ _) (by omega) (by omega); have MID := Lib.hid (show MidD wr w9 pQ (.slice Au x.t.L.length cu) (.slice A8 x'.t.L.length c8) (.slice Af x0.faults.length cf) x' by rw [← hw9]; exact mid_box (hbA.trans (hb8'.mono (by omega))) TBN hn8 (off_from (off_nodes hg.out.nodes (right_full hg.out.within.right) (fun k hk => by have : k = pQ := hk; omega)) (fun k hk => by have : k = pQ := hk; show k < wA.heap.size; omega) hf8) (by omega) (FromOr.low hf8 (by show _ ≤ wA.heap.size; omega))); unfold store5 at hw9)
            | (go_at_call 44; refine HDW.out.mono ?_; rintro e w8 ⟨u8, rfl, hn8, hb8, hf8⟩; obtain ⟨A8, c8, hue8, -, -⟩ := hn8.form; subst hue8; have hb8' : Below wr.heap.size wr w8 := (below_draws wr 1).trans hb8; have F8 := eight_on (w' := wr) (p := w.heap.size) (b := b) (q := o + k * 3) ⟨c0, c1, c2', c3, c4, e0, e1, e2⟩ hb8'; have hz8 := hb8'.size; obtain ⟨pQ, hpQ⟩ : ∃ p, w8.heap.size = p := ⟨_, rfl⟩; obtain ⟨wN, hwN⟩ : ∃ w', w8.alloc (.cells #[.slice none 0 0, .int .i64 0, .slice none 0 0, .int .i64 0, .bool false] 49) = w' := ⟨_, rfl⟩; have hbN : Below w8.heap.size w8 wN := (by rw [← hwN]; exact (Below.refl _ _).alloc (Nat.le_refl _) _); have TBN : RefBox wN pQ (.slice none 0 0) 0 (.slice none 0 0) 0 false := (by rw [← hpQ, ← hwN]; exact heap_top _ _); have FN := eight_on F8 hbN; have m0 := TBN.c0; have n0 := TBN.fr 0; have m1 := TBN.c1; have n1 := TBN.fr 1; have m2 := TBN.c2; have n2 := TBN.fr 2; have m3 := TBN.c3; have n3 := TBN.fr 3; have m4 := TBN.c4; have n4 := TBN.fr 4; obtain ⟨w9, hw9⟩ : ∃ w', store5 wN pQ (.slice A8 x'.t.L.length c8) x'.t.last (.slice Af x0.faults.length cf) x'.count x'.down = w' := ⟨_, rfl⟩; have F5 := eight_turns FN (show Turns (fun i => i = pQ) wN w9 by rw [← hw9]; exact store5_turns _ _ _ _ _ _ _) (by omega) (by omega); have MID := Lib.hid (show MidD wr w9 pQ (.slice Au x.t.L.length cu) (.slice A8 x'.t.L.length c8) (.slice Af x0.faults.length cf) x' by rw [← hw9]; exact mid_box (on hb8' hbN) TBN ((hn8.below hbN).more hbN.size) (off_nodes hn8 (right_full (HKP.out.right hg.out.within.right)) (fun k hk => by have : k = pQ := hk; omega)) (by omega) (FromOr.low hf8 (by show _ ≤ wr.heap.size; omega))); unfold store5 at hw9))
        all_goals (
          have m0 := MID.out.box.c0
          have m1 := MID.out.box.c1
          have m2 := MID.out.box.c2
          have m3 := MID.out.box.c3
          have m4 := MID.out.box.c4
          have G9 := hg.out.on_ MID.out.below
          have d0 := G9.box.c0
          have d1 := G9.box.c1
          have d2 := G9.box.c2
          have d3 := G9.box.c3
          have d4 := G9.box.c4
          have v0 := G9.box.fr 0
          have v1 := G9.box.fr 1
          have v2 := G9.box.fr 2
          have v3 := G9.box.fr 3
          have v4 := G9.box.fr 4
          have NX := hg.out.next MID.out HKP.out HFA.out HCO.out
          obtain ⟨w10, hw10⟩ : ∃ w', store5 w9 w.heap.size (.slice A8 x'.t.L.length c8) x'.t.last (.slice Af x0.faults.length cf) x'.count x'.down = w' := ⟨_, rfl⟩
          rw [hw10] at NX
          have NX := Lib.hid NX
          unfold store5 at hw10
          have r0 := NX.out.box.c0
          have r1 := NX.out.box.c1
          have r2 := NX.out.box.c2
          have r3 := NX.out.box.c3
          have r4 := NX.out.box.c4
          have s0 := NX.out.res.c0
          have s1 := NX.out.res.c1
          have s2 := NX.out.res.c2
          have s3 := NX.out.res.c3
          have s4 := NX.out.res.c4
          have q0 := NX.out.res.fr 0
          have q1 := NX.out.res.fr 1
          have q2 := NX.out.res.fr 2
          have q3 := NX.out.res.fr 3
          have q4 := NX.out.res.fr 4
          have hxl : x'.faults.length = x0.faults.length := by rw [HFA.out]; exact hxf
          clear F5 HDA HDW c0 c1 c2' c3 c4 e0 e1 e2 x0' x1 x2 x3 x4 y0 y1 y2 MID n0 n1 n2 n3 n4 hg G9
          by_cases hfe : fe = 0
          · subst hfe
            have HD2 := HNext.out rfl
            have HD2 := Lib.hid HD2
            clear HNext HStop
            go_wp2_with fail
            go_roundw
            case rel => exact ⟨k + 1, x', _, by omega, by go_num, hxl, NX, HD2⟩
            case measure => simp [intOf]; omega
          · have HR := Lib.hid (HV2.out.trans (HStop.out hfe))
            have tn : (fe != 0) = true := by simp [hfe]
            have HE := Lib.hid (NX.out.ends HR.out)
            clear HNext HStop hfe NX
            go_wp2_with fail
            refine bodyPost_ret_by (v := .tuple #[.agg #[.slice A8 x'.t.L.length c8, .int .i64 x'.t.last, .slice Af x0.faults.length cf, .int .i64 x'.count, .bool x'.down], .int .i64 k, .int .i64 fe]) ?_ rfl ?_
            · rw [results_cell_two rfl]
              go_simp
            · exact HE.out _ _ _ _ _)
      · have hkq : k = q := by omega
        subst hkq
        have HR := Lib.hid (HV2.out.trans (HEnd.out x hd.out))
        have r0 := hg.out.box.c0
        have r1 := hg.out.box.c1
        have r2 := hg.out.box.c2
        have r3 := hg.out.box.c3
        have r4 := hg.out.box.c4
        have s0 := hg.out.res.c0
        have s1 := hg.out.res.c1
        have s2 := hg.out.res.c2
        have s3 := hg.out.res.c3
        have s4 := hg.out.res.c4
        have q0 := hg.out.res.fr 0
        have q1 := hg.out.res.fr 1
        have q2 := hg.out.res.fr 2
        have q3 := hg.out.res.fr 3
        have q4 := hg.out.res.fr 4
        have HE := Lib.hid (hg.out.ends HR.out)
        go_wp2_with fail
        refine bodyPost_ret_by (v := .tuple #[.agg #[.slice Au x.t.L.length cu, .int .i64 x.t.last, .slice Af x0.faults.length cf, .int .i64 x.count, .bool x.down], .int .i64 k, .int .i64 0]) ?_ rfl ?_
        · rw [results_cell_two rfl]
          go_simp
        · exact HE.out _ _ _ _ _
  · have HV := Lib.hid (HV.out h0)
    have tn : (m != 0) = true := by simp [h0]
    clear h0
    go_enter Tryz.func19, Tryz.ntmps19
    go_wp2_with fail
    clear hW0
    refine HMY.out.mono ?_
    rintro e w1 ⟨rfl, hb1⟩
    have A1 := Lib.hid (A0.out.on_ hb1)
    have r0 := A1.out.box.c0
    have r1 := A1.out.box.c1
    have r2 := A1.out.box.c2
    have r3 := A1.out.box.c3
    have r4 := A1.out.box.c4
    have s0 := A1.out.res.c0
    have s1 := A1.out.res.c1
    have s2 := A1.out.res.c2
    have s3 := A1.out.res.c3
    have s4 := A1.out.res.c4
    have q0 := A1.out.res.fr 0
    have q1 := A1.out.res.fr 1
    have q2 := A1.out.res.fr 2
    have q3 := A1.out.res.fr 3
    have q4 := A1.out.res.fr 4
    have HE := Lib.hid (A1.out.ends HV.out)
    clear hb1 A0 HMY
    go_wp2_with fail
    refine bodyPost_ret_by (v := .tuple #[.agg #[.slice Au x0.t.L.length cu, .int .i64 x0.t.last, .slice Af x0.faults.length cf, .int .i64 x0.count, .bool x0.down], .int .i64 0, .int .i64 m]) ?_ rfl ?_
    · rw [results_cell_two rfl]
      go_simp
    · exact HE.out _ _ _ _ _
end Go.Proofs.YtmbpgjncioegdaaGreatDoor.W20
