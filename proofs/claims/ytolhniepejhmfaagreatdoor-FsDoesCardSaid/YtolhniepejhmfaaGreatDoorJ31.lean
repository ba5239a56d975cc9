/-
  Texts joined, in build order, each with its own comment and its own conditions: W10RefA, W10Lives, W10Applies, MapAsk.
-/
import Derived.Test.YtolhniepejhmfaaGreatDoorJ30
import Derived.Test.YtolhniepejhmfaaGreatDoorJ28
import Derived.Test.YtolhniepejhmfaaGreatDoorJ15
import Derived.Test.YtolhniepejhmfaaGreatDoorJ12
import Derived.Test.YtolhniepejhmfaaGreatDoorJ16
/-
  Layer 10 (fs), walks: the plain answer Apply: what it returns. New memory is laid, nothing that was there is changed. The conditions stand in the statements.
-/
namespace Go.Proofs.YtolhniepejhmfaaGreatDoor.W10
set_option maxRecDepth 100000
open Go Go.RowKit Go.Proofs.YtolhniepejhmfaaGreatDoor.Strs Go.Proofs.YtolhniepejhmfaaGreatDoor.Recs Go.Proofs.YtolhniepejhmfaaGreatDoor.Range
open Go.Proofs.YtolhniepejhmfaaGreatDoor.M07 (Tr Nd nodeAt Right)
open Go.Proofs.YtolhniepejhmfaaGreatDoor.M09 Go.Proofs.YtolhniepejhmfaaGreatDoor.M10
open Go.Proofs.YtolhniepejhmfaaGreatDoor.W07 (Small Trees Wrote Off heap_top Nodes TreeBox TreeErr FromOr set_heap nodes_turns off_from right_full turns_box)
open Go.Proofs.YtolhniepejhmfaaGreatDoor.W09 (Tk tkC tkC_len Tasks Within TaskBox Fits off_nodes FromOr.low five_on five_turns Mid mid_in two_fits refDo9_any)
open Go.Proofs.YtolhniepejhmfaaGreatDoor.Kit (ret_str ret_bool ret_int mk_of mk_bytes ba_ext below_draws on)

theorem task_stop {t0 t : Tr} {l : List Tk} {k : Nat} {y : Tk} (h : Done t0 l k t) (hy : l[k]? = some y) (he : (doTask t y.kind y.path y.text).2 ≠ 0) : applyAll t0 l = (t, k, (doTask t y.kind y.path y.text).2) := by
  obtain ⟨hk, rfl⟩ := List.getElem?_eq_some_iff.1 hy
  exact h.stop hk he
theorem task_next {t0 t : Tr} {l : List Tk} {k : Nat} {y : Tk} (h : Done t0 l k t) (hy : l[k]? = some y) (he : (doTask t y.kind y.path y.text).2 = 0) : Done t0 l (k + 1) (doTask t y.kind y.path y.text).1 := by
  obtain ⟨hk, rfl⟩ := List.getElem?_eq_some_iff.1 hy
  exact h.next hk he
theorem results_cell_two {fn : Func} {p t s : Tmp} {ty : TypeId} (h : fn.results = #[.cell p ty, .tmp t, .tmp s]) (tmps : Array Value) (P : Program) (w : World) :
    (results fn tmps).run P w = ((asAddr (tmps.getD p undef)).run P w).andThen fun a w₁ => ((loadVar ty a).run P w₁).andThen fun v w₂ => .ok (.tuple #[v, tmps.getD t undef, tmps.getD s undef]) w₂ := by
  simp only [results, h]
  simp [Sem.run_bind, Result.andThen]
theorem low_top (w : World) (o o' : Obj) : ((w.alloc o).alloc o').heap[w.heap.size]? = some o := by
  rw [Below.heap_alloc _ _ _ (by rw [World.alloc_size]; omega)]
  exact heap_top _ _
theorem high_top (w : World) (o o' : Obj) : ((w.alloc o).alloc o').heap[w.heap.size + 1]? = some o' := by
  have := heap_top (w.alloc o) o'
  rw [World.alloc_size] at this
  exact this
/-- where the loop stands -/
structure Ap10 (w wr : World) (p0 pR : Nat) (n : Nat) (t : Tr) (u : Value) : Prop where
  box : TreeBox wr p0 u t.last
  res : TreeBox wr pR (.slice none 0 0) 0
  nodes : Nodes wr.heap.size wr u t.L
  apart : Off (fun k => k = p0 ∨ k = pR) u
  within : Within t n
  below : Below w.heap.size w wr
  pnew : w.heap.size ≤ p0
  rnew : w.heap.size ≤ pR
  ne : p0 ≠ pR
theorem Ap10.mid {w wr w9 : World} {p0 pR pQ n : Nat} {t T' : Tr} {u u8 : Value} (g : Ap10 w wr p0 pR n t u) (m : Mid w wr w9 pQ u8 T' u) : Ap10 w w9 p0 pR n t u :=
  ⟨g.box.below m.below, g.res.below m.below, (g.nodes.below m.below).more m.below.size, g.apart, g.within, on g.below m.below, g.pnew, g.rnew, g.ne⟩
theorem Ap10.next {w wr w9 : World} {p0 pR pQ n : Nat} {t T' : Tr} {u u8 : Value} (g : Ap10 w wr p0 pR n t u) (m : Mid w wr w9 pQ u8 T' u) (k : Kept t T') : Ap10 w ((w9.setCell ⟨p0, 0, none⟩ u8).setCell ⟨p0, 1, none⟩ (.int .i64 T'.last)) p0 pR (n + 1) T' u8 := by
  have g9 := g.mid m
  have h0 := g.box.lt
  have h1 := g.res.lt
  have tp := turns_box w9 p0 u8 (.int .i64 T'.last)
  have hap : Off (fun k => k = p0 ∨ k = pR) u8 := off_from g.apart (fun k hk => by rcases hk with e | e <;> omega) m.from_
  have hne := g.ne
  exact {
    box := W07.box_stored2 g9.box
    res := g9.res.turns tp (fun e => hne (Eq.symm e))
    nodes := (nodes_turns m.nodes tp (fun b o n c e hk => hap b o n c e (Or.inl hk))).more tp.size
    apart := hap
    within := g.within.next k
    below := (g9.below.setCell g.pnew _).setCell g.pnew _
    pnew := g.pnew
    rnew := g.rnew
    ne := g.ne }
/-- what is returned -/
theorem Ap10.ends {w wr : World} {p0 pR n : Nat} {t : Tr} {u : Value} (g : Ap10 w wr p0 pR n t u) (a b : Value) : Nodes ((wr.setCell ⟨pR, 0, none⟩ a).setCell ⟨pR, 1, none⟩ b).heap.size ((wr.setCell ⟨pR, 0, none⟩ a).setCell ⟨pR, 1, none⟩ b) u t.L ∧ Below w.heap.size w ((wr.setCell ⟨pR, 0, none⟩ a).setCell ⟨pR, 1, none⟩ b) :=
  have tp := turns_box wr pR a b
  ⟨(nodes_turns g.nodes tp (fun b o n c e hk => g.apart b o n c e (Or.inr hk))).more tp.size, (g.below.setCell g.rnew _).setCell g.rnew _⟩
/-- what Apply returns -/
def TreeTwo (w : World) (R : Tr × Nat × Int) (e : Ending) (w' : World) : Prop := ∃ u, e = .returned (.tuple #[.agg #[u, .int .i64 R.1.last], .int .i64 (R.2.1 : Int), .int .i64 R.2.2]) ∧ Nodes w'.heap.size w' u R.1.L ∧ Below w.heap.size w w'
theorem two_is {w W : World} {R : Tr × Nat × Int} {t : Tr} {n : Nat} {e : Int} {u : Value} (hR : R = (t, n, e)) (h : Nodes W.heap.size W u t.L ∧ Below w.heap.size w W) : TreeTwo w R (.returned (.tuple #[.agg #[u, .int .i64 t.last], .int .i64 (n : Int), .int .i64 e])) W := by
  subst hR
  exact ⟨u, rfl, h.1, h.2⟩
set_option maxHeartbeats 16000000 in
theorem refApply10_any (T0 : Tr) (u : Value) (n : Nat) (hw : Within T0 n) (w : World) (hn : Nodes w.heap.size w u T0.L) (y : Value) (L : List Tk) (hL : Tasks w.heap.size w y L) (hm : n + L.length ≤ 1048576) (hs : ∀ x ∈ L, x.text.length ≤ 1048576) :
    Calls Tryz.prog 20 #[.agg #[u, .int .i64 T0.last], y] w (TreeTwo w (applyAll T0 L)) := by
  have A0 : Hid (Ap10 w ((w.alloc (.cells #[u, .int .i64 T0.last] 30)).alloc (.cells #[.slice none 0 0, .int .i64 0] 30)) w.heap.size (w.heap.size + 1) n T0 u) := by
    have hb : Below w.heap.size w ((w.alloc (.cells #[u, .int .i64 T0.last] 30)).alloc (.cells #[.slice none 0 0, .int .i64 0] 30)) := ((Below.refl _ w).alloc (Nat.le_refl _) _).alloc (by rw [World.alloc_size]; omega) _
    refine ⟨?_, ?_, (hn.below hb).more hb.size, off_nodes hn (right_full hw.right) (fun k hk => by rcases hk with e | e <;> omega), hw, hb, Nat.le_refl _, Nat.le_succ _, by omega⟩
    · exact low_top _ _ _
    · exact high_top _ _ _
  obtain ⟨Au, cu, rfl, -, -⟩ := hn.form
  obtain ⟨A2, c2, rfl, hk1, hk2⟩ := hL.form
  unfold maxLen at hk2
  have HK := Lib.hid hL
  have HS := Lib.hid hs
  have HEnd := Lib.hid (fun t (hd : Done T0 L L.length t) => hd.all (by omega))
  have HStop := Lib.hid (fun k t z (hd : Done T0 L k t) (hz : L[k]? = some z) => task_stop hd hz)
  clear hn hL hs hw
  generalize hR : applyAll T0 L = R at *
  generalize hq : L.length = q at *
  have HQ := Lib.hid hq
  clear hq hR
  go_enter Tryz.func20, Tryz.ntmps20
  go_wp2_with fail
  go_loopw [7] (fun i wr => ∃ (k : Nat) (t : Tr) (u : Value), k ≤ q ∧ i = .int .i64 k ∧ Hid (Ap10 w wr w.heap.size (w.heap.size + 1) (n + k) t u) ∧ Hid (Done T0 L k t)) (fun i _ => q - (intOf i).toNat)
  case atStart => exact ⟨0, _, _, Nat.zero_le _, rfl, A0, .start⟩
  case round =>
    clear A0
    obtain ⟨k, t, u, hk, rfl, hg, hd⟩ := hrel
    obtain ⟨Au, cu, rfl, hu1, hu2⟩ := hg.out.nodes.form
    by_cases hlt : k < q
    · obtain ⟨b, o, hl1, rfl, hbl, a0, a1, a2⟩ := Tasks.at_ (HK.out.below hg.out.below) hlt
      have hxd := HS.out _ (List.getElem_mem hl1)
      have hy : L[k]? = some L[k] := List.getElem?_eq_getElem hl1
      have HStop := Lib.hid (HStop.out k t _ hd.out hy)
      have HNext := Lib.hid (task_next (t0 := T0) hd.out hy)
      clear hy
      generalize L[k] = x at *
      obtain ⟨xk, xp, xt⟩ := x
      obtain ⟨sp, hsp⟩ : ∃ d : ByteArray, d.data.toList = xp := ⟨⟨xp.toArray⟩, rfl⟩
      obtain ⟨st, hst⟩ : ∃ d : ByteArray, d.data.toList = xt := ⟨⟨xt.toArray⟩, rfl⟩
      subst hsp hst
      have a0 : wr.cell? ⟨b, o + k * 3, none⟩ = some (.int .i64 xk) := a0
      have a1 : wr.cell? ⟨b, o + k * 3 + 1, none⟩ = some (.string sp) := by have := a1; rw [mk_bytes] at this; exact this
      have a2 : wr.cell? ⟨b, o + k * 3 + 2, none⟩ = some (.string st) := by have := a2; rw [mk_bytes] at this; exact this
      have hts : st.size ≤ 1048576 := by have := hxd; rw [← Lib.size_eq] at this; omega
      have hnn : n + k ≤ 1048576 := by omega
      have hbs := hg.out.below.size
      have hp1 := hg.out.res.lt
      have ca : wr.cell? ⟨w.heap.size, 0, none⟩ = some (.slice Au t.L.length cu) ∧ wr.cell? ⟨w.heap.size, 1, none⟩ = some (.int .i64 t.last) ∧ wr.cell? ⟨b, o + k * 3, none⟩ = some (.int .i64 xk) ∧ wr.cell? ⟨b, o + k * 3 + 1, none⟩ = some (.string sp) ∧ wr.cell? ⟨b, o + k * 3 + 2, none⟩ = some (.string st) := ⟨hg.out.box.c0, hg.out.box.c1, a0, a1, a2⟩
      obtain ⟨wA, hwA⟩ : ∃ wA : World, wr.alloc (.cells #[.slice none 0 0, .int .i64 0] 30) = wA := ⟨_, rfl⟩
      have hbA : Below wr.heap.size wr wA := by rw [← hwA]; exact (Below.refl _ _).alloc (Nat.le_refl _) _
      have hlt2 : wr.heap.size < wA.heap.size := by have : wA.heap.size = wr.heap.size + 1 := (by rw [← hwA]; exact World.size_alloc _ _); omega
      have TBA : TreeBox wA wr.heap.size (.slice none 0 0) 0 := by rw [← hwA]; exact heap_top _ _
      have cA := five_on ca hbA
      have HFA : Fits t (wA.drewN 1) (.slice Au t.L.length cu) := two_fits (w := wA.drewN 1) hg.out.within hnn ((hg.out.nodes.below hbA).more hbA.size)
      have HFW : Fits t (wr.drewN 1) (.slice Au t.L.length cu) := two_fits (w := wr.drewN 1) hg.out.within hnn hg.out.nodes
      have HDA := Lib.hid (refDo9_any t _ (wA.drewN 1) HFA hg.out.within.right xk sp st (by unfold maxLen; omega))
      have HDW := Lib.hid (refDo9_any t _ (wr.drewN 1) HFW hg.out.within.right xk sp st (by unfold maxLen; omega))
      have HKP := Lib.hid (kept_do t xk sp.data.toList st.data.toList)
      generalize doTask t xk sp.data.toList st.data.toList = Q at *
      obtain ⟨T', fe⟩ := Q
      have HKP : Hid (Kept t T') := HKP.out
      obtain ⟨c0, c1, e0, e1, e2⟩ := ca
      obtain ⟨x0, x1, y0, y1, y2⟩ := cA
      have hb0 : (0 : Int) ≤ (k : Int) := by omega
      have hb1 : (k : Int) < (q : Int) := by omega
      clear HFA HFW
      go_wp2_with fail
      go_region_held3 (fun w' => w'.cell? ⟨w.heap.size, 0, none⟩ = some (.slice Au t.L.length cu) ∧ w'.cell? ⟨w.heap.size, 1, none⟩ = some (.int .i64 t.last) ∧ w'.cell? ⟨b, o + k * 3, none⟩ = some (.int .i64 xk) ∧ w'.cell? ⟨b, o + k * 3 + 1, none⟩ = some (.string sp) ∧ w'.cell? ⟨b, o + k * 3 + 2, none⟩ = some (.string st))
        (first | exact F5 | exact FN | exact F8 | exact ⟨x0, x1, y0, y1, y2⟩ | exact ⟨c0, c1, e0, e1, e2⟩ | go_keep)
        (first
          | (go_at_call 28; refine HDA.out.mono ?_; rintro e w8 ⟨u8, rfl, hn8, hb8, hf8⟩; obtain ⟨A8, c8, hue8, -, -⟩ := hn8.form; subst hue8; have hb8' : Below wA.heap.size wA w8 := (below_draws wA 1).trans hb8; have F8 := five_on (w' := wA) (p := w.heap.size) (b := b) (q := o + k * 3) ⟨x0, x1, y0, y1, y2⟩ hb8'; obtain ⟨pQ, hpQ⟩ : ∃ p, wr.heap.size = p := ⟨_, rfl⟩; have TBN : TreeBox w8 pQ (.slice none 0 0) 0 := (by rw [← hpQ]; exact TBA.below hb8'); have m0 := TBN.c0; have m1 := TBN.c1; have v0 := TBN.fr 0; have v1 := TBN.fr 1; obtain ⟨w9, hw9⟩ : ∃ w', (w8.setCell ⟨pQ, 0, none⟩ (.slice A8 T'.L.length c8)).setCell ⟨pQ, 1, none⟩ (.int .i64 T'.last) = w' := ⟨_, rfl⟩; have F5 := five_turns F8 (show Turns (fun i => i = pQ) w8 w9 by rw [← hw9]; exact turns_box _ _ _ _) (by omega) (by omega); have MID := Lib.hid (show Mid w wr w9 pQ (.slice A8 T'.L.length c8) T' (.slice Au t.L.length cu) by rw [← hw9]; exact mid_in (hbA.trans (hb8'.mono (by omega))) TBN hn8 (right_full (HKP.out.right hg.out.within.right)) (by omega) (FromOr.low hf8 (by show _ ≤ wA.heap.size; omega))))
          | (go_at_call 28; refine HDW.out.mono ?_; rintro e w8 ⟨u8, rfl, hn8, hb8, hf8⟩; obtain ⟨A8, c8, hue8, -, -⟩ := hn8.form; subst hue8; have hb8' : Below wr.heap.size wr w8 := (below_draws wr 1).trans hb8; have F8 := five_on (w' := wr) (p := w.heap.size) (b := b) (q := o + k * 3) ⟨c0, c1, e0, e1, e2⟩ hb8'; have hz8 := hb8'.size; obtain ⟨pQ, hpQ⟩ : ∃ p, w8.heap.size = p := ⟨_, rfl⟩; obtain ⟨wN, hwN⟩ : ∃ w', w8.alloc (.cells #[.slice none 0 0, .int .i64 0] 30) = w' := ⟨_, rfl⟩; have hbN : Below w8.heap.size w8 wN := (by rw [← hwN]; exact (Below.refl _ _).alloc (Nat.le_refl _) _); have TBN : TreeBox wN pQ (.slice none 0 0) 0 := (by rw [← hpQ, ← hwN]; exact heap_top _ _); have FN := five_on F8 hbN; have m0 := TBN.c0; have m1 := TBN.c1; have v0 := TBN.fr 0; have v1 := TBN.fr 1; obtain ⟨w9, hw9⟩ : ∃ w', (wN.setCell ⟨pQ, 0, none⟩ (.slice A8 T'.L.length c8)).setCell ⟨pQ, 1, none⟩ (.int .i64 T'.last) = w' := ⟨_, rfl⟩; have F5 := five_turns FN (show Turns (fun i => i = pQ) wN w9 by rw [← hw9]; exact turns_box _ _ _ _) (by omega) (by omega); have MID := Lib.hid (show Mid w wr w9 pQ (.slice A8 T'.L.length c8) T' (.slice Au t.L.length cu) by rw [← hw9]; exact mid_in (on hb8' hbN) TBN ((hn8.below hbN).more hbN.size) (right_full (HKP.out.right hg.out.within.right)) (by omega) (FromOr.low hf8 (by show _ ≤ wr.heap.size; omega)))))
      all_goals (
        have n0 := MID.out.box.c0
        have n1 := MID.out.box.c1
        have G9 := Lib.hid (hg.out.mid MID.out)
        have r0 := G9.out.box.c0
        have r1 := G9.out.box.c1
        have z0 := G9.out.box.fr 0
        have z1 := G9.out.box.fr 1
        have s0 := G9.out.res.c0
        have s1 := G9.out.res.c1
        have q0 := G9.out.res.fr 0
        have q1 := G9.out.res.fr 1
        have NX := Lib.hid (hg.out.next MID.out HKP.out)
        clear F5 HDA HDW c0 c1 e0 e1 e2 x0 x1 y0 y1 y2 a0 a1 a2 m0 m1 v0 v1 hg MID
        by_cases hfe : fe = 0
        · subst hfe
          have HD2 := HNext.out rfl
          have HD2 := Lib.hid HD2
          clear HNext HStop
          go_wp2_with fail
          go_roundw
          case rel => exact ⟨k + 1, T', _, by omega, by go_num, NX, HD2⟩
          case measure => simp [intOf]; omega
        · have HR := HStop.out hfe
          have tn : (fe != 0) = true := by simp [hfe]
          have HE := Lib.hid (fun a b => G9.out.ends a b)
          clear HNext HStop hfe NX
          go_wp2_with fail
          refine bodyPost_ret_by (v := .tuple #[.agg #[.slice Au t.L.length cu, .int .i64 t.last], .int .i64 k, .int .i64 fe]) ?_ rfl ?_
          · rw [results_cell_two rfl]
            go_simp
          · exact two_is HR (HE.out _ _))
    · have hkq : k = q := by omega
      subst hkq
      have HR := Lib.hid (HEnd.out t hd.out)
      have r0 := hg.out.box.c0
      have r1 := hg.out.box.c1
      have s0 := hg.out.res.c0
      have s1 := hg.out.res.c1
      have q0 := hg.out.res.fr 0
      have q1 := hg.out.res.fr 1
      have HE := Lib.hid (fun a b => hg.out.ends a b)
      go_wp2_with fail
      refine bodyPost_ret_by (v := .tuple #[.agg #[.slice Au t.L.length cu, .int .i64 t.last], .int .i64 k, .int .i64 0]) ?_ rfl ?_
      · rw [results_cell_two rfl]
        go_simp
      · exact two_is HR.out (HE.out _ _)
end Go.Proofs.YtolhniepejhmfaaGreatDoor.W10
/-
  Layer 10 (fs), walks of the law's own functions over the contracts: lives returns true; short tells whether acts are few and short. New memory is laid, nothing that was there is changed. The conditions stand in the statements.
-/
namespace Go.Proofs.YtolhniepejhmfaaGreatDoor.W10
set_option maxRecDepth 100000
open Go Go.RowKit Go.Proofs.YtolhniepejhmfaaGreatDoor.Strs Go.Proofs.YtolhniepejhmfaaGreatDoor.Recs Go.Proofs.YtolhniepejhmfaaGreatDoor.Range
open Go.Proofs.YtolhniepejhmfaaGreatDoor.M07 (Tr nodeAt Right)
open Go.Proofs.YtolhniepejhmfaaGreatDoor.M08 Go.Proofs.YtolhniepejhmfaaGreatDoor.M09 Go.Proofs.YtolhniepejhmfaaGreatDoor.M10
open Go.Proofs.YtolhniepejhmfaaGreatDoor.W07 (Small Trees Wrote Off heap_top)
open Go.Proofs.YtolhniepejhmfaaGreatDoor.W09 (Tk tkC tkC_len Tasks Within TaskBox isShort9 short9_any)
open Go.Proofs.YtolhniepejhmfaaGreatDoor.Kit (ret_str ret_bool ret_int mk_of mk_bytes ba_ext below_draws on)

def oneT : Tr := ⟨[⟨1, 1, [], 1, []⟩, ⟨2, 1, [97], 1, []⟩], 2⟩
def acT : Tr := ⟨[⟨1, 1, [], 1, []⟩, ⟨2, 1, [97], 1, []⟩, ⟨3, 1, [99], 1, []⟩], 3⟩
theorem spot_one {t : Tr} (a : UInt8) (h1 : M08.spot t [a] = (1, [a], 0)) : doTask t 1 [a] [] = ((M07.put t 1 [a] 1 []).1, (M07.put t 1 [a] 1 []).2.2) := by
  unfold doTask putAt
  rw [if_pos rfl, h1, if_neg (fun e : (0 : Int) ≠ 0 => e rfl)]
theorem do_a : doTask M07.new 1 [97] [] = (oneT, 0) := by
  rw [spot_one 97 (by
    unfold M08.spot
    rw [if_neg (by decide), if_neg (by decide), if_neg (by decide)]
    have hp : M04.parts [97] = [[97]] := rfl
    simp only [hp, show ([[97]] : List (List UInt8)).dropLast = [] from rfl, go_nil]
    rfl)]
  rfl
theorem do_c : doTask oneT 1 [99] [] = (acT, 0) := by
  rw [spot_one 99 (by
    unfold M08.spot
    rw [if_neg (by decide), if_neg (by decide), if_neg (by decide)]
    have hp : M04.parts [99] = [[99]] := rfl
    simp only [hp, show ([[99]] : List (List UInt8)).dropLast = [] from rfl, go_nil]
    rfl)]
  rfl
theorem fs_a : doFs ⟨M07.new, [⟨2, 16⟩], 0, false⟩ 1 [97] [] = (⟨oneT, [⟨2, 16⟩], 1, false⟩, 0) := by
  unfold doFs
  rw [if_neg (by decide), if_neg (by decide), if_neg (by decide), do_a]
  rfl
theorem fs_b : doFs ⟨oneT, [⟨2, 16⟩], 1, false⟩ 1 [98] [] = (⟨oneT, [⟨2, 16⟩], 2, false⟩, 16) := by
  unfold doFs
  rw [if_neg (by decide), if_neg (by decide), if_pos (by decide)]
  rfl
theorem fs_c : doFs ⟨oneT, [⟨2, 16⟩], 2, false⟩ 1 [99] [] = (⟨acT, [⟨2, 16⟩], 3, false⟩, 0) := by
  unfold doFs
  rw [if_neg (by decide), if_neg (by decide), if_neg (by decide), do_c]
  rfl
theorem new_within : Within M07.new 61 := by
  have := W09.made_within (l := []) (by decide)
  exact this
theorem one_within : Within oneT 62 := by have := new_within.next (kept_do M07.new 1 [97] []); rw [do_a] at this; exact this
theorem ac_within : Within acT 63 := by have := one_within.next (kept_do oneT 1 [99] []); rw [do_c] at this; exact this
theorem one_fault (w : World) (t : TypeId) : Faults (w.alloc (.cells #[.int .i64 2, .int .i64 16] t)).heap.size (w.alloc (.cells #[.int .i64 2, .int .i64 16] t)) (.slice (some ⟨w.heap.size, 0, none⟩) 1 1) [⟨2, 16⟩] := by
  refine ⟨⟨_, 1, rfl, Nat.le_refl _, by decide, fun _ => ⟨_, rfl, by rw [World.size_alloc]; exact Nat.lt_succ_self _, fun k hk j hj => ?_⟩⟩, fun x hx => by rw [List.mem_singleton.1 hx]; decide⟩
  have hf := flat_at flC_len [⟨2, 16⟩] k hk j hj
  have hlt : j < (flC ([⟨2, 16⟩] : List Fl)[k]).length := by rw [flC_len]; exact hj
  rw [List.getElem?_eq_getElem hlt] at hf ⊢
  exact cells_new w (([⟨2, 16⟩] : List Fl).flatMap flC) t (k * 2 + j) _ hf
theorem one_task (w : World) (t : TypeId) (k : Int) (a b : Bytes) : Tasks (w.heap.size + 1) (w.alloc (.cells #[.int .i64 k, strV a, strV b] t)) (.slice (some ⟨w.heap.size, 0, none⟩) 1 1) [⟨k, a, b⟩] := by
  refine ⟨_, 1, rfl, Nat.le_refl _, by decide, fun _ => ⟨_, rfl, Nat.lt_succ_self _, fun i hi j hj => ?_⟩⟩
  have hf := flat_at tkC_len [⟨k, a, b⟩] i hi j hj
  have hlt : j < (tkC ([⟨k, a, b⟩] : List Tk)[i]).length := by rw [tkC_len]; exact hj
  rw [List.getElem?_eq_getElem hlt] at hf ⊢
  exact cells_new w (([⟨k, a, b⟩] : List Tk).flatMap tkC) t (i * 3 + j) _ hf
set_option maxHeartbeats 4000000 in
theorem lives10_over {Rep : Blocks → World → Value → Tr → Prop} {RepF : Blocks → World → Value → Fs → Prop} (T : Trees Rep) (C : Fss Rep RepF) (w : World) : Calls Tryz.prog 7 #[] w fun e w' => e = .returned (.bool true) ∧ Below w.heap.size w w' := by
  have HN := Lib.hid (C.newNil w)
  go_enter Tryz.func7, Tryz.ntmps7
  go_wp2_with fail
  refine HN.out.mono ?_
  rintro e w1 ⟨v, F1, rfl, h1, hF1, hb1⟩
  obtain ⟨ad, rfl⟩ := C.full h1
  have BA := Lib.hid (W07.below_one w1 (.cells #[.int .i64 2, .int .i64 16] 61))
  have LA := Lib.hid (one_fault w1 61)
  obtain ⟨wA, hwA⟩ : ∃ wA, w1.alloc (.cells #[.int .i64 2, .int .i64 16] 61) = wA := ⟨_, rfl⟩
  rw [hwA] at BA LA
  have P1 := Lib.hid (C.plan (C.below h1 BA.out) _ _ LA.out)
  have BB := Lib.hid (on hb1 BA.out)
  have HF1 := Lib.hid hF1
  clear h1 hF1 hb1 HN
  go_wp2_with fail
  clear hwA
  refine P1.out.mono ?_
  rintro e w2 ⟨rfl, F2, h2, t2, s2⟩
  have B2 : Hid (Below w.heap.size w w2) := BB.out.trans (t2.below HF1.out BB.out.size)
  have HF2 : Hid (∀ k, F2 k → w.heap.size ≤ k) := fun k hk => (s2 k hk).elim (HF1.out k) (fun e => Nat.le_trans BB.out.size e)
  have D1 := C.do_ h2 (new_within.good (by decide)) ⟨by decide, by decide⟩ 1 ⟨#[97]⟩ ⟨#[]⟩ (by decide) (by decide)
  rw [show doFs { (⟨M07.new, [], 0, false⟩ : Fs) with faults := [⟨2, 16⟩], count := 0 } 1 (⟨#[97]⟩ : ByteArray).data.toList (⟨#[]⟩ : ByteArray).data.toList = (⟨oneT, [⟨2, 16⟩], 1, false⟩, 0) from fs_a] at D1
  have D1 := Lib.hid D1
  clear h2 t2 s2 P1
  go_wp2_with fail
  refine D1.out.mono ?_
  rintro e w3 ⟨rfl, F3, h3, t3, s3⟩
  have B3 : Hid (Below w.heap.size w w3) := B2.out.trans (t3.below HF2.out B2.out.size)
  have HF3 : Hid (∀ k, F3 k → w.heap.size ≤ k) := fun k hk => (s3 k hk).elim (HF2.out k) (fun e => Nat.le_trans B2.out.size e)
  have D2 := C.do_ h3 (one_within.good (by decide)) ⟨by decide, by decide⟩ 1 ⟨#[98]⟩ ⟨#[]⟩ (by decide) (by decide)
  rw [show doFs (⟨oneT, [⟨2, 16⟩], 1, false⟩ : Fs) 1 (⟨#[98]⟩ : ByteArray).data.toList (⟨#[]⟩ : ByteArray).data.toList = (⟨oneT, [⟨2, 16⟩], 2, false⟩, 16) from fs_b] at D2
  have D2 := Lib.hid D2
  clear h3 t3 s3 D1
  go_wp2_with fail
  refine D2.out.mono ?_
  rintro e w4 ⟨rfl, F4, h4, t4, s4⟩
  have B4 : Hid (Below w.heap.size w w4) := B3.out.trans (t4.below HF3.out B3.out.size)
  have HF4 : Hid (∀ k, F4 k → w.heap.size ≤ k) := fun k hk => (s4 k hk).elim (HF3.out k) (fun e => Nat.le_trans B3.out.size e)
  have D3 := C.do_ h4 (one_within.good (by decide)) ⟨by decide, by decide⟩ 1 ⟨#[99]⟩ ⟨#[]⟩ (by decide) (by decide)
  rw [show doFs (⟨oneT, [⟨2, 16⟩], 2, false⟩ : Fs) 1 (⟨#[99]⟩ : ByteArray).data.toList (⟨#[]⟩ : ByteArray).data.toList = (⟨acT, [⟨2, 16⟩], 3, false⟩, 0) from fs_c] at D3
  have D3 := Lib.hid D3
  clear h4 t4 s4 D2
  go_wp2_with fail
  refine D3.out.mono ?_
  rintro e w5 ⟨rfl, F5, h5, t5, s5⟩
  have B5 : Hid (Below w.heap.size w w5) := B4.out.trans (t5.below HF4.out B4.out.size)
  have H5 := Lib.hid h5
  have HC := Lib.hid (C.count h5)
  clear h5 t5 s5 D3
  go_wp2_with fail
  refine HC.out.mono ?_
  rintro e w6 ⟨rfl, hb6⟩
  have B6 := Lib.hid (on B5.out hb6)
  have HT := Lib.hid (C.tree (C.below H5.out hb6))
  clear hb6 HC
  go_wp2_with fail
  refine HT.out.mono ?_
  rintro e w7 ⟨tv, Ft, rfl, h7, -, hb7⟩
  have B7 := Lib.hid (on B6.out hb7)
  have HL := Lib.hid (T.len h7 ((ac_within.good (by decide)).small))
  clear h7 hb7 HT
  go_wp2_with fail
  refine HL.out.mono ?_
  rintro e w8 ⟨rfl, hb8⟩
  have B8 := Lib.hid (on B7.out hb8)
  clear hb8
  go_wp2_with fail
  go_ret
  exact ⟨rfl, B8.out⟩
def okAc (x : Ac) : Bool := isShort9 [x.task] 1 && decide (x.faults.length ≤ 60)
def isShort10 (l : List Ac) : Bool := l.all okAc && decide (l.length ≤ 60)
def okTo10 (l : List Ac) (k : Nat) : Prop := ∀ x ∈ l.take k, okAc x = true
theorem ok10_next {l : List Ac} {k : Nat} (hk : k < l.length) (h : okTo10 l k) (h2 : okAc l[k] = true) : okTo10 l (k + 1) := by
  intro x hx
  rw [List.take_succ_eq_append_getElem hk] at hx
  rcases List.mem_append.1 hx with hx | hx
  · exact h x hx
  · rw [List.mem_singleton.1 hx]; exact h2
theorem ok10_end {l : List Ac} {k : Nat} (hk : ¬ k < l.length) (h : okTo10 l k) : isShort10 l = decide (l.length ≤ 60) := by
  unfold okTo10 at h
  rw [List.take_of_length_le (by omega)] at h
  unfold isShort10
  rw [List.all_eq_true.2 h, Bool.true_and]
theorem ok10_no {l : List Ac} {k : Nat} (hk : k < l.length) (h2 : okAc l[k] = false) : isShort10 l = false := by
  unfold isShort10
  rw [Bool.and_eq_false_iff]
  left
  rw [List.all_eq_false]
  exact ⟨l[k], List.getElem_mem hk, by rw [h2]; simp⟩
theorem short10_is {l : List Ac} (h : isShort10 l = true) : (∀ x ∈ l, x.task.path.length ≤ 2000 ∧ x.task.text.length ≤ 2000 ∧ x.faults.length ≤ 60) ∧ l.length ≤ 60 := by
  unfold isShort10 okAc at h
  simp only [Bool.and_eq_true, decide_eq_true_eq, List.all_eq_true] at h
  refine ⟨fun x hx => ?_, h.2⟩
  have h1 := (W09.short9_is (h.1 x hx).1).1 _ (List.mem_singleton.2 rfl)
  exact ⟨h1.1, h1.2, (h.1 x hx).2⟩
set_option maxHeartbeats 4000000 in
theorem short10_any (v : Value) (L : List Ac) (w : World) (h : Acts w.heap.size w v L) : Calls Tryz.prog 6 #[v] w fun e w' => e = .returned (.bool (isShort10 L)) ∧ Below w.heap.size w w' := by
  have H := Lib.hid h
  obtain ⟨A, c, rfl, hA1, hA2⟩ := h.recs.form
  unfold maxLen at hA2
  clear h
  generalize hm : L.length = m at *
  have HM := Lib.hid hm
  clear hm
  go_enter Tryz.func6, Tryz.ntmps6
  go_wp2_with fail
  go_loopw [3] (fun i wr => ∃ k : Nat, k ≤ m ∧ i = .int .i64 k ∧ Hid (okTo10 L k) ∧ Hid (Below w.heap.size w wr)) (fun i _ => m - (intOf i).toNat)
  case atStart => exact ⟨0, Nat.zero_le _, rfl, fun x hx => by simp at hx, Below.refl _ _⟩
  case round =>
    obtain ⟨k, hk, rfl, hr, hB⟩ := hrel
    by_cases hlt : k < m
    · obtain ⟨b, o, hl1, rfl, hbl, hc0, hc1, hc2, hc3, hc4⟩ := Acts.at_ (H.out.below hB.out) hlt
      have HF := (H.out.below hB.out).inner _ (List.getElem_mem hl1)
      have HOK : Hid (okAc L[k] = (isShort9 [L[k].task] 1 && decide (L[k].faults.length ≤ 60))) := rfl
      have HN := Lib.hid (ok10_next hl1 hr.out)
      have HX := Lib.hid (ok10_no hl1)
      have ht : L[k].task = ⟨L[k].task.kind, L[k].task.path, L[k].task.text⟩ := rfl
      have HT := one_task wr 39 L[k].task.kind L[k].task.path L[k].task.text
      rw [← ht] at HT
      generalize L[k].task.kind = xk at *
      unfold strV at HT
      generalize (⟨L[k].task.path.toArray⟩ : ByteArray) = sp at *
      generalize (⟨L[k].task.text.toArray⟩ : ByteArray) = st at *
      obtain ⟨fA, fc, hfv, -, -⟩ := HF.recs.form
      rw [hfv] at hc1
      clear HF hfv ht
      obtain ⟨w1, hw1⟩ : ∃ w1, wr.alloc (.cells #[.int .i64 xk, .string sp, .string st] 39) = w1 := ⟨_, rfl⟩
      have hs1 : w1.heap.size = wr.heap.size + 1 := by rw [← hw1]; exact World.size_alloc _ _
      have B1 : Hid (Below wr.heap.size wr w1) := by show Below _ _ _; rw [← hw1]; exact W07.below_one _ _
      have HS := Lib.hid (short9_any (.slice (some ⟨wr.heap.size, 0, none⟩) 1 1) [L[k].task] 1 (wr.heap.size + 1) w1 (by rw [← hw1]; exact HT))
      have BW := Lib.hid (on hB.out B1.out)
      have d0 := B1.out.cell (show (⟨b, o + k * 5 + 1, none⟩ : Addr).block < wr.heap.size by show b < _; have := hB.out.size; omega)
      rw [hc1] at d0
      clear HT
      generalize L[k].faults.length = fn at *
      cases hS9 : isShort9 [L[k].task] 1 with
      | true =>
        rw [hS9] at HS HOK
        by_cases hf : fn ≤ 60
        · have HN := Lib.hid (HN.out (by rw [HOK.out, decide_eq_true hf]; rfl))
          have t1 : decide ((60 : Int) < (fn : Int)) = false := decide_eq_false (by omega)
          clear hS9
          go_wp2_with fail
          refine HS.out.mono ?_
          rintro e w' ⟨rfl, hw⟩
          have hw := hw.symm
          subst hw
          clear hw1
          go_wp2_with fail
          go_roundw
          case rel => exact ⟨k + 1, by omega, by go_num, HN, BW⟩
          case measure => simp [intOf]; omega
        · have HX := Lib.hid (HX.out (by rw [HOK.out, decide_eq_false hf]; rfl))
          have t1 : decide ((60 : Int) < (fn : Int)) = true := decide_eq_true (by omega)
          clear hS9
          go_wp2_with fail
          refine HS.out.mono ?_
          rintro e w' ⟨rfl, hw⟩
          have hw := hw.symm
          subst hw
          clear hw1
          go_wp2_with fail
          go_ret
          exact ⟨ret_bool HX.out.symm, BW.out⟩
      | false =>
        rw [hS9] at HS HOK
        have HX := Lib.hid (HX.out (by rw [HOK.out]; rfl))
        clear hS9
        go_wp2_with fail
        refine HS.out.mono ?_
        rintro e w' ⟨rfl, hw⟩
        have hw := hw.symm
        subst hw
        clear hw1
        go_wp2_with fail
        go_ret
        exact ⟨ret_bool HX.out.symm, BW.out⟩
    · have HX := Lib.hid (ok10_end (by rw [HM.out]; exact hlt) hr.out)
      rw [HM.out] at HX
      go_wp2_with fail
      go_ret
      exact ⟨ret_bool (by rw [HX.out]; congr 1; simp; omega), hB.out⟩
end Go.Proofs.YtolhniepejhmfaaGreatDoor.W10
/-
  Layer 10 (fs), a walk of the law FsApplies over the contracts: it returns true, at every list of nodes and of tasks; nothing that was there is changed. The conditions stand in the statement.
-/
namespace Go.Proofs.YtolhniepejhmfaaGreatDoor.W10
set_option maxRecDepth 100000
open Go Go.RowKit Go.Proofs.YtolhniepejhmfaaGreatDoor.Strs Go.Proofs.YtolhniepejhmfaaGreatDoor.Recs Go.Proofs.YtolhniepejhmfaaGreatDoor.Range
open Go.Proofs.YtolhniepejhmfaaGreatDoor.M07 (Tr Nd nodeAt Right)
open Go.Proofs.YtolhniepejhmfaaGreatDoor.M09 Go.Proofs.YtolhniepejhmfaaGreatDoor.M10
open Go.Proofs.YtolhniepejhmfaaGreatDoor.W07 (Small Trees Wrote Off heap_top Nodes TreeBox TreeErr FromOr nodes_turns right_full same_tree)
open Go.Proofs.YtolhniepejhmfaaGreatDoor.W08 (Sn Snodes isFew few_is)
open Go.Proofs.YtolhniepejhmfaaGreatDoor.W09 (Tk tkC tkC_len Tasks Within TaskBox off_nodes isShort9 short9_any short9_is made_within)
open Go.Proofs.YtolhniepejhmfaaGreatDoor.Kit (ret_str ret_bool ret_int mk_of mk_bytes ba_ext below_draws on)

theorem applies_within {n : Nat} : ∀ (l : List Tk) {t : Tr}, Within t n → Within (applyAll t l).1 (n + l.length)
  | [], _, h => h
  | x :: l, t, h => by
    unfold applyAll
    split
    · exact h.more (by simp)
    · have : ∀ m, Within (doTask t x.kind x.path x.text).1 m → Within (applyAll (doTask t x.kind x.path x.text).1 l).1 (m + l.length) := fun m hm => applies_within l hm
      have := this (n + 1) (h.next (kept_do _ _ _ _))
      exact this.more (by rw [List.length_cons]; omega)
theorem off_tasks {F : Blocks} {B : Nat} {w : World} {v : Value} {L : List Tk} (h : Tasks B w v L) (h0 : 0 < L.length) (hF : ∀ k, F k → B ≤ k) : Off F v := by
  obtain ⟨A, c, rfl, -, -⟩ := h.form
  obtain ⟨b, o, _, rfl, hb, _⟩ := Tasks.at_ h h0
  intro b' o' n' c' e hk
  cases e
  have := hF _ hk
  omega
set_option maxHeartbeats 8000000 in
theorem fsApplies_over {Rep : (Nat → Prop) → World → Value → Tr → Prop} {RepF : Blocks → World → Value → Fs → Prop} (C : Trees Rep) (X : Applies Rep) (Z : Fss Rep RepF) (w : World) (v y : Value) (L : List Sn) (h : Snodes w.heap.size w v L) (K : List Tk) (hK : Tasks w.heap.size w y K) :
    Calls Tryz.prog 4 #[v, y] w fun e w' => e = .returned (.bool true) ∧ Below w.heap.size w w' := by
  have HFW := Lib.hid (W08.few_any v L w.heap.size w h)
  have HSW := Lib.hid (short9_any y K 60 w.heap.size w hK)
  have HL := Lib.hid (fun w' => lives10_over C Z w')
  have HH := Lib.hid h
  have HK := Lib.hid hK
  obtain ⟨A, c, rfl, -, -⟩ := h.form
  obtain ⟨A2, c2, rfl, hk1, hk2⟩ := hK.form
  unfold maxLen at hk2
  clear h hK
  generalize hm : L.length = m at *
  cases hf : isFew L with
  | false =>
    rw [hf] at HFW
    clear hf hm
    go_enter Tryz.func4, Tryz.ntmps4
    go_wp2_with fail
    refine HFW.out.mono ?_
    rintro e w1 ⟨rfl, hw⟩
    have hw := hw.symm
    subst hw
    go_wp2_with fail
    refine (HL.out _).mono ?_
    rintro e w2 ⟨rfl, hb⟩
    go_wp2_with fail
    go_ret
    exact ⟨rfl, hb⟩
  | true =>
    rw [hf] at HFW
    obtain ⟨hd, hl⟩ := few_is hf
    cases hs : isShort9 K 60 with
    | false =>
      rw [hs] at HSW
      clear hf hm hs hd hl
      go_enter Tryz.func4, Tryz.ntmps4
      go_wp2_with fail
      refine HFW.out.mono ?_
      rintro e w1 ⟨rfl, hw⟩
      have hw := hw.symm
      subst hw
      go_wp2_with fail
      refine HSW.out.mono ?_
      rintro e w1 ⟨rfl, hw⟩
      have hw := hw.symm
      subst hw
      go_wp2_with fail
      refine (HL.out _).mono ?_
      rintro e w2 ⟨rfl, hb⟩
      go_wp2_with fail
      go_ret
      exact ⟨rfl, hb⟩
    | true =>
      rw [hs] at HSW
      obtain ⟨hsd, hsl⟩ := short9_is hs
      have HSD := Lib.hid hsd
      have HM := W08.made_over3 C w (.slice A m c) L HH.out hl hd
      have HWI := Lib.hid (made_within hl)
      generalize (W08.made L).1 = T0 at *
      have HM := Lib.hid HM
      have HW1 := Lib.hid (applies_within K HWI.out)
      have HX := Lib.hid X
      clear hf hm hs hd hl hsd
      have hq61 : 61 + K.length ≤ 1048576 := by omega
      have hKL := Lib.hid hq61
      have HAP := Lib.hid (fun (F0 : Blocks) (w3 : World) (pv : Value) (hr : Rep F0 w3 pv T0) (hT : Tasks w3.heap.size w3 (.slice A2 K.length c2) K) (ho : 0 < K.length → Off F0 (.slice A2 K.length c2)) => X.apply hr 61 HWI.out _ K hT ho hq61 (fun x hx => ⟨by have := (HSD.out x hx).1; omega, by have := (HSD.out x hx).2; omega⟩))
      have HRA := Lib.hid (fun (w4 : World) (u : Value) (hn : Nodes w4.heap.size w4 u T0.L) (hT : Tasks w4.heap.size w4 (.slice A2 K.length c2) K) => refApply10_any T0 u 61 HWI.out w4 hn _ K hT hq61 (fun x hx => by have := (HSD.out x hx).2; omega))
      generalize applyAll T0 K = R at *
      obtain ⟨T1, cnt, er⟩ := R
      clear hq61 hsl hk1
      generalize hq : K.length = q at *
      go_enter Tryz.func4, Tryz.ntmps4
      go_wp2_with fail
      refine HFW.out.mono ?_
      rintro e w1 ⟨rfl, hw⟩
      have hw := hw.symm
      subst hw
      go_wp2_with fail
      refine HSW.out.mono ?_
      rintro e w1 ⟨rfl, hw⟩
      have hw := hw.symm
      subst hw
      go_wp2_with fail
      refine HM.out.mono ?_
      rintro e w2 ⟨pv, u, F0, rfl, hrep, hn, hF0, hb, hcl⟩
      obtain ⟨Au, cu, rfl, -, -⟩ := hn.form
      obtain ⟨p0, hp0⟩ : ∃ p, w2.heap.size = p := ⟨_, rfl⟩
      obtain ⟨w3, hw3⟩ : ∃ w3, w2.alloc (.cells #[.slice Au T0.L.length cu, .int .i64 T0.last] 30) = w3 := ⟨_, rfl⟩
      have ha : Below w2.heap.size w2 w3 := by rw [← hw3]; exact (Below.refl _ _).alloc (Nat.le_refl _) _
      have B3 := Lib.hid (on hb ha)
      have BX3 : Hid (TreeBox w3 p0 (.slice Au T0.L.length cu) T0.last) := by show TreeBox _ _ _ _; rw [← hp0, ← hw3]; exact heap_top _ _
      have R3 := Lib.hid (C.below hrep ha)
      have N3 := Lib.hid ((hn.below ha).more ha.size)
      have LO3 : Hid (¬ F0 p0) := Lib.hid (fun hk => by have := C.low hrep _ hk; omega)
      have F3 := Lib.hid hF0
      have CL := Lib.hid hcl
      have K3 := HK.out.below B3.out
      have TO3 : 0 < q → Off F0 (.slice A2 q c2) := fun h0 => off_tasks HK.out (by omega) hF0
      have HA3 := Lib.hid (HAP.out F0 w3 pv R3.out (K3.more B3.out.size) TO3)
      clear hrep hn hF0 hb hcl ha HAP HM HFW HSW K3 TO3
      go_wp2_with fail
      clear hw3 hp0
      refine HA3.out.mono ?_
      rintro e w4 ⟨rfl, F4, h4, t4, s4⟩
      have N4 := (nodes_turns N3.out t4 CL.out).more t4.size
      have b4 := BX3.out.turns t4 LO3.out
      have B4 : Hid (Below w.heap.size w w4) := B3.out.trans (t4.below F3.out B3.out.size)
      have HR4 := Lib.hid (HRA.out w4 _ N4 ((HK.out.below B4.out).more B4.out.size))
      have P4 := Lib.hid h4
      have x0 := b4.c0
      have x1 := b4.c1
      clear N4 b4 h4 t4 s4 HA3 HRA
      go_wp2_with fail
      refine HR4.out.mono ?_
      rintro e w5 ⟨u5, rfl, hn5, hb5⟩
      obtain ⟨A5, c5, rfl, -, -⟩ := hn5.form
      obtain ⟨p5, hp5⟩ : ∃ p, w5.heap.size = p := ⟨_, rfl⟩
      obtain ⟨w6, hw6⟩ : ∃ w6, w5.alloc (.cells #[.slice A5 T1.L.length c5, .int .i64 T1.last] 30) = w6 := ⟨_, rfl⟩
      have h6 : Below w5.heap.size w5 w6 := by rw [← hw6]; exact (Below.refl _ _).alloc (Nat.le_refl _) _
      have BX6 : Hid (TreeBox w6 p5 (.slice A5 T1.L.length c5) T1.last) := by show TreeBox _ _ _ _; rw [← hp5, ← hw6]; exact heap_top _ _
      have P6 := Lib.hid (C.below (C.below P4.out hb5) h6)
      have N6 := Lib.hid ((hn5.below h6).more h6.size)
      have B6 := Lib.hid (on (on B4.out hb5) h6)
      have HN6 := Lib.hid (HX.out.applyNil w6 (.slice A2 q c2) ⟨_, _, _, rfl⟩)
      clear hn5 hb5 h6 HR4 x0 x1
      go_wp2_with fail
      clear hw6 hp5
      refine HN6.out.mono ?_
      rintro e w7 ⟨rfl, hb7⟩
      have b7 := BX6.out.below hb7
      have z0 := b7.c0
      have z1 := b7.c1
      have B7 := Lib.hid (on B6.out hb7)
      have HS7 := Lib.hid (same_tree C w7 (C.below P6.out hb7) ((HW1.out.good (by have := hKL.out; omega)).small) _ ((N6.out.below hb7).more hb7.size))
      clear b7 hb7 HN6
      go_wp2_with fail
      refine HS7.out.mono ?_
      rintro e w8 ⟨rfl, hb8⟩
      have B8 := Lib.hid (on B7.out hb8)
      clear hb8
      go_wp2_with fail
      refine (HL.out _).mono ?_
      rintro e w9 ⟨rfl, hb9⟩
      have B9 := Lib.hid (on B8.out hb9)
      clear hb9
      go_wp2_with fail
      go_ret
      exact ⟨rfl, B9.out⟩
end Go.Proofs.YtolhniepejhmfaaGreatDoor.W10
/-
  Maps keyed by int, asked with 'v, ok := m[k]', at whatever number; nil ones too; for every program. Plain lemmas on worlds; no condition but those that each theorem bears.
-/
namespace Go.Proofs.YtolhniepejhmfaaGreatDoor.Maps
open Go Go.RowKit Go.Maps Go.ChangeMaps Go.MapKept
open Go.WideElems (Fit rd rg pl rd_key rd_val rg_of)

section
variable {P : Program} {k t e : TypeId} {w : World} {b m : Nat} {f : Int → Option Value}
theorem MapIs.ask (h : MapIs w P k b f m) (hk : P.underlying k = some (.int .i64)) (ht : P.underlying t = some (.map k e)) {z : Value} (hz : (zeroValue e).run P w = .ok z w) (n : Int) :
    (Instr.lookup t (.map (some b)) (.int .i64 n) true).run P w = .ok (.tuple #[(f n).getD z, .bool (f n).isSome]) w := by
  obtain ⟨l, ⟨es, clock, hb, F, hs, hD⟩, hl, hf⟩ := h
  injection hD with hD
  have hmem : ∀ x ∈ es.toList, ∃ j, x.key = .int .i64 j ∧ rg P k hold x = (Lit.int .i64 j, DataW.held x.val) := fun x hx => by
    obtain ⟨y, hy⟩ := F.reads x hx
    obtain ⟨j, e1, e2, hw⟩ := Maps.keyOf_int_inv hk (rd_key hy)
    obtain ⟨q, hq, e3⟩ := rd_val hy
    unfold hold at hq
    cases hq
    exact ⟨j, e1, (rg_of hy).trans (Prod.ext e2 e3)⟩
  have hc := run_checkKey (P := P) (w := w) (k := .int .i64 n) hk rfl
  rcases findNow_spec (d := .int .i64) (k := .int .i64 n) rfl es.toList 0 (fun x hx => by obtain ⟨j, e1, -⟩ := hmem x hx; rw [e1]; rfl) with ⟨h1, h2⟩ | ⟨j, e0, h1, h2, h3⟩
  · have h0 : f n = none := by
      cases hv : f n with
      | none => rfl
      | some v =>
        have := (hf n v).1 hv
        rw [hD] at this
        obtain ⟨x, hx, e⟩ := List.mem_map.1 (mem_sorted.1 this)
        obtain ⟨j, e1, e2⟩ := hmem x hx
        rw [e2] at e
        cases e
        exact absurd e1 (h2 x hx)
    rw [h0]
    simp [Instr.lookup, run_underlying ht, MapKept.run_getObj_map hb, hc, run_findKey hk h1, hz, Result.andThen]
  · have hm0 : e0 ∈ es.toList := List.mem_of_getElem? h2
    have h0 : f n = some e0.val := by
      obtain ⟨j', e1, e2⟩ := hmem e0 hm0
      rw [h3] at e1
      cases e1
      rw [hf, hD]
      exact mem_sorted.2 (List.mem_map.2 ⟨e0, hm0, e2⟩)
    rw [h0]
    simp [Instr.lookup, run_underlying ht, MapKept.run_getObj_map hb, hc, run_findKey hk h1, Result.andThen]
theorem nil_ask (hk : P.underlying k = some (.int .i64)) (ht : P.underlying t = some (.map k e)) {z : Value} (hz : (zeroValue e).run P w = .ok z w) (n : Int) :
    (Instr.lookup t (.map none) (.int .i64 n) true).run P w = .ok (.tuple #[z, .bool false]) w := by
  have hc := run_checkKey (P := P) (w := w) (k := .int .i64 n) hk rfl
  rcases findNow_spec (d := .int .i64) (k := .int .i64 n) rfl [] 0 (fun x hx => by cases hx) with ⟨h1, -⟩ | ⟨j, e0, -, h2, -⟩
  · simp [Instr.lookup, run_underlying ht, hc, run_findKey hk h1, hz, Result.andThen]
  · simp at h2
end
end Go.Proofs.YtolhniepejhmfaaGreatDoor.Maps
