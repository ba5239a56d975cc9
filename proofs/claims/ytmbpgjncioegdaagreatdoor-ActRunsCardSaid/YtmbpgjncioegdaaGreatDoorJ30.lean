/-
  Texts joined, in build order, each with its own comment and its own conditions: W20LawR, W20LawsR.
-/
import Derived.Test.YtmbpgjncioegdaaGreatDoorJ23
import Derived.Test.YtmbpgjncioegdaaGreatDoorJ28
import Derived.Test.YtmbpgjncioegdaaGreatDoorJ29
import Derived.Test.YtmbpgjncioegdaaGreatDoorJ10
import Derived.Test.YtmbpgjncioegdaaGreatDoorJ24
/-
  Layer 20 (act), a walk of the law ActRuns over the contracts: it returns true, at every list of nodes, of tasks and of faults; nothing that was there is changed. The conditions stand in the statement.
-/
namespace Go.Proofs.YtmbpgjncioegdaaGreatDoor.W20
set_option maxRecDepth 100000
open Go Go.RowKit Go.Proofs.YtmbpgjncioegdaaGreatDoor.Strs Go.Proofs.YtmbpgjncioegdaaGreatDoor.Recs Go.Proofs.YtmbpgjncioegdaaGreatDoor.Range
open Go.Proofs.YtmbpgjncioegdaaGreatDoor.M07 (Tr Nd nodeAt Right)
open Go.Proofs.YtmbpgjncioegdaaGreatDoor.M09 Go.Proofs.YtmbpgjncioegdaaGreatDoor.M10 Go.Proofs.YtmbpgjncioegdaaGreatDoor.M20
open Go.Proofs.YtmbpgjncioegdaaGreatDoor.W07 (Small Trees Wrote Off heap_top Nodes TreeBox set_heap nodes_turns right_full same_tree turns_box off_same)
open Go.Proofs.YtmbpgjncioegdaaGreatDoor.W08 (Sn Snodes isFew few_is)
open Go.Proofs.YtmbpgjncioegdaaGreatDoor.W09 (Tk tkC tkC_len Tasks Within isShort9 short9_any short9_is made_within off_nodes)
open Go.Proofs.YtmbpgjncioegdaaGreatDoor.W10 (Applies Fss Faults Turned)
open Go.Proofs.YtmbpgjncioegdaaGreatDoor.Kit (ret_str ret_bool ret_int mk_of mk_bytes ba_ext below_draws on)

/-- the cells that the last region reads -/
theorem runs_keep {W w' w'' : World} {p : Nat} {y0 y1 y2 y3 : Value} (hp : p < W.heap.size) (h : w'.cell? ⟨p, 0, none⟩ = some y0 ∧ w'.cell? ⟨p, 1, none⟩ = some y1 ∧ w'.cell? ⟨p, 3, none⟩ = some y2 ∧ w'.cell? ⟨p, 4, none⟩ = some y3 ∧ Below W.heap.size W w') (hb : Below w'.heap.size w' w'') : w''.cell? ⟨p, 0, none⟩ = some y0 ∧ w''.cell? ⟨p, 1, none⟩ = some y1 ∧ w''.cell? ⟨p, 3, none⟩ = some y2 ∧ w''.cell? ⟨p, 4, none⟩ = some y3 ∧ Below W.heap.size W w'' := by
  have hs := h.2.2.2.2.size
  exact ⟨(hb.cell (by show p < _; omega)).trans h.1, (hb.cell (by show p < _; omega)).trans h.2.1, (hb.cell (by show p < _; omega)).trans h.2.2.1, (hb.cell (by show p < _; omega)).trans h.2.2.2.1, on h.2.2.2.2 hb⟩
theorem runs_of {W w' : World} {p : Nat} {y0 y1 y2 y3 : Value} (h : w'.cell? ⟨p, 0, none⟩ = some y0 ∧ w'.cell? ⟨p, 1, none⟩ = some y1 ∧ w'.cell? ⟨p, 3, none⟩ = some y2 ∧ w'.cell? ⟨p, 4, none⟩ = some y3 ∧ Below W.heap.size W w') : Below W.heap.size W w' := h.2.2.2.2
set_option maxHeartbeats 16000000 in
theorem actRuns_over {Rep : Blocks → World → Value → Tr → Prop} {RepF : Blocks → World → Value → Fs → Prop} (C : Trees Rep) (X : Applies Rep) (E : Fss Rep RepF) (hfull : ∀ {F w v t}, Rep F w v t → ∃ a, v = .pointer (some a)) (w : World) (v y z : Value) (L : List Sn) (h : Snodes w.heap.size w v L) (K : List Tk) (hK : Tasks w.heap.size w y K) (Z : List Fl) (hZ : Faults w.heap.size w z Z) :
    Calls Tryz.prog 4 #[v, y, z] w fun e w' => e = .returned (.bool true) ∧ Below w.heap.size w w' := by
  have HFW := Lib.hid (W08.few_any v L w.heap.size w h)
  have HSW := Lib.hid (short9_any y K 60 w.heap.size w hK)
  have HL := Lib.hid (fun w' => lives_over C X hfull w')
  have HH := Lib.hid h
  have HK := Lib.hid hK
  have HZ := Lib.hid hZ
  obtain ⟨A, c, rfl, -, -⟩ := h.form
  obtain ⟨A2, c2, rfl, hk1, hk2⟩ := hK.form
  obtain ⟨A3, c3, rfl, hz1, hz2⟩ := hZ.recs.form
  unfold maxLen at hk2 hz2
  clear h hK hZ
  generalize hm : L.length = m at *
  cases hf : isFew L with
  | false =>
    rw [hf] at HFW
    clear hf hm
    go_enter Tryz.func4, Tryz.ntmps4
    go_wp2_with fail
    refine HFW.out.mono ?_
    rintro e w1 ⟨rfl, hw⟩
    have hw := hw.symm
    subst hw
    go_wp2_with fail
    refine (HL.out _).mono ?_
    rintro e w2 ⟨rfl, hb⟩
    go_wp2_with fail
    go_ret
    exact ⟨rfl, hb⟩
  | true =>
    rw [hf] at HFW
    obtain ⟨hd, hl⟩ := few_is hf
    cases hs : isShort9 K 60 with
    | false =>
      rw [hs] at HSW
      clear hf hm hs hd hl
      go_enter Tryz.func4, Tryz.ntmps4
      go_wp2_with fail
      refine HFW.out.mono ?_
      rintro e w1 ⟨rfl, hw⟩
      have hw := hw.symm
      subst hw
      go_wp2_with fail
      refine HSW.out.mono ?_
      rintro e w1 ⟨rfl, hw⟩
      have hw := hw.symm
      subst hw
      go_wp2_with fail
      refine (HL.out _).mono ?_
      rintro e w2 ⟨rfl, hb⟩
      go_wp2_with fail
      go_ret
      exact ⟨rfl, hb⟩
    | true =>
      rw [hs] at HSW
      obtain ⟨hsd, hsl⟩ := short9_is hs
      by_cases hzl : 60 < Z.length
      · have tz : decide ((60 : Int) < (Z.length : Int)) = true := decide_eq_true (by omega)
        clear hf hm hs hd hl hsd hsl
        go_enter Tryz.func4, Tryz.ntmps4
        go_wp2_with fail
        refine HFW.out.mono ?_
        rintro e w1 ⟨rfl, hw⟩
        have hw := hw.symm
        subst hw
        go_wp2_with fail
        refine HSW.out.mono ?_
        rintro e w1 ⟨rfl, hw⟩
        have hw := hw.symm
        subst hw
        go_wp2_with fail
        refine (HL.out _).mono ?_
        rintro e w2 ⟨rfl, hb⟩
        go_wp2_with fail
        go_ret
        exact ⟨rfl, hb⟩
      have tz : decide ((60 : Int) < (Z.length : Int)) = false := decide_eq_false (by omega)
      have HTX := Lib.hid (texts_of hsd)
      have HM := W08.made_over3 C w (.slice A m c) L HH.out hl hd
      have HWI := Lib.hid (made_within hl)
      generalize (W08.made L).1 = T0 at *
      have HM := Lib.hid HM
      clear hf hm hs hd hl hsd
      have hq61 : 61 + K.length ≤ 1048576 := by omega
      have HWR := Lib.hid (in_run (l := K) (f := ⟨T0, Z, 0, false⟩) HWI.out)
      have HRN := Lib.hid (fun (w3 : World) (F0 : Blocks) (pv : Value) (hr : RepF F0 w3 pv ⟨T0, Z, 0, false⟩) (hb : Below w.heap.size w w3) (hF : ∀ k, F0 k → w.heap.size ≤ k) => run_any E hr 61 HWI.out ((HK.out.below hb).more hb.size) (fun h0 => off_new HK.out h0 hF) hq61 HTX.out ⟨Int.le_refl _, by show (0 : Int) + _ ≤ _; omega⟩)
      have HRR := Lib.hid (fun (w3 : World) (u : Value) (hn : Nodes w3.heap.size w3 u T0.L) (hb : Below w.heap.size w w3) => refRun_any ⟨T0, Z, 0, false⟩ u (.slice A3 Z.length c3) 61 HWI.out w3 hn ((HZ.out.below hb).more hb.size) ⟨Int.le_refl _, by show (0 : Int) ≤ 61; decide⟩ _ K ((HK.out.below hb).more hb.size) hq61 HTX.out)
      generalize run ⟨T0, Z, 0, false⟩ K = R at *
      obtain ⟨x', cnt, er⟩ := R
      have HWR : Hid (Within x'.t (61 + K.length)) := HWR.out
      have HSM := Lib.hid ((HWR.out.good (by omega)).small)
      generalize hq : K.length = q at *
      have HQ := Lib.hid hq
      generalize hzq : Z.length = zq at *
      have HQZ := Lib.hid hzq
      clear hsl hk1 hq hzq hq61
      go_enter Tryz.func4, Tryz.ntmps4
      go_wp2_with fail
      refine HFW.out.mono ?_
      rintro e w1 ⟨rfl, hw⟩
      have hw := hw.symm
      subst hw
      go_wp2_with fail
      refine HSW.out.mono ?_
      rintro e w1 ⟨rfl, hw⟩
      have hw := hw.symm
      subst hw
      go_wp2_with fail
      refine HM.out.mono ?_
      rintro e w2 ⟨pv, u, F0, rfl, hrep, hn, hF0, hb, hcl⟩
      obtain ⟨Au, cu, rfl, -, -⟩ := hn.form
      obtain ⟨ta, rfl⟩ := hfull hrep
      obtain ⟨p0, hp0⟩ : ∃ p, w2.heap.size = p := ⟨_, rfl⟩
      obtain ⟨w3, hw3⟩ : ∃ w3, w2.alloc (.cells #[.slice Au T0.L.length cu, .int .i64 T0.last] 30) = w3 := ⟨_, rfl⟩
      have ha : Below w2.heap.size w2 w3 := by rw [← hw3]; exact W07.below_one _ _
      have B3 := Lib.hid (on hb ha)
      have BX3 : Hid (TreeBox w3 p0 (.slice Au T0.L.length cu) T0.last) := by show TreeBox _ _ _ _; rw [← hp0, ← hw3]; exact heap_top _ _
      have HNW := Lib.hid (E.new (C.below hrep ha))
      have N3 := Lib.hid ((hn.below ha).more ha.size)
      have HF0 := Lib.hid hF0
      have HCL := Lib.hid hcl
      have LO3 : Hid (¬ F0 p0) := Lib.hid (fun hk => by have := C.low hrep _ hk; omega)
      clear hrep hn hF0 hb hcl ha HM HFW HSW
      go_wp2_with fail
      clear hw3 hp0
      refine HNW.out.mono ?_
      rintro e w4 ⟨v4, F4, rfl, h4, s4, hb4⟩
      obtain ⟨ad, rfl⟩ := E.full h4
      have BX4 := Lib.hid (BX3.out.below hb4)
      have N4 := Lib.hid ((N3.out.below hb4).more hb4.size)
      have B4 := Lib.hid (on B3.out hb4)
      have HF4 : Hid (∀ k, F4 k → w.heap.size ≤ k) := fun k hk => (s4 k hk).elim (HF0.out k) (fun e => Nat.le_trans B3.out.size e)
      have LO4 : Hid (¬ F4 p0) := Lib.hid (fun hk => (s4 _ hk).elim LO3.out (fun e => by have := BX3.out.lt; omega))
      have OF4 : Hid (Off F4 (.slice Au T0.L.length cu)) := Lib.hid (off_same N3.out (right_full HWI.out.right) HCL.out s4)
      have HPL := Lib.hid (E.plan h4 (.slice A3 zq c3) Z ((HZ.out.below B4.out).more B4.out.size))
      clear h4 s4 hb4 HNW N3 B3 BX3 LO3
      go_wp2_with fail
      refine HPL.out.mono ?_
      rintro e w5 ⟨rfl, F5, h5, t5, s5⟩
      have BX5 := Lib.hid (BX4.out.turns t5 LO4.out)
      have N5 := Lib.hid ((nodes_turns N4.out t5 OF4.out).more t5.size)
      have B5 : Hid (Below w.heap.size w w5) := B4.out.trans (t5.below HF4.out B4.out.size)
      have HF5 : Hid (∀ k, F5 k → w.heap.size ≤ k) := fun k hk => (s5 k hk).elim (HF4.out k) (fun e => Nat.le_trans B4.out.size e)
      have LO5 : Hid (¬ F5 p0) := Lib.hid (fun hk => (s5 _ hk).elim LO4.out (fun e => by have := BX4.out.lt; omega))
      have OF5 : Hid (Off F5 (.slice Au T0.L.length cu)) := Lib.hid (off_same N4.out (right_full HWI.out.right) OF4.out s5)
      have HR5 := Lib.hid (HRN.out w5 F5 _ h5 B5.out HF5.out)
      clear h5 t5 s5 HPL HRN N4 B4 BX4 LO4 OF4 HF4
      go_wp2_with fail
      refine HR5.out.mono ?_
      rintro e w6 ⟨rfl, F6, h6, t6, s6⟩
      have BX6 := Lib.hid (BX5.out.turns t6 LO5.out)
      have N6 := Lib.hid ((nodes_turns N5.out t6 OF5.out).more t6.size)
      have B6 : Hid (Below w.heap.size w w6) := B5.out.trans (t6.below HF5.out B5.out.size)
      have H6 := Lib.hid h6
      have x0 := BX6.out.c0
      have x1 := BX6.out.c1
      have HRR6 := Lib.hid (HRR.out w6 _ N6.out B6.out)
      clear h6 t6 s6 HR5 HRR N5 B5 BX5 LO5 OF5 HF5
      go_wp2_with fail
      refine HRR6.out.mono ?_
      rintro e w7 ⟨u7, rfl, hn7, hb7⟩
      obtain ⟨A7, c7, rfl, -, -⟩ := hn7.form
      obtain ⟨p8, hp8⟩ : ∃ p, w7.heap.size = p := ⟨_, rfl⟩
      obtain ⟨w8, hw8⟩ : ∃ w8, w7.alloc (.cells #[.slice A7 x'.t.L.length c7, .int .i64 x'.t.last, .slice A3 zq c3, .int .i64 x'.count, .bool x'.down] 49) = w8 := ⟨_, rfl⟩
      have h78 : Below w7.heap.size w7 w8 := by rw [← hw8]; exact W07.below_one _ _
      have BX8 : Hid (W10.RefBox w8 p8 (.slice A7 x'.t.L.length c7) x'.t.last (.slice A3 zq c3) x'.count x'.down) := by show W10.RefBox _ _ _ _ _ _ _; rw [← hp8, ← hw8]; exact heap_top _ _
      have N8 := Lib.hid ((hn7.below h78).more h78.size)
      have B8 := Lib.hid (on (on B6.out hb7) h78)
      have H8 := Lib.hid (E.below (E.below H6.out hb7) h78)
      have d0 := BX8.out.c0
      have d1 := BX8.out.c1
      have d3 := BX8.out.c3
      have d4 := BX8.out.c4
      have hp := BX8.out.lt
      have HCT := Lib.hid (fun (w' : World) (hb : Below w8.heap.size w8 w') => E.count (E.below H8.out hb))
      have HDN := Lib.hid (fun (w' : World) (hb : Below w8.heap.size w8 w') => E.down (E.below H8.out hb))
      have HTR := Lib.hid (fun (w' : World) (hb : Below w8.heap.size w8 w') => E.tree (E.below H8.out hb))
      have HSS := Lib.hid (fun (w' : World) (tv : Value) (Ft : Blocks) (hb : Below w8.heap.size w8 w') (hr : Rep Ft w' tv x'.t) => same_tree C w' hr HSM.out _ ((N8.out.below hb).more hb.size))
      clear hn7 hb7 h78 HRR6 x0 x1 BX6 N6
      go_wp2_with fail
      clear hw8 hp8
      go_region_held3 (fun w' => w'.cell? ⟨p8, 0, none⟩ = some (.slice A7 x'.t.L.length c7) ∧ w'.cell? ⟨p8, 1, none⟩ = some (.int .i64 x'.t.last) ∧ w'.cell? ⟨p8, 3, none⟩ = some (.int .i64 x'.count) ∧ w'.cell? ⟨p8, 4, none⟩ = some (.bool x'.down) ∧ Below w8.heap.size w8 w')
        (first | exact runs_keep hp (by assumption) hb25 | exact runs_keep hp (by assumption) hb24 | exact runs_keep hp (by assumption) hb23 | exact runs_keep hp (by assumption) hb22 | exact runs_keep hp (by assumption) hb21 | exact ⟨d0, d1, d3, d4, (Below.refl _ _).drew⟩ | go_keep)
        (first
          | (go_at_call 20; refine (HTR.out _ (runs_of (by assumption))).mono ?_; rintro e w21 ⟨tv, Ft, rfl, hr21, -, hb21⟩)
          | (go_at_call 14; refine (HSS.out _ _ _ (runs_of (by assumption)) hr21).mono ?_; rintro e w22 ⟨rfl, hb22⟩)
          | (go_at_call 21; refine (HCT.out _ (runs_of (by assumption))).mono ?_; rintro e w23 ⟨rfl, hb23⟩)
          | (go_at_call 22; refine (HDN.out _ (runs_of (by assumption))).mono ?_; rintro e w24 ⟨rfl, hb24⟩)
          | (go_at_call 9; refine (HL.out _).mono ?_; rintro e w25 ⟨rfl, hb25⟩))
      all_goals (
        rename_i hHeld
        have GE := Lib.hid (on B8.out (runs_of hHeld))
        clear hHeld
        go_wp2_with fail
        go_ret
        exact ⟨rfl, GE.out⟩)
end Go.Proofs.YtmbpgjncioegdaaGreatDoor.W20
/-
  Layer 20 (act): the landed code of the layers below keeps the contracts that the law ActRuns asks; so the law holds. Conditions: none but those that the theorem bears.
-/
namespace Go.Proofs.YtmbpgjncioegdaaGreatDoor.W20
open Go Go.RowKit Go.Proofs.YtmbpgjncioegdaaGreatDoor.Strs Go.Proofs.YtmbpgjncioegdaaGreatDoor.Recs
open Go.Proofs.YtmbpgjncioegdaaGreatDoor.M10 (Fl)
open Go.Proofs.YtmbpgjncioegdaaGreatDoor.W08 (Sn Snodes)
open Go.Proofs.YtmbpgjncioegdaaGreatDoor.W09 (Tk Tasks)
open Go.Proofs.YtmbpgjncioegdaaGreatDoor.W10 (Faults)

theorem actRuns_law (w : World) (v : Value) (L : List Sn) (h : Snodes w.heap.size w v L) (y : Value) (K : List Tk) (hK : Tasks w.heap.size w y K) (z : Value) (Z : List Fl) (hZ : Faults w.heap.size w z Z) :
    Calls Tryz.prog 4 #[v, y, z] w fun e w' => e = .returned (.bool true) ∧ Below w.heap.size w w' := actRuns_over W07.trees W10.applies W10.fss W10.full_tree w v y z L h K hK Z hZ
end Go.Proofs.YtmbpgjncioegdaaGreatDoor.W20
