/-
  Texts joined, in build order, each with its own comment and its own conditions: W20LawV, W20LawsV.
-/
import Derived.Test.YtmbpgjncioegdaaGreatDoorJ23
import Derived.Test.YtmbpgjncioegdaaGreatDoorJ28
import Derived.Test.YtmbpgjncioegdaaGreatDoorJ29
import Derived.Test.YtmbpgjncioegdaaGreatDoorJ10
import Derived.Test.YtmbpgjncioegdaaGreatDoorJ24
/-
  Layer 20 (act), a walk of the law ActValid over the contracts: it returns true, at every list of nodes and of tasks, and every number; nothing that was there is changed. The conditions stand in the statement.
-/
namespace Go.Proofs.YtmbpgjncioegdaaGreatDoor.W20
set_option maxRecDepth 100000
open Go Go.RowKit Go.Proofs.YtmbpgjncioegdaaGreatDoor.Strs Go.Proofs.YtmbpgjncioegdaaGreatDoor.Recs Go.Proofs.YtmbpgjncioegdaaGreatDoor.Range
open Go.Proofs.YtmbpgjncioegdaaGreatDoor.M07 (Tr Nd nodeAt Right)
open Go.Proofs.YtmbpgjncioegdaaGreatDoor.M09 Go.Proofs.YtmbpgjncioegdaaGreatDoor.M10 Go.Proofs.YtmbpgjncioegdaaGreatDoor.M20
open Go.Proofs.YtmbpgjncioegdaaGreatDoor.W07 (Small Trees Wrote Off heap_top Nodes TreeBox set_heap nodes_turns right_full same_tree turns_box)
open Go.Proofs.YtmbpgjncioegdaaGreatDoor.W08 (Sn Snodes isFew few_is)
open Go.Proofs.YtmbpgjncioegdaaGreatDoor.W09 (Tk tkC tkC_len Tasks Within isShort9 short9_any short9_is made_within off_nodes)
open Go.Proofs.YtmbpgjncioegdaaGreatDoor.W10 (Applies TreeTwo refApply10_any)
open Go.Proofs.YtmbpgjncioegdaaGreatDoor.Kit (ret_str ret_bool ret_int mk_of mk_bytes ba_ext below_draws on)

/-- a tree's box, laid behind a call -/
structure GotT (w1 w9 : World) (q : Nat) (u8 : Value) (T : Tr) : Prop where
  below : Below w1.heap.size w1 w9
  box : TreeBox w9 q u8 T.last
  nodes : Nodes w9.heap.size w9 u8 T.L
theorem got_box {w1 w8 : World} {q : Nat} {u8 a : Value} {l : Int} {T : Tr} (hb : Below w1.heap.size w1 w8) (h : TreeBox w8 q a l) (hn : Nodes w8.heap.size w8 u8 T.L) (h0 : 0 < T.L.length) (hq : w1.heap.size ≤ q) : GotT w1 ((w8.setCell ⟨q, 0, none⟩ u8).setCell ⟨q, 1, none⟩ (.int .i64 T.last)) q u8 T :=
  have ht := turns_box w8 q u8 (.int .i64 T.last)
  ⟨hb.trans (ht.below (fun k e => by have : k = q := e; omega) hb.size), W07.box_stored2 h, (nodes_turns hn ht (off_box hn h0 h)).more ht.size⟩
/-- the cells that the call's region reads -/
def PairB (w : World) (p : Nat) (a b : Value) : Prop := w.cell? ⟨p, 0, none⟩ = some a ∧ w.cell? ⟨p, 1, none⟩ = some b
theorem PairB.turns {T : Nat → Prop} {w w' : World} {p : Nat} {a b : Value} (h : PairB w p a b) (t : Turns T w w') (hp : ¬ T p) : PairB w' p a b := ⟨t.cell h.1 hp, t.cell h.2 hp⟩
theorem PairB.on_ {w w' : World} {p : Nat} {a b : Value} (h : PairB w p a b) (hB : Below w.heap.size w w') : PairB w' p a b := h.turns (Turns.new (T := fun _ => False) hB) id
/-- the cells that the last region reads -/
theorem four_keep {W w' w'' : World} {p q : Nat} {y0 y1 y2 y3 : Value} (hp : p < W.heap.size) (hq : q < W.heap.size) (h : w'.cell? ⟨p, 0, none⟩ = some y0 ∧ w'.cell? ⟨p, 1, none⟩ = some y1 ∧ w'.cell? ⟨q, 0, none⟩ = some y2 ∧ w'.cell? ⟨q, 1, none⟩ = some y3 ∧ Below W.heap.size W w') (hb : Below w'.heap.size w' w'') : w''.cell? ⟨p, 0, none⟩ = some y0 ∧ w''.cell? ⟨p, 1, none⟩ = some y1 ∧ w''.cell? ⟨q, 0, none⟩ = some y2 ∧ w''.cell? ⟨q, 1, none⟩ = some y3 ∧ Below W.heap.size W w'' := by
  have hs := h.2.2.2.2.size
  exact ⟨(hb.cell (by show p < _; omega)).trans h.1, (hb.cell (by show p < _; omega)).trans h.2.1, (hb.cell (by show q < _; omega)).trans h.2.2.1, (hb.cell (by show q < _; omega)).trans h.2.2.2.1, on h.2.2.2.2 hb⟩
theorem four_of {W w' : World} {p q : Nat} {y0 y1 y2 y3 : Value} (h : w'.cell? ⟨p, 0, none⟩ = some y0 ∧ w'.cell? ⟨p, 1, none⟩ = some y1 ∧ w'.cell? ⟨q, 0, none⟩ = some y2 ∧ w'.cell? ⟨q, 1, none⟩ = some y3 ∧ Below W.heap.size W w') : Below W.heap.size W w' := h.2.2.2.2
set_option maxHeartbeats 16000000 in
theorem actValid_over {Rep : Blocks → World → Value → Tr → Prop} (C : Trees Rep) (X : Applies Rep) (hfull : ∀ {F w v t}, Rep F w v t → ∃ a, v = .pointer (some a)) (w : World) (v y : Value) (L : List Sn) (h : Snodes w.heap.size w v L) (K : List Tk) (hK : Tasks w.heap.size w y K) (j : Int) :
    Calls Tryz.prog 3 #[v, y, .int .i64 j] w fun e w' => e = .returned (.bool true) ∧ Below w.heap.size w w' := by
  have HFW := Lib.hid (W08.few_any v L w.heap.size w h)
  have HSW := Lib.hid (short9_any y K 60 w.heap.size w hK)
  have HL := Lib.hid (fun w' => lives_over C X hfull w')
  have HH := Lib.hid h
  have HK := Lib.hid hK
  obtain ⟨A, c, rfl, -, -⟩ := h.form
  obtain ⟨A2, c2, rfl, hk1, hk2⟩ := hK.form
  unfold maxLen at hk2
  clear h hK
  generalize hm : L.length = m at *
  cases hf : isFew L with
  | false =>
    rw [hf] at HFW
    clear hf hm
    go_enter Tryz.func3, Tryz.ntmps3
    go_wp2_with fail
    refine HFW.out.mono ?_
    rintro e w1 ⟨rfl, hw⟩
    have hw := hw.symm
    subst hw
    go_wp2_with fail
    refine (HL.out _).mono ?_
    rintro e w2 ⟨rfl, hb⟩
    go_wp2_with fail
    go_ret
    exact ⟨rfl, hb⟩
  | true =>
    rw [hf] at HFW
    obtain ⟨hd, hl⟩ := few_is hf
    cases hs : isShort9 K 60 with
    | false =>
      rw [hs] at HSW
      clear hf hm hs hd hl
      go_enter Tryz.func3, Tryz.ntmps3
      go_wp2_with fail
      refine HFW.out.mono ?_
      rintro e w1 ⟨rfl, hw⟩
      have hw := hw.symm
      subst hw
      go_wp2_with fail
      refine HSW.out.mono ?_
      rintro e w1 ⟨rfl, hw⟩
      have hw := hw.symm
      subst hw
      go_wp2_with fail
      refine (HL.out _).mono ?_
      rintro e w2 ⟨rfl, hb⟩
      go_wp2_with fail
      go_ret
      exact ⟨rfl, hb⟩
    | true =>
      rw [hs] at HSW
      obtain ⟨hsd, hsl⟩ := short9_is hs
      have HTX := Lib.hid (texts_of hsd)
      have HM := W08.made_over3 C w (.slice A m c) L HH.out hl hd
      have HWI := Lib.hid (made_within hl)
      generalize (W08.made L).1 = T0 at *
      have HM := Lib.hid HM
      clear hf hm hs hd hl hsd
      have hq61 : 61 + K.length ≤ 1048576 := by omega
      obtain ⟨k, hk, hjk, hfi⟩ := @firsts_at K j
      have HSM0 := Lib.hid ((HWI.out.good (by omega)).small)
      have HSM1 := Lib.hid (((in_after (l := K) HWI.out j).good (by omega)).small)
      have HR1 := Lib.hid (right_full (in_after (l := K) HWI.out j).right)
      have HVA := Lib.hid (fun (w3 : World) (F0 : Blocks) (pv : Value) (hr : Rep F0 w3 pv T0) (hb : Below w.heap.size w w3) => valid_any C X hfull hr 61 HWI.out ((HK.out.below hb).more hb.size) hq61 HTX.out)
      have HRV := Lib.hid (fun (w3 : World) (u : Value) (hn : Nodes w3.heap.size w3 u T0.L) (hb : Below w.heap.size w w3) => refValid_any T0 u 61 HWI.out w3 hn _ K ((HK.out.below hb).more hb.size) hq61 HTX.out)
      have HAF := Lib.hid (fun (w3 : World) (F0 : Blocks) (pv : Value) (hr : Rep F0 w3 pv T0) (hb : Below w.heap.size w w3) => after_any C X hfull hr 61 HWI.out ((HK.out.below hb).more hb.size) hq61 HTX.out j)
      have HRA := Lib.hid (fun (w3 : World) (u : Value) (hn : Nodes w3.heap.size w3 u T0.L) (hb : Below w.heap.size w w3) => refApply10_any T0 u 61 HWI.out w3 hn _ (K.take k) (((HK.out.take hk).below hb).more hb.size) (by rw [List.length_take]; omega) (fun x hx => (HTX.out x (List.mem_of_mem_take hx)).2))
      have hkt : (applyAll T0 (K.take k)).1 = after T0 K j := by unfold after; rw [hfi]
      generalize after T0 K j = T1 at *
      generalize applyAll T0 (K.take k) = R at *
      generalize valid T0 K = V at *
      obtain ⟨T2, cnt, er⟩ := R
      obtain ⟨vn, ve⟩ := V
      have hkt : T2 = T1 := hkt
      subst hkt
      have hkc : (k : Int) ≤ (c2 : Int) := by omega
      generalize hq : K.length = q at *
      have HQ := Lib.hid hq
      clear hq61 hsl hk1 hfi hq
      go_enter Tryz.func3, Tryz.ntmps3
      go_wp2_with fail
      refine HFW.out.mono ?_
      rintro e w1 ⟨rfl, hw⟩
      have hw := hw.symm
      subst hw
      go_wp2_with fail
      refine HSW.out.mono ?_
      rintro e w1 ⟨rfl, hw⟩
      have hw := hw.symm
      subst hw
      go_wp2_with fail
      refine HM.out.mono ?_
      rintro e w2 ⟨pv, u, F0, rfl, hrep, hn, -, hb, -⟩
      obtain ⟨Au, cu, rfl, -, -⟩ := hn.form
      obtain ⟨ta, rfl⟩ := hfull hrep
      obtain ⟨p0, hp0⟩ : ∃ p, w2.heap.size = p := ⟨_, rfl⟩
      obtain ⟨w3, hw3⟩ : ∃ w3, w2.alloc (.cells #[.slice Au T0.L.length cu, .int .i64 T0.last] 30) = w3 := ⟨_, rfl⟩
      have ha : Below w2.heap.size w2 w3 := by rw [← hw3]; exact W07.below_one _ _
      have B3 := Lib.hid (on hb ha)
      have BX3 : Hid (TreeBox w3 p0 (.slice Au T0.L.length cu) T0.last) := by show TreeBox _ _ _ _; rw [← hp0, ← hw3]; exact heap_top _ _
      have R3 := Lib.hid (C.below hrep ha)
      have N3 := Lib.hid ((hn.below ha).more ha.size)
      have HA3 := Lib.hid (HVA.out w3 F0 _ R3.out B3.out)
      clear hrep hn hb ha HVA HM HFW HSW
      go_wp2_with fail
      clear hw3 hp0
      refine HA3.out.mono ?_
      rintro e w4 ⟨rfl, hb4⟩
      have BX4 := Lib.hid (BX3.out.below hb4)
      have R4 := Lib.hid (C.below R3.out hb4)
      have N4 := Lib.hid ((N3.out.below hb4).more hb4.size)
      have B4 := Lib.hid (on B3.out hb4)
      have x0 := BX4.out.c0
      have x1 := BX4.out.c1
      have HR4 := Lib.hid (HRV.out w4 _ N4.out B4.out)
      clear hb4 HA3 HRV R3 N3 B3 BX3
      go_wp2_with fail
      refine HR4.out.mono ?_
      rintro e w5 ⟨rfl, hb5⟩
      have BX5 := Lib.hid (BX4.out.below hb5)
      have R5 := Lib.hid (C.below R4.out hb5)
      have N5 := Lib.hid ((N4.out.below hb5).more hb5.size)
      have B5 := Lib.hid (on B4.out hb5)
      clear x0 x1 hb5 HR4 R4 N4 B4 BX4
      have ca : PairB w5 p0 (.slice Au T0.L.length cu) (.int .i64 T0.last) := ⟨BX5.out.c0, BX5.out.c1⟩
      have hp5 := BX5.out.lt
      obtain ⟨wA, hwA⟩ : ∃ wA : World, w5.alloc (.cells #[.slice none 0 0, .int .i64 0] 30) = wA := ⟨_, rfl⟩
      have hbA : Below w5.heap.size w5 wA := by rw [← hwA]; exact W07.below_one _ _
      have hlt2 : w5.heap.size < wA.heap.size := by have : wA.heap.size = w5.heap.size + 1 := (by rw [← hwA]; exact World.size_alloc _ _); omega
      have TBA : TreeBox wA w5.heap.size (.slice none 0 0) 0 := by rw [← hwA]; exact heap_top _ _
      have cA := ca.on_ hbA
      have HDA := Lib.hid (HRA.out (wA.drewN 1) _ ((N5.out.below hbA).more hbA.size) ((on B5.out hbA).trans ((below_draws wA 1).mono (on B5.out hbA).size)))
      have HDW := Lib.hid (HRA.out (w5.drewN 1) _ N5.out (on B5.out (below_draws w5 1)))
      obtain ⟨c0, c1⟩ := ca
      obtain ⟨x0, x1⟩ := cA
      clear HRA
      go_wp2_with fail
      go_region_held3 (fun w' => w'.cell? ⟨p0, 0, none⟩ = some (.slice Au T0.L.length cu) ∧ w'.cell? ⟨p0, 1, none⟩ = some (.int .i64 T0.last))
        (first | exact F5 | exact FN | exact F8 | exact ⟨x0, x1⟩ | exact ⟨c0, c1⟩ | go_keep)
        (first
          | (go_at_call 13; refine HDA.out.mono ?_; rintro e w8 ⟨u8, rfl, hn8, hb8⟩; obtain ⟨A8, c8, hue8, -, -⟩ := hn8.form; subst hue8; have hb8' : Below wA.heap.size wA w8 := (below_draws wA 1).trans hb8; have F8 := PairB.on_ (w := wA) ⟨x0, x1⟩ hb8'; obtain ⟨pQ, hpQ⟩ : ∃ p, w5.heap.size = p := ⟨_, rfl⟩; have TBN : TreeBox w8 pQ (.slice none 0 0) 0 := (by rw [← hpQ]; exact TBA.below hb8'); have m0 := TBN.c0; have m1 := TBN.c1; have v0 := TBN.fr 0; have v1 := TBN.fr 1; obtain ⟨w9, hw9⟩ : ∃ w', (w8.setCell ⟨pQ, 0, none⟩ (.slice A8 T2.L.length c8)).setCell ⟨pQ, 1, none⟩ (.int .i64 T2.last) = w' := ⟨_, rfl⟩; have F5 := F8.turns (show Turns (fun i => i = pQ) w8 w9 by rw [← hw9]; exact turns_box _ _ _ _) (by omega); have MID := Lib.hid (show GotT w5 w9 pQ (.slice A8 T2.L.length c8) T2 by rw [← hw9]; exact got_box (hbA.trans (hb8'.mono (by omega))) TBN hn8 HR1.out (by omega)))
          | (go_at_call 13; refine HDW.out.mono ?_; rintro e w8 ⟨u8, rfl, hn8, hb8⟩; obtain ⟨A8, c8, hue8, -, -⟩ := hn8.form; subst hue8; have hb8' : Below w5.heap.size w5 w8 := (below_draws w5 1).trans hb8; have F8 := PairB.on_ (w := w5) ⟨c0, c1⟩ hb8'; have hz8 := hb8'.size; obtain ⟨pQ, hpQ⟩ : ∃ p, w8.heap.size = p := ⟨_, rfl⟩; obtain ⟨wN, hwN⟩ : ∃ w', w8.alloc (.cells #[.slice none 0 0, .int .i64 0] 30) = w' := ⟨_, rfl⟩; have hbN : Below w8.heap.size w8 wN := (by rw [← hwN]; exact W07.below_one _ _); have TBN : TreeBox wN pQ (.slice none 0 0) 0 := (by rw [← hpQ, ← hwN]; exact heap_top _ _); have FN := F8.on_ hbN; have m0 := TBN.c0; have m1 := TBN.c1; have v0 := TBN.fr 0; have v1 := TBN.fr 1; obtain ⟨w9, hw9⟩ : ∃ w', (wN.setCell ⟨pQ, 0, none⟩ (.slice A8 T2.L.length c8)).setCell ⟨pQ, 1, none⟩ (.int .i64 T2.last) = w' := ⟨_, rfl⟩; have F5 := FN.turns (show Turns (fun i => i = pQ) wN w9 by rw [← hw9]; exact turns_box _ _ _ _) (by omega); have MID := Lib.hid (show GotT w5 w9 pQ (.slice A8 T2.L.length c8) T2 by rw [← hw9]; exact got_box (on hb8' hbN) TBN ((hn8.below hbN).more hbN.size) HR1.out (by omega))))
      all_goals (
        have BX9 := Lib.hid (BX5.out.below MID.out.below)
        have R9 := Lib.hid (C.below R5.out MID.out.below)
        have N9 := Lib.hid ((N5.out.below MID.out.below).more MID.out.below.size)
        have B9 := Lib.hid (on B5.out MID.out.below)
        have d0 := BX9.out.c0
        have d1 := BX9.out.c1
        have d2 := MID.out.box.c0
        have d3 := MID.out.box.c1
        have hp9 := BX9.out.lt
        have hq9 := MID.out.box.lt
        have HAF9 := Lib.hid (fun (w' : World) (hb : Below w9.heap.size w9 w') => HAF.out w' F0 _ (C.below R9.out hb) (on B9.out hb))
        have HS1 := Lib.hid (fun (w' : World) (tv : Value) (Ft : Blocks) (hb : Below w9.heap.size w9 w') (hr : Rep Ft w' tv T2) => same_tree C w' hr HSM1.out _ ((MID.out.nodes.below hb).more hb.size))
        have HS2 := Lib.hid (fun (w' : World) (hb : Below w9.heap.size w9 w') => same_tree C w' (C.below R9.out hb) HSM0.out _ ((N9.out.below hb).more hb.size))
        clear F5 HDA HDW c0 c1 x0 x1 m0 m1 v0 v1 MID R5 N5 BX5 HAF
        go_wp2_with fail
        go_region_held3 (fun w' => w'.cell? ⟨p0, 0, none⟩ = some (.slice Au T0.L.length cu) ∧ w'.cell? ⟨p0, 1, none⟩ = some (.int .i64 T0.last) ∧ w'.cell? ⟨pQ, 0, none⟩ = some (.slice A8 T2.L.length c8) ∧ w'.cell? ⟨pQ, 1, none⟩ = some (.int .i64 T2.last) ∧ Below w9.heap.size w9 w')
          (first | exact four_keep hp9 hq9 (by assumption) hb24 | exact four_keep hp9 hq9 (by assumption) hb23 | exact four_keep hp9 hq9 (by assumption) hb22 | exact four_keep hp9 hq9 (by assumption) hb21 | exact ⟨d0, d1, d2, d3, (Below.refl _ _).drew⟩ | go_keep)
          (first
            | (go_at_call 15; refine (HAF9.out _ (four_of (by assumption))).mono ?_; rintro e w21 ⟨v21, F21, rfl, hr21, -, hb21⟩)
            | (go_at_call_of 14 (Value.pointer (some ta)); refine (HS2.out _ (four_of (by assumption))).mono ?_; rintro e w23 ⟨rfl, hb23⟩)
            | (go_at_call 14; refine (HS1.out _ _ _ (four_of (by assumption)) hr21).mono ?_; rintro e w22 ⟨rfl, hb22⟩)
            | (go_at_call 9; refine (HL.out _).mono ?_; rintro e w24 ⟨rfl, hb24⟩))
        all_goals (
          rename_i hHeld
          have GE := Lib.hid (on B9.out (four_of hHeld))
          clear hHeld
          go_wp2_with fail
          go_ret
          exact ⟨rfl, GE.out⟩))
end Go.Proofs.YtmbpgjncioegdaaGreatDoor.W20
/-
  Layer 20 (act): the landed code of the layers below keeps the contracts that the law ActValid asks; so the law holds. Conditions: none but those that the theorem bears.
-/
namespace Go.Proofs.YtmbpgjncioegdaaGreatDoor.W20
open Go Go.RowKit Go.Proofs.YtmbpgjncioegdaaGreatDoor.Strs Go.Proofs.YtmbpgjncioegdaaGreatDoor.Recs
open Go.Proofs.YtmbpgjncioegdaaGreatDoor.M10 (Fl)
open Go.Proofs.YtmbpgjncioegdaaGreatDoor.W08 (Sn Snodes)
open Go.Proofs.YtmbpgjncioegdaaGreatDoor.W09 (Tk Tasks)
open Go.Proofs.YtmbpgjncioegdaaGreatDoor.W10 (Faults)

theorem actValid_law (w : World) (v : Value) (L : List Sn) (h : Snodes w.heap.size w v L) (y : Value) (K : List Tk) (hK : Tasks w.heap.size w y K) (j : Int) (_hj1 : -9223372036854775808 ≤ j) (_hj2 : j ≤ 9223372036854775807) :
    Calls Tryz.prog 3 #[v, y, .int .i64 j] w fun e w' => e = .returned (.bool true) ∧ Below w.heap.size w w' := actValid_over W07.trees W10.applies W10.full_tree w v y L h K hK j
end Go.Proofs.YtmbpgjncioegdaaGreatDoor.W20
