/-
  Layer 19 (task): the law TaskMany over the walks. The condition stands in the statement.
-/
import Derived.Test.YthplnkchmelbmaaDoorW19Lives
import Derived.Test.YthplnkchmelbmaaDoorW19Count
import Derived.Test.YthplnkchmelbmaaDoorW02Same
namespace Go.Proofs.YthplnkchmelbmaaDoor.W19
set_option maxRecDepth 100000
open Go Go.RowKit Go.Proofs.YthplnkchmelbmaaDoor.M19 Go.Proofs.YthplnkchmelbmaaDoor.Strs
open Go.Proofs.YthplnkchmelbmaaDoor.W09 (Tk Tasks Tasks.at_)
open Go.Proofs.YthplnkchmelbmaaDoor.Kit (ret_str ret_bool ret_int mk_of mk_bytes ba_ext below_draws on)

/-- the first k tasks are short -/
def Brief (L : List Tk) (k : Nat) : Prop := ∀ x ∈ L.take k, x.path.length ≤ 2000 ∧ x.text.length ≤ 2000
theorem brief_next {L : List Tk} {k : Nat} (h : Brief L k) (hk : k < L.length) (h1 : L[k].path.length ≤ 2000) (h2 : L[k].text.length ≤ 2000) : Brief L (k + 1) := by
  intro x hx
  rw [List.take_succ_eq_append_getElem hk] at hx
  rcases List.mem_append.1 hx with hx | hx
  · exact h x hx
  · rw [List.mem_singleton.1 hx]; exact ⟨h1, h2⟩
theorem all_more {L : List Tk} {k : Nat} (hk : k < L.length) : (L.take (k + 1)).all right = ((L.take k).all right && right L[k]) := by
  rw [List.take_succ_eq_append_getElem hk, List.all_append]; simp
set_option maxHeartbeats 8000000 in
theorem taskMany_law (v : Value) (L : List Tk) {w : World} (h : Tasks w.heap.size w v L) (z : Int) (_h0 : -9223372036854775808 ≤ z) (_h1 : z ≤ 9223372036854775807) (hv : Verbs w) : Calls Tryd.prog 5 #[v, .int .i64 z] w fun e w' => e = .returned (.bool true) ∧ Below w.heap.size w w' := by
  obtain ⟨A, c, rfl, hA1, hA2⟩ := h.form
  unfold maxLen at hA2
  have H := Lib.hid h
  have HV := Lib.hid hv
  have HL := Lib.hid lives_any
  clear h hv _h0 _h1
  generalize hm : L.length = m at *
  have HM := Lib.hid hm
  clear hm
  go_enter Tryd.func5, Tryd.ntmps5
  go_wp2_with fail
  go_loopw [5, 6, 7] (fun r u i wr => ∃ (k n : Nat) (b : Bool), k ≤ m ∧ n ≤ k ∧ i = .int .i64 k ∧ u = .int .i64 n ∧ r = .bool b ∧ Hid (n = many (L.take k) z) ∧ Hid ((L.take k).all right = b) ∧ Hid (Brief L k) ∧ Hid (Below w.heap.size w wr)) (fun _ _ i _ => m - (intOf i).toNat)
  case atStart => exact ⟨0, 0, true, Nat.zero_le _, Nat.le_refl _, rfl, rfl, rfl, rfl, rfl, fun x hx => by simp at hx, Below.refl _ _⟩
  case round =>
    obtain ⟨k, n, r, hk, hnk, rfl, rfl, rfl, hn, hr, hbr, hb⟩ := hrel
    by_cases hlt : k < m
    · obtain ⟨b, o, hl, rfl, hbl, c0, c1, c2⟩ := Tasks.at_ (H.out.below hb.out) hlt
      obtain ⟨kd, hkd⟩ : ∃ kd, kd = (L[k]).kind := ⟨_, rfl⟩
      obtain ⟨p, hp⟩ : ∃ p : ByteArray, p = ⟨(L[k]).path.toArray⟩ := ⟨_, rfl⟩
      obtain ⟨t, ht⟩ : ∃ t : ByteArray, t = ⟨(L[k]).text.toArray⟩ := ⟨_, rfl⟩
      have HXX : Hid (L[k] = ⟨kd, p.data.toList, t.data.toList⟩) := by rw [hkd, hp, ht]; rfl
      have hps : p.size = (L[k]).path.length := by rw [Lib.size_eq, hp]
      have hts : t.size = (L[k]).text.length := by rw [Lib.size_eq, ht]
      have HKD := Lib.hid hkd
      have HVR := Lib.hid (HV.out.on hb.out)
      rw [← hkd] at c0
      rw [← hp] at c1
      rw [← ht] at c2
      clear hp ht hkd
      by_cases h1 : 2000 < p.size
      · have t1 : (2000 : Int) < p.size := by omega
        clear hps hts h1
        go_wp2_with fail
        refine (HL.out _ HVR.out).mono ?_
        rintro e w2 ⟨rfl, hb2⟩
        have B2 := Lib.hid (on hb.out hb2)
        clear hb2
        go_wp2_with fail
        go_ret
        exact ⟨rfl, B2.out⟩
      · by_cases h2 : 2000 < t.size
        · have t1 : ¬ (2000 : Int) < p.size := by omega
          have t2 : (2000 : Int) < t.size := by omega
          clear hps hts h1 h2
          go_wp2_with fail
          refine (HL.out _ HVR.out).mono ?_
          rintro e w2 ⟨rfl, hb2⟩
          have B2 := Lib.hid (on hb.out hb2)
          clear hb2
          go_wp2_with fail
          go_ret
          exact ⟨rfl, B2.out⟩
        · have HBR := Lib.hid (brief_next hbr.out hl (by omega) (by omega))
          have HRF := Lib.hid (fun w => refRight_any kd p t (by omega) (by omega) w)
          rw [← HXX.out] at HRF
          have t1 : ¬ (2000 : Int) < p.size := by omega
          have t2 : ¬ (2000 : Int) < t.size := by omega
          have HMR := Lib.hid (all_more hl)
          clear hps hts h1 h2 HVR
          cases r with
          | true =>
            have HR2 : Hid ((L.take (k + 1)).all right = right L[k]) := by show _ = _; rw [HMR.out, hr.out, Bool.true_and]
            clear HMR
            go_wp2_with fail
            refine (HRF.out _).mono ?_
            rintro e w2 ⟨rfl, hb2⟩
            have B2 := Lib.hid (on hb.out hb2)
            have c3 := (hb2.cell (cell_in c0)).trans c0
            clear hb2 c0 c1 c2 HRF hb
            generalize right L[k] = rr at HR2 ⊢
            cases hz : (kd == z) with
            | true =>
              have HN := Lib.hid (many_yes (z := z) hl (by rw [← HKD.out]; exact hz))
              go_wp2_with fail
              go_roundw
              case rel => exact ⟨k + 1, n + 1, _, by omega, by omega, by go_num, by go_num, rfl, by show _ = _; rw [HN.out, hn.out], HR2, HBR, B2⟩
              case measure => simp [intOf]; omega
            | false =>
              have HN := Lib.hid (many_no (z := z) hl (by rw [← HKD.out]; exact hz))
              go_wp2_with fail
              go_roundw
              case rel => exact ⟨k + 1, n, _, by omega, by omega, by go_num, rfl, rfl, by show _ = _; rw [HN.out, hn.out], HR2, HBR, B2⟩
              case measure => simp [intOf]; omega
          | false =>
            have HR2 : Hid ((L.take (k + 1)).all right = false) := by show _ = _; rw [HMR.out, hr.out, Bool.false_and]
            clear HMR
            cases hz : (kd == z) with
            | true =>
              have HN := Lib.hid (many_yes (z := z) hl (by rw [← HKD.out]; exact hz))
              go_wp2_with fail
              go_roundw
              case rel => exact ⟨k + 1, n + 1, _, by omega, by omega, by go_num, by go_num, rfl, by show _ = _; rw [HN.out, hn.out], HR2, HBR, hb⟩
              case measure => simp [intOf]; omega
            | false =>
              have HN := Lib.hid (many_no (z := z) hl (by rw [← HKD.out]; exact hz))
              go_wp2_with fail
              go_roundw
              case rel => exact ⟨k + 1, n, _, by omega, by omega, by go_num, rfl, rfl, by show _ = _; rw [HN.out, hn.out], HR2, HBR, hb⟩
              case measure => simp [intOf]; omega
    · have hkm : k = m := by omega
      have HRR : Hid (L.all right = r) := by
        have := hr.out
        rwa [List.take_of_length_le (by rw [HM.out]; omega)] at this
      have HNN : Hid (n = many L z) := by
        have := hn.out
        rwa [List.take_of_length_le (by rw [HM.out]; omega)] at this
      have HSH : Hid (∀ x ∈ L, x.path.length ≤ 2000 ∧ x.text.length ≤ 2000) := by
        have := hbr.out
        unfold Brief at this
        rwa [List.take_of_length_le (by rw [HM.out]; omega)] at this
      have VR := Lib.hid (HV.out.on hb.out)
      clear hr hn hbr
      by_cases h100 : 100 < m
      · have t100 : (100 : Int) < m := by omega
        clear h100
        go_wp2_with fail
        refine (HL.out _ VR.out).mono ?_
        rintro e w2 ⟨rfl, hb2⟩
        have B2 := Lib.hid (on hb.out hb2)
        clear hb2
        go_wp2_with fail
        go_ret
        exact ⟨rfl, B2.out⟩
      · have t100 : ¬ (100 : Int) < m := by omega
        have HTK := Lib.hid (H.out.below hb.out)
        have HLN := Lib.hid (lines_any (.slice A m c) L wr (HTK.out.more hb.out.size) HSH.out (by rw [HM.out]; omega) VR.out)
        have hnm : n ≤ m := by omega
        clear h100
        go_wp2_with fail
        refine (HLN.out).mono ?_
        rintro e w2 ⟨hd, hb2⟩
        have B2 := Lib.hid (on hb.out hb2)
        have V2 := Lib.hid (VR.out.on hb2)
        have T2 := Lib.hid ((HTK.out.more hb.out.size).below hb2)
        have HCN := Lib.hid (count_any (.slice A m c) L z w2 (T2.out.more hb2.size))
        have HS2 := Lib.hid hb2.size
        have tn : (((many L z : Nat) : Int) != (n : Int)) = false := by rw [HNN.out]; simp
        rcases hd with ⟨ha, u, rfl, hu⟩ | ⟨ha, rfl⟩
        · obtain rfl : r = true := HRR.out.symm.trans ha
          have HU := Lib.hid hu
          have HRL := Lib.hid (fun w h => refLines_any (.slice A m c) L w h HSH.out (by rw [HM.out]; omega))
          clear ha hu hb2 HLN VR
          go_wp2_with fail
          refine (HCN.out).mono ?_
          rintro e w3 ⟨rfl, hb3⟩
          have B3 := Lib.hid (on B2.out hb3)
          have V3 := Lib.hid (V2.out.on hb3)
          have T3 := Lib.hid ((T2.out.more HS2.out).below hb3)
          have U3 := Lib.hid (rowT_below HU.out hb3)
          have HS3 := Lib.hid hb3.size
          clear hb3 T2 V2 B2 HU HCN
          go_wp2_with fail
          refine (HRL.out _ (T3.out.more HS3.out)).mono ?_
          rintro e w4 ⟨u2, rfl, hu2, hb4⟩
          have B4 := Lib.hid (on B3.out hb4)
          have V4 := Lib.hid (V3.out.on hb4)
          have XA := Lib.hid (Texts.of_own (rowT_below U3.out hb4))
          have XB := Lib.hid (Texts.of_own hu2)
          clear hu2 hb4 B3 V3 T3 U3
          have HSM := Lib.hid (W02.same_any u u2 (L.map raw) (L.map raw) w4.heap.size w4 XA.out XB.out)
          have hsame : Hid (decide (L.map raw = L.map raw) = true) := by show _ = _; simp
          rw [hsame.out] at HSM
          go_wp2_with fail
          refine (HSM.out).mono ?_
          rintro e w5 ⟨rfl, q, rfl⟩
          have B5 := Lib.hid (on B4.out (below_draws w4 q))
          have HL5 := Lib.hid (HL.out _ (V4.out.on (below_draws w4 q)))
          go_wp2_with fail
          refine (HL5.out).mono ?_
          rintro e w6 ⟨rfl, hb6⟩
          have B6 := Lib.hid (on B5.out hb6)
          clear hb6
          go_wp2_with fail
          go_ret
          exact ⟨rfl, B6.out⟩
        · obtain rfl : r = false := HRR.out.symm.trans ha
          clear ha hb2 HLN VR
          go_wp2_with fail
          refine (HCN.out).mono ?_
          rintro e w3 ⟨rfl, hb3⟩
          have B3 := Lib.hid (on B2.out hb3)
          have V3 := Lib.hid (V2.out.on hb3)
          have HL3 := Lib.hid (HL.out _ V3.out)
          clear hb3 T2 V2 B2 HCN
          go_wp2_with fail
          refine (HL3.out).mono ?_
          rintro e w4 ⟨rfl, hb4⟩
          have B4 := Lib.hid (on B3.out hb4)
          clear hb4
          go_wp2_with fail
          go_ret
          exact ⟨rfl, B4.out⟩
end Go.Proofs.YthplnkchmelbmaaDoor.W19
