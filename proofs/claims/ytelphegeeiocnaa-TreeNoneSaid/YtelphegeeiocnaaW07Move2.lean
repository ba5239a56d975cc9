/-
  Layer 7 (tree), walks: the landed code's Move. The bounds stand in the statements.
-/
import Derived.Test.YtelphegeeiocnaaW07Put2
import Derived.Test.YtelphegeeiocnaaW07Goal
namespace Go.Proofs.Ytelphegeeiocnaa.W07
open Go Go.RowKit Go.Proofs.Ytelphegeeiocnaa.Strs Go.Proofs.Ytelphegeeiocnaa.Recs Go.Proofs.Ytelphegeeiocnaa.M07 Go.Proofs.Ytelphegeeiocnaa.Maps Go.Proofs.Ytelphegeeiocnaa.Range
open Go.Proofs.Ytelphegeeiocnaa.M06 (Ent)
open Go.Proofs.Ytelphegeeiocnaa.M03 (check)
open Go.Proofs.Ytelphegeeiocnaa.W06 (Ents HandsE)
open Go.Proofs.Ytelphegeeiocnaa.Kit (ret_str ret_bool ret_int mk_of mk_bytes ba_ext below_draws on list_full list_ne list_none list_nil bytes_nil)

section
variable {F : Nat → Prop} {w w' w1 w2 w3 : World} {v : Value} {t : Tr} {sb mb : Nat} {g : Int → Nod} {lv : Int → Value} {last : Int} {m : Nat}
theorem unhang_short (hs : Short g) (d : Int) (s : Bytes) : Short (unhangN g d s) := fun n => by
  unfold unhangN upd
  split
  · exact Nat.le_trans (M06.cut_len _ _) (hs d)
  · exact hs n
theorem drop_short (hs : Short g) (d : Int) : Short (upd g d nod0) := fun n => by
  unfold upd
  split
  · exact Nat.zero_le _
  · exact hs n
set_option maxHeartbeats 8000000 in
set_option maxRecDepth 100000 in
theorem move_any (h : Rep F w v t) (hs : Small t) (src : Int) (s : ByteArray) (dst : Int) (a : ByteArray) : Calls Try.prog 20 #[v, .int .i64 src, .string s, .int .i64 dst, .string a] w fun e w' => e = .returned (.int .i64 (M07.move t src s.data.toList dst a.data.toList).2) ∧ Wrote Rep F v (M07.move t src s.data.toList dst a.data.toList).1 w w' := by
  have hR := Lib.hid h
  obtain ⟨hr, sb, mb, lv, rfl, hM⟩ := h
  have HR := Lib.hid hr
  have H := Lib.hid hM
  have HS := Lib.hid (plain_short hs)
  have hm := hs.1
  have HD1 : Hid (Calls _ _ _ _ fun e w' => e = .returned (.int .i64 (dirErr t.L src)) ∧ Below w.heap.size w w') := checkDir_any hM src
  have HD2 : Hid (∀ w', Below w.heap.size w w' → Calls _ _ _ _ fun e w2 => e = .returned (.int .i64 (dirErr t.L dst)) ∧ Below w'.heap.size w' w2) := fun w' hb => checkDir_any (hM.below hb) dst
  have HF1 := Lib.hid (fun (w' : World) (hb : Below w.heap.size w w') => (hM.below hb).find_ HS.out src s)
  have HF2 := Lib.hid (fun (w' : World) (hb : Below w.heap.size w w') => (hM.below hb).find_ HS.out dst a)
  clear hr hM hs
  by_cases h1 : dirErr t.L src = 0
  · have hd1 : (nodeAt t.L src).kind = 1 := dir_zero h1
    by_cases h2 : dirErr t.L dst = 0
    · have hd2 : (nodeAt t.L dst).kind = 1 := dir_zero h2
      rw [find_in HR.out _ hd1] at HF1
      rw [find_in HR.out _ hd2] at HF2
      rw [h1] at HD1
      rw [h2] at HD2
      by_cases h3 : inDir t.L src s.data.toList = 0
      · have HX : Hid (M07.move t src s.data.toList dst a.data.toList = (t, 5)) := move_gone h1 h2 h3
        rw [h3] at HF1
        clear HF2 h1 h2 h3 hd1 hd2
        go_enter Try.func20, Try.ntmps20
        go_wp2_with fail
        refine HD1.out.mono ?_
        rintro e w1 ⟨rfl, hb⟩
        have B1 := Lib.hid hb
        clear hb
        have HD2 := Lib.hid (HD2.out w1 B1.out)
        go_wp2_with fail
        refine HD2.out.mono ?_
        rintro e w2 ⟨rfl, hb⟩
        have B2 := Lib.hid (on B1.out hb)
        clear hb
        obtain ⟨A, c, -, hn, hfd, hfl⟩ := HF1.out w2 B2.out
        have HN := Lib.hid hn
        have HFD := Lib.hid hfd
        clear hn hfd
        go_wp2_with fail
        refine HN.out.mono ?_
        rintro e w3 ⟨rfl, hb⟩
        have HFD := Lib.hid (HFD.out w3 hb)
        have B3 := Lib.hid (on B2.out hb)
        clear hb
        go_wp2_with fail
        refine HFD.out.mono ?_
        rintro e w4 ⟨rfl, hb⟩
        have B4 := Lib.hid (on B3.out hb)
        clear hb hfl HN HFD
        go_wp2_with fail
        go_ret
        rw [HX.out]
        exact ⟨rfl, hR.out.wrote B4.out⟩
      · have HST := Lib.hid (in_stands HR.out hd1 h3)
        have H3 := Lib.hid h3
        have hq : decide (inDir t.L src s.data.toList ≠ 0) = true := decide_eq_true h3
        rw [hq] at HF1
        have hk2 : (nodeAt t.L dst).kind ≠ 0 := by rw [hd2]; decide
        have HK2 := Lib.hid hk2
        have HK1 : Hid ((plainN t src).kind ≠ 0) := by show (nodeAt t.L src).kind ≠ 0; rw [hd1]; decide
        have HCM := Lib.hid (fun (w' : World) (hb : Below w.heap.size w w') => checkMove_any HR.out (H.out.below hb) (inDir t.L src s.data.toList) dst a hk2)
        clear hq hk2
        by_cases h4 : check a.data.toList = 0
        · by_cases h5 : Inside t.L (inDir t.L src s.data.toList) dst
          · have HX : Hid (M07.move t src s.data.toList dst a.data.toList = (t, 14)) := move_in HR.out h1 h2 h3 h4 h5
            have H4 := Lib.hid h4
            have H5 := Lib.hid h5
            clear HF2 h1 h2 h3 h4 h5 hd1 hd2
            generalize inDir t.L src s.data.toList = n at *
            go_enter Try.func20, Try.ntmps20
            go_wp2_with fail
            refine HD1.out.mono ?_
            rintro e w1 ⟨rfl, hb⟩
            have B1 := Lib.hid hb
            clear hb
            have HD2 := Lib.hid (HD2.out w1 B1.out)
            go_wp2_with fail
            refine HD2.out.mono ?_
            rintro e w2 ⟨rfl, hb⟩
            have B2 := Lib.hid (on B1.out hb)
            clear hb
            obtain ⟨A, c, -, hn, hfd, hfl⟩ := HF1.out w2 B2.out
            have HN := Lib.hid hn
            have HFD := Lib.hid hfd
            clear hn hfd
            go_wp2_with fail
            refine HN.out.mono ?_
            rintro e w3 ⟨rfl, hb⟩
            have HFD := Lib.hid (HFD.out w3 hb)
            have B3 := Lib.hid (on B2.out hb)
            clear hb
            go_wp2_with fail
            refine HFD.out.mono ?_
            rintro e w4 ⟨rfl, hb⟩
            have B4 := Lib.hid (on B3.out hb)
            clear hb hfl HN HFD
            obtain ⟨r, r1, r2, r3, hc⟩ := HCM.out w4 B4.out
            have hre := r2 H4.out H5.out
            subst hre
            have HC := Lib.hid hc
            clear hc r1 r2 r3
            go_wp2_with fail
            refine HC.out.mono ?_
            rintro e w5 ⟨rfl, hb⟩
            have B5 := Lib.hid (on B4.out hb)
            clear hb HC
            go_wp2_with fail
            go_ret
            rw [HX.out]
            exact ⟨rfl, hR.out.wrote B5.out⟩
          · have HMO : Hid (M07.move t src s.data.toList dst a.data.toList = moveOn t (inDir t.L src s.data.toList) dst a.data.toList) := move_on h1 h2 h3 h4 h5
            have H2 := Lib.hid h2
            have H4 := Lib.hid h4
            have H5 := Lib.hid h5
            have HD2' := Lib.hid hd2
            have HCR := Lib.hid (fun (w' : World) (hb : Below w.heap.size w w') => checkReplace_any (H.out.below hb) (inDir t.L dst a.data.toList) (inDir t.L src s.data.toList))
            have HRT := Lib.hid (fun hn hr => on_taken HR.out (n := inDir t.L src s.data.toList) h2 (al := a.data.toList) rfl hn hr)
            have HRM := Lib.hid (fun hn hr => on_room HR.out (n := inDir t.L src s.data.toList) h2 (al := a.data.toList) rfl hn hr)
            have HOF := Lib.hid (fun h0 => on_free (t := t) (dst := dst) (al := a.data.toList) h0 h3)
            have HOS := Lib.hid (fun he => on_same (t := t) (dst := dst) (al := a.data.toList) (n := inDir t.L src s.data.toList) he)
            have HNE : Hid (dst ≠ inDir t.L src s.data.toList) := fun e => h5 (by rw [← e]; exact inside_here _ _)
            have HPF := Lib.hid (fun h0 => placed_plain HR.out HST.out hd2 HNE.out (al := a.data.toList) h0 (fun _ => h5))
            have HPR : Hid (inDir t.L dst a.data.toList = 0 → Right (placed t (nodeAt t.L (inDir t.L src s.data.toList)) dst a.data.toList)) := fun h0 => by
              have e := at_some HST.out.2.2.1
              exact placed_right HR.out e.1 (by rw [e.2]; exact HST.out.2.1) hd2 h0 (by rw [e.2]; exact fun _ => h5)
            have HRP := Lib.hid (fun th (e0 : inDir t.L dst a.data.toList = th) h0 hv hth => room_plain HR.out HST.out hd2 HNE.out e0 h0 hv hth (fun _ => h5))
            have HTO := Lib.hid (fun h0 => in_stands HR.out (s := a.data.toList) hd2 h0)
            clear h1 h2 h4 h5 hd1 hd2
            generalize inDir t.L src s.data.toList = n at *
            by_cases h6 : inDir t.L dst a.data.toList = n
            · have HX : Hid (M07.move t src s.data.toList dst a.data.toList = (t, 0)) := HMO.out.trans (HOS.out h6)
              have hq : decide (n ≠ 0) = true := decide_eq_true h3
              rw [h6, hq] at HF2
              clear HCR HRT HRM HOF HOS HPF HPR HRP HTO HMO hq h6
              go_enter Try.func20, Try.ntmps20
              go_wp2_with fail
              refine HD1.out.mono ?_
              rintro e w1 ⟨rfl, hb⟩
              have B1 := Lib.hid hb
              clear hb
              have HD2 := Lib.hid (HD2.out w1 B1.out)
              go_wp2_with fail
              refine HD2.out.mono ?_
              rintro e w2 ⟨rfl, hb⟩
              have B2 := Lib.hid (on B1.out hb)
              clear hb
              obtain ⟨A, c, -, hn, hfd, hfl⟩ := HF1.out w2 B2.out
              have HN := Lib.hid hn
              have HFD := Lib.hid hfd
              clear hn hfd
              go_wp2_with fail
              refine HN.out.mono ?_
              rintro e w3 ⟨rfl, hb⟩
              have HFD := Lib.hid (HFD.out w3 hb)
              have B3 := Lib.hid (on B2.out hb)
              clear hb
              go_wp2_with fail
              refine HFD.out.mono ?_
              rintro e w4 ⟨rfl, hb⟩
              have B4 := Lib.hid (on B3.out hb)
              clear hb hfl HN HFD
              obtain ⟨r, r1, r2, r3, hc⟩ := HCM.out w4 B4.out
              have hre := r3 H4.out H5.out
              subst hre
              have HC := Lib.hid hc
              clear hc r1 r2 r3
              go_wp2_with fail
              refine HC.out.mono ?_
              rintro e w5 ⟨rfl, hb⟩
              have B5 := Lib.hid (on B4.out hb)
              clear hb HC
              obtain ⟨A2, c2, -, hn, hfd, hfl⟩ := HF2.out w5 B5.out
              have HN := Lib.hid hn
              have HFD := Lib.hid hfd
              clear hn hfd
              go_wp2_with fail
              refine HN.out.mono ?_
              rintro e w6 ⟨rfl, hb⟩
              have HFD := Lib.hid (HFD.out w6 hb)
              have B6 := Lib.hid (on B5.out hb)
              clear hb
              go_wp2_with fail
              refine HFD.out.mono ?_
              rintro e w7 ⟨rfl, hb⟩
              have B7 := Lib.hid (on B6.out hb)
              clear hb hfl HN HFD
              go_wp2_with fail
              go_ret
              rw [HX.out]
              exact ⟨rfl, hR.out.wrote B7.out⟩
            · by_cases h7 : inDir t.L dst a.data.toList = 0
              · have HX : Hid (M07.move t src s.data.toList dst a.data.toList = (placed t (nodeAt t.L n) dst a.data.toList, 0)) := HMO.out.trans (HOF.out h7)
                have HPF := Lib.hid (HPF.out h7)
                have HPR := Lib.hid (HPR.out h7)
                have hq : decide ((0 : Int) ≠ 0) = false := by decide
                rw [h7, hq] at HF2
                have HNK : Hid ((plainN t n).kind ≠ 0) := HST.out.2.2.1
                clear HCR HRT HRM HOF HOS HRP HTO HMO hq h6 h7
                go_enter Try.func20, Try.ntmps20
                go_wp2_with fail
                refine HD1.out.mono ?_
                rintro e w1 ⟨rfl, hb⟩
                have B1 := Lib.hid hb
                clear hb
                have HD2 := Lib.hid (HD2.out w1 B1.out)
                go_wp2_with fail
                refine HD2.out.mono ?_
                rintro e w2 ⟨rfl, hb⟩
                have B2 := Lib.hid (on B1.out hb)
                clear hb
                obtain ⟨A, c, -, hn, hfd, hfl⟩ := HF1.out w2 B2.out
                have HN := Lib.hid hn
                have HFD := Lib.hid hfd
                clear hn hfd
                go_wp2_with fail
                refine HN.out.mono ?_
                rintro e w3 ⟨rfl, hb⟩
                have HFD := Lib.hid (HFD.out w3 hb)
                have B3 := Lib.hid (on B2.out hb)
                clear hb
                go_wp2_with fail
                refine HFD.out.mono ?_
                rintro e w4 ⟨rfl, hb⟩
                have B4 := Lib.hid (on B3.out hb)
                clear hb hfl HN HFD
                obtain ⟨r, r1, r2, r3, hc⟩ := HCM.out w4 B4.out
                have hre := r3 H4.out H5.out
                subst hre
                have HC := Lib.hid hc
                clear hc r1 r2 r3
                go_wp2_with fail
                refine HC.out.mono ?_
                rintro e w5 ⟨rfl, hb⟩
                have B5 := Lib.hid (on B4.out hb)
                clear hb HC
                obtain ⟨A2, c2, -, hn, hfd, hfl⟩ := HF2.out w5 B5.out
                have HN := Lib.hid hn
                have HFD := Lib.hid hfd
                clear hn hfd
                go_wp2_with fail
                refine HN.out.mono ?_
                rintro e w6 ⟨rfl, hb⟩
                have HFD := Lib.hid (HFD.out w6 hb)
                have B6 := Lib.hid (on B5.out hb)
                clear hb
                go_wp2_with fail
                refine HFD.out.mono ?_
                rintro e w7 ⟨rfl, hb⟩
                have B7 := Lib.hid (on B6.out hb)
                clear hb hfl HN HFD
                have HU := Lib.hid (unhang_any (H.out.below B7.out) HS.out (by omega) src s HK1.out)
                go_wp2_with fail
                refine HU.out.mono ?_
                rintro e w8 ⟨rfl, hl⟩
                obtain ⟨F8, lv8, M8, T8, hF8⟩ := hl
                have HH := Lib.hid (hang_any M8 (unhang_short HS.out src s.data.toList) (by omega) dst a n (by rw [unhang_kind]; exact HK2.out) (by rw [unhang_kind]; exact HNK.out))
                have HT8 := Lib.hid ((Turns.new (T := fun k => F k ∨ w.heap.size ≤ k) B7.out).trans (T8.wider fun _ => Or.inl))
                have hs7 := B7.out.size
                have HF8 : Hid (∀ k, F8 k → F k ∨ w.heap.size ≤ k) := fun k hk => (hF8 k hk).imp id (fun h => Nat.le_trans hs7 h)
                clear M8 T8 hF8 hs7 HU
                go_wp2_with fail
                refine HH.out.mono ?_
                rintro e w9 ⟨rfl, hl⟩
                obtain ⟨F9, lv9, M9, T9, hF9⟩ := hl
                have HM9 := Lib.hid M9
                have HT9 := Lib.hid (narrow (HT8.out.trans (T9.wider fun k hk => HF8.out k hk)))
                have hs8 := HT8.out.size
                have HF9 : Hid (∀ k, F9 k → F k ∨ w.heap.size ≤ k) := fun k hk => (hF9 k hk).elim (HF8.out k) (fun h => Or.inr (Nat.le_trans hs8 h))
                clear M9 T9 hF9 hs8 HH
                go_wp2_with fail
                go_ret
                rw [HX.out]
                have M9 := HM9.out
                rw [← HPF.out, ← with_len t { nodeAt t.L n with up := dst, name := a.data.toList }] at M9
                exact ⟨rfl, F9, ⟨HPR.out, sb, mb, lv9, rfl, M9⟩, HT9.out, HF9.out⟩
              · have hq : decide (inDir t.L dst a.data.toList ≠ 0) = true := decide_eq_true h7
                rw [hq] at HF2
                have t6 : (inDir t.L dst a.data.toList == n) = false := by simpa using h6
                have HTO := Lib.hid (HTO.out h7)
                have HRP := Lib.hid (fun hv => HRP.out _ rfl h7 hv h6)
                have HRT := Lib.hid (HRT.out h7 h6)
                have HRM := Lib.hid (HRM.out h7 h6)
                have H6 := Lib.hid h6
                clear HOF HOS HPF HPR hq h6 h7
                generalize inDir t.L dst a.data.toList = th at *
                by_cases h8 : replaceN (plainN t th) (plainN t n) = 0
                · obtain ⟨hv, hmo⟩ := HRM.out h8
                  have HX : Hid (M07.move t src s.data.toList dst a.data.toList = (placed ⟨t.L.filter (fun a => decide (a.num ≠ th)), t.last⟩ (nodeAt t.L n) dst a.data.toList, 0)) := HMO.out.trans hmo
                  have HRP := Lib.hid (HRP.out hv)
                  have HV := Lib.hid (list_void hv)
                  rw [h8] at HCR
                  have hln := filter_one HR.out.rise ⟨_, (at_some HTO.out.2.2.1).1, (at_some HTO.out.2.2.1).2⟩
                  have HLN : Hid ((placed ⟨t.L.filter (fun a => decide (a.num ≠ th)), t.last⟩ (nodeAt t.L n) dst a.data.toList).L.length = t.L.length - 1) := by
                    show (List.map _ (t.L.filter _)).length = _
                    rw [List.length_map]; omega
                  have hmn := at_some HST.out.2.2.1
                  have hmt := at_some HTO.out.2.2.1
                  have e1 : src ≠ th := by
                    intro e
                    exact HV.out _ hmn.1 (by rw [hmn.2]; exact HST.out.2.1) (by rw [HST.out.2.2.2.1]; exact e)
                  have e2 : dst ≠ th := by
                    intro e
                    exact HV.out _ hmt.1 (by rw [hmt.2]; exact HTO.out.2.1) (by rw [HTO.out.2.2.2.1]; exact e)
                  have hnt : (plainN t th).kind ≠ 0 := HTO.out.2.2.1
                  have HNT := Lib.hid hnt
                  have hwf := Lib.hid (H.out.wf hnt)
                  have HK1' : Hid ((upd (plainN t) th nod0 src).kind ≠ 0) := by rw [upd_other _ _ e1]; exact HK1.out
                  have HK2' : Hid ((unhangN (upd (plainN t) th nod0) src s.data.toList dst).kind ≠ 0) := by rw [unhang_kind, upd_other _ _ e2]; exact HK2.out
                  have HNK' : Hid ((unhangN (upd (plainN t) th nod0) src s.data.toList n).kind ≠ 0) := by rw [unhang_kind, upd_other _ _ (Ne.symm H6.out)]; exact HST.out.2.2.1
                  clear hv hmo HRM HRT HMO h8 hln hmn hmt e1 e2 hnt
                  go_enter Try.func20, Try.ntmps20
                  go_wp2_with fail
                  refine HD1.out.mono ?_
                  rintro e w1 ⟨rfl, hb⟩
                  have B1 := Lib.hid hb
                  clear hb
                  have HD2 := Lib.hid (HD2.out w1 B1.out)
                  go_wp2_with fail
                  refine HD2.out.mono ?_
                  rintro e w2 ⟨rfl, hb⟩
                  have B2 := Lib.hid (on B1.out hb)
                  clear hb
                  obtain ⟨A, c, -, hn, hfd, hfl⟩ := HF1.out w2 B2.out
                  have HN := Lib.hid hn
                  have HFD := Lib.hid hfd
                  clear hn hfd
                  go_wp2_with fail
                  refine HN.out.mono ?_
                  rintro e w3 ⟨rfl, hb⟩
                  have HFD := Lib.hid (HFD.out w3 hb)
                  have B3 := Lib.hid (on B2.out hb)
                  clear hb
                  go_wp2_with fail
                  refine HFD.out.mono ?_
                  rintro e w4 ⟨rfl, hb⟩
                  have B4 := Lib.hid (on B3.out hb)
                  clear hb hfl HN HFD
                  obtain ⟨r, r1, r2, r3, hc⟩ := HCM.out w4 B4.out
                  have hre := r3 H4.out H5.out
                  subst hre
                  have HC := Lib.hid hc
                  clear hc r1 r2 r3
                  go_wp2_with fail
                  refine HC.out.mono ?_
                  rintro e w5 ⟨rfl, hb⟩
                  have B5 := Lib.hid (on B4.out hb)
                  clear hb HC
                  obtain ⟨A2, c2, -, hn, hfd, hfl⟩ := HF2.out w5 B5.out
                  have HN := Lib.hid hn
                  have HFD := Lib.hid hfd
                  clear hn hfd
                  go_wp2_with fail
                  refine HN.out.mono ?_
                  rintro e w6 ⟨rfl, hb⟩
                  have HFD := Lib.hid (HFD.out w6 hb)
                  have B6 := Lib.hid (on B5.out hb)
                  clear hb
                  go_wp2_with fail
                  refine HFD.out.mono ?_
                  rintro e w7 ⟨rfl, hb⟩
                  have B7 := Lib.hid (on B6.out hb)
                  clear hb hfl HN HFD
                  have HCR := Lib.hid (HCR.out w7 B7.out)
                  go_wp2_with fail
                  refine HCR.out.mono ?_
                  rintro e w8 ⟨rfl, hb⟩
                  have B8 := Lib.hid (on B7.out hb)
                  clear hb HCR
                  have M8 := Lib.hid (H.out.below B8.out)
                  have g0 := M8.out.box.c0
                  go_wp2_with (at_delete; refine wpList_drop _ rfl _ _ 52 3 rfl 51 key_under map_under mb t.L.length (held (plainN t) lv) rfl M8.out.map th rfl hwf.out ?_; intro w9 map9 turn9)
                  have M9 := M8.out.dropped map9 turn9
                  have e9 : (held (plainN t) lv th).isSome = true := by rw [M8.out.some_ HNT.out]; rfl
                  rw [if_pos e9, ← HLN.out] at M9
                  have HT9 := Lib.hid ((Turns.new (T := fun k => F k ∨ w.heap.size ≤ k) B8.out).trans (turned_turns turn9 (Or.inl H.out.fm)))
                  have hlm : (placed ⟨t.L.filter (fun a => decide (a.num ≠ th)), t.last⟩ (nodeAt t.L n) dst a.data.toList).L.length ≤ 1073741824 := by rw [HLN.out]; omega
                  have HLM := Lib.hid hlm
                  have HU := Lib.hid (unhang_any M9 (drop_short HS.out th) hlm src s HK1'.out)
                  have hs8 := HT9.out.size
                  clear M8 g0 M9 map9 turn9 e9 hlm
                  generalize hL : (placed ⟨t.L.filter (fun a => decide (a.num ≠ th)), t.last⟩ (nodeAt t.L n) dst a.data.toList).L.length = ml at *
                  refine HU.out.mono ?_
                  rintro e w10 ⟨rfl, hl⟩
                  obtain ⟨F8, lv8, M8, T8, hF8⟩ := hl
                  have HH := Lib.hid (hang_any M8 (unhang_short (drop_short HS.out th) src s.data.toList) HLM.out dst a n HK2'.out HNK'.out)
                  have HT8 := Lib.hid (HT9.out.trans (T8.wider fun _ => Or.inl))
                  have HF8 : Hid (∀ k, F8 k → F k ∨ w.heap.size ≤ k) := fun k hk => (hF8 k hk).imp id (fun h => Nat.le_trans hs8 h)
                  have HLE := Lib.hid hL
                  clear M8 T8 hF8 hs8 HU HT9 hL HLN
                  go_wp2_with fail
                  refine HH.out.mono ?_
                  rintro e w11 ⟨rfl, hl⟩
                  obtain ⟨F9, lv9, M9, T9, hF9⟩ := hl
                  have HM9 := Lib.hid M9
                  have HT9 := Lib.hid (narrow (HT8.out.trans (T9.wider fun k hk => HF8.out k hk)))
                  have hs8 := HT8.out.size
                  have HF9 : Hid (∀ k, F9 k → F k ∨ w.heap.size ≤ k) := fun k hk => (hF9 k hk).elim (HF8.out k) (fun h => Or.inr (Nat.le_trans hs8 h))
                  clear M9 T9 hF9 hs8 HH
                  go_wp2_with fail
                  go_ret
                  rw [HX.out]
                  have M9 := HM9.out
                  rw [← HRP.out.1, ← HLE.out] at M9
                  exact ⟨rfl, F9, ⟨HRP.out.2, sb, mb, lv9, rfl, M9⟩, HT9.out, HF9.out⟩
                · have HX : Hid (M07.move t src s.data.toList dst a.data.toList = (t, replaceN (plainN t th) (plainN t n))) := HMO.out.trans (HRT.out h8)
                  generalize replaceN (plainN t th) (plainN t n) = rc at *
                  have s2 : (rc != 0) = true := by simpa using h8
                  have s3 : (rc == 0) = false := by simpa using h8
                  clear HRM HRT HMO h8 HRP HTO H6
                  go_enter Try.func20, Try.ntmps20
                  go_wp2_with fail
                  refine HD1.out.mono ?_
                  rintro e w1 ⟨rfl, hb⟩
                  have B1 := Lib.hid hb
                  clear hb
                  have HD2 := Lib.hid (HD2.out w1 B1.out)
                  go_wp2_with fail
                  refine HD2.out.mono ?_
                  rintro e w2 ⟨rfl, hb⟩
                  have B2 := Lib.hid (on B1.out hb)
                  clear hb
                  obtain ⟨A, c, -, hn, hfd, hfl⟩ := HF1.out w2 B2.out
                  have HN := Lib.hid hn
                  have HFD := Lib.hid hfd
                  clear hn hfd
                  go_wp2_with fail
                  refine HN.out.mono ?_
                  rintro e w3 ⟨rfl, hb⟩
                  have HFD := Lib.hid (HFD.out w3 hb)
                  have B3 := Lib.hid (on B2.out hb)
                  clear hb
                  go_wp2_with fail
                  refine HFD.out.mono ?_
                  rintro e w4 ⟨rfl, hb⟩
                  have B4 := Lib.hid (on B3.out hb)
                  clear hb hfl HN HFD
                  obtain ⟨r, r1, r2, r3, hc⟩ := HCM.out w4 B4.out
                  have hre := r3 H4.out H5.out
                  subst hre
                  have HC := Lib.hid hc
                  clear hc r1 r2 r3
                  go_wp2_with fail
                  refine HC.out.mono ?_
                  rintro e w5 ⟨rfl, hb⟩
                  have B5 := Lib.hid (on B4.out hb)
                  clear hb HC
                  obtain ⟨A2, c2, -, hn, hfd, hfl⟩ := HF2.out w5 B5.out
                  have HN := Lib.hid hn
                  have HFD := Lib.hid hfd
                  clear hn hfd
                  go_wp2_with fail
                  refine HN.out.mono ?_
                  rintro e w6 ⟨rfl, hb⟩
                  have HFD := Lib.hid (HFD.out w6 hb)
                  have B6 := Lib.hid (on B5.out hb)
                  clear hb
                  go_wp2_with fail
                  refine HFD.out.mono ?_
                  rintro e w7 ⟨rfl, hb⟩
                  have B7 := Lib.hid (on B6.out hb)
                  clear hb hfl HN HFD
                  have HCR := Lib.hid (HCR.out w7 B7.out)
                  go_wp2_with fail
                  refine HCR.out.mono ?_
                  rintro e w8 ⟨rfl, hb⟩
                  have B8 := Lib.hid (on B7.out hb)
                  clear hb HCR
                  go_wp2_with fail
                  go_ret
                  rw [HX.out]
                  exact ⟨rfl, hR.out.wrote B8.out⟩
        · have HX : Hid (M07.move t src s.data.toList dst a.data.toList = (t, check a.data.toList)) := move_name h1 h2 h3 h4
          have H4 := Lib.hid h4
          have s2 : (check a.data.toList != 0) = true := by simpa using h4
          have s3 : (check a.data.toList == 0) = false := by simpa using h4
          clear HF2 h1 h2 h3 h4 hd1 hd2
          generalize inDir t.L src s.data.toList = n at *
          go_enter Try.func20, Try.ntmps20
          go_wp2_with fail
          refine HD1.out.mono ?_
          rintro e w1 ⟨rfl, hb⟩
          have B1 := Lib.hid hb
          clear hb
          have HD2 := Lib.hid (HD2.out w1 B1.out)
          go_wp2_with fail
          refine HD2.out.mono ?_
          rintro e w2 ⟨rfl, hb⟩
          have B2 := Lib.hid (on B1.out hb)
          clear hb
          obtain ⟨A, c, -, hn, hfd, hfl⟩ := HF1.out w2 B2.out
          have HN := Lib.hid hn
          have HFD := Lib.hid hfd
          clear hn hfd
          go_wp2_with fail
          refine HN.out.mono ?_
          rintro e w3 ⟨rfl, hb⟩
          have HFD := Lib.hid (HFD.out w3 hb)
          have B3 := Lib.hid (on B2.out hb)
          clear hb
          go_wp2_with fail
          refine HFD.out.mono ?_
          rintro e w4 ⟨rfl, hb⟩
          have B4 := Lib.hid (on B3.out hb)
          clear hb hfl HN HFD
          obtain ⟨r, r1, r2, r3, hc⟩ := HCM.out w4 B4.out
          have hre := r1 H4.out
          subst hre
          have HC := Lib.hid hc
          clear hc r1 r2 r3
          go_wp2_with fail
          refine HC.out.mono ?_
          rintro e w5 ⟨rfl, hb⟩
          have B5 := Lib.hid (on B4.out hb)
          clear hb HC
          go_wp2_with fail
          go_ret
          rw [HX.out]
          exact ⟨rfl, hR.out.wrote B5.out⟩
    · have HX : Hid (M07.move t src s.data.toList dst a.data.toList = (t, dirErr t.L dst)) := move_dst h1 h2
      rw [h1] at HD1
      generalize dirErr t.L dst = rc at *
      have s2 : (rc != 0) = true := by simpa using h2
      have s3 : (rc == 0) = false := by simpa using h2
      clear HF1 HF2 h1 h2 hd1
      go_enter Try.func20, Try.ntmps20
      go_wp2_with fail
      refine HD1.out.mono ?_
      rintro e w1 ⟨rfl, hb⟩
      have B1 := Lib.hid hb
      clear hb
      have HD2 := Lib.hid (HD2.out w1 B1.out)
      go_wp2_with fail
      refine HD2.out.mono ?_
      rintro e w2 ⟨rfl, hb⟩
      have B2 := Lib.hid (on B1.out hb)
      clear hb
      go_wp2_with fail
      go_ret
      rw [HX.out]
      exact ⟨rfl, hR.out.wrote B2.out⟩
  · have HX : Hid (M07.move t src s.data.toList dst a.data.toList = (t, dirErr t.L src)) := move_src h1
    generalize dirErr t.L src = rc at *
    have s2 : (rc != 0) = true := by simpa using h1
    have s3 : (rc == 0) = false := by simpa using h1
    clear HF1 HF2 HD2 h1
    go_enter Try.func20, Try.ntmps20
    go_wp2_with fail
    refine HD1.out.mono ?_
    rintro e w1 ⟨rfl, hb⟩
    have B1 := Lib.hid hb
    clear hb
    go_wp2_with fail
    go_ret
    rw [HX.out]
    exact ⟨rfl, hR.out.wrote B1.out⟩
end
end Go.Proofs.Ytelphegeeiocnaa.W07
