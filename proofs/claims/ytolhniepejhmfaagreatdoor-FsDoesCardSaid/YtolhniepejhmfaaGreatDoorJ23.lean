/-
  Texts joined, in build order, each with its own comment and its own conditions: W07Move2, W07Copy, W07Trees, W04Last.
-/
import Derived.Test.YtolhniepejhmfaaGreatDoorJ22
import Derived.Test.YtolhniepejhmfaaGreatDoorJ21
import Derived.Test.YtolhniepejhmfaaGreatDoorJ01
import Derived.Test.YtolhniepejhmfaaGreatDoorChecked
import Derived.Lib.AppendStr
/-
  Layer 7 (tree), walks: the landed code's Move. The bounds stand in the statements.
-/
namespace Go.Proofs.YtolhniepejhmfaaGreatDoor.W07
set_option maxRecDepth 100000
open Go Go.RowKit Go.Proofs.YtolhniepejhmfaaGreatDoor.Strs Go.Proofs.YtolhniepejhmfaaGreatDoor.Recs Go.Proofs.YtolhniepejhmfaaGreatDoor.M07 Go.Proofs.YtolhniepejhmfaaGreatDoor.Maps Go.Proofs.YtolhniepejhmfaaGreatDoor.Range
open Go.Proofs.YtolhniepejhmfaaGreatDoor.M06 (Ent)
open Go.Proofs.YtolhniepejhmfaaGreatDoor.M03 (check)
open Go.Proofs.YtolhniepejhmfaaGreatDoor.W06 (Ents HandsE)
open Go.Proofs.YtolhniepejhmfaaGreatDoor.Kit (ret_str ret_bool ret_int mk_of mk_bytes ba_ext below_draws on list_full list_ne list_none list_nil bytes_nil)

section
variable {F : Nat → Prop} {w w' w1 w2 w3 : World} {v : Value} {t : Tr} {sb mb : Nat} {g : Int → Nod} {lv : Int → Value} {last : Int} {m : Nat}
theorem unhang_short (hs : Short g) (d : Int) (s : Bytes) : Short (unhangN g d s) := fun n => by
  unfold unhangN upd
  split
  · exact Nat.le_trans (M06.cut_len _ _) (hs d)
  · exact hs n
theorem drop_short (hs : Short g) (d : Int) : Short (upd g d nod0) := fun n => by
  unfold upd
  split
  · exact Nat.zero_le _
  · exact hs n
set_option maxHeartbeats 8000000 in
set_option maxRecDepth 100000 in
theorem move_any (h : Rep F w v t) (hs : Small t) (src : Int) (s : ByteArray) (dst : Int) (a : ByteArray) : Calls Tryz.prog 84 #[v, .int .i64 src, .string s, .int .i64 dst, .string a] w fun e w' => e = .returned (.int .i64 (M07.move t src s.data.toList dst a.data.toList).2) ∧ Wrote Rep F v (M07.move t src s.data.toList dst a.data.toList).1 w w' := by
  have hR := Lib.hid h
  obtain ⟨hr, sb, mb, lv, rfl, hM⟩ := h
  have HR := Lib.hid hr
  have H := Lib.hid hM
  have HS := Lib.hid (plain_short hs)
  have hm := hs.1
  have HD1 : Hid (Calls _ _ _ _ fun e w' => e = .returned (.int .i64 (dirErr t.L src)) ∧ Below w.heap.size w w') := checkDir_any hM src
  have HD2 : Hid (∀ w', Below w.heap.size w w' → Calls _ _ _ _ fun e w2 => e = .returned (.int .i64 (dirErr t.L dst)) ∧ Below w'.heap.size w' w2) := fun w' hb => checkDir_any (hM.below hb) dst
  have HF1 := Lib.hid (fun (w' : World) (hb : Below w.heap.size w w') => (hM.below hb).find_ HS.out src s)
  have HF2 := Lib.hid (fun (w' : World) (hb : Below w.heap.size w w') => (hM.below hb).find_ HS.out dst a)
  clear hr hM hs
  by_cases h1 : dirErr t.L src = 0
  · have hd1 : (nodeAt t.L src).kind = 1 := dir_zero h1
    by_cases h2 : dirErr t.L dst = 0
    · have hd2 : (nodeAt t.L dst).kind = 1 := dir_zero h2
      rw [find_in HR.out _ hd1] at HF1
      rw [find_in HR.out _ hd2] at HF2
      rw [h1] at HD1
      rw [h2] at HD2
      by_cases h3 : inDir t.L src s.data.toList = 0
      · have HX : Hid (M07.move t src s.data.toList dst a.data.toList = (t, 5)) := move_gone h1 h2 h3
        rw [h3] at HF1
        clear HF2 h1 h2 h3 hd1 hd2
        go_enter Tryz.func84, Tryz.ntmps84
        go_wp2_with fail
        refine HD1.out.mono ?_
        rintro e w1 ⟨rfl, hb⟩
        have B1 := Lib.hid hb
        clear hb
        have HD2 := Lib.hid (HD2.out w1 B1.out)
        go_wp2_with fail
        refine HD2.out.mono ?_
        rintro e w2 ⟨rfl, hb⟩
        have B2 := Lib.hid (on B1.out hb)
        clear hb
        obtain ⟨A, c, -, hn, hfd, hfl⟩ := HF1.out w2 B2.out
        have HN := Lib.hid hn
        have HFD := Lib.hid hfd
        clear hn hfd
        go_wp2_with fail
        refine HN.out.mono ?_
        rintro e w3 ⟨rfl, hb⟩
        have HFD := Lib.hid (HFD.out w3 hb)
        have B3 := Lib.hid (on B2.out hb)
        clear hb
        go_wp2_with fail
        refine HFD.out.mono ?_
        rintro e w4 ⟨rfl, hb⟩
        have B4 := Lib.hid (on B3.out hb)
        clear hb hfl HN HFD
        go_wp2_with fail
        go_ret
        rw [HX.out]
        exact ⟨rfl, hR.out.wrote B4.out⟩
      · have HST := Lib.hid (in_stands HR.out hd1 h3)
        have H3 := Lib.hid h3
        have hq : decide (inDir t.L src s.data.toList ≠ 0) = true := decide_eq_true h3
        rw [hq] at HF1
        have hk2 : (nodeAt t.L dst).kind ≠ 0 := by rw [hd2]; decide
        have HK2 := Lib.hid hk2
        have HK1 : Hid ((plainN t src).kind ≠ 0) := by show (nodeAt t.L src).kind ≠ 0; rw [hd1]; decide
        have HCM := Lib.hid (fun (w' : World) (hb : Below w.heap.size w w') => checkMove_any HR.out (H.out.below hb) (inDir t.L src s.data.toList) dst a hk2)
        clear hq hk2
        by_cases h4 : check a.data.toList = 0
        · by_cases h5 : Inside t.L (inDir t.L src s.data.toList) dst
          · have HX : Hid (M07.move t src s.data.toList dst a.data.toList = (t, 14)) := move_in HR.out h1 h2 h3 h4 h5
            have H4 := Lib.hid h4
            have H5 := Lib.hid h5
            clear HF2 h1 h2 h3 h4 h5 hd1 hd2
            generalize inDir t.L src s.data.toList = n at *
            go_enter Tryz.func84, Tryz.ntmps84
            go_wp2_with fail
            refine HD1.out.mono ?_
            rintro e w1 ⟨rfl, hb⟩
            have B1 := Lib.hid hb
            clear hb
            have HD2 := Lib.hid (HD2.out w1 B1.out)
            go_wp2_with fail
            refine HD2.out.mono ?_
            rintro e w2 ⟨rfl, hb⟩
            have B2 := Lib.hid (on B1.out hb)
            clear hb
            obtain ⟨A, c, -, hn, hfd, hfl⟩ := HF1.out w2 B2.out
            have HN := Lib.hid hn
            have HFD := Lib.hid hfd
            clear hn hfd
            go_wp2_with fail
            refine HN.out.mono ?_
            rintro e w3 ⟨rfl, hb⟩
            have HFD := Lib.hid (HFD.out w3 hb)
            have B3 := Lib.hid (on B2.out hb)
            clear hb
            go_wp2_with fail
            refine HFD.out.mono ?_
            rintro e w4 ⟨rfl, hb⟩
            have B4 := Lib.hid (on B3.out hb)
            clear hb hfl HN HFD
            obtain ⟨r, r1, r2, r3, hc⟩ := HCM.out w4 B4.out
            have hre := r2 H4.out H5.out
            subst hre
            have HC := Lib.hid hc
            clear hc r1 r2 r3
            go_wp2_with fail
            refine HC.out.mono ?_
            rintro e w5 ⟨rfl, hb⟩
            have B5 := Lib.hid (on B4.out hb)
            clear hb HC
            go_wp2_with fail
            go_ret
            rw [HX.out]
            exact ⟨rfl, hR.out.wrote B5.out⟩
          · have HMO : Hid (M07.move t src s.data.toList dst a.data.toList = moveOn t (inDir t.L src s.data.toList) dst a.data.toList) := move_on h1 h2 h3 h4 h5
            have H2 := Lib.hid h2
            have H4 := Lib.hid h4
            have H5 := Lib.hid h5
            have HD2' := Lib.hid hd2
            have HCR := Lib.hid (fun (w' : World) (hb : Below w.heap.size w w') => checkReplace_any (H.out.below hb) (inDir t.L dst a.data.toList) (inDir t.L src s.data.toList))
            have HRT := Lib.hid (fun hn hr => on_taken HR.out (n := inDir t.L src s.data.toList) h2 (al := a.data.toList) rfl hn hr)
            have HRM := Lib.hid (fun hn hr => on_room HR.out (n := inDir t.L src s.data.toList) h2 (al := a.data.toList) rfl hn hr)
            have HOF := Lib.hid (fun h0 => on_free (t := t) (dst := dst) (al := a.data.toList) h0 h3)
            have HOS := Lib.hid (fun he => on_same (t := t) (dst := dst) (al := a.data.toList) (n := inDir t.L src s.data.toList) he)
            have HNE : Hid (dst ≠ inDir t.L src s.data.toList) := fun e => h5 (by rw [← e]; exact inside_here _ _)
            have HPF := Lib.hid (fun h0 => placed_plain HR.out HST.out hd2 HNE.out (al := a.data.toList) h0 (fun _ => h5))
            have HPR : Hid (inDir t.L dst a.data.toList = 0 → Right (placed t (nodeAt t.L (inDir t.L src s.data.toList)) dst a.data.toList)) := fun h0 => by
              have e := at_some HST.out.2.2.1
              exact placed_right HR.out e.1 (by rw [e.2]; exact HST.out.2.1) hd2 h0 (by rw [e.2]; exact fun _ => h5)
            have HRP := Lib.hid (fun th (e0 : inDir t.L dst a.data.toList = th) h0 hv hth => room_plain HR.out HST.out hd2 HNE.out e0 h0 hv hth (fun _ => h5))
            have HTO := Lib.hid (fun h0 => in_stands HR.out (s := a.data.toList) hd2 h0)
            clear h1 h2 h4 h5 hd1 hd2
            generalize inDir t.L src s.data.toList = n at *
            by_cases h6 : inDir t.L dst a.data.toList = n
            · have HX : Hid (M07.move t src s.data.toList dst a.data.toList = (t, 0)) := HMO.out.trans (HOS.out h6)
              have hq : decide (n ≠ 0) = true := decide_eq_true h3
              rw [h6, hq] at HF2
              clear HCR HRT HRM HOF HOS HPF HPR HRP HTO HMO hq h6
              go_enter Tryz.func84, Tryz.ntmps84
              go_wp2_with fail
              refine HD1.out.mono ?_
              rintro e w1 ⟨rfl, hb⟩
              have B1 := Lib.hid hb
              clear hb
              have HD2 := Lib.hid (HD2.out w1 B1.out)
              go_wp2_with fail
              refine HD2.out.mono ?_
              rintro e w2 ⟨rfl, hb⟩
              have B2 := Lib.hid (on B1.out hb)
              clear hb
              obtain ⟨A, c, -, hn, hfd, hfl⟩ := HF1.out w2 B2.out
              have HN := Lib.hid hn
              have HFD := Lib.hid hfd
              clear hn hfd
              go_wp2_with fail
              refine HN.out.mono ?_
              rintro e w3 ⟨rfl, hb⟩
              have HFD := Lib.hid (HFD.out w3 hb)
              have B3 := Lib.hid (on B2.out hb)
              clear hb
              go_wp2_with fail
              refine HFD.out.mono ?_
              rintro e w4 ⟨rfl, hb⟩
              have B4 := Lib.hid (on B3.out hb)
              clear hb hfl HN HFD
              obtain ⟨r, r1, r2, r3, hc⟩ := HCM.out w4 B4.out
              have hre := r3 H4.out H5.out
              subst hre
              have HC := Lib.hid hc
              clear hc r1 r2 r3
              go_wp2_with fail
              refine HC.out.mono ?_
              rintro e w5 ⟨rfl, hb⟩
              have B5 := Lib.hid (on B4.out hb)
              clear hb HC
              obtain ⟨A2, c2, -, hn, hfd, hfl⟩ := HF2.out w5 B5.out
              have HN := Lib.hid hn
              have HFD := Lib.hid hfd
              clear hn hfd
              go_wp2_with fail
              refine HN.out.mono ?_
              rintro e w6 ⟨rfl, hb⟩
              have HFD := Lib.hid (HFD.out w6 hb)
              have B6 := Lib.hid (on B5.out hb)
              clear hb
              go_wp2_with fail
              refine HFD.out.mono ?_
              rintro e w7 ⟨rfl, hb⟩
              have B7 := Lib.hid (on B6.out hb)
              clear hb hfl HN HFD
              go_wp2_with fail
              go_ret
              rw [HX.out]
              exact ⟨rfl, hR.out.wrote B7.out⟩
            · by_cases h7 : inDir t.L dst a.data.toList = 0
              · have HX : Hid (M07.move t src s.data.toList dst a.data.toList = (placed t (nodeAt t.L n) dst a.data.toList, 0)) := HMO.out.trans (HOF.out h7)
                have HPF := Lib.hid (HPF.out h7)
                have HPR := Lib.hid (HPR.out h7)
                have hq : decide ((0 : Int) ≠ 0) = false := by decide
                rw [h7, hq] at HF2
                have HNK : Hid ((plainN t n).kind ≠ 0) := HST.out.2.2.1
                clear HCR HRT HRM HOF HOS HRP HTO HMO hq h6 h7
                go_enter Tryz.func84, Tryz.ntmps84
                go_wp2_with fail
                refine HD1.out.mono ?_
                rintro e w1 ⟨rfl, hb⟩
                have B1 := Lib.hid hb
                clear hb
                have HD2 := Lib.hid (HD2.out w1 B1.out)
                go_wp2_with fail
                refine HD2.out.mono ?_
                rintro e w2 ⟨rfl, hb⟩
                have B2 := Lib.hid (on B1.out hb)
                clear hb
                obtain ⟨A, c, -, hn, hfd, hfl⟩ := HF1.out w2 B2.out
                have HN := Lib.hid hn
                have HFD := Lib.hid hfd
                clear hn hfd
                go_wp2_with fail
                refine HN.out.mono ?_
                rintro e w3 ⟨rfl, hb⟩
                have HFD := Lib.hid (HFD.out w3 hb)
                have B3 := Lib.hid (on B2.out hb)
                clear hb
                go_wp2_with fail
                refine HFD.out.mono ?_
                rintro e w4 ⟨rfl, hb⟩
                have B4 := Lib.hid (on B3.out hb)
                clear hb hfl HN HFD
                obtain ⟨r, r1, r2, r3, hc⟩ := HCM.out w4 B4.out
                have hre := r3 H4.out H5.out
                subst hre
                have HC := Lib.hid hc
                clear hc r1 r2 r3
                go_wp2_with fail
                refine HC.out.mono ?_
                rintro e w5 ⟨rfl, hb⟩
                have B5 := Lib.hid (on B4.out hb)
                clear hb HC
                obtain ⟨A2, c2, -, hn, hfd, hfl⟩ := HF2.out w5 B5.out
                have HN := Lib.hid hn
                have HFD := Lib.hid hfd
                clear hn hfd
                go_wp2_with fail
                refine HN.out.mono ?_
                rintro e w6 ⟨rfl, hb⟩
                have HFD := Lib.hid (HFD.out w6 hb)
                have B6 := Lib.hid (on B5.out hb)
                clear hb
                go_wp2_with fail
                refine HFD.out.mono ?_
                rintro e w7 ⟨rfl, hb⟩
                have B7 := Lib.hid (on B6.out hb)
                clear hb hfl HN HFD
                have HU := Lib.hid (unhang_any (H.out.below B7.out) HS.out (by omega) src s HK1.out)
                go_wp2_with fail
                refine HU.out.mono ?_
                rintro e w8 ⟨rfl, hl⟩
                obtain ⟨F8, lv8, M8, T8, hF8⟩ := hl
                have HH := Lib.hid (hang_any M8 (unhang_short HS.out src s.data.toList) (by omega) dst a n (by rw [unhang_kind]; exact HK2.out) (by rw [unhang_kind]; exact HNK.out))
                have HT8 := Lib.hid ((Turns.new (T := fun k => F k ∨ w.heap.size ≤ k) B7.out).trans (T8.wider fun _ => Or.inl))
                have hs7 := B7.out.size
                have HF8 : Hid (∀ k, F8 k → F k ∨ w.heap.size ≤ k) := fun k hk => (hF8 k hk).imp id (fun h => Nat.le_trans hs7 h)
                clear M8 T8 hF8 hs7 HU
                go_wp2_with fail
                refine HH.out.mono ?_
                rintro e w9 ⟨rfl, hl⟩
                obtain ⟨F9, lv9, M9, T9, hF9⟩ := hl
                have HM9 := Lib.hid M9
                have HT9 := Lib.hid (narrow (HT8.out.trans (T9.wider fun k hk => HF8.out k hk)))
                have hs8 := HT8.out.size
                have HF9 : Hid (∀ k, F9 k → F k ∨ w.heap.size ≤ k) := fun k hk => (hF9 k hk).elim (HF8.out k) (fun h => Or.inr (Nat.le_trans hs8 h))
                clear M9 T9 hF9 hs8 HH
                go_wp2_with fail
                go_ret
                rw [HX.out]
                have M9 := HM9.out
                rw [← HPF.out, ← with_len t { nodeAt t.L n with up := dst, name := a.data.toList }] at M9
                exact ⟨rfl, F9, ⟨HPR.out, sb, mb, lv9, rfl, M9⟩, HT9.out, HF9.out⟩
              · have hq : decide (inDir t.L dst a.data.toList ≠ 0) = true := decide_eq_true h7
                rw [hq] at HF2
                have t6 : (inDir t.L dst a.data.toList == n) = false := by simpa using h6
                have HTO := Lib.hid (HTO.out h7)
                have HRP := Lib.hid (fun hv => HRP.out _ rfl h7 hv h6)
                have HRT := Lib.hid (HRT.out h7 h6)
                have HRM := Lib.hid (HRM.out h7 h6)
                have H6 := Lib.hid h6
                clear HOF HOS HPF HPR hq h6 h7
                generalize inDir t.L dst a.data.toList = th at *
                by_cases h8 : replaceN (plainN t th) (plainN t n) = 0
                · obtain ⟨hv, hmo⟩ := HRM.out h8
                  have HX : Hid (M07.move t src s.data.toList dst a.data.toList = (placed ⟨t.L.filter (fun a => decide (a.num ≠ th)), t.last⟩ (nodeAt t.L n) dst a.data.toList, 0)) := HMO.out.trans hmo
                  have HRP := Lib.hid (HRP.out hv)
                  have HV := Lib.hid (list_void hv)
                  rw [h8] at HCR
                  have hln := filter_one HR.out.rise ⟨_, (at_some HTO.out.2.2.1).1, (at_some HTO.out.2.2.1).2⟩
                  have HLN : Hid ((placed ⟨t.L.filter (fun a => decide (a.num ≠ th)), t.last⟩ (nodeAt t.L n) dst a.data.toList).L.length = t.L.length - 1) := by
                    show (List.map _ (t.L.filter _)).length = _
                    rw [List.length_map]; omega
                  have hmn := at_some HST.out.2.2.1
                  have hmt := at_some HTO.out.2.2.1
                  have e1 : src ≠ th := by
                    intro e
                    exact HV.out _ hmn.1 (by rw [hmn.2]; exact HST.out.2.1) (by rw [HST.out.2.2.2.1]; exact e)
                  have e2 : dst ≠ th := by
                    intro e
                    exact HV.out _ hmt.1 (by rw [hmt.2]; exact HTO.out.2.1) (by rw [HTO.out.2.2.2.1]; exact e)
                  have hnt : (plainN t th).kind ≠ 0 := HTO.out.2.2.1
                  have HNT := Lib.hid hnt
                  have hwf := Lib.hid (H.out.wf hnt)
                  have HK1' : Hid ((upd (plainN t) th nod0 src).kind ≠ 0) := by rw [upd_other _ _ e1]; exact HK1.out
                  have HK2' : Hid ((unhangN (upd (plainN t) th nod0) src s.data.toList dst).kind ≠ 0) := by rw [unhang_kind, upd_other _ _ e2]; exact HK2.out
                  have HNK' : Hid ((unhangN (upd (plainN t) th nod0) src s.data.toList n).kind ≠ 0) := by rw [unhang_kind, upd_other _ _ (Ne.symm H6.out)]; exact HST.out.2.2.1
                  clear hv hmo HRM HRT HMO h8 hln hmn hmt e1 e2 hnt
                  go_enter Tryz.func84, Tryz.ntmps84
                  go_wp2_with fail
                  refine HD1.out.mono ?_
                  rintro e w1 ⟨rfl, hb⟩
                  have B1 := Lib.hid hb
                  clear hb
                  have HD2 := Lib.hid (HD2.out w1 B1.out)
                  go_wp2_with fail
                  refine HD2.out.mono ?_
                  rintro e w2 ⟨rfl, hb⟩
                  have B2 := Lib.hid (on B1.out hb)
                  clear hb
                  obtain ⟨A, c, -, hn, hfd, hfl⟩ := HF1.out w2 B2.out
                  have HN := Lib.hid hn
                  have HFD := Lib.hid hfd
                  clear hn hfd
                  go_wp2_with fail
                  refine HN.out.mono ?_
                  rintro e w3 ⟨rfl, hb⟩
                  have HFD := Lib.hid (HFD.out w3 hb)
                  have B3 := Lib.hid (on B2.out hb)
                  clear hb
                  go_wp2_with fail
                  refine HFD.out.mono ?_
                  rintro e w4 ⟨rfl, hb⟩
                  have B4 := Lib.hid (on B3.out hb)
                  clear hb hfl HN HFD
                  obtain ⟨r, r1, r2, r3, hc⟩ := HCM.out w4 B4.out
                  have hre := r3 H4.out H5.out
                  subst hre
                  have HC := Lib.hid hc
                  clear hc r1 r2 r3
                  go_wp2_with fail
                  refine HC.out.mono ?_
                  rintro e w5 ⟨rfl, hb⟩
                  have B5 := Lib.hid (on B4.out hb)
                  clear hb HC
                  obtain ⟨A2, c2, -, hn, hfd, hfl⟩ := HF2.out w5 B5.out
                  have HN := Lib.hid hn
                  have HFD := Lib.hid hfd
                  clear hn hfd
                  go_wp2_with fail
                  refine HN.out.mono ?_
                  rintro e w6 ⟨rfl, hb⟩
                  have HFD := Lib.hid (HFD.out w6 hb)
                  have B6 := Lib.hid (on B5.out hb)
                  clear hb
                  go_wp2_with fail
                  refine HFD.out.mono ?_
                  rintro e w7 ⟨rfl, hb⟩
                  have B7 := Lib.hid (on B6.out hb)
                  clear hb hfl HN HFD
                  have HCR := Lib.hid (HCR.out w7 B7.out)
                  go_wp2_with fail
                  refine HCR.out.mono ?_
                  rintro e w8 ⟨rfl, hb⟩
                  have B8 := Lib.hid (on B7.out hb)
                  clear hb HCR
                  have M8 := Lib.hid (H.out.below B8.out)
                  have g0 := M8.out.box.c0
                  go_wp2_with (at_delete; refine wpList_drop _ rfl _ _ 85 3 rfl 89 key_under map_under mb t.L.length (held (plainN t) lv) rfl M8.out.map th rfl hwf.out ?_; intro w9 map9 turn9)
                  have M9 := M8.out.dropped map9 turn9
                  have e9 : (held (plainN t) lv th).isSome = true := by rw [M8.out.some_ HNT.out]; rfl
                  rw [if_pos e9, ← HLN.out] at M9
                  have HT9 := Lib.hid ((Turns.new (T := fun k => F k ∨ w.heap.size ≤ k) B8.out).trans (turned_turns turn9 (Or.inl H.out.fm)))
                  have hlm : (placed ⟨t.L.filter (fun a => decide (a.num ≠ th)), t.last⟩ (nodeAt t.L n) dst a.data.toList).L.length ≤ 1073741824 := by rw [HLN.out]; omega
                  have HLM := Lib.hid hlm
                  have HU := Lib.hid (unhang_any M9 (drop_short HS.out th) hlm src s HK1'.out)
                  have hs8 := HT9.out.size
                  clear M8 g0 M9 map9 turn9 e9 hlm
                  generalize hL : (placed ⟨t.L.filter (fun a => decide (a.num ≠ th)), t.last⟩ (nodeAt t.L n) dst a.data.toList).L.length = ml at *
                  refine HU.out.mono ?_
                  rintro e w10 ⟨rfl, hl⟩
                  obtain ⟨F8, lv8, M8, T8, hF8⟩ := hl
                  have HH := Lib.hid (hang_any M8 (unhang_short (drop_short HS.out th) src s.data.toList) HLM.out dst a n HK2'.out HNK'.out)
                  have HT8 := Lib.hid (HT9.out.trans (T8.wider fun _ => Or.inl))
                  have HF8 : Hid (∀ k, F8 k → F k ∨ w.heap.size ≤ k) := fun k hk => (hF8 k hk).imp id (fun h => Nat.le_trans hs8 h)
                  have HLE := Lib.hid hL
                  clear M8 T8 hF8 hs8 HU HT9 hL HLN
                  go_wp2_with fail
                  refine HH.out.mono ?_
                  rintro e w11 ⟨rfl, hl⟩
                  obtain ⟨F9, lv9, M9, T9, hF9⟩ := hl
                  have HM9 := Lib.hid M9
                  have HT9 := Lib.hid (narrow (HT8.out.trans (T9.wider fun k hk => HF8.out k hk)))
                  have hs8 := HT8.out.size
                  have HF9 : Hid (∀ k, F9 k → F k ∨ w.heap.size ≤ k) := fun k hk => (hF9 k hk).elim (HF8.out k) (fun h => Or.inr (Nat.le_trans hs8 h))
                  clear M9 T9 hF9 hs8 HH
                  go_wp2_with fail
                  go_ret
                  rw [HX.out]
                  have M9 := HM9.out
                  rw [← HRP.out.1, ← HLE.out] at M9
                  exact ⟨rfl, F9, ⟨HRP.out.2, sb, mb, lv9, rfl, M9⟩, HT9.out, HF9.out⟩
                · have HX : Hid (M07.move t src s.data.toList dst a.data.toList = (t, replaceN (plainN t th) (plainN t n))) := HMO.out.trans (HRT.out h8)
                  generalize replaceN (plainN t th) (plainN t n) = rc at *
                  have s2 : (rc != 0) = true := by simpa using h8
                  have s3 : (rc == 0) = false := by simpa using h8
                  clear HRM HRT HMO h8 HRP HTO H6
                  go_enter Tryz.func84, Tryz.ntmps84
                  go_wp2_with fail
                  refine HD1.out.mono ?_
                  rintro e w1 ⟨rfl, hb⟩
                  have B1 := Lib.hid hb
                  clear hb
                  have HD2 := Lib.hid (HD2.out w1 B1.out)
                  go_wp2_with fail
                  refine HD2.out.mono ?_
                  rintro e w2 ⟨rfl, hb⟩
                  have B2 := Lib.hid (on B1.out hb)
                  clear hb
                  obtain ⟨A, c, -, hn, hfd, hfl⟩ := HF1.out w2 B2.out
                  have HN := Lib.hid hn
                  have HFD := Lib.hid hfd
                  clear hn hfd
                  go_wp2_with fail
                  refine HN.out.mono ?_
                  rintro e w3 ⟨rfl, hb⟩
                  have HFD := Lib.hid (HFD.out w3 hb)
                  have B3 := Lib.hid (on B2.out hb)
                  clear hb
                  go_wp2_with fail
                  refine HFD.out.mono ?_
                  rintro e w4 ⟨rfl, hb⟩
                  have B4 := Lib.hid (on B3.out hb)
                  clear hb hfl HN HFD
                  obtain ⟨r, r1, r2, r3, hc⟩ := HCM.out w4 B4.out
                  have hre := r3 H4.out H5.out
                  subst hre
                  have HC := Lib.hid hc
                  clear hc r1 r2 r3
                  go_wp2_with fail
                  refine HC.out.mono ?_
                  rintro e w5 ⟨rfl, hb⟩
                  have B5 := Lib.hid (on B4.out hb)
                  clear hb HC
                  obtain ⟨A2, c2, -, hn, hfd, hfl⟩ := HF2.out w5 B5.out
                  have HN := Lib.hid hn
                  have HFD := Lib.hid hfd
                  clear hn hfd
                  go_wp2_with fail
                  refine HN.out.mono ?_
                  rintro e w6 ⟨rfl, hb⟩
                  have HFD := Lib.hid (HFD.out w6 hb)
                  have B6 := Lib.hid (on B5.out hb)
                  clear hb
                  go_wp2_with fail
                  refine HFD.out.mono ?_
                  rintro e w7 ⟨rfl, hb⟩
                  have B7 := Lib.hid (on B6.out hb)
                  clear hb hfl HN HFD
                  have HCR := Lib.hid (HCR.out w7 B7.out)
                  go_wp2_with fail
                  refine HCR.out.mono ?_
                  rintro e w8 ⟨rfl, hb⟩
                  have B8 := Lib.hid (on B7.out hb)
                  clear hb HCR
                  go_wp2_with fail
                  go_ret
                  rw [HX.out]
                  exact ⟨rfl, hR.out.wrote B8.out⟩
        · have HX : Hid (M07.move t src s.data.toList dst a.data.toList = (t, check a.data.toList)) := move_name h1 h2 h3 h4
          have H4 := Lib.hid h4
          have s2 : (check a.data.toList != 0) = true := by simpa using h4
          have s3 : (check a.data.toList == 0) = false := by simpa using h4
          clear HF2 h1 h2 h3 h4 hd1 hd2
          generalize inDir t.L src s.data.toList = n at *
          go_enter Tryz.func84, Tryz.ntmps84
          go_wp2_with fail
          refine HD1.out.mono ?_
          rintro e w1 ⟨rfl, hb⟩
          have B1 := Lib.hid hb
          clear hb
          have HD2 := Lib.hid (HD2.out w1 B1.out)
          go_wp2_with fail
          refine HD2.out.mono ?_
          rintro e w2 ⟨rfl, hb⟩
          have B2 := Lib.hid (on B1.out hb)
          clear hb
          obtain ⟨A, c, -, hn, hfd, hfl⟩ := HF1.out w2 B2.out
          have HN := Lib.hid hn
          have HFD := Lib.hid hfd
          clear hn hfd
          go_wp2_with fail
          refine HN.out.mono ?_
          rintro e w3 ⟨rfl, hb⟩
          have HFD := Lib.hid (HFD.out w3 hb)
          have B3 := Lib.hid (on B2.out hb)
          clear hb
          go_wp2_with fail
          refine HFD.out.mono ?_
          rintro e w4 ⟨rfl, hb⟩
          have B4 := Lib.hid (on B3.out hb)
          clear hb hfl HN HFD
          obtain ⟨r, r1, r2, r3, hc⟩ := HCM.out w4 B4.out
          have hre := r1 H4.out
          subst hre
          have HC := Lib.hid hc
          clear hc r1 r2 r3
          go_wp2_with fail
          refine HC.out.mono ?_
          rintro e w5 ⟨rfl, hb⟩
          have B5 := Lib.hid (on B4.out hb)
          clear hb HC
          go_wp2_with fail
          go_ret
          rw [HX.out]
          exact ⟨rfl, hR.out.wrote B5.out⟩
    · have HX : Hid (M07.move t src s.data.toList dst a.data.toList = (t, dirErr t.L dst)) := move_dst h1 h2
      rw [h1] at HD1
      generalize dirErr t.L dst = rc at *
      have s2 : (rc != 0) = true := by simpa using h2
      have s3 : (rc == 0) = false := by simpa using h2
      clear HF1 HF2 h1 h2 hd1
      go_enter Tryz.func84, Tryz.ntmps84
      go_wp2_with fail
      refine HD1.out.mono ?_
      rintro e w1 ⟨rfl, hb⟩
      have B1 := Lib.hid hb
      clear hb
      have HD2 := Lib.hid (HD2.out w1 B1.out)
      go_wp2_with fail
      refine HD2.out.mono ?_
      rintro e w2 ⟨rfl, hb⟩
      have B2 := Lib.hid (on B1.out hb)
      clear hb
      go_wp2_with fail
      go_ret
      rw [HX.out]
      exact ⟨rfl, hR.out.wrote B2.out⟩
  · have HX : Hid (M07.move t src s.data.toList dst a.data.toList = (t, dirErr t.L src)) := move_src h1
    generalize dirErr t.L src = rc at *
    have s2 : (rc != 0) = true := by simpa using h1
    have s3 : (rc == 0) = false := by simpa using h1
    clear HF1 HF2 HD2 h1
    go_enter Tryz.func84, Tryz.ntmps84
    go_wp2_with fail
    refine HD1.out.mono ?_
    rintro e w1 ⟨rfl, hb⟩
    have B1 := Lib.hid hb
    clear hb
    go_wp2_with fail
    go_ret
    rw [HX.out]
    exact ⟨rfl, hR.out.wrote B1.out⟩
end
end Go.Proofs.YtolhniepejhmfaaGreatDoor.W07
/-
  Layer 7 (tree), walks: the landed code's Copy: a map filled in whatever order another one is gone through. The bounds stand in the statements.
-/
namespace Go.Proofs.YtolhniepejhmfaaGreatDoor.W07
open Go Go.RowKit Go.Proofs.YtolhniepejhmfaaGreatDoor.Strs Go.Proofs.YtolhniepejhmfaaGreatDoor.Recs Go.Proofs.YtolhniepejhmfaaGreatDoor.M07 Go.Proofs.YtolhniepejhmfaaGreatDoor.Maps Go.Proofs.YtolhniepejhmfaaGreatDoor.Range
open Go.Proofs.YtolhniepejhmfaaGreatDoor.M06 (Ent)
open Go.Proofs.YtolhniepejhmfaaGreatDoor.M03 (check)
open Go.Proofs.YtolhniepejhmfaaGreatDoor.W06 (Ents HandsE)
open Go.Proofs.YtolhniepejhmfaaGreatDoor.Kit (ret_str ret_bool ret_int mk_of mk_bytes ba_ext below_draws on list_full list_ne list_none list_nil bytes_nil)

section
variable {F : Nat → Prop} {w wr w1 w2 w3 w4 w5 : World} {v : Value} {t : Tr} {sb mb : Nat} {g : Int → Nod} {lv lv' : Int → Value} {last : Int} {m sz cnt cnt' : Nat} {left : Int → Bool}
/-- what the copy holds so far -/
structure CopyAt (w wr : World) (g : Int → Nod) (lv' : Int → Value) (left : Int → Bool) (m sz cnt : Nat) : Prop where
  map : MapIs wr Tryz.prog 3 w.heap.size (fun i => if left i = true then none else held g lv' i) sz
  size : sz + cnt ≤ m
  list : ∀ i, (g i).kind ≠ 0 → left i = false → Ents wr.heap.size wr (lv' i) (g i).list
  at_ : ∀ i b o c d, (g i).kind ≠ 0 → left i = false → 0 < (g i).list.length → lv' i = .slice (some ⟨b, o, none⟩) c d → w.heap.size + 1 < b
  below : Below w.heap.size w wr
  next : w.heap.size + 1 < wr.heap.size
theorem CopyAt.start (hg : (w.alloc (.map #[] 0)).grownBy w1 none) (hs : w1.heap.size = w.heap.size + 2) : CopyAt w w1 g (fun _ => .slice none 0 0) (fun i => (held g lv i).isSome) m 0 m where
  map := ((map_made w Tryz.prog 3).keep (hg.block _ (by simp) (by simp))).as (fun i => by
    by_cases e : (g i).kind = 0
    · simp [held, e]
    · simp [held, e]) rfl
  size := by omega
  list := fun i hk hl => by simp [held, hk] at hl
  at_ := fun i b o c d hk hl => by simp [held, hk] at hl
  below := ((Below.refl w.heap.size w).alloc (Nat.le_refl _) _).grown hg (by simp) (fun k hk => by cases hk)
  next := by omega
theorem CopyAt.map4 (h : CopyAt w wr g lv' left m sz cnt) (hg : wr.grownBy w1 (some (w.heap.size + 1))) (hs1 : w1.heap.size = wr.heap.size) (hb : Below w1.heap.size w1 w4) : MapIs w4 Tryz.prog 3 w.heap.size (fun i => if left i = true then none else held g lv' i) sz := by
  have h1 := h.next
  exact h.map.keep ((hb.block _ (by omega)).trans (hg.block _ (by omega) (by intro e; injection e with e; omega)))
theorem CopyAt.below1 (h : CopyAt w wr g lv' left m sz cnt) (hg : wr.grownBy w1 (some (w.heap.size + 1))) : Below w.heap.size w w1 := by
  have h1 := h.next
  exact h.below.grown hg (by omega) (fun k hk => by cases hk; omega)
theorem CopyAt.step {n : Int} {u : Value} (h : CopyAt w wr g lv' left m sz cnt) (hg : wr.grownBy w1 (some (w.heap.size + 1))) (hs1 : w1.heap.size = wr.heap.size) (hb : Below w1.heap.size w1 w4) (hu : Ents w4.heap.size w4 u (g n).list)
    (hn : ∀ b o c d, u = .slice (some ⟨b, o, none⟩) c d → w1.heap.size ≤ b) (hk : (g n).kind ≠ 0) (hmap : MapIs w5 Tryz.prog 3 w.heap.size (upd (fun i => if left i = true then none else held g lv' i) n (some (nodV (g n) u))) (sz + 1)) (ht : w4.mapTurned w5 w.heap.size) (hc : cnt' < cnt) :
    CopyAt w w5 g (upd lv' n u) (upd left n false) m (sz + 1) cnt' := by
  have hnx := h.next
  have hg5 := ht.grown
  have hs4 := hb.size
  have hs5 := hg5.size
  refine ⟨hmap.as (fun i => ?_) rfl, by have := h.size; omega, fun i hi hl => ?_, fun i b o c d hi hl h0 e => ?_, ?_, by omega⟩
  · unfold upd held
    by_cases e : i = n
    · subst e; simp [hk]
    · simp [e]
  · unfold upd at hl ⊢
    by_cases e : i = n
    · subst e
      rw [if_pos rfl]
      refine (ents_keep hu fun b o c d _ _ e2 => hg5.block b ?_ ?_).more hs5
      · assumption
      · have := hn b o c d e2
        intro e3; injection e3 with e3; omega
    · rw [if_neg e] at hl ⊢
      refine (ents_keep (h.list i hi hl) fun b o c d h0 hlt e2 => ?_).more (by omega)
      have hb1 := h.at_ i b o c d hi hl h0 e2
      rw [hg5.block b (by omega) (by intro e3; injection e3 with e3; omega), hb.block b (by omega), hg.block b hlt (by intro e3; injection e3 with e3; omega)]
  · unfold upd at hl e
    by_cases e1 : i = n
    · rw [if_pos e1] at e
      have := hn b o c d e
      omega
    · rw [if_neg e1] at hl e
      exact h.at_ i b o c d hi hl h0 e
  · exact ((h.below1 hg).trans (hb.mono (by omega))).grown hg5 (by omega) (fun k hk => by cases hk; exact Nat.le_refl _)
theorem copy_end (h : CopyAt w wr g lv' left m sz cnt) (hl : ∀ n, left n = false) (H : Mem F w sb mb g lv last m) : Mem (fun k => w.heap.size ≤ k ∧ k < wr.heap.size + 1) (wr.alloc (.cells #[.map (some w.heap.size), .int .i64 last] 87)) wr.heap.size w.heap.size g (fun i => if (g i).kind = 0 then .slice none 0 0 else lv' i) last m := by
  have hmap := h.map
  have hlv : ∀ i, (if left i = true then none else held g lv' i) = held g (fun i => if (g i).kind = 0 then .slice none 0 0 else lv' i) i := fun i => by
    rw [hl i, if_neg (by simp)]
    unfold held
    by_cases e : (g i).kind = 0
    · rw [if_pos e, if_pos e]
    · rw [if_neg e, if_neg e]
      show _ = some (nodV (g i) (if (g i).kind = 0 then _ else _))
      rw [if_neg e]
  have hm2 := hmap.as hlv rfl
  have hsz : m = sz := by
    have hsome : ∀ (l1 l2 : Int → Value) n, (held g l1 n).isSome = true → (held g l2 n).isSome = true := fun l1 l2 n => by
      unfold held
      split
      · intro e; cases e
      · intro _; rfl
    have h1 := H.map.one_size hm2 key_under (hsome _ _)
    have h2 := hm2.one_size H.map key_under (hsome _ _)
    omega
  have hnx := h.next
  have ha : Below wr.heap.size wr (wr.alloc (.cells #[.map (some w.heap.size), .int .i64 last] 87)) := (Below.refl _ _).alloc (Nat.le_refl _) _
  refine ⟨heap_top _ _, ⟨by omega, by omega⟩, ⟨by omega, by omega⟩, fun k hk => by rw [World.size_alloc]; exact hk.2, (hm2.alloc _).as (fun _ => rfl) hsz.symm, fun n hn => ⟨(H.zero n hn).1, if_pos hn⟩, fun n => ?_, fun n b o c d h0 e => ?_⟩
  · by_cases e : (g n).kind = 0
    · show Ents _ _ (if (g n).kind = 0 then _ else _) _
      rw [if_pos e, (H.zero n e).1]; exact recs_nil _ _ _ _
    · show Ents _ _ (if (g n).kind = 0 then _ else _) _
      rw [if_neg e]; exact ((h.list n e (hl n)).below ha).more ha.size
  · have e : (if (g n).kind = 0 then .slice none 0 0 else lv' n) = Value.slice (some ⟨b, o, none⟩) c d := e
    by_cases e1 : (g n).kind = 0
    · rw [if_pos e1] at e; cases e
    · rw [if_neg e1] at e
      have h1 := h.at_ n b o c d e1 (hl n) h0 e
      have hE := h.list n e1 (hl n)
      rw [e] at hE
      obtain ⟨A', c', e', -, -⟩ := hE.form
      injection e' with e4 e5 e6
      obtain ⟨b', o', hl2, e7, hb', -⟩ := Recs.flat_ hE W06.entC_len (by omega) (k := 0) (by omega)
      cases e7
      exact ⟨by omega, by omega⟩
theorem Going.keep2 {r : Nat} {f : Int → Option Value} (h : Going w1 Tryz.prog 3 mb r f m left cnt) (hb : Below w1.heap.size w1 w4) (ht : w4.mapTurned w5 sb) (h1 : mb ≠ sb) (h2 : r ≠ sb) : Going w5 Tryz.prog 3 mb r f m left cnt := by
  have hg := ht.grown
  have hs := hb.size
  have a1 := h.is.lt
  have a2 := h.lt
  exact h.keep ((hg.block _ (by omega) (by intro e; injection e with e; exact h1 e)).trans (hb.block _ a1)) ((hg.block _ (by omega) (by intro e; injection e with e; exact h2 e)).trans (hb.block _ a2))
end
end Go.Proofs.YtolhniepejhmfaaGreatDoor.W07
/-
  Layer 7 (tree): the landed code keeps the contracts that are asked of it ('Trees'); the calls of a nil pointer.
-/
namespace Go.Proofs.YtolhniepejhmfaaGreatDoor.W07
set_option maxRecDepth 100000
open Go Go.RowKit Go.Proofs.YtolhniepejhmfaaGreatDoor.Strs Go.Proofs.YtolhniepejhmfaaGreatDoor.Recs Go.Proofs.YtolhniepejhmfaaGreatDoor.M07 Go.Proofs.YtolhniepejhmfaaGreatDoor.Maps Go.Proofs.YtolhniepejhmfaaGreatDoor.Range
open Go.Proofs.YtolhniepejhmfaaGreatDoor.M06 (Ent)
open Go.Proofs.YtolhniepejhmfaaGreatDoor.M03 (check)
open Go.Proofs.YtolhniepejhmfaaGreatDoor.W06 (Ents HandsE)
open Go.Proofs.YtolhniepejhmfaaGreatDoor.Kit (ret_str ret_bool ret_int mk_of mk_bytes ba_ext below_draws on list_full list_ne list_none list_nil bytes_nil)

theorem trees : Trees Rep where
  keep := fun h hk hs => h.keep hk hs
  low := fun h => h.low
  right := fun h => h.1
  new := new_any
  kind := fun h _ n => by obtain ⟨-, sb, mb, lv, rfl, hM⟩ := h; exact kind_any hM n
  data := fun h _ n => by obtain ⟨-, sb, mb, lv, rfl, hM⟩ := h; exact data_any hM n
  up := fun h _ n => by obtain ⟨-, sb, mb, lv, rfl, hM⟩ := h; exact up_any hM n
  len := fun h _ => by obtain ⟨-, sb, mb, lv, rfl, hM⟩ := h; exact len_any hM
  lists := fun {F w v t} h hs n => by
    obtain ⟨-, sb, mb, lv, rfl, hM⟩ := h
    have hl := plain_short hs n
    refine (list_any hM n (by omega)).mono ?_
    rintro e w' ⟨u, he, hu, hn, hb⟩
    exact ⟨u, he, hu, fun b o n c e2 => Or.inr (hn b o n c e2), hb⟩
  put := fun h hs d s kind x _ => put_any h hs d s kind x
  set := fun h hs n x _ => set_any h hs n x
  cut := fun h hs d s => cut_any h hs d s
  move := fun h hs src s dst a => move_any h hs src s dst a

/-! the calls of a nil pointer -/
def TellsN (u : Value) (w : World) (e : Ending) (w' : World) : Prop := e = .returned u ∧ Below w.heap.size w w'
theorem node_nil (n : Int) (w : World) : Calls Tryz.prog 48 #[.pointer none, .int .i64 n] w fun e w' => e = .returned (.agg #[.int .i64 0, .int .i64 0, .string ⟨#[]⟩, .slice none 0 0]) ∧ Below w.heap.size w w' := by
  go_enter Tryz.func48, Tryz.ntmps48
  go_wp2_with fail
  refine bodyPost_ret_by (v := .agg #[.int .i64 0, .int .i64 0, .string ⟨#[]⟩, .slice none 0 0]) ?_ rfl ⟨rfl, ?_⟩
  · rw [results_cell_one rfl]
    go_simp
  · exact (Below.refl _ _).alloc (Nat.le_refl _) _
theorem kind_nil (w : World) (n : Int) : Calls Tryz.prog 30 #[.pointer none, .int .i64 n] w (TellsN (.int .i64 0) w) := by
  have HC := Lib.hid (node_nil n w)
  have hf := nod_kind 0 0 ⟨#[]⟩ none 0 0
  go_enter Tryz.func30, Tryz.ntmps30
  go_wp2_with fail
  refine HC.out.mono ?_
  rintro e w1 ⟨rfl, hb⟩
  go_wp2_with fail
  go_ret
  exact ⟨rfl, hb⟩
theorem data_nil (w : World) (n : Int) : Calls Tryz.prog 31 #[.pointer none, .int .i64 n] w (TellsN (.string ⟨#[]⟩) w) := by
  have HC := Lib.hid (node_nil n w)
  have hf := nod_data 0 0 ⟨#[]⟩ none 0 0
  go_enter Tryz.func31, Tryz.ntmps31
  go_wp2_with fail
  refine HC.out.mono ?_
  rintro e w1 ⟨rfl, hb⟩
  go_wp2_with fail
  go_ret
  exact ⟨rfl, hb⟩
theorem up_nil (w : World) (n : Int) : Calls Tryz.prog 32 #[.pointer none, .int .i64 n] w (TellsN (.int .i64 0) w) := by
  have HC := Lib.hid (node_nil n w)
  have hf := nod_up 0 0 ⟨#[]⟩ none 0 0
  go_enter Tryz.func32, Tryz.ntmps32
  go_wp2_with fail
  refine HC.out.mono ?_
  rintro e w1 ⟨rfl, hb⟩
  go_wp2_with fail
  go_ret
  exact ⟨rfl, hb⟩
theorem list_nil_tree (w : World) (n : Int) : Calls Tryz.prog 35 #[.pointer none, .int .i64 n] w fun e w' => ∃ A c, TellsN (.slice A 0 c) w e w' := by
  have HC := Lib.hid (node_nil n w)
  have HCL := Lib.hid (fun w' : World => clone_any (w := w') (.slice none 0 0) [] (recs_nil _ _ _ _) (by simp))
  have hf := nod_list 0 0 ⟨#[]⟩ none 0 0
  go_enter Tryz.func35, Tryz.ntmps35
  go_wp2_with fail
  refine HC.out.mono ?_
  rintro e w1 ⟨rfl, hb⟩
  have B1 := Lib.hid hb
  clear hb
  go_wp2_with fail
  refine (HCL.out w1).mono ?_
  rintro e w2 ⟨u, rfl, hu, -, hb⟩
  have B2 := Lib.hid (on B1.out hb)
  obtain ⟨A, c, rfl⟩ := W06.none_form hu
  clear hu hb
  go_wp2_with fail
  go_ret
  exact ⟨A, c, rfl, B2.out⟩
theorem len_nil_tree (w : World) : Calls Tryz.prog 21 #[.pointer none] w (TellsN (.int .i64 0) w) := by
  go_enter Tryz.func21, Tryz.ntmps21
  go_wp2_with fail
  go_ret
  exact ⟨rfl, Below.refl _ _⟩
theorem checkDir_nil (w : World) (n : Int) : Calls Tryz.prog 51 #[.pointer none, .int .i64 n] w (TellsN (.int .i64 1) w) := by
  go_enter Tryz.func51, Tryz.ntmps51
  go_wp2_with fail
  go_ret
  exact ⟨rfl, Below.refl _ _⟩
theorem checkPlace_nil (w : World) (n : Int) (s : ByteArray) : Calls Tryz.prog 36 #[.pointer none, .int .i64 n, .string s] w (TellsN (.int .i64 1) w) := by
  have HC := Lib.hid (checkDir_nil w n)
  go_enter Tryz.func36, Tryz.ntmps36
  go_wp2_with fail
  refine HC.out.mono ?_
  rintro e w1 ⟨rfl, hb⟩
  go_wp2_with fail
  go_ret
  exact ⟨rfl, hb⟩
theorem put_nil (w : World) (d : Int) (s : ByteArray) (k : Int) (x : ByteArray) : Calls Tryz.prog 24 #[.pointer none, .int .i64 d, .string s, .int .i64 k, .string x] w (TellsN (.tuple #[.int .i64 0, .int .i64 1]) w) := by
  have HC := Lib.hid (checkPlace_nil w d s)
  go_enter Tryz.func24, Tryz.ntmps24
  go_wp2_with fail
  refine HC.out.mono ?_
  rintro e w1 ⟨rfl, hb⟩
  go_wp2_with fail
  go_ret2
  exact ⟨rfl, hb⟩
theorem set_nil (w : World) (d : Int) (x : ByteArray) : Calls Tryz.prog 86 #[.pointer none, .int .i64 d, .string x] w (TellsN (.int .i64 1) w) := by
  go_enter Tryz.func86, Tryz.ntmps86
  go_wp2_with fail
  go_ret
  exact ⟨rfl, Below.refl _ _⟩
theorem cut_nil (w : World) (d : Int) (s : ByteArray) : Calls Tryz.prog 98 #[.pointer none, .int .i64 d, .string s] w (TellsN (.int .i64 1) w) := by
  have HC := Lib.hid (checkDir_nil w d)
  go_enter Tryz.func98, Tryz.ntmps98
  go_wp2_with fail
  refine HC.out.mono ?_
  rintro e w1 ⟨rfl, hb⟩
  go_wp2_with fail
  go_ret
  exact ⟨rfl, hb⟩
theorem move_nil (w : World) (d : Int) (s : ByteArray) (k : Int) (x : ByteArray) : Calls Tryz.prog 84 #[.pointer none, .int .i64 d, .string s, .int .i64 k, .string x] w (TellsN (.int .i64 1) w) := by
  have HC := Lib.hid (checkDir_nil w d)
  go_enter Tryz.func84, Tryz.ntmps84
  go_wp2_with fail
  refine HC.out.mono ?_
  rintro e w1 ⟨rfl, hb⟩
  go_wp2_with fail
  go_ret
  exact ⟨rfl, hb⟩
end Go.Proofs.YtolhniepejhmfaaGreatDoor.W07
/-
  The place of the last slash in a text and in a row of bytes: what Go's strings.LastIndexByte and bytes.LastIndexByte return at a slash. No condition but those that each theorem bears.
-/
namespace Go.Proofs.YtolhniepejhmfaaGreatDoor.W04
open Go Go.RowKit
open Go.Proofs.YtolhniepejhmfaaGreatDoor.Kit (ret_str ret_bool ret_int byte_eq byte_ne drop_next drop_end)

/-- the place of the last slash; -1 where there is none -/
def lastSlash (l : List UInt8) : Int := if (47 : UInt8) ∈ l then ((l.length - 1 - (l.reverse.idxOf 47) : Nat) : Int) else -1
theorem last_at {l : List UInt8} {k : Nat} (hk : k < l.length) (h : l.getD k 0 = 47) (h2 : (47 : UInt8) ∉ l.drop (k + 1)) : lastSlash l = k := by
  have e : l = l.take k ++ 47 :: l.drop (k + 1) := by
    conv => lhs; rw [← List.take_append_drop k l, List.drop_eq_getElem_cons hk]
    rw [List.getD_eq_getElem?_getD, List.getElem?_eq_getElem hk] at h
    simp at h
    rw [h]
  have hm : (47 : UInt8) ∈ l := by rw [e]; simp
  have hr : l.reverse = (l.drop (k + 1)).reverse ++ 47 :: (l.take k).reverse := by conv => lhs; rw [e]; simp
  have hi : l.reverse.idxOf 47 = (l.drop (k + 1)).length := by
    rw [hr, List.idxOf_append, if_neg (by simpa using h2)]
    simp
  unfold lastSlash
  rw [if_pos hm, hi, List.length_drop]
  congr 1; omega
theorem last_none {l : List UInt8} (h : (47 : UInt8) ∉ l) : lastSlash l = -1 := by unfold lastSlash; rw [if_neg h]
theorem last_le (l : List UInt8) : -1 ≤ lastSlash l ∧ lastSlash l ≤ l.length := by unfold lastSlash; split <;> omega
theorem drop_zero_no {l : List UInt8} (h : (47 : UInt8) ∉ l.drop 0) : (47 : UInt8) ∉ l := by simpa using h
theorem drop_more {s : ByteArray} {k : Nat} (hk : k < s.size) (h : (47 : UInt8) ∉ s.data.toList.drop (k + 1)) (hc : ¬ s[k] = 47) : (47 : UInt8) ∉ s.data.toList.drop k := by
  rw [drop_next s k hk]
  simp only [List.mem_cons, not_or]
  exact ⟨fun e => hc e.symm, h⟩

theorem cells_get (d : ByteArray) (k : Nat) (hk : k < d.size) : (Lib.strCells d)[k]? = some (.int .u8 (d[k].toNat : Int)) := by
  have h2 : k < d.data.toList.length := by rw [← Lib.size_eq]; exact hk
  unfold Lib.strCells
  rw [List.getElem?_map, List.getElem?_eq_getElem h2]
  rfl
theorem add_zero_at (g k : Nat) : (⟨g, 0, none⟩ : Addr).add k = ⟨g, k, none⟩ := by unfold Addr.add; split <;> simp_all
end Go.Proofs.YtolhniepejhmfaaGreatDoor.W04
