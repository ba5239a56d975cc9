/-
  Texts joined, in build order, each with its own comment and its own conditions: W07Move2, W07Copy, W07Trees, LibReverse, LibJoin, W08Asks, MapAll, W08Seen.
-/
import Derived.Test.YtmbpgjncioegdaaGreatDoorJ17
import Derived.Test.YtmbpgjncioegdaaGreatDoorJ11
import Derived.Test.YtmbpgjncioegdaaGreatDoorJ02
import Derived.Lib.OwnBridge
import Derived.Test.YtmbpgjncioegdaaGreatDoorJ12
import Derived.Test.YtmbpgjncioegdaaGreatDoorJ07
import Derived.Lib.Join
import Derived.Laws.OwnMore
import Derived.Tactics
import Derived.Test.YtmbpgjncioegdaaGreatDoorJ15
import Derived.Test.YtmbpgjncioegdaaGreatDoorJ09
import Derived.Test.YtmbpgjncioegdaaGreatDoorJ13
import Derived.DeepKeys4
import Derived.Test.YtmbpgjncioegdaaGreatDoorChecked
import Derived.Test.YtmbpgjncioegdaaGreatDoorJ01
/-
  Layer 7 (tree), walks: the landed code's Move. The bounds stand in the statements.
-/
namespace Go.Proofs.YtmbpgjncioegdaaGreatDoor.W07
set_option maxRecDepth 100000
open Go Go.RowKit Go.Proofs.YtmbpgjncioegdaaGreatDoor.Strs Go.Proofs.YtmbpgjncioegdaaGreatDoor.Recs Go.Proofs.YtmbpgjncioegdaaGreatDoor.M07 Go.Proofs.YtmbpgjncioegdaaGreatDoor.Maps Go.Proofs.YtmbpgjncioegdaaGreatDoor.Range
open Go.Proofs.YtmbpgjncioegdaaGreatDoor.M06 (Ent)
open Go.Proofs.YtmbpgjncioegdaaGreatDoor.M03 (check)
open Go.Proofs.YtmbpgjncioegdaaGreatDoor.W06 (Ents HandsE)
open Go.Proofs.YtmbpgjncioegdaaGreatDoor.Kit (ret_str ret_bool ret_int mk_of mk_bytes ba_ext below_draws on list_full list_ne list_none list_nil bytes_nil)

section
variable {F : Nat → Prop} {w w' w1 w2 w3 : World} {v : Value} {t : Tr} {sb mb : Nat} {g : Int → Nod} {lv : Int → Value} {last : Int} {m : Nat}
theorem unhang_short (hs : Short g) (d : Int) (s : Bytes) : Short (unhangN g d s) := fun n => by
  unfold unhangN upd
  split
  · exact Nat.le_trans (M06.cut_len _ _) (hs d)
  · exact hs n
theorem drop_short (hs : Short g) (d : Int) : Short (upd g d nod0) := fun n => by
  unfold upd
  split
  · exact Nat.zero_le _
  · exact hs n
set_option maxHeartbeats 8000000 in
set_option maxRecDepth 100000 in
theorem move_any (h : Rep F w v t) (hs : Small t) (src : Int) (s : ByteArray) (dst : Int) (a : ByteArray) : Calls Tryz.prog 116 #[v, .int .i64 src, .string s, .int .i64 dst, .string a] w fun e w' => e = .returned (.int .i64 (M07.move t src s.data.toList dst a.data.toList).2) ∧ Wrote Rep F v (M07.move t src s.data.toList dst a.data.toList).1 w w' := by
  have hR := Lib.hid h
  obtain ⟨hr, sb, mb, lv, rfl, hM⟩ := h
  have HR := Lib.hid hr
  have H := Lib.hid hM
  have HS := Lib.hid (plain_short hs)
  have hm := hs.1
  have HD1 : Hid (Calls _ _ _ _ fun e w' => e = .returned (.int .i64 (dirErr t.L src)) ∧ Below w.heap.size w w') := checkDir_any hM src
  have HD2 : Hid (∀ w', Below w.heap.size w w' → Calls _ _ _ _ fun e w2 => e = .returned (.int .i64 (dirErr t.L dst)) ∧ Below w'.heap.size w' w2) := fun w' hb => checkDir_any (hM.below hb) dst
  have HF1 := Lib.hid (fun (w' : World) (hb : Below w.heap.size w w') => (hM.below hb).find_ HS.out src s)
  have HF2 := Lib.hid (fun (w' : World) (hb : Below w.heap.size w w') => (hM.below hb).find_ HS.out dst a)
  clear hr hM hs
  by_cases h1 : dirErr t.L src = 0
  · have hd1 : (nodeAt t.L src).kind = 1 := dir_zero h1
    by_cases h2 : dirErr t.L dst = 0
    · have hd2 : (nodeAt t.L dst).kind = 1 := dir_zero h2
      rw [find_in HR.out _ hd1] at HF1
      rw [find_in HR.out _ hd2] at HF2
      rw [h1] at HD1
      rw [h2] at HD2
      by_cases h3 : inDir t.L src s.data.toList = 0
      · have HX : Hid (M07.move t src s.data.toList dst a.data.toList = (t, 5)) := move_gone h1 h2 h3
        rw [h3] at HF1
        clear HF2 h1 h2 h3 hd1 hd2
        go_enter Tryz.func116, Tryz.ntmps116
        go_wp2_with fail
        refine HD1.out.mono ?_
        rintro e w1 ⟨rfl, hb⟩
        have B1 := Lib.hid hb
        clear hb
        have HD2 := Lib.hid (HD2.out w1 B1.out)
        go_wp2_with fail
        refine HD2.out.mono ?_
        rintro e w2 ⟨rfl, hb⟩
        have B2 := Lib.hid (on B1.out hb)
        clear hb
        obtain ⟨A, c, -, hn, hfd, hfl⟩ := HF1.out w2 B2.out
        have HN := Lib.hid hn
        have HFD := Lib.hid hfd
        clear hn hfd
        go_wp2_with fail
        refine HN.out.mono ?_
        rintro e w3 ⟨rfl, hb⟩
        have HFD := Lib.hid (HFD.out w3 hb)
        have B3 := Lib.hid (on B2.out hb)
        clear hb
        go_wp2_with fail
        refine HFD.out.mono ?_
        rintro e w4 ⟨rfl, hb⟩
        have B4 := Lib.hid (on B3.out hb)
        clear hb hfl HN HFD
        go_wp2_with fail
        go_ret
        rw [HX.out]
        exact ⟨rfl, hR.out.wrote B4.out⟩
      · have HST := Lib.hid (in_stands HR.out hd1 h3)
        have H3 := Lib.hid h3
        have hq : decide (inDir t.L src s.data.toList ≠ 0) = true := decide_eq_true h3
        rw [hq] at HF1
        have hk2 : (nodeAt t.L dst).kind ≠ 0 := by rw [hd2]; decide
        have HK2 := Lib.hid hk2
        have HK1 : Hid ((plainN t src).kind ≠ 0) := by show (nodeAt t.L src).kind ≠ 0; rw [hd1]; decide
        have HCM := Lib.hid (fun (w' : World) (hb : Below w.heap.size w w') => checkMove_any HR.out (H.out.below hb) (inDir t.L src s.data.toList) dst a hk2)
        clear hq hk2
        by_cases h4 : check a.data.toList = 0
        · by_cases h5 : Inside t.L (inDir t.L src s.data.toList) dst
          · have HX : Hid (M07.move t src s.data.toList dst a.data.toList = (t, 14)) := move_in HR.out h1 h2 h3 h4 h5
            have H4 := Lib.hid h4
            have H5 := Lib.hid h5
            clear HF2 h1 h2 h3 h4 h5 hd1 hd2
            generalize inDir t.L src s.data.toList = n at *
            go_enter Tryz.func116, Tryz.ntmps116
            go_wp2_with fail
            refine HD1.out.mono ?_
            rintro e w1 ⟨rfl, hb⟩
            have B1 := Lib.hid hb
            clear hb
            have HD2 := Lib.hid (HD2.out w1 B1.out)
            go_wp2_with fail
            refine HD2.out.mono ?_
            rintro e w2 ⟨rfl, hb⟩
            have B2 := Lib.hid (on B1.out hb)
            clear hb
            obtain ⟨A, c, -, hn, hfd, hfl⟩ := HF1.out w2 B2.out
            have HN := Lib.hid hn
            have HFD := Lib.hid hfd
            clear hn hfd
            go_wp2_with fail
            refine HN.out.mono ?_
            rintro e w3 ⟨rfl, hb⟩
            have HFD := Lib.hid (HFD.out w3 hb)
            have B3 := Lib.hid (on B2.out hb)
            clear hb
            go_wp2_with fail
            refine HFD.out.mono ?_
            rintro e w4 ⟨rfl, hb⟩
            have B4 := Lib.hid (on B3.out hb)
            clear hb hfl HN HFD
            obtain ⟨r, r1, r2, r3, hc⟩ := HCM.out w4 B4.out
            have hre := r2 H4.out H5.out
            subst hre
            have HC := Lib.hid hc
            clear hc r1 r2 r3
            go_wp2_with fail
            refine HC.out.mono ?_
            rintro e w5 ⟨rfl, hb⟩
            have B5 := Lib.hid (on B4.out hb)
            clear hb HC
            go_wp2_with fail
            go_ret
            rw [HX.out]
            exact ⟨rfl, hR.out.wrote B5.out⟩
          · have HMO : Hid (M07.move t src s.data.toList dst a.data.toList = moveOn t (inDir t.L src s.data.toList) dst a.data.toList) := move_on h1 h2 h3 h4 h5
            have H2 := Lib.hid h2
            have H4 := Lib.hid h4
            have H5 := Lib.hid h5
            have HD2' := Lib.hid hd2
            have HCR := Lib.hid (fun (w' : World) (hb : Below w.heap.size w w') => checkReplace_any (H.out.below hb) (inDir t.L dst a.data.toList) (inDir t.L src s.data.toList))
            have HRT := Lib.hid (fun hn hr => on_taken HR.out (n := inDir t.L src s.data.toList) h2 (al := a.data.toList) rfl hn hr)
            have HRM := Lib.hid (fun hn hr => on_room HR.out (n := inDir t.L src s.data.toList) h2 (al := a.data.toList) rfl hn hr)
            have HOF := Lib.hid (fun h0 => on_free (t := t) (dst := dst) (al := a.data.toList) h0 h3)
            have HOS := Lib.hid (fun he => on_same (t := t) (dst := dst) (al := a.data.toList) (n := inDir t.L src s.data.toList) he)
            have HNE : Hid (dst ≠ inDir t.L src s.data.toList) := fun e => h5 (by rw [← e]; exact inside_here _ _)
            have HPF := Lib.hid (fun h0 => placed_plain HR.out HST.out hd2 HNE.out (al := a.data.toList) h0 (fun _ => h5))
            have HPR : Hid (inDir t.L dst a.data.toList = 0 → Right (placed t (nodeAt t.L (inDir t.L src s.data.toList)) dst a.data.toList)) := fun h0 => by
              have e := at_some HST.out.2.2.1
              exact placed_right HR.out e.1 (by rw [e.2]; exact HST.out.2.1) hd2 h0 (by rw [e.2]; exact fun _ => h5)
            have HRP := Lib.hid (fun th (e0 : inDir t.L dst a.data.toList = th) h0 hv hth => room_plain HR.out HST.out hd2 HNE.out e0 h0 hv hth (fun _ => h5))
            have HTO := Lib.hid (fun h0 => in_stands HR.out (s := a.data.toList) hd2 h0)
            clear h1 h2 h4 h5 hd1 hd2
            generalize inDir t.L src s.data.toList = n at *
            by_cases h6 : inDir t.L dst a.data.toList = n
            · have HX : Hid (M07.move t src s.data.toList dst a.data.toList = (t, 0)) := HMO.out.trans (HOS.out h6)
              have hq : decide (n ≠ 0) = true := decide_eq_true h3
              rw [h6, hq] at HF2
              clear HCR HRT HRM HOF HOS HPF HPR HRP HTO HMO hq h6
              go_enter Tryz.func116, Tryz.ntmps116
              go_wp2_with fail
              refine HD1.out.mono ?_
              rintro e w1 ⟨rfl, hb⟩
              have B1 := Lib.hid hb
              clear hb
              have HD2 := Lib.hid (HD2.out w1 B1.out)
              go_wp2_with fail
              refine HD2.out.mono ?_
              rintro e w2 ⟨rfl, hb⟩
              have B2 := Lib.hid (on B1.out hb)
              clear hb
              obtain ⟨A, c, -, hn, hfd, hfl⟩ := HF1.out w2 B2.out
              have HN := Lib.hid hn
              have HFD := Lib.hid hfd
              clear hn hfd
              go_wp2_with fail
              refine HN.out.mono ?_
              rintro e w3 ⟨rfl, hb⟩
              have HFD := Lib.hid (HFD.out w3 hb)
              have B3 := Lib.hid (on B2.out hb)
              clear hb
              go_wp2_with fail
              refine HFD.out.mono ?_
              rintro e w4 ⟨rfl, hb⟩
              have B4 := Lib.hid (on B3.out hb)
              clear hb hfl HN HFD
              obtain ⟨r, r1, r2, r3, hc⟩ := HCM.out w4 B4.out
              have hre := r3 H4.out H5.out
              subst hre
              have HC := Lib.hid hc
              clear hc r1 r2 r3
              go_wp2_with fail
              refine HC.out.mono ?_
              rintro e w5 ⟨rfl, hb⟩
              have B5 := Lib.hid (on B4.out hb)
              clear hb HC
              obtain ⟨A2, c2, -, hn, hfd, hfl⟩ := HF2.out w5 B5.out
              have HN := Lib.hid hn
              have HFD := Lib.hid hfd
              clear hn hfd
              go_wp2_with fail
              refine HN.out.mono ?_
              rintro e w6 ⟨rfl, hb⟩
              have HFD := Lib.hid (HFD.out w6 hb)
              have B6 := Lib.hid (on B5.out hb)
              clear hb
              go_wp2_with fail
              refine HFD.out.mono ?_
              rintro e w7 ⟨rfl, hb⟩
              have B7 := Lib.hid (on B6.out hb)
              clear hb hfl HN HFD
              go_wp2_with fail
              go_ret
              rw [HX.out]
              exact ⟨rfl, hR.out.wrote B7.out⟩
            · by_cases h7 : inDir t.L dst a.data.toList = 0
              · have HX : Hid (M07.move t src s.data.toList dst a.data.toList = (placed t (nodeAt t.L n) dst a.data.toList, 0)) := HMO.out.trans (HOF.out h7)
                have HPF := Lib.hid (HPF.out h7)
                have HPR := Lib.hid (HPR.out h7)
                have hq : decide ((0 : Int) ≠ 0) = false := by decide
                rw [h7, hq] at HF2
                have HNK : Hid ((plainN t n).kind ≠ 0) := HST.out.2.2.1
                clear HCR HRT HRM HOF HOS HRP HTO HMO hq h6 h7
                go_enter Tryz.func116, Tryz.ntmps116
                go_wp2_with fail
                refine HD1.out.mono ?_
                rintro e w1 ⟨rfl, hb⟩
                have B1 := Lib.hid hb
                clear hb
                have HD2 := Lib.hid (HD2.out w1 B1.out)
                go_wp2_with fail
                refine HD2.out.mono ?_
                rintro e w2 ⟨rfl, hb⟩
                have B2 := Lib.hid (on B1.out hb)
                clear hb
                obtain ⟨A, c, -, hn, hfd, hfl⟩ := HF1.out w2 B2.out
                have HN := Lib.hid hn
                have HFD := Lib.hid hfd
                clear hn hfd
                go_wp2_with fail
                refine HN.out.mono ?_
                rintro e w3 ⟨rfl, hb⟩
                have HFD := Lib.hid (HFD.out w3 hb)
                have B3 := Lib.hid (on B2.out hb)
                clear hb
                go_wp2_with fail
                refine HFD.out.mono ?_
                rintro e w4 ⟨rfl, hb⟩
                have B4 := Lib.hid (on B3.out hb)
                clear hb hfl HN HFD
                obtain ⟨r, r1, r2, r3, hc⟩ := HCM.out w4 B4.out
                have hre := r3 H4.out H5.out
                subst hre
                have HC := Lib.hid hc
                clear hc r1 r2 r3
                go_wp2_with fail
                refine HC.out.mono ?_
                rintro e w5 ⟨rfl, hb⟩
                have B5 := Lib.hid (on B4.out hb)
                clear hb HC
                obtain ⟨A2, c2, -, hn, hfd, hfl⟩ := HF2.out w5 B5.out
                have HN := Lib.hid hn
                have HFD := Lib.hid hfd
                clear hn hfd
                go_wp2_with fail
                refine HN.out.mono ?_
                rintro e w6 ⟨rfl, hb⟩
                have HFD := Lib.hid (HFD.out w6 hb)
                have B6 := Lib.hid (on B5.out hb)
                clear hb
                go_wp2_with fail
                refine HFD.out.mono ?_
                rintro e w7 ⟨rfl, hb⟩
                have B7 := Lib.hid (on B6.out hb)
                clear hb hfl HN HFD
                have HU := Lib.hid (unhang_any (H.out.below B7.out) HS.out (by omega) src s HK1.out)
                go_wp2_with fail
                refine HU.out.mono ?_
                rintro e w8 ⟨rfl, hl⟩
                obtain ⟨F8, lv8, M8, T8, hF8⟩ := hl
                have HH := Lib.hid (hang_any M8 (unhang_short HS.out src s.data.toList) (by omega) dst a n (by rw [unhang_kind]; exact HK2.out) (by rw [unhang_kind]; exact HNK.out))
                have HT8 := Lib.hid ((Turns.new (T := fun k => F k ∨ w.heap.size ≤ k) B7.out).trans (T8.wider fun _ => Or.inl))
                have hs7 := B7.out.size
                have HF8 : Hid (∀ k, F8 k → F k ∨ w.heap.size ≤ k) := fun k hk => (hF8 k hk).imp id (fun h => Nat.le_trans hs7 h)
                clear M8 T8 hF8 hs7 HU
                go_wp2_with fail
                refine HH.out.mono ?_
                rintro e w9 ⟨rfl, hl⟩
                obtain ⟨F9, lv9, M9, T9, hF9⟩ := hl
                have HM9 := Lib.hid M9
                have HT9 := Lib.hid (narrow (HT8.out.trans (T9.wider fun k hk => HF8.out k hk)))
                have hs8 := HT8.out.size
                have HF9 : Hid (∀ k, F9 k → F k ∨ w.heap.size ≤ k) := fun k hk => (hF9 k hk).elim (HF8.out k) (fun h => Or.inr (Nat.le_trans hs8 h))
                clear M9 T9 hF9 hs8 HH
                go_wp2_with fail
                go_ret
                rw [HX.out]
                have M9 := HM9.out
                rw [← HPF.out, ← with_len t { nodeAt t.L n with up := dst, name := a.data.toList }] at M9
                exact ⟨rfl, F9, ⟨HPR.out, sb, mb, lv9, rfl, M9⟩, HT9.out, HF9.out⟩
              · have hq : decide (inDir t.L dst a.data.toList ≠ 0) = true := decide_eq_true h7
                rw [hq] at HF2
                have t6 : (inDir t.L dst a.data.toList == n) = false := by simpa using h6
                have HTO := Lib.hid (HTO.out h7)
                have HRP := Lib.hid (fun hv => HRP.out _ rfl h7 hv h6)
                have HRT := Lib.hid (HRT.out h7 h6)
                have HRM := Lib.hid (HRM.out h7 h6)
                have H6 := Lib.hid h6
                clear HOF HOS HPF HPR hq h6 h7
                generalize inDir t.L dst a.data.toList = th at *
                by_cases h8 : replaceN (plainN t th) (plainN t n) = 0
                · obtain ⟨hv, hmo⟩ := HRM.out h8
                  have HX : Hid (M07.move t src s.data.toList dst a.data.toList = (placed ⟨t.L.filter (fun a => decide (a.num ≠ th)), t.last⟩ (nodeAt t.L n) dst a.data.toList, 0)) := HMO.out.trans hmo
                  have HRP := Lib.hid (HRP.out hv)
                  have HV := Lib.hid (list_void hv)
                  rw [h8] at HCR
                  have hln := filter_one HR.out.rise ⟨_, (at_some HTO.out.2.2.1).1, (at_some HTO.out.2.2.1).2⟩
                  have HLN : Hid ((placed ⟨t.L.filter (fun a => decide (a.num ≠ th)), t.last⟩ (nodeAt t.L n) dst a.data.toList).L.length = t.L.length - 1) := by
                    show (List.map _ (t.L.filter _)).length = _
                    rw [List.length_map]; omega
                  have hmn := at_some HST.out.2.2.1
                  have hmt := at_some HTO.out.2.2.1
                  have e1 : src ≠ th := by
                    intro e
                    exact HV.out _ hmn.1 (by rw [hmn.2]; exact HST.out.2.1) (by rw [HST.out.2.2.2.1]; exact e)
                  have e2 : dst ≠ th := by
                    intro e
                    exact HV.out _ hmt.1 (by rw [hmt.2]; exact HTO.out.2.1) (by rw [HTO.out.2.2.2.1]; exact e)
                  have hnt : (plainN t th).kind ≠ 0 := HTO.out.2.2.1
                  have HNT := Lib.hid hnt
                  have hwf := Lib.hid (H.out.wf hnt)
                  have HK1' : Hid ((upd (plainN t) th nod0 src).kind ≠ 0) := by rw [upd_other _ _ e1]; exact HK1.out
                  have HK2' : Hid ((unhangN (upd (plainN t) th nod0) src s.data.toList dst).kind ≠ 0) := by rw [unhang_kind, upd_other _ _ e2]; exact HK2.out
                  have HNK' : Hid ((unhangN (upd (plainN t) th nod0) src s.data.toList n).kind ≠ 0) := by rw [unhang_kind, upd_other _ _ (Ne.symm H6.out)]; exact HST.out.2.2.1
                  clear hv hmo HRM HRT HMO h8 hln hmn hmt e1 e2 hnt
                  go_enter Tryz.func116, Tryz.ntmps116
                  go_wp2_with fail
                  refine HD1.out.mono ?_
                  rintro e w1 ⟨rfl, hb⟩
                  have B1 := Lib.hid hb
                  clear hb
                  have HD2 := Lib.hid (HD2.out w1 B1.out)
                  go_wp2_with fail
                  refine HD2.out.mono ?_
                  rintro e w2 ⟨rfl, hb⟩
                  have B2 := Lib.hid (on B1.out hb)
                  clear hb
                  obtain ⟨A, c, -, hn, hfd, hfl⟩ := HF1.out w2 B2.out
                  have HN := Lib.hid hn
                  have HFD := Lib.hid hfd
                  clear hn hfd
                  go_wp2_with fail
                  refine HN.out.mono ?_
                  rintro e w3 ⟨rfl, hb⟩
                  have HFD := Lib.hid (HFD.out w3 hb)
                  have B3 := Lib.hid (on B2.out hb)
                  clear hb
                  go_wp2_with fail
                  refine HFD.out.mono ?_
                  rintro e w4 ⟨rfl, hb⟩
                  have B4 := Lib.hid (on B3.out hb)
                  clear hb hfl HN HFD
                  obtain ⟨r, r1, r2, r3, hc⟩ := HCM.out w4 B4.out
                  have hre := r3 H4.out H5.out
                  subst hre
                  have HC := Lib.hid hc
                  clear hc r1 r2 r3
                  go_wp2_with fail
                  refine HC.out.mono ?_
                  rintro e w5 ⟨rfl, hb⟩
                  have B5 := Lib.hid (on B4.out hb)
                  clear hb HC
                  obtain ⟨A2, c2, -, hn, hfd, hfl⟩ := HF2.out w5 B5.out
                  have HN := Lib.hid hn
                  have HFD := Lib.hid hfd
                  clear hn hfd
                  go_wp2_with fail
                  refine HN.out.mono ?_
                  rintro e w6 ⟨rfl, hb⟩
                  have HFD := Lib.hid (HFD.out w6 hb)
                  have B6 := Lib.hid (on B5.out hb)
                  clear hb
                  go_wp2_with fail
                  refine HFD.out.mono ?_
                  rintro e w7 ⟨rfl, hb⟩
                  have B7 := Lib.hid (on B6.out hb)
                  clear hb hfl HN HFD
                  have HCR := Lib.hid (HCR.out w7 B7.out)
                  go_wp2_with fail
                  refine HCR.out.mono ?_
                  rintro e w8 ⟨rfl, hb⟩
                  have B8 := Lib.hid (on B7.out hb)
                  clear hb HCR
                  have M8 := Lib.hid (H.out.below B8.out)
                  have g0 := M8.out.box.c0
                  go_wp2_with (at_delete; refine wpList_drop _ rfl _ _ 88 3 rfl 87 key_under map_under mb t.L.length (held (plainN t) lv) rfl M8.out.map th rfl hwf.out ?_; intro w9 map9 turn9)
                  have M9 := M8.out.dropped map9 turn9
                  have e9 : (held (plainN t) lv th).isSome = true := by rw [M8.out.some_ HNT.out]; rfl
                  rw [if_pos e9, ← HLN.out] at M9
                  have HT9 := Lib.hid ((Turns.new (T := fun k => F k ∨ w.heap.size ≤ k) B8.out).trans (turned_turns turn9 (Or.inl H.out.fm)))
                  have hlm : (placed ⟨t.L.filter (fun a => decide (a.num ≠ th)), t.last⟩ (nodeAt t.L n) dst a.data.toList).L.length ≤ 1073741824 := by rw [HLN.out]; omega
                  have HLM := Lib.hid hlm
                  have HU := Lib.hid (unhang_any M9 (drop_short HS.out th) hlm src s HK1'.out)
                  have hs8 := HT9.out.size
                  clear M8 g0 M9 map9 turn9 e9 hlm
                  generalize hL : (placed ⟨t.L.filter (fun a => decide (a.num ≠ th)), t.last⟩ (nodeAt t.L n) dst a.data.toList).L.length = ml at *
                  refine HU.out.mono ?_
                  rintro e w10 ⟨rfl, hl⟩
                  obtain ⟨F8, lv8, M8, T8, hF8⟩ := hl
                  have HH := Lib.hid (hang_any M8 (unhang_short (drop_short HS.out th) src s.data.toList) HLM.out dst a n HK2'.out HNK'.out)
                  have HT8 := Lib.hid (HT9.out.trans (T8.wider fun _ => Or.inl))
                  have HF8 : Hid (∀ k, F8 k → F k ∨ w.heap.size ≤ k) := fun k hk => (hF8 k hk).imp id (fun h => Nat.le_trans hs8 h)
                  have HLE := Lib.hid hL
                  clear M8 T8 hF8 hs8 HU HT9 hL HLN
                  go_wp2_with fail
                  refine HH.out.mono ?_
                  rintro e w11 ⟨rfl, hl⟩
                  obtain ⟨F9, lv9, M9, T9, hF9⟩ := hl
                  have HM9 := Lib.hid M9
                  have HT9 := Lib.hid (narrow (HT8.out.trans (T9.wider fun k hk => HF8.out k hk)))
                  have hs8 := HT8.out.size
                  have HF9 : Hid (∀ k, F9 k → F k ∨ w.heap.size ≤ k) := fun k hk => (hF9 k hk).elim (HF8.out k) (fun h => Or.inr (Nat.le_trans hs8 h))
                  clear M9 T9 hF9 hs8 HH
                  go_wp2_with fail
                  go_ret
                  rw [HX.out]
                  have M9 := HM9.out
                  rw [← HRP.out.1, ← HLE.out] at M9
                  exact ⟨rfl, F9, ⟨HRP.out.2, sb, mb, lv9, rfl, M9⟩, HT9.out, HF9.out⟩
                · have HX : Hid (M07.move t src s.data.toList dst a.data.toList = (t, replaceN (plainN t th) (plainN t n))) := HMO.out.trans (HRT.out h8)
                  generalize replaceN (plainN t th) (plainN t n) = rc at *
                  have s2 : (rc != 0) = true := by simpa using h8
                  have s3 : (rc == 0) = false := by simpa using h8
                  clear HRM HRT HMO h8 HRP HTO H6
                  go_enter Tryz.func116, Tryz.ntmps116
                  go_wp2_with fail
                  refine HD1.out.mono ?_
                  rintro e w1 ⟨rfl, hb⟩
                  have B1 := Lib.hid hb
                  clear hb
                  have HD2 := Lib.hid (HD2.out w1 B1.out)
                  go_wp2_with fail
                  refine HD2.out.mono ?_
                  rintro e w2 ⟨rfl, hb⟩
                  have B2 := Lib.hid (on B1.out hb)
                  clear hb
                  obtain ⟨A, c, -, hn, hfd, hfl⟩ := HF1.out w2 B2.out
                  have HN := Lib.hid hn
                  have HFD := Lib.hid hfd
                  clear hn hfd
                  go_wp2_with fail
                  refine HN.out.mono ?_
                  rintro e w3 ⟨rfl, hb⟩
                  have HFD := Lib.hid (HFD.out w3 hb)
                  have B3 := Lib.hid (on B2.out hb)
                  clear hb
                  go_wp2_with fail
                  refine HFD.out.mono ?_
                  rintro e w4 ⟨rfl, hb⟩
                  have B4 := Lib.hid (on B3.out hb)
                  clear hb hfl HN HFD
                  obtain ⟨r, r1, r2, r3, hc⟩ := HCM.out w4 B4.out
                  have hre := r3 H4.out H5.out
                  subst hre
                  have HC := Lib.hid hc
                  clear hc r1 r2 r3
                  go_wp2_with fail
                  refine HC.out.mono ?_
                  rintro e w5 ⟨rfl, hb⟩
                  have B5 := Lib.hid (on B4.out hb)
                  clear hb HC
                  obtain ⟨A2, c2, -, hn, hfd, hfl⟩ := HF2.out w5 B5.out
                  have HN := Lib.hid hn
                  have HFD := Lib.hid hfd
                  clear hn hfd
                  go_wp2_with fail
                  refine HN.out.mono ?_
                  rintro e w6 ⟨rfl, hb⟩
                  have HFD := Lib.hid (HFD.out w6 hb)
                  have B6 := Lib.hid (on B5.out hb)
                  clear hb
                  go_wp2_with fail
                  refine HFD.out.mono ?_
                  rintro e w7 ⟨rfl, hb⟩
                  have B7 := Lib.hid (on B6.out hb)
                  clear hb hfl HN HFD
                  have HCR := Lib.hid (HCR.out w7 B7.out)
                  go_wp2_with fail
                  refine HCR.out.mono ?_
                  rintro e w8 ⟨rfl, hb⟩
                  have B8 := Lib.hid (on B7.out hb)
                  clear hb HCR
                  go_wp2_with fail
                  go_ret
                  rw [HX.out]
                  exact ⟨rfl, hR.out.wrote B8.out⟩
        · have HX : Hid (M07.move t src s.data.toList dst a.data.toList = (t, check a.data.toList)) := move_name h1 h2 h3 h4
          have H4 := Lib.hid h4
          have s2 : (check a.data.toList != 0) = true := by simpa using h4
          have s3 : (check a.data.toList == 0) = false := by simpa using h4
          clear HF2 h1 h2 h3 h4 hd1 hd2
          generalize inDir t.L src s.data.toList = n at *
          go_enter Tryz.func116, Tryz.ntmps116
          go_wp2_with fail
          refine HD1.out.mono ?_
          rintro e w1 ⟨rfl, hb⟩
          have B1 := Lib.hid hb
          clear hb
          have HD2 := Lib.hid (HD2.out w1 B1.out)
          go_wp2_with fail
          refine HD2.out.mono ?_
          rintro e w2 ⟨rfl, hb⟩
          have B2 := Lib.hid (on B1.out hb)
          clear hb
          obtain ⟨A, c, -, hn, hfd, hfl⟩ := HF1.out w2 B2.out
          have HN := Lib.hid hn
          have HFD := Lib.hid hfd
          clear hn hfd
          go_wp2_with fail
          refine HN.out.mono ?_
          rintro e w3 ⟨rfl, hb⟩
          have HFD := Lib.hid (HFD.out w3 hb)
          have B3 := Lib.hid (on B2.out hb)
          clear hb
          go_wp2_with fail
          refine HFD.out.mono ?_
          rintro e w4 ⟨rfl, hb⟩
          have B4 := Lib.hid (on B3.out hb)
          clear hb hfl HN HFD
          obtain ⟨r, r1, r2, r3, hc⟩ := HCM.out w4 B4.out
          have hre := r1 H4.out
          subst hre
          have HC := Lib.hid hc
          clear hc r1 r2 r3
          go_wp2_with fail
          refine HC.out.mono ?_
          rintro e w5 ⟨rfl, hb⟩
          have B5 := Lib.hid (on B4.out hb)
          clear hb HC
          go_wp2_with fail
          go_ret
          rw [HX.out]
          exact ⟨rfl, hR.out.wrote B5.out⟩
    · have HX : Hid (M07.move t src s.data.toList dst a.data.toList = (t, dirErr t.L dst)) := move_dst h1 h2
      rw [h1] at HD1
      generalize dirErr t.L dst = rc at *
      have s2 : (rc != 0) = true := by simpa using h2
      have s3 : (rc == 0) = false := by simpa using h2
      clear HF1 HF2 h1 h2 hd1
      go_enter Tryz.func116, Tryz.ntmps116
      go_wp2_with fail
      refine HD1.out.mono ?_
      rintro e w1 ⟨rfl, hb⟩
      have B1 := Lib.hid hb
      clear hb
      have HD2 := Lib.hid (HD2.out w1 B1.out)
      go_wp2_with fail
      refine HD2.out.mono ?_
      rintro e w2 ⟨rfl, hb⟩
      have B2 := Lib.hid (on B1.out hb)
      clear hb
      go_wp2_with fail
      go_ret
      rw [HX.out]
      exact ⟨rfl, hR.out.wrote B2.out⟩
  · have HX : Hid (M07.move t src s.data.toList dst a.data.toList = (t, dirErr t.L src)) := move_src h1
    generalize dirErr t.L src = rc at *
    have s2 : (rc != 0) = true := by simpa using h1
    have s3 : (rc == 0) = false := by simpa using h1
    clear HF1 HF2 HD2 h1
    go_enter Tryz.func116, Tryz.ntmps116
    go_wp2_with fail
    refine HD1.out.mono ?_
    rintro e w1 ⟨rfl, hb⟩
    have B1 := Lib.hid hb
    clear hb
    go_wp2_with fail
    go_ret
    rw [HX.out]
    exact ⟨rfl, hR.out.wrote B1.out⟩
end
end Go.Proofs.YtmbpgjncioegdaaGreatDoor.W07
/-
  Layer 7 (tree), walks: the landed code's Copy: a map filled in whatever order another one is gone through. The bounds stand in the statements.
-/
namespace Go.Proofs.YtmbpgjncioegdaaGreatDoor.W07
set_option maxRecDepth 100000
open Go Go.RowKit Go.Proofs.YtmbpgjncioegdaaGreatDoor.Strs Go.Proofs.YtmbpgjncioegdaaGreatDoor.Recs Go.Proofs.YtmbpgjncioegdaaGreatDoor.M07 Go.Proofs.YtmbpgjncioegdaaGreatDoor.Maps Go.Proofs.YtmbpgjncioegdaaGreatDoor.Range
open Go.Proofs.YtmbpgjncioegdaaGreatDoor.M06 (Ent)
open Go.Proofs.YtmbpgjncioegdaaGreatDoor.M03 (check)
open Go.Proofs.YtmbpgjncioegdaaGreatDoor.W06 (Ents HandsE)
open Go.Proofs.YtmbpgjncioegdaaGreatDoor.Kit (ret_str ret_bool ret_int mk_of mk_bytes ba_ext below_draws on list_full list_ne list_none list_nil bytes_nil)

section
variable {F : Nat → Prop} {w wr w1 w2 w3 w4 w5 : World} {v : Value} {t : Tr} {sb mb : Nat} {g : Int → Nod} {lv lv' : Int → Value} {last : Int} {m sz cnt cnt' : Nat} {left : Int → Bool}
/-- what the copy holds so far -/
structure CopyAt (w wr : World) (g : Int → Nod) (lv' : Int → Value) (left : Int → Bool) (m sz cnt : Nat) : Prop where
  map : MapIs wr Tryz.prog 3 w.heap.size (fun i => if left i = true then none else held g lv' i) sz
  size : sz + cnt ≤ m
  list : ∀ i, (g i).kind ≠ 0 → left i = false → Ents wr.heap.size wr (lv' i) (g i).list
  at_ : ∀ i b o c d, (g i).kind ≠ 0 → left i = false → 0 < (g i).list.length → lv' i = .slice (some ⟨b, o, none⟩) c d → w.heap.size + 1 < b
  below : Below w.heap.size w wr
  next : w.heap.size + 1 < wr.heap.size
theorem CopyAt.start (hg : (w.alloc (.map #[] 0)).grownBy w1 none) (hs : w1.heap.size = w.heap.size + 2) : CopyAt w w1 g (fun _ => .slice none 0 0) (fun i => (held g lv i).isSome) m 0 m where
  map := ((map_made w Tryz.prog 3).keep (hg.block _ (by simp) (by simp))).as (fun i => by
    by_cases e : (g i).kind = 0
    · simp [held, e]
    · simp [held, e]) rfl
  size := by omega
  list := fun i hk hl => by simp [held, hk] at hl
  at_ := fun i b o c d hk hl => by simp [held, hk] at hl
  below := ((Below.refl w.heap.size w).alloc (Nat.le_refl _) _).grown hg (by simp) (fun k hk => by cases hk)
  next := by omega
theorem CopyAt.map4 (h : CopyAt w wr g lv' left m sz cnt) (hg : wr.grownBy w1 (some (w.heap.size + 1))) (hs1 : w1.heap.size = wr.heap.size) (hb : Below w1.heap.size w1 w4) : MapIs w4 Tryz.prog 3 w.heap.size (fun i => if left i = true then none else held g lv' i) sz := by
  have h1 := h.next
  exact h.map.keep ((hb.block _ (by omega)).trans (hg.block _ (by omega) (by intro e; injection e with e; omega)))
theorem CopyAt.below1 (h : CopyAt w wr g lv' left m sz cnt) (hg : wr.grownBy w1 (some (w.heap.size + 1))) : Below w.heap.size w w1 := by
  have h1 := h.next
  exact h.below.grown hg (by omega) (fun k hk => by cases hk; omega)
theorem CopyAt.step {n : Int} {u : Value} (h : CopyAt w wr g lv' left m sz cnt) (hg : wr.grownBy w1 (some (w.heap.size + 1))) (hs1 : w1.heap.size = wr.heap.size) (hb : Below w1.heap.size w1 w4) (hu : Ents w4.heap.size w4 u (g n).list)
    (hn : ∀ b o c d, u = .slice (some ⟨b, o, none⟩) c d → w1.heap.size ≤ b) (hk : (g n).kind ≠ 0) (hmap : MapIs w5 Tryz.prog 3 w.heap.size (upd (fun i => if left i = true then none else held g lv' i) n (some (nodV (g n) u))) (sz + 1)) (ht : w4.mapTurned w5 w.heap.size) (hc : cnt' < cnt) :
    CopyAt w w5 g (upd lv' n u) (upd left n false) m (sz + 1) cnt' := by
  have hnx := h.next
  have hg5 := ht.grown
  have hs4 := hb.size
  have hs5 := hg5.size
  refine ⟨hmap.as (fun i => ?_) rfl, by have := h.size; omega, fun i hi hl => ?_, fun i b o c d hi hl h0 e => ?_, ?_, by omega⟩
  · unfold upd held
    by_cases e : i = n
    · subst e; simp [hk]
    · simp [e]
  · unfold upd at hl ⊢
    by_cases e : i = n
    · subst e
      rw [if_pos rfl]
      refine (ents_keep hu fun b o c d _ _ e2 => hg5.block b ?_ ?_).more hs5
      · assumption
      · have := hn b o c d e2
        intro e3; injection e3 with e3; omega
    · rw [if_neg e] at hl ⊢
      refine (ents_keep (h.list i hi hl) fun b o c d h0 hlt e2 => ?_).more (by omega)
      have hb1 := h.at_ i b o c d hi hl h0 e2
      rw [hg5.block b (by omega) (by intro e3; injection e3 with e3; omega), hb.block b (by omega), hg.block b hlt (by intro e3; injection e3 with e3; omega)]
  · unfold upd at hl e
    by_cases e1 : i = n
    · rw [if_pos e1] at e
      have := hn b o c d e
      omega
    · rw [if_neg e1] at hl e
      exact h.at_ i b o c d hi hl h0 e
  · exact ((h.below1 hg).trans (hb.mono (by omega))).grown hg5 (by omega) (fun k hk => by cases hk; exact Nat.le_refl _)
theorem copy_end (h : CopyAt w wr g lv' left m sz cnt) (hl : ∀ n, left n = false) (H : Mem F w sb mb g lv last m) : Mem (fun k => w.heap.size ≤ k ∧ k < wr.heap.size + 1) (wr.alloc (.cells #[.map (some w.heap.size), .int .i64 last] 90)) wr.heap.size w.heap.size g (fun i => if (g i).kind = 0 then .slice none 0 0 else lv' i) last m := by
  have hmap := h.map
  have hlv : ∀ i, (if left i = true then none else held g lv' i) = held g (fun i => if (g i).kind = 0 then .slice none 0 0 else lv' i) i := fun i => by
    rw [hl i, if_neg (by simp)]
    unfold held
    by_cases e : (g i).kind = 0
    · rw [if_pos e, if_pos e]
    · rw [if_neg e, if_neg e]
      show _ = some (nodV (g i) (if (g i).kind = 0 then _ else _))
      rw [if_neg e]
  have hm2 := hmap.as hlv rfl
  have hsz : m = sz := by
    have hsome : ∀ (l1 l2 : Int → Value) n, (held g l1 n).isSome = true → (held g l2 n).isSome = true := fun l1 l2 n => by
      unfold held
      split
      · intro e; cases e
      · intro _; rfl
    have h1 := H.map.one_size hm2 key_under (hsome _ _)
    have h2 := hm2.one_size H.map key_under (hsome _ _)
    omega
  have hnx := h.next
  have ha : Below wr.heap.size wr (wr.alloc (.cells #[.map (some w.heap.size), .int .i64 last] 90)) := (Below.refl _ _).alloc (Nat.le_refl _) _
  refine ⟨heap_top _ _, ⟨by omega, by omega⟩, ⟨by omega, by omega⟩, fun k hk => by rw [World.size_alloc]; exact hk.2, (hm2.alloc _).as (fun _ => rfl) hsz.symm, fun n hn => ⟨(H.zero n hn).1, if_pos hn⟩, fun n => ?_, fun n b o c d h0 e => ?_⟩
  · by_cases e : (g n).kind = 0
    · show Ents _ _ (if (g n).kind = 0 then _ else _) _
      rw [if_pos e, (H.zero n e).1]; exact recs_nil _ _ _ _
    · show Ents _ _ (if (g n).kind = 0 then _ else _) _
      rw [if_neg e]; exact ((h.list n e (hl n)).below ha).more ha.size
  · have e : (if (g n).kind = 0 then .slice none 0 0 else lv' n) = Value.slice (some ⟨b, o, none⟩) c d := e
    by_cases e1 : (g n).kind = 0
    · rw [if_pos e1] at e; cases e
    · rw [if_neg e1] at e
      have h1 := h.at_ n b o c d e1 (hl n) h0 e
      have hE := h.list n e1 (hl n)
      rw [e] at hE
      obtain ⟨A', c', e', -, -⟩ := hE.form
      injection e' with e4 e5 e6
      obtain ⟨b', o', hl2, e7, hb', -⟩ := Recs.flat_ hE W06.entC_len (by omega) (k := 0) (by omega)
      cases e7
      exact ⟨by omega, by omega⟩
theorem Going.keep2 {r : Nat} {f : Int → Option Value} (h : Going w1 Tryz.prog 3 mb r f m left cnt) (hb : Below w1.heap.size w1 w4) (ht : w4.mapTurned w5 sb) (h1 : mb ≠ sb) (h2 : r ≠ sb) : Going w5 Tryz.prog 3 mb r f m left cnt := by
  have hg := ht.grown
  have hs := hb.size
  have a1 := h.is.lt
  have a2 := h.lt
  exact h.keep ((hg.block _ (by omega) (by intro e; injection e with e; exact h1 e)).trans (hb.block _ a1)) ((hg.block _ (by omega) (by intro e; injection e with e; exact h2 e)).trans (hb.block _ a2))
set_option maxHeartbeats 8000000 in
set_option maxRecDepth 100000 in
theorem copy_any (h : Rep F w v t) (hs : Small t) : Calls Tryz.prog 30 #[v] w fun e w' => ∃ v' F', e = .returned v' ∧ Rep F' w' v' t ∧ (∀ k, F' k → w.heap.size ≤ k) ∧ Below w.heap.size w w' := by
  obtain ⟨hr, sb, mb, lv, rfl, hM⟩ := h
  have HR := Lib.hid hr
  have H := Lib.hid hM
  have HS := Lib.hid (plain_short hs)
  have hm := hs.1
  have hmm := @run_makeMap Tryz.prog
  have HM0 := Lib.hid (hM.map.alloc (.map #[] 0))
  have c0 := hM.box.c0
  have hlt := hM.box.lt
  have HML := Lib.hid hM.map.lt
  clear hr hM hs
  generalize hg : plainN t = g at *
  have HG := Lib.hid hg
  clear hg
  obtain ⟨V, hV⟩ : ∃ V : Int → Value, (fun n => nodV (g n) (lv n)) = V := ⟨_, rfl⟩
  have HV : Hid (∀ n, V n = nodV (g n) (lv n)) := fun n => by rw [← hV]
  have HVF : Hid (∀ n v, held g lv n = some v → v = V n) := fun n v hv => by
    unfold held at hv
    split at hv
    · cases hv
    · injection hv with hv; rw [HV.out, hv]
  clear hV
  go_enter Tryz.func30, Tryz.ntmps30
  go_wp2_with (first | (at_range; refine wpList_range _ rfl _ 88 rfl 3 87 key_under map_under mb t.L.length (held g lv) rfl HM0.out ?_; intro w1 hgo hgrow hsize; rw [World.size_alloc]) | go_in)
  have C1 : Hid (CopyAt w w1 g (fun _ => .slice none 0 0) (fun i => (held g lv i).isSome) t.L.length 0 t.L.length) := CopyAt.start hgrow (by rw [hsize]; simp)
  have G1 := Lib.hid hgo
  clear hgo hgrow hsize
  rw [World.size_alloc] at G1
  go_frame
  go_loopw [4] (fun _ wr => ∃ (left : Int → Bool) (cnt sz : Nat) (lv' : Int → Value), Hid (Going wr Tryz.prog 3 mb (w.heap.size + 1) (held g lv) t.L.length left cnt) ∧ Hid (CopyAt w wr g lv' left t.L.length sz cnt)) (fun _ wr => wr.rangeLeft mb (w.heap.size + 1))
  case atStart => exact ⟨_, _, 0, _, G1, C1⟩
  case round =>
    clear G1 C1
    obtain ⟨left, cnt, sz, lv', G, C⟩ := hrel
    go_wp2_with (first | (at_next; refine Go.Proofs.YtmbpgjncioegdaaGreatDoor.Maps.wpList_turn _ rfl _ rfl 3 key_under mb (w.heap.size + 1) t.L.length (held g lv) V HVF.out left cnt rfl G.out ?_ ?_) | go_in)
    · intro _ hl0
      have c1 := (H.out.below C.out.below).box.c1
      have HE := Lib.hid (copy_end C.out hl0 H.out)
      clear hl0
      go_wp2_with fail
      go_ret
      exact ⟨_, (fun k => w.heap.size ≤ k ∧ k < wr.heap.size + 1), rfl, ⟨HR.out, _, _, _, rfl, by rw [HG.out]; exact HE.out⟩, fun _ hk => hk.1, C.out.below.alloc C.out.below.size _⟩
    · intro n w2 cnt2 hfn hln hgo hlt2 hgr hsz hen
      have hk : Hid ((g n).kind ≠ 0) := fun e => by
        unfold held at hfn
        rw [if_pos e] at hfn
        cases hfn
      obtain ⟨A, c, e⟩ := H.out.form n
      have hVn : V n = .agg #[.int .i64 (g n).kind, .int .i64 (g n).up, .string ⟨(g n).data.toArray⟩, .slice A (g n).list.length c] := by
        rw [HV.out n, e]; rfl
      have hE := H.out.list n
      rw [e] at hE
      have HE := Lib.hid hE
      have hln2 := HS.out n
      have hwf := Lib.hid (H.out.wf hk.out)
      rw [hVn] at hen ⊢
      have B2 := Lib.hid (C.out.below1 hgr)
      have GO := Lib.hid hgo
      have GR := Lib.hid hgr
      have SZ := Lib.hid hsz
      have LN := Lib.hid hln
      have LT := Lib.hid hlt2
      clear hE e hVn hfn hgo hgr hsz hln hlt2
      obtain ⟨w3, hw3⟩ : ∃ w3, w2.alloc (.cells #[.int .i64 (g n).kind, .int .i64 (g n).up, .string ⟨(g n).data.toArray⟩, .slice A (g n).list.length c] 87) = w3 := ⟨_, rfl⟩
      have X3 : Hid (NodBox w3 w2.heap.size (g n) (.slice A (g n).list.length c)) := by rw [← hw3]; exact NodBox.new _ _ _
      have B3 : Hid (Below w2.heap.size w2 w3) := by rw [← hw3]; exact (Below.refl _ _).alloc (Nat.le_refl _) _
      have x3 := X3.out.c3
      have HCL := Lib.hid (clone_any (w := w3) (.slice A (g n).list.length c) (g n).list ((HE.out.below (on B2.out B3.out)).more (on B2.out B3.out).size) (by omega))
      generalize hlen : (g n).list.length = k at hen x3 hw3 HCL X3
      have HLE := Lib.hid hlen
      clear hlen
      go_wp2_with fail
      clear hw3
      refine HCL.out.mono ?_
      rintro e w4 ⟨u, rfl, hu, hnew, hb⟩
      obtain ⟨A2, c2, rfl, -, -⟩ := hu.form
      have M2 := H.out.below B2.out
      obtain ⟨-, q2, q3, -, q5⟩ := open_list M2 B3.out (Nat.le_refl _) (g n).list X3.out _ hb hu hnew
      have frz := (X3.out.below hb).fr 3
      have old := (X3.out.below hb).c3
      have N5 : Hid (∀ b o c d, Value.slice A2 (g n).list.length c2 = .slice (some ⟨b, o, none⟩) c d → w2.heap.size ≤ b) := fun b o c d e => Nat.le_trans B3.out.size (hnew b o c d e)
      obtain ⟨w5, hw5⟩ : ∃ w5, w4.setCell ⟨w2.heap.size, 3, none⟩ (.slice A2 (g n).list.length c2) = w5 := ⟨_, rfl⟩
      rw [hw5] at q2 q3 q5
      have U5 := Lib.hid q3
      have B5 := Lib.hid q5
      have y0 := q2.c0
      have y1 := q2.c1
      have y2 := q2.c2
      have y3 := q2.c3
      have hsz := C.out.size
      have hst := (C.out.map4 GR.out SZ.out B5.out).store (t := 88) (e := 87) key_under map_under (by unfold maxLen; omega) (n := n) hwf.out (.agg #[.int .i64 (g n).kind, .int .i64 (g n).up, .string ⟨(g n).data.toArray⟩, .slice A2 (g n).list.length c2])
      obtain ⟨w6, hrun, map6, turn6⟩ := hst
      rw [LN.out, if_pos rfl, if_neg (by simp)] at map6
      have G6 := Lib.hid (Going.keep2 GO.out B5.out turn6 (by have := HML.out; omega) (by omega))
      have C6 := Lib.hid (C.out.step GR.out SZ.out B5.out U5.out N5.out hk.out map6 turn6 LT.out)
      clear q2 q3 q5 M2 hu hnew hb map6 turn6 U5 N5 B5 HCL X3 x3 hen GO
      generalize (g n).list.length = k2 at *
      go_wp2_with fail
      clear hw5
      go_roundw
      case rel => exact ⟨_, _, _, _, G6, C6⟩
      case measure => rw [G6.out.left_eq, G.out.left_eq]; exact LT.out
end
end Go.Proofs.YtmbpgjncioegdaaGreatDoor.W07
/-
  Layer 7 (tree): the landed code keeps the contracts that are asked of it ('Trees'); the calls of a nil pointer.
-/
namespace Go.Proofs.YtmbpgjncioegdaaGreatDoor.W07
set_option maxRecDepth 100000
open Go Go.RowKit Go.Proofs.YtmbpgjncioegdaaGreatDoor.Strs Go.Proofs.YtmbpgjncioegdaaGreatDoor.Recs Go.Proofs.YtmbpgjncioegdaaGreatDoor.M07 Go.Proofs.YtmbpgjncioegdaaGreatDoor.Maps Go.Proofs.YtmbpgjncioegdaaGreatDoor.Range
open Go.Proofs.YtmbpgjncioegdaaGreatDoor.M06 (Ent)
open Go.Proofs.YtmbpgjncioegdaaGreatDoor.M03 (check)
open Go.Proofs.YtmbpgjncioegdaaGreatDoor.W06 (Ents HandsE)
open Go.Proofs.YtmbpgjncioegdaaGreatDoor.Kit (ret_str ret_bool ret_int mk_of mk_bytes ba_ext below_draws on list_full list_ne list_none list_nil bytes_nil)

theorem trees : Trees Rep where
  keep := fun h hk hs => h.keep hk hs
  low := fun h => h.low
  right := fun h => h.1
  new := new_any
  kind := fun h _ n => by obtain ⟨-, sb, mb, lv, rfl, hM⟩ := h; exact kind_any hM n
  data := fun h _ n => by obtain ⟨-, sb, mb, lv, rfl, hM⟩ := h; exact data_any hM n
  up := fun h _ n => by obtain ⟨-, sb, mb, lv, rfl, hM⟩ := h; exact up_any hM n
  len := fun h _ => by obtain ⟨-, sb, mb, lv, rfl, hM⟩ := h; exact len_any hM
  lists := fun {F w v t} h hs n => by
    obtain ⟨-, sb, mb, lv, rfl, hM⟩ := h
    have hl := plain_short hs n
    refine (list_any hM n (by omega)).mono ?_
    rintro e w' ⟨u, he, hu, hn, hb⟩
    exact ⟨u, he, hu, fun b o n c e2 => Or.inr (hn b o n c e2), hb⟩
  put := fun h hs d s kind x _ => put_any h hs d s kind x
  set := fun h hs n x _ => set_any h hs n x
  cut := fun h hs d s => cut_any h hs d s
  move := fun h hs src s dst a => move_any h hs src s dst a
  copy := fun h hs => copy_any h hs

/-! the calls of a nil pointer -/
end Go.Proofs.YtmbpgjncioegdaaGreatDoor.W07
/-
  Go's slices.Reverse on a slice of texts, in words of rows that a call owns: out of the laid contracts. No condition but those that the theorem bears.
-/
namespace Go.Proofs.YtmbpgjncioegdaaGreatDoor.Strs
open Go Go.RowKit Go.Sort

end Go.Proofs.YtmbpgjncioegdaaGreatDoor.Strs
/-
  Go's strings.Join of a slice of texts with a slash between, in words of texts: out of the laid contracts. The conditions stand in the statement.
-/
namespace Go.Proofs.YtmbpgjncioegdaaGreatDoor.Strs
open Go Go.RowKit Go.Proofs.YtmbpgjncioegdaaGreatDoor.M04
open Go.Proofs.YtmbpgjncioegdaaGreatDoor.Kit (mk_bytes mk_of ret_str on)

end Go.Proofs.YtmbpgjncioegdaaGreatDoor.Strs
/-
  Layer 8 (seek): Straight: whether a path leads by directories alone; nameOf, Real: a node's own path; nothing that was there is changed. The conditions stand in the statement.
-/
namespace Go.Proofs.YtmbpgjncioegdaaGreatDoor.W08
open Go Go.RowKit Go.Proofs.YtmbpgjncioegdaaGreatDoor.Strs Go.Proofs.YtmbpgjncioegdaaGreatDoor.Recs Go.Proofs.YtmbpgjncioegdaaGreatDoor.Range
open Go.Proofs.YtmbpgjncioegdaaGreatDoor.M07 (Tr Nd nodeAt inDir Right at_some height upOf)
open Go.Proofs.YtmbpgjncioegdaaGreatDoor.M08 Go.Proofs.YtmbpgjncioegdaaGreatDoor.M04
open Go.Proofs.YtmbpgjncioegdaaGreatDoor.M03 (check)
open Go.Proofs.YtmbpgjncioegdaaGreatDoor.W07 (Small Trees trees listed)
open Go.Proofs.YtmbpgjncioegdaaGreatDoor.Kit (ret_str ret_bool ret_int mk_of mk_bytes ba_ext below_draws on list_full list_ne list_none list_nil bytes_nil bytes_ne cat_bytes)

theorem rep_form {F : Nat → Prop} {w : World} {v : Value} {t : Tr} (P : W07.Rep F w v t) : ∃ sb, v = .pointer (some ⟨sb, 0, none⟩) := by
  obtain ⟨-, sb, mb, lv, rfl, -⟩ := P
  exact ⟨sb, rfl⟩
end Go.Proofs.YtmbpgjncioegdaaGreatDoor.W08
/-
  Maps keyed by whatever type of keys may be: a map of which each entry bears a property of its key and its value: made, looked up ('v, ok := m[k]'), stored into; for every program. Plain lemmas on worlds; no condition but those that each theorem bears.
-/
namespace Go.Proofs.YtmbpgjncioegdaaGreatDoor.Maps
open Go Go.RowKit Go.Maps Go.ChangeMaps Go.MapKept
open Go.WideElems (Fit rd rg pl rd_key rd_val rg_of)

/-- in w the block b is a map of at most m entries, and V holds of each one's key and value -/
def MapAll (w : World) (P : Program) (k : TypeId) (b m : Nat) (V : Value → Value → Prop) : Prop :=
  ∃ es clock, w.heap[b]? = some (.map es clock) ∧ Fit P k hold es clock ∧ es.size ≤ m ∧ ∀ x ∈ es.toList, V x.key x.val
section
variable {P : Program} {k t e : TypeId} {w w' : World} {b m : Nat} {V : Value → Value → Prop}
theorem mapAll_made (w : World) (P : Program) (k : TypeId) (V : Value → Value → Prop) : MapAll (w.alloc (.map #[] 0)) P k w.heap.size 0 V := by
  obtain ⟨es, clock, h1, h2, h3, -⟩ := World.ownsMap_made (H := Value) w P k hold
  refine ⟨es, clock, h1, h2, h3, fun x hx => ?_⟩
  have : es.toList = [] := List.length_eq_zero_iff.1 (by simpa using h3)
  rw [this] at hx
  cases hx
theorem MapAll.keep (h : MapAll w P k b m V) (hb : w'.heap[b]? = w.heap[b]?) : MapAll w' P k b m V := by
  obtain ⟨es, clock, h1, r⟩ := h
  exact ⟨es, clock, hb.trans h1, r⟩
theorem MapAll.lt (h : MapAll w P k b m V) : b < w.heap.size := by
  obtain ⟨es, clock, h1, r⟩ := h
  exact (Array.getElem?_eq_some_iff.1 h1).1
theorem MapAll.below (h : MapAll w P k b m V) (hb : Below w.heap.size w w') : MapAll w' P k b m V := h.keep (hb.block b h.lt)
theorem MapAll.more (h : MapAll w P k b m V) {n : Nat} (hn : m ≤ n) : MapAll w P k b n V := by
  obtain ⟨es, clock, h1, h2, h3, h4⟩ := h
  exact ⟨es, clock, h1, h2, Nat.le_trans h3 hn, h4⟩
/-- no cell lies in a map's block -/
theorem MapAll.nocell (h : MapAll w P k b m V) (a : Addr) (ha : a.block = b) : w.cell? a = none := by
  obtain ⟨es, clock, h1, r⟩ := h
  obtain ⟨bb, o, s⟩ := a
  cases ha
  have h2 : w.heap[bb]? = some (.map es clock) := h1
  cases s with
  | none => simp [World.cell?, h2]
  | some q => simp [World.cell?, h2]
/-- 'v, ok := m[key]' -/
theorem MapAll.look (h : MapAll w P k b m V) (K : Keyed P k) (ht : P.underlying t = some (.map k e)) {z : Value} (hz : (zeroValue e).run P w = .ok z w) {key : Value} {kl : Lit} (hkey : keyOf P k key = some kl) :
    (Instr.lookup t (.map (some b)) key true).run P w = .ok (.tuple #[z, .bool false]) w ∨ ∃ v, V key v ∧ (Instr.lookup t (.map (some b)) key true).run P w = .ok (.tuple #[v, .bool true]) w := by
  obtain ⟨es, clock, hb, F, hs, hV⟩ := h
  rcases Maps.fit_look true K ht hz hb F hkey with ⟨hrun, _, hat⟩ | ⟨e0, y, hm, hk, hrun, hRv, hat, _⟩
  · exact Or.inl hrun
  · exact Or.inr ⟨e0.val, hk ▸ hV e0 hm, hrun⟩
/-- 'm[key] = v' -/
theorem MapAll.store (h : MapAll w P k b m V) (K : Keyed P k) (ht : P.underlying t = some (.map k e)) (hm : m < maxLen) {key : Value} {kl : Lit} (hkey : keyOf P k key = some kl) {v : Value} (hv : V key v) :
    ∃ w', (Instr.mapUpdate t (.map (some b)) key v).run P w = .ok () w' ∧ MapAll w' P k b (m + 1) V ∧ w.mapTurned w' b := by
  obtain ⟨es, clock, hb, F, hs, hV⟩ := h
  obtain ⟨es', clock', hrun, F', hput, -, -, hwho⟩ := Maps.fit_store (R' := hold) K ht hb F (Nat.lt_of_le_of_lt hs hm) (fun _ _ _ _ hz => hz) hkey (val := v) rfl
  refine ⟨_, hrun, ⟨es', clock', heap_setBlock_same hb _, F', ?_, fun x hx => ?_⟩, ⟨es, clock, es', clock', hb, rfl⟩⟩
  · have e1 : es'.size = ((es'.toList.map (rg P k hold)).foldr DataW.insert []).length := by rw [length_sorted]; simp
    rw [e1, hput]
    unfold putKey
    rw [length_insert]
    have e2 := List.length_filter_le (notKey kl) ((es.toList.map (rg P k hold)).foldr DataW.insert [])
    rw [length_sorted] at e2
    simp at e2
    omega
  · rcases hwho x hx with ⟨h1, -⟩ | ⟨h1, h2⟩
    · exact hV x h1
    · rw [h1, h2]; exact hv
end
end Go.Proofs.YtmbpgjncioegdaaGreatDoor.Maps
/-
  Layer 8 (seek): the map of what was found: its keys (a directory's number and a name), what it may hold; how a map that is kept aside leaves all else as it is. Plain lemmas on worlds; no condition but those that each theorem bears.
-/
namespace Go.Proofs.YtmbpgjncioegdaaGreatDoor.W08
open Go Go.RowKit Go.Proofs.YtmbpgjncioegdaaGreatDoor.Strs Go.Proofs.YtmbpgjncioegdaaGreatDoor.Maps
open Go.Proofs.YtmbpgjncioegdaaGreatDoor.M07 (Tr inDir)

theorem laid_out : laidOutB Tryz.prog = true := by kernel_rfl
theorem place_row : (174 : TypeId) < Tryz.prog.types.size := of_decide_eq_true (by kernel_rfl)
theorem place_wide : (match Tryz.prog.underlying 174 with | some (.array _ _) | some (.struct _) => true | _ => false) = true := by rw [Tryz.underlying174]
set_option maxRecDepth 100000 in
theorem place_keyed : Maps.Keyed Tryz.prog 174   := Maps.Keyed.of_law (deep_law_laid laid_out (m := 2) (by omega) place_row (by kernel_rfl) place_wide)
theorem place_cells : Tryz.prog.cellsOf 174 = 2 := by kernel_rfl
theorem cells_int : Tryz.prog.cellsOf 3 = 1 := by kernel_rfl
theorem cells_string : Tryz.prog.cellsOf 9 = 1 := by kernel_rfl
theorem place_type : Tryz.prog.keyType 174 = true := by kernel_rfl
theorem types_some : ∃ m, Tryz.prog.types.size = m + 1 := by
  have h : (174 : Nat) < Tryz.prog.types.size := place_row
  exact ⟨Tryz.prog.types.size - 1, by omega⟩
theorem place_key (d : Int) (s : ByteArray) (hd : (Lit.int .i64 d).wf = true) (hs : s.size ≤ maxLen) : keyOf Tryz.prog 174 (.agg #[.int .i64 d, .string s]) = some (.string (keyBytes [.int .i64 d, .string s.data.toList])) := by
  obtain ⟨m, hm⟩ := types_some
  unfold keyOf
  simp only [Tryz.underlying174]
  rw [if_pos (by simp [place_type, Value.formed, Tryz.underlying174, place_cells]), hm]
  unfold Program.keyLits
  simp only [Tryz.underlying174, Value.cells]
  rw [if_pos (by simp [place_cells])]
  simp [cells_int, cells_string, Program.keyLits, Tryz.underlying3, Tryz.underlying9, hd, hs]
theorem seen_under : Tryz.prog.underlying 171 = some (.map 174 3) := Tryz.underlying171
theorem zero_int (w : World) : (zeroValue 3).run Tryz.prog w = .ok (.int .i64 0) w := by kernel_rfl
/-- what an entry tells: the node of that name in that directory -/
def found (t : Tr) (key v : Value) : Prop := ∀ (d : Int) (s : ByteArray), key = .agg #[.int .i64 d, .string s] → v = .int .i64 (inDir t.L d s.data.toList) ∧ inDir t.L d s.data.toList ≠ 0
/-- in w the block b holds a map of what was found, of at most m entries -/
abbrev Seen (t : Tr) (w : World) (b m : Nat) : Prop := MapAll w Tryz.prog 174 b m (found t)
section
variable {t : Tr} {w w' : World} {b m : Nat}
theorem Seen.ask (h : Seen t w b m) (d : Int) (s : ByteArray) (hd : (Lit.int .i64 d).wf = true) (hs : s.size ≤ maxLen) :
    (Instr.lookup 171 (.map (some b)) (.agg #[.int .i64 d, .string s]) true).run Tryz.prog w = .ok (.tuple #[.int .i64 0, .bool false]) w ∨
    (inDir t.L d s.data.toList ≠ 0 ∧ (Instr.lookup 171 (.map (some b)) (.agg #[.int .i64 d, .string s]) true).run Tryz.prog w = .ok (.tuple #[.int .i64 (inDir t.L d s.data.toList), .bool true]) w) := by
  rcases MapAll.look h place_keyed seen_under (zero_int w) (place_key d s hd hs) with h1 | ⟨v, hv, h1⟩
  · exact Or.inl h1
  · obtain ⟨e, h2⟩ := hv d s rfl
    subst e
    exact Or.inr ⟨h2, h1⟩
theorem Seen.put (h : Seen t w b m) (d : Int) (s : ByteArray) (hd : (Lit.int .i64 d).wf = true) (hs : s.size ≤ maxLen) (hm : m < maxLen) (hn : inDir t.L d s.data.toList ≠ 0) :
    ∃ w', (Instr.mapUpdate 171 (.map (some b)) (.agg #[.int .i64 d, .string s]) (.int .i64 (inDir t.L d s.data.toList))).run Tryz.prog w = .ok () w' ∧ Seen t w' b (m + 1) ∧ w.mapTurned w' b :=
  MapAll.store h place_keyed seen_under hm (place_key d s hd hs) (by
    intro d2 s2 e
    have e1 : d = d2 ∧ s = s2 := by simpa using e
    obtain ⟨rfl, rfl⟩ := e1
    exact ⟨rfl, hn⟩)
end

/-! all but a map -/
/-- nothing that was there has turned but the map in block b -/
structure Beside (b : Nat) (w w' : World) : Prop where
  os : w'.os = w.os
  tape : w'.tape = w.tape
  output : w'.output = w.output
  size : w.heap.size ≤ w'.heap.size
  block : ∀ i, i < w.heap.size → i ≠ b → w'.heap[i]? = w.heap[i]?
section
variable {w w' w'' : World} {b : Nat}
theorem Beside.refl (b : Nat) (w : World) : Beside b w w := ⟨rfl, rfl, rfl, Nat.le_refl _, fun _ _ _ => rfl⟩
theorem Beside.trans (h : Beside b w w') (k : Beside b w' w'') : Beside b w w'' := ⟨k.os.trans h.os, k.tape.trans h.tape, k.output.trans h.output, Nat.le_trans h.size k.size, fun i hi hb => (k.block i (Nat.lt_of_lt_of_le hi h.size) hb).trans (h.block i hi hb)⟩
theorem Beside.of_below (b : Nat) (h : Below w.heap.size w w') : Beside b w w' := ⟨h.os, h.tape, h.output, h.size, fun i hi _ => h.block i hi⟩
theorem Beside.of_turned (h : w.mapTurned w' b) : Beside b w w' := by
  have g := h.grown
  exact ⟨g.os, g.tape, g.output, g.size, fun i hi hb => g.block i hi (fun e => hb (Option.some.inj e))⟩
theorem Beside.below (h : Beside b w w') {B : Nat} (hb : B ≤ b) (hB : B ≤ w.heap.size) : Below B w w' := ⟨h.os, h.tape, h.output, h.size, fun i hi => h.block i (Nat.lt_of_lt_of_le hi hB) (by omega)⟩
theorem cell_block {w w' : World} (a : Addr) (h : w'.heap[a.block]? = w.heap[a.block]?) : w'.cell? a = w.cell? a := by
  obtain ⟨bb, o, s⟩ := a
  have h2 : w'.heap[bb]? = w.heap[bb]? := h
  unfold World.cell?
  simp only [h2]
/-- a cell that is there stays -/
theorem Beside.cell (h : Beside b w w') {a : Addr} {v : Value} (hc : w.cell? a = some v) (hn : a.block = b → w.cell? a = none) : w'.cell? a = some v := by
  by_cases e : a.block = b
  · rw [hn e] at hc; cases hc
  · have hl : a.block < w.heap.size := by
      rcases Nat.lt_or_ge a.block w.heap.size with q | q
      · exact q
      · have hz : w.heap[a.block]? = none := Array.getElem?_eq_none q
        have : w.cell? a = none := by
          obtain ⟨bb, o, s⟩ := a
          have hz2 : w.heap[bb]? = none := hz
          unfold World.cell?
          simp [hz2]
        rw [this] at hc; cases hc
    rw [cell_block a (h.block _ hl e)]
    exact hc
/-- texts stay, where no cell lies in the map's block -/
theorem Beside.texts (h : Beside b w w') (hn : ∀ a : Addr, a.block = b → w.cell? a = none) {B : Nat} {v : Value} {L : List (List UInt8)} (ht : Texts B w v L) : Texts B w' v L := by
  obtain ⟨A, c, e, h1, h2, h3⟩ := ht
  exact ⟨A, c, e, h1, h2, fun h0 => by
    obtain ⟨ad, e2, hb, hc⟩ := h3 h0
    exact ⟨ad, e2, hb, fun k hk => h.cell (hc k hk) (hn _)⟩⟩
end
end Go.Proofs.YtmbpgjncioegdaaGreatDoor.W08
