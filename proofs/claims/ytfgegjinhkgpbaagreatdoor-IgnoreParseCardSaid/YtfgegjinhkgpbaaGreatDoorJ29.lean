/-
  Texts joined, in build order, each with its own comment and its own conditions: W17RefParse, W17LawP.
-/
import Derived.Test.YtfgegjinhkgpbaaGreatDoorJ28
import Derived.Test.YtfgegjinhkgpbaaGreatDoorJ19
import Derived.Test.YtfgegjinhkgpbaaGreatDoorJ27
import Derived.Test.YtfgegjinhkgpbaaGreatDoorJ03
namespace Go.Proofs.YtfgegjinhkgpbaaGreatDoor
set_option maxHeartbeats 4000000
set_option maxRecDepth 100000
open Go.RowKit
open Lib (hid)
namespace Gg
open Strs Kt Range
open Kit (Au AX BO CL Ae below_draws on BM Br Aa Ay Ci CF one_byte Ap Bl Az Bb Bh)
def bL (er:Bytes->Int):Prop:= ∀p:ByteArray,p.size<=900-> ∀w,Calls Tryz.prog 26 #[.string p] w fun e w'=> ∃v,e= .returned (.tuple #[v,.int .i64 (er p.data.toList)])/\Below w.heap.size w w'
theorem aF {t:ByteArray} {k:Nat} (h:k+1<t.size):Kt.ahead (t.data.toList.drop k)=if CJ t[k]&&t[k+1]==35 then[]else t[k]::Kt.ahead (t.data.toList.drop (k+1)):=by
 rw[Ay t k (by omega),Ay t (k+1) h,Kt.ahead]
theorem fQ {t:ByteArray} {k:Nat} (h: ¬k+1<t.size):Kt.ahead (t.data.toList.drop k)=t.data.toList.drop k:=by
 by_cases h2:k<t.size
 ·rw[Ay t k h2,Ci t (k+1) h];rfl
 rw[Ci t k h2];rfl
theorem YH {t:ByteArray} (h:0<t.size):MB t.data.toList=decide (t[0]=35):=by
 rw[Bh h]
 show(t[0]==35)=_
 by_cases h2:t[0]=35<;>simp[h2]
section
variable {s:ByteArray} {w:World} {er:Bytes->Int}
set_option maxHeartbeats 8000000 in
theorem Ja (hO:bL er) (hs:s.size<=900):Calls Tryz.prog 8 #[.string s] w (Reads (go er (lines s.data.toList) 0 []) w):=by
 obtain⟨i0,hi,hz0,hz1,hz2⟩:=info_parts IZ
 have Pj:Hid (∀w,Calls Tryz.prog 23 #[.string s] w fun e w'=> ∃v,e= .returned v/\w'.ownsRow w.heap.size 9 1 v (lines s.data.toList).length ((lines s.data.toList).map D6)/\Below w.heap.size w w'):=fun w=>Vy (by omega)
 have mQ:Hid ((lines s.data.toList).length<=901/\ ∀p∈lines s.data.toList,p.length<=900):=by
  have h1:=WI s.data.toList
  rw[<-Lib.size_eq]at h1
  exact⟨by omega,fun p hp=>by have:=bQ hp;rw[<-Lib.size_eq]at this;omega⟩
 have HO:=hid hO
 have HT:Hid (∀(t:ByteArray),t.size<=1000000-> ∀w,Calls Tryz.prog 24 #[.string t] w fun e w'=>e= .returned (.string (mk (bare t.data.toList)))/\Below w.heap.size w w'):=fun t h w=>Qg h
 have HB:=hid YG
 obtain⟨L,hL⟩: ∃L,lines s.data.toList=L:=⟨_,rfl⟩
 rw[hL]at Pj mQ ⊢
 obtain⟨n,hn⟩: ∃n,L.length=n:=⟨_,rfl⟩
 have HN:=hid hn
 rw[hn]at Pj mQ
 clear hO hs hL hn
 go_enter Tryz.func8,Tryz.ntmps8
 go_wp2_with fail
 refine(Pj.out _).mono ?_
 rintro e w1 ⟨v,rfl,o1,l1⟩
 have zH:=hid (Bc.Bw (L:=L) o1)
 obtain⟨A,c,rfl,hc1,hc2⟩:=zH.out.form
 rw[HN.out]at hc1 zH ⊢
 unfold maxLen at hc2
 have HC:=hid (show n<=c/\c<=9223372036854775807 from⟨hc1,hc2⟩)
 have L1:=hid l1
 clear o1 l1 hc1 hc2
 go_wp2_with fail
 go_loopg [5,7] n (fun gk s5 s7 wr=> ∃i:Nat,s7= .int .i64 i/\Hid (i+gk=n)/\Hid (∀x∈L.take i,good er x)/\Hid (wr.ownsRow w1.heap.size 9 1 s5 (keep (L.take i)).length ((keep (L.take i)).map D6))/\Hid (Below w1.heap.size w1 wr))
 case atStart=>exact⟨0,rfl,by unfold Hid;omega,by simp[Hid],World.ownsRow_nil _ _ _ _,Below.refl _ _⟩
 case round=>
  obtain⟨i,rfl,hig,HG,OW,LB⟩:=hrel
  cases gk with
  |zero=>
   have hi2:i=n:=by have:=hig.out;omega
   subst hi2
   have ti: ¬(i:Int)<(i:Int):=by omega
   have hres:Hid (go er L 0 []=(keep L,0,0)):=by
    have:=HG.out
    rw[<-HN.out,List.take_length]at this
    exact gP er this
   go_wp2_with fail
   refine bodyPost_ret (results_tmp3 rfl _ _ _) rfl ?_
   rw[hres.out]
   have h:=OW.out
   rw[<-HN.out,List.take_length]at h
   exact⟨_,rfl,Bc.Bw h,on L1.out LB.out⟩
  |succ gk=>
   have hi1:i<n:=by have:=hig.out;omega
   have ti:(i:Int)<(n:Int):=by omega
   have tx:=zH.out.below LB.out
   obtain⟨ad,x,rfl,hb,hx,hxd⟩:=tx.at_ hi1
   have RI:L.getD i []=x.data.toList:=hxd.symm
   have hil:i<L.length:=by rw[HN.out];exact hi1
   have Ro:Hid (L[i]'hil=x.data.toList):=by
    unfold Hid
    rw[<-RI,List.getD_eq_getElem?_getD,List.getElem?_eq_getElem hil];rfl
   have hxs:x.size<=900:=by rw[Lib.size_eq,<-Ro.out];exact mQ.out.2 _ (List.getElem_mem hil)
   obtain⟨t,ht⟩: ∃t,mk (bare x.data.toList)=t:=⟨_,rfl⟩
   have htd:bare x.data.toList=t.data.toList:=by rw[<-ht];rfl
   have hts:t.size<=900:=by
    have:=ME x.data.toList
    rw[htd,<-Lib.size_eq,<-Lib.size_eq]at this
    omega
   have HT1:=hid (HT.out x (by omega))
   rw[ht]at HT1
   have htk:Hid (L.take (i+1)=L.take i++ [x.data.toList]):=by unfold Hid;rw[List.take_succ_eq_append_getElem hil,Ro.out]
   have Va:wrap64 ((i:Int)+1)=((i+1:Nat):Int):=by have:=mQ.out.1;unfold wrap64;omega
   have zI:=hid htd
   have uO:=hid hts
   have IY:Hid (i+1+gk=n):=by have:=hig.out;unfold Hid;omega
   have b0:(0:Int)<=(i:Int):=by omega
   clear ht htd hts hxs RI hxd tx hb hig
   by_cases hsk:MB t.data.toList=true
   ·have ho:Hid (BQ x.data.toList= []):=OU.2 (by rw[zI.out];exact hsk)
    have HG2:Hid (∀y∈L.take (i+1),good er y):=by
     unfold Hid
     rw[htk.out]
     intro y hy
     rcases List.mem_append.1 hy with hy|hy
     ·exact HG.out y hy
     simp at hy;rw[hy];exact Or.inl ho.out
    have xK:Hid (keep (L.take (i+1))=keep (L.take i)):=by unfold Hid;rw[htk.out,Tg ho.out]
    by_cases h0:0<t.size
    ·have e1:=Ap h0
     have e2:=Bl h0
     have t35:((t[0].toNat:Int)==35)=true:=by
      rw[YH h0]at hsk
      rw[of_decide_eq_true hsk];rfl
     have c0:(0:Int)<(t.size:Int):=by omega
     go_wp2_with fail
     refine(HT1.out _).mono ?_
     rintro e w3 ⟨rfl,l3⟩
     go_wp2_with fail
     go_roundg gk
     case measure=>omega
     case rel=>exact⟨i+1,congrArg (Value.int .i64) Va,IY,HG2,by unfold Hid;rw[xK.out];exact(AP.new (T:=fun _=>False) l3).row OW.out (fun _ _ h=>h),on LB.out l3⟩
    have e1:=Az h0
    have e2:=Bb h0
    go_wp2_with fail
    refine(HT1.out _).mono ?_
    rintro e w3 ⟨rfl,l3⟩
    go_wp2_with fail
    go_roundg gk
    case measure=>omega
    case rel=>exact⟨i+1,congrArg (Value.int .i64) Va,IY,HG2,by unfold Hid;rw[xK.out];exact(AP.new (T:=fun _=>False) l3).row OW.out (fun _ _ h=>h),on LB.out l3⟩
   have fT:MB t.data.toList=false:=by simpa using hsk
   have h0:0<t.size:=by
    rcases Nat.eq_zero_or_pos t.size with h|h
    ·rw[Kit.CX (t:=t) (by omega)]at fT;simp[MB]at fT
    exact h
   have e1:=Ap h0
   have e2:=Bl h0
   have t35:((t[0].toNat:Int)==35)=false:=by
    rw[YH h0]at fT
    have h:=Kit.CG t[0] 35
    rw[fT]at h
    exact h
   have c0:(0:Int)<(t.size:Int):=by omega
   clear hsk
   go_wp2_with fail
   refine(HT1.out _).mono ?_
   rintro e w3 ⟨rfl,l3⟩
   go_upto_block 2 with fail
   go_cut [8,9] (fun s8 s9 wx=> ∃u:ByteArray,s8= .string u/\Hid (u.data.toList=Kt.ahead t.data.toList/\u.size<=900)/\wx=w3)
   case first=>
    go_wp2_with fail
    go_loopg [8,9] t.size (fun Lf s8 s9 wr=> ∃(u:ByteArray) (k:Nat),s8= .string u/\s9= .int .i64 k/\Hid (k+Lf=t.size/\u.size<=t.size)/\Hid (u.data.toList.take k++Kt.ahead (u.data.toList.drop k)=Kt.ahead t.data.toList)/\wr=w3)
    case atStart=>exact⟨t,0,rfl,rfl,by unfold Hid;omega,rfl,rfl⟩
    case round=>
     obtain⟨u,k,rfl,rfl,hkg,xL,rfl⟩:=hrel
     have wB:wrap64 ((k:Int)+1)=((k+1:Nat):Int):=by have:=hkg.out;have:=uO.out;unfold wrap64;omega
     by_cases hlt:k+1<u.size
     ·cases gk with
      |zero=>exact absurd hkg.out (by omega)
      |succ gk=>
       have tk:((k+1:Nat):Int)<(u.size:Int):=by omega
       have tk2:(k:Int)+1<(u.size:Int):=by omega
       have tk3:(k:Int)<(u.size:Int):=by omega
       have tk4:(k:Int)<=(u.size:Int):=by omega
       have hk1:k<u.size:=by omega
       have hnext:=aF hlt
       have HB1:=hid (HB.out u[k])
       have HK2:Hid (k+1+gk=t.size/\u.size<=t.size):=by have:=hkg.out;unfold Hid;omega
       cases hbl:CJ u[k]with
       |false=>
        rw[hbl]at HB1
        have HA2:Hid (u.data.toList.take (k+1)++Kt.ahead (u.data.toList.drop (k+1))=Kt.ahead t.data.toList):=by
         unfold Hid
         rw[<-xL.out,hnext,hbl,Bool.false_and,if_neg (by decide),Kit.EY u k hk1,List.append_assoc];rfl
        clear hnext
        go_wp2_with fail
        refine(HB1.out _).mono ?_
        rintro e w4 ⟨rfl,rfl⟩
        go_wp2_with fail
        go_roundg gk
        case measure=>omega
        case rel=>exact⟨u,k+1,rfl,congrArg (Value.int .i64) wB,HK2,HA2,rfl⟩
       |true=>
        rw[hbl]at HB1
        cases xM:(u[k+1]==35)with
        |false=>
         have zJ:((u[k+1].toNat:Int)==35)=false:=by
          have h:=Kit.CG u[k+1] 35
          have: ¬u[k+1]=35:=by simpa using xM
          rw[decide_eq_false this]at h
          exact h
         have HA2:Hid (u.data.toList.take (k+1)++Kt.ahead (u.data.toList.drop (k+1))=Kt.ahead t.data.toList):=by
          unfold Hid
          rw[<-xL.out,hnext,hbl,xM,Bool.and_false,if_neg (by decide),Kit.EY u k hk1,List.append_assoc];rfl
         clear hnext
         go_wp2_with fail
         refine(HB1.out _).mono ?_
         rintro e w4 ⟨rfl,rfl⟩
         go_wp2_with fail
         go_roundg gk
         case measure=>omega
         case rel=>exact⟨u,k+1,rfl,congrArg (Value.int .i64) wB,HK2,HA2,rfl⟩
        |true=>
         have zJ:((u[k+1].toNat:Int)==35)=true:=by
          have:u[k+1]=35:=by simpa using xM
          rw[this];rfl
         have HA2:Hid ((u.extract 0 k).data.toList.take (k+1)++Kt.ahead ((u.extract 0 k).data.toList.drop (k+1))=Kt.ahead t.data.toList):=by
          unfold Hid
          have hz:(u.extract 0 k).data.toList.length<=k:=by rw[Br,List.length_take];omega
          rw[<-xL.out,hnext,hbl,xM,Bool.and_true,if_pos rfl,List.take_of_length_le (by omega),List.drop_of_length_le (by omega),Br];rfl
         have HK3:Hid (k+1+gk=t.size/\(u.extract 0 k).size<=t.size):=by
          have:=hkg.out;unfold Hid;rw[ByteArray.size_extract];omega
         clear hnext
         go_wp2_with fail
         refine(HB1.out _).mono ?_
         rintro e w4 ⟨rfl,rfl⟩
         go_wp2_with fail
         go_roundg gk
         case measure=>omega
         case rel=>exact⟨u.extract 0 k,k+1,rfl,congrArg (Value.int .i64) wB,HK3,HA2,rfl⟩
     have tk: ¬((k+1:Nat):Int)<(u.size:Int):=by omega
     have tk2: ¬(k:Int)+1<(u.size:Int):=by omega
     have hfin:Hid (u.data.toList=Kt.ahead t.data.toList/\u.size<=900):=by
      refine⟨?_,by have:=hkg.out;have:=uO.out;omega⟩
      rw[<-xL.out,fQ hlt,List.take_append_drop]
     go_wp2_with fail
     go_meet
     exact⟨u,rfl,hfin,rfl⟩
   case rest=>
    obtain⟨u,rfl,HU,rfl⟩:=hcut
    obtain⟨p,hp⟩: ∃p,mk (bare u.data.toList)=p:=⟨_,rfl⟩
    have hof:BQ x.data.toList=p.data.toList:=by
     unfold BQ
     rw[zI.out,fT,if_neg (by decide),<-HU.out.1,<-hp];rfl
    have hps:p.size<=900:=by
     have:=ME u.data.toList
     rw[<-Lib.size_eq]at this
     rw[<-hp,IG]
     have:=HU.out.2
     omega
    have hpf:p.data.toList≠ []:=by
     rw[<-hof]
     intro e
     have:=OU.1 e
     rw[zI.out,fT]at this
     cases this
    have HT2:=hid (HT.out u (by have:=HU.out.2;omega))
    rw[hp]at HT2
    have HP:=hid (HO.out p hps)
    have W3:Hid (Below w1.heap.size w1 wc):=on LB.out l3
    have R3:Hid (wc.ownsRow w1.heap.size 9 1 u5 (keep (L.take i)).length ((keep (L.take i)).map D6)):=(AP.new (T:=fun _=>False) l3).row OW.out (fun _ _ h=>h)
    have uS:=hid hof
    have HPF:=hid hpf
    clear l3 hp hps hpf hof
    by_cases he:er p.data.toList=0
    ·have HG2:Hid (∀y∈L.take (i+1),good er y):=by
       unfold Hid
       rw[htk.out]
       intro y hy
       rcases List.mem_append.1 hy with hy|hy
       ·exact HG.out y hy
       simp at hy;rw[hy];exact Or.inr (by rw[uS.out];exact he)
     have xK:Hid (keep (L.take (i+1))=keep (L.take i)++ [p.data.toList]):=by unfold Hid;rw[htk.out,WE (by rw[uS.out];exact HPF.out),uS.out]
     have hkl:(keep (L.take i)).length<=901:=by
      have h1:=WG (L.take i)
      rw[List.length_take]at h1
      have:=mQ.out.1
      omega
     rw[he]at HP
     go_wp2_with fail
     refine(HT2.out _).mono ?_
     rintro e w4 ⟨rfl,l4⟩
     have W4:=hid (on W3.out l4)
     have R4:Hid (w4.ownsRow w1.heap.size 9 1 u5 (keep (L.take i)).length ((keep (L.take i)).map D6)):=(AP.new (T:=fun _=>False) l4).row R3.out (fun _ _ h=>h)
     clear l4
     go_wp2_with fail
     refine(HP.out _).mono ?_
     rintro e w5 ⟨pv,rfl,l5⟩
     have W5:=hid (on W4.out l5)
     have R5:Hid (w5.ownsRow w1.heap.size 9 1 u5 (keep (L.take i)).length ((keep (L.take i)).map D6)):=(AP.new (T:=fun _=>False) l5).row R4.out (fun _ _ h=>h)
     clear l5
     go_wp2_with (at_builtin;refine wpList_append_own _ rfl (.tmp 65) (.tmp 67) 23 rfl w1.heap.size 9 i0 (.string ⟨#[]⟩) 1 16 Tryz.underlying23 hi hz0 hz1 hz2 rfl (by decide) _ _ _ rfl (R5.out.alloc _) ⟨_,0,none⟩ 1 1 [.string p] rfl rfl (cell_one_new _ _ _) (by intro u hu;simp at hu;subst hu;rfl) (by unfold maxLen;omega) (by omega) (by have:=W5.out.size;simp;omega) ?_;intro v1 w6 hown1 hgrow1 _)
     have W6:=hid (Gn W5.out R5.out hgrow1)
     go_roundg gk
     case measure=>omega
     case rel=>
      refine⟨i+1,congrArg (Value.int .i64) Va,IY,HG2,?_,W6⟩
      unfold Hid
      rw[xK.out]
      exact Ia hown1
    have te:(er p.data.toList !=0)=true:=by simpa using he
    have hres:Hid (go er L 0 []=([],i+1,er p.data.toList)):=by
     unfold Hid
     have h1:L=L.take i++x.data.toList::L.drop (i+1):=by
      conv=>lhs;rw[<-List.take_append_drop i L,List.drop_eq_getElem_cons hil,Ro.out]
     have h2:(L.take i).length=i:=by rw[List.length_take];omega
     conv=>lhs;rw[h1]
     rw[gQ HG.out (by rw[uS.out];exact HPF.out) (by rw[uS.out];exact he),h2,uS.out]
    obtain⟨E,hE⟩: ∃E,er p.data.toList=E:=⟨_,rfl⟩
    rw[hE]at te HP hres
    clear hE he
    go_wp2_with fail
    refine(HT2.out _).mono ?_
    rintro e w4 ⟨rfl,l4⟩
    have W4:=hid (on W3.out l4)
    clear l4
    go_wp2_with fail
    refine(HP.out _).mono ?_
    rintro e w5 ⟨pv,rfl,l5⟩
    have W5:=hid (on W4.out l5)
    clear l5
    go_wp2_with fail
    refine bodyPost_ret (results_tmp3 rfl _ _ _) rfl ?_
    rw[hres.out]
    exact⟨_,by first|rfl|exact congrArg (fun z=>Ending.returned (.tuple #[.slice none 0 0,.int .i64 z,.int .i64 E])) Va,KL _ _,on L1.out W5.out⟩
end
end Gg
namespace Gg
open Strs Al
open Cj (Piece size Dg Whole)
open EH (Gives Fails)
open Kt (Bytes lines go)
open Kit (below_draws on AX Ae)
def uT (l:Bytes):Int:=er (mk l)
theorem qd (p:ByteArray):uT p.data.toList=er p:=by
 unfold uT;rw[show mk p.data.toList=p from Ae p]
theorem pg:lZ uT:=fun p hp w=>by
 refine(Po hp w).mono ?_
 rw[qd]
 rintro e w' (⟨h,v,rfl,-,l⟩|⟨-,rfl,l⟩)
 ·exact⟨v,by rw[h],l⟩
 exact⟨_,rfl,l⟩
theorem ll:bL uT:=fun p hp w=>by
 have:=lQ p hp w
 rwa[<-qd]at this
theorem pq (W:World):(convert 53 9 (.slice (some ⟨W.heap.size,0,none⟩) 1 1)).run Tryz.prog (W.alloc (.cells #[.int .u8 92] 5))= .ok (.string ⟨#[92]⟩) (W.alloc (.cells #[.int .u8 92] 5)):=
 run_convert_bytes_arg _ 53 5 Tryz.underlying53 Tryz.underlying5 _ 0 1 1 [92] rfl (fun i hi=>by
  obtain rfl:i=0:=by omega
  simp) 9 Tryz.underlying9
theorem SC (w:World):Calls Tryz.prog 11 #[] w fun e w'=> ∃v,e= .returned v/\Bc w'.heap.size w' v builtIn/\Below w.heap.size w w':=by
 obtain⟨w1,hw1⟩: ∃w1,w.alloc (.cells #[.int .u8 92] 5)=w1:=⟨_,rfl⟩
 have hb:Hid (Bc (w1.heap.size+1) (w1.alloc (.cells (builtIn.map D6).toArray 9)) (.slice (some ⟨w1.heap.size,0,none⟩) 16 16) builtIn):=Uh w1 builtIn (by unfold maxLen;decide) _
 have B1:Hid (Below w.heap.size w w1):=by rw[<-hw1];exact W14.AZ _ _
 have hc:=pq w
 rw[hw1]at hc
 go_enter Tryz.func11,Tryz.ntmps11
 go_wp2_with (rw[hw1])
 go_ret
 exact⟨_,rfl,by rw[World.size_alloc];exact hb.out,on B1.out (W14.AZ _ _)⟩
theorem PW (s:ByteArray) (_:s.size<=140737488351232) {w:World} (hh:JA w):Calls Tryz.prog 3 #[.string s] w (mW w):=by
 have HV:=hid KY
 unfold mW at HV ⊢
 by_cases h4:(s.size:Int)>400
 ·go_enter Tryz.func3,Tryz.ntmps3
  go_wp2_with fail
  refine(HV.out _).mono ?_
  rintro e w1 ⟨rfl,l1⟩
  go_wp2_with fail
  go_ret
  exact⟨rfl,l1⟩
 have HP:=hid (Ff pg (s:=s) (by omega) hh)
 have HR:Hid (∀w,Calls Tryz.prog 8 #[.string s] w (Reads (go uT (lines s.data.toList) 0 []) w)):=fun w=>Ja ll (by omega)
 unfold Reads at HP HR
 generalize go uT (lines s.data.toList) 0 []=R at*
 obtain⟨L,n,f⟩:=R
 simp only at HP HR
 have HD:=hid O8
 have HE:=hid SC
 have HS:Hid (∀(va vb:Value) (L:List Bytes) (w:World),Bc w.heap.size w va L->Bc w.heap.size w vb L->Calls Tryz.prog 9 #[va,vb] w fun e w'=>e= .returned (.bool true)/\Below w.heap.size w w'):=fun va vb L w h1 h2=>Jj.gu va vb L w.heap.size w h1 h2
 have tf:(f==f)=true:=beq_self_eq_true f
 have tn:((n:Int)==(n:Int))=true:=beq_self_eq_true _
 generalize builtIn=D at*
 clear hh
 go_enter Tryz.func3,Tryz.ntmps3
 go_wp2_with fail
 refine HP.out.mono ?_
 rintro e w1 ⟨v1,rfl,t1,l1⟩
 have T1:=hid t1
 have L1:=hid l1
 clear t1 l1
 go_wp2_with fail
 refine(HR.out _).mono ?_
 rintro e w2 ⟨v2,rfl,t2,l2⟩
 have T2:=hid t2
 have T12:=hid ((T1.out.below l2).more l2.size)
 have L2:=hid (on L1.out l2)
 clear t2 l2
 go_wp2_with fail
 refine(HS.out _ _ _ _ T12.out T2.out).mono ?_
 rintro e w3 ⟨rfl,l3⟩
 have L3:=hid (on L2.out l3)
 clear l3
 go_wp2_with fail
 refine(HD.out _).mono ?_
 rintro e w4 ⟨v4,rfl,t4,l4⟩
 have T4:=hid t4
 have L4:=hid (on L3.out l4)
 clear t4 l4
 go_wp2_with fail
 refine(HE.out _).mono ?_
 rintro e w5 ⟨v5,rfl,t5,l5⟩
 have T5:=hid t5
 have T45:=hid ((T4.out.below l5).more l5.size)
 have L5:=hid (on L4.out l5)
 clear t5 l5
 go_wp2_with fail
 refine(HS.out _ _ _ _ T45.out T5.out).mono ?_
 rintro e w6 ⟨rfl,l6⟩
 have L6:=hid (on L5.out l6)
 clear l6
 go_wp2_with fail
 refine(HV.out _).mono ?_
 rintro e w7 ⟨rfl,l7⟩
 have L7:=hid (on L6.out l7)
 clear l7
 go_wp2_with fail
 go_ret
 exact⟨rfl,L7.out⟩
end Gg
end Go.Proofs.YtfgegjinhkgpbaaGreatDoor
