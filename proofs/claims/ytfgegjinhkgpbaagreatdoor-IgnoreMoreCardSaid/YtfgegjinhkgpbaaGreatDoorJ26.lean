/-
  Texts joined, in build order, each with its own comment and its own conditions: W13RefParse.
-/
import Derived.Test.YtfgegjinhkgpbaaGreatDoorJ25
import Derived.Deep.LoopGhost
namespace Go.Proofs.YtfgegjinhkgpbaaGreatDoor
set_option maxHeartbeats 4000000
set_option maxRecDepth 100000
open Go.RowKit
open Lib (hid)
namespace W13
open M13 Row256
open Kit (ret_str ret_bool ret_int mk_of mk_bytes ba_ext below_draws on list_full list_none)
def RParsed (w:World) (r:(Nat→Bool)×Nat×Int) (e:Ending) (w':World):Prop:=e= .returned (.tuple #[.string (tx r.1),.int .i64 r.2.1,.int .i64 r.2.2])∧Below w.heap.size w w'
theorem span_none (w:World):Calls Tryz.prog 165 #[.int .i64 1,.int .i64 0] w fun e w'=>e= .returned (.string (tx fun _=>false))∧Below w.heap.size w w':=by
 have h:=refSpan_any 1 0 (by decide) w
 rw[tx_congr (f:=between 1 0) (g:=fun _=>false) (fun i _=>by unfold between;by_cases h:1≤i<;>simp[h];omega)]at h
 exact h
theorem union_named {d X:ByteArray} {F G:Nat→Bool} (hd:d=tx F) (hx:X=tx G): ∃Y,Y=tx (fun i=>F i||G i)∧ ∀w,Calls Tryz.prog 135 #[.string d,.string X] w fun e w'=>e= .returned (.string Y)∧Below w.heap.size w w':=
 ⟨_,rfl,fun w=>by subst hd hx;exact refUnion_tx F G w⟩
theorem not_named {d:ByteArray} {F:Nat→Bool} (hd:d=tx F): ∃Y,Y=tx (fun i=> !F i)∧ ∀w,Calls Tryz.prog 167 #[.string d] w fun e w'=>e= .returned (.string Y)∧Below w.heap.size w w':=
 ⟨_,rfl,fun w=>by subst hd;exact refNot_tx F w⟩
theorem span_named (c d:UInt8): ∃Y,Y=tx (between c.toNat d.toNat)∧ ∀w,Calls Tryz.prog 165 #[.int .i64 c.toNat,.int .i64 d.toNat] w fun e w'=>e= .returned (.string Y)∧Below w.heap.size w w':=
 ⟨_,rfl,fun w=>refSpan_any _ _ (UInt8.toNat_lt d) w⟩
structure NextAt (s:ByteArray) (a:Nat) (c:UInt8) (m:Nat) (l:Bool):Prop where
 one:one (s.data.toList.drop a)=(c,m,l)
 le:m≠0→a+m≤s.size∧a<s.size
 none:m=0→ ∀w,Calls Tryz.prog 166 #[.string s,.int .i64 a] w (NextTo w (.tuple #[.int .i64 0,.string ⟨#[]⟩,.int .i64 0,.int .i64 3]))
 some:m≠0→ ∃(av:Int) (X:ByteArray) (G:Nat→Bool),X=tx G∧(l=true→av= -1∧G=namedF c)∧(l=false→av=(c.toNat:Int)∧G=fun i=>decide (i=c.toNat))∧ ∀w,Calls Tryz.prog 166 #[.string s,.int .i64 a] w (NextTo w (.tuple #[.int .i64 av,.string X,.int .i64 ((a+m:Nat):Int),.int .i64 0]))
theorem nextAt {s:ByteArray} (hs:s.size≤900) (a:Nat): ∃c m l,NextAt s a c m l:=by
 obtain⟨⟨c,m,l⟩,hone⟩: ∃r,one (s.data.toList.drop a)=r:=⟨_,rfl⟩
 have hn:=fun w=>next_any (w:=w) (at_:=a) hs
 rw[hone]at hn
 have hle:=one_le (s.data.toList.drop a)
 rw[hone,List.length_drop,←Lib.size_eq]at hle
 simp only at hle
 refine⟨c,m,l,hone,fun h=>by omega,fun h w=> ?_,fun h=> ?_⟩
 ·have:=hn w
  unfold nextV at this
  rw[if_pos h]at this
  exact this
 ·cases l with
  |true=>
   refine⟨-1,_,namedF c,rfl,fun _=>⟨rfl,rfl⟩,fun q=>(by simp at q),fun w=> ?_⟩
   have:=hn w
   unfold nextV at this
   rw[if_neg h]at this
   exact this
  |false=>
   refine⟨c.toNat,_,fun i=>decide (i=c.toNat),rfl,fun q=>(by simp at q),fun _=>⟨rfl,rfl⟩,fun w=> ?_⟩
   have:=hn w
   unfold nextV at this
   rw[if_neg h]at this
   rw[tx_congr (f:=fun i=>decide (i=c.toNat)) (g:=between c.toNat c.toNat) (fun i _=>(one_is _ _).symm)]
   exact this
theorem joined_no {s:ByteArray} {b:Nat} (h:b<s.size) (h45: ¬s[b]=45):joined (s.data.toList.drop b)=false:=by
 rw[Kit.drop_next s b h];unfold joined;simp[h45]
theorem joined_end {s:ByteArray} {b:Nat} (h: ¬b<s.size):joined (s.data.toList.drop b)=false:=by rw[Kit.drop_end s b h];rfl
theorem joined_93 {s:ByteArray} {b:Nat} (h:b+1<s.size) (h93:s[b+1]=93):joined (s.data.toList.drop b)=false:=by
 rw[Kit.drop_next s b (by omega),Kit.drop_next s (b+1) h];unfold joined;simp[h93]
theorem joined_last {s:ByteArray} {b:Nat} (h:b<s.size) (h45:s[b]=45) (h2: ¬b+1<s.size):joined (s.data.toList.drop b)=true:=by
 rw[Kit.drop_next s b h,Kit.drop_end s (b+1) h2];unfold joined;simp[h45]
theorem joined_yes {s:ByteArray} {b:Nat} (h:b+1<s.size) (h45:s[b]=45) (h93: ¬s[b+1]=93):joined (s.data.toList.drop b)=true:=by
 rw[Kit.drop_next s b (by omega),Kit.drop_next s (b+1) h];unfold joined;simp[h45,h93]
set_option maxHeartbeats 16000000 in
theorem refParse_neg {s:ByteArray} (hs1:s.size≤900) (h0:0<s.size) (h91:s[0]=91) (h1:1<s.size) (h94:s[1]=94) (w:World):Calls Tryz.prog 154 #[.string s] w (RParsed w (fin true (itemsA s.data.toList (s.size-2+1) 2 true (fun _=>false)))):=by
 obtain⟨R,hR⟩: ∃R,itemsA s.data.toList (s.size-2+1) 2 true (fun _=>false)=R:=⟨_,rfl⟩
 rw[hR]
 have HRR:=hid hR
 have hs:=hid hs1
 have H1:=hid h1
 have he:=list_full h0
 have i0:(0:Int)<(s.size:Int):=by omega
 have i1:(1:Int)<(s.size:Int):=by omega
 have t91:((s[0].toNat:Int)==91)=true:=u8_yes h91
 have n91:((s[0].toNat:Int) !=91)=false:=by show(!((s[0].toNat:Int)==91))=false;rw[t91];rfl
 have t94:((s[1].toNat:Int)==94)=true:=u8_yes h94
 obtain⟨Z,hZ⟩: ∃Z,tx (fun _=>false)=Z:=⟨_,rfl⟩
 have HZ:=hid hZ
 have hSN:=span_none
 rw[hZ]at hSN
 have HSN:=hid hSN
 clear hSN hZ hs1 hR h91 h94
 go_enter Tryz.func154,Tryz.ntmps154
 go_wp2_with fail
 refine(HSN.out _).mono ?_
 rintro e w1 ⟨rfl,l1⟩
 have HB1:=hid l1
 clear l1
 go_wp2_with fail
 rename_i hh K hK
 rw[hh]
 clear hh t94 t91 n91 he
 go_loopg [6,8,9] (s.size-2) (fun gk s6 s8 s9 wr=> ∃(a:Nat) (F:Nat→Bool) (d:ByteArray) (fst:Bool),s6= .int .i64 a∧s8= .string d∧s9= .bool fst∧Hid (a≤s.size∧s.size≤a+gk)∧Hid (d=tx F)∧Hid (itemsA s.data.toList (gk+1) a fst F=R)∧Hid (Below w.heap.size w wr))
 case atStart=>exact⟨2,fun _=>false,Z,true,rfl,rfl,rfl,hid ⟨by have:=H1.out;omega,by have:=H1.out;omega⟩,HZ.out.symm,HRR,HB1⟩
 case round=>
  obtain⟨a,F,d,fst,rfl,rfl,rfl,ha,hd,hit,HB⟩:=hrel
  cases fst with
  |true=>
   have HNE:=hid (show¬(s.data.toList.getD a 0=93∧true=false)from fun q=>by simp at q)
   obtain⟨c,m,l,hn⟩:=nextAt hs.out a
   by_cases hm:m=0
   ·have HN:=hid (hn.none hm)
    have HX:Hid (R=(fun _=>false,0,3)):=by
     unfold Hid
     rw[←hit.out]
     exact itemsA_bad HNE.out (item_none (by rw[hn.one,hm])) (by decide) (fun _=>rfl)
    clear hn hm hit
    go_wp2_with fail
    refine(HN.out _).mono ?_
    rintro e w2 ⟨rfl,l2⟩
    have H2:=hid (on HB.out l2)
    clear l2
    go_wp2_with fail
    go_ret3
    refine⟨?_,H2.out⟩
    rw[HX.out,fin_bad (by decide),←HZ.out];rfl
   ·obtain⟨av,X,G,hX,hl1,hl2,hN⟩:=hn.some hm
    have hle:=hn.le hm
    obtain⟨b,hb2⟩: ∃b,a+m=b:=⟨_,rfl⟩
    have hdrop:(s.data.toList.drop a).drop m=s.data.toList.drop b:=by rw[List.drop_drop,hb2]
    have hdrop2:(s.data.toList.drop a).drop (m+1)=s.data.toList.drop (b+1):=by rw[List.drop_drop,←hb2,Nat.add_assoc]
    rw[hb2]at hN hle
    have HN:=hid hN
    have hsz:=hs.out
    have hw:wrap64 ((b:Int)+1)=((b+1:Nat):Int):=by unfold wrap64;omega
    clear hN
    by_cases hbs:b<s.size
    ·have tb:(b:Int)<(s.size:Int):=by omega
     by_cases h45:s[b]=45
     ·have t45:((s[b].toNat:Int)==45)=true:=u8_yes h45
      by_cases hb1:b+1<s.size
      ·have tb1:((b+1:Nat):Int)<(s.size:Int):=by omega
       have te1:(((b+1:Nat):Int)==(s.size:Int))=false:=by simpa using (by omega: ¬((b:Int)+1)=(s.size:Int))
       by_cases h93:s[b+1]=93
       ·have t93:((s[b+1].toNat:Int)==93)=true:=u8_yes h93
        have n93:((s[b+1].toNat:Int) !=93)=false:=by show(!((s[b+1].toNat:Int)==93))=false;rw[t93];rfl
        have hj:=joined_93 hb1 h93
        clear h45 h93
        obtain⟨Y,hY,hU⟩:=union_named hd.out hX
        have HU:=hid hU
        have HYY:Hid (Y=tx (fun i=>F i||G i)):=hY
        have hG:item (s.data.toList.drop a)=(m,0,G):=by
         cases hlet:l with
         |true=>rw[hlet]at hn;rw[item_l hn.one hm (by rw[hdrop];exact hj),(hl1 hlet).2]
         |false=>rw[hlet]at hn;rw[item_p hn.one hm (by rw[hdrop];exact hj),(hl2 hlet).2]
        have HY:Hid (itemsA s.data.toList gk b false (fun i=>F i||G i)=R):=by
         unfold Hid
         rw[←hit.out,itemsA_on (by rw[←Lib.size_eq];exact hle.2) HNE.out hG,hb2]
        have HM:=hid (show a<b∧b≤s.size from⟨by omega,hle.1⟩)
        have HA:=hid (show a≤s.size∧s.size≤a+gk from⟨ha.out.1,ha.out.2⟩)
        clear hU hY hG hl1 hl2 hn hX hdrop hdrop2 hj hit hm hb2 hle ha hd
        go_wp2_with fail
        refine(HN.out _).mono ?_
        rintro e w2 ⟨rfl,l2⟩
        have H2:=hid (on HB.out l2)
        clear l2
        go_wp2_with fail
        refine(HU.out _).mono ?_
        rintro e w3 ⟨rfl,l2⟩
        have H3:=hid (on H2.out l2)
        clear l2
        go_wp2_with fail
        cases gk with
        |zero=>exact absurd HM.out.1 (by have:=HA.out;have:=HM.out;omega)
        |succ g=>
         go_roundg g
         case measure=>omega
         case rel=>exact⟨b,_,_,false,rfl,rfl,rfl,hid ⟨HM.out.2,by have:=HA.out;have:=HM.out;omega⟩,HYY,HY,H3⟩
       ·have t93:((s[b+1].toNat:Int)==93)=false:=u8_no h93
        have n93:((s[b+1].toNat:Int) !=93)=true:=by show(!((s[b+1].toNat:Int)==93))=true;rw[t93];rfl
        have hj:=joined_yes hb1 h45 h93
        cases hlet:l with
        |true=>
         have hav:=(hl1 hlet).1
         subst hav
         have HX:Hid (R=(fun _=>false,0,3)):=by
          unfold Hid
          rw[←hit.out]
          exact itemsA_bad HNE.out (item_lj (by rw[hn.one,hlet]) hm (by rw[hdrop];exact hj)) (by decide) (fun _=>rfl)
         clear h45 h93 hn hm hit hl1 hl2 hlet hdrop hdrop2 hj hX hb2 hle
         go_wp2_with fail
         refine(HN.out _).mono ?_
         rintro e w2 ⟨rfl,l2⟩
         have H2:=hid (on HB.out l2)
         clear l2
         go_wp2_with fail
         go_ret3
         refine⟨?_,H2.out⟩
         rw[HX.out,fin_bad (by decide),←HZ.out];rfl
        |false=>
         obtain⟨hav,-⟩:=hl2 hlet
         subst hav
         have tc: ¬((c.toNat:Nat):Int)<0:=by omega
         rw[hlet]at hn
         obtain⟨c2,m2,l2,hn2⟩:=nextAt hs.out (b+1)
         by_cases hm2:m2=0
         ·have HN2:=hid (hn2.none hm2)
          have HX:Hid (R=(fun _=>false,0,3)):=by
           unfold Hid
           rw[←hit.out]
           exact itemsA_bad HNE.out (item_n2 hn.one hm (by rw[hdrop];exact hj) (by rw[hdrop2,hn2.one,hm2])) (by decide) (fun _=>rfl)
          clear h45 h93 hn hm hit hl1 hl2 hlet hdrop hdrop2 hj hX hb2 hle hn2 hm2
          go_wp2_with fail
          refine(HN.out _).mono ?_
          rintro e w2 ⟨rfl,l2⟩
          have H2:=hid (on HB.out l2)
          clear l2
          go_wp2_with fail
          refine(HN2.out _).mono ?_
          rintro e w3 ⟨rfl,l2⟩
          have H3:=hid (on H2.out l2)
          clear l2
          go_wp2_with fail
          go_ret3
          refine⟨?_,H3.out⟩
          rw[HX.out,fin_bad (by decide),←HZ.out];rfl
         ·obtain⟨av2,X2,G2,-,hl3,hl4,hN2⟩:=hn2.some hm2
          have hle2:=hn2.le hm2
          obtain⟨d,hd2⟩: ∃d,b+1+m2=d:=⟨_,rfl⟩
          rw[hd2]at hN2 hle2
          have HN2:=hid hN2
          clear hN2
          cases hlet2:l2 with
          |true=>
           have hav2:=(hl3 hlet2).1
           subst hav2
           have HX:Hid (R=(fun _=>false,0,3)):=by
            unfold Hid
            rw[←hit.out]
            exact itemsA_bad HNE.out (item_l2 hn.one hm (by rw[hdrop];exact hj) (by rw[hdrop2,hn2.one,hlet2]) hm2) (by decide) (fun _=>rfl)
           clear h45 h93 hn hm hit hl1 hl2 hlet hdrop hdrop2 hj hX hb2 hle hn2 hm2 hl3 hl4 hlet2 hle2 hd2
           go_wp2_with fail
           refine(HN.out _).mono ?_
           rintro e w2 ⟨rfl,l2⟩
           have H2:=hid (on HB.out l2)
           clear l2
           go_wp2_with fail
           refine(HN2.out _).mono ?_
           rintro e w3 ⟨rfl,l2⟩
           have H3:=hid (on H2.out l2)
           clear l2
           go_wp2_with fail
           go_ret3
           refine⟨?_,H3.out⟩
           rw[HX.out,fin_bad (by decide),←HZ.out];rfl
          |false=>
           have hav2:=(hl4 hlet2).1
           subst hav2
           have tc2: ¬((c2.toNat:Nat):Int)<0:=by omega
           by_cases hlt:c2.toNat<c.toNat
           ·have tlt:((c2.toNat:Nat):Int)<((c.toNat:Nat):Int):=by omega
            have HX:Hid (R=(fun _=>false,0,4)):=by
             unfold Hid
             rw[←hit.out]
             exact itemsA_bad HNE.out (item_lt hn.one hm (by rw[hdrop];exact hj) (by rw[hdrop2,hn2.one,hlet2]) hm2 hlt) (by decide) (fun q=>by rw[←Lib.size_eq]at q;omega)
            clear h45 h93 hn hm hit hl1 hl2 hlet hdrop hdrop2 hj hX hb2 hle hn2 hm2 hl3 hl4 hlet2 hle2 hd2 hlt
            go_wp2_with fail
            refine(HN.out _).mono ?_
            rintro e w2 ⟨rfl,l2⟩
            have H2:=hid (on HB.out l2)
            clear l2
            go_wp2_with fail
            refine(HN2.out _).mono ?_
            rintro e w3 ⟨rfl,l2⟩
            have H3:=hid (on H2.out l2)
            clear l2
            go_wp2_with fail
            go_ret3
            refine⟨?_,H3.out⟩
            rw[HX.out,fin_bad (by decide),←HZ.out];rfl
           ·have tlt: ¬((c2.toNat:Nat):Int)<((c.toNat:Nat):Int):=by omega
            obtain⟨X3,hX3,hS⟩:=span_named c c2
            obtain⟨Y,hY,hU⟩:=union_named hd.out hX3
            have HSP:=hid hS
            have HU:=hid hU
            have HYY:Hid (Y=tx (fun i=>F i||between c.toNat c2.toNat i)):=hY
            have HY:Hid (itemsA s.data.toList gk d false (fun i=>F i||between c.toNat c2.toNat i)=R):=by
             unfold Hid
             rw[←hit.out,itemsA_on (by rw[←Lib.size_eq];exact hle.2) HNE.out (item_ok hn.one hm (by rw[hdrop];exact hj) (by rw[hdrop2,hn2.one,hlet2]) hm2 hlt),←hd2,←hb2]
             congr 1
             omega
            have HM:=hid (show a<d∧d≤s.size from⟨by omega,hle2.1⟩)
            have HA:=hid (show a≤s.size∧s.size≤a+gk from⟨ha.out.1,ha.out.2⟩)
            clear h45 h93 hn hm hit hl1 hl2 hlet hdrop hdrop2 hj hX hb2 hle hn2 hm2 hl3 hl4 hlet2 hle2 hd2 hlt hS hU hY hX3 ha hd
            go_wp2_with fail
            refine(HN.out _).mono ?_
            rintro e w2 ⟨rfl,l2⟩
            have H2:=hid (on HB.out l2)
            clear l2
            go_wp2_with fail
            refine(HN2.out _).mono ?_
            rintro e w3 ⟨rfl,l2⟩
            have H3:=hid (on H2.out l2)
            clear l2
            go_wp2_with fail
            refine(HSP.out _).mono ?_
            rintro e w4 ⟨rfl,l2⟩
            have H4:=hid (on H3.out l2)
            clear l2
            go_wp2_with fail
            refine(HU.out _).mono ?_
            rintro e w5 ⟨rfl,l2⟩
            have H5:=hid (on H4.out l2)
            clear l2
            go_wp2_with fail
            cases gk with
            |zero=>exact absurd HM.out.1 (by have:=HA.out;have:=HM.out;omega)
            |succ g=>
             go_roundg g
             case measure=>omega
             case rel=>exact⟨d,_,_,false,rfl,rfl,rfl,hid ⟨HM.out.2,by have:=HA.out;have:=HM.out;omega⟩,HYY,HY,H5⟩
      ·have te1:(((b+1:Nat):Int)==(s.size:Int))=true:=by simpa using (by omega:((b:Int)+1)=(s.size:Int))
       have hj:=joined_last hbs h45 hb1
       cases hlet:l with
       |true=>
        have hav:=(hl1 hlet).1
        subst hav
        have HX:Hid (R=(fun _=>false,0,3)):=by
         unfold Hid
         rw[←hit.out]
         exact itemsA_bad HNE.out (item_lj (by rw[hn.one,hlet]) hm (by rw[hdrop];exact hj)) (by decide) (fun _=>rfl)
        clear h45 hn hm hit hl1 hl2 hlet hdrop hdrop2 hj hX hb2 hle
        go_wp2_with fail
        refine(HN.out _).mono ?_
        rintro e w2 ⟨rfl,l2⟩
        have H2:=hid (on HB.out l2)
        clear l2
        go_wp2_with fail
        go_ret3
        refine⟨?_,H2.out⟩
        rw[HX.out,fin_bad (by decide),←HZ.out];rfl
       |false=>
        obtain⟨hav,-⟩:=hl2 hlet
        subst hav
        have tc: ¬((c.toNat:Nat):Int)<0:=by omega
        rw[hlet]at hn
        obtain⟨c2,m2,l2,hn2⟩:=nextAt hs.out (b+1)
        have hm2:m2=0:=by
         by_cases q:m2=0
         ·exact q
         ·have:=(hn2.le q).2;omega
        have HN2:Hid (∀w,Calls Tryz.prog 166 #[.string s,.int .i64 (s.size:Int)] w (NextTo w (.tuple #[.int .i64 0,.string ⟨#[]⟩,.int .i64 0,.int .i64 3]))):=by
         have:=hn2.none hm2
         rw[show b+1=s.size by omega]at this
         exact this
        have HX:Hid (R=(fun _=>false,0,3)):=by
         unfold Hid
         rw[←hit.out]
         exact itemsA_bad HNE.out (item_n2 hn.one hm (by rw[hdrop];exact hj) (by rw[hdrop2,hn2.one,hm2])) (by decide) (fun _=>rfl)
        clear h45 hn hm hit hl1 hl2 hlet hdrop hdrop2 hj hX hb2 hle hn2 hm2
        go_wp2_with fail
        refine(HN.out _).mono ?_
        rintro e w2 ⟨rfl,l2⟩
        have H2:=hid (on HB.out l2)
        clear l2
        go_wp2_with fail
        refine(HN2.out _).mono ?_
        rintro e w3 ⟨rfl,l2⟩
        have H3:=hid (on H2.out l2)
        clear l2
        go_wp2_with fail
        go_ret3
        refine⟨?_,H3.out⟩
        rw[HX.out,fin_bad (by decide),←HZ.out];rfl
     ·have t45:((s[b].toNat:Int)==45)=false:=u8_no h45
      have hj:=joined_no hbs h45
      clear h45
      obtain⟨Y,hY,hU⟩:=union_named hd.out hX
      have HU:=hid hU
      have HYY:Hid (Y=tx (fun i=>F i||G i)):=hY
      have hG:item (s.data.toList.drop a)=(m,0,G):=by
       cases hlet:l with
       |true=>rw[hlet]at hn;rw[item_l hn.one hm (by rw[hdrop];exact hj),(hl1 hlet).2]
       |false=>rw[hlet]at hn;rw[item_p hn.one hm (by rw[hdrop];exact hj),(hl2 hlet).2]
      have HY:Hid (itemsA s.data.toList gk b false (fun i=>F i||G i)=R):=by
       unfold Hid
       rw[←hit.out,itemsA_on (by rw[←Lib.size_eq];exact hle.2) HNE.out hG,hb2]
      have HM:=hid (show a<b∧b≤s.size from⟨by omega,hle.1⟩)
      have HA:=hid (show a≤s.size∧s.size≤a+gk from⟨ha.out.1,ha.out.2⟩)
      clear hU hY hG hl1 hl2 hn hX hdrop hdrop2 hj hit hm hb2 hle ha hd
      go_wp2_with fail
      refine(HN.out _).mono ?_
      rintro e w2 ⟨rfl,l2⟩
      have H2:=hid (on HB.out l2)
      clear l2
      go_wp2_with fail
      refine(HU.out _).mono ?_
      rintro e w3 ⟨rfl,l2⟩
      have H3:=hid (on H2.out l2)
      clear l2
      go_wp2_with fail
      cases gk with
      |zero=>exact absurd HM.out.1 (by have:=HA.out;have:=HM.out;omega)
      |succ g=>
       go_roundg g
       case measure=>omega
       case rel=>exact⟨b,_,_,false,rfl,rfl,rfl,hid ⟨HM.out.2,by have:=HA.out;have:=HM.out;omega⟩,HYY,HY,H3⟩
    ·have tb: ¬(b:Int)<(s.size:Int):=by omega
     have hj:=joined_end hbs
     obtain⟨Y,hY,hU⟩:=union_named hd.out hX
     have HU:=hid hU
     have HYY:Hid (Y=tx (fun i=>F i||G i)):=hY
     have hG:item (s.data.toList.drop a)=(m,0,G):=by
      cases hlet:l with
      |true=>rw[hlet]at hn;rw[item_l hn.one hm (by rw[hdrop];exact hj),(hl1 hlet).2]
      |false=>rw[hlet]at hn;rw[item_p hn.one hm (by rw[hdrop];exact hj),(hl2 hlet).2]
     have HY:Hid (itemsA s.data.toList gk b false (fun i=>F i||G i)=R):=by
      unfold Hid
      rw[←hit.out,itemsA_on (by rw[←Lib.size_eq];exact hle.2) HNE.out hG,hb2]
     have HM:=hid (show a<b∧b≤s.size from⟨by omega,hle.1⟩)
     have HA:=hid (show a≤s.size∧s.size≤a+gk from⟨ha.out.1,ha.out.2⟩)
     clear hU hY hG hl1 hl2 hn hX hdrop hdrop2 hj hit hm hb2 hle ha hd
     go_wp2_with fail
     refine(HN.out _).mono ?_
     rintro e w2 ⟨rfl,l2⟩
     have H2:=hid (on HB.out l2)
     clear l2
     go_wp2_with fail
     refine(HU.out _).mono ?_
     rintro e w3 ⟨rfl,l2⟩
     have H3:=hid (on H2.out l2)
     clear l2
     go_wp2_with fail
     cases gk with
     |zero=>exact absurd HM.out.1 (by have:=HA.out;have:=HM.out;omega)
     |succ g=>
      go_roundg g
      case measure=>omega
      case rel=>exact⟨b,_,_,false,rfl,rfl,rfl,hid ⟨HM.out.2,by have:=HA.out;have:=HM.out;omega⟩,HYY,HY,H3⟩
  |false=>
   by_cases hlt:a<s.size
   ·have ti: ¬(s.size:Int)≤(a:Int):=by omega
    have tl:(a:Int)<(s.size:Int):=by omega
    have hga:s.data.toList.getD a 0=s[a]:=Kit.byte_get s a hlt
    by_cases h93:s[a]=93
    ·have t93:((s[a].toNat:Int)==93)=true:=u8_yes h93
     have n93:((s[a].toNat:Int) !=93)=false:=by show(!((s[a].toNat:Int)==93))=false;rw[t93];rfl
     have HX:Hid (R=(F,a+1,0)):=by
      unfold Hid
      rw[←hit.out]
      exact itemsA_end (by rw[←Lib.size_eq];exact hlt) (by rw[hga];exact h93)
     have hsz:=hs.out
     have hw:wrap64 ((a:Int)+1)=((a+1:Nat):Int):=by unfold wrap64;omega
     obtain⟨Y,hY,hN⟩:=not_named hd.out
     have HN:=hid hN
     have HYY:=hid hY
     clear hN hY hit h93 hga
     go_wp2_with fail
     refine(HN.out _).mono ?_
     rintro e w2 ⟨rfl,l2⟩
     have H2:=hid (on HB.out l2)
     clear l2
     go_wp2_with fail
     go_ret3
     refine⟨?_,H2.out⟩
     rw[HX.out,fin_neg,HYY.out];rfl
    ·have t93:((s[a].toNat:Int)==93)=false:=u8_no h93
     have n93:((s[a].toNat:Int) !=93)=true:=by show(!((s[a].toNat:Int)==93))=true;rw[t93];rfl
     have HNE:=hid (show¬(s.data.toList.getD a 0=93∧false=false)from fun q=>h93 (by rw[←hga];exact q.1))
     clear h93 hga
     obtain⟨c,m,l,hn⟩:=nextAt hs.out a
     by_cases hm:m=0
     ·have HN:=hid (hn.none hm)
      have HX:Hid (R=(fun _=>false,0,3)):=by
       unfold Hid
       rw[←hit.out]
       exact itemsA_bad HNE.out (item_none (by rw[hn.one,hm])) (by decide) (fun _=>rfl)
      clear hn hm hit
      go_wp2_with fail
      refine(HN.out _).mono ?_
      rintro e w2 ⟨rfl,l2⟩
      have H2:=hid (on HB.out l2)
      clear l2
      go_wp2_with fail
      go_ret3
      refine⟨?_,H2.out⟩
      rw[HX.out,fin_bad (by decide),←HZ.out];rfl
     ·obtain⟨av,X,G,hX,hl1,hl2,hN⟩:=hn.some hm
      have hle:=hn.le hm
      obtain⟨b,hb2⟩: ∃b,a+m=b:=⟨_,rfl⟩
      have hdrop:(s.data.toList.drop a).drop m=s.data.toList.drop b:=by rw[List.drop_drop,hb2]
      have hdrop2:(s.data.toList.drop a).drop (m+1)=s.data.toList.drop (b+1):=by rw[List.drop_drop,←hb2,Nat.add_assoc]
      rw[hb2]at hN hle
      have HN:=hid hN
      have hsz:=hs.out
      have hw:wrap64 ((b:Int)+1)=((b+1:Nat):Int):=by unfold wrap64;omega
      clear hN
      by_cases hbs:b<s.size
      ·have tb:(b:Int)<(s.size:Int):=by omega
       by_cases h45:s[b]=45
       ·have t45:((s[b].toNat:Int)==45)=true:=u8_yes h45
        by_cases hb1:b+1<s.size
        ·have tb1:((b+1:Nat):Int)<(s.size:Int):=by omega
         have te1:(((b+1:Nat):Int)==(s.size:Int))=false:=by simpa using (by omega: ¬((b:Int)+1)=(s.size:Int))
         by_cases h93:s[b+1]=93
         ·have t93:((s[b+1].toNat:Int)==93)=true:=u8_yes h93
          have n93:((s[b+1].toNat:Int) !=93)=false:=by show(!((s[b+1].toNat:Int)==93))=false;rw[t93];rfl
          have hj:=joined_93 hb1 h93
          clear h45 h93
          obtain⟨Y,hY,hU⟩:=union_named hd.out hX
          have HU:=hid hU
          have HYY:Hid (Y=tx (fun i=>F i||G i)):=hY
          have hG:item (s.data.toList.drop a)=(m,0,G):=by
           cases hlet:l with
           |true=>rw[hlet]at hn;rw[item_l hn.one hm (by rw[hdrop];exact hj),(hl1 hlet).2]
           |false=>rw[hlet]at hn;rw[item_p hn.one hm (by rw[hdrop];exact hj),(hl2 hlet).2]
          have HY:Hid (itemsA s.data.toList gk b false (fun i=>F i||G i)=R):=by
           unfold Hid
           rw[←hit.out,itemsA_on (by rw[←Lib.size_eq];exact hle.2) HNE.out hG,hb2]
          have HM:=hid (show a<b∧b≤s.size from⟨by omega,hle.1⟩)
          have HA:=hid (show a≤s.size∧s.size≤a+gk from⟨ha.out.1,ha.out.2⟩)
          clear hU hY hG hl1 hl2 hn hX hdrop hdrop2 hj hit hm hb2 hle ha hd
          go_wp2_with fail
          refine(HN.out _).mono ?_
          rintro e w2 ⟨rfl,l2⟩
          have H2:=hid (on HB.out l2)
          clear l2
          go_wp2_with fail
          refine(HU.out _).mono ?_
          rintro e w3 ⟨rfl,l2⟩
          have H3:=hid (on H2.out l2)
          clear l2
          go_wp2_with fail
          cases gk with
          |zero=>exact absurd HM.out.1 (by have:=HA.out;have:=HM.out;omega)
          |succ g=>
           go_roundg g
           case measure=>omega
           case rel=>exact⟨b,_,_,false,rfl,rfl,rfl,hid ⟨HM.out.2,by have:=HA.out;have:=HM.out;omega⟩,HYY,HY,H3⟩
         ·have t93:((s[b+1].toNat:Int)==93)=false:=u8_no h93
          have n93:((s[b+1].toNat:Int) !=93)=true:=by show(!((s[b+1].toNat:Int)==93))=true;rw[t93];rfl
          have hj:=joined_yes hb1 h45 h93
          cases hlet:l with
          |true=>
           have hav:=(hl1 hlet).1
           subst hav
           have HX:Hid (R=(fun _=>false,0,3)):=by
            unfold Hid
            rw[←hit.out]
            exact itemsA_bad HNE.out (item_lj (by rw[hn.one,hlet]) hm (by rw[hdrop];exact hj)) (by decide) (fun _=>rfl)
           clear h45 h93 hn hm hit hl1 hl2 hlet hdrop hdrop2 hj hX hb2 hle
           go_wp2_with fail
           refine(HN.out _).mono ?_
           rintro e w2 ⟨rfl,l2⟩
           have H2:=hid (on HB.out l2)
           clear l2
           go_wp2_with fail
           go_ret3
           refine⟨?_,H2.out⟩
           rw[HX.out,fin_bad (by decide),←HZ.out];rfl
          |false=>
           obtain⟨hav,-⟩:=hl2 hlet
           subst hav
           have tc: ¬((c.toNat:Nat):Int)<0:=by omega
           rw[hlet]at hn
           obtain⟨c2,m2,l2,hn2⟩:=nextAt hs.out (b+1)
           by_cases hm2:m2=0
           ·have HN2:=hid (hn2.none hm2)
            have HX:Hid (R=(fun _=>false,0,3)):=by
             unfold Hid
             rw[←hit.out]
             exact itemsA_bad HNE.out (item_n2 hn.one hm (by rw[hdrop];exact hj) (by rw[hdrop2,hn2.one,hm2])) (by decide) (fun _=>rfl)
            clear h45 h93 hn hm hit hl1 hl2 hlet hdrop hdrop2 hj hX hb2 hle hn2 hm2
            go_wp2_with fail
            refine(HN.out _).mono ?_
            rintro e w2 ⟨rfl,l2⟩
            have H2:=hid (on HB.out l2)
            clear l2
            go_wp2_with fail
            refine(HN2.out _).mono ?_
            rintro e w3 ⟨rfl,l2⟩
            have H3:=hid (on H2.out l2)
            clear l2
            go_wp2_with fail
            go_ret3
            refine⟨?_,H3.out⟩
            rw[HX.out,fin_bad (by decide),←HZ.out];rfl
           ·obtain⟨av2,X2,G2,-,hl3,hl4,hN2⟩:=hn2.some hm2
            have hle2:=hn2.le hm2
            obtain⟨d,hd2⟩: ∃d,b+1+m2=d:=⟨_,rfl⟩
            rw[hd2]at hN2 hle2
            have HN2:=hid hN2
            clear hN2
            cases hlet2:l2 with
            |true=>
             have hav2:=(hl3 hlet2).1
             subst hav2
             have HX:Hid (R=(fun _=>false,0,3)):=by
              unfold Hid
              rw[←hit.out]
              exact itemsA_bad HNE.out (item_l2 hn.one hm (by rw[hdrop];exact hj) (by rw[hdrop2,hn2.one,hlet2]) hm2) (by decide) (fun _=>rfl)
             clear h45 h93 hn hm hit hl1 hl2 hlet hdrop hdrop2 hj hX hb2 hle hn2 hm2 hl3 hl4 hlet2 hle2 hd2
             go_wp2_with fail
             refine(HN.out _).mono ?_
             rintro e w2 ⟨rfl,l2⟩
             have H2:=hid (on HB.out l2)
             clear l2
             go_wp2_with fail
             refine(HN2.out _).mono ?_
             rintro e w3 ⟨rfl,l2⟩
             have H3:=hid (on H2.out l2)
             clear l2
             go_wp2_with fail
             go_ret3
             refine⟨?_,H3.out⟩
             rw[HX.out,fin_bad (by decide),←HZ.out];rfl
            |false=>
             have hav2:=(hl4 hlet2).1
             subst hav2
             have tc2: ¬((c2.toNat:Nat):Int)<0:=by omega
             by_cases hlt:c2.toNat<c.toNat
             ·have tlt:((c2.toNat:Nat):Int)<((c.toNat:Nat):Int):=by omega
              have HX:Hid (R=(fun _=>false,0,4)):=by
               unfold Hid
               rw[←hit.out]
               exact itemsA_bad HNE.out (item_lt hn.one hm (by rw[hdrop];exact hj) (by rw[hdrop2,hn2.one,hlet2]) hm2 hlt) (by decide) (fun q=>by rw[←Lib.size_eq]at q;omega)
              clear h45 h93 hn hm hit hl1 hl2 hlet hdrop hdrop2 hj hX hb2 hle hn2 hm2 hl3 hl4 hlet2 hle2 hd2 hlt
              go_wp2_with fail
              refine(HN.out _).mono ?_
              rintro e w2 ⟨rfl,l2⟩
              have H2:=hid (on HB.out l2)
              clear l2
              go_wp2_with fail
              refine(HN2.out _).mono ?_
              rintro e w3 ⟨rfl,l2⟩
              have H3:=hid (on H2.out l2)
              clear l2
              go_wp2_with fail
              go_ret3
              refine⟨?_,H3.out⟩
              rw[HX.out,fin_bad (by decide),←HZ.out];rfl
             ·have tlt: ¬((c2.toNat:Nat):Int)<((c.toNat:Nat):Int):=by omega
              obtain⟨X3,hX3,hS⟩:=span_named c c2
              obtain⟨Y,hY,hU⟩:=union_named hd.out hX3
              have HSP:=hid hS
              have HU:=hid hU
              have HYY:Hid (Y=tx (fun i=>F i||between c.toNat c2.toNat i)):=hY
              have HY:Hid (itemsA s.data.toList gk d false (fun i=>F i||between c.toNat c2.toNat i)=R):=by
               unfold Hid
               rw[←hit.out,itemsA_on (by rw[←Lib.size_eq];exact hle.2) HNE.out (item_ok hn.one hm (by rw[hdrop];exact hj) (by rw[hdrop2,hn2.one,hlet2]) hm2 hlt),←hd2,←hb2]
               congr 1
               omega
              have HM:=hid (show a<d∧d≤s.size from⟨by omega,hle2.1⟩)
              have HA:=hid (show a≤s.size∧s.size≤a+gk from⟨ha.out.1,ha.out.2⟩)
              clear h45 h93 hn hm hit hl1 hl2 hlet hdrop hdrop2 hj hX hb2 hle hn2 hm2 hl3 hl4 hlet2 hle2 hd2 hlt hS hU hY hX3 ha hd
              go_wp2_with fail
              refine(HN.out _).mono ?_
              rintro e w2 ⟨rfl,l2⟩
              have H2:=hid (on HB.out l2)
              clear l2
              go_wp2_with fail
              refine(HN2.out _).mono ?_
              rintro e w3 ⟨rfl,l2⟩
              have H3:=hid (on H2.out l2)
              clear l2
              go_wp2_with fail
              refine(HSP.out _).mono ?_
              rintro e w4 ⟨rfl,l2⟩
              have H4:=hid (on H3.out l2)
              clear l2
              go_wp2_with fail
              refine(HU.out _).mono ?_
              rintro e w5 ⟨rfl,l2⟩
              have H5:=hid (on H4.out l2)
              clear l2
              go_wp2_with fail
              cases gk with
              |zero=>exact absurd HM.out.1 (by have:=HA.out;have:=HM.out;omega)
              |succ g=>
               go_roundg g
               case measure=>omega
               case rel=>exact⟨d,_,_,false,rfl,rfl,rfl,hid ⟨HM.out.2,by have:=HA.out;have:=HM.out;omega⟩,HYY,HY,H5⟩
        ·have te1:(((b+1:Nat):Int)==(s.size:Int))=true:=by simpa using (by omega:((b:Int)+1)=(s.size:Int))
         have hj:=joined_last hbs h45 hb1
         cases hlet:l with
         |true=>
          have hav:=(hl1 hlet).1
          subst hav
          have HX:Hid (R=(fun _=>false,0,3)):=by
           unfold Hid
           rw[←hit.out]
           exact itemsA_bad HNE.out (item_lj (by rw[hn.one,hlet]) hm (by rw[hdrop];exact hj)) (by decide) (fun _=>rfl)
          clear h45 hn hm hit hl1 hl2 hlet hdrop hdrop2 hj hX hb2 hle
          go_wp2_with fail
          refine(HN.out _).mono ?_
          rintro e w2 ⟨rfl,l2⟩
          have H2:=hid (on HB.out l2)
          clear l2
          go_wp2_with fail
          go_ret3
          refine⟨?_,H2.out⟩
          rw[HX.out,fin_bad (by decide),←HZ.out];rfl
         |false=>
          obtain⟨hav,-⟩:=hl2 hlet
          subst hav
          have tc: ¬((c.toNat:Nat):Int)<0:=by omega
          rw[hlet]at hn
          obtain⟨c2,m2,l2,hn2⟩:=nextAt hs.out (b+1)
          have hm2:m2=0:=by
           by_cases q:m2=0
           ·exact q
           ·have:=(hn2.le q).2;omega
          have HN2:Hid (∀w,Calls Tryz.prog 166 #[.string s,.int .i64 (s.size:Int)] w (NextTo w (.tuple #[.int .i64 0,.string ⟨#[]⟩,.int .i64 0,.int .i64 3]))):=by
           have:=hn2.none hm2
           rw[show b+1=s.size by omega]at this
           exact this
          have HX:Hid (R=(fun _=>false,0,3)):=by
           unfold Hid
           rw[←hit.out]
           exact itemsA_bad HNE.out (item_n2 hn.one hm (by rw[hdrop];exact hj) (by rw[hdrop2,hn2.one,hm2])) (by decide) (fun _=>rfl)
          clear h45 hn hm hit hl1 hl2 hlet hdrop hdrop2 hj hX hb2 hle hn2 hm2
          go_wp2_with fail
          refine(HN.out _).mono ?_
          rintro e w2 ⟨rfl,l2⟩
          have H2:=hid (on HB.out l2)
          clear l2
          go_wp2_with fail
          refine(HN2.out _).mono ?_
          rintro e w3 ⟨rfl,l2⟩
          have H3:=hid (on H2.out l2)
          clear l2
          go_wp2_with fail
          go_ret3
          refine⟨?_,H3.out⟩
          rw[HX.out,fin_bad (by decide),←HZ.out];rfl
       ·have t45:((s[b].toNat:Int)==45)=false:=u8_no h45
        have hj:=joined_no hbs h45
        clear h45
        obtain⟨Y,hY,hU⟩:=union_named hd.out hX
        have HU:=hid hU
        have HYY:Hid (Y=tx (fun i=>F i||G i)):=hY
        have hG:item (s.data.toList.drop a)=(m,0,G):=by
         cases hlet:l with
         |true=>rw[hlet]at hn;rw[item_l hn.one hm (by rw[hdrop];exact hj),(hl1 hlet).2]
         |false=>rw[hlet]at hn;rw[item_p hn.one hm (by rw[hdrop];exact hj),(hl2 hlet).2]
        have HY:Hid (itemsA s.data.toList gk b false (fun i=>F i||G i)=R):=by
         unfold Hid
         rw[←hit.out,itemsA_on (by rw[←Lib.size_eq];exact hle.2) HNE.out hG,hb2]
        have HM:=hid (show a<b∧b≤s.size from⟨by omega,hle.1⟩)
        have HA:=hid (show a≤s.size∧s.size≤a+gk from⟨ha.out.1,ha.out.2⟩)
        clear hU hY hG hl1 hl2 hn hX hdrop hdrop2 hj hit hm hb2 hle ha hd
        go_wp2_with fail
        refine(HN.out _).mono ?_
        rintro e w2 ⟨rfl,l2⟩
        have H2:=hid (on HB.out l2)
        clear l2
        go_wp2_with fail
        refine(HU.out _).mono ?_
        rintro e w3 ⟨rfl,l2⟩
        have H3:=hid (on H2.out l2)
        clear l2
        go_wp2_with fail
        cases gk with
        |zero=>exact absurd HM.out.1 (by have:=HA.out;have:=HM.out;omega)
        |succ g=>
         go_roundg g
         case measure=>omega
         case rel=>exact⟨b,_,_,false,rfl,rfl,rfl,hid ⟨HM.out.2,by have:=HA.out;have:=HM.out;omega⟩,HYY,HY,H3⟩
      ·have tb: ¬(b:Int)<(s.size:Int):=by omega
       have hj:=joined_end hbs
       obtain⟨Y,hY,hU⟩:=union_named hd.out hX
       have HU:=hid hU
       have HYY:Hid (Y=tx (fun i=>F i||G i)):=hY
       have hG:item (s.data.toList.drop a)=(m,0,G):=by
        cases hlet:l with
        |true=>rw[hlet]at hn;rw[item_l hn.one hm (by rw[hdrop];exact hj),(hl1 hlet).2]
        |false=>rw[hlet]at hn;rw[item_p hn.one hm (by rw[hdrop];exact hj),(hl2 hlet).2]
       have HY:Hid (itemsA s.data.toList gk b false (fun i=>F i||G i)=R):=by
        unfold Hid
        rw[←hit.out,itemsA_on (by rw[←Lib.size_eq];exact hle.2) HNE.out hG,hb2]
       have HM:=hid (show a<b∧b≤s.size from⟨by omega,hle.1⟩)
       have HA:=hid (show a≤s.size∧s.size≤a+gk from⟨ha.out.1,ha.out.2⟩)
       clear hU hY hG hl1 hl2 hn hX hdrop hdrop2 hj hit hm hb2 hle ha hd
       go_wp2_with fail
       refine(HN.out _).mono ?_
       rintro e w2 ⟨rfl,l2⟩
       have H2:=hid (on HB.out l2)
       clear l2
       go_wp2_with fail
       refine(HU.out _).mono ?_
       rintro e w3 ⟨rfl,l2⟩
       have H3:=hid (on H2.out l2)
       clear l2
       go_wp2_with fail
       cases gk with
       |zero=>exact absurd HM.out.1 (by have:=HA.out;have:=HM.out;omega)
       |succ g=>
        go_roundg g
        case measure=>omega
        case rel=>exact⟨b,_,_,false,rfl,rfl,rfl,hid ⟨HM.out.2,by have:=HA.out;have:=HM.out;omega⟩,HYY,HY,H3⟩
   ·have ti:(s.size:Int)≤(a:Int):=by omega
    have HNE:=hid (show¬(s.data.toList.getD a 0=93∧false=false)from fun q=>by
     have h:=q.1
     rw[List.getD_eq_getElem?_getD,List.getElem?_eq_none (by rw[←Lib.size_eq];omega)]at h
     simp at h)
    obtain⟨c,m,l,hn⟩:=nextAt hs.out a
    have hm:m=0:=by
     by_cases q:m=0
     ·exact q
     ·have:=(hn.le q).2;omega
    have HN:=hid (hn.none hm)
    have HX:Hid (R=(fun _=>false,0,3)):=by
     unfold Hid
     rw[←hit.out]
     exact itemsA_bad HNE.out (item_none (by rw[hn.one,hm])) (by decide) (fun _=>rfl)
    clear hn hm hit
    go_wp2_with fail
    refine(HN.out _).mono ?_
    rintro e w2 ⟨rfl,l2⟩
    have H2:=hid (on HB.out l2)
    clear l2
    go_wp2_with fail
    go_ret3
    refine⟨?_,H2.out⟩
    rw[HX.out,fin_bad (by decide),←HZ.out];rfl
set_option maxHeartbeats 16000000 in
theorem refParse_pos {s:ByteArray} (hs1:s.size≤900) (h0:0<s.size) (h91:s[0]=91) (h1:1<s.size) (h94: ¬s[1]=94) (w:World):Calls Tryz.prog 154 #[.string s] w (RParsed w (fin false (itemsA s.data.toList (s.size-1+1) 1 true (fun _=>false)))):=by
 obtain⟨R,hR⟩: ∃R,itemsA s.data.toList (s.size-1+1) 1 true (fun _=>false)=R:=⟨_,rfl⟩
 rw[hR]
 have HRR:=hid hR
 have hs:=hid hs1
 have H1:=hid h1
 have he:=list_full h0
 have i0:(0:Int)<(s.size:Int):=by omega
 have i1:(1:Int)<(s.size:Int):=by omega
 have t91:((s[0].toNat:Int)==91)=true:=u8_yes h91
 have n91:((s[0].toNat:Int) !=91)=false:=by show(!((s[0].toNat:Int)==91))=false;rw[t91];rfl
 have t94:((s[1].toNat:Int)==94)=false:=u8_no h94
 obtain⟨Z,hZ⟩: ∃Z,tx (fun _=>false)=Z:=⟨_,rfl⟩
 have HZ:=hid hZ
 have hSN:=span_none
 rw[hZ]at hSN
 have HSN:=hid hSN
 clear hSN hZ hs1 hR h91 h94
 go_enter Tryz.func154,Tryz.ntmps154
 go_wp2_with fail
 refine(HSN.out _).mono ?_
 rintro e w1 ⟨rfl,l1⟩
 have HB1:=hid l1
 clear l1
 go_wp2_with fail
 rename_i hh K hK
 rw[hh]
 clear hh t94 t91 n91 he
 go_loopg [6,8,9] (s.size-1) (fun gk s6 s8 s9 wr=> ∃(a:Nat) (F:Nat→Bool) (d:ByteArray) (fst:Bool),s6= .int .i64 a∧s8= .string d∧s9= .bool fst∧Hid (a≤s.size∧s.size≤a+gk)∧Hid (d=tx F)∧Hid (itemsA s.data.toList (gk+1) a fst F=R)∧Hid (Below w.heap.size w wr))
 case atStart=>exact⟨1,fun _=>false,Z,true,rfl,rfl,rfl,hid ⟨by have:=H1.out;omega,by have:=H1.out;omega⟩,HZ.out.symm,HRR,HB1⟩
 case round=>
  obtain⟨a,F,d,fst,rfl,rfl,rfl,ha,hd,hit,HB⟩:=hrel
  cases fst with
  |true=>
   have HNE:=hid (show¬(s.data.toList.getD a 0=93∧true=false)from fun q=>by simp at q)
   obtain⟨c,m,l,hn⟩:=nextAt hs.out a
   by_cases hm:m=0
   ·have HN:=hid (hn.none hm)
    have HX:Hid (R=(fun _=>false,0,3)):=by
     unfold Hid
     rw[←hit.out]
     exact itemsA_bad HNE.out (item_none (by rw[hn.one,hm])) (by decide) (fun _=>rfl)
    clear hn hm hit
    go_wp2_with fail
    refine(HN.out _).mono ?_
    rintro e w2 ⟨rfl,l2⟩
    have H2:=hid (on HB.out l2)
    clear l2
    go_wp2_with fail
    go_ret3
    refine⟨?_,H2.out⟩
    rw[HX.out,fin_bad (by decide),←HZ.out];rfl
   ·obtain⟨av,X,G,hX,hl1,hl2,hN⟩:=hn.some hm
    have hle:=hn.le hm
    obtain⟨b,hb2⟩: ∃b,a+m=b:=⟨_,rfl⟩
    have hdrop:(s.data.toList.drop a).drop m=s.data.toList.drop b:=by rw[List.drop_drop,hb2]
    have hdrop2:(s.data.toList.drop a).drop (m+1)=s.data.toList.drop (b+1):=by rw[List.drop_drop,←hb2,Nat.add_assoc]
    rw[hb2]at hN hle
    have HN:=hid hN
    have hsz:=hs.out
    have hw:wrap64 ((b:Int)+1)=((b+1:Nat):Int):=by unfold wrap64;omega
    clear hN
    by_cases hbs:b<s.size
    ·have tb:(b:Int)<(s.size:Int):=by omega
     by_cases h45:s[b]=45
     ·have t45:((s[b].toNat:Int)==45)=true:=u8_yes h45
      by_cases hb1:b+1<s.size
      ·have tb1:((b+1:Nat):Int)<(s.size:Int):=by omega
       have te1:(((b+1:Nat):Int)==(s.size:Int))=false:=by simpa using (by omega: ¬((b:Int)+1)=(s.size:Int))
       by_cases h93:s[b+1]=93
       ·have t93:((s[b+1].toNat:Int)==93)=true:=u8_yes h93
        have n93:((s[b+1].toNat:Int) !=93)=false:=by show(!((s[b+1].toNat:Int)==93))=false;rw[t93];rfl
        have hj:=joined_93 hb1 h93
        clear h45 h93
        obtain⟨Y,hY,hU⟩:=union_named hd.out hX
        have HU:=hid hU
        have HYY:Hid (Y=tx (fun i=>F i||G i)):=hY
        have hG:item (s.data.toList.drop a)=(m,0,G):=by
         cases hlet:l with
         |true=>rw[hlet]at hn;rw[item_l hn.one hm (by rw[hdrop];exact hj),(hl1 hlet).2]
         |false=>rw[hlet]at hn;rw[item_p hn.one hm (by rw[hdrop];exact hj),(hl2 hlet).2]
        have HY:Hid (itemsA s.data.toList gk b false (fun i=>F i||G i)=R):=by
         unfold Hid
         rw[←hit.out,itemsA_on (by rw[←Lib.size_eq];exact hle.2) HNE.out hG,hb2]
        have HM:=hid (show a<b∧b≤s.size from⟨by omega,hle.1⟩)
        have HA:=hid (show a≤s.size∧s.size≤a+gk from⟨ha.out.1,ha.out.2⟩)
        clear hU hY hG hl1 hl2 hn hX hdrop hdrop2 hj hit hm hb2 hle ha hd
        go_wp2_with fail
        refine(HN.out _).mono ?_
        rintro e w2 ⟨rfl,l2⟩
        have H2:=hid (on HB.out l2)
        clear l2
        go_wp2_with fail
        refine(HU.out _).mono ?_
        rintro e w3 ⟨rfl,l2⟩
        have H3:=hid (on H2.out l2)
        clear l2
        go_wp2_with fail
        cases gk with
        |zero=>exact absurd HM.out.1 (by have:=HA.out;have:=HM.out;omega)
        |succ g=>
         go_roundg g
         case measure=>omega
         case rel=>exact⟨b,_,_,false,rfl,rfl,rfl,hid ⟨HM.out.2,by have:=HA.out;have:=HM.out;omega⟩,HYY,HY,H3⟩
       ·have t93:((s[b+1].toNat:Int)==93)=false:=u8_no h93
        have n93:((s[b+1].toNat:Int) !=93)=true:=by show(!((s[b+1].toNat:Int)==93))=true;rw[t93];rfl
        have hj:=joined_yes hb1 h45 h93
        cases hlet:l with
        |true=>
         have hav:=(hl1 hlet).1
         subst hav
         have HX:Hid (R=(fun _=>false,0,3)):=by
          unfold Hid
          rw[←hit.out]
          exact itemsA_bad HNE.out (item_lj (by rw[hn.one,hlet]) hm (by rw[hdrop];exact hj)) (by decide) (fun _=>rfl)
         clear h45 h93 hn hm hit hl1 hl2 hlet hdrop hdrop2 hj hX hb2 hle
         go_wp2_with fail
         refine(HN.out _).mono ?_
         rintro e w2 ⟨rfl,l2⟩
         have H2:=hid (on HB.out l2)
         clear l2
         go_wp2_with fail
         go_ret3
         refine⟨?_,H2.out⟩
         rw[HX.out,fin_bad (by decide),←HZ.out];rfl
        |false=>
         obtain⟨hav,-⟩:=hl2 hlet
         subst hav
         have tc: ¬((c.toNat:Nat):Int)<0:=by omega
         rw[hlet]at hn
         obtain⟨c2,m2,l2,hn2⟩:=nextAt hs.out (b+1)
         by_cases hm2:m2=0
         ·have HN2:=hid (hn2.none hm2)
          have HX:Hid (R=(fun _=>false,0,3)):=by
           unfold Hid
           rw[←hit.out]
           exact itemsA_bad HNE.out (item_n2 hn.one hm (by rw[hdrop];exact hj) (by rw[hdrop2,hn2.one,hm2])) (by decide) (fun _=>rfl)
          clear h45 h93 hn hm hit hl1 hl2 hlet hdrop hdrop2 hj hX hb2 hle hn2 hm2
          go_wp2_with fail
          refine(HN.out _).mono ?_
          rintro e w2 ⟨rfl,l2⟩
          have H2:=hid (on HB.out l2)
          clear l2
          go_wp2_with fail
          refine(HN2.out _).mono ?_
          rintro e w3 ⟨rfl,l2⟩
          have H3:=hid (on H2.out l2)
          clear l2
          go_wp2_with fail
          go_ret3
          refine⟨?_,H3.out⟩
          rw[HX.out,fin_bad (by decide),←HZ.out];rfl
         ·obtain⟨av2,X2,G2,-,hl3,hl4,hN2⟩:=hn2.some hm2
          have hle2:=hn2.le hm2
          obtain⟨d,hd2⟩: ∃d,b+1+m2=d:=⟨_,rfl⟩
          rw[hd2]at hN2 hle2
          have HN2:=hid hN2
          clear hN2
          cases hlet2:l2 with
          |true=>
           have hav2:=(hl3 hlet2).1
           subst hav2
           have HX:Hid (R=(fun _=>false,0,3)):=by
            unfold Hid
            rw[←hit.out]
            exact itemsA_bad HNE.out (item_l2 hn.one hm (by rw[hdrop];exact hj) (by rw[hdrop2,hn2.one,hlet2]) hm2) (by decide) (fun _=>rfl)
           clear h45 h93 hn hm hit hl1 hl2 hlet hdrop hdrop2 hj hX hb2 hle hn2 hm2 hl3 hl4 hlet2 hle2 hd2
           go_wp2_with fail
           refine(HN.out _).mono ?_
           rintro e w2 ⟨rfl,l2⟩
           have H2:=hid (on HB.out l2)
           clear l2
           go_wp2_with fail
           refine(HN2.out _).mono ?_
           rintro e w3 ⟨rfl,l2⟩
           have H3:=hid (on H2.out l2)
           clear l2
           go_wp2_with fail
           go_ret3
           refine⟨?_,H3.out⟩
           rw[HX.out,fin_bad (by decide),←HZ.out];rfl
          |false=>
           have hav2:=(hl4 hlet2).1
           subst hav2
           have tc2: ¬((c2.toNat:Nat):Int)<0:=by omega
           by_cases hlt:c2.toNat<c.toNat
           ·have tlt:((c2.toNat:Nat):Int)<((c.toNat:Nat):Int):=by omega
            have HX:Hid (R=(fun _=>false,0,4)):=by
             unfold Hid
             rw[←hit.out]
             exact itemsA_bad HNE.out (item_lt hn.one hm (by rw[hdrop];exact hj) (by rw[hdrop2,hn2.one,hlet2]) hm2 hlt) (by decide) (fun q=>by rw[←Lib.size_eq]at q;omega)
            clear h45 h93 hn hm hit hl1 hl2 hlet hdrop hdrop2 hj hX hb2 hle hn2 hm2 hl3 hl4 hlet2 hle2 hd2 hlt
            go_wp2_with fail
            refine(HN.out _).mono ?_
            rintro e w2 ⟨rfl,l2⟩
            have H2:=hid (on HB.out l2)
            clear l2
            go_wp2_with fail
            refine(HN2.out _).mono ?_
            rintro e w3 ⟨rfl,l2⟩
            have H3:=hid (on H2.out l2)
            clear l2
            go_wp2_with fail
            go_ret3
            refine⟨?_,H3.out⟩
            rw[HX.out,fin_bad (by decide),←HZ.out];rfl
           ·have tlt: ¬((c2.toNat:Nat):Int)<((c.toNat:Nat):Int):=by omega
            obtain⟨X3,hX3,hS⟩:=span_named c c2
            obtain⟨Y,hY,hU⟩:=union_named hd.out hX3
            have HSP:=hid hS
            have HU:=hid hU
            have HYY:Hid (Y=tx (fun i=>F i||between c.toNat c2.toNat i)):=hY
            have HY:Hid (itemsA s.data.toList gk d false (fun i=>F i||between c.toNat c2.toNat i)=R):=by
             unfold Hid
             rw[←hit.out,itemsA_on (by rw[←Lib.size_eq];exact hle.2) HNE.out (item_ok hn.one hm (by rw[hdrop];exact hj) (by rw[hdrop2,hn2.one,hlet2]) hm2 hlt),←hd2,←hb2]
             congr 1
             omega
            have HM:=hid (show a<d∧d≤s.size from⟨by omega,hle2.1⟩)
            have HA:=hid (show a≤s.size∧s.size≤a+gk from⟨ha.out.1,ha.out.2⟩)
            clear h45 h93 hn hm hit hl1 hl2 hlet hdrop hdrop2 hj hX hb2 hle hn2 hm2 hl3 hl4 hlet2 hle2 hd2 hlt hS hU hY hX3 ha hd
            go_wp2_with fail
            refine(HN.out _).mono ?_
            rintro e w2 ⟨rfl,l2⟩
            have H2:=hid (on HB.out l2)
            clear l2
            go_wp2_with fail
            refine(HN2.out _).mono ?_
            rintro e w3 ⟨rfl,l2⟩
            have H3:=hid (on H2.out l2)
            clear l2
            go_wp2_with fail
            refine(HSP.out _).mono ?_
            rintro e w4 ⟨rfl,l2⟩
            have H4:=hid (on H3.out l2)
            clear l2
            go_wp2_with fail
            refine(HU.out _).mono ?_
            rintro e w5 ⟨rfl,l2⟩
            have H5:=hid (on H4.out l2)
            clear l2
            go_wp2_with fail
            cases gk with
            |zero=>exact absurd HM.out.1 (by have:=HA.out;have:=HM.out;omega)
            |succ g=>
             go_roundg g
             case measure=>omega
             case rel=>exact⟨d,_,_,false,rfl,rfl,rfl,hid ⟨HM.out.2,by have:=HA.out;have:=HM.out;omega⟩,HYY,HY,H5⟩
      ·have te1:(((b+1:Nat):Int)==(s.size:Int))=true:=by simpa using (by omega:((b:Int)+1)=(s.size:Int))
       have hj:=joined_last hbs h45 hb1
       cases hlet:l with
       |true=>
        have hav:=(hl1 hlet).1
        subst hav
        have HX:Hid (R=(fun _=>false,0,3)):=by
         unfold Hid
         rw[←hit.out]
         exact itemsA_bad HNE.out (item_lj (by rw[hn.one,hlet]) hm (by rw[hdrop];exact hj)) (by decide) (fun _=>rfl)
        clear h45 hn hm hit hl1 hl2 hlet hdrop hdrop2 hj hX hb2 hle
        go_wp2_with fail
        refine(HN.out _).mono ?_
        rintro e w2 ⟨rfl,l2⟩
        have H2:=hid (on HB.out l2)
        clear l2
        go_wp2_with fail
        go_ret3
        refine⟨?_,H2.out⟩
        rw[HX.out,fin_bad (by decide),←HZ.out];rfl
       |false=>
        obtain⟨hav,-⟩:=hl2 hlet
        subst hav
        have tc: ¬((c.toNat:Nat):Int)<0:=by omega
        rw[hlet]at hn
        obtain⟨c2,m2,l2,hn2⟩:=nextAt hs.out (b+1)
        have hm2:m2=0:=by
         by_cases q:m2=0
         ·exact q
         ·have:=(hn2.le q).2;omega
        have HN2:Hid (∀w,Calls Tryz.prog 166 #[.string s,.int .i64 (s.size:Int)] w (NextTo w (.tuple #[.int .i64 0,.string ⟨#[]⟩,.int .i64 0,.int .i64 3]))):=by
         have:=hn2.none hm2
         rw[show b+1=s.size by omega]at this
         exact this
        have HX:Hid (R=(fun _=>false,0,3)):=by
         unfold Hid
         rw[←hit.out]
         exact itemsA_bad HNE.out (item_n2 hn.one hm (by rw[hdrop];exact hj) (by rw[hdrop2,hn2.one,hm2])) (by decide) (fun _=>rfl)
        clear h45 hn hm hit hl1 hl2 hlet hdrop hdrop2 hj hX hb2 hle hn2 hm2
        go_wp2_with fail
        refine(HN.out _).mono ?_
        rintro e w2 ⟨rfl,l2⟩
        have H2:=hid (on HB.out l2)
        clear l2
        go_wp2_with fail
        refine(HN2.out _).mono ?_
        rintro e w3 ⟨rfl,l2⟩
        have H3:=hid (on H2.out l2)
        clear l2
        go_wp2_with fail
        go_ret3
        refine⟨?_,H3.out⟩
        rw[HX.out,fin_bad (by decide),←HZ.out];rfl
     ·have t45:((s[b].toNat:Int)==45)=false:=u8_no h45
      have hj:=joined_no hbs h45
      clear h45
      obtain⟨Y,hY,hU⟩:=union_named hd.out hX
      have HU:=hid hU
      have HYY:Hid (Y=tx (fun i=>F i||G i)):=hY
      have hG:item (s.data.toList.drop a)=(m,0,G):=by
       cases hlet:l with
       |true=>rw[hlet]at hn;rw[item_l hn.one hm (by rw[hdrop];exact hj),(hl1 hlet).2]
       |false=>rw[hlet]at hn;rw[item_p hn.one hm (by rw[hdrop];exact hj),(hl2 hlet).2]
      have HY:Hid (itemsA s.data.toList gk b false (fun i=>F i||G i)=R):=by
       unfold Hid
       rw[←hit.out,itemsA_on (by rw[←Lib.size_eq];exact hle.2) HNE.out hG,hb2]
      have HM:=hid (show a<b∧b≤s.size from⟨by omega,hle.1⟩)
      have HA:=hid (show a≤s.size∧s.size≤a+gk from⟨ha.out.1,ha.out.2⟩)
      clear hU hY hG hl1 hl2 hn hX hdrop hdrop2 hj hit hm hb2 hle ha hd
      go_wp2_with fail
      refine(HN.out _).mono ?_
      rintro e w2 ⟨rfl,l2⟩
      have H2:=hid (on HB.out l2)
      clear l2
      go_wp2_with fail
      refine(HU.out _).mono ?_
      rintro e w3 ⟨rfl,l2⟩
      have H3:=hid (on H2.out l2)
      clear l2
      go_wp2_with fail
      cases gk with
      |zero=>exact absurd HM.out.1 (by have:=HA.out;have:=HM.out;omega)
      |succ g=>
       go_roundg g
       case measure=>omega
       case rel=>exact⟨b,_,_,false,rfl,rfl,rfl,hid ⟨HM.out.2,by have:=HA.out;have:=HM.out;omega⟩,HYY,HY,H3⟩
    ·have tb: ¬(b:Int)<(s.size:Int):=by omega
     have hj:=joined_end hbs
     obtain⟨Y,hY,hU⟩:=union_named hd.out hX
     have HU:=hid hU
     have HYY:Hid (Y=tx (fun i=>F i||G i)):=hY
     have hG:item (s.data.toList.drop a)=(m,0,G):=by
      cases hlet:l with
      |true=>rw[hlet]at hn;rw[item_l hn.one hm (by rw[hdrop];exact hj),(hl1 hlet).2]
      |false=>rw[hlet]at hn;rw[item_p hn.one hm (by rw[hdrop];exact hj),(hl2 hlet).2]
     have HY:Hid (itemsA s.data.toList gk b false (fun i=>F i||G i)=R):=by
      unfold Hid
      rw[←hit.out,itemsA_on (by rw[←Lib.size_eq];exact hle.2) HNE.out hG,hb2]
     have HM:=hid (show a<b∧b≤s.size from⟨by omega,hle.1⟩)
     have HA:=hid (show a≤s.size∧s.size≤a+gk from⟨ha.out.1,ha.out.2⟩)
     clear hU hY hG hl1 hl2 hn hX hdrop hdrop2 hj hit hm hb2 hle ha hd
     go_wp2_with fail
     refine(HN.out _).mono ?_
     rintro e w2 ⟨rfl,l2⟩
     have H2:=hid (on HB.out l2)
     clear l2
     go_wp2_with fail
     refine(HU.out _).mono ?_
     rintro e w3 ⟨rfl,l2⟩
     have H3:=hid (on H2.out l2)
     clear l2
     go_wp2_with fail
     cases gk with
     |zero=>exact absurd HM.out.1 (by have:=HA.out;have:=HM.out;omega)
     |succ g=>
      go_roundg g
      case measure=>omega
      case rel=>exact⟨b,_,_,false,rfl,rfl,rfl,hid ⟨HM.out.2,by have:=HA.out;have:=HM.out;omega⟩,HYY,HY,H3⟩
  |false=>
   by_cases hlt:a<s.size
   ·have ti: ¬(s.size:Int)≤(a:Int):=by omega
    have tl:(a:Int)<(s.size:Int):=by omega
    have hga:s.data.toList.getD a 0=s[a]:=Kit.byte_get s a hlt
    by_cases h93:s[a]=93
    ·have t93:((s[a].toNat:Int)==93)=true:=u8_yes h93
     have n93:((s[a].toNat:Int) !=93)=false:=by show(!((s[a].toNat:Int)==93))=false;rw[t93];rfl
     have HX:Hid (R=(F,a+1,0)):=by
      unfold Hid
      rw[←hit.out]
      exact itemsA_end (by rw[←Lib.size_eq];exact hlt) (by rw[hga];exact h93)
     have hsz:=hs.out
     have hw:wrap64 ((a:Int)+1)=((a+1:Nat):Int):=by unfold wrap64;omega
     clear hit h93 hga
     go_wp2_with fail
     go_ret3
     refine⟨?_,HB.out⟩
     rw[HX.out,fin_ok,hd.out];rfl
    ·have t93:((s[a].toNat:Int)==93)=false:=u8_no h93
     have n93:((s[a].toNat:Int) !=93)=true:=by show(!((s[a].toNat:Int)==93))=true;rw[t93];rfl
     have HNE:=hid (show¬(s.data.toList.getD a 0=93∧false=false)from fun q=>h93 (by rw[←hga];exact q.1))
     clear h93 hga
     obtain⟨c,m,l,hn⟩:=nextAt hs.out a
     by_cases hm:m=0
     ·have HN:=hid (hn.none hm)
      have HX:Hid (R=(fun _=>false,0,3)):=by
       unfold Hid
       rw[←hit.out]
       exact itemsA_bad HNE.out (item_none (by rw[hn.one,hm])) (by decide) (fun _=>rfl)
      clear hn hm hit
      go_wp2_with fail
      refine(HN.out _).mono ?_
      rintro e w2 ⟨rfl,l2⟩
      have H2:=hid (on HB.out l2)
      clear l2
      go_wp2_with fail
      go_ret3
      refine⟨?_,H2.out⟩
      rw[HX.out,fin_bad (by decide),←HZ.out];rfl
     ·obtain⟨av,X,G,hX,hl1,hl2,hN⟩:=hn.some hm
      have hle:=hn.le hm
      obtain⟨b,hb2⟩: ∃b,a+m=b:=⟨_,rfl⟩
      have hdrop:(s.data.toList.drop a).drop m=s.data.toList.drop b:=by rw[List.drop_drop,hb2]
      have hdrop2:(s.data.toList.drop a).drop (m+1)=s.data.toList.drop (b+1):=by rw[List.drop_drop,←hb2,Nat.add_assoc]
      rw[hb2]at hN hle
      have HN:=hid hN
      have hsz:=hs.out
      have hw:wrap64 ((b:Int)+1)=((b+1:Nat):Int):=by unfold wrap64;omega
      clear hN
      by_cases hbs:b<s.size
      ·have tb:(b:Int)<(s.size:Int):=by omega
       by_cases h45:s[b]=45
       ·have t45:((s[b].toNat:Int)==45)=true:=u8_yes h45
        by_cases hb1:b+1<s.size
        ·have tb1:((b+1:Nat):Int)<(s.size:Int):=by omega
         have te1:(((b+1:Nat):Int)==(s.size:Int))=false:=by simpa using (by omega: ¬((b:Int)+1)=(s.size:Int))
         by_cases h93:s[b+1]=93
         ·have t93:((s[b+1].toNat:Int)==93)=true:=u8_yes h93
          have n93:((s[b+1].toNat:Int) !=93)=false:=by show(!((s[b+1].toNat:Int)==93))=false;rw[t93];rfl
          have hj:=joined_93 hb1 h93
          clear h45 h93
          obtain⟨Y,hY,hU⟩:=union_named hd.out hX
          have HU:=hid hU
          have HYY:Hid (Y=tx (fun i=>F i||G i)):=hY
          have hG:item (s.data.toList.drop a)=(m,0,G):=by
           cases hlet:l with
           |true=>rw[hlet]at hn;rw[item_l hn.one hm (by rw[hdrop];exact hj),(hl1 hlet).2]
           |false=>rw[hlet]at hn;rw[item_p hn.one hm (by rw[hdrop];exact hj),(hl2 hlet).2]
          have HY:Hid (itemsA s.data.toList gk b false (fun i=>F i||G i)=R):=by
           unfold Hid
           rw[←hit.out,itemsA_on (by rw[←Lib.size_eq];exact hle.2) HNE.out hG,hb2]
          have HM:=hid (show a<b∧b≤s.size from⟨by omega,hle.1⟩)
          have HA:=hid (show a≤s.size∧s.size≤a+gk from⟨ha.out.1,ha.out.2⟩)
          clear hU hY hG hl1 hl2 hn hX hdrop hdrop2 hj hit hm hb2 hle ha hd
          go_wp2_with fail
          refine(HN.out _).mono ?_
          rintro e w2 ⟨rfl,l2⟩
          have H2:=hid (on HB.out l2)
          clear l2
          go_wp2_with fail
          refine(HU.out _).mono ?_
          rintro e w3 ⟨rfl,l2⟩
          have H3:=hid (on H2.out l2)
          clear l2
          go_wp2_with fail
          cases gk with
          |zero=>exact absurd HM.out.1 (by have:=HA.out;have:=HM.out;omega)
          |succ g=>
           go_roundg g
           case measure=>omega
           case rel=>exact⟨b,_,_,false,rfl,rfl,rfl,hid ⟨HM.out.2,by have:=HA.out;have:=HM.out;omega⟩,HYY,HY,H3⟩
         ·have t93:((s[b+1].toNat:Int)==93)=false:=u8_no h93
          have n93:((s[b+1].toNat:Int) !=93)=true:=by show(!((s[b+1].toNat:Int)==93))=true;rw[t93];rfl
          have hj:=joined_yes hb1 h45 h93
          cases hlet:l with
          |true=>
           have hav:=(hl1 hlet).1
           subst hav
           have HX:Hid (R=(fun _=>false,0,3)):=by
            unfold Hid
            rw[←hit.out]
            exact itemsA_bad HNE.out (item_lj (by rw[hn.one,hlet]) hm (by rw[hdrop];exact hj)) (by decide) (fun _=>rfl)
           clear h45 h93 hn hm hit hl1 hl2 hlet hdrop hdrop2 hj hX hb2 hle
           go_wp2_with fail
           refine(HN.out _).mono ?_
           rintro e w2 ⟨rfl,l2⟩
           have H2:=hid (on HB.out l2)
           clear l2
           go_wp2_with fail
           go_ret3
           refine⟨?_,H2.out⟩
           rw[HX.out,fin_bad (by decide),←HZ.out];rfl
          |false=>
           obtain⟨hav,-⟩:=hl2 hlet
           subst hav
           have tc: ¬((c.toNat:Nat):Int)<0:=by omega
           rw[hlet]at hn
           obtain⟨c2,m2,l2,hn2⟩:=nextAt hs.out (b+1)
           by_cases hm2:m2=0
           ·have HN2:=hid (hn2.none hm2)
            have HX:Hid (R=(fun _=>false,0,3)):=by
             unfold Hid
             rw[←hit.out]
             exact itemsA_bad HNE.out (item_n2 hn.one hm (by rw[hdrop];exact hj) (by rw[hdrop2,hn2.one,hm2])) (by decide) (fun _=>rfl)
            clear h45 h93 hn hm hit hl1 hl2 hlet hdrop hdrop2 hj hX hb2 hle hn2 hm2
            go_wp2_with fail
            refine(HN.out _).mono ?_
            rintro e w2 ⟨rfl,l2⟩
            have H2:=hid (on HB.out l2)
            clear l2
            go_wp2_with fail
            refine(HN2.out _).mono ?_
            rintro e w3 ⟨rfl,l2⟩
            have H3:=hid (on H2.out l2)
            clear l2
            go_wp2_with fail
            go_ret3
            refine⟨?_,H3.out⟩
            rw[HX.out,fin_bad (by decide),←HZ.out];rfl
           ·obtain⟨av2,X2,G2,-,hl3,hl4,hN2⟩:=hn2.some hm2
            have hle2:=hn2.le hm2
            obtain⟨d,hd2⟩: ∃d,b+1+m2=d:=⟨_,rfl⟩
            rw[hd2]at hN2 hle2
            have HN2:=hid hN2
            clear hN2
            cases hlet2:l2 with
            |true=>
             have hav2:=(hl3 hlet2).1
             subst hav2
             have HX:Hid (R=(fun _=>false,0,3)):=by
              unfold Hid
              rw[←hit.out]
              exact itemsA_bad HNE.out (item_l2 hn.one hm (by rw[hdrop];exact hj) (by rw[hdrop2,hn2.one,hlet2]) hm2) (by decide) (fun _=>rfl)
             clear h45 h93 hn hm hit hl1 hl2 hlet hdrop hdrop2 hj hX hb2 hle hn2 hm2 hl3 hl4 hlet2 hle2 hd2
             go_wp2_with fail
             refine(HN.out _).mono ?_
             rintro e w2 ⟨rfl,l2⟩
             have H2:=hid (on HB.out l2)
             clear l2
             go_wp2_with fail
             refine(HN2.out _).mono ?_
             rintro e w3 ⟨rfl,l2⟩
             have H3:=hid (on H2.out l2)
             clear l2
             go_wp2_with fail
             go_ret3
             refine⟨?_,H3.out⟩
             rw[HX.out,fin_bad (by decide),←HZ.out];rfl
            |false=>
             have hav2:=(hl4 hlet2).1
             subst hav2
             have tc2: ¬((c2.toNat:Nat):Int)<0:=by omega
             by_cases hlt:c2.toNat<c.toNat
             ·have tlt:((c2.toNat:Nat):Int)<((c.toNat:Nat):Int):=by omega
              have HX:Hid (R=(fun _=>false,0,4)):=by
               unfold Hid
               rw[←hit.out]
               exact itemsA_bad HNE.out (item_lt hn.one hm (by rw[hdrop];exact hj) (by rw[hdrop2,hn2.one,hlet2]) hm2 hlt) (by decide) (fun q=>by rw[←Lib.size_eq]at q;omega)
              clear h45 h93 hn hm hit hl1 hl2 hlet hdrop hdrop2 hj hX hb2 hle hn2 hm2 hl3 hl4 hlet2 hle2 hd2 hlt
              go_wp2_with fail
              refine(HN.out _).mono ?_
              rintro e w2 ⟨rfl,l2⟩
              have H2:=hid (on HB.out l2)
              clear l2
              go_wp2_with fail
              refine(HN2.out _).mono ?_
              rintro e w3 ⟨rfl,l2⟩
              have H3:=hid (on H2.out l2)
              clear l2
              go_wp2_with fail
              go_ret3
              refine⟨?_,H3.out⟩
              rw[HX.out,fin_bad (by decide),←HZ.out];rfl
             ·have tlt: ¬((c2.toNat:Nat):Int)<((c.toNat:Nat):Int):=by omega
              obtain⟨X3,hX3,hS⟩:=span_named c c2
              obtain⟨Y,hY,hU⟩:=union_named hd.out hX3
              have HSP:=hid hS
              have HU:=hid hU
              have HYY:Hid (Y=tx (fun i=>F i||between c.toNat c2.toNat i)):=hY
              have HY:Hid (itemsA s.data.toList gk d false (fun i=>F i||between c.toNat c2.toNat i)=R):=by
               unfold Hid
               rw[←hit.out,itemsA_on (by rw[←Lib.size_eq];exact hle.2) HNE.out (item_ok hn.one hm (by rw[hdrop];exact hj) (by rw[hdrop2,hn2.one,hlet2]) hm2 hlt),←hd2,←hb2]
               congr 1
               omega
              have HM:=hid (show a<d∧d≤s.size from⟨by omega,hle2.1⟩)
              have HA:=hid (show a≤s.size∧s.size≤a+gk from⟨ha.out.1,ha.out.2⟩)
              clear h45 h93 hn hm hit hl1 hl2 hlet hdrop hdrop2 hj hX hb2 hle hn2 hm2 hl3 hl4 hlet2 hle2 hd2 hlt hS hU hY hX3 ha hd
              go_wp2_with fail
              refine(HN.out _).mono ?_
              rintro e w2 ⟨rfl,l2⟩
              have H2:=hid (on HB.out l2)
              clear l2
              go_wp2_with fail
              refine(HN2.out _).mono ?_
              rintro e w3 ⟨rfl,l2⟩
              have H3:=hid (on H2.out l2)
              clear l2
              go_wp2_with fail
              refine(HSP.out _).mono ?_
              rintro e w4 ⟨rfl,l2⟩
              have H4:=hid (on H3.out l2)
              clear l2
              go_wp2_with fail
              refine(HU.out _).mono ?_
              rintro e w5 ⟨rfl,l2⟩
              have H5:=hid (on H4.out l2)
              clear l2
              go_wp2_with fail
              cases gk with
              |zero=>exact absurd HM.out.1 (by have:=HA.out;have:=HM.out;omega)
              |succ g=>
               go_roundg g
               case measure=>omega
               case rel=>exact⟨d,_,_,false,rfl,rfl,rfl,hid ⟨HM.out.2,by have:=HA.out;have:=HM.out;omega⟩,HYY,HY,H5⟩
        ·have te1:(((b+1:Nat):Int)==(s.size:Int))=true:=by simpa using (by omega:((b:Int)+1)=(s.size:Int))
         have hj:=joined_last hbs h45 hb1
         cases hlet:l with
         |true=>
          have hav:=(hl1 hlet).1
          subst hav
          have HX:Hid (R=(fun _=>false,0,3)):=by
           unfold Hid
           rw[←hit.out]
           exact itemsA_bad HNE.out (item_lj (by rw[hn.one,hlet]) hm (by rw[hdrop];exact hj)) (by decide) (fun _=>rfl)
          clear h45 hn hm hit hl1 hl2 hlet hdrop hdrop2 hj hX hb2 hle
          go_wp2_with fail
          refine(HN.out _).mono ?_
          rintro e w2 ⟨rfl,l2⟩
          have H2:=hid (on HB.out l2)
          clear l2
          go_wp2_with fail
          go_ret3
          refine⟨?_,H2.out⟩
          rw[HX.out,fin_bad (by decide),←HZ.out];rfl
         |false=>
          obtain⟨hav,-⟩:=hl2 hlet
          subst hav
          have tc: ¬((c.toNat:Nat):Int)<0:=by omega
          rw[hlet]at hn
          obtain⟨c2,m2,l2,hn2⟩:=nextAt hs.out (b+1)
          have hm2:m2=0:=by
           by_cases q:m2=0
           ·exact q
           ·have:=(hn2.le q).2;omega
          have HN2:Hid (∀w,Calls Tryz.prog 166 #[.string s,.int .i64 (s.size:Int)] w (NextTo w (.tuple #[.int .i64 0,.string ⟨#[]⟩,.int .i64 0,.int .i64 3]))):=by
           have:=hn2.none hm2
           rw[show b+1=s.size by omega]at this
           exact this
          have HX:Hid (R=(fun _=>false,0,3)):=by
           unfold Hid
           rw[←hit.out]
           exact itemsA_bad HNE.out (item_n2 hn.one hm (by rw[hdrop];exact hj) (by rw[hdrop2,hn2.one,hm2])) (by decide) (fun _=>rfl)
          clear h45 hn hm hit hl1 hl2 hlet hdrop hdrop2 hj hX hb2 hle hn2 hm2
          go_wp2_with fail
          refine(HN.out _).mono ?_
          rintro e w2 ⟨rfl,l2⟩
          have H2:=hid (on HB.out l2)
          clear l2
          go_wp2_with fail
          refine(HN2.out _).mono ?_
          rintro e w3 ⟨rfl,l2⟩
          have H3:=hid (on H2.out l2)
          clear l2
          go_wp2_with fail
          go_ret3
          refine⟨?_,H3.out⟩
          rw[HX.out,fin_bad (by decide),←HZ.out];rfl
       ·have t45:((s[b].toNat:Int)==45)=false:=u8_no h45
        have hj:=joined_no hbs h45
        clear h45
        obtain⟨Y,hY,hU⟩:=union_named hd.out hX
        have HU:=hid hU
        have HYY:Hid (Y=tx (fun i=>F i||G i)):=hY
        have hG:item (s.data.toList.drop a)=(m,0,G):=by
         cases hlet:l with
         |true=>rw[hlet]at hn;rw[item_l hn.one hm (by rw[hdrop];exact hj),(hl1 hlet).2]
         |false=>rw[hlet]at hn;rw[item_p hn.one hm (by rw[hdrop];exact hj),(hl2 hlet).2]
        have HY:Hid (itemsA s.data.toList gk b false (fun i=>F i||G i)=R):=by
         unfold Hid
         rw[←hit.out,itemsA_on (by rw[←Lib.size_eq];exact hle.2) HNE.out hG,hb2]
        have HM:=hid (show a<b∧b≤s.size from⟨by omega,hle.1⟩)
        have HA:=hid (show a≤s.size∧s.size≤a+gk from⟨ha.out.1,ha.out.2⟩)
        clear hU hY hG hl1 hl2 hn hX hdrop hdrop2 hj hit hm hb2 hle ha hd
        go_wp2_with fail
        refine(HN.out _).mono ?_
        rintro e w2 ⟨rfl,l2⟩
        have H2:=hid (on HB.out l2)
        clear l2
        go_wp2_with fail
        refine(HU.out _).mono ?_
        rintro e w3 ⟨rfl,l2⟩
        have H3:=hid (on H2.out l2)
        clear l2
        go_wp2_with fail
        cases gk with
        |zero=>exact absurd HM.out.1 (by have:=HA.out;have:=HM.out;omega)
        |succ g=>
         go_roundg g
         case measure=>omega
         case rel=>exact⟨b,_,_,false,rfl,rfl,rfl,hid ⟨HM.out.2,by have:=HA.out;have:=HM.out;omega⟩,HYY,HY,H3⟩
      ·have tb: ¬(b:Int)<(s.size:Int):=by omega
       have hj:=joined_end hbs
       obtain⟨Y,hY,hU⟩:=union_named hd.out hX
       have HU:=hid hU
       have HYY:Hid (Y=tx (fun i=>F i||G i)):=hY
       have hG:item (s.data.toList.drop a)=(m,0,G):=by
        cases hlet:l with
        |true=>rw[hlet]at hn;rw[item_l hn.one hm (by rw[hdrop];exact hj),(hl1 hlet).2]
        |false=>rw[hlet]at hn;rw[item_p hn.one hm (by rw[hdrop];exact hj),(hl2 hlet).2]
       have HY:Hid (itemsA s.data.toList gk b false (fun i=>F i||G i)=R):=by
        unfold Hid
        rw[←hit.out,itemsA_on (by rw[←Lib.size_eq];exact hle.2) HNE.out hG,hb2]
       have HM:=hid (show a<b∧b≤s.size from⟨by omega,hle.1⟩)
       have HA:=hid (show a≤s.size∧s.size≤a+gk from⟨ha.out.1,ha.out.2⟩)
       clear hU hY hG hl1 hl2 hn hX hdrop hdrop2 hj hit hm hb2 hle ha hd
       go_wp2_with fail
       refine(HN.out _).mono ?_
       rintro e w2 ⟨rfl,l2⟩
       have H2:=hid (on HB.out l2)
       clear l2
       go_wp2_with fail
       refine(HU.out _).mono ?_
       rintro e w3 ⟨rfl,l2⟩
       have H3:=hid (on H2.out l2)
       clear l2
       go_wp2_with fail
       cases gk with
       |zero=>exact absurd HM.out.1 (by have:=HA.out;have:=HM.out;omega)
       |succ g=>
        go_roundg g
        case measure=>omega
        case rel=>exact⟨b,_,_,false,rfl,rfl,rfl,hid ⟨HM.out.2,by have:=HA.out;have:=HM.out;omega⟩,HYY,HY,H3⟩
   ·have ti:(s.size:Int)≤(a:Int):=by omega
    have HNE:=hid (show¬(s.data.toList.getD a 0=93∧false=false)from fun q=>by
     have h:=q.1
     rw[List.getD_eq_getElem?_getD,List.getElem?_eq_none (by rw[←Lib.size_eq];omega)]at h
     simp at h)
    obtain⟨c,m,l,hn⟩:=nextAt hs.out a
    have hm:m=0:=by
     by_cases q:m=0
     ·exact q
     ·have:=(hn.le q).2;omega
    have HN:=hid (hn.none hm)
    have HX:Hid (R=(fun _=>false,0,3)):=by
     unfold Hid
     rw[←hit.out]
     exact itemsA_bad HNE.out (item_none (by rw[hn.one,hm])) (by decide) (fun _=>rfl)
    clear hn hm hit
    go_wp2_with fail
    refine(HN.out _).mono ?_
    rintro e w2 ⟨rfl,l2⟩
    have H2:=hid (on HB.out l2)
    clear l2
    go_wp2_with fail
    go_ret3
    refine⟨?_,H2.out⟩
    rw[HX.out,fin_bad (by decide),←HZ.out];rfl
theorem refParse_not {s:ByteArray} (h0:0<s.size) (h91: ¬s[0]=91) (w:World):Calls Tryz.prog 154 #[.string s] w (RParsed w (fun _=>false,0,3)):=by
 have he:=list_full h0
 have i0:(0:Int)<(s.size:Int):=by omega
 have t91:((s[0].toNat:Int)==91)=false:=u8_no h91
 have n91:((s[0].toNat:Int) !=91)=true:=by show(!((s[0].toNat:Int)==91))=true;rw[t91];rfl
 clear h91
 go_enter Tryz.func154,Tryz.ntmps154
 go_wp2_with fail
 refine(span_none _).mono ?_
 rintro e w1 ⟨rfl,l1⟩
 have HB1:=hid l1
 clear l1
 go_wp2_with fail
 go_ret3
 exact⟨rfl,HB1.out⟩
theorem refParse_lone {s:ByteArray} (h0:0<s.size) (hs1:s.size=1) (h91:s[0]'h0=91) (w:World):Calls Tryz.prog 154 #[.string s] w (RParsed w (fun _=>false,0,3)):=by
 have he:=list_full (s:=s) (by omega)
 have i0:(0:Int)<(s.size:Int):=by omega
 have i1: ¬(1:Int)<(s.size:Int):=by omega
 have t91:(((s[0]'h0).toNat:Int)==91)=true:=u8_yes h91
 have n91:(((s[0]'h0).toNat:Int) !=91)=false:=by show(!(((s[0]'h0).toNat:Int)==91))=false;rw[t91];rfl
 obtain⟨c,m,l,hn⟩:=nextAt (s:=s) (by omega) 1
 have hm:m=0:=by
  by_cases q:m=0
  ·exact q
  ·have:=(hn.le q).2;omega
 have HN:Hid (∀w,Calls Tryz.prog 166 #[.string s,.int .i64 1] w (NextTo w (.tuple #[.int .i64 0,.string ⟨#[]⟩,.int .i64 0,.int .i64 3]))):=hn.none hm
 clear hn hm hs1 h91
 go_enter Tryz.func154,Tryz.ntmps154
 go_wp2_with fail
 refine(span_none _).mono ?_
 rintro e w1 ⟨rfl,l1⟩
 have HB1:=hid l1
 clear l1
 obtain⟨Z,hZ⟩: ∃Z,tx (fun _=>false)=Z:=⟨_,rfl⟩
 have HZ:=hid hZ
 rw[hZ]
 clear hZ
 go_wp2_with fail
 go_loopg [6,8,9] 1 (fun gk s6 s8 s9 wr=>s6= .int .i64 1∧s9= .bool true∧wr=w1)
 case atStart=>exact⟨rfl,rfl,rfl⟩
 case round=>
  obtain⟨rfl,rfl,rfl⟩:=hrel
  go_wp2_with fail
  refine(HN.out _).mono ?_
  rintro e w2 ⟨rfl,l2⟩
  have H2:=hid (on HB1.out l2)
  clear l2
  go_wp2_with fail
  go_ret3
  refine⟨?_,H2.out⟩
  rw[←HZ.out];rfl
theorem refParse_any {s:ByteArray} (hs:s.size≤900) (h0:0<s.size) (w:World):Calls Tryz.prog 154 #[.string s] w (RParsed w (parse s.data.toList)):=by
 have e0:s.data.toList=s[0]::s.data.toList.drop 1:=by have:=Kit.drop_next s 0 h0;rwa[List.drop_zero]at this
 have hl:(s.data.toList.drop 1).length=s.size-1:=by rw[List.length_drop,←Lib.size_eq]
 by_cases h91:s[0]=91
 ·by_cases h1:1<s.size
  ·have e1:s.data.toList.drop 1=s[1]::s.data.toList.drop 2:=Kit.drop_next s 1 h1
   have hl2:(s.data.toList.drop 2).length=s.size-2:=by rw[List.length_drop,←Lib.size_eq]
   by_cases h94:s[1]=94
   ·have h:=refParse_neg hs h0 h91 h1 h94 w
    have e2:s.data.toList=91::94::s.data.toList.drop 2:=by rw[←h91,←h94,←e1,←e0]
    have hp:=parse_neg (s.data.toList.drop 2)
    rw[hl2,←e2]at hp
    rw[hp];exact h
   ·have h:=refParse_pos hs h0 h91 h1 h94 w
    have e2:s.data.toList=91::s.data.toList.drop 1:=by rw[←h91,←e0]
    have hp:=parse_pos (s.data.toList.drop 1) (by rw[e1];exact h94)
    rw[hl,←e2]at hp
    rw[hp];exact h
  ·have h2:s.data.toList.drop 1= []:=Kit.drop_end s 1 h1
   have h:=refParse_lone h0 (by omega) h91 w
   rw[e0,h2,h91]
   exact h
 ·have h:=refParse_not h0 h91 w
  rw[e0]
  unfold parse
  simp only[if_neg h91]
  exact h
end W13
end Go.Proofs.YtfgegjinhkgpbaaGreatDoor
