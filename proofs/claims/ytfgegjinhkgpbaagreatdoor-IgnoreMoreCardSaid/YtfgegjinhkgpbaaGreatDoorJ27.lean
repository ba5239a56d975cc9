/-
  Texts joined, in build order, each with its own comment and its own conditions: W15RefOf, W17Light, W17LawM.
-/
import Derived.Test.YtfgegjinhkgpbaaGreatDoorJ19
import Derived.Test.YtfgegjinhkgpbaaGreatDoorJ17
import Derived.Test.YtfgegjinhkgpbaaGreatDoorJ25
import Derived.Test.YtfgegjinhkgpbaaGreatDoorJ26
namespace Go.Proofs.YtfgegjinhkgpbaaGreatDoor
set_option maxHeartbeats 4000000
set_option maxRecDepth 100000
open Go.RowKit
open Lib (hid)
namespace W15
open Strs Recs M15
open M14 (Piece size sizes Got Whole)
open W14 (Raw Raws rawA rawC PAt PAll PBox PLow below_new box_arg load_piece own_same alloc_piece store_piece ParsesTo zeroR two_new P13Ok)
open Kit (below_draws on)
theorem p13_is {s:ByteArray} (hs:s.size≤900):P13Ok s:=by
 intro a w ha
 have hz:(s.extract a s.size).size=s.size-a:=by rw[ByteArray.size_extract];omega
 have h:=W13.refParse_any (s:=s.extract a s.size) (by omega) (by omega) w
 rw[Kit.drop_bytes s a]at h
 exact h
section
variable {s:ByteArray} {w:World}
end
end W15
namespace W17
open Strs Recs
open M14 (Piece Got)
open W14 (Raw Raws rawA PAt PLow PBox zeroR ParsesTo In alloc_piece store_piece load_piece two_new)
open M15 (gsize)
open Kit (below_draws on ret_bool mk_bytes)
section
variable {w:World} {p:ByteArray} {lv:Value} {L:List (List UInt8)}
theorem zero_low (w:World):PLow w zeroR (.mk 0 ⟨#[]⟩ [] 0 0):=
 .mk 0 ⟨#[]⟩ none 0 0 0 0 [] [] 0 (recs_nil _ _ _ _) (fun _ h=>by cases h) rfl (fun i h1=>absurd h1 (Nat.not_lt_zero _))
theorem rgot_parse (hs:p.size≤900) (w:World):Calls Tryz.prog 27 #[.string p] w (ParsesTo w (got p)):=by
 obtain⟨g,hg,hf,-⟩:=W14.parse_any hs
 rw[got_of hg]
 exact W14.rparse_any hs (W15.p13_is hs) hg hf w
def Some1 (w:World) (e:Ending) (w':World):Prop:= ∃(r:Raw) (P:Piece) (q er:Int),e= .returned (.tuple #[.agg (rawA r),.int .i64 q,.int .i64 er])∧PLow w' r P∧Below w.heap.size w w'
theorem rparse_some (hs:p.size≤900) (w:World):Calls Tryz.prog 27 #[.string p] w (Some1 w):=by
 refine(rgot_parse hs w).mono ?_
 generalize got p=G
 cases G with
 |bad q er=>
  rintro e w' ⟨l,-,rfl⟩
  exact⟨zeroR,_,q,er,rfl,zero_low w',l⟩
 |ok P to=>
  rintro e w' ⟨l,r,rfl,hp⟩
  exact⟨r,P,0,0,rfl,hp.low,l⟩
def Lights (L:List (List UInt8)) (w:World) (e:Ending) (w':World):Prop:= ∃b:Bool,e= .returned (.bool b)∧(b=true→L.length≤20∧ ∀p∈L,p.length≤40)∧Below w.heap.size w w'
theorem light_any (hl:Texts w.heap.size w lv L):Calls Tryz.prog 12 #[lv] w (Lights L w):=by
 obtain⟨A,c,rfl,hc1,hc2⟩:=hl.form
 obtain⟨n,hn⟩: ∃n,L.length=n:=⟨_,rfl⟩
 have HN:=hid hn
 rw[hn]at hl hc1 ⊢
 unfold maxLen at hc2
 have HL:=hid hl
 have HC:=hid (show n≤c∧c≤9223372036854775807 from⟨hc1,hc2⟩)
 have HP:Hid (∀(p:ByteArray),p.size≤900→ ∀w,Calls Tryz.prog 27 #[.string p] w (Some1 w)):=fun p h w=>rparse_some h w
 unfold Some1 at HP
 have HZ:Hid (∀(P:Piece) (w:World) (r:Raw),PLow w r P→Calls Tryz.prog 28 #[.agg (rawA r)] w fun e w'=>e= .returned (.int .i64 (gsize P))∧Below w.heap.size w w'):=fun P w r h=>W15.rgsize_any P w r h
 clear hl hc1 hc2 hn
 by_cases hbig:(n:Int)>20
 ·go_enter Tryz.func12,Tryz.ntmps12
  go_wp2_with fail
  go_ret
  exact⟨false,rfl,(fun h=>by cases h),Below.refl _ _⟩
 ·have HS:Hid (n≤20):=by unfold Hid;omega
  go_enter Tryz.func12,Tryz.ntmps12
  go_wp2_with fail
  clear hbig
  go_loopg [3] n (fun gk s3 wr=> ∃i:Nat,s3= .int .i64 i∧Hid (i+gk=n)∧Hid (∀p∈L.take i,p.length≤40)∧Hid (Below w.heap.size w wr))
  case atStart=>exact⟨0,rfl,by unfold Hid;omega,by simp[Hid],Below.refl _ _⟩
  case round=>
   obtain⟨i,rfl,hig,HG,LB⟩:=hrel
   cases gk with
   |zero=>
    have hi2:i=n:=by have:=hig.out;omega
    subst hi2
    have ti: ¬(i:Int)<(i:Int):=by omega
    go_wp2_with fail
    go_ret
    refine⟨true,rfl,fun _=>⟨by rw[HN.out];exact HS.out,?_⟩,LB.out⟩
    have:=HG.out
    rwa[←HN.out,List.take_length]at this
   |succ gk=>
    have hi1:i<n:=by have:=hig.out;omega
    have ti:(i:Int)<(n:Int):=by omega
    have tx:=HL.out.below LB.out
    obtain⟨ad,x,rfl,hb,hx,hxd⟩:=tx.at_ hi1
    have hil:i<L.length:=by rw[HN.out];exact hi1
    have hxL:L[i]'hil=x.data.toList:=by
     rw[hxd,List.getD_eq_getElem?_getD,List.getElem?_eq_getElem hil];rfl
    have htk:L.take (i+1)=L.take i++ [x.data.toList]:=by rw[List.take_succ_eq_append_getElem hil,hxL]
    have hiw:wrap64 ((i:Int)+1)=((i+1:Nat):Int):=by have:=HS.out;unfold wrap64;omega
    have HIG:Hid (i+1+gk=n):=by have:=hig.out;unfold Hid;omega
    clear tx hb hxd hxL hig
    by_cases h40:(x.size:Int)>40
    ·clear htk
     go_wp2_with fail
     go_ret
     exact⟨false,rfl,(fun h=>by cases h),LB.out⟩
    ·have HG2:Hid (∀p∈L.take (i+1),p.length≤40):=by
       unfold Hid
       rw[htk]
       intro p hp
       rcases List.mem_append.1 hp with hp|hp
       ·exact HG.out p hp
       ·simp at hp;rw[hp,←Lib.size_eq];omega
     have HP1:=hid (HP.out x (by omega))
     clear htk
     go_wp2_with fail
     refine(HP1.out _).mono ?_
     rintro e w1 ⟨r,P,qq,er,rfl,hp,l1⟩
     have A1:=hid hp
     have L1:=hid (on LB.out l1)
     have HZ1:=hid (HZ.out P)
     clear hp l1
     by_cases hbg:(gsize P:Int)>120
     ·obtain⟨z,hz⟩: ∃z,gsize P=z:=⟨_,rfl⟩
      rw[hz]at HZ1 hbg
      clear hz
      go_wp2_with (first
       |(refine alloc_piece rfl rfl ?_;intro w3 b3 e3 p3 l3 z3)
       |(refine store_piece (r:=r) rfl (.tmp 4) (.tmp 28) rfl rfl rfl p3 ?_;intro w4 p4 l4 z4;have n4:=two_new l3 l4 e3;have L4:=hid (on L1.out n4);have A4:=hid (A1.out.below n4);have P4:=hid p4;clear e3 p3 l3 z3 p4 l4 z4 n4 A1)
       |(refine load_piece (r:=r) rfl (.tmp 4) rfl rfl P4.out ?_))
      refine(HZ1.out _ _ A4.out).mono ?_
      rintro e w5 ⟨rfl,l5⟩
      have L5:=hid (on L4.out l5)
      clear l5
      go_wp2_with fail
      go_ret
      exact⟨false,rfl,(fun h=>by cases h),L5.out⟩
     ·obtain⟨z,hz⟩: ∃z,gsize P=z:=⟨_,rfl⟩
      rw[hz]at HZ1 hbg
      clear hz
      go_wp2_with (first
       |(refine alloc_piece rfl rfl ?_;intro w3 b3 e3 p3 l3 z3)
       |(refine store_piece (r:=r) rfl (.tmp 4) (.tmp 28) rfl rfl rfl p3 ?_;intro w4 p4 l4 z4;have n4:=two_new l3 l4 e3;have L4:=hid (on L1.out n4);have A4:=hid (A1.out.below n4);have P4:=hid p4;clear e3 p3 l3 z3 p4 l4 z4 n4 A1)
       |(refine load_piece (r:=r) rfl (.tmp 4) rfl rfl P4.out ?_))
      refine(HZ1.out _ _ A4.out).mono ?_
      rintro e w5 ⟨rfl,l5⟩
      have L5:=hid (on L4.out l5)
      clear l5
      go_wp2_with fail
      go_roundg gk
      case measure=>omega
      case rel=>exact⟨i+1,congrArg (Value.int .i64) hiw,HIG,HG2,L5⟩
end
end W17
namespace W17
open Strs Recs
open M17 (Bytes)
open Kit (below_draws on ret_bool)
def encT (l:Bytes):List Value:= [strV l]
theorem encT_len (l:Bytes):(encT l).length=1:=rfl
theorem encT_one (l:Bytes): ∀c∈encT l,c.oneCell'=true:=by
 intro c hc
 simp only[encT,List.mem_singleton]at hc
 rw[hc];rfl
theorem encT_all (L:List Bytes):L.flatMap encT=L.map strV:=by
 induction L with
 |nil=>rfl
 |cons a L ih=>rw[List.flatMap_cons,ih];rfl
theorem texts_recs {B:Nat} {w:World} {v:Value} {L:List Bytes} (h:Texts B w v L):Recs encT 1 B w v L:=by
 obtain⟨A,c,e,h1,h2,h3⟩:=h
 refine⟨A,c,e,h1,h2,fun hn=> ?_⟩
 obtain⟨ad,e2,hb,hc⟩:=h3 hn
 refine⟨ad,e2,hb,fun k hk j hj=> ?_⟩
 have hj0:j=0:=by omega
 subst hj0
 rw[Nat.mul_one,Nat.add_zero,hc k hk,List.getD_eq_getElem?_getD,List.getElem?_eq_getElem hk]
 rfl
theorem own_none (w:World):(w.alloc (.cells #[] 9)).ownsRow w.heap.size 9 1 (.slice (some ⟨w.heap.size,0,none⟩) 0 0) 0 []:=
 ⟨rfl,Or.inr ⟨_,0, #[],rfl,Nat.le_refl _,World.alloc_heap_new w _,Nat.le_refl _,Nat.zero_le _,rfl,rfl⟩⟩
theorem anyOf_more (b:Bool) (L M:List Bytes) (s:ByteArray) (h:anyOf (asks b L) s=true):anyOf (asks b (L++M)) s=true:=by
 unfold anyOf asks at*
 rw[List.map_append,List.any_append,h];rfl
theorem two_texts {w:World} {base:Nat} {v:Value} {L M:List Bytes} (h:w.ownsRow base 9 1 v (0+L.length+M.length) ([]++L.flatMap encT++M.flatMap encT)):Texts w.heap.size w v (L++M):=by
 rw[List.nil_append,encT_all,encT_all,←List.map_append]at h
 exact Texts.of_own h
section
variable {w:World} {v1 v2:Value} {L1 L2:List Bytes} {z:ByteArray}
set_option maxHeartbeats 8000000 in
theorem ignoreMore_law (v1:Value) (L1:List Bytes) (t1:Texts w.heap.size w v1 L1) (_: ∀l∈L1,l.length≤maxLen) (v2:Value) (L2:List Bytes) (t2:Texts w.heap.size w v2 L2) (_: ∀l∈L2,l.length≤maxLen) (z:ByteArray) (_:z.size≤140737488351232):Calls Tryz.prog 5 #[v1,v2,.string z] w (Yes w):=by
 obtain⟨i0,hi,hz0,hz1,hz2⟩:=info_parts text_info
 have HV:=hid lives_any
 unfold Yes at HV ⊢
 have T1:=hid t1
 have T2:=hid t2
 have HL1:=hid (light_any t1)
 have HL2:Hid (∀w',Below w.heap.size w w'→Calls Tryz.prog 12 #[v2] w' (Lights L2 w')):=fun w' hb=>light_any ((t2.below hb).more hb.size)
 have HC:Hid (∀(w:World) (v:Value) (L:List Bytes),Texts w.heap.size w v L→L.length≤1000→(∀p∈L,p.length≤800)→Calls Tryz.prog 13 #[v] w (NewTo false L w)):=fun w v L h1 h2 h3=>compile_any h1 h2 h3
 have HN:=hid (fun w=>has_none (s:=z) w)
 have HM:=hid len_none
 obtain⟨A1,c1,rfl,h11,h12⟩:=t1.form
 obtain⟨A2,c2,rfl,h21,h22⟩:=t2.form
 clear t1 t2
 go_enter Tryz.func5,Tryz.ntmps5
 go_wp2_with fail
 refine HL1.out.mono ?_
 rintro e w1 ⟨b1,rfl,g1,l1⟩
 have G1:=hid g1
 have B1:=hid l1
 clear g1 l1
 cases b1 with
 |false=>
  go_wp2_with fail
  refine(HV.out _).mono ?_
  rintro e w2 ⟨rfl,l2⟩
  have B2:=hid (on B1.out l2)
  clear l2
  go_wp2_with fail
  go_ret
  exact⟨rfl,B2.out⟩
 |true=>
  go_wp2_with fail
  refine(HL2.out _ B1.out).mono ?_
  rintro e w2 ⟨b2,rfl,g2,l2⟩
  have G2:=hid g2
  have B2:=hid (on B1.out l2)
  clear g2 l2
  cases b2 with
  |false=>
   go_wp2_with fail
   refine(HV.out _).mono ?_
   rintro e w3 ⟨rfl,l3⟩
   have B3:=hid (on B2.out l3)
   clear l3
   go_wp2_with fail
   go_ret
   exact⟨rfl,B3.out⟩
  |true=>
   have HS1:=hid (G1.out (by first|trivial|rfl))
   have HS2:=hid (G2.out (by first|trivial|rfl))
   by_cases hz3:(z.size:Int)>30
   ·go_wp2_with fail
    refine(HV.out _).mono ?_
    rintro e w3 ⟨rfl,l3⟩
    have B3:=hid (on B2.out l3)
    clear l3
    go_wp2_with fail
    go_ret
    exact⟨rfl,B3.out⟩
   ·have HZ:Hid (z.size≤30):=by unfold Hid;omega
    have HH:Hid (∀(w:World) (q:Nat) (hs:List (ByteArray→Bool)),SetAt w q hs→Calls Tryz.prog 17 #[.pointer (some ⟨q,0,none⟩),.string z] w fun e w'=>e= .returned (.bool (anyOf hs z))∧Below w.heap.size w w'):=fun w q hs h=>has_any h (by have:=HZ.out;omega)
    have T12:=hid ((T1.out.below B2.out).more B2.out.size)
    have HC1:=hid (HC.out w2 _ L1 T12.out (by have:=HS1.out.1;omega) (fun p hp=>by have:=HS1.out.2 p hp;omega))
    unfold NewTo at HC1
    go_wp2_with fail
    refine(HN.out _).mono ?_
    rintro e w3 ⟨rfl,rfl⟩
    go_wp2_with fail
    refine(HM.out _).mono ?_
    rintro e w3 ⟨rfl,rfl⟩
    go_wp2_with fail
    refine HC1.out.mono ?_
    rintro e w3 ⟨l3,(⟨h0,q,rfl,s3⟩|⟨h0,rfl⟩)⟩
    ·have S3:=hid s3
     have H0:=hid h0
     have B3:=hid (on B2.out l3)
     have TA:=hid ((T1.out.below B3.out).more B3.out.size)
     have TB:=hid ((T2.out.below B3.out).more B3.out.size)
     clear l3 s3 h0
     go_wp2_with (first
      |(at_builtin;refine wpList_append_recs (enc:=encT) rfl (.tmp 43) (.tmp 44) 23 rfl w3.heap.size 9 i0 (.string ⟨#[]⟩) 1 16 Tryz.underlying23 hi hz0 hz1 hz2 rfl (by decide) _ 0 [] rfl (own_none w3) _ L1 w3.heap.size rfl (texts_recs (TA.out.alloc (Nat.le_refl _) _)) encT_len encT_one (by have:=HS1.out.1;unfold maxLen;omega) (by have:=HS1.out.1;omega) (by rw[World.size_alloc];omega) ?_;intro v5 w5 o5 g5 _;have O5:=hid o5;have LB5:=hid (((Below.refl _ w3).alloc (Nat.le_refl _) _).grown g5 (by simp) (fun k hk=>((own_none w3).lt k hk).1));have TB5:=hid (TB.out.below LB5.out);clear o5 g5)
      |(at_builtin;refine wpList_append_recs (enc:=encT) rfl (.tmp 45) (.tmp 46) 23 rfl w3.heap.size 9 i0 (.string ⟨#[]⟩) 1 16 Tryz.underlying23 hi hz0 hz1 hz2 rfl (by decide) _ _ _ rfl O5.out _ L2 w3.heap.size rfl (texts_recs TB5.out) encT_len encT_one (by have:=HS1.out.1;have:=HS2.out.1;unfold maxLen;omega) (by have:=HS1.out.1;have:=HS2.out.1;omega) LB5.out.size ?_;intro v6 w6 o6 g6 _;have LB6:=hid (LB5.out.grown g6 (by have:=LB5.out.size;omega) (fun k hk=>(O5.out.lt k hk).1));have TC:=hid (two_texts o6);clear o6 g6))
     have HC2:=hid (HC.out w6 _ (L1++L2) TC.out (by rw[List.length_append];have:=HS1.out.1;have:=HS2.out.1;omega) (fun p hp=>by
      rcases List.mem_append.1 hp with hp|hp
      ·have:=HS1.out.2 p hp;omega
      ·have:=HS2.out.2 p hp;omega))
     unfold NewTo at HC2
     refine HC2.out.mono ?_
     rintro e w7 ⟨l7,(⟨h7,q7,rfl,s7⟩|⟨h7,rfl⟩)⟩
     ·have B7:=hid (on B3.out (on LB6.out l7))
      have S37:=hid (S3.out.below (on LB6.out l7))
      have S7:=hid s7
      clear l7 s7
      have HH1:=hid (HH.out w7 q _ S37.out)
      cases ha:anyOf (asks false L1) z with
      |false=>
       rw[ha]at HH1
       go_wp2_with fail
       refine HH1.out.mono ?_
       rintro e w8 ⟨rfl,l8⟩
       have B8:=hid (on B7.out l8)
       clear l8
       go_wp2_with fail
       refine(HV.out _).mono ?_
       rintro e w9 ⟨rfl,l9⟩
       have B9:=hid (on B8.out l9)
       clear l9
       go_wp2_with fail
       go_ret
       exact⟨rfl,B9.out⟩
      |true=>
       rw[ha]at HH1
       have ha2:=anyOf_more false L1 L2 z ha
       go_wp2_with fail
       refine HH1.out.mono ?_
       rintro e w8 ⟨rfl,l8⟩
       have B8:=hid (on B7.out l8)
       have HH2:=hid (HH.out w8 q7 _ (S7.out.below l8))
       rw[ha2]at HH2
       clear l8
       go_wp2_with fail
       refine HH2.out.mono ?_
       rintro e w9 ⟨rfl,l9⟩
       have B9:=hid (on B8.out l9)
       clear l9
       go_wp2_with fail
       refine(HV.out _).mono ?_
       rintro e w10 ⟨rfl,l10⟩
       have B10:=hid (on B9.out l10)
       clear l10
       go_wp2_with fail
       go_ret
       exact⟨rfl,B10.out⟩
     ·have te:((bad false (L1++L2) 0).2 !=0)=true:=by simpa using h7
      have B7:=hid (on B3.out (on LB6.out l7))
      clear l7 h7
      generalize bad false (L1++L2) 0=R at*
      go_wp2_with fail
      refine(HV.out _).mono ?_
      rintro e w8 ⟨rfl,l8⟩
      have B8:=hid (on B7.out l8)
      clear l8
      go_wp2_with fail
      go_ret
      exact⟨rfl,B8.out⟩
    ·have te:((bad false L1 0).2 !=0)=true:=by simpa using h0
     have B3:=hid (on B2.out l3)
     have TA:=hid ((T1.out.below B3.out).more B3.out.size)
     have TB:=hid ((T2.out.below B3.out).more B3.out.size)
     clear l3 h0 HC1
     generalize bad false L1 0=R0 at*
     go_wp2_with (first
      |(at_builtin;refine wpList_append_recs (enc:=encT) rfl (.tmp 43) (.tmp 44) 23 rfl w3.heap.size 9 i0 (.string ⟨#[]⟩) 1 16 Tryz.underlying23 hi hz0 hz1 hz2 rfl (by decide) _ 0 [] rfl (own_none w3) _ L1 w3.heap.size rfl (texts_recs (TA.out.alloc (Nat.le_refl _) _)) encT_len encT_one (by have:=HS1.out.1;unfold maxLen;omega) (by have:=HS1.out.1;omega) (by rw[World.size_alloc];omega) ?_;intro v5 w5 o5 g5 _;have O5:=hid o5;have LB5:=hid (((Below.refl _ w3).alloc (Nat.le_refl _) _).grown g5 (by simp) (fun k hk=>((own_none w3).lt k hk).1));have TB5:=hid (TB.out.below LB5.out);clear o5 g5)
      |(at_builtin;refine wpList_append_recs (enc:=encT) rfl (.tmp 45) (.tmp 46) 23 rfl w3.heap.size 9 i0 (.string ⟨#[]⟩) 1 16 Tryz.underlying23 hi hz0 hz1 hz2 rfl (by decide) _ _ _ rfl O5.out _ L2 w3.heap.size rfl (texts_recs TB5.out) encT_len encT_one (by have:=HS1.out.1;have:=HS2.out.1;unfold maxLen;omega) (by have:=HS1.out.1;have:=HS2.out.1;omega) LB5.out.size ?_;intro v6 w6 o6 g6 _;have LB6:=hid (LB5.out.grown g6 (by have:=LB5.out.size;omega) (fun k hk=>(O5.out.lt k hk).1));have TC:=hid (two_texts o6);clear o6 g6))
     have HC2:=hid (HC.out w6 _ (L1++L2) TC.out (by rw[List.length_append];have:=HS1.out.1;have:=HS2.out.1;omega) (fun p hp=>by
      rcases List.mem_append.1 hp with hp|hp
      ·have:=HS1.out.2 p hp;omega
      ·have:=HS2.out.2 p hp;omega))
     unfold NewTo at HC2
     refine HC2.out.mono ?_
     rintro e w7 ⟨l7,hor⟩
     have hor2: ∃(u:Value) (x y:Int),e= .returned (.tuple #[u,.int .i64 x,.int .i64 y]):=by
      rcases hor with⟨-,q7,h,-⟩|⟨-,h⟩
      ·exact⟨_,_,_,h⟩
      ·exact⟨_,_,_,h⟩
     obtain⟨u,x,y,rfl⟩:=hor2
     have B7:=hid (on B3.out (on LB6.out l7))
     clear l7 hor
     go_wp2_with fail
     refine(HV.out _).mono ?_
     rintro e w8 ⟨rfl,l8⟩
     have B8:=hid (on B7.out l8)
     clear l8
     go_wp2_with fail
     go_ret
     exact⟨rfl,B8.out⟩
end
end W17
end Go.Proofs.YtfgegjinhkgpbaaGreatDoor
