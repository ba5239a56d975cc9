/-
  Texts joined, in build order, each with its own comment and its own conditions: W14Set, W14Brackets, W15Seq, W15Patch, Range, RangeG, RangeH.
-/
import Derived.Test.YtehdnbidgphecaaGreatDoorJ07
import Derived.Deep.RegionHeld3
import Derived.Test.YtehdnbidgphecaaGreatDoorJ05
import Derived.Deep.LoopGhost
import Derived.RangeFuncNested
import Derived.RangeFuncCalls
import Derived.Lib.Hide
import Derived.Deep.Draws
namespace Go.Proofs.YtehdnbidgphecaaGreatDoor
set_option maxHeartbeats 4000000
set_option maxRecDepth 100000
open Go.RowKit
open Lib (hid)
namespace W14
open M14
open Row256 (Beside)
open Kit (ret_str ret_bool ret_int mk_of mk_bytes ba_ext below_draws on list_full list_ne list_none list_nil)
def Reads (rb:Nat) (s:ByteArray) (deep:Nat) (w:World) (g:Got) (e:Ending) (w':World):Prop:=
 Beside rb w w'∧match g with
 | .ok p to=> ∃r,e= .returned (.tuple #[.agg (rawA r),.int .i64 0])∧Reader w' rb s to deep∧PAt (In w.heap.size w'.heap.size) w' r p
 | .bad b er=>er≠0∧e= .returned (.tuple #[.agg (rawA zeroR),.int .i64 er])∧ ∃d,Reader w' rb s b d
section
variable {wr W w1:World} {b:Nat} {s:ByteArray} {at_:Nat}
def RS (wr:World) (b:Nat) (s:ByteArray) (at_:Nat) (W:World):Prop:=W.cell? ⟨b,0,none⟩=some (.string s)∧W.cell? ⟨b,1,none⟩=some (.int .i64 at_)∧Below wr.heap.size wr W
theorem rs_on (hlt:b<wr.heap.size) (h:RS wr b s at_ W) (hb:Below W.heap.size W w1):RS wr b s at_ w1:=by
 have hW:b<W.heap.size:=Nat.lt_of_lt_of_le hlt h.2.2.size
 exact⟨(hb.cell hW).trans h.1,(hb.cell hW).trans h.2.1,on h.2.2 hb⟩
theorem rs_draw (h:RS wr b s at_ W):RS wr b s at_ W.drew:=⟨h.1,h.2.1,h.2.2.drew⟩
theorem rs_below (h:RS wr b s at_ W):Below wr.heap.size wr W:=h.2.2
theorem rs_start {deep:Nat} (h:Reader wr b s at_ deep):RS wr b s at_ wr.drew:=⟨h.c0,h.c1,(Below.refl _ _).drew⟩
end
theorem set_any {w:World} {b:Nat} {s:ByteArray} {at_ deep:Nat} (h:Reader w b s at_ deep) (hat:at_<s.size) (hs:s.size≤900):
    Calls Tryz.prog 112 #[.pointer (some ⟨b,0,none⟩)] w (Reads b s deep w (if(M13.parse (s.data.toList.drop at_)).2.2≠0 then .bad at_ (M13.parse (s.data.toList.drop at_)).2.2 else .ok (leaf 4 (txt (M13.parse (s.data.toList.drop at_)).1)) (at_+(M13.parse (s.data.toList.drop at_)).2.1))):=by
 have hz:(s.extract at_ s.size).size≤4611686018427387000:=by rw[ByteArray.size_extract];omega
 have HP: ∀w,Calls Tryz.prog 120 #[.string (s.extract at_ s.size)] w (W13.Parsed w (M13.parse (s.data.toList.drop at_))):=by
  intro w
  have:=W13.parse_any hz w
  rw[Kit.drop_bytes]at this
  exact this
 have hle:=parse_le (s:=s.data.toList.drop at_)
 rw[List.length_drop,←Lib.size_eq]at hle
 obtain⟨⟨F,n,er⟩,hR⟩: ∃R,M13.parse (s.data.toList.drop at_)=R:=⟨_,rfl⟩
 rw[hR]at HP hle ⊢
 simp only at hle ⊢
 obtain⟨g,hg⟩: ∃g,(if er≠0 then Got.bad at_ er else .ok (leaf 4 (txt F)) (at_+n))=g:=⟨_,rfl⟩
 rw[hg]
 have HG:=hid hg
 have HH:=hid HP
 have hlt:=h.lt
 have H:=hid h
 have h1:(at_:Int)≤(s.size:Int):=by omega
 have HL:=hid hle
 clear hR HP h hz hle hg
 go_enter Tryz.func112,Tryz.ntmps112
 go_wp2_with (first|(refine alloc_piece rfl rfl ?_;intro w1 b1 e1 p1 l1 z1))
 have H1:=hid (H.out.below l1)
 have P1:=hid p1
 have L1:=hid l1
 have hlt1:=H1.out.lt
 have d0:=H1.out.c0
 have d1:=H1.out.c1
 clear p1 l1
 go_region_held3 (fun w'=>w'.cell? ⟨b,0,none⟩=some (.string s)∧w'.cell? ⟨b,1,none⟩=some (.int .i64 at_)∧Below w1.heap.size w1 w')
  (first|exact rs_on hlt1 (by assumption) hb2|exact rs_start H1.out|exact rs_draw (by assumption)|go_keep)
  (first|(go_at_call 120;refine(HH.out _).mono ?_;rintro e w2 ⟨rfl,hb2⟩))
 have hS:RS w1 b s at_ w2:=by assumption
 have H2:=hid (H1.out.below (rs_below hS))
 have P2:=hid (P1.out.below (rs_below hS))
 have L2:=hid (L1.out.trans ((rs_below hS).mono L1.out.size))
 have hne:b1≠b:=by omega
 clear hS
 by_cases he:er=0
 ·have te:(er !=0)=false:=by rw[he];rfl
  have HG2:Hid (g= .ok (leaf 4 (txt F)) (at_+n)):=by
   unfold Hid
   rw[←HG.out,if_neg (by simpa using he)]
  have hw:wrap64 ((at_:Int)+(n:Int))=((at_+n:Nat):Int):=by have:=HL.out he;unfold wrap64;omega
  have f1:=H2.out.free 1
  have c1:=H2.out.c1
  clear he
  go_wp2_with (first|(refine store_piece (r:=⟨4,W13.tx F,none,0,0,0,0⟩) rfl _ _ rfl rfl rfl (PBox.beside P2.out (beside_put _ _ _ _) hne) ?_;intro w4 p4 l4 z4))
  refine end_piece2 rfl rfl p4 rfl ?_
  have B:=beside_fresh ((Beside.of (b:=b) L2.out).trans (beside_put w2 b 1 (.int .i64 ((at_+n:Nat):Int)))) l4 (by omega)
  rw[HG2.out]
  exact⟨B,_,rfl,(H2.out.put1 (at_+n)).beside l4 hne.symm,PAt.leaf _ _ 4 _⟩
 ·have te:(er !=0)=true:=by simpa using he
  have HG2:Hid (g= .bad at_ er):=by
   unfold Hid
   rw[←HG.out,if_pos he]
  have HE:=hid he
  clear he
  go_wp2_with (first|(refine store_piece (r:=zeroR) rfl _ _ rfl rfl rfl P2.out ?_;intro w4 p4 l4 z4))
  refine end_piece2 rfl rfl p4 rfl ?_
  rw[HG2.out]
  exact⟨beside_fresh (Beside.of (b:=b) L2.out) l4 (by omega),HE.out,rfl,_,H2.out.beside l4 hne.symm⟩
theorem getD_at {s:ByteArray} {i:Nat} (h:i<s.size):s.data.toList.getD i 0=s[i]:=Kit.byte_get s i h
theorem chr_at {s:ByteArray} {i:Nat} (h:i<s.size):(s.extract i s.size).extract 0 1=chr s[i]:=by
 apply ba_ext
 rw[Kit.take_bytes,Kit.drop_bytes,Kit.drop_next s i h]
 rfl
def escapedR (S:List UInt8) (at_:Nat):Got:=
 if at_+1=S.length then .bad at_ 3
 else if M13.letter (S.getD (at_+1) 0)then .ok (leaf 4 (txt (M13.namedF (S.getD (at_+1) 0)))) (at_+2)
 else .ok (leaf 2 (chr (S.getD (at_+1) 0))) (at_+2)
theorem escaped_any {w:World} {b:Nat} {s:ByteArray} {at_ deep:Nat} (h:Reader w b s at_ deep) (hat:at_<s.size) (hs:s.size≤900):
    Calls Tryz.prog 113 #[.pointer (some ⟨b,0,none⟩)] w (Reads b s deep w (escapedR s.data.toList at_)):=by
 have hlen:s.data.toList.length=s.size:=(Lib.size_eq s).symm
 have hlt:=h.lt
 have H:=hid h
 have h1:((at_+1:Nat):Int)≤(s.size:Int):=by omega
 have hw1:wrap64 ((at_:Int)+1)=((at_+1:Nat):Int):=by unfold wrap64;omega
 have hw2:wrap64 ((at_:Int)+2)=((at_+2:Nat):Int):=by unfold wrap64;omega
 by_cases hend:at_+1=s.size
 ·have HG:Hid (escapedR s.data.toList at_= .bad at_ 3):=by
    unfold Hid escapedR
    rw[if_pos (by omega)]
  have he:(s.extract (at_+1) s.size).toList.isEmpty=true:=list_none (by rw[ByteArray.size_extract];omega)
  rw[HG.out]
  clear h hlen
  go_enter Tryz.func113,Tryz.ntmps113
  go_wp2_with (first|(refine alloc_piece rfl rfl ?_;intro w1 b1 e1 p1 l1 z1))
  have H1:=hid (H.out.below l1)
  have P1:=hid p1
  have L1:=hid l1
  have c0:=H1.out.c0
  have c1:=H1.out.c1
  clear p1 l1
  go_quiet (fail)
  have P2:Hid (PBox (w1.drewN nq) b1 zeroR):=P1
  have H2:Hid (Reader (w1.drewN nq) b s at_ deep):=H1
  have L2:=hid (L1.out.trans ((below_draws w1 nq).mono L1.out.size))
  go_wp2_with (first|(refine store_piece (r:=zeroR) rfl _ _ rfl rfl rfl P2.out ?_;intro w4 p4 l4 z4))
  refine end_piece2 rfl rfl p4 rfl ?_
  exact⟨beside_fresh (Beside.of (b:=b) L2.out) l4 (by omega),by decide,rfl,_,H2.out.beside l4 (by omega)⟩
 ·have hlt2:at_+1<s.size:=by omega
  have he:(s.extract (at_+1) s.size).toList.isEmpty=false:=list_full (by rw[ByteArray.size_extract];omega)
  have hz:(s.extract (at_+1) s.size).size=s.size-(at_+1):=by rw[ByteArray.size_extract];omega
  have hz0:0<(s.extract (at_+1) s.size).size:=by omega
  have hz1:(1:Int)≤((s.extract (at_+1) s.size).size:Int):=by omega
  have hz2:(0:Int)<((s.extract (at_+1) s.size).size:Int):=by omega
  have hc:(s.extract (at_+1) s.size)[0]=s[at_+1]:=by
   have:=Kit.byte_get (s.extract (at_+1) s.size) 0 hz0
   rw[Kit.drop_bytes,Kit.drop_next s (at_+1) hlt2]at this
   exact this.symm
  have HCH:=hid (chr_at hlt2)
  have HN:Hid (∀w,Calls Tryz.prog 121 #[.int .u8 (s.extract (at_+1) s.size)[0].toNat] w fun e w'=>e= .returned (.tuple #[.string (W13.tx (M13.namedF s[at_+1])),.bool (M13.letter s[at_+1])])∧Below w.heap.size w w'):=by
   intro w
   rw[hc]
   exact W13.namedS_any _ w
  cases hlet:M13.letter s[at_+1]with
  |true=>
   have HG:Hid (escapedR s.data.toList at_= .ok (leaf 4 (txt (M13.namedF s[at_+1]))) (at_+2)):=by
    unfold Hid escapedR
    rw[if_neg (by omega),getD_at hlt2,hlet,if_pos rfl]
   rw[HG.out]
   rw[hlet]at HN
   clear h hlen hlet hc
   go_enter Tryz.func113,Tryz.ntmps113
   go_wp2_with (first|(refine alloc_piece rfl rfl ?_;intro w1 b1 e1 p1 l1 z1))
   have H1:=hid (H.out.below l1)
   have P1:=hid p1
   have L1:=hid l1
   have c0:=H1.out.c0
   have c1:=H1.out.c1
   clear p1 l1
   go_quiet (fail)
   have P2:Hid (PBox (w1.drewN nq) b1 zeroR):=P1
   have H2:Hid (Reader (w1.drewN nq) b s at_ deep):=H1
   have L2:=hid (L1.out.trans ((below_draws w1 nq).mono L1.out.size))
   have d1:=H2.out.c1
   have f1:=H2.out.free 1
   generalize w1.drewN nq=w2 at*
   go_wp2_with fail
   refine(HN.out _).mono ?_
   rintro e w3 ⟨rfl,l3⟩
   have H3:=hid ((H2.out.put1 (at_+2)).below l3)
   have hne:b1≠b:=by omega
   have P3:=hid ((P2.out.beside (beside_put w2 b 1 (.int .i64 ((at_+2:Nat):Int))) hne).below l3)
   have B3:=hid (beside_onto ((Beside.of (b:=b) L2.out).trans (beside_put w2 b 1 (.int .i64 ((at_+2:Nat):Int)))) l3)
   clear l3
   go_wp2_with (first|(refine store_piece (r:=⟨4,W13.tx (M13.namedF s[at_+1]),none,0,0,0,0⟩) rfl _ _ rfl rfl rfl P3.out ?_;intro w4 p4 l4 z4))
   refine end_piece2 rfl rfl p4 rfl ?_
   exact⟨beside_fresh B3.out l4 (by omega),_,rfl,H3.out.beside l4 hne.symm,PAt.leaf _ _ 4 _⟩
  |false=>
   have HG:Hid (escapedR s.data.toList at_= .ok (leaf 2 (chr s[at_+1])) (at_+2)):=by
    unfold Hid escapedR
    rw[if_neg (by omega),getD_at hlt2,hlet,if_neg (by simp)]
   rw[HG.out]
   rw[hlet]at HN
   clear h hlen hlet hc
   go_enter Tryz.func113,Tryz.ntmps113
   go_wp2_with (first|(refine alloc_piece rfl rfl ?_;intro w1 b1 e1 p1 l1 z1))
   have H1:=hid (H.out.below l1)
   have P1:=hid p1
   have L1:=hid l1
   have c0:=H1.out.c0
   have c1:=H1.out.c1
   clear p1 l1
   go_quiet (fail)
   have P2:Hid (PBox (w1.drewN nq) b1 zeroR):=P1
   have H2:Hid (Reader (w1.drewN nq) b s at_ deep):=H1
   have L2:=hid (L1.out.trans ((below_draws w1 nq).mono L1.out.size))
   have d1:=H2.out.c1
   have f1:=H2.out.free 1
   generalize w1.drewN nq=w2 at*
   go_wp2_with fail
   refine(HN.out _).mono ?_
   rintro e w3 ⟨rfl,l3⟩
   have H3:=hid ((H2.out.put1 (at_+2)).below l3)
   have hne:b1≠b:=by omega
   have P3:=hid ((P2.out.beside (beside_put w2 b 1 (.int .i64 ((at_+2:Nat):Int))) hne).below l3)
   have B3:=hid (beside_onto ((Beside.of (b:=b) L2.out).trans (beside_put w2 b 1 (.int .i64 ((at_+2:Nat):Int)))) l3)
   clear l3
   go_wp2_with (first|(refine store_piece (r:=⟨2,(s.extract (at_+1) s.size).extract 0 1,none,0,0,0,0⟩) rfl _ _ rfl rfl rfl P3.out ?_;intro w4 p4 l4 z4))
   refine end_piece2 rfl rfl p4 rfl ?_
   rw[HCH.out]
   exact⟨beside_fresh B3.out l4 (by omega),_,rfl,H3.out.beside l4 hne.symm,PAt.leaf _ _ 2 _⟩
end W14
namespace W14
open M14
open Row256 (Beside)
open Kit (ret_str ret_bool ret_int mk_of mk_bytes ba_ext below_draws on list_full list_ne list_none list_nil)
def PatOk (s:ByteArray) (R:Nat→Nat→Option Got) (lo:Nat):Prop:=
 ∀at_ deep,lo≤at_→at_≤s.size→deep≤64→ ∃g,R at_ deep=some g∧Fine s.data.toList at_ g∧
  ∀w b,Reader w b s at_ deep→Calls Tryz.prog 42 #[.pointer (some ⟨b,0,none⟩)] w (Reads b s deep w (fix s.data.toList deep g))
theorem two_new {u v x:World} {c:Nat} (h:Below u.heap.size u v) (k:Beside c v x) (e:u.heap.size=c):Below u.heap.size u x:=h.trans (k.below h.size (by omega))
theorem fix_deep {S:List UInt8} {deep:Nat} (h:deep≠0) (g:Got):fix S deep g=g:=by
 cases g with
 |ok p to=>exact if_neg (fun q=>h q.1)
 |bad b e=>rfl
def bracketsR (R:Nat→Nat→Option Got) (S:List UInt8) (at_ deep:Nat):Got:=
 if deep=64 then .bad at_ 21
 else match R (at_+1) (deep+1)with
  |none=> .bad 0 0
  |some (.bad b e)=> .bad b e
  |some (.ok p to)=>if to=S.length then .bad S.length 3 else .ok p (to+1)
section
variable {w:World} {b:Nat} {s:ByteArray} {at_ deep:Nat}
theorem brackets_deep (h:Reader w b s at_ 64):
    Calls Tryz.prog 111 #[.pointer (some ⟨b,0,none⟩)] w (Reads b s 64 w (.bad at_ 21)):=by
 have hlt:=h.lt
 have H:=hid h
 clear h
 go_enter Tryz.func111,Tryz.ntmps111
 go_wp2_with (first
  |(refine alloc_piece rfl rfl ?_;intro w1 b1 e1 p1 l1 z1;have H1:=hid (H.out.below l1);have d2:=H1.out.c2)
  |(refine store_piece (r:=zeroR) rfl (.tmp 2) (.tmp 11) rfl rfl rfl p1 ?_;intro w2 p2 l2 z2))
 refine end_piece2 rfl rfl p2 rfl ?_
 exact⟨beside_fresh (Beside.of (b:=b) l1) l2 (by omega),by decide,rfl,_,H1.out.beside l2 (by omega)⟩
theorem brackets_bad (h:Reader w b s at_ deep) (hat:at_<s.size) (hs:s.size≤900) (hd:deep<64) {q:Nat} {er:Int}
    (hC: ∀w b,Reader w b s (at_+1) (deep+1)→Calls Tryz.prog 42 #[.pointer (some ⟨b,0,none⟩)] w (Reads b s (deep+1) w (.bad q er))):
    Calls Tryz.prog 111 #[.pointer (some ⟨b,0,none⟩)] w (Reads b s deep w (.bad q er)):=by
 have hlt:=h.lt
 have H:=hid h
 have HC:=hid hC
 have t1:((deep:Int)==64)=false:=by simpa using (by omega: ¬(deep:Int)=64)
 have hw1:wrap64 ((at_:Int)+1)=((at_+1:Nat):Int):=by unfold wrap64;omega
 have hw2:wrap64 ((deep:Int)+1)=((deep+1:Nat):Int):=by unfold wrap64;omega
 clear h hC
 go_enter Tryz.func111,Tryz.ntmps111
 go_wp2_with (first
  |(refine alloc_piece rfl rfl ?_;intro w1 b1 e1 p1 l1 z1;have H1:=hid (H.out.below l1);have d1:=H1.out.c1;have d2:=H1.out.c2;have f1:=H1.out.free 1;have f2:=H1.out.free 2))
 have hne:b1≠b:=by omega
 have H3:=hid ((H1.out.put1 (at_+1)).put2 (deep+1))
 have B3:Hid (Beside b w1 ((w1.setCell ⟨b,1,none⟩ (.int .i64 ((at_+1:Nat):Int))).setCell ⟨b,2,none⟩ (.int .i64 ((deep+1:Nat):Int)))):=(beside_put _ _ _ _).trans (beside_put _ _ _ _)
 refine(HC.out _ _ H3.out).mono ?_
 rintro e w4 ⟨b4,he,rfl,d,hr⟩
 have B4:=hid (B3.out.trans b4)
 have P4:=hid (PBox.beside p1 B4.out hne)
 have H4:=hid hr
 have te:(er !=0)=true:=by simpa using he
 have HE:=hid he
 have hz:=B4.out.size
 clear b4 hr he
 go_wp2_with (first
  |(refine alloc_piece rfl rfl ?_;intro w5 b2 e5 p5 l5 z5)
  |(refine store_piece (r:=zeroR) rfl (.tmp 4) (.tmp 29) rfl rfl rfl p5 ?_;intro w6 p6 l6 z6;have L6:=hid (two_new l5 l6 e5);have P6:=hid (P4.out.below L6.out))
  |(refine store_piece (r:=zeroR) rfl (.tmp 2) (.tmp 33) rfl rfl rfl P6.out ?_;intro w7 p7 l7 z7))
 refine end_piece2 rfl rfl p7 rfl ?_
 exact⟨beside_fresh ((Beside.of (b:=b) l1).trans (beside_onto B4.out L6.out)) l7 (by omega),HE.out,rfl,_,(H4.out.below L6.out).beside l7 hne.symm⟩
theorem brackets_open (h:Reader w b s at_ deep) (hat:at_<s.size) (hs:s.size≤900) (hd:deep<64) {p:Piece}
    (hC: ∀w b,Reader w b s (at_+1) (deep+1)→Calls Tryz.prog 42 #[.pointer (some ⟨b,0,none⟩)] w (Reads b s (deep+1) w (.ok p s.size))):
    Calls Tryz.prog 111 #[.pointer (some ⟨b,0,none⟩)] w (Reads b s deep w (.bad s.size 3)):=by
 have hlt:=h.lt
 have H:=hid h
 have HC:=hid hC
 have t1:((deep:Int)==64)=false:=by simpa using (by omega: ¬(deep:Int)=64)
 have hw1:wrap64 ((at_:Int)+1)=((at_+1:Nat):Int):=by unfold wrap64;omega
 have hw2:wrap64 ((deep:Int)+1)=((deep+1:Nat):Int):=by unfold wrap64;omega
 clear h hC
 go_enter Tryz.func111,Tryz.ntmps111
 go_wp2_with (first
  |(refine alloc_piece rfl rfl ?_;intro w1 b1 e1 p1 l1 z1;have H1:=hid (H.out.below l1);have d1:=H1.out.c1;have d2:=H1.out.c2;have f1:=H1.out.free 1;have f2:=H1.out.free 2))
 have hne:b1≠b:=by omega
 have H3:=hid ((H1.out.put1 (at_+1)).put2 (deep+1))
 have B3:Hid (Beside b w1 ((w1.setCell ⟨b,1,none⟩ (.int .i64 ((at_+1:Nat):Int))).setCell ⟨b,2,none⟩ (.int .i64 ((deep+1:Nat):Int)))):=(beside_put _ _ _ _).trans (beside_put _ _ _ _)
 refine(HC.out _ _ H3.out).mono ?_
 rintro e w4 ⟨b4,r,rfl,hr,hp⟩
 have B4:=hid (B3.out.trans b4)
 have P4:=hid (PBox.beside p1 B4.out hne)
 have H4:=hid hr
 have hz:=B4.out.size
 clear b4 hr hp
 go_wp2_with (first
  |(refine alloc_piece rfl rfl ?_;intro w5 b2 e5 p5 l5 z5)
  |(refine store_piece (r:=r) rfl (.tmp 4) (.tmp 29) rfl rfl rfl p5 ?_;intro w6 p6 l6 z6;have L6:=hid (two_new l5 l6 e5);have P6:=hid (P4.out.below L6.out);have H6:=hid (H4.out.below L6.out);have k0:=H6.out.c0;have k1:=H6.out.c1))
 go_quiet (fail)
 have P7:Hid (PBox (w6.drewN nq) b1 zeroR):=P6
 have H7:Hid (Reader (w6.drewN nq) b s s.size (deep+1)):=H6
 have B7:Hid (Beside b w (w6.drewN nq)):=beside_onto ((Beside.of (b:=b) l1).trans (beside_onto B4.out L6.out)) (below_draws w6 nq)
 go_wp2_with (first
  |(refine store_piece (r:=zeroR) rfl (.tmp 2) (.tmp 45) rfl rfl rfl P7.out ?_;intro w8 p8 l8 z8))
 refine end_piece2 rfl rfl p8 rfl ?_
 exact⟨beside_fresh B7.out l8 (by omega),by decide,rfl,_,H7.out.beside l8 hne.symm⟩
theorem brackets_ok (h:Reader w b s at_ deep) (hat:at_<s.size) (hs:s.size≤900) (hd:deep<64) {p:Piece} {to:Nat} (hto:to<s.size)
    (hC: ∀w b,Reader w b s (at_+1) (deep+1)→Calls Tryz.prog 42 #[.pointer (some ⟨b,0,none⟩)] w (Reads b s (deep+1) w (.ok p to))):
    Calls Tryz.prog 111 #[.pointer (some ⟨b,0,none⟩)] w (Reads b s deep w (.ok p (to+1))):=by
 have hlt:=h.lt
 have H:=hid h
 have HC:=hid hC
 have t1:((deep:Int)==64)=false:=by simpa using (by omega: ¬(deep:Int)=64)
 have t2:((to:Int)==(s.size:Int))=false:=int_no (by omega)
 have hw1:wrap64 ((at_:Int)+1)=((at_+1:Nat):Int):=by unfold wrap64;omega
 have hw2:wrap64 ((deep:Int)+1)=((deep+1:Nat):Int):=by unfold wrap64;omega
 have hw3:wrap64 ((to:Int)+1)=((to+1:Nat):Int):=by unfold wrap64;omega
 have hw4:wrap64 (((deep+1:Nat):Int)-1)=(deep:Int):=by unfold wrap64;omega
 clear h hC
 go_enter Tryz.func111,Tryz.ntmps111
 go_wp2_with (first
  |(refine alloc_piece rfl rfl ?_;intro w1 b1 e1 p1 l1 z1;have H1:=hid (H.out.below l1);have d1:=H1.out.c1;have d2:=H1.out.c2;have f1:=H1.out.free 1;have f2:=H1.out.free 2))
 have hne:b1≠b:=by omega
 have H3:=hid ((H1.out.put1 (at_+1)).put2 (deep+1))
 have B3:Hid (Beside b w1 ((w1.setCell ⟨b,1,none⟩ (.int .i64 ((at_+1:Nat):Int))).setCell ⟨b,2,none⟩ (.int .i64 ((deep+1:Nat):Int)))):=(beside_put _ _ _ _).trans (beside_put _ _ _ _)
 refine(HC.out _ _ H3.out).mono ?_
 rintro e w4 ⟨b4,r,rfl,hr,hp⟩
 have B4:=hid (B3.out.trans b4)
 have P4:=hid (PBox.beside p1 B4.out hne)
 have H4:=hid hr
 rw[World.size_setCell,World.size_setCell]at hp
 have A4:=hid hp
 have hz:=B4.out.size
 clear b4 hr hp
 go_wp2_with (first
  |(refine alloc_piece rfl rfl ?_;intro w5 b2 e5 p5 l5 z5)
  |(refine store_piece (r:=r) rfl (.tmp 4) (.tmp 29) rfl rfl rfl p5 ?_;intro w6 p6 l6 z6;have L6:=hid (two_new l5 l6 e5);have P6:=hid (P4.out.below L6.out);have H6:=hid (H4.out.below L6.out);have A6:=hid (A4.out.by_below L6.out);have k0:=H6.out.c0;have k1:=H6.out.c1))
 go_quiet (fail)
 have P7:Hid (PBox (w6.drewN nq) b1 zeroR):=P6
 have Q7:Hid (PBox (w6.drewN nq) b2 r):=p6
 have H7:Hid (Reader (w6.drewN nq) b s to (deep+1)):=H6
 have A7:Hid (PAt (In w1.heap.size (w6.drewN nq).heap.size) (w6.drewN nq) r p):=A6.out.keep (fun _ h=>h) (fun _ _=>rfl)
 have B7:Hid (Beside b w (w6.drewN nq)):=beside_onto ((Beside.of (b:=b) l1).trans (beside_onto B4.out L6.out)) (below_draws w6 nq)
 have hz7:w4.heap.size≤(w6.drewN nq).heap.size:=L6.out.size
 clear P6 H6 A6 p6 k0 k1
 generalize w6.drewN nq=w7 at*
 have k1:=H7.out.c1
 have k2:=H7.out.c2
 have g1:=H7.out.free 1
 have g2:=H7.out.free 2
 have B8:Hid (Beside b w7 ((w7.setCell ⟨b,1,none⟩ (.int .i64 ((to+1:Nat):Int))).setCell ⟨b,2,none⟩ (.int .i64 (deep:Int)))):=(beside_put _ _ _ _).trans (beside_put _ _ _ _)
 have H8:=hid ((H7.out.put1 (to+1)).put2 deep)
 go_wp2_with (first
  |(refine load_piece rfl (.tmp 4) rfl rfl (Q7.out.beside B8.out (by omega)) ?_)
  |(refine store_piece (r:=r) rfl (.tmp 2) (.tmp 60) rfl rfl rfl (P7.out.beside B8.out hne) ?_;intro w8 p8 l8 z8))
 refine end_piece2 rfl rfl p8 rfl ?_
 exact⟨beside_fresh (B7.out.trans B8.out) l8 (by omega),_,rfl,H8.out.beside l8 hne.symm,((A7.out.by_beside B8.out (by omega)).by_beside l8 (by omega)).by_less l1.size⟩
theorem brackets_any {R:Nat→Nat→Option Got} (hR:PatOk s R (at_+1)) (hat:at_<s.size) (hs:s.size≤900) (hd:deep≤64) (h:Reader w b s at_ deep):
    Calls Tryz.prog 111 #[.pointer (some ⟨b,0,none⟩)] w (Reads b s deep w (bracketsR R s.data.toList at_ deep)):=by
 have hlen:s.data.toList.length=s.size:=(Lib.size_eq s).symm
 unfold bracketsR
 by_cases h64:deep=64
 ·subst h64
  rw[if_pos rfl];exact brackets_deep h
 ·rw[if_neg h64]
  obtain⟨g,e,hf,hc⟩:=hR (at_+1) (deep+1) (Nat.le_refl _) hat (by omega)
  rw[fix_deep (by omega)]at hc
  rw[e]
  match g,hf,hc with
  | .bad q er,hf,hc=>exact brackets_bad h hat hs (by omega) hc
  | .ok p to,hf,hc=>
   simp only
   have h2:=hf.2.1
   by_cases ht:to=s.data.toList.length
   ·rw[if_pos ht,hlen]
    rw[hlen]at ht
    subst ht
    exact brackets_open h hat hs (by omega) hc
   ·rw[if_neg ht]
    exact brackets_ok h hat hs (by omega) (by omega) hc
end
end W14
namespace M15
open Go M14
theorem seqs_snoc {ks:List Piece}: ∀(l:List Piece) (p:Piece) (a:Nat),(∀q,q∈l→q∈ks)→(∀q,q∈ks→ ∀a,(steps q a).length=size q)→seqs (l++ [p]) a=seqs l a++steps p (a+sizes l)
 | [],p,a,_,_=>by simp[seqs,sizes]
 |q::l,p,a,hm,hs=>by
  rw[List.cons_append,seqs,seqs,seqs_snoc l p (a+size q) (fun r hr=>hm r (by simp[hr])) hs,List.append_assoc]
  rw[show sizes (q::l)=size q+sizes l by simp only[sizes],Nat.add_assoc]
theorem sizes_take_le (ks:List Piece) (i:Nat):sizes (ks.take i)≤sizes ks:=by
 have:=sizes_append (ks.take i) (ks.drop i)
 rw[List.take_append_drop]at this
 omega
theorem sizes_next {ks:List Piece} {i:Nat} (hi:i<ks.length):sizes (ks.take (i+1))=sizes (ks.take i)+size ks[i]:=by
 rw[List.take_succ_eq_append_getElem hi,sizes_append]
 simp only[sizes,Nat.add_zero]
theorem seqs_next {ks:List Piece} (hs: ∀q,q∈ks→ ∀a,(steps q a).length=size q) {i:Nat} (hi:i<ks.length) (a:Nat):seqs (ks.take (i+1)) a=seqs (ks.take i) a++steps ks[i] (a+sizes (ks.take i)):=by
 rw[List.take_succ_eq_append_getElem hi]
 exact seqs_snoc _ _ _ (fun q hq=>List.mem_of_mem_take hq) hs
theorem seqs_take_len {ks:List Piece} (hs: ∀q,q∈ks→ ∀a,(steps q a).length=size q) (i a:Nat):(seqs (ks.take i) a).length=sizes (ks.take i):=seqs_len (fun q hq=>hs q (List.mem_of_mem_take hq)) a
end M15
namespace W15
open Strs Recs M15
open M14 (Piece size sizes)
open W14 (Raw Raws rawA rawC PAt PAll PBox below_new cell_block own_same own_form box_arg load_piece run_load_op load_at alloc_piece store_piece two_new raws_keep)
open Row256 (Beside)
open Kit (below_draws on)
def KidsU (b:Nat) (w:World) (A:Option Addr) (c:Nat) (raws:List Raw) (ks:List Piece):Prop:=
 (∃B,Raws B w (.slice A ks.length c) raws)∧(∀ad,A=some ad→0<raws.length→ad.block<b)∧PAll (fun k=>k<b) w raws ks
section
variable {w w':World} {b:Nat} {A:Option Addr} {c:Nat} {raws:List Raw} {ks:List Piece}
theorem parts_under {r:Raw} {k:Int} {t:ByteArray} {l tp:Int} (h:PAt (fun k=>k<b) w r (.mk k t ks l tp)): ∃A c raws,r=⟨k,t,A,ks.length,c,l,tp⟩∧KidsU b w A c raws ks:=by
 cases h with
 |mk _ _ A n c _ _ raws _ B h hX hl hk=>
  have hn:n=ks.length:=by
   obtain⟨A',c',e,-⟩:=h
   injection e with e1 e2 e3
   omega
  subst hn
  exact⟨A,c,raws,rfl,⟨B,h⟩,hX,hl,hk⟩
theorem KidsU.keep (h:KidsU b w A c raws ks) (hk: ∀k,k<b→w'.heap[k]? =w.heap[k]?):KidsU b w' A c raws ks:=by
 obtain⟨⟨B,h1⟩,h2,h3⟩:=h
 exact⟨⟨B,raws_keep h1 fun ad e hn p hp=>cell_block (hk _ (by rw[hp];exact h2 ad e hn))⟩,h2,h3.keep (fun _ q=>q) fun _ q=>cell_block (hk _ q)⟩
theorem KidsU.kids (h:KidsU b w A c raws ks) (hb:b≤w.heap.size):W14.Kids w A c raws ks:=
 ⟨h.1,fun ad e hn=>Nat.lt_of_lt_of_le (h.2.1 ad e hn) hb,h.2.2.keep (fun _ q=>Nat.lt_of_lt_of_le q hb) fun _ _=>rfl⟩
theorem KidsU.kid (h:KidsU b w A c raws ks) {i:Nat} (hi:i<ks.length): ∃hr:i<raws.length,PAt (fun k=>k<b) w raws[i] ks[i]:=by
 obtain⟨-,-,h3,h4⟩:=h
 exact⟨by omega,h4 i (by omega) hi⟩
theorem KidsU.grow {v v':Value} {L:List Inst} (h:KidsU b w A c raws ks) (hl:Lay w b v L) (hg:Grow b v v' w w'):KidsU b w' A c raws ks:=h.keep fun _ q=>hg.keeps hl q
theorem KidsU.below (h:KidsU b w A c raws ks) (hb:b<w.heap.size) (hg:Below w.heap.size w w'):KidsU b w' A c raws ks:=h.keep fun _ q=>hg.block _ (Nat.lt_trans q hb)
end
def LayOk (p:Piece):Prop:= ∀(w:World) (b:Nat) (v:Value) (L:List Inst) (r:Raw),Lay w b v L→PAt (fun k=>k<b) w r p→L.length+size p≤4000→
 Calls Tryz.prog 47 #[.pointer (some ⟨b,0,none⟩),.agg (rawA r)] w (Laid b v w (L++steps p L.length))
theorem seq_any {ks:List Piece} (IH: ∀i (hi:i<ks.length),LayOk ks[i]) (hs: ∀q,q∈ks→ ∀a,(steps q a).length=size q) {w:World} {b:Nat} {v:Value} {L:List Inst} {k:Int} {t:ByteArray} {A:Option Addr} {c:Nat} {m tp:Int} {raws:List Raw} (h:Lay w b v L) (k1:KidsU b w A c raws ks) (hl:L.length+sizes ks≤4000):
    Calls Tryz.prog 67 #[.pointer (some ⟨b,0,none⟩),.agg (rawA ⟨k,t,A,ks.length,c,m,tp⟩)] w (Laid b v w (L++seqs ks L.length)):=by
 have H:=hid h
 have HI:=hid IH
 have HS:=hid hs
 have K1:=hid k1
 have HR:=hid (k1.kids (Nat.le_of_lt h.box.lt)).room
 have HL:=hid hl
 have hr1:=HR.out.1
 have hr2:=HR.out.2
 clear h IH hs k1 hl
 go_enter Tryz.func67,Tryz.ntmps67
 go_wp2_with (first
  |(refine box_arg (r:=⟨k,t,A,ks.length,c,m,tp⟩) rfl (.tmp 1) rfl rfl ?_;intro w1 b1 e1 p1 l1 z1;have a2:=p1.c2;have L1:=hid l1;clear e1 p1 l1 z1;simp only at a2))
 have H1:=hid (H.out.below L1.out)
 have K2:=hid (K1.out.below H.out.box.lt L1.out)
 clear a2 hr1 hr2
 go_loopg [9] ks.length (fun gk s9 wr=> ∃(i:Nat) (v1:Value),s9= .int .i64 i∧Hid (i+gk=ks.length)∧Hid (Lay wr b v1 (L++seqs (ks.take i) L.length))∧Hid (KidsU b wr A c raws ks)∧Hid (Grow b v v1 w wr))
 case atStart=>exact⟨0,v,rfl,by unfold Hid;omega,by unfold Hid;simp only[List.take_zero,seqs,List.append_nil];exact H1.out,K2,Grow.of L1.out⟩
 case round=>
  obtain⟨i,v1,rfl,hig,HL1,KK,GG⟩:=hrel
  have hn1:=HR.out.1
  have hn2:=HR.out.2
  by_cases hi:i<ks.length
  ·have ti:(i:Int)<(ks.length:Int):=by omega
   have hlt:=HL1.out.box.lt
   obtain⟨g1,o1,rfl,C1⟩:=(KK.out.kids (Nat.le_of_lt hlt)).at_ (Nat.lt_of_le_of_lt (Nat.zero_le _) hi)
   obtain⟨hr1,q1⟩:=KK.out.kid hi
   have E1:=hid (C1 i hr1)
   have Q1:=hid q1
   have HI2:=hid hi
   obtain⟨rk,hrk⟩: ∃rk,raws[i]'hr1=rk:=⟨_,rfl⟩
   rw[hrk]at E1 Q1
   have HC:Hid (∀(w:World) (v:Value),Lay w b v (L++seqs (ks.take i) L.length)→PAt (fun k=>k<b) w rk ks[i]→Calls Tryz.prog 47 #[.pointer (some ⟨b,0,none⟩),.agg (rawA rk)] w (Laid b v w (L++seqs (ks.take (i+1)) L.length))):=by
    intro w v h1 h2
    have hz:(L++seqs (ks.take i) L.length).length=L.length+sizes (ks.take i):=by rw[List.length_append,seqs_take_len HS.out]
    have:=HI.out i hi w b v _ rk h1 h2 (by have h3:=sizes_next hi;have h4:=sizes_take_le ks (i+1);have:=HL.out;omega)
    rw[hz]at this
    rw[seqs_next HS.out hi,←List.append_assoc]
    exact this
   have hwi:Hid (wrap64 ((i:Int)+1)=((i+1:Nat):Int)):=by unfold Hid wrap64;omega
   have HT:=hid hlt
   clear C1 q1 hrk hlt
   go_wp2_with (first
    |(refine load_at rfl (.tmp 11) rfl rfl (r:=rk) E1.out ?_)
    |(refine alloc_piece rfl rfl ?_;intro w3 b3 e3 p3 l3 z3)
    |(refine store_piece (r:=rk) rfl (.tmp 5) (.tmp 12) rfl rfl rfl p3 ?_;intro w4 p4 l4 z4;have L4:=hid (two_new l3 l4 e3);have P4:=hid p4;clear e3 p3 l3 z3 p4 l4 z4)
    |(refine load_piece (r:=rk) rfl (.tmp 5) rfl rfl P4.out ?_))
   have H4:=hid (HL1.out.below L4.out)
   have K4:=hid (KK.out.below HT.out L4.out)
   refine(HC.out _ _ H4.out (below_piece L4.out HT.out Q1.out)).mono ?_
   rintro e w5 ⟨rfl,v2,h5,g5⟩
   have H5:=hid h5
   have K5:=hid (K4.out.grow H4.out g5)
   have G5:=hid (GG.out.trans ((Grow.of L4.out).trans g5))
   clear h5 g5
   cases gk with
   |zero=>exact absurd hig.out (by have:=HI2.out;omega)
   |succ g=>
    go_wp2_with fail
    go_roundg g
    case measure=>omega
    case rel=>exact⟨i+1,v2,by first|rfl|exact congrArg (Value.int .i64) hwi.out,by have:=hig.out;unfold Hid;omega,H5,K5,G5⟩
  ·have ti: ¬(i:Int)<(ks.length:Int):=by omega
   have hie:i=ks.length:=by have:=hig.out;omega
   have HL2:Hid (Lay wr b v1 (L++seqs ks L.length)):=by have:=HL1.out;rw[hie,List.take_length]at this;exact this
   clear hie
   go_wp2_with fail
   go_end0
   exact⟨rfl,v1,HL2.out,GG.out⟩
end W15
namespace M15
open Go M14
def pre:List Piece→Nat→Nat→List Inst
 | [],_,_=> []
 |p::l,a,j=>split (a+1) (a+size p+2)::(steps p (a+1)++jump j::pre l (a+size p+2) j)
def spots:List Piece→Nat→List Nat
 | [],_=> []
 |p::l,a=>(a+size p+1)::spots l (a+size p+2)
def plen (l:List Piece):Nat:=sizes l+2*l.length
theorem plen_cons (p:Piece) (l:List Piece):plen (p::l)=size p+2+plen l:=by
 unfold plen
 rw[show sizes (p::l)=size p+sizes l by simp only[sizes],List.length_cons];omega
theorem pre_len {ks:List Piece} (hs: ∀q,q∈ks→ ∀a,(steps q a).length=size q) (j:Nat): ∀(l:List Piece) (a:Nat),(∀q,q∈l→q∈ks)→(pre l a j).length=plen l
 | [],a,_=>by simp[pre,plen,sizes]
 |p::l,a,hm=>by
  rw[pre,List.length_cons,List.length_append,List.length_cons,hs p (hm p (by simp)),pre_len hs j l _ (fun q hq=>hm q (by simp[hq])),plen_cons];omega
theorem pre_append (j:Nat): ∀(l m:List Piece) (a:Nat),pre (l++m) a j=pre l a j++pre m (a+plen l) j
 | [],m,a=>by simp[pre,plen,sizes]
 |p::l,m,a=>by
  rw[List.cons_append,pre,pre,pre_append j l m,plen_cons,show a+size p+2+plen l=a+(size p+2+plen l) by omega]
  simp only[List.cons_append,List.append_assoc]
theorem spots_len: ∀(l:List Piece) (a:Nat),(spots l a).length=l.length
 | [],_=>rfl
 |p::l,a=>by rw[spots,List.length_cons,List.length_cons,spots_len l]
theorem spots_append: ∀(l m:List Piece) (a:Nat),spots (l++m) a=spots l a++spots m (a+plen l)
 | [],m,a=>by simp[spots,plen,sizes]
 |p::l,m,a=>by
  rw[List.cons_append,spots,spots,spots_append l m,plen_cons,show a+size p+2+plen l=a+(size p+2+plen l) by omega];rfl
theorem alts_pre (q:Piece): ∀(l:List Piece) (a e:Nat),alts (l++ [q]) a e=pre l a e++steps q (a+plen l)
 | [],a,e=>by rw[List.nil_append,alts_1];simp[pre,plen,sizes]
 | [p],a,e=>by
  rw[List.cons_append,List.nil_append,alts_2,alts_1,plen_cons]
  simp only[pre,List.cons_append,List.append_assoc,List.nil_append]
  rw[show plen []=0 from rfl,show a+size p+2=a+(size p+2+0) by omega]
 |p::r::l,a,e=>by
  have:=alts_pre q (r::l) (a+size p+2) e
  rw[List.cons_append]at this
  rw[List.cons_append,List.cons_append,alts_2,this,plen_cons p,show a+size p+2+plen (r::l)=a+(size p+2+plen (r::l)) by omega]
  show _=(split (a+1) (a+size p+2)::(steps p (a+1)++jump e::pre (r::l) (a+size p+2) e))++_
  simp only[List.cons_append,List.append_assoc]
theorem take_one {ks:List Piece} {i n:Nat} (hi:i<n) (hn:n≤ks.length): ∃q,q∈ks∧(∃h:i<ks.length,ks[i]=q)∧(ks.take n).take (i+1)=(ks.take n).take i++ [q]∧(ks.take n).drop i=q::(ks.take n).drop (i+1):=by
 have h1:i<(ks.take n).length:=by rw[List.length_take];omega
 refine⟨(ks.take n)[i],List.mem_of_mem_take (List.getElem_mem h1),⟨by omega,(List.getElem_take).symm⟩,List.take_succ_eq_append_getElem h1,List.drop_eq_getElem_cons h1⟩
end M15
namespace W15
open Strs Recs M15
open M14 (Piece size sizes)
open W14 (cell_block own_form)
theorem own_block_same {base:Nat} {e:TypeId} {size n:Nat} {v:Value} {xs:List Value} {w w':World} (h:w.ownsRow base e size v n xs) (hk: ∀k,v.ownBlock=some k→w'.heap[k]? =w.heap[k]?):w'.ownsRow base e size v n xs:=by
 refine⟨h.1,?_⟩
 rcases h.2 with h0|⟨g,cap,cur,e1,hb,hh,rest⟩
 ·exact Or.inl h0
 ·subst e1
  exact Or.inr ⟨g,cap,cur,rfl,hb,(hk g rfl).trans hh,rest⟩
theorem own_type {base:Nat} {e:TypeId} {size n:Nat} {v:Value} {xs:List Value} {w:World} (h:w.ownsRow base e size v n xs) {k:Nat} (hk:v.ownBlock=some k): ∃cur,w.heap[k]? =some (.cells cur e (0,0)):=by
 rcases h.2 with⟨rfl,_⟩|⟨g,cap,cur,rfl,hb,hh,rest⟩
 ·cases hk
 ·cases hk
  exact⟨cur,hh⟩
theorem own_two {base base':Nat} {e e':TypeId} {size size' n n':Nat} {v v':Value} {xs xs':List Value} {w:World} (h:w.ownsRow base e size v n xs) (h':w.ownsRow base' e' size' v' n' xs') (he:e≠e') {k:Nat} (hk:v.ownBlock=some k):v'.ownBlock≠some k:=by
 intro q
 obtain⟨c,h1⟩:=own_type h hk
 obtain⟨c',h2⟩:=own_type h' q
 rw[h1]at h2
 injection h2 with h2
 injection h2 with _ h2
 exact he h2
def Nums (base:Nat) (w:World) (v:Value) (M:List Nat):Prop:=w.ownsRow base 3 1 v M.length (M.flatMap numC)
section
variable {w w':World} {b base:Nat} {v v' vj vj':Value} {L:List Inst} {M:List Nat}
theorem Nums.nil (base:Nat) (w:World):Nums base w (.slice none 0 0) []:=World.ownsRow_nil _ _ _ _
theorem Nums.below (h:Nums base w vj M) (hb:Below w.heap.size w w'):Nums base w' vj M:=own_block_same h fun k hk=>hb.block k (h.lt k hk).2
theorem Nums.apart (h:Nums base w vj M) (hl:Lay w b v L) {k:Nat} (hk:vj.ownBlock=some k):v.ownBlock≠some k:=own_two h hl.own (by decide) hk
theorem Nums.grow (h:Nums base w vj M) (hl:Lay w b v L) (hb:b<base) (hg:Grow b v v' w w'):Nums base w' vj M:=
 own_block_same h fun k hk=>hg.block k (h.lt k hk).2 (by have:=(h.lt k hk).1;omega) (h.apart hl hk)
theorem Lay.put_nums (hl:Lay w b v L) (h:Nums base w vj M) (hb:b<base) (hp:Put vj vj' w w'):Lay w' b v L:=by
 obtain⟨g1,g2,g3,g4,g5⟩:=hp.grown
 refine⟨(g5 b hl.box.lt (fun q=>by have:=(h.lt b q.symm).1;omega)).trans hl.box,own_block_same hl.own fun k hk=>g5 k (hl.own_gt k hk).2 (fun q=>h.apart hl q.symm hk)⟩
theorem Nums.recs (h:Nums base w vj M):Recs numC 1 w.heap.size w vj M:=Recs.of_own numC_len rfl h
theorem KidsU.put {A:Option Addr} {c:Nat} {raws:List W14.Raw} {ks:List Piece} (hk:KidsU b w A c raws ks) (h:Nums base w vj M) (hb:b<base) (hw:b<w.heap.size) (hp:Put vj vj' w w'):KidsU b w' A c raws ks:=by
 obtain⟨g1,g2,g3,g4,g5⟩:=hp.grown
 exact hk.keep fun k q=>g5 k (Nat.lt_trans q hw) (fun q2=>by have:=(h.lt k q2.symm).1;omega)
end
/-! a field of a step -/
theorem flat_set (x:Inst) (j:Nat) (u:Value) (y:Inst) (hj:j<4) (hy:(insC x).set j u=insC y) (X Z:List Inst):((X++x::Z).flatMap insC).set (X.length*4+j) u=(X++y::Z).flatMap insC:=by
 rw[List.flatMap_append,List.flatMap_append,List.flatMap_cons,List.flatMap_cons]
 have hl:=flat_len insC_len X
 rw[List.set_append_right _ _ (by omega),hl,show X.length*4+j-X.length*4=j by omega,List.set_append_left _ _ (by rw[insC_len];exact hj),hy]
section
variable {w:World} {b g c n:Nat} {X Z:List Inst} {x:Inst}
theorem Lay.set_ {j:Nat} {u:Value} {y:Inst} (hj:j<4) (hy:(insC x).set j u=insC y) (h:Lay w b (.slice (some ⟨g,0,none⟩) n c) (X++x::Z)):
    Lay (w.setCell ⟨g,X.length*4+j,none⟩ u) b (.slice (some ⟨g,0,none⟩) n c) (X++y::Z)∧Grow b (.slice (some ⟨g,0,none⟩) n c) (.slice (some ⟨g,0,none⟩) n c) w (w.setCell ⟨g,X.length*4+j,none⟩ u):=by
 have hgb:=(h.own_gt g rfl).1
 obtain⟨A,c',e,-,-⟩:=h.form
 injection e with e1 e2 e3
 subst e2
 have hs:=h.own.stored (X.length*4+j) u
 rw[flat_set x j u y hj hy]at hs
 refine⟨⟨(heap_setCell_other w _ b _ (show b≠g by omega)).trans h.box,?_⟩,⟨rfl,rfl,rfl,by rw[World.size_setCell];exact Nat.le_refl _,fun k _ _ e2=>heap_setCell_other w _ k _ (show k≠g from fun q=>e2 (by rw[q];rfl)),fun k hk=>Or.inl hk⟩⟩
 have hl:(X++y::Z).length=(X++x::Z).length:=by simp
 rw[hl]
 exact hs.1
theorem Lay.set2 (h:Lay w b (.slice (some ⟨g,0,none⟩) n c) (X++x::Z)) (u:Int):
    Lay (w.setCell ⟨g,X.length*4+2,none⟩ (.int .i64 u)) b (.slice (some ⟨g,0,none⟩) n c) (X++ {x with x:=u}::Z)∧Grow b (.slice (some ⟨g,0,none⟩) n c) (.slice (some ⟨g,0,none⟩) n c) w (w.setCell ⟨g,X.length*4+2,none⟩ (.int .i64 u)):=h.set_ (x:=x) (y:= {x with x:=u}) (by decide) rfl
theorem Lay.set3 (h:Lay w b (.slice (some ⟨g,0,none⟩) n c) (X++x::Z)) (u:Int):
    Lay (w.setCell ⟨g,X.length*4+3,none⟩ (.int .i64 u)) b (.slice (some ⟨g,0,none⟩) n c) (X++ {x with y:=u}::Z)∧Grow b (.slice (some ⟨g,0,none⟩) n c) (.slice (some ⟨g,0,none⟩) n c) w (w.setCell ⟨g,X.length*4+3,none⟩ (.int .i64 u)):=h.set_ (x:=x) (y:= {x with y:=u}) (by decide) rfl
theorem Lay.field {m:Nat} (h:Lay w b (.slice (some ⟨g,0,none⟩) n c) (X++x::Z)) (hm:X.length=m):w.cell? ⟨g,m*4+2,none⟩=some (.int .i64 x.x)∧w.cell? ⟨g,m*4+3,none⟩=some (.int .i64 x.y)∧ ∀j,w.frozen? ⟨g,j,none⟩=false:=by
 subst hm
 obtain⟨A,c',e,-,-⟩:=h.form
 injection e with e1 e2 e3
 subst e2
 have hl:(X++x::Z).length=X.length+Z.length+1:=by simp;omega
 have hf: ∀j,j<4→((X++x::Z).flatMap insC)[X.length*4+j]? =(insC x)[j]? :=by
  intro j hj
  have:=flat_at insC_len (X++x::Z) X.length (by omega) j hj
  rw[this]
  simp
 refine⟨?_,?_,fun j=>h.own.frozenAt j⟩
 ·rw[h.own.cellAt _ (by omega),hf 2 (by decide)];rfl
 ·rw[h.own.cellAt _ (by omega),hf 3 (by decide)];rfl
end
end W15
namespace Range
structure Turns (T:Nat→Prop) (A B:World):Prop where
 os:B.os=A.os
 tape:B.tape=A.tape
 output:B.output=A.output
 size:A.heap.size≤B.heap.size
 block: ∀k,k<A.heap.size→ ¬T k→B.heap[k]? =A.heap[k]?
section
variable {T T':Nat→Prop} {A B C:World}
theorem Turns.refl (T:Nat→Prop) (A:World):Turns T A A:=⟨rfl,rfl,rfl,Nat.le_refl _,fun _ _ _=>rfl⟩
theorem Turns.trans (h:Turns T A B) (k:Turns T B C):Turns T A C:=
 ⟨k.os.trans h.os,k.tape.trans h.tape,k.output.trans h.output,Nat.le_trans h.size k.size,fun i hi ht=>(k.block i (Nat.lt_of_lt_of_le hi h.size) ht).trans (h.block i hi ht)⟩
theorem Turns.wider (h:Turns T A B) (hs: ∀k,T k→T' k):Turns T' A B:=⟨h.os,h.tape,h.output,h.size,fun i hi ht=>h.block i hi (fun e=>ht (hs i e))⟩
theorem Turns.of_grown {row:Option Nat} (h:A.grownBy B row) (hr: ∀r,row=some r→T r):Turns T A B:=
 ⟨h.os,h.tape,h.output,h.size,fun i hi ht=>h.block i hi (fun e=>ht (hr i e.symm))⟩
theorem Turns.of_below {n:Nat} (h:Below n A B) (hs: ∀k,n≤k→k<A.heap.size→T k):Turns T A B:=
 ⟨h.os,h.tape,h.output,h.size,fun i hi ht=>h.block i (by
  rcases Nat.lt_or_ge i n with hlt|hge
  ·exact hlt
  ·exact absurd (hs i hge hi) ht)⟩
theorem Turns.new (h:Below A.heap.size A B):Turns T A B:=Turns.of_below h (fun k h1 h2=>absurd h1 (by omega))
theorem Turns.alloc (T:Nat→Prop) (A:World) (o:Obj):Turns T A (A.alloc o):=Turns.of_grown (World.grownBy_alloc A o none) (fun r e=>by cases e)
theorem Turns.putObj {r:Nat} (o:Obj) (h:T r):Turns T A (A.putObj r o):=Turns.of_grown (grownBy_putObj' A r o) (fun k e=>by cases e;exact h)
theorem grown_set (A:World) (a:Addr) (v:Value):A.grownBy (A.setCell a v) (some a.block):=
 ⟨rfl,rfl,rfl,(KeepsWalks.setCell A a v).size,fun k _ hk=>Below.heap_setCell _ _ _ k (fun e=>hk (by rw[e]))⟩
theorem Turns.setCell {a:Addr} (v:Value) (h:T a.block):Turns T A (A.setCell a v):=Turns.of_grown (grown_set A a v) (fun k e=>by cases e;exact h)
theorem Turns.draw (T:Nat→Prop) (A:World) (n:Nat):Turns T A (A.drewN n):=⟨rfl,rfl,rfl,Nat.le_refl _,fun _ _ _=>rfl⟩
theorem Turns.below {n:Nat} (h:Turns T A B) (hs: ∀k,T k→n≤k) (hn:n≤A.heap.size):Below n A B:=
 ⟨h.os,h.tape,h.output,h.size,fun i hi=>h.block i (by omega) (fun e=>by have:=hs i e;omega)⟩
theorem Turns.keeps {k:Nat} {o:Obj} (h:Turns T A B) (hk:A.heap[k]? =some o) (ht: ¬T k):B.heap[k]? =some o:=
 (h.block k (Array.getElem?_eq_some_iff.1 hk).1 ht).trans hk
theorem Turns.cell {a:Addr} {v:Value} (h:Turns T A B) (hc:A.cell? a=some v) (ht: ¬T a.block):B.cell? a=some v:=
 (World.cell?_of_block (h.block _ (World.block_lt_of_cell? A a hc) ht)).trans hc
theorem Turns.frozen {a:Addr} {v:Value} (h:Turns T A B) (hc:A.cell? a=some v) (ht: ¬T a.block):B.frozen? a=A.frozen? a:=
 World.frozen?_of_block (h.block _ (World.block_lt_of_cell? A a hc) ht)
theorem Turns.row {base:Nat} {e:TypeId} {size n:Nat} {v:Value} {xs:List Value} (h:Turns T A B) (hr:A.ownsRow base e size v n xs) (ht: ∀k,base≤k→ ¬T k):B.ownsRow base e size v n xs:=by
 refine⟨hr.1,?_⟩
 rcases hr.2 with h0|⟨g,cap,cur,e1,hb,hh,rest⟩
 ·exact Or.inl h0
 ·exact Or.inr ⟨g,cap,cur,e1,hb,h.keeps hh (ht g hb),rest⟩
end
theorem round_wide {P:Program} {l f:Nat} {tmps:Array Value} {assign body:Code} {w:World} {R:Ending→World→Prop} {n:Nat} (m:Nat) (h:RoundIn Fence.wide n P l f tmps assign body w R):RoundIn Fence.wide m P l f tmps assign body w R:=
 ⟨trivial,fun c cs _=>h.2 c cs (room_wide _)⟩
end Range
namespace Range
def Fresh (T:Nat→Prop) (A B:World) (k:Nat):Prop:=T k∨(A.heap.size≤k∧k<B.heap.size)
def Lies (base:Nat) (T:Nat→Prop) (W:World):Prop:= ∀k,T k→base≤k∧k<W.heap.size
def Steady {α:Type} (base:Nat) (J:(Nat→Prop)→List α→World→Prop):Prop:= ∀T s A B,J T s A→Lies base T A→base≤A.heap.size→Turns T A B→J (Fresh T A B) s B
theorem set_ext {T T':Nat→Prop} (h: ∀k,T k↔T' k):T=T':=funext fun k=>propext (h k)
theorem Lies.fresh {base:Nat} {T:Nat→Prop} {A B:World} (h:Lies base T A) (hb:base≤A.heap.size) (hs:A.heap.size≤B.heap.size):Lies base (Fresh T A B) B:=by
 intro k hk
 rcases hk with hk|⟨h1,h2⟩
 ·have:=h k hk;exact⟨this.1,by omega⟩
 ·exact⟨by omega,h2⟩
theorem Lies.more {base:Nat} {T:Nat→Prop} {A B:World} (h:Lies base T A) (hs:A.heap.size≤B.heap.size):Lies base T B:=fun k hk=>by have:=h k hk;exact⟨this.1,by omega⟩
end Range
namespace Range
def YieldsN (P:Program) (l:Nat) (vs:Array Value) (W:World) (R:Ending→World→Prop):Prop:=
 ∃fn tmps assign body,(Instr.yield l vs).run P W= .ok (.round l fn tmps assign body) W∧RoundIn Fence.wide 9 P l fn tmps assign body W R
def SeqH {α:Type} (P:Program) (g:Nat) (lb:Array Value) (enc:α→Array Value) (base:Nat) (O:Nat→Prop) (xs:List α) (w0:World):Prop:=
 ∀(l:Nat) (J Jx:(Nat→Prop)→List α→World→Prop) (T:Nat→Prop) (W:World),(∀k,k<base∨O k→W.heap[k]? =w0.heap[k]?)→w0.heap.size≤W.heap.size→
  Steady base J→Steady base Jx→Lies base T W→(∀k,O k→T k)→base≤W.heap.size→
  (∀T pre x W1,J T pre W1→Lies base T W1→pre++ [x]<+:xs→YieldsN P l (enc x) W1 fun e W'=>Turns (fun k=>base≤k∧ ¬T k) W1 W'∧((e= .returned (.bool true)∧J T (pre++ [x]) W')∨(e= .returned (.bool false)∧Jx T (pre++ [x]) W')))→
  J T [] W→
  Calls P g (#[.func (.yield l) #[] #[]]++lb) W fun e W'=>(∃v,e= .returned v)∧Turns (fun k=>base≤k) W W'∧ ∃T',Lies base T' W'∧(∀k,T k→T' k)∧(J T' xs W'∨ ∃pre,pre<+:xs∧Jx T' pre W')
def roundH {α:Type} (base:Nat) (T:Nat→Prop) (I:(Nat→Prop)→List α→World→Prop) (Ix:Code→(Nat→Prop)→List α→World→Prop) (xs:List α) (W:World):Exit→Act→World→Prop
 | .normal,_,W'=>Turns (fun k=>base≤k∧ ¬T k) W W'∧I T xs W'
 | .ret,_,W'=>Turns (fun k=>base≤k∧ ¬T k) W W'∧Ix .ret T xs W'
 | .exit id,_,W'=>Turns (fun k=>base≤k∧ ¬T k) W W'∧Ix (.exit id) T xs W'
 | .goto t,_,W'=>Turns (fun k=>base≤k∧ ¬T k) W W'∧Ix (.goto t) T xs W'
 | .panic _,_,_=>False
 | .outgrown,_,_=>False
theorem wp_rangeH {α:Type} {P:Program} {n:Nat} {g:Operand} {ps:Array Tmp} {assign body:Code} {Q:Exit→Act→World→Prop} {a:Act} {w:World}
    {gf:Nat} {lb:Array Value} (hg:a.eval g= .func (.func gf) #[] lb) (eg: ∀args w,(callFunc gf args).run P w= .ok (.enter gf args) w)
    {enc:α→Array Value} {base:Nat} {O:Nat→Prop} {xs:List α} (hseq:SeqH P gf lb enc base O xs w) (hO:Lies base O w) (hbase:base≤w.heap.size) (hps: ∀x,(enc x).size=ps.size)
    (I:(Nat→Prop)→List α→World→Prop) (Ix:Code→(Nat→Prop)→List α→World→Prop) (hI:Steady base I) (hIx: ∀c,Steady base (Ix c)) (h0:I O [] w) (a₁:α→Act)
    (hassign: ∀(l:Nat) (x:α) (W:World) (K:Act→World→Prop),K (a₁ x) W→
     assign.wpIn (Fence.wide.inRound l) 9 P (Exit.then K (fun _ _ _=>False)) {tmps:=(ps.zip (enc x)).foldl (fun t (p,v)=>t.setIfInBounds p v) a.tmps,defers:= []} W)
    (hbody: ∀(l:Nat) (T:Nat→Prop) (pre:List α) (x:α) (W:World),I T pre W→Lies base T W→w.heap.size+2≤W.heap.size→pre++ [x]<+:xs→body.wpIn (Fence.wide.inRound l) 9 P (roundH base T I Ix (pre++ [x]) W) (a₁ x) W)
    (hdone: ∀(T:Nat→Prop) (W:World),I T xs W→Lies base T W→(∀k,O k→T k)→T w.heap.size→W.heap[w.heap.size]? =some (.deferred (some []))→Turns (fun k=>base≤k) w W→Q .normal {a with defers:= {target:= .collected w.heap.size,args:= #[]}::a.defers} W)
    (hstop: ∀(c:Code) (T:Nat→Prop) (pre:List α) (W:World),pre<+:xs→Ix c T pre W→Lies base T W→(∀k,O k→T k)→T w.heap.size→W.heap[w.heap.size]? =some (.deferred (some []))→Turns (fun k=>base≤k) w W→c.wpIn Fence.wide n P Q {a with defers:= {target:= .collected w.heap.size,args:= #[]}::a.defers} W):
    (Code.rangeFunc g ps assign body).wpIn Fence.wide n P Q a w:=by
 refine wpIn_rangeFunc ?_
 intro fn hfn
 show∃(l:Nat) (mark:List Deferred) (w₁:World) (d:Deferred) (w₁':World) (f:FuncId) (args:Array Value) (w₂:World),
     (Instr.enterLoop fn a.tmps ps assign body none).run P w= .ok (l,mark) w₁∧_
 obtain⟨rc,hrc⟩: ∃rc:LoopState→Option Code→Loop,rc=fun st pe=> {state:=st,pending:=pe,fn,tmps:=a.tmps,params:=ps,assign,body,defers:=w.heap.size}:=⟨_,rfl⟩
 obtain⟨W1,hW1⟩: ∃W1,(w.alloc (.deferred (some []))).alloc (.loop (rc .ready none))=W1:=⟨_,rfl⟩
 have hs1:W1.heap.size=w.heap.size+2:=by rw[←hW1];simp
 have hL1:W1.heap[w.heap.size+1]? =some (.loop (rc .ready none)):=by
  rw[←hW1];have:=World.alloc_heap_new (w.alloc (.deferred (some []))) (.loop (rc .ready none));rwa[World.size_alloc]at this
 have hK1:W1.heap[w.heap.size]? =some (.deferred (some [])):=by
  rw[←hW1];exact(Below.heap_alloc _ _ _ (by simp)).trans (World.alloc_heap_new w _)
 have ht1: ∀T,Turns T w W1:=fun T=>by rw[←hW1];exact(Turns.alloc T _ _).trans (Turns.alloc T _ _)
 -- the statement's two blocks
 obtain⟨S,hS⟩: ∃S:(Nat→Prop)→Nat→Prop,S=fun T k=>T k∨k=w.heap.size∨k=w.heap.size+1:=⟨_,rfl⟩
 have hSin: ∀T k,S T k↔(T k∨k=w.heap.size∨k=w.heap.size+1):=fun T k=>by rw[hS]
 have hI1:I (S O) [] W1:=by
  have:=hI _ _ _ _ h0 hO hbase (ht1 O)
  have e:Fresh O w W1=S O:=set_ext fun k=>by
   rw[hSin]
   unfold Fresh
   rw[hs1]
   constructor
   ·rintro(h|h)
    ·exact Or.inl h
    ·exact Or.inr (by omega)
   ·rintro(h|h)
    ·exact Or.inl h
    ·exact Or.inr (by omega)
  rwa[e]at this
 have hstay: ∀(J:(Nat→Prop)→List α→World→Prop),Steady base J→ ∀(T:Nat→Prop) (A:World) (o:Obj) s,J (S T) s A→Lies base (S T) A→base≤A.heap.size→J (S T) s (A.putObj (w.heap.size+1) o):=fun J hJ T A o s h hA hb=>by
  have:=hJ _ _ _ _ h hA hb (Turns.putObj (A:=A) o ((hSin T (w.heap.size+1)).2 (Or.inr (Or.inr rfl))))
  have e:Fresh (S T) A (A.putObj (w.heap.size+1) o)=S T:=set_ext fun k=>by
   unfold Fresh
   have hz:(A.putObj (w.heap.size+1) o).heap.size=A.heap.size:=by simp
   rw[hz]
   constructor
   ·rintro(h|h)
    ·exact h
    ·omega
   ·exact Or.inl
  rwa[e]at this
 refine⟨w.heap.size+1,[{target:= .collected w.heap.size,args:= #[]}],W1,{target:= .fn (.func gf) lb,args:= #[.func (.yield (w.heap.size+1)) #[] #[]]},W1,gf,
  #[.func (.yield (w.heap.size+1)) #[] #[]]++lb,W1,?_,?_,?_,?_,fun h=>by simp[Fence.wide]at h,?_⟩
 ·rw[←hW1,hrc];exact run_enterLoop_outer _ _ _ _ _
 ·simp only[resolve,hg]
  simp[go_sem]
 ·intro f' _;trivial
 ·simp[invoke,go_sem,eg]
 ·have hkeepS: ∀(J:(Nat→Prop)→List α→World→Prop),Steady base J→ ∀(T:Nat→Prop) s A B,J (S T) s A→Lies base T A→base≤A.heap.size→w.heap.size+1<A.heap.size→Turns T A B→J (S (Fresh T A B)) s B:=fun J hJ T s A B h1 hT hbA hlA ht=>by
    have hST:Lies base (S T) A:=fun k hk=>by
     rcases(hSin T k).1 hk with hk|hk|hk
     ·exact hT k hk
     ·omega
     ·omega
    have:=hJ _ _ _ _ h1 hST hbA (ht.wider fun k hk=>(hSin T k).2 (Or.inl hk))
    rwa[set_ext (T:=Fresh (S T) A B) (T':=S (Fresh T A B)) (fun k=>by
     rw[hSin];unfold Fresh;rw[hSin]
     constructor
     ·rintro((h|h)|h)
      ·exact Or.inl (Or.inl h)
      ·exact Or.inr h
      ·exact Or.inl (Or.inr h)
     ·rintro((h|h)|h)
      ·exact Or.inl (Or.inl h)
      ·exact Or.inr h
      ·exact Or.inl (Or.inr h))]at this
  have hfr: ∀(T:Nat→Prop) (A B:World) k,k<A.heap.size→ ¬T k→ ¬Fresh T A B k:=fun T A B k hk ht h=>by
   rcases h with h|h
   ·exact ht h
   ·omega
  refine callsIn_wide.2 ((hseq (w.heap.size+1)
   (fun T pre W=>I (S T) pre W∧W.heap[w.heap.size+1]? =some (.loop (rc .ready none))∧W.heap[w.heap.size]? =some (.deferred (some []))∧ ¬T w.heap.size∧ ¬T (w.heap.size+1))
   (fun T pre W=> ∃c,Ix c (S T) pre W∧W.heap[w.heap.size+1]? =some (.loop (rc .done (some c)))∧W.heap[w.heap.size]? =some (.deferred (some []))∧ ¬T w.heap.size∧ ¬T (w.heap.size+1))
   O W1 ?_ (by omega) ?_ ?_ (hO.more (by omega)) (fun k hk=>hk) (by omega) ?_ ⟨hI1,hL1,hK1,fun h=>by have:=hO _ h;omega,fun h=>by have:=hO _ h;omega⟩).mono ?_)
  ·intro k hk
   refine(ht1 (fun _=>False)).block k ?_ id
   rcases hk with hk|hk
   ·omega
   ·exact(hO k hk).2
  ·-- what the iterator turns and lays
   rintro T s A B ⟨h1,h2,h3,h4,h5⟩ hT hbA ht
   have hlA:w.heap.size+1<A.heap.size:=(Array.getElem?_eq_some_iff.1 h2).1
   exact⟨hkeepS I hI T s A B h1 hT hbA hlA ht,ht.keeps h2 h5,ht.keeps h3 h4,hfr _ _ _ _ (by omega) h4,hfr _ _ _ _ hlA h5⟩
  ·rintro T s A B ⟨c,h1,h2,h3,h4,h5⟩ hT hbA ht
   have hlA:w.heap.size+1<A.heap.size:=(Array.getElem?_eq_some_iff.1 h2).1
   exact⟨c,hkeepS (Ix c) (hIx c) T s A B h1 hT hbA hlA ht,ht.keeps h2 h5,ht.keeps h3 h4,hfr _ _ _ _ (by omega) h4,hfr _ _ _ _ hlA h5⟩
  ·-- a round
   rintro T pre x W ⟨hi,hl,hk,n0,n1⟩ hT hpre
   have hlt:w.heap.size+1<W.heap.size:=(Array.getElem?_eq_some_iff.1 hl).1
   have hST:Lies base (S T) W:=fun k hk=>by
    rcases(hSin T k).1 hk with hk|hk|hk
    ·exact hT k hk
    ·omega
    ·omega
   have s0:S T w.heap.size:=(hSin _ _).2 (Or.inr (Or.inl rfl))
   have s1:S T (w.heap.size+1):=(hSin _ _).2 (Or.inr (Or.inr rfl))
   have hy:=run_yield (P:=P) (args:=enc x) hl (by rw[hrc];exact hps x)
   rw[hrc]at hy
   refine⟨fn,_,assign,body,hy,roundIn_of_wpIn trivial (hassign _ x W _ ⟨_,run_beginRound hl (by rw[hrc]),?_⟩)⟩
   have hl2:(W.putObj (w.heap.size+1) (.loop {rc .ready none with state:= .busy})).heap[w.heap.size+1]? =some (.loop {rc .ready none with state:= .busy}):=World.putObj_heap_same hlt
   have hk2:(W.putObj (w.heap.size+1) (.loop {rc .ready none with state:= .busy})).heap[w.heap.size]? =some (.deferred (some [])):=(World.putObj_heap_other (by omega)).trans hk
   have hw2:Turns (fun k=>base≤k∧ ¬T k) W (W.putObj (w.heap.size+1) (.loop {rc .ready none with state:= .busy})):=Turns.putObj _ ⟨by omega,n1⟩
   have hb2:Lies base (S T) (W.putObj (w.heap.size+1) (.loop {rc .ready none with state:= .busy})):=hST.more (by simp)
   refine wpIn_mono (hbody _ (S T) pre x _ (hstay I hI _ _ _ _ hi hST (by omega)) hb2 (by simp;omega) hpre) ?_
   have fin: ∀(jump:Option Code) (W3:World),Turns (fun k=>base≤k∧ ¬S T k) (W.putObj (w.heap.size+1) (.loop {rc .ready none with state:= .busy})) W3→
       (Instr.endRound (w.heap.size+1) jump).run P W3= .ok (.bool jump.isNone) (W3.putObj (w.heap.size+1) (.loop (rc (if jump.isNone then .ready else .done) jump)))∧
       (W3.putObj (w.heap.size+1) (.loop (rc (if jump.isNone then .ready else .done) jump))).heap[w.heap.size+1]? =some (.loop (rc (if jump.isNone then .ready else .done) jump))∧
       (W3.putObj (w.heap.size+1) (.loop (rc (if jump.isNone then .ready else .done) jump))).heap[w.heap.size]? =some (.deferred (some []))∧
       Turns (fun k=>base≤k∧ ¬T k) W (W3.putObj (w.heap.size+1) (.loop (rc (if jump.isNone then .ready else .done) jump)))∧Lies base (S T) W3∧base≤W3.heap.size:=fun jump W3 hk3=>by
    have hl3:=hk3.keeps hl2 (fun h=>h.2 s1)
    have hd3:=hk3.keeps hk2 (fun h=>h.2 s0)
    have hz3:=hk3.size
    have hr:=run_endRound (P:=P) jump hl3
    rw[hrc]at hr ⊢
    exact⟨hr,World.putObj_heap_same (Array.getElem?_eq_some_iff.1 hl3).1,(World.putObj_heap_other (by omega)).trans hd3,
     (hw2.trans (hk3.wider fun k h=>⟨h.1,fun h2=>h.2 ((hSin _ _).2 (Or.inl h2))⟩)).trans (Turns.putObj _ ⟨by omega,n1⟩),hb2.more hz3,by simp at hz3;omega⟩
   rintro e a3 W3 hp
   cases e with
   |normal=>
    obtain⟨hk3,hi3⟩:=hp
    obtain⟨hr,hl4,hk4,ht4,hs4,hb4⟩:=fin none W3 hk3
    exact⟨_,_,hr,ht4,.inl ⟨rfl,hstay I hI _ _ _ _ hi3 hs4 hb4,hl4,hk4,n0,n1⟩⟩
   |ret=>
    obtain⟨hk3,hi3⟩:=hp
    obtain⟨hr,hl4,hk4,ht4,hs4,hb4⟩:=fin (some .ret) W3 hk3
    exact⟨_,_,hr,ht4,.inr ⟨rfl,.ret,hstay _ (hIx _) _ _ _ _ hi3 hs4 hb4,hl4,hk4,n0,n1⟩⟩
   |exit id=>
    obtain⟨hk3,hi3⟩:=hp
    obtain⟨hr,hl4,hk4,ht4,hs4,hb4⟩:=fin (some (.exit id)) W3 hk3
    exact⟨_,_,hr,ht4,.inr ⟨rfl,.exit id,hstay _ (hIx _) _ _ _ _ hi3 hs4 hb4,hl4,hk4,n0,n1⟩⟩
   |goto t=>
    obtain⟨hk3,hi3⟩:=hp
    obtain⟨hr,hl4,hk4,ht4,hs4,hb4⟩:=fin (some (.goto t)) W3 hk3
    exact⟨_,_,hr,ht4,.inr ⟨rfl,.goto t,hstay _ (hIx _) _ _ _ _ hi3 hs4 hb4,hl4,hk4,n0,n1⟩⟩
   |panic ch=>exact hp.elim
   |outgrown=>exact hp.elim
  ·rintro e W2 ⟨⟨v,rfl⟩,htW,T',hT',hOT,hor⟩
   have s0:S T' w.heap.size:=(hSin _ _).2 (Or.inr (Or.inl rfl))
   have hOS: ∀k,O k→S T' k:=fun k hk=>(hSin _ _).2 (Or.inl (hOT k hk))
   have hz1:=htW.size
   have hST:Lies base (S T') W2:=fun k hk=>by
    rcases(hSin T' k).1 hk with hk|hk|hk
    ·exact hT' k hk
    ·omega
    ·omega
   have hend: ∀o,Turns (fun k=>base≤k) w (W2.putObj (w.heap.size+1) o):=fun o=>((ht1 _).trans htW).trans (Turns.putObj _ (by omega))
   rcases hor with⟨hi,hl,hk,n0,n1⟩|⟨pre,hpre,c,hi,hl,hk,n0,n1⟩
   ·have hr:=run_endLoop (P:=P) hl (by rw[hrc];simp)
    rw[hrc]at hr
    exact⟨none,_,hr,hdone (S T') _ (hstay I hI _ _ _ _ hi hST (by omega)) (hST.more (by simp)) hOS s0 ((World.putObj_heap_other (by omega)).trans hk) (hend _)⟩
   ·have hr:=run_endLoop (P:=P) hl (by rw[hrc];simp)
    rw[hrc]at hr
    exact⟨some c,_,hr,hstop c (S T') pre _ hpre (hstay _ (hIx c) _ _ _ _ hi hST (by omega)) (hST.more (by simp)) hOS s0 ((World.putObj_heap_other (by omega)).trans hk) (hend _)⟩
end Range
end Go.Proofs.YtehdnbidgphecaaGreatDoor
