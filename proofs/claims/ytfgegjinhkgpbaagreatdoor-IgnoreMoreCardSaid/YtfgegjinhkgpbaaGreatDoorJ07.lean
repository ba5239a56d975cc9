/-
  Texts joined, in build order, each with its own comment and its own conditions: W14Set, W14Brackets, W15Seq, W15Patch, W15Steps, W16Math.
-/
import Derived.Test.YtfgegjinhkgpbaaGreatDoorJ06
import Derived.Deep.RegionHeld3
import Derived.Test.YtfgegjinhkgpbaaGreatDoorJ03
import Derived.Deep.LoopGhost
import Derived.Test.YtfgegjinhkgpbaaGreatDoorJ04
namespace Go.Proofs.YtfgegjinhkgpbaaGreatDoor
set_option maxHeartbeats 4000000
set_option maxRecDepth 100000
open Go.RowKit
open Lib (hid)
namespace W14
open M14
open Row256 (Beside)
open Kit (ret_str ret_bool ret_int mk_of mk_bytes ba_ext below_draws on list_full list_ne list_none list_nil)
def Reads (rb:Nat) (s:ByteArray) (deep:Nat) (w:World) (g:Got) (e:Ending) (w':World):Prop:=
 Beside rb w w'∧match g with
 | .ok p to=> ∃r,e= .returned (.tuple #[.agg (rawA r),.int .i64 0])∧Reader w' rb s to deep∧PAt (In w.heap.size w'.heap.size) w' r p
 | .bad b er=>er≠0∧e= .returned (.tuple #[.agg (rawA zeroR),.int .i64 er])∧ ∃d,Reader w' rb s b d
section
variable {wr W w1:World} {b:Nat} {s:ByteArray} {at_:Nat}
def RS (wr:World) (b:Nat) (s:ByteArray) (at_:Nat) (W:World):Prop:=W.cell? ⟨b,0,none⟩=some (.string s)∧W.cell? ⟨b,1,none⟩=some (.int .i64 at_)∧Below wr.heap.size wr W
theorem rs_on (hlt:b<wr.heap.size) (h:RS wr b s at_ W) (hb:Below W.heap.size W w1):RS wr b s at_ w1:=by
 have hW:b<W.heap.size:=Nat.lt_of_lt_of_le hlt h.2.2.size
 exact⟨(hb.cell hW).trans h.1,(hb.cell hW).trans h.2.1,on h.2.2 hb⟩
theorem rs_draw (h:RS wr b s at_ W):RS wr b s at_ W.drew:=⟨h.1,h.2.1,h.2.2.drew⟩
theorem rs_below (h:RS wr b s at_ W):Below wr.heap.size wr W:=h.2.2
theorem rs_start {deep:Nat} (h:Reader wr b s at_ deep):RS wr b s at_ wr.drew:=⟨h.c0,h.c1,(Below.refl _ _).drew⟩
end
theorem set_any {w:World} {b:Nat} {s:ByteArray} {at_ deep:Nat} (h:Reader w b s at_ deep) (hat:at_<s.size) (hs:s.size≤900):
    Calls Tryz.prog 161 #[.pointer (some ⟨b,0,none⟩)] w (Reads b s deep w (if(M13.parse (s.data.toList.drop at_)).2.2≠0 then .bad at_ (M13.parse (s.data.toList.drop at_)).2.2 else .ok (leaf 4 (txt (M13.parse (s.data.toList.drop at_)).1)) (at_+(M13.parse (s.data.toList.drop at_)).2.1))):=by
 have hz:(s.extract at_ s.size).size≤4611686018427387000:=by rw[ByteArray.size_extract];omega
 have HP: ∀w,Calls Tryz.prog 170 #[.string (s.extract at_ s.size)] w (W13.Parsed w (M13.parse (s.data.toList.drop at_))):=by
  intro w
  have:=W13.parse_any hz w
  rw[Kit.drop_bytes]at this
  exact this
 have hle:=parse_le (s:=s.data.toList.drop at_)
 rw[List.length_drop,←Lib.size_eq]at hle
 obtain⟨⟨F,n,er⟩,hR⟩: ∃R,M13.parse (s.data.toList.drop at_)=R:=⟨_,rfl⟩
 rw[hR]at HP hle ⊢
 simp only at hle ⊢
 obtain⟨g,hg⟩: ∃g,(if er≠0 then Got.bad at_ er else .ok (leaf 4 (txt F)) (at_+n))=g:=⟨_,rfl⟩
 rw[hg]
 have HG:=hid hg
 have HH:=hid HP
 have hlt:=h.lt
 have H:=hid h
 have h1:(at_:Int)≤(s.size:Int):=by omega
 have HL:=hid hle
 clear hR HP h hz hle hg
 go_enter Tryz.func161,Tryz.ntmps161
 go_wp2_with (first|(refine alloc_piece rfl rfl ?_;intro w1 b1 e1 p1 l1 z1))
 have H1:=hid (H.out.below l1)
 have P1:=hid p1
 have L1:=hid l1
 have hlt1:=H1.out.lt
 have d0:=H1.out.c0
 have d1:=H1.out.c1
 clear p1 l1
 go_region_held3 (fun w'=>w'.cell? ⟨b,0,none⟩=some (.string s)∧w'.cell? ⟨b,1,none⟩=some (.int .i64 at_)∧Below w1.heap.size w1 w')
  (first|exact rs_on hlt1 (by assumption) hb2|exact rs_start H1.out|exact rs_draw (by assumption)|go_keep)
  (first|(go_at_call 170;refine(HH.out _).mono ?_;rintro e w2 ⟨rfl,hb2⟩))
 have hS:RS w1 b s at_ w2:=by assumption
 have H2:=hid (H1.out.below (rs_below hS))
 have P2:=hid (P1.out.below (rs_below hS))
 have L2:=hid (L1.out.trans ((rs_below hS).mono L1.out.size))
 have hne:b1≠b:=by omega
 clear hS
 by_cases he:er=0
 ·have te:(er !=0)=false:=by rw[he];rfl
  have HG2:Hid (g= .ok (leaf 4 (txt F)) (at_+n)):=by
   unfold Hid
   rw[←HG.out,if_neg (by simpa using he)]
  have hw:wrap64 ((at_:Int)+(n:Int))=((at_+n:Nat):Int):=by have:=HL.out he;unfold wrap64;omega
  have f1:=H2.out.free 1
  have c1:=H2.out.c1
  clear he
  go_wp2_with (first|(refine store_piece (r:=⟨4,W13.tx F,none,0,0,0,0⟩) rfl _ _ rfl rfl rfl (PBox.beside P2.out (beside_put _ _ _ _) hne) ?_;intro w4 p4 l4 z4))
  refine end_piece2 rfl rfl p4 rfl ?_
  have B:=beside_fresh ((Beside.of (b:=b) L2.out).trans (beside_put w2 b 1 (.int .i64 ((at_+n:Nat):Int)))) l4 (by omega)
  rw[HG2.out]
  exact⟨B,_,rfl,(H2.out.put1 (at_+n)).beside l4 hne.symm,PAt.leaf _ _ 4 _⟩
 ·have te:(er !=0)=true:=by simpa using he
  have HG2:Hid (g= .bad at_ er):=by
   unfold Hid
   rw[←HG.out,if_pos he]
  have HE:=hid he
  clear he
  go_wp2_with (first|(refine store_piece (r:=zeroR) rfl _ _ rfl rfl rfl P2.out ?_;intro w4 p4 l4 z4))
  refine end_piece2 rfl rfl p4 rfl ?_
  rw[HG2.out]
  exact⟨beside_fresh (Beside.of (b:=b) L2.out) l4 (by omega),HE.out,rfl,_,H2.out.beside l4 hne.symm⟩
theorem getD_at {s:ByteArray} {i:Nat} (h:i<s.size):s.data.toList.getD i 0=s[i]:=Kit.byte_get s i h
theorem chr_at {s:ByteArray} {i:Nat} (h:i<s.size):(s.extract i s.size).extract 0 1=chr s[i]:=by
 apply ba_ext
 rw[Kit.take_bytes,Kit.drop_bytes,Kit.drop_next s i h]
 rfl
def escapedR (S:List UInt8) (at_:Nat):Got:=
 if at_+1=S.length then .bad at_ 3
 else if M13.letter (S.getD (at_+1) 0)then .ok (leaf 4 (txt (M13.namedF (S.getD (at_+1) 0)))) (at_+2)
 else .ok (leaf 2 (chr (S.getD (at_+1) 0))) (at_+2)
theorem escaped_any {w:World} {b:Nat} {s:ByteArray} {at_ deep:Nat} (h:Reader w b s at_ deep) (hat:at_<s.size) (hs:s.size≤900):
    Calls Tryz.prog 162 #[.pointer (some ⟨b,0,none⟩)] w (Reads b s deep w (escapedR s.data.toList at_)):=by
 have hlen:s.data.toList.length=s.size:=(Lib.size_eq s).symm
 have hlt:=h.lt
 have H:=hid h
 have h1:((at_+1:Nat):Int)≤(s.size:Int):=by omega
 have hw1:wrap64 ((at_:Int)+1)=((at_+1:Nat):Int):=by unfold wrap64;omega
 have hw2:wrap64 ((at_:Int)+2)=((at_+2:Nat):Int):=by unfold wrap64;omega
 by_cases hend:at_+1=s.size
 ·have HG:Hid (escapedR s.data.toList at_= .bad at_ 3):=by
    unfold Hid escapedR
    rw[if_pos (by omega)]
  have he:(s.extract (at_+1) s.size).toList.isEmpty=true:=list_none (by rw[ByteArray.size_extract];omega)
  rw[HG.out]
  clear h hlen
  go_enter Tryz.func162,Tryz.ntmps162
  go_wp2_with (first|(refine alloc_piece rfl rfl ?_;intro w1 b1 e1 p1 l1 z1))
  have H1:=hid (H.out.below l1)
  have P1:=hid p1
  have L1:=hid l1
  have c0:=H1.out.c0
  have c1:=H1.out.c1
  clear p1 l1
  go_quiet (fail)
  have P2:Hid (PBox (w1.drewN nq) b1 zeroR):=P1
  have H2:Hid (Reader (w1.drewN nq) b s at_ deep):=H1
  have L2:=hid (L1.out.trans ((below_draws w1 nq).mono L1.out.size))
  go_wp2_with (first|(refine store_piece (r:=zeroR) rfl _ _ rfl rfl rfl P2.out ?_;intro w4 p4 l4 z4))
  refine end_piece2 rfl rfl p4 rfl ?_
  exact⟨beside_fresh (Beside.of (b:=b) L2.out) l4 (by omega),by decide,rfl,_,H2.out.beside l4 (by omega)⟩
 ·have hlt2:at_+1<s.size:=by omega
  have he:(s.extract (at_+1) s.size).toList.isEmpty=false:=list_full (by rw[ByteArray.size_extract];omega)
  have hz:(s.extract (at_+1) s.size).size=s.size-(at_+1):=by rw[ByteArray.size_extract];omega
  have hz0:0<(s.extract (at_+1) s.size).size:=by omega
  have hz1:(1:Int)≤((s.extract (at_+1) s.size).size:Int):=by omega
  have hz2:(0:Int)<((s.extract (at_+1) s.size).size:Int):=by omega
  have hc:(s.extract (at_+1) s.size)[0]=s[at_+1]:=by
   have:=Kit.byte_get (s.extract (at_+1) s.size) 0 hz0
   rw[Kit.drop_bytes,Kit.drop_next s (at_+1) hlt2]at this
   exact this.symm
  have HCH:=hid (chr_at hlt2)
  have HN:Hid (∀w,Calls Tryz.prog 171 #[.int .u8 (s.extract (at_+1) s.size)[0].toNat] w fun e w'=>e= .returned (.tuple #[.string (W13.tx (M13.namedF s[at_+1])),.bool (M13.letter s[at_+1])])∧Below w.heap.size w w'):=by
   intro w
   rw[hc]
   exact W13.namedS_any _ w
  cases hlet:M13.letter s[at_+1]with
  |true=>
   have HG:Hid (escapedR s.data.toList at_= .ok (leaf 4 (txt (M13.namedF s[at_+1]))) (at_+2)):=by
    unfold Hid escapedR
    rw[if_neg (by omega),getD_at hlt2,hlet,if_pos rfl]
   rw[HG.out]
   rw[hlet]at HN
   clear h hlen hlet hc
   go_enter Tryz.func162,Tryz.ntmps162
   go_wp2_with (first|(refine alloc_piece rfl rfl ?_;intro w1 b1 e1 p1 l1 z1))
   have H1:=hid (H.out.below l1)
   have P1:=hid p1
   have L1:=hid l1
   have c0:=H1.out.c0
   have c1:=H1.out.c1
   clear p1 l1
   go_quiet (fail)
   have P2:Hid (PBox (w1.drewN nq) b1 zeroR):=P1
   have H2:Hid (Reader (w1.drewN nq) b s at_ deep):=H1
   have L2:=hid (L1.out.trans ((below_draws w1 nq).mono L1.out.size))
   have d1:=H2.out.c1
   have f1:=H2.out.free 1
   generalize w1.drewN nq=w2 at*
   go_wp2_with fail
   refine(HN.out _).mono ?_
   rintro e w3 ⟨rfl,l3⟩
   have H3:=hid ((H2.out.put1 (at_+2)).below l3)
   have hne:b1≠b:=by omega
   have P3:=hid ((P2.out.beside (beside_put w2 b 1 (.int .i64 ((at_+2:Nat):Int))) hne).below l3)
   have B3:=hid (beside_onto ((Beside.of (b:=b) L2.out).trans (beside_put w2 b 1 (.int .i64 ((at_+2:Nat):Int)))) l3)
   clear l3
   go_wp2_with (first|(refine store_piece (r:=⟨4,W13.tx (M13.namedF s[at_+1]),none,0,0,0,0⟩) rfl _ _ rfl rfl rfl P3.out ?_;intro w4 p4 l4 z4))
   refine end_piece2 rfl rfl p4 rfl ?_
   exact⟨beside_fresh B3.out l4 (by omega),_,rfl,H3.out.beside l4 hne.symm,PAt.leaf _ _ 4 _⟩
  |false=>
   have HG:Hid (escapedR s.data.toList at_= .ok (leaf 2 (chr s[at_+1])) (at_+2)):=by
    unfold Hid escapedR
    rw[if_neg (by omega),getD_at hlt2,hlet,if_neg (by simp)]
   rw[HG.out]
   rw[hlet]at HN
   clear h hlen hlet hc
   go_enter Tryz.func162,Tryz.ntmps162
   go_wp2_with (first|(refine alloc_piece rfl rfl ?_;intro w1 b1 e1 p1 l1 z1))
   have H1:=hid (H.out.below l1)
   have P1:=hid p1
   have L1:=hid l1
   have c0:=H1.out.c0
   have c1:=H1.out.c1
   clear p1 l1
   go_quiet (fail)
   have P2:Hid (PBox (w1.drewN nq) b1 zeroR):=P1
   have H2:Hid (Reader (w1.drewN nq) b s at_ deep):=H1
   have L2:=hid (L1.out.trans ((below_draws w1 nq).mono L1.out.size))
   have d1:=H2.out.c1
   have f1:=H2.out.free 1
   generalize w1.drewN nq=w2 at*
   go_wp2_with fail
   refine(HN.out _).mono ?_
   rintro e w3 ⟨rfl,l3⟩
   have H3:=hid ((H2.out.put1 (at_+2)).below l3)
   have hne:b1≠b:=by omega
   have P3:=hid ((P2.out.beside (beside_put w2 b 1 (.int .i64 ((at_+2:Nat):Int))) hne).below l3)
   have B3:=hid (beside_onto ((Beside.of (b:=b) L2.out).trans (beside_put w2 b 1 (.int .i64 ((at_+2:Nat):Int)))) l3)
   clear l3
   go_wp2_with (first|(refine store_piece (r:=⟨2,(s.extract (at_+1) s.size).extract 0 1,none,0,0,0,0⟩) rfl _ _ rfl rfl rfl P3.out ?_;intro w4 p4 l4 z4))
   refine end_piece2 rfl rfl p4 rfl ?_
   rw[HCH.out]
   exact⟨beside_fresh B3.out l4 (by omega),_,rfl,H3.out.beside l4 hne.symm,PAt.leaf _ _ 2 _⟩
end W14
namespace W14
open M14
open Row256 (Beside)
open Kit (ret_str ret_bool ret_int mk_of mk_bytes ba_ext below_draws on list_full list_ne list_none list_nil)
def PatOk (s:ByteArray) (R:Nat→Nat→Option Got) (lo:Nat):Prop:=
 ∀at_ deep,lo≤at_→at_≤s.size→deep≤64→ ∃g,R at_ deep=some g∧Fine s.data.toList at_ g∧
  ∀w b,Reader w b s at_ deep→Calls Tryz.prog 72 #[.pointer (some ⟨b,0,none⟩)] w (Reads b s deep w (fix s.data.toList deep g))
theorem two_new {u v x:World} {c:Nat} (h:Below u.heap.size u v) (k:Beside c v x) (e:u.heap.size=c):Below u.heap.size u x:=h.trans (k.below h.size (by omega))
theorem fix_deep {S:List UInt8} {deep:Nat} (h:deep≠0) (g:Got):fix S deep g=g:=by
 cases g with
 |ok p to=>exact if_neg (fun q=>h q.1)
 |bad b e=>rfl
def bracketsR (R:Nat→Nat→Option Got) (S:List UInt8) (at_ deep:Nat):Got:=
 if deep=64 then .bad at_ 21
 else match R (at_+1) (deep+1)with
  |none=> .bad 0 0
  |some (.bad b e)=> .bad b e
  |some (.ok p to)=>if to=S.length then .bad S.length 3 else .ok p (to+1)
section
variable {w:World} {b:Nat} {s:ByteArray} {at_ deep:Nat}
theorem brackets_deep (h:Reader w b s at_ 64):
    Calls Tryz.prog 160 #[.pointer (some ⟨b,0,none⟩)] w (Reads b s 64 w (.bad at_ 21)):=by
 have hlt:=h.lt
 have H:=hid h
 clear h
 go_enter Tryz.func160,Tryz.ntmps160
 go_wp2_with (first
  |(refine alloc_piece rfl rfl ?_;intro w1 b1 e1 p1 l1 z1;have H1:=hid (H.out.below l1);have d2:=H1.out.c2)
  |(refine store_piece (r:=zeroR) rfl (.tmp 2) (.tmp 11) rfl rfl rfl p1 ?_;intro w2 p2 l2 z2))
 refine end_piece2 rfl rfl p2 rfl ?_
 exact⟨beside_fresh (Beside.of (b:=b) l1) l2 (by omega),by decide,rfl,_,H1.out.beside l2 (by omega)⟩
theorem brackets_bad (h:Reader w b s at_ deep) (hat:at_<s.size) (hs:s.size≤900) (hd:deep<64) {q:Nat} {er:Int}
    (hC: ∀w b,Reader w b s (at_+1) (deep+1)→Calls Tryz.prog 72 #[.pointer (some ⟨b,0,none⟩)] w (Reads b s (deep+1) w (.bad q er))):
    Calls Tryz.prog 160 #[.pointer (some ⟨b,0,none⟩)] w (Reads b s deep w (.bad q er)):=by
 have hlt:=h.lt
 have H:=hid h
 have HC:=hid hC
 have t1:((deep:Int)==64)=false:=by simpa using (by omega: ¬(deep:Int)=64)
 have hw1:wrap64 ((at_:Int)+1)=((at_+1:Nat):Int):=by unfold wrap64;omega
 have hw2:wrap64 ((deep:Int)+1)=((deep+1:Nat):Int):=by unfold wrap64;omega
 clear h hC
 go_enter Tryz.func160,Tryz.ntmps160
 go_wp2_with (first
  |(refine alloc_piece rfl rfl ?_;intro w1 b1 e1 p1 l1 z1;have H1:=hid (H.out.below l1);have d1:=H1.out.c1;have d2:=H1.out.c2;have f1:=H1.out.free 1;have f2:=H1.out.free 2))
 have hne:b1≠b:=by omega
 have H3:=hid ((H1.out.put1 (at_+1)).put2 (deep+1))
 have B3:Hid (Beside b w1 ((w1.setCell ⟨b,1,none⟩ (.int .i64 ((at_+1:Nat):Int))).setCell ⟨b,2,none⟩ (.int .i64 ((deep+1:Nat):Int)))):=(beside_put _ _ _ _).trans (beside_put _ _ _ _)
 refine(HC.out _ _ H3.out).mono ?_
 rintro e w4 ⟨b4,he,rfl,d,hr⟩
 have B4:=hid (B3.out.trans b4)
 have P4:=hid (PBox.beside p1 B4.out hne)
 have H4:=hid hr
 have te:(er !=0)=true:=by simpa using he
 have HE:=hid he
 have hz:=B4.out.size
 clear b4 hr he
 go_wp2_with (first
  |(refine alloc_piece rfl rfl ?_;intro w5 b2 e5 p5 l5 z5)
  |(refine store_piece (r:=zeroR) rfl (.tmp 4) (.tmp 29) rfl rfl rfl p5 ?_;intro w6 p6 l6 z6;have L6:=hid (two_new l5 l6 e5);have P6:=hid (P4.out.below L6.out))
  |(refine store_piece (r:=zeroR) rfl (.tmp 2) (.tmp 33) rfl rfl rfl P6.out ?_;intro w7 p7 l7 z7))
 refine end_piece2 rfl rfl p7 rfl ?_
 exact⟨beside_fresh ((Beside.of (b:=b) l1).trans (beside_onto B4.out L6.out)) l7 (by omega),HE.out,rfl,_,(H4.out.below L6.out).beside l7 hne.symm⟩
theorem brackets_open (h:Reader w b s at_ deep) (hat:at_<s.size) (hs:s.size≤900) (hd:deep<64) {p:Piece}
    (hC: ∀w b,Reader w b s (at_+1) (deep+1)→Calls Tryz.prog 72 #[.pointer (some ⟨b,0,none⟩)] w (Reads b s (deep+1) w (.ok p s.size))):
    Calls Tryz.prog 160 #[.pointer (some ⟨b,0,none⟩)] w (Reads b s deep w (.bad s.size 3)):=by
 have hlt:=h.lt
 have H:=hid h
 have HC:=hid hC
 have t1:((deep:Int)==64)=false:=by simpa using (by omega: ¬(deep:Int)=64)
 have hw1:wrap64 ((at_:Int)+1)=((at_+1:Nat):Int):=by unfold wrap64;omega
 have hw2:wrap64 ((deep:Int)+1)=((deep+1:Nat):Int):=by unfold wrap64;omega
 clear h hC
 go_enter Tryz.func160,Tryz.ntmps160
 go_wp2_with (first
  |(refine alloc_piece rfl rfl ?_;intro w1 b1 e1 p1 l1 z1;have H1:=hid (H.out.below l1);have d1:=H1.out.c1;have d2:=H1.out.c2;have f1:=H1.out.free 1;have f2:=H1.out.free 2))
 have hne:b1≠b:=by omega
 have H3:=hid ((H1.out.put1 (at_+1)).put2 (deep+1))
 have B3:Hid (Beside b w1 ((w1.setCell ⟨b,1,none⟩ (.int .i64 ((at_+1:Nat):Int))).setCell ⟨b,2,none⟩ (.int .i64 ((deep+1:Nat):Int)))):=(beside_put _ _ _ _).trans (beside_put _ _ _ _)
 refine(HC.out _ _ H3.out).mono ?_
 rintro e w4 ⟨b4,r,rfl,hr,hp⟩
 have B4:=hid (B3.out.trans b4)
 have P4:=hid (PBox.beside p1 B4.out hne)
 have H4:=hid hr
 have hz:=B4.out.size
 clear b4 hr hp
 go_wp2_with (first
  |(refine alloc_piece rfl rfl ?_;intro w5 b2 e5 p5 l5 z5)
  |(refine store_piece (r:=r) rfl (.tmp 4) (.tmp 29) rfl rfl rfl p5 ?_;intro w6 p6 l6 z6;have L6:=hid (two_new l5 l6 e5);have P6:=hid (P4.out.below L6.out);have H6:=hid (H4.out.below L6.out);have k0:=H6.out.c0;have k1:=H6.out.c1))
 go_quiet (fail)
 have P7:Hid (PBox (w6.drewN nq) b1 zeroR):=P6
 have H7:Hid (Reader (w6.drewN nq) b s s.size (deep+1)):=H6
 have B7:Hid (Beside b w (w6.drewN nq)):=beside_onto ((Beside.of (b:=b) l1).trans (beside_onto B4.out L6.out)) (below_draws w6 nq)
 go_wp2_with (first
  |(refine store_piece (r:=zeroR) rfl (.tmp 2) (.tmp 45) rfl rfl rfl P7.out ?_;intro w8 p8 l8 z8))
 refine end_piece2 rfl rfl p8 rfl ?_
 exact⟨beside_fresh B7.out l8 (by omega),by decide,rfl,_,H7.out.beside l8 hne.symm⟩
theorem brackets_ok (h:Reader w b s at_ deep) (hat:at_<s.size) (hs:s.size≤900) (hd:deep<64) {p:Piece} {to:Nat} (hto:to<s.size)
    (hC: ∀w b,Reader w b s (at_+1) (deep+1)→Calls Tryz.prog 72 #[.pointer (some ⟨b,0,none⟩)] w (Reads b s (deep+1) w (.ok p to))):
    Calls Tryz.prog 160 #[.pointer (some ⟨b,0,none⟩)] w (Reads b s deep w (.ok p (to+1))):=by
 have hlt:=h.lt
 have H:=hid h
 have HC:=hid hC
 have t1:((deep:Int)==64)=false:=by simpa using (by omega: ¬(deep:Int)=64)
 have t2:((to:Int)==(s.size:Int))=false:=int_no (by omega)
 have hw1:wrap64 ((at_:Int)+1)=((at_+1:Nat):Int):=by unfold wrap64;omega
 have hw2:wrap64 ((deep:Int)+1)=((deep+1:Nat):Int):=by unfold wrap64;omega
 have hw3:wrap64 ((to:Int)+1)=((to+1:Nat):Int):=by unfold wrap64;omega
 have hw4:wrap64 (((deep+1:Nat):Int)-1)=(deep:Int):=by unfold wrap64;omega
 clear h hC
 go_enter Tryz.func160,Tryz.ntmps160
 go_wp2_with (first
  |(refine alloc_piece rfl rfl ?_;intro w1 b1 e1 p1 l1 z1;have H1:=hid (H.out.below l1);have d1:=H1.out.c1;have d2:=H1.out.c2;have f1:=H1.out.free 1;have f2:=H1.out.free 2))
 have hne:b1≠b:=by omega
 have H3:=hid ((H1.out.put1 (at_+1)).put2 (deep+1))
 have B3:Hid (Beside b w1 ((w1.setCell ⟨b,1,none⟩ (.int .i64 ((at_+1:Nat):Int))).setCell ⟨b,2,none⟩ (.int .i64 ((deep+1:Nat):Int)))):=(beside_put _ _ _ _).trans (beside_put _ _ _ _)
 refine(HC.out _ _ H3.out).mono ?_
 rintro e w4 ⟨b4,r,rfl,hr,hp⟩
 have B4:=hid (B3.out.trans b4)
 have P4:=hid (PBox.beside p1 B4.out hne)
 have H4:=hid hr
 rw[World.size_setCell,World.size_setCell]at hp
 have A4:=hid hp
 have hz:=B4.out.size
 clear b4 hr hp
 go_wp2_with (first
  |(refine alloc_piece rfl rfl ?_;intro w5 b2 e5 p5 l5 z5)
  |(refine store_piece (r:=r) rfl (.tmp 4) (.tmp 29) rfl rfl rfl p5 ?_;intro w6 p6 l6 z6;have L6:=hid (two_new l5 l6 e5);have P6:=hid (P4.out.below L6.out);have H6:=hid (H4.out.below L6.out);have A6:=hid (A4.out.by_below L6.out);have k0:=H6.out.c0;have k1:=H6.out.c1))
 go_quiet (fail)
 have P7:Hid (PBox (w6.drewN nq) b1 zeroR):=P6
 have Q7:Hid (PBox (w6.drewN nq) b2 r):=p6
 have H7:Hid (Reader (w6.drewN nq) b s to (deep+1)):=H6
 have A7:Hid (PAt (In w1.heap.size (w6.drewN nq).heap.size) (w6.drewN nq) r p):=A6.out.keep (fun _ h=>h) (fun _ _=>rfl)
 have B7:Hid (Beside b w (w6.drewN nq)):=beside_onto ((Beside.of (b:=b) l1).trans (beside_onto B4.out L6.out)) (below_draws w6 nq)
 have hz7:w4.heap.size≤(w6.drewN nq).heap.size:=L6.out.size
 clear P6 H6 A6 p6 k0 k1
 generalize w6.drewN nq=w7 at*
 have k1:=H7.out.c1
 have k2:=H7.out.c2
 have g1:=H7.out.free 1
 have g2:=H7.out.free 2
 have B8:Hid (Beside b w7 ((w7.setCell ⟨b,1,none⟩ (.int .i64 ((to+1:Nat):Int))).setCell ⟨b,2,none⟩ (.int .i64 (deep:Int)))):=(beside_put _ _ _ _).trans (beside_put _ _ _ _)
 have H8:=hid ((H7.out.put1 (to+1)).put2 deep)
 go_wp2_with (first
  |(refine load_piece rfl (.tmp 4) rfl rfl (Q7.out.beside B8.out (by omega)) ?_)
  |(refine store_piece (r:=r) rfl (.tmp 2) (.tmp 60) rfl rfl rfl (P7.out.beside B8.out hne) ?_;intro w8 p8 l8 z8))
 refine end_piece2 rfl rfl p8 rfl ?_
 exact⟨beside_fresh (B7.out.trans B8.out) l8 (by omega),_,rfl,H8.out.beside l8 hne.symm,((A7.out.by_beside B8.out (by omega)).by_beside l8 (by omega)).by_less l1.size⟩
theorem brackets_any {R:Nat→Nat→Option Got} (hR:PatOk s R (at_+1)) (hat:at_<s.size) (hs:s.size≤900) (hd:deep≤64) (h:Reader w b s at_ deep):
    Calls Tryz.prog 160 #[.pointer (some ⟨b,0,none⟩)] w (Reads b s deep w (bracketsR R s.data.toList at_ deep)):=by
 have hlen:s.data.toList.length=s.size:=(Lib.size_eq s).symm
 unfold bracketsR
 by_cases h64:deep=64
 ·subst h64
  rw[if_pos rfl];exact brackets_deep h
 ·rw[if_neg h64]
  obtain⟨g,e,hf,hc⟩:=hR (at_+1) (deep+1) (Nat.le_refl _) hat (by omega)
  rw[fix_deep (by omega)]at hc
  rw[e]
  match g,hf,hc with
  | .bad q er,hf,hc=>exact brackets_bad h hat hs (by omega) hc
  | .ok p to,hf,hc=>
   simp only
   have h2:=hf.2.1
   by_cases ht:to=s.data.toList.length
   ·rw[if_pos ht,hlen]
    rw[hlen]at ht
    subst ht
    exact brackets_open h hat hs (by omega) hc
   ·rw[if_neg ht]
    exact brackets_ok h hat hs (by omega) (by omega) hc
end
end W14
namespace M15
open Go M14
theorem seqs_snoc {ks:List Piece}: ∀(l:List Piece) (p:Piece) (a:Nat),(∀q,q∈l→q∈ks)→(∀q,q∈ks→ ∀a,(steps q a).length=size q)→seqs (l++ [p]) a=seqs l a++steps p (a+sizes l)
 | [],p,a,_,_=>by simp[seqs,sizes]
 |q::l,p,a,hm,hs=>by
  rw[List.cons_append,seqs,seqs,seqs_snoc l p (a+size q) (fun r hr=>hm r (by simp[hr])) hs,List.append_assoc]
  rw[show sizes (q::l)=size q+sizes l by simp only[sizes],Nat.add_assoc]
theorem sizes_take_le (ks:List Piece) (i:Nat):sizes (ks.take i)≤sizes ks:=by
 have:=sizes_append (ks.take i) (ks.drop i)
 rw[List.take_append_drop]at this
 omega
theorem sizes_next {ks:List Piece} {i:Nat} (hi:i<ks.length):sizes (ks.take (i+1))=sizes (ks.take i)+size ks[i]:=by
 rw[List.take_succ_eq_append_getElem hi,sizes_append]
 simp only[sizes,Nat.add_zero]
theorem seqs_next {ks:List Piece} (hs: ∀q,q∈ks→ ∀a,(steps q a).length=size q) {i:Nat} (hi:i<ks.length) (a:Nat):seqs (ks.take (i+1)) a=seqs (ks.take i) a++steps ks[i] (a+sizes (ks.take i)):=by
 rw[List.take_succ_eq_append_getElem hi]
 exact seqs_snoc _ _ _ (fun q hq=>List.mem_of_mem_take hq) hs
theorem seqs_take_len {ks:List Piece} (hs: ∀q,q∈ks→ ∀a,(steps q a).length=size q) (i a:Nat):(seqs (ks.take i) a).length=sizes (ks.take i):=seqs_len (fun q hq=>hs q (List.mem_of_mem_take hq)) a
end M15
namespace W15
open Strs Recs M15
open M14 (Piece size sizes)
open W14 (Raw Raws rawA rawC PAt PAll PBox below_new cell_block own_same own_form box_arg load_piece run_load_op load_at alloc_piece store_piece two_new raws_keep)
open Row256 (Beside)
open Kit (below_draws on)
def KidsU (b:Nat) (w:World) (A:Option Addr) (c:Nat) (raws:List Raw) (ks:List Piece):Prop:=
 (∃B,Raws B w (.slice A ks.length c) raws)∧(∀ad,A=some ad→0<raws.length→ad.block<b)∧PAll (fun k=>k<b) w raws ks
section
variable {w w':World} {b:Nat} {A:Option Addr} {c:Nat} {raws:List Raw} {ks:List Piece}
theorem parts_under {r:Raw} {k:Int} {t:ByteArray} {l tp:Int} (h:PAt (fun k=>k<b) w r (.mk k t ks l tp)): ∃A c raws,r=⟨k,t,A,ks.length,c,l,tp⟩∧KidsU b w A c raws ks:=by
 cases h with
 |mk _ _ A n c _ _ raws _ B h hX hl hk=>
  have hn:n=ks.length:=by
   obtain⟨A',c',e,-⟩:=h
   injection e with e1 e2 e3
   omega
  subst hn
  exact⟨A,c,raws,rfl,⟨B,h⟩,hX,hl,hk⟩
theorem KidsU.keep (h:KidsU b w A c raws ks) (hk: ∀k,k<b→w'.heap[k]? =w.heap[k]?):KidsU b w' A c raws ks:=by
 obtain⟨⟨B,h1⟩,h2,h3⟩:=h
 exact⟨⟨B,raws_keep h1 fun ad e hn p hp=>cell_block (hk _ (by rw[hp];exact h2 ad e hn))⟩,h2,h3.keep (fun _ q=>q) fun _ q=>cell_block (hk _ q)⟩
theorem KidsU.kids (h:KidsU b w A c raws ks) (hb:b≤w.heap.size):W14.Kids w A c raws ks:=
 ⟨h.1,fun ad e hn=>Nat.lt_of_lt_of_le (h.2.1 ad e hn) hb,h.2.2.keep (fun _ q=>Nat.lt_of_lt_of_le q hb) fun _ _=>rfl⟩
theorem KidsU.kid (h:KidsU b w A c raws ks) {i:Nat} (hi:i<ks.length): ∃hr:i<raws.length,PAt (fun k=>k<b) w raws[i] ks[i]:=by
 obtain⟨-,-,h3,h4⟩:=h
 exact⟨by omega,h4 i (by omega) hi⟩
theorem KidsU.grow {v v':Value} {L:List Inst} (h:KidsU b w A c raws ks) (hl:Lay w b v L) (hg:Grow b v v' w w'):KidsU b w' A c raws ks:=h.keep fun _ q=>hg.keeps hl q
theorem KidsU.below (h:KidsU b w A c raws ks) (hb:b<w.heap.size) (hg:Below w.heap.size w w'):KidsU b w' A c raws ks:=h.keep fun _ q=>hg.block _ (Nat.lt_trans q hb)
end
def LayOk (p:Piece):Prop:= ∀(w:World) (b:Nat) (v:Value) (L:List Inst) (r:Raw),Lay w b v L→PAt (fun k=>k<b) w r p→L.length+size p≤4000→
 Calls Tryz.prog 77 #[.pointer (some ⟨b,0,none⟩),.agg (rawA r)] w (Laid b v w (L++steps p L.length))
theorem seq_any {ks:List Piece} (IH: ∀i (hi:i<ks.length),LayOk ks[i]) (hs: ∀q,q∈ks→ ∀a,(steps q a).length=size q) {w:World} {b:Nat} {v:Value} {L:List Inst} {k:Int} {t:ByteArray} {A:Option Addr} {c:Nat} {m tp:Int} {raws:List Raw} (h:Lay w b v L) (k1:KidsU b w A c raws ks) (hl:L.length+sizes ks≤4000):
    Calls Tryz.prog 105 #[.pointer (some ⟨b,0,none⟩),.agg (rawA ⟨k,t,A,ks.length,c,m,tp⟩)] w (Laid b v w (L++seqs ks L.length)):=by
 have H:=hid h
 have HI:=hid IH
 have HS:=hid hs
 have K1:=hid k1
 have HR:=hid (k1.kids (Nat.le_of_lt h.box.lt)).room
 have HL:=hid hl
 have hr1:=HR.out.1
 have hr2:=HR.out.2
 clear h IH hs k1 hl
 go_enter Tryz.func105,Tryz.ntmps105
 go_wp2_with (first
  |(refine box_arg (r:=⟨k,t,A,ks.length,c,m,tp⟩) rfl (.tmp 1) rfl rfl ?_;intro w1 b1 e1 p1 l1 z1;have a2:=p1.c2;have L1:=hid l1;clear e1 p1 l1 z1;simp only at a2))
 have H1:=hid (H.out.below L1.out)
 have K2:=hid (K1.out.below H.out.box.lt L1.out)
 clear a2 hr1 hr2
 go_loopg [9] ks.length (fun gk s9 wr=> ∃(i:Nat) (v1:Value),s9= .int .i64 i∧Hid (i+gk=ks.length)∧Hid (Lay wr b v1 (L++seqs (ks.take i) L.length))∧Hid (KidsU b wr A c raws ks)∧Hid (Grow b v v1 w wr))
 case atStart=>exact⟨0,v,rfl,by unfold Hid;omega,by unfold Hid;simp only[List.take_zero,seqs,List.append_nil];exact H1.out,K2,Grow.of L1.out⟩
 case round=>
  obtain⟨i,v1,rfl,hig,HL1,KK,GG⟩:=hrel
  have hn1:=HR.out.1
  have hn2:=HR.out.2
  by_cases hi:i<ks.length
  ·have ti:(i:Int)<(ks.length:Int):=by omega
   have hlt:=HL1.out.box.lt
   obtain⟨g1,o1,rfl,C1⟩:=(KK.out.kids (Nat.le_of_lt hlt)).at_ (Nat.lt_of_le_of_lt (Nat.zero_le _) hi)
   obtain⟨hr1,q1⟩:=KK.out.kid hi
   have E1:=hid (C1 i hr1)
   have Q1:=hid q1
   have HI2:=hid hi
   obtain⟨rk,hrk⟩: ∃rk,raws[i]'hr1=rk:=⟨_,rfl⟩
   rw[hrk]at E1 Q1
   have HC:Hid (∀(w:World) (v:Value),Lay w b v (L++seqs (ks.take i) L.length)→PAt (fun k=>k<b) w rk ks[i]→Calls Tryz.prog 77 #[.pointer (some ⟨b,0,none⟩),.agg (rawA rk)] w (Laid b v w (L++seqs (ks.take (i+1)) L.length))):=by
    intro w v h1 h2
    have hz:(L++seqs (ks.take i) L.length).length=L.length+sizes (ks.take i):=by rw[List.length_append,seqs_take_len HS.out]
    have:=HI.out i hi w b v _ rk h1 h2 (by have h3:=sizes_next hi;have h4:=sizes_take_le ks (i+1);have:=HL.out;omega)
    rw[hz]at this
    rw[seqs_next HS.out hi,←List.append_assoc]
    exact this
   have hwi:Hid (wrap64 ((i:Int)+1)=((i+1:Nat):Int)):=by unfold Hid wrap64;omega
   have HT:=hid hlt
   clear C1 q1 hrk hlt
   go_wp2_with (first
    |(refine load_at rfl (.tmp 11) rfl rfl (r:=rk) E1.out ?_)
    |(refine alloc_piece rfl rfl ?_;intro w3 b3 e3 p3 l3 z3)
    |(refine store_piece (r:=rk) rfl (.tmp 5) (.tmp 12) rfl rfl rfl p3 ?_;intro w4 p4 l4 z4;have L4:=hid (two_new l3 l4 e3);have P4:=hid p4;clear e3 p3 l3 z3 p4 l4 z4)
    |(refine load_piece (r:=rk) rfl (.tmp 5) rfl rfl P4.out ?_))
   have H4:=hid (HL1.out.below L4.out)
   have K4:=hid (KK.out.below HT.out L4.out)
   refine(HC.out _ _ H4.out (below_piece L4.out HT.out Q1.out)).mono ?_
   rintro e w5 ⟨rfl,v2,h5,g5⟩
   have H5:=hid h5
   have K5:=hid (K4.out.grow H4.out g5)
   have G5:=hid (GG.out.trans ((Grow.of L4.out).trans g5))
   clear h5 g5
   cases gk with
   |zero=>exact absurd hig.out (by have:=HI2.out;omega)
   |succ g=>
    go_wp2_with fail
    go_roundg g
    case measure=>omega
    case rel=>exact⟨i+1,v2,by first|rfl|exact congrArg (Value.int .i64) hwi.out,by have:=hig.out;unfold Hid;omega,H5,K5,G5⟩
  ·have ti: ¬(i:Int)<(ks.length:Int):=by omega
   have hie:i=ks.length:=by have:=hig.out;omega
   have HL2:Hid (Lay wr b v1 (L++seqs ks L.length)):=by have:=HL1.out;rw[hie,List.take_length]at this;exact this
   clear hie
   go_wp2_with fail
   go_end0
   exact⟨rfl,v1,HL2.out,GG.out⟩
end W15
namespace M15
open Go M14
def pre:List Piece→Nat→Nat→List Inst
 | [],_,_=> []
 |p::l,a,j=>split (a+1) (a+size p+2)::(steps p (a+1)++jump j::pre l (a+size p+2) j)
def spots:List Piece→Nat→List Nat
 | [],_=> []
 |p::l,a=>(a+size p+1)::spots l (a+size p+2)
def plen (l:List Piece):Nat:=sizes l+2*l.length
theorem plen_cons (p:Piece) (l:List Piece):plen (p::l)=size p+2+plen l:=by
 unfold plen
 rw[show sizes (p::l)=size p+sizes l by simp only[sizes],List.length_cons];omega
theorem pre_len {ks:List Piece} (hs: ∀q,q∈ks→ ∀a,(steps q a).length=size q) (j:Nat): ∀(l:List Piece) (a:Nat),(∀q,q∈l→q∈ks)→(pre l a j).length=plen l
 | [],a,_=>by simp[pre,plen,sizes]
 |p::l,a,hm=>by
  rw[pre,List.length_cons,List.length_append,List.length_cons,hs p (hm p (by simp)),pre_len hs j l _ (fun q hq=>hm q (by simp[hq])),plen_cons];omega
theorem pre_append (j:Nat): ∀(l m:List Piece) (a:Nat),pre (l++m) a j=pre l a j++pre m (a+plen l) j
 | [],m,a=>by simp[pre,plen,sizes]
 |p::l,m,a=>by
  rw[List.cons_append,pre,pre,pre_append j l m,plen_cons,show a+size p+2+plen l=a+(size p+2+plen l) by omega]
  simp only[List.cons_append,List.append_assoc]
theorem spots_len: ∀(l:List Piece) (a:Nat),(spots l a).length=l.length
 | [],_=>rfl
 |p::l,a=>by rw[spots,List.length_cons,List.length_cons,spots_len l]
theorem spots_append: ∀(l m:List Piece) (a:Nat),spots (l++m) a=spots l a++spots m (a+plen l)
 | [],m,a=>by simp[spots,plen,sizes]
 |p::l,m,a=>by
  rw[List.cons_append,spots,spots,spots_append l m,plen_cons,show a+size p+2+plen l=a+(size p+2+plen l) by omega];rfl
theorem alts_pre (q:Piece): ∀(l:List Piece) (a e:Nat),alts (l++ [q]) a e=pre l a e++steps q (a+plen l)
 | [],a,e=>by rw[List.nil_append,alts_1];simp[pre,plen,sizes]
 | [p],a,e=>by
  rw[List.cons_append,List.nil_append,alts_2,alts_1,plen_cons]
  simp only[pre,List.cons_append,List.append_assoc,List.nil_append]
  rw[show plen []=0 from rfl,show a+size p+2=a+(size p+2+0) by omega]
 |p::r::l,a,e=>by
  have:=alts_pre q (r::l) (a+size p+2) e
  rw[List.cons_append]at this
  rw[List.cons_append,List.cons_append,alts_2,this,plen_cons p,show a+size p+2+plen (r::l)=a+(size p+2+plen (r::l)) by omega]
  show _=(split (a+1) (a+size p+2)::(steps p (a+1)++jump e::pre (r::l) (a+size p+2) e))++_
  simp only[List.cons_append,List.append_assoc]
theorem take_one {ks:List Piece} {i n:Nat} (hi:i<n) (hn:n≤ks.length): ∃q,q∈ks∧(∃h:i<ks.length,ks[i]=q)∧(ks.take n).take (i+1)=(ks.take n).take i++ [q]∧(ks.take n).drop i=q::(ks.take n).drop (i+1):=by
 have h1:i<(ks.take n).length:=by rw[List.length_take];omega
 refine⟨(ks.take n)[i],List.mem_of_mem_take (List.getElem_mem h1),⟨by omega,(List.getElem_take).symm⟩,List.take_succ_eq_append_getElem h1,List.drop_eq_getElem_cons h1⟩
end M15
namespace W15
open Strs Recs M15
open M14 (Piece size sizes)
open W14 (cell_block own_form)
theorem own_block_same {base:Nat} {e:TypeId} {size n:Nat} {v:Value} {xs:List Value} {w w':World} (h:w.ownsRow base e size v n xs) (hk: ∀k,v.ownBlock=some k→w'.heap[k]? =w.heap[k]?):w'.ownsRow base e size v n xs:=by
 refine⟨h.1,?_⟩
 rcases h.2 with h0|⟨g,cap,cur,e1,hb,hh,rest⟩
 ·exact Or.inl h0
 ·subst e1
  exact Or.inr ⟨g,cap,cur,rfl,hb,(hk g rfl).trans hh,rest⟩
theorem own_type {base:Nat} {e:TypeId} {size n:Nat} {v:Value} {xs:List Value} {w:World} (h:w.ownsRow base e size v n xs) {k:Nat} (hk:v.ownBlock=some k): ∃cur,w.heap[k]? =some (.cells cur e (0,0)):=by
 rcases h.2 with⟨rfl,_⟩|⟨g,cap,cur,rfl,hb,hh,rest⟩
 ·cases hk
 ·cases hk
  exact⟨cur,hh⟩
theorem own_two {base base':Nat} {e e':TypeId} {size size' n n':Nat} {v v':Value} {xs xs':List Value} {w:World} (h:w.ownsRow base e size v n xs) (h':w.ownsRow base' e' size' v' n' xs') (he:e≠e') {k:Nat} (hk:v.ownBlock=some k):v'.ownBlock≠some k:=by
 intro q
 obtain⟨c,h1⟩:=own_type h hk
 obtain⟨c',h2⟩:=own_type h' q
 rw[h1]at h2
 injection h2 with h2
 injection h2 with _ h2
 exact he h2
def Nums (base:Nat) (w:World) (v:Value) (M:List Nat):Prop:=w.ownsRow base 3 1 v M.length (M.flatMap numC)
section
variable {w w':World} {b base:Nat} {v v' vj vj':Value} {L:List Inst} {M:List Nat}
theorem Nums.nil (base:Nat) (w:World):Nums base w (.slice none 0 0) []:=World.ownsRow_nil _ _ _ _
theorem Nums.below (h:Nums base w vj M) (hb:Below w.heap.size w w'):Nums base w' vj M:=own_block_same h fun k hk=>hb.block k (h.lt k hk).2
theorem Nums.apart (h:Nums base w vj M) (hl:Lay w b v L) {k:Nat} (hk:vj.ownBlock=some k):v.ownBlock≠some k:=own_two h hl.own (by decide) hk
theorem Nums.grow (h:Nums base w vj M) (hl:Lay w b v L) (hb:b<base) (hg:Grow b v v' w w'):Nums base w' vj M:=
 own_block_same h fun k hk=>hg.block k (h.lt k hk).2 (by have:=(h.lt k hk).1;omega) (h.apart hl hk)
theorem Lay.put_nums (hl:Lay w b v L) (h:Nums base w vj M) (hb:b<base) (hp:Put vj vj' w w'):Lay w' b v L:=by
 obtain⟨g1,g2,g3,g4,g5⟩:=hp.grown
 refine⟨(g5 b hl.box.lt (fun q=>by have:=(h.lt b q.symm).1;omega)).trans hl.box,own_block_same hl.own fun k hk=>g5 k (hl.own_gt k hk).2 (fun q=>h.apart hl q.symm hk)⟩
theorem Nums.recs (h:Nums base w vj M):Recs numC 1 w.heap.size w vj M:=Recs.of_own numC_len rfl h
theorem KidsU.put {A:Option Addr} {c:Nat} {raws:List W14.Raw} {ks:List Piece} (hk:KidsU b w A c raws ks) (h:Nums base w vj M) (hb:b<base) (hw:b<w.heap.size) (hp:Put vj vj' w w'):KidsU b w' A c raws ks:=by
 obtain⟨g1,g2,g3,g4,g5⟩:=hp.grown
 exact hk.keep fun k q=>g5 k (Nat.lt_trans q hw) (fun q2=>by have:=(h.lt k q2.symm).1;omega)
end
/-! a field of a step -/
theorem flat_set (x:Inst) (j:Nat) (u:Value) (y:Inst) (hj:j<4) (hy:(insC x).set j u=insC y) (X Z:List Inst):((X++x::Z).flatMap insC).set (X.length*4+j) u=(X++y::Z).flatMap insC:=by
 rw[List.flatMap_append,List.flatMap_append,List.flatMap_cons,List.flatMap_cons]
 have hl:=flat_len insC_len X
 rw[List.set_append_right _ _ (by omega),hl,show X.length*4+j-X.length*4=j by omega,List.set_append_left _ _ (by rw[insC_len];exact hj),hy]
section
variable {w:World} {b g c n:Nat} {X Z:List Inst} {x:Inst}
theorem Lay.set_ {j:Nat} {u:Value} {y:Inst} (hj:j<4) (hy:(insC x).set j u=insC y) (h:Lay w b (.slice (some ⟨g,0,none⟩) n c) (X++x::Z)):
    Lay (w.setCell ⟨g,X.length*4+j,none⟩ u) b (.slice (some ⟨g,0,none⟩) n c) (X++y::Z)∧Grow b (.slice (some ⟨g,0,none⟩) n c) (.slice (some ⟨g,0,none⟩) n c) w (w.setCell ⟨g,X.length*4+j,none⟩ u):=by
 have hgb:=(h.own_gt g rfl).1
 obtain⟨A,c',e,-,-⟩:=h.form
 injection e with e1 e2 e3
 subst e2
 have hs:=h.own.stored (X.length*4+j) u
 rw[flat_set x j u y hj hy]at hs
 refine⟨⟨(heap_setCell_other w _ b _ (show b≠g by omega)).trans h.box,?_⟩,⟨rfl,rfl,rfl,by rw[World.size_setCell];exact Nat.le_refl _,fun k _ _ e2=>heap_setCell_other w _ k _ (show k≠g from fun q=>e2 (by rw[q];rfl)),fun k hk=>Or.inl hk⟩⟩
 have hl:(X++y::Z).length=(X++x::Z).length:=by simp
 rw[hl]
 exact hs.1
theorem Lay.set2 (h:Lay w b (.slice (some ⟨g,0,none⟩) n c) (X++x::Z)) (u:Int):
    Lay (w.setCell ⟨g,X.length*4+2,none⟩ (.int .i64 u)) b (.slice (some ⟨g,0,none⟩) n c) (X++ {x with x:=u}::Z)∧Grow b (.slice (some ⟨g,0,none⟩) n c) (.slice (some ⟨g,0,none⟩) n c) w (w.setCell ⟨g,X.length*4+2,none⟩ (.int .i64 u)):=h.set_ (x:=x) (y:= {x with x:=u}) (by decide) rfl
theorem Lay.set3 (h:Lay w b (.slice (some ⟨g,0,none⟩) n c) (X++x::Z)) (u:Int):
    Lay (w.setCell ⟨g,X.length*4+3,none⟩ (.int .i64 u)) b (.slice (some ⟨g,0,none⟩) n c) (X++ {x with y:=u}::Z)∧Grow b (.slice (some ⟨g,0,none⟩) n c) (.slice (some ⟨g,0,none⟩) n c) w (w.setCell ⟨g,X.length*4+3,none⟩ (.int .i64 u)):=h.set_ (x:=x) (y:= {x with y:=u}) (by decide) rfl
theorem Lay.field {m:Nat} (h:Lay w b (.slice (some ⟨g,0,none⟩) n c) (X++x::Z)) (hm:X.length=m):w.cell? ⟨g,m*4+2,none⟩=some (.int .i64 x.x)∧w.cell? ⟨g,m*4+3,none⟩=some (.int .i64 x.y)∧ ∀j,w.frozen? ⟨g,j,none⟩=false:=by
 subst hm
 obtain⟨A,c',e,-,-⟩:=h.form
 injection e with e1 e2 e3
 subst e2
 have hl:(X++x::Z).length=X.length+Z.length+1:=by simp;omega
 have hf: ∀j,j<4→((X++x::Z).flatMap insC)[X.length*4+j]? =(insC x)[j]? :=by
  intro j hj
  have:=flat_at insC_len (X++x::Z) X.length (by omega) j hj
  rw[this]
  simp
 refine⟨?_,?_,fun j=>h.own.frozenAt j⟩
 ·rw[h.own.cellAt _ (by omega),hf 2 (by decide)];rfl
 ·rw[h.own.cellAt _ (by omega),hf 3 (by decide)];rfl
end
end W15
namespace M15
open Go M13
def txtOk (k:Int) (t:ByteArray):Bool:=if k=1 then decide (t.size=1)else if k=3 then good t.data.toList else decide (t.size=0)
def place (a:Int) (n:Nat):Bool:=decide (0≤a)&&decide (a<n)
def goes (k a b:Int) (n:Nat):Bool:=
 if k=6 then place a n&&place b n else if k=7 then decide (a=0)&&decide (b=0)else if 1≤k∧k≤8 then place a n&&decide (b=0)else false
def okI (n:Nat) (x:Inst):Bool:=txtOk x.kind x.text&&goes x.kind x.x x.y n
def rightP (l:List Inst):Bool:=l.all (okI l.length)&&decide (0<l.length)
def zero1 (c:UInt8):Bool:=decide (c=48)||decide (c=49)
theorem two_digit (c:UInt8):([48,49]:List UInt8).contains c=zero1 c:=by
 unfold zero1
 by_cases h1:c=48
 ·subst h1;rfl
 ·by_cases h2:c=49
  ·subst h2;rfl
  ·simp[h1,h2]
theorem drop_01: ∀(l:List UInt8),l.all zero1=true→l.dropWhile zero1= []
 | [],_=>rfl
 |c::l,h=>by
  rw[List.all_cons,Bool.and_eq_true]at h
  rw[List.dropWhile_cons_of_pos h.1]
  exact drop_01 l h.2
theorem trim_01 {t:List UInt8}:(Lib.trimS t [48,49]== [])=t.all zero1:=by
 have e:(fun c=>([48,49]:List UInt8).contains c)=zero1:=funext two_digit
 unfold Lib.trimS Lib.trimLeftS Lib.trimRightS
 rw[e]
 cases h:t.all zero1 with
 |true=>
  have:t.reverse.dropWhile zero1= []:=by
   refine drop_01 _ (List.all_eq_true.2 fun x hx=> ?_)
   exact List.all_eq_true.1 h x (List.mem_reverse.1 hx)
  rw[this];rfl
 |false=>
  obtain⟨x,hx,hn⟩: ∃x,x∈t∧zero1 x=false:=by
   have:=List.all_eq_false.1 h
   obtain⟨x,hx,hn⟩:=this
   exact⟨x,hx,by simpa using hn⟩
  have h1: ∀l:List UInt8,x∈l→x∈l.dropWhile zero1:=by
   intro l
   induction l with
   |nil=>intro q;simp at q
   |cons d l ih=>
    intro q
    by_cases hd:zero1 d=true
    ·rw[List.dropWhile_cons_of_pos hd]
     rcases List.mem_cons.1 q with q|q
     ·subst q;rw[hn]at hd;cases hd
     ·exact ih q
    ·rw[List.dropWhile_cons_of_neg hd];exact q
  have h2:=h1 _ (List.mem_reverse.2 (h1 _ (List.mem_reverse.2 hx)))
  cases hq:(List.dropWhile zero1 (List.dropWhile zero1 t.reverse).reverse)with
  |nil=>rw[hq]at h2;simp at h2
  |cons a b=>rfl
theorem good_is (t:ByteArray) (h:t.size=256):good t.data.toList=t.data.toList.all zero1:=by
 unfold good
 rw[←Lib.size_eq,decide_eq_true h,Bool.true_and];rfl
theorem good_not (t:ByteArray) (h: ¬t.size=256):good t.data.toList=false:=by
 unfold good
 rw[←Lib.size_eq,decide_eq_false h,Bool.false_and]
end M15
namespace W15
open Strs Recs M15
open M13 (good)
open Kit (below_draws on)
theorem trim01_any (s:ByteArray) (hs:s.size≤1000000) (w:World):Calls Tryz.prog 38 #[.string s,.string ⟨#[48,49]⟩] w fun e w'=> ∃d:ByteArray,e= .returned (.string d)∧d.toList.isEmpty=s.data.toList.all zero1∧Below w.heap.size w w':=by
 refine Calls.mono (Any.strings_Trim_laid Tryz.lays160 W14.info256 s ⟨#[48,49]⟩ w (by omega) (by decide) (Go.Proofs.ascii_of_all (by decide))) ?_
 rintro e w1 ⟨rfl,hb⟩
 refine⟨_,rfl,?_,hb⟩
 rw[←trim_01,Lib.toList_data,W14.bytes_mk]
 show(Lib.trimS s.data.toList [48,49]).isEmpty=_
 cases Lib.trimS s.data.toList [48,49]<;>rfl
theorem isPlace_any (a:Int) (n:Nat) (w:World):Calls Tryz.prog 157 #[.int .i64 a,.int .i64 n] w fun e w'=>e= .returned (.bool (place a n))∧w'=w:=by
 unfold place
 by_cases h1:0≤a
 ·by_cases h2:a<n
  ·rw[decide_eq_true h1,decide_eq_true h2]
   go_enter Tryz.func157,Tryz.ntmps157
   go_wp2_with fail
   go_ret
   exact⟨rfl,rfl⟩
  ·rw[decide_eq_true h1,decide_eq_false h2]
   go_enter Tryz.func157,Tryz.ntmps157
   go_wp2_with fail
   go_ret
   exact⟨rfl,rfl⟩
 ·rw[decide_eq_false h1,Bool.false_and]
  go_enter Tryz.func157,Tryz.ntmps157
  go_wp2_with fail
  go_ret
  exact⟨rfl,rfl⟩
theorem isText_any (x:Inst) (w:World):Calls Tryz.prog 138 #[.agg (insA x)] w fun e w'=>e= .returned (.bool (txtOk x.kind x.text))∧Below w.heap.size w w':=by
 obtain⟨k,t,a,b⟩:=x
 unfold txtOk
 simp only
 by_cases h1:k=1
 ·subst h1
  rw[if_pos rfl]
  by_cases hz:t.size=1
  ·rw[decide_eq_true hz]
   have tz:((t.size:Int)==1)=true:=by simp[hz]
   clear hz
   go_enter Tryz.func138,Tryz.ntmps138
   go_wp2_with (first
    |(refine box_ins (r:=⟨1,t,a,b⟩) rfl (.tmp 0) rfl rfl ?_;intro w1 b1 e1 p1 l1 z1;have c0:=p1.c0;have c1:=p1.c1;have L1:=hid l1;clear e1 p1 l1 z1;simp only at c0 c1))
   go_ret
   exact⟨rfl,L1.out⟩
  ·rw[decide_eq_false hz]
   have tz:((t.size:Int)==1)=false:=by simp;omega
   clear hz
   go_enter Tryz.func138,Tryz.ntmps138
   go_wp2_with (first
    |(refine box_ins (r:=⟨1,t,a,b⟩) rfl (.tmp 0) rfl rfl ?_;intro w1 b1 e1 p1 l1 z1;have c0:=p1.c0;have c1:=p1.c1;have L1:=hid l1;clear e1 p1 l1 z1;simp only at c0 c1))
   go_ret
   exact⟨rfl,L1.out⟩
 ·rw[if_neg h1]
  have t1:(k==1)=false:=by simpa using h1
  by_cases h3:k=3
  ·subst h3
   rw[if_pos rfl]
   by_cases hz:t.size=256
   ·rw[good_is t hz]
    have tz:((t.size:Int)==256)=true:=by simp[hz]
    have HT:=hid (fun w=>trim01_any t (by omega) w)
    clear hz
    generalize t.data.toList.all zero1=g at*
    go_enter Tryz.func138,Tryz.ntmps138
    go_wp2_with (first
     |(refine box_ins (r:=⟨3,t,a,b⟩) rfl (.tmp 0) rfl rfl ?_;intro w1 b1 e1 p1 l1 z1;have c0:=p1.c0;have c1:=p1.c1;have L1:=hid l1;clear e1 p1 l1 z1;simp only at c0 c1))
    refine(HT.out _).mono ?_
    rintro e w2 ⟨d,rfl,hd,l2⟩
    have L2:=hid (on L1.out l2)
    clear l2
    go_wp2_with fail
    go_ret
    exact⟨rfl,L2.out⟩
   ·rw[good_not t hz]
    have tz:((t.size:Int)==256)=false:=by simp;omega
    clear hz
    go_enter Tryz.func138,Tryz.ntmps138
    go_wp2_with (first
     |(refine box_ins (r:=⟨3,t,a,b⟩) rfl (.tmp 0) rfl rfl ?_;intro w1 b1 e1 p1 l1 z1;have c0:=p1.c0;have c1:=p1.c1;have L1:=hid l1;clear e1 p1 l1 z1;simp only at c0 c1))
    go_ret
    exact⟨rfl,L1.out⟩
  ·rw[if_neg h3]
   have t3:(k==3)=false:=by simpa using h3
   clear h1 h3
   by_cases hz:t.size=0
   ·rw[decide_eq_true hz]
    have te:=Kit.list_none (s:=t) (by omega)
    clear hz
    go_enter Tryz.func138,Tryz.ntmps138
    go_wp2_with (first
     |(refine box_ins (r:=⟨k,t,a,b⟩) rfl (.tmp 0) rfl rfl ?_;intro w1 b1 e1 p1 l1 z1;have c0:=p1.c0;have c1:=p1.c1;have L1:=hid l1;clear e1 p1 l1 z1;simp only at c0 c1))
    go_ret
    exact⟨rfl,L1.out⟩
   ·rw[decide_eq_false hz]
    have te:=Kit.list_full (s:=t) (by omega)
    clear hz
    go_enter Tryz.func138,Tryz.ntmps138
    go_wp2_with (first
     |(refine box_ins (r:=⟨k,t,a,b⟩) rfl (.tmp 0) rfl rfl ?_;intro w1 b1 e1 p1 l1 z1;have c0:=p1.c0;have c1:=p1.c1;have L1:=hid l1;clear e1 p1 l1 z1;simp only at c0 c1))
    go_ret
    exact⟨rfl,L1.out⟩
end W15
namespace M16
open Go M15
open M13 (has)
abbrev Text:=List UInt8
abbrev Mark:=Nat×Nat
def ins (L:List Inst) (i:Nat):Inst:=L.getD i ⟨0,no,0,0⟩
def eps (x:Inst) (n q:Nat):List Nat:=
 if x.kind=6 then[x.x.toNat,x.y.toNat]else if x.kind=8 then[x.x.toNat]else if x.kind=4 then(if q=0 then[x.x.toNat]else[])else if x.kind=5 then(if q=n then[x.x.toNat]else[])else[]
def takes (x:Inst) (c:UInt8):Bool:=
 if x.kind=1 then decide (x.text.data.toList.head? =some c)else if x.kind=2 then decide (c≠10)else if x.kind=3 then has x.text.data.toList c.toNat else false
inductive Reach (L:List Inst) (s:Text) (b:Nat):Nat→Nat→Prop where
 |start:Reach L s b 0 b
 |on {i q j:Nat}:Reach L s b i q→j∈eps (ins L i) s.length q→Reach L s b j q
 |byte {i q:Nat} {c:UInt8}:Reach L s b i q→s[q]? =some c→takes (ins L i) c=true→Reach L s b (ins L i).x.toNat (q+1)
def EndsAt (L:List Inst) (s:Text) (b q:Nat):Prop:= ∃i,(ins L i).kind=7∧Reach L s b i q
inductive ER (L:List Inst) (n q:Nat):Nat→Nat→Prop where
 |refl (i:Nat):ER L n q i i
 |step {i j k:Nat}:ER L n q i j→k∈eps (ins L j) n q→ER L n q i k
structure Fair (L:List Inst):Prop where
 some_:0<L.length
 eps_: ∀i n q j,j∈eps (ins L i) n q→j<L.length
 byte_: ∀i c,takes (ins L i) c=true→(ins L i).x.toNat<L.length
section
variable {L:List Inst} {s:Text} {b i j q n t:Nat}
theorem Reach.er (h:Reach L s b i q) (e:ER L s.length q i j):Reach L s b j q:=by
 induction e with
 |refl=>exact h
 |step _ hk ih=>exact ih.on hk
theorem Reach.le (h:Reach L s b i q):b≤q:=by
 induction h with
 |start=>exact Nat.le_refl _
 |on _ _ ih=>exact ih
 |byte _ _ _ ih=>omega
theorem Reach.in_ (h:Reach L s b i q) (hb:b≤s.length):q≤s.length:=by
 induction h with
 |start=>exact hb
 |on _ _ ih=>exact ih
 |byte _ hc _ _=>
  have:=(List.getElem?_eq_some_iff.1 hc).1
  omega
theorem Reach.cases (h:Reach L s b j q):(q=b∧ER L s.length q 0 j)∨ ∃q0 i c,q=q0+1∧Reach L s b i q0∧s[q0]? =some c∧takes (ins L i) c=true∧ER L s.length q (ins L i).x.toNat j:=by
 induction h with
 |start=>exact Or.inl ⟨rfl,.refl _⟩
 |on _ hk ih=>
  rcases ih with⟨rfl,e⟩|⟨q0,i,c,rfl,h1,h2,h3,h4⟩
  ·exact Or.inl ⟨rfl,e.step hk⟩
  ·exact Or.inr ⟨q0,i,c,rfl,h1,h2,h3,h4.step hk⟩
 |byte h hc ht _=>exact Or.inr ⟨_,_,_,rfl,h,hc,ht,.refl _⟩
theorem Reach.mid (h:Reach L s b i t): ∀q,b≤q→q≤t→ ∃j,Reach L s b j q:=by
 induction h with
 |start=>intro q h1 h2;have:q=b:=by omega
         subst this;exact⟨_,.start⟩
 |on _ _ ih=>exact ih
 |byte h hc ht ih=>
  intro q' h1 h2
  rcases Nat.lt_or_ge q' _ with hlt|hge
  ·exact ih q' h1 (Nat.le_of_lt_succ hlt)
  ·have:=Nat.le_antisymm h2 hge
   subst this
   exact⟨_,h.byte hc ht⟩
end
/-! marks -/
def steps (M:List Mark):List Nat:=M.map Prod.fst
def put (M:List Mark) (m:Mark):List Mark:=if M.any (fun x=>x.1==m.1)then M else M++ [m]
def puts (M:List Mark) (l:List Nat) (b:Nat):List Mark:=l.foldl (fun M j=>put M (j,b)) M
def go (L:List Inst) (n q b:Nat):Nat→Nat→List Mark→List Mark
 |0,_,M=>M
 |f+1,i,M=>match M[i]? with
  |none=>M
  |some m=>go L n q b f (i+1) (puts M (eps (ins L m.1) n q) b)
def goOn (L:List Inst) (n q:Nat) (M:List Mark) (m:Mark):List Mark:=go L n q m.2 L.length M.length (put M m)
section
variable {L:List Inst} {M:List Mark} {m:Mark} {n q b i j:Nat}
theorem any_steps:M.any (fun x=>x.1==m.1)=true↔m.1∈steps M:=by
 unfold steps
 simp
theorem put_old (h:m.1∈steps M):put M m=M:=by unfold put;rw[if_pos (any_steps.2 h)]
theorem put_new (h:m.1∉steps M):put M m=M++ [m]:=by unfold put;rw[if_neg (fun e=>h (any_steps.1 e))]
theorem put_pre (M:List Mark) (m:Mark):M<+:put M m:=by
 unfold put
 split
 ·exact List.prefix_refl _
 ·exact List.prefix_append _ _
theorem put_has (M:List Mark) (m:Mark):m.1∈steps (put M m):=by
 by_cases h:m.1∈steps M
 ·rw[put_old h];exact h
 ·rw[put_new h];unfold steps;simp
theorem put_mem {x:Mark} (h:x∈put M m):x∈M∨x=m:=by
 by_cases c:m.1∈steps M
 ·rw[put_old c]at h;exact Or.inl h
 ·rw[put_new c]at h;simpa using h
theorem put_nodup (h:(steps M).Nodup):(steps (put M m)).Nodup:=by
 by_cases c:m.1∈steps M
 ·rw[put_old c];exact h
 ·rw[put_new c]
  unfold steps at*
  rw[List.map_append,List.nodup_append]
  refine⟨h,by simp,?_⟩
  intro a ha b hb e
  simp at hb
  subst hb e
  exact c ha
theorem steps_pre {M M':List Mark} (h:M<+:M') (hj:j∈steps M):j∈steps M':=by
 unfold steps at*
 obtain⟨x,hx,rfl⟩:=List.mem_map.1 hj
 exact List.mem_map.2 ⟨x,h.subset hx,rfl⟩
theorem puts_pre (l:List Nat) (b:Nat): ∀M:List Mark,M<+:puts M l b:=by
 unfold puts
 induction l with
 |nil=>intro M;exact List.prefix_refl _
 |cons x l ih=>intro M;exact(put_pre M (x,b)).trans (ih _)
theorem puts_has {l:List Nat} {b:Nat}: ∀ {M:List Mark},j∈l→j∈steps (puts M l b):=by
 unfold puts
 induction l with
 |nil=>intro M h;simp at h
 |cons x l ih=>
  intro M h
  rcases List.mem_cons.1 h with rfl|h
  ·exact steps_pre (puts_pre l b _) (put_has M (j,b))
  ·exact ih h
theorem puts_mem {l:List Nat} {b:Nat} {x:Mark}: ∀ {M:List Mark},x∈puts M l b→x∈M∨(x.1∈l∧x.2=b):=by
 unfold puts
 induction l with
 |nil=>intro M h;exact Or.inl h
 |cons y l ih=>
  intro M h
  rcases ih h with h|⟨h1,h2⟩
  ·rcases put_mem h with h|rfl
   ·exact Or.inl h
   ·exact Or.inr ⟨by simp,rfl⟩
  ·exact Or.inr ⟨by simp[h1],h2⟩
theorem puts_nodup {l:List Nat} {b:Nat}: ∀ {M:List Mark},(steps M).Nodup→(steps (puts M l b)).Nodup:=by
 unfold puts
 induction l with
 |nil=>intro M h;exact h
 |cons y l ih=>intro M h;exact ih (put_nodup h)
theorem nodup_le: ∀(n:Nat) {l:List Nat},l.Nodup→(∀x∈l,x<n)→l.length≤n
 |0,[],_,_=>Nat.le_refl _
 |0,x::l,_,h=>absurd (h x (by simp)) (by omega)
 |n+1,l,hn,h=>by
  by_cases c:n∈l
  ·have h1:=nodup_le n (l:=l.erase n) (hn.erase n) (fun x hx=>by
     have h2:=h x (List.mem_of_mem_erase hx)
     have h3:x≠n:=fun e=>by subst e;exact(List.Nodup.not_mem_erase hn) hx
     omega)
   rw[List.length_erase_of_mem c]at h1
   have:=List.length_pos_of_mem c
   omega
  ·have h1:=nodup_le n hn (fun x hx=>by
     have h2:=h x hx
     have h3:x≠n:=fun e=>by subst e;exact c hx
     omega)
   omega
structure Row (L:List Inst) (n q:Nat) (M:List Mark):Prop where
 nodup:(steps M).Nodup
 low: ∀x∈M,x.1<L.length
 shut: ∀x∈M,∀j∈eps (ins L x.1) n q,j∈steps M
 rise:M.Pairwise fun x y=>x.2≤y.2
theorem Row.nil (L:List Inst) (n q:Nat):Row L n q []:=⟨by simp[steps],by simp,by simp,.nil⟩
theorem Row.len (h:Row L n q M):M.length≤L.length:=by
 have:=nodup_le L.length h.nodup (fun x hx=>by
  obtain⟨y,hy,rfl⟩:=List.mem_map.1 hx
  exact h.low y hy)
 simpa [steps]using this
structure Going (L:List Inst) (n q b i0:Nat) (M0:List Mark) (i:Nat) (M:List Mark):Prop where
 pre:M0<+:M
 nodup:(steps M).Nodup
 low: ∀x∈M,x.1<L.length
 from_: ∀x∈M,x∈M0∨(x.2=b∧ER L n q i0 x.1)
 shut: ∀k x,k<i→M[k]? =some x→ ∀j∈eps (ins L x.1) n q,j∈steps M
 has:i0∈steps M
theorem Going.next {i0:Nat} {M0:List Mark} {x:Mark} (hf:Fair L) (h:Going L n q b i0 M0 i M) (hM:M0.length≤i) (h0: ∀y∈M0,∀j∈eps (ins L y.1) n q,j∈steps M) (hx:M[i]? =some x):Going L n q b i0 M0 (i+1) (puts M (eps (ins L x.1) n q) b):=by
 have hpre:=puts_pre (eps (ins L x.1) n q) b M
 refine⟨h.pre.trans hpre,puts_nodup h.nodup,fun y hy=> ?_,fun y hy=> ?_,fun k y hk hy j hj=> ?_,steps_pre hpre h.has⟩
 ·rcases puts_mem hy with h1|⟨h1,-⟩
  ·exact h.low y h1
  ·exact hf.eps_ _ _ _ _ h1
 ·rcases puts_mem hy with h1|⟨h1,h2⟩
  ·exact h.from_ y h1
  ·have hxm:=List.mem_of_getElem? hx
   rcases h.from_ x hxm with h3|⟨h3,h4⟩
   ·have h5:=h0 x h3 _ h1
    obtain⟨z,hz,e⟩:=List.mem_map.1 h5
    -- x's step was there before:its own kids are marked already
    have h6:y∈M:=by
     have hnd:=puts_nodup (l:=eps (ins L x.1) n q) (b:=b) h.nodup
     have hzp:=hpre.subset hz
     have:z=y:=by
      have hi:=List.pairwise_map.1 hnd
      by_cases hzy:z=y
      ·exact hzy
      ·exfalso
       obtain⟨k1,hk1,e1⟩:=List.mem_iff_getElem.1 hzp
       obtain⟨k2,hk2,e2⟩:=List.mem_iff_getElem.1 hy
       have hp:=List.pairwise_iff_getElem.1 hi
       rcases Nat.lt_trichotomy k1 k2 with q1|q1|q1
       ·have:=hp k1 k2 hk1 hk2 q1
        rw[e1,e2]at this
        exact this e
       ·subst q1;exact hzy (e1.symm.trans e2)
       ·have:=hp k2 k1 hk2 hk1 q1
        rw[e1,e2]at this
        exact this e.symm
     rw[←this];exact hz
    exact h.from_ y h6
   ·exact Or.inr ⟨h2,h4.step h1⟩
 ·have hlt:k<M.length∨M.length≤k:=Nat.lt_or_ge _ _
  have hi:=(List.getElem?_eq_some_iff.1 hx).1
  have hky:M[k]? =some y:=by
   obtain⟨r,hr⟩:=hpre
   rw[←hr,List.getElem?_append_left (by omega)]at hy
   exact hy
  by_cases hki:k=i
  ·subst hki
   rw[hx]at hky
   cases hky
   exact puts_has hj
  ·exact steps_pre hpre (h.shut k y (by omega) hky j hj)
theorem go_going {i0:Nat} {M0:List Mark} (hf:Fair L): ∀(f:Nat) {i:Nat} {M:List Mark},Going L n q b i0 M0 i M→M0.length≤i→(∀y∈M0,∀j∈eps (ins L y.1) n q,j∈steps M0)→L.length≤i+f→ ∃i',Going L n q b i0 M0 i' (go L n q b f i M)∧(go L n q b f i M).length≤i'
 |0,i,M,h,_,_,hl=>by
  refine⟨i,h,?_⟩
  have:=nodup_le L.length h.nodup (fun x hx=>by
   obtain⟨y,hy,rfl⟩:=List.mem_map.1 hx
   exact h.low y hy)
  simp[steps]at this
  show M.length≤i
  omega
 |f+1,i,M,h,hM,h0,hl=>by
  unfold go
  split
  ·rename_i hn
   exact⟨i,h,List.getElem?_eq_none_iff.1 hn⟩
  ·rename_i x hx
   exact go_going hf f (h.next hf hM (fun y hy j hj=>steps_pre h.pre (h0 y hy j hj)) hx) (by omega) h0 (by omega)
structure Went (L:List Inst) (n q:Nat) (m:Mark) (M M':List Mark):Prop where
 pre:M<+:M'
 row:Row L n q M'
 from_: ∀x∈M',x∈M∨(x.2=m.2∧ER L n q m.1 x.1)
 all: ∀j,ER L n q m.1 j→ ∃x∈M',x.1=j∧x.2≤m.2
theorem goOn_went (hf:Fair L) (h:Row L n q M) (hm:m.1<L.length) (hb: ∀x∈M,x.2≤m.2):Went L n q m M (goOn L n q M m):=by
 obtain⟨i',hg,hi⟩:=go_going (b:=m.2) (i0:=m.1) (M0:=M) hf L.length (i:=M.length) (M:=put M m) ⟨put_pre M m,put_nodup h.nodup,fun x hx=>by
     rcases put_mem hx with h1|rfl
     ·exact h.low x h1
     ·exact hm,fun x hx=>by
     rcases put_mem hx with h1|rfl
     ·exact Or.inl h1
     ·exact Or.inr ⟨rfl,.refl _⟩,fun k x hk hx j hj=>by
     have h1:M[k]? =some x:=by
      obtain⟨r,hr⟩:=put_pre M m
      rw[←hr,List.getElem?_append_left hk]at hx
      exact hx
     exact steps_pre (put_pre M m) (h.shut x (List.mem_of_getElem? h1) j hj),put_has M m⟩ (Nat.le_refl _) h.shut (by omega)
 change Going L n q m.2 m.1 M i' (goOn L n q M m)at hg
 change (goOn L n q M m).length≤i' at hi
 generalize goOn L n q M m=R at*
 have hshut: ∀x∈R,∀j∈eps (ins L x.1) n q,j∈steps R:=fun x hx j hj=>by
  obtain⟨k,hk,rfl⟩:=List.mem_iff_getElem.1 hx
  exact hg.shut k _ (by omega) (List.getElem?_eq_getElem hk) j hj
 have hle: ∀x∈R,x.2≤m.2:=fun x hx=>by
  rcases hg.from_ x hx with h1|⟨h1,-⟩
  ·exact hb x h1
  ·omega
 have hall: ∀j,ER L n q m.1 j→j∈steps R:=fun j he=>by
  induction he with
  |refl=>exact hg.has
  |step _ hk ih=>
   obtain⟨x,hx,rfl⟩:=List.mem_map.1 ih
   exact hshut x hx _ hk
 refine⟨hg.pre,⟨hg.nodup,hg.low,hshut,?_⟩,hg.from_,fun j hj=> ?_⟩
 ·obtain⟨N,rfl⟩:=hg.pre
  rw[List.pairwise_append]
  have hN: ∀x∈N,x.2=m.2∨x∈M:=fun x hx=>by
   rcases hg.from_ x (by simp[hx])with h1|⟨h1,-⟩
   ·exact Or.inr h1
   ·exact Or.inl h1
  have hNd: ∀x∈N,x∉M:=fun x hx hxM=>by
   have:=hg.nodup
   unfold steps at this
   rw[List.map_append,List.nodup_append]at this
   exact this.2.2 x.1 (List.mem_map.2 ⟨x,hxM,rfl⟩) x.1 (List.mem_map.2 ⟨x,hx,rfl⟩) rfl
  have hNe: ∀x∈N,x.2=m.2:=fun x hx=>by
   rcases hN x hx with h1|h1
   ·exact h1
   ·exact absurd h1 (hNd x hx)
  refine⟨h.rise,?_,fun x hx y hy=> ?_⟩
  ·exact List.Pairwise.imp_of_mem (R:=fun _ _=>True) (fun ha hb _=>by rw[hNe _ ha,hNe _ hb];exact Nat.le_refl _) (List.pairwise_of_forall (fun _ _=>trivial))
  ·rw[hNe y hy];exact hb x hx
 ·obtain⟨x,hx,rfl⟩:=List.mem_map.1 (hall j hj)
  exact⟨x,hx,rfl,hle x hx⟩
end
end M16
end Go.Proofs.YtfgegjinhkgpbaaGreatDoor
