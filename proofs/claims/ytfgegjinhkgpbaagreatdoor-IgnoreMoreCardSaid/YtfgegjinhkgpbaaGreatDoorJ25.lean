/-
  Texts joined, in build order, each with its own comment and its own conditions: W14RefRows, W14RefAll, W14RefParse, W13Next, W13RefMath.
-/
import Derived.Test.YtfgegjinhkgpbaaGreatDoorJ22
import Derived.Test.YtfgegjinhkgpbaaGreatDoorJ17
import Derived.Test.YtfgegjinhkgpbaaGreatDoorJ24
import Derived.Test.YtfgegjinhkgpbaaGreatDoorJ01
import Derived.Test.YtfgegjinhkgpbaaGreatDoorTake
import Derived.Test.YtfgegjinhkgpbaaGreatDoorJ23
import Derived.Test.YtfgegjinhkgpbaaGreatDoorJ09
import Derived.Deep.RegionHeld3
import Derived.BigQuiet
namespace Go.Proofs.YtfgegjinhkgpbaaGreatDoor
set_option maxHeartbeats 4000000
set_option maxRecDepth 100000
open Go.RowKit
open Lib (hid)
namespace W14
open Strs Recs M14
open Row256 (Beside)
open Kit (below_draws on)
section
variable {R:Nat→Nat→Option Got} {S:List UInt8} {deep k at_:Nat} {acc:List Piece} {g:Got}
theorem rowsL_no {q:Nat} {er:Int} (hp:row R S deep (S.length+1) at_ []=some (.bad q er)) (hr:rowsL R S deep (k+1) at_ acc=some g):g= .bad q er:=by
 unfold rowsL at hr
 rw[hp]at hr
 injection hr with hr
 exact hr.symm
theorem rowsL_fin {p:Piece} {to:Nat} (hp:row R S deep (S.length+1) at_ []=some (.ok p to)) (ht:to=S.length∨S.getD to 0≠124) (hr:rowsL R S deep (k+1) at_ acc=some g):g= .ok (together 8 (acc++ [p])) to:=by
 unfold rowsL at hr
 rw[hp]at hr
 simp only at hr
 rw[if_pos ht]at hr
 injection hr with hr
 exact hr.symm
end
section
variable {w:World} {s:ByteArray} {at_ deep:Nat}
theorem refRows_any {R:Nat→Nat→Option Got} (hA: ∀a,at_≤a→a<s.size→RAtomOk R s a deep) (hF:deep≠64→ ∀to,at_<to→to≤s.size→ ∃g,R to (deep+1)=some g∧Fine s.data.toList to g) (hat:at_≤s.size) (hs:s.size≤900) {g:Got} (hg:rowsL R s.data.toList deep (s.data.toList.length+1) at_ []=some g):
    Calls Tryz.prog 47 #[.string s,.int .i64 at_,.int .i64 deep] w (Gots w g):=by
 have hlen:s.data.toList.length=s.size:=(Lib.size_eq s).symm
 have HG:=hid hg
 have HA:=hid hA
 have HF:=hid hF
 have HLEN:=hid hlen
 have HS:=hid hs
 have HAT:=hid hat
 clear hg hA hF hlen hs hat
 go_enter Tryz.func47,Tryz.ntmps47
 go_wp2_with (first|(refine alloc_got rfl rfl ?_;intro w1 b1 e1 p1 l1 z1))
 have G1:=hid p1
 have L1:=hid l1
 have HB:=hid (show w.heap.size≤b1∧b1<w1.heap.size from⟨by omega,by omega⟩)
 clear e1 p1 l1 z1
 go_loopg [1,7] s.size (fun gk s1 s7 wr=> ∃(a:Nat) (acc:List Piece),s1= .int .i64 a∧Hid (at_≤a∧a≤s.size∧acc.length≤a)∧Hid (rowsL R s.data.toList deep (gk+1) a acc=some g)∧Hid (Build 56 w1.heap.size wr s7 acc)∧Hid (GBox wr b1 zeroR 0 0 0)∧Hid (Below w.heap.size w wr)∧Hid (w1.heap.size≤wr.heap.size))
 case atStart=>
  refine⟨at_,[],rfl,⟨Nat.le_refl _,HAT.out,Nat.zero_le _⟩,?_,Build.nil _ _ _,G1,L1,Nat.le_refl _⟩
  show rowsL R _ _ _ _ _=_
  rw[←HLEN.out];exact HG.out
 case round=>
  obtain⟨a,acc,rfl,ha,hrow,hbuild,hbox,hbel,hsz⟩:=hrel
  obtain⟨g0,hg0,hf0⟩:=row_fine (R:=R) (S:=s.data.toList) (deep:=deep) (lo:=a) (by rw[HLEN.out];exact HS.out) (fun hd to h1 h2=>HF.out hd to (Nat.lt_of_le_of_lt ha.out.1 h1) (by rw[HLEN.out]at h2;exact h2)) (s.data.toList.length+1) a [] (Nat.le_refl _) (by rw[HLEN.out];exact ha.out.2.1) (by have:=HLEN.out;omega) (Nat.zero_le _) (by simp)
  have HC:=hid (fun w=>refRow_any (w:=w) (fun b h1 h2=>HA.out b (Nat.le_trans ha.out.1 h1) h2) ha.out.2.1 HS.out hg0)
  obtain⟨A,c,rfl,hA1,hA2⟩:=hbuild.out.len
  unfold maxLen at hA2
  rcases g0 with⟨p,to⟩|⟨qb,er⟩
  rotate_left
  ·have HX:=hid (rowsL_no hg0 hrow.out)
   clear hg0 hf0 hrow
   go_wp2_with fail
   refine(HC.out _).mono ?_
   rintro e w4 ⟨l4,he,tq,rfl⟩
   have G4:=hid (hbox.out.below l4)
   have L4:=hid (hbel.out.trans (l4.mono hbel.out.size))
   have te:(er !=0)=true:=by simpa using he
   have HE:=hid he
   clear l4 he
   go_wp2_with (first
    |(refine alloc_got rfl rfl ?_;intro w5 b3 e5 p5 l5 z5)
    |(refine store_got (r:=zeroR) (to:=tq) (e:=er) (bad:=(qb:Int)) rfl (.tmp 8) (.tmp 12) rfl rfl rfl p5 ?_;intro w6 p6 l6 z6;have L6:=hid (two_new l5 l6 e5);have G6:=hid (G4.out.below L6.out);have L6':=hid (L4.out.trans (L6.out.mono L4.out.size));have Q6:=hid p6;have k6:=p6.c6;clear e5 p5 l5 z5 p6 l6 z6)
    |(refine load_got rfl (.tmp 8) rfl rfl Q6.out ?_)
    |(refine store_got (r:=zeroR) (to:=tq) (e:=er) (bad:=(qb:Int)) rfl (.tmp 6) (.tmp 16) rfl rfl rfl G6.out ?_;intro w9 p9 l9 z9))
   refine end_got rfl rfl p9 rfl ?_
   rw[HX.out]
   exact⟨old_below L6'.out l9 HB.out.1,HE.out,tq,rfl⟩
  ·have HTO:Hid (a≤to∧to≤s.size∧(acc++ [p]).length≤to+1∧acc.length≤1000000):=by
     have h1:=hf0.1
     have h2:=hf0.2.1
     have h3:=HLEN.out
     have h4:=ha.out
     have h5:=HS.out
     refine⟨by omega,by omega,?_,by omega⟩
     rw[List.length_append]
     show acc.length+1≤to+1
     omega
   by_cases hlt:to<s.size
   ·have hlt2:(to:Int)<(s.size:Int):=by omega
    have ti:=int_no (show¬to=s.size by omega)
    have hga:=getD_at' hlt
    by_cases h124:s[to]=124
    ·have t124:((s[to].toNat:Int)==124)=true:=u8y h124
     have n124:((s[to].toNat:Int) !=124)=false:=by show(!((s[to].toNat:Int)==124))=false;rw[t124];rfl
     have hno: ¬(to=s.data.toList.length∨s.data.toList.getD to 0≠124):=by
      rintro(q|q)
      ·rw[HLEN.out]at q;omega
      ·exact q (by rw[hga];exact h124)
     have HON:=hid (rowsL_on hg0 hno hrow.out)
     have hw:wrap64 ((to:Int)+1)=((to+1:Nat):Int):=by have:=HS.out;unfold wrap64;omega
     have HT2:=hid (show at_≤to+1∧to+1≤s.size∧(acc++ [p]).length≤to+1 from⟨Nat.le_succ_of_le (Nat.le_trans ha.out.1 HTO.out.1),hlt,HTO.out.2.2.1⟩)
     clear hno h124 hga hg0 hf0 hrow
     go_wp2_with fail
     refine(HC.out _).mono ?_
     rintro e w4 ⟨l4,r,rfl,hp⟩
     have G4:=hid (hbox.out.below l4)
     have U4:=hid (hbuild.out.below l4)
     have L4:=hid (hbel.out.trans (l4.mono hbel.out.size))
     have A4:=hid hp
     have Z4:=hid l4.size
     clear l4 hp
     go_upto_region 6 with(first
      |(refine alloc_got rfl rfl ?_;intro w5 b3 e5 p5 l5 z5)
      |(refine store_got (r:=r) (to:=((to:Nat):Int)) (e:=0) (bad:=0) rfl (.tmp 8) (.tmp 12) rfl rfl rfl p5 ?_;intro w6 p6 l6 z6;have L6:=hid (two_new l5 l6 e5);have Q6:=hid p6;have k5:=p6.c5;have k6:=p6.c6;have ZB:=hid (show wr.heap.size≤b3 from e5▸Z4.out);clear e5 p5 l5 z5 p6 l6 z6)
      |(refine load_at rfl (.tmp 18) rfl rfl (r:=r) (fun j hj=>Q6.out.raw j hj) ?_)
      |(refine slice_piece rfl (.tmp 19) rfl (r:=r) rfl ?_;intro w7 b7 e7 r7 l7 z7;have L7:=hid (L6.out.trans (l7.mono L6.out.size));have U7:=hid (U4.out.below L7.out);have A7:=hid (A4.out.by_below L7.out);have Q7:=hid (Q6.out.below l7);have R7:=hid r7;clear e7 r7 l7 z7 k5 k6)
      |(refine append_piece rfl (.tmp 17) (.tmp 20) rfl rfl rfl U7.out hbuild.out.own_lt hsz.out (Nat.le_trans hsz.out (Nat.le_trans Z4.out L7.out.size)) R7.out A7.out HTO.out.2.2.2 ?_;intro v' w8 U8 g8;have HU:=hid U8;have G8:=hid (grown_got U7.out g8 HB.out.2 (G4.out.below L7.out));have L8:=hid (grown_under U7.out g8 L1.out.size (L4.out.trans (L7.out.mono L4.out.size)));have Z8:Hid (w1.heap.size≤w8.heap.size):=(by obtain⟨_,_,_,g,_⟩:=g8;exact Nat.le_trans hsz.out (Nat.le_trans Z4.out (Nat.le_trans L7.out.size g)));have kk:=grown_cell U7.out g8 Q7.out hbuild.out ZB.out;clear U8 g8))
     clear R7 Q7 A7 U7 L7 Q6 L6 A4 U4 L4 G4 hbuild hbox hbel hsz Z4 ZB
     cases gk with
     |zero=>exact absurd HON.out (by simp[rowsL])
     |succ gk2=>
      go_wp2_with fail
      go_roundg gk2
      case measure=>exact Nat.lt_succ_self _
      case rel=>exact⟨to+1,acc++ [p],congrArg (Value.int .i64) hw,HT2,HON,HU,G8,L8,Z8⟩
    ·have t124:((s[to].toNat:Int)==124)=false:=u8n h124
     have n124:((s[to].toNat:Int) !=124)=true:=by show(!((s[to].toNat:Int)==124))=true;rw[t124];rfl
     have HX:=hid (rowsL_fin hg0 (.inr (by rw[hga];exact h124)) hrow.out)
     clear h124 hga hg0 hf0 hrow
     go_wp2_with fail
     refine(HC.out _).mono ?_
     rintro e w4 ⟨l4,r,rfl,hp⟩
     have G4:=hid (hbox.out.below l4)
     have U4:=hid (hbuild.out.below l4)
     have L4:=hid (hbel.out.trans (l4.mono hbel.out.size))
     have A4:=hid hp
     have Z4:=hid l4.size
     clear l4 hp
     go_upto_region 6 with(first
      |(refine alloc_got rfl rfl ?_;intro w5 b3 e5 p5 l5 z5)
      |(refine store_got (r:=r) (to:=((to:Nat):Int)) (e:=0) (bad:=0) rfl (.tmp 8) (.tmp 12) rfl rfl rfl p5 ?_;intro w6 p6 l6 z6;have L6:=hid (two_new l5 l6 e5);have Q6:=hid p6;have k5:=p6.c5;have k6:=p6.c6;have ZB:=hid (show wr.heap.size≤b3 from e5▸Z4.out);clear e5 p5 l5 z5 p6 l6 z6)
      |(refine load_at rfl (.tmp 18) rfl rfl (r:=r) (fun j hj=>Q6.out.raw j hj) ?_)
      |(refine slice_piece rfl (.tmp 19) rfl (r:=r) rfl ?_;intro w7 b7 e7 r7 l7 z7;have L7:=hid (L6.out.trans (l7.mono L6.out.size));have U7:=hid (U4.out.below L7.out);have A7:=hid (A4.out.by_below L7.out);have Q7:=hid (Q6.out.below l7);have R7:=hid r7;clear e7 r7 l7 z7 k5 k6)
      |(refine append_piece rfl (.tmp 17) (.tmp 20) rfl rfl rfl U7.out hbuild.out.own_lt hsz.out (Nat.le_trans hsz.out (Nat.le_trans Z4.out L7.out.size)) R7.out A7.out HTO.out.2.2.2 ?_;intro v' w8 U8 g8;have HU:=hid U8;have G8:=hid (grown_got U7.out g8 HB.out.2 (G4.out.below L7.out));have L8:=hid (grown_under U7.out g8 L1.out.size (L4.out.trans (L7.out.mono L4.out.size)));have Z8:Hid (w1.heap.size≤w8.heap.size):=(by obtain⟨_,_,_,g,_⟩:=g8;exact Nat.le_trans hsz.out (Nat.le_trans Z4.out (Nat.le_trans L7.out.size g)));have kk:=grown_cell U7.out g8 Q7.out hbuild.out ZB.out;clear U8 g8))
     clear R7 Q7 A7 U7 L7 Q6 L6 A4 U4 L4 G4 hbuild hbox hbel hsz Z4 ZB
     match acc,HU,HX with
     | [],HU,HX=>
      obtain⟨g1,c1,r1,rfl,hc1,hcell,hp⟩:=build_one (show Build 56 w1.heap.size w8 v' [p]from HU.out)
      have hA2:=hc1.out.2
      have hA1:=hc1.out.1
      unfold maxLen at hA2
      go_wp2_with (first
       |(refine load_at rfl (.tmp 40) rfl rfl (r:=r1) hcell.out ?_)
       |(refine build_got (r:=r1) rfl (.tmp 41) (.tmp 42) rfl rfl rfl ?_)
       |(refine store_got (r:=r1) (to:=((to:Nat):Int)) (e:=0) (bad:=0) rfl (.tmp 6) (.tmp 43) rfl rfl rfl G8.out ?_;intro w9 p9 l9 z9))
      refine end_got rfl rfl p9 rfl ?_
      rw[HX.out]
      exact⟨old_below L8.out l9 HB.out.1,r1,rfl,(hp.out.by_beside l9 HB.out.2).by_less L1.out.size⟩
     |q::l,HU,HX=>
      obtain⟨A1,c1,rfl,hc1,hp⟩:=build_many 8 HU.out (by simp)
      have hA2:=hc1.out.2
      unfold maxLen at hA2
      have HN:Hid ((q::l++ [p]).length≤901):=by have:=HTO.out;have:=HS.out;show _≤_;omega
      have t1:(((q::l++ [p]).length:Int)==1)=false:=by simpa using (by omega: ¬((l.length:Int)+1+1=1))
      have HT8:=hid (show together 8 (q::l++ [p])= .mk 8 ⟨#[]⟩ (q::l++ [p]) 0 0 by cases l<;>rfl)
      obtain⟨M,hM⟩: ∃M,q::l++ [p]=M:=⟨_,rfl⟩
      rw[hM]at t1 hp HN HT8 HX ⊢
      obtain⟨n,hn⟩: ∃n,M.length=n:=⟨_,rfl⟩
      rw[hn]at t1 hp HN ⊢
      clear hn hM HU hc1 HTO
      go_wp2_with (first
       |(refine build_got (r:=⟨8,⟨#[]⟩,A1,n,c1,0,0⟩) rfl (.tmp 45) (.tmp 46) rfl rfl rfl ?_)
       |(refine store_got (r:=⟨8,⟨#[]⟩,A1,n,c1,0,0⟩) (to:=((to:Nat):Int)) (e:=0) (bad:=0) rfl (.tmp 6) (.tmp 47) rfl rfl rfl G8.out ?_;intro w9 p9 l9 z9))
      refine end_got rfl rfl p9 rfl ?_
      rw[HX.out,HT8.out]
      exact⟨old_below L8.out l9 HB.out.1,_,rfl,(hp.out.by_beside l9 HB.out.2).by_less L1.out.size⟩
   ·have ti:=int_yes (show to=s.size by have:=HTO.out;omega)
    have HX:=hid (rowsL_fin hg0 (.inl (by have:=HTO.out;rw[HLEN.out];omega)) hrow.out)
    clear hg0 hf0 hrow hlt
    go_wp2_with fail
    refine(HC.out _).mono ?_
    rintro e w4 ⟨l4,r,rfl,hp⟩
    have G4:=hid (hbox.out.below l4)
    have U4:=hid (hbuild.out.below l4)
    have L4:=hid (hbel.out.trans (l4.mono hbel.out.size))
    have A4:=hid hp
    have Z4:=hid l4.size
    clear l4 hp
    go_upto_region 6 with(first
     |(refine alloc_got rfl rfl ?_;intro w5 b3 e5 p5 l5 z5)
     |(refine store_got (r:=r) (to:=((to:Nat):Int)) (e:=0) (bad:=0) rfl (.tmp 8) (.tmp 12) rfl rfl rfl p5 ?_;intro w6 p6 l6 z6;have L6:=hid (two_new l5 l6 e5);have Q6:=hid p6;have k5:=p6.c5;have k6:=p6.c6;have ZB:=hid (show wr.heap.size≤b3 from e5▸Z4.out);clear e5 p5 l5 z5 p6 l6 z6)
     |(refine load_at rfl (.tmp 18) rfl rfl (r:=r) (fun j hj=>Q6.out.raw j hj) ?_)
     |(refine slice_piece rfl (.tmp 19) rfl (r:=r) rfl ?_;intro w7 b7 e7 r7 l7 z7;have L7:=hid (L6.out.trans (l7.mono L6.out.size));have U7:=hid (U4.out.below L7.out);have A7:=hid (A4.out.by_below L7.out);have Q7:=hid (Q6.out.below l7);have R7:=hid r7;clear e7 r7 l7 z7 k5 k6)
     |(refine append_piece rfl (.tmp 17) (.tmp 20) rfl rfl rfl U7.out hbuild.out.own_lt hsz.out (Nat.le_trans hsz.out (Nat.le_trans Z4.out L7.out.size)) R7.out A7.out HTO.out.2.2.2 ?_;intro v' w8 U8 g8;have HU:=hid U8;have G8:=hid (grown_got U7.out g8 HB.out.2 (G4.out.below L7.out));have L8:=hid (grown_under U7.out g8 L1.out.size (L4.out.trans (L7.out.mono L4.out.size)));have Z8:Hid (w1.heap.size≤w8.heap.size):=(by obtain⟨_,_,_,g,_⟩:=g8;exact Nat.le_trans hsz.out (Nat.le_trans Z4.out (Nat.le_trans L7.out.size g)));have kk:=grown_cell U7.out g8 Q7.out hbuild.out ZB.out;clear U8 g8))
    clear R7 Q7 A7 U7 L7 Q6 L6 A4 U4 L4 G4 hbuild hbox hbel hsz Z4 ZB
    match acc,HU,HX with
    | [],HU,HX=>
     obtain⟨g1,c1,r1,rfl,hc1,hcell,hp⟩:=build_one (show Build 56 w1.heap.size w8 v' [p]from HU.out)
     have hA2:=hc1.out.2
     have hA1:=hc1.out.1
     unfold maxLen at hA2
     go_wp2_with (first
      |(refine load_at rfl (.tmp 40) rfl rfl (r:=r1) hcell.out ?_)
      |(refine build_got (r:=r1) rfl (.tmp 41) (.tmp 42) rfl rfl rfl ?_)
      |(refine store_got (r:=r1) (to:=((to:Nat):Int)) (e:=0) (bad:=0) rfl (.tmp 6) (.tmp 43) rfl rfl rfl G8.out ?_;intro w9 p9 l9 z9))
     refine end_got rfl rfl p9 rfl ?_
     rw[HX.out]
     exact⟨old_below L8.out l9 HB.out.1,r1,rfl,(hp.out.by_beside l9 HB.out.2).by_less L1.out.size⟩
    |q::l,HU,HX=>
     obtain⟨A1,c1,rfl,hc1,hp⟩:=build_many 8 HU.out (by simp)
     have hA2:=hc1.out.2
     unfold maxLen at hA2
     have HN:Hid ((q::l++ [p]).length≤901):=by have:=HTO.out;have:=HS.out;show _≤_;omega
     have t1:(((q::l++ [p]).length:Int)==1)=false:=by simpa using (by omega: ¬((l.length:Int)+1+1=1))
     have HT8:=hid (show together 8 (q::l++ [p])= .mk 8 ⟨#[]⟩ (q::l++ [p]) 0 0 by cases l<;>rfl)
     obtain⟨M,hM⟩: ∃M,q::l++ [p]=M:=⟨_,rfl⟩
     rw[hM]at t1 hp HN HT8 HX ⊢
     obtain⟨n,hn⟩: ∃n,M.length=n:=⟨_,rfl⟩
     rw[hn]at t1 hp HN ⊢
     clear hn hM HU hc1 HTO
     go_wp2_with (first
      |(refine build_got (r:=⟨8,⟨#[]⟩,A1,n,c1,0,0⟩) rfl (.tmp 45) (.tmp 46) rfl rfl rfl ?_)
      |(refine store_got (r:=⟨8,⟨#[]⟩,A1,n,c1,0,0⟩) (to:=((to:Nat):Int)) (e:=0) (bad:=0) rfl (.tmp 6) (.tmp 47) rfl rfl rfl G8.out ?_;intro w9 p9 l9 z9))
     refine end_got rfl rfl p9 rfl ?_
     rw[HX.out,HT8.out]
     exact⟨old_below L8.out l9 HB.out.1,_,rfl,(hp.out.by_beside l9 HB.out.2).by_less L1.out.size⟩
end
end W14
namespace W14
open M14
section
variable {s:ByteArray} {at_ deep:Nat}
def P13Ok (s:ByteArray):Prop:= ∀(a:Nat) (w:World),a<s.size→Calls Tryz.prog 154 #[.string (s.extract a s.size)] w (W13.Parsed w (M13.parse (s.data.toList.drop a)))
theorem ratom_any {R:Nat→Nat→Option Got} (hR:RPatOk s R (at_+1)) (hP:P13Ok s) (hat:at_<s.size) (hs:s.size≤900) (hd:deep≤64):RAtomOk R s at_ deep:=by
 have hlen:s.data.toList.length=s.size:=(Lib.size_eq s).symm
 have hc:s.data.toList.getD at_ 0=s[at_]:=Kit.byte_get s at_ hat
 have hg:deep≠64→at_+1≤s.data.toList.length→ ∃g,R (at_+1) (deep+1)=some g∧Fine s.data.toList (at_+1) g:=fun h q=>by
  obtain⟨g,e,hf,-⟩:=hR (at_+1) (deep+1) (Nat.le_refl _) (by omega) (by omega)
  exact⟨g,e,hf⟩
 obtain⟨g,e,hf⟩:=atom_fine (R:=R) (deep:=deep) (S:=s.data.toList) (at_:=at_) (by omega) hg
 refine⟨g,e,hf,fun w=> ?_⟩
 by_cases h40:s[at_]=40
 ·rw[atom_is40 (by rw[hc];exact h40) (fun q=>by obtain⟨g,e,-⟩:=hg q (by omega);exact⟨g,e⟩)]at e
  injection e with e
  subst e
  unfold bracketsR
  by_cases h64:deep=64
  ·rw[if_pos h64];exact refAtom_deep hat hs h40 h64
  ·rw[if_neg h64]
   obtain⟨g,e,hf2,hC⟩:=hR (at_+1) (deep+1) (Nat.le_refl _) (by omega) (by omega)
   rw[e]
   match g,hf2,hC with
   | .bad q er,hf2,hC=>exact refAtom_inBad hat hs h40 (by omega) hC
   | .ok p to,hf2,hC=>
    simp only
    have h2:=hf2.2.1
    by_cases ht:to=s.data.toList.length
    ·rw[if_pos ht,hlen];exact refAtom_inEnd hat hs h40 (by omega) (by omega) hC
    ·rw[if_neg ht];exact refAtom_inOk hat hs h40 (by omega) (by omega) hC
 ·by_cases h91:s[at_]=91
  ·rw[atom_is91 (by rw[hc];exact h91)]at e
   injection e with e
   subst e
   obtain⟨⟨F,n,er⟩,hp⟩: ∃r,M13.parse (s.data.toList.drop at_)=r:=⟨_,rfl⟩
   have hP2:=fun w=>hP at_ w hat
   rw[hp]
   simp only
   by_cases he:er=0
   ·rw[if_neg (by simpa using he)];exact refAtom_setOk hat hs h91 hp hP2 he
   ·rw[if_pos he];exact refAtom_setBad hat hs h91 hp hP2 he
  ·by_cases h92:s[at_]=92
   ·rw[atom_is92 (by rw[hc];exact h92)]at e
    injection e with e
    subst e
    unfold escapedR
    by_cases hl:at_+1=s.size
    ·rw[if_pos (by omega)];exact refAtom_slash hat hs h92 hl
    ·have hl2:at_+1<s.size:=by omega
     rw[if_neg (by omega),getD_at' hl2]
     cases hlet:M13.letter s[at_+1]with
     |true=>rw[if_pos rfl];exact refAtom_letter hat hs h92 hl2 hlet
     |false=>rw[if_neg (by simp)];exact refAtom_escaped hat hs h92 hl2 hlet
   ·unfold atom at e
    rw[hc,if_neg h40,if_neg h91]at e
    by_cases h46:s[at_]=46
    ·rw[if_pos h46]at e
     injection e with e
     subst e
     exact refAtom_point hat hs h46
    ·rw[if_neg h46]at e
     by_cases h94:s[at_]=94
     ·rw[if_pos h94]at e
      injection e with e
      subst e
      exact refAtom_begin hat hs h94
     ·rw[if_neg h94]at e
      by_cases h36:s[at_]=36
      ·rw[if_pos h36]at e
       injection e with e
       subst e
       exact refAtom_stop hat hs h36
      ·rw[if_neg h36]at e
       by_cases hq:s[at_]=42∨s[at_]=43∨s[at_]=63∨s[at_]=123
       ·rw[if_pos hq]at e
        injection e with e
        subst e
        rcases hq with q|q|q|q
        ·exact refAtom_no42 hat hs q
        ·exact refAtom_no43 hat hs q
        ·exact refAtom_no63 hat hs q
        ·exact refAtom_no123 hat hs q
       ·rw[if_neg hq,if_pos h92]at e
        injection e with e
        subst e
        exact refAtom_char hat hs h40 h91 h46 h94 h36 (fun q=>hq (.inl q)) (fun q=>hq (.inr (.inl q))) (fun q=>hq (.inr (.inr (.inl q)))) (fun q=>hq (.inr (.inr (.inr q)))) h92
theorem RPatOk.more {R:Nat→Nat→Option Got} {lo lo':Nat} (h:RPatOk s R lo) (k:lo≤lo'):RPatOk s R lo':=fun a d h1 h2 h3=>h a d (Nat.le_trans k h1) h2 h3
theorem rpatOk (hs:s.size≤900) (hP:P13Ok s): ∀(n lo:Nat),s.data.toList.length<lo+n→RPatOk s (rows s.data.toList n) lo
 |0,lo,h=>fun a d h1 h2 _=>by rw[←Lib.size_eq]at h;omega
 |n+1,lo,h=>fun a d h1 h2 h3=>by
  have hl:s.data.toList.length=s.size:=(Lib.size_eq s).symm
  obtain⟨g,e,hf⟩:=rows_fine (S:=s.data.toList) (by omega) (n+1) a d (by omega) (by omega)
  have ih:RPatOk s (rows s.data.toList n) (a+1):=rpatOk hs hP n (a+1) (by omega)
  refine⟨g,e,hf,fun w=> ?_⟩
  exact refRows_any (R:=rows s.data.toList n) (fun b hb1 hb2=>ratom_any (ih.more (by omega)) hP hb2 hs h3) (fun hd to h4 h5=>by
   obtain⟨g,e,hf,-⟩:=ih to (d+1) (by omega) h5 (by omega)
   exact⟨g,e,hf⟩) h2 hs (by unfold rows at e;exact e)
end
end W14
namespace W14
open Strs Recs M14
open Row256 (Beside)
open Kit (below_draws on)
section
variable {w:World} {s:ByteArray}
theorem rparse_ok {p:Piece} {to:Nat} (hto:to=s.size) (hC: ∀w,Calls Tryz.prog 47 #[.string s,.int .i64 0,.int .i64 0] w (Gots w (.ok p to))):
    Calls Tryz.prog 27 #[.string s] w (ParsesTo w (.ok p to)):=by
 have HC:=hid hC
 have ti: ¬(to:Int)<(s.size:Int):=by omega
 clear hC hto
 go_enter Tryz.func27,Tryz.ntmps27
 go_wp2_with (first
  |(refine alloc_piece rfl rfl ?_;intro w1 b1 e1 p1 l1 z1))
 have P1:=hid p1
 have L1:=hid l1
 have HB:=hid (show w.heap.size≤b1∧b1<w1.heap.size from⟨by omega,by omega⟩)
 clear e1 p1 l1 z1
 refine(HC.out _).mono ?_
 rintro e w2 ⟨l2,r,rfl,hp⟩
 have P2:=hid (P1.out.below l2)
 have L2:=hid (L1.out.trans (l2.mono L1.out.size))
 have HB2:=hid (show b1<w2.heap.size from Nat.lt_of_lt_of_le HB.out.2 l2.size)
 have A2:=hid hp
 clear l2 hp
 go_wp2_with (first
  |(refine alloc_got rfl rfl ?_;intro w3 b3 e3 p3 l3 z3)
  |(refine store_got (r:=r) (to:=((to:Nat):Int)) (e:=0) (bad:=0) rfl (.tmp 5) (.tmp 7) rfl rfl rfl p3 ?_;intro w4 p4 l4 z4;have L24:=hid (two_new l3 l4 e3);have P4:=hid (P2.out.below L24.out);have Q4:=hid p4;have L4:=hid (L2.out.trans (L24.out.mono L2.out.size));have A4:=hid (A2.out.by_below L24.out);have q5:=p4.c5;have q6:=p4.c6;clear e3 p3 l3 z3 p4 l4 z4)
  |(refine load_at rfl (.tmp 29) rfl rfl (r:=r) (fun j hj=>Q4.out.raw j hj) ?_)
  |(refine store_piece (r:=r) rfl (.tmp 2) (.tmp 30) rfl rfl rfl P4.out ?_;intro w9 p9 l9 z9))
 refine end_piece3 rfl rfl p9 rfl ?_
 exact⟨old_below L4.out l9 HB.out.1,r,rfl,(A4.out.by_beside l9 HB.out.2).by_less L1.out.size⟩
theorem rparse_more {p:Piece} {to:Nat} (hto:to<s.size) (hC: ∀w,Calls Tryz.prog 47 #[.string s,.int .i64 0,.int .i64 0] w (Gots w (.ok p to))):
    Calls Tryz.prog 27 #[.string s] w (ParsesTo w (.bad to 3)):=by
 have HC:=hid hC
 have ti:(to:Int)<(s.size:Int):=by omega
 clear hC hto
 go_enter Tryz.func27,Tryz.ntmps27
 go_wp2_with (first
  |(refine alloc_piece rfl rfl ?_;intro w1 b1 e1 p1 l1 z1))
 have P1:=hid p1
 have L1:=hid l1
 have HB:=hid (show w.heap.size≤b1∧b1<w1.heap.size from⟨by omega,by omega⟩)
 clear e1 p1 l1 z1
 refine(HC.out _).mono ?_
 rintro e w2 ⟨l2,r,rfl,hp⟩
 have P2:=hid (P1.out.below l2)
 have L2:=hid (L1.out.trans (l2.mono L1.out.size))
 have HB2:=hid (show b1<w2.heap.size from Nat.lt_of_lt_of_le HB.out.2 l2.size)
 clear l2 hp
 go_wp2_with (first
  |(refine alloc_got rfl rfl ?_;intro w3 b3 e3 p3 l3 z3)
  |(refine store_got (r:=r) (to:=((to:Nat):Int)) (e:=0) (bad:=0) rfl (.tmp 5) (.tmp 7) rfl rfl rfl p3 ?_;intro w4 p4 l4 z4;have L24:=hid (two_new l3 l4 e3);have P4:=hid (P2.out.below L24.out);have HN3:=hid (show b1≠b3 by have:=HB2.out;omega);have L4:=hid (L2.out.trans (L24.out.mono L2.out.size));have q5:=p4.c5;have q6:=p4.c6;have q7:=p4.c7;clear e3 p3 l3 z3 p4 l4 z4))
 have fr: ∀j,w4.frozen? ⟨b1,j,none⟩=false:=fun j=>frozen_of_row w4 b1 j _ _ P4.out
 have d0:w4.cell? ⟨b1,0,none⟩=some (.int .i64 0):=cell_of_row w4 b1 0 _ _ _ P4.out
 have d1:w4.cell? ⟨b1,1,none⟩=some (.string ⟨#[]⟩):=cell_of_row w4 b1 1 _ _ _ P4.out
 have d2:w4.cell? ⟨b1,2,none⟩=some (.slice none 0 0):=cell_of_row w4 b1 2 _ _ _ P4.out
 have d3:w4.cell? ⟨b1,3,none⟩=some (.int .i64 0):=cell_of_row w4 b1 3 _ _ _ P4.out
 have d4:w4.cell? ⟨b1,4,none⟩=some (.int .i64 0):=cell_of_row w4 b1 4 _ _ _ P4.out
 have f0:=fr 0
 have f1:=fr 1
 have f2:=fr 2
 have f3:=fr 3
 have f4:=fr 4
 have hne: ¬b3=b1:=HN3.out.symm
 have hne2: ¬b1=b3:=HN3.out
 clear fr
 go_region
 all_goals (try go_wp2)
 refine end_piece3 rfl rfl (put_five P4.out) rfl ?_
 exact⟨L4.out.trans ((beside_five w4 b1 _ _ _ _ _).below L4.out.size HB.out.1),by decide,rfl⟩
theorem rparse_bad {q:Nat} {er:Int} (hC: ∀w,Calls Tryz.prog 47 #[.string s,.int .i64 0,.int .i64 0] w (Gots w (.bad q er))):
    Calls Tryz.prog 27 #[.string s] w (ParsesTo w (.bad q er)):=by
 have HC:=hid hC
 clear hC
 go_enter Tryz.func27,Tryz.ntmps27
 go_wp2_with (first
  |(refine alloc_piece rfl rfl ?_;intro w1 b1 e1 p1 l1 z1))
 have P1:=hid p1
 have L1:=hid l1
 have HB:=hid (show w.heap.size≤b1∧b1<w1.heap.size from⟨by omega,by omega⟩)
 clear e1 p1 l1 z1
 refine(HC.out _).mono ?_
 rintro e w2 ⟨l2,he,tq,rfl⟩
 have P2:=hid (P1.out.below l2)
 have L2:=hid (L1.out.trans (l2.mono L1.out.size))
 have HB2:=hid (show b1<w2.heap.size from Nat.lt_of_lt_of_le HB.out.2 l2.size)
 have HE:=hid he
 have te:(er !=0)=true:=by simpa using he
 have te2:(er==0)=false:=by simpa using he
 clear l2 he
 go_wp2_with (first
  |(refine alloc_got rfl rfl ?_;intro w3 b3 e3 p3 l3 z3)
  |(refine store_got (r:=zeroR) (to:=tq) (e:=er) (bad:=(q:Int)) rfl (.tmp 5) (.tmp 7) rfl rfl rfl p3 ?_;intro w4 p4 l4 z4;have L24:=hid (two_new l3 l4 e3);have P4:=hid (P2.out.below L24.out);have HN3:=hid (show b1≠b3 by have:=HB2.out;omega);have L4:=hid (L2.out.trans (L24.out.mono L2.out.size));have q5:=p4.c5;have q6:=p4.c6;have q7:=p4.c7;clear e3 p3 l3 z3 p4 l4 z4))
 have fr: ∀j,w4.frozen? ⟨b1,j,none⟩=false:=fun j=>frozen_of_row w4 b1 j _ _ P4.out
 have d0:w4.cell? ⟨b1,0,none⟩=some (.int .i64 0):=cell_of_row w4 b1 0 _ _ _ P4.out
 have d1:w4.cell? ⟨b1,1,none⟩=some (.string ⟨#[]⟩):=cell_of_row w4 b1 1 _ _ _ P4.out
 have d2:w4.cell? ⟨b1,2,none⟩=some (.slice none 0 0):=cell_of_row w4 b1 2 _ _ _ P4.out
 have d3:w4.cell? ⟨b1,3,none⟩=some (.int .i64 0):=cell_of_row w4 b1 3 _ _ _ P4.out
 have d4:w4.cell? ⟨b1,4,none⟩=some (.int .i64 0):=cell_of_row w4 b1 4 _ _ _ P4.out
 have f0:=fr 0
 have f1:=fr 1
 have f2:=fr 2
 have f3:=fr 3
 have f4:=fr 4
 have hne: ¬b3=b1:=HN3.out.symm
 have hne2: ¬b1=b3:=HN3.out
 clear fr
 go_region
 all_goals (try go_wp2)
 refine end_piece3 rfl rfl (put_five P4.out) rfl ?_
 exact⟨L4.out.trans ((beside_five w4 b1 _ _ _ _ _).below L4.out.size HB.out.1),HE.out,rfl⟩
theorem rparse_any (hs:s.size≤900) (hP:P13Ok s) {g:Got} (hg:rows s.data.toList (s.data.toList.length+1) 0 0=some g) (hf:Fine s.data.toList 0 g) (w:World):Calls Tryz.prog 27 #[.string s] w (ParsesTo w (fix s.data.toList 0 g)):=by
 obtain⟨g',e,-,hC⟩:=rpatOk hs hP (s.data.toList.length+1) 0 (by omega) 0 0 (Nat.le_refl _) (Nat.zero_le _) (by omega)
 rw[hg]at e
 injection e with e
 subst e
 have hl:s.data.toList.length=s.size:=(Lib.size_eq s).symm
 match g,hg,hf,hC with
 | .bad q er,_,_,hC=>exact rparse_bad hC
 | .ok p to,hg,hf,hC=>
  have h2:=hf.2.1
  simp only[fix]
  by_cases ht:to=s.size
  ·rw[if_neg (by rintro⟨_,q,_⟩;omega)]
   exact rparse_ok ht hC
  ·have h41:s.data.toList.getD to 0=41:=by
     rcases rows_stops hg with q|q
     ·omega
     ·exact q
   rw[if_pos (by refine⟨by trivial,by omega,h41⟩)]
   exact rparse_more (by omega) hC
end
end W14
namespace W13
open M13 Row256
open Kit (ret_str ret_bool ret_int mk_of mk_bytes ba_ext below_draws on)
def nextV (at_:Nat) (o:UInt8×Nat×Bool):Value:=
 if o.2.1=0 then .tuple #[.int .i64 0,.string ⟨#[]⟩,.int .i64 0,.int .i64 3]
 else if o.2.2 then .tuple #[.int .i64 (-1),.string (tx (namedF o.1)),.int .i64 ((at_+o.2.1:Nat):Int),.int .i64 0]
 else .tuple #[.int .i64 o.1.toNat,.string (tx (between o.1.toNat o.1.toNat)),.int .i64 ((at_+o.2.1:Nat):Int),.int .i64 0]
def NextTo (w:World) (v:Value) (e:Ending) (w':World):Prop:=e= .returned v∧Below w.heap.size w w'
theorem res4 {fn:Func} {a b c d:Tmp} (h:fn.results= #[.tmp a,.tmp b,.tmp c,.tmp d]) (tmps:Array Value) (P:Program) (w:World):(results fn tmps).run P w= .ok (.tuple #[tmps.getD a undef,tmps.getD b undef,tmps.getD c undef,tmps.getD d undef]) w:=by
 simp[results,h]
theorem one_at {s:ByteArray} {at_:Nat} (h:at_<s.size):one (s.data.toList.drop at_)=if s[at_]=92 then(if h2:at_+1<s.size then(s[at_+1],2,letter s[at_+1])else(0,0,false))else(s[at_],1,false):=by
 rw[Kit.drop_next s at_ h]
 unfold one
 by_cases h92:s[at_]=92
 ·simp only[if_pos h92]
  by_cases h2:at_+1<s.size
  ·rw[Kit.drop_next s (at_+1) h2,dif_pos h2]
  ·rw[Kit.drop_end s (at_+1) h2,dif_neg h2]
 ·simp only[if_neg h92]
section
variable {s:ByteArray} {at_:Nat} {w:World}
theorem next_end (hat: ¬at_<s.size):Calls Tryz.prog 166 #[.string s,.int .i64 at_] w (NextTo w (.tuple #[.int .i64 0,.string ⟨#[]⟩,.int .i64 0,.int .i64 3])):=by
 have h1:(s.size:Int)≤(at_:Int):=by omega
 go_enter Tryz.func166,Tryz.ntmps166
 go_wp2_with fail
 refine bodyPost_ret (res4 rfl _ _ _) rfl ?_
 exact⟨rfl,Below.refl _ _⟩
theorem next_last (hs:s.size≤900) (hat:at_<s.size) (h92:s[at_]=92) (hl: ¬at_+1<s.size):Calls Tryz.prog 166 #[.string s,.int .i64 at_] w (NextTo w (.tuple #[.int .i64 0,.string ⟨#[]⟩,.int .i64 0,.int .i64 3])):=by
 have h1: ¬(s.size:Int)≤(at_:Int):=by omega
 have h2:(at_:Int)<(s.size:Int):=by omega
 have t92:((s[at_].toNat:Int)==92)=true:=u8_yes h92
 have hw1:wrap64 ((at_:Int)+1)=((at_+1:Nat):Int):=by unfold wrap64;omega
 have hq:(((at_+1:Nat):Int)==(s.size:Int))=true:=by simpa using (by omega:((at_:Int)+1)=(s.size:Int))
 clear h92
 go_enter Tryz.func166,Tryz.ntmps166
 go_wp2_with fail
 refine bodyPost_ret (res4 rfl _ _ _) rfl ?_
 exact⟨rfl,Below.refl _ _⟩
theorem next_plain (hs:s.size≤900) (hat:at_<s.size) (h92: ¬s[at_]=92):Calls Tryz.prog 166 #[.string s,.int .i64 at_] w (NextTo w (.tuple #[.int .i64 s[at_].toNat,.string (tx (between s[at_].toNat s[at_].toNat)),.int .i64 ((at_+1:Nat):Int),.int .i64 0])):=by
 have h1: ¬(s.size:Int)≤(at_:Int):=by omega
 have h2:(at_:Int)<(s.size:Int):=by omega
 have t92:((s[at_].toNat:Int)==92)=false:=u8_no h92
 have hw1:wrap64 ((at_:Int)+1)=((at_+1:Nat):Int):=by unfold wrap64;omega
 have hb0:(0:Int)≤(at_:Int):=by omega
 have hwr:IntKind.i64.wrap ((at_:Int)+1)=(at_:Int)+1:=by rw[IntKind.wrap_i64];omega
 have hwb:IntKind.i64.wrap (s[at_].toNat:Int)=(s[at_].toNat:Int):=by have:=UInt8.toNat_lt s[at_];rw[IntKind.wrap_i64];omega
 clear h92
 go_enter Tryz.func166,Tryz.ntmps166
 go_wp2_with fail
 refine wp_region_held_drew (S:=fun w'=>Below w.heap.size w w') (by kernel_rfl) (below_draws w 1) (fun hHeld=> ?_)
 refine Take.k 0 ⟨some 31,.move (.tmp 0),_,_,_,none⟩ ?_
 refine Take.k 1 ⟨some 32,.move (.tmp 1),_,_,_,none⟩ ?_
 refine Take.k 2 ⟨some 33,.index 9 (.tmp 31) (.tmp 32),_,_,_,none⟩ ?_
 refine Take.k 3 ⟨some 34,.convert 5 3 (.tmp 33),_,_,_,none⟩ ?_
 refine Take.k 4 ⟨some 35,.move (.tmp 0),_,_,_,none⟩ ?_
 refine Take.k 5 ⟨some 36,.move (.tmp 1),_,_,_,none⟩ ?_
 refine Take.k 6 ⟨some 37,.index 9 (.tmp 35) (.tmp 36),_,_,_,none⟩ ?_
 refine Take.k 7 ⟨some 38,.convert 5 3 (.tmp 37),_,_,_,none⟩ ?_
 refine Take.k 8 ⟨some 39,.move (.tmp 0),_,_,_,none⟩ ?_
 refine Take.k 9 ⟨some 40,.move (.tmp 1),_,_,_,none⟩ ?_
 refine Take.k 10 ⟨some 41,.index 9 (.tmp 39) (.tmp 40),_,_,_,none⟩ ?_
 refine Take.k 11 ⟨some 42,.convert 5 3 (.tmp 41),_,_,_,none⟩ ?_
 refine Take.k 13 ⟨some 44,.move (.tmp 1),_,_,_,none⟩ ?_
 refine Take.k 14 ⟨some 45,.binOp .add 3 (.tmp 44) (.const (.int .i64 1)) 3,_,_,_,none⟩ ?_
 refine wpAnyH_ready (rs:= [12]) (by kernel_rfl) (by simp) ?_
 refine AllReadyH.cons (o:=⟨some 43,.call ⟨.value (.func 165), #[.tmp 38,.tmp 42], #[3,3]⟩,_,_,_,none⟩) rfl (fun K hK=> ?_) AllReadyH.nil
 go_simp
 (go_at_call 165;refine(refSpan_any s[at_].toNat s[at_].toNat (UInt8.toNat_lt _) (w.drewN 1)).mono ?_;rintro e w2 ⟨rfl,hb2⟩;have hB:Below w.heap.size w w2:=(below_draws w 1).trans hb2)
 go_wp2_with fail
 refine hK.out _ _ ?_ (fun hHeld=> ?_)
 ·exact hB
 clear hK K
 try simp only[Act.put,Take.a,Take.b,Take.c]
 refine Take.k 15 ⟨some 4,.assign (.tmp 34),_,_,_,none⟩ ?_
 refine Take.k 16 ⟨some 5,.assign (.tmp 43),_,_,_,none⟩ ?_
 refine Take.k 17 ⟨some 6,.assign (.tmp 45),_,_,_,none⟩ ?_
 refine Take.k 18 ⟨some 7,.assign (.const (.int .i64 0)),_,_,_,none⟩ ?_
 refine wpAnyH_done (by kernel_rfl) ?_ _
 go_wp2_with fail
 refine bodyPost_ret (res4 rfl _ _ _) rfl ?_
 exact⟨rfl,hB⟩
theorem next_letter (hs:s.size≤900) (hat:at_<s.size) (h92:s[at_]=92) (hl:at_+1<s.size) (hlet:letter s[at_+1]=true):Calls Tryz.prog 166 #[.string s,.int .i64 at_] w (NextTo w (.tuple #[.int .i64 (-1),.string (tx (namedF s[at_+1])),.int .i64 ((at_+2:Nat):Int),.int .i64 0])):=by
 have h1: ¬(s.size:Int)≤(at_:Int):=by omega
 have h2:(at_:Int)<(s.size:Int):=by omega
 have t92:((s[at_].toNat:Int)==92)=true:=u8_yes h92
 have hw1:wrap64 ((at_:Int)+1)=((at_+1:Nat):Int):=by unfold wrap64;omega
 have hw2:wrap64 ((at_:Int)+2)=((at_+2:Nat):Int):=by unfold wrap64;omega
 have h3:((at_+1:Nat):Int)<(s.size:Int):=by omega
 have hq:(((at_+1:Nat):Int)==(s.size:Int))=false:=by simpa using (by omega: ¬((at_:Int)+1)=(s.size:Int))
 have HN:Hid (∀w,Calls Tryz.prog 155 #[.int .u8 s[at_+1].toNat] w fun e w'=>e= .returned (.tuple #[.string (tx (namedF s[at_+1])),.bool true])∧Below w.heap.size w w'):=fun w=>by
  have:=refNamed_any s[at_+1] w
  rw[hlet]at this
  exact this
 clear h92 hlet
 go_enter Tryz.func166,Tryz.ntmps166
 go_wp2_with fail
 refine(HN.out _).mono ?_
 rintro e w1 ⟨rfl,hb1⟩
 have HB1:=hid hb1
 clear hb1
 go_wp2_with fail
 refine bodyPost_ret (res4 rfl _ _ _) rfl ?_
 exact⟨rfl,HB1.out⟩
theorem next_escaped (hs:s.size≤900) (hat:at_<s.size) (h92:s[at_]=92) (hl:at_+1<s.size) (hlet:letter s[at_+1]=false):Calls Tryz.prog 166 #[.string s,.int .i64 at_] w (NextTo w (.tuple #[.int .i64 s[at_+1].toNat,.string (tx (between s[at_+1].toNat s[at_+1].toNat)),.int .i64 ((at_+2:Nat):Int),.int .i64 0])):=by
 have h1: ¬(s.size:Int)≤(at_:Int):=by omega
 have h2:(at_:Int)<(s.size:Int):=by omega
 have t92:((s[at_].toNat:Int)==92)=true:=u8_yes h92
 have hw1:wrap64 ((at_:Int)+1)=((at_+1:Nat):Int):=by unfold wrap64;omega
 have hw2:wrap64 ((at_:Int)+2)=((at_+2:Nat):Int):=by unfold wrap64;omega
 have h3:((at_+1:Nat):Int)<(s.size:Int):=by omega
 have hq:(((at_+1:Nat):Int)==(s.size:Int))=false:=by simpa using (by omega: ¬((at_:Int)+1)=(s.size:Int))
 have hb0:(0:Int)≤(at_:Int):=by omega
 have hwr:IntKind.i64.wrap ((at_:Int)+1)=(at_:Int)+1:=by rw[IntKind.wrap_i64];omega
 have hb1':(0:Int)≤(at_:Int)+1:=by omega
 have hb2':(at_:Int)+1<(s.size:Int):=by omega
 have hwr2:IntKind.i64.wrap ((at_:Int)+2)=(at_:Int)+2:=by rw[IntKind.wrap_i64];omega
 have hwb:IntKind.i64.wrap (s[at_+1].toNat:Int)=(s[at_+1].toNat:Int):=by have:=UInt8.toNat_lt s[at_+1];rw[IntKind.wrap_i64];omega
 have HN:Hid (∀w,Calls Tryz.prog 155 #[.int .u8 s[at_+1].toNat] w fun e w'=>e= .returned (.tuple #[.string (tx (namedF s[at_+1])),.bool false])∧Below w.heap.size w w'):=fun w=>by
  have:=refNamed_any s[at_+1] w
  rw[hlet]at this
  exact this
 clear h92 hlet
 go_enter Tryz.func166,Tryz.ntmps166
 go_wp2_with fail
 refine(HN.out _).mono ?_
 rintro e w1 ⟨rfl,hb1⟩
 have HB1:=hid hb1
 clear hb1
 go_wp2_with fail
 refine wp_region_held_drew (S:=fun w'=>Below w1.heap.size w1 w') (by kernel_rfl) (below_draws w1 1) (fun hHeld=> ?_)
 refine Take.k 0 ⟨some 58,.move (.tmp 0),_,_,_,none⟩ ?_
 refine Take.k 1 ⟨some 59,.move (.tmp 1),_,_,_,none⟩ ?_
 refine Take.k 2 ⟨some 60,.binOp .add 3 (.tmp 59) (.const (.int .i64 1)) 3,_,_,_,none⟩ ?_
 refine Take.k 3 ⟨some 61,.index 9 (.tmp 58) (.tmp 60),_,_,_,none⟩ ?_
 refine Take.k 4 ⟨some 62,.convert 5 3 (.tmp 61),_,_,_,none⟩ ?_
 refine Take.k 5 ⟨some 63,.move (.tmp 0),_,_,_,none⟩ ?_
 refine Take.k 6 ⟨some 64,.move (.tmp 1),_,_,_,none⟩ ?_
 refine Take.k 7 ⟨some 65,.binOp .add 3 (.tmp 64) (.const (.int .i64 1)) 3,_,_,_,none⟩ ?_
 refine Take.k 8 ⟨some 66,.index 9 (.tmp 63) (.tmp 65),_,_,_,none⟩ ?_
 refine Take.k 9 ⟨some 67,.convert 5 3 (.tmp 66),_,_,_,none⟩ ?_
 refine Take.k 10 ⟨some 68,.move (.tmp 0),_,_,_,none⟩ ?_
 refine Take.k 11 ⟨some 69,.move (.tmp 1),_,_,_,none⟩ ?_
 refine Take.k 12 ⟨some 70,.binOp .add 3 (.tmp 69) (.const (.int .i64 1)) 3,_,_,_,none⟩ ?_
 refine Take.k 13 ⟨some 71,.index 9 (.tmp 68) (.tmp 70),_,_,_,none⟩ ?_
 refine Take.k 14 ⟨some 72,.convert 5 3 (.tmp 71),_,_,_,none⟩ ?_
 refine Take.k 16 ⟨some 74,.move (.tmp 1),_,_,_,none⟩ ?_
 refine Take.k 17 ⟨some 75,.binOp .add 3 (.tmp 74) (.const (.int .i64 2)) 3,_,_,_,none⟩ ?_
 refine wpAnyH_ready (rs:= [15]) (by kernel_rfl) (by simp) ?_
 refine AllReadyH.cons (o:=⟨some 73,.call ⟨.value (.func 165), #[.tmp 67,.tmp 72], #[3,3]⟩,_,_,_,none⟩) rfl (fun K hK=> ?_) AllReadyH.nil
 go_simp
 (go_at_call 165;refine(refSpan_any s[at_+1].toNat s[at_+1].toNat (UInt8.toNat_lt _) (w1.drewN 1)).mono ?_;rintro e w2 ⟨rfl,hb2⟩;have hB:Below w1.heap.size w1 w2:=(below_draws w1 1).trans hb2)
 go_wp2_with fail
 refine hK.out _ _ ?_ (fun hHeld=> ?_)
 ·exact hB
 clear hK K
 try simp only[Act.put,Take.a,Take.b,Take.c]
 refine Take.k 18 ⟨some 4,.assign (.tmp 62),_,_,_,none⟩ ?_
 refine Take.k 19 ⟨some 5,.assign (.tmp 73),_,_,_,none⟩ ?_
 refine Take.k 20 ⟨some 6,.assign (.tmp 75),_,_,_,none⟩ ?_
 refine Take.k 21 ⟨some 7,.assign (.const (.int .i64 0)),_,_,_,none⟩ ?_
 refine wpAnyH_done (by kernel_rfl) ?_ _
 go_wp2_with fail
 refine bodyPost_ret (res4 rfl _ _ _) rfl ?_
 exact⟨rfl,on HB1.out hB⟩
theorem next_any (hs:s.size≤900):Calls Tryz.prog 166 #[.string s,.int .i64 at_] w (NextTo w (nextV at_ (one (s.data.toList.drop at_)))):=by
 by_cases hat:at_<s.size
 ·rw[one_at hat]
  by_cases h92:s[at_]=92
  ·rw[if_pos h92]
   by_cases hl:at_+1<s.size
   ·rw[dif_pos hl]
    cases hlet:letter s[at_+1]with
    |true=>exact next_letter hs hat h92 hl hlet
    |false=>exact next_escaped hs hat h92 hl hlet
   ·rw[dif_neg hl];exact next_last hs hat h92 hl
  ·rw[if_neg h92];exact next_plain hs hat h92
 ·rw[Kit.drop_end s at_ hat];exact next_end hat
end
end W13
namespace M13
open Go
def itemsA (s:List UInt8):Nat→Nat→Bool→(Nat→Bool)→(Nat→Bool)×Nat×Int
 |0,_,_,_=>(fun _=>false,0,3)
 |fuel+1,a,fst,f=>
  if s.length≤a then(fun _=>false,0,3)
  else if s.getD a 0=93∧fst=false then(f,a+1,0)
  else if(item (s.drop a)).2.1≠0 then(fun _=>false,0,(item (s.drop a)).2.1)
  else itemsA s fuel (a+(item (s.drop a)).1) false (fun i=>f i||(item (s.drop a)).2.2 i)
theorem item_pos' {s:List UInt8} (h:(item s).2.1=0):0<(item s).1:=by
 revert h
 unfold item
 split
 ·simp
 ·rename_i hn
  split
  ·split
   ·simp
   ·simp only;omega
  ·split
   ·simp only;omega
   ·split
    ·simp
    ·split
     ·simp
     ·split
      ·simp
      ·simp only;omega
theorem itemsA_is (s:List UInt8) (o:Nat): ∀(fuel k:Nat) (f:Nat→Bool),itemsA s fuel (o+k) (decide (k=0)) f=((items (s.drop o) fuel k f).1,(if(items (s.drop o) fuel k f).2.2=0 then o+(items (s.drop o) fuel k f).2.1 else 0),(items (s.drop o) fuel k f).2.2)
 |0,k,f=>rfl
 |fuel+1,k,f=>by
  unfold itemsA items
  have hlen:(s.drop o).length=s.length-o:=List.length_drop
  have hget:(s.drop o).getD k 0=s.getD (o+k) 0:=by rw[List.getD_eq_getElem?_getD,List.getD_eq_getElem?_getD,List.getElem?_drop]
  have hdrop:(s.drop o).drop k=s.drop (o+k):=by rw[List.drop_drop]
  rw[hget,hdrop,hlen]
  obtain⟨⟨n,er,G⟩,hI⟩: ∃r,item (s.drop (o+k))=r:=⟨_,rfl⟩
  have hpos:= @item_pos' (s.drop (o+k))
  rw[hI]at hpos ⊢
  simp only at hpos ⊢
  by_cases h1:s.length≤o+k
  ·have g1:s.length-o≤k:=by omega
   simp only[if_pos h1,if_pos g1];rfl
  ·have g1: ¬s.length-o≤k:=by omega
   simp only[if_neg h1,if_neg g1]
   by_cases h2:s.getD (o+k) 0=93∧0<k
   ·have g2:s.getD (o+k) 0=93∧decide (k=0)=false:=⟨h2.1,by simp;omega⟩
    simp only[if_pos h2,if_pos g2];rfl
   ·have g2: ¬(s.getD (o+k) 0=93∧decide (k=0)=false):=by rintro⟨a,b⟩;exact h2 ⟨a,by simpa [Nat.pos_iff_ne_zero]using b⟩
    simp only[if_neg h2,if_neg g2]
    by_cases h3:er≠0
    ·simp only[if_pos h3,if_neg h3]
    ·simp only[if_neg h3]
     have hp:0<n:=hpos (by simpa using h3)
     have:=itemsA_is s o fuel (k+n) (fun i=>f i||G i)
     rw[←Nat.add_assoc,decide_eq_false (by omega: ¬k+n=0)]at this
     exact this
section
variable {S:List UInt8} {a k:Nat} {fst:Bool} {F G:Nat→Bool}
theorem itemsA_bad {er:Int} (hne: ¬(S.getD a 0=93∧fst=false)) (hi:item (S.drop a)=(0,er,G)) (her:er≠0) (h3:S.length≤a→er=3):itemsA S (k+1) a fst F=(fun _=>false,0,er):=by
 unfold itemsA
 by_cases h:S.length≤a
 ·rw[if_pos h,h3 h]
 ·rw[if_neg h,if_neg hne,hi,if_pos her]
theorem itemsA_on {n:Nat} (hlt:a<S.length) (hne: ¬(S.getD a 0=93∧fst=false)) (hi:item (S.drop a)=(n,0,G)):itemsA S (k+1) a fst F=itemsA S k (a+n) false (fun i=>F i||G i):=by
 rw[itemsA,if_neg (by omega),if_neg hne,hi,if_neg (by simp)]
theorem itemsA_end (hlt:a<S.length) (h93:S.getD a 0=93):itemsA S (k+1) a false F=(F,a+1,0):=by
 rw[itemsA,if_neg (by omega),if_pos ⟨h93,rfl⟩]
end
def fin (neg:Bool) (R:(Nat→Bool)×Nat×Int):(Nat→Bool)×Nat×Int:=
 if R.2.2≠0 then(fun _=>false,0,R.2.2)else if neg=true then(fun i=> !R.1 i,R.2.1,0)else(R.1,R.2.1,0)
theorem fin_bad {neg:Bool} {er:Int} {F:Nat→Bool} {n:Nat} (h:er≠0):fin neg (F,n,er)=(fun _=>false,0,er):=if_pos h
theorem fin_neg {F:Nat→Bool} {n:Nat}:fin true (F,n,0)=(fun i=> !F i,n,0):=rfl
theorem fin_ok {F:Nat→Bool} {n:Nat}:fin false (F,n,0)=(F,n,0):=rfl
theorem parse_neg (q:List UInt8):parse (91::94::q)=fin true (itemsA (91::94::q) (q.length+1) 2 true (fun _=>false)):=by
 have h:=itemsA_is (91::94::q) 2 (q.length+1) 0 (fun _=>false)
 rw[Nat.add_zero,show decide (0=0)=true from rfl,show(91::94::q).drop 2=q from rfl]at h
 rw[h]
 unfold parse
 simp only[if_pos]
 by_cases he:(items q (q.length+1) 0 (fun _=>false)).2.2≠0
 ·rw[if_pos he,fin_bad he]
 ·have he2:(items q (q.length+1) 0 (fun _=>false)).2.2=0:=by simpa using he
  rw[if_neg he,if_pos he2,he2];rfl
theorem parse_pos (r:List UInt8) (h94:r.getD 0 0≠94):parse (91::r)=fin false (itemsA (91::r) (r.length+1) 1 true (fun _=>false)):=by
 have h:=itemsA_is (91::r) 1 (r.length+1) 0 (fun _=>false)
 rw[Nat.add_zero,show decide (0=0)=true from rfl,show(91::r).drop 1=r from rfl]at h
 rw[h]
 unfold parse
 match r,h94 with
 | [],_=>rfl
 |d::q,h94=>
  have hd: ¬d=94:=h94
  simp only[if_pos]
  rw[if_neg hd]
  by_cases he:(items (d::q) ((d::q).length+1) 0 (fun _=>false)).2.2≠0
  ·rw[if_pos he,fin_bad he]
  ·have he2:(items (d::q) ((d::q).length+1) 0 (fun _=>false)).2.2=0:=by simpa using he
   rw[if_neg he,if_pos he2,he2];rfl
/-! an item,way by way -/
section
variable {D:List UInt8} {c c2:UInt8} {m m2:Nat} {l l2:Bool}
theorem item_none (h:one D=(c,0,l)):item D=(0,3,fun _=>false):=by unfold item;rw[h];rfl
theorem item_lj (h:one D=(c,m,true)) (hm:m≠0) (hj:joined (D.drop m)=true):item D=(0,3,fun _=>false):=by
 unfold item;rw[h];simp only;rw[if_neg hm,if_pos trivial,if_pos hj]
theorem item_l (h:one D=(c,m,true)) (hm:m≠0) (hj:joined (D.drop m)=false):item D=(m,0,namedF c):=by
 unfold item;rw[h];simp only;rw[if_neg hm,if_pos trivial,if_neg (by rw[hj];simp)]
theorem item_p (h:one D=(c,m,false)) (hm:m≠0) (hj:joined (D.drop m)=false):item D=(m,0,fun i=>decide (i=c.toNat)):=by
 unfold item;rw[h];simp only;rw[if_neg hm,if_neg (by simp),if_pos hj]
theorem item_n2 (h:one D=(c,m,false)) (hm:m≠0) (hj:joined (D.drop m)=true) (h2:one (D.drop (m+1))=(c2,0,l2)):item D=(0,3,fun _=>false):=by
 unfold item;rw[h];simp only;rw[if_neg hm,if_neg (by simp),if_neg (by rw[hj];simp),h2];rfl
theorem item_l2 (h:one D=(c,m,false)) (hm:m≠0) (hj:joined (D.drop m)=true) (h2:one (D.drop (m+1))=(c2,m2,true)) (hm2:m2≠0):item D=(0,3,fun _=>false):=by
 unfold item;rw[h];simp only;rw[if_neg hm,if_neg (by simp),if_neg (by rw[hj];simp),h2];simp only;rw[if_neg hm2,if_pos trivial]
theorem item_lt (h:one D=(c,m,false)) (hm:m≠0) (hj:joined (D.drop m)=true) (h2:one (D.drop (m+1))=(c2,m2,false)) (hm2:m2≠0) (hlt:c2.toNat<c.toNat):item D=(0,4,fun _=>false):=by
 unfold item;rw[h];simp only;rw[if_neg hm,if_neg (by simp),if_neg (by rw[hj];simp),h2];simp only;rw[if_neg hm2,if_neg (by simp),if_pos hlt]
theorem item_ok (h:one D=(c,m,false)) (hm:m≠0) (hj:joined (D.drop m)=true) (h2:one (D.drop (m+1))=(c2,m2,false)) (hm2:m2≠0) (hlt: ¬c2.toNat<c.toNat):item D=(m+1+m2,0,between c.toNat c2.toNat):=by
 unfold item;rw[h];simp only;rw[if_neg hm,if_neg (by simp),if_neg (by rw[hj];simp),h2];simp only;rw[if_neg hm2,if_neg (by simp),if_neg hlt]
end
end M13
end Go.Proofs.YtfgegjinhkgpbaaGreatDoor
