/-
  Texts joined, in build order, each with its own comment and its own conditions: W15RefOf, W16LawF.
-/
import Derived.Test.YtehdnbidgphecaaGreatDoorJ21
import Derived.Test.YtehdnbidgphecaaGreatDoorJ20
import Derived.Test.YtehdnbidgphecaaGreatDoorJ26
import Derived.Test.YtehdnbidgphecaaGreatDoorJ27
import Derived.Test.YtehdnbidgphecaaGreatDoorTake
import Derived.Test.YtehdnbidgphecaaGreatDoorJ15
import Derived.Test.YtehdnbidgphecaaGreatDoorJ17
import Derived.Deep.CutBlock
import Derived.Deep.DeepCutAuto
namespace Go.Proofs.YtehdnbidgphecaaGreatDoor
set_option maxHeartbeats 4000000
set_option maxRecDepth 100000
open Go.RowKit
open Lib (hid)
namespace W15
open Strs Recs M15
open M14 (Piece size sizes Got Whole)
open W14 (Raw Raws rawA rawC PAt PAll PBox PLow below_new box_arg load_piece own_same alloc_piece store_piece ParsesTo zeroR two_new P13Ok)
open Kit (below_draws on)
theorem p13_is {s:ByteArray} (hs:s.size≤900):P13Ok s:=by
 intro a w ha
 have hz:(s.extract a s.size).size=s.size-a:=by rw[ByteArray.size_extract];omega
 have h:=W13.refParse_any (s:=s.extract a s.size) (by omega) (by omega) w
 rw[Kit.drop_bytes s a]at h
 exact h
section
variable {s:ByteArray} {w:World}
theorem rof_bad {q:Nat} {er:Int} (hC: ∀w,Calls Tryz.prog 6 #[.string s] w (ParsesTo w (.bad q er))):Calls Tryz.prog 9 #[.string s] w (Fails w er):=by
 have HC:=hid hC
 clear hC
 go_enter Tryz.func9,Tryz.ntmps9
 go_wp2_with fail
 refine(HC.out _).mono ?_
 rintro e w1 ⟨l1,he,rfl⟩
 have te:(er !=0)=true:=by simpa using he
 have L1:=hid l1
 clear l1 he
 go_wp2_with (first
  |(refine alloc_piece rfl rfl ?_;intro w3 b3 e3 p3 l3 z3)
  |(refine store_piece (r:=zeroR) rfl (.tmp 4) (.tmp 10) rfl rfl rfl p3 ?_;intro w4 p4 l4 z4;have L4:=hid (on L1.out (two_new l3 l4 e3));clear e3 p3 l3 z3 p4 l4 z4))
 go_ret2
 exact⟨rfl,L4.out⟩
theorem rof_many {p:Piece} {tt:Nat} (hg:M15.Good p) (hz:4000<size p) (hC: ∀w,Calls Tryz.prog 6 #[.string s] w (ParsesTo w (.ok p tt))):Calls Tryz.prog 9 #[.string s] w (Fails w 21):=by
 have HC:=hid hC
 have HS:=hid (fun w r hl=>size_of hg w r hl)
 obtain⟨n,hn⟩: ∃n,size p=n:=⟨_,rfl⟩
 rw[hn]at HS
 have tn:(4000:Int)<(n:Int):=by omega
 clear hC hg hz hn
 go_enter Tryz.func9,Tryz.ntmps9
 go_wp2_with fail
 refine(HC.out _).mono ?_
 rintro e w1 ⟨l1,r,rfl,hp⟩
 have L1:=hid l1
 have A1:=hid hp.low
 clear l1 hp
 go_wp2_with (first
  |(refine alloc_piece rfl rfl ?_;intro w3 b3 e3 p3 l3 z3)
  |(refine store_piece (r:=r) rfl (.tmp 4) (.tmp 10) rfl rfl rfl p3 ?_;intro w4 p4 l4 z4;have L34:=hid (two_new l3 l4 e3);have P4:=hid p4;clear e3 p3 l3 z3 p4 l4 z4)
  |(refine load_piece (r:=r) rfl (.tmp 4) rfl rfl P4.out ?_))
 refine(HS.out _ _ (A1.out.below L34.out)).mono ?_
 rintro e w5 ⟨rfl,l5⟩
 have L5:=hid (on (on L1.out L34.out) l5)
 clear l5
 go_wp2_with fail
 go_ret2
 exact⟨rfl,L5.out⟩
theorem rof_ok {p:Piece} {tt:Nat} (hw:Whole p) (hz:size p≤4000) (hC: ∀w,Calls Tryz.prog 6 #[.string s] w (ParsesTo w (.ok p tt))):Calls Tryz.prog 9 #[.string s] w (Gives w (prog p)):=by
 have hg:=Good.of_whole hw
 have HC:=hid hC
 have HS:=hid (fun w r hl=>size_of hg w r hl)
 have hb:(gwhole p&&decide (gsize p≤4000))=true:=by
  rw[whole_gwhole hw,gsize_eq hg,decide_eq_true hz];rfl
 have HP:Hid (∀(w:World) (r:Raw),PLow w r p→Calls Tryz.prog 22 #[.agg (rawA r)] w (Gives w (prog p))):=fun w r hl=>rcompile_ok hb hl
 obtain⟨n,hn⟩: ∃n,size p=n:=⟨_,rfl⟩
 rw[hn]at HS
 have tn: ¬(4000:Int)<(n:Int):=by omega
 clear hC hw hz hn hg hb
 go_enter Tryz.func9,Tryz.ntmps9
 go_wp2_with fail
 refine(HC.out _).mono ?_
 rintro e w1 ⟨l1,r,rfl,hp⟩
 have L1:=hid l1
 have A1:=hid hp.low
 clear l1 hp
 go_wp2_with (first
  |(refine alloc_piece rfl rfl ?_;intro w3 b3 e3 p3 l3 z3)
  |(refine store_piece (r:=r) rfl (.tmp 4) (.tmp 10) rfl rfl rfl p3 ?_;intro w4 p4 l4 z4;have L34:=hid (two_new l3 l4 e3);have P4:=hid p4;clear e3 p3 l3 z3 p4 l4 z4)
  |(refine load_piece (r:=r) rfl (.tmp 4) rfl rfl P4.out ?_))
 refine(HS.out _ _ (A1.out.below L34.out)).mono ?_
 rintro e w5 ⟨rfl,l5⟩
 have P5:=hid (P4.out.below l5)
 have A5:=hid ((A1.out.below L34.out).below l5)
 have L5:=hid (on (on L1.out L34.out) l5)
 clear l5
 go_wp2_with (first
  |(refine load_piece (r:=r) rfl (.tmp 4) rfl rfl P5.out ?_))
 refine(HP.out _ _ A5.out).mono ?_
 rintro e w6 ⟨v,rfl,o6,l6⟩
 have O6:=hid (o6.mono L5.out.size)
 have L6:=hid (on L5.out l6)
 clear o6 l6
 go_wp2_with fail
 go_ret2
 exact⟨v,rfl,O6.out,L6.out⟩
theorem rof_got {g:Got} (hw:WholeG g) (hC: ∀w,Calls Tryz.prog 6 #[.string s] w (ParsesTo w g)):Calls Tryz.prog 9 #[.string s] w (OfTo w g):=by
 match g,hw,hC with
 | .bad q er,_,hC=>exact rof_bad hC
 | .ok p tt,hw,hC=>
  by_cases hz:size p≤4000
  ·refine(rof_ok hw hz hC).mono fun e w' h=> ?_
   show ite _ _ _
   rw[if_pos hz];exact h
  ·refine(rof_many (.of_whole hw) (by omega) hC).mono fun e w' h=> ?_
   show ite _ _ _
   rw[if_neg hz];exact h
end
end W15
namespace W16
open Strs Recs
open M15 (Inst rightP prog)
open M14 (Piece size Whole Got)
open M16 (yields EndsAt Img at_ places E)
open W15 (Prg insC insC_len Gives Fails numC numC_len)
open W14 (Raw rawA PLow PBox zeroR ParsesTo In alloc_piece store_piece two_new load_piece run_load_op)
open Kit (below_draws on)
section
variable {p z:ByteArray} {w:World}
theorem finds_long (h:60<p.size∨20<z.size) (hp:p.size≤9223372036854775807) (hz:z.size≤9223372036854775807):Calls Tryz.prog 3 #[.string p,.string z] w (Yes w):=by
 unfold Yes
 have HV:=hid lives_any
 unfold Yes at HV
 by_cases h1:60<p.size
 ·have t1:(60:Int)<(p.size:Int):=by omega
  clear h
  go_enter Tryz.func3,Tryz.ntmps3
  go_wp2_with fail
  refine(HV.out _).mono ?_
  rintro e w1 ⟨rfl,l1⟩
  have L1:=hid l1
  clear l1
  go_wp2_with fail
  go_ret
  exact⟨rfl,L1.out⟩
 ·have t1: ¬(60:Int)<(p.size:Int):=by omega
  have t2:(20:Int)<(z.size:Int):=by omega
  clear h h1
  go_enter Tryz.func3,Tryz.ntmps3
  go_wp2_with fail
  refine(HV.out _).mono ?_
  rintro e w1 ⟨rfl,l1⟩
  have L1:=hid l1
  clear l1
  go_wp2_with fail
  go_ret
  exact⟨rfl,L1.out⟩
theorem finds_bad {q er:Int} (hp:p.size≤60) (hz:z.size≤20) (h1: ∀w,Calls Tryz.prog 6 #[.string p] w fun e w'=>Below w.heap.size w w'∧er≠0∧e= .returned (.tuple #[.agg (rawA zeroR),.int .i64 q,.int .i64 er])) (h2: ∀w,Calls Tryz.prog 7 #[.string p,.string z] w fun e w'=>e= .returned (.tuple #[.bool false,.int .i64 er])∧Below w.heap.size w w'):Calls Tryz.prog 3 #[.string p,.string z] w (Yes w):=by
 unfold Yes
 have HV:=hid lives_any
 unfold Yes at HV
 have H1:=hid h1
 have H2:=hid h2
 have t1: ¬(60:Int)<(p.size:Int):=by omega
 have t2: ¬(20:Int)<(z.size:Int):=by omega
 have te:(er==er)=true:=beq_self_eq_true _
 clear h1 h2 hp hz
 go_enter Tryz.func3,Tryz.ntmps3
 go_wp2_with fail
 refine(H1.out _).mono ?_
 rintro e w1 ⟨l1,he,rfl⟩
 have t0:(er !=0)=true:=by simpa using he
 have L1:=hid l1
 clear l1 he
 go_wp2_with (first
  |(refine alloc_piece rfl rfl ?_;intro w3 b3 e3 p3 l3 z3)
  |(refine store_piece (r:=zeroR) rfl (.tmp 5) (.tmp 33) rfl rfl rfl p3 ?_;intro w4 p4 l4 z4;have L4:=hid (on L1.out (two_new l3 l4 e3));clear e3 p3 l3 z3 p4 l4 z4))
 refine(H2.out _).mono ?_
 rintro e w5 ⟨rfl,l5⟩
 have L5:=hid (on L4.out l5)
 clear l5
 go_wp2_with fail
 refine(HV.out _).mono ?_
 rintro e w6 ⟨rfl,l6⟩
 have L6:=hid (on L5.out l6)
 clear l6
 go_wp2_with fail
 go_ret
 exact⟨rfl,L6.out⟩
theorem finds_big {P:Piece} {b:Bool} {er:Int} (hp:p.size≤60) (hz:z.size≤20) (hs:300<size P) (h1: ∀w,Calls Tryz.prog 6 #[.string p] w fun e w'=>Below w.heap.size w w'∧ ∃r,e= .returned (.tuple #[.agg (rawA r),.int .i64 0,.int .i64 0])∧W14.PAt (In w.heap.size w'.heap.size) w' r P) (h2: ∀w,Calls Tryz.prog 7 #[.string p,.string z] w fun e w'=>e= .returned (.tuple #[.bool b,.int .i64 er])∧Below w.heap.size w w') (h3: ∀w r,PLow w r P→Calls Tryz.prog 8 #[.agg (rawA r)] w fun e w'=>e= .returned (.int .i64 (size P))∧Below w.heap.size w w'):Calls Tryz.prog 3 #[.string p,.string z] w (Yes w):=by
 unfold Yes
 have HV:=hid lives_any
 unfold Yes at HV
 have H1:=hid h1
 have H2:=hid h2
 have H3:=hid h3
 have t1: ¬(60:Int)<(p.size:Int):=by omega
 have t2: ¬(20:Int)<(z.size:Int):=by omega
 have t3:(300:Int)<(size P:Int):=by omega
 clear hs hz
 clear h1 h2 h3 hp
 go_enter Tryz.func3,Tryz.ntmps3
 go_wp2_with fail
 refine(H1.out _).mono ?_
 rintro e w1 ⟨l1,r,rfl,hp⟩
 have L1:=hid l1
 have A1:=hid hp.low
 clear l1 hp
 go_wp2_with (first
  |(refine alloc_piece rfl rfl ?_;intro w3 b3 e3 p3 l3 z3)
  |(refine store_piece (r:=r) rfl (.tmp 5) (.tmp 33) rfl rfl rfl p3 ?_;intro w4 p4 l4 z4;have n4:=two_new l3 l4 e3;have L4:=hid (on L1.out n4);have A4:=hid (A1.out.below n4);have P4:=hid p4;clear e3 p3 l3 z3 p4 l4 z4 n4 A1))
 refine(H2.out _).mono ?_
 rintro e w5 ⟨rfl,l5⟩
 have A5:=hid (A4.out.below l5)
 have P5:=hid (P4.out.below l5)
 have L5:=hid (on L4.out l5)
 clear l5 A4 P4 L4 L1
 go_wp2_with (first|(refine load_piece (r:=r) rfl (.tmp 5) rfl rfl P5.out ?_))
 refine(H3.out _ _ A5.out).mono ?_
 rintro e w6 ⟨rfl,l6⟩
 have A6:=hid (A5.out.below l6)
 have P6:=hid (P5.out.below l6)
 have L6:=hid (on L5.out l6)
 clear l6 A5 P5 L5
 go_wp2_with fail
 refine(HV.out _).mono ?_
 rintro e w7 ⟨rfl,l7⟩
 have L7:=hid (on L6.out l7)
 clear l7
 go_wp2_with fail
 go_ret
 exact⟨rfl,L7.out⟩
def Upon (EB:Nat→Nat→Prop) (F:Nat×Nat×Bool) (i a t:Nat) (m:Bool):Prop:=(m=false→a=0∧t=0∧ ∀b,b<i→ ∀u,¬EB b u)∧(m=true→F=(a,t,true))
set_option maxHeartbeats 16000000 in
theorem finds_main {P:Piece} {LL:List Inst} {F:Nat×Nat×Bool} {EB:Nat→Nat→Prop} {wh:Bool} (hp:p.size≤60) (hz:z.size≤20) (hs:size P≤300) (h1: ∀w,Calls Tryz.prog 6 #[.string p] w fun e w'=>Below w.heap.size w w'∧ ∃r,e= .returned (.tuple #[.agg (rawA r),.int .i64 0,.int .i64 0])∧W14.PAt (In w.heap.size w'.heap.size) w' r P) (h2: ∀w,Calls Tryz.prog 7 #[.string p,.string z] w fun e w'=>e= .returned (.tuple #[.bool F.2.2,.int .i64 0])∧Below w.heap.size w w') (h3: ∀w r,PLow w r P→Calls Tryz.prog 8 #[.agg (rawA r)] w fun e w'=>e= .returned (.int .i64 (size P))∧Below w.heap.size w w')
    (h4: ∀w,Calls Tryz.prog 9 #[.string p] w (Gives w LL))
    (h5: ∀w r v l b,PLow w r P→Trus w.heap.size w v l→b≤z.size→l=oneAt z.size b→Calls Tryz.prog 11 #[.agg (rawA r),.string z,v] w fun e w'=> ∃l',l'.length=z.size+1∧(∀t,t≤z.size→(at_ l' t=true↔EB b t))∧GivesRow w l' e w')
    (h6: ∀b t,b≤z.size→EB b t→t≤z.size) (hwh:wh=true↔EB 0 z.size)
    (hnone:(∀b,b≤z.size→ ∀t,¬EB b t)→F=(0,0,false)) (hsome: ∀a t,a≤z.size→EB a t→(∀t',EB a t'→t'≤t)→(∀b,b<a→ ∀t',¬EB b t')→F=(a,t,true))
    (h7: ∀w v,Prg w.heap.size w v LL→Calls Tryz.prog 13 #[v,.string z] w fun e w'=>e= .returned (.tuple #[.int .i64 F.1,.int .i64 F.2.1,.bool F.2.2])∧Below w.heap.size w w')
    (h8: ∀w v,Prg w.heap.size w v LL→Calls Tryz.prog 14 #[v,.string z] w fun e w'=>e= .returned (.bool F.2.2)∧Below w.heap.size w w')
    (h9: ∀w v,Prg w.heap.size w v LL→Calls Tryz.prog 15 #[v,.string z] w fun e w'=>e= .returned (.bool wh)∧Below w.heap.size w w'):Calls Tryz.prog 3 #[.string p,.string z] w (Yes w):=by
 unfold Yes
 have HV:=hid lives_any
 unfold Yes at HV
 have H1:=hid h1
 have H2:=hid h2
 have H3:=hid h3
 have t1: ¬(60:Int)<(p.size:Int):=by omega
 have t2: ¬(20:Int)<(z.size:Int):=by omega
 have t3: ¬(300:Int)<(size P:Int):=by omega
 have H4:=hid h4
 have H5:=hid h5
 have H6:=hid h6
 have H7:=hid h7
 have H8:=hid h8
 have H9:=hid h9
 have HW:=hid hwh
 have HNO:=hid hnone
 have HSO:=hid hsome
 have HZ:=hid hz
 clear h4 h5 h6 h7 h8 h9 hwh hnone hsome hs hz
 clear h1 h2 h3 hp
 go_enter Tryz.func3,Tryz.ntmps3
 go_wp2_with fail
 refine(H1.out _).mono ?_
 rintro e w1 ⟨l1,r,rfl,hp⟩
 have L1:=hid l1
 have A1:=hid hp.low
 clear l1 hp
 go_wp2_with (first
  |(refine alloc_piece rfl rfl ?_;intro w3 b3 e3 p3 l3 z3)
  |(refine store_piece (r:=r) rfl (.tmp 5) (.tmp 33) rfl rfl rfl p3 ?_;intro w4 p4 l4 z4;have n4:=two_new l3 l4 e3;have L4:=hid (on L1.out n4);have A4:=hid (A1.out.below n4);have P4:=hid p4;clear e3 p3 l3 z3 p4 l4 z4 n4 A1))
 refine(H2.out _).mono ?_
 rintro e w5 ⟨rfl,l5⟩
 have A5:=hid (A4.out.below l5)
 have P5:=hid (P4.out.below l5)
 have L5:=hid (on L4.out l5)
 clear l5 A4 P4 L4 L1
 go_wp2_with (first|(refine load_piece (r:=r) rfl (.tmp 5) rfl rfl P5.out ?_))
 refine(H3.out _ _ A5.out).mono ?_
 rintro e w6 ⟨rfl,l6⟩
 have A6:=hid (A5.out.below l6)
 have P6:=hid (P5.out.below l6)
 have L6:=hid (on L5.out l6)
 clear l6 A5 P5 L5
 go_wp2_with fail
 refine(H4.out _).mono ?_
 rintro e w7 ⟨v7,rfl,o7,l7⟩
 have R7:=hid (Recs.of_own insC_len rfl o7)
 have A7:=hid (A6.out.below l7)
 have P7:=hid (P6.out.below l7)
 have L7:=hid (on L6.out l7)
 clear o7 l7 A6 P6 L6
 go_upto_block 0 with fail
 go_cut [12,13,14,15,16] (fun s12 s13 s14 s15 s16 wx=>s12= .int .i64 F.1∧s13= .int .i64 F.2.1∧s14= .bool F.2.2∧Hid (Below w.heap.size w wx)∧Hid (PBox wx b3 r)∧Hid (PLow wx r P)∧Hid (Prg wx.heap.size wx v7 LL))
 case first=>
  go_wp2_with fail
  go_loopg [12,13,14,15] (z.size+1) (fun gk s12 s13 s14 s15 wr=> ∃(i a t:Nat) (m:Bool),s12= .int .i64 a∧s13= .int .i64 t∧s14= .bool m∧s15= .int .i64 i∧Hid (i+gk=z.size+1)∧Hid (Upon EB F i a t m)∧Hid (Below w.heap.size w wr)∧Hid (PBox wr b3 r)∧Hid (PLow wr r P)∧Hid (Prg wr.heap.size wr v7 LL))
  case atStart=>exact⟨0,0,0,false,rfl,rfl,rfl,rfl,by unfold Hid;omega,⟨fun _=>⟨rfl,rfl,fun b h=>absurd h (Nat.not_lt_zero _)⟩,fun h=>by cases h⟩,L7,P7,A7,R7⟩
  case round=>
   clear L7 P7 A7 R7
   obtain⟨i,a,t,m,rfl,rfl,rfl,rfl,hig,UP,LR,PR,AR,RR⟩:=hrel
   cases m with
   |true=>
    have HF:=hid (UP.out.2 rfl)
    by_cases hi:i≤z.size
    ·have ti:(i:Int)≤(z.size:Int):=by omega
     go_wp2_with fail
     go_meet
     rw[HF.out]
     exact⟨rfl,rfl,rfl,LR,PR,AR,RR⟩
    ·have ti: ¬(i:Int)≤(z.size:Int):=by omega
     go_wp2_with fail
     go_meet
     rw[HF.out]
     exact⟨rfl,rfl,rfl,LR,PR,AR,RR⟩
   |false=>
    obtain⟨ha0,ht0,hnob⟩:=UP.out.1 rfl
    have HNB:=hid hnob
    subst ha0 ht0
    clear hnob UP
    cases gk with
    |zero=>
     have ti: ¬(i:Int)≤(z.size:Int):=by have:=hig.out;omega
     have HF:Hid (F=(0,0,false)):=HNO.out fun b hb u=>HNB.out b (by have:=hig.out;omega) u
     go_wp2_with fail
     go_meet
     rw[HF.out]
     exact⟨rfl,rfl,rfl,LR,PR,AR,RR⟩
    |succ gk=>
     have hi:i≤z.size:=by have:=hig.out;omega
     have ti:(i:Int)≤(z.size:Int):=by omega
     have HIN:=hid hi
     obtain⟨i1,hi1⟩: ∃i1,i+1=i1:=⟨_,rfl⟩
     have hwi:Hid ((i:Int)+1=(i1:Int)∧wrap64 ((i:Int)+1)=(i1:Int)):=by have:=HZ.out;unfold Hid wrap64;omega
     have HIG:Hid (i1+gk=z.size+1∧i+1=i1):=by have:=hig.out;unfold Hid;omega
     have S0:Hid (PBox (wr.drewN 1) b3 r∧Below wr.heap.size wr (wr.drewN 1)):=⟨PR.out,below_draws wr 1⟩
     have KEEP:Hid (∀x,Below wr.heap.size wr x→PBox x b3 r∧Below wr.heap.size wr x):=fun x hx=>⟨PR.out.below hx,hx⟩
     clear hi hi1 hig
     go_wp2_with fail
     refine wp_region_held_drew (S:=fun w'=>PBox w' b3 r∧Below wr.heap.size wr w') (by kernel_rfl) S0.out (fun hHeld=> ?_)
     refine Take.k 0 ⟨some 73,.load 25 (.tmp 5),_,_,_,none⟩ ?_ (hy:=Or.inl ⟨by rfl,by(intro w hSw;(try dsimp only at hSw);(first|(refine run_load_op (.tmp 5) ?_ ?_ hSw.1.cells<;>rfl)|(go_simp;try with_reducible rfl)))⟩)
     refine Take.k 1 ⟨some 74,.move (.tmp 1),_,_,_,none⟩ ?_
     refine Take.k 2 ⟨some 75,.move (.tmp 1),_,_,_,none⟩ ?_
     refine Take.k 3 ⟨some 76,.call ⟨.builtin .len, #[.tmp 75], #[9]⟩,_,_,_,none⟩ ?_
     refine Take.k 4 ⟨some 77,.move (.tmp 15),_,_,_,none⟩ ?_
     refine wpAnyH_ready (rs:= [5]) (by kernel_rfl) (by simp) ?_
     refine AllReadyH.cons (o:=⟨some 78,.call ⟨.value (.func 12), #[.tmp 76,.tmp 77], #[3,3]⟩,_,_,_,none⟩) rfl (fun K hK=> ?_) AllReadyH.nil
     go_simp
     (go_at_call 12;refine(at_any (n:=z.size) (i:=i) HIN.out (by have:=HZ.out;omega)).mono ?_;rintro e x2 ⟨v2,rfl,tr2,m2⟩;have L2:=hid (on S0.out.2 m2);have T2:=hid tr2;clear tr2 m2)
     go_wp2_with fail
     refine hK.out _ _ ?_ (fun hHeld=> ?_)
     ·exact KEEP.out _ L2.out
     clear hK K
     try simp only[Act.put,Take.a,Take.b,Take.c]
     refine wpAnyH_ready (rs:= [6]) (by kernel_rfl) (by simp) ?_
     refine AllReadyH.cons (o:=⟨some 79,.call ⟨.value (.func 11), #[.tmp 73,.tmp 74,.tmp 78], #[25,9,37]⟩,_,_,_,none⟩) rfl (fun K hK=> ?_) AllReadyH.nil
     go_simp
     (go_at_call 11;refine(H5.out _ r _ _ i (AR.out.below L2.out) T2.out HIN.out rfl).mono ?_;rintro e x3 ⟨l3,hl3,ha3,v3,rfl,tr3,m3⟩;have L3:=hid (on L2.out m3);have T3:=hid tr3;have HL3:=hid hl3;have HA3:=hid ha3;clear tr3 m3 hl3 ha3)
     go_wp2_with fail
     refine hK.out _ _ ?_ (fun hHeld=> ?_)
     ·exact KEEP.out _ L3.out
     clear hK K
     try simp only[Act.put,Take.a,Take.b,Take.c]
     refine wpAnyH_ready (rs:= [7]) (by kernel_rfl) (by simp) ?_
     refine AllReadyH.cons (o:=⟨some 80,.call ⟨.value (.func 10), #[.tmp 79], #[37]⟩,_,_,_,none⟩) rfl (fun K hK=> ?_) AllReadyH.nil
     go_simp
     (go_at_call 10;refine(places_any T3.out (by have:=HL3.out;have:=HZ.out;omega)).mono ?_;rintro e x4 ⟨v4,rfl,o4,m4⟩;have L4:=hid (on L3.out m4);have N4:=hid (Recs.of_own numC_len rfl o4);obtain⟨kl,hkl⟩: ∃kl,places l3=kl:=⟨_,rfl⟩;have HKL:=hid hkl;rw[hkl]at N4;obtain⟨A4,c4,rfl,ha4,hb4⟩:=N4.out.form;have HC4:Hid (kl.length≤c4∧c4≤9223372036854775807):=⟨ha4,hb4⟩;clear o4 m4 hkl ha4 hb4)
     go_wp2_with fail
     refine hK.out _ _ ?_ (fun hHeld=> ?_)
     ·exact KEEP.out _ L4.out
     clear hK K
     try simp only[Act.put,Take.a,Take.b,Take.c]
     refine Take.k 8 ⟨some 16,.assign (.tmp 80),_,_,_,none⟩ ?_
     refine wpAnyH_done (by kernel_rfl) ?_ _
     have L5:=hid (on LR.out L4.out)
     have P5:=hid (PR.out.below L4.out)
     have A5:=hid (AR.out.below L4.out)
     have R5:=hid ((RR.out.below L4.out).more L4.out.size)
     clear S0 KEEP L2 L3 L4 T2 T3 PR AR RR LR
     have KO:=hid (fun u (hu:EB i u)=>(⟨H6.out i u HIN.out hu,(HA3.out u (H6.out i u HIN.out hu)).2 hu⟩:u≤z.size∧at_ l3 u=true))
     rcases Nat.eq_zero_or_pos kl.length with h0|h0
     ·have t0: ¬(0:Int)<(kl.length:Int):=by omega
      have UP2:Hid (Upon EB F i1 0 0 false):=⟨fun _=>⟨rfl,rfl,fun b hb u hu=>by
       by_cases e:b=i
       ·subst e
        obtain⟨q1,q2⟩:=KO.out u hu
        exact no_place (l:=l3) (by rw[HKL.out];exact List.length_eq_zero_iff.1 h0) (by rw[HL3.out];omega) q2
       ·exact HNB.out b (by have:=HIG.out;omega) u hu⟩,fun h=>by cases h⟩
      clear h0 HNB
      go_wp2_with fail
      go_roundg gk
      case measure=>omega
      case rel=>exact⟨i1,0,0,false,rfl,rfl,rfl,by first|rfl|exact congrArg (Value.int .i64) hwi.out.1|exact congrArg (Value.int .i64) hwi.out.2,HIG.out.1,UP2,L5,P5,A5,R5⟩
     ·obtain⟨m,hm⟩: ∃m,kl.length=m+1:=⟨kl.length-1,by omega⟩
      have t0:(0:Int)<(kl.length:Int):=by omega
      have tm:(m:Int)<(kl.length:Int):=by omega
      have hwm:wrap64 ((kl.length:Int)-1)=(m:Int):=by have:=HC4.out;unfold wrap64;omega
      obtain⟨hml,⟨hk1,hk2⟩,hk3⟩:=last_place HKL.out hm
      obtain⟨b4,o4,hl4,rfl,e4⟩:=nums_at N4.out (k:=m) (by omega)
      obtain⟨u,hu⟩: ∃u,kl[m]=u:=⟨_,rfl⟩
      rw[hu]at e4 hk1 hk2 hk3
      have UP2:Hid (Upon EB F i1 i u true):=⟨(fun h=>by cases h),fun _=>HSO.out i u HIN.out ((HA3.out u (by have:=HL3.out;omega)).1 hk2) (fun t' ht=>by
       obtain⟨q1,q2⟩:=KO.out t' ht
       exact hk3 t' (by rw[HL3.out];omega) q2) fun b hb t'=>HNB.out b hb t'⟩
      clear h0 HNB hm hml hk1 hk2 hk3 hu hl4
      go_wp2_with fail
      go_roundg gk
      case measure=>omega
      case rel=>exact⟨i1,i,u,true,rfl,rfl,rfl,by first|rfl|exact congrArg (Value.int .i64) hwi.out.1|exact congrArg (Value.int .i64) hwi.out.2,HIG.out.1,UP2,L5,P5,A5,R5⟩
 case rest=>
  obtain⟨rfl,rfl,rfl,L8,P8,A8,R8⟩:=hcut
  have AR:=A8
  have S0:Hid (PBox (wc.drewN 1) b3 r∧Below wc.heap.size wc (wc.drewN 1)):=⟨P8.out,below_draws wc 1⟩
  have KEEP:Hid (∀x,Below wc.heap.size wc x→PBox x b3 r∧Below wc.heap.size wc x):=fun x hx=>⟨P8.out.below hx,hx⟩
  obtain⟨fa,ft,fm⟩:=F
  simp only at H7 H8 ⊢
  go_wp2_with fail
  refine wp_region_held_drew (S:=fun w'=>PBox w' b3 r∧Below wc.heap.size wc w') (by kernel_rfl) S0.out (fun hHeld=> ?_)
  refine Take.k 0 ⟨some 91,.load 25 (.tmp 5),_,_,_,none⟩ ?_ (hy:=Or.inl ⟨by rfl,by(intro w hSw;(try dsimp only at hSw);(first|(refine run_load_op (.tmp 5) ?_ ?_ hSw.1.cells<;>rfl)|(go_simp;try with_reducible rfl)))⟩)
  refine Take.k 1 ⟨some 92,.move (.tmp 1),_,_,_,none⟩ ?_
  refine Take.k 2 ⟨some 93,.move (.tmp 1),_,_,_,none⟩ ?_
  refine Take.k 3 ⟨some 94,.call ⟨.builtin .len, #[.tmp 93], #[9]⟩,_,_,_,none⟩ ?_
  refine wpAnyH_ready (rs:= [4]) (by kernel_rfl) (by simp) ?_
  refine AllReadyH.cons (o:=⟨some 95,.call ⟨.value (.func 12), #[.tmp 94,.const (.int .i64 0)], #[3,3]⟩,_,_,_,none⟩) rfl (fun K hK=> ?_) AllReadyH.nil
  go_simp
  (go_at_call 12;refine(at_any (n:=z.size) (i:=0) (Nat.zero_le _) (by have:=HZ.out;omega)).mono ?_;rintro e x2 ⟨v2,rfl,tr2,m2⟩;have L2:=hid (on S0.out.2 m2);have T2:=hid tr2;clear tr2 m2)
  go_wp2_with fail
  refine hK.out _ _ ?_ (fun hHeld=> ?_)
  ·exact KEEP.out _ L2.out
  clear hK K
  try simp only[Act.put,Take.a,Take.b,Take.c]
  refine wpAnyH_ready (rs:= [5]) (by kernel_rfl) (by simp) ?_
  refine AllReadyH.cons (o:=⟨some 96,.call ⟨.value (.func 11), #[.tmp 91,.tmp 92,.tmp 95], #[25,9,37]⟩,_,_,_,none⟩) rfl (fun K hK=> ?_) AllReadyH.nil
  go_simp
  (go_at_call 11;refine(H5.out _ r _ _ 0 (AR.out.below L2.out) T2.out (Nat.zero_le _) rfl).mono ?_;rintro e x3 ⟨l3,hl3,ha3,v3,rfl,tr3,m3⟩;have L3:=hid (on L2.out m3);have T3:=hid tr3;have HL3:=hid hl3;have HA3:=hid ha3;clear tr3 m3 hl3 ha3)
  go_wp2_with fail
  refine hK.out _ _ ?_ (fun hHeld=> ?_)
  ·exact KEEP.out _ L3.out
  clear hK K
  try simp only[Act.put,Take.a,Take.b,Take.c]
  refine Take.k 6 ⟨some 17,.assign (.tmp 96),_,_,_,none⟩ ?_
  refine wpAnyH_done (by kernel_rfl) ?_ _
  have L9:=hid (on L8.out L3.out)
  have R9:=hid ((R8.out.below L3.out).more L3.out.size)
  obtain⟨A3,c3,rfl,ha3,hb3⟩:=T3.out.form
  obtain⟨b5,o5,rfl,hb5,e5⟩:=trus_at T3.out (k:=z.size) (by have:=HL3.out;omega)
  have hwx:at_ l3 z.size=wh:=by
   have h1:=HA3.out z.size (Nat.le_refl _)
   have h2:=HW.out
   cases hx:at_ l3 z.size<;>cases hy:wh<;>rw[hx]at h1<;>rw[hy]at h2<;>simp_all
  rw[hwx]at e5
  have E5:Hid (x3.cell? ⟨b5,o5+z.size,none⟩=some (.bool wh)∧b5<x3.heap.size):=⟨e5,hb5⟩
  clear hb5
  have HC3:Hid (l3.length≤c3∧c3≤9223372036854775807):=⟨ha3,hb3⟩
  have tz:(z.size:Int)<(l3.length:Int):=by have:=HL3.out;omega
  clear S0 KEEP L2 L3 T2 AR L8 P8 A8 R8 T3 ha3 hb3 hwx e5
  go_wp2_with fail
  refine(H7.out _ _ R9.out).mono ?_
  rintro e x9 ⟨rfl,m9⟩
  have LA:=hid (on L9.out m9)
  have RA:=hid ((R9.out.below m9).more m9.size)
  have EA:Hid (x9.cell? ⟨b5,o5+z.size,none⟩=some (.bool wh)∧b5<x9.heap.size):=by
   obtain⟨h1,h2⟩:=E5.out
   exact⟨(W14.cell_block (a:=⟨b5,o5+z.size,none⟩) (m9.block b5 h2)).trans h1,Nat.lt_of_lt_of_le h2 m9.size⟩
  have S1:Hid ((x9.drewN 1).cell? ⟨b5,o5+z.size,none⟩=some (.bool wh)∧Below x9.heap.size x9 (x9.drewN 1)):=⟨EA.out.1,below_draws x9 1⟩
  have KEEP:Hid (∀x,Below x9.heap.size x9 x→x.cell? ⟨b5,o5+z.size,none⟩=some (.bool wh)∧Below x9.heap.size x9 x):=fun x hx=>⟨(W14.cell_block (a:=⟨b5,o5+z.size,none⟩) (hx.block b5 EA.out.2)).trans EA.out.1,hx⟩
  have tf:(fm==fm)=true:=beq_self_eq_true _
  have tw:(wh==wh)=true:=beq_self_eq_true _
  have ta:((fa:Int)==(fa:Int))=true:=beq_self_eq_true _
  have tt:((ft:Int)==(ft:Int))=true:=beq_self_eq_true _
  clear m9 L9 R9 E5
  go_wp2_with fail
  refine wp_region_held_drew (S:=fun w'=>w'.cell? ⟨b5,o5+z.size,none⟩=some (.bool wh)∧Below x9.heap.size x9 w') (by kernel_rfl) S1.out (fun hHeld=> ?_)
  refine Take.k 0 ⟨some 104,.move (.tmp 8),_,_,_,none⟩ ?_
  refine Take.k 1 ⟨some 105,.move (.tmp 14),_,_,_,none⟩ ?_
  refine Take.k 2 ⟨some 106,.binOp .eql 4 (.tmp 104) (.tmp 105) 4,_,_,_,none⟩ ?_
  refine Take.k 3 ⟨some 107,.move (.tmp 106),_,_,_,none⟩ ?_
  refine Take.k 4 ⟨some 108,.move (.tmp 9),_,_,_,some (3,true)⟩ ?_
  refine Take.k 5 ⟨some 109,.binOp .eql 28 (.tmp 108) (.const (.int .i64 0)) 28,_,_,_,some (3,true)⟩ ?_
  refine Take.k 6 ⟨some 110,.pick (.tmp 107) (.tmp 109) (.const (.bool false)),_,_,_,none⟩ ?_
  refine Take.k 7 ⟨some 111,.move (.tmp 110),_,_,_,none⟩ ?_
  refine Take.k 8 ⟨some 112,.move (.tmp 10),_,_,_,some (7,true)⟩ ?_
  refine Take.k 9 ⟨some 113,.move (.tmp 1),_,_,_,some (7,true)⟩ ?_
  refine Take.k 11 ⟨some 115,.move (.tmp 14),_,_,_,some (7,true)⟩ ?_
  refine wpAnyH_ready (rs:= [10]) (by kernel_rfl) (by simp) ?_
  refine AllReadyH.cons (o:=⟨some 114,.call ⟨.value (.func 14), #[.tmp 112,.tmp 113], #[32,9]⟩,_,_,_,some (7,true)⟩) rfl (fun K hK=> ?_) AllReadyH.nil
  go_simp
  (go_at_call 14;refine(H8.out _ _ ((RA.out.below S1.out.2).more S1.out.2.size)).mono ?_;rintro e y1 ⟨rfl,m1⟩;have M1:=hid (on S1.out.2 m1);clear m1)
  go_wp2_with fail
  refine hK.out _ _ ?_ (fun hHeld=> ?_)
  ·exact KEEP.out _ M1.out
  clear hK K
  try simp only[Act.put,Take.a,Take.b,Take.c]
  refine Take.k 12 ⟨some 116,.binOp .eql 4 (.tmp 114) (.tmp 115) 4,_,_,_,some (7,true)⟩ ?_
  refine Take.k 13 ⟨some 117,.pick (.tmp 111) (.tmp 116) (.const (.bool false)),_,_,_,none⟩ ?_
  refine Take.k 14 ⟨some 118,.move (.tmp 117),_,_,_,none⟩ ?_
  refine Take.k 15 ⟨some 119,.move (.tmp 10),_,_,_,some (14,true)⟩ ?_
  refine Take.k 16 ⟨some 120,.move (.tmp 1),_,_,_,some (14,true)⟩ ?_
  refine Take.k 18 ⟨some 122,.move (.tmp 17),_,_,_,some (14,true)⟩ ?_
  refine Take.k 19 ⟨some 123,.move (.tmp 1),_,_,_,some (14,true)⟩ ?_
  refine Take.k 20 ⟨some 124,.call ⟨.builtin .len, #[.tmp 123], #[9]⟩,_,_,_,some (14,true)⟩ ?_
  refine Take.k 21 ⟨some 125,.indexAddr 37 (.tmp 122) (.tmp 124),_,_,_,some (14,true)⟩ ?_
  refine Take.k 22 ⟨some 126,.load 4 (.tmp 125),_,_,_,some (14,true)⟩ ?_
  refine wpAnyH_ready (rs:= [17]) (by kernel_rfl) (by simp) ?_
  refine AllReadyH.cons (o:=⟨some 121,.call ⟨.value (.func 15), #[.tmp 119,.tmp 120], #[32,9]⟩,_,_,_,some (14,true)⟩) rfl (fun K hK=> ?_) AllReadyH.nil
  go_simp
  (go_at_call 15;refine(H9.out _ _ ((RA.out.below M1.out).more M1.out.size)).mono ?_;rintro e y2 ⟨rfl,m2⟩;have M2:=hid (on M1.out m2);clear m2)
  go_wp2_with fail
  refine hK.out _ _ ?_ (fun hHeld=> ?_)
  ·exact KEEP.out _ M2.out
  clear hK K
  try simp only[Act.put,Take.a,Take.b,Take.c]
  refine Take.k 23 ⟨some 127,.binOp .eql 4 (.tmp 121) (.tmp 126) 4,_,_,_,some (14,true)⟩ ?_
  refine Take.k 24 ⟨some 128,.pick (.tmp 118) (.tmp 127) (.const (.bool false)),_,_,_,none⟩ ?_
  refine Take.k 25 ⟨some 129,.move (.tmp 128),_,_,_,none⟩ ?_
  refine Take.k 26 ⟨some 130,.move (.tmp 18),_,_,_,some (25,true)⟩ ?_
  refine Take.k 27 ⟨some 131,.move (.tmp 12),_,_,_,some (25,true)⟩ ?_
  refine Take.k 28 ⟨some 132,.binOp .eql 3 (.tmp 130) (.tmp 131) 3,_,_,_,some (25,true)⟩ ?_
  refine Take.k 29 ⟨some 133,.pick (.tmp 129) (.tmp 132) (.const (.bool false)),_,_,_,none⟩ ?_
  refine Take.k 30 ⟨some 134,.move (.tmp 133),_,_,_,none⟩ ?_
  refine Take.k 31 ⟨some 135,.move (.tmp 19),_,_,_,some (30,true)⟩ ?_
  refine Take.k 32 ⟨some 136,.move (.tmp 13),_,_,_,some (30,true)⟩ ?_
  refine Take.k 33 ⟨some 137,.binOp .eql 3 (.tmp 135) (.tmp 136) 3,_,_,_,some (30,true)⟩ ?_
  refine Take.k 34 ⟨some 138,.pick (.tmp 134) (.tmp 137) (.const (.bool false)),_,_,_,none⟩ ?_
  refine Take.k 35 ⟨some 139,.move (.tmp 138),_,_,_,none⟩ ?_
  refine Take.k 36 ⟨some 140,.move (.tmp 20),_,_,_,some (35,true)⟩ ?_
  refine Take.k 37 ⟨some 141,.move (.tmp 14),_,_,_,some (35,true)⟩ ?_
  refine Take.k 38 ⟨some 142,.binOp .eql 4 (.tmp 140) (.tmp 141) 4,_,_,_,some (35,true)⟩ ?_
  refine Take.k 39 ⟨some 143,.pick (.tmp 139) (.tmp 142) (.const (.bool false)),_,_,_,none⟩ ?_
  refine Take.k 40 ⟨some 144,.move (.tmp 143),_,_,_,none⟩ ?_
  refine wpAnyH_ready (rs:= [41]) (by kernel_rfl) (by simp) ?_
  refine AllReadyH.cons (o:=⟨some 145,.call ⟨.value (.func 5), #[], #[]⟩,_,_,_,some (40,true)⟩) rfl (fun K hK=> ?_) AllReadyH.nil
  go_simp
  (go_at_call 5;refine(HV.out _).mono ?_;rintro e y3 ⟨rfl,m3⟩;have M3:=hid (on M2.out m3);clear m3)
  go_wp2_with fail
  refine hK.out _ _ ?_ (fun hHeld=> ?_)
  ·exact KEEP.out _ M3.out
  clear hK K
  try simp only[Act.put,Take.a,Take.b,Take.c]
  refine Take.k 42 ⟨some 146,.pick (.tmp 144) (.tmp 145) (.const (.bool false)),_,_,_,none⟩ ?_
  refine Take.k 43 ⟨some 4,.assign (.tmp 146),_,_,_,none⟩ ?_
  refine wpAnyH_done (by kernel_rfl) ?_ _
  go_wp2_with fail
  go_ret
  exact⟨rfl,on LA.out M3.out⟩
theorem matchFinds_law (p:ByteArray) (hp:p.size≤140737488351232) (z:ByteArray) (hz:z.size≤140737488351232) (w:World):Calls Tryz.prog 3 #[.string p,.string z] w (Yes w):=by
 by_cases hlong:60<p.size∨20<z.size
 ·exact finds_long hlong (by omega) (by omega)
 have hp6:p.size≤60:=by omega
 have hz2:z.size≤20:=by omega
 have hzl:z.data.toList.length=z.size:=(Lib.size_eq z).symm
 obtain⟨g,hg,hf,hC⟩:=W14.parse_any (s:=p) (by omega)
 have hR:=fun w=>W14.rparse_any (w:=w) (s:=p) (by omega) (W15.p13_is (by omega)) hg hf
 have hw:W15.WholeG (M14.fix p.data.toList 0 g):=W15.fix_whole hf
 generalize M14.fix p.data.toList 0 g=G at hC hR hw
 clear hg hf hlong hp hz
 cases G with
 |bad q er=>exact finds_bad hp6 hz2 hR fun w=>is_bad fun w=>of_badN hC
 |ok P qe=>
  have hwP:Whole P:=hw
  have hG:=M15.Good.of_whole hwP
  have h3: ∀w r,PLow w r P→Calls Tryz.prog 8 #[.agg (rawA r)] w fun e w'=>e= .returned (.int .i64 (size P))∧Below w.heap.size w w':=fun w r hl=>W15.size_of hG w r hl
  by_cases hs:size P≤4000
  ·have hO:=of_okW (p:=p) hwP hs hC
   have hlen:=prog_len hG hs
   by_cases hs3:size P≤300
   ·have hr:rightP (prog P)=true:=M15.prog_right (M15.whole_gwhole hwP) hs
    have hfair:=M16.fair_of hr
    have hE:=fun b t=>M16.prog_ends hG hs z.data.toList b t
    have h2:=fun w=>is_ok (w:=w) (p:=p) (s:=z) hO (by omega) (by omega)
    have hF:found (prog P) z=(lastOf (yields (prog P) z.data.toList 0 z.size)).2.2:=isEmpty_last _
    rw[hF]at h2
    refine finds_main (EB:=EndsAt (prog P) z.data.toList) (wh:=(yields (prog P) z.data.toList 0 0).any fun y=>decide (y.2=z.size)) hp6 hz2 hs3 hR h2 h3 (fun w=> ?_) (fun w r v l b hl hv hb e=> ?_) (fun b t hb he=> ?_) ?_ (fun h=> ?_) (fun a t ha he h1 h2=> ?_) (fun w v h=>first_any h (by omega) (by omega)) (fun w v h=> ?_) (fun w v h=>whole_any h (by omega) (by omega))
    ·have h:=W15.rof_got (w:=w) (s:=p) (g:= .ok P qe) hwP hR
     refine h.mono fun e w' q=> ?_
     have q2:(if size P≤4000 then Gives w (prog P) e w' else Fails w 21 e w'):=q
     rwa[if_pos hs]at q2
    ·subst e
     refine(rends_all (s:=z) (by omega) hwP w r v _ hl hv (by unfold oneAt;simp)).mono fun e w' q=> ?_
     obtain⟨l',h1,h2⟩:=q
     exact⟨l',h1.1,fun t ht=>(one_row hb h1 ht).trans (hE b t).symm,h2⟩
    ·have:=M16.E_in hG b t (by rw[hzl];exact hb) ((hE b t).1 he)
     rwa[hzl]at this
    ·have:=whole_ends (S:=z.data.toList) hfair hr
     rwa[hzl]at this
    ·have:=find_none (S:=z.data.toList) hfair hr (by rw[hzl];exact h)
     rw[hzl]at this
     rw[this]
     rfl
    ·have:=find_some (S:=z.data.toList) hfair hr (by rw[hzl];exact ha) he h1 h2
     rwa[hzl]at this
    ·have:=search_any h (s:=z) (by omega) (by omega)
     rwa[isEmpty_last]at this
   ·exact finds_big hp6 hz2 (by omega) hR (fun w=>is_ok (w:=w) hO (by omega) (by omega)) h3
  ·exact finds_big hp6 hz2 (by omega) hR (fun w=>is_bad fun w=>of_manyW hwP hs hC w) h3
end
end W16
end Go.Proofs.YtehdnbidgphecaaGreatDoor
