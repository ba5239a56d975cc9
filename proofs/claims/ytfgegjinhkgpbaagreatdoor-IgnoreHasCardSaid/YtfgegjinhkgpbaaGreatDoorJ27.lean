/-
  Texts joined, in build order, each with its own comment and its own conditions: W15RefOf, W17Says.
-/
import Derived.Test.YtfgegjinhkgpbaaGreatDoorJ20
import Derived.Test.YtfgegjinhkgpbaaGreatDoorJ18
import Derived.Test.YtfgegjinhkgpbaaGreatDoorJ25
import Derived.Test.YtfgegjinhkgpbaaGreatDoorJ26
import Derived.Test.YtfgegjinhkgpbaaGreatDoorJ19
namespace Go.Proofs.YtfgegjinhkgpbaaGreatDoor
set_option maxHeartbeats 4000000
set_option maxRecDepth 100000
open Go.RowKit
open Lib (hid)
namespace EH
open Strs Al Bv
open Cj (Piece size sizes Dg Whole)
open W14 (Raw Ea Ak Co DF FT Ad Be AZ AV AU Bi AJ AB Bp Af AY YD)
open Kit (below_draws on)
theorem lM {s:ByteArray} (hs:s.size<=900):YD s:=by
 intro a w ha
 have hz:(s.extract a s.size).size=s.size-a:=by rw[ByteArray.size_extract];omega
 have h:=FD.Ja (s:=s.extract a s.size) (by omega) (by omega) w
 rw[Kit.Aa s a]at h
 exact h
section
variable {s:ByteArray} {w:World}
theorem pW {q:Nat} {er:Int} (hC: ∀w,Calls Tryz.prog 27 #[.string s] w (Bp w (.bad q er))):Calls Tryz.prog 26 #[.string s] w (Fails w er):=by
 have HC:=hid hC
 clear hC
 go_enter Tryz.func26,Tryz.ntmps26
 go_wp2_with fail
 refine(HC.out _).mono ?_
 rintro e w1 ⟨l1,he,rfl⟩
 have te:(er !=0)=true:=by simpa using he
 have L1:=hid l1
 clear l1 he
 go_wp2_with (first
  |(refine AJ rfl rfl ?_;intro w3 b3 e3 p3 l3 z3)
  |(refine AB (r:=Af) rfl (.tmp 4) (.tmp 10) rfl rfl rfl p3 ?_;intro w4 p4 l4 z4;have L4:=hid (on L1.out (AY l3 l4 e3));clear e3 p3 l3 z3 p4 l4 z4))
 go_ret2
 exact⟨rfl,L4.out⟩
theorem lN {p:Piece} {tt:Nat} (hg:Bv.Good p) (hz:4000<size p) (hC: ∀w,Calls Tryz.prog 27 #[.string s] w (Bp w (.ok p tt))):Calls Tryz.prog 26 #[.string s] w (Fails w 21):=by
 have HC:=hid hC
 have HS:=hid (fun w r hl=>KU hg w r hl)
 obtain⟨n,hn⟩: ∃n,size p=n:=⟨_,rfl⟩
 rw[hn]at HS
 have tn:(4000:Int)<(n:Int):=by omega
 clear hC hg hz hn
 go_enter Tryz.func26,Tryz.ntmps26
 go_wp2_with fail
 refine(HC.out _).mono ?_
 rintro e w1 ⟨l1,r,rfl,hp⟩
 have L1:=hid l1
 have A1:=hid hp.low
 clear l1 hp
 go_wp2_with (first
  |(refine AJ rfl rfl ?_;intro w3 b3 e3 p3 l3 z3)
  |(refine AB (r:=r) rfl (.tmp 4) (.tmp 10) rfl rfl rfl p3 ?_;intro w4 p4 l4 z4;have eG:=hid (AY l3 l4 e3);have P4:=hid p4;clear e3 p3 l3 z3 p4 l4 z4)
  |(refine AU (r:=r) rfl (.tmp 4) rfl rfl P4.out ?_))
 refine(HS.out _ _ (A1.out.below eG.out)).mono ?_
 rintro e w5 ⟨rfl,l5⟩
 have L5:=hid (on (on L1.out eG.out) l5)
 clear l5
 go_wp2_with fail
 go_ret2
 exact⟨rfl,L5.out⟩
theorem t_ {p:Piece} {tt:Nat} (hw:Whole p) (hz:size p<=4000) (hC: ∀w,Calls Tryz.prog 27 #[.string s] w (Bp w (.ok p tt))):Calls Tryz.prog 26 #[.string s] w (Gives w (prog p)):=by
 have hg:=Good.of_whole hw
 have HC:=hid hC
 have HS:=hid (fun w r hl=>KU hg w r hl)
 have hb:(Dh p&&decide (Cb p<=4000))=true:=by
  rw[JN hw,RG hg,decide_eq_true hz];rfl
 have HP:Hid (∀(w:World) (r:Raw),Be w r p->Calls Tryz.prog 46 #[.agg (Ak r)] w (Gives w (prog p))):=fun w r hl=>Xz hb hl
 obtain⟨n,hn⟩: ∃n,size p=n:=⟨_,rfl⟩
 rw[hn]at HS
 have tn: ¬(4000:Int)<(n:Int):=by omega
 clear hC hw hz hn hg hb
 go_enter Tryz.func26,Tryz.ntmps26
 go_wp2_with fail
 refine(HC.out _).mono ?_
 rintro e w1 ⟨l1,r,rfl,hp⟩
 have L1:=hid l1
 have A1:=hid hp.low
 clear l1 hp
 go_wp2_with (first
  |(refine AJ rfl rfl ?_;intro w3 b3 e3 p3 l3 z3)
  |(refine AB (r:=r) rfl (.tmp 4) (.tmp 10) rfl rfl rfl p3 ?_;intro w4 p4 l4 z4;have eG:=hid (AY l3 l4 e3);have P4:=hid p4;clear e3 p3 l3 z3 p4 l4 z4)
  |(refine AU (r:=r) rfl (.tmp 4) rfl rfl P4.out ?_))
 refine(HS.out _ _ (A1.out.below eG.out)).mono ?_
 rintro e w5 ⟨rfl,l5⟩
 have P5:=hid (P4.out.below l5)
 have A5:=hid ((A1.out.below eG.out).below l5)
 have L5:=hid (on (on L1.out eG.out) l5)
 clear l5
 go_wp2_with (first
  |(refine AU (r:=r) rfl (.tmp 4) rfl rfl P5.out ?_))
 refine(HP.out _ _ A5.out).mono ?_
 rintro e w6 ⟨v,rfl,o6,l6⟩
 have O6:=hid (o6.mono L5.out.size)
 have L6:=hid (on L5.out l6)
 clear o6 l6
 go_wp2_with fail
 go_ret2
 exact⟨v,rfl,O6.out,L6.out⟩
theorem pX {g:Dg} (hw:Ny g) (hC: ∀w,Calls Tryz.prog 27 #[.string s] w (Bp w g)):Calls Tryz.prog 26 #[.string s] w (vk w g):=by
 match g,hw,hC with
 | .bad q er,_,hC=>exact pW hC
 | .ok p tt,hw,hC=>
  by_cases hz:size p<=4000
  ·refine(t_ hw hz hC).mono fun e w' h=> ?_
   show ite _ _ _
   rw[if_pos hz];exact h
  refine(lN (.of_whole hw) (by omega) hC).mono fun e w' h=> ?_
  show ite _ _ _
  rw[if_neg hz];exact h
end
end EH
namespace Gg
open Cj (size)
open EH (Gives Fails)
theorem lQ (p:ByteArray) (hp:p.size<=900) (w:World):Calls Tryz.prog 26 #[.string p] w fun e w'=> ∃v,e= .returned (.tuple #[v,.int .i64 (er p)])/\Below w.heap.size w w':=by
 obtain⟨g,hg,hf,-⟩:=W14.Ff hp
 have hR:=fun w=>W14.R_ (w:=w) hp (EH.lM hp) hg hf
 have hw:EH.Ny (Cj.fix p.data.toList 0 g):=EH.Uc hf
 have h:=EH.pX (w:=w) hw hR
 have e:er p=erG (Cj.fix p.data.toList 0 g):=by unfold er;rw[Zn hg]
 rw[e]
 refine h.mono ?_
 generalize Cj.fix p.data.toList 0 g=G
 cases G with
 |bad q er=>
  rintro e w' ⟨rfl,l⟩
  exact⟨_,rfl,l⟩
 |ok P te=>
  intro e w' h
  by_cases hz:size P<=4000
  ·have h2:(if size P<=4000 then Gives w (Bv.prog P) e w' else Fails w 21 e w'):=h
   rw[if_pos hz]at h2
   obtain⟨v,rfl,-,l⟩:=h2
   exact⟨v,by show _=Ending.returned (.tuple #[v,.int .i64 (if size P<=4000 then 0 else 21)]);rw[if_pos hz],l⟩
  have h2:(if size P<=4000 then Gives w (Bv.prog P) e w' else Fails w 21 e w'):=h
  rw[if_neg hz]at h2
  obtain⟨rfl,l⟩:=h2
  exact⟨_,by show _=Ending.returned (.tuple #[_,.int .i64 (if size P<=4000 then 0 else 21)]);rw[if_neg hz],l⟩
end Gg
end Go.Proofs.YtfgegjinhkgpbaaGreatDoor
