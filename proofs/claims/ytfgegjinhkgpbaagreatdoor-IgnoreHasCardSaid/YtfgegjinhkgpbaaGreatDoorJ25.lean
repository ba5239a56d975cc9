/-
  Texts joined, in build order, each with its own comment and its own conditions: W14RefAll, W14RefParse.
-/
import Derived.Test.YtfgegjinhkgpbaaGreatDoorJ24
import Derived.Test.YtfgegjinhkgpbaaGreatDoorJ18
import Derived.Test.YtfgegjinhkgpbaaGreatDoorJ03
namespace Go.Proofs.YtfgegjinhkgpbaaGreatDoor
set_option maxHeartbeats 4000000
set_option maxRecDepth 100000
open Go.RowKit
open Lib (hid)
namespace W14
open Cj
section
variable {s:ByteArray} {at_ deep:Nat}
def YD (s:ByteArray):Prop:= ∀(a:Nat) (w:World),a<s.size->Calls Tryz.prog 154 #[.string (s.extract a s.size)] w (FD.ET w (Ew.parse (s.data.toList.drop a)))
theorem fD {R:Nat->Nat->Option Dg} (hR:OI s R (at_+1)) (hP:YD s) (hat:at_<s.size) (hs:s.size<=900) (hd:deep<=64):Pp R s at_ deep:=by
 have hlen:s.data.toList.length=s.size:=(Lib.size_eq s).symm
 have hc:s.data.toList.getD at_ 0=s[at_]:=Kit.CO s at_ hat
 have hg:deep≠64->at_+1<=s.data.toList.length-> ∃g,R (at_+1) (deep+1)=some g/\GN s.data.toList (at_+1) g:=fun h q=>by
  obtain⟨g,e,hf,-⟩:=hR (at_+1) (deep+1) (Nat.le_refl _) (by omega) (by omega)
  exact⟨g,e,hf⟩
 obtain⟨g,e,hf⟩:=NW (R:=R) (deep:=deep) (S:=s.data.toList) (at_:=at_) (by omega) hg
 refine⟨g,e,hf,fun w=> ?_⟩
 by_cases IX:s[at_]=40
 ·rw[UX (by rw[hc];exact IX) (fun q=>by obtain⟨g,e,-⟩:=hg q (by omega);exact⟨g,e⟩)]at e
  injection e with e
  subst e
  unfold Im
  by_cases h64:deep=64
  ·rw[if_pos h64];exact Vr hat hs IX h64
  rw[if_neg h64]
  obtain⟨g,e,hf2,hC⟩:=hR (at_+1) (deep+1) (Nat.le_refl _) (by omega) (by omega)
  rw[e]
  match g,hf2,hC with
  | .bad q er,hf2,hC=>exact TV hat hs IX (by omega) hC
  | .ok p to,hf2,hC=>
   simp only
   have h2:=hf2.2.1
   by_cases ht:to=s.data.toList.length
   ·rw[if_pos ht,hlen];exact TW hat hs IX (by omega) (by omega) hC
   rw[if_neg ht];exact Vt hat hs IX (by omega) (by omega) hC
 by_cases FX:s[at_]=91
 ·rw[UY (by rw[hc];exact FX)]at e
  injection e with e
  subst e
  obtain⟨⟨F,n,er⟩,hp⟩: ∃r,Ew.parse (s.data.toList.drop at_)=r:=⟨_,rfl⟩
  have hP2:=fun w=>hP at_ w hat
  rw[hp]
  simp only
  by_cases he:er=0
  ·rw[if_neg (by simpa using he)];exact TY hat hs FX hp hP2 he
  rw[if_pos he];exact R9 hat hs FX hp hP2 he
 by_cases Fy:s[at_]=92
 ·rw[UZ (by rw[hc];exact Fy)]at e
  injection e with e
  subst e
  unfold En
  by_cases hl:at_+1=s.size
  ·rw[if_pos (by omega)];exact TU hat hs Fy hl
  have hl2:at_+1<s.size:=by omega
  rw[if_neg (by omega),Hf hl2]
  cases hlet:Ew.letter s[at_+1]with
  |true=>rw[if_pos rfl];exact Rz hat hs Fy hl2 hlet
  |false=>rw[if_neg (by simp)];exact PV hat hs Fy hl2 hlet
 unfold atom at e
 rw[hc,if_neg IX,if_neg FX]at e
 by_cases h46:s[at_]=46
 ·rw[if_pos h46]at e
  injection e with e
  subst e
  exact TQ hat hs h46
 rw[if_neg h46]at e
 by_cases Jh:s[at_]=94
 ·rw[if_pos Jh]at e
  injection e with e
  subst e
  exact TS hat hs Jh
 rw[if_neg Jh]at e
 by_cases V9:s[at_]=36
 ·rw[if_pos V9]at e
  injection e with e
  subst e
  exact Vn hat hs V9
 rw[if_neg V9]at e
 by_cases hq:s[at_]=42\/s[at_]=43\/s[at_]=63\/s[at_]=123
 ·rw[if_pos hq]at e
  injection e with e
  subst e
  rcases hq with q|q|q|q
  ·exact Vo hat hs q
  ·exact Vp hat hs q
  ·exact Vq hat hs q
  exact TT hat hs q
 rw[if_neg hq,if_pos Fy]at e
 injection e with e
 subst e
 exact Vs hat hs IX FX h46 Jh V9 (fun q=>hq (.inl q)) (fun q=>hq (.inr (.inl q))) (fun q=>hq (.inr (.inr (.inl q)))) (fun q=>hq (.inr (.inr (.inr q)))) Fy
theorem OI.more {R:Nat->Nat->Option Dg} {lo lo':Nat} (h:OI s R lo) (k:lo<=lo'):OI s R lo':=fun a d h1 h2 h3=>h a d (Nat.le_trans k h1) h2 h3
theorem lI (hs:s.size<=900) (hP:YD s): ∀(n lo:Nat),s.data.toList.length<lo+n->OI s (rows s.data.toList n) lo
 |0,lo,h=>fun a d h1 h2 _=>by rw[<-Lib.size_eq]at h;omega
 |n+1,lo,h=>fun a d h1 h2 h3=>by
  have hl:s.data.toList.length=s.size:=(Lib.size_eq s).symm
  obtain⟨g,e,hf⟩:=NY (S:=s.data.toList) (by omega) (n+1) a d (by omega) (by omega)
  have ih:OI s (rows s.data.toList n) (a+1):=lI hs hP n (a+1) (by omega)
  refine⟨g,e,hf,fun w=> ?_⟩
  exact refRows_any (R:=rows s.data.toList n) (fun b hb1 hb2=>fD (ih.more (by omega)) hP hb2 hs h3) (fun hd to h4 h5=>by
   obtain⟨g,e,hf,-⟩:=ih to (d+1) (by omega) h5 (by omega)
   exact⟨g,e,hf⟩) h2 hs (by unfold rows at e;exact e)
end
end W14
namespace W14
open Strs Al Cj
open BU (Beside)
open Kit (below_draws on)
section
variable {w:World} {s:ByteArray}
theorem fE {p:Piece} {to:Nat} (hto:to=s.size) (hC: ∀w,Calls Tryz.prog 47 #[.string s,.int .i64 0,.int .i64 0] w (Df w (.ok p to))):
    Calls Tryz.prog 27 #[.string s] w (Bp w (.ok p to)):=by
 have HC:=hid hC
 have ti: ¬(to:Int)<(s.size:Int):=by omega
 clear hC hto
 go_enter Tryz.func27,Tryz.ntmps27
 go_wp2_with (first
  |(refine AJ rfl rfl ?_;intro w1 b1 e1 p1 l1 z1))
 have P1:=hid p1
 have L1:=hid l1
 have HB:=hid (show w.heap.size<=b1/\b1<w1.heap.size from⟨by omega,by omega⟩)
 clear e1 p1 l1 z1
 refine(HC.out _).mono ?_
 rintro e w2 ⟨l2,r,rfl,hp⟩
 have P2:=hid (P1.out.below l2)
 have L2:=hid (L1.out.trans (l2.mono L1.out.size))
 have HB2:=hid (show b1<w2.heap.size from Nat.lt_of_lt_of_le HB.out.2 l2.size)
 have A2:=hid hp
 clear l2 hp
 go_wp2_with (first
  |(refine Ab rfl rfl ?_;intro w3 b3 e3 p3 l3 z3)
  |(refine AQ (r:=r) (to:=((to:Nat):Int)) (e:=0) (bad:=0) rfl (.tmp 5) (.tmp 7) rfl rfl rfl p3 ?_;intro w4 p4 l4 z4;have Eu:=hid (AY l3 l4 e3);have P4:=hid (P2.out.below Eu.out);have Q4:=hid p4;have L4:=hid (L2.out.trans (Eu.out.mono L2.out.size));have A4:=hid (A2.out.CP Eu.out);have q5:=p4.c5;have q6:=p4.c6;clear e3 p3 l3 z3 p4 l4 z4)
  |(refine Aq rfl (.tmp 29) rfl rfl (r:=r) (fun j hj=>Q4.out.raw j hj) ?_)
  |(refine AB (r:=r) rfl (.tmp 2) (.tmp 30) rfl rfl rfl P4.out ?_;intro w9 p9 l9 z9))
 refine Gs rfl rfl p9 rfl ?_
 exact⟨Ah L4.out l9 HB.out.1,r,rfl,(A4.out.Bg l9 HB.out.2).Cs L1.out.size⟩
theorem YE {p:Piece} {to:Nat} (hto:to<s.size) (hC: ∀w,Calls Tryz.prog 47 #[.string s,.int .i64 0,.int .i64 0] w (Df w (.ok p to))):
    Calls Tryz.prog 27 #[.string s] w (Bp w (.bad to 3)):=by
 have HC:=hid hC
 have ti:(to:Int)<(s.size:Int):=by omega
 clear hC hto
 go_enter Tryz.func27,Tryz.ntmps27
 go_wp2_with (first
  |(refine AJ rfl rfl ?_;intro w1 b1 e1 p1 l1 z1))
 have P1:=hid p1
 have L1:=hid l1
 have HB:=hid (show w.heap.size<=b1/\b1<w1.heap.size from⟨by omega,by omega⟩)
 clear e1 p1 l1 z1
 refine(HC.out _).mono ?_
 rintro e w2 ⟨l2,r,rfl,hp⟩
 have P2:=hid (P1.out.below l2)
 have L2:=hid (L1.out.trans (l2.mono L1.out.size))
 have HB2:=hid (show b1<w2.heap.size from Nat.lt_of_lt_of_le HB.out.2 l2.size)
 clear l2 hp
 go_wp2_with (first
  |(refine Ab rfl rfl ?_;intro w3 b3 e3 p3 l3 z3)
  |(refine AQ (r:=r) (to:=((to:Nat):Int)) (e:=0) (bad:=0) rfl (.tmp 5) (.tmp 7) rfl rfl rfl p3 ?_;intro w4 p4 l4 z4;have Eu:=hid (AY l3 l4 e3);have P4:=hid (P2.out.below Eu.out);have mY:=hid (show b1≠b3 by have:=HB2.out;omega);have L4:=hid (L2.out.trans (Eu.out.mono L2.out.size));have q5:=p4.c5;have q6:=p4.c6;have q7:=p4.c7;clear e3 p3 l3 z3 p4 l4 z4))
 have fr: ∀j,w4.frozen? ⟨b1,j,none⟩=false:=fun j=>frozen_of_row w4 b1 j _ _ P4.out
 have d0:w4.cell? ⟨b1,0,none⟩=some (.int .i64 0):=cell_of_row w4 b1 0 _ _ _ P4.out
 have d1:w4.cell? ⟨b1,1,none⟩=some (.string ⟨#[]⟩):=cell_of_row w4 b1 1 _ _ _ P4.out
 have d2:w4.cell? ⟨b1,2,none⟩=some (.slice none 0 0):=cell_of_row w4 b1 2 _ _ _ P4.out
 have d3:w4.cell? ⟨b1,3,none⟩=some (.int .i64 0):=cell_of_row w4 b1 3 _ _ _ P4.out
 have d4:w4.cell? ⟨b1,4,none⟩=some (.int .i64 0):=cell_of_row w4 b1 4 _ _ _ P4.out
 have f0:=fr 0
 have f1:=fr 1
 have f2:=fr 2
 have f3:=fr 3
 have f4:=fr 4
 have hne: ¬b3=b1:=mY.out.symm
 have hne2: ¬b1=b3:=mY.out
 clear fr
 go_region
 all_goals (try go_wp2)
 refine Gs rfl rfl (Ri P4.out) rfl ?_
 exact⟨L4.out.trans ((KA w4 b1 _ _ _ _ _).below L4.out.size HB.out.1),by decide,rfl⟩
theorem aA {q:Nat} {er:Int} (hC: ∀w,Calls Tryz.prog 47 #[.string s,.int .i64 0,.int .i64 0] w (Df w (.bad q er))):
    Calls Tryz.prog 27 #[.string s] w (Bp w (.bad q er)):=by
 have HC:=hid hC
 clear hC
 go_enter Tryz.func27,Tryz.ntmps27
 go_wp2_with (first
  |(refine AJ rfl rfl ?_;intro w1 b1 e1 p1 l1 z1))
 have P1:=hid p1
 have L1:=hid l1
 have HB:=hid (show w.heap.size<=b1/\b1<w1.heap.size from⟨by omega,by omega⟩)
 clear e1 p1 l1 z1
 refine(HC.out _).mono ?_
 rintro e w2 ⟨l2,he,tq,rfl⟩
 have P2:=hid (P1.out.below l2)
 have L2:=hid (L1.out.trans (l2.mono L1.out.size))
 have HB2:=hid (show b1<w2.heap.size from Nat.lt_of_lt_of_le HB.out.2 l2.size)
 have HE:=hid he
 have te:(er !=0)=true:=by simpa using he
 have qI:(er==0)=false:=by simpa using he
 clear l2 he
 go_wp2_with (first
  |(refine Ab rfl rfl ?_;intro w3 b3 e3 p3 l3 z3)
  |(refine AQ (r:=Af) (to:=tq) (e:=er) (bad:=(q:Int)) rfl (.tmp 5) (.tmp 7) rfl rfl rfl p3 ?_;intro w4 p4 l4 z4;have Eu:=hid (AY l3 l4 e3);have P4:=hid (P2.out.below Eu.out);have mY:=hid (show b1≠b3 by have:=HB2.out;omega);have L4:=hid (L2.out.trans (Eu.out.mono L2.out.size));have q5:=p4.c5;have q6:=p4.c6;have q7:=p4.c7;clear e3 p3 l3 z3 p4 l4 z4))
 have fr: ∀j,w4.frozen? ⟨b1,j,none⟩=false:=fun j=>frozen_of_row w4 b1 j _ _ P4.out
 have d0:w4.cell? ⟨b1,0,none⟩=some (.int .i64 0):=cell_of_row w4 b1 0 _ _ _ P4.out
 have d1:w4.cell? ⟨b1,1,none⟩=some (.string ⟨#[]⟩):=cell_of_row w4 b1 1 _ _ _ P4.out
 have d2:w4.cell? ⟨b1,2,none⟩=some (.slice none 0 0):=cell_of_row w4 b1 2 _ _ _ P4.out
 have d3:w4.cell? ⟨b1,3,none⟩=some (.int .i64 0):=cell_of_row w4 b1 3 _ _ _ P4.out
 have d4:w4.cell? ⟨b1,4,none⟩=some (.int .i64 0):=cell_of_row w4 b1 4 _ _ _ P4.out
 have f0:=fr 0
 have f1:=fr 1
 have f2:=fr 2
 have f3:=fr 3
 have f4:=fr 4
 have hne: ¬b3=b1:=mY.out.symm
 have hne2: ¬b1=b3:=mY.out
 clear fr
 go_region
 all_goals (try go_wp2)
 refine Gs rfl rfl (Ri P4.out) rfl ?_
 exact⟨L4.out.trans ((KA w4 b1 _ _ _ _ _).below L4.out.size HB.out.1),HE.out,rfl⟩
theorem R_ (hs:s.size<=900) (hP:YD s) {g:Dg} (hg:rows s.data.toList (s.data.toList.length+1) 0 0=some g) (hf:GN s.data.toList 0 g) (w:World):Calls Tryz.prog 27 #[.string s] w (Bp w (fix s.data.toList 0 g)):=by
 obtain⟨g',e,-,hC⟩:=lI hs hP (s.data.toList.length+1) 0 (by omega) 0 0 (Nat.le_refl _) (Nat.zero_le _) (by omega)
 rw[hg]at e
 injection e with e
 subst e
 have hl:s.data.toList.length=s.size:=(Lib.size_eq s).symm
 match g,hg,hf,hC with
 | .bad q er,_,_,hC=>exact aA hC
 | .ok p to,hg,hf,hC=>
  have h2:=hf.2.1
  simp only[fix]
  by_cases ht:to=s.size
  ·rw[if_neg (by rintro⟨_,q,_⟩;omega)]
   exact fE ht hC
  have IK:s.data.toList.getD to 0=41:=by
    rcases Yq hg with q|q
    ·omega
    exact q
  rw[if_pos (by refine⟨by trivial,by omega,IK⟩)]
  exact YE (by omega) hC
end
end W14
end Go.Proofs.YtfgegjinhkgpbaaGreatDoor
