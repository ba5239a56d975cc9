/-
  Texts joined, in build order, each with its own comment and its own conditions: W14RefPart, W14RefRow.
-/
import Derived.Test.YtfgegjinhkgpbaaGreatDoorJ21
import Derived.Test.YtfgegjinhkgpbaaGreatDoorJ08
import Derived.Test.YtfgegjinhkgpbaaGreatDoorJ18
namespace Go.Proofs.YtfgegjinhkgpbaaGreatDoor
set_option maxHeartbeats 4000000
set_option maxRecDepth 100000
open Go.RowKit
open Lib (hid)
namespace W14
open Strs Al Cj
open BU (Beside)
open Kit (below_draws on)
section
variable {w:World} {s:ByteArray} {at_ deep to:Nat} {p:Piece}
theorem Ad.qo {w:World} {b:Nat} {k:Int} {t:ByteArray} {A:Option Addr} {n c:Nat} {l tp:Int} (h:Ad w b ⟨k,t,A,n,c,l,tp⟩) (v:Int):Ad (w.setCell ⟨b,3,none⟩ (.int .i64 v)) b ⟨k,t,A,n,c,v,tp⟩:=by
 unfold Ad at*
 rw[heap_setCell_same w b 3 _ _ _ h];rfl
theorem Ad.zA {w:World} {b:Nat} {k:Int} {t:ByteArray} {A:Option Addr} {n c:Nat} {l tp:Int} (h:Ad w b ⟨k,t,A,n,c,l,tp⟩) (v:Int):Ad (w.setCell ⟨b,4,none⟩ (.int .i64 v)) b ⟨k,t,A,n,c,l,v⟩:=by
 unfold Ad at*
 rw[heap_setCell_same w b 4 _ _ _ h];rfl
theorem Ad.d {w:World} {b:Nat} {r:Raw} (h:Ad w b r):w.cell? ⟨b,3,none⟩=some (.int .i64 r.least)/\w.cell? ⟨b,4,none⟩=some (.int .i64 r.top)/\w.frozen? ⟨b,3,none⟩=false/\w.frozen? ⟨b,4,none⟩=false:=
 ⟨cell_of_row w b 3 _ _ _ h,cell_of_row w b 4 _ _ _ h,frozen_of_row w b 3 _ _ h,frozen_of_row w b 4 _ _ h⟩
theorem Ah {w0 w w':World} {b:Nat} (h:Below w0.heap.size w0 w) (k:Beside b w w') (hb:w0.heap.size<=b):Below w0.heap.size w0 w':=h.trans (k.below h.size hb)
theorem Rx {w w1 w2 w9:World} {r:Raw} {b5:Nat} {m t:Int} (A1:DF (In w1.heap.size w2.heap.size) w2 r p) (hq: ∀q,w1.heap.size<=q->q<w2.heap.size->w9.heap[q]? =w2.heap[q]?) (h1:w.heap.size<=w1.heap.size) (h2:w2.heap.size<=w9.heap.size) (hR:Ea w9.heap.size w9 (.slice (some ⟨b5,0,none⟩) 1 1) [r]) (h3:w.heap.size<=b5) (h4:b5<w9.heap.size):
    DF (In w.heap.size w9.heap.size) w9 ⟨9,⟨#[]⟩,some ⟨b5,0,none⟩,1,1,m,t⟩ (.mk 9 ⟨#[]⟩ [p] m t):=by
 refine .mk _ _ _ _ _ _ _ [r] [p] w9.heap.size hR ?_ rfl ?_
 ·intro ad e _
  cases e
  exact⟨h3,h4⟩
 intro k i1 i2
 have i0:k=0:=by simp at i1;omega
 subst i0
 exact A1.keep (fun _ q=>⟨Nat.le_trans h1 q.1,Nat.lt_of_lt_of_le q.2 h2⟩) (fun a q=>AO (hq _ q.1 q.2))
theorem GM {B B':Nat} {w w':World} {b5 c:Nat} {r:Raw} (h:Ea B w (.slice (some ⟨b5,0,none⟩) 1 1) [r]) (_hb5:b5<B) (hB:B<=B') (hw:b5<w.heap.size) (k:Beside c w w') (hc:b5≠c):Ea B' w' (.slice (some ⟨b5,0,none⟩) 1 1) [r]:=
 (EF h fun ad e _ q hq=>by
  cases e
  exact AO (k.block _ (by rw[hq];exact hw) (by rw[hq];exact hc))).more hB
theorem DJ {lo:Nat} {w w':World} {g:Dg} {e:Ending} (h:FP lo w g e w'): ∃r to er bad,e= .returned (.agg (IV r to er bad)):=by
 match g,h with
 | .ok p to,h=>obtain⟨_,r,e,_⟩:=h;exact⟨r,to,0,0,e⟩
 | .bad q er,h=>obtain⟨_,_,t,e⟩:=h;exact⟨Af,t,er,q,e⟩
theorem Cm {lo c:Nat} {w w1 w' w'':World} {g:Dg} {e:Ending} (h:FP lo w1 g e w') (l:Below w.heap.size w w'') (k:Beside c w' w'') (h1:w.heap.size<=lo) (h2:c<lo):Df w g e w'':=by
 refine⟨l,?_⟩
 match g,h with
 | .ok p to,h=>
  obtain⟨_,r,e,hp⟩:=h
  exact⟨r,e,(hp.Bg k h2).Cs h1⟩
 | .bad q er,h=>exact h.2
theorem X6 {q:Nat} {er:Int}
    (hC: ∀w,Calls Tryz.prog 136 #[.string s,.int .i64 at_,.int .i64 deep] w (Df w (.bad q er))):
    Calls Tryz.prog 109 #[.string s,.int .i64 at_,.int .i64 deep] w (Df w (.bad q er)):=by
 have HC:=hid hC
 clear hC
 go_enter Tryz.func109,Tryz.ntmps109
 go_wp2_with (first
  |(refine Ab rfl rfl ?_;intro w1 b1 e1 p1 l1 z1))
 have G1:=hid p1
 have L1:=hid l1
 have HB1:Hid (w.heap.size<=b1/\b1<w1.heap.size):=⟨by omega,by omega⟩
 clear e1 p1 l1 z1
 refine(HC.out _).mono ?_
 rintro e w2 ⟨l2,he,tq,rfl⟩
 have HE:=hid he
 have te:(er !=0)=true:=by simpa using he
 clear he
 have L2:=hid (L1.out.trans (l2.mono L1.out.size))
 have G2:=hid (G1.out.below l2)
 have HB2:Hid (w.heap.size<=b1/\b1<w2.heap.size):=⟨HB1.out.1,Nat.lt_of_lt_of_le HB1.out.2 l2.size⟩
 have Z6:Hid (w1.heap.size<=w2.heap.size):=l2.size
 clear l2
 go_upto_region 2 with(first
  |(refine Ab rfl rfl ?_;intro w3 b3 e3 p3 l3 z3)
  |(refine AQ (r:=Af) (to:=tq) (e:=er) (bad:=q) rfl (.tmp 7) (.tmp 12) rfl rfl rfl p3 ?_;intro w4 p4 l4 z4))
 have Eu:=hid (AY l3 l4 e3)
 have G4:=hid (G2.out.below Eu.out)
 have Q4:=hid p4
 have Jv:Hid (b1≠b3/\b1<w4.heap.size/\w2.heap.size=b3):=⟨by have:=HB2.out.2;omega,Nat.lt_of_lt_of_le HB2.out.2 Eu.out.size,e3⟩
 have L4:=hid (L2.out.trans (Eu.out.mono L2.out.size))
 have q5:=Q4.out.c5
 have q6:=Q4.out.c6
 clear e3 p3 l3 z3 p4 l4 z4
 go_wp2_with (first
  |(refine He rfl (.tmp 7) rfl rfl Q4.out ?_)
  |(refine AQ (r:=Af) (to:=tq) (e:=er) (bad:=q) rfl (.tmp 6) (.tmp 23) rfl rfl rfl G4.out ?_;intro w9 p9 l9 z9))
 refine Av rfl rfl p9 rfl ⟨Ah L4.out l9 HB1.out.1,?_⟩
 exact⟨HE.out,tq,rfl⟩
theorem X7 (hto:to=s.size)
    (hC: ∀w,Calls Tryz.prog 136 #[.string s,.int .i64 at_,.int .i64 deep] w (Df w (.ok p to))):
    Calls Tryz.prog 109 #[.string s,.int .i64 at_,.int .i64 deep] w (Df w (.ok p to)):=by
 have ti:=Hw hto
 clear hto
 have HC:=hid hC
 clear hC
 go_enter Tryz.func109,Tryz.ntmps109
 go_wp2_with (first
  |(refine Ab rfl rfl ?_;intro w1 b1 e1 p1 l1 z1))
 have G1:=hid p1
 have L1:=hid l1
 have HB1:Hid (w.heap.size<=b1/\b1<w1.heap.size):=⟨by omega,by omega⟩
 clear e1 p1 l1 z1
 refine(HC.out _).mono ?_
 rintro e w2 ⟨l2,r,rfl,hp⟩
 have A1:=hid hp
 clear hp
 have L2:=hid (L1.out.trans (l2.mono L1.out.size))
 have G2:=hid (G1.out.below l2)
 have HB2:Hid (w.heap.size<=b1/\b1<w2.heap.size):=⟨HB1.out.1,Nat.lt_of_lt_of_le HB1.out.2 l2.size⟩
 have Z6:Hid (w1.heap.size<=w2.heap.size):=l2.size
 clear l2
 go_upto_region 2 with(first
  |(refine Ab rfl rfl ?_;intro w3 b3 e3 p3 l3 z3)
  |(refine AQ (r:=r) (to:=to) (e:=0) (bad:=0) rfl (.tmp 7) (.tmp 12) rfl rfl rfl p3 ?_;intro w4 p4 l4 z4))
 have Eu:=hid (AY l3 l4 e3)
 have G4:=hid (G2.out.below Eu.out)
 have Q4:=hid p4
 have Jv:Hid (b1≠b3/\b1<w4.heap.size/\w2.heap.size=b3):=⟨by have:=HB2.out.2;omega,Nat.lt_of_lt_of_le HB2.out.2 Eu.out.size,e3⟩
 have L4:=hid (L2.out.trans (Eu.out.mono L2.out.size))
 have q5:=Q4.out.c5
 have q6:=Q4.out.c6
 clear e3 p3 l3 z3 p4 l4 z4
 go_wp2_with (first
  |(refine He rfl (.tmp 7) rfl rfl Q4.out ?_)
  |(refine AQ (r:=r) (to:=to) (e:=0) (bad:=0) rfl (.tmp 6) (.tmp 23) rfl rfl rfl G4.out ?_;intro w9 p9 l9 z9))
 refine Av rfl rfl p9 rfl ⟨Ah L4.out l9 HB1.out.1,?_⟩
 have hA:DF (In w.heap.size w9.heap.size) w9 r p:=((A1.out.CP Eu.out).keep (fun _ q=>⟨Nat.le_trans L1.out.size q.1,by rw[z9];exact q.2⟩) (fun a q=>AO (l9.block _ q.2 (fun e=>Nat.lt_irrefl _ (Nat.lt_of_lt_of_le (e▸HB1.out.2) q.1)))))
 exact⟨r,rfl,hA⟩
theorem Vh (hs:s.size<=900) (hto:to<s.size) (hc:s[to]=42)
    (hC: ∀w,Calls Tryz.prog 136 #[.string s,.int .i64 at_,.int .i64 deep] w (Df w (.ok p to))):
    Calls Tryz.prog 109 #[.string s,.int .i64 at_,.int .i64 deep] w (Df w (.ok (.mk 9 ⟨#[]⟩ [p] 0 (-1)) (to+1))):=by
 have ti:=CY (show¬to=s.size by omega)
 have hi2:(to:Int)<(s.size:Int):=by omega
 have hw1:wrap64 ((to:Int)+1)=((to+1:Nat):Int):=by unfold wrap64;omega
 have t123:((s[to].toNat:Int)==123)=false:=Ce (show¬s[to]=123 by rw[hc];decide)
 have t42:((s[to].toNat:Int)==42)=true:=FU hc
 clear hc
 have HC:=hid hC
 clear hC
 go_enter Tryz.func109,Tryz.ntmps109
 go_wp2_with (first
  |(refine Ab rfl rfl ?_;intro w1 b1 e1 p1 l1 z1))
 have G1:=hid p1
 have L1:=hid l1
 have HB1:Hid (w.heap.size<=b1/\b1<w1.heap.size):=⟨by omega,by omega⟩
 clear e1 p1 l1 z1
 refine(HC.out _).mono ?_
 rintro e w2 ⟨l2,r,rfl,hp⟩
 have A1:=hid hp
 clear hp
 have L2:=hid (L1.out.trans (l2.mono L1.out.size))
 have G2:=hid (G1.out.below l2)
 have HB2:Hid (w.heap.size<=b1/\b1<w2.heap.size):=⟨HB1.out.1,Nat.lt_of_lt_of_le HB1.out.2 l2.size⟩
 have Z6:Hid (w1.heap.size<=w2.heap.size):=l2.size
 clear l2
 go_upto_region 2 with(first
  |(refine Ab rfl rfl ?_;intro w3 b3 e3 p3 l3 z3)
  |(refine AQ (r:=r) (to:=to) (e:=0) (bad:=0) rfl (.tmp 7) (.tmp 12) rfl rfl rfl p3 ?_;intro w4 p4 l4 z4))
 have Eu:=hid (AY l3 l4 e3)
 have G4:=hid (G2.out.below Eu.out)
 have Q4:=hid p4
 have Jv:Hid (b1≠b3/\b1<w4.heap.size/\w2.heap.size=b3):=⟨by have:=HB2.out.2;omega,Nat.lt_of_lt_of_le HB2.out.2 Eu.out.size,e3⟩
 have L4:=hid (L2.out.trans (Eu.out.mono L2.out.size))
 have q5:=Q4.out.c5
 have q6:=Q4.out.c6
 clear e3 p3 l3 z3 p4 l4 z4
 have pV:=hid (fun j hj=>Q4.out.raw j hj)
 go_upto_region 5 with(first
  |(refine Aq rfl (.tmp 24) rfl rfl (r:=r) pV.out ?_)
  |(refine B_ rfl (.tmp 25) rfl (r:=r) rfl ?_;intro w5 b5 e5 r5 l5 z5)
  |(refine AJ rfl rfl ?_;intro w6 b6 e6 p6 l6 z6)
  |(refine AB (r:=⟨9,⟨#[]⟩,some ⟨b5,0,none⟩,1,1,0,-1⟩) rfl (.tmp 8) (.tmp 27) rfl rfl rfl p6 ?_;intro w7 p7 l7 z7))
 have NG:=AY l6 l7 e6
 have NH:Below w4.heap.size w4 w7:=l5.trans (NG.mono l5.size)
 have mX:=hid (Eu.out.trans (NH.mono Eu.out.size))
 have L7:=hid (L4.out.trans (NH.mono L4.out.size))
 have Q7:=hid (Q4.out.below NH)
 have G7:=hid (G4.out.below NH)
 have P7:=hid p7
 have hb5:b5<w5.heap.size:=by rw[z5];omega
 have R7:Hid (Ea w7.heap.size w7 (.slice (some ⟨b5,0,none⟩) 1 1) [r]):=(r5.below NG).more NG.size
 have Sg:Hid (w2.heap.size<=b5/\b5<w7.heap.size/\b5≠b6/\b5≠b1/\b6≠b1/\w2.heap.size<=b6/\b6<w7.heap.size):=by
  have a1:=Jv.out
  have a2:=Eu.out.size
  have a3:=HB2.out.2
  refine⟨by omega,Nat.lt_of_lt_of_le hb5 NG.size,by omega,by omega,by omega,by omega,?_⟩
  exact P7.out.lt
 have xI:=Q7.out.c5
 obtain⟨d3,d4,f3,f4⟩:=P7.out.d
 clear e5 r5 l5 z5 e6 p6 l6 z6 p7 l7 z7 NG NH hb5 q5 q6
 have P8:=P7
 have G8:=G7
 have L8:=L7
 have lC:=mX
 have R8:=R7
 have lD:Hid (b5<w7.heap.size):=Sg.out.2.1
 go_wp2_with (first
  |(refine AU rfl (.tmp 8) rfl rfl P8.out ?_)
  |(refine Cc (r:=⟨9,⟨#[]⟩,some ⟨b5,0,none⟩,1,1,0,-1⟩) rfl (.tmp 42) (.tmp 45) rfl rfl rfl ?_)
  |(refine AQ (r:=⟨9,⟨#[]⟩,some ⟨b5,0,none⟩,1,1,0,-1⟩) (to:=((to+1:Nat):Int)) (e:=0) (bad:=0) rfl (.tmp 6) (.tmp 46) rfl rfl rfl G8.out ?_;intro w9 p9 l9 z9))
 have hb:=Sg.out
 refine Av rfl rfl p9 rfl ⟨Ah L8.out l9 HB1.out.1,_,rfl,Rx A1.out (fun q q1 q2=> ?_) L1.out.size ?_ ?_ ?_ ?_⟩
 ·exact(l9.block q (Nat.lt_of_lt_of_le q2 lC.out.size) (fun e=>Nat.lt_irrefl _ (Nat.lt_of_lt_of_le (e▸HB1.out.2) q1))).trans (lC.out.block q q2)
 ·rw[z9];exact lC.out.size
 ·exact GM R8.out lD.out (by rw[z9];exact Nat.le_refl _) lD.out l9 hb.2.2.2.1
 ·exact Nat.le_trans L2.out.size hb.1
 rw[z9];exact lD.out
theorem Vi (hs:s.size<=900) (hto:to<s.size) (hc:s[to]=43)
    (hC: ∀w,Calls Tryz.prog 136 #[.string s,.int .i64 at_,.int .i64 deep] w (Df w (.ok p to))):
    Calls Tryz.prog 109 #[.string s,.int .i64 at_,.int .i64 deep] w (Df w (.ok (.mk 9 ⟨#[]⟩ [p] 1 (-1)) (to+1))):=by
 have ti:=CY (show¬to=s.size by omega)
 have hi2:(to:Int)<(s.size:Int):=by omega
 have hw1:wrap64 ((to:Int)+1)=((to+1:Nat):Int):=by unfold wrap64;omega
 have t123:((s[to].toNat:Int)==123)=false:=Ce (show¬s[to]=123 by rw[hc];decide)
 have t42:((s[to].toNat:Int)==42)=false:=Ce (show¬s[to]=42 by rw[hc];decide)
 have t43:((s[to].toNat:Int)==43)=true:=FU hc
 clear hc
 have HC:=hid hC
 clear hC
 go_enter Tryz.func109,Tryz.ntmps109
 go_wp2_with (first
  |(refine Ab rfl rfl ?_;intro w1 b1 e1 p1 l1 z1))
 have G1:=hid p1
 have L1:=hid l1
 have HB1:Hid (w.heap.size<=b1/\b1<w1.heap.size):=⟨by omega,by omega⟩
 clear e1 p1 l1 z1
 refine(HC.out _).mono ?_
 rintro e w2 ⟨l2,r,rfl,hp⟩
 have A1:=hid hp
 clear hp
 have L2:=hid (L1.out.trans (l2.mono L1.out.size))
 have G2:=hid (G1.out.below l2)
 have HB2:Hid (w.heap.size<=b1/\b1<w2.heap.size):=⟨HB1.out.1,Nat.lt_of_lt_of_le HB1.out.2 l2.size⟩
 have Z6:Hid (w1.heap.size<=w2.heap.size):=l2.size
 clear l2
 go_upto_region 2 with(first
  |(refine Ab rfl rfl ?_;intro w3 b3 e3 p3 l3 z3)
  |(refine AQ (r:=r) (to:=to) (e:=0) (bad:=0) rfl (.tmp 7) (.tmp 12) rfl rfl rfl p3 ?_;intro w4 p4 l4 z4))
 have Eu:=hid (AY l3 l4 e3)
 have G4:=hid (G2.out.below Eu.out)
 have Q4:=hid p4
 have Jv:Hid (b1≠b3/\b1<w4.heap.size/\w2.heap.size=b3):=⟨by have:=HB2.out.2;omega,Nat.lt_of_lt_of_le HB2.out.2 Eu.out.size,e3⟩
 have L4:=hid (L2.out.trans (Eu.out.mono L2.out.size))
 have q5:=Q4.out.c5
 have q6:=Q4.out.c6
 clear e3 p3 l3 z3 p4 l4 z4
 have pV:=hid (fun j hj=>Q4.out.raw j hj)
 go_upto_region 5 with(first
  |(refine Aq rfl (.tmp 24) rfl rfl (r:=r) pV.out ?_)
  |(refine B_ rfl (.tmp 25) rfl (r:=r) rfl ?_;intro w5 b5 e5 r5 l5 z5)
  |(refine AJ rfl rfl ?_;intro w6 b6 e6 p6 l6 z6)
  |(refine AB (r:=⟨9,⟨#[]⟩,some ⟨b5,0,none⟩,1,1,0,-1⟩) rfl (.tmp 8) (.tmp 27) rfl rfl rfl p6 ?_;intro w7 p7 l7 z7))
 have NG:=AY l6 l7 e6
 have NH:Below w4.heap.size w4 w7:=l5.trans (NG.mono l5.size)
 have mX:=hid (Eu.out.trans (NH.mono Eu.out.size))
 have L7:=hid (L4.out.trans (NH.mono L4.out.size))
 have Q7:=hid (Q4.out.below NH)
 have G7:=hid (G4.out.below NH)
 have P7:=hid p7
 have hb5:b5<w5.heap.size:=by rw[z5];omega
 have R7:Hid (Ea w7.heap.size w7 (.slice (some ⟨b5,0,none⟩) 1 1) [r]):=(r5.below NG).more NG.size
 have Sg:Hid (w2.heap.size<=b5/\b5<w7.heap.size/\b5≠b6/\b5≠b1/\b6≠b1/\w2.heap.size<=b6/\b6<w7.heap.size):=by
  have a1:=Jv.out
  have a2:=Eu.out.size
  have a3:=HB2.out.2
  refine⟨by omega,Nat.lt_of_lt_of_le hb5 NG.size,by omega,by omega,by omega,by omega,?_⟩
  exact P7.out.lt
 have xI:=Q7.out.c5
 obtain⟨d3,d4,f3,f4⟩:=P7.out.d
 clear e5 r5 l5 z5 e6 p6 l6 z6 p7 l7 z7 NG NH hb5 q5 q6
 have BS:Beside b6 w7 (w7.setCell ⟨b6,3,none⟩ (.int .i64 1)):=BH _ _ _ _
 have P8:=hid (P7.out.qo 1)
 have G8:=hid (G7.out.beside BS Sg.out.2.2.2.2.1.symm)
 have L8:=hid (Ah L7.out BS (Nat.le_trans L2.out.size Sg.out.2.2.2.2.2.1))
 have lC:=hid (Ah mX.out BS Sg.out.2.2.2.2.2.1)
 have lD:Hid (b5<(w7.setCell ⟨b6,3,none⟩ (.int .i64 1)).heap.size):=by unfold Hid;rw[World.size_setCell];exact Sg.out.2.1
 have R8:=hid (GM R7.out Sg.out.2.1 BS.size Sg.out.2.1 BS Sg.out.2.2.1)
 clear BS
 go_wp2_with (first
  |(refine AU rfl (.tmp 8) rfl rfl P8.out ?_)
  |(refine Cc (r:=⟨9,⟨#[]⟩,some ⟨b5,0,none⟩,1,1,1,-1⟩) rfl (.tmp 50) (.tmp 53) rfl rfl rfl ?_)
  |(refine AQ (r:=⟨9,⟨#[]⟩,some ⟨b5,0,none⟩,1,1,1,-1⟩) (to:=((to+1:Nat):Int)) (e:=0) (bad:=0) rfl (.tmp 6) (.tmp 54) rfl rfl rfl G8.out ?_;intro w9 p9 l9 z9))
 have hb:=Sg.out
 refine Av rfl rfl p9 rfl ⟨Ah L8.out l9 HB1.out.1,_,rfl,Rx A1.out (fun q q1 q2=> ?_) L1.out.size ?_ ?_ ?_ ?_⟩
 ·exact(l9.block q (Nat.lt_of_lt_of_le q2 lC.out.size) (fun e=>Nat.lt_irrefl _ (Nat.lt_of_lt_of_le (e▸HB1.out.2) q1))).trans (lC.out.block q q2)
 ·rw[z9];exact lC.out.size
 ·exact GM R8.out lD.out (by rw[z9];exact Nat.le_refl _) lD.out l9 hb.2.2.2.1
 ·exact Nat.le_trans L2.out.size hb.1
 rw[z9];exact lD.out
theorem TM (hs:s.size<=900) (hto:to<s.size) (hc:s[to]=63)
    (hC: ∀w,Calls Tryz.prog 136 #[.string s,.int .i64 at_,.int .i64 deep] w (Df w (.ok p to))):
    Calls Tryz.prog 109 #[.string s,.int .i64 at_,.int .i64 deep] w (Df w (.ok (.mk 9 ⟨#[]⟩ [p] 0 1) (to+1))):=by
 have ti:=CY (show¬to=s.size by omega)
 have hi2:(to:Int)<(s.size:Int):=by omega
 have hw1:wrap64 ((to:Int)+1)=((to+1:Nat):Int):=by unfold wrap64;omega
 have t123:((s[to].toNat:Int)==123)=false:=Ce (show¬s[to]=123 by rw[hc];decide)
 have t42:((s[to].toNat:Int)==42)=false:=Ce (show¬s[to]=42 by rw[hc];decide)
 have t43:((s[to].toNat:Int)==43)=false:=Ce (show¬s[to]=43 by rw[hc];decide)
 have t63:((s[to].toNat:Int)==63)=true:=FU hc
 clear hc
 have HC:=hid hC
 clear hC
 go_enter Tryz.func109,Tryz.ntmps109
 go_wp2_with (first
  |(refine Ab rfl rfl ?_;intro w1 b1 e1 p1 l1 z1))
 have G1:=hid p1
 have L1:=hid l1
 have HB1:Hid (w.heap.size<=b1/\b1<w1.heap.size):=⟨by omega,by omega⟩
 clear e1 p1 l1 z1
 refine(HC.out _).mono ?_
 rintro e w2 ⟨l2,r,rfl,hp⟩
 have A1:=hid hp
 clear hp
 have L2:=hid (L1.out.trans (l2.mono L1.out.size))
 have G2:=hid (G1.out.below l2)
 have HB2:Hid (w.heap.size<=b1/\b1<w2.heap.size):=⟨HB1.out.1,Nat.lt_of_lt_of_le HB1.out.2 l2.size⟩
 have Z6:Hid (w1.heap.size<=w2.heap.size):=l2.size
 clear l2
 go_upto_region 2 with(first
  |(refine Ab rfl rfl ?_;intro w3 b3 e3 p3 l3 z3)
  |(refine AQ (r:=r) (to:=to) (e:=0) (bad:=0) rfl (.tmp 7) (.tmp 12) rfl rfl rfl p3 ?_;intro w4 p4 l4 z4))
 have Eu:=hid (AY l3 l4 e3)
 have G4:=hid (G2.out.below Eu.out)
 have Q4:=hid p4
 have Jv:Hid (b1≠b3/\b1<w4.heap.size/\w2.heap.size=b3):=⟨by have:=HB2.out.2;omega,Nat.lt_of_lt_of_le HB2.out.2 Eu.out.size,e3⟩
 have L4:=hid (L2.out.trans (Eu.out.mono L2.out.size))
 have q5:=Q4.out.c5
 have q6:=Q4.out.c6
 clear e3 p3 l3 z3 p4 l4 z4
 have pV:=hid (fun j hj=>Q4.out.raw j hj)
 go_upto_region 5 with(first
  |(refine Aq rfl (.tmp 24) rfl rfl (r:=r) pV.out ?_)
  |(refine B_ rfl (.tmp 25) rfl (r:=r) rfl ?_;intro w5 b5 e5 r5 l5 z5)
  |(refine AJ rfl rfl ?_;intro w6 b6 e6 p6 l6 z6)
  |(refine AB (r:=⟨9,⟨#[]⟩,some ⟨b5,0,none⟩,1,1,0,-1⟩) rfl (.tmp 8) (.tmp 27) rfl rfl rfl p6 ?_;intro w7 p7 l7 z7))
 have NG:=AY l6 l7 e6
 have NH:Below w4.heap.size w4 w7:=l5.trans (NG.mono l5.size)
 have mX:=hid (Eu.out.trans (NH.mono Eu.out.size))
 have L7:=hid (L4.out.trans (NH.mono L4.out.size))
 have Q7:=hid (Q4.out.below NH)
 have G7:=hid (G4.out.below NH)
 have P7:=hid p7
 have hb5:b5<w5.heap.size:=by rw[z5];omega
 have R7:Hid (Ea w7.heap.size w7 (.slice (some ⟨b5,0,none⟩) 1 1) [r]):=(r5.below NG).more NG.size
 have Sg:Hid (w2.heap.size<=b5/\b5<w7.heap.size/\b5≠b6/\b5≠b1/\b6≠b1/\w2.heap.size<=b6/\b6<w7.heap.size):=by
  have a1:=Jv.out
  have a2:=Eu.out.size
  have a3:=HB2.out.2
  refine⟨by omega,Nat.lt_of_lt_of_le hb5 NG.size,by omega,by omega,by omega,by omega,?_⟩
  exact P7.out.lt
 have xI:=Q7.out.c5
 obtain⟨d3,d4,f3,f4⟩:=P7.out.d
 clear e5 r5 l5 z5 e6 p6 l6 z6 p7 l7 z7 NG NH hb5 q5 q6
 have BS:Beside b6 w7 (w7.setCell ⟨b6,4,none⟩ (.int .i64 1)):=BH _ _ _ _
 have P8:=hid (P7.out.zA 1)
 have G8:=hid (G7.out.beside BS Sg.out.2.2.2.2.1.symm)
 have L8:=hid (Ah L7.out BS (Nat.le_trans L2.out.size Sg.out.2.2.2.2.2.1))
 have lC:=hid (Ah mX.out BS Sg.out.2.2.2.2.2.1)
 have lD:Hid (b5<(w7.setCell ⟨b6,4,none⟩ (.int .i64 1)).heap.size):=by unfold Hid;rw[World.size_setCell];exact Sg.out.2.1
 have R8:=hid (GM R7.out Sg.out.2.1 BS.size Sg.out.2.1 BS Sg.out.2.2.1)
 clear BS
 go_wp2_with (first
  |(refine AU rfl (.tmp 8) rfl rfl P8.out ?_)
  |(refine Cc (r:=⟨9,⟨#[]⟩,some ⟨b5,0,none⟩,1,1,0,1⟩) rfl (.tmp 58) (.tmp 61) rfl rfl rfl ?_)
  |(refine AQ (r:=⟨9,⟨#[]⟩,some ⟨b5,0,none⟩,1,1,0,1⟩) (to:=((to+1:Nat):Int)) (e:=0) (bad:=0) rfl (.tmp 6) (.tmp 62) rfl rfl rfl G8.out ?_;intro w9 p9 l9 z9))
 have hb:=Sg.out
 refine Av rfl rfl p9 rfl ⟨Ah L8.out l9 HB1.out.1,_,rfl,Rx A1.out (fun q q1 q2=> ?_) L1.out.size ?_ ?_ ?_ ?_⟩
 ·exact(l9.block q (Nat.lt_of_lt_of_le q2 lC.out.size) (fun e=>Nat.lt_irrefl _ (Nat.lt_of_lt_of_le (e▸HB1.out.2) q1))).trans (lC.out.block q q2)
 ·rw[z9];exact lC.out.size
 ·exact GM R8.out lD.out (by rw[z9];exact Nat.le_refl _) lD.out l9 hb.2.2.2.1
 ·exact Nat.le_trans L2.out.size hb.1
 rw[z9];exact lD.out
theorem TN (hs:s.size<=900) (hto:to<s.size) (FV: ¬s[to]=123) (Jk: ¬s[to]=42) (h43: ¬s[to]=43) (h63: ¬s[to]=63)
    (hC: ∀w,Calls Tryz.prog 136 #[.string s,.int .i64 at_,.int .i64 deep] w (Df w (.ok p to))):
    Calls Tryz.prog 109 #[.string s,.int .i64 at_,.int .i64 deep] w (Df w (.ok p to)):=by
 have ti:=CY (show¬to=s.size by omega)
 have hi2:(to:Int)<(s.size:Int):=by omega
 have hw1:wrap64 ((to:Int)+1)=((to+1:Nat):Int):=by unfold wrap64;omega
 have t123:((s[to].toNat:Int)==123)=false:=Ce FV
 have t42:((s[to].toNat:Int)==42)=false:=Ce Jk
 have t43:((s[to].toNat:Int)==43)=false:=Ce h43
 have t63:((s[to].toNat:Int)==63)=false:=Ce h63
 clear FV Jk h43 h63
 have HC:=hid hC
 clear hC
 go_enter Tryz.func109,Tryz.ntmps109
 go_wp2_with (first
  |(refine Ab rfl rfl ?_;intro w1 b1 e1 p1 l1 z1))
 have G1:=hid p1
 have L1:=hid l1
 have HB1:Hid (w.heap.size<=b1/\b1<w1.heap.size):=⟨by omega,by omega⟩
 clear e1 p1 l1 z1
 refine(HC.out _).mono ?_
 rintro e w2 ⟨l2,r,rfl,hp⟩
 have A1:=hid hp
 clear hp
 have L2:=hid (L1.out.trans (l2.mono L1.out.size))
 have G2:=hid (G1.out.below l2)
 have HB2:Hid (w.heap.size<=b1/\b1<w2.heap.size):=⟨HB1.out.1,Nat.lt_of_lt_of_le HB1.out.2 l2.size⟩
 have Z6:Hid (w1.heap.size<=w2.heap.size):=l2.size
 clear l2
 go_upto_region 2 with(first
  |(refine Ab rfl rfl ?_;intro w3 b3 e3 p3 l3 z3)
  |(refine AQ (r:=r) (to:=to) (e:=0) (bad:=0) rfl (.tmp 7) (.tmp 12) rfl rfl rfl p3 ?_;intro w4 p4 l4 z4))
 have Eu:=hid (AY l3 l4 e3)
 have G4:=hid (G2.out.below Eu.out)
 have Q4:=hid p4
 have Jv:Hid (b1≠b3/\b1<w4.heap.size/\w2.heap.size=b3):=⟨by have:=HB2.out.2;omega,Nat.lt_of_lt_of_le HB2.out.2 Eu.out.size,e3⟩
 have L4:=hid (L2.out.trans (Eu.out.mono L2.out.size))
 have q5:=Q4.out.c5
 have q6:=Q4.out.c6
 clear e3 p3 l3 z3 p4 l4 z4
 have pV:=hid (fun j hj=>Q4.out.raw j hj)
 go_upto_region 5 with(first
  |(refine Aq rfl (.tmp 24) rfl rfl (r:=r) pV.out ?_)
  |(refine B_ rfl (.tmp 25) rfl (r:=r) rfl ?_;intro w5 b5 e5 r5 l5 z5)
  |(refine AJ rfl rfl ?_;intro w6 b6 e6 p6 l6 z6)
  |(refine AB (r:=⟨9,⟨#[]⟩,some ⟨b5,0,none⟩,1,1,0,-1⟩) rfl (.tmp 8) (.tmp 27) rfl rfl rfl p6 ?_;intro w7 p7 l7 z7))
 have NG:=AY l6 l7 e6
 have NH:Below w4.heap.size w4 w7:=l5.trans (NG.mono l5.size)
 have mX:=hid (Eu.out.trans (NH.mono Eu.out.size))
 have L7:=hid (L4.out.trans (NH.mono L4.out.size))
 have Q7:=hid (Q4.out.below NH)
 have G7:=hid (G4.out.below NH)
 have P7:=hid p7
 have hb5:b5<w5.heap.size:=by rw[z5];omega
 have R7:Hid (Ea w7.heap.size w7 (.slice (some ⟨b5,0,none⟩) 1 1) [r]):=(r5.below NG).more NG.size
 have Sg:Hid (w2.heap.size<=b5/\b5<w7.heap.size/\b5≠b6/\b5≠b1/\b6≠b1/\w2.heap.size<=b6/\b6<w7.heap.size):=by
  have a1:=Jv.out
  have a2:=Eu.out.size
  have a3:=HB2.out.2
  refine⟨by omega,Nat.lt_of_lt_of_le hb5 NG.size,by omega,by omega,by omega,by omega,?_⟩
  exact P7.out.lt
 have xI:=Q7.out.c5
 obtain⟨d3,d4,f3,f4⟩:=P7.out.d
 clear e5 r5 l5 z5 e6 p6 l6 z6 p7 l7 z7 NG NH hb5 q5 q6
 go_wp2_with (first
  |(refine He rfl (.tmp 7) rfl rfl Q7.out ?_)
  |(refine AQ (r:=r) (to:=to) (e:=0) (bad:=0) rfl (.tmp 6) (.tmp 63) rfl rfl rfl G7.out ?_;intro w9 p9 l9 z9))
 refine Av rfl rfl p9 rfl ⟨Ah L7.out l9 HB1.out.1,?_⟩
 have hA:DF (In w.heap.size w9.heap.size) w9 r p:=(A1.out.CP mX.out).keep (fun _ q=>⟨Nat.le_trans L1.out.size q.1,by rw[z9];exact q.2⟩) (fun a q=>AO (l9.block _ q.2 (fun e=>Nat.lt_irrefl _ (Nat.lt_of_lt_of_le (e▸HB1.out.2) q.1))))
 exact⟨r,rfl,hA⟩
theorem TP (hs:s.size<=900) (hto:to<s.size) (hc:s[to]=123)
    (hC: ∀w,Calls Tryz.prog 136 #[.string s,.int .i64 at_,.int .i64 deep] w (Df w (.ok p to))):
    Calls Tryz.prog 109 #[.string s,.int .i64 at_,.int .i64 deep] w (Df w (GL s.data.toList p to)):=by
 have ti:=CY (show¬to=s.size by omega)
 have hi2:(to:Int)<(s.size:Int):=by omega
 have hw1:wrap64 ((to:Int)+1)=((to+1:Nat):Int):=by unfold wrap64;omega
 have t123:((s[to].toNat:Int)==123)=true:=FU hc
 clear hc
 have HC:=hid hC
 clear hC
 go_enter Tryz.func109,Tryz.ntmps109
 go_wp2_with (first
  |(refine Ab rfl rfl ?_;intro w1 b1 e1 p1 l1 z1))
 have G1:=hid p1
 have L1:=hid l1
 have HB1:Hid (w.heap.size<=b1/\b1<w1.heap.size):=⟨by omega,by omega⟩
 clear e1 p1 l1 z1
 refine(HC.out _).mono ?_
 rintro e w2 ⟨l2,r,rfl,hp⟩
 have A1:=hid hp
 clear hp
 have L2:=hid (L1.out.trans (l2.mono L1.out.size))
 have G2:=hid (G1.out.below l2)
 have HB2:Hid (w.heap.size<=b1/\b1<w2.heap.size):=⟨HB1.out.1,Nat.lt_of_lt_of_le HB1.out.2 l2.size⟩
 have Z6:Hid (w1.heap.size<=w2.heap.size):=l2.size
 clear l2
 go_upto_region 2 with(first
  |(refine Ab rfl rfl ?_;intro w3 b3 e3 p3 l3 z3)
  |(refine AQ (r:=r) (to:=to) (e:=0) (bad:=0) rfl (.tmp 7) (.tmp 12) rfl rfl rfl p3 ?_;intro w4 p4 l4 z4))
 have Eu:=hid (AY l3 l4 e3)
 have G4:=hid (G2.out.below Eu.out)
 have Q4:=hid p4
 have Jv:Hid (b1≠b3/\b1<w4.heap.size/\w2.heap.size=b3):=⟨by have:=HB2.out.2;omega,Nat.lt_of_lt_of_le HB2.out.2 Eu.out.size,e3⟩
 have L4:=hid (L2.out.trans (Eu.out.mono L2.out.size))
 have q5:=Q4.out.c5
 have q6:=Q4.out.c6
 clear e3 p3 l3 z3 p4 l4 z4
 have pV:=hid (fun j hj=>Q4.out.raw j hj)
 go_upto_region 5 with(first
  |(refine Aq rfl (.tmp 24) rfl rfl (r:=r) pV.out ?_)
  |(refine B_ rfl (.tmp 25) rfl (r:=r) rfl ?_;intro w5 b5 e5 r5 l5 z5)
  |(refine AJ rfl rfl ?_;intro w6 b6 e6 p6 l6 z6)
  |(refine AB (r:=⟨9,⟨#[]⟩,some ⟨b5,0,none⟩,1,1,0,-1⟩) rfl (.tmp 8) (.tmp 27) rfl rfl rfl p6 ?_;intro w7 p7 l7 z7))
 have NG:=AY l6 l7 e6
 have NH:Below w4.heap.size w4 w7:=l5.trans (NG.mono l5.size)
 have mX:=hid (Eu.out.trans (NH.mono Eu.out.size))
 have L7:=hid (L4.out.trans (NH.mono L4.out.size))
 have Q7:=hid (Q4.out.below NH)
 have G7:=hid (G4.out.below NH)
 have P7:=hid p7
 have hb5:b5<w5.heap.size:=by rw[z5];omega
 have R7:Hid (Ea w7.heap.size w7 (.slice (some ⟨b5,0,none⟩) 1 1) [r]):=(r5.below NG).more NG.size
 have Sg:Hid (w2.heap.size<=b5/\b5<w7.heap.size/\b5≠b6/\b5≠b1/\b6≠b1/\w2.heap.size<=b6/\b6<w7.heap.size):=by
  have a1:=Jv.out
  have a2:=Eu.out.size
  have a3:=HB2.out.2
  refine⟨by omega,Nat.lt_of_lt_of_le hb5 NG.size,by omega,by omega,by omega,by omega,?_⟩
  exact P7.out.lt
 have xI:=Q7.out.c5
 obtain⟨d3,d4,f3,f4⟩:=P7.out.d
 clear e5 r5 l5 z5 e6 p6 l6 z6 p7 l7 z7 NG NH hb5 q5 q6
 have HRE:=hid (fun j hj=>Q7.out.raw j hj)
 have A7:=hid (A1.out.CP mX.out)
 have hlo:w1.heap.size<=w7.heap.size:=Nat.le_trans Z6.out mX.out.size
 have HT:=hid (Vg hto hs hlo A7.out)
 clear hlo
 go_wp2_with (first
  |(refine Aq rfl (.tmp 37) rfl rfl (r:=r) HRE.out ?_))
 refine HT.out.mono ?_
 rintro e w8 hg
 obtain⟨r8,to8,er8,zB,rfl⟩:=DJ hg
 have GG:=hid hg
 have G8:=hid (G7.out.below hg.1)
 have L8:=hid (L7.out.trans (hg.1.mono L7.out.size))
 clear hg
 go_wp2_with (first
  |(refine AQ (r:=r8) (to:=to8) (e:=er8) (bad:=zB) rfl (.tmp 6) (.tmp 39) rfl rfl rfl G8.out ?_;intro w9 p9 l9 z9))
 refine Av rfl rfl p9 rfl ?_
 exact Cm GG.out (Ah L8.out l9 HB1.out.1) l9 L1.out.size HB1.out.2
end
def Pp (R:Nat->Nat->Option Dg) (s:ByteArray) (at_ deep:Nat):Prop:=
 ∃g,atom R s.data.toList at_ deep=some g/\GN s.data.toList (at_+1) g/\ ∀w,Calls Tryz.prog 136 #[.string s,.int .i64 at_,.int .i64 deep] w (Df w g)
theorem X8 {R:Nat->Nat->Option Dg} {s:ByteArray} {at_ deep:Nat} (hA:Pp R s at_ deep) (hs:s.size<=900): ∃g,Cj.part R s.data.toList at_ deep=some g/\GN s.data.toList (at_+1) g/\ ∀w,Calls Tryz.prog 109 #[.string s,.int .i64 at_,.int .i64 deep] w (Df w g):=by
 have hlen:s.data.toList.length=s.size:=(Lib.size_eq s).symm
 obtain⟨g,e,hf,hC⟩:=hA
 match g,hf,hC with
 | .bad q er,hf,hC=>exact⟨.bad q er,by unfold Cj.part;rw[e],hf,fun w=>X6 hC⟩
 | .ok p to,hf,hC=>
  have hto:=hf.2.1
  refine⟨often s.data.toList p to,by unfold Cj.part;rw[e],LA hf.1 hf.2.1 hf.2.2,fun w=> ?_⟩
  by_cases he:to=s.size
  ·have:often s.data.toList p to= .ok p to:=by unfold often;rw[if_pos (by omega)]
   rw[this];exact X7 he hC
  have hlt:to<s.size:=by omega
  have hg:=Hf hlt
  by_cases FV:s[to]=123
  ·have:often s.data.toList p to=GL s.data.toList p to:=by
     unfold often GL
     rw[if_neg (by omega),if_pos (by rw[hg];exact FV),fB]
   rw[this];exact TP hs hlt FV hC
  by_cases Jk:s[to]=42
  ·have:often s.data.toList p to= .ok (.mk 9 ⟨#[]⟩ [p] 0 (-1)) (to+1):=by
     unfold often
     rw[if_neg (by omega),if_neg (by rw[hg];exact FV),if_pos (by rw[hg];exact Jk)]
   rw[this];exact Vh hs hlt Jk hC
  by_cases h43:s[to]=43
  ·have:often s.data.toList p to= .ok (.mk 9 ⟨#[]⟩ [p] 1 (-1)) (to+1):=by
     unfold often
     rw[if_neg (by omega),if_neg (by rw[hg];exact FV),if_neg (by rw[hg];exact Jk),if_pos (by rw[hg];exact h43)]
   rw[this];exact Vi hs hlt h43 hC
  by_cases h63:s[to]=63
  ·have:often s.data.toList p to= .ok (.mk 9 ⟨#[]⟩ [p] 0 1) (to+1):=by
     unfold often
     rw[if_neg (by omega),if_neg (by rw[hg];exact FV),if_neg (by rw[hg];exact Jk),if_neg (by rw[hg];exact h43),if_pos (by rw[hg];exact h63)]
   rw[this];exact TM hs hlt h63 hC
  have:often s.data.toList p to= .ok p to:=by
    unfold often
    rw[if_neg (by omega),if_neg (by rw[hg];exact FV),if_neg (by rw[hg];exact Jk),if_neg (by rw[hg];exact h43),if_neg (by rw[hg];exact h63)]
  rw[this];exact TN hs hlt FV Jk h43 h63 hC
end W14
namespace W14
open Strs Al Cj
open BU (Beside)
open Kit (below_draws on)
theorem I9 {base:Nat} {w:World} {v:Value} {p:Piece} (h:Build 56 base w v [p]): ∃g c r,v= .slice (some ⟨g,0,none⟩) 1 c/\Hid (1<=c/\c<=maxLen)/\Hid (∀j,j<5->w.cell? ⟨g,0+j,none⟩=(Co r)[j]?)/\Hid (DF (In base w.heap.size) w r p):=by
 obtain⟨Ag,hown,hall⟩:=h
 obtain⟨r,rfl⟩: ∃r,Ag= [r]:=List.length_eq_one_iff.1 hall.1
 have hp:=hall.2 0 (by simp) (by simp)
 simp only[List.getElem_cons_zero]at hp
 have hR:=Al.Bw DV rfl hown
 obtain⟨g,c,rfl,hg,hgw,h1,h2⟩:=BL hown (by simp)
 obtain⟨b,o,hl,qm,-,hc⟩:=hR.Gq DV (by decide) (k:=0) (by simp)
 cases qm
 simp only[List.getElem_cons_zero,Nat.zero_mul,Nat.add_zero]at hc
 exact⟨g,c,r,rfl,⟨h1,h2⟩,hc,hp.keep (fun _ q=>q.1) (fun _ _=>rfl)⟩
theorem Hl {base:Nat} {w:World} {v:Value} {l:List Piece} (k:Int) (h:Build 56 base w v l) (h2:0<l.length): ∃A c,v= .slice A l.length c/\Hid (l.length<=c/\c<=maxLen)/\Hid (DF (In base w.heap.size) w ⟨k,⟨#[]⟩,A,l.length,c,0,0⟩ (.mk k ⟨#[]⟩ l 0 0)):=by
 obtain⟨Ag,hown,hall⟩:=h
 have hlen:=hall.1
 have hR:=Al.Bw DV rfl hown
 obtain⟨g,c,rfl,hg,hgw,h1,h3⟩:=BL hown (by omega)
 refine⟨_,c,by rw[hlen],⟨by omega,h3⟩,?_⟩
 rw[hlen]at hR
 refine .mk _ _ _ _ _ _ _ Ag l _ hR ?_ hlen ?_
 ·intro ad e _
  cases e
  exact⟨hg,hgw⟩
 intro i i1 i2
 exact(hall.2 i i1 i2).keep (fun _ q=>q.1) (fun _ _=>rfl)
theorem KZ {e:TypeId} {base:Nat} {w' w'':World} {v:Value} {ks:List Piece} {b:Nat} {r:Raw} {to er bad:Int} (hb:Build e base w' v ks) (hg:w'.grownBy w'' v.ownBlock) (h0:b<base) (h:Cq w' b r to er bad):Cq w'' b r to er bad:=(F8 hb hg b h0 h.lt).trans h
theorem IA {e:TypeId} {base:Nat} {u w' w'':World} {v:Value} {ks:List Piece} (hb:Build e base w' v ks) (hg:w'.grownBy w'' v.ownBlock) (h0:u.heap.size<=base) (k:Below u.heap.size u w'):Below u.heap.size u w'':=by
 have hs:=F8 hb hg
 obtain⟨g1,g2,g3,g4,-⟩:=hg
 exact⟨g1.trans k.os,g2.trans k.tape,g3.trans k.output,Nat.le_trans k.size g4,fun i hi=>(hs i (by omega) (Nat.lt_of_lt_of_le hi k.size)).trans (k.block i hi)⟩
theorem JW {e e':TypeId} {base b:Nat} {u w' w'':World} {v:Value} {ks ks':List Piece} {r:Raw} {to er bad:Int} (_hb:Build e base w' v ks) (hg:w'.grownBy w'' v.ownBlock) (h:Cq w' b r to er bad) (hu:Build e' base u v ks') (huw:u.heap.size<=b):w''.cell? ⟨b,5,none⟩=some (.int .i64 to):=by
 obtain⟨_,_,_,_,g5⟩:=hg
 have:Cq w'' b r to er bad:=(g5 b h.lt (fun q=>by have:=hu.LH b q.symm;omega)).trans h
 exact this.c5
def OI (s:ByteArray) (R:Nat->Nat->Option Dg) (lo:Nat):Prop:=
 ∀at_ deep,lo<=at_->at_<=s.size->deep<=64-> ∃g,R at_ deep=some g/\GN s.data.toList at_ g/\ ∀w,Calls Tryz.prog 47 #[.string s,.int .i64 at_,.int .i64 deep] w (Df w g)
theorem Vj {R:Nat->Nat->Option Dg} {S:List UInt8} {deep k at_:Nat} {acc:List Piece} {g:Dg} (h:stop S at_) (hr:row R S deep (k+1) at_ acc=some g):g= .ok (together 7 acc) at_:=Mt h hr
section
variable {w:World} {s:ByteArray} {at_ deep:Nat}
theorem Z7 {R:Nat->Nat->Option Dg} (hA: ∀a,at_<=a->a<s.size->Pp R s a deep) (hat:at_<=s.size) (hs:s.size<=900) {g:Dg} (hg:row R s.data.toList deep (s.data.toList.length+1) at_ []=some g):
    Calls Tryz.prog 80 #[.string s,.int .i64 at_,.int .i64 deep] w (Df w g):=by
 have hlen:s.data.toList.length=s.size:=(Lib.size_eq s).symm
 have HG:=hid hg
 have HA:=hid hA
 have HLEN:=hid hlen
 have HS:=hid hs
 have HAT:=hid hat
 clear hg hA hlen hs hat
 go_enter Tryz.func80,Tryz.ntmps80
 go_wp2_with (first|(refine Ab rfl rfl ?_;intro w1 b1 e1 p1 l1 z1))
 have G1:=hid p1
 have L1:=hid l1
 have HB:=hid (show w.heap.size<=b1/\b1<w1.heap.size from⟨by omega,by omega⟩)
 clear e1 p1 l1 z1
 go_loopg [1,7] s.size (fun gk s1 s7 wr=> ∃(a:Nat) (acc:List Piece),s1= .int .i64 a/\Hid (at_<=a/\a<=s.size/\acc.length<=a)/\Hid (row R s.data.toList deep (gk+1) a acc=some g)/\Hid (Build 56 w1.heap.size wr s7 acc)/\Hid (Cq wr b1 Af 0 0 0)/\Hid (Below w.heap.size w wr)/\Hid (w1.heap.size<=wr.heap.size))
 case atStart=>
  refine⟨at_,[],rfl,⟨Nat.le_refl _,HAT.out,Nat.zero_le _⟩,?_,Build.nil _ _ _,G1,L1,Nat.le_refl _⟩
  show row R _ _ _ _ _=_
  rw[<-HLEN.out];exact HG.out
 case round=>
  obtain⟨a,acc,rfl,ha,hrow,hbuild,Ee,hbel,hsz⟩:=hrel
  by_cases hlt:a<s.size
  ·have hlt2:(a:Int)<(s.size:Int):=by omega
   have hga:=Hf hlt
   by_cases Fa:s[a]=124
   ·have t124:((s[a].toNat:Int)==124)=true:=FU Fa
    have n124:((s[a].toNat:Int) !=124)=false:=by show(!((s[a].toNat:Int)==124))=false;rw[t124];rfl
    have hst:=hid (show stop s.data.toList a from .inr (.inl (by rw[hga];exact Fa)))
    clear Fa hga
    have HX:=hid (Vj hst.out hrow.out)
    match acc,hbuild,HX with
    | [],hbuild,HX=>
     obtain⟨A,c,rfl,hA1,hA2⟩:=hbuild.out.len
     unfold maxLen at hA2
     clear hrow hA1
     go_wp2_with fail
     refine(DU 1 ⟨#[]⟩ a _).mono ?_
     rintro e w5 ⟨l5,r5,rfl,h5⟩
     have G5:=hid (Ee.out.below l5)
     have L5:=hid (hbel.out.trans (l5.mono hbel.out.size))
     have A5:=hid h5
     have K5:=hid (show w.heap.size<=wr.heap.size/\b1<wr.heap.size from⟨hbel.out.size,Ee.out.lt⟩)
     clear l5 h5
     go_wp2_with (first
      |(refine AQ (r:=r5) (to:=((a:Nat):Int)) (e:=0) (bad:=0) rfl (.tmp 6) (.tmp 44) rfl rfl rfl G5.out ?_;intro w9 p9 l9 z9))
     refine Av rfl rfl p9 rfl ?_
     rw[HX.out]
     exact⟨Ah L5.out l9 HB.out.1,r5,rfl,(A5.out.Bg l9 K5.out.2).Cs K5.out.1⟩
    | [p],hbuild,HX=>
     obtain⟨g0,c,r,rfl,hc1,hcell,hp⟩:=I9 hbuild.out
     have hA2:=hc1.out.2
     have hA1:=hc1.out.1
     unfold maxLen at hA2
     clear hrow
     go_wp2_with (first
      |(refine Aq rfl (.tmp 49) rfl rfl (r:=r) hcell.out ?_)
      |(refine Cc (r:=r) rfl (.tmp 50) (.tmp 51) rfl rfl rfl ?_)
      |(refine AQ (r:=r) (to:=((a:Nat):Int)) (e:=0) (bad:=0) rfl (.tmp 6) (.tmp 52) rfl rfl rfl Ee.out ?_;intro w9 p9 l9 z9))
     refine Av rfl rfl p9 rfl ?_
     rw[HX.out]
     exact⟨Ah hbel.out l9 HB.out.1,r,rfl,(hp.out.Bg l9 HB.out.2).Cs L1.out.size⟩
    |p::q::l,hbuild,HX=>
     obtain⟨A,c,rfl,hc1,hp⟩:=Hl 7 hbuild.out (by simp)
     have hA2:=hc1.out.2
     unfold maxLen at hA2
     have HN:Hid ((p::q::l).length<=901):=by have:=ha.out;have:=HS.out;show _<=_;omega
     have t0:(((p::q::l).length:Int)==0)=false:=by simpa using (by omega: ¬((l.length:Int)+1+1=0))
     have t1:(((p::q::l).length:Int)==1)=false:=by simpa using (by omega: ¬((l.length:Int)+1+1=1))
     obtain⟨n,hn⟩: ∃n,(p::q::l).length=n:=⟨_,rfl⟩
     rw[hn]at t0 t1 hp HN ⊢
     have Gl:=hid hn
     clear hrow hn hbuild hc1
     go_wp2_with (first
      |(refine Cc (r:=⟨7,⟨#[]⟩,A,n,c,0,0⟩) rfl (.tmp 54) (.tmp 55) rfl rfl rfl ?_)
      |(refine AQ (r:=⟨7,⟨#[]⟩,A,n,c,0,0⟩) (to:=((a:Nat):Int)) (e:=0) (bad:=0) rfl (.tmp 6) (.tmp 56) rfl rfl rfl Ee.out ?_;intro w9 p9 l9 z9))
     refine Av rfl rfl p9 rfl ?_
     rw[HX.out]
     exact⟨Ah hbel.out l9 HB.out.1,_,rfl,(hp.out.Bg l9 HB.out.2).Cs L1.out.size⟩
   have t124:((s[a].toNat:Int)==124)=false:=Ce Fa
   have n124:((s[a].toNat:Int) !=124)=true:=by show(!((s[a].toNat:Int)==124))=true;rw[t124];rfl
   by_cases IK:s[a]=41
   ·have t41:((s[a].toNat:Int)==41)=true:=FU IK
    have n41:((s[a].toNat:Int) !=41)=false:=by show(!((s[a].toNat:Int)==41))=false;rw[t41];rfl
    have hst:=hid (show stop s.data.toList a from .inr (.inr (by rw[hga];exact IK)))
    clear Fa IK hga
    have HX:=hid (Vj hst.out hrow.out)
    match acc,hbuild,HX with
    | [],hbuild,HX=>
     obtain⟨A,c,rfl,hA1,hA2⟩:=hbuild.out.len
     unfold maxLen at hA2
     clear hrow hA1
     go_wp2_with fail
     refine(DU 1 ⟨#[]⟩ a _).mono ?_
     rintro e w5 ⟨l5,r5,rfl,h5⟩
     have G5:=hid (Ee.out.below l5)
     have L5:=hid (hbel.out.trans (l5.mono hbel.out.size))
     have A5:=hid h5
     have K5:=hid (show w.heap.size<=wr.heap.size/\b1<wr.heap.size from⟨hbel.out.size,Ee.out.lt⟩)
     clear l5 h5
     go_wp2_with (first
      |(refine AQ (r:=r5) (to:=((a:Nat):Int)) (e:=0) (bad:=0) rfl (.tmp 6) (.tmp 44) rfl rfl rfl G5.out ?_;intro w9 p9 l9 z9))
     refine Av rfl rfl p9 rfl ?_
     rw[HX.out]
     exact⟨Ah L5.out l9 HB.out.1,r5,rfl,(A5.out.Bg l9 K5.out.2).Cs K5.out.1⟩
    | [p],hbuild,HX=>
     obtain⟨g0,c,r,rfl,hc1,hcell,hp⟩:=I9 hbuild.out
     have hA2:=hc1.out.2
     have hA1:=hc1.out.1
     unfold maxLen at hA2
     clear hrow
     go_wp2_with (first
      |(refine Aq rfl (.tmp 49) rfl rfl (r:=r) hcell.out ?_)
      |(refine Cc (r:=r) rfl (.tmp 50) (.tmp 51) rfl rfl rfl ?_)
      |(refine AQ (r:=r) (to:=((a:Nat):Int)) (e:=0) (bad:=0) rfl (.tmp 6) (.tmp 52) rfl rfl rfl Ee.out ?_;intro w9 p9 l9 z9))
     refine Av rfl rfl p9 rfl ?_
     rw[HX.out]
     exact⟨Ah hbel.out l9 HB.out.1,r,rfl,(hp.out.Bg l9 HB.out.2).Cs L1.out.size⟩
    |p::q::l,hbuild,HX=>
     obtain⟨A,c,rfl,hc1,hp⟩:=Hl 7 hbuild.out (by simp)
     have hA2:=hc1.out.2
     unfold maxLen at hA2
     have HN:Hid ((p::q::l).length<=901):=by have:=ha.out;have:=HS.out;show _<=_;omega
     have t0:(((p::q::l).length:Int)==0)=false:=by simpa using (by omega: ¬((l.length:Int)+1+1=0))
     have t1:(((p::q::l).length:Int)==1)=false:=by simpa using (by omega: ¬((l.length:Int)+1+1=1))
     obtain⟨n,hn⟩: ∃n,(p::q::l).length=n:=⟨_,rfl⟩
     rw[hn]at t0 t1 hp HN ⊢
     have Gl:=hid hn
     clear hrow hn hbuild hc1
     go_wp2_with (first
      |(refine Cc (r:=⟨7,⟨#[]⟩,A,n,c,0,0⟩) rfl (.tmp 54) (.tmp 55) rfl rfl rfl ?_)
      |(refine AQ (r:=⟨7,⟨#[]⟩,A,n,c,0,0⟩) (to:=((a:Nat):Int)) (e:=0) (bad:=0) rfl (.tmp 6) (.tmp 56) rfl rfl rfl Ee.out ?_;intro w9 p9 l9 z9))
     refine Av rfl rfl p9 rfl ?_
     rw[HX.out]
     exact⟨Ah hbel.out l9 HB.out.1,_,rfl,(hp.out.Bg l9 HB.out.2).Cs L1.out.size⟩
   have t41:((s[a].toNat:Int)==41)=false:=Ce IK
   have n41:((s[a].toNat:Int) !=41)=true:=by show(!((s[a].toNat:Int)==41))=true;rw[t41];rfl
   have hst: ¬stop s.data.toList a:=by
    rintro(q|q|q)
    ·have:=HLEN.out;omega
    ·exact Fa (by rw[<-hga];exact q)
    exact IK (by rw[<-hga];exact q)
   obtain⟨g0,hp0,hf0,hC⟩:=X8 (HA.out a ha.out.1 hlt) HS.out
   have HC:=hid hC
   have HRO:=hid hrow.out
   obtain⟨A,c,rfl,hA1,hA2⟩:=hbuild.out.len
   unfold maxLen at hA2
   rcases g0 with⟨p,to⟩|⟨qb,er⟩
   ·have kL:=hid (Ua hst hp0 hrow.out)
    have V6:Hid (at_<=to/\to<=s.size/\(acc++ [p]).length<=to/\acc.length<=1000000):=by
     have h1:=hf0.1
     have h2:=hf0.2.1
     have h3:=HLEN.out
     have h4:=ha.out
     have h5:=HS.out
     refine⟨by omega,by omega,?_,by omega⟩
     rw[List.length_append]
     show acc.length+1<=to
     omega
    clear hst Fa IK hga hp0 hf0 hC hrow HRO
    go_wp2_with fail
    refine(HC.out _).mono ?_
    rintro e w4 ⟨l4,r,rfl,hp⟩
    have G4:=hid (Ee.out.below l4)
    have U4:=hid (hbuild.out.below l4)
    have L4:=hid (hbel.out.trans (l4.mono hbel.out.size))
    have A4:=hid hp
    have Z4:=hid l4.size
    clear l4 hp
    cases gk with
    |zero=>exact absurd kL.out (by simp[row])
    |succ Lf=>
     go_wp2_with (first
      |(refine Ab rfl rfl ?_;intro w5 b3 e5 p5 l5 z5)
      |(refine AQ (r:=r) (to:=((to:Nat):Int)) (e:=0) (bad:=0) rfl (.tmp 8) (.tmp 28) rfl rfl rfl p5 ?_;intro w6 p6 l6 z6;have L6:=hid (AY l5 l6 e5);have Q6:=hid p6;have k5:=p6.c5;have k6:=p6.c6;have ZB:=hid (show wr.heap.size<=b3 from e5▸Z4.out);clear e5 p5 l5 z5 p6 l6 z6)
      |(refine Aq rfl (.tmp 34) rfl rfl (r:=r) (fun j hj=>Q6.out.raw j hj) ?_)
      |(refine B_ rfl (.tmp 35) rfl (r:=r) rfl ?_;intro w7 b7 e7 r7 l7 z7;have L7:=hid (L6.out.trans (l7.mono L6.out.size));have U7:=hid (U4.out.below L7.out);have A7:=hid (A4.out.CP L7.out);have Q7:=hid (Q6.out.below l7);have R7:=hid r7;clear e7 r7 l7 z7 k5 k6)
      |(refine Eb rfl (.tmp 33) (.tmp 36) rfl rfl rfl U7.out hbuild.out.LH hsz.out (Nat.le_trans hsz.out (Nat.le_trans Z4.out L7.out.size)) R7.out A7.out V6.out.2.2.2 ?_;intro v' w8 U8 g8;have HU:=hid U8;have G8:=hid (KZ U7.out g8 HB.out.2 (G4.out.below L7.out));have L8:=hid (IA U7.out g8 L1.out.size (L4.out.trans (L7.out.mono L4.out.size)));have Z8:Hid (w1.heap.size<=w8.heap.size):=(by obtain⟨_,_,_,g,_⟩:=g8;exact Nat.le_trans hsz.out (Nat.le_trans Z4.out (Nat.le_trans L7.out.size g)));have kk:=JW U7.out g8 Q7.out hbuild.out ZB.out;clear U8 g8))
     go_roundg Lf
     case measure=>exact Nat.lt_succ_self _
     case rel=>exact⟨to,acc++ [p],by first|rfl|trivial,⟨V6.out.1,V6.out.2.1,V6.out.2.2.1⟩,kL,HU,G8,L8,Z8⟩
   have HX:=hid (Lm hst hp0 hrow.out)
   clear hst Fa IK hga hp0 hf0 hC hrow HRO
   go_wp2_with fail
   refine(HC.out _).mono ?_
   rintro e w4 ⟨l4,he,tq,rfl⟩
   have G4:=hid (Ee.out.below l4)
   have L4:=hid (hbel.out.trans (l4.mono hbel.out.size))
   have te:(er !=0)=true:=by simpa using he
   have HE:=hid he
   clear l4 he
   go_wp2_with (first
    |(refine Ab rfl rfl ?_;intro w5 b3 e5 p5 l5 z5)
    |(refine AQ (r:=Af) (to:=tq) (e:=er) (bad:=(qb:Int)) rfl (.tmp 8) (.tmp 28) rfl rfl rfl p5 ?_;intro w6 p6 l6 z6;have L6:=hid (AY l5 l6 e5);have G6:=hid (G4.out.below L6.out);have ve:=hid (L4.out.trans (L6.out.mono L4.out.size));have Q6:=hid p6;have k6:=p6.c6;clear e5 p5 l5 z5 p6 l6 z6)
    |(refine He rfl (.tmp 8) rfl rfl Q6.out ?_)
    |(refine AQ (r:=Af) (to:=tq) (e:=er) (bad:=(qb:Int)) rfl (.tmp 6) (.tmp 32) rfl rfl rfl G6.out ?_;intro w9 p9 l9 z9))
   refine Av rfl rfl p9 rfl ?_
   rw[HX.out]
   exact⟨Ah ve.out l9 HB.out.1,HE.out,tq,rfl⟩
  have hlt2: ¬(a:Int)<(s.size:Int):=by omega
  have hst:=hid (show stop s.data.toList a from .inl (by rw[HLEN.out];omega))
  clear hlt
  have HX:=hid (Vj hst.out hrow.out)
  match acc,hbuild,HX with
  | [],hbuild,HX=>
   obtain⟨A,c,rfl,hA1,hA2⟩:=hbuild.out.len
   unfold maxLen at hA2
   clear hrow hA1
   go_wp2_with fail
   refine(DU 1 ⟨#[]⟩ a _).mono ?_
   rintro e w5 ⟨l5,r5,rfl,h5⟩
   have G5:=hid (Ee.out.below l5)
   have L5:=hid (hbel.out.trans (l5.mono hbel.out.size))
   have A5:=hid h5
   have K5:=hid (show w.heap.size<=wr.heap.size/\b1<wr.heap.size from⟨hbel.out.size,Ee.out.lt⟩)
   clear l5 h5
   go_wp2_with (first
    |(refine AQ (r:=r5) (to:=((a:Nat):Int)) (e:=0) (bad:=0) rfl (.tmp 6) (.tmp 44) rfl rfl rfl G5.out ?_;intro w9 p9 l9 z9))
   refine Av rfl rfl p9 rfl ?_
   rw[HX.out]
   exact⟨Ah L5.out l9 HB.out.1,r5,rfl,(A5.out.Bg l9 K5.out.2).Cs K5.out.1⟩
  | [p],hbuild,HX=>
   obtain⟨g0,c,r,rfl,hc1,hcell,hp⟩:=I9 hbuild.out
   have hA2:=hc1.out.2
   have hA1:=hc1.out.1
   unfold maxLen at hA2
   clear hrow
   go_wp2_with (first
    |(refine Aq rfl (.tmp 49) rfl rfl (r:=r) hcell.out ?_)
    |(refine Cc (r:=r) rfl (.tmp 50) (.tmp 51) rfl rfl rfl ?_)
    |(refine AQ (r:=r) (to:=((a:Nat):Int)) (e:=0) (bad:=0) rfl (.tmp 6) (.tmp 52) rfl rfl rfl Ee.out ?_;intro w9 p9 l9 z9))
   refine Av rfl rfl p9 rfl ?_
   rw[HX.out]
   exact⟨Ah hbel.out l9 HB.out.1,r,rfl,(hp.out.Bg l9 HB.out.2).Cs L1.out.size⟩
  |p::q::l,hbuild,HX=>
   obtain⟨A,c,rfl,hc1,hp⟩:=Hl 7 hbuild.out (by simp)
   have hA2:=hc1.out.2
   unfold maxLen at hA2
   have HN:Hid ((p::q::l).length<=901):=by have:=ha.out;have:=HS.out;show _<=_;omega
   have t0:(((p::q::l).length:Int)==0)=false:=by simpa using (by omega: ¬((l.length:Int)+1+1=0))
   have t1:(((p::q::l).length:Int)==1)=false:=by simpa using (by omega: ¬((l.length:Int)+1+1=1))
   obtain⟨n,hn⟩: ∃n,(p::q::l).length=n:=⟨_,rfl⟩
   rw[hn]at t0 t1 hp HN ⊢
   have Gl:=hid hn
   clear hrow hn hbuild hc1
   go_wp2_with (first
    |(refine Cc (r:=⟨7,⟨#[]⟩,A,n,c,0,0⟩) rfl (.tmp 54) (.tmp 55) rfl rfl rfl ?_)
    |(refine AQ (r:=⟨7,⟨#[]⟩,A,n,c,0,0⟩) (to:=((a:Nat):Int)) (e:=0) (bad:=0) rfl (.tmp 6) (.tmp 56) rfl rfl rfl Ee.out ?_;intro w9 p9 l9 z9))
   refine Av rfl rfl p9 rfl ?_
   rw[HX.out]
   exact⟨Ah hbel.out l9 HB.out.1,_,rfl,(hp.out.Bg l9 HB.out.2).Cs L1.out.size⟩
end
end W14
end Go.Proofs.YtfgegjinhkgpbaaGreatDoor
