/-
  Texts joined, in build order, each with its own comment and its own conditions: W14RefAtom, W14RefRows.
-/
import Derived.Test.YtfgegjinhkgpbaaGreatDoorJ22
import Derived.Test.YtfgegjinhkgpbaaGreatDoorJ17
import Derived.Test.YtfgegjinhkgpbaaGreatDoorJ23
import Derived.Deep.Cut
import Derived.Test.YtfgegjinhkgpbaaGreatDoorJ18
namespace Go.Proofs.YtfgegjinhkgpbaaGreatDoor
set_option maxHeartbeats 4000000
set_option maxRecDepth 100000
open Go.RowKit
open Lib (hid)
namespace W14
open Strs Al Cj
open BU (Beside)
open Kit (BM below_draws on)
theorem bJ {s:ByteArray} {i:Nat} (h:i<s.size):s.extract i (i+1)=YW s[i]:=by
 apply BM
 rw[Kit.one_byte s i h];rfl
theorem Cg {w w':World} {g:Dg} {e:Ending} (h:Df w g e w'):FP w.heap.size w g e w':=h
theorem Um {s:ByteArray} {i j:Nat} (h1:(i:Int)<=(j:Int)) (h2:(j:Int)<=(s.size:Int)) (W:World):(Instr.slice 9 (.string s) (some (.int .i64 (i:Int))) (some (.int .i64 (j:Int))) none).run Tryz.prog W= .ok (.string (s.extract i j)) W:=by
 have h3:(0:Int)<=(i:Int):=by omega
 have h4:(0:Int)<=(j:Int):=by omega
 go_simp
section
variable {w:World} {s:ByteArray} {at_ deep:Nat}
theorem TQ (hat:at_<s.size) (hs:s.size<=900) (hc:s[at_]=46):
    Calls Tryz.prog 136 #[.string s,.int .i64 at_,.int .i64 deep] w (Df w (.ok (leaf 3 ⟨#[]⟩) (at_+1))):=by
 have h2:(at_:Int)<(s.size:Int):=by omega
 have hw1:wrap64 ((at_:Int)+1)=((at_+1:Nat):Int):=by unfold wrap64;omega
 have hw2:wrap64 ((at_:Int)+2)=((at_+2:Nat):Int):=by unfold wrap64;omega
 have t40:((s[at_].toNat:Int)==40)=false:=Ce (show¬s[at_]=40 by rw[hc];decide)
 have n40:((s[at_].toNat:Int) !=40)=true:=by show(!((s[at_].toNat:Int)==40))=true;rw[t40];rfl
 have t91:((s[at_].toNat:Int)==91)=false:=Ce (show¬s[at_]=91 by rw[hc];decide)
 have n91:((s[at_].toNat:Int) !=91)=true:=by show(!((s[at_].toNat:Int)==91))=true;rw[t91];rfl
 have t46:((s[at_].toNat:Int)==46)=true:=FU hc
 have n46:((s[at_].toNat:Int) !=46)=false:=by show(!((s[at_].toNat:Int)==46))=false;rw[t46];rfl
 clear hc
 go_enter Tryz.func136,Tryz.ntmps136
 go_wp2_with (first|(refine Ab rfl rfl ?_;intro w1 b1 e1 p1 l1 z1;have G1:=hid p1;have L1:=hid l1;have HB:=hid (show w.heap.size<=b1/\b1<w1.heap.size from⟨by omega,by omega⟩);clear e1 p1 l1 z1))
 refine(DU 3 ⟨#[]⟩ (at_+1) _).mono ?_
 rintro e w5 hg
 obtain⟨r5,NI,NJ,FQ,rfl⟩:=DJ (Cg hg)
 have GG:=hid hg
 have G5:=hid (G1.out.below hg.1)
 have L5:=hid (L1.out.trans (hg.1.mono L1.out.size))
 have K5:=hid (show w.heap.size<=_/\b1<_ from⟨L1.out.size,G1.out.lt⟩)
 clear hg
 go_wp2_with (first
  |(refine AQ (r:=r5) (to:=NI) (e:=NJ) (bad:=FQ) rfl (.tmp 6) (.tmp 71) rfl rfl rfl G5.out ?_;intro w9 p9 l9 z9))
 refine Av rfl rfl p9 rfl ?_
 exact Cm (Cg GG.out) (Ah L5.out l9 HB.out.1) l9 K5.out.1 K5.out.2
theorem TS (hat:at_<s.size) (hs:s.size<=900) (hc:s[at_]=94):
    Calls Tryz.prog 136 #[.string s,.int .i64 at_,.int .i64 deep] w (Df w (.ok (leaf 5 ⟨#[]⟩) (at_+1))):=by
 have h2:(at_:Int)<(s.size:Int):=by omega
 have hw1:wrap64 ((at_:Int)+1)=((at_+1:Nat):Int):=by unfold wrap64;omega
 have hw2:wrap64 ((at_:Int)+2)=((at_+2:Nat):Int):=by unfold wrap64;omega
 have t40:((s[at_].toNat:Int)==40)=false:=Ce (show¬s[at_]=40 by rw[hc];decide)
 have n40:((s[at_].toNat:Int) !=40)=true:=by show(!((s[at_].toNat:Int)==40))=true;rw[t40];rfl
 have t91:((s[at_].toNat:Int)==91)=false:=Ce (show¬s[at_]=91 by rw[hc];decide)
 have n91:((s[at_].toNat:Int) !=91)=true:=by show(!((s[at_].toNat:Int)==91))=true;rw[t91];rfl
 have t46:((s[at_].toNat:Int)==46)=false:=Ce (show¬s[at_]=46 by rw[hc];decide)
 have n46:((s[at_].toNat:Int) !=46)=true:=by show(!((s[at_].toNat:Int)==46))=true;rw[t46];rfl
 have t94:((s[at_].toNat:Int)==94)=true:=FU hc
 have n94:((s[at_].toNat:Int) !=94)=false:=by show(!((s[at_].toNat:Int)==94))=false;rw[t94];rfl
 clear hc
 go_enter Tryz.func136,Tryz.ntmps136
 go_wp2_with (first|(refine Ab rfl rfl ?_;intro w1 b1 e1 p1 l1 z1;have G1:=hid p1;have L1:=hid l1;have HB:=hid (show w.heap.size<=b1/\b1<w1.heap.size from⟨by omega,by omega⟩);clear e1 p1 l1 z1))
 refine(DU 5 ⟨#[]⟩ (at_+1) _).mono ?_
 rintro e w5 hg
 obtain⟨r5,NI,NJ,FQ,rfl⟩:=DJ (Cg hg)
 have GG:=hid hg
 have G5:=hid (G1.out.below hg.1)
 have L5:=hid (L1.out.trans (hg.1.mono L1.out.size))
 have K5:=hid (show w.heap.size<=_/\b1<_ from⟨L1.out.size,G1.out.lt⟩)
 clear hg
 go_wp2_with (first
  |(refine AQ (r:=r5) (to:=NI) (e:=NJ) (bad:=FQ) rfl (.tmp 6) (.tmp 76) rfl rfl rfl G5.out ?_;intro w9 p9 l9 z9))
 refine Av rfl rfl p9 rfl ?_
 exact Cm (Cg GG.out) (Ah L5.out l9 HB.out.1) l9 K5.out.1 K5.out.2
theorem Vn (hat:at_<s.size) (hs:s.size<=900) (hc:s[at_]=36):
    Calls Tryz.prog 136 #[.string s,.int .i64 at_,.int .i64 deep] w (Df w (.ok (leaf 6 ⟨#[]⟩) (at_+1))):=by
 have h2:(at_:Int)<(s.size:Int):=by omega
 have hw1:wrap64 ((at_:Int)+1)=((at_+1:Nat):Int):=by unfold wrap64;omega
 have hw2:wrap64 ((at_:Int)+2)=((at_+2:Nat):Int):=by unfold wrap64;omega
 have t40:((s[at_].toNat:Int)==40)=false:=Ce (show¬s[at_]=40 by rw[hc];decide)
 have n40:((s[at_].toNat:Int) !=40)=true:=by show(!((s[at_].toNat:Int)==40))=true;rw[t40];rfl
 have t91:((s[at_].toNat:Int)==91)=false:=Ce (show¬s[at_]=91 by rw[hc];decide)
 have n91:((s[at_].toNat:Int) !=91)=true:=by show(!((s[at_].toNat:Int)==91))=true;rw[t91];rfl
 have t46:((s[at_].toNat:Int)==46)=false:=Ce (show¬s[at_]=46 by rw[hc];decide)
 have n46:((s[at_].toNat:Int) !=46)=true:=by show(!((s[at_].toNat:Int)==46))=true;rw[t46];rfl
 have t94:((s[at_].toNat:Int)==94)=false:=Ce (show¬s[at_]=94 by rw[hc];decide)
 have n94:((s[at_].toNat:Int) !=94)=true:=by show(!((s[at_].toNat:Int)==94))=true;rw[t94];rfl
 have t36:((s[at_].toNat:Int)==36)=true:=FU hc
 have n36:((s[at_].toNat:Int) !=36)=false:=by show(!((s[at_].toNat:Int)==36))=false;rw[t36];rfl
 clear hc
 go_enter Tryz.func136,Tryz.ntmps136
 go_wp2_with (first|(refine Ab rfl rfl ?_;intro w1 b1 e1 p1 l1 z1;have G1:=hid p1;have L1:=hid l1;have HB:=hid (show w.heap.size<=b1/\b1<w1.heap.size from⟨by omega,by omega⟩);clear e1 p1 l1 z1))
 refine(DU 6 ⟨#[]⟩ (at_+1) _).mono ?_
 rintro e w5 hg
 obtain⟨r5,NI,NJ,FQ,rfl⟩:=DJ (Cg hg)
 have GG:=hid hg
 have G5:=hid (G1.out.below hg.1)
 have L5:=hid (L1.out.trans (hg.1.mono L1.out.size))
 have K5:=hid (show w.heap.size<=_/\b1<_ from⟨L1.out.size,G1.out.lt⟩)
 clear hg
 go_wp2_with (first
  |(refine AQ (r:=r5) (to:=NI) (e:=NJ) (bad:=FQ) rfl (.tmp 6) (.tmp 81) rfl rfl rfl G5.out ?_;intro w9 p9 l9 z9))
 refine Av rfl rfl p9 rfl ?_
 exact Cm (Cg GG.out) (Ah L5.out l9 HB.out.1) l9 K5.out.1 K5.out.2
theorem Vo (hat:at_<s.size) (hs:s.size<=900) (hc:s[at_]=42):
    Calls Tryz.prog 136 #[.string s,.int .i64 at_,.int .i64 deep] w (Df w (.bad at_ 3)):=by
 have h2:(at_:Int)<(s.size:Int):=by omega
 have hw1:wrap64 ((at_:Int)+1)=((at_+1:Nat):Int):=by unfold wrap64;omega
 have hw2:wrap64 ((at_:Int)+2)=((at_+2:Nat):Int):=by unfold wrap64;omega
 have t40:((s[at_].toNat:Int)==40)=false:=Ce (show¬s[at_]=40 by rw[hc];decide)
 have n40:((s[at_].toNat:Int) !=40)=true:=by show(!((s[at_].toNat:Int)==40))=true;rw[t40];rfl
 have t91:((s[at_].toNat:Int)==91)=false:=Ce (show¬s[at_]=91 by rw[hc];decide)
 have n91:((s[at_].toNat:Int) !=91)=true:=by show(!((s[at_].toNat:Int)==91))=true;rw[t91];rfl
 have t46:((s[at_].toNat:Int)==46)=false:=Ce (show¬s[at_]=46 by rw[hc];decide)
 have n46:((s[at_].toNat:Int) !=46)=true:=by show(!((s[at_].toNat:Int)==46))=true;rw[t46];rfl
 have t94:((s[at_].toNat:Int)==94)=false:=Ce (show¬s[at_]=94 by rw[hc];decide)
 have n94:((s[at_].toNat:Int) !=94)=true:=by show(!((s[at_].toNat:Int)==94))=true;rw[t94];rfl
 have t36:((s[at_].toNat:Int)==36)=false:=Ce (show¬s[at_]=36 by rw[hc];decide)
 have n36:((s[at_].toNat:Int) !=36)=true:=by show(!((s[at_].toNat:Int)==36))=true;rw[t36];rfl
 have t42:((s[at_].toNat:Int)==42)=true:=FU hc
 have n42:((s[at_].toNat:Int) !=42)=false:=by show(!((s[at_].toNat:Int)==42))=false;rw[t42];rfl
 clear hc
 go_enter Tryz.func136,Tryz.ntmps136
 go_wp2_with (first|(refine Ab rfl rfl ?_;intro w1 b1 e1 p1 l1 z1;have G1:=hid p1;have L1:=hid l1;have HB:=hid (show w.heap.size<=b1/\b1<w1.heap.size from⟨by omega,by omega⟩);clear e1 p1 l1 z1))
 refine(Bj at_ 3 (by decide) _).mono ?_
 rintro e w5 hg
 obtain⟨r5,NI,NJ,FQ,rfl⟩:=DJ (Cg hg)
 have GG:=hid hg
 have G5:=hid (G1.out.below hg.1)
 have L5:=hid (L1.out.trans (hg.1.mono L1.out.size))
 have K5:=hid (show w.heap.size<=_/\b1<_ from⟨L1.out.size,G1.out.lt⟩)
 clear hg
 go_wp2_with (first
  |(refine AQ (r:=r5) (to:=NI) (e:=NJ) (bad:=FQ) rfl (.tmp 6) (.tmp 97) rfl rfl rfl G5.out ?_;intro w9 p9 l9 z9))
 refine Av rfl rfl p9 rfl ?_
 exact Cm (Cg GG.out) (Ah L5.out l9 HB.out.1) l9 K5.out.1 K5.out.2
theorem Vp (hat:at_<s.size) (hs:s.size<=900) (hc:s[at_]=43):
    Calls Tryz.prog 136 #[.string s,.int .i64 at_,.int .i64 deep] w (Df w (.bad at_ 3)):=by
 have h2:(at_:Int)<(s.size:Int):=by omega
 have hw1:wrap64 ((at_:Int)+1)=((at_+1:Nat):Int):=by unfold wrap64;omega
 have hw2:wrap64 ((at_:Int)+2)=((at_+2:Nat):Int):=by unfold wrap64;omega
 have t40:((s[at_].toNat:Int)==40)=false:=Ce (show¬s[at_]=40 by rw[hc];decide)
 have n40:((s[at_].toNat:Int) !=40)=true:=by show(!((s[at_].toNat:Int)==40))=true;rw[t40];rfl
 have t91:((s[at_].toNat:Int)==91)=false:=Ce (show¬s[at_]=91 by rw[hc];decide)
 have n91:((s[at_].toNat:Int) !=91)=true:=by show(!((s[at_].toNat:Int)==91))=true;rw[t91];rfl
 have t46:((s[at_].toNat:Int)==46)=false:=Ce (show¬s[at_]=46 by rw[hc];decide)
 have n46:((s[at_].toNat:Int) !=46)=true:=by show(!((s[at_].toNat:Int)==46))=true;rw[t46];rfl
 have t94:((s[at_].toNat:Int)==94)=false:=Ce (show¬s[at_]=94 by rw[hc];decide)
 have n94:((s[at_].toNat:Int) !=94)=true:=by show(!((s[at_].toNat:Int)==94))=true;rw[t94];rfl
 have t36:((s[at_].toNat:Int)==36)=false:=Ce (show¬s[at_]=36 by rw[hc];decide)
 have n36:((s[at_].toNat:Int) !=36)=true:=by show(!((s[at_].toNat:Int)==36))=true;rw[t36];rfl
 have t42:((s[at_].toNat:Int)==42)=false:=Ce (show¬s[at_]=42 by rw[hc];decide)
 have n42:((s[at_].toNat:Int) !=42)=true:=by show(!((s[at_].toNat:Int)==42))=true;rw[t42];rfl
 have t43:((s[at_].toNat:Int)==43)=true:=FU hc
 have n43:((s[at_].toNat:Int) !=43)=false:=by show(!((s[at_].toNat:Int)==43))=false;rw[t43];rfl
 clear hc
 go_enter Tryz.func136,Tryz.ntmps136
 go_wp2_with (first|(refine Ab rfl rfl ?_;intro w1 b1 e1 p1 l1 z1;have G1:=hid p1;have L1:=hid l1;have HB:=hid (show w.heap.size<=b1/\b1<w1.heap.size from⟨by omega,by omega⟩);clear e1 p1 l1 z1))
 refine(Bj at_ 3 (by decide) _).mono ?_
 rintro e w5 hg
 obtain⟨r5,NI,NJ,FQ,rfl⟩:=DJ (Cg hg)
 have GG:=hid hg
 have G5:=hid (G1.out.below hg.1)
 have L5:=hid (L1.out.trans (hg.1.mono L1.out.size))
 have K5:=hid (show w.heap.size<=_/\b1<_ from⟨L1.out.size,G1.out.lt⟩)
 clear hg
 go_wp2_with (first
  |(refine AQ (r:=r5) (to:=NI) (e:=NJ) (bad:=FQ) rfl (.tmp 6) (.tmp 97) rfl rfl rfl G5.out ?_;intro w9 p9 l9 z9))
 refine Av rfl rfl p9 rfl ?_
 exact Cm (Cg GG.out) (Ah L5.out l9 HB.out.1) l9 K5.out.1 K5.out.2
theorem Vq (hat:at_<s.size) (hs:s.size<=900) (hc:s[at_]=63):
    Calls Tryz.prog 136 #[.string s,.int .i64 at_,.int .i64 deep] w (Df w (.bad at_ 3)):=by
 have h2:(at_:Int)<(s.size:Int):=by omega
 have hw1:wrap64 ((at_:Int)+1)=((at_+1:Nat):Int):=by unfold wrap64;omega
 have hw2:wrap64 ((at_:Int)+2)=((at_+2:Nat):Int):=by unfold wrap64;omega
 have t40:((s[at_].toNat:Int)==40)=false:=Ce (show¬s[at_]=40 by rw[hc];decide)
 have n40:((s[at_].toNat:Int) !=40)=true:=by show(!((s[at_].toNat:Int)==40))=true;rw[t40];rfl
 have t91:((s[at_].toNat:Int)==91)=false:=Ce (show¬s[at_]=91 by rw[hc];decide)
 have n91:((s[at_].toNat:Int) !=91)=true:=by show(!((s[at_].toNat:Int)==91))=true;rw[t91];rfl
 have t46:((s[at_].toNat:Int)==46)=false:=Ce (show¬s[at_]=46 by rw[hc];decide)
 have n46:((s[at_].toNat:Int) !=46)=true:=by show(!((s[at_].toNat:Int)==46))=true;rw[t46];rfl
 have t94:((s[at_].toNat:Int)==94)=false:=Ce (show¬s[at_]=94 by rw[hc];decide)
 have n94:((s[at_].toNat:Int) !=94)=true:=by show(!((s[at_].toNat:Int)==94))=true;rw[t94];rfl
 have t36:((s[at_].toNat:Int)==36)=false:=Ce (show¬s[at_]=36 by rw[hc];decide)
 have n36:((s[at_].toNat:Int) !=36)=true:=by show(!((s[at_].toNat:Int)==36))=true;rw[t36];rfl
 have t42:((s[at_].toNat:Int)==42)=false:=Ce (show¬s[at_]=42 by rw[hc];decide)
 have n42:((s[at_].toNat:Int) !=42)=true:=by show(!((s[at_].toNat:Int)==42))=true;rw[t42];rfl
 have t43:((s[at_].toNat:Int)==43)=false:=Ce (show¬s[at_]=43 by rw[hc];decide)
 have n43:((s[at_].toNat:Int) !=43)=true:=by show(!((s[at_].toNat:Int)==43))=true;rw[t43];rfl
 have t63:((s[at_].toNat:Int)==63)=true:=FU hc
 have n63:((s[at_].toNat:Int) !=63)=false:=by show(!((s[at_].toNat:Int)==63))=false;rw[t63];rfl
 clear hc
 go_enter Tryz.func136,Tryz.ntmps136
 go_wp2_with (first|(refine Ab rfl rfl ?_;intro w1 b1 e1 p1 l1 z1;have G1:=hid p1;have L1:=hid l1;have HB:=hid (show w.heap.size<=b1/\b1<w1.heap.size from⟨by omega,by omega⟩);clear e1 p1 l1 z1))
 refine(Bj at_ 3 (by decide) _).mono ?_
 rintro e w5 hg
 obtain⟨r5,NI,NJ,FQ,rfl⟩:=DJ (Cg hg)
 have GG:=hid hg
 have G5:=hid (G1.out.below hg.1)
 have L5:=hid (L1.out.trans (hg.1.mono L1.out.size))
 have K5:=hid (show w.heap.size<=_/\b1<_ from⟨L1.out.size,G1.out.lt⟩)
 clear hg
 go_wp2_with (first
  |(refine AQ (r:=r5) (to:=NI) (e:=NJ) (bad:=FQ) rfl (.tmp 6) (.tmp 97) rfl rfl rfl G5.out ?_;intro w9 p9 l9 z9))
 refine Av rfl rfl p9 rfl ?_
 exact Cm (Cg GG.out) (Ah L5.out l9 HB.out.1) l9 K5.out.1 K5.out.2
theorem TT (hat:at_<s.size) (hs:s.size<=900) (hc:s[at_]=123):
    Calls Tryz.prog 136 #[.string s,.int .i64 at_,.int .i64 deep] w (Df w (.bad at_ 3)):=by
 have h2:(at_:Int)<(s.size:Int):=by omega
 have hw1:wrap64 ((at_:Int)+1)=((at_+1:Nat):Int):=by unfold wrap64;omega
 have hw2:wrap64 ((at_:Int)+2)=((at_+2:Nat):Int):=by unfold wrap64;omega
 have t40:((s[at_].toNat:Int)==40)=false:=Ce (show¬s[at_]=40 by rw[hc];decide)
 have n40:((s[at_].toNat:Int) !=40)=true:=by show(!((s[at_].toNat:Int)==40))=true;rw[t40];rfl
 have t91:((s[at_].toNat:Int)==91)=false:=Ce (show¬s[at_]=91 by rw[hc];decide)
 have n91:((s[at_].toNat:Int) !=91)=true:=by show(!((s[at_].toNat:Int)==91))=true;rw[t91];rfl
 have t46:((s[at_].toNat:Int)==46)=false:=Ce (show¬s[at_]=46 by rw[hc];decide)
 have n46:((s[at_].toNat:Int) !=46)=true:=by show(!((s[at_].toNat:Int)==46))=true;rw[t46];rfl
 have t94:((s[at_].toNat:Int)==94)=false:=Ce (show¬s[at_]=94 by rw[hc];decide)
 have n94:((s[at_].toNat:Int) !=94)=true:=by show(!((s[at_].toNat:Int)==94))=true;rw[t94];rfl
 have t36:((s[at_].toNat:Int)==36)=false:=Ce (show¬s[at_]=36 by rw[hc];decide)
 have n36:((s[at_].toNat:Int) !=36)=true:=by show(!((s[at_].toNat:Int)==36))=true;rw[t36];rfl
 have t42:((s[at_].toNat:Int)==42)=false:=Ce (show¬s[at_]=42 by rw[hc];decide)
 have n42:((s[at_].toNat:Int) !=42)=true:=by show(!((s[at_].toNat:Int)==42))=true;rw[t42];rfl
 have t43:((s[at_].toNat:Int)==43)=false:=Ce (show¬s[at_]=43 by rw[hc];decide)
 have n43:((s[at_].toNat:Int) !=43)=true:=by show(!((s[at_].toNat:Int)==43))=true;rw[t43];rfl
 have t63:((s[at_].toNat:Int)==63)=false:=Ce (show¬s[at_]=63 by rw[hc];decide)
 have n63:((s[at_].toNat:Int) !=63)=true:=by show(!((s[at_].toNat:Int)==63))=true;rw[t63];rfl
 have t123:((s[at_].toNat:Int)==123)=true:=FU hc
 have n123:((s[at_].toNat:Int) !=123)=false:=by show(!((s[at_].toNat:Int)==123))=false;rw[t123];rfl
 clear hc
 go_enter Tryz.func136,Tryz.ntmps136
 go_wp2_with (first|(refine Ab rfl rfl ?_;intro w1 b1 e1 p1 l1 z1;have G1:=hid p1;have L1:=hid l1;have HB:=hid (show w.heap.size<=b1/\b1<w1.heap.size from⟨by omega,by omega⟩);clear e1 p1 l1 z1))
 refine(Bj at_ 3 (by decide) _).mono ?_
 rintro e w5 hg
 obtain⟨r5,NI,NJ,FQ,rfl⟩:=DJ (Cg hg)
 have GG:=hid hg
 have G5:=hid (G1.out.below hg.1)
 have L5:=hid (L1.out.trans (hg.1.mono L1.out.size))
 have K5:=hid (show w.heap.size<=_/\b1<_ from⟨L1.out.size,G1.out.lt⟩)
 clear hg
 go_wp2_with (first
  |(refine AQ (r:=r5) (to:=NI) (e:=NJ) (bad:=FQ) rfl (.tmp 6) (.tmp 97) rfl rfl rfl G5.out ?_;intro w9 p9 l9 z9))
 refine Av rfl rfl p9 rfl ?_
 exact Cm (Cg GG.out) (Ah L5.out l9 HB.out.1) l9 K5.out.1 K5.out.2
theorem Vr (hat:at_<s.size) (hs:s.size<=900) (hc:s[at_]=40) (hd:deep=64):
    Calls Tryz.prog 136 #[.string s,.int .i64 at_,.int .i64 deep] w (Df w (.bad at_ 21)):=by
 have h2:(at_:Int)<(s.size:Int):=by omega
 have hw1:wrap64 ((at_:Int)+1)=((at_+1:Nat):Int):=by unfold wrap64;omega
 have hw2:wrap64 ((at_:Int)+2)=((at_+2:Nat):Int):=by unfold wrap64;omega
 have t40:((s[at_].toNat:Int)==40)=true:=FU hc
 have n40:((s[at_].toNat:Int) !=40)=false:=by show(!((s[at_].toNat:Int)==40))=false;rw[t40];rfl
 have td:((deep:Int)==64)=true:=by rw[hd];rfl
 clear hc hd
 go_enter Tryz.func136,Tryz.ntmps136
 go_wp2_with (first|(refine Ab rfl rfl ?_;intro w1 b1 e1 p1 l1 z1;have G1:=hid p1;have L1:=hid l1;have HB:=hid (show w.heap.size<=b1/\b1<w1.heap.size from⟨by omega,by omega⟩);clear e1 p1 l1 z1))
 refine(Bj at_ 21 (by decide) _).mono ?_
 rintro e w5 hg
 obtain⟨r5,NI,NJ,FQ,rfl⟩:=DJ (Cg hg)
 have GG:=hid hg
 have G5:=hid (G1.out.below hg.1)
 have L5:=hid (L1.out.trans (hg.1.mono L1.out.size))
 have K5:=hid (show w.heap.size<=_/\b1<_ from⟨L1.out.size,G1.out.lt⟩)
 clear hg
 go_wp2_with (first
  |(refine AQ (r:=r5) (to:=NI) (e:=NJ) (bad:=FQ) rfl (.tmp 6) (.tmp 22) rfl rfl rfl G5.out ?_;intro w9 p9 l9 z9))
 refine Av rfl rfl p9 rfl ?_
 exact Cm (Cg GG.out) (Ah L5.out l9 HB.out.1) l9 K5.out.1 K5.out.2
theorem Vs (hat:at_<s.size) (hs:s.size<=900) (IX: ¬s[at_]=40) (FX: ¬s[at_]=91) (h46: ¬s[at_]=46) (Jh: ¬s[at_]=94) (V9: ¬s[at_]=36) (Jk: ¬s[at_]=42) (h43: ¬s[at_]=43) (h63: ¬s[at_]=63) (FV: ¬s[at_]=123) (Fy: ¬s[at_]=92):
    Calls Tryz.prog 136 #[.string s,.int .i64 at_,.int .i64 deep] w (Df w (.ok (leaf 2 (YW s[at_])) (at_+1))):=by
 have h2:(at_:Int)<(s.size:Int):=by omega
 have hw1:wrap64 ((at_:Int)+1)=((at_+1:Nat):Int):=by unfold wrap64;omega
 have hw2:wrap64 ((at_:Int)+2)=((at_+2:Nat):Int):=by unfold wrap64;omega
 have t40:((s[at_].toNat:Int)==40)=false:=Ce IX
 have n40:((s[at_].toNat:Int) !=40)=true:=by show(!((s[at_].toNat:Int)==40))=true;rw[t40];rfl
 have t91:((s[at_].toNat:Int)==91)=false:=Ce FX
 have n91:((s[at_].toNat:Int) !=91)=true:=by show(!((s[at_].toNat:Int)==91))=true;rw[t91];rfl
 have t46:((s[at_].toNat:Int)==46)=false:=Ce h46
 have n46:((s[at_].toNat:Int) !=46)=true:=by show(!((s[at_].toNat:Int)==46))=true;rw[t46];rfl
 have t94:((s[at_].toNat:Int)==94)=false:=Ce Jh
 have n94:((s[at_].toNat:Int) !=94)=true:=by show(!((s[at_].toNat:Int)==94))=true;rw[t94];rfl
 have t36:((s[at_].toNat:Int)==36)=false:=Ce V9
 have n36:((s[at_].toNat:Int) !=36)=true:=by show(!((s[at_].toNat:Int)==36))=true;rw[t36];rfl
 have t42:((s[at_].toNat:Int)==42)=false:=Ce Jk
 have n42:((s[at_].toNat:Int) !=42)=true:=by show(!((s[at_].toNat:Int)==42))=true;rw[t42];rfl
 have t43:((s[at_].toNat:Int)==43)=false:=Ce h43
 have n43:((s[at_].toNat:Int) !=43)=true:=by show(!((s[at_].toNat:Int)==43))=true;rw[t43];rfl
 have t63:((s[at_].toNat:Int)==63)=false:=Ce h63
 have n63:((s[at_].toNat:Int) !=63)=true:=by show(!((s[at_].toNat:Int)==63))=true;rw[t63];rfl
 have t123:((s[at_].toNat:Int)==123)=false:=Ce FV
 have n123:((s[at_].toNat:Int) !=123)=true:=by show(!((s[at_].toNat:Int)==123))=true;rw[t123];rfl
 have t92:((s[at_].toNat:Int)==92)=false:=Ce Fy
 have n92:((s[at_].toNat:Int) !=92)=true:=by show(!((s[at_].toNat:Int)==92))=true;rw[t92];rfl
 have hsl: ∀W,(Instr.slice 9 (.string s) (some (.int .i64 (at_:Int))) (some (.int .i64 ((at_:Int)+1))) none).run Tryz.prog W= .ok (.string (YW s[at_])) W:=fun W=>by
  have:=Um (s:=s) (i:=at_) (j:=at_+1) (by omega) (by omega) W
  rw[bJ hat]at this
  exact this
 clear IX FX h46 Jh V9 Jk h43 h63 FV Fy
 go_enter Tryz.func136,Tryz.ntmps136
 go_wp2_with (first|(refine Ab rfl rfl ?_;intro w1 b1 e1 p1 l1 z1;have G1:=hid p1;have L1:=hid l1;have HB:=hid (show w.heap.size<=b1/\b1<w1.heap.size from⟨by omega,by omega⟩);clear e1 p1 l1 z1))
 refine(DU 2 (YW s[at_]) (at_+1) _).mono ?_
 rintro e w5 hg
 obtain⟨r5,NI,NJ,FQ,rfl⟩:=DJ (Cg hg)
 have GG:=hid hg
 have G5:=hid (G1.out.below hg.1)
 have L5:=hid (L1.out.trans (hg.1.mono L1.out.size))
 have K5:=hid (show w.heap.size<=_/\b1<_ from⟨L1.out.size,G1.out.lt⟩)
 clear hg
 go_wp2_with (first
  |(refine AQ (r:=r5) (to:=NI) (e:=NJ) (bad:=FQ) rfl (.tmp 6) (.tmp 107) rfl rfl rfl G5.out ?_;intro w9 p9 l9 z9))
 refine Av rfl rfl p9 rfl ?_
 exact Cm (Cg GG.out) (Ah L5.out l9 HB.out.1) l9 K5.out.1 K5.out.2
theorem TU (hat:at_<s.size) (hs:s.size<=900) (hc:s[at_]=92) (hl:at_+1=s.size):
    Calls Tryz.prog 136 #[.string s,.int .i64 at_,.int .i64 deep] w (Df w (.bad at_ 3)):=by
 have h2:(at_:Int)<(s.size:Int):=by omega
 have hw1:wrap64 ((at_:Int)+1)=((at_+1:Nat):Int):=by unfold wrap64;omega
 have hw2:wrap64 ((at_:Int)+2)=((at_+2:Nat):Int):=by unfold wrap64;omega
 have t40:((s[at_].toNat:Int)==40)=false:=Ce (show¬s[at_]=40 by rw[hc];decide)
 have n40:((s[at_].toNat:Int) !=40)=true:=by show(!((s[at_].toNat:Int)==40))=true;rw[t40];rfl
 have t91:((s[at_].toNat:Int)==91)=false:=Ce (show¬s[at_]=91 by rw[hc];decide)
 have n91:((s[at_].toNat:Int) !=91)=true:=by show(!((s[at_].toNat:Int)==91))=true;rw[t91];rfl
 have t46:((s[at_].toNat:Int)==46)=false:=Ce (show¬s[at_]=46 by rw[hc];decide)
 have n46:((s[at_].toNat:Int) !=46)=true:=by show(!((s[at_].toNat:Int)==46))=true;rw[t46];rfl
 have t94:((s[at_].toNat:Int)==94)=false:=Ce (show¬s[at_]=94 by rw[hc];decide)
 have n94:((s[at_].toNat:Int) !=94)=true:=by show(!((s[at_].toNat:Int)==94))=true;rw[t94];rfl
 have t36:((s[at_].toNat:Int)==36)=false:=Ce (show¬s[at_]=36 by rw[hc];decide)
 have n36:((s[at_].toNat:Int) !=36)=true:=by show(!((s[at_].toNat:Int)==36))=true;rw[t36];rfl
 have t42:((s[at_].toNat:Int)==42)=false:=Ce (show¬s[at_]=42 by rw[hc];decide)
 have n42:((s[at_].toNat:Int) !=42)=true:=by show(!((s[at_].toNat:Int)==42))=true;rw[t42];rfl
 have t43:((s[at_].toNat:Int)==43)=false:=Ce (show¬s[at_]=43 by rw[hc];decide)
 have n43:((s[at_].toNat:Int) !=43)=true:=by show(!((s[at_].toNat:Int)==43))=true;rw[t43];rfl
 have t63:((s[at_].toNat:Int)==63)=false:=Ce (show¬s[at_]=63 by rw[hc];decide)
 have n63:((s[at_].toNat:Int) !=63)=true:=by show(!((s[at_].toNat:Int)==63))=true;rw[t63];rfl
 have t123:((s[at_].toNat:Int)==123)=false:=Ce (show¬s[at_]=123 by rw[hc];decide)
 have n123:((s[at_].toNat:Int) !=123)=true:=by show(!((s[at_].toNat:Int)==123))=true;rw[t123];rfl
 have t92:((s[at_].toNat:Int)==92)=true:=FU hc
 have n92:((s[at_].toNat:Int) !=92)=false:=by show(!((s[at_].toNat:Int)==92))=false;rw[t92];rfl
 have te:(((at_+1:Nat):Int)==(s.size:Int))=true:=Hw hl
 clear hc hl
 go_enter Tryz.func136,Tryz.ntmps136
 go_wp2_with (first|(refine Ab rfl rfl ?_;intro w1 b1 e1 p1 l1 z1;have G1:=hid p1;have L1:=hid l1;have HB:=hid (show w.heap.size<=b1/\b1<w1.heap.size from⟨by omega,by omega⟩);clear e1 p1 l1 z1))
 refine(Bj at_ 3 (by decide) _).mono ?_
 rintro e w5 hg
 obtain⟨r5,NI,NJ,FQ,rfl⟩:=DJ (Cg hg)
 have GG:=hid hg
 have G5:=hid (G1.out.below hg.1)
 have L5:=hid (L1.out.trans (hg.1.mono L1.out.size))
 have K5:=hid (show w.heap.size<=_/\b1<_ from⟨L1.out.size,G1.out.lt⟩)
 clear hg
 go_wp2_with (first
  |(refine AQ (r:=r5) (to:=NI) (e:=NJ) (bad:=FQ) rfl (.tmp 6) (.tmp 114) rfl rfl rfl G5.out ?_;intro w9 p9 l9 z9))
 refine Av rfl rfl p9 rfl ?_
 exact Cm (Cg GG.out) (Ah L5.out l9 HB.out.1) l9 K5.out.1 K5.out.2
theorem Rz (hat:at_<s.size) (hs:s.size<=900) (hc:s[at_]=92) (hl:at_+1<s.size) (hlet:Ew.letter s[at_+1]=true):
    Calls Tryz.prog 136 #[.string s,.int .i64 at_,.int .i64 deep] w (Df w (.ok (leaf 4 (txt (Ew.Bt s[at_+1]))) (at_+2))):=by
 have h2:(at_:Int)<(s.size:Int):=by omega
 have hw1:wrap64 ((at_:Int)+1)=((at_+1:Nat):Int):=by unfold wrap64;omega
 have hw2:wrap64 ((at_:Int)+2)=((at_+2:Nat):Int):=by unfold wrap64;omega
 have t40:((s[at_].toNat:Int)==40)=false:=Ce (show¬s[at_]=40 by rw[hc];decide)
 have n40:((s[at_].toNat:Int) !=40)=true:=by show(!((s[at_].toNat:Int)==40))=true;rw[t40];rfl
 have t91:((s[at_].toNat:Int)==91)=false:=Ce (show¬s[at_]=91 by rw[hc];decide)
 have n91:((s[at_].toNat:Int) !=91)=true:=by show(!((s[at_].toNat:Int)==91))=true;rw[t91];rfl
 have t46:((s[at_].toNat:Int)==46)=false:=Ce (show¬s[at_]=46 by rw[hc];decide)
 have n46:((s[at_].toNat:Int) !=46)=true:=by show(!((s[at_].toNat:Int)==46))=true;rw[t46];rfl
 have t94:((s[at_].toNat:Int)==94)=false:=Ce (show¬s[at_]=94 by rw[hc];decide)
 have n94:((s[at_].toNat:Int) !=94)=true:=by show(!((s[at_].toNat:Int)==94))=true;rw[t94];rfl
 have t36:((s[at_].toNat:Int)==36)=false:=Ce (show¬s[at_]=36 by rw[hc];decide)
 have n36:((s[at_].toNat:Int) !=36)=true:=by show(!((s[at_].toNat:Int)==36))=true;rw[t36];rfl
 have t42:((s[at_].toNat:Int)==42)=false:=Ce (show¬s[at_]=42 by rw[hc];decide)
 have n42:((s[at_].toNat:Int) !=42)=true:=by show(!((s[at_].toNat:Int)==42))=true;rw[t42];rfl
 have t43:((s[at_].toNat:Int)==43)=false:=Ce (show¬s[at_]=43 by rw[hc];decide)
 have n43:((s[at_].toNat:Int) !=43)=true:=by show(!((s[at_].toNat:Int)==43))=true;rw[t43];rfl
 have t63:((s[at_].toNat:Int)==63)=false:=Ce (show¬s[at_]=63 by rw[hc];decide)
 have n63:((s[at_].toNat:Int) !=63)=true:=by show(!((s[at_].toNat:Int)==63))=true;rw[t63];rfl
 have t123:((s[at_].toNat:Int)==123)=false:=Ce (show¬s[at_]=123 by rw[hc];decide)
 have n123:((s[at_].toNat:Int) !=123)=true:=by show(!((s[at_].toNat:Int)==123))=true;rw[t123];rfl
 have t92:((s[at_].toNat:Int)==92)=true:=FU hc
 have n92:((s[at_].toNat:Int) !=92)=false:=by show(!((s[at_].toNat:Int)==92))=false;rw[t92];rfl
 have te:(((at_+1:Nat):Int)==(s.size:Int))=false:=CY (by omega)
 have HN:Hid (∀w,Calls Tryz.prog 155 #[.int .u8 s[at_+1].toNat] w fun e w'=>e= .returned (.tuple #[.string (FD.tx (Ew.Bt s[at_+1])),.bool true])/\Below w.heap.size w w'):=fun w=>by
  have:=FD.Gf s[at_+1] w
  rw[hlet]at this
  exact this
 have h3:((at_+1:Nat):Int)<(s.size:Int):=by omega
 clear hc hlet
 go_enter Tryz.func136,Tryz.ntmps136
 go_wp2_with (first|(refine Ab rfl rfl ?_;intro w1 b1 e1 p1 l1 z1;have G1:=hid p1;have L1:=hid l1;have HB:=hid (show w.heap.size<=b1/\b1<w1.heap.size from⟨by omega,by omega⟩);clear e1 p1 l1 z1))
 refine(HN.out _).mono ?_
 rintro e w2 ⟨rfl,l2⟩
 have G2:=hid (G1.out.below l2)
 have L2:=hid (L1.out.trans (l2.mono L1.out.size))
 clear l2
 go_wp2_with fail
 refine(DU 4 (txt (Ew.Bt s[at_+1])) (at_+2) _).mono ?_
 rintro e w5 hg
 obtain⟨r5,NI,NJ,FQ,rfl⟩:=DJ (Cg hg)
 have GG:=hid hg
 have G5:=hid (G2.out.below hg.1)
 have L5:=hid (L2.out.trans (hg.1.mono L2.out.size))
 have K5:=hid (show w.heap.size<=_/\b1<_ from⟨L2.out.size,G2.out.lt⟩)
 clear hg
 go_wp2_with (first
  |(refine AQ (r:=r5) (to:=NI) (e:=NJ) (bad:=FQ) rfl (.tmp 6) (.tmp 127) rfl rfl rfl G5.out ?_;intro w9 p9 l9 z9))
 refine Av rfl rfl p9 rfl ?_
 exact Cm (Cg GG.out) (Ah L5.out l9 HB.out.1) l9 K5.out.1 K5.out.2
theorem PV (hat:at_<s.size) (hs:s.size<=900) (hc:s[at_]=92) (hl:at_+1<s.size) (hlet:Ew.letter s[at_+1]=false):
    Calls Tryz.prog 136 #[.string s,.int .i64 at_,.int .i64 deep] w (Df w (.ok (leaf 2 (YW s[at_+1])) (at_+2))):=by
 have h2:(at_:Int)<(s.size:Int):=by omega
 have hw1:wrap64 ((at_:Int)+1)=((at_+1:Nat):Int):=by unfold wrap64;omega
 have hw2:wrap64 ((at_:Int)+2)=((at_+2:Nat):Int):=by unfold wrap64;omega
 have t40:((s[at_].toNat:Int)==40)=false:=Ce (show¬s[at_]=40 by rw[hc];decide)
 have n40:((s[at_].toNat:Int) !=40)=true:=by show(!((s[at_].toNat:Int)==40))=true;rw[t40];rfl
 have t91:((s[at_].toNat:Int)==91)=false:=Ce (show¬s[at_]=91 by rw[hc];decide)
 have n91:((s[at_].toNat:Int) !=91)=true:=by show(!((s[at_].toNat:Int)==91))=true;rw[t91];rfl
 have t46:((s[at_].toNat:Int)==46)=false:=Ce (show¬s[at_]=46 by rw[hc];decide)
 have n46:((s[at_].toNat:Int) !=46)=true:=by show(!((s[at_].toNat:Int)==46))=true;rw[t46];rfl
 have t94:((s[at_].toNat:Int)==94)=false:=Ce (show¬s[at_]=94 by rw[hc];decide)
 have n94:((s[at_].toNat:Int) !=94)=true:=by show(!((s[at_].toNat:Int)==94))=true;rw[t94];rfl
 have t36:((s[at_].toNat:Int)==36)=false:=Ce (show¬s[at_]=36 by rw[hc];decide)
 have n36:((s[at_].toNat:Int) !=36)=true:=by show(!((s[at_].toNat:Int)==36))=true;rw[t36];rfl
 have t42:((s[at_].toNat:Int)==42)=false:=Ce (show¬s[at_]=42 by rw[hc];decide)
 have n42:((s[at_].toNat:Int) !=42)=true:=by show(!((s[at_].toNat:Int)==42))=true;rw[t42];rfl
 have t43:((s[at_].toNat:Int)==43)=false:=Ce (show¬s[at_]=43 by rw[hc];decide)
 have n43:((s[at_].toNat:Int) !=43)=true:=by show(!((s[at_].toNat:Int)==43))=true;rw[t43];rfl
 have t63:((s[at_].toNat:Int)==63)=false:=Ce (show¬s[at_]=63 by rw[hc];decide)
 have n63:((s[at_].toNat:Int) !=63)=true:=by show(!((s[at_].toNat:Int)==63))=true;rw[t63];rfl
 have t123:((s[at_].toNat:Int)==123)=false:=Ce (show¬s[at_]=123 by rw[hc];decide)
 have n123:((s[at_].toNat:Int) !=123)=true:=by show(!((s[at_].toNat:Int)==123))=true;rw[t123];rfl
 have t92:((s[at_].toNat:Int)==92)=true:=FU hc
 have n92:((s[at_].toNat:Int) !=92)=false:=by show(!((s[at_].toNat:Int)==92))=false;rw[t92];rfl
 have te:(((at_+1:Nat):Int)==(s.size:Int))=false:=CY (by omega)
 have hsl: ∀W,(Instr.slice 9 (.string s) (some (.int .i64 ((at_:Int)+1))) (some (.int .i64 ((at_:Int)+2))) none).run Tryz.prog W= .ok (.string (YW s[at_+1])) W:=fun W=>by
  have:=Um (s:=s) (i:=at_+1) (j:=at_+1+1) (by omega) (by omega) W
  rw[bJ hl]at this
  exact this
 have HN:Hid (∀w,Calls Tryz.prog 155 #[.int .u8 s[at_+1].toNat] w fun e w'=>e= .returned (.tuple #[.string (FD.tx (Ew.Bt s[at_+1])),.bool false])/\Below w.heap.size w w'):=fun w=>by
  have:=FD.Gf s[at_+1] w
  rw[hlet]at this
  exact this
 have h3:((at_+1:Nat):Int)<(s.size:Int):=by omega
 clear hc hlet
 go_enter Tryz.func136,Tryz.ntmps136
 go_wp2_with (first|(refine Ab rfl rfl ?_;intro w1 b1 e1 p1 l1 z1;have G1:=hid p1;have L1:=hid l1;have HB:=hid (show w.heap.size<=b1/\b1<w1.heap.size from⟨by omega,by omega⟩);clear e1 p1 l1 z1))
 refine(HN.out _).mono ?_
 rintro e w2 ⟨rfl,l2⟩
 have G2:=hid (G1.out.below l2)
 have L2:=hid (L1.out.trans (l2.mono L1.out.size))
 clear l2
 go_wp2_with fail
 refine(DU 2 (YW s[at_+1]) (at_+2) _).mono ?_
 rintro e w5 hg
 obtain⟨r5,NI,NJ,FQ,rfl⟩:=DJ (Cg hg)
 have GG:=hid hg
 have G5:=hid (G2.out.below hg.1)
 have L5:=hid (L2.out.trans (hg.1.mono L2.out.size))
 have K5:=hid (show w.heap.size<=_/\b1<_ from⟨L2.out.size,G2.out.lt⟩)
 clear hg
 go_wp2_with (first
  |(refine AQ (r:=r5) (to:=NI) (e:=NJ) (bad:=FQ) rfl (.tmp 6) (.tmp 136) rfl rfl rfl G5.out ?_;intro w9 p9 l9 z9))
 refine Av rfl rfl p9 rfl ?_
 exact Cm (Cg GG.out) (Ah L5.out l9 HB.out.1) l9 K5.out.1 K5.out.2
theorem TV (hat:at_<s.size) (hs:s.size<=900) (hc:s[at_]=40) (hd:deep<64) {q:Nat} {er:Int} (hC: ∀w,Calls Tryz.prog 47 #[.string s,.int .i64 ((at_+1:Nat):Int),.int .i64 ((deep+1:Nat):Int)] w (Df w (.bad q er))):
    Calls Tryz.prog 136 #[.string s,.int .i64 at_,.int .i64 deep] w (Df w (.bad q er)):=by
 have h2:(at_:Int)<(s.size:Int):=by omega
 have hw1:wrap64 ((at_:Int)+1)=((at_+1:Nat):Int):=by unfold wrap64;omega
 have hw2:wrap64 ((at_:Int)+2)=((at_+2:Nat):Int):=by unfold wrap64;omega
 have t40:((s[at_].toNat:Int)==40)=true:=FU hc
 have n40:((s[at_].toNat:Int) !=40)=false:=by show(!((s[at_].toNat:Int)==40))=false;rw[t40];rfl
 have td:((deep:Int)==64)=false:=by simpa using (by omega: ¬(deep:Int)=64)
 have hw3:wrap64 ((deep:Int)+1)=((deep+1:Nat):Int):=by unfold wrap64;omega
 have HC:=hid hC
 clear hc hC hd
 go_enter Tryz.func136,Tryz.ntmps136
 go_wp2_with (first|(refine Ab rfl rfl ?_;intro w1 b1 e1 p1 l1 z1;have G1:=hid p1;have L1:=hid l1;have HB:=hid (show w.heap.size<=b1/\b1<w1.heap.size from⟨by omega,by omega⟩);clear e1 p1 l1 z1))
 refine(HC.out _).mono ?_
 rintro e w2 ⟨l2,he,tq,rfl⟩
 have HE:=hid he
 have te:(er==0)=false:=by simpa using he
 clear he
 have G2:=hid (G1.out.below l2)
 have L2:=hid (L1.out.trans (l2.mono L1.out.size))
 have HB2:=hid (show b1<w2.heap.size from Nat.lt_of_lt_of_le HB.out.2 l2.size)
 clear l2
 go_upto_region 6 with(first
  |(refine Ab rfl rfl ?_;intro w3 b3 e3 p3 l3 z3)
  |(refine AQ (r:=Af) (to:=tq) (e:=er) (bad:=(q:Int)) rfl (.tmp 8) (.tmp 28) rfl rfl rfl p3 ?_;intro w4 p4 l4 z4;have Eu:=hid (AY l3 l4 e3);have G4:=hid (G2.out.below Eu.out);have Q4:=hid p4;have Jv:=hid (show w2.heap.size=b3 from e3);have L4:=hid (L2.out.trans (Eu.out.mono L2.out.size));have q5:=p4.c5;have q6:=p4.c6;have f5:=p4.free 5;clear e3 p3 l3 z3 p4 l4 z4))
 have mY:=hid (show b3≠b1 by have:=Jv.out;have:=HB2.out;omega)
 have BS:Hid (∀v,Beside b3 w4 (w4.setCell ⟨b3,5,none⟩ (.int .i64 v))):=fun v=>BH _ _ _ _
 have Q5:=hid (Q4.out.put (wrap64 (tq+1)))
 have G5:=hid (G4.out.beside (BS.out (wrap64 (tq+1))) mY.out.symm)
 have L5:=hid (Ah L4.out (BS.out (wrap64 (tq+1))) (by rw[<-Jv.out];exact L2.out.size))
 have xJ:=hid (Ah Eu.out (BS.out (wrap64 (tq+1))) (by rw[<-Jv.out];exact Nat.le_refl _))
 go_wp2_with (first
  |(refine He rfl (.tmp 8) rfl rfl Q5.out ?_)
  |(refine AQ (r:=Af) (to:=wrap64 (tq+1)) (e:=er) (bad:=(q:Int)) rfl (.tmp 6) (.tmp 46) rfl rfl rfl G5.out ?_;intro w9 p9 l9 z9))
 refine Av rfl rfl p9 rfl ⟨Ah L5.out l9 HB.out.1,?_⟩
 exact⟨HE.out,_,rfl⟩
theorem TW (hat:at_<s.size) (hs:s.size<=900) (hc:s[at_]=40) (hd:deep<64) {p:Piece} {to:Nat} (hto:to=s.size) (hC: ∀w,Calls Tryz.prog 47 #[.string s,.int .i64 ((at_+1:Nat):Int),.int .i64 ((deep+1:Nat):Int)] w (Df w (.ok p to))):
    Calls Tryz.prog 136 #[.string s,.int .i64 at_,.int .i64 deep] w (Df w (.bad s.size 3)):=by
 have h2:(at_:Int)<(s.size:Int):=by omega
 have hw1:wrap64 ((at_:Int)+1)=((at_+1:Nat):Int):=by unfold wrap64;omega
 have hw2:wrap64 ((at_:Int)+2)=((at_+2:Nat):Int):=by unfold wrap64;omega
 have t40:((s[at_].toNat:Int)==40)=true:=FU hc
 have n40:((s[at_].toNat:Int) !=40)=false:=by show(!((s[at_].toNat:Int)==40))=false;rw[t40];rfl
 have td:((deep:Int)==64)=false:=by simpa using (by omega: ¬(deep:Int)=64)
 have hw3:wrap64 ((deep:Int)+1)=((deep+1:Nat):Int):=by unfold wrap64;omega
 have HC:=hid hC
 clear hc hC hd
 have ti:=Hw hto
 clear hto
 go_enter Tryz.func136,Tryz.ntmps136
 go_wp2_with (first|(refine Ab rfl rfl ?_;intro w1 b1 e1 p1 l1 z1;have G1:=hid p1;have L1:=hid l1;have HB:=hid (show w.heap.size<=b1/\b1<w1.heap.size from⟨by omega,by omega⟩);clear e1 p1 l1 z1))
 refine(HC.out _).mono ?_
 rintro e w2 ⟨l2,r,rfl,hp⟩
 have A2:=hid hp
 clear hp
 have G2:=hid (G1.out.below l2)
 have L2:=hid (L1.out.trans (l2.mono L1.out.size))
 have HB2:=hid (show b1<w2.heap.size from Nat.lt_of_lt_of_le HB.out.2 l2.size)
 clear l2
 go_upto_region 6 with(first
  |(refine Ab rfl rfl ?_;intro w3 b3 e3 p3 l3 z3)
  |(refine AQ (r:=r) (to:=(to:Int)) (e:=0) (bad:=0) rfl (.tmp 8) (.tmp 28) rfl rfl rfl p3 ?_;intro w4 p4 l4 z4;have Eu:=hid (AY l3 l4 e3);have G4:=hid (G2.out.below Eu.out);have Q4:=hid p4;have Jv:=hid (show w2.heap.size=b3 from e3);have L4:=hid (L2.out.trans (Eu.out.mono L2.out.size));have q5:=p4.c5;have q6:=p4.c6;have f5:=p4.free 5;clear e3 p3 l3 z3 p4 l4 z4))
 have mY:=hid (show b3≠b1 by have:=Jv.out;have:=HB2.out;omega)
 have BS:Hid (∀v,Beside b3 w4 (w4.setCell ⟨b3,5,none⟩ (.int .i64 v))):=fun v=>BH _ _ _ _
 go_wp2_with fail
 refine(Bj s.size 3 (by decide) _).mono ?_
 rintro e w5 hg
 obtain⟨r5,NI,NJ,FQ,rfl⟩:=DJ (Cg hg)
 have GG:=hid hg
 have G5:=hid (G4.out.below hg.1)
 have L5:=hid (L4.out.trans (hg.1.mono L4.out.size))
 have K5:=hid (show w.heap.size<=_/\b1<_ from⟨L4.out.size,G4.out.lt⟩)
 clear hg
 go_wp2_with (first
  |(refine AQ (r:=r5) (to:=NI) (e:=NJ) (bad:=FQ) rfl (.tmp 6) (.tmp 41) rfl rfl rfl G5.out ?_;intro w9 p9 l9 z9))
 refine Av rfl rfl p9 rfl ?_
 exact Cm (Cg GG.out) (Ah L5.out l9 HB.out.1) l9 K5.out.1 K5.out.2
theorem Vt (hat:at_<s.size) (hs:s.size<=900) (hc:s[at_]=40) (hd:deep<64) {p:Piece} {to:Nat} (hto:to<s.size) (hC: ∀w,Calls Tryz.prog 47 #[.string s,.int .i64 ((at_+1:Nat):Int),.int .i64 ((deep+1:Nat):Int)] w (Df w (.ok p to))):
    Calls Tryz.prog 136 #[.string s,.int .i64 at_,.int .i64 deep] w (Df w (.ok p (to+1))):=by
 have h2:(at_:Int)<(s.size:Int):=by omega
 have hw1:wrap64 ((at_:Int)+1)=((at_+1:Nat):Int):=by unfold wrap64;omega
 have hw2:wrap64 ((at_:Int)+2)=((at_+2:Nat):Int):=by unfold wrap64;omega
 have t40:((s[at_].toNat:Int)==40)=true:=FU hc
 have n40:((s[at_].toNat:Int) !=40)=false:=by show(!((s[at_].toNat:Int)==40))=false;rw[t40];rfl
 have td:((deep:Int)==64)=false:=by simpa using (by omega: ¬(deep:Int)=64)
 have hw3:wrap64 ((deep:Int)+1)=((deep+1:Nat):Int):=by unfold wrap64;omega
 have HC:=hid hC
 clear hc hC hd
 have ti:=CY (show¬to=s.size by omega)
 have hw4:wrap64 ((to:Int)+1)=((to+1:Nat):Int):=by unfold wrap64;omega
 clear hto
 go_enter Tryz.func136,Tryz.ntmps136
 go_wp2_with (first|(refine Ab rfl rfl ?_;intro w1 b1 e1 p1 l1 z1;have G1:=hid p1;have L1:=hid l1;have HB:=hid (show w.heap.size<=b1/\b1<w1.heap.size from⟨by omega,by omega⟩);clear e1 p1 l1 z1))
 refine(HC.out _).mono ?_
 rintro e w2 ⟨l2,r,rfl,hp⟩
 have A2:=hid hp
 clear hp
 have G2:=hid (G1.out.below l2)
 have L2:=hid (L1.out.trans (l2.mono L1.out.size))
 have HB2:=hid (show b1<w2.heap.size from Nat.lt_of_lt_of_le HB.out.2 l2.size)
 clear l2
 go_upto_region 6 with(first
  |(refine Ab rfl rfl ?_;intro w3 b3 e3 p3 l3 z3)
  |(refine AQ (r:=r) (to:=(to:Int)) (e:=0) (bad:=0) rfl (.tmp 8) (.tmp 28) rfl rfl rfl p3 ?_;intro w4 p4 l4 z4;have Eu:=hid (AY l3 l4 e3);have G4:=hid (G2.out.below Eu.out);have Q4:=hid p4;have Jv:=hid (show w2.heap.size=b3 from e3);have L4:=hid (L2.out.trans (Eu.out.mono L2.out.size));have q5:=p4.c5;have q6:=p4.c6;have f5:=p4.free 5;clear e3 p3 l3 z3 p4 l4 z4))
 have mY:=hid (show b3≠b1 by have:=Jv.out;have:=HB2.out;omega)
 have BS:Hid (∀v,Beside b3 w4 (w4.setCell ⟨b3,5,none⟩ (.int .i64 v))):=fun v=>BH _ _ _ _
 have Q5:=hid (Q4.out.put (((to+1:Nat):Int)))
 have G5:=hid (G4.out.beside (BS.out (((to+1:Nat):Int))) mY.out.symm)
 have L5:=hid (Ah L4.out (BS.out (((to+1:Nat):Int))) (by rw[<-Jv.out];exact L2.out.size))
 have xJ:=hid (Ah Eu.out (BS.out (((to+1:Nat):Int))) (by rw[<-Jv.out];exact Nat.le_refl _))
 go_wp2_with (first
  |(refine He rfl (.tmp 8) rfl rfl Q5.out ?_)
  |(refine AQ (r:=r) (to:=((to+1:Nat):Int)) (e:=0) (bad:=0) rfl (.tmp 6) (.tmp 46) rfl rfl rfl G5.out ?_;intro w9 p9 l9 z9))
 refine Av rfl rfl p9 rfl ⟨Ah L5.out l9 HB.out.1,?_⟩
 refine⟨r,rfl,A2.out.keep (fun _ q=>⟨Nat.le_trans L1.out.size q.1,Nat.lt_of_lt_of_le q.2 (by rw[z9];exact xJ.out.size)⟩) (fun a q=>AO ((l9.block _ (Nat.lt_of_lt_of_le q.2 xJ.out.size) (fun e=>Nat.lt_irrefl _ (Nat.lt_of_lt_of_le (e▸HB.out.2) q.1))).trans (xJ.out.block _ q.2)))⟩
theorem R9 (hat:at_<s.size) (hs:s.size<=900) (hc:s[at_]=91) {F:Nat->Bool} {n:Nat} {er:Int} (hR:Ew.parse (s.data.toList.drop at_)=(F,n,er)) (hP: ∀w,Calls Tryz.prog 154 #[.string (s.extract at_ s.size)] w (FD.ET w (Ew.parse (s.data.toList.drop at_)))) (he:er≠0):
    Calls Tryz.prog 136 #[.string s,.int .i64 at_,.int .i64 deep] w (Df w (.bad at_ er)):=by
 have h2:(at_:Int)<(s.size:Int):=by omega
 have hw1:wrap64 ((at_:Int)+1)=((at_+1:Nat):Int):=by unfold wrap64;omega
 have hw2:wrap64 ((at_:Int)+2)=((at_+2:Nat):Int):=by unfold wrap64;omega
 have t40:((s[at_].toNat:Int)==40)=false:=Ce (show¬s[at_]=40 by rw[hc];decide)
 have n40:((s[at_].toNat:Int) !=40)=true:=by show(!((s[at_].toNat:Int)==40))=true;rw[t40];rfl
 have t91:((s[at_].toNat:Int)==91)=true:=FU hc
 have n91:((s[at_].toNat:Int) !=91)=false:=by show(!((s[at_].toNat:Int)==91))=false;rw[t91];rfl
 rw[hR]at hP
 have HC:=hid hP
 have h3:(at_:Int)<=(s.size:Int):=by omega
 have hle:=MO (s:=s.data.toList.drop at_)
 rw[hR,List.length_drop,<-Lib.size_eq]at hle
 simp only at hle
 clear hc hP hR
 have HE:=hid he
 have te:(er !=0)=true:=by simpa using he
 clear hle he
 go_enter Tryz.func136,Tryz.ntmps136
 go_wp2_with (first|(refine Ab rfl rfl ?_;intro w1 b1 e1 p1 l1 z1;have G1:=hid p1;have L1:=hid l1;have HB:=hid (show w.heap.size<=b1/\b1<w1.heap.size from⟨by omega,by omega⟩);clear e1 p1 l1 z1))
 refine(HC.out _).mono ?_
 rintro e w2 ⟨rfl,l2⟩
 have G2:=hid (G1.out.below l2)
 have L2:=hid (L1.out.trans (l2.mono L1.out.size))
 clear l2
 go_wp2_with fail
 refine(Bj at_ er HE.out _).mono ?_
 rintro e w5 hg
 obtain⟨r5,NI,NJ,FQ,rfl⟩:=DJ (Cg hg)
 have GG:=hid hg
 have G5:=hid (G2.out.below hg.1)
 have L5:=hid (L2.out.trans (hg.1.mono L2.out.size))
 have K5:=hid (show w.heap.size<=_/\b1<_ from⟨L2.out.size,G2.out.lt⟩)
 clear hg
 go_wp2_with (first
  |(refine AQ (r:=r5) (to:=NI) (e:=NJ) (bad:=FQ) rfl (.tmp 6) (.tmp 61) rfl rfl rfl G5.out ?_;intro w9 p9 l9 z9))
 refine Av rfl rfl p9 rfl ?_
 exact Cm (Cg GG.out) (Ah L5.out l9 HB.out.1) l9 K5.out.1 K5.out.2
theorem TY (hat:at_<s.size) (hs:s.size<=900) (hc:s[at_]=91) {F:Nat->Bool} {n:Nat} {er:Int} (hR:Ew.parse (s.data.toList.drop at_)=(F,n,er)) (hP: ∀w,Calls Tryz.prog 154 #[.string (s.extract at_ s.size)] w (FD.ET w (Ew.parse (s.data.toList.drop at_)))) (he:er=0):
    Calls Tryz.prog 136 #[.string s,.int .i64 at_,.int .i64 deep] w (Df w (.ok (leaf 4 (txt F)) (at_+n))):=by
 have h2:(at_:Int)<(s.size:Int):=by omega
 have hw1:wrap64 ((at_:Int)+1)=((at_+1:Nat):Int):=by unfold wrap64;omega
 have hw2:wrap64 ((at_:Int)+2)=((at_+2:Nat):Int):=by unfold wrap64;omega
 have t40:((s[at_].toNat:Int)==40)=false:=Ce (show¬s[at_]=40 by rw[hc];decide)
 have n40:((s[at_].toNat:Int) !=40)=true:=by show(!((s[at_].toNat:Int)==40))=true;rw[t40];rfl
 have t91:((s[at_].toNat:Int)==91)=true:=FU hc
 have n91:((s[at_].toNat:Int) !=91)=false:=by show(!((s[at_].toNat:Int)==91))=false;rw[t91];rfl
 rw[hR]at hP
 have HC:=hid hP
 have h3:(at_:Int)<=(s.size:Int):=by omega
 have hle:=MO (s:=s.data.toList.drop at_)
 rw[hR,List.length_drop,<-Lib.size_eq]at hle
 simp only at hle
 clear hc hP hR
 subst he
 have hn:=(hle rfl).1
 have hw3:wrap64 ((at_:Int)+(n:Int))=((at_+n:Nat):Int):=by unfold wrap64;omega
 clear hle hn
 go_enter Tryz.func136,Tryz.ntmps136
 go_wp2_with (first|(refine Ab rfl rfl ?_;intro w1 b1 e1 p1 l1 z1;have G1:=hid p1;have L1:=hid l1;have HB:=hid (show w.heap.size<=b1/\b1<w1.heap.size from⟨by omega,by omega⟩);clear e1 p1 l1 z1))
 refine(HC.out _).mono ?_
 rintro e w2 ⟨rfl,l2⟩
 have G2:=hid (G1.out.below l2)
 have L2:=hid (L1.out.trans (l2.mono L1.out.size))
 clear l2
 go_wp2_with fail
 refine(DU 4 (txt F) (at_+n) _).mono ?_
 rintro e w5 hg
 obtain⟨r5,NI,NJ,FQ,rfl⟩:=DJ (Cg hg)
 have GG:=hid hg
 have G5:=hid (G2.out.below hg.1)
 have L5:=hid (L2.out.trans (hg.1.mono L2.out.size))
 have K5:=hid (show w.heap.size<=_/\b1<_ from⟨L2.out.size,G2.out.lt⟩)
 clear hg
 go_wp2_with (first
  |(refine AQ (r:=r5) (to:=NI) (e:=NJ) (bad:=FQ) rfl (.tmp 6) (.tmp 66) rfl rfl rfl G5.out ?_;intro w9 p9 l9 z9))
 refine Av rfl rfl p9 rfl ?_
 exact Cm (Cg GG.out) (Ah L5.out l9 HB.out.1) l9 K5.out.1 K5.out.2
end
end W14
namespace W14
open Strs Al Cj
open BU (Beside)
open Kit (below_draws on)
section
variable {R:Nat->Nat->Option Dg} {S:List UInt8} {deep k at_:Nat} {acc:List Piece} {g:Dg}
theorem rowsL_no {q:Nat} {er:Int} (hp:row R S deep (S.length+1) at_ []=some (.bad q er)) (hr:Dx R S deep (k+1) at_ acc=some g):g= .bad q er:=by
 unfold Dx at hr
 rw[hp]at hr
 injection hr with hr
 exact hr.symm
theorem rowsL_fin {p:Piece} {to:Nat} (hp:row R S deep (S.length+1) at_ []=some (.ok p to)) (ht:to=S.length\/S.getD to 0≠124) (hr:Dx R S deep (k+1) at_ acc=some g):g= .ok (together 8 (acc++ [p])) to:=by
 unfold Dx at hr
 rw[hp]at hr
 simp only at hr
 rw[if_pos ht]at hr
 injection hr with hr
 exact hr.symm
end
section
variable {w:World} {s:ByteArray} {at_ deep:Nat}
theorem refRows_any {R:Nat->Nat->Option Dg} (hA: ∀a,at_<=a->a<s.size->Pp R s a deep) (hF:deep≠64-> ∀to,at_<to->to<=s.size-> ∃g,R to (deep+1)=some g/\GN s.data.toList to g) (hat:at_<=s.size) (hs:s.size<=900) {g:Dg} (hg:Dx R s.data.toList deep (s.data.toList.length+1) at_ []=some g):
    Calls Tryz.prog 47 #[.string s,.int .i64 at_,.int .i64 deep] w (Df w g):=by
 have hlen:s.data.toList.length=s.size:=(Lib.size_eq s).symm
 have HG:=hid hg
 have HA:=hid hA
 have HF:=hid hF
 have HLEN:=hid hlen
 have HS:=hid hs
 have HAT:=hid hat
 clear hg hA hF hlen hs hat
 go_enter Tryz.func47,Tryz.ntmps47
 go_wp2_with (first|(refine Ab rfl rfl ?_;intro w1 b1 e1 p1 l1 z1))
 have G1:=hid p1
 have L1:=hid l1
 have HB:=hid (show w.heap.size<=b1/\b1<w1.heap.size from⟨by omega,by omega⟩)
 clear e1 p1 l1 z1
 go_loopg [1,7] s.size (fun gk s1 s7 wr=> ∃(a:Nat) (acc:List Piece),s1= .int .i64 a/\Hid (at_<=a/\a<=s.size/\acc.length<=a)/\Hid (Dx R s.data.toList deep (gk+1) a acc=some g)/\Hid (Build 56 w1.heap.size wr s7 acc)/\Hid (Cq wr b1 Af 0 0 0)/\Hid (Below w.heap.size w wr)/\Hid (w1.heap.size<=wr.heap.size))
 case atStart=>
  refine⟨at_,[],rfl,⟨Nat.le_refl _,HAT.out,Nat.zero_le _⟩,?_,Build.nil _ _ _,G1,L1,Nat.le_refl _⟩
  show Dx R _ _ _ _ _=_
  rw[<-HLEN.out];exact HG.out
 case round=>
  obtain⟨a,acc,rfl,ha,hrow,hbuild,Ee,hbel,hsz⟩:=hrel
  obtain⟨g0,hg0,hf0⟩:=MP (R:=R) (S:=s.data.toList) (deep:=deep) (lo:=a) (by rw[HLEN.out];exact HS.out) (fun hd to h1 h2=>HF.out hd to (Nat.lt_of_le_of_lt ha.out.1 h1) (by rw[HLEN.out]at h2;exact h2)) (s.data.toList.length+1) a [] (Nat.le_refl _) (by rw[HLEN.out];exact ha.out.2.1) (by have:=HLEN.out;omega) (Nat.zero_le _) (by simp)
  have HC:=hid (fun w=>Z7 (w:=w) (fun b h1 h2=>HA.out b (Nat.le_trans ha.out.1 h1) h2) ha.out.2.1 HS.out hg0)
  obtain⟨A,c,rfl,hA1,hA2⟩:=hbuild.out.len
  unfold maxLen at hA2
  rcases g0 with⟨p,to⟩|⟨qb,er⟩
  rotate_left
  ·have HX:=hid (rowsL_no hg0 hrow.out)
   clear hg0 hf0 hrow
   go_wp2_with fail
   refine(HC.out _).mono ?_
   rintro e w4 ⟨l4,he,tq,rfl⟩
   have G4:=hid (Ee.out.below l4)
   have L4:=hid (hbel.out.trans (l4.mono hbel.out.size))
   have te:(er !=0)=true:=by simpa using he
   have HE:=hid he
   clear l4 he
   go_wp2_with (first
    |(refine Ab rfl rfl ?_;intro w5 b3 e5 p5 l5 z5)
    |(refine AQ (r:=Af) (to:=tq) (e:=er) (bad:=(qb:Int)) rfl (.tmp 8) (.tmp 12) rfl rfl rfl p5 ?_;intro w6 p6 l6 z6;have L6:=hid (AY l5 l6 e5);have G6:=hid (G4.out.below L6.out);have ve:=hid (L4.out.trans (L6.out.mono L4.out.size));have Q6:=hid p6;have k6:=p6.c6;clear e5 p5 l5 z5 p6 l6 z6)
    |(refine He rfl (.tmp 8) rfl rfl Q6.out ?_)
    |(refine AQ (r:=Af) (to:=tq) (e:=er) (bad:=(qb:Int)) rfl (.tmp 6) (.tmp 16) rfl rfl rfl G6.out ?_;intro w9 p9 l9 z9))
   refine Av rfl rfl p9 rfl ?_
   rw[HX.out]
   exact⟨Ah ve.out l9 HB.out.1,HE.out,tq,rfl⟩
  have V6:Hid (a<=to/\to<=s.size/\(acc++ [p]).length<=to+1/\acc.length<=1000000):=by
    have h1:=hf0.1
    have h2:=hf0.2.1
    have h3:=HLEN.out
    have h4:=ha.out
    have h5:=HS.out
    refine⟨by omega,by omega,?_,by omega⟩
    rw[List.length_append]
    show acc.length+1<=to+1
    omega
  by_cases hlt:to<s.size
  ·have hlt2:(to:Int)<(s.size:Int):=by omega
   have ti:=CY (show¬to=s.size by omega)
   have hga:=Hf hlt
   by_cases Fa:s[to]=124
   ·have t124:((s[to].toNat:Int)==124)=true:=FU Fa
    have n124:((s[to].toNat:Int) !=124)=false:=by show(!((s[to].toNat:Int)==124))=false;rw[t124];rfl
    have hno: ¬(to=s.data.toList.length\/s.data.toList.getD to 0≠124):=by
     rintro(q|q)
     ·rw[HLEN.out]at q;omega
     exact q (by rw[hga];exact Fa)
    have kL:=hid (Xm hg0 hno hrow.out)
    have hw:wrap64 ((to:Int)+1)=((to+1:Nat):Int):=by have:=HS.out;unfold wrap64;omega
    have HT2:=hid (show at_<=to+1/\to+1<=s.size/\(acc++ [p]).length<=to+1 from⟨Nat.le_succ_of_le (Nat.le_trans ha.out.1 V6.out.1),hlt,V6.out.2.2.1⟩)
    clear hno Fa hga hg0 hf0 hrow
    go_wp2_with fail
    refine(HC.out _).mono ?_
    rintro e w4 ⟨l4,r,rfl,hp⟩
    have G4:=hid (Ee.out.below l4)
    have U4:=hid (hbuild.out.below l4)
    have L4:=hid (hbel.out.trans (l4.mono hbel.out.size))
    have A4:=hid hp
    have Z4:=hid l4.size
    clear l4 hp
    go_upto_region 6 with(first
     |(refine Ab rfl rfl ?_;intro w5 b3 e5 p5 l5 z5)
     |(refine AQ (r:=r) (to:=((to:Nat):Int)) (e:=0) (bad:=0) rfl (.tmp 8) (.tmp 12) rfl rfl rfl p5 ?_;intro w6 p6 l6 z6;have L6:=hid (AY l5 l6 e5);have Q6:=hid p6;have k5:=p6.c5;have k6:=p6.c6;have ZB:=hid (show wr.heap.size<=b3 from e5▸Z4.out);clear e5 p5 l5 z5 p6 l6 z6)
     |(refine Aq rfl (.tmp 18) rfl rfl (r:=r) (fun j hj=>Q6.out.raw j hj) ?_)
     |(refine B_ rfl (.tmp 19) rfl (r:=r) rfl ?_;intro w7 b7 e7 r7 l7 z7;have L7:=hid (L6.out.trans (l7.mono L6.out.size));have U7:=hid (U4.out.below L7.out);have A7:=hid (A4.out.CP L7.out);have Q7:=hid (Q6.out.below l7);have R7:=hid r7;clear e7 r7 l7 z7 k5 k6)
     |(refine Eb rfl (.tmp 17) (.tmp 20) rfl rfl rfl U7.out hbuild.out.LH hsz.out (Nat.le_trans hsz.out (Nat.le_trans Z4.out L7.out.size)) R7.out A7.out V6.out.2.2.2 ?_;intro v' w8 U8 g8;have HU:=hid U8;have G8:=hid (KZ U7.out g8 HB.out.2 (G4.out.below L7.out));have L8:=hid (IA U7.out g8 L1.out.size (L4.out.trans (L7.out.mono L4.out.size)));have Z8:Hid (w1.heap.size<=w8.heap.size):=(by obtain⟨_,_,_,g,_⟩:=g8;exact Nat.le_trans hsz.out (Nat.le_trans Z4.out (Nat.le_trans L7.out.size g)));have kk:=JW U7.out g8 Q7.out hbuild.out ZB.out;clear U8 g8))
    clear R7 Q7 A7 U7 L7 Q6 L6 A4 U4 L4 G4 hbuild Ee hbel hsz Z4 ZB
    cases gk with
    |zero=>exact absurd kL.out (by simp[Dx])
    |succ Lf=>
     go_wp2_with fail
     go_roundg Lf
     case measure=>exact Nat.lt_succ_self _
     case rel=>exact⟨to+1,acc++ [p],congrArg (Value.int .i64) hw,HT2,kL,HU,G8,L8,Z8⟩
   have t124:((s[to].toNat:Int)==124)=false:=Ce Fa
   have n124:((s[to].toNat:Int) !=124)=true:=by show(!((s[to].toNat:Int)==124))=true;rw[t124];rfl
   have HX:=hid (rowsL_fin hg0 (.inr (by rw[hga];exact Fa)) hrow.out)
   clear Fa hga hg0 hf0 hrow
   go_wp2_with fail
   refine(HC.out _).mono ?_
   rintro e w4 ⟨l4,r,rfl,hp⟩
   have G4:=hid (Ee.out.below l4)
   have U4:=hid (hbuild.out.below l4)
   have L4:=hid (hbel.out.trans (l4.mono hbel.out.size))
   have A4:=hid hp
   have Z4:=hid l4.size
   clear l4 hp
   go_upto_region 6 with(first
    |(refine Ab rfl rfl ?_;intro w5 b3 e5 p5 l5 z5)
    |(refine AQ (r:=r) (to:=((to:Nat):Int)) (e:=0) (bad:=0) rfl (.tmp 8) (.tmp 12) rfl rfl rfl p5 ?_;intro w6 p6 l6 z6;have L6:=hid (AY l5 l6 e5);have Q6:=hid p6;have k5:=p6.c5;have k6:=p6.c6;have ZB:=hid (show wr.heap.size<=b3 from e5▸Z4.out);clear e5 p5 l5 z5 p6 l6 z6)
    |(refine Aq rfl (.tmp 18) rfl rfl (r:=r) (fun j hj=>Q6.out.raw j hj) ?_)
    |(refine B_ rfl (.tmp 19) rfl (r:=r) rfl ?_;intro w7 b7 e7 r7 l7 z7;have L7:=hid (L6.out.trans (l7.mono L6.out.size));have U7:=hid (U4.out.below L7.out);have A7:=hid (A4.out.CP L7.out);have Q7:=hid (Q6.out.below l7);have R7:=hid r7;clear e7 r7 l7 z7 k5 k6)
    |(refine Eb rfl (.tmp 17) (.tmp 20) rfl rfl rfl U7.out hbuild.out.LH hsz.out (Nat.le_trans hsz.out (Nat.le_trans Z4.out L7.out.size)) R7.out A7.out V6.out.2.2.2 ?_;intro v' w8 U8 g8;have HU:=hid U8;have G8:=hid (KZ U7.out g8 HB.out.2 (G4.out.below L7.out));have L8:=hid (IA U7.out g8 L1.out.size (L4.out.trans (L7.out.mono L4.out.size)));have Z8:Hid (w1.heap.size<=w8.heap.size):=(by obtain⟨_,_,_,g,_⟩:=g8;exact Nat.le_trans hsz.out (Nat.le_trans Z4.out (Nat.le_trans L7.out.size g)));have kk:=JW U7.out g8 Q7.out hbuild.out ZB.out;clear U8 g8))
   clear R7 Q7 A7 U7 L7 Q6 L6 A4 U4 L4 G4 hbuild Ee hbel hsz Z4 ZB
   match acc,HU,HX with
   | [],HU,HX=>
    obtain⟨g1,c1,r1,rfl,hc1,hcell,hp⟩:=I9 (show Build 56 w1.heap.size w8 v' [p]from HU.out)
    have hA2:=hc1.out.2
    have hA1:=hc1.out.1
    unfold maxLen at hA2
    go_wp2_with (first
     |(refine Aq rfl (.tmp 40) rfl rfl (r:=r1) hcell.out ?_)
     |(refine Cc (r:=r1) rfl (.tmp 41) (.tmp 42) rfl rfl rfl ?_)
     |(refine AQ (r:=r1) (to:=((to:Nat):Int)) (e:=0) (bad:=0) rfl (.tmp 6) (.tmp 43) rfl rfl rfl G8.out ?_;intro w9 p9 l9 z9))
    refine Av rfl rfl p9 rfl ?_
    rw[HX.out]
    exact⟨Ah L8.out l9 HB.out.1,r1,rfl,(hp.out.Bg l9 HB.out.2).Cs L1.out.size⟩
   |q::l,HU,HX=>
    obtain⟨A1,c1,rfl,hc1,hp⟩:=Hl 8 HU.out (by simp)
    have hA2:=hc1.out.2
    unfold maxLen at hA2
    have HN:Hid ((q::l++ [p]).length<=901):=by have:=V6.out;have:=HS.out;show _<=_;omega
    have t1:(((q::l++ [p]).length:Int)==1)=false:=by simpa using (by omega: ¬((l.length:Int)+1+1=1))
    have v_:=hid (show together 8 (q::l++ [p])= .mk 8 ⟨#[]⟩ (q::l++ [p]) 0 0 by cases l<;>rfl)
    obtain⟨M,hM⟩: ∃M,q::l++ [p]=M:=⟨_,rfl⟩
    rw[hM]at t1 hp HN v_ HX ⊢
    obtain⟨n,hn⟩: ∃n,M.length=n:=⟨_,rfl⟩
    rw[hn]at t1 hp HN ⊢
    clear hn hM HU hc1 V6
    go_wp2_with (first
     |(refine Cc (r:=⟨8,⟨#[]⟩,A1,n,c1,0,0⟩) rfl (.tmp 45) (.tmp 46) rfl rfl rfl ?_)
     |(refine AQ (r:=⟨8,⟨#[]⟩,A1,n,c1,0,0⟩) (to:=((to:Nat):Int)) (e:=0) (bad:=0) rfl (.tmp 6) (.tmp 47) rfl rfl rfl G8.out ?_;intro w9 p9 l9 z9))
    refine Av rfl rfl p9 rfl ?_
    rw[HX.out,v_.out]
    exact⟨Ah L8.out l9 HB.out.1,_,rfl,(hp.out.Bg l9 HB.out.2).Cs L1.out.size⟩
  have ti:=Hw (show to=s.size by have:=V6.out;omega)
  have HX:=hid (rowsL_fin hg0 (.inl (by have:=V6.out;rw[HLEN.out];omega)) hrow.out)
  clear hg0 hf0 hrow hlt
  go_wp2_with fail
  refine(HC.out _).mono ?_
  rintro e w4 ⟨l4,r,rfl,hp⟩
  have G4:=hid (Ee.out.below l4)
  have U4:=hid (hbuild.out.below l4)
  have L4:=hid (hbel.out.trans (l4.mono hbel.out.size))
  have A4:=hid hp
  have Z4:=hid l4.size
  clear l4 hp
  go_upto_region 6 with(first
   |(refine Ab rfl rfl ?_;intro w5 b3 e5 p5 l5 z5)
   |(refine AQ (r:=r) (to:=((to:Nat):Int)) (e:=0) (bad:=0) rfl (.tmp 8) (.tmp 12) rfl rfl rfl p5 ?_;intro w6 p6 l6 z6;have L6:=hid (AY l5 l6 e5);have Q6:=hid p6;have k5:=p6.c5;have k6:=p6.c6;have ZB:=hid (show wr.heap.size<=b3 from e5▸Z4.out);clear e5 p5 l5 z5 p6 l6 z6)
   |(refine Aq rfl (.tmp 18) rfl rfl (r:=r) (fun j hj=>Q6.out.raw j hj) ?_)
   |(refine B_ rfl (.tmp 19) rfl (r:=r) rfl ?_;intro w7 b7 e7 r7 l7 z7;have L7:=hid (L6.out.trans (l7.mono L6.out.size));have U7:=hid (U4.out.below L7.out);have A7:=hid (A4.out.CP L7.out);have Q7:=hid (Q6.out.below l7);have R7:=hid r7;clear e7 r7 l7 z7 k5 k6)
   |(refine Eb rfl (.tmp 17) (.tmp 20) rfl rfl rfl U7.out hbuild.out.LH hsz.out (Nat.le_trans hsz.out (Nat.le_trans Z4.out L7.out.size)) R7.out A7.out V6.out.2.2.2 ?_;intro v' w8 U8 g8;have HU:=hid U8;have G8:=hid (KZ U7.out g8 HB.out.2 (G4.out.below L7.out));have L8:=hid (IA U7.out g8 L1.out.size (L4.out.trans (L7.out.mono L4.out.size)));have Z8:Hid (w1.heap.size<=w8.heap.size):=(by obtain⟨_,_,_,g,_⟩:=g8;exact Nat.le_trans hsz.out (Nat.le_trans Z4.out (Nat.le_trans L7.out.size g)));have kk:=JW U7.out g8 Q7.out hbuild.out ZB.out;clear U8 g8))
  clear R7 Q7 A7 U7 L7 Q6 L6 A4 U4 L4 G4 hbuild Ee hbel hsz Z4 ZB
  match acc,HU,HX with
  | [],HU,HX=>
   obtain⟨g1,c1,r1,rfl,hc1,hcell,hp⟩:=I9 (show Build 56 w1.heap.size w8 v' [p]from HU.out)
   have hA2:=hc1.out.2
   have hA1:=hc1.out.1
   unfold maxLen at hA2
   go_wp2_with (first
    |(refine Aq rfl (.tmp 40) rfl rfl (r:=r1) hcell.out ?_)
    |(refine Cc (r:=r1) rfl (.tmp 41) (.tmp 42) rfl rfl rfl ?_)
    |(refine AQ (r:=r1) (to:=((to:Nat):Int)) (e:=0) (bad:=0) rfl (.tmp 6) (.tmp 43) rfl rfl rfl G8.out ?_;intro w9 p9 l9 z9))
   refine Av rfl rfl p9 rfl ?_
   rw[HX.out]
   exact⟨Ah L8.out l9 HB.out.1,r1,rfl,(hp.out.Bg l9 HB.out.2).Cs L1.out.size⟩
  |q::l,HU,HX=>
   obtain⟨A1,c1,rfl,hc1,hp⟩:=Hl 8 HU.out (by simp)
   have hA2:=hc1.out.2
   unfold maxLen at hA2
   have HN:Hid ((q::l++ [p]).length<=901):=by have:=V6.out;have:=HS.out;show _<=_;omega
   have t1:(((q::l++ [p]).length:Int)==1)=false:=by simpa using (by omega: ¬((l.length:Int)+1+1=1))
   have v_:=hid (show together 8 (q::l++ [p])= .mk 8 ⟨#[]⟩ (q::l++ [p]) 0 0 by cases l<;>rfl)
   obtain⟨M,hM⟩: ∃M,q::l++ [p]=M:=⟨_,rfl⟩
   rw[hM]at t1 hp HN v_ HX ⊢
   obtain⟨n,hn⟩: ∃n,M.length=n:=⟨_,rfl⟩
   rw[hn]at t1 hp HN ⊢
   clear hn hM HU hc1 V6
   go_wp2_with (first
    |(refine Cc (r:=⟨8,⟨#[]⟩,A1,n,c1,0,0⟩) rfl (.tmp 45) (.tmp 46) rfl rfl rfl ?_)
    |(refine AQ (r:=⟨8,⟨#[]⟩,A1,n,c1,0,0⟩) (to:=((to:Nat):Int)) (e:=0) (bad:=0) rfl (.tmp 6) (.tmp 47) rfl rfl rfl G8.out ?_;intro w9 p9 l9 z9))
   refine Av rfl rfl p9 rfl ?_
   rw[HX.out,v_.out]
   exact⟨Ah L8.out l9 HB.out.1,_,rfl,(hp.out.Bg l9 HB.out.2).Cs L1.out.size⟩
end
end W14
end Go.Proofs.YtfgegjinhkgpbaaGreatDoor
