/-
  Texts joined, in build order, each with its own comment and its own conditions: W14RefAtom.
-/
import Derived.Test.YtfgegjinhkgpbaaGreatDoorJ22
import Derived.Test.YtfgegjinhkgpbaaGreatDoorJ16
import Derived.Test.YtfgegjinhkgpbaaGreatDoorJ23
import Derived.Deep.Cut
namespace Go.Proofs.YtfgegjinhkgpbaaGreatDoor
set_option maxHeartbeats 4000000
set_option maxRecDepth 100000
open Go.RowKit
open Lib (hid)
namespace W14
open Strs Recs M14
open Row256 (Beside)
open Kit (ba_ext below_draws on)
theorem chr_one {s:ByteArray} {i:Nat} (h:i<s.size):s.extract i (i+1)=chr s[i]:=by
 apply ba_ext
 rw[Kit.one_byte s i h];rfl
theorem gots_l {w w':World} {g:Got} {e:Ending} (h:Gots w g e w'):GotsL w.heap.size w g e w':=h
theorem slice_run {s:ByteArray} {i j:Nat} (h1:(i:Int)≤(j:Int)) (h2:(j:Int)≤(s.size:Int)) (W:World):(Instr.slice 9 (.string s) (some (.int .i64 (i:Int))) (some (.int .i64 (j:Int))) none).run Tryz.prog W= .ok (.string (s.extract i j)) W:=by
 have h3:(0:Int)≤(i:Int):=by omega
 have h4:(0:Int)≤(j:Int):=by omega
 go_simp
section
variable {w:World} {s:ByteArray} {at_ deep:Nat}
theorem refAtom_point (hat:at_<s.size) (hs:s.size≤900) (hc:s[at_]=46):
    Calls Tryz.prog 136 #[.string s,.int .i64 at_,.int .i64 deep] w (Gots w (.ok (leaf 3 ⟨#[]⟩) (at_+1))):=by
 have h2:(at_:Int)<(s.size:Int):=by omega
 have hw1:wrap64 ((at_:Int)+1)=((at_+1:Nat):Int):=by unfold wrap64;omega
 have hw2:wrap64 ((at_:Int)+2)=((at_+2:Nat):Int):=by unfold wrap64;omega
 have t40:((s[at_].toNat:Int)==40)=false:=u8n (show¬s[at_]=40 by rw[hc];decide)
 have n40:((s[at_].toNat:Int) !=40)=true:=by show(!((s[at_].toNat:Int)==40))=true;rw[t40];rfl
 have t91:((s[at_].toNat:Int)==91)=false:=u8n (show¬s[at_]=91 by rw[hc];decide)
 have n91:((s[at_].toNat:Int) !=91)=true:=by show(!((s[at_].toNat:Int)==91))=true;rw[t91];rfl
 have t46:((s[at_].toNat:Int)==46)=true:=u8y hc
 have n46:((s[at_].toNat:Int) !=46)=false:=by show(!((s[at_].toNat:Int)==46))=false;rw[t46];rfl
 clear hc
 go_enter Tryz.func136,Tryz.ntmps136
 go_wp2_with (first|(refine alloc_got rfl rfl ?_;intro w1 b1 e1 p1 l1 z1;have G1:=hid p1;have L1:=hid l1;have HB:=hid (show w.heap.size≤b1∧b1<w1.heap.size from⟨by omega,by omega⟩);clear e1 p1 l1 z1))
 refine(refLeaf_any 3 ⟨#[]⟩ (at_+1) _).mono ?_
 rintro e w5 hg
 obtain⟨r5,to5,er5,bad5,rfl⟩:=got_form (gots_l hg)
 have GG:=hid hg
 have G5:=hid (G1.out.below hg.1)
 have L5:=hid (L1.out.trans (hg.1.mono L1.out.size))
 have K5:=hid (show w.heap.size≤_∧b1<_ from⟨L1.out.size,G1.out.lt⟩)
 clear hg
 go_wp2_with (first
  |(refine store_got (r:=r5) (to:=to5) (e:=er5) (bad:=bad5) rfl (.tmp 6) (.tmp 71) rfl rfl rfl G5.out ?_;intro w9 p9 l9 z9))
 refine end_got rfl rfl p9 rfl ?_
 exact gots_more (gots_l GG.out) (old_below L5.out l9 HB.out.1) l9 K5.out.1 K5.out.2
theorem refAtom_begin (hat:at_<s.size) (hs:s.size≤900) (hc:s[at_]=94):
    Calls Tryz.prog 136 #[.string s,.int .i64 at_,.int .i64 deep] w (Gots w (.ok (leaf 5 ⟨#[]⟩) (at_+1))):=by
 have h2:(at_:Int)<(s.size:Int):=by omega
 have hw1:wrap64 ((at_:Int)+1)=((at_+1:Nat):Int):=by unfold wrap64;omega
 have hw2:wrap64 ((at_:Int)+2)=((at_+2:Nat):Int):=by unfold wrap64;omega
 have t40:((s[at_].toNat:Int)==40)=false:=u8n (show¬s[at_]=40 by rw[hc];decide)
 have n40:((s[at_].toNat:Int) !=40)=true:=by show(!((s[at_].toNat:Int)==40))=true;rw[t40];rfl
 have t91:((s[at_].toNat:Int)==91)=false:=u8n (show¬s[at_]=91 by rw[hc];decide)
 have n91:((s[at_].toNat:Int) !=91)=true:=by show(!((s[at_].toNat:Int)==91))=true;rw[t91];rfl
 have t46:((s[at_].toNat:Int)==46)=false:=u8n (show¬s[at_]=46 by rw[hc];decide)
 have n46:((s[at_].toNat:Int) !=46)=true:=by show(!((s[at_].toNat:Int)==46))=true;rw[t46];rfl
 have t94:((s[at_].toNat:Int)==94)=true:=u8y hc
 have n94:((s[at_].toNat:Int) !=94)=false:=by show(!((s[at_].toNat:Int)==94))=false;rw[t94];rfl
 clear hc
 go_enter Tryz.func136,Tryz.ntmps136
 go_wp2_with (first|(refine alloc_got rfl rfl ?_;intro w1 b1 e1 p1 l1 z1;have G1:=hid p1;have L1:=hid l1;have HB:=hid (show w.heap.size≤b1∧b1<w1.heap.size from⟨by omega,by omega⟩);clear e1 p1 l1 z1))
 refine(refLeaf_any 5 ⟨#[]⟩ (at_+1) _).mono ?_
 rintro e w5 hg
 obtain⟨r5,to5,er5,bad5,rfl⟩:=got_form (gots_l hg)
 have GG:=hid hg
 have G5:=hid (G1.out.below hg.1)
 have L5:=hid (L1.out.trans (hg.1.mono L1.out.size))
 have K5:=hid (show w.heap.size≤_∧b1<_ from⟨L1.out.size,G1.out.lt⟩)
 clear hg
 go_wp2_with (first
  |(refine store_got (r:=r5) (to:=to5) (e:=er5) (bad:=bad5) rfl (.tmp 6) (.tmp 76) rfl rfl rfl G5.out ?_;intro w9 p9 l9 z9))
 refine end_got rfl rfl p9 rfl ?_
 exact gots_more (gots_l GG.out) (old_below L5.out l9 HB.out.1) l9 K5.out.1 K5.out.2
theorem refAtom_stop (hat:at_<s.size) (hs:s.size≤900) (hc:s[at_]=36):
    Calls Tryz.prog 136 #[.string s,.int .i64 at_,.int .i64 deep] w (Gots w (.ok (leaf 6 ⟨#[]⟩) (at_+1))):=by
 have h2:(at_:Int)<(s.size:Int):=by omega
 have hw1:wrap64 ((at_:Int)+1)=((at_+1:Nat):Int):=by unfold wrap64;omega
 have hw2:wrap64 ((at_:Int)+2)=((at_+2:Nat):Int):=by unfold wrap64;omega
 have t40:((s[at_].toNat:Int)==40)=false:=u8n (show¬s[at_]=40 by rw[hc];decide)
 have n40:((s[at_].toNat:Int) !=40)=true:=by show(!((s[at_].toNat:Int)==40))=true;rw[t40];rfl
 have t91:((s[at_].toNat:Int)==91)=false:=u8n (show¬s[at_]=91 by rw[hc];decide)
 have n91:((s[at_].toNat:Int) !=91)=true:=by show(!((s[at_].toNat:Int)==91))=true;rw[t91];rfl
 have t46:((s[at_].toNat:Int)==46)=false:=u8n (show¬s[at_]=46 by rw[hc];decide)
 have n46:((s[at_].toNat:Int) !=46)=true:=by show(!((s[at_].toNat:Int)==46))=true;rw[t46];rfl
 have t94:((s[at_].toNat:Int)==94)=false:=u8n (show¬s[at_]=94 by rw[hc];decide)
 have n94:((s[at_].toNat:Int) !=94)=true:=by show(!((s[at_].toNat:Int)==94))=true;rw[t94];rfl
 have t36:((s[at_].toNat:Int)==36)=true:=u8y hc
 have n36:((s[at_].toNat:Int) !=36)=false:=by show(!((s[at_].toNat:Int)==36))=false;rw[t36];rfl
 clear hc
 go_enter Tryz.func136,Tryz.ntmps136
 go_wp2_with (first|(refine alloc_got rfl rfl ?_;intro w1 b1 e1 p1 l1 z1;have G1:=hid p1;have L1:=hid l1;have HB:=hid (show w.heap.size≤b1∧b1<w1.heap.size from⟨by omega,by omega⟩);clear e1 p1 l1 z1))
 refine(refLeaf_any 6 ⟨#[]⟩ (at_+1) _).mono ?_
 rintro e w5 hg
 obtain⟨r5,to5,er5,bad5,rfl⟩:=got_form (gots_l hg)
 have GG:=hid hg
 have G5:=hid (G1.out.below hg.1)
 have L5:=hid (L1.out.trans (hg.1.mono L1.out.size))
 have K5:=hid (show w.heap.size≤_∧b1<_ from⟨L1.out.size,G1.out.lt⟩)
 clear hg
 go_wp2_with (first
  |(refine store_got (r:=r5) (to:=to5) (e:=er5) (bad:=bad5) rfl (.tmp 6) (.tmp 81) rfl rfl rfl G5.out ?_;intro w9 p9 l9 z9))
 refine end_got rfl rfl p9 rfl ?_
 exact gots_more (gots_l GG.out) (old_below L5.out l9 HB.out.1) l9 K5.out.1 K5.out.2
theorem refAtom_no42 (hat:at_<s.size) (hs:s.size≤900) (hc:s[at_]=42):
    Calls Tryz.prog 136 #[.string s,.int .i64 at_,.int .i64 deep] w (Gots w (.bad at_ 3)):=by
 have h2:(at_:Int)<(s.size:Int):=by omega
 have hw1:wrap64 ((at_:Int)+1)=((at_+1:Nat):Int):=by unfold wrap64;omega
 have hw2:wrap64 ((at_:Int)+2)=((at_+2:Nat):Int):=by unfold wrap64;omega
 have t40:((s[at_].toNat:Int)==40)=false:=u8n (show¬s[at_]=40 by rw[hc];decide)
 have n40:((s[at_].toNat:Int) !=40)=true:=by show(!((s[at_].toNat:Int)==40))=true;rw[t40];rfl
 have t91:((s[at_].toNat:Int)==91)=false:=u8n (show¬s[at_]=91 by rw[hc];decide)
 have n91:((s[at_].toNat:Int) !=91)=true:=by show(!((s[at_].toNat:Int)==91))=true;rw[t91];rfl
 have t46:((s[at_].toNat:Int)==46)=false:=u8n (show¬s[at_]=46 by rw[hc];decide)
 have n46:((s[at_].toNat:Int) !=46)=true:=by show(!((s[at_].toNat:Int)==46))=true;rw[t46];rfl
 have t94:((s[at_].toNat:Int)==94)=false:=u8n (show¬s[at_]=94 by rw[hc];decide)
 have n94:((s[at_].toNat:Int) !=94)=true:=by show(!((s[at_].toNat:Int)==94))=true;rw[t94];rfl
 have t36:((s[at_].toNat:Int)==36)=false:=u8n (show¬s[at_]=36 by rw[hc];decide)
 have n36:((s[at_].toNat:Int) !=36)=true:=by show(!((s[at_].toNat:Int)==36))=true;rw[t36];rfl
 have t42:((s[at_].toNat:Int)==42)=true:=u8y hc
 have n42:((s[at_].toNat:Int) !=42)=false:=by show(!((s[at_].toNat:Int)==42))=false;rw[t42];rfl
 clear hc
 go_enter Tryz.func136,Tryz.ntmps136
 go_wp2_with (first|(refine alloc_got rfl rfl ?_;intro w1 b1 e1 p1 l1 z1;have G1:=hid p1;have L1:=hid l1;have HB:=hid (show w.heap.size≤b1∧b1<w1.heap.size from⟨by omega,by omega⟩);clear e1 p1 l1 z1))
 refine(refBad_any at_ 3 (by decide) _).mono ?_
 rintro e w5 hg
 obtain⟨r5,to5,er5,bad5,rfl⟩:=got_form (gots_l hg)
 have GG:=hid hg
 have G5:=hid (G1.out.below hg.1)
 have L5:=hid (L1.out.trans (hg.1.mono L1.out.size))
 have K5:=hid (show w.heap.size≤_∧b1<_ from⟨L1.out.size,G1.out.lt⟩)
 clear hg
 go_wp2_with (first
  |(refine store_got (r:=r5) (to:=to5) (e:=er5) (bad:=bad5) rfl (.tmp 6) (.tmp 97) rfl rfl rfl G5.out ?_;intro w9 p9 l9 z9))
 refine end_got rfl rfl p9 rfl ?_
 exact gots_more (gots_l GG.out) (old_below L5.out l9 HB.out.1) l9 K5.out.1 K5.out.2
theorem refAtom_no43 (hat:at_<s.size) (hs:s.size≤900) (hc:s[at_]=43):
    Calls Tryz.prog 136 #[.string s,.int .i64 at_,.int .i64 deep] w (Gots w (.bad at_ 3)):=by
 have h2:(at_:Int)<(s.size:Int):=by omega
 have hw1:wrap64 ((at_:Int)+1)=((at_+1:Nat):Int):=by unfold wrap64;omega
 have hw2:wrap64 ((at_:Int)+2)=((at_+2:Nat):Int):=by unfold wrap64;omega
 have t40:((s[at_].toNat:Int)==40)=false:=u8n (show¬s[at_]=40 by rw[hc];decide)
 have n40:((s[at_].toNat:Int) !=40)=true:=by show(!((s[at_].toNat:Int)==40))=true;rw[t40];rfl
 have t91:((s[at_].toNat:Int)==91)=false:=u8n (show¬s[at_]=91 by rw[hc];decide)
 have n91:((s[at_].toNat:Int) !=91)=true:=by show(!((s[at_].toNat:Int)==91))=true;rw[t91];rfl
 have t46:((s[at_].toNat:Int)==46)=false:=u8n (show¬s[at_]=46 by rw[hc];decide)
 have n46:((s[at_].toNat:Int) !=46)=true:=by show(!((s[at_].toNat:Int)==46))=true;rw[t46];rfl
 have t94:((s[at_].toNat:Int)==94)=false:=u8n (show¬s[at_]=94 by rw[hc];decide)
 have n94:((s[at_].toNat:Int) !=94)=true:=by show(!((s[at_].toNat:Int)==94))=true;rw[t94];rfl
 have t36:((s[at_].toNat:Int)==36)=false:=u8n (show¬s[at_]=36 by rw[hc];decide)
 have n36:((s[at_].toNat:Int) !=36)=true:=by show(!((s[at_].toNat:Int)==36))=true;rw[t36];rfl
 have t42:((s[at_].toNat:Int)==42)=false:=u8n (show¬s[at_]=42 by rw[hc];decide)
 have n42:((s[at_].toNat:Int) !=42)=true:=by show(!((s[at_].toNat:Int)==42))=true;rw[t42];rfl
 have t43:((s[at_].toNat:Int)==43)=true:=u8y hc
 have n43:((s[at_].toNat:Int) !=43)=false:=by show(!((s[at_].toNat:Int)==43))=false;rw[t43];rfl
 clear hc
 go_enter Tryz.func136,Tryz.ntmps136
 go_wp2_with (first|(refine alloc_got rfl rfl ?_;intro w1 b1 e1 p1 l1 z1;have G1:=hid p1;have L1:=hid l1;have HB:=hid (show w.heap.size≤b1∧b1<w1.heap.size from⟨by omega,by omega⟩);clear e1 p1 l1 z1))
 refine(refBad_any at_ 3 (by decide) _).mono ?_
 rintro e w5 hg
 obtain⟨r5,to5,er5,bad5,rfl⟩:=got_form (gots_l hg)
 have GG:=hid hg
 have G5:=hid (G1.out.below hg.1)
 have L5:=hid (L1.out.trans (hg.1.mono L1.out.size))
 have K5:=hid (show w.heap.size≤_∧b1<_ from⟨L1.out.size,G1.out.lt⟩)
 clear hg
 go_wp2_with (first
  |(refine store_got (r:=r5) (to:=to5) (e:=er5) (bad:=bad5) rfl (.tmp 6) (.tmp 97) rfl rfl rfl G5.out ?_;intro w9 p9 l9 z9))
 refine end_got rfl rfl p9 rfl ?_
 exact gots_more (gots_l GG.out) (old_below L5.out l9 HB.out.1) l9 K5.out.1 K5.out.2
theorem refAtom_no63 (hat:at_<s.size) (hs:s.size≤900) (hc:s[at_]=63):
    Calls Tryz.prog 136 #[.string s,.int .i64 at_,.int .i64 deep] w (Gots w (.bad at_ 3)):=by
 have h2:(at_:Int)<(s.size:Int):=by omega
 have hw1:wrap64 ((at_:Int)+1)=((at_+1:Nat):Int):=by unfold wrap64;omega
 have hw2:wrap64 ((at_:Int)+2)=((at_+2:Nat):Int):=by unfold wrap64;omega
 have t40:((s[at_].toNat:Int)==40)=false:=u8n (show¬s[at_]=40 by rw[hc];decide)
 have n40:((s[at_].toNat:Int) !=40)=true:=by show(!((s[at_].toNat:Int)==40))=true;rw[t40];rfl
 have t91:((s[at_].toNat:Int)==91)=false:=u8n (show¬s[at_]=91 by rw[hc];decide)
 have n91:((s[at_].toNat:Int) !=91)=true:=by show(!((s[at_].toNat:Int)==91))=true;rw[t91];rfl
 have t46:((s[at_].toNat:Int)==46)=false:=u8n (show¬s[at_]=46 by rw[hc];decide)
 have n46:((s[at_].toNat:Int) !=46)=true:=by show(!((s[at_].toNat:Int)==46))=true;rw[t46];rfl
 have t94:((s[at_].toNat:Int)==94)=false:=u8n (show¬s[at_]=94 by rw[hc];decide)
 have n94:((s[at_].toNat:Int) !=94)=true:=by show(!((s[at_].toNat:Int)==94))=true;rw[t94];rfl
 have t36:((s[at_].toNat:Int)==36)=false:=u8n (show¬s[at_]=36 by rw[hc];decide)
 have n36:((s[at_].toNat:Int) !=36)=true:=by show(!((s[at_].toNat:Int)==36))=true;rw[t36];rfl
 have t42:((s[at_].toNat:Int)==42)=false:=u8n (show¬s[at_]=42 by rw[hc];decide)
 have n42:((s[at_].toNat:Int) !=42)=true:=by show(!((s[at_].toNat:Int)==42))=true;rw[t42];rfl
 have t43:((s[at_].toNat:Int)==43)=false:=u8n (show¬s[at_]=43 by rw[hc];decide)
 have n43:((s[at_].toNat:Int) !=43)=true:=by show(!((s[at_].toNat:Int)==43))=true;rw[t43];rfl
 have t63:((s[at_].toNat:Int)==63)=true:=u8y hc
 have n63:((s[at_].toNat:Int) !=63)=false:=by show(!((s[at_].toNat:Int)==63))=false;rw[t63];rfl
 clear hc
 go_enter Tryz.func136,Tryz.ntmps136
 go_wp2_with (first|(refine alloc_got rfl rfl ?_;intro w1 b1 e1 p1 l1 z1;have G1:=hid p1;have L1:=hid l1;have HB:=hid (show w.heap.size≤b1∧b1<w1.heap.size from⟨by omega,by omega⟩);clear e1 p1 l1 z1))
 refine(refBad_any at_ 3 (by decide) _).mono ?_
 rintro e w5 hg
 obtain⟨r5,to5,er5,bad5,rfl⟩:=got_form (gots_l hg)
 have GG:=hid hg
 have G5:=hid (G1.out.below hg.1)
 have L5:=hid (L1.out.trans (hg.1.mono L1.out.size))
 have K5:=hid (show w.heap.size≤_∧b1<_ from⟨L1.out.size,G1.out.lt⟩)
 clear hg
 go_wp2_with (first
  |(refine store_got (r:=r5) (to:=to5) (e:=er5) (bad:=bad5) rfl (.tmp 6) (.tmp 97) rfl rfl rfl G5.out ?_;intro w9 p9 l9 z9))
 refine end_got rfl rfl p9 rfl ?_
 exact gots_more (gots_l GG.out) (old_below L5.out l9 HB.out.1) l9 K5.out.1 K5.out.2
theorem refAtom_no123 (hat:at_<s.size) (hs:s.size≤900) (hc:s[at_]=123):
    Calls Tryz.prog 136 #[.string s,.int .i64 at_,.int .i64 deep] w (Gots w (.bad at_ 3)):=by
 have h2:(at_:Int)<(s.size:Int):=by omega
 have hw1:wrap64 ((at_:Int)+1)=((at_+1:Nat):Int):=by unfold wrap64;omega
 have hw2:wrap64 ((at_:Int)+2)=((at_+2:Nat):Int):=by unfold wrap64;omega
 have t40:((s[at_].toNat:Int)==40)=false:=u8n (show¬s[at_]=40 by rw[hc];decide)
 have n40:((s[at_].toNat:Int) !=40)=true:=by show(!((s[at_].toNat:Int)==40))=true;rw[t40];rfl
 have t91:((s[at_].toNat:Int)==91)=false:=u8n (show¬s[at_]=91 by rw[hc];decide)
 have n91:((s[at_].toNat:Int) !=91)=true:=by show(!((s[at_].toNat:Int)==91))=true;rw[t91];rfl
 have t46:((s[at_].toNat:Int)==46)=false:=u8n (show¬s[at_]=46 by rw[hc];decide)
 have n46:((s[at_].toNat:Int) !=46)=true:=by show(!((s[at_].toNat:Int)==46))=true;rw[t46];rfl
 have t94:((s[at_].toNat:Int)==94)=false:=u8n (show¬s[at_]=94 by rw[hc];decide)
 have n94:((s[at_].toNat:Int) !=94)=true:=by show(!((s[at_].toNat:Int)==94))=true;rw[t94];rfl
 have t36:((s[at_].toNat:Int)==36)=false:=u8n (show¬s[at_]=36 by rw[hc];decide)
 have n36:((s[at_].toNat:Int) !=36)=true:=by show(!((s[at_].toNat:Int)==36))=true;rw[t36];rfl
 have t42:((s[at_].toNat:Int)==42)=false:=u8n (show¬s[at_]=42 by rw[hc];decide)
 have n42:((s[at_].toNat:Int) !=42)=true:=by show(!((s[at_].toNat:Int)==42))=true;rw[t42];rfl
 have t43:((s[at_].toNat:Int)==43)=false:=u8n (show¬s[at_]=43 by rw[hc];decide)
 have n43:((s[at_].toNat:Int) !=43)=true:=by show(!((s[at_].toNat:Int)==43))=true;rw[t43];rfl
 have t63:((s[at_].toNat:Int)==63)=false:=u8n (show¬s[at_]=63 by rw[hc];decide)
 have n63:((s[at_].toNat:Int) !=63)=true:=by show(!((s[at_].toNat:Int)==63))=true;rw[t63];rfl
 have t123:((s[at_].toNat:Int)==123)=true:=u8y hc
 have n123:((s[at_].toNat:Int) !=123)=false:=by show(!((s[at_].toNat:Int)==123))=false;rw[t123];rfl
 clear hc
 go_enter Tryz.func136,Tryz.ntmps136
 go_wp2_with (first|(refine alloc_got rfl rfl ?_;intro w1 b1 e1 p1 l1 z1;have G1:=hid p1;have L1:=hid l1;have HB:=hid (show w.heap.size≤b1∧b1<w1.heap.size from⟨by omega,by omega⟩);clear e1 p1 l1 z1))
 refine(refBad_any at_ 3 (by decide) _).mono ?_
 rintro e w5 hg
 obtain⟨r5,to5,er5,bad5,rfl⟩:=got_form (gots_l hg)
 have GG:=hid hg
 have G5:=hid (G1.out.below hg.1)
 have L5:=hid (L1.out.trans (hg.1.mono L1.out.size))
 have K5:=hid (show w.heap.size≤_∧b1<_ from⟨L1.out.size,G1.out.lt⟩)
 clear hg
 go_wp2_with (first
  |(refine store_got (r:=r5) (to:=to5) (e:=er5) (bad:=bad5) rfl (.tmp 6) (.tmp 97) rfl rfl rfl G5.out ?_;intro w9 p9 l9 z9))
 refine end_got rfl rfl p9 rfl ?_
 exact gots_more (gots_l GG.out) (old_below L5.out l9 HB.out.1) l9 K5.out.1 K5.out.2
theorem refAtom_deep (hat:at_<s.size) (hs:s.size≤900) (hc:s[at_]=40) (hd:deep=64):
    Calls Tryz.prog 136 #[.string s,.int .i64 at_,.int .i64 deep] w (Gots w (.bad at_ 21)):=by
 have h2:(at_:Int)<(s.size:Int):=by omega
 have hw1:wrap64 ((at_:Int)+1)=((at_+1:Nat):Int):=by unfold wrap64;omega
 have hw2:wrap64 ((at_:Int)+2)=((at_+2:Nat):Int):=by unfold wrap64;omega
 have t40:((s[at_].toNat:Int)==40)=true:=u8y hc
 have n40:((s[at_].toNat:Int) !=40)=false:=by show(!((s[at_].toNat:Int)==40))=false;rw[t40];rfl
 have td:((deep:Int)==64)=true:=by rw[hd];rfl
 clear hc hd
 go_enter Tryz.func136,Tryz.ntmps136
 go_wp2_with (first|(refine alloc_got rfl rfl ?_;intro w1 b1 e1 p1 l1 z1;have G1:=hid p1;have L1:=hid l1;have HB:=hid (show w.heap.size≤b1∧b1<w1.heap.size from⟨by omega,by omega⟩);clear e1 p1 l1 z1))
 refine(refBad_any at_ 21 (by decide) _).mono ?_
 rintro e w5 hg
 obtain⟨r5,to5,er5,bad5,rfl⟩:=got_form (gots_l hg)
 have GG:=hid hg
 have G5:=hid (G1.out.below hg.1)
 have L5:=hid (L1.out.trans (hg.1.mono L1.out.size))
 have K5:=hid (show w.heap.size≤_∧b1<_ from⟨L1.out.size,G1.out.lt⟩)
 clear hg
 go_wp2_with (first
  |(refine store_got (r:=r5) (to:=to5) (e:=er5) (bad:=bad5) rfl (.tmp 6) (.tmp 22) rfl rfl rfl G5.out ?_;intro w9 p9 l9 z9))
 refine end_got rfl rfl p9 rfl ?_
 exact gots_more (gots_l GG.out) (old_below L5.out l9 HB.out.1) l9 K5.out.1 K5.out.2
theorem refAtom_char (hat:at_<s.size) (hs:s.size≤900) (h40: ¬s[at_]=40) (h91: ¬s[at_]=91) (h46: ¬s[at_]=46) (h94: ¬s[at_]=94) (h36: ¬s[at_]=36) (h42: ¬s[at_]=42) (h43: ¬s[at_]=43) (h63: ¬s[at_]=63) (h123: ¬s[at_]=123) (h92: ¬s[at_]=92):
    Calls Tryz.prog 136 #[.string s,.int .i64 at_,.int .i64 deep] w (Gots w (.ok (leaf 2 (chr s[at_])) (at_+1))):=by
 have h2:(at_:Int)<(s.size:Int):=by omega
 have hw1:wrap64 ((at_:Int)+1)=((at_+1:Nat):Int):=by unfold wrap64;omega
 have hw2:wrap64 ((at_:Int)+2)=((at_+2:Nat):Int):=by unfold wrap64;omega
 have t40:((s[at_].toNat:Int)==40)=false:=u8n h40
 have n40:((s[at_].toNat:Int) !=40)=true:=by show(!((s[at_].toNat:Int)==40))=true;rw[t40];rfl
 have t91:((s[at_].toNat:Int)==91)=false:=u8n h91
 have n91:((s[at_].toNat:Int) !=91)=true:=by show(!((s[at_].toNat:Int)==91))=true;rw[t91];rfl
 have t46:((s[at_].toNat:Int)==46)=false:=u8n h46
 have n46:((s[at_].toNat:Int) !=46)=true:=by show(!((s[at_].toNat:Int)==46))=true;rw[t46];rfl
 have t94:((s[at_].toNat:Int)==94)=false:=u8n h94
 have n94:((s[at_].toNat:Int) !=94)=true:=by show(!((s[at_].toNat:Int)==94))=true;rw[t94];rfl
 have t36:((s[at_].toNat:Int)==36)=false:=u8n h36
 have n36:((s[at_].toNat:Int) !=36)=true:=by show(!((s[at_].toNat:Int)==36))=true;rw[t36];rfl
 have t42:((s[at_].toNat:Int)==42)=false:=u8n h42
 have n42:((s[at_].toNat:Int) !=42)=true:=by show(!((s[at_].toNat:Int)==42))=true;rw[t42];rfl
 have t43:((s[at_].toNat:Int)==43)=false:=u8n h43
 have n43:((s[at_].toNat:Int) !=43)=true:=by show(!((s[at_].toNat:Int)==43))=true;rw[t43];rfl
 have t63:((s[at_].toNat:Int)==63)=false:=u8n h63
 have n63:((s[at_].toNat:Int) !=63)=true:=by show(!((s[at_].toNat:Int)==63))=true;rw[t63];rfl
 have t123:((s[at_].toNat:Int)==123)=false:=u8n h123
 have n123:((s[at_].toNat:Int) !=123)=true:=by show(!((s[at_].toNat:Int)==123))=true;rw[t123];rfl
 have t92:((s[at_].toNat:Int)==92)=false:=u8n h92
 have n92:((s[at_].toNat:Int) !=92)=true:=by show(!((s[at_].toNat:Int)==92))=true;rw[t92];rfl
 have hsl: ∀W,(Instr.slice 9 (.string s) (some (.int .i64 (at_:Int))) (some (.int .i64 ((at_:Int)+1))) none).run Tryz.prog W= .ok (.string (chr s[at_])) W:=fun W=>by
  have:=slice_run (s:=s) (i:=at_) (j:=at_+1) (by omega) (by omega) W
  rw[chr_one hat]at this
  exact this
 clear h40 h91 h46 h94 h36 h42 h43 h63 h123 h92
 go_enter Tryz.func136,Tryz.ntmps136
 go_wp2_with (first|(refine alloc_got rfl rfl ?_;intro w1 b1 e1 p1 l1 z1;have G1:=hid p1;have L1:=hid l1;have HB:=hid (show w.heap.size≤b1∧b1<w1.heap.size from⟨by omega,by omega⟩);clear e1 p1 l1 z1))
 refine(refLeaf_any 2 (chr s[at_]) (at_+1) _).mono ?_
 rintro e w5 hg
 obtain⟨r5,to5,er5,bad5,rfl⟩:=got_form (gots_l hg)
 have GG:=hid hg
 have G5:=hid (G1.out.below hg.1)
 have L5:=hid (L1.out.trans (hg.1.mono L1.out.size))
 have K5:=hid (show w.heap.size≤_∧b1<_ from⟨L1.out.size,G1.out.lt⟩)
 clear hg
 go_wp2_with (first
  |(refine store_got (r:=r5) (to:=to5) (e:=er5) (bad:=bad5) rfl (.tmp 6) (.tmp 107) rfl rfl rfl G5.out ?_;intro w9 p9 l9 z9))
 refine end_got rfl rfl p9 rfl ?_
 exact gots_more (gots_l GG.out) (old_below L5.out l9 HB.out.1) l9 K5.out.1 K5.out.2
theorem refAtom_slash (hat:at_<s.size) (hs:s.size≤900) (hc:s[at_]=92) (hl:at_+1=s.size):
    Calls Tryz.prog 136 #[.string s,.int .i64 at_,.int .i64 deep] w (Gots w (.bad at_ 3)):=by
 have h2:(at_:Int)<(s.size:Int):=by omega
 have hw1:wrap64 ((at_:Int)+1)=((at_+1:Nat):Int):=by unfold wrap64;omega
 have hw2:wrap64 ((at_:Int)+2)=((at_+2:Nat):Int):=by unfold wrap64;omega
 have t40:((s[at_].toNat:Int)==40)=false:=u8n (show¬s[at_]=40 by rw[hc];decide)
 have n40:((s[at_].toNat:Int) !=40)=true:=by show(!((s[at_].toNat:Int)==40))=true;rw[t40];rfl
 have t91:((s[at_].toNat:Int)==91)=false:=u8n (show¬s[at_]=91 by rw[hc];decide)
 have n91:((s[at_].toNat:Int) !=91)=true:=by show(!((s[at_].toNat:Int)==91))=true;rw[t91];rfl
 have t46:((s[at_].toNat:Int)==46)=false:=u8n (show¬s[at_]=46 by rw[hc];decide)
 have n46:((s[at_].toNat:Int) !=46)=true:=by show(!((s[at_].toNat:Int)==46))=true;rw[t46];rfl
 have t94:((s[at_].toNat:Int)==94)=false:=u8n (show¬s[at_]=94 by rw[hc];decide)
 have n94:((s[at_].toNat:Int) !=94)=true:=by show(!((s[at_].toNat:Int)==94))=true;rw[t94];rfl
 have t36:((s[at_].toNat:Int)==36)=false:=u8n (show¬s[at_]=36 by rw[hc];decide)
 have n36:((s[at_].toNat:Int) !=36)=true:=by show(!((s[at_].toNat:Int)==36))=true;rw[t36];rfl
 have t42:((s[at_].toNat:Int)==42)=false:=u8n (show¬s[at_]=42 by rw[hc];decide)
 have n42:((s[at_].toNat:Int) !=42)=true:=by show(!((s[at_].toNat:Int)==42))=true;rw[t42];rfl
 have t43:((s[at_].toNat:Int)==43)=false:=u8n (show¬s[at_]=43 by rw[hc];decide)
 have n43:((s[at_].toNat:Int) !=43)=true:=by show(!((s[at_].toNat:Int)==43))=true;rw[t43];rfl
 have t63:((s[at_].toNat:Int)==63)=false:=u8n (show¬s[at_]=63 by rw[hc];decide)
 have n63:((s[at_].toNat:Int) !=63)=true:=by show(!((s[at_].toNat:Int)==63))=true;rw[t63];rfl
 have t123:((s[at_].toNat:Int)==123)=false:=u8n (show¬s[at_]=123 by rw[hc];decide)
 have n123:((s[at_].toNat:Int) !=123)=true:=by show(!((s[at_].toNat:Int)==123))=true;rw[t123];rfl
 have t92:((s[at_].toNat:Int)==92)=true:=u8y hc
 have n92:((s[at_].toNat:Int) !=92)=false:=by show(!((s[at_].toNat:Int)==92))=false;rw[t92];rfl
 have te:(((at_+1:Nat):Int)==(s.size:Int))=true:=int_yes hl
 clear hc hl
 go_enter Tryz.func136,Tryz.ntmps136
 go_wp2_with (first|(refine alloc_got rfl rfl ?_;intro w1 b1 e1 p1 l1 z1;have G1:=hid p1;have L1:=hid l1;have HB:=hid (show w.heap.size≤b1∧b1<w1.heap.size from⟨by omega,by omega⟩);clear e1 p1 l1 z1))
 refine(refBad_any at_ 3 (by decide) _).mono ?_
 rintro e w5 hg
 obtain⟨r5,to5,er5,bad5,rfl⟩:=got_form (gots_l hg)
 have GG:=hid hg
 have G5:=hid (G1.out.below hg.1)
 have L5:=hid (L1.out.trans (hg.1.mono L1.out.size))
 have K5:=hid (show w.heap.size≤_∧b1<_ from⟨L1.out.size,G1.out.lt⟩)
 clear hg
 go_wp2_with (first
  |(refine store_got (r:=r5) (to:=to5) (e:=er5) (bad:=bad5) rfl (.tmp 6) (.tmp 114) rfl rfl rfl G5.out ?_;intro w9 p9 l9 z9))
 refine end_got rfl rfl p9 rfl ?_
 exact gots_more (gots_l GG.out) (old_below L5.out l9 HB.out.1) l9 K5.out.1 K5.out.2
theorem refAtom_letter (hat:at_<s.size) (hs:s.size≤900) (hc:s[at_]=92) (hl:at_+1<s.size) (hlet:M13.letter s[at_+1]=true):
    Calls Tryz.prog 136 #[.string s,.int .i64 at_,.int .i64 deep] w (Gots w (.ok (leaf 4 (txt (M13.namedF s[at_+1]))) (at_+2))):=by
 have h2:(at_:Int)<(s.size:Int):=by omega
 have hw1:wrap64 ((at_:Int)+1)=((at_+1:Nat):Int):=by unfold wrap64;omega
 have hw2:wrap64 ((at_:Int)+2)=((at_+2:Nat):Int):=by unfold wrap64;omega
 have t40:((s[at_].toNat:Int)==40)=false:=u8n (show¬s[at_]=40 by rw[hc];decide)
 have n40:((s[at_].toNat:Int) !=40)=true:=by show(!((s[at_].toNat:Int)==40))=true;rw[t40];rfl
 have t91:((s[at_].toNat:Int)==91)=false:=u8n (show¬s[at_]=91 by rw[hc];decide)
 have n91:((s[at_].toNat:Int) !=91)=true:=by show(!((s[at_].toNat:Int)==91))=true;rw[t91];rfl
 have t46:((s[at_].toNat:Int)==46)=false:=u8n (show¬s[at_]=46 by rw[hc];decide)
 have n46:((s[at_].toNat:Int) !=46)=true:=by show(!((s[at_].toNat:Int)==46))=true;rw[t46];rfl
 have t94:((s[at_].toNat:Int)==94)=false:=u8n (show¬s[at_]=94 by rw[hc];decide)
 have n94:((s[at_].toNat:Int) !=94)=true:=by show(!((s[at_].toNat:Int)==94))=true;rw[t94];rfl
 have t36:((s[at_].toNat:Int)==36)=false:=u8n (show¬s[at_]=36 by rw[hc];decide)
 have n36:((s[at_].toNat:Int) !=36)=true:=by show(!((s[at_].toNat:Int)==36))=true;rw[t36];rfl
 have t42:((s[at_].toNat:Int)==42)=false:=u8n (show¬s[at_]=42 by rw[hc];decide)
 have n42:((s[at_].toNat:Int) !=42)=true:=by show(!((s[at_].toNat:Int)==42))=true;rw[t42];rfl
 have t43:((s[at_].toNat:Int)==43)=false:=u8n (show¬s[at_]=43 by rw[hc];decide)
 have n43:((s[at_].toNat:Int) !=43)=true:=by show(!((s[at_].toNat:Int)==43))=true;rw[t43];rfl
 have t63:((s[at_].toNat:Int)==63)=false:=u8n (show¬s[at_]=63 by rw[hc];decide)
 have n63:((s[at_].toNat:Int) !=63)=true:=by show(!((s[at_].toNat:Int)==63))=true;rw[t63];rfl
 have t123:((s[at_].toNat:Int)==123)=false:=u8n (show¬s[at_]=123 by rw[hc];decide)
 have n123:((s[at_].toNat:Int) !=123)=true:=by show(!((s[at_].toNat:Int)==123))=true;rw[t123];rfl
 have t92:((s[at_].toNat:Int)==92)=true:=u8y hc
 have n92:((s[at_].toNat:Int) !=92)=false:=by show(!((s[at_].toNat:Int)==92))=false;rw[t92];rfl
 have te:(((at_+1:Nat):Int)==(s.size:Int))=false:=int_no (by omega)
 have HN:Hid (∀w,Calls Tryz.prog 155 #[.int .u8 s[at_+1].toNat] w fun e w'=>e= .returned (.tuple #[.string (W13.tx (M13.namedF s[at_+1])),.bool true])∧Below w.heap.size w w'):=fun w=>by
  have:=W13.refNamed_any s[at_+1] w
  rw[hlet]at this
  exact this
 have h3:((at_+1:Nat):Int)<(s.size:Int):=by omega
 clear hc hlet
 go_enter Tryz.func136,Tryz.ntmps136
 go_wp2_with (first|(refine alloc_got rfl rfl ?_;intro w1 b1 e1 p1 l1 z1;have G1:=hid p1;have L1:=hid l1;have HB:=hid (show w.heap.size≤b1∧b1<w1.heap.size from⟨by omega,by omega⟩);clear e1 p1 l1 z1))
 refine(HN.out _).mono ?_
 rintro e w2 ⟨rfl,l2⟩
 have G2:=hid (G1.out.below l2)
 have L2:=hid (L1.out.trans (l2.mono L1.out.size))
 clear l2
 go_wp2_with fail
 refine(refLeaf_any 4 (txt (M13.namedF s[at_+1])) (at_+2) _).mono ?_
 rintro e w5 hg
 obtain⟨r5,to5,er5,bad5,rfl⟩:=got_form (gots_l hg)
 have GG:=hid hg
 have G5:=hid (G2.out.below hg.1)
 have L5:=hid (L2.out.trans (hg.1.mono L2.out.size))
 have K5:=hid (show w.heap.size≤_∧b1<_ from⟨L2.out.size,G2.out.lt⟩)
 clear hg
 go_wp2_with (first
  |(refine store_got (r:=r5) (to:=to5) (e:=er5) (bad:=bad5) rfl (.tmp 6) (.tmp 127) rfl rfl rfl G5.out ?_;intro w9 p9 l9 z9))
 refine end_got rfl rfl p9 rfl ?_
 exact gots_more (gots_l GG.out) (old_below L5.out l9 HB.out.1) l9 K5.out.1 K5.out.2
theorem refAtom_escaped (hat:at_<s.size) (hs:s.size≤900) (hc:s[at_]=92) (hl:at_+1<s.size) (hlet:M13.letter s[at_+1]=false):
    Calls Tryz.prog 136 #[.string s,.int .i64 at_,.int .i64 deep] w (Gots w (.ok (leaf 2 (chr s[at_+1])) (at_+2))):=by
 have h2:(at_:Int)<(s.size:Int):=by omega
 have hw1:wrap64 ((at_:Int)+1)=((at_+1:Nat):Int):=by unfold wrap64;omega
 have hw2:wrap64 ((at_:Int)+2)=((at_+2:Nat):Int):=by unfold wrap64;omega
 have t40:((s[at_].toNat:Int)==40)=false:=u8n (show¬s[at_]=40 by rw[hc];decide)
 have n40:((s[at_].toNat:Int) !=40)=true:=by show(!((s[at_].toNat:Int)==40))=true;rw[t40];rfl
 have t91:((s[at_].toNat:Int)==91)=false:=u8n (show¬s[at_]=91 by rw[hc];decide)
 have n91:((s[at_].toNat:Int) !=91)=true:=by show(!((s[at_].toNat:Int)==91))=true;rw[t91];rfl
 have t46:((s[at_].toNat:Int)==46)=false:=u8n (show¬s[at_]=46 by rw[hc];decide)
 have n46:((s[at_].toNat:Int) !=46)=true:=by show(!((s[at_].toNat:Int)==46))=true;rw[t46];rfl
 have t94:((s[at_].toNat:Int)==94)=false:=u8n (show¬s[at_]=94 by rw[hc];decide)
 have n94:((s[at_].toNat:Int) !=94)=true:=by show(!((s[at_].toNat:Int)==94))=true;rw[t94];rfl
 have t36:((s[at_].toNat:Int)==36)=false:=u8n (show¬s[at_]=36 by rw[hc];decide)
 have n36:((s[at_].toNat:Int) !=36)=true:=by show(!((s[at_].toNat:Int)==36))=true;rw[t36];rfl
 have t42:((s[at_].toNat:Int)==42)=false:=u8n (show¬s[at_]=42 by rw[hc];decide)
 have n42:((s[at_].toNat:Int) !=42)=true:=by show(!((s[at_].toNat:Int)==42))=true;rw[t42];rfl
 have t43:((s[at_].toNat:Int)==43)=false:=u8n (show¬s[at_]=43 by rw[hc];decide)
 have n43:((s[at_].toNat:Int) !=43)=true:=by show(!((s[at_].toNat:Int)==43))=true;rw[t43];rfl
 have t63:((s[at_].toNat:Int)==63)=false:=u8n (show¬s[at_]=63 by rw[hc];decide)
 have n63:((s[at_].toNat:Int) !=63)=true:=by show(!((s[at_].toNat:Int)==63))=true;rw[t63];rfl
 have t123:((s[at_].toNat:Int)==123)=false:=u8n (show¬s[at_]=123 by rw[hc];decide)
 have n123:((s[at_].toNat:Int) !=123)=true:=by show(!((s[at_].toNat:Int)==123))=true;rw[t123];rfl
 have t92:((s[at_].toNat:Int)==92)=true:=u8y hc
 have n92:((s[at_].toNat:Int) !=92)=false:=by show(!((s[at_].toNat:Int)==92))=false;rw[t92];rfl
 have te:(((at_+1:Nat):Int)==(s.size:Int))=false:=int_no (by omega)
 have hsl: ∀W,(Instr.slice 9 (.string s) (some (.int .i64 ((at_:Int)+1))) (some (.int .i64 ((at_:Int)+2))) none).run Tryz.prog W= .ok (.string (chr s[at_+1])) W:=fun W=>by
  have:=slice_run (s:=s) (i:=at_+1) (j:=at_+1+1) (by omega) (by omega) W
  rw[chr_one hl]at this
  exact this
 have HN:Hid (∀w,Calls Tryz.prog 155 #[.int .u8 s[at_+1].toNat] w fun e w'=>e= .returned (.tuple #[.string (W13.tx (M13.namedF s[at_+1])),.bool false])∧Below w.heap.size w w'):=fun w=>by
  have:=W13.refNamed_any s[at_+1] w
  rw[hlet]at this
  exact this
 have h3:((at_+1:Nat):Int)<(s.size:Int):=by omega
 clear hc hlet
 go_enter Tryz.func136,Tryz.ntmps136
 go_wp2_with (first|(refine alloc_got rfl rfl ?_;intro w1 b1 e1 p1 l1 z1;have G1:=hid p1;have L1:=hid l1;have HB:=hid (show w.heap.size≤b1∧b1<w1.heap.size from⟨by omega,by omega⟩);clear e1 p1 l1 z1))
 refine(HN.out _).mono ?_
 rintro e w2 ⟨rfl,l2⟩
 have G2:=hid (G1.out.below l2)
 have L2:=hid (L1.out.trans (l2.mono L1.out.size))
 clear l2
 go_wp2_with fail
 refine(refLeaf_any 2 (chr s[at_+1]) (at_+2) _).mono ?_
 rintro e w5 hg
 obtain⟨r5,to5,er5,bad5,rfl⟩:=got_form (gots_l hg)
 have GG:=hid hg
 have G5:=hid (G2.out.below hg.1)
 have L5:=hid (L2.out.trans (hg.1.mono L2.out.size))
 have K5:=hid (show w.heap.size≤_∧b1<_ from⟨L2.out.size,G2.out.lt⟩)
 clear hg
 go_wp2_with (first
  |(refine store_got (r:=r5) (to:=to5) (e:=er5) (bad:=bad5) rfl (.tmp 6) (.tmp 136) rfl rfl rfl G5.out ?_;intro w9 p9 l9 z9))
 refine end_got rfl rfl p9 rfl ?_
 exact gots_more (gots_l GG.out) (old_below L5.out l9 HB.out.1) l9 K5.out.1 K5.out.2
theorem refAtom_inBad (hat:at_<s.size) (hs:s.size≤900) (hc:s[at_]=40) (hd:deep<64) {q:Nat} {er:Int} (hC: ∀w,Calls Tryz.prog 47 #[.string s,.int .i64 ((at_+1:Nat):Int),.int .i64 ((deep+1:Nat):Int)] w (Gots w (.bad q er))):
    Calls Tryz.prog 136 #[.string s,.int .i64 at_,.int .i64 deep] w (Gots w (.bad q er)):=by
 have h2:(at_:Int)<(s.size:Int):=by omega
 have hw1:wrap64 ((at_:Int)+1)=((at_+1:Nat):Int):=by unfold wrap64;omega
 have hw2:wrap64 ((at_:Int)+2)=((at_+2:Nat):Int):=by unfold wrap64;omega
 have t40:((s[at_].toNat:Int)==40)=true:=u8y hc
 have n40:((s[at_].toNat:Int) !=40)=false:=by show(!((s[at_].toNat:Int)==40))=false;rw[t40];rfl
 have td:((deep:Int)==64)=false:=by simpa using (by omega: ¬(deep:Int)=64)
 have hw3:wrap64 ((deep:Int)+1)=((deep+1:Nat):Int):=by unfold wrap64;omega
 have HC:=hid hC
 clear hc hC hd
 go_enter Tryz.func136,Tryz.ntmps136
 go_wp2_with (first|(refine alloc_got rfl rfl ?_;intro w1 b1 e1 p1 l1 z1;have G1:=hid p1;have L1:=hid l1;have HB:=hid (show w.heap.size≤b1∧b1<w1.heap.size from⟨by omega,by omega⟩);clear e1 p1 l1 z1))
 refine(HC.out _).mono ?_
 rintro e w2 ⟨l2,he,tq,rfl⟩
 have HE:=hid he
 have te:(er==0)=false:=by simpa using he
 clear he
 have G2:=hid (G1.out.below l2)
 have L2:=hid (L1.out.trans (l2.mono L1.out.size))
 have HB2:=hid (show b1<w2.heap.size from Nat.lt_of_lt_of_le HB.out.2 l2.size)
 clear l2
 go_upto_region 6 with(first
  |(refine alloc_got rfl rfl ?_;intro w3 b3 e3 p3 l3 z3)
  |(refine store_got (r:=zeroR) (to:=tq) (e:=er) (bad:=(q:Int)) rfl (.tmp 8) (.tmp 28) rfl rfl rfl p3 ?_;intro w4 p4 l4 z4;have L24:=hid (two_new l3 l4 e3);have G4:=hid (G2.out.below L24.out);have Q4:=hid p4;have HB4:=hid (show w2.heap.size=b3 from e3);have L4:=hid (L2.out.trans (L24.out.mono L2.out.size));have q5:=p4.c5;have q6:=p4.c6;have f5:=p4.free 5;clear e3 p3 l3 z3 p4 l4 z4))
 have HN3:=hid (show b3≠b1 by have:=HB4.out;have:=HB2.out;omega)
 have BS:Hid (∀v,Beside b3 w4 (w4.setCell ⟨b3,5,none⟩ (.int .i64 v))):=fun v=>beside_put _ _ _ _
 have Q5:=hid (Q4.out.put (wrap64 (tq+1)))
 have G5:=hid (G4.out.beside (BS.out (wrap64 (tq+1))) HN3.out.symm)
 have L5:=hid (old_below L4.out (BS.out (wrap64 (tq+1))) (by rw[←HB4.out];exact L2.out.size))
 have L25:=hid (old_below L24.out (BS.out (wrap64 (tq+1))) (by rw[←HB4.out];exact Nat.le_refl _))
 go_wp2_with (first
  |(refine load_got rfl (.tmp 8) rfl rfl Q5.out ?_)
  |(refine store_got (r:=zeroR) (to:=wrap64 (tq+1)) (e:=er) (bad:=(q:Int)) rfl (.tmp 6) (.tmp 46) rfl rfl rfl G5.out ?_;intro w9 p9 l9 z9))
 refine end_got rfl rfl p9 rfl ⟨old_below L5.out l9 HB.out.1,?_⟩
 exact⟨HE.out,_,rfl⟩
theorem refAtom_inEnd (hat:at_<s.size) (hs:s.size≤900) (hc:s[at_]=40) (hd:deep<64) {p:Piece} {to:Nat} (hto:to=s.size) (hC: ∀w,Calls Tryz.prog 47 #[.string s,.int .i64 ((at_+1:Nat):Int),.int .i64 ((deep+1:Nat):Int)] w (Gots w (.ok p to))):
    Calls Tryz.prog 136 #[.string s,.int .i64 at_,.int .i64 deep] w (Gots w (.bad s.size 3)):=by
 have h2:(at_:Int)<(s.size:Int):=by omega
 have hw1:wrap64 ((at_:Int)+1)=((at_+1:Nat):Int):=by unfold wrap64;omega
 have hw2:wrap64 ((at_:Int)+2)=((at_+2:Nat):Int):=by unfold wrap64;omega
 have t40:((s[at_].toNat:Int)==40)=true:=u8y hc
 have n40:((s[at_].toNat:Int) !=40)=false:=by show(!((s[at_].toNat:Int)==40))=false;rw[t40];rfl
 have td:((deep:Int)==64)=false:=by simpa using (by omega: ¬(deep:Int)=64)
 have hw3:wrap64 ((deep:Int)+1)=((deep+1:Nat):Int):=by unfold wrap64;omega
 have HC:=hid hC
 clear hc hC hd
 have ti:=int_yes hto
 clear hto
 go_enter Tryz.func136,Tryz.ntmps136
 go_wp2_with (first|(refine alloc_got rfl rfl ?_;intro w1 b1 e1 p1 l1 z1;have G1:=hid p1;have L1:=hid l1;have HB:=hid (show w.heap.size≤b1∧b1<w1.heap.size from⟨by omega,by omega⟩);clear e1 p1 l1 z1))
 refine(HC.out _).mono ?_
 rintro e w2 ⟨l2,r,rfl,hp⟩
 have A2:=hid hp
 clear hp
 have G2:=hid (G1.out.below l2)
 have L2:=hid (L1.out.trans (l2.mono L1.out.size))
 have HB2:=hid (show b1<w2.heap.size from Nat.lt_of_lt_of_le HB.out.2 l2.size)
 clear l2
 go_upto_region 6 with(first
  |(refine alloc_got rfl rfl ?_;intro w3 b3 e3 p3 l3 z3)
  |(refine store_got (r:=r) (to:=(to:Int)) (e:=0) (bad:=0) rfl (.tmp 8) (.tmp 28) rfl rfl rfl p3 ?_;intro w4 p4 l4 z4;have L24:=hid (two_new l3 l4 e3);have G4:=hid (G2.out.below L24.out);have Q4:=hid p4;have HB4:=hid (show w2.heap.size=b3 from e3);have L4:=hid (L2.out.trans (L24.out.mono L2.out.size));have q5:=p4.c5;have q6:=p4.c6;have f5:=p4.free 5;clear e3 p3 l3 z3 p4 l4 z4))
 have HN3:=hid (show b3≠b1 by have:=HB4.out;have:=HB2.out;omega)
 have BS:Hid (∀v,Beside b3 w4 (w4.setCell ⟨b3,5,none⟩ (.int .i64 v))):=fun v=>beside_put _ _ _ _
 go_wp2_with fail
 refine(refBad_any s.size 3 (by decide) _).mono ?_
 rintro e w5 hg
 obtain⟨r5,to5,er5,bad5,rfl⟩:=got_form (gots_l hg)
 have GG:=hid hg
 have G5:=hid (G4.out.below hg.1)
 have L5:=hid (L4.out.trans (hg.1.mono L4.out.size))
 have K5:=hid (show w.heap.size≤_∧b1<_ from⟨L4.out.size,G4.out.lt⟩)
 clear hg
 go_wp2_with (first
  |(refine store_got (r:=r5) (to:=to5) (e:=er5) (bad:=bad5) rfl (.tmp 6) (.tmp 41) rfl rfl rfl G5.out ?_;intro w9 p9 l9 z9))
 refine end_got rfl rfl p9 rfl ?_
 exact gots_more (gots_l GG.out) (old_below L5.out l9 HB.out.1) l9 K5.out.1 K5.out.2
theorem refAtom_inOk (hat:at_<s.size) (hs:s.size≤900) (hc:s[at_]=40) (hd:deep<64) {p:Piece} {to:Nat} (hto:to<s.size) (hC: ∀w,Calls Tryz.prog 47 #[.string s,.int .i64 ((at_+1:Nat):Int),.int .i64 ((deep+1:Nat):Int)] w (Gots w (.ok p to))):
    Calls Tryz.prog 136 #[.string s,.int .i64 at_,.int .i64 deep] w (Gots w (.ok p (to+1))):=by
 have h2:(at_:Int)<(s.size:Int):=by omega
 have hw1:wrap64 ((at_:Int)+1)=((at_+1:Nat):Int):=by unfold wrap64;omega
 have hw2:wrap64 ((at_:Int)+2)=((at_+2:Nat):Int):=by unfold wrap64;omega
 have t40:((s[at_].toNat:Int)==40)=true:=u8y hc
 have n40:((s[at_].toNat:Int) !=40)=false:=by show(!((s[at_].toNat:Int)==40))=false;rw[t40];rfl
 have td:((deep:Int)==64)=false:=by simpa using (by omega: ¬(deep:Int)=64)
 have hw3:wrap64 ((deep:Int)+1)=((deep+1:Nat):Int):=by unfold wrap64;omega
 have HC:=hid hC
 clear hc hC hd
 have ti:=int_no (show¬to=s.size by omega)
 have hw4:wrap64 ((to:Int)+1)=((to+1:Nat):Int):=by unfold wrap64;omega
 clear hto
 go_enter Tryz.func136,Tryz.ntmps136
 go_wp2_with (first|(refine alloc_got rfl rfl ?_;intro w1 b1 e1 p1 l1 z1;have G1:=hid p1;have L1:=hid l1;have HB:=hid (show w.heap.size≤b1∧b1<w1.heap.size from⟨by omega,by omega⟩);clear e1 p1 l1 z1))
 refine(HC.out _).mono ?_
 rintro e w2 ⟨l2,r,rfl,hp⟩
 have A2:=hid hp
 clear hp
 have G2:=hid (G1.out.below l2)
 have L2:=hid (L1.out.trans (l2.mono L1.out.size))
 have HB2:=hid (show b1<w2.heap.size from Nat.lt_of_lt_of_le HB.out.2 l2.size)
 clear l2
 go_upto_region 6 with(first
  |(refine alloc_got rfl rfl ?_;intro w3 b3 e3 p3 l3 z3)
  |(refine store_got (r:=r) (to:=(to:Int)) (e:=0) (bad:=0) rfl (.tmp 8) (.tmp 28) rfl rfl rfl p3 ?_;intro w4 p4 l4 z4;have L24:=hid (two_new l3 l4 e3);have G4:=hid (G2.out.below L24.out);have Q4:=hid p4;have HB4:=hid (show w2.heap.size=b3 from e3);have L4:=hid (L2.out.trans (L24.out.mono L2.out.size));have q5:=p4.c5;have q6:=p4.c6;have f5:=p4.free 5;clear e3 p3 l3 z3 p4 l4 z4))
 have HN3:=hid (show b3≠b1 by have:=HB4.out;have:=HB2.out;omega)
 have BS:Hid (∀v,Beside b3 w4 (w4.setCell ⟨b3,5,none⟩ (.int .i64 v))):=fun v=>beside_put _ _ _ _
 have Q5:=hid (Q4.out.put (((to+1:Nat):Int)))
 have G5:=hid (G4.out.beside (BS.out (((to+1:Nat):Int))) HN3.out.symm)
 have L5:=hid (old_below L4.out (BS.out (((to+1:Nat):Int))) (by rw[←HB4.out];exact L2.out.size))
 have L25:=hid (old_below L24.out (BS.out (((to+1:Nat):Int))) (by rw[←HB4.out];exact Nat.le_refl _))
 go_wp2_with (first
  |(refine load_got rfl (.tmp 8) rfl rfl Q5.out ?_)
  |(refine store_got (r:=r) (to:=((to+1:Nat):Int)) (e:=0) (bad:=0) rfl (.tmp 6) (.tmp 46) rfl rfl rfl G5.out ?_;intro w9 p9 l9 z9))
 refine end_got rfl rfl p9 rfl ⟨old_below L5.out l9 HB.out.1,?_⟩
 refine⟨r,rfl,A2.out.keep (fun _ q=>⟨Nat.le_trans L1.out.size q.1,Nat.lt_of_lt_of_le q.2 (by rw[z9];exact L25.out.size)⟩) (fun a q=>cell_block ((l9.block _ (Nat.lt_of_lt_of_le q.2 L25.out.size) (fun e=>Nat.lt_irrefl _ (Nat.lt_of_lt_of_le (e▸HB.out.2) q.1))).trans (L25.out.block _ q.2)))⟩
theorem refAtom_setBad (hat:at_<s.size) (hs:s.size≤900) (hc:s[at_]=91) {F:Nat→Bool} {n:Nat} {er:Int} (hR:M13.parse (s.data.toList.drop at_)=(F,n,er)) (hP: ∀w,Calls Tryz.prog 154 #[.string (s.extract at_ s.size)] w (W13.Parsed w (M13.parse (s.data.toList.drop at_)))) (he:er≠0):
    Calls Tryz.prog 136 #[.string s,.int .i64 at_,.int .i64 deep] w (Gots w (.bad at_ er)):=by
 have h2:(at_:Int)<(s.size:Int):=by omega
 have hw1:wrap64 ((at_:Int)+1)=((at_+1:Nat):Int):=by unfold wrap64;omega
 have hw2:wrap64 ((at_:Int)+2)=((at_+2:Nat):Int):=by unfold wrap64;omega
 have t40:((s[at_].toNat:Int)==40)=false:=u8n (show¬s[at_]=40 by rw[hc];decide)
 have n40:((s[at_].toNat:Int) !=40)=true:=by show(!((s[at_].toNat:Int)==40))=true;rw[t40];rfl
 have t91:((s[at_].toNat:Int)==91)=true:=u8y hc
 have n91:((s[at_].toNat:Int) !=91)=false:=by show(!((s[at_].toNat:Int)==91))=false;rw[t91];rfl
 rw[hR]at hP
 have HC:=hid hP
 have h3:(at_:Int)≤(s.size:Int):=by omega
 have hle:=parse_le (s:=s.data.toList.drop at_)
 rw[hR,List.length_drop,←Lib.size_eq]at hle
 simp only at hle
 clear hc hP hR
 have HE:=hid he
 have te:(er !=0)=true:=by simpa using he
 clear hle he
 go_enter Tryz.func136,Tryz.ntmps136
 go_wp2_with (first|(refine alloc_got rfl rfl ?_;intro w1 b1 e1 p1 l1 z1;have G1:=hid p1;have L1:=hid l1;have HB:=hid (show w.heap.size≤b1∧b1<w1.heap.size from⟨by omega,by omega⟩);clear e1 p1 l1 z1))
 refine(HC.out _).mono ?_
 rintro e w2 ⟨rfl,l2⟩
 have G2:=hid (G1.out.below l2)
 have L2:=hid (L1.out.trans (l2.mono L1.out.size))
 clear l2
 go_wp2_with fail
 refine(refBad_any at_ er HE.out _).mono ?_
 rintro e w5 hg
 obtain⟨r5,to5,er5,bad5,rfl⟩:=got_form (gots_l hg)
 have GG:=hid hg
 have G5:=hid (G2.out.below hg.1)
 have L5:=hid (L2.out.trans (hg.1.mono L2.out.size))
 have K5:=hid (show w.heap.size≤_∧b1<_ from⟨L2.out.size,G2.out.lt⟩)
 clear hg
 go_wp2_with (first
  |(refine store_got (r:=r5) (to:=to5) (e:=er5) (bad:=bad5) rfl (.tmp 6) (.tmp 61) rfl rfl rfl G5.out ?_;intro w9 p9 l9 z9))
 refine end_got rfl rfl p9 rfl ?_
 exact gots_more (gots_l GG.out) (old_below L5.out l9 HB.out.1) l9 K5.out.1 K5.out.2
theorem refAtom_setOk (hat:at_<s.size) (hs:s.size≤900) (hc:s[at_]=91) {F:Nat→Bool} {n:Nat} {er:Int} (hR:M13.parse (s.data.toList.drop at_)=(F,n,er)) (hP: ∀w,Calls Tryz.prog 154 #[.string (s.extract at_ s.size)] w (W13.Parsed w (M13.parse (s.data.toList.drop at_)))) (he:er=0):
    Calls Tryz.prog 136 #[.string s,.int .i64 at_,.int .i64 deep] w (Gots w (.ok (leaf 4 (txt F)) (at_+n))):=by
 have h2:(at_:Int)<(s.size:Int):=by omega
 have hw1:wrap64 ((at_:Int)+1)=((at_+1:Nat):Int):=by unfold wrap64;omega
 have hw2:wrap64 ((at_:Int)+2)=((at_+2:Nat):Int):=by unfold wrap64;omega
 have t40:((s[at_].toNat:Int)==40)=false:=u8n (show¬s[at_]=40 by rw[hc];decide)
 have n40:((s[at_].toNat:Int) !=40)=true:=by show(!((s[at_].toNat:Int)==40))=true;rw[t40];rfl
 have t91:((s[at_].toNat:Int)==91)=true:=u8y hc
 have n91:((s[at_].toNat:Int) !=91)=false:=by show(!((s[at_].toNat:Int)==91))=false;rw[t91];rfl
 rw[hR]at hP
 have HC:=hid hP
 have h3:(at_:Int)≤(s.size:Int):=by omega
 have hle:=parse_le (s:=s.data.toList.drop at_)
 rw[hR,List.length_drop,←Lib.size_eq]at hle
 simp only at hle
 clear hc hP hR
 subst he
 have hn:=(hle rfl).1
 have hw3:wrap64 ((at_:Int)+(n:Int))=((at_+n:Nat):Int):=by unfold wrap64;omega
 clear hle hn
 go_enter Tryz.func136,Tryz.ntmps136
 go_wp2_with (first|(refine alloc_got rfl rfl ?_;intro w1 b1 e1 p1 l1 z1;have G1:=hid p1;have L1:=hid l1;have HB:=hid (show w.heap.size≤b1∧b1<w1.heap.size from⟨by omega,by omega⟩);clear e1 p1 l1 z1))
 refine(HC.out _).mono ?_
 rintro e w2 ⟨rfl,l2⟩
 have G2:=hid (G1.out.below l2)
 have L2:=hid (L1.out.trans (l2.mono L1.out.size))
 clear l2
 go_wp2_with fail
 refine(refLeaf_any 4 (txt F) (at_+n) _).mono ?_
 rintro e w5 hg
 obtain⟨r5,to5,er5,bad5,rfl⟩:=got_form (gots_l hg)
 have GG:=hid hg
 have G5:=hid (G2.out.below hg.1)
 have L5:=hid (L2.out.trans (hg.1.mono L2.out.size))
 have K5:=hid (show w.heap.size≤_∧b1<_ from⟨L2.out.size,G2.out.lt⟩)
 clear hg
 go_wp2_with (first
  |(refine store_got (r:=r5) (to:=to5) (e:=er5) (bad:=bad5) rfl (.tmp 6) (.tmp 66) rfl rfl rfl G5.out ?_;intro w9 p9 l9 z9))
 refine end_got rfl rfl p9 rfl ?_
 exact gots_more (gots_l GG.out) (old_below L5.out l9 HB.out.1) l9 K5.out.1 K5.out.2
end
end W14
end Go.Proofs.YtfgegjinhkgpbaaGreatDoor
