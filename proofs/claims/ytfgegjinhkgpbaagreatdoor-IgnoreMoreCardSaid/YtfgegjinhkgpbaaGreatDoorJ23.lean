/-
  Texts joined, in build order, each with its own comment and its own conditions: W13RefN.
-/
import Derived.Test.YtfgegjinhkgpbaaGreatDoorJ09
namespace Go.Proofs.YtfgegjinhkgpbaaGreatDoor
set_option maxHeartbeats 4000000
set_option maxRecDepth 100000
open Go.RowKit
open Lib (hid)
namespace W13
open M13 Row256
open Kit (ret_str ret_bool ret_int mk_of mk_bytes ba_ext below_draws on)
theorem u8_no {c d:UInt8} (h: ¬c=d):(((c.toNat:Nat):Int)==((d.toNat:Nat):Int))=false:=beq_eq_false_iff_ne.2 fun e=>h (Kit.byte_eq e)
theorem u8_yes {c d:UInt8} (h:c=d):(((c.toNat:Nat):Int)==((d.toNat:Nat):Int))=true:=by rw[h];exact beq_self_eq_true _
theorem two_eq {f g:Nat→Bool} {b c:Bool} (h: ∀i,i<256→f i=g i) (e:b=c):Ending.returned (.tuple #[.string (tx f),.bool b])=Ending.returned (.tuple #[.string (tx g),.bool c]):=by rw[tx_congr h,e]
def wordR (i:Nat):Bool:=(between 48 57 i||between 97 122 i)||(between 65 90 i||between 95 95 i)
def spaceR (i:Nat):Bool:=between 9 13 i||between 32 32 i
theorem one_is (a i:Nat):between a a i=decide (i=a):=by
 unfold between
 by_cases e:i=a
 ·subst e;simp
 ·rw[decide_eq_false e];simp;omega
theorem word_is (i:Nat):wordR i=wordF i:=by
 unfold wordR wordF
 rw[one_is]
 cases between 48 57 i<;>cases between 97 122 i<;>cases between 65 90 i<;>cases decide (i=95)<;>rfl
theorem not_word (i:Nat):(!between 48 57 i&& !between 97 122 i&&(!between 65 90 i&& !between 95 95 i))= !wordF i:=by
 rw[←word_is]
 unfold wordR
 cases between 48 57 i<;>cases between 97 122 i<;>cases between 65 90 i<;>cases between 95 95 i<;>rfl
theorem space_is (i:Nat):spaceR i=spaceF i:=by unfold spaceR spaceF;rw[one_is]
theorem not_space (i:Nat):(!between 9 13 i&& !between 32 32 i)= !spaceF i:=by
 rw[←space_is]
 unfold spaceR
 cases between 9 13 i<;>cases between 32 32 i<;>rfl
theorem refNamed_100 {c:UInt8} (h100:c=100) (w:World):Calls Tryz.prog 155 #[.int .u8 c.toNat] w fun e w'=>e= .returned (.tuple #[.string (tx (namedF c)),.bool (letter c)])∧Below w.heap.size w w':=by
 have HF:=hid h100
 have t100:(((c.toNat:Nat):Int)==100)=true:=u8_yes (d:=100) h100
 clear h100
 have HB:=hid (Below.refl w.heap.size w)
 go_enter Tryz.func155,Tryz.ntmps155
 go_wp2_with fail
 refine(refSpan_any 48 57 (by omega) _).mono ?_
 rintro e w1 ⟨rfl,hb1⟩
 replace HB:=hid (on HB.out hb1)
 clear hb1
 go_wp2_with fail
 refine(refSpan_any 97 122 (by omega) _).mono ?_
 rintro e w2 ⟨rfl,hb2⟩
 replace HB:=hid (on HB.out hb2)
 clear hb2
 go_wp2_with fail
 refine(refUnion_tx _ _ _).mono ?_
 rintro e w3 ⟨rfl,hb3⟩
 replace HB:=hid (on HB.out hb3)
 clear hb3
 go_wp2_with fail
 refine(refSpan_any 65 90 (by omega) _).mono ?_
 rintro e w4 ⟨rfl,hb4⟩
 replace HB:=hid (on HB.out hb4)
 clear hb4
 go_wp2_with fail
 refine(refSpan_any 95 95 (by omega) _).mono ?_
 rintro e w5 ⟨rfl,hb5⟩
 replace HB:=hid (on HB.out hb5)
 clear hb5
 go_wp2_with fail
 refine(refUnion_tx _ _ _).mono ?_
 rintro e w6 ⟨rfl,hb6⟩
 replace HB:=hid (on HB.out hb6)
 clear hb6
 go_wp2_with fail
 refine(refUnion_tx _ _ _).mono ?_
 rintro e w7 ⟨rfl,hb7⟩
 replace HB:=hid (on HB.out hb7)
 clear hb7
 go_wp2_with fail
 refine(refSpan_any 9 13 (by omega) _).mono ?_
 rintro e w8 ⟨rfl,hb8⟩
 replace HB:=hid (on HB.out hb8)
 clear hb8
 go_wp2_with fail
 refine(refSpan_any 32 32 (by omega) _).mono ?_
 rintro e w9 ⟨rfl,hb9⟩
 replace HB:=hid (on HB.out hb9)
 clear hb9
 go_wp2_with fail
 refine(refUnion_tx _ _ _).mono ?_
 rintro e w10 ⟨rfl,hb10⟩
 replace HB:=hid (on HB.out hb10)
 clear hb10
 go_wp2_with fail
 go_ret2
 obtain rfl:=HF.out
 exact⟨two_eq (fun i _=>rfl) rfl,HB.out⟩
theorem refNamed_119 {c:UInt8} (h100: ¬c=100) (h119:c=119) (w:World):Calls Tryz.prog 155 #[.int .u8 c.toNat] w fun e w'=>e= .returned (.tuple #[.string (tx (namedF c)),.bool (letter c)])∧Below w.heap.size w w':=by
 have HF:=hid h119
 have t100:(((c.toNat:Nat):Int)==100)=false:=u8_no (d:=100) h100
 have t119:(((c.toNat:Nat):Int)==119)=true:=u8_yes (d:=119) h119
 clear h100 h119
 have HB:=hid (Below.refl w.heap.size w)
 go_enter Tryz.func155,Tryz.ntmps155
 go_wp2_with fail
 refine(refSpan_any 48 57 (by omega) _).mono ?_
 rintro e w1 ⟨rfl,hb1⟩
 replace HB:=hid (on HB.out hb1)
 clear hb1
 go_wp2_with fail
 refine(refSpan_any 97 122 (by omega) _).mono ?_
 rintro e w2 ⟨rfl,hb2⟩
 replace HB:=hid (on HB.out hb2)
 clear hb2
 go_wp2_with fail
 refine(refUnion_tx _ _ _).mono ?_
 rintro e w3 ⟨rfl,hb3⟩
 replace HB:=hid (on HB.out hb3)
 clear hb3
 go_wp2_with fail
 refine(refSpan_any 65 90 (by omega) _).mono ?_
 rintro e w4 ⟨rfl,hb4⟩
 replace HB:=hid (on HB.out hb4)
 clear hb4
 go_wp2_with fail
 refine(refSpan_any 95 95 (by omega) _).mono ?_
 rintro e w5 ⟨rfl,hb5⟩
 replace HB:=hid (on HB.out hb5)
 clear hb5
 go_wp2_with fail
 refine(refUnion_tx _ _ _).mono ?_
 rintro e w6 ⟨rfl,hb6⟩
 replace HB:=hid (on HB.out hb6)
 clear hb6
 go_wp2_with fail
 refine(refUnion_tx _ _ _).mono ?_
 rintro e w7 ⟨rfl,hb7⟩
 replace HB:=hid (on HB.out hb7)
 clear hb7
 go_wp2_with fail
 refine(refSpan_any 9 13 (by omega) _).mono ?_
 rintro e w8 ⟨rfl,hb8⟩
 replace HB:=hid (on HB.out hb8)
 clear hb8
 go_wp2_with fail
 refine(refSpan_any 32 32 (by omega) _).mono ?_
 rintro e w9 ⟨rfl,hb9⟩
 replace HB:=hid (on HB.out hb9)
 clear hb9
 go_wp2_with fail
 refine(refUnion_tx _ _ _).mono ?_
 rintro e w10 ⟨rfl,hb10⟩
 replace HB:=hid (on HB.out hb10)
 clear hb10
 go_wp2_with fail
 go_ret2
 obtain rfl:=HF.out
 exact⟨two_eq (fun i _=>word_is i) rfl,HB.out⟩
theorem refNamed_115 {c:UInt8} (h100: ¬c=100) (h119: ¬c=119) (h115:c=115) (w:World):Calls Tryz.prog 155 #[.int .u8 c.toNat] w fun e w'=>e= .returned (.tuple #[.string (tx (namedF c)),.bool (letter c)])∧Below w.heap.size w w':=by
 have HF:=hid h115
 have t100:(((c.toNat:Nat):Int)==100)=false:=u8_no (d:=100) h100
 have t119:(((c.toNat:Nat):Int)==119)=false:=u8_no (d:=119) h119
 have t115:(((c.toNat:Nat):Int)==115)=true:=u8_yes (d:=115) h115
 clear h100 h119 h115
 have HB:=hid (Below.refl w.heap.size w)
 go_enter Tryz.func155,Tryz.ntmps155
 go_wp2_with fail
 refine(refSpan_any 48 57 (by omega) _).mono ?_
 rintro e w1 ⟨rfl,hb1⟩
 replace HB:=hid (on HB.out hb1)
 clear hb1
 go_wp2_with fail
 refine(refSpan_any 97 122 (by omega) _).mono ?_
 rintro e w2 ⟨rfl,hb2⟩
 replace HB:=hid (on HB.out hb2)
 clear hb2
 go_wp2_with fail
 refine(refUnion_tx _ _ _).mono ?_
 rintro e w3 ⟨rfl,hb3⟩
 replace HB:=hid (on HB.out hb3)
 clear hb3
 go_wp2_with fail
 refine(refSpan_any 65 90 (by omega) _).mono ?_
 rintro e w4 ⟨rfl,hb4⟩
 replace HB:=hid (on HB.out hb4)
 clear hb4
 go_wp2_with fail
 refine(refSpan_any 95 95 (by omega) _).mono ?_
 rintro e w5 ⟨rfl,hb5⟩
 replace HB:=hid (on HB.out hb5)
 clear hb5
 go_wp2_with fail
 refine(refUnion_tx _ _ _).mono ?_
 rintro e w6 ⟨rfl,hb6⟩
 replace HB:=hid (on HB.out hb6)
 clear hb6
 go_wp2_with fail
 refine(refUnion_tx _ _ _).mono ?_
 rintro e w7 ⟨rfl,hb7⟩
 replace HB:=hid (on HB.out hb7)
 clear hb7
 go_wp2_with fail
 refine(refSpan_any 9 13 (by omega) _).mono ?_
 rintro e w8 ⟨rfl,hb8⟩
 replace HB:=hid (on HB.out hb8)
 clear hb8
 go_wp2_with fail
 refine(refSpan_any 32 32 (by omega) _).mono ?_
 rintro e w9 ⟨rfl,hb9⟩
 replace HB:=hid (on HB.out hb9)
 clear hb9
 go_wp2_with fail
 refine(refUnion_tx _ _ _).mono ?_
 rintro e w10 ⟨rfl,hb10⟩
 replace HB:=hid (on HB.out hb10)
 clear hb10
 go_wp2_with fail
 go_ret2
 obtain rfl:=HF.out
 exact⟨two_eq (fun i _=>space_is i) rfl,HB.out⟩
theorem refNamed_68 {c:UInt8} (h100: ¬c=100) (h119: ¬c=119) (h115: ¬c=115) (h68:c=68) (w:World):Calls Tryz.prog 155 #[.int .u8 c.toNat] w fun e w'=>e= .returned (.tuple #[.string (tx (namedF c)),.bool (letter c)])∧Below w.heap.size w w':=by
 have HF:=hid h68
 have t100:(((c.toNat:Nat):Int)==100)=false:=u8_no (d:=100) h100
 have t119:(((c.toNat:Nat):Int)==119)=false:=u8_no (d:=119) h119
 have t115:(((c.toNat:Nat):Int)==115)=false:=u8_no (d:=115) h115
 have t68:(((c.toNat:Nat):Int)==68)=true:=u8_yes (d:=68) h68
 clear h100 h119 h115 h68
 have HB:=hid (Below.refl w.heap.size w)
 go_enter Tryz.func155,Tryz.ntmps155
 go_wp2_with fail
 refine(refSpan_any 48 57 (by omega) _).mono ?_
 rintro e w1 ⟨rfl,hb1⟩
 replace HB:=hid (on HB.out hb1)
 clear hb1
 go_wp2_with fail
 refine(refSpan_any 97 122 (by omega) _).mono ?_
 rintro e w2 ⟨rfl,hb2⟩
 replace HB:=hid (on HB.out hb2)
 clear hb2
 go_wp2_with fail
 refine(refUnion_tx _ _ _).mono ?_
 rintro e w3 ⟨rfl,hb3⟩
 replace HB:=hid (on HB.out hb3)
 clear hb3
 go_wp2_with fail
 refine(refSpan_any 65 90 (by omega) _).mono ?_
 rintro e w4 ⟨rfl,hb4⟩
 replace HB:=hid (on HB.out hb4)
 clear hb4
 go_wp2_with fail
 refine(refSpan_any 95 95 (by omega) _).mono ?_
 rintro e w5 ⟨rfl,hb5⟩
 replace HB:=hid (on HB.out hb5)
 clear hb5
 go_wp2_with fail
 refine(refUnion_tx _ _ _).mono ?_
 rintro e w6 ⟨rfl,hb6⟩
 replace HB:=hid (on HB.out hb6)
 clear hb6
 go_wp2_with fail
 refine(refUnion_tx _ _ _).mono ?_
 rintro e w7 ⟨rfl,hb7⟩
 replace HB:=hid (on HB.out hb7)
 clear hb7
 go_wp2_with fail
 refine(refSpan_any 9 13 (by omega) _).mono ?_
 rintro e w8 ⟨rfl,hb8⟩
 replace HB:=hid (on HB.out hb8)
 clear hb8
 go_wp2_with fail
 refine(refSpan_any 32 32 (by omega) _).mono ?_
 rintro e w9 ⟨rfl,hb9⟩
 replace HB:=hid (on HB.out hb9)
 clear hb9
 go_wp2_with fail
 refine(refUnion_tx _ _ _).mono ?_
 rintro e w10 ⟨rfl,hb10⟩
 replace HB:=hid (on HB.out hb10)
 clear hb10
 go_wp2_with fail
 refine(refNot_tx _ _).mono ?_
 rintro e w11 ⟨rfl,hb11⟩
 replace HB:=hid (on HB.out hb11)
 clear hb11
 go_wp2_with fail
 go_ret2
 obtain rfl:=HF.out
 exact⟨two_eq (fun i _=>rfl) rfl,HB.out⟩
theorem refNamed_87 {c:UInt8} (h100: ¬c=100) (h119: ¬c=119) (h115: ¬c=115) (h68: ¬c=68) (h87:c=87) (w:World):Calls Tryz.prog 155 #[.int .u8 c.toNat] w fun e w'=>e= .returned (.tuple #[.string (tx (namedF c)),.bool (letter c)])∧Below w.heap.size w w':=by
 have HF:=hid h87
 have t100:(((c.toNat:Nat):Int)==100)=false:=u8_no (d:=100) h100
 have t119:(((c.toNat:Nat):Int)==119)=false:=u8_no (d:=119) h119
 have t115:(((c.toNat:Nat):Int)==115)=false:=u8_no (d:=115) h115
 have t68:(((c.toNat:Nat):Int)==68)=false:=u8_no (d:=68) h68
 have t87:(((c.toNat:Nat):Int)==87)=true:=u8_yes (d:=87) h87
 clear h100 h119 h115 h68 h87
 have HB:=hid (Below.refl w.heap.size w)
 go_enter Tryz.func155,Tryz.ntmps155
 go_wp2_with fail
 refine(refSpan_any 48 57 (by omega) _).mono ?_
 rintro e w1 ⟨rfl,hb1⟩
 replace HB:=hid (on HB.out hb1)
 clear hb1
 go_wp2_with fail
 refine(refSpan_any 97 122 (by omega) _).mono ?_
 rintro e w2 ⟨rfl,hb2⟩
 replace HB:=hid (on HB.out hb2)
 clear hb2
 go_wp2_with fail
 refine(refUnion_tx _ _ _).mono ?_
 rintro e w3 ⟨rfl,hb3⟩
 replace HB:=hid (on HB.out hb3)
 clear hb3
 go_wp2_with fail
 refine(refSpan_any 65 90 (by omega) _).mono ?_
 rintro e w4 ⟨rfl,hb4⟩
 replace HB:=hid (on HB.out hb4)
 clear hb4
 go_wp2_with fail
 refine(refSpan_any 95 95 (by omega) _).mono ?_
 rintro e w5 ⟨rfl,hb5⟩
 replace HB:=hid (on HB.out hb5)
 clear hb5
 go_wp2_with fail
 refine(refUnion_tx _ _ _).mono ?_
 rintro e w6 ⟨rfl,hb6⟩
 replace HB:=hid (on HB.out hb6)
 clear hb6
 go_wp2_with fail
 refine(refUnion_tx _ _ _).mono ?_
 rintro e w7 ⟨rfl,hb7⟩
 replace HB:=hid (on HB.out hb7)
 clear hb7
 go_wp2_with fail
 refine(refSpan_any 9 13 (by omega) _).mono ?_
 rintro e w8 ⟨rfl,hb8⟩
 replace HB:=hid (on HB.out hb8)
 clear hb8
 go_wp2_with fail
 refine(refSpan_any 32 32 (by omega) _).mono ?_
 rintro e w9 ⟨rfl,hb9⟩
 replace HB:=hid (on HB.out hb9)
 clear hb9
 go_wp2_with fail
 refine(refUnion_tx _ _ _).mono ?_
 rintro e w10 ⟨rfl,hb10⟩
 replace HB:=hid (on HB.out hb10)
 clear hb10
 go_wp2_with fail
 refine(refNot_tx _ _).mono ?_
 rintro e w11 ⟨rfl,hb11⟩
 replace HB:=hid (on HB.out hb11)
 clear hb11
 go_wp2_with fail
 go_ret2
 obtain rfl:=HF.out
 exact⟨two_eq (fun i _=>not_word i) rfl,HB.out⟩
theorem refNamed_83 {c:UInt8} (h100: ¬c=100) (h119: ¬c=119) (h115: ¬c=115) (h68: ¬c=68) (h87: ¬c=87) (h83:c=83) (w:World):Calls Tryz.prog 155 #[.int .u8 c.toNat] w fun e w'=>e= .returned (.tuple #[.string (tx (namedF c)),.bool (letter c)])∧Below w.heap.size w w':=by
 have HF:=hid h83
 have t100:(((c.toNat:Nat):Int)==100)=false:=u8_no (d:=100) h100
 have t119:(((c.toNat:Nat):Int)==119)=false:=u8_no (d:=119) h119
 have t115:(((c.toNat:Nat):Int)==115)=false:=u8_no (d:=115) h115
 have t68:(((c.toNat:Nat):Int)==68)=false:=u8_no (d:=68) h68
 have t87:(((c.toNat:Nat):Int)==87)=false:=u8_no (d:=87) h87
 have t83:(((c.toNat:Nat):Int)==83)=true:=u8_yes (d:=83) h83
 clear h100 h119 h115 h68 h87 h83
 have HB:=hid (Below.refl w.heap.size w)
 go_enter Tryz.func155,Tryz.ntmps155
 go_wp2_with fail
 refine(refSpan_any 48 57 (by omega) _).mono ?_
 rintro e w1 ⟨rfl,hb1⟩
 replace HB:=hid (on HB.out hb1)
 clear hb1
 go_wp2_with fail
 refine(refSpan_any 97 122 (by omega) _).mono ?_
 rintro e w2 ⟨rfl,hb2⟩
 replace HB:=hid (on HB.out hb2)
 clear hb2
 go_wp2_with fail
 refine(refUnion_tx _ _ _).mono ?_
 rintro e w3 ⟨rfl,hb3⟩
 replace HB:=hid (on HB.out hb3)
 clear hb3
 go_wp2_with fail
 refine(refSpan_any 65 90 (by omega) _).mono ?_
 rintro e w4 ⟨rfl,hb4⟩
 replace HB:=hid (on HB.out hb4)
 clear hb4
 go_wp2_with fail
 refine(refSpan_any 95 95 (by omega) _).mono ?_
 rintro e w5 ⟨rfl,hb5⟩
 replace HB:=hid (on HB.out hb5)
 clear hb5
 go_wp2_with fail
 refine(refUnion_tx _ _ _).mono ?_
 rintro e w6 ⟨rfl,hb6⟩
 replace HB:=hid (on HB.out hb6)
 clear hb6
 go_wp2_with fail
 refine(refUnion_tx _ _ _).mono ?_
 rintro e w7 ⟨rfl,hb7⟩
 replace HB:=hid (on HB.out hb7)
 clear hb7
 go_wp2_with fail
 refine(refSpan_any 9 13 (by omega) _).mono ?_
 rintro e w8 ⟨rfl,hb8⟩
 replace HB:=hid (on HB.out hb8)
 clear hb8
 go_wp2_with fail
 refine(refSpan_any 32 32 (by omega) _).mono ?_
 rintro e w9 ⟨rfl,hb9⟩
 replace HB:=hid (on HB.out hb9)
 clear hb9
 go_wp2_with fail
 refine(refUnion_tx _ _ _).mono ?_
 rintro e w10 ⟨rfl,hb10⟩
 replace HB:=hid (on HB.out hb10)
 clear hb10
 go_wp2_with fail
 refine(refNot_tx _ _).mono ?_
 rintro e w11 ⟨rfl,hb11⟩
 replace HB:=hid (on HB.out hb11)
 clear hb11
 go_wp2_with fail
 go_ret2
 obtain rfl:=HF.out
 exact⟨two_eq (fun i _=>not_space i) rfl,HB.out⟩
theorem refNamed_no {c:UInt8} (h100: ¬c=100) (h119: ¬c=119) (h115: ¬c=115) (h68: ¬c=68) (h87: ¬c=87) (h83: ¬c=83) (w:World):Calls Tryz.prog 155 #[.int .u8 c.toNat] w fun e w'=>e= .returned (.tuple #[.string (tx (namedF c)),.bool (letter c)])∧Below w.heap.size w w':=by
 have HF:Hid (namedF c=(fun _=>false)∧letter c=false):=by
  refine⟨?_,?_⟩
  ·funext i
   unfold namedF
   rw[if_neg h100,if_neg h119,if_neg h115,if_neg h68,if_neg h87,if_neg h83]
  ·unfold letter
   rw[decide_eq_false h100,decide_eq_false h119,decide_eq_false h115,decide_eq_false h68,decide_eq_false h87,decide_eq_false h83];rfl
 have t100:(((c.toNat:Nat):Int)==100)=false:=u8_no (d:=100) h100
 have t119:(((c.toNat:Nat):Int)==119)=false:=u8_no (d:=119) h119
 have t115:(((c.toNat:Nat):Int)==115)=false:=u8_no (d:=115) h115
 have t68:(((c.toNat:Nat):Int)==68)=false:=u8_no (d:=68) h68
 have t87:(((c.toNat:Nat):Int)==87)=false:=u8_no (d:=87) h87
 have t83:(((c.toNat:Nat):Int)==83)=false:=u8_no (d:=83) h83
 clear h100 h119 h115 h68 h87 h83
 have HB:=hid (Below.refl w.heap.size w)
 go_enter Tryz.func155,Tryz.ntmps155
 go_wp2_with fail
 refine(refSpan_any 48 57 (by omega) _).mono ?_
 rintro e w1 ⟨rfl,hb1⟩
 replace HB:=hid (on HB.out hb1)
 clear hb1
 go_wp2_with fail
 refine(refSpan_any 97 122 (by omega) _).mono ?_
 rintro e w2 ⟨rfl,hb2⟩
 replace HB:=hid (on HB.out hb2)
 clear hb2
 go_wp2_with fail
 refine(refUnion_tx _ _ _).mono ?_
 rintro e w3 ⟨rfl,hb3⟩
 replace HB:=hid (on HB.out hb3)
 clear hb3
 go_wp2_with fail
 refine(refSpan_any 65 90 (by omega) _).mono ?_
 rintro e w4 ⟨rfl,hb4⟩
 replace HB:=hid (on HB.out hb4)
 clear hb4
 go_wp2_with fail
 refine(refSpan_any 95 95 (by omega) _).mono ?_
 rintro e w5 ⟨rfl,hb5⟩
 replace HB:=hid (on HB.out hb5)
 clear hb5
 go_wp2_with fail
 refine(refUnion_tx _ _ _).mono ?_
 rintro e w6 ⟨rfl,hb6⟩
 replace HB:=hid (on HB.out hb6)
 clear hb6
 go_wp2_with fail
 refine(refUnion_tx _ _ _).mono ?_
 rintro e w7 ⟨rfl,hb7⟩
 replace HB:=hid (on HB.out hb7)
 clear hb7
 go_wp2_with fail
 refine(refSpan_any 9 13 (by omega) _).mono ?_
 rintro e w8 ⟨rfl,hb8⟩
 replace HB:=hid (on HB.out hb8)
 clear hb8
 go_wp2_with fail
 refine(refSpan_any 32 32 (by omega) _).mono ?_
 rintro e w9 ⟨rfl,hb9⟩
 replace HB:=hid (on HB.out hb9)
 clear hb9
 go_wp2_with fail
 refine(refUnion_tx _ _ _).mono ?_
 rintro e w10 ⟨rfl,hb10⟩
 replace HB:=hid (on HB.out hb10)
 clear hb10
 go_wp2_with fail
 refine(refSpan_any 1 0 (by omega) _).mono ?_
 rintro e w11 ⟨rfl,hb11⟩
 replace HB:=hid (on HB.out hb11)
 clear hb11
 go_wp2_with fail
 go_ret2
 refine⟨two_eq (fun i _=> ?_) ?_,HB.out⟩
 ·rw[HF.out.1];unfold between;by_cases e:1≤i
  ·rw[decide_eq_false (show¬i≤0 by omega),Bool.and_false]
  ·rw[decide_eq_false e,Bool.false_and]
 ·exact HF.out.2.symm
theorem refNamed_any (c:UInt8) (w:World):Calls Tryz.prog 155 #[.int .u8 c.toNat] w fun e w'=>e= .returned (.tuple #[.string (tx (namedF c)),.bool (letter c)])∧Below w.heap.size w w':=by
 by_cases h100:c=100
 ·exact refNamed_100 h100 w
 by_cases h119:c=119
 ·exact refNamed_119 h100 h119 w
 by_cases h115:c=115
 ·exact refNamed_115 h100 h119 h115 w
 by_cases h68:c=68
 ·exact refNamed_68 h100 h119 h115 h68 w
 by_cases h87:c=87
 ·exact refNamed_87 h100 h119 h115 h68 h87 w
 by_cases h83:c=83
 ·exact refNamed_83 h100 h119 h115 h68 h87 h83 w
 exact refNamed_no h100 h119 h115 h68 h87 h83 w
end W13
end Go.Proofs.YtfgegjinhkgpbaaGreatDoor
