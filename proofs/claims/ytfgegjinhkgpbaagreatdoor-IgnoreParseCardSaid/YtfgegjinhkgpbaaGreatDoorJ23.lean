/-
  Texts joined, in build order, each with its own comment and its own conditions: W13RefN.
-/
import Derived.Test.YtfgegjinhkgpbaaGreatDoorJ10
namespace Go.Proofs.YtfgegjinhkgpbaaGreatDoor
set_option maxHeartbeats 4000000
set_option maxRecDepth 100000
open Go.RowKit
open Lib (hid)
namespace FD
open Ew BU
open Kit (Au AX BO CL Ae BM below_draws on)
theorem DC {c d:UInt8} (h: ¬c=d):(((c.toNat:Nat):Int)==((d.toNat:Nat):Int))=false:=beq_eq_false_iff_ne.2 fun e=>h (Kit.EZ e)
theorem Db {c d:UInt8} (h:c=d):(((c.toNat:Nat):Int)==((d.toNat:Nat):Int))=true:=by rw[h];exact beq_self_eq_true _
theorem Lt {f g:Nat->Bool} {b c:Bool} (h: ∀i,i<256->f i=g i) (e:b=c):Ending.returned (.tuple #[.string (tx f),.bool b])=Ending.returned (.tuple #[.string (tx g),.bool c]):=by rw[Em h,e]
def lF (i:Nat):Bool:=(between 48 57 i||between 97 122 i)||(between 65 90 i||between 95 95 i)
def Z9 (i:Nat):Bool:=between 9 13 i||between 32 32 i
theorem Z_ (a i:Nat):between a a i=decide (i=a):=by
 unfold between
 by_cases e:i=a
 ·subst e;simp
 rw[decide_eq_false e];simp;omega
theorem bI (i:Nat):lF i=Wn i:=by
 unfold lF Wn
 rw[Z_]
 cases between 48 57 i<;>cases between 97 122 i<;>cases between 65 90 i<;>cases decide (i=95)<;>rfl
theorem lG (i:Nat):(!between 48 57 i&& !between 97 122 i&&(!between 65 90 i&& !between 95 95 i))= !Wn i:=by
 rw[<-bI]
 unfold lF
 cases between 48 57 i<;>cases between 97 122 i<;>cases between 65 90 i<;>cases between 95 95 i<;>rfl
theorem X9 (i:Nat):Z9 i=QM i:=by unfold Z9 QM;rw[Z_]
theorem fC (i:Nat):(!between 9 13 i&& !between 32 32 i)= !QM i:=by
 rw[<-X9]
 unfold Z9
 cases between 9 13 i<;>cases between 32 32 i<;>rfl
theorem Vk {c:UInt8} (E8:c=100) (w:World):Calls Tryz.prog 155 #[.int .u8 c.toNat] w fun e w'=>e= .returned (.tuple #[.string (tx (Bt c)),.bool (letter c)])/\Below w.heap.size w w':=by
 have HF:=hid E8
 have t100:(((c.toNat:Nat):Int)==100)=true:=Db (d:=100) E8
 clear E8
 have HB:=hid (Below.refl w.heap.size w)
 go_enter Tryz.func155,Tryz.ntmps155
 go_wp2_with fail
 refine(Ac 48 57 (by omega) _).mono ?_
 rintro e w1 ⟨rfl,hb1⟩
 replace HB:=hid (on HB.out hb1)
 clear hb1
 go_wp2_with fail
 refine(Ac 97 122 (by omega) _).mono ?_
 rintro e w2 ⟨rfl,hb2⟩
 replace HB:=hid (on HB.out hb2)
 clear hb2
 go_wp2_with fail
 refine(Aw _ _ _).mono ?_
 rintro e w3 ⟨rfl,hb3⟩
 replace HB:=hid (on HB.out hb3)
 clear hb3
 go_wp2_with fail
 refine(Ac 65 90 (by omega) _).mono ?_
 rintro e w4 ⟨rfl,hb4⟩
 replace HB:=hid (on HB.out hb4)
 clear hb4
 go_wp2_with fail
 refine(Ac 95 95 (by omega) _).mono ?_
 rintro e w5 ⟨rfl,hb5⟩
 replace HB:=hid (on HB.out hb5)
 clear hb5
 go_wp2_with fail
 refine(Aw _ _ _).mono ?_
 rintro e w6 ⟨rfl,hb6⟩
 replace HB:=hid (on HB.out hb6)
 clear hb6
 go_wp2_with fail
 refine(Aw _ _ _).mono ?_
 rintro e w7 ⟨rfl,Ox⟩
 replace HB:=hid (on HB.out Ox)
 clear Ox
 go_wp2_with fail
 refine(Ac 9 13 (by omega) _).mono ?_
 rintro e w8 ⟨rfl,Uk⟩
 replace HB:=hid (on HB.out Uk)
 clear Uk
 go_wp2_with fail
 refine(Ac 32 32 (by omega) _).mono ?_
 rintro e w9 ⟨rfl,Ul⟩
 replace HB:=hid (on HB.out Ul)
 clear Ul
 go_wp2_with fail
 refine(Aw _ _ _).mono ?_
 rintro e kI ⟨rfl,I_⟩
 replace HB:=hid (on HB.out I_)
 clear I_
 go_wp2_with fail
 go_ret2
 obtain rfl:=HF.out
 exact⟨Lt (fun i _=>rfl) rfl,HB.out⟩
theorem Vl {c:UInt8} (E8: ¬c=100) (h119:c=119) (w:World):Calls Tryz.prog 155 #[.int .u8 c.toNat] w fun e w'=>e= .returned (.tuple #[.string (tx (Bt c)),.bool (letter c)])/\Below w.heap.size w w':=by
 have HF:=hid h119
 have t100:(((c.toNat:Nat):Int)==100)=false:=DC (d:=100) E8
 have t119:(((c.toNat:Nat):Int)==119)=true:=Db (d:=119) h119
 clear E8 h119
 have HB:=hid (Below.refl w.heap.size w)
 go_enter Tryz.func155,Tryz.ntmps155
 go_wp2_with fail
 refine(Ac 48 57 (by omega) _).mono ?_
 rintro e w1 ⟨rfl,hb1⟩
 replace HB:=hid (on HB.out hb1)
 clear hb1
 go_wp2_with fail
 refine(Ac 97 122 (by omega) _).mono ?_
 rintro e w2 ⟨rfl,hb2⟩
 replace HB:=hid (on HB.out hb2)
 clear hb2
 go_wp2_with fail
 refine(Aw _ _ _).mono ?_
 rintro e w3 ⟨rfl,hb3⟩
 replace HB:=hid (on HB.out hb3)
 clear hb3
 go_wp2_with fail
 refine(Ac 65 90 (by omega) _).mono ?_
 rintro e w4 ⟨rfl,hb4⟩
 replace HB:=hid (on HB.out hb4)
 clear hb4
 go_wp2_with fail
 refine(Ac 95 95 (by omega) _).mono ?_
 rintro e w5 ⟨rfl,hb5⟩
 replace HB:=hid (on HB.out hb5)
 clear hb5
 go_wp2_with fail
 refine(Aw _ _ _).mono ?_
 rintro e w6 ⟨rfl,hb6⟩
 replace HB:=hid (on HB.out hb6)
 clear hb6
 go_wp2_with fail
 refine(Aw _ _ _).mono ?_
 rintro e w7 ⟨rfl,Ox⟩
 replace HB:=hid (on HB.out Ox)
 clear Ox
 go_wp2_with fail
 refine(Ac 9 13 (by omega) _).mono ?_
 rintro e w8 ⟨rfl,Uk⟩
 replace HB:=hid (on HB.out Uk)
 clear Uk
 go_wp2_with fail
 refine(Ac 32 32 (by omega) _).mono ?_
 rintro e w9 ⟨rfl,Ul⟩
 replace HB:=hid (on HB.out Ul)
 clear Ul
 go_wp2_with fail
 refine(Aw _ _ _).mono ?_
 rintro e kI ⟨rfl,I_⟩
 replace HB:=hid (on HB.out I_)
 clear I_
 go_wp2_with fail
 go_ret2
 obtain rfl:=HF.out
 exact⟨Lt (fun i _=>bI i) rfl,HB.out⟩
theorem Vm {c:UInt8} (E8: ¬c=100) (h119: ¬c=119) (Hm:c=115) (w:World):Calls Tryz.prog 155 #[.int .u8 c.toNat] w fun e w'=>e= .returned (.tuple #[.string (tx (Bt c)),.bool (letter c)])/\Below w.heap.size w w':=by
 have HF:=hid Hm
 have t100:(((c.toNat:Nat):Int)==100)=false:=DC (d:=100) E8
 have t119:(((c.toNat:Nat):Int)==119)=false:=DC (d:=119) h119
 have t115:(((c.toNat:Nat):Int)==115)=true:=Db (d:=115) Hm
 clear E8 h119 Hm
 have HB:=hid (Below.refl w.heap.size w)
 go_enter Tryz.func155,Tryz.ntmps155
 go_wp2_with fail
 refine(Ac 48 57 (by omega) _).mono ?_
 rintro e w1 ⟨rfl,hb1⟩
 replace HB:=hid (on HB.out hb1)
 clear hb1
 go_wp2_with fail
 refine(Ac 97 122 (by omega) _).mono ?_
 rintro e w2 ⟨rfl,hb2⟩
 replace HB:=hid (on HB.out hb2)
 clear hb2
 go_wp2_with fail
 refine(Aw _ _ _).mono ?_
 rintro e w3 ⟨rfl,hb3⟩
 replace HB:=hid (on HB.out hb3)
 clear hb3
 go_wp2_with fail
 refine(Ac 65 90 (by omega) _).mono ?_
 rintro e w4 ⟨rfl,hb4⟩
 replace HB:=hid (on HB.out hb4)
 clear hb4
 go_wp2_with fail
 refine(Ac 95 95 (by omega) _).mono ?_
 rintro e w5 ⟨rfl,hb5⟩
 replace HB:=hid (on HB.out hb5)
 clear hb5
 go_wp2_with fail
 refine(Aw _ _ _).mono ?_
 rintro e w6 ⟨rfl,hb6⟩
 replace HB:=hid (on HB.out hb6)
 clear hb6
 go_wp2_with fail
 refine(Aw _ _ _).mono ?_
 rintro e w7 ⟨rfl,Ox⟩
 replace HB:=hid (on HB.out Ox)
 clear Ox
 go_wp2_with fail
 refine(Ac 9 13 (by omega) _).mono ?_
 rintro e w8 ⟨rfl,Uk⟩
 replace HB:=hid (on HB.out Uk)
 clear Uk
 go_wp2_with fail
 refine(Ac 32 32 (by omega) _).mono ?_
 rintro e w9 ⟨rfl,Ul⟩
 replace HB:=hid (on HB.out Ul)
 clear Ul
 go_wp2_with fail
 refine(Aw _ _ _).mono ?_
 rintro e kI ⟨rfl,I_⟩
 replace HB:=hid (on HB.out I_)
 clear I_
 go_wp2_with fail
 go_ret2
 obtain rfl:=HF.out
 exact⟨Lt (fun i _=>X9 i) rfl,HB.out⟩
theorem X_ {c:UInt8} (E8: ¬c=100) (h119: ¬c=119) (Hm: ¬c=115) (h68:c=68) (w:World):Calls Tryz.prog 155 #[.int .u8 c.toNat] w fun e w'=>e= .returned (.tuple #[.string (tx (Bt c)),.bool (letter c)])/\Below w.heap.size w w':=by
 have HF:=hid h68
 have t100:(((c.toNat:Nat):Int)==100)=false:=DC (d:=100) E8
 have t119:(((c.toNat:Nat):Int)==119)=false:=DC (d:=119) h119
 have t115:(((c.toNat:Nat):Int)==115)=false:=DC (d:=115) Hm
 have t68:(((c.toNat:Nat):Int)==68)=true:=Db (d:=68) h68
 clear E8 h119 Hm h68
 have HB:=hid (Below.refl w.heap.size w)
 go_enter Tryz.func155,Tryz.ntmps155
 go_wp2_with fail
 refine(Ac 48 57 (by omega) _).mono ?_
 rintro e w1 ⟨rfl,hb1⟩
 replace HB:=hid (on HB.out hb1)
 clear hb1
 go_wp2_with fail
 refine(Ac 97 122 (by omega) _).mono ?_
 rintro e w2 ⟨rfl,hb2⟩
 replace HB:=hid (on HB.out hb2)
 clear hb2
 go_wp2_with fail
 refine(Aw _ _ _).mono ?_
 rintro e w3 ⟨rfl,hb3⟩
 replace HB:=hid (on HB.out hb3)
 clear hb3
 go_wp2_with fail
 refine(Ac 65 90 (by omega) _).mono ?_
 rintro e w4 ⟨rfl,hb4⟩
 replace HB:=hid (on HB.out hb4)
 clear hb4
 go_wp2_with fail
 refine(Ac 95 95 (by omega) _).mono ?_
 rintro e w5 ⟨rfl,hb5⟩
 replace HB:=hid (on HB.out hb5)
 clear hb5
 go_wp2_with fail
 refine(Aw _ _ _).mono ?_
 rintro e w6 ⟨rfl,hb6⟩
 replace HB:=hid (on HB.out hb6)
 clear hb6
 go_wp2_with fail
 refine(Aw _ _ _).mono ?_
 rintro e w7 ⟨rfl,Ox⟩
 replace HB:=hid (on HB.out Ox)
 clear Ox
 go_wp2_with fail
 refine(Ac 9 13 (by omega) _).mono ?_
 rintro e w8 ⟨rfl,Uk⟩
 replace HB:=hid (on HB.out Uk)
 clear Uk
 go_wp2_with fail
 refine(Ac 32 32 (by omega) _).mono ?_
 rintro e w9 ⟨rfl,Ul⟩
 replace HB:=hid (on HB.out Ul)
 clear Ul
 go_wp2_with fail
 refine(Aw _ _ _).mono ?_
 rintro e kI ⟨rfl,I_⟩
 replace HB:=hid (on HB.out I_)
 clear I_
 go_wp2_with fail
 refine(KS _ _).mono ?_
 rintro e xE ⟨rfl,Ry⟩
 replace HB:=hid (on HB.out Ry)
 clear Ry
 go_wp2_with fail
 go_ret2
 obtain rfl:=HF.out
 exact⟨Lt (fun i _=>rfl) rfl,HB.out⟩
theorem YA {c:UInt8} (E8: ¬c=100) (h119: ¬c=119) (Hm: ¬c=115) (h68: ¬c=68) (h87:c=87) (w:World):Calls Tryz.prog 155 #[.int .u8 c.toNat] w fun e w'=>e= .returned (.tuple #[.string (tx (Bt c)),.bool (letter c)])/\Below w.heap.size w w':=by
 have HF:=hid h87
 have t100:(((c.toNat:Nat):Int)==100)=false:=DC (d:=100) E8
 have t119:(((c.toNat:Nat):Int)==119)=false:=DC (d:=119) h119
 have t115:(((c.toNat:Nat):Int)==115)=false:=DC (d:=115) Hm
 have t68:(((c.toNat:Nat):Int)==68)=false:=DC (d:=68) h68
 have t87:(((c.toNat:Nat):Int)==87)=true:=Db (d:=87) h87
 clear E8 h119 Hm h68 h87
 have HB:=hid (Below.refl w.heap.size w)
 go_enter Tryz.func155,Tryz.ntmps155
 go_wp2_with fail
 refine(Ac 48 57 (by omega) _).mono ?_
 rintro e w1 ⟨rfl,hb1⟩
 replace HB:=hid (on HB.out hb1)
 clear hb1
 go_wp2_with fail
 refine(Ac 97 122 (by omega) _).mono ?_
 rintro e w2 ⟨rfl,hb2⟩
 replace HB:=hid (on HB.out hb2)
 clear hb2
 go_wp2_with fail
 refine(Aw _ _ _).mono ?_
 rintro e w3 ⟨rfl,hb3⟩
 replace HB:=hid (on HB.out hb3)
 clear hb3
 go_wp2_with fail
 refine(Ac 65 90 (by omega) _).mono ?_
 rintro e w4 ⟨rfl,hb4⟩
 replace HB:=hid (on HB.out hb4)
 clear hb4
 go_wp2_with fail
 refine(Ac 95 95 (by omega) _).mono ?_
 rintro e w5 ⟨rfl,hb5⟩
 replace HB:=hid (on HB.out hb5)
 clear hb5
 go_wp2_with fail
 refine(Aw _ _ _).mono ?_
 rintro e w6 ⟨rfl,hb6⟩
 replace HB:=hid (on HB.out hb6)
 clear hb6
 go_wp2_with fail
 refine(Aw _ _ _).mono ?_
 rintro e w7 ⟨rfl,Ox⟩
 replace HB:=hid (on HB.out Ox)
 clear Ox
 go_wp2_with fail
 refine(Ac 9 13 (by omega) _).mono ?_
 rintro e w8 ⟨rfl,Uk⟩
 replace HB:=hid (on HB.out Uk)
 clear Uk
 go_wp2_with fail
 refine(Ac 32 32 (by omega) _).mono ?_
 rintro e w9 ⟨rfl,Ul⟩
 replace HB:=hid (on HB.out Ul)
 clear Ul
 go_wp2_with fail
 refine(Aw _ _ _).mono ?_
 rintro e kI ⟨rfl,I_⟩
 replace HB:=hid (on HB.out I_)
 clear I_
 go_wp2_with fail
 refine(KS _ _).mono ?_
 rintro e xE ⟨rfl,Ry⟩
 replace HB:=hid (on HB.out Ry)
 clear Ry
 go_wp2_with fail
 go_ret2
 obtain rfl:=HF.out
 exact⟨Lt (fun i _=>lG i) rfl,HB.out⟩
theorem YB {c:UInt8} (E8: ¬c=100) (h119: ¬c=119) (Hm: ¬c=115) (h68: ¬c=68) (h87: ¬c=87) (lH:c=83) (w:World):Calls Tryz.prog 155 #[.int .u8 c.toNat] w fun e w'=>e= .returned (.tuple #[.string (tx (Bt c)),.bool (letter c)])/\Below w.heap.size w w':=by
 have HF:=hid lH
 have t100:(((c.toNat:Nat):Int)==100)=false:=DC (d:=100) E8
 have t119:(((c.toNat:Nat):Int)==119)=false:=DC (d:=119) h119
 have t115:(((c.toNat:Nat):Int)==115)=false:=DC (d:=115) Hm
 have t68:(((c.toNat:Nat):Int)==68)=false:=DC (d:=68) h68
 have t87:(((c.toNat:Nat):Int)==87)=false:=DC (d:=87) h87
 have t83:(((c.toNat:Nat):Int)==83)=true:=Db (d:=83) lH
 clear E8 h119 Hm h68 h87 lH
 have HB:=hid (Below.refl w.heap.size w)
 go_enter Tryz.func155,Tryz.ntmps155
 go_wp2_with fail
 refine(Ac 48 57 (by omega) _).mono ?_
 rintro e w1 ⟨rfl,hb1⟩
 replace HB:=hid (on HB.out hb1)
 clear hb1
 go_wp2_with fail
 refine(Ac 97 122 (by omega) _).mono ?_
 rintro e w2 ⟨rfl,hb2⟩
 replace HB:=hid (on HB.out hb2)
 clear hb2
 go_wp2_with fail
 refine(Aw _ _ _).mono ?_
 rintro e w3 ⟨rfl,hb3⟩
 replace HB:=hid (on HB.out hb3)
 clear hb3
 go_wp2_with fail
 refine(Ac 65 90 (by omega) _).mono ?_
 rintro e w4 ⟨rfl,hb4⟩
 replace HB:=hid (on HB.out hb4)
 clear hb4
 go_wp2_with fail
 refine(Ac 95 95 (by omega) _).mono ?_
 rintro e w5 ⟨rfl,hb5⟩
 replace HB:=hid (on HB.out hb5)
 clear hb5
 go_wp2_with fail
 refine(Aw _ _ _).mono ?_
 rintro e w6 ⟨rfl,hb6⟩
 replace HB:=hid (on HB.out hb6)
 clear hb6
 go_wp2_with fail
 refine(Aw _ _ _).mono ?_
 rintro e w7 ⟨rfl,Ox⟩
 replace HB:=hid (on HB.out Ox)
 clear Ox
 go_wp2_with fail
 refine(Ac 9 13 (by omega) _).mono ?_
 rintro e w8 ⟨rfl,Uk⟩
 replace HB:=hid (on HB.out Uk)
 clear Uk
 go_wp2_with fail
 refine(Ac 32 32 (by omega) _).mono ?_
 rintro e w9 ⟨rfl,Ul⟩
 replace HB:=hid (on HB.out Ul)
 clear Ul
 go_wp2_with fail
 refine(Aw _ _ _).mono ?_
 rintro e kI ⟨rfl,I_⟩
 replace HB:=hid (on HB.out I_)
 clear I_
 go_wp2_with fail
 refine(KS _ _).mono ?_
 rintro e xE ⟨rfl,Ry⟩
 replace HB:=hid (on HB.out Ry)
 clear Ry
 go_wp2_with fail
 go_ret2
 obtain rfl:=HF.out
 exact⟨Lt (fun i _=>fC i) rfl,HB.out⟩
theorem YC {c:UInt8} (E8: ¬c=100) (h119: ¬c=119) (Hm: ¬c=115) (h68: ¬c=68) (h87: ¬c=87) (lH: ¬c=83) (w:World):Calls Tryz.prog 155 #[.int .u8 c.toNat] w fun e w'=>e= .returned (.tuple #[.string (tx (Bt c)),.bool (letter c)])/\Below w.heap.size w w':=by
 have HF:Hid (Bt c=(fun _=>false)/\letter c=false):=by
  refine⟨?_,?_⟩
  ·funext i
   unfold Bt
   rw[if_neg E8,if_neg h119,if_neg Hm,if_neg h68,if_neg h87,if_neg lH]
  unfold letter
  rw[decide_eq_false E8,decide_eq_false h119,decide_eq_false Hm,decide_eq_false h68,decide_eq_false h87,decide_eq_false lH];rfl
 have t100:(((c.toNat:Nat):Int)==100)=false:=DC (d:=100) E8
 have t119:(((c.toNat:Nat):Int)==119)=false:=DC (d:=119) h119
 have t115:(((c.toNat:Nat):Int)==115)=false:=DC (d:=115) Hm
 have t68:(((c.toNat:Nat):Int)==68)=false:=DC (d:=68) h68
 have t87:(((c.toNat:Nat):Int)==87)=false:=DC (d:=87) h87
 have t83:(((c.toNat:Nat):Int)==83)=false:=DC (d:=83) lH
 clear E8 h119 Hm h68 h87 lH
 have HB:=hid (Below.refl w.heap.size w)
 go_enter Tryz.func155,Tryz.ntmps155
 go_wp2_with fail
 refine(Ac 48 57 (by omega) _).mono ?_
 rintro e w1 ⟨rfl,hb1⟩
 replace HB:=hid (on HB.out hb1)
 clear hb1
 go_wp2_with fail
 refine(Ac 97 122 (by omega) _).mono ?_
 rintro e w2 ⟨rfl,hb2⟩
 replace HB:=hid (on HB.out hb2)
 clear hb2
 go_wp2_with fail
 refine(Aw _ _ _).mono ?_
 rintro e w3 ⟨rfl,hb3⟩
 replace HB:=hid (on HB.out hb3)
 clear hb3
 go_wp2_with fail
 refine(Ac 65 90 (by omega) _).mono ?_
 rintro e w4 ⟨rfl,hb4⟩
 replace HB:=hid (on HB.out hb4)
 clear hb4
 go_wp2_with fail
 refine(Ac 95 95 (by omega) _).mono ?_
 rintro e w5 ⟨rfl,hb5⟩
 replace HB:=hid (on HB.out hb5)
 clear hb5
 go_wp2_with fail
 refine(Aw _ _ _).mono ?_
 rintro e w6 ⟨rfl,hb6⟩
 replace HB:=hid (on HB.out hb6)
 clear hb6
 go_wp2_with fail
 refine(Aw _ _ _).mono ?_
 rintro e w7 ⟨rfl,Ox⟩
 replace HB:=hid (on HB.out Ox)
 clear Ox
 go_wp2_with fail
 refine(Ac 9 13 (by omega) _).mono ?_
 rintro e w8 ⟨rfl,Uk⟩
 replace HB:=hid (on HB.out Uk)
 clear Uk
 go_wp2_with fail
 refine(Ac 32 32 (by omega) _).mono ?_
 rintro e w9 ⟨rfl,Ul⟩
 replace HB:=hid (on HB.out Ul)
 clear Ul
 go_wp2_with fail
 refine(Aw _ _ _).mono ?_
 rintro e kI ⟨rfl,I_⟩
 replace HB:=hid (on HB.out I_)
 clear I_
 go_wp2_with fail
 refine(Ac 1 0 (by omega) _).mono ?_
 rintro e xE ⟨rfl,Ry⟩
 replace HB:=hid (on HB.out Ry)
 clear Ry
 go_wp2_with fail
 go_ret2
 refine⟨Lt (fun i _=> ?_) ?_,HB.out⟩
 ·rw[HF.out.1];unfold between;by_cases e:1<=i
  ·rw[decide_eq_false (show¬i<=0 by omega),Bool.and_false]
  rw[decide_eq_false e,Bool.false_and]
 exact HF.out.2.symm
theorem Gf (c:UInt8) (w:World):Calls Tryz.prog 155 #[.int .u8 c.toNat] w fun e w'=>e= .returned (.tuple #[.string (tx (Bt c)),.bool (letter c)])/\Below w.heap.size w w':=by
 by_cases E8:c=100
 ·exact Vk E8 w
 by_cases h119:c=119
 ·exact Vl E8 h119 w
 by_cases Hm:c=115
 ·exact Vm E8 h119 Hm w
 by_cases h68:c=68
 ·exact X_ E8 h119 Hm h68 w
 by_cases h87:c=87
 ·exact YA E8 h119 Hm h68 h87 w
 by_cases lH:c=83
 ·exact YB E8 h119 Hm h68 h87 lH w
 exact YC E8 h119 Hm h68 h87 lH w
end FD
end Go.Proofs.YtfgegjinhkgpbaaGreatDoor
