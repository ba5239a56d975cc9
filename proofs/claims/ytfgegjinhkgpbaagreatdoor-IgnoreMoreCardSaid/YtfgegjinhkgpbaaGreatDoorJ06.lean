/-
  Texts joined, in build order, each with its own comment and its own conditions: W13Sets, W13Items, W13Item, W13Parse, W13Parsed, W13ParseAny, W14Often.
-/
import Derived.Test.YtfgegjinhkgpbaaGreatDoorJ05
namespace Go.Proofs.YtfgegjinhkgpbaaGreatDoor
set_option maxHeartbeats 4000000
set_option maxRecDepth 100000
open Go.RowKit
open Lib (hid)
namespace W13
open M13 Row256
open Kit (ret_str ret_bool ret_int mk_of mk_bytes ba_ext below_draws on)
theorem new_row (w:World):Row (w.alloc (.cells (rowV (bv fun _=>false)) 174)) w.heap.size 174 (bv fun _=>false)∧Below w.heap.size w (w.alloc (.cells (rowV (bv fun _=>false)) 174)):=
 ⟨Row.new _ _ _,(Below.refl w.heap.size w).alloc (Nat.le_refl _) _⟩
theorem new_rows (w:World):Row ((w.alloc (.cells (rowV (bv fun _=>false)) 174)).alloc (.cells (rowV (bv fun _=>false)) 174)) w.heap.size 174 (bv fun _=>false)∧Row ((w.alloc (.cells (rowV (bv fun _=>false)) 174)).alloc (.cells (rowV (bv fun _=>false)) 174)) (w.heap.size+1) 174 (bv fun _=>false)∧Below w.heap.size w ((w.alloc (.cells (rowV (bv fun _=>false)) 174)).alloc (.cells (rowV (bv fun _=>false)) 174)):=by
 have h:=new_row (w.alloc (.cells (rowV (bv fun _=>false)) 174))
 rw[World.size_alloc]at h
 exact⟨(new_row w).1.alloc _,h.1,(new_row w).2.trans (h.2.mono (Nat.le_succ _))⟩
theorem not_any (s:ByteArray) (w:World):Calls Tryz.prog 164 #[.string s] w fun e w'=>e= .returned (.string (tx fun i=> !has s.data.toList i))∧Below w.heap.size w w':=by
 go_enter Tryz.func164,Tryz.ntmps164
 go_wp2_with fail
 refine(bitsOf_any _ _).mono ?_
 rintro e w1 ⟨rfl,hb1⟩
 have HB1:=hid hb1
 clear hb1
 go_wp2_with fail
 refine(others_any _ _).mono ?_
 rintro e w2 ⟨rfl,hb2⟩
 have HB2:=hid (on HB1.out hb2)
 clear hb2
 go_wp2_with fail
 refine(text_any _ _).mono ?_
 rintro e w3 ⟨rfl,hb3⟩
 have HB3:=hid (on HB2.out hb3)
 clear hb3
 go_wp2_with fail
 go_ret
 exact⟨rfl,HB3.out⟩
theorem row_true {w:World} {b:Nat} {t:TypeId} {f:Nat→Bool} (h:Row w b t (bv f)) (i:Nat):Row (w.setCell ⟨b,i,none⟩ (.bool true)) b t (bv fun j=>f j||decide (j=i)):=by
 refine(h.put i (.bool true)).is fun j _=> ?_
 by_cases e:j=i
 ·subst e;rw[if_pos rfl];exact bv_eq (f:=fun _=>true) (by simp)
 ·rw[if_neg e];exact bv_eq (by simp[e])
theorem named_100 (w:World):Calls Tryz.prog 181 #[.int .u8 100] w fun e w'=>e= .returned (.agg (rowV (bv (namedF 100))))∧Below w.heap.size w w':=by
 have hz:=zero37
 go_enter Tryz.func181,Tryz.ntmps181
 go_wp2_with fail
 have HN:=hid (new_rows w)
 generalize ((w.alloc (.cells (rowV (bv fun _=>false)) 174)).alloc (.cells (rowV (bv fun _=>false)) 174))=w1 at HN ⊢
 clear hz
 have HR:=hid HN.out.2.1
 have HQ:=hid HN.out.1
 have HB:=hid HN.out.2.2
 clear HN
 refine(span_any HR.out 48 57).mono ?_
 rintro e w2 ⟨rfl,hr2,hb2⟩
 replace HR:=hid hr2
 replace HQ:=hid (HQ.out.beside hb2 (by omega))
 replace HB:=hid (HB.out.trans (hb2.below HB.out.size (by omega)))
 clear hr2 hb2
 go_wp2_with (first|(refine load_row rfl (.tmp 3) rfl rfl HR.out ?_)|(refine store_row rfl (.tmp 2) (.tmp 26) rfl rfl rfl HQ.out ?_;intro wz hrz hbz;have HRZ:=hid hrz;have HBZ:=hid hbz;clear hrz hbz))
 refine end_row rfl rfl HRZ.out rfl ⟨?_,HB.out.trans (HBZ.out.below HB.out.size (Nat.le_refl _))⟩
 exact congrArg (fun x=>Ending.returned (.agg x)) (rowV_congr fun i _=>bv_eq rfl)
theorem named_119 (w:World):Calls Tryz.prog 181 #[.int .u8 119] w fun e w'=>e= .returned (.agg (rowV (bv (namedF 119))))∧Below w.heap.size w w':=by
 have hz:=zero37
 go_enter Tryz.func181,Tryz.ntmps181
 go_wp2_with fail
 have HN:=hid (new_rows w)
 generalize ((w.alloc (.cells (rowV (bv fun _=>false)) 174)).alloc (.cells (rowV (bv fun _=>false)) 174))=w1 at HN ⊢
 clear hz
 have HR:=hid HN.out.2.1
 have HQ:=hid HN.out.1
 have HB:=hid HN.out.2.2
 clear HN
 refine(span_any HR.out 97 122).mono ?_
 rintro e w2 ⟨rfl,hr2,hb2⟩
 replace HR:=hid hr2
 replace HQ:=hid (HQ.out.beside hb2 (by omega))
 replace HB:=hid (HB.out.trans (hb2.below HB.out.size (by omega)))
 clear hr2 hb2
 go_wp2_with fail
 refine(span_any HR.out 65 90).mono ?_
 rintro e w2 ⟨rfl,hr2,hb2⟩
 replace HR:=hid hr2
 replace HQ:=hid (HQ.out.beside hb2 (by omega))
 replace HB:=hid (HB.out.trans (hb2.below HB.out.size (by omega)))
 clear hr2 hb2
 have hcell:=HR.out.cell (i:=95) (by omega)
 have hfree:=HR.out.free 95
 have HR2:=hid (row_true HR.out 95)
 have HQ2:=hid (HQ.out.other (a:=⟨w.heap.size+1,95,none⟩) (by simp) (.bool true))
 have HB2:=hid (HB.out.setCell (p:=⟨w.heap.size+1,95,none⟩) (by simp) (.bool true))
 go_wp2_with fail
 clear hcell hfree
 replace HR:=HR2
 replace HQ:=HQ2
 replace HB:=HB2
 refine(span_any HR.out 48 57).mono ?_
 rintro e w2 ⟨rfl,hr2,hb2⟩
 replace HR:=hid hr2
 replace HQ:=hid (HQ.out.beside hb2 (by omega))
 replace HB:=hid (HB.out.trans (hb2.below HB.out.size (by omega)))
 clear hr2 hb2
 go_wp2_with (first|(refine load_row rfl (.tmp 3) rfl rfl HR.out ?_)|(refine store_row rfl (.tmp 2) (.tmp 26) rfl rfl rfl HQ.out ?_;intro wz hrz hbz;have HRZ:=hid hrz;have HBZ:=hid hbz;clear hrz hbz))
 refine end_row rfl rfl HRZ.out rfl ⟨?_,HB.out.trans (HBZ.out.below HB.out.size (Nat.le_refl _))⟩
 exact congrArg (fun x=>Ending.returned (.agg x)) (rowV_congr fun i _=>bv_eq rfl)
theorem named_115 (w:World):Calls Tryz.prog 181 #[.int .u8 115] w fun e w'=>e= .returned (.agg (rowV (bv (namedF 115))))∧Below w.heap.size w w':=by
 have hz:=zero37
 go_enter Tryz.func181,Tryz.ntmps181
 go_wp2_with fail
 have HN:=hid (new_rows w)
 generalize ((w.alloc (.cells (rowV (bv fun _=>false)) 174)).alloc (.cells (rowV (bv fun _=>false)) 174))=w1 at HN ⊢
 clear hz
 have HR:=hid HN.out.2.1
 have HQ:=hid HN.out.1
 have HB:=hid HN.out.2.2
 clear HN
 refine(span_any HR.out 9 13).mono ?_
 rintro e w2 ⟨rfl,hr2,hb2⟩
 replace HR:=hid hr2
 replace HQ:=hid (HQ.out.beside hb2 (by omega))
 replace HB:=hid (HB.out.trans (hb2.below HB.out.size (by omega)))
 clear hr2 hb2
 have hcell:=HR.out.cell (i:=32) (by omega)
 have hfree:=HR.out.free 32
 have HR2:=hid (row_true HR.out 32)
 have HQ2:=hid (HQ.out.other (a:=⟨w.heap.size+1,32,none⟩) (by simp) (.bool true))
 have HB2:=hid (HB.out.setCell (p:=⟨w.heap.size+1,32,none⟩) (by simp) (.bool true))
 go_wp2_with (first|(refine load_row rfl (.tmp 3) rfl rfl HR2.out ?_)|(refine store_row rfl (.tmp 2) (.tmp 26) rfl rfl rfl HQ2.out ?_;intro wz hrz hbz;have HRZ:=hid hrz;have HBZ:=hid hbz;clear hrz hbz))
 clear hcell hfree
 replace HR:=HR2
 replace HQ:=HQ2
 replace HB:=HB2
 refine end_row rfl rfl HRZ.out rfl ⟨?_,HB.out.trans (HBZ.out.below HB.out.size (Nat.le_refl _))⟩
 exact congrArg (fun x=>Ending.returned (.agg x)) (rowV_congr fun i _=>bv_eq rfl)
theorem named_68 (w:World):Calls Tryz.prog 181 #[.int .u8 68] w fun e w'=>e= .returned (.agg (rowV (bv (namedF 68))))∧Below w.heap.size w w':=by
 have hz:=zero37
 go_enter Tryz.func181,Tryz.ntmps181
 go_wp2_with fail
 have HN:=hid (new_rows w)
 generalize ((w.alloc (.cells (rowV (bv fun _=>false)) 174)).alloc (.cells (rowV (bv fun _=>false)) 174))=w1 at HN ⊢
 clear hz
 have HR:=hid HN.out.2.1
 have HQ:=hid HN.out.1
 have HB:=hid HN.out.2.2
 clear HN
 refine(named_100 _).mono ?_
 rintro e w2 ⟨rfl,hb2⟩
 replace HR:=hid (HR.out.on hb2 HR.out.lt)
 replace HQ:=hid (HQ.out.on hb2 HQ.out.lt)
 replace HB:=hid (HB.out.trans (hb2.mono HB.out.size))
 clear hb2
 go_wp2_with fail
 refine(others_any _ _).mono ?_
 rintro e w2 ⟨rfl,hb2⟩
 replace HR:=hid (HR.out.on hb2 HR.out.lt)
 replace HQ:=hid (HQ.out.on hb2 HQ.out.lt)
 replace HB:=hid (HB.out.trans (hb2.mono HB.out.size))
 clear hb2
 go_wp2_with (first|(refine store_row rfl (.tmp 3) (.tmp 19) rfl rfl rfl HR.out ?_;intro wy hry hby;have HRY:=hid hry;have HBY:=hid hby;have HQY:=hid (HQ.out.beside hby (by omega));clear hry hby)|(refine load_row rfl (.tmp 3) rfl rfl HRY.out ?_)|(refine store_row rfl (.tmp 2) (.tmp 26) rfl rfl rfl HQY.out ?_;intro wz hrz hbz;have HRZ:=hid hrz;have HBZ:=hid hbz;clear hrz hbz))
 replace HB:=hid (HB.out.trans (HBY.out.below HB.out.size (by omega)))
 refine end_row rfl rfl HRZ.out rfl ⟨?_,HB.out.trans (HBZ.out.below HB.out.size (Nat.le_refl _))⟩
 exact congrArg (fun x=>Ending.returned (.agg x)) (rowV_congr fun i _=>bv_eq rfl)
theorem named_87 (w:World):Calls Tryz.prog 181 #[.int .u8 87] w fun e w'=>e= .returned (.agg (rowV (bv (namedF 87))))∧Below w.heap.size w w':=by
 have hz:=zero37
 go_enter Tryz.func181,Tryz.ntmps181
 go_wp2_with fail
 have HN:=hid (new_rows w)
 generalize ((w.alloc (.cells (rowV (bv fun _=>false)) 174)).alloc (.cells (rowV (bv fun _=>false)) 174))=w1 at HN ⊢
 clear hz
 have HR:=hid HN.out.2.1
 have HQ:=hid HN.out.1
 have HB:=hid HN.out.2.2
 clear HN
 refine(named_119 _).mono ?_
 rintro e w2 ⟨rfl,hb2⟩
 replace HR:=hid (HR.out.on hb2 HR.out.lt)
 replace HQ:=hid (HQ.out.on hb2 HQ.out.lt)
 replace HB:=hid (HB.out.trans (hb2.mono HB.out.size))
 clear hb2
 go_wp2_with fail
 refine(others_any _ _).mono ?_
 rintro e w2 ⟨rfl,hb2⟩
 replace HR:=hid (HR.out.on hb2 HR.out.lt)
 replace HQ:=hid (HQ.out.on hb2 HQ.out.lt)
 replace HB:=hid (HB.out.trans (hb2.mono HB.out.size))
 clear hb2
 go_wp2_with (first|(refine store_row rfl (.tmp 3) (.tmp 19) rfl rfl rfl HR.out ?_;intro wy hry hby;have HRY:=hid hry;have HBY:=hid hby;have HQY:=hid (HQ.out.beside hby (by omega));clear hry hby)|(refine load_row rfl (.tmp 3) rfl rfl HRY.out ?_)|(refine store_row rfl (.tmp 2) (.tmp 26) rfl rfl rfl HQY.out ?_;intro wz hrz hbz;have HRZ:=hid hrz;have HBZ:=hid hbz;clear hrz hbz))
 replace HB:=hid (HB.out.trans (HBY.out.below HB.out.size (by omega)))
 refine end_row rfl rfl HRZ.out rfl ⟨?_,HB.out.trans (HBZ.out.below HB.out.size (Nat.le_refl _))⟩
 exact congrArg (fun x=>Ending.returned (.agg x)) (rowV_congr fun i _=>bv_eq rfl)
theorem named_83 (w:World):Calls Tryz.prog 181 #[.int .u8 83] w fun e w'=>e= .returned (.agg (rowV (bv (namedF 83))))∧Below w.heap.size w w':=by
 have hz:=zero37
 go_enter Tryz.func181,Tryz.ntmps181
 go_wp2_with fail
 have HN:=hid (new_rows w)
 generalize ((w.alloc (.cells (rowV (bv fun _=>false)) 174)).alloc (.cells (rowV (bv fun _=>false)) 174))=w1 at HN ⊢
 clear hz
 have HR:=hid HN.out.2.1
 have HQ:=hid HN.out.1
 have HB:=hid HN.out.2.2
 clear HN
 refine(named_115 _).mono ?_
 rintro e w2 ⟨rfl,hb2⟩
 replace HR:=hid (HR.out.on hb2 HR.out.lt)
 replace HQ:=hid (HQ.out.on hb2 HQ.out.lt)
 replace HB:=hid (HB.out.trans (hb2.mono HB.out.size))
 clear hb2
 go_wp2_with fail
 refine(others_any _ _).mono ?_
 rintro e w2 ⟨rfl,hb2⟩
 replace HR:=hid (HR.out.on hb2 HR.out.lt)
 replace HQ:=hid (HQ.out.on hb2 HQ.out.lt)
 replace HB:=hid (HB.out.trans (hb2.mono HB.out.size))
 clear hb2
 go_wp2_with (first|(refine store_row rfl (.tmp 3) (.tmp 19) rfl rfl rfl HR.out ?_;intro wy hry hby;have HRY:=hid hry;have HBY:=hid hby;have HQY:=hid (HQ.out.beside hby (by omega));clear hry hby)|(refine load_row rfl (.tmp 3) rfl rfl HRY.out ?_)|(refine store_row rfl (.tmp 2) (.tmp 26) rfl rfl rfl HQY.out ?_;intro wz hrz hbz;have HRZ:=hid hrz;have HBZ:=hid hbz;clear hrz hbz))
 replace HB:=hid (HB.out.trans (HBY.out.below HB.out.size (by omega)))
 refine end_row rfl rfl HRZ.out rfl ⟨?_,HB.out.trans (HBZ.out.below HB.out.size (Nat.le_refl _))⟩
 exact congrArg (fun x=>Ending.returned (.agg x)) (rowV_congr fun i _=>bv_eq rfl)
theorem u8_ne {c d:UInt8} (h: ¬c=d):(((c.toNat:Nat):Int)==((d.toNat:Nat):Int))=false:=beq_eq_false_iff_ne.2 fun e=>h (Kit.byte_eq e)
theorem named_no {c:UInt8} (h1: ¬c=100) (h2: ¬c=119) (h3: ¬c=115) (h4: ¬c=68) (h5: ¬c=87) (h6: ¬c=83) (w:World):Calls Tryz.prog 181 #[.int .u8 c.toNat] w fun e w'=>e= .returned (.agg (rowV (bv (namedF c))))∧Below w.heap.size w w':=by
 have HF:Hid (namedF c=fun _=>false):=by
  funext i
  unfold namedF
  rw[if_neg h1,if_neg h2,if_neg h3,if_neg h4,if_neg h5,if_neg h6]
 have g1:(((c.toNat:Nat):Int)==100)=false:=u8_ne (d:=100) h1
 have g2:(((c.toNat:Nat):Int)==119)=false:=u8_ne (d:=119) h2
 have g3:(((c.toNat:Nat):Int)==115)=false:=u8_ne (d:=115) h3
 have g4:(((c.toNat:Nat):Int)==68)=false:=u8_ne (d:=68) h4
 have g5:(((c.toNat:Nat):Int)==87)=false:=u8_ne (d:=87) h5
 have g6:(((c.toNat:Nat):Int)==83)=false:=u8_ne (d:=83) h6
 clear h1 h2 h3 h4 h5 h6
 have hz:=zero37
 go_enter Tryz.func181,Tryz.ntmps181
 have HN:=hid (new_rows w)
 go_wp2_with (first|(refine load_row rfl (.tmp 3) rfl rfl HN.out.2.1 ?_)|(refine store_row rfl (.tmp 2) (.tmp 26) rfl rfl rfl HN.out.1 ?_;intro wz hrz hbz;have HRZ:=hid hrz;have HBZ:=hid hbz;clear hrz hbz))
 refine end_row rfl rfl HRZ.out rfl ⟨?_,HN.out.2.2.trans (HBZ.out.below HN.out.2.2.size (Nat.le_refl _))⟩
 rw[HF.out]
theorem named_any (c:UInt8) (w:World):Calls Tryz.prog 181 #[.int .u8 c.toNat] w fun e w'=>e= .returned (.agg (rowV (bv (namedF c))))∧Below w.heap.size w w':=by
 by_cases h1:c=100
 ·subst h1;exact named_100 w
 by_cases h2:c=119
 ·subst h2;exact named_119 w
 by_cases h3:c=115
 ·subst h3;exact named_115 w
 by_cases h4:c=68
 ·subst h4;exact named_68 w
 by_cases h5:c=87
 ·subst h5;exact named_87 w
 by_cases h6:c=83
 ·subst h6;exact named_83 w
 exact named_no h1 h2 h3 h4 h5 h6 w
theorem namedS_any (c:UInt8) (w:World):Calls Tryz.prog 171 #[.int .u8 c.toNat] w fun e w'=>e= .returned (.tuple #[.string (tx (namedF c)),.bool (letter c)])∧Below w.heap.size w w':=by
 go_enter Tryz.func171,Tryz.ntmps171
 go_wp2_with fail
 refine(named_any _ _).mono ?_
 rintro e w1 ⟨rfl,hb1⟩
 have HB1:=hid hb1
 clear hb1
 go_wp2_with fail
 refine(text_any _ _).mono ?_
 rintro e w2 ⟨rfl,hb2⟩
 have HB2:=hid (on HB1.out hb2)
 clear hb2
 go_wp2_with fail
 refine(isLetter_any _ _).mono ?_
 rintro e w3 ⟨rfl,rfl⟩
 go_wp2_with fail
 go_ret2
 exact⟨rfl,HB2.out⟩
end W13
namespace W13
open M13 Row256
open Kit (ret_str ret_bool ret_int mk_of mk_bytes ba_ext below_draws on list_full list_ne list_none list_nil bytes_nil bytes_cons)
def oneV (r:UInt8×Nat×Bool):Value:= .tuple #[.int .u8 r.1.toNat,.int .i64 r.2.1,.bool r.2.2]
theorem bytes_two {s:ByteArray} (h:1<s.size):s.data.toList=s[0]::s[1]::s.data.toList.drop 2:=by
 rw[←Kit.drop_next s 1 h]
 conv=>lhs;rw[←List.drop_zero (l:=s.data.toList),Kit.drop_next s 0 (by omega)]
theorem one_bytes {s:ByteArray} (h0:0<s.size) (h: ¬1<s.size):s.data.toList= [s[0]]:=by
 conv=>lhs;rw[←List.drop_zero (l:=s.data.toList),Kit.drop_next s 0 h0]
 rw[Kit.drop_end s 1 h]
theorem one_any (s:ByteArray) (w:World):Calls Tryz.prog 189 #[.string s] w fun e w'=>e= .returned (oneV (one s.data.toList))∧Below w.heap.size w w':=by
 by_cases h0:0<s.size
 ·have hl:=list_full h0
  by_cases h1:s[0]=92
  ·by_cases h2:1<s.size
   ·have hb:(s.toList== [92])=false:=by rw[Lib.toList_data,bytes_two h2];simp
    have HV:Hid (one s.data.toList=(s[1],2,letter s[1])):=by
     unfold Hid
     rw[bytes_two h2,h1];rfl
    have t1:((s[0].toNat:Int)==92)=true:=by rw[h1];rfl
    clear h1
    go_enter Tryz.func189,Tryz.ntmps189
    go_wp2_with fail
    have hi2:(1:Int)<(s.size:Int):=by omega
    go_quiet ((go_at_call 182;exact Calls.quiet_of_same (isLetter_any _ _)))
    go_wp2_with fail
    refine bodyPost_ret (results_tmp3 rfl _ _ _) rfl ?_
    exact⟨by rw[HV.out];rfl,below_draws w nq⟩
   ·have hb:(s.toList== [92])=true:=by rw[Lib.toList_data,one_bytes h0 h2,h1];rfl
    have HV:Hid (one s.data.toList=(0,0,false)):=by
     unfold Hid
     rw[one_bytes h0 h2,h1];rfl
    clear h1
    go_enter Tryz.func189,Tryz.ntmps189
    go_wp2_with fail
    refine bodyPost_ret (results_tmp3 rfl _ _ _) rfl ?_
    exact⟨by rw[HV.out];rfl,Below.refl _ _⟩
  ·have hb:(s.toList== [92])=false:=by rw[Lib.toList_data,bytes_cons h0];simp[h1]
   have HV:Hid (one s.data.toList=(s[0],1,false)):=by
    unfold Hid
    rw[bytes_cons h0];unfold one;simp only[if_neg h1]
   have t1:((s[0].toNat:Int)==92)=false:=by
    rw[show(92:Int)=((92:UInt8).toNat:Int)from rfl,Kit.byte_test,decide_eq_false h1]
   clear h1
   go_enter Tryz.func189,Tryz.ntmps189
   go_wp2_with fail
   refine bodyPost_ret (results_tmp3 rfl _ _ _) rfl ?_
   exact⟨by rw[HV.out];rfl,Below.refl _ _⟩
 ·have hl:=list_none h0
  have HV:Hid (one s.data.toList=(0,0,false)):=by
   unfold Hid
   rw[bytes_nil h0];rfl
  go_enter Tryz.func189,Tryz.ntmps189
  go_wp2_with fail
  refine bodyPost_ret (results_tmp3 rfl _ _ _) rfl ?_
  exact⟨by rw[HV.out];rfl,Below.refl _ _⟩
end W13
namespace W13
open M13 Row256
open Kit (ret_str ret_bool ret_int mk_of mk_bytes ba_ext below_draws on drop_bytes)
def Itemed (w:World) (b:Nat) (t:TypeId) (f:Nat→Bool) (r:Nat×Int×(Nat→Bool)) (e:Ending) (w':World):Prop:=e= .returned (.tuple #[.int .i64 r.1,.int .i64 r.2.1])∧Row w' b t (bv fun i=>f i||r.2.2 i)∧Beside b w w'
theorem row_same {w:World} {b:Nat} {t:TypeId} {f:Nat→Bool} (h:Row w b t (bv f)):Row w b t (bv fun i=>f i||false):=h.is fun i _=>bv_eq (by rw[Bool.or_false])
theorem one_two (s:List UInt8):(one s).2.1≤2:=by
 unfold one
 split
 ·exact Nat.zero_le _
 ·rename_i c r
  by_cases h:c=92
  ·rw[if_pos h]
   split
   ·exact Nat.zero_le _
   ·exact Nat.le_refl _
  ·rw[if_neg h];exact Nat.le_succ 1
theorem joined_long {s:List UInt8} {n:Nat} (h:joined (s.drop n)=true):n<s.length:=by
 by_cases e:n<s.length
 ·exact e
 ·rw[List.drop_of_length_le (by omega)]at h;cases h
theorem item_a {w:World} {b:Nat} {t:TypeId} {f:Nat→Bool} (h:Row w b t (bv f)) {s:ByteArray} {a:UInt8} {n:Nat} {nm:Bool} (hone:one s.data.toList=(a,n,nm)) (hn:n=0):
    Calls Tryz.prog 185 #[.pointer (some ⟨b,0,none⟩),.string s] w (Itemed w b t f (item s.data.toList)):=by
 have HV:Hid (item s.data.toList=(0,3,fun _=>false)):=by
  unfold Hid item
  rw[hone,if_pos hn]
 subst hn
 have HC:=hid h
 have HONE:=hid hone
 clear h hone
 go_enter Tryz.func185,Tryz.ntmps185
 go_wp2_with fail
 refine(one_any _ _).mono ?_
 rintro e w1 ⟨rfl,hb1⟩
 rw[HONE.out]
 unfold oneV
 have HR:=hid (HC.out.on hb1 HC.out.lt)
 have HB:=hid (Beside.of (b:=b) hb1)
 clear hb1
 go_wp2_with fail
 refine(isJoined_any _ _).mono ?_
 rintro e w2 ⟨rfl,rfl⟩
 go_wp2_with fail
 go_ret2
 exact⟨by rw[HV.out];rfl,by rw[HV.out];exact row_same HR.out,HB.out⟩
theorem item_b {w:World} {b:Nat} {t:TypeId} {f:Nat→Bool} (h:Row w b t (bv f)) {s:ByteArray} {a:UInt8} {n:Nat} (hone:one s.data.toList=(a,n,true)) (hn: ¬n=0) (hj:joined (s.data.toList.drop n)=true):
    Calls Tryz.prog 185 #[.pointer (some ⟨b,0,none⟩),.string s] w (Itemed w b t f (item s.data.toList)):=by
 have HV:Hid (item s.data.toList=(0,3,fun _=>false)):=by
  unfold Hid item
  rw[hone]
  simp[hn,hj]
 have hle:=one_le s.data.toList
 have hle2:=one_two s.data.toList
 rw[hone]at hle2
 rw[hone,←Lib.size_eq]at hle
 simp only at hle hle2
 have HC:=hid h
 have HONE:=hid hone
 have HJ:=hid hj
 have hlei:(n:Int)≤(s.size:Int):=by omega
 have tn:((n:Int)==0)=false:=beq_eq_false_iff_ne.2 (by omega)
 have HD:=hid (drop_bytes s n)
 clear h hone hj hn
 go_enter Tryz.func185,Tryz.ntmps185
 go_wp2_with fail
 refine(one_any _ _).mono ?_
 rintro e w1 ⟨rfl,hb1⟩
 rw[HONE.out]
 unfold oneV
 have HR:=hid (HC.out.on hb1 HC.out.lt)
 have HB:=hid (Beside.of (b:=b) hb1)
 clear hb1
 go_wp2_with fail
 refine(isJoined_any _ _).mono ?_
 rintro e w2 ⟨rfl,rfl⟩
 rw[HD.out,HJ.out]
 go_wp2_with fail
 go_ret2
 exact⟨by rw[HV.out];rfl,by rw[HV.out];exact row_same HR.out,HB.out⟩
theorem item_c {w:World} {b:Nat} {t:TypeId} {f:Nat→Bool} (h:Row w b t (bv f)) {s:ByteArray} {a:UInt8} {n:Nat} (hone:one s.data.toList=(a,n,true)) (hn: ¬n=0) (hj:joined (s.data.toList.drop n)=false):
    Calls Tryz.prog 185 #[.pointer (some ⟨b,0,none⟩),.string s] w (Itemed w b t f (item s.data.toList)):=by
 have HV:Hid (item s.data.toList=(n,0,namedF a)):=by
  unfold Hid item
  rw[hone]
  simp[hn,hj]
 have hle:=one_le s.data.toList
 have hle2:=one_two s.data.toList
 rw[hone]at hle2
 rw[hone,←Lib.size_eq]at hle
 simp only at hle hle2
 have HC:=hid h
 have HONE:=hid hone
 have HJ:=hid hj
 have hlei:(n:Int)≤(s.size:Int):=by omega
 have tn:((n:Int)==0)=false:=beq_eq_false_iff_ne.2 (by omega)
 have HD:=hid (drop_bytes s n)
 clear h hone hj hn
 go_enter Tryz.func185,Tryz.ntmps185
 go_wp2_with fail
 refine(one_any _ _).mono ?_
 rintro e w1 ⟨rfl,hb1⟩
 rw[HONE.out]
 unfold oneV
 have HR:=hid (HC.out.on hb1 HC.out.lt)
 have HB:=hid (Beside.of (b:=b) hb1)
 clear hb1
 go_wp2_with fail
 refine(isJoined_any _ _).mono ?_
 rintro e w2 ⟨rfl,rfl⟩
 rw[HD.out,HJ.out]
 go_wp2_with fail
 refine(named_any _ _).mono ?_
 rintro e w3 ⟨rfl,hb3⟩
 replace HR:=hid (HR.out.on hb3 HR.out.lt)
 replace HB:=hid (HB.out.trans (Beside.of hb3))
 clear hb3
 go_wp2_with fail
 refine(add_any HR.out _).mono ?_
 rintro e w4 ⟨rfl,hr4,hb4⟩
 replace HR:=hid hr4
 replace HB:=hid (HB.out.trans hb4)
 clear hr4 hb4
 go_wp2_with fail
 go_ret2
 exact⟨by rw[HV.out];rfl,by rw[HV.out];exact HR.out,HB.out⟩
theorem item_d {w:World} {b:Nat} {t:TypeId} {f:Nat→Bool} (h:Row w b t (bv f)) {s:ByteArray} {a:UInt8} {n:Nat} (hone:one s.data.toList=(a,n,false)) (hn: ¬n=0) (hj:joined (s.data.toList.drop n)=false):
    Calls Tryz.prog 185 #[.pointer (some ⟨b,0,none⟩),.string s] w (Itemed w b t f (item s.data.toList)):=by
 have HV:Hid (item s.data.toList=(n,0,fun i=>decide (i=a.toNat))):=by
  unfold Hid item
  rw[hone]
  simp[hn,hj]
 have hle:=one_le s.data.toList
 have hle2:=one_two s.data.toList
 rw[hone]at hle2
 rw[hone,←Lib.size_eq]at hle
 simp only at hle hle2
 have HC:=hid h
 have HONE:=hid hone
 have HJ:=hid hj
 have hlei:(n:Int)≤(s.size:Int):=by omega
 have tn:((n:Int)==0)=false:=beq_eq_false_iff_ne.2 (by omega)
 have HD:=hid (drop_bytes s n)
 clear h hone hj hn
 go_enter Tryz.func185,Tryz.ntmps185
 go_wp2_with fail
 refine(one_any _ _).mono ?_
 rintro e w1 ⟨rfl,hb1⟩
 rw[HONE.out]
 unfold oneV
 have HR:=hid (HC.out.on hb1 HC.out.lt)
 have HB:=hid (Beside.of (b:=b) hb1)
 clear hb1
 go_wp2_with fail
 refine(isJoined_any _ _).mono ?_
 rintro e w2 ⟨rfl,rfl⟩
 rw[HD.out,HJ.out]
 have ha256:(a.toNat:Int)<256:=by have:=UInt8.toNat_lt a;omega
 have hcell:=HR.out.cell (i:=a.toNat) (UInt8.toNat_lt a)
 have hfree:=HR.out.free a.toNat
 generalize hold:bv f a.toNat=old at hcell
 clear hold
 go_wp2_with fail
 go_ret2
 exact⟨by rw[HV.out];rfl,by rw[HV.out];exact row_true HR.out _,HB.out.put _ _⟩
theorem item_e {w:World} {b:Nat} {t:TypeId} {f:Nat→Bool} (h:Row w b t (bv f)) {s:ByteArray} {a:UInt8} {n:Nat} (hone:one s.data.toList=(a,n,false)) (hn: ¬n=0) (hj:joined (s.data.toList.drop n)=true) {a2:UInt8} {m:Nat} {nm2:Bool} (hone2:one (s.data.toList.drop (n+1))=(a2,m,nm2)) (hm:m=0):
    Calls Tryz.prog 185 #[.pointer (some ⟨b,0,none⟩),.string s] w (Itemed w b t f (item s.data.toList)):=by
 have HV:Hid (item s.data.toList=(0,3,fun _=>false)):=by
  unfold Hid item
  rw[hone]
  simp[hn,hj,hone2,hm]
 have hjl:=joined_long hj
 rw[←Lib.size_eq]at hjl
 have hm2:=one_two (s.data.toList.drop (n+1))
 rw[hone2]at hm2
 simp only at hm2
 have hn1i:(n:Int)+1≤(s.size:Int):=by omega
 have HD2:=hid (drop_bytes s (n+1))
 have HONE2:=hid hone2
 clear hjl hone2
 have tm:((m:Int)==0)=true:=by rw[hm];rfl
 clear hm
 have hle:=one_le s.data.toList
 have hle2:=one_two s.data.toList
 rw[hone]at hle2
 rw[hone,←Lib.size_eq]at hle
 simp only at hle hle2
 have HC:=hid h
 have HONE:=hid hone
 have HJ:=hid hj
 have hlei:(n:Int)≤(s.size:Int):=by omega
 have tn:((n:Int)==0)=false:=beq_eq_false_iff_ne.2 (by omega)
 have HD:=hid (drop_bytes s n)
 clear h hone hj hn
 go_enter Tryz.func185,Tryz.ntmps185
 go_wp2_with fail
 refine(one_any _ _).mono ?_
 rintro e w1 ⟨rfl,hb1⟩
 rw[HONE.out]
 unfold oneV
 have HR:=hid (HC.out.on hb1 HC.out.lt)
 have HB:=hid (Beside.of (b:=b) hb1)
 clear hb1
 go_wp2_with fail
 refine(isJoined_any _ _).mono ?_
 rintro e w2 ⟨rfl,rfl⟩
 rw[HD.out,HJ.out]
 go_wp2_with fail
 refine(one_any _ _).mono ?_
 rintro e w3 ⟨rfl,hb3⟩
 rw[HD2.out,HONE2.out]
 unfold oneV
 replace HR:=hid (HR.out.on hb3 HR.out.lt)
 replace HB:=hid (HB.out.trans (Beside.of hb3))
 clear hb3
 go_wp2_with fail
 go_ret2
 exact⟨by rw[HV.out];rfl,by rw[HV.out];exact row_same HR.out,HB.out⟩
theorem item_g {w:World} {b:Nat} {t:TypeId} {f:Nat→Bool} (h:Row w b t (bv f)) {s:ByteArray} {a:UInt8} {n:Nat} (hone:one s.data.toList=(a,n,false)) (hn: ¬n=0) (hj:joined (s.data.toList.drop n)=true) {a2:UInt8} {m:Nat} (hone2:one (s.data.toList.drop (n+1))=(a2,m,true)) (hm: ¬m=0):
    Calls Tryz.prog 185 #[.pointer (some ⟨b,0,none⟩),.string s] w (Itemed w b t f (item s.data.toList)):=by
 have HV:Hid (item s.data.toList=(0,3,fun _=>false)):=by
  unfold Hid item
  rw[hone]
  simp[hn,hj,hone2,hm]
 have hjl:=joined_long hj
 rw[←Lib.size_eq]at hjl
 have hm2:=one_two (s.data.toList.drop (n+1))
 rw[hone2]at hm2
 simp only at hm2
 have hn1i:(n:Int)+1≤(s.size:Int):=by omega
 have HD2:=hid (drop_bytes s (n+1))
 have HONE2:=hid hone2
 clear hjl hone2
 have tm:((m:Int)==0)=false:=beq_eq_false_iff_ne.2 (by omega)
 clear hm
 have hle:=one_le s.data.toList
 have hle2:=one_two s.data.toList
 rw[hone]at hle2
 rw[hone,←Lib.size_eq]at hle
 simp only at hle hle2
 have HC:=hid h
 have HONE:=hid hone
 have HJ:=hid hj
 have hlei:(n:Int)≤(s.size:Int):=by omega
 have tn:((n:Int)==0)=false:=beq_eq_false_iff_ne.2 (by omega)
 have HD:=hid (drop_bytes s n)
 clear h hone hj hn
 go_enter Tryz.func185,Tryz.ntmps185
 go_wp2_with fail
 refine(one_any _ _).mono ?_
 rintro e w1 ⟨rfl,hb1⟩
 rw[HONE.out]
 unfold oneV
 have HR:=hid (HC.out.on hb1 HC.out.lt)
 have HB:=hid (Beside.of (b:=b) hb1)
 clear hb1
 go_wp2_with fail
 refine(isJoined_any _ _).mono ?_
 rintro e w2 ⟨rfl,rfl⟩
 rw[HD.out,HJ.out]
 go_wp2_with fail
 refine(one_any _ _).mono ?_
 rintro e w3 ⟨rfl,hb3⟩
 rw[HD2.out,HONE2.out]
 unfold oneV
 replace HR:=hid (HR.out.on hb3 HR.out.lt)
 replace HB:=hid (HB.out.trans (Beside.of hb3))
 clear hb3
 go_wp2_with fail
 go_ret2
 exact⟨by rw[HV.out];rfl,by rw[HV.out];exact row_same HR.out,HB.out⟩
theorem item_k {w:World} {b:Nat} {t:TypeId} {f:Nat→Bool} (h:Row w b t (bv f)) {s:ByteArray} {a:UInt8} {n:Nat} (hone:one s.data.toList=(a,n,false)) (hn: ¬n=0) (hj:joined (s.data.toList.drop n)=true) {a2:UInt8} {m:Nat} (hone2:one (s.data.toList.drop (n+1))=(a2,m,false)) (hm: ¬m=0) (hlt:a2.toNat<a.toNat):
    Calls Tryz.prog 185 #[.pointer (some ⟨b,0,none⟩),.string s] w (Itemed w b t f (item s.data.toList)):=by
 have HV:Hid (item s.data.toList=(0,4,fun _=>false)):=by
  unfold Hid item
  rw[hone]
  simp[hn,hj,hone2,hm,hlt]
 have hjl:=joined_long hj
 rw[←Lib.size_eq]at hjl
 have hm2:=one_two (s.data.toList.drop (n+1))
 rw[hone2]at hm2
 simp only at hm2
 have hn1i:(n:Int)+1≤(s.size:Int):=by omega
 have HD2:=hid (drop_bytes s (n+1))
 have HONE2:=hid hone2
 clear hjl hone2
 have tm:((m:Int)==0)=false:=beq_eq_false_iff_ne.2 (by omega)
 have tl:(a2.toNat:Int)<(a.toNat:Int):=by omega
 clear hm hlt
 have hle:=one_le s.data.toList
 have hle2:=one_two s.data.toList
 rw[hone]at hle2
 rw[hone,←Lib.size_eq]at hle
 simp only at hle hle2
 have HC:=hid h
 have HONE:=hid hone
 have HJ:=hid hj
 have hlei:(n:Int)≤(s.size:Int):=by omega
 have tn:((n:Int)==0)=false:=beq_eq_false_iff_ne.2 (by omega)
 have HD:=hid (drop_bytes s n)
 clear h hone hj hn
 go_enter Tryz.func185,Tryz.ntmps185
 go_wp2_with fail
 refine(one_any _ _).mono ?_
 rintro e w1 ⟨rfl,hb1⟩
 rw[HONE.out]
 unfold oneV
 have HR:=hid (HC.out.on hb1 HC.out.lt)
 have HB:=hid (Beside.of (b:=b) hb1)
 clear hb1
 go_wp2_with fail
 refine(isJoined_any _ _).mono ?_
 rintro e w2 ⟨rfl,rfl⟩
 rw[HD.out,HJ.out]
 go_wp2_with fail
 refine(one_any _ _).mono ?_
 rintro e w3 ⟨rfl,hb3⟩
 rw[HD2.out,HONE2.out]
 unfold oneV
 replace HR:=hid (HR.out.on hb3 HR.out.lt)
 replace HB:=hid (HB.out.trans (Beside.of hb3))
 clear hb3
 go_wp2_with fail
 go_ret2
 exact⟨by rw[HV.out];rfl,by rw[HV.out];exact row_same HR.out,HB.out⟩
theorem item_less {w:World} {b:Nat} {t:TypeId} {f:Nat→Bool} (h:Row w b t (bv f)) {s:ByteArray} {a:UInt8} {n:Nat} (hone:one s.data.toList=(a,n,false)) (hn: ¬n=0) (hj:joined (s.data.toList.drop n)=true) {a2:UInt8} {m:Nat} (hone2:one (s.data.toList.drop (n+1))=(a2,m,false)) (hm: ¬m=0) (hlt: ¬a2.toNat<a.toNat):
    Calls Tryz.prog 185 #[.pointer (some ⟨b,0,none⟩),.string s] w (Itemed w b t f (item s.data.toList)):=by
 have HV:Hid (item s.data.toList=(n+1+m,0,between a.toNat a2.toNat)):=by
  unfold Hid item
  rw[hone]
  simp[hn,hj,hone2,hm,hlt]
 have hjl:=joined_long hj
 rw[←Lib.size_eq]at hjl
 have hm2:=one_two (s.data.toList.drop (n+1))
 rw[hone2]at hm2
 simp only at hm2
 have hn1i:(n:Int)+1≤(s.size:Int):=by omega
 have HD2:=hid (drop_bytes s (n+1))
 have HONE2:=hid hone2
 clear hjl hone2
 have tm:((m:Int)==0)=false:=beq_eq_false_iff_ne.2 (by omega)
 have tl: ¬(a2.toNat:Int)<(a.toNat:Int):=by omega
 clear hm hlt
 have hle:=one_le s.data.toList
 have hle2:=one_two s.data.toList
 rw[hone]at hle2
 rw[hone,←Lib.size_eq]at hle
 simp only at hle hle2
 have HC:=hid h
 have HONE:=hid hone
 have HJ:=hid hj
 have hlei:(n:Int)≤(s.size:Int):=by omega
 have tn:((n:Int)==0)=false:=beq_eq_false_iff_ne.2 (by omega)
 have HD:=hid (drop_bytes s n)
 clear h hone hj hn
 go_enter Tryz.func185,Tryz.ntmps185
 go_wp2_with fail
 refine(one_any _ _).mono ?_
 rintro e w1 ⟨rfl,hb1⟩
 rw[HONE.out]
 unfold oneV
 have HR:=hid (HC.out.on hb1 HC.out.lt)
 have HB:=hid (Beside.of (b:=b) hb1)
 clear hb1
 go_wp2_with fail
 refine(isJoined_any _ _).mono ?_
 rintro e w2 ⟨rfl,rfl⟩
 rw[HD.out,HJ.out]
 go_wp2_with fail
 refine(one_any _ _).mono ?_
 rintro e w3 ⟨rfl,hb3⟩
 rw[HD2.out,HONE2.out]
 unfold oneV
 replace HR:=hid (HR.out.on hb3 HR.out.lt)
 replace HB:=hid (HB.out.trans (Beside.of hb3))
 clear hb3
 go_wp2_with fail
 refine(span_any HR.out _ _).mono ?_
 rintro e w4 ⟨rfl,hr4,hb4⟩
 replace HR:=hid hr4
 replace HB:=hid (HB.out.trans hb4)
 clear hr4 hb4
 go_wp2_with fail
 go_ret2
 exact⟨by rw[HV.out];rfl,by rw[HV.out];exact HR.out,HB.out⟩
theorem item_any {w:World} {b:Nat} {t:TypeId} {f:Nat→Bool} (h:Row w b t (bv f)) (s:ByteArray):
    Calls Tryz.prog 185 #[.pointer (some ⟨b,0,none⟩),.string s] w (Itemed w b t f (item s.data.toList)):=by
 obtain⟨⟨a,n,nm⟩,hone⟩: ∃r,one s.data.toList=r:=⟨_,rfl⟩
 by_cases hn:n=0
 ·exact item_a h hone hn
 cases hj:joined (s.data.toList.drop n)with
 |false=>
  cases nm with
  |true=>exact item_c h hone hn hj
  |false=>exact item_d h hone hn hj
 |true=>
  cases nm with
  |true=>exact item_b h hone hn hj
  |false=>
   obtain⟨⟨a2,m,nm2⟩,hone2⟩: ∃r,one (s.data.toList.drop (n+1))=r:=⟨_,rfl⟩
   by_cases hm:m=0
   ·exact item_e h hone hn hj hone2 hm
   cases nm2 with
   |true=>exact item_g h hone hn hj hone2 hm
   |false=>
    by_cases hlt:a2.toNat<a.toNat
    ·exact item_k h hone hn hj hone2 hm hlt
    ·exact item_less h hone hn hj hone2 hm hlt
end W13
namespace W13
open M13 Row256
open Kit (ret_str ret_bool ret_int mk_of mk_bytes ba_ext below_draws on drop_bytes)
theorem end_row3 {fn:Func} {R:Ending→World→Prop} {a:Act} {w:World} {p u v:Tmp} {b:Nat} {t:TypeId} {f:Nat→Value} (hf:fn.results= #[.cell p 174,.tmp u,.tmp v]) (hp:a.tmps.getD p undef= .pointer (some ⟨b,0,none⟩)) (hr:Row w b t f) (hd:a.defers= [])
    (hR:R (.returned (.tuple #[.agg (rowV f),a.tmps.getD u undef,a.tmps.getD v undef])) w):bodyPost Tryz.prog fn R .ret a w:=by
 refine bodyPost_ret ?_ hd hR
 have hp':a.tmps[p]?.getD undef= .pointer (some ⟨b,0,none⟩):=by simpa using hp
 have hl:=run_loadVar_row w b t 174 (rowV f) (0,0) _ hr Tryz.underlying174 rfl (size_row f)
 simp[results,hf,hp',asAddr,Result.andThen,hl]
theorem item_le (s:List UInt8):(item s).1≤s.length:=by
 have h1:=one_le s
 have h2:=one_le (s.drop ((one s).2.1+1))
 rw[List.length_drop]at h2
 unfold item
 split
 ·exact Nat.zero_le _
 ·split
  ·split
   ·exact Nat.zero_le _
   ·exact h1
  ·rename_i hn hnm
   cases hj:joined (s.drop (one s).2.1)with
   |false=>rw[if_pos rfl];exact h1
   |true=>
    have h3:=joined_long hj
    rw[if_neg (by simp)]
    split
    ·exact Nat.zero_le _
    ·split
     ·exact Nat.zero_le _
     ·split
      ·exact Nat.zero_le _
      ·simp only;omega
theorem item_pos {s:List UInt8} (h:(item s).2.1=0):0<(item s).1:=by
 revert h
 unfold item
 split
 ·simp
 ·rename_i hn
  split
  ·split
   ·simp
   ·simp only;omega
  ·split
   ·simp only;omega
   ·split
    ·simp
    ·split
     ·simp
     ·split
      ·simp
      ·simp only;omega
def itemsV (r:(Nat→Bool)×Nat×Int):Value:= .tuple #[.agg (rowV (bv r.1)),.int .i64 r.2.1,.int .i64 r.2.2]
theorem items_any (s:ByteArray) (hs:s.size≤4611686018427387904) (w:World):
    Calls Tryz.prog 180 #[.string s] w fun e w'=>e= .returned (itemsV (items s.data.toList (s.size+1) 0 (fun _=>false)))∧Below w.heap.size w w':=by
 have hz:=zero37
 obtain⟨R,hR⟩: ∃R,items s.data.toList (s.size+1) 0 (fun _=>false)=R:=⟨_,rfl⟩
 rw[hR]
 have HRR:=hid hR
 have HS:=hid hs
 clear hR hs
 go_enter Tryz.func180,Tryz.ntmps180
 go_wp2_with fail
 have HN:=hid (new_rows w)
 generalize ((w.alloc (.cells (rowV (bv fun _=>false)) 174)).alloc (.cells (rowV (bv fun _=>false)) 174))=w1 at HN ⊢
 go_loopg [6] s.size (fun g s6 wr=> ∃(i:Nat) (F:Nat→Bool),s6= .int .i64 i∧i≤s.size∧s.size≤i+g∧Hid (items s.data.toList (g+1) i F=R)∧Hid (Row wr (w.heap.size+1) 174 (bv F))∧Hid (Row wr w.heap.size 174 (bv fun _=>false))∧Hid (Below w.heap.size w wr))
 case atStart=>exact⟨0,fun _=>false,rfl,Nat.zero_le _,by omega,HRR,HN.out.2.1,HN.out.1,HN.out.2.2⟩
 case round=>
  obtain⟨i,F,rfl,hi,hig,hit,hr,hq,hb⟩:=hrel
  by_cases hlt:i<s.size
  ·have hl2:(i:Int)<(s.size:Int):=by omega
   have hS:=HS.out
   have hlen: ¬s.data.toList.length≤i:=by rw[←Lib.size_eq];omega
   have hget:s.data.toList.getD i 0=s[i]:=Kit.byte_get s i hlt
   by_cases hend:s[i]=93∧0<i
   ·have HV:Hid (R=(F,i+1,0)):=by
      unfold Hid
      rw[←hit.out]
      unfold items
      rw[if_neg hlen,hget,if_pos hend]
    have t1:((s[i].toNat:Int)==93)=true:=by rw[hend.1];rfl
    have t2:(0:Int)<(i:Int):=by omega
    have hw:wrap64 ((i:Int)+1)=((i+1:Nat):Int):=by unfold wrap64;omega
    have HW:=hid hw
    clear hend hlen hget hw
    go_wp2_with (first|(refine load_row rfl (.tmp 5) rfl rfl hr.out ?_)|(refine store_row rfl (.tmp 2) (.tmp 21) rfl rfl rfl hq.out ?_;intro wz hrz hbz;have HRZ:=hid hrz;have HBZ:=hid hbz;clear hrz hbz))
    refine end_row3 rfl rfl HRZ.out rfl ⟨?_,hb.out.trans (HBZ.out.below hb.out.size (Nat.le_refl _))⟩
    rw[HV.out];rfl
   ·have hnle:=item_le (s.data.toList.drop i)
    rw[List.length_drop,←Lib.size_eq]at hnle
    have hpos:= @item_pos (s.data.toList.drop i)
    have hdl:=drop_bytes s i
    obtain⟨⟨n,er,G⟩,hitem⟩: ∃r,item (s.data.toList.drop i)=r:=⟨_,rfl⟩
    rw[hitem]at hnle hpos
    simp only at hnle hpos
    have HI:=hid hitem
    have HD:=hid hdl
    have HP:=hid hpos
    have HNLE:=hid hnle
    have HL:=hid hlen
    have HG:=hid hget
    clear hitem hdl hpos hnle
    by_cases h93:s[i]=93
    ·have hi0: ¬(0:Int)<(i:Int):=fun h=>hend ⟨h93,by omega⟩
     have t1:((s[i].toNat:Int)==93)=true:=by rw[h93];rfl
     clear h93
     have HE:=hid hend
     clear hend hlen hget
     go_wp2_with fail
     refine(item_any hr.out _).mono ?_
     rintro e w2 ⟨rfl,hr2,hb2⟩
     rw[HD.out,HI.out]
     have HR:=hid (by rw[HD.out,HI.out]at hr2;exact hr2)
     have HQ:=hid (hq.out.beside hb2 (by omega))
     have HB:=hid (hb.out.trans (hb2.below hb.out.size (by omega)))
     clear hr2 hb2
     simp only[]at HR ⊢
     by_cases he:er=0
     ·have te:(er !=0)=false:=by rw[he];rfl
      have HNX:Hid (items s.data.toList gk (i+n) (fun k=>F k||G k)=R):=by
       unfold Hid
       rw[←hit.out]
       conv=>rhs;unfold items
       rw[if_neg HL.out,HG.out,if_neg HE.out,HI.out,if_neg (by simp[he])]
      have hn1:0<n:=by have:=HP.out he;omega
      have hnle:=HNLE.out
      clear he
      cases gk with
      |zero=>omega
      |succ g=>
       go_wp2_with fail
       go_roundg g
       case measure=>omega
       case rel=>exact⟨i+n,fun k=>F k||G k,by first|rfl|simp,by omega,by omega,HNX,HR.out,HQ.out,HB.out⟩
     ·have te:(er !=0)=true:=by simpa using he
      have HNX:Hid (R=(fun _=>false,0,er)):=by
       unfold Hid
       rw[←hit.out]
       unfold items
       rw[if_neg HL.out,HG.out,if_neg HE.out,HI.out,if_pos he]
      clear he
      go_wp2_with (first|(refine store_row rfl (.tmp 2) (.tmp 33) rfl rfl rfl HQ.out ?_;intro wz hrz hbz;have HRZ:=hid hrz;have HBZ:=hid hbz;clear hrz hbz))
      refine end_row3 rfl rfl HRZ.out rfl ⟨?_,HB.out.trans (HBZ.out.below HB.out.size (Nat.le_refl _))⟩
      rw[HNX.out];rfl
    ·have t1:((s[i].toNat:Int)==93)=false:=by
       rw[show(93:Int)=((93:UInt8).toNat:Int)from rfl,Kit.byte_test,decide_eq_false h93]
     clear h93
     have HE:=hid hend
     clear hend hlen hget
     go_wp2_with fail
     refine(item_any hr.out _).mono ?_
     rintro e w2 ⟨rfl,hr2,hb2⟩
     rw[HD.out,HI.out]
     have HR:=hid (by rw[HD.out,HI.out]at hr2;exact hr2)
     have HQ:=hid (hq.out.beside hb2 (by omega))
     have HB:=hid (hb.out.trans (hb2.below hb.out.size (by omega)))
     clear hr2 hb2
     simp only[]at HR ⊢
     by_cases he:er=0
     ·have te:(er !=0)=false:=by rw[he];rfl
      have HNX:Hid (items s.data.toList gk (i+n) (fun k=>F k||G k)=R):=by
       unfold Hid
       rw[←hit.out]
       conv=>rhs;unfold items
       rw[if_neg HL.out,HG.out,if_neg HE.out,HI.out,if_neg (by simp[he])]
      have hn1:0<n:=by have:=HP.out he;omega
      have hnle:=HNLE.out
      clear he
      cases gk with
      |zero=>omega
      |succ g=>
       go_wp2_with fail
       go_roundg g
       case measure=>omega
       case rel=>exact⟨i+n,fun k=>F k||G k,by first|rfl|simp,by omega,by omega,HNX,HR.out,HQ.out,HB.out⟩
     ·have te:(er !=0)=true:=by simpa using he
      have HNX:Hid (R=(fun _=>false,0,er)):=by
       unfold Hid
       rw[←hit.out]
       unfold items
       rw[if_neg HL.out,HG.out,if_neg HE.out,HI.out,if_pos he]
      clear he
      go_wp2_with (first|(refine store_row rfl (.tmp 2) (.tmp 33) rfl rfl rfl HQ.out ?_;intro wz hrz hbz;have HRZ:=hid hrz;have HBZ:=hid hbz;clear hrz hbz))
      refine end_row3 rfl rfl HRZ.out rfl ⟨?_,HB.out.trans (HBZ.out.below HB.out.size (Nat.le_refl _))⟩
      rw[HNX.out];rfl
  ·have hl2: ¬((i:Int)<(s.size:Int)):=by omega
   have HV:Hid (R=(fun _=>false,0,3)):=by
    unfold Hid
    rw[←hit.out]
    unfold items
    rw[if_pos (by rw[←Lib.size_eq];omega)]
   clear hlt hi hig
   go_wp2_with (first|(refine store_row rfl (.tmp 2) (.tmp 38) rfl rfl rfl hq.out ?_;intro wz hrz hbz;have HRZ:=hid hrz;have HBZ:=hid hbz;clear hrz hbz))
   refine end_row3 rfl rfl HRZ.out rfl ⟨?_,hb.out.trans (HBZ.out.below hb.out.size (Nat.le_refl _))⟩
   rw[HV.out];rfl
end W13
namespace W13
open M13 Row256
open Kit (ret_str ret_bool ret_int mk_of mk_bytes ba_ext below_draws on drop_bytes)
def Parsed (w:World) (r:(Nat→Bool)×Nat×Int) (e:Ending) (w':World):Prop:=e= .returned (.tuple #[.string (tx r.1),.int .i64 r.2.1,.int .i64 r.2.2])∧Below w.heap.size w w'
theorem parse_no {s:ByteArray} (h2:Lib.hasPrefix s.data.toList [91,94]=false) (h1:Lib.hasPrefix s.data.toList [91]=false) (w:World):Calls Tryz.prog 170 #[.string s] w (Parsed w (fun _=>false,0,3)):=by
 have hz:=zero37
 have H2:=hid h2
 have H1:=hid h1
 clear h1 h2
 go_enter Tryz.func170,Tryz.ntmps170
 go_wp2_with fail
 refine(Tryz.strings_HasPrefix _ _ _).mono ?_
 rintro e w1 ⟨rfl,rfl⟩
 rw[H2.out]
 go_wp2_with fail
 refine(Tryz.strings_CutPrefix _ _ _).mono ?_
 rintro e w1 ⟨rfl,rfl⟩
 rw[H1.out]
 go_wp2_with fail
 refine(text_any _ _).mono ?_
 rintro e w2 ⟨rfl,hb2⟩
 have HB:=hid hb2
 clear hb2
 go_wp2_with fail
 go_ret3
 exact⟨rfl,HB.out⟩
theorem parse_bad {s q:ByteArray} (h2:Lib.hasPrefix s.data.toList [91,94]=false) (h1:Lib.hasPrefix s.data.toList [91]=true) (hq:(⟨(Lib.trimPrefix s.data.toList [91]).toArray⟩:ByteArray)=q) (hqs:q.size≤4611686018427387904) {F:Nat→Bool} {n:Nat} {er:Int}
    (hit:items q.data.toList (q.size+1) 0 (fun _=>false)=(F,n,er)) (her: ¬er=0) (hn:n≤4611686018427387904) (w:World):Calls Tryz.prog 170 #[.string s] w (Parsed w (fun _=>false,0,er)):=by
 have hz:=zero37
 have H2:=hid h2
 have H1:=hid h1
 clear h1
 have te:(er !=0)=true:=by simpa using her
 have HQ:=hid hq
 have HQS:=hid hqs
 have HIT:=hid hit
 have HN:=hid hn
 clear h2 hq hqs hit hn her
 go_enter Tryz.func170,Tryz.ntmps170
 go_wp2_with fail
 refine(Tryz.strings_HasPrefix _ _ _).mono ?_
 rintro e w1 ⟨rfl,rfl⟩
 rw[H2.out]
 go_wp2_with fail
 refine(Tryz.strings_CutPrefix _ _ _).mono ?_
 rintro e w1 ⟨rfl,rfl⟩
 simp only[]
 rw[H1.out,HQ.out]
 go_wp2_with fail
 refine(items_any _ HQS.out _).mono ?_
 rintro e w2 ⟨rfl,hb2⟩
 rw[HIT.out]
 unfold itemsV
 have HB:=hid hb2
 clear hb2
 go_wp2_with (first|(refine store_row rfl (.tmp 8) (.tmp 26) rfl rfl rfl (Row.new _ _ _) ?_;intro wz hrz hbz;have HR:=hid hrz;have HZ:=hid ((new_row w2).2.trans (hbz.below (by rw[World.size_alloc];omega) (Nat.le_refl _)));clear hrz hbz)|fail)
 refine(text_any _ _).mono ?_
 rintro e w3 ⟨rfl,hb3⟩
 have HB3:=hid (on (on HB.out HZ.out) hb3)
 clear hb3
 go_wp2_with fail
 go_ret3
 exact⟨rfl,HB3.out⟩
theorem parse_badnot {s q:ByteArray} (h2:Lib.hasPrefix s.data.toList [91,94]=true) (hq:(⟨(Lib.trimPrefix s.data.toList [91,94]).toArray⟩:ByteArray)=q) (hqs:q.size≤4611686018427387904) {F:Nat→Bool} {n:Nat} {er:Int}
    (hit:items q.data.toList (q.size+1) 0 (fun _=>false)=(F,n,er)) (her: ¬er=0) (hn:n≤4611686018427387904) (w:World):Calls Tryz.prog 170 #[.string s] w (Parsed w (fun _=>false,0,er)):=by
 have hz:=zero37
 have H2:=hid h2
 have te:(er !=0)=true:=by simpa using her
 have HQ:=hid hq
 have HQS:=hid hqs
 have HIT:=hid hit
 have HN:=hid hn
 clear h2 hq hqs hit hn her
 go_enter Tryz.func170,Tryz.ntmps170
 go_wp2_with fail
 refine(Tryz.strings_HasPrefix _ _ _).mono ?_
 rintro e w1 ⟨rfl,rfl⟩
 rw[H2.out]
 go_wp2_with fail
 refine(Tryz.strings_CutPrefix _ _ _).mono ?_
 rintro e w1 ⟨rfl,rfl⟩
 simp only[]
 rw[H2.out,HQ.out]
 go_wp2_with fail
 refine(items_any _ HQS.out _).mono ?_
 rintro e w2 ⟨rfl,hb2⟩
 rw[HIT.out]
 unfold itemsV
 have HB:=hid hb2
 clear hb2
 go_wp2_with (first|(refine store_row rfl (.tmp 8) (.tmp 26) rfl rfl rfl (Row.new _ _ _) ?_;intro wz hrz hbz;have HR:=hid hrz;have HZ:=hid ((new_row w2).2.trans (hbz.below (by rw[World.size_alloc];omega) (Nat.le_refl _)));clear hrz hbz)|fail)
 refine(text_any _ _).mono ?_
 rintro e w3 ⟨rfl,hb3⟩
 have HB3:=hid (on (on HB.out HZ.out) hb3)
 clear hb3
 go_wp2_with fail
 go_ret3
 exact⟨rfl,HB3.out⟩
theorem parse_ok {s q:ByteArray} (h2:Lib.hasPrefix s.data.toList [91,94]=false) (h1:Lib.hasPrefix s.data.toList [91]=true) (hq:(⟨(Lib.trimPrefix s.data.toList [91]).toArray⟩:ByteArray)=q) (hqs:q.size≤4611686018427387904) {F:Nat→Bool} {n:Nat} {er:Int}
    (hit:items q.data.toList (q.size+1) 0 (fun _=>false)=(F,n,er)) (her:er=0) (hn:n≤4611686018427387904) (w:World):Calls Tryz.prog 170 #[.string s] w (Parsed w (F,1+n,0)):=by
 have hz:=zero37
 have H2:=hid h2
 have H1:=hid h1
 clear h1
 have te:(er !=0)=false:=by rw[her];rfl
 subst her
 have HQ:=hid hq
 have HQS:=hid hqs
 have HIT:=hid hit
 have HN:=hid hn
 clear h2 hq hqs hit hn
 go_enter Tryz.func170,Tryz.ntmps170
 go_wp2_with fail
 refine(Tryz.strings_HasPrefix _ _ _).mono ?_
 rintro e w1 ⟨rfl,rfl⟩
 rw[H2.out]
 go_wp2_with fail
 refine(Tryz.strings_CutPrefix _ _ _).mono ?_
 rintro e w1 ⟨rfl,rfl⟩
 simp only[]
 rw[H1.out,HQ.out]
 go_wp2_with fail
 refine(items_any _ HQS.out _).mono ?_
 rintro e w2 ⟨rfl,hb2⟩
 rw[HIT.out]
 unfold itemsV
 have HB:=hid hb2
 clear hb2
 go_wp2_with (first|(refine store_row rfl (.tmp 8) (.tmp 26) rfl rfl rfl (Row.new _ _ _) ?_;intro wz hrz hbz;have HR:=hid hrz;have HZ:=hid ((new_row w2).2.trans (hbz.below (by rw[World.size_alloc];omega) (Nat.le_refl _)));clear hrz hbz)|(refine load_row rfl (.tmp 8) rfl rfl HR.out ?_)|fail)
 have HBY:=hid (on HB.out HZ.out)
 refine(text_any _ _).mono ?_
 rintro e w4 ⟨rfl,hb4⟩
 have HB4:=hid (on HBY.out hb4)
 have hn:=HN.out
 clear hb4
 go_wp2_with fail
 go_ret3
 exact⟨rfl,HB4.out⟩
theorem parse_oknot {s q:ByteArray} (h2:Lib.hasPrefix s.data.toList [91,94]=true) (hq:(⟨(Lib.trimPrefix s.data.toList [91,94]).toArray⟩:ByteArray)=q) (hqs:q.size≤4611686018427387904) {F:Nat→Bool} {n:Nat} {er:Int}
    (hit:items q.data.toList (q.size+1) 0 (fun _=>false)=(F,n,er)) (her:er=0) (hn:n≤4611686018427387904) (w:World):Calls Tryz.prog 170 #[.string s] w (Parsed w (fun i=> !F i,2+n,0)):=by
 have hz:=zero37
 have H2:=hid h2
 have te:(er !=0)=false:=by rw[her];rfl
 subst her
 have HQ:=hid hq
 have HQS:=hid hqs
 have HIT:=hid hit
 have HN:=hid hn
 clear h2 hq hqs hit hn
 go_enter Tryz.func170,Tryz.ntmps170
 go_wp2_with fail
 refine(Tryz.strings_HasPrefix _ _ _).mono ?_
 rintro e w1 ⟨rfl,rfl⟩
 rw[H2.out]
 go_wp2_with fail
 refine(Tryz.strings_CutPrefix _ _ _).mono ?_
 rintro e w1 ⟨rfl,rfl⟩
 simp only[]
 rw[H2.out,HQ.out]
 go_wp2_with fail
 refine(items_any _ HQS.out _).mono ?_
 rintro e w2 ⟨rfl,hb2⟩
 rw[HIT.out]
 unfold itemsV
 have HB:=hid hb2
 clear hb2
 go_wp2_with (first|(refine store_row rfl (.tmp 8) (.tmp 26) rfl rfl rfl (Row.new _ _ _) ?_;intro wz hrz hbz;have HR:=hid hrz;have HZ:=hid ((new_row w2).2.trans (hbz.below (by rw[World.size_alloc];omega) (Nat.le_refl _)));clear hrz hbz)|(refine load_row rfl (.tmp 8) rfl rfl HR.out ?_)|fail)
 have HBB:=hid (on HB.out HZ.out)
 refine(others_any _ _).mono ?_
 rintro e w3 ⟨rfl,hb3⟩
 replace HR:=hid (HR.out.on hb3 HR.out.lt)
 have HB3:=hid (on HBB.out hb3)
 have HLT:=hid (Nat.le_trans HB.out.size (Nat.le_refl w2.heap.size))
 clear hb3
 go_wp2_with (first|(refine store_row rfl (.tmp 8) (.tmp 39) rfl rfl rfl HR.out ?_;intro wy hry hby;have HRY:=hid hry;have HBY:=hid (HB3.out.trans (hby.below HB3.out.size HLT.out));clear hry hby)|(refine load_row rfl (.tmp 8) rfl rfl HRY.out ?_)|fail)
 refine(text_any _ _).mono ?_
 rintro e w4 ⟨rfl,hb4⟩
 have HB4:=hid (on HBY.out hb4)
 have hn:=HN.out
 clear hb4
 go_wp2_with fail
 go_ret3
 exact⟨rfl,HB4.out⟩
end W13
namespace W13
open M13 Row256
open Kit (ret_str ret_bool ret_int mk_of mk_bytes ba_ext below_draws on drop_bytes)
theorem items_n (s:List UInt8): ∀(fuel at_:Nat) (f:Nat→Bool),(items s fuel at_ f).2.1≤s.length+1
 |0,_,_=>Nat.zero_le _
 |fuel+1,at_,f=>by
  unfold items
  split
  ·exact Nat.zero_le _
  ·split
   ·simp only;omega
   ·split
    ·exact Nat.zero_le _
    ·exact items_n s fuel _ _
theorem parse_any {s:ByteArray} (hs:s.size≤4611686018427387000) (w:World):Calls Tryz.prog 170 #[.string s] w (Parsed w (parse s.data.toList)):=by
 have hsz:s.data.toList.length=s.size:=(Lib.size_eq s).symm
 generalize hl:s.data.toList=l at hsz
 cases l with
 |nil=>exact parse_no (by rw[hl];rfl) (by rw[hl];rfl) w
 |cons c r=>
  by_cases hc:c=91
  ·subst hc
   have plain:(Lib.hasPrefix (91::r) [91,94]=false)→parse (91::r)=(if(items r (r.length+1) 0 (fun _=>false)).2.2≠0 then(fun _=>false,0,(items r (r.length+1) 0 (fun _=>false)).2.2)else((items r (r.length+1) 0 (fun _=>false)).1,1+(items r (r.length+1) 0 (fun _=>false)).2.1,0))→Calls Tryz.prog 170 #[.string s] w (Parsed w (parse (91::r))):=by
    intro h2 hp
    rw[hp]
    have hq:(⟨(Lib.trimPrefix s.data.toList [91]).toArray⟩:ByteArray)=⟨r.toArray⟩:=by rw[hl];rfl
    have hqz:(⟨r.toArray⟩:ByteArray).size=r.length:=by simp[ByteArray.size]
    have hn:=items_n r (r.length+1) 0 (fun _=>false)
    rw[List.length_cons]at hsz
    obtain⟨⟨F,n,er⟩,hit⟩: ∃x,items r (r.length+1) 0 (fun _=>false)=x:=⟨_,rfl⟩
    rw[hit]at hn ⊢
    simp only at hn ⊢
    have hit2:items (⟨r.toArray⟩:ByteArray).data.toList ((⟨r.toArray⟩:ByteArray).size+1) 0 (fun _=>false)=(F,n,er):=by rw[hqz];exact hit
    by_cases he:er=0
    ·rw[if_neg (by simpa using he)]
     exact parse_ok (by rw[hl];exact h2) (by rw[hl];rfl) hq (by rw[hqz];omega) hit2 he (by omega) w
    ·rw[if_pos he]
     exact parse_bad (by rw[hl];exact h2) (by rw[hl];rfl) hq (by rw[hqz];omega) hit2 he (by omega) w
   cases r with
   |nil=>exact plain rfl rfl
   |cons d q=>
    by_cases hd:d=94
    ·subst hd
     have hp:parse (91::94::q)=(if(items q (q.length+1) 0 (fun _=>false)).2.2≠0 then(fun _=>false,0,(items q (q.length+1) 0 (fun _=>false)).2.2)else(fun i=> !(items q (q.length+1) 0 (fun _=>false)).1 i,2+(items q (q.length+1) 0 (fun _=>false)).2.1,0)):=rfl
     rw[hp]
     have hq:(⟨(Lib.trimPrefix s.data.toList [91,94]).toArray⟩:ByteArray)=⟨q.toArray⟩:=by rw[hl];rfl
     have hqz:(⟨q.toArray⟩:ByteArray).size=q.length:=by simp[ByteArray.size]
     have hn:=items_n q (q.length+1) 0 (fun _=>false)
     rw[List.length_cons,List.length_cons]at hsz
     obtain⟨⟨F,n,er⟩,hit⟩: ∃x,items q (q.length+1) 0 (fun _=>false)=x:=⟨_,rfl⟩
     rw[hit]at hn ⊢
     simp only at hn ⊢
     have hit2:items (⟨q.toArray⟩:ByteArray).data.toList ((⟨q.toArray⟩:ByteArray).size+1) 0 (fun _=>false)=(F,n,er):=by rw[hqz];exact hit
     by_cases he:er=0
     ·rw[if_neg (by simpa using he)]
      exact parse_oknot (by rw[hl];rfl) hq (by rw[hqz];omega) hit2 he (by omega) w
     ·rw[if_pos he]
      exact parse_badnot (by rw[hl];rfl) hq (by rw[hqz];omega) hit2 he (by omega) w
    ·refine plain ?_ ?_
     ·have h3: ¬94=d:=fun e=>hd e.symm
      simp[Lib.hasPrefix,List.isPrefixOf,h3]
     ·conv=>lhs;unfold parse
      simp only[if_true,if_neg hd]
  ·have h3: ¬91=c:=fun e=>hc e.symm
   have hp:parse (c::r)=(fun _=>false,0,3):=by unfold parse;simp only[if_neg hc]
   rw[hp]
   exact parse_no (by rw[hl];simp[Lib.hasPrefix,List.isPrefixOf,h3]) (by rw[hl];simp[Lib.hasPrefix,List.isPrefixOf,h3]) w
end W13
namespace W14
open M14
open Row256 (Beside)
open Kit (ret_str ret_bool ret_int mk_of mk_bytes ba_ext below_draws on list_full list_ne list_none list_nil)
def timesR (l:List UInt8):Int×Int×Int×Nat:=
 match l with
 | []=>(0,0,0,0)
 |c::r=>if c=42 then(0,0,-1,1)else if c=43 then(0,1,-1,1)else if c=63 then(0,0,1,1)else if c=123 then braces r else(0,0,0,0)
theorem timesR_at {s:ByteArray} (h:0<s.size):timesR s.data.toList=if s[0]=42 then(0,0,-1,1)else if s[0]=43 then(0,1,-1,1)else if s[0]=63 then(0,0,1,1)else if s[0]=123 then braces (s.data.toList.drop 1)else(0,0,0,0):=by
 have e:s.data.toList=s[0]::s.data.toList.drop 1:=by
  conv=>lhs;rw[←List.drop_zero (l:=s.data.toList),Kit.drop_next s 0 h]
 generalize s.data.toList.drop 1=r at*
 rw[e];rfl
theorem times_any (s:ByteArray) (hs:s.size≤1000000) (w:World):Calls Tryz.prog 148 #[.string s] w fun e w'=>e= .returned (numV (timesR s.data.toList))∧Below w.heap.size w w':=by
 by_cases h0:0<s.size
 ·have hl:=list_full h0
  have hv:=timesR_at h0
  by_cases h42:s[0]=42
  ·have t42:((s[0].toNat:Int)==42)=true:=u8y h42
   rw[if_pos h42]at hv
   have HV:=hid hv
   clear hv h42
   rw[HV.out]
   go_enter Tryz.func148,Tryz.ntmps148
   go_wp2_with fail
   refine bodyPost_ret (results_tmp4 rfl _ _ _) rfl ?_
   exact⟨rfl,Below.refl _ _⟩
  ·have t42:((s[0].toNat:Int)==42)=false:=u8n h42
   by_cases h43:s[0]=43
   ·have t43:((s[0].toNat:Int)==43)=true:=u8y h43
    rw[if_neg h42,if_pos h43]at hv
    have HV:=hid hv
    clear hv h42 h43
    rw[HV.out]
    go_enter Tryz.func148,Tryz.ntmps148
    go_wp2_with fail
    refine bodyPost_ret (results_tmp4 rfl _ _ _) rfl ?_
    exact⟨rfl,Below.refl _ _⟩
   ·have t43:((s[0].toNat:Int)==43)=false:=u8n h43
    by_cases h63:s[0]=63
    ·have t63:((s[0].toNat:Int)==63)=true:=u8y h63
     rw[if_neg h42,if_neg h43,if_pos h63]at hv
     have HV:=hid hv
     clear hv h42 h43 h63
     rw[HV.out]
     go_enter Tryz.func148,Tryz.ntmps148
     go_wp2_with fail
     refine bodyPost_ret (results_tmp4 rfl _ _ _) rfl ?_
     exact⟨rfl,Below.refl _ _⟩
    ·have t63:((s[0].toNat:Int)==63)=false:=u8n h63
     by_cases h123:s[0]=123
     ·have t123:((s[0].toNat:Int)==123)=true:=u8y h123
      rw[if_neg h42,if_neg h43,if_neg h63,if_pos h123]at hv
      have HV:=hid hv
      clear hv h42 h43 h63 h123
      rw[HV.out]
      have HN:=hid (numbers_any h0 hs w)
      obtain⟨r,hr⟩: ∃r,braces (s.data.toList.drop 1)=r:=⟨_,rfl⟩
      rw[hr]at HN ⊢
      clear hr HV
      go_enter Tryz.func148,Tryz.ntmps148
      go_wp2_with fail
      refine HN.out.mono ?_
      rintro e w1 ⟨rfl,hb⟩
      have HB:=hid hb
      clear hb
      unfold numV
      go_wp2_with fail
      refine bodyPost_ret (results_tmp4 rfl _ _ _) rfl ?_
      exact⟨rfl,HB.out⟩
     ·have t123:((s[0].toNat:Int)==123)=false:=u8n h123
      rw[if_neg h42,if_neg h43,if_neg h63,if_neg h123]at hv
      have HV:=hid hv
      clear hv h42 h43 h63 h123
      rw[HV.out]
      go_enter Tryz.func148,Tryz.ntmps148
      go_wp2_with fail
      refine bodyPost_ret (results_tmp4 rfl _ _ _) rfl ?_
      exact⟨rfl,Below.refl _ _⟩
 ·have hl:=list_none h0
  have HV:Hid (timesR s.data.toList=(0,0,0,0)):=by
   unfold Hid
   rw[Kit.bytes_nil h0];rfl
  rw[HV.out]
  go_enter Tryz.func148,Tryz.ntmps148
  go_wp2_with fail
  refine bodyPost_ret (results_tmp4 rfl _ _ _) rfl ?_
  exact⟨rfl,Below.refl _ _⟩
theorem timesR_ok {l:List UInt8} (h:(timesR l).1=0):(timesR l).2.2.2≤l.length:=by
 cases l with
 |nil=>exact Nat.le_refl _
 |cons c r=>
  revert h
  unfold timesR
  simp only
  split
  ·intro _;simp
  ·split
   ·intro _;simp
   ·split
    ·intro _;simp
    ·split
     ·intro h
      have:=(braces_ok h).2.2.2
      simpa using this
     ·intro _;simp
theorem timesR_braces (r:List UInt8):timesR (123::r)=braces r:=rfl
theorem often_times (S:List UInt8) (p:Piece) {to:Nat} (h:to≤S.length):often S p to=if(timesR (S.drop to)).1≠0 then .bad to (timesR (S.drop to)).1 else if(timesR (S.drop to)).2.2.2=0 then .ok p to else .ok (.mk 9 ⟨#[]⟩ [p] (timesR (S.drop to)).2.1 (timesR (S.drop to)).2.2.1) (to+(timesR (S.drop to)).2.2.2):=by
 unfold often
 by_cases h0:to=S.length
 ·rw[if_pos h0,h0,List.drop_length];rfl
 ·rw[if_neg h0]
  have hlt:to<S.length:=by omega
  have e:S.drop to=S.getD to 0::S.drop (to+1):=by
   rw[List.drop_eq_getElem_cons hlt,List.getD_eq_getElem?_getD,List.getElem?_eq_getElem hlt];rfl
  rw[e]
  generalize S.getD to 0=c
  by_cases h1:c=123
  ·subst h1
   rw[if_pos rfl,timesR_braces]
   by_cases h2:(braces (S.drop (to+1))).1≠0
   ·rw[if_pos h2,if_pos h2]
   ·rw[if_neg h2,if_neg h2]
    have:=(braces_ok (l:=S.drop (to+1)) (by simpa using h2)).2.2.1
    rw[if_neg (by omega)]
  ·rw[if_neg h1]
   unfold timesR
   simp only
   by_cases h2:c=42
   ·simp[h2]
   ·by_cases h3:c=43
    ·simp[h3]
    ·by_cases h4:c=63
     ·simp[h4]
     ·simp[h1,h2,h3,h4]
end W14
end Go.Proofs.YtfgegjinhkgpbaaGreatDoor
