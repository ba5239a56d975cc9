/-
  Texts joined, in build order, each with its own comment and its own conditions: W13Text, W13Sets, W13Items, W13Item, W13Parse, W13Parsed, W13ParseAny, W14Often.
-/
import Derived.Test.YtfgegjinhkgpbaaGreatDoorJ06
import Derived.Laws.BytesString
namespace Go.Proofs.YtfgegjinhkgpbaaGreatDoor
set_option maxHeartbeats 4000000
set_option maxRecDepth 100000
open Go.RowKit
open Lib (hid)
namespace FD
open Ew BU
open Kit (Au AX BO CL Ae BM below_draws on)
def tx (f:Nat->Bool):ByteArray:=⟨(textOf f).toArray⟩
theorem aZ (f:Nat->Bool):(tx f).data.toList=textOf f:=rfl
theorem Em {f g:Nat->Bool} (h: ∀i,i<256->f i=g i):tx f=tx g:=by unfold tx;rw[ML h]
def uv (f:Nat->UInt8) (i:Nat):Value:= .int .u8 (f i).toNat
theorem Ty {f g:Nat->UInt8} {i:Nat} (h:f i=g i):uv f i=uv g i:=by unfold uv;rw[h]
theorem qy:(Tryz.prog.info? 149).map (fun i=>(i.zero,i.size))=some (some (Value.agg (Array.replicate 256 (.int .u8 0))),256):=by kernel_rfl
theorem qz (w:World):(zeroValue 149).run Tryz.prog w= .ok (.agg (BZ (uv fun _=>0))) w:=by
 have h:=(zero_of_info qy).1 w
 rw[Tw]at h;exact h
theorem dA {w:World} {b i:Nat} {t:TypeId} {F:Nat->UInt8} {v:Value} (h:Row w b t (uv fun j=>if j<i then F j else 0)) (u:Value) (hv:v=uv F i):Row ((w.setCell ⟨b,i,none⟩ u).setCell ⟨b,i,none⟩ v) b t (uv fun j=>if j<i+1 then F j else 0):=by
 refine((h.put i u).put i v).is fun j _=> ?_
 by_cases e:j=i
 ·subst e
  rw[if_pos rfl,hv]
  exact Ty (g:=fun k=>if k<j+1 then F k else 0) (by rw[if_pos (by omega)])
 rw[if_neg e,if_neg e]
 refine Ty ?_
 by_cases e2:j<i
 ·rw[if_pos e2,if_pos (by omega)]
 rw[if_neg e2,if_neg (by omega)]
theorem Y6 {w:World} {b i:Nat} {t:TypeId} {F:Nat->UInt8} {v:Value} (h:Row w b t (uv fun j=>if j<i then F j else 0)) (hv:v=uv F i):Row (w.setCell ⟨b,i,none⟩ v) b t (uv fun j=>if j<i+1 then F j else 0):=by
 refine(h.put i v).is fun j _=> ?_
 by_cases e:j=i
 ·subst e
  rw[if_pos rfl,hv]
  exact Ty (g:=fun k=>if k<j+1 then F k else 0) (by rw[if_pos (by omega)])
 rw[if_neg e]
 refine Ty ?_
 by_cases e2:j<i
 ·rw[if_pos e2,if_pos (by omega)]
 rw[if_neg e2,if_neg (by omega)]
theorem iQ {w:World} {b:Nat} {t:TypeId} {f:Nat->Bool} (h:Row w b t (uv fun j=>bit (f j))):(convert 53 9 (.slice (some ⟨b,0,none⟩) 256 256)).run Tryz.prog w= .ok (.string (tx f)) w:=by
 have h2:=run_convert_bytes_back (P:=Tryz.prog) w 53 9 5 ⟨b,0,none⟩ 256 (textOf f) Tryz.underlying53 Tryz.underlying5 Tryz.underlying9 (fun j hj=>by
  have hj2:j<256:=by rw[JE]at hj;exact hj
  have hc:=h.cell hj2
  have hadd:(⟨b,0,none⟩:Addr).add j=⟨b,j,none⟩:=by unfold Addr.add;split<;>simp_all
  have e:(textOf f)[j]'hj=bit (f j):=by
   have:=K_ f hj2
   rw[List.getElem?_eq_getElem hj]at this
   exact Option.some.inj this
  rw[hadd,hc]
  show some (Value.int .u8 (bit (f j)).toNat)=some (Value.int .u8 ((textOf f)[j]'hj).toNat)
  rw[e])
 rw[JE]at h2
 exact h2
theorem Gw (f:Nat->Bool) (w:World):
    Calls Tryz.prog 176 #[.agg (BZ (bv f))] w fun e w'=>e= .returned (.string (tx f))/\Below w.heap.size w w':=by
 have hz:=qz
 go_enter Tryz.func176,Tryz.ntmps176
 go_wp2_with fail
 have hn1:Row (w.alloc (.cells (BZ (bv f)) 174)) w.heap.size 174 (bv f):=Row.new _ _ _
 have hn2:=Row.new (w.alloc (.cells (BZ (bv f)) 174)) 149 (uv fun _=>0)
 rw[World.size_alloc]at hn2
 have HN:=hid (And.intro (hn1.alloc (.cells (BZ (uv fun _=>0)) 149)) hn2)
 have HB:=hid ((Below.refl w.heap.size w).alloc (Nat.le_refl _) (.cells (BZ (bv f)) 174) |>.alloc (by rw[World.size_alloc];omega) (.cells (BZ (uv fun _=>0)) 149))
 clear hn1 hn2 hz
 generalize ((w.alloc (.cells (BZ (bv f)) 174)).alloc (.cells (BZ (uv fun _=>0)) 149))=w1 at HN HB ⊢
 go_loopg [5] 256 (fun g s5 wr=> ∃i:Nat,s5= .int .i64 i/\i+g=256/\Hid (Row wr (w.heap.size+1) 149 (uv fun j=>if j<i then bit (f j)else 0))/\Hid (Row wr w.heap.size 174 (bv f))/\Hid (Below w.heap.size w wr))
 case atStart=>exact⟨0,rfl,rfl,HN.out.2.is fun j _=>Ty (by rw[if_neg (by omega)]),HN.out.1,HB⟩
 case round=>
  obtain⟨i,rfl,hig,hr,hz,hb⟩:=hrel
  cases gk with
  |zero=>
   obtain rfl:i=256:=by omega
   have zO:=iQ (f:=f) (hr.out.is fun j hj=>Ty (by rw[if_pos hj]))
   go_wp2_with fail
   go_ret
   exact⟨rfl,hb.out⟩
  |succ g=>
   have hi3:(i:Int)<256:=by omega
   have hcell:=hr.out.cell (i:=i) (by omega)
   have hfree:=hr.out.free i
   generalize hold:uv (fun j=>if j<i then bit (f j)else 0) i=old at hcell
   clear hold
   have hcell2:wr.cell? ⟨w.heap.size,i,none⟩=some (.bool (f i)):=hz.out.cell (i:=i) (by omega)
   cases hf:f i with
   |true=>
    rw[hf]at hcell2
    go_wp2_with fail
    go_roundg g
    case measure=>omega
    case rel=>exact⟨i+1,by first|rfl|simp,by omega,dA hr.out _ (by rw[show uv (fun j=>bit (f j)) i= .int .u8 (bit (f i)).toNat from rfl,hf];rfl),(hz.out.other (a:=⟨w.heap.size+1,i,none⟩) (by simp) _).other (by simp) _,(hb.out.setCell (p:=⟨w.heap.size+1,i,none⟩) (by simp) _).setCell (by simp) _⟩
   |false=>
    rw[hf]at hcell2
    go_wp2_with fail
    go_roundg g
    case measure=>omega
    case rel=>exact⟨i+1,by first|rfl|simp,by omega,Y6 hr.out (by rw[show uv (fun j=>bit (f j)) i= .int .u8 (bit (f i)).toNat from rfl,hf];rfl),hz.out.other (by simp) _,hb.out.setCell (by simp) _⟩
end FD
namespace FD
open Ew BU
open Kit (Au AX BO CL Ae BM below_draws on)
theorem JH (w:World):Row (w.alloc (.cells (BZ (bv fun _=>false)) 174)) w.heap.size 174 (bv fun _=>false)/\Below w.heap.size w (w.alloc (.cells (BZ (bv fun _=>false)) 174)):=
 ⟨Row.new _ _ _,(Below.refl w.heap.size w).alloc (Nat.le_refl _) _⟩
theorem F_ (w:World):Row ((w.alloc (.cells (BZ (bv fun _=>false)) 174)).alloc (.cells (BZ (bv fun _=>false)) 174)) w.heap.size 174 (bv fun _=>false)/\Row ((w.alloc (.cells (BZ (bv fun _=>false)) 174)).alloc (.cells (BZ (bv fun _=>false)) 174)) (w.heap.size+1) 174 (bv fun _=>false)/\Below w.heap.size w ((w.alloc (.cells (BZ (bv fun _=>false)) 174)).alloc (.cells (BZ (bv fun _=>false)) 174)):=by
 have h:=JH (w.alloc (.cells (BZ (bv fun _=>false)) 174))
 rw[World.size_alloc]at h
 exact⟨(JH w).1.alloc _,h.1,(JH w).2.trans (h.2.mono (Nat.le_succ _))⟩
theorem nX (s:ByteArray) (w:World):Calls Tryz.prog 164 #[.string s] w fun e w'=>e= .returned (.string (tx fun i=> !has s.data.toList i))/\Below w.heap.size w w':=by
 go_enter Tryz.func164,Tryz.ntmps164
 go_wp2_with fail
 refine(Y5 _ _).mono ?_
 rintro e w1 ⟨rfl,hb1⟩
 have HB1:=hid hb1
 clear hb1
 go_wp2_with fail
 refine(Gv _ _).mono ?_
 rintro e w2 ⟨rfl,hb2⟩
 have HB2:=hid (on HB1.out hb2)
 clear hb2
 go_wp2_with fail
 refine(Gw _ _).mono ?_
 rintro e w3 ⟨rfl,hb3⟩
 have HB3:=hid (on HB2.out hb3)
 clear hb3
 go_wp2_with fail
 go_ret
 exact⟨rfl,HB3.out⟩
theorem Qm {w:World} {b:Nat} {t:TypeId} {f:Nat->Bool} (h:Row w b t (bv f)) (i:Nat):Row (w.setCell ⟨b,i,none⟩ (.bool true)) b t (bv fun j=>f j||decide (j=i)):=by
 refine(h.put i (.bool true)).is fun j _=> ?_
 by_cases e:j=i
 ·subst e;rw[if_pos rfl];exact Dk (f:=fun _=>true) (by simp)
 rw[if_neg e];exact Dk (by simp[e])
theorem Tz (w:World):Calls Tryz.prog 181 #[.int .u8 100] w fun e w'=>e= .returned (.agg (BZ (bv (Bt 100))))/\Below w.heap.size w w':=by
 have hz:=Ez
 go_enter Tryz.func181,Tryz.ntmps181
 go_wp2_with fail
 have HN:=hid (F_ w)
 generalize ((w.alloc (.cells (BZ (bv fun _=>false)) 174)).alloc (.cells (BZ (bv fun _=>false)) 174))=w1 at HN ⊢
 clear hz
 have HR:=hid HN.out.2.1
 have HQ:=hid HN.out.1
 have HB:=hid HN.out.2.2
 clear HN
 refine(Ij HR.out 48 57).mono ?_
 rintro e w2 ⟨rfl,hr2,hb2⟩
 replace HR:=hid hr2
 replace HQ:=hid (HQ.out.beside hb2 (by omega))
 replace HB:=hid (HB.out.trans (hb2.below HB.out.size (by omega)))
 clear hr2 hb2
 go_wp2_with (first|(refine Dl rfl (.tmp 3) rfl rfl HR.out ?_)|(refine Bq rfl (.tmp 2) (.tmp 26) rfl rfl rfl HQ.out ?_;intro wz hrz hbz;have Sn:=hid hrz;have Pd:=hid hbz;clear hrz hbz))
 refine Fx rfl rfl Sn.out rfl ⟨?_,HB.out.trans (Pd.out.below HB.out.size (Nat.le_refl _))⟩
 exact congrArg (fun x=>Ending.returned (.agg x)) (Ex fun i _=>Dk rfl)
theorem T9 (w:World):Calls Tryz.prog 181 #[.int .u8 119] w fun e w'=>e= .returned (.agg (BZ (bv (Bt 119))))/\Below w.heap.size w w':=by
 have hz:=Ez
 go_enter Tryz.func181,Tryz.ntmps181
 go_wp2_with fail
 have HN:=hid (F_ w)
 generalize ((w.alloc (.cells (BZ (bv fun _=>false)) 174)).alloc (.cells (BZ (bv fun _=>false)) 174))=w1 at HN ⊢
 clear hz
 have HR:=hid HN.out.2.1
 have HQ:=hid HN.out.1
 have HB:=hid HN.out.2.2
 clear HN
 refine(Ij HR.out 97 122).mono ?_
 rintro e w2 ⟨rfl,hr2,hb2⟩
 replace HR:=hid hr2
 replace HQ:=hid (HQ.out.beside hb2 (by omega))
 replace HB:=hid (HB.out.trans (hb2.below HB.out.size (by omega)))
 clear hr2 hb2
 go_wp2_with fail
 refine(Ij HR.out 65 90).mono ?_
 rintro e w2 ⟨rfl,hr2,hb2⟩
 replace HR:=hid hr2
 replace HQ:=hid (HQ.out.beside hb2 (by omega))
 replace HB:=hid (HB.out.trans (hb2.below HB.out.size (by omega)))
 clear hr2 hb2
 have hcell:=HR.out.cell (i:=95) (by omega)
 have hfree:=HR.out.free 95
 have HR2:=hid (Qm HR.out 95)
 have wM:=hid (HQ.out.other (a:=⟨w.heap.size+1,95,none⟩) (by simp) (.bool true))
 have HB2:=hid (HB.out.setCell (p:=⟨w.heap.size+1,95,none⟩) (by simp) (.bool true))
 go_wp2_with fail
 clear hcell hfree
 replace HR:=HR2
 replace HQ:=wM
 replace HB:=HB2
 refine(Ij HR.out 48 57).mono ?_
 rintro e w2 ⟨rfl,hr2,hb2⟩
 replace HR:=hid hr2
 replace HQ:=hid (HQ.out.beside hb2 (by omega))
 replace HB:=hid (HB.out.trans (hb2.below HB.out.size (by omega)))
 clear hr2 hb2
 go_wp2_with (first|(refine Dl rfl (.tmp 3) rfl rfl HR.out ?_)|(refine Bq rfl (.tmp 2) (.tmp 26) rfl rfl rfl HQ.out ?_;intro wz hrz hbz;have Sn:=hid hrz;have Pd:=hid hbz;clear hrz hbz))
 refine Fx rfl rfl Sn.out rfl ⟨?_,HB.out.trans (Pd.out.below HB.out.size (Nat.le_refl _))⟩
 exact congrArg (fun x=>Ending.returned (.agg x)) (Ex fun i _=>Dk rfl)
theorem T_ (w:World):Calls Tryz.prog 181 #[.int .u8 115] w fun e w'=>e= .returned (.agg (BZ (bv (Bt 115))))/\Below w.heap.size w w':=by
 have hz:=Ez
 go_enter Tryz.func181,Tryz.ntmps181
 go_wp2_with fail
 have HN:=hid (F_ w)
 generalize ((w.alloc (.cells (BZ (bv fun _=>false)) 174)).alloc (.cells (BZ (bv fun _=>false)) 174))=w1 at HN ⊢
 clear hz
 have HR:=hid HN.out.2.1
 have HQ:=hid HN.out.1
 have HB:=hid HN.out.2.2
 clear HN
 refine(Ij HR.out 9 13).mono ?_
 rintro e w2 ⟨rfl,hr2,hb2⟩
 replace HR:=hid hr2
 replace HQ:=hid (HQ.out.beside hb2 (by omega))
 replace HB:=hid (HB.out.trans (hb2.below HB.out.size (by omega)))
 clear hr2 hb2
 have hcell:=HR.out.cell (i:=32) (by omega)
 have hfree:=HR.out.free 32
 have HR2:=hid (Qm HR.out 32)
 have wM:=hid (HQ.out.other (a:=⟨w.heap.size+1,32,none⟩) (by simp) (.bool true))
 have HB2:=hid (HB.out.setCell (p:=⟨w.heap.size+1,32,none⟩) (by simp) (.bool true))
 go_wp2_with (first|(refine Dl rfl (.tmp 3) rfl rfl HR2.out ?_)|(refine Bq rfl (.tmp 2) (.tmp 26) rfl rfl rfl wM.out ?_;intro wz hrz hbz;have Sn:=hid hrz;have Pd:=hid hbz;clear hrz hbz))
 clear hcell hfree
 replace HR:=HR2
 replace HQ:=wM
 replace HB:=HB2
 refine Fx rfl rfl Sn.out rfl ⟨?_,HB.out.trans (Pd.out.below HB.out.size (Nat.le_refl _))⟩
 exact congrArg (fun x=>Ending.returned (.agg x)) (Ex fun i _=>Dk rfl)
theorem iR (w:World):Calls Tryz.prog 181 #[.int .u8 68] w fun e w'=>e= .returned (.agg (BZ (bv (Bt 68))))/\Below w.heap.size w w':=by
 have hz:=Ez
 go_enter Tryz.func181,Tryz.ntmps181
 go_wp2_with fail
 have HN:=hid (F_ w)
 generalize ((w.alloc (.cells (BZ (bv fun _=>false)) 174)).alloc (.cells (BZ (bv fun _=>false)) 174))=w1 at HN ⊢
 clear hz
 have HR:=hid HN.out.2.1
 have HQ:=hid HN.out.1
 have HB:=hid HN.out.2.2
 clear HN
 refine(Tz _).mono ?_
 rintro e w2 ⟨rfl,hb2⟩
 replace HR:=hid (HR.out.on hb2 HR.out.lt)
 replace HQ:=hid (HQ.out.on hb2 HQ.out.lt)
 replace HB:=hid (HB.out.trans (hb2.mono HB.out.size))
 clear hb2
 go_wp2_with fail
 refine(Gv _ _).mono ?_
 rintro e w2 ⟨rfl,hb2⟩
 replace HR:=hid (HR.out.on hb2 HR.out.lt)
 replace HQ:=hid (HQ.out.on hb2 HQ.out.lt)
 replace HB:=hid (HB.out.trans (hb2.mono HB.out.size))
 clear hb2
 go_wp2_with (first|(refine Bq rfl (.tmp 3) (.tmp 19) rfl rfl rfl HR.out ?_;intro wy iT hby;have q8:=hid iT;have nY:=hid hby;have uY:=hid (HQ.out.beside hby (by omega));clear iT hby)|(refine Dl rfl (.tmp 3) rfl rfl q8.out ?_)|(refine Bq rfl (.tmp 2) (.tmp 26) rfl rfl rfl uY.out ?_;intro wz hrz hbz;have Sn:=hid hrz;have Pd:=hid hbz;clear hrz hbz))
 replace HB:=hid (HB.out.trans (nY.out.below HB.out.size (by omega)))
 refine Fx rfl rfl Sn.out rfl ⟨?_,HB.out.trans (Pd.out.below HB.out.size (Nat.le_refl _))⟩
 exact congrArg (fun x=>Ending.returned (.agg x)) (Ex fun i _=>Dk rfl)
theorem iU (w:World):Calls Tryz.prog 181 #[.int .u8 87] w fun e w'=>e= .returned (.agg (BZ (bv (Bt 87))))/\Below w.heap.size w w':=by
 have hz:=Ez
 go_enter Tryz.func181,Tryz.ntmps181
 go_wp2_with fail
 have HN:=hid (F_ w)
 generalize ((w.alloc (.cells (BZ (bv fun _=>false)) 174)).alloc (.cells (BZ (bv fun _=>false)) 174))=w1 at HN ⊢
 clear hz
 have HR:=hid HN.out.2.1
 have HQ:=hid HN.out.1
 have HB:=hid HN.out.2.2
 clear HN
 refine(T9 _).mono ?_
 rintro e w2 ⟨rfl,hb2⟩
 replace HR:=hid (HR.out.on hb2 HR.out.lt)
 replace HQ:=hid (HQ.out.on hb2 HQ.out.lt)
 replace HB:=hid (HB.out.trans (hb2.mono HB.out.size))
 clear hb2
 go_wp2_with fail
 refine(Gv _ _).mono ?_
 rintro e w2 ⟨rfl,hb2⟩
 replace HR:=hid (HR.out.on hb2 HR.out.lt)
 replace HQ:=hid (HQ.out.on hb2 HQ.out.lt)
 replace HB:=hid (HB.out.trans (hb2.mono HB.out.size))
 clear hb2
 go_wp2_with (first|(refine Bq rfl (.tmp 3) (.tmp 19) rfl rfl rfl HR.out ?_;intro wy iT hby;have q8:=hid iT;have nY:=hid hby;have uY:=hid (HQ.out.beside hby (by omega));clear iT hby)|(refine Dl rfl (.tmp 3) rfl rfl q8.out ?_)|(refine Bq rfl (.tmp 2) (.tmp 26) rfl rfl rfl uY.out ?_;intro wz hrz hbz;have Sn:=hid hrz;have Pd:=hid hbz;clear hrz hbz))
 replace HB:=hid (HB.out.trans (nY.out.below HB.out.size (by omega)))
 refine Fx rfl rfl Sn.out rfl ⟨?_,HB.out.trans (Pd.out.below HB.out.size (Nat.le_refl _))⟩
 exact congrArg (fun x=>Ending.returned (.agg x)) (Ex fun i _=>Dk rfl)
theorem iV (w:World):Calls Tryz.prog 181 #[.int .u8 83] w fun e w'=>e= .returned (.agg (BZ (bv (Bt 83))))/\Below w.heap.size w w':=by
 have hz:=Ez
 go_enter Tryz.func181,Tryz.ntmps181
 go_wp2_with fail
 have HN:=hid (F_ w)
 generalize ((w.alloc (.cells (BZ (bv fun _=>false)) 174)).alloc (.cells (BZ (bv fun _=>false)) 174))=w1 at HN ⊢
 clear hz
 have HR:=hid HN.out.2.1
 have HQ:=hid HN.out.1
 have HB:=hid HN.out.2.2
 clear HN
 refine(T_ _).mono ?_
 rintro e w2 ⟨rfl,hb2⟩
 replace HR:=hid (HR.out.on hb2 HR.out.lt)
 replace HQ:=hid (HQ.out.on hb2 HQ.out.lt)
 replace HB:=hid (HB.out.trans (hb2.mono HB.out.size))
 clear hb2
 go_wp2_with fail
 refine(Gv _ _).mono ?_
 rintro e w2 ⟨rfl,hb2⟩
 replace HR:=hid (HR.out.on hb2 HR.out.lt)
 replace HQ:=hid (HQ.out.on hb2 HQ.out.lt)
 replace HB:=hid (HB.out.trans (hb2.mono HB.out.size))
 clear hb2
 go_wp2_with (first|(refine Bq rfl (.tmp 3) (.tmp 19) rfl rfl rfl HR.out ?_;intro wy iT hby;have q8:=hid iT;have nY:=hid hby;have uY:=hid (HQ.out.beside hby (by omega));clear iT hby)|(refine Dl rfl (.tmp 3) rfl rfl q8.out ?_)|(refine Bq rfl (.tmp 2) (.tmp 26) rfl rfl rfl uY.out ?_;intro wz hrz hbz;have Sn:=hid hrz;have Pd:=hid hbz;clear hrz hbz))
 replace HB:=hid (HB.out.trans (nY.out.below HB.out.size (by omega)))
 refine Fx rfl rfl Sn.out rfl ⟨?_,HB.out.trans (Pd.out.below HB.out.size (Nat.le_refl _))⟩
 exact congrArg (fun x=>Ending.returned (.agg x)) (Ex fun i _=>Dk rfl)
theorem UA {c d:UInt8} (h: ¬c=d):(((c.toNat:Nat):Int)==((d.toNat:Nat):Int))=false:=beq_eq_false_iff_ne.2 fun e=>h (Kit.EZ e)
theorem iW {c:UInt8} (h1: ¬c=100) (h2: ¬c=119) (h3: ¬c=115) (h4: ¬c=68) (h5: ¬c=87) (h6: ¬c=83) (w:World):Calls Tryz.prog 181 #[.int .u8 c.toNat] w fun e w'=>e= .returned (.agg (BZ (bv (Bt c))))/\Below w.heap.size w w':=by
 have HF:Hid (Bt c=fun _=>false):=by
  funext i
  unfold Bt
  rw[if_neg h1,if_neg h2,if_neg h3,if_neg h4,if_neg h5,if_neg h6]
 have g1:(((c.toNat:Nat):Int)==100)=false:=UA (d:=100) h1
 have g2:(((c.toNat:Nat):Int)==119)=false:=UA (d:=119) h2
 have g3:(((c.toNat:Nat):Int)==115)=false:=UA (d:=115) h3
 have g4:(((c.toNat:Nat):Int)==68)=false:=UA (d:=68) h4
 have g5:(((c.toNat:Nat):Int)==87)=false:=UA (d:=87) h5
 have g6:(((c.toNat:Nat):Int)==83)=false:=UA (d:=83) h6
 clear h1 h2 h3 h4 h5 h6
 have hz:=Ez
 go_enter Tryz.func181,Tryz.ntmps181
 have HN:=hid (F_ w)
 go_wp2_with (first|(refine Dl rfl (.tmp 3) rfl rfl HN.out.2.1 ?_)|(refine Bq rfl (.tmp 2) (.tmp 26) rfl rfl rfl HN.out.1 ?_;intro wz hrz hbz;have Sn:=hid hrz;have Pd:=hid hbz;clear hrz hbz))
 refine Fx rfl rfl Sn.out rfl ⟨?_,HN.out.2.2.trans (Pd.out.below HN.out.2.2.size (Nat.le_refl _))⟩
 rw[HF.out]
theorem UB (c:UInt8) (w:World):Calls Tryz.prog 181 #[.int .u8 c.toNat] w fun e w'=>e= .returned (.agg (BZ (bv (Bt c))))/\Below w.heap.size w w':=by
 by_cases h1:c=100
 ·subst h1;exact Tz w
 by_cases h2:c=119
 ·subst h2;exact T9 w
 by_cases h3:c=115
 ·subst h3;exact T_ w
 by_cases h4:c=68
 ·subst h4;exact iR w
 by_cases h5:c=87
 ·subst h5;exact iU w
 by_cases h6:c=83
 ·subst h6;exact iV w
 exact iW h1 h2 h3 h4 h5 h6 w
theorem Y7 (c:UInt8) (w:World):Calls Tryz.prog 171 #[.int .u8 c.toNat] w fun e w'=>e= .returned (.tuple #[.string (tx (Bt c)),.bool (letter c)])/\Below w.heap.size w w':=by
 go_enter Tryz.func171,Tryz.ntmps171
 go_wp2_with fail
 refine(UB _ _).mono ?_
 rintro e w1 ⟨rfl,hb1⟩
 have HB1:=hid hb1
 clear hb1
 go_wp2_with fail
 refine(Gw _ _).mono ?_
 rintro e w2 ⟨rfl,hb2⟩
 have HB2:=hid (on HB1.out hb2)
 clear hb2
 go_wp2_with fail
 refine(Me _ _).mono ?_
 rintro e w3 ⟨rfl,rfl⟩
 go_wp2_with fail
 go_ret2
 exact⟨rfl,HB2.out⟩
end FD
namespace FD
open Ew BU
open Kit (Au AX BO CL Ae BM below_draws on Ap Bl Az Bb CX Bh)
def Nc (r:UInt8×Nat×Bool):Value:= .tuple #[.int .u8 r.1.toNat,.int .i64 r.2.1,.bool r.2.2]
theorem UC {s:ByteArray} (h:1<s.size):s.data.toList=s[0]::s[1]::s.data.toList.drop 2:=by
 rw[<-Kit.Ay s 1 h]
 conv=>lhs;rw[<-List.drop_zero (l:=s.data.toList),Kit.Ay s 0 (by omega)]
theorem UD {s:ByteArray} (h0:0<s.size) (h: ¬1<s.size):s.data.toList= [s[0]]:=by
 conv=>lhs;rw[<-List.drop_zero (l:=s.data.toList),Kit.Ay s 0 h0]
 rw[Kit.Ci s 1 h]
theorem Et (s:ByteArray) (w:World):Calls Tryz.prog 189 #[.string s] w fun e w'=>e= .returned (Nc (one s.data.toList))/\Below w.heap.size w w':=by
 by_cases h0:0<s.size
 ·have hl:=Ap h0
  by_cases h1:s[0]=92
  ·by_cases h2:1<s.size
   ·have hb:(s.toList== [92])=false:=by rw[Lib.toList_data,UC h2];simp
    have HV:Hid (one s.data.toList=(s[1],2,letter s[1])):=by
     unfold Hid
     rw[UC h2,h1];rfl
    have t1:((s[0].toNat:Int)==92)=true:=by rw[h1];rfl
    clear h1
    go_enter Tryz.func189,Tryz.ntmps189
    go_wp2_with fail
    have hi2:(1:Int)<(s.size:Int):=by omega
    go_quiet ((go_at_call 182;exact Calls.quiet_of_same (Me _ _)))
    go_wp2_with fail
    refine bodyPost_ret (results_tmp3 rfl _ _ _) rfl ?_
    exact⟨by rw[HV.out];rfl,below_draws w nq⟩
   have hb:(s.toList== [92])=true:=by rw[Lib.toList_data,UD h0 h2,h1];rfl
   have HV:Hid (one s.data.toList=(0,0,false)):=by
    unfold Hid
    rw[UD h0 h2,h1];rfl
   clear h1
   go_enter Tryz.func189,Tryz.ntmps189
   go_wp2_with fail
   refine bodyPost_ret (results_tmp3 rfl _ _ _) rfl ?_
   exact⟨by rw[HV.out];rfl,Below.refl _ _⟩
  have hb:(s.toList== [92])=false:=by rw[Lib.toList_data,Bh h0];simp[h1]
  have HV:Hid (one s.data.toList=(s[0],1,false)):=by
   unfold Hid
   rw[Bh h0];unfold one;simp only[if_neg h1]
  have t1:((s[0].toNat:Int)==92)=false:=by
   rw[show(92:Int)=((92:UInt8).toNat:Int)from rfl,Kit.CG,decide_eq_false h1]
  clear h1
  go_enter Tryz.func189,Tryz.ntmps189
  go_wp2_with fail
  refine bodyPost_ret (results_tmp3 rfl _ _ _) rfl ?_
  exact⟨by rw[HV.out];rfl,Below.refl _ _⟩
 have hl:=Az h0
 have HV:Hid (one s.data.toList=(0,0,false)):=by
  unfold Hid
  rw[CX h0];rfl
 go_enter Tryz.func189,Tryz.ntmps189
 go_wp2_with fail
 refine bodyPost_ret (results_tmp3 rfl _ _ _) rfl ?_
 exact⟨by rw[HV.out];rfl,Below.refl _ _⟩
end FD
namespace FD
open Ew BU
open Kit (Au AX BO CL Ae BM below_draws on Aa)
def JI (w:World) (b:Nat) (t:TypeId) (f:Nat->Bool) (r:Nat×Int×(Nat->Bool)) (e:Ending) (w':World):Prop:=e= .returned (.tuple #[.int .i64 r.1,.int .i64 r.2.1])/\Row w' b t (bv fun i=>f i||r.2.2 i)/\Beside b w w'
theorem Ju {w:World} {b:Nat} {t:TypeId} {f:Nat->Bool} (h:Row w b t (bv f)):Row w b t (bv fun i=>f i||false):=h.is fun i _=>Dk (by rw[Bool.or_false])
theorem FK (s:List UInt8):(one s).2.1<=2:=by
 unfold one
 split
 ·exact Nat.zero_le _
 rename_i c r
 by_cases h:c=92
 ·rw[if_pos h]
  split
  ·exact Nat.zero_le _
  exact Nat.le_refl _
 rw[if_neg h];exact Nat.le_succ 1
theorem GA {s:List UInt8} {n:Nat} (h:joined (s.drop n)=true):n<s.length:=by
 by_cases e:n<s.length
 ·exact e
 rw[List.drop_of_length_le (by omega)]at h;cases h
theorem q9 {w:World} {b:Nat} {t:TypeId} {f:Nat->Bool} (h:Row w b t (bv f)) {s:ByteArray} {a:UInt8} {n:Nat} {nm:Bool} (hone:one s.data.toList=(a,n,nm)) (hn:n=0):
    Calls Tryz.prog 185 #[.pointer (some ⟨b,0,none⟩),.string s] w (JI w b t f (item s.data.toList)):=by
 have HV:Hid (item s.data.toList=(0,3,fun _=>false)):=by
  unfold Hid item
  rw[hone,if_pos hn]
 subst hn
 have HC:=hid h
 have LM:=hid hone
 clear h hone
 go_enter Tryz.func185,Tryz.ntmps185
 go_wp2_with fail
 refine(Et _ _).mono ?_
 rintro e w1 ⟨rfl,hb1⟩
 rw[LM.out]
 unfold Nc
 have HR:=hid (HC.out.on hb1 HC.out.lt)
 have HB:=hid (Beside.of (b:=b) hb1)
 clear hb1
 go_wp2_with fail
 refine(Dm _ _).mono ?_
 rintro e w2 ⟨rfl,rfl⟩
 go_wp2_with fail
 go_ret2
 exact⟨by rw[HV.out];rfl,by rw[HV.out];exact Ju HR.out,HB.out⟩
theorem rA {w:World} {b:Nat} {t:TypeId} {f:Nat->Bool} (h:Row w b t (bv f)) {s:ByteArray} {a:UInt8} {n:Nat} (hone:one s.data.toList=(a,n,true)) (hn: ¬n=0) (hj:joined (s.data.toList.drop n)=true):
    Calls Tryz.prog 185 #[.pointer (some ⟨b,0,none⟩),.string s] w (JI w b t f (item s.data.toList)):=by
 have HV:Hid (item s.data.toList=(0,3,fun _=>false)):=by
  unfold Hid item
  rw[hone]
  simp[hn,hj]
 have hle:=one_le s.data.toList
 have hle2:=FK s.data.toList
 rw[hone]at hle2
 rw[hone,<-Lib.size_eq]at hle
 simp only at hle hle2
 have HC:=hid h
 have LM:=hid hone
 have HJ:=hid hj
 have dB:(n:Int)<=(s.size:Int):=by omega
 have tn:((n:Int)==0)=false:=beq_eq_false_iff_ne.2 (by omega)
 have HD:=hid (Aa s n)
 clear h hone hj hn
 go_enter Tryz.func185,Tryz.ntmps185
 go_wp2_with fail
 refine(Et _ _).mono ?_
 rintro e w1 ⟨rfl,hb1⟩
 rw[LM.out]
 unfold Nc
 have HR:=hid (HC.out.on hb1 HC.out.lt)
 have HB:=hid (Beside.of (b:=b) hb1)
 clear hb1
 go_wp2_with fail
 refine(Dm _ _).mono ?_
 rintro e w2 ⟨rfl,rfl⟩
 rw[HD.out,HJ.out]
 go_wp2_with fail
 go_ret2
 exact⟨by rw[HV.out];rfl,by rw[HV.out];exact Ju HR.out,HB.out⟩
theorem rC {w:World} {b:Nat} {t:TypeId} {f:Nat->Bool} (h:Row w b t (bv f)) {s:ByteArray} {a:UInt8} {n:Nat} (hone:one s.data.toList=(a,n,true)) (hn: ¬n=0) (hj:joined (s.data.toList.drop n)=false):
    Calls Tryz.prog 185 #[.pointer (some ⟨b,0,none⟩),.string s] w (JI w b t f (item s.data.toList)):=by
 have HV:Hid (item s.data.toList=(n,0,Bt a)):=by
  unfold Hid item
  rw[hone]
  simp[hn,hj]
 have hle:=one_le s.data.toList
 have hle2:=FK s.data.toList
 rw[hone]at hle2
 rw[hone,<-Lib.size_eq]at hle
 simp only at hle hle2
 have HC:=hid h
 have LM:=hid hone
 have HJ:=hid hj
 have dB:(n:Int)<=(s.size:Int):=by omega
 have tn:((n:Int)==0)=false:=beq_eq_false_iff_ne.2 (by omega)
 have HD:=hid (Aa s n)
 clear h hone hj hn
 go_enter Tryz.func185,Tryz.ntmps185
 go_wp2_with fail
 refine(Et _ _).mono ?_
 rintro e w1 ⟨rfl,hb1⟩
 rw[LM.out]
 unfold Nc
 have HR:=hid (HC.out.on hb1 HC.out.lt)
 have HB:=hid (Beside.of (b:=b) hb1)
 clear hb1
 go_wp2_with fail
 refine(Dm _ _).mono ?_
 rintro e w2 ⟨rfl,rfl⟩
 rw[HD.out,HJ.out]
 go_wp2_with fail
 refine(UB _ _).mono ?_
 rintro e w3 ⟨rfl,hb3⟩
 replace HR:=hid (HR.out.on hb3 HR.out.lt)
 replace HB:=hid (HB.out.trans (Beside.of hb3))
 clear hb3
 go_wp2_with fail
 refine(nV HR.out _).mono ?_
 rintro e w4 ⟨rfl,hr4,hb4⟩
 replace HR:=hid hr4
 replace HB:=hid (HB.out.trans hb4)
 clear hr4 hb4
 go_wp2_with fail
 go_ret2
 exact⟨by rw[HV.out];rfl,by rw[HV.out];exact HR.out,HB.out⟩
theorem rD {w:World} {b:Nat} {t:TypeId} {f:Nat->Bool} (h:Row w b t (bv f)) {s:ByteArray} {a:UInt8} {n:Nat} (hone:one s.data.toList=(a,n,false)) (hn: ¬n=0) (hj:joined (s.data.toList.drop n)=false):
    Calls Tryz.prog 185 #[.pointer (some ⟨b,0,none⟩),.string s] w (JI w b t f (item s.data.toList)):=by
 have HV:Hid (item s.data.toList=(n,0,fun i=>decide (i=a.toNat))):=by
  unfold Hid item
  rw[hone]
  simp[hn,hj]
 have hle:=one_le s.data.toList
 have hle2:=FK s.data.toList
 rw[hone]at hle2
 rw[hone,<-Lib.size_eq]at hle
 simp only at hle hle2
 have HC:=hid h
 have LM:=hid hone
 have HJ:=hid hj
 have dB:(n:Int)<=(s.size:Int):=by omega
 have tn:((n:Int)==0)=false:=beq_eq_false_iff_ne.2 (by omega)
 have HD:=hid (Aa s n)
 clear h hone hj hn
 go_enter Tryz.func185,Tryz.ntmps185
 go_wp2_with fail
 refine(Et _ _).mono ?_
 rintro e w1 ⟨rfl,hb1⟩
 rw[LM.out]
 unfold Nc
 have HR:=hid (HC.out.on hb1 HC.out.lt)
 have HB:=hid (Beside.of (b:=b) hb1)
 clear hb1
 go_wp2_with fail
 refine(Dm _ _).mono ?_
 rintro e w2 ⟨rfl,rfl⟩
 rw[HD.out,HJ.out]
 have uX:(a.toNat:Int)<256:=by have:=UInt8.toNat_lt a;omega
 have hcell:=HR.out.cell (i:=a.toNat) (UInt8.toNat_lt a)
 have hfree:=HR.out.free a.toNat
 generalize hold:bv f a.toNat=old at hcell
 clear hold
 go_wp2_with fail
 go_ret2
 exact⟨by rw[HV.out];rfl,by rw[HV.out];exact Qm HR.out _,HB.out.put _ _⟩
theorem rE {w:World} {b:Nat} {t:TypeId} {f:Nat->Bool} (h:Row w b t (bv f)) {s:ByteArray} {a:UInt8} {n:Nat} (hone:one s.data.toList=(a,n,false)) (hn: ¬n=0) (hj:joined (s.data.toList.drop n)=true) {a2:UInt8} {m:Nat} {xc:Bool} (EL:one (s.data.toList.drop (n+1))=(a2,m,xc)) (hm:m=0):
    Calls Tryz.prog 185 #[.pointer (some ⟨b,0,none⟩),.string s] w (JI w b t f (item s.data.toList)):=by
 have HV:Hid (item s.data.toList=(0,3,fun _=>false)):=by
  unfold Hid item
  rw[hone]
  simp[hn,hj,EL,hm]
 have hjl:=GA hj
 rw[<-Lib.size_eq]at hjl
 have hm2:=FK (s.data.toList.drop (n+1))
 rw[EL]at hm2
 simp only at hm2
 have rF:(n:Int)+1<=(s.size:Int):=by omega
 have HD2:=hid (Aa s (n+1))
 have Qn:=hid EL
 clear hjl EL
 have tm:((m:Int)==0)=true:=by rw[hm];rfl
 clear hm
 have hle:=one_le s.data.toList
 have hle2:=FK s.data.toList
 rw[hone]at hle2
 rw[hone,<-Lib.size_eq]at hle
 simp only at hle hle2
 have HC:=hid h
 have LM:=hid hone
 have HJ:=hid hj
 have dB:(n:Int)<=(s.size:Int):=by omega
 have tn:((n:Int)==0)=false:=beq_eq_false_iff_ne.2 (by omega)
 have HD:=hid (Aa s n)
 clear h hone hj hn
 go_enter Tryz.func185,Tryz.ntmps185
 go_wp2_with fail
 refine(Et _ _).mono ?_
 rintro e w1 ⟨rfl,hb1⟩
 rw[LM.out]
 unfold Nc
 have HR:=hid (HC.out.on hb1 HC.out.lt)
 have HB:=hid (Beside.of (b:=b) hb1)
 clear hb1
 go_wp2_with fail
 refine(Dm _ _).mono ?_
 rintro e w2 ⟨rfl,rfl⟩
 rw[HD.out,HJ.out]
 go_wp2_with fail
 refine(Et _ _).mono ?_
 rintro e w3 ⟨rfl,hb3⟩
 rw[HD2.out,Qn.out]
 unfold Nc
 replace HR:=hid (HR.out.on hb3 HR.out.lt)
 replace HB:=hid (HB.out.trans (Beside.of hb3))
 clear hb3
 go_wp2_with fail
 go_ret2
 exact⟨by rw[HV.out];rfl,by rw[HV.out];exact Ju HR.out,HB.out⟩
theorem rG {w:World} {b:Nat} {t:TypeId} {f:Nat->Bool} (h:Row w b t (bv f)) {s:ByteArray} {a:UInt8} {n:Nat} (hone:one s.data.toList=(a,n,false)) (hn: ¬n=0) (hj:joined (s.data.toList.drop n)=true) {a2:UInt8} {m:Nat} (EL:one (s.data.toList.drop (n+1))=(a2,m,true)) (hm: ¬m=0):
    Calls Tryz.prog 185 #[.pointer (some ⟨b,0,none⟩),.string s] w (JI w b t f (item s.data.toList)):=by
 have HV:Hid (item s.data.toList=(0,3,fun _=>false)):=by
  unfold Hid item
  rw[hone]
  simp[hn,hj,EL,hm]
 have hjl:=GA hj
 rw[<-Lib.size_eq]at hjl
 have hm2:=FK (s.data.toList.drop (n+1))
 rw[EL]at hm2
 simp only at hm2
 have rF:(n:Int)+1<=(s.size:Int):=by omega
 have HD2:=hid (Aa s (n+1))
 have Qn:=hid EL
 clear hjl EL
 have tm:((m:Int)==0)=false:=beq_eq_false_iff_ne.2 (by omega)
 clear hm
 have hle:=one_le s.data.toList
 have hle2:=FK s.data.toList
 rw[hone]at hle2
 rw[hone,<-Lib.size_eq]at hle
 simp only at hle hle2
 have HC:=hid h
 have LM:=hid hone
 have HJ:=hid hj
 have dB:(n:Int)<=(s.size:Int):=by omega
 have tn:((n:Int)==0)=false:=beq_eq_false_iff_ne.2 (by omega)
 have HD:=hid (Aa s n)
 clear h hone hj hn
 go_enter Tryz.func185,Tryz.ntmps185
 go_wp2_with fail
 refine(Et _ _).mono ?_
 rintro e w1 ⟨rfl,hb1⟩
 rw[LM.out]
 unfold Nc
 have HR:=hid (HC.out.on hb1 HC.out.lt)
 have HB:=hid (Beside.of (b:=b) hb1)
 clear hb1
 go_wp2_with fail
 refine(Dm _ _).mono ?_
 rintro e w2 ⟨rfl,rfl⟩
 rw[HD.out,HJ.out]
 go_wp2_with fail
 refine(Et _ _).mono ?_
 rintro e w3 ⟨rfl,hb3⟩
 rw[HD2.out,Qn.out]
 unfold Nc
 replace HR:=hid (HR.out.on hb3 HR.out.lt)
 replace HB:=hid (HB.out.trans (Beside.of hb3))
 clear hb3
 go_wp2_with fail
 go_ret2
 exact⟨by rw[HV.out];rfl,by rw[HV.out];exact Ju HR.out,HB.out⟩
theorem rH {w:World} {b:Nat} {t:TypeId} {f:Nat->Bool} (h:Row w b t (bv f)) {s:ByteArray} {a:UInt8} {n:Nat} (hone:one s.data.toList=(a,n,false)) (hn: ¬n=0) (hj:joined (s.data.toList.drop n)=true) {a2:UInt8} {m:Nat} (EL:one (s.data.toList.drop (n+1))=(a2,m,false)) (hm: ¬m=0) (hlt:a2.toNat<a.toNat):
    Calls Tryz.prog 185 #[.pointer (some ⟨b,0,none⟩),.string s] w (JI w b t f (item s.data.toList)):=by
 have HV:Hid (item s.data.toList=(0,4,fun _=>false)):=by
  unfold Hid item
  rw[hone]
  simp[hn,hj,EL,hm,hlt]
 have hjl:=GA hj
 rw[<-Lib.size_eq]at hjl
 have hm2:=FK (s.data.toList.drop (n+1))
 rw[EL]at hm2
 simp only at hm2
 have rF:(n:Int)+1<=(s.size:Int):=by omega
 have HD2:=hid (Aa s (n+1))
 have Qn:=hid EL
 clear hjl EL
 have tm:((m:Int)==0)=false:=beq_eq_false_iff_ne.2 (by omega)
 have tl:(a2.toNat:Int)<(a.toNat:Int):=by omega
 clear hm hlt
 have hle:=one_le s.data.toList
 have hle2:=FK s.data.toList
 rw[hone]at hle2
 rw[hone,<-Lib.size_eq]at hle
 simp only at hle hle2
 have HC:=hid h
 have LM:=hid hone
 have HJ:=hid hj
 have dB:(n:Int)<=(s.size:Int):=by omega
 have tn:((n:Int)==0)=false:=beq_eq_false_iff_ne.2 (by omega)
 have HD:=hid (Aa s n)
 clear h hone hj hn
 go_enter Tryz.func185,Tryz.ntmps185
 go_wp2_with fail
 refine(Et _ _).mono ?_
 rintro e w1 ⟨rfl,hb1⟩
 rw[LM.out]
 unfold Nc
 have HR:=hid (HC.out.on hb1 HC.out.lt)
 have HB:=hid (Beside.of (b:=b) hb1)
 clear hb1
 go_wp2_with fail
 refine(Dm _ _).mono ?_
 rintro e w2 ⟨rfl,rfl⟩
 rw[HD.out,HJ.out]
 go_wp2_with fail
 refine(Et _ _).mono ?_
 rintro e w3 ⟨rfl,hb3⟩
 rw[HD2.out,Qn.out]
 unfold Nc
 replace HR:=hid (HR.out.on hb3 HR.out.lt)
 replace HB:=hid (HB.out.trans (Beside.of hb3))
 clear hb3
 go_wp2_with fail
 go_ret2
 exact⟨by rw[HV.out];rfl,by rw[HV.out];exact Ju HR.out,HB.out⟩
theorem dC {w:World} {b:Nat} {t:TypeId} {f:Nat->Bool} (h:Row w b t (bv f)) {s:ByteArray} {a:UInt8} {n:Nat} (hone:one s.data.toList=(a,n,false)) (hn: ¬n=0) (hj:joined (s.data.toList.drop n)=true) {a2:UInt8} {m:Nat} (EL:one (s.data.toList.drop (n+1))=(a2,m,false)) (hm: ¬m=0) (hlt: ¬a2.toNat<a.toNat):
    Calls Tryz.prog 185 #[.pointer (some ⟨b,0,none⟩),.string s] w (JI w b t f (item s.data.toList)):=by
 have HV:Hid (item s.data.toList=(n+1+m,0,between a.toNat a2.toNat)):=by
  unfold Hid item
  rw[hone]
  simp[hn,hj,EL,hm,hlt]
 have hjl:=GA hj
 rw[<-Lib.size_eq]at hjl
 have hm2:=FK (s.data.toList.drop (n+1))
 rw[EL]at hm2
 simp only at hm2
 have rF:(n:Int)+1<=(s.size:Int):=by omega
 have HD2:=hid (Aa s (n+1))
 have Qn:=hid EL
 clear hjl EL
 have tm:((m:Int)==0)=false:=beq_eq_false_iff_ne.2 (by omega)
 have tl: ¬(a2.toNat:Int)<(a.toNat:Int):=by omega
 clear hm hlt
 have hle:=one_le s.data.toList
 have hle2:=FK s.data.toList
 rw[hone]at hle2
 rw[hone,<-Lib.size_eq]at hle
 simp only at hle hle2
 have HC:=hid h
 have LM:=hid hone
 have HJ:=hid hj
 have dB:(n:Int)<=(s.size:Int):=by omega
 have tn:((n:Int)==0)=false:=beq_eq_false_iff_ne.2 (by omega)
 have HD:=hid (Aa s n)
 clear h hone hj hn
 go_enter Tryz.func185,Tryz.ntmps185
 go_wp2_with fail
 refine(Et _ _).mono ?_
 rintro e w1 ⟨rfl,hb1⟩
 rw[LM.out]
 unfold Nc
 have HR:=hid (HC.out.on hb1 HC.out.lt)
 have HB:=hid (Beside.of (b:=b) hb1)
 clear hb1
 go_wp2_with fail
 refine(Dm _ _).mono ?_
 rintro e w2 ⟨rfl,rfl⟩
 rw[HD.out,HJ.out]
 go_wp2_with fail
 refine(Et _ _).mono ?_
 rintro e w3 ⟨rfl,hb3⟩
 rw[HD2.out,Qn.out]
 unfold Nc
 replace HR:=hid (HR.out.on hb3 HR.out.lt)
 replace HB:=hid (HB.out.trans (Beside.of hb3))
 clear hb3
 go_wp2_with fail
 refine(Ij HR.out _ _).mono ?_
 rintro e w4 ⟨rfl,hr4,hb4⟩
 replace HR:=hid hr4
 replace HB:=hid (HB.out.trans hb4)
 clear hr4 hb4
 go_wp2_with fail
 go_ret2
 exact⟨by rw[HV.out];rfl,by rw[HV.out];exact HR.out,HB.out⟩
theorem XB {w:World} {b:Nat} {t:TypeId} {f:Nat->Bool} (h:Row w b t (bv f)) (s:ByteArray):
    Calls Tryz.prog 185 #[.pointer (some ⟨b,0,none⟩),.string s] w (JI w b t f (item s.data.toList)):=by
 obtain⟨⟨a,n,nm⟩,hone⟩: ∃r,one s.data.toList=r:=⟨_,rfl⟩
 by_cases hn:n=0
 ·exact q9 h hone hn
 cases hj:joined (s.data.toList.drop n)with
 |false=>
  cases nm with
  |true=>exact rC h hone hn hj
  |false=>exact rD h hone hn hj
 |true=>
  cases nm with
  |true=>exact rA h hone hn hj
  |false=>
   obtain⟨⟨a2,m,xc⟩,EL⟩: ∃r,one (s.data.toList.drop (n+1))=r:=⟨_,rfl⟩
   by_cases hm:m=0
   ·exact rE h hone hn hj EL hm
   cases xc with
   |true=>exact rG h hone hn hj EL hm
   |false=>
    by_cases hlt:a2.toNat<a.toNat
    ·exact rH h hone hn hj EL hm hlt
    exact dC h hone hn hj EL hm hlt
end FD
namespace FD
open Ew BU
open Kit (Au AX BO CL Ae BM below_draws on Aa)
theorem Mf {fn:Func} {R:Ending->World->Prop} {a:Act} {w:World} {p u v:Tmp} {b:Nat} {t:TypeId} {f:Nat->Value} (hf:fn.results= #[.cell p 174,.tmp u,.tmp v]) (hp:a.tmps.getD p undef= .pointer (some ⟨b,0,none⟩)) (hr:Row w b t f) (hd:a.defers= [])
    (hR:R (.returned (.tuple #[.agg (BZ f),a.tmps.getD u undef,a.tmps.getD v undef])) w):bodyPost Tryz.prog fn R .ret a w:=by
 refine bodyPost_ret ?_ hd hR
 have hp':a.tmps[p]?.getD undef= .pointer (some ⟨b,0,none⟩):=by simpa using hp
 have hl:=run_loadVar_row w b t 174 (BZ f) (0,0) _ hr Tryz.underlying174 rfl (Mc f)
 simp[results,hf,hp',asAddr,Result.andThen,hl]
theorem nZ (s:List UInt8):(item s).1<=s.length:=by
 have h1:=one_le s
 have h2:=one_le (s.drop ((one s).2.1+1))
 rw[List.length_drop]at h2
 unfold item
 split
 ·exact Nat.zero_le _
 split
 ·split
  ·exact Nat.zero_le _
  exact h1
 rename_i hn hnm
 cases hj:joined (s.drop (one s).2.1)with
 |false=>rw[if_pos rfl];exact h1
 |true=>
  have h3:=GA hj
  rw[if_neg (by simp)]
  split
  ·exact Nat.zero_le _
  split
  ·exact Nat.zero_le _
  split
  ·exact Nat.zero_le _
  simp only;omega
theorem iX {s:List UInt8} (h:(item s).2.1=0):0<(item s).1:=by
 revert h
 unfold item
 split
 ·simp
 rename_i hn
 split
 ·split
  ·simp
  simp only;omega
 split
 ·simp only;omega
 split
 ·simp
 split
 ·simp
 split
 ·simp
 simp only;omega
def Qo (r:(Nat->Bool)×Nat×Int):Value:= .tuple #[.agg (BZ (bv r.1)),.int .i64 r.2.1,.int .i64 r.2.2]
theorem KO (s:ByteArray) (hs:s.size<=4611686018427387904) (w:World):
    Calls Tryz.prog 180 #[.string s] w fun e w'=>e= .returned (Qo (items s.data.toList (s.size+1) 0 (fun _=>false)))/\Below w.heap.size w w':=by
 have hz:=Ez
 obtain⟨R,hR⟩: ∃R,items s.data.toList (s.size+1) 0 (fun _=>false)=R:=⟨_,rfl⟩
 rw[hR]
 have HRR:=hid hR
 have HS:=hid hs
 clear hR hs
 go_enter Tryz.func180,Tryz.ntmps180
 go_wp2_with fail
 have HN:=hid (F_ w)
 generalize ((w.alloc (.cells (BZ (bv fun _=>false)) 174)).alloc (.cells (BZ (bv fun _=>false)) 174))=w1 at HN ⊢
 go_loopg [6] s.size (fun g s6 wr=> ∃(i:Nat) (F:Nat->Bool),s6= .int .i64 i/\i<=s.size/\s.size<=i+g/\Hid (items s.data.toList (g+1) i F=R)/\Hid (Row wr (w.heap.size+1) 174 (bv F))/\Hid (Row wr w.heap.size 174 (bv fun _=>false))/\Hid (Below w.heap.size w wr))
 case atStart=>exact⟨0,fun _=>false,rfl,Nat.zero_le _,by omega,HRR,HN.out.2.1,HN.out.1,HN.out.2.2⟩
 case round=>
  obtain⟨i,F,rfl,hi,hig,hit,hr,hq,hb⟩:=hrel
  by_cases hlt:i<s.size
  ·have hl2:(i:Int)<(s.size:Int):=by omega
   have hS:=HS.out
   have hlen: ¬s.data.toList.length<=i:=by rw[<-Lib.size_eq];omega
   have hget:s.data.toList.getD i 0=s[i]:=Kit.CO s i hlt
   by_cases hend:s[i]=93/\0<i
   ·have HV:Hid (R=(F,i+1,0)):=by
      unfold Hid
      rw[<-hit.out]
      unfold items
      rw[if_neg hlen,hget,if_pos hend]
    have t1:((s[i].toNat:Int)==93)=true:=by rw[hend.1];rfl
    have t2:(0:Int)<(i:Int):=by omega
    have hw:wrap64 ((i:Int)+1)=((i+1:Nat):Int):=by unfold wrap64;omega
    have HW:=hid hw
    clear hend hlen hget hw
    go_wp2_with (first|(refine Dl rfl (.tmp 5) rfl rfl hr.out ?_)|(refine Bq rfl (.tmp 2) (.tmp 21) rfl rfl rfl hq.out ?_;intro wz hrz hbz;have Sn:=hid hrz;have Pd:=hid hbz;clear hrz hbz))
    refine Mf rfl rfl Sn.out rfl ⟨?_,hb.out.trans (Pd.out.below hb.out.size (Nat.le_refl _))⟩
    rw[HV.out];rfl
   have Y8:=nZ (s.data.toList.drop i)
   rw[List.length_drop,<-Lib.size_eq]at Y8
   have hpos:= @iX (s.data.toList.drop i)
   have hdl:=Aa s i
   obtain⟨⟨n,er,G⟩,iY⟩: ∃r,item (s.data.toList.drop i)=r:=⟨_,rfl⟩
   rw[iY]at Y8 hpos
   simp only at Y8 hpos
   have HI:=hid iY
   have HD:=hid hdl
   have HP:=hid hpos
   have uZ:=hid Y8
   have HL:=hid hlen
   have HG:=hid hget
   clear iY hdl hpos Y8
   by_cases Ec:s[i]=93
   ·have hi0: ¬(0:Int)<(i:Int):=fun h=>hend ⟨Ec,by omega⟩
    have t1:((s[i].toNat:Int)==93)=true:=by rw[Ec];rfl
    clear Ec
    have HE:=hid hend
    clear hend hlen hget
    go_wp2_with fail
    refine(XB hr.out _).mono ?_
    rintro e w2 ⟨rfl,hr2,hb2⟩
    rw[HD.out,HI.out]
    have HR:=hid (by rw[HD.out,HI.out]at hr2;exact hr2)
    have HQ:=hid (hq.out.beside hb2 (by omega))
    have HB:=hid (hb.out.trans (hb2.below hb.out.size (by omega)))
    clear hr2 hb2
    simp only[]at HR ⊢
    by_cases he:er=0
    ·have te:(er !=0)=false:=by rw[he];rfl
     have YY:Hid (items s.data.toList gk (i+n) (fun k=>F k||G k)=R):=by
      unfold Hid
      rw[<-hit.out]
      conv=>rhs;unfold items
      rw[if_neg HL.out,HG.out,if_neg HE.out,HI.out,if_neg (by simp[he])]
     have hn1:0<n:=by have:=HP.out he;omega
     have Y8:=uZ.out
     clear he
     cases gk with
     |zero=>omega
     |succ g=>
      go_wp2_with fail
      go_roundg g
      case measure=>omega
      case rel=>exact⟨i+n,fun k=>F k||G k,by first|rfl|simp,by omega,by omega,YY,HR.out,HQ.out,HB.out⟩
    have te:(er !=0)=true:=by simpa using he
    have YY:Hid (R=(fun _=>false,0,er)):=by
     unfold Hid
     rw[<-hit.out]
     unfold items
     rw[if_neg HL.out,HG.out,if_neg HE.out,HI.out,if_pos he]
    clear he
    go_wp2_with (first|(refine Bq rfl (.tmp 2) (.tmp 33) rfl rfl rfl HQ.out ?_;intro wz hrz hbz;have Sn:=hid hrz;have Pd:=hid hbz;clear hrz hbz))
    refine Mf rfl rfl Sn.out rfl ⟨?_,HB.out.trans (Pd.out.below HB.out.size (Nat.le_refl _))⟩
    rw[YY.out];rfl
   have t1:((s[i].toNat:Int)==93)=false:=by
     rw[show(93:Int)=((93:UInt8).toNat:Int)from rfl,Kit.CG,decide_eq_false Ec]
   clear Ec
   have HE:=hid hend
   clear hend hlen hget
   go_wp2_with fail
   refine(XB hr.out _).mono ?_
   rintro e w2 ⟨rfl,hr2,hb2⟩
   rw[HD.out,HI.out]
   have HR:=hid (by rw[HD.out,HI.out]at hr2;exact hr2)
   have HQ:=hid (hq.out.beside hb2 (by omega))
   have HB:=hid (hb.out.trans (hb2.below hb.out.size (by omega)))
   clear hr2 hb2
   simp only[]at HR ⊢
   by_cases he:er=0
   ·have te:(er !=0)=false:=by rw[he];rfl
    have YY:Hid (items s.data.toList gk (i+n) (fun k=>F k||G k)=R):=by
     unfold Hid
     rw[<-hit.out]
     conv=>rhs;unfold items
     rw[if_neg HL.out,HG.out,if_neg HE.out,HI.out,if_neg (by simp[he])]
    have hn1:0<n:=by have:=HP.out he;omega
    have Y8:=uZ.out
    clear he
    cases gk with
    |zero=>omega
    |succ g=>
     go_wp2_with fail
     go_roundg g
     case measure=>omega
     case rel=>exact⟨i+n,fun k=>F k||G k,by first|rfl|simp,by omega,by omega,YY,HR.out,HQ.out,HB.out⟩
   have te:(er !=0)=true:=by simpa using he
   have YY:Hid (R=(fun _=>false,0,er)):=by
    unfold Hid
    rw[<-hit.out]
    unfold items
    rw[if_neg HL.out,HG.out,if_neg HE.out,HI.out,if_pos he]
   clear he
   go_wp2_with (first|(refine Bq rfl (.tmp 2) (.tmp 33) rfl rfl rfl HQ.out ?_;intro wz hrz hbz;have Sn:=hid hrz;have Pd:=hid hbz;clear hrz hbz))
   refine Mf rfl rfl Sn.out rfl ⟨?_,HB.out.trans (Pd.out.below HB.out.size (Nat.le_refl _))⟩
   rw[YY.out];rfl
  have hl2: ¬((i:Int)<(s.size:Int)):=by omega
  have HV:Hid (R=(fun _=>false,0,3)):=by
   unfold Hid
   rw[<-hit.out]
   unfold items
   rw[if_pos (by rw[<-Lib.size_eq];omega)]
  clear hlt hi hig
  go_wp2_with (first|(refine Bq rfl (.tmp 2) (.tmp 38) rfl rfl rfl hq.out ?_;intro wz hrz hbz;have Sn:=hid hrz;have Pd:=hid hbz;clear hrz hbz))
  refine Mf rfl rfl Sn.out rfl ⟨?_,hb.out.trans (Pd.out.below hb.out.size (Nat.le_refl _))⟩
  rw[HV.out];rfl
end FD
namespace FD
open Ew BU
open Kit (Au AX BO CL Ae BM below_draws on Aa)
def ET (w:World) (r:(Nat->Bool)×Nat×Int) (e:Ending) (w':World):Prop:=e= .returned (.tuple #[.string (tx r.1),.int .i64 r.2.1,.int .i64 r.2.2])/\Below w.heap.size w w'
theorem XC {s:ByteArray} (h2:Lib.hasPrefix s.data.toList [91,94]=false) (h1:Lib.hasPrefix s.data.toList [91]=false) (w:World):Calls Tryz.prog 170 #[.string s] w (ET w (fun _=>false,0,3)):=by
 have hz:=Ez
 have H2:=hid h2
 have H1:=hid h1
 clear h1 h2
 go_enter Tryz.func170,Tryz.ntmps170
 go_wp2_with fail
 refine(Tryz.strings_HasPrefix _ _ _).mono ?_
 rintro e w1 ⟨rfl,rfl⟩
 rw[H2.out]
 go_wp2_with fail
 refine(Tryz.strings_CutPrefix _ _ _).mono ?_
 rintro e w1 ⟨rfl,rfl⟩
 rw[H1.out]
 go_wp2_with fail
 refine(Gw _ _).mono ?_
 rintro e w2 ⟨rfl,hb2⟩
 have HB:=hid hb2
 clear hb2
 go_wp2_with fail
 go_ret3
 exact⟨rfl,HB.out⟩
theorem Nf {s q:ByteArray} (h2:Lib.hasPrefix s.data.toList [91,94]=false) (h1:Lib.hasPrefix s.data.toList [91]=true) (hq:(⟨(Lib.trimPrefix s.data.toList [91]).toArray⟩:ByteArray)=q) (Kk:q.size<=4611686018427387904) {F:Nat->Bool} {n:Nat} {er:Int}
    (hit:items q.data.toList (q.size+1) 0 (fun _=>false)=(F,n,er)) (her: ¬er=0) (hn:n<=4611686018427387904) (w:World):Calls Tryz.prog 170 #[.string s] w (ET w (fun _=>false,0,er)):=by
 have hz:=Ez
 have H2:=hid h2
 have H1:=hid h1
 clear h1
 have te:(er !=0)=true:=by simpa using her
 have HQ:=hid hq
 have iZ:=hid Kk
 have HIT:=hid hit
 have HN:=hid hn
 clear h2 hq Kk hit hn her
 go_enter Tryz.func170,Tryz.ntmps170
 go_wp2_with fail
 refine(Tryz.strings_HasPrefix _ _ _).mono ?_
 rintro e w1 ⟨rfl,rfl⟩
 rw[H2.out]
 go_wp2_with fail
 refine(Tryz.strings_CutPrefix _ _ _).mono ?_
 rintro e w1 ⟨rfl,rfl⟩
 simp only[]
 rw[H1.out,HQ.out]
 go_wp2_with fail
 refine(KO _ iZ.out _).mono ?_
 rintro e w2 ⟨rfl,hb2⟩
 rw[HIT.out]
 unfold Qo
 have HB:=hid hb2
 clear hb2
 go_wp2_with (first|(refine Bq rfl (.tmp 8) (.tmp 26) rfl rfl rfl (Row.new _ _ _) ?_;intro wz hrz hbz;have HR:=hid hrz;have HZ:=hid ((JH w2).2.trans (hbz.below (by rw[World.size_alloc];omega) (Nat.le_refl _)));clear hrz hbz)|fail)
 refine(Gw _ _).mono ?_
 rintro e w3 ⟨rfl,hb3⟩
 have HB3:=hid (on (on HB.out HZ.out) hb3)
 clear hb3
 go_wp2_with fail
 go_ret3
 exact⟨rfl,HB3.out⟩
theorem VF {s q:ByteArray} (h2:Lib.hasPrefix s.data.toList [91,94]=true) (hq:(⟨(Lib.trimPrefix s.data.toList [91,94]).toArray⟩:ByteArray)=q) (Kk:q.size<=4611686018427387904) {F:Nat->Bool} {n:Nat} {er:Int}
    (hit:items q.data.toList (q.size+1) 0 (fun _=>false)=(F,n,er)) (her: ¬er=0) (hn:n<=4611686018427387904) (w:World):Calls Tryz.prog 170 #[.string s] w (ET w (fun _=>false,0,er)):=by
 have hz:=Ez
 have H2:=hid h2
 have te:(er !=0)=true:=by simpa using her
 have HQ:=hid hq
 have iZ:=hid Kk
 have HIT:=hid hit
 have HN:=hid hn
 clear h2 hq Kk hit hn her
 go_enter Tryz.func170,Tryz.ntmps170
 go_wp2_with fail
 refine(Tryz.strings_HasPrefix _ _ _).mono ?_
 rintro e w1 ⟨rfl,rfl⟩
 rw[H2.out]
 go_wp2_with fail
 refine(Tryz.strings_CutPrefix _ _ _).mono ?_
 rintro e w1 ⟨rfl,rfl⟩
 simp only[]
 rw[H2.out,HQ.out]
 go_wp2_with fail
 refine(KO _ iZ.out _).mono ?_
 rintro e w2 ⟨rfl,hb2⟩
 rw[HIT.out]
 unfold Qo
 have HB:=hid hb2
 clear hb2
 go_wp2_with (first|(refine Bq rfl (.tmp 8) (.tmp 26) rfl rfl rfl (Row.new _ _ _) ?_;intro wz hrz hbz;have HR:=hid hrz;have HZ:=hid ((JH w2).2.trans (hbz.below (by rw[World.size_alloc];omega) (Nat.le_refl _)));clear hrz hbz)|fail)
 refine(Gw _ _).mono ?_
 rintro e w3 ⟨rfl,hb3⟩
 have HB3:=hid (on (on HB.out HZ.out) hb3)
 clear hb3
 go_wp2_with fail
 go_ret3
 exact⟨rfl,HB3.out⟩
theorem Qp {s q:ByteArray} (h2:Lib.hasPrefix s.data.toList [91,94]=false) (h1:Lib.hasPrefix s.data.toList [91]=true) (hq:(⟨(Lib.trimPrefix s.data.toList [91]).toArray⟩:ByteArray)=q) (Kk:q.size<=4611686018427387904) {F:Nat->Bool} {n:Nat} {er:Int}
    (hit:items q.data.toList (q.size+1) 0 (fun _=>false)=(F,n,er)) (her:er=0) (hn:n<=4611686018427387904) (w:World):Calls Tryz.prog 170 #[.string s] w (ET w (F,1+n,0)):=by
 have hz:=Ez
 have H2:=hid h2
 have H1:=hid h1
 clear h1
 have te:(er !=0)=false:=by rw[her];rfl
 subst her
 have HQ:=hid hq
 have iZ:=hid Kk
 have HIT:=hid hit
 have HN:=hid hn
 clear h2 hq Kk hit hn
 go_enter Tryz.func170,Tryz.ntmps170
 go_wp2_with fail
 refine(Tryz.strings_HasPrefix _ _ _).mono ?_
 rintro e w1 ⟨rfl,rfl⟩
 rw[H2.out]
 go_wp2_with fail
 refine(Tryz.strings_CutPrefix _ _ _).mono ?_
 rintro e w1 ⟨rfl,rfl⟩
 simp only[]
 rw[H1.out,HQ.out]
 go_wp2_with fail
 refine(KO _ iZ.out _).mono ?_
 rintro e w2 ⟨rfl,hb2⟩
 rw[HIT.out]
 unfold Qo
 have HB:=hid hb2
 clear hb2
 go_wp2_with (first|(refine Bq rfl (.tmp 8) (.tmp 26) rfl rfl rfl (Row.new _ _ _) ?_;intro wz hrz hbz;have HR:=hid hrz;have HZ:=hid ((JH w2).2.trans (hbz.below (by rw[World.size_alloc];omega) (Nat.le_refl _)));clear hrz hbz)|(refine Dl rfl (.tmp 8) rfl rfl HR.out ?_)|fail)
 have nY:=hid (on HB.out HZ.out)
 refine(Gw _ _).mono ?_
 rintro e w4 ⟨rfl,hb4⟩
 have Jv:=hid (on nY.out hb4)
 have hn:=HN.out
 clear hb4
 go_wp2_with fail
 go_ret3
 exact⟨rfl,Jv.out⟩
theorem XD {s q:ByteArray} (h2:Lib.hasPrefix s.data.toList [91,94]=true) (hq:(⟨(Lib.trimPrefix s.data.toList [91,94]).toArray⟩:ByteArray)=q) (Kk:q.size<=4611686018427387904) {F:Nat->Bool} {n:Nat} {er:Int}
    (hit:items q.data.toList (q.size+1) 0 (fun _=>false)=(F,n,er)) (her:er=0) (hn:n<=4611686018427387904) (w:World):Calls Tryz.prog 170 #[.string s] w (ET w (fun i=> !F i,2+n,0)):=by
 have hz:=Ez
 have H2:=hid h2
 have te:(er !=0)=false:=by rw[her];rfl
 subst her
 have HQ:=hid hq
 have iZ:=hid Kk
 have HIT:=hid hit
 have HN:=hid hn
 clear h2 hq Kk hit hn
 go_enter Tryz.func170,Tryz.ntmps170
 go_wp2_with fail
 refine(Tryz.strings_HasPrefix _ _ _).mono ?_
 rintro e w1 ⟨rfl,rfl⟩
 rw[H2.out]
 go_wp2_with fail
 refine(Tryz.strings_CutPrefix _ _ _).mono ?_
 rintro e w1 ⟨rfl,rfl⟩
 simp only[]
 rw[H2.out,HQ.out]
 go_wp2_with fail
 refine(KO _ iZ.out _).mono ?_
 rintro e w2 ⟨rfl,hb2⟩
 rw[HIT.out]
 unfold Qo
 have HB:=hid hb2
 clear hb2
 go_wp2_with (first|(refine Bq rfl (.tmp 8) (.tmp 26) rfl rfl rfl (Row.new _ _ _) ?_;intro wz hrz hbz;have HR:=hid hrz;have HZ:=hid ((JH w2).2.trans (hbz.below (by rw[World.size_alloc];omega) (Nat.le_refl _)));clear hrz hbz)|(refine Dl rfl (.tmp 8) rfl rfl HR.out ?_)|fail)
 have gG:=hid (on HB.out HZ.out)
 refine(Gv _ _).mono ?_
 rintro e w3 ⟨rfl,hb3⟩
 replace HR:=hid (HR.out.on hb3 HR.out.lt)
 have HB3:=hid (on gG.out hb3)
 have uf:=hid (Nat.le_trans HB.out.size (Nat.le_refl w2.heap.size))
 clear hb3
 go_wp2_with (first|(refine Bq rfl (.tmp 8) (.tmp 39) rfl rfl rfl HR.out ?_;intro wy iT hby;have q8:=hid iT;have nY:=hid (HB3.out.trans (hby.below HB3.out.size uf.out));clear iT hby)|(refine Dl rfl (.tmp 8) rfl rfl q8.out ?_)|fail)
 refine(Gw _ _).mono ?_
 rintro e w4 ⟨rfl,hb4⟩
 have Jv:=hid (on nY.out hb4)
 have hn:=HN.out
 clear hb4
 go_wp2_with fail
 go_ret3
 exact⟨rfl,Jv.out⟩
end FD
namespace FD
open Ew BU
open Kit (Au AX BO CL Ae BM below_draws on Aa)
theorem VG (s:List UInt8): ∀(fuel at_:Nat) (f:Nat->Bool),(items s fuel at_ f).2.1<=s.length+1
 |0,_,_=>Nat.zero_le _
 |fuel+1,at_,f=>by
  unfold items
  split
  ·exact Nat.zero_le _
  split
  ·simp only;omega
  split
  ·exact Nat.zero_le _
  exact VG s fuel _ _
theorem Ff {s:ByteArray} (hs:s.size<=4611686018427387000) (w:World):Calls Tryz.prog 170 #[.string s] w (ET w (parse s.data.toList)):=by
 have hsz:s.data.toList.length=s.size:=(Lib.size_eq s).symm
 generalize hl:s.data.toList=l at hsz
 cases l with
 |nil=>exact XC (by rw[hl];rfl) (by rw[hl];rfl) w
 |cons c r=>
  by_cases hc:c=91
  ·subst hc
   have plain:(Lib.hasPrefix (91::r) [91,94]=false)->parse (91::r)=(if(items r (r.length+1) 0 (fun _=>false)).2.2≠0 then(fun _=>false,0,(items r (r.length+1) 0 (fun _=>false)).2.2)else((items r (r.length+1) 0 (fun _=>false)).1,1+(items r (r.length+1) 0 (fun _=>false)).2.1,0))->Calls Tryz.prog 170 #[.string s] w (ET w (parse (91::r))):=by
    intro h2 hp
    rw[hp]
    have hq:(⟨(Lib.trimPrefix s.data.toList [91]).toArray⟩:ByteArray)=⟨r.toArray⟩:=by rw[hl];rfl
    have hqz:(⟨r.toArray⟩:ByteArray).size=r.length:=by simp[ByteArray.size]
    have hn:=VG r (r.length+1) 0 (fun _=>false)
    rw[List.length_cons]at hsz
    obtain⟨⟨F,n,er⟩,hit⟩: ∃x,items r (r.length+1) 0 (fun _=>false)=x:=⟨_,rfl⟩
    rw[hit]at hn ⊢
    simp only at hn ⊢
    have hit2:items (⟨r.toArray⟩:ByteArray).data.toList ((⟨r.toArray⟩:ByteArray).size+1) 0 (fun _=>false)=(F,n,er):=by rw[hqz];exact hit
    by_cases he:er=0
    ·rw[if_neg (by simpa using he)]
     exact Qp (by rw[hl];exact h2) (by rw[hl];rfl) hq (by rw[hqz];omega) hit2 he (by omega) w
    rw[if_pos he]
    exact Nf (by rw[hl];exact h2) (by rw[hl];rfl) hq (by rw[hqz];omega) hit2 he (by omega) w
   cases r with
   |nil=>exact plain rfl rfl
   |cons d q=>
    by_cases hd:d=94
    ·subst hd
     have hp:parse (91::94::q)=(if(items q (q.length+1) 0 (fun _=>false)).2.2≠0 then(fun _=>false,0,(items q (q.length+1) 0 (fun _=>false)).2.2)else(fun i=> !(items q (q.length+1) 0 (fun _=>false)).1 i,2+(items q (q.length+1) 0 (fun _=>false)).2.1,0)):=rfl
     rw[hp]
     have hq:(⟨(Lib.trimPrefix s.data.toList [91,94]).toArray⟩:ByteArray)=⟨q.toArray⟩:=by rw[hl];rfl
     have hqz:(⟨q.toArray⟩:ByteArray).size=q.length:=by simp[ByteArray.size]
     have hn:=VG q (q.length+1) 0 (fun _=>false)
     rw[List.length_cons,List.length_cons]at hsz
     obtain⟨⟨F,n,er⟩,hit⟩: ∃x,items q (q.length+1) 0 (fun _=>false)=x:=⟨_,rfl⟩
     rw[hit]at hn ⊢
     simp only at hn ⊢
     have hit2:items (⟨q.toArray⟩:ByteArray).data.toList ((⟨q.toArray⟩:ByteArray).size+1) 0 (fun _=>false)=(F,n,er):=by rw[hqz];exact hit
     by_cases he:er=0
     ·rw[if_neg (by simpa using he)]
      exact XD (by rw[hl];rfl) hq (by rw[hqz];omega) hit2 he (by omega) w
     rw[if_pos he]
     exact VF (by rw[hl];rfl) hq (by rw[hqz];omega) hit2 he (by omega) w
    refine plain ?_ ?_
    ·have h3: ¬94=d:=fun e=>hd e.symm
     simp[Lib.hasPrefix,List.isPrefixOf,h3]
    conv=>lhs;unfold parse
    simp only[if_true,if_neg hd]
  have h3: ¬91=c:=fun e=>hc e.symm
  have hp:parse (c::r)=(fun _=>false,0,3):=by unfold parse;simp only[if_neg hc]
  rw[hp]
  exact XC (by rw[hl];simp[Lib.hasPrefix,List.isPrefixOf,h3]) (by rw[hl];simp[Lib.hasPrefix,List.isPrefixOf,h3]) w
end FD
namespace W14
open Cj
open BU (Beside)
open Kit (Au AX BO CL Ae BM below_draws on Ap Bl Az Bb)
def EJ (l:List UInt8):Int×Int×Int×Nat:=
 match l with
 | []=>(0,0,0,0)
 |c::r=>if c=42 then(0,0,-1,1)else if c=43 then(0,1,-1,1)else if c=63 then(0,0,1,1)else if c=123 then Cr r else(0,0,0,0)
theorem dD {s:ByteArray} (h:0<s.size):EJ s.data.toList=if s[0]=42 then(0,0,-1,1)else if s[0]=43 then(0,1,-1,1)else if s[0]=63 then(0,0,1,1)else if s[0]=123 then Cr (s.data.toList.drop 1)else(0,0,0,0):=by
 have e:s.data.toList=s[0]::s.data.toList.drop 1:=by
  conv=>lhs;rw[<-List.drop_zero (l:=s.data.toList),Kit.Ay s 0 h]
 generalize s.data.toList.drop 1=r at*
 rw[e];rfl
theorem Ng (s:ByteArray) (hs:s.size<=1000000) (w:World):Calls Tryz.prog 148 #[.string s] w fun e w'=>e= .returned (Ma (EJ s.data.toList))/\Below w.heap.size w w':=by
 by_cases h0:0<s.size
 ·have hl:=Ap h0
  have hv:=dD h0
  by_cases Jk:s[0]=42
  ·have t42:((s[0].toNat:Int)==42)=true:=FU Jk
   rw[if_pos Jk]at hv
   have HV:=hid hv
   clear hv Jk
   rw[HV.out]
   go_enter Tryz.func148,Tryz.ntmps148
   go_wp2_with fail
   refine bodyPost_ret (BV rfl _ _ _) rfl ?_
   exact⟨rfl,Below.refl _ _⟩
  have t42:((s[0].toNat:Int)==42)=false:=Ce Jk
  by_cases h43:s[0]=43
  ·have t43:((s[0].toNat:Int)==43)=true:=FU h43
   rw[if_neg Jk,if_pos h43]at hv
   have HV:=hid hv
   clear hv Jk h43
   rw[HV.out]
   go_enter Tryz.func148,Tryz.ntmps148
   go_wp2_with fail
   refine bodyPost_ret (BV rfl _ _ _) rfl ?_
   exact⟨rfl,Below.refl _ _⟩
  have t43:((s[0].toNat:Int)==43)=false:=Ce h43
  by_cases h63:s[0]=63
  ·have t63:((s[0].toNat:Int)==63)=true:=FU h63
   rw[if_neg Jk,if_neg h43,if_pos h63]at hv
   have HV:=hid hv
   clear hv Jk h43 h63
   rw[HV.out]
   go_enter Tryz.func148,Tryz.ntmps148
   go_wp2_with fail
   refine bodyPost_ret (BV rfl _ _ _) rfl ?_
   exact⟨rfl,Below.refl _ _⟩
  have t63:((s[0].toNat:Int)==63)=false:=Ce h63
  by_cases FV:s[0]=123
  ·have t123:((s[0].toNat:Int)==123)=true:=FU FV
   rw[if_neg Jk,if_neg h43,if_neg h63,if_pos FV]at hv
   have HV:=hid hv
   clear hv Jk h43 h63 FV
   rw[HV.out]
   have HN:=hid (W_ h0 hs w)
   obtain⟨r,hr⟩: ∃r,Cr (s.data.toList.drop 1)=r:=⟨_,rfl⟩
   rw[hr]at HN ⊢
   clear hr HV
   go_enter Tryz.func148,Tryz.ntmps148
   go_wp2_with fail
   refine HN.out.mono ?_
   rintro e w1 ⟨rfl,hb⟩
   have HB:=hid hb
   clear hb
   unfold Ma
   go_wp2_with fail
   refine bodyPost_ret (BV rfl _ _ _) rfl ?_
   exact⟨rfl,HB.out⟩
  have t123:((s[0].toNat:Int)==123)=false:=Ce FV
  rw[if_neg Jk,if_neg h43,if_neg h63,if_neg FV]at hv
  have HV:=hid hv
  clear hv Jk h43 h63 FV
  rw[HV.out]
  go_enter Tryz.func148,Tryz.ntmps148
  go_wp2_with fail
  refine bodyPost_ret (BV rfl _ _ _) rfl ?_
  exact⟨rfl,Below.refl _ _⟩
 have hl:=Az h0
 have HV:Hid (EJ s.data.toList=(0,0,0,0)):=by
  unfold Hid
  rw[Kit.CX h0];rfl
 rw[HV.out]
 go_enter Tryz.func148,Tryz.ntmps148
 go_wp2_with fail
 refine bodyPost_ret (BV rfl _ _ _) rfl ?_
 exact⟨rfl,Below.refl _ _⟩
theorem dE {l:List UInt8} (h:(EJ l).1=0):(EJ l).2.2.2<=l.length:=by
 cases l with
 |nil=>exact Nat.le_refl _
 |cons c r=>
  revert h
  unfold EJ
  simp only
  split
  ·intro _;simp
  split
  ·intro _;simp
  split
  ·intro _;simp
  split
  ·intro h
   have:=(NV h).2.2.2
   simpa using this
  intro _;simp
theorem Sq (r:List UInt8):EJ (123::r)=Cr r:=rfl
theorem XE (S:List UInt8) (p:Piece) {to:Nat} (h:to<=S.length):often S p to=if(EJ (S.drop to)).1≠0 then .bad to (EJ (S.drop to)).1 else if(EJ (S.drop to)).2.2.2=0 then .ok p to else .ok (.mk 9 ⟨#[]⟩ [p] (EJ (S.drop to)).2.1 (EJ (S.drop to)).2.2.1) (to+(EJ (S.drop to)).2.2.2):=by
 unfold often
 by_cases h0:to=S.length
 ·rw[if_pos h0,h0,List.drop_length];rfl
 rw[if_neg h0]
 have hlt:to<S.length:=by omega
 have e:S.drop to=S.getD to 0::S.drop (to+1):=by
  rw[List.drop_eq_getElem_cons hlt,List.getD_eq_getElem?_getD,List.getElem?_eq_getElem hlt];rfl
 rw[e]
 generalize S.getD to 0=c
 by_cases h1:c=123
 ·subst h1
  rw[if_pos rfl,Sq]
  by_cases h2:(Cr (S.drop (to+1))).1≠0
  ·rw[if_pos h2,if_pos h2]
  rw[if_neg h2,if_neg h2]
  have:=(NV (l:=S.drop (to+1)) (by simpa using h2)).2.2.1
  rw[if_neg (by omega)]
 rw[if_neg h1]
 unfold EJ
 simp only
 by_cases h2:c=42
 ·simp[h2]
 by_cases h3:c=43
 ·simp[h3]
 by_cases h4:c=63
 ·simp[h4]
 simp[h1,h2,h3,h4]
end W14
end Go.Proofs.YtfgegjinhkgpbaaGreatDoor
