/-
  Texts joined, in build order, each with its own comment and its own conditions: W14Row, W14Pattern, W14Parse, W15Of, W04Last, W04Buf.
-/
import Derived.Test.YtfgegjinhkgpbaaGreatDoorJ17
import Derived.Deep.LoopGhost
import Derived.Deep.Cut
import Derived.Test.YtfgegjinhkgpbaaGreatDoorJ16
import Derived.Test.YtfgegjinhkgpbaaGreatDoorJ01
import Derived.Test.YtfgegjinhkgpbaaGreatDoorChecked
import Derived.Lib.AppendStr
import Derived.Test.YtfgegjinhkgpbaaGreatDoorJ02
import Derived.Room.AppendFits
import Derived.OwnWalkIn
namespace Go.Proofs.YtfgegjinhkgpbaaGreatDoor
set_option maxHeartbeats 4000000
set_option maxRecDepth 100000
open Go.RowKit
open Lib (hid)
namespace W14
open Al Cj
open BU (Beside)
open Kit (Au AX BO CL Ae BM below_draws on Ap Bl Az Bb)
theorem VW (S:List UInt8) (at_ deep:Nat):Cf S at_ deep=(true,0)\/Cf S at_ deep=(true,3)\/Cf S at_ deep=(false,0):=by
 unfold Cf
 split
 ·exact .inl rfl
 split
 ·split
  ·exact .inl rfl
  exact .inr (.inl rfl)
 split
 ·exact .inr (.inl rfl)
 split
 ·exact .inl rfl
 exact .inr (.inr rfl)
section
variable {R:Nat->Nat->Option Dg} {S:List UInt8} {deep k at_:Nat} {acc:List Piece} {g:Dg}
theorem Mt (h:stop S at_) (hr:row R S deep (k+1) at_ acc=some g):g= .ok (together 7 acc) at_:=by
 unfold row at hr
 rw[if_pos h]at hr
 injection hr with hr
 exact hr.symm
theorem Lm (h: ¬stop S at_) {q:Nat} {er:Int} (hp:Cj.part R S at_ deep=some (.bad q er)) (hr:row R S deep (k+1) at_ acc=some g):g= .bad q er:=by
 unfold row at hr
 rw[if_neg h,hp]at hr
 injection hr with hr
 exact hr.symm
theorem Ua (h: ¬stop S at_) {p:Piece} {to:Nat} (hp:Cj.part R S at_ deep=some (.ok p to)) (hr:row R S deep (k+1) at_ acc=some g):row R S deep k to (acc++ [p])=some g:=by
 unfold row at hr
 rw[if_neg h,hp]at hr
 exact hr
theorem kK (h:Cf S at_ deep=(true,0)) (hr:row R S deep (k+1) at_ acc=some g):fix S deep g= .ok (together 7 acc) at_:=by
 unfold Cf at h
 by_cases h0:at_=S.length
 ·rw[Mt (Or.inl (by omega)) hr]
  exact if_neg (by omega)
 rw[if_neg h0]at h
 by_cases IK:S.getD at_ 0=41
 ·rw[if_pos IK]at h
  by_cases hd:0<deep
  ·rw[Mt (Or.inr (Or.inr IK)) hr]
   exact if_neg (by omega)
  rw[if_neg hd]at h;simp at h
 rw[if_neg IK]at h
 split at h
 ·simp at h
 split at h
 ·rename_i Fa
  rw[Mt (Or.inr (Or.inl Fa)) hr]
  exact if_neg (fun q=>IK q.2.2)
 simp at h
theorem ou (ha:at_<=S.length) (h:Cf S at_ deep=(true,3)) (hr:row R S deep (k+1) at_ acc=some g):fix S deep g= .bad at_ 3:=by
 unfold Cf at h
 by_cases h0:at_=S.length
 ·rw[if_pos h0]at h;simp at h
 rw[if_neg h0]at h
 by_cases IK:S.getD at_ 0=41
 ·rw[if_pos IK]at h
  by_cases hd:0<deep
  ·rw[if_pos hd]at h;simp at h
  rw[Mt (Or.inr (Or.inr IK)) hr]
  exact if_pos ⟨by omega,by omega,IK⟩
 rw[if_neg IK]at h
 by_cases hq:S.getD at_ 0=42\/S.getD at_ 0=43\/S.getD at_ 0=63\/S.getD at_ 0=123
 ·have hst: ¬stop S at_:=by
    rintro(q|q|q)
    ·omega
    ·rcases hq with e|e|e|e<;>(rw[e]at q;exact absurd q (by decide))
    exact IK q
  have hp:Cj.part R S at_ deep=some (.bad at_ 3):=by
   unfold Cj.part atom
   have n: ∀c:UInt8,c=40\/c=91\/c=46\/c=94\/c=36-> ¬S.getD at_ 0=c:=by
    rintro c (e|e|e|e|e) q<;>rcases hq with f|f|f|f<;>(rw[q,e]at f;exact absurd f (by decide))
   rw[if_neg (n 40 (by simp)),if_neg (n 91 (by simp)),if_neg (n 46 (by simp)),if_neg (n 94 (by simp)),if_neg (n 36 (by simp)),if_pos hq]
  rw[Lm hst hp hr];rfl
 rw[if_neg hq]at h
 split at h<;>simp at h
theorem sZ (ha:at_<=S.length) (h:Cf S at_ deep=(false,0)):at_<S.length/\ ¬stop S at_/\ ¬S.getD at_ 0=42/\ ¬S.getD at_ 0=43/\ ¬S.getD at_ 0=63/\ ¬S.getD at_ 0=123:=by
 unfold Cf at h
 by_cases h0:at_=S.length
 ·rw[if_pos h0]at h;simp at h
 rw[if_neg h0]at h
 by_cases IK:S.getD at_ 0=41
 ·rw[if_pos IK]at h
  split at h<;>simp at h
 rw[if_neg IK]at h
 by_cases hq:S.getD at_ 0=42\/S.getD at_ 0=43\/S.getD at_ 0=63\/S.getD at_ 0=123
 ·rw[if_pos hq]at h;simp at h
 rw[if_neg hq]at h
 by_cases Fa:S.getD at_ 0=124
 ·rw[if_pos Fa]at h;simp at h
 refine⟨by omega,?_,fun q=>hq (.inl q),fun q=>hq (.inr (.inl q)),fun q=>hq (.inr (.inr (.inl q))),fun q=>hq (.inr (.inr (.inr q)))⟩
 rintro(q|q|q)
 ·omega
 ·exact Fa q
 exact IK q
end
theorem Ol.more {s:ByteArray} {R:Nat->Nat->Option Dg} {lo lo':Nat} (h:Ol s R lo) (k:lo<=lo'):Ol s R lo':=fun a d h1 h2 h3=>h a d (Nat.le_trans k h1) h2 h3
section
variable {e:TypeId} {base:Nat} {u w' w'':World} {v:Value} {ks:List Piece} {b:Nat}
theorem Mv (hb:Build e base w' v ks) (hg:w'.grownBy w'' v.ownBlock) (h0:u.heap.size<=base) (k:Beside b u w'):Beside b u w'':=by
 have hs:=F8 hb hg
 obtain⟨g1,g2,g3,g4,-⟩:=hg
 exact⟨g1.trans k.os,g2.trans k.tape,g3.trans k.output,Nat.le_trans k.size g4,fun i hi e=>(hs i (by omega) (Nat.lt_of_lt_of_le hi k.size)).trans (k.block i hi e)⟩
theorem Mw {s:ByteArray} {at_ deep:Nat} (hb:Build e base w' v ks) (hg:w'.grownBy w'' v.ownBlock) (h0:b<base) (h:Reader w' b s at_ deep):Reader w'' b s at_ deep:=(F8 hb hg b h0 h.lt).trans h
theorem Ub {r:Raw} (hb:Build e base w' v ks) (hg:w'.grownBy w'' v.ownBlock) (h0:b<base) (h:Ad w' b r):Ad w'' b r:=(F8 hb hg b h0 h.lt).trans h
end
section
variable {w:World} {b:Nat} {s:ByteArray} {at_ deep:Nat}
theorem oz {R:Nat->Nat->Option Dg} (hR:Ol s R (at_+1)) (hat:at_<=s.size) (hs:s.size<=900) (hd:deep<=64) {g:Dg} (hg:row R s.data.toList deep (s.data.toList.length+1) at_ []=some g) (h:Reader w b s at_ deep):
    Calls Tryz.prog 95 #[.pointer (some ⟨b,0,none⟩)] w (Reads b s deep w (fix s.data.toList deep g)):=by
 have hlen:s.data.toList.length=s.size:=(Lib.size_eq s).symm
 have hlt:=h.lt
 have H:=hid h
 have HG:=hid hg
 have HR:=hid hR
 obtain⟨G,hG⟩: ∃G,fix s.data.toList deep g=G:=⟨_,rfl⟩
 rw[hG]
 have uQ:=hid hG
 have HLEN:=hid hlen
 clear h hg hR hG hlen
 go_enter Tryz.func95,Tryz.ntmps95
 go_wp2_with (first|(refine AJ rfl rfl ?_;intro w1 b1 e1 p1 l1 z1))
 have hne:b1≠b:=by omega
 have hb1:b<w1.heap.size:=by omega
 have hb2:b1<w1.heap.size:=by omega
 go_loopg [4] s.size (fun gk s4 wr=> ∃(a:Nat) (acc:List Piece),at_<=a/\a<=s.size/\acc.length<=a/\Hid (row R s.data.toList deep (gk+1) a acc=some g)/\Hid (Build 56 w1.heap.size wr s4 acc)/\Hid (Reader wr b s a deep)/\Hid (Ad wr b1 Af)/\Hid (Beside b w wr)/\w1.heap.size<=wr.heap.size)
 case atStart=>
  refine⟨at_,[],Nat.le_refl _,hat,Nat.zero_le _,?_,Build.nil _ _ _,H.out.below l1,p1,.of l1,Nat.le_refl _⟩
  show row R _ _ _ _ _=_
  rw[<-HLEN.out];exact HG.out
 case round=>
  obtain⟨a,acc,ha0,ha1,hacc,hrow,hbuild,hrd,Ee,Re,hsz⟩:=hrel
  have hna:=Y1 hrd.out ha1
  obtain⟨A,c,rfl,hA1,hA2⟩:=hbuild.out.len
  unfold maxLen at hA2
  rcases VW s.data.toList a deep with hq|hq|hq
  ·-- the row ends
   rw[hq]at hna
   have HX:Hid (G= .ok (together 7 acc) a):=by
    unfold Hid
    rw[<-uQ.out]
    exact kK hq hrow.out
   have HN:=hid hna
   clear hna hq
   go_wp2_with fail
   refine HN.out.mono ?_
   rintro e w2 ⟨rfl,q,rfl⟩
   have Pn:Hid (Build 56 w1.heap.size (wr.drewN q) (.slice A acc.length c) acc):=hbuild.out.same (Nat.le_refl _) fun _ _ _=>rfl
   have Zm:Hid (Reader (wr.drewN q) b s a deep):=hrd
   have Rf:Hid (Ad (wr.drewN q) b1 Af):=Ee
   have Rh:Hid (Beside b w (wr.drewN q)):=BF Re.out (below_draws wr q)
   have hsz2:w1.heap.size<=(wr.drewN q).heap.size:=hsz
   clear hbuild hrd Ee Re
   generalize wr.drewN q=w2 at*
   go_wp2_with fail
   refine(MW 7 (by omega) Pn.out).mono ?_
   rintro e w3 ⟨r,rfl,hp,l3⟩
   have A3:=hid hp
   have L3:=hid l3
   have P3:=hid (Rf.out.below l3)
   clear hp l3
   go_wp2_with (first
    |(refine AB (r:=r) rfl (.tmp 2) (.tmp 19) rfl rfl rfl P3.out ?_;intro w8 p8 l8 z8))
   refine BP rfl rfl p8 rfl ?_
   rw[HX.out]
   exact⟨BI (BF Rh.out L3.out) l8 (by omega),_,rfl,(Zm.out.below L3.out).beside l8 hne.symm,(A3.out.Bg l8 hb2).Cs l1.size⟩
  ·-- no row may end here
   rw[hq]at hna
   have HX:Hid (G= .bad a 3):=by
    unfold Hid
    rw[<-uQ.out]
    exact ou (by rw[HLEN.out];exact ha1) hq hrow.out
   have HN:=hid hna
   clear hna hq
   go_wp2_with fail
   refine HN.out.mono ?_
   rintro e w2 ⟨rfl,q,rfl⟩
   have Zm:Hid (Reader (wr.drewN q) b s a deep):=hrd
   have Rf:Hid (Ad (wr.drewN q) b1 Af):=Ee
   have Rh:Hid (Beside b w (wr.drewN q)):=BF Re.out (below_draws wr q)
   clear hbuild hrd Ee Re
   generalize wr.drewN q=w2 at*
   go_wp2_with (first
    |(refine AB (r:=Af) rfl (.tmp 2) (.tmp 15) rfl rfl rfl Rf.out ?_;intro w8 p8 l8 z8))
   refine BP rfl rfl p8 rfl ?_
   rw[HX.out]
   exact⟨BI Rh.out l8 (by omega),by decide,rfl,_,Zm.out.beside l8 hne.symm⟩
  -- a part
  rw[hq]at hna
  obtain⟨ha2,hst,n42,n43,n63,n123⟩:=sZ (by rw[HLEN.out];exact ha1) hq
  have bG:a<s.size:=by rw[HLEN.out]at ha2;exact ha2
  rw[getD_at bG]at n42 n43 n63 n123
  obtain⟨g0,hp0,hf0,hC⟩:=kJ (kE (HR.out.more (by omega)) bG hs hd n42 n43 n63 n123) hs
  have HN:=hid hna
  have HC:=hid hC
  clear hna hq n42 n43 n63 n123 hC ha2
  match g0,hf0,HC,hp0 with
  | .bad qb er,hf0,HC,hp0=>
   have HX:Hid (G= .bad qb er):=by
    unfold Hid
    rw[<-uQ.out,Lm hst hp0 hrow.out];rfl
   clear hf0 hp0 hst
   go_wp2_with fail
   refine HN.out.mono ?_
   rintro e w2 ⟨rfl,q,rfl⟩
   have Zm:Hid (Reader (wr.drewN q) b s a deep):=hrd
   have Rf:Hid (Ad (wr.drewN q) b1 Af):=Ee
   have Rh:Hid (Beside b w (wr.drewN q)):=BF Re.out (below_draws wr q)
   have hsz2:w1.heap.size<=(wr.drewN q).heap.size:=hsz
   clear hbuild hrd Ee Re
   generalize wr.drewN q=w2 at*
   go_wp2_with fail
   refine(HC.out _ _ Zm.out).mono ?_
   rintro e w4 ⟨b4,he,rfl,d,hr⟩
   have B4:=hid b4
   have P4:=hid (Rf.out.beside b4 hne)
   have H4:=hid hr
   have te:(er !=0)=true:=by simpa using he
   have HE:=hid he
   have hz:=B4.out.size
   clear b4 hr he
   go_wp2_with (first
    |(refine AJ rfl rfl ?_;intro w5 c2 e5 p5 l5 z5)
    |(refine AB (r:=Af) rfl (.tmp 7) (.tmp 23) rfl rfl rfl p5 ?_;intro w6 p6 l6 z6;have L6:=hid (AY l5 l6 e5);have P6:=hid (P4.out.below L6.out))
    |(refine AB (r:=Af) rfl (.tmp 2) (.tmp 27) rfl rfl rfl P6.out ?_;intro w7 p7 l7 z7))
   refine BP rfl rfl p7 rfl ?_
   rw[HX.out]
   exact⟨BI (Rh.out.trans (BF B4.out L6.out)) l7 (by omega),HE.out,rfl,_,(H4.out.below L6.out).beside l7 hne.symm⟩
  | .ok p to,hf0,HC,hp0=>
   have kL:=hid (Ua hst hp0 hrow.out)
   have vX:a+1<=to:=hf0.1
   have kM:to<=s.size:=by have:=hf0.2.1;rw[HLEN.out]at this;exact this
   clear hf0 hp0 hst hrow
   go_wp2_with fail
   refine HN.out.mono ?_
   rintro e w2 ⟨rfl,q,rfl⟩
   have Pn:Hid (Build 56 w1.heap.size (wr.drewN q) (.slice A acc.length c) acc):=hbuild.out.same (Nat.le_refl _) fun _ _ _=>rfl
   have Zm:Hid (Reader (wr.drewN q) b s a deep):=hrd
   have Rf:Hid (Ad (wr.drewN q) b1 Af):=Ee
   have Rh:Hid (Beside b w (wr.drewN q)):=BF Re.out (below_draws wr q)
   have hsz2:w1.heap.size<=(wr.drewN q).heap.size:=hsz
   clear hbuild hrd Ee Re
   generalize wr.drewN q=w2 at*
   go_wp2_with fail
   refine(HC.out _ _ Zm.out).mono ?_
   rintro e w4 ⟨b4,r,rfl,hr,hp⟩
   have B4:=hid b4
   have P4:=hid (Rf.out.beside b4 hne)
   have U4:=hid (Pn.out.beside b4 hb1)
   have H4:=hid hr
   have A4:=hid hp
   have hz:=B4.out.size
   clear b4 hr hp
   go_wp2_with (first
    |(refine AJ rfl rfl ?_;intro w5 c2 e5 p5 l5 z5)
    |(refine AB (r:=r) rfl (.tmp 7) (.tmp 23) rfl rfl rfl p5 ?_;intro w6 p6 l6 z6;have L6:=hid (AY l5 l6 e5))
    |(refine AU rfl (.tmp 7) rfl rfl p6 ?_)
    |(refine B_ rfl (.tmp 30) rfl (r:=r) rfl ?_;intro w7 b3 e7 r7 l7 z7;have L7:=hid (L6.out.trans (l7.mono L6.out.size));have U7:=hid (U4.out.below L7.out);have A7:=hid (A4.out.CP L7.out);have qG:=L7.out.size)
    |(refine Eb rfl (.tmp 29) (.tmp 31) rfl rfl rfl U7.out Pn.out.LH hsz2 (by omega) r7 A7.out (by omega) ?_;intro v' w8 U8 g8))
   have HU:=hid U8
   have uR:=hid (Mw U7.out g8 hb1 (H4.out.below L7.out))
   have xB:=hid (Ub U7.out g8 hb2 (P4.out.below L7.out))
   have xC:=hid (Mv U7.out g8 l1.size (Rh.out.trans (BF B4.out L7.out)))
   have xA:w7.heap.size<=w8.heap.size:=by obtain⟨_,_,_,g,_⟩:=g8;exact g
   clear g8 U8
   cases gk with
   |zero=>exact absurd kL.out (by simp[row])
   |succ Lf=>
    try go_wp2_with fail
    go_roundg Lf
    case measure=>omega
    case rel=>exact⟨to,acc++ [p],by omega,kM,by simp only[List.length_append,List.length_cons,List.length_nil];omega,kL,HU,uR,xB,xC,by omega⟩
end
end W14
namespace W14
open Al Cj
open BU (Beside)
open Kit (Au AX BO CL Ae BM below_draws on Ap Bl Az Bb)
section
variable {R:Nat->Nat->Option Dg} {S:List UInt8} {deep k at_:Nat} {acc:List Piece} {g:Dg}
theorem eB {g0:Dg} {q:Nat} {er:Int} (hp:row R S deep (S.length+1) at_ []=some g0) (hf:fix S deep g0= .bad q er) (hr:Dx R S deep (k+1) at_ acc=some g):fix S deep g= .bad q er:=by
 unfold Dx at hr
 rw[hp]at hr
 match g0,hf,hr with
 | .bad b e,hf,hr=>
  simp only at hr
  injection hr with hr
  rw[<-hr];exact hf
 | .ok p to,hf,hr=>
  have hf':(if deep=0/\to<S.length/\S.getD to 0=41 then Dg.bad to 3 else Dg.ok p to)= .bad q er:=hf
  by_cases hc:deep=0/\to<S.length/\S.getD to 0=41
  ·rw[if_pos hc]at hf'
   simp only at hr
   rw[if_pos (Or.inr (by rw[hc.2.2];decide))]at hr
   injection hr with hr
   rw[<-hr,<-hf']
   exact if_pos hc
  rw[if_neg hc]at hf';cases hf'
theorem si {g0:Dg} {p:Piece} {to:Nat} (hf:fix S deep g0= .ok p to):g0= .ok p to/\ ¬(deep=0/\to<S.length/\S.getD to 0=41):=by
 match g0,hf with
 | .bad b e,hf=>cases hf
 | .ok p' o_,hf=>
  have hf':(if deep=0/\o_<S.length/\S.getD o_ 0=41 then Dg.bad o_ 3 else Dg.ok p' o_)= .ok p to:=hf
  by_cases hc:deep=0/\o_<S.length/\S.getD o_ 0=41
  ·rw[if_pos hc]at hf';cases hf'
  rw[if_neg hc]at hf'
  injection hf' with h1 h2
  subst h1 h2
  exact⟨rfl,hc⟩
theorem eD {p:Piece} {to:Nat} (hp:row R S deep (S.length+1) at_ []=some (.ok p to)) (hc: ¬(deep=0/\to<S.length/\S.getD to 0=41)) (ht:to=S.length\/S.getD to 0≠124) (hr:Dx R S deep (k+1) at_ acc=some g):fix S deep g= .ok (together 8 (acc++ [p])) to:=by
 unfold Dx at hr
 rw[hp]at hr
 simp only at hr
 rw[if_pos ht]at hr
 injection hr with hr
 rw[<-hr]
 exact if_neg hc
theorem Xm {p:Piece} {to:Nat} (hp:row R S deep (S.length+1) at_ []=some (.ok p to)) (ht: ¬(to=S.length\/S.getD to 0≠124)) (hr:Dx R S deep (k+1) at_ acc=some g):Dx R S deep k (to+1) (acc++ [p])=some g:=by
 unfold Dx at hr
 rw[hp]at hr
 simp only at hr
 rw[if_neg ht]at hr
 exact hr
end
theorem pE {s:ByteArray} {to:Nat} (h:to<s.size) (h2:s[to]=124):Lib.hasPrefix (s.extract to s.size).data.toList [124]=true:=by
 rw[Kit.Aa,Kit.Ay s to h,h2]
 simp[Lib.hasPrefix]
theorem sj {s:ByteArray} {to:Nat} (h: ¬ ∃h:to<s.size,s[to]=124):Lib.hasPrefix (s.extract to s.size).data.toList [124]=false:=by
 rw[Kit.Aa]
 by_cases ht:to<s.size
 ·rw[Kit.Ay s to ht]
  have: ¬s[to]=124:=fun e=>h ⟨ht,e⟩
  have e:(124:UInt8)≠s[to]:=fun e=>this e.symm
  show((124:UInt8)==s[to]&&_)=false
  rw[beq_eq_false_iff_ne.2 e,Bool.false_and]
 rw[Kit.Ci s to ht];rfl
theorem kN {s:ByteArray} {to:Nat} (h:Lib.hasPrefix (s.extract to s.size).data.toList [124]=true): ∃h:to<s.size,s[to]=124:=Classical.byContradiction fun q=>by rw[sj q]at h;cases h
theorem eF {s:ByteArray} {to:Nat} (h:Lib.hasPrefix (s.extract to s.size).data.toList [124]=false): ¬ ∃h:to<s.size,s[to]=124:=fun⟨a,b⟩=>by rw[pE a b]at h;cases h
section
variable {w:World} {b:Nat} {s:ByteArray} {at_ deep:Nat}
theorem Xn {R:Nat->Nat->Option Dg} (hR:Ol s R (at_+1)) (hat:at_<=s.size) (hs:s.size<=900) (hd:deep<=64) {g:Dg} (hg:Dx R s.data.toList deep (s.data.toList.length+1) at_ []=some g) (h:Reader w b s at_ deep):
    Calls Tryz.prog 72 #[.pointer (some ⟨b,0,none⟩)] w (Reads b s deep w (fix s.data.toList deep g)):=by
 have hlen:s.data.toList.length=s.size:=(Lib.size_eq s).symm
 have hlt:=h.lt
 have H:=hid h
 have HG:=hid hg
 have HR:=hid hR
 obtain⟨G,hG⟩: ∃G,fix s.data.toList deep g=G:=⟨_,rfl⟩
 rw[hG]
 have uQ:=hid hG
 have HLEN:=hid hlen
 clear h hg hR hG hlen
 go_enter Tryz.func72,Tryz.ntmps72
 go_wp2_with (first|(refine AJ rfl rfl ?_;intro w1 b1 e1 p1 l1 z1))
 have hne:b1≠b:=by omega
 have hb1:b<w1.heap.size:=by omega
 have hb2:b1<w1.heap.size:=by omega
 have hwb:w.heap.size<=b1:=by omega
 go_loopg [4] s.size (fun gk s4 wr=> ∃(a:Nat) (acc:List Piece),at_<=a/\a<=s.size/\acc.length<=a/\Hid (Dx R s.data.toList deep (gk+1) a acc=some g)/\Hid (Build 56 w1.heap.size wr s4 acc)/\Hid (Reader wr b s a deep)/\Hid (Ad wr b1 Af)/\Hid (Beside b w wr)/\w1.heap.size<=wr.heap.size)
 case atStart=>
  refine⟨at_,[],Nat.le_refl _,hat,Nat.zero_le _,?_,Build.nil _ _ _,H.out.below l1,p1,.of l1,Nat.le_refl _⟩
  show Dx R _ _ _ _ _=_
  rw[<-HLEN.out];exact HG.out
 case round=>
  obtain⟨a,acc,ha0,ha1,hacc,hrow,hbuild,hrd,Ee,Re,hsz⟩:=hrel
  obtain⟨A,c,rfl,hA1,hA2⟩:=hbuild.out.len
  unfold maxLen at hA2
  obtain⟨g0,hg0,hf0⟩:=MP (R:=R) (S:=s.data.toList) (deep:=deep) (lo:=a) (by rw[HLEN.out];exact hs) (fun hd2 to h1 h2=>by
   obtain⟨g,e,hf,-⟩:=HR.out to (deep+1) (by omega) (by rw[HLEN.out]at h2;exact h2) (by omega)
   exact⟨g,e,hf⟩) (s.data.toList.length+1) a [] (Nat.le_refl _) (by rw[HLEN.out];exact ha1) (by have:=HLEN.out;omega) (Nat.zero_le _) (by simp)
  have hC: ∀w b,Reader w b s a deep->Calls Tryz.prog 95 #[.pointer (some ⟨b,0,none⟩)] w (Reads b s deep w (fix s.data.toList deep g0)):=fun w b h=>oz (HR.out.more (by omega)) ha1 hs hd hg0 h
  obtain⟨F0,vY⟩: ∃F,fix s.data.toList deep g0=F:=⟨_,rfl⟩
  rw[vY]at hC
  have HC:=hid hC
  clear hC
  rcases F0 with⟨p,to⟩|⟨qb,er⟩
  rotate_left
  ·skip
   have HX:Hid (G= .bad qb er):=by
    unfold Hid
    rw[<-uQ.out]
    exact eB hg0 vY hrow.out
   clear hf0 vY hg0 hrow
   go_wp2_with fail
   refine(HC.out _ _ hrd.out).mono ?_
   rintro e w4 ⟨b4,he,rfl,d,hr⟩
   have B4:=hid b4
   have P4:=hid (Ee.out.beside b4 hne)
   have H4:=hid hr
   have te:(er !=0)=true:=by simpa using he
   have HE:=hid he
   have hz:=B4.out.size
   clear b4 hr he
   go_wp2_with (first
    |(refine AJ rfl rfl ?_;intro w5 c2 e5 p5 l5 z5)
    |(refine AB (r:=Af) rfl (.tmp 5) (.tmp 10) rfl rfl rfl p5 ?_;intro w6 p6 l6 z6;have L6:=hid (AY l5 l6 e5);have P6:=hid (P4.out.below L6.out))
    |(refine AB (r:=Af) rfl (.tmp 2) (.tmp 14) rfl rfl rfl P6.out ?_;intro w7 p7 l7 z7))
   refine BP rfl rfl p7 rfl ?_
   rw[HX.out]
   exact⟨BI (Re.out.trans (BF B4.out L6.out)) l7 hwb,HE.out,rfl,_,(H4.out.below L6.out).beside l7 hne.symm⟩
  obtain⟨rfl,hnc⟩:=si vY
  have vX:a<=to:=hf0.1
  have kM:to<=s.size:=by have:=hf0.2.1;rw[HLEN.out]at this;exact this
  have yg:(to:Int)<=(s.size:Int):=by omega
  obtain⟨bo,qm⟩: ∃bo,Lib.hasPrefix (s.extract to s.size).data.toList [124]=bo:=⟨_,rfl⟩
  have HQ:Hid (∀w,Calls Tryz.prog 39 #[.string (s.extract to s.size),.string ⟨#[124]⟩] w fun e w'=>e= .returned (.bool bo)/\w'=w):=fun w=>by
   have:=Tryz.strings_HasPrefix (s.extract to s.size) ⟨#[124]⟩ w
   rw[qm]at this
   exact this
  have z_:=hid qm
  have HG0:=hid hg0
  have HNC:=hid hnc
  have vZ:acc.length<=1000000:=by omega
  have r4:acc.length<=to:=by omega
  have r5:at_<=to:=by omega
  clear hf0 vY hg0 qm hnc vX ha0 ha1 hacc hA1 hA2
  go_wp2_with fail
  refine(HC.out _ _ hrd.out).mono ?_
  rintro e w4 ⟨b4,r,rfl,hr,hp⟩
  have B4:=hid b4
  have P4:=hid (Ee.out.beside b4 hne)
  have U4:=hid (hbuild.out.beside b4 hb1)
  have H4:=hid hr
  have A4:=hid hp
  have hz:=B4.out.size
  clear b4 hr hp
  go_wp2_with (first
   |(refine AJ rfl rfl ?_;intro w5 c2 e5 p5 l5 z5)
   |(refine AB (r:=r) rfl (.tmp 5) (.tmp 10) rfl rfl rfl p5 ?_;intro w6 p6 l6 z6;have L6:=hid (AY l5 l6 e5))
   |(refine AU rfl (.tmp 5) rfl rfl p6 ?_)
   |(refine B_ rfl (.tmp 17) rfl (r:=r) rfl ?_;intro w7 b3 e7 r7 l7 z7;have L7:=hid (L6.out.trans (l7.mono L6.out.size));have U7:=hid (U4.out.below L7.out);have A7:=hid (A4.out.CP L7.out);have qG:=L7.out.size)
   |(refine Eb rfl (.tmp 16) (.tmp 18) rfl rfl rfl U7.out hbuild.out.LH hsz (Nat.le_trans hsz (Nat.le_trans hz qG)) r7 A7.out vZ ?_;intro v' w8 U8 g8;have uR:=hid (Mw U7.out g8 hb1 (H4.out.below L7.out));have k0:=uR.out.c0;have k1:=uR.out.c1))
  have HU:=hid U8
  have xB:=hid (Ub U7.out g8 hb2 (P4.out.below L7.out))
  have xC:=hid (Mv U7.out g8 l1.size (Re.out.trans (BF B4.out L7.out)))
  have xA:w7.heap.size<=w8.heap.size:=by obtain⟨_,_,_,g,_⟩:=g8;exact g
  clear g8 U8
  go_quiet ((go_at_call 39;exact Calls.quiet_of_same (HQ.out _)))
  have HU2:Hid (Build 56 w1.heap.size (w8.drewN nq) v' (acc++ [p])):=HU.out.same (Nat.le_refl _) fun _ _ _=>rfl
  have xD:Hid (Reader (w8.drewN nq) b s to deep):=uR
  have HP9:Hid (Ad (w8.drewN nq) b1 Af):=xB
  have HB9:Hid (Beside b w (w8.drewN nq)):=BF xC.out (below_draws w8 nq)
  have hz9:w8.heap.size<=(w8.drewN nq).heap.size:=Nat.le_refl _
  clear HU uR xB xC k0 k1
  have YX:Hid (w1.heap.size<=(w8.drewN nq).heap.size):=Nat.le_trans hsz (Nat.le_trans hz (Nat.le_trans qG xA))
  clear hz9 xA qG hz hsz z5 z6 e5 L6 l6 L7 U7 A7 e7 z7 l7 r7 p6 l5 p5 A4 H4 U4 P4 B4
  generalize w8.drewN nq=w9 at*
  cases bo with
  |true=>
   obtain⟨pF,hbr⟩:=kN z_.out
   have hno: ¬(to=s.data.toList.length\/s.data.toList.getD to 0≠124):=by
    rintro(q|q)
    ·rw[HLEN.out]at q;exact absurd pF (by rw[q];exact Nat.lt_irrefl _)
    exact q (by rw[getD_at pF];exact hbr)
   have kL:=hid (Xm HG0.out hno hrow.out)
   have r3:(acc++ [p]).length<=to+1:=by rw[List.length_append];exact Nat.succ_le_succ r4
   have hw:wrap64 ((to:Int)+1)=((to+1:Nat):Int):=by unfold wrap64;omega
   clear hno hbr
   have k1:=xD.out.c1
   have g1:=xD.out.free 1
   have B10:Hid (Beside b w9 (w9.setCell ⟨b,1,none⟩ (.int .i64 ((to+1:Nat):Int)))):=BH _ _ _ _
   have yh:=hid (xD.out.NZ (to+1))
   have yj:=hid (HP9.out.beside B10.out hne)
   have yl:=hid (HU2.out.beside B10.out hb1)
   have ym:=hid (HB9.out.trans B10.out)
   have yn:=hid B10.out.size
   have R3:=hid r3
   have R5:=hid (Nat.le_succ_of_le r5)
   have R6:=hid pF
   clear r3 r4 r5 vZ kM yg pF
   cases gk with
   |zero=>exact absurd kL.out (by simp[Dx])
   |succ Lf=>
    go_wp2_with fail
    go_roundg Lf
    case measure=>exact Nat.lt_succ_self _
    case rel=>exact⟨to+1,acc++ [p],R5.out,R6.out,R3.out,kL,yl,yh,yj,ym,Nat.le_trans YX.out yn.out⟩
  |false=>
   have HX:Hid (G= .ok (together 8 (acc++ [p])) to):=by
    unfold Hid
    rw[<-uQ.out]
    refine eD HG0.out HNC.out ?_ hrow.out
    rcases Nat.lt_or_ge to s.size with q|q
    ·exact .inr fun e=>eF z_.out ⟨q,by rw[getD_at q]at e;exact e⟩
    exact .inl (by rw[HLEN.out];exact Nat.le_antisymm kM q)
   have hal:(acc++ [p]).length<=1000000:=by
    rw[List.length_append]
    exact Nat.le_trans (Nat.succ_le_succ r4) (Nat.le_trans (Nat.succ_le_succ (Nat.le_trans kM hs)) (by decide))
   go_wp2_with fail
   refine(MW 8 hal HU2.out).mono ?_
   rintro e kI ⟨yf,rfl,hp,l10⟩
   have A10:=hid hp
   have L10:=hid l10
   have P10:=hid (HP9.out.below l10)
   clear hp l10
   go_wp2_with (first
    |(refine AB (r:=yf) rfl (.tmp 2) (.tmp 32) rfl rfl rfl P10.out ?_;intro xE p11 yo z11))
   refine BP rfl rfl p11 rfl ?_
   rw[HX.out]
   exact⟨BI (BF HB9.out L10.out) yo hwb,_,rfl,(xD.out.below L10.out).beside yo hne.symm,(A10.out.Bg yo hb2).Cs l1.size⟩
theorem qZ (hs:s.size<=900): ∀(n lo:Nat),s.data.toList.length<lo+n->Ol s (rows s.data.toList n) lo
 |0,lo,h=>fun a d h1 h2 _=>by rw[<-Lib.size_eq]at h;omega
 |n+1,lo,h=>fun a d h1 h2 h3=>by
  have hl:s.data.toList.length=s.size:=(Lib.size_eq s).symm
  obtain⟨g,e,hf⟩:=NY (S:=s.data.toList) (by omega) (n+1) a d (by omega) (by omega)
  refine⟨g,e,hf,fun w b hr=> ?_⟩
  exact Xn (qZ hs n (a+1) (by omega)) h2 hs h3 (by unfold rows at e;exact e) hr
end
end W14
namespace W14
open Al Cj
open BU (Beside)
open Kit (Au AX BO CL Ae BM below_draws on Ap Bl Az Bb)
theorem Oy:(Tryz.prog.info? 95).map (fun i=>(i.zero,i.size,i.bytes))=some (some (.agg #[.string ⟨#[]⟩,.int .i64 0,.int .i64 0]),3,32):=by kernel_rfl
theorem Xo (s:ByteArray) (a d:Nat):(Tryz.prog.info? 95).map (·.size)=some (#[Value.string s,.int .i64 a,.int .i64 d]:Array Value).size:=by
 obtain⟨i,hi,-,h2,-⟩:=info_parts Oy
 rw[hi];simp[h2]
theorem Xp (w:World):(zeroValue 95).run Tryz.prog w= .ok (.agg #[.string ⟨#[]⟩,.int .i64 0,.int .i64 0]) w:=by
 obtain⟨i,hi,h1,-,-⟩:=info_parts Oy
 simp[zeroValue,typeInfo,hi,h1]
section
variable {ops:Array Oper} {rest:List Oper} {o:Oper} {a:Act} {w:World} {Q:Exit->Act->World->Prop}
theorem Mx (hgd:o.guard=none) (ho:o.op= .alloc 95)
    (h: ∀w' b,w.heap.size=b->Reader w' b ⟨#[]⟩ 0 0->Below w.heap.size w w'->w'.heap.size=w.heap.size+1->wpList Tryz.prog ops Q rest (a.put o.dst (.pointer (some ⟨b,0,none⟩))) w'):wpList Tryz.prog ops Q (o::rest) a w:=
 wpList_plain hgd fun _ hK=>by
  unfold Oper.wp execOp
  simp only[ho,Instr.alloc,newVar,newRow,Xp,Sem.run_bind,Sem.run_pure,Result.andThen_ok]
  exact hK _ _ (h _ _ rfl (heap_alloc_new w _) (AZ w _) (World.size_alloc w _))
theorem M8 (hgd:o.guard=none) (x y:Operand) (ho:o.op= .store 95 x y) {b:Nat} {s s':ByteArray} {n m n' m':Nat} (hx:a.eval x= .pointer (some ⟨b,0,none⟩)) (hy:a.eval y= .agg #[.string s,.int .i64 n,.int .i64 m]) (hr:Reader w b s' n' m')
    (h: ∀w',Reader w' b s n m->Beside b w w'->w'.heap.size=w.heap.size->wpList Tryz.prog ops Q rest (a.put o.dst undef) w'):wpList Tryz.prog ops Q (o::rest) a w:=
 wpList_store_row hgd 95 x y ho b _ hx hy 95 _ hr (Xo s n m) rfl (by simp[Value.oneCell'])
  (h _ (setRow_heap w b _ _ _ _ hr) ⟨rfl,rfl,rfl,by rw[setRow_size];exact Nat.le_refl _,fun k _ e=>setRow_other w b k _ e⟩ (setRow_size _ _ _))
end
theorem J_ {w:World} {b:Nat} (h:Ad w b Af) (j:Nat) (v:Value) (hv:(Ak Af).setIfInBounds j v=Ak Af):Ad (w.setCell ⟨b,j,none⟩ v) b Af:=by
 unfold Ad at*
 rw[heap_setCell_same w b j _ _ v h,hv]
theorem kP {w:World} {b:Nat} {r:Raw} (h:Ad w b r):Ad w.drew b r:=h
theorem Ri {w:World} {b:Nat} (h:Ad w b Af):Ad (((((w.setCell ⟨b,0,none⟩ (.int .i64 0)).setCell ⟨b,1,none⟩ (.string ⟨#[]⟩)).setCell ⟨b,2,none⟩ (.slice none 0 0)).setCell ⟨b,3,none⟩ (.int .i64 0)).setCell ⟨b,4,none⟩ (.int .i64 0)).drew b Af:=by
 have h0:=J_ h 0 (.int .i64 0) (by simp[Ak,Af])
 have h1:=J_ h0 1 (.string ⟨#[]⟩) (by simp[Ak,Af])
 have h2:=J_ h1 2 (.slice none 0 0) (by simp[Ak,Af])
 have h3:=J_ h2 3 (.int .i64 0) (by simp[Ak,Af])
 have h4:=J_ h3 4 (.int .i64 0) (by simp[Ak,Af])
 exact kP h4
theorem KA (w:World) (b:Nat) (v0 v1 v2 v3 v4:Value):Beside b w (((((w.setCell ⟨b,0,none⟩ v0).setCell ⟨b,1,none⟩ v1).setCell ⟨b,2,none⟩ v2).setCell ⟨b,3,none⟩ v3).setCell ⟨b,4,none⟩ v4).drew:=
 BF ((((((Beside.refl b w).put 0 v0).put 1 v1).put 2 v2).put 3 v3).put 4 v4) (below_draws _ 1)
def Bp (w:World) (g:Dg) (e:Ending) (w':World):Prop:=
 Below w.heap.size w w'/\match g with
 | .ok p _=> ∃r,e= .returned (.tuple #[.agg (Ak r),.int .i64 0,.int .i64 0])/\DF (In w.heap.size w'.heap.size) w' r p
 | .bad b er=>er≠0/\e= .returned (.tuple #[.agg (Ak Af),.int .i64 b,.int .i64 er])
section
variable {w:World} {s:ByteArray}
theorem Qp {p:Piece} {to:Nat} (hC: ∀w b,Reader w b s 0 0->Calls Tryz.prog 72 #[.pointer (some ⟨b,0,none⟩)] w (Reads b s 0 w (.ok p to))):
    Calls Tryz.prog 43 #[.string s] w (Bp w (.ok p to)):=by
 have HC:=hid hC
 clear hC
 go_enter Tryz.func43,Tryz.ntmps43
 go_wp2_with (first
  |(refine AJ rfl rfl ?_;intro w1 b1 e1 p1 l1 z1)
  |(refine Mx rfl rfl ?_;intro w2 b2 e2 p2 l2 z2;have P2:=p1.below l2)
  |(refine M8 (s:=s) (n:=0) (m:=0) rfl (.tmp 5) (.tmp 9) rfl rfl rfl p2 ?_;intro w3 p3 l3 z3;have P3:=P2.beside l3 (by omega)))
 have R3:=hid p3
 have yt:=hid P3
 have h23:b1≠b2:=by omega
 have L3:Hid (Below w.heap.size w w3):=(l1.trans (l2.mono l1.size)).trans (l3.below (Nat.le_trans l1.size l2.size) (by omega))
 have hb1:w.heap.size<=b1:=by omega
 have hb2:w.heap.size<=b2:=by omega
 have hb3:b1<w3.heap.size:=by omega
 have hs3:Hid (w.heap.size<=w3.heap.size):=L3.out.size
 clear e1 p1 l1 z1 e2 p2 l2 z2 P2 p3 l3 z3 P3
 refine(HC.out _ _ R3.out).mono ?_
 rintro e w4 ⟨b4,r,rfl,hr,hp⟩
 have L4:Hid (Below w.heap.size w w4):=L3.out.trans (b4.below hs3.out hb2)
 have P4:=hid (yt.out.beside b4 h23)
 have A4:=hid hp
 clear b4 hr hp
 go_wp2_with (first
  |(refine AJ rfl rfl ?_;intro w5 b3 e5 p5 l5 z5)
  |(refine AB (r:=r) rfl (.tmp 6) (.tmp 12) rfl rfl rfl p5 ?_;intro w6 p6 l6 z6;have L6:=AY l5 l6 e5;have P6:=P4.out.below L6;have A6:=A4.out.CP L6)
  |(refine AU rfl (.tmp 6) rfl rfl p6 ?_)
  |(refine AB (r:=r) rfl (.tmp 2) (.tmp 20) rfl rfl rfl P6 ?_;intro w7 p7 l7 z7))
 refine Gs rfl rfl p7 rfl ?_
 exact⟨(L4.out.trans (L6.mono L4.out.size)).trans (l7.below (Nat.le_trans L4.out.size L6.size) hb1),r,rfl,(A6.Bg l7 hb3).Cs hs3.out⟩
theorem Nf {q:Nat} {er:Int} (hC: ∀w b,Reader w b s 0 0->Calls Tryz.prog 72 #[.pointer (some ⟨b,0,none⟩)] w (Reads b s 0 w (.bad q er))):
    Calls Tryz.prog 43 #[.string s] w (Bp w (.bad q er)):=by
 have HC:=hid hC
 clear hC
 go_enter Tryz.func43,Tryz.ntmps43
 go_wp2_with (first
  |(refine AJ rfl rfl ?_;intro w1 b1 e1 p1 l1 z1)
  |(refine Mx rfl rfl ?_;intro w2 b2 e2 p2 l2 z2;have P2:=p1.below l2)
  |(refine M8 (s:=s) (n:=0) (m:=0) rfl (.tmp 5) (.tmp 9) rfl rfl rfl p2 ?_;intro w3 p3 l3 z3;have P3:=P2.beside l3 (by omega)))
 have R3:=hid p3
 have yt:=hid P3
 have h23:b1≠b2:=by omega
 have L3:Hid (Below w.heap.size w w3):=(l1.trans (l2.mono l1.size)).trans (l3.below (Nat.le_trans l1.size l2.size) (by omega))
 have hb1:w.heap.size<=b1:=by omega
 have hb2:w.heap.size<=b2:=by omega
 have hs3:Hid (w.heap.size<=w3.heap.size):=L3.out.size
 clear e1 p1 l1 z1 e2 p2 l2 z2 P2 p3 l3 z3 P3
 refine(HC.out _ _ R3.out).mono ?_
 rintro e w4 ⟨b4,he,rfl,d,hr⟩
 have L4:Hid (Below w.heap.size w w4):=L3.out.trans (b4.below hs3.out hb2)
 have P4:=hid (yt.out.beside b4 h23)
 have R4:=hid hr
 have te:(er !=0)=true:=by simpa using he
 have HE:=hid he
 clear b4 hr he
 go_wp2_with (first
  |(refine AJ rfl rfl ?_;intro w5 b3 e5 p5 l5 z5)
  |(refine AB (r:=Af) rfl (.tmp 6) (.tmp 12) rfl rfl rfl p5 ?_;intro w6 p6 l6 z6;have L6:=AY l5 l6 e5;have P6:=hid (P4.out.below L6);have R6:=hid (R4.out.below L6);have ve:=hid L6;have k1:=R6.out.c1;clear e5 p5 l5 z5 p6 l6 z6 L6))
 have k2:b2<w6.heap.size:=R6.out.lt
 have fr: ∀j,w6.frozen? ⟨b1,j,none⟩=false:=fun j=>frozen_of_row w6 b1 j _ _ P6.out
 have d0:w6.cell? ⟨b1,0,none⟩=some (.int .i64 0):=cell_of_row w6 b1 0 _ _ _ P6.out
 have d1:w6.cell? ⟨b1,1,none⟩=some (.string ⟨#[]⟩):=cell_of_row w6 b1 1 _ _ _ P6.out
 have d2:w6.cell? ⟨b1,2,none⟩=some (.slice none 0 0):=cell_of_row w6 b1 2 _ _ _ P6.out
 have d3:w6.cell? ⟨b1,3,none⟩=some (.int .i64 0):=cell_of_row w6 b1 3 _ _ _ P6.out
 have d4:w6.cell? ⟨b1,4,none⟩=some (.int .i64 0):=cell_of_row w6 b1 4 _ _ _ P6.out
 have f0:=fr 0
 have f1:=fr 1
 have f2:=fr 2
 have f3:=fr 3
 have f4:=fr 4
 have hne: ¬b2=b1:=h23.symm
 have hne2: ¬b1=b2:=h23
 clear fr hs3 k2
 go_region
 all_goals (try go_wp2)
 refine Gs rfl rfl (Ri P6.out) rfl ?_
 have L7:=(L4.out.trans (ve.out.mono L4.out.size))
 exact⟨L7.trans ((KA w6 b1 _ _ _ _ _).below L7.size hb1),HE.out,rfl⟩
theorem Ff (hs:s.size<=900): ∃g,rows s.data.toList (s.data.toList.length+1) 0 0=some g/\GN s.data.toList 0 g/\ ∀w,Calls Tryz.prog 43 #[.string s] w (Bp w (fix s.data.toList 0 g)):=by
 obtain⟨g,e,hf,hc⟩:=qZ hs (s.data.toList.length+1) 0 (by omega) 0 0 (Nat.le_refl _) (Nat.zero_le _) (by omega)
 refine⟨g,e,hf,fun w=> ?_⟩
 match fix s.data.toList 0 g,hc with
 | .ok p to,hc=>exact Qp hc
 | .bad q er,hc=>exact Nf hc
end
end W14
namespace EH
open Strs Al Bv
open Cj (Piece size sizes Dg Whole)
open W14 (Raw Ea Ak Co DF FT Ad Be AZ AV AU Bi AJ AB Bp Af AY Jg KX)
open Kit (below_draws on)
section
variable {s:ByteArray} {w:World}
theorem su {q:Nat} {er:Int} (hC: ∀w,Calls Tryz.prog 43 #[.string s] w (Bp w (.bad q er))):Calls Tryz.prog 22 #[.string s] w (Fails w er):=by
 have HC:=hid hC
 clear hC
 go_enter Tryz.func22,Tryz.ntmps22
 go_wp2_with fail
 refine(HC.out _).mono ?_
 rintro e w1 ⟨l1,he,rfl⟩
 have te:(er !=0)=true:=by simpa using he
 have L1:=hid l1
 clear l1 he
 go_wp2_with (first
  |(refine AJ rfl rfl ?_;intro w3 b3 e3 p3 l3 z3)
  |(refine AB (r:=Af) rfl (.tmp 4) (.tmp 10) rfl rfl rfl p3 ?_;intro w4 p4 l4 z4;have L4:=hid (on L1.out (AY l3 l4 e3));clear e3 p3 l3 z3 p4 l4 z4))
 go_ret2
 exact⟨rfl,L4.out⟩
theorem pG {p:Piece} {to:Nat} (hs: ∀w r,Be w r p->Calls Tryz.prog 44 #[.agg (Ak r)] w (fun e w'=>e= .returned (.int .i64 (size p))/\Below w.heap.size w w')) (hz:4000<size p) (hC: ∀w,Calls Tryz.prog 43 #[.string s] w (Bp w (.ok p to))):Calls Tryz.prog 22 #[.string s] w (Fails w 21):=by
 have HC:=hid hC
 have HS:=hid hs
 obtain⟨n,hn⟩: ∃n,size p=n:=⟨_,rfl⟩
 rw[hn]at HS
 have tn:(4000:Int)<(n:Int):=by omega
 clear hC hs hz hn
 go_enter Tryz.func22,Tryz.ntmps22
 go_wp2_with fail
 refine(HC.out _).mono ?_
 rintro e w1 ⟨l1,r,rfl,hp⟩
 have L1:=hid l1
 have A1:=hid hp.low
 clear l1 hp
 go_wp2_with (first
  |(refine AJ rfl rfl ?_;intro w3 b3 e3 p3 l3 z3)
  |(refine AB (r:=r) rfl (.tmp 4) (.tmp 10) rfl rfl rfl p3 ?_;intro w4 p4 l4 z4;have eG:=hid (AY l3 l4 e3);have P4:=hid p4;clear e3 p3 l3 z3 p4 l4 z4)
  |(refine AU (r:=r) rfl (.tmp 4) rfl rfl P4.out ?_))
 refine(HS.out _ _ (A1.out.below eG.out)).mono ?_
 rintro e w5 ⟨rfl,l5⟩
 have L5:=hid (on (on L1.out eG.out) l5)
 clear l5
 go_wp2_with fail
 go_ret2
 exact⟨rfl,L5.out⟩
theorem vg {p:Piece} {to:Nat} (hs: ∀w r,Be w r p->Calls Tryz.prog 44 #[.agg (Ak r)] w (fun e w'=>e= .returned (.int .i64 (size p))/\Below w.heap.size w w')) (hz:size p<=4000) (hC: ∀w,Calls Tryz.prog 43 #[.string s] w (Bp w (.ok p to)))
    (hP: ∀w r,Be w r p->Calls Tryz.prog 45 #[.agg (Ak r)] w (Gives w (prog p))):Calls Tryz.prog 22 #[.string s] w (Gives w (prog p)):=by
 have HC:=hid hC
 have HS:=hid hs
 have HP:=hid hP
 obtain⟨n,hn⟩: ∃n,size p=n:=⟨_,rfl⟩
 rw[hn]at HS
 have tn: ¬(4000:Int)<(n:Int):=by omega
 clear hC hs hz hn hP
 go_enter Tryz.func22,Tryz.ntmps22
 go_wp2_with fail
 refine(HC.out _).mono ?_
 rintro e w1 ⟨l1,r,rfl,hp⟩
 have L1:=hid l1
 have A1:=hid hp.low
 clear l1 hp
 go_wp2_with (first
  |(refine AJ rfl rfl ?_;intro w3 b3 e3 p3 l3 z3)
  |(refine AB (r:=r) rfl (.tmp 4) (.tmp 10) rfl rfl rfl p3 ?_;intro w4 p4 l4 z4;have eG:=hid (AY l3 l4 e3);have P4:=hid p4;clear e3 p3 l3 z3 p4 l4 z4)
  |(refine AU (r:=r) rfl (.tmp 4) rfl rfl P4.out ?_))
 refine(HS.out _ _ (A1.out.below eG.out)).mono ?_
 rintro e w5 ⟨rfl,l5⟩
 have P5:=hid (P4.out.below l5)
 have A5:=hid ((A1.out.below eG.out).below l5)
 have L5:=hid (on (on L1.out eG.out) l5)
 clear l5
 go_wp2_with (first
  |(refine AU (r:=r) rfl (.tmp 4) rfl rfl P5.out ?_))
 refine(HP.out _ _ A5.out).mono ?_
 rintro e w6 ⟨v,rfl,o6,l6⟩
 have O6:=hid (o6.mono L5.out.size)
 have L6:=hid (on L5.out l6)
 clear o6 l6
 go_wp2_with fail
 go_ret2
 exact⟨v,rfl,O6.out,L6.out⟩
theorem TI {p:Piece} (h:Whole p) (hz:size p<=4000) {w:World} {r:Raw} (hl:Be w r p):Calls Tryz.prog 45 #[.agg (Ak r)] w (Gives w (prog p)):=
 Zb (fun w1 l1=>by
  have:=W14.KT h (hl.below l1)
  rw[decide_eq_true (show(size p:Int)<=4000 by omega)]at this
  exact this) (.of_whole h) hz hl
def vk (w:World) (g:Dg) (e:Ending) (w':World):Prop:=
 match g with
 | .bad _ er=>Fails w er e w'
 | .ok p _=>if size p<=4000 then Gives w (prog p) e w' else Fails w 21 e w'
def Ny:Dg->Prop
 | .ok p _=>Whole p
 | .bad _ _=>True
theorem Uc {S:List UInt8} {d:Nat} {g:Dg} (h:Cj.GN S 0 g):Ny (Cj.fix S d g):=by
 match g,h with
 | .bad _ _,_=>trivial
 | .ok p to,h=>
  simp only[Cj.fix]
  split
  ·trivial
  exact h.2.2
theorem kQ {g:Dg} (hw:Ny g) (hC: ∀w,Calls Tryz.prog 43 #[.string s] w (Bp w g)):Calls Tryz.prog 22 #[.string s] w (vk w g):=by
 match g,hw,hC with
 | .bad q er,_,hC=>exact su hC
 | .ok p to,hw,hC=>
  by_cases hz:size p<=4000
  ·refine(vg (fun w r=>KX hw w r) hz hC fun w r hl=>TI hw hz hl).mono fun e w' h=> ?_
   show ite _ _ _
   rw[if_pos hz];exact h
  refine(pG (fun w r=>KX hw w r) (by omega) hC).mono fun e w' h=> ?_
  show ite _ _ _
  rw[if_neg hz];exact h
end
end EH
namespace Jj
open Kit (Au AX BO EZ GY Ay Ci)
def lastSlash (l:List UInt8):Int:=if(47:UInt8)∈l then((l.length-1-(l.reverse.idxOf 47):Nat):Int)else-1
theorem last_at {l:List UInt8} {k:Nat} (hk:k<l.length) (h:l.getD k 0=47) (h2:(47:UInt8)∉l.drop (k+1)):lastSlash l=k:=by
 have e:l=l.take k++47::l.drop (k+1):=by
  conv=>lhs;rw[<-List.take_append_drop k l,List.drop_eq_getElem_cons hk]
  rw[List.getD_eq_getElem?_getD,List.getElem?_eq_getElem hk]at h
  simp at h
  rw[h]
 have hm:(47:UInt8)∈l:=by rw[e];simp
 have hr:l.reverse=(l.drop (k+1)).reverse++47::(l.take k).reverse:=by conv=>lhs;rw[e];simp
 have hi:l.reverse.idxOf 47=(l.drop (k+1)).length:=by
  rw[hr,List.idxOf_append,if_neg (by simpa using h2)]
  simp
 unfold lastSlash
 rw[if_pos hm,hi,List.length_drop]
 congr 1;omega
theorem Ud {l:List UInt8} (h:(47:UInt8)∉l):lastSlash l= -1:=by unfold lastSlash;rw[if_neg h]
theorem pJ (l:List UInt8): -1<=lastSlash l/\lastSlash l<=l.length:=by unfold lastSlash;split<;>omega
theorem M9 {l:List UInt8} (h:(47:UInt8)∉l.drop 0):(47:UInt8)∉l:=by simpa using h
theorem Ue {s:ByteArray} {k:Nat} (hk:k<s.size) (h:(47:UInt8)∉s.data.toList.drop (k+1)) (hc: ¬s[k]=47):(47:UInt8)∉s.data.toList.drop k:=by
 rw[Ay s k hk]
 simp only[List.mem_cons,not_or]
 exact⟨fun e=>hc e.symm,h⟩
theorem Xq (s:ByteArray) (hs:s.size<=1125899906842624) (w:World):Calls Tryz.prog 84 #[.string s,.int .u8 47] w fun e w'=>e= .returned (.int .i64 (lastSlash s.data.toList))/\w'=w:=by
 have H:Hid (∀w:World,Calls Tryz.prog 119 #[.string s,.int .u8 47] w fun e w'=>e= .returned (.int .i64 (lastSlash s.data.toList))/\w'=w):=by
  show∀w:World,_
  intro w
  have HL:Hid (∀k:Nat,(hk:k<s.size)->s[k]=47->(47:UInt8)∉s.data.toList.drop (k+1)->lastSlash s.data.toList=k):=by
   show∀k:Nat,(hk:k<s.size)->s[k]=47->(47:UInt8)∉s.data.toList.drop (k+1)->lastSlash s.data.toList=k
   intro k hk h1 h2
   exact last_at (by rw[<-Lib.size_eq];exact hk) (by rw[Kit.CO s k hk];exact h1) h2
  have HN:Hid ((47:UInt8)∉s.data.toList.drop 0->lastSlash s.data.toList= -1):=fun h=>Ud (M9 h)
  have HM:=hid (fun(k:Nat)=> @Ue s k)
  have H0:Hid ((47:UInt8)∉s.data.toList.drop s.size):=by
   show(47:UInt8)∉s.data.toList.drop s.size
   rw[Ci s s.size (Nat.lt_irrefl _)];simp
  generalize lastSlash s.data.toList=r at*
  go_enter Tryz.func119,Tryz.ntmps119
  go_wp2
  go_loop [5] (fun i=> ∃k:Nat,k<=s.size/\i= .int .i64 ((k:Int)-1)/\Hid ((47:UInt8)∉s.data.toList.drop k)) (fun i=>(intOf i+1).toNat)
  case atStart=>exact⟨s.size,Nat.le_refl _,rfl,H0⟩
  case round=>
   obtain⟨k,hk,rfl,hd⟩:=hrel
   cases k with
   |zero=>
    have HX:Hid (r= -1):=HN.out hd.out
    clear HL HN HM H0 hd
    go_wp2
    go_ret
    exact⟨BO HX.out.symm,rfl⟩
   |succ k=>
    have e1:((k+1:Nat):Int)-1=k:=by omega
    rw[e1]
    have hlt:k<s.size:=hk
    clear e1
    by_cases h47:(s[k].toNat:Int)=47
    ·have HX:Hid (r=k):=HL.out k hlt (EZ (d:=47) h47) hd.out
     have t47:((s[k].toNat:Int)==47)=true:=by simp[h47]
     clear h47 HL HN HM H0 hd
     go_wp2
     go_ret
     exact⟨BO HX.out.symm,rfl⟩
    have HX:Hid ((47:UInt8)∉s.data.toList.drop k):=HM.out k hlt hd.out (GY (d:=47) h47)
    have t47:((s[k].toNat:Int)==47)=false:=by simp[h47]
    clear h47 HL HN HM H0 hd
    go_wp2
    go_round
    case rel=>exact⟨k,by omega,rfl,HX⟩
    case measure=>simp[intOf]
 go_enter Tryz.func84,Tryz.ntmps84
 go_wp2_with fail
 refine(H.out _).mono ?_
 rintro e w1 ⟨rfl,rfl⟩
 go_wp2_with fail
 go_ret
 exact⟨rfl,rfl⟩
theorem Uf (d:ByteArray) (k:Nat) (hk:k<d.size):(Lib.strCells d)[k]? =some (.int .u8 (d[k].toNat:Int)):=by
 have h2:k<d.data.toList.length:=by rw[<-Lib.size_eq];exact hk
 unfold Lib.strCells
 rw[List.getElem?_map,List.getElem?_eq_getElem h2]
 rfl
theorem Xr (g k:Nat):(⟨g,0,none⟩:Addr).add k=⟨g,k,none⟩:=by unfold Addr.add;split<;>simp_all
theorem Zo (g n cap base:Nat) (d:ByteArray) (hd:d.size=n) (hc:n<=cap) (hm:cap<=maxLen) (w:World) (hr:w.ownsRow base 5 1 (.slice (some ⟨g,0,none⟩) n cap) n (Lib.strCells d)):
    Calls Tryz.prog 118 #[.slice (some ⟨g,0,none⟩) n cap,.int .u8 47] w fun e w'=>e= .returned (.int .i64 (lastSlash d.data.toList))/\ ∃m,w'=w.drewN m:=by
 subst hd
 unfold maxLen at hm
 have HC:Hid (∀k:Nat,(hk:k<d.size)->w.cell? ⟨g,k,none⟩=some (.int .u8 (d[k].toNat:Int))):=by
  show∀k:Nat,(hk:k<d.size)->_
  intro k hk
  have:=hr.cells (g:=g) rfl k _ (Uf d k hk)
  rw[Xr]at this
  exact this
 clear hr
 have H:Hid (Calls Tryz.prog 144 #[.slice (some ⟨g,0,none⟩) d.size cap,.int .u8 47] w fun e w'=>e= .returned (.int .i64 (lastSlash d.data.toList))/\ ∃m,w'=w.drewN m):=by
  show Calls _ _ _ _ _
  have HL:Hid (∀k:Nat,(hk:k<d.size)->d[k]=47->(47:UInt8)∉d.data.toList.drop (k+1)->lastSlash d.data.toList=k):=by
   show∀k:Nat,(hk:k<d.size)->d[k]=47->(47:UInt8)∉d.data.toList.drop (k+1)->lastSlash d.data.toList=k
   intro k hk h1 h2
   exact last_at (by rw[<-Lib.size_eq];exact hk) (by rw[Kit.CO d k hk];exact h1) h2
  have HN:Hid ((47:UInt8)∉d.data.toList.drop 0->lastSlash d.data.toList= -1):=fun h=>Ud (M9 h)
  have HM:=hid (fun(k:Nat)=> @Ue d k)
  have H0:Hid ((47:UInt8)∉d.data.toList.drop d.size):=by
   show(47:UInt8)∉d.data.toList.drop d.size
   rw[Ci d d.size (Nat.lt_irrefl _)];simp
  generalize lastSlash d.data.toList=r at*
  go_enter Tryz.func144,Tryz.ntmps144
  go_wp2
  go_loopw [5] (fun i wr=> ∃k m:Nat,k<=d.size/\i= .int .i64 ((k:Int)-1)/\wr=w.drewN m/\Hid ((47:UInt8)∉d.data.toList.drop k)) (fun i _=>(intOf i+1).toNat)
  case atStart=>exact⟨d.size,0,Nat.le_refl _,rfl,rfl,H0⟩
  case round=>
   obtain⟨k,m,hk,rfl,rfl,hd⟩:=hrel
   cases k with
   |zero=>
    have HX:Hid (r= -1):=HN.out hd.out
    clear HL HN HM H0 hd
    go_wp2
    go_ret
    exact⟨BO HX.out.symm,m,rfl⟩
   |succ k=>
    have e1:((k+1:Nat):Int)-1=k:=by omega
    rw[e1]
    have hlt:k<d.size:=hk
    have hcell:=HC.out k hlt
    clear e1
    by_cases h47:(d[k].toNat:Int)=47
    ·have HX:Hid (r=k):=HL.out k hlt (EZ (d:=47) h47) hd.out
     have t47:((d[k].toNat:Int)==47)=true:=by simp[h47]
     clear h47 HL HN HM H0 hd
     go_wp2
     go_ret
     exact⟨BO HX.out.symm,_,rfl⟩
    have HX:Hid ((47:UInt8)∉d.data.toList.drop k):=HM.out k hlt hd.out (GY (d:=47) h47)
    have t47:((d[k].toNat:Int)==47)=false:=by simp[h47]
    clear h47 HL HN HM H0 hd
    go_wp2
    go_roundw
    case rel=>exact⟨k,_,by omega,rfl,rfl,HX⟩
    case measure=>simp[intOf]
 go_enter Tryz.func118,Tryz.ntmps118
 go_wp2_with fail
 refine(H.out).mono ?_
 rintro e w1 ⟨rfl,m,rfl⟩
 go_wp2_with fail
 go_ret
 exact⟨rfl,m,rfl⟩
end Jj
namespace Jj
open Range Ki
open Kit (Ae CL BM Br CF)
def flat (L:List Bytes):Bytes:=L.flatMap (fun p=>47::p)
theorem Ef (L:List Bytes) (p:Bytes):flat (L++ [p])=flat L++47::p:=by unfold flat;rw[List.flatMap_append];simp
def Hd (pre:List ByteArray):List Bytes:=pre.map fun x=>x.data.toList
def FN (pre:List ByteArray):Bytes:=flat (DD (Hd pre))
theorem Lp (pre:List ByteArray) (x:ByteArray):Hd (pre++ [x])=Hd pre++ [x.data.toList]:=by unfold Hd;rw[List.map_append];rfl
theorem Oz (L:List Bytes) (p:Bytes):DD (L++ [p])=Ei (DD L) p:=by rw[Si];rfl
theorem kT {pre:List ByteArray} {x:ByteArray} (h:x.data.toList≠ [46,46]):FN (pre++ [x])=FN pre++47::x.data.toList:=by
 unfold FN;rw[Lp,Oz,Ei,if_neg h,Ef]
theorem eH {L:List Bytes} (h: ∀p∈L,Part p):(flat L).take (max 0 (lastSlash (flat L))).toNat=flat L.dropLast:=by
 rcases List.eq_nil_or_concat L with rfl|⟨o,p,rfl⟩
 ·rfl
 rw[List.concat_eq_append]at*
 have hp:=(h p (by simp)).1
 have e:lastSlash (flat (o++ [p]))=((flat o).length:Int):=by
  refine last_at ?_ ?_ ?_
  ·rw[Ef];simp
  ·rw[Ef,List.getD_eq_getElem?_getD,List.getElem?_append_right (Nat.le_refl _)];simp
  rw[Ef,List.drop_append,List.drop_of_length_le (Nat.le_succ _)];simpa using hp
 rw[e,List.dropLast_concat,Ef,show(max 0 ((flat o).length:Int)).toNat=(flat o).length by omega,List.take_left]
theorem PH {pre:List ByteArray} {s:ByteArray} (h:pre<+:partsOf s): ∀p∈Hd pre,Part p:=by
 intro p hp
 unfold Hd at hp
 obtain⟨x,hx,rfl⟩:=List.mem_map.1 hp
 have hm:=h.subset hx
 unfold partsOf at hm
 obtain⟨q,hq,rfl⟩:=List.mem_map.1 hm
 exact NQ _ q hq
theorem Zp {pre:List ByteArray} {x s:ByteArray} (hp:pre<+:partsOf s) (h:x.data.toList= [46,46]):FN (pre++ [x])=(FN pre).take (max 0 (lastSlash (FN pre))).toNat:=by
 unfold FN
 rw[Lp,Oz,Ei,if_pos h,eH (fun p hm=>(Kw (PH hp) p hm).1)]
theorem Xt {pre:List ByteArray} {s:ByteArray} (h:pre<+:partsOf s):total (Hd pre)<=s.size+1:=by
 obtain⟨t,ht⟩:=h
 have h1:=Hu s.data.toList
 have e:Hd (partsOf s)=parts s.data.toList:=WK _
 rw[<-e,<-ht,show Hd (pre++t)=Hd pre++Hd t from List.map_append,FE]at h1
 rw[Lib.size_eq];omega
theorem kU {pre:List ByteArray} {x s:ByteArray} (h:pre++ [x]<+:partsOf s):(FN pre).length+(x.size+1)<=s.size+1:=by
 have h1:=Xt h
 have h2:=JC (Hd pre) []
 rw[Lp,FE]at h1
 unfold FN
 rw[show(flat (DD (Hd pre))).length=total (DD (Hd pre))from Ky _]
 have e:total [x.data.toList]=x.size+1:=by rw[Lib.size_eq];rfl
 have e2:total ([]:List Bytes)=0:=rfl
 unfold DD
 omega
theorem pK (s:ByteArray):FN (partsOf s)=flat (DD (parts s.data.toList)):=by unfold FN;rw[show Hd (partsOf s)=parts s.data.toList from WK _]
theorem Zq {s d:ByteArray} (h:d.data.toList=clean s.data.toList):(FN (partsOf s)= []/\d=⟨#[47]⟩)\/(FN (partsOf s)≠ []/\d.data.toList=FN (partsOf s)):=by
 rw[pK]
 unfold clean text at h
 by_cases e:DD (parts s.data.toList)= []
 ·left
  rw[if_pos e]at h
  exact⟨by rw[e];rfl,BM h⟩
 right
 rw[if_neg e]at h
 refine⟨?_,h⟩
 cases hc:DD (parts s.data.toList)with
 |nil=>exact absurd hc e
 |cons p q=>simp[flat]
/-! a row of bytes of one's own -/
def Buf (W:World) (base g cap:Nat) (d:ByteArray):Prop:=W.ownsRow base 5 1 (.slice (some ⟨g,0,none⟩) d.size cap) d.size (Lib.strCells d)
theorem M_ {T:Nat->Prop} {A B:World} {base g cap:Nat} {d:ByteArray} (h:Buf A base g cap d) (ht:AP T A B) (hg: ¬T g):Buf B base g cap d:=by
 refine⟨h.1,?_⟩
 rcases h.2 with⟨h0,_⟩|⟨g',cap',cur,e1,hb,hh,rest⟩
 ·cases h0
 cases e1
 exact Or.inr ⟨g,cap,cur,rfl,hb,ht.keeps hh hg,rest⟩
theorem pM {W:World} {base g cap k:Nat} {d:ByteArray} (h:Buf W base g cap d) (hk:k<=d.size):Buf W base g cap (d.extract 0 k):=by
 have e:(d.extract 0 k).size=k:=by rw[ByteArray.size_extract];omega
 have e2:Lib.strCells (d.extract 0 k)=(Lib.strCells d).take k:=by unfold Lib.strCells;rw[Br,List.map_take]
 unfold Buf
 rw[e,e2]
 obtain⟨h1,h2⟩:=h
 refine⟨by rw[List.length_take,Lib.strCells_length];omega,?_⟩
 rcases h2 with⟨h0,_⟩|⟨g',cap',cur,e1,hb,hh,hn,hm,hs,ht⟩
 ·cases h0
 cases e1
 refine Or.inr ⟨g,cap,cur,rfl,hb,hh,by omega,hm,hs,?_⟩
 rw[<-ht,List.take_take]
 congr 1;omega
theorem kV {W:World} {base g cap n:Nat} {d x:ByteArray} {xs:List Value} (h:W.ownsRow base 5 1 (.slice (some ⟨g,0,none⟩) n cap) n xs) (hn:n=(d++x).size) (hx:xs=Lib.strCells d++Lib.strCells x):Buf W base g cap (d++x):=by
 unfold Buf
 have e:Lib.strCells (d++x)=Lib.strCells d++Lib.strCells x:=by unfold Lib.strCells;rw[CF,List.map_append]
 rw[e,<-hx,<-hn];exact h
theorem Xu {W:World} {base g cap:Nat} {d:ByteArray} (h:Buf W base g cap d):d.size<=cap/\cap<=maxLen:=by
 rcases h.2 with⟨h0,_⟩|⟨g',cap',cur,e1,hb,hh,hn,hm,hs,ht⟩
 ·cases h0
 cases e1;exact⟨hn,hm⟩
theorem kW {W:World} {base g cap:Nat} {d:ByteArray} (h:Buf W base g cap d):(convert 53 9 (.slice (some ⟨g,0,none⟩) d.size cap)).run Tryz.prog W= .ok (.string d) W:=by
 have h2:=run_convert_bytes_back (P:=Tryz.prog) W 53 9 5 ⟨g,0,none⟩ cap d.data.toList Tryz.underlying53 Tryz.underlying5 Tryz.underlying9 (fun j hj=>by
  have hj2:j<d.size:=by rw[Lib.size_eq];exact hj
  exact h.cells (g:=g) rfl j _ (Uf d j hj2))
 rw[<-Lib.size_eq,Ae]at h2
 exact h2
theorem Rk {F:Fence} {n:Nat} {P:Program} (w:World) {ops:Array Oper} {rest:List Oper} {o:Oper} {a:Act} {Q:Exit->Act->World->Prop}
    (hg:o.guard=none) (s x:Operand) (t u:TypeId) (hop:o.op=Op.call {callee:=Callee.builtin Builtin.append,args:= #[s,x],argTypes:= #[t,u]})
    (base:Nat) (e:TypeId) (i:TypeInfo) (h1:P.underlying t=some (.slice e)) (hu:P.underlying u=some .string) (h2:P.info? e=some i) (h4:i.size=1)
    (p:Option Addr) (k cap:Nat) (xs:List Value) (hs:a.eval s= .slice p k cap) (hown:w.ownsRow base e 1 (.slice p k cap) k xs) (str:ByteArray) (hx:a.eval x= .string str) (hc:0<cap) (hroom:k+str.size<=cap)
    (hK: ∀w',w'.ownsRow base e 1 (.slice p (k+str.size) cap) (k+str.size) (xs++Lib.strCells str)->w.grownBy w' (Value.ownBlock (.slice p k cap))->wpListIn F n P ops Q rest (a.put o.dst (.slice p (k+str.size) cap)) w'):
    wpListIn F n P ops Q (o::rest) a w:=by
 refine wpListIn_plain hg fun K hK'=> ?_
 obtain⟨w',hrun,r1,r2⟩:=Lib.run_append_fits_string (P:=P) w base t u o.type e i h1 hu h2 h4 p k cap xs hown str hc hroom
 unfold Oper.wpIn
 refine⟨?_,?_⟩
 ·simp[Oper.about,hop,resolve,Target.leads,Sem.run_pure]
 rw[Oper.semAt_plain F _ _ (by rw[hop];intro c hc';cases hc')]
 simp[execOp,hop,resolve,invoke,builtin,hs,hx,hrun,Result.andThen]
 exact hK' _ _ (hK w' r1 r2)
theorem Rl {W A w1:World} {B g:Nat} {t:TypeId} {v:Value} (v':Value) (hv:Boxed W B t v) (hA:AP (fun _=>False) W A) (hg:A.grownBy w1 (some g)) (hne:B≠g):
    Boxed w1 B t v/\Boxed (w1.setCell ⟨B,0,none⟩ v') B t v'/\AP (fun k=>k=B\/k=g) W (w1.setCell ⟨B,0,none⟩ v')/\AP (fun k=>k=B) w1 (w1.setCell ⟨B,0,none⟩ v'):=by
 have hv1:Boxed w1 B t v:=(Boxed.kept (hA.keeps hv id) hg (by simpa using hne))
 exact⟨hv1,hv1.set v',(((hA.wider fun _ h=>h.elim).trans (AP.Jm hg (fun r e=>by cases e;exact Or.inr rfl))).trans (AP.setCell _ (Or.inl rfl))),AP.setCell _ rfl⟩
theorem Zr (d x:ByteArray):Lib.strCells (d++x)=Lib.strCells d++Lib.strCells x:=by unfold Lib.strCells;rw[CF,List.map_append]
end Jj
end Go.Proofs.YtfgegjinhkgpbaaGreatDoor
