/-
  Texts joined, in build order, each with its own comment and its own conditions: W14Row, W14Pattern, W14Parse, W15Of, W16Is, W17Of, W04Last, W03Math.
-/
import Derived.Test.YtfgegjinhkgpbaaGreatDoorJ16
import Derived.Deep.LoopGhost
import Derived.Deep.Cut
import Derived.Test.YtfgegjinhkgpbaaGreatDoorJ15
import Derived.Test.YtfgegjinhkgpbaaGreatDoorJ13
import Derived.Test.YtfgegjinhkgpbaaGreatDoorJ01
import Derived.Test.YtfgegjinhkgpbaaGreatDoorChecked
import Derived.Lib.AppendStr
import Derived.Lib.Bytealg
import Derived.Laws.Strings
namespace Go.Proofs.YtfgegjinhkgpbaaGreatDoor
set_option maxHeartbeats 4000000
set_option maxRecDepth 100000
open Go.RowKit
open Lib (hid)
namespace W14
open Recs M14
open Row256 (Beside)
open Kit (ret_str ret_bool ret_int mk_of mk_bytes ba_ext below_draws on list_full list_ne list_none list_nil)
theorem noAtom_cases (S:List UInt8) (at_ deep:Nat):noAtom S at_ deep=(true,0)∨noAtom S at_ deep=(true,3)∨noAtom S at_ deep=(false,0):=by
 unfold noAtom
 split
 ·exact .inl rfl
 ·split
  ·split
   ·exact .inl rfl
   ·exact .inr (.inl rfl)
  ·split
   ·exact .inr (.inl rfl)
   ·split
    ·exact .inl rfl
    ·exact .inr (.inr rfl)
section
variable {R:Nat→Nat→Option Got} {S:List UInt8} {deep k at_:Nat} {acc:List Piece} {g:Got}
theorem row_end (h:stop S at_) (hr:row R S deep (k+1) at_ acc=some g):g= .ok (together 7 acc) at_:=by
 unfold row at hr
 rw[if_pos h]at hr
 injection hr with hr
 exact hr.symm
theorem row_on_bad (h: ¬stop S at_) {q:Nat} {er:Int} (hp:M14.part R S at_ deep=some (.bad q er)) (hr:row R S deep (k+1) at_ acc=some g):g= .bad q er:=by
 unfold row at hr
 rw[if_neg h,hp]at hr
 injection hr with hr
 exact hr.symm
theorem row_on_ok (h: ¬stop S at_) {p:Piece} {to:Nat} (hp:M14.part R S at_ deep=some (.ok p to)) (hr:row R S deep (k+1) at_ acc=some g):row R S deep k to (acc++ [p])=some g:=by
 unfold row at hr
 rw[if_neg h,hp]at hr
 exact hr
theorem row_stop (h:noAtom S at_ deep=(true,0)) (hr:row R S deep (k+1) at_ acc=some g):fix S deep g= .ok (together 7 acc) at_:=by
 unfold noAtom at h
 by_cases h0:at_=S.length
 ·rw[row_end (Or.inl (by omega)) hr]
  exact if_neg (by omega)
 ·rw[if_neg h0]at h
  by_cases h41:S.getD at_ 0=41
  ·rw[if_pos h41]at h
   by_cases hd:0<deep
   ·rw[row_end (Or.inr (Or.inr h41)) hr]
    exact if_neg (by omega)
   ·rw[if_neg hd]at h;simp at h
  ·rw[if_neg h41]at h
   split at h
   ·simp at h
   ·split at h
    ·rename_i h124
     rw[row_end (Or.inr (Or.inl h124)) hr]
     exact if_neg (fun q=>h41 q.2.2)
    ·simp at h
theorem row_bad (ha:at_≤S.length) (h:noAtom S at_ deep=(true,3)) (hr:row R S deep (k+1) at_ acc=some g):fix S deep g= .bad at_ 3:=by
 unfold noAtom at h
 by_cases h0:at_=S.length
 ·rw[if_pos h0]at h;simp at h
 ·rw[if_neg h0]at h
  by_cases h41:S.getD at_ 0=41
  ·rw[if_pos h41]at h
   by_cases hd:0<deep
   ·rw[if_pos hd]at h;simp at h
   ·rw[row_end (Or.inr (Or.inr h41)) hr]
    exact if_pos ⟨by omega,by omega,h41⟩
  ·rw[if_neg h41]at h
   by_cases hq:S.getD at_ 0=42∨S.getD at_ 0=43∨S.getD at_ 0=63∨S.getD at_ 0=123
   ·have hst: ¬stop S at_:=by
      rintro(q|q|q)
      ·omega
      ·rcases hq with e|e|e|e<;>(rw[e]at q;exact absurd q (by decide))
      ·exact h41 q
    have hp:M14.part R S at_ deep=some (.bad at_ 3):=by
     unfold M14.part atom
     have n: ∀c:UInt8,c=40∨c=91∨c=46∨c=94∨c=36→ ¬S.getD at_ 0=c:=by
      rintro c (e|e|e|e|e) q<;>rcases hq with f|f|f|f<;>(rw[q,e]at f;exact absurd f (by decide))
     rw[if_neg (n 40 (by simp)),if_neg (n 91 (by simp)),if_neg (n 46 (by simp)),if_neg (n 94 (by simp)),if_neg (n 36 (by simp)),if_pos hq]
    rw[row_on_bad hst hp hr];rfl
   ·rw[if_neg hq]at h
    split at h<;>simp at h
theorem row_go (ha:at_≤S.length) (h:noAtom S at_ deep=(false,0)):at_<S.length∧ ¬stop S at_∧ ¬S.getD at_ 0=42∧ ¬S.getD at_ 0=43∧ ¬S.getD at_ 0=63∧ ¬S.getD at_ 0=123:=by
 unfold noAtom at h
 by_cases h0:at_=S.length
 ·rw[if_pos h0]at h;simp at h
 ·rw[if_neg h0]at h
  by_cases h41:S.getD at_ 0=41
  ·rw[if_pos h41]at h
   split at h<;>simp at h
  ·rw[if_neg h41]at h
   by_cases hq:S.getD at_ 0=42∨S.getD at_ 0=43∨S.getD at_ 0=63∨S.getD at_ 0=123
   ·rw[if_pos hq]at h;simp at h
   ·rw[if_neg hq]at h
    by_cases h124:S.getD at_ 0=124
    ·rw[if_pos h124]at h;simp at h
    ·refine⟨by omega,?_,fun q=>hq (.inl q),fun q=>hq (.inr (.inl q)),fun q=>hq (.inr (.inr (.inl q))),fun q=>hq (.inr (.inr (.inr q)))⟩
     rintro(q|q|q)
     ·omega
     ·exact h124 q
     ·exact h41 q
end
theorem PatOk.more {s:ByteArray} {R:Nat→Nat→Option Got} {lo lo':Nat} (h:PatOk s R lo) (k:lo≤lo'):PatOk s R lo':=fun a d h1 h2 h3=>h a d (Nat.le_trans k h1) h2 h3
section
variable {e:TypeId} {base:Nat} {u w' w'':World} {v:Value} {ks:List Piece} {b:Nat}
theorem grown_beside (hb:Build e base w' v ks) (hg:w'.grownBy w'' v.ownBlock) (h0:u.heap.size≤base) (k:Beside b u w'):Beside b u w'':=by
 have hs:=grown_below hb hg
 obtain⟨g1,g2,g3,g4,-⟩:=hg
 exact⟨g1.trans k.os,g2.trans k.tape,g3.trans k.output,Nat.le_trans k.size g4,fun i hi e=>(hs i (by omega) (Nat.lt_of_lt_of_le hi k.size)).trans (k.block i hi e)⟩
theorem grown_reader {s:ByteArray} {at_ deep:Nat} (hb:Build e base w' v ks) (hg:w'.grownBy w'' v.ownBlock) (h0:b<base) (h:Reader w' b s at_ deep):Reader w'' b s at_ deep:=(grown_below hb hg b h0 h.lt).trans h
theorem grown_box {r:Raw} (hb:Build e base w' v ks) (hg:w'.grownBy w'' v.ownBlock) (h0:b<base) (h:PBox w' b r):PBox w'' b r:=(grown_below hb hg b h0 h.lt).trans h
end
section
variable {w:World} {b:Nat} {s:ByteArray} {at_ deep:Nat}
theorem row_any {R:Nat→Nat→Option Got} (hR:PatOk s R (at_+1)) (hat:at_≤s.size) (hs:s.size≤900) (hd:deep≤64) {g:Got} (hg:row R s.data.toList deep (s.data.toList.length+1) at_ []=some g) (h:Reader w b s at_ deep):
    Calls Tryz.prog 95 #[.pointer (some ⟨b,0,none⟩)] w (Reads b s deep w (fix s.data.toList deep g)):=by
 have hlen:s.data.toList.length=s.size:=(Lib.size_eq s).symm
 have hlt:=h.lt
 have H:=hid h
 have HG:=hid hg
 have HR:=hid hR
 obtain⟨G,hG⟩: ∃G,fix s.data.toList deep g=G:=⟨_,rfl⟩
 rw[hG]
 have HFX:=hid hG
 have HLEN:=hid hlen
 clear h hg hR hG hlen
 go_enter Tryz.func95,Tryz.ntmps95
 go_wp2_with (first|(refine alloc_piece rfl rfl ?_;intro w1 b1 e1 p1 l1 z1))
 have hne:b1≠b:=by omega
 have hb1:b<w1.heap.size:=by omega
 have hb2:b1<w1.heap.size:=by omega
 go_loopg [4] s.size (fun gk s4 wr=> ∃(a:Nat) (acc:List Piece),at_≤a∧a≤s.size∧acc.length≤a∧Hid (row R s.data.toList deep (gk+1) a acc=some g)∧Hid (Build 56 w1.heap.size wr s4 acc)∧Hid (Reader wr b s a deep)∧Hid (PBox wr b1 zeroR)∧Hid (Beside b w wr)∧w1.heap.size≤wr.heap.size)
 case atStart=>
  refine⟨at_,[],Nat.le_refl _,hat,Nat.zero_le _,?_,Build.nil _ _ _,H.out.below l1,p1,.of l1,Nat.le_refl _⟩
  show row R _ _ _ _ _=_
  rw[←HLEN.out];exact HG.out
 case round=>
  obtain⟨a,acc,ha0,ha1,hacc,hrow,hbuild,hrd,hbox,hbes,hsz⟩:=hrel
  have hna:=noAtom_any hrd.out ha1
  obtain⟨A,c,rfl,hA1,hA2⟩:=hbuild.out.len
  unfold maxLen at hA2
  rcases noAtom_cases s.data.toList a deep with hq|hq|hq
  ·-- the row ends
   rw[hq]at hna
   have HX:Hid (G= .ok (together 7 acc) a):=by
    unfold Hid
    rw[←HFX.out]
    exact row_stop hq hrow.out
   have HN:=hid hna
   clear hna hq
   go_wp2_with fail
   refine HN.out.mono ?_
   rintro e w2 ⟨rfl,q,rfl⟩
   have hbuild2:Hid (Build 56 w1.heap.size (wr.drewN q) (.slice A acc.length c) acc):=hbuild.out.same (Nat.le_refl _) fun _ _ _=>rfl
   have hrd2:Hid (Reader (wr.drewN q) b s a deep):=hrd
   have hbox2:Hid (PBox (wr.drewN q) b1 zeroR):=hbox
   have hbes2:Hid (Beside b w (wr.drewN q)):=beside_onto hbes.out (below_draws wr q)
   have hsz2:w1.heap.size≤(wr.drewN q).heap.size:=hsz
   clear hbuild hrd hbox hbes
   generalize wr.drewN q=w2 at*
   go_wp2_with fail
   refine(together_any 7 (by omega) hbuild2.out).mono ?_
   rintro e w3 ⟨r,rfl,hp,l3⟩
   have A3:=hid hp
   have L3:=hid l3
   have P3:=hid (hbox2.out.below l3)
   clear hp l3
   go_wp2_with (first
    |(refine store_piece (r:=r) rfl (.tmp 2) (.tmp 19) rfl rfl rfl P3.out ?_;intro w8 p8 l8 z8))
   refine end_piece2 rfl rfl p8 rfl ?_
   rw[HX.out]
   exact⟨beside_fresh (beside_onto hbes2.out L3.out) l8 (by omega),_,rfl,(hrd2.out.below L3.out).beside l8 hne.symm,(A3.out.by_beside l8 hb2).by_less l1.size⟩
  ·-- no row may end here
   rw[hq]at hna
   have HX:Hid (G= .bad a 3):=by
    unfold Hid
    rw[←HFX.out]
    exact row_bad (by rw[HLEN.out];exact ha1) hq hrow.out
   have HN:=hid hna
   clear hna hq
   go_wp2_with fail
   refine HN.out.mono ?_
   rintro e w2 ⟨rfl,q,rfl⟩
   have hrd2:Hid (Reader (wr.drewN q) b s a deep):=hrd
   have hbox2:Hid (PBox (wr.drewN q) b1 zeroR):=hbox
   have hbes2:Hid (Beside b w (wr.drewN q)):=beside_onto hbes.out (below_draws wr q)
   clear hbuild hrd hbox hbes
   generalize wr.drewN q=w2 at*
   go_wp2_with (first
    |(refine store_piece (r:=zeroR) rfl (.tmp 2) (.tmp 15) rfl rfl rfl hbox2.out ?_;intro w8 p8 l8 z8))
   refine end_piece2 rfl rfl p8 rfl ?_
   rw[HX.out]
   exact⟨beside_fresh hbes2.out l8 (by omega),by decide,rfl,_,hrd2.out.beside l8 hne.symm⟩
  ·-- a part
   rw[hq]at hna
   obtain⟨ha2,hst,n42,n43,n63,n123⟩:=row_go (by rw[HLEN.out];exact ha1) hq
   have ha3:a<s.size:=by rw[HLEN.out]at ha2;exact ha2
   rw[getD_at ha3]at n42 n43 n63 n123
   obtain⟨g0,hp0,hf0,hC⟩:=part_any (atom_any (HR.out.more (by omega)) ha3 hs hd n42 n43 n63 n123) hs
   have HN:=hid hna
   have HC:=hid hC
   clear hna hq n42 n43 n63 n123 hC ha2
   match g0,hf0,HC,hp0 with
   | .bad qb er,hf0,HC,hp0=>
    have HX:Hid (G= .bad qb er):=by
     unfold Hid
     rw[←HFX.out,row_on_bad hst hp0 hrow.out];rfl
    clear hf0 hp0 hst
    go_wp2_with fail
    refine HN.out.mono ?_
    rintro e w2 ⟨rfl,q,rfl⟩
    have hrd2:Hid (Reader (wr.drewN q) b s a deep):=hrd
    have hbox2:Hid (PBox (wr.drewN q) b1 zeroR):=hbox
    have hbes2:Hid (Beside b w (wr.drewN q)):=beside_onto hbes.out (below_draws wr q)
    have hsz2:w1.heap.size≤(wr.drewN q).heap.size:=hsz
    clear hbuild hrd hbox hbes
    generalize wr.drewN q=w2 at*
    go_wp2_with fail
    refine(HC.out _ _ hrd2.out).mono ?_
    rintro e w4 ⟨b4,he,rfl,d,hr⟩
    have B4:=hid b4
    have P4:=hid (hbox2.out.beside b4 hne)
    have H4:=hid hr
    have te:(er !=0)=true:=by simpa using he
    have HE:=hid he
    have hz:=B4.out.size
    clear b4 hr he
    go_wp2_with (first
     |(refine alloc_piece rfl rfl ?_;intro w5 c2 e5 p5 l5 z5)
     |(refine store_piece (r:=zeroR) rfl (.tmp 7) (.tmp 23) rfl rfl rfl p5 ?_;intro w6 p6 l6 z6;have L6:=hid (two_new l5 l6 e5);have P6:=hid (P4.out.below L6.out))
     |(refine store_piece (r:=zeroR) rfl (.tmp 2) (.tmp 27) rfl rfl rfl P6.out ?_;intro w7 p7 l7 z7))
    refine end_piece2 rfl rfl p7 rfl ?_
    rw[HX.out]
    exact⟨beside_fresh (hbes2.out.trans (beside_onto B4.out L6.out)) l7 (by omega),HE.out,rfl,_,(H4.out.below L6.out).beside l7 hne.symm⟩
   | .ok p to,hf0,HC,hp0=>
    have HON:=hid (row_on_ok hst hp0 hrow.out)
    have hto1:a+1≤to:=hf0.1
    have hto2:to≤s.size:=by have:=hf0.2.1;rw[HLEN.out]at this;exact this
    clear hf0 hp0 hst hrow
    go_wp2_with fail
    refine HN.out.mono ?_
    rintro e w2 ⟨rfl,q,rfl⟩
    have hbuild2:Hid (Build 56 w1.heap.size (wr.drewN q) (.slice A acc.length c) acc):=hbuild.out.same (Nat.le_refl _) fun _ _ _=>rfl
    have hrd2:Hid (Reader (wr.drewN q) b s a deep):=hrd
    have hbox2:Hid (PBox (wr.drewN q) b1 zeroR):=hbox
    have hbes2:Hid (Beside b w (wr.drewN q)):=beside_onto hbes.out (below_draws wr q)
    have hsz2:w1.heap.size≤(wr.drewN q).heap.size:=hsz
    clear hbuild hrd hbox hbes
    generalize wr.drewN q=w2 at*
    go_wp2_with fail
    refine(HC.out _ _ hrd2.out).mono ?_
    rintro e w4 ⟨b4,r,rfl,hr,hp⟩
    have B4:=hid b4
    have P4:=hid (hbox2.out.beside b4 hne)
    have U4:=hid (hbuild2.out.beside b4 hb1)
    have H4:=hid hr
    have A4:=hid hp
    have hz:=B4.out.size
    clear b4 hr hp
    go_wp2_with (first
     |(refine alloc_piece rfl rfl ?_;intro w5 c2 e5 p5 l5 z5)
     |(refine store_piece (r:=r) rfl (.tmp 7) (.tmp 23) rfl rfl rfl p5 ?_;intro w6 p6 l6 z6;have L6:=hid (two_new l5 l6 e5))
     |(refine load_piece rfl (.tmp 7) rfl rfl p6 ?_)
     |(refine slice_piece rfl (.tmp 30) rfl (r:=r) rfl ?_;intro w7 b3 e7 r7 l7 z7;have L7:=hid (L6.out.trans (l7.mono L6.out.size));have U7:=hid (U4.out.below L7.out);have A7:=hid (A4.out.by_below L7.out);have hz7:=L7.out.size)
     |(refine append_piece rfl (.tmp 29) (.tmp 31) rfl rfl rfl U7.out hbuild2.out.own_lt hsz2 (by omega) r7 A7.out (by omega) ?_;intro v' w8 U8 g8))
    have HU:=hid U8
    have HR8:=hid (grown_reader U7.out g8 hb1 (H4.out.below L7.out))
    have HP8:=hid (grown_box U7.out g8 hb2 (P4.out.below L7.out))
    have HB8:=hid (grown_beside U7.out g8 l1.size (hbes2.out.trans (beside_onto B4.out L7.out)))
    have hz8:w7.heap.size≤w8.heap.size:=by obtain⟨_,_,_,g,_⟩:=g8;exact g
    clear g8 U8
    cases gk with
    |zero=>exact absurd HON.out (by simp[row])
    |succ gk2=>
     try go_wp2_with fail
     go_roundg gk2
     case measure=>omega
     case rel=>exact⟨to,acc++ [p],by omega,hto2,by simp only[List.length_append,List.length_cons,List.length_nil];omega,HON,HU,HR8,HP8,HB8,by omega⟩
end
end W14
namespace W14
open Recs M14
open Row256 (Beside)
open Kit (ret_str ret_bool ret_int mk_of mk_bytes ba_ext below_draws on list_full list_ne list_none list_nil)
section
variable {R:Nat→Nat→Option Got} {S:List UInt8} {deep k at_:Nat} {acc:List Piece} {g:Got}
theorem rowsL_bad {g0:Got} {q:Nat} {er:Int} (hp:row R S deep (S.length+1) at_ []=some g0) (hf:fix S deep g0= .bad q er) (hr:rowsL R S deep (k+1) at_ acc=some g):fix S deep g= .bad q er:=by
 unfold rowsL at hr
 rw[hp]at hr
 match g0,hf,hr with
 | .bad b e,hf,hr=>
  simp only at hr
  injection hr with hr
  rw[←hr];exact hf
 | .ok p to,hf,hr=>
  have hf':(if deep=0∧to<S.length∧S.getD to 0=41 then Got.bad to 3 else Got.ok p to)= .bad q er:=hf
  by_cases hc:deep=0∧to<S.length∧S.getD to 0=41
  ·rw[if_pos hc]at hf'
   simp only at hr
   rw[if_pos (Or.inr (by rw[hc.2.2];decide))]at hr
   injection hr with hr
   rw[←hr,←hf']
   exact if_pos hc
  ·rw[if_neg hc]at hf';cases hf'
theorem fix_ok {g0:Got} {p:Piece} {to:Nat} (hf:fix S deep g0= .ok p to):g0= .ok p to∧ ¬(deep=0∧to<S.length∧S.getD to 0=41):=by
 match g0,hf with
 | .bad b e,hf=>cases hf
 | .ok p' to',hf=>
  have hf':(if deep=0∧to'<S.length∧S.getD to' 0=41 then Got.bad to' 3 else Got.ok p' to')= .ok p to:=hf
  by_cases hc:deep=0∧to'<S.length∧S.getD to' 0=41
  ·rw[if_pos hc]at hf';cases hf'
  ·rw[if_neg hc]at hf'
   injection hf' with h1 h2
   subst h1 h2
   exact⟨rfl,hc⟩
theorem rowsL_end {p:Piece} {to:Nat} (hp:row R S deep (S.length+1) at_ []=some (.ok p to)) (hc: ¬(deep=0∧to<S.length∧S.getD to 0=41)) (ht:to=S.length∨S.getD to 0≠124) (hr:rowsL R S deep (k+1) at_ acc=some g):fix S deep g= .ok (together 8 (acc++ [p])) to:=by
 unfold rowsL at hr
 rw[hp]at hr
 simp only at hr
 rw[if_pos ht]at hr
 injection hr with hr
 rw[←hr]
 exact if_neg hc
theorem rowsL_on {p:Piece} {to:Nat} (hp:row R S deep (S.length+1) at_ []=some (.ok p to)) (ht: ¬(to=S.length∨S.getD to 0≠124)) (hr:rowsL R S deep (k+1) at_ acc=some g):rowsL R S deep k (to+1) (acc++ [p])=some g:=by
 unfold rowsL at hr
 rw[hp]at hr
 simp only at hr
 rw[if_neg ht]at hr
 exact hr
end
theorem bar_yes {s:ByteArray} {to:Nat} (h:to<s.size) (h2:s[to]=124):Lib.hasPrefix (s.extract to s.size).data.toList [124]=true:=by
 rw[Kit.drop_bytes,Kit.drop_next s to h,h2]
 simp[Lib.hasPrefix]
theorem bar_no {s:ByteArray} {to:Nat} (h: ¬ ∃h:to<s.size,s[to]=124):Lib.hasPrefix (s.extract to s.size).data.toList [124]=false:=by
 rw[Kit.drop_bytes]
 by_cases ht:to<s.size
 ·rw[Kit.drop_next s to ht]
  have: ¬s[to]=124:=fun e=>h ⟨ht,e⟩
  have e:(124:UInt8)≠s[to]:=fun e=>this e.symm
  show((124:UInt8)==s[to]&&_)=false
  rw[beq_eq_false_iff_ne.2 e,Bool.false_and]
 ·rw[Kit.drop_end s to ht];rfl
theorem bar_true {s:ByteArray} {to:Nat} (h:Lib.hasPrefix (s.extract to s.size).data.toList [124]=true): ∃h:to<s.size,s[to]=124:=Classical.byContradiction fun q=>by rw[bar_no q]at h;cases h
theorem bar_false {s:ByteArray} {to:Nat} (h:Lib.hasPrefix (s.extract to s.size).data.toList [124]=false): ¬ ∃h:to<s.size,s[to]=124:=fun⟨a,b⟩=>by rw[bar_yes a b]at h;cases h
section
variable {w:World} {b:Nat} {s:ByteArray} {at_ deep:Nat}
theorem pattern_any {R:Nat→Nat→Option Got} (hR:PatOk s R (at_+1)) (hat:at_≤s.size) (hs:s.size≤900) (hd:deep≤64) {g:Got} (hg:rowsL R s.data.toList deep (s.data.toList.length+1) at_ []=some g) (h:Reader w b s at_ deep):
    Calls Tryz.prog 72 #[.pointer (some ⟨b,0,none⟩)] w (Reads b s deep w (fix s.data.toList deep g)):=by
 have hlen:s.data.toList.length=s.size:=(Lib.size_eq s).symm
 have hlt:=h.lt
 have H:=hid h
 have HG:=hid hg
 have HR:=hid hR
 obtain⟨G,hG⟩: ∃G,fix s.data.toList deep g=G:=⟨_,rfl⟩
 rw[hG]
 have HFX:=hid hG
 have HLEN:=hid hlen
 clear h hg hR hG hlen
 go_enter Tryz.func72,Tryz.ntmps72
 go_wp2_with (first|(refine alloc_piece rfl rfl ?_;intro w1 b1 e1 p1 l1 z1))
 have hne:b1≠b:=by omega
 have hb1:b<w1.heap.size:=by omega
 have hb2:b1<w1.heap.size:=by omega
 have hwb:w.heap.size≤b1:=by omega
 go_loopg [4] s.size (fun gk s4 wr=> ∃(a:Nat) (acc:List Piece),at_≤a∧a≤s.size∧acc.length≤a∧Hid (rowsL R s.data.toList deep (gk+1) a acc=some g)∧Hid (Build 56 w1.heap.size wr s4 acc)∧Hid (Reader wr b s a deep)∧Hid (PBox wr b1 zeroR)∧Hid (Beside b w wr)∧w1.heap.size≤wr.heap.size)
 case atStart=>
  refine⟨at_,[],Nat.le_refl _,hat,Nat.zero_le _,?_,Build.nil _ _ _,H.out.below l1,p1,.of l1,Nat.le_refl _⟩
  show rowsL R _ _ _ _ _=_
  rw[←HLEN.out];exact HG.out
 case round=>
  obtain⟨a,acc,ha0,ha1,hacc,hrow,hbuild,hrd,hbox,hbes,hsz⟩:=hrel
  obtain⟨A,c,rfl,hA1,hA2⟩:=hbuild.out.len
  unfold maxLen at hA2
  obtain⟨g0,hg0,hf0⟩:=row_fine (R:=R) (S:=s.data.toList) (deep:=deep) (lo:=a) (by rw[HLEN.out];exact hs) (fun hd2 to h1 h2=>by
   obtain⟨g,e,hf,-⟩:=HR.out to (deep+1) (by omega) (by rw[HLEN.out]at h2;exact h2) (by omega)
   exact⟨g,e,hf⟩) (s.data.toList.length+1) a [] (Nat.le_refl _) (by rw[HLEN.out];exact ha1) (by have:=HLEN.out;omega) (Nat.zero_le _) (by simp)
  have hC: ∀w b,Reader w b s a deep→Calls Tryz.prog 95 #[.pointer (some ⟨b,0,none⟩)] w (Reads b s deep w (fix s.data.toList deep g0)):=fun w b h=>row_any (HR.out.more (by omega)) ha1 hs hd hg0 h
  obtain⟨F0,hF0⟩: ∃F,fix s.data.toList deep g0=F:=⟨_,rfl⟩
  rw[hF0]at hC
  have HC:=hid hC
  clear hC
  rcases F0 with⟨p,to⟩|⟨qb,er⟩
  rotate_left
  ·skip
   have HX:Hid (G= .bad qb er):=by
    unfold Hid
    rw[←HFX.out]
    exact rowsL_bad hg0 hF0 hrow.out
   clear hf0 hF0 hg0 hrow
   go_wp2_with fail
   refine(HC.out _ _ hrd.out).mono ?_
   rintro e w4 ⟨b4,he,rfl,d,hr⟩
   have B4:=hid b4
   have P4:=hid (hbox.out.beside b4 hne)
   have H4:=hid hr
   have te:(er !=0)=true:=by simpa using he
   have HE:=hid he
   have hz:=B4.out.size
   clear b4 hr he
   go_wp2_with (first
    |(refine alloc_piece rfl rfl ?_;intro w5 c2 e5 p5 l5 z5)
    |(refine store_piece (r:=zeroR) rfl (.tmp 5) (.tmp 10) rfl rfl rfl p5 ?_;intro w6 p6 l6 z6;have L6:=hid (two_new l5 l6 e5);have P6:=hid (P4.out.below L6.out))
    |(refine store_piece (r:=zeroR) rfl (.tmp 2) (.tmp 14) rfl rfl rfl P6.out ?_;intro w7 p7 l7 z7))
   refine end_piece2 rfl rfl p7 rfl ?_
   rw[HX.out]
   exact⟨beside_fresh (hbes.out.trans (beside_onto B4.out L6.out)) l7 hwb,HE.out,rfl,_,(H4.out.below L6.out).beside l7 hne.symm⟩
  ·obtain⟨rfl,hnc⟩:=fix_ok hF0
   have hto1:a≤to:=hf0.1
   have hto2:to≤s.size:=by have:=hf0.2.1;rw[HLEN.out]at this;exact this
   have hto3:(to:Int)≤(s.size:Int):=by omega
   obtain⟨bo,hbo⟩: ∃bo,Lib.hasPrefix (s.extract to s.size).data.toList [124]=bo:=⟨_,rfl⟩
   have HQ:Hid (∀w,Calls Tryz.prog 39 #[.string (s.extract to s.size),.string ⟨#[124]⟩] w fun e w'=>e= .returned (.bool bo)∧w'=w):=fun w=>by
    have:=Tryz.strings_HasPrefix (s.extract to s.size) ⟨#[124]⟩ w
    rw[hbo]at this
    exact this
   have HBO:=hid hbo
   have HG0:=hid hg0
   have HNC:=hid hnc
   have hal0:acc.length≤1000000:=by omega
   have r4:acc.length≤to:=by omega
   have r5:at_≤to:=by omega
   clear hf0 hF0 hg0 hbo hnc hto1 ha0 ha1 hacc hA1 hA2
   go_wp2_with fail
   refine(HC.out _ _ hrd.out).mono ?_
   rintro e w4 ⟨b4,r,rfl,hr,hp⟩
   have B4:=hid b4
   have P4:=hid (hbox.out.beside b4 hne)
   have U4:=hid (hbuild.out.beside b4 hb1)
   have H4:=hid hr
   have A4:=hid hp
   have hz:=B4.out.size
   clear b4 hr hp
   go_wp2_with (first
    |(refine alloc_piece rfl rfl ?_;intro w5 c2 e5 p5 l5 z5)
    |(refine store_piece (r:=r) rfl (.tmp 5) (.tmp 10) rfl rfl rfl p5 ?_;intro w6 p6 l6 z6;have L6:=hid (two_new l5 l6 e5))
    |(refine load_piece rfl (.tmp 5) rfl rfl p6 ?_)
    |(refine slice_piece rfl (.tmp 17) rfl (r:=r) rfl ?_;intro w7 b3 e7 r7 l7 z7;have L7:=hid (L6.out.trans (l7.mono L6.out.size));have U7:=hid (U4.out.below L7.out);have A7:=hid (A4.out.by_below L7.out);have hz7:=L7.out.size)
    |(refine append_piece rfl (.tmp 16) (.tmp 18) rfl rfl rfl U7.out hbuild.out.own_lt hsz (Nat.le_trans hsz (Nat.le_trans hz hz7)) r7 A7.out hal0 ?_;intro v' w8 U8 g8;have HR8:=hid (grown_reader U7.out g8 hb1 (H4.out.below L7.out));have k0:=HR8.out.c0;have k1:=HR8.out.c1))
   have HU:=hid U8
   have HP8:=hid (grown_box U7.out g8 hb2 (P4.out.below L7.out))
   have HB8:=hid (grown_beside U7.out g8 l1.size (hbes.out.trans (beside_onto B4.out L7.out)))
   have hz8:w7.heap.size≤w8.heap.size:=by obtain⟨_,_,_,g,_⟩:=g8;exact g
   clear g8 U8
   go_quiet ((go_at_call 39;exact Calls.quiet_of_same (HQ.out _)))
   have HU2:Hid (Build 56 w1.heap.size (w8.drewN nq) v' (acc++ [p])):=HU.out.same (Nat.le_refl _) fun _ _ _=>rfl
   have HR9:Hid (Reader (w8.drewN nq) b s to deep):=HR8
   have HP9:Hid (PBox (w8.drewN nq) b1 zeroR):=HP8
   have HB9:Hid (Beside b w (w8.drewN nq)):=beside_onto HB8.out (below_draws w8 nq)
   have hz9:w8.heap.size≤(w8.drewN nq).heap.size:=Nat.le_refl _
   clear HU HR8 HP8 HB8 k0 k1
   have HSZ:Hid (w1.heap.size≤(w8.drewN nq).heap.size):=Nat.le_trans hsz (Nat.le_trans hz (Nat.le_trans hz7 hz8))
   clear hz9 hz8 hz7 hz hsz z5 z6 e5 L6 l6 L7 U7 A7 e7 z7 l7 r7 p6 l5 p5 A4 H4 U4 P4 B4
   generalize w8.drewN nq=w9 at*
   cases bo with
   |true=>
    obtain⟨hto4,hbr⟩:=bar_true HBO.out
    have hno: ¬(to=s.data.toList.length∨s.data.toList.getD to 0≠124):=by
     rintro(q|q)
     ·rw[HLEN.out]at q;exact absurd hto4 (by rw[q];exact Nat.lt_irrefl _)
     ·exact q (by rw[getD_at hto4];exact hbr)
    have HON:=hid (rowsL_on HG0.out hno hrow.out)
    have r3:(acc++ [p]).length≤to+1:=by rw[List.length_append];exact Nat.succ_le_succ r4
    have hw:wrap64 ((to:Int)+1)=((to+1:Nat):Int):=by unfold wrap64;omega
    clear hno hbr
    have k1:=HR9.out.c1
    have g1:=HR9.out.free 1
    have B10:Hid (Beside b w9 (w9.setCell ⟨b,1,none⟩ (.int .i64 ((to+1:Nat):Int)))):=beside_put _ _ _ _
    have HR10:=hid (HR9.out.put1 (to+1))
    have HP10:=hid (HP9.out.beside B10.out hne)
    have HU10:=hid (HU2.out.beside B10.out hb1)
    have HB10:=hid (HB9.out.trans B10.out)
    have HZ10:=hid B10.out.size
    have R3:=hid r3
    have R5:=hid (Nat.le_succ_of_le r5)
    have R6:=hid hto4
    clear r3 r4 r5 hal0 hto2 hto3 hto4
    cases gk with
    |zero=>exact absurd HON.out (by simp[rowsL])
    |succ gk2=>
     go_wp2_with fail
     go_roundg gk2
     case measure=>exact Nat.lt_succ_self _
     case rel=>exact⟨to+1,acc++ [p],R5.out,R6.out,R3.out,HON,HU10,HR10,HP10,HB10,Nat.le_trans HSZ.out HZ10.out⟩
   |false=>
    have HX:Hid (G= .ok (together 8 (acc++ [p])) to):=by
     unfold Hid
     rw[←HFX.out]
     refine rowsL_end HG0.out HNC.out ?_ hrow.out
     rcases Nat.lt_or_ge to s.size with q|q
     ·exact .inr fun e=>bar_false HBO.out ⟨q,by rw[getD_at q]at e;exact e⟩
     ·exact .inl (by rw[HLEN.out];exact Nat.le_antisymm hto2 q)
    have hal:(acc++ [p]).length≤1000000:=by
     rw[List.length_append]
     exact Nat.le_trans (Nat.succ_le_succ r4) (Nat.le_trans (Nat.succ_le_succ (Nat.le_trans hto2 hs)) (by decide))
    go_wp2_with fail
    refine(together_any 8 hal HU2.out).mono ?_
    rintro e w10 ⟨r10,rfl,hp,l10⟩
    have A10:=hid hp
    have L10:=hid l10
    have P10:=hid (HP9.out.below l10)
    clear hp l10
    go_wp2_with (first
     |(refine store_piece (r:=r10) rfl (.tmp 2) (.tmp 32) rfl rfl rfl P10.out ?_;intro w11 p11 l11 z11))
    refine end_piece2 rfl rfl p11 rfl ?_
    rw[HX.out]
    exact⟨beside_fresh (beside_onto HB9.out L10.out) l11 hwb,_,rfl,(HR9.out.below L10.out).beside l11 hne.symm,(A10.out.by_beside l11 hb2).by_less l1.size⟩
theorem patOk (hs:s.size≤900): ∀(n lo:Nat),s.data.toList.length<lo+n→PatOk s (rows s.data.toList n) lo
 |0,lo,h=>fun a d h1 h2 _=>by rw[←Lib.size_eq]at h;omega
 |n+1,lo,h=>fun a d h1 h2 h3=>by
  have hl:s.data.toList.length=s.size:=(Lib.size_eq s).symm
  obtain⟨g,e,hf⟩:=rows_fine (S:=s.data.toList) (by omega) (n+1) a d (by omega) (by omega)
  refine⟨g,e,hf,fun w b hr=> ?_⟩
  exact pattern_any (patOk hs n (a+1) (by omega)) h2 hs h3 (by unfold rows at e;exact e) hr
end
end W14
namespace W14
open Recs M14
open Row256 (Beside)
open Kit (ret_str ret_bool ret_int mk_of mk_bytes ba_ext below_draws on list_full list_ne list_none list_nil)
theorem reader_info:(Tryz.prog.info? 95).map (fun i=>(i.zero,i.size,i.bytes))=some (some (.agg #[.string ⟨#[]⟩,.int .i64 0,.int .i64 0]),3,32):=by kernel_rfl
theorem reader_size (s:ByteArray) (a d:Nat):(Tryz.prog.info? 95).map (·.size)=some (#[Value.string s,.int .i64 a,.int .i64 d]:Array Value).size:=by
 obtain⟨i,hi,-,h2,-⟩:=info_parts reader_info
 rw[hi];simp[h2]
theorem zero_reader (w:World):(zeroValue 95).run Tryz.prog w= .ok (.agg #[.string ⟨#[]⟩,.int .i64 0,.int .i64 0]) w:=by
 obtain⟨i,hi,h1,-,-⟩:=info_parts reader_info
 simp[zeroValue,typeInfo,hi,h1]
section
variable {ops:Array Oper} {rest:List Oper} {o:Oper} {a:Act} {w:World} {Q:Exit→Act→World→Prop}
theorem alloc_reader (hgd:o.guard=none) (ho:o.op= .alloc 95)
    (h: ∀w' b,w.heap.size=b→Reader w' b ⟨#[]⟩ 0 0→Below w.heap.size w w'→w'.heap.size=w.heap.size+1→wpList Tryz.prog ops Q rest (a.put o.dst (.pointer (some ⟨b,0,none⟩))) w'):wpList Tryz.prog ops Q (o::rest) a w:=
 wpList_plain hgd fun _ hK=>by
  unfold Oper.wp execOp
  simp only[ho,Instr.alloc,newVar,newRow,zero_reader,Sem.run_bind,Sem.run_pure,Result.andThen_ok]
  exact hK _ _ (h _ _ rfl (heap_alloc_new w _) (below_new w _) (World.size_alloc w _))
theorem store_reader (hgd:o.guard=none) (x y:Operand) (ho:o.op= .store 95 x y) {b:Nat} {s s':ByteArray} {n m n' m':Nat} (hx:a.eval x= .pointer (some ⟨b,0,none⟩)) (hy:a.eval y= .agg #[.string s,.int .i64 n,.int .i64 m]) (hr:Reader w b s' n' m')
    (h: ∀w',Reader w' b s n m→Beside b w w'→w'.heap.size=w.heap.size→wpList Tryz.prog ops Q rest (a.put o.dst undef) w'):wpList Tryz.prog ops Q (o::rest) a w:=
 wpList_store_row hgd 95 x y ho b _ hx hy 95 _ hr (reader_size s n m) rfl (by simp[Value.oneCell'])
  (h _ (setRow_heap w b _ _ _ _ hr) ⟨rfl,rfl,rfl,by rw[setRow_size];exact Nat.le_refl _,fun k _ e=>setRow_other w b k _ e⟩ (setRow_size _ _ _))
end
theorem put_same {w:World} {b:Nat} (h:PBox w b zeroR) (j:Nat) (v:Value) (hv:(rawA zeroR).setIfInBounds j v=rawA zeroR):PBox (w.setCell ⟨b,j,none⟩ v) b zeroR:=by
 unfold PBox at*
 rw[heap_setCell_same w b j _ _ v h,hv]
theorem drew_box {w:World} {b:Nat} {r:Raw} (h:PBox w b r):PBox w.drew b r:=h
theorem put_five {w:World} {b:Nat} (h:PBox w b zeroR):PBox (((((w.setCell ⟨b,0,none⟩ (.int .i64 0)).setCell ⟨b,1,none⟩ (.string ⟨#[]⟩)).setCell ⟨b,2,none⟩ (.slice none 0 0)).setCell ⟨b,3,none⟩ (.int .i64 0)).setCell ⟨b,4,none⟩ (.int .i64 0)).drew b zeroR:=by
 have h0:=put_same h 0 (.int .i64 0) (by simp[rawA,zeroR])
 have h1:=put_same h0 1 (.string ⟨#[]⟩) (by simp[rawA,zeroR])
 have h2:=put_same h1 2 (.slice none 0 0) (by simp[rawA,zeroR])
 have h3:=put_same h2 3 (.int .i64 0) (by simp[rawA,zeroR])
 have h4:=put_same h3 4 (.int .i64 0) (by simp[rawA,zeroR])
 exact drew_box h4
theorem beside_five (w:World) (b:Nat) (v0 v1 v2 v3 v4:Value):Beside b w (((((w.setCell ⟨b,0,none⟩ v0).setCell ⟨b,1,none⟩ v1).setCell ⟨b,2,none⟩ v2).setCell ⟨b,3,none⟩ v3).setCell ⟨b,4,none⟩ v4).drew:=
 beside_onto ((((((Beside.refl b w).put 0 v0).put 1 v1).put 2 v2).put 3 v3).put 4 v4) (below_draws _ 1)
def ParsesTo (w:World) (g:Got) (e:Ending) (w':World):Prop:=
 Below w.heap.size w w'∧match g with
 | .ok p _=> ∃r,e= .returned (.tuple #[.agg (rawA r),.int .i64 0,.int .i64 0])∧PAt (In w.heap.size w'.heap.size) w' r p
 | .bad b er=>er≠0∧e= .returned (.tuple #[.agg (rawA zeroR),.int .i64 b,.int .i64 er])
section
variable {w:World} {s:ByteArray}
theorem parse_ok {p:Piece} {to:Nat} (hC: ∀w b,Reader w b s 0 0→Calls Tryz.prog 72 #[.pointer (some ⟨b,0,none⟩)] w (Reads b s 0 w (.ok p to))):
    Calls Tryz.prog 43 #[.string s] w (ParsesTo w (.ok p to)):=by
 have HC:=hid hC
 clear hC
 go_enter Tryz.func43,Tryz.ntmps43
 go_wp2_with (first
  |(refine alloc_piece rfl rfl ?_;intro w1 b1 e1 p1 l1 z1)
  |(refine alloc_reader rfl rfl ?_;intro w2 b2 e2 p2 l2 z2;have P2:=p1.below l2)
  |(refine store_reader (s:=s) (n:=0) (m:=0) rfl (.tmp 5) (.tmp 9) rfl rfl rfl p2 ?_;intro w3 p3 l3 z3;have P3:=P2.beside l3 (by omega)))
 have R3:=hid p3
 have P3':=hid P3
 have h23:b1≠b2:=by omega
 have L3:Hid (Below w.heap.size w w3):=(l1.trans (l2.mono l1.size)).trans (l3.below (Nat.le_trans l1.size l2.size) (by omega))
 have hb1:w.heap.size≤b1:=by omega
 have hb2:w.heap.size≤b2:=by omega
 have hb3:b1<w3.heap.size:=by omega
 have hs3:Hid (w.heap.size≤w3.heap.size):=L3.out.size
 clear e1 p1 l1 z1 e2 p2 l2 z2 P2 p3 l3 z3 P3
 refine(HC.out _ _ R3.out).mono ?_
 rintro e w4 ⟨b4,r,rfl,hr,hp⟩
 have L4:Hid (Below w.heap.size w w4):=L3.out.trans (b4.below hs3.out hb2)
 have P4:=hid (P3'.out.beside b4 h23)
 have A4:=hid hp
 clear b4 hr hp
 go_wp2_with (first
  |(refine alloc_piece rfl rfl ?_;intro w5 b3 e5 p5 l5 z5)
  |(refine store_piece (r:=r) rfl (.tmp 6) (.tmp 12) rfl rfl rfl p5 ?_;intro w6 p6 l6 z6;have L6:=two_new l5 l6 e5;have P6:=P4.out.below L6;have A6:=A4.out.by_below L6)
  |(refine load_piece rfl (.tmp 6) rfl rfl p6 ?_)
  |(refine store_piece (r:=r) rfl (.tmp 2) (.tmp 20) rfl rfl rfl P6 ?_;intro w7 p7 l7 z7))
 refine end_piece3 rfl rfl p7 rfl ?_
 exact⟨(L4.out.trans (L6.mono L4.out.size)).trans (l7.below (Nat.le_trans L4.out.size L6.size) hb1),r,rfl,(A6.by_beside l7 hb3).by_less hs3.out⟩
theorem parse_bad {q:Nat} {er:Int} (hC: ∀w b,Reader w b s 0 0→Calls Tryz.prog 72 #[.pointer (some ⟨b,0,none⟩)] w (Reads b s 0 w (.bad q er))):
    Calls Tryz.prog 43 #[.string s] w (ParsesTo w (.bad q er)):=by
 have HC:=hid hC
 clear hC
 go_enter Tryz.func43,Tryz.ntmps43
 go_wp2_with (first
  |(refine alloc_piece rfl rfl ?_;intro w1 b1 e1 p1 l1 z1)
  |(refine alloc_reader rfl rfl ?_;intro w2 b2 e2 p2 l2 z2;have P2:=p1.below l2)
  |(refine store_reader (s:=s) (n:=0) (m:=0) rfl (.tmp 5) (.tmp 9) rfl rfl rfl p2 ?_;intro w3 p3 l3 z3;have P3:=P2.beside l3 (by omega)))
 have R3:=hid p3
 have P3':=hid P3
 have h23:b1≠b2:=by omega
 have L3:Hid (Below w.heap.size w w3):=(l1.trans (l2.mono l1.size)).trans (l3.below (Nat.le_trans l1.size l2.size) (by omega))
 have hb1:w.heap.size≤b1:=by omega
 have hb2:w.heap.size≤b2:=by omega
 have hs3:Hid (w.heap.size≤w3.heap.size):=L3.out.size
 clear e1 p1 l1 z1 e2 p2 l2 z2 P2 p3 l3 z3 P3
 refine(HC.out _ _ R3.out).mono ?_
 rintro e w4 ⟨b4,he,rfl,d,hr⟩
 have L4:Hid (Below w.heap.size w w4):=L3.out.trans (b4.below hs3.out hb2)
 have P4:=hid (P3'.out.beside b4 h23)
 have R4:=hid hr
 have te:(er !=0)=true:=by simpa using he
 have HE:=hid he
 clear b4 hr he
 go_wp2_with (first
  |(refine alloc_piece rfl rfl ?_;intro w5 b3 e5 p5 l5 z5)
  |(refine store_piece (r:=zeroR) rfl (.tmp 6) (.tmp 12) rfl rfl rfl p5 ?_;intro w6 p6 l6 z6;have L6:=two_new l5 l6 e5;have P6:=hid (P4.out.below L6);have R6:=hid (R4.out.below L6);have L6':=hid L6;have k1:=R6.out.c1;clear e5 p5 l5 z5 p6 l6 z6 L6))
 have k2:b2<w6.heap.size:=R6.out.lt
 have fr: ∀j,w6.frozen? ⟨b1,j,none⟩=false:=fun j=>frozen_of_row w6 b1 j _ _ P6.out
 have d0:w6.cell? ⟨b1,0,none⟩=some (.int .i64 0):=cell_of_row w6 b1 0 _ _ _ P6.out
 have d1:w6.cell? ⟨b1,1,none⟩=some (.string ⟨#[]⟩):=cell_of_row w6 b1 1 _ _ _ P6.out
 have d2:w6.cell? ⟨b1,2,none⟩=some (.slice none 0 0):=cell_of_row w6 b1 2 _ _ _ P6.out
 have d3:w6.cell? ⟨b1,3,none⟩=some (.int .i64 0):=cell_of_row w6 b1 3 _ _ _ P6.out
 have d4:w6.cell? ⟨b1,4,none⟩=some (.int .i64 0):=cell_of_row w6 b1 4 _ _ _ P6.out
 have f0:=fr 0
 have f1:=fr 1
 have f2:=fr 2
 have f3:=fr 3
 have f4:=fr 4
 have hne: ¬b2=b1:=h23.symm
 have hne2: ¬b1=b2:=h23
 clear fr hs3 k2
 go_region
 all_goals (try go_wp2)
 refine end_piece3 rfl rfl (put_five P6.out) rfl ?_
 have L7:=(L4.out.trans (L6'.out.mono L4.out.size))
 exact⟨L7.trans ((beside_five w6 b1 _ _ _ _ _).below L7.size hb1),HE.out,rfl⟩
theorem parse_any (hs:s.size≤900): ∃g,rows s.data.toList (s.data.toList.length+1) 0 0=some g∧Fine s.data.toList 0 g∧ ∀w,Calls Tryz.prog 43 #[.string s] w (ParsesTo w (fix s.data.toList 0 g)):=by
 obtain⟨g,e,hf,hc⟩:=patOk hs (s.data.toList.length+1) 0 (by omega) 0 0 (Nat.le_refl _) (Nat.zero_le _) (by omega)
 refine⟨g,e,hf,fun w=> ?_⟩
 match fix s.data.toList 0 g,hc with
 | .ok p to,hc=>exact parse_ok hc
 | .bad q er,hc=>exact parse_bad hc
end
end W14
namespace W15
open Strs Recs M15
open M14 (Piece size sizes Got Whole)
open W14 (Raw Raws rawA rawC PAt PAll PBox PLow below_new box_arg load_piece own_same alloc_piece store_piece ParsesTo zeroR two_new PSize psize_any)
open Kit (below_draws on)
theorem Gives.on {w w1 w2:World} {P:List Inst} {e:Ending} (hb:Below w.heap.size w w1) (h:Gives w1 P e w2):Gives w P e w2:=by
 obtain⟨v,rfl,h1,h2⟩:=h
 exact⟨v,rfl,h1.mono hb.size,Kit.on hb h2⟩
theorem Fails.on {w w1 w2:World} {er:Int} {e:Ending} (hb:Below w.heap.size w w1) (h:Fails w1 er e w2):Fails w er e w2:=⟨h.1,Kit.on hb h.2⟩
section
variable {s:ByteArray} {w:World}
theorem of_bad {q:Nat} {er:Int} (hC: ∀w,Calls Tryz.prog 43 #[.string s] w (ParsesTo w (.bad q er))):Calls Tryz.prog 22 #[.string s] w (Fails w er):=by
 have HC:=hid hC
 clear hC
 go_enter Tryz.func22,Tryz.ntmps22
 go_wp2_with fail
 refine(HC.out _).mono ?_
 rintro e w1 ⟨l1,he,rfl⟩
 have te:(er !=0)=true:=by simpa using he
 have L1:=hid l1
 clear l1 he
 go_wp2_with (first
  |(refine alloc_piece rfl rfl ?_;intro w3 b3 e3 p3 l3 z3)
  |(refine store_piece (r:=zeroR) rfl (.tmp 4) (.tmp 10) rfl rfl rfl p3 ?_;intro w4 p4 l4 z4;have L4:=hid (on L1.out (two_new l3 l4 e3));clear e3 p3 l3 z3 p4 l4 z4))
 go_ret2
 exact⟨rfl,L4.out⟩
theorem of_many {p:Piece} {to:Nat} (hs: ∀w r,PLow w r p→Calls Tryz.prog 44 #[.agg (rawA r)] w (fun e w'=>e= .returned (.int .i64 (size p))∧Below w.heap.size w w')) (hz:4000<size p) (hC: ∀w,Calls Tryz.prog 43 #[.string s] w (ParsesTo w (.ok p to))):Calls Tryz.prog 22 #[.string s] w (Fails w 21):=by
 have HC:=hid hC
 have HS:=hid hs
 obtain⟨n,hn⟩: ∃n,size p=n:=⟨_,rfl⟩
 rw[hn]at HS
 have tn:(4000:Int)<(n:Int):=by omega
 clear hC hs hz hn
 go_enter Tryz.func22,Tryz.ntmps22
 go_wp2_with fail
 refine(HC.out _).mono ?_
 rintro e w1 ⟨l1,r,rfl,hp⟩
 have L1:=hid l1
 have A1:=hid hp.low
 clear l1 hp
 go_wp2_with (first
  |(refine alloc_piece rfl rfl ?_;intro w3 b3 e3 p3 l3 z3)
  |(refine store_piece (r:=r) rfl (.tmp 4) (.tmp 10) rfl rfl rfl p3 ?_;intro w4 p4 l4 z4;have L34:=hid (two_new l3 l4 e3);have P4:=hid p4;clear e3 p3 l3 z3 p4 l4 z4)
  |(refine load_piece (r:=r) rfl (.tmp 4) rfl rfl P4.out ?_))
 refine(HS.out _ _ (A1.out.below L34.out)).mono ?_
 rintro e w5 ⟨rfl,l5⟩
 have L5:=hid (on (on L1.out L34.out) l5)
 clear l5
 go_wp2_with fail
 go_ret2
 exact⟨rfl,L5.out⟩
theorem of_ok {p:Piece} {to:Nat} (hs: ∀w r,PLow w r p→Calls Tryz.prog 44 #[.agg (rawA r)] w (fun e w'=>e= .returned (.int .i64 (size p))∧Below w.heap.size w w')) (hz:size p≤4000) (hC: ∀w,Calls Tryz.prog 43 #[.string s] w (ParsesTo w (.ok p to)))
    (hP: ∀w r,PLow w r p→Calls Tryz.prog 45 #[.agg (rawA r)] w (Gives w (prog p))):Calls Tryz.prog 22 #[.string s] w (Gives w (prog p)):=by
 have HC:=hid hC
 have HS:=hid hs
 have HP:=hid hP
 obtain⟨n,hn⟩: ∃n,size p=n:=⟨_,rfl⟩
 rw[hn]at HS
 have tn: ¬(4000:Int)<(n:Int):=by omega
 clear hC hs hz hn hP
 go_enter Tryz.func22,Tryz.ntmps22
 go_wp2_with fail
 refine(HC.out _).mono ?_
 rintro e w1 ⟨l1,r,rfl,hp⟩
 have L1:=hid l1
 have A1:=hid hp.low
 clear l1 hp
 go_wp2_with (first
  |(refine alloc_piece rfl rfl ?_;intro w3 b3 e3 p3 l3 z3)
  |(refine store_piece (r:=r) rfl (.tmp 4) (.tmp 10) rfl rfl rfl p3 ?_;intro w4 p4 l4 z4;have L34:=hid (two_new l3 l4 e3);have P4:=hid p4;clear e3 p3 l3 z3 p4 l4 z4)
  |(refine load_piece (r:=r) rfl (.tmp 4) rfl rfl P4.out ?_))
 refine(HS.out _ _ (A1.out.below L34.out)).mono ?_
 rintro e w5 ⟨rfl,l5⟩
 have P5:=hid (P4.out.below l5)
 have A5:=hid ((A1.out.below L34.out).below l5)
 have L5:=hid (on (on L1.out L34.out) l5)
 clear l5
 go_wp2_with (first
  |(refine load_piece (r:=r) rfl (.tmp 4) rfl rfl P5.out ?_))
 refine(HP.out _ _ A5.out).mono ?_
 rintro e w6 ⟨v,rfl,o6,l6⟩
 have O6:=hid (o6.mono L5.out.size)
 have L6:=hid (on L5.out l6)
 clear o6 l6
 go_wp2_with fail
 go_ret2
 exact⟨v,rfl,O6.out,L6.out⟩
theorem compile_whole {p:Piece} (h:Whole p) (hz:size p≤4000) {w:World} {r:Raw} (hl:PLow w r p):Calls Tryz.prog 45 #[.agg (rawA r)] w (Gives w (prog p)):=
 compile_ok (fun w1 l1=>by
  have:=W14.right_any h (hl.below l1)
  rw[decide_eq_true (show(size p:Int)≤4000 by omega)]at this
  exact this) (.of_whole h) hz hl
def OfTo (w:World) (g:Got) (e:Ending) (w':World):Prop:=
 match g with
 | .bad _ er=>Fails w er e w'
 | .ok p _=>if size p≤4000 then Gives w (prog p) e w' else Fails w 21 e w'
def WholeG:Got→Prop
 | .ok p _=>Whole p
 | .bad _ _=>True
theorem fix_whole {S:List UInt8} {d:Nat} {g:Got} (h:M14.Fine S 0 g):WholeG (M14.fix S d g):=by
 match g,h with
 | .bad _ _,_=>trivial
 | .ok p to,h=>
  simp only[M14.fix]
  split
  ·trivial
  ·exact h.2.2
theorem of_got {g:Got} (hw:WholeG g) (hC: ∀w,Calls Tryz.prog 43 #[.string s] w (ParsesTo w g)):Calls Tryz.prog 22 #[.string s] w (OfTo w g):=by
 match g,hw,hC with
 | .bad q er,_,hC=>exact of_bad hC
 | .ok p to,hw,hC=>
  by_cases hz:size p≤4000
  ·refine(of_ok (fun w r=>psize_any hw w r) hz hC fun w r hl=>compile_whole hw hz hl).mono fun e w' h=> ?_
   show ite _ _ _
   rw[if_pos hz];exact h
  ·refine(of_many (fun w r=>psize_any hw w r) (by omega) hC).mono fun e w' h=> ?_
   show ite _ _ _
   rw[if_neg hz];exact h
end
end W15
namespace W16
open Strs Recs
open M15 (Inst rightP prog steps_len)
open M14 (Piece size sizes Got Whole)
open M16 (Text yields)
open W15 (Prg insC insC_len Gives Fails)
open W14 (Raw rawA zeroR ParsesTo alloc_piece store_piece two_new)
open Kit (below_draws on)
def found (P:List Inst) (s:ByteArray):Bool:= !(yields P s.data.toList 0 s.size).isEmpty
def FailsN (w:World) (er:Int) (e:Ending) (w':World):Prop:=er≠0∧Fails w er e w'
section
variable {p s:ByteArray} {w:World}
theorem of_badN {q:Nat} {er:Int} (hC: ∀w,Calls Tryz.prog 43 #[.string p] w (ParsesTo w (.bad q er))):Calls Tryz.prog 22 #[.string p] w (FailsN w er):=by
 have HC:=hid hC
 clear hC
 go_enter Tryz.func22,Tryz.ntmps22
 go_wp2_with fail
 refine(HC.out _).mono ?_
 rintro e w1 ⟨l1,he,rfl⟩
 have te:(er !=0)=true:=by simpa using he
 have HE:=hid he
 have L1:=hid l1
 clear l1 he
 go_wp2_with (first
  |(refine alloc_piece rfl rfl ?_;intro w3 b3 e3 p3 l3 z3)
  |(refine store_piece (r:=zeroR) rfl (.tmp 4) (.tmp 10) rfl rfl rfl p3 ?_;intro w4 p4 l4 z4;have L4:=hid (on L1.out (two_new l3 l4 e3));clear e3 p3 l3 z3 p4 l4 z4))
 go_ret2
 exact⟨HE.out,rfl,L4.out⟩
theorem of_okW {P:Piece} {to:Nat} (hw:Whole P) (hz:size P≤4000) (hC: ∀w,Calls Tryz.prog 43 #[.string p] w (ParsesTo w (.ok P to))) (w:World):Calls Tryz.prog 22 #[.string p] w (Gives w (prog P)):=by
 refine(W15.of_got (w:=w) (g:= .ok P to) hw hC).mono fun e w' h=> ?_
 have h2:(if size P≤4000 then Gives w (prog P) e w' else Fails w 21 e w'):=h
 rwa[if_pos hz]at h2
theorem of_manyW {P:Piece} {to:Nat} (hw:Whole P) (hz: ¬size P≤4000) (hC: ∀w,Calls Tryz.prog 43 #[.string p] w (ParsesTo w (.ok P to))) (w:World):Calls Tryz.prog 22 #[.string p] w (FailsN w 21):=by
 refine(W15.of_got (w:=w) (g:= .ok P to) hw hC).mono fun e w' h=> ?_
 have h2:(if size P≤4000 then Gives w (prog P) e w' else Fails w 21 e w'):=h
 rw[if_neg hz]at h2
 exact⟨by decide,h2⟩
theorem prog_len {P:Piece} (hg:M15.Good P) (hz:size P≤4000):(prog P).length=size P+1:=by
 unfold prog
 rw[List.length_append,steps_len hg hz]
 rfl
end
/-! lives -/
def Yes (w:World) (e:Ending) (w':World):Prop:=e= .returned (.bool true)∧Below w.heap.size w w'
end W16
namespace W17
open Strs Recs
open M15 (Inst prog)
open M14 (Piece size Got Whole)
open W15 (Gives Fails WholeG)
open W14 (ParsesTo)
def got (p:ByteArray):Got:=match M14.rows p.data.toList (p.data.toList.length+1) 0 0 with
 |some g=>M14.fix p.data.toList 0 g
 |none=> .bad 0 3
def erG:Got→Int
 | .bad _ e=>e
 | .ok P _=>if size P≤4000 then 0 else 21
def insG:Got→List Inst
 | .bad _ _=> []
 | .ok P _=>prog P
def er (p:ByteArray):Int:=erG (got p)
def ins (p:ByteArray):List Inst:=insG (got p)
def Tells (p:ByteArray) (w:World) (e:Ending) (w':World):Prop:=(er p=0∧Gives w (ins p) e w')∨(er p≠0∧Fails w (er p) e w')
section
variable {p:ByteArray} {w:World}
theorem got_of {g:Got} (hg:M14.rows p.data.toList (p.data.toList.length+1) 0 0=some g):got p=M14.fix p.data.toList 0 g:=by
 unfold got;rw[hg]
theorem got_parse (hs:p.size≤900):WholeG (got p)∧ ∀w,Calls Tryz.prog 43 #[.string p] w (ParsesTo w (got p)):=by
 obtain⟨g,hg,hf,hC⟩:=W14.parse_any hs
 rw[got_of hg]
 exact⟨W15.fix_whole hf,hC⟩
theorem of_told (hs:p.size≤900) (w:World):Calls Tryz.prog 22 #[.string p] w (Tells p w):=by
 obtain⟨hw,hC⟩:=got_parse hs
 unfold Tells er ins
 generalize got p=G at*
 cases G with
 |bad q e=>exact(W16.of_badN hC).mono fun _ _ h=>Or.inr h
 |ok P to=>
  by_cases hz:size P≤4000
  ·exact(W16.of_okW hw hz hC w).mono fun _ _ h=>Or.inl ⟨if_pos hz,h⟩
  ·exact(W16.of_manyW hw hz hC w).mono fun _ _ h=>Or.inr (by
     show(if size P≤4000 then(0:Int)else 21)≠0∧Fails w (if size P≤4000 then(0:Int)else 21) _ _
     rw[if_neg hz];exact h)
theorem ins_len (hs:p.size≤900) (he:er p=0):(ins p).length≤4001:=by
 obtain⟨hw,-⟩:=got_parse hs
 unfold er at he
 unfold ins
 generalize got p=G at*
 cases G with
 |bad q e=>exact Nat.zero_le _
 |ok P to=>
  by_cases hz:size P≤4000
  ·have:=W16.prog_len (M15.Good.of_whole (show Whole P from hw)) hz
   show(prog P).length≤4001
   omega
  ·exact absurd he (by show(if size P≤4000 then(0:Int)else 21)≠0;rw[if_neg hz];decide)
end
end W17
namespace W04
open Kit (ret_str ret_bool ret_int byte_eq byte_ne drop_next drop_end)
def lastSlash (l:List UInt8):Int:=if(47:UInt8)∈l then((l.length-1-(l.reverse.idxOf 47):Nat):Int)else-1
theorem last_at {l:List UInt8} {k:Nat} (hk:k<l.length) (h:l.getD k 0=47) (h2:(47:UInt8)∉l.drop (k+1)):lastSlash l=k:=by
 have e:l=l.take k++47::l.drop (k+1):=by
  conv=>lhs;rw[←List.take_append_drop k l,List.drop_eq_getElem_cons hk]
  rw[List.getD_eq_getElem?_getD,List.getElem?_eq_getElem hk]at h
  simp at h
  rw[h]
 have hm:(47:UInt8)∈l:=by rw[e];simp
 have hr:l.reverse=(l.drop (k+1)).reverse++47::(l.take k).reverse:=by conv=>lhs;rw[e];simp
 have hi:l.reverse.idxOf 47=(l.drop (k+1)).length:=by
  rw[hr,List.idxOf_append,if_neg (by simpa using h2)]
  simp
 unfold lastSlash
 rw[if_pos hm,hi,List.length_drop]
 congr 1;omega
theorem last_none {l:List UInt8} (h:(47:UInt8)∉l):lastSlash l= -1:=by unfold lastSlash;rw[if_neg h]
theorem last_le (l:List UInt8): -1≤lastSlash l∧lastSlash l≤l.length:=by unfold lastSlash;split<;>omega
theorem drop_zero_no {l:List UInt8} (h:(47:UInt8)∉l.drop 0):(47:UInt8)∉l:=by simpa using h
theorem drop_more {s:ByteArray} {k:Nat} (hk:k<s.size) (h:(47:UInt8)∉s.data.toList.drop (k+1)) (hc: ¬s[k]=47):(47:UInt8)∉s.data.toList.drop k:=by
 rw[drop_next s k hk]
 simp only[List.mem_cons,not_or]
 exact⟨fun e=>hc e.symm,h⟩
theorem last_string (s:ByteArray) (hs:s.size≤1125899906842624) (w:World):Calls Tryz.prog 84 #[.string s,.int .u8 47] w fun e w'=>e= .returned (.int .i64 (lastSlash s.data.toList))∧w'=w:=by
 have H:Hid (∀w:World,Calls Tryz.prog 119 #[.string s,.int .u8 47] w fun e w'=>e= .returned (.int .i64 (lastSlash s.data.toList))∧w'=w):=by
  show∀w:World,_
  intro w
  have HL:Hid (∀k:Nat,(hk:k<s.size)→s[k]=47→(47:UInt8)∉s.data.toList.drop (k+1)→lastSlash s.data.toList=k):=by
   show∀k:Nat,(hk:k<s.size)→s[k]=47→(47:UInt8)∉s.data.toList.drop (k+1)→lastSlash s.data.toList=k
   intro k hk h1 h2
   exact last_at (by rw[←Lib.size_eq];exact hk) (by rw[Kit.byte_get s k hk];exact h1) h2
  have HN:Hid ((47:UInt8)∉s.data.toList.drop 0→lastSlash s.data.toList= -1):=fun h=>last_none (drop_zero_no h)
  have HM:=hid (fun(k:Nat)=> @drop_more s k)
  have H0:Hid ((47:UInt8)∉s.data.toList.drop s.size):=by
   show(47:UInt8)∉s.data.toList.drop s.size
   rw[drop_end s s.size (Nat.lt_irrefl _)];simp
  generalize lastSlash s.data.toList=r at*
  go_enter Tryz.func119,Tryz.ntmps119
  go_wp2
  go_loop [5] (fun i=> ∃k:Nat,k≤s.size∧i= .int .i64 ((k:Int)-1)∧Hid ((47:UInt8)∉s.data.toList.drop k)) (fun i=>(intOf i+1).toNat)
  case atStart=>exact⟨s.size,Nat.le_refl _,rfl,H0⟩
  case round=>
   obtain⟨k,hk,rfl,hd⟩:=hrel
   cases k with
   |zero=>
    have HX:Hid (r= -1):=HN.out hd.out
    clear HL HN HM H0 hd
    go_wp2
    go_ret
    exact⟨ret_int HX.out.symm,rfl⟩
   |succ k=>
    have e1:((k+1:Nat):Int)-1=k:=by omega
    rw[e1]
    have hlt:k<s.size:=hk
    clear e1
    by_cases h47:(s[k].toNat:Int)=47
    ·have HX:Hid (r=k):=HL.out k hlt (byte_eq (d:=47) h47) hd.out
     have t47:((s[k].toNat:Int)==47)=true:=by simp[h47]
     clear h47 HL HN HM H0 hd
     go_wp2
     go_ret
     exact⟨ret_int HX.out.symm,rfl⟩
    ·have HX:Hid ((47:UInt8)∉s.data.toList.drop k):=HM.out k hlt hd.out (byte_ne (d:=47) h47)
     have t47:((s[k].toNat:Int)==47)=false:=by simp[h47]
     clear h47 HL HN HM H0 hd
     go_wp2
     go_round
     case rel=>exact⟨k,by omega,rfl,HX⟩
     case measure=>simp[intOf]
 go_enter Tryz.func84,Tryz.ntmps84
 go_wp2_with fail
 refine(H.out _).mono ?_
 rintro e w1 ⟨rfl,rfl⟩
 go_wp2_with fail
 go_ret
 exact⟨rfl,rfl⟩
theorem cells_get (d:ByteArray) (k:Nat) (hk:k<d.size):(Lib.strCells d)[k]? =some (.int .u8 (d[k].toNat:Int)):=by
 have h2:k<d.data.toList.length:=by rw[←Lib.size_eq];exact hk
 unfold Lib.strCells
 rw[List.getElem?_map,List.getElem?_eq_getElem h2]
 rfl
theorem add_zero_at (g k:Nat):(⟨g,0,none⟩:Addr).add k=⟨g,k,none⟩:=by unfold Addr.add;split<;>simp_all
theorem last_bytes (g n cap base:Nat) (d:ByteArray) (hd:d.size=n) (hc:n≤cap) (hm:cap≤maxLen) (w:World) (hr:w.ownsRow base 5 1 (.slice (some ⟨g,0,none⟩) n cap) n (Lib.strCells d)):
    Calls Tryz.prog 118 #[.slice (some ⟨g,0,none⟩) n cap,.int .u8 47] w fun e w'=>e= .returned (.int .i64 (lastSlash d.data.toList))∧ ∃m,w'=w.drewN m:=by
 subst hd
 unfold maxLen at hm
 have HC:Hid (∀k:Nat,(hk:k<d.size)→w.cell? ⟨g,k,none⟩=some (.int .u8 (d[k].toNat:Int))):=by
  show∀k:Nat,(hk:k<d.size)→_
  intro k hk
  have:=hr.cells (g:=g) rfl k _ (cells_get d k hk)
  rw[add_zero_at]at this
  exact this
 clear hr
 have H:Hid (Calls Tryz.prog 144 #[.slice (some ⟨g,0,none⟩) d.size cap,.int .u8 47] w fun e w'=>e= .returned (.int .i64 (lastSlash d.data.toList))∧ ∃m,w'=w.drewN m):=by
  show Calls _ _ _ _ _
  have HL:Hid (∀k:Nat,(hk:k<d.size)→d[k]=47→(47:UInt8)∉d.data.toList.drop (k+1)→lastSlash d.data.toList=k):=by
   show∀k:Nat,(hk:k<d.size)→d[k]=47→(47:UInt8)∉d.data.toList.drop (k+1)→lastSlash d.data.toList=k
   intro k hk h1 h2
   exact last_at (by rw[←Lib.size_eq];exact hk) (by rw[Kit.byte_get d k hk];exact h1) h2
  have HN:Hid ((47:UInt8)∉d.data.toList.drop 0→lastSlash d.data.toList= -1):=fun h=>last_none (drop_zero_no h)
  have HM:=hid (fun(k:Nat)=> @drop_more d k)
  have H0:Hid ((47:UInt8)∉d.data.toList.drop d.size):=by
   show(47:UInt8)∉d.data.toList.drop d.size
   rw[drop_end d d.size (Nat.lt_irrefl _)];simp
  generalize lastSlash d.data.toList=r at*
  go_enter Tryz.func144,Tryz.ntmps144
  go_wp2
  go_loopw [5] (fun i wr=> ∃k m:Nat,k≤d.size∧i= .int .i64 ((k:Int)-1)∧wr=w.drewN m∧Hid ((47:UInt8)∉d.data.toList.drop k)) (fun i _=>(intOf i+1).toNat)
  case atStart=>exact⟨d.size,0,Nat.le_refl _,rfl,rfl,H0⟩
  case round=>
   obtain⟨k,m,hk,rfl,rfl,hd⟩:=hrel
   cases k with
   |zero=>
    have HX:Hid (r= -1):=HN.out hd.out
    clear HL HN HM H0 hd
    go_wp2
    go_ret
    exact⟨ret_int HX.out.symm,m,rfl⟩
   |succ k=>
    have e1:((k+1:Nat):Int)-1=k:=by omega
    rw[e1]
    have hlt:k<d.size:=hk
    have hcell:=HC.out k hlt
    clear e1
    by_cases h47:(d[k].toNat:Int)=47
    ·have HX:Hid (r=k):=HL.out k hlt (byte_eq (d:=47) h47) hd.out
     have t47:((d[k].toNat:Int)==47)=true:=by simp[h47]
     clear h47 HL HN HM H0 hd
     go_wp2
     go_ret
     exact⟨ret_int HX.out.symm,_,rfl⟩
    ·have HX:Hid ((47:UInt8)∉d.data.toList.drop k):=HM.out k hlt hd.out (byte_ne (d:=47) h47)
     have t47:((d[k].toNat:Int)==47)=false:=by simp[h47]
     clear h47 HL HN HM H0 hd
     go_wp2
     go_roundw
     case rel=>exact⟨k,_,by omega,rfl,rfl,HX⟩
     case measure=>simp[intOf]
 go_enter Tryz.func118,Tryz.ntmps118
 go_wp2_with fail
 refine(H.out).mono ?_
 rintro e w1 ⟨rfl,m,rfl⟩
 go_wp2_with fail
 go_ret
 exact⟨rfl,m,rfl⟩
end W04
namespace M03
open Go
def badByte (c:UInt8):Bool:=decide (c=0)||decide (c=47)
def check (l:List UInt8):Int:=if l.length=0 then 5 else if 64<l.length then 11 else if l.any badByte=true then 11 else if l= [46]∨l= [46,46]then 6 else 0
def plainByte (c:UInt8):Bool:=(decide (97≤c.toNat)&&decide (c.toNat≤122))||(decide (65≤c.toNat)&&decide (c.toNat≤90))||(decide (48≤c.toNat)&&decide (c.toNat≤57))||decide (c=46)||decide (c=95)||decide (c=43)||decide (c=45)
def plain (l:List UInt8):Bool:=decide (check l=0)&&decide (l.headD 0≠45)&&l.all plainByte
def lt (a b:List UInt8):Prop:=Lib.compareBytes a b= -1
instance (a b:List UInt8):Decidable (lt a b):=by unfold lt;infer_instance
theorem cmp_self (a:List UInt8):Lib.compareBytes a a=0:=by
 induction a with
 |nil=>rfl
 |cons c r ih=>simp only[Lib.compareBytes,UInt8.lt_irrefl,if_false,ih]
theorem lt_trans: ∀ {a b c:List UInt8},lt a b→lt b c→lt a c
 | [],[],_,h,_=>by simp[lt,Lib.compareBytes]at h
 | [],_::_,[],_,h=>by simp[lt,Lib.compareBytes]at h
 | [],_::_,_::_,_,_=>rfl
 |_::_,[],_,h,_=>by simp[lt,Lib.compareBytes]at h
 |_::_,_::_,[],_,h=>by simp[lt,Lib.compareBytes]at h
 |x::a,y::b,z::c,h1,h2=>by
  have ih:= @lt_trans a b c
  unfold lt at*
  simp only[Lib.compareBytes]at*
  by_cases xy:x<y
  ·by_cases yz:y<z
   ·rw[if_pos (UInt8.lt_trans xy yz)]
   ·rw[if_neg yz]at h2
    by_cases zy:z<y
    ·rw[if_pos zy]at h2;simp at h2
    ·have e:y=z:=UInt8.le_antisymm (UInt8.not_lt.1 zy) (UInt8.not_lt.1 yz)
     subst e;rw[if_pos xy]
  ·rw[if_neg xy]at h1
   by_cases yx:y<x
   ·rw[if_pos yx]at h1;simp at h1
   ·have e:x=y:=UInt8.le_antisymm (UInt8.not_lt.1 yx) (UInt8.not_lt.1 xy)
    subst e
    rw[if_neg yx]at h1
    by_cases yz:x<z
    ·rw[if_pos yz]
    ·rw[if_neg yz]at h2 ⊢
     by_cases zy:z<x
     ·rw[if_pos zy]at h2;simp at h2
     ·rw[if_neg zy]at h2 ⊢
      exact ih h1 h2
theorem lt_irrefl (a:List UInt8): ¬lt a a:=by unfold lt;rw[cmp_self];decide
end M03
end Go.Proofs.YtfgegjinhkgpbaaGreatDoor
