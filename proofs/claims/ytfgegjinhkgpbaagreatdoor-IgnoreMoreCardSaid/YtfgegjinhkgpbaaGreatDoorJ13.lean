/-
  Texts joined, in build order, each with its own comment and its own conditions: W16Piece, W16Next, W16Calls, W16Finds, W15Alt.
-/
import Derived.Test.YtfgegjinhkgpbaaGreatDoorJ08
import Derived.Test.YtfgegjinhkgpbaaGreatDoorJ09
import Derived.Test.YtfgegjinhkgpbaaGreatDoorJ10
import Derived.Test.YtfgegjinhkgpbaaGreatDoorJ12
import Derived.RangeFuncBox
import Derived.Maps.AppendAt
import Derived.Laws.ResultCell
import Derived.Test.YtfgegjinhkgpbaaGreatDoorTake
import Derived.Test.YtfgegjinhkgpbaaGreatDoorJ07
import Derived.Deep.LoopGhost
import Derived.Deep.RegionHeld3
import Derived.BigQuiet
namespace Go.Proofs.YtfgegjinhkgpbaaGreatDoor
set_option maxHeartbeats 4000000
set_option maxRecDepth 100000
open Go.RowKit
open Lib (hid)
namespace M16
open Go M15
open M14 (Piece size sizes leaf)
def Pow (R:Nat→Nat→Prop):Nat→Nat→Nat→Prop
 |0,q,u=>q=u
 |k+1,q,u=> ∃v,R q v∧Pow R k v u
def Rep (R:Nat→Nat→Prop) (m:Nat) (tp:Int) (q u:Nat):Prop:= ∃k,m≤k∧(tp= -1∨(k:Int)≤tp)∧Pow R k q u
def Byte (s:Text) (k:Int) (t:ByteArray) (q u:Nat):Prop:=u=q+1∧ ∃c,s[q]? =some c∧takes ⟨k-1,t,0,0⟩ c=true
mutual
def E (s:Text):Piece→Nat→Nat→Prop
 | .mk k t ks m tp,q,u=>
  if k=1 then q=u else if k=2∨k=3∨k=4 then Byte s k t q u else if k=5 then q=0∧u=0 else if k=6 then q=s.length∧u=s.length
  else if k=7 then Eseq s ks q u else if k=8 then Ealt s ks q u else if k=9 then Rep (fun q u=>Ehd s ks q u) m.toNat tp q u else False
def Eseq (s:Text):List Piece→Nat→Nat→Prop
 | [],q,u=>q=u
 |p::l,q,u=> ∃v,E s p q v∧Eseq s l v u
def Ealt (s:Text):List Piece→Nat→Nat→Prop
 | [],_,_=>False
 |p::l,q,u=>E s p q u∨Ealt s l q u
def Ehd (s:Text):List Piece→Nat→Nat→Prop
 | [],_,_=>False
 |p::_,q,u=>E s p q u
end
def Nxt (L:List Inst) (s:Text) (i u j v:Nat):Prop:=(j∈eps (ins L i) s.length u∧v=u)∨ ∃c,s[u]? =some c∧takes (ins L i) c=true∧j=(ins L i).x.toNat∧v=u+1
def Mem (a z:Nat) (I:Nat→Nat→Prop) (X:Nat→Prop) (R:Nat→Nat→Prop) (j v:Nat):Prop:=(a≤j∧j<z∧I j v)∨(j=z∧ ∃q,X q∧R q v)
def Sound (L:List Inst) (s:Text) (a z:Nat) (R:Nat→Nat→Prop):Prop:=
 ∀X:Nat→Prop,∃I:Nat→Nat→Prop,(∀q,X q→Mem a z I X R a q)∧ ∀i u j v,a≤i→i<z→I i u→Nxt L s i u j v→Mem a z I X R j v
def Full (L:List Inst) (s:Text) (a z:Nat) (R:Nat→Nat→Prop):Prop:= ∀b q v,Reach L s b a q→R q v→Reach L s b z v
structure Frag (L:List Inst) (s:Text) (a z:Nat) (R:Nat→Nat→Prop):Prop where
 sound:Sound L s a z R
 full:Full L s a z R
section
variable {L:List Inst} {s:Text} {a z m b:Nat} {R R1 R2:Nat→Nat→Prop}
theorem Frag.same (h:Frag L s a z R1) (hr: ∀q v,R1 q v↔R2 q v):Frag L s a z R2:=by
 have:R1=R2:=funext fun q=>funext fun v=>propext (hr q v)
 rwa[←this]
theorem Mem.left {I I':Nat→Nat→Prop} {X:Nat→Prop} {R':Nat→Nat→Prop} {z' j v:Nat} (h:Mem a z I X R j v) (h1: ∀j v,a≤j→j<z→I j v→Mem a z' I' X R' j v) (h2:(∃q,X q∧R q v)→Mem a z' I' X R' z v):Mem a z' I' X R' j v:=by
 rcases h with⟨h3,h4,h5⟩|⟨rfl,h3⟩
 ·exact h1 j v h3 h4 h5
 ·exact h2 h3
theorem Reach.next {i u j v:Nat} (hr:Reach L s b i u) (h:Nxt L s i u j v):Reach L s b j v:=by
 rcases h with⟨h1,rfl⟩|⟨c,h1,h2,rfl,rfl⟩
 ·exact hr.on h1
 ·exact hr.byte h1 h2
/-! a piece's steps,where they lie -/
def Lie (L:List Inst) (a:Nat) (l:List Inst):Prop:= ∀i (h:i<l.length),ins L (a+i)=l[i]
theorem Lie.left {l l':List Inst} (h:Lie L a (l++l')):Lie L a l:=fun i hi=>by
 rw[h i (by rw[List.length_append];omega),List.getElem_append_left hi]
theorem Lie.right {l l':List Inst} (h:Lie L a (l++l')):Lie L (a+l.length) l':=fun i hi=>by
 have:=h (l.length+i) (by rw[List.length_append];omega)
 rw[List.getElem_append_right (by omega)]at this
 rw[Nat.add_assoc,this]
 simp
theorem Lie.head {l:List Inst} {x:Inst} (h:Lie L a (x::l)):ins L a=x:=h 0 (by simp)
end
end M16
namespace M16
open Go M15
def nexts (x:Inst) (s:Text) (q:Nat):List Mark:=(eps x s.length q).map (fun j=>(j,q))++(match s[q]? with
 |some c=>if takes x c then[(x.x.toNat,q+1)]else[]
 |none=> [])
def flat2 (l:List Mark):List Nat:=l.flatMap fun p=> [p.1,p.2]
end M16
namespace W16
open Strs Recs
open M15 (Inst okI)
open M16 (Text nexts flat2 eps takes)
open W15 (insC insA IBox box_ins numC numC_len numC_one)
open W14 (below_new)
open Kit (below_draws on byte_test)
abbrev Nums (B:Nat) (w:World) (v:Value) (l:List Nat):Prop:=Recs numC 1 B w v l
section
variable {s:ByteArray} {q:Nat} {w:World}
end
end W16
namespace W16
open Go.Shelf Strs Recs Range
open M15 (Inst rightP)
open M16 (Text yields)
open W15 (Prg numC numC_len numC_one int_info)
open Kit (below_draws on)
attribute [local go_sem] Oper.semAt_some
theorem endsOf_any (A:Option Addr) (n c:Nat) (s:ByteArray) (f l:Nat) (w:World):Calls Tryz.prog 82 #[.slice A n c,.string s,.int .i64 f,.int .i64 l] w fun e w'=>e= .returned (.func (.func 111) #[] (caught w.heap.size))∧Caps w' w.heap.size (.slice A n c) s f l∧Below w.heap.size w w'∧w'.heap.size=w.heap.size+4:=by
 go_enter Tryz.func82,Tryz.ntmps82
 go_wp2_with fail
 go_ret
 obtain⟨w1,h1⟩: ∃w1,w.alloc (.cells #[.slice A n c] 46)=w1:=⟨_,rfl⟩
 obtain⟨w2,h2⟩: ∃w2,w1.alloc (.cells #[.string s] 9)=w2:=⟨_,rfl⟩
 obtain⟨w3,h3⟩: ∃w3,w2.alloc (.cells #[.int .i64 f] 3)=w3:=⟨_,rfl⟩
 obtain⟨w4,h4⟩: ∃w4,w3.alloc (.cells #[.int .i64 l] 3)=w4:=⟨_,rfl⟩
 have z1:w1.heap.size=w.heap.size+1:=by rw[←h1,World.size_alloc]
 have z2:w2.heap.size=w.heap.size+2:=by rw[←h2,World.size_alloc,z1]
 have z3:w3.heap.size=w.heap.size+3:=by rw[←h3,World.size_alloc,z2]
 have z4:w4.heap.size=w.heap.size+4:=by rw[←h4,World.size_alloc,z3]
 have l1:Below w.heap.size w w1:=by rw[←h1];exact W14.below_new _ _
 have l2:Below w1.heap.size w1 w2:=by rw[←h2];exact W14.below_new _ _
 have l3:Below w2.heap.size w2 w3:=by rw[←h3];exact W14.below_new _ _
 have l4:Below w3.heap.size w3 w4:=by rw[←h4];exact W14.below_new _ _
 have c1:w1.cell? ⟨w.heap.size,0,none⟩=some (.slice A n c):=by rw[←h1];exact(Boxed.new w _ _).cell
 have c2:w2.cell? ⟨w.heap.size+1,0,none⟩=some (.string s):=by rw[←z1,←h2];exact(Boxed.new w1 _ _).cell
 have c3:w3.cell? ⟨w.heap.size+2,0,none⟩=some (.int .i64 f):=by rw[←z2,←h3];exact(Boxed.new w2 _ _).cell
 have c4:w4.cell? ⟨w.heap.size+3,0,none⟩=some (.int .i64 l):=by rw[←z3,←h4];exact(Boxed.new w3 _ _).cell
 rw[h1,h2,h3,h4]
 refine⟨?_,⟨?_,?_,?_,c4⟩,on (on (on l1 l2) l3) l4,z4⟩
 ·rfl
 ·exact((on (on l2 l3) l4).cell (p:=⟨w.heap.size,0,none⟩) (by show w.heap.size<_;omega)).trans c1
 ·exact((on l3 l4).cell (p:=⟨w.heap.size+1,0,none⟩) (by show w.heap.size+1<_;omega)).trans c2
 ·exact(l4.cell (p:=⟨w.heap.size+2,0,none⟩) (by show w.heap.size+2<_;omega)).trans c3
section
variable {w:World} {lv:Value} {L:List Inst} {s:ByteArray}
end
end W16
namespace W16
open Go.Shelf Strs Recs Range
open M15 (Inst rightP)
open M16 (Text yields)
open W15 (Prg)
open Kit (below_draws on)
attribute [local go_sem] Oper.semAt_some
def Own1 (T:Nat→Prop) (W:World) (q:Nat) (t:TypeId) (v:Value):Prop:=Boxed W q t v∧ ¬T q
theorem Own1.on {T:Nat→Prop} {A B:World} {q:Nat} {t:TypeId} {v:Value} (h:Own1 T A q t v) (ht:Turns T A B):Own1 (Fresh T A B) B q t v:=
 ⟨ht.keeps h.1 h.2,fun k=>by
  rcases k with k|k
  ·exact h.2 k
  ·have:=h.1.lt;omega⟩
theorem low_on {T:Nat→Prop} {w0 A B:World} {q:Nat} (h:Below q w0 A) (hT:Lies q T A) (ht:Turns T A B) (hA:q≤A.heap.size):Below q w0 B:=h.trans (ht.below (fun k hk=>(hT k hk).1) hA)
theorem results_bool {fn:Func} {p:Tmp} (h:fn.results= #[.cell p 4]) (tmps:Array Value) (w:World) (q:Nat) (v:Value) (hp:tmps.getD p undef= .pointer (some ⟨q,0,none⟩)) (hc:w.cell? ⟨q,0,none⟩=some v):(results fn tmps).run Tryz.prog w= .ok v w:=by
 rw[Array.getD_eq_getD_getElem?]at hp
 simp only[results,h]
 simp[Sem.run_bind,Result.andThen,hp,go_sem,hc]
section
variable {w:World} {lv:Value} {L:List Inst} {s:ByteArray}
theorem search_any (h:Prg w.heap.size w lv L) (hn:L.length≤900000) (hs:s.size≤900000):Calls Tryz.prog 54 #[lv,.string s] w fun e w'=>e= .returned (.bool (!(yields L s.data.toList 0 s.size).isEmpty))∧Below w.heap.size w w':=by
 obtain⟨A,c,rfl,-,-⟩:=h.form
 have HP:=hid h
 have HN:=hid (show L.length≤900000∧s.size≤900000 from⟨hn,hs⟩)
 obtain⟨xs,hxs⟩: ∃xs,yields L s.data.toList 0 s.size=xs:=⟨_,rfl⟩
 rw[hxs]
 clear h hn hs
 refine(callsIn_wide (n:=9)).1 ?_
 refine callsIn_of_wp_marks Tryz.func54 rfl trivial ?_ rfl
 simp only[Tryz.ntmps54,List.size_toArray,List.length_cons,List.length_nil,Nat.reduceAdd,Nat.reduceSub,Array.replicate_succ,Array.replicate_zero,List.push_toArray,List.append_toArray,List.nil_append,List.cons_append]
 gi_wp2
 obtain⟨q,hq⟩: ∃q,w.heap.size=q:=⟨_,rfl⟩
 have HQ:=hid hq
 have x0:=Boxed.new w 4 (.bool false)
 have hb1:Below w.heap.size w (w.alloc (.cells #[.bool false] 4)):=W14.below_new _ _
 have hz1:(w.alloc (.cells #[.bool false] 4)).heap.size=q+1:=by rw[World.size_alloc,hq]
 generalize w.alloc (.cells #[.bool false] 4)=w1 at*
 rw[hq]at x0
 have hp1:=hid (HP.out.below hb1)
 have hx1:=hid x0
 have L1:=hid hb1
 have Z1:=hid hz1
 clear x0 hb1 hz1
 refine⟨trivial,?_⟩
 refine(callsIn_wide.2 (endsOf_any A L.length c s 0 s.size w1)).mono ?_
 rintro e w2 ⟨rfl,hcaps,hb2,hz2⟩
 rw[Z1.out]at hcaps hz2 ⊢
 have hseq:=hid (ends_seq ⟨q,q+1,.slice A L.length c,L,s,0,s.size⟩ w2 (by have h2:=hp1.out.below (hb2.mono L1.out.size);rw[HQ.out]at h2;exact h2) hcaps HN.out.1 (by show s.size≤_;have:=HN.out.2;omega) (Nat.zero_le _) (Nat.le_refl _))
 have hx2:Boxed w2 q 4 (.bool false):=(hb2.block q (by rw[Z1.out];omega)).trans hx1.out
 have hB2:=on L1.out hb2
 simp only at hseq
 rw[hxs]at hseq
 clear hcaps hp1 hx1 L1 Z1 hb2 hxs HP
 gi_wp2
 have hO:Lies q (Four (q+1)) w2:=fun k hk=>⟨by have:=hk.1;omega,by have:=hk.2;omega⟩
 have hB2':Below q w w2:=hB2.mono (by omega)
 refine wp_rangeH (gf:=111) (lb:=caught (q+1)) rfl (enters_of Tryz.func111 (by kernel_rfl) rfl) hseq.out hO (by omega) (fun _=>rfl)
  (fun T pre W=>pre= []∧Own1 T W q 4 (.bool false)∧Below q w W) (fun c T pre W=>c= .ret∧pre≠ []∧Own1 T W q 4 (.bool true)∧Below q w W)
  (fun T s A B ⟨h1,h2,h3⟩ hT hA ht=>⟨h1,h2.on ht,low_on h3 hT ht hA⟩) (fun c T s A B ⟨h0,h1,h2,h3⟩ hT hA ht=>⟨h0,h1,h2.on ht,low_on h3 hT ht hA⟩)
  ⟨rfl,⟨hx2,fun h=>by have:=h.1;omega⟩,hB2'⟩
  (fun x=> {tmps:= #[.slice A L.length c,.string s,undef,undef,.pointer (some ⟨q,0,none⟩),.slice A L.length c,.string s,.string s,.int .i64 s.size,.func (.func 111) #[] (caught (q+1)),.int .i64 x.1,.int .i64 x.2],defers:= []}) ?assign ?body ?done ?stop
 case assign=>
  intro l x W K hK
  unfold twoV
  gi_wp2
  simpa using hK
 case body=>
  rintro l T pre x W ⟨rfl,⟨hv,hTq⟩,hB⟩ hT hb hpre
  have hc:=hv.cell
  have hf:=hv.frozen
  gi_wp2
  have t2:Turns (fun k=>q≤k∧ ¬T k) W (W.setCell ⟨q,0,none⟩ (.bool true)):=Turns.setCell (a:=⟨q,0,none⟩) _ ⟨by show q≤q;omega,hTq⟩
  exact⟨t2,rfl,by simp,⟨hv.set _,hTq⟩,hB.trans (t2.below (fun k hk=>hk.1) (by have:=hv.lt;omega))⟩
 case done=>
  rintro T W ⟨hx0,⟨hv,hTq⟩,hB⟩ hT hOT hTd hK htW
  have hc:=hv.cell
  have hf:=hv.frozen
  subst hx0
  gi_wp2
  refine⟨by simp,.inl ⟨_,_,rfl,run_takeDeferred ((heap_setCell_other W ⟨q,0,none⟩ w2.heap.size (.bool false) (by show w2.heap.size≠q;omega)).trans hK),?_⟩⟩
  have h3:Below q W ((W.setCell ⟨q,0,none⟩ (.bool false)).putObj w2.heap.size (.deferred none)):=((Turns.setCell (T:=fun k=>q≤k) (a:=⟨q,0,none⟩) _ (Nat.le_refl q)).trans (Turns.putObj (T:=fun k=>q≤k) _ (by omega))).below (fun k hk=>hk) (by have:=hv.lt;omega)
  refine⟨_,results_bool rfl _ _ q (.bool false) rfl ((World.cell?_of_block (World.putObj_heap_other (by show q≠w2.heap.size;omega))).trans (hv.set (.bool false)).cell),rfl,by rw[hq];exact hB.trans h3⟩
 case stop=>
  rintro c T pre W hpre ⟨rfl,hne,⟨hv,hTq⟩,hB⟩ hT hOT hTd hK htW
  have hc:=hv.cell
  gi_wp2
  refine⟨by simp,.inl ⟨_,_,rfl,run_takeDeferred hK,?_⟩⟩
  have h3:Below q W (W.putObj w2.heap.size (.deferred none)):=(Turns.putObj (T:=fun k=>q≤k) _ (by omega)).below (fun k hk=>hk) (by have:=hB.size;omega)
  have hx:xs.isEmpty=false:=by
   cases xs with
   |nil=>exact absurd (List.prefix_nil.1 hpre) hne
   |cons x l=>rfl
  rw[hx]
  exact⟨_,results_bool rfl _ _ q (.bool true) rfl ((World.cell?_of_block (World.putObj_heap_other (by show q≠w2.heap.size;omega))).trans hc),rfl,by rw[hq];exact hB.trans h3⟩
theorem whole_any (h:Prg w.heap.size w lv L) (hn:L.length≤900000) (hs:s.size≤900000):Calls Tryz.prog 51 #[lv,.string s] w fun e w'=>e= .returned (.bool ((yields L s.data.toList 0 0).any fun y=>decide (y.2=s.size)))∧Below w.heap.size w w':=by
 obtain⟨A,c,rfl,-,-⟩:=h.form
 have HP:=hid h
 have HN:=hid (show L.length≤900000∧s.size≤900000 from⟨hn,hs⟩)
 obtain⟨xs,hxs⟩: ∃xs,yields L s.data.toList 0 0=xs:=⟨_,rfl⟩
 rw[hxs]
 clear h hn hs
 refine(callsIn_wide (n:=9)).1 ?_
 refine callsIn_of_wp_marks Tryz.func51 rfl trivial ?_ rfl
 simp only[Tryz.ntmps51,List.size_toArray,List.length_cons,List.length_nil,Nat.reduceAdd,Nat.reduceSub,Array.replicate_succ,Array.replicate_zero,List.push_toArray,List.append_toArray,List.nil_append,List.cons_append]
 obtain⟨q,hq⟩: ∃q,w.heap.size=q:=⟨_,rfl⟩
 have HQ:=hid hq
 gi_wp2
 have y0:=Boxed.new w 9 (.string s)
 have hb0:Below w.heap.size w (w.alloc (.cells #[.string s] 9)):=W14.below_new _ _
 have hz0:(w.alloc (.cells #[.string s] 9)).heap.size=q+1:=by rw[World.size_alloc,hq]
 generalize w.alloc (.cells #[.string s] 9)=w0 at*
 have x0:=Boxed.new w0 4 (.bool false)
 have hb1:Below w0.heap.size w0 (w0.alloc (.cells #[.bool false] 4)):=W14.below_new _ _
 have hz1:(w0.alloc (.cells #[.bool false] 4)).heap.size=q+2:=by rw[World.size_alloc,hz0]
 generalize w0.alloc (.cells #[.bool false] 4)=w1 at*
 rw[hq]at y0
 rw[hz0]at x0
 have hp1:=hid (HP.out.below (on hb0 hb1))
 have hx1:=hid x0
 have hy1:Hid (Boxed w1 q 9 (.string s)):=(hb1.block q (by rw[hz0];omega)).trans y0
 have L1:=hid (on hb0 hb1)
 have Z1:=hid hz1
 clear x0 y0 hb0 hz0 hb1 hz1
 refine⟨trivial,?_⟩
 refine(callsIn_wide.2 (endsOf_any A L.length c s 0 0 w1)).mono ?_
 rintro e w2 ⟨rfl,hcaps,hb2,hz2⟩
 rw[Z1.out]at hcaps hz2 ⊢
 have hseq:=hid (ends_seq ⟨q,q+2,.slice A L.length c,L,s,0,0⟩ w2 (by have h2:=hp1.out.below (hb2.mono L1.out.size);rw[HQ.out]at h2;exact h2) hcaps HN.out.1 (by show s.size≤_;have:=HN.out.2;omega) (Nat.le_refl _) (Nat.zero_le _))
 have hx2:Boxed w2 (q+1) 4 (.bool false):=(hb2.block (q+1) (by rw[Z1.out];omega)).trans hx1.out
 have hy2:Boxed w2 q 9 (.string s):=(hb2.block q (by rw[Z1.out];omega)).trans hy1.out
 have hB2:=on L1.out hb2
 simp only at hseq
 rw[hxs]at hseq
 clear hcaps hp1 hx1 hy1 L1 Z1 hb2 hxs HP
 gi_wp2
 have hO:Lies q (Four (q+2)) w2:=fun k hk=>⟨by have:=hk.1;omega,by have:=hk.2;omega⟩
 have hB2':Below q w w2:=hB2.mono (by omega)
 refine wp_rangeH (gf:=111) (lb:=caught (q+2)) rfl (enters_of Tryz.func111 (by kernel_rfl) rfl) hseq.out hO (by omega) (fun _=>rfl)
  (fun T pre W=>(∀y∈pre,y.2≠s.size)∧Own1 T W (q+1) 4 (.bool false)∧Own1 T W q 9 (.string s)∧Below q w W) (fun c T pre W=>c= .ret∧(∃y∈pre,y.2=s.size)∧Own1 T W (q+1) 4 (.bool true)∧Below q w W)
  (fun T s A B ⟨h1,h2,h4,h3⟩ hT hA ht=>⟨h1,h2.on ht,h4.on ht,low_on h3 hT ht hA⟩) (fun c T s A B ⟨h0,h1,h2,h3⟩ hT hA ht=>⟨h0,h1,h2.on ht,low_on h3 hT ht hA⟩)
  ⟨by simp,⟨hx2,fun h=>by have:=h.1;omega⟩,⟨hy2,fun h=>by have:=h.1;omega⟩,hB2'⟩
  (fun x=> {tmps:= #[.slice A L.length c,.string s,undef,.pointer (some ⟨q,0,none⟩),.pointer (some ⟨q+1,0,none⟩),undef,.int .i64 x.2,.slice A L.length c,.string s,.func (.func 111) #[] (caught (q+2)),.int .i64 x.1,.int .i64 x.2,undef,undef,undef,undef],defers:= []}) ?assign ?body ?done ?stop
 case assign=>
  intro l x W K hK
  unfold twoV
  gi_wp2
  simpa using hK
 case body=>
  rintro l T pre x W ⟨hno,⟨hv,hTq⟩,⟨hy,hTy⟩,hB⟩ hT hb hpre
  have hc:=hv.cell
  have hf:=hv.frozen
  have hyc:=hy.cell
  by_cases he:x.2=s.size
  ·have te:((x.2:Int)==(s.size:Int))=true:=by simp;omega
   gi_wp2
   have t2:Turns (fun k=>q≤k∧ ¬T k) W (W.setCell ⟨q+1,0,none⟩ (.bool true)):=Turns.setCell (a:=⟨q+1,0,none⟩) _ ⟨by show q≤q+1;omega,hTq⟩
   exact⟨t2,rfl,⟨x,by simp,he⟩,⟨hv.set _,hTq⟩,hB.trans (t2.below (fun k hk=>hk.1) (by have:=hv.lt;omega))⟩
  ·have te:((x.2:Int)==(s.size:Int))=false:=by simp;omega
   gi_wp2
   refine⟨Turns.refl _ _,fun y hy=> ?_,⟨hv,hTq⟩,⟨by assumption,hTy⟩,hB⟩
   rcases List.mem_append.1 hy with h|h
   ·exact hno y h
   ·simp at h;subst h;exact he
 case done=>
  rintro T W ⟨hno,⟨hv,hTq⟩,-,hB⟩ hT hOT hTd hK htW
  have hc:=hv.cell
  have hf:=hv.frozen
  have hx:(xs.any fun y=>decide (y.2=s.size))=false:=by
   rw[List.any_eq_false]
   intro y hy
   simpa using hno y hy
  gi_wp2
  refine⟨by simp,.inl ⟨_,_,rfl,run_takeDeferred ((heap_setCell_other W ⟨q+1,0,none⟩ w2.heap.size (.bool false) (by show w2.heap.size≠q+1;omega)).trans hK),?_⟩⟩
  have h3:Below q W ((W.setCell ⟨q+1,0,none⟩ (.bool false)).putObj w2.heap.size (.deferred none)):=((Turns.setCell (T:=fun k=>q≤k) (a:=⟨q+1,0,none⟩) _ (Nat.le_succ q)).trans (Turns.putObj (T:=fun k=>q≤k) _ (by omega))).below (fun k hk=>hk) (by have:=hv.lt;omega)
  rw[hx]
  refine⟨_,results_bool rfl _ _ (q+1) (.bool false) rfl ((World.cell?_of_block (World.putObj_heap_other (by show q+1≠w2.heap.size;omega))).trans (hv.set (.bool false)).cell),rfl,by rw[hq];exact hB.trans h3⟩
 case stop=>
  rintro c T pre W hpre ⟨rfl,⟨y,hy,hye⟩,⟨hv,hTq⟩,hB⟩ hT hOT hTd hK htW
  have hc:=hv.cell
  gi_wp2
  refine⟨by simp,.inl ⟨_,_,rfl,run_takeDeferred hK,?_⟩⟩
  have h3:Below q W (W.putObj w2.heap.size (.deferred none)):=(Turns.putObj (T:=fun k=>q≤k) _ (by omega)).below (fun k hk=>hk) (by have:=hB.size;omega)
  have hx:(xs.any fun y=>decide (y.2=s.size))=true:=by
   rw[List.any_eq_true]
   exact⟨y,hpre.subset hy,by simpa using hye⟩
  rw[hx]
  exact⟨_,results_bool rfl _ _ (q+1) (.bool true) rfl ((World.cell?_of_block (World.putObj_heap_other (by show q+1≠w2.heap.size;omega))).trans hc),rfl,by rw[hq];exact hB.trans h3⟩
structure Three (T:Nat→Prop) (W:World) (q:Nat) (r:Nat×Nat×Bool):Prop where
 a:Own1 T W q 3 (.int .i64 r.1)
 b:Own1 T W (q+1) 3 (.int .i64 r.2.1)
 c:Own1 T W (q+2) 4 (.bool r.2.2)
theorem Three.on {T:Nat→Prop} {A B:World} {q:Nat} {r:Nat×Nat×Bool} (h:Three T A q r) (ht:Turns T A B):Three (Fresh T A B) B q r:=⟨h.a.on ht,h.b.on ht,h.c.on ht⟩
end
end W16
namespace W15
open Strs Recs M15
open M14 (Piece size sizes)
open W14 (Raw Raws rawA rawC PAt PAll PBox below_new cell_block own_same own_form box_arg load_piece run_load_op load_at alloc_piece store_piece two_new raws_keep)
open Row256 (Beside)
open Kit (below_draws on)
theorem box_grow {w w':World} {b c:Nat} {v v':Value} {L:List Inst} {r:Raw} (hp:PBox w c r) (hl:Lay w b v L) (hb:c≠b) (hg:Grow b v v' w w'):PBox w' c r:=by
 refine(hg.block c hp.lt hb fun q=> ?_).trans hp
 obtain⟨cur,h1⟩:=own_type hl.own q
 have h2:w.heap[c]? =_:=hp
 rw[h1]at h2
 injection h2 with h2
 injection h2 with _ h2
 exact absurd h2 (by decide)
theorem box_put {w w':World} {base c:Nat} {v v':Value} {M:List Nat} {r:Raw} (hp:PBox w c r) (hl:Nums base w v M) (hg:Put v v' w w'):PBox w' c r:=by
 obtain⟨-,-,-,-,g5⟩:=hg.grown
 refine(g5 c hp.lt fun q=> ?_).trans hp
 obtain⟨cur,h1⟩:=own_type hl q.symm
 have h2:w.heap[c]? =_:=hp
 rw[h1]at h2
 injection h2 with h2
 injection h2 with _ h2
 exact absurd h2 (by decide)
theorem patched {ks T:List Piece} (hs: ∀q,q∈ks→ ∀a,(steps q a).length=size q) (hm: ∀q,q∈T→q∈ks) {j:Nat} (hj:j<T.length) (a e:Nat): ∃X Z,pre (T.take j) a e++pre (T.drop j) (a+plen (T.take j)) 0=X++M15.jump 0::Z∧pre (T.take (j+1)) a e++pre (T.drop (j+1)) (a+plen (T.take (j+1))) 0=X++M15.jump e::Z∧(spots T a)[j]? =some (a+X.length):=by
 obtain⟨q,hq⟩: ∃q,T[j]=q:=⟨_,rfl⟩
 have hd:T.drop j=q::T.drop (j+1):=by rw[List.drop_eq_getElem_cons hj,hq]
 have ht:T.take (j+1)=T.take j++ [q]:=by rw[List.take_succ_eq_append_getElem hj,hq]
 have hp:plen (T.take (j+1))=plen (T.take j)+(size q+2):=by
  rw[ht];unfold plen;rw[M14.sizes_append,List.length_append];simp only[sizes,List.length_cons,List.length_nil];omega
 have hqm:q∈ks:=hm q (by rw[←hq];exact List.getElem_mem hj)
 refine⟨pre (T.take j) a e++split (a+plen (T.take j)+1) (a+plen (T.take j)+size q+2)::steps q (a+plen (T.take j)+1),pre (T.drop (j+1)) (a+plen (T.take j)+size q+2) 0,?_,?_,?_⟩
 ·rw[hd]
  simp only[pre,List.append_assoc,List.cons_append]
 ·rw[hp,ht,pre_append,show a+(plen (T.take j)+(size q+2))=a+plen (T.take j)+size q+2 by omega]
  simp only[pre,List.append_assoc,List.cons_append,List.nil_append]
 ·have h1:spots T a=spots (T.take j) a++spots (T.drop j) (a+plen (T.take j)):=by
    have:=spots_append (T.take j) (T.drop j) a
    rw[List.take_append_drop]at this
    exact this
  have h2:(spots (T.take j) a).length=j:=by rw[spots_len,List.length_take];omega
  rw[h1,List.getElem?_append_right (by omega),h2,Nat.sub_self,hd]
  rw[List.length_append,List.length_cons,pre_len hs e _ _ (fun r hr=>hm r (List.mem_of_mem_take hr)),hs q hqm]
  simp only[spots,List.getElem?_cons_zero]
  congr 1
  omega
theorem jump_0 {w:World} {b:Nat} {v:Value} {L:List Inst} (h:Lay w b v L) (hl:L.length≤900000):Calls Tryz.prog 132 #[.pointer (some ⟨b,0,none⟩),.int .i64 0] w (LaidAt b v w L.length (L++ [M15.jump 0])):=jump_any h hl 0
theorem Lay.shape {w:World} {b:Nat} {v:Value} {L:List Inst} (h:Lay w b v L) (hl:0<L.length): ∃g c,v= .slice (some ⟨g,0,none⟩) L.length c∧L.length≤c∧c≤9223372036854775807:=by
 obtain⟨g,c,e,-,-,h1,h2⟩:=own_form h.own hl
 unfold maxLen at h2
 exact⟨g,c,e,h1,h2⟩
theorem wrap64_nat_big {a:Int} {n:Nat} (h:a=(n:Int)) (hn:n≤9223372036854775807):wrap64 a=(n:Int):=by subst h;unfold wrap64;omega
set_option maxHeartbeats 8000000 in
theorem alt_any {ks:List Piece} (IH: ∀i (hi:i<ks.length),LayOk ks[i]) (hs: ∀q,q∈ks→ ∀a,(steps q a).length=size q) {w:World} {b:Nat} {v:Value} {L:List Inst} {k:Int} {t:ByteArray} {A:Option Addr} {c:Nat} {m tp:Int} {raws:List Raw} (h:Lay w b v L) (k1:KidsU b w A c raws ks) {n E:Nat} (hn:ks.length=n+1) (hE:L.length+(sizes ks+2*n)=E) (hl:E≤4000):
    Calls Tryz.prog 106 #[.pointer (some ⟨b,0,none⟩),.agg (rawA ⟨k,t,A,ks.length,c,m,tp⟩)] w (Laid b v w (L++alts ks L.length E)):=by
 have H:=hid h
 have HI:=hid IH
 have HS:=hid hs
 have K1:=hid k1
 have HN:=hid hn
 have hr:=(k1.kids (Nat.le_of_lt h.box.lt)).room
 have HL:=hid hl
 have HE:=hid hE
 have HA:=hid (show ks.length≤c∧c≤9223372036854775807 from hr)
 rw[hn]at hr ⊢
 have hr1:=hr.1
 have hr2:=hr.2
 have hw1:wrap64 ((((n+1:Nat):Int))-1)=(n:Int):=wrap64_nat_big (by omega) (by omega)
 clear h IH hs k1 hl hr hn hE
 go_enter Tryz.func106,Tryz.ntmps106
 go_wp2_with (first
  |(refine box_arg (r:=⟨k,t,A,n+1,c,m,tp⟩) rfl (.tmp 1) rfl rfl ?_;intro w1 b1 e1 p1 l1 z1;have P1:=hid p1;have a2:=p1.c2;have L1:=hid l1;have HB3:=hid (show b1≠b by have:=H.out.box.lt;omega);clear e1 p1 l1 z1;simp only at a2))
 have H1:=hid (H.out.below L1.out)
 have K2:=hid (K1.out.below H.out.box.lt L1.out)
 have HT:=hid H.out.box.lt
 clear a2 hr1 hr2 hw1
 go_loopg [5,20] n (fun gk s5 s20 wr=> ∃(i:Nat) (v1 vj:Value),s5=vj∧s20= .int .i64 i∧Hid (i+gk=n)∧Hid (Lay wr b v1 (L++pre ((ks.take n).take i) L.length 0))∧Hid (Nums w.heap.size wr vj (spots ((ks.take n).take i) L.length))∧Hid (KidsU b wr A c raws ks)∧Hid (Grow b v v1 w wr)∧Hid (PBox wr b1 ⟨k,t,A,n+1,c,m,tp⟩))
 case atStart=>exact⟨0,v,.slice none 0 0,rfl,rfl,by unfold Hid;omega,by unfold Hid;simp only[List.take_zero,pre,List.append_nil];exact H1.out,Nums.nil _ _,K2,Grow.of L1.out,P1⟩
 case round=>
  obtain⟨i,v1,vj,rfl,rfl,hig,HL1,NN,KK,GG,PP⟩:=hrel
  by_cases hi:i<n
  ·have ti:(i:Int)<(n:Int):=by omega
   have hnk2:n≤ks.length:=by have:=HN.out;omega
   obtain⟨p,hp,⟨hik,hpe⟩,htk,-⟩:=take_one hi hnk2
   have hlt:=HL1.out.box.lt
   obtain⟨g1,o1,rfl,C1⟩:=(KK.out.kids (Nat.le_of_lt hlt)).at_ (Nat.lt_of_le_of_lt (Nat.zero_le _) hik)
   obtain⟨hr1,q1⟩:=KK.out.kid hik
   have E1:=hid (C1 i hr1)
   have Q1:=hid q1
   obtain⟨rk,hrk⟩: ∃rk,raws[i]'hr1=rk:=⟨_,rfl⟩
   rw[hrk]at E1 Q1
   rw[hpe]at Q1
   have hplen:(pre ((ks.take n).take i) L.length 0).length=plen ((ks.take n).take i):=pre_len HS.out 0 _ _ (fun q hq=>List.mem_of_mem_take (List.mem_of_mem_take hq))
   obtain⟨Li,hLi⟩: ∃Li,L++pre ((ks.take n).take i) L.length 0=Li:=⟨_,rfl⟩
   obtain⟨N,hN⟩: ∃N,Li.length=N:=⟨_,rfl⟩
   have hN2:N=L.length+plen ((ks.take n).take i):=by rw[←hN,←hLi,List.length_append,hplen]
   obtain⟨s,hsz⟩: ∃s,size p=s:=⟨_,rfl⟩
   have hb:N+s+2≤4000:=by
    have h1:plen ((ks.take n).take (i+1))=plen ((ks.take n).take i)+(s+2):=by
     rw[htk];unfold plen;rw[M14.sizes_append,List.length_append];simp only[sizes,List.length_cons,List.length_nil];omega
    have h2:plen ((ks.take n).take (i+1))≤plen ks:=by
     unfold plen
     have a1:=sizes_take_le (ks.take n) (i+1)
     have a2:=sizes_take_le ks n
     have a3:((ks.take n).take (i+1)).length≤i+1:=by rw[List.length_take];omega
     have a4:sizes ((ks.take n).take (i+1))+2*((ks.take n).take (i+1)).length≤sizes ks+2*n:=by omega
     have:=HN.out
     omega
    have h3:plen ((ks.take n).take (i+1))≤sizes ks+2*n:=by
     unfold plen
     have a1:=sizes_take_le (ks.take n) (i+1)
     have a2:=sizes_take_le ks n
     have a3:((ks.take n).take (i+1)).length≤i+1:=by rw[List.length_take];omega
     omega
    have:=HE.out
    have:=HL.out
    omega
   rw[hLi]at HL1
   have HNE:=hid hN
   have HBD:=hid hb
   -- what the round comes to
   have HR:Hid (L++pre ((ks.take n).take (i+1)) L.length 0=Li++split (N+1) (N+s+2)::(steps p (N+1)++ [M15.jump 0])):=by
    unfold Hid
    rw[htk,pre_append,←hLi,List.append_assoc,←hN2]
    simp only[pre,hsz]
   have HSP:Hid (spots ((ks.take n).take (i+1)) L.length=spots ((ks.take n).take i) L.length++ [N+s+1]):=by
    unfold Hid
    rw[htk,spots_append,←hN2]
    simp only[spots,hsz]
   have HPL:Hid (∀a,(steps p a).length=s):=by unfold Hid;rw[←hsz];exact HS.out p hp
   have HC:Hid (∀(w:World) (v:Value) (L':List Inst),L'.length=N+1→Lay w b v L'→PAt (fun k=>k<b) w rk p→Calls Tryz.prog 77 #[.pointer (some ⟨b,0,none⟩),.agg (rawA rk)] w (Laid b v w (L'++steps p (N+1)))):=by
    intro w v L' h0 h1 h2
    have h3:=HI.out i hik w b v L' rk h1 (by rw[hpe];exact h2) (by rw[h0,hpe,hsz];omega)
    rw[hpe,h0]at h3
    exact h3
   have HSL:Hid ((spots ((ks.take n).take i) L.length).length≤4000):=by
    unfold Hid
    rw[spots_len,List.length_take]
    have:i≤plen ((ks.take n).take i):=by
     unfold plen
     rw[List.length_take,List.length_take];omega
    omega
   have hwi:Hid (wrap64 ((i:Int)+1)=((i+1:Nat):Int)):=by unfold Hid wrap64;have:=HA.out.1;have:=HA.out.2;have:=HN.out;omega
   have hn1:n≤c:=by have:=HA.out.1;have:=HN.out;omega
   have hn2:=HA.out.2
   have HT2:=hid hlt
   have HI2:=hid hi
   obtain⟨M0,hM0⟩: ∃M0,spots ((ks.take n).take i) L.length=M0:=⟨_,rfl⟩
   rw[hM0]at HSP HSL NN
   clear C1 q1 hrk hlt hplen hLi hN hN2 hsz hb hp hpe hik htk hnk2 hr1 hM0 hi
   go_wp2_with (first
    |(refine load_at rfl (.tmp 22) rfl rfl (r:=rk) E1.out ?_)
    |(refine alloc_piece rfl rfl ?_;intro w3 b3 e3 p3 l3 z3)
    |(refine store_piece (r:=rk) rfl (.tmp 7) (.tmp 23) rfl rfl rfl p3 ?_;intro w4 p4 l4 z4;have L4:=hid (two_new l3 l4 e3);have P4:=hid p4;have B4:=hid (show b3≠b by have:=HT2.out;omega);clear e3 p3 l3 z3 p4 l4 z4))
   have H4:=hid (HL1.out.below L4.out)
   have K4:=hid (KK.out.below HT2.out L4.out)
   have N4:=hid (NN.out.below L4.out)
   have G4:=hid (GG.out.trans (Grow.of L4.out))
   have PP4:=hid (PP.out.below L4.out)
   have Q4:=hid (below_piece L4.out HT2.out Q1.out)
   refine(step_any H4.out (by rw[HNE.out];have:=HBD.out;omega) 6 ⟨#[]⟩).mono ?_
   rintro e w5 ⟨rfl,v5,h5,g5⟩
   rw[HNE.out]
   rw[HNE.out]at h5
   have H5:=hid h5
   have P5:=hid (box_grow P4.out H4.out B4.out g5)
   have K5:=hid (K4.out.grow H4.out g5)
   have N5:=hid (N4.out.grow H4.out HT.out g5)
   have G5:=hid (G4.out.trans g5)
   have PP5:=hid (box_grow PP4.out H4.out HB3.out g5)
   have Q5:=hid (g5.piece H4.out Q4.out)
   clear h5 g5
   go_wp2_with (first|(refine load_piece (r:=rk) rfl (.tmp 7) rfl rfl P5.out ?_))
   obtain⟨J,hJ⟩: ∃J,N+s+1=J:=⟨_,rfl⟩
   obtain⟨q,hq⟩: ∃q,N+s+2=q:=⟨_,rfl⟩
   rw[hJ]at HSP
   rw[hq]at HR
   have HQ:=hid (show N+1≤q∧q≤4000 from⟨by omega,by have:=HBD.out;omega⟩)
   have hl5:(Li++ [(⟨6,⟨#[]⟩,((N+1:Nat):Int),0⟩:Inst)]).length=N+1:=by rw[List.length_append,HNE.out];rfl
   have hl6:(Li++ [(⟨6,⟨#[]⟩,((N+1:Nat):Int),0⟩:Inst)]++steps p (N+1)).length=J:=by rw[List.length_append,hl5,HPL.out];omega
   have hl7:(Li++ [(⟨6,⟨#[]⟩,((N+1:Nat):Int),0⟩:Inst)]++steps p (N+1)++ [M15.jump 0]).length=q:=by rw[List.length_append,hl6];simp only[List.length_cons,List.length_nil];omega
   have HL6:=hid hl6
   have HL7:=hid hl7
   have HJB:=hid (show J≤4000 by have:=HBD.out;omega)
   refine(HC.out _ _ _ hl5 H5.out Q5.out).mono ?_
   rintro e w6 ⟨rfl,v6,h6,g6⟩
   clear hl5 hl6 hl7 hJ hq
   have H6:=hid h6
   have K6:=hid (K5.out.grow H5.out g6)
   have N6:=hid (N5.out.grow H5.out HT.out g6)
   have G6:=hid (G5.out.trans g6)
   have PP6:=hid (box_grow PP5.out H5.out HB3.out g6)
   clear h6 g6
   go_wp2_with fail
   refine(jump_0 H6.out (by rw[HL6.out];have:=HJB.out;omega)).mono ?_
   rintro e w7 ⟨rfl,v7,h7,g7⟩
   rw[HL6.out]
   have K7:=hid (K6.out.grow H6.out g7)
   have N7:=hid (N6.out.grow H6.out HT.out g7)
   have G7:=hid (G6.out.trans g7)
   have PP7:=hid (box_grow PP6.out H6.out HB3.out g7)
   obtain⟨gs,cs,hv7,hq1,hq2⟩:=h7.shape (by rw[HL7.out];have:=HQ.out;omega)
   rw[HL7.out]at hv7 hq1
   subst hv7
   have H7:Hid (Lay w7 b (.slice (some ⟨gs,0,none⟩) q cs) (Li++(⟨6,⟨#[]⟩,((N+1:Nat):Int),0⟩:Inst)::(steps p (N+1)++ [M15.jump 0]))):=by
    have:=h7
    rw[List.append_assoc,List.append_assoc]at this
    exact this
   clear h7 g7
   have HCS:=hid (show q≤cs∧cs≤9223372036854775807 from⟨hq1,hq2⟩)
   clear hq1 hq2
   go_wp2_with (first
    |(refine slice_num (n:=J) rfl (.tmp 31) rfl rfl ?_;intro w8 b8 e8 p8 l8 z8;have L8:=hid l8;have P8:=hid p8;clear e8 p8 l8 z8)
    |(refine append_num rfl (.tmp 29) (.tmp 32) rfl rfl rfl (N7.out.below L8.out) P8.out (by have:=HSL.out;simp only[List.length_cons,List.length_nil];omega) (Nat.le_trans G7.out.size L8.out.size) ?_;intro vn w9 o9 p9;have N9:=hid o9;have P9:=hid p9;clear o9 p9))
   have H9:=hid ((H7.out.below L8.out).put_nums (N7.out.below L8.out) HT.out P9.out)
   have K9:=hid ((K7.out.below H7.out.box.lt L8.out).put (N7.out.below L8.out) HT.out (H7.out.below L8.out).box.lt P9.out)
   have G9:=hid ((G7.out.trans (Grow.of L8.out)).put P9.out fun k hk=>(N7.out.lt k hk).1)
   have PP9:=hid (box_put (PP7.out.below L8.out) (N7.out.below L8.out) P9.out)
   have D9:=hid (below_draws w9 1)
   have H9d:=hid (H9.out.below D9.out)
   have HH:Hid (Calls Tryz.prog 133 #[.pointer (some ⟨b,0,none⟩)] (w9.drewN 1) fun e w'=>e= .returned (.int .i64 q)∧w'=w9.drewN 1):=by
    have h1:=here_any H9d.out
    have h2:(Li++(⟨6,⟨#[]⟩,((N+1:Nat):Int),0⟩:Inst)::(steps p (N+1)++ [M15.jump 0])).length=q:=by rw[←HL7.out];simp only[List.append_assoc,List.cons_append,List.nil_append]
    rw[h2]at h1
    exact h1
   have S0:Hid ((w9.drewN 1).cell? ⟨b,0,none⟩=some (.slice (some ⟨gs,0,none⟩) q cs)):=H9d.out.box.c0
   obtain⟨-,f2,f3⟩:=H9d.out.field HNE.out
   simp only at f2
   have f3:=f3 (N*4+3)
   have SET:=H9d.out.set3 (q:Int)
   rw[HNE.out]at SET
   have HX:=hid SET
   have SE:Hid (((w9.drewN 1).setCell ⟨gs,N*4+3,none⟩ (.int .i64 q)).cell? ⟨b,0,none⟩=some (.slice (some ⟨gs,0,none⟩) q cs)):=SET.1.box.c0
   clear SET
   have tq:(N:Int)<(q:Int):=by have:=HQ.out;omega
   refine wp_region_held_drew (S:=fun w'=>w'.cell? ⟨b,0,none⟩=some (.slice (some ⟨gs,0,none⟩) q cs)) (by kernel_rfl) S0.out (fun hHeld=> ?_)
   refine Take.k 0 ⟨some 34,.move (.tmp 0),_,_,_,none⟩ ?_
   refine Take.k 1 ⟨some 35,.nilCheck (.tmp 34),_,_,_,none⟩ ?_
   refine Take.k 2 ⟨some 36,.fieldAddr 104 (.tmp 35) 0,_,_,_,none⟩ ?_
   refine Take.k 3 ⟨some 37,.load 46 (.tmp 36),_,_,_,none⟩ ?_
   refine Take.k 4 ⟨some 38,.move (.tmp 8),_,_,_,none⟩ ?_
   refine Take.k 5 ⟨some 39,.move (.tmp 0),_,_,_,none⟩ ?_
   refine wpAnyH_ready (rs:= [6]) (by kernel_rfl) (by simp) ?_
   refine AllReadyH.cons (o:=⟨some 40,.call ⟨.value (.func 133), #[.tmp 39], #[99]⟩,_,_,_,none⟩) rfl (fun K hK=> ?_) AllReadyH.nil
   go_simp
   (go_at_call 133;refine HH.out.mono ?_;rintro e x1 ⟨rfl,rfl⟩)
   go_wp2_with fail
   refine hK.out _ _ ?_ (fun hHeld=> ?_)
   ·exact S0.out
   clear hK K
   try simp only[Act.put,Take.a,Take.b,Take.c]
   refine Take.k 7 ⟨some 41,.indexAddr 46 (.tmp 37) (.tmp 38),_,_,_,none⟩ ?_
   refine Take.k 8 ⟨some 42,.fieldAddr 106 (.tmp 41) 3,_,_,_,none⟩ ?_
   refine wpAnyH_ready (rs:= [9]) (by kernel_rfl) (by simp) ?_
   refine AllReadyH.cons (o:=⟨none,.store 3 (.tmp 42) (.tmp 40),_,_,_,none⟩) rfl (fun K hK=> ?_) AllReadyH.nil
   go_simp
   skip
   go_wp2_with fail
   refine hK.out _ _ ?_ (fun hHeld=> ?_)
   ·exact SE.out
   clear hK K
   try simp only[Act.put,Take.a,Take.b,Take.c]
   refine wpAnyH_done (by kernel_rfl) ?_ _
   have H10:Hid (Lay ((w9.drewN 1).setCell ⟨gs,N*4+3,none⟩ (.int .i64 q)) b (.slice (some ⟨gs,0,none⟩) q cs) (L++pre ((ks.take n).take (i+1)) L.length 0)):=by unfold Hid;rw[HR.out];exact HX.out.1
   have N10:Hid (Nums w.heap.size ((w9.drewN 1).setCell ⟨gs,N*4+3,none⟩ (.int .i64 q)) vn (spots ((ks.take n).take (i+1)) L.length)):=by unfold Hid;rw[HSP.out];exact(Nums.below N9.out D9.out).grow H9d.out HT.out HX.out.2
   have K10:=hid ((K9.out.below H9.out.box.lt D9.out).grow H9d.out HX.out.2)
   have G10:=hid ((G9.out.trans (Grow.of D9.out)).trans HX.out.2)
   have PP10:=hid (box_grow (PP9.out.below D9.out) H9d.out HB3.out HX.out.2)
   clear f2 f3 tq
   cases gk with
   |zero=>exact absurd hig.out (by have:=HI2.out;omega)
   |succ g=>
    go_wp2_with fail
    go_roundg g
    case measure=>omega
    case rel=>exact⟨i+1,_,vn,rfl,by first|rfl|exact congrArg (Value.int .i64) hwi.out,by have:=hig.out;unfold Hid;omega,H10,N10,K10,G10,PP10⟩
  ·have ti: ¬(i:Int)<(n:Int):=by omega
   have hie:i=n:=by have:=hig.out;omega
   subst hie
   have hik:i<ks.length:=by have:=HN.out;omega
   obtain⟨p,hpe⟩: ∃p,ks[i]=p:=⟨_,rfl⟩
   have hp:p∈ks:=by rw[←hpe];exact List.getElem_mem hik
   have hks:ks=ks.take i++ [p]:=by
    have h1:=List.take_succ_eq_append_getElem hik
    rw[hpe,List.take_of_length_le (by have:=HN.out;omega)]at h1
    exact h1
   obtain⟨T,hT⟩: ∃T,ks.take i=T:=⟨_,rfl⟩
   have hTT:T.take i=T:=by rw[←hT,List.take_take,Nat.min_self]
   have hTl:T.length=i:=by rw[←hT,List.length_take];omega
   have hTm: ∀q,q∈T→q∈ks:=fun q hq=>by rw[←hT]at hq;exact List.mem_of_mem_take hq
   rw[hT,hTT]at HL1 NN
   rw[hT]at hks
   have hlt:=HL1.out.box.lt
   obtain⟨g1,o1,rfl,C1⟩:=(KK.out.kids (Nat.le_of_lt hlt)).at_ (Nat.lt_of_le_of_lt (Nat.zero_le _) hik)
   obtain⟨hr1,q1⟩:=KK.out.kid hik
   have E1:=hid (C1 i hr1)
   have Q1:=hid q1
   obtain⟨rk,hrk⟩: ∃rk,raws[i]'hr1=rk:=⟨_,rfl⟩
   rw[hrk]at E1 Q1
   rw[hpe]at Q1
   have hplen:(pre T L.length 0).length=plen T:=pre_len HS.out 0 _ _ hTm
   have hsum:sizes ks=sizes T+size p:=by rw[hks,M14.sizes_append];simp only[sizes,Nat.add_zero]
   obtain⟨N,hN⟩: ∃N,L.length+plen T=N:=⟨_,rfl⟩
   have hNE:N+size p=E:=by rw[←hN,←HE.out,hsum];unfold plen;omega
   have HC:Hid (∀(w:World) (v:Value),Lay w b v (L++pre T L.length 0)→PAt (fun k=>k<b) w rk p→Calls Tryz.prog 77 #[.pointer (some ⟨b,0,none⟩),.agg (rawA rk)] w (Laid b v w (L++pre T L.length 0++steps p N))):=by
    intro w v h1 h2
    have h3:=HI.out i hik w b v _ rk h1 (by rw[hpe];exact h2) (by rw[List.length_append,hplen,hpe];have:=HL.out;omega)
    rw[hpe,List.length_append,hplen,hN]at h3
    exact h3
   have HPL:Hid ((steps p N).length=size p):=HS.out p hp N
   have HTL:=hid hTl
   have HTM:=hid hTm
   have HNN:=hid hN
   have HNE:=hid hNE
   -- all jumps are set:the whole
   have HFIN:Hid (L++(pre T L.length E++steps p N)=L++alts ks L.length E):=by
    unfold Hid
    have h1:=alts_pre p T L.length E
    rw[hks,h1,hN]
   have hn1:=HA.out.1
   have hn2:=HA.out.2
   rw[HN.out]at hn1
   have a2:=PP.out.c2
   simp only at a2
   have HT2:=hid hlt
   have HBASE:=hid GG.out.size
   obtain⟨M0,hM0⟩: ∃M0,spots T L.length=M0:=⟨_,rfl⟩
   have hml:M0.length=i:=by rw[←hM0,spots_len,hTl]
   rw[hM0]at NN
   obtain⟨Aj,cj,rfl,hcj1,hcj2⟩:=NN.out.recs.form
   unfold maxLen at hcj2
   rw[hml]at hcj1 NN ⊢
   have HCJ:=hid (show i≤cj∧cj≤9223372036854775807 from⟨hcj1,hcj2⟩)
   have HM0:=hid hM0
   have HML:=hid hml
   clear C1 q1 hrk hlt hplen hN hp hpe hik hr1 hM0 hi hks hT hTT hTl hTm hsum hNE hml hcj1 hcj2
   go_wp2_with (first
    |(refine load_at rfl (.tmp 48) rfl rfl (r:=rk) E1.out ?_))
   refine(HC.out _ _ HL1.out Q1.out).mono ?_
   rintro e w2 ⟨rfl,v2,h2,g2⟩
   have H2:=hid h2
   have N2:=hid (NN.out.grow HL1.out HT.out g2)
   have G2:=hid (GG.out.trans g2)
   clear h2 g2 a2 hn1 hn2
   have hcj1:=HCJ.out.1
   have hcj2:=HCJ.out.2
   go_wp2_with fail
   have HA2:Hid (L++pre T L.length 0++steps p N=L++(pre (T.take 0) L.length E++pre (T.drop 0) (L.length+plen (T.take 0)) 0)++steps p N):=by
    unfold Hid
    simp only[List.take_zero,List.drop_zero,pre,List.nil_append,show plen []=0 from rfl,Nat.add_zero]
   have HLAST:Hid (∀x y:Nat,x=y→L++(pre (T.take i) L.length E++pre (T.drop i) (L.length+plen (T.take i)) 0)++steps p N=L++alts ks L.length E):=by
    intro x y _
    rw[←HFIN.out,List.take_of_length_le (by rw[HTL.out];exact Nat.le_refl _),List.drop_of_length_le (by rw[HTL.out];exact Nat.le_refl _)]
    simp only[pre,List.append_nil,List.append_assoc]
   clear hcj1 hcj2
   go_loopg [53] i (fun gk s53 wr=> ∃(j:Nat) (vL:Value),s53= .int .i64 j∧Hid (j+gk=i)∧Hid (Lay wr b vL (L++(pre (T.take j) L.length E++pre (T.drop j) (L.length+plen (T.take j)) 0)++steps p N))∧Hid (Nums w.heap.size wr (.slice Aj i cj) M0)∧Hid (Grow b v vL w wr))
   case atStart=>exact⟨0,v2,rfl,by unfold Hid;omega,by unfold Hid;rw[←HA2.out];exact H2.out,N2,G2⟩
   case round=>
    obtain⟨j,vL,rfl,hjg,HL3,N3,G3⟩:=hrel
    have hcj1:=HCJ.out.1
    have hcj2:=HCJ.out.2
    by_cases hj:j<i
    ·have tj:(j:Int)<(i:Int):=by omega
     obtain⟨X,Z,hX1,hX2,hX3⟩:=patched HS.out HTM.out (by rw[HTL.out];exact hj) L.length E
     rw[HM0.out]at hX3
     obtain⟨gj,cj2,hvj,-,-,-,-⟩:=own_form N3.out (by rw[HML.out];omega)
     injection hvj with hv1 hv2 hv3
     subst hv1
     have hcell:wr.cell? ⟨gj,j,none⟩=some (.int .i64 ((L.length+X.length:Nat):Int)):=by
      have h1:j<M0.length:=by rw[HML.out];exact hj
      have h2:=flat_at numC_len M0 j h1 0 (by decide)
      have h3:M0[j]=L.length+X.length:=by rw[List.getElem?_eq_getElem h1]at hX3;exact Option.some.inj hX3
      have h4:=N3.out
      unfold Nums at h4
      rw[HML.out]at h4
      have h5:=h4.cellAt j (by omega)
      rw[Nat.mul_one,Nat.add_zero]at h2
      rw[h5,h2,h3];rfl
     obtain⟨J,hJ⟩: ∃J,(L++X).length=J:=⟨_,rfl⟩
     rw[show L.length+X.length=J by rw[←hJ,List.length_append]]at hcell
     rw[hX1,List.append_assoc,List.append_assoc,←List.append_assoc,List.cons_append]at HL3
     have hlen:(L++X++M15.jump 0::(Z++steps p N)).length=E:=by
      have h1:=pre_len HS.out 0 T L.length HTM.out
      have h2:(pre (T.take j) L.length E++pre (T.drop j) (L.length+plen (T.take j)) 0).length=plen T:=by
       rw[List.length_append,pre_len HS.out E _ _ (fun q hq=>HTM.out q (List.mem_of_mem_take hq)),pre_len HS.out 0 _ _ (fun q hq=>HTM.out q (List.mem_of_mem_drop hq))]
       have h3:=M14.sizes_append (T.take j) (T.drop j)
       rw[List.take_append_drop]at h3
       unfold plen
       rw[h3,List.length_take,List.length_drop,HTL.out];omega
      rw[hX1]at h2
      have h4:(L++X++M15.jump 0::(Z++steps p N)).length=L.length+(X++M15.jump 0::Z).length+(steps p N).length:=by simp only[List.length_append,List.length_cons];omega
      rw[h4,h2,HPL.out,←HNE.out,←HNN.out]
     obtain⟨gs,cs,hvL,hq1,hq2⟩:=HL3.out.shape (by rw[hlen];simp only[List.length_append,List.length_cons]at hlen;omega)
     rw[hlen]at hvL hq1
     subst hvL
     have D3:=hid (below_draws wr 1)
     have H3d:=hid (HL3.out.below D3.out)
     have HH:Hid (Calls Tryz.prog 133 #[.pointer (some ⟨b,0,none⟩)] (wr.drewN 1) fun e w'=>e= .returned (.int .i64 E)∧w'=wr.drewN 1):=by
      have h1:=here_any H3d.out
      rw[hlen]at h1
      exact h1
     have S0:Hid ((wr.drewN 1).cell? ⟨b,0,none⟩=some (.slice (some ⟨gs,0,none⟩) E cs)):=H3d.out.box.c0
     obtain⟨f2,-,f3⟩:=H3d.out.field hJ
     have f3:=f3 (J*4+2)
     unfold M15.jump at f2
     simp only at f2
     have SET:=H3d.out.set2 (E:Int)
     rw[hJ]at SET
     have HX:=hid SET
     have SE:Hid (((wr.drewN 1).setCell ⟨gs,J*4+2,none⟩ (.int .i64 E)).cell? ⟨b,0,none⟩=some (.slice (some ⟨gs,0,none⟩) E cs)):=SET.1.box.c0
     have tq:(J:Int)<(E:Int):=by rw[←hJ,←hlen];simp only[List.length_append,List.length_cons];omega
     have HX2:Hid (L++(pre (T.take (j+1)) L.length E++pre (T.drop (j+1)) (L.length+plen (T.take (j+1))) 0)++steps p N=L++X++M15.jump E::(Z++steps p N)):=by
      unfold Hid
      rw[hX2,List.append_assoc,List.append_assoc,←List.append_assoc,List.cons_append]
     have hwj:Hid (wrap64 ((j:Int)+1)=((j+1:Nat):Int)):=by unfold Hid wrap64;have:=HCJ.out;omega
     have HJ2:=hid hj
     clear SET hX1 hX2 hX3 hJ hlen hv2 hv3 hj
     go_wp2_with fail
     refine wp_region_held_drew (S:=fun w'=>w'.cell? ⟨b,0,none⟩=some (.slice (some ⟨gs,0,none⟩) E cs)) (by kernel_rfl) S0.out (fun hHeld=> ?_)
     refine Take.k 0 ⟨some 57,.move (.tmp 0),_,_,_,none⟩ ?_
     refine Take.k 1 ⟨some 58,.nilCheck (.tmp 57),_,_,_,none⟩ ?_
     refine Take.k 2 ⟨some 59,.fieldAddr 104 (.tmp 58) 0,_,_,_,none⟩ ?_
     refine Take.k 3 ⟨some 60,.load 46 (.tmp 59),_,_,_,none⟩ ?_
     refine Take.k 4 ⟨some 61,.move (.tmp 10),_,_,_,none⟩ ?_
     refine Take.k 5 ⟨some 62,.move (.tmp 0),_,_,_,none⟩ ?_
     refine wpAnyH_ready (rs:= [6]) (by kernel_rfl) (by simp) ?_
     refine AllReadyH.cons (o:=⟨some 63,.call ⟨.value (.func 133), #[.tmp 62], #[99]⟩,_,_,_,none⟩) rfl (fun K hK=> ?_) AllReadyH.nil
     go_simp
     (go_at_call 133;refine HH.out.mono ?_;rintro e x1 ⟨rfl,rfl⟩)
     go_wp2_with fail
     refine hK.out _ _ ?_ (fun hHeld=> ?_)
     ·exact S0.out
     clear hK K
     try simp only[Act.put,Take.a,Take.b,Take.c]
     refine Take.k 7 ⟨some 64,.indexAddr 46 (.tmp 60) (.tmp 61),_,_,_,none⟩ ?_
     refine Take.k 8 ⟨some 65,.fieldAddr 106 (.tmp 64) 2,_,_,_,none⟩ ?_
     refine wpAnyH_ready (rs:= [9]) (by kernel_rfl) (by simp) ?_
     refine AllReadyH.cons (o:=⟨none,.store 3 (.tmp 65) (.tmp 63),_,_,_,none⟩) rfl (fun K hK=> ?_) AllReadyH.nil
     go_simp
     skip
     go_wp2_with fail
     refine hK.out _ _ ?_ (fun hHeld=> ?_)
     ·exact SE.out
     clear hK K
     try simp only[Act.put,Take.a,Take.b,Take.c]
     refine wpAnyH_done (by kernel_rfl) ?_ _
     have H5:Hid (Lay ((wr.drewN 1).setCell ⟨gs,J*4+2,none⟩ (.int .i64 E)) b (.slice (some ⟨gs,0,none⟩) E cs) (L++(pre (T.take (j+1)) L.length E++pre (T.drop (j+1)) (L.length+plen (T.take (j+1))) 0)++steps p N)):=by unfold Hid;rw[HX2.out];exact HX.out.1
     have N5:=hid ((Nums.below N3.out D3.out).grow H3d.out HT.out HX.out.2)
     have G5:=hid ((G3.out.trans (Grow.of D3.out)).trans HX.out.2)
     clear f2 f3 tq hcell
     cases gk with
     |zero=>exact absurd hjg.out (by have:=HJ2.out;omega)
     |succ g=>
      go_wp2_with fail
      go_roundg g
      case measure=>omega
      case rel=>exact⟨j+1,_,by first|rfl|exact congrArg (Value.int .i64) hwj.out,by have:=hjg.out;unfold Hid;omega,H5,N5,G5⟩
    ·have tj: ¬(j:Int)<(i:Int):=by omega
     have hje:j=i:=by have:=hjg.out;omega
     subst hje
     have HL4:Hid (Lay wr b vL (L++alts ks L.length E)):=by unfold Hid;rw[←HLAST.out 0 0 rfl];exact HL3.out
     clear hj
     go_wp2_with fail
     go_end0
     exact⟨rfl,vL,HL4.out,G3.out⟩
end W15
end Go.Proofs.YtfgegjinhkgpbaaGreatDoor
