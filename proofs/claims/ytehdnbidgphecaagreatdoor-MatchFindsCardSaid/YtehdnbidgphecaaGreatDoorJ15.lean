/-
  Texts joined, in build order, each with its own comment and its own conditions: W16Calls, W16RunMath, W16RefRun, W16Tru, W16Finds, W15Made, W16FindMath.
-/
import Derived.Test.YtehdnbidgphecaaGreatDoorJ14
import Derived.Test.YtehdnbidgphecaaGreatDoorJ12
import Derived.RangeFuncBox
import Derived.Maps.AppendAt
import Derived.Test.YtehdnbidgphecaaGreatDoorJ10
import Derived.Test.YtehdnbidgphecaaGreatDoorJ05
import Derived.Laws.ResultCell
import Derived.Test.YtehdnbidgphecaaGreatDoorJ09
import Derived.Test.YtehdnbidgphecaaGreatDoorJ03
namespace Go.Proofs.YtehdnbidgphecaaGreatDoor
set_option maxHeartbeats 4000000
set_option maxRecDepth 100000
open Go.RowKit
open Lib (hid)
namespace W16
open Go.Shelf Strs Recs Range
open M15 (Inst rightP)
open M16 (Text yields)
open W15 (Prg numC numC_len numC_one int_info)
open Kit (below_draws on)
attribute [local go_sem] Oper.semAt_some
theorem row_turn {T:Nat→Prop} {A B:World} {base:Nat} {e:TypeId} {size n:Nat} {v:Value} {xs:List Value} (h:Turns T A B) (hr:A.ownsRow base e size v n xs) (ht: ∀k,v.ownBlock=some k→ ¬T k):B.ownsRow base e size v n xs:=by
 refine⟨hr.1,?_⟩
 rcases hr.2 with h0|⟨g,cap,cur,e1,hb,hh,rest⟩
 ·exact Or.inl h0
 ·subst e1
  exact Or.inr ⟨g,cap,cur,rfl,hb,h.keeps hh (ht g rfl),rest⟩
theorem wpListIn_append_at {F:Fence} {n:Nat} {P:Program} (w:World) {ops:Array Oper} {rest:List Oper} {o:Oper} {a:Act} {Q:Exit→Act→World→Prop}
    (hg:o.guard=none) (s x:Operand) (t:TypeId) (hop:o.op=Op.call {callee:=Callee.builtin Builtin.append,args:= #[s,x],argTypes:= #[t,t]})
    (base:Nat) (e:TypeId) (i:TypeInfo) (z:Value) (size bytes:Nat) (h1:P.underlying t=some (.slice e)) (h2:P.info? e=some i) (h3:i.zero=some z) (h4:i.size=size) (h5:i.bytes=bytes) (h6:z.cells.size=size) (h7:0<size)
    (v:Value) (k:Nat) (xs:List Value) (hs:a.eval s=v) (hown:w.ownsRow base e size v k xs) (ad:Addr) (m c:Nat) (news:List Value) (hx:a.eval x= .slice (some ad) m c) (hn:news.length=m*size)
    (hc: ∀j u,news[j]? =some u→w.cell? (ad.add j)=some u) (h1c: ∀u∈news,u.oneCell'=true) (b1:k+m≤maxLen) (b2:(k+m)*bytes≤140737488355328) (b3:base≤w.heap.size)
    (hK: ∀v' w',w'.ownsRow base e size v' (k+m) (xs++news)→w.grownBy w' v.ownBlock→(∀q,v'.ownBlock=some q→v.ownBlock=some q∨w.heap.size≤q)→wpListIn F n P ops Q rest (a.put o.dst v') w'):
    wpListIn F n P ops Q (o::rest) a w:=by
 refine wpListIn_plain hg fun K hK'=> ?_
 obtain⟨v',w',hrun,r1,r2,r3⟩:=run_append_own (P:=P) w base t o.type e i z size bytes h1 h2 h3 h4 h5 h6 h7 v k xs hown ad m c news hn hc h1c b1 b2 b3
 have r4:=own_block_next (P:=P) w base t o.type e i z size bytes h1 h2 h3 h4 h5 h6 h7 v k xs hown ad m c news hn hc h1c b1 b2 hrun
 unfold Oper.wpIn
 refine⟨?_,?_⟩
 ·simp[Oper.about,hop,resolve,Target.leads,Sem.run_pure]
 ·rw[Oper.semAt_plain F _ _ (by rw[hop];intro c hc';cases hc')]
  simp[execOp,hop,resolve,invoke,builtin,hs,hx,hrun,Result.andThen]
  exact hK' _ _ (hK v' w' r1 r2 r4)
theorem endsOf_any (A:Option Addr) (n c:Nat) (s:ByteArray) (f l:Nat) (w:World):Calls Tryz.prog 26 #[.slice A n c,.string s,.int .i64 f,.int .i64 l] w fun e w'=>e= .returned (.func (.func 35) #[] (caught w.heap.size))∧Caps w' w.heap.size (.slice A n c) s f l∧Below w.heap.size w w'∧w'.heap.size=w.heap.size+4:=by
 go_enter Tryz.func26,Tryz.ntmps26
 go_wp2_with fail
 go_ret
 obtain⟨w1,h1⟩: ∃w1,w.alloc (.cells #[.slice A n c] 32)=w1:=⟨_,rfl⟩
 obtain⟨w2,h2⟩: ∃w2,w1.alloc (.cells #[.string s] 9)=w2:=⟨_,rfl⟩
 obtain⟨w3,h3⟩: ∃w3,w2.alloc (.cells #[.int .i64 f] 3)=w3:=⟨_,rfl⟩
 obtain⟨w4,h4⟩: ∃w4,w3.alloc (.cells #[.int .i64 l] 3)=w4:=⟨_,rfl⟩
 have z1:w1.heap.size=w.heap.size+1:=by rw[←h1,World.size_alloc]
 have z2:w2.heap.size=w.heap.size+2:=by rw[←h2,World.size_alloc,z1]
 have z3:w3.heap.size=w.heap.size+3:=by rw[←h3,World.size_alloc,z2]
 have z4:w4.heap.size=w.heap.size+4:=by rw[←h4,World.size_alloc,z3]
 have l1:Below w.heap.size w w1:=by rw[←h1];exact W14.below_new _ _
 have l2:Below w1.heap.size w1 w2:=by rw[←h2];exact W14.below_new _ _
 have l3:Below w2.heap.size w2 w3:=by rw[←h3];exact W14.below_new _ _
 have l4:Below w3.heap.size w3 w4:=by rw[←h4];exact W14.below_new _ _
 have c1:w1.cell? ⟨w.heap.size,0,none⟩=some (.slice A n c):=by rw[←h1];exact(Boxed.new w _ _).cell
 have c2:w2.cell? ⟨w.heap.size+1,0,none⟩=some (.string s):=by rw[←z1,←h2];exact(Boxed.new w1 _ _).cell
 have c3:w3.cell? ⟨w.heap.size+2,0,none⟩=some (.int .i64 f):=by rw[←z2,←h3];exact(Boxed.new w2 _ _).cell
 have c4:w4.cell? ⟨w.heap.size+3,0,none⟩=some (.int .i64 l):=by rw[←z3,←h4];exact(Boxed.new w3 _ _).cell
 rw[h1,h2,h3,h4]
 refine⟨?_,⟨?_,?_,?_,c4⟩,on (on (on l1 l2) l3) l4,z4⟩
 ·rfl
 ·exact((on (on l2 l3) l4).cell (p:=⟨w.heap.size,0,none⟩) (by show w.heap.size<_;omega)).trans c1
 ·exact((on l3 l4).cell (p:=⟨w.heap.size+1,0,none⟩) (by show w.heap.size+1<_;omega)).trans c2
 ·exact(l4.cell (p:=⟨w.heap.size+2,0,none⟩) (by show w.heap.size+2<_;omega)).trans c3
def Coll (w0:World) (n0 q:Nat) (T:Nat→Prop) (pre:List M16.Mark) (W:World):Prop:=
 ∃v,Boxed W q 35 v∧W.ownsRow (q+1) 3 1 v pre.length ((pre.map Prod.snd).flatMap numC)∧ ¬T q∧(∀k,v.ownBlock=some k→ ¬T k)∧Below n0 w0 W
theorem Coll.steady {w0:World} {n0 base q:Nat} (hn:n0≤base):Steady base (Coll w0 n0 q):=by
 rintro T s A B ⟨v,h1,h2,h3,h4,h5⟩ hT hA ht
 refine⟨v,ht.keeps h1 h3,row_turn ht h2 h4,fun h=> ?_,fun k hk h=> ?_,h5.trans (ht.below (fun k hk=>Nat.le_trans hn (hT k hk).1) (by omega))⟩
 ·rcases h with h|h
  ·exact h3 h
  ·have:=h1.lt;omega
 ·rcases h with h|h
  ·exact h4 k hk h
  ·have:=(h2.lt k hk).2;omega
def endsL (L:List Inst) (s:Text) (from_:Int):List Nat:=if 0≤from_∧from_≤(s.length:Int)then(yields L s from_.toNat from_.toNat).map Prod.snd else[]
theorem yields_len {L:List Inst} {s:Text} {f l:Nat} (h1:f≤l) (h2:l≤s.length):(yields L s f l).length≤s.length+1:=by
 unfold M16.yields
 by_cases hr:rightP L=true
 ·have h:=M16.yields_tells (s:=s) (M16.fair_of hr) hr h1 h2
  unfold M16.yields at h
  rw[if_pos hr]at h ⊢
  generalize M16.run L s (s.length+1-f) f l []=Y at h
  have hn:(Y.map Prod.snd).Nodup:=List.pairwise_map.2 (h.rise.imp fun {a b} h=>by have:=h.1;omega)
  have:=M16.nodup_le (s.length+1) hn (fun x hx=>by
   obtain⟨y,hy,rfl⟩:=List.mem_map.1 hx
   obtain⟨-,-,r3,i,-,r4⟩:=h.real y hy
   have:=r4.in_ (by omega)
   omega)
  simpa using this
 ·rw[if_neg hr];exact Nat.zero_le _
section
variable {w:World} {lv:Value} {L:List Inst} {s:ByteArray}
theorem ends_none (h:Prg w.heap.size w lv L) (from_:Int) (hf: ¬(0≤from_∧from_≤(s.size:Int))):Calls Tryz.prog 17 #[lv,.string s,.int .i64 from_] w (GivesInts w []):=by
 unfold GivesInts
 obtain⟨A,c,rfl,-,-⟩:=h.form
 by_cases h0:from_<0
 ·clear hf h
  go_enter Tryz.func17,Tryz.ntmps17
  go_wp2_with fail
  go_ret
  exact⟨_,rfl,World.ownsRow_nil _ _ _ _,Below.refl _ _⟩
 ·have h1:(s.size:Int)<from_:=by omega
  clear hf h
  go_enter Tryz.func17,Tryz.ntmps17
  go_wp2_with fail
  go_ret
  exact⟨_,rfl,World.ownsRow_nil _ _ _ _,Below.refl _ _⟩
theorem ends_some (h:Prg w.heap.size w lv L) (hn:L.length≤900000) (hs:s.size≤900000) (f:Nat) (hf:f≤s.size):Calls Tryz.prog 17 #[lv,.string s,.int .i64 f] w (GivesInts w ((yields L s.data.toList f f).map Prod.snd)):=by
 unfold GivesInts
 obtain⟨A,c,rfl,-,-⟩:=h.form
 have h0: ¬(f:Int)<0:=by omega
 have h1: ¬(s.size:Int)<(f:Int):=by omega
 have HP:=hid h
 have hlen:=yields_len (L:=L) (s:=s.data.toList) (Nat.le_refl f) (by rw[←Lib.size_eq];exact hf)
 rw[←Lib.size_eq]at hlen
 have HLN:=hid hlen
 have HN:=hid (show L.length≤900000∧s.size≤900000∧f≤s.size from⟨hn,hs,hf⟩)
 clear h hlen hn hs hf
 refine(callsIn_wide (n:=9)).1 ?_
 refine callsIn_of_wp_marks Tryz.func17 rfl trivial ?_ rfl
 simp only[Tryz.ntmps17,List.size_toArray,List.length_cons,List.length_nil,Nat.reduceAdd,Nat.reduceSub,Array.replicate_succ,Array.replicate_zero,List.push_toArray,List.append_toArray,List.nil_append,List.cons_append]
 gi_wp2
 obtain⟨q,hq⟩: ∃q,w.heap.size=q:=⟨_,rfl⟩
 have HQ:=hid hq
 have x0:=Boxed.new w 35 (.slice none 0 0)
 have hb1:Below w.heap.size w (w.alloc (.cells #[.slice none 0 0] 35)):=W14.below_new _ _
 have hz1:(w.alloc (.cells #[.slice none 0 0] 35)).heap.size=q+1:=by rw[World.size_alloc,hq]
 generalize w.alloc (.cells #[.slice none 0 0] 35)=w1 at*
 rw[hq]at x0
 have hp1:=hid (HP.out.below hb1)
 have hx1:=hid x0
 have L1:=hid hb1
 have Z1:=hid hz1
 clear x0 hb1 hz1
 refine⟨trivial,?_⟩
 refine(callsIn_wide.2 (endsOf_any A L.length c s f f w1)).mono ?_
 rintro e w2 ⟨rfl,hcaps,hb2,hz2⟩
 rw[Z1.out]at hcaps hz2 ⊢
 have hseq:=ends_seq ⟨q,q+1,.slice A L.length c,L,s,f,f⟩ w2 (by have h2:=hp1.out.below (hb2.mono L1.out.size);rw[HQ.out]at h2;exact h2) hcaps HN.out.1 (by show s.size≤_;have:=HN.out.2.1;omega) (Nat.le_refl f) HN.out.2.2
 have hseq:=hid hseq
 have hx2:Boxed w2 q 35 (.slice none 0 0):=(hb2.block q (by rw[Z1.out];omega)).trans hx1.out
 have hB2:=on L1.out hb2
 obtain⟨xs,hxs⟩: ∃xs,yields L s.data.toList f f=xs:=⟨_,rfl⟩
 have HXS:=hid hxs
 rw[hxs]at HLN
 simp only at hseq
 rw[hxs]at hseq
 clear hcaps hp1 hx1 L1 Z1 hb2 hxs HP h0 h1
 gi_wp2
 obtain⟨j0,hi,hz0,hz1,hz3⟩:=info_parts int_info
 have hO:Lies q (Four (q+1)) w2:=fun k hk=>⟨by have:=hk.1;omega,by have:=hk.2;omega⟩
 have hB2':Below q w w2:=hB2.mono (by omega)
 refine wp_rangeH (gf:=35) (lb:=caught (q+1)) rfl (enters_of Tryz.func35 (by kernel_rfl) rfl) hseq.out hO (by omega) (fun _=>rfl) (Coll w q q) (fun _ _ _ _=>False) (Coll.steady (Nat.le_refl _)) (fun _ _ _ _ _ h=>h.elim)
  ⟨_,hx2,World.ownsRow_nil _ _ _ _,fun h=>by have:=h.1;omega,(fun k (hk:none=some k)=>by cases hk),hB2'⟩
  (fun x=> {tmps:= #[.slice A L.length c,.string s,.int .i64 f,undef,undef,undef,.slice none 0 0,.pointer (some ⟨q,0,none⟩),undef,.int .i64 x.2,.int .i64 f,.bool false,.bool false,.int .i64 f,.string s,.int .i64 s.size,.bool false,.bool false,.slice A L.length c,.string s,.int .i64 f,.int .i64 f,.func (.func 35) #[] (caught (q+1)),.int .i64 x.1,.int .i64 x.2,undef,undef,undef,undef,undef],defers:= []}) ?assign ?body ?done ?stop
 case assign=>
  intro l x W K hK
  unfold twoV
  gi_wp2
  exact hK
 case body=>
  rintro l T pre x W ⟨v,hv,hrow,hTq,hTv,hB⟩ hT hb hpre
  have hc:=hv.cell
  have hf:=hv.frozen
  have hle:pre.length+1≤xs.length:=by
   have:=hpre.length_le
   rw[List.length_append,List.length_singleton]at this
   exact this
  have hlen:pre.length+1≤1000000:=by have:=HLN.out;have:=HN.out;omega
  have hq1:q+1≤W.heap.size:=by have:=hv.lt;omega
  have hnl: ∀pre:List M16.Mark,((pre.map Prod.snd).flatMap numC).length=pre.length*1:=fun pre=>by rw[flat_len numC_len,List.length_map]
  gi_wp2_with (gi_at_builtin;refine wpListIn_append_at _ rfl _ _ 35 rfl (q+1) 3 j0 (.int .i64 0) 1 8 Tryz.underlying35 hi hz0 hz1 hz3 rfl (by decide) _ _ _ rfl (hrow.alloc _) ⟨W.heap.size,0,none⟩ 1 1 (numC x.2) rfl rfl (cells_new W (numC x.2) _) (numC_one x.2) (by unfold maxLen;omega) (by omega) (by rw[World.size_alloc];omega) ?_;intro v' w1 hown' hgrow hpl;obtain⟨g',cap',rfl⟩:=ownsRow_succ hown';have hv1:Boxed w1 q 35 v:=(hv.alloc _).kept hgrow (hv.not_row (by decide) hrow);have hc1:=hv1.cell;have hf1:=hv1.frozen)
  have t1:Turns (fun k=>q≤k∧ ¬T k) W w1:=(Turns.alloc _ W _).trans (Turns.of_grown hgrow (fun rr hr=>⟨by have:=(hrow.lt rr hr).1;omega,hTv rr hr⟩))
  have t2:Turns (fun k=>q≤k∧ ¬T k) w1 (w1.setCell ⟨q,0,none⟩ (.slice (some ⟨g',0,none⟩) (pre.length+1) cap')):=Turns.setCell (a:=⟨q,0,none⟩) _ ⟨by show q≤q;omega,hTq⟩
  refine⟨t1.trans t2,_,hv1.set _,?_,hTq,fun k hk h=> ?_,hB.trans ((t1.trans t2).below (fun k hk=>hk.1) (by have:=hB.size;omega))⟩
  ·have h3:=hown'.kept (grownBy_setCell' w1 q (.slice (some ⟨g',0,none⟩) (pre.length+1) cap')) (.inr (hv1.not_row (by decide) hown').symm)
   rw[List.length_append,List.map_append,List.flatMap_append]
   simpa using h3
  ·rcases hpl k hk with e|e
   ·exact hTv k e h
   ·have:=hT k h
    rw[World.size_alloc]at e
    omega
 case done=>
  rintro T W ⟨v,hv,hrow,hTq,hTv,hB⟩ hT hOT hTd hK htW
  have hc:=hv.cell
  obtain⟨ys,hys⟩: ∃ys,xs.map Prod.snd=ys:=⟨_,rfl⟩
  have hyl:xs.length=ys.length:=by rw[←hys,List.length_map]
  rw[hyl,hys]at hrow
  have HYS:Hid ((yields L s.data.toList f f).map Prod.snd=ys):=by unfold Hid;rw[HXS.out,hys]
  clear hys hyl
  gi_wp2
  refine⟨by simp,.inl ⟨_,_,rfl,run_takeDeferred hK,?_⟩⟩
  have h2:=ownsRow_putObj hrow (.deferred none) hK rfl
  have h3:Below q W (W.putObj w2.heap.size (.deferred none)):=(Turns.putObj (T:=fun k=>q≤k) _ (by omega)).below (fun k hk=>hk) (by have:=hB.size;omega)
  refine⟨_,results_tmp rfl _ _ _,v,rfl,?_,by rw[hq];exact hB.trans h3⟩
  rw[HYS.out,hq]
  exact h2.mono (Nat.le_succ q)
 case stop=>
  intro c T pre W _ h
  exact h.elim
theorem ends_at (h:Prg w.heap.size w lv L) (hn:L.length≤900000) (hs:s.size≤900000) (from_:Int):Calls Tryz.prog 17 #[lv,.string s,.int .i64 from_] w (GivesInts w (endsL L s.data.toList from_)):=by
 unfold endsL
 rw[←Lib.size_eq]
 by_cases hf:0≤from_∧from_≤(s.size:Int)
 ·rw[if_pos hf]
  obtain⟨f,rfl⟩: ∃f:Nat,from_=(f:Int):=⟨from_.toNat,by omega⟩
  exact ends_some h hn hs f (by omega)
 ·rw[if_neg hf]
  exact ends_none h from_ hf
end
end W16
namespace M16
open Go M15
def idx (s:Text) (i q:Nat):Nat:=i*(s.length+1)+q
theorem idx_lt {s:Text} {i q n:Nat} (hi:i<n) (hq:q≤s.length):idx s i q<n*(s.length+1):=by
 unfold idx
 have:(i+1)*(s.length+1)≤n*(s.length+1):=Nat.mul_le_mul_right _ hi
 rw[Nat.succ_mul]at this
 omega
theorem idx_inj {s:Text} {i q j v:Nat} (hq:q≤s.length) (hv:v≤s.length) (h:idx s i q=idx s j v):i=j∧q=v:=by
 unfold idx at h
 have h1:(i*(s.length+1)+q)/(s.length+1)=i:=by
  rw[Nat.mul_comm,Nat.mul_add_div (by omega),Nat.div_eq_of_lt (by omega)];rfl
 have h2:(j*(s.length+1)+v)/(s.length+1)=j:=by
  rw[Nat.mul_comm,Nat.mul_add_div (by omega),Nat.div_eq_of_lt (by omega)];rfl
 have hij:i=j:=by rw[←h1,h,h2]
 subst hij
 exact⟨rfl,by omega⟩
def Real (L:List Inst) (s:Text) (b:Nat) (f:Nat→Bool):Prop:= ∀i q,i<L.length→q≤s.length→f (idx s i q)=true→Reach L s b i q
def Shut (L:List Inst) (s:Text) (f:Nat→Bool):Prop:= ∀i q,i<L.length→q≤s.length→f (idx s i q)=true→ ∀p∈nexts (ins L i) s q,f (idx s p.1 p.2)=true
structure Pass (L:List Inst) (s:Text) (b:Nat) (f0 f:Nat→Bool) (m:Bool) (i0 q0:Nat):Prop where
 real:Real L s b f
 mono: ∀x,f0 x=true→f x=true
 same:m=false→ ∀x,f x=f0 x
 new:m=true→ ∃x,x<L.length*(s.length+1)∧f0 x=false∧f x=true
 done: ∀i q,i<L.length→q≤s.length→(i<i0∨(i=i0∧q<q0))→f0 (idx s i q)=true→ ∀p∈nexts (ins L i) s q,f (idx s p.1 p.2)=true
section
variable {L:List Inst} {s:Text} {b:Nat} {f0 f:Nat→Bool} {m:Bool} {i q:Nat}
theorem Reach.low (hf:Fair L) (h:Reach L s b i q):i<L.length:=by
 cases h with
 |start=>exact hf.some_
 |on _ hk=>exact hf.eps_ _ _ _ _ hk
 |byte _ _ ht=>exact hf.byte_ _ _ ht
theorem nexts_in (hf:Fair L) (hq:q≤s.length) {p:Mark} (hp:p∈nexts (ins L i) s q):p.1<L.length∧p.2≤s.length:=by
 rcases mem_nexts.1 hp with⟨h1,h2⟩|⟨c,h1,h2,h3,h4⟩
 ·exact⟨hf.eps_ _ _ _ _ h1,by omega⟩
 ·have:=(List.getElem?_eq_some_iff.1 h1).1
  exact⟨by rw[h3];exact hf.byte_ _ _ h2,by omega⟩
theorem Pass.start (h:Real L s b f):Pass L s b f f false 0 b:=
 ⟨h,fun _ h=>h,fun _ _=>rfl,fun h=>(by cases h),fun i q hi hq h0 h1=>by
  rcases h0 with h0|⟨h0,h2⟩
  ·omega
  ·have:=(h i q hi hq h1).le;omega⟩
theorem Pass.skip (h:Pass L s b f0 f m i q) (hn:f (idx s i q)=false):Pass L s b f0 f m i (q+1):=
 ⟨h.real,h.mono,h.same,h.new,fun i' q' hi hq h0 h1=>by
     by_cases e:i'=i∧q'=q
     ·obtain⟨rfl,rfl⟩:=e
      have:=h.mono _ h1
      rw[hn]at this
      cases this
     ·exact h.done i' q' hi hq (by omega) h1⟩
theorem Pass.on (h:Pass L s b f0 f m i q) (hall: ∀p∈nexts (ins L i) s q,f (idx s p.1 p.2)=true):Pass L s b f0 f m i (q+1):=
 ⟨h.real,h.mono,h.same,h.new,fun i' q' hi hq h0 h1=>by
     by_cases e:i'=i∧q'=q
     ·obtain⟨rfl,rfl⟩:=e
      exact hall
     ·exact h.done i' q' hi hq (by omega) h1⟩
theorem Pass.row (h:Pass L s b f0 f m i (s.length+1)):Pass L s b f0 f m (i+1) b:=
 ⟨h.real,h.mono,h.same,h.new,fun i' q' hi hq h0 h1=>by
     rcases h0 with h0|⟨rfl,h2⟩
     ·exact h.done i' q' hi hq (by omega) h1
     ·have:=(h.real _ q' hi hq (h.mono _ h1)).le;omega⟩
theorem Pass.mark (hf:Fair L) (h:Pass L s b f0 f m i q) (hr:Reach L s b i q) (hq:q≤s.length) {p:Mark} (hp:p∈nexts (ins L i) s q) (hn:f (idx s p.1 p.2)=false):Pass L s b f0 (fun j=>if j=idx s p.1 p.2 then true else f j) true i q:=by
 obtain⟨h1,h2⟩:=nexts_in hf hq hp
 have hrp:Reach L s b p.1 p.2:=hr.next (mem_nexts.1 hp)
 refine⟨fun i' q' hi hq' hx=> ?_,fun x hx=> ?_,fun e=>(by cases e),fun _=>⟨_,idx_lt h1 h2,?_,by simp⟩,fun i' q' hi hq' h0 hx p' hp'=> ?_⟩
 ·split at hx
  ·rename_i e
   obtain⟨rfl,rfl⟩:=idx_inj hq' h2 e
   exact hrp
  ·exact h.real i' q' hi hq' hx
 ·split
  ·rfl
  ·exact h.mono x hx
 ·cases hx:f0 (idx s p.1 p.2)with
  |false=>rfl
  |true=>have:=h.mono _ hx;rw[hn]at this;cases this
 ·split
  ·rfl
  ·exact h.done i' q' hi hq' h0 hx p' hp'
theorem Pass.shut (h:Pass L s b f0 f m L.length b) (hm:m=false):Shut L s f:=fun i q hi hq hx p hp=>by
 have:=h.same hm
 rw[this]at hx
 exact h.done i q hi hq (Or.inl hi) hx p hp
def lack (f:Nat→Bool):Nat→Nat
 |0=>0
 |n+1=>lack f n+(if f n then 0 else 1)
theorem lack_mono {f g:Nat→Bool} (h: ∀x,f x=true→g x=true): ∀n,lack g n≤lack f n
 |0=>Nat.le_refl _
 |n+1=>by
  have:=lack_mono h n
  unfold lack
  by_cases hx:f n=true
  ·rw[if_pos hx,if_pos (h n hx)];omega
  ·rw[if_neg hx];split<;>omega
theorem lack_lt {f g:Nat→Bool} (h: ∀x,f x=true→g x=true): ∀ {n x:Nat},x<n→f x=false→g x=true→lack g n<lack f n
 |0,_,hx,_,_=>absurd hx (Nat.not_lt_zero _)
 |n+1,x,hx,h1,h2=>by
  have hm:=lack_mono h n
  unfold lack
  by_cases e:x=n
  ·subst e
   rw[if_pos h2,if_neg (by rw[h1];decide)]
   omega
  ·have:=lack_lt h (n:=n) (x:=x) (by omega) h1 h2
   by_cases hx:f n=true
   ·rw[if_pos hx,if_pos (h n hx)];omega
   ·rw[if_neg hx];split<;>omega
theorem Pass.less {i q:Nat} (h:Pass L s b f0 f m i q) (hm:m=true):lack f (L.length*(s.length+1))<lack f0 (L.length*(s.length+1)):=by
 obtain⟨x,h1,h2,h3⟩:=h.new hm
 exact lack_lt h.mono h1 h2 h3
def endHere (L:List Inst) (s:Text) (f:Nat→Bool) (q:Nat):Bool:=(List.range L.length).any fun i=>decide ((ins L i).kind=7)&&f (idx s i q)
end
end M16
namespace W16
open Strs Recs
open M15 (Inst rightP okI)
open M16 (Text nexts flat2 eps takes ins idx Pass Real lack endHere Fair)
open W15 (insC insA insC_len Prg rright_any numC numC_len numC_one load_ins slice_num append_num)
open W14 (below_new own_form)
open Kit (below_draws on byte_test)
section
variable {s:ByteArray} {q:Nat} {w:World}
end
theorem wrap_n {k:Nat} (h:k≤1000000):wrap64 (k:Int)=(k:Int):=by unfold wrap64;omega
section
variable {ops:Array Oper} {rest:List Oper} {o:Oper} {a:Act} {w:World} {Q:Exit→Act→World→Prop}
theorem make_op (hgd:o.guard=none) (x y:Operand) (ho:o.op= .makeSlice 37 x y) {n:Nat} (hx:a.eval x= .int .i64 n) (hy:a.eval y= .int .i64 n) (hn:n≤1000000)
    (h: ∀w' b,w.heap.size=b→Bits w' b n (fun _=>false)→Below w.heap.size w w'→w'.heap.size=w.heap.size+1→wpList Tryz.prog ops Q rest (a.put o.dst (.slice (some ⟨b,0,none⟩) n n)) w'):wpList Tryz.prog ops Q (o::rest) a w:=
 wpList_plain hgd fun _ hK=>by
  unfold Oper.wp execOp
  simp only[ho,hx,hy,make_bits w hn,Sem.run_bind,Sem.run_pure,Result.andThen_ok]
  exact hK _ _ (h _ _ rfl (new_bits w n _) (below_new w _) (World.size_alloc w _))
end
section
variable {w:World} {lv:Value} {L:List Inst} {s:ByteArray}
end
section
variable {w:World} {lv:Value} {L:List Inst} {s:ByteArray}
end
end W16
namespace W16
open Strs Recs
open M16 (at_ orL places)
open W15 (numC numC_len numC_one slice_num append_num)
open W14 (below_new own_same)
open Kit (below_draws on)
def truC (b:Bool):List Value:= [.bool b]
theorem truC_len (b:Bool):(truC b).length=1:=rfl
theorem truC_one (b:Bool): ∀c∈truC b,c.oneCell'=true:=by
 intro c hc
 simp only[truC,List.mem_cons,List.not_mem_nil,or_false]at hc
 subst hc
 rfl
abbrev Trus (B:Nat) (w:World) (v:Value) (l:List Bool):Prop:=Recs truC 1 B w v l
theorem trus_at {B n c:Nat} {w:World} {A:Option Addr} {l:List Bool} (h:Trus B w (.slice A n c) l) {k:Nat} (hk:k<n): ∃b o:Nat,A=some ⟨b,o,none⟩∧b<B∧w.cell? ⟨b,o+k,none⟩=some (.bool (at_ l k)):=by
 obtain⟨b,o,hl,e,hb,hc⟩:=h.flat_ truC_len (by decide) hk
 refine⟨b,o,e,hb,?_⟩
 have:=hc 0 (by decide)
 rw[Nat.mul_one,Nat.add_zero]at this
 rw[this]
 unfold at_
 rw[List.getD_eq_getElem?_getD,List.getElem?_eq_getElem hl]
 rfl
theorem Bits.trus {w:World} {b n:Nat} {f:Nat→Bool} (h:Bits w b n f) (hn:n≤1000000):Trus w.heap.size w (.slice (some ⟨b,0,none⟩) n n) ((List.range n).map f):=by
 have hl:((List.range n).map f).length=n:=by simp
 refine⟨some ⟨b,0,none⟩,n,by rw[hl],by rw[hl];exact Nat.le_refl _,by unfold maxLen;omega,fun _=>⟨_,rfl,h.lt,fun k hk j hj=> ?_⟩⟩
 have hj0:j=0:=by omega
 subst hj0
 rw[hl]at hk
 have:(⟨b,0,none⟩:Addr).add (k*1+0)=⟨b,k,none⟩:=by unfold Addr.add;split<;>simp_all
 rw[this,h.cell hk]
 simp[truC]
def GivesRow (w:World) (l:List Bool) (e:Ending) (w':World):Prop:= ∃v,e= .returned v∧Trus w'.heap.size w' v l∧Below w.heap.size w w'
theorem at_range {n t:Nat} {f:Nat→Bool} (h:t<n):at_ ((List.range n).map f) t=f t:=by
 unfold at_
 rw[List.getD_eq_getElem?_getD,List.getElem?_map,List.getElem?_range h]
 rfl
def oneAt (n i:Nat):List Bool:=(List.range (n+1)).map fun j=>decide (j=i)
section
variable {w:World} {B B':Nat} {u v:Value} {l k:List Bool}
theorem at_any {n i:Nat} (hi:i≤n) (hn:n≤1000):Calls Tryz.prog 12 #[.int .i64 n,.int .i64 i] w (GivesRow w (oneAt n i)):=by
 unfold GivesRow
 have hil:(i:Int)≤(n:Int):=by omega
 have hi0:(i:Int)≥0:=by omega
 have hw1:wrap64 ((n:Int)+1)=((n+1:Nat):Int):=wrap_n (k:=n+1) (by omega)
 have HN:=hid (show i≤n∧n≤1000 from⟨hi,hn⟩)
 clear hi hn
 go_enter Tryz.func12,Tryz.ntmps12
 go_wp2_with (first
  |(refine make_op (n:=n+1) rfl (.tmp 7) (.tmp 7) rfl (congrArg (Value.int .i64) hw1) (congrArg (Value.int .i64) hw1) (by have:=HN.out;omega) ?_;intro w2 bm e2 p2 l2 z2;have L2:=hid l2;have c0:=p2.cell (i:=i) (by have:=HN.out;omega);have f0:=p2.free i;have P2:=hid p2;have E2:Hid (w.heap.size≤bm):=(by unfold Hid;omega);clear e2 p2 l2 z2))
 go_ret
 refine⟨_,rfl,?_,L2.out.setCell E2.out _⟩
 have h:=((P2.out.put (i:=i) true).is (g:=fun j=>decide (j=i)) fun j _=>by by_cases e:j=i<;>simp[e]).trus (by have:=HN.out;omega)
 exact h
theorem filter_next (p:Nat→Bool) (i:Nat):(List.range (i+1)).filter p=(List.range i).filter p++(if p i then[i]else[]):=by
 rw[List.range_succ,List.filter_append]
 cases hp:p i<;>simp[hp]
theorem places_any (h:Trus w.heap.size w v l) (hl:l.length≤1000):Calls Tryz.prog 10 #[v] w (GivesInts w (places l)):=by
 unfold GivesInts
 obtain⟨A,c,rfl,h1,h2⟩:=h.form
 obtain⟨n,hn⟩: ∃n,l.length=n:=⟨_,rfl⟩
 have HP:Hid (places l=(List.range n).filter (at_ l)):=by unfold Hid places;rw[hn]
 rw[hn]at h h1 hl ⊢
 have H:=hid h
 unfold maxLen at h2
 have HC:=hid (show n≤c∧c≤9223372036854775807∧n≤1000 from⟨h1,h2,hl⟩)
 clear h h1 h2 hl hn
 go_enter Tryz.func10,Tryz.ntmps10
 go_wp2_with fail
 go_loopg [3,4] n (fun gk s3 s4 wr=> ∃i:Nat,s4= .int .i64 i∧Hid (i+gk=n)∧Hid (wr.ownsRow w.heap.size 3 1 s3 ((List.range i).filter (at_ l)).length (((List.range i).filter (at_ l)).flatMap numC))∧Hid (Below w.heap.size w wr))
 case atStart=>exact⟨0,rfl,by unfold Hid;omega,World.ownsRow_nil _ _ _ _,Below.refl _ _⟩
 case round=>
  obtain⟨i,rfl,hig,OW,LB⟩:=hrel
  cases gk with
  |zero=>
   have hi:i=n:=by have:=hig.out;omega
   subst hi
   have ti: ¬(i:Int)<(i:Int):=by omega
   go_wp2_with fail
   go_ret
   rw[HP.out]
   exact⟨_,rfl,OW.out,LB.out⟩
  |succ gk=>
   have hi:i<n:=by have:=hig.out;omega
   have ti:(i:Int)<(n:Int):=by omega
   obtain⟨b1,o1,rfl,-,e1⟩:=trus_at (H.out.below LB.out) hi
   have hwi:Hid (wrap64 ((i:Int)+1)=((i+1:Nat):Int)):=wrap_n (k:=i+1) (by have:=HC.out;omega)
   have HLN:Hid (((List.range i).filter (at_ l)).length+1≤1000000):=by
    have:=List.length_filter_le (at_ l) (List.range i)
    rw[List.length_range]at this
    unfold Hid
    have:=HC.out
    omega
   have HFN:=hid (filter_next (at_ l) i)
   clear hi
   cases hx:at_ l i with
   |true=>
    rw[hx,if_pos rfl]at HFN
    rw[hx]at e1
    clear hx
    go_wp2_with (first
     |(refine slice_num rfl (.tmp 16) rfl (n:=i) rfl ?_;intro w6 b6 e6 p6 l6 z6;have P6:=hid p6;have L6:=hid l6;clear e6 p6 l6 z6)
     |(refine append_num rfl (.tmp 15) (.tmp 17) rfl rfl rfl (own_same OW.out fun k _ hk=>L6.out.block k hk) P6.out (by simp only[List.length_cons,List.length_nil];exact HLN.out) (Nat.le_trans LB.out.size L6.out.size) ?_;intro v7 w7 o7 p7;have O7:=hid o7;have Q7:=hid p7;clear o7 p7))
    obtain⟨g1,g2',g3',g4',g5'⟩:=Q7.out.grown
    have L7:Hid (Below w.heap.size w w7):=(on LB.out L6.out).trans ⟨g1,g2',g3',g4',fun k hk=>g5' k (Nat.lt_of_lt_of_le hk (Nat.le_trans LB.out.size L6.out.size)) (fun e=>by have:=(OW.out.lt k e.symm).1;omega)⟩
    have OW7:=O7
    rw[←HFN.out]at OW7
    clear g1 g2' g3' g4' g5' O7 Q7 P6 L6 LB OW
    go_roundg gk
    case measure=>omega
    case rel=>exact⟨i+1,by first|rfl|exact congrArg (Value.int .i64) hwi.out,by unfold Hid;have:=hig.out;omega,OW7,L7⟩
   |false=>
    rw[hx,if_neg (by decide),List.append_nil]at HFN
    rw[hx]at e1
    clear hx
    rw[←HFN.out]at OW
    go_wp2_with fail
    go_roundg gk
    case measure=>omega
    case rel=>exact⟨i+1,by first|rfl|exact congrArg (Value.int .i64) hwi.out,by unfold Hid;have:=hig.out;omega,OW,LB⟩
theorem both_any (hu:Trus w.heap.size w u l) (hv:Trus w.heap.size w v k) (hk:l.length=k.length) (hl:l.length≤1000):Calls Tryz.prog 24 #[u,v] w (GivesRow w (orL l k)):=by
 unfold GivesRow
 obtain⟨A,c,rfl,h1,h2⟩:=hu.form
 obtain⟨A',c',rfl,h3,h4⟩:=hv.form
 obtain⟨n,hn⟩: ∃n,l.length=n:=⟨_,rfl⟩
 have HP:Hid (orL l k=(List.range n).map fun i=>at_ l i||at_ k i):=by unfold Hid orL;rw[hn]
 rw[←hk]at hv h3 ⊢
 rw[hn]at hu h1 hl hv h3 ⊢
 have H1:=hid hu
 have H2:=hid hv
 unfold maxLen at h2 h4
 have HC:=hid (show n≤c∧c≤9223372036854775807∧n≤c'∧c'≤9223372036854775807∧n≤1000 from⟨h1,h2,h3,h4,hl⟩)
 clear hu hv h1 h2 h3 h4 hl hn hk
 go_enter Tryz.func24,Tryz.ntmps24
 go_wp2_with (first
  |(refine make_op (n:=n) rfl (.tmp 8) (.tmp 8) rfl rfl rfl (by have:=HC.out;omega) ?_;intro w2 bm e2 p2 l2 z2;have L2:=hid l2;have P2:=hid p2;have E2:Hid (w.heap.size≤bm):=(by unfold Hid;omega);clear e2 p2 l2 z2))
 go_loopg [6] n (fun gk s6 wr=> ∃i:Nat,s6= .int .i64 i∧Hid (i+gk=n)∧Hid (Bits wr bm n fun j=>decide (j<i)&&(at_ l j||at_ k j))∧Hid (Below w.heap.size w wr))
 case atStart=>exact⟨0,rfl,by unfold Hid;omega,P2.out.is fun j _=>by simp,L2⟩
 case round=>
  clear P2 L2
  obtain⟨i,rfl,hig,BT,LB⟩:=hrel
  cases gk with
  |zero=>
   have hi:i=n:=by have:=hig.out;omega
   subst hi
   have ti: ¬(i:Int)<(i:Int):=by omega
   go_wp2_with fail
   go_ret
   rw[HP.out]
   exact⟨_,rfl,(BT.out.is fun j hj=>by rw[decide_eq_true hj,Bool.true_and]).trus (by have:=HC.out;omega),LB.out⟩
  |succ gk=>
   have hi:i<n:=by have:=hig.out;omega
   have ti:(i:Int)<(n:Int):=by omega
   obtain⟨b1,o1,rfl,-,e1⟩:=trus_at (H1.out.below LB.out) hi
   obtain⟨b2,o2,rfl,-,e2⟩:=trus_at (H2.out.below LB.out) hi
   have hwi:Hid (wrap64 ((i:Int)+1)=((i+1:Nat):Int)):=wrap_n (k:=i+1) (by have:=HC.out;omega)
   have f0:=BT.out.free i
   have c0:=BT.out.cell hi
   obtain⟨x,hx⟩: ∃x,at_ l i=x:=⟨_,rfl⟩
   obtain⟨y,hy⟩: ∃y,at_ k i=y:=⟨_,rfl⟩
   have BN: ∀z,z=(x||y)→Hid (Bits (wr.setCell ⟨bm,i,none⟩ (.bool z)) bm n fun j=>decide (j<i+1)&&(at_ l j||at_ k j)):=fun z hz=>(BT.out.put z).is fun j _=>by
    by_cases e:j=i
    ·subst e
     rw[if_pos rfl,hz,decide_eq_true (Nat.lt_succ_self _),Bool.true_and,hx,hy]
    ·rw[if_neg e]
     congr 1
     simp only[decide_eq_decide]
     omega
   have LN: ∀z:Bool,Hid (Below w.heap.size w (wr.setCell ⟨bm,i,none⟩ (.bool z))):=fun z=>LB.out.setCell E2.out _
   rw[hx]at e1
   rw[hy]at e2
   clear hx hy hi BT LB
   cases x with
   |true=>
    have BN2:=BN true (by simp)
    have LN2:=LN true
    clear BN LN
    go_wp2_with fail
    go_roundg gk
    case measure=>omega
    case rel=>exact⟨i+1,by first|rfl|exact congrArg (Value.int .i64) hwi.out,by unfold Hid;have:=hig.out;omega,BN2,LN2⟩
   |false=>
    have BN2:=BN y (by simp)
    have LN2:=LN y
    clear BN LN
    go_wp2_with fail
    go_roundg gk
    case measure=>omega
    case rel=>exact⟨i+1,by first|rfl|exact congrArg (Value.int .i64) hwi.out,by unfold Hid;have:=hig.out;omega,BN2,LN2⟩
end
end W16
namespace W16
open Go.Shelf Strs Recs Range
open M15 (Inst rightP)
open M16 (Text yields)
open W15 (Prg)
open Kit (below_draws on)
attribute [local go_sem] Oper.semAt_some
def Own1 (T:Nat→Prop) (W:World) (q:Nat) (t:TypeId) (v:Value):Prop:=Boxed W q t v∧ ¬T q
theorem Own1.on {T:Nat→Prop} {A B:World} {q:Nat} {t:TypeId} {v:Value} (h:Own1 T A q t v) (ht:Turns T A B):Own1 (Fresh T A B) B q t v:=
 ⟨ht.keeps h.1 h.2,fun k=>by
  rcases k with k|k
  ·exact h.2 k
  ·have:=h.1.lt;omega⟩
theorem low_on {T:Nat→Prop} {w0 A B:World} {q:Nat} (h:Below q w0 A) (hT:Lies q T A) (ht:Turns T A B) (hA:q≤A.heap.size):Below q w0 B:=h.trans (ht.below (fun k hk=>(hT k hk).1) hA)
theorem results_bool {fn:Func} {p:Tmp} (h:fn.results= #[.cell p 4]) (tmps:Array Value) (w:World) (q:Nat) (v:Value) (hp:tmps.getD p undef= .pointer (some ⟨q,0,none⟩)) (hc:w.cell? ⟨q,0,none⟩=some v):(results fn tmps).run Tryz.prog w= .ok v w:=by
 rw[Array.getD_eq_getD_getElem?]at hp
 simp only[results,h]
 simp[Sem.run_bind,Result.andThen,hp,go_sem,hc]
section
variable {w:World} {lv:Value} {L:List Inst} {s:ByteArray}
theorem search_any (h:Prg w.heap.size w lv L) (hn:L.length≤900000) (hs:s.size≤900000):Calls Tryz.prog 14 #[lv,.string s] w fun e w'=>e= .returned (.bool (!(yields L s.data.toList 0 s.size).isEmpty))∧Below w.heap.size w w':=by
 obtain⟨A,c,rfl,-,-⟩:=h.form
 have HP:=hid h
 have HN:=hid (show L.length≤900000∧s.size≤900000 from⟨hn,hs⟩)
 obtain⟨xs,hxs⟩: ∃xs,yields L s.data.toList 0 s.size=xs:=⟨_,rfl⟩
 rw[hxs]
 clear h hn hs
 refine(callsIn_wide (n:=9)).1 ?_
 refine callsIn_of_wp_marks Tryz.func14 rfl trivial ?_ rfl
 simp only[Tryz.ntmps14,List.size_toArray,List.length_cons,List.length_nil,Nat.reduceAdd,Nat.reduceSub,Array.replicate_succ,Array.replicate_zero,List.push_toArray,List.append_toArray,List.nil_append,List.cons_append]
 gi_wp2
 obtain⟨q,hq⟩: ∃q,w.heap.size=q:=⟨_,rfl⟩
 have HQ:=hid hq
 have x0:=Boxed.new w 4 (.bool false)
 have hb1:Below w.heap.size w (w.alloc (.cells #[.bool false] 4)):=W14.below_new _ _
 have hz1:(w.alloc (.cells #[.bool false] 4)).heap.size=q+1:=by rw[World.size_alloc,hq]
 generalize w.alloc (.cells #[.bool false] 4)=w1 at*
 rw[hq]at x0
 have hp1:=hid (HP.out.below hb1)
 have hx1:=hid x0
 have L1:=hid hb1
 have Z1:=hid hz1
 clear x0 hb1 hz1
 refine⟨trivial,?_⟩
 refine(callsIn_wide.2 (endsOf_any A L.length c s 0 s.size w1)).mono ?_
 rintro e w2 ⟨rfl,hcaps,hb2,hz2⟩
 rw[Z1.out]at hcaps hz2 ⊢
 have hseq:=hid (ends_seq ⟨q,q+1,.slice A L.length c,L,s,0,s.size⟩ w2 (by have h2:=hp1.out.below (hb2.mono L1.out.size);rw[HQ.out]at h2;exact h2) hcaps HN.out.1 (by show s.size≤_;have:=HN.out.2;omega) (Nat.zero_le _) (Nat.le_refl _))
 have hx2:Boxed w2 q 4 (.bool false):=(hb2.block q (by rw[Z1.out];omega)).trans hx1.out
 have hB2:=on L1.out hb2
 simp only at hseq
 rw[hxs]at hseq
 clear hcaps hp1 hx1 L1 Z1 hb2 hxs HP
 gi_wp2
 have hO:Lies q (Four (q+1)) w2:=fun k hk=>⟨by have:=hk.1;omega,by have:=hk.2;omega⟩
 have hB2':Below q w w2:=hB2.mono (by omega)
 refine wp_rangeH (gf:=35) (lb:=caught (q+1)) rfl (enters_of Tryz.func35 (by kernel_rfl) rfl) hseq.out hO (by omega) (fun _=>rfl)
  (fun T pre W=>pre= []∧Own1 T W q 4 (.bool false)∧Below q w W) (fun c T pre W=>c= .ret∧pre≠ []∧Own1 T W q 4 (.bool true)∧Below q w W)
  (fun T s A B ⟨h1,h2,h3⟩ hT hA ht=>⟨h1,h2.on ht,low_on h3 hT ht hA⟩) (fun c T s A B ⟨h0,h1,h2,h3⟩ hT hA ht=>⟨h0,h1,h2.on ht,low_on h3 hT ht hA⟩)
  ⟨rfl,⟨hx2,fun h=>by have:=h.1;omega⟩,hB2'⟩
  (fun x=> {tmps:= #[.slice A L.length c,.string s,undef,undef,.pointer (some ⟨q,0,none⟩),.slice A L.length c,.string s,.string s,.int .i64 s.size,.func (.func 35) #[] (caught (q+1)),.int .i64 x.1,.int .i64 x.2],defers:= []}) ?assign ?body ?done ?stop
 case assign=>
  intro l x W K hK
  unfold twoV
  gi_wp2
  simpa using hK
 case body=>
  rintro l T pre x W ⟨rfl,⟨hv,hTq⟩,hB⟩ hT hb hpre
  have hc:=hv.cell
  have hf:=hv.frozen
  gi_wp2
  have t2:Turns (fun k=>q≤k∧ ¬T k) W (W.setCell ⟨q,0,none⟩ (.bool true)):=Turns.setCell (a:=⟨q,0,none⟩) _ ⟨by show q≤q;omega,hTq⟩
  exact⟨t2,rfl,by simp,⟨hv.set _,hTq⟩,hB.trans (t2.below (fun k hk=>hk.1) (by have:=hv.lt;omega))⟩
 case done=>
  rintro T W ⟨hx0,⟨hv,hTq⟩,hB⟩ hT hOT hTd hK htW
  have hc:=hv.cell
  have hf:=hv.frozen
  subst hx0
  gi_wp2
  refine⟨by simp,.inl ⟨_,_,rfl,run_takeDeferred ((heap_setCell_other W ⟨q,0,none⟩ w2.heap.size (.bool false) (by show w2.heap.size≠q;omega)).trans hK),?_⟩⟩
  have h3:Below q W ((W.setCell ⟨q,0,none⟩ (.bool false)).putObj w2.heap.size (.deferred none)):=((Turns.setCell (T:=fun k=>q≤k) (a:=⟨q,0,none⟩) _ (Nat.le_refl q)).trans (Turns.putObj (T:=fun k=>q≤k) _ (by omega))).below (fun k hk=>hk) (by have:=hv.lt;omega)
  refine⟨_,results_bool rfl _ _ q (.bool false) rfl ((World.cell?_of_block (World.putObj_heap_other (by show q≠w2.heap.size;omega))).trans (hv.set (.bool false)).cell),rfl,by rw[hq];exact hB.trans h3⟩
 case stop=>
  rintro c T pre W hpre ⟨rfl,hne,⟨hv,hTq⟩,hB⟩ hT hOT hTd hK htW
  have hc:=hv.cell
  gi_wp2
  refine⟨by simp,.inl ⟨_,_,rfl,run_takeDeferred hK,?_⟩⟩
  have h3:Below q W (W.putObj w2.heap.size (.deferred none)):=(Turns.putObj (T:=fun k=>q≤k) _ (by omega)).below (fun k hk=>hk) (by have:=hB.size;omega)
  have hx:xs.isEmpty=false:=by
   cases xs with
   |nil=>exact absurd (List.prefix_nil.1 hpre) hne
   |cons x l=>rfl
  rw[hx]
  exact⟨_,results_bool rfl _ _ q (.bool true) rfl ((World.cell?_of_block (World.putObj_heap_other (by show q≠w2.heap.size;omega))).trans hc),rfl,by rw[hq];exact hB.trans h3⟩
theorem whole_any (h:Prg w.heap.size w lv L) (hn:L.length≤900000) (hs:s.size≤900000):Calls Tryz.prog 15 #[lv,.string s] w fun e w'=>e= .returned (.bool ((yields L s.data.toList 0 0).any fun y=>decide (y.2=s.size)))∧Below w.heap.size w w':=by
 obtain⟨A,c,rfl,-,-⟩:=h.form
 have HP:=hid h
 have HN:=hid (show L.length≤900000∧s.size≤900000 from⟨hn,hs⟩)
 obtain⟨xs,hxs⟩: ∃xs,yields L s.data.toList 0 0=xs:=⟨_,rfl⟩
 rw[hxs]
 clear h hn hs
 refine(callsIn_wide (n:=9)).1 ?_
 refine callsIn_of_wp_marks Tryz.func15 rfl trivial ?_ rfl
 simp only[Tryz.ntmps15,List.size_toArray,List.length_cons,List.length_nil,Nat.reduceAdd,Nat.reduceSub,Array.replicate_succ,Array.replicate_zero,List.push_toArray,List.append_toArray,List.nil_append,List.cons_append]
 obtain⟨q,hq⟩: ∃q,w.heap.size=q:=⟨_,rfl⟩
 have HQ:=hid hq
 gi_wp2
 have y0:=Boxed.new w 9 (.string s)
 have hb0:Below w.heap.size w (w.alloc (.cells #[.string s] 9)):=W14.below_new _ _
 have hz0:(w.alloc (.cells #[.string s] 9)).heap.size=q+1:=by rw[World.size_alloc,hq]
 generalize w.alloc (.cells #[.string s] 9)=w0 at*
 have x0:=Boxed.new w0 4 (.bool false)
 have hb1:Below w0.heap.size w0 (w0.alloc (.cells #[.bool false] 4)):=W14.below_new _ _
 have hz1:(w0.alloc (.cells #[.bool false] 4)).heap.size=q+2:=by rw[World.size_alloc,hz0]
 generalize w0.alloc (.cells #[.bool false] 4)=w1 at*
 rw[hq]at y0
 rw[hz0]at x0
 have hp1:=hid (HP.out.below (on hb0 hb1))
 have hx1:=hid x0
 have hy1:Hid (Boxed w1 q 9 (.string s)):=(hb1.block q (by rw[hz0];omega)).trans y0
 have L1:=hid (on hb0 hb1)
 have Z1:=hid hz1
 clear x0 y0 hb0 hz0 hb1 hz1
 refine⟨trivial,?_⟩
 refine(callsIn_wide.2 (endsOf_any A L.length c s 0 0 w1)).mono ?_
 rintro e w2 ⟨rfl,hcaps,hb2,hz2⟩
 rw[Z1.out]at hcaps hz2 ⊢
 have hseq:=hid (ends_seq ⟨q,q+2,.slice A L.length c,L,s,0,0⟩ w2 (by have h2:=hp1.out.below (hb2.mono L1.out.size);rw[HQ.out]at h2;exact h2) hcaps HN.out.1 (by show s.size≤_;have:=HN.out.2;omega) (Nat.le_refl _) (Nat.zero_le _))
 have hx2:Boxed w2 (q+1) 4 (.bool false):=(hb2.block (q+1) (by rw[Z1.out];omega)).trans hx1.out
 have hy2:Boxed w2 q 9 (.string s):=(hb2.block q (by rw[Z1.out];omega)).trans hy1.out
 have hB2:=on L1.out hb2
 simp only at hseq
 rw[hxs]at hseq
 clear hcaps hp1 hx1 hy1 L1 Z1 hb2 hxs HP
 gi_wp2
 have hO:Lies q (Four (q+2)) w2:=fun k hk=>⟨by have:=hk.1;omega,by have:=hk.2;omega⟩
 have hB2':Below q w w2:=hB2.mono (by omega)
 refine wp_rangeH (gf:=35) (lb:=caught (q+2)) rfl (enters_of Tryz.func35 (by kernel_rfl) rfl) hseq.out hO (by omega) (fun _=>rfl)
  (fun T pre W=>(∀y∈pre,y.2≠s.size)∧Own1 T W (q+1) 4 (.bool false)∧Own1 T W q 9 (.string s)∧Below q w W) (fun c T pre W=>c= .ret∧(∃y∈pre,y.2=s.size)∧Own1 T W (q+1) 4 (.bool true)∧Below q w W)
  (fun T s A B ⟨h1,h2,h4,h3⟩ hT hA ht=>⟨h1,h2.on ht,h4.on ht,low_on h3 hT ht hA⟩) (fun c T s A B ⟨h0,h1,h2,h3⟩ hT hA ht=>⟨h0,h1,h2.on ht,low_on h3 hT ht hA⟩)
  ⟨by simp,⟨hx2,fun h=>by have:=h.1;omega⟩,⟨hy2,fun h=>by have:=h.1;omega⟩,hB2'⟩
  (fun x=> {tmps:= #[.slice A L.length c,.string s,undef,.pointer (some ⟨q,0,none⟩),.pointer (some ⟨q+1,0,none⟩),undef,.int .i64 x.2,.slice A L.length c,.string s,.func (.func 35) #[] (caught (q+2)),.int .i64 x.1,.int .i64 x.2,undef,undef,undef,undef],defers:= []}) ?assign ?body ?done ?stop
 case assign=>
  intro l x W K hK
  unfold twoV
  gi_wp2
  simpa using hK
 case body=>
  rintro l T pre x W ⟨hno,⟨hv,hTq⟩,⟨hy,hTy⟩,hB⟩ hT hb hpre
  have hc:=hv.cell
  have hf:=hv.frozen
  have hyc:=hy.cell
  by_cases he:x.2=s.size
  ·have te:((x.2:Int)==(s.size:Int))=true:=by simp;omega
   gi_wp2
   have t2:Turns (fun k=>q≤k∧ ¬T k) W (W.setCell ⟨q+1,0,none⟩ (.bool true)):=Turns.setCell (a:=⟨q+1,0,none⟩) _ ⟨by show q≤q+1;omega,hTq⟩
   exact⟨t2,rfl,⟨x,by simp,he⟩,⟨hv.set _,hTq⟩,hB.trans (t2.below (fun k hk=>hk.1) (by have:=hv.lt;omega))⟩
  ·have te:((x.2:Int)==(s.size:Int))=false:=by simp;omega
   gi_wp2
   refine⟨Turns.refl _ _,fun y hy=> ?_,⟨hv,hTq⟩,⟨by assumption,hTy⟩,hB⟩
   rcases List.mem_append.1 hy with h|h
   ·exact hno y h
   ·simp at h;subst h;exact he
 case done=>
  rintro T W ⟨hno,⟨hv,hTq⟩,-,hB⟩ hT hOT hTd hK htW
  have hc:=hv.cell
  have hf:=hv.frozen
  have hx:(xs.any fun y=>decide (y.2=s.size))=false:=by
   rw[List.any_eq_false]
   intro y hy
   simpa using hno y hy
  gi_wp2
  refine⟨by simp,.inl ⟨_,_,rfl,run_takeDeferred ((heap_setCell_other W ⟨q+1,0,none⟩ w2.heap.size (.bool false) (by show w2.heap.size≠q+1;omega)).trans hK),?_⟩⟩
  have h3:Below q W ((W.setCell ⟨q+1,0,none⟩ (.bool false)).putObj w2.heap.size (.deferred none)):=((Turns.setCell (T:=fun k=>q≤k) (a:=⟨q+1,0,none⟩) _ (Nat.le_succ q)).trans (Turns.putObj (T:=fun k=>q≤k) _ (by omega))).below (fun k hk=>hk) (by have:=hv.lt;omega)
  rw[hx]
  refine⟨_,results_bool rfl _ _ (q+1) (.bool false) rfl ((World.cell?_of_block (World.putObj_heap_other (by show q+1≠w2.heap.size;omega))).trans (hv.set (.bool false)).cell),rfl,by rw[hq];exact hB.trans h3⟩
 case stop=>
  rintro c T pre W hpre ⟨rfl,⟨y,hy,hye⟩,⟨hv,hTq⟩,hB⟩ hT hOT hTd hK htW
  have hc:=hv.cell
  gi_wp2
  refine⟨by simp,.inl ⟨_,_,rfl,run_takeDeferred hK,?_⟩⟩
  have h3:Below q W (W.putObj w2.heap.size (.deferred none)):=(Turns.putObj (T:=fun k=>q≤k) _ (by omega)).below (fun k hk=>hk) (by have:=hB.size;omega)
  have hx:(xs.any fun y=>decide (y.2=s.size))=true:=by
   rw[List.any_eq_true]
   exact⟨y,hpre.subset hy,by simpa using hye⟩
  rw[hx]
  exact⟨_,results_bool rfl _ _ (q+1) (.bool true) rfl ((World.cell?_of_block (World.putObj_heap_other (by show q+1≠w2.heap.size;omega))).trans hc),rfl,by rw[hq];exact hB.trans h3⟩
def lastOf (l:List M16.Mark):Nat×Nat×Bool:=match l.getLast? with
 |some x=>(x.1,x.2,true)
 |none=>(0,0,false)
theorem lastOf_snoc (l:List M16.Mark) (x:M16.Mark):lastOf (l++ [x])=(x.1,x.2,true):=by
 unfold lastOf
 rw[List.getLast?_concat]
structure Three (T:Nat→Prop) (W:World) (q:Nat) (r:Nat×Nat×Bool):Prop where
 a:Own1 T W q 3 (.int .i64 r.1)
 b:Own1 T W (q+1) 3 (.int .i64 r.2.1)
 c:Own1 T W (q+2) 4 (.bool r.2.2)
theorem Three.on {T:Nat→Prop} {A B:World} {q:Nat} {r:Nat×Nat×Bool} (h:Three T A q r) (ht:Turns T A B):Three (Fresh T A B) B q r:=⟨h.a.on ht,h.b.on ht,h.c.on ht⟩
theorem first_any (h:Prg w.heap.size w lv L) (hn:L.length≤900000) (hs:s.size≤900000):Calls Tryz.prog 13 #[lv,.string s] w fun e w'=>e= .returned (.tuple #[.int .i64 (lastOf (yields L s.data.toList 0 s.size)).1,.int .i64 (lastOf (yields L s.data.toList 0 s.size)).2.1,.bool (lastOf (yields L s.data.toList 0 s.size)).2.2])∧Below w.heap.size w w':=by
 obtain⟨A,c,rfl,-,-⟩:=h.form
 have HP:=hid h
 have HN:=hid (show L.length≤900000∧s.size≤900000 from⟨hn,hs⟩)
 obtain⟨xs,hxs⟩: ∃xs,yields L s.data.toList 0 s.size=xs:=⟨_,rfl⟩
 rw[hxs]
 clear h hn hs
 refine(callsIn_wide (n:=9)).1 ?_
 refine callsIn_of_wp_marks Tryz.func13 rfl trivial ?_ rfl
 simp only[Tryz.ntmps13,List.size_toArray,List.length_cons,List.length_nil,Nat.reduceAdd,Nat.reduceSub,Array.replicate_succ,Array.replicate_zero,List.push_toArray,List.append_toArray,List.nil_append,List.cons_append]
 obtain⟨q,hq⟩: ∃q,w.heap.size=q:=⟨_,rfl⟩
 have HQ:=hid hq
 gi_wp2
 have y0:=Boxed.new w 3 (.int .i64 0)
 have hb0:Below w.heap.size w (w.alloc (.cells #[.int .i64 0] 3)):=W14.below_new _ _
 have hz0:(w.alloc (.cells #[.int .i64 0] 3)).heap.size=q+1:=by rw[World.size_alloc,hq]
 generalize w.alloc (.cells #[.int .i64 0] 3)=wa at*
 have x0:=Boxed.new wa 3 (.int .i64 0)
 have hb1:Below wa.heap.size wa (wa.alloc (.cells #[.int .i64 0] 3)):=W14.below_new _ _
 have hz1:(wa.alloc (.cells #[.int .i64 0] 3)).heap.size=q+2:=by rw[World.size_alloc,hz0]
 generalize wa.alloc (.cells #[.int .i64 0] 3)=wb at*
 have z0:=Boxed.new wb 4 (.bool false)
 have hb2:Below wb.heap.size wb (wb.alloc (.cells #[.bool false] 4)):=W14.below_new _ _
 have hz2:(wb.alloc (.cells #[.bool false] 4)).heap.size=q+3:=by rw[World.size_alloc,hz1]
 generalize wb.alloc (.cells #[.bool false] 4)=w1 at*
 rw[hq]at y0
 rw[hz0]at x0
 rw[hz1]at z0
 have hp1:=hid (HP.out.below (on (on hb0 hb1) hb2))
 have hx1:Hid (Boxed w1 (q+1) 3 (.int .i64 0)):=(hb2.block (q+1) (by rw[hz1];omega)).trans x0
 have hy1:Hid (Boxed w1 q 3 (.int .i64 0)):=((on hb1 hb2).block q (by rw[hz0];omega)).trans y0
 have hu1:=hid z0
 have L1:=hid (on (on hb0 hb1) hb2)
 have Z1:=hid hz2
 clear x0 y0 z0 hb0 hz0 hb1 hz1 hb2 hz2
 refine⟨trivial,?_⟩
 refine(callsIn_wide.2 (endsOf_any A L.length c s 0 s.size w1)).mono ?_
 rintro e w2 ⟨rfl,hcaps,hb2,hz2⟩
 rw[Z1.out]at hcaps hz2 ⊢
 have hseq:=hid (ends_seq ⟨q,q+3,.slice A L.length c,L,s,0,s.size⟩ w2 (by have h2:=hp1.out.below (hb2.mono L1.out.size);rw[HQ.out]at h2;exact h2) hcaps HN.out.1 (by show s.size≤_;have:=HN.out.2;omega) (Nat.zero_le _) (Nat.le_refl _))
 have hx2:Boxed w2 (q+1) 3 (.int .i64 0):=(hb2.block (q+1) (by rw[Z1.out];omega)).trans hx1.out
 have hy2:Boxed w2 q 3 (.int .i64 0):=(hb2.block q (by rw[Z1.out];omega)).trans hy1.out
 have hu2:Boxed w2 (q+2) 4 (.bool false):=(hb2.block (q+2) (by rw[Z1.out];omega)).trans hu1.out
 have hB2:=on L1.out hb2
 simp only at hseq
 rw[hxs]at hseq
 clear hcaps hp1 hx1 hy1 hu1 L1 Z1 hb2 hxs HP
 gi_wp2
 have hO:Lies q (Four (q+3)) w2:=fun k hk=>⟨by have:=hk.1;omega,by have:=hk.2;omega⟩
 have hB2':Below q w w2:=hB2.mono (by omega)
 refine wp_rangeH (gf:=35) (lb:=caught (q+3)) rfl (enters_of Tryz.func35 (by kernel_rfl) rfl) hseq.out hO (by omega) (fun _=>rfl)
  (fun T pre W=>Three T W q (lastOf pre)∧Below q w W) (fun _ _ _ _=>False)
  (fun T s A B ⟨h1,h3⟩ hT hA ht=>⟨h1.on ht,low_on h3 hT ht hA⟩) (fun _ _ _ _ _ h=>h.elim)
  ⟨⟨⟨hy2,fun h=>by have:=h.1;omega⟩,⟨hx2,fun h=>by have:=h.1;omega⟩,⟨hu2,fun h=>by have:=h.1;omega⟩⟩,hB2'⟩
  (fun x=> {tmps:= #[.slice A L.length c,.string s,undef,undef,.int .i64 0,.int .i64 0,.bool false,.pointer (some ⟨q,0,none⟩),.pointer (some ⟨q+1,0,none⟩),.pointer (some ⟨q+2,0,none⟩),.int .i64 x.1,.int .i64 x.2,.slice A L.length c,.string s,.string s,.int .i64 s.size,.func (.func 35) #[] (caught (q+3)),.int .i64 x.1,.int .i64 x.2,undef,undef,undef,undef,undef],defers:= []}) ?assign ?body ?done ?stop
 case assign=>
  intro l x W K hK
  unfold twoV
  gi_wp2
  exact hK
 case body=>
  rintro l T pre x W ⟨⟨⟨ha,hTa⟩,⟨hb',hTb⟩,⟨hu,hTu⟩⟩,hB⟩ hT hb hpre
  have ca:=ha.cell
  have fa:=ha.frozen
  have cb:=hb'.cell
  have fb:=hb'.frozen
  have cu:=hu.cell
  have fu:=hu.frozen
  gi_wp2
  have t1:Turns (fun k=>q≤k∧ ¬T k) W (W.setCell ⟨q,0,none⟩ (.int .i64 x.1)):=Turns.setCell (a:=⟨q,0,none⟩) _ ⟨by show q≤q;omega,hTa⟩
  have t2:Turns (fun k=>q≤k∧ ¬T k) (W.setCell ⟨q,0,none⟩ (.int .i64 x.1)) ((W.setCell ⟨q,0,none⟩ (.int .i64 x.1)).setCell ⟨q+1,0,none⟩ (.int .i64 x.2)):=Turns.setCell (a:=⟨q+1,0,none⟩) _ ⟨by show q≤q+1;omega,hTb⟩
  have t3:Turns (fun k=>q≤k∧ ¬T k) ((W.setCell ⟨q,0,none⟩ (.int .i64 x.1)).setCell ⟨q+1,0,none⟩ (.int .i64 x.2)) (((W.setCell ⟨q,0,none⟩ (.int .i64 x.1)).setCell ⟨q+1,0,none⟩ (.int .i64 x.2)).setCell ⟨q+2,0,none⟩ (.bool true)):=Turns.setCell (a:=⟨q+2,0,none⟩) _ ⟨by show q≤q+2;omega,hTu⟩
  have t:=(t1.trans t2).trans t3
  refine⟨t,?_,hB.trans (t.below (fun k hk=>hk.1) (by have:=hu.lt;omega))⟩
  rw[lastOf_snoc]
  have a1:=ha.set (.int .i64 x.1)
  have b1:Boxed (W.setCell ⟨q,0,none⟩ (.int .i64 x.1)) (q+1) 3 (.int .i64 (lastOf pre).2.1):=(heap_setCell_other W _ (q+1) _ (by show q+1≠q;omega)).trans hb'
  have u1:Boxed (W.setCell ⟨q,0,none⟩ (.int .i64 x.1)) (q+2) 4 (.bool (lastOf pre).2.2):=(heap_setCell_other W _ (q+2) _ (by show q+2≠q;omega)).trans hu
  have a2:Boxed ((W.setCell ⟨q,0,none⟩ (.int .i64 x.1)).setCell ⟨q+1,0,none⟩ (.int .i64 x.2)) q 3 (.int .i64 x.1):=(heap_setCell_other _ _ q _ (by show q≠q+1;omega)).trans a1
  have b2:=b1.set (.int .i64 x.2)
  have u2:Boxed ((W.setCell ⟨q,0,none⟩ (.int .i64 x.1)).setCell ⟨q+1,0,none⟩ (.int .i64 x.2)) (q+2) 4 (.bool (lastOf pre).2.2):=(heap_setCell_other _ _ (q+2) _ (by show q+2≠q+1;omega)).trans u1
  exact⟨⟨(heap_setCell_other _ _ q _ (by show q≠q+2;omega)).trans a2,hTa⟩,⟨(heap_setCell_other _ _ (q+1) _ (by show q+1≠q+2;omega)).trans b2,hTb⟩,⟨u2.set (.bool true),hTu⟩⟩
 case done=>
  rintro T W ⟨⟨⟨ha,hTa⟩,⟨hb',hTb⟩,⟨hu,hTu⟩⟩,hB⟩ hT hOT hTd hK htW
  have ca:=ha.cell
  have cb:=hb'.cell
  have cu:=hu.cell
  obtain⟨⟨ra,rb,rc⟩,hr⟩: ∃r,lastOf xs=r:=⟨_,rfl⟩
  have HR:=hid hr
  rw[hr]at ca cb cu
  simp only at ca cb cu
  gi_wp2
  refine wpIn_wide.2 ?_
  go_quiet (fail)
  gi_wp2
  refine⟨by simp,.inl ⟨_,_,rfl,run_takeDeferred (w:=W.drewN nq) hK,?_⟩⟩
  have h3:Below q W ((W.drewN nq).putObj w2.heap.size (.deferred none)):=((Turns.draw (fun k=>q≤k) W nq).trans (Turns.putObj (T:=fun k=>q≤k) _ (by omega))).below (fun k hk=>hk) (by have:=hB.size;omega)
  rw[HR.out]
  exact⟨_,results_tmp3 rfl _ _ _,rfl,by rw[hq];exact hB.trans h3⟩
 case stop=>
  intro c T pre W _ h
  exact h.elim
end
end W16
namespace M15
open Go M14
open M13 (good)
theorem times_of {f:Nat→List Inst} {x:Inst}: ∀(n a:Nat),x∈times f n a→ ∃b,x∈f b
 |0,_,h=>by simp[times]at h
 |n+1,a,h=>by
  rw[times]at h
  rcases List.mem_append.1 h with h|h
  ·exact⟨_,h⟩
  ·exact times_of n _ h
def Txt (x:Inst):Prop:=txtOk x.kind x.text=true
theorem txt_split (x y:Nat):Txt (split x y):=rfl
theorem txt_jump (x:Nat):Txt (jump x):=rfl
theorem maybe_txt {f:Nat→List Inst} {e:Nat} (hf: ∀a x,x∈f a→Txt x) {x:Inst}: ∀(n a:Nat),x∈maybe f e n a→Txt x
 |0,_,h=>by simp[maybe]at h
 |n+1,a,h=>by
  rw[maybe]at h
  rcases List.mem_cons.1 h with h|h
  ·rw[h];exact txt_split _ _
  ·rcases List.mem_append.1 h with h|h
   ·exact hf _ _ h
   ·exact maybe_txt hf n _ h
theorem star_txt {f:Nat→List Inst} {e a:Nat} (hf: ∀a x,x∈f a→Txt x) {x:Inst} (h:x∈star f e a):Txt x:=by
 unfold star at h
 rcases List.mem_cons.1 h with h|h
 ·rw[h];exact txt_split _ _
 ·rcases List.mem_append.1 h with h|h
  ·exact hf _ _ h
  ·rw[List.mem_singleton.1 h];exact txt_jump _
theorem seqs_txt {x:Inst}: ∀ {ks:List Piece},(∀p,p∈ks→ ∀a x,x∈steps p a→Txt x)→ ∀a,x∈seqs ks a→Txt x
 | [],_,a,h=>by simp[seqs]at h
 |p::l,hk,a,h=>by
  rw[seqs]at h
  rcases List.mem_append.1 h with h|h
  ·exact hk p (by simp) _ _ h
  ·exact seqs_txt (fun q hq=>hk q (by simp[hq])) _ h
theorem alts_txt {x:Inst} {e:Nat}: ∀ {ks:List Piece},(∀p,p∈ks→ ∀a x,x∈steps p a→Txt x)→ ∀a,x∈alts ks a e→Txt x
 | [],_,a,h=>by simp[alts]at h
 |p::l,hk,a,h=>by
  rw[alts]at h
  split at h
  ·exact hk p (by simp) _ _ h
  ·rcases List.mem_cons.1 h with h|h
   ·rw[h];exact txt_split _ _
   ·rcases List.mem_append.1 h with h|h
    ·exact hk p (by simp) _ _ h
    ·rcases List.mem_cons.1 h with h|h
     ·rw[h];exact txt_jump _
     ·exact alts_txt (fun q hq=>hk q (by simp[hq])) _ h
theorem first_txt {x:Inst} {ks:List Piece} (hk: ∀p,p∈ks→ ∀a x,x∈steps p a→Txt x) {a:Nat} (h:x∈first ks a):Txt x:=by
 match ks,hk,h with
 | [],_,h=>simp[first]at h
 |p::l,hk,h=>exact hk p (by simp) a x h
theorem steps_txt (p:Piece):gwhole p=true→ ∀a x,x∈steps p a→Txt x:=by
 induction p using ind with
 |h k t ks m tp ih=>
  intro h a x hx
  rw[gwhole_mk,Bool.and_eq_true]at h
  have hk: ∀p,p∈ks→ ∀a x,x∈steps p a→Txt x:=fun p hp=>ih p hp (List.all_eq_true.1 h.1 p hp)
  have h2:=h.2
  unfold steps at hx
  have h0:txtOk 2 no=true∧txtOk 4 no=true∧txtOk 5 no=true:=⟨rfl,rfl,rfl⟩
  by_cases c2:k=2
  ·rw[if_pos c2]at hx
   rw[List.mem_singleton.1 hx]
   subst c2
   unfold own at h2
   rw[if_neg (by decide),if_neg (by decide),if_pos rfl]at h2
   simp only[Bool.and_eq_true]at h2
   exact h2.2.2.2
  rw[if_neg c2]at hx
  by_cases c3:k=3
  ·rw[if_pos c3]at hx
   rw[List.mem_singleton.1 hx];exact h0.1
  rw[if_neg c3]at hx
  by_cases c4:k=4
  ·rw[if_pos c4]at hx
   rw[List.mem_singleton.1 hx]
   subst c4
   unfold own at h2
   rw[if_neg (by decide),if_neg (by decide),if_neg (by decide),if_pos rfl]at h2
   simp only[Bool.and_eq_true]at h2
   exact h2.2.2.2
  rw[if_neg c4]at hx
  by_cases c5:k=5
  ·rw[if_pos c5]at hx
   rw[List.mem_singleton.1 hx];exact h0.2.1
  rw[if_neg c5]at hx
  by_cases c6:k=6
  ·rw[if_pos c6]at hx
   rw[List.mem_singleton.1 hx];exact h0.2.2
  rw[if_neg c6]at hx
  by_cases c7:k=7
  ·rw[if_pos c7]at hx;exact seqs_txt hk a hx
  rw[if_neg c7]at hx
  by_cases c8:k=8
  ·rw[if_pos c8]at hx;exact alts_txt hk a hx
  rw[if_neg c8]at hx
  by_cases c9:k=9
  ·rw[if_pos c9]at hx
   have hf: ∀a x,x∈first ks a→Txt x:=fun a x q=>first_txt hk q
   unfold reps at hx
   rcases List.mem_append.1 hx with hx|hx
   ·obtain⟨b,hb⟩:=times_of _ _ hx
    exact hf _ _ hb
   ·split at hx
    ·exact star_txt hf hx
    ·exact maybe_txt hf _ _ hx
  rw[if_neg c9]at hx
  simp at hx
theorem prog_len {p:Piece} (hg:Good p) (hs:size p≤4000):(prog p).length=size p+1:=by
 unfold prog
 rw[List.length_append,steps_len hg hs];rfl
theorem prog_right {p:Piece} (h:gwhole p=true) (hs:size p≤4000):rightP (prog p)=true:=by
 have hg:=good_of h
 have hl:=prog_len hg hs
 unfold rightP
 rw[hl,decide_eq_true (Nat.succ_pos _),Bool.and_true]
 refine List.all_eq_true.2 fun x hx=> ?_
 unfold prog at hx
 rcases List.mem_append.1 hx with hx|hx
 ·have hi:=steps_in hg hs 0 x hx
  have ht:=steps_txt p h 0 x hx
  unfold okI
  rw[show txtOk x.kind x.text=true from ht,Bool.true_and]
  obtain⟨q1,q2,q3,q4,q5⟩:=hi
  unfold goes place
  by_cases c6:x.kind=6
  ·have:=q3 c6
   rw[if_pos c6]
   simp only[Bool.and_eq_true,decide_eq_true_eq]
   omega
  ·have:=q4 c6
   rw[if_neg c6,if_neg q5.2.2,if_pos ⟨q5.1,q5.2.1⟩]
   simp only[Bool.and_eq_true,decide_eq_true_eq]
   omega
 ·rw[List.mem_singleton.1 hx]
  rfl
end M15
namespace W16
open Go
open M15 (Inst rightP)
open M14 (Piece size)
open M16 (Text yields EndsAt Img at_ places E mem_places)
section
variable {L:List Inst} {S:Text}
theorem lastOf_some {l:List M16.Mark} (h:l≠ []): ∃x,l.getLast? =some x∧lastOf l=(x.1,x.2,true):=by
 cases hl:l.getLast? with
 |none=>exact absurd (List.getLast?_eq_none_iff.1 hl) h
 |some x=>exact⟨x,rfl,by unfold lastOf;rw[hl]⟩
theorem find_none (hf:M16.Fair L) (hr:rightP L=true) (h: ∀b,b≤S.length→ ∀t,¬EndsAt L S b t):yields L S 0 S.length= []:=by
 by_cases e:yields L S 0 S.length= []
 ·exact e
 ·obtain⟨b,t,h1,h2⟩:=(M16.yields_any hf hr).1 e
  exact absurd h2 (h b h1 t)
theorem find_some (hf:M16.Fair L) (hr:rightP L=true) {a t:Nat} (ha:a≤S.length) (he:EndsAt L S a t) (hmax: ∀t',EndsAt L S a t'→t'≤t) (hmin: ∀b,b<a→ ∀t',¬EndsAt L S b t'):lastOf (yields L S 0 S.length)=(a,t,true):=by
 obtain⟨⟨a',t'⟩,h1,h2⟩:=lastOf_some ((M16.yields_any hf hr).2 ⟨a,t,ha,he⟩)
 obtain⟨h3,h4,h5,h6⟩:=M16.yields_last hf hr h1
 have e1:a'=a:=by
  have:=h6 a t ha he
  rcases Nat.lt_or_ge a' a with q|q
  ·exact absurd h4 (hmin a' q t')
  ·omega
 subst e1
 have e2:t'=t:=Nat.le_antisymm (hmax t' h4) (h5 t he)
 subst e2
 exact h2
theorem isEmpty_last (l:List M16.Mark):(!l.isEmpty)=(lastOf l).2.2:=by
 by_cases e:l= []
 ·subst e;rfl
 ·obtain⟨x,h1,h2⟩:=lastOf_some e
  rw[h2]
  cases l with
  |nil=>exact absurd rfl e
  |cons y l=>rfl
theorem whole_ends (hf:M16.Fair L) (hr:rightP L=true):((yields L S 0 0).any fun y=>decide (y.2=S.length))=true↔EndsAt L S 0 S.length:=by
 rw[←(M16.yields_one hf hr (Nat.zero_le _)).2,List.any_eq_true,List.mem_map]
 constructor
 ·rintro⟨x,h1,h2⟩;exact⟨x,h1,of_decide_eq_true h2⟩
 ·rintro⟨x,h1,h2⟩;exact⟨x,h1,decide_eq_true h2⟩
end
theorem one_row {n b:Nat} {R:Nat→Nat→Prop} {l:List Bool} (hb:b≤n) (h:Img n R (oneAt n b) l) {t:Nat} (ht:t≤n):at_ l t=true↔R b t:=by
 rw[h.2 t ht]
 unfold oneAt
 constructor
 ·rintro⟨q,h1,h2,h3⟩
  rw[at_range (by omega)]at h2
  rw[←of_decide_eq_true h2]
  exact h3
 ·intro h3
  exact⟨b,hb,by rw[at_range (by omega)];simp,h3⟩
theorem places_sorted (l:List Bool):(places l).Pairwise fun x y=>x<y:=by
 unfold places
 exact List.Pairwise.filter _ List.pairwise_lt_range
theorem last_place {l:List Bool} {k:List Nat} (hk:places l=k) {m:Nat} (hm:k.length=m+1): ∃h:m<k.length,(k[m]<l.length∧at_ l k[m]=true)∧ ∀t,t<l.length→at_ l t=true→t≤k[m]:=by
 subst hk
 refine⟨by omega,mem_places.1 (List.getElem_mem _),fun t ht ha=> ?_⟩
 obtain⟨i,hi,rfl⟩:=List.mem_iff_getElem.1 (mem_places.2 ⟨ht,ha⟩)
 by_cases e:i=m
 ·subst e;exact Nat.le_refl _
 ·exact Nat.le_of_lt (List.pairwise_iff_getElem.1 (places_sorted l) i m hi (by omega) (by omega))
theorem no_place {l:List Bool} (hk:places l= []) {t:Nat} (ht:t<l.length):at_ l t≠true:=fun h=>by
 have:=mem_places.2 ⟨ht,h⟩
 rw[hk]at this
 cases this
end W16
end Go.Proofs.YtehdnbidgphecaaGreatDoor
