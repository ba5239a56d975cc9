/-
  Texts joined, in build order, each with its own comment and its own conditions: W16Run, Range, RangeG, RangeH, W16Heap, W16New.
-/
import Derived.Test.YtfgegjinhkgpbaaGreatDoorJ07
import Derived.RangeFuncNested
import Derived.RangeFuncCalls
import Derived.Lib.Hide
import Derived.Deep.Draws
import Derived.Laws.MakeOwn
import Derived.Test.YtfgegjinhkgpbaaGreatDoorJ05
import Derived.Deep.LoopGhost
import Derived.Deep.Onto
import Derived.Deep.RegionHeld3
import Derived.BigQuiet
namespace Go.Proofs.YtfgegjinhkgpbaaGreatDoor
set_option maxHeartbeats 4000000
set_option maxRecDepth 100000
open Go.RowKit
open Lib (hid)
namespace M16
open Go M15
def adv (L:List Inst) (s:Text) (q:Nat) (nx:List Mark) (m:Mark):List Mark:=
 match s[q]? with
 |some c=>if takes (ins L m.1) c then goOn L s.length (q+1) nx ((ins L m.1).x.toNat,m.2)else nx
 |none=>nx
def past (e:Option Nat) (m:Mark):Bool:=match e with
 |some b=>decide (b<m.2)
 |none=>false
def scan (L:List Inst) (s:Text) (q:Nat):List Mark→Option Nat→List Mark→Option Nat×List Mark
 | [],e,nx=>(e,nx)
 |m::r,e,nx=>if past e m then(e,nx)else if(ins L m.1).kind=7 then scan L s q r (some m.2) nx else scan L s q r e (adv L s q nx m)
def entered (L:List Inst) (s:Text) (q u:Nat) (now:List Mark):List Mark:=if q≤u then goOn L s.length q now (0,q)else now
def run (L:List Inst) (s:Text):Nat→Nat→Nat→List Mark→List Mark
 |0,_,_,_=> []
 |f+1,q,u,now=>if q≤u∨now≠ []then
   match scan L s q (entered L s q u now) none []with
   |(some b,nx)=>(b,q)::run L s f (q+1) q nx
   |(none,nx)=>run L s f (q+1) u nx
  else[]
def yields (L:List Inst) (s:Text) (first last:Nat):List Mark:=if rightP L then run L s (s.length+1-first) first last []else[]
theorem match_takes (x:Inst) (c:UInt8) (h:x.kind=7):takes x c=false:=by
 unfold takes
 rw[if_neg (by omega),if_neg (by omega),if_neg (by omega)]
section
variable {L:List Inst} {s:Text} {q b n:Nat}
structure Adv (L:List Inst) (s:Text) (q:Nat) (l nx nx':List Mark):Prop where
 pre:nx<+:nx'
 row:Row L s.length (q+1) nx'
 from_: ∀x∈nx',x∈nx∨ ∃y∈l,∃c,s[q]? =some c∧takes (ins L y.1) c=true∧x.2=y.2∧ER L s.length (q+1) (ins L y.1).x.toNat x.1
 all: ∀y∈l,∀c,s[q]? =some c→takes (ins L y.1) c=true→ ∀j,ER L s.length (q+1) (ins L y.1).x.toNat j→ ∃x∈nx',x.1=j∧x.2≤y.2
theorem advs (hf:Fair L): ∀(l nx:List Mark),(l.Pairwise fun x y=>x.2≤y.2)→Row L s.length (q+1) nx→(∀x∈nx,∀y∈l,x.2≤y.2)→Adv L s q l nx (l.foldl (adv L s q) nx)
 | [],nx,_,hr,_=>⟨List.prefix_refl _,hr,fun x hx=>Or.inl hx,by simp⟩
 |m::r,nx,hp,hr,hb=>by
  have hp2:=List.pairwise_cons.1 hp
  rw[List.foldl_cons]
  have one:Adv L s q [m] nx (adv L s q nx m)∧ ∀x∈adv L s q nx m,∀y∈r,x.2≤y.2:=by
   have hnx: ∀x∈nx,∀y∈r,x.2≤y.2:=fun x hx y hy=>hb x hx y (by simp[hy])
   unfold adv
   cases hc:s[q]? with
   |none=>exact⟨⟨List.prefix_refl _,hr,fun x hx=>Or.inl hx,fun y _ c h=>by rw[hc]at h;cases h⟩,hnx⟩
   |some c=>
    by_cases ht:takes (ins L m.1) c=true
    ·have hw:=goOn_went (n:=s.length) (q:=q+1) (m:=((ins L m.1).x.toNat,m.2)) hf hr (hf.byte_ _ _ ht) (fun x hx=>hb x hx m (by simp))
     simp only[ht,if_true]
     generalize goOn L s.length (q+1) nx ((ins L m.1).x.toNat,m.2)=R at hw
     refine⟨⟨hw.pre,hw.row,fun x hx=> ?_,fun y hy c' hc' _ j hj=> ?_⟩,fun x hx y hy=> ?_⟩
     ·rcases hw.from_ x hx with h1|⟨h1,h2⟩
      ·exact Or.inl h1
      ·exact Or.inr ⟨m,by simp,c,hc,ht,h1,h2⟩
     ·simp at hy
      subst hy
      exact hw.all j hj
     ·rcases hw.from_ x hx with h1|⟨h1,h2⟩
      ·exact hnx x h1 y hy
      ·rw[h1];exact hp2.1 y hy
    ·have ht2:takes (ins L m.1) c=false:=by simpa using ht
     simp only[ht2]
     exact⟨⟨List.prefix_refl _,hr,fun x hx=>Or.inl hx,fun y hy c' hc' h=>by
      rw[hc]at hc'
      cases hc'
      simp at hy
      subst hy
      rw[ht2]at h;cases h⟩,hnx⟩
  obtain⟨h1,h2⟩:=one
  have h3:=advs hf r (adv L s q nx m) hp2.2 h1.row h2
  refine⟨h1.pre.trans h3.pre,h3.row,fun x hx=> ?_,fun y hy c hc ht j hj=> ?_⟩
  ·rcases h3.from_ x hx with h4|⟨y,hy,h4⟩
   ·rcases h1.from_ x h4 with h5|⟨y,hy,h5⟩
    ·exact Or.inl h5
    ·simp at hy
     subst hy
     exact Or.inr ⟨y,by simp,h5⟩
   ·exact Or.inr ⟨y,by simp[hy],h4⟩
  ·rcases List.mem_cons.1 hy with rfl|hy
   ·obtain⟨x,hx,e1,e2⟩:=h1.all y (by simp) c hc ht j hj
    exact⟨x,h3.pre.subset hx,e1,e2⟩
   ·exact h3.all y hy c hc ht j hj
structure Marks (L:List Inst) (s:Text) (first bd q:Nat) (M:List Mark):Prop where
 row:Row L s.length q M
 real: ∀x∈M,first≤x.2∧x.2≤bd∧x.2<q∧Reach L s x.2 x.1 q
 all: ∀b i,first≤b→b≤bd→b<q→Reach L s b i q→ ∃x∈M,x.1=i∧x.2≤b
structure Here (L:List Inst) (s:Text) (first bd q:Nat) (M:List Mark):Prop where
 row:Row L s.length q M
 real: ∀x∈M,first≤x.2∧x.2≤bd∧x.2≤q∧Reach L s x.2 x.1 q
 all: ∀b i,first≤b→b≤bd→Reach L s b i q→ ∃x∈M,x.1=i∧x.2≤b
variable {first bd u:Nat} {M now:List Mark}
theorem Marks.here (hf:Fair L) (h:Marks L s first bd q M) (hq:first≤q) (hu:bd≤u) (hu2:q≤u→q≤bd):Here L s first bd q (entered L s q u M):=by
 unfold entered
 split
 ·rename_i hqu
  have hw:=goOn_went (n:=s.length) (q:=q) (m:=(0,q)) hf h.row hf.some_ (fun x hx=>by have:=(h.real x hx).2.2.1;show x.2≤q;omega)
  generalize goOn L s.length q M (0,q)=R at hw
  refine⟨hw.row,fun x hx=> ?_,fun b i h1 h2 h3=> ?_⟩
  ·rcases hw.from_ x hx with h1|⟨h1,h2⟩
   ·have:=h.real x h1;exact⟨this.1,this.2.1,by omega,this.2.2.2⟩
   ·simp only at h1 h2
    rw[h1]
    exact⟨hq,hu2 hqu,Nat.le_refl _,Reach.start.er h2⟩
  ·rcases Nat.lt_or_ge b q with hlt|hge
   ·obtain⟨x,hx,e1,e2⟩:=h.all b i h1 h2 hlt h3
    exact⟨x,hw.pre.subset hx,e1,e2⟩
   ·have hbq:b=q:=Nat.le_antisymm h3.le hge
    subst hbq
    rcases h3.cases with⟨-,e⟩|⟨q0,i0,c,hq0,h4,-⟩
    ·exact hw.all i e
    ·have:=h4.le;omega
 ·rename_i hqu
  refine⟨h.row,fun x hx=> ?_,fun b i h1 h2 h3=>h.all b i h1 h2 (by omega) h3⟩
  have:=h.real x hx
  exact⟨this.1,this.2.1,by omega,this.2.2.2⟩
theorem Here.next (hf:Fair L) (h:Here L s first bd q M) (bd':Nat) (hb:bd'≤bd) (hfull:bd'=bd∨bd'≤q):Marks L s first bd' (q+1) ((M.filter fun y=>decide (y.2≤bd')).foldl (adv L s q) []):=by
 have ha:=advs (s:=s) (q:=q) hf (M.filter fun y=>decide (y.2≤bd')) [] (h.row.rise.filter _) (Row.nil _ _ _) (by simp)
 generalize (M.filter fun y=>decide (y.2≤bd')).foldl (adv L s q) []=R at ha
 refine⟨ha.row,fun x hx=> ?_,fun b i h1 h2 h3 h4=> ?_⟩
 ·rcases ha.from_ x hx with h1|⟨y,hy,c,h1,h2,h3,h4⟩
  ·simp at h1
  ·obtain⟨hy1,hy2⟩:=List.mem_filter.1 hy
   simp only[decide_eq_true_eq]at hy2
   obtain⟨r1,r2,r3,r4⟩:=h.real y hy1
   rw[h3]
   exact⟨r1,hy2,by omega,(r4.byte h1 h2).er h4⟩
 ·rcases h4.cases with⟨e,-⟩|⟨q0,i0,c,e,h5,h6,h7,h8⟩
  ·omega
  ·have:q0=q:=by omega
   subst this
   obtain⟨y,hy,e1,e2⟩:=h.all b i0 h1 (by omega) h5
   subst e1
   obtain⟨x,hx,e3,e4⟩:=ha.all y (List.mem_filter.2 ⟨hy,by simp;omega⟩) c h6 h7 i h8
   exact⟨x,hx,e3,by omega⟩
structure Tells (L:List Inst) (s:Text) (first bd q:Nat) (Y:List Mark):Prop where
 real: ∀y∈Y,q≤y.2∧first≤y.1∧y.1≤bd∧EndsAt L s y.1 y.2
 all: ∀b t,first≤b→b≤bd→q≤t→EndsAt L s b t→ ∃y∈Y,y.1≤b∧(y.2=t∨(y.1<b∧y.2<t))
 rise:Y.Pairwise fun x y=>x.2<y.2∧y.1≤x.1
end
/-! programs that may be -/
theorem okI_x {x:Inst} {m:Nat} (h:okI m x=true) (hk:x.kind≠7):0≤x.x∧x.x<m∧1≤x.kind∧x.kind≤8∧(x.kind=6→0≤x.y∧x.y<m):=by
 unfold okI at h
 rw[Bool.and_eq_true]at h
 have h2:=h.2
 unfold goes at h2
 by_cases h6:x.kind=6
 ·rw[if_pos h6]at h2
  unfold place at h2
  simp only[Bool.and_eq_true,decide_eq_true_eq]at h2
  exact⟨h2.1.1,h2.1.2,by omega,by omega,fun _=>h2.2⟩
 ·rw[if_neg h6,if_neg hk]at h2
  split at h2
  ·unfold place at h2
   simp only[Bool.and_eq_true,decide_eq_true_eq]at h2
   exact⟨h2.1.1,h2.1.2,by omega,by omega,fun h=>absurd h h6⟩
  ·cases h2
theorem eps_kind {x:Inst} {n q j:Nat} (hj:j∈eps x n q):x.kind≠7∧(j=x.x.toNat∨(x.kind=6∧j=x.y.toNat)):=by
 unfold eps at hj
 split at hj
 ·rename_i h
  simp only[List.mem_cons,List.not_mem_nil,or_false]at hj
  exact⟨by omega,by rcases hj with h1|h1;exact Or.inl h1;exact Or.inr ⟨h,h1⟩⟩
 ·split at hj
  ·rename_i h;simp at hj;exact⟨by omega,Or.inl hj⟩
  ·split at hj
   ·rename_i h
    split at hj
    ·simp at hj;exact⟨by omega,Or.inl hj⟩
    ·simp at hj
   ·split at hj
    ·rename_i h
     split at hj
     ·simp at hj;exact⟨by omega,Or.inl hj⟩
     ·simp at hj
    ·simp at hj
theorem takes_kind {x:Inst} {c:UInt8} (h:takes x c=true):x.kind≠7:=by
 intro e
 rw[match_takes x c e]at h
 cases h
theorem ins_ok {L:List Inst} (h:rightP L=true) {i:Nat} (hi:i<L.length):okI L.length (ins L i)=true:=by
 unfold rightP at h
 rw[Bool.and_eq_true,List.all_eq_true]at h
 unfold ins
 rw[List.getD_eq_getElem?_getD,List.getElem?_eq_getElem hi]
 exact h.1 _ (List.getElem_mem hi)
theorem ins_far {L:List Inst} {i:Nat} (hi:L.length≤i):ins L i=⟨0,no,0,0⟩:=by
 unfold ins
 rw[List.getD_eq_getElem?_getD,List.getElem?_eq_none hi]
 rfl
theorem fair_of {L:List Inst} (h:rightP L=true):Fair L:=by
 have h0:0<L.length:=by
  unfold rightP at h
  rw[Bool.and_eq_true]at h
  simpa using h.2
 refine⟨h0,fun i n q j hj=> ?_,fun i c ht=> ?_⟩
 ·rcases Nat.lt_or_ge i L.length with hi|hi
  ·obtain⟨hk,hx⟩:=eps_kind hj
   obtain⟨k1,k2,k3,k4,k5⟩:=okI_x (ins_ok h hi) hk
   rcases hx with rfl|⟨h6,rfl⟩
   ·omega
   ·have:=k5 h6;omega
  ·rw[ins_far hi]at hj
   simp[eps]at hj
 ·rcases Nat.lt_or_ge i L.length with hi|hi
  ·obtain⟨k1,k2,k3,k4,k5⟩:=okI_x (ins_ok h hi) (takes_kind ht)
   omega
  ·rw[ins_far hi]at ht
   simp[takes]at ht
end M16
namespace Range
structure Turns (T:Nat→Prop) (A B:World):Prop where
 os:B.os=A.os
 tape:B.tape=A.tape
 output:B.output=A.output
 size:A.heap.size≤B.heap.size
 block: ∀k,k<A.heap.size→ ¬T k→B.heap[k]? =A.heap[k]?
section
variable {T T':Nat→Prop} {A B C:World}
theorem Turns.refl (T:Nat→Prop) (A:World):Turns T A A:=⟨rfl,rfl,rfl,Nat.le_refl _,fun _ _ _=>rfl⟩
theorem Turns.trans (h:Turns T A B) (k:Turns T B C):Turns T A C:=
 ⟨k.os.trans h.os,k.tape.trans h.tape,k.output.trans h.output,Nat.le_trans h.size k.size,fun i hi ht=>(k.block i (Nat.lt_of_lt_of_le hi h.size) ht).trans (h.block i hi ht)⟩
theorem Turns.wider (h:Turns T A B) (hs: ∀k,T k→T' k):Turns T' A B:=⟨h.os,h.tape,h.output,h.size,fun i hi ht=>h.block i hi (fun e=>ht (hs i e))⟩
theorem Turns.of_grown {row:Option Nat} (h:A.grownBy B row) (hr: ∀r,row=some r→T r):Turns T A B:=
 ⟨h.os,h.tape,h.output,h.size,fun i hi ht=>h.block i hi (fun e=>ht (hr i e.symm))⟩
theorem Turns.of_below {n:Nat} (h:Below n A B) (hs: ∀k,n≤k→k<A.heap.size→T k):Turns T A B:=
 ⟨h.os,h.tape,h.output,h.size,fun i hi ht=>h.block i (by
  rcases Nat.lt_or_ge i n with hlt|hge
  ·exact hlt
  ·exact absurd (hs i hge hi) ht)⟩
theorem Turns.new (h:Below A.heap.size A B):Turns T A B:=Turns.of_below h (fun k h1 h2=>absurd h1 (by omega))
theorem Turns.alloc (T:Nat→Prop) (A:World) (o:Obj):Turns T A (A.alloc o):=Turns.of_grown (World.grownBy_alloc A o none) (fun r e=>by cases e)
theorem Turns.putObj {r:Nat} (o:Obj) (h:T r):Turns T A (A.putObj r o):=Turns.of_grown (grownBy_putObj' A r o) (fun k e=>by cases e;exact h)
theorem grown_set (A:World) (a:Addr) (v:Value):A.grownBy (A.setCell a v) (some a.block):=
 ⟨rfl,rfl,rfl,(KeepsWalks.setCell A a v).size,fun k _ hk=>Below.heap_setCell _ _ _ k (fun e=>hk (by rw[e]))⟩
theorem Turns.setCell {a:Addr} (v:Value) (h:T a.block):Turns T A (A.setCell a v):=Turns.of_grown (grown_set A a v) (fun k e=>by cases e;exact h)
theorem Turns.draw (T:Nat→Prop) (A:World) (n:Nat):Turns T A (A.drewN n):=⟨rfl,rfl,rfl,Nat.le_refl _,fun _ _ _=>rfl⟩
theorem Turns.below {n:Nat} (h:Turns T A B) (hs: ∀k,T k→n≤k) (hn:n≤A.heap.size):Below n A B:=
 ⟨h.os,h.tape,h.output,h.size,fun i hi=>h.block i (by omega) (fun e=>by have:=hs i e;omega)⟩
theorem Turns.keeps {k:Nat} {o:Obj} (h:Turns T A B) (hk:A.heap[k]? =some o) (ht: ¬T k):B.heap[k]? =some o:=
 (h.block k (Array.getElem?_eq_some_iff.1 hk).1 ht).trans hk
theorem Turns.cell {a:Addr} {v:Value} (h:Turns T A B) (hc:A.cell? a=some v) (ht: ¬T a.block):B.cell? a=some v:=
 (World.cell?_of_block (h.block _ (World.block_lt_of_cell? A a hc) ht)).trans hc
theorem Turns.frozen {a:Addr} {v:Value} (h:Turns T A B) (hc:A.cell? a=some v) (ht: ¬T a.block):B.frozen? a=A.frozen? a:=
 World.frozen?_of_block (h.block _ (World.block_lt_of_cell? A a hc) ht)
theorem Turns.row {base:Nat} {e:TypeId} {size n:Nat} {v:Value} {xs:List Value} (h:Turns T A B) (hr:A.ownsRow base e size v n xs) (ht: ∀k,base≤k→ ¬T k):B.ownsRow base e size v n xs:=by
 refine⟨hr.1,?_⟩
 rcases hr.2 with h0|⟨g,cap,cur,e1,hb,hh,rest⟩
 ·exact Or.inl h0
 ·exact Or.inr ⟨g,cap,cur,e1,hb,h.keeps hh (ht g hb),rest⟩
theorem Turns.row_at {base g n cap:Nat} {e:TypeId} {size m:Nat} {xs:List Value} (h:Turns T A B) (hr:A.ownsRow base e size (.slice (some ⟨g,0,none⟩) n cap) m xs) (ht: ¬T g):B.ownsRow base e size (.slice (some ⟨g,0,none⟩) n cap) m xs:=by
 refine⟨hr.1,?_⟩
 rcases hr.2 with⟨h0,_⟩|⟨g',cap',cur,e1,hb,hh,rest⟩
 ·cases h0
 ·cases e1
  exact Or.inr ⟨g,cap,cur,rfl,hb,h.keeps hh ht,rest⟩
end
def Its (O:Nat→Prop) (n m:Nat) (k:Nat):Prop:=O k∨(n≤k∧k<n+m)
def Yields (P:Program) (l:Nat) (v:Value) (W:World) (R:Ending→World→Prop):Prop:=
 ∃fn tmps assign body,(Instr.yield l #[v]).run P W= .ok (.round l fn tmps assign body) W∧RoundIn Fence.wide 9 P l fn tmps assign body W R
theorem round_wide {P:Program} {l f:Nat} {tmps:Array Value} {assign body:Code} {w:World} {R:Ending→World→Prop} {n:Nat} (m:Nat) (h:RoundIn Fence.wide n P l f tmps assign body w R):RoundIn Fence.wide m P l f tmps assign body w R:=
 ⟨trivial,fun c cs _=>h.2 c cs (room_wide _)⟩
theorem round_in {P:Program} {l f:Nat} {tmps:Array Value} {assign body:Code} {w:World} {R:Ending→World→Prop} {n:Nat} (l' m:Nat) (h:RoundIn Fence.wide n P l f tmps assign body w R):RoundIn (Fence.wide.inRound l') m P l f tmps assign body w R:=
 ⟨trivial,fun c cs _=>h.2 c cs (room_wide _)⟩
def Seq {α:Type} (P:Program) (g:Nat) (lb:Array Value) (enc:α→Value) (O:Nat→Prop) (m:Nat) (xs:List α) (w0:World):Prop:=
 ∀(l:Nat) (J Jx:List α→World→Prop) (W:World),Below w0.heap.size w0 W→
  (∀s A B,J s A→Turns (Its O W.heap.size m) A B→J s B)→(∀s A B,Jx s A→Turns (Its O W.heap.size m) A B→Jx s B)→
  (∀pre x W1,J pre W1→W.heap.size+m≤W1.heap.size→pre++ [x]<+:xs→Yields P l (enc x) W1 fun e W'=>
   (e= .returned (.bool true)∧J (pre++ [x]) W'∧Turns (fun k=> ¬Its O W.heap.size m k) W1 W')∨(e= .returned (.bool false)∧Jx (pre++ [x]) W'∧Turns (fun k=> ¬Its O W.heap.size m k) W1 W'))→
  J [] W→
  Calls P g (#[.func (.yield l) #[] #[]]++lb) W fun e W'=>(∃v,e= .returned v)∧(J xs W'∨ ∃pre,pre<+:xs∧Jx pre W')
def roundEnd {α:Type} (T:Nat→Prop) (I:List α→World→Prop) (Ix:Code→List α→World→Prop) (xs:List α) (W:World):Exit→Act→World→Prop
 | .normal,_,W'=>Turns (fun k=> ¬T k) W W'∧I xs W'
 | .ret,_,W'=>Turns (fun k=> ¬T k) W W'∧Ix .ret xs W'
 | .exit id,_,W'=>Turns (fun k=> ¬T k) W W'∧Ix (.exit id) xs W'
 | .goto t,_,W'=>Turns (fun k=> ¬T k) W W'∧Ix (.goto t) xs W'
 | .panic _,_,_=>False
 | .outgrown,_,_=>False
theorem wp_range {α:Type} {P:Program} {n:Nat} {g:Operand} {ps:Array Tmp} {assign body:Code} {Q:Exit→Act→World→Prop} {a:Act} {w:World}
    {gf:Nat} {lb:Array Value} (hg:a.eval g= .func (.func gf) #[] lb) (eg: ∀args w,(callFunc gf args).run P w= .ok (.enter gf args) w)
    {enc:α→Value} {O:Nat→Prop} {m:Nat} {xs:List α} (hseq:Seq P gf lb enc O m xs w) (hO: ∀k,O k→k<w.heap.size) (hps:ps.size=1)
    (T:Nat→Prop) (hT: ∀k,T k↔Its O w.heap.size (m+2) k)
    (I:List α→World→Prop) (Ix:Code→List α→World→Prop) (hI: ∀s A B,I s A→Turns T A B→I s B) (hIx: ∀c s A B,Ix c s A→Turns T A B→Ix c s B) (h0:I [] w) (a₁:α→Act)
    (hassign: ∀(l:Nat) (x:α) (W:World) (K:Act→World→Prop),K (a₁ x) W→
     assign.wpIn (Fence.wide.inRound l) 9 P (Exit.then K (fun _ _ _=>False)) {tmps:=(ps.zip #[enc x]).foldl (fun t (p,v)=>t.setIfInBounds p v) a.tmps,defers:= []} W)
    (hbody: ∀(l:Nat) (pre:List α) (x:α) (W:World),I pre W→w.heap.size+m+2≤W.heap.size→pre++ [x]<+:xs→body.wpIn (Fence.wide.inRound l) 9 P (roundEnd T I Ix (pre++ [x]) W) (a₁ x) W)
    (hdone: ∀(W:World),I xs W→W.heap[w.heap.size]? =some (.deferred (some []))→Q .normal {a with defers:= {target:= .collected w.heap.size,args:= #[]}::a.defers} W)
    (hstop: ∀(c:Code) (pre:List α) (W:World),pre<+:xs→Ix c pre W→W.heap[w.heap.size]? =some (.deferred (some []))→c.wpIn Fence.wide n P Q {a with defers:= {target:= .collected w.heap.size,args:= #[]}::a.defers} W):
    (Code.rangeFunc g ps assign body).wpIn Fence.wide n P Q a w:=by
 refine wpIn_rangeFunc ?_
 intro fn hfn
 show∃(l:Nat) (mark:List Deferred) (w₁:World) (d:Deferred) (w₁':World) (f:FuncId) (args:Array Value) (w₂:World),
     (Instr.enterLoop fn a.tmps ps assign body none).run P w= .ok (l,mark) w₁∧_
 obtain⟨rc,hrc⟩: ∃rc:LoopState→Option Code→Loop,rc=fun st pe=> {state:=st,pending:=pe,fn,tmps:=a.tmps,params:=ps,assign,body,defers:=w.heap.size}:=⟨_,rfl⟩
 obtain⟨W1,hW1⟩: ∃W1,(w.alloc (.deferred (some []))).alloc (.loop (rc .ready none))=W1:=⟨_,rfl⟩
 have hs1:W1.heap.size=w.heap.size+2:=by rw[←hW1];simp
 have hL1:W1.heap[w.heap.size+1]? =some (.loop (rc .ready none)):=by
  rw[←hW1];have:=World.alloc_heap_new (w.alloc (.deferred (some []))) (.loop (rc .ready none));rwa[World.size_alloc]at this
 have hK1:W1.heap[w.heap.size]? =some (.deferred (some [])):=by
  rw[←hW1];exact(Below.heap_alloc _ _ _ (by simp)).trans (World.alloc_heap_new w _)
 have hI1:I [] W1:=by rw[←hW1];exact hI _ _ _ (hI _ _ _ h0 (Turns.alloc _ _ _)) (Turns.alloc _ _ _)
 have hb1:Below w.heap.size w W1:=by rw[←hW1];exact((Below.refl _ w).alloc (Nat.le_refl _) _).alloc (by simp) _
 have tw: ∀k,Its O W1.heap.size m k→T k:=fun k hk=>(hT k).2 (by
  rcases hk with hk|⟨h1,h2⟩
  ·exact Or.inl hk
  ·exact Or.inr ⟨by omega,by omega⟩)
 have t0:T w.heap.size:=(hT _).2 (Or.inr ⟨Nat.le_refl _,by omega⟩)
 have t1:T (w.heap.size+1):=(hT _).2 (Or.inr ⟨by omega,by omega⟩)
 have n0: ¬Its O W1.heap.size m w.heap.size:=by
  rintro(h|⟨h,_⟩)
  ·have:=hO _ h;omega
  ·omega
 have n1: ¬Its O W1.heap.size m (w.heap.size+1):=by
  rintro(h|⟨h,_⟩)
  ·have:=hO _ h;omega
  ·omega
 refine⟨w.heap.size+1,[{target:= .collected w.heap.size,args:= #[]}],W1,{target:= .fn (.func gf) lb,args:= #[.func (.yield (w.heap.size+1)) #[] #[]]},W1,gf,
  #[.func (.yield (w.heap.size+1)) #[] #[]]++lb,W1,?_,?_,?_,?_,fun h=>by simp[Fence.wide]at h,?_⟩
 ·rw[←hW1,hrc];exact run_enterLoop_outer _ _ _ _ _
 ·simp only[resolve,hg]
  simp[go_sem]
 ·intro f' _;trivial
 ·simp[invoke,go_sem,eg]
 ·refine callsIn_wide.2 ((hseq (w.heap.size+1)
    (fun pre W=>I pre W∧W.heap[w.heap.size+1]? =some (.loop (rc .ready none))∧W.heap[w.heap.size]? =some (.deferred (some [])))
    (fun pre W=> ∃c,Ix c pre W∧W.heap[w.heap.size+1]? =some (.loop (rc .done (some c)))∧W.heap[w.heap.size]? =some (.deferred (some [])))
    W1 hb1
    (fun s A B h ht=>⟨hI s A B h.1 (ht.wider tw),ht.keeps h.2.1 n1,ht.keeps h.2.2 n0⟩)
    (fun s A B h ht=>by
     obtain⟨c,hc,hl,hk⟩:=h
     exact⟨c,hIx c s A B hc (ht.wider tw),ht.keeps hl n1,ht.keeps hk n0⟩)
    ?_ ⟨hI1,hL1,hK1⟩).mono ?_)
  ·rintro pre x W ⟨hi,hl,hk⟩ hsz hpre
   have hlt:w.heap.size+1<W.heap.size:=(Array.getElem?_eq_some_iff.1 hl).1
   have hy:=run_yield (P:=P) (args:= #[enc x]) hl (by rw[hrc];exact hps.symm)
   rw[hrc]at hy
   refine⟨fn,_,assign,body,hy,roundIn_of_wpIn trivial (hassign _ x W _ ⟨_,run_beginRound hl (by rw[hrc]),?_⟩)⟩
   have hl2:(W.putObj (w.heap.size+1) (.loop {rc .ready none with state:= .busy})).heap[w.heap.size+1]? =some (.loop {rc .ready none with state:= .busy}):=World.putObj_heap_same hlt
   have hk2:(W.putObj (w.heap.size+1) (.loop {rc .ready none with state:= .busy})).heap[w.heap.size]? =some (.deferred (some [])):=(World.putObj_heap_other (by omega)).trans hk
   have hw2:Turns (fun k=> ¬Its O W1.heap.size m k) W (W.putObj (w.heap.size+1) (.loop {rc .ready none with state:= .busy})):=Turns.putObj _ n1
   refine wpIn_mono (hbody _ pre x _ (hI _ _ _ hi (Turns.putObj _ t1)) (by simp;omega) hpre) ?_
   have fin: ∀(jump:Option Code) (W3:World),Turns (fun k=> ¬T k) (W.putObj (w.heap.size+1) (.loop {rc .ready none with state:= .busy})) W3→
       (Instr.endRound (w.heap.size+1) jump).run P W3= .ok (.bool jump.isNone) (W3.putObj (w.heap.size+1) (.loop (rc (if jump.isNone then .ready else .done) jump)))∧
       (W3.putObj (w.heap.size+1) (.loop (rc (if jump.isNone then .ready else .done) jump))).heap[w.heap.size+1]? =some (.loop (rc (if jump.isNone then .ready else .done) jump))∧
       (W3.putObj (w.heap.size+1) (.loop (rc (if jump.isNone then .ready else .done) jump))).heap[w.heap.size]? =some (.deferred (some [])):=fun jump W3 hk3=>by
    have hl3:=hk3.keeps hl2 (fun h=>h t1)
    have hr:=run_endRound (P:=P) jump hl3
    rw[hrc]at hr ⊢
    exact⟨hr,World.putObj_heap_same (Array.getElem?_eq_some_iff.1 hl3).1,(World.putObj_heap_other (by omega)).trans (hk3.keeps hk2 (fun h=>h t0))⟩
   rintro e a3 W3 hp
   cases e with
   |normal=>
    obtain⟨hk3,hi3⟩:=hp
    obtain⟨hr,hl4,hk4⟩:=fin none W3 hk3
    exact⟨_,_,hr,.inl ⟨rfl,⟨hI _ _ _ hi3 (Turns.putObj _ t1),hl4,hk4⟩,(hw2.trans (hk3.wider fun k h h2=>h (tw k h2))).trans (Turns.putObj _ n1)⟩⟩
   |ret=>
    obtain⟨hk3,hi3⟩:=hp
    obtain⟨hr,hl4,hk4⟩:=fin (some .ret) W3 hk3
    exact⟨_,_,hr,.inr ⟨rfl,⟨.ret,hIx _ _ _ _ hi3 (Turns.putObj _ t1),hl4,hk4⟩,(hw2.trans (hk3.wider fun k h h2=>h (tw k h2))).trans (Turns.putObj _ n1)⟩⟩
   |exit id=>
    obtain⟨hk3,hi3⟩:=hp
    obtain⟨hr,hl4,hk4⟩:=fin (some (.exit id)) W3 hk3
    exact⟨_,_,hr,.inr ⟨rfl,⟨.exit id,hIx _ _ _ _ hi3 (Turns.putObj _ t1),hl4,hk4⟩,(hw2.trans (hk3.wider fun k h h2=>h (tw k h2))).trans (Turns.putObj _ n1)⟩⟩
   |goto t=>
    obtain⟨hk3,hi3⟩:=hp
    obtain⟨hr,hl4,hk4⟩:=fin (some (.goto t)) W3 hk3
    exact⟨_,_,hr,.inr ⟨rfl,⟨.goto t,hIx _ _ _ _ hi3 (Turns.putObj _ t1),hl4,hk4⟩,(hw2.trans (hk3.wider fun k h h2=>h (tw k h2))).trans (Turns.putObj _ n1)⟩⟩
   |panic ch=>exact hp.elim
   |outgrown=>exact hp.elim
  ·rintro e W2 ⟨⟨v,rfl⟩,(⟨hi,hl,hk⟩|⟨pre,hpre,c,hi,hl,hk⟩)⟩
   ·exact⟨none,_,by have:=run_endLoop (P:=P) hl (by rw[hrc];simp);rw[hrc]at this;exact this,hdone _ (hI _ _ _ hi (Turns.putObj _ t1)) ((World.putObj_heap_other (by omega)).trans hk)⟩
   ·exact⟨some c,_,by have:=run_endLoop (P:=P) hl (by rw[hrc];simp);rw[hrc]at this;exact this,hstop c pre _ hpre (hIx c _ _ _ hi (Turns.putObj _ t1)) ((World.putObj_heap_other (by omega)).trans hk)⟩
end Range
namespace Range
def Fresh (T:Nat→Prop) (A B:World) (k:Nat):Prop:=T k∨(A.heap.size≤k∧k<B.heap.size)
def Lies (base:Nat) (T:Nat→Prop) (W:World):Prop:= ∀k,T k→base≤k∧k<W.heap.size
def Steady {α:Type} (base:Nat) (J:(Nat→Prop)→List α→World→Prop):Prop:= ∀T s A B,J T s A→Lies base T A→base≤A.heap.size→Turns T A B→J (Fresh T A B) s B
theorem set_ext {T T':Nat→Prop} (h: ∀k,T k↔T' k):T=T':=funext fun k=>propext (h k)
theorem Lies.fresh {base:Nat} {T:Nat→Prop} {A B:World} (h:Lies base T A) (hb:base≤A.heap.size) (hs:A.heap.size≤B.heap.size):Lies base (Fresh T A B) B:=by
 intro k hk
 rcases hk with hk|⟨h1,h2⟩
 ·have:=h k hk;exact⟨this.1,by omega⟩
 ·exact⟨by omega,h2⟩
theorem Lies.more {base:Nat} {T:Nat→Prop} {A B:World} (h:Lies base T A) (hs:A.heap.size≤B.heap.size):Lies base T B:=fun k hk=>by have:=h k hk;exact⟨this.1,by omega⟩
end Range
namespace Range
def YieldsN (P:Program) (l:Nat) (vs:Array Value) (W:World) (R:Ending→World→Prop):Prop:=
 ∃fn tmps assign body,(Instr.yield l vs).run P W= .ok (.round l fn tmps assign body) W∧RoundIn Fence.wide 9 P l fn tmps assign body W R
def SeqH {α:Type} (P:Program) (g:Nat) (lb:Array Value) (enc:α→Array Value) (base:Nat) (O:Nat→Prop) (xs:List α) (w0:World):Prop:=
 ∀(l:Nat) (J Jx:(Nat→Prop)→List α→World→Prop) (T:Nat→Prop) (W:World),(∀k,k<base∨O k→W.heap[k]? =w0.heap[k]?)→w0.heap.size≤W.heap.size→
  Steady base J→Steady base Jx→Lies base T W→(∀k,O k→T k)→base≤W.heap.size→
  (∀T pre x W1,J T pre W1→Lies base T W1→pre++ [x]<+:xs→YieldsN P l (enc x) W1 fun e W'=>Turns (fun k=>base≤k∧ ¬T k) W1 W'∧((e= .returned (.bool true)∧J T (pre++ [x]) W')∨(e= .returned (.bool false)∧Jx T (pre++ [x]) W')))→
  J T [] W→
  Calls P g (#[.func (.yield l) #[] #[]]++lb) W fun e W'=>(∃v,e= .returned v)∧Turns (fun k=>base≤k) W W'∧ ∃T',Lies base T' W'∧(∀k,T k→T' k)∧(J T' xs W'∨ ∃pre,pre<+:xs∧Jx T' pre W')
def roundH {α:Type} (base:Nat) (T:Nat→Prop) (I:(Nat→Prop)→List α→World→Prop) (Ix:Code→(Nat→Prop)→List α→World→Prop) (xs:List α) (W:World):Exit→Act→World→Prop
 | .normal,_,W'=>Turns (fun k=>base≤k∧ ¬T k) W W'∧I T xs W'
 | .ret,_,W'=>Turns (fun k=>base≤k∧ ¬T k) W W'∧Ix .ret T xs W'
 | .exit id,_,W'=>Turns (fun k=>base≤k∧ ¬T k) W W'∧Ix (.exit id) T xs W'
 | .goto t,_,W'=>Turns (fun k=>base≤k∧ ¬T k) W W'∧Ix (.goto t) T xs W'
 | .panic _,_,_=>False
 | .outgrown,_,_=>False
theorem wp_rangeH {α:Type} {P:Program} {n:Nat} {g:Operand} {ps:Array Tmp} {assign body:Code} {Q:Exit→Act→World→Prop} {a:Act} {w:World}
    {gf:Nat} {lb:Array Value} (hg:a.eval g= .func (.func gf) #[] lb) (eg: ∀args w,(callFunc gf args).run P w= .ok (.enter gf args) w)
    {enc:α→Array Value} {base:Nat} {O:Nat→Prop} {xs:List α} (hseq:SeqH P gf lb enc base O xs w) (hO:Lies base O w) (hbase:base≤w.heap.size) (hps: ∀x,(enc x).size=ps.size)
    (I:(Nat→Prop)→List α→World→Prop) (Ix:Code→(Nat→Prop)→List α→World→Prop) (hI:Steady base I) (hIx: ∀c,Steady base (Ix c)) (h0:I O [] w) (a₁:α→Act)
    (hassign: ∀(l:Nat) (x:α) (W:World) (K:Act→World→Prop),K (a₁ x) W→
     assign.wpIn (Fence.wide.inRound l) 9 P (Exit.then K (fun _ _ _=>False)) {tmps:=(ps.zip (enc x)).foldl (fun t (p,v)=>t.setIfInBounds p v) a.tmps,defers:= []} W)
    (hbody: ∀(l:Nat) (T:Nat→Prop) (pre:List α) (x:α) (W:World),I T pre W→Lies base T W→w.heap.size+2≤W.heap.size→pre++ [x]<+:xs→body.wpIn (Fence.wide.inRound l) 9 P (roundH base T I Ix (pre++ [x]) W) (a₁ x) W)
    (hdone: ∀(T:Nat→Prop) (W:World),I T xs W→Lies base T W→(∀k,O k→T k)→T w.heap.size→W.heap[w.heap.size]? =some (.deferred (some []))→Turns (fun k=>base≤k) w W→Q .normal {a with defers:= {target:= .collected w.heap.size,args:= #[]}::a.defers} W)
    (hstop: ∀(c:Code) (T:Nat→Prop) (pre:List α) (W:World),pre<+:xs→Ix c T pre W→Lies base T W→(∀k,O k→T k)→T w.heap.size→W.heap[w.heap.size]? =some (.deferred (some []))→Turns (fun k=>base≤k) w W→c.wpIn Fence.wide n P Q {a with defers:= {target:= .collected w.heap.size,args:= #[]}::a.defers} W):
    (Code.rangeFunc g ps assign body).wpIn Fence.wide n P Q a w:=by
 refine wpIn_rangeFunc ?_
 intro fn hfn
 show∃(l:Nat) (mark:List Deferred) (w₁:World) (d:Deferred) (w₁':World) (f:FuncId) (args:Array Value) (w₂:World),
     (Instr.enterLoop fn a.tmps ps assign body none).run P w= .ok (l,mark) w₁∧_
 obtain⟨rc,hrc⟩: ∃rc:LoopState→Option Code→Loop,rc=fun st pe=> {state:=st,pending:=pe,fn,tmps:=a.tmps,params:=ps,assign,body,defers:=w.heap.size}:=⟨_,rfl⟩
 obtain⟨W1,hW1⟩: ∃W1,(w.alloc (.deferred (some []))).alloc (.loop (rc .ready none))=W1:=⟨_,rfl⟩
 have hs1:W1.heap.size=w.heap.size+2:=by rw[←hW1];simp
 have hL1:W1.heap[w.heap.size+1]? =some (.loop (rc .ready none)):=by
  rw[←hW1];have:=World.alloc_heap_new (w.alloc (.deferred (some []))) (.loop (rc .ready none));rwa[World.size_alloc]at this
 have hK1:W1.heap[w.heap.size]? =some (.deferred (some [])):=by
  rw[←hW1];exact(Below.heap_alloc _ _ _ (by simp)).trans (World.alloc_heap_new w _)
 have ht1: ∀T,Turns T w W1:=fun T=>by rw[←hW1];exact(Turns.alloc T _ _).trans (Turns.alloc T _ _)
 -- the statement's two blocks
 obtain⟨S,hS⟩: ∃S:(Nat→Prop)→Nat→Prop,S=fun T k=>T k∨k=w.heap.size∨k=w.heap.size+1:=⟨_,rfl⟩
 have hSin: ∀T k,S T k↔(T k∨k=w.heap.size∨k=w.heap.size+1):=fun T k=>by rw[hS]
 have hI1:I (S O) [] W1:=by
  have:=hI _ _ _ _ h0 hO hbase (ht1 O)
  have e:Fresh O w W1=S O:=set_ext fun k=>by
   rw[hSin]
   unfold Fresh
   rw[hs1]
   constructor
   ·rintro(h|h)
    ·exact Or.inl h
    ·exact Or.inr (by omega)
   ·rintro(h|h)
    ·exact Or.inl h
    ·exact Or.inr (by omega)
  rwa[e]at this
 have hstay: ∀(J:(Nat→Prop)→List α→World→Prop),Steady base J→ ∀(T:Nat→Prop) (A:World) (o:Obj) s,J (S T) s A→Lies base (S T) A→base≤A.heap.size→J (S T) s (A.putObj (w.heap.size+1) o):=fun J hJ T A o s h hA hb=>by
  have:=hJ _ _ _ _ h hA hb (Turns.putObj (A:=A) o ((hSin T (w.heap.size+1)).2 (Or.inr (Or.inr rfl))))
  have e:Fresh (S T) A (A.putObj (w.heap.size+1) o)=S T:=set_ext fun k=>by
   unfold Fresh
   have hz:(A.putObj (w.heap.size+1) o).heap.size=A.heap.size:=by simp
   rw[hz]
   constructor
   ·rintro(h|h)
    ·exact h
    ·omega
   ·exact Or.inl
  rwa[e]at this
 refine⟨w.heap.size+1,[{target:= .collected w.heap.size,args:= #[]}],W1,{target:= .fn (.func gf) lb,args:= #[.func (.yield (w.heap.size+1)) #[] #[]]},W1,gf,
  #[.func (.yield (w.heap.size+1)) #[] #[]]++lb,W1,?_,?_,?_,?_,fun h=>by simp[Fence.wide]at h,?_⟩
 ·rw[←hW1,hrc];exact run_enterLoop_outer _ _ _ _ _
 ·simp only[resolve,hg]
  simp[go_sem]
 ·intro f' _;trivial
 ·simp[invoke,go_sem,eg]
 ·have hkeepS: ∀(J:(Nat→Prop)→List α→World→Prop),Steady base J→ ∀(T:Nat→Prop) s A B,J (S T) s A→Lies base T A→base≤A.heap.size→w.heap.size+1<A.heap.size→Turns T A B→J (S (Fresh T A B)) s B:=fun J hJ T s A B h1 hT hbA hlA ht=>by
    have hST:Lies base (S T) A:=fun k hk=>by
     rcases(hSin T k).1 hk with hk|hk|hk
     ·exact hT k hk
     ·omega
     ·omega
    have:=hJ _ _ _ _ h1 hST hbA (ht.wider fun k hk=>(hSin T k).2 (Or.inl hk))
    rwa[set_ext (T:=Fresh (S T) A B) (T':=S (Fresh T A B)) (fun k=>by
     rw[hSin];unfold Fresh;rw[hSin]
     constructor
     ·rintro((h|h)|h)
      ·exact Or.inl (Or.inl h)
      ·exact Or.inr h
      ·exact Or.inl (Or.inr h)
     ·rintro((h|h)|h)
      ·exact Or.inl (Or.inl h)
      ·exact Or.inr h
      ·exact Or.inl (Or.inr h))]at this
  have hfr: ∀(T:Nat→Prop) (A B:World) k,k<A.heap.size→ ¬T k→ ¬Fresh T A B k:=fun T A B k hk ht h=>by
   rcases h with h|h
   ·exact ht h
   ·omega
  refine callsIn_wide.2 ((hseq (w.heap.size+1)
   (fun T pre W=>I (S T) pre W∧W.heap[w.heap.size+1]? =some (.loop (rc .ready none))∧W.heap[w.heap.size]? =some (.deferred (some []))∧ ¬T w.heap.size∧ ¬T (w.heap.size+1))
   (fun T pre W=> ∃c,Ix c (S T) pre W∧W.heap[w.heap.size+1]? =some (.loop (rc .done (some c)))∧W.heap[w.heap.size]? =some (.deferred (some []))∧ ¬T w.heap.size∧ ¬T (w.heap.size+1))
   O W1 ?_ (by omega) ?_ ?_ (hO.more (by omega)) (fun k hk=>hk) (by omega) ?_ ⟨hI1,hL1,hK1,fun h=>by have:=hO _ h;omega,fun h=>by have:=hO _ h;omega⟩).mono ?_)
  ·intro k hk
   refine(ht1 (fun _=>False)).block k ?_ id
   rcases hk with hk|hk
   ·omega
   ·exact(hO k hk).2
  ·-- what the iterator turns and lays
   rintro T s A B ⟨h1,h2,h3,h4,h5⟩ hT hbA ht
   have hlA:w.heap.size+1<A.heap.size:=(Array.getElem?_eq_some_iff.1 h2).1
   exact⟨hkeepS I hI T s A B h1 hT hbA hlA ht,ht.keeps h2 h5,ht.keeps h3 h4,hfr _ _ _ _ (by omega) h4,hfr _ _ _ _ hlA h5⟩
  ·rintro T s A B ⟨c,h1,h2,h3,h4,h5⟩ hT hbA ht
   have hlA:w.heap.size+1<A.heap.size:=(Array.getElem?_eq_some_iff.1 h2).1
   exact⟨c,hkeepS (Ix c) (hIx c) T s A B h1 hT hbA hlA ht,ht.keeps h2 h5,ht.keeps h3 h4,hfr _ _ _ _ (by omega) h4,hfr _ _ _ _ hlA h5⟩
  ·-- a round
   rintro T pre x W ⟨hi,hl,hk,n0,n1⟩ hT hpre
   have hlt:w.heap.size+1<W.heap.size:=(Array.getElem?_eq_some_iff.1 hl).1
   have hST:Lies base (S T) W:=fun k hk=>by
    rcases(hSin T k).1 hk with hk|hk|hk
    ·exact hT k hk
    ·omega
    ·omega
   have s0:S T w.heap.size:=(hSin _ _).2 (Or.inr (Or.inl rfl))
   have s1:S T (w.heap.size+1):=(hSin _ _).2 (Or.inr (Or.inr rfl))
   have hy:=run_yield (P:=P) (args:=enc x) hl (by rw[hrc];exact hps x)
   rw[hrc]at hy
   refine⟨fn,_,assign,body,hy,roundIn_of_wpIn trivial (hassign _ x W _ ⟨_,run_beginRound hl (by rw[hrc]),?_⟩)⟩
   have hl2:(W.putObj (w.heap.size+1) (.loop {rc .ready none with state:= .busy})).heap[w.heap.size+1]? =some (.loop {rc .ready none with state:= .busy}):=World.putObj_heap_same hlt
   have hk2:(W.putObj (w.heap.size+1) (.loop {rc .ready none with state:= .busy})).heap[w.heap.size]? =some (.deferred (some [])):=(World.putObj_heap_other (by omega)).trans hk
   have hw2:Turns (fun k=>base≤k∧ ¬T k) W (W.putObj (w.heap.size+1) (.loop {rc .ready none with state:= .busy})):=Turns.putObj _ ⟨by omega,n1⟩
   have hb2:Lies base (S T) (W.putObj (w.heap.size+1) (.loop {rc .ready none with state:= .busy})):=hST.more (by simp)
   refine wpIn_mono (hbody _ (S T) pre x _ (hstay I hI _ _ _ _ hi hST (by omega)) hb2 (by simp;omega) hpre) ?_
   have fin: ∀(jump:Option Code) (W3:World),Turns (fun k=>base≤k∧ ¬S T k) (W.putObj (w.heap.size+1) (.loop {rc .ready none with state:= .busy})) W3→
       (Instr.endRound (w.heap.size+1) jump).run P W3= .ok (.bool jump.isNone) (W3.putObj (w.heap.size+1) (.loop (rc (if jump.isNone then .ready else .done) jump)))∧
       (W3.putObj (w.heap.size+1) (.loop (rc (if jump.isNone then .ready else .done) jump))).heap[w.heap.size+1]? =some (.loop (rc (if jump.isNone then .ready else .done) jump))∧
       (W3.putObj (w.heap.size+1) (.loop (rc (if jump.isNone then .ready else .done) jump))).heap[w.heap.size]? =some (.deferred (some []))∧
       Turns (fun k=>base≤k∧ ¬T k) W (W3.putObj (w.heap.size+1) (.loop (rc (if jump.isNone then .ready else .done) jump)))∧Lies base (S T) W3∧base≤W3.heap.size:=fun jump W3 hk3=>by
    have hl3:=hk3.keeps hl2 (fun h=>h.2 s1)
    have hd3:=hk3.keeps hk2 (fun h=>h.2 s0)
    have hz3:=hk3.size
    have hr:=run_endRound (P:=P) jump hl3
    rw[hrc]at hr ⊢
    exact⟨hr,World.putObj_heap_same (Array.getElem?_eq_some_iff.1 hl3).1,(World.putObj_heap_other (by omega)).trans hd3,
     (hw2.trans (hk3.wider fun k h=>⟨h.1,fun h2=>h.2 ((hSin _ _).2 (Or.inl h2))⟩)).trans (Turns.putObj _ ⟨by omega,n1⟩),hb2.more hz3,by simp at hz3;omega⟩
   rintro e a3 W3 hp
   cases e with
   |normal=>
    obtain⟨hk3,hi3⟩:=hp
    obtain⟨hr,hl4,hk4,ht4,hs4,hb4⟩:=fin none W3 hk3
    exact⟨_,_,hr,ht4,.inl ⟨rfl,hstay I hI _ _ _ _ hi3 hs4 hb4,hl4,hk4,n0,n1⟩⟩
   |ret=>
    obtain⟨hk3,hi3⟩:=hp
    obtain⟨hr,hl4,hk4,ht4,hs4,hb4⟩:=fin (some .ret) W3 hk3
    exact⟨_,_,hr,ht4,.inr ⟨rfl,.ret,hstay _ (hIx _) _ _ _ _ hi3 hs4 hb4,hl4,hk4,n0,n1⟩⟩
   |exit id=>
    obtain⟨hk3,hi3⟩:=hp
    obtain⟨hr,hl4,hk4,ht4,hs4,hb4⟩:=fin (some (.exit id)) W3 hk3
    exact⟨_,_,hr,ht4,.inr ⟨rfl,.exit id,hstay _ (hIx _) _ _ _ _ hi3 hs4 hb4,hl4,hk4,n0,n1⟩⟩
   |goto t=>
    obtain⟨hk3,hi3⟩:=hp
    obtain⟨hr,hl4,hk4,ht4,hs4,hb4⟩:=fin (some (.goto t)) W3 hk3
    exact⟨_,_,hr,ht4,.inr ⟨rfl,.goto t,hstay _ (hIx _) _ _ _ _ hi3 hs4 hb4,hl4,hk4,n0,n1⟩⟩
   |panic ch=>exact hp.elim
   |outgrown=>exact hp.elim
  ·rintro e W2 ⟨⟨v,rfl⟩,htW,T',hT',hOT,hor⟩
   have s0:S T' w.heap.size:=(hSin _ _).2 (Or.inr (Or.inl rfl))
   have hOS: ∀k,O k→S T' k:=fun k hk=>(hSin _ _).2 (Or.inl (hOT k hk))
   have hz1:=htW.size
   have hST:Lies base (S T') W2:=fun k hk=>by
    rcases(hSin T' k).1 hk with hk|hk|hk
    ·exact hT' k hk
    ·omega
    ·omega
   have hend: ∀o,Turns (fun k=>base≤k) w (W2.putObj (w.heap.size+1) o):=fun o=>((ht1 _).trans htW).trans (Turns.putObj _ (by omega))
   rcases hor with⟨hi,hl,hk,n0,n1⟩|⟨pre,hpre,c,hi,hl,hk,n0,n1⟩
   ·have hr:=run_endLoop (P:=P) hl (by rw[hrc];simp)
    rw[hrc]at hr
    exact⟨none,_,hr,hdone (S T') _ (hstay I hI _ _ _ _ hi hST (by omega)) (hST.more (by simp)) hOS s0 ((World.putObj_heap_other (by omega)).trans hk) (hend _)⟩
   ·have hr:=run_endLoop (P:=P) hl (by rw[hrc];simp)
    rw[hrc]at hr
    exact⟨some c,_,hr,hstop c (S T') pre _ hpre (hstay _ (hIx c) _ _ _ _ hi hST (by omega)) (hST.more (by simp)) hOS s0 ((World.putObj_heap_other (by omega)).trans hk) (hend _)⟩
end Range
namespace W16
open Strs Recs Range
open M15 (Inst rightP)
open M16 (Text steps put)
open W15 (insC insC_len Prg IBox own_type own_block_same)
open W14 (below_new own_same own_form cell_block)
open Kit (below_draws on)
/-! truths by number -/
def bitsV (n:Nat) (f:Nat→Bool):Array Value:=((List.range n).map fun i=>Value.bool (f i)).toArray
theorem bitsV_size (n:Nat) (f:Nat→Bool):(bitsV n f).size=n:=by simp[bitsV]
theorem bitsV_get {n i:Nat} (f:Nat→Bool) (h:i<n):(bitsV n f)[i]? =some (.bool (f i)):=by simp[bitsV,h]
theorem bitsV_congr {n:Nat} {f g:Nat→Bool} (h: ∀i,i<n→f i=g i):bitsV n f=bitsV n g:=by
 unfold bitsV
 congr 1
 exact List.map_congr_left fun i hi=>by rw[h i (List.mem_range.1 hi)]
theorem bitsV_ext {n:Nat} {a:Array Value} {f:Nat→Bool} (hs:a.size=n) (h: ∀i,i<n→a[i]? =some (.bool (f i))):a=bitsV n f:=by
 apply Array.ext_getElem?
 intro i
 by_cases hi:i<n
 ·rw[h i hi,bitsV_get f hi]
 ·rw[Array.getElem?_eq_none (by omega),Array.getElem?_eq_none (by rw[bitsV_size];omega)]
def Bits (w:World) (b n:Nat) (f:Nat→Bool):Prop:=w.heap[b]? =some (.cells (bitsV n f) 4 (0,0))
section
variable {w w':World} {b n:Nat} {f g:Nat→Bool}
theorem Bits.lt (h:Bits w b n f):b<w.heap.size:=(Array.getElem?_eq_some_iff.1 h).1
theorem Bits.cell (h:Bits w b n f) {i:Nat} (hi:i<n):w.cell? ⟨b,i,none⟩=some (.bool (f i)):=by rw[cell_of_row w b i _ _ _ h,bitsV_get f hi]
theorem Bits.free (h:Bits w b n f) (i:Nat):w.frozen? ⟨b,i,none⟩=false:=frozen_of_row w b i _ _ h
theorem Bits.same (h:Bits w b n f) (hk:w'.heap[b]? =w.heap[b]?):Bits w' b n f:=hk.trans h
theorem Bits.below (h:Bits w b n f) (k:Below w.heap.size w w'):Bits w' b n f:=h.same (k.block b h.lt)
theorem Bits.is (h:Bits w b n f) (e: ∀i,i<n→f i=g i):Bits w b n g:=by unfold Bits at *;rw[h,bitsV_congr e]
theorem Bits.put (h:Bits w b n f) {i:Nat} (v:Bool):Bits (w.setCell ⟨b,i,none⟩ (.bool v)) b n (fun j=>if j=i then v else f j):=by
 unfold Bits
 rw[heap_setCell_same w b i _ _ _ h]
 congr 2
 refine bitsV_ext (by rw[Array.size_setIfInBounds,bitsV_size]) fun j hj=> ?_
 rw[Array.getElem?_setIfInBounds,bitsV_size,bitsV_get f hj]
 by_cases e:i=j
 ·subst e;rw[if_pos rfl,if_pos hj,if_pos rfl]
 ·rw[if_neg e,if_neg (fun q=>e q.symm)]
end
theorem bool_info:(Tryz.prog.info? 4).map (fun i=>(i.zero,i.size,i.bytes))=some (some (.bool false),1,1):=by kernel_rfl
theorem made_bits (n:Nat):madeCells #[.bool false] n=bitsV n fun _=>false:=by
 refine bitsV_ext (size_madeCells _ _) fun j hj=> ?_
 simp[madeCells,hj,Nat.mod_one]
theorem make_bits (w:World) {n:Nat} (hn:n≤1000000):(Instr.makeSlice 82 (.int .i64 n) (.int .i64 n)).run Tryz.prog w= .ok (.slice (some ⟨w.heap.size,0,none⟩) n n) (w.alloc (.cells (bitsV n fun _=>false) 4)):=by
 obtain⟨i,hi,h1,h2,h3⟩:=info_parts bool_info
 have h:=run_make (P:=Tryz.prog) w 82 4 i (.bool false) Tryz.underlying82 hi h1 .i64 .i64 n n (by omega) (Int.le_refl _) (by rw[h3];omega) (by omega)
 rw[h2,Nat.mul_one,Int.toNat_natCast]at h
 rw[h,←made_bits]
 rfl
theorem new_bits (w:World) (n:Nat) (f:Nat→Bool):Bits (w.alloc (.cells (bitsV n f) 4)) w.heap.size n f:=heap_alloc_new w _
/-! marks -/
def markC (x:M16.Mark):List Value:= [.int .i64 x.1,.int .i64 x.2]
def markA (x:M16.Mark):Array Value:= #[.int .i64 x.1,.int .i64 x.2]
theorem markC_len (x:M16.Mark):(markC x).length=2:=rfl
theorem markC_one (x:M16.Mark): ∀c∈markC x,c.oneCell'=true:=by
 intro c hc
 simp only[markC,List.mem_cons,List.not_mem_nil,or_false]at hc
 rcases hc with rfl|rfl<;>rfl
abbrev Mks (B:Nat) (w:World) (v:Value) (L:List M16.Mark):Prop:=Recs markC 2 B w v L
theorem mark_info:(Tryz.prog.info? 132).map (fun i=>(i.zero,i.size,i.bytes))=some (some (.agg #[.int .i64 0,.int .i64 0]),2,16):=by kernel_rfl
def MBox (w:World) (b:Nat) (x:M16.Mark):Prop:=w.heap[b]? =some (.cells (markA x) 132 (0,0))
section
variable {w w':World} {b:Nat} {x:M16.Mark}
theorem MBox.lt (h:MBox w b x):b<w.heap.size:=(Array.getElem?_eq_some_iff.1 h).1
theorem MBox.same (h:MBox w b x) (hk:w'.heap[b]? =w.heap[b]?):MBox w' b x:=hk.trans h
theorem MBox.below (h:MBox w b x) (k:Below w.heap.size w w'):MBox w' b x:=h.same (k.block b h.lt)
theorem MBox.c0 (h:MBox w b x):w.cell? ⟨b,0,none⟩=some (.int .i64 x.1):=cell_of_row w b 0 _ _ _ h
theorem MBox.c1 (h:MBox w b x):w.cell? ⟨b,1,none⟩=some (.int .i64 x.2):=cell_of_row w b 1 _ _ _ h
theorem MBox.cells (h:MBox w b x): ∀j,j<2→w.cell? ⟨b,0+j,none⟩=(markC x)[j]? :=by
 intro j hj
 rw[Nat.zero_add,cell_of_row w b j _ _ _ h]
 match j,hj with
 |0,_=>rfl
 |1,_=>rfl
end
section
variable {ops:Array Oper} {rest:List Oper} {o:Oper} {a:Act} {w:World} {Q:Exit→Act→World→Prop}
theorem box_mark (hgd:o.guard=none) (x:Operand) (ho:o.op= .box 132 x) {r:M16.Mark} (hx:a.eval x= .agg (markA r))
    (h: ∀w' b,w.heap.size=b→MBox w' b r→Below w.heap.size w w'→w'.heap.size=w.heap.size+1→wpList Tryz.prog ops Q rest (a.put o.dst (.pointer (some ⟨b,0,none⟩))) w'):wpList Tryz.prog ops Q (o::rest) a w:=
 wpList_plain hgd fun _ hK=>by
  unfold Oper.wp execOp
  simp only[ho,hx,Instr.box,newVar,newRow,Sem.run_bind,Sem.run_pure]
  exact hK _ _ (h _ _ rfl (heap_alloc_new w _) (below_new w _) (World.size_alloc w _))
theorem mark_size (x:M16.Mark):(Tryz.prog.info? 132).map (·.size)=some (markA x).size:=by
 obtain⟨i,hi,-,h2,-⟩:=info_parts mark_info
 rw[hi];simp[markA,h2]
theorem load_mbox (hgd:o.guard=none) (x:Operand) (ho:o.op= .load 132 x) {b:Nat} (hx:a.eval x= .pointer (some ⟨b,0,none⟩)) {r:M16.Mark} (hr:MBox w b r) (h:wpList Tryz.prog ops Q rest (a.put o.dst (.agg (markA r))) w):wpList Tryz.prog ops Q (o::rest) a w:=
 wpList_load_row hgd 132 x ho b hx 132 (markA r) (0,0) _ hr Tryz.underlying132 rfl (mark_size r) h
theorem wp_slice_mark {K:Act→World→Prop} (x:Operand) (ho:o.op= .buildSlice 127 1 #[(0,x)]) {r:M16.Mark} (hx:a.eval x= .agg (markA r))
    (h: ∀w' b,w.heap.size=b→Mks w'.heap.size w' (.slice (some ⟨b,0,none⟩) 1 1) [r]→Below w.heap.size w w'→w'.heap.size=w.heap.size+1→w'.ownsRow w.heap.size 132 2 (.slice (some ⟨b,0,none⟩) 1 1) 1 (markC r)→K (a.put o.dst (.slice (some ⟨b,0,none⟩) 1 1)) w'):o.wp Tryz.prog a w K Q:=by
 obtain⟨i,hi,h1,h2,-⟩:=info_parts mark_info
 refine wp_buildSlice 127 132 1 _ ho (markA r) i _ Tryz.underlying127 hi h1 (by rw[h2];decide) (by rw[h2];decide) ?_ (h _ _ rfl ?_ (below_new w _) (World.size_alloc w _) ?_)
 ·rw[h2]
  simp only[List.map_toArray,List.map_cons,List.map_nil,hx]
  have hr:Array.range (1*2)= #[0,1]:=by decide
  rw[hr]
  simp[Instr.fill,markA,Value.cells]
 ·refine⟨_,_,rfl,Nat.le_refl _,by unfold maxLen;decide,fun _=>⟨_,rfl,by rw[World.size_alloc];exact Nat.lt_succ_self _,fun k hk j hj=> ?_⟩⟩
  have hk0:k=0:=by simp at hk;omega
  subst hk0
  have:=cells_new w (markC r) 132 j
  rw[Nat.zero_mul,Nat.zero_add]
  have h5:j<(markC r).length:=by rw[markC_len];exact hj
  exact(this _ (List.getElem?_eq_getElem h5)).trans (List.getElem?_eq_getElem h5).symm
 ·refine⟨rfl,Or.inr ⟨w.heap.size,1,markA r,rfl,Nat.le_refl _,heap_alloc_new w _,Nat.le_refl _,by unfold maxLen;decide,rfl,rfl⟩⟩
theorem run_load_mark {a:Act} {o:Oper} {w:World} (x:Operand) (ho:o.op= .load 132 x) {b k:Nat} (hx:a.eval x= .pointer (some ⟨b,k,none⟩)) {r:M16.Mark} (hr: ∀j,j<2→w.cell? ⟨b,k+j,none⟩=(markC r)[j]?):(execOp a.eval o).run Tryz.prog w= .ok (.value (.agg (markA r))) w:=by
 have hl:(loadCells ⟨b,k,none⟩ (markC r).length).run Tryz.prog w= .ok (markC r).toArray w:=run_loadCells_list (P:=Tryz.prog) w ⟨b,k,none⟩ (markC r) fun j v hv=>by
  have hadd:(⟨b,k,none⟩:Addr).add j=⟨b,k+j,none⟩:=by unfold Addr.add;split<;>simp_all
  have hj:j<2:=by
   rcases Nat.lt_or_ge j (markC r).length with q|q
   ·rw[markC_len]at q;exact q
   ·rw[List.getElem?_eq_none q]at hv;cases hv
  rw[hadd,hr j hj];exact hv
 obtain⟨i,hi,-,h2,-⟩:=info_parts mark_info
 have hagg:(isAgg 132).run Tryz.prog w= .ok true w:=by
  unfold isAgg
  rw[Sem.run_bind,run_underlying Tryz.underlying132 w]
  rfl
 rw[markC_len]at hl
 unfold execOp
 simp only[ho,hx,Instr.loadAt,Instr.sureAddr,loadVar,sizeOf,typeInfo,Sem.run_bind,Sem.run_pure,Result.andThen_ok,hagg]
 simp[hi,h2,hl,Sem.run_bind,Result.andThen]
 rfl
theorem wp_append_mark {K:Act→World→Prop} (s x:Operand) (ho:o.op= .call {callee:= .builtin .append,args:= #[s,x],argTypes:= #[127,127]})
    {base B:Nat} {v u:Value} {L M:List M16.Mark} (hs:a.eval s=v) (hx:a.eval x=u) (hown:w.ownsRow base 132 2 v L.length (L.flatMap markC)) (hu:Mks B w u M) (hl:L.length+M.length≤1000000) (hbase:base≤w.heap.size)
    (h: ∀v' w',w'.ownsRow base 132 2 v' (L++M).length ((L++M).flatMap markC)→Put v v' w w'→K (a.put o.dst v') w'):o.wp Tryz.prog a w K Q:=by
 obtain⟨i,hi,h1,h2,h3⟩:=info_parts mark_info
 refine wp_append_put s x 127 ho base 132 i _ 2 16 Tryz.underlying127 hi h1 h2 h3 rfl (by decide) v L.length (L.flatMap markC) hs hown u M B hx hu markC_len markC_one (by unfold maxLen;omega) (by omega) hbase fun v' w' e1 e2=>h v' w' ?_ e2
 rw[List.length_append,List.flatMap_append];exact e1
end
/-! rows of marks -/
def rowA (v:Value) (g n:Nat):Array Value:= #[v,.slice (some ⟨g,0,none⟩) n n]
structure RowF (base:Nat) (w:World) (r:Nat) (v:Value) (g n:Nat) (M:List M16.Mark) (f:Nat→Bool):Prop where
 low:base≤r
 lowg:base≤g
 box:w.heap[r]? =some (.cells (rowA v g n) 129 (0,0))
 own:w.ownsRow base 132 2 v M.length (M.flatMap markC)
 bits:Bits w g n f
abbrev RowAt (base:Nat) (w:World) (r:Nat) (v:Value) (g n:Nat) (M:List M16.Mark):Prop:=RowF base w r v g n M fun i=>decide (i∈steps M)
def RF (r g:Nat) (v:Value) (k:Nat):Prop:=k=r∨k=g∨v.ownBlock=some k
structure Grew (r g:Nat) (v v':Value) (w w':World):Prop where
 turns:Turns (RF r g v) w w'
 own: ∀k,v'.ownBlock=some k→v.ownBlock=some k∨w.heap.size≤k
section
variable {base:Nat} {w w' w'':World} {r g n:Nat} {v v' v'':Value} {M:List M16.Mark} {f:Nat→Bool}
theorem RowF.c0 (h:RowF base w r v g n M f):w.cell? ⟨r,0,none⟩=some v:=cell_of_row w r 0 _ _ _ h.box
theorem RowF.c1 (h:RowF base w r v g n M f):w.cell? ⟨r,1,none⟩=some (.slice (some ⟨g,0,none⟩) n n):=cell_of_row w r 1 _ _ _ h.box
theorem RowF.f0 (h:RowF base w r v g n M f):w.frozen? ⟨r,0,none⟩=false:=frozen_of_row w r 0 _ _ h.box
theorem RowF.lt (h:RowF base w r v g n M f):r<w.heap.size:=(Array.getElem?_eq_some_iff.1 h.box).1
theorem RowF.form (h:RowF base w r v g n M f): ∃A c,v= .slice A M.length c∧M.length≤c∧c≤maxLen:=(Recs.of_own markC_len rfl h.own).form
theorem RowF.in_ (h:RowF base w r v g n M f) {k:Nat} (hk:RF r g v k):base≤k∧k<w.heap.size:=by
 rcases hk with rfl|rfl|hk
 ·exact⟨h.low,h.lt⟩
 ·exact⟨h.lowg,h.bits.lt⟩
 ·exact h.own.lt k hk
theorem ty_ne {w:World} {k:Nat} {c1 c2:Array Value} {t1 t2:TypeId} {p q:Nat×Nat} (h1:w.heap[k]? =some (.cells c1 t1 p)) (h2:w.heap[k]? =some (.cells c2 t2 q)):t1=t2:=by
 rw[h1]at h2
 injection h2 with h2
 injection h2
theorem RowF.rg (h:RowF base w r v g n M f):r≠g:=by
 intro e
 have h1:=h.box
 rw[e]at h1
 exact absurd (ty_ne h1 h.bits) (by decide)
theorem RowF.rv (h:RowF base w r v g n M f):v.ownBlock≠some r:=by
 intro e
 obtain⟨cur,h1⟩:=own_type h.own e
 exact absurd (ty_ne h1 h.box) (by decide)
theorem RowF.gv (h:RowF base w r v g n M f):v.ownBlock≠some g:=by
 intro e
 obtain⟨cur,h1⟩:=own_type h.own e
 exact absurd (ty_ne h1 h.bits) (by decide)
theorem RowF.same (h:RowF base w r v g n M f) (hk: ∀k,RF r g v k→w'.heap[k]? =w.heap[k]?):RowF base w' r v g n M f:=
 ⟨h.low,h.lowg,(hk r (Or.inl rfl)).trans h.box,own_block_same h.own fun k q=>hk k (Or.inr (Or.inr q)),h.bits.same (hk g (Or.inr (Or.inl rfl)))⟩
theorem RowF.below (h:RowF base w r v g n M f) (k:Below w.heap.size w w'):RowF base w' r v g n M f:=h.same fun _ q=>k.block _ (h.in_ q).2
theorem RowF.turns {T:Nat→Prop} (h:RowF base w r v g n M f) (k:Turns T w w') (hT: ∀i,RF r g v i→ ¬T i):RowF base w' r v g n M f:=h.same fun i q=>k.block i (h.in_ q).2 (hT i q)
theorem Grew.refl (r g:Nat) (v:Value) (w:World):Grew r g v v w w:=⟨Turns.refl _ _,fun _ h=>Or.inl h⟩
theorem Grew.of (h:Below w.heap.size w w'):Grew r g v v w w':=⟨Turns.new h,fun _ h=>Or.inl h⟩
theorem Grew.trans (h:Grew r g v v' w w') (k:Grew r g v' v'' w' w''):Grew r g v v'' w w'':=by
 refine⟨⟨k.turns.os.trans h.turns.os,k.turns.tape.trans h.turns.tape,k.turns.output.trans h.turns.output,Nat.le_trans h.turns.size k.turns.size,fun i hi ht=> ?_⟩,fun i hi=> ?_⟩
 ·refine(k.turns.block i (Nat.lt_of_lt_of_le hi h.turns.size) fun q=>ht ?_).trans (h.turns.block i hi ht)
  rcases q with q|q|q
  ·exact Or.inl q
  ·exact Or.inr (Or.inl q)
  ·rcases h.own i q with q2|q2
   ·exact Or.inr (Or.inr q2)
   ·omega
 ·rcases k.own i hi with q|q
  ·exact h.own i q
  ·exact Or.inr (Nat.le_trans h.turns.size q)
theorem Grew.keeps (h:Grew r g v v' w w') {k:Nat} (hk:k<w.heap.size) (hn: ¬RF r g v k):w'.heap[k]? =w.heap[k]? :=h.turns.block k hk hn
theorem Grew.below (h:Grew r g v v' w w') (hr:RowF base w r v g n M f):Below base w w':=
 ⟨h.turns.os,h.turns.tape,h.turns.output,h.turns.size,fun k hk=>h.turns.block k (by have:=hr.lt;have:=hr.low;omega) (fun q=>by have:=(hr.in_ q).1;omega)⟩
theorem RowF.put_box (h:RowF base w r v g n M f) (p:Put v v' w w'):w'.cell? ⟨r,0,none⟩=some v∧w'.frozen? ⟨r,0,none⟩=false:=by
 obtain⟨-,-,-,-,g5⟩:=p.grown
 have h1:w'.heap[r]? =_:=(g5 r h.lt (fun q=>h.rv q.symm)).trans h.box
 exact⟨cell_of_row w' r 0 _ _ _ h1,frozen_of_row w' r 0 _ _ h1⟩
theorem mbox_put {b:Nat} {m:M16.Mark} (p:Put v v' w w') (hm:MBox w b m) (h:v.ownBlock≠some b):MBox w' b m:=by
 obtain⟨-,-,-,-,g5⟩:=p.grown
 exact hm.same (g5 b hm.lt (fun q=>h q.symm))
theorem RowF.more {N:List M16.Mark} (h:RowF base w r v g n M f) (ho:w'.ownsRow base 132 2 v' (M++N).length ((M++N).flatMap markC)) (p:Put v v' w w'):RowF base (w'.setCell ⟨r,0,none⟩ v') r v' g n (M++N) f∧Grew r g v v' w (w'.setCell ⟨r,0,none⟩ v'):=by
 obtain⟨g1,g2,g3,g4,g5⟩:=p.grown
 have hr:w'.heap[r]? =_:=(g5 r h.lt (fun q=>h.rv q.symm)).trans h.box
 have hg:w'.heap[g]? =_:=(g5 g h.bits.lt (fun q=>h.gv q.symm)).trans h.bits
 refine⟨⟨h.low,h.lowg,?_,?_,?_⟩,⟨⟨g1,g2,g3,by rw[World.size_setCell];exact g4,fun k hk hn=> ?_⟩,p.own⟩⟩
 ·rw[heap_setCell_same w' r 0 _ _ _ hr];rfl
 ·refine own_block_same ho fun k hk=>heap_setCell_other w' _ k _ fun e=> ?_
  have e2:k=r:=e
  obtain⟨cur,h1⟩:=own_type ho hk
  rw[e2,hr]at h1
  injection h1 with h1
  injection h1 with _ h1
  exact absurd h1 (by decide)
 ·exact(heap_setCell_other w' _ g _ (fun e=>h.rg e.symm)).trans hg
 ·rw[heap_setCell_other w' _ k _ (fun e=>hn (Or.inl e)),g5 k hk (fun q=>hn (Or.inr (Or.inr q.symm)))]
theorem RowF.set (h:RowF base w r v g n M f) (i:Nat) (b:Bool):RowF base (w.setCell ⟨g,i,none⟩ (.bool b)) r v g n M (fun j=>if j=i then b else f j)∧Grew r g v v w (w.setCell ⟨g,i,none⟩ (.bool b)):=by
 refine⟨⟨h.low,h.lowg,(heap_setCell_other w _ r _ h.rg).trans h.box,own_block_same h.own fun k hk=>heap_setCell_other w _ k _ fun e=> ?_,h.bits.put b⟩,⟨Turns.setCell _ (Or.inr (Or.inl rfl)),fun _ q=>Or.inl q⟩⟩
 have e2:k=g:=e
 subst e2
 exact h.gv hk
theorem RowF.is {f':Nat→Bool} (h:RowF base w r v g n M f) (e: ∀i,i<n→f i=f' i):RowF base w r v g n M f':=⟨h.low,h.lowg,h.box,h.own,h.bits.is e⟩
end
end W16
namespace W16
open Strs Recs Range
open M15 (Inst)
open M16 (Text steps put takes)
open W15 (insC insA IBox box_ins)
open W14 (below_new own_same own_form cell_block)
open Kit (below_draws on byte_test)
theorem newRow_any {w:World} {base n:Nat} (hb:base≤w.heap.size) (hn:n≤1000000):Calls Tryz.prog 113 #[.int .i64 n] w fun e w'=> ∃r g,e= .returned (.pointer (some ⟨r,0,none⟩))∧RowAt base w' r (.slice none 0 0) g n []∧w.heap.size≤r∧w.heap.size≤g∧Below w.heap.size w w':=by
 have hmk:=make_bits w hn
 go_enter Tryz.func113,Tryz.ntmps113
 go_wp2_with fail
 go_ret
 have h1:=new_bits w n fun _=>false
 refine⟨_,_,rfl,⟨?_,hb,(by have:=heap_alloc_new (w.alloc (.cells (bitsV n fun _=>false) 4)) (.cells (rowA (.slice none 0 0) w.heap.size n) 129);rwa[World.size_alloc]at this),World.ownsRow_nil _ _ _ _,(h1.below (below_new _ _)).is fun i _=>by simp[steps]⟩,?_,Nat.le_refl _,on (below_new _ _) (below_new _ _)⟩
 ·omega
 ·simp
theorem takes_any {x:Inst} (hx:x.kind=1→x.text.size=1) (c:UInt8) (w:World):Calls Tryz.prog 115 #[.agg (insA x),.int .u8 c.toNat] w fun e w'=>e= .returned (.bool (takes x c))∧Below w.heap.size w w':=by
 obtain⟨k,t,a,b⟩:=x
 simp only at hx
 have hH:=hid (W13.has_any t c)
 have hT:Hid (takes ⟨k,t,a,b⟩ c=if k=1 then decide (t.data.toList.head? =some c)else if k=2 then decide (c≠10)else if k=3 then M13.has t.data.toList c.toNat else false):=rfl
 obtain⟨R,hR⟩: ∃R,takes ⟨k,t,a,b⟩ c=R:=⟨_,rfl⟩
 rw[hR]at hT ⊢
 clear hR
 by_cases h1:k=1
 ·subst h1
  have hz:=hx rfl
  have h0:0<t.size:=by omega
  have he:((t[0].toNat:Int)==(c.toNat:Int))=R:=by
   rw[hT.out,if_pos rfl,Kit.bytes_cons h0,byte_test]
   simp
  have hz2:(0:Int)<(t.size:Int):=by omega
  clear hT hx hz
  go_enter Tryz.func115,Tryz.ntmps115
  go_wp2_with (first|(refine box_ins (r:=⟨1,t,a,b⟩) rfl (.tmp 0) rfl rfl ?_;intro w1 b1 e1 p1 l1 z1;have c0:=p1.c0;have c1:=p1.c1;have L1:=hid l1;clear e1 p1 l1 z1))
  go_ret
  exact⟨rfl,L1.out⟩
 ·have t1:(k==1)=false:=by simpa using h1
  rw[if_neg h1]at hT
  by_cases h2:k=2
  ·subst h2
   rw[if_pos rfl]at hT
   have he:((c.toNat:Int) !=10)=R:=by
    rw[hT.out]
    have:=byte_test c 10
    rw[show(((10:UInt8).toNat:Nat):Int)=10 from rfl]at this
    simp[bne,this]
   clear hT hx
   go_enter Tryz.func115,Tryz.ntmps115
   go_wp2_with (first|(refine box_ins (r:=⟨2,t,a,b⟩) rfl (.tmp 0) rfl rfl ?_;intro w1 b1 e1 p1 l1 z1;have c0:=p1.c0;have c1:=p1.c1;have L1:=hid l1;clear e1 p1 l1 z1))
   go_ret
   exact⟨rfl,L1.out⟩
  ·have t2:(k==2)=false:=by simpa using h2
   rw[if_neg h2]at hT
   by_cases h3:k=3
   ·subst h3
    rw[if_pos rfl]at hT
    rw[←hT.out]at hH
    clear hT hx
    go_enter Tryz.func115,Tryz.ntmps115
    go_wp2_with (first|(refine box_ins (r:=⟨3,t,a,b⟩) rfl (.tmp 0) rfl rfl ?_;intro w1 b1 e1 p1 l1 z1;have c0:=p1.c0;have c1:=p1.c1;have L1:=hid l1;clear e1 p1 l1 z1))
    refine(hH.out _).mono ?_
    rintro e w2 ⟨rfl,rfl⟩
    go_wp2_with fail
    go_ret
    exact⟨rfl,L1.out⟩
   ·have t3:(k==3)=false:=by simpa using h3
    rw[if_neg h3]at hT
    have hRf:=hT.out
    clear hT hx
    subst hRf
    go_enter Tryz.func115,Tryz.ntmps115
    go_wp2_with (first|(refine box_ins (r:=⟨k,t,a,b⟩) rfl (.tmp 0) rfl rfl ?_;intro w1 b1 e1 p1 l1 z1;have c0:=p1.c0;have c1:=p1.c1;have L1:=hid l1;clear e1 p1 l1 z1))
    go_ret
    exact⟨rfl,L1.out⟩
end W16
end Go.Proofs.YtfgegjinhkgpbaaGreatDoor
