/-
  Texts joined, in build order, each with its own comment and its own conditions: RecAppend, Row256, W14Heap, W14Box, W14Together, W14Take, RecKeep.
-/
import Derived.Test.YtfgegjinhkgpbaaGreatDoorJ01
import Derived.Laws.OwnMore
import Derived.Tactics
import Derived.Deep.WholeRow
import Derived.Laws.Rows
import Derived.Laws.Tables
import Derived.Test.YtfgegjinhkgpbaaGreatDoorChecked
import Derived.WalkKit
import Derived.KernelRfl
import Derived.Great.BuildSlice
import Derived.BigQuiet
namespace Go.Proofs.YtfgegjinhkgpbaaGreatDoor
set_option maxHeartbeats 4000000
set_option maxRecDepth 100000
open Go.RowKit
open Lib (hid)
namespace Recs
theorem run_append_void {P:Program} {w:World} (base:Nat) (t ty e:TypeId) (i:TypeInfo) (size:Nat) (ht:P.underlying t=some (.slice e)) (hi:P.info? e=some i)
    (v:Value) (n c:Nat) (xs:List Value) (hown:w.ownsRow base e size v n xs):
    (Builtin.append_ #[t,t] ty #[v,.slice none 0 c]).run P w= .ok v w:=by
 rcases hown.2 with⟨rfl,rfl⟩|⟨g,cap,cur,rfl,_,_,hnc,_⟩
 ·simp[Builtin.append_,run_underlying ht,sizeOf,typeInfo,hi,Builtin.lenOf,Builtin.firstCells]
 ·simp[Builtin.append_,run_underlying ht,sizeOf,typeInfo,hi,Builtin.lenOf,Builtin.firstCells,hnc,storeCells]
theorem own_block_next {P:Program} (w:World) (base:Nat) (t ty e:TypeId) (i:TypeInfo) (z:Value) (size bytes:Nat) (ht:P.underlying t=some (.slice e)) (hi:P.info? e=some i) (hz:i.zero=some z)
    (hsize:i.size=size) (hby:i.bytes=bytes) (hzs:z.cells.size=size) (hsz:0<size)
    (v:Value) (n:Nat) (xs:List Value) (hown:w.ownsRow base e size v n xs)
    (a:Addr) (m c:Nat) (news:List Value) (hl:news.length=m*size) (hnews: ∀j u,news[j]? =some u→w.cell? (a.add j)=some u) (h1: ∀u∈news,u.oneCell'=true)
    (h63:n+m≤maxLen) (hbytes:(n+m)*bytes≤140737488355328) {v':Value} {w':World} (hr:(Builtin.append_ #[t,t] ty #[v,.slice (some a) m c]).run P w= .ok v' w'):
    ∀k,v'.ownBlock=some k→v.ownBlock=some k∨w.heap.size≤k:=by
 subst hsize
 subst hby
 have hsmall:n+m≤9223372036854775807:=by simp only[maxLen]at h63;omega
 intro k hk
 rcases hown.2 with⟨rfl,rfl⟩|⟨g,cap,cur,rfl,hbg,hg,hnc,hcm,hcs,htake⟩
 ·obtain⟨v2,w2,hr2,ho2,-,-⟩:=run_append_own w w.heap.size t ty e i z i.size i.bytes ht hi hz rfl rfl hzs hsz (.slice none 0 0) 0 xs (by have hx:xs= []:=List.eq_nil_of_length_eq_zero (by simpa using hown.1);rw[hx];exact World.ownsRow_nil _ _ _ _) a m c news hl hnews h1 h63 hbytes (Nat.le_refl _)
  rw[hr]at hr2
  cases hr2
  exact Or.inr (ho2.lt k hk).1
 ·by_cases hroom:n+m≤cap
  ·have hfit:n*i.size+news.length≤cur.size:=by rw[hl,hcs,←Nat.add_mul];exact Nat.mul_le_mul_right _ hroom
   rw[run_append_room w t ty e i ht hi g n cap cur hg a m c news hl hnews h1 hroom hfit]at hr
   cases hr
   exact Or.inl hk
  ·have holds: ∀j u,xs[j]? =some u→w.cell? ((⟨g,0,none⟩:Addr).add j)=some u:=hown.cells (g:=g) rfl
   rw[run_append_grow w t ty e i z ht hi hz ⟨g,0,none⟩ n cap xs hown.1 holds a m c news hl hnews (by omega) (by omega) (growslice_fits (by omega) hbytes)]at hr
   cases hr
   simp[Value.ownBlock]at hk
   exact Or.inr (by omega)
theorem wp_append_recs {α:Type} {enc:α→List Value} {P:Program} {w:World} {o:Oper} {a:Act} {K:Act→World→Prop} {Q:Exit→Act→World→Prop} (s x:Operand) (t:TypeId)
    (ho:o.op= .call {callee:= .builtin .append,args:= #[s,x],argTypes:= #[t,t]})
    (base:Nat) (e:TypeId) (i:TypeInfo) (z:Value) (size bytes:Nat) (ht:P.underlying t=some (.slice e)) (hi:P.info? e=some i) (hz:i.zero=some z)
    (hsize:i.size=size) (hby:i.bytes=bytes) (hzs:z.cells.size=size) (hsz:0<size)
    (v:Value) (n:Nat) (xs:List Value) (hs:a.eval s=v) (hown:w.ownsRow base e size v n xs)
    (u:Value) (L:List α) (B:Nat) (hx:a.eval x=u) (hu:Recs enc size B w u L) (he: ∀r:α,(enc r).length=size) (h1: ∀r:α,∀c∈enc r,c.oneCell'=true)
    (h63:n+L.length≤maxLen) (hbytes:(n+L.length)*bytes≤140737488355328) (hbase:base≤w.heap.size)
    (h: ∀v' w',w'.ownsRow base e size v' (n+L.length) (xs++L.flatMap enc)→w.grownBy w' v.ownBlock→(∀k,v'.ownBlock=some k→v.ownBlock=some k∨w.heap.size≤k)→K (a.put o.dst v') w'):o.wp P a w K Q:=by
 obtain⟨A,c,rfl,hc1,hc2⟩:=hu.form
 have hfl:(L.flatMap enc).length=L.length*size:=flat_len he L
 have hone: ∀u∈L.flatMap enc,u.oneCell'=true:=fun q hq=>by
  obtain⟨r,_,hr⟩:=List.mem_flatMap.1 hq
  exact h1 r q hr
 cases A with
 |none=>
  have h0:L.length=0:=by
   rcases Nat.eq_zero_or_pos L.length with q|q
   ·exact q
   ·obtain⟨b,o,hf,_⟩:=hu.news he hsz q
    cases hf
  have hL:L= []:=List.length_eq_zero_iff.1 h0
  subst hL
  have hrun:=run_append_void (P:=P) (w:=w) base t o.type e i size ht hi v n c xs hown
  have hx':a.eval x= .slice none 0 c:=hx
  unfold Oper.wp
  simp[execOp,ho,resolve,invoke,builtin,hs,hx',hrun,Result.andThen]
  exact h v w (by simpa using hown) ⟨rfl,rfl,rfl,Nat.le_refl _,fun _ _ _=>rfl⟩ (fun k hk=>Or.inl hk)
 |some ad=>
  have hnews: ∀j q,(L.flatMap enc)[j]? =some q→w.cell? (ad.add j)=some q:=by
   intro j q hq
   rcases Nat.eq_zero_or_pos L.length with h0|h0
   ·have:L= []:=List.length_eq_zero_iff.1 h0
    subst this
    simp at hq
   ·obtain⟨b,o,hf,_,hcell⟩:=hu.news he hsz h0
    cases hf
    exact hcell j q hq
  obtain⟨v',w',hr,h2,h3,-⟩:=run_append_own (P:=P) w base t o.type e i z size bytes ht hi hz hsize hby hzs hsz v n xs hown ad L.length c (L.flatMap enc) hfl hnews hone h63 hbytes hbase
  have h4:=own_block_next w base t o.type e i z size bytes ht hi hz hsize hby hzs hsz v n xs hown ad L.length c (L.flatMap enc) hfl hnews hone h63 hbytes hr
  have hx':a.eval x= .slice (some ad) L.length c:=hx
  unfold Oper.wp execOp
  simp only[ho,resolve,invoke,builtin,Sem.run_bind,Sem.run_pure,Result.andThen_ok,List.map_toArray,List.map_cons,List.map_nil,hs,hx',hr]
  exact h v' w' h2 h3 h4
theorem wpList_append_recs {α:Type} {enc:α→List Value} {P:Program} {w:World} {ops:Array Oper} {rest:List Oper} {o:Oper} {a:Act} {Q:Exit→Act→World→Prop} (hgd:o.guard=none) (s x:Operand) (t:TypeId)
    (ho:o.op= .call {callee:= .builtin .append,args:= #[s,x],argTypes:= #[t,t]})
    (base:Nat) (e:TypeId) (i:TypeInfo) (z:Value) (size bytes:Nat) (ht:P.underlying t=some (.slice e)) (hi:P.info? e=some i) (hz:i.zero=some z)
    (hsize:i.size=size) (hby:i.bytes=bytes) (hzs:z.cells.size=size) (hsz:0<size)
    (v:Value) (n:Nat) (xs:List Value) (hs:a.eval s=v) (hown:w.ownsRow base e size v n xs)
    (u:Value) (L:List α) (B:Nat) (hx:a.eval x=u) (hu:Recs enc size B w u L) (he: ∀r:α,(enc r).length=size) (h1: ∀r:α,∀c∈enc r,c.oneCell'=true)
    (h63:n+L.length≤maxLen) (hbytes:(n+L.length)*bytes≤140737488355328) (hbase:base≤w.heap.size)
    (h: ∀v' w',w'.ownsRow base e size v' (n+L.length) (xs++L.flatMap enc)→w.grownBy w' v.ownBlock→(∀k,v'.ownBlock=some k→v.ownBlock=some k∨w.heap.size≤k)→wpList P ops Q rest (a.put o.dst v') w'):wpList P ops Q (o::rest) a w:=
 wpList_plain hgd fun _ hK=>wp_append_recs s x t ho base e i z size bytes ht hi hz hsize hby hzs hsz v n xs hs hown u L B hx hu he h1 h63 hbytes hbase fun v' w' h2 h3 h4=>hK _ _ (h v' w' h2 h3 h4)
end Recs
namespace Row256
def rowV (g:Nat→Value):Array Value:=((List.range 256).map g).toArray
theorem rowV_size (g:Nat→Value):(rowV g).size=256:=by unfold rowV;rw[List.size_toArray,List.length_map,List.length_range]
theorem rowV_get (g:Nat→Value) {i:Nat} (h:i<256):(rowV g)[i]? =some (g i):=by
 unfold rowV
 rw[List.getElem?_toArray,List.getElem?_map,List.getElem?_range h];rfl
theorem rowV_congr {g h:Nat→Value} (e: ∀i,i<256→g i=h i):rowV g=rowV h:=by
 unfold rowV
 congr 1
 exact List.map_congr_left fun i hi=>e i (List.mem_range.1 hi)
theorem rowV_ext {a:Array Value} {g:Nat→Value} (hs:a.size=256) (h: ∀i,i<256→a[i]? =some (g i)):a=rowV g:=by
 apply Array.ext_getElem?
 intro i
 by_cases hi:i<256
 ·rw[h i hi,rowV_get g hi]
 ·rw[Array.getElem?_eq_none (by omega),Array.getElem?_eq_none (by rw[rowV_size];omega)]
theorem rowV_set (g:Nat→Value) {i:Nat} (v:Value):(rowV g).setIfInBounds i v=rowV (fun j=>if j=i then v else g j):=by
 refine rowV_ext (by rw[Array.size_setIfInBounds,rowV_size]) fun j hj=> ?_
 rw[Array.getElem?_setIfInBounds,rowV_size,rowV_get g hj]
 by_cases e:i=j
 ·subst e;rw[if_pos rfl,if_pos hj,if_pos rfl]
 ·rw[if_neg e,if_neg (fun q=>e q.symm)]
theorem rowV_same (v:Value):Array.replicate 256 v=rowV (fun _=>v):=by
 refine rowV_ext (by rw[Array.size_replicate]) fun j hj=> ?_
 rw[Array.getElem?_replicate,if_pos hj]
theorem rowV_one {g:Nat→Value} (h: ∀i,(g i).oneCell'=true):(rowV g).all (·.oneCell')=true:=by
 unfold rowV
 rw[Array.all_eq_true_iff_forall_mem]
 intro v hv
 obtain⟨i,_,rfl⟩:=List.mem_map.1 (List.mem_toArray.1 hv)
 exact h i
def Row (w:World) (b:Nat) (t:TypeId) (g:Nat→Value):Prop:=w.heap[b]? =some (.cells (rowV g) t (0,0))
theorem Row.new (w:World) (t:TypeId) (g:Nat→Value):Row (w.alloc (.cells (rowV g) t)) w.heap.size t g:=heap_alloc_new w _
theorem Row.lt {w:World} {b:Nat} {t:TypeId} {g:Nat→Value} (h:Row w b t g):b<w.heap.size:=(Array.getElem?_eq_some_iff.1 h).1
theorem Row.alloc {w:World} {b:Nat} {t:TypeId} {g:Nat→Value} (h:Row w b t g) (o:Obj):Row (w.alloc o) b t g:=(Below.heap_alloc w o b h.lt).trans h
theorem Row.cell {w:World} {b:Nat} {t:TypeId} {g:Nat→Value} (h:Row w b t g) {i:Nat} (hi:i<256):w.cell? ⟨b,i,none⟩=some (g i):=by
 rw[cell_of_row w b i _ t _ h,rowV_get g hi]
theorem Row.free {w:World} {b:Nat} {t:TypeId} {g:Nat→Value} (h:Row w b t g) (i:Nat):w.frozen? ⟨b,i,none⟩=false:=frozen_of_row w b i _ t h
theorem Row.put {w:World} {b:Nat} {t:TypeId} {g:Nat→Value} (h:Row w b t g) (i:Nat) (v:Value):Row (w.setCell ⟨b,i,none⟩ v) b t (fun j=>if j=i then v else g j):=by
 unfold Row
 rw[heap_setCell_same w b i _ t v h,rowV_set]
theorem Row.other {w:World} {b:Nat} {t:TypeId} {g:Nat→Value} (h:Row w b t g) {a:Addr} (ha:b≠a.block) (v:Value):Row (w.setCell a v) b t g:=(heap_setCell_other w a b v ha).trans h
theorem Row.on {w w':World} {b B:Nat} {t:TypeId} {g:Nat→Value} (h:Row w b t g) (k:Below B w w') (hb:b<B):Row w' b t g:=(k.block b hb).trans h
theorem Row.is {w:World} {b:Nat} {t:TypeId} {g k:Nat→Value} (h:Row w b t g) (e: ∀i,i<256→g i=k i):Row w b t k:=by
 unfold Row at *;rw[h,rowV_congr e]
theorem Row.set {w:World} {b:Nat} {t:TypeId} {g:Nat→Value} (h:Row w b t g) (k:Nat→Value):Row (w.setRow b (rowV k)) b t k:=setRow_heap w b _ _ t _ h
structure Beside (b:Nat) (w w':World):Prop where
 os:w'.os=w.os
 tape:w'.tape=w.tape
 output:w'.output=w.output
 size:w.heap.size≤w'.heap.size
 block: ∀k,k<w.heap.size→k≠b→w'.heap[k]? =w.heap[k]?
theorem Beside.refl (b:Nat) (w:World):Beside b w w:=⟨rfl,rfl,rfl,Nat.le_refl _,fun _ _ _=>rfl⟩
theorem Beside.trans {b:Nat} {u v w:World} (h:Beside b u v) (k:Beside b v w):Beside b u w:=
 ⟨k.os.trans h.os,k.tape.trans h.tape,k.output.trans h.output,Nat.le_trans h.size k.size,fun i hi e=>(k.block i (Nat.lt_of_lt_of_le hi h.size) e).trans (h.block i hi e)⟩
theorem Beside.of {b:Nat} {w w':World} (h:Below w.heap.size w w'):Beside b w w':=⟨h.os,h.tape,h.output,h.size,fun k hk _=>h.block k hk⟩
theorem Beside.put {b:Nat} {u w:World} (h:Beside b u w) (i:Nat) (v:Value):Beside b u (w.setCell ⟨b,i,none⟩ v):=
 h.trans ⟨rfl,rfl,rfl,by rw[World.size_setCell];exact Nat.le_refl _,fun k _ e=>heap_setCell_other w _ k v e⟩
theorem Beside.below {b B:Nat} {w w':World} (h:Beside b w w') (hB:B≤w.heap.size) (hb:B≤b):Below B w w':=⟨h.os,h.tape,h.output,h.size,fun k hk=>h.block k (by omega) (by omega)⟩
theorem Beside.new {b B:Nat} {u w w':World} (h:Below B u w) (k:Beside b w w') (hB:B≤w.heap.size) (hb:B≤b):Below B u w':=h.trans (k.below hB hb)
theorem Row.beside {w w':World} {b c:Nat} {t:TypeId} {g:Nat→Value} (h:Row w b t g) (k:Beside c w w') (hb:b≠c):Row w' b t g:=(k.block b h.lt hb).trans h
end Row256
namespace W14
open Strs Recs M14
open Row256 (Beside)
structure Raw where
 kind:Int
 text:ByteArray
 ad:Option Addr
 len:Nat
 cap:Nat
 least:Int
 top:Int
def rawC (r:Raw):List Value:= [.int .i64 r.kind,.string r.text,.slice r.ad r.len r.cap,.int .i64 r.least,.int .i64 r.top]
def rawA (r:Raw):Array Value:= #[.int .i64 r.kind,.string r.text,.slice r.ad r.len r.cap,.int .i64 r.least,.int .i64 r.top]
theorem rawC_len (r:Raw):(rawC r).length=5:=rfl
theorem rawC_one (r:Raw): ∀c∈rawC r,c.oneCell'=true:=by
 intro c hc
 simp only[rawC,List.mem_cons,List.not_mem_nil,or_false]at hc
 rcases hc with rfl|rfl|rfl|rfl|rfl<;>rfl
abbrev Raws (B:Nat) (w:World) (v:Value) (L:List Raw):Prop:=Recs rawC 5 B w v L
inductive PAt (X:Nat→Prop) (w:World):Raw→Piece→Prop
 |mk (k:Int) (t:ByteArray) (A:Option Addr) (n c:Nat) (l tp:Int) (raws:List Raw) (ks:List Piece) (B:Nat)
    (h:Raws B w (.slice A n c) raws) (hX: ∀ad,A=some ad→0<raws.length→X ad.block) (hl:raws.length=ks.length)
    (hk: ∀(i:Nat) (h1:i<raws.length) (h2:i<ks.length),PAt X w (raws[i]'h1) (ks[i]'h2)):PAt X w ⟨k,t,A,n,c,l,tp⟩ (.mk k t ks l tp)
def PAll (X:Nat→Prop) (w:World) (raws:List Raw) (ks:List Piece):Prop:=raws.length=ks.length∧ ∀(i:Nat) (h1:i<raws.length) (h2:i<ks.length),PAt X w (raws[i]'h1) (ks[i]'h2)
theorem raws_keep {B:Nat} {w w':World} {A:Option Addr} {n c:Nat} {L:List Raw} (h:Raws B w (.slice A n c) L) (hk: ∀ad,A=some ad→0<L.length→ ∀p:Addr,p.block=ad.block→w'.cell? p=w.cell? p):Raws B w' (.slice A n c) L:=by
 obtain⟨A',c',e,h1,h2,h3⟩:=h
 injection e with e1 e2 e3
 subst e1 e2 e3
 exact⟨_,_,rfl,h1,h2,fun hn=>by
  obtain⟨ad,e2,hb,hc⟩:=h3 hn
  subst e2
  exact⟨_,rfl,hb,fun k hk2 j hj=>(hk ad rfl hn _ (by rw[block_add])).trans (hc k hk2 j hj)⟩⟩
theorem PAt.keep {X Y:Nat→Prop} {w w':World} {r:Raw} {p:Piece} (h:PAt X w r p) (hXY: ∀b,X b→Y b) (hk: ∀a:Addr,X a.block→w'.cell? a=w.cell? a):PAt Y w' r p:=by
 induction h with
 |mk k t A n c l tp raws ks B h hX hl hks ih=>
  exact .mk k t A n c l tp raws ks B (raws_keep h fun ad e hn p hp=>hk p (by rw[hp];exact hX ad e hn)) (fun ad e hn=>hXY _ (hX ad e hn)) hl (fun i h1 h2=>ih i h1 h2)
theorem PAll.keep {X Y:Nat→Prop} {w w':World} {rs:List Raw} {ps:List Piece} (h:PAll X w rs ps) (hXY: ∀b,X b→Y b) (hk: ∀a:Addr,X a.block→w'.cell? a=w.cell? a):PAll Y w' rs ps:=
 ⟨h.1,fun i h1 h2=>(h.2 i h1 h2).keep hXY hk⟩
theorem PAll.nil (X:Nat→Prop) (w:World):PAll X w [] []:=⟨rfl,fun i h1=>absurd h1 (by simp)⟩
theorem PAll.snoc {X:Nat→Prop} {w:World} {rs:List Raw} {ps:List Piece} {r:Raw} {p:Piece} (h:PAll X w rs ps) (hp:PAt X w r p):PAll X w (rs++ [r]) (ps++ [p]):=by
 refine⟨by simp[h.1],fun i h1 h2=> ?_⟩
 by_cases hi:i<rs.length
 ·rw[List.getElem_append_left hi,List.getElem_append_left (by rw[←h.1];exact hi)]
  exact h.2 i hi _
 ·have h1':i<rs.length+1:=by simpa using h1
  have e:i=rs.length:=by omega
  subst e
  rw[List.getElem_append_right (Nat.le_refl _),List.getElem_append_right (by rw[h.1];exact Nat.le_refl _)]
  simpa [h.1]using hp
theorem PAt.leaf (X:Nat→Prop) (w:World) (k:Int) (t:ByteArray):PAt X w ⟨k,t,none,0,0,0,0⟩ (M14.leaf k t):=
 .mk k t none 0 0 0 0 [] [] 0 (recs_nil _ _ _ _) (fun ad e=>by cases e) rfl (fun i h1=>absurd h1 (by simp))
def In (lo hi b:Nat):Prop:=lo≤b∧b<hi
theorem cell_block {w w':World} {a:Addr} (h:w'.heap[a.block]? =w.heap[a.block]?):w'.cell? a=w.cell? a:=by
 unfold World.cell?;rw[h]
theorem PAt.by_beside {lo rb:Nat} {w w':World} {r:Raw} {p:Piece} (h:PAt (In lo w.heap.size) w r p) (hb:Beside rb w w') (hr:rb<lo):PAt (In lo w'.heap.size) w' r p:=
 h.keep (fun _ ⟨h1,h2⟩=>⟨h1,Nat.lt_of_lt_of_le h2 hb.size⟩) fun _ ⟨h1,h2⟩=>cell_block (hb.block _ h2 (by omega))
theorem PAt.by_below {lo:Nat} {w w':World} {r:Raw} {p:Piece} (h:PAt (In lo w.heap.size) w r p) (hb:Below w.heap.size w w'):PAt (In lo w'.heap.size) w' r p:=
 h.keep (fun _ ⟨h1,h2⟩=>⟨h1,Nat.lt_of_lt_of_le h2 hb.size⟩) fun _ ⟨_,h2⟩=>cell_block (hb.block _ h2)
theorem PAt.by_less {lo lo' hi:Nat} {w:World} {r:Raw} {p:Piece} (h:PAt (In lo hi) w r p) (k:lo'≤lo):PAt (In lo' hi) w r p:=h.keep (fun _ ⟨h1,h2⟩=>⟨Nat.le_trans k h1,h2⟩) fun _ _=>rfl
def Build (e:TypeId) (base:Nat) (w:World) (v:Value) (ks:List Piece):Prop:=
 ∃raws:List Raw,w.ownsRow base e 5 v raws.length (raws.flatMap rawC)∧PAll (fun b=>In base w.heap.size b∧v.ownBlock≠some b) w raws ks
theorem Build.nil (e:TypeId) (base:Nat) (w:World):Build e base w (.slice none 0 0) []:=⟨[],World.ownsRow_nil _ _ _ _,PAll.nil _ _⟩
theorem own_same {base:Nat} {e:TypeId} {size n:Nat} {v:Value} {xs:List Value} {w w':World} (h:w.ownsRow base e size v n xs) (hk: ∀k,base≤k→k<w.heap.size→w'.heap[k]? =w.heap[k]?):w'.ownsRow base e size v n xs:=by
 refine⟨h.1,?_⟩
 rcases h.2 with h0|⟨g,cap,cur,e1,hb,hh,rest⟩
 ·exact Or.inl h0
 ·subst e1
  exact Or.inr ⟨g,cap,cur,rfl,hb,(hk g hb (Array.getElem?_eq_some_iff.1 hh).1).trans hh,rest⟩
theorem Build.same {e:TypeId} {base:Nat} {w w':World} {v:Value} {ks:List Piece} (h:Build e base w v ks) (hs:w.heap.size≤w'.heap.size) (hk: ∀k,base≤k→k<w.heap.size→w'.heap[k]? =w.heap[k]?):Build e base w' v ks:=by
 obtain⟨raws,h1,h2⟩:=h
 exact⟨raws,own_same h1 hk,h2.keep (fun b ⟨⟨a,c⟩,d⟩=>⟨⟨a,Nat.lt_of_lt_of_le c hs⟩,d⟩) fun a ⟨⟨b,c⟩,_⟩=>cell_block (hk _ b c)⟩
theorem Build.beside {e:TypeId} {base rb:Nat} {w w':World} {v:Value} {ks:List Piece} (h:Build e base w v ks) (hb:Beside rb w w') (hr:rb<base):Build e base w' v ks:=
 h.same hb.size fun k h1 h2=>hb.block k h2 (by omega)
theorem Build.below {e:TypeId} {base:Nat} {w w':World} {v:Value} {ks:List Piece} (h:Build e base w v ks) (hb:Below w.heap.size w w'):Build e base w' v ks:=
 h.same hb.size fun k _ h2=>hb.block k h2
theorem Build.len {e:TypeId} {base:Nat} {w:World} {v:Value} {ks:List Piece} (h:Build e base w v ks): ∃A c,v= .slice A ks.length c∧ks.length≤c∧c≤maxLen:=by
 obtain⟨raws,h1,h2⟩:=h
 obtain⟨A,c,e,a,b⟩:=(Recs.of_own rawC_len rfl h1).form
 rw[h2.1]at e a
 exact⟨A,c,e,a,b⟩
theorem Build.more {e:TypeId} {base:Nat} {w w1:World} {v v':Value} {ks:List Piece} {raws:List Raw} {r:Raw} {p:Piece} {lo:Nat}
    (h2:PAll (fun b=>In base w.heap.size b∧v.ownBlock≠some b) w raws ks) (hn: ∀g,v.ownBlock=some g→g<lo) (hlo:base≤lo) (hp:PAt (In lo w.heap.size) w r p)
    (hown:w1.ownsRow base e 5 v' (raws.length+1) (raws.flatMap rawC++ [r].flatMap rawC)) (hg:w.grownBy w1 v.ownBlock) (hb: ∀k,v'.ownBlock=some k→v.ownBlock=some k∨w.heap.size≤k):Build e base w1 v' (ks++ [p]):=by
 obtain⟨g1,g2,g3,g4,g5⟩:=hg
 refine⟨raws++ [r],by rw[List.length_append,List.flatMap_append];exact hown,PAll.snoc (h2.keep ?_ ?_) (hp.keep ?_ ?_)⟩
 ·rintro b ⟨⟨a,c⟩,d⟩
  refine⟨⟨a,Nat.lt_of_lt_of_le c g4⟩,fun q=> ?_⟩
  rcases hb b q with q2|q2
  ·exact d q2
  ·omega
 ·rintro a ⟨⟨b,c⟩,d⟩
  exact cell_block (g5 _ c (fun q=>d (by rw[q])))
 ·rintro b ⟨a,c⟩
  refine⟨⟨by omega,Nat.lt_of_lt_of_le c g4⟩,fun q=> ?_⟩
  rcases hb b q with q2|q2
  ·have:=hn b q2;omega
  ·omega
 ·rintro a ⟨b,c⟩
  refine cell_block (g5 _ c (fun q=> ?_))
  have:=hn a.block (by rw[q])
  omega
end W14
namespace W14
open Strs Recs M14
open Row256 (Beside)
def zeroR:Raw:=⟨0,⟨#[]⟩,none,0,0,0,0⟩
theorem piece_info:(Tryz.prog.info? 56).map (fun i=>(i.zero,i.size,i.bytes))=some (some (.agg #[.int .i64 0,.string ⟨#[]⟩,.slice none 0 0,.int .i64 0,.int .i64 0]),5,64):=by kernel_rfl
theorem piece_size (r:Raw):(Tryz.prog.info? 56).map (·.size)=some (rawA r).size:=by
 obtain⟨i,hi,-,h2,-⟩:=info_parts piece_info
 rw[hi];simp[rawA,h2]
theorem rawA_one (r:Raw):(rawA r).all (·.oneCell')=true:=by simp[rawA,Value.oneCell']
def PBox (w:World) (b:Nat) (r:Raw):Prop:=w.heap[b]? =some (.cells (rawA r) 56 (0,0))
theorem PBox.lt {w:World} {b:Nat} {r:Raw} (h:PBox w b r):b<w.heap.size:=(Array.getElem?_eq_some_iff.1 h).1
theorem PBox.below {w w':World} {b:Nat} {r:Raw} (h:PBox w b r) (k:Below w.heap.size w w'):PBox w' b r:=(k.block b h.lt).trans h
theorem PBox.beside {w w':World} {b c:Nat} {r:Raw} (h:PBox w b r) (k:Beside c w w') (e:b≠c):PBox w' b r:=(k.block b h.lt e).trans h
theorem zero_piece (w:World):(zeroValue 56).run Tryz.prog w= .ok (.agg (rawA zeroR)) w:=by
 obtain⟨i,hi,h1,-,-⟩:=info_parts piece_info
 simp[zeroValue,typeInfo,hi,h1];rfl
section
variable {ops:Array Oper} {rest:List Oper} {o:Oper} {a:Act} {w:World} {Q:Exit→Act→World→Prop}
theorem below_new (w:World) (o:Obj):Below w.heap.size w (w.alloc o):=(Below.refl w.heap.size w).alloc (Nat.le_refl _) o
theorem alloc_piece (hgd:o.guard=none) (ho:o.op= .alloc 56)
    (h: ∀w' b,w.heap.size=b→PBox w' b zeroR→Below w.heap.size w w'→w'.heap.size=w.heap.size+1→wpList Tryz.prog ops Q rest (a.put o.dst (.pointer (some ⟨b,0,none⟩))) w'):wpList Tryz.prog ops Q (o::rest) a w:=
 wpList_plain hgd fun _ hK=>by
  unfold Oper.wp execOp
  simp only[ho,Instr.alloc,newVar,newRow,zero_piece,Sem.run_bind,Sem.run_pure,Result.andThen_ok]
  exact hK _ _ (h _ _ rfl (heap_alloc_new w _) (below_new w _) (World.size_alloc w _))
theorem load_piece (hgd:o.guard=none) (x:Operand) (ho:o.op= .load 56 x) {b:Nat} (hx:a.eval x= .pointer (some ⟨b,0,none⟩)) {r:Raw} (hr:PBox w b r) (h:wpList Tryz.prog ops Q rest (a.put o.dst (.agg (rawA r))) w):wpList Tryz.prog ops Q (o::rest) a w:=
 wpList_load_row hgd 56 x ho b hx 56 (rawA r) (0,0) _ hr Tryz.underlying56 rfl (piece_size r) h
theorem store_piece (hgd:o.guard=none) (x y:Operand) (ho:o.op= .store 56 x y) {b:Nat} {r old:Raw} (hx:a.eval x= .pointer (some ⟨b,0,none⟩)) (hy:a.eval y= .agg (rawA r)) (hr:PBox w b old)
    (h: ∀w',PBox w' b r→Beside b w w'→w'.heap.size=w.heap.size→wpList Tryz.prog ops Q rest (a.put o.dst undef) w'):wpList Tryz.prog ops Q (o::rest) a w:=
 wpList_store_row hgd 56 x y ho b (rawA r) hx hy 56 (rawA old) hr (piece_size r) rfl (rawA_one r)
  (h _ (setRow_heap w b _ _ _ _ hr) ⟨rfl,rfl,rfl,by rw[setRow_size];exact Nat.le_refl _,fun k _ e=>setRow_other w b k _ e⟩ (setRow_size _ _ _))
theorem slice_piece (hgd:o.guard=none) (x:Operand) (ho:o.op= .buildSlice 54 1 #[(0,x)]) {r:Raw} (hx:a.eval x= .agg (rawA r))
    (h: ∀w' b,w.heap.size=b→Raws w'.heap.size w' (.slice (some ⟨b,0,none⟩) 1 1) [r]→Below w.heap.size w w'→w'.heap.size=w.heap.size+1→wpList Tryz.prog ops Q rest (a.put o.dst (.slice (some ⟨b,0,none⟩) 1 1)) w'):wpList Tryz.prog ops Q (o::rest) a w:=by
 obtain⟨i,hi,h1,h2,-⟩:=info_parts piece_info
 refine wpList_plain hgd fun _ hK=>wp_buildSlice 54 56 1 _ ho (rawA r) i _ Tryz.underlying54 hi h1 (by rw[h2];decide) (by rw[h2];decide) ?_ (hK _ _ (h _ _ rfl ?_ (below_new w _) (World.size_alloc w _)))
 ·rw[h2]
  simp only[List.map_toArray,List.map_cons,List.map_nil,hx]
  have hr:Array.range (1*5)= #[0,1,2,3,4]:=by decide
  rw[hr]
  simp[Instr.fill,rawA,Value.cells]
 ·refine⟨_,_,rfl,Nat.le_refl _,by unfold maxLen;decide,fun _=>⟨_,rfl,by rw[World.size_alloc];exact Nat.lt_succ_self _,fun k hk j hj=> ?_⟩⟩
  have hk0:k=0:=by simp at hk;omega
  subst hk0
  have:=cells_new w (rawC r) 56 j
  rw[Nat.zero_mul,Nat.zero_add]
  have h5:j<(rawC r).length:=by rw[rawC_len];exact hj
  exact(this _ (List.getElem?_eq_getElem h5)).trans (List.getElem?_eq_getElem h5).symm
end
theorem Build.own_lt {e:TypeId} {base:Nat} {w:World} {v:Value} {ks:List Piece} (h:Build e base w v ks): ∀g,v.ownBlock=some g→g<w.heap.size:=by
 obtain⟨raws,h1,-⟩:=h
 intro g hg
 exact(h1.lt g hg).2
theorem append_piece {ops:Array Oper} {rest:List Oper} {o:Oper} {a:Act} {w:World} {Q:Exit→Act→World→Prop} (hgd:o.guard=none) (s x:Operand)
    (ho:o.op= .call {callee:= .builtin .append,args:= #[s,x],argTypes:= #[54,54]})
    {base lo:Nat} {v u:Value} {ks:List Piece} {r:Raw} {p:Piece} (hs:a.eval s=v) (hx:a.eval x=u) (hb:Build 56 base w v ks) (hn: ∀g,v.ownBlock=some g→g<lo) (hlo:base≤lo) (hbase:base≤w.heap.size)
    (hu:Raws w.heap.size w u [r]) (hp:PAt (In lo w.heap.size) w r p) (hl:ks.length≤1000000)
    (h: ∀v' w',Build 56 base w' v' (ks++ [p])→w.grownBy w' v.ownBlock→wpList Tryz.prog ops Q rest (a.put o.dst v') w'):wpList Tryz.prog ops Q (o::rest) a w:=by
 obtain⟨i,hi,h1,h2,h3⟩:=info_parts piece_info
 obtain⟨raws,hown,hall⟩:=hb
 have hl2:raws.length≤1000000:=by rw[hall.1];exact hl
 refine wpList_append_recs hgd s x 54 ho base 56 i _ 5 64 Tryz.underlying54 hi h1 h2 h3 rfl (by decide) v raws.length (raws.flatMap rawC) hs hown u [r] w.heap.size hx hu rawC_len rawC_one
  (by simp only[List.length_cons,List.length_nil];unfold maxLen;omega) (by simp only[List.length_cons,List.length_nil];omega) hbase fun v' w' e1 e2 e3=>h v' w' (Build.more hall hn hlo hp e1 e2 e3) e2
theorem grown_below {e:TypeId} {base:Nat} {w w':World} {v:Value} {ks:List Piece} (hb:Build e base w v ks) (hg:w.grownBy w' v.ownBlock): ∀k,k<base→k<w.heap.size→w'.heap[k]? =w.heap[k]? :=by
 obtain⟨g1,g2,g3,g4,g5⟩:=hg
 obtain⟨raws,h1,-⟩:=hb
 intro k hk hk2
 refine g5 k hk2 fun q=> ?_
 have:=(h1.lt k q.symm).1
 omega
/-! the reader -/
def Reader (w:World) (b:Nat) (s:ByteArray) (at_ deep:Nat):Prop:=w.heap[b]? =some (.cells #[.string s,.int .i64 at_,.int .i64 deep] 95 (0,0))
section
variable {w w':World} {b:Nat} {s:ByteArray} {at_ deep:Nat}
theorem Reader.lt (h:Reader w b s at_ deep):b<w.heap.size:=(Array.getElem?_eq_some_iff.1 h).1
theorem Reader.below (h:Reader w b s at_ deep) (k:Below w.heap.size w w'):Reader w' b s at_ deep:=(k.block b h.lt).trans h
theorem Reader.beside {c:Nat} (h:Reader w b s at_ deep) (k:Beside c w w') (e:b≠c):Reader w' b s at_ deep:=(k.block b h.lt e).trans h
theorem Reader.c0 (h:Reader w b s at_ deep):w.cell? ⟨b,0,none⟩=some (.string s):=cell_of_row w b 0 _ _ _ h
theorem Reader.c1 (h:Reader w b s at_ deep):w.cell? ⟨b,1,none⟩=some (.int .i64 at_):=cell_of_row w b 1 _ _ _ h
theorem Reader.c2 (h:Reader w b s at_ deep):w.cell? ⟨b,2,none⟩=some (.int .i64 deep):=cell_of_row w b 2 _ _ _ h
theorem Reader.free (h:Reader w b s at_ deep) (i:Nat):w.frozen? ⟨b,i,none⟩=false:=frozen_of_row w b i _ _ h
theorem Reader.put1 (h:Reader w b s at_ deep) (n:Nat):Reader (w.setCell ⟨b,1,none⟩ (.int .i64 n)) b s n deep:=by
 unfold Reader at*
 rw[heap_setCell_same w b 1 _ _ _ h];rfl
theorem Reader.put2 (h:Reader w b s at_ deep) (n:Nat):Reader (w.setCell ⟨b,2,none⟩ (.int .i64 n)) b s at_ n:=by
 unfold Reader at*
 rw[heap_setCell_same w b 2 _ _ _ h];rfl
end
theorem beside_put (w:World) (b i:Nat) (v:Value):Beside b w (w.setCell ⟨b,i,none⟩ v):=(Beside.refl b w).put i v
theorem beside_fresh {b c:Nat} {w0 w w':World} (h:Beside b w0 w) (k:Beside c w w') (hc:w0.heap.size≤c):Beside b w0 w':=
 ⟨k.os.trans h.os,k.tape.trans h.tape,k.output.trans h.output,Nat.le_trans h.size k.size,fun i hi e=>(k.block i (Nat.lt_of_lt_of_le hi h.size) (by omega)).trans (h.block i hi e)⟩
theorem beside_onto {b:Nat} {w0 w w':World} (h:Beside b w0 w) (k:Below w.heap.size w w'):Beside b w0 w':=h.trans (.of k)
theorem end_piece2 {fn:Func} {R:Ending→World→Prop} {a:Act} {w:World} {p u:Tmp} {b:Nat} {r:Raw} (hf:fn.results= #[.cell p 56,.tmp u]) (hp:a.tmps.getD p undef= .pointer (some ⟨b,0,none⟩)) (hr:PBox w b r) (hd:a.defers= [])
    (hR:R (.returned (.tuple #[.agg (rawA r),a.tmps.getD u undef])) w):bodyPost Tryz.prog fn R .ret a w:=by
 refine bodyPost_ret ?_ hd hR
 have hp':a.tmps[p]?.getD undef= .pointer (some ⟨b,0,none⟩):=by simpa using hp
 have hl:=run_loadVar_row w b 56 56 (rawA r) (0,0) _ hr Tryz.underlying56 rfl (piece_size r)
 simp[results,hf,hp',asAddr,Result.andThen,hl]
theorem end_piece3 {fn:Func} {R:Ending→World→Prop} {a:Act} {w:World} {p u v:Tmp} {b:Nat} {r:Raw} (hf:fn.results= #[.cell p 56,.tmp u,.tmp v]) (hp:a.tmps.getD p undef= .pointer (some ⟨b,0,none⟩)) (hr:PBox w b r) (hd:a.defers= [])
    (hR:R (.returned (.tuple #[.agg (rawA r),a.tmps.getD u undef,a.tmps.getD v undef])) w):bodyPost Tryz.prog fn R .ret a w:=by
 refine bodyPost_ret ?_ hd hR
 have hp':a.tmps[p]?.getD undef= .pointer (some ⟨b,0,none⟩):=by simpa using hp
 have hl:=run_loadVar_row w b 56 56 (rawA r) (0,0) _ hr Tryz.underlying56 rfl (piece_size r)
 simp[results,hf,hp',asAddr,Result.andThen,hl]
theorem end_piece1 {fn:Func} {R:Ending→World→Prop} {a:Act} {w:World} {p:Tmp} {b:Nat} {r:Raw} (hf:fn.results= #[.cell p 56]) (hp:a.tmps.getD p undef= .pointer (some ⟨b,0,none⟩)) (hr:PBox w b r) (hd:a.defers= [])
    (hR:R (.returned (.agg (rawA r))) w):bodyPost Tryz.prog fn R .ret a w:=
 bodyPost_ret (results_cell_row hf a.tmps w b 56 (rawA r) (0,0) _ hp hr Tryz.underlying56 rfl (piece_size r)) hd hR
end W14
namespace W14
open Strs Recs M14
open Row256 (Beside)
open Kit (ret_str ret_bool ret_int mk_of mk_bytes ba_ext below_draws on)
theorem load_at {ops:Array Oper} {rest:List Oper} {o:Oper} {a:Act} {w:World} {Q:Exit→Act→World→Prop} (hgd:o.guard=none) (x:Operand) (ho:o.op= .load 56 x) {b k:Nat} (hx:a.eval x= .pointer (some ⟨b,k,none⟩)) {r:Raw}
    (hr: ∀j,j<5→w.cell? ⟨b,k+j,none⟩=(rawC r)[j]?) (h:wpList Tryz.prog ops Q rest (a.put o.dst (.agg (rawA r))) w):wpList Tryz.prog ops Q (o::rest) a w:=
 wpList_plain hgd fun _ hK=>by
  have hl:(loadCells ⟨b,k,none⟩ (rawC r).length).run Tryz.prog w= .ok (rawC r).toArray w:=run_loadCells_list (P:=Tryz.prog) w ⟨b,k,none⟩ (rawC r) fun j v hv=>by
   have hadd:(⟨b,k,none⟩:Addr).add j=⟨b,k+j,none⟩:=by unfold Addr.add;split<;>simp_all
   have hj:j<5:=by
    rcases Nat.lt_or_ge j (rawC r).length with q|q
    ·rw[rawC_len]at q;exact q
    ·rw[List.getElem?_eq_none q]at hv;cases hv
   rw[hadd,hr j hj];exact hv
  obtain⟨i,hi,-,h2,-⟩:=info_parts piece_info
  have hagg:(isAgg 56).run Tryz.prog w= .ok true w:=by
   unfold isAgg
   rw[Sem.run_bind,run_underlying Tryz.underlying56 w]
   rfl
  rw[rawC_len]at hl
  unfold Oper.wp execOp
  simp only[ho,hx,Instr.loadAt,Instr.sureAddr,loadVar,sizeOf,typeInfo,Sem.run_bind,Sem.run_pure,Result.andThen_ok,hagg]
  simp[hi,h2,hl,Sem.run_bind,Result.andThen]
  exact hK _ _ h
def Laid (base:Nat) (w:World) (p:Piece) (e:Ending) (w':World):Prop:= ∃r,e= .returned (.agg (rawA r))∧PAt (In base w'.heap.size) w' r p∧Below w.heap.size w w'
theorem own_form {base:Nat} {e:TypeId} {size n:Nat} {v:Value} {xs:List Value} {w:World} (h:w.ownsRow base e size v n xs) (hn:0<n): ∃g c,v= .slice (some ⟨g,0,none⟩) n c∧base≤g∧g<w.heap.size∧n≤c∧c≤maxLen:=by
 rcases h.2 with⟨rfl,h0⟩|⟨g,cap,cur,rfl,hb,hh,hc,hm,-⟩
 ·omega
 ·exact⟨g,cap,rfl,hb,(Array.getElem?_eq_some_iff.1 hh).1,hc,hm⟩
theorem together_0 {base:Nat} {w:World} {v:Value} (kind:Int) (h:Build 56 base w v []):Calls Tryz.prog 96 #[.int .i64 kind,v] w (Laid base w (together kind [])):=by
 obtain⟨A,c,rfl,h1,h2⟩:=h.len
 unfold maxLen at h2
 go_enter Tryz.func96,Tryz.ntmps96
 go_wp2_with (first
  |(refine alloc_piece rfl rfl ?_;intro w1 b1 e1 p1 l1 z1)
  |(refine store_piece (r:=⟨1,⟨#[]⟩,none,0,0,0,0⟩) rfl _ _ rfl rfl rfl p1 ?_;intro w2 p2 l2 z2))
 refine end_piece1 rfl rfl p2 rfl ⟨_,rfl,PAt.leaf _ _ 1 _,l1.trans (l2.below l1.size (by omega))⟩
theorem together_1 {base:Nat} {w:World} {v:Value} {p:Piece} (kind:Int) (h:Build 56 base w v [p]):Calls Tryz.prog 96 #[.int .i64 kind,v] w (Laid base w (together kind [p])):=by
 obtain⟨raws,hown,hall⟩:=h
 obtain⟨r,rfl⟩: ∃r,raws= [r]:=List.length_eq_one_iff.1 hall.1
 have hp:=hall.2 0 (by simp) (by simp)
 simp only[List.getElem_cons_zero]at hp
 have hR:=Recs.of_own rawC_len rfl hown
 obtain⟨g,c,rfl,hg,hgw,h1,h2⟩:=own_form hown (by simp)
 unfold maxLen at h2
 obtain⟨b,o,hl,hbo,-,hc⟩:=hR.flat_ rawC_len (by decide) (k:=0) (by simp)
 cases hbo
 simp only[List.getElem_cons_zero,Nat.zero_mul,Nat.add_zero]at hc
 have HC:=hid hc
 have HP:=hid hp
 simp only[List.length_cons,List.length_nil,Nat.zero_add]at h1 ⊢
 clear hc hp hR hall hown
 go_enter Tryz.func96,Tryz.ntmps96
 go_wp2_with (first
  |(refine alloc_piece rfl rfl ?_;intro w1 b1 e1 p1 l1 z1)
  |(refine load_at rfl _ rfl rfl (r:=r) (fun j hj=>(cell_block (l1.block _ hgw)).trans (HC.out j hj)) ?_)
  |(refine store_piece rfl _ _ rfl rfl rfl p1 ?_;intro w2 p2 l2 z2))
 have hb:=l1.trans (l2.below l1.size (by omega))
 refine end_piece1 rfl rfl p2 rfl ⟨_,rfl,HP.out.keep (fun _ q=>⟨q.1.1,Nat.lt_of_lt_of_le q.1.2 hb.size⟩) (fun _ q=>cell_block (hb.block _ q.1.2)),hb⟩
theorem together_2 {base:Nat} {w:World} {v:Value} {p q:Piece} {ks:List Piece} (kind:Int) (hks:ks.length≤1000000) (h:Build 56 base w v (p::q::ks)):Calls Tryz.prog 96 #[.int .i64 kind,v] w (Laid base w (together kind (p::q::ks))):=by
 obtain⟨raws,hown,hall⟩:=h
 have hlen:raws.length=ks.length+2:=hall.1
 have hR:=Recs.of_own rawC_len rfl hown
 obtain⟨g,c,rfl,hg,hgw,h1,h2⟩:=own_form hown (by omega)
 have HA:=hid hall
 have HR:=hid hR
 unfold maxLen at h2
 rw[hlen]at h1 HR ⊢
 clear hR hall hown
 have t0:(((ks.length+2:Nat):Int)==0)=false:=by simpa using (by omega: ¬(((ks.length+2:Nat):Int)=0))
 have t1:(((ks.length+2:Nat):Int)==1)=false:=by simpa using (by omega: ¬(((ks.length+2:Nat):Int)=1))
 generalize hn:ks.length+2=n at*
 have HN:=hid hn
 clear hn
 go_enter Tryz.func96,Tryz.ntmps96
 go_wp2_with (first
  |(refine alloc_piece rfl rfl ?_;intro w1 b1 e1 p1 l1 z1)
  |(refine store_piece (r:=⟨kind,⟨#[]⟩,some ⟨g,0,none⟩,n,c,0,0⟩) rfl _ _ rfl rfl rfl p1 ?_;intro w2 p2 l2 z2))
 have hb:=l1.trans (l2.below l1.size (by omega))
 refine end_piece1 rfl rfl p2 rfl ⟨_,rfl,.mk _ _ _ _ _ _ _ raws _ _ (HR.out.below hb) ?_ HA.out.1 ?_,hb⟩
 ·intro ad e _
  cases e
  exact⟨hg,Nat.lt_of_lt_of_le hgw hb.size⟩
 ·intro i h1 h2
  exact(HA.out.2 i h1 h2).keep (fun _ q=>⟨q.1.1,Nat.lt_of_lt_of_le q.1.2 hb.size⟩) (fun _ q=>cell_block (hb.block _ q.1.2))
theorem together_any {base:Nat} {w:World} {v:Value} {ks:List Piece} (kind:Int) (hks:ks.length≤1000000) (h:Build 56 base w v ks):Calls Tryz.prog 96 #[.int .i64 kind,v] w (Laid base w (together kind ks)):=by
 match ks,h with
 | [],h=>exact together_0 kind h
 | [p],h=>exact together_1 kind h
 |p::q::l,h=>exact together_2 kind (by simp only[List.length_cons]at hks;omega) h
end W14
namespace W14
open Strs Recs M14
open Row256 (Beside)
open Kit (below_draws on)
section
variable {ops:Array Oper} {rest:List Oper} {o:Oper} {a:Act} {w:World} {Q:Exit→Act→World→Prop}
theorem box_arg (hgd:o.guard=none) (x:Operand) (ho:o.op= .box 56 x) {r:Raw} (hx:a.eval x= .agg (rawA r))
    (h: ∀w' b,w.heap.size=b→PBox w' b r→Below w.heap.size w w'→w'.heap.size=w.heap.size+1→wpList Tryz.prog ops Q rest (a.put o.dst (.pointer (some ⟨b,0,none⟩))) w'):wpList Tryz.prog ops Q (o::rest) a w:=
 wpList_plain hgd fun _ hK=>by
  unfold Oper.wp execOp
  simp only[ho,hx,Instr.box,newVar,newRow,Sem.run_bind,Sem.run_pure]
  exact hK _ _ (h _ _ rfl (heap_alloc_new w _) (below_new w _) (World.size_alloc w _))
end
theorem run_load_op {a:Act} {o:Oper} {w:World} (x:Operand) (ho:o.op= .load 56 x) {b k:Nat} (hx:a.eval x= .pointer (some ⟨b,k,none⟩)) {r:Raw} (hr: ∀j,j<5→w.cell? ⟨b,k+j,none⟩=(rawC r)[j]?):(execOp a.eval o).run Tryz.prog w= .ok (.value (.agg (rawA r))) w:=by
 have hl:(loadCells ⟨b,k,none⟩ (rawC r).length).run Tryz.prog w= .ok (rawC r).toArray w:=run_loadCells_list (P:=Tryz.prog) w ⟨b,k,none⟩ (rawC r) fun j v hv=>by
  have hadd:(⟨b,k,none⟩:Addr).add j=⟨b,k+j,none⟩:=by unfold Addr.add;split<;>simp_all
  have hj:j<5:=by
   rcases Nat.lt_or_ge j (rawC r).length with q|q
   ·rw[rawC_len]at q;exact q
   ·rw[List.getElem?_eq_none q]at hv;cases hv
  rw[hadd,hr j hj];exact hv
 obtain⟨i,hi,-,h2,-⟩:=info_parts piece_info
 have hagg:(isAgg 56).run Tryz.prog w= .ok true w:=by
  unfold isAgg
  rw[Sem.run_bind,run_underlying Tryz.underlying56 w]
  rfl
 rw[rawC_len]at hl
 unfold execOp
 simp only[ho,hx,Instr.loadAt,Instr.sureAddr,loadVar,sizeOf,typeInfo,Sem.run_bind,Sem.run_pure,Result.andThen_ok,hagg]
 simp[hi,h2,hl,Sem.run_bind,Result.andThen]
 rfl
section
variable {w w':World} {b:Nat} {r:Raw}
theorem PBox.c0 (h:PBox w b r):w.cell? ⟨b,0,none⟩=some (.int .i64 r.kind):=cell_of_row w b 0 _ _ _ h
theorem PBox.c1 (h:PBox w b r):w.cell? ⟨b,1,none⟩=some (.string r.text):=cell_of_row w b 1 _ _ _ h
theorem PBox.c2 (h:PBox w b r):w.cell? ⟨b,2,none⟩=some (.slice r.ad r.len r.cap):=cell_of_row w b 2 _ _ _ h
theorem PBox.c3 (h:PBox w b r):w.cell? ⟨b,3,none⟩=some (.int .i64 r.least):=cell_of_row w b 3 _ _ _ h
theorem PBox.c4 (h:PBox w b r):w.cell? ⟨b,4,none⟩=some (.int .i64 r.top):=cell_of_row w b 4 _ _ _ h
theorem PBox.cells (h:PBox w b r): ∀j,j<5→w.cell? ⟨b,0+j,none⟩=(rawC r)[j]? :=by
 intro j hj
 rw[Nat.zero_add,cell_of_row w b j _ _ _ h]
 match j,hj with
 |0,_=>rfl
 |1,_=>rfl
 |2,_=>rfl
 |3,_=>rfl
 |4,_=>rfl
end
def PLow (w:World) (r:Raw) (p:Piece):Prop:=PAt (fun b=>b<w.heap.size) w r p
theorem PLow.below {w w':World} {r:Raw} {p:Piece} (h:PLow w r p) (hb:Below w.heap.size w w'):PLow w' r p:=
 PAt.keep h (fun _ q=>Nat.lt_of_lt_of_le q hb.size) fun _ q=>cell_block (hb.block _ q)
theorem PAt.low {lo:Nat} {w:World} {r:Raw} {p:Piece} (h:PAt (In lo w.heap.size) w r p):PLow w r p:=h.keep (fun _ q=>q.2) fun _ _=>rfl
def Kids (w:World) (A:Option Addr) (c:Nat) (raws:List Raw) (ks:List Piece):Prop:=
 (∃B,Raws B w (.slice A ks.length c) raws)∧(∀ad,A=some ad→0<raws.length→ad.block<w.heap.size)∧PAll (fun b=>b<w.heap.size) w raws ks
theorem PLow.parts {w:World} {r:Raw} {k:Int} {t:ByteArray} {ks:List Piece} {l tp:Int} (h:PLow w r (.mk k t ks l tp)): ∃A c raws,r=⟨k,t,A,ks.length,c,l,tp⟩∧Kids w A c raws ks:=by
 unfold PLow at h
 cases h with
 |mk _ _ A n c _ _ raws _ B h hX hl hk=>
  have hn:n=ks.length:=by
   obtain⟨A',c',e,-⟩:=h
   injection e with e1 e2 e3
   omega
  subst hn
  exact⟨A,c,raws,rfl,⟨B,h⟩,hX,hl,hk⟩
theorem Kids.below {w w':World} {A:Option Addr} {c:Nat} {raws:List Raw} {ks:List Piece} (h:Kids w A c raws ks) (hb:Below w.heap.size w w'):Kids w' A c raws ks:=by
 obtain⟨⟨B,h1⟩,h2,h3⟩:=h
 refine⟨⟨B,raws_keep h1 fun ad e hn p hp=>cell_block (hb.block _ (by rw[hp];exact h2 ad e hn))⟩,fun ad e hn=>Nat.lt_of_lt_of_le (h2 ad e hn) hb.size,h3.keep (fun _ q=>Nat.lt_of_lt_of_le q hb.size) fun _ q=>cell_block (hb.block _ q)⟩
theorem Kids.room {w:World} {A:Option Addr} {c:Nat} {raws:List Raw} {ks:List Piece} (h:Kids w A c raws ks):ks.length≤c∧c≤9223372036854775807:=by
 obtain⟨⟨B,A',c',e,h2,h3,-⟩,-,h4,-⟩:=h
 injection e with e1 e2 e3
 subst e3
 unfold maxLen at h3
 omega
theorem Kids.at_ {w:World} {A:Option Addr} {c:Nat} {raws:List Raw} {ks:List Piece} (h:Kids w A c raws ks) (hn:0<ks.length): ∃g o,A=some ⟨g,o,none⟩∧ ∀i (hi:i<raws.length),∀j,j<5→w.cell? ⟨g,o+i*5+j,none⟩=(rawC raws[i])[j]? :=by
 obtain⟨⟨B,h1⟩,h2,h3,-⟩:=h
 obtain⟨g,o,hl,e,-,-⟩:=h1.flat_ rawC_len (by decide) (k:=0) hn
 refine⟨g,o,e,fun i hi=> ?_⟩
 obtain⟨g',o',hl',e',-,hc⟩:=h1.flat_ rawC_len (by decide) (k:=i) (by omega)
 rw[e]at e'
 cases e'
 exact hc
theorem Kids.kid {w:World} {A:Option Addr} {c:Nat} {raws:List Raw} {ks:List Piece} (h:Kids w A c raws ks) {i:Nat} (hi:i<ks.length): ∃hr:i<raws.length,PLow w raws[i] ks[i]:=by
 obtain⟨-,-,h3,h4⟩:=h
 exact⟨by omega,h4 i (by omega) hi⟩
theorem Kids.moved {w w':World} {g o c:Nat} {raws:List Raw} {ks:List Piece} (h:Kids w (some ⟨g,o,none⟩) c raws ks) (hb:Below w.heap.size w w') {i:Nat} (hi:i<raws.length) (hc: ∀j,j<5→w.cell? ⟨g,o+i*5+j,none⟩=(rawC raws[i])[j]?): ∀j,j<5→w'.cell? ⟨g,o+i*5+j,none⟩=(rawC raws[i])[j]? :=fun j hj=>
 (cell_block (hb.block g (h.2.1 _ rfl (Nat.lt_of_le_of_lt (Nat.zero_le _) hi)))).trans (hc j hj)
end W14
namespace Recs
theorem old_kept {P:Program} (w:World) (base:Nat) (t ty e:TypeId) (i:TypeInfo) (z:Value) (size bytes:Nat) (ht:P.underlying t=some (.slice e)) (hi:P.info? e=some i) (hz:i.zero=some z)
    (hsize:i.size=size) (hby:i.bytes=bytes) (hzs:z.cells.size=size) (hsz:0<size)
    (v:Value) (n:Nat) (xs:List Value) (hown:w.ownsRow base e size v n xs) (hbase:base≤w.heap.size)
    (a:Addr) (m c:Nat) (news:List Value) (hl:news.length=m*size) (hnews: ∀j u,news[j]? =some u→w.cell? (a.add j)=some u) (h1: ∀u∈news,u.oneCell'=true)
    (h63:n+m≤maxLen) (hbytes:(n+m)*bytes≤140737488355328) {v':Value} {w':World} (hr:(Builtin.append_ #[t,t] ty #[v,.slice (some a) m c]).run P w= .ok v' w'):
    ∀k,k<w.heap.size→v'.ownBlock≠some k→w'.heap[k]? =w.heap[k]? :=by
 subst hsize
 subst hby
 intro k hk hne
 obtain⟨v2,w2,hr2,-,hg2,-⟩:=run_append_own w base t ty e i z i.size i.bytes ht hi hz rfl rfl hzs hsz v n xs hown a m c news hl hnews h1 h63 hbytes hbase
 rw[hr]at hr2
 cases hr2
 obtain⟨-,-,-,-,g5⟩:=hg2
 rcases hown.2 with⟨rfl,rfl⟩|⟨g,cap,cur,rfl,hbg,hg,hnc,hcm,hcs,htake⟩
 ·exact g5 k hk (by simp[Value.ownBlock])
 ·by_cases hroom:n+m≤cap
  ·have hfit:n*i.size+news.length≤cur.size:=by rw[hl,hcs,←Nat.add_mul];exact Nat.mul_le_mul_right _ hroom
   rw[run_append_room w t ty e i ht hi g n cap cur hg a m c news hl hnews h1 hroom hfit]at hr
   cases hr
   exact g5 k hk (fun q=>hne (by rw[q];rfl))
  ·have holds: ∀j u,xs[j]? =some u→w.cell? ((⟨g,0,none⟩:Addr).add j)=some u:=hown.cells (g:=g) rfl
   have hsmall:n+m≤9223372036854775807:=by simp only[maxLen]at h63;omega
   rw[run_append_grow w t ty e i z ht hi hz ⟨g,0,none⟩ n cap xs hown.1 holds a m c news hl hnews (by omega) (by omega) (growslice_fits (by omega) hbytes)]at hr
   cases hr
   exact heap_alloc_old w _ hk
structure Put (v v':Value) (w w':World):Prop where
 grown:w.grownBy w' v.ownBlock
 own: ∀k,v'.ownBlock=some k→v.ownBlock=some k∨w.heap.size≤k
 kept: ∀k,k<w.heap.size→v'.ownBlock≠some k→w'.heap[k]? =w.heap[k]?
theorem wp_append_put {α:Type} {enc:α→List Value} {P:Program} {w:World} {o:Oper} {a:Act} {K:Act→World→Prop} {Q:Exit→Act→World→Prop} (s x:Operand) (t:TypeId)
    (ho:o.op= .call {callee:= .builtin .append,args:= #[s,x],argTypes:= #[t,t]})
    (base:Nat) (e:TypeId) (i:TypeInfo) (z:Value) (size bytes:Nat) (ht:P.underlying t=some (.slice e)) (hi:P.info? e=some i) (hz:i.zero=some z)
    (hsize:i.size=size) (hby:i.bytes=bytes) (hzs:z.cells.size=size) (hsz:0<size)
    (v:Value) (n:Nat) (xs:List Value) (hs:a.eval s=v) (hown:w.ownsRow base e size v n xs)
    (u:Value) (L:List α) (B:Nat) (hx:a.eval x=u) (hu:Recs enc size B w u L) (he: ∀r:α,(enc r).length=size) (h1: ∀r:α,∀c∈enc r,c.oneCell'=true)
    (h63:n+L.length≤maxLen) (hbytes:(n+L.length)*bytes≤140737488355328) (hbase:base≤w.heap.size)
    (h: ∀v' w',w'.ownsRow base e size v' (n+L.length) (xs++L.flatMap enc)→Put v v' w w'→K (a.put o.dst v') w'):o.wp P a w K Q:=by
 obtain⟨A,c,rfl,hc1,hc2⟩:=hu.form
 have hfl:(L.flatMap enc).length=L.length*size:=flat_len he L
 have hone: ∀u∈L.flatMap enc,u.oneCell'=true:=fun q hq=>by
  obtain⟨r,_,hr⟩:=List.mem_flatMap.1 hq
  exact h1 r q hr
 cases A with
 |none=>
  have h0:L.length=0:=by
   rcases Nat.eq_zero_or_pos L.length with q|q
   ·exact q
   ·obtain⟨b,o,hf,_⟩:=hu.news he hsz q
    cases hf
  have hL:L= []:=List.length_eq_zero_iff.1 h0
  subst hL
  have hrun:=run_append_void (P:=P) (w:=w) base t o.type e i size ht hi v n c xs hown
  have hx':a.eval x= .slice none 0 c:=hx
  unfold Oper.wp
  simp[execOp,ho,resolve,invoke,builtin,hs,hx',hrun,Result.andThen]
  exact h v w (by simpa using hown) ⟨⟨rfl,rfl,rfl,Nat.le_refl _,fun _ _ _=>rfl⟩,fun k hk=>Or.inl hk,fun _ _ _=>rfl⟩
 |some ad=>
  have hnews: ∀j q,(L.flatMap enc)[j]? =some q→w.cell? (ad.add j)=some q:=by
   intro j q hq
   rcases Nat.eq_zero_or_pos L.length with h0|h0
   ·have:L= []:=List.length_eq_zero_iff.1 h0
    subst this
    simp at hq
   ·obtain⟨b,o,hf,_,hcell⟩:=hu.news he hsz h0
    cases hf
    exact hcell j q hq
  obtain⟨v',w',hr,h2,h3,-⟩:=run_append_own (P:=P) w base t o.type e i z size bytes ht hi hz hsize hby hzs hsz v n xs hown ad L.length c (L.flatMap enc) hfl hnews hone h63 hbytes hbase
  have h4:=own_block_next w base t o.type e i z size bytes ht hi hz hsize hby hzs hsz v n xs hown ad L.length c (L.flatMap enc) hfl hnews hone h63 hbytes hr
  have h5:=old_kept w base t o.type e i z size bytes ht hi hz hsize hby hzs hsz v n xs hown hbase ad L.length c (L.flatMap enc) hfl hnews hone h63 hbytes hr
  have hx':a.eval x= .slice (some ad) L.length c:=hx
  unfold Oper.wp execOp
  simp only[ho,resolve,invoke,builtin,Sem.run_bind,Sem.run_pure,Result.andThen_ok,List.map_toArray,List.map_cons,List.map_nil,hs,hx',hr]
  exact h v' w' h2 ⟨h3,h4,h5⟩
theorem wpList_append_put {α:Type} {enc:α→List Value} {P:Program} {w:World} {ops:Array Oper} {rest:List Oper} {o:Oper} {a:Act} {Q:Exit→Act→World→Prop} (hgd:o.guard=none) (s x:Operand) (t:TypeId)
    (ho:o.op= .call {callee:= .builtin .append,args:= #[s,x],argTypes:= #[t,t]})
    (base:Nat) (e:TypeId) (i:TypeInfo) (z:Value) (size bytes:Nat) (ht:P.underlying t=some (.slice e)) (hi:P.info? e=some i) (hz:i.zero=some z)
    (hsize:i.size=size) (hby:i.bytes=bytes) (hzs:z.cells.size=size) (hsz:0<size)
    (v:Value) (n:Nat) (xs:List Value) (hs:a.eval s=v) (hown:w.ownsRow base e size v n xs)
    (u:Value) (L:List α) (B:Nat) (hx:a.eval x=u) (hu:Recs enc size B w u L) (he: ∀r:α,(enc r).length=size) (h1: ∀r:α,∀c∈enc r,c.oneCell'=true)
    (h63:n+L.length≤maxLen) (hbytes:(n+L.length)*bytes≤140737488355328) (hbase:base≤w.heap.size)
    (h: ∀v' w',w'.ownsRow base e size v' (n+L.length) (xs++L.flatMap enc)→Put v v' w w'→wpList P ops Q rest (a.put o.dst v') w'):wpList P ops Q (o::rest) a w:=
 wpList_plain hgd fun _ hK=>wp_append_put s x t ho base e i z size bytes ht hi hz hsize hby hzs hsz v n xs hs hown u L B hx hu he h1 h63 hbytes hbase fun v' w' h2 h3=>hK _ _ (h v' w' h2 h3)
end Recs
end Go.Proofs.YtfgegjinhkgpbaaGreatDoor
