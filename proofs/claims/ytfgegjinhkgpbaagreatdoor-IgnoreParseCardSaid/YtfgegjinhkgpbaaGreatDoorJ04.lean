/-
  Texts joined, in build order, each with its own comment and its own conditions: W14Heap, W14Box, W14Together, W14Take, RecKeep, W15Heap, W15Layer.
-/
import Derived.Test.YtfgegjinhkgpbaaGreatDoorJ03
import Derived.Test.YtfgegjinhkgpbaaGreatDoorChecked
import Derived.WalkKit
import Derived.KernelRfl
import Derived.Laws.Rows
import Derived.Laws.Tables
import Derived.Deep.WholeRow
import Derived.Great.BuildSlice
import Derived.BigQuiet
namespace Go.Proofs.YtfgegjinhkgpbaaGreatDoor
set_option maxHeartbeats 4000000
set_option maxRecDepth 100000
open Go.RowKit
open Lib (hid)
namespace W14
open Strs Al Cj
open BU (Beside)
structure Raw where
 kind:Int
 text:ByteArray
 ad:Option Addr
 len:Nat
 cap:Nat
 least:Int
 top:Int
def Co (r:Raw):List Value:= [.int .i64 r.kind,.string r.text,.slice r.ad r.len r.cap,.int .i64 r.least,.int .i64 r.top]
def Ak (r:Raw):Array Value:= #[.int .i64 r.kind,.string r.text,.slice r.ad r.len r.cap,.int .i64 r.least,.int .i64 r.top]
theorem DV (r:Raw):(Co r).length=5:=rfl
theorem iC (r:Raw): ∀c∈Co r,c.oneCell'=true:=by
 intro c hc
 simp only[Co,List.mem_cons,List.not_mem_nil,or_false]at hc
 rcases hc with rfl|rfl|rfl|rfl|rfl<;>rfl
abbrev Ea (B:Nat) (w:World) (v:Value) (L:List Raw):Prop:=Al Co 5 B w v L
inductive DF (X:Nat->Prop) (w:World):Raw->Piece->Prop
 |mk (k:Int) (t:ByteArray) (A:Option Addr) (n c:Nat) (l tp:Int) (Ag:List Raw) (ks:List Piece) (B:Nat)
    (h:Ea B w (.slice A n c) Ag) (hX: ∀ad,A=some ad->0<Ag.length->X ad.block) (hl:Ag.length=ks.length)
    (hk: ∀(i:Nat) (h1:i<Ag.length) (h2:i<ks.length),DF X w (Ag[i]'h1) (ks[i]'h2)):DF X w ⟨k,t,A,n,c,l,tp⟩ (.mk k t ks l tp)
def FT (X:Nat->Prop) (w:World) (Ag:List Raw) (ks:List Piece):Prop:=Ag.length=ks.length/\ ∀(i:Nat) (h1:i<Ag.length) (h2:i<ks.length),DF X w (Ag[i]'h1) (ks[i]'h2)
theorem EF {B:Nat} {w w':World} {A:Option Addr} {n c:Nat} {L:List Raw} (h:Ea B w (.slice A n c) L) (hk: ∀ad,A=some ad->0<L.length-> ∀p:Addr,p.block=ad.block->w'.cell? p=w.cell? p):Ea B w' (.slice A n c) L:=by
 obtain⟨A',c',e,h1,h2,h3⟩:=h
 injection e with e1 e2 e3
 subst e1 e2 e3
 exact⟨_,_,rfl,h1,h2,fun hn=>by
  obtain⟨ad,e2,hb,hc⟩:=h3 hn
  subst e2
  exact⟨_,rfl,hb,fun k hk2 j hj=>(hk ad rfl hn _ (by rw[block_add])).trans (hc k hk2 j hj)⟩⟩
theorem DF.keep {X Y:Nat->Prop} {w w':World} {r:Raw} {p:Piece} (h:DF X w r p) (xV: ∀b,X b->Y b) (hk: ∀a:Addr,X a.block->w'.cell? a=w.cell? a):DF Y w' r p:=by
 induction h with
 |mk k t A n c l tp Ag ks B h hX hl hks ih=>
  exact .mk k t A n c l tp Ag ks B (EF h fun ad e hn p hp=>hk p (by rw[hp];exact hX ad e hn)) (fun ad e hn=>xV _ (hX ad e hn)) hl (fun i h1 h2=>ih i h1 h2)
theorem FT.keep {X Y:Nat->Prop} {w w':World} {rs:List Raw} {ps:List Piece} (h:FT X w rs ps) (xV: ∀b,X b->Y b) (hk: ∀a:Addr,X a.block->w'.cell? a=w.cell? a):FT Y w' rs ps:=
 ⟨h.1,fun i h1 h2=>(h.2 i h1 h2).keep xV hk⟩
theorem FT.nil (X:Nat->Prop) (w:World):FT X w [] []:=⟨rfl,fun i h1=>absurd h1 (by simp)⟩
theorem FT.snoc {X:Nat->Prop} {w:World} {rs:List Raw} {ps:List Piece} {r:Raw} {p:Piece} (h:FT X w rs ps) (hp:DF X w r p):FT X w (rs++ [r]) (ps++ [p]):=by
 refine⟨by simp[h.1],fun i h1 h2=> ?_⟩
 by_cases hi:i<rs.length
 ·rw[List.getElem_append_left hi,List.getElem_append_left (by rw[<-h.1];exact hi)]
  exact h.2 i hi _
 have h1':i<rs.length+1:=by simpa using h1
 have e:i=rs.length:=by omega
 subst e
 rw[List.getElem_append_right (Nat.le_refl _),List.getElem_append_right (by rw[h.1];exact Nat.le_refl _)]
 simpa [h.1]using hp
theorem DF.leaf (X:Nat->Prop) (w:World) (k:Int) (t:ByteArray):DF X w ⟨k,t,none,0,0,0,0⟩ (Cj.leaf k t):=
 .mk k t none 0 0 0 0 [] [] 0 (QX _ _ _ _) (fun ad e=>by cases e) rfl (fun i h1=>absurd h1 (by simp))
def In (lo hi b:Nat):Prop:=lo<=b/\b<hi
theorem AO {w w':World} {a:Addr} (h:w'.heap[a.block]? =w.heap[a.block]?):w'.cell? a=w.cell? a:=by
 unfold World.cell?;rw[h]
theorem DF.Bg {lo rb:Nat} {w w':World} {r:Raw} {p:Piece} (h:DF (In lo w.heap.size) w r p) (hb:Beside rb w w') (hr:rb<lo):DF (In lo w'.heap.size) w' r p:=
 h.keep (fun _ ⟨h1,h2⟩=>⟨h1,Nat.lt_of_lt_of_le h2 hb.size⟩) fun _ ⟨h1,h2⟩=>AO (hb.block _ h2 (by omega))
theorem DF.CP {lo:Nat} {w w':World} {r:Raw} {p:Piece} (h:DF (In lo w.heap.size) w r p) (hb:Below w.heap.size w w'):DF (In lo w'.heap.size) w' r p:=
 h.keep (fun _ ⟨h1,h2⟩=>⟨h1,Nat.lt_of_lt_of_le h2 hb.size⟩) fun _ ⟨_,h2⟩=>AO (hb.block _ h2)
theorem DF.Cs {lo lo' hi:Nat} {w:World} {r:Raw} {p:Piece} (h:DF (In lo hi) w r p) (k:lo'<=lo):DF (In lo' hi) w r p:=h.keep (fun _ ⟨h1,h2⟩=>⟨Nat.le_trans k h1,h2⟩) fun _ _=>rfl
def Build (e:TypeId) (base:Nat) (w:World) (v:Value) (ks:List Piece):Prop:=
 ∃Ag:List Raw,w.ownsRow base e 5 v Ag.length (Ag.flatMap Co)/\FT (fun b=>In base w.heap.size b/\v.ownBlock≠some b) w Ag ks
theorem Build.nil (e:TypeId) (base:Nat) (w:World):Build e base w (.slice none 0 0) []:=⟨[],World.ownsRow_nil _ _ _ _,FT.nil _ _⟩
theorem Bi {base:Nat} {e:TypeId} {size n:Nat} {v:Value} {xs:List Value} {w w':World} (h:w.ownsRow base e size v n xs) (hk: ∀k,base<=k->k<w.heap.size->w'.heap[k]? =w.heap[k]?):w'.ownsRow base e size v n xs:=by
 refine⟨h.1,?_⟩
 rcases h.2 with h0|⟨g,cap,cur,e1,hb,hh,rest⟩
 ·exact Or.inl h0
 subst e1
 exact Or.inr ⟨g,cap,cur,rfl,hb,(hk g hb (Array.getElem?_eq_some_iff.1 hh).1).trans hh,rest⟩
theorem Build.same {e:TypeId} {base:Nat} {w w':World} {v:Value} {ks:List Piece} (h:Build e base w v ks) (hs:w.heap.size<=w'.heap.size) (hk: ∀k,base<=k->k<w.heap.size->w'.heap[k]? =w.heap[k]?):Build e base w' v ks:=by
 obtain⟨Ag,h1,h2⟩:=h
 exact⟨Ag,Bi h1 hk,h2.keep (fun b ⟨⟨a,c⟩,d⟩=>⟨⟨a,Nat.lt_of_lt_of_le c hs⟩,d⟩) fun a ⟨⟨b,c⟩,_⟩=>AO (hk _ b c)⟩
theorem Build.beside {e:TypeId} {base rb:Nat} {w w':World} {v:Value} {ks:List Piece} (h:Build e base w v ks) (hb:Beside rb w w') (hr:rb<base):Build e base w' v ks:=
 h.same hb.size fun k h1 h2=>hb.block k h2 (by omega)
theorem Build.below {e:TypeId} {base:Nat} {w w':World} {v:Value} {ks:List Piece} (h:Build e base w v ks) (hb:Below w.heap.size w w'):Build e base w' v ks:=
 h.same hb.size fun k _ h2=>hb.block k h2
theorem Build.len {e:TypeId} {base:Nat} {w:World} {v:Value} {ks:List Piece} (h:Build e base w v ks): ∃A c,v= .slice A ks.length c/\ks.length<=c/\c<=maxLen:=by
 obtain⟨Ag,h1,h2⟩:=h
 obtain⟨A,c,e,a,b⟩:=(Al.Bw DV rfl h1).form
 rw[h2.1]at e a
 exact⟨A,c,e,a,b⟩
theorem Build.more {e:TypeId} {base:Nat} {w w1:World} {v v':Value} {ks:List Piece} {Ag:List Raw} {r:Raw} {p:Piece} {lo:Nat}
    (h2:FT (fun b=>In base w.heap.size b/\v.ownBlock≠some b) w Ag ks) (hn: ∀g,v.ownBlock=some g->g<lo) (hlo:base<=lo) (hp:DF (In lo w.heap.size) w r p)
    (hown:w1.ownsRow base e 5 v' (Ag.length+1) (Ag.flatMap Co++ [r].flatMap Co)) (hg:w.grownBy w1 v.ownBlock) (hb: ∀k,v'.ownBlock=some k->v.ownBlock=some k\/w.heap.size<=k):Build e base w1 v' (ks++ [p]):=by
 obtain⟨g1,g2,g3,g4,g5⟩:=hg
 refine⟨Ag++ [r],by rw[List.length_append,List.flatMap_append];exact hown,FT.snoc (h2.keep ?_ ?_) (hp.keep ?_ ?_)⟩
 ·rintro b ⟨⟨a,c⟩,d⟩
  refine⟨⟨a,Nat.lt_of_lt_of_le c g4⟩,fun q=> ?_⟩
  rcases hb b q with q2|q2
  ·exact d q2
  omega
 ·rintro a ⟨⟨b,c⟩,d⟩
  exact AO (g5 _ c (fun q=>d (by rw[q])))
 ·rintro b ⟨a,c⟩
  refine⟨⟨by omega,Nat.lt_of_lt_of_le c g4⟩,fun q=> ?_⟩
  rcases hb b q with q2|q2
  ·have:=hn b q2;omega
  omega
 rintro a ⟨b,c⟩
 refine AO (g5 _ c (fun q=> ?_))
 have:=hn a.block (by rw[q])
 omega
end W14
namespace W14
open Strs Al Cj
open BU (Beside)
def Af:Raw:=⟨0,⟨#[]⟩,none,0,0,0,0⟩
theorem FZ:(Tryz.prog.info? 56).map (fun i=>(i.zero,i.size,i.bytes))=some (some (.agg #[.int .i64 0,.string ⟨#[]⟩,.slice none 0 0,.int .i64 0,.int .i64 0]),5,64):=by kernel_rfl
theorem Gr (r:Raw):(Tryz.prog.info? 56).map (·.size)=some (Ak r).size:=by
 obtain⟨i,hi,-,h2,-⟩:=info_parts FZ
 rw[hi];simp[Ak,h2]
theorem iD (r:Raw):(Ak r).all (·.oneCell')=true:=by simp[Ak,Value.oneCell']
def Ad (w:World) (b:Nat) (r:Raw):Prop:=w.heap[b]? =some (.cells (Ak r) 56 (0,0))
theorem Ad.lt {w:World} {b:Nat} {r:Raw} (h:Ad w b r):b<w.heap.size:=(Array.getElem?_eq_some_iff.1 h).1
theorem Ad.below {w w':World} {b:Nat} {r:Raw} (h:Ad w b r) (k:Below w.heap.size w w'):Ad w' b r:=(k.block b h.lt).trans h
theorem Ad.beside {w w':World} {b c:Nat} {r:Raw} (h:Ad w b r) (k:Beside c w w') (e:b≠c):Ad w' b r:=(k.block b h.lt e).trans h
theorem Yv (w:World):(zeroValue 56).run Tryz.prog w= .ok (.agg (Ak Af)) w:=by
 obtain⟨i,hi,h1,-,-⟩:=info_parts FZ
 simp[zeroValue,typeInfo,hi,h1];rfl
section
variable {ops:Array Oper} {rest:List Oper} {o:Oper} {a:Act} {w:World} {Q:Exit->Act->World->Prop}
theorem AZ (w:World) (o:Obj):Below w.heap.size w (w.alloc o):=(Below.refl w.heap.size w).alloc (Nat.le_refl _) o
theorem AJ (hgd:o.guard=none) (ho:o.op= .alloc 56)
    (h: ∀w' b,w.heap.size=b->Ad w' b Af->Below w.heap.size w w'->w'.heap.size=w.heap.size+1->wpList Tryz.prog ops Q rest (a.put o.dst (.pointer (some ⟨b,0,none⟩))) w'):wpList Tryz.prog ops Q (o::rest) a w:=
 wpList_plain hgd fun _ hK=>by
  unfold Oper.wp execOp
  simp only[ho,Instr.alloc,newVar,newRow,Yv,Sem.run_bind,Sem.run_pure,Result.andThen_ok]
  exact hK _ _ (h _ _ rfl (heap_alloc_new w _) (AZ w _) (World.size_alloc w _))
theorem AU (hgd:o.guard=none) (x:Operand) (ho:o.op= .load 56 x) {b:Nat} (hx:a.eval x= .pointer (some ⟨b,0,none⟩)) {r:Raw} (hr:Ad w b r) (h:wpList Tryz.prog ops Q rest (a.put o.dst (.agg (Ak r))) w):wpList Tryz.prog ops Q (o::rest) a w:=
 wpList_load_row hgd 56 x ho b hx 56 (Ak r) (0,0) _ hr Tryz.underlying56 rfl (Gr r) h
theorem AB (hgd:o.guard=none) (x y:Operand) (ho:o.op= .store 56 x y) {b:Nat} {r old:Raw} (hx:a.eval x= .pointer (some ⟨b,0,none⟩)) (hy:a.eval y= .agg (Ak r)) (hr:Ad w b old)
    (h: ∀w',Ad w' b r->Beside b w w'->w'.heap.size=w.heap.size->wpList Tryz.prog ops Q rest (a.put o.dst undef) w'):wpList Tryz.prog ops Q (o::rest) a w:=
 wpList_store_row hgd 56 x y ho b (Ak r) hx hy 56 (Ak old) hr (Gr r) rfl (iD r)
  (h _ (setRow_heap w b _ _ _ _ hr) ⟨rfl,rfl,rfl,by rw[setRow_size];exact Nat.le_refl _,fun k _ e=>setRow_other w b k _ e⟩ (setRow_size _ _ _))
theorem B_ (hgd:o.guard=none) (x:Operand) (ho:o.op= .buildSlice 54 1 #[(0,x)]) {r:Raw} (hx:a.eval x= .agg (Ak r))
    (h: ∀w' b,w.heap.size=b->Ea w'.heap.size w' (.slice (some ⟨b,0,none⟩) 1 1) [r]->Below w.heap.size w w'->w'.heap.size=w.heap.size+1->wpList Tryz.prog ops Q rest (a.put o.dst (.slice (some ⟨b,0,none⟩) 1 1)) w'):wpList Tryz.prog ops Q (o::rest) a w:=by
 obtain⟨i,hi,h1,h2,-⟩:=info_parts FZ
 refine wpList_plain hgd fun _ hK=>wp_buildSlice 54 56 1 _ ho (Ak r) i _ Tryz.underlying54 hi h1 (by rw[h2];decide) (by rw[h2];decide) ?_ (hK _ _ (h _ _ rfl ?_ (AZ w _) (World.size_alloc w _)))
 ·rw[h2]
  simp only[List.map_toArray,List.map_cons,List.map_nil,hx]
  have hr:Array.range (1*5)= #[0,1,2,3,4]:=by decide
  rw[hr]
  simp[Instr.fill,Ak,Value.cells]
 refine⟨_,_,rfl,Nat.le_refl _,by unfold maxLen;decide,fun _=>⟨_,rfl,by rw[World.size_alloc];exact Nat.lt_succ_self _,fun k hk j hj=> ?_⟩⟩
 have hk0:k=0:=by simp at hk;omega
 subst hk0
 have:=Ic w (Co r) 56 j
 rw[Nat.zero_mul,Nat.zero_add]
 have h5:j<(Co r).length:=by rw[DV];exact hj
 exact(this _ (List.getElem?_eq_getElem h5)).trans (List.getElem?_eq_getElem h5).symm
end
theorem Build.LH {e:TypeId} {base:Nat} {w:World} {v:Value} {ks:List Piece} (h:Build e base w v ks): ∀g,v.ownBlock=some g->g<w.heap.size:=by
 obtain⟨Ag,h1,-⟩:=h
 intro g hg
 exact(h1.lt g hg).2
theorem Eb {ops:Array Oper} {rest:List Oper} {o:Oper} {a:Act} {w:World} {Q:Exit->Act->World->Prop} (hgd:o.guard=none) (s x:Operand)
    (ho:o.op= .call {callee:= .builtin .append,args:= #[s,x],argTypes:= #[54,54]})
    {base lo:Nat} {v u:Value} {ks:List Piece} {r:Raw} {p:Piece} (hs:a.eval s=v) (hx:a.eval x=u) (hb:Build 56 base w v ks) (hn: ∀g,v.ownBlock=some g->g<lo) (hlo:base<=lo) (hbase:base<=w.heap.size)
    (hu:Ea w.heap.size w u [r]) (hp:DF (In lo w.heap.size) w r p) (hl:ks.length<=1000000)
    (h: ∀v' w',Build 56 base w' v' (ks++ [p])->w.grownBy w' v.ownBlock->wpList Tryz.prog ops Q rest (a.put o.dst v') w'):wpList Tryz.prog ops Q (o::rest) a w:=by
 obtain⟨i,hi,h1,h2,h3⟩:=info_parts FZ
 obtain⟨Ag,hown,hall⟩:=hb
 have hl2:Ag.length<=1000000:=by rw[hall.1];exact hl
 refine LG hgd s x 54 ho base 56 i _ 5 64 Tryz.underlying54 hi h1 h2 h3 rfl (by decide) v Ag.length (Ag.flatMap Co) hs hown u [r] w.heap.size hx hu DV iC
  (by simp only[List.length_cons,List.length_nil];unfold maxLen;omega) (by simp only[List.length_cons,List.length_nil];omega) hbase fun v' w' e1 e2 e3=>h v' w' (Build.more hall hn hlo hp e1 e2 e3) e2
theorem F8 {e:TypeId} {base:Nat} {w w':World} {v:Value} {ks:List Piece} (hb:Build e base w v ks) (hg:w.grownBy w' v.ownBlock): ∀k,k<base->k<w.heap.size->w'.heap[k]? =w.heap[k]? :=by
 obtain⟨g1,g2,g3,g4,g5⟩:=hg
 obtain⟨Ag,h1,-⟩:=hb
 intro k hk hk2
 refine g5 k hk2 fun q=> ?_
 have:=(h1.lt k q.symm).1
 omega
/-! the reader -/
def Reader (w:World) (b:Nat) (s:ByteArray) (at_ deep:Nat):Prop:=w.heap[b]? =some (.cells #[.string s,.int .i64 at_,.int .i64 deep] 95 (0,0))
section
variable {w w':World} {b:Nat} {s:ByteArray} {at_ deep:Nat}
theorem Reader.lt (h:Reader w b s at_ deep):b<w.heap.size:=(Array.getElem?_eq_some_iff.1 h).1
theorem Reader.below (h:Reader w b s at_ deep) (k:Below w.heap.size w w'):Reader w' b s at_ deep:=(k.block b h.lt).trans h
theorem Reader.beside {c:Nat} (h:Reader w b s at_ deep) (k:Beside c w w') (e:b≠c):Reader w' b s at_ deep:=(k.block b h.lt e).trans h
theorem Reader.c0 (h:Reader w b s at_ deep):w.cell? ⟨b,0,none⟩=some (.string s):=cell_of_row w b 0 _ _ _ h
theorem Reader.c1 (h:Reader w b s at_ deep):w.cell? ⟨b,1,none⟩=some (.int .i64 at_):=cell_of_row w b 1 _ _ _ h
theorem Reader.c2 (h:Reader w b s at_ deep):w.cell? ⟨b,2,none⟩=some (.int .i64 deep):=cell_of_row w b 2 _ _ _ h
theorem Reader.free (h:Reader w b s at_ deep) (i:Nat):w.frozen? ⟨b,i,none⟩=false:=frozen_of_row w b i _ _ h
theorem Reader.NZ (h:Reader w b s at_ deep) (n:Nat):Reader (w.setCell ⟨b,1,none⟩ (.int .i64 n)) b s n deep:=by
 unfold Reader at*
 rw[heap_setCell_same w b 1 _ _ _ h];rfl
theorem Reader.Yw (h:Reader w b s at_ deep) (n:Nat):Reader (w.setCell ⟨b,2,none⟩ (.int .i64 n)) b s at_ n:=by
 unfold Reader at*
 rw[heap_setCell_same w b 2 _ _ _ h];rfl
end
theorem BH (w:World) (b i:Nat) (v:Value):Beside b w (w.setCell ⟨b,i,none⟩ v):=(Beside.refl b w).put i v
theorem BI {b c:Nat} {w0 w w':World} (h:Beside b w0 w) (k:Beside c w w') (hc:w0.heap.size<=c):Beside b w0 w':=
 ⟨k.os.trans h.os,k.tape.trans h.tape,k.output.trans h.output,Nat.le_trans h.size k.size,fun i hi e=>(k.block i (Nat.lt_of_lt_of_le hi h.size) (by omega)).trans (h.block i hi e)⟩
theorem BF {b:Nat} {w0 w w':World} (h:Beside b w0 w) (k:Below w.heap.size w w'):Beside b w0 w':=h.trans (.of k)
theorem BP {fn:Func} {R:Ending->World->Prop} {a:Act} {w:World} {p u:Tmp} {b:Nat} {r:Raw} (hf:fn.results= #[.cell p 56,.tmp u]) (hp:a.tmps.getD p undef= .pointer (some ⟨b,0,none⟩)) (hr:Ad w b r) (hd:a.defers= [])
    (hR:R (.returned (.tuple #[.agg (Ak r),a.tmps.getD u undef])) w):bodyPost Tryz.prog fn R .ret a w:=by
 refine bodyPost_ret ?_ hd hR
 have hp':a.tmps[p]?.getD undef= .pointer (some ⟨b,0,none⟩):=by simpa using hp
 have hl:=run_loadVar_row w b 56 56 (Ak r) (0,0) _ hr Tryz.underlying56 rfl (Gr r)
 simp[results,hf,hp',asAddr,Result.andThen,hl]
theorem Gs {fn:Func} {R:Ending->World->Prop} {a:Act} {w:World} {p u v:Tmp} {b:Nat} {r:Raw} (hf:fn.results= #[.cell p 56,.tmp u,.tmp v]) (hp:a.tmps.getD p undef= .pointer (some ⟨b,0,none⟩)) (hr:Ad w b r) (hd:a.defers= [])
    (hR:R (.returned (.tuple #[.agg (Ak r),a.tmps.getD u undef,a.tmps.getD v undef])) w):bodyPost Tryz.prog fn R .ret a w:=by
 refine bodyPost_ret ?_ hd hR
 have hp':a.tmps[p]?.getD undef= .pointer (some ⟨b,0,none⟩):=by simpa using hp
 have hl:=run_loadVar_row w b 56 56 (Ak r) (0,0) _ hr Tryz.underlying56 rfl (Gr r)
 simp[results,hf,hp',asAddr,Result.andThen,hl]
theorem LJ {fn:Func} {R:Ending->World->Prop} {a:Act} {w:World} {p:Tmp} {b:Nat} {r:Raw} (hf:fn.results= #[.cell p 56]) (hp:a.tmps.getD p undef= .pointer (some ⟨b,0,none⟩)) (hr:Ad w b r) (hd:a.defers= [])
    (hR:R (.returned (.agg (Ak r))) w):bodyPost Tryz.prog fn R .ret a w:=
 bodyPost_ret (results_cell_row hf a.tmps w b 56 (Ak r) (0,0) _ hp hr Tryz.underlying56 rfl (Gr r)) hd hR
end W14
namespace W14
open Strs Al Cj
open BU (Beside)
open Kit (Au AX BO CL Ae BM below_draws on)
theorem Aq {ops:Array Oper} {rest:List Oper} {o:Oper} {a:Act} {w:World} {Q:Exit->Act->World->Prop} (hgd:o.guard=none) (x:Operand) (ho:o.op= .load 56 x) {b k:Nat} (hx:a.eval x= .pointer (some ⟨b,k,none⟩)) {r:Raw}
    (hr: ∀j,j<5->w.cell? ⟨b,k+j,none⟩=(Co r)[j]?) (h:wpList Tryz.prog ops Q rest (a.put o.dst (.agg (Ak r))) w):wpList Tryz.prog ops Q (o::rest) a w:=
 wpList_plain hgd fun _ hK=>by
  have hl:(loadCells ⟨b,k,none⟩ (Co r).length).run Tryz.prog w= .ok (Co r).toArray w:=run_loadCells_list (P:=Tryz.prog) w ⟨b,k,none⟩ (Co r) fun j v hv=>by
   have hadd:(⟨b,k,none⟩:Addr).add j=⟨b,k+j,none⟩:=by unfold Addr.add;split<;>simp_all
   have hj:j<5:=by
    rcases Nat.lt_or_ge j (Co r).length with q|q
    ·rw[DV]at q;exact q
    rw[List.getElem?_eq_none q]at hv;cases hv
   rw[hadd,hr j hj];exact hv
  obtain⟨i,hi,-,h2,-⟩:=info_parts FZ
  have hagg:(isAgg 56).run Tryz.prog w= .ok true w:=by
   unfold isAgg
   rw[Sem.run_bind,run_underlying Tryz.underlying56 w]
   rfl
  rw[DV]at hl
  unfold Oper.wp execOp
  simp only[ho,hx,Instr.loadAt,Instr.sureAddr,loadVar,sizeOf,typeInfo,Sem.run_bind,Sem.run_pure,Result.andThen_ok,hagg]
  simp[hi,h2,hl,Sem.run_bind,Result.andThen]
  exact hK _ _ h
def Laid (base:Nat) (w:World) (p:Piece) (e:Ending) (w':World):Prop:= ∃r,e= .returned (.agg (Ak r))/\DF (In base w'.heap.size) w' r p/\Below w.heap.size w w'
theorem BL {base:Nat} {e:TypeId} {size n:Nat} {v:Value} {xs:List Value} {w:World} (h:w.ownsRow base e size v n xs) (hn:0<n): ∃g c,v= .slice (some ⟨g,0,none⟩) n c/\base<=g/\g<w.heap.size/\n<=c/\c<=maxLen:=by
 rcases h.2 with⟨rfl,h0⟩|⟨g,cap,cur,rfl,hb,hh,hc,hm,-⟩
 ·omega
 exact⟨g,cap,rfl,hb,(Array.getElem?_eq_some_iff.1 hh).1,hc,hm⟩
theorem Yx {base:Nat} {w:World} {v:Value} (kind:Int) (h:Build 56 base w v []):Calls Tryz.prog 96 #[.int .i64 kind,v] w (Laid base w (together kind [])):=by
 obtain⟨A,c,rfl,h1,h2⟩:=h.len
 unfold maxLen at h2
 go_enter Tryz.func96,Tryz.ntmps96
 go_wp2_with (first
  |(refine AJ rfl rfl ?_;intro w1 b1 e1 p1 l1 z1)
  |(refine AB (r:=⟨1,⟨#[]⟩,none,0,0,0,0⟩) rfl _ _ rfl rfl rfl p1 ?_;intro w2 p2 l2 z2))
 refine LJ rfl rfl p2 rfl ⟨_,rfl,DF.leaf _ _ 1 _,l1.trans (l2.below l1.size (by omega))⟩
theorem Yy {base:Nat} {w:World} {v:Value} {p:Piece} (kind:Int) (h:Build 56 base w v [p]):Calls Tryz.prog 96 #[.int .i64 kind,v] w (Laid base w (together kind [p])):=by
 obtain⟨Ag,hown,hall⟩:=h
 obtain⟨r,rfl⟩: ∃r,Ag= [r]:=List.length_eq_one_iff.1 hall.1
 have hp:=hall.2 0 (by simp) (by simp)
 simp only[List.getElem_cons_zero]at hp
 have hR:=Al.Bw DV rfl hown
 obtain⟨g,c,rfl,hg,hgw,h1,h2⟩:=BL hown (by simp)
 unfold maxLen at h2
 obtain⟨b,o,hl,qm,-,hc⟩:=hR.Gq DV (by decide) (k:=0) (by simp)
 cases qm
 simp only[List.getElem_cons_zero,Nat.zero_mul,Nat.add_zero]at hc
 have HC:=hid hc
 have HP:=hid hp
 simp only[List.length_cons,List.length_nil,Nat.zero_add]at h1 ⊢
 clear hc hp hR hall hown
 go_enter Tryz.func96,Tryz.ntmps96
 go_wp2_with (first
  |(refine AJ rfl rfl ?_;intro w1 b1 e1 p1 l1 z1)
  |(refine Aq rfl _ rfl rfl (r:=r) (fun j hj=>(AO (l1.block _ hgw)).trans (HC.out j hj)) ?_)
  |(refine AB rfl _ _ rfl rfl rfl p1 ?_;intro w2 p2 l2 z2))
 have hb:=l1.trans (l2.below l1.size (by omega))
 refine LJ rfl rfl p2 rfl ⟨_,rfl,HP.out.keep (fun _ q=>⟨q.1.1,Nat.lt_of_lt_of_le q.1.2 hb.size⟩) (fun _ q=>AO (hb.block _ q.1.2)),hb⟩
theorem Yz {base:Nat} {w:World} {v:Value} {p q:Piece} {ks:List Piece} (kind:Int) (hks:ks.length<=1000000) (h:Build 56 base w v (p::q::ks)):Calls Tryz.prog 96 #[.int .i64 kind,v] w (Laid base w (together kind (p::q::ks))):=by
 obtain⟨Ag,hown,hall⟩:=h
 have hlen:Ag.length=ks.length+2:=hall.1
 have hR:=Al.Bw DV rfl hown
 obtain⟨g,c,rfl,hg,hgw,h1,h2⟩:=BL hown (by omega)
 have HA:=hid hall
 have HR:=hid hR
 unfold maxLen at h2
 rw[hlen]at h1 HR ⊢
 clear hR hall hown
 have t0:(((ks.length+2:Nat):Int)==0)=false:=by simpa using (by omega: ¬(((ks.length+2:Nat):Int)=0))
 have t1:(((ks.length+2:Nat):Int)==1)=false:=by simpa using (by omega: ¬(((ks.length+2:Nat):Int)=1))
 generalize hn:ks.length+2=n at*
 have HN:=hid hn
 clear hn
 go_enter Tryz.func96,Tryz.ntmps96
 go_wp2_with (first
  |(refine AJ rfl rfl ?_;intro w1 b1 e1 p1 l1 z1)
  |(refine AB (r:=⟨kind,⟨#[]⟩,some ⟨g,0,none⟩,n,c,0,0⟩) rfl _ _ rfl rfl rfl p1 ?_;intro w2 p2 l2 z2))
 have hb:=l1.trans (l2.below l1.size (by omega))
 refine LJ rfl rfl p2 rfl ⟨_,rfl,.mk _ _ _ _ _ _ _ Ag _ _ (HR.out.below hb) ?_ HA.out.1 ?_,hb⟩
 ·intro ad e _
  cases e
  exact⟨hg,Nat.lt_of_lt_of_le hgw hb.size⟩
 intro i h1 h2
 exact(HA.out.2 i h1 h2).keep (fun _ q=>⟨q.1.1,Nat.lt_of_lt_of_le q.1.2 hb.size⟩) (fun _ q=>AO (hb.block _ q.1.2))
theorem MW {base:Nat} {w:World} {v:Value} {ks:List Piece} (kind:Int) (hks:ks.length<=1000000) (h:Build 56 base w v ks):Calls Tryz.prog 96 #[.int .i64 kind,v] w (Laid base w (together kind ks)):=by
 match ks,h with
 | [],h=>exact Yx kind h
 | [p],h=>exact Yy kind h
 |p::q::l,h=>exact Yz kind (by simp only[List.length_cons]at hks;omega) h
end W14
namespace W14
open Strs Al Cj
open BU (Beside)
open Kit (below_draws on)
section
variable {ops:Array Oper} {rest:List Oper} {o:Oper} {a:Act} {w:World} {Q:Exit->Act->World->Prop}
theorem AV (hgd:o.guard=none) (x:Operand) (ho:o.op= .box 56 x) {r:Raw} (hx:a.eval x= .agg (Ak r))
    (h: ∀w' b,w.heap.size=b->Ad w' b r->Below w.heap.size w w'->w'.heap.size=w.heap.size+1->wpList Tryz.prog ops Q rest (a.put o.dst (.pointer (some ⟨b,0,none⟩))) w'):wpList Tryz.prog ops Q (o::rest) a w:=
 wpList_plain hgd fun _ hK=>by
  unfold Oper.wp execOp
  simp only[ho,hx,Instr.box,newVar,newRow,Sem.run_bind,Sem.run_pure]
  exact hK _ _ (h _ _ rfl (heap_alloc_new w _) (AZ w _) (World.size_alloc w _))
end
theorem CB {a:Act} {o:Oper} {w:World} (x:Operand) (ho:o.op= .load 56 x) {b k:Nat} (hx:a.eval x= .pointer (some ⟨b,k,none⟩)) {r:Raw} (hr: ∀j,j<5->w.cell? ⟨b,k+j,none⟩=(Co r)[j]?):(execOp a.eval o).run Tryz.prog w= .ok (.value (.agg (Ak r))) w:=by
 have hl:(loadCells ⟨b,k,none⟩ (Co r).length).run Tryz.prog w= .ok (Co r).toArray w:=run_loadCells_list (P:=Tryz.prog) w ⟨b,k,none⟩ (Co r) fun j v hv=>by
  have hadd:(⟨b,k,none⟩:Addr).add j=⟨b,k+j,none⟩:=by unfold Addr.add;split<;>simp_all
  have hj:j<5:=by
   rcases Nat.lt_or_ge j (Co r).length with q|q
   ·rw[DV]at q;exact q
   rw[List.getElem?_eq_none q]at hv;cases hv
  rw[hadd,hr j hj];exact hv
 obtain⟨i,hi,-,h2,-⟩:=info_parts FZ
 have hagg:(isAgg 56).run Tryz.prog w= .ok true w:=by
  unfold isAgg
  rw[Sem.run_bind,run_underlying Tryz.underlying56 w]
  rfl
 rw[DV]at hl
 unfold execOp
 simp only[ho,hx,Instr.loadAt,Instr.sureAddr,loadVar,sizeOf,typeInfo,Sem.run_bind,Sem.run_pure,Result.andThen_ok,hagg]
 simp[hi,h2,hl,Sem.run_bind,Result.andThen]
 rfl
section
variable {w w':World} {b:Nat} {r:Raw}
theorem Ad.c0 (h:Ad w b r):w.cell? ⟨b,0,none⟩=some (.int .i64 r.kind):=cell_of_row w b 0 _ _ _ h
theorem Ad.c1 (h:Ad w b r):w.cell? ⟨b,1,none⟩=some (.string r.text):=cell_of_row w b 1 _ _ _ h
theorem Ad.c2 (h:Ad w b r):w.cell? ⟨b,2,none⟩=some (.slice r.ad r.len r.cap):=cell_of_row w b 2 _ _ _ h
theorem Ad.c3 (h:Ad w b r):w.cell? ⟨b,3,none⟩=some (.int .i64 r.least):=cell_of_row w b 3 _ _ _ h
theorem Ad.c4 (h:Ad w b r):w.cell? ⟨b,4,none⟩=some (.int .i64 r.top):=cell_of_row w b 4 _ _ _ h
theorem Ad.cells (h:Ad w b r): ∀j,j<5->w.cell? ⟨b,0+j,none⟩=(Co r)[j]? :=by
 intro j hj
 rw[Nat.zero_add,cell_of_row w b j _ _ _ h]
 match j,hj with
 |0,_=>rfl
 |1,_=>rfl
 |2,_=>rfl
 |3,_=>rfl
 |4,_=>rfl
end
def Be (w:World) (r:Raw) (p:Piece):Prop:=DF (fun b=>b<w.heap.size) w r p
theorem Be.below {w w':World} {r:Raw} {p:Piece} (h:Be w r p) (hb:Below w.heap.size w w'):Be w' r p:=
 DF.keep h (fun _ q=>Nat.lt_of_lt_of_le q hb.size) fun _ q=>AO (hb.block _ q)
theorem DF.low {lo:Nat} {w:World} {r:Raw} {p:Piece} (h:DF (In lo w.heap.size) w r p):Be w r p:=h.keep (fun _ q=>q.2) fun _ _=>rfl
def Kids (w:World) (A:Option Addr) (c:Nat) (Ag:List Raw) (ks:List Piece):Prop:=
 (∃B,Ea B w (.slice A ks.length c) Ag)/\(∀ad,A=some ad->0<Ag.length->ad.block<w.heap.size)/\FT (fun b=>b<w.heap.size) w Ag ks
theorem Be.parts {w:World} {r:Raw} {k:Int} {t:ByteArray} {ks:List Piece} {l tp:Int} (h:Be w r (.mk k t ks l tp)): ∃A c Ag,r=⟨k,t,A,ks.length,c,l,tp⟩/\Kids w A c Ag ks:=by
 unfold Be at h
 cases h with
 |mk _ _ A n c _ _ Ag _ B h hX hl hk=>
  have hn:n=ks.length:=by
   obtain⟨A',c',e,-⟩:=h
   injection e with e1 e2 e3
   omega
  subst hn
  exact⟨A,c,Ag,rfl,⟨B,h⟩,hX,hl,hk⟩
theorem Kids.below {w w':World} {A:Option Addr} {c:Nat} {Ag:List Raw} {ks:List Piece} (h:Kids w A c Ag ks) (hb:Below w.heap.size w w'):Kids w' A c Ag ks:=by
 obtain⟨⟨B,h1⟩,h2,h3⟩:=h
 refine⟨⟨B,EF h1 fun ad e hn p hp=>AO (hb.block _ (by rw[hp];exact h2 ad e hn))⟩,fun ad e hn=>Nat.lt_of_lt_of_le (h2 ad e hn) hb.size,h3.keep (fun _ q=>Nat.lt_of_lt_of_le q hb.size) fun _ q=>AO (hb.block _ q)⟩
theorem Kids.room {w:World} {A:Option Addr} {c:Nat} {Ag:List Raw} {ks:List Piece} (h:Kids w A c Ag ks):ks.length<=c/\c<=9223372036854775807:=by
 obtain⟨⟨B,A',c',e,h2,h3,-⟩,-,h4,-⟩:=h
 injection e with e1 e2 e3
 subst e3
 unfold maxLen at h3
 omega
theorem Kids.at_ {w:World} {A:Option Addr} {c:Nat} {Ag:List Raw} {ks:List Piece} (h:Kids w A c Ag ks) (hn:0<ks.length): ∃g o,A=some ⟨g,o,none⟩/\ ∀i (hi:i<Ag.length),∀j,j<5->w.cell? ⟨g,o+i*5+j,none⟩=(Co Ag[i])[j]? :=by
 obtain⟨⟨B,h1⟩,h2,h3,-⟩:=h
 obtain⟨g,o,hl,e,-,-⟩:=h1.Gq DV (by decide) (k:=0) hn
 refine⟨g,o,e,fun i hi=> ?_⟩
 obtain⟨g',o',hl',e',-,hc⟩:=h1.Gq DV (by decide) (k:=i) (by omega)
 rw[e]at e'
 cases e'
 exact hc
theorem Kids.kid {w:World} {A:Option Addr} {c:Nat} {Ag:List Raw} {ks:List Piece} (h:Kids w A c Ag ks) {i:Nat} (hi:i<ks.length): ∃hr:i<Ag.length,Be w Ag[i] ks[i]:=by
 obtain⟨-,-,h3,h4⟩:=h
 exact⟨by omega,h4 i (by omega) hi⟩
theorem Kids.moved {w w':World} {g o c:Nat} {Ag:List Raw} {ks:List Piece} (h:Kids w (some ⟨g,o,none⟩) c Ag ks) (hb:Below w.heap.size w w') {i:Nat} (hi:i<Ag.length) (hc: ∀j,j<5->w.cell? ⟨g,o+i*5+j,none⟩=(Co Ag[i])[j]?): ∀j,j<5->w'.cell? ⟨g,o+i*5+j,none⟩=(Co Ag[i])[j]? :=fun j hj=>
 (AO (hb.block g (h.2.1 _ rfl (Nat.lt_of_le_of_lt (Nat.zero_le _) hi)))).trans (hc j hj)
end W14
namespace Al
theorem iE {P:Program} (w:World) (base:Nat) (t ty e:TypeId) (i:TypeInfo) (z:Value) (size bytes:Nat) (ht:P.underlying t=some (.slice e)) (hi:P.info? e=some i) (hz:i.zero=some z)
    (hsize:i.size=size) (hby:i.bytes=bytes) (hzs:z.cells.size=size) (hsz:0<size)
    (v:Value) (n:Nat) (xs:List Value) (hown:w.ownsRow base e size v n xs) (hbase:base<=w.heap.size)
    (a:Addr) (m c:Nat) (news:List Value) (hl:news.length=m*size) (hnews: ∀j u,news[j]? =some u->w.cell? (a.add j)=some u) (h1: ∀u∈news,u.oneCell'=true)
    (h63:n+m<=maxLen) (hbytes:(n+m)*bytes<=140737488355328) {v':Value} {w':World} (hr:(Builtin.append_ #[t,t] ty #[v,.slice (some a) m c]).run P w= .ok v' w'):
    ∀k,k<w.heap.size->v'.ownBlock≠some k->w'.heap[k]? =w.heap[k]? :=by
 subst hsize
 subst hby
 intro k hk hne
 obtain⟨v2,w2,hr2,-,hg2,-⟩:=run_append_own w base t ty e i z i.size i.bytes ht hi hz rfl rfl hzs hsz v n xs hown a m c news hl hnews h1 h63 hbytes hbase
 rw[hr]at hr2
 cases hr2
 obtain⟨-,-,-,-,g5⟩:=hg2
 rcases hown.2 with⟨rfl,rfl⟩|⟨g,cap,cur,rfl,hbg,hg,hnc,hcm,hcs,htake⟩
 ·exact g5 k hk (by simp[Value.ownBlock])
 by_cases hroom:n+m<=cap
 ·have hfit:n*i.size+news.length<=cur.size:=by rw[hl,hcs,<-Nat.add_mul];exact Nat.mul_le_mul_right _ hroom
  rw[run_append_room w t ty e i ht hi g n cap cur hg a m c news hl hnews h1 hroom hfit]at hr
  cases hr
  exact g5 k hk (fun q=>hne (by rw[q];rfl))
 have holds: ∀j u,xs[j]? =some u->w.cell? ((⟨g,0,none⟩:Addr).add j)=some u:=hown.cells (g:=g) rfl
 have hsmall:n+m<=9223372036854775807:=by simp only[maxLen]at h63;omega
 rw[run_append_grow w t ty e i z ht hi hz ⟨g,0,none⟩ n cap xs hown.1 holds a m c news hl hnews (by omega) (by omega) (growslice_fits (by omega) hbytes)]at hr
 cases hr
 exact heap_alloc_old w _ hk
structure Put (v v':Value) (w w':World):Prop where
 grown:w.grownBy w' v.ownBlock
 own: ∀k,v'.ownBlock=some k->v.ownBlock=some k\/w.heap.size<=k
 kept: ∀k,k<w.heap.size->v'.ownBlock≠some k->w'.heap[k]? =w.heap[k]?
theorem IJ {α:Type} {enc:α->List Value} {P:Program} {w:World} {o:Oper} {a:Act} {K:Act->World->Prop} {Q:Exit->Act->World->Prop} (s x:Operand) (t:TypeId)
    (ho:o.op= .call {callee:= .builtin .append,args:= #[s,x],argTypes:= #[t,t]})
    (base:Nat) (e:TypeId) (i:TypeInfo) (z:Value) (size bytes:Nat) (ht:P.underlying t=some (.slice e)) (hi:P.info? e=some i) (hz:i.zero=some z)
    (hsize:i.size=size) (hby:i.bytes=bytes) (hzs:z.cells.size=size) (hsz:0<size)
    (v:Value) (n:Nat) (xs:List Value) (hs:a.eval s=v) (hown:w.ownsRow base e size v n xs)
    (u:Value) (L:List α) (B:Nat) (hx:a.eval x=u) (hu:Al enc size B w u L) (he: ∀r:α,(enc r).length=size) (h1: ∀r:α,∀c∈enc r,c.oneCell'=true)
    (h63:n+L.length<=maxLen) (hbytes:(n+L.length)*bytes<=140737488355328) (hbase:base<=w.heap.size)
    (h: ∀v' w',w'.ownsRow base e size v' (n+L.length) (xs++L.flatMap enc)->Put v v' w w'->K (a.put o.dst v') w'):o.wp P a w K Q:=by
 obtain⟨A,c,rfl,hc1,hc2⟩:=hu.form
 have hfl:(L.flatMap enc).length=L.length*size:=MV he L
 have hone: ∀u∈L.flatMap enc,u.oneCell'=true:=fun q hq=>by
  obtain⟨r,_,hr⟩:=List.mem_flatMap.1 hq
  exact h1 r q hr
 cases A with
 |none=>
  have h0:L.length=0:=by
   rcases Nat.eq_zero_or_pos L.length with q|q
   ·exact q
   obtain⟨b,o,hf,_⟩:=hu.news he hsz q
   cases hf
  have hL:L= []:=List.length_eq_zero_iff.1 h0
  subst hL
  have hrun:=Jc (P:=P) (w:=w) base t o.type e i size ht hi v n c xs hown
  have hx':a.eval x= .slice none 0 c:=hx
  unfold Oper.wp
  simp[execOp,ho,resolve,invoke,builtin,hs,hx',hrun,Result.andThen]
  exact h v w (by simpa using hown) ⟨⟨rfl,rfl,rfl,Nat.le_refl _,fun _ _ _=>rfl⟩,fun k hk=>Or.inl hk,fun _ _ _=>rfl⟩
 |some ad=>
  have hnews: ∀j q,(L.flatMap enc)[j]? =some q->w.cell? (ad.add j)=some q:=by
   intro j q hq
   rcases Nat.eq_zero_or_pos L.length with h0|h0
   ·have:L= []:=List.length_eq_zero_iff.1 h0
    subst this
    simp at hq
   obtain⟨b,o,hf,_,hcell⟩:=hu.news he hsz h0
   cases hf
   exact hcell j q hq
  obtain⟨v',w',hr,h2,h3,-⟩:=run_append_own (P:=P) w base t o.type e i z size bytes ht hi hz hsize hby hzs hsz v n xs hown ad L.length c (L.flatMap enc) hfl hnews hone h63 hbytes hbase
  have h4:=Jq w base t o.type e i z size bytes ht hi hz hsize hby hzs hsz v n xs hown ad L.length c (L.flatMap enc) hfl hnews hone h63 hbytes hr
  have h5:=iE w base t o.type e i z size bytes ht hi hz hsize hby hzs hsz v n xs hown hbase ad L.length c (L.flatMap enc) hfl hnews hone h63 hbytes hr
  have hx':a.eval x= .slice (some ad) L.length c:=hx
  unfold Oper.wp execOp
  simp only[ho,resolve,invoke,builtin,Sem.run_bind,Sem.run_pure,Result.andThen_ok,List.map_toArray,List.map_cons,List.map_nil,hs,hx',hr]
  exact h v' w' h2 ⟨h3,h4,h5⟩
theorem FI {α:Type} {enc:α->List Value} {P:Program} {w:World} {ops:Array Oper} {rest:List Oper} {o:Oper} {a:Act} {Q:Exit->Act->World->Prop} (hgd:o.guard=none) (s x:Operand) (t:TypeId)
    (ho:o.op= .call {callee:= .builtin .append,args:= #[s,x],argTypes:= #[t,t]})
    (base:Nat) (e:TypeId) (i:TypeInfo) (z:Value) (size bytes:Nat) (ht:P.underlying t=some (.slice e)) (hi:P.info? e=some i) (hz:i.zero=some z)
    (hsize:i.size=size) (hby:i.bytes=bytes) (hzs:z.cells.size=size) (hsz:0<size)
    (v:Value) (n:Nat) (xs:List Value) (hs:a.eval s=v) (hown:w.ownsRow base e size v n xs)
    (u:Value) (L:List α) (B:Nat) (hx:a.eval x=u) (hu:Al enc size B w u L) (he: ∀r:α,(enc r).length=size) (h1: ∀r:α,∀c∈enc r,c.oneCell'=true)
    (h63:n+L.length<=maxLen) (hbytes:(n+L.length)*bytes<=140737488355328) (hbase:base<=w.heap.size)
    (h: ∀v' w',w'.ownsRow base e size v' (n+L.length) (xs++L.flatMap enc)->Put v v' w w'->wpList P ops Q rest (a.put o.dst v') w'):wpList P ops Q (o::rest) a w:=
 wpList_plain hgd fun _ hK=>IJ s x t ho base e i z size bytes ht hi hz hsize hby hzs hsz v n xs hs hown u L B hx hu he h1 h63 hbytes hbase fun v' w' h2 h3=>hK _ _ (h v' w' h2 h3)
end Al
namespace EH
open Strs Al Bv
open Cj (Piece size sizes)
open W14 (Raw Ak Co DF Ad Kids AZ AO)
open BU (Beside)
def CZ (x:AL):List Value:= [.int .i64 x.kind,.string x.text,.int .i64 x.x,.int .i64 x.y]
def D8 (x:AL):Array Value:= #[.int .i64 x.kind,.string x.text,.int .i64 x.x,.int .i64 x.y]
theorem BJ (x:AL):(CZ x).length=4:=rfl
theorem iG (x:AL): ∀c∈CZ x,c.oneCell'=true:=by
 intro c hc
 simp only[CZ,List.mem_cons,List.not_mem_nil,or_false]at hc
 rcases hc with rfl|rfl|rfl|rfl<;>rfl
theorem Qb (x:AL):(D8 x).all (·.oneCell')=true:=by simp[D8,Value.oneCell']
abbrev Qc (B:Nat) (w:World) (v:Value) (L:List AL):Prop:=Al CZ 4 B w v L
theorem Ie:(Tryz.prog.info? 106).map (fun i=>(i.zero,i.size,i.bytes))=some (some (.agg #[.int .i64 0,.string ⟨#[]⟩,.int .i64 0,.int .i64 0]),4,40):=by kernel_rfl
theorem MX (x:AL):(Tryz.prog.info? 106).map (·.size)=some (D8 x).size:=by
 obtain⟨i,hi,-,h2,-⟩:=info_parts Ie
 rw[hi];simp[D8,h2]
def aW:AL:=⟨0,⟨#[]⟩,0,0⟩
def CS (w:World) (b:Nat) (x:AL):Prop:=w.heap[b]? =some (.cells (D8 x) 106 (0,0))
section
variable {w w':World} {b:Nat} {x:AL}
theorem CS.lt (h:CS w b x):b<w.heap.size:=(Array.getElem?_eq_some_iff.1 h).1
theorem CS.below (h:CS w b x) (k:Below w.heap.size w w'):CS w' b x:=(k.block b h.lt).trans h
theorem CS.c0 (h:CS w b x):w.cell? ⟨b,0,none⟩=some (.int .i64 x.kind):=cell_of_row w b 0 _ _ _ h
theorem CS.c1 (h:CS w b x):w.cell? ⟨b,1,none⟩=some (.string x.text):=cell_of_row w b 1 _ _ _ h
theorem CS.c2 (h:CS w b x):w.cell? ⟨b,2,none⟩=some (.int .i64 x.x):=cell_of_row w b 2 _ _ _ h
theorem CS.c3 (h:CS w b x):w.cell? ⟨b,3,none⟩=some (.int .i64 x.y):=cell_of_row w b 3 _ _ _ h
theorem CS.free (h:CS w b x) (i:Nat):w.frozen? ⟨b,i,none⟩=false:=frozen_of_row w b i _ _ h
theorem CS.Yw (h:CS w b x) (n:Int):CS (w.setCell ⟨b,2,none⟩ (.int .i64 n)) b {x with x:=n}:=by
 unfold CS at*
 rw[heap_setCell_same w b 2 _ _ _ h];rfl
theorem CS.qo (h:CS w b x) (n:Int):CS (w.setCell ⟨b,3,none⟩ (.int .i64 n)) b {x with y:=n}:=by
 unfold CS at*
 rw[heap_setCell_same w b 3 _ _ _ h];rfl
end
theorem Qd (w:World):(zeroValue 106).run Tryz.prog w= .ok (.agg (D8 aW)) w:=by
 obtain⟨i,hi,h1,-,-⟩:=info_parts Ie
 simp[zeroValue,typeInfo,hi,h1];rfl
section
variable {ops:Array Oper} {rest:List Oper} {o:Oper} {a:Act} {w:World} {Q:Exit->Act->World->Prop}
theorem Cw (hgd:o.guard=none) (ho:o.op= .alloc 106)
    (h: ∀w' b,w.heap.size=b->CS w' b aW->Below w.heap.size w w'->w'.heap.size=w.heap.size+1->wpList Tryz.prog ops Q rest (a.put o.dst (.pointer (some ⟨b,0,none⟩))) w'):wpList Tryz.prog ops Q (o::rest) a w:=
 wpList_plain hgd fun _ hK=>by
  unfold Oper.wp execOp
  simp only[ho,Instr.alloc,newVar,newRow,Qd,Sem.run_bind,Sem.run_pure,Result.andThen_ok]
  exact hK _ _ (h _ _ rfl (heap_alloc_new w _) (AZ w _) (World.size_alloc w _))
theorem Bd (hgd:o.guard=none) (x:Operand) (ho:o.op= .box 106 x) {r:AL} (hx:a.eval x= .agg (D8 r))
    (h: ∀w' b,w.heap.size=b->CS w' b r->Below w.heap.size w w'->w'.heap.size=w.heap.size+1->wpList Tryz.prog ops Q rest (a.put o.dst (.pointer (some ⟨b,0,none⟩))) w'):wpList Tryz.prog ops Q (o::rest) a w:=
 wpList_plain hgd fun _ hK=>by
  unfold Oper.wp execOp
  simp only[ho,hx,Instr.box,newVar,newRow,Sem.run_bind,Sem.run_pure]
  exact hK _ _ (h _ _ rfl (heap_alloc_new w _) (AZ w _) (World.size_alloc w _))
theorem Tx (hgd:o.guard=none) (x:Operand) (ho:o.op= .load 106 x) {b:Nat} (hx:a.eval x= .pointer (some ⟨b,0,none⟩)) {r:AL} (hr:CS w b r) (h:wpList Tryz.prog ops Q rest (a.put o.dst (.agg (D8 r))) w):wpList Tryz.prog ops Q (o::rest) a w:=
 wpList_load_row hgd 106 x ho b hx 106 (D8 r) (0,0) _ hr Tryz.underlying106 rfl (MX r) h
theorem Cx (hgd:o.guard=none) (x y:Operand) (ho:o.op= .store 106 x y) {b:Nat} {r old:AL} (hx:a.eval x= .pointer (some ⟨b,0,none⟩)) (hy:a.eval y= .agg (D8 r)) (hr:CS w b old)
    (h: ∀w',CS w' b r->Beside b w w'->w'.heap.size=w.heap.size->wpList Tryz.prog ops Q rest (a.put o.dst undef) w'):wpList Tryz.prog ops Q (o::rest) a w:=
 wpList_store_row hgd 106 x y ho b (D8 r) hx hy 106 (D8 old) hr (MX r) rfl (Qb r)
  (h _ (setRow_heap w b _ _ _ _ hr) ⟨rfl,rfl,rfl,by rw[setRow_size];exact Nat.le_refl _,fun k _ e=>setRow_other w b k _ e⟩ (setRow_size _ _ _))
theorem FJ {K:Act->World->Prop} (x:Operand) (ho:o.op= .buildSlice 46 1 #[(0,x)]) {r:AL} (hx:a.eval x= .agg (D8 r))
    (h: ∀w' b,w.heap.size=b->Qc w'.heap.size w' (.slice (some ⟨b,0,none⟩) 1 1) [r]->Below w.heap.size w w'->w'.heap.size=w.heap.size+1->w'.ownsRow w.heap.size 106 4 (.slice (some ⟨b,0,none⟩) 1 1) 1 (CZ r)->K (a.put o.dst (.slice (some ⟨b,0,none⟩) 1 1)) w'):o.wp Tryz.prog a w K Q:=by
 obtain⟨i,hi,h1,h2,-⟩:=info_parts Ie
 refine wp_buildSlice 46 106 1 _ ho (D8 r) i _ Tryz.underlying46 hi h1 (by rw[h2];decide) (by rw[h2];decide) ?_ (h _ _ rfl ?_ (AZ w _) (World.size_alloc w _) ?_)
 ·rw[h2]
  simp only[List.map_toArray,List.map_cons,List.map_nil,hx]
  have hr:Array.range (1*4)= #[0,1,2,3]:=by decide
  rw[hr]
  simp[Instr.fill,D8,Value.cells]
 ·refine⟨_,_,rfl,Nat.le_refl _,by unfold maxLen;decide,fun _=>⟨_,rfl,by rw[World.size_alloc];exact Nat.lt_succ_self _,fun k hk j hj=> ?_⟩⟩
  have hk0:k=0:=by simp at hk;omega
  subst hk0
  have:=Ic w (CZ r) 106 j
  rw[Nat.zero_mul,Nat.zero_add]
  have h5:j<(CZ r).length:=by rw[BJ];exact hj
  exact(this _ (List.getElem?_eq_getElem h5)).trans (List.getElem?_eq_getElem h5).symm
 refine⟨rfl,Or.inr ⟨w.heap.size,1,D8 r,rfl,Nat.le_refl _,heap_alloc_new w _,Nat.le_refl _,by unfold maxLen;decide,rfl,rfl⟩⟩
theorem C_ (hgd:o.guard=none) (x:Operand) (ho:o.op= .buildSlice 46 1 #[(0,x)]) {r:AL} (hx:a.eval x= .agg (D8 r))
    (h: ∀w' b,w.heap.size=b->Qc w'.heap.size w' (.slice (some ⟨b,0,none⟩) 1 1) [r]->Below w.heap.size w w'->w'.heap.size=w.heap.size+1->w'.ownsRow w.heap.size 106 4 (.slice (some ⟨b,0,none⟩) 1 1) 1 (CZ r)->wpList Tryz.prog ops Q rest (a.put o.dst (.slice (some ⟨b,0,none⟩) 1 1)) w'):wpList Tryz.prog ops Q (o::rest) a w:=
 wpList_plain hgd fun _ hK=>FJ x ho hx fun w' b h1 h2 h3 h4 h5=>hK _ _ (h w' b h1 h2 h3 h4 h5)
theorem DR {a:Act} {o:Oper} {w:World} (x:Operand) (ho:o.op= .load 106 x) {b k:Nat} (hx:a.eval x= .pointer (some ⟨b,k,none⟩)) {r:AL} (hr: ∀j,j<4->w.cell? ⟨b,k+j,none⟩=(CZ r)[j]?):(execOp a.eval o).run Tryz.prog w= .ok (.value (.agg (D8 r))) w:=by
 have hl:(loadCells ⟨b,k,none⟩ (CZ r).length).run Tryz.prog w= .ok (CZ r).toArray w:=run_loadCells_list (P:=Tryz.prog) w ⟨b,k,none⟩ (CZ r) fun j v hv=>by
  have hadd:(⟨b,k,none⟩:Addr).add j=⟨b,k+j,none⟩:=by unfold Addr.add;split<;>simp_all
  have hj:j<4:=by
   rcases Nat.lt_or_ge j (CZ r).length with q|q
   ·rw[BJ]at q;exact q
   rw[List.getElem?_eq_none q]at hv;cases hv
  rw[hadd,hr j hj];exact hv
 obtain⟨i,hi,-,h2,-⟩:=info_parts Ie
 have hagg:(isAgg 106).run Tryz.prog w= .ok true w:=by
  unfold isAgg
  rw[Sem.run_bind,run_underlying Tryz.underlying106 w]
  rfl
 rw[BJ]at hl
 unfold execOp
 simp only[ho,hx,Instr.loadAt,Instr.sureAddr,loadVar,sizeOf,typeInfo,Sem.run_bind,Sem.run_pure,Result.andThen_ok,hagg]
 simp[hi,h2,hl,Sem.run_bind,Result.andThen]
 rfl
theorem DI (hgd:o.guard=none) (x:Operand) (ho:o.op= .load 106 x) {b k:Nat} (hx:a.eval x= .pointer (some ⟨b,k,none⟩)) {r:AL}
    (hr: ∀j,j<4->w.cell? ⟨b,k+j,none⟩=(CZ r)[j]?) (h:wpList Tryz.prog ops Q rest (a.put o.dst (.agg (D8 r))) w):wpList Tryz.prog ops Q (o::rest) a w:=
 wpList_plain hgd fun _ hK=>by
  have hl:(loadCells ⟨b,k,none⟩ (CZ r).length).run Tryz.prog w= .ok (CZ r).toArray w:=run_loadCells_list (P:=Tryz.prog) w ⟨b,k,none⟩ (CZ r) fun j v hv=>by
   have hadd:(⟨b,k,none⟩:Addr).add j=⟨b,k+j,none⟩:=by unfold Addr.add;split<;>simp_all
   have hj:j<4:=by
    rcases Nat.lt_or_ge j (CZ r).length with q|q
    ·rw[BJ]at q;exact q
    rw[List.getElem?_eq_none q]at hv;cases hv
   rw[hadd,hr j hj];exact hv
  obtain⟨i,hi,-,h2,-⟩:=info_parts Ie
  have hagg:(isAgg 106).run Tryz.prog w= .ok true w:=by
   unfold isAgg
   rw[Sem.run_bind,run_underlying Tryz.underlying106 w]
   rfl
  rw[BJ]at hl
  unfold Oper.wp execOp
  simp only[ho,hx,Instr.loadAt,Instr.sureAddr,loadVar,sizeOf,typeInfo,Sem.run_bind,Sem.run_pure,Result.andThen_ok,hagg]
  simp[hi,h2,hl,Sem.run_bind,Result.andThen]
  exact hK _ _ h
theorem El {K:Act->World->Prop} (s x:Operand) (ho:o.op= .call {callee:= .builtin .append,args:= #[s,x],argTypes:= #[46,46]})
    {base B:Nat} {v u:Value} {L M:List AL} (hs:a.eval s=v) (hx:a.eval x=u) (hown:w.ownsRow base 106 4 v L.length (L.flatMap CZ)) (hu:Qc B w u M) (hl:L.length+M.length<=1000000) (hbase:base<=w.heap.size)
    (h: ∀v' w',w'.ownsRow base 106 4 v' (L++M).length ((L++M).flatMap CZ)->Put v v' w w'->K (a.put o.dst v') w'):o.wp Tryz.prog a w K Q:=by
 obtain⟨i,hi,h1,h2,h3⟩:=info_parts Ie
 refine IJ s x 46 ho base 106 i _ 4 40 Tryz.underlying46 hi h1 h2 h3 rfl (by decide) v L.length (L.flatMap CZ) hs hown u M B hx hu BJ iG (by unfold maxLen;omega) (by omega) hbase fun v' w' e1 e2=>h v' w' ?_ e2
 rw[List.length_append,List.flatMap_append];exact e1
theorem CU (hgd:o.guard=none) (s x:Operand) (ho:o.op= .call {callee:= .builtin .append,args:= #[s,x],argTypes:= #[46,46]})
    {base B:Nat} {v u:Value} {L M:List AL} (hs:a.eval s=v) (hx:a.eval x=u) (hown:w.ownsRow base 106 4 v L.length (L.flatMap CZ)) (hu:Qc B w u M) (hl:L.length+M.length<=1000000) (hbase:base<=w.heap.size)
    (h: ∀v' w',w'.ownsRow base 106 4 v' (L++M).length ((L++M).flatMap CZ)->Put v v' w w'->wpList Tryz.prog ops Q rest (a.put o.dst v') w'):wpList Tryz.prog ops Q (o::rest) a w:=
 wpList_plain hgd fun _ hK=>El s x ho hs hx hown hu hl hbase fun v' w' h1 h2=>hK _ _ (h v' w' h1 h2)
end
/-! numbers in a slice -/
def Ig (n:Nat):List Value:= [.int .i64 n]
theorem Ct (n:Nat):(Ig n).length=1:=rfl
theorem Jr (n:Nat): ∀c∈Ig n,c.oneCell'=true:=by
 intro c hc
 simp only[Ig,List.mem_cons,List.not_mem_nil,or_false]at hc
 subst hc;rfl
theorem Qe:(Tryz.prog.info? 3).map (fun i=>(i.zero,i.size,i.bytes))=some (some (.int .i64 0),1,8):=by kernel_rfl
section
variable {ops:Array Oper} {rest:List Oper} {o:Oper} {a:Act} {w:World} {Q:Exit->Act->World->Prop}
theorem Ih (hgd:o.guard=none) (x:Operand) (ho:o.op= .buildSlice 85 1 #[(0,x)]) {n:Nat} (hx:a.eval x= .int .i64 n)
    (h: ∀w' b,w.heap.size=b->Al Ig 1 w'.heap.size w' (.slice (some ⟨b,0,none⟩) 1 1) [n]->Below w.heap.size w w'->w'.heap.size=w.heap.size+1->wpList Tryz.prog ops Q rest (a.put o.dst (.slice (some ⟨b,0,none⟩) 1 1)) w'):wpList Tryz.prog ops Q (o::rest) a w:=by
 obtain⟨i,hi,h1,h2,-⟩:=info_parts Qe
 refine wpList_plain hgd fun _ hK=>wp_buildSlice 85 3 1 _ ho #[.int .i64 n] i _ Tryz.underlying85 hi h1 (by rw[h2];decide) (by rw[h2];decide) ?_ (hK _ _ (h _ _ rfl ?_ (AZ w _) (World.size_alloc w _)))
 ·rw[h2]
  simp only[List.map_toArray,List.map_cons,List.map_nil,hx]
  have hr:Array.range (1*1)= #[0]:=by decide
  rw[hr]
  simp[Instr.fill,Value.cells]
 refine⟨_,_,rfl,Nat.le_refl _,by unfold maxLen;decide,fun _=>⟨_,rfl,by rw[World.size_alloc];exact Nat.lt_succ_self _,fun k hk j hj=> ?_⟩⟩
 have hk0:k=0:=by simp at hk;omega
 subst hk0
 have:=Ic w (Ig n) 3 j
 rw[Nat.zero_mul,Nat.zero_add]
 have h5:j<(Ig n).length:=by rw[Ct];exact hj
 exact(this _ (List.getElem?_eq_getElem h5)).trans (List.getElem?_eq_getElem h5).symm
theorem Gt (hgd:o.guard=none) (s x:Operand) (ho:o.op= .call {callee:= .builtin .append,args:= #[s,x],argTypes:= #[85,85]})
    {base B:Nat} {v u:Value} {L M:List Nat} (hs:a.eval s=v) (hx:a.eval x=u) (hown:w.ownsRow base 3 1 v L.length (L.flatMap Ig)) (hu:Al Ig 1 B w u M) (hl:L.length+M.length<=1000000) (hbase:base<=w.heap.size)
    (h: ∀v' w',w'.ownsRow base 3 1 v' (L++M).length ((L++M).flatMap Ig)->Put v v' w w'->wpList Tryz.prog ops Q rest (a.put o.dst v') w'):wpList Tryz.prog ops Q (o::rest) a w:=by
 obtain⟨i,hi,h1,h2,h3⟩:=info_parts Qe
 refine FI hgd s x 85 ho base 3 i _ 1 8 Tryz.underlying85 hi h1 h2 h3 rfl (by decide) v L.length (L.flatMap Ig) hs hown u M B hx hu Ct Jr (by unfold maxLen;omega) (by omega) hbase fun v' w' e1 e2=>h v' w' ?_ e2
 rw[List.length_append,List.flatMap_append];exact e1
end
end EH
namespace EH
open Strs Al Bv
open Cj (Piece size sizes)
open W14 (Raw Ak Co DF Ad Kids AZ AO Bi BL)
open BU (Beside)
abbrev way (g b:Nat):Value:= .func (.func g) #[.pointer (some ⟨b,0,none⟩)] #[]
def xW (b:Nat) (v:Value):Array Value:= #[v,.nilFunc,way 99 b,way 100 b,way 101 b,way 102 b,way 103 b,way 104 b,way 105 b,way 106 b,way 107 b]
def Kj (w:World) (b:Nat) (v:Value):Prop:=w.heap[b]? =some (.cells (xW b v) 104 (0,0))
structure Lay (w:World) (b:Nat) (v:Value) (L:List AL):Prop where
 box:Kj w b v
 own:w.ownsRow (b+1) 106 4 v L.length (L.flatMap CZ)
structure Grow (b:Nat) (v v':Value) (w w':World):Prop where
 os:w'.os=w.os
 tape:w'.tape=w.tape
 output:w'.output=w.output
 size:w.heap.size<=w'.heap.size
 block: ∀k,k<w.heap.size->k≠b->v.ownBlock≠some k->w'.heap[k]? =w.heap[k]?
 own: ∀k,v'.ownBlock=some k->v.ownBlock=some k\/w.heap.size<=k
section
variable {w w' w'':World} {b:Nat} {v v' v'':Value} {L M:List AL}
theorem Kj.lt (h:Kj w b v):b<w.heap.size:=(Array.getElem?_eq_some_iff.1 h).1
theorem Kj.c0 (h:Kj w b v):w.cell? ⟨b,0,none⟩=some v:=cell_of_row w b 0 _ _ _ h
theorem Kj.free (h:Kj w b v) (i:Nat):w.frozen? ⟨b,i,none⟩=false:=frozen_of_row w b i _ _ h
theorem Kj.below (h:Kj w b v) (k:Below w.heap.size w w'):Kj w' b v:=(k.block b h.lt).trans h
theorem Kj.put (h:Kj w b v) (u:Value):Kj (w.setCell ⟨b,0,none⟩ u) b u:=by
 unfold Kj at*
 rw[heap_setCell_same w b 0 _ _ _ h];rfl
theorem Lay.below (h:Lay w b v L) (k:Below w.heap.size w w'):Lay w' b v L:=⟨h.box.below k,Bi h.own fun i _ hi=>k.block i hi⟩
theorem Lay.other (h:Lay w b v L) {c:Nat} (k:Beside c w w') (hb:c≠b) (hv:v.ownBlock≠some c):Lay w' b v L:=by
 refine⟨(k.block b h.box.lt (fun q=>hb q.symm)).trans h.box,?_⟩
 have h1:=h.own
 refine⟨h1.1,?_⟩
 rcases h1.2 with h0|⟨g,cap,cur,e1,hb,hh,rest⟩
 ·exact Or.inl h0
 subst e1
 exact Or.inr ⟨g,cap,cur,rfl,hb,(k.block g (Array.getElem?_eq_some_iff.1 hh).1 (fun q=>hv (by subst q;rfl))).trans hh,rest⟩
theorem Lay.EI (h:Lay w b v L): ∀k,v.ownBlock=some k->b<k/\k<w.heap.size:=fun k hk=>h.own.lt k hk
theorem Lay.form (h:Lay w b v L): ∃A c,v= .slice A L.length c/\L.length<=c/\c<=maxLen:=(Al.Bw BJ rfl h.own).form
theorem Grow.refl (b:Nat) (v:Value) (w:World):Grow b v v w w:=⟨rfl,rfl,rfl,Nat.le_refl _,fun _ _ _ _=>rfl,fun _ h=>Or.inl h⟩
theorem Grow.trans (h:Grow b v v' w w') (k:Grow b v' v'' w' w''):Grow b v v'' w w'':=
 ⟨k.os.trans h.os,k.tape.trans h.tape,k.output.trans h.output,Nat.le_trans h.size k.size,fun i hi e1 e2=>(k.block i (Nat.lt_of_lt_of_le hi h.size) e1 (fun q=>by
  rcases h.own i q with q2|q2
  ·exact e2 q2
  ·omega)).trans (h.block i hi e1 e2),fun i hi=>by
  rcases k.own i hi with q|q
  ·exact h.own i q
  exact Or.inr (Nat.le_trans h.size q)⟩
theorem Grow.of (h:Below w.heap.size w w'):Grow b v v w w':=⟨h.os,h.tape,h.output,h.size,fun k hk _ _=>h.block k hk,fun _ q=>Or.inl q⟩
theorem Grow.beside {w0:World} {c:Nat} (h:Grow b v v' w0 w) (k:Beside c w w') (hc:w0.heap.size<=c):Grow b v v' w0 w':=
 ⟨k.os.trans h.os,k.tape.trans h.tape,k.output.trans h.output,Nat.le_trans h.size k.size,fun i hi e1 e2=>(k.block i (Nat.lt_of_lt_of_le hi h.size) (by omega)).trans (h.block i hi e1 e2),h.own⟩
theorem Grow.put {w0:World} {u u':Value} (h:Grow b v v' w0 w) (k:Put u u' w w') (hu: ∀i,u.ownBlock=some i->w0.heap.size<=i):Grow b v v' w0 w':=by
 obtain⟨g1,g2,g3,g4,g5⟩:=k.grown
 exact⟨g1.trans h.os,g2.trans h.tape,g3.trans h.output,Nat.le_trans h.size g4,fun i hi e1 e2=>(g5 i (Nat.lt_of_lt_of_le hi h.size) (fun q=>by have:=hu i q.symm;omega)).trans (h.block i hi e1 e2),h.own⟩
theorem Grow.keeps (h:Grow b v v' w w') (hl:Lay w b v L) {k:Nat} (hk:k<b):w'.heap[k]? =w.heap[k]? :=
 h.block k (Nat.lt_trans hk hl.box.lt) (by omega) (fun q=>by have:=(hl.EI k q).1;omega)
theorem Grow.piece {r:Raw} {p:Piece} (h:Grow b v v' w w') (hl:Lay w b v L) (hp:DF (fun k=>k<b) w r p):DF (fun k=>k<b) w' r p:=hp.keep (fun _ q=>q) fun _ q=>AO (h.keeps hl q)
theorem CV {r:Raw} {p:Piece} (h:Below w.heap.size w w') (hb:b<w.heap.size) (hp:DF (fun k=>k<b) w r p):DF (fun k=>k<b) w' r p:=hp.keep (fun _ q=>q) fun _ (q:_<b)=>AO (h.block _ (Nat.lt_trans q hb))
theorem Lay.more {w1 w2:World} (h:Lay w b v L) (hB:Below w.heap.size w w1) (hown:w2.ownsRow (b+1) 106 4 v' (L++M).length ((L++M).flatMap CZ)) (hp:Put v v' w1 w2):
    Kj w2 b v/\Lay (w2.setCell ⟨b,0,none⟩ v') b v' (L++M)/\Grow b v v' w (w2.setCell ⟨b,0,none⟩ v'):=by
 obtain⟨g1,g2,g3,g4,g5⟩:=hp.grown
 have h1:=h.below hB
 have hb2:Kj w2 b v:=(g5 b h1.box.lt (fun q=>by have:=(h.EI b q.symm).1;omega)).trans h1.box
 refine⟨hb2,⟨hb2.put v',Bi hown fun k hk _=>heap_setCell_other w2 _ k _ (show k≠b by omega)⟩,⟨g1.trans hB.os,g2.trans hB.tape,g3.trans hB.output,?_,?_,?_⟩⟩
 ·rw[World.size_setCell];exact Nat.le_trans hB.size g4
 ·intro k hk e1 e2
  rw[heap_setCell_other w2 _ k _ e1,g5 k (Nat.lt_of_lt_of_le hk hB.size) (fun q=>e2 q.symm),hB.block k hk]
 intro k hk
 rcases hp.own k hk with q|q
 ·exact Or.inl q
 exact Or.inr (Nat.le_trans hB.size q)
end
def Laid (b:Nat) (v:Value) (w:World) (L:List AL) (e:Ending) (w':World):Prop:=e= .returned (.tuple #[])/\ ∃v',Lay w' b v' L/\Grow b v v' w w'
def Y0 (b:Nat) (v:Value) (w:World) (n:Nat) (L:List AL) (e:Ending) (w':World):Prop:=e= .returned (.int .i64 n)/\ ∃v',Lay w' b v' L/\Grow b v v' w w'
theorem ES {w:World} {b:Nat} {v:Value} {L:List AL} (h:Lay w b v L):Calls Tryz.prog 133 #[.pointer (some ⟨b,0,none⟩)] w fun e w'=>e= .returned (.int .i64 L.length)/\w'=w:=by
 obtain⟨A,c,rfl,h1,h2⟩:=h.form
 have c0:=h.box.c0
 unfold maxLen at h2
 clear h
 go_enter Tryz.func133,Tryz.ntmps133
 go_wp2_with fail
 go_ret
 exact⟨rfl,rfl⟩
theorem F9 {w:World} {b:Nat} {v:Value} {L:List AL} (h:Lay w b v L) (hl:L.length<=900000) (k:Int) (t:ByteArray):Calls Tryz.prog 131 #[.pointer (some ⟨b,0,none⟩),.int .i64 k,.string t] w (Y0 b v w L.length (L++ [⟨k,t,(L.length+1:Nat),0⟩])):=by
 have HE:=hid (ES h)
 have H:=hid h
 have hw:wrap64 ((L.length:Int)+1)=((L.length+1:Nat):Int):=by unfold wrap64;omega
 obtain⟨n,hn⟩: ∃n,L.length+1=n:=⟨_,rfl⟩
 rw[hn]at hw ⊢
 obtain⟨m,hm⟩: ∃m,L.length=m:=⟨_,rfl⟩
 have HM:=hid hm
 rw[hm]at HE hw hl ⊢
 have HW:=hid hw
 have HL:=hid hl
 have hc0:=h.box.c0
 have hf:=h.box.free 0
 clear h hn hm hl
 go_enter Tryz.func131,Tryz.ntmps131
 go_wp2_with fail
 refine HE.out.mono ?_
 rintro e w' ⟨rfl,rfl⟩
 go_wp2_with (first
  |(refine C_ (r:=⟨k,t,(n:Nat),0⟩) rfl (.tmp 19) rfl rfl ?_;intro w1 b1 e1 p1 l1 z1 o1;have P1:=hid p1;have L1:=hid l1;clear e1 p1 l1 z1 o1)
  |(refine CU rfl (.tmp 14) (.tmp 20) rfl rfl rfl (H.out.below L1.out).own P1.out (by rw[HM.out];simp only[List.length_cons,List.length_nil];have:=HL.out;omega) (Nat.le_trans H.out.box.lt L1.out.size) ?_;intro v' w2 o2 p2;obtain⟨g2,c2,rfl,-,-,-,-⟩:=BL o2 (by simp);have R2:=hid (H.out.more L1.out o2 p2);obtain⟨q2,hq2⟩: ∃q2,(L++ [(⟨k,t,(n:Nat),0⟩:AL)]).length=q2:=⟨_,rfl⟩;rw[hq2]at R2 ⊢;clear hq2;have hf2:=R2.out.1.free 0;have hc2:=R2.out.1.c0;clear o2 p2))
 go_ret
 exact⟨rfl,_,R2.out.2⟩
theorem Ws {w:World} {b:Nat} {v:Value} {L:List AL} (h:Lay w b v L) (hl:L.length<=900000) (to:Nat):Calls Tryz.prog 132 #[.pointer (some ⟨b,0,none⟩),.int .i64 to] w (Y0 b v w L.length (L++ [Bv.jump to])):=by
 have HE:=hid (ES h)
 have H:=hid h
 unfold Bv.jump no
 obtain⟨m,hm⟩: ∃m,L.length=m:=⟨_,rfl⟩
 have HM:=hid hm
 rw[hm]at HE hl ⊢
 have HL:=hid hl
 have hc0:=h.box.c0
 have hf:=h.box.free 0
 clear h hm hl
 go_enter Tryz.func132,Tryz.ntmps132
 go_wp2_with fail
 refine HE.out.mono ?_
 rintro e w' ⟨rfl,rfl⟩
 go_wp2_with (first
  |(refine C_ (r:=⟨8,⟨#[]⟩,(to:Nat),0⟩) rfl (.tmp 14) rfl rfl ?_;intro w1 b1 e1 p1 l1 z1 o1;have P1:=hid p1;have L1:=hid l1;clear e1 p1 l1 z1 o1)
  |(refine CU rfl (.tmp 12) (.tmp 15) rfl rfl rfl (H.out.below L1.out).own P1.out (by rw[HM.out];simp only[List.length_cons,List.length_nil];have:=HL.out;omega) (Nat.le_trans H.out.box.lt L1.out.size) ?_;intro v' w2 o2 p2;obtain⟨g2,c2,rfl,-,-,-,-⟩:=BL o2 (by simp);have R2:=hid (H.out.more L1.out o2 p2);obtain⟨q2,hq2⟩: ∃q2,(L++ [(⟨8,⟨#[]⟩,(to:Nat),0⟩:AL)]).length=q2:=⟨_,rfl⟩;rw[hq2]at R2 ⊢;clear hq2;have hf2:=R2.out.1.free 0;have hc2:=R2.out.1.c0;clear o2 p2))
 go_ret
 exact⟨rfl,_,R2.out.2⟩
end EH
end Go.Proofs.YtfgegjinhkgpbaaGreatDoor
