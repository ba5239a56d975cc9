/-
  Texts joined, in build order, each with its own comment and its own conditions: W16Heap, W16New, W16Put, W15Gen, W13Ref.
-/
import Derived.Test.YtehdnbidgphecaaGreatDoorJ08
import Derived.Test.YtehdnbidgphecaaGreatDoorJ04
import Derived.Laws.MakeOwn
import Derived.Test.YtehdnbidgphecaaGreatDoorJ06
import Derived.Deep.LoopGhost
import Derived.Deep.Onto
import Derived.Deep.RegionHeld3
import Derived.BigQuiet
import Derived.Test.YtehdnbidgphecaaGreatDoorTake
import Derived.Test.YtehdnbidgphecaaGreatDoorJ01
import Derived.Deep.OwnRows
namespace Go.Proofs.YtehdnbidgphecaaGreatDoor
set_option maxHeartbeats 4000000
set_option maxRecDepth 100000
open Go.RowKit
open Lib (hid)
namespace W16
open Strs Recs Range
open M15 (Inst rightP)
open M16 (Text steps put)
open W15 (insC insC_len Prg IBox own_type own_block_same)
open W14 (below_new own_same own_form cell_block)
open Kit (below_draws on)
/-! truths by number -/
def bitsV (n:Nat) (f:Nat→Bool):Array Value:=((List.range n).map fun i=>Value.bool (f i)).toArray
theorem bitsV_size (n:Nat) (f:Nat→Bool):(bitsV n f).size=n:=by simp[bitsV]
theorem bitsV_get {n i:Nat} (f:Nat→Bool) (h:i<n):(bitsV n f)[i]? =some (.bool (f i)):=by simp[bitsV,h]
theorem bitsV_congr {n:Nat} {f g:Nat→Bool} (h: ∀i,i<n→f i=g i):bitsV n f=bitsV n g:=by
 unfold bitsV
 congr 1
 exact List.map_congr_left fun i hi=>by rw[h i (List.mem_range.1 hi)]
theorem bitsV_ext {n:Nat} {a:Array Value} {f:Nat→Bool} (hs:a.size=n) (h: ∀i,i<n→a[i]? =some (.bool (f i))):a=bitsV n f:=by
 apply Array.ext_getElem?
 intro i
 by_cases hi:i<n
 ·rw[h i hi,bitsV_get f hi]
 ·rw[Array.getElem?_eq_none (by omega),Array.getElem?_eq_none (by rw[bitsV_size];omega)]
def Bits (w:World) (b n:Nat) (f:Nat→Bool):Prop:=w.heap[b]? =some (.cells (bitsV n f) 4 (0,0))
section
variable {w w':World} {b n:Nat} {f g:Nat→Bool}
theorem Bits.lt (h:Bits w b n f):b<w.heap.size:=(Array.getElem?_eq_some_iff.1 h).1
theorem Bits.cell (h:Bits w b n f) {i:Nat} (hi:i<n):w.cell? ⟨b,i,none⟩=some (.bool (f i)):=by rw[cell_of_row w b i _ _ _ h,bitsV_get f hi]
theorem Bits.free (h:Bits w b n f) (i:Nat):w.frozen? ⟨b,i,none⟩=false:=frozen_of_row w b i _ _ h
theorem Bits.same (h:Bits w b n f) (hk:w'.heap[b]? =w.heap[b]?):Bits w' b n f:=hk.trans h
theorem Bits.below (h:Bits w b n f) (k:Below w.heap.size w w'):Bits w' b n f:=h.same (k.block b h.lt)
theorem Bits.is (h:Bits w b n f) (e: ∀i,i<n→f i=g i):Bits w b n g:=by unfold Bits at *;rw[h,bitsV_congr e]
theorem Bits.put (h:Bits w b n f) {i:Nat} (v:Bool):Bits (w.setCell ⟨b,i,none⟩ (.bool v)) b n (fun j=>if j=i then v else f j):=by
 unfold Bits
 rw[heap_setCell_same w b i _ _ _ h]
 congr 2
 refine bitsV_ext (by rw[Array.size_setIfInBounds,bitsV_size]) fun j hj=> ?_
 rw[Array.getElem?_setIfInBounds,bitsV_size,bitsV_get f hj]
 by_cases e:i=j
 ·subst e;rw[if_pos rfl,if_pos hj,if_pos rfl]
 ·rw[if_neg e,if_neg (fun q=>e q.symm)]
end
theorem bool_info:(Tryz.prog.info? 4).map (fun i=>(i.zero,i.size,i.bytes))=some (some (.bool false),1,1):=by kernel_rfl
theorem made_bits (n:Nat):madeCells #[.bool false] n=bitsV n fun _=>false:=by
 refine bitsV_ext (size_madeCells _ _) fun j hj=> ?_
 simp[madeCells,hj,Nat.mod_one]
theorem make_bits (w:World) {n:Nat} (hn:n≤1000000):(Instr.makeSlice 37 (.int .i64 n) (.int .i64 n)).run Tryz.prog w= .ok (.slice (some ⟨w.heap.size,0,none⟩) n n) (w.alloc (.cells (bitsV n fun _=>false) 4)):=by
 obtain⟨i,hi,h1,h2,h3⟩:=info_parts bool_info
 have h:=run_make (P:=Tryz.prog) w 37 4 i (.bool false) Tryz.underlying37 hi h1 .i64 .i64 n n (by omega) (Int.le_refl _) (by rw[h3];omega) (by omega)
 rw[h2,Nat.mul_one,Int.toNat_natCast]at h
 rw[h,←made_bits]
 rfl
theorem new_bits (w:World) (n:Nat) (f:Nat→Bool):Bits (w.alloc (.cells (bitsV n f) 4)) w.heap.size n f:=heap_alloc_new w _
/-! marks -/
def markC (x:M16.Mark):List Value:= [.int .i64 x.1,.int .i64 x.2]
def markA (x:M16.Mark):Array Value:= #[.int .i64 x.1,.int .i64 x.2]
theorem markC_len (x:M16.Mark):(markC x).length=2:=rfl
theorem markC_one (x:M16.Mark): ∀c∈markC x,c.oneCell'=true:=by
 intro c hc
 simp only[markC,List.mem_cons,List.not_mem_nil,or_false]at hc
 rcases hc with rfl|rfl<;>rfl
abbrev Mks (B:Nat) (w:World) (v:Value) (L:List M16.Mark):Prop:=Recs markC 2 B w v L
theorem mark_info:(Tryz.prog.info? 77).map (fun i=>(i.zero,i.size,i.bytes))=some (some (.agg #[.int .i64 0,.int .i64 0]),2,16):=by kernel_rfl
def MBox (w:World) (b:Nat) (x:M16.Mark):Prop:=w.heap[b]? =some (.cells (markA x) 77 (0,0))
section
variable {w w':World} {b:Nat} {x:M16.Mark}
theorem MBox.lt (h:MBox w b x):b<w.heap.size:=(Array.getElem?_eq_some_iff.1 h).1
theorem MBox.same (h:MBox w b x) (hk:w'.heap[b]? =w.heap[b]?):MBox w' b x:=hk.trans h
theorem MBox.below (h:MBox w b x) (k:Below w.heap.size w w'):MBox w' b x:=h.same (k.block b h.lt)
theorem MBox.c0 (h:MBox w b x):w.cell? ⟨b,0,none⟩=some (.int .i64 x.1):=cell_of_row w b 0 _ _ _ h
theorem MBox.c1 (h:MBox w b x):w.cell? ⟨b,1,none⟩=some (.int .i64 x.2):=cell_of_row w b 1 _ _ _ h
theorem MBox.cells (h:MBox w b x): ∀j,j<2→w.cell? ⟨b,0+j,none⟩=(markC x)[j]? :=by
 intro j hj
 rw[Nat.zero_add,cell_of_row w b j _ _ _ h]
 match j,hj with
 |0,_=>rfl
 |1,_=>rfl
end
section
variable {ops:Array Oper} {rest:List Oper} {o:Oper} {a:Act} {w:World} {Q:Exit→Act→World→Prop}
theorem box_mark (hgd:o.guard=none) (x:Operand) (ho:o.op= .box 77 x) {r:M16.Mark} (hx:a.eval x= .agg (markA r))
    (h: ∀w' b,w.heap.size=b→MBox w' b r→Below w.heap.size w w'→w'.heap.size=w.heap.size+1→wpList Tryz.prog ops Q rest (a.put o.dst (.pointer (some ⟨b,0,none⟩))) w'):wpList Tryz.prog ops Q (o::rest) a w:=
 wpList_plain hgd fun _ hK=>by
  unfold Oper.wp execOp
  simp only[ho,hx,Instr.box,newVar,newRow,Sem.run_bind,Sem.run_pure]
  exact hK _ _ (h _ _ rfl (heap_alloc_new w _) (below_new w _) (World.size_alloc w _))
theorem mark_size (x:M16.Mark):(Tryz.prog.info? 77).map (·.size)=some (markA x).size:=by
 obtain⟨i,hi,-,h2,-⟩:=info_parts mark_info
 rw[hi];simp[markA,h2]
theorem load_mbox (hgd:o.guard=none) (x:Operand) (ho:o.op= .load 77 x) {b:Nat} (hx:a.eval x= .pointer (some ⟨b,0,none⟩)) {r:M16.Mark} (hr:MBox w b r) (h:wpList Tryz.prog ops Q rest (a.put o.dst (.agg (markA r))) w):wpList Tryz.prog ops Q (o::rest) a w:=
 wpList_load_row hgd 77 x ho b hx 77 (markA r) (0,0) _ hr Tryz.underlying77 rfl (mark_size r) h
theorem wp_slice_mark {K:Act→World→Prop} (x:Operand) (ho:o.op= .buildSlice 72 1 #[(0,x)]) {r:M16.Mark} (hx:a.eval x= .agg (markA r))
    (h: ∀w' b,w.heap.size=b→Mks w'.heap.size w' (.slice (some ⟨b,0,none⟩) 1 1) [r]→Below w.heap.size w w'→w'.heap.size=w.heap.size+1→w'.ownsRow w.heap.size 77 2 (.slice (some ⟨b,0,none⟩) 1 1) 1 (markC r)→K (a.put o.dst (.slice (some ⟨b,0,none⟩) 1 1)) w'):o.wp Tryz.prog a w K Q:=by
 obtain⟨i,hi,h1,h2,-⟩:=info_parts mark_info
 refine wp_buildSlice 72 77 1 _ ho (markA r) i _ Tryz.underlying72 hi h1 (by rw[h2];decide) (by rw[h2];decide) ?_ (h _ _ rfl ?_ (below_new w _) (World.size_alloc w _) ?_)
 ·rw[h2]
  simp only[List.map_toArray,List.map_cons,List.map_nil,hx]
  have hr:Array.range (1*2)= #[0,1]:=by decide
  rw[hr]
  simp[Instr.fill,markA,Value.cells]
 ·refine⟨_,_,rfl,Nat.le_refl _,by unfold maxLen;decide,fun _=>⟨_,rfl,by rw[World.size_alloc];exact Nat.lt_succ_self _,fun k hk j hj=> ?_⟩⟩
  have hk0:k=0:=by simp at hk;omega
  subst hk0
  have:=cells_new w (markC r) 77 j
  rw[Nat.zero_mul,Nat.zero_add]
  have h5:j<(markC r).length:=by rw[markC_len];exact hj
  exact(this _ (List.getElem?_eq_getElem h5)).trans (List.getElem?_eq_getElem h5).symm
 ·refine⟨rfl,Or.inr ⟨w.heap.size,1,markA r,rfl,Nat.le_refl _,heap_alloc_new w _,Nat.le_refl _,by unfold maxLen;decide,rfl,rfl⟩⟩
theorem run_load_mark {a:Act} {o:Oper} {w:World} (x:Operand) (ho:o.op= .load 77 x) {b k:Nat} (hx:a.eval x= .pointer (some ⟨b,k,none⟩)) {r:M16.Mark} (hr: ∀j,j<2→w.cell? ⟨b,k+j,none⟩=(markC r)[j]?):(execOp a.eval o).run Tryz.prog w= .ok (.value (.agg (markA r))) w:=by
 have hl:(loadCells ⟨b,k,none⟩ (markC r).length).run Tryz.prog w= .ok (markC r).toArray w:=run_loadCells_list (P:=Tryz.prog) w ⟨b,k,none⟩ (markC r) fun j v hv=>by
  have hadd:(⟨b,k,none⟩:Addr).add j=⟨b,k+j,none⟩:=by unfold Addr.add;split<;>simp_all
  have hj:j<2:=by
   rcases Nat.lt_or_ge j (markC r).length with q|q
   ·rw[markC_len]at q;exact q
   ·rw[List.getElem?_eq_none q]at hv;cases hv
  rw[hadd,hr j hj];exact hv
 obtain⟨i,hi,-,h2,-⟩:=info_parts mark_info
 have hagg:(isAgg 77).run Tryz.prog w= .ok true w:=by
  unfold isAgg
  rw[Sem.run_bind,run_underlying Tryz.underlying77 w]
  rfl
 rw[markC_len]at hl
 unfold execOp
 simp only[ho,hx,Instr.loadAt,Instr.sureAddr,loadVar,sizeOf,typeInfo,Sem.run_bind,Sem.run_pure,Result.andThen_ok,hagg]
 simp[hi,h2,hl,Sem.run_bind,Result.andThen]
 rfl
theorem wp_append_mark {K:Act→World→Prop} (s x:Operand) (ho:o.op= .call {callee:= .builtin .append,args:= #[s,x],argTypes:= #[72,72]})
    {base B:Nat} {v u:Value} {L M:List M16.Mark} (hs:a.eval s=v) (hx:a.eval x=u) (hown:w.ownsRow base 77 2 v L.length (L.flatMap markC)) (hu:Mks B w u M) (hl:L.length+M.length≤1000000) (hbase:base≤w.heap.size)
    (h: ∀v' w',w'.ownsRow base 77 2 v' (L++M).length ((L++M).flatMap markC)→Put v v' w w'→K (a.put o.dst v') w'):o.wp Tryz.prog a w K Q:=by
 obtain⟨i,hi,h1,h2,h3⟩:=info_parts mark_info
 refine wp_append_put s x 72 ho base 77 i _ 2 16 Tryz.underlying72 hi h1 h2 h3 rfl (by decide) v L.length (L.flatMap markC) hs hown u M B hx hu markC_len markC_one (by unfold maxLen;omega) (by omega) hbase fun v' w' e1 e2=>h v' w' ?_ e2
 rw[List.length_append,List.flatMap_append];exact e1
end
/-! rows of marks -/
def rowA (v:Value) (g n:Nat):Array Value:= #[v,.slice (some ⟨g,0,none⟩) n n]
structure RowF (base:Nat) (w:World) (r:Nat) (v:Value) (g n:Nat) (M:List M16.Mark) (f:Nat→Bool):Prop where
 low:base≤r
 lowg:base≤g
 box:w.heap[r]? =some (.cells (rowA v g n) 74 (0,0))
 own:w.ownsRow base 77 2 v M.length (M.flatMap markC)
 bits:Bits w g n f
abbrev RowAt (base:Nat) (w:World) (r:Nat) (v:Value) (g n:Nat) (M:List M16.Mark):Prop:=RowF base w r v g n M fun i=>decide (i∈steps M)
def RF (r g:Nat) (v:Value) (k:Nat):Prop:=k=r∨k=g∨v.ownBlock=some k
structure Grew (r g:Nat) (v v':Value) (w w':World):Prop where
 turns:Turns (RF r g v) w w'
 own: ∀k,v'.ownBlock=some k→v.ownBlock=some k∨w.heap.size≤k
section
variable {base:Nat} {w w' w'':World} {r g n:Nat} {v v' v'':Value} {M:List M16.Mark} {f:Nat→Bool}
theorem RowF.c0 (h:RowF base w r v g n M f):w.cell? ⟨r,0,none⟩=some v:=cell_of_row w r 0 _ _ _ h.box
theorem RowF.c1 (h:RowF base w r v g n M f):w.cell? ⟨r,1,none⟩=some (.slice (some ⟨g,0,none⟩) n n):=cell_of_row w r 1 _ _ _ h.box
theorem RowF.f0 (h:RowF base w r v g n M f):w.frozen? ⟨r,0,none⟩=false:=frozen_of_row w r 0 _ _ h.box
theorem RowF.lt (h:RowF base w r v g n M f):r<w.heap.size:=(Array.getElem?_eq_some_iff.1 h.box).1
theorem RowF.form (h:RowF base w r v g n M f): ∃A c,v= .slice A M.length c∧M.length≤c∧c≤maxLen:=(Recs.of_own markC_len rfl h.own).form
theorem RowF.in_ (h:RowF base w r v g n M f) {k:Nat} (hk:RF r g v k):base≤k∧k<w.heap.size:=by
 rcases hk with rfl|rfl|hk
 ·exact⟨h.low,h.lt⟩
 ·exact⟨h.lowg,h.bits.lt⟩
 ·exact h.own.lt k hk
theorem ty_ne {w:World} {k:Nat} {c1 c2:Array Value} {t1 t2:TypeId} {p q:Nat×Nat} (h1:w.heap[k]? =some (.cells c1 t1 p)) (h2:w.heap[k]? =some (.cells c2 t2 q)):t1=t2:=by
 rw[h1]at h2
 injection h2 with h2
 injection h2
theorem RowF.rg (h:RowF base w r v g n M f):r≠g:=by
 intro e
 have h1:=h.box
 rw[e]at h1
 exact absurd (ty_ne h1 h.bits) (by decide)
theorem RowF.rv (h:RowF base w r v g n M f):v.ownBlock≠some r:=by
 intro e
 obtain⟨cur,h1⟩:=own_type h.own e
 exact absurd (ty_ne h1 h.box) (by decide)
theorem RowF.gv (h:RowF base w r v g n M f):v.ownBlock≠some g:=by
 intro e
 obtain⟨cur,h1⟩:=own_type h.own e
 exact absurd (ty_ne h1 h.bits) (by decide)
theorem RowF.same (h:RowF base w r v g n M f) (hk: ∀k,RF r g v k→w'.heap[k]? =w.heap[k]?):RowF base w' r v g n M f:=
 ⟨h.low,h.lowg,(hk r (Or.inl rfl)).trans h.box,own_block_same h.own fun k q=>hk k (Or.inr (Or.inr q)),h.bits.same (hk g (Or.inr (Or.inl rfl)))⟩
theorem RowF.below (h:RowF base w r v g n M f) (k:Below w.heap.size w w'):RowF base w' r v g n M f:=h.same fun _ q=>k.block _ (h.in_ q).2
theorem RowF.turns {T:Nat→Prop} (h:RowF base w r v g n M f) (k:Turns T w w') (hT: ∀i,RF r g v i→ ¬T i):RowF base w' r v g n M f:=h.same fun i q=>k.block i (h.in_ q).2 (hT i q)
theorem Grew.refl (r g:Nat) (v:Value) (w:World):Grew r g v v w w:=⟨Turns.refl _ _,fun _ h=>Or.inl h⟩
theorem Grew.of (h:Below w.heap.size w w'):Grew r g v v w w':=⟨Turns.new h,fun _ h=>Or.inl h⟩
theorem Grew.trans (h:Grew r g v v' w w') (k:Grew r g v' v'' w' w''):Grew r g v v'' w w'':=by
 refine⟨⟨k.turns.os.trans h.turns.os,k.turns.tape.trans h.turns.tape,k.turns.output.trans h.turns.output,Nat.le_trans h.turns.size k.turns.size,fun i hi ht=> ?_⟩,fun i hi=> ?_⟩
 ·refine(k.turns.block i (Nat.lt_of_lt_of_le hi h.turns.size) fun q=>ht ?_).trans (h.turns.block i hi ht)
  rcases q with q|q|q
  ·exact Or.inl q
  ·exact Or.inr (Or.inl q)
  ·rcases h.own i q with q2|q2
   ·exact Or.inr (Or.inr q2)
   ·omega
 ·rcases k.own i hi with q|q
  ·exact h.own i q
  ·exact Or.inr (Nat.le_trans h.turns.size q)
theorem Grew.keeps (h:Grew r g v v' w w') {k:Nat} (hk:k<w.heap.size) (hn: ¬RF r g v k):w'.heap[k]? =w.heap[k]? :=h.turns.block k hk hn
theorem Grew.below (h:Grew r g v v' w w') (hr:RowF base w r v g n M f):Below base w w':=
 ⟨h.turns.os,h.turns.tape,h.turns.output,h.turns.size,fun k hk=>h.turns.block k (by have:=hr.lt;have:=hr.low;omega) (fun q=>by have:=(hr.in_ q).1;omega)⟩
theorem RowF.put_box (h:RowF base w r v g n M f) (p:Put v v' w w'):w'.cell? ⟨r,0,none⟩=some v∧w'.frozen? ⟨r,0,none⟩=false:=by
 obtain⟨-,-,-,-,g5⟩:=p.grown
 have h1:w'.heap[r]? =_:=(g5 r h.lt (fun q=>h.rv q.symm)).trans h.box
 exact⟨cell_of_row w' r 0 _ _ _ h1,frozen_of_row w' r 0 _ _ h1⟩
theorem mbox_put {b:Nat} {m:M16.Mark} (p:Put v v' w w') (hm:MBox w b m) (h:v.ownBlock≠some b):MBox w' b m:=by
 obtain⟨-,-,-,-,g5⟩:=p.grown
 exact hm.same (g5 b hm.lt (fun q=>h q.symm))
theorem RowF.more {N:List M16.Mark} (h:RowF base w r v g n M f) (ho:w'.ownsRow base 77 2 v' (M++N).length ((M++N).flatMap markC)) (p:Put v v' w w'):RowF base (w'.setCell ⟨r,0,none⟩ v') r v' g n (M++N) f∧Grew r g v v' w (w'.setCell ⟨r,0,none⟩ v'):=by
 obtain⟨g1,g2,g3,g4,g5⟩:=p.grown
 have hr:w'.heap[r]? =_:=(g5 r h.lt (fun q=>h.rv q.symm)).trans h.box
 have hg:w'.heap[g]? =_:=(g5 g h.bits.lt (fun q=>h.gv q.symm)).trans h.bits
 refine⟨⟨h.low,h.lowg,?_,?_,?_⟩,⟨⟨g1,g2,g3,by rw[World.size_setCell];exact g4,fun k hk hn=> ?_⟩,p.own⟩⟩
 ·rw[heap_setCell_same w' r 0 _ _ _ hr];rfl
 ·refine own_block_same ho fun k hk=>heap_setCell_other w' _ k _ fun e=> ?_
  have e2:k=r:=e
  obtain⟨cur,h1⟩:=own_type ho hk
  rw[e2,hr]at h1
  injection h1 with h1
  injection h1 with _ h1
  exact absurd h1 (by decide)
 ·exact(heap_setCell_other w' _ g _ (fun e=>h.rg e.symm)).trans hg
 ·rw[heap_setCell_other w' _ k _ (fun e=>hn (Or.inl e)),g5 k hk (fun q=>hn (Or.inr (Or.inr q.symm)))]
theorem RowF.set (h:RowF base w r v g n M f) (i:Nat) (b:Bool):RowF base (w.setCell ⟨g,i,none⟩ (.bool b)) r v g n M (fun j=>if j=i then b else f j)∧Grew r g v v w (w.setCell ⟨g,i,none⟩ (.bool b)):=by
 refine⟨⟨h.low,h.lowg,(heap_setCell_other w _ r _ h.rg).trans h.box,own_block_same h.own fun k hk=>heap_setCell_other w _ k _ fun e=> ?_,h.bits.put b⟩,⟨Turns.setCell _ (Or.inr (Or.inl rfl)),fun _ q=>Or.inl q⟩⟩
 have e2:k=g:=e
 subst e2
 exact h.gv hk
theorem RowF.is {f':Nat→Bool} (h:RowF base w r v g n M f) (e: ∀i,i<n→f i=f' i):RowF base w r v g n M f':=⟨h.low,h.lowg,h.box,h.own,h.bits.is e⟩
end
end W16
namespace W16
open Strs Recs Range
open M15 (Inst)
open M16 (Text steps put takes)
open W15 (insC insA IBox box_ins)
open W14 (below_new own_same own_form cell_block)
open Kit (below_draws on byte_test)
theorem newRow_any {w:World} {base n:Nat} (hb:base≤w.heap.size) (hn:n≤1000000):Calls Tryz.prog 37 #[.int .i64 n] w fun e w'=> ∃r g,e= .returned (.pointer (some ⟨r,0,none⟩))∧RowAt base w' r (.slice none 0 0) g n []∧w.heap.size≤r∧w.heap.size≤g∧Below w.heap.size w w':=by
 have hmk:=make_bits w hn
 go_enter Tryz.func37,Tryz.ntmps37
 go_wp2_with fail
 go_ret
 have h1:=new_bits w n fun _=>false
 refine⟨_,_,rfl,⟨?_,hb,(by have:=heap_alloc_new (w.alloc (.cells (bitsV n fun _=>false) 4)) (.cells (rowA (.slice none 0 0) w.heap.size n) 74);rwa[World.size_alloc]at this),World.ownsRow_nil _ _ _ _,(h1.below (below_new _ _)).is fun i _=>by simp[steps]⟩,?_,Nat.le_refl _,on (below_new _ _) (below_new _ _)⟩
 ·omega
 ·simp
theorem takes_any {x:Inst} (hx:x.kind=1→x.text.size=1) (c:UInt8) (w:World):Calls Tryz.prog 39 #[.agg (insA x),.int .u8 c.toNat] w fun e w'=>e= .returned (.bool (takes x c))∧Below w.heap.size w w':=by
 obtain⟨k,t,a,b⟩:=x
 simp only at hx
 have hH:=hid (W13.has_any t c)
 have hT:Hid (takes ⟨k,t,a,b⟩ c=if k=1 then decide (t.data.toList.head? =some c)else if k=2 then decide (c≠10)else if k=3 then M13.has t.data.toList c.toNat else false):=rfl
 obtain⟨R,hR⟩: ∃R,takes ⟨k,t,a,b⟩ c=R:=⟨_,rfl⟩
 rw[hR]at hT ⊢
 clear hR
 by_cases h1:k=1
 ·subst h1
  have hz:=hx rfl
  have h0:0<t.size:=by omega
  have he:((t[0].toNat:Int)==(c.toNat:Int))=R:=by
   rw[hT.out,if_pos rfl,Kit.bytes_cons h0,byte_test]
   simp
  have hz2:(0:Int)<(t.size:Int):=by omega
  clear hT hx hz
  go_enter Tryz.func39,Tryz.ntmps39
  go_wp2_with (first|(refine box_ins (r:=⟨1,t,a,b⟩) rfl (.tmp 0) rfl rfl ?_;intro w1 b1 e1 p1 l1 z1;have c0:=p1.c0;have c1:=p1.c1;have L1:=hid l1;clear e1 p1 l1 z1))
  go_ret
  exact⟨rfl,L1.out⟩
 ·have t1:(k==1)=false:=by simpa using h1
  rw[if_neg h1]at hT
  by_cases h2:k=2
  ·subst h2
   rw[if_pos rfl]at hT
   have he:((c.toNat:Int) !=10)=R:=by
    rw[hT.out]
    have:=byte_test c 10
    rw[show(((10:UInt8).toNat:Nat):Int)=10 from rfl]at this
    simp[bne,this]
   clear hT hx
   go_enter Tryz.func39,Tryz.ntmps39
   go_wp2_with (first|(refine box_ins (r:=⟨2,t,a,b⟩) rfl (.tmp 0) rfl rfl ?_;intro w1 b1 e1 p1 l1 z1;have c0:=p1.c0;have c1:=p1.c1;have L1:=hid l1;clear e1 p1 l1 z1))
   go_ret
   exact⟨rfl,L1.out⟩
  ·have t2:(k==2)=false:=by simpa using h2
   rw[if_neg h2]at hT
   by_cases h3:k=3
   ·subst h3
    rw[if_pos rfl]at hT
    rw[←hT.out]at hH
    clear hT hx
    go_enter Tryz.func39,Tryz.ntmps39
    go_wp2_with (first|(refine box_ins (r:=⟨3,t,a,b⟩) rfl (.tmp 0) rfl rfl ?_;intro w1 b1 e1 p1 l1 z1;have c0:=p1.c0;have c1:=p1.c1;have L1:=hid l1;clear e1 p1 l1 z1))
    refine(hH.out _).mono ?_
    rintro e w2 ⟨rfl,rfl⟩
    go_wp2_with fail
    go_ret
    exact⟨rfl,L1.out⟩
   ·have t3:(k==3)=false:=by simpa using h3
    rw[if_neg h3]at hT
    have hRf:=hT.out
    clear hT hx
    subst hRf
    go_enter Tryz.func39,Tryz.ntmps39
    go_wp2_with (first|(refine box_ins (r:=⟨k,t,a,b⟩) rfl (.tmp 0) rfl rfl ?_;intro w1 b1 e1 p1 l1 z1;have c0:=p1.c0;have c1:=p1.c1;have L1:=hid l1;clear e1 p1 l1 z1))
    go_ret
    exact⟨rfl,L1.out⟩
end W16
namespace W16
open Strs Recs Range
open M16 (Text steps put put_old put_new)
open W15 (own_type own_block_same)
open W14 (below_new own_same own_form cell_block)
open Kit (below_draws on)
theorem put_any {base:Nat} {w:World} {r g n:Nat} {v:Value} {M:List M16.Mark} (h:RowAt base w r v g n M) (m:M16.Mark) (hm:m.1<n) (hl:M.length<1000000):Calls Tryz.prog 53 #[.pointer (some ⟨r,0,none⟩),.agg (markA m)] w fun e w'=>e= .returned (.tuple #[])∧ ∃v',RowAt base w' r v' g n (put M m)∧Grew r g v v' w w':=by
 have H:=hid h
 have hm1:(m.1:Int)<(n:Int):=by omega
 have HB:=hid hl
 have HN:=hid hm
 by_cases c:m.1∈steps M
 ·rw[put_old c]
  have HD:Hid (decide (m.1∈steps M)=true):=by unfold Hid;simpa using c
  clear h hm hl c
  go_enter Tryz.func53,Tryz.ntmps53
  go_wp2_with (first|(refine box_mark (r:=m) rfl (.tmp 1) rfl rfl ?_;intro w1 b1 e1 p1 l1 z1;have a0:=p1.c0;have L1:=hid l1;have R1:=hid (H.out.below l1);have a1:=R1.out.c1;have a2:w1.cell? ⟨g,m.1,none⟩=some (.bool true):=by {have:=R1.out.bits.cell HN.out;rw[HD.out]at this;exact this};clear e1 p1 l1 z1))
  go_quiet (fail)
  go_wp2_with fail
  go_end0
  exact⟨rfl,v,R1.out.below (below_draws w1 _),(Grew.of L1.out).trans (Grew.of (below_draws w1 _))⟩
 ·rw[put_new c]
  have HD:Hid (decide (m.1∈steps M)=false):=by unfold Hid;simpa using c
  have HC:=hid c
  clear h hm hl c
  go_enter Tryz.func53,Tryz.ntmps53
  go_wp2_with (first|(refine box_mark (r:=m) rfl (.tmp 1) rfl rfl ?_;intro w1 b1 e1 p1 l1 z1;have a0:=p1.c0;have L1:=hid l1;have R1:=hid (H.out.below l1);have a1:=R1.out.c1;have a2:w1.cell? ⟨g,m.1,none⟩=some (.bool false):=by {have:=R1.out.bits.cell HN.out;rw[HD.out]at this;exact this};have a3:=R1.out.bits.free m.1;have P1:=hid p1;have HB0:=hid e1;clear e1 p1 l1 z1))
  have NB:Hid (v.ownBlock≠some b1):=by unfold Hid;intro q;have:=(H.out.own.lt b1 q).2;have:=HB0.out;omega
  go_quiet (fail)
  go_wp2_with fail
  go_region
  have r2:=(R1.out.below (below_draws w1 (nq+1))).set m.1 true
  have m2:MBox ((w1.drewN (nq+1)).setCell ⟨g,m.1,none⟩ (.bool true)) b1 m:=(P1.out.below (below_draws w1 (nq+1))).same (heap_setCell_other _ _ _ _ fun e=>by
   have e2:b1=g:=e
   subst e2
   exact absurd (ty_ne P1.out R1.out.bits) (by decide))
  have G2:=hid (((Grew.of L1.out).trans (Grew.of (below_draws w1 (nq+1)))).trans r2.2)
  have r3:=r2.1
  clear r2 a0 a1 a2 a3 hm1
  go_wp2_with fail
  generalize ((w1.drewN (nq+1)).setCell ⟨g,m.1,none⟩ (.bool true))=w5 at r3 m2 G2 ⊢
  have R5:=hid (r3.below (below_draws w5 1))
  have M5:=hid (m2.below (below_draws w5 1))
  have G5:=hid (G2.out.trans (Grew.of (below_draws w5 1)))
  have HB1:Hid (b1≠r):=by unfold Hid;have:=H.out.lt;have:=HB0.out;omega
  have a5:w5.drew.cell? ⟨r,0,none⟩=some v:=R5.out.c0
  clear r3 m2
  refine wp_region_held_drew (S:=fun w'=>MBox w' b1 m) (by kernel_rfl) M5.out (fun hHeld=> ?_)
  refine Take.k 0 ⟨some 20,.move (.tmp 0),_,_,_,none⟩ ?_
  refine Take.k 1 ⟨some 21,.move (.tmp 0),_,_,_,none⟩ ?_
  refine Take.k 2 ⟨some 22,.nilCheck (.tmp 21),_,_,_,none⟩ ?_
  refine Take.k 3 ⟨some 23,.fieldAddr 74 (.tmp 22) 0,_,_,_,none⟩ ?_
  refine Take.k 5 ⟨some 25,.load 77 (.tmp 3),_,_,_,none⟩ ?_ (hy:=Or.inl ⟨by rfl,by(intro w hSw;(try dsimp only at hSw);refine run_load_mark (.tmp 3) ?_ ?_ hSw.cells<;>rfl)⟩)
  refine wpAnyH_ready (rs:= [4,6]) (by kernel_rfl) (by simp) ?_
  refine AllReadyH.cons (o:=⟨some 24,.load 72 (.tmp 23),_,_,_,none⟩) rfl (fun K hK=> ?_) (AllReadyH.cons (o:=⟨some 26,.buildSlice 72 1 #[(0,.tmp 25)],_,_,_,none⟩) rfl (fun K hK=> ?_) AllReadyH.nil)
  ·go_simp
   skip
   go_wp2_with fail
   refine hK.out _ _ ?_ (fun hHeld=> ?_)
   ·exact M5.out
   clear hK K
   try simp only[Act.put,Take.a,Take.b,Take.c]
   refine wpAnyH_ready (rs:= [6]) (by kernel_rfl) (by simp) ?_
   refine AllReadyH.cons (o:=⟨some 26,.buildSlice 72 1 #[(0,.tmp 25)],_,_,_,none⟩) rfl (fun K hK=> ?_) AllReadyH.nil
   rw[if_pos (by rfl)]
   (refine wp_slice_mark (r:=m) (.tmp 25) rfl rfl ?_;intro w6 b6 e6 p6 l6 z6 o6;have P6:=hid p6;have L6:=hid l6;clear e6 p6 l6 z6 o6;have R6:=hid (R5.out.below L6.out);have M6:=hid (M5.out.below L6.out);have a6:=R6.out.c0)
   refine hK.out _ _ ?_ (fun hHeld=> ?_)
   ·exact M6.out
   clear hK K
   try simp only[Act.put,Take.a,Take.b,Take.c]
   refine wpAnyH_ready (rs:= [7]) (by kernel_rfl) (by simp) ?_
   refine AllReadyH.cons (o:=⟨some 27,.call ⟨.builtin .append, #[.tmp 24,.tmp 26], #[72,72]⟩,_,_,_,none⟩) rfl (fun K hK=> ?_) AllReadyH.nil
   rw[if_pos (by rfl)]
   (refine wp_append_mark (.tmp 24) (.tmp 26) rfl rfl rfl R6.out.own P6.out (by simp only[List.length_cons,List.length_nil];have:=HB.out;omega) (Nat.le_trans R6.out.low (Nat.le_of_lt R6.out.lt)) ?_;intro v7 w7 o7 p7;obtain⟨g7,c7,rfl,-,-,-,-⟩:=own_form o7 (by simp);have O7:=hid p7;have N7:=hid o7;have R7:=hid (R6.out.put_box p7);have M7:=hid (mbox_put p7 M6.out NB.out);clear o7 p7;obtain⟨q7,hq7⟩: ∃q7,(M++ [m]).length=q7:=⟨_,rfl⟩;have HQ:=hid hq7;rw[hq7];clear hq7;have f7:=R7.out.2;have d7:=R7.out.1)
   refine hK.out _ _ ?_ (fun hHeld=> ?_)
   ·exact M7.out
   clear hK K
   try simp only[Act.put,Take.a,Take.b,Take.c]
   refine Take.k 8 ⟨some 28,.nilCheck (.tmp 20),_,_,_,none⟩ ?_
   refine Take.k 9 ⟨some 29,.fieldAddr 74 (.tmp 28) 0,_,_,_,none⟩ ?_
   refine wpAnyH_ready (rs:= [10]) (by kernel_rfl) (by simp) ?_
   refine AllReadyH.cons (o:=⟨none,.store 72 (.tmp 29) (.tmp 27),_,_,_,none⟩) rfl (fun K hK=> ?_) AllReadyH.nil
   go_simp
   skip
   go_wp2_with fail
   refine hK.out _ _ ?_ (fun hHeld=> ?_)
   ·exact M7.out.same (heap_setCell_other w7 _ _ _ (fun e=>HB1.out e))
   clear hK K
   try simp only[Act.put,Take.a,Take.b,Take.c]
   refine wpAnyH_done (by kernel_rfl) ?_ _
   go_wp2_with fail
   go_end0
   have h9:=R6.out.more N7.out O7.out
   rw[HQ.out]at h9
   refine⟨rfl,_,h9.1.is fun i hi=> ?_,(G5.out.trans (Grew.of L6.out)).trans h9.2⟩
   unfold steps
   rw[List.map_append]
   by_cases e:i=m.1
   ·subst e;simp
   ·simp[e]
  ·rw[if_pos (by rfl)]
   (refine wp_slice_mark (r:=m) (.tmp 25) rfl rfl ?_;intro w6 b6 e6 p6 l6 z6 o6;have P6:=hid p6;have L6:=hid l6;clear e6 p6 l6 z6 o6;have R6:=hid (R5.out.below L6.out);have M6:=hid (M5.out.below L6.out);have a6:=R6.out.c0)
   refine hK.out _ _ ?_ (fun hHeld=> ?_)
   ·exact M6.out
   clear hK K
   try simp only[Act.put,Take.a,Take.b,Take.c]
   refine wpAnyH_ready (rs:= [4]) (by kernel_rfl) (by simp) ?_
   refine AllReadyH.cons (o:=⟨some 24,.load 72 (.tmp 23),_,_,_,none⟩) rfl (fun K hK=> ?_) AllReadyH.nil
   go_simp
   skip
   go_wp2_with fail
   refine hK.out _ _ ?_ (fun hHeld=> ?_)
   ·exact M6.out
   clear hK K
   try simp only[Act.put,Take.a,Take.b,Take.c]
   refine wpAnyH_ready (rs:= [7]) (by kernel_rfl) (by simp) ?_
   refine AllReadyH.cons (o:=⟨some 27,.call ⟨.builtin .append, #[.tmp 24,.tmp 26], #[72,72]⟩,_,_,_,none⟩) rfl (fun K hK=> ?_) AllReadyH.nil
   rw[if_pos (by rfl)]
   (refine wp_append_mark (.tmp 24) (.tmp 26) rfl rfl rfl R6.out.own P6.out (by simp only[List.length_cons,List.length_nil];have:=HB.out;omega) (Nat.le_trans R6.out.low (Nat.le_of_lt R6.out.lt)) ?_;intro v7 w7 o7 p7;obtain⟨g7,c7,rfl,-,-,-,-⟩:=own_form o7 (by simp);have O7:=hid p7;have N7:=hid o7;have R7:=hid (R6.out.put_box p7);have M7:=hid (mbox_put p7 M6.out NB.out);clear o7 p7;obtain⟨q7,hq7⟩: ∃q7,(M++ [m]).length=q7:=⟨_,rfl⟩;have HQ:=hid hq7;rw[hq7];clear hq7;have f7:=R7.out.2;have d7:=R7.out.1)
   refine hK.out _ _ ?_ (fun hHeld=> ?_)
   ·exact M7.out
   clear hK K
   try simp only[Act.put,Take.a,Take.b,Take.c]
   refine Take.k 8 ⟨some 28,.nilCheck (.tmp 20),_,_,_,none⟩ ?_
   refine Take.k 9 ⟨some 29,.fieldAddr 74 (.tmp 28) 0,_,_,_,none⟩ ?_
   refine wpAnyH_ready (rs:= [10]) (by kernel_rfl) (by simp) ?_
   refine AllReadyH.cons (o:=⟨none,.store 72 (.tmp 29) (.tmp 27),_,_,_,none⟩) rfl (fun K hK=> ?_) AllReadyH.nil
   go_simp
   skip
   go_wp2_with fail
   refine hK.out _ _ ?_ (fun hHeld=> ?_)
   ·exact M7.out.same (heap_setCell_other w7 _ _ _ (fun e=>HB1.out e))
   clear hK K
   try simp only[Act.put,Take.a,Take.b,Take.c]
   refine wpAnyH_done (by kernel_rfl) ?_ _
   go_wp2_with fail
   go_end0
   have h9:=R6.out.more N7.out O7.out
   rw[HQ.out]at h9
   refine⟨rfl,_,h9.1.is fun i hi=> ?_,(G5.out.trans (Grew.of L6.out)).trans h9.2⟩
   unfold steps
   rw[List.map_append]
   by_cases e:i=m.1
   ·subst e;simp
   ·simp[e]
end W16
namespace M15
open Go M14
open M13 (good)
def oft (t:ByteArray) (n:Nat) (m tp:Int):Bool:=decide (n=1)&&decide (t.size=0)&&decide (0≤m)&&decide (m≤100)&&decide (tp≤100)&&(decide (tp= -1)||decide (m≤tp))
def own (k:Int) (t:ByteArray) (n:Nat) (m tp:Int):Bool:=
 if k=9 then oft t n m tp
 else decide (m=0)&&(decide (tp=0)&&(if k=7∨k=8 then decide (1<n)&&decide (t.size=0)
  else decide (n=0)&&(if k=2 then decide (t.size=1)else if k=4 then good t.data.toList else decide (t.size=0)&&decide (k=1∨k=3∨k=5∨k=6))))
mutual
def gwhole:Piece→Bool
 | .mk k t ks m tp=>gwholes ks&&own k t ks.length m tp
def gwholes:List Piece→Bool
 | []=>true
 |p::l=>gwhole p&&gwholes l
end
theorem gwholes_all: ∀l:List Piece,gwholes l=l.all gwhole
 | []=>by simp[gwholes]
 |p::l=>by rw[gwholes,gwholes_all l,List.all_cons]
theorem gwhole_mk (k:Int) (t:ByteArray) (ks:List Piece) (m tp:Int):gwhole (.mk k t ks m tp)=(ks.all gwhole&&own k t ks.length m tp):=by
 rw[gwhole,gwholes_all]
theorem oft_is {t:ByteArray} {n:Nat} {m tp:Int} (h:oft t n m tp=true):n=1∧t.size=0∧(0≤m∧m≤100)∧(tp= -1∨m≤tp∧tp≤100):=by
 unfold oft at h
 simp only[Bool.and_eq_true,Bool.or_eq_true,decide_eq_true_eq]at h
 obtain⟨⟨⟨⟨⟨h1,h2⟩,h3⟩,h4⟩,h5⟩,h6⟩:=h
 exact⟨h1,h2,⟨h3,h4⟩,by omega⟩
theorem no_of {t:ByteArray} (h:t.size=0):t=no:=by
 have h1:t.data.size=0:=h
 obtain⟨d⟩:=t
 rw[show d= #[]from Array.eq_empty_of_size_eq_zero h1]
 rfl
theorem good_of {p:Piece}:gwhole p=true→Good p:=by
 induction p using ind with
 |h k t ks m tp ih=>
  intro h
  rw[gwhole_mk,Bool.and_eq_true]at h
  obtain⟨h1,h2⟩:=h
  have hk: ∀p,p∈ks→Good p:=fun p hp=>ih p hp (List.all_eq_true.1 h1 p hp)
  unfold own at h2
  by_cases c9:k=9
  ·rw[if_pos c9]at h2
   obtain⟨a1,a2,a3,a4⟩:=oft_is h2
   subst c9
   obtain⟨p,rfl⟩: ∃p,ks= [p]:=List.length_eq_one_iff.1 a1
   rw[no_of a2]
   exact .rep p m tp a3 a4 (hk p (by simp))
  ·rw[if_neg c9]at h2
   simp only[Bool.and_eq_true,decide_eq_true_eq]at h2
   obtain⟨rfl,rfl,h2⟩:=h2
   by_cases c7:k=7∨k=8
   ·rw[if_pos c7]at h2
    simp only[Bool.and_eq_true,decide_eq_true_eq]at h2
    rw[no_of h2.2]
    exact .many k c7 ks (by omega) hk
   ·rw[if_neg c7]at h2
    simp only[Bool.and_eq_true,decide_eq_true_eq]at h2
    obtain⟨h3,h4⟩:=h2
    have h5:ks= []:=List.length_eq_zero_iff.1 h3
    subst h5
    by_cases c2:k=2
    ·exact .leaf k t (by omega)
    ·rw[if_neg c2]at h4
     by_cases c4:k=4
     ·exact .leaf k t (by omega)
     ·rw[if_neg c4]at h4
      simp only[Bool.and_eq_true,decide_eq_true_eq]at h4
      exact .leaf k t (by omega)
theorem whole_gwhole {p:Piece} (h:Whole p):gwhole p=true:=by
 induction h with
 |none k hk=>
  unfold leaf
  rw[gwhole_mk]
  simp only[List.all_nil,Bool.true_and]
  unfold own
  rw[if_neg (by omega),if_neg (by omega),if_neg (by omega),if_neg (by omega)]
  have:(⟨#[]⟩:ByteArray).size=0:=rfl
  rw[decide_eq_true this,decide_eq_true hk];rfl
 |char c=>
  unfold leaf
  rw[gwhole_mk]
  rfl
 |set f=>
  unfold leaf
  rw[gwhole_mk]
  simp only[List.all_nil,Bool.true_and]
  unfold own
  rw[if_neg (by omega),if_neg (by omega),if_neg (by omega),if_pos rfl]
  have:good (txt f).data.toList=true:=M13.textOf_good f
  simp[this]
 |many k hk l h2 h3 hw ih=>
  rw[gwhole_mk,List.all_eq_true.2 (fun p hp=>ih p hp)]
  unfold own
  rw[if_neg (by omega),if_pos hk]
  have:(⟨#[]⟩:ByteArray).size=0:=rfl
  rw[decide_eq_true this,decide_eq_true (show 1<l.length by omega)];rfl
 |rep p m t hm ht hw ih=>
  rw[gwhole_mk]
  have: [p].all gwhole=true:=by simp[ih]
  rw[this]
  unfold own oft
  have h0:(⟨#[]⟩:ByteArray).size=0:=rfl
  have h1: [p].length=1:=rfl
  rw[if_pos rfl,decide_eq_true h0,decide_eq_true h1,decide_eq_true hm.1,decide_eq_true hm.2,decide_eq_true (show t≤100 by omega)]
  by_cases q:t= -1
  ·rw[decide_eq_true q];rfl
  ·rw[decide_eq_false q,decide_eq_true (show m≤t by omega)];rfl
end M15
namespace W13
open M13 Row256
open Kit (ret_str ret_bool ret_int mk_of mk_bytes ba_ext below_draws on take_next cat_bytes)
theorem infoBool:(Tryz.prog.info? 4).map (fun i=>(i.zero,i.size,i.bytes))=some (some (Value.bool false),1,1):=by kernel_rfl
theorem refMake_any {w:World} {b:Nat} {t:TypeId} {f:Nat→Bool} (h:Row w b t (bv f)):
    Calls Tryz.prog 55 #[.slice (some ⟨b,0,none⟩) 256 256] w fun e w'=>e= .returned (.string (tx f))∧w'=w:=by
 have HC:=hid h
 clear h
 go_enter Tryz.func55,Tryz.ntmps55
 go_wp2_with fail
 go_loopg [3,4] 256 (fun g s3 s4 wr=> ∃(i:Nat) (d:ByteArray),s3= .string d∧s4= .int .i64 i∧i+g=256∧Hid (d.data.toList=(List.range i).map fun j=>bit (f j))∧wr=w)
 case atStart=>exact⟨0,⟨#[]⟩,rfl,rfl,rfl,rfl,rfl⟩
 case round=>
  obtain⟨i,d,rfl,rfl,hig,hd,rfl⟩:=hrel
  cases gk with
  |zero=>
   obtain rfl:i=256:=by omega
   go_wp2_with fail
   go_ret
   exact⟨ret_str (ba_ext hd.out),rfl⟩
  |succ g=>
   have hi3:(i:Int)<256:=by omega
   have hcell:wr.cell? ⟨b,i,none⟩=some (.bool (f i)):=HC.out.cell (i:=i) (by omega)
   have hstep: ∀u:UInt8,u=bit (f i)→Hid ((d++⟨#[u]⟩).data.toList=(List.range (i+1)).map fun j=>bit (f j)):=by
    intro u hu
    unfold Hid
    rw[cat_bytes,hd.out,List.range_succ,List.map_append,hu];rfl
   have HS:=hid hstep
   clear hstep
   have hdz:d.size=i:=by rw[Lib.size_eq,hd.out,List.length_map,List.length_range]
   have hn: ¬9223372036854775807<d.size+1:=by omega
   clear hdz
   cases hf:f i with
   |true=>
    rw[hf]at hcell
    go_wp2_with fail
    go_roundg g
    case measure=>omega
    case rel=>exact⟨i+1,_,rfl,by first|rfl|simp,by omega,HS.out 49 (by rw[hf];rfl),rfl⟩
   |false=>
    rw[hf]at hcell
    go_wp2_with fail
    go_roundg g
    case measure=>omega
    case rel=>exact⟨i+1,_,rfl,by first|rfl|simp,by omega,HS.out 48 (by rw[hf];rfl),rfl⟩
theorem made_row (v:Value):madeCells #[v] 256=rowV fun _=>v:=by
 refine rowV_ext (size_madeCells _ _) fun j hj=> ?_
 simp[madeCells,hj,Nat.mod_one]
theorem make_row (w:World):(Instr.makeSlice 37 (.int .i64 256) (.int .i64 256)).run Tryz.prog w= .ok (.slice (some ⟨w.heap.size,0,none⟩) 256 256) (w.alloc (.cells (rowV (bv fun _=>false)) 4)):=by
 have h:=run_make_row' (P:=Tryz.prog) 37 4 (.bool false) 1 Tryz.underlying37 infoBool rfl .i64 .i64 256 (by omega) (by omega) w
 rw[made_row]at h
 exact h
theorem new_bools (w:World):Row (w.alloc (.cells (rowV (bv fun _=>false)) 4)) w.heap.size 4 (bv fun _=>false)∧Below w.heap.size w (w.alloc (.cells (rowV (bv fun _=>false)) 4)):=
 ⟨Row.new _ _ _,(Below.refl w.heap.size w).alloc (Nat.le_refl _) _⟩
theorem refSpan_any (a c:Nat) (hc:c<256) (w:World):Calls Tryz.prog 101 #[.int .i64 a,.int .i64 c] w fun e w'=>e= .returned (.string (tx (between a c)))∧Below w.heap.size w w':=by
 have hmk:=make_row
 have HC:=hid hc
 clear hc
 go_enter Tryz.func101,Tryz.ntmps101
 go_wp2_with fail
 have HN:=hid (new_bools w)
 generalize (w.alloc (.cells (rowV (bv fun _=>false)) 4))=w1 at HN ⊢
 clear hmk
 go_loopg [6] (c+1-a) (fun g s6 wr=> ∃i:Nat,s6= .int .i64 i∧a≤i∧(i+g=c+1∨g=0∧c<i)∧Hid (Row wr w.heap.size 4 (bv fun j=>decide (a≤j)&&decide (j<i)&&decide (j≤c)))∧Hid (Below w.heap.size w wr))
 case atStart=>
  refine⟨a,rfl,Nat.le_refl _,by omega,HN.out.1.is fun j _=>bv_eq ?_,HN.out.2⟩
  have e:(decide (a≤j)&&decide (j<a))=false:=by simp
  rw[e,Bool.false_and]
 case round=>
  obtain⟨i,rfl,hai,hig,hr,hb⟩:=hrel
  cases gk with
  |zero=>
   have hi:c<i:=by omega
   have hi2: ¬((i:Int)≤(c:Int)):=by omega
   have HI:=hid hi
   clear hi hig
   go_wp2_with fail
   refine(refMake_any hr.out).mono ?_
   rintro e w2 ⟨rfl,rfl⟩
   go_wp2_with fail
   go_ret
   refine⟨congrArg (fun x=>Ending.returned (.string x)) (tx_congr fun j _=> ?_),hb.out⟩
   unfold between
   by_cases e:j≤c
   ·have:=HI.out
    rw[decide_eq_true (show j<i by omega),Bool.and_true]
   ·rw[decide_eq_false e,Bool.and_false,Bool.and_false]
  |succ g=>
   have hi:i≤c:=by omega
   have hi2:(i:Int)≤(c:Int):=by omega
   have hi3:(i:Int)<256:=by have:=HC.out;omega
   have hcell:=hr.out.cell (i:=i) (by omega)
   have hfree:=hr.out.free i
   generalize hold:bv (fun j=>decide (a≤j)&&decide (j<i)&&decide (j≤c)) i=old at hcell
   clear hold
   go_wp2_with fail
   go_roundg g
   case measure=>omega
   case rel=>
    refine⟨i+1,by first|rfl|simp,by omega,by omega,(hr.out.put i (.bool true)).is fun j _=> ?_,hb.out.setCell (Nat.le_refl _) _⟩
    by_cases e:j=i
    ·subst e
     rw[if_pos rfl]
     refine(bv_eq (f:=fun _=>true) ?_)
     rw[decide_eq_true hai,decide_eq_true (show j<j+1 by omega),decide_eq_true hi];rfl
    ·rw[if_neg e]
     refine bv_eq ?_
     rw[show decide (j<i+1)=decide (j<i)from decide_eq_decide.2 (by omega)]
theorem byte_is (s:ByteArray) {i:Nat} (hi:i<s.size) (u:UInt8):((s[i].toNat:Int)==(u.toNat:Int))=decide (s[i]=u):=Kit.byte_test _ _
theorem good_of {s:ByteArray} (hs:s.size=256) (h: ∀j (hj:j<s.size),s[j]=48∨s[j]=49):good s.data.toList=true:=by
 unfold good
 rw[←Lib.size_eq,decide_eq_true hs,Bool.true_and,List.all_eq_true]
 intro c hc
 obtain⟨j,hj,rfl⟩:=List.mem_iff_getElem.1 hc
 have:=h j (by rw[Lib.size_eq];exact hj)
 rcases this with e|e
 ·rw[show s.data.toList[j]=48 from e];rfl
 ·rw[show s.data.toList[j]=49 from e];rfl
theorem bad_of {s:ByteArray} {j:Nat} (hj:j<s.size) (h0: ¬s[j]=48) (h1: ¬s[j]=49):good s.data.toList=false:=by
 cases h:good s.data.toList with
 |false=>rfl
 |true=>
  exfalso
  unfold good at h
  have h2:=List.all_eq_true.1 (Bool.and_eq_true_iff.1 h).2 s[j] (List.getElem_mem _)
  rw[decide_eq_false h0,decide_eq_false h1]at h2
  cases h2
theorem has_at2 {s:ByteArray} (hg:good s.data.toList=true) {i:Nat} (hi:i<s.size):((s[i].toNat:Int)==49)=has s.data.toList i:=by
 rw[has_good hg,Kit.byte_get s i hi]
 exact byte_is s hi 49
theorem refHas_any (s:ByteArray) (c:Nat) (w:World):Calls Tryz.prog 23 #[.string s,.int .i64 c] w fun e w'=>e= .returned (.bool (has s.data.toList c))∧w'=w:=by
 have h0: ¬((c:Int)<0):=by omega
 by_cases hs:s.size=256
 ·have hz:(((s.size:Nat):Int) !=256)=false:=by rw[hs];rfl
  by_cases hc:c<256
  ·have hc2: ¬(255<(c:Int)):=by omega
   have HS:=hid (And.intro hs hc)
   clear hs hc
   go_enter Tryz.func23,Tryz.ntmps23
   go_wp2_with fail
   go_loopg [5] 256 (fun g s5 wr=> ∃i:Nat,s5= .int .i64 i∧i+g=256∧Hid (∀j (hj:j<s.size),j<i→s[j]=48∨s[j]=49)∧wr=w)
   case atStart=>exact⟨0,rfl,rfl,fun j _ h=>absurd h (by omega),rfl⟩
   case round=>
    obtain⟨i,rfl,hig,hall,rfl⟩:=hrel
    cases gk with
    |zero=>
     obtain rfl:i=256:=by omega
     have hg:=good_of HS.out.1 (fun j hj=>hall.out j hj (by rw[←HS.out.1];exact hj))
     have hcs:c<s.size:=by rw[HS.out.1];exact HS.out.2
     have HV:=hid (has_at2 hg hcs)
     clear hg
     go_wp2_with fail
     go_ret
     exact⟨ret_bool HV.out,rfl⟩
    |succ g=>
     have hi:i<s.size:=by rw[HS.out.1];omega
     have hi3:(i:Int)<256:=by omega
     by_cases e0:s[i]=48
     ·have t0:(s[i].toNat:Int)=48:=by rw[e0];rfl
      have HE:=hid e0
      clear e0
      go_wp2_with fail
      go_roundg g
      case measure=>omega
      case rel=>
       refine⟨i+1,by first|rfl|simp,by omega,fun j hj h=> ?_,rfl⟩
       by_cases e:j=i
       ·subst e;exact Or.inl HE.out
       ·exact hall.out j hj (by omega)
     ·have t0: ¬(s[i].toNat:Int)=48:=fun e=>e0 (UInt8.toNat_inj.1 (show s[i].toNat=48 by omega))
      by_cases e1:s[i]=49
      ·have t1:(s[i].toNat:Int)=49:=by rw[e1];rfl
       have HE:=hid e1
       clear e0 e1 t0
       go_wp2_with fail
       go_roundg g
       case measure=>omega
       case rel=>
        refine⟨i+1,by first|rfl|simp,by omega,fun j hj h=> ?_,rfl⟩
        by_cases e:j=i
        ·subst e;exact Or.inr HE.out
        ·exact hall.out j hj (by omega)
      ·have t1: ¬(s[i].toNat:Int)=49:=fun e=>e1 (UInt8.toNat_inj.1 (show s[i].toNat=49 by omega))
       have HV:=hid (has_bad (bad_of hi e0 e1) c)
       have q0:((s[i].toNat:Int) !=48)=true:=by simpa using t0
       have q1:((s[i].toNat:Int) !=49)=true:=by simpa using t1
       clear e0 e1 t0 t1
       go_wp2_with fail
       go_ret
       exact⟨ret_bool HV.out.symm,rfl⟩
  ·have hc2:255<(c:Int):=by omega
   have HV:=hid (has_far (s:=s.data.toList) (i:=c) (by omega))
   clear hs hc
   go_enter Tryz.func23,Tryz.ntmps23
   go_wp2_with fail
   go_ret
   exact⟨ret_bool HV.out.symm,rfl⟩
 ·have hz:(((s.size:Nat):Int) !=256)=true:=by simp;omega
  have hb:good s.data.toList=false:=by unfold good;rw[←Lib.size_eq,decide_eq_false hs];rfl
  have HV:=hid (has_bad hb c)
  clear hs hb
  go_enter Tryz.func23,Tryz.ntmps23
  go_wp2_with fail
  go_ret
  exact⟨ret_bool HV.out.symm,rfl⟩
theorem refUnion_any (a b:ByteArray) (w:World):Calls Tryz.prog 41 #[.string a,.string b] w fun e w'=>e= .returned (.string (tx fun i=>has a.data.toList i||has b.data.toList i))∧Below w.heap.size w w':=by
 have hmk:=make_row
 go_enter Tryz.func41,Tryz.ntmps41
 go_wp2_with fail
 have HN:=hid (new_bools w)
 generalize (w.alloc (.cells (rowV (bv fun _=>false)) 4))=w1 at HN ⊢
 clear hmk
 go_loopg [6] 256 (fun g s6 wr=> ∃i:Nat,s6= .int .i64 i∧i+g=256∧Hid (Row wr w.heap.size 4 (bv fun j=>if j<i then has a.data.toList j||has b.data.toList j else false))∧Hid (Below w.heap.size w wr))
 case atStart=>exact⟨0,rfl,rfl,HN.out.1.is fun j _=>bv_eq (by rw[if_neg (by omega)]),HN.out.2⟩
 case round=>
  obtain⟨i,rfl,hig,hr,hb⟩:=hrel
  cases gk with
  |zero=>
   obtain rfl:i=256:=by omega
   go_wp2_with fail
   refine(refMake_any hr.out).mono ?_
   rintro e w2 ⟨rfl,rfl⟩
   go_wp2_with fail
   go_ret
   exact⟨congrArg (fun x=>Ending.returned (.string x)) (tx_congr fun j hj=>by first|rw[if_pos hj]|rw[decide_eq_true hj,Bool.true_and]),hb.out⟩
  |succ g=>
   have hi3:(i:Int)<256:=by omega
   have hcell:=hr.out.cell (i:=i) (by omega)
   have hfree:=hr.out.free i
   generalize hold:bv (fun j=>if j<i then has a.data.toList j||has b.data.toList j else false) i=old at hcell
   clear hold
   obtain⟨W0,rfl⟩: ∃W0:World,W0=wr:=⟨_,rfl⟩
   go_wp2_with fail
   refine(refHas_any _ _ _).mono ?_
   rintro e w2 ⟨rfl,rfl⟩
   cases hA:has a.data.toList i with
   |true=>
    go_wp2_with fail
    go_roundg g
    case measure=>omega
    case rel=>exact⟨i+1,by first|rfl|simp,by omega,row_step hr.out (by rw[hA];rfl),hb.out.setCell (Nat.le_refl _) _⟩
   |false=>
    go_wp2_with fail
    refine(refHas_any _ _ _).mono ?_
    rintro e w2 ⟨rfl,rfl⟩
    go_wp2_with fail
    go_roundg g
    case measure=>omega
    case rel=>exact⟨i+1,by first|rfl|simp,by omega,row_step hr.out (by rw[hA];rfl),hb.out.setCell (Nat.le_refl _) _⟩
theorem refNot_any (a:ByteArray) (w:World):Calls Tryz.prog 103 #[.string a] w fun e w'=>e= .returned (.string (tx fun i=> !has a.data.toList i))∧Below w.heap.size w w':=by
 have hmk:=make_row
 go_enter Tryz.func103,Tryz.ntmps103
 go_wp2_with fail
 have HN:=hid (new_bools w)
 generalize (w.alloc (.cells (rowV (bv fun _=>false)) 4))=w1 at HN ⊢
 clear hmk
 go_loopg [4] 256 (fun g s4 wr=> ∃i:Nat,s4= .int .i64 i∧i+g=256∧Hid (Row wr w.heap.size 4 (bv fun j=>if j<i then !has a.data.toList j else false))∧Hid (Below w.heap.size w wr))
 case atStart=>exact⟨0,rfl,rfl,HN.out.1.is fun j _=>bv_eq (by rw[if_neg (by omega)]),HN.out.2⟩
 case round=>
  obtain⟨i,rfl,hig,hr,hb⟩:=hrel
  cases gk with
  |zero=>
   obtain rfl:i=256:=by omega
   go_wp2_with fail
   refine(refMake_any hr.out).mono ?_
   rintro e w2 ⟨rfl,rfl⟩
   go_wp2_with fail
   go_ret
   exact⟨congrArg (fun x=>Ending.returned (.string x)) (tx_congr fun j hj=>by first|rw[if_pos hj]|rw[decide_eq_true hj,Bool.true_and]),hb.out⟩
  |succ g=>
   have hi3:(i:Int)<256:=by omega
   have hcell:=hr.out.cell (i:=i) (by omega)
   have hfree:=hr.out.free i
   generalize hold:bv (fun j=>if j<i then !has a.data.toList j else false) i=old at hcell
   clear hold
   go_wp2_with fail
   refine(refHas_any _ _ _).mono ?_
   rintro e w2 ⟨rfl,rfl⟩
   go_wp2_with fail
   go_roundg g
   case measure=>omega
   case rel=>exact⟨i+1,by first|rfl|simp,by omega,row_step hr.out rfl,hb.out.setCell (Nat.le_refl _) _⟩
/-! what these answer of texts of truths -/
theorem has_tx (f:Nat→Bool) {i:Nat} (h:i<256):has (tx f).data.toList i=f i:=has_text f h
theorem refUnion_tx (f g:Nat→Bool) (w:World):Calls Tryz.prog 41 #[.string (tx f),.string (tx g)] w fun e w'=>e= .returned (.string (tx fun i=>f i||g i))∧Below w.heap.size w w':=
 (refUnion_any _ _ _).mono fun _ _ h=>⟨h.1.trans (congrArg (fun x=>Ending.returned (.string x)) (tx_congr fun i hi=>by rw[has_tx f hi,has_tx g hi])),h.2⟩
theorem refNot_tx (f:Nat→Bool) (w:World):Calls Tryz.prog 103 #[.string (tx f)] w fun e w'=>e= .returned (.string (tx fun i=> !f i))∧Below w.heap.size w w':=
 (refNot_any _ _).mono fun _ _ h=>⟨h.1.trans (congrArg (fun x=>Ending.returned (.string x)) (tx_congr fun i hi=>by rw[has_tx f hi])),h.2⟩
end W13
end Go.Proofs.YtehdnbidgphecaaGreatDoor
