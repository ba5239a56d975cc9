/-
  Texts joined, in build order, each with its own comment and its own conditions: W15Heap, W15Layer, W15Lay.
-/
import Derived.Test.YtfgegjinhkgpbaaGreatDoorChecked
import Derived.Test.YtfgegjinhkgpbaaGreatDoorJ01
import Derived.Test.YtfgegjinhkgpbaaGreatDoorJ02
import Derived.Test.YtfgegjinhkgpbaaGreatDoorTake
import Derived.Deep.RegionHeld3
import Derived.BigQuiet
namespace Go.Proofs.YtfgegjinhkgpbaaGreatDoor
set_option maxHeartbeats 4000000
set_option maxRecDepth 100000
open Go.RowKit
open Lib (hid)
namespace W15
open Strs Recs M15
open M14 (Piece size sizes)
open W14 (Raw rawA rawC PAt PBox Kids below_new cell_block)
open Row256 (Beside)
def insC (x:Inst):List Value:= [.int .i64 x.kind,.string x.text,.int .i64 x.x,.int .i64 x.y]
def insA (x:Inst):Array Value:= #[.int .i64 x.kind,.string x.text,.int .i64 x.x,.int .i64 x.y]
theorem insC_len (x:Inst):(insC x).length=4:=rfl
theorem insC_one (x:Inst): ∀c∈insC x,c.oneCell'=true:=by
 intro c hc
 simp only[insC,List.mem_cons,List.not_mem_nil,or_false]at hc
 rcases hc with rfl|rfl|rfl|rfl<;>rfl
theorem insA_one (x:Inst):(insA x).all (·.oneCell')=true:=by simp[insA,Value.oneCell']
abbrev Prg (B:Nat) (w:World) (v:Value) (L:List Inst):Prop:=Recs insC 4 B w v L
theorem ins_info:(Tryz.prog.info? 106).map (fun i=>(i.zero,i.size,i.bytes))=some (some (.agg #[.int .i64 0,.string ⟨#[]⟩,.int .i64 0,.int .i64 0]),4,40):=by kernel_rfl
theorem ins_size (x:Inst):(Tryz.prog.info? 106).map (·.size)=some (insA x).size:=by
 obtain⟨i,hi,-,h2,-⟩:=info_parts ins_info
 rw[hi];simp[insA,h2]
def zeroI:Inst:=⟨0,⟨#[]⟩,0,0⟩
def IBox (w:World) (b:Nat) (x:Inst):Prop:=w.heap[b]? =some (.cells (insA x) 106 (0,0))
section
variable {w w':World} {b:Nat} {x:Inst}
theorem IBox.lt (h:IBox w b x):b<w.heap.size:=(Array.getElem?_eq_some_iff.1 h).1
theorem IBox.below (h:IBox w b x) (k:Below w.heap.size w w'):IBox w' b x:=(k.block b h.lt).trans h
theorem IBox.c0 (h:IBox w b x):w.cell? ⟨b,0,none⟩=some (.int .i64 x.kind):=cell_of_row w b 0 _ _ _ h
theorem IBox.c1 (h:IBox w b x):w.cell? ⟨b,1,none⟩=some (.string x.text):=cell_of_row w b 1 _ _ _ h
theorem IBox.c2 (h:IBox w b x):w.cell? ⟨b,2,none⟩=some (.int .i64 x.x):=cell_of_row w b 2 _ _ _ h
theorem IBox.c3 (h:IBox w b x):w.cell? ⟨b,3,none⟩=some (.int .i64 x.y):=cell_of_row w b 3 _ _ _ h
theorem IBox.free (h:IBox w b x) (i:Nat):w.frozen? ⟨b,i,none⟩=false:=frozen_of_row w b i _ _ h
theorem IBox.put2 (h:IBox w b x) (n:Int):IBox (w.setCell ⟨b,2,none⟩ (.int .i64 n)) b {x with x:=n}:=by
 unfold IBox at*
 rw[heap_setCell_same w b 2 _ _ _ h];rfl
theorem IBox.put3 (h:IBox w b x) (n:Int):IBox (w.setCell ⟨b,3,none⟩ (.int .i64 n)) b {x with y:=n}:=by
 unfold IBox at*
 rw[heap_setCell_same w b 3 _ _ _ h];rfl
end
theorem zero_ins (w:World):(zeroValue 106).run Tryz.prog w= .ok (.agg (insA zeroI)) w:=by
 obtain⟨i,hi,h1,-,-⟩:=info_parts ins_info
 simp[zeroValue,typeInfo,hi,h1];rfl
section
variable {ops:Array Oper} {rest:List Oper} {o:Oper} {a:Act} {w:World} {Q:Exit→Act→World→Prop}
theorem alloc_ins (hgd:o.guard=none) (ho:o.op= .alloc 106)
    (h: ∀w' b,w.heap.size=b→IBox w' b zeroI→Below w.heap.size w w'→w'.heap.size=w.heap.size+1→wpList Tryz.prog ops Q rest (a.put o.dst (.pointer (some ⟨b,0,none⟩))) w'):wpList Tryz.prog ops Q (o::rest) a w:=
 wpList_plain hgd fun _ hK=>by
  unfold Oper.wp execOp
  simp only[ho,Instr.alloc,newVar,newRow,zero_ins,Sem.run_bind,Sem.run_pure,Result.andThen_ok]
  exact hK _ _ (h _ _ rfl (heap_alloc_new w _) (below_new w _) (World.size_alloc w _))
theorem box_ins (hgd:o.guard=none) (x:Operand) (ho:o.op= .box 106 x) {r:Inst} (hx:a.eval x= .agg (insA r))
    (h: ∀w' b,w.heap.size=b→IBox w' b r→Below w.heap.size w w'→w'.heap.size=w.heap.size+1→wpList Tryz.prog ops Q rest (a.put o.dst (.pointer (some ⟨b,0,none⟩))) w'):wpList Tryz.prog ops Q (o::rest) a w:=
 wpList_plain hgd fun _ hK=>by
  unfold Oper.wp execOp
  simp only[ho,hx,Instr.box,newVar,newRow,Sem.run_bind,Sem.run_pure]
  exact hK _ _ (h _ _ rfl (heap_alloc_new w _) (below_new w _) (World.size_alloc w _))
theorem load_ibox (hgd:o.guard=none) (x:Operand) (ho:o.op= .load 106 x) {b:Nat} (hx:a.eval x= .pointer (some ⟨b,0,none⟩)) {r:Inst} (hr:IBox w b r) (h:wpList Tryz.prog ops Q rest (a.put o.dst (.agg (insA r))) w):wpList Tryz.prog ops Q (o::rest) a w:=
 wpList_load_row hgd 106 x ho b hx 106 (insA r) (0,0) _ hr Tryz.underlying106 rfl (ins_size r) h
theorem store_ins (hgd:o.guard=none) (x y:Operand) (ho:o.op= .store 106 x y) {b:Nat} {r old:Inst} (hx:a.eval x= .pointer (some ⟨b,0,none⟩)) (hy:a.eval y= .agg (insA r)) (hr:IBox w b old)
    (h: ∀w',IBox w' b r→Beside b w w'→w'.heap.size=w.heap.size→wpList Tryz.prog ops Q rest (a.put o.dst undef) w'):wpList Tryz.prog ops Q (o::rest) a w:=
 wpList_store_row hgd 106 x y ho b (insA r) hx hy 106 (insA old) hr (ins_size r) rfl (insA_one r)
  (h _ (setRow_heap w b _ _ _ _ hr) ⟨rfl,rfl,rfl,by rw[setRow_size];exact Nat.le_refl _,fun k _ e=>setRow_other w b k _ e⟩ (setRow_size _ _ _))
theorem wp_slice_ins {K:Act→World→Prop} (x:Operand) (ho:o.op= .buildSlice 46 1 #[(0,x)]) {r:Inst} (hx:a.eval x= .agg (insA r))
    (h: ∀w' b,w.heap.size=b→Prg w'.heap.size w' (.slice (some ⟨b,0,none⟩) 1 1) [r]→Below w.heap.size w w'→w'.heap.size=w.heap.size+1→w'.ownsRow w.heap.size 106 4 (.slice (some ⟨b,0,none⟩) 1 1) 1 (insC r)→K (a.put o.dst (.slice (some ⟨b,0,none⟩) 1 1)) w'):o.wp Tryz.prog a w K Q:=by
 obtain⟨i,hi,h1,h2,-⟩:=info_parts ins_info
 refine wp_buildSlice 46 106 1 _ ho (insA r) i _ Tryz.underlying46 hi h1 (by rw[h2];decide) (by rw[h2];decide) ?_ (h _ _ rfl ?_ (below_new w _) (World.size_alloc w _) ?_)
 ·rw[h2]
  simp only[List.map_toArray,List.map_cons,List.map_nil,hx]
  have hr:Array.range (1*4)= #[0,1,2,3]:=by decide
  rw[hr]
  simp[Instr.fill,insA,Value.cells]
 ·refine⟨_,_,rfl,Nat.le_refl _,by unfold maxLen;decide,fun _=>⟨_,rfl,by rw[World.size_alloc];exact Nat.lt_succ_self _,fun k hk j hj=> ?_⟩⟩
  have hk0:k=0:=by simp at hk;omega
  subst hk0
  have:=cells_new w (insC r) 106 j
  rw[Nat.zero_mul,Nat.zero_add]
  have h5:j<(insC r).length:=by rw[insC_len];exact hj
  exact(this _ (List.getElem?_eq_getElem h5)).trans (List.getElem?_eq_getElem h5).symm
 ·refine⟨rfl,Or.inr ⟨w.heap.size,1,insA r,rfl,Nat.le_refl _,heap_alloc_new w _,Nat.le_refl _,by unfold maxLen;decide,rfl,rfl⟩⟩
theorem slice_ins (hgd:o.guard=none) (x:Operand) (ho:o.op= .buildSlice 46 1 #[(0,x)]) {r:Inst} (hx:a.eval x= .agg (insA r))
    (h: ∀w' b,w.heap.size=b→Prg w'.heap.size w' (.slice (some ⟨b,0,none⟩) 1 1) [r]→Below w.heap.size w w'→w'.heap.size=w.heap.size+1→w'.ownsRow w.heap.size 106 4 (.slice (some ⟨b,0,none⟩) 1 1) 1 (insC r)→wpList Tryz.prog ops Q rest (a.put o.dst (.slice (some ⟨b,0,none⟩) 1 1)) w'):wpList Tryz.prog ops Q (o::rest) a w:=
 wpList_plain hgd fun _ hK=>wp_slice_ins x ho hx fun w' b h1 h2 h3 h4 h5=>hK _ _ (h w' b h1 h2 h3 h4 h5)
theorem run_load_ins {a:Act} {o:Oper} {w:World} (x:Operand) (ho:o.op= .load 106 x) {b k:Nat} (hx:a.eval x= .pointer (some ⟨b,k,none⟩)) {r:Inst} (hr: ∀j,j<4→w.cell? ⟨b,k+j,none⟩=(insC r)[j]?):(execOp a.eval o).run Tryz.prog w= .ok (.value (.agg (insA r))) w:=by
 have hl:(loadCells ⟨b,k,none⟩ (insC r).length).run Tryz.prog w= .ok (insC r).toArray w:=run_loadCells_list (P:=Tryz.prog) w ⟨b,k,none⟩ (insC r) fun j v hv=>by
  have hadd:(⟨b,k,none⟩:Addr).add j=⟨b,k+j,none⟩:=by unfold Addr.add;split<;>simp_all
  have hj:j<4:=by
   rcases Nat.lt_or_ge j (insC r).length with q|q
   ·rw[insC_len]at q;exact q
   ·rw[List.getElem?_eq_none q]at hv;cases hv
  rw[hadd,hr j hj];exact hv
 obtain⟨i,hi,-,h2,-⟩:=info_parts ins_info
 have hagg:(isAgg 106).run Tryz.prog w= .ok true w:=by
  unfold isAgg
  rw[Sem.run_bind,run_underlying Tryz.underlying106 w]
  rfl
 rw[insC_len]at hl
 unfold execOp
 simp only[ho,hx,Instr.loadAt,Instr.sureAddr,loadVar,sizeOf,typeInfo,Sem.run_bind,Sem.run_pure,Result.andThen_ok,hagg]
 simp[hi,h2,hl,Sem.run_bind,Result.andThen]
 rfl
theorem load_ins (hgd:o.guard=none) (x:Operand) (ho:o.op= .load 106 x) {b k:Nat} (hx:a.eval x= .pointer (some ⟨b,k,none⟩)) {r:Inst}
    (hr: ∀j,j<4→w.cell? ⟨b,k+j,none⟩=(insC r)[j]?) (h:wpList Tryz.prog ops Q rest (a.put o.dst (.agg (insA r))) w):wpList Tryz.prog ops Q (o::rest) a w:=
 wpList_plain hgd fun _ hK=>by
  have hl:(loadCells ⟨b,k,none⟩ (insC r).length).run Tryz.prog w= .ok (insC r).toArray w:=run_loadCells_list (P:=Tryz.prog) w ⟨b,k,none⟩ (insC r) fun j v hv=>by
   have hadd:(⟨b,k,none⟩:Addr).add j=⟨b,k+j,none⟩:=by unfold Addr.add;split<;>simp_all
   have hj:j<4:=by
    rcases Nat.lt_or_ge j (insC r).length with q|q
    ·rw[insC_len]at q;exact q
    ·rw[List.getElem?_eq_none q]at hv;cases hv
   rw[hadd,hr j hj];exact hv
  obtain⟨i,hi,-,h2,-⟩:=info_parts ins_info
  have hagg:(isAgg 106).run Tryz.prog w= .ok true w:=by
   unfold isAgg
   rw[Sem.run_bind,run_underlying Tryz.underlying106 w]
   rfl
  rw[insC_len]at hl
  unfold Oper.wp execOp
  simp only[ho,hx,Instr.loadAt,Instr.sureAddr,loadVar,sizeOf,typeInfo,Sem.run_bind,Sem.run_pure,Result.andThen_ok,hagg]
  simp[hi,h2,hl,Sem.run_bind,Result.andThen]
  exact hK _ _ h
theorem wp_append_ins {K:Act→World→Prop} (s x:Operand) (ho:o.op= .call {callee:= .builtin .append,args:= #[s,x],argTypes:= #[46,46]})
    {base B:Nat} {v u:Value} {L M:List Inst} (hs:a.eval s=v) (hx:a.eval x=u) (hown:w.ownsRow base 106 4 v L.length (L.flatMap insC)) (hu:Prg B w u M) (hl:L.length+M.length≤1000000) (hbase:base≤w.heap.size)
    (h: ∀v' w',w'.ownsRow base 106 4 v' (L++M).length ((L++M).flatMap insC)→Put v v' w w'→K (a.put o.dst v') w'):o.wp Tryz.prog a w K Q:=by
 obtain⟨i,hi,h1,h2,h3⟩:=info_parts ins_info
 refine wp_append_put s x 46 ho base 106 i _ 4 40 Tryz.underlying46 hi h1 h2 h3 rfl (by decide) v L.length (L.flatMap insC) hs hown u M B hx hu insC_len insC_one (by unfold maxLen;omega) (by omega) hbase fun v' w' e1 e2=>h v' w' ?_ e2
 rw[List.length_append,List.flatMap_append];exact e1
theorem append_ins (hgd:o.guard=none) (s x:Operand) (ho:o.op= .call {callee:= .builtin .append,args:= #[s,x],argTypes:= #[46,46]})
    {base B:Nat} {v u:Value} {L M:List Inst} (hs:a.eval s=v) (hx:a.eval x=u) (hown:w.ownsRow base 106 4 v L.length (L.flatMap insC)) (hu:Prg B w u M) (hl:L.length+M.length≤1000000) (hbase:base≤w.heap.size)
    (h: ∀v' w',w'.ownsRow base 106 4 v' (L++M).length ((L++M).flatMap insC)→Put v v' w w'→wpList Tryz.prog ops Q rest (a.put o.dst v') w'):wpList Tryz.prog ops Q (o::rest) a w:=
 wpList_plain hgd fun _ hK=>wp_append_ins s x ho hs hx hown hu hl hbase fun v' w' h1 h2=>hK _ _ (h v' w' h1 h2)
end
/-! numbers in a slice -/
def numC (n:Nat):List Value:= [.int .i64 n]
theorem numC_len (n:Nat):(numC n).length=1:=rfl
theorem numC_one (n:Nat): ∀c∈numC n,c.oneCell'=true:=by
 intro c hc
 simp only[numC,List.mem_cons,List.not_mem_nil,or_false]at hc
 subst hc;rfl
theorem int_info:(Tryz.prog.info? 3).map (fun i=>(i.zero,i.size,i.bytes))=some (some (.int .i64 0),1,8):=by kernel_rfl
section
variable {ops:Array Oper} {rest:List Oper} {o:Oper} {a:Act} {w:World} {Q:Exit→Act→World→Prop}
theorem slice_num (hgd:o.guard=none) (x:Operand) (ho:o.op= .buildSlice 85 1 #[(0,x)]) {n:Nat} (hx:a.eval x= .int .i64 n)
    (h: ∀w' b,w.heap.size=b→Recs numC 1 w'.heap.size w' (.slice (some ⟨b,0,none⟩) 1 1) [n]→Below w.heap.size w w'→w'.heap.size=w.heap.size+1→wpList Tryz.prog ops Q rest (a.put o.dst (.slice (some ⟨b,0,none⟩) 1 1)) w'):wpList Tryz.prog ops Q (o::rest) a w:=by
 obtain⟨i,hi,h1,h2,-⟩:=info_parts int_info
 refine wpList_plain hgd fun _ hK=>wp_buildSlice 85 3 1 _ ho #[.int .i64 n] i _ Tryz.underlying85 hi h1 (by rw[h2];decide) (by rw[h2];decide) ?_ (hK _ _ (h _ _ rfl ?_ (below_new w _) (World.size_alloc w _)))
 ·rw[h2]
  simp only[List.map_toArray,List.map_cons,List.map_nil,hx]
  have hr:Array.range (1*1)= #[0]:=by decide
  rw[hr]
  simp[Instr.fill,Value.cells]
 ·refine⟨_,_,rfl,Nat.le_refl _,by unfold maxLen;decide,fun _=>⟨_,rfl,by rw[World.size_alloc];exact Nat.lt_succ_self _,fun k hk j hj=> ?_⟩⟩
  have hk0:k=0:=by simp at hk;omega
  subst hk0
  have:=cells_new w (numC n) 3 j
  rw[Nat.zero_mul,Nat.zero_add]
  have h5:j<(numC n).length:=by rw[numC_len];exact hj
  exact(this _ (List.getElem?_eq_getElem h5)).trans (List.getElem?_eq_getElem h5).symm
theorem append_num (hgd:o.guard=none) (s x:Operand) (ho:o.op= .call {callee:= .builtin .append,args:= #[s,x],argTypes:= #[85,85]})
    {base B:Nat} {v u:Value} {L M:List Nat} (hs:a.eval s=v) (hx:a.eval x=u) (hown:w.ownsRow base 3 1 v L.length (L.flatMap numC)) (hu:Recs numC 1 B w u M) (hl:L.length+M.length≤1000000) (hbase:base≤w.heap.size)
    (h: ∀v' w',w'.ownsRow base 3 1 v' (L++M).length ((L++M).flatMap numC)→Put v v' w w'→wpList Tryz.prog ops Q rest (a.put o.dst v') w'):wpList Tryz.prog ops Q (o::rest) a w:=by
 obtain⟨i,hi,h1,h2,h3⟩:=info_parts int_info
 refine wpList_append_put hgd s x 85 ho base 3 i _ 1 8 Tryz.underlying85 hi h1 h2 h3 rfl (by decide) v L.length (L.flatMap numC) hs hown u M B hx hu numC_len numC_one (by unfold maxLen;omega) (by omega) hbase fun v' w' e1 e2=>h v' w' ?_ e2
 rw[List.length_append,List.flatMap_append];exact e1
end
end W15
namespace W15
open Strs Recs M15
open M14 (Piece size sizes)
open W14 (Raw rawA rawC PAt PBox Kids below_new cell_block own_same own_form)
open Row256 (Beside)
abbrev way (g b:Nat):Value:= .func (.func g) #[.pointer (some ⟨b,0,none⟩)] #[]
def layA (b:Nat) (v:Value):Array Value:= #[v,.nilFunc,way 99 b,way 100 b,way 101 b,way 102 b,way 103 b,way 104 b,way 105 b,way 106 b,way 107 b]
def LBox (w:World) (b:Nat) (v:Value):Prop:=w.heap[b]? =some (.cells (layA b v) 104 (0,0))
structure Lay (w:World) (b:Nat) (v:Value) (L:List Inst):Prop where
 box:LBox w b v
 own:w.ownsRow (b+1) 106 4 v L.length (L.flatMap insC)
structure Grow (b:Nat) (v v':Value) (w w':World):Prop where
 os:w'.os=w.os
 tape:w'.tape=w.tape
 output:w'.output=w.output
 size:w.heap.size≤w'.heap.size
 block: ∀k,k<w.heap.size→k≠b→v.ownBlock≠some k→w'.heap[k]? =w.heap[k]?
 own: ∀k,v'.ownBlock=some k→v.ownBlock=some k∨w.heap.size≤k
section
variable {w w' w'':World} {b:Nat} {v v' v'':Value} {L M:List Inst}
theorem LBox.lt (h:LBox w b v):b<w.heap.size:=(Array.getElem?_eq_some_iff.1 h).1
theorem LBox.c0 (h:LBox w b v):w.cell? ⟨b,0,none⟩=some v:=cell_of_row w b 0 _ _ _ h
theorem LBox.free (h:LBox w b v) (i:Nat):w.frozen? ⟨b,i,none⟩=false:=frozen_of_row w b i _ _ h
theorem LBox.below (h:LBox w b v) (k:Below w.heap.size w w'):LBox w' b v:=(k.block b h.lt).trans h
theorem LBox.put (h:LBox w b v) (u:Value):LBox (w.setCell ⟨b,0,none⟩ u) b u:=by
 unfold LBox at*
 rw[heap_setCell_same w b 0 _ _ _ h];rfl
theorem Lay.below (h:Lay w b v L) (k:Below w.heap.size w w'):Lay w' b v L:=⟨h.box.below k,own_same h.own fun i _ hi=>k.block i hi⟩
theorem Lay.other (h:Lay w b v L) {c:Nat} (k:Beside c w w') (hb:c≠b) (hv:v.ownBlock≠some c):Lay w' b v L:=by
 refine⟨(k.block b h.box.lt (fun q=>hb q.symm)).trans h.box,?_⟩
 have h1:=h.own
 refine⟨h1.1,?_⟩
 rcases h1.2 with h0|⟨g,cap,cur,e1,hb,hh,rest⟩
 ·exact Or.inl h0
 ·subst e1
  exact Or.inr ⟨g,cap,cur,rfl,hb,(k.block g (Array.getElem?_eq_some_iff.1 hh).1 (fun q=>hv (by subst q;rfl))).trans hh,rest⟩
theorem Lay.own_gt (h:Lay w b v L): ∀k,v.ownBlock=some k→b<k∧k<w.heap.size:=fun k hk=>h.own.lt k hk
theorem Lay.form (h:Lay w b v L): ∃A c,v= .slice A L.length c∧L.length≤c∧c≤maxLen:=(Recs.of_own insC_len rfl h.own).form
theorem Grow.refl (b:Nat) (v:Value) (w:World):Grow b v v w w:=⟨rfl,rfl,rfl,Nat.le_refl _,fun _ _ _ _=>rfl,fun _ h=>Or.inl h⟩
theorem Grow.trans (h:Grow b v v' w w') (k:Grow b v' v'' w' w''):Grow b v v'' w w'':=
 ⟨k.os.trans h.os,k.tape.trans h.tape,k.output.trans h.output,Nat.le_trans h.size k.size,fun i hi e1 e2=>(k.block i (Nat.lt_of_lt_of_le hi h.size) e1 (fun q=>by
  rcases h.own i q with q2|q2
  ·exact e2 q2
  ·omega)).trans (h.block i hi e1 e2),fun i hi=>by
  rcases k.own i hi with q|q
  ·exact h.own i q
  ·exact Or.inr (Nat.le_trans h.size q)⟩
theorem Grow.of (h:Below w.heap.size w w'):Grow b v v w w':=⟨h.os,h.tape,h.output,h.size,fun k hk _ _=>h.block k hk,fun _ q=>Or.inl q⟩
theorem Grow.beside {w0:World} {c:Nat} (h:Grow b v v' w0 w) (k:Beside c w w') (hc:w0.heap.size≤c):Grow b v v' w0 w':=
 ⟨k.os.trans h.os,k.tape.trans h.tape,k.output.trans h.output,Nat.le_trans h.size k.size,fun i hi e1 e2=>(k.block i (Nat.lt_of_lt_of_le hi h.size) (by omega)).trans (h.block i hi e1 e2),h.own⟩
theorem Grow.put {w0:World} {u u':Value} (h:Grow b v v' w0 w) (k:Put u u' w w') (hu: ∀i,u.ownBlock=some i→w0.heap.size≤i):Grow b v v' w0 w':=by
 obtain⟨g1,g2,g3,g4,g5⟩:=k.grown
 exact⟨g1.trans h.os,g2.trans h.tape,g3.trans h.output,Nat.le_trans h.size g4,fun i hi e1 e2=>(g5 i (Nat.lt_of_lt_of_le hi h.size) (fun q=>by have:=hu i q.symm;omega)).trans (h.block i hi e1 e2),h.own⟩
theorem Grow.keeps (h:Grow b v v' w w') (hl:Lay w b v L) {k:Nat} (hk:k<b):w'.heap[k]? =w.heap[k]? :=
 h.block k (Nat.lt_trans hk hl.box.lt) (by omega) (fun q=>by have:=(hl.own_gt k q).1;omega)
theorem Grow.piece {r:Raw} {p:Piece} (h:Grow b v v' w w') (hl:Lay w b v L) (hp:PAt (fun k=>k<b) w r p):PAt (fun k=>k<b) w' r p:=hp.keep (fun _ q=>q) fun _ q=>cell_block (h.keeps hl q)
theorem below_piece {r:Raw} {p:Piece} (h:Below w.heap.size w w') (hb:b<w.heap.size) (hp:PAt (fun k=>k<b) w r p):PAt (fun k=>k<b) w' r p:=hp.keep (fun _ q=>q) fun _ (q:_<b)=>cell_block (h.block _ (Nat.lt_trans q hb))
theorem Lay.more {w1 w2:World} (h:Lay w b v L) (hB:Below w.heap.size w w1) (hown:w2.ownsRow (b+1) 106 4 v' (L++M).length ((L++M).flatMap insC)) (hp:Put v v' w1 w2):
    LBox w2 b v∧Lay (w2.setCell ⟨b,0,none⟩ v') b v' (L++M)∧Grow b v v' w (w2.setCell ⟨b,0,none⟩ v'):=by
 obtain⟨g1,g2,g3,g4,g5⟩:=hp.grown
 have h1:=h.below hB
 have hb2:LBox w2 b v:=(g5 b h1.box.lt (fun q=>by have:=(h.own_gt b q.symm).1;omega)).trans h1.box
 refine⟨hb2,⟨hb2.put v',own_same hown fun k hk _=>heap_setCell_other w2 _ k _ (show k≠b by omega)⟩,⟨g1.trans hB.os,g2.trans hB.tape,g3.trans hB.output,?_,?_,?_⟩⟩
 ·rw[World.size_setCell];exact Nat.le_trans hB.size g4
 ·intro k hk e1 e2
  rw[heap_setCell_other w2 _ k _ e1,g5 k (Nat.lt_of_lt_of_le hk hB.size) (fun q=>e2 q.symm),hB.block k hk]
 ·intro k hk
  rcases hp.own k hk with q|q
  ·exact Or.inl q
  ·exact Or.inr (Nat.le_trans hB.size q)
end
def Laid (b:Nat) (v:Value) (w:World) (L:List Inst) (e:Ending) (w':World):Prop:=e= .returned (.tuple #[])∧ ∃v',Lay w' b v' L∧Grow b v v' w w'
def LaidAt (b:Nat) (v:Value) (w:World) (n:Nat) (L:List Inst) (e:Ending) (w':World):Prop:=e= .returned (.int .i64 n)∧ ∃v',Lay w' b v' L∧Grow b v v' w w'
theorem here_any {w:World} {b:Nat} {v:Value} {L:List Inst} (h:Lay w b v L):Calls Tryz.prog 133 #[.pointer (some ⟨b,0,none⟩)] w fun e w'=>e= .returned (.int .i64 L.length)∧w'=w:=by
 obtain⟨A,c,rfl,h1,h2⟩:=h.form
 have c0:=h.box.c0
 unfold maxLen at h2
 clear h
 go_enter Tryz.func133,Tryz.ntmps133
 go_wp2_with fail
 go_ret
 exact⟨rfl,rfl⟩
theorem step_any {w:World} {b:Nat} {v:Value} {L:List Inst} (h:Lay w b v L) (hl:L.length≤900000) (k:Int) (t:ByteArray):Calls Tryz.prog 131 #[.pointer (some ⟨b,0,none⟩),.int .i64 k,.string t] w (LaidAt b v w L.length (L++ [⟨k,t,(L.length+1:Nat),0⟩])):=by
 have HE:=hid (here_any h)
 have H:=hid h
 have hw:wrap64 ((L.length:Int)+1)=((L.length+1:Nat):Int):=by unfold wrap64;omega
 obtain⟨n,hn⟩: ∃n,L.length+1=n:=⟨_,rfl⟩
 rw[hn]at hw ⊢
 obtain⟨m,hm⟩: ∃m,L.length=m:=⟨_,rfl⟩
 have HM:=hid hm
 rw[hm]at HE hw hl ⊢
 have HW:=hid hw
 have HL:=hid hl
 have hc0:=h.box.c0
 have hf:=h.box.free 0
 clear h hn hm hl
 go_enter Tryz.func131,Tryz.ntmps131
 go_wp2_with fail
 refine HE.out.mono ?_
 rintro e w' ⟨rfl,rfl⟩
 go_wp2_with (first
  |(refine slice_ins (r:=⟨k,t,(n:Nat),0⟩) rfl (.tmp 19) rfl rfl ?_;intro w1 b1 e1 p1 l1 z1 o1;have P1:=hid p1;have L1:=hid l1;clear e1 p1 l1 z1 o1)
  |(refine append_ins rfl (.tmp 14) (.tmp 20) rfl rfl rfl (H.out.below L1.out).own P1.out (by rw[HM.out];simp only[List.length_cons,List.length_nil];have:=HL.out;omega) (Nat.le_trans H.out.box.lt L1.out.size) ?_;intro v' w2 o2 p2;obtain⟨g2,c2,rfl,-,-,-,-⟩:=own_form o2 (by simp);have R2:=hid (H.out.more L1.out o2 p2);obtain⟨q2,hq2⟩: ∃q2,(L++ [(⟨k,t,(n:Nat),0⟩:Inst)]).length=q2:=⟨_,rfl⟩;rw[hq2]at R2 ⊢;clear hq2;have hf2:=R2.out.1.free 0;have hc2:=R2.out.1.c0;clear o2 p2))
 go_ret
 exact⟨rfl,_,R2.out.2⟩
theorem jump_any {w:World} {b:Nat} {v:Value} {L:List Inst} (h:Lay w b v L) (hl:L.length≤900000) (to:Nat):Calls Tryz.prog 132 #[.pointer (some ⟨b,0,none⟩),.int .i64 to] w (LaidAt b v w L.length (L++ [M15.jump to])):=by
 have HE:=hid (here_any h)
 have H:=hid h
 unfold M15.jump no
 obtain⟨m,hm⟩: ∃m,L.length=m:=⟨_,rfl⟩
 have HM:=hid hm
 rw[hm]at HE hl ⊢
 have HL:=hid hl
 have hc0:=h.box.c0
 have hf:=h.box.free 0
 clear h hm hl
 go_enter Tryz.func132,Tryz.ntmps132
 go_wp2_with fail
 refine HE.out.mono ?_
 rintro e w' ⟨rfl,rfl⟩
 go_wp2_with (first
  |(refine slice_ins (r:=⟨8,⟨#[]⟩,(to:Nat),0⟩) rfl (.tmp 14) rfl rfl ?_;intro w1 b1 e1 p1 l1 z1 o1;have P1:=hid p1;have L1:=hid l1;clear e1 p1 l1 z1 o1)
  |(refine append_ins rfl (.tmp 12) (.tmp 15) rfl rfl rfl (H.out.below L1.out).own P1.out (by rw[HM.out];simp only[List.length_cons,List.length_nil];have:=HL.out;omega) (Nat.le_trans H.out.box.lt L1.out.size) ?_;intro v' w2 o2 p2;obtain⟨g2,c2,rfl,-,-,-,-⟩:=own_form o2 (by simp);have R2:=hid (H.out.more L1.out o2 p2);obtain⟨q2,hq2⟩: ∃q2,(L++ [(⟨8,⟨#[]⟩,(to:Nat),0⟩:Inst)]).length=q2:=⟨_,rfl⟩;rw[hq2]at R2 ⊢;clear hq2;have hf2:=R2.out.1.free 0;have hc2:=R2.out.1.c0;clear o2 p2))
 go_ret
 exact⟨rfl,_,R2.out.2⟩
end W15
namespace W15
open Strs Recs M15
open M14 (Piece size sizes)
open W14 (Raw rawA rawC PAt PBox Kids below_new cell_block own_same own_form box_arg load_piece run_load_op)
open Row256 (Beside)
open Kit (below_draws on)
def Does (f:Nat) (b:Nat) (v:Value) (L:List Inst) (r:Raw) (p:Piece) (N:List Inst) (w:World):Prop:=
 Lay w b v L→PAt (fun k=>k<b) w r p→Calls Tryz.prog f #[.pointer (some ⟨b,0,none⟩),.agg (rawA r)] w (Laid b v w N)
theorem Laid.on {w w1 w2:World} {b:Nat} {v:Value} {L:List Inst} {e:Ending} (hb:Below w.heap.size w w1) (h:Laid b v w1 L e w2):Laid b v w L e w2:=by
 obtain⟨rfl,v',h1,h2⟩:=h
 exact⟨rfl,v',h1,(Grow.of hb).trans h2⟩
theorem empty_any {w:World} {b:Nat} {v:Value} {L:List Inst} (h:Lay w b v L) (r:Raw):Calls Tryz.prog 99 #[.pointer (some ⟨b,0,none⟩),.agg (rawA r)] w (Laid b v w L):=by
 have H:=hid h
 clear h
 go_enter Tryz.func99,Tryz.ntmps99
 go_wp2_with (first
  |(refine box_arg (r:=r) rfl (.tmp 1) rfl rfl ?_;intro w1 b1 e1 p1 l1 z1;have L1:=hid l1;clear e1 p1 l1 z1))
 go_end0
 exact⟨rfl,v,H.out.below L1.out,Grow.of L1.out⟩
theorem char_any {w:World} {b:Nat} {v:Value} {L:List Inst} (h:Lay w b v L) (hl:L.length≤900000) (r:Raw):Calls Tryz.prog 100 #[.pointer (some ⟨b,0,none⟩),.agg (rawA r)] w (Laid b v w (L++ [one 1 r.text L.length])):=by
 have H:=hid h
 have HL:=hid hl
 clear h hl
 go_enter Tryz.func100,Tryz.ntmps100
 go_wp2_with (first
  |(refine box_arg (r:=r) rfl (.tmp 1) rfl rfl ?_;intro w1 b1 e1 p1 l1 z1;have a1:=p1.c1;have L1:=hid l1;clear e1 p1 l1 z1))
 refine(step_any (H.out.below L1.out) HL.out 1 r.text).mono ?_
 rintro e w2 ⟨rfl,v',h1,h2⟩
 have HH:=hid h1
 have GG:=hid ((Grow.of L1.out).trans h2)
 clear h1 h2
 go_wp2_with fail
 go_end0
 exact⟨rfl,v',HH.out,GG.out⟩
theorem any_any {w:World} {b:Nat} {v:Value} {L:List Inst} (h:Lay w b v L) (hl:L.length≤900000) (r:Raw):Calls Tryz.prog 101 #[.pointer (some ⟨b,0,none⟩),.agg (rawA r)] w (Laid b v w (L++ [one 2 ⟨#[]⟩ L.length])):=by
 have H:=hid h
 have HL:=hid hl
 clear h hl
 go_enter Tryz.func101,Tryz.ntmps101
 go_wp2_with (first
  |(refine box_arg (r:=r) rfl (.tmp 1) rfl rfl ?_;intro w1 b1 e1 p1 l1 z1;have a1:=p1.c1;have L1:=hid l1;clear e1 p1 l1 z1))
 refine(step_any (H.out.below L1.out) HL.out 2 ⟨#[]⟩).mono ?_
 rintro e w2 ⟨rfl,v',h1,h2⟩
 have HH:=hid h1
 have GG:=hid ((Grow.of L1.out).trans h2)
 clear h1 h2
 go_wp2_with fail
 go_end0
 exact⟨rfl,v',HH.out,GG.out⟩
theorem set_any {w:World} {b:Nat} {v:Value} {L:List Inst} (h:Lay w b v L) (hl:L.length≤900000) (r:Raw):Calls Tryz.prog 102 #[.pointer (some ⟨b,0,none⟩),.agg (rawA r)] w (Laid b v w (L++ [one 3 r.text L.length])):=by
 have H:=hid h
 have HL:=hid hl
 clear h hl
 go_enter Tryz.func102,Tryz.ntmps102
 go_wp2_with (first
  |(refine box_arg (r:=r) rfl (.tmp 1) rfl rfl ?_;intro w1 b1 e1 p1 l1 z1;have a1:=p1.c1;have L1:=hid l1;clear e1 p1 l1 z1))
 refine(step_any (H.out.below L1.out) HL.out 3 r.text).mono ?_
 rintro e w2 ⟨rfl,v',h1,h2⟩
 have HH:=hid h1
 have GG:=hid ((Grow.of L1.out).trans h2)
 clear h1 h2
 go_wp2_with fail
 go_end0
 exact⟨rfl,v',HH.out,GG.out⟩
theorem begin_any {w:World} {b:Nat} {v:Value} {L:List Inst} (h:Lay w b v L) (hl:L.length≤900000) (r:Raw):Calls Tryz.prog 103 #[.pointer (some ⟨b,0,none⟩),.agg (rawA r)] w (Laid b v w (L++ [one 4 ⟨#[]⟩ L.length])):=by
 have H:=hid h
 have HL:=hid hl
 clear h hl
 go_enter Tryz.func103,Tryz.ntmps103
 go_wp2_with (first
  |(refine box_arg (r:=r) rfl (.tmp 1) rfl rfl ?_;intro w1 b1 e1 p1 l1 z1;have a1:=p1.c1;have L1:=hid l1;clear e1 p1 l1 z1))
 refine(step_any (H.out.below L1.out) HL.out 4 ⟨#[]⟩).mono ?_
 rintro e w2 ⟨rfl,v',h1,h2⟩
 have HH:=hid h1
 have GG:=hid ((Grow.of L1.out).trans h2)
 clear h1 h2
 go_wp2_with fail
 go_end0
 exact⟨rfl,v',HH.out,GG.out⟩
theorem end_any {w:World} {b:Nat} {v:Value} {L:List Inst} (h:Lay w b v L) (hl:L.length≤900000) (r:Raw):Calls Tryz.prog 104 #[.pointer (some ⟨b,0,none⟩),.agg (rawA r)] w (Laid b v w (L++ [one 5 ⟨#[]⟩ L.length])):=by
 have H:=hid h
 have HL:=hid hl
 clear h hl
 go_enter Tryz.func104,Tryz.ntmps104
 go_wp2_with (first
  |(refine box_arg (r:=r) rfl (.tmp 1) rfl rfl ?_;intro w1 b1 e1 p1 l1 z1;have a1:=p1.c1;have L1:=hid l1;clear e1 p1 l1 z1))
 refine(step_any (H.out.below L1.out) HL.out 5 ⟨#[]⟩).mono ?_
 rintro e w2 ⟨rfl,v',h1,h2⟩
 have HH:=hid h1
 have GG:=hid ((Grow.of L1.out).trans h2)
 clear h1 h2
 go_wp2_with fail
 go_end0
 exact⟨rfl,v',HH.out,GG.out⟩
theorem lay_empty {w:World} {b:Nat} {v:Value} {L N:List Inst} {t:ByteArray} {A:Option Addr} {n c:Nat} {m tp:Int} {p:Piece} (h:Lay w b v L) (hp:PAt (fun k=>k<b) w ⟨1,t,A,n,c,m,tp⟩ p) (hC: ∀w,Does 99 b v L ⟨1,t,A,n,c,m,tp⟩ p N w):Calls Tryz.prog 77 #[.pointer (some ⟨b,0,none⟩),.agg (rawA ⟨1,t,A,n,c,m,tp⟩)] w (Laid b v w N):=by
 have H:=hid h
 have HP:=hid hp
 have HX:=hid hC
 clear h hp hC
 go_enter Tryz.func77,Tryz.ntmps77
 go_wp2_with (first
  |(refine box_arg (r:=⟨1,t,A,n,c,m,tp⟩) rfl (.tmp 1) rfl rfl ?_;intro w1 b1 e1 p1 l1 z1;have P1:=hid p1;have L1:=hid l1;have E1:=hid e1;clear e1 p1 l1 z1))
 have L2:=hid (on L1.out (below_draws w1 1))
 have H2:=hid (H.out.below L2.out)
 have HC:=hid (HX.out (w1.drewN 1) H2.out (below_piece L2.out H.out.box.lt HP.out))
 have S0:Hid ((w1.drewN 1).cell? ⟨b1,0,none⟩=some (.int .i64 1)∧(w1.drewN 1).cell? ⟨b,2,none⟩=some (way 99 b)∧PBox (w1.drewN 1) b1 ⟨1,t,A,n,c,m,tp⟩):=⟨P1.out.c0,cell_of_row _ b 2 _ _ _ H2.out.box,P1.out⟩
 have KEEP:Hid (∀v' x1,Lay x1 b v' N→Grow b v v' (w1.drewN 1) x1→x1.cell? ⟨b1,0,none⟩=some (.int .i64 1)∧x1.cell? ⟨b,2,none⟩=some (way 99 b)∧PBox x1 b1 ⟨1,t,A,n,c,m,tp⟩):=fun v' x1 h1 h2=>by
  have hb:PBox x1 b1 ⟨1,t,A,n,c,m,tp⟩:=(h2.block b1 P1.out.lt (by have:=E1.out;have:=H.out.box.lt;omega) (fun q=>by have:=(H.out.own_gt b1 q).2;have:=E1.out;omega)).trans P1.out
  exact⟨hb.c0,cell_of_row _ b 2 _ _ _ h1.box,hb⟩
 refine wp_region_held_drew (S:=fun w'=>w'.cell? ⟨b1,0,none⟩=some (.int .i64 1)∧w'.cell? ⟨b,2,none⟩=some (way 99 b)∧PBox w' b1 ⟨1,t,A,n,c,m,tp⟩) (by kernel_rfl) S0.out (fun hHeld=> ?_)
 refine Take.k 0 ⟨some 4,.move (.tmp 0),_,_,_,none⟩ ?_
 refine Take.k 1 ⟨some 5,.fieldAddr 56 (.tmp 3) 0,_,_,_,none⟩ ?_
 refine Take.k 2 ⟨some 6,.load 3 (.tmp 5),_,_,_,none⟩ ?_
 refine Take.k 3 ⟨some 7,.nilCheck (.tmp 4),_,_,_,none⟩ ?_
 refine Take.k 4 ⟨some 8,.fieldAddr 104 (.tmp 7) 1,_,_,_,none⟩ ?_
 refine Take.k 5 ⟨some 9,.indexAddr 102 (.tmp 8) (.tmp 6),_,_,_,none⟩ ?_
 refine Take.k 6 ⟨some 10,.load 101 (.tmp 9),_,_,_,none⟩ ?_
 refine Take.k 7 ⟨some 11,.load 56 (.tmp 3),_,_,_,none⟩ ?_ (hy:=Or.inl ⟨by rfl,by(intro w hSw;(try dsimp only at hSw);refine run_load_op (.tmp 3) ?_ ?_ hSw.2.2.cells<;>rfl)⟩)
 refine wpAnyH_ready (rs:= [8]) (by kernel_rfl) (by simp) ?_
 refine AllReadyH.cons (o:=⟨some 12,.call ⟨.value (.tmp 10), #[.tmp 11], #[56]⟩,_,_,_,none⟩) rfl (fun K hK=> ?_) AllReadyH.nil
 go_simp
 (go_at_call 99;refine HC.out.mono ?_;rintro e x1 ⟨rfl,v',h1,h2⟩;have HH:=hid h1;have GG:=hid h2;have hS1:=KEEP.out v' x1 h1 h2;clear h1 h2)
 go_wp2_with fail
 refine hK.out _ _ ?_ (fun hHeld=> ?_)
 ·exact hS1
 clear hK K
 try simp only[Act.put,Take.a,Take.b,Take.c]
 refine wpAnyH_done (by kernel_rfl) ?_ _
 go_wp2_with fail
 go_end0
 exact⟨rfl,_,HH.out,(Grow.of L2.out).trans GG.out⟩
theorem lay_char {w:World} {b:Nat} {v:Value} {L N:List Inst} {t:ByteArray} {A:Option Addr} {n c:Nat} {m tp:Int} {p:Piece} (h:Lay w b v L) (hp:PAt (fun k=>k<b) w ⟨2,t,A,n,c,m,tp⟩ p) (hC: ∀w,Does 100 b v L ⟨2,t,A,n,c,m,tp⟩ p N w):Calls Tryz.prog 77 #[.pointer (some ⟨b,0,none⟩),.agg (rawA ⟨2,t,A,n,c,m,tp⟩)] w (Laid b v w N):=by
 have H:=hid h
 have HP:=hid hp
 have HX:=hid hC
 clear h hp hC
 go_enter Tryz.func77,Tryz.ntmps77
 go_wp2_with (first
  |(refine box_arg (r:=⟨2,t,A,n,c,m,tp⟩) rfl (.tmp 1) rfl rfl ?_;intro w1 b1 e1 p1 l1 z1;have P1:=hid p1;have L1:=hid l1;have E1:=hid e1;clear e1 p1 l1 z1))
 have L2:=hid (on L1.out (below_draws w1 1))
 have H2:=hid (H.out.below L2.out)
 have HC:=hid (HX.out (w1.drewN 1) H2.out (below_piece L2.out H.out.box.lt HP.out))
 have S0:Hid ((w1.drewN 1).cell? ⟨b1,0,none⟩=some (.int .i64 2)∧(w1.drewN 1).cell? ⟨b,3,none⟩=some (way 100 b)∧PBox (w1.drewN 1) b1 ⟨2,t,A,n,c,m,tp⟩):=⟨P1.out.c0,cell_of_row _ b 3 _ _ _ H2.out.box,P1.out⟩
 have KEEP:Hid (∀v' x1,Lay x1 b v' N→Grow b v v' (w1.drewN 1) x1→x1.cell? ⟨b1,0,none⟩=some (.int .i64 2)∧x1.cell? ⟨b,3,none⟩=some (way 100 b)∧PBox x1 b1 ⟨2,t,A,n,c,m,tp⟩):=fun v' x1 h1 h2=>by
  have hb:PBox x1 b1 ⟨2,t,A,n,c,m,tp⟩:=(h2.block b1 P1.out.lt (by have:=E1.out;have:=H.out.box.lt;omega) (fun q=>by have:=(H.out.own_gt b1 q).2;have:=E1.out;omega)).trans P1.out
  exact⟨hb.c0,cell_of_row _ b 3 _ _ _ h1.box,hb⟩
 refine wp_region_held_drew (S:=fun w'=>w'.cell? ⟨b1,0,none⟩=some (.int .i64 2)∧w'.cell? ⟨b,3,none⟩=some (way 100 b)∧PBox w' b1 ⟨2,t,A,n,c,m,tp⟩) (by kernel_rfl) S0.out (fun hHeld=> ?_)
 refine Take.k 0 ⟨some 4,.move (.tmp 0),_,_,_,none⟩ ?_
 refine Take.k 1 ⟨some 5,.fieldAddr 56 (.tmp 3) 0,_,_,_,none⟩ ?_
 refine Take.k 2 ⟨some 6,.load 3 (.tmp 5),_,_,_,none⟩ ?_
 refine Take.k 3 ⟨some 7,.nilCheck (.tmp 4),_,_,_,none⟩ ?_
 refine Take.k 4 ⟨some 8,.fieldAddr 104 (.tmp 7) 1,_,_,_,none⟩ ?_
 refine Take.k 5 ⟨some 9,.indexAddr 102 (.tmp 8) (.tmp 6),_,_,_,none⟩ ?_
 refine Take.k 6 ⟨some 10,.load 101 (.tmp 9),_,_,_,none⟩ ?_
 refine Take.k 7 ⟨some 11,.load 56 (.tmp 3),_,_,_,none⟩ ?_ (hy:=Or.inl ⟨by rfl,by(intro w hSw;(try dsimp only at hSw);refine run_load_op (.tmp 3) ?_ ?_ hSw.2.2.cells<;>rfl)⟩)
 refine wpAnyH_ready (rs:= [8]) (by kernel_rfl) (by simp) ?_
 refine AllReadyH.cons (o:=⟨some 12,.call ⟨.value (.tmp 10), #[.tmp 11], #[56]⟩,_,_,_,none⟩) rfl (fun K hK=> ?_) AllReadyH.nil
 go_simp
 (go_at_call 100;refine HC.out.mono ?_;rintro e x1 ⟨rfl,v',h1,h2⟩;have HH:=hid h1;have GG:=hid h2;have hS1:=KEEP.out v' x1 h1 h2;clear h1 h2)
 go_wp2_with fail
 refine hK.out _ _ ?_ (fun hHeld=> ?_)
 ·exact hS1
 clear hK K
 try simp only[Act.put,Take.a,Take.b,Take.c]
 refine wpAnyH_done (by kernel_rfl) ?_ _
 go_wp2_with fail
 go_end0
 exact⟨rfl,_,HH.out,(Grow.of L2.out).trans GG.out⟩
theorem lay_any {w:World} {b:Nat} {v:Value} {L N:List Inst} {t:ByteArray} {A:Option Addr} {n c:Nat} {m tp:Int} {p:Piece} (h:Lay w b v L) (hp:PAt (fun k=>k<b) w ⟨3,t,A,n,c,m,tp⟩ p) (hC: ∀w,Does 101 b v L ⟨3,t,A,n,c,m,tp⟩ p N w):Calls Tryz.prog 77 #[.pointer (some ⟨b,0,none⟩),.agg (rawA ⟨3,t,A,n,c,m,tp⟩)] w (Laid b v w N):=by
 have H:=hid h
 have HP:=hid hp
 have HX:=hid hC
 clear h hp hC
 go_enter Tryz.func77,Tryz.ntmps77
 go_wp2_with (first
  |(refine box_arg (r:=⟨3,t,A,n,c,m,tp⟩) rfl (.tmp 1) rfl rfl ?_;intro w1 b1 e1 p1 l1 z1;have P1:=hid p1;have L1:=hid l1;have E1:=hid e1;clear e1 p1 l1 z1))
 have L2:=hid (on L1.out (below_draws w1 1))
 have H2:=hid (H.out.below L2.out)
 have HC:=hid (HX.out (w1.drewN 1) H2.out (below_piece L2.out H.out.box.lt HP.out))
 have S0:Hid ((w1.drewN 1).cell? ⟨b1,0,none⟩=some (.int .i64 3)∧(w1.drewN 1).cell? ⟨b,4,none⟩=some (way 101 b)∧PBox (w1.drewN 1) b1 ⟨3,t,A,n,c,m,tp⟩):=⟨P1.out.c0,cell_of_row _ b 4 _ _ _ H2.out.box,P1.out⟩
 have KEEP:Hid (∀v' x1,Lay x1 b v' N→Grow b v v' (w1.drewN 1) x1→x1.cell? ⟨b1,0,none⟩=some (.int .i64 3)∧x1.cell? ⟨b,4,none⟩=some (way 101 b)∧PBox x1 b1 ⟨3,t,A,n,c,m,tp⟩):=fun v' x1 h1 h2=>by
  have hb:PBox x1 b1 ⟨3,t,A,n,c,m,tp⟩:=(h2.block b1 P1.out.lt (by have:=E1.out;have:=H.out.box.lt;omega) (fun q=>by have:=(H.out.own_gt b1 q).2;have:=E1.out;omega)).trans P1.out
  exact⟨hb.c0,cell_of_row _ b 4 _ _ _ h1.box,hb⟩
 refine wp_region_held_drew (S:=fun w'=>w'.cell? ⟨b1,0,none⟩=some (.int .i64 3)∧w'.cell? ⟨b,4,none⟩=some (way 101 b)∧PBox w' b1 ⟨3,t,A,n,c,m,tp⟩) (by kernel_rfl) S0.out (fun hHeld=> ?_)
 refine Take.k 0 ⟨some 4,.move (.tmp 0),_,_,_,none⟩ ?_
 refine Take.k 1 ⟨some 5,.fieldAddr 56 (.tmp 3) 0,_,_,_,none⟩ ?_
 refine Take.k 2 ⟨some 6,.load 3 (.tmp 5),_,_,_,none⟩ ?_
 refine Take.k 3 ⟨some 7,.nilCheck (.tmp 4),_,_,_,none⟩ ?_
 refine Take.k 4 ⟨some 8,.fieldAddr 104 (.tmp 7) 1,_,_,_,none⟩ ?_
 refine Take.k 5 ⟨some 9,.indexAddr 102 (.tmp 8) (.tmp 6),_,_,_,none⟩ ?_
 refine Take.k 6 ⟨some 10,.load 101 (.tmp 9),_,_,_,none⟩ ?_
 refine Take.k 7 ⟨some 11,.load 56 (.tmp 3),_,_,_,none⟩ ?_ (hy:=Or.inl ⟨by rfl,by(intro w hSw;(try dsimp only at hSw);refine run_load_op (.tmp 3) ?_ ?_ hSw.2.2.cells<;>rfl)⟩)
 refine wpAnyH_ready (rs:= [8]) (by kernel_rfl) (by simp) ?_
 refine AllReadyH.cons (o:=⟨some 12,.call ⟨.value (.tmp 10), #[.tmp 11], #[56]⟩,_,_,_,none⟩) rfl (fun K hK=> ?_) AllReadyH.nil
 go_simp
 (go_at_call 101;refine HC.out.mono ?_;rintro e x1 ⟨rfl,v',h1,h2⟩;have HH:=hid h1;have GG:=hid h2;have hS1:=KEEP.out v' x1 h1 h2;clear h1 h2)
 go_wp2_with fail
 refine hK.out _ _ ?_ (fun hHeld=> ?_)
 ·exact hS1
 clear hK K
 try simp only[Act.put,Take.a,Take.b,Take.c]
 refine wpAnyH_done (by kernel_rfl) ?_ _
 go_wp2_with fail
 go_end0
 exact⟨rfl,_,HH.out,(Grow.of L2.out).trans GG.out⟩
theorem lay_set {w:World} {b:Nat} {v:Value} {L N:List Inst} {t:ByteArray} {A:Option Addr} {n c:Nat} {m tp:Int} {p:Piece} (h:Lay w b v L) (hp:PAt (fun k=>k<b) w ⟨4,t,A,n,c,m,tp⟩ p) (hC: ∀w,Does 102 b v L ⟨4,t,A,n,c,m,tp⟩ p N w):Calls Tryz.prog 77 #[.pointer (some ⟨b,0,none⟩),.agg (rawA ⟨4,t,A,n,c,m,tp⟩)] w (Laid b v w N):=by
 have H:=hid h
 have HP:=hid hp
 have HX:=hid hC
 clear h hp hC
 go_enter Tryz.func77,Tryz.ntmps77
 go_wp2_with (first
  |(refine box_arg (r:=⟨4,t,A,n,c,m,tp⟩) rfl (.tmp 1) rfl rfl ?_;intro w1 b1 e1 p1 l1 z1;have P1:=hid p1;have L1:=hid l1;have E1:=hid e1;clear e1 p1 l1 z1))
 have L2:=hid (on L1.out (below_draws w1 1))
 have H2:=hid (H.out.below L2.out)
 have HC:=hid (HX.out (w1.drewN 1) H2.out (below_piece L2.out H.out.box.lt HP.out))
 have S0:Hid ((w1.drewN 1).cell? ⟨b1,0,none⟩=some (.int .i64 4)∧(w1.drewN 1).cell? ⟨b,5,none⟩=some (way 102 b)∧PBox (w1.drewN 1) b1 ⟨4,t,A,n,c,m,tp⟩):=⟨P1.out.c0,cell_of_row _ b 5 _ _ _ H2.out.box,P1.out⟩
 have KEEP:Hid (∀v' x1,Lay x1 b v' N→Grow b v v' (w1.drewN 1) x1→x1.cell? ⟨b1,0,none⟩=some (.int .i64 4)∧x1.cell? ⟨b,5,none⟩=some (way 102 b)∧PBox x1 b1 ⟨4,t,A,n,c,m,tp⟩):=fun v' x1 h1 h2=>by
  have hb:PBox x1 b1 ⟨4,t,A,n,c,m,tp⟩:=(h2.block b1 P1.out.lt (by have:=E1.out;have:=H.out.box.lt;omega) (fun q=>by have:=(H.out.own_gt b1 q).2;have:=E1.out;omega)).trans P1.out
  exact⟨hb.c0,cell_of_row _ b 5 _ _ _ h1.box,hb⟩
 refine wp_region_held_drew (S:=fun w'=>w'.cell? ⟨b1,0,none⟩=some (.int .i64 4)∧w'.cell? ⟨b,5,none⟩=some (way 102 b)∧PBox w' b1 ⟨4,t,A,n,c,m,tp⟩) (by kernel_rfl) S0.out (fun hHeld=> ?_)
 refine Take.k 0 ⟨some 4,.move (.tmp 0),_,_,_,none⟩ ?_
 refine Take.k 1 ⟨some 5,.fieldAddr 56 (.tmp 3) 0,_,_,_,none⟩ ?_
 refine Take.k 2 ⟨some 6,.load 3 (.tmp 5),_,_,_,none⟩ ?_
 refine Take.k 3 ⟨some 7,.nilCheck (.tmp 4),_,_,_,none⟩ ?_
 refine Take.k 4 ⟨some 8,.fieldAddr 104 (.tmp 7) 1,_,_,_,none⟩ ?_
 refine Take.k 5 ⟨some 9,.indexAddr 102 (.tmp 8) (.tmp 6),_,_,_,none⟩ ?_
 refine Take.k 6 ⟨some 10,.load 101 (.tmp 9),_,_,_,none⟩ ?_
 refine Take.k 7 ⟨some 11,.load 56 (.tmp 3),_,_,_,none⟩ ?_ (hy:=Or.inl ⟨by rfl,by(intro w hSw;(try dsimp only at hSw);refine run_load_op (.tmp 3) ?_ ?_ hSw.2.2.cells<;>rfl)⟩)
 refine wpAnyH_ready (rs:= [8]) (by kernel_rfl) (by simp) ?_
 refine AllReadyH.cons (o:=⟨some 12,.call ⟨.value (.tmp 10), #[.tmp 11], #[56]⟩,_,_,_,none⟩) rfl (fun K hK=> ?_) AllReadyH.nil
 go_simp
 (go_at_call 102;refine HC.out.mono ?_;rintro e x1 ⟨rfl,v',h1,h2⟩;have HH:=hid h1;have GG:=hid h2;have hS1:=KEEP.out v' x1 h1 h2;clear h1 h2)
 go_wp2_with fail
 refine hK.out _ _ ?_ (fun hHeld=> ?_)
 ·exact hS1
 clear hK K
 try simp only[Act.put,Take.a,Take.b,Take.c]
 refine wpAnyH_done (by kernel_rfl) ?_ _
 go_wp2_with fail
 go_end0
 exact⟨rfl,_,HH.out,(Grow.of L2.out).trans GG.out⟩
theorem lay_begin {w:World} {b:Nat} {v:Value} {L N:List Inst} {t:ByteArray} {A:Option Addr} {n c:Nat} {m tp:Int} {p:Piece} (h:Lay w b v L) (hp:PAt (fun k=>k<b) w ⟨5,t,A,n,c,m,tp⟩ p) (hC: ∀w,Does 103 b v L ⟨5,t,A,n,c,m,tp⟩ p N w):Calls Tryz.prog 77 #[.pointer (some ⟨b,0,none⟩),.agg (rawA ⟨5,t,A,n,c,m,tp⟩)] w (Laid b v w N):=by
 have H:=hid h
 have HP:=hid hp
 have HX:=hid hC
 clear h hp hC
 go_enter Tryz.func77,Tryz.ntmps77
 go_wp2_with (first
  |(refine box_arg (r:=⟨5,t,A,n,c,m,tp⟩) rfl (.tmp 1) rfl rfl ?_;intro w1 b1 e1 p1 l1 z1;have P1:=hid p1;have L1:=hid l1;have E1:=hid e1;clear e1 p1 l1 z1))
 have L2:=hid (on L1.out (below_draws w1 1))
 have H2:=hid (H.out.below L2.out)
 have HC:=hid (HX.out (w1.drewN 1) H2.out (below_piece L2.out H.out.box.lt HP.out))
 have S0:Hid ((w1.drewN 1).cell? ⟨b1,0,none⟩=some (.int .i64 5)∧(w1.drewN 1).cell? ⟨b,6,none⟩=some (way 103 b)∧PBox (w1.drewN 1) b1 ⟨5,t,A,n,c,m,tp⟩):=⟨P1.out.c0,cell_of_row _ b 6 _ _ _ H2.out.box,P1.out⟩
 have KEEP:Hid (∀v' x1,Lay x1 b v' N→Grow b v v' (w1.drewN 1) x1→x1.cell? ⟨b1,0,none⟩=some (.int .i64 5)∧x1.cell? ⟨b,6,none⟩=some (way 103 b)∧PBox x1 b1 ⟨5,t,A,n,c,m,tp⟩):=fun v' x1 h1 h2=>by
  have hb:PBox x1 b1 ⟨5,t,A,n,c,m,tp⟩:=(h2.block b1 P1.out.lt (by have:=E1.out;have:=H.out.box.lt;omega) (fun q=>by have:=(H.out.own_gt b1 q).2;have:=E1.out;omega)).trans P1.out
  exact⟨hb.c0,cell_of_row _ b 6 _ _ _ h1.box,hb⟩
 refine wp_region_held_drew (S:=fun w'=>w'.cell? ⟨b1,0,none⟩=some (.int .i64 5)∧w'.cell? ⟨b,6,none⟩=some (way 103 b)∧PBox w' b1 ⟨5,t,A,n,c,m,tp⟩) (by kernel_rfl) S0.out (fun hHeld=> ?_)
 refine Take.k 0 ⟨some 4,.move (.tmp 0),_,_,_,none⟩ ?_
 refine Take.k 1 ⟨some 5,.fieldAddr 56 (.tmp 3) 0,_,_,_,none⟩ ?_
 refine Take.k 2 ⟨some 6,.load 3 (.tmp 5),_,_,_,none⟩ ?_
 refine Take.k 3 ⟨some 7,.nilCheck (.tmp 4),_,_,_,none⟩ ?_
 refine Take.k 4 ⟨some 8,.fieldAddr 104 (.tmp 7) 1,_,_,_,none⟩ ?_
 refine Take.k 5 ⟨some 9,.indexAddr 102 (.tmp 8) (.tmp 6),_,_,_,none⟩ ?_
 refine Take.k 6 ⟨some 10,.load 101 (.tmp 9),_,_,_,none⟩ ?_
 refine Take.k 7 ⟨some 11,.load 56 (.tmp 3),_,_,_,none⟩ ?_ (hy:=Or.inl ⟨by rfl,by(intro w hSw;(try dsimp only at hSw);refine run_load_op (.tmp 3) ?_ ?_ hSw.2.2.cells<;>rfl)⟩)
 refine wpAnyH_ready (rs:= [8]) (by kernel_rfl) (by simp) ?_
 refine AllReadyH.cons (o:=⟨some 12,.call ⟨.value (.tmp 10), #[.tmp 11], #[56]⟩,_,_,_,none⟩) rfl (fun K hK=> ?_) AllReadyH.nil
 go_simp
 (go_at_call 103;refine HC.out.mono ?_;rintro e x1 ⟨rfl,v',h1,h2⟩;have HH:=hid h1;have GG:=hid h2;have hS1:=KEEP.out v' x1 h1 h2;clear h1 h2)
 go_wp2_with fail
 refine hK.out _ _ ?_ (fun hHeld=> ?_)
 ·exact hS1
 clear hK K
 try simp only[Act.put,Take.a,Take.b,Take.c]
 refine wpAnyH_done (by kernel_rfl) ?_ _
 go_wp2_with fail
 go_end0
 exact⟨rfl,_,HH.out,(Grow.of L2.out).trans GG.out⟩
theorem lay_end {w:World} {b:Nat} {v:Value} {L N:List Inst} {t:ByteArray} {A:Option Addr} {n c:Nat} {m tp:Int} {p:Piece} (h:Lay w b v L) (hp:PAt (fun k=>k<b) w ⟨6,t,A,n,c,m,tp⟩ p) (hC: ∀w,Does 104 b v L ⟨6,t,A,n,c,m,tp⟩ p N w):Calls Tryz.prog 77 #[.pointer (some ⟨b,0,none⟩),.agg (rawA ⟨6,t,A,n,c,m,tp⟩)] w (Laid b v w N):=by
 have H:=hid h
 have HP:=hid hp
 have HX:=hid hC
 clear h hp hC
 go_enter Tryz.func77,Tryz.ntmps77
 go_wp2_with (first
  |(refine box_arg (r:=⟨6,t,A,n,c,m,tp⟩) rfl (.tmp 1) rfl rfl ?_;intro w1 b1 e1 p1 l1 z1;have P1:=hid p1;have L1:=hid l1;have E1:=hid e1;clear e1 p1 l1 z1))
 have L2:=hid (on L1.out (below_draws w1 1))
 have H2:=hid (H.out.below L2.out)
 have HC:=hid (HX.out (w1.drewN 1) H2.out (below_piece L2.out H.out.box.lt HP.out))
 have S0:Hid ((w1.drewN 1).cell? ⟨b1,0,none⟩=some (.int .i64 6)∧(w1.drewN 1).cell? ⟨b,7,none⟩=some (way 104 b)∧PBox (w1.drewN 1) b1 ⟨6,t,A,n,c,m,tp⟩):=⟨P1.out.c0,cell_of_row _ b 7 _ _ _ H2.out.box,P1.out⟩
 have KEEP:Hid (∀v' x1,Lay x1 b v' N→Grow b v v' (w1.drewN 1) x1→x1.cell? ⟨b1,0,none⟩=some (.int .i64 6)∧x1.cell? ⟨b,7,none⟩=some (way 104 b)∧PBox x1 b1 ⟨6,t,A,n,c,m,tp⟩):=fun v' x1 h1 h2=>by
  have hb:PBox x1 b1 ⟨6,t,A,n,c,m,tp⟩:=(h2.block b1 P1.out.lt (by have:=E1.out;have:=H.out.box.lt;omega) (fun q=>by have:=(H.out.own_gt b1 q).2;have:=E1.out;omega)).trans P1.out
  exact⟨hb.c0,cell_of_row _ b 7 _ _ _ h1.box,hb⟩
 refine wp_region_held_drew (S:=fun w'=>w'.cell? ⟨b1,0,none⟩=some (.int .i64 6)∧w'.cell? ⟨b,7,none⟩=some (way 104 b)∧PBox w' b1 ⟨6,t,A,n,c,m,tp⟩) (by kernel_rfl) S0.out (fun hHeld=> ?_)
 refine Take.k 0 ⟨some 4,.move (.tmp 0),_,_,_,none⟩ ?_
 refine Take.k 1 ⟨some 5,.fieldAddr 56 (.tmp 3) 0,_,_,_,none⟩ ?_
 refine Take.k 2 ⟨some 6,.load 3 (.tmp 5),_,_,_,none⟩ ?_
 refine Take.k 3 ⟨some 7,.nilCheck (.tmp 4),_,_,_,none⟩ ?_
 refine Take.k 4 ⟨some 8,.fieldAddr 104 (.tmp 7) 1,_,_,_,none⟩ ?_
 refine Take.k 5 ⟨some 9,.indexAddr 102 (.tmp 8) (.tmp 6),_,_,_,none⟩ ?_
 refine Take.k 6 ⟨some 10,.load 101 (.tmp 9),_,_,_,none⟩ ?_
 refine Take.k 7 ⟨some 11,.load 56 (.tmp 3),_,_,_,none⟩ ?_ (hy:=Or.inl ⟨by rfl,by(intro w hSw;(try dsimp only at hSw);refine run_load_op (.tmp 3) ?_ ?_ hSw.2.2.cells<;>rfl)⟩)
 refine wpAnyH_ready (rs:= [8]) (by kernel_rfl) (by simp) ?_
 refine AllReadyH.cons (o:=⟨some 12,.call ⟨.value (.tmp 10), #[.tmp 11], #[56]⟩,_,_,_,none⟩) rfl (fun K hK=> ?_) AllReadyH.nil
 go_simp
 (go_at_call 104;refine HC.out.mono ?_;rintro e x1 ⟨rfl,v',h1,h2⟩;have HH:=hid h1;have GG:=hid h2;have hS1:=KEEP.out v' x1 h1 h2;clear h1 h2)
 go_wp2_with fail
 refine hK.out _ _ ?_ (fun hHeld=> ?_)
 ·exact hS1
 clear hK K
 try simp only[Act.put,Take.a,Take.b,Take.c]
 refine wpAnyH_done (by kernel_rfl) ?_ _
 go_wp2_with fail
 go_end0
 exact⟨rfl,_,HH.out,(Grow.of L2.out).trans GG.out⟩
theorem lay_seq {w:World} {b:Nat} {v:Value} {L N:List Inst} {t:ByteArray} {A:Option Addr} {n c:Nat} {m tp:Int} {p:Piece} (h:Lay w b v L) (hp:PAt (fun k=>k<b) w ⟨7,t,A,n,c,m,tp⟩ p) (hC: ∀w,Does 105 b v L ⟨7,t,A,n,c,m,tp⟩ p N w):Calls Tryz.prog 77 #[.pointer (some ⟨b,0,none⟩),.agg (rawA ⟨7,t,A,n,c,m,tp⟩)] w (Laid b v w N):=by
 have H:=hid h
 have HP:=hid hp
 have HX:=hid hC
 clear h hp hC
 go_enter Tryz.func77,Tryz.ntmps77
 go_wp2_with (first
  |(refine box_arg (r:=⟨7,t,A,n,c,m,tp⟩) rfl (.tmp 1) rfl rfl ?_;intro w1 b1 e1 p1 l1 z1;have P1:=hid p1;have L1:=hid l1;have E1:=hid e1;clear e1 p1 l1 z1))
 have L2:=hid (on L1.out (below_draws w1 1))
 have H2:=hid (H.out.below L2.out)
 have HC:=hid (HX.out (w1.drewN 1) H2.out (below_piece L2.out H.out.box.lt HP.out))
 have S0:Hid ((w1.drewN 1).cell? ⟨b1,0,none⟩=some (.int .i64 7)∧(w1.drewN 1).cell? ⟨b,8,none⟩=some (way 105 b)∧PBox (w1.drewN 1) b1 ⟨7,t,A,n,c,m,tp⟩):=⟨P1.out.c0,cell_of_row _ b 8 _ _ _ H2.out.box,P1.out⟩
 have KEEP:Hid (∀v' x1,Lay x1 b v' N→Grow b v v' (w1.drewN 1) x1→x1.cell? ⟨b1,0,none⟩=some (.int .i64 7)∧x1.cell? ⟨b,8,none⟩=some (way 105 b)∧PBox x1 b1 ⟨7,t,A,n,c,m,tp⟩):=fun v' x1 h1 h2=>by
  have hb:PBox x1 b1 ⟨7,t,A,n,c,m,tp⟩:=(h2.block b1 P1.out.lt (by have:=E1.out;have:=H.out.box.lt;omega) (fun q=>by have:=(H.out.own_gt b1 q).2;have:=E1.out;omega)).trans P1.out
  exact⟨hb.c0,cell_of_row _ b 8 _ _ _ h1.box,hb⟩
 refine wp_region_held_drew (S:=fun w'=>w'.cell? ⟨b1,0,none⟩=some (.int .i64 7)∧w'.cell? ⟨b,8,none⟩=some (way 105 b)∧PBox w' b1 ⟨7,t,A,n,c,m,tp⟩) (by kernel_rfl) S0.out (fun hHeld=> ?_)
 refine Take.k 0 ⟨some 4,.move (.tmp 0),_,_,_,none⟩ ?_
 refine Take.k 1 ⟨some 5,.fieldAddr 56 (.tmp 3) 0,_,_,_,none⟩ ?_
 refine Take.k 2 ⟨some 6,.load 3 (.tmp 5),_,_,_,none⟩ ?_
 refine Take.k 3 ⟨some 7,.nilCheck (.tmp 4),_,_,_,none⟩ ?_
 refine Take.k 4 ⟨some 8,.fieldAddr 104 (.tmp 7) 1,_,_,_,none⟩ ?_
 refine Take.k 5 ⟨some 9,.indexAddr 102 (.tmp 8) (.tmp 6),_,_,_,none⟩ ?_
 refine Take.k 6 ⟨some 10,.load 101 (.tmp 9),_,_,_,none⟩ ?_
 refine Take.k 7 ⟨some 11,.load 56 (.tmp 3),_,_,_,none⟩ ?_ (hy:=Or.inl ⟨by rfl,by(intro w hSw;(try dsimp only at hSw);refine run_load_op (.tmp 3) ?_ ?_ hSw.2.2.cells<;>rfl)⟩)
 refine wpAnyH_ready (rs:= [8]) (by kernel_rfl) (by simp) ?_
 refine AllReadyH.cons (o:=⟨some 12,.call ⟨.value (.tmp 10), #[.tmp 11], #[56]⟩,_,_,_,none⟩) rfl (fun K hK=> ?_) AllReadyH.nil
 go_simp
 (go_at_call 105;refine HC.out.mono ?_;rintro e x1 ⟨rfl,v',h1,h2⟩;have HH:=hid h1;have GG:=hid h2;have hS1:=KEEP.out v' x1 h1 h2;clear h1 h2)
 go_wp2_with fail
 refine hK.out _ _ ?_ (fun hHeld=> ?_)
 ·exact hS1
 clear hK K
 try simp only[Act.put,Take.a,Take.b,Take.c]
 refine wpAnyH_done (by kernel_rfl) ?_ _
 go_wp2_with fail
 go_end0
 exact⟨rfl,_,HH.out,(Grow.of L2.out).trans GG.out⟩
theorem lay_alt {w:World} {b:Nat} {v:Value} {L N:List Inst} {t:ByteArray} {A:Option Addr} {n c:Nat} {m tp:Int} {p:Piece} (h:Lay w b v L) (hp:PAt (fun k=>k<b) w ⟨8,t,A,n,c,m,tp⟩ p) (hC: ∀w,Does 106 b v L ⟨8,t,A,n,c,m,tp⟩ p N w):Calls Tryz.prog 77 #[.pointer (some ⟨b,0,none⟩),.agg (rawA ⟨8,t,A,n,c,m,tp⟩)] w (Laid b v w N):=by
 have H:=hid h
 have HP:=hid hp
 have HX:=hid hC
 clear h hp hC
 go_enter Tryz.func77,Tryz.ntmps77
 go_wp2_with (first
  |(refine box_arg (r:=⟨8,t,A,n,c,m,tp⟩) rfl (.tmp 1) rfl rfl ?_;intro w1 b1 e1 p1 l1 z1;have P1:=hid p1;have L1:=hid l1;have E1:=hid e1;clear e1 p1 l1 z1))
 have L2:=hid (on L1.out (below_draws w1 1))
 have H2:=hid (H.out.below L2.out)
 have HC:=hid (HX.out (w1.drewN 1) H2.out (below_piece L2.out H.out.box.lt HP.out))
 have S0:Hid ((w1.drewN 1).cell? ⟨b1,0,none⟩=some (.int .i64 8)∧(w1.drewN 1).cell? ⟨b,9,none⟩=some (way 106 b)∧PBox (w1.drewN 1) b1 ⟨8,t,A,n,c,m,tp⟩):=⟨P1.out.c0,cell_of_row _ b 9 _ _ _ H2.out.box,P1.out⟩
 have KEEP:Hid (∀v' x1,Lay x1 b v' N→Grow b v v' (w1.drewN 1) x1→x1.cell? ⟨b1,0,none⟩=some (.int .i64 8)∧x1.cell? ⟨b,9,none⟩=some (way 106 b)∧PBox x1 b1 ⟨8,t,A,n,c,m,tp⟩):=fun v' x1 h1 h2=>by
  have hb:PBox x1 b1 ⟨8,t,A,n,c,m,tp⟩:=(h2.block b1 P1.out.lt (by have:=E1.out;have:=H.out.box.lt;omega) (fun q=>by have:=(H.out.own_gt b1 q).2;have:=E1.out;omega)).trans P1.out
  exact⟨hb.c0,cell_of_row _ b 9 _ _ _ h1.box,hb⟩
 refine wp_region_held_drew (S:=fun w'=>w'.cell? ⟨b1,0,none⟩=some (.int .i64 8)∧w'.cell? ⟨b,9,none⟩=some (way 106 b)∧PBox w' b1 ⟨8,t,A,n,c,m,tp⟩) (by kernel_rfl) S0.out (fun hHeld=> ?_)
 refine Take.k 0 ⟨some 4,.move (.tmp 0),_,_,_,none⟩ ?_
 refine Take.k 1 ⟨some 5,.fieldAddr 56 (.tmp 3) 0,_,_,_,none⟩ ?_
 refine Take.k 2 ⟨some 6,.load 3 (.tmp 5),_,_,_,none⟩ ?_
 refine Take.k 3 ⟨some 7,.nilCheck (.tmp 4),_,_,_,none⟩ ?_
 refine Take.k 4 ⟨some 8,.fieldAddr 104 (.tmp 7) 1,_,_,_,none⟩ ?_
 refine Take.k 5 ⟨some 9,.indexAddr 102 (.tmp 8) (.tmp 6),_,_,_,none⟩ ?_
 refine Take.k 6 ⟨some 10,.load 101 (.tmp 9),_,_,_,none⟩ ?_
 refine Take.k 7 ⟨some 11,.load 56 (.tmp 3),_,_,_,none⟩ ?_ (hy:=Or.inl ⟨by rfl,by(intro w hSw;(try dsimp only at hSw);refine run_load_op (.tmp 3) ?_ ?_ hSw.2.2.cells<;>rfl)⟩)
 refine wpAnyH_ready (rs:= [8]) (by kernel_rfl) (by simp) ?_
 refine AllReadyH.cons (o:=⟨some 12,.call ⟨.value (.tmp 10), #[.tmp 11], #[56]⟩,_,_,_,none⟩) rfl (fun K hK=> ?_) AllReadyH.nil
 go_simp
 (go_at_call 106;refine HC.out.mono ?_;rintro e x1 ⟨rfl,v',h1,h2⟩;have HH:=hid h1;have GG:=hid h2;have hS1:=KEEP.out v' x1 h1 h2;clear h1 h2)
 go_wp2_with fail
 refine hK.out _ _ ?_ (fun hHeld=> ?_)
 ·exact hS1
 clear hK K
 try simp only[Act.put,Take.a,Take.b,Take.c]
 refine wpAnyH_done (by kernel_rfl) ?_ _
 go_wp2_with fail
 go_end0
 exact⟨rfl,_,HH.out,(Grow.of L2.out).trans GG.out⟩
theorem lay_repeat {w:World} {b:Nat} {v:Value} {L N:List Inst} {t:ByteArray} {A:Option Addr} {n c:Nat} {m tp:Int} {p:Piece} (h:Lay w b v L) (hp:PAt (fun k=>k<b) w ⟨9,t,A,n,c,m,tp⟩ p) (hC: ∀w,Does 107 b v L ⟨9,t,A,n,c,m,tp⟩ p N w):Calls Tryz.prog 77 #[.pointer (some ⟨b,0,none⟩),.agg (rawA ⟨9,t,A,n,c,m,tp⟩)] w (Laid b v w N):=by
 have H:=hid h
 have HP:=hid hp
 have HX:=hid hC
 clear h hp hC
 go_enter Tryz.func77,Tryz.ntmps77
 go_wp2_with (first
  |(refine box_arg (r:=⟨9,t,A,n,c,m,tp⟩) rfl (.tmp 1) rfl rfl ?_;intro w1 b1 e1 p1 l1 z1;have P1:=hid p1;have L1:=hid l1;have E1:=hid e1;clear e1 p1 l1 z1))
 have L2:=hid (on L1.out (below_draws w1 1))
 have H2:=hid (H.out.below L2.out)
 have HC:=hid (HX.out (w1.drewN 1) H2.out (below_piece L2.out H.out.box.lt HP.out))
 have S0:Hid ((w1.drewN 1).cell? ⟨b1,0,none⟩=some (.int .i64 9)∧(w1.drewN 1).cell? ⟨b,10,none⟩=some (way 107 b)∧PBox (w1.drewN 1) b1 ⟨9,t,A,n,c,m,tp⟩):=⟨P1.out.c0,cell_of_row _ b 10 _ _ _ H2.out.box,P1.out⟩
 have KEEP:Hid (∀v' x1,Lay x1 b v' N→Grow b v v' (w1.drewN 1) x1→x1.cell? ⟨b1,0,none⟩=some (.int .i64 9)∧x1.cell? ⟨b,10,none⟩=some (way 107 b)∧PBox x1 b1 ⟨9,t,A,n,c,m,tp⟩):=fun v' x1 h1 h2=>by
  have hb:PBox x1 b1 ⟨9,t,A,n,c,m,tp⟩:=(h2.block b1 P1.out.lt (by have:=E1.out;have:=H.out.box.lt;omega) (fun q=>by have:=(H.out.own_gt b1 q).2;have:=E1.out;omega)).trans P1.out
  exact⟨hb.c0,cell_of_row _ b 10 _ _ _ h1.box,hb⟩
 refine wp_region_held_drew (S:=fun w'=>w'.cell? ⟨b1,0,none⟩=some (.int .i64 9)∧w'.cell? ⟨b,10,none⟩=some (way 107 b)∧PBox w' b1 ⟨9,t,A,n,c,m,tp⟩) (by kernel_rfl) S0.out (fun hHeld=> ?_)
 refine Take.k 0 ⟨some 4,.move (.tmp 0),_,_,_,none⟩ ?_
 refine Take.k 1 ⟨some 5,.fieldAddr 56 (.tmp 3) 0,_,_,_,none⟩ ?_
 refine Take.k 2 ⟨some 6,.load 3 (.tmp 5),_,_,_,none⟩ ?_
 refine Take.k 3 ⟨some 7,.nilCheck (.tmp 4),_,_,_,none⟩ ?_
 refine Take.k 4 ⟨some 8,.fieldAddr 104 (.tmp 7) 1,_,_,_,none⟩ ?_
 refine Take.k 5 ⟨some 9,.indexAddr 102 (.tmp 8) (.tmp 6),_,_,_,none⟩ ?_
 refine Take.k 6 ⟨some 10,.load 101 (.tmp 9),_,_,_,none⟩ ?_
 refine Take.k 7 ⟨some 11,.load 56 (.tmp 3),_,_,_,none⟩ ?_ (hy:=Or.inl ⟨by rfl,by(intro w hSw;(try dsimp only at hSw);refine run_load_op (.tmp 3) ?_ ?_ hSw.2.2.cells<;>rfl)⟩)
 refine wpAnyH_ready (rs:= [8]) (by kernel_rfl) (by simp) ?_
 refine AllReadyH.cons (o:=⟨some 12,.call ⟨.value (.tmp 10), #[.tmp 11], #[56]⟩,_,_,_,none⟩) rfl (fun K hK=> ?_) AllReadyH.nil
 go_simp
 (go_at_call 107;refine HC.out.mono ?_;rintro e x1 ⟨rfl,v',h1,h2⟩;have HH:=hid h1;have GG:=hid h2;have hS1:=KEEP.out v' x1 h1 h2;clear h1 h2)
 go_wp2_with fail
 refine hK.out _ _ ?_ (fun hHeld=> ?_)
 ·exact hS1
 clear hK K
 try simp only[Act.put,Take.a,Take.b,Take.c]
 refine wpAnyH_done (by kernel_rfl) ?_ _
 go_wp2_with fail
 go_end0
 exact⟨rfl,_,HH.out,(Grow.of L2.out).trans GG.out⟩
end W15
end Go.Proofs.YtfgegjinhkgpbaaGreatDoor
