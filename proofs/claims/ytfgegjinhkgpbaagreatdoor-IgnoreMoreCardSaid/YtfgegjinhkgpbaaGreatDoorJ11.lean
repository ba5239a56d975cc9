/-
  Texts joined, in build order, each with its own comment and its own conditions: W16Clear, W16Iter.
-/
import Derived.Test.YtfgegjinhkgpbaaGreatDoorJ10
namespace Go.Proofs.YtfgegjinhkgpbaaGreatDoor
set_option maxHeartbeats 4000000
set_option maxRecDepth 100000
open Go.RowKit
open Lib (hid)
namespace W16
open Strs Recs Range
open M16 (Text steps)
open W14 (below_new own_same own_form cell_block)
open Kit (below_draws on)
theorem RowF.cut {base:Nat} {w:World} {r g n:Nat} {A:Option Addr} {k c:Nat} {M:List M16.Mark} {f:Nat→Bool} (h:RowF base w r (.slice A k c) g n M f):RowF base (w.setCell ⟨r,0,none⟩ (.slice A 0 c)) r (.slice A 0 c) g n [] f∧Grew r g (.slice A k c) (.slice A 0 c) w (w.setCell ⟨r,0,none⟩ (.slice A 0 c)):=by
 have hob: ∀i,(Value.slice A 0 c).ownBlock=some i→(Value.slice A k c).ownBlock=some i:=fun i hi=>by cases A<;>exact hi
 refine⟨⟨h.low,h.lowg,?_,?_,(heap_setCell_other w _ g _ (fun e=>h.rg e.symm)).trans h.bits⟩,⟨Turns.setCell _ (Or.inl rfl),fun i hi=>Or.inl (hob i hi)⟩⟩
 ·rw[heap_setCell_same w r 0 _ _ _ h.box];rfl
 ·refine⟨rfl,?_⟩
  rcases h.own.2 with⟨e,h0⟩|⟨g1,cap,cur,e,hb,hh,hc,hm,hs,ht⟩
  ·injection e with e1 e2 e3
   subst e1 e2 e3
   exact Or.inl ⟨rfl,rfl⟩
  ·injection e with e1 e2 e3
   subst e1 e2 e3
   refine Or.inr ⟨g1,c,cur,rfl,hb,(heap_setCell_other w _ g1 _ fun e=> ?_).trans hh,Nat.zero_le _,hm,hs,by simp⟩
   have e2:g1=r:=e
   rw[e2,h.box]at hh
   injection hh with hh
   injection hh with _ hh
   exact absurd hh (by decide)
theorem mark_cells {w:World} {base gm n c:Nat} {M:List M16.Mark} (h:w.ownsRow base 132 2 (.slice (some ⟨gm,0,none⟩) n c) M.length (M.flatMap markC)) (hn:M.length=n) {i:Nat} (hi:i<M.length): ∀j,j<2→w.cell? ⟨gm,i*2+j,none⟩=(markC M[i])[j]? :=fun j hj=>by
 rw[hn]at h
 rw[h.cellAt _ (by omega),flat_at markC_len M i hi j hj]
section
variable {ops:Array Oper} {rest:List Oper} {o:Oper} {a:Act} {w:World} {Q:Exit→Act→World→Prop}
theorem alloc_mark (hgd:o.guard=none) (ho:o.op= .alloc 132)
    (h: ∀w' b,w.heap.size=b→MBox w' b (0,0)→Below w.heap.size w w'→w'.heap.size=w.heap.size+1→wpList Tryz.prog ops Q rest (a.put o.dst (.pointer (some ⟨b,0,none⟩))) w'):wpList Tryz.prog ops Q (o::rest) a w:=
 wpList_plain hgd fun _ hK=>by
  obtain⟨i,hi,h1,-,-⟩:=info_parts mark_info
  have hz:(zeroValue 132).run Tryz.prog w= .ok (.agg (markA (0,0))) w:=by simp[zeroValue,typeInfo,hi,h1];rfl
  unfold Oper.wp execOp
  simp only[ho,Instr.alloc,newVar,newRow,hz,Sem.run_bind,Sem.run_pure,Result.andThen_ok]
  exact hK _ _ (h _ _ rfl (heap_alloc_new w _) (below_new w _) (World.size_alloc w _))
theorem store_mark (hgd:o.guard=none) (x y:Operand) (ho:o.op= .store 132 x y) {b:Nat} {r old:M16.Mark} (hx:a.eval x= .pointer (some ⟨b,0,none⟩)) (hy:a.eval y= .agg (markA r)) (hr:MBox w b old)
    (h: ∀w',MBox w' b r→Row256.Beside b w w'→w'.heap.size=w.heap.size→wpList Tryz.prog ops Q rest (a.put o.dst undef) w'):wpList Tryz.prog ops Q (o::rest) a w:=
 wpList_store_row hgd 132 x y ho b (markA r) hx hy 132 (markA old) hr (mark_size r) rfl (by simp[markA,Value.oneCell'])
  (h _ (setRow_heap w b _ _ _ _ hr) ⟨rfl,rfl,rfl,by rw[setRow_size];exact Nat.le_refl _,fun k _ e=>setRow_other w b k _ e⟩ (setRow_size _ _ _))
theorem load_mark (hgd:o.guard=none) (x:Operand) (ho:o.op= .load 132 x) {b k:Nat} (hx:a.eval x= .pointer (some ⟨b,k,none⟩)) {r:M16.Mark}
    (hr: ∀j,j<2→w.cell? ⟨b,k+j,none⟩=(markC r)[j]?) (h:wpList Tryz.prog ops Q rest (a.put o.dst (.agg (markA r))) w):wpList Tryz.prog ops Q (o::rest) a w:=
 wpList_plain hgd fun _ hK=>by
  unfold Oper.wp
  rw[run_load_mark x ho hx hr]
  exact hK _ _ h
end
set_option maxHeartbeats 8000000 in
theorem clear_any {base:Nat} {w:World} {r g n:Nat} {v:Value} {M:List M16.Mark} (h:RowAt base w r v g n M) (hK:Fit n M) (hn:n≤900000):Calls Tryz.prog 116 #[.pointer (some ⟨r,0,none⟩)] w fun e w'=>e= .returned (.tuple #[])∧ ∃v',RowAt base w' r v' g n []∧Grew r g v v' w w':=by
 have H:=hid h
 have HK:=hid hK
 obtain⟨A,c,rfl,h1,h2⟩:=h.form
 obtain⟨k,hk⟩: ∃k,M.length=k:=⟨_,rfl⟩
 have HKL:=hid hk
 have HL:Hid (k≤n∧n≤900000):=⟨by rw[←hk];exact hK.len,hn⟩
 rw[hk]at H h1 ⊢
 have c0:=H.out.c0
 unfold maxLen at h2
 clear h hK hn hk
 go_enter Tryz.func116,Tryz.ntmps116
 go_wp2_with fail
 clear c0 h1 h2
 go_loopg [9] k (fun gk s9 wr=> ∃i:Nat,s9= .int .i64 i∧Hid (i+gk=k)∧Hid (RowF base wr r (.slice A k c) g n M (fun j=>decide (j∈steps (M.drop i))))∧Hid (Grew r g (.slice A k c) (.slice A k c) w wr))
 case atStart=>exact⟨0,rfl,by unfold Hid;omega,H,Grew.refl _ _ _ _⟩
 case round=>
  obtain⟨i,rfl,hig,R1,G1⟩:=hrel
  cases gk with
  |zero=>
   have hi:i=k:=by have:=hig.out;omega
   subst hi
   have ti: ¬(i:Int)<(i:Int):=by omega
   have r2:RowAt base wr r (.slice A i c) g n M→True:=fun _=>trivial
   have R2:Hid (RowF base wr r (.slice A i c) g n M (fun _=>false)):=R1.out.is fun j _=>by rw[←HKL.out,List.drop_length];simp[steps]
   have c0:=R2.out.c0
   have f0:=R2.out.f0
   clear r2
   go_wp2_with fail
   go_end0
   have h9:=R2.out.cut
   exact⟨rfl,_,h9.1.is fun j _=>by simp[steps],G1.out.trans h9.2⟩
  |succ gk=>
   have hi:i<k:=by have:=hig.out;omega
   have ti:(i:Int)<(k:Int):=by omega
   have hil:i<M.length:=by rw[HKL.out];exact hi
   obtain⟨gm,c',e,-,-,hk1,hk2⟩:=own_form R1.out.own (by omega)
   have eA:A=some ⟨gm,0,none⟩:=by injection e
   subst eA
   obtain⟨⟨j0,b0⟩,hx0⟩: ∃x,M[i]=x:=⟨_,rfl⟩
   have hj0:j0<n:=by have:=HK.out.2 M[i] (List.getElem_mem hil);rw[hx0]at this;exact this
   have hmc:=mark_cells R1.out.own HKL.out hil
   rw[hx0]at hmc
   have HMC:=hid hmc
   have hdrop:M.drop i=(j0,b0)::M.drop (i+1):=by rw[List.drop_eq_getElem_cons hil,hx0]
   have hnd:j0∉steps (M.drop (i+1)):=by
    have h3:(steps (M.drop i)).Nodup:=by
     have:=HK.out.1
     unfold steps at*
     rw[List.map_drop]
     exact this.sublist (List.drop_sublist _ _)
    rw[hdrop]at h3
    exact(List.nodup_cons.1 h3).1
   have HS:Hid (∀j,(if j=j0 then false else decide (j∈steps (M.drop i)))=decide (j∈steps (M.drop (i+1)))):=fun j=>by
    rw[hdrop]
    by_cases q:j=j0
    ·subst q;simp[hnd]
    ·rw[if_neg q]
     exact decide_eq_decide.2 (by simp[steps,q])
   have hjn:(j0:Int)<(n:Int):=by omega
   have hwi:Hid (wrap64 ((i:Int)+1)=((i+1:Nat):Int)):=by unfold Hid wrap64;have:=HL.out;omega
   have HJ0:=hid hj0
   clear e hk1 hk2 hmc hdrop hnd hx0 hil hj0 hi
   go_wp2_with (first
    |(refine load_mark (r:=(j0,b0)) rfl (.tmp 11) rfl rfl HMC.out ?_)
    |(refine alloc_mark rfl rfl ?_;intro w3 b3 e3 p3 l3 z3)
    |(refine store_mark (r:=(j0,b0)) rfl (.tmp 3) (.tmp 12) rfl rfl rfl p3 ?_;intro w4 p4 l4 z4;have L4:=hid (W14.two_new l3 l4 e3);have P4:=hid p4;have a0:=p4.c0;have E3:=hid e3;have R4:=hid (R1.out.below L4.out);have a1:=R4.out.c1;have a2:=R4.out.bits.cell HJ0.out;have a3:=R4.out.bits.free j0;clear e3 p3 l3 z3 p4 l4 z4;simp only at a0))
   generalize decide (j0∈steps (M.drop i))=old at a2
   go_region
   all_goals (
    have r5:=(R4.out.below (below_draws w4 1)).set j0 false
    have G5:=hid ((G1.out.trans (Grew.of (on L4.out (below_draws w4 1)))).trans r5.2)
    have R5:=hid (r5.1.is fun j _=>HS.out j)
    clear r5 a0 a1 a2 a3
    go_wp2_with fail
    go_roundg gk
    case measure=>omega
    case rel=>exact⟨i+1,by first|rfl|exact congrArg (Value.int .i64) hwi.out,by unfold Hid;have:=hig.out;omega,R5,G5⟩)
end W16
namespace W16
open Strs Recs Range
open M15 (Inst rightP)
open M16 (Text steps)
open W15 (Prg)
open W14 (cell_block below_new)
open Kit (below_draws on)
structure Caps (w:World) (b:Nat) (lv:Value) (s:ByteArray) (first last:Nat):Prop where
 c0:w.cell? ⟨b,0,none⟩=some lv
 c1:w.cell? ⟨b+1,0,none⟩=some (.string s)
 c2:w.cell? ⟨b+2,0,none⟩=some (.int .i64 first)
 c3:w.cell? ⟨b+3,0,none⟩=some (.int .i64 last)
theorem Caps.same {w w':World} {b:Nat} {lv:Value} {s:ByteArray} {first last:Nat} (h:Caps w b lv s first last) (hk: ∀k,b≤k→k<b+4→w'.heap[k]? =w.heap[k]?):Caps w' b lv s first last:=
 ⟨(cell_block (hk b (by omega) (by omega))).trans h.c0,(cell_block (hk (b+1) (by omega) (by omega))).trans h.c1,(cell_block (hk (b+2) (by omega) (by omega))).trans h.c2,(cell_block (hk (b+3) (by omega) (by omega))).trans h.c3⟩
theorem Caps.lt {w:World} {b:Nat} {lv:Value} {s:ByteArray} {first last:Nat} (h:Caps w b lv s first last):b+3<w.heap.size:=World.block_lt_of_cell? w _ h.c3
def Four (b k:Nat):Prop:=b≤k∧k<b+4
structure Cfg where
 base:Nat
 b:Nat
 lv:Value
 L:List Inst
 s:ByteArray
 first:Nat
 last:Nat
structure It (C:Cfg) (J:(Nat→Prop)→List M16.Mark→World→Prop) (T0:Nat→Prop) (W:World) (T:Nat→Prop) (pre:List M16.Mark) (w:World) (b6 r1 g1:Nat) (v1:Value) (now:List M16.Mark) (r2 g2:Nat) (v2:Value) (nx:List M16.Mark):Prop where
 j:J T pre w
 all:Turns (fun k=>C.base≤k) W w
 lies:Lies C.base T w
 low:C.base≤w.heap.size
 sub: ∀k,T0 k→T k
 caps:Caps w C.b C.lv C.s C.first C.last
 four: ∀k,Four C.b k→T k
 run:RBox w b6 C.lv C.s
 six:T b6
 row1:RowAt C.base w r1 v1 g1 C.L.length now
 row2:RowAt C.base w r2 v2 g2 C.L.length nx
 in1: ∀k,RF r1 g1 v1 k→T k
 in2: ∀k,RF r2 g2 v2 k→T k
 apart: ∀k,RF r1 g1 v1 k→ ¬RF r2 g2 v2 k
 off1: ∀k,(Four C.b k∨k=b6)→ ¬RF r1 g1 v1 k
 off2: ∀k,(Four C.b k∨k=b6)→ ¬RF r2 g2 v2 k
 prog:Prg C.base w C.lv C.L
section
variable {C:Cfg} {J:(Nat→Prop)→List M16.Mark→World→Prop} {T0 T:Nat→Prop} {W:World} {pre:List M16.Mark} {w w':World} {b6 r1 g1 r2 g2:Nat} {v1 v2 v':Value} {now nx M:List M16.Mark}
theorem It.swap (h:It C J T0 W T pre w b6 r1 g1 v1 now r2 g2 v2 nx):It C J T0 W T pre w b6 r2 g2 v2 nx r1 g1 v1 now:=
 {h with row1:=h.row2,row2:=h.row1,in1:=h.in2,in2:=h.in1,apart:=fun k h1 h2=>h.apart k h2 h1,off1:=h.off2,off2:=h.off1}
theorem It.four_lt (h:It C J T0 W T pre w b6 r1 g1 v1 now r2 g2 v2 nx) {k:Nat} (hk:Four C.b k∨k=b6):k<w.heap.size:=by
 rcases hk with hk|rfl
 ·have:=h.caps.lt;have:=hk.2;omega
 ·exact h.run.lt
theorem It.below (hJ:Steady C.base J) (h:It C J T0 W T pre w b6 r1 g1 v1 now r2 g2 v2 nx) (hb:Below w.heap.size w w'):It C J T0 W (Fresh T w w') pre w' b6 r1 g1 v1 now r2 g2 v2 nx:=
 {j:=hJ _ _ _ _ h.j h.lies h.low (Turns.new hb)
  all:=h.all.trans (Turns.new hb)
  lies:=h.lies.fresh h.low hb.size
  low:=Nat.le_trans h.low hb.size
  sub:=fun k hk=>Or.inl (h.sub k hk)
  caps:=h.caps.same fun k h1 h2=>hb.block k (h.four_lt (Or.inl ⟨h1,h2⟩))
  four:=fun k hk=>Or.inl (h.four k hk)
  run:=h.run.below hb
  six:=Or.inl h.six
  row1:=h.row1.below hb
  row2:=h.row2.below hb
  in1:=fun k hk=>Or.inl (h.in1 k hk)
  in2:=fun k hk=>Or.inl (h.in2 k hk)
  apart:=h.apart
  off1:=h.off1
  off2:=h.off2
  prog:=h.prog.below (hb.mono h.low)}
theorem It.grow2 (hJ:Steady C.base J) (h:It C J T0 W T pre w b6 r1 g1 v1 now r2 g2 v2 nx) (hr:RowAt C.base w' r2 v' g2 C.L.length M) (hg:Grew r2 g2 v2 v' w w'):It C J T0 W (Fresh T w w') pre w' b6 r1 g1 v1 now r2 g2 v' M:=by
 have hold: ∀k,RF r2 g2 v' k→RF r2 g2 v2 k∨(w.heap.size≤k∧k<w'.heap.size):=fun k hk=>by
  rcases hk with hk|hk|hk
  ·exact Or.inl (Or.inl hk)
  ·exact Or.inl (Or.inr (Or.inl hk))
  ·rcases hg.own k hk with q|q
   ·exact Or.inl (Or.inr (Or.inr q))
   ·exact Or.inr ⟨q,(hr.own.lt k hk).2⟩
 have hkeep: ∀k,k<w.heap.size→ ¬RF r2 g2 v2 k→w'.heap[k]? =w.heap[k]? :=fun k hk hn=>hg.keeps hk hn
 exact {
  j:=hJ _ _ _ _ h.j h.lies h.low (hg.turns.wider h.in2)
  all:=h.all.trans (hg.turns.wider fun k hk=>(h.row2.in_ hk).1)
  lies:=h.lies.fresh h.low hg.turns.size
  low:=Nat.le_trans h.low hg.turns.size
  sub:=fun k hk=>Or.inl (h.sub k hk)
  caps:=h.caps.same fun k h1 h2=>hkeep k (h.four_lt (Or.inl ⟨h1,h2⟩)) (h.off2 k (Or.inl ⟨h1,h2⟩))
  four:=fun k hk=>Or.inl (h.four k hk)
  run:=h.run.same (hkeep b6 h.run.lt (h.off2 b6 (Or.inr rfl)))
  six:=Or.inl h.six
  row1:=h.row1.same fun k hk=>hkeep k (h.row1.in_ hk).2 (h.apart k hk)
  row2:=hr
  in1:=fun k hk=>Or.inl (h.in1 k hk)
  in2:=fun k hk=>by
   rcases hold k hk with q|q
   ·exact Or.inl (h.in2 k q)
   ·exact Or.inr q
  apart:=fun k h1 h2=>by
   rcases hold k h2 with q|q
   ·exact h.apart k h1 q
   ·have:=(h.row1.in_ h1).2;omega
  off1:=h.off1
  off2:=fun k hk h2=>by
   rcases hold k h2 with q|q
   ·exact h.off2 k hk q
   ·have:=h.four_lt hk;omega
  prog:=h.prog.below (hg.below h.row2)}
theorem It.grow1 (hJ:Steady C.base J) (h:It C J T0 W T pre w b6 r1 g1 v1 now r2 g2 v2 nx) (hr:RowAt C.base w' r1 v' g1 C.L.length M) (hg:Grew r1 g1 v1 v' w w'):It C J T0 W (Fresh T w w') pre w' b6 r1 g1 v' M r2 g2 v2 nx:=(h.swap.grow2 hJ hr hg).swap
theorem It.round (h:It C J T0 W T pre w b6 r1 g1 v1 now r2 g2 v2 nx) {pre':List M16.Mark} (hj:J T pre' w') (ht:Turns (fun k=>C.base≤k∧ ¬T k) w w'):It C J T0 W T pre' w' b6 r1 g1 v1 now r2 g2 v2 nx:=by
 have hkeep: ∀k,k<w.heap.size→T k→w'.heap[k]? =w.heap[k]? :=fun k hk hT=>ht.block k hk fun q=>q.2 hT
 exact {
  j:=hj
  all:=h.all.trans (ht.wider fun k hk=>hk.1)
  lies:=h.lies.more ht.size
  low:=Nat.le_trans h.low ht.size
  sub:=h.sub
  caps:=h.caps.same fun k h1 h2=>hkeep k (h.four_lt (Or.inl ⟨h1,h2⟩)) (h.four k ⟨h1,h2⟩)
  four:=h.four
  run:=h.run.same (hkeep b6 h.run.lt h.six)
  six:=h.six
  row1:=h.row1.same fun k hk=>hkeep k (h.row1.in_ hk).2 (h.in1 k hk)
  row2:=h.row2.same fun k hk=>hkeep k (h.row2.in_ hk).2 (h.in2 k hk)
  in1:=h.in1
  in2:=h.in2
  apart:=h.apart
  off1:=h.off1
  off2:=h.off2
  prog:=h.prog.below ⟨ht.os,ht.tape,ht.output,ht.size,fun k hk=>ht.block k (by have:=h.low;omega) (fun q=>by omega)⟩}
end
/-! the run's box -/
theorem run_info:(Tryz.prog.info? 124).map (fun i=>(i.zero,i.size,i.bytes))=some (some (.agg #[.slice none 0 0,.string ⟨#[]⟩]),2,40):=by kernel_rfl
theorem run_size (lv:Value) (s:ByteArray):(Tryz.prog.info? 124).map (·.size)=some (#[lv,.string s]:Array Value).size:=by
 obtain⟨i,hi,-,h2,-⟩:=info_parts run_info
 rw[hi];simp[h2]
section
variable {ops:Array Oper} {rest:List Oper} {o:Oper} {a:Act} {w:World} {Q:Exit→Act→World→Prop}
theorem alloc_run (hgd:o.guard=none) (ho:o.op= .alloc 124)
    (h: ∀w' b,w.heap.size=b→RBox w' b (.slice none 0 0) ⟨#[]⟩→Below w.heap.size w w'→w'.heap.size=w.heap.size+1→wpList Tryz.prog ops Q rest (a.put o.dst (.pointer (some ⟨b,0,none⟩))) w'):wpList Tryz.prog ops Q (o::rest) a w:=
 wpList_plain hgd fun _ hK=>by
  obtain⟨i,hi,h1,-,-⟩:=info_parts run_info
  have hz:(zeroValue 124).run Tryz.prog w= .ok (.agg #[.slice none 0 0,.string ⟨#[]⟩]) w:=by simp[zeroValue,typeInfo,hi,h1]
  unfold Oper.wp execOp
  simp only[ho,Instr.alloc,newVar,newRow,hz,Sem.run_bind,Sem.run_pure,Result.andThen_ok]
  exact hK _ _ (h _ _ rfl (heap_alloc_new w _) (below_new w _) (World.size_alloc w _))
theorem store_run (hgd:o.guard=none) (x y:Operand) (ho:o.op= .store 124 x y) {b:Nat} {A:Option Addr} {n c:Nat} {old:Value} {s olds:ByteArray} (hx:a.eval x= .pointer (some ⟨b,0,none⟩)) (hy:a.eval y= .agg #[.slice A n c,.string s]) (hr:RBox w b old olds)
    (h: ∀w',RBox w' b (.slice A n c) s→Row256.Beside b w w'→w'.heap.size=w.heap.size→wpList Tryz.prog ops Q rest (a.put o.dst undef) w'):wpList Tryz.prog ops Q (o::rest) a w:=
 wpList_store_row hgd 124 x y ho b #[.slice A n c,.string s] hx hy 124 #[old,.string olds] hr (run_size _ s) rfl (by simp[Value.oneCell'])
  (h _ (setRow_heap w b _ _ _ _ hr) ⟨rfl,rfl,rfl,by rw[setRow_size];exact Nat.le_refl _,fun k _ e=>setRow_other w b k _ e⟩ (setRow_size _ _ _))
theorem load_run (hgd:o.guard=none) (x:Operand) (ho:o.op= .load 124 x) {b:Nat} (hx:a.eval x= .pointer (some ⟨b,0,none⟩)) {lv:Value} {s:ByteArray} (hr:RBox w b lv s) (h:wpList Tryz.prog ops Q rest (a.put o.dst (.agg #[lv,.string s])) w):wpList Tryz.prog ops Q (o::rest) a w:=
 wpList_load_row hgd 124 x ho b hx 124 #[lv,.string s] (0,0) _ hr Tryz.underlying124 rfl (run_size lv s) h
end
theorem build_run (A:Option Addr) (n c:Nat) (s:ByteArray) (w:World):(Instr.build 124 #[(0,.slice A n c),(1,.string s)]).run Tryz.prog w= .ok (.agg #[.slice A n c,.string s]) w:=by kernel_rfl
theorem two_rows {C:Cfg} {J:(Nat→Prop)→List M16.Mark→World→Prop} {T0:Nat→Prop} {W w1 w2 w3:World} {b6 r1 g1 r2 g2:Nat} (hJ:Steady C.base J) (hj:J T0 [] W) (hl:Lies C.base T0 W) (hb:C.base≤W.heap.size) (h4: ∀k,Four C.b k→T0 k) (hc:Caps W C.b C.lv C.s C.first C.last) (hP:Prg C.base W C.lv C.L)
    (l1:Below W.heap.size W w1) (hrun:RBox w1 b6 C.lv C.s) (h6:W.heap.size≤b6)
    (R1:RowAt C.base w2 r1 (.slice none 0 0) g1 C.L.length []) (e1:w1.heap.size≤r1∧w1.heap.size≤g1) (l2:Below w1.heap.size w1 w2)
    (R2:RowAt C.base w3 r2 (.slice none 0 0) g2 C.L.length []) (e2:w2.heap.size≤r2∧w2.heap.size≤g2) (l3:Below w2.heap.size w2 w3):
    It C J T0 W (Fresh T0 W w3) [] w3 b6 r1 g1 (.slice none 0 0) [] r2 g2 (.slice none 0 0) []:=by
 have lb:=on (on l1 l2) l3
 have hlt:=hc.lt
 have z1:=l1.size
 have z2:=l2.size
 have z3:=l3.size
 have hs6:=hrun.lt
 have q1:=R1.lt
 have q2:=R1.bits.lt
 have q3:=R2.lt
 have q4:=R2.bits.lt
 exact {
  j:=hJ _ _ _ _ hj hl hb (Turns.new lb)
  all:=Turns.of_below (lb.mono hb) (fun k h1 _=>h1)
  lies:=hl.fresh hb lb.size
  low:=Nat.le_trans hb lb.size
  sub:=fun k hk=>Or.inl hk
  caps:=hc.same fun k h1 h2=>lb.block k (by omega)
  four:=fun k hk=>Or.inl (h4 k hk)
  run:=hrun.below (on l2 l3)
  six:=Or.inr ⟨h6,by omega⟩
  row1:=R1.below l3
  row2:=R2
  in1:=fun k hk=>by
   rcases hk with rfl|rfl|hk
   ·exact Or.inr ⟨by omega,by omega⟩
   ·exact Or.inr ⟨by omega,by omega⟩
   ·cases hk
  in2:=fun k hk=>by
   rcases hk with rfl|rfl|hk
   ·exact Or.inr ⟨by omega,by omega⟩
   ·exact Or.inr ⟨by omega,by omega⟩
   ·cases hk
  apart:=fun k h1 h2=>by
   rcases h1 with rfl|rfl|h1
   ·rcases h2 with h2|h2|h2
    ·omega
    ·omega
    ·cases h2
   ·rcases h2 with h2|h2|h2
    ·omega
    ·omega
    ·cases h2
   ·cases h1
  off1:=fun k hk h1=>by
   have:k<w1.heap.size:=by
    rcases hk with hk|rfl
    ·have:=hk.2;omega
    ·exact hs6
   rcases h1 with h1|h1|h1
   ·omega
   ·omega
   ·cases h1
  off2:=fun k hk h1=>by
   have:k<w1.heap.size:=by
    rcases hk with hk|rfl
    ·have:=hk.2;omega
    ·exact hs6
   rcases h1 with h1|h1|h1
   ·omega
   ·omega
   ·cases h1
  prog:=hP.below (lb.mono hb)}
end W16
end Go.Proofs.YtfgegjinhkgpbaaGreatDoor
