/-
  Texts joined, in build order, each with its own comment and its own conditions: W16REnds, W16RKids, W16RTimes, W16RByte.
-/
import Derived.Test.YtehdnbidgphecaaGreatDoorJ15
import Derived.Test.YtehdnbidgphecaaGreatDoorJ09
import Derived.Test.YtehdnbidgphecaaGreatDoorJ02
import Derived.Deep.QuietTactic
import Derived.BigQuiet
namespace Go.Proofs.YtehdnbidgphecaaGreatDoor
set_option maxHeartbeats 4000000
set_option maxRecDepth 100000
open Go.RowKit
open Lib (hid)
namespace W16
open Strs Recs
open M14 (Piece leaf)
open M16 (at_ orL places Img img_eq E takes)
open W14 (Raw rawA PLow PBox box_arg load_piece load_at below_new own_same)
open Kit (below_draws on byte_test)
def REnds (s:ByteArray) (p:Piece):Prop:= ∀(w:World) (r:Raw) (v:Value) (l:List Bool),PLow w r p→Trus w.heap.size w v l→l.length=s.size+1→
 Calls Tryz.prog 11 #[.agg (rawA r),.string s,v] w fun e w'=> ∃l',Img s.size (E s.data.toList p) l l'∧GivesRow w l' e w'
theorem img_of {n:Nat} {R:Nat→Nat→Prop} {l:List Bool} {f:Nat→Bool} (h: ∀t,t≤n→(f t=true↔ ∃q,q≤n∧at_ l q=true∧R q t)):Img n R l ((List.range (n+1)).map f):=
 ⟨by simp,fun t ht=>by rw[at_range (Nat.lt_succ_of_le ht)];exact h t ht⟩
section
variable {ops:Array Oper} {rest:List Oper} {o:Oper} {a:Act} {w:World} {Q:Exit→Act→World→Prop}
theorem append_tru (hgd:o.guard=none) (s x:Operand) (ho:o.op= .call {callee:= .builtin .append,args:= #[s,x],argTypes:= #[37,37]})
    {base B:Nat} {v u:Value} {L M:List Bool} (hs:a.eval s=v) (hx:a.eval x=u) (hown:w.ownsRow base 4 1 v L.length (L.flatMap truC)) (hu:Trus B w u M) (hl:L.length+M.length≤1000000) (hbase:base≤w.heap.size)
    (h: ∀v' w',w'.ownsRow base 4 1 v' (L++M).length ((L++M).flatMap truC)→Put v v' w w'→wpList Tryz.prog ops Q rest (a.put o.dst v') w'):wpList Tryz.prog ops Q (o::rest) a w:=by
 obtain⟨i,hi,h1,h2,h3⟩:=info_parts bool_info
 refine wpList_append_put hgd s x 37 ho base 4 i _ 1 1 Tryz.underlying37 hi h1 h2 h3 rfl (by decide) v L.length (L.flatMap truC) hs hown u M B hx hu truC_len truC_one (by unfold maxLen;omega) (by omega) hbase fun v' w' e1 e2=>h v' w' ?_ e2
 rw[List.length_append,List.flatMap_append];exact e1
end
section
variable {s:ByteArray}
theorem rends_none (hs:s.size≤500) (t:ByteArray):REnds s (leaf 1 t):=by
 intro w r v l hp hv hl
 unfold leaf at hp
 obtain⟨A,c,raws,rfl,k1⟩:=hp.parts
 have hI:Img s.size (E s.data.toList (leaf 1 t)) l l:=(img_eq hl).same fun q t _ _=>by unfold leaf E;rw[if_pos rfl]
 have HI:=hid hI
 have HV:=hid hv
 obtain⟨n,hn⟩: ∃n,s.size+1=n:=⟨_,rfl⟩
 have hw1:wrap64 ((s.size:Int)+1)=(n:Int):=by have:=wrap_n (k:=s.size+1) (by omega);rw[hn]at this;rw[←this,←hn];rfl
 have HN:=hid (show n≤501∧l.length=n from⟨by omega,by omega⟩)
 obtain⟨A',c',rfl,-,-⟩:=hv.form
 clear hp k1 hI hv hn hs hl
 simp only[List.length_nil]
 go_enter Tryz.func11,Tryz.ntmps11
 go_wp2_with (first
  |(refine box_arg (r:=⟨1,t,A,0,c,0,0⟩) rfl (.tmp 0) rfl rfl ?_;intro w1 b1 e1 p1 l1 z1;have a0:=p1.c0;have P1:=hid p1;have L1:=hid l1;clear e1 p1 l1 z1;simp only at a0)
  |(refine make_op (n:=n) rfl (.tmp 16) (.tmp 16) rfl (congrArg (Value.int .i64) hw1) (congrArg (Value.int .i64) hw1) (by have:=HN.out;omega) ?_;intro w2 bm e2 p2 l2 z2;have L2:=hid (on L1.out l2);have a2:=(P1.out.below l2).c0;clear e2 p2 l2 z2 a0;simp only at a2)
  |(refine append_tru (L:= []) rfl (.const (.slice none 0 0)) (.tmp 22) rfl rfl rfl (World.ownsRow_nil _ _ _ _) (HV.out.below L2.out) (by have:=HN.out;simp only[List.length_nil];omega) L2.out.size ?_;intro v7 w7 o7 p7;have O7:=hid o7;have Q7:=hid p7;clear o7 p7))
 go_ret
 obtain⟨g1,g2',g3',g4',g5'⟩:=Q7.out.grown
 have L7:Below w.heap.size w w7:=L2.out.trans ⟨g1,g2',g3',g4',fun k hk=>g5' k (Nat.lt_of_lt_of_le hk L2.out.size) (fun e=>by cases e)⟩
 refine⟨l,HI.out,_,rfl,?_,L7⟩
 have:=O7.out
 rw[List.nil_append]at this
 exact Recs.of_own truC_len rfl this
theorem rends_begin (hs:s.size≤500) (t:ByteArray):REnds s (leaf 5 t):=by
 intro w r v l hp hv hl
 unfold leaf at hp
 obtain⟨A,c,raws,rfl,k1⟩:=hp.parts
 have hI:Img s.size (E s.data.toList (leaf 5 t)) l ((List.range (s.size+1)).map fun j=>decide (j=0)&&at_ l 0):=img_of fun u hu=>by
  unfold leaf
  simp only[Bool.and_eq_true,decide_eq_true_eq]
  constructor
  ·rintro⟨rfl,h⟩
   exact⟨0,Nat.zero_le _,h,by unfold E;rw[if_neg (by decide),if_neg (by decide),if_pos rfl];exact⟨rfl,rfl⟩⟩
  ·rintro⟨q,-,h,he⟩
   unfold E at he
   rw[if_neg (by decide),if_neg (by decide),if_pos rfl]at he
   obtain⟨rfl,rfl⟩:=he
   exact⟨rfl,h⟩
 have HI:=hid hI
 have HV:=hid hv
 obtain⟨n,hn⟩: ∃n,s.size+1=n:=⟨_,rfl⟩
 have hw1:wrap64 ((s.size:Int)+1)=(n:Int):=by have:=wrap_n (k:=s.size+1) (by omega);rw[hn]at this;rw[←this,←hn];rfl
 have HN:=hid (show n≤501∧l.length=n∧0<n from⟨by omega,by omega,by omega⟩)
 rw[hn]at HI
 obtain⟨A',c',rfl,-,-⟩:=hv.form
 obtain⟨b3,o3,rfl,-,-⟩:=trus_at hv (k:=0) (by omega)
 obtain⟨x,hx⟩: ∃x,at_ l 0=x:=⟨_,rfl⟩
 have HX:=hid hx
 have hn0:(0:Int)<(l.length:Int):=by omega
 have hn1:(0:Int)<(n:Int):=by omega
 clear hp k1 hI hv hn hs hl hx
 simp only[List.length_nil]
 go_enter Tryz.func11,Tryz.ntmps11
 go_wp2_with (first
  |(refine box_arg (r:=⟨5,t,A,0,c,0,0⟩) rfl (.tmp 0) rfl rfl ?_;intro w1 b1 e1 p1 l1 z1;have a0:=p1.c0;have P1:=hid p1;have L1:=hid l1;have E1:Hid (w.heap.size≤b1):=(by unfold Hid;omega);clear e1 p1 l1 z1;simp only at a0)
  |(refine make_op (n:=n) rfl (.tmp 16) (.tmp 16) rfl (congrArg (Value.int .i64) hw1) (congrArg (Value.int .i64) hw1) (by have:=HN.out;omega) ?_;intro w2 bm e2 p2 l2 z2;have L2:=hid (on L1.out l2);have a2:=(P1.out.below l2).c0;have f0:=p2.free 0;have d0:=p2.cell (i:=0) HN.out.2.2;have P2:=hid p2;have E2:Hid (w.heap.size≤bm):=(by unfold Hid;have:=L1.out.size;omega);obtain⟨b4,o4,e4,-,x0⟩:=trus_at (HV.out.below L2.out) (k:=0) (by have:=HN.out;omega);cases e4;rw[HX.out,Nat.add_zero]at x0;clear e2 p2 l2 z2 a0;simp only at a2))
 go_ret
 refine⟨_,HI.out,_,rfl,?_,L2.out.setCell E2.out _⟩
 have h:=((P2.out.put (i:=0) x).is (g:=fun j=>decide (j=0)&&at_ l 0) fun j _=>by
  rw[HX.out]
  by_cases e:j=0<;>simp[e]).trus (by have:=HN.out;omega)
 exact h
theorem rends_end (hs:s.size≤500) (t:ByteArray):REnds s (leaf 6 t):=by
 intro w r v l hp hv hl
 unfold leaf at hp
 obtain⟨A,c,raws,rfl,k1⟩:=hp.parts
 have hsl:s.data.toList.length=s.size:=(Lib.size_eq s).symm
 have hI:Img s.size (E s.data.toList (leaf 6 t)) l ((List.range (s.size+1)).map fun j=>decide (j=s.size)&&at_ l s.size):=img_of fun u hu=>by
  unfold leaf
  simp only[Bool.and_eq_true,decide_eq_true_eq]
  constructor
  ·rintro⟨rfl,h⟩
   exact⟨s.size,Nat.le_refl _,h,by unfold E;rw[if_neg (by decide),if_neg (by decide),if_neg (by decide),if_pos rfl,hsl];exact⟨rfl,rfl⟩⟩
  ·rintro⟨q,-,h,he⟩
   unfold E at he
   rw[if_neg (by decide),if_neg (by decide),if_neg (by decide),if_pos rfl,hsl]at he
   obtain⟨rfl,rfl⟩:=he
   exact⟨rfl,h⟩
 have HI:=hid hI
 have HV:=hid hv
 obtain⟨n,hn⟩: ∃n,s.size+1=n:=⟨_,rfl⟩
 have hw1:wrap64 ((s.size:Int)+1)=(n:Int):=by have:=wrap_n (k:=s.size+1) (by omega);rw[hn]at this;rw[←this,←hn];rfl
 have HN:=hid (show n≤501∧l.length=n∧s.size<n from⟨by omega,by omega,by omega⟩)
 rw[hn]at HI
 obtain⟨A',c',rfl,-,-⟩:=hv.form
 obtain⟨b3,o3,rfl,-,-⟩:=trus_at hv (k:=0) (by omega)
 obtain⟨x,hx⟩: ∃x,at_ l s.size=x:=⟨_,rfl⟩
 have HX:=hid hx
 have hn0:(s.size:Int)<(l.length:Int):=by omega
 have hn1:(s.size:Int)<(n:Int):=by omega
 clear hp k1 hI hv hn hs hl hx hsl
 simp only[List.length_nil]
 go_enter Tryz.func11,Tryz.ntmps11
 go_wp2_with (first
  |(refine box_arg (r:=⟨6,t,A,0,c,0,0⟩) rfl (.tmp 0) rfl rfl ?_;intro w1 b1 e1 p1 l1 z1;have a0:=p1.c0;have P1:=hid p1;have L1:=hid l1;have E1:Hid (w.heap.size≤b1):=(by unfold Hid;omega);clear e1 p1 l1 z1;simp only at a0)
  |(refine make_op (n:=n) rfl (.tmp 16) (.tmp 16) rfl (congrArg (Value.int .i64) hw1) (congrArg (Value.int .i64) hw1) (by have:=HN.out;omega) ?_;intro w2 bm e2 p2 l2 z2;have L2:=hid (on L1.out l2);have a2:=(P1.out.below l2).c0;have f0:=p2.free s.size;have d0:=p2.cell (i:=s.size) HN.out.2.2;have P2:=hid p2;have E2:Hid (w.heap.size≤bm):=(by unfold Hid;have:=L1.out.size;omega);obtain⟨b4,o4,e4,-,x0⟩:=trus_at (HV.out.below L2.out) (k:=s.size) (by have:=HN.out;omega);cases e4;rw[HX.out]at x0;clear e2 p2 l2 z2 a0;simp only at a2))
 go_ret
 refine⟨_,HI.out,_,rfl,?_,L2.out.setCell E2.out _⟩
 have h:=((P2.out.put (i:=s.size) x).is (g:=fun j=>decide (j=s.size)&&at_ l s.size) fun j _=>by
  rw[HX.out]
  by_cases e:j=s.size<;>simp[e]).trus (by have:=HN.out;omega)
 exact h
def tk (S:List UInt8) (k:Int) (t:ByteArray) (i:Nat):Bool:=match S[i]? with
 |some c=>takes ⟨k-1,t,0,0⟩ c
 |none=>false
def seen (S:List UInt8) (k:Int) (t:ByteArray) (l:List Bool) (i j:Nat):Bool:=decide (1≤j)&&decide (j≤i)&&at_ l (j-1)&&tk S k t (j-1)
theorem img_byte {S:List UInt8} {k:Int} (hk:k=2∨k=3∨k=4) (t:ByteArray) (l:List Bool):Img S.length (E S (leaf k t)) l ((List.range (S.length+1)).map (seen S k t l S.length)):=img_of fun u hu=>by
 have hE: ∀q,E S (leaf k t) q u↔(u=q+1∧tk S k t q=true):=fun q=>by
  unfold leaf E
  rw[if_neg (by omega),if_pos hk]
  unfold M16.Byte tk
  constructor
  ·rintro⟨h1,c,h2,h3⟩;rw[h2];exact⟨h1,h3⟩
  ·rintro⟨h1,h2⟩
   cases hc:S[q]? with
   |none=>rw[hc]at h2;cases h2
   |some c=>rw[hc]at h2;exact⟨h1,c,rfl,h2⟩
 unfold seen
 simp only[Bool.and_eq_true,decide_eq_true_eq]
 constructor
 ·rintro⟨⟨⟨h1,h2⟩,h3⟩,h4⟩
  exact⟨u-1,by omega,h3,(hE _).2 ⟨by omega,h4⟩⟩
 ·rintro⟨q,h1,h2,h3⟩
  obtain⟨rfl,h4⟩:=(hE q).1 h3
  exact⟨⟨⟨by omega,by omega⟩,by simpa using h2⟩,by simpa using h4⟩
theorem seen_next {S:List UInt8} {k:Int} {t:ByteArray} {l:List Bool} {i j:Nat}:seen S k t l (i+1) j=if j=i+1 then(at_ l i&&tk S k t i)else seen S k t l i j:=by
 unfold seen
 by_cases e:j=i+1
 ·subst e
  simp
 ·rw[if_neg e]
  congr 3
  simp only[decide_eq_decide]
  omega
end
end W16
namespace M16
open Go M15
open M14 (Piece leaf)
variable {s:Text} {q u:Nat}
theorem eseq_snoc: ∀ {l:List Piece} {p:Piece} {q u:Nat},Eseq s (l++ [p]) q u↔ ∃v,Eseq s l q v∧E s p v u
 | [],p,q,u=>by
  rw[List.nil_append,Eseq]
  simp only[Eseq]
  constructor
  ·rintro⟨v,h1,rfl⟩;exact⟨q,rfl,h1⟩
  ·rintro⟨v,rfl,h1⟩;exact⟨u,h1,rfl⟩
 |x::l,p,q,u=>by
  simp only[List.cons_append,Eseq]
  constructor
  ·rintro⟨v,h1,h2⟩
   obtain⟨z,h3,h4⟩:=eseq_snoc.1 h2
   exact⟨z,⟨v,h1,h3⟩,h4⟩
  ·rintro⟨z,⟨v,h1,h3⟩,h4⟩
   exact⟨v,h1,eseq_snoc.2 ⟨z,h3,h4⟩⟩
theorem ealt_snoc: ∀ {l:List Piece} {p:Piece} {q u:Nat},Ealt s (l++ [p]) q u↔(Ealt s l q u∨E s p q u)
 | [],p,q,u=>by
  simp[Ealt]
 |x::l,p,q,u=>by
  rw[List.cons_append,Ealt,Ealt,ealt_snoc,or_assoc]
theorem eseq_in: ∀ {l:List Piece},(∀p,p∈l→M15.Good p)→ ∀q t,q≤s.length→Eseq s l q t→t≤s.length
 | [],_,q,t,hq,h=>by rw[Eseq]at h;omega
 |p::l,hg,q,t,hq,h=>by
  rw[Eseq]at h
  obtain⟨v,h1,h2⟩:=h
  exact eseq_in (fun p hp=>hg p (by simp[hp])) v t (E_in (hg p (by simp)) q v hq h1) h2
theorem take_next {ks:List Piece} {i:Nat} (hi:i<ks.length):ks.take (i+1)=ks.take i++ [ks[i]]:=by
 rw[List.take_add_one,List.getElem?_eq_getElem hi]
 rfl
theorem Img.seq {ks:List Piece} {n i:Nat} {l l1 l2:List Bool} (hn:s.length=n) (hg: ∀p,p∈ks→M15.Good p) (hi:i<ks.length) (h1:Img n (Eseq s (ks.take i)) l l1) (h2:Img n (E s ks[i]) l1 l2):Img n (Eseq s (ks.take (i+1))) l l2:=by
 refine(h1.trans h2 fun q t hq h=> ?_).same fun q t _ _=> ?_
 ·subst hn
  exact eseq_in (fun p hp=>hg p (List.mem_of_mem_take hp)) q t hq h
 ·rw[take_next hi,eseq_snoc]
theorem Img.alt {ks:List Piece} {n i:Nat} {l l1 l2:List Bool} (hi:i<ks.length) (h1:Img n (Ealt s (ks.take i)) l l1) (h2:Img n (E s ks[i]) l l2):Img n (Ealt s (ks.take (i+1))) l (orL l1 l2):=by
 refine(h1.or h2).same fun q t _ _=> ?_
 rw[take_next hi,ealt_snoc]
end M16
namespace W16
open Strs Recs
open M14 (Piece leaf)
open M16 (at_ orL places Img img_eq E Eseq Ealt takes)
open W14 (Raw rawA PLow PBox box_arg load_piece load_at below_new own_same)
open Kit (below_draws on byte_test)
section
variable {s:ByteArray}
set_option maxHeartbeats 8000000 in
theorem rends_seq (hs:s.size≤500) {t:ByteArray} {ks:List Piece} {m tp:Int} (IH: ∀i (hi:i<ks.length),REnds s ks[i]) (hg: ∀p,p∈ks→M15.Good p):REnds s (.mk 7 t ks m tp):=by
 intro w r v l hp hv hl
 obtain⟨A,c,raws,rfl,k1⟩:=hp.parts
 have hsl:s.data.toList.length=s.size:=(Lib.size_eq s).symm
 have HSL:=hid hsl
 have HI:=hid IH
 have HG:=hid hg
 have HV:=hid hv
 have K0:=hid k1
 have HR:=hid k1.room
 obtain⟨n,hn⟩: ∃n,s.size+1=n:=⟨_,rfl⟩
 have hw1:wrap64 ((s.size:Int)+1)=(n:Int):=by have:=wrap_n (k:=s.size+1) (by omega);rw[hn]at this;rw[←this,←hn];rfl
 have HN:=hid (show n≤501∧l.length=n∧s.size+1=n from⟨by omega,by omega,by omega⟩)
 have HE:Hid (∀l',Img s.size (Eseq s.data.toList ks) l l'→Img s.size (E s.data.toList (.mk 7 t ks m tp)) l l'):=fun l' h=>h.same fun q u _ _=>by
  rw[E,if_neg (by decide),if_neg (by decide),if_neg (by decide),if_neg (by decide),if_pos rfl]
 have hI0:Img s.size (Eseq s.data.toList (ks.take 0)) l l:=(img_eq hl).same fun q u _ _=>by rw[List.take_zero,Eseq]
 have HI0:=hid hI0
 clear hp k1 hv hn hs hl hsl IH hg hI0
 go_enter Tryz.func11,Tryz.ntmps11
 go_wp2_with (first
  |(refine box_arg (r:=⟨7,t,A,ks.length,c,m,tp⟩) rfl (.tmp 0) rfl rfl ?_;intro w1 b1 e1 p1 l1 z1;have a0:=p1.c0;have P1:=hid p1;have L1:=hid l1;clear e1 p1 l1 z1;simp only at a0)
  |(refine make_op (n:=n) rfl (.tmp 16) (.tmp 16) rfl (congrArg (Value.int .i64) hw1) (congrArg (Value.int .i64) hw1) (by have:=HN.out;omega) ?_;intro w2 bm e2 p2 l2 z2;have L2:=hid (on L1.out l2);have B2:=hid (P1.out.below l2);have a2:=(P1.out.below l2).c0;clear e2 p2 l2 z2 a0;simp only at a2))
 clear P1 L1 a2 hw1
 go_loopg [11,12] ks.length (fun gk s11 s12 wr=> ∃(i:Nat) (vi:Value) (li:List Bool),vi=s11∧s12= .int .i64 i∧Hid (i+gk=ks.length)∧Hid (Trus wr.heap.size wr vi li∧li.length=n∧Img s.size (Eseq s.data.toList (ks.take i)) l li)∧Hid (Below w.heap.size w wr)∧Hid (PBox wr b1 ⟨7,t,A,ks.length,c,m,tp⟩))
 case atStart=>exact⟨0,v,l,rfl,rfl,by unfold Hid;omega,⟨(HV.out.below L2.out).more L2.out.size,HN.out.2.1,HI0.out⟩,L2,B2⟩
 case round=>
  clear L2 B2 HI0
  obtain⟨i,vi,li,rfl,rfl,hig,TR,LB,PB⟩:=hrel
  have a2:=PB.out.c2
  simp only at a2
  have hn1:=HR.out.1
  have hn2:=HR.out.2
  cases gk with
  |zero=>
   have hi:i=ks.length:=by have:=hig.out;omega
   subst hi
   have ti: ¬(ks.length:Int)<(ks.length:Int):=by omega
   go_wp2_with fail
   go_ret
   have h3:=TR.out.2.2
   rw[List.take_length]at h3
   exact⟨_,HE.out _ h3,_,rfl,TR.out.1,LB.out⟩
  |succ gk=>
   have hi:i<ks.length:=by have:=hig.out;omega
   have ti:(i:Int)<(ks.length:Int):=by omega
   obtain⟨i1,hi1⟩: ∃i1,i+1=i1:=⟨_,rfl⟩
   have hwi:Hid ((i:Int)+1=(i1:Int)):=by unfold Hid;omega
   have KK:=K0.out.below LB.out
   obtain⟨g1,o1,rfl,C1⟩:=KK.at_ (Nat.lt_of_le_of_lt (Nat.zero_le _) hi)
   obtain⟨hr1,q1⟩:=KK.kid hi
   have E1:=hid (C1 i hr1)
   obtain⟨rk,hrk⟩: ∃rk,raws[i]'hr1=rk:=⟨_,rfl⟩
   rw[hrk]at E1 q1
   have HC:=hid (HI.out i hi _ rk vi li q1 TR.out.1 (by have:=TR.out.2.1;have:=HN.out;omega))
   have HX:Hid (∀l2,Img s.size (E s.data.toList (ks[i]'hi)) li l2→Img s.size (Eseq s.data.toList (ks.take i1)) l l2):=fun l2 h2=>by
    rw[←hi1]
    exact M16.Img.seq HSL.out HG.out hi TR.out.2.2 h2
   have HIG:Hid (i1+gk=ks.length):=by have:=hig.out;unfold Hid;omega
   clear C1 q1 hrk hig hi1 KK TR
   go_wp2_with (first|(refine load_at rfl (.tmp 112) rfl rfl (r:=rk) E1.out ?_))
   refine HC.out.mono ?_
   rintro e w2 ⟨l2,im,v2,rfl,tr,lw⟩
   have TR2:Hid (Trus w2.heap.size w2 v2 l2∧l2.length=n∧Img s.size (Eseq s.data.toList (ks.take i1)) l l2):=⟨tr,by have:=im.1;have:=HN.out;omega,HX.out l2 im⟩
   have L2:=hid (on LB.out lw)
   have P2:=hid (PB.out.below lw)
   clear tr lw im
   go_wp2_with fail
   go_roundg gk
   case measure=>omega
   case rel=>exact⟨i1,v2,l2,rfl,by first|rfl|exact congrArg (Value.int .i64) hwi.out,HIG,TR2,L2,P2⟩
set_option maxHeartbeats 8000000 in
theorem rends_alt (hs:s.size≤500) {t:ByteArray} {ks:List Piece} {m tp:Int} (IH: ∀i (hi:i<ks.length),REnds s ks[i]):REnds s (.mk 8 t ks m tp):=by
 intro w r v l hp hv hl
 obtain⟨A,c,raws,rfl,k1⟩:=hp.parts
 have HI:=hid IH
 have HV:=hid hv
 have K0:=hid k1
 have HR:=hid k1.room
 obtain⟨n,hn⟩: ∃n,s.size+1=n:=⟨_,rfl⟩
 have hw1:wrap64 ((s.size:Int)+1)=(n:Int):=by have:=wrap_n (k:=s.size+1) (by omega);rw[hn]at this;rw[←this,←hn];rfl
 have HN:=hid (show n≤501∧l.length=n∧s.size+1=n from⟨by omega,by omega,by omega⟩)
 have HE:Hid (∀l',Img s.size (Ealt s.data.toList ks) l l'→Img s.size (E s.data.toList (.mk 8 t ks m tp)) l l'):=fun l' h=>h.same fun q u _ _=>by
  rw[E,if_neg (by decide),if_neg (by decide),if_neg (by decide),if_neg (by decide),if_neg (by decide),if_pos rfl]
 have hI0:Img s.size (Ealt s.data.toList (ks.take 0)) l ((List.range (s.size+1)).map fun _=>false):=img_of fun u _=>by
  rw[List.take_zero]
  constructor
  ·intro h;cases h
  ·rintro⟨q,-,-,h⟩;rw[Ealt]at h;exact h.elim
 rw[hn]at hI0
 have HI0:=hid hI0
 clear hp k1 hv hn hs hl IH hI0
 go_enter Tryz.func11,Tryz.ntmps11
 go_wp2_with (first
  |(refine box_arg (r:=⟨8,t,A,ks.length,c,m,tp⟩) rfl (.tmp 0) rfl rfl ?_;intro w1 b1 e1 p1 l1 z1;have a0:=p1.c0;have P1:=hid p1;have L1:=hid l1;clear e1 p1 l1 z1;simp only at a0)
  |(refine make_op (n:=n) rfl (.tmp 16) (.tmp 16) rfl (congrArg (Value.int .i64) hw1) (congrArg (Value.int .i64) hw1) (by have:=HN.out;omega) ?_;intro w2 bm e2 p2 l2 z2;have L2:=hid (on L1.out l2);have B2:=hid (P1.out.below l2);have a2:=(P1.out.below l2).c0;have P2:=hid p2;clear e2 p2 l2 z2 a0;simp only at a2))
 clear P1 L1 a2 hw1
 go_loopg [7,13] ks.length (fun gk s7 s13 wr=> ∃(i:Nat) (vi:Value) (li:List Bool),vi=s7∧s13= .int .i64 i∧Hid (i+gk=ks.length)∧Hid (Trus wr.heap.size wr vi li∧li.length=n∧Img s.size (Ealt s.data.toList (ks.take i)) l li)∧Hid (Below w.heap.size w wr)∧Hid (PBox wr b1 ⟨8,t,A,ks.length,c,m,tp⟩))
 case atStart=>exact⟨0,_,_,rfl,rfl,by unfold Hid;omega,⟨P2.out.trus (by have:=HN.out;omega),by simp,HI0.out⟩,L2,B2⟩
 case round=>
  clear L2 B2 P2 HI0
  obtain⟨i,vi,li,rfl,rfl,hig,TR,LB,PB⟩:=hrel
  have a2:=PB.out.c2
  simp only at a2
  have hn1:=HR.out.1
  have hn2:=HR.out.2
  cases gk with
  |zero=>
   have hi:i=ks.length:=by have:=hig.out;omega
   subst hi
   have ti: ¬(ks.length:Int)<(ks.length:Int):=by omega
   go_wp2_with fail
   go_ret
   have h3:=TR.out.2.2
   rw[List.take_length]at h3
   exact⟨_,HE.out _ h3,_,rfl,TR.out.1,LB.out⟩
  |succ gk=>
   have hi:i<ks.length:=by have:=hig.out;omega
   have ti:(i:Int)<(ks.length:Int):=by omega
   obtain⟨i1,hi1⟩: ∃i1,i+1=i1:=⟨_,rfl⟩
   have hwi:Hid ((i:Int)+1=(i1:Int)):=by unfold Hid;omega
   have KK:=K0.out.below LB.out
   obtain⟨g1,o1,rfl,C1⟩:=KK.at_ (Nat.lt_of_le_of_lt (Nat.zero_le _) hi)
   obtain⟨hr1,q1⟩:=KK.kid hi
   have E1:=hid (C1 i hr1)
   obtain⟨rk,hrk⟩: ∃rk,raws[i]'hr1=rk:=⟨_,rfl⟩
   rw[hrk]at E1 q1
   have HC:=hid (HI.out i hi _ rk v l q1 ((HV.out.below LB.out).more LB.out.size) (by have:=HN.out;omega))
   have HX:Hid (∀l2,Img s.size (E s.data.toList (ks[i]'hi)) l l2→Img s.size (Ealt s.data.toList (ks.take i1)) l (orL li l2)):=fun l2 h2=>by
    rw[←hi1]
    exact M16.Img.alt hi TR.out.2.2 h2
   have HIG:Hid (i1+gk=ks.length):=by have:=hig.out;unfold Hid;omega
   clear C1 q1 hrk hig hi1 KK
   go_wp2_with (first|(refine load_at rfl (.tmp 131) rfl rfl (r:=rk) E1.out ?_))
   refine HC.out.mono ?_
   rintro e w2 ⟨l2,im,v2,rfl,tr,lw⟩
   have L2:=hid (on LB.out lw)
   have P2:=hid (PB.out.below lw)
   have HB:=hid (both_any ((TR.out.1.below lw).more lw.size) tr (by have:=TR.out.2.1;have:=im.1;have:=HN.out;omega) (by have:=TR.out.2.1;have:=HN.out;omega))
   have HX2:=hid (HX.out l2 im)
   have HOL:Hid ((orL li l2).length=n):=by unfold Hid;rw[M16.orL_len];exact TR.out.2.1
   clear tr lw im TR
   go_wp2_with fail
   refine HB.out.mono ?_
   rintro e w3 ⟨v3,rfl,tr,lw⟩
   have TR3:Hid (Trus w3.heap.size w3 v3 (orL li l2)∧(orL li l2).length=n∧Img s.size (Ealt s.data.toList (ks.take i1)) l (orL li l2)):=⟨tr,HOL.out,HX2.out⟩
   have L3:=hid (on L2.out lw)
   have P3:=hid (P2.out.below lw)
   clear tr lw
   go_wp2_with fail
   go_roundg gk
   case measure=>omega
   case rel=>exact⟨i1,v3,_,rfl,by first|rfl|exact congrArg (Value.int .i64) hwi.out,HIG,TR3,L3,P3⟩
end
end W16
namespace W16
open Strs Recs
open M14 (Piece leaf)
open M16 (at_ orL places Img img_eq E Pow Rep Upto many)
open W14 (Raw rawA rawC PLow PBox box_arg load_piece load_at below_new own_same cell_block)
open W15 (numC numC_len)
open Kit (below_draws on)
theorem kid0 {w:World} {A:Option Addr} {c:Nat} {raws:List Raw} {p:Piece} (K:W14.Kids w A c raws [p]): ∃g o rk,A=some ⟨g,o,none⟩∧g<w.heap.size∧PLow w rk p∧ ∀j,j<5→w.cell? ⟨g,o+j,none⟩=(rawC rk)[j]? :=by
 obtain⟨g,o,hA,C1⟩:=K.at_ (Nat.lt_succ_self 0)
 obtain⟨hr,q⟩:=K.kid (Nat.lt_succ_self 0)
 refine⟨g,o,raws[0],hA,K.2.1 _ hA (Nat.lt_of_le_of_lt (Nat.zero_le _) hr),q,fun j hj=> ?_⟩
 have:=C1 0 hr j hj
 rwa[show o+0*5+j=o+j by omega]at this
def Rw (n:Nat) (R:Nat→Nat→Prop) (l:List Bool) (w:World) (v:Value) (k:List Bool):Prop:=Trus w.heap.size w v k∧k.length=n+1∧Img n R l k
theorem Rw.below {n:Nat} {R:Nat→Nat→Prop} {l k:List Bool} {w w':World} {v:Value} (h:Rw n R l w v k) (hb:Below w.heap.size w w'):Rw n R l w' v k:=⟨(h.1.below hb).more hb.size,h.2⟩
section
variable {s:ByteArray}
set_option maxHeartbeats 16000000 in
theorem rtimes_top (hs:s.size≤500) {t:ByteArray} {p:Piece} {M:Nat} {tp:Int} (hM:M≤100) (ht:(M:Int)≤tp∧tp≤100) (IH:REnds s p) (hg:M15.Good p) {w:World} {r:Raw} {v:Value} {l:List Bool} (hp:PLow w r (.mk 9 t [p] (M:Int) tp)) (hv:Trus w.heap.size w v l) (hl:l.length=s.size+1):
    Calls Tryz.prog 25 #[.agg (rawA r),.string s,v] w fun e w'=> ∃l',Img s.size (Rep (E s.data.toList p) M tp) l l'∧GivesRow w l' e w':=by
 obtain⟨A,c,raws,rfl,k1⟩:=hp.parts
 have hsl:s.data.toList.length=s.size:=(Lib.size_eq s).symm
 have hin:=M16.E_in (s:=s.data.toList) hg
 rw[hsl]at hin
 obtain⟨g1,o1,rk,rfl,hg1,q0,C0⟩:=kid0 k1
 have HR:Hid (1≤c∧c≤9223372036854775807):=k1.room
 have HIN:=hid hin
 have HK:Hid (∀w',Below w.heap.size w w'→ ∀j,j<5→w'.cell? ⟨g1,o1+j,none⟩=(rawC rk)[j]?):=fun w' hb j hj=>(cell_block (hb.block g1 hg1)).trans (C0 j hj)
 obtain⟨R,hR⟩: ∃R,E s.data.toList p=R:=⟨_,rfl⟩
 have HC:Hid (∀(w':World) (vi:Value) (R':Nat→Nat→Prop) (li:List Bool),Below w.heap.size w w'→Rw s.size R' l w' vi li→Calls Tryz.prog 11 #[.agg (rawA rk),.string s,vi] w' fun e w''=> ∃l',Img s.size R li l'∧GivesRow w' l' e w''):=fun w' vi R' li hb hi=>by
  rw[←hR]
  exact IH w' rk vi li (q0.below hb) hi.1 hi.2.1
 rw[hR]at HIN ⊢
 have R0:Hid (Rw s.size (Pow R 0) l w v l):=⟨hv,hl,(img_eq hl).same fun q t _ _=>Iff.rfl⟩
 have tneg: ¬tp<0:=by omega
 obtain⟨K,hK⟩: ∃K:Nat,tp-(M:Int)=(K:Int):=⟨(tp-M).toNat,by omega⟩
 have HKB:Hid (K≤100):=by unfold Hid;omega
 have hwk:wrap64 (tp-(M:Int))=(K:Int):=by unfold wrap64;omega
 have HKK:=hid hK
 clear hK ht
 have HM:=hid hM
 have HS:=hid hs
 simp only[List.length_singleton]
 clear hp k1 hv hs hl hsl hin q0 C0 hg1 hR IH hg hM
 go_enter Tryz.func25,Tryz.ntmps25
 go_wp2_with (first
  |(refine box_arg (r:=⟨9,t,some ⟨g1,o1,none⟩,1,c,(M:Int),tp⟩) rfl (.tmp 0) rfl rfl ?_;intro w1 b1 e1 p1 l1 z1;have P1:=hid p1;have L1:=hid l1;clear e1 p1 l1 z1))
 have R1:=hid (R0.out.below L1.out)
 clear R0
 go_loopg [7,8] M (fun gk s7 s8 wr=> ∃(i:Nat) (vi:Value) (li:List Bool),vi=s7∧s8= .int .i64 i∧Hid (i+gk=M)∧Hid (Rw s.size (Pow R i) l wr vi li)∧Hid (Below w.heap.size w wr)∧Hid (PBox wr b1 ⟨9,t,some ⟨g1,o1,none⟩,1,c,(M:Int),tp⟩))
 case atStart=>exact⟨0,v,l,rfl,rfl,by unfold Hid;omega,R1,L1,P1⟩
 case round=>
  clear R1 L1 P1
  obtain⟨i,vi,li,rfl,rfl,hig,RW,LB,PB⟩:=hrel
  have a2:=PB.out.c2
  have a3:=PB.out.c3
  simp only at a2 a3
  have hn1:=HR.out.1
  have hn2:=HR.out.2
  cases gk with
  |succ gk=>
   have hi:i<M:=by have:=hig.out;omega
   have ti:(i:Int)<(M:Int):=by omega
   obtain⟨i1,hi1⟩: ∃i1,i+1=i1:=⟨_,rfl⟩
   have hwi:Hid ((i:Int)+1=(i1:Int)∧wrap64 ((i:Int)+1)=(i1:Int)):=by have:=HM.out;unfold Hid wrap64;omega
   have E1:=hid (HK.out _ LB.out)
   have HCC:=hid (HC.out _ _ _ _ LB.out RW.out)
   have HIG:Hid (i1+gk=M):=by have:=hig.out;unfold Hid;omega
   have HX:Hid (∀l2,Img s.size R li l2→Img s.size (Pow R i1) l l2):=fun l2 h2=>by rw[←hi1];exact RW.out.2.2.pow_next h2 HIN.out
   clear hig hi1 RW hi
   go_wp2_with (first|(refine load_at rfl (.tmp 22) rfl rfl (r:=rk) E1.out ?_))
   refine HCC.out.mono ?_
   rintro e w2 ⟨l2,im,v2,rfl,tr,lw⟩
   have R2:Hid (Rw s.size (Pow R i1) l w2 v2 l2):=⟨tr,im.1,HX.out l2 im⟩
   have L2:=hid (on LB.out lw)
   have P2:=hid (PB.out.below lw)
   clear tr lw im
   go_wp2_with fail
   go_roundg gk
   case measure=>omega
   case rel=>exact⟨i1,v2,l2,rfl,by first|rfl|exact congrArg (Value.int .i64) hwi.out.1|exact congrArg (Value.int .i64) hwi.out.2,HIG,R2,L2,P2⟩
  |zero=>
   have hi:i=M:=by have:=hig.out;omega
   subst hi
   have ti: ¬(i:Int)<(i:Int):=by omega
   have a4:=PB.out.c4
   simp only at a4
   clear hig
   go_wp2_with fail
   try simp only[hwk]
   clear hwk a2 a3 a4 ti
   go_loopg [7,9,11] K (fun gk s7 s9 s11 wr=> ∃(j:Nat) (vn vo:Value) (ln lo:List Bool),vn=s7∧vo=s9∧s11= .int .i64 j∧Hid (j+gk=K)∧Hid (Rw s.size (Pow R (i+j)) l wr vn ln)∧Hid (Rw s.size (Upto R i j) l wr vo lo)∧Hid (True)∧Hid (Below w.heap.size w wr)∧Hid (PBox wr b1 ⟨9,t,some ⟨g1,o1,none⟩,1,c,(i:Int),tp⟩))
   case atStart=>exact⟨0,vi,vi,li,li,rfl,rfl,rfl,by unfold Hid;omega,RW,⟨RW.out.1,RW.out.2.1,RW.out.2.2.same fun q u _ _=>M16.upto_zero.symm⟩,by unfold Hid;first|trivial|exact Nat.zero_le _,LB,PB⟩
   case round=>
    clear RW LB PB
    obtain⟨j,vn,vo,ln,lo,rfl,rfl,rfl,hjg,RN,RO,CN,LB,PB⟩:=hrel
    have a2:=PB.out.c2
    have a4:=PB.out.c4
    simp only at a2 a4
    cases gk with
    |zero=>
     have hj:j=K:=by have:=hjg.out;omega
     subst hj
     have tj: ¬(j:Int)<(j:Int):=by omega
     go_wp2_with fail
     go_ret
     refine⟨lo,?_,_,rfl,RO.out.1,LB.out⟩
     refine RO.out.2.2.same fun q u _ _=>⟨?_,?_⟩
     ·rintro⟨k,hk,h⟩
      exact⟨i+k,Nat.le_add_right _ _,Or.inr (by have:=HKK.out;omega),h⟩
     ·rintro⟨k,hk,hk2,h⟩
      refine⟨k-i,by have:=HKK.out;omega,?_⟩
      rw[show i+(k-i)=k by omega]
      exact h
    |succ gk=>
     have hj:j<K:=by have:=hjg.out;omega
     have tj:(j:Int)<(K:Int):=by omega
     obtain⟨j1,hj1⟩: ∃j1,j+1=j1:=⟨_,rfl⟩
     have hwj:Hid ((j:Int)+1=(j1:Int)∧wrap64 ((j:Int)+1)=(j1:Int)):=by have:=HKB.out;unfold Hid wrap64;omega
     have E1:=hid (HK.out _ LB.out)
     have HCC:=hid (HC.out _ _ _ _ LB.out RN.out)
     have HJG:Hid (j1+gk=K):=by have:=hjg.out;unfold Hid;omega
     have HX:Hid (∀l2,Img s.size R ln l2→Img s.size (Pow R (i+(j+1))) l l2):=fun l2 h2=>RN.out.2.2.pow_next h2 HIN.out
     have HJ1:=hid hj1
     clear hjg hj1 RN hj
     go_wp2_with (first|(refine load_at rfl (.tmp 46) rfl rfl (r:=rk) E1.out ?_))
     refine HCC.out.mono ?_
     rintro e w2 ⟨l2,im,v2,rfl,tr,lw⟩
     have R2:Hid (Rw s.size (Pow R (i+(j+1))) l w2 v2 l2):=⟨tr,im.1,HX.out l2 im⟩
     have O2:=hid (RO.out.below lw)
     have L2:=hid (on LB.out lw)
     have P2:=hid (PB.out.below lw)
     have HB:=hid (both_any O2.out.1 R2.out.1 (O2.out.2.1.trans R2.out.2.1.symm) (by have:=O2.out.2.1;have:=HS.out;omega))
     clear tr lw im RO LB PB a2 a4
     go_wp2_with fail
     refine HB.out.mono ?_
     rintro e w3 ⟨v3,rfl,tr,lw⟩
     obtain⟨lm,hlm⟩: ∃lm,orL lo l2=lm:=⟨_,rfl⟩
     have HLM:=hid hlm
     have hlen:lm.length=s.size+1:=by rw[←hlm,M16.orL_len];exact O2.out.2.1
     have HLEN:=hid hlen
     rw[hlm]at tr
     have R3:=hid (R2.out.below lw)
     have O3:=hid (O2.out.below lw)
     have M3:Hid (Rw s.size (Upto R i (j+1)) l w3 v3 lm):=⟨tr,hlen,by rw[←hlm];exact O2.out.2.2.upto_next R2.out.2.2⟩
     have L3:=hid (on L2.out lw)
     have P3:=hid (P2.out.below lw)
     have HPL:=hid (places_any tr (by have:=HS.out;omega))
     clear tr lw hlm hlen HB
     go_wp2_with fail
     refine HPL.out.mono ?_
     rintro e w4 ⟨v4,rfl,ow,lw⟩
     have N4:=hid (Recs.of_own numC_len rfl ow)
     have R4:=hid (R3.out.below lw)
     have O4:=hid (O3.out.below lw)
     have M4:=hid (M3.out.below lw)
     have L4:=hid (on L3.out lw)
     have P4:=hid (P3.out.below lw)
     have HPO:=hid (places_any O4.out.1 (by have:=O4.out.2.1;have:=HS.out;omega))
     clear ow lw HPL R3 M3 L3 P3
     go_wp2_with fail
     refine HPO.out.mono ?_
     rintro e w5 ⟨v5,rfl,ow,lw⟩
     have N5:=hid (Recs.of_own numC_len rfl ow)
     have R5:=hid (R4.out.below lw)
     have O5:=hid (O4.out.below lw)
     have M5:=hid (M4.out.below lw)
     have L5:=hid (on L4.out lw)
     have P5:=hid (P4.out.below lw)
     have HIT:=hid (ints_any (N4.out.below lw) N5.out)
     clear ow lw HPO R4 M4 L4 P4 N4 N5
     go_wp2_with fail
     refine HIT.out.mono ?_
     rintro e w6 ⟨rfl,lw⟩
     have R6:=hid (R5.out.below lw)
     have O6:=hid (O5.out.below lw)
     have M6:=hid (M5.out.below lw)
     have L6:=hid (on L5.out lw)
     have P6:=hid (P5.out.below lw)
     have a4:=P6.out.c4
     simp only at a4
     clear lw HIT R5 O5 M5 L5 P5
     have PE:=hid (fun h:places lm=places lo=>M16.places_eq (HLEN.out.trans O2.out.2.1.symm) h)
     by_cases hpe:places lm=places lo
     ·simp only[decide_eq_true hpe]
      have HPE:=hid hpe
      clear hpe
      go_wp2_with fail
      go_roundg gk
      case measure=>omega
      case rel=>exact⟨j1,v2,v3,l2,lm,rfl,rfl,by first|rfl|exact congrArg (Value.int .i64) hwj.out.1|exact congrArg (Value.int .i64) hwj.out.2,HJG,by rw[←HJ1.out];exact R6,by rw[←HJ1.out];exact M6,trivial,L6,P6⟩
     ·simp only[decide_eq_false hpe]
      have HPE:=hid hpe
      clear hpe
      go_wp2_with fail
      go_roundg gk
      case measure=>omega
      case rel=>exact⟨j1,v2,v3,l2,lm,rfl,rfl,by first|rfl|exact congrArg (Value.int .i64) hwj.out.1|exact congrArg (Value.int .i64) hwj.out.2,HJG,by rw[←HJ1.out];exact R6,by rw[←HJ1.out];exact M6,trivial,L6,P6⟩
set_option maxHeartbeats 16000000 in
theorem rtimes_ever (hs:s.size≤500) {t:ByteArray} {p:Piece} {M:Nat} (hM:M≤100) (IH:REnds s p) (hg:M15.Good p) {w:World} {r:Raw} {v:Value} {l:List Bool} (hp:PLow w r (.mk 9 t [p] (M:Int) (-1))) (hv:Trus w.heap.size w v l) (hl:l.length=s.size+1):
    Calls Tryz.prog 25 #[.agg (rawA r),.string s,v] w fun e w'=> ∃l',Img s.size (Rep (E s.data.toList p) M (-1)) l l'∧GivesRow w l' e w':=by
 obtain⟨A,c,raws,rfl,k1⟩:=hp.parts
 have hsl:s.data.toList.length=s.size:=(Lib.size_eq s).symm
 have hin:=M16.E_in (s:=s.data.toList) hg
 rw[hsl]at hin
 obtain⟨g1,o1,rk,rfl,hg1,q0,C0⟩:=kid0 k1
 have HR:Hid (1≤c∧c≤9223372036854775807):=k1.room
 have HIN:=hid hin
 have HK:Hid (∀w',Below w.heap.size w w'→ ∀j,j<5→w'.cell? ⟨g1,o1+j,none⟩=(rawC rk)[j]?):=fun w' hb j hj=>(cell_block (hb.block g1 hg1)).trans (C0 j hj)
 obtain⟨R,hR⟩: ∃R,E s.data.toList p=R:=⟨_,rfl⟩
 have HC:Hid (∀(w':World) (vi:Value) (R':Nat→Nat→Prop) (li:List Bool),Below w.heap.size w w'→Rw s.size R' l w' vi li→Calls Tryz.prog 11 #[.agg (rawA rk),.string s,vi] w' fun e w''=> ∃l',Img s.size R li l'∧GivesRow w' l' e w''):=fun w' vi R' li hb hi=>by
  rw[←hR]
  exact IH w' rk vi li (q0.below hb) hi.1 hi.2.1
 rw[hR]at HIN ⊢
 have R0:Hid (Rw s.size (Pow R 0) l w v l):=⟨hv,hl,(img_eq hl).same fun q t _ _=>Iff.rfl⟩
 obtain⟨K,hK⟩: ∃K,s.size+1=K:=⟨_,rfl⟩
 have HKB:Hid (K≤501∧s.size+1=K):=⟨by omega,hK⟩
 have hwk:wrap64 ((s.size:Int)+1)=(K:Int):=by unfold wrap64;omega
 clear hK
 have HM:=hid hM
 have HS:=hid hs
 simp only[List.length_singleton]
 clear hp k1 hv hs hl hsl hin q0 C0 hg1 hR IH hg hM
 go_enter Tryz.func25,Tryz.ntmps25
 go_wp2_with (first
  |(refine box_arg (r:=⟨9,t,some ⟨g1,o1,none⟩,1,c,(M:Int),(-1)⟩) rfl (.tmp 0) rfl rfl ?_;intro w1 b1 e1 p1 l1 z1;have P1:=hid p1;have L1:=hid l1;clear e1 p1 l1 z1))
 have R1:=hid (R0.out.below L1.out)
 clear R0
 go_loopg [7,8] M (fun gk s7 s8 wr=> ∃(i:Nat) (vi:Value) (li:List Bool),vi=s7∧s8= .int .i64 i∧Hid (i+gk=M)∧Hid (Rw s.size (Pow R i) l wr vi li)∧Hid (Below w.heap.size w wr)∧Hid (PBox wr b1 ⟨9,t,some ⟨g1,o1,none⟩,1,c,(M:Int),(-1)⟩))
 case atStart=>exact⟨0,v,l,rfl,rfl,by unfold Hid;omega,R1,L1,P1⟩
 case round=>
  clear R1 L1 P1
  obtain⟨i,vi,li,rfl,rfl,hig,RW,LB,PB⟩:=hrel
  have a2:=PB.out.c2
  have a3:=PB.out.c3
  simp only at a2 a3
  have hn1:=HR.out.1
  have hn2:=HR.out.2
  cases gk with
  |succ gk=>
   have hi:i<M:=by have:=hig.out;omega
   have ti:(i:Int)<(M:Int):=by omega
   obtain⟨i1,hi1⟩: ∃i1,i+1=i1:=⟨_,rfl⟩
   have hwi:Hid ((i:Int)+1=(i1:Int)∧wrap64 ((i:Int)+1)=(i1:Int)):=by have:=HM.out;unfold Hid wrap64;omega
   have E1:=hid (HK.out _ LB.out)
   have HCC:=hid (HC.out _ _ _ _ LB.out RW.out)
   have HIG:Hid (i1+gk=M):=by have:=hig.out;unfold Hid;omega
   have HX:Hid (∀l2,Img s.size R li l2→Img s.size (Pow R i1) l l2):=fun l2 h2=>by rw[←hi1];exact RW.out.2.2.pow_next h2 HIN.out
   clear hig hi1 RW hi
   go_wp2_with (first|(refine load_at rfl (.tmp 22) rfl rfl (r:=rk) E1.out ?_))
   refine HCC.out.mono ?_
   rintro e w2 ⟨l2,im,v2,rfl,tr,lw⟩
   have R2:Hid (Rw s.size (Pow R i1) l w2 v2 l2):=⟨tr,im.1,HX.out l2 im⟩
   have L2:=hid (on LB.out lw)
   have P2:=hid (PB.out.below lw)
   clear tr lw im
   go_wp2_with fail
   go_roundg gk
   case measure=>omega
   case rel=>exact⟨i1,v2,l2,rfl,by first|rfl|exact congrArg (Value.int .i64) hwi.out.1|exact congrArg (Value.int .i64) hwi.out.2,HIG,R2,L2,P2⟩
  |zero=>
   have hi:i=M:=by have:=hig.out;omega
   subst hi
   have ti: ¬(i:Int)<(i:Int):=by omega
   have a4:=PB.out.c4
   simp only at a4
   clear hig
   go_wp2_with fail
   try simp only[hwk]
   clear hwk a2 a3 a4 ti
   go_loopg [7,9,11] K (fun gk s7 s9 s11 wr=> ∃(j:Nat) (vn vo:Value) (ln lo:List Bool),vn=s7∧vo=s9∧s11= .int .i64 j∧Hid (j+gk=K)∧Hid (Rw s.size (Pow R (i+j)) l wr vn ln)∧Hid (Rw s.size (Upto R i j) l wr vo lo)∧Hid (j≤many lo)∧Hid (Below w.heap.size w wr)∧Hid (PBox wr b1 ⟨9,t,some ⟨g1,o1,none⟩,1,c,(i:Int),(-1)⟩))
   case atStart=>exact⟨0,vi,vi,li,li,rfl,rfl,rfl,by unfold Hid;omega,RW,⟨RW.out.1,RW.out.2.1,RW.out.2.2.same fun q u _ _=>M16.upto_zero.symm⟩,by unfold Hid;first|trivial|exact Nat.zero_le _,LB,PB⟩
   case round=>
    clear RW LB PB
    obtain⟨j,vn,vo,ln,lo,rfl,rfl,rfl,hjg,RN,RO,CN,LB,PB⟩:=hrel
    have a2:=PB.out.c2
    have a4:=PB.out.c4
    simp only at a2 a4
    cases gk with
    |zero=>
     have hj:j=K:=by have:=hjg.out;omega
     subst hj
     have tj: ¬(j:Int)<(j:Int):=by omega
     go_wp2_with fail
     go_ret
     refine⟨lo,?_,_,rfl,RO.out.1,LB.out⟩
     refine(RO.out.2.2.full (by have:=HKB.out;have:=CN.out;omega)).same fun q u _ _=>⟨?_,?_⟩
     ·rintro⟨k,h⟩;exact⟨i+k,Nat.le_add_right _ _,Or.inl rfl,h⟩
     ·rintro⟨k,hk,-,h⟩
      refine⟨k-i,?_⟩
      rw[show i+(k-i)=k by omega]
      exact h
    |succ gk=>
     have hj:j<K:=by have:=hjg.out;omega
     have tj:(j:Int)<(K:Int):=by omega
     obtain⟨j1,hj1⟩: ∃j1,j+1=j1:=⟨_,rfl⟩
     have hwj:Hid ((j:Int)+1=(j1:Int)∧wrap64 ((j:Int)+1)=(j1:Int)):=by have:=HKB.out;unfold Hid wrap64;omega
     have E1:=hid (HK.out _ LB.out)
     have HCC:=hid (HC.out _ _ _ _ LB.out RN.out)
     have HJG:Hid (j1+gk=K):=by have:=hjg.out;unfold Hid;omega
     have HX:Hid (∀l2,Img s.size R ln l2→Img s.size (Pow R (i+(j+1))) l l2):=fun l2 h2=>RN.out.2.2.pow_next h2 HIN.out
     have HJ1:=hid hj1
     clear hjg hj1 RN hj
     go_wp2_with (first|(refine load_at rfl (.tmp 46) rfl rfl (r:=rk) E1.out ?_))
     refine HCC.out.mono ?_
     rintro e w2 ⟨l2,im,v2,rfl,tr,lw⟩
     have R2:Hid (Rw s.size (Pow R (i+(j+1))) l w2 v2 l2):=⟨tr,im.1,HX.out l2 im⟩
     have O2:=hid (RO.out.below lw)
     have L2:=hid (on LB.out lw)
     have P2:=hid (PB.out.below lw)
     have HB:=hid (both_any O2.out.1 R2.out.1 (O2.out.2.1.trans R2.out.2.1.symm) (by have:=O2.out.2.1;have:=HS.out;omega))
     clear tr lw im RO LB PB a2 a4
     go_wp2_with fail
     refine HB.out.mono ?_
     rintro e w3 ⟨v3,rfl,tr,lw⟩
     obtain⟨lm,hlm⟩: ∃lm,orL lo l2=lm:=⟨_,rfl⟩
     have HLM:=hid hlm
     have hlen:lm.length=s.size+1:=by rw[←hlm,M16.orL_len];exact O2.out.2.1
     have HLEN:=hid hlen
     rw[hlm]at tr
     have R3:=hid (R2.out.below lw)
     have O3:=hid (O2.out.below lw)
     have M3:Hid (Rw s.size (Upto R i (j+1)) l w3 v3 lm):=⟨tr,hlen,by rw[←hlm];exact O2.out.2.2.upto_next R2.out.2.2⟩
     have L3:=hid (on L2.out lw)
     have P3:=hid (P2.out.below lw)
     have HPL:=hid (places_any tr (by have:=HS.out;omega))
     clear tr lw hlm hlen HB
     go_wp2_with fail
     refine HPL.out.mono ?_
     rintro e w4 ⟨v4,rfl,ow,lw⟩
     have N4:=hid (Recs.of_own numC_len rfl ow)
     have R4:=hid (R3.out.below lw)
     have O4:=hid (O3.out.below lw)
     have M4:=hid (M3.out.below lw)
     have L4:=hid (on L3.out lw)
     have P4:=hid (P3.out.below lw)
     have HPO:=hid (places_any O4.out.1 (by have:=O4.out.2.1;have:=HS.out;omega))
     clear ow lw HPL R3 M3 L3 P3
     go_wp2_with fail
     refine HPO.out.mono ?_
     rintro e w5 ⟨v5,rfl,ow,lw⟩
     have N5:=hid (Recs.of_own numC_len rfl ow)
     have R5:=hid (R4.out.below lw)
     have O5:=hid (O4.out.below lw)
     have M5:=hid (M4.out.below lw)
     have L5:=hid (on L4.out lw)
     have P5:=hid (P4.out.below lw)
     have HIT:=hid (ints_any (N4.out.below lw) N5.out)
     clear ow lw HPO R4 M4 L4 P4 N4 N5
     go_wp2_with fail
     refine HIT.out.mono ?_
     rintro e w6 ⟨rfl,lw⟩
     have R6:=hid (R5.out.below lw)
     have O6:=hid (O5.out.below lw)
     have M6:=hid (M5.out.below lw)
     have L6:=hid (on L5.out lw)
     have P6:=hid (P5.out.below lw)
     have a4:=P6.out.c4
     simp only at a4
     clear lw HIT R5 O5 M5 L5 P5
     have PE:=hid (fun h:places lm=places lo=>M16.places_eq (HLEN.out.trans O2.out.2.1.symm) h)
     by_cases hpe:places lm=places lo
     ·simp only[decide_eq_true hpe]
      have HPE:=hid hpe
      clear hpe
      go_wp2_with fail
      go_ret
      refine⟨lo,?_,_,rfl,O6.out.1,L6.out⟩
      refine(O2.out.2.2.still R2.out.2.2 (by rw[HLM.out];exact PE.out HPE.out) HIN.out).same fun q u _ _=>⟨?_,?_⟩
      ·rintro⟨k,h⟩;exact⟨i+k,Nat.le_add_right _ _,Or.inl rfl,h⟩
      ·rintro⟨k,hk,-,h⟩
       refine⟨k-i,?_⟩
       rw[show i+(k-i)=k by omega]
       exact h
     ·simp only[decide_eq_false hpe]
      have HPE:=hid hpe
      clear hpe
      go_wp2_with fail
      go_roundg gk
      case measure=>omega
      case rel=>exact⟨j1,v2,v3,l2,lm,rfl,rfl,by first|rfl|exact congrArg (Value.int .i64) hwj.out.1|exact congrArg (Value.int .i64) hwj.out.2,HJG,by rw[←HJ1.out];exact R6,by rw[←HJ1.out];exact M6,(by unfold Hid;have h1:=M16.many_or (l:=lo) (k:=l2) (fun e=>HPE.out (by rw[←HLM.out,e]));rw[HLM.out]at h1;have:=CN.out;have:=HJ1.out;omega),L6,P6⟩
end
end W16
namespace W16
open Strs Recs
open M14 (Piece leaf)
open M16 (at_ orL places Img img_eq E takes)
open W14 (Raw rawA PLow PBox box_arg load_piece load_at below_new own_same)
open Kit (below_draws on byte_test)
section
variable {s:ByteArray}
set_option maxHeartbeats 8000000 in
theorem rends_char (hs:s.size≤500) (t:ByteArray) (ht:t.size=1):REnds s (leaf 2 t):=by
 intro w r v l hp hv hl
 unfold leaf at hp
 obtain⟨A,c,raws,rfl,k1⟩:=hp.parts
 have hsl:s.data.toList.length=s.size:=(Lib.size_eq s).symm
 have hI:=img_byte (S:=s.data.toList) (k:=2) (by omega) t l
 rw[hsl]at hI
 have HI:=hid hI
 have HV:=hid hv
 have HT:Hid (∀i (h:i<s.size),tk s.data.toList 2 t i=takes ⟨1,t,0,0⟩ s[i]):=fun i h=>by
  have hc:s.data.toList[i]? =some s[i]:=List.getElem?_eq_getElem (by rw[hsl];exact h)
  unfold tk
  rw[hc]
  rfl
 obtain⟨n,hn⟩: ∃n,s.size+1=n:=⟨_,rfl⟩
 have hw1:wrap64 ((s.size:Int)+1)=(n:Int):=by have:=wrap_n (k:=s.size+1) (by omega);rw[hn]at this;rw[←this,←hn];rfl
 have HN:=hid (show n≤501∧l.length=n∧s.size+1=n from⟨by omega,by omega,by omega⟩)
 rw[hn]at HI
 obtain⟨A',c',rfl,-,-⟩:=hv.form
 obtain⟨b3,o3,rfl,-,-⟩:=trus_at hv (k:=0) (by omega)
 have h0:0<t.size:=by omega
 have t0:(0:Int)<(t.size:Int):=by omega
 have HT1:=hid ht
 clear ht
 clear hp k1 hI hv hn hs hl hsl
 simp only[List.length_nil]
 go_enter Tryz.func11,Tryz.ntmps11
 go_wp2_with (first
  |(refine box_arg (r:=⟨2,t,A,0,c,0,0⟩) rfl (.tmp 0) rfl rfl ?_;intro w1 b1 e1 p1 l1 z1;have a0:=p1.c0;have P1:=hid p1;have L1:=hid l1;have E1:Hid (b1<w1.heap.size):=p1.lt;clear e1 p1 l1 z1;simp only at a0)
  |(refine make_op (n:=n) rfl (.tmp 16) (.tmp 16) rfl (congrArg (Value.int .i64) hw1) (congrArg (Value.int .i64) hw1) (by have:=HN.out;omega) ?_;intro w2 bm e2 p2 l2 z2;have L2:=hid (on L1.out l2);have B2:=hid (P1.out.below l2);have a2:=(P1.out.below l2).c0;have P2:=hid p2;have E2:Hid (w.heap.size≤bm∧b1≠bm):=(by unfold Hid;have:=L1.out.size;have:=E1.out;omega);clear e2 p2 l2 z2 a0;simp only at a2))
 have P3:Hid (Bits w2 bm n (seen s.data.toList 2 t l 0)):=P2.out.is fun j _=>by
  unfold seen
  by_cases e:1≤j<;>by_cases e2:j≤0<;>simp[e,e2]<;>omega
 clear P2 P1 L1 E1 a2 hw1
 go_loopg [8] s.size (fun gk s8 wr=> ∃i:Nat,s8= .int .i64 i∧Hid (i+gk=s.size)∧Hid (Bits wr bm n (seen s.data.toList 2 t l i))∧Hid (Below w.heap.size w wr)∧Hid (PBox wr b1 ⟨2,t,A,0,c,0,0⟩))
 case atStart=>exact⟨0,rfl,by unfold Hid;omega,P3,L2,B2⟩
 case round=>
  clear P3 L2 B2
  obtain⟨i,rfl,hig,BT,LB,PB⟩:=hrel
  cases gk with
  |zero=>
   have hi:i=s.size:=by have:=hig.out;omega
   subst hi
   have ti: ¬(s.size:Int)<(s.size:Int):=by omega
   go_wp2_with fail
   go_ret
   exact⟨_,HI.out,_,rfl,BT.out.trus (by have:=HN.out;omega),LB.out⟩
  |succ gk=>
   have hi:i<s.size:=by have:=hig.out;omega
   have ti:(i:Int)<(s.size:Int):=by omega
   obtain⟨i1,hi1⟩: ∃i1,i+1=i1:=⟨_,rfl⟩
   have hwi:wrap64 ((i:Int)+1)=(i1:Int):=by have:=wrap_n (k:=i+1) (by have:=HN.out;omega);rw[hi1]at this;rw[←this,←hi1];rfl
   have tl:(i:Int)<(l.length:Int):=by have:=HN.out;omega
   have tn:(i1:Int)<(n:Int):=by have:=HN.out;omega
   obtain⟨b4,o4,e4,-,x0⟩:=trus_at (HV.out.below LB.out) (k:=i) (by have:=HN.out;omega)
   cases e4
   have f0:=BT.out.free i1
   have d0:=BT.out.cell (i:=i1) (by have:=HN.out;omega)
   have a0:=PB.out.c0
   have a1:=PB.out.c1
   simp only at a0 a1
   obtain⟨x,hx⟩: ∃x,at_ l i=x:=⟨_,rfl⟩
   obtain⟨y,hy⟩: ∃y,tk s.data.toList 2 t i=y:=⟨_,rfl⟩
   have BN: ∀(q:Nat) (z:Bool),z=(x&&y)→Hid (Bits ((wr.drewN q).setCell ⟨bm,i1,none⟩ (.bool z)) bm n (seen s.data.toList 2 t l i1)):=fun q z hz=>(Bits.put (w:=wr.drewN q) BT.out z).is fun j _=>by
    rw[←hi1,seen_next,hx,hy,hz]
   have LN: ∀(q:Nat) (z:Bool),Hid (Below w.heap.size w ((wr.drewN q).setCell ⟨bm,i1,none⟩ (.bool z))):=fun q z=>(on LB.out (below_draws wr q)).setCell E2.out.1 _
   have PN: ∀(q:Nat) (z:Bool),Hid (PBox ((wr.drewN q).setCell ⟨bm,i1,none⟩ (.bool z)) b1 ⟨2,t,A,0,c,0,0⟩):=fun q z=>(heap_setCell_other (wr.drewN q) _ b1 _ fun e=>E2.out.2 e).trans PB.out
   rw[hx]at x0
   have hty:=hy
   rw[HT.out i hi]at hty
   have HIG:Hid (i1+gk=s.size):=by have:=hig.out;unfold Hid;omega
   have hwc:IntKind.i64.wrap (s[i].toNat:Int)=(s[i].toNat:Int):=by rw[IntKind.wrap_i64];have:=s[i].toNat_lt;omega
   clear hx hy hi1 hig BT LB PB
   have tc:((t[0].toNat:Int)==(s[i].toNat:Int))=y:=by
    rw[←hty]
    unfold takes
    rw[if_pos rfl,Kit.bytes_cons h0,byte_test]
    simp
   clear hty
   cases y with
   |true=>
    go_wp2_with fail
    go_quiet (fail)
    cases x with
    |true=>
     have BN2:=fun q=>BN q true (by simp)
     have LN2:=fun q=>LN q true
     have PN2:=fun q=>PN q true
     clear BN LN PN
     go_wp2_with fail
     go_roundg gk
     case measure=>omega
     case rel=>exact⟨i1,by first|rfl|exact congrArg (Value.int .i64) hwi,HIG,BN2 _,LN2 _,PN2 _⟩
    |false=>
     have BN2:=fun q=>BN q false (by simp)
     have LN2:=fun q=>LN q false
     have PN2:=fun q=>PN q false
     clear BN LN PN
     go_wp2_with fail
     go_roundg gk
     case measure=>omega
     case rel=>exact⟨i1,by first|rfl|exact congrArg (Value.int .i64) hwi,HIG,BN2 _,LN2 _,PN2 _⟩
   |false=>
    go_wp2_with fail
    go_quiet (fail)
    cases x with
    |true=>
     have BN2:=fun q=>BN q false (by simp)
     have LN2:=fun q=>LN q false
     have PN2:=fun q=>PN q false
     clear BN LN PN
     go_wp2_with fail
     go_roundg gk
     case measure=>omega
     case rel=>exact⟨i1,by first|rfl|exact congrArg (Value.int .i64) hwi,HIG,BN2 _,LN2 _,PN2 _⟩
    |false=>
     have BN2:=fun q=>BN q false (by simp)
     have LN2:=fun q=>LN q false
     have PN2:=fun q=>PN q false
     clear BN LN PN
     go_wp2_with fail
     go_roundg gk
     case measure=>omega
     case rel=>exact⟨i1,by first|rfl|exact congrArg (Value.int .i64) hwi,HIG,BN2 _,LN2 _,PN2 _⟩
set_option maxHeartbeats 8000000 in
theorem rends_any (hs:s.size≤500) (t:ByteArray):REnds s (leaf 3 t):=by
 intro w r v l hp hv hl
 unfold leaf at hp
 obtain⟨A,c,raws,rfl,k1⟩:=hp.parts
 have hsl:s.data.toList.length=s.size:=(Lib.size_eq s).symm
 have hI:=img_byte (S:=s.data.toList) (k:=3) (by omega) t l
 rw[hsl]at hI
 have HI:=hid hI
 have HV:=hid hv
 have HT:Hid (∀i (h:i<s.size),tk s.data.toList 3 t i=takes ⟨2,t,0,0⟩ s[i]):=fun i h=>by
  have hc:s.data.toList[i]? =some s[i]:=List.getElem?_eq_getElem (by rw[hsl];exact h)
  unfold tk
  rw[hc]
  rfl
 obtain⟨n,hn⟩: ∃n,s.size+1=n:=⟨_,rfl⟩
 have hw1:wrap64 ((s.size:Int)+1)=(n:Int):=by have:=wrap_n (k:=s.size+1) (by omega);rw[hn]at this;rw[←this,←hn];rfl
 have HN:=hid (show n≤501∧l.length=n∧s.size+1=n from⟨by omega,by omega,by omega⟩)
 rw[hn]at HI
 obtain⟨A',c',rfl,-,-⟩:=hv.form
 obtain⟨b3,o3,rfl,-,-⟩:=trus_at hv (k:=0) (by omega)
 clear hp k1 hI hv hn hs hl hsl
 simp only[List.length_nil]
 go_enter Tryz.func11,Tryz.ntmps11
 go_wp2_with (first
  |(refine box_arg (r:=⟨3,t,A,0,c,0,0⟩) rfl (.tmp 0) rfl rfl ?_;intro w1 b1 e1 p1 l1 z1;have a0:=p1.c0;have P1:=hid p1;have L1:=hid l1;have E1:Hid (b1<w1.heap.size):=p1.lt;clear e1 p1 l1 z1;simp only at a0)
  |(refine make_op (n:=n) rfl (.tmp 16) (.tmp 16) rfl (congrArg (Value.int .i64) hw1) (congrArg (Value.int .i64) hw1) (by have:=HN.out;omega) ?_;intro w2 bm e2 p2 l2 z2;have L2:=hid (on L1.out l2);have B2:=hid (P1.out.below l2);have a2:=(P1.out.below l2).c0;have P2:=hid p2;have E2:Hid (w.heap.size≤bm∧b1≠bm):=(by unfold Hid;have:=L1.out.size;have:=E1.out;omega);clear e2 p2 l2 z2 a0;simp only at a2))
 have P3:Hid (Bits w2 bm n (seen s.data.toList 3 t l 0)):=P2.out.is fun j _=>by
  unfold seen
  by_cases e:1≤j<;>by_cases e2:j≤0<;>simp[e,e2]<;>omega
 clear P2 P1 L1 E1 a2 hw1
 go_loopg [8] s.size (fun gk s8 wr=> ∃i:Nat,s8= .int .i64 i∧Hid (i+gk=s.size)∧Hid (Bits wr bm n (seen s.data.toList 3 t l i))∧Hid (Below w.heap.size w wr)∧Hid (PBox wr b1 ⟨3,t,A,0,c,0,0⟩))
 case atStart=>exact⟨0,rfl,by unfold Hid;omega,P3,L2,B2⟩
 case round=>
  clear P3 L2 B2
  obtain⟨i,rfl,hig,BT,LB,PB⟩:=hrel
  cases gk with
  |zero=>
   have hi:i=s.size:=by have:=hig.out;omega
   subst hi
   have ti: ¬(s.size:Int)<(s.size:Int):=by omega
   go_wp2_with fail
   go_ret
   exact⟨_,HI.out,_,rfl,BT.out.trus (by have:=HN.out;omega),LB.out⟩
  |succ gk=>
   have hi:i<s.size:=by have:=hig.out;omega
   have ti:(i:Int)<(s.size:Int):=by omega
   obtain⟨i1,hi1⟩: ∃i1,i+1=i1:=⟨_,rfl⟩
   have hwi:wrap64 ((i:Int)+1)=(i1:Int):=by have:=wrap_n (k:=i+1) (by have:=HN.out;omega);rw[hi1]at this;rw[←this,←hi1];rfl
   have tl:(i:Int)<(l.length:Int):=by have:=HN.out;omega
   have tn:(i1:Int)<(n:Int):=by have:=HN.out;omega
   obtain⟨b4,o4,e4,-,x0⟩:=trus_at (HV.out.below LB.out) (k:=i) (by have:=HN.out;omega)
   cases e4
   have f0:=BT.out.free i1
   have d0:=BT.out.cell (i:=i1) (by have:=HN.out;omega)
   have a0:=PB.out.c0
   have a1:=PB.out.c1
   simp only at a0 a1
   obtain⟨x,hx⟩: ∃x,at_ l i=x:=⟨_,rfl⟩
   obtain⟨y,hy⟩: ∃y,tk s.data.toList 3 t i=y:=⟨_,rfl⟩
   have BN: ∀(q:Nat) (z:Bool),z=(x&&y)→Hid (Bits ((wr.drewN q).setCell ⟨bm,i1,none⟩ (.bool z)) bm n (seen s.data.toList 3 t l i1)):=fun q z hz=>(Bits.put (w:=wr.drewN q) BT.out z).is fun j _=>by
    rw[←hi1,seen_next,hx,hy,hz]
   have LN: ∀(q:Nat) (z:Bool),Hid (Below w.heap.size w ((wr.drewN q).setCell ⟨bm,i1,none⟩ (.bool z))):=fun q z=>(on LB.out (below_draws wr q)).setCell E2.out.1 _
   have PN: ∀(q:Nat) (z:Bool),Hid (PBox ((wr.drewN q).setCell ⟨bm,i1,none⟩ (.bool z)) b1 ⟨3,t,A,0,c,0,0⟩):=fun q z=>(heap_setCell_other (wr.drewN q) _ b1 _ fun e=>E2.out.2 e).trans PB.out
   rw[hx]at x0
   have hty:=hy
   rw[HT.out i hi]at hty
   have HIG:Hid (i1+gk=s.size):=by have:=hig.out;unfold Hid;omega
   have hwc:IntKind.i64.wrap (s[i].toNat:Int)=(s[i].toNat:Int):=by rw[IntKind.wrap_i64];have:=s[i].toNat_lt;omega
   clear hx hy hi1 hig BT LB PB
   have tc:((s[i].toNat:Int) !=10)=y:=by
    rw[←hty]
    unfold takes
    rw[if_neg (show¬(2:Int)=1 by decide),if_pos rfl]
    have:=byte_test s[i] 10
    rw[show(((10:UInt8).toNat:Nat):Int)=10 from rfl]at this
    simp[bne,this]
   clear hty
   cases y with
   |true=>
    go_wp2_with fail
    go_quiet (fail)
    cases x with
    |true=>
     have BN2:=fun q=>BN q true (by simp)
     have LN2:=fun q=>LN q true
     have PN2:=fun q=>PN q true
     clear BN LN PN
     go_wp2_with fail
     go_roundg gk
     case measure=>omega
     case rel=>exact⟨i1,by first|rfl|exact congrArg (Value.int .i64) hwi,HIG,BN2 _,LN2 _,PN2 _⟩
    |false=>
     have BN2:=fun q=>BN q false (by simp)
     have LN2:=fun q=>LN q false
     have PN2:=fun q=>PN q false
     clear BN LN PN
     go_wp2_with fail
     go_roundg gk
     case measure=>omega
     case rel=>exact⟨i1,by first|rfl|exact congrArg (Value.int .i64) hwi,HIG,BN2 _,LN2 _,PN2 _⟩
   |false=>
    go_wp2_with fail
    go_quiet (fail)
    cases x with
    |true=>
     have BN2:=fun q=>BN q false (by simp)
     have LN2:=fun q=>LN q false
     have PN2:=fun q=>PN q false
     clear BN LN PN
     go_wp2_with fail
     go_roundg gk
     case measure=>omega
     case rel=>exact⟨i1,by first|rfl|exact congrArg (Value.int .i64) hwi,HIG,BN2 _,LN2 _,PN2 _⟩
    |false=>
     have BN2:=fun q=>BN q false (by simp)
     have LN2:=fun q=>LN q false
     have PN2:=fun q=>PN q false
     clear BN LN PN
     go_wp2_with fail
     go_roundg gk
     case measure=>omega
     case rel=>exact⟨i1,by first|rfl|exact congrArg (Value.int .i64) hwi,HIG,BN2 _,LN2 _,PN2 _⟩
set_option maxHeartbeats 8000000 in
theorem rends_set (hs:s.size≤500) (t:ByteArray):REnds s (leaf 4 t):=by
 intro w r v l hp hv hl
 unfold leaf at hp
 obtain⟨A,c,raws,rfl,k1⟩:=hp.parts
 have hsl:s.data.toList.length=s.size:=(Lib.size_eq s).symm
 have hI:=img_byte (S:=s.data.toList) (k:=4) (by omega) t l
 rw[hsl]at hI
 have HI:=hid hI
 have HV:=hid hv
 have HT:Hid (∀i (h:i<s.size),tk s.data.toList 4 t i=takes ⟨3,t,0,0⟩ s[i]):=fun i h=>by
  have hc:s.data.toList[i]? =some s[i]:=List.getElem?_eq_getElem (by rw[hsl];exact h)
  unfold tk
  rw[hc]
  rfl
 obtain⟨n,hn⟩: ∃n,s.size+1=n:=⟨_,rfl⟩
 have hw1:wrap64 ((s.size:Int)+1)=(n:Int):=by have:=wrap_n (k:=s.size+1) (by omega);rw[hn]at this;rw[←this,←hn];rfl
 have HN:=hid (show n≤501∧l.length=n∧s.size+1=n from⟨by omega,by omega,by omega⟩)
 rw[hn]at HI
 obtain⟨A',c',rfl,-,-⟩:=hv.form
 obtain⟨b3,o3,rfl,-,-⟩:=trus_at hv (k:=0) (by omega)
 clear hp k1 hI hv hn hs hl hsl
 simp only[List.length_nil]
 go_enter Tryz.func11,Tryz.ntmps11
 go_wp2_with (first
  |(refine box_arg (r:=⟨4,t,A,0,c,0,0⟩) rfl (.tmp 0) rfl rfl ?_;intro w1 b1 e1 p1 l1 z1;have a0:=p1.c0;have P1:=hid p1;have L1:=hid l1;have E1:Hid (b1<w1.heap.size):=p1.lt;clear e1 p1 l1 z1;simp only at a0)
  |(refine make_op (n:=n) rfl (.tmp 16) (.tmp 16) rfl (congrArg (Value.int .i64) hw1) (congrArg (Value.int .i64) hw1) (by have:=HN.out;omega) ?_;intro w2 bm e2 p2 l2 z2;have L2:=hid (on L1.out l2);have B2:=hid (P1.out.below l2);have a2:=(P1.out.below l2).c0;have P2:=hid p2;have E2:Hid (w.heap.size≤bm∧b1≠bm):=(by unfold Hid;have:=L1.out.size;have:=E1.out;omega);clear e2 p2 l2 z2 a0;simp only at a2))
 have P3:Hid (Bits w2 bm n (seen s.data.toList 4 t l 0)):=P2.out.is fun j _=>by
  unfold seen
  by_cases e:1≤j<;>by_cases e2:j≤0<;>simp[e,e2]<;>omega
 clear P2 P1 L1 E1 a2 hw1
 go_loopg [8] s.size (fun gk s8 wr=> ∃i:Nat,s8= .int .i64 i∧Hid (i+gk=s.size)∧Hid (Bits wr bm n (seen s.data.toList 4 t l i))∧Hid (Below w.heap.size w wr)∧Hid (PBox wr b1 ⟨4,t,A,0,c,0,0⟩))
 case atStart=>exact⟨0,rfl,by unfold Hid;omega,P3,L2,B2⟩
 case round=>
  clear P3 L2 B2
  obtain⟨i,rfl,hig,BT,LB,PB⟩:=hrel
  cases gk with
  |zero=>
   have hi:i=s.size:=by have:=hig.out;omega
   subst hi
   have ti: ¬(s.size:Int)<(s.size:Int):=by omega
   go_wp2_with fail
   go_ret
   exact⟨_,HI.out,_,rfl,BT.out.trus (by have:=HN.out;omega),LB.out⟩
  |succ gk=>
   have hi:i<s.size:=by have:=hig.out;omega
   have ti:(i:Int)<(s.size:Int):=by omega
   obtain⟨i1,hi1⟩: ∃i1,i+1=i1:=⟨_,rfl⟩
   have hwi:wrap64 ((i:Int)+1)=(i1:Int):=by have:=wrap_n (k:=i+1) (by have:=HN.out;omega);rw[hi1]at this;rw[←this,←hi1];rfl
   have tl:(i:Int)<(l.length:Int):=by have:=HN.out;omega
   have tn:(i1:Int)<(n:Int):=by have:=HN.out;omega
   obtain⟨b4,o4,e4,-,x0⟩:=trus_at (HV.out.below LB.out) (k:=i) (by have:=HN.out;omega)
   cases e4
   have f0:=BT.out.free i1
   have d0:=BT.out.cell (i:=i1) (by have:=HN.out;omega)
   have a0:=PB.out.c0
   have a1:=PB.out.c1
   simp only at a0 a1
   obtain⟨x,hx⟩: ∃x,at_ l i=x:=⟨_,rfl⟩
   obtain⟨y,hy⟩: ∃y,tk s.data.toList 4 t i=y:=⟨_,rfl⟩
   have BN: ∀(q:Nat) (z:Bool),z=(x&&y)→Hid (Bits ((wr.drewN q).setCell ⟨bm,i1,none⟩ (.bool z)) bm n (seen s.data.toList 4 t l i1)):=fun q z hz=>(Bits.put (w:=wr.drewN q) BT.out z).is fun j _=>by
    rw[←hi1,seen_next,hx,hy,hz]
   have LN: ∀(q:Nat) (z:Bool),Hid (Below w.heap.size w ((wr.drewN q).setCell ⟨bm,i1,none⟩ (.bool z))):=fun q z=>(on LB.out (below_draws wr q)).setCell E2.out.1 _
   have PN: ∀(q:Nat) (z:Bool),Hid (PBox ((wr.drewN q).setCell ⟨bm,i1,none⟩ (.bool z)) b1 ⟨4,t,A,0,c,0,0⟩):=fun q z=>(heap_setCell_other (wr.drewN q) _ b1 _ fun e=>E2.out.2 e).trans PB.out
   rw[hx]at x0
   have hty:=hy
   rw[HT.out i hi]at hty
   have HIG:Hid (i1+gk=s.size):=by have:=hig.out;unfold Hid;omega
   have hwc:IntKind.i64.wrap (s[i].toNat:Int)=(s[i].toNat:Int):=by rw[IntKind.wrap_i64];have:=s[i].toNat_lt;omega
   clear hx hy hi1 hig BT LB PB
   have hH:=W13.refHas_any t s[i].toNat
   have tc:M13.has t.data.toList s[i].toNat=y:=by
    rw[←hty]
    unfold takes
    rw[if_neg (show¬(3:Int)=1 by decide),if_neg (show¬(3:Int)=2 by decide),if_pos rfl]
   rw[tc]at hH
   have HH:=hid hH
   clear hH tc
   clear hty
   go_wp2_with fail
   go_quiet ((go_at_call 23;exact Calls.quiet_of_same (HH.out _)))
   cases x with
   |true=>
    have BN2:=fun q=>BN q y (by simp)
    have LN2:=fun q=>LN q y
    have PN2:=fun q=>PN q y
    clear BN LN PN
    go_wp2_with fail
    go_roundg gk
    case measure=>omega
    case rel=>exact⟨i1,by first|rfl|exact congrArg (Value.int .i64) hwi,HIG,BN2 _,LN2 _,PN2 _⟩
   |false=>
    have BN2:=fun q=>BN q false (by simp)
    have LN2:=fun q=>LN q false
    have PN2:=fun q=>PN q false
    clear BN LN PN
    go_wp2_with fail
    go_roundg gk
    case measure=>omega
    case rel=>exact⟨i1,by first|rfl|exact congrArg (Value.int .i64) hwi,HIG,BN2 _,LN2 _,PN2 _⟩
end
end W16
end Go.Proofs.YtehdnbidgphecaaGreatDoor
