/-
  Texts joined, in build order, each with its own comment and its own conditions: W16Img, W15Layer, W15Lay.
-/
import Derived.Test.YtehdnbidgphecaaGreatDoorJ04
import Derived.Test.YtehdnbidgphecaaGreatDoorJ02
import Derived.Test.YtehdnbidgphecaaGreatDoorTake
import Derived.Deep.RegionHeld3
import Derived.BigQuiet
namespace Go.Proofs.YtehdnbidgphecaaGreatDoor
set_option maxHeartbeats 4000000
set_option maxRecDepth 100000
open Go.RowKit
open Lib (hid)
namespace M16
open Go M15
open M14 (Piece size sizes leaf)
def at_ (l:List Bool) (t:Nat):Bool:=l.getD t false
def Img (n:Nat) (R:Nat→Nat→Prop) (l l':List Bool):Prop:=l'.length=n+1∧ ∀t,t≤n→(at_ l' t=true↔ ∃q,q≤n∧at_ l q=true∧R q t)
section
variable {n:Nat} {R R1 R2:Nat→Nat→Prop} {l l1 l2 l':List Bool}
theorem Img.same (h:Img n R1 l l') (hr: ∀q t,q≤n→t≤n→(R1 q t↔R2 q t)):Img n R2 l l':=by
 refine⟨h.1,fun t ht=>(h.2 t ht).trans ⟨?_,?_⟩⟩
 ·rintro⟨q,h1,h2,h3⟩;exact⟨q,h1,h2,(hr q t h1 ht).1 h3⟩
 ·rintro⟨q,h1,h2,h3⟩;exact⟨q,h1,h2,(hr q t h1 ht).2 h3⟩
theorem img_eq (h:l.length=n+1):Img n (fun q t=>q=t) l l:=by
 refine⟨h,fun t ht=>⟨fun h=>⟨t,ht,h,rfl⟩,?_⟩⟩
 rintro⟨q,h1,h2,rfl⟩
 exact h2
theorem Img.trans (h1:Img n R1 l l1) (h2:Img n R2 l1 l2) (hin: ∀q t,q≤n→R1 q t→t≤n):Img n (fun q t=> ∃v,R1 q v∧R2 v t) l l2:=by
 refine⟨h2.1,fun t ht=>(h2.2 t ht).trans ⟨?_,?_⟩⟩
 ·rintro⟨v,hv,h3,h4⟩
  obtain⟨q,hq,h5,h6⟩:=(h1.2 v hv).1 h3
  exact⟨q,hq,h5,v,h6,h4⟩
 ·rintro⟨q,hq,h3,v,h4,h5⟩
  have hv:=hin q v hq h4
  exact⟨v,hv,(h1.2 v hv).2 ⟨q,hq,h3,h4⟩,h5⟩
def orL (l k:List Bool):List Bool:=(List.range l.length).map fun i=>at_ l i||at_ k i
theorem orL_len (l k:List Bool):(orL l k).length=l.length:=by unfold orL;rw[List.length_map,List.length_range]
theorem orL_at {l k:List Bool} {t:Nat} (h:t<l.length):at_ (orL l k) t=(at_ l t||at_ k t):=by
 unfold orL
 conv=>lhs;unfold at_
 rw[List.getD_eq_getElem?_getD,List.getElem?_map,List.getElem?_range h]
 rfl
theorem Img.or (h1:Img n R1 l l1) (h2:Img n R2 l l2):Img n (fun q t=>R1 q t∨R2 q t) l (orL l1 l2):=by
 refine⟨by rw[orL_len];exact h1.1,fun t ht=> ?_⟩
 rw[orL_at (by rw[h1.1];omega),Bool.or_eq_true,h1.2 t ht,h2.2 t ht]
 constructor
 ·rintro(⟨q,h3,h4,h5⟩|⟨q,h3,h4,h5⟩)
  ·exact⟨q,h3,h4,Or.inl h5⟩
  ·exact⟨q,h3,h4,Or.inr h5⟩
 ·rintro⟨q,h3,h4,h5|h5⟩
  ·exact Or.inl ⟨q,h3,h4,h5⟩
  ·exact Or.inr ⟨q,h3,h4,h5⟩
theorem pow_in (hin: ∀q t,q≤n→R q t→t≤n): ∀ {k q t:Nat},q≤n→Pow R k q t→t≤n
 |0,q,t,hq,h=>by cases h;exact hq
 |k+1,q,t,hq,⟨v,hv,h⟩=>pow_in hin (hin q v hq hv) h
theorem pow_last: ∀ {k q t:Nat},Pow R (k+1) q t↔ ∃v,Pow R k q v∧R v t
 |0,q,t=>⟨fun⟨v,hv,h⟩=>by cases h;exact⟨q,rfl,hv⟩,fun⟨v,hv,h⟩=>by cases hv;exact⟨t,h,rfl⟩⟩
 |k+1,q,t=>by
  constructor
  ·rintro⟨u,hu,h⟩
   obtain⟨v,h1,h2⟩:=pow_last.1 h
   exact⟨v,⟨u,hu,h1⟩,h2⟩
  ·rintro⟨v,⟨u,hu,h1⟩,h2⟩
   exact⟨u,hu,pow_last.2 ⟨v,h1,h2⟩⟩
theorem Img.pow_next {k:Nat} (h1:Img n (Pow R k) l l1) (h2:Img n R l1 l2) (hin: ∀q t,q≤n→R q t→t≤n):Img n (Pow R (k+1)) l l2:=
 (h1.trans h2 (fun _ _ hq h=>pow_in hin hq h)).same fun _ _ _ _=>pow_last.symm
def Upto (R:Nat→Nat→Prop) (m k:Nat) (q t:Nat):Prop:= ∃j,j≤k∧Pow R (m+j) q t
theorem upto_zero {m q t:Nat}:Upto R m 0 q t↔Pow R m q t:=by
 constructor
 ·rintro⟨j,hj,h⟩
  have:j=0:=by omega
  subst this
  exact h
 ·intro h;exact⟨0,Nat.le_refl _,h⟩
theorem upto_next {m k q t:Nat}:Upto R m (k+1) q t↔Upto R m k q t∨Pow R (m+(k+1)) q t:=by
 constructor
 ·rintro⟨j,hj,h⟩
  by_cases e:j=k+1
  ·subst e;exact Or.inr h
  ·exact Or.inl ⟨j,by omega,h⟩
 ·rintro(⟨j,hj,h⟩|h)
  ·exact⟨j,by omega,h⟩
  ·exact⟨k+1,Nat.le_refl _,h⟩
theorem Img.upto_next {m k:Nat} (h1:Img n (Upto R m k) l l1) (h2:Img n (Pow R (m+(k+1))) l l2):Img n (Upto R m (k+1)) l (orL l1 l2):=
 (h1.or h2).same fun _ _ _ _=>M16.upto_next.symm
theorem Img.still {m k:Nat} (h1:Img n (Upto R m k) l l1) (h2:Img n (Pow R (m+(k+1))) l l2) (he:orL l1 l2=l1) (hin: ∀q t,q≤n→R q t→t≤n):Img n (fun q t=> ∃j,Pow R (m+j) q t) l l1:=by
 have hsub: ∀t,t≤n→at_ l2 t=true→at_ l1 t=true:=fun t ht h=>by
  have:=orL_at (l:=l1) (k:=l2) (t:=t) (by rw[h1.1];omega)
  rw[he,h,Bool.or_true]at this
  exact this
 have hall: ∀j q t,q≤n→at_ l q=true→Pow R (m+j) q t→t≤n→at_ l1 t=true:=by
  intro j
  induction j with
  |zero=>intro q t hq hl h ht;exact(h1.2 t ht).2 ⟨q,hq,hl,0,Nat.zero_le _,h⟩
  |succ j ih=>
   intro q t hq hl h ht
   rw[show m+(j+1)=(m+j)+1 by omega,pow_last]at h
   obtain⟨v,hv,hr⟩:=h
   have hvn:=pow_in hin hq hv
   obtain⟨q',hq',hl',i,hi,hp⟩:=(h1.2 v hvn).1 (ih q v hq hl hv hvn)
   have hp2:Pow R (m+(i+1)) q' t:=by rw[show m+(i+1)=(m+i)+1 by omega,pow_last];exact⟨v,hp,hr⟩
   by_cases e:i=k
   ·subst e
    exact hsub t ht ((h2.2 t ht).2 ⟨q',hq',hl',hp2⟩)
   ·exact(h1.2 t ht).2 ⟨q',hq',hl',i+1,by omega,hp2⟩
 refine⟨h1.1,fun t ht=>⟨fun h=> ?_,?_⟩⟩
 ·obtain⟨q,hq,hl,j,-,hp⟩:=(h1.2 t ht).1 h
  exact⟨q,hq,hl,j,hp⟩
 ·rintro⟨q,hq,hl,j,hp⟩
  exact hall j q t hq hl hp ht
def many (l:List Bool):Nat:=l.countP id
theorem all_of_many: ∀ {l:List Bool},l.length≤many l→ ∀t,t<l.length→at_ l t=true
 | [],_,t,ht=>absurd ht (Nat.not_lt_zero _)
 |b::l,h,t,ht=>by
  unfold many at h
  rw[List.countP_cons]at h
  have hl:List.countP id l≤l.length:=List.countP_le_length
  cases b with
  |false=>simp at h;omega
  |true=>
   cases t with
   |zero=>rfl
   |succ t=>
    have:=all_of_many (l:=l) (by unfold many;simp at h;omega) t (by simpa using ht)
    simpa [at_]using this
theorem many_more: ∀ {l k:List Bool},l.length=k.length→(∀t,t<l.length→at_ l t=true→at_ k t=true)→l≠k→many l<many k
 | [],[],_,_,h=>absurd rfl h
 | [],_::_,h,_,_=>by simp at h
 |_::_,[],h,_,_=>by simp at h
 |a::l,b::k,hl,hs,hne=>by
  have hl2:l.length=k.length:=by simpa using hl
  have hs2: ∀t,t<l.length→at_ l t=true→at_ k t=true:=fun t ht h=>by
   have:=hs (t+1) (by simpa using ht) (by simpa [at_]using h)
   simpa [at_]using this
  have hle:many l≤many k:=by
   by_cases e:l=k
   ·rw[e];exact Nat.le_refl _
   ·exact Nat.le_of_lt (many_more hl2 hs2 e)
  unfold many at*
  rw[List.countP_cons,List.countP_cons]
  cases a with
  |true=>
   have hb:b=true:=hs 0 (by simp) rfl
   subst hb
   have:=many_more hl2 hs2 (fun e=>hne (by rw[e]))
   unfold many at this
   simp
   omega
  |false=>
   cases b with
   |true=>simp;omega
   |false=>
    have:=many_more hl2 hs2 (fun e=>hne (by rw[e]))
    unfold many at this
    simp
    omega
theorem many_or {k:List Bool} (h:orL l k≠l):many l<many (orL l k):=
 many_more (orL_len l k).symm (fun t ht he=>by rw[orL_at ht,he,Bool.true_or]) (fun e=>h e.symm)
theorem Img.full {m k:Nat} (h1:Img n (Upto R m k) l l1) (hk:n+1≤many l1):Img n (fun q t=> ∃j,Pow R (m+j) q t) l l1:=by
 refine⟨h1.1,fun t ht=>⟨fun h=> ?_,fun _=>all_of_many (by rw[h1.1];exact hk) t (by rw[h1.1];omega)⟩⟩
 obtain⟨q,hq,hl,j,-,hp⟩:=(h1.2 t ht).1 h
 exact⟨q,hq,hl,j,hp⟩
def places (l:List Bool):List Nat:=(List.range l.length).filter (at_ l)
theorem mem_places {t:Nat}:t∈places l↔t<l.length∧at_ l t=true:=by
 unfold places
 rw[List.mem_filter,List.mem_range]
theorem places_eq {k:List Bool} (hl:l.length=k.length) (h:places l=places k):l=k:=by
 refine List.ext_getElem hl fun i h1 h2=> ?_
 have e1:at_ l i=l[i]:=by unfold at_;rw[List.getD_eq_getElem?_getD,List.getElem?_eq_getElem h1];rfl
 have e2:at_ k i=k[i]:=by unfold at_;rw[List.getD_eq_getElem?_getD,List.getElem?_eq_getElem h2];rfl
 rw[←e1,←e2]
 have h3:i∈places l↔i∈places k:=by rw[h]
 rw[mem_places,mem_places]at h3
 cases ha:at_ l i with
 |true=>exact((h3.1 ⟨h1,ha⟩).2).symm
 |false=>
  cases hb:at_ k i with
  |false=>rfl
  |true=>
   have:=(h3.2 ⟨h2,hb⟩).2
   rw[ha]at this
   cases this
end
/-! pieces -/
theorem E_in {s:Text} {p:Piece} (h:M15.Good p): ∀q t,q≤s.length→E s p q t→t≤s.length:=by
 induction h with
 |leaf k t hk=>
  intro q u hq he
  unfold leaf E at he
  split at he
  ·omega
  ·split at he
   ·obtain⟨h1,c,h2,-⟩:=he
    have:=(List.getElem?_eq_some_iff.1 h2).1
    omega
   ·split at he
    ·omega
    ·rw[if_pos (by omega)]at he
     omega
 |many k hk ks h2 hw ih=>
  intro q u hq he
  rcases hk with rfl|rfl
  ·unfold E at he
   rw[if_neg (by decide),if_neg (by decide),if_neg (by decide),if_neg (by decide),if_pos rfl]at he
   clear h2 hw
   induction ks generalizing q with
   |nil=>rw[Eseq]at he;omega
   |cons p l ihl=>
    rw[Eseq]at he
    obtain⟨v,h3,h4⟩:=he
    exact ihl (fun p hp=>ih p (by simp[hp])) v (ih p (by simp) q v hq h3) h4
  ·unfold E at he
   rw[if_neg (by decide),if_neg (by decide),if_neg (by decide),if_neg (by decide),if_neg (by decide),if_pos rfl]at he
   clear h2 hw
   induction ks with
   |nil=>rw[Ealt]at he;exact he.elim
   |cons p l ihl=>
    rw[Ealt]at he
    rcases he with h3|h3
    ·exact ih p (by simp) q u hq h3
    ·exact ihl (fun p hp=>ih p (by simp[hp])) h3
 |rep p m t hm ht hw ih=>
  intro q u hq he
  unfold E at he
  rw[if_neg (by decide),if_neg (by decide),if_neg (by decide),if_neg (by decide),if_neg (by decide),if_neg (by decide),if_pos rfl]at he
  obtain⟨k,-,-,hp⟩:=he
  refine pow_in (R:=fun q u=>Ehd s [p] q u) (n:=s.length) (fun q t hq h=> ?_) hq hp
  rw[Ehd]at h
  exact ih q t hq h
end M16
namespace W15
open Strs Recs M15
open M14 (Piece size sizes)
open W14 (Raw rawA rawC PAt PBox Kids below_new cell_block own_same own_form)
open Row256 (Beside)
abbrev way (g b:Nat):Value:= .func (.func g) #[.pointer (some ⟨b,0,none⟩)] #[]
def layA (b:Nat) (v:Value):Array Value:= #[v,.nilFunc,way 61 b,way 62 b,way 63 b,way 64 b,way 65 b,way 66 b,way 67 b,way 68 b,way 69 b]
def LBox (w:World) (b:Nat) (v:Value):Prop:=w.heap[b]? =some (.cells (layA b v) 90 (0,0))
structure Lay (w:World) (b:Nat) (v:Value) (L:List Inst):Prop where
 box:LBox w b v
 own:w.ownsRow (b+1) 62 4 v L.length (L.flatMap insC)
structure Grow (b:Nat) (v v':Value) (w w':World):Prop where
 os:w'.os=w.os
 tape:w'.tape=w.tape
 output:w'.output=w.output
 size:w.heap.size≤w'.heap.size
 block: ∀k,k<w.heap.size→k≠b→v.ownBlock≠some k→w'.heap[k]? =w.heap[k]?
 own: ∀k,v'.ownBlock=some k→v.ownBlock=some k∨w.heap.size≤k
section
variable {w w' w'':World} {b:Nat} {v v' v'':Value} {L M:List Inst}
theorem LBox.lt (h:LBox w b v):b<w.heap.size:=(Array.getElem?_eq_some_iff.1 h).1
theorem LBox.c0 (h:LBox w b v):w.cell? ⟨b,0,none⟩=some v:=cell_of_row w b 0 _ _ _ h
theorem LBox.free (h:LBox w b v) (i:Nat):w.frozen? ⟨b,i,none⟩=false:=frozen_of_row w b i _ _ h
theorem LBox.below (h:LBox w b v) (k:Below w.heap.size w w'):LBox w' b v:=(k.block b h.lt).trans h
theorem LBox.put (h:LBox w b v) (u:Value):LBox (w.setCell ⟨b,0,none⟩ u) b u:=by
 unfold LBox at*
 rw[heap_setCell_same w b 0 _ _ _ h];rfl
theorem Lay.below (h:Lay w b v L) (k:Below w.heap.size w w'):Lay w' b v L:=⟨h.box.below k,own_same h.own fun i _ hi=>k.block i hi⟩
theorem Lay.other (h:Lay w b v L) {c:Nat} (k:Beside c w w') (hb:c≠b) (hv:v.ownBlock≠some c):Lay w' b v L:=by
 refine⟨(k.block b h.box.lt (fun q=>hb q.symm)).trans h.box,?_⟩
 have h1:=h.own
 refine⟨h1.1,?_⟩
 rcases h1.2 with h0|⟨g,cap,cur,e1,hb,hh,rest⟩
 ·exact Or.inl h0
 ·subst e1
  exact Or.inr ⟨g,cap,cur,rfl,hb,(k.block g (Array.getElem?_eq_some_iff.1 hh).1 (fun q=>hv (by subst q;rfl))).trans hh,rest⟩
theorem Lay.own_gt (h:Lay w b v L): ∀k,v.ownBlock=some k→b<k∧k<w.heap.size:=fun k hk=>h.own.lt k hk
theorem Lay.form (h:Lay w b v L): ∃A c,v= .slice A L.length c∧L.length≤c∧c≤maxLen:=(Recs.of_own insC_len rfl h.own).form
theorem Grow.refl (b:Nat) (v:Value) (w:World):Grow b v v w w:=⟨rfl,rfl,rfl,Nat.le_refl _,fun _ _ _ _=>rfl,fun _ h=>Or.inl h⟩
theorem Grow.trans (h:Grow b v v' w w') (k:Grow b v' v'' w' w''):Grow b v v'' w w'':=
 ⟨k.os.trans h.os,k.tape.trans h.tape,k.output.trans h.output,Nat.le_trans h.size k.size,fun i hi e1 e2=>(k.block i (Nat.lt_of_lt_of_le hi h.size) e1 (fun q=>by
  rcases h.own i q with q2|q2
  ·exact e2 q2
  ·omega)).trans (h.block i hi e1 e2),fun i hi=>by
  rcases k.own i hi with q|q
  ·exact h.own i q
  ·exact Or.inr (Nat.le_trans h.size q)⟩
theorem Grow.of (h:Below w.heap.size w w'):Grow b v v w w':=⟨h.os,h.tape,h.output,h.size,fun k hk _ _=>h.block k hk,fun _ q=>Or.inl q⟩
theorem Grow.beside {w0:World} {c:Nat} (h:Grow b v v' w0 w) (k:Beside c w w') (hc:w0.heap.size≤c):Grow b v v' w0 w':=
 ⟨k.os.trans h.os,k.tape.trans h.tape,k.output.trans h.output,Nat.le_trans h.size k.size,fun i hi e1 e2=>(k.block i (Nat.lt_of_lt_of_le hi h.size) (by omega)).trans (h.block i hi e1 e2),h.own⟩
theorem Grow.put {w0:World} {u u':Value} (h:Grow b v v' w0 w) (k:Put u u' w w') (hu: ∀i,u.ownBlock=some i→w0.heap.size≤i):Grow b v v' w0 w':=by
 obtain⟨g1,g2,g3,g4,g5⟩:=k.grown
 exact⟨g1.trans h.os,g2.trans h.tape,g3.trans h.output,Nat.le_trans h.size g4,fun i hi e1 e2=>(g5 i (Nat.lt_of_lt_of_le hi h.size) (fun q=>by have:=hu i q.symm;omega)).trans (h.block i hi e1 e2),h.own⟩
theorem Grow.keeps (h:Grow b v v' w w') (hl:Lay w b v L) {k:Nat} (hk:k<b):w'.heap[k]? =w.heap[k]? :=
 h.block k (Nat.lt_trans hk hl.box.lt) (by omega) (fun q=>by have:=(hl.own_gt k q).1;omega)
theorem Grow.piece {r:Raw} {p:Piece} (h:Grow b v v' w w') (hl:Lay w b v L) (hp:PAt (fun k=>k<b) w r p):PAt (fun k=>k<b) w' r p:=hp.keep (fun _ q=>q) fun _ q=>cell_block (h.keeps hl q)
theorem below_piece {r:Raw} {p:Piece} (h:Below w.heap.size w w') (hb:b<w.heap.size) (hp:PAt (fun k=>k<b) w r p):PAt (fun k=>k<b) w' r p:=hp.keep (fun _ q=>q) fun _ (q:_<b)=>cell_block (h.block _ (Nat.lt_trans q hb))
theorem Lay.more {w1 w2:World} (h:Lay w b v L) (hB:Below w.heap.size w w1) (hown:w2.ownsRow (b+1) 62 4 v' (L++M).length ((L++M).flatMap insC)) (hp:Put v v' w1 w2):
    LBox w2 b v∧Lay (w2.setCell ⟨b,0,none⟩ v') b v' (L++M)∧Grow b v v' w (w2.setCell ⟨b,0,none⟩ v'):=by
 obtain⟨g1,g2,g3,g4,g5⟩:=hp.grown
 have h1:=h.below hB
 have hb2:LBox w2 b v:=(g5 b h1.box.lt (fun q=>by have:=(h.own_gt b q.symm).1;omega)).trans h1.box
 refine⟨hb2,⟨hb2.put v',own_same hown fun k hk _=>heap_setCell_other w2 _ k _ (show k≠b by omega)⟩,⟨g1.trans hB.os,g2.trans hB.tape,g3.trans hB.output,?_,?_,?_⟩⟩
 ·rw[World.size_setCell];exact Nat.le_trans hB.size g4
 ·intro k hk e1 e2
  rw[heap_setCell_other w2 _ k _ e1,g5 k (Nat.lt_of_lt_of_le hk hB.size) (fun q=>e2 q.symm),hB.block k hk]
 ·intro k hk
  rcases hp.own k hk with q|q
  ·exact Or.inl q
  ·exact Or.inr (Nat.le_trans hB.size q)
end
def Laid (b:Nat) (v:Value) (w:World) (L:List Inst) (e:Ending) (w':World):Prop:=e= .returned (.tuple #[])∧ ∃v',Lay w' b v' L∧Grow b v v' w w'
def LaidAt (b:Nat) (v:Value) (w:World) (n:Nat) (L:List Inst) (e:Ending) (w':World):Prop:=e= .returned (.int .i64 n)∧ ∃v',Lay w' b v' L∧Grow b v v' w w'
theorem here_any {w:World} {b:Nat} {v:Value} {L:List Inst} (h:Lay w b v L):Calls Tryz.prog 82 #[.pointer (some ⟨b,0,none⟩)] w fun e w'=>e= .returned (.int .i64 L.length)∧w'=w:=by
 obtain⟨A,c,rfl,h1,h2⟩:=h.form
 have c0:=h.box.c0
 unfold maxLen at h2
 clear h
 go_enter Tryz.func82,Tryz.ntmps82
 go_wp2_with fail
 go_ret
 exact⟨rfl,rfl⟩
theorem step_any {w:World} {b:Nat} {v:Value} {L:List Inst} (h:Lay w b v L) (hl:L.length≤900000) (k:Int) (t:ByteArray):Calls Tryz.prog 80 #[.pointer (some ⟨b,0,none⟩),.int .i64 k,.string t] w (LaidAt b v w L.length (L++ [⟨k,t,(L.length+1:Nat),0⟩])):=by
 have HE:=hid (here_any h)
 have H:=hid h
 have hw:wrap64 ((L.length:Int)+1)=((L.length+1:Nat):Int):=by unfold wrap64;omega
 obtain⟨n,hn⟩: ∃n,L.length+1=n:=⟨_,rfl⟩
 rw[hn]at hw ⊢
 obtain⟨m,hm⟩: ∃m,L.length=m:=⟨_,rfl⟩
 have HM:=hid hm
 rw[hm]at HE hw hl ⊢
 have HW:=hid hw
 have HL:=hid hl
 have hc0:=h.box.c0
 have hf:=h.box.free 0
 clear h hn hm hl
 go_enter Tryz.func80,Tryz.ntmps80
 go_wp2_with fail
 refine HE.out.mono ?_
 rintro e w' ⟨rfl,rfl⟩
 go_wp2_with (first
  |(refine slice_ins (r:=⟨k,t,(n:Nat),0⟩) rfl (.tmp 19) rfl rfl ?_;intro w1 b1 e1 p1 l1 z1 o1;have P1:=hid p1;have L1:=hid l1;clear e1 p1 l1 z1 o1)
  |(refine append_ins rfl (.tmp 14) (.tmp 20) rfl rfl rfl (H.out.below L1.out).own P1.out (by rw[HM.out];simp only[List.length_cons,List.length_nil];have:=HL.out;omega) (Nat.le_trans H.out.box.lt L1.out.size) ?_;intro v' w2 o2 p2;obtain⟨g2,c2,rfl,-,-,-,-⟩:=own_form o2 (by simp);have R2:=hid (H.out.more L1.out o2 p2);obtain⟨q2,hq2⟩: ∃q2,(L++ [(⟨k,t,(n:Nat),0⟩:Inst)]).length=q2:=⟨_,rfl⟩;rw[hq2]at R2 ⊢;clear hq2;have hf2:=R2.out.1.free 0;have hc2:=R2.out.1.c0;clear o2 p2))
 go_ret
 exact⟨rfl,_,R2.out.2⟩
theorem jump_any {w:World} {b:Nat} {v:Value} {L:List Inst} (h:Lay w b v L) (hl:L.length≤900000) (to:Nat):Calls Tryz.prog 81 #[.pointer (some ⟨b,0,none⟩),.int .i64 to] w (LaidAt b v w L.length (L++ [M15.jump to])):=by
 have HE:=hid (here_any h)
 have H:=hid h
 unfold M15.jump no
 obtain⟨m,hm⟩: ∃m,L.length=m:=⟨_,rfl⟩
 have HM:=hid hm
 rw[hm]at HE hl ⊢
 have HL:=hid hl
 have hc0:=h.box.c0
 have hf:=h.box.free 0
 clear h hm hl
 go_enter Tryz.func81,Tryz.ntmps81
 go_wp2_with fail
 refine HE.out.mono ?_
 rintro e w' ⟨rfl,rfl⟩
 go_wp2_with (first
  |(refine slice_ins (r:=⟨8,⟨#[]⟩,(to:Nat),0⟩) rfl (.tmp 14) rfl rfl ?_;intro w1 b1 e1 p1 l1 z1 o1;have P1:=hid p1;have L1:=hid l1;clear e1 p1 l1 z1 o1)
  |(refine append_ins rfl (.tmp 12) (.tmp 15) rfl rfl rfl (H.out.below L1.out).own P1.out (by rw[HM.out];simp only[List.length_cons,List.length_nil];have:=HL.out;omega) (Nat.le_trans H.out.box.lt L1.out.size) ?_;intro v' w2 o2 p2;obtain⟨g2,c2,rfl,-,-,-,-⟩:=own_form o2 (by simp);have R2:=hid (H.out.more L1.out o2 p2);obtain⟨q2,hq2⟩: ∃q2,(L++ [(⟨8,⟨#[]⟩,(to:Nat),0⟩:Inst)]).length=q2:=⟨_,rfl⟩;rw[hq2]at R2 ⊢;clear hq2;have hf2:=R2.out.1.free 0;have hc2:=R2.out.1.c0;clear o2 p2))
 go_ret
 exact⟨rfl,_,R2.out.2⟩
end W15
namespace W15
open Strs Recs M15
open M14 (Piece size sizes)
open W14 (Raw rawA rawC PAt PBox Kids below_new cell_block own_same own_form box_arg load_piece run_load_op)
open Row256 (Beside)
open Kit (below_draws on)
def Does (f:Nat) (b:Nat) (v:Value) (L:List Inst) (r:Raw) (p:Piece) (N:List Inst) (w:World):Prop:=
 Lay w b v L→PAt (fun k=>k<b) w r p→Calls Tryz.prog f #[.pointer (some ⟨b,0,none⟩),.agg (rawA r)] w (Laid b v w N)
theorem Laid.on {w w1 w2:World} {b:Nat} {v:Value} {L:List Inst} {e:Ending} (hb:Below w.heap.size w w1) (h:Laid b v w1 L e w2):Laid b v w L e w2:=by
 obtain⟨rfl,v',h1,h2⟩:=h
 exact⟨rfl,v',h1,(Grow.of hb).trans h2⟩
theorem empty_any {w:World} {b:Nat} {v:Value} {L:List Inst} (h:Lay w b v L) (r:Raw):Calls Tryz.prog 61 #[.pointer (some ⟨b,0,none⟩),.agg (rawA r)] w (Laid b v w L):=by
 have H:=hid h
 clear h
 go_enter Tryz.func61,Tryz.ntmps61
 go_wp2_with (first
  |(refine box_arg (r:=r) rfl (.tmp 1) rfl rfl ?_;intro w1 b1 e1 p1 l1 z1;have L1:=hid l1;clear e1 p1 l1 z1))
 go_end0
 exact⟨rfl,v,H.out.below L1.out,Grow.of L1.out⟩
theorem char_any {w:World} {b:Nat} {v:Value} {L:List Inst} (h:Lay w b v L) (hl:L.length≤900000) (r:Raw):Calls Tryz.prog 62 #[.pointer (some ⟨b,0,none⟩),.agg (rawA r)] w (Laid b v w (L++ [one 1 r.text L.length])):=by
 have H:=hid h
 have HL:=hid hl
 clear h hl
 go_enter Tryz.func62,Tryz.ntmps62
 go_wp2_with (first
  |(refine box_arg (r:=r) rfl (.tmp 1) rfl rfl ?_;intro w1 b1 e1 p1 l1 z1;have a1:=p1.c1;have L1:=hid l1;clear e1 p1 l1 z1))
 refine(step_any (H.out.below L1.out) HL.out 1 r.text).mono ?_
 rintro e w2 ⟨rfl,v',h1,h2⟩
 have HH:=hid h1
 have GG:=hid ((Grow.of L1.out).trans h2)
 clear h1 h2
 go_wp2_with fail
 go_end0
 exact⟨rfl,v',HH.out,GG.out⟩
theorem any_any {w:World} {b:Nat} {v:Value} {L:List Inst} (h:Lay w b v L) (hl:L.length≤900000) (r:Raw):Calls Tryz.prog 63 #[.pointer (some ⟨b,0,none⟩),.agg (rawA r)] w (Laid b v w (L++ [one 2 ⟨#[]⟩ L.length])):=by
 have H:=hid h
 have HL:=hid hl
 clear h hl
 go_enter Tryz.func63,Tryz.ntmps63
 go_wp2_with (first
  |(refine box_arg (r:=r) rfl (.tmp 1) rfl rfl ?_;intro w1 b1 e1 p1 l1 z1;have a1:=p1.c1;have L1:=hid l1;clear e1 p1 l1 z1))
 refine(step_any (H.out.below L1.out) HL.out 2 ⟨#[]⟩).mono ?_
 rintro e w2 ⟨rfl,v',h1,h2⟩
 have HH:=hid h1
 have GG:=hid ((Grow.of L1.out).trans h2)
 clear h1 h2
 go_wp2_with fail
 go_end0
 exact⟨rfl,v',HH.out,GG.out⟩
theorem set_any {w:World} {b:Nat} {v:Value} {L:List Inst} (h:Lay w b v L) (hl:L.length≤900000) (r:Raw):Calls Tryz.prog 64 #[.pointer (some ⟨b,0,none⟩),.agg (rawA r)] w (Laid b v w (L++ [one 3 r.text L.length])):=by
 have H:=hid h
 have HL:=hid hl
 clear h hl
 go_enter Tryz.func64,Tryz.ntmps64
 go_wp2_with (first
  |(refine box_arg (r:=r) rfl (.tmp 1) rfl rfl ?_;intro w1 b1 e1 p1 l1 z1;have a1:=p1.c1;have L1:=hid l1;clear e1 p1 l1 z1))
 refine(step_any (H.out.below L1.out) HL.out 3 r.text).mono ?_
 rintro e w2 ⟨rfl,v',h1,h2⟩
 have HH:=hid h1
 have GG:=hid ((Grow.of L1.out).trans h2)
 clear h1 h2
 go_wp2_with fail
 go_end0
 exact⟨rfl,v',HH.out,GG.out⟩
theorem begin_any {w:World} {b:Nat} {v:Value} {L:List Inst} (h:Lay w b v L) (hl:L.length≤900000) (r:Raw):Calls Tryz.prog 65 #[.pointer (some ⟨b,0,none⟩),.agg (rawA r)] w (Laid b v w (L++ [one 4 ⟨#[]⟩ L.length])):=by
 have H:=hid h
 have HL:=hid hl
 clear h hl
 go_enter Tryz.func65,Tryz.ntmps65
 go_wp2_with (first
  |(refine box_arg (r:=r) rfl (.tmp 1) rfl rfl ?_;intro w1 b1 e1 p1 l1 z1;have a1:=p1.c1;have L1:=hid l1;clear e1 p1 l1 z1))
 refine(step_any (H.out.below L1.out) HL.out 4 ⟨#[]⟩).mono ?_
 rintro e w2 ⟨rfl,v',h1,h2⟩
 have HH:=hid h1
 have GG:=hid ((Grow.of L1.out).trans h2)
 clear h1 h2
 go_wp2_with fail
 go_end0
 exact⟨rfl,v',HH.out,GG.out⟩
theorem end_any {w:World} {b:Nat} {v:Value} {L:List Inst} (h:Lay w b v L) (hl:L.length≤900000) (r:Raw):Calls Tryz.prog 66 #[.pointer (some ⟨b,0,none⟩),.agg (rawA r)] w (Laid b v w (L++ [one 5 ⟨#[]⟩ L.length])):=by
 have H:=hid h
 have HL:=hid hl
 clear h hl
 go_enter Tryz.func66,Tryz.ntmps66
 go_wp2_with (first
  |(refine box_arg (r:=r) rfl (.tmp 1) rfl rfl ?_;intro w1 b1 e1 p1 l1 z1;have a1:=p1.c1;have L1:=hid l1;clear e1 p1 l1 z1))
 refine(step_any (H.out.below L1.out) HL.out 5 ⟨#[]⟩).mono ?_
 rintro e w2 ⟨rfl,v',h1,h2⟩
 have HH:=hid h1
 have GG:=hid ((Grow.of L1.out).trans h2)
 clear h1 h2
 go_wp2_with fail
 go_end0
 exact⟨rfl,v',HH.out,GG.out⟩
theorem lay_empty {w:World} {b:Nat} {v:Value} {L N:List Inst} {t:ByteArray} {A:Option Addr} {n c:Nat} {m tp:Int} {p:Piece} (h:Lay w b v L) (hp:PAt (fun k=>k<b) w ⟨1,t,A,n,c,m,tp⟩ p) (hC: ∀w,Does 61 b v L ⟨1,t,A,n,c,m,tp⟩ p N w):Calls Tryz.prog 47 #[.pointer (some ⟨b,0,none⟩),.agg (rawA ⟨1,t,A,n,c,m,tp⟩)] w (Laid b v w N):=by
 have H:=hid h
 have HP:=hid hp
 have HX:=hid hC
 clear h hp hC
 go_enter Tryz.func47,Tryz.ntmps47
 go_wp2_with (first
  |(refine box_arg (r:=⟨1,t,A,n,c,m,tp⟩) rfl (.tmp 1) rfl rfl ?_;intro w1 b1 e1 p1 l1 z1;have P1:=hid p1;have L1:=hid l1;have E1:=hid e1;clear e1 p1 l1 z1))
 have L2:=hid (on L1.out (below_draws w1 1))
 have H2:=hid (H.out.below L2.out)
 have HC:=hid (HX.out (w1.drewN 1) H2.out (below_piece L2.out H.out.box.lt HP.out))
 have S0:Hid ((w1.drewN 1).cell? ⟨b1,0,none⟩=some (.int .i64 1)∧(w1.drewN 1).cell? ⟨b,2,none⟩=some (way 61 b)∧PBox (w1.drewN 1) b1 ⟨1,t,A,n,c,m,tp⟩):=⟨P1.out.c0,cell_of_row _ b 2 _ _ _ H2.out.box,P1.out⟩
 have KEEP:Hid (∀v' x1,Lay x1 b v' N→Grow b v v' (w1.drewN 1) x1→x1.cell? ⟨b1,0,none⟩=some (.int .i64 1)∧x1.cell? ⟨b,2,none⟩=some (way 61 b)∧PBox x1 b1 ⟨1,t,A,n,c,m,tp⟩):=fun v' x1 h1 h2=>by
  have hb:PBox x1 b1 ⟨1,t,A,n,c,m,tp⟩:=(h2.block b1 P1.out.lt (by have:=E1.out;have:=H.out.box.lt;omega) (fun q=>by have:=(H.out.own_gt b1 q).2;have:=E1.out;omega)).trans P1.out
  exact⟨hb.c0,cell_of_row _ b 2 _ _ _ h1.box,hb⟩
 refine wp_region_held_drew (S:=fun w'=>w'.cell? ⟨b1,0,none⟩=some (.int .i64 1)∧w'.cell? ⟨b,2,none⟩=some (way 61 b)∧PBox w' b1 ⟨1,t,A,n,c,m,tp⟩) (by kernel_rfl) S0.out (fun hHeld=> ?_)
 refine Take.k 0 ⟨some 4,.move (.tmp 0),_,_,_,none⟩ ?_
 refine Take.k 1 ⟨some 5,.fieldAddr 25 (.tmp 3) 0,_,_,_,none⟩ ?_
 refine Take.k 2 ⟨some 6,.load 3 (.tmp 5),_,_,_,none⟩ ?_
 refine Take.k 3 ⟨some 7,.nilCheck (.tmp 4),_,_,_,none⟩ ?_
 refine Take.k 4 ⟨some 8,.fieldAddr 90 (.tmp 7) 1,_,_,_,none⟩ ?_
 refine Take.k 5 ⟨some 9,.indexAddr 88 (.tmp 8) (.tmp 6),_,_,_,none⟩ ?_
 refine Take.k 6 ⟨some 10,.load 87 (.tmp 9),_,_,_,none⟩ ?_
 refine Take.k 7 ⟨some 11,.load 25 (.tmp 3),_,_,_,none⟩ ?_ (hy:=Or.inl ⟨by rfl,by(intro w hSw;(try dsimp only at hSw);refine run_load_op (.tmp 3) ?_ ?_ hSw.2.2.cells<;>rfl)⟩)
 refine wpAnyH_ready (rs:= [8]) (by kernel_rfl) (by simp) ?_
 refine AllReadyH.cons (o:=⟨some 12,.call ⟨.value (.tmp 10), #[.tmp 11], #[25]⟩,_,_,_,none⟩) rfl (fun K hK=> ?_) AllReadyH.nil
 go_simp
 (go_at_call 61;refine HC.out.mono ?_;rintro e x1 ⟨rfl,v',h1,h2⟩;have HH:=hid h1;have GG:=hid h2;have hS1:=KEEP.out v' x1 h1 h2;clear h1 h2)
 go_wp2_with fail
 refine hK.out _ _ ?_ (fun hHeld=> ?_)
 ·exact hS1
 clear hK K
 try simp only[Act.put,Take.a,Take.b,Take.c]
 refine wpAnyH_done (by kernel_rfl) ?_ _
 go_wp2_with fail
 go_end0
 exact⟨rfl,_,HH.out,(Grow.of L2.out).trans GG.out⟩
theorem lay_char {w:World} {b:Nat} {v:Value} {L N:List Inst} {t:ByteArray} {A:Option Addr} {n c:Nat} {m tp:Int} {p:Piece} (h:Lay w b v L) (hp:PAt (fun k=>k<b) w ⟨2,t,A,n,c,m,tp⟩ p) (hC: ∀w,Does 62 b v L ⟨2,t,A,n,c,m,tp⟩ p N w):Calls Tryz.prog 47 #[.pointer (some ⟨b,0,none⟩),.agg (rawA ⟨2,t,A,n,c,m,tp⟩)] w (Laid b v w N):=by
 have H:=hid h
 have HP:=hid hp
 have HX:=hid hC
 clear h hp hC
 go_enter Tryz.func47,Tryz.ntmps47
 go_wp2_with (first
  |(refine box_arg (r:=⟨2,t,A,n,c,m,tp⟩) rfl (.tmp 1) rfl rfl ?_;intro w1 b1 e1 p1 l1 z1;have P1:=hid p1;have L1:=hid l1;have E1:=hid e1;clear e1 p1 l1 z1))
 have L2:=hid (on L1.out (below_draws w1 1))
 have H2:=hid (H.out.below L2.out)
 have HC:=hid (HX.out (w1.drewN 1) H2.out (below_piece L2.out H.out.box.lt HP.out))
 have S0:Hid ((w1.drewN 1).cell? ⟨b1,0,none⟩=some (.int .i64 2)∧(w1.drewN 1).cell? ⟨b,3,none⟩=some (way 62 b)∧PBox (w1.drewN 1) b1 ⟨2,t,A,n,c,m,tp⟩):=⟨P1.out.c0,cell_of_row _ b 3 _ _ _ H2.out.box,P1.out⟩
 have KEEP:Hid (∀v' x1,Lay x1 b v' N→Grow b v v' (w1.drewN 1) x1→x1.cell? ⟨b1,0,none⟩=some (.int .i64 2)∧x1.cell? ⟨b,3,none⟩=some (way 62 b)∧PBox x1 b1 ⟨2,t,A,n,c,m,tp⟩):=fun v' x1 h1 h2=>by
  have hb:PBox x1 b1 ⟨2,t,A,n,c,m,tp⟩:=(h2.block b1 P1.out.lt (by have:=E1.out;have:=H.out.box.lt;omega) (fun q=>by have:=(H.out.own_gt b1 q).2;have:=E1.out;omega)).trans P1.out
  exact⟨hb.c0,cell_of_row _ b 3 _ _ _ h1.box,hb⟩
 refine wp_region_held_drew (S:=fun w'=>w'.cell? ⟨b1,0,none⟩=some (.int .i64 2)∧w'.cell? ⟨b,3,none⟩=some (way 62 b)∧PBox w' b1 ⟨2,t,A,n,c,m,tp⟩) (by kernel_rfl) S0.out (fun hHeld=> ?_)
 refine Take.k 0 ⟨some 4,.move (.tmp 0),_,_,_,none⟩ ?_
 refine Take.k 1 ⟨some 5,.fieldAddr 25 (.tmp 3) 0,_,_,_,none⟩ ?_
 refine Take.k 2 ⟨some 6,.load 3 (.tmp 5),_,_,_,none⟩ ?_
 refine Take.k 3 ⟨some 7,.nilCheck (.tmp 4),_,_,_,none⟩ ?_
 refine Take.k 4 ⟨some 8,.fieldAddr 90 (.tmp 7) 1,_,_,_,none⟩ ?_
 refine Take.k 5 ⟨some 9,.indexAddr 88 (.tmp 8) (.tmp 6),_,_,_,none⟩ ?_
 refine Take.k 6 ⟨some 10,.load 87 (.tmp 9),_,_,_,none⟩ ?_
 refine Take.k 7 ⟨some 11,.load 25 (.tmp 3),_,_,_,none⟩ ?_ (hy:=Or.inl ⟨by rfl,by(intro w hSw;(try dsimp only at hSw);refine run_load_op (.tmp 3) ?_ ?_ hSw.2.2.cells<;>rfl)⟩)
 refine wpAnyH_ready (rs:= [8]) (by kernel_rfl) (by simp) ?_
 refine AllReadyH.cons (o:=⟨some 12,.call ⟨.value (.tmp 10), #[.tmp 11], #[25]⟩,_,_,_,none⟩) rfl (fun K hK=> ?_) AllReadyH.nil
 go_simp
 (go_at_call 62;refine HC.out.mono ?_;rintro e x1 ⟨rfl,v',h1,h2⟩;have HH:=hid h1;have GG:=hid h2;have hS1:=KEEP.out v' x1 h1 h2;clear h1 h2)
 go_wp2_with fail
 refine hK.out _ _ ?_ (fun hHeld=> ?_)
 ·exact hS1
 clear hK K
 try simp only[Act.put,Take.a,Take.b,Take.c]
 refine wpAnyH_done (by kernel_rfl) ?_ _
 go_wp2_with fail
 go_end0
 exact⟨rfl,_,HH.out,(Grow.of L2.out).trans GG.out⟩
theorem lay_any {w:World} {b:Nat} {v:Value} {L N:List Inst} {t:ByteArray} {A:Option Addr} {n c:Nat} {m tp:Int} {p:Piece} (h:Lay w b v L) (hp:PAt (fun k=>k<b) w ⟨3,t,A,n,c,m,tp⟩ p) (hC: ∀w,Does 63 b v L ⟨3,t,A,n,c,m,tp⟩ p N w):Calls Tryz.prog 47 #[.pointer (some ⟨b,0,none⟩),.agg (rawA ⟨3,t,A,n,c,m,tp⟩)] w (Laid b v w N):=by
 have H:=hid h
 have HP:=hid hp
 have HX:=hid hC
 clear h hp hC
 go_enter Tryz.func47,Tryz.ntmps47
 go_wp2_with (first
  |(refine box_arg (r:=⟨3,t,A,n,c,m,tp⟩) rfl (.tmp 1) rfl rfl ?_;intro w1 b1 e1 p1 l1 z1;have P1:=hid p1;have L1:=hid l1;have E1:=hid e1;clear e1 p1 l1 z1))
 have L2:=hid (on L1.out (below_draws w1 1))
 have H2:=hid (H.out.below L2.out)
 have HC:=hid (HX.out (w1.drewN 1) H2.out (below_piece L2.out H.out.box.lt HP.out))
 have S0:Hid ((w1.drewN 1).cell? ⟨b1,0,none⟩=some (.int .i64 3)∧(w1.drewN 1).cell? ⟨b,4,none⟩=some (way 63 b)∧PBox (w1.drewN 1) b1 ⟨3,t,A,n,c,m,tp⟩):=⟨P1.out.c0,cell_of_row _ b 4 _ _ _ H2.out.box,P1.out⟩
 have KEEP:Hid (∀v' x1,Lay x1 b v' N→Grow b v v' (w1.drewN 1) x1→x1.cell? ⟨b1,0,none⟩=some (.int .i64 3)∧x1.cell? ⟨b,4,none⟩=some (way 63 b)∧PBox x1 b1 ⟨3,t,A,n,c,m,tp⟩):=fun v' x1 h1 h2=>by
  have hb:PBox x1 b1 ⟨3,t,A,n,c,m,tp⟩:=(h2.block b1 P1.out.lt (by have:=E1.out;have:=H.out.box.lt;omega) (fun q=>by have:=(H.out.own_gt b1 q).2;have:=E1.out;omega)).trans P1.out
  exact⟨hb.c0,cell_of_row _ b 4 _ _ _ h1.box,hb⟩
 refine wp_region_held_drew (S:=fun w'=>w'.cell? ⟨b1,0,none⟩=some (.int .i64 3)∧w'.cell? ⟨b,4,none⟩=some (way 63 b)∧PBox w' b1 ⟨3,t,A,n,c,m,tp⟩) (by kernel_rfl) S0.out (fun hHeld=> ?_)
 refine Take.k 0 ⟨some 4,.move (.tmp 0),_,_,_,none⟩ ?_
 refine Take.k 1 ⟨some 5,.fieldAddr 25 (.tmp 3) 0,_,_,_,none⟩ ?_
 refine Take.k 2 ⟨some 6,.load 3 (.tmp 5),_,_,_,none⟩ ?_
 refine Take.k 3 ⟨some 7,.nilCheck (.tmp 4),_,_,_,none⟩ ?_
 refine Take.k 4 ⟨some 8,.fieldAddr 90 (.tmp 7) 1,_,_,_,none⟩ ?_
 refine Take.k 5 ⟨some 9,.indexAddr 88 (.tmp 8) (.tmp 6),_,_,_,none⟩ ?_
 refine Take.k 6 ⟨some 10,.load 87 (.tmp 9),_,_,_,none⟩ ?_
 refine Take.k 7 ⟨some 11,.load 25 (.tmp 3),_,_,_,none⟩ ?_ (hy:=Or.inl ⟨by rfl,by(intro w hSw;(try dsimp only at hSw);refine run_load_op (.tmp 3) ?_ ?_ hSw.2.2.cells<;>rfl)⟩)
 refine wpAnyH_ready (rs:= [8]) (by kernel_rfl) (by simp) ?_
 refine AllReadyH.cons (o:=⟨some 12,.call ⟨.value (.tmp 10), #[.tmp 11], #[25]⟩,_,_,_,none⟩) rfl (fun K hK=> ?_) AllReadyH.nil
 go_simp
 (go_at_call 63;refine HC.out.mono ?_;rintro e x1 ⟨rfl,v',h1,h2⟩;have HH:=hid h1;have GG:=hid h2;have hS1:=KEEP.out v' x1 h1 h2;clear h1 h2)
 go_wp2_with fail
 refine hK.out _ _ ?_ (fun hHeld=> ?_)
 ·exact hS1
 clear hK K
 try simp only[Act.put,Take.a,Take.b,Take.c]
 refine wpAnyH_done (by kernel_rfl) ?_ _
 go_wp2_with fail
 go_end0
 exact⟨rfl,_,HH.out,(Grow.of L2.out).trans GG.out⟩
theorem lay_set {w:World} {b:Nat} {v:Value} {L N:List Inst} {t:ByteArray} {A:Option Addr} {n c:Nat} {m tp:Int} {p:Piece} (h:Lay w b v L) (hp:PAt (fun k=>k<b) w ⟨4,t,A,n,c,m,tp⟩ p) (hC: ∀w,Does 64 b v L ⟨4,t,A,n,c,m,tp⟩ p N w):Calls Tryz.prog 47 #[.pointer (some ⟨b,0,none⟩),.agg (rawA ⟨4,t,A,n,c,m,tp⟩)] w (Laid b v w N):=by
 have H:=hid h
 have HP:=hid hp
 have HX:=hid hC
 clear h hp hC
 go_enter Tryz.func47,Tryz.ntmps47
 go_wp2_with (first
  |(refine box_arg (r:=⟨4,t,A,n,c,m,tp⟩) rfl (.tmp 1) rfl rfl ?_;intro w1 b1 e1 p1 l1 z1;have P1:=hid p1;have L1:=hid l1;have E1:=hid e1;clear e1 p1 l1 z1))
 have L2:=hid (on L1.out (below_draws w1 1))
 have H2:=hid (H.out.below L2.out)
 have HC:=hid (HX.out (w1.drewN 1) H2.out (below_piece L2.out H.out.box.lt HP.out))
 have S0:Hid ((w1.drewN 1).cell? ⟨b1,0,none⟩=some (.int .i64 4)∧(w1.drewN 1).cell? ⟨b,5,none⟩=some (way 64 b)∧PBox (w1.drewN 1) b1 ⟨4,t,A,n,c,m,tp⟩):=⟨P1.out.c0,cell_of_row _ b 5 _ _ _ H2.out.box,P1.out⟩
 have KEEP:Hid (∀v' x1,Lay x1 b v' N→Grow b v v' (w1.drewN 1) x1→x1.cell? ⟨b1,0,none⟩=some (.int .i64 4)∧x1.cell? ⟨b,5,none⟩=some (way 64 b)∧PBox x1 b1 ⟨4,t,A,n,c,m,tp⟩):=fun v' x1 h1 h2=>by
  have hb:PBox x1 b1 ⟨4,t,A,n,c,m,tp⟩:=(h2.block b1 P1.out.lt (by have:=E1.out;have:=H.out.box.lt;omega) (fun q=>by have:=(H.out.own_gt b1 q).2;have:=E1.out;omega)).trans P1.out
  exact⟨hb.c0,cell_of_row _ b 5 _ _ _ h1.box,hb⟩
 refine wp_region_held_drew (S:=fun w'=>w'.cell? ⟨b1,0,none⟩=some (.int .i64 4)∧w'.cell? ⟨b,5,none⟩=some (way 64 b)∧PBox w' b1 ⟨4,t,A,n,c,m,tp⟩) (by kernel_rfl) S0.out (fun hHeld=> ?_)
 refine Take.k 0 ⟨some 4,.move (.tmp 0),_,_,_,none⟩ ?_
 refine Take.k 1 ⟨some 5,.fieldAddr 25 (.tmp 3) 0,_,_,_,none⟩ ?_
 refine Take.k 2 ⟨some 6,.load 3 (.tmp 5),_,_,_,none⟩ ?_
 refine Take.k 3 ⟨some 7,.nilCheck (.tmp 4),_,_,_,none⟩ ?_
 refine Take.k 4 ⟨some 8,.fieldAddr 90 (.tmp 7) 1,_,_,_,none⟩ ?_
 refine Take.k 5 ⟨some 9,.indexAddr 88 (.tmp 8) (.tmp 6),_,_,_,none⟩ ?_
 refine Take.k 6 ⟨some 10,.load 87 (.tmp 9),_,_,_,none⟩ ?_
 refine Take.k 7 ⟨some 11,.load 25 (.tmp 3),_,_,_,none⟩ ?_ (hy:=Or.inl ⟨by rfl,by(intro w hSw;(try dsimp only at hSw);refine run_load_op (.tmp 3) ?_ ?_ hSw.2.2.cells<;>rfl)⟩)
 refine wpAnyH_ready (rs:= [8]) (by kernel_rfl) (by simp) ?_
 refine AllReadyH.cons (o:=⟨some 12,.call ⟨.value (.tmp 10), #[.tmp 11], #[25]⟩,_,_,_,none⟩) rfl (fun K hK=> ?_) AllReadyH.nil
 go_simp
 (go_at_call 64;refine HC.out.mono ?_;rintro e x1 ⟨rfl,v',h1,h2⟩;have HH:=hid h1;have GG:=hid h2;have hS1:=KEEP.out v' x1 h1 h2;clear h1 h2)
 go_wp2_with fail
 refine hK.out _ _ ?_ (fun hHeld=> ?_)
 ·exact hS1
 clear hK K
 try simp only[Act.put,Take.a,Take.b,Take.c]
 refine wpAnyH_done (by kernel_rfl) ?_ _
 go_wp2_with fail
 go_end0
 exact⟨rfl,_,HH.out,(Grow.of L2.out).trans GG.out⟩
theorem lay_begin {w:World} {b:Nat} {v:Value} {L N:List Inst} {t:ByteArray} {A:Option Addr} {n c:Nat} {m tp:Int} {p:Piece} (h:Lay w b v L) (hp:PAt (fun k=>k<b) w ⟨5,t,A,n,c,m,tp⟩ p) (hC: ∀w,Does 65 b v L ⟨5,t,A,n,c,m,tp⟩ p N w):Calls Tryz.prog 47 #[.pointer (some ⟨b,0,none⟩),.agg (rawA ⟨5,t,A,n,c,m,tp⟩)] w (Laid b v w N):=by
 have H:=hid h
 have HP:=hid hp
 have HX:=hid hC
 clear h hp hC
 go_enter Tryz.func47,Tryz.ntmps47
 go_wp2_with (first
  |(refine box_arg (r:=⟨5,t,A,n,c,m,tp⟩) rfl (.tmp 1) rfl rfl ?_;intro w1 b1 e1 p1 l1 z1;have P1:=hid p1;have L1:=hid l1;have E1:=hid e1;clear e1 p1 l1 z1))
 have L2:=hid (on L1.out (below_draws w1 1))
 have H2:=hid (H.out.below L2.out)
 have HC:=hid (HX.out (w1.drewN 1) H2.out (below_piece L2.out H.out.box.lt HP.out))
 have S0:Hid ((w1.drewN 1).cell? ⟨b1,0,none⟩=some (.int .i64 5)∧(w1.drewN 1).cell? ⟨b,6,none⟩=some (way 65 b)∧PBox (w1.drewN 1) b1 ⟨5,t,A,n,c,m,tp⟩):=⟨P1.out.c0,cell_of_row _ b 6 _ _ _ H2.out.box,P1.out⟩
 have KEEP:Hid (∀v' x1,Lay x1 b v' N→Grow b v v' (w1.drewN 1) x1→x1.cell? ⟨b1,0,none⟩=some (.int .i64 5)∧x1.cell? ⟨b,6,none⟩=some (way 65 b)∧PBox x1 b1 ⟨5,t,A,n,c,m,tp⟩):=fun v' x1 h1 h2=>by
  have hb:PBox x1 b1 ⟨5,t,A,n,c,m,tp⟩:=(h2.block b1 P1.out.lt (by have:=E1.out;have:=H.out.box.lt;omega) (fun q=>by have:=(H.out.own_gt b1 q).2;have:=E1.out;omega)).trans P1.out
  exact⟨hb.c0,cell_of_row _ b 6 _ _ _ h1.box,hb⟩
 refine wp_region_held_drew (S:=fun w'=>w'.cell? ⟨b1,0,none⟩=some (.int .i64 5)∧w'.cell? ⟨b,6,none⟩=some (way 65 b)∧PBox w' b1 ⟨5,t,A,n,c,m,tp⟩) (by kernel_rfl) S0.out (fun hHeld=> ?_)
 refine Take.k 0 ⟨some 4,.move (.tmp 0),_,_,_,none⟩ ?_
 refine Take.k 1 ⟨some 5,.fieldAddr 25 (.tmp 3) 0,_,_,_,none⟩ ?_
 refine Take.k 2 ⟨some 6,.load 3 (.tmp 5),_,_,_,none⟩ ?_
 refine Take.k 3 ⟨some 7,.nilCheck (.tmp 4),_,_,_,none⟩ ?_
 refine Take.k 4 ⟨some 8,.fieldAddr 90 (.tmp 7) 1,_,_,_,none⟩ ?_
 refine Take.k 5 ⟨some 9,.indexAddr 88 (.tmp 8) (.tmp 6),_,_,_,none⟩ ?_
 refine Take.k 6 ⟨some 10,.load 87 (.tmp 9),_,_,_,none⟩ ?_
 refine Take.k 7 ⟨some 11,.load 25 (.tmp 3),_,_,_,none⟩ ?_ (hy:=Or.inl ⟨by rfl,by(intro w hSw;(try dsimp only at hSw);refine run_load_op (.tmp 3) ?_ ?_ hSw.2.2.cells<;>rfl)⟩)
 refine wpAnyH_ready (rs:= [8]) (by kernel_rfl) (by simp) ?_
 refine AllReadyH.cons (o:=⟨some 12,.call ⟨.value (.tmp 10), #[.tmp 11], #[25]⟩,_,_,_,none⟩) rfl (fun K hK=> ?_) AllReadyH.nil
 go_simp
 (go_at_call 65;refine HC.out.mono ?_;rintro e x1 ⟨rfl,v',h1,h2⟩;have HH:=hid h1;have GG:=hid h2;have hS1:=KEEP.out v' x1 h1 h2;clear h1 h2)
 go_wp2_with fail
 refine hK.out _ _ ?_ (fun hHeld=> ?_)
 ·exact hS1
 clear hK K
 try simp only[Act.put,Take.a,Take.b,Take.c]
 refine wpAnyH_done (by kernel_rfl) ?_ _
 go_wp2_with fail
 go_end0
 exact⟨rfl,_,HH.out,(Grow.of L2.out).trans GG.out⟩
theorem lay_end {w:World} {b:Nat} {v:Value} {L N:List Inst} {t:ByteArray} {A:Option Addr} {n c:Nat} {m tp:Int} {p:Piece} (h:Lay w b v L) (hp:PAt (fun k=>k<b) w ⟨6,t,A,n,c,m,tp⟩ p) (hC: ∀w,Does 66 b v L ⟨6,t,A,n,c,m,tp⟩ p N w):Calls Tryz.prog 47 #[.pointer (some ⟨b,0,none⟩),.agg (rawA ⟨6,t,A,n,c,m,tp⟩)] w (Laid b v w N):=by
 have H:=hid h
 have HP:=hid hp
 have HX:=hid hC
 clear h hp hC
 go_enter Tryz.func47,Tryz.ntmps47
 go_wp2_with (first
  |(refine box_arg (r:=⟨6,t,A,n,c,m,tp⟩) rfl (.tmp 1) rfl rfl ?_;intro w1 b1 e1 p1 l1 z1;have P1:=hid p1;have L1:=hid l1;have E1:=hid e1;clear e1 p1 l1 z1))
 have L2:=hid (on L1.out (below_draws w1 1))
 have H2:=hid (H.out.below L2.out)
 have HC:=hid (HX.out (w1.drewN 1) H2.out (below_piece L2.out H.out.box.lt HP.out))
 have S0:Hid ((w1.drewN 1).cell? ⟨b1,0,none⟩=some (.int .i64 6)∧(w1.drewN 1).cell? ⟨b,7,none⟩=some (way 66 b)∧PBox (w1.drewN 1) b1 ⟨6,t,A,n,c,m,tp⟩):=⟨P1.out.c0,cell_of_row _ b 7 _ _ _ H2.out.box,P1.out⟩
 have KEEP:Hid (∀v' x1,Lay x1 b v' N→Grow b v v' (w1.drewN 1) x1→x1.cell? ⟨b1,0,none⟩=some (.int .i64 6)∧x1.cell? ⟨b,7,none⟩=some (way 66 b)∧PBox x1 b1 ⟨6,t,A,n,c,m,tp⟩):=fun v' x1 h1 h2=>by
  have hb:PBox x1 b1 ⟨6,t,A,n,c,m,tp⟩:=(h2.block b1 P1.out.lt (by have:=E1.out;have:=H.out.box.lt;omega) (fun q=>by have:=(H.out.own_gt b1 q).2;have:=E1.out;omega)).trans P1.out
  exact⟨hb.c0,cell_of_row _ b 7 _ _ _ h1.box,hb⟩
 refine wp_region_held_drew (S:=fun w'=>w'.cell? ⟨b1,0,none⟩=some (.int .i64 6)∧w'.cell? ⟨b,7,none⟩=some (way 66 b)∧PBox w' b1 ⟨6,t,A,n,c,m,tp⟩) (by kernel_rfl) S0.out (fun hHeld=> ?_)
 refine Take.k 0 ⟨some 4,.move (.tmp 0),_,_,_,none⟩ ?_
 refine Take.k 1 ⟨some 5,.fieldAddr 25 (.tmp 3) 0,_,_,_,none⟩ ?_
 refine Take.k 2 ⟨some 6,.load 3 (.tmp 5),_,_,_,none⟩ ?_
 refine Take.k 3 ⟨some 7,.nilCheck (.tmp 4),_,_,_,none⟩ ?_
 refine Take.k 4 ⟨some 8,.fieldAddr 90 (.tmp 7) 1,_,_,_,none⟩ ?_
 refine Take.k 5 ⟨some 9,.indexAddr 88 (.tmp 8) (.tmp 6),_,_,_,none⟩ ?_
 refine Take.k 6 ⟨some 10,.load 87 (.tmp 9),_,_,_,none⟩ ?_
 refine Take.k 7 ⟨some 11,.load 25 (.tmp 3),_,_,_,none⟩ ?_ (hy:=Or.inl ⟨by rfl,by(intro w hSw;(try dsimp only at hSw);refine run_load_op (.tmp 3) ?_ ?_ hSw.2.2.cells<;>rfl)⟩)
 refine wpAnyH_ready (rs:= [8]) (by kernel_rfl) (by simp) ?_
 refine AllReadyH.cons (o:=⟨some 12,.call ⟨.value (.tmp 10), #[.tmp 11], #[25]⟩,_,_,_,none⟩) rfl (fun K hK=> ?_) AllReadyH.nil
 go_simp
 (go_at_call 66;refine HC.out.mono ?_;rintro e x1 ⟨rfl,v',h1,h2⟩;have HH:=hid h1;have GG:=hid h2;have hS1:=KEEP.out v' x1 h1 h2;clear h1 h2)
 go_wp2_with fail
 refine hK.out _ _ ?_ (fun hHeld=> ?_)
 ·exact hS1
 clear hK K
 try simp only[Act.put,Take.a,Take.b,Take.c]
 refine wpAnyH_done (by kernel_rfl) ?_ _
 go_wp2_with fail
 go_end0
 exact⟨rfl,_,HH.out,(Grow.of L2.out).trans GG.out⟩
theorem lay_seq {w:World} {b:Nat} {v:Value} {L N:List Inst} {t:ByteArray} {A:Option Addr} {n c:Nat} {m tp:Int} {p:Piece} (h:Lay w b v L) (hp:PAt (fun k=>k<b) w ⟨7,t,A,n,c,m,tp⟩ p) (hC: ∀w,Does 67 b v L ⟨7,t,A,n,c,m,tp⟩ p N w):Calls Tryz.prog 47 #[.pointer (some ⟨b,0,none⟩),.agg (rawA ⟨7,t,A,n,c,m,tp⟩)] w (Laid b v w N):=by
 have H:=hid h
 have HP:=hid hp
 have HX:=hid hC
 clear h hp hC
 go_enter Tryz.func47,Tryz.ntmps47
 go_wp2_with (first
  |(refine box_arg (r:=⟨7,t,A,n,c,m,tp⟩) rfl (.tmp 1) rfl rfl ?_;intro w1 b1 e1 p1 l1 z1;have P1:=hid p1;have L1:=hid l1;have E1:=hid e1;clear e1 p1 l1 z1))
 have L2:=hid (on L1.out (below_draws w1 1))
 have H2:=hid (H.out.below L2.out)
 have HC:=hid (HX.out (w1.drewN 1) H2.out (below_piece L2.out H.out.box.lt HP.out))
 have S0:Hid ((w1.drewN 1).cell? ⟨b1,0,none⟩=some (.int .i64 7)∧(w1.drewN 1).cell? ⟨b,8,none⟩=some (way 67 b)∧PBox (w1.drewN 1) b1 ⟨7,t,A,n,c,m,tp⟩):=⟨P1.out.c0,cell_of_row _ b 8 _ _ _ H2.out.box,P1.out⟩
 have KEEP:Hid (∀v' x1,Lay x1 b v' N→Grow b v v' (w1.drewN 1) x1→x1.cell? ⟨b1,0,none⟩=some (.int .i64 7)∧x1.cell? ⟨b,8,none⟩=some (way 67 b)∧PBox x1 b1 ⟨7,t,A,n,c,m,tp⟩):=fun v' x1 h1 h2=>by
  have hb:PBox x1 b1 ⟨7,t,A,n,c,m,tp⟩:=(h2.block b1 P1.out.lt (by have:=E1.out;have:=H.out.box.lt;omega) (fun q=>by have:=(H.out.own_gt b1 q).2;have:=E1.out;omega)).trans P1.out
  exact⟨hb.c0,cell_of_row _ b 8 _ _ _ h1.box,hb⟩
 refine wp_region_held_drew (S:=fun w'=>w'.cell? ⟨b1,0,none⟩=some (.int .i64 7)∧w'.cell? ⟨b,8,none⟩=some (way 67 b)∧PBox w' b1 ⟨7,t,A,n,c,m,tp⟩) (by kernel_rfl) S0.out (fun hHeld=> ?_)
 refine Take.k 0 ⟨some 4,.move (.tmp 0),_,_,_,none⟩ ?_
 refine Take.k 1 ⟨some 5,.fieldAddr 25 (.tmp 3) 0,_,_,_,none⟩ ?_
 refine Take.k 2 ⟨some 6,.load 3 (.tmp 5),_,_,_,none⟩ ?_
 refine Take.k 3 ⟨some 7,.nilCheck (.tmp 4),_,_,_,none⟩ ?_
 refine Take.k 4 ⟨some 8,.fieldAddr 90 (.tmp 7) 1,_,_,_,none⟩ ?_
 refine Take.k 5 ⟨some 9,.indexAddr 88 (.tmp 8) (.tmp 6),_,_,_,none⟩ ?_
 refine Take.k 6 ⟨some 10,.load 87 (.tmp 9),_,_,_,none⟩ ?_
 refine Take.k 7 ⟨some 11,.load 25 (.tmp 3),_,_,_,none⟩ ?_ (hy:=Or.inl ⟨by rfl,by(intro w hSw;(try dsimp only at hSw);refine run_load_op (.tmp 3) ?_ ?_ hSw.2.2.cells<;>rfl)⟩)
 refine wpAnyH_ready (rs:= [8]) (by kernel_rfl) (by simp) ?_
 refine AllReadyH.cons (o:=⟨some 12,.call ⟨.value (.tmp 10), #[.tmp 11], #[25]⟩,_,_,_,none⟩) rfl (fun K hK=> ?_) AllReadyH.nil
 go_simp
 (go_at_call 67;refine HC.out.mono ?_;rintro e x1 ⟨rfl,v',h1,h2⟩;have HH:=hid h1;have GG:=hid h2;have hS1:=KEEP.out v' x1 h1 h2;clear h1 h2)
 go_wp2_with fail
 refine hK.out _ _ ?_ (fun hHeld=> ?_)
 ·exact hS1
 clear hK K
 try simp only[Act.put,Take.a,Take.b,Take.c]
 refine wpAnyH_done (by kernel_rfl) ?_ _
 go_wp2_with fail
 go_end0
 exact⟨rfl,_,HH.out,(Grow.of L2.out).trans GG.out⟩
theorem lay_alt {w:World} {b:Nat} {v:Value} {L N:List Inst} {t:ByteArray} {A:Option Addr} {n c:Nat} {m tp:Int} {p:Piece} (h:Lay w b v L) (hp:PAt (fun k=>k<b) w ⟨8,t,A,n,c,m,tp⟩ p) (hC: ∀w,Does 68 b v L ⟨8,t,A,n,c,m,tp⟩ p N w):Calls Tryz.prog 47 #[.pointer (some ⟨b,0,none⟩),.agg (rawA ⟨8,t,A,n,c,m,tp⟩)] w (Laid b v w N):=by
 have H:=hid h
 have HP:=hid hp
 have HX:=hid hC
 clear h hp hC
 go_enter Tryz.func47,Tryz.ntmps47
 go_wp2_with (first
  |(refine box_arg (r:=⟨8,t,A,n,c,m,tp⟩) rfl (.tmp 1) rfl rfl ?_;intro w1 b1 e1 p1 l1 z1;have P1:=hid p1;have L1:=hid l1;have E1:=hid e1;clear e1 p1 l1 z1))
 have L2:=hid (on L1.out (below_draws w1 1))
 have H2:=hid (H.out.below L2.out)
 have HC:=hid (HX.out (w1.drewN 1) H2.out (below_piece L2.out H.out.box.lt HP.out))
 have S0:Hid ((w1.drewN 1).cell? ⟨b1,0,none⟩=some (.int .i64 8)∧(w1.drewN 1).cell? ⟨b,9,none⟩=some (way 68 b)∧PBox (w1.drewN 1) b1 ⟨8,t,A,n,c,m,tp⟩):=⟨P1.out.c0,cell_of_row _ b 9 _ _ _ H2.out.box,P1.out⟩
 have KEEP:Hid (∀v' x1,Lay x1 b v' N→Grow b v v' (w1.drewN 1) x1→x1.cell? ⟨b1,0,none⟩=some (.int .i64 8)∧x1.cell? ⟨b,9,none⟩=some (way 68 b)∧PBox x1 b1 ⟨8,t,A,n,c,m,tp⟩):=fun v' x1 h1 h2=>by
  have hb:PBox x1 b1 ⟨8,t,A,n,c,m,tp⟩:=(h2.block b1 P1.out.lt (by have:=E1.out;have:=H.out.box.lt;omega) (fun q=>by have:=(H.out.own_gt b1 q).2;have:=E1.out;omega)).trans P1.out
  exact⟨hb.c0,cell_of_row _ b 9 _ _ _ h1.box,hb⟩
 refine wp_region_held_drew (S:=fun w'=>w'.cell? ⟨b1,0,none⟩=some (.int .i64 8)∧w'.cell? ⟨b,9,none⟩=some (way 68 b)∧PBox w' b1 ⟨8,t,A,n,c,m,tp⟩) (by kernel_rfl) S0.out (fun hHeld=> ?_)
 refine Take.k 0 ⟨some 4,.move (.tmp 0),_,_,_,none⟩ ?_
 refine Take.k 1 ⟨some 5,.fieldAddr 25 (.tmp 3) 0,_,_,_,none⟩ ?_
 refine Take.k 2 ⟨some 6,.load 3 (.tmp 5),_,_,_,none⟩ ?_
 refine Take.k 3 ⟨some 7,.nilCheck (.tmp 4),_,_,_,none⟩ ?_
 refine Take.k 4 ⟨some 8,.fieldAddr 90 (.tmp 7) 1,_,_,_,none⟩ ?_
 refine Take.k 5 ⟨some 9,.indexAddr 88 (.tmp 8) (.tmp 6),_,_,_,none⟩ ?_
 refine Take.k 6 ⟨some 10,.load 87 (.tmp 9),_,_,_,none⟩ ?_
 refine Take.k 7 ⟨some 11,.load 25 (.tmp 3),_,_,_,none⟩ ?_ (hy:=Or.inl ⟨by rfl,by(intro w hSw;(try dsimp only at hSw);refine run_load_op (.tmp 3) ?_ ?_ hSw.2.2.cells<;>rfl)⟩)
 refine wpAnyH_ready (rs:= [8]) (by kernel_rfl) (by simp) ?_
 refine AllReadyH.cons (o:=⟨some 12,.call ⟨.value (.tmp 10), #[.tmp 11], #[25]⟩,_,_,_,none⟩) rfl (fun K hK=> ?_) AllReadyH.nil
 go_simp
 (go_at_call 68;refine HC.out.mono ?_;rintro e x1 ⟨rfl,v',h1,h2⟩;have HH:=hid h1;have GG:=hid h2;have hS1:=KEEP.out v' x1 h1 h2;clear h1 h2)
 go_wp2_with fail
 refine hK.out _ _ ?_ (fun hHeld=> ?_)
 ·exact hS1
 clear hK K
 try simp only[Act.put,Take.a,Take.b,Take.c]
 refine wpAnyH_done (by kernel_rfl) ?_ _
 go_wp2_with fail
 go_end0
 exact⟨rfl,_,HH.out,(Grow.of L2.out).trans GG.out⟩
theorem lay_repeat {w:World} {b:Nat} {v:Value} {L N:List Inst} {t:ByteArray} {A:Option Addr} {n c:Nat} {m tp:Int} {p:Piece} (h:Lay w b v L) (hp:PAt (fun k=>k<b) w ⟨9,t,A,n,c,m,tp⟩ p) (hC: ∀w,Does 69 b v L ⟨9,t,A,n,c,m,tp⟩ p N w):Calls Tryz.prog 47 #[.pointer (some ⟨b,0,none⟩),.agg (rawA ⟨9,t,A,n,c,m,tp⟩)] w (Laid b v w N):=by
 have H:=hid h
 have HP:=hid hp
 have HX:=hid hC
 clear h hp hC
 go_enter Tryz.func47,Tryz.ntmps47
 go_wp2_with (first
  |(refine box_arg (r:=⟨9,t,A,n,c,m,tp⟩) rfl (.tmp 1) rfl rfl ?_;intro w1 b1 e1 p1 l1 z1;have P1:=hid p1;have L1:=hid l1;have E1:=hid e1;clear e1 p1 l1 z1))
 have L2:=hid (on L1.out (below_draws w1 1))
 have H2:=hid (H.out.below L2.out)
 have HC:=hid (HX.out (w1.drewN 1) H2.out (below_piece L2.out H.out.box.lt HP.out))
 have S0:Hid ((w1.drewN 1).cell? ⟨b1,0,none⟩=some (.int .i64 9)∧(w1.drewN 1).cell? ⟨b,10,none⟩=some (way 69 b)∧PBox (w1.drewN 1) b1 ⟨9,t,A,n,c,m,tp⟩):=⟨P1.out.c0,cell_of_row _ b 10 _ _ _ H2.out.box,P1.out⟩
 have KEEP:Hid (∀v' x1,Lay x1 b v' N→Grow b v v' (w1.drewN 1) x1→x1.cell? ⟨b1,0,none⟩=some (.int .i64 9)∧x1.cell? ⟨b,10,none⟩=some (way 69 b)∧PBox x1 b1 ⟨9,t,A,n,c,m,tp⟩):=fun v' x1 h1 h2=>by
  have hb:PBox x1 b1 ⟨9,t,A,n,c,m,tp⟩:=(h2.block b1 P1.out.lt (by have:=E1.out;have:=H.out.box.lt;omega) (fun q=>by have:=(H.out.own_gt b1 q).2;have:=E1.out;omega)).trans P1.out
  exact⟨hb.c0,cell_of_row _ b 10 _ _ _ h1.box,hb⟩
 refine wp_region_held_drew (S:=fun w'=>w'.cell? ⟨b1,0,none⟩=some (.int .i64 9)∧w'.cell? ⟨b,10,none⟩=some (way 69 b)∧PBox w' b1 ⟨9,t,A,n,c,m,tp⟩) (by kernel_rfl) S0.out (fun hHeld=> ?_)
 refine Take.k 0 ⟨some 4,.move (.tmp 0),_,_,_,none⟩ ?_
 refine Take.k 1 ⟨some 5,.fieldAddr 25 (.tmp 3) 0,_,_,_,none⟩ ?_
 refine Take.k 2 ⟨some 6,.load 3 (.tmp 5),_,_,_,none⟩ ?_
 refine Take.k 3 ⟨some 7,.nilCheck (.tmp 4),_,_,_,none⟩ ?_
 refine Take.k 4 ⟨some 8,.fieldAddr 90 (.tmp 7) 1,_,_,_,none⟩ ?_
 refine Take.k 5 ⟨some 9,.indexAddr 88 (.tmp 8) (.tmp 6),_,_,_,none⟩ ?_
 refine Take.k 6 ⟨some 10,.load 87 (.tmp 9),_,_,_,none⟩ ?_
 refine Take.k 7 ⟨some 11,.load 25 (.tmp 3),_,_,_,none⟩ ?_ (hy:=Or.inl ⟨by rfl,by(intro w hSw;(try dsimp only at hSw);refine run_load_op (.tmp 3) ?_ ?_ hSw.2.2.cells<;>rfl)⟩)
 refine wpAnyH_ready (rs:= [8]) (by kernel_rfl) (by simp) ?_
 refine AllReadyH.cons (o:=⟨some 12,.call ⟨.value (.tmp 10), #[.tmp 11], #[25]⟩,_,_,_,none⟩) rfl (fun K hK=> ?_) AllReadyH.nil
 go_simp
 (go_at_call 69;refine HC.out.mono ?_;rintro e x1 ⟨rfl,v',h1,h2⟩;have HH:=hid h1;have GG:=hid h2;have hS1:=KEEP.out v' x1 h1 h2;clear h1 h2)
 go_wp2_with fail
 refine hK.out _ _ ?_ (fun hHeld=> ?_)
 ·exact hS1
 clear hK K
 try simp only[Act.put,Take.a,Take.b,Take.c]
 refine wpAnyH_done (by kernel_rfl) ?_ _
 go_wp2_with fail
 go_end0
 exact⟨rfl,_,HH.out,(Grow.of L2.out).trans GG.out⟩
end W15
end Go.Proofs.YtehdnbidgphecaaGreatDoor
