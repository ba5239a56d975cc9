/-
  Texts joined, in build order, each with its own comment and its own conditions: W16Img, W16RunMath, W16RefRun, W16Tru, W15Made, W16FindMath, W16REnds.
-/
import Derived.Test.YtfgegjinhkgpbaaGreatDoorJ14
import Derived.Test.YtfgegjinhkgpbaaGreatDoorJ10
import Derived.Test.YtfgegjinhkgpbaaGreatDoorJ08
import Derived.Test.YtfgegjinhkgpbaaGreatDoorJ04
import Derived.Deep.QuietTactic
import Derived.BigQuiet
namespace Go.Proofs.YtfgegjinhkgpbaaGreatDoor
set_option maxHeartbeats 4000000
set_option maxRecDepth 100000
open Go.RowKit
open Lib (hid)
namespace BR
open Go Bv
open Cj (Piece size sizes leaf)
def at_ (l:List Bool) (t:Nat):Bool:=l.getD t false
def EC (n:Nat) (R:Nat->Nat->Prop) (l l':List Bool):Prop:=l'.length=n+1/\ ∀t,t<=n->(at_ l' t=true↔ ∃q,q<=n/\at_ l q=true/\R q t)
section
variable {n:Nat} {R R1 R2:Nat->Nat->Prop} {l l1 l2 l':List Bool}
theorem EC.same (h:EC n R1 l l') (hr: ∀q t,q<=n->t<=n->(R1 q t↔R2 q t)):EC n R2 l l':=by
 refine⟨h.1,fun t ht=>(h.2 t ht).trans ⟨?_,?_⟩⟩
 ·rintro⟨q,h1,h2,h3⟩;exact⟨q,h1,h2,(hr q t h1 ht).1 h3⟩
 rintro⟨q,h1,h2,h3⟩;exact⟨q,h1,h2,(hr q t h1 ht).2 h3⟩
theorem Jb (h:l.length=n+1):EC n (fun q t=>q=t) l l:=by
 refine⟨h,fun t ht=>⟨fun h=>⟨t,ht,h,rfl⟩,?_⟩⟩
 rintro⟨q,h1,h2,rfl⟩
 exact h2
theorem EC.trans (h1:EC n R1 l l1) (h2:EC n R2 l1 l2) (hin: ∀q t,q<=n->R1 q t->t<=n):EC n (fun q t=> ∃v,R1 q v/\R2 v t) l l2:=by
 refine⟨h2.1,fun t ht=>(h2.2 t ht).trans ⟨?_,?_⟩⟩
 ·rintro⟨v,hv,h3,h4⟩
  obtain⟨q,hq,h5,h6⟩:=(h1.2 v hv).1 h3
  exact⟨q,hq,h5,v,h6,h4⟩
 rintro⟨q,hq,h3,v,h4,h5⟩
 have hv:=hin q v hq h4
 exact⟨v,hv,(h1.2 v hv).2 ⟨q,hq,h3,h4⟩,h5⟩
def O9 (l k:List Bool):List Bool:=(List.range l.length).map fun i=>at_ l i||at_ k i
theorem NL (l k:List Bool):(O9 l k).length=l.length:=by unfold O9;rw[List.length_map,List.length_range]
theorem aJ {l k:List Bool} {t:Nat} (h:t<l.length):at_ (O9 l k) t=(at_ l t||at_ k t):=by
 unfold O9
 conv=>lhs;unfold at_
 rw[List.getD_eq_getElem?_getD,List.getElem?_map,List.getElem?_range h]
 rfl
theorem EC.or (h1:EC n R1 l l1) (h2:EC n R2 l l2):EC n (fun q t=>R1 q t\/R2 q t) l (O9 l1 l2):=by
 refine⟨by rw[NL];exact h1.1,fun t ht=> ?_⟩
 rw[aJ (by rw[h1.1];omega),Bool.or_eq_true,h1.2 t ht,h2.2 t ht]
 constructor
 ·rintro(⟨q,h3,h4,h5⟩|⟨q,h3,h4,h5⟩)
  ·exact⟨q,h3,h4,Or.inl h5⟩
  exact⟨q,h3,h4,Or.inr h5⟩
 rintro⟨q,h3,h4,h5|h5⟩
 ·exact Or.inl ⟨q,h3,h4,h5⟩
 exact Or.inr ⟨q,h3,h4,h5⟩
theorem Vz (hin: ∀q t,q<=n->R q t->t<=n): ∀ {k q t:Nat},q<=n->Pow R k q t->t<=n
 |0,q,t,hq,h=>by cases h;exact hq
 |k+1,q,t,hq,⟨v,hv,h⟩=>Vz hin (hin q v hq hv) h
theorem KH: ∀ {k q t:Nat},Pow R (k+1) q t↔ ∃v,Pow R k q v/\R v t
 |0,q,t=>⟨fun⟨v,hv,h⟩=>by cases h;exact⟨q,rfl,hv⟩,fun⟨v,hv,h⟩=>by cases hv;exact⟨t,h,rfl⟩⟩
 |k+1,q,t=>by
  constructor
  ·rintro⟨u,hu,h⟩
   obtain⟨v,h1,h2⟩:=KH.1 h
   exact⟨v,⟨u,hu,h1⟩,h2⟩
  rintro⟨v,⟨u,hu,h1⟩,h2⟩
  exact⟨u,hu,KH.2 ⟨v,h1,h2⟩⟩
theorem EC.NM {k:Nat} (h1:EC n (Pow R k) l l1) (h2:EC n R l1 l2) (hin: ∀q t,q<=n->R q t->t<=n):EC n (Pow R (k+1)) l l2:=
 (h1.trans h2 (fun _ _ hq h=>Vz hin hq h)).same fun _ _ _ _=>KH.symm
def PY (R:Nat->Nat->Prop) (m k:Nat) (q t:Nat):Prop:= ∃j,j<=k/\Pow R (m+j) q t
theorem Uq {m q t:Nat}:PY R m 0 q t↔Pow R m q t:=by
 constructor
 ·rintro⟨j,hj,h⟩
  have:j=0:=by omega
  subst this
  exact h
 intro h;exact⟨0,Nat.le_refl _,h⟩
theorem Kg {m k q t:Nat}:PY R m (k+1) q t↔PY R m k q t\/Pow R (m+(k+1)) q t:=by
 constructor
 ·rintro⟨j,hj,h⟩
  by_cases e:j=k+1
  ·subst e;exact Or.inr h
  exact Or.inl ⟨j,by omega,h⟩
 rintro(⟨j,hj,h⟩|h)
 ·exact⟨j,by omega,h⟩
 exact⟨k+1,Nat.le_refl _,h⟩
theorem EC.Kg {m k:Nat} (h1:EC n (PY R m k) l l1) (h2:EC n (Pow R (m+(k+1))) l l2):EC n (PY R m (k+1)) l (O9 l1 l2):=
 (h1.or h2).same fun _ _ _ _=>BR.Kg.symm
theorem EC.still {m k:Nat} (h1:EC n (PY R m k) l l1) (h2:EC n (Pow R (m+(k+1))) l l2) (he:O9 l1 l2=l1) (hin: ∀q t,q<=n->R q t->t<=n):EC n (fun q t=> ∃j,Pow R (m+j) q t) l l1:=by
 have hsub: ∀t,t<=n->at_ l2 t=true->at_ l1 t=true:=fun t ht h=>by
  have:=aJ (l:=l1) (k:=l2) (t:=t) (by rw[h1.1];omega)
  rw[he,h,Bool.or_true]at this
  exact this
 have hall: ∀j q t,q<=n->at_ l q=true->Pow R (m+j) q t->t<=n->at_ l1 t=true:=by
  intro j
  induction j with
  |zero=>intro q t hq hl h ht;exact(h1.2 t ht).2 ⟨q,hq,hl,0,Nat.zero_le _,h⟩
  |succ j ih=>
   intro q t hq hl h ht
   rw[show m+(j+1)=(m+j)+1 by omega,KH]at h
   obtain⟨v,hv,hr⟩:=h
   have hvn:=Vz hin hq hv
   obtain⟨q',hq',hl',i,hi,hp⟩:=(h1.2 v hvn).1 (ih q v hq hl hv hvn)
   have hp2:Pow R (m+(i+1)) q' t:=by rw[show m+(i+1)=(m+i)+1 by omega,KH];exact⟨v,hp,hr⟩
   by_cases e:i=k
   ·subst e
    exact hsub t ht ((h2.2 t ht).2 ⟨q',hq',hl',hp2⟩)
   exact(h1.2 t ht).2 ⟨q',hq',hl',i+1,by omega,hp2⟩
 refine⟨h1.1,fun t ht=>⟨fun h=> ?_,?_⟩⟩
 ·obtain⟨q,hq,hl,j,-,hp⟩:=(h1.2 t ht).1 h
  exact⟨q,hq,hl,j,hp⟩
 rintro⟨q,hq,hl,j,hp⟩
 exact hall j q t hq hl hp ht
def many (l:List Bool):Nat:=l.countP id
theorem O_: ∀ {l:List Bool},l.length<=many l-> ∀t,t<l.length->at_ l t=true
 | [],_,t,ht=>absurd ht (Nat.not_lt_zero _)
 |b::l,h,t,ht=>by
  unfold many at h
  rw[List.countP_cons]at h
  have hl:List.countP id l<=l.length:=List.countP_le_length
  cases b with
  |false=>simp at h;omega
  |true=>
   cases t with
   |zero=>rfl
   |succ t=>
    have:=O_ (l:=l) (by unfold many;simp at h;omega) t (by simpa using ht)
    simpa [at_]using this
theorem Kh: ∀ {l k:List Bool},l.length=k.length->(∀t,t<l.length->at_ l t=true->at_ k t=true)->l≠k->many l<many k
 | [],[],_,_,h=>absurd rfl h
 | [],_::_,h,_,_=>by simp at h
 |_::_,[],h,_,_=>by simp at h
 |a::l,b::k,hl,hs,hne=>by
  have hl2:l.length=k.length:=by simpa using hl
  have hs2: ∀t,t<l.length->at_ l t=true->at_ k t=true:=fun t ht h=>by
   have:=hs (t+1) (by simpa using ht) (by simpa [at_]using h)
   simpa [at_]using this
  have hle:many l<=many k:=by
   by_cases e:l=k
   ·rw[e];exact Nat.le_refl _
   exact Nat.le_of_lt (Kh hl2 hs2 e)
  unfold many at*
  rw[List.countP_cons,List.countP_cons]
  cases a with
  |true=>
   have hb:b=true:=hs 0 (by simp) rfl
   subst hb
   have:=Kh hl2 hs2 (fun e=>hne (by rw[e]))
   unfold many at this
   simp
   omega
  |false=>
   cases b with
   |true=>simp;omega
   |false=>
    have:=Kh hl2 hs2 (fun e=>hne (by rw[e]))
    unfold many at this
    simp
    omega
theorem p_ {k:List Bool} (h:O9 l k≠l):many l<many (O9 l k):=
 Kh (NL l k).symm (fun t ht he=>by rw[aJ ht,he,Bool.true_or]) (fun e=>h e.symm)
theorem EC.full {m k:Nat} (h1:EC n (PY R m k) l l1) (hk:n+1<=many l1):EC n (fun q t=> ∃j,Pow R (m+j) q t) l l1:=by
 refine⟨h1.1,fun t ht=>⟨fun h=> ?_,fun _=>O_ (by rw[h1.1];exact hk) t (by rw[h1.1];omega)⟩⟩
 obtain⟨q,hq,hl,j,-,hp⟩:=(h1.2 t ht).1 h
 exact⟨q,hq,hl,j,hp⟩
def places (l:List Bool):List Nat:=(List.range l.length).filter (at_ l)
theorem mem_places {t:Nat}:t∈places l↔t<l.length/\at_ l t=true:=by
 unfold places
 rw[List.mem_filter,List.mem_range]
theorem Ur {k:List Bool} (hl:l.length=k.length) (h:places l=places k):l=k:=by
 refine List.ext_getElem hl fun i h1 h2=> ?_
 have e1:at_ l i=l[i]:=by unfold at_;rw[List.getD_eq_getElem?_getD,List.getElem?_eq_getElem h1];rfl
 have e2:at_ k i=k[i]:=by unfold at_;rw[List.getD_eq_getElem?_getD,List.getElem?_eq_getElem h2];rfl
 rw[<-e1,<-e2]
 have h3:i∈places l↔i∈places k:=by rw[h]
 rw[mem_places,mem_places]at h3
 cases ha:at_ l i with
 |true=>exact((h3.1 ⟨h1,ha⟩).2).symm
 |false=>
  cases hb:at_ k i with
  |false=>rfl
  |true=>
   have:=(h3.2 ⟨h2,hb⟩).2
   rw[ha]at this
   cases this
end
/-! pieces -/
theorem qA {s:Text} {p:Piece} (h:Bv.Good p): ∀q t,q<=s.length->E s p q t->t<=s.length:=by
 induction h with
 |leaf k t hk=>
  intro q u hq he
  unfold leaf E at he
  split at he
  ·omega
  split at he
  ·obtain⟨h1,c,h2,-⟩:=he
   have:=(List.getElem?_eq_some_iff.1 h2).1
   omega
  split at he
  ·omega
  rw[if_pos (by omega)]at he
  omega
 |many k hk ks h2 hw ih=>
  intro q u hq he
  rcases hk with rfl|rfl
  ·unfold E at he
   rw[if_neg (by decide),if_neg (by decide),if_neg (by decide),if_neg (by decide),if_pos rfl]at he
   clear h2 hw
   induction ks generalizing q with
   |nil=>rw[Gc]at he;omega
   |cons p l ihl=>
    rw[Gc]at he
    obtain⟨v,h3,h4⟩:=he
    exact ihl (fun p hp=>ih p (by simp[hp])) v (ih p (by simp) q v hq h3) h4
  unfold E at he
  rw[if_neg (by decide),if_neg (by decide),if_neg (by decide),if_neg (by decide),if_neg (by decide),if_pos rfl]at he
  clear h2 hw
  induction ks with
  |nil=>rw[Hq]at he;exact he.elim
  |cons p l ihl=>
   rw[Hq]at he
   rcases he with h3|h3
   ·exact ih p (by simp) q u hq h3
   exact ihl (fun p hp=>ih p (by simp[hp])) h3
 |rep p m t hm ht hw ih=>
  intro q u hq he
  unfold E at he
  rw[if_neg (by decide),if_neg (by decide),if_neg (by decide),if_neg (by decide),if_neg (by decide),if_neg (by decide),if_pos rfl]at he
  obtain⟨k,-,-,hp⟩:=he
  refine Vz (R:=fun q u=>sN s [p] q u) (n:=s.length) (fun q t hq h=> ?_) hq hp
  rw[sN]at h
  exact ih q t hq h
end BR
namespace BR
open Go Bv
def idx (s:Text) (i q:Nat):Nat:=i*(s.length+1)+q
theorem uB {s:Text} {i q n:Nat} (hi:i<n) (hq:q<=s.length):idx s i q<n*(s.length+1):=by
 unfold idx
 have:(i+1)*(s.length+1)<=n*(s.length+1):=Nat.mul_le_mul_right _ hi
 rw[Nat.succ_mul]at this
 omega
theorem qB {s:Text} {i q j v:Nat} (hq:q<=s.length) (hv:v<=s.length) (h:idx s i q=idx s j v):i=j/\q=v:=by
 unfold idx at h
 have h1:(i*(s.length+1)+q)/(s.length+1)=i:=by
  rw[Nat.mul_comm,Nat.mul_add_div (by omega),Nat.div_eq_of_lt (by omega)];rfl
 have h2:(j*(s.length+1)+v)/(s.length+1)=j:=by
  rw[Nat.mul_comm,Nat.mul_add_div (by omega),Nat.div_eq_of_lt (by omega)];rfl
 have hij:i=j:=by rw[<-h1,h,h2]
 subst hij
 exact⟨rfl,by omega⟩
def Real (L:List AL) (s:Text) (b:Nat) (f:Nat->Bool):Prop:= ∀i q,i<L.length->q<=s.length->f (idx s i q)=true->Reach L s b i q
def Shut (L:List AL) (s:Text) (f:Nat->Bool):Prop:= ∀i q,i<L.length->q<=s.length->f (idx s i q)=true-> ∀p∈nexts (ins L i) s q,f (idx s p.1 p.2)=true
structure Pass (L:List AL) (s:Text) (b:Nat) (f0 f:Nat->Bool) (m:Bool) (i0 q0:Nat):Prop where
 real:Real L s b f
 mono: ∀x,f0 x=true->f x=true
 same:m=false-> ∀x,f x=f0 x
 new:m=true-> ∃x,x<L.length*(s.length+1)/\f0 x=false/\f x=true
 done: ∀i q,i<L.length->q<=s.length->(i<i0\/(i=i0/\q<q0))->f0 (idx s i q)=true-> ∀p∈nexts (ins L i) s q,f (idx s p.1 p.2)=true
section
variable {L:List AL} {s:Text} {b:Nat} {f0 f:Nat->Bool} {m:Bool} {i q:Nat}
theorem mD (hf:Fair L) (hq:q<=s.length) {p:Mark} (hp:p∈nexts (ins L i) s q):p.1<L.length/\p.2<=s.length:=by
 rcases UR.1 hp with⟨h1,h2⟩|⟨c,h1,h2,h3,h4⟩
 ·exact⟨hf.rM _ _ _ _ h1,by omega⟩
 have:=(List.getElem?_eq_some_iff.1 h1).1
 exact⟨by rw[h3];exact hf.il _ _ h2,by omega⟩
theorem Pass.skip (h:Pass L s b f0 f m i q) (hn:f (idx s i q)=false):Pass L s b f0 f m i (q+1):=
 ⟨h.real,h.mono,h.same,h.new,fun i' q' hi hq h0 h1=>by
     by_cases e:i'=i/\q'=q
     ·obtain⟨rfl,rfl⟩:=e
      have:=h.mono _ h1
      rw[hn]at this
      cases this
     exact h.done i' q' hi hq (by omega) h1⟩
theorem Pass.mark (hf:Fair L) (h:Pass L s b f0 f m i q) (hr:Reach L s b i q) (hq:q<=s.length) {p:Mark} (hp:p∈nexts (ins L i) s q) (hn:f (idx s p.1 p.2)=false):Pass L s b f0 (fun j=>if j=idx s p.1 p.2 then true else f j) true i q:=by
 obtain⟨h1,h2⟩:=mD hf hq hp
 have hrp:Reach L s b p.1 p.2:=hr.next (UR.1 hp)
 refine⟨fun i' q' hi hq' hx=> ?_,fun x hx=> ?_,fun e=>(by cases e),fun _=>⟨_,uB h1 h2,?_,by simp⟩,fun i' q' hi hq' h0 hx p' hp'=> ?_⟩
 ·split at hx
  ·rename_i e
   obtain⟨rfl,rfl⟩:=qB hq' h2 e
   exact hrp
  exact h.real i' q' hi hq' hx
 ·split
  ·rfl
  exact h.mono x hx
 ·cases hx:f0 (idx s p.1 p.2)with
  |false=>rfl
  |true=>have:=h.mono _ hx;rw[hn]at this;cases this
 split
 ·rfl
 exact h.done i' q' hi hq' h0 hx p' hp'
theorem Pass.shut (h:Pass L s b f0 f m L.length b) (hm:m=false):Shut L s f:=fun i q hi hq hx p hp=>by
 have:=h.same hm
 rw[this]at hx
 exact h.done i q hi hq (Or.inl hi) hx p hp
end
end BR
namespace Fg
open Strs Al
open Bv (AL Ca ae)
open BR (Text nexts IL takes ins idx Pass Real Fair)
open EH (CZ D8 BJ Qc Ig Ct Jr DI Ih Gt)
open W14 (AZ BL)
open Kit (below_draws on CG)
section
variable {s:ByteArray} {q:Nat} {w:World}
end
theorem E_ {k:Nat} (h:k<=1000000):wrap64 (k:Int)=(k:Int):=by unfold wrap64;omega
section
variable {ops:Array Oper} {rest:List Oper} {o:Oper} {a:Act} {w:World} {Q:Exit->Act->World->Prop}
theorem FR (hgd:o.guard=none) (x y:Operand) (ho:o.op= .makeSlice 82 x y) {n:Nat} (hx:a.eval x= .int .i64 n) (hy:a.eval y= .int .i64 n) (hn:n<=1000000)
    (h: ∀w' b,w.heap.size=b->Bits w' b n (fun _=>false)->Below w.heap.size w w'->w'.heap.size=w.heap.size+1->wpList Tryz.prog ops Q rest (a.put o.dst (.slice (some ⟨b,0,none⟩) n n)) w'):wpList Tryz.prog ops Q (o::rest) a w:=
 wpList_plain hgd fun _ hK=>by
  unfold Oper.wp execOp
  simp only[ho,hx,hy,UL w hn,Sem.run_bind,Sem.run_pure,Result.andThen_ok]
  exact hK _ _ (h _ _ rfl (XO w n _) (AZ w _) (World.size_alloc w _))
end
section
variable {w:World} {lv:Value} {L:List AL} {s:ByteArray}
end
section
variable {w:World} {lv:Value} {L:List AL} {s:ByteArray}
end
end Fg
namespace Fg
open Strs Al
open BR (at_ O9 places)
open EH (Ig Ct Jr Ih Gt)
open W14 (AZ Bi)
open Kit (below_draws on)
def YJ (b:Bool):List Value:= [.bool b]
theorem SH (b:Bool):(YJ b).length=1:=rfl
theorem mE (b:Bool): ∀c∈YJ b,c.oneCell'=true:=by
 intro c hc
 simp only[YJ,List.mem_cons,List.not_mem_nil,or_false]at hc
 subst hc
 rfl
abbrev KI (B:Nat) (w:World) (v:Value) (l:List Bool):Prop:=Al YJ 1 B w v l
theorem EA {B n c:Nat} {w:World} {A:Option Addr} {l:List Bool} (h:KI B w (.slice A n c) l) {k:Nat} (hk:k<n): ∃b o:Nat,A=some ⟨b,o,none⟩/\b<B/\w.cell? ⟨b,o+k,none⟩=some (.bool (at_ l k)):=by
 obtain⟨b,o,hl,e,hb,hc⟩:=h.Gq SH (by decide) hk
 refine⟨b,o,e,hb,?_⟩
 have:=hc 0 (by decide)
 rw[Nat.mul_one,Nat.add_zero]at this
 rw[this]
 unfold at_
 rw[List.getD_eq_getElem?_getD,List.getElem?_eq_getElem hl]
 rfl
theorem Bits.YK {w:World} {b n:Nat} {f:Nat->Bool} (h:Bits w b n f) (hn:n<=1000000):KI w.heap.size w (.slice (some ⟨b,0,none⟩) n n) ((List.range n).map f):=by
 have hl:((List.range n).map f).length=n:=by simp
 refine⟨some ⟨b,0,none⟩,n,by rw[hl],by rw[hl];exact Nat.le_refl _,by unfold maxLen;omega,fun _=>⟨_,rfl,h.lt,fun k hk j hj=> ?_⟩⟩
 have hj0:j=0:=by omega
 subst hj0
 rw[hl]at hk
 have:(⟨b,0,none⟩:Addr).add (k*1+0)=⟨b,k,none⟩:=by unfold Addr.add;split<;>simp_all
 rw[this,h.cell hk]
 simp[YJ]
def EE (w:World) (l:List Bool) (e:Ending) (w':World):Prop:= ∃v,e= .returned v/\KI w'.heap.size w' v l/\Below w.heap.size w w'
theorem at_range {n t:Nat} {f:Nat->Bool} (h:t<n):at_ ((List.range n).map f) t=f t:=by
 unfold at_
 rw[List.getD_eq_getElem?_getD,List.getElem?_map,List.getElem?_range h]
 rfl
def Us (n i:Nat):List Bool:=(List.range (n+1)).map fun j=>decide (j=i)
section
variable {w:World} {B B':Nat} {u v:Value} {l k:List Bool}
theorem mF {n i:Nat} (hi:i<=n) (hn:n<=1000):Calls Tryz.prog 57 #[.int .i64 n,.int .i64 i] w (EE w (Us n i)):=by
 unfold EE
 have hil:(i:Int)<=(n:Int):=by omega
 have hi0:(i:Int)≥0:=by omega
 have hw1:wrap64 ((n:Int)+1)=((n+1:Nat):Int):=E_ (k:=n+1) (by omega)
 have HN:=hid (show i<=n/\n<=1000 from⟨hi,hn⟩)
 clear hi hn
 go_enter Tryz.func57,Tryz.ntmps57
 go_wp2_with (first
  |(refine FR (n:=n+1) rfl (.tmp 7) (.tmp 7) rfl (congrArg (Value.int .i64) hw1) (congrArg (Value.int .i64) hw1) (by have:=HN.out;omega) ?_;intro w2 bm e2 p2 l2 z2;have L2:=hid l2;have c0:=p2.cell (i:=i) (by have:=HN.out;omega);have f0:=p2.free i;have P2:=hid p2;have E2:Hid (w.heap.size<=bm):=(by unfold Hid;omega);clear e2 p2 l2 z2))
 go_ret
 refine⟨_,rfl,?_,L2.out.setCell E2.out _⟩
 have h:=((P2.out.put (i:=i) true).is (g:=fun j=>decide (j=i)) fun j _=>by by_cases e:j=i<;>simp[e]).YK (by have:=HN.out;omega)
 exact h
theorem YL (p:Nat->Bool) (i:Nat):(List.range (i+1)).filter p=(List.range i).filter p++(if p i then[i]else[]):=by
 rw[List.range_succ,List.filter_append]
 cases hp:p i<;>simp[hp]
theorem Fw (h:KI w.heap.size w v l) (hl:l.length<=1000):Calls Tryz.prog 58 #[v] w (KW w (places l)):=by
 unfold KW
 obtain⟨A,c,rfl,h1,h2⟩:=h.form
 obtain⟨n,hn⟩: ∃n,l.length=n:=⟨_,rfl⟩
 have HP:Hid (places l=(List.range n).filter (at_ l)):=by unfold Hid places;rw[hn]
 rw[hn]at h h1 hl ⊢
 have H:=hid h
 unfold maxLen at h2
 have HC:=hid (show n<=c/\c<=9223372036854775807/\n<=1000 from⟨h1,h2,hl⟩)
 clear h h1 h2 hl hn
 go_enter Tryz.func58,Tryz.ntmps58
 go_wp2_with fail
 go_loopg [3,4] n (fun gk s3 s4 wr=> ∃i:Nat,s4= .int .i64 i/\Hid (i+gk=n)/\Hid (wr.ownsRow w.heap.size 3 1 s3 ((List.range i).filter (at_ l)).length (((List.range i).filter (at_ l)).flatMap Ig))/\Hid (Below w.heap.size w wr))
 case atStart=>exact⟨0,rfl,by unfold Hid;omega,World.ownsRow_nil _ _ _ _,Below.refl _ _⟩
 case round=>
  obtain⟨i,rfl,hig,OW,LB⟩:=hrel
  cases gk with
  |zero=>
   have hi:i=n:=by have:=hig.out;omega
   subst hi
   have ti: ¬(i:Int)<(i:Int):=by omega
   go_wp2_with fail
   go_ret
   rw[HP.out]
   exact⟨_,rfl,OW.out,LB.out⟩
  |succ gk=>
   have hi:i<n:=by have:=hig.out;omega
   have ti:(i:Int)<(n:Int):=by omega
   obtain⟨b1,o1,rfl,-,e1⟩:=EA (H.out.below LB.out) hi
   have DT:Hid (wrap64 ((i:Int)+1)=((i+1:Nat):Int)):=E_ (k:=i+1) (by have:=HC.out;omega)
   have Pj:Hid (((List.range i).filter (at_ l)).length+1<=1000000):=by
    have:=List.length_filter_le (at_ l) (List.range i)
    rw[List.length_range]at this
    unfold Hid
    have:=HC.out
    omega
   have oP:=hid (YL (at_ l) i)
   clear hi
   cases hx:at_ l i with
   |true=>
    rw[hx,if_pos rfl]at oP
    rw[hx]at e1
    clear hx
    go_wp2_with (first
     |(refine Ih rfl (.tmp 16) rfl (n:=i) rfl ?_;intro w6 b6 e6 p6 l6 z6;have P6:=hid p6;have L6:=hid l6;clear e6 p6 l6 z6)
     |(refine Gt rfl (.tmp 15) (.tmp 17) rfl rfl rfl (Bi OW.out fun k _ hk=>L6.out.block k hk) P6.out (by simp only[List.length_cons,List.length_nil];exact Pj.out) (Nat.le_trans LB.out.size L6.out.size) ?_;intro v7 w7 o7 p7;have O7:=hid o7;have Q7:=hid p7;clear o7 p7))
    obtain⟨g1,g2',g3',g4',xP⟩:=Q7.out.grown
    have L7:Hid (Below w.heap.size w w7):=(on LB.out L6.out).trans ⟨g1,g2',g3',g4',fun k hk=>xP k (Nat.lt_of_lt_of_le hk (Nat.le_trans LB.out.size L6.out.size)) (fun e=>by have:=(OW.out.lt k e.symm).1;omega)⟩
    have OW7:=O7
    rw[<-oP.out]at OW7
    clear g1 g2' g3' g4' xP O7 Q7 P6 L6 LB OW
    go_roundg gk
    case measure=>omega
    case rel=>exact⟨i+1,by first|rfl|exact congrArg (Value.int .i64) DT.out,by unfold Hid;have:=hig.out;omega,OW7,L7⟩
   |false=>
    rw[hx,if_neg (by decide),List.append_nil]at oP
    rw[hx]at e1
    clear hx
    rw[<-oP.out]at OW
    go_wp2_with fail
    go_roundg gk
    case measure=>omega
    case rel=>exact⟨i+1,by first|rfl|exact congrArg (Value.int .i64) DT.out,by unfold Hid;have:=hig.out;omega,OW,LB⟩
theorem SI (hu:KI w.heap.size w u l) (hv:KI w.heap.size w v k) (hk:l.length=k.length) (hl:l.length<=1000):Calls Tryz.prog 86 #[u,v] w (EE w (O9 l k)):=by
 unfold EE
 obtain⟨A,c,rfl,h1,h2⟩:=hu.form
 obtain⟨A',c',rfl,h3,h4⟩:=hv.form
 obtain⟨n,hn⟩: ∃n,l.length=n:=⟨_,rfl⟩
 have HP:Hid (O9 l k=(List.range n).map fun i=>at_ l i||at_ k i):=by unfold Hid O9;rw[hn]
 rw[<-hk]at hv h3 ⊢
 rw[hn]at hu h1 hl hv h3 ⊢
 have H1:=hid hu
 have H2:=hid hv
 unfold maxLen at h2 h4
 have HC:=hid (show n<=c/\c<=9223372036854775807/\n<=c'/\c'<=9223372036854775807/\n<=1000 from⟨h1,h2,h3,h4,hl⟩)
 clear hu hv h1 h2 h3 h4 hl hn hk
 go_enter Tryz.func86,Tryz.ntmps86
 go_wp2_with (first
  |(refine FR (n:=n) rfl (.tmp 8) (.tmp 8) rfl rfl rfl (by have:=HC.out;omega) ?_;intro w2 bm e2 p2 l2 z2;have L2:=hid l2;have P2:=hid p2;have E2:Hid (w.heap.size<=bm):=(by unfold Hid;omega);clear e2 p2 l2 z2))
 go_loopg [6] n (fun gk s6 wr=> ∃i:Nat,s6= .int .i64 i/\Hid (i+gk=n)/\Hid (Bits wr bm n fun j=>decide (j<i)&&(at_ l j||at_ k j))/\Hid (Below w.heap.size w wr))
 case atStart=>exact⟨0,rfl,by unfold Hid;omega,P2.out.is fun j _=>by simp,L2⟩
 case round=>
  clear P2 L2
  obtain⟨i,rfl,hig,BT,LB⟩:=hrel
  cases gk with
  |zero=>
   have hi:i=n:=by have:=hig.out;omega
   subst hi
   have ti: ¬(i:Int)<(i:Int):=by omega
   go_wp2_with fail
   go_ret
   rw[HP.out]
   exact⟨_,rfl,(BT.out.is fun j hj=>by rw[decide_eq_true hj,Bool.true_and]).YK (by have:=HC.out;omega),LB.out⟩
  |succ gk=>
   have hi:i<n:=by have:=hig.out;omega
   have ti:(i:Int)<(n:Int):=by omega
   obtain⟨b1,o1,rfl,-,e1⟩:=EA (H1.out.below LB.out) hi
   obtain⟨b2,o2,rfl,-,e2⟩:=EA (H2.out.below LB.out) hi
   have DT:Hid (wrap64 ((i:Int)+1)=((i+1:Nat):Int)):=E_ (k:=i+1) (by have:=HC.out;omega)
   have f0:=BT.out.free i
   have c0:=BT.out.cell hi
   obtain⟨x,hx⟩: ∃x,at_ l i=x:=⟨_,rfl⟩
   obtain⟨y,hy⟩: ∃y,at_ k i=y:=⟨_,rfl⟩
   have BN: ∀z,z=(x||y)->Hid (Bits (wr.setCell ⟨bm,i,none⟩ (.bool z)) bm n fun j=>decide (j<i+1)&&(at_ l j||at_ k j)):=fun z hz=>(BT.out.put z).is fun j _=>by
    by_cases e:j=i
    ·subst e
     rw[if_pos rfl,hz,decide_eq_true (Nat.lt_succ_self _),Bool.true_and,hx,hy]
    rw[if_neg e]
    congr 1
    simp only[decide_eq_decide]
    omega
   have LN: ∀z:Bool,Hid (Below w.heap.size w (wr.setCell ⟨bm,i,none⟩ (.bool z))):=fun z=>LB.out.setCell E2.out _
   rw[hx]at e1
   rw[hy]at e2
   clear hx hy hi BT LB
   cases x with
   |true=>
    have SL:=BN true (by simp)
    have SN:=LN true
    clear BN LN
    go_wp2_with fail
    go_roundg gk
    case measure=>omega
    case rel=>exact⟨i+1,by first|rfl|exact congrArg (Value.int .i64) DT.out,by unfold Hid;have:=hig.out;omega,SL,SN⟩
   |false=>
    have SL:=BN y (by simp)
    have SN:=LN y
    clear BN LN
    go_wp2_with fail
    go_roundg gk
    case measure=>omega
    case rel=>exact⟨i+1,by first|rfl|exact congrArg (Value.int .i64) DT.out,by unfold Hid;have:=hig.out;omega,SL,SN⟩
end
end Fg
namespace Bv
open Go Cj
open Ew (good)
theorem YM {f:Nat->List AL} {x:AL}: ∀(n a:Nat),x∈times f n a-> ∃b,x∈f b
 |0,_,h=>by simp[times]at h
 |n+1,a,h=>by
  rw[times]at h
  rcases List.mem_append.1 h with h|h
  ·exact⟨_,h⟩
  exact YM n _ h
def aK (x:AL):Prop:=Je x.kind x.text=true
theorem OM (x y:Nat):aK (split x y):=rfl
theorem YN (x:Nat):aK (jump x):=rfl
theorem Ut {f:Nat->List AL} {e:Nat} (hf: ∀a x,x∈f a->aK x) {x:AL}: ∀(n a:Nat),x∈maybe f e n a->aK x
 |0,_,h=>by simp[maybe]at h
 |n+1,a,h=>by
  rw[maybe]at h
  rcases List.mem_cons.1 h with h|h
  ·rw[h];exact OM _ _
  rcases List.mem_append.1 h with h|h
  ·exact hf _ _ h
  exact Ut hf n _ h
theorem mG {f:Nat->List AL} {e a:Nat} (hf: ∀a x,x∈f a->aK x) {x:AL} (h:x∈star f e a):aK x:=by
 unfold star at h
 rcases List.mem_cons.1 h with h|h
 ·rw[h];exact OM _ _
 rcases List.mem_append.1 h with h|h
 ·exact hf _ _ h
 rw[List.mem_singleton.1 h];exact YN _
theorem YO {x:AL}: ∀ {ks:List Piece},(∀p,p∈ks-> ∀a x,x∈steps p a->aK x)-> ∀a,x∈Dw ks a->aK x
 | [],_,a,h=>by simp[Dw]at h
 |p::l,hk,a,h=>by
  rw[Dw]at h
  rcases List.mem_append.1 h with h|h
  ·exact hk p (by simp) _ _ h
  exact YO (fun q hq=>hk q (by simp[hq])) _ h
theorem YP {x:AL} {e:Nat}: ∀ {ks:List Piece},(∀p,p∈ks-> ∀a x,x∈steps p a->aK x)-> ∀a,x∈alts ks a e->aK x
 | [],_,a,h=>by simp[alts]at h
 |p::l,hk,a,h=>by
  rw[alts]at h
  split at h
  ·exact hk p (by simp) _ _ h
  rcases List.mem_cons.1 h with h|h
  ·rw[h];exact OM _ _
  rcases List.mem_append.1 h with h|h
  ·exact hk p (by simp) _ _ h
  rcases List.mem_cons.1 h with h|h
  ·rw[h];exact YN _
  exact YP (fun q hq=>hk q (by simp[hq])) _ h
theorem fV {x:AL} {ks:List Piece} (hk: ∀p,p∈ks-> ∀a x,x∈steps p a->aK x) {a:Nat} (h:x∈first ks a):aK x:=by
 match ks,hk,h with
 | [],_,h=>simp[first]at h
 |p::l,hk,h=>exact hk p (by simp) a x h
theorem fZ (p:Piece):Dh p=true-> ∀a x,x∈steps p a->aK x:=by
 induction p using ind with
 |h k t ks m tp ih=>
  intro h a x hx
  rw[FC,Bool.and_eq_true]at h
  have hk: ∀p,p∈ks-> ∀a x,x∈steps p a->aK x:=fun p hp=>ih p hp (List.all_eq_true.1 h.1 p hp)
  have h2:=h.2
  unfold steps at hx
  have h0:Je 2 no=true/\Je 4 no=true/\Je 5 no=true:=⟨rfl,rfl,rfl⟩
  by_cases c2:k=2
  ·rw[if_pos c2]at hx
   rw[List.mem_singleton.1 hx]
   subst c2
   unfold own at h2
   rw[if_neg (by decide),if_neg (by decide),if_pos rfl]at h2
   simp only[Bool.and_eq_true]at h2
   exact h2.2.2.2
  rw[if_neg c2]at hx
  by_cases c3:k=3
  ·rw[if_pos c3]at hx
   rw[List.mem_singleton.1 hx];exact h0.1
  rw[if_neg c3]at hx
  by_cases c4:k=4
  ·rw[if_pos c4]at hx
   rw[List.mem_singleton.1 hx]
   subst c4
   unfold own at h2
   rw[if_neg (by decide),if_neg (by decide),if_neg (by decide),if_pos rfl]at h2
   simp only[Bool.and_eq_true]at h2
   exact h2.2.2.2
  rw[if_neg c4]at hx
  by_cases c5:k=5
  ·rw[if_pos c5]at hx
   rw[List.mem_singleton.1 hx];exact h0.2.1
  rw[if_neg c5]at hx
  by_cases c6:k=6
  ·rw[if_pos c6]at hx
   rw[List.mem_singleton.1 hx];exact h0.2.2
  rw[if_neg c6]at hx
  by_cases c7:k=7
  ·rw[if_pos c7]at hx;exact YO hk a hx
  rw[if_neg c7]at hx
  by_cases c8:k=8
  ·rw[if_pos c8]at hx;exact YP hk a hx
  rw[if_neg c8]at hx
  by_cases c9:k=9
  ·rw[if_pos c9]at hx
   have hf: ∀a x,x∈first ks a->aK x:=fun a x q=>fV hk q
   unfold LC at hx
   rcases List.mem_append.1 hx with hx|hx
   ·obtain⟨b,hb⟩:=YM _ _ hx
    exact hf _ _ hb
   split at hx
   ·exact mG hf hx
   exact Ut hf _ _ hx
  rw[if_neg c9]at hx
  simp at hx
theorem Rj {p:Piece} (hg:Good p) (hs:size p<=4000):(prog p).length=size p+1:=by
 unfold prog
 rw[List.length_append,Ba hg hs];rfl
theorem SQ {p:Piece} (h:Dh p=true) (hs:size p<=4000):Ca (prog p)=true:=by
 have hg:=Pg h
 have hl:=Rj hg hs
 unfold Ca
 rw[hl,decide_eq_true (Nat.succ_pos _),Bool.and_true]
 refine List.all_eq_true.2 fun x hx=> ?_
 unfold prog at hx
 rcases List.mem_append.1 hx with hx|hx
 ·have hi:=Qy hg hs 0 x hx
  have ht:=fZ p h 0 x hx
  unfold ae
  rw[show Je x.kind x.text=true from ht,Bool.true_and]
  obtain⟨q1,q2,q3,q4,q5⟩:=hi
  unfold goes place
  by_cases c6:x.kind=6
  ·have:=q3 c6
   rw[if_pos c6]
   simp only[Bool.and_eq_true,decide_eq_true_eq]
   omega
  have:=q4 c6
  rw[if_neg c6,if_neg q5.2.2,if_pos ⟨q5.1,q5.2.1⟩]
  simp only[Bool.and_eq_true,decide_eq_true_eq]
  omega
 rw[List.mem_singleton.1 hx]
 rfl
end Bv
namespace Fg
open Go
open Bv (AL Ca)
open Cj (Piece size)
open BR (Text yields LP EC at_ places E mem_places)
section
variable {L:List AL} {S:Text}
theorem aL (hf:BR.Fair L) (hr:Ca L=true):((yields L S 0 0).any fun y=>decide (y.2=S.length))=true↔LP L S 0 S.length:=by
 rw[<-(BR.ZA hf hr (Nat.zero_le _)).2,List.any_eq_true,List.mem_map]
 constructor
 ·rintro⟨x,h1,h2⟩;exact⟨x,h1,of_decide_eq_true h2⟩
 rintro⟨x,h1,h2⟩;exact⟨x,h1,decide_eq_true h2⟩
end
theorem qC {n b:Nat} {R:Nat->Nat->Prop} {l:List Bool} (hb:b<=n) (h:EC n R (Us n b) l) {t:Nat} (ht:t<=n):at_ l t=true↔R b t:=by
 rw[h.2 t ht]
 unfold Us
 constructor
 ·rintro⟨q,h1,h2,h3⟩
  rw[at_range (by omega)]at h2
  rw[<-of_decide_eq_true h2]
  exact h3
 intro h3
 exact⟨b,hb,by rw[at_range (by omega)];simp,h3⟩
theorem YQ {l:List Bool} (hk:places l= []) {t:Nat} (ht:t<l.length):at_ l t≠true:=fun h=>by
 have:=mem_places.2 ⟨ht,h⟩
 rw[hk]at this
 cases this
end Fg
namespace Fg
open Strs Al
open Cj (Piece leaf)
open BR (at_ O9 places EC Jb E takes)
open W14 (Raw Ak Be Ad AV AU Aq AZ Bi)
open Kit (below_draws on CG)
def Ho (s:ByteArray) (p:Piece):Prop:= ∀(w:World) (r:Raw) (v:Value) (l:List Bool),Be w r p->KI w.heap.size w v l->l.length=s.size+1->
 Calls Tryz.prog 56 #[.agg (Ak r),.string s,v] w fun e w'=> ∃l',EC s.size (E s.data.toList p) l l'/\EE w l' e w'
theorem V3 {n:Nat} {R:Nat->Nat->Prop} {l:List Bool} {f:Nat->Bool} (h: ∀t,t<=n->(f t=true↔ ∃q,q<=n/\at_ l q=true/\R q t)):EC n R l ((List.range (n+1)).map f):=
 ⟨by simp,fun t ht=>by rw[at_range (Nat.lt_succ_of_le ht)];exact h t ht⟩
section
variable {ops:Array Oper} {rest:List Oper} {o:Oper} {a:Act} {w:World} {Q:Exit->Act->World->Prop}
theorem aM (hgd:o.guard=none) (s x:Operand) (ho:o.op= .call {callee:= .builtin .append,args:= #[s,x],argTypes:= #[82,82]})
    {base B:Nat} {v u:Value} {L M:List Bool} (hs:a.eval s=v) (hx:a.eval x=u) (hown:w.ownsRow base 4 1 v L.length (L.flatMap YJ)) (hu:KI B w u M) (hl:L.length+M.length<=1000000) (hbase:base<=w.heap.size)
    (h: ∀v' w',w'.ownsRow base 4 1 v' (L++M).length ((L++M).flatMap YJ)->Put v v' w w'->wpList Tryz.prog ops Q rest (a.put o.dst v') w'):wpList Tryz.prog ops Q (o::rest) a w:=by
 obtain⟨i,hi,h1,h2,h3⟩:=info_parts UK
 refine FI hgd s x 82 ho base 4 i _ 1 1 Tryz.underlying82 hi h1 h2 h3 rfl (by decide) v L.length (L.flatMap YJ) hs hown u M B hx hu SH mE (by unfold maxLen;omega) (by omega) hbase fun v' w' e1 e2=>h v' w' ?_ e2
 rw[List.length_append,List.flatMap_append];exact e1
end
section
variable {s:ByteArray}
theorem aN (hs:s.size<=500) (t:ByteArray):Ho s (leaf 1 t):=by
 intro w r v l hp hv hl
 unfold leaf at hp
 obtain⟨A,c,Ag,rfl,k1⟩:=hp.parts
 have hI:EC s.size (E s.data.toList (leaf 1 t)) l l:=(Jb hl).same fun q t _ _=>by unfold leaf E;rw[if_pos rfl]
 have HI:=hid hI
 have HV:=hid hv
 obtain⟨n,hn⟩: ∃n,s.size+1=n:=⟨_,rfl⟩
 have hw1:wrap64 ((s.size:Int)+1)=(n:Int):=by have:=E_ (k:=s.size+1) (by omega);rw[hn]at this;rw[<-this,<-hn];rfl
 have HN:=hid (show n<=501/\l.length=n from⟨by omega,by omega⟩)
 obtain⟨A',c',rfl,-,-⟩:=hv.form
 clear hp k1 hI hv hn hs hl
 simp only[List.length_nil]
 go_enter Tryz.func56,Tryz.ntmps56
 go_wp2_with (first
  |(refine AV (r:=⟨1,t,A,0,c,0,0⟩) rfl (.tmp 0) rfl rfl ?_;intro w1 b1 e1 p1 l1 z1;have a0:=p1.c0;have P1:=hid p1;have L1:=hid l1;clear e1 p1 l1 z1;simp only at a0)
  |(refine FR (n:=n) rfl (.tmp 16) (.tmp 16) rfl (congrArg (Value.int .i64) hw1) (congrArg (Value.int .i64) hw1) (by have:=HN.out;omega) ?_;intro w2 bm e2 p2 l2 z2;have L2:=hid (on L1.out l2);have a2:=(P1.out.below l2).c0;clear e2 p2 l2 z2 a0;simp only at a2)
  |(refine aM (L:= []) rfl (.const (.slice none 0 0)) (.tmp 22) rfl rfl rfl (World.ownsRow_nil _ _ _ _) (HV.out.below L2.out) (by have:=HN.out;simp only[List.length_nil];omega) L2.out.size ?_;intro v7 w7 o7 p7;have O7:=hid o7;have Q7:=hid p7;clear o7 p7))
 go_ret
 obtain⟨g1,g2',g3',g4',xP⟩:=Q7.out.grown
 have L7:Below w.heap.size w w7:=L2.out.trans ⟨g1,g2',g3',g4',fun k hk=>xP k (Nat.lt_of_lt_of_le hk L2.out.size) (fun e=>by cases e)⟩
 refine⟨l,HI.out,_,rfl,?_,L7⟩
 have:=O7.out
 rw[List.nil_append]at this
 exact Al.Bw SH rfl this
theorem YR (hs:s.size<=500) (t:ByteArray):Ho s (leaf 5 t):=by
 intro w r v l hp hv hl
 unfold leaf at hp
 obtain⟨A,c,Ag,rfl,k1⟩:=hp.parts
 have hI:EC s.size (E s.data.toList (leaf 5 t)) l ((List.range (s.size+1)).map fun j=>decide (j=0)&&at_ l 0):=V3 fun u hu=>by
  unfold leaf
  simp only[Bool.and_eq_true,decide_eq_true_eq]
  constructor
  ·rintro⟨rfl,h⟩
   exact⟨0,Nat.zero_le _,h,by unfold E;rw[if_neg (by decide),if_neg (by decide),if_pos rfl];exact⟨rfl,rfl⟩⟩
  rintro⟨q,-,h,he⟩
  unfold E at he
  rw[if_neg (by decide),if_neg (by decide),if_pos rfl]at he
  obtain⟨rfl,rfl⟩:=he
  exact⟨rfl,h⟩
 have HI:=hid hI
 have HV:=hid hv
 obtain⟨n,hn⟩: ∃n,s.size+1=n:=⟨_,rfl⟩
 have hw1:wrap64 ((s.size:Int)+1)=(n:Int):=by have:=E_ (k:=s.size+1) (by omega);rw[hn]at this;rw[<-this,<-hn];rfl
 have HN:=hid (show n<=501/\l.length=n/\0<n from⟨by omega,by omega,by omega⟩)
 rw[hn]at HI
 obtain⟨A',c',rfl,-,-⟩:=hv.form
 obtain⟨b3,o3,rfl,-,-⟩:=EA hv (k:=0) (by omega)
 obtain⟨x,hx⟩: ∃x,at_ l 0=x:=⟨_,rfl⟩
 have HX:=hid hx
 have hn0:(0:Int)<(l.length:Int):=by omega
 have hn1:(0:Int)<(n:Int):=by omega
 clear hp k1 hI hv hn hs hl hx
 simp only[List.length_nil]
 go_enter Tryz.func56,Tryz.ntmps56
 go_wp2_with (first
  |(refine AV (r:=⟨5,t,A,0,c,0,0⟩) rfl (.tmp 0) rfl rfl ?_;intro w1 b1 e1 p1 l1 z1;have a0:=p1.c0;have P1:=hid p1;have L1:=hid l1;have E1:Hid (w.heap.size<=b1):=(by unfold Hid;omega);clear e1 p1 l1 z1;simp only at a0)
  |(refine FR (n:=n) rfl (.tmp 16) (.tmp 16) rfl (congrArg (Value.int .i64) hw1) (congrArg (Value.int .i64) hw1) (by have:=HN.out;omega) ?_;intro w2 bm e2 p2 l2 z2;have L2:=hid (on L1.out l2);have a2:=(P1.out.below l2).c0;have f0:=p2.free 0;have d0:=p2.cell (i:=0) HN.out.2.2;have P2:=hid p2;have E2:Hid (w.heap.size<=bm):=(by unfold Hid;have:=L1.out.size;omega);obtain⟨b4,o4,e4,-,x0⟩:=EA (HV.out.below L2.out) (k:=0) (by have:=HN.out;omega);cases e4;rw[HX.out,Nat.add_zero]at x0;clear e2 p2 l2 z2 a0;simp only at a2))
 go_ret
 refine⟨_,HI.out,_,rfl,?_,L2.out.setCell E2.out _⟩
 have h:=((P2.out.put (i:=0) x).is (g:=fun j=>decide (j=0)&&at_ l 0) fun j _=>by
  rw[HX.out]
  by_cases e:j=0<;>simp[e]).YK (by have:=HN.out;omega)
 exact h
theorem fe (hs:s.size<=500) (t:ByteArray):Ho s (leaf 6 t):=by
 intro w r v l hp hv hl
 unfold leaf at hp
 obtain⟨A,c,Ag,rfl,k1⟩:=hp.parts
 have hsl:s.data.toList.length=s.size:=(Lib.size_eq s).symm
 have hI:EC s.size (E s.data.toList (leaf 6 t)) l ((List.range (s.size+1)).map fun j=>decide (j=s.size)&&at_ l s.size):=V3 fun u hu=>by
  unfold leaf
  simp only[Bool.and_eq_true,decide_eq_true_eq]
  constructor
  ·rintro⟨rfl,h⟩
   exact⟨s.size,Nat.le_refl _,h,by unfold E;rw[if_neg (by decide),if_neg (by decide),if_neg (by decide),if_pos rfl,hsl];exact⟨rfl,rfl⟩⟩
  rintro⟨q,-,h,he⟩
  unfold E at he
  rw[if_neg (by decide),if_neg (by decide),if_neg (by decide),if_pos rfl,hsl]at he
  obtain⟨rfl,rfl⟩:=he
  exact⟨rfl,h⟩
 have HI:=hid hI
 have HV:=hid hv
 obtain⟨n,hn⟩: ∃n,s.size+1=n:=⟨_,rfl⟩
 have hw1:wrap64 ((s.size:Int)+1)=(n:Int):=by have:=E_ (k:=s.size+1) (by omega);rw[hn]at this;rw[<-this,<-hn];rfl
 have HN:=hid (show n<=501/\l.length=n/\s.size<n from⟨by omega,by omega,by omega⟩)
 rw[hn]at HI
 obtain⟨A',c',rfl,-,-⟩:=hv.form
 obtain⟨b3,o3,rfl,-,-⟩:=EA hv (k:=0) (by omega)
 obtain⟨x,hx⟩: ∃x,at_ l s.size=x:=⟨_,rfl⟩
 have HX:=hid hx
 have hn0:(s.size:Int)<(l.length:Int):=by omega
 have hn1:(s.size:Int)<(n:Int):=by omega
 clear hp k1 hI hv hn hs hl hx hsl
 simp only[List.length_nil]
 go_enter Tryz.func56,Tryz.ntmps56
 go_wp2_with (first
  |(refine AV (r:=⟨6,t,A,0,c,0,0⟩) rfl (.tmp 0) rfl rfl ?_;intro w1 b1 e1 p1 l1 z1;have a0:=p1.c0;have P1:=hid p1;have L1:=hid l1;have E1:Hid (w.heap.size<=b1):=(by unfold Hid;omega);clear e1 p1 l1 z1;simp only at a0)
  |(refine FR (n:=n) rfl (.tmp 16) (.tmp 16) rfl (congrArg (Value.int .i64) hw1) (congrArg (Value.int .i64) hw1) (by have:=HN.out;omega) ?_;intro w2 bm e2 p2 l2 z2;have L2:=hid (on L1.out l2);have a2:=(P1.out.below l2).c0;have f0:=p2.free s.size;have d0:=p2.cell (i:=s.size) HN.out.2.2;have P2:=hid p2;have E2:Hid (w.heap.size<=bm):=(by unfold Hid;have:=L1.out.size;omega);obtain⟨b4,o4,e4,-,x0⟩:=EA (HV.out.below L2.out) (k:=s.size) (by have:=HN.out;omega);cases e4;rw[HX.out]at x0;clear e2 p2 l2 z2 a0;simp only at a2))
 go_ret
 refine⟨_,HI.out,_,rfl,?_,L2.out.setCell E2.out _⟩
 have h:=((P2.out.put (i:=s.size) x).is (g:=fun j=>decide (j=s.size)&&at_ l s.size) fun j _=>by
  rw[HX.out]
  by_cases e:j=s.size<;>simp[e]).YK (by have:=HN.out;omega)
 exact h
def tk (S:List UInt8) (k:Int) (t:ByteArray) (i:Nat):Bool:=match S[i]? with
 |some c=>takes ⟨k-1,t,0,0⟩ c
 |none=>false
def seen (S:List UInt8) (k:Int) (t:ByteArray) (l:List Bool) (i j:Nat):Bool:=decide (1<=j)&&decide (j<=i)&&at_ l (j-1)&&tk S k t (j-1)
theorem SV {S:List UInt8} {k:Int} (hk:k=2\/k=3\/k=4) (t:ByteArray) (l:List Bool):EC S.length (E S (leaf k t)) l ((List.range (S.length+1)).map (seen S k t l S.length)):=V3 fun u hu=>by
 have hE: ∀q,E S (leaf k t) q u↔(u=q+1/\tk S k t q=true):=fun q=>by
  unfold leaf E
  rw[if_neg (by omega),if_pos hk]
  unfold BR.Byte tk
  constructor
  ·rintro⟨h1,c,h2,h3⟩;rw[h2];exact⟨h1,h3⟩
  rintro⟨h1,h2⟩
  cases hc:S[q]? with
  |none=>rw[hc]at h2;cases h2
  |some c=>rw[hc]at h2;exact⟨h1,c,rfl,h2⟩
 unfold seen
 simp only[Bool.and_eq_true,decide_eq_true_eq]
 constructor
 ·rintro⟨⟨⟨h1,h2⟩,h3⟩,h4⟩
  exact⟨u-1,by omega,h3,(hE _).2 ⟨by omega,h4⟩⟩
 rintro⟨q,h1,h2,h3⟩
 obtain⟨rfl,h4⟩:=(hE q).1 h3
 exact⟨⟨⟨by omega,by omega⟩,by simpa using h2⟩,by simpa using h4⟩
theorem OO {S:List UInt8} {k:Int} {t:ByteArray} {l:List Bool} {i j:Nat}:seen S k t l (i+1) j=if j=i+1 then(at_ l i&&tk S k t i)else seen S k t l i j:=by
 unfold seen
 by_cases e:j=i+1
 ·subst e
  simp
 rw[if_neg e]
 congr 3
 simp only[decide_eq_decide]
 omega
end
end Fg
end Go.Proofs.YtfgegjinhkgpbaaGreatDoor
