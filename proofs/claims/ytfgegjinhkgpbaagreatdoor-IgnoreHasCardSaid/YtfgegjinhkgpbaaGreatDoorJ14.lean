/-
  Texts joined, in build order, each with its own comment and its own conditions: W16Piece, W16Next, W16Calls, W16Finds.
-/
import Derived.Test.YtfgegjinhkgpbaaGreatDoorJ09
import Derived.Test.YtfgegjinhkgpbaaGreatDoorJ10
import Derived.Test.YtfgegjinhkgpbaaGreatDoorJ12
import Derived.Test.YtfgegjinhkgpbaaGreatDoorJ13
import Derived.RangeFuncBox
import Derived.Maps.AppendAt
import Derived.Laws.ResultCell
namespace Go.Proofs.YtfgegjinhkgpbaaGreatDoor
set_option maxHeartbeats 4000000
set_option maxRecDepth 100000
open Go.RowKit
open Lib (hid)
namespace BR
open Go Bv
open Cj (Piece size sizes leaf)
def Pow (R:Nat->Nat->Prop):Nat->Nat->Nat->Prop
 |0,q,u=>q=u
 |k+1,q,u=> ∃v,R q v/\Pow R k v u
def qW (R:Nat->Nat->Prop) (m:Nat) (tp:Int) (q u:Nat):Prop:= ∃k,m<=k/\(tp= -1\/(k:Int)<=tp)/\Pow R k q u
def Byte (s:Text) (k:Int) (t:ByteArray) (q u:Nat):Prop:=u=q+1/\ ∃c,s[q]? =some c/\takes ⟨k-1,t,0,0⟩ c=true
mutual
def E (s:Text):Piece->Nat->Nat->Prop
 | .mk k t ks m tp,q,u=>
  if k=1 then q=u else if k=2\/k=3\/k=4 then Byte s k t q u else if k=5 then q=0/\u=0 else if k=6 then q=s.length/\u=s.length
  else if k=7 then Gc s ks q u else if k=8 then Hq s ks q u else if k=9 then qW (fun q u=>sN s ks q u) m.toNat tp q u else False
def Gc (s:Text):List Piece->Nat->Nat->Prop
 | [],q,u=>q=u
 |p::l,q,u=> ∃v,E s p q v/\Gc s l v u
def Hq (s:Text):List Piece->Nat->Nat->Prop
 | [],_,_=>False
 |p::l,q,u=>E s p q u\/Hq s l q u
def sN (s:Text):List Piece->Nat->Nat->Prop
 | [],_,_=>False
 |p::_,q,u=>E s p q u
end
def gJ (L:List AL) (s:Text) (i u j v:Nat):Prop:=(j∈IL (ins L i) s.length u/\v=u)\/ ∃c,s[u]? =some c/\takes (ins L i) c=true/\j=(ins L i).x.toNat/\v=u+1
def Mem (a z:Nat) (I:Nat->Nat->Prop) (X:Nat->Prop) (R:Nat->Nat->Prop) (j v:Nat):Prop:=(a<=j/\j<z/\I j v)\/(j=z/\ ∃q,X q/\R q v)
def Sound (L:List AL) (s:Text) (a z:Nat) (R:Nat->Nat->Prop):Prop:=
 ∀X:Nat->Prop,∃I:Nat->Nat->Prop,(∀q,X q->Mem a z I X R a q)/\ ∀i u j v,a<=i->i<z->I i u->gJ L s i u j v->Mem a z I X R j v
def Full (L:List AL) (s:Text) (a z:Nat) (R:Nat->Nat->Prop):Prop:= ∀b q v,Reach L s b a q->R q v->Reach L s b z v
structure E5 (L:List AL) (s:Text) (a z:Nat) (R:Nat->Nat->Prop):Prop where
 sound:Sound L s a z R
 full:Full L s a z R
section
variable {L:List AL} {s:Text} {a z m b:Nat} {R R1 R2:Nat->Nat->Prop}
theorem E5.same (h:E5 L s a z R1) (hr: ∀q v,R1 q v↔R2 q v):E5 L s a z R2:=by
 have:R1=R2:=funext fun q=>funext fun v=>propext (hr q v)
 rwa[<-this]
theorem G_ (L:List AL) (s:Text) (a:Nat):E5 L s a a (fun q u=>q=u):=
 ⟨fun X=>⟨fun _ _=>False,fun q hq=>Or.inr ⟨rfl,q,hq,rfl⟩,fun i u j v h1 h2=>by omega⟩,fun b q v h e=>by subst e;exact h⟩
theorem dW (h: ∀u j v,gJ L s a u j v↔(j=a+1/\R u v)):E5 L s a (a+1) R:=by
 refine⟨fun X=>⟨fun _ u=>X u,fun q hq=>Or.inl ⟨Nat.le_refl _,by omega,hq⟩,fun i u j v h1 h2 hi hn=> ?_⟩,fun b q v hr hv=> ?_⟩
 ·have:i=a:=by omega
  subst this
  obtain⟨rfl,h3⟩:=(h u j v).1 hn
  exact Or.inr ⟨rfl,u,hi,h3⟩
 rcases(h q (a+1) v).2 ⟨rfl,hv⟩with⟨h1,rfl⟩|⟨c,h1,h2,h3,rfl⟩
 ·exact hr.on h1
 rw[h3];exact hr.byte h1 h2
theorem J7 (h1:E5 L s a m R1) (h2:E5 L s m z R2) (ha:a<=m) (hz:m<=z):E5 L s a z (fun q u=> ∃v,R1 q v/\R2 v u):=by
 refine⟨fun X=> ?_,fun b q v hr ⟨w,hw,hv⟩=>h2.full b w v (h1.full b q w hr hw) hv⟩
 obtain⟨I1,e1,n1⟩:=h1.sound X
 obtain⟨I2,e2,n2⟩:=h2.sound (fun v=> ∃q,X q/\R1 q v)
 have hr: ∀j v,Mem m z I2 (fun v=> ∃q,X q/\R1 q v) R2 j v->Mem a z (fun i u=>(i<m/\I1 i u)\/(m<=i/\I2 i u)) X (fun q u=> ∃v,R1 q v/\R2 v u) j v:=by
  rintro j v (⟨g1,g2,g3⟩|⟨rfl,v0,⟨q,hq,g1⟩,g2⟩)
  ·exact Or.inl ⟨by omega,g2,Or.inr ⟨g1,g3⟩⟩
  exact Or.inr ⟨rfl,q,hq,v0,g1,g2⟩
 have hl: ∀j v,Mem a m I1 X R1 j v->Mem a z (fun i u=>(i<m/\I1 i u)\/(m<=i/\I2 i u)) X (fun q u=> ∃v,R1 q v/\R2 v u) j v:=by
  rintro j v (⟨g1,g2,g3⟩|⟨rfl,g1⟩)
  ·exact Or.inl ⟨g1,by omega,Or.inl ⟨g2,g3⟩⟩
  exact hr _ _ (e2 v g1)
 refine⟨_,fun q hq=>hl _ _ (e1 q hq),fun i u j v g1 g2 hi hn=> ?_⟩
 rcases hi with⟨g3,g4⟩|⟨g3,g4⟩
 ·exact hl _ _ (n1 i u j v g1 g3 g4 hn)
 exact hr _ _ (n2 i u j v g3 g2 g4 hn)
theorem Ed {x y i u j v:Nat} (h:ins L i=split x y):gJ L s i u j v↔(j=x\/j=y)/\v=u:=by
 unfold gJ
 rw[h]
 simp[IL,split,takes]
theorem Mr {x i u j v:Nat} (h:ins L i=jump x):gJ L s i u j v↔j=x/\v=u:=by
 unfold gJ
 rw[h]
 simp[IL,jump,takes]
theorem Reach.next {i u j v:Nat} (hr:Reach L s b i u) (h:gJ L s i u j v):Reach L s b j v:=by
 rcases h with⟨h1,rfl⟩|⟨c,h1,h2,rfl,rfl⟩
 ·exact hr.on h1
 exact hr.byte h1 h2
theorem jk (h1:E5 L s (a+1) m R1) (h2:E5 L s (m+1) z R2) (ha:a+1<=m) (hz:m+1<=z) (hs:ins L a=split (a+1) (m+1)) (hj:ins L m=jump z):E5 L s a z (fun q u=>R1 q u\/R2 q u):=by
 refine⟨fun X=> ?_,fun b q v hr hv=> ?_⟩
 ·obtain⟨I1,e1,n1⟩:=h1.sound X
  obtain⟨I2,e2,n2⟩:=h2.sound X
  have hr: ∀j v,Mem (m+1) z I2 X R2 j v->Mem a z (fun i u=>(i=a/\X u)\/(a+1<=i/\i<m/\I1 i u)\/(i=m/\ ∃q,X q/\R1 q u)\/(m+1<=i/\I2 i u)) X (fun q u=>R1 q u\/R2 q u) j v:=by
   rintro j v (⟨g1,g2,g3⟩|⟨rfl,q,hq,g2⟩)
   ·exact Or.inl ⟨by omega,g2,Or.inr (Or.inr (Or.inr ⟨g1,g3⟩))⟩
   exact Or.inr ⟨rfl,q,hq,Or.inr g2⟩
  have hl: ∀j v,Mem (a+1) m I1 X R1 j v->Mem a z (fun i u=>(i=a/\X u)\/(a+1<=i/\i<m/\I1 i u)\/(i=m/\ ∃q,X q/\R1 q u)\/(m+1<=i/\I2 i u)) X (fun q u=>R1 q u\/R2 q u) j v:=by
   rintro j v (⟨g1,g2,g3⟩|⟨rfl,g1⟩)
   ·exact Or.inl ⟨by omega,by omega,Or.inr (Or.inl ⟨g1,g2,g3⟩)⟩
   exact Or.inl ⟨by omega,by omega,Or.inr (Or.inr (Or.inl ⟨rfl,g1⟩))⟩
  refine⟨fun i u=>(i=a/\X u)\/(a+1<=i/\i<m/\I1 i u)\/(i=m/\ ∃q,X q/\R1 q u)\/(m+1<=i/\I2 i u),fun q hq=>Or.inl ⟨Nat.le_refl _,by omega,Or.inl ⟨rfl,hq⟩⟩,fun i u j v g1 g2 hi hn=> ?_⟩
  rcases hi with⟨rfl,g3⟩|⟨g3,g4,g5⟩|⟨rfl,q,g3,g4⟩|⟨g3,g4⟩
  ·obtain⟨hj2,rfl⟩:=(Ed hs).1 hn
   rcases hj2 with rfl|rfl
   ·exact hl _ _ (e1 _ g3)
   exact hr _ _ (e2 _ g3)
  ·exact hl _ _ (n1 i u j v g3 g4 g5 hn)
  ·obtain⟨rfl,rfl⟩:=(Mr hj).1 hn
   exact Or.inr ⟨rfl,q,g3,Or.inl g4⟩
  exact hr _ _ (n2 i u j v g3 g2 g4 hn)
 rcases hv with hv|hv
 ·exact(h1.full b q v (hr.next ((Ed hs).2 ⟨Or.inl rfl,rfl⟩)) hv).next ((Mr hj).2 ⟨rfl,rfl⟩)
 exact h2.full b q v (hr.next ((Ed hs).2 ⟨Or.inr rfl,rfl⟩)) hv
theorem ZX (h1:E5 L s (a+1) z R) (ha:a+1<=z) (hs:ins L a=split (a+1) z):E5 L s a z (fun q u=>q=u\/R q u):=by
 refine⟨fun X=> ?_,fun b q v hr hv=> ?_⟩
 ·obtain⟨I1,e1,n1⟩:=h1.sound X
  have hl: ∀j v,Mem (a+1) z I1 X R j v->Mem a z (fun i u=>(i=a/\X u)\/(a+1<=i/\I1 i u)) X (fun q u=>q=u\/R q u) j v:=by
   rintro j v (⟨g1,g2,g3⟩|⟨rfl,q,hq,g1⟩)
   ·exact Or.inl ⟨by omega,g2,Or.inr ⟨g1,g3⟩⟩
   exact Or.inr ⟨rfl,q,hq,Or.inr g1⟩
  refine⟨fun i u=>(i=a/\X u)\/(a+1<=i/\I1 i u),fun q hq=>Or.inl ⟨Nat.le_refl _,by omega,Or.inl ⟨rfl,hq⟩⟩,fun i u j v g1 g2 hi hn=> ?_⟩
  rcases hi with⟨rfl,g3⟩|⟨g3,g4⟩
  ·obtain⟨hj2,rfl⟩:=(Ed hs).1 hn
   rcases hj2 with rfl|rfl
   ·exact hl _ _ (e1 _ g3)
   exact Or.inr ⟨rfl,_,g3,Or.inl rfl⟩
  exact hl _ _ (n1 i u j v g3 g2 g4 hn)
 rcases hv with rfl|hv
 ·exact hr.next ((Ed hs).2 ⟨Or.inr rfl,rfl⟩)
 exact h1.full b q v (hr.next ((Ed hs).2 ⟨Or.inl rfl,rfl⟩)) hv
theorem Xg: ∀ {k q v u:Nat},Pow R k q v->R v u->Pow R (k+1) q u
 |0,q,v,u,h,hr=>by
  cases h
  exact⟨u,hr,rfl⟩
 |k+1,q,v,u,h,hr=>by
  obtain⟨w,hw,h⟩:=h
  exact⟨w,hw,Xg h hr⟩
theorem dX (h1:E5 L s (a+1) m R) (ha:a+1<=m) (hs:ins L a=split (a+1) (m+1)) (hj:ins L m=jump a):E5 L s a (m+1) (fun q u=> ∃k,Pow R k q u):=by
 refine⟨fun X=> ?_,fun b q v hr ⟨k,hv⟩=> ?_⟩
 ·obtain⟨XS,yD⟩: ∃XS:Nat->Prop,XS=fun u=> ∃q,X q/\ ∃k,Pow R k q u:=⟨_,rfl⟩
  obtain⟨I1,e1,n1⟩:=h1.sound XS
  have hmore: ∀u v,XS u->R u v->XS v:=fun u v hu hr=>by
   rw[yD]at hu ⊢
   obtain⟨q,hq,k,hk⟩:=hu
   exact⟨q,hq,k+1,Xg hk hr⟩
  have hl: ∀j v,Mem (a+1) m I1 XS R j v->Mem a (m+1) (fun i u=>(i=a/\XS u)\/(a+1<=i/\i<m/\I1 i u)\/(i=m/\XS u)) X (fun q u=> ∃k,Pow R k q u) j v:=by
   rintro j v (⟨g1,g2,g3⟩|⟨rfl,q,hq,g1⟩)
   ·exact Or.inl ⟨by omega,by omega,Or.inr (Or.inl ⟨g1,g2,g3⟩)⟩
   exact Or.inl ⟨by omega,by omega,Or.inr (Or.inr ⟨rfl,hmore q v hq g1⟩)⟩
  refine⟨fun i u=>(i=a/\XS u)\/(a+1<=i/\i<m/\I1 i u)\/(i=m/\XS u),fun q hq=>Or.inl ⟨Nat.le_refl _,by omega,Or.inl ⟨rfl,by rw[yD];exact⟨q,hq,0,rfl⟩⟩⟩,fun i u j v g1 g2 hi hn=> ?_⟩
  rcases hi with⟨rfl,g3⟩|⟨g3,g4,g5⟩|⟨rfl,g3⟩
  ·obtain⟨hj2,rfl⟩:=(Ed hs).1 hn
   rcases hj2 with rfl|rfl
   ·exact hl _ _ (e1 _ g3)
   rw[yD]at g3
   exact Or.inr ⟨rfl,g3⟩
  ·exact hl _ _ (n1 i u j v g3 g4 g5 hn)
  obtain⟨rfl,rfl⟩:=(Mr hj).1 hn
  exact Or.inl ⟨Nat.le_refl _,by omega,Or.inl ⟨rfl,g3⟩⟩
 induction k generalizing q with
 |zero=>
  cases hv
  exact hr.next ((Ed hs).2 ⟨Or.inr rfl,rfl⟩)
 |succ k ih=>
  obtain⟨w,hw,hv⟩:=hv
  exact ih w ((h1.full b q w (hr.next ((Ed hs).2 ⟨Or.inl rfl,rfl⟩)) hw).next ((Mr hj).2 ⟨rfl,rfl⟩)) ⟨_,hv⟩ hv
/-! a piece's steps,where they lie -/
def Nt (L:List AL) (a:Nat) (l:List AL):Prop:= ∀i (h:i<l.length),ins L (a+i)=l[i]
theorem Nt.left {l l':List AL} (h:Nt L a (l++l')):Nt L a l:=fun i hi=>by
 rw[h i (by rw[List.length_append];omega),List.getElem_append_left hi]
theorem Nt.right {l l':List AL} (h:Nt L a (l++l')):Nt L (a+l.length) l':=fun i hi=>by
 have:=h (l.length+i) (by rw[List.length_append];omega)
 rw[List.getElem_append_right (by omega)]at this
 rw[Nat.add_assoc,this]
 simp
theorem Nt.head {l:List AL} {x:AL} (h:Nt L a (x::l)):ins L a=x:=h 0 (by simp)
theorem Nt.tail {l:List AL} {x:AL} (h:Nt L a (x::l)):Nt L (a+1) l:=fun i hi=>by
 have:=h (i+1) (by simp;omega)
 rw[show a+1+i=a+(i+1) by omega,this]
 rfl
theorem RU {f:Nat->List AL} {K:Nat} (hl: ∀a,(f a).length=K) (hf: ∀a,Nt L a (f a)->E5 L s a (a+K) R): ∀(m a:Nat),Nt L a (times f m a)->E5 L s a (a+m*K) (Pow R m)
 |0,a,_=>by
  rw[Nat.zero_mul]
  exact G_ L s a
 |m+1,a,h=>by
  rw[times]at h
  have h1:=hf a h.left
  have h2:=h.right
  rw[hl]at h2
  have h3:=RU hl hf m (a+K) h2
  rw[show a+(m+1)*K=a+K+m*K by rw[Nat.succ_mul];omega]
  exact J7 h1 h3 (by omega) (by omega)
theorem Ov {f:Nat->List AL} {K:Nat} (hl: ∀a,(f a).length=K) (hf: ∀a,Nt L a (f a)->E5 L s a (a+K) R): ∀(n a:Nat),Nt L a (maybe f (a+n*(K+1)) n a)->E5 L s a (a+n*(K+1)) (fun q u=> ∃k,k<=n/\Pow R k q u)
 |0,a,_=>by
  rw[Nat.zero_mul]
  refine(G_ L s a).same fun q v=>⟨fun h=>⟨0,Nat.le_refl _,h⟩,?_⟩
  rintro⟨k,hk,h⟩
  have:k=0:=by omega
  subst this
  exact h
 |n+1,a,h=>by
  rw[maybe]at h
  have he:a+(n+1)*(K+1)=a+1+K+n*(K+1):=by rw[Nat.succ_mul];omega
  rw[he]at h ⊢
  have h1:=hf (a+1) h.tail.left
  have h2:=h.tail.right
  rw[hl]at h2
  have h3:=Ov hl hf n (a+1+K) h2
  refine(ZX (J7 h1 h3 (by omega) (by omega)) (by omega) h.head).same fun q v=>⟨?_,?_⟩
  ·rintro(rfl|⟨w,hw,k,hk,hv⟩)
   ·exact⟨0,by omega,rfl⟩
   exact⟨k+1,by omega,w,hw,hv⟩
  rintro⟨k,hk,hv⟩
  cases k with
  |zero=>exact Or.inl hv
  |succ k=>
   obtain⟨w,hw,hv⟩:=hv
   exact Or.inr ⟨w,hw,k,by omega,hv⟩
theorem ZY {f:Nat->List AL} {K:Nat} (hl: ∀a,(f a).length=K) (hf: ∀a,Nt L a (f a)->E5 L s a (a+K) R) (a:Nat) (h:Nt L a (star f (a+K+2) a)):E5 L s a (a+K+2) (fun q u=> ∃k,Pow R k q u):=by
 rw[star]at h
 have h1:=hf (a+1) h.tail.left
 have h2:=h.tail.right.head
 rw[hl]at h2
 have h3:=h.head
 rw[show a+K+2=a+1+K+1 by omega]at h3 ⊢
 exact dX h1 (by omega) h3 h2
theorem pow_add: ∀ {m k q u:Nat},Pow R (m+k) q u↔ ∃v,Pow R m q v/\Pow R k v u
 |0,k,q,u=>by
  rw[Nat.zero_add]
  exact⟨fun h=>⟨q,rfl,h⟩,fun⟨v,e,h⟩=>by cases e;exact h⟩
 |m+1,k,q,u=>by
  rw[show m+1+k=(m+k)+1 by omega]
  constructor
  ·rintro⟨v,hv,h⟩
   obtain⟨w,h1,h2⟩:=pow_add.1 h
   exact⟨w,⟨v,hv,h1⟩,h2⟩
  rintro⟨w,⟨v,hv,h1⟩,h2⟩
  exact⟨v,hv,pow_add.2 ⟨w,h1,h2⟩⟩
theorem dY {f:Nat->List AL} {K:Nat} (hl: ∀a,(f a).length=K) (hf: ∀a,Nt L a (f a)->E5 L s a (a+K) R) {m tp:Int} (hm:0<=m) (ht:tp= -1\/m<=tp) {Z:Nat} (hZ:Z=if tp= -1 then m.toNat*K+K+2 else m.toNat*K+(tp-m).toNat*(K+1)) (a:Nat) (h:Nt L a (LC f m tp (a+Z) a)):E5 L s a (a+Z) (qW R m.toNat tp):=by
 unfold LC at h
 have h1:=RU hl hf m.toNat a h.left
 have h2:=h.right
 rw[Cv hl]at h2
 by_cases c:tp= -1
 ·rw[if_pos c]at h2 hZ
  subst hZ
  rw[show a+(m.toNat*K+K+2)=a+m.toNat*K+K+2 by omega]at h2 ⊢
  have h3:=ZY hl hf _ h2
  refine(J7 h1 h3 (by omega) (by omega)).same fun q u=>⟨?_,?_⟩
  ·rintro⟨v,hv,k,hk⟩
   exact⟨m.toNat+k,by omega,Or.inl c,pow_add.2 ⟨v,hv,hk⟩⟩
  rintro⟨k,hk,-,hp⟩
  rw[show k=m.toNat+(k-m.toNat) by omega]at hp
  obtain⟨v,h4,h5⟩:=pow_add.1 hp
  exact⟨v,h4,_,h5⟩
 rw[if_neg c]at h2 hZ
 subst hZ
 rw[show a+(m.toNat*K+(tp-m).toNat*(K+1))=a+m.toNat*K+(tp-m).toNat*(K+1) by omega]at h2 ⊢
 have h3:=Ov hl hf _ _ h2
 refine(J7 h1 h3 (by omega) (by omega)).same fun q u=>⟨?_,?_⟩
 ·rintro⟨v,hv,k,hk,hp⟩
  exact⟨m.toNat+k,by omega,Or.inr (by omega),pow_add.2 ⟨v,hv,hp⟩⟩
 rintro⟨k,hk,hk2,hp⟩
 rw[show k=m.toNat+(k-m.toNat) by omega]at hp
 obtain⟨v,h4,h5⟩:=pow_add.1 hp
 exact⟨v,h4,_,by omega,h5⟩
theorem UO: ∀ {ks:List Piece},(∀p,p∈ks->(∀a,(Bv.steps p a).length=size p)/\ ∀a,Nt L a (Bv.steps p a)->E5 L s a (a+size p) (E s p))-> ∀a,Nt L a (Dw ks a)->E5 L s a (a+sizes ks) (Gc s ks)
 | [],_,a,_=>by
  rw[show sizes []=0 by simp only[sizes],Nat.add_zero]
  refine(G_ L s a).same fun q u=> ?_
  rw[Gc]
 |p::l,h,a,hl=>by
  rw[Dw]at hl
  obtain⟨h1,h2⟩:=h p (by simp)
  have h3:=hl.right
  rw[h1]at h3
  rw[show sizes (p::l)=size p+sizes l by simp only[sizes],<-Nat.add_assoc]
  refine(J7 (h2 a hl.left) (UO (fun q hq=>h q (by simp[hq])) _ h3) (by omega) (by omega)).same fun q u=> ?_
  rw[Gc]
theorem UQ: ∀ {ks:List Piece},ks≠ []->(∀p,p∈ks->(∀a,(Bv.steps p a).length=size p)/\ ∀a,Nt L a (Bv.steps p a)->E5 L s a (a+size p) (E s p))-> ∀a,Nt L a (alts ks a (a+sizes ks+2*(ks.length-1)))->E5 L s a (a+sizes ks+2*(ks.length-1)) (Hq s ks)
 | [],h0,_,_,_=>absurd rfl h0
 | [p],_,h,a,hl=>by
  rw[LD]at hl
  rw[show sizes [p]=size p by simp only[sizes,Nat.add_zero]]
  refine((h p (by simp)).2 a hl).same fun q u=> ?_
  rw[Hq,Hq,or_false]
 |p::q::l,_,h,a,hl=>by
  rw[LF]at hl
  obtain⟨h1,h2⟩:=h p (by simp)
  have hz:a+sizes (p::q::l)+2*((p::q::l).length-1)=a+size p+2+sizes (q::l)+2*((q::l).length-1):=by
   rw[show sizes (p::q::l)=size p+sizes (q::l) by simp only[sizes]]
   simp only[List.length_cons]
   omega
  rw[hz]at hl ⊢
  have h3:=hl.tail.right
  rw[h1,show a+1+size p=a+size p+1 by omega]at h3
  have h4:=UQ (by simp) (fun r hr=>h r (by simp at hr;simp[hr])) (a+size p+2) h3.tail
  have h5:=h2 (a+1) hl.tail.left
  rw[show a+1+size p=a+size p+1 by omega]at h5
  refine(jk h5 h4 (by omega) (by omega) hl.head h3.head).same fun q' u=> ?_
  conv=>rhs;rw[Hq]
theorem dZ {k:Int} (hk:2<=k/\k<=6) (t:ByteArray) (h:ins L a=one (k-1) (if k=2\/k=4 then t else no) a):E5 L s a (a+1) (E s (leaf k t)):=by
 refine dW fun u j v=> ?_
 have he:E s (leaf k t) u v↔if k=2\/k=3\/k=4 then Byte s k t u v else if k=5 then u=0/\v=0 else u=s.length/\v=s.length:=by
  unfold leaf E
  rw[if_neg (by omega)]
  by_cases c:k=2\/k=3\/k=4
  ·rw[if_pos c,if_pos c]
  rw[if_neg c,if_neg c]
  by_cases c5:k=5
  ·rw[if_pos c5,if_pos c5]
  rw[if_neg c5,if_neg c5,if_pos (by omega)]
 rw[he]
 unfold gJ Byte
 rw[h]
 have hk2:k=2\/k=3\/k=4\/k=5\/k=6:=by omega
 rcases hk2 with rfl|rfl|rfl|rfl|rfl
 ·simp[IL,one,takes]
  constructor
  ·rintro⟨c,h1,h2,h3,h4⟩;exact⟨by omega,h4,c,h1,h2⟩
  rintro⟨h3,h4,c,h1,h2⟩;exact⟨c,h1,h2,by omega,h4⟩
 ·simp[IL,one,takes]
  constructor
  ·rintro⟨c,h1,h2,h3,h4⟩;exact⟨by omega,h4,c,h1,h2⟩
  rintro⟨h3,h4,c,h1,h2⟩;exact⟨c,h1,h2,by omega,h4⟩
 ·simp[IL,one,takes]
  constructor
  ·rintro⟨c,h1,h2,h3,h4⟩;exact⟨by omega,h4,c,h1,h2⟩
  rintro⟨h3,h4,c,h1,h2⟩;exact⟨c,h1,h2,by omega,h4⟩
 ·simp[IL,one,takes]
  constructor
  ·rintro⟨⟨h1,h2⟩,h3⟩;exact⟨by omega,h1,by omega⟩
  rintro⟨h1,h2,h3⟩;exact⟨⟨h2,by omega⟩,by omega⟩
 simp[IL,one,takes]
 constructor
 ·rintro⟨⟨h1,h2⟩,h3⟩;exact⟨by omega,h1,by omega⟩
 rintro⟨h1,h2,h3⟩;exact⟨⟨h2,by omega⟩,by omega⟩
theorem ZZ {p:Piece} (h:Bv.Good p):size p<=4000-> ∀a,Nt L a (Bv.steps p a)->E5 L s a (a+size p) (E s p):=by
 induction h with
 |leaf k t h=>
  intro _ a hl
  rw[Gp h]at hl
  rw[VA h]
  by_cases c:k=1
  ·rw[if_pos c]
   refine(G_ L s a).same fun q u=> ?_
   unfold leaf E
   rw[if_pos c]
  rw[if_neg c]at hl ⊢
  exact dZ (by omega) t hl.head
 |many k hk ks h2 hw ih=>
  intro hs a hl
  have hks:ks≠ []:=by intro e;subst e;simp at h2
  rcases hk with rfl|rfl
  ·rw[MR]at hl
   rw[QR]at hs ⊢
   have hall: ∀p,p∈ks->(∀a,(Bv.steps p a).length=size p)/\ ∀a,Nt L a (Bv.steps p a)->E5 L s a (a+size p) (E s p):=fun p hp=>by
    have:=EP hp
    exact⟨Ba (hw p hp) (by omega),ih p hp (by omega)⟩
   rw[show min 4001 (sizes ks)=sizes ks by omega]
   refine(UO hall a hl).same fun q u=> ?_
   conv=>rhs;unfold E
   rw[if_neg (by decide),if_neg (by decide),if_neg (by decide),if_neg (by decide),if_pos rfl]
  rw[MS]at hl
  rw[QS]at hs hl ⊢
  have hall: ∀p,p∈ks->(∀a,(Bv.steps p a).length=size p)/\ ∀a,Nt L a (Bv.steps p a)->E5 L s a (a+size p) (E s p):=fun p hp=>by
   have:=EP hp
   exact⟨Ba (hw p hp) (by omega),ih p hp (by omega)⟩
  rw[show a+min 4001 (sizes ks+2*(ks.length-1))=a+sizes ks+2*(ks.length-1) by omega]at hl ⊢
  refine(UQ hks hall a hl).same fun q u=> ?_
  conv=>rhs;unfold E
  rw[if_neg (by decide),if_neg (by decide),if_neg (by decide),if_neg (by decide),if_neg (by decide),if_pos rfl]
 |rep p m t hm ht hw ih=>
  intro hs a hl
  have hE: ∀q u,E s (.mk 9 no [p] m t) q u↔qW (E s p) m.toNat t q u:=fun q u=>by
   conv=>lhs;unfold E
   rw[if_neg (by decide),if_neg (by decide),if_neg (by decide),if_neg (by decide),if_neg (by decide),if_neg (by decide),if_pos rfl]
   rw[show(fun q u=>sN s [p] q u)=E s p from funext fun q=>funext fun u=>by rw[sN]]
  rw[MU]at hl
  by_cases hu:0<m\/t= -1\/m<t
  ·have hk:=MQ hs hu hm.1
   have hlen:=Ba hw hk
   rw[II]at hs hl ⊢
   refine(dY hlen (ih hk) hm.1 (by omega) (Z:=min 4001 (if t= -1 then m.toNat*size p+size p+2 else m.toNat*size p+(t-m).toNat*(size p+1))) (by omega) a hl).same fun q u=>(hE q u).symm
  have hm0:m=0:=by omega
  have ht0:t=0:=by omega
  subst hm0 ht0
  rw[II]
  simp only[show¬(0:Int)= -1 by decide,if_false,Int.toNat_zero,Nat.zero_mul,Int.sub_self,Nat.add_zero,Nat.min_zero]
  refine(G_ L s a).same fun q u=> ?_
  rw[hE]
  constructor
  ·rintro rfl;exact⟨0,Nat.le_refl _,Or.inr (by decide),rfl⟩
  rintro⟨k,h1,h2,h3⟩
  have:k=0:=by omega
  subst this
  exact h3
end
theorem Nu {p:Piece} (h:Bv.Good p) (hs:size p<=4000) (s:Text) (b t:Nat):LP (prog p) s b t↔E s p b t:=by
 have hlen:=Ba h hs 0
 have vG:Nt (prog p) 0 (Bv.steps p 0):=fun i hi=>by
  unfold ins prog
  rw[List.getD_eq_getElem?_getD,Nat.zero_add,List.getElem?_append_left hi,List.getElem?_eq_getElem hi]
  rfl
 have hend:ins (prog p) (size p)=⟨7,⟨#[]⟩,0,0⟩:=by
  unfold ins prog
  rw[List.getD_eq_getElem?_getD,List.getElem?_append_right (by omega),hlen,Nat.sub_self]
  rfl
 have hf:=ZZ (s:=s) h hs 0 vG
 rw[Nat.zero_add]at hf
 constructor
 ·rintro⟨i,ui,hr⟩
  obtain⟨I,e1,n1⟩:=hf.sound (fun q=>q=b)
  have hmem: ∀i q,Reach (prog p) s b i q->Mem 0 (size p) I (fun q=>q=b) (E s p) i q:=by
   intro i q hr
   have hstep: ∀ {i u j v},Mem 0 (size p) I (fun q=>q=b) (E s p) i u->gJ (prog p) s i u j v->Mem 0 (size p) I (fun q=>q=b) (E s p) j v:=by
    rintro i u j v (⟨h1,h2,h3⟩|⟨rfl,h1⟩) hn
    ·exact n1 i u j v h1 h2 h3 hn
    unfold gJ at hn
    rw[hend]at hn
    simp[IL,takes]at hn
   induction hr with
   |start=>exact e1 b rfl
   |on _ hk ih=>exact hstep ih (Or.inl ⟨hk,rfl⟩)
   |byte _ h1 h2 ih=>exact hstep ih (Or.inr ⟨_,h1,h2,rfl,rfl⟩)
  rcases hmem i t hr with⟨h1,h2,h3⟩|⟨-,q,rfl,hq⟩
  ·exfalso
   have hi:i<(Bv.steps p 0).length:=by omega
   have h4:=vG i hi
   rw[Nat.zero_add]at h4
   rw[h4]at ui
   have:=(Qy h hs 0 _ (List.getElem_mem hi)).k
   omega
  exact hq
 intro he
 exact⟨size p,by rw[hend],hf.full b b t .start he⟩
end BR
namespace BR
open Go Bv
def nexts (x:AL) (s:Text) (q:Nat):List Mark:=(IL x s.length q).map (fun j=>(j,q))++(match s[q]? with
 |some c=>if takes x c then[(x.x.toNat,q+1)]else[]
 |none=> [])
theorem UR {L:List AL} {s:Text} {i q:Nat} {p:Mark}:p∈nexts (ins L i) s q↔gJ L s i q p.1 p.2:=by
 obtain⟨j,v⟩:=p
 unfold nexts gJ
 rw[List.mem_append,List.mem_map]
 constructor
 ·rintro(⟨j',h1,h2⟩|h)
  ·cases h2;exact Or.inl ⟨h1,rfl⟩
  cases hc:s[q]? with
  |none=>rw[hc]at h;simp at h
  |some c=>
   rw[hc]at h
   simp only at h
   by_cases ht:takes (ins L i) c=true
   ·rw[if_pos ht]at h
    simp at h
    exact Or.inr ⟨c,rfl,ht,h.1,h.2⟩
   rw[if_neg ht]at h;simp at h
 rintro(⟨h1,h2⟩|⟨c,hc,ht,h1,h2⟩)
 ·exact Or.inl ⟨j,h1,by simp only at h2;rw[h2]⟩
 right
 rw[hc]
 simp only at h1 h2 ⊢
 rw[if_pos ht,h1,h2]
 simp
end BR
namespace Fg
open Strs Al
open Bv (AL ae)
open BR (Text nexts IL takes)
open EH (CZ D8 CS Bd Ig Ct Jr)
open W14 (AZ)
open Kit (below_draws on CG)
abbrev D_ (B:Nat) (w:World) (v:Value) (l:List Nat):Prop:=Al Ig 1 B w v l
theorem bA {B n c:Nat} {w:World} {A:Option Addr} {l:List Nat} (h:D_ B w (.slice A n c) l) {k:Nat} (hk:k<n): ∃(b o:Nat) (hl:k<l.length),A=some ⟨b,o,none⟩/\w.cell? ⟨b,o+k,none⟩=some (.int .i64 l[k]):=by
 obtain⟨b,o,hl,e,-,hc⟩:=h.Gq Ct (by decide) hk
 refine⟨b,o,hl,e,?_⟩
 have:=hc 0 (by decide)
 rw[Nat.mul_one,Nat.add_zero]at this
 rw[this];rfl
theorem Xh {B B':Nat} {w:World} {u v:Value} {X Y:List Nat} (hx:D_ B w u X) (hy:D_ B' w v Y):Calls Tryz.prog 120 #[u,v] w fun e w'=>e= .returned (.bool (decide (X=Y)))/\Below w.heap.size w w':=by
 obtain⟨A,c,rfl,h1,h2⟩:=hx.form
 obtain⟨A',c',rfl,h3,h4⟩:=hy.form
 have HX:=hid hx
 have HY:=hid hy
 obtain⟨n,hn⟩: ∃n,X.length=n:=⟨_,rfl⟩
 obtain⟨m,hm⟩: ∃m,Y.length=m:=⟨_,rfl⟩
 have YY:=hid hn
 have zm:=hid hm
 rw[hn]at HX h1 ⊢
 rw[hm]at HY h3 ⊢
 unfold maxLen at h2 h4
 clear hx hy hn hm
 by_cases hnm:n=m
 ·subst hnm
  have te:((n:Int) !=(n:Int))=false:=by simp
  obtain⟨R,hR⟩: ∃R,decide (X=Y)=R:=⟨_,rfl⟩
  have HR:=hid hR
  rw[hR]
  have HC:=hid (show n<=c/\c<=9223372036854775807/\n<=c'/\c'<=9223372036854775807 from⟨h1,h2,h3,h4⟩)
  clear hR h1 h2 h3 h4
  go_enter Tryz.func120,Tryz.ntmps120
  go_wp2_with fail
  go_loopg [5] n (fun gk s5 wr=> ∃i:Nat,s5= .int .i64 i/\Hid (i+gk=n)/\Hid (Below w.heap.size w wr)/\Hid (∀(k:Nat) (h1:k<X.length) (h2:k<Y.length),k<i->X[k]=Y[k])/\Hid (D_ B wr (.slice A n c) X)/\Hid (D_ B' wr (.slice A' n c') Y))
  case atStart=>exact⟨0,rfl,by unfold Hid;omega,Below.refl _ _,fun k _ _ h=>absurd h (Nat.not_lt_zero _),HX,HY⟩
  case round=>
   clear HX HY
   obtain⟨i,rfl,hig,LB,HS,HX,HY⟩:=hrel
   cases gk with
   |zero=>
    have hi:i=n:=by have:=hig.out;omega
    subst hi
    have ti: ¬(i:Int)<(i:Int):=by omega
    go_wp2_with fail
    go_ret
    have hxy:X=Y:=List.ext_getElem (by rw[YY.out,zm.out]) fun k h1 h2=>HS.out k h1 h2 (by rw[YY.out]at h1;exact h1)
    exact⟨congrArg (fun b=>Ending.returned (.bool b)) (by rw[<-HR.out,decide_eq_true hxy]),LB.out⟩
   |succ gk=>
    have hi:i<n:=by have:=hig.out;omega
    have ti:(i:Int)<(n:Int):=by omega
    obtain⟨b1,o1,k1,rfl,e1⟩:=bA HX.out hi
    obtain⟨b2,o2,k2,rfl,e2⟩:=bA HY.out hi
    have DT:Hid (wrap64 ((i:Int)+1)=((i+1:Nat):Int)):=by unfold Hid wrap64;have:=HC.out;omega
    obtain⟨x,hxv⟩: ∃x,X[i]=x:=⟨_,rfl⟩
    obtain⟨y,hyv⟩: ∃y,Y[i]=y:=⟨_,rfl⟩
    rw[hxv]at e1
    rw[hyv]at e2
    by_cases hxy:x=y
    ·subst hxy
     have tx:((x:Int) !=(x:Int))=false:=by simp
     have HS2:Hid (∀(k:Nat) (h1:k<X.length) (h2:k<Y.length),k<i+1->X[k]=Y[k]):=fun k h1 h2 hk=>by
      by_cases e:k=i
      ·subst e;rw[hxv,hyv]
      exact HS.out k h1 h2 (by omega)
     clear hxv hyv
     go_wp2_with fail
     go_quiet (fail)
     go_wp2_with fail
     go_roundg gk
     case measure=>omega
     case rel=>exact⟨i+1,by first|rfl|exact congrArg (Value.int .i64) DT.out,by unfold Hid;have:=hig.out;omega,on LB.out (below_draws wr _),HS2,HX,HY⟩
    have tx:((x:Int) !=(y:Int))=true:=by simp;omega
    have hne:X≠Y:=fun e=>by
     subst e
     exact hxy (by rw[<-hxv,<-hyv])
    have EN:=hid hne
    clear hxv hyv hne
    go_wp2_with fail
    go_quiet (fail)
    go_wp2_with fail
    go_ret
    exact⟨congrArg (fun b=>Ending.returned (.bool b)) (by rw[<-HR.out,decide_eq_false EN.out]),on LB.out (below_draws wr _)⟩
 have te:((n:Int) !=(m:Int))=true:=by simp;omega
 have hne:decide (X=Y)=false:=decide_eq_false fun e=>by
  subst e
  exact hnm (by rw[<-YY.out,zm.out])
 rw[hne]
 clear hne
 go_enter Tryz.func120,Tryz.ntmps120
 go_wp2_with fail
 go_ret
 exact⟨rfl,Below.refl _ _⟩
def KW (w:World) (ys:List Nat) (e:Ending) (w':World):Prop:= ∃v,e= .returned v/\w'.ownsRow w.heap.size 3 1 v ys.length (ys.flatMap Ig)/\Below w.heap.size w w'
section
variable {s:ByteArray} {q:Nat} {w:World}
end
end Fg
namespace Fg
open Go.Shelf Strs Al Range
open Bv (AL Ca)
open BR (Text yields)
open EH (Qc Ig Ct Jr Qe)
open Kit (below_draws on)
attribute [local go_sem] Oper.semAt_some
theorem RV (A:Option Addr) (n c:Nat) (s:ByteArray) (f l:Nat) (w:World):Calls Tryz.prog 82 #[.slice A n c,.string s,.int .i64 f,.int .i64 l] w fun e w'=>e= .returned (.func (.func 111) #[] (FH w.heap.size))/\TB w' w.heap.size (.slice A n c) s f l/\Below w.heap.size w w'/\w'.heap.size=w.heap.size+4:=by
 go_enter Tryz.func82,Tryz.ntmps82
 go_wp2_with fail
 go_ret
 obtain⟨w1,h1⟩: ∃w1,w.alloc (.cells #[.slice A n c] 46)=w1:=⟨_,rfl⟩
 obtain⟨w2,h2⟩: ∃w2,w1.alloc (.cells #[.string s] 9)=w2:=⟨_,rfl⟩
 obtain⟨w3,h3⟩: ∃w3,w2.alloc (.cells #[.int .i64 f] 3)=w3:=⟨_,rfl⟩
 obtain⟨w4,h4⟩: ∃w4,w3.alloc (.cells #[.int .i64 l] 3)=w4:=⟨_,rfl⟩
 have z1:w1.heap.size=w.heap.size+1:=by rw[<-h1,World.size_alloc]
 have z2:w2.heap.size=w.heap.size+2:=by rw[<-h2,World.size_alloc,z1]
 have z3:w3.heap.size=w.heap.size+3:=by rw[<-h3,World.size_alloc,z2]
 have z4:w4.heap.size=w.heap.size+4:=by rw[<-h4,World.size_alloc,z3]
 have l1:Below w.heap.size w w1:=by rw[<-h1];exact W14.AZ _ _
 have l2:Below w1.heap.size w1 w2:=by rw[<-h2];exact W14.AZ _ _
 have l3:Below w2.heap.size w2 w3:=by rw[<-h3];exact W14.AZ _ _
 have l4:Below w3.heap.size w3 w4:=by rw[<-h4];exact W14.AZ _ _
 have c1:w1.cell? ⟨w.heap.size,0,none⟩=some (.slice A n c):=by rw[<-h1];exact(Boxed.new w _ _).cell
 have c2:w2.cell? ⟨w.heap.size+1,0,none⟩=some (.string s):=by rw[<-z1,<-h2];exact(Boxed.new w1 _ _).cell
 have c3:w3.cell? ⟨w.heap.size+2,0,none⟩=some (.int .i64 f):=by rw[<-z2,<-h3];exact(Boxed.new w2 _ _).cell
 have c4:w4.cell? ⟨w.heap.size+3,0,none⟩=some (.int .i64 l):=by rw[<-z3,<-h4];exact(Boxed.new w3 _ _).cell
 rw[h1,h2,h3,h4]
 refine⟨?_,⟨?_,?_,?_,c4⟩,on (on (on l1 l2) l3) l4,z4⟩
 ·rfl
 ·exact((on (on l2 l3) l4).cell (p:=⟨w.heap.size,0,none⟩) (by show w.heap.size<_;omega)).trans c1
 ·exact((on l3 l4).cell (p:=⟨w.heap.size+1,0,none⟩) (by show w.heap.size+1<_;omega)).trans c2
 exact(l4.cell (p:=⟨w.heap.size+2,0,none⟩) (by show w.heap.size+2<_;omega)).trans c3
section
variable {w:World} {lv:Value} {L:List AL} {s:ByteArray}
end
end Fg
namespace Fg
open Go.Shelf Strs Al Range
open Bv (AL Ca)
open BR (Text yields)
open EH (Qc)
open Kit (below_draws on)
attribute [local go_sem] Oper.semAt_some
def Xi (T:Nat->Prop) (W:World) (q:Nat) (t:TypeId) (v:Value):Prop:=Boxed W q t v/\ ¬T q
theorem Xi.on {T:Nat->Prop} {A B:World} {q:Nat} {t:TypeId} {v:Value} (h:Xi T A q t v) (ht:AP T A B):Xi (FL T A B) B q t v:=
 ⟨ht.keeps h.1 h.2,fun k=>by
  rcases k with k|k
  ·exact h.2 k
  have:=h.1.lt;omega⟩
theorem VS {T:Nat->Prop} {w0 A B:World} {q:Nat} (h:Below q w0 A) (hT:GH q T A) (ht:AP T A B) (hA:q<=A.heap.size):Below q w0 B:=h.trans (ht.below (fun k hk=>(hT k hk).1) hA)
theorem Gd {fn:Func} {p:Tmp} (h:fn.results= #[.cell p 4]) (tmps:Array Value) (w:World) (q:Nat) (v:Value) (hp:tmps.getD p undef= .pointer (some ⟨q,0,none⟩)) (hc:w.cell? ⟨q,0,none⟩=some v):(results fn tmps).run Tryz.prog w= .ok v w:=by
 rw[Array.getD_eq_getD_getElem?]at hp
 simp only[results,h]
 simp[Sem.run_bind,Result.andThen,hp,go_sem,hc]
section
variable {w:World} {lv:Value} {L:List AL} {s:ByteArray}
theorem RX (h:Qc w.heap.size w lv L) (hn:L.length<=900000) (hs:s.size<=900000):Calls Tryz.prog 54 #[lv,.string s] w fun e w'=>e= .returned (.bool (!(yields L s.data.toList 0 s.size).isEmpty))/\Below w.heap.size w w':=by
 obtain⟨A,c,rfl,-,-⟩:=h.form
 have HP:=hid h
 have HN:=hid (show L.length<=900000/\s.size<=900000 from⟨hn,hs⟩)
 obtain⟨xs,hxs⟩: ∃xs,yields L s.data.toList 0 s.size=xs:=⟨_,rfl⟩
 rw[hxs]
 clear h hn hs
 refine(callsIn_wide (n:=9)).1 ?_
 refine callsIn_of_wp_marks Tryz.func54 rfl trivial ?_ rfl
 simp only[Tryz.ntmps54,List.size_toArray,List.length_cons,List.length_nil,Nat.reduceAdd,Nat.reduceSub,Array.replicate_succ,Array.replicate_zero,List.push_toArray,List.append_toArray,List.nil_append,List.cons_append]
 gi_wp2
 obtain⟨q,hq⟩: ∃q,w.heap.size=q:=⟨_,rfl⟩
 have HQ:=hid hq
 have x0:=Boxed.new w 4 (.bool false)
 have hb1:Below w.heap.size w (w.alloc (.cells #[.bool false] 4)):=W14.AZ _ _
 have hz1:(w.alloc (.cells #[.bool false] 4)).heap.size=q+1:=by rw[World.size_alloc,hq]
 generalize w.alloc (.cells #[.bool false] 4)=w1 at*
 rw[hq]at x0
 have hp1:=hid (HP.out.below hb1)
 have hx1:=hid x0
 have L1:=hid hb1
 have Z1:=hid hz1
 clear x0 hb1 hz1
 refine⟨trivial,?_⟩
 refine(callsIn_wide.2 (RV A L.length c s 0 s.size w1)).mono ?_
 rintro e w2 ⟨rfl,RY,hb2,hz2⟩
 rw[Z1.out]at RY hz2 ⊢
 have hseq:=hid (Xf ⟨q,q+1,.slice A L.length c,L,s,0,s.size⟩ w2 (by have h2:=hp1.out.below (hb2.mono L1.out.size);rw[HQ.out]at h2;exact h2) RY HN.out.1 (by show s.size<=_;have:=HN.out.2;omega) (Nat.zero_le _) (Nat.le_refl _))
 have hx2:Boxed w2 q 4 (.bool false):=(hb2.block q (by rw[Z1.out];omega)).trans hx1.out
 have hB2:=on L1.out hb2
 simp only at hseq
 rw[hxs]at hseq
 clear RY hp1 hx1 L1 Z1 hb2 hxs HP
 gi_wp2
 have hO:GH q (Four (q+1)) w2:=fun k hk=>⟨by have:=hk.1;omega,by have:=hk.2;omega⟩
 have hB2':Below q w w2:=hB2.mono (by omega)
 refine UI (gf:=111) (lb:=FH (q+1)) rfl (enters_of Tryz.func111 (by kernel_rfl) rfl) hseq.out hO (by omega) (fun _=>rfl)
  (fun T pre W=>pre= []/\Xi T W q 4 (.bool false)/\Below q w W) (fun c T pre W=>c= .ret/\pre≠ []/\Xi T W q 4 (.bool true)/\Below q w W)
  (fun T s A B ⟨h1,h2,h3⟩ hT hA ht=>⟨h1,h2.on ht,VS h3 hT ht hA⟩) (fun c T s A B ⟨h0,h1,h2,h3⟩ hT hA ht=>⟨h0,h1,h2.on ht,VS h3 hT ht hA⟩)
  ⟨rfl,⟨hx2,fun h=>by have:=h.1;omega⟩,hB2'⟩
  (fun x=> {tmps:= #[.slice A L.length c,.string s,undef,undef,.pointer (some ⟨q,0,none⟩),.slice A L.length c,.string s,.string s,.int .i64 s.size,.func (.func 111) #[] (FH (q+1)),.int .i64 x.1,.int .i64 x.2],defers:= []}) ?assign ?body ?done ?stop
 case assign=>
  intro l x W K hK
  unfold jO
  gi_wp2
  simpa using hK
 case body=>
  rintro l T pre x W ⟨rfl,⟨hv,mU⟩,hB⟩ hT hb hpre
  have hc:=hv.cell
  have hf:=hv.frozen
  gi_wp2
  have t2:AP (fun k=>q<=k/\ ¬T k) W (W.setCell ⟨q,0,none⟩ (.bool true)):=AP.setCell (a:=⟨q,0,none⟩) _ ⟨by show q<=q;omega,mU⟩
  exact⟨t2,rfl,by simp,⟨hv.set _,mU⟩,hB.trans (t2.below (fun k hk=>hk.1) (by have:=hv.lt;omega))⟩
 case done=>
  rintro T W ⟨hx0,⟨hv,mU⟩,hB⟩ hT um yE hK uF
  have hc:=hv.cell
  have hf:=hv.frozen
  subst hx0
  gi_wp2
  refine⟨by simp,.inl ⟨_,_,rfl,run_takeDeferred ((heap_setCell_other W ⟨q,0,none⟩ w2.heap.size (.bool false) (by show w2.heap.size≠q;omega)).trans hK),?_⟩⟩
  have h3:Below q W ((W.setCell ⟨q,0,none⟩ (.bool false)).putObj w2.heap.size (.deferred none)):=((AP.setCell (T:=fun k=>q<=k) (a:=⟨q,0,none⟩) _ (Nat.le_refl q)).trans (AP.putObj (T:=fun k=>q<=k) _ (by omega))).below (fun k hk=>hk) (by have:=hv.lt;omega)
  refine⟨_,Gd rfl _ _ q (.bool false) rfl ((World.cell?_of_block (World.putObj_heap_other (by show q≠w2.heap.size;omega))).trans (hv.set (.bool false)).cell),rfl,by rw[hq];exact hB.trans h3⟩
 case stop=>
  rintro c T pre W hpre ⟨rfl,hne,⟨hv,mU⟩,hB⟩ hT um yE hK uF
  have hc:=hv.cell
  gi_wp2
  refine⟨by simp,.inl ⟨_,_,rfl,run_takeDeferred hK,?_⟩⟩
  have h3:Below q W (W.putObj w2.heap.size (.deferred none)):=(AP.putObj (T:=fun k=>q<=k) _ (by omega)).below (fun k hk=>hk) (by have:=hB.size;omega)
  have hx:xs.isEmpty=false:=by
   cases xs with
   |nil=>exact absurd (List.prefix_nil.1 hpre) hne
   |cons x l=>rfl
  rw[hx]
  exact⟨_,Gd rfl _ _ q (.bool true) rfl ((World.cell?_of_block (World.putObj_heap_other (by show q≠w2.heap.size;omega))).trans hc),rfl,by rw[hq];exact hB.trans h3⟩
theorem df (h:Qc w.heap.size w lv L) (hn:L.length<=900000) (hs:s.size<=900000):Calls Tryz.prog 51 #[lv,.string s] w fun e w'=>e= .returned (.bool ((yields L s.data.toList 0 0).any fun y=>decide (y.2=s.size)))/\Below w.heap.size w w':=by
 obtain⟨A,c,rfl,-,-⟩:=h.form
 have HP:=hid h
 have HN:=hid (show L.length<=900000/\s.size<=900000 from⟨hn,hs⟩)
 obtain⟨xs,hxs⟩: ∃xs,yields L s.data.toList 0 0=xs:=⟨_,rfl⟩
 rw[hxs]
 clear h hn hs
 refine(callsIn_wide (n:=9)).1 ?_
 refine callsIn_of_wp_marks Tryz.func51 rfl trivial ?_ rfl
 simp only[Tryz.ntmps51,List.size_toArray,List.length_cons,List.length_nil,Nat.reduceAdd,Nat.reduceSub,Array.replicate_succ,Array.replicate_zero,List.push_toArray,List.append_toArray,List.nil_append,List.cons_append]
 obtain⟨q,hq⟩: ∃q,w.heap.size=q:=⟨_,rfl⟩
 have HQ:=hid hq
 gi_wp2
 have y0:=Boxed.new w 9 (.string s)
 have hb0:Below w.heap.size w (w.alloc (.cells #[.string s] 9)):=W14.AZ _ _
 have hz0:(w.alloc (.cells #[.string s] 9)).heap.size=q+1:=by rw[World.size_alloc,hq]
 generalize w.alloc (.cells #[.string s] 9)=w0 at*
 have x0:=Boxed.new w0 4 (.bool false)
 have hb1:Below w0.heap.size w0 (w0.alloc (.cells #[.bool false] 4)):=W14.AZ _ _
 have hz1:(w0.alloc (.cells #[.bool false] 4)).heap.size=q+2:=by rw[World.size_alloc,hz0]
 generalize w0.alloc (.cells #[.bool false] 4)=w1 at*
 rw[hq]at y0
 rw[hz0]at x0
 have hp1:=hid (HP.out.below (on hb0 hb1))
 have hx1:=hid x0
 have hy1:Hid (Boxed w1 q 9 (.string s)):=(hb1.block q (by rw[hz0];omega)).trans y0
 have L1:=hid (on hb0 hb1)
 have Z1:=hid hz1
 clear x0 y0 hb0 hz0 hb1 hz1
 refine⟨trivial,?_⟩
 refine(callsIn_wide.2 (RV A L.length c s 0 0 w1)).mono ?_
 rintro e w2 ⟨rfl,RY,hb2,hz2⟩
 rw[Z1.out]at RY hz2 ⊢
 have hseq:=hid (Xf ⟨q,q+2,.slice A L.length c,L,s,0,0⟩ w2 (by have h2:=hp1.out.below (hb2.mono L1.out.size);rw[HQ.out]at h2;exact h2) RY HN.out.1 (by show s.size<=_;have:=HN.out.2;omega) (Nat.le_refl _) (Nat.zero_le _))
 have hx2:Boxed w2 (q+1) 4 (.bool false):=(hb2.block (q+1) (by rw[Z1.out];omega)).trans hx1.out
 have hy2:Boxed w2 q 9 (.string s):=(hb2.block q (by rw[Z1.out];omega)).trans hy1.out
 have hB2:=on L1.out hb2
 simp only at hseq
 rw[hxs]at hseq
 clear RY hp1 hx1 hy1 L1 Z1 hb2 hxs HP
 gi_wp2
 have hO:GH q (Four (q+2)) w2:=fun k hk=>⟨by have:=hk.1;omega,by have:=hk.2;omega⟩
 have hB2':Below q w w2:=hB2.mono (by omega)
 refine UI (gf:=111) (lb:=FH (q+2)) rfl (enters_of Tryz.func111 (by kernel_rfl) rfl) hseq.out hO (by omega) (fun _=>rfl)
  (fun T pre W=>(∀y∈pre,y.2≠s.size)/\Xi T W (q+1) 4 (.bool false)/\Xi T W q 9 (.string s)/\Below q w W) (fun c T pre W=>c= .ret/\(∃y∈pre,y.2=s.size)/\Xi T W (q+1) 4 (.bool true)/\Below q w W)
  (fun T s A B ⟨h1,h2,h4,h3⟩ hT hA ht=>⟨h1,h2.on ht,h4.on ht,VS h3 hT ht hA⟩) (fun c T s A B ⟨h0,h1,h2,h3⟩ hT hA ht=>⟨h0,h1,h2.on ht,VS h3 hT ht hA⟩)
  ⟨by simp,⟨hx2,fun h=>by have:=h.1;omega⟩,⟨hy2,fun h=>by have:=h.1;omega⟩,hB2'⟩
  (fun x=> {tmps:= #[.slice A L.length c,.string s,undef,.pointer (some ⟨q,0,none⟩),.pointer (some ⟨q+1,0,none⟩),undef,.int .i64 x.2,.slice A L.length c,.string s,.func (.func 111) #[] (FH (q+2)),.int .i64 x.1,.int .i64 x.2,undef,undef,undef,undef],defers:= []}) ?assign ?body ?done ?stop
 case assign=>
  intro l x W K hK
  unfold jO
  gi_wp2
  simpa using hK
 case body=>
  rintro l T pre x W ⟨hno,⟨hv,mU⟩,⟨hy,hTy⟩,hB⟩ hT hb hpre
  have hc:=hv.cell
  have hf:=hv.frozen
  have hyc:=hy.cell
  by_cases he:x.2=s.size
  ·have te:((x.2:Int)==(s.size:Int))=true:=by simp;omega
   gi_wp2
   have t2:AP (fun k=>q<=k/\ ¬T k) W (W.setCell ⟨q+1,0,none⟩ (.bool true)):=AP.setCell (a:=⟨q+1,0,none⟩) _ ⟨by show q<=q+1;omega,mU⟩
   exact⟨t2,rfl,⟨x,by simp,he⟩,⟨hv.set _,mU⟩,hB.trans (t2.below (fun k hk=>hk.1) (by have:=hv.lt;omega))⟩
  have te:((x.2:Int)==(s.size:Int))=false:=by simp;omega
  gi_wp2
  refine⟨AP.refl _ _,fun y hy=> ?_,⟨hv,mU⟩,⟨by assumption,hTy⟩,hB⟩
  rcases List.mem_append.1 hy with h|h
  ·exact hno y h
  simp at h;subst h;exact he
 case done=>
  rintro T W ⟨hno,⟨hv,mU⟩,-,hB⟩ hT um yE hK uF
  have hc:=hv.cell
  have hf:=hv.frozen
  have hx:(xs.any fun y=>decide (y.2=s.size))=false:=by
   rw[List.any_eq_false]
   intro y hy
   simpa using hno y hy
  gi_wp2
  refine⟨by simp,.inl ⟨_,_,rfl,run_takeDeferred ((heap_setCell_other W ⟨q+1,0,none⟩ w2.heap.size (.bool false) (by show w2.heap.size≠q+1;omega)).trans hK),?_⟩⟩
  have h3:Below q W ((W.setCell ⟨q+1,0,none⟩ (.bool false)).putObj w2.heap.size (.deferred none)):=((AP.setCell (T:=fun k=>q<=k) (a:=⟨q+1,0,none⟩) _ (Nat.le_succ q)).trans (AP.putObj (T:=fun k=>q<=k) _ (by omega))).below (fun k hk=>hk) (by have:=hv.lt;omega)
  rw[hx]
  refine⟨_,Gd rfl _ _ (q+1) (.bool false) rfl ((World.cell?_of_block (World.putObj_heap_other (by show q+1≠w2.heap.size;omega))).trans (hv.set (.bool false)).cell),rfl,by rw[hq];exact hB.trans h3⟩
 case stop=>
  rintro c T pre W hpre ⟨rfl,⟨y,hy,hye⟩,⟨hv,mU⟩,hB⟩ hT um yE hK uF
  have hc:=hv.cell
  gi_wp2
  refine⟨by simp,.inl ⟨_,_,rfl,run_takeDeferred hK,?_⟩⟩
  have h3:Below q W (W.putObj w2.heap.size (.deferred none)):=(AP.putObj (T:=fun k=>q<=k) _ (by omega)).below (fun k hk=>hk) (by have:=hB.size;omega)
  have hx:(xs.any fun y=>decide (y.2=s.size))=true:=by
   rw[List.any_eq_true]
   exact⟨y,hpre.subset hy,by simpa using hye⟩
  rw[hx]
  exact⟨_,Gd rfl _ _ (q+1) (.bool true) rfl ((World.cell?_of_block (World.putObj_heap_other (by show q+1≠w2.heap.size;omega))).trans hc),rfl,by rw[hq];exact hB.trans h3⟩
end
end Fg
end Go.Proofs.YtfgegjinhkgpbaaGreatDoor
