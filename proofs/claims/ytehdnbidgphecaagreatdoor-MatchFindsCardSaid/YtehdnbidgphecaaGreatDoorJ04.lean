/-
  Texts joined, in build order, each with its own comment and its own conditions: W16Math, W16Run, W15In, W16Piece.
-/
import Derived.Test.YtehdnbidgphecaaGreatDoorJ03
import Derived.Test.YtehdnbidgphecaaGreatDoorJ01
namespace Go.Proofs.YtehdnbidgphecaaGreatDoor
set_option maxHeartbeats 4000000
set_option maxRecDepth 100000
open Go.RowKit
open Lib (hid)
namespace M16
open Go M15
open M13 (has)
abbrev Text:=List UInt8
abbrev Mark:=Nat×Nat
def ins (L:List Inst) (i:Nat):Inst:=L.getD i ⟨0,no,0,0⟩
def eps (x:Inst) (n q:Nat):List Nat:=
 if x.kind=6 then[x.x.toNat,x.y.toNat]else if x.kind=8 then[x.x.toNat]else if x.kind=4 then(if q=0 then[x.x.toNat]else[])else if x.kind=5 then(if q=n then[x.x.toNat]else[])else[]
def takes (x:Inst) (c:UInt8):Bool:=
 if x.kind=1 then decide (x.text.data.toList.head? =some c)else if x.kind=2 then decide (c≠10)else if x.kind=3 then has x.text.data.toList c.toNat else false
inductive Reach (L:List Inst) (s:Text) (b:Nat):Nat→Nat→Prop where
 |start:Reach L s b 0 b
 |on {i q j:Nat}:Reach L s b i q→j∈eps (ins L i) s.length q→Reach L s b j q
 |byte {i q:Nat} {c:UInt8}:Reach L s b i q→s[q]? =some c→takes (ins L i) c=true→Reach L s b (ins L i).x.toNat (q+1)
def EndsAt (L:List Inst) (s:Text) (b q:Nat):Prop:= ∃i,(ins L i).kind=7∧Reach L s b i q
inductive ER (L:List Inst) (n q:Nat):Nat→Nat→Prop where
 |refl (i:Nat):ER L n q i i
 |step {i j k:Nat}:ER L n q i j→k∈eps (ins L j) n q→ER L n q i k
structure Fair (L:List Inst):Prop where
 some_:0<L.length
 eps_: ∀i n q j,j∈eps (ins L i) n q→j<L.length
 byte_: ∀i c,takes (ins L i) c=true→(ins L i).x.toNat<L.length
section
variable {L:List Inst} {s:Text} {b i j q n t:Nat}
theorem Reach.er (h:Reach L s b i q) (e:ER L s.length q i j):Reach L s b j q:=by
 induction e with
 |refl=>exact h
 |step _ hk ih=>exact ih.on hk
theorem Reach.le (h:Reach L s b i q):b≤q:=by
 induction h with
 |start=>exact Nat.le_refl _
 |on _ _ ih=>exact ih
 |byte _ _ _ ih=>omega
theorem Reach.in_ (h:Reach L s b i q) (hb:b≤s.length):q≤s.length:=by
 induction h with
 |start=>exact hb
 |on _ _ ih=>exact ih
 |byte _ hc _ _=>
  have:=(List.getElem?_eq_some_iff.1 hc).1
  omega
theorem Reach.cases (h:Reach L s b j q):(q=b∧ER L s.length q 0 j)∨ ∃q0 i c,q=q0+1∧Reach L s b i q0∧s[q0]? =some c∧takes (ins L i) c=true∧ER L s.length q (ins L i).x.toNat j:=by
 induction h with
 |start=>exact Or.inl ⟨rfl,.refl _⟩
 |on _ hk ih=>
  rcases ih with⟨rfl,e⟩|⟨q0,i,c,rfl,h1,h2,h3,h4⟩
  ·exact Or.inl ⟨rfl,e.step hk⟩
  ·exact Or.inr ⟨q0,i,c,rfl,h1,h2,h3,h4.step hk⟩
 |byte h hc ht _=>exact Or.inr ⟨_,_,_,rfl,h,hc,ht,.refl _⟩
theorem Reach.mid (h:Reach L s b i t): ∀q,b≤q→q≤t→ ∃j,Reach L s b j q:=by
 induction h with
 |start=>intro q h1 h2;have:q=b:=by omega
         subst this;exact⟨_,.start⟩
 |on _ _ ih=>exact ih
 |byte h hc ht ih=>
  intro q' h1 h2
  rcases Nat.lt_or_ge q' _ with hlt|hge
  ·exact ih q' h1 (Nat.le_of_lt_succ hlt)
  ·have:=Nat.le_antisymm h2 hge
   subst this
   exact⟨_,h.byte hc ht⟩
end
/-! marks -/
def steps (M:List Mark):List Nat:=M.map Prod.fst
def put (M:List Mark) (m:Mark):List Mark:=if M.any (fun x=>x.1==m.1)then M else M++ [m]
def puts (M:List Mark) (l:List Nat) (b:Nat):List Mark:=l.foldl (fun M j=>put M (j,b)) M
def go (L:List Inst) (n q b:Nat):Nat→Nat→List Mark→List Mark
 |0,_,M=>M
 |f+1,i,M=>match M[i]? with
  |none=>M
  |some m=>go L n q b f (i+1) (puts M (eps (ins L m.1) n q) b)
def goOn (L:List Inst) (n q:Nat) (M:List Mark) (m:Mark):List Mark:=go L n q m.2 L.length M.length (put M m)
section
variable {L:List Inst} {M:List Mark} {m:Mark} {n q b i j:Nat}
theorem any_steps:M.any (fun x=>x.1==m.1)=true↔m.1∈steps M:=by
 unfold steps
 simp
theorem put_old (h:m.1∈steps M):put M m=M:=by unfold put;rw[if_pos (any_steps.2 h)]
theorem put_new (h:m.1∉steps M):put M m=M++ [m]:=by unfold put;rw[if_neg (fun e=>h (any_steps.1 e))]
theorem put_pre (M:List Mark) (m:Mark):M<+:put M m:=by
 unfold put
 split
 ·exact List.prefix_refl _
 ·exact List.prefix_append _ _
theorem put_has (M:List Mark) (m:Mark):m.1∈steps (put M m):=by
 by_cases h:m.1∈steps M
 ·rw[put_old h];exact h
 ·rw[put_new h];unfold steps;simp
theorem put_mem {x:Mark} (h:x∈put M m):x∈M∨x=m:=by
 by_cases c:m.1∈steps M
 ·rw[put_old c]at h;exact Or.inl h
 ·rw[put_new c]at h;simpa using h
theorem put_nodup (h:(steps M).Nodup):(steps (put M m)).Nodup:=by
 by_cases c:m.1∈steps M
 ·rw[put_old c];exact h
 ·rw[put_new c]
  unfold steps at*
  rw[List.map_append,List.nodup_append]
  refine⟨h,by simp,?_⟩
  intro a ha b hb e
  simp at hb
  subst hb e
  exact c ha
theorem steps_pre {M M':List Mark} (h:M<+:M') (hj:j∈steps M):j∈steps M':=by
 unfold steps at*
 obtain⟨x,hx,rfl⟩:=List.mem_map.1 hj
 exact List.mem_map.2 ⟨x,h.subset hx,rfl⟩
theorem puts_pre (l:List Nat) (b:Nat): ∀M:List Mark,M<+:puts M l b:=by
 unfold puts
 induction l with
 |nil=>intro M;exact List.prefix_refl _
 |cons x l ih=>intro M;exact(put_pre M (x,b)).trans (ih _)
theorem puts_has {l:List Nat} {b:Nat}: ∀ {M:List Mark},j∈l→j∈steps (puts M l b):=by
 unfold puts
 induction l with
 |nil=>intro M h;simp at h
 |cons x l ih=>
  intro M h
  rcases List.mem_cons.1 h with rfl|h
  ·exact steps_pre (puts_pre l b _) (put_has M (j,b))
  ·exact ih h
theorem puts_mem {l:List Nat} {b:Nat} {x:Mark}: ∀ {M:List Mark},x∈puts M l b→x∈M∨(x.1∈l∧x.2=b):=by
 unfold puts
 induction l with
 |nil=>intro M h;exact Or.inl h
 |cons y l ih=>
  intro M h
  rcases ih h with h|⟨h1,h2⟩
  ·rcases put_mem h with h|rfl
   ·exact Or.inl h
   ·exact Or.inr ⟨by simp,rfl⟩
  ·exact Or.inr ⟨by simp[h1],h2⟩
theorem puts_nodup {l:List Nat} {b:Nat}: ∀ {M:List Mark},(steps M).Nodup→(steps (puts M l b)).Nodup:=by
 unfold puts
 induction l with
 |nil=>intro M h;exact h
 |cons y l ih=>intro M h;exact ih (put_nodup h)
theorem nodup_le: ∀(n:Nat) {l:List Nat},l.Nodup→(∀x∈l,x<n)→l.length≤n
 |0,[],_,_=>Nat.le_refl _
 |0,x::l,_,h=>absurd (h x (by simp)) (by omega)
 |n+1,l,hn,h=>by
  by_cases c:n∈l
  ·have h1:=nodup_le n (l:=l.erase n) (hn.erase n) (fun x hx=>by
     have h2:=h x (List.mem_of_mem_erase hx)
     have h3:x≠n:=fun e=>by subst e;exact(List.Nodup.not_mem_erase hn) hx
     omega)
   rw[List.length_erase_of_mem c]at h1
   have:=List.length_pos_of_mem c
   omega
  ·have h1:=nodup_le n hn (fun x hx=>by
     have h2:=h x hx
     have h3:x≠n:=fun e=>by subst e;exact c hx
     omega)
   omega
structure Row (L:List Inst) (n q:Nat) (M:List Mark):Prop where
 nodup:(steps M).Nodup
 low: ∀x∈M,x.1<L.length
 shut: ∀x∈M,∀j∈eps (ins L x.1) n q,j∈steps M
 rise:M.Pairwise fun x y=>x.2≤y.2
theorem Row.nil (L:List Inst) (n q:Nat):Row L n q []:=⟨by simp[steps],by simp,by simp,.nil⟩
theorem Row.len (h:Row L n q M):M.length≤L.length:=by
 have:=nodup_le L.length h.nodup (fun x hx=>by
  obtain⟨y,hy,rfl⟩:=List.mem_map.1 hx
  exact h.low y hy)
 simpa [steps]using this
structure Going (L:List Inst) (n q b i0:Nat) (M0:List Mark) (i:Nat) (M:List Mark):Prop where
 pre:M0<+:M
 nodup:(steps M).Nodup
 low: ∀x∈M,x.1<L.length
 from_: ∀x∈M,x∈M0∨(x.2=b∧ER L n q i0 x.1)
 shut: ∀k x,k<i→M[k]? =some x→ ∀j∈eps (ins L x.1) n q,j∈steps M
 has:i0∈steps M
theorem Going.next {i0:Nat} {M0:List Mark} {x:Mark} (hf:Fair L) (h:Going L n q b i0 M0 i M) (hM:M0.length≤i) (h0: ∀y∈M0,∀j∈eps (ins L y.1) n q,j∈steps M) (hx:M[i]? =some x):Going L n q b i0 M0 (i+1) (puts M (eps (ins L x.1) n q) b):=by
 have hpre:=puts_pre (eps (ins L x.1) n q) b M
 refine⟨h.pre.trans hpre,puts_nodup h.nodup,fun y hy=> ?_,fun y hy=> ?_,fun k y hk hy j hj=> ?_,steps_pre hpre h.has⟩
 ·rcases puts_mem hy with h1|⟨h1,-⟩
  ·exact h.low y h1
  ·exact hf.eps_ _ _ _ _ h1
 ·rcases puts_mem hy with h1|⟨h1,h2⟩
  ·exact h.from_ y h1
  ·have hxm:=List.mem_of_getElem? hx
   rcases h.from_ x hxm with h3|⟨h3,h4⟩
   ·have h5:=h0 x h3 _ h1
    obtain⟨z,hz,e⟩:=List.mem_map.1 h5
    -- x's step was there before:its own kids are marked already
    have h6:y∈M:=by
     have hnd:=puts_nodup (l:=eps (ins L x.1) n q) (b:=b) h.nodup
     have hzp:=hpre.subset hz
     have:z=y:=by
      have hi:=List.pairwise_map.1 hnd
      by_cases hzy:z=y
      ·exact hzy
      ·exfalso
       obtain⟨k1,hk1,e1⟩:=List.mem_iff_getElem.1 hzp
       obtain⟨k2,hk2,e2⟩:=List.mem_iff_getElem.1 hy
       have hp:=List.pairwise_iff_getElem.1 hi
       rcases Nat.lt_trichotomy k1 k2 with q1|q1|q1
       ·have:=hp k1 k2 hk1 hk2 q1
        rw[e1,e2]at this
        exact this e
       ·subst q1;exact hzy (e1.symm.trans e2)
       ·have:=hp k2 k1 hk2 hk1 q1
        rw[e1,e2]at this
        exact this e.symm
     rw[←this];exact hz
    exact h.from_ y h6
   ·exact Or.inr ⟨h2,h4.step h1⟩
 ·have hlt:k<M.length∨M.length≤k:=Nat.lt_or_ge _ _
  have hi:=(List.getElem?_eq_some_iff.1 hx).1
  have hky:M[k]? =some y:=by
   obtain⟨r,hr⟩:=hpre
   rw[←hr,List.getElem?_append_left (by omega)]at hy
   exact hy
  by_cases hki:k=i
  ·subst hki
   rw[hx]at hky
   cases hky
   exact puts_has hj
  ·exact steps_pre hpre (h.shut k y (by omega) hky j hj)
theorem go_going {i0:Nat} {M0:List Mark} (hf:Fair L): ∀(f:Nat) {i:Nat} {M:List Mark},Going L n q b i0 M0 i M→M0.length≤i→(∀y∈M0,∀j∈eps (ins L y.1) n q,j∈steps M0)→L.length≤i+f→ ∃i',Going L n q b i0 M0 i' (go L n q b f i M)∧(go L n q b f i M).length≤i'
 |0,i,M,h,_,_,hl=>by
  refine⟨i,h,?_⟩
  have:=nodup_le L.length h.nodup (fun x hx=>by
   obtain⟨y,hy,rfl⟩:=List.mem_map.1 hx
   exact h.low y hy)
  simp[steps]at this
  show M.length≤i
  omega
 |f+1,i,M,h,hM,h0,hl=>by
  unfold go
  split
  ·rename_i hn
   exact⟨i,h,List.getElem?_eq_none_iff.1 hn⟩
  ·rename_i x hx
   exact go_going hf f (h.next hf hM (fun y hy j hj=>steps_pre h.pre (h0 y hy j hj)) hx) (by omega) h0 (by omega)
structure Went (L:List Inst) (n q:Nat) (m:Mark) (M M':List Mark):Prop where
 pre:M<+:M'
 row:Row L n q M'
 from_: ∀x∈M',x∈M∨(x.2=m.2∧ER L n q m.1 x.1)
 all: ∀j,ER L n q m.1 j→ ∃x∈M',x.1=j∧x.2≤m.2
theorem goOn_went (hf:Fair L) (h:Row L n q M) (hm:m.1<L.length) (hb: ∀x∈M,x.2≤m.2):Went L n q m M (goOn L n q M m):=by
 obtain⟨i',hg,hi⟩:=go_going (b:=m.2) (i0:=m.1) (M0:=M) hf L.length (i:=M.length) (M:=put M m) ⟨put_pre M m,put_nodup h.nodup,fun x hx=>by
     rcases put_mem hx with h1|rfl
     ·exact h.low x h1
     ·exact hm,fun x hx=>by
     rcases put_mem hx with h1|rfl
     ·exact Or.inl h1
     ·exact Or.inr ⟨rfl,.refl _⟩,fun k x hk hx j hj=>by
     have h1:M[k]? =some x:=by
      obtain⟨r,hr⟩:=put_pre M m
      rw[←hr,List.getElem?_append_left hk]at hx
      exact hx
     exact steps_pre (put_pre M m) (h.shut x (List.mem_of_getElem? h1) j hj),put_has M m⟩ (Nat.le_refl _) h.shut (by omega)
 change Going L n q m.2 m.1 M i' (goOn L n q M m)at hg
 change (goOn L n q M m).length≤i' at hi
 generalize goOn L n q M m=R at*
 have hshut: ∀x∈R,∀j∈eps (ins L x.1) n q,j∈steps R:=fun x hx j hj=>by
  obtain⟨k,hk,rfl⟩:=List.mem_iff_getElem.1 hx
  exact hg.shut k _ (by omega) (List.getElem?_eq_getElem hk) j hj
 have hle: ∀x∈R,x.2≤m.2:=fun x hx=>by
  rcases hg.from_ x hx with h1|⟨h1,-⟩
  ·exact hb x h1
  ·omega
 have hall: ∀j,ER L n q m.1 j→j∈steps R:=fun j he=>by
  induction he with
  |refl=>exact hg.has
  |step _ hk ih=>
   obtain⟨x,hx,rfl⟩:=List.mem_map.1 ih
   exact hshut x hx _ hk
 refine⟨hg.pre,⟨hg.nodup,hg.low,hshut,?_⟩,hg.from_,fun j hj=> ?_⟩
 ·obtain⟨N,rfl⟩:=hg.pre
  rw[List.pairwise_append]
  have hN: ∀x∈N,x.2=m.2∨x∈M:=fun x hx=>by
   rcases hg.from_ x (by simp[hx])with h1|⟨h1,-⟩
   ·exact Or.inr h1
   ·exact Or.inl h1
  have hNd: ∀x∈N,x∉M:=fun x hx hxM=>by
   have:=hg.nodup
   unfold steps at this
   rw[List.map_append,List.nodup_append]at this
   exact this.2.2 x.1 (List.mem_map.2 ⟨x,hxM,rfl⟩) x.1 (List.mem_map.2 ⟨x,hx,rfl⟩) rfl
  have hNe: ∀x∈N,x.2=m.2:=fun x hx=>by
   rcases hN x hx with h1|h1
   ·exact h1
   ·exact absurd h1 (hNd x hx)
  refine⟨h.rise,?_,fun x hx y hy=> ?_⟩
  ·exact List.Pairwise.imp_of_mem (R:=fun _ _=>True) (fun ha hb _=>by rw[hNe _ ha,hNe _ hb];exact Nat.le_refl _) (List.pairwise_of_forall (fun _ _=>trivial))
  ·rw[hNe y hy];exact hb x hx
 ·obtain⟨x,hx,rfl⟩:=List.mem_map.1 (hall j hj)
  exact⟨x,hx,rfl,hle x hx⟩
end
end M16
namespace M16
open Go M15
def adv (L:List Inst) (s:Text) (q:Nat) (nx:List Mark) (m:Mark):List Mark:=
 match s[q]? with
 |some c=>if takes (ins L m.1) c then goOn L s.length (q+1) nx ((ins L m.1).x.toNat,m.2)else nx
 |none=>nx
def past (e:Option Nat) (m:Mark):Bool:=match e with
 |some b=>decide (b<m.2)
 |none=>false
def scan (L:List Inst) (s:Text) (q:Nat):List Mark→Option Nat→List Mark→Option Nat×List Mark
 | [],e,nx=>(e,nx)
 |m::r,e,nx=>if past e m then(e,nx)else if(ins L m.1).kind=7 then scan L s q r (some m.2) nx else scan L s q r e (adv L s q nx m)
def entered (L:List Inst) (s:Text) (q u:Nat) (now:List Mark):List Mark:=if q≤u then goOn L s.length q now (0,q)else now
def run (L:List Inst) (s:Text):Nat→Nat→Nat→List Mark→List Mark
 |0,_,_,_=> []
 |f+1,q,u,now=>if q≤u∨now≠ []then
   match scan L s q (entered L s q u now) none []with
   |(some b,nx)=>(b,q)::run L s f (q+1) q nx
   |(none,nx)=>run L s f (q+1) u nx
  else[]
def yields (L:List Inst) (s:Text) (first last:Nat):List Mark:=if rightP L then run L s (s.length+1-first) first last []else[]
theorem match_takes (x:Inst) (c:UInt8) (h:x.kind=7):takes x c=false:=by
 unfold takes
 rw[if_neg (by omega),if_neg (by omega),if_neg (by omega)]
section
variable {L:List Inst} {s:Text} {q b n:Nat}
theorem scan_some (b:Nat): ∀(l:List Mark) (nx:List Mark),(l.Pairwise fun x y=>x.2≤y.2)→(∀x∈l,b≤x.2)→scan L s q l (some b) nx=(some b,(l.filter fun x=>decide (x.2≤b)).foldl (adv L s q) nx)
 | [],nx,_,_=>rfl
 |m::r,nx,hp,hb=>by
  have hp2:=List.pairwise_cons.1 hp
  rw[scan]
  by_cases h:b<m.2
  ·rw[if_pos (by simp[past,h])]
   have:(m::r).filter (fun x=>decide (x.2≤b))= []:=by
    rw[List.filter_eq_nil_iff]
    intro x hx
    simp only[decide_eq_true_eq]
    rcases List.mem_cons.1 hx with rfl|hx
    ·omega
    ·have:=hp2.1 x hx;omega
   rw[this];rfl
  ·rw[if_neg (by simp[past,h])]
   have hm:=hb m (by simp)
   have he:m.2=b:=by omega
   rw[List.filter_cons_of_pos (by simp;omega)]
   by_cases h7:(ins L m.1).kind=7
   ·rw[if_pos h7,he,scan_some b r nx hp2.2 (fun x hx=>hb x (by simp[hx])),List.foldl_cons]
    have:adv L s q nx m=nx:=by
     unfold adv
     cases s[q]? with
     |none=>rfl
     |some c=>simp[match_takes _ c h7]
    rw[this]
   ·rw[if_neg h7,scan_some b r _ hp2.2 (fun x hx=>hb x (by simp[hx])),List.foldl_cons]
theorem scan_is: ∀(l:List Mark) (nx:List Mark),(l.Pairwise fun x y=>x.2≤y.2)→
    ((∀x∈l,(ins L x.1).kind≠7)∧scan L s q l none nx=(none,l.foldl (adv L s q) nx))∨
    (∃x∈l,(ins L x.1).kind=7∧(∀y∈l,(ins L y.1).kind=7→x.2≤y.2)∧scan L s q l none nx=(some x.2,(l.filter fun y=>decide (y.2≤x.2)).foldl (adv L s q) nx))
 | [],nx,_=>Or.inl ⟨by simp,rfl⟩
 |m::r,nx,hp=>by
  have hp2:=List.pairwise_cons.1 hp
  have hsc:scan L s q (m::r) none nx=if(ins L m.1).kind=7 then scan L s q r (some m.2) nx else scan L s q r none (adv L s q nx m):=by
   rw[scan,if_neg (by simp[past])]
  by_cases h7:(ins L m.1).kind=7
  ·right
   refine⟨m,by simp,h7,fun y hy _=> ?_,?_⟩
   ·rcases List.mem_cons.1 hy with rfl|hy
    ·exact Nat.le_refl _
    ·exact hp2.1 y hy
   ·rw[hsc,if_pos h7,scan_some m.2 r nx hp2.2 hp2.1,List.filter_cons_of_pos (by simp),List.foldl_cons]
    have:adv L s q nx m=nx:=by
     unfold adv
     cases s[q]? with
     |none=>rfl
     |some c=>simp[match_takes _ c h7]
    rw[this]
  ·rcases scan_is r (adv L s q nx m) hp2.2 with⟨h1,h2⟩|⟨x,hx,hx7,h1,h2⟩
   ·left
    refine⟨fun y hy=> ?_,by rw[hsc,if_neg h7,h2];rfl⟩
    rcases List.mem_cons.1 hy with rfl|hy
    ·exact h7
    ·exact h1 y hy
   ·right
    refine⟨x,by simp[hx],hx7,fun y hy hy7=> ?_,?_⟩
    ·rcases List.mem_cons.1 hy with rfl|hy
     ·exact absurd hy7 h7
     ·exact h1 y hy hy7
    ·rw[hsc,if_neg h7,h2,List.filter_cons_of_pos (by simp[hp2.1 x hx]),List.foldl_cons]
structure Adv (L:List Inst) (s:Text) (q:Nat) (l nx nx':List Mark):Prop where
 pre:nx<+:nx'
 row:Row L s.length (q+1) nx'
 from_: ∀x∈nx',x∈nx∨ ∃y∈l,∃c,s[q]? =some c∧takes (ins L y.1) c=true∧x.2=y.2∧ER L s.length (q+1) (ins L y.1).x.toNat x.1
 all: ∀y∈l,∀c,s[q]? =some c→takes (ins L y.1) c=true→ ∀j,ER L s.length (q+1) (ins L y.1).x.toNat j→ ∃x∈nx',x.1=j∧x.2≤y.2
theorem advs (hf:Fair L): ∀(l nx:List Mark),(l.Pairwise fun x y=>x.2≤y.2)→Row L s.length (q+1) nx→(∀x∈nx,∀y∈l,x.2≤y.2)→Adv L s q l nx (l.foldl (adv L s q) nx)
 | [],nx,_,hr,_=>⟨List.prefix_refl _,hr,fun x hx=>Or.inl hx,by simp⟩
 |m::r,nx,hp,hr,hb=>by
  have hp2:=List.pairwise_cons.1 hp
  rw[List.foldl_cons]
  have one:Adv L s q [m] nx (adv L s q nx m)∧ ∀x∈adv L s q nx m,∀y∈r,x.2≤y.2:=by
   have hnx: ∀x∈nx,∀y∈r,x.2≤y.2:=fun x hx y hy=>hb x hx y (by simp[hy])
   unfold adv
   cases hc:s[q]? with
   |none=>exact⟨⟨List.prefix_refl _,hr,fun x hx=>Or.inl hx,fun y _ c h=>by rw[hc]at h;cases h⟩,hnx⟩
   |some c=>
    by_cases ht:takes (ins L m.1) c=true
    ·have hw:=goOn_went (n:=s.length) (q:=q+1) (m:=((ins L m.1).x.toNat,m.2)) hf hr (hf.byte_ _ _ ht) (fun x hx=>hb x hx m (by simp))
     simp only[ht,if_true]
     generalize goOn L s.length (q+1) nx ((ins L m.1).x.toNat,m.2)=R at hw
     refine⟨⟨hw.pre,hw.row,fun x hx=> ?_,fun y hy c' hc' _ j hj=> ?_⟩,fun x hx y hy=> ?_⟩
     ·rcases hw.from_ x hx with h1|⟨h1,h2⟩
      ·exact Or.inl h1
      ·exact Or.inr ⟨m,by simp,c,hc,ht,h1,h2⟩
     ·simp at hy
      subst hy
      exact hw.all j hj
     ·rcases hw.from_ x hx with h1|⟨h1,h2⟩
      ·exact hnx x h1 y hy
      ·rw[h1];exact hp2.1 y hy
    ·have ht2:takes (ins L m.1) c=false:=by simpa using ht
     simp only[ht2]
     exact⟨⟨List.prefix_refl _,hr,fun x hx=>Or.inl hx,fun y hy c' hc' h=>by
      rw[hc]at hc'
      cases hc'
      simp at hy
      subst hy
      rw[ht2]at h;cases h⟩,hnx⟩
  obtain⟨h1,h2⟩:=one
  have h3:=advs hf r (adv L s q nx m) hp2.2 h1.row h2
  refine⟨h1.pre.trans h3.pre,h3.row,fun x hx=> ?_,fun y hy c hc ht j hj=> ?_⟩
  ·rcases h3.from_ x hx with h4|⟨y,hy,h4⟩
   ·rcases h1.from_ x h4 with h5|⟨y,hy,h5⟩
    ·exact Or.inl h5
    ·simp at hy
     subst hy
     exact Or.inr ⟨y,by simp,h5⟩
   ·exact Or.inr ⟨y,by simp[hy],h4⟩
  ·rcases List.mem_cons.1 hy with rfl|hy
   ·obtain⟨x,hx,e1,e2⟩:=h1.all y (by simp) c hc ht j hj
    exact⟨x,h3.pre.subset hx,e1,e2⟩
   ·exact h3.all y hy c hc ht j hj
structure Marks (L:List Inst) (s:Text) (first bd q:Nat) (M:List Mark):Prop where
 row:Row L s.length q M
 real: ∀x∈M,first≤x.2∧x.2≤bd∧x.2<q∧Reach L s x.2 x.1 q
 all: ∀b i,first≤b→b≤bd→b<q→Reach L s b i q→ ∃x∈M,x.1=i∧x.2≤b
structure Here (L:List Inst) (s:Text) (first bd q:Nat) (M:List Mark):Prop where
 row:Row L s.length q M
 real: ∀x∈M,first≤x.2∧x.2≤bd∧x.2≤q∧Reach L s x.2 x.1 q
 all: ∀b i,first≤b→b≤bd→Reach L s b i q→ ∃x∈M,x.1=i∧x.2≤b
variable {first bd u:Nat} {M now:List Mark}
theorem Marks.here (hf:Fair L) (h:Marks L s first bd q M) (hq:first≤q) (hu:bd≤u) (hu2:q≤u→q≤bd):Here L s first bd q (entered L s q u M):=by
 unfold entered
 split
 ·rename_i hqu
  have hw:=goOn_went (n:=s.length) (q:=q) (m:=(0,q)) hf h.row hf.some_ (fun x hx=>by have:=(h.real x hx).2.2.1;show x.2≤q;omega)
  generalize goOn L s.length q M (0,q)=R at hw
  refine⟨hw.row,fun x hx=> ?_,fun b i h1 h2 h3=> ?_⟩
  ·rcases hw.from_ x hx with h1|⟨h1,h2⟩
   ·have:=h.real x h1;exact⟨this.1,this.2.1,by omega,this.2.2.2⟩
   ·simp only at h1 h2
    rw[h1]
    exact⟨hq,hu2 hqu,Nat.le_refl _,Reach.start.er h2⟩
  ·rcases Nat.lt_or_ge b q with hlt|hge
   ·obtain⟨x,hx,e1,e2⟩:=h.all b i h1 h2 hlt h3
    exact⟨x,hw.pre.subset hx,e1,e2⟩
   ·have hbq:b=q:=Nat.le_antisymm h3.le hge
    subst hbq
    rcases h3.cases with⟨-,e⟩|⟨q0,i0,c,hq0,h4,-⟩
    ·exact hw.all i e
    ·have:=h4.le;omega
 ·rename_i hqu
  refine⟨h.row,fun x hx=> ?_,fun b i h1 h2 h3=>h.all b i h1 h2 (by omega) h3⟩
  have:=h.real x hx
  exact⟨this.1,this.2.1,by omega,this.2.2.2⟩
theorem Here.next (hf:Fair L) (h:Here L s first bd q M) (bd':Nat) (hb:bd'≤bd) (hfull:bd'=bd∨bd'≤q):Marks L s first bd' (q+1) ((M.filter fun y=>decide (y.2≤bd')).foldl (adv L s q) []):=by
 have ha:=advs (s:=s) (q:=q) hf (M.filter fun y=>decide (y.2≤bd')) [] (h.row.rise.filter _) (Row.nil _ _ _) (by simp)
 generalize (M.filter fun y=>decide (y.2≤bd')).foldl (adv L s q) []=R at ha
 refine⟨ha.row,fun x hx=> ?_,fun b i h1 h2 h3 h4=> ?_⟩
 ·rcases ha.from_ x hx with h1|⟨y,hy,c,h1,h2,h3,h4⟩
  ·simp at h1
  ·obtain⟨hy1,hy2⟩:=List.mem_filter.1 hy
   simp only[decide_eq_true_eq]at hy2
   obtain⟨r1,r2,r3,r4⟩:=h.real y hy1
   rw[h3]
   exact⟨r1,hy2,by omega,(r4.byte h1 h2).er h4⟩
 ·rcases h4.cases with⟨e,-⟩|⟨q0,i0,c,e,h5,h6,h7,h8⟩
  ·omega
  ·have:q0=q:=by omega
   subst this
   obtain⟨y,hy,e1,e2⟩:=h.all b i0 h1 (by omega) h5
   subst e1
   obtain⟨x,hx,e3,e4⟩:=ha.all y (List.mem_filter.2 ⟨hy,by simp;omega⟩) c h6 h7 i h8
   exact⟨x,hx,e3,by omega⟩
theorem filter_all {l:List Mark} {bd:Nat} (h: ∀x∈l,x.2≤bd):l.filter (fun y=>decide (y.2≤bd))=l:=by
 rw[List.filter_eq_self]
 intro x hx
 simpa using h x hx
structure Tells (L:List Inst) (s:Text) (first bd q:Nat) (Y:List Mark):Prop where
 real: ∀y∈Y,q≤y.2∧first≤y.1∧y.1≤bd∧EndsAt L s y.1 y.2
 all: ∀b t,first≤b→b≤bd→q≤t→EndsAt L s b t→ ∃y∈Y,y.1≤b∧(y.2=t∨(y.1<b∧y.2<t))
 rise:Y.Pairwise fun x y=>x.2<y.2∧y.1≤x.1
theorem run_tells (hf:Fair L): ∀(f q bd u:Nat) (now:List Mark),Marks L s first bd q now→first≤q→bd≤u→(u=bd∨u<q)→bd≤s.length→s.length+1≤q+f→Tells L s first bd q (run L s f q u now)
 |0,q,bd,u,now,_,_,_,_,hbs,hl=>by
  refine⟨by simp[run],fun b t h1 h2 h3 h4=> ?_,.nil⟩
  obtain⟨i,-,hr⟩:=h4
  have:=hr.in_ (by omega)
  omega
 |f+1,q,bd,u,now,hm,hq,hu,hu2,hbs,hl=>by
  unfold run
  split
  ·have hh:=hm.here hf hq hu (fun h=>by omega)
   generalize entered L s q u now=M at hh
   rcases scan_is (L:=L) (s:=s) (q:=q) M [] hh.row.rise with⟨h1,h2⟩|⟨x,hx,hx7,h1,h2⟩
   ·rw[h2]
    simp only
    have hn:=hh.next hf bd (Nat.le_refl _) (Or.inl rfl)
    rw[filter_all (fun x hx=>(hh.real x hx).2.1)]at hn
    have ih:=run_tells hf f (q+1) bd u _ hn (by omega) hu (by omega) hbs (by omega)
    refine⟨fun y hy=> ?_,fun b t h3 h4 h5 h6=> ?_,ih.rise⟩
    ·obtain⟨i1,i2⟩:=ih.real y hy
     exact⟨by omega,i2⟩
    ·by_cases htq:t=q
     ·subst htq
      obtain⟨i,hi7,hi⟩:=h6
      obtain⟨y,hy,rfl,e2⟩:=hh.all b i h3 h4 hi
      exact absurd hi7 (h1 y hy)
     ·exact ih.all b t h3 h4 (by omega) h6
   ·rw[h2]
    simp only
    obtain⟨r1,r2,r3,r4⟩:=hh.real x hx
    have hn:=hh.next hf x.2 r2 (Or.inr r3)
    have ih:=run_tells hf f (q+1) x.2 q _ hn (by omega) r3 (Or.inr (by omega)) (by omega) (by omega)
    refine⟨fun y hy=> ?_,fun b t h3 h4 h5 h6=> ?_,List.pairwise_cons.2 ⟨fun y hy=> ?_,ih.rise⟩⟩
    ·rcases List.mem_cons.1 hy with rfl|hy
     ·exact⟨Nat.le_refl _,r1,r2,x.1,hx7,r4⟩
     ·obtain⟨i1,i2,i3,i4⟩:=ih.real y hy
      exact⟨by omega,i2,by omega,i4⟩
    ·by_cases htq:t=q
     ·subst htq
      obtain⟨i,hi7,hi⟩:=h6
      obtain⟨y,hy,rfl,e2⟩:=hh.all b i h3 h4 hi
      have:=h1 y hy hi7
      exact⟨(x.2,t),by simp,by show x.2≤b;omega,Or.inl rfl⟩
     ·by_cases hbx:b≤x.2
      ·obtain⟨y,hy,e1,e2⟩:=ih.all b t h3 hbx (by omega) h6
       exact⟨y,by simp[hy],e1,e2⟩
      ·exact⟨(x.2,q),by simp,by show x.2≤b;omega,Or.inr ⟨by show x.2<b;omega,by show q<t;omega⟩⟩
    ·obtain⟨i1,i2,i3,i4⟩:=ih.real y hy
     exact⟨by show q<y.2;omega,i3⟩
  ·rename_i hc
   refine⟨by simp,fun b t h1 h2 h3 h4=> ?_,.nil⟩
   exfalso
   apply hc
   obtain⟨i,-,hr⟩:=h4
   by_cases hbq:b<q
   ·obtain⟨j,hj⟩:=hr.mid q (by omega) h3
    obtain⟨x,hx,-⟩:=hm.all b j h1 h2 hbq hj
    exact Or.inr (fun e=>by rw[e]at hx;simp at hx)
   ·exact Or.inl (by omega)
theorem marks_start (L:List Inst) (s:Text) (first bd:Nat):Marks L s first bd first []:=
 ⟨Row.nil _ _ _,by simp,fun b i h1 _ h2 _=>by omega⟩
theorem yields_tells (hf:Fair L) (hr:rightP L=true) {last:Nat} (h1:first≤last) (h2:last≤s.length):Tells L s first last first (yields L s first last):=by
 unfold yields
 rw[if_pos hr]
 exact run_tells hf _ first last last [] (marks_start L s first last) (Nat.le_refl _) (Nat.le_refl _) (Or.inl rfl) h2 (by omega)
theorem yields_one (hf:Fair L) (hr:rightP L=true) {b:Nat} (hb:b≤s.length):((yields L s b b).map Prod.snd).Pairwise (fun x y=>x<y)∧ ∀t,t∈(yields L s b b).map Prod.snd↔EndsAt L s b t:=by
 have h:=yields_tells hf hr (Nat.le_refl b) hb
 refine⟨List.pairwise_map.2 (h.rise.imp fun h=>h.1),fun t=>⟨fun ht=> ?_,fun ht=> ?_⟩⟩
 ·obtain⟨y,hy,rfl⟩:=List.mem_map.1 ht
  obtain⟨r1,r2,r3,r4⟩:=h.real y hy
  have:y.1=b:=by omega
  rw[this]at r4
  exact r4
 ·obtain⟨i,-,hi⟩:=id ht
  obtain⟨y,hy,e1,e2⟩:=h.all b t (Nat.le_refl _) (Nat.le_refl _) hi.le ht
  have:=(h.real y hy).2.1
  exact List.mem_map.2 ⟨y,hy,by omega⟩
theorem yields_any (hf:Fair L) (hr:rightP L=true):yields L s 0 s.length≠ []↔ ∃b t,b≤s.length∧EndsAt L s b t:=by
 have h:=yields_tells (s:=s) hf hr (Nat.zero_le s.length) (Nat.le_refl _)
 constructor
 ·intro hn
  obtain⟨y,hy⟩:=List.exists_mem_of_ne_nil _ hn
  obtain⟨r1,r2,r3,r4⟩:=h.real y hy
  exact⟨y.1,y.2,r3,r4⟩
 ·rintro⟨b,t,hb,ht⟩ hn
  obtain⟨y,hy,-⟩:=h.all b t (Nat.zero_le _) hb (Nat.zero_le _) ht
  rw[hn]at hy
  simp at hy
theorem yields_last (hf:Fair L) (hr:rightP L=true) {a t:Nat} (hl:(yields L s 0 s.length).getLast? =some (a,t)):a≤s.length∧EndsAt L s a t∧(∀t',EndsAt L s a t'→t'≤t)∧ ∀b t',b≤s.length→EndsAt L s b t'→a≤b:=by
 have h:=yields_tells (s:=s) hf hr (Nat.zero_le s.length) (Nat.le_refl _)
 generalize yields L s 0 s.length=Y at*
 obtain⟨Z,rfl⟩:=List.getLast?_eq_some_iff.1 hl
 obtain⟨r1,r2,r3,r4⟩:=h.real (a,t) (by simp)
 have hp:=(List.pairwise_append.1 h.rise).2.2
 have hall: ∀y∈Z++ [(a,t)],a≤y.1∧y.2≤t:=fun y hy=>by
  rcases List.mem_append.1 hy with hy|hy
  ·have:=hp y hy (a,t) (by simp)
   exact⟨this.2,by have:=this.1;simp only at this;omega⟩
  ·simp at hy
   subst hy
   exact⟨Nat.le_refl _,Nat.le_refl _⟩
 have hleast: ∀b t',b≤s.length→EndsAt L s b t'→a≤b:=fun b t' hb ht=>by
  obtain⟨y,hy,e,-⟩:=h.all b t' (Nat.zero_le _) hb (Nat.zero_le _) ht
  have:=(hall y hy).1
  omega
 refine⟨r3,r4,fun t' ht=> ?_,hleast⟩
 obtain⟨y,hy,e1,e2⟩:=h.all a t' (Nat.zero_le _) r3 (Nat.zero_le _) ht
 obtain⟨-,-,i3,i4⟩:=h.real y hy
 have h1:=hleast _ _ i3 i4
 have h2:=(hall y hy).2
 omega
end
/-! programs that may be -/
theorem okI_x {x:Inst} {m:Nat} (h:okI m x=true) (hk:x.kind≠7):0≤x.x∧x.x<m∧1≤x.kind∧x.kind≤8∧(x.kind=6→0≤x.y∧x.y<m):=by
 unfold okI at h
 rw[Bool.and_eq_true]at h
 have h2:=h.2
 unfold goes at h2
 by_cases h6:x.kind=6
 ·rw[if_pos h6]at h2
  unfold place at h2
  simp only[Bool.and_eq_true,decide_eq_true_eq]at h2
  exact⟨h2.1.1,h2.1.2,by omega,by omega,fun _=>h2.2⟩
 ·rw[if_neg h6,if_neg hk]at h2
  split at h2
  ·unfold place at h2
   simp only[Bool.and_eq_true,decide_eq_true_eq]at h2
   exact⟨h2.1.1,h2.1.2,by omega,by omega,fun h=>absurd h h6⟩
  ·cases h2
theorem eps_kind {x:Inst} {n q j:Nat} (hj:j∈eps x n q):x.kind≠7∧(j=x.x.toNat∨(x.kind=6∧j=x.y.toNat)):=by
 unfold eps at hj
 split at hj
 ·rename_i h
  simp only[List.mem_cons,List.not_mem_nil,or_false]at hj
  exact⟨by omega,by rcases hj with h1|h1;exact Or.inl h1;exact Or.inr ⟨h,h1⟩⟩
 ·split at hj
  ·rename_i h;simp at hj;exact⟨by omega,Or.inl hj⟩
  ·split at hj
   ·rename_i h
    split at hj
    ·simp at hj;exact⟨by omega,Or.inl hj⟩
    ·simp at hj
   ·split at hj
    ·rename_i h
     split at hj
     ·simp at hj;exact⟨by omega,Or.inl hj⟩
     ·simp at hj
    ·simp at hj
theorem takes_kind {x:Inst} {c:UInt8} (h:takes x c=true):x.kind≠7:=by
 intro e
 rw[match_takes x c e]at h
 cases h
theorem ins_ok {L:List Inst} (h:rightP L=true) {i:Nat} (hi:i<L.length):okI L.length (ins L i)=true:=by
 unfold rightP at h
 rw[Bool.and_eq_true,List.all_eq_true]at h
 unfold ins
 rw[List.getD_eq_getElem?_getD,List.getElem?_eq_getElem hi]
 exact h.1 _ (List.getElem_mem hi)
theorem ins_far {L:List Inst} {i:Nat} (hi:L.length≤i):ins L i=⟨0,no,0,0⟩:=by
 unfold ins
 rw[List.getD_eq_getElem?_getD,List.getElem?_eq_none hi]
 rfl
theorem fair_of {L:List Inst} (h:rightP L=true):Fair L:=by
 have h0:0<L.length:=by
  unfold rightP at h
  rw[Bool.and_eq_true]at h
  simpa using h.2
 refine⟨h0,fun i n q j hj=> ?_,fun i c ht=> ?_⟩
 ·rcases Nat.lt_or_ge i L.length with hi|hi
  ·obtain⟨hk,hx⟩:=eps_kind hj
   obtain⟨k1,k2,k3,k4,k5⟩:=okI_x (ins_ok h hi) hk
   rcases hx with rfl|⟨h6,rfl⟩
   ·omega
   ·have:=k5 h6;omega
  ·rw[ins_far hi]at hj
   simp[eps]at hj
 ·rcases Nat.lt_or_ge i L.length with hi|hi
  ·obtain⟨k1,k2,k3,k4,k5⟩:=okI_x (ins_ok h hi) (takes_kind ht)
   omega
  ·rw[ins_far hi]at ht
   simp[takes]at ht
end M16
namespace M15
open Go M14
structure Inside (lo hi:Nat) (x:Inst):Prop where
 x1:(lo:Int)≤x.x
 x2:x.x≤(hi:Int)
 y1:x.kind=6→(lo:Int)≤x.y∧x.y≤(hi:Int)
 y2:x.kind≠6→x.y=0
 k:1≤x.kind∧x.kind≤8∧x.kind≠7
theorem Inside.wider {lo hi lo' hi':Nat} {x:Inst} (h:Inside lo hi x) (h1:lo'≤lo) (h2:hi≤hi'):Inside lo' hi' x:=
 ⟨by have:=h.x1;omega,by have:=h.x2;omega,fun q=>by have:=h.y1 q;omega,h.y2,h.k⟩
theorem inside_split {lo hi x y:Nat} (h1:lo≤x∧x≤hi) (h2:lo≤y∧y≤hi):Inside lo hi (split x y):=by
 refine⟨?_,?_,fun _=> ?_,fun q=>absurd rfl q,?_⟩<;>simp only[split]<;>omega
theorem inside_jump {lo hi x:Nat} (h1:lo≤x∧x≤hi):Inside lo hi (jump x):=by
 refine⟨?_,?_,fun q=> ?_,fun _=>rfl,?_⟩
 ·simp only[jump];omega
 ·simp only[jump];omega
 ·simp[jump]at q
 ·simp only[jump];omega
theorem inside_one {lo hi a:Nat} {k:Int} (t:ByteArray) (h1:lo≤a+1∧a+1≤hi) (hk:1≤k∧k≤5):Inside lo hi (one k t a):=by
 refine⟨?_,?_,fun q=> ?_,fun _=>rfl,?_⟩
 ·simp only[one];omega
 ·simp only[one];omega
 ·simp only[one]at q;omega
 ·simp only[one];omega
theorem times_in {f:Nat→List Inst} {K:Nat} (hl: ∀a,(f a).length=K) (hf: ∀a x,x∈f a→Inside a (a+K) x) {lo hi:Nat}: ∀(n a:Nat),lo≤a→a+n*K≤hi→ ∀x,x∈times f n a→Inside lo hi x
 |0,a,_,_,x,hx=>by simp[times]at hx
 |n+1,a,h1,h2,x,hx=>by
  rw[Nat.succ_mul]at h2
  rw[times]at hx
  rcases List.mem_append.1 hx with hx|hx
  ·exact(hf a x hx).wider h1 (by omega)
  ·rw[hl]at hx
   exact times_in hl hf n (a+K) (by omega) (by omega) x hx
theorem maybe_in {f:Nat→List Inst} {K:Nat} (hl: ∀a,(f a).length=K) (hf: ∀a x,x∈f a→Inside a (a+K) x) {lo hi e:Nat} (he:lo≤e∧e≤hi): ∀(n a:Nat),lo≤a→a+n*(K+1)≤hi→ ∀x,x∈maybe f e n a→Inside lo hi x
 |0,a,_,_,x,hx=>by simp[maybe]at hx
 |n+1,a,h1,h2,x,hx=>by
  rw[Nat.succ_mul]at h2
  rw[maybe]at hx
  rcases List.mem_cons.1 hx with rfl|hx
  ·exact inside_split ⟨by omega,by omega⟩ he
  ·rcases List.mem_append.1 hx with hx|hx
   ·exact(hf (a+1) x hx).wider (by omega) (by omega)
   ·rw[hl]at hx
    exact maybe_in hl hf he n (a+1+K) (by omega) (by omega) x hx
theorem star_in {f:Nat→List Inst} {K:Nat} (hf: ∀a x,x∈f a→Inside a (a+K) x) {lo hi e a:Nat} (he:lo≤e∧e≤hi) (h1:lo≤a) (h2:a+K+2≤hi): ∀x,x∈star f e a→Inside lo hi x:=by
 intro x hx
 rw[star]at hx
 rcases List.mem_cons.1 hx with rfl|hx
 ·exact inside_split ⟨by omega,by omega⟩ he
 ·rcases List.mem_append.1 hx with hx|hx
  ·exact(hf (a+1) x hx).wider (by omega) (by omega)
  ·rw[List.mem_singleton.1 hx]
   exact inside_jump ⟨by omega,by omega⟩
theorem seqs_in {lo hi:Nat}: ∀ {ks:List Piece},(∀p,p∈ks→ ∀a x,x∈steps p a→Inside a (a+size p) x)→ ∀a,lo≤a→a+sizes ks≤hi→ ∀x,x∈seqs ks a→Inside lo hi x
 | [],_,a,_,_,x,hx=>by simp[seqs]at hx
 |p::l,h,a,h1,h2,x,hx=>by
  rw[show sizes (p::l)=size p+sizes l by simp only[sizes]]at h2
  rw[seqs]at hx
  rcases List.mem_append.1 hx with hx|hx
  ·exact(h p (by simp) a x hx).wider h1 (by omega)
  ·exact seqs_in (fun q hq=>h q (by simp[hq])) (a+size p) (by omega) (by omega) x hx
theorem alts_in {lo hi e:Nat} (he:lo≤e∧e≤hi): ∀ {ks:List Piece},(∀p,p∈ks→ ∀a x,x∈steps p a→Inside a (a+size p) x)→ ∀a,lo≤a→a+sizes ks+2*(ks.length-1)≤hi→ ∀x,x∈alts ks a e→Inside lo hi x
 | [],_,a,_,_,x,hx=>by simp[alts]at hx
 | [p],h,a,h1,h2,x,hx=>by
  rw[alts_1]at hx
  rw[show sizes [p]=size p by simp only[sizes,Nat.add_zero]]at h2
  exact(h p (by simp) a x hx).wider h1 (by omega)
 |p::q::l,h,a,h1,h2,x,hx=>by
  rw[show sizes (p::q::l)=size p+sizes (q::l) by simp only[sizes]]at h2
  simp only[List.length_cons]at h2
  rw[alts_2]at hx
  rcases List.mem_cons.1 hx with rfl|hx
  ·exact inside_split ⟨by omega,by omega⟩ ⟨by omega,by omega⟩
  ·rcases List.mem_append.1 hx with hx|hx
   ·exact(h p (by simp) (a+1) x hx).wider (by omega) (by omega)
   ·rcases List.mem_cons.1 hx with rfl|hx
    ·exact inside_jump he
    ·exact alts_in he (ks:=q::l) (fun r hr=>h r (by simp at hr;simp[hr])) (a+size p+2) (by omega) (by simp only[List.length_cons];omega) x hx
theorem steps_in {p:Piece} (h:Good p):size p≤4000→ ∀a x,x∈steps p a→Inside a (a+size p) x:=by
 induction h with
 |leaf k t h=>
  intro _ a x hx
  rw[steps_leaf h]at hx
  rw[size_1 h]
  by_cases c:k=1
  ·rw[if_pos c]at hx;simp at hx
  ·rw[if_neg c]at hx
   rw[if_neg c,List.mem_singleton.1 hx]
   exact inside_one _ ⟨by omega,by omega⟩ (by omega)
 |many k hk ks h2 hw ih=>
  intro hs a x hx
  rcases hk with rfl|rfl
  ·rw[steps_7]at hx
   rw[size_7]at hs ⊢
   exact seqs_in (fun p hp=>ih p hp (by have:=size_mem hp;omega)) a (Nat.le_refl _) (by omega) x hx
  ·rw[steps_8]at hx
   rw[size_8]at hs hx ⊢
   exact alts_in ⟨by omega,by omega⟩ (fun p hp=>ih p hp (by have:=size_mem hp;omega)) a (Nat.le_refl _) (by omega) x hx
 |rep p m t hm ht hw ih=>
  intro hs a x hx
  rw[steps_9]at hx
  by_cases hu:0<m∨t= -1∨m<t
  ·have hk:=rep_kid hs hu hm.1
   have hl:=steps_len hw hk
   have hf:=ih hk
   have hz:=size_9 no p m t
   obtain⟨E,hE⟩: ∃E,size (.mk 9 no [p] m t)=E:=⟨_,rfl⟩
   rw[hE]at hs hx hz ⊢
   unfold reps at hx
   rw[times_len hl]at hx
   by_cases c:t= -1
   ·rw[if_pos c]at hx hz
    rcases List.mem_append.1 hx with hx|hx
    ·exact times_in hl hf m.toNat a (Nat.le_refl _) (by omega) x hx
    ·exact star_in hf ⟨by omega,by omega⟩ (by omega) (by omega) x hx
   ·rw[if_neg c]at hx hz
    rcases List.mem_append.1 hx with hx|hx
    ·exact times_in hl hf m.toNat a (Nat.le_refl _) (by omega) x hx
    ·exact maybe_in hl hf ⟨by omega,by omega⟩ _ _ (by omega) (by omega) x hx
  ·have hm0:m=0:=by omega
   have ht0:t=0:=by omega
   subst hm0 ht0
   unfold reps at hx
   simp[times,maybe]at hx
end M15
namespace M16
open Go M15
open M14 (Piece size sizes leaf)
def Pow (R:Nat→Nat→Prop):Nat→Nat→Nat→Prop
 |0,q,u=>q=u
 |k+1,q,u=> ∃v,R q v∧Pow R k v u
def Rep (R:Nat→Nat→Prop) (m:Nat) (tp:Int) (q u:Nat):Prop:= ∃k,m≤k∧(tp= -1∨(k:Int)≤tp)∧Pow R k q u
def Byte (s:Text) (k:Int) (t:ByteArray) (q u:Nat):Prop:=u=q+1∧ ∃c,s[q]? =some c∧takes ⟨k-1,t,0,0⟩ c=true
mutual
def E (s:Text):Piece→Nat→Nat→Prop
 | .mk k t ks m tp,q,u=>
  if k=1 then q=u else if k=2∨k=3∨k=4 then Byte s k t q u else if k=5 then q=0∧u=0 else if k=6 then q=s.length∧u=s.length
  else if k=7 then Eseq s ks q u else if k=8 then Ealt s ks q u else if k=9 then Rep (fun q u=>Ehd s ks q u) m.toNat tp q u else False
def Eseq (s:Text):List Piece→Nat→Nat→Prop
 | [],q,u=>q=u
 |p::l,q,u=> ∃v,E s p q v∧Eseq s l v u
def Ealt (s:Text):List Piece→Nat→Nat→Prop
 | [],_,_=>False
 |p::l,q,u=>E s p q u∨Ealt s l q u
def Ehd (s:Text):List Piece→Nat→Nat→Prop
 | [],_,_=>False
 |p::_,q,u=>E s p q u
end
def Nxt (L:List Inst) (s:Text) (i u j v:Nat):Prop:=(j∈eps (ins L i) s.length u∧v=u)∨ ∃c,s[u]? =some c∧takes (ins L i) c=true∧j=(ins L i).x.toNat∧v=u+1
def Mem (a z:Nat) (I:Nat→Nat→Prop) (X:Nat→Prop) (R:Nat→Nat→Prop) (j v:Nat):Prop:=(a≤j∧j<z∧I j v)∨(j=z∧ ∃q,X q∧R q v)
def Sound (L:List Inst) (s:Text) (a z:Nat) (R:Nat→Nat→Prop):Prop:=
 ∀X:Nat→Prop,∃I:Nat→Nat→Prop,(∀q,X q→Mem a z I X R a q)∧ ∀i u j v,a≤i→i<z→I i u→Nxt L s i u j v→Mem a z I X R j v
def Full (L:List Inst) (s:Text) (a z:Nat) (R:Nat→Nat→Prop):Prop:= ∀b q v,Reach L s b a q→R q v→Reach L s b z v
structure Frag (L:List Inst) (s:Text) (a z:Nat) (R:Nat→Nat→Prop):Prop where
 sound:Sound L s a z R
 full:Full L s a z R
section
variable {L:List Inst} {s:Text} {a z m b:Nat} {R R1 R2:Nat→Nat→Prop}
theorem Frag.same (h:Frag L s a z R1) (hr: ∀q v,R1 q v↔R2 q v):Frag L s a z R2:=by
 have:R1=R2:=funext fun q=>funext fun v=>propext (hr q v)
 rwa[←this]
theorem Mem.left {I I':Nat→Nat→Prop} {X:Nat→Prop} {R':Nat→Nat→Prop} {z' j v:Nat} (h:Mem a z I X R j v) (h1: ∀j v,a≤j→j<z→I j v→Mem a z' I' X R' j v) (h2:(∃q,X q∧R q v)→Mem a z' I' X R' z v):Mem a z' I' X R' j v:=by
 rcases h with⟨h3,h4,h5⟩|⟨rfl,h3⟩
 ·exact h1 j v h3 h4 h5
 ·exact h2 h3
theorem frag_empty (L:List Inst) (s:Text) (a:Nat):Frag L s a a (fun q u=>q=u):=
 ⟨fun X=>⟨fun _ _=>False,fun q hq=>Or.inr ⟨rfl,q,hq,rfl⟩,fun i u j v h1 h2=>by omega⟩,fun b q v h e=>by subst e;exact h⟩
theorem frag_step (h: ∀u j v,Nxt L s a u j v↔(j=a+1∧R u v)):Frag L s a (a+1) R:=by
 refine⟨fun X=>⟨fun _ u=>X u,fun q hq=>Or.inl ⟨Nat.le_refl _,by omega,hq⟩,fun i u j v h1 h2 hi hn=> ?_⟩,fun b q v hr hv=> ?_⟩
 ·have:i=a:=by omega
  subst this
  obtain⟨rfl,h3⟩:=(h u j v).1 hn
  exact Or.inr ⟨rfl,u,hi,h3⟩
 ·rcases(h q (a+1) v).2 ⟨rfl,hv⟩with⟨h1,rfl⟩|⟨c,h1,h2,h3,rfl⟩
  ·exact hr.on h1
  ·rw[h3];exact hr.byte h1 h2
theorem frag_seq (h1:Frag L s a m R1) (h2:Frag L s m z R2) (ha:a≤m) (hz:m≤z):Frag L s a z (fun q u=> ∃v,R1 q v∧R2 v u):=by
 refine⟨fun X=> ?_,fun b q v hr ⟨w,hw,hv⟩=>h2.full b w v (h1.full b q w hr hw) hv⟩
 obtain⟨I1,e1,n1⟩:=h1.sound X
 obtain⟨I2,e2,n2⟩:=h2.sound (fun v=> ∃q,X q∧R1 q v)
 have hr: ∀j v,Mem m z I2 (fun v=> ∃q,X q∧R1 q v) R2 j v→Mem a z (fun i u=>(i<m∧I1 i u)∨(m≤i∧I2 i u)) X (fun q u=> ∃v,R1 q v∧R2 v u) j v:=by
  rintro j v (⟨g1,g2,g3⟩|⟨rfl,v0,⟨q,hq,g1⟩,g2⟩)
  ·exact Or.inl ⟨by omega,g2,Or.inr ⟨g1,g3⟩⟩
  ·exact Or.inr ⟨rfl,q,hq,v0,g1,g2⟩
 have hl: ∀j v,Mem a m I1 X R1 j v→Mem a z (fun i u=>(i<m∧I1 i u)∨(m≤i∧I2 i u)) X (fun q u=> ∃v,R1 q v∧R2 v u) j v:=by
  rintro j v (⟨g1,g2,g3⟩|⟨rfl,g1⟩)
  ·exact Or.inl ⟨g1,by omega,Or.inl ⟨g2,g3⟩⟩
  ·exact hr _ _ (e2 v g1)
 refine⟨_,fun q hq=>hl _ _ (e1 q hq),fun i u j v g1 g2 hi hn=> ?_⟩
 rcases hi with⟨g3,g4⟩|⟨g3,g4⟩
 ·exact hl _ _ (n1 i u j v g1 g3 g4 hn)
 ·exact hr _ _ (n2 i u j v g3 g2 g4 hn)
theorem nxt_split {x y i u j v:Nat} (h:ins L i=split x y):Nxt L s i u j v↔(j=x∨j=y)∧v=u:=by
 unfold Nxt
 rw[h]
 simp[eps,split,takes]
theorem nxt_jump {x i u j v:Nat} (h:ins L i=jump x):Nxt L s i u j v↔j=x∧v=u:=by
 unfold Nxt
 rw[h]
 simp[eps,jump,takes]
theorem Reach.next {i u j v:Nat} (hr:Reach L s b i u) (h:Nxt L s i u j v):Reach L s b j v:=by
 rcases h with⟨h1,rfl⟩|⟨c,h1,h2,rfl,rfl⟩
 ·exact hr.on h1
 ·exact hr.byte h1 h2
theorem frag_alt (h1:Frag L s (a+1) m R1) (h2:Frag L s (m+1) z R2) (ha:a+1≤m) (hz:m+1≤z) (hs:ins L a=split (a+1) (m+1)) (hj:ins L m=jump z):Frag L s a z (fun q u=>R1 q u∨R2 q u):=by
 refine⟨fun X=> ?_,fun b q v hr hv=> ?_⟩
 ·obtain⟨I1,e1,n1⟩:=h1.sound X
  obtain⟨I2,e2,n2⟩:=h2.sound X
  have hr: ∀j v,Mem (m+1) z I2 X R2 j v→Mem a z (fun i u=>(i=a∧X u)∨(a+1≤i∧i<m∧I1 i u)∨(i=m∧ ∃q,X q∧R1 q u)∨(m+1≤i∧I2 i u)) X (fun q u=>R1 q u∨R2 q u) j v:=by
   rintro j v (⟨g1,g2,g3⟩|⟨rfl,q,hq,g2⟩)
   ·exact Or.inl ⟨by omega,g2,Or.inr (Or.inr (Or.inr ⟨g1,g3⟩))⟩
   ·exact Or.inr ⟨rfl,q,hq,Or.inr g2⟩
  have hl: ∀j v,Mem (a+1) m I1 X R1 j v→Mem a z (fun i u=>(i=a∧X u)∨(a+1≤i∧i<m∧I1 i u)∨(i=m∧ ∃q,X q∧R1 q u)∨(m+1≤i∧I2 i u)) X (fun q u=>R1 q u∨R2 q u) j v:=by
   rintro j v (⟨g1,g2,g3⟩|⟨rfl,g1⟩)
   ·exact Or.inl ⟨by omega,by omega,Or.inr (Or.inl ⟨g1,g2,g3⟩)⟩
   ·exact Or.inl ⟨by omega,by omega,Or.inr (Or.inr (Or.inl ⟨rfl,g1⟩))⟩
  refine⟨fun i u=>(i=a∧X u)∨(a+1≤i∧i<m∧I1 i u)∨(i=m∧ ∃q,X q∧R1 q u)∨(m+1≤i∧I2 i u),fun q hq=>Or.inl ⟨Nat.le_refl _,by omega,Or.inl ⟨rfl,hq⟩⟩,fun i u j v g1 g2 hi hn=> ?_⟩
  rcases hi with⟨rfl,g3⟩|⟨g3,g4,g5⟩|⟨rfl,q,g3,g4⟩|⟨g3,g4⟩
  ·obtain⟨hj2,rfl⟩:=(nxt_split hs).1 hn
   rcases hj2 with rfl|rfl
   ·exact hl _ _ (e1 _ g3)
   ·exact hr _ _ (e2 _ g3)
  ·exact hl _ _ (n1 i u j v g3 g4 g5 hn)
  ·obtain⟨rfl,rfl⟩:=(nxt_jump hj).1 hn
   exact Or.inr ⟨rfl,q,g3,Or.inl g4⟩
  ·exact hr _ _ (n2 i u j v g3 g2 g4 hn)
 ·rcases hv with hv|hv
  ·exact(h1.full b q v (hr.next ((nxt_split hs).2 ⟨Or.inl rfl,rfl⟩)) hv).next ((nxt_jump hj).2 ⟨rfl,rfl⟩)
  ·exact h2.full b q v (hr.next ((nxt_split hs).2 ⟨Or.inr rfl,rfl⟩)) hv
theorem frag_maybe (h1:Frag L s (a+1) z R) (ha:a+1≤z) (hs:ins L a=split (a+1) z):Frag L s a z (fun q u=>q=u∨R q u):=by
 refine⟨fun X=> ?_,fun b q v hr hv=> ?_⟩
 ·obtain⟨I1,e1,n1⟩:=h1.sound X
  have hl: ∀j v,Mem (a+1) z I1 X R j v→Mem a z (fun i u=>(i=a∧X u)∨(a+1≤i∧I1 i u)) X (fun q u=>q=u∨R q u) j v:=by
   rintro j v (⟨g1,g2,g3⟩|⟨rfl,q,hq,g1⟩)
   ·exact Or.inl ⟨by omega,g2,Or.inr ⟨g1,g3⟩⟩
   ·exact Or.inr ⟨rfl,q,hq,Or.inr g1⟩
  refine⟨fun i u=>(i=a∧X u)∨(a+1≤i∧I1 i u),fun q hq=>Or.inl ⟨Nat.le_refl _,by omega,Or.inl ⟨rfl,hq⟩⟩,fun i u j v g1 g2 hi hn=> ?_⟩
  rcases hi with⟨rfl,g3⟩|⟨g3,g4⟩
  ·obtain⟨hj2,rfl⟩:=(nxt_split hs).1 hn
   rcases hj2 with rfl|rfl
   ·exact hl _ _ (e1 _ g3)
   ·exact Or.inr ⟨rfl,_,g3,Or.inl rfl⟩
  ·exact hl _ _ (n1 i u j v g3 g2 g4 hn)
 ·rcases hv with rfl|hv
  ·exact hr.next ((nxt_split hs).2 ⟨Or.inr rfl,rfl⟩)
  ·exact h1.full b q v (hr.next ((nxt_split hs).2 ⟨Or.inl rfl,rfl⟩)) hv
theorem pow_snoc: ∀ {k q v u:Nat},Pow R k q v→R v u→Pow R (k+1) q u
 |0,q,v,u,h,hr=>by
  cases h
  exact⟨u,hr,rfl⟩
 |k+1,q,v,u,h,hr=>by
  obtain⟨w,hw,h⟩:=h
  exact⟨w,hw,pow_snoc h hr⟩
theorem frag_star (h1:Frag L s (a+1) m R) (ha:a+1≤m) (hs:ins L a=split (a+1) (m+1)) (hj:ins L m=jump a):Frag L s a (m+1) (fun q u=> ∃k,Pow R k q u):=by
 refine⟨fun X=> ?_,fun b q v hr ⟨k,hv⟩=> ?_⟩
 ·obtain⟨XS,hXS⟩: ∃XS:Nat→Prop,XS=fun u=> ∃q,X q∧ ∃k,Pow R k q u:=⟨_,rfl⟩
  obtain⟨I1,e1,n1⟩:=h1.sound XS
  have hmore: ∀u v,XS u→R u v→XS v:=fun u v hu hr=>by
   rw[hXS]at hu ⊢
   obtain⟨q,hq,k,hk⟩:=hu
   exact⟨q,hq,k+1,pow_snoc hk hr⟩
  have hl: ∀j v,Mem (a+1) m I1 XS R j v→Mem a (m+1) (fun i u=>(i=a∧XS u)∨(a+1≤i∧i<m∧I1 i u)∨(i=m∧XS u)) X (fun q u=> ∃k,Pow R k q u) j v:=by
   rintro j v (⟨g1,g2,g3⟩|⟨rfl,q,hq,g1⟩)
   ·exact Or.inl ⟨by omega,by omega,Or.inr (Or.inl ⟨g1,g2,g3⟩)⟩
   ·exact Or.inl ⟨by omega,by omega,Or.inr (Or.inr ⟨rfl,hmore q v hq g1⟩)⟩
  refine⟨fun i u=>(i=a∧XS u)∨(a+1≤i∧i<m∧I1 i u)∨(i=m∧XS u),fun q hq=>Or.inl ⟨Nat.le_refl _,by omega,Or.inl ⟨rfl,by rw[hXS];exact⟨q,hq,0,rfl⟩⟩⟩,fun i u j v g1 g2 hi hn=> ?_⟩
  rcases hi with⟨rfl,g3⟩|⟨g3,g4,g5⟩|⟨rfl,g3⟩
  ·obtain⟨hj2,rfl⟩:=(nxt_split hs).1 hn
   rcases hj2 with rfl|rfl
   ·exact hl _ _ (e1 _ g3)
   ·rw[hXS]at g3
    exact Or.inr ⟨rfl,g3⟩
  ·exact hl _ _ (n1 i u j v g3 g4 g5 hn)
  ·obtain⟨rfl,rfl⟩:=(nxt_jump hj).1 hn
   exact Or.inl ⟨Nat.le_refl _,by omega,Or.inl ⟨rfl,g3⟩⟩
 ·induction k generalizing q with
  |zero=>
   cases hv
   exact hr.next ((nxt_split hs).2 ⟨Or.inr rfl,rfl⟩)
  |succ k ih=>
   obtain⟨w,hw,hv⟩:=hv
   exact ih w ((h1.full b q w (hr.next ((nxt_split hs).2 ⟨Or.inl rfl,rfl⟩)) hw).next ((nxt_jump hj).2 ⟨rfl,rfl⟩)) ⟨_,hv⟩ hv
/-! a piece's steps,where they lie -/
def Lie (L:List Inst) (a:Nat) (l:List Inst):Prop:= ∀i (h:i<l.length),ins L (a+i)=l[i]
theorem Lie.left {l l':List Inst} (h:Lie L a (l++l')):Lie L a l:=fun i hi=>by
 rw[h i (by rw[List.length_append];omega),List.getElem_append_left hi]
theorem Lie.right {l l':List Inst} (h:Lie L a (l++l')):Lie L (a+l.length) l':=fun i hi=>by
 have:=h (l.length+i) (by rw[List.length_append];omega)
 rw[List.getElem_append_right (by omega)]at this
 rw[Nat.add_assoc,this]
 simp
theorem Lie.head {l:List Inst} {x:Inst} (h:Lie L a (x::l)):ins L a=x:=h 0 (by simp)
theorem Lie.tail {l:List Inst} {x:Inst} (h:Lie L a (x::l)):Lie L (a+1) l:=fun i hi=>by
 have:=h (i+1) (by simp;omega)
 rw[show a+1+i=a+(i+1) by omega,this]
 rfl
theorem frag_times {f:Nat→List Inst} {K:Nat} (hl: ∀a,(f a).length=K) (hf: ∀a,Lie L a (f a)→Frag L s a (a+K) R): ∀(m a:Nat),Lie L a (times f m a)→Frag L s a (a+m*K) (Pow R m)
 |0,a,_=>by
  rw[Nat.zero_mul]
  exact frag_empty L s a
 |m+1,a,h=>by
  rw[times]at h
  have h1:=hf a h.left
  have h2:=h.right
  rw[hl]at h2
  have h3:=frag_times hl hf m (a+K) h2
  rw[show a+(m+1)*K=a+K+m*K by rw[Nat.succ_mul];omega]
  exact frag_seq h1 h3 (by omega) (by omega)
theorem frag_maybes {f:Nat→List Inst} {K:Nat} (hl: ∀a,(f a).length=K) (hf: ∀a,Lie L a (f a)→Frag L s a (a+K) R): ∀(n a:Nat),Lie L a (maybe f (a+n*(K+1)) n a)→Frag L s a (a+n*(K+1)) (fun q u=> ∃k,k≤n∧Pow R k q u)
 |0,a,_=>by
  rw[Nat.zero_mul]
  refine(frag_empty L s a).same fun q v=>⟨fun h=>⟨0,Nat.le_refl _,h⟩,?_⟩
  rintro⟨k,hk,h⟩
  have:k=0:=by omega
  subst this
  exact h
 |n+1,a,h=>by
  rw[maybe]at h
  have he:a+(n+1)*(K+1)=a+1+K+n*(K+1):=by rw[Nat.succ_mul];omega
  rw[he]at h ⊢
  have h1:=hf (a+1) h.tail.left
  have h2:=h.tail.right
  rw[hl]at h2
  have h3:=frag_maybes hl hf n (a+1+K) h2
  refine(frag_maybe (frag_seq h1 h3 (by omega) (by omega)) (by omega) h.head).same fun q v=>⟨?_,?_⟩
  ·rintro(rfl|⟨w,hw,k,hk,hv⟩)
   ·exact⟨0,by omega,rfl⟩
   ·exact⟨k+1,by omega,w,hw,hv⟩
  ·rintro⟨k,hk,hv⟩
   cases k with
   |zero=>exact Or.inl hv
   |succ k=>
    obtain⟨w,hw,hv⟩:=hv
    exact Or.inr ⟨w,hw,k,by omega,hv⟩
theorem frag_stars {f:Nat→List Inst} {K:Nat} (hl: ∀a,(f a).length=K) (hf: ∀a,Lie L a (f a)→Frag L s a (a+K) R) (a:Nat) (h:Lie L a (star f (a+K+2) a)):Frag L s a (a+K+2) (fun q u=> ∃k,Pow R k q u):=by
 rw[star]at h
 have h1:=hf (a+1) h.tail.left
 have h2:=h.tail.right.head
 rw[hl]at h2
 have h3:=h.head
 rw[show a+K+2=a+1+K+1 by omega]at h3 ⊢
 exact frag_star h1 (by omega) h3 h2
theorem pow_add: ∀ {m k q u:Nat},Pow R (m+k) q u↔ ∃v,Pow R m q v∧Pow R k v u
 |0,k,q,u=>by
  rw[Nat.zero_add]
  exact⟨fun h=>⟨q,rfl,h⟩,fun⟨v,e,h⟩=>by cases e;exact h⟩
 |m+1,k,q,u=>by
  rw[show m+1+k=(m+k)+1 by omega]
  constructor
  ·rintro⟨v,hv,h⟩
   obtain⟨w,h1,h2⟩:=pow_add.1 h
   exact⟨w,⟨v,hv,h1⟩,h2⟩
  ·rintro⟨w,⟨v,hv,h1⟩,h2⟩
   exact⟨v,hv,pow_add.2 ⟨w,h1,h2⟩⟩
theorem frag_reps {f:Nat→List Inst} {K:Nat} (hl: ∀a,(f a).length=K) (hf: ∀a,Lie L a (f a)→Frag L s a (a+K) R) {m tp:Int} (hm:0≤m) (ht:tp= -1∨m≤tp) {Z:Nat} (hZ:Z=if tp= -1 then m.toNat*K+K+2 else m.toNat*K+(tp-m).toNat*(K+1)) (a:Nat) (h:Lie L a (reps f m tp (a+Z) a)):Frag L s a (a+Z) (Rep R m.toNat tp):=by
 unfold reps at h
 have h1:=frag_times hl hf m.toNat a h.left
 have h2:=h.right
 rw[times_len hl]at h2
 by_cases c:tp= -1
 ·rw[if_pos c]at h2 hZ
  subst hZ
  rw[show a+(m.toNat*K+K+2)=a+m.toNat*K+K+2 by omega]at h2 ⊢
  have h3:=frag_stars hl hf _ h2
  refine(frag_seq h1 h3 (by omega) (by omega)).same fun q u=>⟨?_,?_⟩
  ·rintro⟨v,hv,k,hk⟩
   exact⟨m.toNat+k,by omega,Or.inl c,pow_add.2 ⟨v,hv,hk⟩⟩
  ·rintro⟨k,hk,-,hp⟩
   rw[show k=m.toNat+(k-m.toNat) by omega]at hp
   obtain⟨v,h4,h5⟩:=pow_add.1 hp
   exact⟨v,h4,_,h5⟩
 ·rw[if_neg c]at h2 hZ
  subst hZ
  rw[show a+(m.toNat*K+(tp-m).toNat*(K+1))=a+m.toNat*K+(tp-m).toNat*(K+1) by omega]at h2 ⊢
  have h3:=frag_maybes hl hf _ _ h2
  refine(frag_seq h1 h3 (by omega) (by omega)).same fun q u=>⟨?_,?_⟩
  ·rintro⟨v,hv,k,hk,hp⟩
   exact⟨m.toNat+k,by omega,Or.inr (by omega),pow_add.2 ⟨v,hv,hp⟩⟩
  ·rintro⟨k,hk,hk2,hp⟩
   rw[show k=m.toNat+(k-m.toNat) by omega]at hp
   obtain⟨v,h4,h5⟩:=pow_add.1 hp
   exact⟨v,h4,_,by omega,h5⟩
theorem frag_seqs: ∀ {ks:List Piece},(∀p,p∈ks→(∀a,(M15.steps p a).length=size p)∧ ∀a,Lie L a (M15.steps p a)→Frag L s a (a+size p) (E s p))→ ∀a,Lie L a (seqs ks a)→Frag L s a (a+sizes ks) (Eseq s ks)
 | [],_,a,_=>by
  rw[show sizes []=0 by simp only[sizes],Nat.add_zero]
  refine(frag_empty L s a).same fun q u=> ?_
  rw[Eseq]
 |p::l,h,a,hl=>by
  rw[seqs]at hl
  obtain⟨h1,h2⟩:=h p (by simp)
  have h3:=hl.right
  rw[h1]at h3
  rw[show sizes (p::l)=size p+sizes l by simp only[sizes],←Nat.add_assoc]
  refine(frag_seq (h2 a hl.left) (frag_seqs (fun q hq=>h q (by simp[hq])) _ h3) (by omega) (by omega)).same fun q u=> ?_
  rw[Eseq]
theorem frag_alts: ∀ {ks:List Piece},ks≠ []→(∀p,p∈ks→(∀a,(M15.steps p a).length=size p)∧ ∀a,Lie L a (M15.steps p a)→Frag L s a (a+size p) (E s p))→ ∀a,Lie L a (alts ks a (a+sizes ks+2*(ks.length-1)))→Frag L s a (a+sizes ks+2*(ks.length-1)) (Ealt s ks)
 | [],h0,_,_,_=>absurd rfl h0
 | [p],_,h,a,hl=>by
  rw[alts_1]at hl
  rw[show sizes [p]=size p by simp only[sizes,Nat.add_zero]]
  refine((h p (by simp)).2 a hl).same fun q u=> ?_
  rw[Ealt,Ealt,or_false]
 |p::q::l,_,h,a,hl=>by
  rw[alts_2]at hl
  obtain⟨h1,h2⟩:=h p (by simp)
  have hz:a+sizes (p::q::l)+2*((p::q::l).length-1)=a+size p+2+sizes (q::l)+2*((q::l).length-1):=by
   rw[show sizes (p::q::l)=size p+sizes (q::l) by simp only[sizes]]
   simp only[List.length_cons]
   omega
  rw[hz]at hl ⊢
  have h3:=hl.tail.right
  rw[h1,show a+1+size p=a+size p+1 by omega]at h3
  have h4:=frag_alts (by simp) (fun r hr=>h r (by simp at hr;simp[hr])) (a+size p+2) h3.tail
  have h5:=h2 (a+1) hl.tail.left
  rw[show a+1+size p=a+size p+1 by omega]at h5
  refine(frag_alt h5 h4 (by omega) (by omega) hl.head h3.head).same fun q' u=> ?_
  conv=>rhs;rw[Ealt]
theorem frag_leaf {k:Int} (hk:2≤k∧k≤6) (t:ByteArray) (h:ins L a=one (k-1) (if k=2∨k=4 then t else no) a):Frag L s a (a+1) (E s (leaf k t)):=by
 refine frag_step fun u j v=> ?_
 have he:E s (leaf k t) u v↔if k=2∨k=3∨k=4 then Byte s k t u v else if k=5 then u=0∧v=0 else u=s.length∧v=s.length:=by
  unfold leaf E
  rw[if_neg (by omega)]
  by_cases c:k=2∨k=3∨k=4
  ·rw[if_pos c,if_pos c]
  ·rw[if_neg c,if_neg c]
   by_cases c5:k=5
   ·rw[if_pos c5,if_pos c5]
   ·rw[if_neg c5,if_neg c5,if_pos (by omega)]
 rw[he]
 unfold Nxt Byte
 rw[h]
 have hk2:k=2∨k=3∨k=4∨k=5∨k=6:=by omega
 rcases hk2 with rfl|rfl|rfl|rfl|rfl
 ·simp[eps,one,takes]
  constructor
  ·rintro⟨c,h1,h2,h3,h4⟩;exact⟨by omega,h4,c,h1,h2⟩
  ·rintro⟨h3,h4,c,h1,h2⟩;exact⟨c,h1,h2,by omega,h4⟩
 ·simp[eps,one,takes]
  constructor
  ·rintro⟨c,h1,h2,h3,h4⟩;exact⟨by omega,h4,c,h1,h2⟩
  ·rintro⟨h3,h4,c,h1,h2⟩;exact⟨c,h1,h2,by omega,h4⟩
 ·simp[eps,one,takes]
  constructor
  ·rintro⟨c,h1,h2,h3,h4⟩;exact⟨by omega,h4,c,h1,h2⟩
  ·rintro⟨h3,h4,c,h1,h2⟩;exact⟨c,h1,h2,by omega,h4⟩
 ·simp[eps,one,takes]
  constructor
  ·rintro⟨⟨h1,h2⟩,h3⟩;exact⟨by omega,h1,by omega⟩
  ·rintro⟨h1,h2,h3⟩;exact⟨⟨h2,by omega⟩,by omega⟩
 ·simp[eps,one,takes]
  constructor
  ·rintro⟨⟨h1,h2⟩,h3⟩;exact⟨by omega,h1,by omega⟩
  ·rintro⟨h1,h2,h3⟩;exact⟨⟨h2,by omega⟩,by omega⟩
theorem frag_piece {p:Piece} (h:M15.Good p):size p≤4000→ ∀a,Lie L a (M15.steps p a)→Frag L s a (a+size p) (E s p):=by
 induction h with
 |leaf k t h=>
  intro _ a hl
  rw[steps_leaf h]at hl
  rw[size_1 h]
  by_cases c:k=1
  ·rw[if_pos c]
   refine(frag_empty L s a).same fun q u=> ?_
   unfold leaf E
   rw[if_pos c]
  ·rw[if_neg c]at hl ⊢
   exact frag_leaf (by omega) t hl.head
 |many k hk ks h2 hw ih=>
  intro hs a hl
  have hks:ks≠ []:=by intro e;subst e;simp at h2
  rcases hk with rfl|rfl
  ·rw[steps_7]at hl
   rw[size_7]at hs ⊢
   have hall: ∀p,p∈ks→(∀a,(M15.steps p a).length=size p)∧ ∀a,Lie L a (M15.steps p a)→Frag L s a (a+size p) (E s p):=fun p hp=>by
    have:=size_mem hp
    exact⟨steps_len (hw p hp) (by omega),ih p hp (by omega)⟩
   rw[show min 4001 (sizes ks)=sizes ks by omega]
   refine(frag_seqs hall a hl).same fun q u=> ?_
   conv=>rhs;unfold E
   rw[if_neg (by decide),if_neg (by decide),if_neg (by decide),if_neg (by decide),if_pos rfl]
  ·rw[steps_8]at hl
   rw[size_8]at hs hl ⊢
   have hall: ∀p,p∈ks→(∀a,(M15.steps p a).length=size p)∧ ∀a,Lie L a (M15.steps p a)→Frag L s a (a+size p) (E s p):=fun p hp=>by
    have:=size_mem hp
    exact⟨steps_len (hw p hp) (by omega),ih p hp (by omega)⟩
   rw[show a+min 4001 (sizes ks+2*(ks.length-1))=a+sizes ks+2*(ks.length-1) by omega]at hl ⊢
   refine(frag_alts hks hall a hl).same fun q u=> ?_
   conv=>rhs;unfold E
   rw[if_neg (by decide),if_neg (by decide),if_neg (by decide),if_neg (by decide),if_neg (by decide),if_pos rfl]
 |rep p m t hm ht hw ih=>
  intro hs a hl
  have hE: ∀q u,E s (.mk 9 no [p] m t) q u↔Rep (E s p) m.toNat t q u:=fun q u=>by
   conv=>lhs;unfold E
   rw[if_neg (by decide),if_neg (by decide),if_neg (by decide),if_neg (by decide),if_neg (by decide),if_neg (by decide),if_pos rfl]
   rw[show(fun q u=>Ehd s [p] q u)=E s p from funext fun q=>funext fun u=>by rw[Ehd]]
  rw[steps_9]at hl
  by_cases hu:0<m∨t= -1∨m<t
  ·have hk:=rep_kid hs hu hm.1
   have hlen:=steps_len hw hk
   rw[size_9]at hs hl ⊢
   refine(frag_reps hlen (ih hk) hm.1 (by omega) (Z:=min 4001 (if t= -1 then m.toNat*size p+size p+2 else m.toNat*size p+(t-m).toNat*(size p+1))) (by omega) a hl).same fun q u=>(hE q u).symm
  ·have hm0:m=0:=by omega
   have ht0:t=0:=by omega
   subst hm0 ht0
   rw[size_9]
   simp only[show¬(0:Int)= -1 by decide,if_false,Int.toNat_zero,Nat.zero_mul,Int.sub_self,Nat.add_zero,Nat.min_zero]
   refine(frag_empty L s a).same fun q u=> ?_
   rw[hE]
   constructor
   ·rintro rfl;exact⟨0,Nat.le_refl _,Or.inr (by decide),rfl⟩
   ·rintro⟨k,h1,h2,h3⟩
    have:k=0:=by omega
    subst this
    exact h3
end
theorem prog_ends {p:Piece} (h:M15.Good p) (hs:size p≤4000) (s:Text) (b t:Nat):EndsAt (prog p) s b t↔E s p b t:=by
 have hlen:=steps_len h hs 0
 have hlie:Lie (prog p) 0 (M15.steps p 0):=fun i hi=>by
  unfold ins prog
  rw[List.getD_eq_getElem?_getD,Nat.zero_add,List.getElem?_append_left hi,List.getElem?_eq_getElem hi]
  rfl
 have hend:ins (prog p) (size p)=⟨7,⟨#[]⟩,0,0⟩:=by
  unfold ins prog
  rw[List.getD_eq_getElem?_getD,List.getElem?_append_right (by omega),hlen,Nat.sub_self]
  rfl
 have hf:=frag_piece (s:=s) h hs 0 hlie
 rw[Nat.zero_add]at hf
 constructor
 ·rintro⟨i,hi7,hr⟩
  obtain⟨I,e1,n1⟩:=hf.sound (fun q=>q=b)
  have hmem: ∀i q,Reach (prog p) s b i q→Mem 0 (size p) I (fun q=>q=b) (E s p) i q:=by
   intro i q hr
   have hstep: ∀ {i u j v},Mem 0 (size p) I (fun q=>q=b) (E s p) i u→Nxt (prog p) s i u j v→Mem 0 (size p) I (fun q=>q=b) (E s p) j v:=by
    rintro i u j v (⟨h1,h2,h3⟩|⟨rfl,h1⟩) hn
    ·exact n1 i u j v h1 h2 h3 hn
    ·unfold Nxt at hn
     rw[hend]at hn
     simp[eps,takes]at hn
   induction hr with
   |start=>exact e1 b rfl
   |on _ hk ih=>exact hstep ih (Or.inl ⟨hk,rfl⟩)
   |byte _ h1 h2 ih=>exact hstep ih (Or.inr ⟨_,h1,h2,rfl,rfl⟩)
  rcases hmem i t hr with⟨h1,h2,h3⟩|⟨-,q,rfl,hq⟩
  ·exfalso
   have hi:i<(M15.steps p 0).length:=by omega
   have h4:=hlie i hi
   rw[Nat.zero_add]at h4
   rw[h4]at hi7
   have:=(steps_in h hs 0 _ (List.getElem_mem hi)).k
   omega
  ·exact hq
 ·intro he
  exact⟨size p,by rw[hend],hf.full b b t .start he⟩
end M16
end Go.Proofs.YtehdnbidgphecaaGreatDoor
