/-
  Texts joined, in build order, each with its own comment and its own conditions: W16Run, RangeG, RangeH, W16Heap, W16New, W16Put.
-/
import Derived.Test.YtfgegjinhkgpbaaGreatDoorJ08
import Derived.Test.YtfgegjinhkgpbaaGreatDoorJ01
import Derived.Laws.MakeOwn
import Derived.Test.YtfgegjinhkgpbaaGreatDoorJ06
import Derived.Deep.LoopGhost
import Derived.Deep.Onto
import Derived.Deep.RegionHeld3
import Derived.BigQuiet
import Derived.Test.YtfgegjinhkgpbaaGreatDoorTake
namespace Go.Proofs.YtfgegjinhkgpbaaGreatDoor
set_option maxHeartbeats 4000000
set_option maxRecDepth 100000
open Go.RowKit
open Lib (hid)
namespace BR
open Go Bv
def GD (L:List AL) (s:Text) (q:Nat) (nx:List Mark) (m:Mark):List Mark:=
 match s[q]? with
 |some c=>if takes (ins L m.1) c then Eo L s.length (q+1) nx ((ins L m.1).x.toNat,m.2)else nx
 |none=>nx
def past (e:Option Nat) (m:Mark):Bool:=match e with
 |some b=>decide (b<m.2)
 |none=>false
def scan (L:List AL) (s:Text) (q:Nat):List Mark->Option Nat->List Mark->Option Nat×List Mark
 | [],e,nx=>(e,nx)
 |m::r,e,nx=>if past e m then(e,nx)else if(ins L m.1).kind=7 then scan L s q r (some m.2) nx else scan L s q r e (GD L s q nx m)
def entered (L:List AL) (s:Text) (q u:Nat) (now:List Mark):List Mark:=if q<=u then Eo L s.length q now (0,q)else now
def run (L:List AL) (s:Text):Nat->Nat->Nat->List Mark->List Mark
 |0,_,_,_=> []
 |f+1,q,u,now=>if q<=u\/now≠ []then
   match scan L s q (entered L s q u now) none []with
   |(some b,nx)=>(b,q)::run L s f (q+1) q nx
   |(none,nx)=>run L s f (q+1) u nx
  else[]
def yields (L:List AL) (s:Text) (first last:Nat):List Mark:=if Ca L then run L s (s.length+1-first) first last []else[]
theorem Jw (x:AL) (c:UInt8) (h:x.kind=7):takes x c=false:=by
 unfold takes
 rw[if_neg (by omega),if_neg (by omega),if_neg (by omega)]
section
variable {L:List AL} {s:Text} {q b n:Nat}
theorem Ni (b:Nat): ∀(l:List Mark) (nx:List Mark),(l.Pairwise fun x y=>x.2<=y.2)->(∀x∈l,b<=x.2)->scan L s q l (some b) nx=(some b,(l.filter fun x=>decide (x.2<=b)).foldl (GD L s q) nx)
 | [],nx,_,_=>rfl
 |m::r,nx,hp,hb=>by
  have hp2:=List.pairwise_cons.1 hp
  rw[scan]
  by_cases h:b<m.2
  ·rw[if_pos (by simp[past,h])]
   have:(m::r).filter (fun x=>decide (x.2<=b))= []:=by
    rw[List.filter_eq_nil_iff]
    intro x hx
    simp only[decide_eq_true_eq]
    rcases List.mem_cons.1 hx with rfl|hx
    ·omega
    have:=hp2.1 x hx;omega
   rw[this];rfl
  rw[if_neg (by simp[past,h])]
  have hm:=hb m (by simp)
  have he:m.2=b:=by omega
  rw[List.filter_cons_of_pos (by simp;omega)]
  by_cases h7:(ins L m.1).kind=7
  ·rw[if_pos h7,he,Ni b r nx hp2.2 (fun x hx=>hb x (by simp[hx])),List.foldl_cons]
   have:GD L s q nx m=nx:=by
    unfold GD
    cases s[q]? with
    |none=>rfl
    |some c=>simp[Jw _ c h7]
   rw[this]
  rw[if_neg h7,Ni b r _ hp2.2 (fun x hx=>hb x (by simp[hx])),List.foldl_cons]
theorem ah: ∀(l:List Mark) (nx:List Mark),(l.Pairwise fun x y=>x.2<=y.2)->
    ((∀x∈l,(ins L x.1).kind≠7)/\scan L s q l none nx=(none,l.foldl (GD L s q) nx))\/
    (∃x∈l,(ins L x.1).kind=7/\(∀y∈l,(ins L y.1).kind=7->x.2<=y.2)/\scan L s q l none nx=(some x.2,(l.filter fun y=>decide (y.2<=x.2)).foldl (GD L s q) nx))
 | [],nx,_=>Or.inl ⟨by simp,rfl⟩
 |m::r,nx,hp=>by
  have hp2:=List.pairwise_cons.1 hp
  have hsc:scan L s q (m::r) none nx=if(ins L m.1).kind=7 then scan L s q r (some m.2) nx else scan L s q r none (GD L s q nx m):=by
   rw[scan,if_neg (by simp[past])]
  by_cases h7:(ins L m.1).kind=7
  ·right
   refine⟨m,by simp,h7,fun y hy _=> ?_,?_⟩
   ·rcases List.mem_cons.1 hy with rfl|hy
    ·exact Nat.le_refl _
    exact hp2.1 y hy
   rw[hsc,if_pos h7,Ni m.2 r nx hp2.2 hp2.1,List.filter_cons_of_pos (by simp),List.foldl_cons]
   have:GD L s q nx m=nx:=by
    unfold GD
    cases s[q]? with
    |none=>rfl
    |some c=>simp[Jw _ c h7]
   rw[this]
  rcases ah r (GD L s q nx m) hp2.2 with⟨h1,h2⟩|⟨x,hx,hx7,h1,h2⟩
  ·left
   refine⟨fun y hy=> ?_,by rw[hsc,if_neg h7,h2];rfl⟩
   rcases List.mem_cons.1 hy with rfl|hy
   ·exact h7
   exact h1 y hy
  right
  refine⟨x,by simp[hx],hx7,fun y hy zR=> ?_,?_⟩
  ·rcases List.mem_cons.1 hy with rfl|hy
   ·exact absurd zR h7
   exact h1 y hy zR
  rw[hsc,if_neg h7,h2,List.filter_cons_of_pos (by simp[hp2.1 x hx]),List.foldl_cons]
structure zS (L:List AL) (s:Text) (q:Nat) (l nx nx':List Mark):Prop where
 pre:nx<+:nx'
 row:Row L s.length (q+1) nx'
 from_: ∀x∈nx',x∈nx\/ ∃y∈l,∃c,s[q]? =some c/\takes (ins L y.1) c=true/\x.2=y.2/\ER L s.length (q+1) (ins L y.1).x.toNat x.1
 all: ∀y∈l,∀c,s[q]? =some c->takes (ins L y.1) c=true-> ∀j,ER L s.length (q+1) (ins L y.1).x.toNat j-> ∃x∈nx',x.1=j/\x.2<=y.2
theorem uh (hf:Fair L): ∀(l nx:List Mark),(l.Pairwise fun x y=>x.2<=y.2)->Row L s.length (q+1) nx->(∀x∈nx,∀y∈l,x.2<=y.2)->zS L s q l nx (l.foldl (GD L s q) nx)
 | [],nx,_,hr,_=>⟨List.prefix_refl _,hr,fun x hx=>Or.inl hx,by simp⟩
 |m::r,nx,hp,hr,hb=>by
  have hp2:=List.pairwise_cons.1 hp
  rw[List.foldl_cons]
  have one:zS L s q [m] nx (GD L s q nx m)/\ ∀x∈GD L s q nx m,∀y∈r,x.2<=y.2:=by
   have hnx: ∀x∈nx,∀y∈r,x.2<=y.2:=fun x hx y hy=>hb x hx y (by simp[hy])
   unfold GD
   cases hc:s[q]? with
   |none=>exact⟨⟨List.prefix_refl _,hr,fun x hx=>Or.inl hx,fun y _ c h=>by rw[hc]at h;cases h⟩,hnx⟩
   |some c=>
    by_cases ht:takes (ins L m.1) c=true
    ·have hw:=UH (n:=s.length) (q:=q+1) (m:=((ins L m.1).x.toNat,m.2)) hf hr (hf.il _ _ ht) (fun x hx=>hb x hx m (by simp))
     simp only[ht,if_true]
     generalize Eo L s.length (q+1) nx ((ins L m.1).x.toNat,m.2)=R at hw
     refine⟨⟨hw.pre,hw.row,fun x hx=> ?_,fun y hy c' hc' _ j hj=> ?_⟩,fun x hx y hy=> ?_⟩
     ·rcases hw.from_ x hx with h1|⟨h1,h2⟩
      ·exact Or.inl h1
      exact Or.inr ⟨m,by simp,c,hc,ht,h1,h2⟩
     ·simp at hy
      subst hy
      exact hw.all j hj
     rcases hw.from_ x hx with h1|⟨h1,h2⟩
     ·exact hnx x h1 y hy
     rw[h1];exact hp2.1 y hy
    have ht2:takes (ins L m.1) c=false:=by simpa using ht
    simp only[ht2]
    exact⟨⟨List.prefix_refl _,hr,fun x hx=>Or.inl hx,fun y hy c' hc' h=>by
     rw[hc]at hc'
     cases hc'
     simp at hy
     subst hy
     rw[ht2]at h;cases h⟩,hnx⟩
  obtain⟨h1,h2⟩:=one
  have h3:=uh hf r (GD L s q nx m) hp2.2 h1.row h2
  refine⟨h1.pre.trans h3.pre,h3.row,fun x hx=> ?_,fun y hy c hc ht j hj=> ?_⟩
  ·rcases h3.from_ x hx with h4|⟨y,hy,h4⟩
   ·rcases h1.from_ x h4 with h5|⟨y,hy,h5⟩
    ·exact Or.inl h5
    simp at hy
    subst hy
    exact Or.inr ⟨y,by simp,h5⟩
   exact Or.inr ⟨y,by simp[hy],h4⟩
  rcases List.mem_cons.1 hy with rfl|hy
  ·obtain⟨x,hx,e1,e2⟩:=h1.all y (by simp) c hc ht j hj
   exact⟨x,h3.pre.subset hx,e1,e2⟩
  exact h3.all y hy c hc ht j hj
structure Marks (L:List AL) (s:Text) (first bd q:Nat) (M:List Mark):Prop where
 row:Row L s.length q M
 real: ∀x∈M,first<=x.2/\x.2<=bd/\x.2<q/\Reach L s x.2 x.1 q
 all: ∀b i,first<=b->b<=bd->b<q->Reach L s b i q-> ∃x∈M,x.1=i/\x.2<=b
structure Here (L:List AL) (s:Text) (first bd q:Nat) (M:List Mark):Prop where
 row:Row L s.length q M
 real: ∀x∈M,first<=x.2/\x.2<=bd/\x.2<=q/\Reach L s x.2 x.1 q
 all: ∀b i,first<=b->b<=bd->Reach L s b i q-> ∃x∈M,x.1=i/\x.2<=b
variable {first bd u:Nat} {M now:List Mark}
theorem Marks.here (hf:Fair L) (h:Marks L s first bd q M) (hq:first<=q) (hu:bd<=u) (hu2:q<=u->q<=bd):Here L s first bd q (entered L s q u M):=by
 unfold entered
 split
 ·rename_i nz
  have hw:=UH (n:=s.length) (q:=q) (m:=(0,q)) hf h.row hf.some_ (fun x hx=>by have:=(h.real x hx).2.2.1;show x.2<=q;omega)
  generalize Eo L s.length q M (0,q)=R at hw
  refine⟨hw.row,fun x hx=> ?_,fun b i h1 h2 h3=> ?_⟩
  ·rcases hw.from_ x hx with h1|⟨h1,h2⟩
   ·have:=h.real x h1;exact⟨this.1,this.2.1,by omega,this.2.2.2⟩
   simp only at h1 h2
   rw[h1]
   exact⟨hq,hu2 nz,Nat.le_refl _,Reach.start.er h2⟩
  rcases Nat.lt_or_ge b q with hlt|hge
  ·obtain⟨x,hx,e1,e2⟩:=h.all b i h1 h2 hlt h3
   exact⟨x,hw.pre.subset hx,e1,e2⟩
  have hbq:b=q:=Nat.le_antisymm h3.le hge
  subst hbq
  rcases h3.cases with⟨-,e⟩|⟨q0,i0,c,hq0,h4,-⟩
  ·exact hw.all i e
  have:=h4.le;omega
 rename_i nz
 refine⟨h.row,fun x hx=> ?_,fun b i h1 h2 h3=>h.all b i h1 h2 (by omega) h3⟩
 have:=h.real x hx
 exact⟨this.1,this.2.1,by omega,this.2.2.2⟩
theorem Here.next (hf:Fair L) (h:Here L s first bd q M) (rO:Nat) (hb:rO<=bd) (hfull:rO=bd\/rO<=q):Marks L s first rO (q+1) ((M.filter fun y=>decide (y.2<=rO)).foldl (GD L s q) []):=by
 have ha:=uh (s:=s) (q:=q) hf (M.filter fun y=>decide (y.2<=rO)) [] (h.row.rise.filter _) (Row.nil _ _ _) (by simp)
 generalize (M.filter fun y=>decide (y.2<=rO)).foldl (GD L s q) []=R at ha
 refine⟨ha.row,fun x hx=> ?_,fun b i h1 h2 h3 h4=> ?_⟩
 ·rcases ha.from_ x hx with h1|⟨y,hy,c,h1,h2,h3,h4⟩
  ·simp at h1
  obtain⟨hy1,hy2⟩:=List.mem_filter.1 hy
  simp only[decide_eq_true_eq]at hy2
  obtain⟨r1,r2,r3,r4⟩:=h.real y hy1
  rw[h3]
  exact⟨r1,hy2,by omega,(r4.byte h1 h2).er h4⟩
 rcases h4.cases with⟨e,-⟩|⟨q0,i0,c,e,h5,h6,h7,h8⟩
 ·omega
 have:q0=q:=by omega
 subst this
 obtain⟨y,hy,e1,e2⟩:=h.all b i0 h1 (by omega) h5
 subst e1
 obtain⟨x,hx,e3,e4⟩:=ha.all y (List.mem_filter.2 ⟨hy,by simp;omega⟩) c h6 h7 i h8
 exact⟨x,hx,e3,by omega⟩
theorem filter_all {l:List Mark} {bd:Nat} (h: ∀x∈l,x.2<=bd):l.filter (fun y=>decide (y.2<=bd))=l:=by
 rw[List.filter_eq_self]
 intro x hx
 simpa using h x hx
structure Om (L:List AL) (s:Text) (first bd q:Nat) (Y:List Mark):Prop where
 real: ∀y∈Y,q<=y.2/\first<=y.1/\y.1<=bd/\LP L s y.1 y.2
 all: ∀b t,first<=b->b<=bd->q<=t->LP L s b t-> ∃y∈Y,y.1<=b/\(y.2=t\/(y.1<b/\y.2<t))
 rise:Y.Pairwise fun x y=>x.2<y.2/\y.1<=x.1
theorem Nj (hf:Fair L): ∀(f q bd u:Nat) (now:List Mark),Marks L s first bd q now->first<=q->bd<=u->(u=bd\/u<q)->bd<=s.length->s.length+1<=q+f->Om L s first bd q (run L s f q u now)
 |0,q,bd,u,now,_,_,_,_,hbs,hl=>by
  refine⟨by simp[run],fun b t h1 h2 h3 h4=> ?_,.nil⟩
  obtain⟨i,-,hr⟩:=h4
  have:=hr.mM (by omega)
  omega
 |f+1,q,bd,u,now,hm,hq,hu,hu2,hbs,hl=>by
  unfold run
  split
  ·have hh:=hm.here hf hq hu (fun h=>by omega)
   generalize entered L s q u now=M at hh
   rcases ah (L:=L) (s:=s) (q:=q) M [] hh.row.rise with⟨h1,h2⟩|⟨x,hx,hx7,h1,h2⟩
   ·rw[h2]
    simp only
    have hn:=hh.next hf bd (Nat.le_refl _) (Or.inl rfl)
    rw[filter_all (fun x hx=>(hh.real x hx).2.1)]at hn
    have ih:=Nj hf f (q+1) bd u _ hn (by omega) hu (by omega) hbs (by omega)
    refine⟨fun y hy=> ?_,fun b t h3 h4 h5 h6=> ?_,ih.rise⟩
    ·obtain⟨i1,i2⟩:=ih.real y hy
     exact⟨by omega,i2⟩
    by_cases xm:t=q
    ·subst xm
     obtain⟨i,ui,hi⟩:=h6
     obtain⟨y,hy,rfl,e2⟩:=hh.all b i h3 h4 hi
     exact absurd ui (h1 y hy)
    exact ih.all b t h3 h4 (by omega) h6
   rw[h2]
   simp only
   obtain⟨r1,r2,r3,r4⟩:=hh.real x hx
   have hn:=hh.next hf x.2 r2 (Or.inr r3)
   have ih:=Nj hf f (q+1) x.2 q _ hn (by omega) r3 (Or.inr (by omega)) (by omega) (by omega)
   refine⟨fun y hy=> ?_,fun b t h3 h4 h5 h6=> ?_,List.pairwise_cons.2 ⟨fun y hy=> ?_,ih.rise⟩⟩
   ·rcases List.mem_cons.1 hy with rfl|hy
    ·exact⟨Nat.le_refl _,r1,r2,x.1,hx7,r4⟩
    obtain⟨i1,i2,i3,i4⟩:=ih.real y hy
    exact⟨by omega,i2,by omega,i4⟩
   ·by_cases xm:t=q
    ·subst xm
     obtain⟨i,ui,hi⟩:=h6
     obtain⟨y,hy,rfl,e2⟩:=hh.all b i h3 h4 hi
     have:=h1 y hy ui
     exact⟨(x.2,t),by simp,by show x.2<=b;omega,Or.inl rfl⟩
    by_cases hbx:b<=x.2
    ·obtain⟨y,hy,e1,e2⟩:=ih.all b t h3 hbx (by omega) h6
     exact⟨y,by simp[hy],e1,e2⟩
    exact⟨(x.2,q),by simp,by show x.2<=b;omega,Or.inr ⟨by show x.2<b;omega,by show q<t;omega⟩⟩
   obtain⟨i1,i2,i3,i4⟩:=ih.real y hy
   exact⟨by show q<y.2;omega,i3⟩
  rename_i hc
  refine⟨by simp,fun b t h1 h2 h3 h4=> ?_,.nil⟩
  exfalso
  apply hc
  obtain⟨i,-,hr⟩:=h4
  by_cases hbq:b<q
  ·obtain⟨j,hj⟩:=hr.mid q (by omega) h3
   obtain⟨x,hx,-⟩:=hm.all b j h1 h2 hbq hj
   exact Or.inr (fun e=>by rw[e]at hx;simp at hx)
  exact Or.inl (by omega)
theorem XL (L:List AL) (s:Text) (first bd:Nat):Marks L s first bd first []:=
 ⟨Row.nil _ _ _,by simp,fun b i h1 _ h2 _=>by omega⟩
theorem Ml (hf:Fair L) (hr:Ca L=true) {last:Nat} (h1:first<=last) (h2:last<=s.length):Om L s first last first (yields L s first last):=by
 unfold yields
 rw[if_pos hr]
 exact Nj hf _ first last last [] (XL L s first last) (Nat.le_refl _) (Nat.le_refl _) (Or.inl rfl) h2 (by omega)
theorem ZA (hf:Fair L) (hr:Ca L=true) {b:Nat} (hb:b<=s.length):((yields L s b b).map Prod.snd).Pairwise (fun x y=>x<y)/\ ∀t,t∈(yields L s b b).map Prod.snd↔LP L s b t:=by
 have h:=Ml hf hr (Nat.le_refl b) hb
 refine⟨List.pairwise_map.2 (h.rise.imp fun h=>h.1),fun t=>⟨fun ht=> ?_,fun ht=> ?_⟩⟩
 ·obtain⟨y,hy,rfl⟩:=List.mem_map.1 ht
  obtain⟨r1,r2,r3,r4⟩:=h.real y hy
  have:y.1=b:=by omega
  rw[this]at r4
  exact r4
 obtain⟨i,-,hi⟩:=id ht
 obtain⟨y,hy,e1,e2⟩:=h.all b t (Nat.le_refl _) (Nat.le_refl _) hi.le ht
 have:=(h.real y hy).2.1
 exact List.mem_map.2 ⟨y,hy,by omega⟩
theorem ZC (hf:Fair L) (hr:Ca L=true):yields L s 0 s.length≠ []↔ ∃b t,b<=s.length/\LP L s b t:=by
 have h:=Ml (s:=s) hf hr (Nat.zero_le s.length) (Nat.le_refl _)
 constructor
 ·intro hn
  obtain⟨y,hy⟩:=List.exists_mem_of_ne_nil _ hn
  obtain⟨r1,r2,r3,r4⟩:=h.real y hy
  exact⟨y.1,y.2,r3,r4⟩
 rintro⟨b,t,hb,ht⟩ hn
 obtain⟨y,hy,-⟩:=h.all b t (Nat.zero_le _) hb (Nat.zero_le _) ht
 rw[hn]at hy
 simp at hy
end
/-! programs that may be -/
theorem XM {x:AL} {m:Nat} (h:ae m x=true) (hk:x.kind≠7):0<=x.x/\x.x<m/\1<=x.kind/\x.kind<=8/\(x.kind=6->0<=x.y/\x.y<m):=by
 unfold ae at h
 rw[Bool.and_eq_true]at h
 have h2:=h.2
 unfold goes at h2
 by_cases h6:x.kind=6
 ·rw[if_pos h6]at h2
  unfold place at h2
  simp only[Bool.and_eq_true,decide_eq_true_eq]at h2
  exact⟨h2.1.1,h2.1.2,by omega,by omega,fun _=>h2.2⟩
 rw[if_neg h6,if_neg hk]at h2
 split at h2
 ·unfold place at h2
  simp only[Bool.and_eq_true,decide_eq_true_eq]at h2
  exact⟨h2.1.1,h2.1.2,by omega,by omega,fun h=>absurd h h6⟩
 cases h2
theorem iw {x:AL} {n q j:Nat} (hj:j∈IL x n q):x.kind≠7/\(j=x.x.toNat\/(x.kind=6/\j=x.y.toNat)):=by
 unfold IL at hj
 split at hj
 ·rename_i h
  simp only[List.mem_cons,List.not_mem_nil,or_false]at hj
  exact⟨by omega,by rcases hj with h1|h1;exact Or.inl h1;exact Or.inr ⟨h,h1⟩⟩
 split at hj
 ·rename_i h;simp at hj;exact⟨by omega,Or.inl hj⟩
 split at hj
 ·rename_i h
  split at hj
  ·simp at hj;exact⟨by omega,Or.inl hj⟩
  simp at hj
 split at hj
 ·rename_i h
  split at hj
  ·simp at hj;exact⟨by omega,Or.inl hj⟩
  simp at hj
 simp at hj
theorem ZE {x:AL} {c:UInt8} (h:takes x c=true):x.kind≠7:=by
 intro e
 rw[Jw x c e]at h
 cases h
theorem Qt {L:List AL} (h:Ca L=true) {i:Nat} (hi:i<L.length):ae L.length (ins L i)=true:=by
 unfold Ca at h
 rw[Bool.and_eq_true,List.all_eq_true]at h
 unfold ins
 rw[List.getD_eq_getElem?_getD,List.getElem?_eq_getElem hi]
 exact h.1 _ (List.getElem_mem hi)
theorem ai {L:List AL} {i:Nat} (hi:L.length<=i):ins L i=⟨0,no,0,0⟩:=by
 unfold ins
 rw[List.getD_eq_getElem?_getD,List.getElem?_eq_none hi]
 rfl
theorem Ga {L:List AL} (h:Ca L=true):Fair L:=by
 have h0:0<L.length:=by
  unfold Ca at h
  rw[Bool.and_eq_true]at h
  simpa using h.2
 refine⟨h0,fun i n q j hj=> ?_,fun i c ht=> ?_⟩
 ·rcases Nat.lt_or_ge i L.length with hi|hi
  ·obtain⟨hk,hx⟩:=iw hj
   obtain⟨k1,k2,k3,k4,k5⟩:=XM (Qt h hi) hk
   rcases hx with rfl|⟨h6,rfl⟩
   ·omega
   have:=k5 h6;omega
  rw[ai hi]at hj
  simp[IL]at hj
 rcases Nat.lt_or_ge i L.length with hi|hi
 ·obtain⟨k1,k2,k3,k4,k5⟩:=XM (Qt h hi) (ZE ht)
  omega
 rw[ai hi]at ht
 simp[takes]at ht
end BR
namespace Range
def FL (T:Nat->Prop) (A B:World) (k:Nat):Prop:=T k\/(A.heap.size<=k/\k<B.heap.size)
def GH (base:Nat) (T:Nat->Prop) (W:World):Prop:= ∀k,T k->base<=k/\k<W.heap.size
def IM {α:Type} (base:Nat) (J:(Nat->Prop)->List α->World->Prop):Prop:= ∀T s A B,J T s A->GH base T A->base<=A.heap.size->AP T A B->J (FL T A B) s B
theorem VJ {T T':Nat->Prop} (h: ∀k,T k↔T' k):T=T':=funext fun k=>propext (h k)
theorem GH.fresh {base:Nat} {T:Nat->Prop} {A B:World} (h:GH base T A) (hb:base<=A.heap.size) (hs:A.heap.size<=B.heap.size):GH base (FL T A B) B:=by
 intro k hk
 rcases hk with hk|⟨h1,h2⟩
 ·have:=h k hk;exact⟨this.1,by omega⟩
 exact⟨by omega,h2⟩
theorem GH.more {base:Nat} {T:Nat->Prop} {A B:World} (h:GH base T A) (hs:A.heap.size<=B.heap.size):GH base T B:=fun k hk=>by have:=h k hk;exact⟨this.1,by omega⟩
end Range
namespace Range
def n_ (P:Program) (l:Nat) (vs:Array Value) (W:World) (R:Ending->World->Prop):Prop:=
 ∃fn tmps assign body,(Instr.yield l vs).run P W= .ok (.round l fn tmps assign body) W/\RoundIn Fence.wide 9 P l fn tmps assign body W R
def uj {α:Type} (P:Program) (g:Nat) (lb:Array Value) (enc:α->Array Value) (base:Nat) (O:Nat->Prop) (xs:List α) (w0:World):Prop:=
 ∀(l:Nat) (J Jx:(Nat->Prop)->List α->World->Prop) (T:Nat->Prop) (W:World),(∀k,k<base\/O k->W.heap[k]? =w0.heap[k]?)->w0.heap.size<=W.heap.size->
  IM base J->IM base Jx->GH base T W->(∀k,O k->T k)->base<=W.heap.size->
  (∀T pre x W1,J T pre W1->GH base T W1->pre++ [x]<+:xs->n_ P l (enc x) W1 fun e W'=>AP (fun k=>base<=k/\ ¬T k) W1 W'/\((e= .returned (.bool true)/\J T (pre++ [x]) W')\/(e= .returned (.bool false)/\Jx T (pre++ [x]) W')))->
  J T [] W->
  Calls P g (#[.func (.yield l) #[] #[]]++lb) W fun e W'=>(∃v,e= .returned v)/\AP (fun k=>base<=k) W W'/\ ∃T',GH base T' W'/\(∀k,T k->T' k)/\(J T' xs W'\/ ∃pre,pre<+:xs/\Jx T' pre W')
def rP {α:Type} (base:Nat) (T:Nat->Prop) (I:(Nat->Prop)->List α->World->Prop) (Ix:Code->(Nat->Prop)->List α->World->Prop) (xs:List α) (W:World):Exit->Act->World->Prop
 | .normal,_,W'=>AP (fun k=>base<=k/\ ¬T k) W W'/\I T xs W'
 | .ret,_,W'=>AP (fun k=>base<=k/\ ¬T k) W W'/\Ix .ret T xs W'
 | .exit id,_,W'=>AP (fun k=>base<=k/\ ¬T k) W W'/\Ix (.exit id) T xs W'
 | .goto t,_,W'=>AP (fun k=>base<=k/\ ¬T k) W W'/\Ix (.goto t) T xs W'
 | .panic _,_,_=>False
 | .outgrown,_,_=>False
theorem UI {α:Type} {P:Program} {n:Nat} {g:Operand} {ps:Array Tmp} {assign body:Code} {Q:Exit->Act->World->Prop} {a:Act} {w:World}
    {gf:Nat} {lb:Array Value} (hg:a.eval g= .func (.func gf) #[] lb) (eg: ∀args w,(callFunc gf args).run P w= .ok (.enter gf args) w)
    {enc:α->Array Value} {base:Nat} {O:Nat->Prop} {xs:List α} (hseq:uj P gf lb enc base O xs w) (hO:GH base O w) (hbase:base<=w.heap.size) (hps: ∀x,(enc x).size=ps.size)
    (I:(Nat->Prop)->List α->World->Prop) (Ix:Code->(Nat->Prop)->List α->World->Prop) (hI:IM base I) (hIx: ∀c,IM base (Ix c)) (h0:I O [] w) (a₁:α->Act)
    (hassign: ∀(l:Nat) (x:α) (W:World) (K:Act->World->Prop),K (a₁ x) W->
     assign.wpIn (Fence.wide.inRound l) 9 P (Exit.then K (fun _ _ _=>False)) {tmps:=(ps.zip (enc x)).foldl (fun t (p,v)=>t.setIfInBounds p v) a.tmps,defers:= []} W)
    (hbody: ∀(l:Nat) (T:Nat->Prop) (pre:List α) (x:α) (W:World),I T pre W->GH base T W->w.heap.size+2<=W.heap.size->pre++ [x]<+:xs->body.wpIn (Fence.wide.inRound l) 9 P (rP base T I Ix (pre++ [x]) W) (a₁ x) W)
    (hdone: ∀(T:Nat->Prop) (W:World),I T xs W->GH base T W->(∀k,O k->T k)->T w.heap.size->W.heap[w.heap.size]? =some (.deferred (some []))->AP (fun k=>base<=k) w W->Q .normal {a with defers:= {target:= .collected w.heap.size,args:= #[]}::a.defers} W)
    (hstop: ∀(c:Code) (T:Nat->Prop) (pre:List α) (W:World),pre<+:xs->Ix c T pre W->GH base T W->(∀k,O k->T k)->T w.heap.size->W.heap[w.heap.size]? =some (.deferred (some []))->AP (fun k=>base<=k) w W->c.wpIn Fence.wide n P Q {a with defers:= {target:= .collected w.heap.size,args:= #[]}::a.defers} W):
    (Code.rangeFunc g ps assign body).wpIn Fence.wide n P Q a w:=by
 refine wpIn_rangeFunc ?_
 intro fn hfn
 show∃(l:Nat) (mark:List Deferred) (w₁:World) (d:Deferred) (w₁':World) (f:FuncId) (args:Array Value) (w₂:World),
     (Instr.enterLoop fn a.tmps ps assign body none).run P w= .ok (l,mark) w₁/\_
 obtain⟨rc,hrc⟩: ∃rc:LoopState->Option Code->Loop,rc=fun st pe=> {state:=st,pending:=pe,fn,tmps:=a.tmps,params:=ps,assign,body,defers:=w.heap.size}:=⟨_,rfl⟩
 obtain⟨W1,hW1⟩: ∃W1,(w.alloc (.deferred (some []))).alloc (.loop (rc .ready none))=W1:=⟨_,rfl⟩
 have hs1:W1.heap.size=w.heap.size+2:=by rw[<-hW1];simp
 have hL1:W1.heap[w.heap.size+1]? =some (.loop (rc .ready none)):=by
  rw[<-hW1];have:=World.alloc_heap_new (w.alloc (.deferred (some []))) (.loop (rc .ready none));rwa[World.size_alloc]at this
 have hK1:W1.heap[w.heap.size]? =some (.deferred (some [])):=by
  rw[<-hW1];exact(Below.heap_alloc _ _ _ (by simp)).trans (World.alloc_heap_new w _)
 have ht1: ∀T,AP T w W1:=fun T=>by rw[<-hW1];exact(AP.alloc T _ _).trans (AP.alloc T _ _)
 -- the statement's two blocks
 obtain⟨S,hS⟩: ∃S:(Nat->Prop)->Nat->Prop,S=fun T k=>T k\/k=w.heap.size\/k=w.heap.size+1:=⟨_,rfl⟩
 have Nk: ∀T k,S T k↔(T k\/k=w.heap.size\/k=w.heap.size+1):=fun T k=>by rw[hS]
 have hI1:I (S O) [] W1:=by
  have:=hI _ _ _ _ h0 hO hbase (ht1 O)
  have e:FL O w W1=S O:=VJ fun k=>by
   rw[Nk]
   unfold FL
   rw[hs1]
   constructor
   ·rintro(h|h)
    ·exact Or.inl h
    exact Or.inr (by omega)
   rintro(h|h)
   ·exact Or.inl h
   exact Or.inr (by omega)
  rwa[e]at this
 have Qu: ∀(J:(Nat->Prop)->List α->World->Prop),IM base J-> ∀(T:Nat->Prop) (A:World) (o:Obj) s,J (S T) s A->GH base (S T) A->base<=A.heap.size->J (S T) s (A.putObj (w.heap.size+1) o):=fun J hJ T A o s h hA hb=>by
  have:=hJ _ _ _ _ h hA hb (AP.putObj (A:=A) o ((Nk T (w.heap.size+1)).2 (Or.inr (Or.inr rfl))))
  have e:FL (S T) A (A.putObj (w.heap.size+1) o)=S T:=VJ fun k=>by
   unfold FL
   have hz:(A.putObj (w.heap.size+1) o).heap.size=A.heap.size:=by simp
   rw[hz]
   constructor
   ·rintro(h|h)
    ·exact h
    omega
   exact Or.inl
  rwa[e]at this
 refine⟨w.heap.size+1,[{target:= .collected w.heap.size,args:= #[]}],W1,{target:= .fn (.func gf) lb,args:= #[.func (.yield (w.heap.size+1)) #[] #[]]},W1,gf,
  #[.func (.yield (w.heap.size+1)) #[] #[]]++lb,W1,?_,?_,?_,?_,fun h=>by simp[Fence.wide]at h,?_⟩
 ·rw[<-hW1,hrc];exact run_enterLoop_outer _ _ _ _ _
 ·simp only[resolve,hg]
  simp[go_sem]
 ·intro f' _;trivial
 ·simp[invoke,go_sem,eg]
 have iy: ∀(J:(Nat->Prop)->List α->World->Prop),IM base J-> ∀(T:Nat->Prop) s A B,J (S T) s A->GH base T A->base<=A.heap.size->w.heap.size+1<A.heap.size->AP T A B->J (S (FL T A B)) s B:=fun J hJ T s A B h1 hT uk hlA ht=>by
   have hST:GH base (S T) A:=fun k hk=>by
    rcases(Nk T k).1 hk with hk|hk|hk
    ·exact hT k hk
    ·omega
    omega
   have:=hJ _ _ _ _ h1 hST uk (ht.wider fun k hk=>(Nk T k).2 (Or.inl hk))
   rwa[VJ (T:=FL (S T) A B) (T':=S (FL T A B)) (fun k=>by
    rw[Nk];unfold FL;rw[Nk]
    constructor
    ·rintro((h|h)|h)
     ·exact Or.inl (Or.inl h)
     ·exact Or.inr h
     exact Or.inl (Or.inr h)
    rintro((h|h)|h)
    ·exact Or.inl (Or.inl h)
    ·exact Or.inr h
    exact Or.inl (Or.inr h))]at this
 have hfr: ∀(T:Nat->Prop) (A B:World) k,k<A.heap.size-> ¬T k-> ¬FL T A B k:=fun T A B k hk ht h=>by
  rcases h with h|h
  ·exact ht h
  omega
 refine callsIn_wide.2 ((hseq (w.heap.size+1)
  (fun T pre W=>I (S T) pre W/\W.heap[w.heap.size+1]? =some (.loop (rc .ready none))/\W.heap[w.heap.size]? =some (.deferred (some []))/\ ¬T w.heap.size/\ ¬T (w.heap.size+1))
  (fun T pre W=> ∃c,Ix c (S T) pre W/\W.heap[w.heap.size+1]? =some (.loop (rc .done (some c)))/\W.heap[w.heap.size]? =some (.deferred (some []))/\ ¬T w.heap.size/\ ¬T (w.heap.size+1))
  O W1 ?_ (by omega) ?_ ?_ (hO.more (by omega)) (fun k hk=>hk) (by omega) ?_ ⟨hI1,hL1,hK1,fun h=>by have:=hO _ h;omega,fun h=>by have:=hO _ h;omega⟩).mono ?_)
 ·intro k hk
  refine(ht1 (fun _=>False)).block k ?_ id
  rcases hk with hk|hk
  ·omega
  exact(hO k hk).2
 ·-- what the iterator turns and lays
  rintro T s A B ⟨h1,h2,h3,h4,h5⟩ hT uk ht
  have hlA:w.heap.size+1<A.heap.size:=(Array.getElem?_eq_some_iff.1 h2).1
  exact⟨iy I hI T s A B h1 hT uk hlA ht,ht.keeps h2 h5,ht.keeps h3 h4,hfr _ _ _ _ (by omega) h4,hfr _ _ _ _ hlA h5⟩
 ·rintro T s A B ⟨c,h1,h2,h3,h4,h5⟩ hT uk ht
  have hlA:w.heap.size+1<A.heap.size:=(Array.getElem?_eq_some_iff.1 h2).1
  exact⟨c,iy (Ix c) (hIx c) T s A B h1 hT uk hlA ht,ht.keeps h2 h5,ht.keeps h3 h4,hfr _ _ _ _ (by omega) h4,hfr _ _ _ _ hlA h5⟩
 ·-- a round
  rintro T pre x W ⟨hi,hl,hk,n0,n1⟩ hT hpre
  have hlt:w.heap.size+1<W.heap.size:=(Array.getElem?_eq_some_iff.1 hl).1
  have hST:GH base (S T) W:=fun k hk=>by
   rcases(Nk T k).1 hk with hk|hk|hk
   ·exact hT k hk
   ·omega
   omega
  have s0:S T w.heap.size:=(Nk _ _).2 (Or.inr (Or.inl rfl))
  have s1:S T (w.heap.size+1):=(Nk _ _).2 (Or.inr (Or.inr rfl))
  have hy:=run_yield (P:=P) (args:=enc x) hl (by rw[hrc];exact hps x)
  rw[hrc]at hy
  refine⟨fn,_,assign,body,hy,roundIn_of_wpIn trivial (hassign _ x W _ ⟨_,run_beginRound hl (by rw[hrc]),?_⟩)⟩
  have hl2:(W.putObj (w.heap.size+1) (.loop {rc .ready none with state:= .busy})).heap[w.heap.size+1]? =some (.loop {rc .ready none with state:= .busy}):=World.putObj_heap_same hlt
  have hk2:(W.putObj (w.heap.size+1) (.loop {rc .ready none with state:= .busy})).heap[w.heap.size]? =some (.deferred (some [])):=(World.putObj_heap_other (by omega)).trans hk
  have hw2:AP (fun k=>base<=k/\ ¬T k) W (W.putObj (w.heap.size+1) (.loop {rc .ready none with state:= .busy})):=AP.putObj _ ⟨by omega,n1⟩
  have hb2:GH base (S T) (W.putObj (w.heap.size+1) (.loop {rc .ready none with state:= .busy})):=hST.more (by simp)
  refine wpIn_mono (hbody _ (S T) pre x _ (Qu I hI _ _ _ _ hi hST (by omega)) hb2 (by simp;omega) hpre) ?_
  have fin: ∀(jump:Option Code) (W3:World),AP (fun k=>base<=k/\ ¬S T k) (W.putObj (w.heap.size+1) (.loop {rc .ready none with state:= .busy})) W3->
      (Instr.endRound (w.heap.size+1) jump).run P W3= .ok (.bool jump.isNone) (W3.putObj (w.heap.size+1) (.loop (rc (if jump.isNone then .ready else .done) jump)))/\
      (W3.putObj (w.heap.size+1) (.loop (rc (if jump.isNone then .ready else .done) jump))).heap[w.heap.size+1]? =some (.loop (rc (if jump.isNone then .ready else .done) jump))/\
      (W3.putObj (w.heap.size+1) (.loop (rc (if jump.isNone then .ready else .done) jump))).heap[w.heap.size]? =some (.deferred (some []))/\
      AP (fun k=>base<=k/\ ¬T k) W (W3.putObj (w.heap.size+1) (.loop (rc (if jump.isNone then .ready else .done) jump)))/\GH base (S T) W3/\base<=W3.heap.size:=fun jump W3 hk3=>by
   have hl3:=hk3.keeps hl2 (fun h=>h.2 s1)
   have hd3:=hk3.keeps hk2 (fun h=>h.2 s0)
   have hz3:=hk3.size
   have hr:=run_endRound (P:=P) jump hl3
   rw[hrc]at hr ⊢
   exact⟨hr,World.putObj_heap_same (Array.getElem?_eq_some_iff.1 hl3).1,(World.putObj_heap_other (by omega)).trans hd3,
    (hw2.trans (hk3.wider fun k h=>⟨h.1,fun h2=>h.2 ((Nk _ _).2 (Or.inl h2))⟩)).trans (AP.putObj _ ⟨by omega,n1⟩),hb2.more hz3,by simp at hz3;omega⟩
  rintro e a3 W3 hp
  cases e with
  |normal=>
   obtain⟨hk3,hi3⟩:=hp
   obtain⟨hr,hl4,hk4,oC,hs4,hb4⟩:=fin none W3 hk3
   exact⟨_,_,hr,oC,.inl ⟨rfl,Qu I hI _ _ _ _ hi3 hs4 hb4,hl4,hk4,n0,n1⟩⟩
  |ret=>
   obtain⟨hk3,hi3⟩:=hp
   obtain⟨hr,hl4,hk4,oC,hs4,hb4⟩:=fin (some .ret) W3 hk3
   exact⟨_,_,hr,oC,.inr ⟨rfl,.ret,Qu _ (hIx _) _ _ _ _ hi3 hs4 hb4,hl4,hk4,n0,n1⟩⟩
  |exit id=>
   obtain⟨hk3,hi3⟩:=hp
   obtain⟨hr,hl4,hk4,oC,hs4,hb4⟩:=fin (some (.exit id)) W3 hk3
   exact⟨_,_,hr,oC,.inr ⟨rfl,.exit id,Qu _ (hIx _) _ _ _ _ hi3 hs4 hb4,hl4,hk4,n0,n1⟩⟩
  |goto t=>
   obtain⟨hk3,hi3⟩:=hp
   obtain⟨hr,hl4,hk4,oC,hs4,hb4⟩:=fin (some (.goto t)) W3 hk3
   exact⟨_,_,hr,oC,.inr ⟨rfl,.goto t,Qu _ (hIx _) _ _ _ _ hi3 hs4 hb4,hl4,hk4,n0,n1⟩⟩
  |panic ch=>exact hp.elim
  |outgrown=>exact hp.elim
 rintro e W2 ⟨⟨v,rfl⟩,uF,T',hT',um,hor⟩
 have s0:S T' w.heap.size:=(Nk _ _).2 (Or.inr (Or.inl rfl))
 have zT: ∀k,O k->S T' k:=fun k hk=>(Nk _ _).2 (Or.inl (um k hk))
 have hz1:=uF.size
 have hST:GH base (S T') W2:=fun k hk=>by
  rcases(Nk T' k).1 hk with hk|hk|hk
  ·exact hT' k hk
  ·omega
  omega
 have hend: ∀o,AP (fun k=>base<=k) w (W2.putObj (w.heap.size+1) o):=fun o=>((ht1 _).trans uF).trans (AP.putObj _ (by omega))
 rcases hor with⟨hi,hl,hk,n0,n1⟩|⟨pre,hpre,c,hi,hl,hk,n0,n1⟩
 ·have hr:=run_endLoop (P:=P) hl (by rw[hrc];simp)
  rw[hrc]at hr
  exact⟨none,_,hr,hdone (S T') _ (Qu I hI _ _ _ _ hi hST (by omega)) (hST.more (by simp)) zT s0 ((World.putObj_heap_other (by omega)).trans hk) (hend _)⟩
 have hr:=run_endLoop (P:=P) hl (by rw[hrc];simp)
 rw[hrc]at hr
 exact⟨some c,_,hr,hstop c (S T') pre _ hpre (Qu _ (hIx c) _ _ _ _ hi hST (by omega)) (hST.more (by simp)) zT s0 ((World.putObj_heap_other (by omega)).trans hk) (hend _)⟩
end Range
namespace Fg
open Strs Al Range
open Bv (AL Ca)
open BR (Text steps put)
open EH (CZ BJ Qc CS ED CE)
open W14 (AZ Bi BL AO)
open Kit (below_draws on)
/-! rQ by number -/
def Ir (n:Nat) (f:Nat->Bool):Array Value:=((List.range n).map fun i=>Value.bool (f i)).toArray
theorem LQ (n:Nat) (f:Nat->Bool):(Ir n f).size=n:=by simp[Ir]
theorem Nn {n i:Nat} (f:Nat->Bool) (h:i<n):(Ir n f)[i]? =some (.bool (f i)):=by simp[Ir,h]
theorem XN {n:Nat} {f g:Nat->Bool} (h: ∀i,i<n->f i=g i):Ir n f=Ir n g:=by
 unfold Ir
 congr 1
 exact List.map_congr_left fun i hi=>by rw[h i (List.mem_range.1 hi)]
theorem UJ {n:Nat} {a:Array Value} {f:Nat->Bool} (hs:a.size=n) (h: ∀i,i<n->a[i]? =some (.bool (f i))):a=Ir n f:=by
 apply Array.ext_getElem?
 intro i
 by_cases hi:i<n
 ·rw[h i hi,Nn f hi]
 rw[Array.getElem?_eq_none (by omega),Array.getElem?_eq_none (by rw[LQ];omega)]
def Bits (w:World) (b n:Nat) (f:Nat->Bool):Prop:=w.heap[b]? =some (.cells (Ir n f) 4 (0,0))
section
variable {w w':World} {b n:Nat} {f g:Nat->Bool}
theorem Bits.lt (h:Bits w b n f):b<w.heap.size:=(Array.getElem?_eq_some_iff.1 h).1
theorem Bits.cell (h:Bits w b n f) {i:Nat} (hi:i<n):w.cell? ⟨b,i,none⟩=some (.bool (f i)):=by rw[cell_of_row w b i _ _ _ h,Nn f hi]
theorem Bits.free (h:Bits w b n f) (i:Nat):w.frozen? ⟨b,i,none⟩=false:=frozen_of_row w b i _ _ h
theorem Bits.same (h:Bits w b n f) (hk:w'.heap[b]? =w.heap[b]?):Bits w' b n f:=hk.trans h
theorem Bits.below (h:Bits w b n f) (k:Below w.heap.size w w'):Bits w' b n f:=h.same (k.block b h.lt)
theorem Bits.is (h:Bits w b n f) (e: ∀i,i<n->f i=g i):Bits w b n g:=by unfold Bits at *;rw[h,XN e]
theorem Bits.put (h:Bits w b n f) {i:Nat} (v:Bool):Bits (w.setCell ⟨b,i,none⟩ (.bool v)) b n (fun j=>if j=i then v else f j):=by
 unfold Bits
 rw[heap_setCell_same w b i _ _ _ h]
 congr 2
 refine UJ (by rw[Array.size_setIfInBounds,LQ]) fun j hj=> ?_
 rw[Array.getElem?_setIfInBounds,LQ,Nn f hj]
 by_cases e:i=j
 ·subst e;rw[if_pos rfl,if_pos hj,if_pos rfl]
 rw[if_neg e,if_neg (fun q=>e q.symm)]
end
theorem UK:(Tryz.prog.info? 4).map (fun i=>(i.zero,i.size,i.bytes))=some (some (.bool false),1,1):=by kernel_rfl
theorem dG (n:Nat):madeCells #[.bool false] n=Ir n fun _=>false:=by
 refine UJ (size_madeCells _ _) fun j hj=> ?_
 simp[madeCells,hj,Nat.mod_one]
theorem UL (w:World) {n:Nat} (hn:n<=1000000):(Instr.makeSlice 82 (.int .i64 n) (.int .i64 n)).run Tryz.prog w= .ok (.slice (some ⟨w.heap.size,0,none⟩) n n) (w.alloc (.cells (Ir n fun _=>false) 4)):=by
 obtain⟨i,hi,h1,h2,h3⟩:=info_parts UK
 have h:=run_make (P:=Tryz.prog) w 82 4 i (.bool false) Tryz.underlying82 hi h1 .i64 .i64 n n (by omega) (Int.le_refl _) (by rw[h3];omega) (by omega)
 rw[h2,Nat.mul_one,Int.toNat_natCast]at h
 rw[h,<-dG]
 rfl
theorem XO (w:World) (n:Nat) (f:Nat->Bool):Bits (w.alloc (.cells (Ir n f) 4)) w.heap.size n f:=heap_alloc_new w _
/-! marks -/
def Ep (x:BR.Mark):List Value:= [.int .i64 x.1,.int .i64 x.2]
def FM (x:BR.Mark):Array Value:= #[.int .i64 x.1,.int .i64 x.2]
theorem Fh (x:BR.Mark):(Ep x).length=2:=rfl
theorem dH (x:BR.Mark): ∀c∈Ep x,c.oneCell'=true:=by
 intro c hc
 simp only[Ep,List.mem_cons,List.not_mem_nil,or_false]at hc
 rcases hc with rfl|rfl<;>rfl
abbrev zU (B:Nat) (w:World) (v:Value) (L:List BR.Mark):Prop:=Al Ep 2 B w v L
theorem Iu:(Tryz.prog.info? 132).map (fun i=>(i.zero,i.size,i.bytes))=some (some (.agg #[.int .i64 0,.int .i64 0]),2,16):=by kernel_rfl
def Gb (w:World) (b:Nat) (x:BR.Mark):Prop:=w.heap[b]? =some (.cells (FM x) 132 (0,0))
section
variable {w w':World} {b:Nat} {x:BR.Mark}
theorem Gb.lt (h:Gb w b x):b<w.heap.size:=(Array.getElem?_eq_some_iff.1 h).1
theorem Gb.same (h:Gb w b x) (hk:w'.heap[b]? =w.heap[b]?):Gb w' b x:=hk.trans h
theorem Gb.below (h:Gb w b x) (k:Below w.heap.size w w'):Gb w' b x:=h.same (k.block b h.lt)
theorem Gb.c0 (h:Gb w b x):w.cell? ⟨b,0,none⟩=some (.int .i64 x.1):=cell_of_row w b 0 _ _ _ h
theorem Gb.c1 (h:Gb w b x):w.cell? ⟨b,1,none⟩=some (.int .i64 x.2):=cell_of_row w b 1 _ _ _ h
theorem Gb.cells (h:Gb w b x): ∀j,j<2->w.cell? ⟨b,0+j,none⟩=(Ep x)[j]? :=by
 intro j hj
 rw[Nat.zero_add,cell_of_row w b j _ _ _ h]
 match j,hj with
 |0,_=>rfl
 |1,_=>rfl
end
section
variable {ops:Array Oper} {rest:List Oper} {o:Oper} {a:Act} {w:World} {Q:Exit->Act->World->Prop}
theorem Qv (hgd:o.guard=none) (x:Operand) (ho:o.op= .box 132 x) {r:BR.Mark} (hx:a.eval x= .agg (FM r))
    (h: ∀w' b,w.heap.size=b->Gb w' b r->Below w.heap.size w w'->w'.heap.size=w.heap.size+1->wpList Tryz.prog ops Q rest (a.put o.dst (.pointer (some ⟨b,0,none⟩))) w'):wpList Tryz.prog ops Q (o::rest) a w:=
 wpList_plain hgd fun _ hK=>by
  unfold Oper.wp execOp
  simp only[ho,hx,Instr.box,newVar,newRow,Sem.run_bind,Sem.run_pure]
  exact hK _ _ (h _ _ rfl (heap_alloc_new w _) (AZ w _) (World.size_alloc w _))
theorem UM (x:BR.Mark):(Tryz.prog.info? 132).map (·.size)=some (FM x).size:=by
 obtain⟨i,hi,-,h2,-⟩:=info_parts Iu
 rw[hi];simp[FM,h2]
theorem dI (hgd:o.guard=none) (x:Operand) (ho:o.op= .load 132 x) {b:Nat} (hx:a.eval x= .pointer (some ⟨b,0,none⟩)) {r:BR.Mark} (hr:Gb w b r) (h:wpList Tryz.prog ops Q rest (a.put o.dst (.agg (FM r))) w):wpList Tryz.prog ops Q (o::rest) a w:=
 wpList_load_row hgd 132 x ho b hx 132 (FM r) (0,0) _ hr Tryz.underlying132 rfl (UM r) h
theorem Kn {K:Act->World->Prop} (x:Operand) (ho:o.op= .buildSlice 127 1 #[(0,x)]) {r:BR.Mark} (hx:a.eval x= .agg (FM r))
    (h: ∀w' b,w.heap.size=b->zU w'.heap.size w' (.slice (some ⟨b,0,none⟩) 1 1) [r]->Below w.heap.size w w'->w'.heap.size=w.heap.size+1->w'.ownsRow w.heap.size 132 2 (.slice (some ⟨b,0,none⟩) 1 1) 1 (Ep r)->K (a.put o.dst (.slice (some ⟨b,0,none⟩) 1 1)) w'):o.wp Tryz.prog a w K Q:=by
 obtain⟨i,hi,h1,h2,-⟩:=info_parts Iu
 refine wp_buildSlice 127 132 1 _ ho (FM r) i _ Tryz.underlying127 hi h1 (by rw[h2];decide) (by rw[h2];decide) ?_ (h _ _ rfl ?_ (AZ w _) (World.size_alloc w _) ?_)
 ·rw[h2]
  simp only[List.map_toArray,List.map_cons,List.map_nil,hx]
  have hr:Array.range (1*2)= #[0,1]:=by decide
  rw[hr]
  simp[Instr.fill,FM,Value.cells]
 ·refine⟨_,_,rfl,Nat.le_refl _,by unfold maxLen;decide,fun _=>⟨_,rfl,by rw[World.size_alloc];exact Nat.lt_succ_self _,fun k hk j hj=> ?_⟩⟩
  have hk0:k=0:=by simp at hk;omega
  subst hk0
  have:=Ic w (Ep r) 132 j
  rw[Nat.zero_mul,Nat.zero_add]
  have h5:j<(Ep r).length:=by rw[Fh];exact hj
  exact(this _ (List.getElem?_eq_getElem h5)).trans (List.getElem?_eq_getElem h5).symm
 refine⟨rfl,Or.inr ⟨w.heap.size,1,FM r,rfl,Nat.le_refl _,heap_alloc_new w _,Nat.le_refl _,by unfold maxLen;decide,rfl,rfl⟩⟩
theorem Ko {a:Act} {o:Oper} {w:World} (x:Operand) (ho:o.op= .load 132 x) {b k:Nat} (hx:a.eval x= .pointer (some ⟨b,k,none⟩)) {r:BR.Mark} (hr: ∀j,j<2->w.cell? ⟨b,k+j,none⟩=(Ep r)[j]?):(execOp a.eval o).run Tryz.prog w= .ok (.value (.agg (FM r))) w:=by
 have hl:(loadCells ⟨b,k,none⟩ (Ep r).length).run Tryz.prog w= .ok (Ep r).toArray w:=run_loadCells_list (P:=Tryz.prog) w ⟨b,k,none⟩ (Ep r) fun j v hv=>by
  have hadd:(⟨b,k,none⟩:Addr).add j=⟨b,k+j,none⟩:=by unfold Addr.add;split<;>simp_all
  have hj:j<2:=by
   rcases Nat.lt_or_ge j (Ep r).length with q|q
   ·rw[Fh]at q;exact q
   rw[List.getElem?_eq_none q]at hv;cases hv
  rw[hadd,hr j hj];exact hv
 obtain⟨i,hi,-,h2,-⟩:=info_parts Iu
 have hagg:(isAgg 132).run Tryz.prog w= .ok true w:=by
  unfold isAgg
  rw[Sem.run_bind,run_underlying Tryz.underlying132 w]
  rfl
 rw[Fh]at hl
 unfold execOp
 simp only[ho,hx,Instr.loadAt,Instr.sureAddr,loadVar,sizeOf,typeInfo,Sem.run_bind,Sem.run_pure,Result.andThen_ok,hagg]
 simp[hi,h2,hl,Sem.run_bind,Result.andThen]
 rfl
theorem Jy {K:Act->World->Prop} (s x:Operand) (ho:o.op= .call {callee:= .builtin .append,args:= #[s,x],argTypes:= #[127,127]})
    {base B:Nat} {v u:Value} {L M:List BR.Mark} (hs:a.eval s=v) (hx:a.eval x=u) (hown:w.ownsRow base 132 2 v L.length (L.flatMap Ep)) (hu:zU B w u M) (hl:L.length+M.length<=1000000) (hbase:base<=w.heap.size)
    (h: ∀v' w',w'.ownsRow base 132 2 v' (L++M).length ((L++M).flatMap Ep)->Put v v' w w'->K (a.put o.dst v') w'):o.wp Tryz.prog a w K Q:=by
 obtain⟨i,hi,h1,h2,h3⟩:=info_parts Iu
 refine IJ s x 127 ho base 132 i _ 2 16 Tryz.underlying127 hi h1 h2 h3 rfl (by decide) v L.length (L.flatMap Ep) hs hown u M B hx hu Fh dH (by unfold maxLen;omega) (by omega) hbase fun v' w' e1 e2=>h v' w' ?_ e2
 rw[List.length_append,List.flatMap_append];exact e1
end
/-! rows of marks -/
def uo (v:Value) (g n:Nat):Array Value:= #[v,.slice (some ⟨g,0,none⟩) n n]
structure Dt (base:Nat) (w:World) (r:Nat) (v:Value) (g n:Nat) (M:List BR.Mark) (f:Nat->Bool):Prop where
 low:base<=r
 dJ:base<=g
 box:w.heap[r]? =some (.cells (uo v g n) 129 (0,0))
 own:w.ownsRow base 132 2 v M.length (M.flatMap Ep)
 bits:Bits w g n f
abbrev Gx (base:Nat) (w:World) (r:Nat) (v:Value) (g n:Nat) (M:List BR.Mark):Prop:=Dt base w r v g n M fun i=>decide (i∈steps M)
def RF (r g:Nat) (v:Value) (k:Nat):Prop:=k=r\/k=g\/v.ownBlock=some k
structure EM (r g:Nat) (v v':Value) (w w':World):Prop where
 turns:AP (RF r g v) w w'
 own: ∀k,v'.ownBlock=some k->v.ownBlock=some k\/w.heap.size<=k
section
variable {base:Nat} {w w' w'':World} {r g n:Nat} {v v' v'':Value} {M:List BR.Mark} {f:Nat->Bool}
theorem Dt.c0 (h:Dt base w r v g n M f):w.cell? ⟨r,0,none⟩=some v:=cell_of_row w r 0 _ _ _ h.box
theorem Dt.c1 (h:Dt base w r v g n M f):w.cell? ⟨r,1,none⟩=some (.slice (some ⟨g,0,none⟩) n n):=cell_of_row w r 1 _ _ _ h.box
theorem Dt.f0 (h:Dt base w r v g n M f):w.frozen? ⟨r,0,none⟩=false:=frozen_of_row w r 0 _ _ h.box
theorem Dt.lt (h:Dt base w r v g n M f):r<w.heap.size:=(Array.getElem?_eq_some_iff.1 h.box).1
theorem Dt.form (h:Dt base w r v g n M f): ∃A c,v= .slice A M.length c/\M.length<=c/\c<=maxLen:=(Al.Bw Fh rfl h.own).form
theorem Dt.mM (h:Dt base w r v g n M f) {k:Nat} (hk:RF r g v k):base<=k/\k<w.heap.size:=by
 rcases hk with rfl|rfl|hk
 ·exact⟨h.low,h.lt⟩
 ·exact⟨h.dJ,h.bits.lt⟩
 exact h.own.lt k hk
theorem aj {w:World} {k:Nat} {c1 c2:Array Value} {t1 t2:TypeId} {p q:Nat×Nat} (h1:w.heap[k]? =some (.cells c1 t1 p)) (h2:w.heap[k]? =some (.cells c2 t2 q)):t1=t2:=by
 rw[h1]at h2
 injection h2 with h2
 injection h2
theorem Dt.rg (h:Dt base w r v g n M f):r≠g:=by
 intro e
 have h1:=h.box
 rw[e]at h1
 exact absurd (aj h1 h.bits) (by decide)
theorem Dt.rv (h:Dt base w r v g n M f):v.ownBlock≠some r:=by
 intro e
 obtain⟨cur,h1⟩:=ED h.own e
 exact absurd (aj h1 h.box) (by decide)
theorem Dt.gv (h:Dt base w r v g n M f):v.ownBlock≠some g:=by
 intro e
 obtain⟨cur,h1⟩:=ED h.own e
 exact absurd (aj h1 h.bits) (by decide)
theorem Dt.same (h:Dt base w r v g n M f) (hk: ∀k,RF r g v k->w'.heap[k]? =w.heap[k]?):Dt base w' r v g n M f:=
 ⟨h.low,h.dJ,(hk r (Or.inl rfl)).trans h.box,CE h.own fun k q=>hk k (Or.inr (Or.inr q)),h.bits.same (hk g (Or.inr (Or.inl rfl)))⟩
theorem Dt.below (h:Dt base w r v g n M f) (k:Below w.heap.size w w'):Dt base w' r v g n M f:=h.same fun _ q=>k.block _ (h.mM q).2
theorem EM.refl (r g:Nat) (v:Value) (w:World):EM r g v v w w:=⟨AP.refl _ _,fun _ h=>Or.inl h⟩
theorem EM.of (h:Below w.heap.size w w'):EM r g v v w w':=⟨AP.new h,fun _ h=>Or.inl h⟩
theorem EM.trans (h:EM r g v v' w w') (k:EM r g v' v'' w' w''):EM r g v v'' w w'':=by
 refine⟨⟨k.turns.os.trans h.turns.os,k.turns.tape.trans h.turns.tape,k.turns.output.trans h.turns.output,Nat.le_trans h.turns.size k.turns.size,fun i hi ht=> ?_⟩,fun i hi=> ?_⟩
 ·refine(k.turns.block i (Nat.lt_of_lt_of_le hi h.turns.size) fun q=>ht ?_).trans (h.turns.block i hi ht)
  rcases q with q|q|q
  ·exact Or.inl q
  ·exact Or.inr (Or.inl q)
  rcases h.own i q with q2|q2
  ·exact Or.inr (Or.inr q2)
  omega
 rcases k.own i hi with q|q
 ·exact h.own i q
 exact Or.inr (Nat.le_trans h.turns.size q)
theorem EM.keeps (h:EM r g v v' w w') {k:Nat} (hk:k<w.heap.size) (hn: ¬RF r g v k):w'.heap[k]? =w.heap[k]? :=h.turns.block k hk hn
theorem EM.below (h:EM r g v v' w w') (hr:Dt base w r v g n M f):Below base w w':=
 ⟨h.turns.os,h.turns.tape,h.turns.output,h.turns.size,fun k hk=>h.turns.block k (by have:=hr.lt;have:=hr.low;omega) (fun q=>by have:=(hr.mM q).1;omega)⟩
theorem Dt.JL (h:Dt base w r v g n M f) (p:Put v v' w w'):w'.cell? ⟨r,0,none⟩=some v/\w'.frozen? ⟨r,0,none⟩=false:=by
 obtain⟨-,-,-,-,g5⟩:=p.grown
 have h1:w'.heap[r]? =_:=(g5 r h.lt (fun q=>h.rv q.symm)).trans h.box
 exact⟨cell_of_row w' r 0 _ _ _ h1,frozen_of_row w' r 0 _ _ h1⟩
theorem XP {b:Nat} {m:BR.Mark} (p:Put v v' w w') (hm:Gb w b m) (h:v.ownBlock≠some b):Gb w' b m:=by
 obtain⟨-,-,-,-,g5⟩:=p.grown
 exact hm.same (g5 b hm.lt (fun q=>h q.symm))
theorem Dt.more {N:List BR.Mark} (h:Dt base w r v g n M f) (ho:w'.ownsRow base 132 2 v' (M++N).length ((M++N).flatMap Ep)) (p:Put v v' w w'):Dt base (w'.setCell ⟨r,0,none⟩ v') r v' g n (M++N) f/\EM r g v v' w (w'.setCell ⟨r,0,none⟩ v'):=by
 obtain⟨g1,g2,g3,g4,g5⟩:=p.grown
 have hr:w'.heap[r]? =_:=(g5 r h.lt (fun q=>h.rv q.symm)).trans h.box
 have hg:w'.heap[g]? =_:=(g5 g h.bits.lt (fun q=>h.gv q.symm)).trans h.bits
 refine⟨⟨h.low,h.dJ,?_,?_,?_⟩,⟨⟨g1,g2,g3,by rw[World.size_setCell];exact g4,fun k hk hn=> ?_⟩,p.own⟩⟩
 ·rw[heap_setCell_same w' r 0 _ _ _ hr];rfl
 ·refine CE ho fun k hk=>heap_setCell_other w' _ k _ fun e=> ?_
  have e2:k=r:=e
  obtain⟨cur,h1⟩:=ED ho hk
  rw[e2,hr]at h1
  injection h1 with h1
  injection h1 with _ h1
  exact absurd h1 (by decide)
 ·exact(heap_setCell_other w' _ g _ (fun e=>h.rg e.symm)).trans hg
 rw[heap_setCell_other w' _ k _ (fun e=>hn (Or.inl e)),g5 k hk (fun q=>hn (Or.inr (Or.inr q.symm)))]
theorem Dt.set (h:Dt base w r v g n M f) (i:Nat) (b:Bool):Dt base (w.setCell ⟨g,i,none⟩ (.bool b)) r v g n M (fun j=>if j=i then b else f j)/\EM r g v v w (w.setCell ⟨g,i,none⟩ (.bool b)):=by
 refine⟨⟨h.low,h.dJ,(heap_setCell_other w _ r _ h.rg).trans h.box,CE h.own fun k hk=>heap_setCell_other w _ k _ fun e=> ?_,h.bits.put b⟩,⟨AP.setCell _ (Or.inr (Or.inl rfl)),fun _ q=>Or.inl q⟩⟩
 have e2:k=g:=e
 subst e2
 exact h.gv hk
theorem Dt.is {f':Nat->Bool} (h:Dt base w r v g n M f) (e: ∀i,i<n->f i=f' i):Dt base w r v g n M f':=⟨h.low,h.dJ,h.box,h.own,h.bits.is e⟩
end
end Fg
namespace Fg
open Strs Al Range
open Bv (AL)
open BR (Text steps put takes)
open EH (CZ D8 CS Bd)
open W14 (AZ Bi BL AO)
open Kit (below_draws on CG)
theorem Qw {w:World} {base n:Nat} (hb:base<=w.heap.size) (hn:n<=1000000):Calls Tryz.prog 113 #[.int .i64 n] w fun e w'=> ∃r g,e= .returned (.pointer (some ⟨r,0,none⟩))/\Gx base w' r (.slice none 0 0) g n []/\w.heap.size<=r/\w.heap.size<=g/\Below w.heap.size w w':=by
 have hmk:=UL w hn
 go_enter Tryz.func113,Tryz.ntmps113
 go_wp2_with fail
 go_ret
 have h1:=XO w n fun _=>false
 refine⟨_,_,rfl,⟨?_,hb,(by have:=heap_alloc_new (w.alloc (.cells (Ir n fun _=>false) 4)) (.cells (uo (.slice none 0 0) w.heap.size n) 129);rwa[World.size_alloc]at this),World.ownsRow_nil _ _ _ _,(h1.below (AZ _ _)).is fun i _=>by simp[steps]⟩,?_,Nat.le_refl _,on (AZ _ _) (AZ _ _)⟩
 ·omega
 simp
theorem KQ {x:AL} (hx:x.kind=1->x.text.size=1) (c:UInt8) (w:World):Calls Tryz.prog 115 #[.agg (D8 x),.int .u8 c.toNat] w fun e w'=>e= .returned (.bool (takes x c))/\Below w.heap.size w w':=by
 obtain⟨k,t,a,b⟩:=x
 simp only at hx
 have hH:=hid (FD.Md t c)
 have hT:Hid (takes ⟨k,t,a,b⟩ c=if k=1 then decide (t.data.toList.head? =some c)else if k=2 then decide (c≠10)else if k=3 then Ew.has t.data.toList c.toNat else false):=rfl
 obtain⟨R,hR⟩: ∃R,takes ⟨k,t,a,b⟩ c=R:=⟨_,rfl⟩
 rw[hR]at hT ⊢
 clear hR
 by_cases h1:k=1
 ·subst h1
  have hz:=hx rfl
  have h0:0<t.size:=by omega
  have he:((t[0].toNat:Int)==(c.toNat:Int))=R:=by
   rw[hT.out,if_pos rfl,Kit.Bh h0,CG]
   simp
  have hz2:(0:Int)<(t.size:Int):=by omega
  clear hT hx hz
  go_enter Tryz.func115,Tryz.ntmps115
  go_wp2_with (first|(refine Bd (r:=⟨1,t,a,b⟩) rfl (.tmp 0) rfl rfl ?_;intro w1 b1 e1 p1 l1 z1;have c0:=p1.c0;have c1:=p1.c1;have L1:=hid l1;clear e1 p1 l1 z1))
  go_ret
  exact⟨rfl,L1.out⟩
 have t1:(k==1)=false:=by simpa using h1
 rw[if_neg h1]at hT
 by_cases h2:k=2
 ·subst h2
  rw[if_pos rfl]at hT
  have he:((c.toNat:Int) !=10)=R:=by
   rw[hT.out]
   have:=CG c 10
   rw[show(((10:UInt8).toNat:Nat):Int)=10 from rfl]at this
   simp[bne,this]
  clear hT hx
  go_enter Tryz.func115,Tryz.ntmps115
  go_wp2_with (first|(refine Bd (r:=⟨2,t,a,b⟩) rfl (.tmp 0) rfl rfl ?_;intro w1 b1 e1 p1 l1 z1;have c0:=p1.c0;have c1:=p1.c1;have L1:=hid l1;clear e1 p1 l1 z1))
  go_ret
  exact⟨rfl,L1.out⟩
 have t2:(k==2)=false:=by simpa using h2
 rw[if_neg h2]at hT
 by_cases h3:k=3
 ·subst h3
  rw[if_pos rfl]at hT
  rw[<-hT.out]at hH
  clear hT hx
  go_enter Tryz.func115,Tryz.ntmps115
  go_wp2_with (first|(refine Bd (r:=⟨3,t,a,b⟩) rfl (.tmp 0) rfl rfl ?_;intro w1 b1 e1 p1 l1 z1;have c0:=p1.c0;have c1:=p1.c1;have L1:=hid l1;clear e1 p1 l1 z1))
  refine(hH.out _).mono ?_
  rintro e w2 ⟨rfl,rfl⟩
  go_wp2_with fail
  go_ret
  exact⟨rfl,L1.out⟩
 have t3:(k==3)=false:=by simpa using h3
 rw[if_neg h3]at hT
 have hRf:=hT.out
 clear hT hx
 subst hRf
 go_enter Tryz.func115,Tryz.ntmps115
 go_wp2_with (first|(refine Bd (r:=⟨k,t,a,b⟩) rfl (.tmp 0) rfl rfl ?_;intro w1 b1 e1 p1 l1 z1;have c0:=p1.c0;have c1:=p1.c1;have L1:=hid l1;clear e1 p1 l1 z1))
 go_ret
 exact⟨rfl,L1.out⟩
end Fg
namespace Fg
open Strs Al Range
open BR (Text steps put Mi Mj)
open EH (ED CE)
open W14 (AZ Bi BL AO)
open Kit (below_draws on)
theorem KR {base:Nat} {w:World} {r g n:Nat} {v:Value} {M:List BR.Mark} (h:Gx base w r v g n M) (m:BR.Mark) (hm:m.1<n) (hl:M.length<1000000):Calls Tryz.prog 140 #[.pointer (some ⟨r,0,none⟩),.agg (FM m)] w fun e w'=>e= .returned (.tuple #[])/\ ∃v',Gx base w' r v' g n (put M m)/\EM r g v v' w w':=by
 have H:=hid h
 have hm1:(m.1:Int)<(n:Int):=by omega
 have HB:=hid hl
 have HN:=hid hm
 by_cases c:m.1∈steps M
 ·rw[Mi c]
  have HD:Hid (decide (m.1∈steps M)=true):=by unfold Hid;simpa using c
  clear h hm hl c
  go_enter Tryz.func140,Tryz.ntmps140
  go_wp2_with (first|(refine Qv (r:=m) rfl (.tmp 1) rfl rfl ?_;intro w1 b1 e1 p1 l1 z1;have a0:=p1.c0;have L1:=hid l1;have R1:=hid (H.out.below l1);have a1:=R1.out.c1;have a2:w1.cell? ⟨g,m.1,none⟩=some (.bool true):=by {have:=R1.out.bits.cell HN.out;rw[HD.out]at this;exact this};clear e1 p1 l1 z1))
  go_quiet (fail)
  go_wp2_with fail
  go_end0
  exact⟨rfl,v,R1.out.below (below_draws w1 _),(EM.of L1.out).trans (EM.of (below_draws w1 _))⟩
 rw[Mj c]
 have HD:Hid (decide (m.1∈steps M)=false):=by unfold Hid;simpa using c
 have HC:=hid c
 clear h hm hl c
 go_enter Tryz.func140,Tryz.ntmps140
 go_wp2_with (first|(refine Qv (r:=m) rfl (.tmp 1) rfl rfl ?_;intro w1 b1 e1 p1 l1 z1;have a0:=p1.c0;have L1:=hid l1;have R1:=hid (H.out.below l1);have a1:=R1.out.c1;have a2:w1.cell? ⟨g,m.1,none⟩=some (.bool false):=by {have:=R1.out.bits.cell HN.out;rw[HD.out]at this;exact this};have a3:=R1.out.bits.free m.1;have P1:=hid p1;have HB0:=hid e1;clear e1 p1 l1 z1))
 have NB:Hid (v.ownBlock≠some b1):=by unfold Hid;intro q;have:=(H.out.own.lt b1 q).2;have:=HB0.out;omega
 go_quiet (fail)
 go_wp2_with fail
 go_region
 have r2:=(R1.out.below (below_draws w1 (nq+1))).set m.1 true
 have m2:Gb ((w1.drewN (nq+1)).setCell ⟨g,m.1,none⟩ (.bool true)) b1 m:=(P1.out.below (below_draws w1 (nq+1))).same (heap_setCell_other _ _ _ _ fun e=>by
  have e2:b1=g:=e
  subst e2
  exact absurd (aj P1.out R1.out.bits) (by decide))
 have G2:=hid (((EM.of L1.out).trans (EM.of (below_draws w1 (nq+1)))).trans r2.2)
 have r3:=r2.1
 clear r2 a0 a1 a2 a3 hm1
 go_wp2_with fail
 generalize ((w1.drewN (nq+1)).setCell ⟨g,m.1,none⟩ (.bool true))=w5 at r3 m2 G2 ⊢
 have R5:=hid (r3.below (below_draws w5 1))
 have M5:=hid (m2.below (below_draws w5 1))
 have G5:=hid (G2.out.trans (EM.of (below_draws w5 1)))
 have HB1:Hid (b1≠r):=by unfold Hid;have:=H.out.lt;have:=HB0.out;omega
 have a5:w5.drew.cell? ⟨r,0,none⟩=some v:=R5.out.c0
 clear r3 m2
 refine wp_region_held_drew (S:=fun w'=>Gb w' b1 m) (by kernel_rfl) M5.out (fun hHeld=> ?_)
 refine Take.k 0 ⟨some 20,.move (.tmp 0),_,_,_,none⟩ ?_
 refine Take.k 1 ⟨some 21,.move (.tmp 0),_,_,_,none⟩ ?_
 refine Take.k 2 ⟨some 22,.nilCheck (.tmp 21),_,_,_,none⟩ ?_
 refine Take.k 3 ⟨some 23,.fieldAddr 129 (.tmp 22) 0,_,_,_,none⟩ ?_
 refine Take.k 5 ⟨some 25,.load 132 (.tmp 3),_,_,_,none⟩ ?_ (hy:=Or.inl ⟨by rfl,by(intro w hSw;(try dsimp only at hSw);refine Ko (.tmp 3) ?_ ?_ hSw.cells<;>rfl)⟩)
 refine wpAnyH_ready (rs:= [4,6]) (by kernel_rfl) (by simp) ?_
 refine AllReadyH.cons (o:=⟨some 24,.load 127 (.tmp 23),_,_,_,none⟩) rfl (fun K hK=> ?_) (AllReadyH.cons (o:=⟨some 26,.buildSlice 127 1 #[(0,.tmp 25)],_,_,_,none⟩) rfl (fun K hK=> ?_) AllReadyH.nil)
 ·go_simp
  skip
  go_wp2_with fail
  refine hK.out _ _ ?_ (fun hHeld=> ?_)
  ·exact M5.out
  clear hK K
  try simp only[Act.put,Take.a,Take.b,Take.c]
  refine wpAnyH_ready (rs:= [6]) (by kernel_rfl) (by simp) ?_
  refine AllReadyH.cons (o:=⟨some 26,.buildSlice 127 1 #[(0,.tmp 25)],_,_,_,none⟩) rfl (fun K hK=> ?_) AllReadyH.nil
  rw[if_pos (by rfl)]
  (refine Kn (r:=m) (.tmp 25) rfl rfl ?_;intro w6 b6 e6 p6 l6 z6 o6;have P6:=hid p6;have L6:=hid l6;clear e6 p6 l6 z6 o6;have R6:=hid (R5.out.below L6.out);have M6:=hid (M5.out.below L6.out);have a6:=R6.out.c0)
  refine hK.out _ _ ?_ (fun hHeld=> ?_)
  ·exact M6.out
  clear hK K
  try simp only[Act.put,Take.a,Take.b,Take.c]
  refine wpAnyH_ready (rs:= [7]) (by kernel_rfl) (by simp) ?_
  refine AllReadyH.cons (o:=⟨some 27,.call ⟨.builtin .append, #[.tmp 24,.tmp 26], #[127,127]⟩,_,_,_,none⟩) rfl (fun K hK=> ?_) AllReadyH.nil
  rw[if_pos (by rfl)]
  (refine Jy (.tmp 24) (.tmp 26) rfl rfl rfl R6.out.own P6.out (by simp only[List.length_cons,List.length_nil];have:=HB.out;omega) (Nat.le_trans R6.out.low (Nat.le_of_lt R6.out.lt)) ?_;intro v7 w7 o7 p7;obtain⟨g7,c7,rfl,-,-,-,-⟩:=BL o7 (by simp);have O7:=hid p7;have N7:=hid o7;have R7:=hid (R6.out.JL p7);have M7:=hid (XP p7 M6.out NB.out);clear o7 p7;obtain⟨q7,VK⟩: ∃q7,(M++ [m]).length=q7:=⟨_,rfl⟩;have HQ:=hid VK;rw[VK];clear VK;have f7:=R7.out.2;have d7:=R7.out.1)
  refine hK.out _ _ ?_ (fun hHeld=> ?_)
  ·exact M7.out
  clear hK K
  try simp only[Act.put,Take.a,Take.b,Take.c]
  refine Take.k 8 ⟨some 28,.nilCheck (.tmp 20),_,_,_,none⟩ ?_
  refine Take.k 9 ⟨some 29,.fieldAddr 129 (.tmp 28) 0,_,_,_,none⟩ ?_
  refine wpAnyH_ready (rs:= [10]) (by kernel_rfl) (by simp) ?_
  refine AllReadyH.cons (o:=⟨none,.store 127 (.tmp 29) (.tmp 27),_,_,_,none⟩) rfl (fun K hK=> ?_) AllReadyH.nil
  go_simp
  skip
  go_wp2_with fail
  refine hK.out _ _ ?_ (fun hHeld=> ?_)
  ·exact M7.out.same (heap_setCell_other w7 _ _ _ (fun e=>HB1.out e))
  clear hK K
  try simp only[Act.put,Take.a,Take.b,Take.c]
  refine wpAnyH_done (by kernel_rfl) ?_ _
  go_wp2_with fail
  go_end0
  have h9:=R6.out.more N7.out O7.out
  rw[HQ.out]at h9
  refine⟨rfl,_,h9.1.is fun i hi=> ?_,(G5.out.trans (EM.of L6.out)).trans h9.2⟩
  unfold steps
  rw[List.map_append]
  by_cases e:i=m.1
  ·subst e;simp
  simp[e]
 rw[if_pos (by rfl)]
 (refine Kn (r:=m) (.tmp 25) rfl rfl ?_;intro w6 b6 e6 p6 l6 z6 o6;have P6:=hid p6;have L6:=hid l6;clear e6 p6 l6 z6 o6;have R6:=hid (R5.out.below L6.out);have M6:=hid (M5.out.below L6.out);have a6:=R6.out.c0)
 refine hK.out _ _ ?_ (fun hHeld=> ?_)
 ·exact M6.out
 clear hK K
 try simp only[Act.put,Take.a,Take.b,Take.c]
 refine wpAnyH_ready (rs:= [4]) (by kernel_rfl) (by simp) ?_
 refine AllReadyH.cons (o:=⟨some 24,.load 127 (.tmp 23),_,_,_,none⟩) rfl (fun K hK=> ?_) AllReadyH.nil
 go_simp
 skip
 go_wp2_with fail
 refine hK.out _ _ ?_ (fun hHeld=> ?_)
 ·exact M6.out
 clear hK K
 try simp only[Act.put,Take.a,Take.b,Take.c]
 refine wpAnyH_ready (rs:= [7]) (by kernel_rfl) (by simp) ?_
 refine AllReadyH.cons (o:=⟨some 27,.call ⟨.builtin .append, #[.tmp 24,.tmp 26], #[127,127]⟩,_,_,_,none⟩) rfl (fun K hK=> ?_) AllReadyH.nil
 rw[if_pos (by rfl)]
 (refine Jy (.tmp 24) (.tmp 26) rfl rfl rfl R6.out.own P6.out (by simp only[List.length_cons,List.length_nil];have:=HB.out;omega) (Nat.le_trans R6.out.low (Nat.le_of_lt R6.out.lt)) ?_;intro v7 w7 o7 p7;obtain⟨g7,c7,rfl,-,-,-,-⟩:=BL o7 (by simp);have O7:=hid p7;have N7:=hid o7;have R7:=hid (R6.out.JL p7);have M7:=hid (XP p7 M6.out NB.out);clear o7 p7;obtain⟨q7,VK⟩: ∃q7,(M++ [m]).length=q7:=⟨_,rfl⟩;have HQ:=hid VK;rw[VK];clear VK;have f7:=R7.out.2;have d7:=R7.out.1)
 refine hK.out _ _ ?_ (fun hHeld=> ?_)
 ·exact M7.out
 clear hK K
 try simp only[Act.put,Take.a,Take.b,Take.c]
 refine Take.k 8 ⟨some 28,.nilCheck (.tmp 20),_,_,_,none⟩ ?_
 refine Take.k 9 ⟨some 29,.fieldAddr 129 (.tmp 28) 0,_,_,_,none⟩ ?_
 refine wpAnyH_ready (rs:= [10]) (by kernel_rfl) (by simp) ?_
 refine AllReadyH.cons (o:=⟨none,.store 127 (.tmp 29) (.tmp 27),_,_,_,none⟩) rfl (fun K hK=> ?_) AllReadyH.nil
 go_simp
 skip
 go_wp2_with fail
 refine hK.out _ _ ?_ (fun hHeld=> ?_)
 ·exact M7.out.same (heap_setCell_other w7 _ _ _ (fun e=>HB1.out e))
 clear hK K
 try simp only[Act.put,Take.a,Take.b,Take.c]
 refine wpAnyH_done (by kernel_rfl) ?_ _
 go_wp2_with fail
 go_end0
 have h9:=R6.out.more N7.out O7.out
 rw[HQ.out]at h9
 refine⟨rfl,_,h9.1.is fun i hi=> ?_,(G5.out.trans (EM.of L6.out)).trans h9.2⟩
 unfold steps
 rw[List.map_append]
 by_cases e:i=m.1
 ·subst e;simp
 simp[e]
end Fg
end Go.Proofs.YtfgegjinhkgpbaaGreatDoor
