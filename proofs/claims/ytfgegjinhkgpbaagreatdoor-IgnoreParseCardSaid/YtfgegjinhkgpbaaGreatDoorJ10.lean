/-
  Texts joined, in build order, each with its own comment and its own conditions: W15In, W15Gen, W13Ref, W15Goes, W15RefRight.
-/
import Derived.Test.YtfgegjinhkgpbaaGreatDoorJ03
import Derived.Test.YtfgegjinhkgpbaaGreatDoorJ07
import Derived.Deep.OwnRows
import Derived.Test.YtfgegjinhkgpbaaGreatDoorJ08
import Derived.Deep.LoopGhost
import Derived.Deep.RegionHeld3
import Derived.BigQuiet
namespace Go.Proofs.YtfgegjinhkgpbaaGreatDoor
set_option maxHeartbeats 4000000
set_option maxRecDepth 100000
open Go.RowKit
open Lib (hid)
namespace Bv
open Go Cj
structure Inside (lo hi:Nat) (x:AL):Prop where
 x1:(lo:Int)<=x.x
 x2:x.x<=(hi:Int)
 y1:x.kind=6->(lo:Int)<=x.y/\x.y<=(hi:Int)
 y2:x.kind≠6->x.y=0
 k:1<=x.kind/\x.kind<=8/\x.kind≠7
theorem Inside.wider {lo hi lo' hi':Nat} {x:AL} (h:Inside lo hi x) (h1:lo'<=lo) (h2:hi<=hi'):Inside lo' hi' x:=
 ⟨by have:=h.x1;omega,by have:=h.x2;omega,fun q=>by have:=h.y1 q;omega,h.y2,h.k⟩
theorem JM {lo hi x y:Nat} (h1:lo<=x/\x<=hi) (h2:lo<=y/\y<=hi):Inside lo hi (split x y):=by
 refine⟨?_,?_,fun _=> ?_,fun q=>absurd rfl q,?_⟩<;>simp only[split]<;>omega
theorem Oo {lo hi x:Nat} (h1:lo<=x/\x<=hi):Inside lo hi (jump x):=by
 refine⟨?_,?_,fun q=> ?_,fun _=>rfl,?_⟩
 ·simp only[jump];omega
 ·simp only[jump];omega
 ·simp[jump]at q
 simp only[jump];omega
theorem ZF {lo hi a:Nat} {k:Int} (t:ByteArray) (h1:lo<=a+1/\a+1<=hi) (hk:1<=k/\k<=5):Inside lo hi (one k t a):=by
 refine⟨?_,?_,fun q=> ?_,fun _=>rfl,?_⟩
 ·simp only[one];omega
 ·simp only[one];omega
 ·simp only[one]at q;omega
 simp only[one];omega
theorem Qx {f:Nat->List AL} {K:Nat} (hl: ∀a,(f a).length=K) (hf: ∀a x,x∈f a->Inside a (a+K) x) {lo hi:Nat}: ∀(n a:Nat),lo<=a->a+n*K<=hi-> ∀x,x∈times f n a->Inside lo hi x
 |0,a,_,_,x,hx=>by simp[times]at hx
 |n+1,a,h1,h2,x,hx=>by
  rw[Nat.succ_mul]at h2
  rw[times]at hx
  rcases List.mem_append.1 hx with hx|hx
  ·exact(hf a x hx).wider h1 (by omega)
  rw[hl]at hx
  exact Qx hl hf n (a+K) (by omega) (by omega) x hx
theorem XQ {f:Nat->List AL} {K:Nat} (hl: ∀a,(f a).length=K) (hf: ∀a x,x∈f a->Inside a (a+K) x) {lo hi e:Nat} (he:lo<=e/\e<=hi): ∀(n a:Nat),lo<=a->a+n*(K+1)<=hi-> ∀x,x∈maybe f e n a->Inside lo hi x
 |0,a,_,_,x,hx=>by simp[maybe]at hx
 |n+1,a,h1,h2,x,hx=>by
  rw[Nat.succ_mul]at h2
  rw[maybe]at hx
  rcases List.mem_cons.1 hx with rfl|hx
  ·exact JM ⟨by omega,by omega⟩ he
  rcases List.mem_append.1 hx with hx|hx
  ·exact(hf (a+1) x hx).wider (by omega) (by omega)
  rw[hl]at hx
  exact XQ hl hf he n (a+1+K) (by omega) (by omega) x hx
theorem oD {f:Nat->List AL} {K:Nat} (hf: ∀a x,x∈f a->Inside a (a+K) x) {lo hi e a:Nat} (he:lo<=e/\e<=hi) (h1:lo<=a) (h2:a+K+2<=hi): ∀x,x∈star f e a->Inside lo hi x:=by
 intro x hx
 rw[star]at hx
 rcases List.mem_cons.1 hx with rfl|hx
 ·exact JM ⟨by omega,by omega⟩ he
 rcases List.mem_append.1 hx with hx|hx
 ·exact(hf (a+1) x hx).wider (by omega) (by omega)
 rw[List.mem_singleton.1 hx]
 exact Oo ⟨by omega,by omega⟩
theorem ak {lo hi:Nat}: ∀ {ks:List Piece},(∀p,p∈ks-> ∀a x,x∈steps p a->Inside a (a+size p) x)-> ∀a,lo<=a->a+sizes ks<=hi-> ∀x,x∈Dw ks a->Inside lo hi x
 | [],_,a,_,_,x,hx=>by simp[Dw]at hx
 |p::l,h,a,h1,h2,x,hx=>by
  rw[show sizes (p::l)=size p+sizes l by simp only[sizes]]at h2
  rw[Dw]at hx
  rcases List.mem_append.1 hx with hx|hx
  ·exact(h p (by simp) a x hx).wider h1 (by omega)
  exact ak (fun q hq=>h q (by simp[hq])) (a+size p) (by omega) (by omega) x hx
theorem au {lo hi e:Nat} (he:lo<=e/\e<=hi): ∀ {ks:List Piece},(∀p,p∈ks-> ∀a x,x∈steps p a->Inside a (a+size p) x)-> ∀a,lo<=a->a+sizes ks+2*(ks.length-1)<=hi-> ∀x,x∈alts ks a e->Inside lo hi x
 | [],_,a,_,_,x,hx=>by simp[alts]at hx
 | [p],h,a,h1,h2,x,hx=>by
  rw[LD]at hx
  rw[show sizes [p]=size p by simp only[sizes,Nat.add_zero]]at h2
  exact(h p (by simp) a x hx).wider h1 (by omega)
 |p::q::l,h,a,h1,h2,x,hx=>by
  rw[show sizes (p::q::l)=size p+sizes (q::l) by simp only[sizes]]at h2
  simp only[List.length_cons]at h2
  rw[LF]at hx
  rcases List.mem_cons.1 hx with rfl|hx
  ·exact JM ⟨by omega,by omega⟩ ⟨by omega,by omega⟩
  rcases List.mem_append.1 hx with hx|hx
  ·exact(h p (by simp) (a+1) x hx).wider (by omega) (by omega)
  rcases List.mem_cons.1 hx with rfl|hx
  ·exact Oo he
  exact au he (ks:=q::l) (fun r hr=>h r (by simp at hr;simp[hr])) (a+size p+2) (by omega) (by simp only[List.length_cons];omega) x hx
theorem Qy {p:Piece} (h:Good p):size p<=4000-> ∀a x,x∈steps p a->Inside a (a+size p) x:=by
 induction h with
 |leaf k t h=>
  intro _ a x hx
  rw[Gp h]at hx
  rw[VA h]
  by_cases c:k=1
  ·rw[if_pos c]at hx;simp at hx
  rw[if_neg c]at hx
  rw[if_neg c,List.mem_singleton.1 hx]
  exact ZF _ ⟨by omega,by omega⟩ (by omega)
 |many k hk ks h2 hw ih=>
  intro hs a x hx
  rcases hk with rfl|rfl
  ·rw[MR]at hx
   rw[QR]at hs ⊢
   exact ak (fun p hp=>ih p hp (by have:=EP hp;omega)) a (Nat.le_refl _) (by omega) x hx
  rw[MS]at hx
  rw[QS]at hs hx ⊢
  exact au ⟨by omega,by omega⟩ (fun p hp=>ih p hp (by have:=EP hp;omega)) a (Nat.le_refl _) (by omega) x hx
 |rep p m t hm ht hw ih=>
  intro hs a x hx
  rw[MU]at hx
  by_cases hu:0<m\/t= -1\/m<t
  ·have hk:=MQ hs hu hm.1
   have hl:=Ba hw hk
   have hf:=ih hk
   have hz:=II no p m t
   obtain⟨E,hE⟩: ∃E,size (.mk 9 no [p] m t)=E:=⟨_,rfl⟩
   rw[hE]at hs hx hz ⊢
   unfold LC at hx
   rw[Cv hl]at hx
   by_cases c:t= -1
   ·rw[if_pos c]at hx hz
    rcases List.mem_append.1 hx with hx|hx
    ·exact Qx hl hf m.toNat a (Nat.le_refl _) (by omega) x hx
    exact oD hf ⟨by omega,by omega⟩ (by omega) (by omega) x hx
   rw[if_neg c]at hx hz
   rcases List.mem_append.1 hx with hx|hx
   ·exact Qx hl hf m.toNat a (Nat.le_refl _) (by omega) x hx
   exact XQ hl hf ⟨by omega,by omega⟩ _ _ (by omega) (by omega) x hx
  have hm0:m=0:=by omega
  have ht0:t=0:=by omega
  subst hm0 ht0
  unfold LC at hx
  simp[times,maybe]at hx
end Bv
namespace Bv
open Go Cj
open Ew (good)
def ZG (t:ByteArray) (n:Nat) (m tp:Int):Bool:=decide (n=1)&&decide (t.size=0)&&decide (0<=m)&&decide (m<=100)&&decide (tp<=100)&&(decide (tp= -1)||decide (m<=tp))
def own (k:Int) (t:ByteArray) (n:Nat) (m tp:Int):Bool:=
 if k=9 then ZG t n m tp
 else decide (m=0)&&(decide (tp=0)&&(if k=7\/k=8 then decide (1<n)&&decide (t.size=0)
  else decide (n=0)&&(if k=2 then decide (t.size=1)else if k=4 then good t.data.toList else decide (t.size=0)&&decide (k=1\/k=3\/k=5\/k=6))))
mutual
def Dh:Piece->Bool
 | .mk k t ks m tp=>Mm ks&&own k t ks.length m tp
def Mm:List Piece->Bool
 | []=>true
 |p::l=>Dh p&&Mm l
end
theorem Oq: ∀l:List Piece,Mm l=l.all Dh
 | []=>by simp[Mm]
 |p::l=>by rw[Mm,Oq l,List.all_cons]
theorem FC (k:Int) (t:ByteArray) (ks:List Piece) (m tp:Int):Dh (.mk k t ks m tp)=(ks.all Dh&&own k t ks.length m tp):=by
 rw[Dh,Oq]
theorem jA {t:ByteArray} {n:Nat} {m tp:Int} (h:ZG t n m tp=true):n=1/\t.size=0/\(0<=m/\m<=100)/\(tp= -1\/m<=tp/\tp<=100):=by
 unfold ZG at h
 simp only[Bool.and_eq_true,Bool.or_eq_true,decide_eq_true_eq]at h
 obtain⟨⟨⟨⟨⟨h1,h2⟩,h3⟩,h4⟩,h5⟩,h6⟩:=h
 exact⟨h1,h2,⟨h3,h4⟩,by omega⟩
theorem jB {t:ByteArray} (h:t.size=0):t=no:=by
 have h1:t.data.size=0:=h
 obtain⟨d⟩:=t
 rw[show d= #[]from Array.eq_empty_of_size_eq_zero h1]
 rfl
theorem Pg {p:Piece}:Dh p=true->Good p:=by
 induction p using ind with
 |h k t ks m tp ih=>
  intro h
  rw[FC,Bool.and_eq_true]at h
  obtain⟨h1,h2⟩:=h
  have hk: ∀p,p∈ks->Good p:=fun p hp=>ih p hp (List.all_eq_true.1 h1 p hp)
  unfold own at h2
  by_cases c9:k=9
  ·rw[if_pos c9]at h2
   obtain⟨a1,a2,a3,a4⟩:=jA h2
   subst c9
   obtain⟨p,rfl⟩: ∃p,ks= [p]:=List.length_eq_one_iff.1 a1
   rw[jB a2]
   exact .rep p m tp a3 a4 (hk p (by simp))
  rw[if_neg c9]at h2
  simp only[Bool.and_eq_true,decide_eq_true_eq]at h2
  obtain⟨rfl,rfl,h2⟩:=h2
  by_cases c7:k=7\/k=8
  ·rw[if_pos c7]at h2
   simp only[Bool.and_eq_true,decide_eq_true_eq]at h2
   rw[jB h2.2]
   exact .many k c7 ks (by omega) hk
  rw[if_neg c7]at h2
  simp only[Bool.and_eq_true,decide_eq_true_eq]at h2
  obtain⟨h3,h4⟩:=h2
  have h5:ks= []:=List.length_eq_zero_iff.1 h3
  subst h5
  by_cases c2:k=2
  ·exact .leaf k t (by omega)
  rw[if_neg c2]at h4
  by_cases c4:k=4
  ·exact .leaf k t (by omega)
  rw[if_neg c4]at h4
  simp only[Bool.and_eq_true,decide_eq_true_eq]at h4
  exact .leaf k t (by omega)
theorem JN {p:Piece} (h:Whole p):Dh p=true:=by
 induction h with
 |none k hk=>
  unfold leaf
  rw[FC]
  simp only[List.all_nil,Bool.true_and]
  unfold own
  rw[if_neg (by omega),if_neg (by omega),if_neg (by omega),if_neg (by omega)]
  have:(⟨#[]⟩:ByteArray).size=0:=rfl
  rw[decide_eq_true this,decide_eq_true hk];rfl
 |char c=>
  unfold leaf
  rw[FC]
  rfl
 |set f=>
  unfold leaf
  rw[FC]
  simp only[List.all_nil,Bool.true_and]
  unfold own
  rw[if_neg (by omega),if_neg (by omega),if_neg (by omega),if_pos rfl]
  have:good (txt f).data.toList=true:=Ew.Jn f
  simp[this]
 |many k hk l h2 h3 hw ih=>
  rw[FC,List.all_eq_true.2 (fun p hp=>ih p hp)]
  unfold own
  rw[if_neg (by omega),if_pos hk]
  have:(⟨#[]⟩:ByteArray).size=0:=rfl
  rw[decide_eq_true this,decide_eq_true (show 1<l.length by omega)];rfl
 |rep p m t hm ht hw ih=>
  rw[FC]
  have: [p].all Dh=true:=by simp[ih]
  rw[this]
  unfold own ZG
  have h0:(⟨#[]⟩:ByteArray).size=0:=rfl
  have h1: [p].length=1:=rfl
  rw[if_pos rfl,decide_eq_true h0,decide_eq_true h1,decide_eq_true hm.1,decide_eq_true hm.2,decide_eq_true (show t<=100 by omega)]
  by_cases q:t= -1
  ·rw[decide_eq_true q];rfl
  rw[decide_eq_false q,decide_eq_true (show m<=t by omega)];rfl
end Bv
namespace FD
open Ew BU
open Kit (Au AX BO CL Ae BM below_draws on EY CF)
theorem jC:(Tryz.prog.info? 4).map (fun i=>(i.zero,i.size,i.bytes))=some (some (Value.bool false),1,1):=by kernel_rfl
theorem Jz {w:World} {b:Nat} {t:TypeId} {f:Nat->Bool} (h:Row w b t (bv f)):
    Calls Tryz.prog 152 #[.slice (some ⟨b,0,none⟩) 256 256] w fun e w'=>e= .returned (.string (tx f))/\w'=w:=by
 have HC:=hid h
 clear h
 go_enter Tryz.func152,Tryz.ntmps152
 go_wp2_with fail
 go_loopg [3,4] 256 (fun g s3 s4 wr=> ∃(i:Nat) (d:ByteArray),s3= .string d/\s4= .int .i64 i/\i+g=256/\Hid (d.data.toList=(List.range i).map fun j=>bit (f j))/\wr=w)
 case atStart=>exact⟨0,⟨#[]⟩,rfl,rfl,rfl,rfl,rfl⟩
 case round=>
  obtain⟨i,d,rfl,rfl,hig,hd,rfl⟩:=hrel
  cases gk with
  |zero=>
   obtain rfl:i=256:=by omega
   go_wp2_with fail
   go_ret
   exact⟨Au (BM hd.out),rfl⟩
  |succ g=>
   have hi3:(i:Int)<256:=by omega
   have hcell:wr.cell? ⟨b,i,none⟩=some (.bool (f i)):=HC.out.cell (i:=i) (by omega)
   have hstep: ∀u:UInt8,u=bit (f i)->Hid ((d++⟨#[u]⟩).data.toList=(List.range (i+1)).map fun j=>bit (f j)):=by
    intro u hu
    unfold Hid
    rw[CF,hd.out,List.range_succ,List.map_append,hu];rfl
   have HS:=hid hstep
   clear hstep
   have hdz:d.size=i:=by rw[Lib.size_eq,hd.out,List.length_map,List.length_range]
   have hn: ¬9223372036854775807<d.size+1:=by omega
   clear hdz
   cases hf:f i with
   |true=>
    rw[hf]at hcell
    go_wp2_with fail
    go_roundg g
    case measure=>omega
    case rel=>exact⟨i+1,_,rfl,by first|rfl|simp,by omega,HS.out 49 (by rw[hf];rfl),rfl⟩
   |false=>
    rw[hf]at hcell
    go_wp2_with fail
    go_roundg g
    case measure=>omega
    case rel=>exact⟨i+1,_,rfl,by first|rfl|simp,by omega,HS.out 48 (by rw[hf];rfl),rfl⟩
theorem jD (v:Value):madeCells #[v] 256=BZ fun _=>v:=by
 refine Qa (size_madeCells _ _) fun j hj=> ?_
 simp[madeCells,hj,Nat.mod_one]
theorem Qz (w:World):(Instr.makeSlice 82 (.int .i64 256) (.int .i64 256)).run Tryz.prog w= .ok (.slice (some ⟨w.heap.size,0,none⟩) 256 256) (w.alloc (.cells (BZ (bv fun _=>false)) 4)):=by
 have h:=run_make_row' (P:=Tryz.prog) 82 4 (.bool false) 1 Tryz.underlying82 jC rfl .i64 .i64 256 (by omega) (by omega) w
 rw[jD]at h
 exact h
theorem Np (w:World):Row (w.alloc (.cells (BZ (bv fun _=>false)) 4)) w.heap.size 4 (bv fun _=>false)/\Below w.heap.size w (w.alloc (.cells (BZ (bv fun _=>false)) 4)):=
 ⟨Row.new _ _ _,(Below.refl w.heap.size w).alloc (Nat.le_refl _) _⟩
theorem Ac (a c:Nat) (hc:c<256) (w:World):Calls Tryz.prog 165 #[.int .i64 a,.int .i64 c] w fun e w'=>e= .returned (.string (tx (between a c)))/\Below w.heap.size w w':=by
 have hmk:=Qz
 have HC:=hid hc
 clear hc
 go_enter Tryz.func165,Tryz.ntmps165
 go_wp2_with fail
 have HN:=hid (Np w)
 generalize (w.alloc (.cells (BZ (bv fun _=>false)) 4))=w1 at HN ⊢
 clear hmk
 go_loopg [6] (c+1-a) (fun g s6 wr=> ∃i:Nat,s6= .int .i64 i/\a<=i/\(i+g=c+1\/g=0/\c<i)/\Hid (Row wr w.heap.size 4 (bv fun j=>decide (a<=j)&&decide (j<i)&&decide (j<=c)))/\Hid (Below w.heap.size w wr))
 case atStart=>
  refine⟨a,rfl,Nat.le_refl _,by omega,HN.out.1.is fun j _=>Dk ?_,HN.out.2⟩
  have e:(decide (a<=j)&&decide (j<a))=false:=by simp
  rw[e,Bool.false_and]
 case round=>
  obtain⟨i,rfl,hai,hig,hr,hb⟩:=hrel
  cases gk with
  |zero=>
   have hi:c<i:=by omega
   have hi2: ¬((i:Int)<=(c:Int)):=by omega
   have HI:=hid hi
   clear hi hig
   go_wp2_with fail
   refine(Jz hr.out).mono ?_
   rintro e w2 ⟨rfl,rfl⟩
   go_wp2_with fail
   go_ret
   refine⟨congrArg (fun x=>Ending.returned (.string x)) (Em fun j _=> ?_),hb.out⟩
   unfold between
   by_cases e:j<=c
   ·have:=HI.out
    rw[decide_eq_true (show j<i by omega),Bool.and_true]
   rw[decide_eq_false e,Bool.and_false,Bool.and_false]
  |succ g=>
   have hi:i<=c:=by omega
   have hi2:(i:Int)<=(c:Int):=by omega
   have hi3:(i:Int)<256:=by have:=HC.out;omega
   have hcell:=hr.out.cell (i:=i) (by omega)
   have hfree:=hr.out.free i
   generalize hold:bv (fun j=>decide (a<=j)&&decide (j<i)&&decide (j<=c)) i=old at hcell
   clear hold
   go_wp2_with fail
   go_roundg g
   case measure=>omega
   case rel=>
    refine⟨i+1,by first|rfl|simp,by omega,by omega,(hr.out.put i (.bool true)).is fun j _=> ?_,hb.out.setCell (Nat.le_refl _) _⟩
    by_cases e:j=i
    ·subst e
     rw[if_pos rfl]
     refine(Dk (f:=fun _=>true) ?_)
     rw[decide_eq_true hai,decide_eq_true (show j<j+1 by omega),decide_eq_true hi];rfl
    rw[if_neg e]
    refine Dk ?_
    rw[show decide (j<i+1)=decide (j<i)from decide_eq_decide.2 (by omega)]
theorem oF (s:ByteArray) {i:Nat} (hi:i<s.size) (u:UInt8):((s[i].toNat:Int)==(u.toNat:Int))=decide (s[i]=u):=Kit.CG _ _
theorem Pg {s:ByteArray} (hs:s.size=256) (h: ∀j (hj:j<s.size),s[j]=48\/s[j]=49):good s.data.toList=true:=by
 unfold good
 rw[<-Lib.size_eq,decide_eq_true hs,Bool.true_and,List.all_eq_true]
 intro c hc
 obtain⟨j,hj,rfl⟩:=List.mem_iff_getElem.1 hc
 have:=h j (by rw[Lib.size_eq];exact hj)
 rcases this with e|e
 ·rw[show s.data.toList[j]=48 from e];rfl
 rw[show s.data.toList[j]=49 from e];rfl
theorem rR {s:ByteArray} {j:Nat} (hj:j<s.size) (h0: ¬s[j]=48) (h1: ¬s[j]=49):good s.data.toList=false:=by
 cases h:good s.data.toList with
 |false=>rfl
 |true=>
  exfalso
  unfold good at h
  have h2:=List.all_eq_true.1 (Bool.and_eq_true_iff.1 h).2 s[j] (List.getElem_mem _)
  rw[decide_eq_false h0,decide_eq_false h1]at h2
  cases h2
theorem oG {s:ByteArray} (hg:good s.data.toList=true) {i:Nat} (hi:i<s.size):((s[i].toNat:Int)==49)=has s.data.toList i:=by
 rw[MM hg,Kit.CO s i hi]
 exact oF s hi 49
theorem JO (s:ByteArray) (c:Nat) (w:World):Calls Tryz.prog 85 #[.string s,.int .i64 c] w fun e w'=>e= .returned (.bool (has s.data.toList c))/\w'=w:=by
 have h0: ¬((c:Int)<0):=by omega
 by_cases hs:s.size=256
 ·have hz:(((s.size:Nat):Int) !=256)=false:=by rw[hs];rfl
  by_cases hc:c<256
  ·have hc2: ¬(255<(c:Int)):=by omega
   have HS:=hid (And.intro hs hc)
   clear hs hc
   go_enter Tryz.func85,Tryz.ntmps85
   go_wp2_with fail
   go_loopg [5] 256 (fun g s5 wr=> ∃i:Nat,s5= .int .i64 i/\i+g=256/\Hid (∀j (hj:j<s.size),j<i->s[j]=48\/s[j]=49)/\wr=w)
   case atStart=>exact⟨0,rfl,rfl,fun j _ h=>absurd h (by omega),rfl⟩
   case round=>
    obtain⟨i,rfl,hig,hall,rfl⟩:=hrel
    cases gk with
    |zero=>
     obtain rfl:i=256:=by omega
     have hg:=Pg HS.out.1 (fun j hj=>hall.out j hj (by rw[<-HS.out.1];exact hj))
     have hcs:c<s.size:=by rw[HS.out.1];exact HS.out.2
     have HV:=hid (oG hg hcs)
     clear hg
     go_wp2_with fail
     go_ret
     exact⟨AX HV.out,rfl⟩
    |succ g=>
     have hi:i<s.size:=by rw[HS.out.1];omega
     have hi3:(i:Int)<256:=by omega
     by_cases e0:s[i]=48
     ·have t0:(s[i].toNat:Int)=48:=by rw[e0];rfl
      have HE:=hid e0
      clear e0
      go_wp2_with fail
      go_roundg g
      case measure=>omega
      case rel=>
       refine⟨i+1,by first|rfl|simp,by omega,fun j hj h=> ?_,rfl⟩
       by_cases e:j=i
       ·subst e;exact Or.inl HE.out
       exact hall.out j hj (by omega)
     have t0: ¬(s[i].toNat:Int)=48:=fun e=>e0 (UInt8.toNat_inj.1 (show s[i].toNat=48 by omega))
     by_cases e1:s[i]=49
     ·have t1:(s[i].toNat:Int)=49:=by rw[e1];rfl
      have HE:=hid e1
      clear e0 e1 t0
      go_wp2_with fail
      go_roundg g
      case measure=>omega
      case rel=>
       refine⟨i+1,by first|rfl|simp,by omega,fun j hj h=> ?_,rfl⟩
       by_cases e:j=i
       ·subst e;exact Or.inr HE.out
       exact hall.out j hj (by omega)
     have t1: ¬(s[i].toNat:Int)=49:=fun e=>e1 (UInt8.toNat_inj.1 (show s[i].toNat=49 by omega))
     have HV:=hid (PZ (rR hi e0 e1) c)
     have q0:((s[i].toNat:Int) !=48)=true:=by simpa using t0
     have q1:((s[i].toNat:Int) !=49)=true:=by simpa using t1
     clear e0 e1 t0 t1
     go_wp2_with fail
     go_ret
     exact⟨AX HV.out.symm,rfl⟩
  have hc2:255<(c:Int):=by omega
  have HV:=hid (nK (s:=s.data.toList) (i:=c) (by omega))
  clear hs hc
  go_enter Tryz.func85,Tryz.ntmps85
  go_wp2_with fail
  go_ret
  exact⟨AX HV.out.symm,rfl⟩
 have hz:(((s.size:Nat):Int) !=256)=true:=by simp;omega
 have hb:good s.data.toList=false:=by unfold good;rw[<-Lib.size_eq,decide_eq_false hs];rfl
 have HV:=hid (PZ hb c)
 clear hs hb
 go_enter Tryz.func85,Tryz.ntmps85
 go_wp2_with fail
 go_ret
 exact⟨AX HV.out.symm,rfl⟩
theorem Mo (a b:ByteArray) (w:World):Calls Tryz.prog 135 #[.string a,.string b] w fun e w'=>e= .returned (.string (tx fun i=>has a.data.toList i||has b.data.toList i))/\Below w.heap.size w w':=by
 have hmk:=Qz
 go_enter Tryz.func135,Tryz.ntmps135
 go_wp2_with fail
 have HN:=hid (Np w)
 generalize (w.alloc (.cells (BZ (bv fun _=>false)) 4))=w1 at HN ⊢
 clear hmk
 go_loopg [6] 256 (fun g s6 wr=> ∃i:Nat,s6= .int .i64 i/\i+g=256/\Hid (Row wr w.heap.size 4 (bv fun j=>if j<i then has a.data.toList j||has b.data.toList j else false))/\Hid (Below w.heap.size w wr))
 case atStart=>exact⟨0,rfl,rfl,HN.out.1.is fun j _=>Dk (by rw[if_neg (by omega)]),HN.out.2⟩
 case round=>
  obtain⟨i,rfl,hig,hr,hb⟩:=hrel
  cases gk with
  |zero=>
   obtain rfl:i=256:=by omega
   go_wp2_with fail
   refine(Jz hr.out).mono ?_
   rintro e w2 ⟨rfl,rfl⟩
   go_wp2_with fail
   go_ret
   exact⟨congrArg (fun x=>Ending.returned (.string x)) (Em fun j hj=>by first|rw[if_pos hj]|rw[decide_eq_true hj,Bool.true_and]),hb.out⟩
  |succ g=>
   have hi3:(i:Int)<256:=by omega
   have hcell:=hr.out.cell (i:=i) (by omega)
   have hfree:=hr.out.free i
   generalize hold:bv (fun j=>if j<i then has a.data.toList j||has b.data.toList j else false) i=old at hcell
   clear hold
   obtain⟨W0,rfl⟩: ∃W0:World,W0=wr:=⟨_,rfl⟩
   go_wp2_with fail
   refine(JO _ _ _).mono ?_
   rintro e w2 ⟨rfl,rfl⟩
   cases hA:has a.data.toList i with
   |true=>
    go_wp2_with fail
    go_roundg g
    case measure=>omega
    case rel=>exact⟨i+1,by first|rfl|simp,by omega,row_step hr.out (by rw[hA];rfl),hb.out.setCell (Nat.le_refl _) _⟩
   |false=>
    go_wp2_with fail
    refine(JO _ _ _).mono ?_
    rintro e w2 ⟨rfl,rfl⟩
    go_wp2_with fail
    go_roundg g
    case measure=>omega
    case rel=>exact⟨i+1,by first|rfl|simp,by omega,row_step hr.out (by rw[hA];rfl),hb.out.setCell (Nat.le_refl _) _⟩
theorem ZH (a:ByteArray) (w:World):Calls Tryz.prog 167 #[.string a] w fun e w'=>e= .returned (.string (tx fun i=> !has a.data.toList i))/\Below w.heap.size w w':=by
 have hmk:=Qz
 go_enter Tryz.func167,Tryz.ntmps167
 go_wp2_with fail
 have HN:=hid (Np w)
 generalize (w.alloc (.cells (BZ (bv fun _=>false)) 4))=w1 at HN ⊢
 clear hmk
 go_loopg [4] 256 (fun g s4 wr=> ∃i:Nat,s4= .int .i64 i/\i+g=256/\Hid (Row wr w.heap.size 4 (bv fun j=>if j<i then !has a.data.toList j else false))/\Hid (Below w.heap.size w wr))
 case atStart=>exact⟨0,rfl,rfl,HN.out.1.is fun j _=>Dk (by rw[if_neg (by omega)]),HN.out.2⟩
 case round=>
  obtain⟨i,rfl,hig,hr,hb⟩:=hrel
  cases gk with
  |zero=>
   obtain rfl:i=256:=by omega
   go_wp2_with fail
   refine(Jz hr.out).mono ?_
   rintro e w2 ⟨rfl,rfl⟩
   go_wp2_with fail
   go_ret
   exact⟨congrArg (fun x=>Ending.returned (.string x)) (Em fun j hj=>by first|rw[if_pos hj]|rw[decide_eq_true hj,Bool.true_and]),hb.out⟩
  |succ g=>
   have hi3:(i:Int)<256:=by omega
   have hcell:=hr.out.cell (i:=i) (by omega)
   have hfree:=hr.out.free i
   generalize hold:bv (fun j=>if j<i then !has a.data.toList j else false) i=old at hcell
   clear hold
   go_wp2_with fail
   refine(JO _ _ _).mono ?_
   rintro e w2 ⟨rfl,rfl⟩
   go_wp2_with fail
   go_roundg g
   case measure=>omega
   case rel=>exact⟨i+1,by first|rfl|simp,by omega,row_step hr.out rfl,hb.out.setCell (Nat.le_refl _) _⟩
/-! what these answer of texts of rQ -/
theorem VL (f:Nat->Bool) {i:Nat} (h:i<256):has (tx f).data.toList i=f i:=gy f h
theorem Aw (f g:Nat->Bool) (w:World):Calls Tryz.prog 135 #[.string (tx f),.string (tx g)] w fun e w'=>e= .returned (.string (tx fun i=>f i||g i))/\Below w.heap.size w w':=
 (Mo _ _ _).mono fun _ _ h=>⟨h.1.trans (congrArg (fun x=>Ending.returned (.string x)) (Em fun i hi=>by rw[VL f hi,VL g hi])),h.2⟩
theorem KS (f:Nat->Bool) (w:World):Calls Tryz.prog 167 #[.string (tx f)] w fun e w'=>e= .returned (.string (tx fun i=> !f i))/\Below w.heap.size w w':=
 (ZH _ _).mono fun _ _ h=>⟨h.1.trans (congrArg (fun x=>Ending.returned (.string x)) (Em fun i hi=>by rw[VL f hi])),h.2⟩
end FD
namespace EH
open Strs Al Bv
open Ew (good)
open W14 (AY AO)
open Kit (below_draws on)
theorem rT (t:ByteArray) (a b:Int) (n:Nat) (w:World):Calls Tryz.prog 139 #[.agg (D8 ⟨1,t,a,b⟩),.int .i64 n] w fun e w'=>e= .returned (.bool (goes 1 a b n))/\Below w.heap.size w w':=by
 have hv:goes 1 a b n=(place a n&&decide (b=0)):=rfl
 rw[hv]
 have HP:=hid (fun w=>Dy a n w)
 generalize place a n=q at*
 clear hv
 cases q with
 |false=>
  rw[Bool.false_and]
  go_enter Tryz.func139,Tryz.ntmps139
  go_wp2_with (first
   |(refine Bd (r:=⟨1,t,a,b⟩) rfl (.tmp 0) rfl rfl ?_;intro w1 b1 e1 p1 l1 z1;have c0:=p1.c0;have c2:=p1.c2;have c3:=p1.c3;have L1:=hid l1;clear e1 p1 l1 z1;simp only at c0 c2 c3))
  refine(HP.out _).mono ?_
  rintro e w2 ⟨rfl,rfl⟩
  go_wp2_with fail
  go_ret
  exact⟨rfl,L1.out⟩
 |true=>
  rw[Bool.true_and]
  by_cases hb:b=0
  ·rw[decide_eq_true hb]
   subst hb
   go_enter Tryz.func139,Tryz.ntmps139
   go_wp2_with (first
    |(refine Bd (r:=⟨1,t,a,0⟩) rfl (.tmp 0) rfl rfl ?_;intro w1 b1 e1 p1 l1 z1;have c0:=p1.c0;have c2:=p1.c2;have c3:=p1.c3;have L1:=hid l1;clear e1 p1 l1 z1;simp only at c0 c2 c3))
   refine(HP.out _).mono ?_
   rintro e w2 ⟨rfl,rfl⟩
   go_wp2_with fail
   go_ret
   exact⟨rfl,L1.out⟩
  rw[decide_eq_false hb]
  have tb:(b==0)=false:=by simpa using hb
  clear hb
  go_enter Tryz.func139,Tryz.ntmps139
  go_wp2_with (first
   |(refine Bd (r:=⟨1,t,a,b⟩) rfl (.tmp 0) rfl rfl ?_;intro w1 b1 e1 p1 l1 z1;have c0:=p1.c0;have c2:=p1.c2;have c3:=p1.c3;have L1:=hid l1;clear e1 p1 l1 z1;simp only at c0 c2 c3))
  refine(HP.out _).mono ?_
  rintro e w2 ⟨rfl,rfl⟩
  go_wp2_with fail
  go_ret
  exact⟨rfl,L1.out⟩
theorem rU (t:ByteArray) (a b:Int) (n:Nat) (w:World):Calls Tryz.prog 139 #[.agg (D8 ⟨2,t,a,b⟩),.int .i64 n] w fun e w'=>e= .returned (.bool (goes 2 a b n))/\Below w.heap.size w w':=by
 have hv:goes 2 a b n=(place a n&&decide (b=0)):=rfl
 rw[hv]
 have HP:=hid (fun w=>Dy a n w)
 generalize place a n=q at*
 clear hv
 cases q with
 |false=>
  rw[Bool.false_and]
  go_enter Tryz.func139,Tryz.ntmps139
  go_wp2_with (first
   |(refine Bd (r:=⟨2,t,a,b⟩) rfl (.tmp 0) rfl rfl ?_;intro w1 b1 e1 p1 l1 z1;have c0:=p1.c0;have c2:=p1.c2;have c3:=p1.c3;have L1:=hid l1;clear e1 p1 l1 z1;simp only at c0 c2 c3))
  refine(HP.out _).mono ?_
  rintro e w2 ⟨rfl,rfl⟩
  go_wp2_with fail
  go_ret
  exact⟨rfl,L1.out⟩
 |true=>
  rw[Bool.true_and]
  by_cases hb:b=0
  ·rw[decide_eq_true hb]
   subst hb
   go_enter Tryz.func139,Tryz.ntmps139
   go_wp2_with (first
    |(refine Bd (r:=⟨2,t,a,0⟩) rfl (.tmp 0) rfl rfl ?_;intro w1 b1 e1 p1 l1 z1;have c0:=p1.c0;have c2:=p1.c2;have c3:=p1.c3;have L1:=hid l1;clear e1 p1 l1 z1;simp only at c0 c2 c3))
   refine(HP.out _).mono ?_
   rintro e w2 ⟨rfl,rfl⟩
   go_wp2_with fail
   go_ret
   exact⟨rfl,L1.out⟩
  rw[decide_eq_false hb]
  have tb:(b==0)=false:=by simpa using hb
  clear hb
  go_enter Tryz.func139,Tryz.ntmps139
  go_wp2_with (first
   |(refine Bd (r:=⟨2,t,a,b⟩) rfl (.tmp 0) rfl rfl ?_;intro w1 b1 e1 p1 l1 z1;have c0:=p1.c0;have c2:=p1.c2;have c3:=p1.c3;have L1:=hid l1;clear e1 p1 l1 z1;simp only at c0 c2 c3))
  refine(HP.out _).mono ?_
  rintro e w2 ⟨rfl,rfl⟩
  go_wp2_with fail
  go_ret
  exact⟨rfl,L1.out⟩
theorem rV (t:ByteArray) (a b:Int) (n:Nat) (w:World):Calls Tryz.prog 139 #[.agg (D8 ⟨3,t,a,b⟩),.int .i64 n] w fun e w'=>e= .returned (.bool (goes 3 a b n))/\Below w.heap.size w w':=by
 have hv:goes 3 a b n=(place a n&&decide (b=0)):=rfl
 rw[hv]
 have HP:=hid (fun w=>Dy a n w)
 generalize place a n=q at*
 clear hv
 cases q with
 |false=>
  rw[Bool.false_and]
  go_enter Tryz.func139,Tryz.ntmps139
  go_wp2_with (first
   |(refine Bd (r:=⟨3,t,a,b⟩) rfl (.tmp 0) rfl rfl ?_;intro w1 b1 e1 p1 l1 z1;have c0:=p1.c0;have c2:=p1.c2;have c3:=p1.c3;have L1:=hid l1;clear e1 p1 l1 z1;simp only at c0 c2 c3))
  refine(HP.out _).mono ?_
  rintro e w2 ⟨rfl,rfl⟩
  go_wp2_with fail
  go_ret
  exact⟨rfl,L1.out⟩
 |true=>
  rw[Bool.true_and]
  by_cases hb:b=0
  ·rw[decide_eq_true hb]
   subst hb
   go_enter Tryz.func139,Tryz.ntmps139
   go_wp2_with (first
    |(refine Bd (r:=⟨3,t,a,0⟩) rfl (.tmp 0) rfl rfl ?_;intro w1 b1 e1 p1 l1 z1;have c0:=p1.c0;have c2:=p1.c2;have c3:=p1.c3;have L1:=hid l1;clear e1 p1 l1 z1;simp only at c0 c2 c3))
   refine(HP.out _).mono ?_
   rintro e w2 ⟨rfl,rfl⟩
   go_wp2_with fail
   go_ret
   exact⟨rfl,L1.out⟩
  rw[decide_eq_false hb]
  have tb:(b==0)=false:=by simpa using hb
  clear hb
  go_enter Tryz.func139,Tryz.ntmps139
  go_wp2_with (first
   |(refine Bd (r:=⟨3,t,a,b⟩) rfl (.tmp 0) rfl rfl ?_;intro w1 b1 e1 p1 l1 z1;have c0:=p1.c0;have c2:=p1.c2;have c3:=p1.c3;have L1:=hid l1;clear e1 p1 l1 z1;simp only at c0 c2 c3))
  refine(HP.out _).mono ?_
  rintro e w2 ⟨rfl,rfl⟩
  go_wp2_with fail
  go_ret
  exact⟨rfl,L1.out⟩
theorem rX (t:ByteArray) (a b:Int) (n:Nat) (w:World):Calls Tryz.prog 139 #[.agg (D8 ⟨4,t,a,b⟩),.int .i64 n] w fun e w'=>e= .returned (.bool (goes 4 a b n))/\Below w.heap.size w w':=by
 have hv:goes 4 a b n=(place a n&&decide (b=0)):=rfl
 rw[hv]
 have HP:=hid (fun w=>Dy a n w)
 generalize place a n=q at*
 clear hv
 cases q with
 |false=>
  rw[Bool.false_and]
  go_enter Tryz.func139,Tryz.ntmps139
  go_wp2_with (first
   |(refine Bd (r:=⟨4,t,a,b⟩) rfl (.tmp 0) rfl rfl ?_;intro w1 b1 e1 p1 l1 z1;have c0:=p1.c0;have c2:=p1.c2;have c3:=p1.c3;have L1:=hid l1;clear e1 p1 l1 z1;simp only at c0 c2 c3))
  refine(HP.out _).mono ?_
  rintro e w2 ⟨rfl,rfl⟩
  go_wp2_with fail
  go_ret
  exact⟨rfl,L1.out⟩
 |true=>
  rw[Bool.true_and]
  by_cases hb:b=0
  ·rw[decide_eq_true hb]
   subst hb
   go_enter Tryz.func139,Tryz.ntmps139
   go_wp2_with (first
    |(refine Bd (r:=⟨4,t,a,0⟩) rfl (.tmp 0) rfl rfl ?_;intro w1 b1 e1 p1 l1 z1;have c0:=p1.c0;have c2:=p1.c2;have c3:=p1.c3;have L1:=hid l1;clear e1 p1 l1 z1;simp only at c0 c2 c3))
   refine(HP.out _).mono ?_
   rintro e w2 ⟨rfl,rfl⟩
   go_wp2_with fail
   go_ret
   exact⟨rfl,L1.out⟩
  rw[decide_eq_false hb]
  have tb:(b==0)=false:=by simpa using hb
  clear hb
  go_enter Tryz.func139,Tryz.ntmps139
  go_wp2_with (first
   |(refine Bd (r:=⟨4,t,a,b⟩) rfl (.tmp 0) rfl rfl ?_;intro w1 b1 e1 p1 l1 z1;have c0:=p1.c0;have c2:=p1.c2;have c3:=p1.c3;have L1:=hid l1;clear e1 p1 l1 z1;simp only at c0 c2 c3))
  refine(HP.out _).mono ?_
  rintro e w2 ⟨rfl,rfl⟩
  go_wp2_with fail
  go_ret
  exact⟨rfl,L1.out⟩
theorem rY (t:ByteArray) (a b:Int) (n:Nat) (w:World):Calls Tryz.prog 139 #[.agg (D8 ⟨5,t,a,b⟩),.int .i64 n] w fun e w'=>e= .returned (.bool (goes 5 a b n))/\Below w.heap.size w w':=by
 have hv:goes 5 a b n=(place a n&&decide (b=0)):=rfl
 rw[hv]
 have HP:=hid (fun w=>Dy a n w)
 generalize place a n=q at*
 clear hv
 cases q with
 |false=>
  rw[Bool.false_and]
  go_enter Tryz.func139,Tryz.ntmps139
  go_wp2_with (first
   |(refine Bd (r:=⟨5,t,a,b⟩) rfl (.tmp 0) rfl rfl ?_;intro w1 b1 e1 p1 l1 z1;have c0:=p1.c0;have c2:=p1.c2;have c3:=p1.c3;have L1:=hid l1;clear e1 p1 l1 z1;simp only at c0 c2 c3))
  refine(HP.out _).mono ?_
  rintro e w2 ⟨rfl,rfl⟩
  go_wp2_with fail
  go_ret
  exact⟨rfl,L1.out⟩
 |true=>
  rw[Bool.true_and]
  by_cases hb:b=0
  ·rw[decide_eq_true hb]
   subst hb
   go_enter Tryz.func139,Tryz.ntmps139
   go_wp2_with (first
    |(refine Bd (r:=⟨5,t,a,0⟩) rfl (.tmp 0) rfl rfl ?_;intro w1 b1 e1 p1 l1 z1;have c0:=p1.c0;have c2:=p1.c2;have c3:=p1.c3;have L1:=hid l1;clear e1 p1 l1 z1;simp only at c0 c2 c3))
   refine(HP.out _).mono ?_
   rintro e w2 ⟨rfl,rfl⟩
   go_wp2_with fail
   go_ret
   exact⟨rfl,L1.out⟩
  rw[decide_eq_false hb]
  have tb:(b==0)=false:=by simpa using hb
  clear hb
  go_enter Tryz.func139,Tryz.ntmps139
  go_wp2_with (first
   |(refine Bd (r:=⟨5,t,a,b⟩) rfl (.tmp 0) rfl rfl ?_;intro w1 b1 e1 p1 l1 z1;have c0:=p1.c0;have c2:=p1.c2;have c3:=p1.c3;have L1:=hid l1;clear e1 p1 l1 z1;simp only at c0 c2 c3))
  refine(HP.out _).mono ?_
  rintro e w2 ⟨rfl,rfl⟩
  go_wp2_with fail
  go_ret
  exact⟨rfl,L1.out⟩
theorem rZ (t:ByteArray) (a b:Int) (n:Nat) (w:World):Calls Tryz.prog 139 #[.agg (D8 ⟨6,t,a,b⟩),.int .i64 n] w fun e w'=>e= .returned (.bool (goes 6 a b n))/\Below w.heap.size w w':=by
 have hv:goes 6 a b n=(place a n&&place b n):=rfl
 rw[hv]
 have HP:=hid (fun w=>Dy a n w)
 have HQ:=hid (fun w=>Dy b n w)
 generalize place a n=q at*
 generalize place b n=q2 at*
 clear hv
 cases q with
 |false=>
  rw[Bool.false_and]
  go_enter Tryz.func139,Tryz.ntmps139
  go_wp2_with (first
   |(refine Bd (r:=⟨6,t,a,b⟩) rfl (.tmp 0) rfl rfl ?_;intro w1 b1 e1 p1 l1 z1;have c0:=p1.c0;have c2:=p1.c2;have c3:=p1.c3;have L1:=hid l1;clear e1 p1 l1 z1;simp only at c0 c2 c3))
  refine(HP.out _).mono ?_
  rintro e w2 ⟨rfl,rfl⟩
  go_wp2_with fail
  go_ret
  exact⟨rfl,L1.out⟩
 |true=>
  rw[Bool.true_and]
  go_enter Tryz.func139,Tryz.ntmps139
  go_wp2_with (first
   |(refine Bd (r:=⟨6,t,a,b⟩) rfl (.tmp 0) rfl rfl ?_;intro w1 b1 e1 p1 l1 z1;have c0:=p1.c0;have c2:=p1.c2;have c3:=p1.c3;have L1:=hid l1;clear e1 p1 l1 z1;simp only at c0 c2 c3))
  refine(HP.out _).mono ?_
  rintro e w2 ⟨rfl,rfl⟩
  go_wp2_with fail
  refine(HQ.out _).mono ?_
  rintro e w2 ⟨rfl,rfl⟩
  go_wp2_with fail
  go_ret
  exact⟨rfl,L1.out⟩
theorem rf (t:ByteArray) (a b:Int) (n:Nat) (w:World):Calls Tryz.prog 139 #[.agg (D8 ⟨7,t,a,b⟩),.int .i64 n] w fun e w'=>e= .returned (.bool (goes 7 a b n))/\Below w.heap.size w w':=by
 have hv:goes 7 a b n=(decide (a=0)&&decide (b=0)):=rfl
 rw[hv]
 clear hv
 by_cases ha:a=0
 ·rw[decide_eq_true ha,Bool.true_and]
  subst ha
  by_cases hb:b=0
  ·rw[decide_eq_true hb]
   subst hb
   go_enter Tryz.func139,Tryz.ntmps139
   go_wp2_with (first
    |(refine Bd (r:=⟨7,t,0,0⟩) rfl (.tmp 0) rfl rfl ?_;intro w1 b1 e1 p1 l1 z1;have c0:=p1.c0;have c2:=p1.c2;have c3:=p1.c3;have L1:=hid l1;clear e1 p1 l1 z1;simp only at c0 c2 c3))
   go_ret
   exact⟨rfl,L1.out⟩
  rw[decide_eq_false hb]
  have tb:(b==0)=false:=by simpa using hb
  clear hb
  go_enter Tryz.func139,Tryz.ntmps139
  go_wp2_with (first
   |(refine Bd (r:=⟨7,t,0,b⟩) rfl (.tmp 0) rfl rfl ?_;intro w1 b1 e1 p1 l1 z1;have c0:=p1.c0;have c2:=p1.c2;have c3:=p1.c3;have L1:=hid l1;clear e1 p1 l1 z1;simp only at c0 c2 c3))
  go_ret
  exact⟨rfl,L1.out⟩
 rw[decide_eq_false ha,Bool.false_and]
 have ta:(a==0)=false:=by simpa using ha
 clear ha
 go_enter Tryz.func139,Tryz.ntmps139
 go_wp2_with (first
  |(refine Bd (r:=⟨7,t,a,b⟩) rfl (.tmp 0) rfl rfl ?_;intro w1 b1 e1 p1 l1 z1;have c0:=p1.c0;have c2:=p1.c2;have c3:=p1.c3;have L1:=hid l1;clear e1 p1 l1 z1;simp only at c0 c2 c3))
 go_ret
 exact⟨rfl,L1.out⟩
theorem rq (t:ByteArray) (a b:Int) (n:Nat) (w:World):Calls Tryz.prog 139 #[.agg (D8 ⟨8,t,a,b⟩),.int .i64 n] w fun e w'=>e= .returned (.bool (goes 8 a b n))/\Below w.heap.size w w':=by
 have hv:goes 8 a b n=(place a n&&decide (b=0)):=rfl
 rw[hv]
 have HP:=hid (fun w=>Dy a n w)
 generalize place a n=q at*
 clear hv
 cases q with
 |false=>
  rw[Bool.false_and]
  go_enter Tryz.func139,Tryz.ntmps139
  go_wp2_with (first
   |(refine Bd (r:=⟨8,t,a,b⟩) rfl (.tmp 0) rfl rfl ?_;intro w1 b1 e1 p1 l1 z1;have c0:=p1.c0;have c2:=p1.c2;have c3:=p1.c3;have L1:=hid l1;clear e1 p1 l1 z1;simp only at c0 c2 c3))
  refine(HP.out _).mono ?_
  rintro e w2 ⟨rfl,rfl⟩
  go_wp2_with fail
  go_ret
  exact⟨rfl,L1.out⟩
 |true=>
  rw[Bool.true_and]
  by_cases hb:b=0
  ·rw[decide_eq_true hb]
   subst hb
   go_enter Tryz.func139,Tryz.ntmps139
   go_wp2_with (first
    |(refine Bd (r:=⟨8,t,a,0⟩) rfl (.tmp 0) rfl rfl ?_;intro w1 b1 e1 p1 l1 z1;have c0:=p1.c0;have c2:=p1.c2;have c3:=p1.c3;have L1:=hid l1;clear e1 p1 l1 z1;simp only at c0 c2 c3))
   refine(HP.out _).mono ?_
   rintro e w2 ⟨rfl,rfl⟩
   go_wp2_with fail
   go_ret
   exact⟨rfl,L1.out⟩
  rw[decide_eq_false hb]
  have tb:(b==0)=false:=by simpa using hb
  clear hb
  go_enter Tryz.func139,Tryz.ntmps139
  go_wp2_with (first
   |(refine Bd (r:=⟨8,t,a,b⟩) rfl (.tmp 0) rfl rfl ?_;intro w1 b1 e1 p1 l1 z1;have c0:=p1.c0;have c2:=p1.c2;have c3:=p1.c3;have L1:=hid l1;clear e1 p1 l1 z1;simp only at c0 c2 c3))
  refine(HP.out _).mono ?_
  rintro e w2 ⟨rfl,rfl⟩
  go_wp2_with fail
  go_ret
  exact⟨rfl,L1.out⟩
theorem ZI {k:Int} (hk: ¬(1<=k/\k<=8)) (t:ByteArray) (a b:Int) (n:Nat) (w:World):Calls Tryz.prog 139 #[.agg (D8 ⟨k,t,a,b⟩),.int .i64 n] w fun e w'=>e= .returned (.bool (goes k a b n))/\Below w.heap.size w w':=by
 have hv:goes k a b n=false:=by
  unfold goes
  rw[if_neg (by omega),if_neg (by omega),if_neg hk]
 rw[hv]
 have t1:(k==1)=false:=by simp;omega
 have t2:(k==2)=false:=by simp;omega
 have t3:(k==3)=false:=by simp;omega
 have t4:(k==4)=false:=by simp;omega
 have t5:(k==5)=false:=by simp;omega
 have t6:(k==6)=false:=by simp;omega
 have t7:(k==7)=false:=by simp;omega
 have t8:(k==8)=false:=by simp;omega
 clear hv hk
 go_enter Tryz.func139,Tryz.ntmps139
 go_wp2_with (first
  |(refine Bd (r:=⟨k,t,a,b⟩) rfl (.tmp 0) rfl rfl ?_;intro w1 b1 e1 p1 l1 z1;have c0:=p1.c0;have c2:=p1.c2;have c3:=p1.c3;have L1:=hid l1;clear e1 p1 l1 z1;simp only at c0 c2 c3))
 go_ret
 exact⟨rfl,L1.out⟩
theorem ZJ (x:AL) (n:Nat) (w:World):Calls Tryz.prog 139 #[.agg (D8 x),.int .i64 n] w fun e w'=>e= .returned (.bool (goes x.kind x.x x.y n))/\Below w.heap.size w w':=by
 obtain⟨k,t,a,b⟩:=x
 by_cases hk:1<=k/\k<=8
 ·have:k=1\/k=2\/k=3\/k=4\/k=5\/k=6\/k=7\/k=8:=by omega
  rcases this with rfl|rfl|rfl|rfl|rfl|rfl|rfl|rfl
  ·exact rT t a b n w
  ·exact rU t a b n w
  ·exact rV t a b n w
  ·exact rX t a b n w
  ·exact rY t a b n w
  ·exact rZ t a b n w
  ·exact rf t a b n w
  exact rq t a b n w
 exact ZI hk t a b n w
theorem XR {α:Type} {f:α->Bool} {L:List α} {i:Nat} (hi:i<L.length):(L.take (i+1)).all f=((L.take i).all f&&f L[i]):=by
 rw[List.take_succ_eq_append_getElem hi,List.all_append]
 simp only[List.all_cons,List.all_nil,Bool.and_true]
theorem jE {α:Type} {f:α->Bool} {L:List α} {i:Nat} (hi:i<L.length) (h:f L[i]=false):L.all f=false:=by
 rw[List.all_eq_false]
 exact⟨L[i],List.getElem_mem hi,by simp[h]⟩
theorem KT {w:World} {B:Nat} {v:Value} {L:List AL} (h:Qc B w v L) (hB:B<=w.heap.size):Calls Tryz.prog 112 #[v] w fun e w'=>e= .returned (.bool (Ca L))/\Below w.heap.size w w':=by
 obtain⟨A,c,rfl,h1,h2⟩:=h.form
 have H:=hid h
 unfold maxLen at h2
 have HC:=hid (show L.length<=c/\c<=9223372036854775807 from⟨h1,h2⟩)
 have gG:=hid hB
 obtain⟨R,hR⟩: ∃R,Ca L=R:=⟨_,rfl⟩
 rw[hR]
 have HR:=hid hR
 clear h hB hR
 go_enter Tryz.func112,Tryz.ntmps112
 go_wp2_with fail
 clear h1 h2
 go_loopg [7] L.length (fun gk s7 wr=> ∃i:Nat,s7= .int .i64 i/\Hid (i+gk=L.length)/\Hid ((L.take i).all (ae L.length)=true)/\Hid (Below w.heap.size w wr))
 case atStart=>exact⟨0,rfl,by unfold Hid;omega,by unfold Hid;simp,Below.refl _ _⟩
 case round=>
  obtain⟨i,rfl,hig,dK,LB⟩:=hrel
  have hc1:=HC.out.1
  have hc2:=HC.out.2
  by_cases hi:i<L.length
  ·have ti:(i:Int)<(L.length:Int):=by omega
   obtain⟨b1,o1,hl1,rfl,hb1,e1⟩:=H.out.Gq BJ (by decide) hi
   obtain⟨x,hx⟩: ∃x,L[i]=x:=⟨_,rfl⟩
   rw[hx]at e1
   have E1:Hid (∀j,j<4->wr.cell? ⟨b1,o1+i*4+j,none⟩=(CZ x)[j]?):=fun j hj=>(AO (LB.out.block b1 (Nat.lt_of_lt_of_le hb1 gG.out))).trans (e1 j hj)
   have HT:=hid (Y_ x)
   have HG:=hid (ZJ x L.length)
   have XT:=XR (f:=ae L.length) hi
   have Q_:=fun q=>jE (f:=ae L.length) hi q
   rw[hx]at XT Q_
   have hok:ae L.length x=(Je x.kind x.text&&goes x.kind x.x x.y L.length):=rfl
   rw[hok]at XT Q_
   obtain⟨q1,hq1⟩: ∃q1,Je x.kind x.text=q1:=⟨_,rfl⟩
   obtain⟨q2,hq2⟩: ∃q2,goes x.kind x.x x.y L.length=q2:=⟨_,rfl⟩
   rw[hq1,hq2]at XT Q_
   rw[hq1]at HT
   rw[hq2]at HG
   have wN:=hid XT
   have Gl:=hid Q_
   have DT:Hid (wrap64 ((i:Int)+1)=((i+1:Nat):Int)):=by unfold Hid wrap64;omega
   have HI2:=hid hi
   clear e1 hb1 hx hl1 XT Q_ hok hq1 hq2 hi
   have RF:Hid ((q1&&q2)=false->Ca L=false):=fun q=>by
    unfold Ca
    rw[Gl.out q,Bool.false_and]
   cases q1 with
   |false=>
    go_wp2_with (first
     |(refine DI rfl (.tmp 9) rfl rfl (r:=x) E1.out ?_)
     |(refine Cw rfl rfl ?_;intro w3 b3 e3 p3 l3 z3)
     |(refine Cx (r:=x) rfl (.tmp 4) (.tmp 10) rfl rfl rfl p3 ?_;intro w4 p4 l4 z4;have L4:=hid (AY l3 l4 e3);have P4:=hid p4;clear e3 p3 l3 z3 p4 l4 z4)
     |(refine Tx rfl (.tmp 4) rfl rfl (r:=x) P4.out ?_))
    refine(HT.out _).mono ?_
    rintro e w5 ⟨rfl,l5⟩
    have L5:=hid (LB.out.trans ((on L4.out l5).mono LB.out.size))
    clear l5
    go_wp2_with fail
    go_ret
    exact⟨by rw[<-HR.out,RF.out rfl];rfl,L5.out⟩
   |true=>
    go_wp2_with (first
     |(refine DI rfl (.tmp 9) rfl rfl (r:=x) E1.out ?_)
     |(refine Cw rfl rfl ?_;intro w3 b3 e3 p3 l3 z3)
     |(refine Cx (r:=x) rfl (.tmp 4) (.tmp 10) rfl rfl rfl p3 ?_;intro w4 p4 l4 z4;have L4:=hid (AY l3 l4 e3);have P4:=hid p4;clear e3 p3 l3 z3 p4 l4 z4)
     |(refine Tx rfl (.tmp 4) rfl rfl (r:=x) P4.out ?_))
    refine(HT.out _).mono ?_
    rintro e w5 ⟨rfl,l5⟩
    have P5:=hid (P4.out.below l5)
    have b0:=P5.out.c0
    have b1':=P5.out.c1
    have b2:=P5.out.c2
    have b3':=P5.out.c3
    have W5:=hid (on L4.out l5)
    clear l5
    go_wp2_with fail
    refine(HG.out _).mono ?_
    rintro e w6 ⟨rfl,l6⟩
    have L6:=hid (LB.out.trans ((on W5.out l6).mono LB.out.size))
    clear l6 b0 b1' b2 b3'
    cases q2 with
    |false=>
     go_wp2_with fail
     go_ret
     exact⟨by rw[<-HR.out,RF.out rfl];rfl,L6.out⟩
    |true=>
     cases gk with
     |zero=>exact absurd hig.out (by have:=HI2.out;omega)
     |succ g=>
      go_wp2_with fail
      go_roundg g
      case measure=>omega
      case rel=>exact⟨i+1,by first|rfl|exact congrArg (Value.int .i64) DT.out,by have:=hig.out;unfold Hid;omega,by unfold Hid;rw[wN.out,dK.out];rfl,L6⟩
  have ti: ¬(i:Int)<(L.length:Int):=by omega
  have hie:i=L.length:=by have:=hig.out;omega
  have HV:Hid (Ca L=decide (0<L.length)):=by
   have:=dK.out
   rw[hie,List.take_length]at this
   unfold Hid Ca
   rw[this,Bool.true_and]
  clear hie hi
  go_wp2_with fail
  go_ret
  exact⟨by rw[<-HR.out,HV.out];rfl,LB.out⟩
end EH
namespace Bv
open Go
end Bv
namespace EH
open Strs Al Bv
open Ew (good has)
open W14 (AY AO)
open Kit (below_draws on)
theorem ZK {t:ByteArray} (h:good t.data.toList=true):(FD.tx fun i=>has t.data.toList i||has t.data.toList i)=t:=by
 refine Kit.BM ?_
 rw[FD.aZ,Ew.ML (g:=has t.data.toList) (fun i _=>Bool.or_self _)]
 exact(Ew.bz h).symm
theorem dL {t:ByteArray} (h:good t.data.toList=false): ¬(FD.tx fun i=>has t.data.toList i||has t.data.toList i)=t:=by
 intro q
 have h1:=Ew.Jn (fun i=>has t.data.toList i||has t.data.toList i)
 rw[<-FD.aZ,q,h]at h1
 cases h1
end EH
end Go.Proofs.YtfgegjinhkgpbaaGreatDoor
