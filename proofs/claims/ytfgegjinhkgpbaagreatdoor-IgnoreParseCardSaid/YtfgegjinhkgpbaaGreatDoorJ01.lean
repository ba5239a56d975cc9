/-
  Texts joined, in build order, each with its own comment and its own conditions: Kit, W17Math, W17Mk, W03Math, W04Math, W04Pieces, Range.
-/
import Derived.WalkKit
import Derived.Below
import Derived.Deep.Draws
import Derived.Deep.QuietTactic
import Derived.Lib.Strings
import Derived.Lib.Hide
import Derived.Laws.BytesArg
import Derived.Lib.SlTrimSet
import Derived.Lib.IndexMore
import Derived.Lib.Bytealg
import Derived.Laws.Strings
import Derived.RangeFuncNested
import Derived.RangeFuncCalls
namespace Go.Proofs.YtfgegjinhkgpbaaGreatDoor
set_option maxHeartbeats 4000000
set_option maxRecDepth 100000
open Go.RowKit
open Lib (hid)
namespace Kit
theorem BO {k:IntKind} {a b:Int} (h:a=b):Ending.returned (.int k a)= .returned (.int k b):=by rw[h]
theorem AX {a b:Bool} (h:a=b):Ending.returned (.bool a)= .returned (.bool b):=by rw[h]
theorem Au {a b:ByteArray} (h:a=b):Ending.returned (.string a)= .returned (.string b):=by rw[h]
theorem Ae (t:ByteArray):(⟨t.data.toList.toArray⟩:ByteArray)=t:=by obtain⟨⟨l⟩⟩:=t;rfl
theorem CL {d:ByteArray} {l:List UInt8} (h:d.data.toList=l):(⟨l.toArray⟩:ByteArray)=d:=by rw[<-h,Ae]
theorem BM {a b:ByteArray} (h:a.data.toList=b.data.toList):a=b:=by rw[<-Ae a,h,Ae b]
theorem CX {t:ByteArray} (h: ¬0<t.size):t.data.toList= []:=List.length_eq_zero_iff.1 (by rw[<-Lib.size_eq];omega)
theorem Bh {t:ByteArray} (h:0<t.size):t.data.toList=t[0]::(t.extract 1 t.size).data.toList:=by
 rw[Lib.extract_data]
 have h2:0<t.data.toList.length:=by rw[<-Lib.size_eq];exact h
 rw[List.take_of_length_le (by rw[List.length_drop,<-Lib.size_eq];omega)]
 conv=>lhs;rw[<-List.drop_zero (l:=t.data.toList),List.drop_eq_getElem_cons h2]
 rfl
theorem Pw {s:ByteArray} (h:0<s.size):s.data.toList≠ []:=by rw[Bh h];simp
theorem CO (s:ByteArray) (k:Nat) (h:k<s.size):s.data.toList.getD k 0=s[k]:=by
 have h2:k<s.data.toList.length:=by rw[<-Lib.size_eq];exact h
 rw[List.getD_eq_getElem?_getD,List.getElem?_eq_getElem h2]
 rfl
theorem CF (a b:ByteArray):(a++b).data.toList=a.data.toList++b.data.toList:=by
 rw[ByteArray.data_append,Array.toList_append]
theorem Aa (s:ByteArray) (k:Nat):(s.extract k s.size).data.toList=s.data.toList.drop k:=by
 rw[Lib.extract_data,List.take_of_length_le (by rw[List.length_drop,<-Lib.size_eq];exact Nat.le_refl _)]
theorem Br (s:ByteArray) (k:Nat):(s.extract 0 k).data.toList=s.data.toList.take k:=by
 rw[Lib.extract_data,List.drop_zero];rfl
theorem one_byte (s:ByteArray) (k:Nat) (h:k<s.size):(s.extract k (k+1)).data.toList= [s[k]]:=by
 have h2:k<s.data.toList.length:=by rw[<-Lib.size_eq];exact h
 rw[Lib.extract_data,List.drop_eq_getElem_cons h2,show k+1-k=1 by omega]
 rfl
theorem Px (s:ByteArray) (k:Nat) (h:k<s.size):(s.extract k (k+1)).size=1:=by rw[ByteArray.size_extract];omega
theorem Ay (s:ByteArray) (k:Nat) (h:k<s.size):s.data.toList.drop k=s[k]::s.data.toList.drop (k+1):=by
 have h2:k<s.data.toList.length:=by rw[<-Lib.size_eq];exact h
 rw[List.drop_eq_getElem_cons h2]
 rfl
theorem Ci (s:ByteArray) (k:Nat) (h: ¬k<s.size):s.data.toList.drop k= []:=by
 rw[List.drop_eq_nil_iff,<-Lib.size_eq];omega
theorem EY (s:ByteArray) (k:Nat) (h:k<s.size):s.data.toList.take (k+1)=s.data.toList.take k++ [s[k]]:=by
 have h2:k<s.data.toList.length:=by rw[<-Lib.size_eq];exact h
 rw[List.take_succ_eq_append_getElem h2]
 rfl
theorem Py (s:ByteArray) (k:Nat) (h: ¬k<s.size):s.data.toList.take k=s.data.toList:=by
 rw[List.take_of_length_le (by rw[<-Lib.size_eq];omega)]
theorem Ap {s:ByteArray} (h:0<s.size):s.toList.isEmpty=false:=by rw[Lib.toList_data,Bh h];rfl
theorem Bl {s:ByteArray} (h:0<s.size): ¬s.toList= []:=by rw[Lib.toList_data,Bh h];simp
theorem Az {s:ByteArray} (h: ¬0<s.size):s.toList.isEmpty=true:=by rw[Lib.toList_data,CX h];rfl
theorem Bb {s:ByteArray} (h: ¬0<s.size):s.toList= []:=by rw[Lib.toList_data,CX h]
theorem EZ {c d:UInt8} (h:(c.toNat:Int)=(d.toNat:Int)):c=d:=UInt8.toNat_inj.1 (by omega)
theorem GY {c d:UInt8} (h: ¬(c.toNat:Int)=(d.toNat:Int)): ¬c=d:=fun e=>h (by rw[e])
theorem CG (c d:UInt8):((c.toNat:Int)==(d.toNat:Int))=decide (c=d):=by
 by_cases h:c=d
 ·simp[h]
 have: ¬(c.toNat:Int)=(d.toNat:Int):=fun e=>h (EZ e)
 simp[h,this]
theorem below_draws (w:World) (n:Nat):Below w.heap.size w (w.drewN n):=⟨rfl,rfl,rfl,Nat.le_refl _,fun _ _=>rfl⟩
theorem on {a b c:World} (h:Below a.heap.size a b) (k:Below b.heap.size b c):Below a.heap.size a c:=h.trans (k.mono h.size)
end Kit
namespace Kt
open Go
abbrev Bytes:=List UInt8
def blanks:Bytes:= [32,9]
def CJ (c:UInt8):Bool:=blanks.contains c
def Eh (l:Bytes):Bytes:=l.dropWhile CJ
def Ej (l:Bytes):Bytes:=(l.reverse.dropWhile CJ).reverse
def ahead:Bytes->Bytes
 | []=> []
 | [c]=> [c]
 |c::d::r=>if CJ c&&d==35 then[]else c::ahead (d::r)
def Dz (x:UInt8):Bytes->Bytes
 | []=> []
 | [c]=> [c]
 |c::d::r=>if c==x&&d==35 then[]else c::Dz x (d::r)
def bare (l:Bytes):Bytes:=Ej (Eh l)
def MB (t:Bytes):Bool:=match t with
 | []=>true
 |c::_=>c==35
def BQ (l:Bytes):Bytes:=if MB (bare l)then[]else bare (ahead (bare l))
theorem Yf (l:Bytes):Eh l= []\/ ∃c r,Eh l=c::r/\CJ c=false:=by
 unfold Eh
 induction l with
 |nil=>exact Or.inl rfl
 |cons c r ih=>
  rw[List.dropWhile_cons]
  by_cases h:CJ c=true
  ·rw[if_pos h];exact ih
  rw[if_neg h];exact Or.inr ⟨c,r,rfl,by simpa using h⟩
theorem Pz (l:Bytes) (c:UInt8):Ej (l++ [c])=if CJ c then Ej l else l++ [c]:=by
 unfold Ej
 rw[List.reverse_append,List.reverse_singleton,List.singleton_append,List.dropWhile_cons]
 split
 ·rfl
 simp
theorem Ku {c:UInt8} (h:CJ c=false) (r:Bytes):Ej (c::r)=c::Ej r:=by
 unfold Ej
 rw[List.reverse_cons,List.dropWhile_append]
 split
 ·rename_i h2
  rw[List.isEmpty_iff.1 h2]
  simp[h]
 simp
theorem F4 {c:UInt8} (h:CJ c=false) (r:Bytes):Eh (c::r)=c::r:=by
 unfold Eh;rw[List.dropWhile_cons,if_neg (by simp[h])]
theorem Hr {c:UInt8} (h:CJ c=true) (r:Bytes):Eh (c::r)=Eh r:=by
 unfold Eh;rw[List.dropWhile_cons,if_pos h]
theorem MC (l:Bytes):Ej l= []↔Eh l= []:=by
 unfold Ej Eh
 have h: ∀m:Bytes,m.dropWhile CJ= []↔ ∀c∈m,CJ c=true:=fun m=>by
  induction m with
  |nil=>simp
  |cons c r ih=>
   rw[List.dropWhile_cons]
   by_cases hc:CJ c=true
   ·rw[if_pos hc,ih];simp[hc]
   rw[if_neg hc];simp[hc]
 rw[List.reverse_eq_nil_iff,h,h]
 simp
theorem Tc: ∀l:Bytes,Eh (Ej l)=bare l
 | []=>rfl
 |c::r=>by
  unfold bare
  by_cases h:CJ c=true
  ·rw[Hr h]
   by_cases h2:Eh r= []
   ·have h3:Ej (c::r)= []:=(MC _).2 (by rw[Hr h];exact h2)
    rw[h3,h2];rfl
   have h3:Ej (c::r)=c::Ej r:=by
     have h4: ¬Ej r= []:=fun e=>h2 ((MC r).1 e)
     unfold Ej at h4 ⊢
     rw[List.reverse_cons,List.dropWhile_append,if_neg (by
      intro e
      exact h4 (by rw[List.isEmpty_iff.1 e];rfl))]
     simp
   rw[h3,Hr h,Tc r];rfl
  rw[Bool.not_eq_true]at h
  rw[F4 h,Ku h,F4 h]
theorem Td (l:Bytes):bare l= []\/ ∃c r,bare l=c::r/\CJ c=false:=by
 unfold bare
 rcases Yf l with h|⟨c,r,h,hc⟩
 ·rw[h];exact Or.inl rfl
 rw[h,Ku hc];exact Or.inr ⟨c,_,rfl,hc⟩
theorem Ux (x c:UInt8) (r:Bytes):Dz x (c::r)= []\/ ∃q,Dz x (c::r)=c::q:=by
 cases r with
 |nil=>exact Or.inr ⟨[],rfl⟩
 |cons d r=>
  rw[Dz]
  split
  ·exact Or.inl rfl
  exact Or.inr ⟨_,rfl⟩
theorem Te: ∀l:Bytes,Dz 9 (Dz 32 l)=ahead l
 | []=>rfl
 | [c]=>rfl
 |c::d::r=>by
  rw[Dz,ahead]
  by_cases h1:(c==32&&d==35)=true
  ·rw[if_pos h1]
   have:(CJ c&&d==35)=true:=by
    simp only[Bool.and_eq_true,beq_iff_eq]at h1 ⊢
    exact⟨by rw[h1.1];rfl,h1.2⟩
   rw[if_pos this]
   rfl
  rw[if_neg h1]
  have ih:=Te (d::r)
  by_cases h2:(CJ c&&d==35)=true
  ·rw[if_pos h2]
   simp only[Bool.and_eq_true,beq_iff_eq]at h1 h2
   obtain⟨h3,rfl⟩:=h2
   have hc:c=9:=by
    have:c=32\/c=9:=by simpa [CJ,blanks]using h3
    rcases this with rfl|rfl
    ·exact absurd ⟨rfl,rfl⟩ h1
    rfl
   subst hc
   have h4: ∃q,Dz 32 (35::r)=35::q:=by
    cases r with
    |nil=>exact⟨[],rfl⟩
    |cons e r=>rw[Dz,if_neg (by simp)];exact⟨_,rfl⟩
   obtain⟨q,hq⟩:=h4
   rw[hq,Dz,if_pos (by simp)]
  rw[if_neg h2,<-ih]
  rcases Ux 32 d r with h4|⟨q,h4⟩
  ·rw[h4];rfl
  rw[h4,Dz,if_neg]
  intro h5
  apply h2
  simp only[Bool.and_eq_true,beq_iff_eq]at h5 ⊢
  exact⟨by rw[h5.1];rfl,h5.2⟩
theorem Tf (x:UInt8): ∀l:Bytes,(Lib.index l [x,35]= -1/\Dz x l=l)\/ ∃k:Nat,Lib.index l [x,35]=k/\Dz x l=l.take k
 | []=>Or.inl ⟨by unfold Lib.index;rfl,rfl⟩
 | [c]=>Or.inl ⟨by
     unfold Lib.index
     rw[if_neg (by simp[List.isPrefixOf])]
     unfold Lib.index
     rfl,rfl⟩
 |c::d::r=>by
  rw[Lib.index,Dz]
  by_cases h:(c==x&&d==35)=true
  ·rw[if_pos h]
   simp only[Bool.and_eq_true,beq_iff_eq]at h
   obtain⟨rfl,rfl⟩:=h
   exact Or.inr ⟨0,by rw[if_pos (by simp[List.isPrefixOf])];rfl,rfl⟩
  rw[if_neg h]
  have hp: ¬([x,35].isPrefixOf (c::d::r)=true):=by
   intro e
   apply h
   simp only[List.isPrefixOf,Bool.and_true,Bool.and_eq_true,beq_iff_eq]at e ⊢
   exact⟨e.1.symm,e.2.symm⟩
  rw[if_neg hp]
  rcases Tf x (d::r)with⟨h1,h2⟩|⟨k,h1,h2⟩
  ·left
   rw[h1,h2]
   exact⟨rfl,rfl⟩
  right
  rw[h1,h2]
  refine⟨k+1,?_,rfl⟩
  rw[if_neg (by simp)]
  rfl
theorem aR (x:UInt8) (l:Bytes):(Lib.cut l [x,35]).1=Dz x l:=by
 unfold Lib.cut
 rcases Tf x l with⟨h1,h2⟩|⟨k,h1,h2⟩
 ·rw[h1,h2,if_neg (by decide)]
 rw[h1,h2,if_pos (by omega)]
 rfl
theorem P_ {c:UInt8} (h:CJ c=false) (r:Bytes): ∃q,ahead (c::r)=c::q:=by
 cases r with
 |nil=>exact⟨[],rfl⟩
 |cons d r=>rw[ahead,if_neg (by simp[h])];exact⟨_,rfl⟩
def QA (l:Bytes):Bytes:=if Lib.hasPrefix (Lib.trimS l blanks) [35]then[]else Lib.trimRightS (Lib.cut (Lib.cut (Lib.trimS l blanks) [32,35]).1 [9,35]).1 blanks
theorem V_ (l:Bytes):Lib.trimS l blanks=bare l:=Tc l
theorem WA (l:Bytes):QA l=BQ l:=by
 unfold QA BQ
 rw[V_,aR,aR,Te]
 rcases Td l with h|⟨c,r,h,hc⟩
 ·rw[h];rfl
 rw[h]
 have h1:Lib.hasPrefix (c::r) [35]=(c==35):=by
  unfold Lib.hasPrefix
  simp only[List.isPrefixOf,Bool.and_true]
  exact Bool.beq_comm
 rw[h1]
 show ite _ _ _=ite ((c==35)=true) _ _
 by_cases h2:(c==35)=true
 ·rw[if_pos h2,if_pos h2]
 rw[if_neg h2,if_neg h2]
 obtain⟨q,hq⟩:=P_ hc r
 show Ej (ahead (c::r))=Ej (Eh (ahead (c::r)))
 rw[hq,F4 hc]
theorem WB {l:Bytes} (h:MB (bare l)=false): ∃c r,bare (ahead (bare l))=c::r:=by
 rcases Td l with h1|⟨c,r,h1,hc⟩
 ·rw[h1]at h;simp[MB]at h
 rw[h1]
 obtain⟨q,hq⟩:=P_ hc r
 rw[hq]
 unfold bare
 rw[F4 hc,Ku hc]
 exact⟨_,_,rfl⟩
theorem OU {l:Bytes}:BQ l= []↔MB (bare l)=true:=by
 unfold BQ
 by_cases h:MB (bare l)=true
 ·rw[if_pos h];simp[h]
 rw[if_neg h]
 obtain⟨c,r,e⟩:=WB (by simpa using h)
 rw[e]
 simp[h]
theorem gK (l:Bytes):(Ej l).length<=l.length:=by
 unfold Ej
 have:=(List.dropWhile_suffix CJ (l:=l.reverse)).length_le
 simpa using this
theorem gL (l:Bytes):(Eh l).length<=l.length:=(List.dropWhile_suffix CJ).length_le
theorem ME (l:Bytes):(bare l).length<=l.length:=Nat.le_trans (gK _) (gL _)
theorem WC: ∀l:Bytes,(ahead l).length<=l.length
 | []=>Nat.le_refl _
 | [c]=>Nat.le_refl _
 |c::d::r=>by
  rw[ahead]
  split
  ·exact Nat.zero_le _
  have:=WC (d::r)
  simp only[List.length_cons]at this ⊢
  omega
theorem bP (l:Bytes):(BQ l).length<=l.length:=by
 unfold BQ
 split
 ·exact Nat.zero_le _
 exact Nat.le_trans (ME _) (Nat.le_trans (WC _) (ME _))
/-! lines -/
def lines:Bytes->List Bytes
 | []=> [[]]
 |c::r=>if c=10 then[]::lines r else(match lines r with
  | []=> [[c]]
  |p::q=>(c::p)::q)
theorem gM (l:Bytes):lines l≠ []:=by
 cases l with
 |nil=>simp[lines]
 |cons c r=>
  unfold lines
  split
  ·simp
  split<;>simp
def ended:Bytes->List Bytes
 | []=> []
 |c::r=>if c=10 then[10]::ended r else(match ended r with
  | []=> [[c]]
  |p::q=>(c::p)::q)
def EO (l:Bytes):Bytes:=Lib.trimSuffix l [10]
def go (er:Bytes->Int):List Bytes->Nat->List Bytes->List Bytes×Nat×Int
 | [],_,acc=>(acc,0,0)
 |x::r,n,acc=>if BQ x= []then go er r (n+1) acc else if er (BQ x)≠0 then([],n+1,er (BQ x))else go er r (n+1) (acc++ [BQ x])
theorem Yg:BQ []= []:=rfl
theorem Uy (er:Bytes->Int): ∀(l:List Bytes) (n:Nat) (acc:List Bytes),go er (l++ [[]]) n acc=go er l n acc
 | [],n,acc=>by
  show(if BQ []= []then(acc,0,0)else _)=_
  rw[if_pos Yg]
  rfl
 |x::r,n,acc=>by
  rw[List.cons_append,go,go,Uy er r,Uy er r]
theorem Yh {p:Bytes} (c:UInt8) (h:p≠ []):EO (c::p)=c::EO p:=by
 obtain⟨q,d,rfl⟩: ∃q d,p=q++ [d]:=⟨p.dropLast,p.getLast h,(List.dropLast_concat_getLast h).symm⟩
 unfold EO Lib.trimSuffix Lib.hasSuffix
 have h1: ∀l:Bytes,([10].isSuffixOf (l++ [d]))=(10==d):=fun l=>by
  unfold List.isSuffixOf
  simp[List.isPrefixOf]
 rw[h1,show c::(q++ [d])=(c::q)++ [d]from rfl,h1]
 by_cases h2:(10==d)=true
 ·rw[if_pos h2,if_pos h2];simp
 rw[if_neg h2,if_neg h2];rfl
theorem JB: ∀(l:Bytes),∀p∈ended l,p≠ []
 | [],p,h=>by simp[ended]at h
 |c::r,p,h=>by
  rw[ended]at h
  split at h
  ·rcases List.mem_cons.1 h with rfl|h
   ·simp
   exact JB r p h
  have ih:=JB r
  split at h
  ·simp at h;rw[h];simp
  rename_i a b e
  rcases List.mem_cons.1 h with rfl|h
  ·simp
  exact ih p (by rw[e];simp[h])
theorem FB: ∀l:Bytes,lines l=(ended l).map EO\/lines l=(ended l).map EO++ [[]]
 | []=>Or.inr rfl
 |c::r=>by
  rw[lines,ended]
  by_cases hc:c=10
  ·rw[if_pos hc,if_pos hc]
   have hu:EO [10]= []:=rfl
   rcases FB r with h|h
   ·left;rw[h,List.map_cons,hu]
   right;rw[h,List.map_cons,hu];rfl
  rw[if_neg hc,if_neg hc]
  have hs:EO [c]= [c]:=by
   unfold EO Lib.trimSuffix Lib.hasSuffix List.isSuffixOf
   rw[if_neg (by simp[List.isPrefixOf];exact fun e=>hc e.symm)]
  have hf:=JB r
  cases he:ended r with
  |nil=>
   have:lines r= [[]]:=by
    rcases FB r with h|h
    ·rw[he]at h;exact absurd h (gM r)
    rw[he]at h;exact h
   rw[this]
   left
   show[[c]]= [EO [c]]
   rw[hs]
  |cons p q=>
   rw[he]at hf
   have hp:=Yh c (hf p (by simp))
   rcases FB r with h|h
   ·rw[he,List.map_cons]at h
    rw[h];left
    show(c::EO p)::q.map EO=EO (c::p)::q.map EO
    rw[hp]
   rw[he,List.map_cons]at h
   rw[h];right
   show(c::EO p)::(q.map EO++ [[]])=EO (c::p)::q.map EO++ [[]]
   rw[hp];rfl
theorem gN (er:Bytes->Int) (l:Bytes) (n:Nat) (acc:List Bytes):go er ((ended l).map EO) n acc=go er (lines l) n acc:=by
 rcases FB l with h|h
 ·rw[h]
 rw[h,Uy]
def keep (l:List Bytes):List Bytes:=(l.map BQ).filter fun p=> !p.isEmpty
def good (er:Bytes->Int) (x:Bytes):Prop:=BQ x= []\/er (BQ x)=0
theorem Tg {x:Bytes} (h:BQ x= []) (l:List Bytes):keep (l++ [x])=keep l:=by
 unfold keep;rw[List.map_append,List.filter_append];simp[h]
theorem WE {x:Bytes} (h:BQ x≠ []) (l:List Bytes):keep (l++ [x])=keep l++ [BQ x]:=by
 unfold keep;rw[List.map_append,List.filter_append];simp[h]
theorem WG (l:List Bytes):(keep l).length<=l.length:=by
 unfold keep
 exact Nat.le_trans (List.length_filter_le _ _) (by simp)
theorem Uz (er:Bytes->Int): ∀(pre rest:List Bytes) (n:Nat) (acc:List Bytes),(∀x∈pre,good er x)->go er (pre++rest) n acc=go er rest (n+pre.length) (acc++keep pre)
 | [],rest,n,acc,_=>by simp[keep]
 |x::pre,rest,n,acc,h=>by
  have hx:=h x (by simp)
  have ih:=fun acc=>Uz er pre rest (n+1) acc fun y hy=>h y (by simp[hy])
  rw[List.cons_append,go]
  have hl:n+1+pre.length=n+(x::pre).length:=by simp;omega
  by_cases c:BQ x= []
  ·rw[if_pos c,ih,hl]
   have:keep (x::pre)=keep pre:=by unfold keep;simp[c]
   rw[this]
  rw[if_neg c]
  have he:er (BQ x)=0:=hx.resolve_left c
  rw[if_neg (by simp[he]),ih,hl]
  have:keep (x::pre)=BQ x::keep pre:=by unfold keep;simp[c]
  rw[this,List.append_assoc];rfl
theorem gP (er:Bytes->Int) {l:List Bytes} (h: ∀x∈l,good er x):go er l 0 []=(keep l,0,0):=by
 have:=Uz er l [] 0 [] h
 rw[List.append_nil]at this
 rw[this];rfl
theorem gQ {er:Bytes->Int} {pre rest:List Bytes} {x:Bytes} (h: ∀y∈pre,good er y) (hx:BQ x≠ []) (he:er (BQ x)≠0):go er (pre++x::rest) 0 []=([],pre.length+1,er (BQ x)):=by
 rw[Uz er pre _ 0 [] h,go,if_neg hx,if_pos he,Nat.zero_add]
/-! how long,how many -/
theorem Jl: ∀l:Bytes,((ended l).map List.length).sum=l.length
 | []=>rfl
 |c::r=>by
  have ih:=Jl r
  rw[ended]
  split
  ·simp only[List.map_cons,List.sum_cons,ih,List.length_cons,List.length_nil];omega
  cases he:ended r with
  |nil=>rw[he]at ih;simp at ih;simp[ih]
  |cons p q=>rw[he]at ih;simp only[List.map_cons,List.sum_cons,List.length_cons]at ih ⊢;omega
theorem mf {l:List Bytes} {p:Bytes} (h:p∈l):p.length<=(l.map List.length).sum:=by
 induction l with
 |nil=>simp at h
 |cons a r ih=>
  rw[List.map_cons,List.sum_cons]
  rcases List.mem_cons.1 h with rfl|h
  ·omega
  have:=ih h;omega
theorem Tj {l p:Bytes} (h:p∈ended l):p.length<=l.length:=by
 have:=mf h
 rw[Jl]at this
 exact this
theorem OV (l:Bytes):(ended l).length<=l.length:=by
 have h1:=Jl l
 have h2: ∀m:List Bytes,(∀p∈m,p≠ [])->m.length<=(m.map List.length).sum:=fun m hm=>by
  induction m with
  |nil=>simp
  |cons a r ih=>
   have:=ih fun p hp=>hm p (by simp[hp])
   have:=List.length_pos_iff.2 (hm a (by simp))
   simp only[List.map_cons,List.sum_cons,List.length_cons];omega
 have:=h2 _ (JB l)
 omega
theorem WH (l:Bytes):(EO l).length<=l.length:=by
 unfold EO Lib.trimSuffix
 split
 ·rw[List.length_take];omega
 exact Nat.le_refl _
theorem OX: ∀ {l:Bytes},(10:UInt8)∉l->l≠ []->ended l= [l]
 | [],_,h=>absurd rfl h
 | [c],h,_=>by
  rw[ended,if_neg (fun e=>h (by simp[e]))];rfl
 |c::d::r,h,_=>by
  have ih:=OX (l:=d::r) (fun q=>h (by simp at q ⊢;rcases q with q|q<;>simp[q])) (by simp)
  rw[ended,if_neg (fun e=>h (by simp[e])),ih]
theorem Tk: ∀ {a:Bytes} (r:Bytes),(10:UInt8)∉a->ended (a++10::r)=(a++ [10])::ended r
 | [],r,_=>by rw[List.nil_append,ended,if_pos rfl];rfl
 |c::a,r,h=>by
  have ih:=Tk (a:=a) r (fun q=>h (by simp[q]))
  rw[List.cons_append,ended,if_neg (fun e=>h (by simp[e])),ih];rfl
def more (out:List Bytes) (c:UInt8):List Bytes:=if c=10 then out++ [[]]else out.dropLast++ [out.getLastD []++ [c]]
theorem Kv: ∀(r:Bytes) (out:List Bytes) (p:Bytes),∃a q,lines r=a::q/\r.foldl more (out++ [p])=out++(p++a)::q
 | [],out,p=>⟨[],[],rfl,by simp⟩
 |c::r,out,p=>by
  rw[lines,List.foldl_cons]
  by_cases hc:c=10
  ·rw[if_pos hc,show more (out++ [p]) c=(out++ [p])++ [[]]from if_pos hc]
   obtain⟨a,q,h1,h2⟩:=Kv r (out++ [p]) []
   refine⟨[],lines r,rfl,?_⟩
   rw[h2,h1];simp
  rw[if_neg hc,show more (out++ [p]) c=(out++ [p]).dropLast++ [(out++ [p]).getLastD []++ [c]]from if_neg hc]
  obtain⟨a,q,h1,h2⟩:=Kv r out (p++ [c])
  refine⟨c::a,q,by rw[h1],?_⟩
  have e:(out++ [p]).dropLast++ [(out++ [p]).getLastD []++ [c]]=out++ [p++ [c]]:=by simp
  rw[e,h2];simp
theorem gT (l:Bytes):l.foldl more [[]]=lines l:=by
 obtain⟨a,q,h1,h2⟩:=Kv l [] []
 rw[List.nil_append,List.nil_append]at h2
 rw[h2,h1];rfl
theorem WI (l:Bytes):(lines l).length<=l.length+1:=by
 have:=OV l
 rcases FB l with h|h<;>rw[h]<;>simp<;>omega
theorem bQ {l p:Bytes} (h:p∈lines l):p.length<=l.length:=by
 have hm: ∀p,p∈(ended l).map EO->p.length<=l.length:=fun p hp=>by
  obtain⟨q,hq,rfl⟩:=List.mem_map.1 hp
  exact Nat.le_trans (WH q) (Tj hq)
 rcases FB l with e|e
 ·rw[e]at h;exact hm p h
 rw[e]at h
 rcases List.mem_append.1 h with h|h
 ·exact hm p h
 simp at h;rw[h];exact Nat.zero_le _
end Kt
namespace Gg
def mk (l:Kt.Bytes):ByteArray:=⟨l.toArray⟩
end Gg
namespace uD
open Go
def mg (c:UInt8):Bool:=decide (c=0)||decide (c=47)
def check (l:List UInt8):Int:=if l.length=0 then 5 else if 64<l.length then 11 else if l.any mg=true then 11 else if l= [46]\/l= [46,46]then 6 else 0
def bR (c:UInt8):Bool:=(decide (97<=c.toNat)&&decide (c.toNat<=122))||(decide (65<=c.toNat)&&decide (c.toNat<=90))||(decide (48<=c.toNat)&&decide (c.toNat<=57))||decide (c=46)||decide (c=95)||decide (c=43)||decide (c=45)
def plain (l:List UInt8):Bool:=decide (check l=0)&&decide (l.headD 0≠45)&&l.all bR
def lt (a b:List UInt8):Prop:=Lib.compareBytes a b= -1
instance (a b:List UInt8):Decidable (lt a b):=by unfold lt;infer_instance
theorem gU (a:List UInt8):Lib.compareBytes a a=0:=by
 induction a with
 |nil=>rfl
 |cons c r ih=>simp only[Lib.compareBytes,UInt8.lt_irrefl,if_false,ih]
theorem lt_trans: ∀ {a b c:List UInt8},lt a b->lt b c->lt a c
 | [],[],_,h,_=>by simp[lt,Lib.compareBytes]at h
 | [],_::_,[],_,h=>by simp[lt,Lib.compareBytes]at h
 | [],_::_,_::_,_,_=>rfl
 |_::_,[],_,h,_=>by simp[lt,Lib.compareBytes]at h
 |_::_,_::_,[],_,h=>by simp[lt,Lib.compareBytes]at h
 |x::a,y::b,z::c,h1,h2=>by
  have ih:= @lt_trans a b c
  unfold lt at*
  simp only[Lib.compareBytes]at*
  by_cases xy:x<y
  ·by_cases yz:y<z
   ·rw[if_pos (UInt8.lt_trans xy yz)]
   rw[if_neg yz]at h2
   by_cases zy:z<y
   ·rw[if_pos zy]at h2;simp at h2
   have e:y=z:=UInt8.le_antisymm (UInt8.not_lt.1 zy) (UInt8.not_lt.1 yz)
   subst e;rw[if_pos xy]
  rw[if_neg xy]at h1
  by_cases yx:y<x
  ·rw[if_pos yx]at h1;simp at h1
  have e:x=y:=UInt8.le_antisymm (UInt8.not_lt.1 yx) (UInt8.not_lt.1 xy)
  subst e
  rw[if_neg yx]at h1
  by_cases yz:x<z
  ·rw[if_pos yz]
  rw[if_neg yz]at h2 ⊢
  by_cases zy:z<x
  ·rw[if_pos zy]at h2;simp at h2
  rw[if_neg zy]at h2 ⊢
  exact ih h1 h2
theorem lt_irrefl (a:List UInt8): ¬lt a a:=by unfold lt;rw[gU];decide
end uD
namespace Ki
open uD (check)
abbrev Bytes:=List UInt8
def flush (now:Bytes):List Bytes:=if now= []\/now= [46]then[]else[now]
def pgo:Bytes->Bytes->List Bytes
 | [],now=>flush now
 |c::r,now=>if c=47 then flush now++pgo r []else pgo r (now++ [c])
def parts (l:Bytes):List Bytes:=pgo l []
def text (L:List Bytes):Bytes:=if L= []then[47]else L.flatMap (fun p=>47::p)
def Ei (out:List Bytes) (p:Bytes):List Bytes:=if p= [46,46]then out.dropLast else out++ [p]
def DD (L:List Bytes):List Bytes:=L.foldl Ei []
def clean (l:Bytes):Bytes:=text (DD (parts l))
def base (s:Bytes):Bytes:=(parts (clean s)).getLastD []
def DL:List Bytes->Bytes
 | []=> []
 | [p]=>p
 |p::q::r=>p++47::DL (q::r)
def mh (s dir:Bytes):Bool:=decide (clean s=s)&&decide (clean dir=dir)&&(parts dir).isPrefixOf (parts s)
def under (s dir:Bytes):Bytes×Bool:=if mh s dir=true then(DL ((parts s).drop (parts dir).length),true)else([],false)
def Part (p:Bytes):Prop:=(47:UInt8)∉p/\p≠ []/\p≠ [46]
theorem OY {now:Bytes} (h:(47:UInt8)∉now): ∀p∈flush now,Part p:=by
 intro p hp
 unfold flush at hp
 split at hp
 ·simp at hp
 rename_i h2
 simp only[List.mem_singleton]at hp
 subst hp
 exact⟨h,fun e=>h2 (Or.inl e),fun e=>h2 (Or.inr e)⟩
theorem NP: ∀(l now:Bytes),(47:UInt8)∉now-> ∀p∈pgo l now,Part p
 | [],now,h=>OY h
 |c::r,now,h=>by
  intro p hp
  unfold pgo at hp
  split at hp
  ·rcases List.mem_append.1 hp with h1|h1
   ·exact OY h p h1
   exact NP r [] (by simp) p h1
  rename_i hc
  exact NP r _ (by
   intro e
   rcases List.mem_append.1 e with e|e
   ·exact h e
   exact hc (List.mem_singleton.1 e).symm) p hp
theorem NQ (l:Bytes): ∀p∈parts l,Part p:=NP l [] (by simp)
theorem Yi {p:Bytes} (h:Part p):flush p= [p]:=by
 unfold flush;rw[if_neg];rintro(e|e);exact h.2.1 e;exact h.2.2 e
theorem aU: ∀(p r now:Bytes),(47:UInt8)∉p->pgo (p++r) now=pgo r (now++p)
 | [],r,now,_=>by simp
 |c::p,r,now,h=>by
  simp only[List.mem_cons,not_or]at h
  show pgo (c::(p++r)) now=_
  rw[pgo,if_neg (fun e=>h.1 e.symm),aU p r (now++ [c]) h.2,List.append_assoc]
  rfl
theorem bS (l:Bytes) (r now:Bytes):pgo (l++47::r) now=pgo l now++parts r:=by
 induction l generalizing now with
 |nil=>simp[pgo,parts]
 |cons c l ih=>
  show pgo (c::(l++47::r)) now=_
  rw[pgo,pgo]
  split
  ·rw[ih,List.append_assoc]
  rw[ih]
theorem Ht (l r:Bytes):parts (l++47::r)=parts l++parts r:=bS l r []
theorem Tm {p:Bytes} (h:Part p):parts p= [p]:=by
 have:=aU p [] [] h.1
 rw[List.append_nil]at this
 unfold parts;rw[this]
 show flush ([]++p)=_
 rw[List.nil_append,Yi h]
theorem bT:parts []= []:=rfl
theorem QB: ∀(L:List Bytes),(∀p∈L,Part p)->parts (L.flatMap (fun p=>47::p))=L
 | [],_=>rfl
 |p::L,h=>by
  have ih:=QB L (fun q hq=>h q (by simp[hq]))
  have hp:=h p (by simp)
  show parts (47::p++L.flatMap (fun p=>47::p))=_
  cases L with
  |nil=>
   show parts ([]++47::(p++ []))=_
   rw[Ht,List.append_nil,Tm hp];rfl
  |cons q L=>
   have e:(47::p++(q::L).flatMap (fun p=>47::p):Bytes)= []++47::(p++47::(q++L.flatMap (fun p=>47::p))):=by simp
   have e2:((q::L).flatMap (fun p=>47::p):Bytes)= []++47::(q++L.flatMap (fun p=>47::p)):=by simp
   rw[e2,Ht]at ih
   rw[e,Ht,Ht,Tm hp]
   simp only[bT,List.nil_append]at ih ⊢
   rw[ih];rfl
theorem Yj {L:List Bytes} (h: ∀p∈L,Part p):parts (text L)=L:=by
 unfold text
 split
 ·rename_i e;subst e;rfl
 exact QB L h
theorem Yk {out:List Bytes} {p:Bytes} (h: ∀q∈out,Part q/\q≠ [46,46]) (hp:Part p): ∀q∈Ei out p,Part q/\q≠ [46,46]:=by
 intro q hq
 unfold Ei at hq
 split at hq
 ·exact h q (List.dropLast_subset _ hq)
 rename_i hne
 rcases List.mem_append.1 hq with h1|h1
 ·exact h q h1
 simp only[List.mem_singleton]at h1;subst h1;exact⟨hp,hne⟩
theorem Tn: ∀(L out:List Bytes),(∀q∈out,Part q/\q≠ [46,46])->(∀p∈L,Part p)-> ∀q∈L.foldl Ei out,Part q/\q≠ [46,46]
 | [],_,h,_=>h
 |p::L,out,h,hL=>Tn L (Ei out p) (Yk h (hL p (by simp))) (fun q hq=>hL q (by simp[hq]))
theorem Kw {L:List Bytes} (h: ∀p∈L,Part p): ∀q∈DD L,Part q/\q≠ [46,46]:=Tn L [] (by simp) h
theorem OZ (l:Bytes):parts (clean l)=DD (parts l):=Yj fun p hp=>(Kw (NQ l) p hp).1
theorem MF (l:Bytes): ∀p∈parts (clean l),Part p/\p≠ [46,46]:=by rw[OZ];exact Kw (NQ l)
theorem Si (A B:List Bytes):DD (A++B)=B.foldl Ei (DD A):=by unfold DD;rw[List.foldl_append]
/-! lengths -/
theorem Tp (now:Bytes):(flush now).length<=1:=by unfold flush;split<;>simp
theorem U0: ∀(l now:Bytes),(pgo l now).length<=l.length+1
 | [],now=>by have:=Tp now;simpa [pgo]using this
 |c::r,now=>by
  unfold pgo
  split
  ·have:=U0 r [];have:=Tp now
   simp only[List.length_append,List.length_cons];omega
  have:=U0 r (now++ [c]);simp only[List.length_cons];omega
theorem WJ (l:Bytes):(parts l).length<=l.length+1:=U0 l []
def total (L:List Bytes):Nat:=(L.map (fun p=>p.length+1)).foldr (· + ·) 0
theorem Ev (p:Bytes) (L:List Bytes):total (p::L)=p.length+1+total L:=rfl
theorem FE (A B:List Bytes):total (A++B)=total A+total B:=by
 induction A with
 |nil=>simp[total]
 |cons a A ih=>rw[List.cons_append,Ev,Ev,ih];omega
theorem Oa (now:Bytes):total (flush now)<=now.length+1:=by unfold flush;split<;>simp[total]
theorem NR: ∀(l now:Bytes),total (pgo l now)<=l.length+now.length+1
 | [],now=>by have:=Oa now;simpa [pgo]using this
 |c::r,now=>by
  unfold pgo
  split
  ·have:=NR r [];have:=Oa now
   rw[FE];simp only[List.length_nil,List.length_cons]at *;omega
  have:=NR r (now++ [c]);simp only[List.length_append,List.length_cons,List.length_nil]at *;omega
theorem Hu (l:Bytes):total (parts l)<=l.length+1:=NR l []
theorem Ky (L:List Bytes):(L.flatMap (fun p=>47::p)).length=total L:=by
 induction L with
 |nil=>rfl
 |cons p L ih=>rw[List.flatMap_cons,List.length_append,ih,Ev];simp
theorem QC (L:List Bytes):total L.dropLast<=total L:=by
 induction L with
 |nil=>simp
 |cons p L ih=>
  cases L with
  |nil=>simp[total]
  |cons q L=>rw[List.dropLast_cons_cons,Ev,Ev];omega
theorem JC: ∀(L out:List Bytes),total (L.foldl Ei out)<=total out+total L
 | [],out=>by simp[total]
 |p::L,out=>by
  have h:=JC L (Ei out p)
  have h2:total (Ei out p)<=total out+(p.length+1):=by
   unfold Ei
   split
   ·have:=QC out;omega
   rw[FE];simp[total]
  rw[List.foldl_cons,Ev];omega
theorem gV (L:List Bytes):(text L).length<=total L+1:=by
 unfold text
 split
 ·simp
 rw[Ky];omega
theorem Tq (l:Bytes):(clean l).length<=l.length+2:=by
 have h1:=gV (DD (parts l))
 have h2:=JC (parts l) []
 have h3:=Hu l
 unfold clean
 simp only[DD]at*
 have:total []=0:=rfl
 omega
end Ki
namespace Ki
open Go
open Kit (Ae CL Aa Br BM)
def pieces:Bytes->List Bytes
 | []=> [[]]
 |c::r=>if c=47 then[]::pieces r else(match pieces r with
  | []=> [[c]]
  |p::q=>(c::p)::q)
theorem NS (l:Bytes):pieces l≠ []:=by
 cases l with
 |nil=>simp[pieces]
 |cons c r=>
  unfold pieces
  split
  ·simp
  split<;>simp
theorem MG (r:Bytes):pieces (47::r)= []::pieces r:=by rw[pieces,if_pos rfl]
theorem JD {c:UInt8} (h:c≠47) (r:Bytes): ∃p q,pieces r=p::q/\pieces (c::r)=(c::p)::q:=by
 cases hp:pieces r with
 |nil=>exact absurd hp (NS r)
 |cons p q=>exact⟨p,q,rfl,by rw[pieces,if_neg h,hp]⟩
theorem MH: ∀(l:Bytes),(47:UInt8)∉l->pieces l= [l]
 | [],_=>rfl
 |c::r,h=>by
  simp only[List.mem_cons,not_or]at h
  obtain⟨p,q,e1,e2⟩:=JD (c:=c) (fun e=>h.1 e.symm) r
  rw[MH r h.2]at e1
  injection e1 with e1 e3
  rw[e2,<-e1,<-e3]
theorem QD: ∀(a r:Bytes),(47:UInt8)∉a->pieces (a++47::r)=a::pieces r
 | [],r,_=>MG r
 |c::a,r,h=>by
  simp only[List.mem_cons,not_or]at h
  obtain⟨p,q,e1,e2⟩:=JD (c:=c) (fun e=>h.1 e.symm) (a++47::r)
  rw[QD a r h.2]at e1
  injection e1 with e1 e3
  show pieces (c::(a++47::r))=_
  rw[e2,<-e1,<-e3]
def keeps (p:Bytes):Bool:=p != []&&p != [46]
theorem Ob (p:Bytes):flush p=if keeps p=true then[p]else[]:=by
 unfold flush keeps
 by_cases h1:p= []<;>by_cases h2:p= [46]<;>simp[h1,h2]
theorem Kz: ∀(l now:Bytes) (p:Bytes) (q:List Bytes),pieces l=p::q->pgo l now=((now++p)::q).filter keeps
 | [],now,p,q,h=>by
  injection h with h1 h2
  subst h1 h2
  rw[pgo,Ob,List.append_nil,List.filter_cons,List.filter_nil]
 |c::r,now,p,q,h=>by
  unfold pgo
  split
  ·rename_i hc
   subst hc
   rw[MG]at h
   injection h with h1 h2
   subst h1
   obtain⟨p2,q2,e⟩: ∃p2 q2,pieces r=p2::q2:=by
    cases hp:pieces r with
    |nil=>exact absurd hp (NS r)
    |cons p q=>exact⟨p,q,rfl⟩
   rw[Kz r [] p2 q2 e,List.nil_append,<-h2,e,List.append_nil,Ob,List.filter_cons (x:=now)]
   split<;>rfl
  rename_i hc
  obtain⟨p2,q2,e1,e2⟩:=JD hc r
  rw[e2]at h
  injection h with h1 h2
  subst h1 h2
  rw[Kz r (now++ [c]) p2 q2 e1]
  simp
theorem U1 (l:Bytes):parts l=(pieces l).filter keeps:=by
 cases hp:pieces l with
 |nil=>exact absurd hp (NS l)
 |cons p q=>unfold parts;rw[Kz l [] p q hp,List.nil_append]
/-! texts of bytes -/
def mk (l:Bytes):ByteArray:=⟨l.toArray⟩
def Du (s:ByteArray):List ByteArray:=(pieces s.data.toList).map mk
def partsOf (s:ByteArray):List ByteArray:=(parts s.data.toList).map mk
theorem mi (s:ByteArray):mk s.data.toList=s:=Ae s
theorem WK (L:List Bytes):(L.map mk).map (fun x=>x.data.toList)=L:=by rw[List.map_map];exact List.map_id _
def Dc (x:ByteArray):Bool:=keeps x.data.toList
theorem QE (s:ByteArray):partsOf s=(Du s).filter Dc:=by
 unfold partsOf Du
 rw[U1,List.filter_map]
 rfl
theorem index_none: ∀(l:Bytes) (c:UInt8),Lib.indexByte l c<0->c∉l
 | [],_,_=>by simp
 |d::r,c,h=>by
  rw[Lib.indexByte]at h
  split at h
  ·omega
  rename_i hd
  have h1:=Lib.indexByte_ge r c
  simp only[List.mem_cons,not_or]
  refine⟨fun e=>hd (by simp[e]),index_none r c ?_⟩
  split at h
  ·rename_i h2
   simp at h2;omega
  omega
theorem K3: ∀(l:Bytes) (c:UInt8),0<=Lib.indexByte l c-> ∃k:Nat,Lib.indexByte l c=k/\k<l.length/\l=l.take k++c::l.drop (k+1)/\c∉l.take k
 | [],c,h=>by simp[Lib.indexByte]at h
 |d::r,c,h=>by
  rw[Lib.indexByte]at h ⊢
  split at h
  ·rename_i hd
   rw[if_pos hd]
   have:d=c:=by simpa using hd
   subst this
   exact⟨0,rfl,by simp,by simp,by simp⟩
  rename_i hd
  rw[if_neg hd]
  split at h
  ·omega
  rename_i h2
  rw[if_neg h2]
  have h1:=Lib.indexByte_ge r c
  simp at h2
  obtain⟨k,e1,e2,e3,e4⟩:=K3 r c (by omega)
  refine⟨k+1,by rw[e1];rfl,by simp;omega,?_,?_⟩
  ·show d::r=d::(r.take k++c::r.drop (k+1))
   rw[<-e3]
  rw[List.take_succ_cons]
  simp only[List.mem_cons,not_or]
  exact⟨fun e=>hd (by simp[e]),e4⟩
theorem WL (r:ByteArray):(Lib.indexByte r.data.toList 47= -1/\Du r= [r])\/
    (∃k:Nat,Lib.indexByte r.data.toList 47=k/\k<r.size/\Du r=r.extract 0 k::Du (r.extract (k+1) r.size)):=by
 rcases Int.lt_or_le (Lib.indexByte r.data.toList 47) 0 with h|h
 ·left
  have h1:=Lib.indexByte_ge r.data.toList 47
  refine⟨by omega,?_⟩
  unfold Du
  rw[MH _ (index_none _ _ h),List.map_singleton,mi]
 right
 obtain⟨k,e1,e2,e3,e4⟩:=K3 _ _ h
 refine⟨k,e1,by rw[Lib.size_eq];exact e2,?_⟩
 unfold Du
 rw[Aa]
 conv=>lhs;rw[e3,QD _ _ e4]
 rw[List.map_cons]
 congr 1
 apply BM
 rw[Br];rfl
end Ki
namespace Range
structure AP (T:Nat->Prop) (A B:World):Prop where
 os:B.os=A.os
 tape:B.tape=A.tape
 output:B.output=A.output
 size:A.heap.size<=B.heap.size
 block: ∀k,k<A.heap.size-> ¬T k->B.heap[k]? =A.heap[k]?
section
variable {T T':Nat->Prop} {A B C:World}
theorem AP.refl (T:Nat->Prop) (A:World):AP T A A:=⟨rfl,rfl,rfl,Nat.le_refl _,fun _ _ _=>rfl⟩
theorem AP.trans (h:AP T A B) (k:AP T B C):AP T A C:=
 ⟨k.os.trans h.os,k.tape.trans h.tape,k.output.trans h.output,Nat.le_trans h.size k.size,fun i hi ht=>(k.block i (Nat.lt_of_lt_of_le hi h.size) ht).trans (h.block i hi ht)⟩
theorem AP.wider (h:AP T A B) (hs: ∀k,T k->T' k):AP T' A B:=⟨h.os,h.tape,h.output,h.size,fun i hi ht=>h.block i hi (fun e=>ht (hs i e))⟩
theorem AP.Jm {row:Option Nat} (h:A.grownBy B row) (hr: ∀r,row=some r->T r):AP T A B:=
 ⟨h.os,h.tape,h.output,h.size,fun i hi ht=>h.block i hi (fun e=>ht (hr i e.symm))⟩
theorem AP.of_below {n:Nat} (h:Below n A B) (hs: ∀k,n<=k->k<A.heap.size->T k):AP T A B:=
 ⟨h.os,h.tape,h.output,h.size,fun i hi ht=>h.block i (by
  rcases Nat.lt_or_ge i n with hlt|hge
  ·exact hlt
  exact absurd (hs i hge hi) ht)⟩
theorem AP.new (h:Below A.heap.size A B):AP T A B:=AP.of_below h (fun k h1 h2=>absurd h1 (by omega))
theorem AP.alloc (T:Nat->Prop) (A:World) (o:Obj):AP T A (A.alloc o):=AP.Jm (World.grownBy_alloc A o none) (fun r e=>by cases e)
theorem AP.putObj {r:Nat} (o:Obj) (h:T r):AP T A (A.putObj r o):=AP.Jm (grownBy_putObj' A r o) (fun k e=>by cases e;exact h)
theorem NT (A:World) (a:Addr) (v:Value):A.grownBy (A.setCell a v) (some a.block):=
 ⟨rfl,rfl,rfl,(KeepsWalks.setCell A a v).size,fun k _ hk=>Below.heap_setCell _ _ _ k (fun e=>hk (by rw[e]))⟩
theorem AP.setCell {a:Addr} (v:Value) (h:T a.block):AP T A (A.setCell a v):=AP.Jm (NT A a v) (fun k e=>by cases e;exact h)
theorem AP.draw (T:Nat->Prop) (A:World) (n:Nat):AP T A (A.drewN n):=⟨rfl,rfl,rfl,Nat.le_refl _,fun _ _ _=>rfl⟩
theorem AP.below {n:Nat} (h:AP T A B) (hs: ∀k,T k->n<=k) (hn:n<=A.heap.size):Below n A B:=
 ⟨h.os,h.tape,h.output,h.size,fun i hi=>h.block i (by omega) (fun e=>by have:=hs i e;omega)⟩
theorem AP.keeps {k:Nat} {o:Obj} (h:AP T A B) (hk:A.heap[k]? =some o) (ht: ¬T k):B.heap[k]? =some o:=
 (h.block k (Array.getElem?_eq_some_iff.1 hk).1 ht).trans hk
theorem AP.cell {a:Addr} {v:Value} (h:AP T A B) (hc:A.cell? a=some v) (ht: ¬T a.block):B.cell? a=some v:=
 (World.cell?_of_block (h.block _ (World.block_lt_of_cell? A a hc) ht)).trans hc
theorem AP.frozen {a:Addr} {v:Value} (h:AP T A B) (hc:A.cell? a=some v) (ht: ¬T a.block):B.frozen? a=A.frozen? a:=
 World.frozen?_of_block (h.block _ (World.block_lt_of_cell? A a hc) ht)
theorem AP.row {base:Nat} {e:TypeId} {size n:Nat} {v:Value} {xs:List Value} (h:AP T A B) (hr:A.ownsRow base e size v n xs) (ht: ∀k,base<=k-> ¬T k):B.ownsRow base e size v n xs:=by
 refine⟨hr.1,?_⟩
 rcases hr.2 with h0|⟨g,cap,cur,e1,hb,hh,rest⟩
 ·exact Or.inl h0
 exact Or.inr ⟨g,cap,cur,e1,hb,h.keeps hh (ht g hb),rest⟩
theorem AP.qi {base g n cap:Nat} {e:TypeId} {size m:Nat} {xs:List Value} (h:AP T A B) (hr:A.ownsRow base e size (.slice (some ⟨g,0,none⟩) n cap) m xs) (ht: ¬T g):B.ownsRow base e size (.slice (some ⟨g,0,none⟩) n cap) m xs:=by
 refine⟨hr.1,?_⟩
 rcases hr.2 with⟨h0,_⟩|⟨g',cap',cur,e1,hb,hh,rest⟩
 ·cases h0
 cases e1
 exact Or.inr ⟨g,cap,cur,rfl,hb,h.keeps hh ht,rest⟩
end
def Its (O:Nat->Prop) (n m:Nat) (k:Nat):Prop:=O k\/(n<=k/\k<n+m)
def Yields (P:Program) (l:Nat) (v:Value) (W:World) (R:Ending->World->Prop):Prop:=
 ∃fn tmps assign body,(Instr.yield l #[v]).run P W= .ok (.round l fn tmps assign body) W/\RoundIn Fence.wide 9 P l fn tmps assign body W R
theorem FY {P:Program} {l f:Nat} {tmps:Array Value} {assign body:Code} {w:World} {R:Ending->World->Prop} {n:Nat} (m:Nat) (h:RoundIn Fence.wide n P l f tmps assign body w R):RoundIn Fence.wide m P l f tmps assign body w R:=
 ⟨trivial,fun c cs _=>h.2 c cs (room_wide _)⟩
theorem gW {P:Program} {l f:Nat} {tmps:Array Value} {assign body:Code} {w:World} {R:Ending->World->Prop} {n:Nat} (l' m:Nat) (h:RoundIn Fence.wide n P l f tmps assign body w R):RoundIn (Fence.wide.inRound l') m P l f tmps assign body w R:=
 ⟨trivial,fun c cs _=>h.2 c cs (room_wide _)⟩
def Seq {α:Type} (P:Program) (g:Nat) (lb:Array Value) (enc:α->Value) (O:Nat->Prop) (m:Nat) (xs:List α) (w0:World):Prop:=
 ∀(l:Nat) (J Jx:List α->World->Prop) (W:World),Below w0.heap.size w0 W->
  (∀s A B,J s A->AP (Its O W.heap.size m) A B->J s B)->(∀s A B,Jx s A->AP (Its O W.heap.size m) A B->Jx s B)->
  (∀pre x W1,J pre W1->W.heap.size+m<=W1.heap.size->pre++ [x]<+:xs->Yields P l (enc x) W1 fun e W'=>
   (e= .returned (.bool true)/\J (pre++ [x]) W'/\AP (fun k=> ¬Its O W.heap.size m k) W1 W')\/(e= .returned (.bool false)/\Jx (pre++ [x]) W'/\AP (fun k=> ¬Its O W.heap.size m k) W1 W'))->
  J [] W->
  Calls P g (#[.func (.yield l) #[] #[]]++lb) W fun e W'=>(∃v,e= .returned v)/\(J xs W'\/ ∃pre,pre<+:xs/\Jx pre W')
def roundEnd {α:Type} (T:Nat->Prop) (I:List α->World->Prop) (Ix:Code->List α->World->Prop) (xs:List α) (W:World):Exit->Act->World->Prop
 | .normal,_,W'=>AP (fun k=> ¬T k) W W'/\I xs W'
 | .ret,_,W'=>AP (fun k=> ¬T k) W W'/\Ix .ret xs W'
 | .exit id,_,W'=>AP (fun k=> ¬T k) W W'/\Ix (.exit id) xs W'
 | .goto t,_,W'=>AP (fun k=> ¬T k) W W'/\Ix (.goto t) xs W'
 | .panic _,_,_=>False
 | .outgrown,_,_=>False
theorem QF {α:Type} {P:Program} {n:Nat} {g:Operand} {ps:Array Tmp} {assign body:Code} {Q:Exit->Act->World->Prop} {a:Act} {w:World}
    {gf:Nat} {lb:Array Value} (hg:a.eval g= .func (.func gf) #[] lb) (eg: ∀args w,(callFunc gf args).run P w= .ok (.enter gf args) w)
    {enc:α->Value} {O:Nat->Prop} {m:Nat} {xs:List α} (hseq:Seq P gf lb enc O m xs w) (hO: ∀k,O k->k<w.heap.size) (hps:ps.size=1)
    (T:Nat->Prop) (hT: ∀k,T k↔Its O w.heap.size (m+2) k)
    (I:List α->World->Prop) (Ix:Code->List α->World->Prop) (hI: ∀s A B,I s A->AP T A B->I s B) (hIx: ∀c s A B,Ix c s A->AP T A B->Ix c s B) (h0:I [] w) (a₁:α->Act)
    (hassign: ∀(l:Nat) (x:α) (W:World) (K:Act->World->Prop),K (a₁ x) W->
     assign.wpIn (Fence.wide.inRound l) 9 P (Exit.then K (fun _ _ _=>False)) {tmps:=(ps.zip #[enc x]).foldl (fun t (p,v)=>t.setIfInBounds p v) a.tmps,defers:= []} W)
    (hbody: ∀(l:Nat) (pre:List α) (x:α) (W:World),I pre W->w.heap.size+m+2<=W.heap.size->pre++ [x]<+:xs->body.wpIn (Fence.wide.inRound l) 9 P (roundEnd T I Ix (pre++ [x]) W) (a₁ x) W)
    (hdone: ∀(W:World),I xs W->W.heap[w.heap.size]? =some (.deferred (some []))->Q .normal {a with defers:= {target:= .collected w.heap.size,args:= #[]}::a.defers} W)
    (hstop: ∀(c:Code) (pre:List α) (W:World),pre<+:xs->Ix c pre W->W.heap[w.heap.size]? =some (.deferred (some []))->c.wpIn Fence.wide n P Q {a with defers:= {target:= .collected w.heap.size,args:= #[]}::a.defers} W):
    (Code.rangeFunc g ps assign body).wpIn Fence.wide n P Q a w:=by
 refine wpIn_rangeFunc ?_
 intro fn hfn
 show∃(l:Nat) (mark:List Deferred) (w₁:World) (d:Deferred) (w₁':World) (f:FuncId) (args:Array Value) (w₂:World),
     (Instr.enterLoop fn a.tmps ps assign body none).run P w= .ok (l,mark) w₁/\_
 obtain⟨rc,hrc⟩: ∃rc:LoopState->Option Code->Loop,rc=fun st pe=> {state:=st,pending:=pe,fn,tmps:=a.tmps,params:=ps,assign,body,defers:=w.heap.size}:=⟨_,rfl⟩
 obtain⟨W1,hW1⟩: ∃W1,(w.alloc (.deferred (some []))).alloc (.loop (rc .ready none))=W1:=⟨_,rfl⟩
 have hs1:W1.heap.size=w.heap.size+2:=by rw[<-hW1];simp
 have hL1:W1.heap[w.heap.size+1]? =some (.loop (rc .ready none)):=by
  rw[<-hW1];have:=World.alloc_heap_new (w.alloc (.deferred (some []))) (.loop (rc .ready none));rwa[World.size_alloc]at this
 have hK1:W1.heap[w.heap.size]? =some (.deferred (some [])):=by
  rw[<-hW1];exact(Below.heap_alloc _ _ _ (by simp)).trans (World.alloc_heap_new w _)
 have hI1:I [] W1:=by rw[<-hW1];exact hI _ _ _ (hI _ _ _ h0 (AP.alloc _ _ _)) (AP.alloc _ _ _)
 have hb1:Below w.heap.size w W1:=by rw[<-hW1];exact((Below.refl _ w).alloc (Nat.le_refl _) _).alloc (by simp) _
 have tw: ∀k,Its O W1.heap.size m k->T k:=fun k hk=>(hT k).2 (by
  rcases hk with hk|⟨h1,h2⟩
  ·exact Or.inl hk
  exact Or.inr ⟨by omega,by omega⟩)
 have t0:T w.heap.size:=(hT _).2 (Or.inr ⟨Nat.le_refl _,by omega⟩)
 have t1:T (w.heap.size+1):=(hT _).2 (Or.inr ⟨by omega,by omega⟩)
 have n0: ¬Its O W1.heap.size m w.heap.size:=by
  rintro(h|⟨h,_⟩)
  ·have:=hO _ h;omega
  omega
 have n1: ¬Its O W1.heap.size m (w.heap.size+1):=by
  rintro(h|⟨h,_⟩)
  ·have:=hO _ h;omega
  omega
 refine⟨w.heap.size+1,[{target:= .collected w.heap.size,args:= #[]}],W1,{target:= .fn (.func gf) lb,args:= #[.func (.yield (w.heap.size+1)) #[] #[]]},W1,gf,
  #[.func (.yield (w.heap.size+1)) #[] #[]]++lb,W1,?_,?_,?_,?_,fun h=>by simp[Fence.wide]at h,?_⟩
 ·rw[<-hW1,hrc];exact run_enterLoop_outer _ _ _ _ _
 ·simp only[resolve,hg]
  simp[go_sem]
 ·intro f' _;trivial
 ·simp[invoke,go_sem,eg]
 refine callsIn_wide.2 ((hseq (w.heap.size+1)
   (fun pre W=>I pre W/\W.heap[w.heap.size+1]? =some (.loop (rc .ready none))/\W.heap[w.heap.size]? =some (.deferred (some [])))
   (fun pre W=> ∃c,Ix c pre W/\W.heap[w.heap.size+1]? =some (.loop (rc .done (some c)))/\W.heap[w.heap.size]? =some (.deferred (some [])))
   W1 hb1
   (fun s A B h ht=>⟨hI s A B h.1 (ht.wider tw),ht.keeps h.2.1 n1,ht.keeps h.2.2 n0⟩)
   (fun s A B h ht=>by
    obtain⟨c,hc,hl,hk⟩:=h
    exact⟨c,hIx c s A B hc (ht.wider tw),ht.keeps hl n1,ht.keeps hk n0⟩)
   ?_ ⟨hI1,hL1,hK1⟩).mono ?_)
 ·rintro pre x W ⟨hi,hl,hk⟩ hsz hpre
  have hlt:w.heap.size+1<W.heap.size:=(Array.getElem?_eq_some_iff.1 hl).1
  have hy:=run_yield (P:=P) (args:= #[enc x]) hl (by rw[hrc];exact hps.symm)
  rw[hrc]at hy
  refine⟨fn,_,assign,body,hy,roundIn_of_wpIn trivial (hassign _ x W _ ⟨_,run_beginRound hl (by rw[hrc]),?_⟩)⟩
  have hl2:(W.putObj (w.heap.size+1) (.loop {rc .ready none with state:= .busy})).heap[w.heap.size+1]? =some (.loop {rc .ready none with state:= .busy}):=World.putObj_heap_same hlt
  have hk2:(W.putObj (w.heap.size+1) (.loop {rc .ready none with state:= .busy})).heap[w.heap.size]? =some (.deferred (some [])):=(World.putObj_heap_other (by omega)).trans hk
  have hw2:AP (fun k=> ¬Its O W1.heap.size m k) W (W.putObj (w.heap.size+1) (.loop {rc .ready none with state:= .busy})):=AP.putObj _ n1
  refine wpIn_mono (hbody _ pre x _ (hI _ _ _ hi (AP.putObj _ t1)) (by simp;omega) hpre) ?_
  have fin: ∀(jump:Option Code) (W3:World),AP (fun k=> ¬T k) (W.putObj (w.heap.size+1) (.loop {rc .ready none with state:= .busy})) W3->
      (Instr.endRound (w.heap.size+1) jump).run P W3= .ok (.bool jump.isNone) (W3.putObj (w.heap.size+1) (.loop (rc (if jump.isNone then .ready else .done) jump)))/\
      (W3.putObj (w.heap.size+1) (.loop (rc (if jump.isNone then .ready else .done) jump))).heap[w.heap.size+1]? =some (.loop (rc (if jump.isNone then .ready else .done) jump))/\
      (W3.putObj (w.heap.size+1) (.loop (rc (if jump.isNone then .ready else .done) jump))).heap[w.heap.size]? =some (.deferred (some [])):=fun jump W3 hk3=>by
   have hl3:=hk3.keeps hl2 (fun h=>h t1)
   have hr:=run_endRound (P:=P) jump hl3
   rw[hrc]at hr ⊢
   exact⟨hr,World.putObj_heap_same (Array.getElem?_eq_some_iff.1 hl3).1,(World.putObj_heap_other (by omega)).trans (hk3.keeps hk2 (fun h=>h t0))⟩
  rintro e a3 W3 hp
  cases e with
  |normal=>
   obtain⟨hk3,hi3⟩:=hp
   obtain⟨hr,hl4,hk4⟩:=fin none W3 hk3
   exact⟨_,_,hr,.inl ⟨rfl,⟨hI _ _ _ hi3 (AP.putObj _ t1),hl4,hk4⟩,(hw2.trans (hk3.wider fun k h h2=>h (tw k h2))).trans (AP.putObj _ n1)⟩⟩
  |ret=>
   obtain⟨hk3,hi3⟩:=hp
   obtain⟨hr,hl4,hk4⟩:=fin (some .ret) W3 hk3
   exact⟨_,_,hr,.inr ⟨rfl,⟨.ret,hIx _ _ _ _ hi3 (AP.putObj _ t1),hl4,hk4⟩,(hw2.trans (hk3.wider fun k h h2=>h (tw k h2))).trans (AP.putObj _ n1)⟩⟩
  |exit id=>
   obtain⟨hk3,hi3⟩:=hp
   obtain⟨hr,hl4,hk4⟩:=fin (some (.exit id)) W3 hk3
   exact⟨_,_,hr,.inr ⟨rfl,⟨.exit id,hIx _ _ _ _ hi3 (AP.putObj _ t1),hl4,hk4⟩,(hw2.trans (hk3.wider fun k h h2=>h (tw k h2))).trans (AP.putObj _ n1)⟩⟩
  |goto t=>
   obtain⟨hk3,hi3⟩:=hp
   obtain⟨hr,hl4,hk4⟩:=fin (some (.goto t)) W3 hk3
   exact⟨_,_,hr,.inr ⟨rfl,⟨.goto t,hIx _ _ _ _ hi3 (AP.putObj _ t1),hl4,hk4⟩,(hw2.trans (hk3.wider fun k h h2=>h (tw k h2))).trans (AP.putObj _ n1)⟩⟩
  |panic ch=>exact hp.elim
  |outgrown=>exact hp.elim
 rintro e W2 ⟨⟨v,rfl⟩,(⟨hi,hl,hk⟩|⟨pre,hpre,c,hi,hl,hk⟩)⟩
 ·exact⟨none,_,by have:=run_endLoop (P:=P) hl (by rw[hrc];simp);rw[hrc]at this;exact this,hdone _ (hI _ _ _ hi (AP.putObj _ t1)) ((World.putObj_heap_other (by omega)).trans hk)⟩
 exact⟨some c,_,by have:=run_endLoop (P:=P) hl (by rw[hrc];simp);rw[hrc]at this;exact this,hstop c pre _ hpre (hIx c _ _ _ hi (AP.putObj _ t1)) ((World.putObj_heap_other (by omega)).trans hk)⟩
end Range
end Go.Proofs.YtfgegjinhkgpbaaGreatDoor
