/-
  Texts joined, in build order, each with its own comment and its own conditions: Strs, OpenStrs, Kit, W13Math, W14Math, W14More, W15Math, Recs, RecCut.
-/
import Derived.WalkKit
import Derived.Below
import Derived.Laws.OwnMore
import Derived.Deep.AppendLies
import Derived.Deep.Draws
import Derived.Lib.Strings
import Derived.Lib.Hide
import Derived.ProofKit
import Derived.SliceStrings
import Derived.SizedLaws
import Derived.Deep.QuietTactic
import Derived.Laws.BytesArg
namespace Go.Proofs.YtfgegjinhkgpbaaGreatDoor
set_option maxHeartbeats 4000000
set_option maxRecDepth 100000
open Go.RowKit
open Lib (hid)
namespace Strs
theorem block_add (a:Addr) (n:Nat):(a.add n).block=a.block:=by unfold Addr.add;split<;>rfl
def strV (l:List UInt8):Value:= .string ⟨l.toArray⟩
def Texts (B:Nat) (w:World) (v:Value) (L:List (List UInt8)):Prop:=
 ∃(A:Option Addr) (c:Nat),v= .slice A L.length c∧L.length≤c∧c≤maxLen∧
  (0<L.length→ ∃ad,A=some ad∧ad.block<B∧ ∀k,k<L.length→w.cell? (ad.add k)=some (strV (L.getD k [])))
section
variable {B B':Nat} {w w':World} {v:Value} {L:List (List UInt8)}
theorem Texts.keep (h:Texts B w v L) (hk: ∀p:Addr,p.block<B→w'.cell? p=w.cell? p):Texts B w' v L:=by
 obtain⟨A,c,e,h1,h2,h3⟩:=h
 exact⟨A,c,e,h1,h2,fun hn=>by
  obtain⟨ad,e2,hb,hc⟩:=h3 hn
  exact⟨ad,e2,hb,fun k hk2=>(hk _ (by rw[block_add];exact hb)).trans (hc k hk2)⟩⟩
theorem Texts.more (h:Texts B w v L) (hB:B≤B'):Texts B' w v L:=by
 obtain⟨A,c,e,h1,h2,h3⟩:=h
 exact⟨A,c,e,h1,h2,fun hn=>by
  obtain⟨ad,e2,hb,hc⟩:=h3 hn
  exact⟨ad,e2,by omega,hc⟩⟩
theorem Texts.below (h:Texts B w v L) (hb:Below B w w'):Texts B w' v L:=h.keep fun _ hp=>hb.cell hp
theorem Texts.alloc (h:Texts B w v L) (hB:B≤w.heap.size) (o:Obj):Texts B (w.alloc o) v L:=h.keep fun p hp=>World.cell?_alloc_lt w o p (by omega)
theorem Texts.drewN (h:Texts B w v L) (k:Nat):Texts B (w.drewN k) v L:=h
theorem Texts.len (h:Texts B w v L):L.length≤maxLen:=by
 obtain⟨A,c,e,h1,h2,h3⟩:=h
 omega
theorem Texts.form (h:Texts B w v L): ∃A c,v= .slice A L.length c∧L.length≤c∧c≤maxLen:=by
 obtain⟨A,c,e,h1,h2,h3⟩:=h
 exact⟨A,c,e,h1,h2⟩
theorem Texts.at_ {A:Option Addr} {n c:Nat} (h:Texts B w (.slice A n c) L) {k:Nat} (hk:k<n): ∃ad s,A=some ad∧ad.block<B∧w.cell? (ad.add k)=some (.string s)∧s.data.toList=L.getD k []:=by
 obtain⟨A',c',e,h1,h2,h3⟩:=h
 injection e with e1 e2 e3
 subst e1 e2 e3
 obtain⟨ad,e2,hb,hc⟩:=h3 (by omega)
 exact⟨ad,_,e2,hb,hc k hk,rfl⟩
theorem Texts.count {A:Option Addr} {n c:Nat} (h:Texts B w (.slice A n c) L):n=L.length∧n≤c∧c≤maxLen:=by
 obtain⟨A',c',e,h1,h2,h3⟩:=h
 injection e with e1 e2 e3
 subst e1 e2 e3
 exact⟨rfl,h1,h2⟩
theorem texts_nil (B:Nat) (w:World):Texts B w (.slice none 0 0) []:=⟨none,0,rfl,Nat.le_refl _,Nat.zero_le _,fun h=>absurd h (by simp)⟩
theorem Texts.of_own {base:Nat} {e:TypeId} {n:Nat} (h:w.ownsRow base e 1 v n (L.map strV)):Texts w.heap.size w v L:=by
 have hl:n=L.length:=by have:=h.1;simpa using this.symm
 subst hl
 rcases h.2 with⟨rfl,h0⟩|⟨g,cap,cur,rfl,hg,hh,hn,hcap,hsz,htk⟩
 ·have:L= []:=by simpa using h0
  subst this
  exact texts_nil _ _
 ·refine⟨_,_,rfl,by omega,by omega,fun hn0=>⟨_,rfl,?_,fun k hk=> ?_⟩⟩
  ·rcases Nat.lt_or_ge g w.heap.size with hlt|hge
   ·exact hlt
   ·rw[Array.getElem?_eq_none hge]at hh;cases hh
  ·have:=h.cells (g:=g) rfl k (strV (L.getD k [])) (by rw[List.getElem?_map,List.getElem?_eq_getElem hk];simp[hk])
   exact this
end
end Strs
namespace Strs
open Go.ChangeShapes Go.WideShapes
theorem open_texts {H:Type} {enc:TypeId×Value→H} {P:Program} {W:World} {base:Nat} {t e:TypeId} {v:Value} {d:DataW H} {p:List MemPlace}
    (ht:P.underlying t=some (.slice e)) (he:P.underlying e=some .string) (hc:P.cellsOf e=1) (hok:Value.okWide P W .any base t v)
    (h:DataW.Trod enc P W 0 (fun _=>true) true t v d p) (hlt: ∀x∈p,x.block<W.heap.size):
    ∃L:List (List UInt8),Texts W.heap.size W v L∧ ∀l∈L,l.length≤maxLen:=by
 obtain⟨a0,len,cap,rfl⟩:=okWide_slice ht hok
 obtain⟨fuel,hf⟩:=h
 rcases open_strings ht he hc hf with⟨hcs,hx⟩|⟨a,len',cap',ss,hcs,_,hl,hm,hz,hx,hcell,hws⟩
 ·simp[Value.cells]at hcs
  obtain⟨rfl,rfl,rfl⟩:=hcs
  exact⟨[],texts_nil _ _,fun l hl=>by simp at hl⟩
 ·simp[Value.cells]at hcs
  obtain⟨rfl,rfl,rfl⟩:=hcs
  simp only[Prod.mk.injEq]at hx
  obtain⟨rfl,rfl⟩:=hx
  simp only[if_true]at hz
  have hlen:((ss.take len).map (·.data.toList)).length=len:=by rw[List.length_map,List.length_take];omega
  refine⟨(ss.take len).map (·.data.toList),⟨some a,cap,by rw[hlen],by rw[hlen];exact hl,hm,fun hn=>⟨a,rfl,?_,fun k hk=> ?_⟩⟩,?_⟩
  ·rw[hlen]at hn
   obtain⟨b,off,spot⟩:=a
   have hspot:spot=none:=by simpa [Addr.add]using World.cell?_spot (hcell 0 (by omega))
   subst hspot
   exact hlt (.cell b off) (MemPlace.mem_row.2 ⟨0,by omega,by simp⟩)
  ·rw[hlen]at hk
   rw[hcell k (by omega)]
   have e1:ss.getD k ByteArray.empty=ss[k]:=by rw[List.getD_eq_getElem?_getD,List.getElem?_eq_getElem (by omega)];rfl
   have e2:((ss.take len).map (·.data.toList)).getD k []=ss[k].data.toList:=by
    rw[List.getD_eq_getElem?_getD,List.getElem?_eq_getElem (by rw[hlen];exact hk)]
    simp
   rw[e1,e2]
   unfold strV
   congr 1
  ·intro l hl2
   obtain⟨s,hs,rfl⟩:=List.mem_map.1 hl2
   rw[←Lib.size_eq]
   exact hws s (List.mem_of_mem_take hs)
end Strs
namespace Kit
theorem ret_int {k:IntKind} {a b:Int} (h:a=b):Ending.returned (.int k a)= .returned (.int k b):=by rw[h]
theorem ret_bool {a b:Bool} (h:a=b):Ending.returned (.bool a)= .returned (.bool b):=by rw[h]
theorem ret_str {a b:ByteArray} (h:a=b):Ending.returned (.string a)= .returned (.string b):=by rw[h]
theorem mk_bytes (t:ByteArray):(⟨t.data.toList.toArray⟩:ByteArray)=t:=by obtain⟨⟨l⟩⟩:=t;rfl
theorem mk_of {d:ByteArray} {l:List UInt8} (h:d.data.toList=l):(⟨l.toArray⟩:ByteArray)=d:=by rw[←h,mk_bytes]
theorem ba_ext {a b:ByteArray} (h:a.data.toList=b.data.toList):a=b:=by rw[←mk_bytes a,h,mk_bytes b]
theorem bytes_nil {t:ByteArray} (h: ¬0<t.size):t.data.toList= []:=List.length_eq_zero_iff.1 (by rw[←Lib.size_eq];omega)
theorem bytes_cons {t:ByteArray} (h:0<t.size):t.data.toList=t[0]::(t.extract 1 t.size).data.toList:=by
 rw[Lib.extract_data]
 have h2:0<t.data.toList.length:=by rw[←Lib.size_eq];exact h
 rw[List.take_of_length_le (by rw[List.length_drop,←Lib.size_eq];omega)]
 conv=>lhs;rw[←List.drop_zero (l:=t.data.toList),List.drop_eq_getElem_cons h2]
 rfl
theorem bytes_ne {s:ByteArray} (h:0<s.size):s.data.toList≠ []:=by rw[bytes_cons h];simp
theorem byte_get (s:ByteArray) (k:Nat) (h:k<s.size):s.data.toList.getD k 0=s[k]:=by
 have h2:k<s.data.toList.length:=by rw[←Lib.size_eq];exact h
 rw[List.getD_eq_getElem?_getD,List.getElem?_eq_getElem h2]
 rfl
theorem cat_bytes (a b:ByteArray):(a++b).data.toList=a.data.toList++b.data.toList:=by
 rw[ByteArray.data_append,Array.toList_append]
theorem drop_bytes (s:ByteArray) (k:Nat):(s.extract k s.size).data.toList=s.data.toList.drop k:=by
 rw[Lib.extract_data,List.take_of_length_le (by rw[List.length_drop,←Lib.size_eq];exact Nat.le_refl _)]
theorem take_bytes (s:ByteArray) (k:Nat):(s.extract 0 k).data.toList=s.data.toList.take k:=by
 rw[Lib.extract_data,List.drop_zero];rfl
theorem one_byte (s:ByteArray) (k:Nat) (h:k<s.size):(s.extract k (k+1)).data.toList= [s[k]]:=by
 have h2:k<s.data.toList.length:=by rw[←Lib.size_eq];exact h
 rw[Lib.extract_data,List.drop_eq_getElem_cons h2,show k+1-k=1 by omega]
 rfl
theorem one_size (s:ByteArray) (k:Nat) (h:k<s.size):(s.extract k (k+1)).size=1:=by rw[ByteArray.size_extract];omega
theorem drop_next (s:ByteArray) (k:Nat) (h:k<s.size):s.data.toList.drop k=s[k]::s.data.toList.drop (k+1):=by
 have h2:k<s.data.toList.length:=by rw[←Lib.size_eq];exact h
 rw[List.drop_eq_getElem_cons h2]
 rfl
theorem drop_end (s:ByteArray) (k:Nat) (h: ¬k<s.size):s.data.toList.drop k= []:=by
 rw[List.drop_eq_nil_iff,←Lib.size_eq];omega
theorem take_next (s:ByteArray) (k:Nat) (h:k<s.size):s.data.toList.take (k+1)=s.data.toList.take k++ [s[k]]:=by
 have h2:k<s.data.toList.length:=by rw[←Lib.size_eq];exact h
 rw[List.take_succ_eq_append_getElem h2]
 rfl
theorem take_end (s:ByteArray) (k:Nat) (h: ¬k<s.size):s.data.toList.take k=s.data.toList:=by
 rw[List.take_of_length_le (by rw[←Lib.size_eq];omega)]
theorem list_full {s:ByteArray} (h:0<s.size):s.toList.isEmpty=false:=by rw[Lib.toList_data,bytes_cons h];rfl
theorem list_ne {s:ByteArray} (h:0<s.size): ¬s.toList= []:=by rw[Lib.toList_data,bytes_cons h];simp
theorem list_none {s:ByteArray} (h: ¬0<s.size):s.toList.isEmpty=true:=by rw[Lib.toList_data,bytes_nil h];rfl
theorem list_nil {s:ByteArray} (h: ¬0<s.size):s.toList= []:=by rw[Lib.toList_data,bytes_nil h]
theorem head_of {s:ByteArray} (h:0<s.size):s.data.toList.headD 0=s[0]:=by rw[bytes_cons h];rfl
theorem byte_eq {c d:UInt8} (h:(c.toNat:Int)=(d.toNat:Int)):c=d:=UInt8.toNat_inj.1 (by omega)
theorem byte_ne {c d:UInt8} (h: ¬(c.toNat:Int)=(d.toNat:Int)): ¬c=d:=fun e=>h (by rw[e])
theorem byte_test (c d:UInt8):((c.toNat:Int)==(d.toNat:Int))=decide (c=d):=by
 by_cases h:c=d
 ·simp[h]
 ·have: ¬(c.toNat:Int)=(d.toNat:Int):=fun e=>h (byte_eq e)
  simp[h,this]
theorem below_draws (w:World) (n:Nat):Below w.heap.size w (w.drewN n):=⟨rfl,rfl,rfl,Nat.le_refl _,fun _ _=>rfl⟩
theorem on {a b c:World} (h:Below a.heap.size a b) (k:Below b.heap.size b c):Below a.heap.size a c:=h.trans (k.mono h.size)
end Kit
namespace M13
open Go
def bit (b:Bool):UInt8:=if b then 49 else 48
def textOf (f:Nat→Bool):List UInt8:=(List.range 256).map fun i=>bit (f i)
def good (s:List UInt8):Bool:=decide (s.length=256)&&s.all (fun c=>decide (c=48)||decide (c=49))
def has (s:List UInt8) (i:Nat):Bool:=good s&&decide (s.getD i 0=49)
theorem textOf_congr {f g:Nat→Bool} (h: ∀i,i<256→f i=g i):textOf f=textOf g:=by
 unfold textOf
 refine List.map_congr_left fun i hi=> ?_
 rw[h i (List.mem_range.1 hi)]
theorem textOf_len (f:Nat→Bool):(textOf f).length=256:=by unfold textOf;rw[List.length_map,List.length_range]
theorem textOf_get (f:Nat→Bool) {i:Nat} (h:i<256):(textOf f)[i]? =some (bit (f i)):=by
 unfold textOf
 rw[List.getElem?_map,List.getElem?_range h];rfl
theorem bit_is (b:Bool):bit b=48∨bit b=49:=by cases b<;>simp[bit]
theorem bit_one (b:Bool):decide (bit b=49)=b:=by cases b<;>rfl
theorem textOf_good (f:Nat→Bool):good (textOf f)=true:=by
 unfold good
 rw[textOf_len]
 simp only[decide_true,Bool.true_and,List.all_eq_true]
 intro c hc
 unfold textOf at hc
 obtain⟨i,_,rfl⟩:=List.mem_map.1 hc
 rcases bit_is (f i)with h|h<;>rw[h]<;>rfl
theorem has_text (f:Nat→Bool) {i:Nat} (h:i<256):has (textOf f) i=f i:=by
 unfold has
 rw[textOf_good,List.getD_eq_getElem?_getD,textOf_get f h,Option.getD_some,bit_one,Bool.true_and]
theorem has_far {s:List UInt8} {i:Nat} (h:256≤i):has s i=false:=by
 unfold has
 by_cases e:s.length=256
 ·rw[List.getD_eq_getElem?_getD,List.getElem?_eq_none (by omega)];simp
 ·unfold good;rw[decide_eq_false e];rfl
theorem has_bad {s:List UInt8} (h:good s=false) (i:Nat):has s i=false:=by unfold has;rw[h];rfl
theorem has_good {s:List UInt8} (h:good s=true) (i:Nat):has s i=decide (s.getD i 0=49):=by unfold has;rw[h];rfl
theorem good_len {s:List UInt8} (h:good s=true):s.length=256:=by
 unfold good at h
 exact of_decide_eq_true (Bool.and_eq_true_iff.1 h).1
theorem counts_le: ∀s:List UInt8,s.count 48+s.count 49≤s.length
 | []=>Nat.le_refl _
 |c::s=>by
  have:=counts_le s
  rw[List.count_cons,List.count_cons,List.length_cons]
  by_cases e:c=48
  ·subst e;simp;omega
  ·by_cases e2:c=49
   ·subst e2;simp;omega
   ·simp[e,e2];omega
theorem counts_all: ∀s:List UInt8,decide (s.count 48+s.count 49=s.length)=s.all (fun c=>decide (c=48)||decide (c=49))
 | []=>rfl
 |c::s=>by
  have ih:=counts_all s
  have hle:=counts_le s
  rw[List.count_cons,List.count_cons,List.length_cons,List.all_cons,←ih]
  by_cases e:c=48
  ·subst e
   simp only[beq_self_eq_true,if_true,decide_true,Bool.true_or,Bool.true_and]
   rw[show((48:UInt8)==49)=false from rfl]
   simp only[Bool.false_eq_true,if_false,Nat.add_zero]
   exact decide_eq_decide.2 (by omega)
  ·by_cases e2:c=49
   ·subst e2
    simp only[beq_self_eq_true,if_true,decide_true,Bool.or_true,Bool.true_and]
    rw[show((49:UInt8)==48)=false from rfl]
    simp only[Bool.false_eq_true,if_false,Nat.add_zero]
    exact decide_eq_decide.2 (by omega)
   ·rw[decide_eq_false e,decide_eq_false e2,show(c==48)=false from beq_eq_false_iff_ne.2 e,show(c==49)=false from beq_eq_false_iff_ne.2 e2]
    simp only[Bool.false_eq_true,if_false,Nat.add_zero,Bool.or_self,Bool.false_and]
    exact decide_eq_false (by omega)
theorem good_counts (s:List UInt8):(decide (s.length=256)&&decide (s.count 48+s.count 49=s.length))=good s:=by unfold good;rw[counts_all]
def count (s:List UInt8):Nat:=if good s then s.count 49 else 0
/-! the letters' sets -/
def between (a b i:Nat):Bool:=decide (a≤i)&&decide (i≤b)
def letter (c:UInt8):Bool:=decide (c=100)||decide (c=119)||decide (c=115)||decide (c=68)||decide (c=87)||decide (c=83)
def digitF (i:Nat):Bool:=between 48 57 i
def wordF (i:Nat):Bool:=between 97 122 i||between 65 90 i||decide (i=95)||between 48 57 i
def spaceF (i:Nat):Bool:=between 9 13 i||decide (i=32)
def namedF (c:UInt8) (i:Nat):Bool:=
 if c=100 then digitF i else if c=119 then wordF i else if c=115 then spaceF i else if c=68 then !digitF i else if c=87 then !wordF i else if c=83 then !spaceF i else false
/-! which set a text begins with -/
def one:List UInt8→UInt8×Nat×Bool
 | []=>(0,0,false)
 |c::r=>if c=92 then(match r with| []=>(0,0,false)|d::_=>(d,2,letter d))else(c,1,false)
def joined:List UInt8→Bool
 | []=>false
 |c::r=>decide (c=45)&&(match r with| []=>true|d::_=> !decide (d=93))
def item (s:List UInt8):Nat×Int×(Nat→Bool):=
 if(one s).2.1=0 then(0,3,fun _=>false)
 else if(one s).2.2 then(if joined (s.drop (one s).2.1)then(0,3,fun _=>false)else((one s).2.1,0,namedF (one s).1))
 else if joined (s.drop (one s).2.1)=false then((one s).2.1,0,fun i=>decide (i=(one s).1.toNat))
 else if(one (s.drop ((one s).2.1+1))).2.1=0 then(0,3,fun _=>false)
 else if(one (s.drop ((one s).2.1+1))).2.2 then(0,3,fun _=>false)
 else if(one (s.drop ((one s).2.1+1))).1.toNat<(one s).1.toNat then(0,4,fun _=>false)
 else((one s).2.1+1+(one (s.drop ((one s).2.1+1))).2.1,0,between (one s).1.toNat (one (s.drop ((one s).2.1+1))).1.toNat)
def items (s:List UInt8):Nat→Nat→(Nat→Bool)→(Nat→Bool)×Nat×Int
 |0,_,_=>(fun _=>false,0,3)
 |fuel+1,at_,f=>
  if s.length≤at_ then(fun _=>false,0,3)
  else if s.getD at_ 0=93∧0<at_ then(f,at_+1,0)
  else if(item (s.drop at_)).2.1≠0 then(fun _=>false,0,(item (s.drop at_)).2.1)
  else items s fuel (at_+(item (s.drop at_)).1) (fun i=>f i||(item (s.drop at_)).2.2 i)
def parse (s:List UInt8):(Nat→Bool)×Nat×Int:=
 match s with
 | []=>(fun _=>false,0,3)
 |c::r=>if c=91 then
   (match r with
   | []=>(fun _=>false,0,3)
   |d::q=>if d=94 then
     (if(items q (q.length+1) 0 (fun _=>false)).2.2≠0 then(fun _=>false,0,(items q (q.length+1) 0 (fun _=>false)).2.2)else(fun i=> !(items q (q.length+1) 0 (fun _=>false)).1 i,2+(items q (q.length+1) 0 (fun _=>false)).2.1,0))
    else
     (if(items r (r.length+1) 0 (fun _=>false)).2.2≠0 then(fun _=>false,0,(items r (r.length+1) 0 (fun _=>false)).2.2)else((items r (r.length+1) 0 (fun _=>false)).1,1+(items r (r.length+1) 0 (fun _=>false)).2.1,0)))
  else(fun _=>false,0,3)
theorem one_le (s:List UInt8):(one s).2.1≤s.length:=by
 unfold one
 split
 ·exact Nat.le_refl _
 ·rename_i c r
  by_cases h:c=92
  ·rw[if_pos h]
   split
   ·exact Nat.zero_le _
   ·simp only[List.length_cons];omega
  ·rw[if_neg h];simp only[List.length_cons];omega
end M13
namespace M14
open Go M13
inductive Piece where
 |mk (kind:Int) (text:ByteArray) (kids:List Piece) (least top:Int)
def leaf (kind:Int) (t:ByteArray):Piece:= .mk kind t [] 0 0
inductive Got where
 |ok (p:Piece) (to:Nat)
 |bad (at_:Nat) (e:Int)
def txt (f:Nat→Bool):ByteArray:=⟨(textOf f).toArray⟩
def chr (c:UInt8):ByteArray:=⟨#[c]⟩
def dig (c:UInt8):Bool:=decide (48≤c)&&decide (c≤57)
def val (l:List UInt8):Nat:=l.foldl (fun n c=>n*10+(c.toNat-48)) 0
def number (t:List UInt8):Option Nat:=if t≠ []∧t.length≤3∧t.all dig=true then some (val t)else none
def range (m top:Int) (n:Nat):Int×Int×Int×Nat:=if m>100∨top>100∨(0≤top∧m>top)then(4,0,0,0)else(0,m,top,n)
def no3:Int×Int×Int×Nat:=(3,0,0,0)
def braces (l:List UInt8):Int×Int×Int×Nat:=
 match number (l.takeWhile dig)with
 |none=>no3
 |some m=>
  match l.dropWhile dig with
  | []=>no3
  |c::r=>
   if c=125 then range m m ((l.takeWhile dig).length+2)
   else if c=44 then
    (if r.takeWhile dig= []then(if r.headD 0=125 then range m (-1) ((l.takeWhile dig).length+3)else no3)
    else match number (r.takeWhile dig)with
     |none=>no3
     |some k=>if(r.dropWhile dig).headD 0=125 then range m k ((l.takeWhile dig).length+(r.takeWhile dig).length+3)else no3)
   else no3
def atom (R:Nat→Nat→Option Got) (S:List UInt8) (at_ deep:Nat):Option Got:=
 if S.getD at_ 0=40 then
  (if deep=64 then some (.bad at_ 21)
  else match R (at_+1) (deep+1)with
   |none=>none
   |some (.bad b e)=>some (.bad b e)
   |some (.ok p to)=>if to=S.length then some (.bad S.length 3)else some (.ok p (to+1)))
 else if S.getD at_ 0=91 then
  (if(parse (S.drop at_)).2.2≠0 then some (.bad at_ (parse (S.drop at_)).2.2)else some (.ok (leaf 4 (txt (parse (S.drop at_)).1)) (at_+(parse (S.drop at_)).2.1)))
 else if S.getD at_ 0=46 then some (.ok (leaf 3 ⟨#[]⟩) (at_+1))
 else if S.getD at_ 0=94 then some (.ok (leaf 5 ⟨#[]⟩) (at_+1))
 else if S.getD at_ 0=36 then some (.ok (leaf 6 ⟨#[]⟩) (at_+1))
 else if S.getD at_ 0=42∨S.getD at_ 0=43∨S.getD at_ 0=63∨S.getD at_ 0=123 then some (.bad at_ 3)
 else if S.getD at_ 0≠92 then some (.ok (leaf 2 (chr (S.getD at_ 0))) (at_+1))
 else if at_+1=S.length then some (.bad at_ 3)
 else if letter (S.getD (at_+1) 0)then some (.ok (leaf 4 (txt (namedF (S.getD (at_+1) 0)))) (at_+2))
 else some (.ok (leaf 2 (chr (S.getD (at_+1) 0))) (at_+2))
def often (S:List UInt8) (p:Piece) (to:Nat):Got:=
 if to=S.length then .ok p to
 else if S.getD to 0=123 then(if(braces (S.drop (to+1))).1≠0 then .bad to (braces (S.drop (to+1))).1 else .ok (.mk 9 ⟨#[]⟩ [p] (braces (S.drop (to+1))).2.1 (braces (S.drop (to+1))).2.2.1) (to+(braces (S.drop (to+1))).2.2.2))
 else if S.getD to 0=42 then .ok (.mk 9 ⟨#[]⟩ [p] 0 (-1)) (to+1)
 else if S.getD to 0=43 then .ok (.mk 9 ⟨#[]⟩ [p] 1 (-1)) (to+1)
 else if S.getD to 0=63 then .ok (.mk 9 ⟨#[]⟩ [p] 0 1) (to+1)
 else .ok p to
def part (R:Nat→Nat→Option Got) (S:List UInt8) (at_ deep:Nat):Option Got:=
 match atom R S at_ deep with
 |none=>none
 |some (.bad b e)=>some (.bad b e)
 |some (.ok p to)=>some (often S p to)
def together (kind:Int):List Piece→Piece
 | []=>leaf 1 ⟨#[]⟩
 | [p]=>p
 |p::q::l=> .mk kind ⟨#[]⟩ (p::q::l) 0 0
def stop (S:List UInt8) (at_:Nat):Prop:=S.length≤at_∨S.getD at_ 0=124∨S.getD at_ 0=41
instance (S:List UInt8) (at_:Nat):Decidable (stop S at_):=by unfold stop;infer_instance
def row (R:Nat→Nat→Option Got) (S:List UInt8) (deep:Nat):Nat→Nat→List Piece→Option Got
 |0,_,_=>none
 |k+1,at_,acc=>
  if stop S at_ then some (.ok (together 7 acc) at_)
  else match part R S at_ deep with
   |none=>none
   |some (.bad b e)=>some (.bad b e)
   |some (.ok p to)=>row R S deep k to (acc++ [p])
def rowsL (R:Nat→Nat→Option Got) (S:List UInt8) (deep:Nat):Nat→Nat→List Piece→Option Got
 |0,_,_=>none
 |k+1,at_,acc=>
  match row R S deep (S.length+1) at_ []with
  |none=>none
  |some (.bad b e)=>some (.bad b e)
  |some (.ok p to)=>if to=S.length∨S.getD to 0≠124 then some (.ok (together 8 (acc++ [p])) to)else rowsL R S deep k (to+1) (acc++ [p])
def rows (S:List UInt8):Nat→Nat→Nat→Option Got
 |0,_,_=>none
 |n+1,at_,deep=>rowsL (rows S n) S deep (S.length+1) at_ []
def fix (S:List UInt8) (deep:Nat):Got→Got
 | .bad b e=> .bad b e
 | .ok p to=>if deep=0∧to<S.length∧S.getD to 0=41 then .bad to 3 else .ok p to
/-! what is read may be -/
inductive Whole:Piece→Prop where
 |none (k:Int) (h:k=1∨k=3∨k=5∨k=6):Whole (leaf k ⟨#[]⟩)
 |char (c:UInt8):Whole (leaf 2 (chr c))
 |set (f:Nat→Bool):Whole (leaf 4 (txt f))
 |many (k:Int) (h:k=7∨k=8) (l:List Piece) (h2:2≤l.length) (h3:l.length≤1000) (hk: ∀p,p∈l→Whole p):Whole (.mk k ⟨#[]⟩ l 0 0)
 |rep (p:Piece) (m t:Int) (hm:0≤m∧m≤100) (ht:t= -1∨m≤t∧t≤100) (hk:Whole p):Whole (.mk 9 ⟨#[]⟩ [p] m t)
theorem whole_together {k:Int} (h:k=7∨k=8) {l:List Piece} (h3:l.length≤1000) (hl: ∀p,p∈l→Whole p):Whole (together k l):=by
 match l with
 | []=>exact .none 1 (by omega)
 | [p]=>exact hl p (by simp)
 |p::q::r=>exact .many k h _ (by simp) h3 hl
theorem dig_len (l:List UInt8):(l.takeWhile dig).length+(l.dropWhile dig).length=l.length:=by
 rw[←List.length_append,List.takeWhile_append_dropWhile]
theorem range_ok {m top:Int} {n:Nat} (hm:0≤m) (ht: -1≤top) (h:(range m top n).1=0):range m top n=(0,m,top,n)∧(0≤m∧m≤100)∧(top= -1∨m≤top∧top≤100):=by
 unfold range at h ⊢
 by_cases c:m>100∨top>100∨(0≤top∧m>top)
 ·rw[if_pos c]at h;simp at h
 ·rw[if_neg c];refine⟨rfl,?_,?_⟩<;>omega
theorem head_125 {l:List UInt8} (h:l.headD 0=125):0<l.length:=by
 cases l with
 |nil=>simp at h
 |cons c r=>simp
theorem braces_ok {l:List UInt8} (h:(braces l).1=0):(0≤(braces l).2.1∧(braces l).2.1≤100)∧((braces l).2.2.1= -1∨(braces l).2.1≤(braces l).2.2.1∧(braces l).2.2.1≤100)∧0<(braces l).2.2.2∧(braces l).2.2.2≤l.length+1:=by
 have hl:=dig_len l
 unfold braces at h ⊢
 cases hn:number (l.takeWhile dig)with
 |none=>rw[hn]at h;simp[no3]at h
 |some m=>
  rw[hn]at h
  simp only at h ⊢
  cases hd:l.dropWhile dig with
  |nil=>rw[hd]at h;simp[no3]at h
  |cons c r=>
   rw[hd]at h hl
   rw[List.length_cons]at hl
   simp only at h ⊢
   have hr:=dig_len r
   by_cases c1:c=125
   ·rw[if_pos c1]at h ⊢
    obtain⟨e,h1,h2⟩:=range_ok (by omega) (by omega) h
    rw[e]
    exact⟨h1,h2,by simp only;omega,by simp only;omega⟩
   ·rw[if_neg c1]at h ⊢
    by_cases c2:c=44
    ·rw[if_pos c2]at h ⊢
     by_cases c3:r.takeWhile dig= []
     ·rw[if_pos c3]at h ⊢
      by_cases c4:r.headD 0=125
      ·rw[if_pos c4]at h ⊢
       have:=head_125 c4
       obtain⟨e,h1,h2⟩:=range_ok (by omega) (by omega) h
       rw[e]
       exact⟨h1,h2,by simp only;omega,by simp only;omega⟩
      ·rw[if_neg c4]at h;simp[no3]at h
     ·rw[if_neg c3]at h ⊢
      cases hn2:number (r.takeWhile dig)with
      |none=>rw[hn2]at h;simp[no3]at h
      |some k=>
       rw[hn2]at h
       simp only at h ⊢
       by_cases c4:(r.dropWhile dig).headD 0=125
       ·rw[if_pos c4]at h ⊢
        have:=head_125 c4
        obtain⟨e,h1,h2⟩:=range_ok (by omega) (by omega) h
        rw[e]
        exact⟨h1,h2,by simp only;omega,by simp only;omega⟩
       ·rw[if_neg c4]at h;simp[no3]at h
    ·rw[if_neg c2]at h;simp[no3]at h
theorem items_le (s:List UInt8): ∀(k at_:Nat) (f:Nat→Bool),(items s k at_ f).2.2=0→(items s k at_ f).2.1≤s.length∧0<(items s k at_ f).2.1
 |0,_,_=>by intro h;simp[items]at h
 |k+1,at_,f=>by
  intro h
  unfold items at h ⊢
  by_cases c1:s.length≤at_
  ·rw[if_pos c1]at h;simp at h
  ·rw[if_neg c1]at h ⊢
   by_cases c2:s.getD at_ 0=93∧0<at_
   ·rw[if_pos c2]at h ⊢
    exact⟨by simp only;omega,by simp only;omega⟩
   ·rw[if_neg c2]at h ⊢
    by_cases c3:(item (s.drop at_)).2.1≠0
    ·rw[if_pos c3]at h;exact absurd h c3
    ·rw[if_neg c3]at h ⊢
     exact items_le s k _ _ h
theorem parse_le {s:List UInt8} (h:(parse s).2.2=0):(parse s).2.1≤s.length∧0<(parse s).2.1:=by
 revert h
 unfold parse
 match s with
 | []=>simp
 |c::r=>
  by_cases c1:c=91
  ·simp only[if_pos c1]
   match r with
   | []=>simp
   |d::q=>
    simp only
    by_cases c2:d=94
    ·rw[if_pos c2]
     have:=items_le q (q.length+1) 0 (fun _=>false)
     by_cases c3:(items q (q.length+1) 0 (fun _=>false)).2.2≠0
     ·rw[if_pos c3];intro h;exact absurd h c3
     ·rw[if_neg c3]
      intro _
      have:=this (by simpa using c3)
      simp only[List.length_cons]
      omega
    ·rw[if_neg c2]
     have:=items_le (d::q) ((d::q).length+1) 0 (fun _=>false)
     by_cases c3:(items (d::q) ((d::q).length+1) 0 (fun _=>false)).2.2≠0
     ·rw[if_pos c3];intro h;exact absurd h c3
     ·rw[if_neg c3]
      intro _
      have:=this (by simpa using c3)
      rw[List.length_cons]at this
      simp only[List.length_cons]at this ⊢
      omega
  ·simp only[if_neg c1];simp
/-! what is read is there,and its place -/
def Fine (S:List UInt8) (lo:Nat):Got→Prop
 | .ok p to=>lo≤to∧to≤S.length∧Whole p
 | .bad b _=>b≤S.length
theorem atom_fine {R:Nat→Nat→Option Got} {S:List UInt8} {at_ deep:Nat} (h:at_<S.length) (hR:deep≠64→at_+1≤S.length→ ∃g,R (at_+1) (deep+1)=some g∧Fine S (at_+1) g): ∃g,atom R S at_ deep=some g∧Fine S (at_+1) g:=by
 unfold atom
 by_cases c1:S.getD at_ 0=40
 ·rw[if_pos c1]
  by_cases c2:deep=64
  ·rw[if_pos c2];exact⟨_,rfl,by show at_≤S.length;omega⟩
  ·rw[if_neg c2]
   obtain⟨g,e,hg⟩:=hR c2 (by omega)
   rw[e]
   match g,hg with
   | .bad b e,hg=>exact⟨_,rfl,hg⟩
   | .ok p to,hg=>
    simp only
    by_cases c3:to=S.length
    ·rw[if_pos c3];exact⟨_,rfl,Nat.le_refl _⟩
    ·rw[if_neg c3]
     obtain⟨h1,h2,h3⟩:=hg
     exact⟨_,rfl,by omega,by omega,h3⟩
 ·rw[if_neg c1]
  by_cases c2:S.getD at_ 0=91
  ·rw[if_pos c2]
   by_cases c3:(parse (S.drop at_)).2.2≠0
   ·rw[if_pos c3];exact⟨_,rfl,by show at_≤S.length;omega⟩
   ·rw[if_neg c3]
    have:=parse_le (s:=S.drop at_) (by simpa using c3)
    rw[List.length_drop]at this
    exact⟨_,rfl,by omega,by omega,.set _⟩
  ·rw[if_neg c2]
   by_cases c3:S.getD at_ 0=46
   ·rw[if_pos c3];exact⟨_,rfl,Nat.le_refl _,h,.none 3 (by omega)⟩
   ·rw[if_neg c3]
    by_cases c4:S.getD at_ 0=94
    ·rw[if_pos c4];exact⟨_,rfl,Nat.le_refl _,h,.none 5 (by omega)⟩
    ·rw[if_neg c4]
     by_cases c5:S.getD at_ 0=36
     ·rw[if_pos c5];exact⟨_,rfl,Nat.le_refl _,h,.none 6 (by omega)⟩
     ·rw[if_neg c5]
      split
      ·exact⟨_,rfl,by show at_≤S.length;omega⟩
      ·split
       ·exact⟨_,rfl,Nat.le_refl _,h,.char _⟩
       ·split
        ·exact⟨_,rfl,by show at_≤S.length;omega⟩
        ·split
         ·exact⟨_,rfl,by omega,by omega,.set _⟩
         ·exact⟨_,rfl,by omega,by omega,.char _⟩
theorem often_fine {S:List UInt8} {p:Piece} {lo to:Nat} (h1:lo≤to) (h2:to≤S.length) (h3:Whole p):Fine S lo (often S p to):=by
 unfold often
 by_cases c0:to=S.length
 ·rw[if_pos c0];exact⟨h1,h2,h3⟩
 ·rw[if_neg c0]
  split
  ·by_cases c1:(braces (S.drop (to+1))).1≠0
   ·rw[if_pos c1];exact h2
   ·rw[if_neg c1]
    obtain⟨a,b,c,d⟩:=braces_ok (l:=S.drop (to+1)) (by simpa using c1)
    rw[List.length_drop]at d
    exact⟨by omega,by omega,.rep p _ _ a b h3⟩
  ·split
   ·exact⟨by omega,by omega,.rep p _ _ (by omega) (by omega) h3⟩
   ·split
    ·exact⟨by omega,by omega,.rep p _ _ (by omega) (by omega) h3⟩
    ·split
     ·exact⟨by omega,by omega,.rep p _ _ (by omega) (by omega) h3⟩
     ·exact⟨h1,h2,h3⟩
theorem part_fine {R:Nat→Nat→Option Got} {S:List UInt8} {at_ deep:Nat} (h:at_<S.length) (hR:deep≠64→at_+1≤S.length→ ∃g,R (at_+1) (deep+1)=some g∧Fine S (at_+1) g): ∃g,part R S at_ deep=some g∧Fine S (at_+1) g:=by
 obtain⟨g,e,hg⟩:=atom_fine h hR
 unfold part
 rw[e]
 match g,hg with
 | .bad b e,hg=>exact⟨_,rfl,hg⟩
 | .ok p to,hg=>exact⟨_,rfl,often_fine hg.1 hg.2.1 hg.2.2⟩
theorem Fine.less {S:List UInt8} {lo lo':Nat} {g:Got} (h:Fine S lo g) (k:lo'≤lo):Fine S lo' g:=by
 match g,h with
 | .bad b e,h=>exact h
 | .ok p to,h=>exact⟨Nat.le_trans k h.1,h.2⟩
theorem row_fine {R:Nat→Nat→Option Got} {S:List UInt8} {deep lo:Nat} (hs:S.length≤900) (hR:deep≠64→ ∀to,lo<to→to≤S.length→ ∃g,R to (deep+1)=some g∧Fine S to g):
    ∀(k at_:Nat) (acc:List Piece),lo≤at_→at_≤S.length→S.length<at_+k→acc.length≤at_→(∀p,p∈acc→Whole p)→ ∃g,row R S deep k at_ acc=some g∧Fine S at_ g
 |0,at_,acc,_,h1,h2,_,_=>by omega
 |k+1,at_,acc,h0,h1,h2,h3,h4=>by
  unfold row
  by_cases c:stop S at_
  ·rw[if_pos c];exact⟨_,rfl,Nat.le_refl _,h1,whole_together (by omega) (by omega) h4⟩
  ·rw[if_neg c]
   have hlt:at_<S.length:=by unfold stop at c;omega
   obtain⟨g,e,hg⟩:=part_fine (R:=R) (deep:=deep) hlt (fun d q=>hR d _ (by omega) q)
   rw[e]
   match g,hg with
   | .bad b e,hg=>exact⟨_,rfl,hg⟩
   | .ok p to,hg=>
    obtain⟨g1,g2,g3⟩:=hg
    obtain⟨g,e2,hg2⟩:=row_fine hs hR k to (acc++ [p]) (by omega) g2 (by omega) (by rw[List.length_append];simp only[List.length_cons,List.length_nil];omega) (by
     intro q hq
     rcases List.mem_append.1 hq with hq|hq
     ·exact h4 q hq
     ·rw[List.mem_singleton.1 hq];exact g3)
    exact⟨g,e2,hg2.less (by omega)⟩
theorem rowsL_fine {R:Nat→Nat→Option Got} {S:List UInt8} {deep lo:Nat} (hs:S.length≤900) (hR:deep≠64→ ∀to,lo<to→to≤S.length→ ∃g,R to (deep+1)=some g∧Fine S to g):
    ∀(k at_:Nat) (acc:List Piece),lo≤at_→at_≤S.length→S.length<at_+k→acc.length≤at_→(∀p,p∈acc→Whole p)→ ∃g,rowsL R S deep k at_ acc=some g∧Fine S at_ g
 |0,at_,acc,_,h1,h2,_,_=>by omega
 |k+1,at_,acc,h0,h1,h2,h3,h4=>by
  unfold rowsL
  obtain⟨g,e,hg⟩:=row_fine (deep:=deep) hs (fun d to a b=>hR d to (by omega) b) (S.length+1) at_ [] (Nat.le_refl at_) h1 (by omega) (Nat.zero_le _) (by simp)
  rw[e]
  match g,hg with
  | .bad b e,hg=>exact⟨_,rfl,hg⟩
  | .ok p to,hg=>
   obtain⟨g1,g2,g3⟩:=hg
   have hall: ∀q,q∈acc++ [p]→Whole q:=by
    intro q hq
    rcases List.mem_append.1 hq with hq|hq
    ·exact h4 q hq
    ·rw[List.mem_singleton.1 hq];exact g3
   have hlen:(acc++ [p]).length=acc.length+1:=by simp
   simp only
   by_cases c:to=S.length∨S.getD to 0≠124
   ·rw[if_pos c];exact⟨_,rfl,g1,g2,whole_together (by omega) (by omega) hall⟩
   ·rw[if_neg c]
    obtain⟨g,e2,hg2⟩:=rowsL_fine hs hR k (to+1) (acc++ [p]) (by omega) (by omega) (by omega) (by omega) hall
    exact⟨g,e2,hg2.less (by omega)⟩
theorem rows_fine {S:List UInt8} (hs:S.length≤900): ∀(n at_ deep:Nat),at_≤S.length→S.length<at_+n→ ∃g,rows S n at_ deep=some g∧Fine S at_ g
 |0,at_,deep,h1,h2=>by omega
 |n+1,at_,deep,h1,h2=>by
  unfold rows
  exact rowsL_fine (lo:=at_) hs (fun _ to h3 h4=>rows_fine hs n to _ h4 (by omega)) (S.length+1) at_ [] (Nat.le_refl at_) h1 (by omega) (Nat.zero_le _) (by simp)
/-! how many steps -/
mutual
def size:Piece→Nat
 | .mk k _ l m t=>min 4001 (if k=1 then 0 else if 2≤k∧k≤6 then 1 else if k=7 then sizes l else if k=8 then sizes l+2*(l.length-1)else if t= -1 then m.toNat*sizes l+sizes l+2 else m.toNat*sizes l+(t-m).toNat*(sizes l+1))
def sizes:List Piece→Nat
 | []=>0
 |p::l=>size p+sizes l
end
theorem size_le (p:Piece):size p≤4001:=by
 match p with
 | .mk k t l a b=>unfold size;exact Nat.min_le_left _ _
theorem sizes_append (l m:List Piece):sizes (l++m)=sizes l+sizes m:=by
 induction l with
 |nil=>simp[sizes]
 |cons p l ih=>rw[List.cons_append,sizes,ih,sizes];omega
end M14
namespace M14
open Go M13
theorem row_stops {R:Nat→Nat→Option Got} {S:List UInt8} {deep:Nat}: ∀(k at_:Nat) (acc:List Piece) (p:Piece) (to:Nat),row R S deep k at_ acc=some (.ok p to)→stop S to
 |0,_,_,_,_=>by intro h;simp[row]at h
 |k+1,at_,acc,p,to=>by
  intro h
  unfold row at h
  by_cases c:stop S at_
  ·rw[if_pos c]at h
   injection h with h
   injection h with h1 h2
   subst h2;exact c
  ·rw[if_neg c]at h
   cases hp:part R S at_ deep with
   |none=>rw[hp]at h;simp at h
   |some g=>
    rw[hp]at h
    match g,h with
    | .bad b e,h=>simp at h
    | .ok q t2,h=>exact row_stops k _ _ _ _ h
theorem rowsL_stops {R:Nat→Nat→Option Got} {S:List UInt8} {deep:Nat}: ∀(k at_:Nat) (acc:List Piece) (p:Piece) (to:Nat),rowsL R S deep k at_ acc=some (.ok p to)→S.length≤to∨S.getD to 0=41
 |0,_,_,_,_=>by intro h;simp[rowsL]at h
 |k+1,at_,acc,p,to=>by
  intro h
  unfold rowsL at h
  cases hp:row R S deep (S.length+1) at_ []with
  |none=>rw[hp]at h;simp at h
  |some g=>
   rw[hp]at h
   match g,hp,h with
   | .bad b e,hp,h=>simp at h
   | .ok q t2,hp,h=>
    simp only at h
    by_cases c:t2=S.length∨S.getD t2 0≠124
    ·rw[if_pos c]at h
     injection h with h
     injection h with h1 h2
     subst h2
     rcases row_stops _ _ _ _ _ hp with s1|s1|s1
     ·exact .inl s1
     ·rcases c with c|c
      ·exact .inl (by omega)
      ·exact absurd s1 c
     ·exact .inr s1
    ·rw[if_neg c]at h
     exact rowsL_stops k _ _ _ _ h
theorem rows_stops {S:List UInt8} {n at_ deep:Nat} {p:Piece} {to:Nat} (h:rows S n at_ deep=some (.ok p to)):S.length≤to∨S.getD to 0=41:=by
 cases n with
 |zero=>simp[rows]at h
 |succ n=>unfold rows at h;exact rowsL_stops _ _ _ _ _ h
theorem sizes_take {l:List Piece} {i:Nat} (h:i<l.length):sizes (l.take (i+1))=sizes (l.take i)+size l[i]:=by
 rw[List.take_succ_eq_append_getElem h,sizes_append]
 simp[sizes]
theorem sizes_take_le (l:List Piece) (i:Nat):sizes (l.take i)≤sizes l:=by
 conv=>rhs;rw[←List.take_append_drop i l,sizes_append]
 exact Nat.le_add_right _ _
end M14
namespace M15
open Go M14
structure Inst where
 kind:Int
 text:ByteArray
 x:Int
 y:Int
def no:ByteArray:=⟨#[]⟩
def split (x y:Nat):Inst:=⟨6,no,x,y⟩
def jump (x:Nat):Inst:=⟨8,no,x,0⟩
def one (k:Int) (t:ByteArray) (a:Nat):Inst:=⟨k,t,(a+1:Nat),0⟩
def times (f:Nat→List Inst):Nat→Nat→List Inst
 |0,_=> []
 |n+1,a=>f a++times f n (a+(f a).length)
def maybe (f:Nat→List Inst) (e:Nat):Nat→Nat→List Inst
 |0,_=> []
 |n+1,a=>split (a+1) e::(f (a+1)++maybe f e n (a+1+(f (a+1)).length))
def star (f:Nat→List Inst) (e a:Nat):List Inst:=split (a+1) e::(f (a+1)++ [jump a])
def reps (f:Nat→List Inst) (m t:Int) (e a:Nat):List Inst:=
 times f m.toNat a++(if t= -1 then star f e (a+(times f m.toNat a).length)else maybe f e (t-m).toNat (a+(times f m.toNat a).length))
mutual
def steps:Piece→Nat→List Inst
 | .mk k t ks m tp,a=>
  if k=2 then[one 1 t a]else if k=3 then[one 2 no a]else if k=4 then[one 3 t a]else if k=5 then[one 4 no a]else if k=6 then[one 5 no a]
  else if k=7 then seqs ks a
  else if k=8 then alts ks a (a+size (.mk k t ks m tp))
  else if k=9 then reps (fun a=>first ks a) m tp (a+size (.mk k t ks m tp)) a
  else[]
def seqs:List Piece→Nat→List Inst
 | [],_=> []
 |p::l,a=>steps p a++seqs l (a+size p)
def alts:List Piece→Nat→Nat→List Inst
 | [],_,_=> []
 |p::l,a,e=>if l.isEmpty then steps p a else split (a+1) (a+size p+2)::(steps p (a+1)++jump e::alts l (a+size p+2) e)
def first:List Piece→Nat→List Inst
 | [],_=> []
 |p::_,a=>steps p a
end
def prog (p:Piece):List Inst:=steps p 0++ [⟨7,no,0,0⟩]
theorem ind {P:Piece→Prop} (h: ∀k t ks m tp,(∀p,p∈ks→P p)→P (.mk k t ks m tp)) (p:Piece):P p:=
 @Piece.rec P (fun l=> ∀p,p∈l→P p) (fun k t ks m tp ih=>h k t ks m tp ih) (by simp) (fun p l hp hl=>by
  intro q hq
  rcases List.mem_cons.1 hq with rfl|hq
  ·exact hp
  ·exact hl q hq) p
inductive Good:Piece→Prop where
 |leaf (k:Int) (t:ByteArray) (h:1≤k∧k≤6):Good (leaf k t)
 |many (k:Int) (h:k=7∨k=8) (ks:List Piece) (h2:2≤ks.length) (hk: ∀p,p∈ks→Good p):Good (.mk k no ks 0 0)
 |rep (p:Piece) (m t:Int) (hm:0≤m∧m≤100) (ht:t= -1∨m≤t∧t≤100) (hk:Good p):Good (.mk 9 no [p] m t)
theorem Good.of_whole {p:Piece} (h:Whole p):Good p:=by
 induction h with
 |none k hk=>exact .leaf k _ (by omega)
 |char c=>exact .leaf 2 _ (by omega)
 |set f=>exact .leaf 4 _ (by omega)
 |many k hk l h2 h3 hw ih=>exact .many k hk l h2 ih
 |rep p m t hm ht hw ih=>exact .rep p m t hm ht ih
theorem size_1 {k:Int} (hk:1≤k∧k≤6) (t:ByteArray):size (leaf k t)=if k=1 then 0 else 1:=by
 unfold leaf size
 by_cases h1:k=1
 ·simp[h1]
 ·simp[h1,show 2≤k∧k≤6 by omega]
theorem size_7 (t:ByteArray) (ks:List Piece) (m tp:Int):size (.mk 7 t ks m tp)=min 4001 (sizes ks):=by
 unfold size
 rw[if_neg (by decide),if_neg (by decide),if_pos rfl]
theorem size_8 (t:ByteArray) (ks:List Piece) (m tp:Int):size (.mk 8 t ks m tp)=min 4001 (sizes ks+2*(ks.length-1)):=by
 unfold size
 rw[if_neg (by decide),if_neg (by decide),if_neg (by decide),if_pos rfl]
theorem size_9 (t:ByteArray) (p:Piece) (m tp:Int):size (.mk 9 t [p] m tp)=min 4001 (if tp= -1 then m.toNat*size p+size p+2 else m.toNat*size p+(tp-m).toNat*(size p+1)):=by
 conv=>lhs;unfold size
 rw[if_neg (by decide),if_neg (by decide),if_neg (by decide),if_neg (by decide),show sizes [p]=size p by simp only[sizes,Nat.add_zero]]
theorem size_mem {p:Piece}: ∀ {l:List Piece},p∈l→size p≤sizes l
 |q::l,h=>by
  rw[sizes]
  rcases List.mem_cons.1 h with rfl|h
  ·omega
  ·have:=size_mem h;omega
/-! how many steps -/
theorem times_len {f:Nat→List Inst} {n:Nat} (hf: ∀a,(f a).length=n): ∀(m a:Nat),(times f m a).length=m*n
 |0,a=>by simp[times]
 |m+1,a=>by rw[times,List.length_append,hf,times_len hf m,Nat.succ_mul];omega
theorem maybe_len {f:Nat→List Inst} {n:Nat} (hf: ∀a,(f a).length=n) (e:Nat): ∀(m a:Nat),(maybe f e m a).length=m*(n+1)
 |0,a=>by simp[maybe]
 |m+1,a=>by rw[maybe,List.length_cons,List.length_append,hf,maybe_len hf e m,Nat.succ_mul];omega
theorem star_len {f:Nat→List Inst} {n:Nat} (hf: ∀a,(f a).length=n) (e a:Nat):(star f e a).length=n+2:=by
 rw[star,List.length_cons,List.length_append,hf];rfl
theorem rep_kid {p:Piece} {t:ByteArray} {m tp:Int} (h:size (.mk 9 t [p] m tp)≤4000) (hu:0<m∨tp= -1∨m<tp) (hm:0≤m):size p≤4000:=by
 rw[size_9]at h
 by_cases c:tp= -1
 ·rw[if_pos c]at h
  have:=size_le p
  omega
 ·rw[if_neg c]at h
  have h1:m.toNat*size p≤4000:=by omega
  have h2:(tp-m).toNat*(size p+1)≤4000:=by omega
  rcases hu with hu|hu|hu
  ·have:1*size p≤m.toNat*size p:=Nat.mul_le_mul_right _ (by omega)
   omega
  ·exact absurd hu c
  ·have:1*(size p+1)≤(tp-m).toNat*(size p+1):=Nat.mul_le_mul_right _ (by omega)
   omega
theorem seqs_len: ∀ {ks:List Piece},(∀p,p∈ks→ ∀a,(steps p a).length=size p)→ ∀a,(seqs ks a).length=sizes ks
 | [],_,a=>by simp[seqs,sizes]
 |p::l,h,a=>by
  rw[seqs,sizes,List.length_append,h p (by simp),seqs_len (fun q hq=>h q (by simp[hq]))]
theorem alts_1 (p:Piece) (a e:Nat):alts [p] a e=steps p a:=by rw[alts,if_pos (by simp)]
theorem alts_2 (p q:Piece) (l:List Piece) (a e:Nat):alts (p::q::l) a e=split (a+1) (a+size p+2)::(steps p (a+1)++jump e::alts (q::l) (a+size p+2) e):=by rw[alts,if_neg (by simp)]
theorem alts_len: ∀ {ks:List Piece},ks≠ []→(∀p,p∈ks→ ∀a,(steps p a).length=size p)→ ∀a e,(alts ks a e).length=sizes ks+2*(ks.length-1)
 | [],h0,_,a,e=>absurd rfl h0
 | [p],_,h,a,e=>by
  rw[alts_1,h p (by simp)];simp[sizes]
 |p::q::l,_,h,a,e=>by
  rw[alts_2,List.length_cons,List.length_append,List.length_cons,h p (by simp),alts_len (by simp) (fun r hr=>h r (by simp at hr;simp[hr]))]
  rw[show sizes (p::q::l)=size p+sizes (q::l) by simp only[sizes]]
  simp only[List.length_cons]
  omega
theorem steps_leaf {k:Int} (hk:1≤k∧k≤6) (t:ByteArray) (a:Nat):steps (leaf k t) a=if k=1 then[]else[one (k-1) (if k=2∨k=4 then t else no) a]:=by
 unfold leaf steps
 have:k=1∨k=2∨k=3∨k=4∨k=5∨k=6:=by omega
 rcases this with rfl|rfl|rfl|rfl|rfl|rfl<;>rfl
theorem steps_7 (t:ByteArray) (ks:List Piece) (m tp:Int) (a:Nat):steps (.mk 7 t ks m tp) a=seqs ks a:=by
 unfold steps;rfl
theorem steps_8 (t:ByteArray) (ks:List Piece) (m tp:Int) (a:Nat):steps (.mk 8 t ks m tp) a=alts ks a (a+size (.mk 8 t ks m tp)):=by
 unfold steps;rfl
theorem steps_9 (t:ByteArray) (p:Piece) (m tp:Int) (a:Nat):steps (.mk 9 t [p] m tp) a=reps (steps p) m tp (a+size (.mk 9 t [p] m tp)) a:=by
 unfold steps;rfl
theorem reps_len {f:Nat→List Inst} {n:Nat} (hf: ∀a,(f a).length=n) (m t:Int) (e a:Nat):(reps f m t e a).length=if t= -1 then m.toNat*n+n+2 else m.toNat*n+(t-m).toNat*(n+1):=by
 unfold reps
 rw[List.length_append,times_len hf]
 by_cases c:t= -1
 ·rw[if_pos c,if_pos c,star_len hf];omega
 ·rw[if_neg c,if_neg c,maybe_len hf]
theorem steps_len {p:Piece} (h:Good p):size p≤4000→ ∀a,(steps p a).length=size p:=by
 induction h with
 |leaf k t h=>
  intro _ a
  rw[steps_leaf h,size_1 h]
  split<;>rfl
 |many k hk ks h2 hw ih=>
  intro hs a
  rcases hk with rfl|rfl
  ·rw[size_7]at hs ⊢
   have hall: ∀p,p∈ks→ ∀a,(steps p a).length=size p:=fun p hp=>ih p hp (by have:=size_mem hp;omega)
   rw[steps_7,seqs_len hall];omega
  ·rw[steps_8]
   rw[size_8]at hs ⊢
   have hall: ∀p,p∈ks→ ∀a,(steps p a).length=size p:=fun p hp=>ih p hp (by have:=size_mem hp;omega)
   rw[alts_len (by intro q;subst q;simp at h2) hall];omega
 |rep p m t hm ht hw ih=>
  intro hs a
  rw[steps_9]
  by_cases hu:0<m∨t= -1∨m<t
  ·have hf:=ih (rep_kid hs hu hm.1)
   rw[reps_len hf,size_9]
   rw[size_9]at hs
   omega
  ·have hm0:m=0:=by omega
   have ht0:t=0:=by omega
   subst hm0 ht0
   rw[size_9]
   unfold reps
   simp[times,maybe]
/-! steps elsewhere -/
def shift (d:Nat) (x:Inst):Inst:=⟨x.kind,x.text,x.x+d,if x.kind=6 then x.y+d else x.y⟩
theorem shift_one (k:Int) (t:ByteArray) (a d:Nat) (hk:k≠6):shift d (one k t a)=one k t (a+d):=by
 unfold shift one
 rw[if_neg (show¬(Inst.mk k t ((a+1:Nat):Int) 0).kind=6 from hk)]
 simp only[Inst.mk.injEq,true_and,and_true]
 omega
theorem shift_split (x y d:Nat):shift d (split x y)=split (x+d) (y+d):=by
 unfold shift split
 rw[if_pos rfl]
 simp only[Inst.mk.injEq,true_and]
 omega
theorem shift_jump (x d:Nat):shift d (jump x)=jump (x+d):=by
 unfold shift jump
 rw[if_neg (show¬(8:Int)=6 by decide)]
 simp only[Inst.mk.injEq,true_and,and_true]
 omega
theorem times_shift {f:Nat→List Inst} (d:Nat) (hf: ∀a,f (a+d)=(f a).map (shift d)): ∀(m a:Nat),times f m (a+d)=(times f m a).map (shift d)
 |0,a=>rfl
 |m+1,a=>by
  rw[times,times,List.map_append,hf,List.length_map,←times_shift d hf m,show a+d+(f a).length=a+(f a).length+d by omega]
theorem maybe_shift {f:Nat→List Inst} (d:Nat) (hf: ∀a,f (a+d)=(f a).map (shift d)) (e:Nat): ∀(m a:Nat),maybe f (e+d) m (a+d)=(maybe f e m a).map (shift d)
 |0,a=>rfl
 |m+1,a=>by
  rw[maybe,maybe,List.map_cons,List.map_append,shift_split,show a+d+1=a+1+d by omega,hf,List.length_map,←maybe_shift d hf e m,show a+1+d+(f (a+1)).length=a+1+(f (a+1)).length+d by omega]
theorem star_shift {f:Nat→List Inst} (d:Nat) (hf: ∀a,f (a+d)=(f a).map (shift d)) (e a:Nat):star f (e+d) (a+d)=(star f e a).map (shift d):=by
 rw[star,star,List.map_cons,List.map_append,shift_split,show a+d+1=a+1+d by omega,hf,List.map_cons,List.map_nil,shift_jump]
theorem reps_shift {f:Nat→List Inst} (d:Nat) (hf: ∀a,f (a+d)=(f a).map (shift d)) (m t:Int) (e a:Nat):reps f m t (e+d) (a+d)=(reps f m t e a).map (shift d):=by
 unfold reps
 rw[List.map_append,times_shift d hf,List.length_map,show a+d+(times f m.toNat a).length=a+(times f m.toNat a).length+d by omega]
 by_cases c:t= -1
 ·rw[if_pos c,if_pos c,star_shift d hf]
 ·rw[if_neg c,if_neg c,maybe_shift d hf]
theorem seqs_shift (d:Nat): ∀ {ks:List Piece},(∀p,p∈ks→ ∀a,steps p (a+d)=(steps p a).map (shift d))→ ∀a,seqs ks (a+d)=(seqs ks a).map (shift d)
 | [],_,a=>by simp[seqs]
 |p::l,h,a=>by
  rw[seqs,seqs,List.map_append,h p (by simp),show a+d+size p=a+size p+d by omega,seqs_shift d (fun q hq=>h q (by simp[hq]))]
theorem alts_shift (d:Nat): ∀ {ks:List Piece},(∀p,p∈ks→ ∀a,steps p (a+d)=(steps p a).map (shift d))→ ∀a e,alts ks (a+d) (e+d)=(alts ks a e).map (shift d)
 | [],_,a,e=>by simp[alts]
 | [p],h,a,e=>by
  rw[alts_1,alts_1,h p (by simp)]
 |p::q::l,h,a,e=>by
  rw[alts_2,alts_2,List.map_cons,List.map_append,List.map_cons,shift_split,shift_jump,show a+d+1=a+1+d by omega,h p (by simp),show a+d+size p+2=a+size p+2+d by omega,alts_shift d (fun r hr=>h r (by simp at hr;simp[hr]))]
theorem steps_shift (d:Nat) (p:Piece): ∀a,steps p (a+d)=(steps p a).map (shift d):=by
 induction p using ind with
 |h k t ks m tp ih=>
  intro a
  unfold steps
  by_cases h2:k=2
  ·rw[if_pos h2,if_pos h2,List.map_cons,shift_one _ _ _ _ (by decide)];rfl
  rw[if_neg h2,if_neg h2]
  by_cases h3:k=3
  ·rw[if_pos h3,if_pos h3,List.map_cons,shift_one _ _ _ _ (by decide)];rfl
  rw[if_neg h3,if_neg h3]
  by_cases h4:k=4
  ·rw[if_pos h4,if_pos h4,List.map_cons,shift_one _ _ _ _ (by decide)];rfl
  rw[if_neg h4,if_neg h4]
  by_cases h5:k=5
  ·rw[if_pos h5,if_pos h5,List.map_cons,shift_one _ _ _ _ (by decide)];rfl
  rw[if_neg h5,if_neg h5]
  by_cases h6:k=6
  ·rw[if_pos h6,if_pos h6,List.map_cons,shift_one _ _ _ _ (by decide)];rfl
  rw[if_neg h6,if_neg h6]
  by_cases h7:k=7
  ·rw[if_pos h7,if_pos h7,seqs_shift d ih]
  rw[if_neg h7,if_neg h7]
  by_cases h8:k=8
  ·rw[if_pos h8,if_pos h8,show a+d+size (.mk k t ks m tp)=a+size (.mk k t ks m tp)+d by omega,alts_shift d ih]
  rw[if_neg h8,if_neg h8]
  by_cases h9:k=9
  ·rw[if_pos h9,if_pos h9,show a+d+size (.mk k t ks m tp)=a+size (.mk k t ks m tp)+d by omega,reps_shift d (fun b=> ?_)]
   match ks,ih with
   | [],_=>rfl
   |p::l,ih=>exact ih p (by simp) b
  rw[if_neg h9,if_neg h9]
  rfl
end M15
namespace Recs
open Strs (block_add strV)
def Recs {α:Type} (enc:α→List Value) (sz:Nat) (B:Nat) (w:World) (v:Value) (L:List α):Prop:=
 ∃(A:Option Addr) (c:Nat),v= .slice A L.length c∧L.length≤c∧c≤maxLen∧
  (0<L.length→ ∃ad,A=some ad∧ad.block<B∧ ∀k (h:k<L.length) j,j<sz→w.cell? (ad.add (k*sz+j))=(enc L[k])[j]?)
section
variable {α:Type} {enc:α→List Value} {sz B B':Nat} {w w':World} {v:Value} {L:List α}
theorem Recs.keep (h:Recs enc sz B w v L) (hk: ∀p:Addr,p.block<B→w'.cell? p=w.cell? p):Recs enc sz B w' v L:=by
 obtain⟨A,c,e,h1,h2,h3⟩:=h
 exact⟨A,c,e,h1,h2,fun hn=>by
  obtain⟨ad,e2,hb,hc⟩:=h3 hn
  exact⟨ad,e2,hb,fun k hk2 j hj=>(hk _ (by rw[block_add];exact hb)).trans (hc k hk2 j hj)⟩⟩
theorem Recs.more (h:Recs enc sz B w v L) (hB:B≤B'):Recs enc sz B' w v L:=by
 obtain⟨A,c,e,h1,h2,h3⟩:=h
 exact⟨A,c,e,h1,h2,fun hn=>by
  obtain⟨ad,e2,hb,hc⟩:=h3 hn
  exact⟨ad,e2,by omega,hc⟩⟩
theorem Recs.below (h:Recs enc sz B w v L) (hb:Below B w w'):Recs enc sz B w' v L:=h.keep fun _ hp=>hb.cell hp
theorem Recs.alloc (h:Recs enc sz B w v L) (hB:B≤w.heap.size) (o:Obj):Recs enc sz B (w.alloc o) v L:=h.keep fun p hp=>World.cell?_alloc_lt w o p (by omega)
theorem Recs.drewN (h:Recs enc sz B w v L) (k:Nat):Recs enc sz B (w.drewN k) v L:=h
theorem Recs.len (h:Recs enc sz B w v L):L.length≤maxLen:=by
 obtain⟨A,c,e,h1,h2,h3⟩:=h
 omega
theorem Recs.form (h:Recs enc sz B w v L): ∃A c,v= .slice A L.length c∧L.length≤c∧c≤maxLen:=by
 obtain⟨A,c,e,h1,h2,h3⟩:=h
 exact⟨A,c,e,h1,h2⟩
theorem Recs.at_ {A:Option Addr} {n c:Nat} (h:Recs enc sz B w (.slice A n c) L) {k:Nat} (hk:k<n): ∃(ad:Addr) (hl:k<L.length),A=some ad∧ad.block<B∧ ∀j,j<sz→w.cell? (ad.add (k*sz+j))=(enc L[k])[j]? :=by
 obtain⟨A',c',e,h1,h2,h3⟩:=h
 injection e with e1 e2 e3
 subst e1 e2 e3
 obtain⟨ad,e2,hb,hc⟩:=h3 (by omega)
 exact⟨ad,hk,e2,hb,hc k hk⟩
theorem Recs.flat_ {A:Option Addr} {n c:Nat} (h:Recs enc sz B w (.slice A n c) L) (he: ∀x:α,(enc x).length=sz) (h0:0<sz) {k:Nat} (hk:k<n): ∃(b o:Nat) (hl:k<L.length),A=some ⟨b,o,none⟩∧b<B∧ ∀j,j<sz→w.cell? ⟨b,o+k*sz+j,none⟩=(enc L[k])[j]? :=by
 obtain⟨ad,hl,rfl,hb,hc⟩:=h.at_ hk
 obtain⟨b,o,sp⟩:=ad
 have hsp:sp=none:=by
  obtain⟨ad2,hl2,e2,-,hc2⟩:=h.at_ (k:=0) (by omega)
  cases e2
  have:=hc2 0 h0
  rw[List.getElem?_eq_getElem (by rw[he];exact h0)]at this
  simpa [Addr.add]using World.cell?_spot this
 subst hsp
 refine⟨b,o,hl,rfl,hb,fun j hj=> ?_⟩
 have:=hc j hj
 rw[show(⟨b,o,none⟩:Addr).add (k*sz+j)=⟨b,o+k*sz+j,none⟩ by unfold Addr.add;split<;>simp_all<;>omega]at this
 exact this
theorem recs_nil (enc:α→List Value) (sz B:Nat) (w:World):Recs enc sz B w (.slice none 0 0) []:=⟨none,0,rfl,Nat.le_refl _,Nat.zero_le _,fun h=>absurd h (by simp)⟩
theorem flat_at (he: ∀x:α,(enc x).length=sz): ∀(L:List α) (k:Nat) (h:k<L.length) (j:Nat),j<sz→(L.flatMap enc)[k*sz+j]? =(enc L[k])[j]?
 | [],k,h,_,_=>by simp at h
 |x::L,0,h,j,hj=>by
  rw[List.flatMap_cons,Nat.zero_mul,Nat.zero_add,List.getElem?_append_left (by rw[he];exact hj)];rfl
 |x::L,k+1,h,j,hj=>by
  rw[List.flatMap_cons,List.getElem?_append_right (by rw[he,Nat.succ_mul];omega),he]
  have:=flat_at he L k (by simpa using h) j hj
  rw[show(k+1)*sz+j-sz=k*sz+j by rw[Nat.succ_mul];omega,this];rfl
theorem flat_len (he: ∀x:α,(enc x).length=sz) (L:List α):(L.flatMap enc).length=L.length*sz:=by
 induction L with
 |nil=>simp
 |cons x L ih=>rw[List.flatMap_cons,List.length_append,ih,he,List.length_cons,Nat.succ_mul];omega
theorem Recs.of_own (he: ∀x:α,(enc x).length=sz) {base:Nat} {e:TypeId} {n:Nat} (hn:n=L.length) (h:w.ownsRow base e sz v n (L.flatMap enc)):Recs enc sz w.heap.size w v L:=by
 subst hn
 rcases h.2 with⟨rfl,h0⟩|⟨g,cap,cur,rfl,hg,hh,hn,hcap,hsz,htk⟩
 ·have:L= []:=List.length_eq_zero_iff.1 h0
  subst this
  exact recs_nil _ _ _ _
 ·refine⟨_,_,rfl,by omega,by omega,fun hn0=>⟨_,rfl,?_,fun k hk j hj=> ?_⟩⟩
  ·rcases Nat.lt_or_ge g w.heap.size with hlt|hge
   ·exact hlt
   ·rw[Array.getElem?_eq_none hge]at hh;cases hh
  ·have hf:=flat_at he L k hk j hj
   have hlt:j<(enc L[k]).length:=by rw[he];exact hj
   rw[List.getElem?_eq_getElem hlt]at hf ⊢
   have:=h.cells (g:=g) rfl (k*sz+j) ((enc L[k])[j]) hf
   exact this
theorem Recs.other {g o n c:Nat} (h:Recs enc sz B w (.slice (some ⟨g,o,none⟩) n c) L) (hk: ∀p:Addr,p.block=g→w'.cell? p=w.cell? p):Recs enc sz B w' (.slice (some ⟨g,o,none⟩) n c) L:=by
 obtain⟨A,c',e,h1,h2,h3⟩:=h
 injection e with e1 e2 e3
 subst e1 e2 e3
 exact⟨_,_,rfl,h1,h2,fun hn=>by
  obtain⟨ad,e2,hb,hc⟩:=h3 hn
  cases e2
  exact⟨_,rfl,hb,fun k hk2 j hj=>(hk _ (by rw[block_add])).trans (hc k hk2 j hj)⟩⟩
theorem Recs.news {A:Option Addr} {n c:Nat} (h:Recs enc sz B w (.slice A n c) L) (he: ∀x:α,(enc x).length=sz) (h0:0<sz) (hn:0<n): ∃b o:Nat,A=some ⟨b,o,none⟩∧b<B∧ ∀j u,(L.flatMap enc)[j]? =some u→w.cell? ((⟨b,o,none⟩:Addr).add j)=some u:=by
 obtain⟨b,o,hl0,rfl,hb,-⟩:=h.flat_ he h0 hn
 have hln:n=L.length:=by obtain⟨A',c',e,_⟩:=h;injection e
 refine⟨b,o,rfl,hb,fun j u hj=> ?_⟩
 have hjl:j<L.length*sz:=by
  rw[←flat_len he L]
  rcases Nat.lt_or_ge j (L.flatMap enc).length with hlt|hge
  ·exact hlt
  ·rw[List.getElem?_eq_none hge]at hj;cases hj
 have hk:j/sz<n:=by rw[hln];exact(Nat.div_lt_iff_lt_mul h0).2 hjl
 obtain⟨b',o',hl,e,-,hc⟩:=h.flat_ he h0 hk
 cases e
 have hi:j%sz<sz:=Nat.mod_lt _ h0
 have h1:=hc (j%sz) hi
 have h2:=flat_at he L (j/sz) hl (j%sz) hi
 have e2:j/sz*sz+j%sz=j:=by rw[Nat.mul_comm];exact Nat.div_add_mod j sz
 rw[e2,hj]at h2
 rw[show(⟨b,o,none⟩:Addr).add j=⟨b,o+j/sz*sz+j%sz,none⟩ by unfold Addr.add;split<;>simp_all<;>omega]
 rw[h1,←h2]
end
theorem cells_new (w:World) (cs:List Value) (t:TypeId): ∀j u,cs[j]? =some u→(w.alloc (.cells cs.toArray t)).cell? ((⟨w.heap.size,0,none⟩:Addr).add j)=some u:=by
 intro j u hj
 have hadd:(⟨w.heap.size,0,none⟩:Addr).add j=⟨w.heap.size,j,none⟩:=by unfold Addr.add;split<;>simp_all
 rw[hadd]
 simp[hj]
end Recs
namespace Recs
open Strs (block_add strV)
section
variable {α:Type} {enc:α→List Value} {sz:Nat} {B:Nat} {w:World} {A:Option Addr} {n c:Nat} {L:List α}
theorem Recs.count (h:Recs enc sz B w (.slice A n c) L):n=L.length∧n≤c∧c≤maxLen:=by
 obtain⟨A',c',e,h1,h2,h3⟩:=h
 injection e with e1 e2 e3
 subst e1 e2 e3
 exact⟨rfl,h1,h2⟩
theorem Recs.take (h:Recs enc sz B w (.slice A n c) L) {k:Nat} (hk:k≤n):Recs enc sz B w (.slice A k c) (L.take k):=by
 obtain⟨hn,hc1,hc2⟩:=h.count
 subst hn
 obtain⟨A0,c0,e,h1,h2,h3⟩:=h
 cases e
 have hl:(L.take k).length=k:=by rw[List.length_take];omega
 refine⟨A,c,by rw[hl],by omega,hc2,fun h0=> ?_⟩
 obtain⟨ad,rfl,hb,hc⟩:=h3 (by omega)
 refine⟨ad,rfl,hb,fun i hi j hj=> ?_⟩
 rw[hc i (by omega) j hj,List.getElem_take]
theorem Recs.drop (h:Recs enc sz B w (.slice A n c) L) (he: ∀x:α,(enc x).length=sz) (h0:0<sz) {k:Nat} (hk:k≤n):Recs enc sz B w (.slice (A.map fun x=>x.add (k*sz)) (n-k) (c-k)) (L.drop k):=by
 obtain⟨hn,hc1,hc2⟩:=h.count
 have hfl:0<n→ ∃b o,A=some ⟨b,o,none⟩:=fun hp=>by
  obtain⟨b,o,_,e,_⟩:=h.flat_ he h0 hp
  exact⟨b,o,e⟩
 subst hn
 obtain⟨A0,c0,e,h1,h2,h3⟩:=h
 cases e
 refine⟨_,c-k,by rw[List.length_drop],by rw[List.length_drop];omega,by omega,fun hp=> ?_⟩
 rw[List.length_drop]at hp
 obtain⟨b,o,rfl⟩:=hfl (by omega)
 obtain⟨ad,e,hb,hc⟩:=h3 (by omega)
 cases e
 refine⟨_,rfl,by rw[block_add];exact hb,fun i hi j hj=> ?_⟩
 rw[List.length_drop]at hi
 have:=hc (k+i) (by omega) j hj
 rw[Addr.add_lit]at this
 show w.cell? (((⟨b,o,none⟩:Addr).add (k*sz)).add (i*sz+j))=_
 rw[Addr.add_lit,Addr.add_lit,show o+k*sz+(i*sz+j)=o+((k+i)*sz+j) by rw[Nat.add_mul];omega,this]
 congr 2
 simp
theorem Recs.mid (h:Recs enc sz B w (.slice A n c) L) (he: ∀x:α,(enc x).length=sz) (h0:0<sz) {i j:Nat} (hij:i≤j) (hj:j≤n):Recs enc sz B w (.slice (A.map fun x=>x.add (i*sz)) (j-i) (c-i)) ((L.take j).drop i):=(h.take hj).drop he h0 hij
theorem Recs.one (h:Recs enc sz B w (.slice A n c) L) (he: ∀x:α,(enc x).length=sz) (h0:0<sz) {i:Nat} (hj:i+1≤n):Recs enc sz B w (.slice (A.map fun x=>x.add (i*sz)) 1 (c-i)) ((L.take (i+1)).drop i):=by
 have:=h.mid he h0 (Nat.le_succ i) hj
 rwa[show i+1-i=1 by omega]at this
end
end Recs
end Go.Proofs.YtfgegjinhkgpbaaGreatDoor
