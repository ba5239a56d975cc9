/-
  Texts joined, in build order, each with its own comment and its own conditions: W04Math, W04Pieces, W04Seq, W04Iter, StrOwn, W04Buf, W04Parts, W04Clean, W03Walk, W04Join, W04Under, W02Same, W04Use, W04Walk, W04CleanCode, W04Real, W04Code.
-/
import Derived.Test.YtfgegjinhkgpbaaGreatDoorJ17
import Derived.Test.YtfgegjinhkgpbaaGreatDoorJ01
import Derived.Lib.Bytealg
import Derived.Test.YtfgegjinhkgpbaaGreatDoorJ08
import Derived.Test.YtfgegjinhkgpbaaGreatDoorJ04
import Derived.Test.YtfgegjinhkgpbaaGreatDoorChecked
import Derived.RangeFuncBound
import Derived.Shelf.Abstract
import Derived.Shelf.RegionOpen
import Derived.WalkKit
import Derived.OwnWalkIn
import Derived.TacticsInMore
import Derived.LoopNIn
import Derived.LoopIn
import Derived.RangeFuncBox
import Derived.Room.AppendFits
import Derived.WalkSpells
import Derived.WalkLawsBesides
import Derived.BigQuiet
import Derived.Deep.QuietTactic
import Derived.Maps.AppendAt
import Derived.Deep.Onto
namespace Go.Proofs.YtfgegjinhkgpbaaGreatDoor
set_option maxHeartbeats 4000000
set_option maxRecDepth 100000
open Go.RowKit
open Lib (hid)
namespace M04
open M03 (check)
abbrev Bytes:=List UInt8
def flush (now:Bytes):List Bytes:=if now= []∨now= [46]then[]else[now]
def pgo:Bytes→Bytes→List Bytes
 | [],now=>flush now
 |c::r,now=>if c=47 then flush now++pgo r []else pgo r (now++ [c])
def parts (l:Bytes):List Bytes:=pgo l []
def text (L:List Bytes):Bytes:=if L= []then[47]else L.flatMap (fun p=>47::p)
def cstep (out:List Bytes) (p:Bytes):List Bytes:=if p= [46,46]then out.dropLast else out++ [p]
def cparts (L:List Bytes):List Bytes:=L.foldl cstep []
def clean (l:Bytes):Bytes:=text (cparts (parts l))
def base (s:Bytes):Bytes:=(parts (clean s)).getLastD []
def slashed:List Bytes→Bytes
 | []=> []
 | [p]=>p
 |p::q::r=>p++47::slashed (q::r)
def isUnder (s dir:Bytes):Bool:=decide (clean s=s)&&decide (clean dir=dir)&&(parts dir).isPrefixOf (parts s)
def under (s dir:Bytes):Bytes×Bool:=if isUnder s dir=true then(slashed ((parts s).drop (parts dir).length),true)else([],false)
def Part (p:Bytes):Prop:=(47:UInt8)∉p∧p≠ []∧p≠ [46]
theorem flush_parts {now:Bytes} (h:(47:UInt8)∉now): ∀p∈flush now,Part p:=by
 intro p hp
 unfold flush at hp
 split at hp
 ·simp at hp
 ·rename_i h2
  simp only[List.mem_singleton]at hp
  subst hp
  exact⟨h,fun e=>h2 (Or.inl e),fun e=>h2 (Or.inr e)⟩
theorem pgo_parts: ∀(l now:Bytes),(47:UInt8)∉now→ ∀p∈pgo l now,Part p
 | [],now,h=>flush_parts h
 |c::r,now,h=>by
  intro p hp
  unfold pgo at hp
  split at hp
  ·rcases List.mem_append.1 hp with h1|h1
   ·exact flush_parts h p h1
   ·exact pgo_parts r [] (by simp) p h1
  ·rename_i hc
   exact pgo_parts r _ (by
    intro e
    rcases List.mem_append.1 e with e|e
    ·exact h e
    ·exact hc (List.mem_singleton.1 e).symm) p hp
theorem parts_are (l:Bytes): ∀p∈parts l,Part p:=pgo_parts l [] (by simp)
theorem flush_part {p:Bytes} (h:Part p):flush p= [p]:=by
 unfold flush;rw[if_neg];rintro(e|e);exact h.2.1 e;exact h.2.2 e
theorem pgo_run: ∀(p r now:Bytes),(47:UInt8)∉p→pgo (p++r) now=pgo r (now++p)
 | [],r,now,_=>by simp
 |c::p,r,now,h=>by
  simp only[List.mem_cons,not_or]at h
  show pgo (c::(p++r)) now=_
  rw[pgo,if_neg (fun e=>h.1 e.symm),pgo_run p r (now++ [c]) h.2,List.append_assoc]
  rfl
theorem pgo_slash (l:Bytes) (r now:Bytes):pgo (l++47::r) now=pgo l now++parts r:=by
 induction l generalizing now with
 |nil=>simp[pgo,parts]
 |cons c l ih=>
  show pgo (c::(l++47::r)) now=_
  rw[pgo,pgo]
  split
  ·rw[ih,List.append_assoc]
  ·rw[ih]
theorem parts_slash (l r:Bytes):parts (l++47::r)=parts l++parts r:=pgo_slash l r []
theorem parts_one {p:Bytes} (h:Part p):parts p= [p]:=by
 have:=pgo_run p [] [] h.1
 rw[List.append_nil]at this
 unfold parts;rw[this]
 show flush ([]++p)=_
 rw[List.nil_append,flush_part h]
theorem parts_nil:parts []= []:=rfl
theorem parts_flat: ∀(L:List Bytes),(∀p∈L,Part p)→parts (L.flatMap (fun p=>47::p))=L
 | [],_=>rfl
 |p::L,h=>by
  have ih:=parts_flat L (fun q hq=>h q (by simp[hq]))
  have hp:=h p (by simp)
  show parts (47::p++L.flatMap (fun p=>47::p))=_
  cases L with
  |nil=>
   show parts ([]++47::(p++ []))=_
   rw[parts_slash,List.append_nil,parts_one hp];rfl
  |cons q L=>
   have e:(47::p++(q::L).flatMap (fun p=>47::p):Bytes)= []++47::(p++47::(q++L.flatMap (fun p=>47::p))):=by simp
   have e2:((q::L).flatMap (fun p=>47::p):Bytes)= []++47::(q++L.flatMap (fun p=>47::p)):=by simp
   rw[e2,parts_slash]at ih
   rw[e,parts_slash,parts_slash,parts_one hp]
   simp only[parts_nil,List.nil_append]at ih ⊢
   rw[ih];rfl
theorem parts_text {L:List Bytes} (h: ∀p∈L,Part p):parts (text L)=L:=by
 unfold text
 split
 ·rename_i e;subst e;rfl
 ·exact parts_flat L h
theorem cstep_part {out:List Bytes} {p:Bytes} (h: ∀q∈out,Part q∧q≠ [46,46]) (hp:Part p): ∀q∈cstep out p,Part q∧q≠ [46,46]:=by
 intro q hq
 unfold cstep at hq
 split at hq
 ·exact h q (List.dropLast_subset _ hq)
 ·rename_i hne
  rcases List.mem_append.1 hq with h1|h1
  ·exact h q h1
  ·simp only[List.mem_singleton]at h1;subst h1;exact⟨hp,hne⟩
theorem fold_part: ∀(L out:List Bytes),(∀q∈out,Part q∧q≠ [46,46])→(∀p∈L,Part p)→ ∀q∈L.foldl cstep out,Part q∧q≠ [46,46]
 | [],_,h,_=>h
 |p::L,out,h,hL=>fold_part L (cstep out p) (cstep_part h (hL p (by simp))) (fun q hq=>hL q (by simp[hq]))
theorem cparts_are {L:List Bytes} (h: ∀p∈L,Part p): ∀q∈cparts L,Part q∧q≠ [46,46]:=fold_part L [] (by simp) h
theorem parts_clean (l:Bytes):parts (clean l)=cparts (parts l):=parts_text fun p hp=>(cparts_are (parts_are l) p hp).1
theorem clean_parts_plain (l:Bytes): ∀p∈parts (clean l),Part p∧p≠ [46,46]:=by rw[parts_clean];exact cparts_are (parts_are l)
theorem cparts_append (A B:List Bytes):cparts (A++B)=B.foldl cstep (cparts A):=by unfold cparts;rw[List.foldl_append]
/-! lengths -/
def total (L:List Bytes):Nat:=(L.map (fun p=>p.length+1)).foldr (· + ·) 0
theorem total_cons (p:Bytes) (L:List Bytes):total (p::L)=p.length+1+total L:=rfl
theorem total_append (A B:List Bytes):total (A++B)=total A+total B:=by
 induction A with
 |nil=>simp[total]
 |cons a A ih=>rw[List.cons_append,total_cons,total_cons,ih];omega
theorem total_flush (now:Bytes):total (flush now)≤now.length+1:=by unfold flush;split<;>simp[total]
theorem pgo_total: ∀(l now:Bytes),total (pgo l now)≤l.length+now.length+1
 | [],now=>by have:=total_flush now;simpa [pgo]using this
 |c::r,now=>by
  unfold pgo
  split
  ·have:=pgo_total r [];have:=total_flush now
   rw[total_append];simp only[List.length_nil,List.length_cons]at *;omega
  ·have:=pgo_total r (now++ [c]);simp only[List.length_append,List.length_cons,List.length_nil]at *;omega
theorem parts_total (l:Bytes):total (parts l)≤l.length+1:=pgo_total l []
theorem flat_total (L:List Bytes):(L.flatMap (fun p=>47::p)).length=total L:=by
 induction L with
 |nil=>rfl
 |cons p L ih=>rw[List.flatMap_cons,List.length_append,ih,total_cons];simp
theorem total_dropLast (L:List Bytes):total L.dropLast≤total L:=by
 induction L with
 |nil=>simp
 |cons p L ih=>
  cases L with
  |nil=>simp[total]
  |cons q L=>rw[List.dropLast_cons_cons,total_cons,total_cons];omega
theorem fold_total: ∀(L out:List Bytes),total (L.foldl cstep out)≤total out+total L
 | [],out=>by simp[total]
 |p::L,out=>by
  have h:=fold_total L (cstep out p)
  have h2:total (cstep out p)≤total out+(p.length+1):=by
   unfold cstep
   split
   ·have:=total_dropLast out;omega
   ·rw[total_append];simp[total]
  rw[List.foldl_cons,total_cons];omega
theorem text_len (L:List Bytes):(text L).length≤total L+1:=by
 unfold text
 split
 ·simp
 ·rw[flat_total];omega
theorem clean_len (l:Bytes):(clean l).length≤l.length+2:=by
 have h1:=text_len (cparts (parts l))
 have h2:=fold_total (parts l) []
 have h3:=parts_total l
 unfold clean
 simp only[cparts]at*
 have:total []=0:=rfl
 omega
end M04
namespace M04
open Go
open Kit (mk_bytes mk_of drop_bytes take_bytes ba_ext)
def pieces:Bytes→List Bytes
 | []=> [[]]
 |c::r=>if c=47 then[]::pieces r else(match pieces r with
  | []=> [[c]]
  |p::q=>(c::p)::q)
theorem pieces_ne (l:Bytes):pieces l≠ []:=by
 cases l with
 |nil=>simp[pieces]
 |cons c r=>
  unfold pieces
  split
  ·simp
  ·split<;>simp
theorem pieces_slash (r:Bytes):pieces (47::r)= []::pieces r:=by rw[pieces,if_pos rfl]
theorem pieces_other {c:UInt8} (h:c≠47) (r:Bytes): ∃p q,pieces r=p::q∧pieces (c::r)=(c::p)::q:=by
 cases hp:pieces r with
 |nil=>exact absurd hp (pieces_ne r)
 |cons p q=>exact⟨p,q,rfl,by rw[pieces,if_neg h,hp]⟩
theorem pieces_whole: ∀(l:Bytes),(47:UInt8)∉l→pieces l= [l]
 | [],_=>rfl
 |c::r,h=>by
  simp only[List.mem_cons,not_or]at h
  obtain⟨p,q,e1,e2⟩:=pieces_other (c:=c) (fun e=>h.1 e.symm) r
  rw[pieces_whole r h.2]at e1
  injection e1 with e1 e3
  rw[e2,←e1,←e3]
theorem pieces_cut: ∀(a r:Bytes),(47:UInt8)∉a→pieces (a++47::r)=a::pieces r
 | [],r,_=>pieces_slash r
 |c::a,r,h=>by
  simp only[List.mem_cons,not_or]at h
  obtain⟨p,q,e1,e2⟩:=pieces_other (c:=c) (fun e=>h.1 e.symm) (a++47::r)
  rw[pieces_cut a r h.2]at e1
  injection e1 with e1 e3
  show pieces (c::(a++47::r))=_
  rw[e2,←e1,←e3]
def keeps (p:Bytes):Bool:=p != []&&p != [46]
theorem flush_keeps (p:Bytes):flush p=if keeps p=true then[p]else[]:=by
 unfold flush keeps
 by_cases h1:p= []<;>by_cases h2:p= [46]<;>simp[h1,h2]
theorem pgo_pieces: ∀(l now:Bytes) (p:Bytes) (q:List Bytes),pieces l=p::q→pgo l now=((now++p)::q).filter keeps
 | [],now,p,q,h=>by
  injection h with h1 h2
  subst h1 h2
  rw[pgo,flush_keeps,List.append_nil,List.filter_cons,List.filter_nil]
 |c::r,now,p,q,h=>by
  unfold pgo
  split
  ·rename_i hc
   subst hc
   rw[pieces_slash]at h
   injection h with h1 h2
   subst h1
   obtain⟨p2,q2,e⟩: ∃p2 q2,pieces r=p2::q2:=by
    cases hp:pieces r with
    |nil=>exact absurd hp (pieces_ne r)
    |cons p q=>exact⟨p,q,rfl⟩
   rw[pgo_pieces r [] p2 q2 e,List.nil_append,←h2,e,List.append_nil,flush_keeps,List.filter_cons (x:=now)]
   split<;>rfl
  ·rename_i hc
   obtain⟨p2,q2,e1,e2⟩:=pieces_other hc r
   rw[e2]at h
   injection h with h1 h2
   subst h1 h2
   rw[pgo_pieces r (now++ [c]) p2 q2 e1]
   simp
theorem parts_pieces (l:Bytes):parts l=(pieces l).filter keeps:=by
 cases hp:pieces l with
 |nil=>exact absurd hp (pieces_ne l)
 |cons p q=>unfold parts;rw[pgo_pieces l [] p q hp,List.nil_append]
/-! texts of bytes -/
def mk (l:Bytes):ByteArray:=⟨l.toArray⟩
def piecesOf (s:ByteArray):List ByteArray:=(pieces s.data.toList).map mk
def partsOf (s:ByteArray):List ByteArray:=(parts s.data.toList).map mk
theorem data_mk (s:ByteArray):mk s.data.toList=s:=mk_bytes s
theorem map_data (L:List Bytes):(L.map mk).map (fun x=>x.data.toList)=L:=by rw[List.map_map];exact List.map_id _
def keepsOf (x:ByteArray):Bool:=keeps x.data.toList
theorem partsOf_pieces (s:ByteArray):partsOf s=(piecesOf s).filter keepsOf:=by
 unfold partsOf piecesOf
 rw[parts_pieces,List.filter_map]
 rfl
theorem index_none: ∀(l:Bytes) (c:UInt8),Lib.indexByte l c<0→c∉l
 | [],_,_=>by simp
 |d::r,c,h=>by
  rw[Lib.indexByte]at h
  split at h
  ·omega
  ·rename_i hd
   have h1:=Lib.indexByte_ge r c
   simp only[List.mem_cons,not_or]
   refine⟨fun e=>hd (by simp[e]),index_none r c ?_⟩
   split at h
   ·rename_i h2
    simp at h2;omega
   ·omega
theorem index_some: ∀(l:Bytes) (c:UInt8),0≤Lib.indexByte l c→ ∃k:Nat,Lib.indexByte l c=k∧k<l.length∧l=l.take k++c::l.drop (k+1)∧c∉l.take k
 | [],c,h=>by simp[Lib.indexByte]at h
 |d::r,c,h=>by
  rw[Lib.indexByte]at h ⊢
  split at h
  ·rename_i hd
   rw[if_pos hd]
   have:d=c:=by simpa using hd
   subst this
   exact⟨0,rfl,by simp,by simp,by simp⟩
  ·rename_i hd
   rw[if_neg hd]
   split at h
   ·omega
   ·rename_i h2
    rw[if_neg h2]
    have h1:=Lib.indexByte_ge r c
    simp at h2
    obtain⟨k,e1,e2,e3,e4⟩:=index_some r c (by omega)
    refine⟨k+1,by rw[e1];rfl,by simp;omega,?_,?_⟩
    ·show d::r=d::(r.take k++c::r.drop (k+1))
     rw[←e3]
    ·rw[List.take_succ_cons]
     simp only[List.mem_cons,not_or]
     exact⟨fun e=>hd (by simp[e]),e4⟩
theorem first_slash (r:ByteArray):(Lib.indexByte r.data.toList 47= -1∧piecesOf r= [r])∨
    (∃k:Nat,Lib.indexByte r.data.toList 47=k∧k<r.size∧piecesOf r=r.extract 0 k::piecesOf (r.extract (k+1) r.size)):=by
 rcases Int.lt_or_le (Lib.indexByte r.data.toList 47) 0 with h|h
 ·left
  have h1:=Lib.indexByte_ge r.data.toList 47
  refine⟨by omega,?_⟩
  unfold piecesOf
  rw[pieces_whole _ (index_none _ _ h),List.map_singleton,data_mk]
 ·right
  obtain⟨k,e1,e2,e3,e4⟩:=index_some _ _ h
  refine⟨k,e1,by rw[Lib.size_eq];exact e2,?_⟩
  unfold piecesOf
  rw[drop_bytes]
  conv=>lhs;rw[e3,pieces_cut _ _ e4]
  rw[List.map_cons]
  congr 1
  apply ba_ext
  rw[take_bytes];rfl
end M04
namespace W04
open Go.Shelf Range M04
open Kit (ret_str ret_bool ret_int mk_of mk_bytes below_draws on)
attribute [local go_sem] Oper.semAt_some
theorem index_slash (s:ByteArray) (w:World):Calls Tryz.prog 81 #[.string s,.string ⟨#[47]⟩] w fun e w'=>e= .returned (.int .i64 (Lib.indexByte s.data.toList 47))∧ ∃n,w'=w.drewN n:=by
 have H:Hid (∀w:World,Calls Tryz.prog 61 #[.string s,.int .u8 47] w fun e w'=>e= .returned (.int .i64 (Lib.indexByte s.data.toList 47))∧w'=w):=fun w=>Tryz.stringslite_IndexByte s 47 w
 have H2:Hid (∀w:World,Calls Tryz.prog 94 #[.string s,.string ⟨#[47]⟩] w fun e w'=>e= .returned (.int .i64 (Lib.indexByte s.data.toList 47))∧ ∃n,w'=w.drewN n):=by
  show∀w:World,_
  intro w
  cases ht:([47]==s.toList)with
  |true=>
   have e:s.data.toList= [47]:=by rw[←Lib.toList_data];exact(beq_iff_eq.1 ht).symm
   have e2:Lib.indexByte s.data.toList 47=0:=by rw[e];rfl
   rw[e2]
   clear e e2 H
   go_enter Tryz.func94,Tryz.ntmps94
   go_wp2_with fail
   go_ret
   exact⟨rfl,0,rfl⟩
  |false=>
   generalize Lib.indexByte s.data.toList 47=r at*
   go_enter Tryz.func94,Tryz.ntmps94
   go_wp2_with fail
   refine Calls.mono (H.out _) ?_
   rintro e w1 ⟨rfl,rfl⟩
   go_wp2_with fail
   go_ret
   exact⟨rfl,0,rfl⟩
 generalize Lib.indexByte s.data.toList 47=r at*
 go_enter Tryz.func81,Tryz.ntmps81
 go_wp2_with fail
 refine(H2.out _).mono ?_
 rintro e w1 ⟨rfl,n,rfl⟩
 go_wp2_with fail
 go_ret
 exact⟨rfl,n,rfl⟩
def caught (b:Nat):Array Value:= #[.pointer (some ⟨b+1,0,none⟩),.pointer (some ⟨b,0,none⟩),.pointer (some ⟨b+2,0,none⟩)]
def three (w:World) (s:ByteArray):World:=((w.alloc (.cells #[.string s] 9)).alloc (.cells #[.string ⟨#[47]⟩] 9)).alloc (.cells #[.int .i64 0] 3)
theorem splitSeq_at (s:ByteArray) (w:World):Calls Tryz.prog 143 #[.string s,.string ⟨#[47]⟩] w fun e w'=>e= .returned (.func (.func 169) #[] (caught w.heap.size))∧w'=three w s:=by
 have H:Hid (∀w:World,Calls Tryz.prog 159 #[.string s,.string ⟨#[47]⟩,.int .i64 0] w fun e w'=>e= .returned (.func (.func 169) #[] (caught w.heap.size))∧w'=three w s):=by
  show∀w:World,_
  intro w
  go_enter Tryz.func159,Tryz.ntmps159
  go_wp2_with fail
  go_ret
  exact⟨rfl,rfl⟩
 go_enter Tryz.func143,Tryz.ntmps143
 go_wp2_with fail
 refine(H.out _).mono ?_
 rintro e w1 ⟨rfl,rfl⟩
 go_wp2_with fail
 go_ret
 exact⟨rfl,rfl⟩
def restOf (b:Nat) (W:World):Nat:=match W.cell? ⟨b,0,none⟩with
 |some (.string r)=>r.size
 |_=>0
theorem restOf_eq {b:Nat} {W:World} {r:ByteArray} (h:W.cell? ⟨b,0,none⟩=some (.string r)):restOf b W=r.size:=by unfold restOf;rw[h]
def Three (b k:Nat):Prop:=b≤k∧k<b+3
theorem split_seq (b:Nat) (s:ByteArray) (hs:s.size≤281474976710656) (w0:World) (c0:w0.cell? ⟨b,0,none⟩=some (.string s)) (f0:w0.frozen? ⟨b,0,none⟩=false)
    (c1:w0.cell? ⟨b+1,0,none⟩=some (.string ⟨#[47]⟩)) (c2:w0.cell? ⟨b+2,0,none⟩=some (.int .i64 0)) (hb:b+2<w0.heap.size):
    Seq Tryz.prog 169 (caught b) (fun x:ByteArray=> .string x) (Three b) 0 (piecesOf s) w0:=by
 intro l J Jx W hW hJ hJx hY h0
 replace c0:W.cell? ⟨b,0,none⟩=some (.string s):=(hW.cell (p:=⟨b,0,none⟩) (by simp;omega)).trans c0
 replace f0:W.frozen? ⟨b,0,none⟩=false:=(World.frozen?_of_block (hW.block _ (by simp;omega))).trans f0
 replace c1:W.cell? ⟨b+1,0,none⟩=some (.string ⟨#[47]⟩):=(hW.cell (p:=⟨b+1,0,none⟩) (by simp;omega)).trans c1
 replace c2:W.cell? ⟨b+2,0,none⟩=some (.int .i64 0):=(hW.cell (p:=⟨b+2,0,none⟩) (by simp;omega)).trans c2
 have HI:=hid index_slash
 refine(callsIn_wide (n:=9)).1 ?_
 refine callsIn_of_wp Tryz.func169 rfl trivial ?_ rfl
 simp only[Tryz.ntmps169,caught,List.size_toArray,List.length_cons,List.length_nil,Nat.reduceAdd,Nat.reduceSub,Array.replicate_succ,Array.replicate_zero,List.push_toArray,List.append_toArray,List.nil_append,List.cons_append]
 gi_wp2
 gi_loopw [7,8] (fun i f wr=> ∃(pre:List ByteArray) (r:ByteArray),Hid (pre++piecesOf r=piecesOf s)∧Hid (J pre wr)∧r.size≤s.size∧W.heap.size≤wr.heap.size∧
     wr.cell? ⟨b,0,none⟩=some (.string r)∧wr.frozen? ⟨b,0,none⟩=false∧wr.cell? ⟨b+1,0,none⟩=some (.string ⟨#[47]⟩)∧wr.cell? ⟨b+2,0,none⟩=some (.int .i64 0)) (fun _ _ wr=>restOf b wr)
 case atStart=>exact⟨[],s,rfl,h0,Nat.le_refl _,Nat.le_refl _,c0,f0,c1,c2⟩
 case round=>
  obtain⟨pre,r,hp,hj,hr,hsz,d0,g0,d1,d2⟩:=hrel
  clear c0 f0 c1 c2 h0
  rcases first_slash r with⟨hi,hq⟩|⟨k,hi,hk,hq⟩
  ·have HI2:=hid (HI.out r)
   rw[hi]at HI2
   gi_wp2
   refine⟨trivial,?_⟩
   gi_at_call 81
   refine(callsIn_wide.2 (HI2.out _)).mono ?_
   rintro e w' ⟨rfl,m,rfl⟩
   have hpre:pre++ [r]=piecesOf s:=by rw[←hp.out,hq]
   obtain⟨fn,tmps,assign,body,hy,hR⟩:=hY pre r (wr.drewN m) (hJ _ _ _ hj.out (Turns.draw _ _ _)) hsz (by rw[hpre];exact List.prefix_refl _)
   clear hY
   gi_wp2
   refine(round_wide _ hR).mono ?_
   rintro e W3 (⟨rfl,hJ3,-⟩|⟨rfl,hJx3,-⟩)
   ·gi_wp2
    go_end0
    exact⟨⟨_,rfl⟩,.inl (by rw[←hpre];exact hJ3)⟩
   ·gi_wp2
    go_end0
    exact⟨⟨_,rfl⟩,.inr ⟨_,by rw[hpre];exact List.prefix_refl _,hJx3⟩⟩
  ·have HI2:=hid (HI.out r)
   rw[hi]at HI2
   gi_wp2
   refine⟨trivial,?_⟩
   gi_at_call 81
   refine(callsIn_wide.2 (HI2.out _)).mono ?_
   rintro e w' ⟨rfl,m,rfl⟩
   have hpre:(pre++ [r.extract 0 k])++piecesOf (r.extract (k+1) r.size)=piecesOf s:=by rw[List.append_assoc,List.singleton_append,←hq];exact hp.out
   obtain⟨fn,tmps,assign,body,hy,hR⟩:=hY pre (r.extract 0 k) (wr.drewN m) (hJ _ _ _ hj.out (Turns.draw _ _ _)) hsz ⟨_,hpre⟩
   gi_wp2
   refine(round_wide _ hR).mono ?_
   rintro e W3 (⟨rfl,hJ3,hk3⟩|⟨rfl,hJx3,-⟩)
   ·have e0:=restOf_eq d0
    have own: ∀i,b≤i→i<b+3→ ¬ ¬Its (Three b) W.heap.size 0 i:=fun i h1 h2 h=>h (Or.inl ⟨h1,h2⟩)
    have f3:W3.frozen? ⟨b,0,none⟩=false:=(hk3.frozen (a:=⟨b,0,none⟩) d0 (own b (Nat.le_refl _) (by omega))).trans g0
    replace d0:W3.cell? ⟨b,0,none⟩=some (.string r):=hk3.cell (a:=⟨b,0,none⟩) d0 (own b (Nat.le_refl _) (by omega))
    replace d1:W3.cell? ⟨b+1,0,none⟩=some (.string ⟨#[47]⟩):=hk3.cell (a:=⟨b+1,0,none⟩) d1 (own (b+1) (by omega) (by omega))
    replace d2:W3.cell? ⟨b+2,0,none⟩=some (.int .i64 0):=hk3.cell (a:=⟨b+2,0,none⟩) d2 (own (b+2) (by omega) (by omega))
    have hs3:W.heap.size≤W3.heap.size:=Nat.le_trans hsz hk3.size
    clear hY hR hy own
    gi_wp2
    go_roundw
    case rel=>
     refine⟨pre++ [r.extract 0 k],r.extract (k+1) r.size,hpre,?_,?_,?_,?_,?_,?_,?_⟩
     ·exact hJ _ _ _ hJ3 (Turns.setCell _ (Or.inl ⟨Nat.le_refl _,by simp⟩))
     ·rw[ByteArray.size_extract];omega
     ·simpa using hs3
     ·exact World.cell?_setCell_same' _ _ _ (by rw[d0];rfl)
     ·rw[World.frozen?_setCell];exact f3
     ·exact(grown_set W3 ⟨b,0,none⟩ _).cell d1 (by simp)
     ·exact(grown_set W3 ⟨b,0,none⟩ _).cell d2 (by simp)
    case measure=>
     rw[e0,restOf_eq (World.cell?_setCell_same' _ _ _ (by rw[d0];rfl)),ByteArray.size_extract]
     omega
   ·gi_wp2
    refine bodyPost_ret (results_none rfl _ _ _) rfl ?_
    exact⟨⟨_,rfl⟩,.inr ⟨_,⟨_,hpre⟩,hJx3⟩⟩
end W04
namespace W04
open Go.Shelf Range M04
open Kit (ret_str ret_bool ret_int mk_of mk_bytes below_draws on)
attribute [local go_sem] Oper.semAt_some
theorem parts_at (s:ByteArray) (w:World):Calls Tryz.prog 117 #[.string s] w fun e w'=>e= .returned (.func (.func 142) #[] #[.pointer (some ⟨w.heap.size,0,none⟩)])∧w'=w.alloc (.cells #[.string s] 9):=by
 go_enter Tryz.func117,Tryz.ntmps117
 go_wp2_with fail
 go_ret
 exact⟨rfl,rfl⟩
theorem new_cell (W:World) (v:Value) (t:TypeId):(W.alloc (.cells #[v] t)).cell? ⟨W.heap.size,0,none⟩=some v∧(W.alloc (.cells #[v] t)).frozen? ⟨W.heap.size,0,none⟩=false:=by
 exact⟨(Boxed.new W t v).cell,(Boxed.new W t v).frozen⟩
theorem three_cells (w:World) (s:ByteArray):(three w s).cell? ⟨w.heap.size,0,none⟩=some (.string s)∧(three w s).frozen? ⟨w.heap.size,0,none⟩=false∧(three w s).cell? ⟨w.heap.size+1,0,none⟩=some (.string ⟨#[47]⟩)∧(three w s).cell? ⟨w.heap.size+2,0,none⟩=some (.int .i64 0):=by
 have a0:=new_cell w (.string s) 9
 have a1:=new_cell (w.alloc (.cells #[.string s] 9)) (.string ⟨#[47]⟩) 9
 have a2:=new_cell ((w.alloc (.cells #[.string s] 9)).alloc (.cells #[.string ⟨#[47]⟩] 9)) (.int .i64 0) 3
 simp only[World.size_alloc]at a1 a2
 have g1:=World.grownBy_alloc (w.alloc (.cells #[.string s] 9)) (.cells #[.string ⟨#[47]⟩] 9) none
 have g2:=World.grownBy_alloc ((w.alloc (.cells #[.string s] 9)).alloc (.cells #[.string ⟨#[47]⟩] 9)) (.cells #[.int .i64 0] 3) none
 have t1:Turns (fun _=>False) (w.alloc (.cells #[.string s] 9)) (three w s):=(Turns.alloc _ _ _).trans (Turns.alloc _ _ _)
 have t2:Turns (fun _=>False) ((w.alloc (.cells #[.string s] 9)).alloc (.cells #[.string ⟨#[47]⟩] 9)) (three w s):=Turns.alloc _ _ _
 exact⟨t1.cell a0.1 id,(t1.frozen a0.1 id).trans a0.2,t2.cell a1.1 id,a2.1⟩
theorem keepsOf_void {x:ByteArray} (h: ¬0<x.size):keepsOf x=false:=by unfold keepsOf keeps;rw[Kit.bytes_nil h];rfl
theorem keepsOf_point {x:ByteArray} (h:(x.toList== [46])=true):keepsOf x=false:=by unfold keepsOf keeps;rw[←Lib.toList_data,beq_iff_eq.1 h];rfl
theorem keepsOf_yes {x:ByteArray} (h:0<x.size) (h2:(x.toList== [46])=false):keepsOf x=true:=by
 unfold keepsOf keeps
 rw[Lib.toList_data]at h2
 simp only[Bool.and_eq_true]
 refine⟨?_,?_⟩
 ·have:=Kit.bytes_ne h;simpa using this
 ·simpa using h2
theorem filter_no {pre:List ByteArray} {x:ByteArray} (h:keepsOf x=false):(pre++ [x]).filter keepsOf=pre.filter keepsOf:=by rw[List.filter_append,List.filter_cons,if_neg (by simp[h]),List.filter_nil,List.append_nil]
theorem filter_yes {pre:List ByteArray} {x:ByteArray} (h:keepsOf x=true):(pre++ [x]).filter keepsOf=pre.filter keepsOf++ [x]:=by rw[List.filter_append,List.filter_cons,if_pos h,List.filter_nil]
theorem filter_pre {a b:List ByteArray} (h:a<+:b):a.filter keepsOf<+:b.filter keepsOf:=by
 obtain⟨t,rfl⟩:=h
 rw[List.filter_append];exact⟨_,rfl⟩
theorem parts_seq (b:Nat) (s:ByteArray) (hs:s.size≤281474976710656) (w0:World) (c0:w0.cell? ⟨b,0,none⟩=some (.string s)) (hb:b<w0.heap.size):
    Seq Tryz.prog 142 #[.pointer (some ⟨b,0,none⟩)] (fun x:ByteArray=> .string x) (fun _=>False) 6 (partsOf s) w0:=by
 intro l J Jx W hW hJ hJx hY h0
 replace c0:W.cell? ⟨b,0,none⟩=some (.string s):=(hW.cell (p:=⟨b,0,none⟩) hb).trans c0
 have hbW:b<W.heap.size:=Nat.lt_of_lt_of_le hb hW.size
 rw[partsOf_pieces]at*
 have HS:=hid (splitSeq_at s)
 refine(callsIn_wide (n:=9)).1 ?_
 refine callsIn_of_wp_marks Tryz.func142 rfl trivial ?_ rfl
 simp only[Tryz.ntmps142,List.size_toArray,List.length_cons,List.length_nil,Nat.reduceAdd,Nat.reduceSub,Array.replicate_succ,Array.replicate_zero,List.push_toArray,List.append_toArray,List.nil_append,List.cons_append]
 gi_wp2
 refine⟨trivial,?_⟩
 gi_at_call 143
 refine(callsIn_wide.2 (HS.out _)).mono ?_
 rintro e w1 ⟨rfl,rfl⟩
 gi_wp2
 have b0:=new_cell W (.func (.yield l) #[] #[]) 31
 obtain⟨V,hV⟩: ∃V,W.alloc (.cells #[.func (.yield l) #[] #[]] 31)=V:=⟨_,rfl⟩
 rw[hV]at b0 ⊢
 have hVs:V.heap.size=W.heap.size+1:=by rw[←hV];simp
 have hVb:Below W.heap.size W V:=by rw[←hV];exact(Below.refl _ W).alloc (Nat.le_refl _) _
 have d0:=three_cells V s
 have hU:(three V s).heap.size=W.heap.size+4:=by unfold three;simp[hVs]
 have tV:Turns (fun _=>False) V (three V s):=((Turns.alloc _ _ _).trans (Turns.alloc _ _ _)).trans (Turns.alloc _ _ _)
 have tW:Turns (fun _=>False) W (three V s):=by rw[←hV]at *;exact(Turns.alloc _ _ _).trans tV
 have b1:=tV.cell b0.1 id
 obtain⟨U,hU2⟩: ∃U,three V s=U:=⟨_,rfl⟩
 rw[hU2]at d0 hU tW b1 ⊢
 clear hU2 tV
 refine wp_range (gf:=169) (lb:=caught (W.heap.size+1)) (by rw[←hVs];rfl) (enters_of Tryz.func169 (by kernel_rfl) rfl)
  (split_seq (W.heap.size+1) s hs U (by rw[←hVs];exact d0.1) (by rw[←hVs];exact d0.2.1) (by rw[←hVs];exact d0.2.2.1) (by rw[←hVs];exact d0.2.2.2) (by omega)) (by rintro k ⟨_,hk⟩;omega) rfl
  (fun k=>W.heap.size+1≤k∧k<W.heap.size+6) (fun k=>by unfold Its Three;omega)
  (fun pre W'=>J (pre.filter keepsOf) W'∧W'.cell? ⟨W.heap.size,0,none⟩=some (.func (.yield l) #[] #[]))
  (fun c pre W'=>c= .ret∧Jx (pre.filter keepsOf) W')
  (fun pre A B h ht=>⟨hJ _ _ _ h.1 (ht.wider fun k hk=>Or.inr (by omega)),ht.cell h.2 (fun h1=>absurd h1.1 (Nat.not_succ_le_self _))⟩)
  (fun c pre A B h ht=>⟨h.1,hJx _ _ _ h.2 (ht.wider fun k hk=>Or.inr (by omega))⟩)
  ⟨hJ _ _ _ h0 (tW.wider fun k hk=>hk.elim),b1⟩
  (fun x=> {tmps:= #[.func (.yield l) #[] #[],.pointer (some ⟨b,0,none⟩),.pointer (some ⟨W.heap.size,0,none⟩),.string x,.string s,.func (.func 169) #[] (caught (W.heap.size+1)),.string x,undef,undef,undef,undef,undef,undef,undef,undef,undef,undef,undef,undef],defers:= []}) ?assign ?body ?done ?stop
 case assign=>
  intro l x W K hK
  gi_wp2
  exact hK
 case body=>
  rintro l' pre x W1 ⟨hj,hc⟩ hsz hpre
  by_cases h0:0<x.size
  ·have hn:=Kit.list_ne h0
   have hf:=Kit.list_full h0
   cases hp:(x.toList== [46])with
   |true=>
    have hpe:=beq_iff_eq.1 hp
    gi_wp2
    refine⟨fun _ h=>(by cases h),?_⟩
    gi_wp2
    exact⟨Turns.refl _ _,by rw[filter_no (keepsOf_point hp)];exact hj,hc⟩
   |false=>
    have hk:=keepsOf_yes h0 hp
    obtain⟨fn,tmps,assign,body,hy,hR⟩:=hY (pre.filter keepsOf) x W1 hj (by omega) (by rw[←filter_yes hk];exact filter_pre hpre)
    clear hY
    gi_wp2
    refine(round_in _ _ hR).mono ?_
    rintro e W3 (⟨rfl,hJ3,hk3⟩|⟨rfl,hJx3,hk3⟩)
    ·gi_wp2
     exact⟨hk3.wider fun k h h2=>h (Or.inr ⟨Nat.le_of_succ_le h2.1,h2.2⟩),by rw[filter_yes hk];exact hJ3,hk3.cell hc (fun h=>h (Or.inr ⟨Nat.le_refl _,by simp⟩))⟩
    ·gi_wp2
     exact⟨hk3.wider fun k h h2=>h (Or.inr ⟨Nat.le_of_succ_le h2.1,h2.2⟩),rfl,by rw[filter_yes hk];exact hJx3⟩
  ·have hn:=Kit.list_nil h0
   have hf:=Kit.list_none h0
   gi_wp2
   refine⟨fun _ h=>(by cases h),?_⟩
   gi_wp2
   exact⟨Turns.refl _ _,by rw[filter_no (keepsOf_void h0)];exact hj,hc⟩
 case done=>
  rintro W2 ⟨hj,-⟩ hK
  gi_wp2
  refine⟨by simp,.inl ⟨_,_,rfl,run_takeDeferred hK,?_⟩⟩
  exact⟨_,results_none rfl _ _ _,⟨_,rfl⟩,.inl (hJ _ _ _ hj (Turns.putObj _ (Or.inr (by omega))))⟩
 case stop=>
  rintro c pre W2 hpre ⟨rfl,hjx⟩ hK
  gi_wp2
  refine⟨by simp,.inl ⟨_,_,rfl,run_takeDeferred hK,?_⟩⟩
  exact⟨_,results_none rfl _ _ _,⟨_,rfl⟩,.inr ⟨_,filter_pre hpre,hJx _ _ _ hjx (Turns.putObj _ (Or.inr (by omega)))⟩⟩
end W04
namespace Strs
open Kit (mk_bytes)
theorem text_info:(Tryz.prog.info? 9).map (fun i=>(i.zero,i.size,i.bytes))=some (some (.string ⟨#[]⟩),1,16):=by kernel_rfl
end Strs
namespace W04
open Range M04
open Kit (mk_bytes mk_of ba_ext take_bytes cat_bytes)
def flat (L:List Bytes):Bytes:=L.flatMap (fun p=>47::p)
theorem flat_more (L:List Bytes) (p:Bytes):flat (L++ [p])=flat L++47::p:=by unfold flat;rw[List.flatMap_append];simp
def datas (pre:List ByteArray):List Bytes:=pre.map fun x=>x.data.toList
def bufOf (pre:List ByteArray):Bytes:=flat (cparts (datas pre))
theorem datas_more (pre:List ByteArray) (x:ByteArray):datas (pre++ [x])=datas pre++ [x.data.toList]:=by unfold datas;rw[List.map_append];rfl
theorem cparts_more (L:List Bytes) (p:Bytes):cparts (L++ [p])=cstep (cparts L) p:=by rw[cparts_append];rfl
theorem buf_part {pre:List ByteArray} {x:ByteArray} (h:x.data.toList≠ [46,46]):bufOf (pre++ [x])=bufOf pre++47::x.data.toList:=by
 unfold bufOf;rw[datas_more,cparts_more,cstep,if_neg h,flat_more]
theorem last_flat {L:List Bytes} (h: ∀p∈L,Part p):(flat L).take (max 0 (lastSlash (flat L))).toNat=flat L.dropLast:=by
 rcases List.eq_nil_or_concat L with rfl|⟨o,p,rfl⟩
 ·rfl
 ·rw[List.concat_eq_append]at*
  have hp:=(h p (by simp)).1
  have e:lastSlash (flat (o++ [p]))=((flat o).length:Int):=by
   refine last_at ?_ ?_ ?_
   ·rw[flat_more];simp
   ·rw[flat_more,List.getD_eq_getElem?_getD,List.getElem?_append_right (Nat.le_refl _)];simp
   ·rw[flat_more,List.drop_append,List.drop_of_length_le (Nat.le_succ _)];simpa using hp
  rw[e,List.dropLast_concat,flat_more,show(max 0 ((flat o).length:Int)).toNat=(flat o).length by omega,List.take_left]
theorem parts_of_prefix {pre:List ByteArray} {s:ByteArray} (h:pre<+:partsOf s): ∀p∈datas pre,Part p:=by
 intro p hp
 unfold datas at hp
 obtain⟨x,hx,rfl⟩:=List.mem_map.1 hp
 have hm:=h.subset hx
 unfold partsOf at hm
 obtain⟨q,hq,rfl⟩:=List.mem_map.1 hm
 exact parts_are _ q hq
theorem buf_points {pre:List ByteArray} {x s:ByteArray} (hp:pre<+:partsOf s) (h:x.data.toList= [46,46]):bufOf (pre++ [x])=(bufOf pre).take (max 0 (lastSlash (bufOf pre))).toNat:=by
 unfold bufOf
 rw[datas_more,cparts_more,cstep,if_pos h,last_flat (fun p hm=>(cparts_are (parts_of_prefix hp) p hm).1)]
theorem total_datas {pre:List ByteArray} {s:ByteArray} (h:pre<+:partsOf s):total (datas pre)≤s.size+1:=by
 obtain⟨t,ht⟩:=h
 have h1:=parts_total s.data.toList
 have e:datas (partsOf s)=parts s.data.toList:=map_data _
 rw[←e,←ht,show datas (pre++t)=datas pre++datas t from List.map_append,total_append]at h1
 rw[Lib.size_eq];omega
theorem buf_room {pre:List ByteArray} {x s:ByteArray} (h:pre++ [x]<+:partsOf s):(bufOf pre).length+(x.size+1)≤s.size+1:=by
 have h1:=total_datas h
 have h2:=fold_total (datas pre) []
 rw[datas_more,total_append]at h1
 unfold bufOf
 rw[show(flat (cparts (datas pre))).length=total (cparts (datas pre))from flat_total _]
 have e:total [x.data.toList]=x.size+1:=by rw[Lib.size_eq];rfl
 have e2:total ([]:List Bytes)=0:=rfl
 unfold cparts
 omega
theorem buf_end (s:ByteArray):bufOf (partsOf s)=flat (cparts (parts s.data.toList)):=by unfold bufOf;rw[show datas (partsOf s)=parts s.data.toList from map_data _]
theorem clean_flat {s d:ByteArray} (h:d.data.toList=clean s.data.toList):(bufOf (partsOf s)= []∧d=⟨#[47]⟩)∨(bufOf (partsOf s)≠ []∧d.data.toList=bufOf (partsOf s)):=by
 rw[buf_end]
 unfold clean text at h
 by_cases e:cparts (parts s.data.toList)= []
 ·left
  rw[if_pos e]at h
  exact⟨by rw[e];rfl,ba_ext h⟩
 ·right
  rw[if_neg e]at h
  refine⟨?_,h⟩
  cases hc:cparts (parts s.data.toList)with
  |nil=>exact absurd hc e
  |cons p q=>simp[flat]
/-! a row of bytes of one's own -/
def Buf (W:World) (base g cap:Nat) (d:ByteArray):Prop:=W.ownsRow base 5 1 (.slice (some ⟨g,0,none⟩) d.size cap) d.size (Lib.strCells d)
theorem buf_turn {T:Nat→Prop} {A B:World} {base g cap:Nat} {d:ByteArray} (h:Buf A base g cap d) (ht:Turns T A B) (hg: ¬T g):Buf B base g cap d:=by
 refine⟨h.1,?_⟩
 rcases h.2 with⟨h0,_⟩|⟨g',cap',cur,e1,hb,hh,rest⟩
 ·cases h0
 ·cases e1
  exact Or.inr ⟨g,cap,cur,rfl,hb,ht.keeps hh hg,rest⟩
theorem buf_cut {W:World} {base g cap k:Nat} {d:ByteArray} (h:Buf W base g cap d) (hk:k≤d.size):Buf W base g cap (d.extract 0 k):=by
 have e:(d.extract 0 k).size=k:=by rw[ByteArray.size_extract];omega
 have e2:Lib.strCells (d.extract 0 k)=(Lib.strCells d).take k:=by unfold Lib.strCells;rw[take_bytes,List.map_take]
 unfold Buf
 rw[e,e2]
 obtain⟨h1,h2⟩:=h
 refine⟨by rw[List.length_take,Lib.strCells_length];omega,?_⟩
 rcases h2 with⟨h0,_⟩|⟨g',cap',cur,e1,hb,hh,hn,hm,hs,ht⟩
 ·cases h0
 ·cases e1
  refine Or.inr ⟨g,cap,cur,rfl,hb,hh,by omega,hm,hs,?_⟩
  rw[←ht,List.take_take]
  congr 1;omega
theorem buf_more {W:World} {base g cap n:Nat} {d x:ByteArray} {xs:List Value} (h:W.ownsRow base 5 1 (.slice (some ⟨g,0,none⟩) n cap) n xs) (hn:n=(d++x).size) (hx:xs=Lib.strCells d++Lib.strCells x):Buf W base g cap (d++x):=by
 unfold Buf
 have e:Lib.strCells (d++x)=Lib.strCells d++Lib.strCells x:=by unfold Lib.strCells;rw[cat_bytes,List.map_append]
 rw[e,←hx,←hn];exact h
theorem buf_caps {W:World} {base g cap:Nat} {d:ByteArray} (h:Buf W base g cap d):d.size≤cap∧cap≤maxLen:=by
 rcases h.2 with⟨h0,_⟩|⟨g',cap',cur,e1,hb,hh,hn,hm,hs,ht⟩
 ·cases h0
 ·cases e1;exact⟨hn,hm⟩
theorem buf_conv {W:World} {base g cap:Nat} {d:ByteArray} (h:Buf W base g cap d):(convert 53 9 (.slice (some ⟨g,0,none⟩) d.size cap)).run Tryz.prog W= .ok (.string d) W:=by
 have h2:=run_convert_bytes_back (P:=Tryz.prog) W 53 9 5 ⟨g,0,none⟩ cap d.data.toList Tryz.underlying53 Tryz.underlying5 Tryz.underlying9 (fun j hj=>by
  have hj2:j<d.size:=by rw[Lib.size_eq];exact hj
  exact h.cells (g:=g) rfl j _ (cells_get d j hj2))
 rw[←Lib.size_eq,mk_bytes]at h2
 exact h2
theorem wp_append_text {F:Fence} {n:Nat} {P:Program} (w:World) {ops:Array Oper} {rest:List Oper} {o:Oper} {a:Act} {Q:Exit→Act→World→Prop}
    (hg:o.guard=none) (s x:Operand) (t u:TypeId) (hop:o.op=Op.call {callee:=Callee.builtin Builtin.append,args:= #[s,x],argTypes:= #[t,u]})
    (base:Nat) (e:TypeId) (i:TypeInfo) (h1:P.underlying t=some (.slice e)) (hu:P.underlying u=some .string) (h2:P.info? e=some i) (h4:i.size=1)
    (p:Option Addr) (k cap:Nat) (xs:List Value) (hs:a.eval s= .slice p k cap) (hown:w.ownsRow base e 1 (.slice p k cap) k xs) (str:ByteArray) (hx:a.eval x= .string str) (hc:0<cap) (hroom:k+str.size≤cap)
    (hK: ∀w',w'.ownsRow base e 1 (.slice p (k+str.size) cap) (k+str.size) (xs++Lib.strCells str)→w.grownBy w' (Value.ownBlock (.slice p k cap))→wpListIn F n P ops Q rest (a.put o.dst (.slice p (k+str.size) cap)) w'):
    wpListIn F n P ops Q (o::rest) a w:=by
 refine wpListIn_plain hg fun K hK'=> ?_
 obtain⟨w',hrun,r1,r2⟩:=Lib.run_append_fits_string (P:=P) w base t u o.type e i h1 hu h2 h4 p k cap xs hown str hc hroom
 unfold Oper.wpIn
 refine⟨?_,?_⟩
 ·simp[Oper.about,hop,resolve,Target.leads,Sem.run_pure]
 ·rw[Oper.semAt_plain F _ _ (by rw[hop];intro c hc';cases hc')]
  simp[execOp,hop,resolve,invoke,builtin,hs,hx,hrun,Result.andThen]
  exact hK' _ _ (hK w' r1 r2)
theorem box_stored {W A w1:World} {B g:Nat} {t:TypeId} {v:Value} (v':Value) (hv:Boxed W B t v) (hA:Turns (fun _=>False) W A) (hg:A.grownBy w1 (some g)) (hne:B≠g):
    Boxed w1 B t v∧Boxed (w1.setCell ⟨B,0,none⟩ v') B t v'∧Turns (fun k=>k=B∨k=g) W (w1.setCell ⟨B,0,none⟩ v')∧Turns (fun k=>k=B) w1 (w1.setCell ⟨B,0,none⟩ v'):=by
 have hv1:Boxed w1 B t v:=(Boxed.kept (hA.keeps hv id) hg (by simpa using hne))
 exact⟨hv1,hv1.set v',(((hA.wider fun _ h=>h.elim).trans (Turns.of_grown hg (fun r e=>by cases e;exact Or.inr rfl))).trans (Turns.setCell _ (Or.inl rfl))),Turns.setCell _ rfl⟩
theorem cells_more (d x:ByteArray):Lib.strCells (d++x)=Lib.strCells d++Lib.strCells x:=by unfold Lib.strCells;rw[cat_bytes,List.map_append]
end W04
namespace W04
open Strs M04
open Kit (drop_next drop_end mk_bytes one_size one_byte cat_bytes byte_eq byte_ne list_full list_ne list_none list_nil bytes_nil bytes_cons)
def Pst (l:Bytes) (k:Nat) (out:List Bytes) (now:Bytes):Prop:=(k≤l.length∧out++pgo (l.drop k) now=parts l)∨(k=l.length+1∧out=parts l)
def Going (s:ByteArray) (k:Nat) (out:List Bytes) (now:ByteArray):Prop:=Pst s.data.toList k out now.data.toList
section
variable {s:ByteArray} {k:Nat} {out:List Bytes} {now:ByteArray}
end
end W04
namespace W04
open Strs M04
open Kit (ret_str mk_of mk_bytes ba_ext cat_bytes list_full list_ne list_none list_nil bytes_nil bytes_cons byte_eq byte_ne below_draws on)
theorem part_bound {L:List Bytes} {k:Nat} (hk:k<L.length):(L.getD k []).length≤total L:=by
 induction L generalizing k with
 |nil=>simp at hk
 |cons p L ih=>
  rw[total_cons]
  cases k with
  |zero=>simp;omega
  |succ k=>
   have:=ih (k:=k) (by simpa using hk)
   simp at this ⊢;omega
/-! ### Clean -/
end W04
namespace W03
open Strs M03
open Kit (ret_str ret_int ret_bool mk_bytes ba_ext bytes_nil bytes_cons byte_get take_next take_end list_full list_ne list_none list_nil byte_eq byte_ne head_of below_draws)
end W03
namespace W04
open Strs M04
open M03 (check)
open Kit (ret_str ret_bool mk_of mk_bytes ba_ext cat_bytes list_full list_ne list_none list_nil bytes_nil bytes_cons byte_eq byte_ne below_draws on)
theorem clean_size {s d:ByteArray} (hd:d.data.toList=clean s.data.toList):d.size≤s.size+2:=by
 rw[Lib.size_eq,hd,Lib.size_eq];exact clean_len _
end W04
namespace W04
open Strs M04
open M03 (check)
open Kit (ret_str ret_bool mk_of mk_bytes ba_ext cat_bytes list_full list_ne list_none list_nil bytes_nil bytes_cons byte_eq byte_ne below_draws on)
/-! ### Under -/
end W04
namespace W02
open Strs
theorem ret_bool {a b:Bool} (h:a=b):Ending.returned (.bool a)= .returned (.bool b):=by rw[h]
end W02
namespace W04
open Strs M04
open Kit (ret_str ret_bool mk_of mk_bytes below_draws on)
theorem text_of (l:Bytes): ∃d:ByteArray,d.data.toList=l:=⟨⟨l.toArray⟩,rfl⟩
end W04
namespace W04
open Go.Shelf Range M04 Strs
open Kit (ret_str ret_bool ret_int mk_of mk_bytes below_draws on)
attribute [local go_sem] Oper.semAt_some
end W04
namespace W04
open Go.Shelf Range M04 Strs
open Kit (ret_str ret_bool ret_int mk_of mk_bytes ba_ext below_draws on)
attribute [local go_sem] Oper.semAt_some
theorem byte_info:(Tryz.prog.info? 5).map (fun i=>(i.zero,i.size,i.bytes))=some (some (.int .u8 0),1,1):=by kernel_rfl
theorem clean_at (s d:ByteArray) (hd:d.data.toList=clean s.data.toList) (hs:s.size<281474976710656) (w:World):Calls Tryz.prog 83 #[.string s] w fun e w'=>e= .returned (.string d)∧Below w.heap.size w w':=by
 obtain⟨i0,hi,hz0,hz1,hz2⟩:=info_parts byte_info
 have HP:=hid (parts_at s)
 have HD:=hid (clean_flat hd)
 clear hd
 refine(callsIn_wide (n:=9)).1 ?_
 refine callsIn_of_wp_marks Tryz.func83 rfl trivial ?_ rfl
 simp only[Tryz.ntmps83,List.size_toArray,List.length_cons,List.length_nil,Nat.reduceAdd,Nat.reduceSub,Array.replicate_succ,Array.replicate_zero,List.push_toArray,List.append_toArray,List.nil_append,List.cons_append]
 gi_wp2_with (gi_at_make;refine wpListIn_make_own _ rfl _ _ 53 rfl w.heap.size 5 i0 (.int .u8 0) 1 Tryz.underlying53 hi hz0 hz1 .i64 .i64 _ (s.size+1) rfl rfl (by go_num) (by rw[hz2];omega) (by unfold maxLen;omega) (Nat.le_refl _) ?_;intro w1 hown1 hgrow1)
 refine⟨trivial,?_⟩
 gi_at_call 117
 refine(callsIn_wide.2 (HP.out _)).mono ?_
 rintro e w2 ⟨rfl,rfl⟩
 gi_wp2
 have hlt:w.heap.size<w1.heap.size:=(hown1.lt w.heap.size rfl).2
 have x0:=Boxed.new w1 53 (.slice (some ⟨w.heap.size,0,none⟩) 0 (s.size+1))
 have x1:=Boxed.new (w1.alloc (.cells #[.slice (some ⟨w.heap.size,0,none⟩) 0 (s.size+1)] 53)) 9 (.string s)
 rw[World.size_alloc]at x1
 replace x0:=x0.alloc (.cells #[.string s] 9)
 have hb:Below w.heap.size w ((w1.alloc (.cells #[.slice (some ⟨w.heap.size,0,none⟩) 0 (s.size+1)] 53)).alloc (.cells #[.string s] 9)):=((((Below.refl _ w).grown hgrow1 (Nat.le_refl _) (fun r e=>by cases e)).alloc (by omega) _).alloc (by simp;omega) _)
 have hbuf:Buf w1 w.heap.size w.heap.size (s.size+1) ⟨#[]⟩:=hown1
 have hU:Buf ((w1.alloc (.cells #[.slice (some ⟨w.heap.size,0,none⟩) 0 (s.size+1)] 53)).alloc (.cells #[.string s] 9)) w.heap.size w.heap.size (s.size+1) ⟨#[]⟩:=buf_turn hbuf ((Turns.alloc (fun _=>False) _ _).trans (Turns.alloc _ _ _)) id
 have hsz:((w1.alloc (.cells #[.slice (some ⟨w.heap.size,0,none⟩) 0 (s.size+1)] 53)).alloc (.cells #[.string s] 9)).heap.size=w1.heap.size+2:=by simp
 generalize (w1.alloc (.cells #[.slice (some ⟨w.heap.size,0,none⟩) 0 (s.size+1)] 53)).alloc (.cells #[.string s] 9)=U at*
 generalize w1.heap.size=B at*
 clear hown1 hgrow1 hbuf
 refine wp_range (gf:=142) (lb:= #[.pointer (some ⟨B+1,0,none⟩)]) rfl (enters_of Tryz.func142 (by kernel_rfl) rfl)
  (parts_seq (B+1) s (by omega) U x1.cell (by omega)) (fun k hk=>hk.elim) rfl
  (fun k=>B+2≤k∧k<B+10) (fun k=>by unfold Its;rw[hsz];simp)
  (fun pre W=> ∃q:ByteArray,Hid (q.data.toList=bufOf pre)∧Boxed W B 53 (.slice (some ⟨w.heap.size,0,none⟩) q.size (s.size+1))∧Buf W w.heap.size w.heap.size (s.size+1) q∧Below w.heap.size w W)
  (fun _ _ _=>False)
  (by
   rintro pre X Y ⟨q,h0,h1,h2,h3⟩ ht
   exact⟨q,h0,ht.keeps h1 (by omega),buf_turn h2 ht (by omega),h3.trans (ht.below (by intro k hk;omega) h3.size)⟩)
  (fun _ _ _ _ h _=>h)
  ⟨⟨#[]⟩,rfl,x0,hU,hb⟩
  (fun x=> {tmps:= #[.string s,undef,.string ⟨#[]⟩,.pointer (some ⟨B,0,none⟩),.string x,.string s,.int .i64 s.size,.int .i64 (s.size+1),.slice (some ⟨w.heap.size,0,none⟩) 0 (s.size+1),.string s,.func (.func 142) #[] #[.pointer (some ⟨B+1,0,none⟩)],.string x,undef,undef,undef,undef,undef,undef,undef,undef,undef,undef,undef,undef,undef,undef,undef,undef,undef,undef],defers:= []}) ?assign ?body ?done ?stop
 case assign=>
  intro l x W K hK
  gi_wp2
  exact hK
 case body=>
  rintro l pre x W ⟨q,hq,hv,hbuf,hB⟩ hW hpre
  have hc:=hv.cell
  have hf:=hv.frozen
  have hmx:Tryz.prog.follows .mixedOrders=true:=by kernel_rfl
  cases hp:(x.toList== [46,46])with
  |true=>
   have hpe:=beq_iff_eq.1 hp
   have hdd:x.data.toList= [46,46]:=by rw[←Lib.toList_data];exact hpe
   obtain⟨t,ht⟩:=hpre
   have hq2:Hid ((q.extract 0 (max 0 (lastSlash q.data.toList)).toNat).data.toList=bufOf (pre++ [x])):=by
    show _=_
    rw[buf_points (s:=s) ⟨[x]++t,by rw[←List.append_assoc];exact ht⟩ hdd,Kit.take_bytes,hq.out]
   have hls:=last_le q.data.toList
   rw[←Lib.size_eq]at hls
   have hcap:=buf_caps hbuf
   have HLB:=hid (fun(W':World) (h:Buf W' w.heap.size w.heap.size (s.size+1) q)=>last_bytes w.heap.size q.size (s.size+1) w.heap.size q rfl hcap.1 hcap.2 W' h)
   obtain⟨z,hz⟩: ∃z,lastSlash q.data.toList=z:=⟨_,rfl⟩
   rw[hz]at hls HLB hq2
   have hsz2:(q.extract 0 (max 0 z).toNat).size=(max 0 z).toNat:=by rw[ByteArray.size_extract];omega
   have FIN:Hid (∀n:Nat,Turns (fun k=> ¬(B+2≤k∧k<B+10)) W ((W.drewN n).setCell ⟨B,0,none⟩ (.slice (some ⟨w.heap.size,0,none⟩) (max 0 z).toNat (s.size+1)))∧
       ∃q:ByteArray,Hid (q.data.toList=bufOf (pre++ [x]))∧Boxed ((W.drewN n).setCell ⟨B,0,none⟩ (.slice (some ⟨w.heap.size,0,none⟩) (max 0 z).toNat (s.size+1))) B 53 (.slice (some ⟨w.heap.size,0,none⟩) q.size (s.size+1))∧Buf ((W.drewN n).setCell ⟨B,0,none⟩ (.slice (some ⟨w.heap.size,0,none⟩) (max 0 z).toNat (s.size+1))) w.heap.size w.heap.size (s.size+1) q∧Below w.heap.size w ((W.drewN n).setCell ⟨B,0,none⟩ (.slice (some ⟨w.heap.size,0,none⟩) (max 0 z).toNat (s.size+1)))):=by
    show∀n:Nat,_
    intro n
    have t1:Turns (fun k=>k=B) W ((W.drewN n).setCell ⟨B,0,none⟩ (.slice (some ⟨w.heap.size,0,none⟩) (max 0 z).toNat (s.size+1))):=(Turns.draw _ W n).trans (Turns.setCell _ rfl)
    refine⟨t1.wider (by intro k hk;omega),_,hq2,?_,buf_turn (buf_cut hbuf (by omega)) t1 (by omega),hB.trans (t1.below (by intro k hk;omega) hB.size)⟩
    rw[hsz2]
    exact Boxed.set (W:=W.drewN n) _ hv
   have h24:Fence.wide.fn 118:=trivial
   gi_wp2
   gi_region_with_o (first|(refine⟨trivial,?_⟩;gi_at_call 118;refine(CallsIn.inRound l (callsIn_wide.2 (HLB.out W.drew hbuf))).mono ?_;rintro e w' ⟨rfl,m,rfl⟩)|(gi_at_call 118;refine(CallsIn.inRound l (callsIn_wide.2 (HLB.out W.drew hbuf))).mono ?_;rintro e w' ⟨rfl,m,rfl⟩))
   all_goals gi_wp2
   all_goals first
    |exact FIN.out _
    |(exfalso;omega)
  |false=>
   have hne:x.data.toList≠ [46,46]:=by rw[←Lib.toList_data];intro e;rw[e]at hp;simp at hp
   have hroom:q.size+(x.size+1)≤s.size+1:=by have:=buf_room hpre;rw[←hq.out,←Lib.size_eq]at this;exact this
   have hq2:Hid ((q++⟨#[47]⟩++x).data.toList=bufOf (pre++ [x])):=by
    show _=_
    rw[buf_part hne,←hq.out,Kit.cat_bytes,Kit.cat_bytes,List.append_assoc];rfl
   have hrow:W.ownsRow w.heap.size 5 1 (.slice (some ⟨w.heap.size,0,none⟩) q.size (s.size+1)) q.size (Lib.strCells q):=hbuf
   clear hne hpre
   gi_wp2_with (first
    |(gi_at_builtin;refine wpListIn_append_fits _ rfl _ _ 53 rfl w.heap.size 5 i0 1 Tryz.underlying53 hi hz1 w.heap.size q.size (s.size+1) (Lib.strCells q) rfl (hrow.alloc _) ⟨W.heap.size,0,none⟩ 1 1 [.int .u8 47] rfl rfl (cell_one_new _ _ _) (by simp[Value.oneCell']) (by omega) ?_;intro w3 hown3 hgrow3;obtain⟨hv1,hv2,ht2,ht3⟩:=box_stored (g:=w.heap.size) (.slice (some ⟨w.heap.size,0,none⟩) (q.size+1) (s.size+1)) hv (Turns.alloc _ _ _) hgrow3 (by omega);have hc1:=hv1.cell;have hf1:=hv1.frozen;have hc2:=hv2.cell;have hf2:=hv2.frozen)
    |(gi_at_builtin;refine wp_append_text _ rfl _ _ 53 9 rfl w.heap.size 5 i0 Tryz.underlying53 Tryz.underlying9 hi hz1 (some ⟨w.heap.size,0,none⟩) (q.size+1) (s.size+1) _ rfl (ht3.row_at hown3 (by omega)) x rfl (by omega) (by omega) ?_;intro w5 hown5 hgrow5;obtain⟨hv3,hv4,ht4,ht5⟩:=box_stored (g:=w.heap.size) (.slice (some ⟨w.heap.size,0,none⟩) (q.size+1+x.size) (s.size+1)) hv2 (Turns.refl _ _) hgrow5 (by omega);have hc3:=hv3.cell;have hf3:=hv3.frozen))
   have e1:q.size+1+x.size=(q++⟨#[47]⟩++x).size:=by rw[ByteArray.size_append,ByteArray.size_append];rfl
   have hb5:Buf (w5.setCell ⟨B,0,none⟩ (.slice (some ⟨w.heap.size,0,none⟩) (q.size+1+x.size) (s.size+1))) w.heap.size w.heap.size (s.size+1) (q++⟨#[47]⟩++x):=by
    refine buf_turn (buf_more hown5 e1 ?_) ht5 (by omega)
    rw[cells_more];rfl
   have ht:=ht2.trans ht4
   exact⟨ht.wider (by intro k hk;omega),_,hq2,by rw[←e1];exact hv4,hb5,hB.trans (ht.below (by intro k hk;omega) hB.size)⟩
 case done=>
  rintro W ⟨q,hq,hv,hbuf,hB⟩ hK
  have hc:=hv.cell
  have hcap:=buf_caps hbuf
  have hsz2:q.size=(bufOf (partsOf s)).length:=by rw[Lib.size_eq,hq.out]
  have HB2:Hid (Below w.heap.size w (W.putObj U.heap.size (.deferred none))):=hB.trans ((Turns.putObj (T:=fun k=>B+2≤k) _ (by omega)).below (by intro k hk;omega) hB.size)
  rcases HD.out with⟨h1,h2⟩|⟨h1,h2⟩
  ·have h0:q.size=0:=by rw[hsz2,h1];rfl
   rw[h0]at hc
   clear HD h1 hsz2 hq
   gi_wp2
   refine⟨by simp,.inl ⟨_,_,rfl,run_takeDeferred hK,?_⟩⟩
   refine⟨_,results_tmp rfl _ _ _,?_,HB2.out⟩
   exact ret_str h2.symm
  ·have h0:0<q.size:=by
     rw[hsz2]
     exact List.length_pos_iff.2 h1
   have hcv:=buf_conv hbuf
   have t0:((q.size:Int)==0)=false:=by
    cases e:((q.size:Int)==0)with
    |false=>rfl
    |true=>have:=beq_iff_eq.1 e;omega
   have he:Hid (q=d):=ba_ext (by rw[h2];exact hq.out)
   clear HD h1 h2 hsz2 hq h0
   gi_wp2
   refine⟨by simp,.inl ⟨_,_,rfl,run_takeDeferred hK,?_⟩⟩
   refine⟨_,results_tmp rfl _ _ _,?_,HB2.out⟩
   exact ret_str he.out
 case stop=>
  rintro c pre W _ h _
  exact h.elim
end W04
namespace W04
open M04
open M03 (check)
open Kit (mk_bytes mk_of ba_ext take_bytes drop_bytes cat_bytes)
theorem text_flat {L:List Bytes} (h:L≠ []):text L=flat L:=by unfold text;rw[if_neg h];rfl
theorem flat_pos {L:List Bytes} (h:L≠ []):0<(flat L).length:=by
 cases L with
 |nil=>exact absurd rfl h
 |cons p q=>unfold flat;rw[List.flatMap_cons];simp
theorem last_more {o:List Bytes} {p:Bytes} (hp:(47:UInt8)∉p):lastSlash (flat (o++ [p]))=((flat o).length:Int):=by
 refine last_at ?_ ?_ ?_
 ·rw[flat_more];simp
 ·rw[flat_more,List.getD_eq_getElem?_getD,List.getElem?_append_right (Nat.le_refl _)];simp
 ·rw[flat_more,List.drop_append,List.drop_of_length_le (Nat.le_succ _)];simpa using hp
theorem base_real (l:Bytes):(clean l).drop (lastSlash (clean l)+1).toNat=base l:=by
 have hp:=fun p hm=>(clean_parts_plain l p hm).1
 unfold base
 rw[parts_clean]at hp ⊢
 show(text (cparts (parts l))).drop (lastSlash (text (cparts (parts l)))+1).toNat=_
 generalize cparts (parts l)=L at*
 rcases List.eq_nil_or_concat L with rfl|⟨o,p,rfl⟩
 ·rfl
 ·rw[List.concat_eq_append]at*
  have h1:=(hp p (by simp)).1
  rw[text_flat (by simp),last_more h1,flat_more,show(((flat o).length:Int)+1).toNat=(flat o).length+1 by omega]
  rw[List.drop_append,List.drop_of_length_le (Nat.le_succ _)]
  simp
theorem clean_pos (l:Bytes):1≤(clean l).length:=by
 unfold clean
 by_cases h:cparts (parts l)= []
 ·rw[h];exact Nat.le_refl _
 ·rw[text_flat h];exact flat_pos h
theorem last_lt {l:Bytes} (h:1≤l.length): -1≤lastSlash l∧lastSlash l+1≤l.length:=by unfold lastSlash;split<;>omega
end W04
namespace W04
open Strs M04
open Kit (ret_str ret_bool ret_int mk_of mk_bytes ba_ext below_draws on take_bytes drop_bytes cat_bytes bytes_nil bytes_cons list_full list_ne list_none list_nil)
theorem base_at (s d:ByteArray) (hd:d.data.toList=base s.data.toList) (hs:s.size<281474976710656) (w:World):Calls Tryz.prog 52 #[.string s] w fun e w'=>e= .returned (.string d)∧Below w.heap.size w w':=by
 obtain⟨c,hc⟩:=text_of (clean s.data.toList)
 have hcs:=clean_size hc
 have HC:=hid (clean_at s c hc (by omega))
 have HL:=hid (last_string c (by omega))
 have hls:=last_lt (clean_pos s.data.toList)
 rw[←hc,←Lib.size_eq]at hls
 have HE:Hid (c.extract (lastSlash c.data.toList+1).toNat c.size=d):=by
  show _=_
  apply ba_ext
  rw[drop_bytes,hd,hc];exact base_real _
 clear hd hc
 generalize lastSlash c.data.toList=z at*
 go_enter Tryz.func52,Tryz.ntmps52
 go_wp2_with fail
 refine(HC.out _).mono ?_
 rintro e w1 ⟨rfl,hb⟩
 go_wp2_with fail
 refine(HL.out _).mono ?_
 rintro e w2 ⟨rfl,rfl⟩
 go_wp2_with fail
 go_ret
 exact⟨ret_str HE.out,hb⟩
end W04
end Go.Proofs.YtfgegjinhkgpbaaGreatDoor
