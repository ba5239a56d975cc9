/-
  Texts joined, in build order, each with its own comment and its own conditions: W04Under, W02Same, W04Use, W04Walk, W13Math, W14Math, W14More, W15Math, Recs, RecCut, RecAppend, Row256.
-/
import Derived.Test.YtfgegjinhkgpbaaGreatDoorJ02
import Derived.Deep.QuietTactic
import Derived.Test.YtfgegjinhkgpbaaGreatDoorChecked
import Derived.WalkSpells
import Derived.WalkLawsBesides
import Derived.BigQuiet
import Derived.Maps.AppendAt
import Derived.Deep.Onto
import Derived.Test.YtfgegjinhkgpbaaGreatDoorJ01
import Derived.ProofKit
import Derived.Laws.OwnMore
import Derived.Tactics
import Derived.Deep.WholeRow
import Derived.Laws.Rows
import Derived.Laws.Tables
namespace Go.Proofs.YtfgegjinhkgpbaaGreatDoor
set_option maxHeartbeats 4000000
set_option maxRecDepth 100000
open Go.RowKit
open Lib (hid)
namespace Jj
open Strs Ki
open uD (check)
open Kit (Au AX CL Ae BM CF Ap Bl Az Bb CX Bh EZ GY below_draws on)
/-! ### Under -/
end Jj
namespace zM
open Strs
theorem AX {a b:Bool} (h:a=b):Ending.returned (.bool a)= .returned (.bool b):=by rw[h]
theorem bq {La Lb:List (List UInt8)} {k:Nat} (hl:La.length=Lb.length) (hk: ¬k<La.length) (h: ∀j,j<k->La.getD j []=Lb.getD j []):La=Lb:=by
 apply List.ext_getElem hl
 intro i h1 h2
 have:=h i (by omega)
 simpa [List.getD_eq_getElem?_getD,h1,h2]using this
theorem bu {La Lb:List (List UInt8)} {k:Nat} (h: ¬La.getD k []=Lb.getD k []): ¬La=Lb:=fun e=>h (by rw[e])
theorem gq (va vb:Value) (La Lb:List (List UInt8)) (B:Nat) (w:World) (ha:Bc B w va La) (hb:Bc B w vb Lb):
    Calls Tryz.prog 9 #[va,vb] w fun e w'=>e= .returned (.bool (decide (La=Lb)))/\ ∃n,w'=w.drewN n:=by
 obtain⟨A,c,rfl,hA1,hA2⟩:=ha.form
 obtain⟨A',c',rfl,hB1,hB2⟩:=hb.form
 unfold maxLen at hA2 hB2
 by_cases hl:La.length=Lb.length
 ·have HL:=hid hl
  have HA:=hid ha
  have HB:=hid (hl▸hb)
  have hne:((La.length:Int) !=(Lb.length:Int))=false:=by simp[hl]
  rw[<-hl]
  rw[<-hl]at hB1 hne
  clear hl ha hb hne
  generalize hn:La.length=n at*
  have HN:=hid hn
  clear hn
  go_enter Tryz.func9,Tryz.ntmps9
  go_wp2
  go_loopw [5] (fun i wr=> ∃k:Nat,k<=n/\i= .int .i64 k/\Hid (∀j,j<k->La.getD j []=Lb.getD j [])/\ ∃q,wr=w.drewN q) (fun i _=>n-(intOf i).toNat)
  case atStart=>exact⟨0,Nat.zero_le _,rfl,fun j hj=>by omega,0,rfl⟩
  case round=>
   obtain⟨k,hk,rfl,hr,q,rfl⟩:=hrel
   by_cases hlt:k<n
   ·obtain⟨ad,s,rfl,hbl,hc,hs⟩:=HA.out.at_ hlt
    obtain⟨ad',s',rfl,AAB,hc',hs'⟩:=HB.out.at_ hlt
    have HS:=hid hs
    have zN:=hid hs'
    clear hs hs'
    cases he:(s.toList==s'.toList)with
    |true=>
     have hE:=hid (beq_iff_eq.1 he)
     go_wp2_with fail
     go_quiet (fail)
     go_wp2_with fail
     go_roundw
     case rel=>exact⟨k+1,by omega,by go_num,fun j hj=>by
      by_cases e:j=k
      ·rw[e,<-HS.out,<-zN.out,<-Lib.toList_data,<-Lib.toList_data];exact hE.out
      exact hr.out j (by omega),q+nq,by first|rfl|rw[World.drewN_drewN]⟩
     case measure=>simp[intOf];omega
    |false=>
     have hE:=hid (beq_eq_false_iff_ne.1 he)
     go_wp2_with fail
     go_quiet (fail)
     go_wp2_with fail
     go_ret
     refine⟨AX ?_,q+nq,by first|rfl|rw[World.drewN_drewN]⟩
     have:=bu (La:=La) (Lb:=Lb) (k:=k) (by rw[<-HS.out,<-zN.out,<-Lib.toList_data,<-Lib.toList_data];exact hE.out)
     simp[this]
   go_wp2
   go_ret
   refine⟨AX ?_,q,rfl⟩
   have:=bq (HN.out.trans HL.out) (k:=k) (by rw[HN.out];exact hlt) hr.out
   simp[this]
 have hne:((La.length:Int) !=(Lb.length:Int))=true:=by simp;omega
 have hd: ¬La=Lb:=fun e=>hl (by rw[e])
 go_enter Tryz.func9,Tryz.ntmps9
 go_wp2
 go_ret
 exact⟨AX (by simp[hd]),0,rfl⟩
end zM
namespace Jj
open Strs Ki
open Kit (Au AX CL Ae below_draws on)
theorem gu (va vb:Value) (L:List Bytes) (B:Nat) (w:World) (ha:Bc B w va L) (hb:Bc B w vb L):
    Calls Tryz.prog 9 #[va,vb] w fun e w'=>e= .returned (.bool true)/\Below w.heap.size w w':=
 (zM.gq va vb L L B w ha hb).mono fun _ _ ⟨he,n,hw⟩=>⟨by rw[he];exact AX (by simp),by rw[hw];exact below_draws _ _⟩
theorem nI (l:Bytes): ∃d:ByteArray,d.data.toList=l:=⟨⟨l.toArray⟩,rfl⟩
end Jj
namespace Jj
open Go.Shelf Range Ki Strs
open Kit (Au AX BO CL Ae below_draws on)
attribute [local go_sem] Oper.semAt_some
theorem U_ {W w1:World} {T:Nat->Prop} {n0 base B:Nat} {t e:TypeId} {size:Nat} {v v':Value} {k m:Nat} {xs ys:List Value} {tmp:Obj}
    (hv:Boxed W B t v) (hte:t≠e) (hrow:W.ownsRow base e size v k xs) (hB: ¬T B) (hT: ∀k,base<=k-> ¬T k) (h1:n0<=B) (h2:n0<=base)
    (hown':w1.ownsRow base e size v' m ys) (hgrow:(W.alloc tmp).grownBy w1 v.ownBlock):
    Boxed w1 B t v/\Boxed (w1.setCell ⟨B,0,none⟩ v') B t v'/\(w1.setCell ⟨B,0,none⟩ v').ownsRow base e size v' m ys/\AP (fun k=> ¬T k) W (w1.setCell ⟨B,0,none⟩ v')/\Below n0 W (w1.setCell ⟨B,0,none⟩ v'):=by
 have hv1:Boxed w1 B t v:=(hv.alloc tmp).kept hgrow (hv.not_row hte hrow)
 have hlt:=hv.lt
 refine⟨hv1,hv1.set v',hown'.kept (grownBy_setCell' w1 B v') (.inr (hv1.not_row hte hown').symm),?_,?_⟩
 ·exact((AP.alloc _ W tmp).trans (AP.Jm hgrow fun r hr=>hT r (hrow.lt r hr).1)).trans (AP.setCell _ hB)
 exact(((Below.refl n0 W).alloc (by omega) tmp).grown hgrow (by simp;omega) (fun r hr=>Nat.le_trans h2 (hrow.lt r hr).1)).setCell (p:=⟨B,0,none⟩) h1 v'
end Jj
namespace Ew
open Go
def bit (b:Bool):UInt8:=if b then 49 else 48
def textOf (f:Nat->Bool):List UInt8:=(List.range 256).map fun i=>bit (f i)
def good (s:List UInt8):Bool:=decide (s.length=256)&&s.all (fun c=>decide (c=48)||decide (c=49))
def has (s:List UInt8) (i:Nat):Bool:=good s&&decide (s.getD i 0=49)
theorem ML {f g:Nat->Bool} (h: ∀i,i<256->f i=g i):textOf f=textOf g:=by
 unfold textOf
 refine List.map_congr_left fun i hi=> ?_
 rw[h i (List.mem_range.1 hi)]
theorem JE (f:Nat->Bool):(textOf f).length=256:=by unfold textOf;rw[List.length_map,List.length_range]
theorem K_ (f:Nat->Bool) {i:Nat} (h:i<256):(textOf f)[i]? =some (bit (f i)):=by
 unfold textOf
 rw[List.getElem?_map,List.getElem?_range h];rfl
theorem ql (b:Bool):bit b=48\/bit b=49:=by cases b<;>simp[bit]
theorem nJ (b:Bool):decide (bit b=49)=b:=by cases b<;>rfl
theorem Jn (f:Nat->Bool):good (textOf f)=true:=by
 unfold good
 rw[JE]
 simp only[decide_true,Bool.true_and,List.all_eq_true]
 intro c hc
 unfold textOf at hc
 obtain⟨i,_,rfl⟩:=List.mem_map.1 hc
 rcases ql (f i)with h|h<;>rw[h]<;>rfl
theorem gy (f:Nat->Bool) {i:Nat} (h:i<256):has (textOf f) i=f i:=by
 unfold has
 rw[Jn,List.getD_eq_getElem?_getD,K_ f h,Option.getD_some,nJ,Bool.true_and]
theorem nK {s:List UInt8} {i:Nat} (h:256<=i):has s i=false:=by
 unfold has
 by_cases e:s.length=256
 ·rw[List.getD_eq_getElem?_getD,List.getElem?_eq_none (by omega)];simp
 unfold good;rw[decide_eq_false e];rfl
theorem PZ {s:List UInt8} (h:good s=false) (i:Nat):has s i=false:=by unfold has;rw[h];rfl
theorem MM {s:List UInt8} (h:good s=true) (i:Nat):has s i=decide (s.getD i 0=49):=by unfold has;rw[h];rfl
theorem MN {s:List UInt8} (h:good s=true):s.length=256:=by
 unfold good at h
 exact of_decide_eq_true (Bool.and_eq_true_iff.1 h).1
theorem nL {s:List UInt8} (h:good s=true) {i:Nat} (hi:i<256):s[i]? =some (bit (has s i)):=by
 have hl:=MN h
 have hm:s[i]? =some (s[i]'(by omega)):=List.getElem?_eq_getElem _
 rw[MM h,List.getD_eq_getElem?_getD,hm,Option.getD_some]
 unfold good at h
 have h2:=List.all_eq_true.1 (Bool.and_eq_true_iff.1 h).2 (s[i]'(by omega)) (List.getElem_mem _)
 generalize s[i]'(by omega)=c at h2 ⊢
 by_cases e:c=49
 ·subst e;rfl
 rw[decide_eq_false e]at h2 ⊢
 rw[Bool.or_false]at h2
 rw[of_decide_eq_true h2];rfl
theorem bz {s:List UInt8} (h:good s=true):s=textOf (has s):=by
 apply List.ext_getElem?
 intro i
 by_cases hi:i<256
 ·rw[nL h hi,K_ _ hi]
 rw[List.getElem?_eq_none (by rw[MN h];omega),List.getElem?_eq_none (by rw[JE];omega)]
theorem NU: ∀s:List UInt8,s.count 48+s.count 49<=s.length
 | []=>Nat.le_refl _
 |c::s=>by
  have:=NU s
  rw[List.count_cons,List.count_cons,List.length_cons]
  by_cases e:c=48
  ·subst e;simp;omega
  by_cases e2:c=49
  ·subst e2;simp;omega
  simp[e,e2];omega
theorem QL: ∀s:List UInt8,decide (s.count 48+s.count 49=s.length)=s.all (fun c=>decide (c=48)||decide (c=49))
 | []=>rfl
 |c::s=>by
  have ih:=QL s
  have hle:=NU s
  rw[List.count_cons,List.count_cons,List.length_cons,List.all_cons,<-ih]
  by_cases e:c=48
  ·subst e
   simp only[beq_self_eq_true,if_true,decide_true,Bool.true_or,Bool.true_and]
   rw[show((48:UInt8)==49)=false from rfl]
   simp only[Bool.false_eq_true,if_false,Nat.add_zero]
   exact decide_eq_decide.2 (by omega)
  by_cases e2:c=49
  ·subst e2
   simp only[beq_self_eq_true,if_true,decide_true,Bool.or_true,Bool.true_and]
   rw[show((49:UInt8)==48)=false from rfl]
   simp only[Bool.false_eq_true,if_false,Nat.add_zero]
   exact decide_eq_decide.2 (by omega)
  rw[decide_eq_false e,decide_eq_false e2,show(c==48)=false from beq_eq_false_iff_ne.2 e,show(c==49)=false from beq_eq_false_iff_ne.2 e2]
  simp only[Bool.false_eq_true,if_false,Nat.add_zero,Bool.or_self,Bool.false_and]
  exact decide_eq_false (by omega)
theorem Wm (s:List UInt8):(decide (s.length=256)&&decide (s.count 48+s.count 49=s.length))=good s:=by unfold good;rw[QL]
/-! the uW sets -/
def between (a b i:Nat):Bool:=decide (a<=i)&&decide (i<=b)
def letter (c:UInt8):Bool:=decide (c=100)||decide (c=119)||decide (c=115)||decide (c=68)||decide (c=87)||decide (c=83)
def gz (i:Nat):Bool:=between 48 57 i
def Wn (i:Nat):Bool:=between 97 122 i||between 65 90 i||decide (i=95)||between 48 57 i
def QM (i:Nat):Bool:=between 9 13 i||decide (i=32)
def Bt (c:UInt8) (i:Nat):Bool:=
 if c=100 then gz i else if c=119 then Wn i else if c=115 then QM i else if c=68 then !gz i else if c=87 then !Wn i else if c=83 then !QM i else false
/-! which set a text begins with -/
def one:List UInt8->UInt8×Nat×Bool
 | []=>(0,0,false)
 |c::r=>if c=92 then(match r with| []=>(0,0,false)|d::_=>(d,2,letter d))else(c,1,false)
def joined:List UInt8->Bool
 | []=>false
 |c::r=>decide (c=45)&&(match r with| []=>true|d::_=> !decide (d=93))
def item (s:List UInt8):Nat×Int×(Nat->Bool):=
 if(one s).2.1=0 then(0,3,fun _=>false)
 else if(one s).2.2 then(if joined (s.drop (one s).2.1)then(0,3,fun _=>false)else((one s).2.1,0,Bt (one s).1))
 else if joined (s.drop (one s).2.1)=false then((one s).2.1,0,fun i=>decide (i=(one s).1.toNat))
 else if(one (s.drop ((one s).2.1+1))).2.1=0 then(0,3,fun _=>false)
 else if(one (s.drop ((one s).2.1+1))).2.2 then(0,3,fun _=>false)
 else if(one (s.drop ((one s).2.1+1))).1.toNat<(one s).1.toNat then(0,4,fun _=>false)
 else((one s).2.1+1+(one (s.drop ((one s).2.1+1))).2.1,0,between (one s).1.toNat (one (s.drop ((one s).2.1+1))).1.toNat)
def items (s:List UInt8):Nat->Nat->(Nat->Bool)->(Nat->Bool)×Nat×Int
 |0,_,_=>(fun _=>false,0,3)
 |fuel+1,at_,f=>
  if s.length<=at_ then(fun _=>false,0,3)
  else if s.getD at_ 0=93/\0<at_ then(f,at_+1,0)
  else if(item (s.drop at_)).2.1≠0 then(fun _=>false,0,(item (s.drop at_)).2.1)
  else items s fuel (at_+(item (s.drop at_)).1) (fun i=>f i||(item (s.drop at_)).2.2 i)
def parse (s:List UInt8):(Nat->Bool)×Nat×Int:=
 match s with
 | []=>(fun _=>false,0,3)
 |c::r=>if c=91 then
   (match r with
   | []=>(fun _=>false,0,3)
   |d::q=>if d=94 then
     (if(items q (q.length+1) 0 (fun _=>false)).2.2≠0 then(fun _=>false,0,(items q (q.length+1) 0 (fun _=>false)).2.2)else(fun i=> !(items q (q.length+1) 0 (fun _=>false)).1 i,2+(items q (q.length+1) 0 (fun _=>false)).2.1,0))
    else
     (if(items r (r.length+1) 0 (fun _=>false)).2.2≠0 then(fun _=>false,0,(items r (r.length+1) 0 (fun _=>false)).2.2)else((items r (r.length+1) 0 (fun _=>false)).1,1+(items r (r.length+1) 0 (fun _=>false)).2.1,0)))
  else(fun _=>false,0,3)
theorem one_le (s:List UInt8):(one s).2.1<=s.length:=by
 unfold one
 split
 ·exact Nat.le_refl _
 rename_i c r
 by_cases h:c=92
 ·rw[if_pos h]
  split
  ·exact Nat.zero_le _
  simp only[List.length_cons];omega
 rw[if_neg h];simp only[List.length_cons];omega
end Ew
namespace Cj
open Go Ew
inductive Piece where
 |mk (kind:Int) (text:ByteArray) (kids:List Piece) (least top:Int)
def leaf (kind:Int) (t:ByteArray):Piece:= .mk kind t [] 0 0
inductive Dg where
 |ok (p:Piece) (to:Nat)
 |bad (at_:Nat) (e:Int)
def txt (f:Nat->Bool):ByteArray:=⟨(textOf f).toArray⟩
def YW (c:UInt8):ByteArray:=⟨#[c]⟩
def Ch (c:UInt8):Bool:=decide (48<=c)&&decide (c<=57)
def val (l:List UInt8):Nat:=l.foldl (fun n c=>n*10+(c.toNat-48)) 0
def number (t:List UInt8):Option Nat:=if t≠ []/\t.length<=3/\t.all Ch=true then some (val t)else none
def range (m top:Int) (n:Nat):Int×Int×Int×Nat:=if m>100\/top>100\/(0<=top/\m>top)then(4,0,0,0)else(0,m,top,n)
def Pb:Int×Int×Int×Nat:=(3,0,0,0)
def Cr (l:List UInt8):Int×Int×Int×Nat:=
 match number (l.takeWhile Ch)with
 |none=>Pb
 |some m=>
  match l.dropWhile Ch with
  | []=>Pb
  |c::r=>
   if c=125 then range m m ((l.takeWhile Ch).length+2)
   else if c=44 then
    (if r.takeWhile Ch= []then(if r.headD 0=125 then range m (-1) ((l.takeWhile Ch).length+3)else Pb)
    else match number (r.takeWhile Ch)with
     |none=>Pb
     |some k=>if(r.dropWhile Ch).headD 0=125 then range m k ((l.takeWhile Ch).length+(r.takeWhile Ch).length+3)else Pb)
   else Pb
def atom (R:Nat->Nat->Option Dg) (S:List UInt8) (at_ deep:Nat):Option Dg:=
 if S.getD at_ 0=40 then
  (if deep=64 then some (.bad at_ 21)
  else match R (at_+1) (deep+1)with
   |none=>none
   |some (.bad b e)=>some (.bad b e)
   |some (.ok p to)=>if to=S.length then some (.bad S.length 3)else some (.ok p (to+1)))
 else if S.getD at_ 0=91 then
  (if(parse (S.drop at_)).2.2≠0 then some (.bad at_ (parse (S.drop at_)).2.2)else some (.ok (leaf 4 (txt (parse (S.drop at_)).1)) (at_+(parse (S.drop at_)).2.1)))
 else if S.getD at_ 0=46 then some (.ok (leaf 3 ⟨#[]⟩) (at_+1))
 else if S.getD at_ 0=94 then some (.ok (leaf 5 ⟨#[]⟩) (at_+1))
 else if S.getD at_ 0=36 then some (.ok (leaf 6 ⟨#[]⟩) (at_+1))
 else if S.getD at_ 0=42\/S.getD at_ 0=43\/S.getD at_ 0=63\/S.getD at_ 0=123 then some (.bad at_ 3)
 else if S.getD at_ 0≠92 then some (.ok (leaf 2 (YW (S.getD at_ 0))) (at_+1))
 else if at_+1=S.length then some (.bad at_ 3)
 else if letter (S.getD (at_+1) 0)then some (.ok (leaf 4 (txt (Bt (S.getD (at_+1) 0)))) (at_+2))
 else some (.ok (leaf 2 (YW (S.getD (at_+1) 0))) (at_+2))
def often (S:List UInt8) (p:Piece) (to:Nat):Dg:=
 if to=S.length then .ok p to
 else if S.getD to 0=123 then(if(Cr (S.drop (to+1))).1≠0 then .bad to (Cr (S.drop (to+1))).1 else .ok (.mk 9 ⟨#[]⟩ [p] (Cr (S.drop (to+1))).2.1 (Cr (S.drop (to+1))).2.2.1) (to+(Cr (S.drop (to+1))).2.2.2))
 else if S.getD to 0=42 then .ok (.mk 9 ⟨#[]⟩ [p] 0 (-1)) (to+1)
 else if S.getD to 0=43 then .ok (.mk 9 ⟨#[]⟩ [p] 1 (-1)) (to+1)
 else if S.getD to 0=63 then .ok (.mk 9 ⟨#[]⟩ [p] 0 1) (to+1)
 else .ok p to
def part (R:Nat->Nat->Option Dg) (S:List UInt8) (at_ deep:Nat):Option Dg:=
 match atom R S at_ deep with
 |none=>none
 |some (.bad b e)=>some (.bad b e)
 |some (.ok p to)=>some (often S p to)
def together (kind:Int):List Piece->Piece
 | []=>leaf 1 ⟨#[]⟩
 | [p]=>p
 |p::q::l=> .mk kind ⟨#[]⟩ (p::q::l) 0 0
def stop (S:List UInt8) (at_:Nat):Prop:=S.length<=at_\/S.getD at_ 0=124\/S.getD at_ 0=41
instance (S:List UInt8) (at_:Nat):Decidable (stop S at_):=by unfold stop;infer_instance
def row (R:Nat->Nat->Option Dg) (S:List UInt8) (deep:Nat):Nat->Nat->List Piece->Option Dg
 |0,_,_=>none
 |k+1,at_,acc=>
  if stop S at_ then some (.ok (together 7 acc) at_)
  else match part R S at_ deep with
   |none=>none
   |some (.bad b e)=>some (.bad b e)
   |some (.ok p to)=>row R S deep k to (acc++ [p])
def Dx (R:Nat->Nat->Option Dg) (S:List UInt8) (deep:Nat):Nat->Nat->List Piece->Option Dg
 |0,_,_=>none
 |k+1,at_,acc=>
  match row R S deep (S.length+1) at_ []with
  |none=>none
  |some (.bad b e)=>some (.bad b e)
  |some (.ok p to)=>if to=S.length\/S.getD to 0≠124 then some (.ok (together 8 (acc++ [p])) to)else Dx R S deep k (to+1) (acc++ [p])
def rows (S:List UInt8):Nat->Nat->Nat->Option Dg
 |0,_,_=>none
 |n+1,at_,deep=>Dx (rows S n) S deep (S.length+1) at_ []
def fix (S:List UInt8) (deep:Nat):Dg->Dg
 | .bad b e=> .bad b e
 | .ok p to=>if deep=0/\to<S.length/\S.getD to 0=41 then .bad to 3 else .ok p to
/-! what is read may be -/
inductive Whole:Piece->Prop where
 |none (k:Int) (h:k=1\/k=3\/k=5\/k=6):Whole (leaf k ⟨#[]⟩)
 |char (c:UInt8):Whole (leaf 2 (YW c))
 |set (f:Nat->Bool):Whole (leaf 4 (txt f))
 |many (k:Int) (h:k=7\/k=8) (l:List Piece) (h2:2<=l.length) (h3:l.length<=1000) (hk: ∀p,p∈l->Whole p):Whole (.mk k ⟨#[]⟩ l 0 0)
 |rep (p:Piece) (m t:Int) (hm:0<=m/\m<=100) (ht:t= -1\/m<=t/\t<=100) (hk:Whole p):Whole (.mk 9 ⟨#[]⟩ [p] m t)
theorem Jo {k:Int} (h:k=7\/k=8) {l:List Piece} (h3:l.length<=1000) (hl: ∀p,p∈l->Whole p):Whole (together k l):=by
 match l with
 | []=>exact .none 1 (by omega)
 | [p]=>exact hl p (by simp)
 |p::q::r=>exact .many k h _ (by simp) h3 hl
theorem aV (l:List UInt8):(l.takeWhile Ch).length+(l.dropWhile Ch).length=l.length:=by
 rw[<-List.length_append,List.takeWhile_append_dropWhile]
theorem QN {m top:Int} {n:Nat} (hm:0<=m) (ht: -1<=top) (h:(range m top n).1=0):range m top n=(0,m,top,n)/\(0<=m/\m<=100)/\(top= -1\/m<=top/\top<=100):=by
 unfold range at h ⊢
 by_cases c:m>100\/top>100\/(0<=top/\m>top)
 ·rw[if_pos c]at h;simp at h
 rw[if_neg c];refine⟨rfl,?_,?_⟩<;>omega
theorem Wo {l:List UInt8} (h:l.headD 0=125):0<l.length:=by
 cases l with
 |nil=>simp at h
 |cons c r=>simp
theorem NV {l:List UInt8} (h:(Cr l).1=0):(0<=(Cr l).2.1/\(Cr l).2.1<=100)/\((Cr l).2.2.1= -1\/(Cr l).2.1<=(Cr l).2.2.1/\(Cr l).2.2.1<=100)/\0<(Cr l).2.2.2/\(Cr l).2.2.2<=l.length+1:=by
 have hl:=aV l
 unfold Cr at h ⊢
 cases hn:number (l.takeWhile Ch)with
 |none=>rw[hn]at h;simp[Pb]at h
 |some m=>
  rw[hn]at h
  simp only at h ⊢
  cases hd:l.dropWhile Ch with
  |nil=>rw[hd]at h;simp[Pb]at h
  |cons c r=>
   rw[hd]at h hl
   rw[List.length_cons]at hl
   simp only at h ⊢
   have hr:=aV r
   by_cases c1:c=125
   ·rw[if_pos c1]at h ⊢
    obtain⟨e,h1,h2⟩:=QN (by omega) (by omega) h
    rw[e]
    exact⟨h1,h2,by simp only;omega,by simp only;omega⟩
   rw[if_neg c1]at h ⊢
   by_cases c2:c=44
   ·rw[if_pos c2]at h ⊢
    by_cases c3:r.takeWhile Ch= []
    ·rw[if_pos c3]at h ⊢
     by_cases c4:r.headD 0=125
     ·rw[if_pos c4]at h ⊢
      have:=Wo c4
      obtain⟨e,h1,h2⟩:=QN (by omega) (by omega) h
      rw[e]
      exact⟨h1,h2,by simp only;omega,by simp only;omega⟩
     rw[if_neg c4]at h;simp[Pb]at h
    rw[if_neg c3]at h ⊢
    cases hn2:number (r.takeWhile Ch)with
    |none=>rw[hn2]at h;simp[Pb]at h
    |some k=>
     rw[hn2]at h
     simp only at h ⊢
     by_cases c4:(r.dropWhile Ch).headD 0=125
     ·rw[if_pos c4]at h ⊢
      have:=Wo c4
      obtain⟨e,h1,h2⟩:=QN (by omega) (by omega) h
      rw[e]
      exact⟨h1,h2,by simp only;omega,by simp only;omega⟩
     rw[if_neg c4]at h;simp[Pb]at h
   rw[if_neg c2]at h;simp[Pb]at h
theorem QO (s:List UInt8): ∀(k at_:Nat) (f:Nat->Bool),(items s k at_ f).2.2=0->(items s k at_ f).2.1<=s.length/\0<(items s k at_ f).2.1
 |0,_,_=>by intro h;simp[items]at h
 |k+1,at_,f=>by
  intro h
  unfold items at h ⊢
  by_cases c1:s.length<=at_
  ·rw[if_pos c1]at h;simp at h
  rw[if_neg c1]at h ⊢
  by_cases c2:s.getD at_ 0=93/\0<at_
  ·rw[if_pos c2]at h ⊢
   exact⟨by simp only;omega,by simp only;omega⟩
  rw[if_neg c2]at h ⊢
  by_cases c3:(item (s.drop at_)).2.1≠0
  ·rw[if_pos c3]at h;exact absurd h c3
  rw[if_neg c3]at h ⊢
  exact QO s k _ _ h
theorem MO {s:List UInt8} (h:(parse s).2.2=0):(parse s).2.1<=s.length/\0<(parse s).2.1:=by
 revert h
 unfold parse
 match s with
 | []=>simp
 |c::r=>
  by_cases c1:c=91
  ·simp only[if_pos c1]
   match r with
   | []=>simp
   |d::q=>
    simp only
    by_cases c2:d=94
    ·rw[if_pos c2]
     have:=QO q (q.length+1) 0 (fun _=>false)
     by_cases c3:(items q (q.length+1) 0 (fun _=>false)).2.2≠0
     ·rw[if_pos c3];intro h;exact absurd h c3
     rw[if_neg c3]
     intro _
     have:=this (by simpa using c3)
     simp only[List.length_cons]
     omega
    rw[if_neg c2]
    have:=QO (d::q) ((d::q).length+1) 0 (fun _=>false)
    by_cases c3:(items (d::q) ((d::q).length+1) 0 (fun _=>false)).2.2≠0
    ·rw[if_pos c3];intro h;exact absurd h c3
    rw[if_neg c3]
    intro _
    have:=this (by simpa using c3)
    rw[List.length_cons]at this
    simp only[List.length_cons]at this ⊢
    omega
  simp only[if_neg c1];simp
/-! what is read is there,and its place -/
def GN (S:List UInt8) (lo:Nat):Dg->Prop
 | .ok p to=>lo<=to/\to<=S.length/\Whole p
 | .bad b _=>b<=S.length
theorem NW {R:Nat->Nat->Option Dg} {S:List UInt8} {at_ deep:Nat} (h:at_<S.length) (hR:deep≠64->at_+1<=S.length-> ∃g,R (at_+1) (deep+1)=some g/\GN S (at_+1) g): ∃g,atom R S at_ deep=some g/\GN S (at_+1) g:=by
 unfold atom
 by_cases c1:S.getD at_ 0=40
 ·rw[if_pos c1]
  by_cases c2:deep=64
  ·rw[if_pos c2];exact⟨_,rfl,by show at_<=S.length;omega⟩
  rw[if_neg c2]
  obtain⟨g,e,hg⟩:=hR c2 (by omega)
  rw[e]
  match g,hg with
  | .bad b e,hg=>exact⟨_,rfl,hg⟩
  | .ok p to,hg=>
   simp only
   by_cases c3:to=S.length
   ·rw[if_pos c3];exact⟨_,rfl,Nat.le_refl _⟩
   rw[if_neg c3]
   obtain⟨h1,h2,h3⟩:=hg
   exact⟨_,rfl,by omega,by omega,h3⟩
 rw[if_neg c1]
 by_cases c2:S.getD at_ 0=91
 ·rw[if_pos c2]
  by_cases c3:(parse (S.drop at_)).2.2≠0
  ·rw[if_pos c3];exact⟨_,rfl,by show at_<=S.length;omega⟩
  rw[if_neg c3]
  have:=MO (s:=S.drop at_) (by simpa using c3)
  rw[List.length_drop]at this
  exact⟨_,rfl,by omega,by omega,.set _⟩
 rw[if_neg c2]
 by_cases c3:S.getD at_ 0=46
 ·rw[if_pos c3];exact⟨_,rfl,Nat.le_refl _,h,.none 3 (by omega)⟩
 rw[if_neg c3]
 by_cases c4:S.getD at_ 0=94
 ·rw[if_pos c4];exact⟨_,rfl,Nat.le_refl _,h,.none 5 (by omega)⟩
 rw[if_neg c4]
 by_cases c5:S.getD at_ 0=36
 ·rw[if_pos c5];exact⟨_,rfl,Nat.le_refl _,h,.none 6 (by omega)⟩
 rw[if_neg c5]
 split
 ·exact⟨_,rfl,by show at_<=S.length;omega⟩
 split
 ·exact⟨_,rfl,Nat.le_refl _,h,.char _⟩
 split
 ·exact⟨_,rfl,by show at_<=S.length;omega⟩
 split
 ·exact⟨_,rfl,by omega,by omega,.set _⟩
 exact⟨_,rfl,by omega,by omega,.char _⟩
theorem LA {S:List UInt8} {p:Piece} {lo to:Nat} (h1:lo<=to) (h2:to<=S.length) (h3:Whole p):GN S lo (often S p to):=by
 unfold often
 by_cases c0:to=S.length
 ·rw[if_pos c0];exact⟨h1,h2,h3⟩
 rw[if_neg c0]
 split
 ·by_cases c1:(Cr (S.drop (to+1))).1≠0
  ·rw[if_pos c1];exact h2
  rw[if_neg c1]
  obtain⟨a,b,c,d⟩:=NV (l:=S.drop (to+1)) (by simpa using c1)
  rw[List.length_drop]at d
  exact⟨by omega,by omega,.rep p _ _ a b h3⟩
 split
 ·exact⟨by omega,by omega,.rep p _ _ (by omega) (by omega) h3⟩
 split
 ·exact⟨by omega,by omega,.rep p _ _ (by omega) (by omega) h3⟩
 split
 ·exact⟨by omega,by omega,.rep p _ _ (by omega) (by omega) h3⟩
 exact⟨h1,h2,h3⟩
theorem b_ {R:Nat->Nat->Option Dg} {S:List UInt8} {at_ deep:Nat} (h:at_<S.length) (hR:deep≠64->at_+1<=S.length-> ∃g,R (at_+1) (deep+1)=some g/\GN S (at_+1) g): ∃g,part R S at_ deep=some g/\GN S (at_+1) g:=by
 obtain⟨g,e,hg⟩:=NW h hR
 unfold part
 rw[e]
 match g,hg with
 | .bad b e,hg=>exact⟨_,rfl,hg⟩
 | .ok p to,hg=>exact⟨_,rfl,LA hg.1 hg.2.1 hg.2.2⟩
theorem GN.less {S:List UInt8} {lo lo':Nat} {g:Dg} (h:GN S lo g) (k:lo'<=lo):GN S lo' g:=by
 match g,h with
 | .bad b e,h=>exact h
 | .ok p to,h=>exact⟨Nat.le_trans k h.1,h.2⟩
theorem MP {R:Nat->Nat->Option Dg} {S:List UInt8} {deep lo:Nat} (hs:S.length<=900) (hR:deep≠64-> ∀to,lo<to->to<=S.length-> ∃g,R to (deep+1)=some g/\GN S to g):
    ∀(k at_:Nat) (acc:List Piece),lo<=at_->at_<=S.length->S.length<at_+k->acc.length<=at_->(∀p,p∈acc->Whole p)-> ∃g,row R S deep k at_ acc=some g/\GN S at_ g
 |0,at_,acc,_,h1,h2,_,_=>by omega
 |k+1,at_,acc,h0,h1,h2,h3,h4=>by
  unfold row
  by_cases c:stop S at_
  ·rw[if_pos c];exact⟨_,rfl,Nat.le_refl _,h1,Jo (by omega) (by omega) h4⟩
  rw[if_neg c]
  have hlt:at_<S.length:=by unfold stop at c;omega
  obtain⟨g,e,hg⟩:=b_ (R:=R) (deep:=deep) hlt (fun d q=>hR d _ (by omega) q)
  rw[e]
  match g,hg with
  | .bad b e,hg=>exact⟨_,rfl,hg⟩
  | .ok p to,hg=>
   obtain⟨g1,g2,g3⟩:=hg
   obtain⟨g,e2,hg2⟩:=MP hs hR k to (acc++ [p]) (by omega) g2 (by omega) (by rw[List.length_append];simp only[List.length_cons,List.length_nil];omega) (by
    intro q hq
    rcases List.mem_append.1 hq with hq|hq
    ·exact h4 q hq
    rw[List.mem_singleton.1 hq];exact g3)
   exact⟨g,e2,hg2.less (by omega)⟩
theorem QP {R:Nat->Nat->Option Dg} {S:List UInt8} {deep lo:Nat} (hs:S.length<=900) (hR:deep≠64-> ∀to,lo<to->to<=S.length-> ∃g,R to (deep+1)=some g/\GN S to g):
    ∀(k at_:Nat) (acc:List Piece),lo<=at_->at_<=S.length->S.length<at_+k->acc.length<=at_->(∀p,p∈acc->Whole p)-> ∃g,Dx R S deep k at_ acc=some g/\GN S at_ g
 |0,at_,acc,_,h1,h2,_,_=>by omega
 |k+1,at_,acc,h0,h1,h2,h3,h4=>by
  unfold Dx
  obtain⟨g,e,hg⟩:=MP (deep:=deep) hs (fun d to a b=>hR d to (by omega) b) (S.length+1) at_ [] (Nat.le_refl at_) h1 (by omega) (Nat.zero_le _) (by simp)
  rw[e]
  match g,hg with
  | .bad b e,hg=>exact⟨_,rfl,hg⟩
  | .ok p to,hg=>
   obtain⟨g1,g2,g3⟩:=hg
   have hall: ∀q,q∈acc++ [p]->Whole q:=by
    intro q hq
    rcases List.mem_append.1 hq with hq|hq
    ·exact h4 q hq
    rw[List.mem_singleton.1 hq];exact g3
   have hlen:(acc++ [p]).length=acc.length+1:=by simp
   simp only
   by_cases c:to=S.length\/S.getD to 0≠124
   ·rw[if_pos c];exact⟨_,rfl,g1,g2,Jo (by omega) (by omega) hall⟩
   rw[if_neg c]
   obtain⟨g,e2,hg2⟩:=QP hs hR k (to+1) (acc++ [p]) (by omega) (by omega) (by omega) (by omega) hall
   exact⟨g,e2,hg2.less (by omega)⟩
theorem NY {S:List UInt8} (hs:S.length<=900): ∀(n at_ deep:Nat),at_<=S.length->S.length<at_+n-> ∃g,rows S n at_ deep=some g/\GN S at_ g
 |0,at_,deep,h1,h2=>by omega
 |n+1,at_,deep,h1,h2=>by
  unfold rows
  exact QP (lo:=at_) hs (fun _ to h3 h4=>NY hs n to _ h4 (by omega)) (S.length+1) at_ [] (Nat.le_refl at_) h1 (by omega) (Nat.zero_le _) (by simp)
/-! how many steps -/
mutual
def size:Piece->Nat
 | .mk k _ l m t=>min 4001 (if k=1 then 0 else if 2<=k/\k<=6 then 1 else if k=7 then sizes l else if k=8 then sizes l+2*(l.length-1)else if t= -1 then m.toNat*sizes l+sizes l+2 else m.toNat*sizes l+(t-m).toNat*(sizes l+1))
def sizes:List Piece->Nat
 | []=>0
 |p::l=>size p+sizes l
end
theorem size_le (p:Piece):size p<=4001:=by
 match p with
 | .mk k t l a b=>unfold size;exact Nat.min_le_left _ _
theorem DN (l m:List Piece):sizes (l++m)=sizes l+sizes m:=by
 induction l with
 |nil=>simp[sizes]
 |cons p l ih=>rw[List.cons_append,sizes,ih,sizes];omega
end Cj
namespace Cj
open Go Ew
theorem Tv {R:Nat->Nat->Option Dg} {S:List UInt8} {deep:Nat}: ∀(k at_:Nat) (acc:List Piece) (p:Piece) (to:Nat),row R S deep k at_ acc=some (.ok p to)->stop S to
 |0,_,_,_,_=>by intro h;simp[row]at h
 |k+1,at_,acc,p,to=>by
  intro h
  unfold row at h
  by_cases c:stop S at_
  ·rw[if_pos c]at h
   injection h with h
   injection h with h1 h2
   subst h2;exact c
  rw[if_neg c]at h
  cases hp:part R S at_ deep with
  |none=>rw[hp]at h;simp at h
  |some g=>
   rw[hp]at h
   match g,h with
   | .bad b e,h=>simp at h
   | .ok q t2,h=>exact Tv k _ _ _ _ h
theorem Og {R:Nat->Nat->Option Dg} {S:List UInt8} {deep:Nat}: ∀(k at_:Nat) (acc:List Piece) (p:Piece) (to:Nat),Dx R S deep k at_ acc=some (.ok p to)->S.length<=to\/S.getD to 0=41
 |0,_,_,_,_=>by intro h;simp[Dx]at h
 |k+1,at_,acc,p,to=>by
  intro h
  unfold Dx at h
  cases hp:row R S deep (S.length+1) at_ []with
  |none=>rw[hp]at h;simp at h
  |some g=>
   rw[hp]at h
   match g,hp,h with
   | .bad b e,hp,h=>simp at h
   | .ok q t2,hp,h=>
    simp only at h
    by_cases c:t2=S.length\/S.getD t2 0≠124
    ·rw[if_pos c]at h
     injection h with h
     injection h with h1 h2
     subst h2
     rcases Tv _ _ _ _ _ hp with s1|s1|s1
     ·exact .inl s1
     ·rcases c with c|c
      ·exact .inl (by omega)
      exact absurd s1 c
     exact .inr s1
    rw[if_neg c]at h
    exact Og k _ _ _ _ h
theorem Yq {S:List UInt8} {n at_ deep:Nat} {p:Piece} {to:Nat} (h:rows S n at_ deep=some (.ok p to)):S.length<=to\/S.getD to 0=41:=by
 cases n with
 |zero=>simp[rows]at h
 |succ n=>unfold rows at h;exact Og _ _ _ _ _ h
theorem Yr {l:List Piece} {i:Nat} (h:i<l.length):sizes (l.take (i+1))=sizes (l.take i)+size l[i]:=by
 rw[List.take_succ_eq_append_getElem h,DN]
 simp[sizes]
theorem Cz (l:List Piece) (i:Nat):sizes (l.take i)<=sizes l:=by
 conv=>rhs;rw[<-List.take_append_drop i l,DN]
 exact Nat.le_add_right _ _
end Cj
namespace Bv
open Go Cj
structure AL where
 kind:Int
 text:ByteArray
 x:Int
 y:Int
def no:ByteArray:=⟨#[]⟩
def split (x y:Nat):AL:=⟨6,no,x,y⟩
def jump (x:Nat):AL:=⟨8,no,x,0⟩
def one (k:Int) (t:ByteArray) (a:Nat):AL:=⟨k,t,(a+1:Nat),0⟩
def times (f:Nat->List AL):Nat->Nat->List AL
 |0,_=> []
 |n+1,a=>f a++times f n (a+(f a).length)
def maybe (f:Nat->List AL) (e:Nat):Nat->Nat->List AL
 |0,_=> []
 |n+1,a=>split (a+1) e::(f (a+1)++maybe f e n (a+1+(f (a+1)).length))
def star (f:Nat->List AL) (e a:Nat):List AL:=split (a+1) e::(f (a+1)++ [jump a])
def LC (f:Nat->List AL) (m t:Int) (e a:Nat):List AL:=
 times f m.toNat a++(if t= -1 then star f e (a+(times f m.toNat a).length)else maybe f e (t-m).toNat (a+(times f m.toNat a).length))
mutual
def steps:Piece->Nat->List AL
 | .mk k t ks m tp,a=>
  if k=2 then[one 1 t a]else if k=3 then[one 2 no a]else if k=4 then[one 3 t a]else if k=5 then[one 4 no a]else if k=6 then[one 5 no a]
  else if k=7 then Dw ks a
  else if k=8 then alts ks a (a+size (.mk k t ks m tp))
  else if k=9 then LC (fun a=>first ks a) m tp (a+size (.mk k t ks m tp)) a
  else[]
def Dw:List Piece->Nat->List AL
 | [],_=> []
 |p::l,a=>steps p a++Dw l (a+size p)
def alts:List Piece->Nat->Nat->List AL
 | [],_,_=> []
 |p::l,a,e=>if l.isEmpty then steps p a else split (a+1) (a+size p+2)::(steps p (a+1)++jump e::alts l (a+size p+2) e)
def first:List Piece->Nat->List AL
 | [],_=> []
 |p::_,a=>steps p a
end
def prog (p:Piece):List AL:=steps p 0++ [⟨7,no,0,0⟩]
theorem ind {P:Piece->Prop} (h: ∀k t ks m tp,(∀p,p∈ks->P p)->P (.mk k t ks m tp)) (p:Piece):P p:=
 @Piece.rec P (fun l=> ∀p,p∈l->P p) (fun k t ks m tp ih=>h k t ks m tp ih) (by simp) (fun p l hp hl=>by
  intro q hq
  rcases List.mem_cons.1 hq with rfl|hq
  ·exact hp
  exact hl q hq) p
inductive Good:Piece->Prop where
 |leaf (k:Int) (t:ByteArray) (h:1<=k/\k<=6):Good (leaf k t)
 |many (k:Int) (h:k=7\/k=8) (ks:List Piece) (h2:2<=ks.length) (hk: ∀p,p∈ks->Good p):Good (.mk k no ks 0 0)
 |rep (p:Piece) (m t:Int) (hm:0<=m/\m<=100) (ht:t= -1\/m<=t/\t<=100) (hk:Good p):Good (.mk 9 no [p] m t)
theorem Good.of_whole {p:Piece} (h:Whole p):Good p:=by
 induction h with
 |none k hk=>exact .leaf k _ (by omega)
 |char c=>exact .leaf 2 _ (by omega)
 |set f=>exact .leaf 4 _ (by omega)
 |many k hk l h2 h3 hw ih=>exact .many k hk l h2 ih
 |rep p m t hm ht hw ih=>exact .rep p m t hm ht ih
theorem VA {k:Int} (hk:1<=k/\k<=6) (t:ByteArray):size (leaf k t)=if k=1 then 0 else 1:=by
 unfold leaf size
 by_cases h1:k=1
 ·simp[h1]
 simp[h1,show 2<=k/\k<=6 by omega]
theorem QR (t:ByteArray) (ks:List Piece) (m tp:Int):size (.mk 7 t ks m tp)=min 4001 (sizes ks):=by
 unfold size
 rw[if_neg (by decide),if_neg (by decide),if_pos rfl]
theorem QS (t:ByteArray) (ks:List Piece) (m tp:Int):size (.mk 8 t ks m tp)=min 4001 (sizes ks+2*(ks.length-1)):=by
 unfold size
 rw[if_neg (by decide),if_neg (by decide),if_neg (by decide),if_pos rfl]
theorem II (t:ByteArray) (p:Piece) (m tp:Int):size (.mk 9 t [p] m tp)=min 4001 (if tp= -1 then m.toNat*size p+size p+2 else m.toNat*size p+(tp-m).toNat*(size p+1)):=by
 conv=>lhs;unfold size
 rw[if_neg (by decide),if_neg (by decide),if_neg (by decide),if_neg (by decide),show sizes [p]=size p by simp only[sizes,Nat.add_zero]]
theorem EP {p:Piece}: ∀ {l:List Piece},p∈l->size p<=sizes l
 |q::l,h=>by
  rw[sizes]
  rcases List.mem_cons.1 h with rfl|h
  ·omega
  have:=EP h;omega
/-! how many steps -/
theorem Cv {f:Nat->List AL} {n:Nat} (hf: ∀a,(f a).length=n): ∀(m a:Nat),(times f m a).length=m*n
 |0,a=>by simp[times]
 |m+1,a=>by rw[times,List.length_append,hf,Cv hf m,Nat.succ_mul];omega
theorem Gi {f:Nat->List AL} {n:Nat} (hf: ∀a,(f a).length=n) (e:Nat): ∀(m a:Nat),(maybe f e m a).length=m*(n+1)
 |0,a=>by simp[maybe]
 |m+1,a=>by rw[maybe,List.length_cons,List.length_append,hf,Gi hf e m,Nat.succ_mul];omega
theorem g_ {f:Nat->List AL} {n:Nat} (hf: ∀a,(f a).length=n) (e a:Nat):(star f e a).length=n+2:=by
 rw[star,List.length_cons,List.length_append,hf];rfl
theorem MQ {p:Piece} {t:ByteArray} {m tp:Int} (h:size (.mk 9 t [p] m tp)<=4000) (hu:0<m\/tp= -1\/m<tp) (hm:0<=m):size p<=4000:=by
 rw[II]at h
 by_cases c:tp= -1
 ·rw[if_pos c]at h
  have:=size_le p
  omega
 rw[if_neg c]at h
 have h1:m.toNat*size p<=4000:=by omega
 have h2:(tp-m).toNat*(size p+1)<=4000:=by omega
 rcases hu with hu|hu|hu
 ·have:1*size p<=m.toNat*size p:=Nat.mul_le_mul_right _ (by omega)
  omega
 ·exact absurd hu c
 have:1*(size p+1)<=(tp-m).toNat*(size p+1):=Nat.mul_le_mul_right _ (by omega)
 omega
theorem QT: ∀ {ks:List Piece},(∀p,p∈ks-> ∀a,(steps p a).length=size p)-> ∀a,(Dw ks a).length=sizes ks
 | [],_,a=>by simp[Dw,sizes]
 |p::l,h,a=>by
  rw[Dw,sizes,List.length_append,h p (by simp),QT (fun q hq=>h q (by simp[hq]))]
theorem LD (p:Piece) (a e:Nat):alts [p] a e=steps p a:=by rw[alts,if_pos (by simp)]
theorem LF (p q:Piece) (l:List Piece) (a e:Nat):alts (p::q::l) a e=split (a+1) (a+size p+2)::(steps p (a+1)++jump e::alts (q::l) (a+size p+2) e):=by rw[alts,if_neg (by simp)]
theorem Wp: ∀ {ks:List Piece},ks≠ []->(∀p,p∈ks-> ∀a,(steps p a).length=size p)-> ∀a e,(alts ks a e).length=sizes ks+2*(ks.length-1)
 | [],h0,_,a,e=>absurd rfl h0
 | [p],_,h,a,e=>by
  rw[LD,h p (by simp)];simp[sizes]
 |p::q::l,_,h,a,e=>by
  rw[LF,List.length_cons,List.length_append,List.length_cons,h p (by simp),Wp (by simp) (fun r hr=>h r (by simp at hr;simp[hr]))]
  rw[show sizes (p::q::l)=size p+sizes (q::l) by simp only[sizes]]
  simp only[List.length_cons]
  omega
theorem Gp {k:Int} (hk:1<=k/\k<=6) (t:ByteArray) (a:Nat):steps (leaf k t) a=if k=1 then[]else[one (k-1) (if k=2\/k=4 then t else no) a]:=by
 unfold leaf steps
 have:k=1\/k=2\/k=3\/k=4\/k=5\/k=6:=by omega
 rcases this with rfl|rfl|rfl|rfl|rfl|rfl<;>rfl
theorem MR (t:ByteArray) (ks:List Piece) (m tp:Int) (a:Nat):steps (.mk 7 t ks m tp) a=Dw ks a:=by
 unfold steps;rfl
theorem MS (t:ByteArray) (ks:List Piece) (m tp:Int) (a:Nat):steps (.mk 8 t ks m tp) a=alts ks a (a+size (.mk 8 t ks m tp)):=by
 unfold steps;rfl
theorem MU (t:ByteArray) (p:Piece) (m tp:Int) (a:Nat):steps (.mk 9 t [p] m tp) a=LC (steps p) m tp (a+size (.mk 9 t [p] m tp)) a:=by
 unfold steps;rfl
theorem h_ {f:Nat->List AL} {n:Nat} (hf: ∀a,(f a).length=n) (m t:Int) (e a:Nat):(LC f m t e a).length=if t= -1 then m.toNat*n+n+2 else m.toNat*n+(t-m).toNat*(n+1):=by
 unfold LC
 rw[List.length_append,Cv hf]
 by_cases c:t= -1
 ·rw[if_pos c,if_pos c,g_ hf];omega
 rw[if_neg c,if_neg c,Gi hf]
theorem Ba {p:Piece} (h:Good p):size p<=4000-> ∀a,(steps p a).length=size p:=by
 induction h with
 |leaf k t h=>
  intro _ a
  rw[Gp h,VA h]
  split<;>rfl
 |many k hk ks h2 hw ih=>
  intro hs a
  rcases hk with rfl|rfl
  ·rw[QR]at hs ⊢
   have hall: ∀p,p∈ks-> ∀a,(steps p a).length=size p:=fun p hp=>ih p hp (by have:=EP hp;omega)
   rw[MR,QT hall];omega
  rw[MS]
  rw[QS]at hs ⊢
  have hall: ∀p,p∈ks-> ∀a,(steps p a).length=size p:=fun p hp=>ih p hp (by have:=EP hp;omega)
  rw[Wp (by intro q;subst q;simp at h2) hall];omega
 |rep p m t hm ht hw ih=>
  intro hs a
  rw[MU]
  by_cases hu:0<m\/t= -1\/m<t
  ·have hf:=ih (MQ hs hu hm.1)
   rw[h_ hf,II]
   rw[II]at hs
   omega
  have hm0:m=0:=by omega
  have ht0:t=0:=by omega
  subst hm0 ht0
  rw[II]
  unfold LC
  simp[times,maybe]
/-! steps elsewhere -/
def shift (d:Nat) (x:AL):AL:=⟨x.kind,x.text,x.x+d,if x.kind=6 then x.y+d else x.y⟩
theorem Ib (k:Int) (t:ByteArray) (a d:Nat) (hk:k≠6):shift d (one k t a)=one k t (a+d):=by
 unfold shift one
 rw[if_neg (show¬(AL.mk k t ((a+1:Nat):Int) 0).kind=6 from hk)]
 simp only[AL.mk.injEq,true_and,and_true]
 omega
theorem Jp (x y d:Nat):shift d (split x y)=split (x+d) (y+d):=by
 unfold shift split
 rw[if_pos rfl]
 simp only[AL.mk.injEq,true_and]
 omega
theorem QU (x d:Nat):shift d (jump x)=jump (x+d):=by
 unfold shift jump
 rw[if_neg (show¬(8:Int)=6 by decide)]
 simp only[AL.mk.injEq,true_and,and_true]
 omega
theorem Oh {f:Nat->List AL} (d:Nat) (hf: ∀a,f (a+d)=(f a).map (shift d)): ∀(m a:Nat),times f m (a+d)=(times f m a).map (shift d)
 |0,a=>rfl
 |m+1,a=>by
  rw[times,times,List.map_append,hf,List.length_map,<-Oh d hf m,show a+d+(f a).length=a+(f a).length+d by omega]
theorem Oi {f:Nat->List AL} (d:Nat) (hf: ∀a,f (a+d)=(f a).map (shift d)) (e:Nat): ∀(m a:Nat),maybe f (e+d) m (a+d)=(maybe f e m a).map (shift d)
 |0,a=>rfl
 |m+1,a=>by
  rw[maybe,maybe,List.map_cons,List.map_append,Jp,show a+d+1=a+1+d by omega,hf,List.length_map,<-Oi d hf e m,show a+1+d+(f (a+1)).length=a+1+(f (a+1)).length+d by omega]
theorem Yt {f:Nat->List AL} (d:Nat) (hf: ∀a,f (a+d)=(f a).map (shift d)) (e a:Nat):star f (e+d) (a+d)=(star f e a).map (shift d):=by
 rw[star,star,List.map_cons,List.map_append,Jp,show a+d+1=a+1+d by omega,hf,List.map_cons,List.map_nil,QU]
theorem Yu {f:Nat->List AL} (d:Nat) (hf: ∀a,f (a+d)=(f a).map (shift d)) (m t:Int) (e a:Nat):LC f m t (e+d) (a+d)=(LC f m t e a).map (shift d):=by
 unfold LC
 rw[List.map_append,Oh d hf,List.length_map,show a+d+(times f m.toNat a).length=a+(times f m.toNat a).length+d by omega]
 by_cases c:t= -1
 ·rw[if_pos c,if_pos c,Yt d hf]
 rw[if_neg c,if_neg c,Oi d hf]
theorem QV (d:Nat): ∀ {ks:List Piece},(∀p,p∈ks-> ∀a,steps p (a+d)=(steps p a).map (shift d))-> ∀a,Dw ks (a+d)=(Dw ks a).map (shift d)
 | [],_,a=>by simp[Dw]
 |p::l,h,a=>by
  rw[Dw,Dw,List.map_append,h p (by simp),show a+d+size p=a+size p+d by omega,QV d (fun q hq=>h q (by simp[hq]))]
theorem QW (d:Nat): ∀ {ks:List Piece},(∀p,p∈ks-> ∀a,steps p (a+d)=(steps p a).map (shift d))-> ∀a e,alts ks (a+d) (e+d)=(alts ks a e).map (shift d)
 | [],_,a,e=>by simp[alts]
 | [p],h,a,e=>by
  rw[LD,LD,h p (by simp)]
 |p::q::l,h,a,e=>by
  rw[LF,LF,List.map_cons,List.map_append,List.map_cons,Jp,QU,show a+d+1=a+1+d by omega,h p (by simp),show a+d+size p+2=a+size p+2+d by omega,QW d (fun r hr=>h r (by simp at hr;simp[hr]))]
theorem Wq (d:Nat) (p:Piece): ∀a,steps p (a+d)=(steps p a).map (shift d):=by
 induction p using ind with
 |h k t ks m tp ih=>
  intro a
  unfold steps
  by_cases h2:k=2
  ·rw[if_pos h2,if_pos h2,List.map_cons,Ib _ _ _ _ (by decide)];rfl
  rw[if_neg h2,if_neg h2]
  by_cases h3:k=3
  ·rw[if_pos h3,if_pos h3,List.map_cons,Ib _ _ _ _ (by decide)];rfl
  rw[if_neg h3,if_neg h3]
  by_cases h4:k=4
  ·rw[if_pos h4,if_pos h4,List.map_cons,Ib _ _ _ _ (by decide)];rfl
  rw[if_neg h4,if_neg h4]
  by_cases h5:k=5
  ·rw[if_pos h5,if_pos h5,List.map_cons,Ib _ _ _ _ (by decide)];rfl
  rw[if_neg h5,if_neg h5]
  by_cases h6:k=6
  ·rw[if_pos h6,if_pos h6,List.map_cons,Ib _ _ _ _ (by decide)];rfl
  rw[if_neg h6,if_neg h6]
  by_cases h7:k=7
  ·rw[if_pos h7,if_pos h7,QV d ih]
  rw[if_neg h7,if_neg h7]
  by_cases h8:k=8
  ·rw[if_pos h8,if_pos h8,show a+d+size (.mk k t ks m tp)=a+size (.mk k t ks m tp)+d by omega,QW d ih]
  rw[if_neg h8,if_neg h8]
  by_cases h9:k=9
  ·rw[if_pos h9,if_pos h9,show a+d+size (.mk k t ks m tp)=a+size (.mk k t ks m tp)+d by omega,Yu d (fun b=> ?_)]
   match ks,ih with
   | [],_=>rfl
   |p::l,ih=>exact ih p (by simp) b
  rw[if_neg h9,if_neg h9]
  rfl
end Bv
namespace Al
open Strs (block_add D6)
def Al {α:Type} (enc:α->List Value) (sz:Nat) (B:Nat) (w:World) (v:Value) (L:List α):Prop:=
 ∃(A:Option Addr) (c:Nat),v= .slice A L.length c/\L.length<=c/\c<=maxLen/\
  (0<L.length-> ∃ad,A=some ad/\ad.block<B/\ ∀k (h:k<L.length) j,j<sz->w.cell? (ad.add (k*sz+j))=(enc L[k])[j]?)
section
variable {α:Type} {enc:α->List Value} {sz B B':Nat} {w w':World} {v:Value} {L:List α}
theorem Al.keep (h:Al enc sz B w v L) (hk: ∀p:Addr,p.block<B->w'.cell? p=w.cell? p):Al enc sz B w' v L:=by
 obtain⟨A,c,e,h1,h2,h3⟩:=h
 exact⟨A,c,e,h1,h2,fun hn=>by
  obtain⟨ad,e2,hb,hc⟩:=h3 hn
  exact⟨ad,e2,hb,fun k hk2 j hj=>(hk _ (by rw[block_add];exact hb)).trans (hc k hk2 j hj)⟩⟩
theorem Al.more (h:Al enc sz B w v L) (hB:B<=B'):Al enc sz B' w v L:=by
 obtain⟨A,c,e,h1,h2,h3⟩:=h
 exact⟨A,c,e,h1,h2,fun hn=>by
  obtain⟨ad,e2,hb,hc⟩:=h3 hn
  exact⟨ad,e2,by omega,hc⟩⟩
theorem Al.below (h:Al enc sz B w v L) (hb:Below B w w'):Al enc sz B w' v L:=h.keep fun _ hp=>hb.cell hp
theorem Al.alloc (h:Al enc sz B w v L) (hB:B<=w.heap.size) (o:Obj):Al enc sz B (w.alloc o) v L:=h.keep fun p hp=>World.cell?_alloc_lt w o p (by omega)
theorem Al.drewN (h:Al enc sz B w v L) (k:Nat):Al enc sz B (w.drewN k) v L:=h
theorem Al.form (h:Al enc sz B w v L): ∃A c,v= .slice A L.length c/\L.length<=c/\c<=maxLen:=by
 obtain⟨A,c,e,h1,h2,h3⟩:=h
 exact⟨A,c,e,h1,h2⟩
theorem Al.at_ {A:Option Addr} {n c:Nat} (h:Al enc sz B w (.slice A n c) L) {k:Nat} (hk:k<n): ∃(ad:Addr) (hl:k<L.length),A=some ad/\ad.block<B/\ ∀j,j<sz->w.cell? (ad.add (k*sz+j))=(enc L[k])[j]? :=by
 obtain⟨A',c',e,h1,h2,h3⟩:=h
 injection e with e1 e2 e3
 subst e1 e2 e3
 obtain⟨ad,e2,hb,hc⟩:=h3 (by omega)
 exact⟨ad,hk,e2,hb,hc k hk⟩
theorem Al.Gq {A:Option Addr} {n c:Nat} (h:Al enc sz B w (.slice A n c) L) (he: ∀x:α,(enc x).length=sz) (h0:0<sz) {k:Nat} (hk:k<n): ∃(b o:Nat) (hl:k<L.length),A=some ⟨b,o,none⟩/\b<B/\ ∀j,j<sz->w.cell? ⟨b,o+k*sz+j,none⟩=(enc L[k])[j]? :=by
 obtain⟨ad,hl,rfl,hb,hc⟩:=h.at_ hk
 obtain⟨b,o,sp⟩:=ad
 have hsp:sp=none:=by
  obtain⟨ad2,hl2,e2,-,hc2⟩:=h.at_ (k:=0) (by omega)
  cases e2
  have:=hc2 0 h0
  rw[List.getElem?_eq_getElem (by rw[he];exact h0)]at this
  simpa [Addr.add]using World.cell?_spot this
 subst hsp
 refine⟨b,o,hl,rfl,hb,fun j hj=> ?_⟩
 have:=hc j hj
 rw[show(⟨b,o,none⟩:Addr).add (k*sz+j)=⟨b,o+k*sz+j,none⟩ by unfold Addr.add;split<;>simp_all<;>omega]at this
 exact this
theorem QX (enc:α->List Value) (sz B:Nat) (w:World):Al enc sz B w (.slice none 0 0) []:=⟨none,0,rfl,Nat.le_refl _,Nat.zero_le _,fun h=>absurd h (by simp)⟩
theorem GZ (he: ∀x:α,(enc x).length=sz): ∀(L:List α) (k:Nat) (h:k<L.length) (j:Nat),j<sz->(L.flatMap enc)[k*sz+j]? =(enc L[k])[j]?
 | [],k,h,_,_=>by simp at h
 |x::L,0,h,j,hj=>by
  rw[List.flatMap_cons,Nat.zero_mul,Nat.zero_add,List.getElem?_append_left (by rw[he];exact hj)];rfl
 |x::L,k+1,h,j,hj=>by
  rw[List.flatMap_cons,List.getElem?_append_right (by rw[he,Nat.succ_mul];omega),he]
  have:=GZ he L k (by simpa using h) j hj
  rw[show(k+1)*sz+j-sz=k*sz+j by rw[Nat.succ_mul];omega,this];rfl
theorem MV (he: ∀x:α,(enc x).length=sz) (L:List α):(L.flatMap enc).length=L.length*sz:=by
 induction L with
 |nil=>simp
 |cons x L ih=>rw[List.flatMap_cons,List.length_append,ih,he,List.length_cons,Nat.succ_mul];omega
theorem Al.Bw (he: ∀x:α,(enc x).length=sz) {base:Nat} {e:TypeId} {n:Nat} (hn:n=L.length) (h:w.ownsRow base e sz v n (L.flatMap enc)):Al enc sz w.heap.size w v L:=by
 subst hn
 rcases h.2 with⟨rfl,h0⟩|⟨g,cap,cur,rfl,hg,hh,hn,hcap,hsz,htk⟩
 ·have:L= []:=List.length_eq_zero_iff.1 h0
  subst this
  exact QX _ _ _ _
 refine⟨_,_,rfl,by omega,by omega,fun hn0=>⟨_,rfl,?_,fun k hk j hj=> ?_⟩⟩
 ·rcases Nat.lt_or_ge g w.heap.size with hlt|hge
  ·exact hlt
  rw[Array.getElem?_eq_none hge]at hh;cases hh
 have hf:=GZ he L k hk j hj
 have hlt:j<(enc L[k]).length:=by rw[he];exact hj
 rw[List.getElem?_eq_getElem hlt]at hf ⊢
 have:=h.cells (g:=g) rfl (k*sz+j) ((enc L[k])[j]) hf
 exact this
theorem Al.news {A:Option Addr} {n c:Nat} (h:Al enc sz B w (.slice A n c) L) (he: ∀x:α,(enc x).length=sz) (h0:0<sz) (hn:0<n): ∃b o:Nat,A=some ⟨b,o,none⟩/\b<B/\ ∀j u,(L.flatMap enc)[j]? =some u->w.cell? ((⟨b,o,none⟩:Addr).add j)=some u:=by
 obtain⟨b,o,hl0,rfl,hb,-⟩:=h.Gq he h0 hn
 have hln:n=L.length:=by obtain⟨A',c',e,_⟩:=h;injection e
 refine⟨b,o,rfl,hb,fun j u hj=> ?_⟩
 have hjl:j<L.length*sz:=by
  rw[<-MV he L]
  rcases Nat.lt_or_ge j (L.flatMap enc).length with hlt|hge
  ·exact hlt
  rw[List.getElem?_eq_none hge]at hj;cases hj
 have hk:j/sz<n:=by rw[hln];exact(Nat.div_lt_iff_lt_mul h0).2 hjl
 obtain⟨b',o',hl,e,-,hc⟩:=h.Gq he h0 hk
 cases e
 have hi:j%sz<sz:=Nat.mod_lt _ h0
 have h1:=hc (j%sz) hi
 have h2:=GZ he L (j/sz) hl (j%sz) hi
 have e2:j/sz*sz+j%sz=j:=by rw[Nat.mul_comm];exact Nat.div_add_mod j sz
 rw[e2,hj]at h2
 rw[show(⟨b,o,none⟩:Addr).add j=⟨b,o+j/sz*sz+j%sz,none⟩ by unfold Addr.add;split<;>simp_all<;>omega]
 rw[h1,<-h2]
end
theorem Ic (w:World) (cs:List Value) (t:TypeId): ∀j u,cs[j]? =some u->(w.alloc (.cells cs.toArray t)).cell? ((⟨w.heap.size,0,none⟩:Addr).add j)=some u:=by
 intro j u hj
 have hadd:(⟨w.heap.size,0,none⟩:Addr).add j=⟨w.heap.size,j,none⟩:=by unfold Addr.add;split<;>simp_all
 rw[hadd]
 simp[hj]
end Al
namespace Al
open Strs (block_add D6)
section
variable {α:Type} {enc:α->List Value} {sz:Nat} {B:Nat} {w:World} {A:Option Addr} {n c:Nat} {L:List α}
theorem Al.count (h:Al enc sz B w (.slice A n c) L):n=L.length/\n<=c/\c<=maxLen:=by
 obtain⟨A',c',e,h1,h2,h3⟩:=h
 injection e with e1 e2 e3
 subst e1 e2 e3
 exact⟨rfl,h1,h2⟩
theorem Al.take (h:Al enc sz B w (.slice A n c) L) {k:Nat} (hk:k<=n):Al enc sz B w (.slice A k c) (L.take k):=by
 obtain⟨hn,hc1,hc2⟩:=h.count
 subst hn
 obtain⟨A0,c0,e,h1,h2,h3⟩:=h
 cases e
 have hl:(L.take k).length=k:=by rw[List.length_take];omega
 refine⟨A,c,by rw[hl],by omega,hc2,fun h0=> ?_⟩
 obtain⟨ad,rfl,hb,hc⟩:=h3 (by omega)
 refine⟨ad,rfl,hb,fun i hi j hj=> ?_⟩
 rw[hc i (by omega) j hj,List.getElem_take]
theorem Al.drop (h:Al enc sz B w (.slice A n c) L) (he: ∀x:α,(enc x).length=sz) (h0:0<sz) {k:Nat} (hk:k<=n):Al enc sz B w (.slice (A.map fun x=>x.add (k*sz)) (n-k) (c-k)) (L.drop k):=by
 obtain⟨hn,hc1,hc2⟩:=h.count
 have hfl:0<n-> ∃b o,A=some ⟨b,o,none⟩:=fun hp=>by
  obtain⟨b,o,_,e,_⟩:=h.Gq he h0 hp
  exact⟨b,o,e⟩
 subst hn
 obtain⟨A0,c0,e,h1,h2,h3⟩:=h
 cases e
 refine⟨_,c-k,by rw[List.length_drop],by rw[List.length_drop];omega,by omega,fun hp=> ?_⟩
 rw[List.length_drop]at hp
 obtain⟨b,o,rfl⟩:=hfl (by omega)
 obtain⟨ad,e,hb,hc⟩:=h3 (by omega)
 cases e
 refine⟨_,rfl,by rw[block_add];exact hb,fun i hi j hj=> ?_⟩
 rw[List.length_drop]at hi
 have:=hc (k+i) (by omega) j hj
 rw[Addr.add_lit]at this
 show w.cell? (((⟨b,o,none⟩:Addr).add (k*sz)).add (i*sz+j))=_
 rw[Addr.add_lit,Addr.add_lit,show o+k*sz+(i*sz+j)=o+((k+i)*sz+j) by rw[Nat.add_mul];omega,this]
 congr 2
 simp
end
end Al
namespace Al
theorem Jc {P:Program} {w:World} (base:Nat) (t ty e:TypeId) (i:TypeInfo) (size:Nat) (ht:P.underlying t=some (.slice e)) (hi:P.info? e=some i)
    (v:Value) (n c:Nat) (xs:List Value) (hown:w.ownsRow base e size v n xs):
    (Builtin.append_ #[t,t] ty #[v,.slice none 0 c]).run P w= .ok v w:=by
 rcases hown.2 with⟨rfl,rfl⟩|⟨g,cap,cur,rfl,_,_,hnc,_⟩
 ·simp[Builtin.append_,run_underlying ht,sizeOf,typeInfo,hi,Builtin.lenOf,Builtin.firstCells]
 simp[Builtin.append_,run_underlying ht,sizeOf,typeInfo,hi,Builtin.lenOf,Builtin.firstCells,hnc,storeCells]
theorem Jq {P:Program} (w:World) (base:Nat) (t ty e:TypeId) (i:TypeInfo) (z:Value) (size bytes:Nat) (ht:P.underlying t=some (.slice e)) (hi:P.info? e=some i) (hz:i.zero=some z)
    (hsize:i.size=size) (hby:i.bytes=bytes) (hzs:z.cells.size=size) (hsz:0<size)
    (v:Value) (n:Nat) (xs:List Value) (hown:w.ownsRow base e size v n xs)
    (a:Addr) (m c:Nat) (news:List Value) (hl:news.length=m*size) (hnews: ∀j u,news[j]? =some u->w.cell? (a.add j)=some u) (h1: ∀u∈news,u.oneCell'=true)
    (h63:n+m<=maxLen) (hbytes:(n+m)*bytes<=140737488355328) {v':Value} {w':World} (hr:(Builtin.append_ #[t,t] ty #[v,.slice (some a) m c]).run P w= .ok v' w'):
    ∀k,v'.ownBlock=some k->v.ownBlock=some k\/w.heap.size<=k:=by
 subst hsize
 subst hby
 have hsmall:n+m<=9223372036854775807:=by simp only[maxLen]at h63;omega
 intro k hk
 rcases hown.2 with⟨rfl,rfl⟩|⟨g,cap,cur,rfl,hbg,hg,hnc,hcm,hcs,htake⟩
 ·obtain⟨v2,w2,hr2,ho2,-,-⟩:=run_append_own w w.heap.size t ty e i z i.size i.bytes ht hi hz rfl rfl hzs hsz (.slice none 0 0) 0 xs (by have hx:xs= []:=List.eq_nil_of_length_eq_zero (by simpa using hown.1);rw[hx];exact World.ownsRow_nil _ _ _ _) a m c news hl hnews h1 h63 hbytes (Nat.le_refl _)
  rw[hr]at hr2
  cases hr2
  exact Or.inr (ho2.lt k hk).1
 by_cases hroom:n+m<=cap
 ·have hfit:n*i.size+news.length<=cur.size:=by rw[hl,hcs,<-Nat.add_mul];exact Nat.mul_le_mul_right _ hroom
  rw[run_append_room w t ty e i ht hi g n cap cur hg a m c news hl hnews h1 hroom hfit]at hr
  cases hr
  exact Or.inl hk
 have holds: ∀j u,xs[j]? =some u->w.cell? ((⟨g,0,none⟩:Addr).add j)=some u:=hown.cells (g:=g) rfl
 rw[run_append_grow w t ty e i z ht hi hz ⟨g,0,none⟩ n cap xs hown.1 holds a m c news hl hnews (by omega) (by omega) (growslice_fits (by omega) hbytes)]at hr
 cases hr
 simp[Value.ownBlock]at hk
 exact Or.inr (by omega)
theorem QY {α:Type} {enc:α->List Value} {P:Program} {w:World} {o:Oper} {a:Act} {K:Act->World->Prop} {Q:Exit->Act->World->Prop} (s x:Operand) (t:TypeId)
    (ho:o.op= .call {callee:= .builtin .append,args:= #[s,x],argTypes:= #[t,t]})
    (base:Nat) (e:TypeId) (i:TypeInfo) (z:Value) (size bytes:Nat) (ht:P.underlying t=some (.slice e)) (hi:P.info? e=some i) (hz:i.zero=some z)
    (hsize:i.size=size) (hby:i.bytes=bytes) (hzs:z.cells.size=size) (hsz:0<size)
    (v:Value) (n:Nat) (xs:List Value) (hs:a.eval s=v) (hown:w.ownsRow base e size v n xs)
    (u:Value) (L:List α) (B:Nat) (hx:a.eval x=u) (hu:Al enc size B w u L) (he: ∀r:α,(enc r).length=size) (h1: ∀r:α,∀c∈enc r,c.oneCell'=true)
    (h63:n+L.length<=maxLen) (hbytes:(n+L.length)*bytes<=140737488355328) (hbase:base<=w.heap.size)
    (h: ∀v' w',w'.ownsRow base e size v' (n+L.length) (xs++L.flatMap enc)->w.grownBy w' v.ownBlock->(∀k,v'.ownBlock=some k->v.ownBlock=some k\/w.heap.size<=k)->K (a.put o.dst v') w'):o.wp P a w K Q:=by
 obtain⟨A,c,rfl,hc1,hc2⟩:=hu.form
 have hfl:(L.flatMap enc).length=L.length*size:=MV he L
 have hone: ∀u∈L.flatMap enc,u.oneCell'=true:=fun q hq=>by
  obtain⟨r,_,hr⟩:=List.mem_flatMap.1 hq
  exact h1 r q hr
 cases A with
 |none=>
  have h0:L.length=0:=by
   rcases Nat.eq_zero_or_pos L.length with q|q
   ·exact q
   obtain⟨b,o,hf,_⟩:=hu.news he hsz q
   cases hf
  have hL:L= []:=List.length_eq_zero_iff.1 h0
  subst hL
  have hrun:=Jc (P:=P) (w:=w) base t o.type e i size ht hi v n c xs hown
  have hx':a.eval x= .slice none 0 c:=hx
  unfold Oper.wp
  simp[execOp,ho,resolve,invoke,builtin,hs,hx',hrun,Result.andThen]
  exact h v w (by simpa using hown) ⟨rfl,rfl,rfl,Nat.le_refl _,fun _ _ _=>rfl⟩ (fun k hk=>Or.inl hk)
 |some ad=>
  have hnews: ∀j q,(L.flatMap enc)[j]? =some q->w.cell? (ad.add j)=some q:=by
   intro j q hq
   rcases Nat.eq_zero_or_pos L.length with h0|h0
   ·have:L= []:=List.length_eq_zero_iff.1 h0
    subst this
    simp at hq
   obtain⟨b,o,hf,_,hcell⟩:=hu.news he hsz h0
   cases hf
   exact hcell j q hq
  obtain⟨v',w',hr,h2,h3,-⟩:=run_append_own (P:=P) w base t o.type e i z size bytes ht hi hz hsize hby hzs hsz v n xs hown ad L.length c (L.flatMap enc) hfl hnews hone h63 hbytes hbase
  have h4:=Jq w base t o.type e i z size bytes ht hi hz hsize hby hzs hsz v n xs hown ad L.length c (L.flatMap enc) hfl hnews hone h63 hbytes hr
  have hx':a.eval x= .slice (some ad) L.length c:=hx
  unfold Oper.wp execOp
  simp only[ho,resolve,invoke,builtin,Sem.run_bind,Sem.run_pure,Result.andThen_ok,List.map_toArray,List.map_cons,List.map_nil,hs,hx',hr]
  exact h v' w' h2 h3 h4
theorem LG {α:Type} {enc:α->List Value} {P:Program} {w:World} {ops:Array Oper} {rest:List Oper} {o:Oper} {a:Act} {Q:Exit->Act->World->Prop} (hgd:o.guard=none) (s x:Operand) (t:TypeId)
    (ho:o.op= .call {callee:= .builtin .append,args:= #[s,x],argTypes:= #[t,t]})
    (base:Nat) (e:TypeId) (i:TypeInfo) (z:Value) (size bytes:Nat) (ht:P.underlying t=some (.slice e)) (hi:P.info? e=some i) (hz:i.zero=some z)
    (hsize:i.size=size) (hby:i.bytes=bytes) (hzs:z.cells.size=size) (hsz:0<size)
    (v:Value) (n:Nat) (xs:List Value) (hs:a.eval s=v) (hown:w.ownsRow base e size v n xs)
    (u:Value) (L:List α) (B:Nat) (hx:a.eval x=u) (hu:Al enc size B w u L) (he: ∀r:α,(enc r).length=size) (h1: ∀r:α,∀c∈enc r,c.oneCell'=true)
    (h63:n+L.length<=maxLen) (hbytes:(n+L.length)*bytes<=140737488355328) (hbase:base<=w.heap.size)
    (h: ∀v' w',w'.ownsRow base e size v' (n+L.length) (xs++L.flatMap enc)->w.grownBy w' v.ownBlock->(∀k,v'.ownBlock=some k->v.ownBlock=some k\/w.heap.size<=k)->wpList P ops Q rest (a.put o.dst v') w'):wpList P ops Q (o::rest) a w:=
 wpList_plain hgd fun _ hK=>QY s x t ho base e i z size bytes ht hi hz hsize hby hzs hsz v n xs hs hown u L B hx hu he h1 h63 hbytes hbase fun v' w' h2 h3 h4=>hK _ _ (h v' w' h2 h3 h4)
end Al
namespace BU
def BZ (g:Nat->Value):Array Value:=((List.range 256).map g).toArray
theorem Gj (g:Nat->Value):(BZ g).size=256:=by unfold BZ;rw[List.size_toArray,List.length_map,List.length_range]
theorem QZ (g:Nat->Value) {i:Nat} (h:i<256):(BZ g)[i]? =some (g i):=by
 unfold BZ
 rw[List.getElem?_toArray,List.getElem?_map,List.getElem?_range h];rfl
theorem Ex {g h:Nat->Value} (e: ∀i,i<256->g i=h i):BZ g=BZ h:=by
 unfold BZ
 congr 1
 exact List.map_congr_left fun i hi=>e i (List.mem_range.1 hi)
theorem Qa {a:Array Value} {g:Nat->Value} (hs:a.size=256) (h: ∀i,i<256->a[i]? =some (g i)):a=BZ g:=by
 apply Array.ext_getElem?
 intro i
 by_cases hi:i<256
 ·rw[h i hi,QZ g hi]
 rw[Array.getElem?_eq_none (by omega),Array.getElem?_eq_none (by rw[Gj];omega)]
theorem iA (g:Nat->Value) {i:Nat} (v:Value):(BZ g).setIfInBounds i v=BZ (fun j=>if j=i then v else g j):=by
 refine Qa (by rw[Array.size_setIfInBounds,Gj]) fun j hj=> ?_
 rw[Array.getElem?_setIfInBounds,Gj,QZ g hj]
 by_cases e:i=j
 ·subst e;rw[if_pos rfl,if_pos hj,if_pos rfl]
 rw[if_neg e,if_neg (fun q=>e q.symm)]
theorem Tw (v:Value):Array.replicate 256 v=BZ (fun _=>v):=by
 refine Qa (by rw[Array.size_replicate]) fun j hj=> ?_
 rw[Array.getElem?_replicate,if_pos hj]
theorem iB {g:Nat->Value} (h: ∀i,(g i).oneCell'=true):(BZ g).all (·.oneCell')=true:=by
 unfold BZ
 rw[Array.all_eq_true_iff_forall_mem]
 intro v hv
 obtain⟨i,_,rfl⟩:=List.mem_map.1 (List.mem_toArray.1 hv)
 exact h i
def Row (w:World) (b:Nat) (t:TypeId) (g:Nat->Value):Prop:=w.heap[b]? =some (.cells (BZ g) t (0,0))
theorem Row.new (w:World) (t:TypeId) (g:Nat->Value):Row (w.alloc (.cells (BZ g) t)) w.heap.size t g:=heap_alloc_new w _
theorem Row.lt {w:World} {b:Nat} {t:TypeId} {g:Nat->Value} (h:Row w b t g):b<w.heap.size:=(Array.getElem?_eq_some_iff.1 h).1
theorem Row.alloc {w:World} {b:Nat} {t:TypeId} {g:Nat->Value} (h:Row w b t g) (o:Obj):Row (w.alloc o) b t g:=(Below.heap_alloc w o b h.lt).trans h
theorem Row.cell {w:World} {b:Nat} {t:TypeId} {g:Nat->Value} (h:Row w b t g) {i:Nat} (hi:i<256):w.cell? ⟨b,i,none⟩=some (g i):=by
 rw[cell_of_row w b i _ t _ h,QZ g hi]
theorem Row.free {w:World} {b:Nat} {t:TypeId} {g:Nat->Value} (h:Row w b t g) (i:Nat):w.frozen? ⟨b,i,none⟩=false:=frozen_of_row w b i _ t h
theorem Row.put {w:World} {b:Nat} {t:TypeId} {g:Nat->Value} (h:Row w b t g) (i:Nat) (v:Value):Row (w.setCell ⟨b,i,none⟩ v) b t (fun j=>if j=i then v else g j):=by
 unfold Row
 rw[heap_setCell_same w b i _ t v h,iA]
theorem Row.other {w:World} {b:Nat} {t:TypeId} {g:Nat->Value} (h:Row w b t g) {a:Addr} (ha:b≠a.block) (v:Value):Row (w.setCell a v) b t g:=(heap_setCell_other w a b v ha).trans h
theorem Row.on {w w':World} {b B:Nat} {t:TypeId} {g:Nat->Value} (h:Row w b t g) (k:Below B w w') (hb:b<B):Row w' b t g:=(k.block b hb).trans h
theorem Row.is {w:World} {b:Nat} {t:TypeId} {g k:Nat->Value} (h:Row w b t g) (e: ∀i,i<256->g i=k i):Row w b t k:=by
 unfold Row at *;rw[h,Ex e]
theorem Row.set {w:World} {b:Nat} {t:TypeId} {g:Nat->Value} (h:Row w b t g) (k:Nat->Value):Row (w.setRow b (BZ k)) b t k:=setRow_heap w b _ _ t _ h
structure Beside (b:Nat) (w w':World):Prop where
 os:w'.os=w.os
 tape:w'.tape=w.tape
 output:w'.output=w.output
 size:w.heap.size<=w'.heap.size
 block: ∀k,k<w.heap.size->k≠b->w'.heap[k]? =w.heap[k]?
theorem Beside.refl (b:Nat) (w:World):Beside b w w:=⟨rfl,rfl,rfl,Nat.le_refl _,fun _ _ _=>rfl⟩
theorem Beside.trans {b:Nat} {u v w:World} (h:Beside b u v) (k:Beside b v w):Beside b u w:=
 ⟨k.os.trans h.os,k.tape.trans h.tape,k.output.trans h.output,Nat.le_trans h.size k.size,fun i hi e=>(k.block i (Nat.lt_of_lt_of_le hi h.size) e).trans (h.block i hi e)⟩
theorem Beside.of {b:Nat} {w w':World} (h:Below w.heap.size w w'):Beside b w w':=⟨h.os,h.tape,h.output,h.size,fun k hk _=>h.block k hk⟩
theorem Beside.put {b:Nat} {u w:World} (h:Beside b u w) (i:Nat) (v:Value):Beside b u (w.setCell ⟨b,i,none⟩ v):=
 h.trans ⟨rfl,rfl,rfl,by rw[World.size_setCell];exact Nat.le_refl _,fun k _ e=>heap_setCell_other w _ k v e⟩
theorem Beside.below {b B:Nat} {w w':World} (h:Beside b w w') (hB:B<=w.heap.size) (hb:B<=b):Below B w w':=⟨h.os,h.tape,h.output,h.size,fun k hk=>h.block k (by omega) (by omega)⟩
theorem Row.beside {w w':World} {b c:Nat} {t:TypeId} {g:Nat->Value} (h:Row w b t g) (k:Beside c w w') (hb:b≠c):Row w' b t g:=(k.block b h.lt hb).trans h
end BU
end Go.Proofs.YtfgegjinhkgpbaaGreatDoor
