/-
  Texts joined, in build order, each with its own comment and its own conditions: OpenStrs, W17Check, W17Light, W17Found, W17RefHas, W17RefHasW, W17LawH.
-/
import Derived.Test.YtfgegjinhkgpbaaGreatDoorJ02
import Derived.ProofKit
import Derived.SliceStrings
import Derived.SizedLaws
import Derived.Test.YtfgegjinhkgpbaaGreatDoorJ27
import Derived.Test.YtfgegjinhkgpbaaGreatDoorJ19
import Derived.Test.YtfgegjinhkgpbaaGreatDoorJ01
import Derived.Test.YtfgegjinhkgpbaaGreatDoorTake
import Derived.Test.YtfgegjinhkgpbaaGreatDoorJ30
import Derived.Test.YtfgegjinhkgpbaaGreatDoorJ31
namespace Go.Proofs.YtfgegjinhkgpbaaGreatDoor
set_option maxHeartbeats 4000000
set_option maxRecDepth 100000
open Go.RowKit
open Lib (hid)
namespace Strs
open Go.ChangeShapes Go.WideShapes
theorem aH {H:Type} {enc:TypeId×Value->H} {P:Program} {W:World} {base:Nat} {t e:TypeId} {v:Value} {d:DataW H} {p:List MemPlace}
    (ht:P.underlying t=some (.slice e)) (he:P.underlying e=some .string) (hc:P.cellsOf e=1) (hok:Value.okWide P W .any base t v)
    (h:DataW.Trod enc P W 0 (fun _=>true) true t v d p) (hlt: ∀x∈p,x.block<W.heap.size):
    ∃L:List (List UInt8),Bc W.heap.size W v L/\ ∀l∈L,l.length<=maxLen:=by
 obtain⟨a0,len,cap,rfl⟩:=okWide_slice ht hok
 obtain⟨fuel,hf⟩:=h
 rcases open_strings ht he hc hf with⟨hcs,hx⟩|⟨a,len',cap',ss,hcs,_,hl,hm,hz,hx,hcell,hws⟩
 ·simp[Value.cells]at hcs
  obtain⟨rfl,rfl,rfl⟩:=hcs
  exact⟨[],KL _ _,fun l hl=>by simp at hl⟩
 simp[Value.cells]at hcs
 obtain⟨rfl,rfl,rfl⟩:=hcs
 simp only[Prod.mk.injEq]at hx
 obtain⟨rfl,rfl⟩:=hx
 simp only[if_true]at hz
 have hlen:((ss.take len).map (·.data.toList)).length=len:=by rw[List.length_map,List.length_take];omega
 refine⟨(ss.take len).map (·.data.toList),⟨some a,cap,by rw[hlen],by rw[hlen];exact hl,hm,fun hn=>⟨a,rfl,?_,fun k hk=> ?_⟩⟩,?_⟩
 ·rw[hlen]at hn
  obtain⟨b,off,spot⟩:=a
  have hspot:spot=none:=by simpa [Addr.add]using World.cell?_spot (hcell 0 (by omega))
  subst hspot
  exact hlt (.cell b off) (MemPlace.mem_row.2 ⟨0,by omega,by simp⟩)
 ·rw[hlen]at hk
  rw[hcell k (by omega)]
  have e1:ss.getD k ByteArray.empty=ss[k]:=by rw[List.getD_eq_getElem?_getD,List.getElem?_eq_getElem (by omega)];rfl
  have e2:((ss.take len).map (·.data.toList)).getD k []=ss[k].data.toList:=by
   rw[List.getD_eq_getElem?_getD,List.getElem?_eq_getElem (by rw[hlen];exact hk)]
   simp
  rw[e1,e2]
  unfold D6
  congr 1
 intro l hl2
 obtain⟨s,hs,rfl⟩:=List.mem_map.1 hl2
 rw[<-Lib.size_eq]
 exact hws s (List.mem_of_mem_take hs)
end Strs
namespace Gg
open Strs Al
open Kt (Bytes)
open Kit (below_draws on AX Au Ae Ay Ci)
section
variable {w:World} {p:ByteArray} {lv:Value} {L:List Bytes}
theorem OL (hp:p.size<=1000) (w:World):Calls Tryz.prog 34 #[.string p] w fun e w'=>e= .returned (.bool (Da p))/\Below w.heap.size w w':=by
 have HS:=hid hp
 have HH:Hid (Da p=p.data.toList.contains 47):=rfl
 clear hp
 go_enter Tryz.func34,Tryz.ntmps34
 go_wp2_with fail
 go_loopg [3] p.size (fun gk s3 wr=> ∃i:Nat,s3= .int .i64 i/\Hid (i+gk=p.size)/\Hid ((p.data.toList.drop i).contains 47=Da p)/\Hid (Below w.heap.size w wr))
 case atStart=>exact⟨0,rfl,by unfold Hid;omega,rfl,Below.refl _ _⟩
 case round=>
  obtain⟨i,rfl,hig,HR,LB⟩:=hrel
  cases gk with
  |zero=>
   have hi2:i=p.size:=by have:=hig.out;omega
   subst hi2
   have ti: ¬(p.size:Int)<(p.size:Int):=by omega
   have HB:Hid (Da p=false):=by unfold Hid;rw[<-HR.out,Ci p p.size (by omega)];rfl
   go_wp2_with fail
   go_ret
   exact⟨AX HB.out.symm,LB.out⟩
  |succ gk=>
   have hi1:i<p.size:=by have:=hig.out;omega
   have ti:(i:Int)<(p.size:Int):=by omega
   have b0:(0:Int)<=(i:Int):=by omega
   have Va:wrap64 ((i:Int)+1)=((i+1:Nat):Int):=by have:=HS.out;unfold wrap64;omega
   have hdn:=Ay p i hi1
   have IY:Hid (i+1+gk=p.size):=by have:=hig.out;unfold Hid;omega
   by_cases hc:p[i]=47
   ·have tc:((p[i].toNat:Int)==47)=true:=by rw[hc];rfl
    have HB:Hid (Da p=true):=by unfold Hid;rw[<-HR.out,hdn,hc];simp
    clear hdn hc
    go_wp2_with fail
    go_ret
    exact⟨AX HB.out.symm,LB.out⟩
   have tc:((p[i].toNat:Int)==47)=false:=by
     have h:=Kit.CG p[i] 47
     rw[decide_eq_false hc]at h
     exact h
   have HR2:Hid ((p.data.toList.drop (i+1)).contains 47=Da p):=by
    unfold Hid
    rw[<-HR.out,hdn,List.contains_cons]
    have:((47:UInt8)==p[i])=false:=by simpa using fun e:(47:UInt8)=p[i]=>hc e.symm
    rw[this,Bool.false_or]
   clear hdn hc
   go_wp2_with fail
   go_roundg gk
   case measure=>omega
   case rel=>exact⟨i+1,congrArg (Value.int .i64) Va,IY,HR2,LB⟩
theorem Lx (b:Bool) (hp:p.size<=800) (w:World):Calls Tryz.prog 32 #[.string p,.bool b] w fun e w'=>e= .returned (.string (asked b p))/\Below w.heap.size w w':=by
 have HL:=hid (OL (p:=p) (by omega))
 have hz1:(⟨#[94,40]⟩++p:ByteArray).size=p.size+2:=by rw[ByteArray.size_append];show 2+p.size=_;omega
 have hz2:(⟨#[40]⟩++p:ByteArray).size=p.size+1:=by rw[ByteArray.size_append];show 1+p.size=_;omega
 have HR1: ∀w:World,(Op.stringOp .add ⟨#[94,40]⟩ p).run Tryz.prog w= .ok (.string (⟨#[94,40]⟩++p)) w:=fun w=>run_string_add_sum w _ _ (by show 2+p.size<=_;omega)
 have HR2: ∀w:World,(Op.stringOp .add (⟨#[94,40]⟩++p) ⟨#[41]⟩).run Tryz.prog w= .ok (.string (⟨#[94,40]⟩++p++⟨#[41]⟩)) w:=fun w=>run_string_add_sum w _ _ (by rw[hz1];show p.size+2+1<=_;omega)
 have HR3: ∀w:World,(Op.stringOp .add ⟨#[40]⟩ p).run Tryz.prog w= .ok (.string (⟨#[40]⟩++p)) w:=fun w=>run_string_add_sum w _ _ (by show 1+p.size<=_;omega)
 have HR4: ∀w:World,(Op.stringOp .add (⟨#[40]⟩++p) ⟨#[41,40,47,124,36,41]⟩).run Tryz.prog w= .ok (.string (⟨#[40]⟩++p++⟨#[41,40,47,124,36,41]⟩)) w:=fun w=>run_string_add_sum w _ _ (by rw[hz2];show p.size+1+6<=_;omega)
 clear hz1 hz2 hp
 unfold asked
 cases b with
 |true=>
  rw[if_pos rfl]
  go_enter Tryz.func32,Tryz.ntmps32
  go_wp2_with fail
  go_ret
  exact⟨rfl,Below.refl _ _⟩
 |false=>
  rw[if_neg (by decide)]
  cases hs:Da p with
  |true=>
   rw[hs]at HL
   rw[if_pos rfl]
   go_enter Tryz.func32,Tryz.ntmps32
   go_wp2_with fail
   refine(HL.out _).mono ?_
   rintro e w1 ⟨rfl,l1⟩
   go_wp2_with fail
   go_ret
   exact⟨rfl,l1⟩
  |false=>
   rw[hs]at HL
   rw[if_neg (by decide)]
   go_enter Tryz.func32,Tryz.ntmps32
   go_wp2_with fail
   refine(HL.out _).mono ?_
   rintro e w1 ⟨rfl,l1⟩
   go_wp2_with fail
   go_ret
   exact⟨rfl,l1⟩
theorem L_ (b:Bool) (hp:p.size<=800):(asked b p).size<=807:=by
 unfold asked
 have hz1:(⟨#[94,40]⟩++p:ByteArray).size=p.size+2:=by rw[ByteArray.size_append];show 2+p.size=_;omega
 have hz2:(⟨#[40]⟩++p:ByteArray).size=p.size+1:=by rw[ByteArray.size_append];show 1+p.size=_;omega
 split
 ·rw[ByteArray.size_append,hz1];show p.size+2+1<=_;omega
 split
 ·rw[ByteArray.size_append,hz2];show p.size+1+6<=_;omega
 omega
theorem Ke (b:Bool) (hl:Bc w.heap.size w lv L) (hn:L.length<=1000) (hs: ∀p∈L,p.length<=800):Calls Tryz.prog 15 #[lv,.bool b] w fun e w'=>e= .returned (.tuple #[.int .i64 (bad b L 0).1,.int .i64 (bad b L 0).2])/\Below w.heap.size w w':=by
 obtain⟨A,c,rfl,hc1,hc2⟩:=hl.form
 obtain⟨n,hnn⟩: ∃n,L.length=n:=⟨_,rfl⟩
 have HN:=hid hnn
 rw[hnn]at hl hc1 hn ⊢
 unfold maxLen at hc2
 have HL:=hid hl
 have HC:=hid (show n<=c/\c<=9223372036854775807/\n<=1000 from⟨hc1,hc2,hn⟩)
 have HS:=hid hs
 have HO:Hid (∀p:ByteArray,p.size<=900-> ∀w,Calls Tryz.prog 26 #[.string p] w fun e w'=> ∃v,e= .returned (.tuple #[v,.int .i64 (er p)])/\Below w.heap.size w w'):=lQ
 have HW:Hid (∀p:ByteArray,p.size<=800-> ∀w,Calls Tryz.prog 32 #[.string p,.bool b] w fun e w'=>e= .returned (.string (asked b p))/\Below w.heap.size w w'):=fun p hp w=>Lx b hp w
 clear hl hc1 hc2 hn hs hnn
 go_enter Tryz.func15,Tryz.ntmps15
 go_wp2_with fail
 go_loopg [6] n (fun gk s6 wr=> ∃i:Nat,s6= .int .i64 i/\Hid (i+gk=n)/\Hid (∀p∈L.take i,IU b (mk p)=0)/\Hid (Below w.heap.size w wr))
 case atStart=>exact⟨0,rfl,by unfold Hid;omega,by simp[Hid],Below.refl _ _⟩
 case round=>
  obtain⟨i,rfl,hig,HG,LB⟩:=hrel
  cases gk with
  |zero=>
   have hi2:i=n:=by have:=hig.out;omega
   subst hi2
   have ti: ¬(i:Int)<(i:Int):=by omega
   have hbad:Hid (bad b L 0=(-1,0)):=by
    have h1:=HG.out
    rw[show L.take i=L by rw[<-HN.out,List.take_length]]at h1
    have:=KE b L [] 0 h1
    rw[List.append_nil]at this
    unfold Hid
    rw[this];rfl
   go_wp2_with fail
   go_ret2
   rw[hbad.out]
   exact⟨rfl,LB.out⟩
  |succ gk=>
   have hi1:i<n:=by have:=hig.out;omega
   have ti:(i:Int)<(n:Int):=by omega
   have tx:=HL.out.below LB.out
   obtain⟨ad,x,rfl,hb,hx,hxd⟩:=tx.at_ hi1
   have hblt:ad.block<wr.heap.size:=Nat.lt_of_lt_of_le hb LB.out.size
   have hil:i<L.length:=by rw[HN.out];exact hi1
   have Ro:L[i]'hil=x.data.toList:=by
    rw[hxd,List.getD_eq_getElem?_getD,List.getElem?_eq_getElem hil];rfl
   have hmx:Hid (mk (L[i]'hil)=x):=by unfold Hid;rw[Ro];exact Ae x
   have hxs:x.size<=800:=by rw[Lib.size_eq,<-Ro];exact HS.out _ (List.getElem_mem hil)
   have htk:Hid (L.take (i+1)=L.take i++ [L[i]'hil]):=by unfold Hid;rw[List.take_succ_eq_append_getElem hil]
   have hpr:Hid (L=L.take i++L[i]'hil::L.drop (i+1)):=by
    unfold Hid
    conv=>lhs;rw[<-List.take_append_drop i L,List.drop_eq_getElem_cons hil]
   have hlt:Hid ((L.take i).length=i):=by unfold Hid;rw[List.length_take];omega
   have Va:wrap64 ((i:Int)+1)=((i+1:Nat):Int):=by have:=HC.out.2.2;unfold wrap64;omega
   have IY:Hid (i+1+gk=n):=by have:=hig.out;unfold Hid;omega
   have wD:=hid (HO.out x (by omega))
   have HW1:=hid (HW.out x hxs)
   have xN:=hid (HO.out (asked b x) (by have:=L_ b hxs;omega))
   have HF:Hid (∀e:Int,IU b x=e->e≠0->bad b L 0=((i:Int),e)):=fun e he h0=>by
    rw[hpr.out,KE b _ _ 0 HG.out,bad,hmx.out,he,if_pos h0,hlt.out,Nat.zero_add]
   have HXB:=hid hblt
   clear tx hb hxd Ro hxs hig hblt
   by_cases he:er x=0
   ·have qa:Hid (IU b x=er (asked b x)):=by unfold Hid IU;rw[if_neg (by simp[he])];rfl
    rw[he]at wD
    by_cases he2:er (asked b x)=0
    ·have HG2:Hid (∀p∈L.take (i+1),IU b (mk p)=0):=by
       unfold Hid
       rw[htk.out]
       intro p hp
       rcases List.mem_append.1 hp with hp|hp
       ·exact HG.out p hp
       simp at hp;rw[hp,hmx.out,qa.out];exact he2
     rw[he2]at xN
     clear he he2
     go_wp2_with fail
     refine(wD.out _).mono ?_
     rintro e w1 ⟨v1,rfl,l1⟩
     have hx1:=(l1.block _ HXB.out)
     have hx2:w1.cell? (ad.add i)=some (.string x):=(World.cell?_of_block (by rw[block_add];exact hx1)).trans hx
     have L1:=hid (on LB.out l1)
     clear l1 hx1
     go_wp2_with fail
     refine(HW1.out _).mono ?_
     rintro e w2 ⟨rfl,l2⟩
     have L2:=hid (on L1.out l2)
     clear l2
     go_wp2_with fail
     refine(xN.out _).mono ?_
     rintro e w3 ⟨v3,rfl,l3⟩
     have L3:=hid (on L2.out l3)
     clear l3
     go_wp2_with fail
     go_roundg gk
     case measure=>omega
     case rel=>exact⟨i+1,congrArg (Value.int .i64) Va,IY,HG2,L3⟩
    have HB:=hid (HF.out _ qa.out he2)
    have te:(er (asked b x) !=0)=true:=by simpa using he2
    obtain⟨E,hE⟩: ∃E,er (asked b x)=E:=⟨_,rfl⟩
    rw[hE]at te xN HB
    clear he he2 hE qa
    go_wp2_with fail
    refine(wD.out _).mono ?_
    rintro e w1 ⟨v1,rfl,l1⟩
    have hx1:=(l1.block _ HXB.out)
    have hx2:w1.cell? (ad.add i)=some (.string x):=(World.cell?_of_block (by rw[block_add];exact hx1)).trans hx
    have L1:=hid (on LB.out l1)
    clear l1 hx1
    go_wp2_with fail
    refine(HW1.out _).mono ?_
    rintro e w2 ⟨rfl,l2⟩
    have L2:=hid (on L1.out l2)
    clear l2
    go_wp2_with fail
    refine(xN.out _).mono ?_
    rintro e w3 ⟨v3,rfl,l3⟩
    have L3:=hid (on L2.out l3)
    clear l3
    go_wp2_with fail
    go_ret2
    rw[HB.out]
    exact⟨rfl,L3.out⟩
   have HB:=hid (HF.out (er x) (by unfold IU;rw[if_pos he]) he)
   have te:(er x !=0)=true:=by simpa using he
   have qI:(er x==0)=false:=by simpa using he
   obtain⟨E,hE⟩: ∃E,er x=E:=⟨_,rfl⟩
   rw[hE]at te qI wD HB
   clear he hE
   go_wp2_with fail
   refine(wD.out _).mono ?_
   rintro e w1 ⟨v1,rfl,l1⟩
   have L1:=hid (on LB.out l1)
   clear l1
   go_wp2_with fail
   go_ret2
   rw[HB.out]
   exact⟨rfl,L1.out⟩
end
end Gg
namespace Gg
open Strs Al
open Cj (Piece Dg)
open W14 (Raw Ea Ak DF Be Ad Af Bp In AJ AB AU AY)
open Bv (Cb)
open Kit (below_draws on AX Ae)
section
variable {w:World} {p:ByteArray} {lv:Value} {L:List (List UInt8)}
theorem lq (w:World):Be w Af (.mk 0 ⟨#[]⟩ [] 0 0):=
 .mk 0 ⟨#[]⟩ none 0 0 0 0 [] [] 0 (QX _ _ _ _) (fun _ h=>by cases h) rfl (fun i h1=>absurd h1 (Nat.not_lt_zero _))
theorem SG (hs:p.size<=900) (w:World):Calls Tryz.prog 27 #[.string p] w (Bp w (got p)):=by
 obtain⟨g,hg,hf,-⟩:=W14.Ff hs
 rw[Zn hg]
 exact W14.R_ hs (EH.lM hs) hg hf w
def mZ (p:ByteArray):Nat:=match got p with
 | .bad _ _=>Cb (.mk 0 ⟨#[]⟩ [] 0 0)
 | .ok P _=>Cb P
def bM (p:ByteArray) (w:World) (e:Ending) (w':World):Prop:= ∃(r:Raw) (P:Piece) (q er:Int),e= .returned (.tuple #[.agg (Ak r),.int .i64 q,.int .i64 er])/\Be w' r P/\Cb P=mZ p/\Below w.heap.size w w'
theorem YI (hs:p.size<=900) (w:World):Calls Tryz.prog 27 #[.string p] w (bM p w):=by
 refine(SG hs w).mono ?_
 unfold bM mZ
 generalize got p=G
 cases G with
 |bad q er=>
  rintro e w' ⟨l,-,rfl⟩
  exact⟨Af,_,q,er,rfl,lq w',rfl,l⟩
 |ok P te=>
  rintro e w' ⟨l,r,rfl,hp⟩
  exact⟨r,P,0,0,rfl,hp.low,rfl,l⟩
def pz (p:List UInt8):Bool:=decide (p.length<=40)&&decide (mZ (mk p)<=120)
def Fv (L:List (List UInt8)):Bool:=decide (L.length<=20)&&L.all pz
theorem fU {L:List (List UInt8)} (h:L.length<=20) (ha: ∀p∈L,pz p=true):Fv L=true:=by
 unfold Fv
 rw[decide_eq_true h,Bool.true_and,List.all_eq_true]
 exact ha
theorem Uo {L:List (List UInt8)} {p:List UInt8} (hp:p∈L) (h:pz p=false):Fv L=false:=by
 unfold Fv
 have:L.all pz=false:=by
  rw[List.all_eq_false]
  exact⟨p,hp,by simp[h]⟩
 rw[this,Bool.and_false]
theorem aI {L:List (List UInt8)} (h:Fv L=true):L.length<=20/\ ∀p∈L,p.length<=40:=by
 unfold Fv at h
 rw[Bool.and_eq_true,List.all_eq_true]at h
 refine⟨of_decide_eq_true h.1,fun p hp=> ?_⟩
 have:=h.2 p hp
 unfold pz at this
 rw[Bool.and_eq_true]at this
 exact of_decide_eq_true this.1
theorem lu (hl:Bc w.heap.size w lv L):Calls Tryz.prog 12 #[lv] w fun e w'=>e= .returned (.bool (Fv L))/\Below w.heap.size w w':=by
 obtain⟨A,c,rfl,hc1,hc2⟩:=hl.form
 obtain⟨n,hn⟩: ∃n,L.length=n:=⟨_,rfl⟩
 have HN:=hid hn
 rw[hn]at hl hc1 ⊢
 unfold maxLen at hc2
 have HL:=hid hl
 have HC:=hid (show n<=c/\c<=9223372036854775807 from⟨hc1,hc2⟩)
 have HP:Hid (∀(p:ByteArray),p.size<=900-> ∀w,Calls Tryz.prog 27 #[.string p] w (bM p w)):=fun p h w=>YI h w
 unfold bM at HP
 have HZ:Hid (∀(P:Piece) (w:World) (r:Raw),Be w r P->Calls Tryz.prog 28 #[.agg (Ak r)] w fun e w'=>e= .returned (.int .i64 (Cb P))/\Below w.heap.size w w'):=fun P w r h=>EH.LW P w r h
 clear hl hc1 hc2 hn
 by_cases hbig:(n:Int)>20
 ·go_enter Tryz.func12,Tryz.ntmps12
  have hb:Fv L=false:=by
   unfold Fv
   rw[decide_eq_false (by rw[HN.out];omega),Bool.false_and]
  go_wp2_with fail
  go_ret
  exact⟨AX hb.symm,Below.refl _ _⟩
 have HS:Hid (n<=20):=by unfold Hid;omega
 go_enter Tryz.func12,Tryz.ntmps12
 go_wp2_with fail
 clear hbig
 go_loopg [3] n (fun gk s3 wr=> ∃i:Nat,s3= .int .i64 i/\Hid (i+gk=n)/\Hid (∀p∈L.take i,pz p=true)/\Hid (Below w.heap.size w wr))
 case atStart=>exact⟨0,rfl,by unfold Hid;omega,by simp[Hid],Below.refl _ _⟩
 case round=>
  obtain⟨i,rfl,hig,HG,LB⟩:=hrel
  cases gk with
  |zero=>
   have hi2:i=n:=by have:=hig.out;omega
   subst hi2
   have ti: ¬(i:Int)<(i:Int):=by omega
   have hb:Hid (Fv L=true):=by
    have:=HG.out
    rw[<-HN.out,List.take_length]at this
    exact fU (by rw[HN.out];exact HS.out) this
   go_wp2_with fail
   go_ret
   exact⟨AX hb.out.symm,LB.out⟩
  |succ gk=>
   have hi1:i<n:=by have:=hig.out;omega
   have ti:(i:Int)<(n:Int):=by omega
   have tx:=HL.out.below LB.out
   obtain⟨ad,x,rfl,hb,hx,hxd⟩:=tx.at_ hi1
   have hil:i<L.length:=by rw[HN.out];exact hi1
   have Ro:L[i]'hil=x.data.toList:=by
    rw[hxd,List.getD_eq_getElem?_getD,List.getElem?_eq_getElem hil];rfl
   have htk:L.take (i+1)=L.take i++ [x.data.toList]:=by rw[List.take_succ_eq_append_getElem hil,Ro]
   have Va:wrap64 ((i:Int)+1)=((i+1:Nat):Int):=by have:=HS.out;unfold wrap64;omega
   have IY:Hid (i+1+gk=n):=by have:=hig.out;unfold Hid;omega
   have hmem:x.data.toList∈L:=by rw[<-Ro];exact List.getElem_mem hil
   have l_:pz x.data.toList=(decide (x.size<=40)&&decide (mZ x<=120)):=by
    unfold pz
    rw[<-Lib.size_eq,show mk x.data.toList=x from Kit.Ae x]
   clear tx hb hxd Ro hig
   by_cases IX:(x.size:Int)>40
   ·have hbf:Hid (Fv L=false):=Uo hmem (by rw[l_,decide_eq_false (by omega),Bool.false_and])
    clear htk hmem l_
    go_wp2_with fail
    go_ret
    exact⟨AX hbf.out.symm,LB.out⟩
   have HG2:Hid (mZ x<=120-> ∀p∈L.take (i+1),pz p=true):=fun hg=>by
     rw[htk]
     intro p hp
     rcases List.mem_append.1 hp with hp|hp
     ·exact HG.out p hp
     simp at hp;rw[hp,l_,decide_eq_true (by omega),decide_eq_true hg];rfl
   have HBF:Hid (¬mZ x<=120->Fv L=false):=fun hg=>Uo hmem (by rw[l_,decide_eq_false hg,Bool.and_false])
   have HP1:=hid (HP.out x (by omega))
   clear htk hmem l_
   go_wp2_with fail
   refine(HP1.out _).mono ?_
   rintro e w1 ⟨r,P,qq,er,rfl,hp,hgs,l1⟩
   have xO:=hid hgs
   have A1:=hid hp
   have L1:=hid (on LB.out l1)
   have HZ1:=hid (HZ.out P)
   clear hp l1 hgs
   by_cases hbg:(Cb P:Int)>120
   ·obtain⟨z,hz⟩: ∃z,Cb P=z:=⟨_,rfl⟩
    rw[hz]at HZ1 hbg xO
    have zK:Hid (if z<=120 then mZ x<=120 else¬mZ x<=120):=by have:=xO.out;unfold Hid;split<;>omega
    clear hz
    go_wp2_with (first
     |(refine AJ rfl rfl ?_;intro w3 b3 e3 p3 l3 z3)
     |(refine AB (r:=r) rfl (.tmp 4) (.tmp 28) rfl rfl rfl p3 ?_;intro w4 p4 l4 z4;have n4:=AY l3 l4 e3;have L4:=hid (on L1.out n4);have A4:=hid (A1.out.below n4);have P4:=hid p4;clear e3 p3 l3 z3 p4 l4 z4 n4 A1)
     |(refine AU (r:=r) rfl (.tmp 4) rfl rfl P4.out ?_))
    refine(HZ1.out _ _ A4.out).mono ?_
    rintro e w5 ⟨rfl,l5⟩
    have L5:=hid (on L4.out l5)
    clear l5
    go_wp2_with fail
    go_ret
    exact⟨AX (HBF.out (by have:=zK.out;rwa[if_neg (by omega)]at this)).symm,L5.out⟩
   obtain⟨z,hz⟩: ∃z,Cb P=z:=⟨_,rfl⟩
   rw[hz]at HZ1 hbg xO
   have zK:Hid (if z<=120 then mZ x<=120 else¬mZ x<=120):=by have:=xO.out;unfold Hid;split<;>omega
   clear hz
   go_wp2_with (first
    |(refine AJ rfl rfl ?_;intro w3 b3 e3 p3 l3 z3)
    |(refine AB (r:=r) rfl (.tmp 4) (.tmp 28) rfl rfl rfl p3 ?_;intro w4 p4 l4 z4;have n4:=AY l3 l4 e3;have L4:=hid (on L1.out n4);have A4:=hid (A1.out.below n4);have P4:=hid p4;clear e3 p3 l3 z3 p4 l4 z4 n4 A1)
    |(refine AU (r:=r) rfl (.tmp 4) rfl rfl P4.out ?_))
   refine(HZ1.out _ _ A4.out).mono ?_
   rintro e w5 ⟨rfl,l5⟩
   have L5:=hid (on L4.out l5)
   clear l5
   go_wp2_with fail
   go_roundg gk
   case measure=>omega
   case rel=>exact⟨i+1,congrArg (Value.int .i64) Va,IY,HG2.out (by have:=zK.out;rwa[if_pos (by omega)]at this),L5⟩
end
end Gg
namespace Gg
open Strs Al
open Cj (Piece Dg Whole)
open BR (E at_ places)
open Fg (KI Us EE Fw EA YQ)
open EH (Ct)
open W14 (Raw Ak Be Ad Bp In AJ AB AU AY CB)
open Kit (below_draws on AX)
def ET (p:ByteArray) (P:Piece):Prop:= ∀w,Calls Tryz.prog 27 #[.string p] w fun e w'=>Below w.heap.size w w'/\ ∃r,e= .returned (.tuple #[.agg (Ak r),.int .i64 0,.int .i64 0])/\W14.DF (In w.heap.size w'.heap.size) w' r P
def SX (s:ByteArray) (EB:Nat->Nat->Prop) (P:Piece):Prop:= ∀w r v l b,Be w r P->KI w.heap.size w v l->b<=s.size->l=Us s.size b->Calls Tryz.prog 56 #[.agg (Ak r),.string s,v] w fun e w'=> ∃l',l'.length=s.size+1/\(∀t,t<=s.size->(at_ l' t=true↔EB b t))/\EE w l' e w'
section
variable {p s:ByteArray} {w:World} {P:Piece} {EB:Nat->Nat->Prop}
set_option maxHeartbeats 8000000 in
theorem gD {B:Bool} (hp:ET p P) (he:SX s EB P) (hs:s.size<=500) (hr:B=true↔EB 0 s.size):Calls Tryz.prog 33 #[.string p,.string s,.bool true] w fun e w'=>e= .returned (.bool B)/\Below w.heap.size w w':=by
 have HP:=hid hp
 unfold ET at HP
 have HE:=hid he
 unfold SX at HE
 have HS:=hid hs
 have HR:=hid hr
 clear hp he hs hr
 go_enter Tryz.func33,Tryz.ntmps33
 go_wp2_with fail
 refine(HP.out _).mono ?_
 rintro e w1 ⟨l1,r,rfl,hp⟩
 have L1:=hid l1
 have A1:=hid hp.low
 clear l1 hp
 go_wp2_with (first
  |(refine AJ rfl rfl ?_;intro w3 b3 e3 p3 l3 z3)
  |(refine AB (r:=r) rfl (.tmp 7) (.tmp 15) rfl rfl rfl p3 ?_;intro w4 p4 l4 z4;have n4:=AY l3 l4 e3;have L4:=hid (on L1.out n4);have A4:=hid (A1.out.below n4);have P4:=hid p4;clear e3 p3 l3 z3 p4 l4 z4 n4 A1))
 go_loopg [10] (s.size+1) (fun gk s10 wr=> ∃i:Nat,s10= .int .i64 i/\Hid (i+gk=s.size+1)/\Hid (i=0)/\Hid (Below w.heap.size w wr)/\Hid (Ad wr b3 r)/\Hid (Be wr r P))
 case atStart=>exact⟨0,rfl,by unfold Hid;omega,rfl,L4,P4,A4⟩
 case round=>
  clear L4 P4 A4
  obtain⟨i,rfl,hig,HZ,LR,PR,AR⟩:=hrel
  cases gk with
  |zero=>exact absurd hig.out (by have:=HZ.out;omega)
  |succ gk=>
       have HI0:Hid (i=0):=HZ
       clear HZ
       have hi:i<=s.size:=by have:=hig.out;omega
       have ti:(i:Int)<=(s.size:Int):=by omega
       have Ye:=hid hi
       have DT:wrap64 ((i:Int)+1)=((i+1:Nat):Int):=by have:=HS.out;unfold wrap64;omega
       have IY:Hid (i+1+gk=s.size+1):=by have:=hig.out;unfold Hid;omega
       have S0:Hid (Ad (wr.drewN 1) b3 r/\Below wr.heap.size wr (wr.drewN 1)):=⟨PR.out,below_draws wr 1⟩
       have KEEP:Hid (∀x,Below wr.heap.size wr x->Ad x b3 r/\Below wr.heap.size wr x):=fun x hx=>⟨PR.out.below hx,hx⟩
       clear hi hig
       go_wp2_with fail
       refine wp_region_held_drew (S:=fun w'=>Ad w' b3 r/\Below wr.heap.size wr w') (by kernel_rfl) S0.out (fun hHeld=> ?_)
       refine Take.k 0 ⟨some 24,.load 56 (.tmp 7),_,_,_,none⟩ ?_ (hy:=Or.inl ⟨by rfl,by(intro w hSw;(try dsimp only at hSw);(first|(refine CB (.tmp 7) ?_ ?_ hSw.1.cells<;>rfl)|(go_simp;try with_reducible rfl)))⟩)
       refine Take.k 1 ⟨some 25,.move (.tmp 1),_,_,_,none⟩ ?_
       refine Take.k 2 ⟨some 26,.move (.tmp 1),_,_,_,none⟩ ?_
       refine Take.k 3 ⟨some 27,.call ⟨.builtin .len, #[.tmp 26], #[9]⟩,_,_,_,none⟩ ?_
       refine Take.k 4 ⟨some 28,.move (.tmp 10),_,_,_,none⟩ ?_
       refine wpAnyH_ready (rs:= [5]) (by kernel_rfl) (by simp) ?_
       refine AllReadyH.cons (o:=⟨some 29,.call ⟨.value (.func 57), #[.tmp 27,.tmp 28], #[3,3]⟩,_,_,_,none⟩) rfl (fun K hK=> ?_) AllReadyH.nil
       go_simp
       (go_at_call 57;refine(Fg.mF (n:=s.size) (i:=i) Ye.out (by have:=HS.out;omega)).mono ?_;rintro e x2 ⟨v2,rfl,wH,m2⟩;have L2:=hid (on S0.out.2 m2);have T2:=hid wH;clear wH m2)
       go_wp2_with fail
       refine hK.out _ _ ?_ (fun hHeld=> ?_)
       ·exact KEEP.out _ L2.out
       clear hK K
       try simp only[Act.put,Take.a,Take.b,Take.c]
       refine wpAnyH_ready (rs:= [6]) (by kernel_rfl) (by simp) ?_
       refine AllReadyH.cons (o:=⟨some 30,.call ⟨.value (.func 56), #[.tmp 24,.tmp 25,.tmp 29], #[56,9,82]⟩,_,_,_,none⟩) rfl (fun K hK=> ?_) AllReadyH.nil
       go_simp
       (go_at_call 56;refine(HE.out _ r _ _ i (AR.out.below L2.out) T2.out Ye.out rfl).mono ?_;rintro e x3 ⟨l3,hl3,bG,v3,rfl,wI,m3⟩;have L3:=hid (on L2.out m3);have T3:=hid wI;have S_:=hid hl3;have wJ:=hid bG;clear wI m3 hl3 bG)
       go_wp2_with fail
       refine hK.out _ _ ?_ (fun hHeld=> ?_)
       ·exact KEEP.out _ L3.out
       clear hK K
       try simp only[Act.put,Take.a,Take.b,Take.c]
       refine Take.k 7 ⟨some 11,.assign (.tmp 30),_,_,_,none⟩ ?_
       refine wpAnyH_done (by kernel_rfl) ?_ _
       have L5:=hid (on LR.out L3.out)
       have hb:at_ l3 s.size=B:=by
        have h1:=wJ.out s.size (Nat.le_refl _)
        rw[HI0.out]at h1
        exact Bool.eq_iff_iff.2 (h1.trans HR.out.symm)
       obtain⟨A3,c3,rfl,q1,q2⟩:=T3.out.form
       obtain⟨bk,ok,rfl,-,hcell⟩:=EA T3.out (k:=s.size) (by rw[S_.out];omega)
       rw[hb]at hcell
       have q3:((s.size:Int))<((l3.length:Nat):Int):=by rw[S_.out];omega
       clear S0 KEEP L2 L3 T2 T3 PR AR LR wJ hb
       go_wp2_with fail
       go_ret
       exact⟨rfl,L5.out⟩
set_option maxHeartbeats 8000000 in
theorem aQ {B:Bool} (hp:ET p P) (he:SX s EB P) (hs:s.size<=500) (hin: ∀b t,b<=s.size->EB b t->t<=s.size) (hr:B=true↔ ∃b t,b<=s.size/\EB b t):Calls Tryz.prog 33 #[.string p,.string s,.bool false] w fun e w'=>e= .returned (.bool B)/\Below w.heap.size w w':=by
 have HI:=hid hin
 have HP:=hid hp
 unfold ET at HP
 have HE:=hid he
 unfold SX at HE
 have HS:=hid hs
 have HR:=hid hr
 clear hin
 clear hp he hs hr
 go_enter Tryz.func33,Tryz.ntmps33
 go_wp2_with fail
 refine(HP.out _).mono ?_
 rintro e w1 ⟨l1,r,rfl,hp⟩
 have L1:=hid l1
 have A1:=hid hp.low
 clear l1 hp
 go_wp2_with (first
  |(refine AJ rfl rfl ?_;intro w3 b3 e3 p3 l3 z3)
  |(refine AB (r:=r) rfl (.tmp 7) (.tmp 15) rfl rfl rfl p3 ?_;intro w4 p4 l4 z4;have n4:=AY l3 l4 e3;have L4:=hid (on L1.out n4);have A4:=hid (A1.out.below n4);have P4:=hid p4;clear e3 p3 l3 z3 p4 l4 z4 n4 A1))
 go_loopg [10] (s.size+1) (fun gk s10 wr=> ∃i:Nat,s10= .int .i64 i/\Hid (i+gk=s.size+1)/\Hid (∀b,b<i-> ∀t,¬EB b t)/\Hid (Below w.heap.size w wr)/\Hid (Ad wr b3 r)/\Hid (Be wr r P))
 case atStart=>exact⟨0,rfl,by unfold Hid;omega,fun b h=>absurd h (Nat.not_lt_zero _),L4,P4,A4⟩
 case round=>
  clear L4 P4 A4
  obtain⟨i,rfl,hig,Q_,LR,PR,AR⟩:=hrel
  cases gk with
  |zero=>
   have ti: ¬(i:Int)<=(s.size:Int):=by have:=hig.out;omega
   have HB:Hid (B=false):=by
    unfold Hid
    cases hB:B with
    |false=>rfl
    |true=>
     obtain⟨b,t,h1,h2⟩:=HR.out.1 hB
     exact absurd h2 (Q_.out b (by have:=hig.out;omega) t)
   go_wp2_with fail
   go_ret
   exact⟨AX HB.out.symm,LR.out⟩
  |succ gk=>
       have hi:i<=s.size:=by have:=hig.out;omega
       have ti:(i:Int)<=(s.size:Int):=by omega
       have Ye:=hid hi
       have DT:wrap64 ((i:Int)+1)=((i+1:Nat):Int):=by have:=HS.out;unfold wrap64;omega
       have IY:Hid (i+1+gk=s.size+1):=by have:=hig.out;unfold Hid;omega
       have S0:Hid (Ad (wr.drewN 1) b3 r/\Below wr.heap.size wr (wr.drewN 1)):=⟨PR.out,below_draws wr 1⟩
       have KEEP:Hid (∀x,Below wr.heap.size wr x->Ad x b3 r/\Below wr.heap.size wr x):=fun x hx=>⟨PR.out.below hx,hx⟩
       clear hi hig
       go_wp2_with fail
       refine wp_region_held_drew (S:=fun w'=>Ad w' b3 r/\Below wr.heap.size wr w') (by kernel_rfl) S0.out (fun hHeld=> ?_)
       refine Take.k 0 ⟨some 24,.load 56 (.tmp 7),_,_,_,none⟩ ?_ (hy:=Or.inl ⟨by rfl,by(intro w hSw;(try dsimp only at hSw);(first|(refine CB (.tmp 7) ?_ ?_ hSw.1.cells<;>rfl)|(go_simp;try with_reducible rfl)))⟩)
       refine Take.k 1 ⟨some 25,.move (.tmp 1),_,_,_,none⟩ ?_
       refine Take.k 2 ⟨some 26,.move (.tmp 1),_,_,_,none⟩ ?_
       refine Take.k 3 ⟨some 27,.call ⟨.builtin .len, #[.tmp 26], #[9]⟩,_,_,_,none⟩ ?_
       refine Take.k 4 ⟨some 28,.move (.tmp 10),_,_,_,none⟩ ?_
       refine wpAnyH_ready (rs:= [5]) (by kernel_rfl) (by simp) ?_
       refine AllReadyH.cons (o:=⟨some 29,.call ⟨.value (.func 57), #[.tmp 27,.tmp 28], #[3,3]⟩,_,_,_,none⟩) rfl (fun K hK=> ?_) AllReadyH.nil
       go_simp
       (go_at_call 57;refine(Fg.mF (n:=s.size) (i:=i) Ye.out (by have:=HS.out;omega)).mono ?_;rintro e x2 ⟨v2,rfl,wH,m2⟩;have L2:=hid (on S0.out.2 m2);have T2:=hid wH;clear wH m2)
       go_wp2_with fail
       refine hK.out _ _ ?_ (fun hHeld=> ?_)
       ·exact KEEP.out _ L2.out
       clear hK K
       try simp only[Act.put,Take.a,Take.b,Take.c]
       refine wpAnyH_ready (rs:= [6]) (by kernel_rfl) (by simp) ?_
       refine AllReadyH.cons (o:=⟨some 30,.call ⟨.value (.func 56), #[.tmp 24,.tmp 25,.tmp 29], #[56,9,82]⟩,_,_,_,none⟩) rfl (fun K hK=> ?_) AllReadyH.nil
       go_simp
       (go_at_call 56;refine(HE.out _ r _ _ i (AR.out.below L2.out) T2.out Ye.out rfl).mono ?_;rintro e x3 ⟨l3,hl3,bG,v3,rfl,wI,m3⟩;have L3:=hid (on L2.out m3);have T3:=hid wI;have S_:=hid hl3;have wJ:=hid bG;clear wI m3 hl3 bG)
       go_wp2_with fail
       refine hK.out _ _ ?_ (fun hHeld=> ?_)
       ·exact KEEP.out _ L3.out
       clear hK K
       try simp only[Act.put,Take.a,Take.b,Take.c]
       refine Take.k 7 ⟨some 11,.assign (.tmp 30),_,_,_,none⟩ ?_
       refine wpAnyH_done (by kernel_rfl) ?_ _
       have VT:Hid (Calls Tryz.prog 58 #[v3] x3 (Fg.KW x3 (places l3))):=Fw T3.out (by rw[S_.out];have:=HS.out;omega)
       unfold Fg.KW at VT
       obtain⟨kl,hkl⟩: ∃kl,places l3=kl:=⟨_,rfl⟩
       have uL:=hid hkl
       rw[hkl]at VT
       clear hkl
       have L5:=hid (on LR.out L3.out)
       have P5:=hid (PR.out.below L3.out)
       have A5:=hid (AR.out.below L3.out)
       clear S0 KEEP L2 T2 T3 PR AR LR
       rcases Nat.eq_zero_or_pos kl.length with h0|h0
       ·have t0: ¬(kl.length:Int)>0:=by omega
        have tH:Hid (∀b,b<i+1-> ∀t,¬EB b t):=fun b hb t ht=>by
         by_cases e:b=i
         ·subst e
          have h1:=HI.out b t Ye.out ht
          exact YQ (l:=l3) (by rw[uL.out];exact List.length_eq_zero_iff.1 h0) (by rw[S_.out];omega) ((wJ.out t h1).2 ht)
         exact Q_.out b (by omega) t ht
        clear h0 Q_
        go_wp2_with fail
        refine VT.out.mono ?_
        rintro e x4 ⟨v4,rfl,o4,m4⟩
        have L6:=hid (on L5.out m4)
        have P6:=hid (P5.out.below m4)
        have A6:=hid (A5.out.below m4)
        obtain⟨A4,c4,rfl,-,-⟩:=(Al.Bw Ct rfl o4).form
        clear o4 m4
        go_wp2_with fail
        go_roundg gk
        case measure=>omega
        case rel=>exact⟨i+1,congrArg (Value.int .i64) DT,IY,tH,L6,P6,A6⟩
       have t0:(kl.length:Int)>0:=by omega
       have HB:Hid (B=true):=by
        obtain⟨x,hk⟩: ∃x,x∈kl:=⟨_,List.getElem_mem h0⟩
        rw[<-uL.out]at hk
        obtain⟨h1,h2⟩:=BR.mem_places.1 hk
        rw[S_.out]at h1
        exact HR.out.2 ⟨i,_,Ye.out,(wJ.out _ (by omega)).1 h2⟩
       clear h0 Q_
       go_wp2_with fail
       refine VT.out.mono ?_
       rintro e x4 ⟨v4,rfl,o4,m4⟩
       have L6:=hid (on L5.out m4)
       obtain⟨A4,c4,rfl,-,-⟩:=(Al.Bw Ct rfl o4).form
       clear o4 m4
       go_wp2_with fail
       go_ret
       exact⟨AX HB.out.symm,L6.out⟩
end
end Gg
namespace Gg
open Strs Al
open Kt (Bytes)
open Cj (Piece Dg Whole size)
open Bv (AL prog)
open BR (E yields)
open Kit (below_draws on AX Au Ae)
section
variable {w:World} {q s:ByteArray} {lv:Value} {L:List Bytes}
theorem Uv (w:World) (hq:q.size<=900) (he:er q=0): ∃P,ET q P/\Whole P/\size P<=4000/\ins q=prog P:=by
 obtain⟨hw,-⟩:=Nz hq
 have hR:=SG hq
 unfold er at he
 unfold ins
 generalize got q=G at*
 cases G with
 |bad a e=>
  exfalso
  obtain⟨e1,w1,fr1,hB,-⟩:=hR w []
  exact hB.2.1 he
 |ok P te=>
  by_cases hz:size P<=4000
  ·exact⟨P,hR,hw,hz,rfl⟩
  exact absurd he (by show(if size P<=4000 then(0:Int)else 21)≠0;rw[if_neg hz];decide)
theorem bO {P:Piece} (hw:Whole P) (hs:s.size<=500):SX s (E s.data.toList P) P:=fun w r v l b hl hv hb e=>by
 subst e
 refine(Fg.gB (s:=s) hs hw w r v _ hl hv (by unfold Fg.Us;simp)).mono fun e w' q=> ?_
 obtain⟨l',h1,h2⟩:=q
 exact⟨l',h1.1,fun t ht=>Fg.qC hb h1 ht,h2⟩
def OQ (L:List AL) (s:ByteArray):Bool:=(yields L s.data.toList 0 0).any fun y=>decide (y.2=s.size)
theorem SY (hq:q.size<=900) (he:er q=0) (hs:s.size<=500):Calls Tryz.prog 33 #[.string q,.string s,.bool true] w fun e w'=>e= .returned (.bool (OQ (ins q) s))/\Below w.heap.size w w':=by
 obtain⟨P,hP,hw,hz,hi⟩:=Uv w hq he
 have hG:=Bv.Good.of_whole hw
 have hr:Bv.Ca (prog P)=true:=Bv.SQ (Bv.JN hw) hz
 refine gD hP (bO hw hs) hs ?_
 have h:=Fg.aL (S:=s.data.toList) (BR.Ga hr) hr
 rw[hi]
 unfold OQ
 rw[<-Lib.size_eq]at h
 exact h.trans (BR.Nu hG hz s.data.toList 0 s.size)
theorem PD (hq:q.size<=900) (he:er q=0) (hs:s.size<=500):Calls Tryz.prog 33 #[.string q,.string s,.bool false] w fun e w'=>e= .returned (.bool (Dq (ins q) s))/\Below w.heap.size w w':=by
 obtain⟨P,hP,hw,hz,hi⟩:=Uv w hq he
 have hG:=Bv.Good.of_whole hw
 have hr:Bv.Ca (prog P)=true:=Bv.SQ (Bv.JN hw) hz
 have hzl:s.data.toList.length=s.size:=(Lib.size_eq s).symm
 refine aQ hP (bO hw hs) hs (fun b t hb ht=> ?_) ?_
 ·have:=BR.qA hG b t (by rw[hzl];exact hb) ht
  rwa[hzl]at this
 rw[hi]
 have h:=BR.ZC (L:=prog P) (s:=s.data.toList) (BR.Ga hr) hr
 rw[hzl]at h
 have e:Dq (prog P) s=true↔yields (prog P) s.data.toList 0 s.size≠ []:=by
  unfold Dq Fg.found
  cases yields (prog P) s.data.toList 0 s.size<;>simp
 rw[e,h]
 exact⟨fun⟨b,t,h1,h2⟩=>⟨b,t,h1,(BR.Nu hG hz s.data.toList b t).1 h2⟩,fun⟨b,t,h1,h2⟩=>⟨b,t,h1,(BR.Nu hG hz s.data.toList b t).2 h2⟩⟩
def Pv (b:Bool) (L:List Bytes):Prop:= ∀p∈L,er (mk p)=0/\er (asked b (mk p))=0/\p.length<=800
theorem Sa (b:Bool) {L:List Bytes} {i:Nat} (hi:i<L.length) (s:ByteArray):Dr (asks b (L.take (i+1))) s=(Dr (asks b (L.take i)) s||ask b (mk (L[i]'hi)) s):=by
 rw[List.take_succ_eq_append_getElem hi]
 unfold Dr asks
 rw[List.map_append,List.any_append]
 simp
theorem Uw (b:Bool) {L:List Bytes} {i:Nat} (hi:i<L.length) {s:ByteArray} (h:ask b (mk (L[i]'hi)) s=true):Dr (asks b L) s=true:=by
 unfold Dr asks
 rw[List.any_eq_true]
 exact⟨_,List.mem_map.2 ⟨_,List.getElem_mem hi,rfl⟩,h⟩
end
end Gg
namespace Gg
open Strs Al
open Kt (Bytes)
open Kit (below_draws on AX Au Ae)
section
variable {w:World} {z:ByteArray} {lv:Value} {L:List Bytes}
set_option maxHeartbeats 8000000 in
theorem YT (hl:Bc w.heap.size w lv L) (hn:L.length<=1000) (ha:Pv true L) (hz:z.size<=400):Calls Tryz.prog 18 #[lv,.bool true,.string z] w fun e w'=>e= .returned (.bool (Dr (asks true L) z))/\Below w.heap.size w w':=by
 obtain⟨A,c,rfl,hc1,hc2⟩:=hl.form
 obtain⟨n,hnn⟩: ∃n,L.length=n:=⟨_,rfl⟩
 have HN:=hid hnn
 rw[hnn]at hl hc1 hn ⊢
 unfold maxLen at hc2
 have HL:=hid hl
 have HC:=hid (show n<=c/\c<=9223372036854775807/\n<=1000 from⟨hc1,hc2,hn⟩)
 have HA:=hid ha
 have HW:Hid (∀p:ByteArray,p.size<=800-> ∀w,Calls Tryz.prog 32 #[.string p,.bool true] w fun e w'=>e= .returned (.string (asked true p))/\Below w.heap.size w w'):=fun p hp w=>Lx true hp w
 have HF:Hid (∀q s:ByteArray,q.size<=900->er q=0->s.size<=500-> ∀w,Calls Tryz.prog 33 #[.string q,.string s,.bool false] w fun e w'=>e= .returned (.bool (Dq (ins q) s))/\Below w.heap.size w w'):=fun q s h1 h2 h3 w=>PD h1 h2 h3
 have HT:Hid (∀q s:ByteArray,q.size<=900->er q=0->s.size<=500-> ∀w,Calls Tryz.prog 33 #[.string q,.string s,.bool true] w fun e w'=>e= .returned (.bool (OQ (ins q) s))/\Below w.heap.size w w'):=fun q s h1 h2 h3 w=>SY h1 h2 h3
 have qX:Hid (∀p:ByteArray,p.size<=1000-> ∀w,Calls Tryz.prog 34 #[.string p] w fun e w'=>e= .returned (.bool (Da p))/\Below w.heap.size w w'):=fun p hp w=>OL hp w
 have zL:Hid (∀w,Calls Tryz.prog 35 #[.string z] w fun e w'=>e= .returned (.string (base z))/\Below w.heap.size w w'):=fun w=>Jj.Oe z (base z) rfl (by omega) w
 have hbz:(base z).size<=404:=by have:=Rm z.data.toList;rw[Lib.size_eq];show(Ki.base z.data.toList).length<=_;rw[Lib.size_eq]at hz;omega
 have Pd:=hid hbz
 have hz2:(⟨#[47]⟩++z:ByteArray).size=z.size+1:=by rw[ByteArray.size_append];show 1+z.size=_;omega
 have HZ2:Hid ((DL z).size<=401):=by unfold Hid DL;omega
 have yw: ∀w:World,(Op.stringOp .add ⟨#[47]⟩ z).run Tryz.prog w= .ok (.string (DL z)) w:=fun w=>run_string_add_sum w _ _ (by show 1+z.size<=_;omega)
 have HZ:=hid hz
 clear hl hc1 hc2 hn ha hnn hz hbz hz2
 go_enter Tryz.func18,Tryz.ntmps18
 go_wp2_with fail
 go_loopg [7] n (fun gk s7 wr=> ∃i:Nat,s7= .int .i64 i/\Hid (i+gk=n)/\Hid (Dr (asks true (L.take i)) z=false)/\Hid (Below w.heap.size w wr))
 case atStart=>exact⟨0,rfl,by unfold Hid;omega,rfl,Below.refl _ _⟩
 case round=>
  obtain⟨i,rfl,hig,Q_,LB⟩:=hrel
  cases gk with
  |zero=>
   have hi2:i=n:=by have:=hig.out;omega
   subst hi2
   have ti: ¬(i:Int)<(i:Int):=by omega
   have hres:Hid (Dr (asks true L) z=false):=by
    have:=Q_.out
    rwa[<-HN.out,List.take_length]at this
   go_wp2_with fail
   go_ret
   exact⟨AX hres.out.symm,LB.out⟩
  |succ gk=>
   have hi1:i<n:=by have:=hig.out;omega
   have ti:(i:Int)<(n:Int):=by omega
   have tx:=HL.out.below LB.out
   obtain⟨ad,x,rfl,hb,hx,hxd⟩:=tx.at_ hi1
   have HXB:Hid (ad.block<w.heap.size):=hb
   have hil:i<L.length:=by rw[HN.out];exact hi1
   have Ro:L[i]'hil=x.data.toList:=by
    rw[hxd,List.getD_eq_getElem?_getD,List.getElem?_eq_getElem hil];rfl
   have hmx:mk (L[i]'hil)=x:=by rw[Ro];exact Ae x
   obtain⟨ha1,ha2,bG⟩:=HA.out _ (List.getElem_mem hil)
   rw[hmx]at ha1 ha2
   have hxs:x.size<=800:=by rw[Lib.size_eq,<-Ro];exact bG
   have htk:=Sa true hil z
   have hme:=fun h=>Uw true hil (s:=z) h
   rw[hmx]at htk hme
   have qO:=hid htk
   have xU:=hid hme
   have Va:wrap64 ((i:Int)+1)=((i+1:Nat):Int):=by have:=HC.out.2.2;unfold wrap64;omega
   have IY:Hid (i+1+gk=n):=by have:=hig.out;unfold Hid;omega
   have HW1:=hid (HW.out x hxs)
   have ma:=hid (qX.out x (by omega))
   have Kk:=L_ true hxs
   have B0:=LB
   have c0:=hx
   clear tx hb hxd Ro hmx hig htk hme bG LB hx
   have J5:=hid (HF.out (asked true x) z (by omega) ha2 (by have:=HZ.out;omega))
   have hak:ask true x z=Dq (ins (asked true x)) z:=rfl
   cases hr:Dq (ins (asked true x)) z with
   |true=>
    rw[hr]at J5 hak
    have mH:=hid hak
    clear hr hak
    go_wp2_with fail
    refine(HW1.out _).mono ?_
    rintro e w1 ⟨rfl,l1⟩
    have hx1:=(l1.block _ (Nat.lt_of_lt_of_le HXB.out (B0.out.size)))
    have c1:w1.cell? (ad.add i)=some (.string x):=(World.cell?_of_block (by rw[block_add];exact hx1)).trans c0
    have B1:=hid (on B0.out l1)
    clear l1 hx1
    go_wp2_with fail
    refine(J5.out _).mono ?_
    rintro e w2 ⟨rfl,l2⟩
    have B2:=hid (on B1.out l2)
    clear l2
    go_wp2_with fail
    go_ret
    exact⟨AX (xU.out mH.out).symm,B2.out⟩
   |false=>
    rw[hr]at J5 hak
    have mH:=hid hak
    clear hr hak
    go_wp2_with fail
    refine(HW1.out _).mono ?_
    rintro e w1 ⟨rfl,l1⟩
    have hx1:=(l1.block _ (Nat.lt_of_lt_of_le HXB.out (B0.out.size)))
    have c1:w1.cell? (ad.add i)=some (.string x):=(World.cell?_of_block (by rw[block_add];exact hx1)).trans c0
    have B1:=hid (on B0.out l1)
    clear l1 hx1
    go_wp2_with fail
    refine(J5.out _).mono ?_
    rintro e w2 ⟨rfl,l2⟩
    have B2:=hid (on B1.out l2)
    clear l2
    go_wp2_with fail
    go_roundg gk
    case measure=>omega
    case rel=>exact⟨i+1,congrArg (Value.int .i64) Va,IY,by unfold Hid;rw[qO.out,Q_.out,mH.out];rfl,B2⟩
set_option maxHeartbeats 8000000 in
theorem V5 (hl:Bc w.heap.size w lv L) (hn:L.length<=1000) (ha:Pv false L) (hz:z.size<=400):Calls Tryz.prog 18 #[lv,.bool false,.string z] w fun e w'=>e= .returned (.bool (Dr (asks false L) z))/\Below w.heap.size w w':=by
 obtain⟨A,c,rfl,hc1,hc2⟩:=hl.form
 obtain⟨n,hnn⟩: ∃n,L.length=n:=⟨_,rfl⟩
 have HN:=hid hnn
 rw[hnn]at hl hc1 hn ⊢
 unfold maxLen at hc2
 have HL:=hid hl
 have HC:=hid (show n<=c/\c<=9223372036854775807/\n<=1000 from⟨hc1,hc2,hn⟩)
 have HA:=hid ha
 have HW:Hid (∀p:ByteArray,p.size<=800-> ∀w,Calls Tryz.prog 32 #[.string p,.bool false] w fun e w'=>e= .returned (.string (asked false p))/\Below w.heap.size w w'):=fun p hp w=>Lx false hp w
 have HF:Hid (∀q s:ByteArray,q.size<=900->er q=0->s.size<=500-> ∀w,Calls Tryz.prog 33 #[.string q,.string s,.bool false] w fun e w'=>e= .returned (.bool (Dq (ins q) s))/\Below w.heap.size w w'):=fun q s h1 h2 h3 w=>PD h1 h2 h3
 have HT:Hid (∀q s:ByteArray,q.size<=900->er q=0->s.size<=500-> ∀w,Calls Tryz.prog 33 #[.string q,.string s,.bool true] w fun e w'=>e= .returned (.bool (OQ (ins q) s))/\Below w.heap.size w w'):=fun q s h1 h2 h3 w=>SY h1 h2 h3
 have qX:Hid (∀p:ByteArray,p.size<=1000-> ∀w,Calls Tryz.prog 34 #[.string p] w fun e w'=>e= .returned (.bool (Da p))/\Below w.heap.size w w'):=fun p hp w=>OL hp w
 have zL:Hid (∀w,Calls Tryz.prog 35 #[.string z] w fun e w'=>e= .returned (.string (base z))/\Below w.heap.size w w'):=fun w=>Jj.Oe z (base z) rfl (by omega) w
 have hbz:(base z).size<=404:=by have:=Rm z.data.toList;rw[Lib.size_eq];show(Ki.base z.data.toList).length<=_;rw[Lib.size_eq]at hz;omega
 have Pd:=hid hbz
 have hz2:(⟨#[47]⟩++z:ByteArray).size=z.size+1:=by rw[ByteArray.size_append];show 1+z.size=_;omega
 have HZ2:Hid ((DL z).size<=401):=by unfold Hid DL;omega
 have yw: ∀w:World,(Op.stringOp .add ⟨#[47]⟩ z).run Tryz.prog w= .ok (.string (DL z)) w:=fun w=>run_string_add_sum w _ _ (by show 1+z.size<=_;omega)
 have HZ:=hid hz
 clear hl hc1 hc2 hn ha hnn hz hbz hz2
 go_enter Tryz.func18,Tryz.ntmps18
 go_wp2_with fail
 go_loopg [7] n (fun gk s7 wr=> ∃i:Nat,s7= .int .i64 i/\Hid (i+gk=n)/\Hid (Dr (asks false (L.take i)) z=false)/\Hid (Below w.heap.size w wr))
 case atStart=>exact⟨0,rfl,by unfold Hid;omega,rfl,Below.refl _ _⟩
 case round=>
  obtain⟨i,rfl,hig,Q_,LB⟩:=hrel
  cases gk with
  |zero=>
   have hi2:i=n:=by have:=hig.out;omega
   subst hi2
   have ti: ¬(i:Int)<(i:Int):=by omega
   have hres:Hid (Dr (asks false L) z=false):=by
    have:=Q_.out
    rwa[<-HN.out,List.take_length]at this
   go_wp2_with fail
   go_ret
   exact⟨AX hres.out.symm,LB.out⟩
  |succ gk=>
   have hi1:i<n:=by have:=hig.out;omega
   have ti:(i:Int)<(n:Int):=by omega
   have tx:=HL.out.below LB.out
   obtain⟨ad,x,rfl,hb,hx,hxd⟩:=tx.at_ hi1
   have HXB:Hid (ad.block<w.heap.size):=hb
   have hil:i<L.length:=by rw[HN.out];exact hi1
   have Ro:L[i]'hil=x.data.toList:=by
    rw[hxd,List.getD_eq_getElem?_getD,List.getElem?_eq_getElem hil];rfl
   have hmx:mk (L[i]'hil)=x:=by rw[Ro];exact Ae x
   obtain⟨ha1,ha2,bG⟩:=HA.out _ (List.getElem_mem hil)
   rw[hmx]at ha1 ha2
   have hxs:x.size<=800:=by rw[Lib.size_eq,<-Ro];exact bG
   have htk:=Sa false hil z
   have hme:=fun h=>Uw false hil (s:=z) h
   rw[hmx]at htk hme
   have qO:=hid htk
   have xU:=hid hme
   have Va:wrap64 ((i:Int)+1)=((i+1:Nat):Int):=by have:=HC.out.2.2;unfold wrap64;omega
   have IY:Hid (i+1+gk=n):=by have:=hig.out;unfold Hid;omega
   have HW1:=hid (HW.out x hxs)
   have ma:=hid (qX.out x (by omega))
   have Kk:=L_ false hxs
   have B0:=LB
   have c0:=hx
   clear tx hb hxd Ro hmx hig htk hme bG LB hx
   cases hs:Da x with
   |true=>
    rw[hs]at ma
    have J5:=hid (HF.out (asked false x) (DL z) (by omega) ha2 (by have:=HZ2.out;omega))
    have hak:ask false x z=Dq (ins (asked false x)) (DL z):=by unfold ask;rw[if_neg (by decide),hs,if_pos rfl]
    cases hr:Dq (ins (asked false x)) (DL z)with
    |true=>
     rw[hr]at J5 hak
     have mH:=hid hak
     clear hr hak hs
     go_wp2_with fail
     refine(HW1.out _).mono ?_
     rintro e w1 ⟨rfl,l1⟩
     have hx1:=(l1.block _ (Nat.lt_of_lt_of_le HXB.out (B0.out.size)))
     have c1:w1.cell? (ad.add i)=some (.string x):=(World.cell?_of_block (by rw[block_add];exact hx1)).trans c0
     have B1:=hid (on B0.out l1)
     clear l1 hx1
     go_wp2_with fail
     refine(ma.out _).mono ?_
     rintro e w2 ⟨rfl,l2⟩
     have hx2:=(l2.block _ (Nat.lt_of_lt_of_le HXB.out (B1.out.size)))
     have c2:w2.cell? (ad.add i)=some (.string x):=(World.cell?_of_block (by rw[block_add];exact hx2)).trans c1
     have B2:=hid (on B1.out l2)
     clear l2 hx2
     go_wp2_with fail
     refine(J5.out _).mono ?_
     rintro e w3 ⟨rfl,l3⟩
     have hx3:=(l3.block _ (Nat.lt_of_lt_of_le HXB.out (B2.out.size)))
     have c3:w3.cell? (ad.add i)=some (.string x):=(World.cell?_of_block (by rw[block_add];exact hx3)).trans c2
     have B3:=hid (on B2.out l3)
     clear l3 hx3
     go_wp2_with fail
     go_ret
     exact⟨AX (xU.out mH.out).symm,B3.out⟩
    |false=>
     rw[hr]at J5 hak
     have mH:=hid hak
     clear hr hak hs
     go_wp2_with fail
     refine(HW1.out _).mono ?_
     rintro e w1 ⟨rfl,l1⟩
     have hx1:=(l1.block _ (Nat.lt_of_lt_of_le HXB.out (B0.out.size)))
     have c1:w1.cell? (ad.add i)=some (.string x):=(World.cell?_of_block (by rw[block_add];exact hx1)).trans c0
     have B1:=hid (on B0.out l1)
     clear l1 hx1
     go_wp2_with fail
     refine(ma.out _).mono ?_
     rintro e w2 ⟨rfl,l2⟩
     have hx2:=(l2.block _ (Nat.lt_of_lt_of_le HXB.out (B1.out.size)))
     have c2:w2.cell? (ad.add i)=some (.string x):=(World.cell?_of_block (by rw[block_add];exact hx2)).trans c1
     have B2:=hid (on B1.out l2)
     clear l2 hx2
     go_wp2_with fail
     refine(J5.out _).mono ?_
     rintro e w3 ⟨rfl,l3⟩
     have hx3:=(l3.block _ (Nat.lt_of_lt_of_le HXB.out (B2.out.size)))
     have c3:w3.cell? (ad.add i)=some (.string x):=(World.cell?_of_block (by rw[block_add];exact hx3)).trans c2
     have B3:=hid (on B2.out l3)
     clear l3 hx3
     go_wp2_with fail
     refine(ma.out _).mono ?_
     rintro e w4 ⟨rfl,l4⟩
     have B4:=hid (on B3.out l4)
     clear l4
     go_wp2_with fail
     go_roundg gk
     case measure=>omega
     case rel=>exact⟨i+1,congrArg (Value.int .i64) Va,IY,by unfold Hid;rw[qO.out,Q_.out,mH.out];rfl,B4⟩
   |false=>
    rw[hs]at ma
    have hq:asked false x=x:=by unfold asked;rw[if_neg (by decide),hs,if_neg (by decide)]
    rw[hq]at HW1
    have J5:=hid (HT.out x (base z) (by omega) ha1 (by have:=Pd.out;omega))
    have hak:ask false x z=OQ (ins x) (base z):=by unfold ask;rw[if_neg (by decide),hs,if_neg (by decide)];rfl
    cases hr:OQ (ins x) (base z)with
    |true=>
     rw[hr]at J5 hak
     have mH:=hid hak
     clear hr hak hs hq
     go_wp2_with fail
     refine(HW1.out _).mono ?_
     rintro e w1 ⟨rfl,l1⟩
     have hx1:=(l1.block _ (Nat.lt_of_lt_of_le HXB.out (B0.out.size)))
     have c1:w1.cell? (ad.add i)=some (.string x):=(World.cell?_of_block (by rw[block_add];exact hx1)).trans c0
     have B1:=hid (on B0.out l1)
     clear l1 hx1
     go_wp2_with fail
     refine(ma.out _).mono ?_
     rintro e w2 ⟨rfl,l2⟩
     have hx2:=(l2.block _ (Nat.lt_of_lt_of_le HXB.out (B1.out.size)))
     have c2:w2.cell? (ad.add i)=some (.string x):=(World.cell?_of_block (by rw[block_add];exact hx2)).trans c1
     have B2:=hid (on B1.out l2)
     clear l2 hx2
     go_wp2_with fail
     refine(ma.out _).mono ?_
     rintro e w3 ⟨rfl,l3⟩
     have hx3:=(l3.block _ (Nat.lt_of_lt_of_le HXB.out (B2.out.size)))
     have c3:w3.cell? (ad.add i)=some (.string x):=(World.cell?_of_block (by rw[block_add];exact hx3)).trans c2
     have B3:=hid (on B2.out l3)
     clear l3 hx3
     go_wp2_with fail
     refine(zL.out _).mono ?_
     rintro e w4 ⟨rfl,l4⟩
     have hx4:=(l4.block _ (Nat.lt_of_lt_of_le HXB.out (B3.out.size)))
     have c4:w4.cell? (ad.add i)=some (.string x):=(World.cell?_of_block (by rw[block_add];exact hx4)).trans c3
     have B4:=hid (on B3.out l4)
     clear l4 hx4
     go_wp2_with fail
     refine(J5.out _).mono ?_
     rintro e w5 ⟨rfl,l5⟩
     have B5:=hid (on B4.out l5)
     clear l5
     go_wp2_with fail
     go_ret
     exact⟨AX (xU.out mH.out).symm,B5.out⟩
    |false=>
     rw[hr]at J5 hak
     have mH:=hid hak
     clear hr hak hs hq
     go_wp2_with fail
     refine(HW1.out _).mono ?_
     rintro e w1 ⟨rfl,l1⟩
     have hx1:=(l1.block _ (Nat.lt_of_lt_of_le HXB.out (B0.out.size)))
     have c1:w1.cell? (ad.add i)=some (.string x):=(World.cell?_of_block (by rw[block_add];exact hx1)).trans c0
     have B1:=hid (on B0.out l1)
     clear l1 hx1
     go_wp2_with fail
     refine(ma.out _).mono ?_
     rintro e w2 ⟨rfl,l2⟩
     have hx2:=(l2.block _ (Nat.lt_of_lt_of_le HXB.out (B1.out.size)))
     have c2:w2.cell? (ad.add i)=some (.string x):=(World.cell?_of_block (by rw[block_add];exact hx2)).trans c1
     have B2:=hid (on B1.out l2)
     clear l2 hx2
     go_wp2_with fail
     refine(ma.out _).mono ?_
     rintro e w3 ⟨rfl,l3⟩
     have hx3:=(l3.block _ (Nat.lt_of_lt_of_le HXB.out (B2.out.size)))
     have c3:w3.cell? (ad.add i)=some (.string x):=(World.cell?_of_block (by rw[block_add];exact hx3)).trans c2
     have B3:=hid (on B2.out l3)
     clear l3 hx3
     go_wp2_with fail
     refine(zL.out _).mono ?_
     rintro e w4 ⟨rfl,l4⟩
     have hx4:=(l4.block _ (Nat.lt_of_lt_of_le HXB.out (B3.out.size)))
     have c4:w4.cell? (ad.add i)=some (.string x):=(World.cell?_of_block (by rw[block_add];exact hx4)).trans c3
     have B4:=hid (on B3.out l4)
     clear l4 hx4
     go_wp2_with fail
     refine(J5.out _).mono ?_
     rintro e w5 ⟨rfl,l5⟩
     have B5:=hid (on B4.out l5)
     clear l5
     go_wp2_with fail
     go_roundg gk
     case measure=>omega
     case rel=>exact⟨i+1,congrArg (Value.int .i64) Va,IY,by unfold Hid;rw[qO.out,Q_.out,mH.out];rfl,B5⟩
end
end Gg
namespace Gg
open Strs Al
open Kt (Bytes)
open Kit (below_draws on AX)
theorem Sb (b:Bool): ∀(L:List Bytes) (i:Nat),(bad b L i).2=0->bad b L i=(-1,0)/\ ∀p∈L,IU b (mk p)=0
 | [],_,_=>⟨rfl,by simp⟩
 |p::r,i,h=>by
  rw[bad]at h ⊢
  by_cases c:IU b (mk p)≠0
  ·rw[if_pos c]at h;exact absurd h c
  rw[if_neg c]at h ⊢
  obtain⟨h1,h2⟩:=Sb b r (i+1) h
  refine⟨h1,fun q hq=> ?_⟩
  rcases List.mem_cons.1 hq with rfl|hq
  ·simpa using c
  exact h2 q hq
theorem Sc {b:Bool} {L:List Bytes} (h: ∀p∈L,IU b (mk p)=0) (hs: ∀p∈L,p.length<=800):Pv b L:=fun p hp=>by
 have h1:=h p hp
 unfold IU at h1
 by_cases c:er (mk p)=0
 ·rw[if_neg (by simp[c])]at h1;exact⟨c,h1,hs p hp⟩
 rw[if_pos c]at h1;exact absurd h1 c
theorem YU (b:Bool) (L:List Bytes):(asks b L).length=L.length:=by unfold asks;simp
section
variable {w:World} {z:ByteArray} {lv:Value} {L:List Bytes}
def YV (b:Bool) (L:List Bytes) (z:ByteArray):Prop:= ∀(w:World) (v:Value),Bc w.heap.size w v L->Calls Tryz.prog 18 #[v,.bool b,.string z] w fun e w'=>e= .returned (.bool (Dr (asks b L) z))/\Below w.heap.size w w'
theorem qg {b:Bool} (hn:L.length<=1000) (ha:Pv b L) (hz:z.size<=400):YV b L z:=fun w v h=>by
 cases b with
 |true=>exact YT h hn ha hz
 |false=>exact V5 h hn ha hz
set_option maxHeartbeats 8000000 in
theorem mI (hl:Bc w.heap.size w lv L) (qh:Calls Tryz.prog 12 #[lv] w fun e w'=>e= .returned (.bool true)/\Below w.heap.size w w') (hn:L.length<=1000) (hs: ∀p∈L,p.length<=800) (hz:z.size<=30):Calls Tryz.prog 4 #[lv,.bool true,.string z] w (mW w):=by
 have HV:=hid KY
 unfold mW at HV ⊢
 have ZU:=hid qh
 clear qh
 have HC0:Hid (∀(w:World) (v:Value),Bc w.heap.size w v L->Calls Tryz.prog 13 #[v] w fun e w'=>(∃(u:Value) (x y:Int),e= .returned (.tuple #[u,.int .i64 x,.int .i64 y]))/\Below w.heap.size w w'):=fun w v h=>by
  refine(H_ h hn hs).mono ?_
  rintro e w' ⟨l,(⟨-,q,rfl,-⟩|⟨-,rfl⟩)⟩
  ·exact⟨⟨_,_,_,rfl⟩,l⟩
  exact⟨⟨_,_,_,rfl⟩,l⟩
 by_cases h0:(bad true L 0).2=0
 ·skip
  obtain⟨hb,hall⟩:=Sb true L 0 h0
  have qD:Hid (∀(w:World) (v:Value),Bc w.heap.size w v L->Calls Tryz.prog 15 #[v,.bool true] w fun e w'=>e= .returned (.tuple #[.int .i64 (-1),.int .i64 0])/\Below w.heap.size w w'):=fun w v h=>by
   have:=Ke true h hn hs
   rwa[hb]at this
  have uC:Hid (YV true L z):=qg hn (Sc hall hs) (by omega)
  have a_:Hid (∀(w:World) (v:Value),Bc w.heap.size w v L->Calls Tryz.prog 14 #[v] w fun e w'=> ∃q,e= .returned (.tuple #[.pointer (some ⟨q,0,none⟩),.int .i64 (-1),.int .i64 0])/\FO w' q (asks true L)/\Below w.heap.size w w'):=fun w v h=>by
   refine(Rp h hn hs).mono ?_
   rintro e w' ⟨l,(⟨-,q,rfl,hS⟩|⟨h,-⟩)⟩
   ·exact⟨q,rfl,hS,l⟩
   exact absurd h0 h
  have Pj:Hid (∀(w:World) (q:Nat),FO w q (asks true L)->Calls Tryz.prog 16 #[.pointer (some ⟨q,0,none⟩)] w fun e w'=>e= .returned (.int .i64 (L.length:Nat))/\w'=w):=fun w q h=>by
   have:=Vb h
   rwa[YU]at this
  have wK:Hid (∀(w:World) (q:Nat),FO w q (asks true L)->Calls Tryz.prog 17 #[.pointer (some ⟨q,0,none⟩),.string z] w fun e w'=>e= .returned (.bool (Dr (asks true L) z))/\Below w.heap.size w w'):=fun w q h=>Md h (by omega)
  unfold YV at uC
  generalize asks true L=S at*
  obtain⟨B,hB⟩: ∃B,Dr S z=B:=⟨_,rfl⟩
  rw[hB]at uC wK
  have tb:(B==B)=true:=beq_self_eq_true _
  have tl:(((L.length:Nat):Int)==((L.length:Nat):Int))=true:=beq_self_eq_true _
  clear hB hb hall h0
  obtain⟨A,c,rfl,hc1,hc2⟩:=hl.form
  have T0:=hid hl
  have tz: ¬(z.size:Int)>30:=by omega
  clear hl hn hs hz hc1 hc2
  go_enter Tryz.func4,Tryz.ntmps4
  go_wp2_with fail
  refine ZU.out.mono ?_
  rintro e w1 ⟨rfl,l1⟩
  have B1:=hid l1
  have T1:=hid ((T0.out.below l1).more l1.size)
  clear l1
  go_wp2_with fail
  refine(HC0.out _ _ T1.out).mono ?_
  rintro e w2 ⟨⟨u,x,y,rfl⟩,l2⟩
  have B2:=hid (on B1.out l2)
  have T2:=hid ((T1.out.below l2).more l2.size)
  clear l2
  go_wp2_with fail
  refine(a_.out _ _ T2.out).mono ?_
  rintro e wk ⟨q,rfl,sk,lk⟩
  have SK:=hid sk
  have BK:=hid (on B2.out lk)
  have TK:=hid ((T2.out.below lk).more lk.size)
  clear sk lk
  go_wp2_with fail
  refine(qD.out _ _ TK.out).mono ?_
  rintro e wa ⟨rfl,la⟩
  have SA:=hid (SK.out.below la)
  have BA:=hid (on BK.out la)
  have TA:=hid ((TK.out.below la).more la.size)
  clear la
  go_wp2_with fail
  refine(Pj.out _ _ SA.out).mono ?_
  rintro e wb ⟨rfl,rfl⟩
  go_wp2_with fail
  refine(wK.out _ _ SA.out).mono ?_
  rintro e wc ⟨rfl,lc⟩
  have BC:=hid (on BA.out lc)
  have TC:=hid ((TA.out.below lc).more lc.size)
  clear lc
  go_wp2_with fail
  refine(uC.out _ _ TC.out).mono ?_
  rintro e wd ⟨rfl,ld⟩
  have BD:=hid (on BC.out ld)
  clear ld
  go_wp2_with fail
  refine(HV.out _).mono ?_
  rintro e we ⟨rfl,le⟩
  have BE:=hid (on BD.out le)
  clear le
  go_wp2_with fail
  go_ret
  exact⟨rfl,BE.out⟩
 skip
 have qD:Hid (∀(w:World) (v:Value),Bc w.heap.size w v L->Calls Tryz.prog 15 #[v,.bool true] w fun e w'=>e= .returned (.tuple #[.int .i64 (bad true L 0).1,.int .i64 (bad true L 0).2])/\Below w.heap.size w w'):=fun w v h=>Ke true h hn hs
 have a_:Hid (∀(w:World) (v:Value),Bc w.heap.size w v L->Calls Tryz.prog 14 #[v] w fun e w'=>e= .returned (.tuple #[.pointer none,.int .i64 (bad true L 0).1,.int .i64 (bad true L 0).2])/\Below w.heap.size w w'):=fun w v h=>by
  refine(Rp h hn hs).mono ?_
  rintro e w' ⟨l,(⟨h,-⟩|⟨-,rfl⟩)⟩
  ·exact absurd h h0
  exact⟨rfl,l⟩
 obtain⟨X,hX⟩: ∃X,(bad true L 0).1=X:=⟨_,rfl⟩
 obtain⟨E,hE⟩: ∃E,(bad true L 0).2=E:=⟨_,rfl⟩
 rw[hX,hE]at qD a_
 rw[hE]at h0
 have tx:(X !=X)=false:=by simp
 have te:(E !=E)=false:=by simp
 have t0:(E !=0)=true:=by simpa using h0
 have t0b:(E==0)=false:=by simpa using h0
 clear hX hE h0
 obtain⟨A,c,rfl,hc1,hc2⟩:=hl.form
 have T0:=hid hl
 have tz: ¬(z.size:Int)>30:=by omega
 clear hl hn hs hz hc1 hc2
 go_enter Tryz.func4,Tryz.ntmps4
 go_wp2_with fail
 refine ZU.out.mono ?_
 rintro e w1 ⟨rfl,l1⟩
 have B1:=hid l1
 have T1:=hid ((T0.out.below l1).more l1.size)
 clear l1
 go_wp2_with fail
 refine(HC0.out _ _ T1.out).mono ?_
 rintro e w2 ⟨⟨u,x,y,rfl⟩,l2⟩
 have B2:=hid (on B1.out l2)
 have T2:=hid ((T1.out.below l2).more l2.size)
 clear l2
 go_wp2_with fail
 refine(a_.out _ _ T2.out).mono ?_
 rintro e wk ⟨rfl,lk⟩
 have BK:=hid (on B2.out lk)
 have TK:=hid ((T2.out.below lk).more lk.size)
 clear lk
 go_wp2_with fail
 refine(qD.out _ _ TK.out).mono ?_
 rintro e wa ⟨rfl,la⟩
 have BA:=hid (on BK.out la)
 clear la
 go_wp2_with fail
 refine(HV.out _).mono ?_
 rintro e we ⟨rfl,le⟩
 have BE:=hid (on BA.out le)
 clear le
 go_wp2_with fail
 go_ret
 exact⟨rfl,BE.out⟩
set_option maxHeartbeats 8000000 in
theorem gF (hl:Bc w.heap.size w lv L) (qh:Calls Tryz.prog 12 #[lv] w fun e w'=>e= .returned (.bool true)/\Below w.heap.size w w') (hn:L.length<=1000) (hs: ∀p∈L,p.length<=800) (hz:z.size<=30):Calls Tryz.prog 4 #[lv,.bool false,.string z] w (mW w):=by
 have HV:=hid KY
 unfold mW at HV ⊢
 have ZU:=hid qh
 clear qh
 by_cases h0:(bad false L 0).2=0
 ·skip
  obtain⟨hb,hall⟩:=Sb false L 0 h0
  have qD:Hid (∀(w:World) (v:Value),Bc w.heap.size w v L->Calls Tryz.prog 15 #[v,.bool false] w fun e w'=>e= .returned (.tuple #[.int .i64 (-1),.int .i64 0])/\Below w.heap.size w w'):=fun w v h=>by
   have:=Ke false h hn hs
   rwa[hb]at this
  have uC:Hid (YV false L z):=qg hn (Sc hall hs) (by omega)
  have a_:Hid (∀(w:World) (v:Value),Bc w.heap.size w v L->Calls Tryz.prog 13 #[v] w fun e w'=> ∃q,e= .returned (.tuple #[.pointer (some ⟨q,0,none⟩),.int .i64 (-1),.int .i64 0])/\FO w' q (asks false L)/\Below w.heap.size w w'):=fun w v h=>by
   refine(H_ h hn hs).mono ?_
   rintro e w' ⟨l,(⟨-,q,rfl,hS⟩|⟨h,-⟩)⟩
   ·exact⟨q,rfl,hS,l⟩
   exact absurd h0 h
  have Pj:Hid (∀(w:World) (q:Nat),FO w q (asks false L)->Calls Tryz.prog 16 #[.pointer (some ⟨q,0,none⟩)] w fun e w'=>e= .returned (.int .i64 (L.length:Nat))/\w'=w):=fun w q h=>by
   have:=Vb h
   rwa[YU]at this
  have wK:Hid (∀(w:World) (q:Nat),FO w q (asks false L)->Calls Tryz.prog 17 #[.pointer (some ⟨q,0,none⟩),.string z] w fun e w'=>e= .returned (.bool (Dr (asks false L) z))/\Below w.heap.size w w'):=fun w q h=>Md h (by omega)
  unfold YV at uC
  generalize asks false L=S at*
  obtain⟨B,hB⟩: ∃B,Dr S z=B:=⟨_,rfl⟩
  rw[hB]at uC wK
  have tb:(B==B)=true:=beq_self_eq_true _
  have tl:(((L.length:Nat):Int)==((L.length:Nat):Int))=true:=beq_self_eq_true _
  clear hB hb hall h0
  obtain⟨A,c,rfl,hc1,hc2⟩:=hl.form
  have T0:=hid hl
  have tz: ¬(z.size:Int)>30:=by omega
  clear hl hn hs hz hc1 hc2
  go_enter Tryz.func4,Tryz.ntmps4
  go_wp2_with fail
  refine ZU.out.mono ?_
  rintro e w1 ⟨rfl,l1⟩
  have B1:=hid l1
  have T1:=hid ((T0.out.below l1).more l1.size)
  clear l1
  go_wp2_with fail
  refine(a_.out _ _ T1.out).mono ?_
  rintro e wk ⟨q,rfl,sk,lk⟩
  have SK:=hid sk
  have BK:=hid (on B1.out lk)
  have TK:=hid ((T1.out.below lk).more lk.size)
  clear sk lk
  go_wp2_with fail
  refine(qD.out _ _ TK.out).mono ?_
  rintro e wa ⟨rfl,la⟩
  have SA:=hid (SK.out.below la)
  have BA:=hid (on BK.out la)
  have TA:=hid ((TK.out.below la).more la.size)
  clear la
  go_wp2_with fail
  refine(Pj.out _ _ SA.out).mono ?_
  rintro e wb ⟨rfl,rfl⟩
  go_wp2_with fail
  refine(wK.out _ _ SA.out).mono ?_
  rintro e wc ⟨rfl,lc⟩
  have BC:=hid (on BA.out lc)
  have TC:=hid ((TA.out.below lc).more lc.size)
  clear lc
  go_wp2_with fail
  refine(uC.out _ _ TC.out).mono ?_
  rintro e wd ⟨rfl,ld⟩
  have BD:=hid (on BC.out ld)
  clear ld
  go_wp2_with fail
  refine(HV.out _).mono ?_
  rintro e we ⟨rfl,le⟩
  have BE:=hid (on BD.out le)
  clear le
  go_wp2_with fail
  go_ret
  exact⟨rfl,BE.out⟩
 skip
 have qD:Hid (∀(w:World) (v:Value),Bc w.heap.size w v L->Calls Tryz.prog 15 #[v,.bool false] w fun e w'=>e= .returned (.tuple #[.int .i64 (bad false L 0).1,.int .i64 (bad false L 0).2])/\Below w.heap.size w w'):=fun w v h=>Ke false h hn hs
 have a_:Hid (∀(w:World) (v:Value),Bc w.heap.size w v L->Calls Tryz.prog 13 #[v] w fun e w'=>e= .returned (.tuple #[.pointer none,.int .i64 (bad false L 0).1,.int .i64 (bad false L 0).2])/\Below w.heap.size w w'):=fun w v h=>by
  refine(H_ h hn hs).mono ?_
  rintro e w' ⟨l,(⟨h,-⟩|⟨-,rfl⟩)⟩
  ·exact absurd h h0
  exact⟨rfl,l⟩
 obtain⟨X,hX⟩: ∃X,(bad false L 0).1=X:=⟨_,rfl⟩
 obtain⟨E,hE⟩: ∃E,(bad false L 0).2=E:=⟨_,rfl⟩
 rw[hX,hE]at qD a_
 rw[hE]at h0
 have tx:(X !=X)=false:=by simp
 have te:(E !=E)=false:=by simp
 have t0:(E !=0)=true:=by simpa using h0
 have t0b:(E==0)=false:=by simpa using h0
 clear hX hE h0
 obtain⟨A,c,rfl,hc1,hc2⟩:=hl.form
 have T0:=hid hl
 have tz: ¬(z.size:Int)>30:=by omega
 clear hl hn hs hz hc1 hc2
 go_enter Tryz.func4,Tryz.ntmps4
 go_wp2_with fail
 refine ZU.out.mono ?_
 rintro e w1 ⟨rfl,l1⟩
 have B1:=hid l1
 have T1:=hid ((T0.out.below l1).more l1.size)
 clear l1
 go_wp2_with fail
 refine(a_.out _ _ T1.out).mono ?_
 rintro e wk ⟨rfl,lk⟩
 have BK:=hid (on B1.out lk)
 have TK:=hid ((T1.out.below lk).more lk.size)
 clear lk
 go_wp2_with fail
 refine(qD.out _ _ TK.out).mono ?_
 rintro e wa ⟨rfl,la⟩
 have BA:=hid (on BK.out la)
 clear la
 go_wp2_with fail
 refine(HV.out _).mono ?_
 rintro e we ⟨rfl,le⟩
 have BE:=hid (on BA.out le)
 clear le
 go_wp2_with fail
 go_ret
 exact⟨rfl,BE.out⟩
theorem Ta (lv:Value) (L:List Bytes) (hl:Bc w.heap.size w lv L) (_: ∀l∈L,l.length<=maxLen) (b:Bool) (z:ByteArray) (_:z.size<=140737488351232):Calls Tryz.prog 4 #[lv,.bool b,.string z] w (mW w):=by
 obtain⟨cl,hcl⟩: ∃cl:Bool,Calls Tryz.prog 12 #[lv] w fun e w'=>e= .returned (.bool cl)/\(cl=true->L.length<=20/\ ∀p∈L,p.length<=40)/\Below w.heap.size w w':=⟨Fv L,(lu hl).mono fun _ _ h=>⟨h.1,aI,h.2⟩⟩
 by_cases hgo:cl=true/\z.size<=30
 ·obtain⟨rfl,hz⟩:=hgo
  obtain⟨h1,h2⟩:L.length<=20/\ ∀p∈L,p.length<=40:=by
   obtain⟨e1,w1,fr1,hB,-⟩:=hcl []
   exact hB.2.1 rfl
  have qh:=hcl.mono (R':=fun e w'=>e= .returned (.bool true)/\Below w.heap.size w w') fun _ _ h=>⟨h.1,h.2.2⟩
  cases b with
  |true=>exact mI hl qh (by omega) (fun p hp=>by have:=h2 p hp;omega) hz
  |false=>exact gF hl qh (by omega) (fun p hp=>by have:=h2 p hp;omega) hz
 have HV:=hid KY
 unfold mW at HV ⊢
 have ZU:=hid (hcl.mono (R':=fun e w'=>e= .returned (.bool cl)/\Below w.heap.size w w') fun _ _ h=>⟨h.1,h.2.2⟩)
 obtain⟨A,c,rfl,-,-⟩:=hl.form
 clear hl hcl
 cases cl with
 |false=>
  clear hgo
  go_enter Tryz.func4,Tryz.ntmps4
  go_wp2_with fail
  refine ZU.out.mono ?_
  rintro e w1 ⟨rfl,l1⟩
  have B1:=hid l1
  clear l1
  go_wp2_with fail
  refine(HV.out _).mono ?_
  rintro e w2 ⟨rfl,l2⟩
  have B2:=hid (on B1.out l2)
  clear l2
  go_wp2_with fail
  go_ret
  exact⟨rfl,B2.out⟩
 |true=>
  have tz:(z.size:Int)>30:=by
   by_cases h:z.size<=30
   ·exact absurd ⟨rfl,h⟩ hgo
   omega
  clear hgo
  go_enter Tryz.func4,Tryz.ntmps4
  go_wp2_with fail
  refine ZU.out.mono ?_
  rintro e w1 ⟨rfl,l1⟩
  have B1:=hid l1
  clear l1
  go_wp2_with fail
  refine(HV.out _).mono ?_
  rintro e w2 ⟨rfl,l2⟩
  have B2:=hid (on B1.out l2)
  clear l2
  go_wp2_with fail
  go_ret
  exact⟨rfl,B2.out⟩
end
end Gg
end Go.Proofs.YtfgegjinhkgpbaaGreatDoor
