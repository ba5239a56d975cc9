/-
  Texts joined, in build order, each with its own comment and its own conditions: W17Sets, W17New, W17Set, W17Math, W17Lines, W17Line, W17Make, W17Has, W17Reckon, W17Lives, W15RefReps, W15RefMade, W14RefBox.
-/
import Derived.Test.YtfgegjinhkgpbaaGreatDoorJ17
import Derived.Test.YtfgegjinhkgpbaaGreatDoorJ18
import Derived.Test.YtfgegjinhkgpbaaGreatDoorJ02
import Derived.Deep.RegionHeld3
import Derived.Test.YtfgegjinhkgpbaaGreatDoorJ01
import Derived.Lib.SlTrimSet
import Derived.Lib.IndexMore
import Derived.Lib.Strings
import Derived.Shelf.Strings.SlTrimAscii
import Derived.Test.YtfgegjinhkgpbaaGreatDoorJ10
import Derived.Test.YtfgegjinhkgpbaaGreatDoorJ15
namespace Go.Proofs.YtfgegjinhkgpbaaGreatDoor
set_option maxHeartbeats 4000000
set_option maxRecDepth 100000
open Go.RowKit
open Lib (hid)
namespace W17
open Go.Shelf Strs Recs
open M15 (Inst)
open M16 (yields)
open W15 (Prg insC insC_len Gives Fails)
open Kit (below_draws on ret_bool)
def base (s:ByteArray):ByteArray:=⟨(M04.base s.data.toList).toArray⟩
def wholeF (L:List Inst) (s:ByteArray):Bool:=(yields L (base s).data.toList 0 0).any fun y=>decide (y.2=(base s).size)
def foundF (L:List Inst) (s:ByteArray):Bool:=W16.found L s
def slashed (s:ByteArray):ByteArray:=⟨#[47]⟩++s
def hasSlash (p:ByteArray):Bool:=p.data.toList.contains 47
def asked (begins:Bool) (p:ByteArray):ByteArray:=if begins then⟨#[94,40]⟩++p++⟨#[41]⟩else if hasSlash p then⟨#[40]⟩++p++⟨#[41,40,47,124,36,41]⟩else p
def ask (begins:Bool) (p s:ByteArray):Bool:=if begins then foundF (ins (asked begins p)) s else if hasSlash p then foundF (ins (asked begins p)) (slashed s)else wholeF (ins p) s
abbrev Blocks:=Nat→Prop
def Asks (F:Blocks) (w:World) (f:Value) (h:ByteArray→Bool):Prop:=
 (∀k,F k→k<w.heap.size)∧ ∃g lb,f= .func (.func g) #[] lb∧(∀args w',(callFunc g args).run Tryz.prog w'= .ok (.enter g args) w')∧
  ∀w',(∀k,F k→w'.heap[k]? =w.heap[k]?)→w.heap.size≤w'.heap.size→ ∀s:ByteArray,s.size≤1000→Calls Tryz.prog g (#[.string s]++lb) w' fun e w''=>e= .returned (.bool (h s))∧Below w'.heap.size w' w''
section
variable {F G:Blocks} {w w':World} {b:Nat} {v f:Value} {L:List Inst} {s p:ByteArray} {h:ByteArray→Bool}
theorem Asks.same (a:Asks F w f h) (hk: ∀k,F k→w'.heap[k]? =w.heap[k]?) (hs:w.heap.size≤w'.heap.size):Asks F w' f h:=by
 obtain⟨h1,g,lb,e,en,hc⟩:=a
 exact⟨fun k q=>Nat.lt_of_lt_of_le (h1 k q) hs,g,lb,e,en,fun w2 h2 h3=>hc w2 (fun k q=>(h2 k q).trans (hk k q)) (Nat.le_trans hs h3)⟩
theorem Asks.below (a:Asks F w f h) (hb:Below w.heap.size w w'):Asks F w' f h:=a.same (fun k q=>hb.block k (a.1 k q)) hb.size
theorem Asks.wider (a:Asks F w f h) (hG: ∀k,G k→k<w.heap.size) (hs: ∀k,F k→G k):Asks G w f h:=by
 obtain⟨-,g,lb,e,en,hc⟩:=a
 exact⟨hG,g,lb,e,en,fun w2 h2 h3=>hc w2 (fun k q=>h2 k (hs k q)) h3⟩
structure Keeps (F:Blocks) (w:World) (b:Nat) (v:Value) (L:List Inst):Prop where
 cell:w.cell? ⟨b,0,none⟩=some v
 box:F b
 row: ∀A n c,v= .slice (some A) n c→F A.block
 low: ∀k,F k→k<w.heap.size
 prg:Prg w.heap.size w v L
theorem Keeps.same (h:Keeps F w b v L) (hk: ∀k,F k→w'.heap[k]? =w.heap[k]?) (hs:w.heap.size≤w'.heap.size):Keeps F w' b v L:=by
 refine⟨(World.cell?_of_block (hk b h.box)).trans h.cell,h.box,h.row,fun k q=>Nat.lt_of_lt_of_le (h.low k q) hs,?_⟩
 obtain⟨A,c,e,h1,h2,h3⟩:=h.prg
 refine⟨A,c,e,h1,h2,fun hn=> ?_⟩
 obtain⟨ad,e2,hb,hc⟩:=h3 hn
 exact⟨ad,e2,Nat.lt_of_lt_of_le hb hs,fun k hk2 j hj=>(World.cell?_of_block (by rw[block_add];exact hk _ (h.row ad L.length c (by rw[e,e2])))).trans (hc k hk2 j hj)⟩
theorem base_len (s:M04.Bytes):(M04.base s).length≤s.length+4:=by
 have h3:=M04.parts_total (M04.clean s)
 have h4:=M04.clean_len s
 unfold M04.base
 rw[List.getLastD_eq_getLast?,List.getLast?_eq_getElem?,←List.getD_eq_getElem?_getD]
 by_cases h:(M04.parts (M04.clean s)).length-1<(M04.parts (M04.clean s)).length
 ·have:=W04.part_bound h;omega
 ·have e:M04.parts (M04.clean s)= []:=List.length_eq_zero_iff.1 (by omega)
  rw[e];simp
theorem base_size (h:s.size≤1000):(base s).size≤1004:=by
 have h1:=base_len s.data.toList
 rw[Lib.size_eq]
 show(M04.base s.data.toList).length≤1004
 rw[Lib.size_eq]at h
 omega
theorem cell_on {w1 w2:World} (h:w1.cell? ⟨b,0,none⟩=some v∧Below w.heap.size w w1) (hb:Below w1.heap.size w1 w2):w2.cell? ⟨b,0,none⟩=some v∧Below w.heap.size w w2:=⟨(hb.cell (World.block_lt_of_cell? w1 _ h.1)).trans h.1,on h.2 hb⟩
theorem cell_draw {w1:World} (h:w1.cell? ⟨b,0,none⟩=some v∧Below w.heap.size w w1):w1.drew.cell? ⟨b,0,none⟩=some v∧Below w.heap.size w w1.drew:=⟨h.1,on h.2 (below_draws w1 1)⟩
/-! the functions that are kept -/
theorem ask_whole (h:Keeps F w b v L) (hn:L.length≤4001) (hs:s.size≤1000):Calls Tryz.prog 50 #[.string s,.pointer (some ⟨b,0,none⟩)] w fun e w'=>e= .returned (.bool (wholeF L s))∧Below w.heap.size w w':=by
 have c0:=h.cell
 have hp:=h.prg
 have HB:=hid (fun w=>W04.base_at s (base s) rfl (by omega) w)
 have HW:Hid (∀w',Below w.heap.size w w'→Calls Tryz.prog 51 #[v,.string (base s)] w' fun e w''=>e= .returned (.bool (wholeF L s))∧Below w'.heap.size w' w''):=fun w' hb=>
  W16.whole_any ((hp.below hb).more hb.size) (by omega) (by have:=base_size hs;omega)
 obtain⟨R,hR⟩: ∃R,wholeF L s=R:=⟨_,rfl⟩
 rw[hR]at HW ⊢
 obtain⟨d,hd⟩: ∃d,base s=d:=⟨_,rfl⟩
 rw[hd]at HB HW
 obtain⟨A,c,rfl,-,-⟩:=hp.form
 clear hp hR hd hn hs h
 go_enter Tryz.func50,Tryz.ntmps50
 go_wp2_with fail
 go_region_held3 (fun w'=>w'.cell? ⟨b,0,none⟩=some (.slice A L.length c)∧Below w.heap.size w w')
  (first|exact cell_on (by assumption) hb3|exact cell_on (by assumption) hb2|exact⟨c0,below_draws w 1⟩|exact cell_draw (by assumption)|go_keep)
  (first
   |(go_at_call 52;refine(HB.out _).mono ?_;rintro e x2 ⟨rfl,hb2⟩)
   |(go_at_call 51;refine(HW.out _ (And.right (by assumption))).mono ?_;rintro e x3 ⟨rfl,hb3⟩))
 obtain⟨-,hbb⟩:=(by assumption:x3.cell? ⟨b,0,none⟩=some (.slice A L.length c)∧Below w.heap.size w x3)
 go_wp2_with fail
 go_ret
 exact⟨rfl,hbb⟩
theorem ask_search (h:Keeps F w b v L) (hn:L.length≤4001) (hs:s.size≤1000):Calls Tryz.prog 53 #[.string s,.pointer (some ⟨b,0,none⟩)] w fun e w'=>e= .returned (.bool (foundF L (slashed s)))∧Below w.heap.size w w':=by
 have c0:=h.cell
 have hp:=h.prg
 have hz:(⟨#[47]⟩++s:ByteArray).size=s.size+1:=by rw[ByteArray.size_append];show 1+s.size=_;omega
 have HW:Hid (Calls Tryz.prog 54 #[v,.string (⟨#[47]⟩++s)] w fun e w''=>e= .returned (.bool (foundF L (slashed s)))∧Below w.heap.size w w''):=
  W16.search_any (s:=slashed s) hp (by omega) (by show(⟨#[47]⟩++s:ByteArray).size≤_;omega)
 have HRA: ∀w:World,(Op.stringOp .add ⟨#[47]⟩ s).run Tryz.prog w= .ok (.string (⟨#[47]⟩++s)) w:=fun w=>run_string_add_sum w _ _ (by show 1+s.size≤_;omega)
 obtain⟨R,hR⟩: ∃R,foundF L (slashed s)=R:=⟨_,rfl⟩
 rw[hR]at HW ⊢
 obtain⟨A,c,rfl,-,-⟩:=hp.form
 clear hp hR hn hs h hz
 go_enter Tryz.func53,Tryz.ntmps53
 go_wp2_with fail
 refine HW.out.mono ?_
 rintro e w1 ⟨rfl,hb⟩
 go_wp2_with fail
 go_ret
 exact⟨rfl,hb⟩
theorem ask_begins (h:Keeps F w b v L) (hn:L.length≤4001) (hs:s.size≤1000):Calls Tryz.prog 55 #[.string s,.pointer (some ⟨b,0,none⟩)] w fun e w'=>e= .returned (.bool (foundF L s))∧Below w.heap.size w w':=by
 have c0:=h.cell
 have hp:=h.prg
 have HW:Hid (Calls Tryz.prog 54 #[v,.string s] w fun e w''=>e= .returned (.bool (foundF L s))∧Below w.heap.size w w''):=W16.search_any hp (by omega) (by omega)
 obtain⟨R,hR⟩: ∃R,foundF L s=R:=⟨_,rfl⟩
 rw[hR]at HW ⊢
 obtain⟨A,c,rfl,-,-⟩:=hp.form
 clear hp hR hn hs h
 go_enter Tryz.func55,Tryz.ntmps55
 go_wp2_with fail
 refine HW.out.mono ?_
 rintro e w1 ⟨rfl,hb⟩
 go_wp2_with fail
 go_ret
 exact⟨rfl,hb⟩
end
def Two (b:Nat) (v:Value) (k:Nat):Prop:=k=b∨ ∃A n c,v= .slice (some A) n c∧k=A.block
section
variable {F:Blocks} {w:World} {b:Nat} {v:Value} {L:List Inst}
theorem keeps_new {base0:Nat} (h:w.ownsRow base0 106 4 v L.length (L.flatMap insC)) (t:TypeId):Keeps (Two w.heap.size v) (w.alloc (.cells #[v] t)) w.heap.size v L:=by
 have hp:=Recs.of_own insC_len rfl h
 refine⟨(Boxed.new w t v).cell,Or.inl rfl,fun A n c e=>Or.inr ⟨A,n,c,e,rfl⟩,fun k hk=> ?_,(hp.alloc (Nat.le_refl _) _).more (by rw[World.size_alloc];omega)⟩
 rw[World.size_alloc]
 rcases hk with rfl|⟨A,n,c,e,rfl⟩
 ·omega
 ·have:=h.lt A.block (by rw[e];rfl)
  omega
theorem asks_whole (h:Keeps F w b v L) (hn:L.length≤4001):Asks F w (.func (.func 50) #[] #[.pointer (some ⟨b,0,none⟩)]) (wholeF L):=
 ⟨h.low,_,_,rfl,enters_of Tryz.func50 (by kernel_rfl) rfl,fun _ hk hs _ hz=>ask_whole (h.same hk hs) hn hz⟩
theorem asks_search (h:Keeps F w b v L) (hn:L.length≤4001):Asks F w (.func (.func 53) #[] #[.pointer (some ⟨b,0,none⟩)]) (fun s=>foundF L (slashed s)):=
 ⟨h.low,_,_,rfl,enters_of Tryz.func53 (by kernel_rfl) rfl,fun _ hk hs _ hz=>ask_search (h.same hk hs) hn hz⟩
theorem asks_begins (h:Keeps F w b v L) (hn:L.length≤4001):Asks F w (.func (.func 55) #[] #[.pointer (some ⟨b,0,none⟩)]) (foundF L):=
 ⟨h.low,_,_,rfl,enters_of Tryz.func55 (by kernel_rfl) rfl,fun _ hk hs _ hz=>ask_begins (h.same hk hs) hn hz⟩
end
end W17
namespace W17
open Go.Shelf Strs Recs
open M15 (Inst)
open W15 (Prg insC insC_len Gives Fails)
open Kit (below_draws on ret_bool)
def Hows (lo:Nat) (x:Int) (h:ByteArray→Bool) (w:World) (e:Ending) (w':World):Prop:=
 Below w.heap.size w w'∧((x=0∧ ∃F f,e= .returned (.tuple #[f,.int .i64 0])∧Asks F w' f h∧ ∀k,F k→lo≤k)∨(x≠0∧e= .returned (.tuple #[.nilFunc,.int .i64 x])))
def erIn (begins:Bool) (p:ByteArray):Int:=er (asked begins p)
section
variable {w:World} {lo:Nat} {p:ByteArray} {v:Value}
theorem two_low {b:Nat} {v:Value} {lo:Nat} (hb:lo≤b) (h: ∀k,v.ownBlock=some k→lo≤k): ∀k,Two b v k→lo≤k:=by
 rintro k (rfl|⟨A,n,c,e,rfl⟩)
 ·exact hb
 ·exact h _ (by rw[e];rfl)
theorem begins_any (hp:p.size≤800) (hlo:lo≤w.heap.size):Calls Tryz.prog 31 #[.string p,v] w (Hows lo (erIn true p) (ask true p) w):=by
 obtain⟨q,hq⟩: ∃q,(⟨#[94,40]⟩++p++⟨#[41]⟩:ByteArray)=q:=⟨_,rfl⟩
 have ha:asked true p=q:=hq
 have hz:(⟨#[94,40]⟩++p:ByteArray).size=p.size+2:=by rw[ByteArray.size_append];show 2+p.size=_;omega
 have hqz:q.size≤900:=by rw[←hq,ByteArray.size_append,hz];show p.size+2+1≤_;omega
 have HO:=hid (of_told (p:=q) hqz)
 have HL:=hid (ins_len (p:=q) hqz)
 have HR1: ∀w:World,(Op.stringOp .add ⟨#[94,40]⟩ p).run Tryz.prog w= .ok (.string (⟨#[94,40]⟩++p)) w:=fun w=>run_string_add_sum w _ _ (by show 2+p.size≤_;omega)
 have HR2: ∀w:World,(Op.stringOp .add (⟨#[94,40]⟩++p) ⟨#[41]⟩).run Tryz.prog w= .ok (.string q) w:=fun w=>by rw[run_string_add_sum w _ _ (by rw[hz];show p.size+2+1≤_;omega),hq]
 have HH:Hid (ask true p=foundF (ins q)):=by unfold Hid ask;rw[ha];rfl
 have HLO:=hid hlo
 unfold erIn
 rw[HH.out,ha]
 unfold Tells at HO
 obtain⟨E,hE⟩: ∃E,er q=E:=⟨_,rfl⟩
 obtain⟨I,hI⟩: ∃I,ins q=I:=⟨_,rfl⟩
 rw[hE,hI]at HO HL
 rw[hE,hI]
 clear hE hI hq ha hz hqz hp hlo HH
 unfold Hows
 by_cases he:E=0
 ·subst he
  go_enter Tryz.func31,Tryz.ntmps31
  go_wp2_with fail
  refine(HO.out _).mono ?_
  rintro e w1 (⟨-,v1,rfl,o1,l1⟩|⟨h,-⟩)
  ·have K1:=hid (keeps_new o1 46)
   have R1:=hid (fun k h=>Nat.le_trans HLO.out (o1.lt k h).1)
   obtain⟨A,c,rfl,-,-⟩:=(Recs.of_own insC_len rfl o1).form
   have L1:=hid l1
   clear o1 l1
   go_wp2_with fail
   go_ret2
   exact⟨on L1.out (W14.below_new _ _),Or.inl ⟨trivial,_,_,rfl,asks_begins K1.out (HL.out trivial),two_low (Nat.le_trans HLO.out L1.out.size) R1.out⟩⟩
  ·exact absurd rfl h
 ·have te:(E !=0)=true:=by simpa using he
  go_enter Tryz.func31,Tryz.ntmps31
  go_wp2_with fail
  refine(HO.out _).mono ?_
  rintro e w1 (⟨h,-⟩|⟨-,rfl,l1⟩)
  ·exact absurd h he
  ·go_wp2_with fail
   go_ret2
   exact⟨on l1 (W14.below_new _ _),Or.inr ⟨he,rfl⟩⟩
theorem leavesOut_plain (hlo:lo≤w.heap.size) (hs:hasSlash p=false) (ho:w.ownsRow lo 106 4 v (ins p).length ((ins p).flatMap insC)) (hl:(ins p).length≤4001):Calls Tryz.prog 30 #[.string p,v] w (Hows lo 0 (ask false p) w):=by
 have HC:Hid (∀w,Calls Tryz.prog 49 #[.string p,.string ⟨#[47]⟩] w fun e w'=>e= .returned (.bool false)∧w'=w):=fun w=>by
  have h:=Tryz.strings_Contains_one p 47 w
  rwa[←Lib.contains_iff_indexByte,show p.data.toList.contains 47=false from hs]at h
 have HH:Hid (ask false p=wholeF (ins p)):=by
  unfold Hid ask
  funext s
  rw[if_neg (by decide),hs,if_neg (by decide)]
 have K1:=hid (keeps_new ho 46)
 have R1:=hid (fun k h=>(ho.lt k h).1)
 obtain⟨A,c,rfl,-,-⟩:=(Recs.of_own insC_len rfl ho).form
 have HL:=hid hl
 have HLO:=hid hlo
 rw[HH.out]
 clear ho hl hlo hs HH
 unfold Hows
 go_enter Tryz.func30,Tryz.ntmps30
 go_wp2_with fail
 refine(HC.out _).mono ?_
 rintro e w1 ⟨rfl,rfl⟩
 go_wp2_with fail
 go_ret2
 exact⟨W14.below_new _ _,Or.inl ⟨trivial,_,_,rfl,asks_whole K1.out HL.out,two_low HLO.out R1.out⟩⟩
theorem leavesOut_slash (hp:p.size≤800) (hlo:lo≤w.heap.size) (hs:hasSlash p=true) (hv: ∃A n c,v= .slice A n c):Calls Tryz.prog 30 #[.string p,v] w (Hows lo (erIn false p) (ask false p) w):=by
 obtain⟨q,hq⟩: ∃q,(⟨#[40]⟩++p++⟨#[41,40,47,124,36,41]⟩:ByteArray)=q:=⟨_,rfl⟩
 have ha:asked false p=q:=by
  unfold asked
  rw[if_neg (by decide),hs,if_pos rfl,hq]
 have hz:(⟨#[40]⟩++p:ByteArray).size=p.size+1:=by rw[ByteArray.size_append];show 1+p.size=_;omega
 have hqz:q.size≤900:=by rw[←hq,ByteArray.size_append,hz];show p.size+1+6≤_;omega
 have HO:=hid (of_told (p:=q) hqz)
 have HL:=hid (ins_len (p:=q) hqz)
 have HR1: ∀w:World,(Op.stringOp .add ⟨#[40]⟩ p).run Tryz.prog w= .ok (.string (⟨#[40]⟩++p)) w:=fun w=>run_string_add_sum w _ _ (by show 1+p.size≤_;omega)
 have HR2: ∀w:World,(Op.stringOp .add (⟨#[40]⟩++p) ⟨#[41,40,47,124,36,41]⟩).run Tryz.prog w= .ok (.string q) w:=fun w=>by rw[run_string_add_sum w _ _ (by rw[hz];show p.size+1+6≤_;omega),hq]
 have HC:Hid (∀w,Calls Tryz.prog 49 #[.string p,.string ⟨#[47]⟩] w fun e w'=>e= .returned (.bool true)∧w'=w):=fun w=>by
  have h:=Tryz.strings_Contains_one p 47 w
  rwa[←Lib.contains_iff_indexByte,show p.data.toList.contains 47=true from hs]at h
 have HH:Hid (ask false p=fun s=>foundF (ins q) (slashed s)):=by
  unfold Hid ask
  funext s
  rw[if_neg (by decide),hs,if_pos rfl,ha]
 have HLO:=hid hlo
 unfold erIn
 rw[HH.out,ha]
 unfold Tells at HO
 obtain⟨E,hE⟩: ∃E,er q=E:=⟨_,rfl⟩
 obtain⟨I,hI⟩: ∃I,ins q=I:=⟨_,rfl⟩
 rw[hE,hI]at HO HL
 rw[hE,hI]
 obtain⟨A0,n0,c0,rfl⟩:=hv
 have B0:=hid (W14.below_new w (.cells #[.slice A0 n0 c0] 46))
 clear hE hI hq ha hz hqz hp hlo HH hs
 unfold Hows
 by_cases he:E=0
 ·subst he
  go_enter Tryz.func30,Tryz.ntmps30
  go_wp2_with fail
  refine(HC.out _).mono ?_
  rintro e w0 ⟨rfl,rfl⟩
  go_wp2_with fail
  refine(HO.out _).mono ?_
  rintro e w1 (⟨-,v1,rfl,o1,l1⟩|⟨h,-⟩)
  ·have K1:=hid (keeps_new o1 46)
   have R1:=hid (fun k h=>Nat.le_trans (Nat.le_trans HLO.out B0.out.size) (o1.lt k h).1)
   obtain⟨A,c,rfl,-,-⟩:=(Recs.of_own insC_len rfl o1).form
   have L1:=hid (on B0.out l1)
   clear o1 l1
   go_wp2_with fail
   go_ret2
   exact⟨on L1.out (W14.below_new _ _),Or.inl ⟨trivial,_,_,rfl,asks_search K1.out (HL.out trivial),two_low (Nat.le_trans HLO.out L1.out.size) R1.out⟩⟩
  ·exact absurd rfl h
 ·have te:(E !=0)=true:=by simpa using he
  go_enter Tryz.func30,Tryz.ntmps30
  go_wp2_with fail
  refine(HC.out _).mono ?_
  rintro e w0 ⟨rfl,rfl⟩
  go_wp2_with fail
  refine(HO.out _).mono ?_
  rintro e w1 (⟨h,-⟩|⟨-,rfl,l1⟩)
  ·exact absurd h he
  ·have L1:=hid (on B0.out l1)
   clear l1
   go_wp2_with fail
   go_ret2
   exact⟨on L1.out (W14.below_new _ _),Or.inr ⟨he,rfl⟩⟩
def erOf (begins:Bool) (p:ByteArray):Int:=if er p≠0 then er p else erIn begins p
end
def howF (begins:Bool):Nat:=if begins then 31 else 30
theorem how_any (b:Bool) {w:World} {lo:Nat} {p:ByteArray} {v:Value} (hp:p.size≤800) (hlo:lo≤w.heap.size) (he:er p=0) (ho:w.ownsRow lo 106 4 v (ins p).length ((ins p).flatMap insC)):Calls Tryz.prog (howF b) #[.string p,v] w (Hows lo (erIn b p) (ask b p) w):=by
 cases b with
 |true=>exact begins_any hp hlo
 |false=>
  cases hs:hasSlash p with
  |true=>
   obtain⟨A,c,e,-,-⟩:=(Recs.of_own insC_len rfl ho).form
   exact leavesOut_slash hp hlo hs ⟨_,_,_,e⟩
  |false=>
   have e:erIn false p=0:=by
    unfold erIn asked
    rw[if_neg (by decide),hs,if_neg (by decide)];exact he
   rw[e]
   exact leavesOut_plain hlo hs ho (ins_len (by omega) he)
theorem how_enters (b:Bool): ∀args w,(callFunc (howF b) args).run Tryz.prog w= .ok (.enter (howF b) args) w:=by
 cases b with
 |true=>exact enters_of Tryz.func31 (by kernel_rfl) rfl
 |false=>exact enters_of Tryz.func30 (by kernel_rfl) rfl
end W17
namespace W17
open Go.Shelf Strs Recs
open Kit (below_draws on ret_bool)
abbrev Fn:= {f:Value // f.oneCell'=true}
def encF (f:Fn):List Value:= [f.1]
theorem encF_len (f:Fn):(encF f).length=1:=rfl
theorem encF_one (f:Fn): ∀c∈encF f,c.oneCell'=true:=by
 intro c hc
 simp only[encF,List.mem_singleton]at hc
 rw[hc];exact f.2
theorem ask_info:(Tryz.prog.info? 66).map (fun i=>(i.zero,i.size,i.bytes))=some (some .nilFunc,1,8):=by kernel_rfl
theorem one_fn (w:World) (f:Fn) (t:TypeId):Recs encF 1 (w.heap.size+1) (w.alloc (.cells #[f.1] t)) (.slice (some ⟨w.heap.size,0,none⟩) 1 1) [f]:=by
 refine⟨_,1,rfl,Nat.le_refl _,by unfold maxLen;decide,fun _=>⟨_,rfl,Nat.lt_succ_self _,fun k hk j hj=> ?_⟩⟩
 have hk0:k=0:=by simpa using hk
 have hj0:j=0:=by omega
 subst hk0 hj0
 exact cell_one_new w f.1 t 0 f.1 rfl
structure SetIn (F:Blocks) (w:World) (q:Nat) (v:Value) (fs:List Fn) (hs:List (ByteArray→Bool)):Prop where
 box:Boxed w q 65 v
 row:w.ownsRow (q+1) 66 1 v fs.length (fs.flatMap encF)
 low: ∀k,F k→q+1≤k∧k<w.heap.size
 off: ∀k,v.ownBlock=some k→ ¬F k
 len:fs.length=hs.length
 asks: ∀(j:Nat) (h1:j<fs.length) (h2:j<hs.length),Asks F w (fs[j]).1 hs[j]
section
variable {F G:Blocks} {w w':World} {q:Nat} {v:Value} {fs:List Fn} {hs:List (ByteArray→Bool)}
theorem SetIn.below (h:SetIn F w q v fs hs) (hb:Below w.heap.size w w'):SetIn F w' q v fs hs:=
 ⟨(hb.block q h.box.lt).trans h.box,(Range.Turns.new (T:=fun _=>False) hb).row h.row (fun _ _ h=>h),fun k hk=>⟨(h.low k hk).1,Nat.lt_of_lt_of_le (h.low k hk).2 hb.size⟩,h.off,h.len,fun j h1 h2=>(h.asks j h1 h2).below hb⟩
theorem SetIn.new (w:World):SetIn (fun _=>False) (w.alloc (.cells #[.slice none 0 0] 65)) w.heap.size (.slice none 0 0) [] []:=
 ⟨Boxed.new w _ _,World.ownsRow_nil _ _ _ _,fun _ h=>h.elim,fun _ _ h=>h,rfl,fun _ h1=>absurd h1 (Nat.not_lt_zero _)⟩
theorem SetIn.add {f:Fn} {h:ByteArray→Bool} {tmp:Obj} {v1:Value} (s:SetIn F w q v fs hs) (a:Asks G w f.1 h) (hG: ∀k,G k→q+1≤k) (hvG: ∀k,v.ownBlock=some k→ ¬G k)
    (hown:w'.ownsRow (q+1) 66 1 v1 (fs.length+1) (fs.flatMap encF++ [f].flatMap encF)) (hp:Put v v1 (w.alloc tmp) w'):SetIn (fun k=>F k∨G k) (w'.setCell ⟨q,0,none⟩ v1) q v1 (fs++ [f]) (hs++ [h])∧Below q w (w'.setCell ⟨q,0,none⟩ v1):=by
 have hq:=s.box.lt
 have hU: ∀k,F k∨G k→q+1≤k∧k<w.heap.size:=fun k hk=>by
  rcases hk with hk|hk
  ·exact s.low k hk
  ·exact⟨hG k hk,a.1 k hk⟩
 have hoff: ∀k,v1.ownBlock=some k→ ¬(F k∨G k):=fun k hk hU2=>by
  rcases hp.own k hk with h1|h1
  ·rcases hU2 with h2|h2
   ·exact s.off k h1 h2
   ·exact hvG k h1 h2
  ·have:=hU k hU2
   rw[World.size_alloc]at h1
   omega
 have hsz:w.heap.size+1≤w'.heap.size:=by have:=hp.grown.size;rw[World.size_alloc]at this;exact this
 have hkept: ∀k,F k∨G k→(w'.setCell ⟨q,0,none⟩ v1).heap[k]? =w.heap[k]? :=fun k hk=>by
  have h1:=hU k hk
  rw[heap_setCell_other w' ⟨q,0,none⟩ k v1 (by show k≠q;omega),hp.kept k (by rw[World.size_alloc];omega) (fun e=>hoff k e hk)]
  exact Below.heap_alloc _ _ _ (by omega)
 have hne:some q≠v.ownBlock:=fun e=>by have:=(s.row.lt q e.symm).1;omega
 have hbx:Boxed w' q 65 v:=(s.box.alloc tmp).kept hp.grown hne
 have hn1:some q≠v1.ownBlock:=fun e=>by
  have:=(hown.lt q e.symm).1
  omega
 have hse:(w'.setCell ⟨q,0,none⟩ v1).heap.size=w'.heap.size:=by simp[World.setCell]
 refine⟨⟨hbx.set v1,?_,fun k hk=>⟨(hU k hk).1,by have:=(hU k hk).2;omega⟩,hoff,by simp[s.len],fun j h1 h2=> ?_⟩,?_⟩
 ·rw[List.length_append,List.flatMap_append]
  exact hown.kept (grownBy_setCell' w' q v1) (.inr hn1.symm)
 ·have hwd: ∀k,F k∨G k→k<w.heap.size:=fun k hk=>(hU k hk).2
  have hss:w.heap.size≤(w'.setCell ⟨q,0,none⟩ v1).heap.size:=by omega
  rcases Nat.lt_or_ge j fs.length with hj|hj
  ·have:=((s.asks j hj (by rw[←s.len];exact hj)).wider hwd (fun _=>Or.inl)).same hkept hss
   rw[List.getElem_append_left hj,List.getElem_append_left (by rw[←s.len];exact hj)]
   exact this
  ·have hj2:j=fs.length:=by simp at h1;omega
   subst hj2
   rw[List.getElem_append_right (Nat.le_refl _),List.getElem_append_right (by rw[s.len];exact Nat.le_refl _)]
   simp only[Nat.sub_self,List.getElem_singleton]
   have:=(a.wider hwd (fun _=>Or.inr)).same hkept hss
   simpa [s.len]using this
 ·have h1:Below q w (w.alloc tmp):=(Below.refl _ w).alloc (by omega) tmp
  have h2:Below q (w.alloc tmp) w':=⟨hp.grown.os,hp.grown.tape,hp.grown.output,hp.grown.size,fun k hk=>hp.grown.block k (by rw[World.size_alloc];omega) (fun e=>by
   have:=(s.row.lt k e.symm).1;omega)⟩
  exact(h1.trans h2).setCell (p:=⟨q,0,none⟩) (Nat.le_refl q) v1
def SetAt (w:World) (q:Nat) (hs:List (ByteArray→Bool)):Prop:= ∃(F:Blocks) (v:Value) (fs:List Fn),SetIn F w q v fs hs
theorem SetAt.below (h:SetAt w q hs) (hb:Below w.heap.size w w'):SetAt w' q hs:=by
 obtain⟨F,v,fs,h⟩:=h
 exact⟨F,v,fs,h.below hb⟩
end
end W17
namespace M17
open Go
abbrev Bytes:=List UInt8
def blanks:Bytes:= [32,9]
def isBlank (c:UInt8):Bool:=blanks.contains c
def trimL (l:Bytes):Bytes:=l.dropWhile isBlank
def trimR (l:Bytes):Bytes:=(l.reverse.dropWhile isBlank).reverse
def ahead:Bytes→Bytes
 | []=> []
 | [c]=> [c]
 |c::d::r=>if isBlank c&&d==35 then[]else c::ahead (d::r)
def bare (l:Bytes):Bytes:=trimR (trimL l)
def skips (t:Bytes):Bool:=match t with
 | []=>true
 |c::_=>c==35
def ofLine (l:Bytes):Bytes:=if skips (bare l)then[]else bare (ahead (bare l))
/-! lines -/
def lines:Bytes→List Bytes
 | []=> [[]]
 |c::r=>if c=10 then[]::lines r else(match lines r with
  | []=> [[c]]
  |p::q=>(c::p)::q)
def ended:Bytes→List Bytes
 | []=> []
 |c::r=>if c=10 then[10]::ended r else(match ended r with
  | []=> [[c]]
  |p::q=>(c::p)::q)
def go (er:Bytes→Int):List Bytes→Nat→List Bytes→List Bytes×Nat×Int
 | [],_,acc=>(acc,0,0)
 |x::r,n,acc=>if ofLine x= []then go er r (n+1) acc else if er (ofLine x)≠0 then([],n+1,er (ofLine x))else go er r (n+1) (acc++ [ofLine x])
def keep (l:List Bytes):List Bytes:=(l.map ofLine).filter fun p=> !p.isEmpty
def good (er:Bytes→Int) (x:Bytes):Prop:=ofLine x= []∨er (ofLine x)=0
/-! how long,how many -/
def more (out:List Bytes) (c:UInt8):List Bytes:=if c=10 then out++ [[]]else out.dropLast++ [out.getLastD []++ [c]]
end M17
namespace W17
open Go.Shelf Range M17
open Kit (ret_str ret_bool ret_int mk_of mk_bytes below_draws on ba_ext take_bytes drop_bytes)
attribute [local go_sem] Oper.semAt_some
def mk (l:Bytes):ByteArray:=⟨l.toArray⟩
def One (b k:Nat):Prop:=k=b
end W17
namespace W17
open M17
open Kit (ret_str ret_bool ret_int mk_of mk_bytes below_draws on ba_ext take_bytes drop_bytes)
def HeldM (w:World):Prop:= ∃m:Int,w.cell? ⟨0,0,none⟩=some (.int .i64 m)
theorem HeldM.on {w w':World} (h:HeldM w) (hb:Below w.heap.size w w'):HeldM w':=by
 obtain⟨m,h⟩:=h
 exact⟨m,(hb.cell (World.block_lt_of_cell? w _ h)).trans h⟩
section
variable {s:ByteArray} {w:World}
end
end W17
namespace W17
open Go.Shelf Strs Recs
open W15 (Gives Fails insC_len)
open M17 (Bytes)
open Kit (below_draws on ret_bool mk_bytes)
def bad (b:Bool):List Bytes→Nat→Int×Int
 | [],_=>(-1,0)
 |p::r,i=>if erOf b (mk p)≠0 then(i,erOf b (mk p))else bad b r (i+1)
def asks (b:Bool) (L:List Bytes):List (ByteArray→Bool):=L.map fun p=>ask b (mk p)
theorem bad_good (b:Bool): ∀(pre rest:List Bytes) (i:Nat),(∀p∈pre,erOf b (mk p)=0)→bad b (pre++rest) i=bad b rest (i+pre.length)
 | [],rest,i,_=>rfl
 |p::pre,rest,i,h=>by
  rw[List.cons_append,bad,if_neg (by simp[h p (by simp)]),bad_good b pre rest (i+1) (fun q hq=>h q (by simp[hq]))]
  congr 1
  simp;omega
def NewTo (b:Bool) (L:List Bytes) (w:World) (e:Ending) (w':World):Prop:=
 Below w.heap.size w w'∧(((bad b L 0).2=0∧ ∃q,e= .returned (.tuple #[.pointer (some ⟨q,0,none⟩),.int .i64 (-1),.int .i64 0])∧SetAt w' q (asks b L))∨
  ((bad b L 0).2≠0∧e= .returned (.tuple #[.pointer none,.int .i64 (bad b L 0).1,.int .i64 (bad b L 0).2])))
section
variable {w:World} {lv:Value} {L:List Bytes}
set_option maxHeartbeats 8000000 in
theorem newSet_any (b:Bool) (hl:Texts w.heap.size w lv L) (hn:L.length≤1000) (hs: ∀p∈L,p.length≤800):Calls Tryz.prog 29 #[lv,.func (.func (howF b)) #[] #[]] w (NewTo b L w):=by
 obtain⟨i0,hi,hz0,hz1,hz2⟩:=info_parts ask_info
 obtain⟨A,c,rfl,hc1,hc2⟩:=hl.form
 obtain⟨n,hnn⟩: ∃n,L.length=n:=⟨_,rfl⟩
 have HN:=hid hnn
 rw[hnn]at hl hc1 hn ⊢
 unfold maxLen at hc2
 have HL:=hid hl
 have HC:=hid (show n≤c∧c≤9223372036854775807∧n≤1000 from⟨hc1,hc2,hn⟩)
 have HS:=hid hs
 obtain⟨hf,hhf⟩: ∃hf,howF b=hf:=⟨_,rfl⟩
 have HH:Hid (∀ {w:World} {lo:Nat} {p:ByteArray} {v:Value},p.size≤800→lo≤w.heap.size→er p=0→w.ownsRow lo 106 4 v (ins p).length ((ins p).flatMap W15.insC)→Calls Tryz.prog hf #[.string p,v] w (Hows lo (erIn b p) (ask b p) w)):=by
  rw[←hhf];exact how_any b
 have eg:=how_enters b
 rw[hhf]at eg ⊢
 obtain⟨q,hq⟩: ∃q,w.heap.size=q:=⟨_,rfl⟩
 have HQ:=hid hq
 have S0:=hid (SetIn.new w)
 have B0:Hid (Below w.heap.size w (w.alloc (.cells #[.slice none 0 0] 65))):=W14.below_new _ _
 rw[hq]at S0 B0 HL
 clear hl hc1 hc2 hn hs hhf hnn
 unfold NewTo
 go_enter Tryz.func29,Tryz.ntmps29
 go_wp2_with fail
 go_loopg [17] n (fun gk s17 wr=> ∃(i:Nat) (F:Blocks) (v:Value) (fs:List Fn),s17= .int .i64 i∧Hid (i+gk=n)∧Hid (∀p∈L.take i,erOf b (mk p)=0)∧Hid (SetIn F wr q v fs (asks b (L.take i)))∧Hid (Below q w wr))
 case atStart=>exact⟨0,_,_,[],rfl,by unfold Hid;omega,by simp[Hid],S0,B0⟩
 case round=>
  clear S0 B0
  obtain⟨i,F,v,fs,rfl,hig,HG,HI,LB⟩:=hrel
  cases gk with
  |zero=>
   have hi2:i=n:=by have:=hig.out;omega
   subst hi2
   have ti: ¬(i:Int)<(i:Int):=by omega
   have hLt:L.take i=L:=by rw[←HN.out,List.take_length]
   have hbad:Hid (bad b L 0=(-1,0)):=by
    have h1:=HG.out
    rw[hLt]at h1
    have:=bad_good b L [] 0 h1
    rw[List.append_nil]at this
    unfold Hid
    rw[this];rfl
   have HI2:=HI.out
   rw[hLt]at HI2
   have HI3:=hid HI2
   clear hLt HI2
   go_wp2_with fail
   refine bodyPost_ret (results_tmp3 rfl _ _ _) rfl ?_
   rw[hbad.out]
   exact⟨by first|exact LB.out|(rw[HQ.out];exact LB.out),Or.inl ⟨rfl,q,rfl,F,v,fs,HI3.out⟩⟩
  |succ gk=>
   have hi1:i<n:=by have:=hig.out;omega
   have ti:(i:Int)<(n:Int):=by omega
   have tx:=HL.out.below LB.out
   obtain⟨ad,x,rfl,hb,hx,hxd⟩:=tx.at_ hi1
   have hil:i<L.length:=by rw[HN.out];exact hi1
   have hxL:L[i]'hil=x.data.toList:=by
    rw[hxd,List.getD_eq_getElem?_getD,List.getElem?_eq_getElem hil];rfl
   have hmx:Hid (mk (L[i]'hil)=x):=by unfold Hid;rw[hxL];exact mk_bytes x
   have hxs:x.size≤800:=by rw[Lib.size_eq,←hxL];exact HS.out _ (List.getElem_mem hil)
   have HXS:=hid hxs
   have htk:Hid (L.take (i+1)=L.take i++ [L[i]'hil]):=by unfold Hid;rw[List.take_succ_eq_append_getElem hil]
   have hpr:Hid (L=L.take i++L[i]'hil::L.drop (i+1)):=by
    unfold Hid
    conv=>lhs;rw[←List.take_append_drop i L,List.drop_eq_getElem_cons hil]
   have hlt:Hid ((L.take i).length=i):=by unfold Hid;rw[List.length_take];omega
   have hiw:wrap64 ((i:Int)+1)=((i+1:Nat):Int):=by have:=HC.out.2.2;unfold wrap64;omega
   have HIG:Hid (i+1+gk=n):=by have:=hig.out;unfold Hid;omega
   have HO:=hid (of_told (p:=x) (by omega))
   unfold Tells at HO
   have HF:Hid (∀e:Int,erOf b x=e→e≠0→bad b L 0=((i:Int),e)):=fun e he h0=>by
    rw[hpr.out,bad_good b _ _ 0 HG.out,bad,hmx.out,he,if_pos h0,hlt.out,Nat.zero_add]
   clear tx hb hxd hxL hxs hig
   by_cases he:er x=0
   ·have HE:=hid he
    go_wp2_with fail
    refine(HO.out _).mono ?_
    rintro e w2 (⟨-,v2,rfl,o2,l2⟩|⟨h,-⟩)
    ·have L2:Hid (Below q w w2):=LB.out.trans (l2.mono (by have:=LB.out.size;rw[HQ.out]at this;exact this))
     have S2:=HI.out.below l2
     have HK:=hid (HH.out HXS.out l2.size HE.out o2)
     have hvlt:Hid (∀k,v.ownBlock=some k→k<wr.heap.size):=fun k hk=>(HI.out.row.lt k hk).2
     have HQW:Hid (q+1≤wr.heap.size):=HI.out.box.lt
     have S2:=hid S2
     clear o2 l2 HI LB
     by_cases he2:erIn b x=0
     ·have HEO:Hid (erOf b x=0):=by unfold Hid erOf;rw[if_neg (by simp[HE.out])];exact he2
      have HE2:=hid he2
      go_wp2_with fail
      refine HK.out.mono ?_
      rintro e w3 ⟨l3,(⟨-,G,f,rfl,aG,hG⟩|⟨h,-⟩)⟩
      ·have L3:Hid (Below q w w3):=L2.out.trans (l3.mono (by have:=L2.out.size;rw[HQ.out]at this;exact this))
       have S3:=S2.out.below l3
       have AG:=hid aG
       obtain⟨-,g,lb,rfl,-,-⟩:=aG
       have HGQ:Hid (∀k,G k→q+1≤k):=fun k hk=>Nat.le_trans HQW.out (hG k hk)
       have HGV:Hid (∀k,v.ownBlock=some k→ ¬G k):=fun k hk h=>by have:=hG k h;have:=hvlt.out k hk;omega
       have c3:=S3.box.cell
       have S4:=hid S3
       have hfl:Hid (fs.length≤1000):=by
        have h1:=S3.len
        unfold asks at h1
        rw[List.length_map,hlt.out]at h1
        have:=HC.out.2.2
        unfold Hid;omega
       have Z3:Hid (q+1≤w3.heap.size):=Nat.succ_le_of_lt S3.box.lt
       clear l3 S3 hG
       go_wp2_with (at_builtin;refine wpList_append_put (enc:=encF) rfl (.tmp 46) (.tmp 48) 63 rfl (q+1) 66 i0 .nilFunc 1 8 Tryz.underlying63 hi hz0 hz1 hz2 rfl (by decide) v fs.length (fs.flatMap encF) rfl (S4.out.row.alloc _) (.slice (some ⟨w3.heap.size,0,none⟩) 1 1) [⟨.func (.func g) #[] lb,rfl⟩] (w3.heap.size+1) rfl (one_fn w3 ⟨.func (.func g) #[] lb,rfl⟩ _) encF_len encF_one (by have:=hfl.out;unfold maxLen;simp;omega) (by have:=hfl.out;simp;omega) (by have:=Z3.out;simp;omega) ?_;intro v1 w4 hown hput;have hbx:=(S4.out.box.alloc (.cells #[.func (.func g) #[] lb] 66)).kept hput.grown (fun e=>by have:=(S4.out.row.lt q e.symm).1;omega);have c4:=hbx.cell;have f4:=hbx.frozen;have HAD:=hid (S4.out.add (f:=⟨.func (.func g) #[] lb,rfl⟩) AG.out HGQ.out HGV.out hown hput);obtain⟨g',cap',rfl⟩:=ownsRow_succ hown;clear hown hput hbx)
       have hta:Hid (asks b (L.take (i+1))=asks b (L.take i)++ [ask b x]):=by unfold Hid;rw[htk.out];unfold asks;rw[List.map_append,List.map_singleton,hmx.out]
       have HG2:Hid (∀p∈L.take (i+1),erOf b (mk p)=0):=by
        unfold Hid
        rw[htk.out]
        intro p hp
        rcases List.mem_append.1 hp with hp|hp
        ·exact HG.out p hp
        ·simp at hp;rw[hp,hmx.out];exact HEO.out
       go_roundg gk
       case measure=>omega
       case rel=>exact⟨i+1,_,_,_,congrArg (Value.int .i64) hiw,HIG,HG2,by rw[hta.out];exact HAD.out.1,L3.out.trans HAD.out.2⟩
      ·exact absurd he2 h
     ·have HEO:erOf b x=erIn b x:=by unfold erOf;rw[if_neg (by simp[HE.out])]
      have HB:=hid (HF.out (erIn b x) HEO he2)
      have te:(erIn b x !=0)=true:=by simpa using he2
      have HE2:=hid he2
      obtain⟨E,hE⟩: ∃E,erIn b x=E:=⟨_,rfl⟩
      rw[hE]at te HK HB HE2
      clear HEO he2 hE
      go_wp2_with fail
      refine HK.out.mono ?_
      rintro e w3 ⟨l3,(⟨h,-⟩|⟨-,rfl⟩)⟩
      ·exact absurd h HE2.out
      ·have L3:Hid (Below q w w3):=L2.out.trans (l3.mono (by have:=L2.out.size;rw[HQ.out]at this;exact this))
       clear l3
       go_wp2_with fail
       refine bodyPost_ret (results_tmp3 rfl _ _ _) rfl ?_
       rw[HB.out]
       exact⟨by first|exact L3.out|(rw[HQ.out];exact L3.out),Or.inr ⟨HE2.out,rfl⟩⟩
    ·exact absurd he h
   ·have te:(er x !=0)=true:=by simpa using he
    have hbd:=HF.out (er x) (by unfold erOf;rw[if_pos he]) he
    have HB:=hid hbd
    have HE:=hid he
    obtain⟨E,hE⟩: ∃E,er x=E:=⟨_,rfl⟩
    rw[hE]at te HO HB HE
    clear hbd he hE
    go_wp2_with fail
    refine(HO.out _).mono ?_
    rintro e w2 (⟨h,-⟩|⟨-,rfl,l2⟩)
    ·exact absurd h HE.out
    ·have L2:Hid (Below q w w2):=LB.out.trans (l2.mono (by have:=LB.out.size;rw[HQ.out]at this;exact this))
     clear l2
     go_wp2_with fail
     refine bodyPost_ret (results_tmp3 rfl _ _ _) rfl ?_
     rw[HB.out]
     exact⟨by first|exact L2.out|(rw[HQ.out];exact L2.out),Or.inr ⟨HE.out,rfl⟩⟩
end
end W17
namespace W17
open Go.Shelf Strs Recs
open M17 (Bytes)
open Kit (below_draws on ret_bool)
section
variable {w:World} {lv:Value} {L:List Bytes} {q:Nat} {hs:List (ByteArray→Bool)} {s:ByteArray}
theorem compile_any (hl:Texts w.heap.size w lv L) (hn:L.length≤1000) (hz: ∀p∈L,p.length≤800):Calls Tryz.prog 13 #[lv] w (NewTo false L w):=by
 have H:=hid (newSet_any false hl hn hz)
 unfold howF NewTo at H
 simp only[Bool.false_eq_true,if_false]at H
 obtain⟨A,c,rfl,-,-⟩:=hl.form
 clear hl hn hz
 unfold NewTo
 generalize bad false L 0=R at*
 by_cases hR:R.2=0
 ·go_enter Tryz.func13,Tryz.ntmps13
  go_wp2_with fail
  refine H.out.mono ?_
  rintro e w1 ⟨l1,(⟨-,q,rfl,hS⟩|⟨h,-⟩)⟩
  ·go_wp2_with fail
   refine bodyPost_ret (results_tmp3 rfl _ _ _) rfl ?_
   exact⟨l1,Or.inl ⟨hR,q,rfl,hS⟩⟩
  ·exact absurd hR h
 ·go_enter Tryz.func13,Tryz.ntmps13
  go_wp2_with fail
  refine H.out.mono ?_
  rintro e w1 ⟨l1,(⟨h,-⟩|⟨-,rfl⟩)⟩
  ·exact absurd h hR
  ·go_wp2_with fail
   refine bodyPost_ret (results_tmp3 rfl _ _ _) rfl ?_
   exact⟨l1,Or.inr ⟨hR,rfl⟩⟩
def anyOf (hs:List (ByteArray→Bool)) (s:ByteArray):Bool:=hs.any fun h=>h s
theorem len_any (h:SetAt w q hs):Calls Tryz.prog 16 #[.pointer (some ⟨q,0,none⟩)] w fun e w'=>e= .returned (.int .i64 hs.length)∧w'=w:=by
 obtain⟨F,v,fs,h⟩:=h
 have c0:=h.box.cell
 have hl:=h.len
 obtain⟨A,c,rfl,-,-⟩:=(Recs.of_own encF_len rfl h.row).form
 rw[hl]at c0
 clear h hl
 go_enter Tryz.func16,Tryz.ntmps16
 go_wp2_with fail
 go_ret
 exact⟨rfl,rfl⟩
theorem len_none (w:World):Calls Tryz.prog 16 #[.pointer none] w fun e w'=>e= .returned (.int .i64 0)∧w'=w:=by
 go_enter Tryz.func16,Tryz.ntmps16
 go_wp2_with fail
 go_ret
 exact⟨rfl,rfl⟩
theorem has_none (w:World):Calls Tryz.prog 17 #[.pointer none,.string s] w fun e w'=>e= .returned (.bool false)∧w'=w:=by
 go_enter Tryz.func17,Tryz.ntmps17
 go_wp2_with fail
 go_ret
 exact⟨rfl,rfl⟩
theorem has_any (h:SetAt w q hs) (hz:s.size≤1000):Calls Tryz.prog 17 #[.pointer (some ⟨q,0,none⟩),.string s] w fun e w'=>e= .returned (.bool (anyOf hs s))∧Below w.heap.size w w':=by
 obtain⟨F,v,fs,h⟩:=h
 have c0:=h.box.cell
 have hl:=h.len
 have rr:=Recs.of_own encF_len rfl h.row
 obtain⟨A,c,rfl,hc1,hc2⟩:=rr.form
 obtain⟨n,hn⟩: ∃n,hs.length=n:=⟨_,rfl⟩
 rw[hn]at hl
 rw[hl]at c0 rr hc1
 have RR:=hid rr
 have HA:=hid h.asks
 have HLN:=hid hl
 have HHN:=hid hn
 unfold maxLen at hc2
 have HC:=hid (show n≤c∧c≤9223372036854775807 from⟨hc1,hc2⟩)
 have HZ:=hid hz
 clear h hl rr hn hc1 hc2 hz
 go_enter Tryz.func17,Tryz.ntmps17
 go_wp2_with fail
 go_loopg [14] n (fun gk s14 wr=> ∃i:Nat,s14= .int .i64 i∧Hid (i+gk=n)∧Hid (anyOf (hs.take i) s=false)∧Hid (Below w.heap.size w wr))
 case atStart=>exact⟨0,rfl,by unfold Hid;omega,rfl,Below.refl _ _⟩
 case round=>
  obtain⟨i,rfl,hig,HNO,LB⟩:=hrel
  cases gk with
  |zero=>
   have hi2:i=n:=by have:=hig.out;omega
   subst hi2
   have ti: ¬(i:Int)<(i:Int):=by omega
   have hres:Hid (anyOf hs s=false):=by
    have:=HNO.out
    rwa[←HHN.out,List.take_length]at this
   go_wp2_with fail
   go_ret
   exact⟨ret_bool hres.out.symm,LB.out⟩
  |succ gk=>
   have hi1:i<n:=by have:=hig.out;omega
   have ti:(i:Int)<(n:Int):=by omega
   have hwi:wrap64 ((i:Int)+1)=((i+1:Nat):Int):=by have:=HC.out;unfold wrap64;omega
   obtain⟨bk,o,hl1,rfl,hbk,hcell⟩:=(RR.out.below LB.out).flat_ encF_len (by decide) (k:=i) hi1
   have hx:=hcell 0 (by decide)
   rw[Nat.mul_one,Nat.add_zero]at hx
   have hl2:i<hs.length:=by rw[HHN.out];exact hi1
   have ha:=(HA.out i hl1 hl2).below LB.out
   obtain⟨f,hf⟩: ∃f,fs[i]'hl1=f:=⟨_,rfl⟩
   rw[hf]at hx ha
   have hx2:wr.cell? ⟨bk,o+i,none⟩=some f.1:=hx
   obtain⟨-,g,lb,hfe,eg,hcall⟩:=ha
   have HK:=hid (hcall wr (fun _ _=>rfl) (Nat.le_refl _) s HZ.out)
   rw[hfe]at hx2
   have htk:hs.take (i+1)=hs.take i++ [hs[i]'hl2]:=List.take_succ_eq_append_getElem hl2
   have HIG:Hid (i+1+gk=n):=by have:=hig.out;unfold Hid;omega
   clear hx hcell hbk hcall hf hfe hig
   cases hr:(hs[i]'hl2) s with
   |true=>
    rw[hr]at HK
    have hres:Hid (anyOf hs s=true):=by
     show _=_
     unfold anyOf
     rw[List.any_eq_true]
     exact⟨_,List.getElem_mem hl2,hr⟩
    clear htk
    go_wp2_with fail
    refine HK.out.mono ?_
    rintro e w1 ⟨rfl,l1⟩
    have L1:=hid (on LB.out l1)
    clear l1
    go_wp2_with fail
    go_ret
    exact⟨ret_bool hres.out.symm,L1.out⟩
   |false=>
    rw[hr]at HK
    have HNO2:Hid (anyOf (hs.take (i+1)) s=false):=by
     have h1:=HNO.out
     unfold Hid
     unfold anyOf at h1 ⊢
     rw[htk,List.any_append,h1]
     simp[hr]
    clear htk
    go_wp2_with fail
    refine HK.out.mono ?_
    rintro e w1 ⟨rfl,l1⟩
    have L1:=hid (on LB.out l1)
    clear l1
    go_wp2_with fail
    go_roundg gk
    case measure=>omega
    case rel=>exact⟨i+1,congrArg (Value.int .i64) hwi,HIG,HNO2,L1⟩
end
end W17
namespace W17
open Go
open M17 (Bytes)
def builtIn:List Bytes:= [[82,67,83],[46,43,44,118],[67,86,83],[92,46,92,35,46,43],[92,46,99,118,115,105,103,110,111,114,101],[92,46,115,118,110],[95,100,97,114,99,115],[92,46,104,103],[92,46,103,105,116],[92,46,103,105,116,105,103,110,111,114,101],[92,46,103,105,116,109,111,100,117,108,101,115],[46,43,126],[92,35,46,42,92,35],[94,47,82,69,65,68,77,69,46,42],[94,47,76,73,67,69,78,83,69,46,42],[94,47,67,79,80,89,73,78,71]]
theorem builtIn_right:bad false builtIn 0=(-1,0):=by decide+kernel
theorem builtIn_yes:anyOf (asks false builtIn) ⟨#[97,47,120,126]⟩=true∧anyOf (asks false builtIn) ⟨#[82,69,65,68,77,69]⟩=true:=by decide+kernel
theorem builtIn_no:anyOf (asks false builtIn) ⟨#[97,47,82,69,65,68,77,69]⟩=false∧anyOf (asks false builtIn) ⟨#[97,47,98]⟩=false:=by decide+kernel
end W17
namespace W17
open Strs
open M17 (Bytes)
open Kit (below_draws on ret_bool)
theorem texts_new (w:World) (L:List Bytes) (h:L.length≤maxLen) (t:TypeId):Texts (w.heap.size+1) (w.alloc (.cells (L.map strV).toArray t)) (.slice (some ⟨w.heap.size,0,none⟩) L.length L.length) L:=by
 refine⟨_,L.length,rfl,Nat.le_refl _,h,fun _=>⟨_,rfl,Nat.lt_succ_self _,fun k hk=> ?_⟩⟩
 have h1:=Recs.cells_new w (L.map strV) t k (strV (L.getD k [])) (by rw[List.getElem?_map,List.getElem?_eq_getElem hk];simp[hk])
 exact h1
theorem default_any (w:World):Calls Tryz.prog 10 #[] w fun e w'=> ∃v,e= .returned v∧Texts w'.heap.size w' v builtIn∧Below w.heap.size w w':=by
 have hb:Hid (Texts (w.heap.size+1) (w.alloc (.cells (builtIn.map strV).toArray 9)) (.slice (some ⟨w.heap.size,0,none⟩) 16 16) builtIn):=texts_new w builtIn (by unfold maxLen;decide) _
 go_enter Tryz.func10,Tryz.ntmps10
 go_wp2_with fail
 go_ret
 exact⟨_,rfl,by rw[World.size_alloc];exact hb.out,(Below.refl _ w).alloc (Nat.le_refl _) _⟩
def Yes (w:World) (e:Ending) (w':World):Prop:=e= .returned (.bool true)∧Below w.heap.size w w'
theorem lives_any (w:World):Calls Tryz.prog 6 #[] w (Yes w):=by
 unfold Yes
 have HD:=hid default_any
 have HC:Hid (∀(w:World) (v:Value),Texts w.heap.size w v builtIn→Calls Tryz.prog 13 #[v] w fun e w'=> ∃q,e= .returned (.tuple #[.pointer (some ⟨q,0,none⟩),.int .i64 (-1),.int .i64 0])∧SetAt w' q (asks false builtIn)∧Below w.heap.size w w'):=fun w v h=>by
  refine(compile_any h (by decide) (by decide)).mono ?_
  rintro e w' ⟨l,(⟨-,q,rfl,hS⟩|⟨h,-⟩)⟩
  ·exact⟨q,rfl,hS,l⟩
  ·rw[builtIn_right]at h;exact absurd rfl h
 have HN:Hid (∀(w:World) (q:Nat),SetAt w q (asks false builtIn)→Calls Tryz.prog 16 #[.pointer (some ⟨q,0,none⟩)] w fun e w'=>e= .returned (.int .i64 16)∧w'=w):=fun w q h=>len_any h
 have HH:Hid (∀(w:World) (q:Nat),SetAt w q (asks false builtIn)→ ∀s:ByteArray,s.size≤1000→Calls Tryz.prog 17 #[.pointer (some ⟨q,0,none⟩),.string s] w fun e w'=>e= .returned (.bool (anyOf (asks false builtIn) s))∧Below w.heap.size w w'):=fun w q h s hz=>has_any h hz
 obtain⟨y1,y2⟩:=builtIn_yes
 obtain⟨n1,n2⟩:=builtIn_no
 have H1:Hid (∀(w:World) (q:Nat),SetAt w q (asks false builtIn)→Calls Tryz.prog 17 #[.pointer (some ⟨q,0,none⟩),.string ⟨#[97,47,120,126]⟩] w fun e w'=>e= .returned (.bool true)∧Below w.heap.size w w'):=fun w q h=>by have:=HH.out w q h ⟨#[97,47,120,126]⟩ (by decide);rwa[y1]at this
 have H2:Hid (∀(w:World) (q:Nat),SetAt w q (asks false builtIn)→Calls Tryz.prog 17 #[.pointer (some ⟨q,0,none⟩),.string ⟨#[82,69,65,68,77,69]⟩] w fun e w'=>e= .returned (.bool true)∧Below w.heap.size w w'):=fun w q h=>by have:=HH.out w q h ⟨#[82,69,65,68,77,69]⟩ (by decide);rwa[y2]at this
 have H3:Hid (∀(w:World) (q:Nat),SetAt w q (asks false builtIn)→Calls Tryz.prog 17 #[.pointer (some ⟨q,0,none⟩),.string ⟨#[97,47,82,69,65,68,77,69]⟩] w fun e w'=>e= .returned (.bool false)∧Below w.heap.size w w'):=fun w q h=>by have:=HH.out w q h ⟨#[97,47,82,69,65,68,77,69]⟩ (by decide);rwa[n1]at this
 have H4:Hid (∀(w:World) (q:Nat),SetAt w q (asks false builtIn)→Calls Tryz.prog 17 #[.pointer (some ⟨q,0,none⟩),.string ⟨#[97,47,98]⟩] w fun e w'=>e= .returned (.bool false)∧Below w.heap.size w w'):=fun w q h=>by have:=HH.out w q h ⟨#[97,47,98]⟩ (by decide);rwa[n2]at this
 clear HH y1 y2 n1 n2
 generalize asks false builtIn=S at*
 generalize builtIn=D at*
 go_enter Tryz.func6,Tryz.ntmps6
 go_wp2_with fail
 refine(HD.out _).mono ?_
 rintro e w1 ⟨v,rfl,t1,l1⟩
 have T1:=hid t1
 have L1:=hid l1
 obtain⟨A,c,rfl,-,-⟩:=t1.form
 clear t1 l1
 go_wp2_with fail
 refine(HC.out _ _ T1.out).mono ?_
 rintro e w2 ⟨q,rfl,s2,l2⟩
 have S2:=hid s2
 have L2:=hid (on L1.out l2)
 clear s2 l2
 go_wp2_with fail
 refine(HN.out _ _ S2.out).mono ?_
 rintro e w3 ⟨rfl,rfl⟩
 go_wp2_with fail
 refine(H1.out _ _ S2.out).mono ?_
 rintro e w4 ⟨rfl,l4⟩
 have S4:=hid (S2.out.below l4)
 have L4:=hid (on L2.out l4)
 clear l4
 go_wp2_with fail
 refine(H2.out _ _ S4.out).mono ?_
 rintro e w5 ⟨rfl,l5⟩
 have S5:=hid (S4.out.below l5)
 have L5:=hid (on L4.out l5)
 clear l5
 go_wp2_with fail
 refine(H3.out _ _ S5.out).mono ?_
 rintro e w6 ⟨rfl,l6⟩
 have S6:=hid (S5.out.below l6)
 have L6:=hid (on L5.out l6)
 clear l6
 go_wp2_with fail
 refine(H4.out _ _ S6.out).mono ?_
 rintro e w7 ⟨rfl,l7⟩
 have L7:=hid (on L6.out l7)
 clear l7
 go_wp2_with fail
 go_ret
 exact⟨rfl,L7.out⟩
end W17
namespace W15
open Strs Recs M15
open M14 (Piece size sizes)
open W14 (Raw Raws rawA rawC PAt PAll PBox PLow box_arg load_piece load_at cell_block)
open Kit (below_draws on)
end W15
namespace W15
open Strs Recs M15
open M14 (Piece size sizes)
open W14 (Raw Raws rawA rawC PAt PAll PBox PLow below_new box_arg load_piece own_same)
open Kit (below_draws on)
end W15
namespace W14
open Strs Recs M14
open Row256 (Beside)
open Kit (below_draws on)
def gotA (r:Raw) (to e bad:Int):Array Value:= #[.int .i64 r.kind,.string r.text,.slice r.ad r.len r.cap,.int .i64 r.least,.int .i64 r.top,.int .i64 to,.int .i64 e,.int .i64 bad]
theorem got_info:(Tryz.prog.info? 77).map (fun i=>(i.zero,i.size,i.bytes))=some (some (.agg #[.int .i64 0,.string ⟨#[]⟩,.slice none 0 0,.int .i64 0,.int .i64 0,.int .i64 0,.int .i64 0,.int .i64 0]),8,88):=by kernel_rfl
theorem got_size (r:Raw) (to e bad:Int):(Tryz.prog.info? 77).map (·.size)=some (gotA r to e bad).size:=by
 obtain⟨i,hi,-,h2,-⟩:=info_parts got_info
 rw[hi];simp[gotA,h2]
theorem gotA_one (r:Raw) (to e bad:Int):(gotA r to e bad).all (·.oneCell')=true:=by simp[gotA,Value.oneCell']
def GBox (w:World) (b:Nat) (r:Raw) (to e bad:Int):Prop:=w.heap[b]? =some (.cells (gotA r to e bad) 77 (0,0))
section
variable {w w':World} {b:Nat} {r:Raw} {to e bad:Int}
theorem GBox.lt (h:GBox w b r to e bad):b<w.heap.size:=(Array.getElem?_eq_some_iff.1 h).1
theorem GBox.below (h:GBox w b r to e bad) (k:Below w.heap.size w w'):GBox w' b r to e bad:=(k.block b h.lt).trans h
theorem GBox.beside {c:Nat} (h:GBox w b r to e bad) (k:Beside c w w') (q:b≠c):GBox w' b r to e bad:=(k.block b h.lt q).trans h
theorem GBox.c5 (h:GBox w b r to e bad):w.cell? ⟨b,5,none⟩=some (.int .i64 to):=cell_of_row w b 5 _ _ _ h
theorem GBox.c6 (h:GBox w b r to e bad):w.cell? ⟨b,6,none⟩=some (.int .i64 e):=cell_of_row w b 6 _ _ _ h
theorem GBox.c7 (h:GBox w b r to e bad):w.cell? ⟨b,7,none⟩=some (.int .i64 bad):=cell_of_row w b 7 _ _ _ h
theorem GBox.free (h:GBox w b r to e bad) (i:Nat):w.frozen? ⟨b,i,none⟩=false:=frozen_of_row w b i _ _ h
theorem GBox.put (h:GBox w b r to e bad) (n:Int):GBox (w.setCell ⟨b,5,none⟩ (.int .i64 n)) b r n e bad:=by
 unfold GBox at*
 rw[heap_setCell_same w b 5 _ _ _ h];rfl
theorem GBox.raw (h:GBox w b r to e bad) (j:Nat) (hj:j<5):w.cell? ⟨b,0+j,none⟩=(rawC r)[j]? :=by
 rw[Nat.zero_add,cell_of_row w b j _ _ _ h]
 match j,hj with
 |0,_=>rfl
 |1,_=>rfl
 |2,_=>rfl
 |3,_=>rfl
 |4,_=>rfl
end
theorem zero_got (w:World):(zeroValue 77).run Tryz.prog w= .ok (.agg (gotA zeroR 0 0 0)) w:=by
 obtain⟨i,hi,h1,-,-⟩:=info_parts got_info
 simp[zeroValue,typeInfo,hi,h1];rfl
theorem built_got (k:Int) (t:ByteArray) (A:Option Addr) (n c:Nat) (l tp to:Int) (w:World):(Instr.build 77 #[(0,.agg #[.int .i64 k,.string t,.slice A n c,.int .i64 l,.int .i64 tp]),(1,.int .i64 to)]).run Tryz.prog w= .ok (.agg #[.int .i64 k,.string t,.slice A n c,.int .i64 l,.int .i64 tp,.int .i64 to,.int .i64 0,.int .i64 0]) w:=by kernel_rfl
theorem built_bad (e bad:Int) (w:World):(Instr.build 77 #[(2,.int .i64 e),(3,.int .i64 bad)]).run Tryz.prog w= .ok (.agg (gotA zeroR 0 e bad)) w:=by kernel_rfl
section
variable {ops:Array Oper} {rest:List Oper} {o:Oper} {a:Act} {w:World} {Q:Exit→Act→World→Prop}
theorem alloc_got (hgd:o.guard=none) (ho:o.op= .alloc 77)
    (h: ∀w' b,w.heap.size=b→GBox w' b zeroR 0 0 0→Below w.heap.size w w'→w'.heap.size=w.heap.size+1→wpList Tryz.prog ops Q rest (a.put o.dst (.pointer (some ⟨b,0,none⟩))) w'):wpList Tryz.prog ops Q (o::rest) a w:=
 wpList_plain hgd fun _ hK=>by
  unfold Oper.wp execOp
  simp only[ho,Instr.alloc,newVar,newRow,zero_got,Sem.run_bind,Sem.run_pure,Result.andThen_ok]
  exact hK _ _ (h _ _ rfl (heap_alloc_new w _) (below_new w _) (World.size_alloc w _))
theorem load_got (hgd:o.guard=none) (x:Operand) (ho:o.op= .load 77 x) {b:Nat} (hx:a.eval x= .pointer (some ⟨b,0,none⟩)) {r:Raw} {to e bad:Int} (hr:GBox w b r to e bad) (h:wpList Tryz.prog ops Q rest (a.put o.dst (.agg (gotA r to e bad))) w):wpList Tryz.prog ops Q (o::rest) a w:=
 wpList_load_row hgd 77 x ho b hx 77 (gotA r to e bad) (0,0) _ hr Tryz.underlying77 rfl (got_size r to e bad) h
theorem store_got (hgd:o.guard=none) (x y:Operand) (ho:o.op= .store 77 x y) {b:Nat} {r old:Raw} {to e bad to' e' bad':Int} (hx:a.eval x= .pointer (some ⟨b,0,none⟩)) (hy:a.eval y= .agg (gotA r to e bad)) (hr:GBox w b old to' e' bad')
    (h: ∀w',GBox w' b r to e bad→Beside b w w'→w'.heap.size=w.heap.size→wpList Tryz.prog ops Q rest (a.put o.dst undef) w'):wpList Tryz.prog ops Q (o::rest) a w:=
 wpList_store_row hgd 77 x y ho b (gotA r to e bad) hx hy 77 (gotA old to' e' bad') hr (got_size r to e bad) rfl (gotA_one r to e bad)
  (h _ (setRow_heap w b _ _ _ _ hr) ⟨rfl,rfl,rfl,by rw[setRow_size];exact Nat.le_refl _,fun k _ e=>setRow_other w b k _ e⟩ (setRow_size _ _ _))
theorem build_got (hgd:o.guard=none) (x y:Operand) (ho:o.op= .build 77 #[(0,x),(1,y)]) {r:Raw} {to:Int} (hx:a.eval x= .agg (rawA r)) (hy:a.eval y= .int .i64 to) (h:wpList Tryz.prog ops Q rest (a.put o.dst (.agg (gotA r to 0 0))) w):wpList Tryz.prog ops Q (o::rest) a w:=
 wpList_plain hgd fun _ hK=>by
  have:=built_got r.kind r.text r.ad r.len r.cap r.least r.top to w
  unfold Oper.wp execOp
  simp only[ho,List.map_toArray,List.map_cons,List.map_nil,hx,hy,Sem.run_bind,rawA,this,Sem.run_pure,Result.andThen_ok]
  exact hK _ _ h
theorem build_bad (hgd:o.guard=none) (x y:Operand) (ho:o.op= .build 77 #[(2,x),(3,y)]) {e bad:Int} (hx:a.eval x= .int .i64 e) (hy:a.eval y= .int .i64 bad) (h:wpList Tryz.prog ops Q rest (a.put o.dst (.agg (gotA zeroR 0 e bad))) w):wpList Tryz.prog ops Q (o::rest) a w:=
 wpList_plain hgd fun _ hK=>by
  unfold Oper.wp execOp
  simp only[ho,List.map_toArray,List.map_cons,List.map_nil,hx,hy,Sem.run_bind,built_bad,Sem.run_pure,Result.andThen_ok]
  exact hK _ _ h
end
def Gots (w:World) (g:Got) (e:Ending) (w':World):Prop:=
 Below w.heap.size w w'∧match g with
 | .ok p to=> ∃r,e= .returned (.agg (gotA r to 0 0))∧PAt (In w.heap.size w'.heap.size) w' r p
 | .bad b er=>er≠0∧ ∃t,e= .returned (.agg (gotA zeroR t er b))
theorem end_got {fn:Func} {R:Ending→World→Prop} {a:Act} {w:World} {p:Tmp} {b:Nat} {r:Raw} {to er bad:Int} (hf:fn.results= #[.cell p 77]) (hp:a.tmps.getD p undef= .pointer (some ⟨b,0,none⟩)) (hr:GBox w b r to er bad) (hd:a.defers= [])
    (hR:R (.returned (.agg (gotA r to er bad))) w):bodyPost Tryz.prog fn R .ret a w:=
 bodyPost_ret (results_cell_row hf a.tmps w b 77 (gotA r to er bad) (0,0) _ hp hr Tryz.underlying77 rfl (got_size r to er bad)) hd hR
theorem refBad_any (b:Nat) (er:Int) (he:er≠0) (w:World):Calls Tryz.prog 153 #[.int .i64 b,.int .i64 er] w (Gots w (.bad b er)):=by
 have HE:=hid he
 clear he
 go_enter Tryz.func153,Tryz.ntmps153
 go_wp2_with (first
  |(refine alloc_got rfl rfl ?_;intro w1 b1 e1 p1 l1 z1)
  |(refine build_bad rfl (.tmp 5) (.tmp 6) rfl rfl rfl ?_)
  |(refine store_got (r:=zeroR) rfl (.tmp 4) (.tmp 7) rfl rfl rfl p1 ?_;intro w2 p2 l2 z2))
 exact end_got rfl rfl p2 rfl ⟨l1.trans (l2.below l1.size (by omega)),HE.out,0,rfl⟩
theorem refLeaf_any (k:Int) (t:ByteArray) (to:Nat) (w:World):Calls Tryz.prog 110 #[.int .i64 k,.string t,.int .i64 to] w (Gots w (.ok (M14.leaf k t) to)):=by
 go_enter Tryz.func110,Tryz.ntmps110
 go_wp2_with (first
  |(refine alloc_got rfl rfl ?_;intro w1 b1 e1 p1 l1 z1)
  |(refine build_got (r:=⟨k,t,none,0,0,0,0⟩) rfl (.tmp 9) (.tmp 10) rfl rfl rfl ?_)
  |(refine store_got (r:=⟨k,t,none,0,0,0,0⟩) rfl (.tmp 6) (.tmp 11) rfl rfl rfl p1 ?_;intro w2 p2 l2 z2))
 exact end_got rfl rfl p2 rfl ⟨l1.trans (l2.below l1.size (by omega)),_,rfl,PAt.leaf _ _ k t⟩
end W14
end Go.Proofs.YtfgegjinhkgpbaaGreatDoor
