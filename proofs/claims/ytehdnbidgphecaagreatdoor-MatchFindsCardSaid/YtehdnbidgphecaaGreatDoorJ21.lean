/-
  Texts joined, in build order, each with its own comment and its own conditions: W16Is, W15RefReps, W15RefMade, W14RefBox, W14RefDig.
-/
import Derived.Test.YtehdnbidgphecaaGreatDoorJ15
import Derived.Test.YtehdnbidgphecaaGreatDoorJ20
import Derived.Test.YtehdnbidgphecaaGreatDoorJ12
import Derived.Test.YtehdnbidgphecaaGreatDoorJ18
import Derived.Test.YtehdnbidgphecaaGreatDoorJ02
import Derived.Test.YtehdnbidgphecaaGreatDoorJ03
import Derived.Deep.LoopGhost
namespace Go.Proofs.YtehdnbidgphecaaGreatDoor
set_option maxHeartbeats 4000000
set_option maxRecDepth 100000
open Go.RowKit
open Lib (hid)
namespace W16
open Strs Recs
open M15 (Inst rightP prog steps_len)
open M14 (Piece size sizes Got Whole)
open M16 (Text yields)
open W15 (Prg insC insC_len Gives Fails)
open W14 (Raw rawA zeroR ParsesTo alloc_piece store_piece two_new)
open Kit (below_draws on)
def found (P:List Inst) (s:ByteArray):Bool:= !(yields P s.data.toList 0 s.size).isEmpty
def FailsN (w:World) (er:Int) (e:Ending) (w':World):Prop:=er≠0∧Fails w er e w'
section
variable {p s:ByteArray} {w:World}
theorem of_badN {q:Nat} {er:Int} (hC: ∀w,Calls Tryz.prog 29 #[.string p] w (ParsesTo w (.bad q er))):Calls Tryz.prog 19 #[.string p] w (FailsN w er):=by
 have HC:=hid hC
 clear hC
 go_enter Tryz.func19,Tryz.ntmps19
 go_wp2_with fail
 refine(HC.out _).mono ?_
 rintro e w1 ⟨l1,he,rfl⟩
 have te:(er !=0)=true:=by simpa using he
 have HE:=hid he
 have L1:=hid l1
 clear l1 he
 go_wp2_with (first
  |(refine alloc_piece rfl rfl ?_;intro w3 b3 e3 p3 l3 z3)
  |(refine store_piece (r:=zeroR) rfl (.tmp 4) (.tmp 10) rfl rfl rfl p3 ?_;intro w4 p4 l4 z4;have L4:=hid (on L1.out (two_new l3 l4 e3));clear e3 p3 l3 z3 p4 l4 z4))
 go_ret2
 exact⟨HE.out,rfl,L4.out⟩
theorem is_ok {P:List Inst} (hO: ∀w,Calls Tryz.prog 19 #[.string p] w (Gives w P)) (hn:P.length≤900000) (hs:s.size≤900000):Calls Tryz.prog 7 #[.string p,.string s] w fun e w'=>e= .returned (.tuple #[.bool (found P s),.int .i64 0])∧Below w.heap.size w w':=by
 have HO:=hid hO
 have HS:Hid (∀(w:World) (v:Value),Prg w.heap.size w v P→Calls Tryz.prog 14 #[v,.string s] w fun e w'=>e= .returned (.bool (found P s))∧Below w.heap.size w w'):=fun w v h=>search_any h hn hs
 obtain⟨R,hR⟩: ∃R,found P s=R:=⟨_,rfl⟩
 rw[hR]at HS ⊢
 clear hO hn hs hR
 go_enter Tryz.func7,Tryz.ntmps7
 go_wp2_with fail
 refine(HO.out _).mono ?_
 rintro e w1 ⟨v,rfl,o1,l1⟩
 have R1:=hid (Recs.of_own insC_len rfl o1)
 have L1:=hid l1
 clear o1 l1
 go_wp2_with fail
 refine(HS.out _ _ R1.out).mono ?_
 rintro e w2 ⟨rfl,l2⟩
 have L2:=hid (on L1.out l2)
 clear l2
 go_wp2_with fail
 go_ret2
 exact⟨rfl,L2.out⟩
theorem is_bad {er:Int} (hO: ∀w,Calls Tryz.prog 19 #[.string p] w (FailsN w er)):Calls Tryz.prog 7 #[.string p,.string s] w fun e w'=>e= .returned (.tuple #[.bool false,.int .i64 er])∧Below w.heap.size w w':=by
 have HO:=hid hO
 clear hO
 go_enter Tryz.func7,Tryz.ntmps7
 go_wp2_with fail
 refine(HO.out _).mono ?_
 rintro e w1 ⟨he,rfl,l1⟩
 have te:(er !=0)=true:=by simpa using he
 have L1:=hid l1
 clear l1 he
 go_wp2_with fail
 go_ret2
 exact⟨rfl,L1.out⟩
theorem of_okW {P:Piece} {to:Nat} (hw:Whole P) (hz:size P≤4000) (hC: ∀w,Calls Tryz.prog 29 #[.string p] w (ParsesTo w (.ok P to))) (w:World):Calls Tryz.prog 19 #[.string p] w (Gives w (prog P)):=by
 refine(W15.of_got (w:=w) (g:= .ok P to) hw hC).mono fun e w' h=> ?_
 have h2:(if size P≤4000 then Gives w (prog P) e w' else Fails w 21 e w'):=h
 rwa[if_pos hz]at h2
theorem of_manyW {P:Piece} {to:Nat} (hw:Whole P) (hz: ¬size P≤4000) (hC: ∀w,Calls Tryz.prog 29 #[.string p] w (ParsesTo w (.ok P to))) (w:World):Calls Tryz.prog 19 #[.string p] w (FailsN w 21):=by
 refine(W15.of_got (w:=w) (g:= .ok P to) hw hC).mono fun e w' h=> ?_
 have h2:(if size P≤4000 then Gives w (prog P) e w' else Fails w 21 e w'):=h
 rw[if_neg hz]at h2
 exact⟨by decide,h2⟩
theorem prog_len {P:Piece} (hg:M15.Good P) (hz:size P≤4000):(prog P).length=size P+1:=by
 unfold prog
 rw[List.length_append,steps_len hg hz]
 rfl
end
/-! lives -/
def livesA:Piece:= .mk 8 ⟨#[]⟩ [M14.leaf 2 (M14.chr 97),.mk 9 ⟨#[]⟩ [M14.leaf 2 (M14.chr 98)] 0 (-1)] 0 0
def livesG:Piece:= .mk 7 ⟨#[]⟩ [M14.leaf 5 ⟨#[]⟩,M14.leaf 2 (M14.chr 46),M14.leaf 2 (M14.chr 103),M14.leaf 2 (M14.chr 105),M14.leaf 2 (M14.chr 116),M14.leaf 6 ⟨#[]⟩] 0 0
theorem livesA_rows:M14.rows [97,124,98,42] 5 0 0=some (.ok livesA 4):=by rfl
theorem livesG_rows:M14.rows [94,92,46,103,105,116,36] 8 0 0=some (.ok livesG 7):=by rfl
theorem livesA_size:size livesA=6:=by
 simp[livesA,M14.leaf,size,sizes]
theorem livesG_size:size livesG=6:=by
 simp[livesG,M14.leaf,size,sizes]
def livesLA:List Inst:= [⟨6,⟨#[]⟩,1,3⟩,⟨1,⟨#[97]⟩,2,0⟩,⟨8,⟨#[]⟩,6,0⟩,⟨6,⟨#[]⟩,4,6⟩,⟨1,⟨#[98]⟩,5,0⟩,⟨8,⟨#[]⟩,3,0⟩,⟨7,⟨#[]⟩,0,0⟩]
def livesLG:List Inst:= [⟨4,⟨#[]⟩,1,0⟩,⟨1,⟨#[46]⟩,2,0⟩,⟨1,⟨#[103]⟩,3,0⟩,⟨1,⟨#[105]⟩,4,0⟩,⟨1,⟨#[116]⟩,5,0⟩,⟨5,⟨#[]⟩,6,0⟩,⟨7,⟨#[]⟩,0,0⟩]
theorem livesA_prog:prog livesA=livesLA:=by
 have h:=livesA_size
 unfold prog livesA at*
 rw[M15.steps_8]
 simp only[M15.no]at*
 rw[h,M15.alts_2,M15.alts_1,M15.steps_leaf (by omega),M15.steps_9,M15.size_9,M15.size_1 (by omega),M15.size_1 (by omega)]
 unfold M15.reps M15.star
 rw[M15.steps_leaf (by omega)]
 rfl
theorem livesG_prog:prog livesG=livesLG:=by
 unfold prog livesG
 rw[M15.steps_7]
 simp only[M15.seqs,M15.no]at*
 simp only[M15.steps_leaf (show(1:Int)≤5∧(5:Int)≤6 by omega),M15.steps_leaf (show(1:Int)≤2∧(2:Int)≤6 by omega),M15.steps_leaf (show(1:Int)≤6∧(6:Int)≤6 by omega),M15.size_1 (show(1:Int)≤5∧(5:Int)≤6 by omega),M15.size_1 (show(1:Int)≤2∧(2:Int)≤6 by omega)]
 rfl
theorem livesA_ends:endsL livesLA [98,98,97] 0= [0,1,2]:=by decide+kernel
theorem livesG_found:found livesLG ⟨#[46,103,105,116]⟩=true:=by decide+kernel
theorem parse_lives {s:ByteArray} (hs:s.size≤900) {P:Piece} {to:Nat} (hg:M14.rows s.data.toList (s.data.toList.length+1) 0 0=some (.ok P to)) (hto:to=s.data.toList.length):Whole P∧ ∀w,Calls Tryz.prog 29 #[.string s] w (ParsesTo w (.ok P to)):=by
 obtain⟨g',e,hf,hC⟩:=W14.parse_any hs
 rw[hg]at e
 injection e with e
 subst e
 have hx:M14.fix s.data.toList 0 (.ok P to)= .ok P to:=by
  simp only[M14.fix]
  rw[if_neg]
  rintro⟨-,h,-⟩
  omega
 rw[hx]at hC
 exact⟨hf.2.2,hC⟩
def Yes (w:World) (e:Ending) (w':World):Prop:=e= .returned (.bool true)∧Below w.heap.size w w'
theorem nums_012 (w:World):Nums (w.alloc (.cells #[.int .i64 0,.int .i64 1,.int .i64 2] 3)).heap.size (w.alloc (.cells #[.int .i64 0,.int .i64 1,.int .i64 2] 3)) (.slice (some ⟨w.heap.size,0,none⟩) 3 3) [0,1,2]:=
 Recs.of_own W15.numC_len rfl (own_ints (base:=w.heap.size) w [0,1,2] (Nat.le_refl _) (by unfold maxLen;decide))
theorem lives_any (w:World):Calls Tryz.prog 5 #[] w (Yes w):=by
 unfold Yes
 have hA:=parse_lives (s:=⟨#[97,124,98,42]⟩) (by decide) livesA_rows rfl
 have hG:=parse_lives (s:=⟨#[94,92,46,103,105,116,36]⟩) (by decide) livesG_rows rfl
 have HA:Hid (∀w,Calls Tryz.prog 19 #[.string ⟨#[97,124,98,42]⟩] w (Gives w livesLA)):=fun w=>by
  have:=of_okW hA.1 (by rw[livesA_size];decide) hA.2 w
  rwa[livesA_prog]at this
 have HG:Hid (∀w,Calls Tryz.prog 7 #[.string ⟨#[94,92,46,103,105,116,36]⟩,.string ⟨#[46,103,105,116]⟩] w fun e w'=>e= .returned (.tuple #[.bool true,.int .i64 0])∧Below w.heap.size w w'):=fun w=>by
  have:=is_ok (w:=w) (p:=⟨#[94,92,46,103,105,116,36]⟩) (s:=⟨#[46,103,105,116]⟩) (P:=livesLG) (fun w=>by
   have:=of_okW hG.1 (by rw[livesG_size];decide) hG.2 w
   rwa[livesG_prog]at this) (by decide) (by decide)
  rwa[livesG_found]at this
 have HE:Hid (∀(w:World) (v:Value),Prg w.heap.size w v livesLA→Calls Tryz.prog 17 #[v,.string ⟨#[98,98,97]⟩,.int .i64 0] w (GivesInts w [0,1,2])):=fun w v h=>by
  have:=ends_at (s:=⟨#[98,98,97]⟩) h (by decide) (by decide) 0
  rwa[show endsL livesLA (⟨#[98,98,97]⟩:ByteArray).data.toList 0= [0,1,2]from livesA_ends]at this
 clear hA hG
 go_enter Tryz.func5,Tryz.ntmps5
 go_wp2_with fail
 refine(HA.out _).mono ?_
 rintro e w1 ⟨v,rfl,o1,l1⟩
 have R1:=hid (Recs.of_own insC_len rfl o1)
 have L1:=hid l1
 clear o1 l1
 go_wp2_with fail
 refine(HG.out _).mono ?_
 rintro e w2 ⟨rfl,l2⟩
 have R2:=hid ((R1.out.below l2).more l2.size)
 have L2:=hid (on L1.out l2)
 clear l2
 go_wp2_with fail
 refine(HE.out _ _ R2.out).mono ?_
 rintro e w3 ⟨u,rfl,o3,l3⟩
 have N3:=hid (Recs.of_own W15.numC_len rfl o3)
 have L3:=hid (on L2.out l3)
 clear o3 l3
 have LR:=hid (nums_012 w3)
 go_wp2_with fail
 have N4:=hid (N3.out.alloc (Nat.le_refl _) (.cells #[.int .i64 0,.int .i64 1,.int .i64 2] 3))
 have L4:=hid (on L3.out (W14.below_new w3 (.cells #[.int .i64 0,.int .i64 1,.int .i64 2] 3)))
 refine(ints_any N4.out LR.out).mono ?_
 rintro e w5 ⟨rfl,l5⟩
 have L5:=hid (on L4.out l5)
 clear l5
 go_wp2_with fail
 go_ret
 exact⟨rfl,L5.out⟩
end W16
namespace W15
open Strs Recs M15
open M14 (Piece size sizes)
open W14 (Raw Raws rawA rawC PAt PAll PBox PLow box_arg load_piece load_at cell_block)
open Kit (below_draws on)
set_option maxHeartbeats 8000000 in
theorem rst_ever {p:Piece} {M:Nat} (hM:M≤100) (hg:M15.Good (.mk 9 no [p] (M:Int) (-1))) (hgk:M15.Good p) (IH:RSt p) {w:World} {r:Raw} {a E Sz:Nat} (h:PLow w r (.mk 9 no [p] (M:Int) (-1))) (hS:size (.mk 9 no [p] (M:Int) (-1))=Sz) (hSz:M*size p+size p+2=Sz) (hz:Sz≤4000) (hE:a+Sz=E) (ha:E≤8000):
    Calls Tryz.prog 34 #[.agg (rawA r),.int .i64 a] w (Gets w (times (steps p) M a++star (steps p) E (a+(times (steps p) M a).length))):=by
 have HM:=hid hM
 clear hM
 have HSZC:=hid (fun w r hl=>size_of hg w r hl)
 rw[hS]at HSZC
 have HLOW:=hid h
 obtain⟨A,c,raws,rfl,k1⟩:=h.parts
 have HIH:=hid IH
 have HGK:=hid hgk
 have hr:1≤c∧c≤9223372036854775807:=k1.room
 obtain⟨g1,o1,rk,rfl,hg1,q0,C0⟩:=kid_at k1 (i:=0) (Nat.lt_succ_self 0) rfl
 have HG1:=hid hg1
 have Q0:Hid (PLow w rk p):=q0
 rw[show o1+0*5=o1 by omega]at C0
 have C0:=hid C0
 obtain⟨K,hK⟩: ∃K,size p=K:=⟨_,rfl⟩
 rw[hK]at hSz
 have HK:=hid hK
 have HSU:=hid hSz
 have HSUM:=hid (show Sz≤4000∧a+Sz=E∧E≤8000 from⟨hz,hE,ha⟩)
 have hwE:=wrap_sum hE (by clear hSz;omega)
 have hc1:=hr.1
 have hc2:=hr.2
 have HCR:=hid hr
 have HIP:Hid (∀(w:World) (a':Nat),PLow w rk p→K≤4000→a'+K≤8000→Calls Tryz.prog 34 #[.agg (rawA rk),.int .i64 a'] w (Gets w (steps p a'))):=by
  intro w a' h1 h2 h3
  have h4:=HIH.out w rk a'
  rw[hK]at h4
  exact h4 h1 h2 h3
 clear h k1 IH hg hgk hS hSz hz hE ha hK hr q0 hg1
 go_enter Tryz.func34,Tryz.ntmps34
 go_wp2_with (first
  |(refine box_arg (r:=⟨9,no,some ⟨g1,o1,none⟩,1,c,(M:Int),-1⟩) rfl (.tmp 0) rfl rfl ?_;intro w1 b1 e1 p1 l1 z1;have a0:=p1.c0;have P1:=hid p1;have L1:=hid l1;clear e1 p1 l1 z1;simp only at a0)
  |(refine load_piece (r:=⟨9,no,some ⟨g1,o1,none⟩,1,c,(M:Int),-1⟩) rfl (.tmp 2) rfl rfl P1.out ?_))
 refine(HSZC.out _ _ (HLOW.out.below L1.out)).mono ?_
 rintro e w2 ⟨rfl,l2⟩
 have S0:=hid ((St.start (w0:=w) P1.out L1.out).below l2)
 clear l2 a0 hc1 hc2
 go_wp2_with fail
 simp only[hwE]
 clear hwE
 go_loopg [5,12] M (fun gk s5 s12 wr=> ∃(i:Nat) (vo:Value),s5=vo∧s12= .int .i64 i∧Hid (i+gk=M)∧Hid (St w wr b1 ⟨9,no,some ⟨g1,o1,none⟩,1,c,(M:Int),-1⟩ vo (times (steps p) i a)))
 case atStart=>exact⟨0,.slice none 0 0,rfl,rfl,by unfold Hid;omega,by unfold Hid;simp only[times];exact S0.out⟩
 case round=>
  obtain⟨i,vo,rfl,rfl,hig,SS⟩:=hrel
  have a2:=SS.out.box.c2
  have a3:=SS.out.box.c3
  simp only at a2 a3
  have hn1:=HCR.out.1
  have hn2:=HCR.out.2
  by_cases hi:i<M
  ·have ti:(i:Int)<(M:Int):=by omega
   have hK4:K≤4000:=by have:=HSU.out;have:=HSUM.out.1;generalize M*K=MK at *;omega
   have hlen:=steps_len HGK.out (by rw[HK.out];exact hK4)
   rw[HK.out]at hlen
   have hmul:(i+1)*K≤M*K:=Nat.mul_le_mul_right _ hi
   rw[Nat.succ_mul]at hmul
   have hll:=times_len hlen i a
   have hsn:=times_snoc (steps p) i a
   rw[hll]at hsn
   obtain⟨Q,hQ⟩: ∃Q,i*K=Q:=⟨_,rfl⟩
   rw[hQ]at hmul hll hsn
   obtain⟨S,hSa⟩: ∃S,a+Q=S:=⟨_,rfl⟩
   rw[hSa]at hsn
   have hQK:Q+K≤Sz:=by
    have:=HSU.out
    generalize M*K=MK at*
    clear hlen hll hsn
    omega
   have HQB:=hid (show Q+K≤4000∧S+K≤8000 from by have:=HSUM.out;clear hmul hlen hll hsn hQ;exact⟨by omega,by omega⟩)
   have hw:=wrap_sum hSa (by have:=HQB.out;clear hmul hlen hll hsn hQ;omega)
   have HC:=hid (HIP.out wr S (Q0.out.below SS.out.low) hK4 HQB.out.2)
   have HX:Hid (times (steps p) (i+1) a=times (steps p) i a++steps p S):=hsn
   have HL:Hid ((times (steps p) i a).length+(steps p S).length≤1000000):=by unfold Hid;rw[hll,hlen S];have:=HQB.out;clear hw hmul hlen hll hsn hQ;omega
   obtain⟨Ao,co,rfl,hco1,hco2⟩:=SS.out.form
   rw[hll]at hco1 SS ⊢
   have hwi:Hid (wrap64 ((i:Int)+1)=((i+1:Nat):Int)):=by unfold Hid wrap64;have:=HM.out;clear hw hmul hlen hll hsn hQ;omega
   have HI2:=hid hi
   have E0:=hid (cells_on C0.out HG1.out SS.out.low)
   clear hlen hmul hll hsn hQ hSa hQK hi hK4
   go_wp2_with (first|(refine load_at rfl (.tmp 150) rfl rfl (r:=rk) E0.out ?_))
   refine HC.out.mono ?_
   rintro e w3 ⟨vs,rfl,o3,l3⟩
   have S2:=hid (SS.out.below l3)
   have R2:=hid (Recs.of_own insC_len rfl o3)
   clear o3 l3 a2 a3 hw
   go_wp2_with (first
    |(refine append_ins rfl (.tmp 147) (.tmp 156) rfl rfl rfl S2.out.own R2.out HL.out S2.out.low.size ?_;intro v4 w4 o4 p4;have S4:=hid (S2.out.put o4 p4);clear o4 p4))
   rw[←HX.out]at S4
   cases gk with
   |zero=>exact absurd hig.out (by have:=HI2.out;omega)
   |succ g=>
    go_wp2_with fail
    go_roundg g
    case measure=>omega
    case rel=>exact⟨i+1,v4,rfl,by first|rfl|exact congrArg (Value.int .i64) hwi.out,by have:=hig.out;unfold Hid;omega,S4⟩
  ·have ti: ¬(i:Int)<(M:Int):=by omega
   have hie:i=M:=by have:=hig.out;omega
   subst hie
   clear hi
   have hK4:K≤4000:=by have:=HSU.out;have:=HSUM.out.1;generalize i*K=MK at *;omega
   have hlen:=steps_len HGK.out (by rw[HK.out];exact hK4)
   rw[HK.out]at hlen
   have hll:=times_len hlen i a
   obtain⟨Q,hQ⟩: ∃Q,i*K=Q:=⟨_,rfl⟩
   rw[hQ]at hll
   have HSU2:=HSU
   rw[hQ]at HSU2
   obtain⟨hh,hhh⟩: ∃hh,a+Q=hh:=⟨_,rfl⟩
   obtain⟨x1,hx1⟩: ∃x1,hh+1=x1:=⟨_,rfl⟩
   have HB:=hid (show hh+K+2=E∧E≤8000∧Q≤4000 from by have:=HSUM.out;have:=HSU2.out;clear hll hlen hQ;exact⟨by omega,by omega,by omega⟩)
   have HX1:=hid hx1
   have HPL:=hid hlen
   have HLN:=hid hll
   have hwh:=wrap_sum hhh (by have:=HB.out;clear hll hlen hQ;omega)
   have hwx:=wrap_one hx1 (by have:=HB.out;clear hll hlen hQ hwh;omega)
   have HFIN:Hid (times (steps p) i a++ [(⟨6,⟨#[]⟩,(x1:Nat),(E:Nat)⟩:Inst)]++steps p x1++ [(⟨8,⟨#[]⟩,(hh:Nat),0⟩:Inst)]=times (steps p) i a++star (steps p) E (a+(times (steps p) i a).length)):=by
    unfold Hid
    rw[HLN.out,hhh,←hx1]
    simp only[star,List.append_assoc,List.cons_append,List.nil_append]
    rfl
   have HL1:Hid ((times (steps p) i a).length+ [(⟨6,⟨#[]⟩,(x1:Nat),(E:Nat)⟩:Inst)].length≤1000000):=by unfold Hid;rw[HLN.out];simp only[List.length_cons,List.length_nil];have:=HB.out;clear hll hlen hQ hwh hwx;omega
   have HL2:Hid ((times (steps p) i a++ [(⟨6,⟨#[]⟩,(x1:Nat),(E:Nat)⟩:Inst)]).length+(steps p x1).length≤1000000):=by unfold Hid;rw[List.length_append,HLN.out,HPL.out];simp only[List.length_cons,List.length_nil];have:=HB.out;clear hll hlen hQ hwh hwx;omega
   have HL3:Hid ((times (steps p) i a++ [(⟨6,⟨#[]⟩,(x1:Nat),(E:Nat)⟩:Inst)]++steps p x1).length+ [(⟨8,⟨#[]⟩,(hh:Nat),0⟩:Inst)].length≤1000000):=by unfold Hid;rw[List.length_append,List.length_append,HLN.out,HPL.out];simp only[List.length_cons,List.length_nil];have:=HB.out;clear hll hlen hQ hwh hwx;omega
   obtain⟨Ao,co,rfl,hco1,hco2⟩:=SS.out.form
   rw[hll]at hco1 SS ⊢
   have a4:=SS.out.box.c4
   simp only at a4
   clear hlen hll hQ hhh hx1
   go_wp2_with (first
    |(refine slice_ins (r:=⟨6,⟨#[]⟩,(x1:Nat),(E:Nat)⟩) rfl (.tmp 169) rfl rfl ?_;intro w4 b4 e4 p4 l4 z4 o4;have R4:=hid p4;have S4:=hid (SS.out.below l4);clear e4 p4 l4 z4 o4)
    |(refine append_ins rfl (.tmp 165) (.tmp 170) rfl rfl rfl S4.out.own R4.out HL1.out S4.out.low.size ?_;intro v5 w5 o5 p5;have S5:=hid (S4.out.put o5 p5);clear o5 p5;clear a2 a3 a4;have a2:=S5.out.box.c2;simp only at a2;have e5:=hid (cells_on C0.out HG1.out S5.out.low))
    |(refine load_at rfl (.tmp 175) rfl rfl (r:=rk) e5.out ?_))
   refine(HIP.out _ x1 (Q0.out.below S5.out.low) hK4 (by have:=HB.out;have:=HX1.out;clear hwh hwx;omega)).mono ?_
   rintro e w6 ⟨v6,rfl,o6,l6⟩
   have S6:=hid (S5.out.below l6)
   have R6:=hid (Recs.of_own insC_len rfl o6)
   clear o6 l6 a2 hwx
   go_wp2_with (first
    |(refine append_ins rfl (.tmp 172) (.tmp 179) rfl rfl rfl S6.out.own R6.out HL2.out S6.out.low.size ?_;intro v7 w7 o7 p7;have S7:=hid (S6.out.put o7 p7);clear o7 p7)
    |(refine slice_ins (r:=⟨8,⟨#[]⟩,(hh:Nat),0⟩) rfl (.tmp 183) rfl rfl ?_;intro w8 b8 e8 p8 l8 z8 o8;have R8:=hid p8;have S8:=hid (S7.out.below l8);clear e8 p8 l8 z8 o8)
    |(refine append_ins rfl (.tmp 181) (.tmp 184) rfl rfl rfl S8.out.own R8.out HL3.out S8.out.low.size ?_;intro v9 w9 o9 p9;have S9:=hid (S8.out.put o9 p9);clear o9 p9;have a3:=S9.out.box.c3;have a4:=S9.out.box.c4;simp only at a3 a4))
   rw[HFIN.out]at S9
   clear a3
   go_loopg [5,13,14] 1 (fun gk s5 s13 s14 wr=>s5=v9∧s13= .int .i64 hh∧s14= .int .i64 i∧wr=w9)
   case atStart=>exact⟨rfl,by first|rfl|exact congrArg (Value.int .i64) hwh,rfl,rfl⟩
   case round=>
    obtain⟨rfl,rfl,rfl,rfl⟩:=hrel
    have a4:=S9.out.box.c4
    simp only at a4
    have tlast: ¬(i:Int)< -1:=by omega
    go_wp2_with fail
    go_ret
    exact S9.out.gets
set_option maxHeartbeats 8000000 in
theorem rst_upto {p:Piece} {M T D:Nat} (hM:M≤100) (hT:M+D=T∧T≤100) (hg:M15.Good (.mk 9 no [p] (M:Int) (T:Int))) (hgk:M15.Good p) (IH:RSt p) {w:World} {r:Raw} {a E Sz:Nat} (h:PLow w r (.mk 9 no [p] (M:Int) (T:Int))) (hS:size (.mk 9 no [p] (M:Int) (T:Int))=Sz) (hSz:M*size p+D*(size p+1)=Sz) (hz:Sz≤4000) (hE:a+Sz=E) (ha:E≤8000) (hK0:0<M∨0<D→size p≤4000):
    Calls Tryz.prog 34 #[.agg (rawA r),.int .i64 a] w (Gets w (times (steps p) M a++maybe (steps p) E D (a+(times (steps p) M a).length))):=by
 have HM:=hid hM
 have HTT:=hid hT
 have HK0:=hid hK0
 clear hM hT hK0
 have HSZC:=hid (fun w r hl=>size_of hg w r hl)
 rw[hS]at HSZC
 have HLOW:=hid h
 obtain⟨A,c,raws,rfl,k1⟩:=h.parts
 have HIH:=hid IH
 have HGK:=hid hgk
 have hr:1≤c∧c≤9223372036854775807:=k1.room
 obtain⟨g1,o1,rk,rfl,hg1,q0,C0⟩:=kid_at k1 (i:=0) (Nat.lt_succ_self 0) rfl
 have HG1:=hid hg1
 have Q0:Hid (PLow w rk p):=q0
 rw[show o1+0*5=o1 by omega]at C0
 have C0:=hid C0
 obtain⟨K,hK⟩: ∃K,size p=K:=⟨_,rfl⟩
 rw[hK]at hSz HK0
 have HK:=hid hK
 have HSU:=hid hSz
 have HSUM:=hid (show Sz≤4000∧a+Sz=E∧E≤8000 from⟨hz,hE,ha⟩)
 have hwE:=wrap_sum hE (by clear hSz;omega)
 have hc1:=hr.1
 have hc2:=hr.2
 have HCR:=hid hr
 have HIP:Hid (∀(w:World) (a':Nat),PLow w rk p→K≤4000→a'+K≤8000→Calls Tryz.prog 34 #[.agg (rawA rk),.int .i64 a'] w (Gets w (steps p a'))):=by
  intro w a' h1 h2 h3
  have h4:=HIH.out w rk a'
  rw[hK]at h4
  exact h4 h1 h2 h3
 clear h k1 IH hg hgk hS hSz hz hE ha hK hr q0 hg1
 go_enter Tryz.func34,Tryz.ntmps34
 go_wp2_with (first
  |(refine box_arg (r:=⟨9,no,some ⟨g1,o1,none⟩,1,c,(M:Int),(T:Int)⟩) rfl (.tmp 0) rfl rfl ?_;intro w1 b1 e1 p1 l1 z1;have a0:=p1.c0;have P1:=hid p1;have L1:=hid l1;clear e1 p1 l1 z1;simp only at a0)
  |(refine load_piece (r:=⟨9,no,some ⟨g1,o1,none⟩,1,c,(M:Int),(T:Int)⟩) rfl (.tmp 2) rfl rfl P1.out ?_))
 refine(HSZC.out _ _ (HLOW.out.below L1.out)).mono ?_
 rintro e w2 ⟨rfl,l2⟩
 have S0:=hid ((St.start (w0:=w) P1.out L1.out).below l2)
 clear l2 a0 hc1 hc2
 go_wp2_with fail
 simp only[hwE]
 clear hwE
 go_loopg [5,12] M (fun gk s5 s12 wr=> ∃(i:Nat) (vo:Value),s5=vo∧s12= .int .i64 i∧Hid (i+gk=M)∧Hid (St w wr b1 ⟨9,no,some ⟨g1,o1,none⟩,1,c,(M:Int),(T:Int)⟩ vo (times (steps p) i a)))
 case atStart=>exact⟨0,.slice none 0 0,rfl,rfl,by unfold Hid;omega,by unfold Hid;simp only[times];exact S0.out⟩
 case round=>
  obtain⟨i,vo,rfl,rfl,hig,SS⟩:=hrel
  have a2:=SS.out.box.c2
  have a3:=SS.out.box.c3
  simp only at a2 a3
  have hn1:=HCR.out.1
  have hn2:=HCR.out.2
  by_cases hi:i<M
  ·have ti:(i:Int)<(M:Int):=by omega
   have hK4:K≤4000:=HK0.out (.inl (Nat.lt_of_le_of_lt (Nat.zero_le _) hi))
   have hlen:=steps_len HGK.out (by rw[HK.out];exact hK4)
   rw[HK.out]at hlen
   have hmul:(i+1)*K≤M*K:=Nat.mul_le_mul_right _ hi
   rw[Nat.succ_mul]at hmul
   have hll:=times_len hlen i a
   have hsn:=times_snoc (steps p) i a
   rw[hll]at hsn
   obtain⟨Q,hQ⟩: ∃Q,i*K=Q:=⟨_,rfl⟩
   rw[hQ]at hmul hll hsn
   obtain⟨S,hSa⟩: ∃S,a+Q=S:=⟨_,rfl⟩
   rw[hSa]at hsn
   have hQK:Q+K≤Sz:=by
    have:=HSU.out
    generalize M*K=MK at*
    clear hlen hll hsn
    generalize D*(K+1)=DK at *;omega
   have HQB:=hid (show Q+K≤4000∧S+K≤8000 from by have:=HSUM.out;clear hmul hlen hll hsn hQ;exact⟨by omega,by omega⟩)
   have hw:=wrap_sum hSa (by have:=HQB.out;clear hmul hlen hll hsn hQ;omega)
   have HC:=hid (HIP.out wr S (Q0.out.below SS.out.low) hK4 HQB.out.2)
   have HX:Hid (times (steps p) (i+1) a=times (steps p) i a++steps p S):=hsn
   have HL:Hid ((times (steps p) i a).length+(steps p S).length≤1000000):=by unfold Hid;rw[hll,hlen S];have:=HQB.out;clear hw hmul hlen hll hsn hQ;omega
   obtain⟨Ao,co,rfl,hco1,hco2⟩:=SS.out.form
   rw[hll]at hco1 SS ⊢
   have hwi:Hid (wrap64 ((i:Int)+1)=((i+1:Nat):Int)):=by unfold Hid wrap64;have:=HM.out;clear hw hmul hlen hll hsn hQ;omega
   have HI2:=hid hi
   have E0:=hid (cells_on C0.out HG1.out SS.out.low)
   clear hlen hmul hll hsn hQ hSa hQK hi hK4
   go_wp2_with (first|(refine load_at rfl (.tmp 150) rfl rfl (r:=rk) E0.out ?_))
   refine HC.out.mono ?_
   rintro e w3 ⟨vs,rfl,o3,l3⟩
   have S2:=hid (SS.out.below l3)
   have R2:=hid (Recs.of_own insC_len rfl o3)
   clear o3 l3 a2 a3 hw
   go_wp2_with (first
    |(refine append_ins rfl (.tmp 147) (.tmp 156) rfl rfl rfl S2.out.own R2.out HL.out S2.out.low.size ?_;intro v4 w4 o4 p4;have S4:=hid (S2.out.put o4 p4);clear o4 p4))
   rw[←HX.out]at S4
   cases gk with
   |zero=>exact absurd hig.out (by have:=HI2.out;omega)
   |succ g=>
    go_wp2_with fail
    go_roundg g
    case measure=>omega
    case rel=>exact⟨i+1,v4,rfl,by first|rfl|exact congrArg (Value.int .i64) hwi.out,by have:=hig.out;unfold Hid;omega,S4⟩
  ·have ti: ¬(i:Int)<(M:Int):=by omega
   have hie:i=M:=by have:=hig.out;omega
   subst hie
   clear hi
   obtain⟨Nl,hNl⟩: ∃Nl,(times (steps p) i a).length=Nl:=⟨_,rfl⟩
   have hND:Nl+D*(K+1)=Sz:=by
    have h9:=HSU.out
    by_cases q:0<i
    ·have h1:=steps_len HGK.out (by rw[HK.out];exact HK0.out (.inl q))
     rw[HK.out]at h1
     rw[←hNl,times_len h1];exact h9
    ·obtain rfl:i=0:=by omega
     have h2:Nl=0:=by rw[←hNl];rfl
     rw[h2,Nat.zero_add]
     rw[Nat.zero_mul,Nat.zero_add]at h9
     exact h9
   obtain⟨hh,hhh⟩: ∃hh,a+Nl=hh:=⟨_,rfl⟩
   have HND:=hid hND
   have HNL:=hid hNl
   have HHH:=hid hhh
   have HB:=hid (show hh≤8000∧E≤8000 from by have:=HSUM.out;generalize D*(K+1)=DK at *;clear hNl;exact⟨by omega,by omega⟩)
   have hwh:=wrap_sum hhh (by have:=HB.out;clear hNl hND;omega)
   obtain⟨Ti,hTi⟩: ∃Ti,times (steps p) i a=Ti:=⟨_,rfl⟩
   rw[hTi]at HNL
   have HFIN:Hid (times (steps p) i a++maybe (steps p) E D (a+(times (steps p) i a).length)=Ti++maybe (steps p) E D hh):=by unfold Hid;rw[hNl,hTi,hhh]
   rw[hTi]at SS
   obtain⟨Ao,co,rfl,hco1,hco2⟩:=SS.out.form
   rw[HNL.out]at hco1 SS ⊢
   have a4:=SS.out.box.c4
   simp only at a4
   have tT: ¬(T:Int)<0:=by omega
   clear hNl hND hhh hTi
   go_wp2_with fail
   clear a2 a3 a4 tT
   go_loopg [5,13,14] D (fun gk s5 s13 s14 wr=> ∃(j q:Nat) (vo:Value),s5=vo∧s14= .int .i64 q∧Hid (q=i+j)∧Hid (j+gk=D)∧Hid (St w wr b1 ⟨9,no,some ⟨g1,o1,none⟩,1,c,(i:Int),(T:Int)⟩ vo (Ti++maybe (steps p) E j hh)))
   case atStart=>exact⟨0,i,_,rfl,rfl,rfl,by unfold Hid;omega,by unfold Hid;simp only[maybe,List.append_nil];exact SS.out⟩
   case round=>
    obtain⟨j,q,vo,rfl,rfl,hq,hjg,S1⟩:=hrel
    have a2:=S1.out.box.c2
    have a4:=S1.out.box.c4
    simp only at a2 a4
    by_cases hj:j<D
    ·have tq:(q:Int)<(T:Int):=by have:=hq.out;have:=HTT.out;omega
     have hK4:K≤4000:=HK0.out (.inr (Nat.lt_of_le_of_lt (Nat.zero_le _) hj))
     have hlen:=steps_len HGK.out (by rw[HK.out];exact hK4)
     rw[HK.out]at hlen
     have hmul:(j+1)*(K+1)≤D*(K+1):=Nat.mul_le_mul_right _ hj
     rw[Nat.succ_mul]at hmul
     have hml:=maybe_len hlen E j hh
     have hsn:=maybe_snoc hlen E j hh
     obtain⟨P,hP⟩: ∃P,j*(K+1)=P:=⟨_,rfl⟩
     rw[hP]at hmul hml hsn
     obtain⟨h2,hh2⟩: ∃h2,hh+P=h2:=⟨_,rfl⟩
     rw[hh2]at hsn
     obtain⟨x1,hx1⟩: ∃x1,h2+1=x1:=⟨_,rfl⟩
     rw[hx1]at hsn
     obtain⟨NN,hNN⟩: ∃NN,Nl+P=NN:=⟨_,rfl⟩
     have hll:(Ti++maybe (steps p) E j hh).length=NN:=by rw[List.length_append,HNL.out,hml,hNN]
     have HB2:=hid (show x1+K≤8000∧NN≤4000∧a+NN=h2∧h2≤8000 from by
      have b1:=HND.out
      have b2:=HSUM.out
      have b3:=HHH.out
      generalize D*(K+1)=DK at*
      clear hlen hml hsn hP hll hwh
      exact⟨by omega,by omega,by omega,by omega⟩)
     have hw2:=wrap_sum HB2.out.2.2.1 (Nat.le_trans HB2.out.2.2.2 (by decide))
     have hwx:=wrap_one hx1 (by have:=HB2.out;clear hlen hml hsn hP hll hwh hw2 hmul;omega)
     have HX:Hid (Ti++maybe (steps p) E (j+1) hh=Ti++maybe (steps p) E j hh++ [(⟨6,⟨#[]⟩,(x1:Nat),(E:Nat)⟩:Inst)]++steps p x1):=by
      unfold Hid
      rw[hsn]
      simp only[List.append_assoc,List.cons_append,List.nil_append]
      rfl
     have HL1:Hid ((Ti++maybe (steps p) E j hh).length+ [(⟨6,⟨#[]⟩,(x1:Nat),(E:Nat)⟩:Inst)].length≤1000000):=by unfold Hid;rw[hll];simp only[List.length_cons,List.length_nil];have:=HB2.out;clear hlen hml hsn hP hll hwh hw2 hwx hmul;omega
     have HL2:Hid ((Ti++maybe (steps p) E j hh++ [(⟨6,⟨#[]⟩,(x1:Nat),(E:Nat)⟩:Inst)]).length+(steps p x1).length≤1000000):=by unfold Hid;rw[List.length_append,hll,hlen x1];simp only[List.length_cons,List.length_nil];have:=HB2.out;clear hlen hml hsn hP hll hwh hw2 hwx hmul;omega
     have hwq:Hid (wrap64 ((q:Int)+1)=((q+1:Nat):Int)):=by unfold Hid wrap64;have:=hq.out;have:=HTT.out;clear hlen hml hsn hP hll hwh hw2 hwx hmul;omega
     obtain⟨Ao,co,rfl,hco1,hco2⟩:=S1.out.form
     rw[hll]at hco1 S1 ⊢
     have HJ2:=hid hj
     have hn1:=HCR.out.1
     have hn2:=HCR.out.2
     have HC:=hid (fun w h=>HIP.out w x1 h hK4 HB2.out.1)
     clear hlen hmul hml hsn hP hh2 hx1 hNN hll hj hwh hK4
     go_wp2_with (first
      |(refine slice_ins (r:=⟨6,⟨#[]⟩,(x1:Nat),(E:Nat)⟩) rfl (.tmp 202) rfl rfl ?_;intro w4 b4 e4 p4 l4 z4 o4;have R4:=hid p4;have S4:=hid (S1.out.below l4);clear e4 p4 l4 z4 o4)
      |(refine append_ins rfl (.tmp 198) (.tmp 203) rfl rfl rfl S4.out.own R4.out HL1.out S4.out.low.size ?_;intro v5 w5 o5 p5;have S5:=hid (S4.out.put o5 p5);clear o5 p5;clear a2 a4;have a2:=S5.out.box.c2;simp only at a2;have e5:=hid (cells_on C0.out HG1.out S5.out.low))
      |(refine load_at rfl (.tmp 208) rfl rfl (r:=rk) e5.out ?_))
     refine(HC.out _ (Q0.out.below S5.out.low)).mono ?_
     rintro e w6 ⟨v6,rfl,o6,l6⟩
     have S6:=hid (S5.out.below l6)
     have R6:=hid (Recs.of_own insC_len rfl o6)
     clear o6 l6 a2 hwx hw2
     go_wp2_with (first
      |(refine append_ins rfl (.tmp 205) (.tmp 212) rfl rfl rfl S6.out.own R6.out HL2.out S6.out.low.size ?_;intro v7 w7 o7 p7;have S7:=hid (S6.out.put o7 p7);clear o7 p7))
     rw[←HX.out]at S7
     cases gk with
     |zero=>exact absurd hjg.out (by have:=HJ2.out;omega)
     |succ g=>
      go_wp2_with fail
      go_roundg g
      case measure=>omega
      case rel=>exact⟨j+1,q+1,v7,rfl,by first|rfl|exact congrArg (Value.int .i64) hwq.out,by have:=hq.out;unfold Hid;omega,by have:=hjg.out;unfold Hid;omega,S7⟩
    ·have tq: ¬(q:Int)<(T:Int):=by have:=hq.out;have:=HTT.out;omega
     have hje:j=D:=by have:=hjg.out;omega
     subst hje
     rw[←HFIN.out]at S1
     clear hj
     go_wp2_with fail
     go_ret
     exact S1.out.gets
theorem rst_any {p:Piece} (h:M15.Good p):RSt p:=by
 induction h with
 |leaf k t h=>exact rst_leaf h t
 |many k hk ks h2 hw ih=>
  intro w r a hl hz ha
  have IH: ∀i (hi:i<ks.length),RSt ks[i]:=fun i hi=>ih ks[i] (List.getElem_mem hi)
  have hgd:M15.Good (.mk k no ks 0 0):= .many k hk ks h2 hw
  rcases hk with rfl|rfl
  ·rw[M15.size_7]at hz ha
   have hs: ∀q,q∈ks→ ∀a,(steps q a).length=size q:=fun q hq=>steps_len (hw q hq) (by have:=M15.size_mem hq;omega)
   rw[steps_7]
   exact rst_seq IH hs hl (by omega) (by omega)
  ·rw[steps_8]
   have hsz:=M15.size_8 no ks 0 0
   obtain⟨S,hS⟩: ∃S,size (.mk 8 no ks 0 0)=S:=⟨_,rfl⟩
   rw[hS]at hz ha hsz ⊢
   have hs: ∀q,q∈ks→ ∀a,(steps q a).length=size q:=fun q hq=>steps_len (hw q hq) (by have:=M15.size_mem hq;omega)
   obtain⟨n,hn⟩: ∃n,ks.length=n+1:=⟨ks.length-1,by omega⟩
   have hE:sizes ks+2*n=S:=by
    rw[hn]at hsz
    omega
   exact rst_alt hgd hw IH hs hl hn hS hE hz rfl ha
 |rep p m t hm ht hw ih=>
  intro w r a hl hz ha
  have hgd:M15.Good (.mk 9 no [p] m t):= .rep p m t hm ht hw
  rw[steps_9]
  have hsz:=M15.size_9 no p m t
  obtain⟨S,hS⟩: ∃S,size (.mk 9 no [p] m t)=S:=⟨_,rfl⟩
  have hkid:=fun hu=>M15.rep_kid (p:=p) (t:=no) (m:=m) (tp:=t) (by rw[hS];rw[hS]at hz;exact hz) hu hm.1
  rw[hS]at hz ha hsz ⊢
  obtain⟨M,rfl⟩: ∃M:Nat,m=(M:Int):=⟨m.toNat,by omega⟩
  unfold reps
  rw[Int.toNat_natCast]at hsz ⊢
  by_cases q:t= -1
  ·subst q
   rw[if_pos rfl]at hsz ⊢
   exact rst_ever (by omega) hgd hw ih hl hS (by generalize M*size p=MK at *;omega) hz rfl ha
  ·rw[if_neg q]at hsz ⊢
   obtain⟨T,rfl⟩: ∃T:Nat,t=(T:Int):=⟨t.toNat,by omega⟩
   obtain⟨D,hD⟩: ∃D,M+D=T:=⟨T-M,by omega⟩
   have hTM:((T:Int)-(M:Int)).toNat=D:=by omega
   rw[hTM]at hsz ⊢
   exact rst_upto (by omega) ⟨hD,by omega⟩ hgd hw ih hl hS (by generalize M*size p=MK at *;generalize D*(size p+1)=DK at *;omega) hz rfl ha (fun hu=>hkid (by omega))
end W15
namespace W15
open Strs Recs M15
open M14 (Piece size sizes)
open W14 (Raw Raws rawA rawC PAt PAll PBox PLow below_new box_arg load_piece own_same)
open Kit (below_draws on)
theorem r14right_any {p:Piece} {w:World} {r:Raw} (hl:PLow w r p):Calls Tryz.prog 33 #[.agg (rawA r)] w fun e w'=>e= .returned (.bool (gwhole p&&decide (gsize p≤4000)))∧Below w.heap.size w w':=by
 have HW:=hid (rwhole_any p)
 have HS:=hid (rgsize_any p)
 have HL:=hid hl
 unfold GTo at HS
 obtain⟨q,hq⟩: ∃q,gwhole p=q:=⟨_,rfl⟩
 obtain⟨n,hn⟩: ∃n,gsize p=n:=⟨_,rfl⟩
 rw[hq]at HW ⊢
 rw[hn]at HS ⊢
 clear hl hq hn
 cases q with
 |false=>
  rw[Bool.false_and]
  go_enter Tryz.func33,Tryz.ntmps33
  go_wp2_with (first
   |(refine box_arg (r:=r) rfl (.tmp 0) rfl rfl ?_;intro w1 b1 e1 p1 l1 z1;have P1:=hid p1;have L1:=hid l1;clear e1 p1 l1 z1)
   |(refine load_piece (r:=r) rfl (.tmp 1) rfl rfl P1.out ?_))
  refine(HW.out _ _ (HL.out.below L1.out)).mono ?_
  rintro e w2 ⟨rfl,l2⟩
  have L2:=hid (on L1.out l2)
  clear l2
  go_wp2_with fail
  go_ret
  exact⟨rfl,L2.out⟩
 |true=>
  rw[Bool.true_and]
  go_enter Tryz.func33,Tryz.ntmps33
  go_wp2_with (first
   |(refine box_arg (r:=r) rfl (.tmp 0) rfl rfl ?_;intro w1 b1 e1 p1 l1 z1;have P1:=hid p1;have L1:=hid l1;clear e1 p1 l1 z1)
   |(refine load_piece (r:=r) rfl (.tmp 1) rfl rfl P1.out ?_))
  refine(HW.out _ _ (HL.out.below L1.out)).mono ?_
  rintro e w2 ⟨rfl,l2⟩
  have P2:=hid (P1.out.below l2)
  have a0:=P2.out.c0
  have a1:=P2.out.c1
  have a2:=P2.out.c2
  have a3:=P2.out.c3
  have a4:=P2.out.c4
  have L2:=hid (on L1.out l2)
  clear l2
  go_wp2_with fail
  refine(HS.out _ _ (HL.out.below L2.out)).mono ?_
  rintro e w3 ⟨rfl,l3⟩
  have L3:=hid (on L2.out l3)
  clear l3 a0 a1 a2 a3 a4
  have HD:Hid (decide ((n:Int)≤4000)=decide (n≤4000)):=by
   unfold Hid
   by_cases c:n≤4000
   ·rw[decide_eq_true c,decide_eq_true (by omega)]
   ·rw[decide_eq_false c,decide_eq_false (by omega)]
  go_wp2_with fail
  go_ret
  exact⟨by first|rfl|(rw[←HD.out];rfl),L3.out⟩
theorem rcompile_ok {p:Piece} (hb:(gwhole p&&decide (gsize p≤4000))=true) {w:World} {r:Raw} (hl:PLow w r p):Calls Tryz.prog 22 #[.agg (rawA r)] w (Gives w (prog p)):=by
 have hbb:=hb
 rw[Bool.and_eq_true,decide_eq_true_eq]at hbb
 have hg:=good_of hbb.1
 have hz:size p≤4000:=by rw[←gsize_eq hg];exact hbb.2
 have HR:Hid (∀w1,Below w.heap.size w w1→Calls Tryz.prog 33 #[.agg (rawA r)] w1 fun e w'=>e= .returned (.bool true)∧Below w1.heap.size w1 w'):=fun w1 l1=>by
  have:=r14right_any (hl.below l1)
  rw[hb]at this
  exact this
 have HC:Hid (∀w1,Below w.heap.size w w1→Calls Tryz.prog 34 #[.agg (rawA r),.int .i64 0] w1 (Gets w1 (steps p 0))):=fun w1 l1=>rst_any hg w1 r 0 (hl.below l1) hz (by omega)
 have HLN:=hid (steps_len hg hz 0)
 have HZ:=hid hz
 clear hl hb hbb hg hz
 go_enter Tryz.func22,Tryz.ntmps22
 go_wp2_with (first
  |(refine box_arg (r:=r) rfl (.tmp 0) rfl rfl ?_;intro w1 b1 e1 p1 l1 z1;have P1:=hid p1;have L1:=hid l1;clear e1 p1 l1 z1)
  |(refine load_piece (r:=r) rfl (.tmp 1) rfl rfl P1.out ?_))
 refine(HR.out _ L1.out).mono ?_
 rintro e w2 ⟨rfl,l2⟩
 have L2:=hid (on L1.out l2)
 have P2:=hid (P1.out.below l2)
 clear l2
 go_wp2_with (first|(refine load_piece (r:=r) rfl (.tmp 1) rfl rfl P2.out ?_))
 refine(HC.out _ L2.out).mono ?_
 rintro e w3 ⟨v3,rfl,o3,l3⟩
 have S3:Hid (St w w3 b1 r v3 (steps p 0)):=⟨o3.mono L2.out.size,P2.out.below l3,on L2.out l3⟩
 have HL1:Hid ((steps p 0).length+ [(⟨7,⟨#[]⟩,0,0⟩:Inst)].length≤1000000):=by unfold Hid;rw[HLN.out];simp only[List.length_cons,List.length_nil];have:=HZ.out;omega
 clear o3 l3
 go_wp2_with (first
  |(refine slice_ins (r:=⟨7,⟨#[]⟩,0,0⟩) rfl (.tmp 9) rfl rfl ?_;intro w4 b4 e4 p4 l4 z4 o4;have R4:=hid p4;have S4:=hid (S3.out.below l4);clear e4 p4 l4 z4 o4)
  |(refine append_ins rfl (.tmp 8) (.tmp 10) rfl rfl rfl S4.out.own R4.out HL1.out S4.out.low.size ?_;intro v5 w5 o5 p5;have S5:=hid (S4.out.put o5 p5);clear o5 p5))
 go_ret2
 exact⟨v5,rfl,S5.out.own,S5.out.low⟩
end W15
namespace W14
open Strs Recs M14
open Row256 (Beside)
open Kit (below_draws on)
def gotA (r:Raw) (to e bad:Int):Array Value:= #[.int .i64 r.kind,.string r.text,.slice r.ad r.len r.cap,.int .i64 r.least,.int .i64 r.top,.int .i64 to,.int .i64 e,.int .i64 bad]
theorem got_info:(Tryz.prog.info? 50).map (fun i=>(i.zero,i.size,i.bytes))=some (some (.agg #[.int .i64 0,.string ⟨#[]⟩,.slice none 0 0,.int .i64 0,.int .i64 0,.int .i64 0,.int .i64 0,.int .i64 0]),8,88):=by kernel_rfl
theorem got_size (r:Raw) (to e bad:Int):(Tryz.prog.info? 50).map (·.size)=some (gotA r to e bad).size:=by
 obtain⟨i,hi,-,h2,-⟩:=info_parts got_info
 rw[hi];simp[gotA,h2]
theorem gotA_one (r:Raw) (to e bad:Int):(gotA r to e bad).all (·.oneCell')=true:=by simp[gotA,Value.oneCell']
def GBox (w:World) (b:Nat) (r:Raw) (to e bad:Int):Prop:=w.heap[b]? =some (.cells (gotA r to e bad) 50 (0,0))
section
variable {w w':World} {b:Nat} {r:Raw} {to e bad:Int}
theorem GBox.lt (h:GBox w b r to e bad):b<w.heap.size:=(Array.getElem?_eq_some_iff.1 h).1
theorem GBox.below (h:GBox w b r to e bad) (k:Below w.heap.size w w'):GBox w' b r to e bad:=(k.block b h.lt).trans h
theorem GBox.beside {c:Nat} (h:GBox w b r to e bad) (k:Beside c w w') (q:b≠c):GBox w' b r to e bad:=(k.block b h.lt q).trans h
theorem GBox.c5 (h:GBox w b r to e bad):w.cell? ⟨b,5,none⟩=some (.int .i64 to):=cell_of_row w b 5 _ _ _ h
theorem GBox.c6 (h:GBox w b r to e bad):w.cell? ⟨b,6,none⟩=some (.int .i64 e):=cell_of_row w b 6 _ _ _ h
theorem GBox.c7 (h:GBox w b r to e bad):w.cell? ⟨b,7,none⟩=some (.int .i64 bad):=cell_of_row w b 7 _ _ _ h
theorem GBox.free (h:GBox w b r to e bad) (i:Nat):w.frozen? ⟨b,i,none⟩=false:=frozen_of_row w b i _ _ h
theorem GBox.put (h:GBox w b r to e bad) (n:Int):GBox (w.setCell ⟨b,5,none⟩ (.int .i64 n)) b r n e bad:=by
 unfold GBox at*
 rw[heap_setCell_same w b 5 _ _ _ h];rfl
theorem GBox.raw (h:GBox w b r to e bad) (j:Nat) (hj:j<5):w.cell? ⟨b,0+j,none⟩=(rawC r)[j]? :=by
 rw[Nat.zero_add,cell_of_row w b j _ _ _ h]
 match j,hj with
 |0,_=>rfl
 |1,_=>rfl
 |2,_=>rfl
 |3,_=>rfl
 |4,_=>rfl
end
theorem zero_got (w:World):(zeroValue 50).run Tryz.prog w= .ok (.agg (gotA zeroR 0 0 0)) w:=by
 obtain⟨i,hi,h1,-,-⟩:=info_parts got_info
 simp[zeroValue,typeInfo,hi,h1];rfl
theorem built_got (k:Int) (t:ByteArray) (A:Option Addr) (n c:Nat) (l tp to:Int) (w:World):(Instr.build 50 #[(0,.agg #[.int .i64 k,.string t,.slice A n c,.int .i64 l,.int .i64 tp]),(1,.int .i64 to)]).run Tryz.prog w= .ok (.agg #[.int .i64 k,.string t,.slice A n c,.int .i64 l,.int .i64 tp,.int .i64 to,.int .i64 0,.int .i64 0]) w:=by kernel_rfl
theorem built_bad (e bad:Int) (w:World):(Instr.build 50 #[(2,.int .i64 e),(3,.int .i64 bad)]).run Tryz.prog w= .ok (.agg (gotA zeroR 0 e bad)) w:=by kernel_rfl
section
variable {ops:Array Oper} {rest:List Oper} {o:Oper} {a:Act} {w:World} {Q:Exit→Act→World→Prop}
theorem alloc_got (hgd:o.guard=none) (ho:o.op= .alloc 50)
    (h: ∀w' b,w.heap.size=b→GBox w' b zeroR 0 0 0→Below w.heap.size w w'→w'.heap.size=w.heap.size+1→wpList Tryz.prog ops Q rest (a.put o.dst (.pointer (some ⟨b,0,none⟩))) w'):wpList Tryz.prog ops Q (o::rest) a w:=
 wpList_plain hgd fun _ hK=>by
  unfold Oper.wp execOp
  simp only[ho,Instr.alloc,newVar,newRow,zero_got,Sem.run_bind,Sem.run_pure,Result.andThen_ok]
  exact hK _ _ (h _ _ rfl (heap_alloc_new w _) (below_new w _) (World.size_alloc w _))
theorem load_got (hgd:o.guard=none) (x:Operand) (ho:o.op= .load 50 x) {b:Nat} (hx:a.eval x= .pointer (some ⟨b,0,none⟩)) {r:Raw} {to e bad:Int} (hr:GBox w b r to e bad) (h:wpList Tryz.prog ops Q rest (a.put o.dst (.agg (gotA r to e bad))) w):wpList Tryz.prog ops Q (o::rest) a w:=
 wpList_load_row hgd 50 x ho b hx 50 (gotA r to e bad) (0,0) _ hr Tryz.underlying50 rfl (got_size r to e bad) h
theorem store_got (hgd:o.guard=none) (x y:Operand) (ho:o.op= .store 50 x y) {b:Nat} {r old:Raw} {to e bad to' e' bad':Int} (hx:a.eval x= .pointer (some ⟨b,0,none⟩)) (hy:a.eval y= .agg (gotA r to e bad)) (hr:GBox w b old to' e' bad')
    (h: ∀w',GBox w' b r to e bad→Beside b w w'→w'.heap.size=w.heap.size→wpList Tryz.prog ops Q rest (a.put o.dst undef) w'):wpList Tryz.prog ops Q (o::rest) a w:=
 wpList_store_row hgd 50 x y ho b (gotA r to e bad) hx hy 50 (gotA old to' e' bad') hr (got_size r to e bad) rfl (gotA_one r to e bad)
  (h _ (setRow_heap w b _ _ _ _ hr) ⟨rfl,rfl,rfl,by rw[setRow_size];exact Nat.le_refl _,fun k _ e=>setRow_other w b k _ e⟩ (setRow_size _ _ _))
theorem build_got (hgd:o.guard=none) (x y:Operand) (ho:o.op= .build 50 #[(0,x),(1,y)]) {r:Raw} {to:Int} (hx:a.eval x= .agg (rawA r)) (hy:a.eval y= .int .i64 to) (h:wpList Tryz.prog ops Q rest (a.put o.dst (.agg (gotA r to 0 0))) w):wpList Tryz.prog ops Q (o::rest) a w:=
 wpList_plain hgd fun _ hK=>by
  have:=built_got r.kind r.text r.ad r.len r.cap r.least r.top to w
  unfold Oper.wp execOp
  simp only[ho,List.map_toArray,List.map_cons,List.map_nil,hx,hy,Sem.run_bind,rawA,this,Sem.run_pure,Result.andThen_ok]
  exact hK _ _ h
theorem build_bad (hgd:o.guard=none) (x y:Operand) (ho:o.op= .build 50 #[(2,x),(3,y)]) {e bad:Int} (hx:a.eval x= .int .i64 e) (hy:a.eval y= .int .i64 bad) (h:wpList Tryz.prog ops Q rest (a.put o.dst (.agg (gotA zeroR 0 e bad))) w):wpList Tryz.prog ops Q (o::rest) a w:=
 wpList_plain hgd fun _ hK=>by
  unfold Oper.wp execOp
  simp only[ho,List.map_toArray,List.map_cons,List.map_nil,hx,hy,Sem.run_bind,built_bad,Sem.run_pure,Result.andThen_ok]
  exact hK _ _ h
end
def Gots (w:World) (g:Got) (e:Ending) (w':World):Prop:=
 Below w.heap.size w w'∧match g with
 | .ok p to=> ∃r,e= .returned (.agg (gotA r to 0 0))∧PAt (In w.heap.size w'.heap.size) w' r p
 | .bad b er=>er≠0∧ ∃t,e= .returned (.agg (gotA zeroR t er b))
theorem end_got {fn:Func} {R:Ending→World→Prop} {a:Act} {w:World} {p:Tmp} {b:Nat} {r:Raw} {to er bad:Int} (hf:fn.results= #[.cell p 50]) (hp:a.tmps.getD p undef= .pointer (some ⟨b,0,none⟩)) (hr:GBox w b r to er bad) (hd:a.defers= [])
    (hR:R (.returned (.agg (gotA r to er bad))) w):bodyPost Tryz.prog fn R .ret a w:=
 bodyPost_ret (results_cell_row hf a.tmps w b 50 (gotA r to er bad) (0,0) _ hp hr Tryz.underlying50 rfl (got_size r to er bad)) hd hR
theorem refBad_any (b:Nat) (er:Int) (he:er≠0) (w:World):Calls Tryz.prog 84 #[.int .i64 b,.int .i64 er] w (Gots w (.bad b er)):=by
 have HE:=hid he
 clear he
 go_enter Tryz.func84,Tryz.ntmps84
 go_wp2_with (first
  |(refine alloc_got rfl rfl ?_;intro w1 b1 e1 p1 l1 z1)
  |(refine build_bad rfl (.tmp 5) (.tmp 6) rfl rfl rfl ?_)
  |(refine store_got (r:=zeroR) rfl (.tmp 4) (.tmp 7) rfl rfl rfl p1 ?_;intro w2 p2 l2 z2))
 exact end_got rfl rfl p2 rfl ⟨l1.trans (l2.below l1.size (by omega)),HE.out,0,rfl⟩
theorem refLeaf_any (k:Int) (t:ByteArray) (to:Nat) (w:World):Calls Tryz.prog 49 #[.int .i64 k,.string t,.int .i64 to] w (Gots w (.ok (M14.leaf k t) to)):=by
 go_enter Tryz.func49,Tryz.ntmps49
 go_wp2_with (first
  |(refine alloc_got rfl rfl ?_;intro w1 b1 e1 p1 l1 z1)
  |(refine build_got (r:=⟨k,t,none,0,0,0,0⟩) rfl (.tmp 9) (.tmp 10) rfl rfl rfl ?_)
  |(refine store_got (r:=⟨k,t,none,0,0,0,0⟩) rfl (.tmp 6) (.tmp 11) rfl rfl rfl p1 ?_;intro w2 p2 l2 z2))
 exact end_got rfl rfl p2 rfl ⟨l1.trans (l2.below l1.size (by omega)),_,rfl,PAt.leaf _ _ k t⟩
end W14
namespace W14
open M14
open Kit (below_draws on)
theorem getD_at' {s:ByteArray} {i:Nat} (h:i<s.size):s.data.toList.getD i 0=s[i]:=Kit.byte_get s i h
theorem takeWhile_is {l:List UInt8}: ∀ {k:Nat},(l.take k).all dig=true→(l.length≤k∨dig (l.getD k 0)=false)→l.takeWhile dig=l.take k:=by
 induction l with
 |nil=>intro k _ _;simp
 |cons c l ih=>
  intro k h1 h2
  cases k with
  |zero=>
   rcases h2 with h2|h2
   ·simp at h2
   ·have:dig c=false:=h2
    rw[List.takeWhile_cons_of_neg (by rw[this];simp)];rfl
  |succ k=>
   rw[List.take_succ_cons,List.all_cons,Bool.and_eq_true]at h1
   rw[List.takeWhile_cons_of_pos h1.1,List.take_succ_cons,ih h1.2]
   rcases h2 with h2|h2
   ·exact .inl (by simp at h2;exact h2)
   ·exact .inr h2
theorem takeWhile_four {l:List UInt8} (h:(l.take 4).all dig=true) (hl:4≤l.length):4≤(l.takeWhile dig).length:=by
 match l,hl with
 |a::b::c::d::r,_=>
  simp only[List.take,List.all_cons,Bool.and_eq_true]at h
  rw[List.takeWhile_cons_of_pos h.1,List.takeWhile_cons_of_pos h.2.1,List.takeWhile_cons_of_pos h.2.2.1,List.takeWhile_cons_of_pos h.2.2.2.1]
  simp
theorem take_more {l:List UInt8} {k:Nat} (h:k<l.length):l.take (k+1)=l.take k++ [l.getD k 0]:=by
 rw[List.take_succ_eq_append_getElem h,List.getD_eq_getElem?_getD,List.getElem?_eq_getElem h];rfl
theorem val_more (t:List UInt8) (c:UInt8):val (t++ [c])=val t*10+(c.toNat-48):=by
 unfold val;rw[List.foldl_append];rfl
theorem fold_small: ∀(t:List UInt8) (n:Nat),t.all dig=true→t.foldl (fun n c=>n*10+(c.toNat-48)) n+1≤(n+1)*10^t.length
 | [],n,_=>by simp
 |c::t,n,h=>by
  rw[List.all_cons,Bool.and_eq_true]at h
  have h2:=h.1
  unfold dig at h2
  simp only[Bool.and_eq_true,decide_eq_true_eq]at h2
  have h3:c.toNat≤57:=h2.2
  have h4:=fold_small t (n*10+(c.toNat-48)) h.2
  rw[List.foldl_cons,List.length_cons,Nat.pow_succ]
  refine Nat.le_trans h4 ?_
  rw[Nat.mul_comm (10^t.length) 10,←Nat.mul_assoc]
  exact Nat.mul_le_mul_right _ (by omega)
theorem val_small {t:List UInt8} (h:t.all dig=true) (hl:t.length≤3):val t≤999:=by
 have:=fold_small t 0 h
 have h2:10^t.length≤10^3:=Nat.pow_le_pow_right (by decide) hl
 unfold val
 omega
theorem dig_le {c:UInt8}:dig c=(decide ((48:Int)≤(c.toNat:Int))&&decide ((c.toNat:Int)≤57)):=by
 unfold dig
 congr 1
 ·exact decide_eq_decide.2 ⟨fun h=>by have:(48:UInt8).toNat≤c.toNat:=h;simp at this;omega,fun h=>by show(48:UInt8).toNat≤c.toNat;simp;omega⟩
 ·exact decide_eq_decide.2 ⟨fun h=>by have:c.toNat≤(57:UInt8).toNat:=h;simp at this;omega,fun h=>by show c.toNat≤(57:UInt8).toNat;simp;omega⟩
def digitsR (S:List UInt8) (at_:Nat):Int×Nat:=if isNum ((S.drop at_).takeWhile dig)then((val ((S.drop at_).takeWhile dig):Int),at_+((S.drop at_).takeWhile dig).length)else(-1,at_)
theorem drop_getD (S:List UInt8) (i k:Nat):(S.drop i).getD k 0=S.getD (i+k) 0:=by
 rw[List.getD_eq_getElem?_getD,List.getElem?_drop,List.getD_eq_getElem?_getD]
theorem digits_end {S:List UInt8} {at_ k:Nat} (hk:k≤3) (h0:k≠0) (h1:((S.drop at_).take k).all dig=true) (h2:S.length≤at_+k∨dig (S.getD (at_+k) 0)=false) (hl:at_+k≤S.length):digitsR S at_=((val ((S.drop at_).take k):Int),at_+k):=by
 have e:(S.drop at_).takeWhile dig=(S.drop at_).take k:=takeWhile_is h1 (by
  rcases h2 with h2|h2
  ·exact .inl (by rw[List.length_drop];omega)
  ·exact .inr (by rw[drop_getD];exact h2))
 have hln:((S.drop at_).take k).length=k:=by rw[List.length_take,List.length_drop];omega
 unfold digitsR
 rw[e,hln,if_pos]
 unfold isNum
 rw[h1,hln,decide_eq_true hk,decide_eq_true (by intro q;rw[q]at hln;simp at hln;omega)];rfl
theorem digits_none {S:List UInt8} {at_:Nat} (h2:S.length≤at_∨dig (S.getD at_ 0)=false):digitsR S at_=(-1,at_):=by
 have e:(S.drop at_).takeWhile dig=(S.drop at_).take 0:=takeWhile_is (by simp) (by
  rcases h2 with h2|h2
  ·exact .inl (by rw[List.length_drop];omega)
  ·exact .inr (by rw[drop_getD];exact h2))
 unfold digitsR
 rw[e,if_neg]
 unfold isNum;simp
theorem digits_long {S:List UInt8} {at_:Nat} (h1:((S.drop at_).take 3).all dig=true) (h2:at_+3<S.length) (h3:dig (S.getD (at_+3) 0)=true):digitsR S at_=(-1,at_):=by
 have hl:4≤(S.drop at_).length:=by rw[List.length_drop];omega
 have h4:((S.drop at_).take 4).all dig=true:=by
  rw[take_more (k:=3) (by omega),List.all_append,h1,drop_getD];show(true&&(dig (S.getD (at_+3) 0)&&true))=true;rw[h3];rfl
 have:=takeWhile_four h4 hl
 unfold digitsR
 rw[if_neg]
 unfold isNum
 rw[decide_eq_false (p:=((S.drop at_).takeWhile dig).length≤3) (by omega)]
 simp
theorem refDigits_any (s:ByteArray) (at_:Nat) (hat:at_≤s.size) (hs:s.size≤900) (w:World):Calls Tryz.prog 87 #[.string s,.int .i64 at_] w fun e w'=>e= .returned (.tuple #[.int .i64 (digitsR s.data.toList at_).1,.int .i64 (digitsR s.data.toList at_).2])∧ ∃n,w'=w.drewN n:=by
 have hlen:s.data.toList.length=s.size:=(Lib.size_eq s).symm
 obtain⟨D,hD⟩: ∃D,digitsR s.data.toList at_=D:=⟨_,rfl⟩
 rw[hD]
 have HD:=hid hD
 have HLEN:=hid hlen
 clear hD hlen
 go_enter Tryz.func87,Tryz.ntmps87
 go_wp2_with fail
 go_loopg [6,7] 3 (fun g s6 s7 wr=> ∃k i m:Nat,Hid (k+g=3)∧Hid (i=at_+k)∧Hid (i≤s.size)∧Hid (m=val ((s.data.toList.drop at_).take k))∧s6= .int .i64 m∧s7= .int .i64 i∧Hid (((s.data.toList.drop at_).take k).all dig=true)∧ ∃n,wr=w.drewN n)
 case atStart=>exact⟨0,at_,0,rfl,rfl,hat,rfl,rfl,rfl,rfl,0,rfl⟩
 case round=>
  obtain⟨k,i,m,hk,hi,his,hm,rfl,rfl,hall,n,rfl⟩:=hrel
  have hkl:((s.data.toList.drop at_).take k).length=k:=by have:=hk.out;have:=hi.out;have:=his.out;rw[List.length_take,List.length_drop,HLEN.out];omega
  have hv:=val_small hall.out (by rw[hkl];have:=hk.out;omega)
  rw[←hm.out]at hv
  by_cases hlt:i<s.size
  ·have hlt2:(i:Int)<(s.size:Int):=by omega
   have hget:s.data.toList.getD (at_+k) 0=s[i]:=by rw[←hi.out];exact getD_at' hlt
   cases hdg:dig s[i]with
   |true=>
    have hdd:=hdg
    rw[dig_le,Bool.and_eq_true,decide_eq_true_eq,decide_eq_true_eq]at hdd
    obtain⟨hd1,hd2⟩:=hdd
    cases gk with
    |zero=>
     have hk3:k=3:=by have:=hk.out;omega
     subst hk3
     have HX:=hid (digits_long hall.out (by have:=hi.out;rw[HLEN.out];omega) (by rw[hget];exact hdg))
     have hq:(i:Int)-(at_:Int)=3:=by have:=hi.out;omega
     clear hdg hget hkl hv
     go_wp2_with fail
     go_ret2
     exact⟨by rw[←HD.out,HX.out];rfl,n,rfl⟩
    |succ g=>
     have hq:(i:Int)-(at_:Int)<3:=by have:=hi.out;have:=hk.out;omega
     have hv2:(m:Int)≤999:=by omega
     have HA:Hid (((s.data.toList.drop at_).take (k+1)).all dig=true):=by
      unfold Hid
      rw[take_more (by have:=hi.out;rw[List.length_drop,HLEN.out];omega),List.all_append,hall.out,drop_getD,hget]
      show(true&&(dig s[i]&&true))=true
      rw[hdg];rfl
     have HM:Hid (m*10+(s[i].toNat-48)=val ((s.data.toList.drop at_).take (k+1))):=by
      unfold Hid
      rw[take_more (by have:=hi.out;rw[List.length_drop,HLEN.out];omega),val_more,drop_getD,hget,hm.out]
     have hlt3:i+1≤s.size:=hlt
     have HS:=hid hlt3
     clear hdg hget hkl hlt3
     go_wp2_with fail
     go_roundg g
     case measure=>omega
     case rel=>exact⟨k+1,i+1,m*10+(s[i].toNat-48),by have:=hk.out;show _=_;omega,by have:=hi.out;show _=_;omega,HS.out,HM.out,by congr 1;omega,by first|rfl|(congr 1),HA.out,n,rfl⟩
   |false=>
    have HE:Hid (s.data.toList.length≤at_+k∨dig (s.data.toList.getD (at_+k) 0)=false):= .inr (by rw[hget];exact hdg)
    rw[dig_le]at hdg
    by_cases hd1:(48:Int)≤(s[i].toNat:Int)
    ·have hd2: ¬(s[i].toNat:Int)≤57:=by
       intro q
       rw[decide_eq_true hd1,decide_eq_true q]at hdg
       cases hdg
     clear hdg hget hkl
     by_cases hk0:k=0
     ·have hq:((i:Int)==(at_:Int))=true:=by have:=hi.out;simpa using (by omega:(i:Int)=(at_:Int))
      have HX:=hid (digits_none (S:=s.data.toList) (at_:=at_) (by have:=hi.out;subst hk0;rw[Nat.add_zero]at *;exact HE.out))
      clear hk0
      go_wp2_with fail
      go_ret2
      exact⟨by rw[←HD.out,HX.out];rfl,n,rfl⟩
     ·have hq:((i:Int)==(at_:Int))=false:=by have:=hi.out;simpa using (by omega: ¬(i:Int)=(at_:Int))
      have HX:=hid (digits_end (S:=s.data.toList) (at_:=at_) (by have:=hk.out;omega) hk0 hall.out HE.out (by have:=hi.out;have:=his.out;rw[HLEN.out];omega))
      clear hk0
      go_wp2_with fail
      go_ret2
      exact⟨by rw[←HD.out,HX.out,←hm.out,←hi.out];rfl,n,rfl⟩
    ·clear hdg hget hkl
     by_cases hk0:k=0
     ·have hq:((i:Int)==(at_:Int))=true:=by have:=hi.out;simpa using (by omega:(i:Int)=(at_:Int))
      have HX:=hid (digits_none (S:=s.data.toList) (at_:=at_) (by have:=hi.out;subst hk0;rw[Nat.add_zero]at *;exact HE.out))
      clear hk0
      go_wp2_with fail
      go_ret2
      exact⟨by rw[←HD.out,HX.out];rfl,n,rfl⟩
     ·have hq:((i:Int)==(at_:Int))=false:=by have:=hi.out;simpa using (by omega: ¬(i:Int)=(at_:Int))
      have HX:=hid (digits_end (S:=s.data.toList) (at_:=at_) (by have:=hk.out;omega) hk0 hall.out HE.out (by have:=hi.out;have:=his.out;rw[HLEN.out];omega))
      clear hk0
      go_wp2_with fail
      go_ret2
      exact⟨by rw[←HD.out,HX.out,←hm.out,←hi.out];rfl,n,rfl⟩
  ·have hlt2: ¬(i:Int)<(s.size:Int):=by omega
   have HE:Hid (s.data.toList.length≤at_+k∨dig (s.data.toList.getD (at_+k) 0)=false):= .inl (by have:=hi.out;rw[HLEN.out];omega)
   clear hkl
   by_cases hk0:k=0
   ·have hq:((i:Int)==(at_:Int))=true:=by have:=hi.out;simpa using (by omega:(i:Int)=(at_:Int))
    have HX:=hid (digits_none (S:=s.data.toList) (at_:=at_) (by have:=hi.out;subst hk0;rw[Nat.add_zero]at *;exact HE.out))
    clear hk0
    go_wp2_with fail
    go_ret2
    exact⟨by rw[←HD.out,HX.out];rfl,n,rfl⟩
   ·have hq:((i:Int)==(at_:Int))=false:=by have:=hi.out;simpa using (by omega: ¬(i:Int)=(at_:Int))
    have HX:=hid (digits_end (S:=s.data.toList) (at_:=at_) (by have:=hk.out;omega) hk0 hall.out HE.out (by have:=hi.out;have:=his.out;rw[HLEN.out];omega))
    clear hk0
    go_wp2_with fail
    go_ret2
    exact⟨by rw[←HD.out,HX.out,←hm.out,←hi.out];rfl,n,rfl⟩
end W14
end Go.Proofs.YtehdnbidgphecaaGreatDoor
