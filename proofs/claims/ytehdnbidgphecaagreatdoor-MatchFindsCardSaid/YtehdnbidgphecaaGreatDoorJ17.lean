/-
  Texts joined, in build order, each with its own comment and its own conditions: W16RAll, W15Alt, W15Once.
-/
import Derived.Test.YtehdnbidgphecaaGreatDoorJ16
import Derived.Test.YtehdnbidgphecaaGreatDoorTake
import Derived.Test.YtehdnbidgphecaaGreatDoorJ08
import Derived.Deep.LoopGhost
import Derived.Deep.RegionHeld3
import Derived.BigQuiet
namespace Go.Proofs.YtehdnbidgphecaaGreatDoor
set_option maxHeartbeats 4000000
set_option maxRecDepth 100000
open Go.RowKit
open Lib (hid)
namespace W16
open Strs Recs
open M14 (Piece leaf Whole)
open M16 (at_ orL places Img img_eq E Rep)
open W14 (Raw rawA PLow PBox box_arg load_piece load_at below_new own_same)
open Kit (below_draws on)
section
variable {s:ByteArray}
theorem rends_rep (hs:s.size≤500) {t:ByteArray} {p:Piece} {M:Nat} {tp:Int} (hM:M≤100) (ht:tp= -1∨(M:Int)≤tp∧tp≤100) (IH:REnds s p) (hg:M15.Good p):REnds s (.mk 9 t [p] (M:Int) tp):=by
 intro w r v l hp hv hl
 have HT:Hid (∀w',Below w.heap.size w w'→Calls Tryz.prog 25 #[.agg (rawA r),.string s,v] w' fun e w''=> ∃l',Img s.size (E s.data.toList (.mk 9 t [p] (M:Int) tp)) l l'∧GivesRow w' l' e w''):=fun w' hb=>by
  have hE: ∀q u,Rep (E s.data.toList p) M tp q u↔E s.data.toList (.mk 9 t [p] (M:Int) tp) q u:=fun q u=>by
   have h1:(fun q u=>M16.Ehd s.data.toList [p] q u)=E s.data.toList p:=funext fun q=>funext fun u=>by rw[M16.Ehd]
   rw[E,if_neg (by decide),if_neg (by decide),if_neg (by decide),if_neg (by decide),if_neg (by decide),if_neg (by decide),if_pos rfl,Int.toNat_natCast,h1]
  rcases ht with rfl|ht
  ·exact(rtimes_ever hs hM IH hg (hp.below hb) ((hv.below hb).more hb.size) hl).mono fun e w'' ⟨l',h1,h2⟩=>⟨l',h1.same fun q u _ _=>hE q u,h2⟩
  ·exact(rtimes_top hs hM ht IH hg (hp.below hb) ((hv.below hb).more hb.size) hl).mono fun e w'' ⟨l',h1,h2⟩=>⟨l',h1.same fun q u _ _=>hE q u,h2⟩
 obtain⟨A,c,raws,rfl,k1⟩:=hp.parts
 obtain⟨n,hn⟩: ∃n,s.size+1=n:=⟨_,rfl⟩
 have hw1:wrap64 ((s.size:Int)+1)=(n:Int):=by have:=wrap_n (k:=s.size+1) (by omega);rw[hn]at this;rw[←this,←hn];rfl
 have HN:=hid (show n≤501 from by omega)
 simp only[List.length_singleton]at HT ⊢
 clear hp k1 hv hn hs hl hM ht IH hg
 go_enter Tryz.func11,Tryz.ntmps11
 go_wp2_with (first
  |(refine box_arg (r:=⟨9,t,A,1,c,(M:Int),tp⟩) rfl (.tmp 0) rfl rfl ?_;intro w1 b1 e1 p1 l1 z1;have a0:=p1.c0;have P1:=hid p1;have L1:=hid l1;clear e1 p1 l1 z1;simp only at a0)
  |(refine make_op (n:=n) rfl (.tmp 16) (.tmp 16) rfl (congrArg (Value.int .i64) hw1) (congrArg (Value.int .i64) hw1) (by have:=HN.out;omega) ?_;intro w2 bm e2 p2 l2 z2;have L2:=hid (on L1.out l2);have B2:=hid (P1.out.below l2);have a2:=(P1.out.below l2).c0;clear e2 p2 l2 z2 a0;simp only at a2)
  |(refine load_piece (r:=⟨9,t,A,1,c,(M:Int),tp⟩) rfl (.tmp 3) rfl rfl B2.out ?_))
 refine(HT.out _ L2.out).mono ?_
 rintro e w3 ⟨l',im,v3,rfl,tr,lw⟩
 have R3:=hid tr
 have L3:=hid (on L2.out lw)
 have HI:=hid im
 clear tr lw im
 go_wp2_with fail
 go_ret
 exact⟨l',HI.out,v3,rfl,R3.out,L3.out⟩
theorem rends_all (hs:s.size≤500) {p:Piece} (h:Whole p):REnds s p:=by
 induction h with
 |none k hk=>
  rcases hk with rfl|rfl|rfl|rfl
  ·exact rends_none hs _
  ·exact rends_any hs _
  ·exact rends_begin hs _
  ·exact rends_end hs _
 |char c=>exact rends_char hs _ rfl
 |set f=>exact rends_set hs _
 |many k hk l h2 h3 hw ih=>
  rcases hk with rfl|rfl
  ·exact rends_seq hs (fun i hi=>ih _ (List.getElem_mem hi)) fun p hp=>M15.Good.of_whole (hw p hp)
  ·exact rends_alt hs fun i hi=>ih _ (List.getElem_mem hi)
 |rep p m t hm ht hw ih=>
  obtain⟨M,rfl⟩: ∃M:Nat,m=(M:Int):=⟨m.toNat,by omega⟩
  exact rends_rep hs (by omega) ht ih (M15.Good.of_whole hw)
end
end W16
namespace W15
open Strs Recs M15
open M14 (Piece size sizes)
open W14 (Raw Raws rawA rawC PAt PAll PBox below_new cell_block own_same own_form box_arg load_piece run_load_op load_at alloc_piece store_piece two_new raws_keep)
open Row256 (Beside)
open Kit (below_draws on)
theorem box_grow {w w':World} {b c:Nat} {v v':Value} {L:List Inst} {r:Raw} (hp:PBox w c r) (hl:Lay w b v L) (hb:c≠b) (hg:Grow b v v' w w'):PBox w' c r:=by
 refine(hg.block c hp.lt hb fun q=> ?_).trans hp
 obtain⟨cur,h1⟩:=own_type hl.own q
 have h2:w.heap[c]? =_:=hp
 rw[h1]at h2
 injection h2 with h2
 injection h2 with _ h2
 exact absurd h2 (by decide)
theorem box_put {w w':World} {base c:Nat} {v v':Value} {M:List Nat} {r:Raw} (hp:PBox w c r) (hl:Nums base w v M) (hg:Put v v' w w'):PBox w' c r:=by
 obtain⟨-,-,-,-,g5⟩:=hg.grown
 refine(g5 c hp.lt fun q=> ?_).trans hp
 obtain⟨cur,h1⟩:=own_type hl q.symm
 have h2:w.heap[c]? =_:=hp
 rw[h1]at h2
 injection h2 with h2
 injection h2 with _ h2
 exact absurd h2 (by decide)
theorem patched {ks T:List Piece} (hs: ∀q,q∈ks→ ∀a,(steps q a).length=size q) (hm: ∀q,q∈T→q∈ks) {j:Nat} (hj:j<T.length) (a e:Nat): ∃X Z,pre (T.take j) a e++pre (T.drop j) (a+plen (T.take j)) 0=X++M15.jump 0::Z∧pre (T.take (j+1)) a e++pre (T.drop (j+1)) (a+plen (T.take (j+1))) 0=X++M15.jump e::Z∧(spots T a)[j]? =some (a+X.length):=by
 obtain⟨q,hq⟩: ∃q,T[j]=q:=⟨_,rfl⟩
 have hd:T.drop j=q::T.drop (j+1):=by rw[List.drop_eq_getElem_cons hj,hq]
 have ht:T.take (j+1)=T.take j++ [q]:=by rw[List.take_succ_eq_append_getElem hj,hq]
 have hp:plen (T.take (j+1))=plen (T.take j)+(size q+2):=by
  rw[ht];unfold plen;rw[M14.sizes_append,List.length_append];simp only[sizes,List.length_cons,List.length_nil];omega
 have hqm:q∈ks:=hm q (by rw[←hq];exact List.getElem_mem hj)
 refine⟨pre (T.take j) a e++split (a+plen (T.take j)+1) (a+plen (T.take j)+size q+2)::steps q (a+plen (T.take j)+1),pre (T.drop (j+1)) (a+plen (T.take j)+size q+2) 0,?_,?_,?_⟩
 ·rw[hd]
  simp only[pre,List.append_assoc,List.cons_append]
 ·rw[hp,ht,pre_append,show a+(plen (T.take j)+(size q+2))=a+plen (T.take j)+size q+2 by omega]
  simp only[pre,List.append_assoc,List.cons_append,List.nil_append]
 ·have h1:spots T a=spots (T.take j) a++spots (T.drop j) (a+plen (T.take j)):=by
    have:=spots_append (T.take j) (T.drop j) a
    rw[List.take_append_drop]at this
    exact this
  have h2:(spots (T.take j) a).length=j:=by rw[spots_len,List.length_take];omega
  rw[h1,List.getElem?_append_right (by omega),h2,Nat.sub_self,hd]
  rw[List.length_append,List.length_cons,pre_len hs e _ _ (fun r hr=>hm r (List.mem_of_mem_take hr)),hs q hqm]
  simp only[spots,List.getElem?_cons_zero]
  congr 1
  omega
theorem jump_0 {w:World} {b:Nat} {v:Value} {L:List Inst} (h:Lay w b v L) (hl:L.length≤900000):Calls Tryz.prog 81 #[.pointer (some ⟨b,0,none⟩),.int .i64 0] w (LaidAt b v w L.length (L++ [M15.jump 0])):=jump_any h hl 0
theorem Lay.shape {w:World} {b:Nat} {v:Value} {L:List Inst} (h:Lay w b v L) (hl:0<L.length): ∃g c,v= .slice (some ⟨g,0,none⟩) L.length c∧L.length≤c∧c≤9223372036854775807:=by
 obtain⟨g,c,e,-,-,h1,h2⟩:=own_form h.own hl
 unfold maxLen at h2
 exact⟨g,c,e,h1,h2⟩
theorem wrap64_nat_big {a:Int} {n:Nat} (h:a=(n:Int)) (hn:n≤9223372036854775807):wrap64 a=(n:Int):=by subst h;unfold wrap64;omega
set_option maxHeartbeats 8000000 in
theorem alt_any {ks:List Piece} (IH: ∀i (hi:i<ks.length),LayOk ks[i]) (hs: ∀q,q∈ks→ ∀a,(steps q a).length=size q) {w:World} {b:Nat} {v:Value} {L:List Inst} {k:Int} {t:ByteArray} {A:Option Addr} {c:Nat} {m tp:Int} {raws:List Raw} (h:Lay w b v L) (k1:KidsU b w A c raws ks) {n E:Nat} (hn:ks.length=n+1) (hE:L.length+(sizes ks+2*n)=E) (hl:E≤4000):
    Calls Tryz.prog 68 #[.pointer (some ⟨b,0,none⟩),.agg (rawA ⟨k,t,A,ks.length,c,m,tp⟩)] w (Laid b v w (L++alts ks L.length E)):=by
 have H:=hid h
 have HI:=hid IH
 have HS:=hid hs
 have K1:=hid k1
 have HN:=hid hn
 have hr:=(k1.kids (Nat.le_of_lt h.box.lt)).room
 have HL:=hid hl
 have HE:=hid hE
 have HA:=hid (show ks.length≤c∧c≤9223372036854775807 from hr)
 rw[hn]at hr ⊢
 have hr1:=hr.1
 have hr2:=hr.2
 have hw1:wrap64 ((((n+1:Nat):Int))-1)=(n:Int):=wrap64_nat_big (by omega) (by omega)
 clear h IH hs k1 hl hr hn hE
 go_enter Tryz.func68,Tryz.ntmps68
 go_wp2_with (first
  |(refine box_arg (r:=⟨k,t,A,n+1,c,m,tp⟩) rfl (.tmp 1) rfl rfl ?_;intro w1 b1 e1 p1 l1 z1;have P1:=hid p1;have a2:=p1.c2;have L1:=hid l1;have HB3:=hid (show b1≠b by have:=H.out.box.lt;omega);clear e1 p1 l1 z1;simp only at a2))
 have H1:=hid (H.out.below L1.out)
 have K2:=hid (K1.out.below H.out.box.lt L1.out)
 have HT:=hid H.out.box.lt
 clear a2 hr1 hr2 hw1
 go_loopg [5,20] n (fun gk s5 s20 wr=> ∃(i:Nat) (v1 vj:Value),s5=vj∧s20= .int .i64 i∧Hid (i+gk=n)∧Hid (Lay wr b v1 (L++pre ((ks.take n).take i) L.length 0))∧Hid (Nums w.heap.size wr vj (spots ((ks.take n).take i) L.length))∧Hid (KidsU b wr A c raws ks)∧Hid (Grow b v v1 w wr)∧Hid (PBox wr b1 ⟨k,t,A,n+1,c,m,tp⟩))
 case atStart=>exact⟨0,v,.slice none 0 0,rfl,rfl,by unfold Hid;omega,by unfold Hid;simp only[List.take_zero,pre,List.append_nil];exact H1.out,Nums.nil _ _,K2,Grow.of L1.out,P1⟩
 case round=>
  obtain⟨i,v1,vj,rfl,rfl,hig,HL1,NN,KK,GG,PP⟩:=hrel
  by_cases hi:i<n
  ·have ti:(i:Int)<(n:Int):=by omega
   have hnk2:n≤ks.length:=by have:=HN.out;omega
   obtain⟨p,hp,⟨hik,hpe⟩,htk,-⟩:=take_one hi hnk2
   have hlt:=HL1.out.box.lt
   obtain⟨g1,o1,rfl,C1⟩:=(KK.out.kids (Nat.le_of_lt hlt)).at_ (Nat.lt_of_le_of_lt (Nat.zero_le _) hik)
   obtain⟨hr1,q1⟩:=KK.out.kid hik
   have E1:=hid (C1 i hr1)
   have Q1:=hid q1
   obtain⟨rk,hrk⟩: ∃rk,raws[i]'hr1=rk:=⟨_,rfl⟩
   rw[hrk]at E1 Q1
   rw[hpe]at Q1
   have hplen:(pre ((ks.take n).take i) L.length 0).length=plen ((ks.take n).take i):=pre_len HS.out 0 _ _ (fun q hq=>List.mem_of_mem_take (List.mem_of_mem_take hq))
   obtain⟨Li,hLi⟩: ∃Li,L++pre ((ks.take n).take i) L.length 0=Li:=⟨_,rfl⟩
   obtain⟨N,hN⟩: ∃N,Li.length=N:=⟨_,rfl⟩
   have hN2:N=L.length+plen ((ks.take n).take i):=by rw[←hN,←hLi,List.length_append,hplen]
   obtain⟨s,hsz⟩: ∃s,size p=s:=⟨_,rfl⟩
   have hb:N+s+2≤4000:=by
    have h1:plen ((ks.take n).take (i+1))=plen ((ks.take n).take i)+(s+2):=by
     rw[htk];unfold plen;rw[M14.sizes_append,List.length_append];simp only[sizes,List.length_cons,List.length_nil];omega
    have h2:plen ((ks.take n).take (i+1))≤plen ks:=by
     unfold plen
     have a1:=sizes_take_le (ks.take n) (i+1)
     have a2:=sizes_take_le ks n
     have a3:((ks.take n).take (i+1)).length≤i+1:=by rw[List.length_take];omega
     have a4:sizes ((ks.take n).take (i+1))+2*((ks.take n).take (i+1)).length≤sizes ks+2*n:=by omega
     have:=HN.out
     omega
    have h3:plen ((ks.take n).take (i+1))≤sizes ks+2*n:=by
     unfold plen
     have a1:=sizes_take_le (ks.take n) (i+1)
     have a2:=sizes_take_le ks n
     have a3:((ks.take n).take (i+1)).length≤i+1:=by rw[List.length_take];omega
     omega
    have:=HE.out
    have:=HL.out
    omega
   rw[hLi]at HL1
   have HNE:=hid hN
   have HBD:=hid hb
   -- what the round comes to
   have HR:Hid (L++pre ((ks.take n).take (i+1)) L.length 0=Li++split (N+1) (N+s+2)::(steps p (N+1)++ [M15.jump 0])):=by
    unfold Hid
    rw[htk,pre_append,←hLi,List.append_assoc,←hN2]
    simp only[pre,hsz]
   have HSP:Hid (spots ((ks.take n).take (i+1)) L.length=spots ((ks.take n).take i) L.length++ [N+s+1]):=by
    unfold Hid
    rw[htk,spots_append,←hN2]
    simp only[spots,hsz]
   have HPL:Hid (∀a,(steps p a).length=s):=by unfold Hid;rw[←hsz];exact HS.out p hp
   have HC:Hid (∀(w:World) (v:Value) (L':List Inst),L'.length=N+1→Lay w b v L'→PAt (fun k=>k<b) w rk p→Calls Tryz.prog 47 #[.pointer (some ⟨b,0,none⟩),.agg (rawA rk)] w (Laid b v w (L'++steps p (N+1)))):=by
    intro w v L' h0 h1 h2
    have h3:=HI.out i hik w b v L' rk h1 (by rw[hpe];exact h2) (by rw[h0,hpe,hsz];omega)
    rw[hpe,h0]at h3
    exact h3
   have HSL:Hid ((spots ((ks.take n).take i) L.length).length≤4000):=by
    unfold Hid
    rw[spots_len,List.length_take]
    have:i≤plen ((ks.take n).take i):=by
     unfold plen
     rw[List.length_take,List.length_take];omega
    omega
   have hwi:Hid (wrap64 ((i:Int)+1)=((i+1:Nat):Int)):=by unfold Hid wrap64;have:=HA.out.1;have:=HA.out.2;have:=HN.out;omega
   have hn1:n≤c:=by have:=HA.out.1;have:=HN.out;omega
   have hn2:=HA.out.2
   have HT2:=hid hlt
   have HI2:=hid hi
   obtain⟨M0,hM0⟩: ∃M0,spots ((ks.take n).take i) L.length=M0:=⟨_,rfl⟩
   rw[hM0]at HSP HSL NN
   clear C1 q1 hrk hlt hplen hLi hN hN2 hsz hb hp hpe hik htk hnk2 hr1 hM0 hi
   go_wp2_with (first
    |(refine load_at rfl (.tmp 22) rfl rfl (r:=rk) E1.out ?_)
    |(refine alloc_piece rfl rfl ?_;intro w3 b3 e3 p3 l3 z3)
    |(refine store_piece (r:=rk) rfl (.tmp 7) (.tmp 23) rfl rfl rfl p3 ?_;intro w4 p4 l4 z4;have L4:=hid (two_new l3 l4 e3);have P4:=hid p4;have B4:=hid (show b3≠b by have:=HT2.out;omega);clear e3 p3 l3 z3 p4 l4 z4))
   have H4:=hid (HL1.out.below L4.out)
   have K4:=hid (KK.out.below HT2.out L4.out)
   have N4:=hid (NN.out.below L4.out)
   have G4:=hid (GG.out.trans (Grow.of L4.out))
   have PP4:=hid (PP.out.below L4.out)
   have Q4:=hid (below_piece L4.out HT2.out Q1.out)
   refine(step_any H4.out (by rw[HNE.out];have:=HBD.out;omega) 6 ⟨#[]⟩).mono ?_
   rintro e w5 ⟨rfl,v5,h5,g5⟩
   rw[HNE.out]
   rw[HNE.out]at h5
   have H5:=hid h5
   have P5:=hid (box_grow P4.out H4.out B4.out g5)
   have K5:=hid (K4.out.grow H4.out g5)
   have N5:=hid (N4.out.grow H4.out HT.out g5)
   have G5:=hid (G4.out.trans g5)
   have PP5:=hid (box_grow PP4.out H4.out HB3.out g5)
   have Q5:=hid (g5.piece H4.out Q4.out)
   clear h5 g5
   go_wp2_with (first|(refine load_piece (r:=rk) rfl (.tmp 7) rfl rfl P5.out ?_))
   obtain⟨J,hJ⟩: ∃J,N+s+1=J:=⟨_,rfl⟩
   obtain⟨q,hq⟩: ∃q,N+s+2=q:=⟨_,rfl⟩
   rw[hJ]at HSP
   rw[hq]at HR
   have HQ:=hid (show N+1≤q∧q≤4000 from⟨by omega,by have:=HBD.out;omega⟩)
   have hl5:(Li++ [(⟨6,⟨#[]⟩,((N+1:Nat):Int),0⟩:Inst)]).length=N+1:=by rw[List.length_append,HNE.out];rfl
   have hl6:(Li++ [(⟨6,⟨#[]⟩,((N+1:Nat):Int),0⟩:Inst)]++steps p (N+1)).length=J:=by rw[List.length_append,hl5,HPL.out];omega
   have hl7:(Li++ [(⟨6,⟨#[]⟩,((N+1:Nat):Int),0⟩:Inst)]++steps p (N+1)++ [M15.jump 0]).length=q:=by rw[List.length_append,hl6];simp only[List.length_cons,List.length_nil];omega
   have HL6:=hid hl6
   have HL7:=hid hl7
   have HJB:=hid (show J≤4000 by have:=HBD.out;omega)
   refine(HC.out _ _ _ hl5 H5.out Q5.out).mono ?_
   rintro e w6 ⟨rfl,v6,h6,g6⟩
   clear hl5 hl6 hl7 hJ hq
   have H6:=hid h6
   have K6:=hid (K5.out.grow H5.out g6)
   have N6:=hid (N5.out.grow H5.out HT.out g6)
   have G6:=hid (G5.out.trans g6)
   have PP6:=hid (box_grow PP5.out H5.out HB3.out g6)
   clear h6 g6
   go_wp2_with fail
   refine(jump_0 H6.out (by rw[HL6.out];have:=HJB.out;omega)).mono ?_
   rintro e w7 ⟨rfl,v7,h7,g7⟩
   rw[HL6.out]
   have K7:=hid (K6.out.grow H6.out g7)
   have N7:=hid (N6.out.grow H6.out HT.out g7)
   have G7:=hid (G6.out.trans g7)
   have PP7:=hid (box_grow PP6.out H6.out HB3.out g7)
   obtain⟨gs,cs,hv7,hq1,hq2⟩:=h7.shape (by rw[HL7.out];have:=HQ.out;omega)
   rw[HL7.out]at hv7 hq1
   subst hv7
   have H7:Hid (Lay w7 b (.slice (some ⟨gs,0,none⟩) q cs) (Li++(⟨6,⟨#[]⟩,((N+1:Nat):Int),0⟩:Inst)::(steps p (N+1)++ [M15.jump 0]))):=by
    have:=h7
    rw[List.append_assoc,List.append_assoc]at this
    exact this
   clear h7 g7
   have HCS:=hid (show q≤cs∧cs≤9223372036854775807 from⟨hq1,hq2⟩)
   clear hq1 hq2
   go_wp2_with (first
    |(refine slice_num (n:=J) rfl (.tmp 31) rfl rfl ?_;intro w8 b8 e8 p8 l8 z8;have L8:=hid l8;have P8:=hid p8;clear e8 p8 l8 z8)
    |(refine append_num rfl (.tmp 29) (.tmp 32) rfl rfl rfl (N7.out.below L8.out) P8.out (by have:=HSL.out;simp only[List.length_cons,List.length_nil];omega) (Nat.le_trans G7.out.size L8.out.size) ?_;intro vn w9 o9 p9;have N9:=hid o9;have P9:=hid p9;clear o9 p9))
   have H9:=hid ((H7.out.below L8.out).put_nums (N7.out.below L8.out) HT.out P9.out)
   have K9:=hid ((K7.out.below H7.out.box.lt L8.out).put (N7.out.below L8.out) HT.out (H7.out.below L8.out).box.lt P9.out)
   have G9:=hid ((G7.out.trans (Grow.of L8.out)).put P9.out fun k hk=>(N7.out.lt k hk).1)
   have PP9:=hid (box_put (PP7.out.below L8.out) (N7.out.below L8.out) P9.out)
   have D9:=hid (below_draws w9 1)
   have H9d:=hid (H9.out.below D9.out)
   have HH:Hid (Calls Tryz.prog 82 #[.pointer (some ⟨b,0,none⟩)] (w9.drewN 1) fun e w'=>e= .returned (.int .i64 q)∧w'=w9.drewN 1):=by
    have h1:=here_any H9d.out
    have h2:(Li++(⟨6,⟨#[]⟩,((N+1:Nat):Int),0⟩:Inst)::(steps p (N+1)++ [M15.jump 0])).length=q:=by rw[←HL7.out];simp only[List.append_assoc,List.cons_append,List.nil_append]
    rw[h2]at h1
    exact h1
   have S0:Hid ((w9.drewN 1).cell? ⟨b,0,none⟩=some (.slice (some ⟨gs,0,none⟩) q cs)):=H9d.out.box.c0
   obtain⟨-,f2,f3⟩:=H9d.out.field HNE.out
   simp only at f2
   have f3:=f3 (N*4+3)
   have SET:=H9d.out.set3 (q:Int)
   rw[HNE.out]at SET
   have HX:=hid SET
   have SE:Hid (((w9.drewN 1).setCell ⟨gs,N*4+3,none⟩ (.int .i64 q)).cell? ⟨b,0,none⟩=some (.slice (some ⟨gs,0,none⟩) q cs)):=SET.1.box.c0
   clear SET
   have tq:(N:Int)<(q:Int):=by have:=HQ.out;omega
   refine wp_region_held_drew (S:=fun w'=>w'.cell? ⟨b,0,none⟩=some (.slice (some ⟨gs,0,none⟩) q cs)) (by kernel_rfl) S0.out (fun hHeld=> ?_)
   refine Take.k 0 ⟨some 34,.move (.tmp 0),_,_,_,none⟩ ?_
   refine Take.k 1 ⟨some 35,.nilCheck (.tmp 34),_,_,_,none⟩ ?_
   refine Take.k 2 ⟨some 36,.fieldAddr 90 (.tmp 35) 0,_,_,_,none⟩ ?_
   refine Take.k 3 ⟨some 37,.load 32 (.tmp 36),_,_,_,none⟩ ?_
   refine Take.k 4 ⟨some 38,.move (.tmp 8),_,_,_,none⟩ ?_
   refine Take.k 5 ⟨some 39,.move (.tmp 0),_,_,_,none⟩ ?_
   refine wpAnyH_ready (rs:= [6]) (by kernel_rfl) (by simp) ?_
   refine AllReadyH.cons (o:=⟨some 40,.call ⟨.value (.func 82), #[.tmp 39], #[85]⟩,_,_,_,none⟩) rfl (fun K hK=> ?_) AllReadyH.nil
   go_simp
   (go_at_call 82;refine HH.out.mono ?_;rintro e x1 ⟨rfl,rfl⟩)
   go_wp2_with fail
   refine hK.out _ _ ?_ (fun hHeld=> ?_)
   ·exact S0.out
   clear hK K
   try simp only[Act.put,Take.a,Take.b,Take.c]
   refine Take.k 7 ⟨some 41,.indexAddr 32 (.tmp 37) (.tmp 38),_,_,_,none⟩ ?_
   refine Take.k 8 ⟨some 42,.fieldAddr 62 (.tmp 41) 3,_,_,_,none⟩ ?_
   refine wpAnyH_ready (rs:= [9]) (by kernel_rfl) (by simp) ?_
   refine AllReadyH.cons (o:=⟨none,.store 3 (.tmp 42) (.tmp 40),_,_,_,none⟩) rfl (fun K hK=> ?_) AllReadyH.nil
   go_simp
   skip
   go_wp2_with fail
   refine hK.out _ _ ?_ (fun hHeld=> ?_)
   ·exact SE.out
   clear hK K
   try simp only[Act.put,Take.a,Take.b,Take.c]
   refine wpAnyH_done (by kernel_rfl) ?_ _
   have H10:Hid (Lay ((w9.drewN 1).setCell ⟨gs,N*4+3,none⟩ (.int .i64 q)) b (.slice (some ⟨gs,0,none⟩) q cs) (L++pre ((ks.take n).take (i+1)) L.length 0)):=by unfold Hid;rw[HR.out];exact HX.out.1
   have N10:Hid (Nums w.heap.size ((w9.drewN 1).setCell ⟨gs,N*4+3,none⟩ (.int .i64 q)) vn (spots ((ks.take n).take (i+1)) L.length)):=by unfold Hid;rw[HSP.out];exact(Nums.below N9.out D9.out).grow H9d.out HT.out HX.out.2
   have K10:=hid ((K9.out.below H9.out.box.lt D9.out).grow H9d.out HX.out.2)
   have G10:=hid ((G9.out.trans (Grow.of D9.out)).trans HX.out.2)
   have PP10:=hid (box_grow (PP9.out.below D9.out) H9d.out HB3.out HX.out.2)
   clear f2 f3 tq
   cases gk with
   |zero=>exact absurd hig.out (by have:=HI2.out;omega)
   |succ g=>
    go_wp2_with fail
    go_roundg g
    case measure=>omega
    case rel=>exact⟨i+1,_,vn,rfl,by first|rfl|exact congrArg (Value.int .i64) hwi.out,by have:=hig.out;unfold Hid;omega,H10,N10,K10,G10,PP10⟩
  ·have ti: ¬(i:Int)<(n:Int):=by omega
   have hie:i=n:=by have:=hig.out;omega
   subst hie
   have hik:i<ks.length:=by have:=HN.out;omega
   obtain⟨p,hpe⟩: ∃p,ks[i]=p:=⟨_,rfl⟩
   have hp:p∈ks:=by rw[←hpe];exact List.getElem_mem hik
   have hks:ks=ks.take i++ [p]:=by
    have h1:=List.take_succ_eq_append_getElem hik
    rw[hpe,List.take_of_length_le (by have:=HN.out;omega)]at h1
    exact h1
   obtain⟨T,hT⟩: ∃T,ks.take i=T:=⟨_,rfl⟩
   have hTT:T.take i=T:=by rw[←hT,List.take_take,Nat.min_self]
   have hTl:T.length=i:=by rw[←hT,List.length_take];omega
   have hTm: ∀q,q∈T→q∈ks:=fun q hq=>by rw[←hT]at hq;exact List.mem_of_mem_take hq
   rw[hT,hTT]at HL1 NN
   rw[hT]at hks
   have hlt:=HL1.out.box.lt
   obtain⟨g1,o1,rfl,C1⟩:=(KK.out.kids (Nat.le_of_lt hlt)).at_ (Nat.lt_of_le_of_lt (Nat.zero_le _) hik)
   obtain⟨hr1,q1⟩:=KK.out.kid hik
   have E1:=hid (C1 i hr1)
   have Q1:=hid q1
   obtain⟨rk,hrk⟩: ∃rk,raws[i]'hr1=rk:=⟨_,rfl⟩
   rw[hrk]at E1 Q1
   rw[hpe]at Q1
   have hplen:(pre T L.length 0).length=plen T:=pre_len HS.out 0 _ _ hTm
   have hsum:sizes ks=sizes T+size p:=by rw[hks,M14.sizes_append];simp only[sizes,Nat.add_zero]
   obtain⟨N,hN⟩: ∃N,L.length+plen T=N:=⟨_,rfl⟩
   have hNE:N+size p=E:=by rw[←hN,←HE.out,hsum];unfold plen;omega
   have HC:Hid (∀(w:World) (v:Value),Lay w b v (L++pre T L.length 0)→PAt (fun k=>k<b) w rk p→Calls Tryz.prog 47 #[.pointer (some ⟨b,0,none⟩),.agg (rawA rk)] w (Laid b v w (L++pre T L.length 0++steps p N))):=by
    intro w v h1 h2
    have h3:=HI.out i hik w b v _ rk h1 (by rw[hpe];exact h2) (by rw[List.length_append,hplen,hpe];have:=HL.out;omega)
    rw[hpe,List.length_append,hplen,hN]at h3
    exact h3
   have HPL:Hid ((steps p N).length=size p):=HS.out p hp N
   have HTL:=hid hTl
   have HTM:=hid hTm
   have HNN:=hid hN
   have HNE:=hid hNE
   -- all jumps are set:the whole
   have HFIN:Hid (L++(pre T L.length E++steps p N)=L++alts ks L.length E):=by
    unfold Hid
    have h1:=alts_pre p T L.length E
    rw[hks,h1,hN]
   have hn1:=HA.out.1
   have hn2:=HA.out.2
   rw[HN.out]at hn1
   have a2:=PP.out.c2
   simp only at a2
   have HT2:=hid hlt
   have HBASE:=hid GG.out.size
   obtain⟨M0,hM0⟩: ∃M0,spots T L.length=M0:=⟨_,rfl⟩
   have hml:M0.length=i:=by rw[←hM0,spots_len,hTl]
   rw[hM0]at NN
   obtain⟨Aj,cj,rfl,hcj1,hcj2⟩:=NN.out.recs.form
   unfold maxLen at hcj2
   rw[hml]at hcj1 NN ⊢
   have HCJ:=hid (show i≤cj∧cj≤9223372036854775807 from⟨hcj1,hcj2⟩)
   have HM0:=hid hM0
   have HML:=hid hml
   clear C1 q1 hrk hlt hplen hN hp hpe hik hr1 hM0 hi hks hT hTT hTl hTm hsum hNE hml hcj1 hcj2
   go_wp2_with (first
    |(refine load_at rfl (.tmp 48) rfl rfl (r:=rk) E1.out ?_))
   refine(HC.out _ _ HL1.out Q1.out).mono ?_
   rintro e w2 ⟨rfl,v2,h2,g2⟩
   have H2:=hid h2
   have N2:=hid (NN.out.grow HL1.out HT.out g2)
   have G2:=hid (GG.out.trans g2)
   clear h2 g2 a2 hn1 hn2
   have hcj1:=HCJ.out.1
   have hcj2:=HCJ.out.2
   go_wp2_with fail
   have HA2:Hid (L++pre T L.length 0++steps p N=L++(pre (T.take 0) L.length E++pre (T.drop 0) (L.length+plen (T.take 0)) 0)++steps p N):=by
    unfold Hid
    simp only[List.take_zero,List.drop_zero,pre,List.nil_append,show plen []=0 from rfl,Nat.add_zero]
   have HLAST:Hid (∀x y:Nat,x=y→L++(pre (T.take i) L.length E++pre (T.drop i) (L.length+plen (T.take i)) 0)++steps p N=L++alts ks L.length E):=by
    intro x y _
    rw[←HFIN.out,List.take_of_length_le (by rw[HTL.out];exact Nat.le_refl _),List.drop_of_length_le (by rw[HTL.out];exact Nat.le_refl _)]
    simp only[pre,List.append_nil,List.append_assoc]
   clear hcj1 hcj2
   go_loopg [53] i (fun gk s53 wr=> ∃(j:Nat) (vL:Value),s53= .int .i64 j∧Hid (j+gk=i)∧Hid (Lay wr b vL (L++(pre (T.take j) L.length E++pre (T.drop j) (L.length+plen (T.take j)) 0)++steps p N))∧Hid (Nums w.heap.size wr (.slice Aj i cj) M0)∧Hid (Grow b v vL w wr))
   case atStart=>exact⟨0,v2,rfl,by unfold Hid;omega,by unfold Hid;rw[←HA2.out];exact H2.out,N2,G2⟩
   case round=>
    obtain⟨j,vL,rfl,hjg,HL3,N3,G3⟩:=hrel
    have hcj1:=HCJ.out.1
    have hcj2:=HCJ.out.2
    by_cases hj:j<i
    ·have tj:(j:Int)<(i:Int):=by omega
     obtain⟨X,Z,hX1,hX2,hX3⟩:=patched HS.out HTM.out (by rw[HTL.out];exact hj) L.length E
     rw[HM0.out]at hX3
     obtain⟨gj,cj2,hvj,-,-,-,-⟩:=own_form N3.out (by rw[HML.out];omega)
     injection hvj with hv1 hv2 hv3
     subst hv1
     have hcell:wr.cell? ⟨gj,j,none⟩=some (.int .i64 ((L.length+X.length:Nat):Int)):=by
      have h1:j<M0.length:=by rw[HML.out];exact hj
      have h2:=flat_at numC_len M0 j h1 0 (by decide)
      have h3:M0[j]=L.length+X.length:=by rw[List.getElem?_eq_getElem h1]at hX3;exact Option.some.inj hX3
      have h4:=N3.out
      unfold Nums at h4
      rw[HML.out]at h4
      have h5:=h4.cellAt j (by omega)
      rw[Nat.mul_one,Nat.add_zero]at h2
      rw[h5,h2,h3];rfl
     obtain⟨J,hJ⟩: ∃J,(L++X).length=J:=⟨_,rfl⟩
     rw[show L.length+X.length=J by rw[←hJ,List.length_append]]at hcell
     rw[hX1,List.append_assoc,List.append_assoc,←List.append_assoc,List.cons_append]at HL3
     have hlen:(L++X++M15.jump 0::(Z++steps p N)).length=E:=by
      have h1:=pre_len HS.out 0 T L.length HTM.out
      have h2:(pre (T.take j) L.length E++pre (T.drop j) (L.length+plen (T.take j)) 0).length=plen T:=by
       rw[List.length_append,pre_len HS.out E _ _ (fun q hq=>HTM.out q (List.mem_of_mem_take hq)),pre_len HS.out 0 _ _ (fun q hq=>HTM.out q (List.mem_of_mem_drop hq))]
       have h3:=M14.sizes_append (T.take j) (T.drop j)
       rw[List.take_append_drop]at h3
       unfold plen
       rw[h3,List.length_take,List.length_drop,HTL.out];omega
      rw[hX1]at h2
      have h4:(L++X++M15.jump 0::(Z++steps p N)).length=L.length+(X++M15.jump 0::Z).length+(steps p N).length:=by simp only[List.length_append,List.length_cons];omega
      rw[h4,h2,HPL.out,←HNE.out,←HNN.out]
     obtain⟨gs,cs,hvL,hq1,hq2⟩:=HL3.out.shape (by rw[hlen];simp only[List.length_append,List.length_cons]at hlen;omega)
     rw[hlen]at hvL hq1
     subst hvL
     have D3:=hid (below_draws wr 1)
     have H3d:=hid (HL3.out.below D3.out)
     have HH:Hid (Calls Tryz.prog 82 #[.pointer (some ⟨b,0,none⟩)] (wr.drewN 1) fun e w'=>e= .returned (.int .i64 E)∧w'=wr.drewN 1):=by
      have h1:=here_any H3d.out
      rw[hlen]at h1
      exact h1
     have S0:Hid ((wr.drewN 1).cell? ⟨b,0,none⟩=some (.slice (some ⟨gs,0,none⟩) E cs)):=H3d.out.box.c0
     obtain⟨f2,-,f3⟩:=H3d.out.field hJ
     have f3:=f3 (J*4+2)
     unfold M15.jump at f2
     simp only at f2
     have SET:=H3d.out.set2 (E:Int)
     rw[hJ]at SET
     have HX:=hid SET
     have SE:Hid (((wr.drewN 1).setCell ⟨gs,J*4+2,none⟩ (.int .i64 E)).cell? ⟨b,0,none⟩=some (.slice (some ⟨gs,0,none⟩) E cs)):=SET.1.box.c0
     have tq:(J:Int)<(E:Int):=by rw[←hJ,←hlen];simp only[List.length_append,List.length_cons];omega
     have HX2:Hid (L++(pre (T.take (j+1)) L.length E++pre (T.drop (j+1)) (L.length+plen (T.take (j+1))) 0)++steps p N=L++X++M15.jump E::(Z++steps p N)):=by
      unfold Hid
      rw[hX2,List.append_assoc,List.append_assoc,←List.append_assoc,List.cons_append]
     have hwj:Hid (wrap64 ((j:Int)+1)=((j+1:Nat):Int)):=by unfold Hid wrap64;have:=HCJ.out;omega
     have HJ2:=hid hj
     clear SET hX1 hX2 hX3 hJ hlen hv2 hv3 hj
     go_wp2_with fail
     refine wp_region_held_drew (S:=fun w'=>w'.cell? ⟨b,0,none⟩=some (.slice (some ⟨gs,0,none⟩) E cs)) (by kernel_rfl) S0.out (fun hHeld=> ?_)
     refine Take.k 0 ⟨some 57,.move (.tmp 0),_,_,_,none⟩ ?_
     refine Take.k 1 ⟨some 58,.nilCheck (.tmp 57),_,_,_,none⟩ ?_
     refine Take.k 2 ⟨some 59,.fieldAddr 90 (.tmp 58) 0,_,_,_,none⟩ ?_
     refine Take.k 3 ⟨some 60,.load 32 (.tmp 59),_,_,_,none⟩ ?_
     refine Take.k 4 ⟨some 61,.move (.tmp 10),_,_,_,none⟩ ?_
     refine Take.k 5 ⟨some 62,.move (.tmp 0),_,_,_,none⟩ ?_
     refine wpAnyH_ready (rs:= [6]) (by kernel_rfl) (by simp) ?_
     refine AllReadyH.cons (o:=⟨some 63,.call ⟨.value (.func 82), #[.tmp 62], #[85]⟩,_,_,_,none⟩) rfl (fun K hK=> ?_) AllReadyH.nil
     go_simp
     (go_at_call 82;refine HH.out.mono ?_;rintro e x1 ⟨rfl,rfl⟩)
     go_wp2_with fail
     refine hK.out _ _ ?_ (fun hHeld=> ?_)
     ·exact S0.out
     clear hK K
     try simp only[Act.put,Take.a,Take.b,Take.c]
     refine Take.k 7 ⟨some 64,.indexAddr 32 (.tmp 60) (.tmp 61),_,_,_,none⟩ ?_
     refine Take.k 8 ⟨some 65,.fieldAddr 62 (.tmp 64) 2,_,_,_,none⟩ ?_
     refine wpAnyH_ready (rs:= [9]) (by kernel_rfl) (by simp) ?_
     refine AllReadyH.cons (o:=⟨none,.store 3 (.tmp 65) (.tmp 63),_,_,_,none⟩) rfl (fun K hK=> ?_) AllReadyH.nil
     go_simp
     skip
     go_wp2_with fail
     refine hK.out _ _ ?_ (fun hHeld=> ?_)
     ·exact SE.out
     clear hK K
     try simp only[Act.put,Take.a,Take.b,Take.c]
     refine wpAnyH_done (by kernel_rfl) ?_ _
     have H5:Hid (Lay ((wr.drewN 1).setCell ⟨gs,J*4+2,none⟩ (.int .i64 E)) b (.slice (some ⟨gs,0,none⟩) E cs) (L++(pre (T.take (j+1)) L.length E++pre (T.drop (j+1)) (L.length+plen (T.take (j+1))) 0)++steps p N)):=by unfold Hid;rw[HX2.out];exact HX.out.1
     have N5:=hid ((Nums.below N3.out D3.out).grow H3d.out HT.out HX.out.2)
     have G5:=hid ((G3.out.trans (Grow.of D3.out)).trans HX.out.2)
     clear f2 f3 tq hcell
     cases gk with
     |zero=>exact absurd hjg.out (by have:=HJ2.out;omega)
     |succ g=>
      go_wp2_with fail
      go_roundg g
      case measure=>omega
      case rel=>exact⟨j+1,_,by first|rfl|exact congrArg (Value.int .i64) hwj.out,by have:=hjg.out;unfold Hid;omega,H5,N5,G5⟩
    ·have tj: ¬(j:Int)<(i:Int):=by omega
     have hje:j=i:=by have:=hjg.out;omega
     subst hje
     have HL4:Hid (Lay wr b vL (L++alts ks L.length E)):=by unfold Hid;rw[←HLAST.out 0 0 rfl];exact HL3.out
     clear hj
     go_wp2_with fail
     go_end0
     exact⟨rfl,vL,HL4.out,G3.out⟩
end W15
namespace W15
open Strs Recs M15
open M14 (Piece size sizes)
open W14 (Raw Raws rawA rawC PAt PAll PBox below_new cell_block own_same own_form two_new)
open Row256 (Beside)
open Kit (below_draws on)
theorem IBox.cells {w:World} {b:Nat} {x:Inst} (h:IBox w b x): ∀j,j<4→w.cell? ⟨b,0+j,none⟩=(insC x)[j]? :=by
 intro j hj
 rw[Nat.zero_add,cell_of_row w b j _ _ _ h]
 match j,hj with
 |0,_=>rfl
 |1,_=>rfl
 |2,_=>rfl
 |3,_=>rfl
theorem ibox_put {w w':World} {c:Nat} {x:Inst} {v v':Value} (h:IBox w c x) (hp:Put v v' w w') (hn:v.ownBlock≠some c):IBox w' c x:=by
 obtain⟨-,-,-,-,g5⟩:=hp.grown
 exact(g5 c h.lt (fun q=>hn q.symm)).trans h
theorem IBox.other {w:World} {c b:Nat} {x:Inst} {u:Value} (h:IBox w c x) (hn:c≠b):IBox (w.setCell ⟨b,0,none⟩ u) c x:=(heap_setCell_other w _ c _ hn).trans h
theorem wrap_mid (a:Int) (h: -1000000≤a∧a≤1000000):wrap64 a=a:=by unfold wrap64;omega
def Src (w:World) (g f:Nat) (S:List Inst):Prop:= ∀i (hi:i<S.length),∀j,j<4→w.cell? ⟨g,f*4+i*4+j,none⟩=(insC S[i])[j]?
theorem src_lay {w:World} {b g f:Nat} {v:Value} {L S:List Inst} (h:Lay w b v L) (hg:v.ownBlock=some g) (hS: ∀i (hi:i<S.length),L[f+i]? =some S[i]):Src w g f S:=by
 intro i hi j hj
 have h2:=hS i hi
 have h3:f+i<L.length:=(List.getElem?_eq_some_iff.1 h2).1
 obtain⟨g',c,rfl,-,-⟩:=h.shape (by omega)
 cases hg
 rw[h.own.cellAt _ (by omega)]
 have h4:=flat_at insC_len L (f+i) h3 j hj
 rw[List.getElem?_eq_getElem h3]at h2
 rw[show f*4+i*4+j=(f+i)*4+j by omega,h4,Option.some.inj h2]
theorem Src.keep {w w':World} {g f:Nat} {S:List Inst} (h:Src w g f S) (hk:w'.heap[g]? =w.heap[g]?):Src w' g f S:=fun i hi j hj=>(cell_block hk).trans (h i hi j hj)
theorem Src.next {w1 w2:World} {b g f:Nat} {v v':Value} {L S:List Inst} (h:Src w1 g f S) (hw:g<w1.heap.size) (hb:g≠b) (hp:Put v v' w1 w2) (hl:Lay (w2.setCell ⟨b,0,none⟩ v') b v' L) (hS: ∀i (hi:i<S.length),L[f+i]? =some S[i]):Src (w2.setCell ⟨b,0,none⟩ v') g f S:=by
 by_cases q:v'.ownBlock=some g
 ·exact src_lay hl q hS
 ·exact h.keep ((heap_setCell_other w2 _ g _ hb).trans (hp.kept g hw q))
set_option maxHeartbeats 8000000 in
theorem once_any {w:World} {b:Nat} {v:Value} {P S R:List Inst} (h:Lay w b v (P++(S++R))) (hS:0<S.length) (hl:(P++(S++R)).length+S.length≤8000) (hx: ∀x,x∈S→(0≤x.x∧x.x≤10000)∧(0≤x.y∧x.y≤10000)):
    Calls Tryz.prog 100 #[.pointer (some ⟨b,0,none⟩),.int .i64 P.length,.int .i64 ((P.length+S.length:Nat):Int)] w (Laid b v w (P++(S++R)++S.map (shift (S.length+R.length)))):=by
 have H:=hid h
 have HX:=hid hx
 have HE:=hid (here_any h)
 obtain⟨L,hL⟩: ∃L,P++(S++R)=L:=⟨_,rfl⟩
 obtain⟨f,hf⟩: ∃f,P.length=f:=⟨_,rfl⟩
 obtain⟨n,hn⟩: ∃n,S.length=n:=⟨_,rfl⟩
 obtain⟨d,hd⟩: ∃d,S.length+R.length=d:=⟨_,rfl⟩
 obtain⟨T,hT⟩: ∃T,L.length=T:=⟨_,rfl⟩
 have hTs:T=f+d:=by rw[←hT,←hL,←hf,←hd];simp only[List.length_append]
 have hdn:n≤d:=by omega
 have hSat: ∀i (hi:i<S.length),L[f+i]? =some S[i]:=by
  intro i hi
  rw[←hL,List.getElem?_append_right (by omega),List.getElem?_append_left (by omega),show f+i-P.length=i by omega,List.getElem?_eq_getElem hi]
 rw[hL]at H HE hl
 rw[hT]at HE hl
 obtain⟨g,c,rfl,hc1,hc2⟩:=H.out.shape (by omega)
 rw[hT]at H hc1 ⊢
 have HLT:=hid (H.out.own_gt g rfl)
 have HSRC:=hid (src_lay H.out rfl hSat)
 rw[hL,hf,hn]
 have HSAT:=hid hSat
 have HB0:=hid (show T+n≤8000∧S.length=n∧0<n from⟨by omega,hn,by omega⟩)
 obtain⟨e,he⟩: ∃e,f+n=e:=⟨_,rfl⟩
 rw[he]
 have hw1:wrap64 ((T:Int)-(f:Int))=(d:Int):=wrap64_nat_big (by omega) (by omega)
 have hfc: ¬c=f:=by omega
 have hen:e-f=n:=by omega
 have t1:f≤e:=by omega
 have t2:e≤c:=by omega
 have HTS:Hid (T=f+d):=hTs
 have HD:Hid (n+R.length=d):=by unfold Hid;omega
 have HLT2:Hid (L.length=T):=hT
 rw[HD.out]
 clear h hx hL hf hn hT hSat hS hl he hd hTs hdn
 go_enter Tryz.func100,Tryz.ntmps100
 go_wp2_with fail
 refine HE.out.mono ?_
 rintro e' w1 ⟨rfl,rfl⟩
 have a0:=H.out.box.c0
 go_wp2_with fail
 clear a0 hw1 hfc hen t1 t2
 go_loopg [21] n (fun gk s21 wr=> ∃(i:Nat) (v1:Value),s21= .int .i64 i∧Hid (i+gk=n)∧Hid (Lay wr b v1 (L++(S.take i).map (shift d)))∧Hid (Grow b (.slice (some ⟨g,0,none⟩) T c) v1 w1 wr)∧Hid (Src wr g f S))
 case atStart=>exact⟨0,_,rfl,by unfold Hid;omega,by unfold Hid;simp only[List.take_zero,List.map_nil,List.append_nil];exact H.out,Grow.refl _ _ _,HSRC⟩
 case round=>
  obtain⟨i,v1,rfl,hig,HL1,GG,SS⟩:=hrel
  by_cases hi:i<n
  ·have ti:(i:Int)<(n:Int):=by omega
   have hiS:i<S.length:=by rw[HB0.out.2.1];exact hi
   obtain⟨⟨kx,tx,x0,y0⟩,hx⟩: ∃x,S[i]=x:=⟨_,rfl⟩
   have hb:=HX.out S[i] (List.getElem_mem hiS)
   have hmap:L++(S.take (i+1)).map (shift d)=(L++(S.take i).map (shift d))++ [shift d ⟨kx,tx,x0,y0⟩]:=by
    rw[List.take_succ_eq_append_getElem hiS,hx,List.map_append,List.append_assoc];rfl
   have E1:=hid (SS.out i hiS)
   rw[hx]at E1 hb
   simp only at hb
   obtain⟨Lc,hLc⟩: ∃Lc,L++(S.take i).map (shift d)=Lc:=⟨_,rfl⟩
   have hlen:Lc.length+1≤1000000:=by
    rw[←hLc,List.length_append,List.length_map,List.length_take,HLT2.out]
    have:=HB0.out.1
    omega
   have hSat2: ∀X2:Inst,∀k (hk:k<S.length),(Lc++ [X2])[f+k]? =some S[k]:=by
    intro X2 k hk
    have h1:=HSAT.out k hk
    have h2:f+k<L.length:=(List.getElem?_eq_some_iff.1 h1).1
    rw[←hLc,List.append_assoc,List.getElem?_append_left h2,h1]
   have hsh:shift d ⟨kx,tx,x0,y0⟩=⟨kx,tx,x0+d,if kx=6 then y0+d else y0⟩:=rfl
   rw[hsh]at hmap
   rw[hLc]at HL1 hmap
   have HM:=hid hmap
   have HB:=hid hlen
   have HS2:=hid hSat2
   have hgw:=HLT.out
   obtain⟨xx,hxx⟩: ∃xx,x0+(d:Int)=xx:=⟨_,rfl⟩
   obtain⟨yy,hyy⟩: ∃yy,y0+(d:Int)=yy:=⟨_,rfl⟩
   have hTf:(T:Int)-(f:Int)=(d:Int):=by have:=HTS.out;omega
   have hwx:wrap64 (x0+((T:Int)-(f:Int)))=xx:=by rw[hTf];exact(wrap_mid _ (by have:=HB0.out.1;have:=HD.out;have:=HTS.out;omega)).trans hxx
   have hwy:wrap64 (y0+((T:Int)-(f:Int)))=yy:=by rw[hTf];exact(wrap_mid _ (by have:=HB0.out.1;have:=HD.out;have:=HTS.out;omega)).trans hyy
   rw[hxx,hyy]at HM
   have hwi:Hid (wrap64 ((i:Int)+1)=((i+1:Nat):Int)):=by unfold Hid wrap64;have:=HB0.out;omega
   have HI2:=hid hi
   have HW:=hid GG.out.size
   clear hmap hx hb hlen hSat2 hsh hLc hxx hyy hiS hgw hi hTf
   by_cases hk:kx=6
   ·subst hk
    rw[if_pos rfl]at HM
    go_wp2_with (first
     |(refine load_ins rfl (.tmp 23) rfl rfl (r:=⟨6,tx,x0,y0⟩) E1.out ?_)
     |(refine alloc_ins rfl rfl ?_;intro w3 b3 e3 p3 l3 z3)
     |(refine store_ins (r:=⟨6,tx,x0,y0⟩) rfl (.tmp 8) (.tmp 24) rfl rfl rfl p3 ?_;intro w4 p4 l4 z4;have L4:=hid (two_new l3 l4 e3);have P4:=hid p4;have c0:=p4.c0;have c2:=p4.c2;have c3:=p4.c3;have f2:=p4.free 2;have f3:=p4.free 3;have HB4:=hid e3;clear e3 p3 l3 z3 p4 l4 z4;simp only at c0 c2 c3))
    obtain⟨X2,hX2⟩: ∃X2:Inst,(⟨6,tx,xx,yy⟩:Inst)=X2:=⟨_,rfl⟩
    have i5:IBox ((w4.setCell ⟨b3,2,none⟩ (.int .i64 xx)).setCell ⟨b3,3,none⟩ (.int .i64 yy)) b3 X2:=by rw[←hX2];exact(P4.out.put2 xx).put3 yy
    have bb:Beside b3 w4 ((w4.setCell ⟨b3,2,none⟩ (.int .i64 xx)).setCell ⟨b3,3,none⟩ (.int .i64 yy)):=((Beside.refl b3 w4).put 2 _).put 3 _
    rw[hX2]at HM
    clear c0 c2 c3 f2 f3 hX2 hwx hwy
    generalize ((w4.setCell ⟨b3,2,none⟩ (.int .i64 xx)).setCell ⟨b3,3,none⟩ (.int .i64 yy))=w5 at i5 bb ⊢
    have D5:=hid (below_draws w5 1)
    have I5:Hid (IBox (w5.drewN 1) b3 X2):=i5.below D5.out
    have HB3:Hid (b3≠b):=by unfold Hid;have:=HL1.out.box.lt;have:=HB4.out;omega
    have NB:Hid (v1.ownBlock≠some b3):=by intro q;have:=(HL1.out.own_gt b3 q).2;have:=HB4.out;omega
    have H5:=hid (((HL1.out.below L4.out).other bb HB3.out NB.out).below D5.out)
    have G5:=hid ((((GG.out.trans (Grow.of L4.out)).beside bb (by have:=HB4.out;have:=HW.out;omega)).trans (Grow.of D5.out)))
    have HG:Hid (g<wr.heap.size∧g≠b3∧g≠b):=by unfold Hid;have:=HB4.out;have:=HW.out;have:=HLT.out;exact⟨by omega,by omega,by omega⟩
    have S5:Hid (Src (w5.drewN 1) g f S):=(SS.out.keep (w':=w5.drewN 1) ((bb.block g (Nat.lt_of_lt_of_le HG.out.1 L4.out.size) HG.out.2.1).trans (L4.out.block g HG.out.1)))
    have Z5:Hid (g<(w5.drewN 1).heap.size):=Nat.lt_of_lt_of_le HG.out.1 (Nat.le_trans L4.out.size bb.size)
    have a5:w5.drew.cell? ⟨b,0,none⟩=some v1:=H5.out.box.c0
    clear i5 bb
    refine wp_region_held_drew (S:=fun w'=>IBox w' b3 X2) (by kernel_rfl) I5.out (fun hHeld=> ?_)
    refine Take.k 0 ⟨some 38,.move (.tmp 0),_,_,_,none⟩ ?_
    refine Take.k 1 ⟨some 39,.move (.tmp 0),_,_,_,none⟩ ?_
    refine Take.k 2 ⟨some 40,.nilCheck (.tmp 39),_,_,_,none⟩ ?_
    refine Take.k 3 ⟨some 41,.fieldAddr 90 (.tmp 40) 0,_,_,_,none⟩ ?_
    refine Take.k 5 ⟨some 43,.load 62 (.tmp 8),_,_,_,none⟩ ?_ (hy:=Or.inl ⟨by rfl,by(intro w hSw;(try dsimp only at hSw);refine run_load_ins (.tmp 8) ?_ ?_ hSw.cells<;>rfl)⟩)
    refine wpAnyH_ready (rs:= [4,6]) (by kernel_rfl) (by simp) ?_
    refine AllReadyH.cons (o:=⟨some 42,.load 32 (.tmp 41),_,_,_,none⟩) rfl (fun K hK=> ?_) (AllReadyH.cons (o:=⟨some 44,.buildSlice 32 1 #[(0,.tmp 43)],_,_,_,none⟩) rfl (fun K hK=> ?_) AllReadyH.nil)
    ·go_simp
     skip
     go_wp2_with fail
     refine hK.out _ _ ?_ (fun hHeld=> ?_)
     ·exact I5.out
     clear hK K
     try simp only[Act.put,Take.a,Take.b,Take.c]
     refine wpAnyH_ready (rs:= [6]) (by kernel_rfl) (by simp) ?_
     refine AllReadyH.cons (o:=⟨some 44,.buildSlice 32 1 #[(0,.tmp 43)],_,_,_,none⟩) rfl (fun K hK=> ?_) AllReadyH.nil
     rw[if_pos (by rfl)]
     (refine wp_slice_ins (r:=X2) (.tmp 43) rfl rfl ?_;intro w6 b6 e6 p6 l6 z6 o6;have P6:=hid p6;have L6:=hid l6;clear e6 p6 l6 z6 o6;have a6:=(H5.out.below L6.out).box.c0)
     refine hK.out _ _ ?_ (fun hHeld=> ?_)
     ·exact I5.out.below L6.out
     clear hK K
     try simp only[Act.put,Take.a,Take.b,Take.c]
     refine wpAnyH_ready (rs:= [7]) (by kernel_rfl) (by simp) ?_
     refine AllReadyH.cons (o:=⟨some 45,.call ⟨.builtin .append, #[.tmp 42,.tmp 44], #[32,32]⟩,_,_,_,none⟩) rfl (fun K hK=> ?_) AllReadyH.nil
     rw[if_pos (by rfl)]
     (refine wp_append_ins (.tmp 42) (.tmp 44) rfl rfl rfl (H5.out.below L6.out).own P6.out (by simp only[List.length_cons,List.length_nil];have:=HB.out;omega) (Nat.le_trans H5.out.box.lt L6.out.size) ?_;intro v7 w7 o7 p7;obtain⟨g7,c7,rfl,-,-,-,-⟩:=own_form o7 (by simp);have R7:=hid (H5.out.more L6.out o7 p7);have O7:=hid p7;obtain⟨q7,hq7⟩: ∃q7,(Lc++ [X2]).length=q7:=⟨_,rfl⟩;rw[hq7]at R7 O7 ⊢;clear hq7 o7 p7;have f7:=R7.out.1.free 0;have d7:=R7.out.1.c0)
     refine hK.out _ _ ?_ (fun hHeld=> ?_)
     ·exact ibox_put (I5.out.below L6.out) O7.out NB.out
     clear hK K
     try simp only[Act.put,Take.a,Take.b,Take.c]
     refine Take.k 8 ⟨some 46,.nilCheck (.tmp 38),_,_,_,none⟩ ?_
     refine Take.k 9 ⟨some 47,.fieldAddr 90 (.tmp 46) 0,_,_,_,none⟩ ?_
     refine wpAnyH_ready (rs:= [10]) (by kernel_rfl) (by simp) ?_
     refine AllReadyH.cons (o:=⟨none,.store 32 (.tmp 47) (.tmp 45),_,_,_,none⟩) rfl (fun K hK=> ?_) AllReadyH.nil
     go_simp
     skip
     go_wp2_with fail
     refine hK.out _ _ ?_ (fun hHeld=> ?_)
     ·exact(ibox_put (I5.out.below L6.out) O7.out NB.out).other HB3.out
     clear hK K
     try simp only[Act.put,Take.a,Take.b,Take.c]
     refine wpAnyH_done (by kernel_rfl) ?_ _
     have H8:Hid (Lay (w7.setCell ⟨b,0,none⟩ (.slice (some ⟨g7,0,none⟩) q7 c7)) b (.slice (some ⟨g7,0,none⟩) q7 c7) (L++(S.take (i+1)).map (shift d))):=by unfold Hid;rw[HM.out];exact R7.out.2.1
     have G8:=hid (G5.out.trans R7.out.2.2)
     have S8:=hid ((S5.out.keep (w':=w6) (L6.out.block g Z5.out)).next (Nat.lt_of_lt_of_le Z5.out L6.out.size) HG.out.2.2 O7.out R7.out.2.1 (HS2.out X2))
     clear f7 d7 a6
     cases gk with
     |zero=>exact absurd hig.out (by have:=HI2.out;omega)
     |succ gk=>
      go_wp2_with fail
      go_roundg gk
      case measure=>omega
      case rel=>exact⟨i+1,_,by first|rfl|exact congrArg (Value.int .i64) hwi.out,by have:=hig.out;unfold Hid;omega,H8,G8,S8⟩
    ·rw[if_pos (by rfl)]
     (refine wp_slice_ins (r:=X2) (.tmp 43) rfl rfl ?_;intro w6 b6 e6 p6 l6 z6 o6;have P6:=hid p6;have L6:=hid l6;clear e6 p6 l6 z6 o6;have a6:=(H5.out.below L6.out).box.c0)
     refine hK.out _ _ ?_ (fun hHeld=> ?_)
     ·exact I5.out.below L6.out
     clear hK K
     try simp only[Act.put,Take.a,Take.b,Take.c]
     refine wpAnyH_ready (rs:= [4]) (by kernel_rfl) (by simp) ?_
     refine AllReadyH.cons (o:=⟨some 42,.load 32 (.tmp 41),_,_,_,none⟩) rfl (fun K hK=> ?_) AllReadyH.nil
     go_simp
     skip
     go_wp2_with fail
     refine hK.out _ _ ?_ (fun hHeld=> ?_)
     ·exact I5.out.below L6.out
     clear hK K
     try simp only[Act.put,Take.a,Take.b,Take.c]
     refine wpAnyH_ready (rs:= [7]) (by kernel_rfl) (by simp) ?_
     refine AllReadyH.cons (o:=⟨some 45,.call ⟨.builtin .append, #[.tmp 42,.tmp 44], #[32,32]⟩,_,_,_,none⟩) rfl (fun K hK=> ?_) AllReadyH.nil
     rw[if_pos (by rfl)]
     (refine wp_append_ins (.tmp 42) (.tmp 44) rfl rfl rfl (H5.out.below L6.out).own P6.out (by simp only[List.length_cons,List.length_nil];have:=HB.out;omega) (Nat.le_trans H5.out.box.lt L6.out.size) ?_;intro v7 w7 o7 p7;obtain⟨g7,c7,rfl,-,-,-,-⟩:=own_form o7 (by simp);have R7:=hid (H5.out.more L6.out o7 p7);have O7:=hid p7;obtain⟨q7,hq7⟩: ∃q7,(Lc++ [X2]).length=q7:=⟨_,rfl⟩;rw[hq7]at R7 O7 ⊢;clear hq7 o7 p7;have f7:=R7.out.1.free 0;have d7:=R7.out.1.c0)
     refine hK.out _ _ ?_ (fun hHeld=> ?_)
     ·exact ibox_put (I5.out.below L6.out) O7.out NB.out
     clear hK K
     try simp only[Act.put,Take.a,Take.b,Take.c]
     refine Take.k 8 ⟨some 46,.nilCheck (.tmp 38),_,_,_,none⟩ ?_
     refine Take.k 9 ⟨some 47,.fieldAddr 90 (.tmp 46) 0,_,_,_,none⟩ ?_
     refine wpAnyH_ready (rs:= [10]) (by kernel_rfl) (by simp) ?_
     refine AllReadyH.cons (o:=⟨none,.store 32 (.tmp 47) (.tmp 45),_,_,_,none⟩) rfl (fun K hK=> ?_) AllReadyH.nil
     go_simp
     skip
     go_wp2_with fail
     refine hK.out _ _ ?_ (fun hHeld=> ?_)
     ·exact(ibox_put (I5.out.below L6.out) O7.out NB.out).other HB3.out
     clear hK K
     try simp only[Act.put,Take.a,Take.b,Take.c]
     refine wpAnyH_done (by kernel_rfl) ?_ _
     have H8:Hid (Lay (w7.setCell ⟨b,0,none⟩ (.slice (some ⟨g7,0,none⟩) q7 c7)) b (.slice (some ⟨g7,0,none⟩) q7 c7) (L++(S.take (i+1)).map (shift d))):=by unfold Hid;rw[HM.out];exact R7.out.2.1
     have G8:=hid (G5.out.trans R7.out.2.2)
     have S8:=hid ((S5.out.keep (w':=w6) (L6.out.block g Z5.out)).next (Nat.lt_of_lt_of_le Z5.out L6.out.size) HG.out.2.2 O7.out R7.out.2.1 (HS2.out X2))
     clear f7 d7 a6
     cases gk with
     |zero=>exact absurd hig.out (by have:=HI2.out;omega)
     |succ gk=>
      go_wp2_with fail
      go_roundg gk
      case measure=>omega
      case rel=>exact⟨i+1,_,by first|rfl|exact congrArg (Value.int .i64) hwi.out,by have:=hig.out;unfold Hid;omega,H8,G8,S8⟩
   ·have tk:(kx==6)=false:=by simpa using hk
    rw[if_neg hk]at HM
    go_wp2_with (first
     |(refine load_ins rfl (.tmp 23) rfl rfl (r:=⟨kx,tx,x0,y0⟩) E1.out ?_)
     |(refine alloc_ins rfl rfl ?_;intro w3 b3 e3 p3 l3 z3)
     |(refine store_ins (r:=⟨kx,tx,x0,y0⟩) rfl (.tmp 8) (.tmp 24) rfl rfl rfl p3 ?_;intro w4 p4 l4 z4;have L4:=hid (two_new l3 l4 e3);have P4:=hid p4;have c0:=p4.c0;have c2:=p4.c2;have c3:=p4.c3;have f2:=p4.free 2;have f3:=p4.free 3;have HB4:=hid e3;clear e3 p3 l3 z3 p4 l4 z4;simp only at c0 c2 c3))
    obtain⟨X2,hX2⟩: ∃X2:Inst,(⟨kx,tx,xx,y0⟩:Inst)=X2:=⟨_,rfl⟩
    have i5:IBox (w4.setCell ⟨b3,2,none⟩ (.int .i64 xx)) b3 X2:=by rw[←hX2];exact P4.out.put2 xx
    have bb:Beside b3 w4 (w4.setCell ⟨b3,2,none⟩ (.int .i64 xx)):=(Beside.refl b3 w4).put 2 _
    rw[hX2]at HM
    clear c0 c2 c3 f2 f3 hX2 hwx hwy
    generalize (w4.setCell ⟨b3,2,none⟩ (.int .i64 xx))=w5 at i5 bb ⊢
    have D5:=hid (below_draws w5 1)
    have I5:Hid (IBox (w5.drewN 1) b3 X2):=i5.below D5.out
    have HB3:Hid (b3≠b):=by unfold Hid;have:=HL1.out.box.lt;have:=HB4.out;omega
    have NB:Hid (v1.ownBlock≠some b3):=by intro q;have:=(HL1.out.own_gt b3 q).2;have:=HB4.out;omega
    have H5:=hid (((HL1.out.below L4.out).other bb HB3.out NB.out).below D5.out)
    have G5:=hid ((((GG.out.trans (Grow.of L4.out)).beside bb (by have:=HB4.out;have:=HW.out;omega)).trans (Grow.of D5.out)))
    have HG:Hid (g<wr.heap.size∧g≠b3∧g≠b):=by unfold Hid;have:=HB4.out;have:=HW.out;have:=HLT.out;exact⟨by omega,by omega,by omega⟩
    have S5:Hid (Src (w5.drewN 1) g f S):=(SS.out.keep (w':=w5.drewN 1) ((bb.block g (Nat.lt_of_lt_of_le HG.out.1 L4.out.size) HG.out.2.1).trans (L4.out.block g HG.out.1)))
    have Z5:Hid (g<(w5.drewN 1).heap.size):=Nat.lt_of_lt_of_le HG.out.1 (Nat.le_trans L4.out.size bb.size)
    have a5:w5.drew.cell? ⟨b,0,none⟩=some v1:=H5.out.box.c0
    clear i5 bb
    refine wp_region_held_drew (S:=fun w'=>IBox w' b3 X2) (by kernel_rfl) I5.out (fun hHeld=> ?_)
    refine Take.k 0 ⟨some 38,.move (.tmp 0),_,_,_,none⟩ ?_
    refine Take.k 1 ⟨some 39,.move (.tmp 0),_,_,_,none⟩ ?_
    refine Take.k 2 ⟨some 40,.nilCheck (.tmp 39),_,_,_,none⟩ ?_
    refine Take.k 3 ⟨some 41,.fieldAddr 90 (.tmp 40) 0,_,_,_,none⟩ ?_
    refine Take.k 5 ⟨some 43,.load 62 (.tmp 8),_,_,_,none⟩ ?_ (hy:=Or.inl ⟨by rfl,by(intro w hSw;(try dsimp only at hSw);refine run_load_ins (.tmp 8) ?_ ?_ hSw.cells<;>rfl)⟩)
    refine wpAnyH_ready (rs:= [4,6]) (by kernel_rfl) (by simp) ?_
    refine AllReadyH.cons (o:=⟨some 42,.load 32 (.tmp 41),_,_,_,none⟩) rfl (fun K hK=> ?_) (AllReadyH.cons (o:=⟨some 44,.buildSlice 32 1 #[(0,.tmp 43)],_,_,_,none⟩) rfl (fun K hK=> ?_) AllReadyH.nil)
    ·go_simp
     skip
     go_wp2_with fail
     refine hK.out _ _ ?_ (fun hHeld=> ?_)
     ·exact I5.out
     clear hK K
     try simp only[Act.put,Take.a,Take.b,Take.c]
     refine wpAnyH_ready (rs:= [6]) (by kernel_rfl) (by simp) ?_
     refine AllReadyH.cons (o:=⟨some 44,.buildSlice 32 1 #[(0,.tmp 43)],_,_,_,none⟩) rfl (fun K hK=> ?_) AllReadyH.nil
     rw[if_pos (by rfl)]
     (refine wp_slice_ins (r:=X2) (.tmp 43) rfl rfl ?_;intro w6 b6 e6 p6 l6 z6 o6;have P6:=hid p6;have L6:=hid l6;clear e6 p6 l6 z6 o6;have a6:=(H5.out.below L6.out).box.c0)
     refine hK.out _ _ ?_ (fun hHeld=> ?_)
     ·exact I5.out.below L6.out
     clear hK K
     try simp only[Act.put,Take.a,Take.b,Take.c]
     refine wpAnyH_ready (rs:= [7]) (by kernel_rfl) (by simp) ?_
     refine AllReadyH.cons (o:=⟨some 45,.call ⟨.builtin .append, #[.tmp 42,.tmp 44], #[32,32]⟩,_,_,_,none⟩) rfl (fun K hK=> ?_) AllReadyH.nil
     rw[if_pos (by rfl)]
     (refine wp_append_ins (.tmp 42) (.tmp 44) rfl rfl rfl (H5.out.below L6.out).own P6.out (by simp only[List.length_cons,List.length_nil];have:=HB.out;omega) (Nat.le_trans H5.out.box.lt L6.out.size) ?_;intro v7 w7 o7 p7;obtain⟨g7,c7,rfl,-,-,-,-⟩:=own_form o7 (by simp);have R7:=hid (H5.out.more L6.out o7 p7);have O7:=hid p7;obtain⟨q7,hq7⟩: ∃q7,(Lc++ [X2]).length=q7:=⟨_,rfl⟩;rw[hq7]at R7 O7 ⊢;clear hq7 o7 p7;have f7:=R7.out.1.free 0;have d7:=R7.out.1.c0)
     refine hK.out _ _ ?_ (fun hHeld=> ?_)
     ·exact ibox_put (I5.out.below L6.out) O7.out NB.out
     clear hK K
     try simp only[Act.put,Take.a,Take.b,Take.c]
     refine Take.k 8 ⟨some 46,.nilCheck (.tmp 38),_,_,_,none⟩ ?_
     refine Take.k 9 ⟨some 47,.fieldAddr 90 (.tmp 46) 0,_,_,_,none⟩ ?_
     refine wpAnyH_ready (rs:= [10]) (by kernel_rfl) (by simp) ?_
     refine AllReadyH.cons (o:=⟨none,.store 32 (.tmp 47) (.tmp 45),_,_,_,none⟩) rfl (fun K hK=> ?_) AllReadyH.nil
     go_simp
     skip
     go_wp2_with fail
     refine hK.out _ _ ?_ (fun hHeld=> ?_)
     ·exact(ibox_put (I5.out.below L6.out) O7.out NB.out).other HB3.out
     clear hK K
     try simp only[Act.put,Take.a,Take.b,Take.c]
     refine wpAnyH_done (by kernel_rfl) ?_ _
     have H8:Hid (Lay (w7.setCell ⟨b,0,none⟩ (.slice (some ⟨g7,0,none⟩) q7 c7)) b (.slice (some ⟨g7,0,none⟩) q7 c7) (L++(S.take (i+1)).map (shift d))):=by unfold Hid;rw[HM.out];exact R7.out.2.1
     have G8:=hid (G5.out.trans R7.out.2.2)
     have S8:=hid ((S5.out.keep (w':=w6) (L6.out.block g Z5.out)).next (Nat.lt_of_lt_of_le Z5.out L6.out.size) HG.out.2.2 O7.out R7.out.2.1 (HS2.out X2))
     clear f7 d7 a6
     cases gk with
     |zero=>exact absurd hig.out (by have:=HI2.out;omega)
     |succ gk=>
      go_wp2_with fail
      go_roundg gk
      case measure=>omega
      case rel=>exact⟨i+1,_,by first|rfl|exact congrArg (Value.int .i64) hwi.out,by have:=hig.out;unfold Hid;omega,H8,G8,S8⟩
    ·rw[if_pos (by rfl)]
     (refine wp_slice_ins (r:=X2) (.tmp 43) rfl rfl ?_;intro w6 b6 e6 p6 l6 z6 o6;have P6:=hid p6;have L6:=hid l6;clear e6 p6 l6 z6 o6;have a6:=(H5.out.below L6.out).box.c0)
     refine hK.out _ _ ?_ (fun hHeld=> ?_)
     ·exact I5.out.below L6.out
     clear hK K
     try simp only[Act.put,Take.a,Take.b,Take.c]
     refine wpAnyH_ready (rs:= [4]) (by kernel_rfl) (by simp) ?_
     refine AllReadyH.cons (o:=⟨some 42,.load 32 (.tmp 41),_,_,_,none⟩) rfl (fun K hK=> ?_) AllReadyH.nil
     go_simp
     skip
     go_wp2_with fail
     refine hK.out _ _ ?_ (fun hHeld=> ?_)
     ·exact I5.out.below L6.out
     clear hK K
     try simp only[Act.put,Take.a,Take.b,Take.c]
     refine wpAnyH_ready (rs:= [7]) (by kernel_rfl) (by simp) ?_
     refine AllReadyH.cons (o:=⟨some 45,.call ⟨.builtin .append, #[.tmp 42,.tmp 44], #[32,32]⟩,_,_,_,none⟩) rfl (fun K hK=> ?_) AllReadyH.nil
     rw[if_pos (by rfl)]
     (refine wp_append_ins (.tmp 42) (.tmp 44) rfl rfl rfl (H5.out.below L6.out).own P6.out (by simp only[List.length_cons,List.length_nil];have:=HB.out;omega) (Nat.le_trans H5.out.box.lt L6.out.size) ?_;intro v7 w7 o7 p7;obtain⟨g7,c7,rfl,-,-,-,-⟩:=own_form o7 (by simp);have R7:=hid (H5.out.more L6.out o7 p7);have O7:=hid p7;obtain⟨q7,hq7⟩: ∃q7,(Lc++ [X2]).length=q7:=⟨_,rfl⟩;rw[hq7]at R7 O7 ⊢;clear hq7 o7 p7;have f7:=R7.out.1.free 0;have d7:=R7.out.1.c0)
     refine hK.out _ _ ?_ (fun hHeld=> ?_)
     ·exact ibox_put (I5.out.below L6.out) O7.out NB.out
     clear hK K
     try simp only[Act.put,Take.a,Take.b,Take.c]
     refine Take.k 8 ⟨some 46,.nilCheck (.tmp 38),_,_,_,none⟩ ?_
     refine Take.k 9 ⟨some 47,.fieldAddr 90 (.tmp 46) 0,_,_,_,none⟩ ?_
     refine wpAnyH_ready (rs:= [10]) (by kernel_rfl) (by simp) ?_
     refine AllReadyH.cons (o:=⟨none,.store 32 (.tmp 47) (.tmp 45),_,_,_,none⟩) rfl (fun K hK=> ?_) AllReadyH.nil
     go_simp
     skip
     go_wp2_with fail
     refine hK.out _ _ ?_ (fun hHeld=> ?_)
     ·exact(ibox_put (I5.out.below L6.out) O7.out NB.out).other HB3.out
     clear hK K
     try simp only[Act.put,Take.a,Take.b,Take.c]
     refine wpAnyH_done (by kernel_rfl) ?_ _
     have H8:Hid (Lay (w7.setCell ⟨b,0,none⟩ (.slice (some ⟨g7,0,none⟩) q7 c7)) b (.slice (some ⟨g7,0,none⟩) q7 c7) (L++(S.take (i+1)).map (shift d))):=by unfold Hid;rw[HM.out];exact R7.out.2.1
     have G8:=hid (G5.out.trans R7.out.2.2)
     have S8:=hid ((S5.out.keep (w':=w6) (L6.out.block g Z5.out)).next (Nat.lt_of_lt_of_le Z5.out L6.out.size) HG.out.2.2 O7.out R7.out.2.1 (HS2.out X2))
     clear f7 d7 a6
     cases gk with
     |zero=>exact absurd hig.out (by have:=HI2.out;omega)
     |succ gk=>
      go_wp2_with fail
      go_roundg gk
      case measure=>omega
      case rel=>exact⟨i+1,_,by first|rfl|exact congrArg (Value.int .i64) hwi.out,by have:=hig.out;unfold Hid;omega,H8,G8,S8⟩
  ·have ti: ¬(i:Int)<(n:Int):=by omega
   have hie:i=n:=by have:=hig.out;omega
   have HL2:Hid (Lay wr b v1 (L++S.map (shift d))):=by
    have:=HL1.out
    rw[hie,←HB0.out.2.1,List.take_length]at this
    exact this
   clear hie hi
   go_wp2_with fail
   go_end0
   exact⟨rfl,v1,HL2.out,GG.out⟩
end W15
end Go.Proofs.YtehdnbidgphecaaGreatDoor
