/-
  Texts joined, in build order, each with its own comment and its own conditions: W14RefRep, W15GSize, W15RefSeq, W15RefAlt, W16GoOn.
-/
import Derived.Test.YtfgegjinhkgpbaaGreatDoorJ09
import Derived.Test.YtfgegjinhkgpbaaGreatDoorJ07
import Derived.Deep.Onto
import Derived.Test.YtfgegjinhkgpbaaGreatDoorTake
namespace Go.Proofs.YtfgegjinhkgpbaaGreatDoor
set_option maxHeartbeats 4000000
set_option maxRecDepth 100000
open Go.RowKit
open Lib (hid)
namespace W14
open Strs Recs M14
open Kit (below_draws on)
theorem wrap_nat {a:Int} {n:Nat} (h:a=(n:Int)) (hn:n≤4000000):wrap64 a=(n:Int):=by subst h;unfold wrap64;omega
theorem min_nat (n:Nat):min (n:Int) 4001=((min 4001 n:Nat):Int):=by omega
end W14
namespace M15
open Go M14
mutual
def gsize:Piece→Nat
 | .mk k t ks m tp=>min 4001 (if k=1 then 0 else if 2≤k∧k≤6 then 1 else if k=7 then gsizes ks else if k=8 then gsizes ks+2*(ks.length-1)else if k=9∧oft t ks.length m tp=true then(if tp= -1 then m.toNat*gsizes ks+gsizes ks+2 else m.toNat*gsizes ks+(tp-m).toNat*(gsizes ks+1))else 4001)
def gsizes:List Piece→Nat
 | []=>0
 |p::l=>gsize p+gsizes l
end
theorem gsize_le (p:Piece):gsize p≤4001:=by
 match p with
 | .mk k t l a b=>unfold gsize;exact Nat.min_le_left _ _
theorem gsizes_append (l m:List Piece):gsizes (l++m)=gsizes l+gsizes m:=by
 induction l with
 |nil=>simp[gsizes]
 |cons p l ih=>rw[List.cons_append,gsizes,ih,gsizes];omega
theorem gsizes_take {l:List Piece} {i:Nat} (h:i<l.length):gsizes (l.take (i+1))=gsizes (l.take i)+gsize l[i]:=by
 rw[List.take_succ_eq_append_getElem h,gsizes_append]
 simp[gsizes]
def gcnt (k:Int) (ks:List Piece) (i:Nat):Nat:=min (gsizes (ks.take i)+(if k=8 then 2*(i-1)else 0)) 4001
theorem gsize_many {k:Int} (hk:k=7∨k=8) (t:ByteArray) (ks:List Piece) (l tp:Int):gsize (.mk k t ks l tp)=gcnt k ks ks.length:=by
 unfold gsize gcnt
 rw[List.take_length]
 rcases hk with rfl|rfl
 ·rw[if_neg (by decide),if_neg (by decide),if_pos rfl,if_neg (by decide)];omega
 ·rw[if_neg (by decide),if_neg (by decide),if_neg (by decide),if_pos rfl,if_pos rfl];omega
theorem gcnt_le (k:Int) (ks:List Piece) (i:Nat):gcnt k ks i≤4001:=Nat.min_le_right _ _
theorem gcnt_7 {ks:List Piece} {i n m:Nat} (hi:i<ks.length) (hn:gcnt 7 ks i=n) (hm:gsize (ks[i]'hi)=m):gcnt 7 ks (i+1)=min (n+m) 4001:=by
 subst hn hm
 unfold gcnt
 rw[if_neg (by decide),if_neg (by decide),gsizes_take hi];omega
theorem gcnt_8 {ks:List Piece} {i n m:Nat} (hi:i<ks.length) (hn:gcnt 8 ks i=n) (hm:gsize (ks[i]'hi)=m):gcnt 8 ks (i+1)=min (n+m+(if 0<i then 2 else 0)) 4001:=by
 subst hn hm
 unfold gcnt
 rw[if_pos rfl,if_pos rfl,gsizes_take hi]
 by_cases h:0<i
 ·rw[if_pos h];omega
 ·rw[if_neg h]
  obtain rfl:i=0:=by omega
  simp only[List.take_zero,Nat.mul_zero,Nat.add_zero,Nat.zero_sub,Nat.zero_add,Nat.sub_self]
  omega
theorem gsize_1 {k:Int} (hk:1≤k∧k≤6) (t:ByteArray) (ks:List Piece) (m tp:Int):gsize (.mk k t ks m tp)=if k=1 then 0 else 1:=by
 unfold gsize
 by_cases h1:k=1
 ·simp[h1]
 ·simp[h1,show 2≤k∧k≤6 by omega]
theorem gsize_no {k:Int} (hk: ¬(1≤k∧k≤9)) (t:ByteArray) (ks:List Piece) (m tp:Int):gsize (.mk k t ks m tp)=4001:=by
 unfold gsize
 rw[if_neg (by omega),if_neg (by omega),if_neg (by omega),if_neg (by omega),if_neg (by omega)];rfl
theorem gsize_not {t:ByteArray} {ks:List Piece} {m tp:Int} (h:oft t ks.length m tp=false):gsize (.mk 9 t ks m tp)=4001:=by
 unfold gsize
 rw[if_neg (by decide),if_neg (by decide),if_neg (by decide),if_neg (by decide),if_neg (by simp[h])];rfl
theorem gsize_rep (p:Piece) (M:Nat) (t:Int) (h:oft ⟨#[]⟩ 1 M t=true):gsize (.mk 9 ⟨#[]⟩ [p] M t)=min 4001 (if t= -1 then M*gsize p+gsize p+2 else M*gsize p+(t-M).toNat*(gsize p+1)):=by
 have h1:gsizes [p]=gsize p:=by simp[gsizes]
 have h2:oft ⟨#[]⟩ [p].length M t=true:=h
 conv=>lhs;unfold gsize
 rw[if_neg (by decide),if_neg (by decide),if_neg (by decide),if_neg (by decide),if_pos ⟨rfl,h2⟩,h1,Int.toNat_natCast]
theorem oft_of {M:Nat} {t:Int} (hM:M≤100) (ht:t= -1∨(M:Int)≤t∧t≤100):oft ⟨#[]⟩ 1 M t=true:=by
 unfold oft
 have h0:(⟨#[]⟩:ByteArray).size=0:=rfl
 rw[decide_eq_true h0,decide_eq_true (show(1:Nat)=1 from rfl),decide_eq_true (show(0:Int)≤M by omega),decide_eq_true (show(M:Int)≤100 by omega),decide_eq_true (show t≤100 by omega)]
 by_cases q:t= -1
 ·rw[decide_eq_true q];rfl
 ·rw[decide_eq_false q,decide_eq_true (show(M:Int)≤t by omega)];rfl
end M15
namespace W15
open Strs Recs M15
open M14 (Piece)
open W14 (Raw rawA rawC PAt PBox PLow box_arg load_piece load_at cell_block wrap_nat min_nat mul_small roften_any)
open Kit (below_draws on)
abbrev Kids (w:World) (A:Option Addr) (c:Nat) (raws:List Raw) (ks:List Piece):Prop:=W14.Kids w A c raws ks
def GTo (w:World) (p:Piece) (e:Ending) (w':World):Prop:=e= .returned (.int .i64 (gsize p))∧Below w.heap.size w w'
theorem rgsize_leaf {k:Int} (hk:1≤k∧k≤6) {t:ByteArray} {ks:List Piece} {l tp:Int} {w:World} {r:Raw} (h:PLow w r (.mk k t ks l tp)):Calls Tryz.prog 28 #[.agg (rawA r)] w (GTo w (.mk k t ks l tp)):=by
 unfold GTo
 rw[gsize_1 hk]
 obtain⟨A,c,raws,rfl,k1⟩:=h.parts
 have r1:=k1.room
 have hc1:=r1.1
 have hc2:=r1.2
 obtain⟨n,hn⟩: ∃n,ks.length=n:=⟨_,rfl⟩
 rw[hn]at hc1 ⊢
 clear h k1 r1 hn
 have:k=1∨k=2∨k=3∨k=4∨k=5∨k=6:=by omega
 by_cases h0:0<n
 ·have t0:(0:Int)<(n:Int):=by omega
  clear h0 hk
  rcases this with rfl|rfl|rfl|rfl|rfl|rfl
  all_goals
   go_enter Tryz.func28,Tryz.ntmps28
   go_wp2_with (first
    |(refine box_arg rfl (.tmp 0) rfl rfl ?_;intro w1 b1 e1 p1 l1 z1;have a0:=p1.c0;have a2:=p1.c2;have L1:=hid l1;clear e1 p1 l1 z1;simp only at a0 a2))
   go_loopg [3,4] 1 (fun gk s3 s4 wr=>s3= .int .i64 0∧s4= .int .i64 0∧wr=w1)
   case atStart=>exact⟨rfl,rfl,rfl⟩
   case round=>
    obtain⟨rfl,rfl,rfl⟩:=hrel
    go_wp2_with fail
    go_ret
    exact⟨by first|rfl|simp,L1.out⟩
 ·have t0: ¬(0:Int)<(n:Int):=by omega
  clear h0 hk
  rcases this with rfl|rfl|rfl|rfl|rfl|rfl
  all_goals
   go_enter Tryz.func28,Tryz.ntmps28
   go_wp2_with (first
    |(refine box_arg rfl (.tmp 0) rfl rfl ?_;intro w1 b1 e1 p1 l1 z1;have a0:=p1.c0;have a2:=p1.c2;have L1:=hid l1;clear e1 p1 l1 z1;simp only at a0 a2))
   go_loopg [3,4] 1 (fun gk s3 s4 wr=>s3= .int .i64 0∧s4= .int .i64 0∧wr=w1)
   case atStart=>exact⟨rfl,rfl,rfl⟩
   case round=>
    obtain⟨rfl,rfl,rfl⟩:=hrel
    go_wp2_with fail
    go_ret
    exact⟨by first|rfl|simp,L1.out⟩
theorem rgsize_other {k:Int} (hk: ¬(1≤k∧k≤9)) {t:ByteArray} {ks:List Piece} {l tp:Int} {w:World} {r:Raw} (h:PLow w r (.mk k t ks l tp)):Calls Tryz.prog 28 #[.agg (rawA r)] w (GTo w (.mk k t ks l tp)):=by
 unfold GTo
 rw[gsize_no hk]
 obtain⟨A,c,raws,rfl,k1⟩:=h.parts
 have r1:=k1.room
 have hc1:=r1.1
 have hc2:=r1.2
 obtain⟨n,hn⟩: ∃n,ks.length=n:=⟨_,rfl⟩
 rw[hn]at hc1 ⊢
 have t7:(k==7)=false:=by simp;omega
 have t8:(k==8)=false:=by simp;omega
 clear h k1 r1 hn
 by_cases h0:0<n
 ·have t0:(0:Int)<(n:Int):=by omega
  clear h0
  by_cases q:k<1
  ·have q2: ¬2≤k:=by omega
   clear hk
   go_enter Tryz.func28,Tryz.ntmps28
   go_wp2_with (first
    |(refine box_arg (r:=⟨k,t,A,n,c,l,tp⟩) rfl (.tmp 0) rfl rfl ?_;intro w1 b1 e1 p1 l1 z1;have a0:=p1.c0;have a2:=p1.c2;have L1:=hid l1;clear e1 p1 l1 z1;simp only at a0 a2))
   go_loopg [3,4] 1 (fun gk s3 s4 wr=>s3= .int .i64 0∧s4= .int .i64 0∧wr=w1)
   case atStart=>exact⟨rfl,rfl,rfl⟩
   case round=>
    obtain⟨rfl,rfl,rfl⟩:=hrel
    go_wp2_with fail
    go_ret
    exact⟨rfl,L1.out⟩
  ·have q2:2≤k:=by omega
   have q3: ¬k≤6:=by omega
   have q4:9<k:=by omega
   clear hk
   go_enter Tryz.func28,Tryz.ntmps28
   go_wp2_with (first
    |(refine box_arg (r:=⟨k,t,A,n,c,l,tp⟩) rfl (.tmp 0) rfl rfl ?_;intro w1 b1 e1 p1 l1 z1;have a0:=p1.c0;have a2:=p1.c2;have L1:=hid l1;clear e1 p1 l1 z1;simp only at a0 a2))
   go_loopg [3,4] 1 (fun gk s3 s4 wr=>s3= .int .i64 0∧s4= .int .i64 0∧wr=w1)
   case atStart=>exact⟨rfl,rfl,rfl⟩
   case round=>
    obtain⟨rfl,rfl,rfl⟩:=hrel
    go_wp2_with fail
    go_ret
    exact⟨rfl,L1.out⟩
 ·have t0: ¬(0:Int)<(n:Int):=by omega
  clear h0
  by_cases q:k<1
  ·have q2: ¬2≤k:=by omega
   clear hk
   go_enter Tryz.func28,Tryz.ntmps28
   go_wp2_with (first
    |(refine box_arg (r:=⟨k,t,A,n,c,l,tp⟩) rfl (.tmp 0) rfl rfl ?_;intro w1 b1 e1 p1 l1 z1;have a0:=p1.c0;have a2:=p1.c2;have L1:=hid l1;clear e1 p1 l1 z1;simp only at a0 a2))
   go_loopg [3,4] 1 (fun gk s3 s4 wr=>s3= .int .i64 0∧s4= .int .i64 0∧wr=w1)
   case atStart=>exact⟨rfl,rfl,rfl⟩
   case round=>
    obtain⟨rfl,rfl,rfl⟩:=hrel
    go_wp2_with fail
    go_ret
    exact⟨rfl,L1.out⟩
  ·have q2:2≤k:=by omega
   have q3: ¬k≤6:=by omega
   have q4:9<k:=by omega
   clear hk
   go_enter Tryz.func28,Tryz.ntmps28
   go_wp2_with (first
    |(refine box_arg (r:=⟨k,t,A,n,c,l,tp⟩) rfl (.tmp 0) rfl rfl ?_;intro w1 b1 e1 p1 l1 z1;have a0:=p1.c0;have a2:=p1.c2;have L1:=hid l1;clear e1 p1 l1 z1;simp only at a0 a2))
   go_loopg [3,4] 1 (fun gk s3 s4 wr=>s3= .int .i64 0∧s4= .int .i64 0∧wr=w1)
   case atStart=>exact⟨rfl,rfl,rfl⟩
   case round=>
    obtain⟨rfl,rfl,rfl⟩:=hrel
    go_wp2_with fail
    go_ret
    exact⟨rfl,L1.out⟩
theorem rgsize_not {t:ByteArray} {ks:List Piece} {m tp:Int} (ho:oft t ks.length m tp=false) {w:World} {r:Raw} (h:PLow w r (.mk 9 t ks m tp)):Calls Tryz.prog 28 #[.agg (rawA r)] w (GTo w (.mk 9 t ks m tp)):=by
 unfold GTo
 rw[gsize_not ho]
 obtain⟨A,c,raws,rfl,k1⟩:=h.parts
 have r1:=k1.room
 have hc1:=r1.1
 have hc2:=r1.2
 have HO:=roft_any 9 t A ks.length c m tp r1
 rw[ho]at HO
 unfold Asks at HO
 replace HO:=hid HO
 obtain⟨n,hn⟩: ∃n,ks.length=n:=⟨_,rfl⟩
 rw[hn]at hc1 HO ⊢
 clear h k1 r1 hn ho
 by_cases h0:0<n
 ·have t0:(0:Int)<(n:Int):=by omega
  clear h0
  go_enter Tryz.func28,Tryz.ntmps28
  go_wp2_with (first
   |(refine box_arg (r:=⟨9,t,A,n,c,m,tp⟩) rfl (.tmp 0) rfl rfl ?_;intro w1 b1 e1 p1 l1 z1;have P1:=hid p1;have a0:=p1.c0;have a1:=p1.c1;have a2:=p1.c2;have a3:=p1.c3;have a4:=p1.c4;have L1:=hid l1;clear e1 p1 l1 z1;simp only at a0 a1 a2 a3 a4))
  go_loopg [3,4] 1 (fun gk s3 s4 wr=>s3= .int .i64 0∧s4= .int .i64 0∧wr=w1)
  case atStart=>exact⟨rfl,rfl,rfl⟩
  case round=>
   obtain⟨rfl,rfl,rfl⟩:=hrel
   go_wp2_with fail
   refine(HO.out _).mono ?_
   rintro e w2 ⟨rfl,l2⟩
   have L2:=hid (on L1.out l2)
   clear l2
   go_wp2_with fail
   go_ret
   exact⟨rfl,L2.out⟩
 ·have t0: ¬(0:Int)<(n:Int):=by omega
  clear h0
  go_enter Tryz.func28,Tryz.ntmps28
  go_wp2_with (first
   |(refine box_arg (r:=⟨9,t,A,n,c,m,tp⟩) rfl (.tmp 0) rfl rfl ?_;intro w1 b1 e1 p1 l1 z1;have P1:=hid p1;have a0:=p1.c0;have a1:=p1.c1;have a2:=p1.c2;have a3:=p1.c3;have a4:=p1.c4;have L1:=hid l1;clear e1 p1 l1 z1;simp only at a0 a1 a2 a3 a4))
  go_loopg [3,4] 1 (fun gk s3 s4 wr=>s3= .int .i64 0∧s4= .int .i64 0∧wr=w1)
  case atStart=>exact⟨rfl,rfl,rfl⟩
  case round=>
   obtain⟨rfl,rfl,rfl⟩:=hrel
   go_wp2_with fail
   refine(HO.out _).mono ?_
   rintro e w2 ⟨rfl,l2⟩
   have L2:=hid (on L1.out l2)
   clear l2
   go_wp2_with fail
   go_ret
   exact⟨rfl,L2.out⟩
theorem rgsize_seq {t:ByteArray} {l tp:Int} {ks:List Piece} (IH: ∀i (hi:i<ks.length) (w:World) (r:Raw),PLow w r ks[i]→Calls Tryz.prog 28 #[.agg (rawA r)] w (GTo w ks[i])) {w:World} {r:Raw} (h:PLow w r (.mk 7 t ks l tp)):Calls Tryz.prog 28 #[.agg (rawA r)] w (GTo w (.mk 7 t ks l tp)):=by
 unfold GTo
 rw[gsize_many (.inl rfl) t ks l tp]
 obtain⟨A,c,raws,rfl,k1⟩:=h.parts
 have HI:=hid IH
 have hr1:=k1.room.1
 have hr2:=k1.room.2
 have K1:=hid k1
 clear h k1 IH
 go_enter Tryz.func28,Tryz.ntmps28
 go_wp2_with (first
  |(refine box_arg (r:=⟨7,t,A,ks.length,c,l,tp⟩) rfl (.tmp 0) rfl rfl ?_;intro w1 b1 e1 p1 l1 z1;have P1:=hid p1;have L1:=hid l1;clear e1 p1 l1 z1))
 have K1:=hid (K1.out.below L1.out)
 have HR:=hid (show ks.length≤c∧c≤9223372036854775807 from⟨hr1,hr2⟩)
 clear hr1 hr2
 go_loopg [3,4] ks.length (fun gk s3 s4 wr=> ∃i:Nat,s3= .int .i64 (gcnt 7 ks i:Nat)∧s4= .int .i64 i∧Hid (i+gk=ks.length)∧Hid (PBox wr b1 ⟨7,t,A,ks.length,c,l,tp⟩)∧Hid (Kids wr A c raws ks)∧Hid (Below w.heap.size w wr))
 case atStart=>exact⟨0,rfl,rfl,by unfold Hid;omega,P1,K1,L1⟩
 case round=>
  obtain⟨i,rfl,rfl,hig,P1,K1,HB⟩:=hrel
  have a0:=P1.out.c0
  have a2:=P1.out.c2
  simp only at a0 a2
  have hn1:=HR.out.1
  have hn2:=HR.out.2
  by_cases hi:i<ks.length
  ·have ti:(i:Int)<(ks.length:Int):=by omega
   obtain⟨g1,o1,rfl,C1⟩:=K1.out.at_ (Nat.lt_of_le_of_lt (Nat.zero_le _) hi)
   obtain⟨hr1,q1⟩:=K1.out.kid hi
   have E1:=hid (C1 i hr1)
   have HC:=hid (HI.out i hi wr _ q1)
   have HL:=hid (gcnt_le 7 ks i)
   have HI2:=hid hi
   clear C1 q1
   obtain⟨n,hn⟩: ∃n,gcnt 7 ks i=n:=⟨_,rfl⟩
   obtain⟨m,hm⟩: ∃m,gsize (ks[i]'hi)=m:=⟨_,rfl⟩
   have HX:=hid (gcnt_7 hi hn hm)
   rw[hn]at HL ⊢
   have HS:=hid (show m≤4001 from hm▸gsize_le _)
   have HM:=hid hm
   clear hn hm
   go_wp2_with (first|(refine load_at rfl (.tmp 27) rfl rfl (r:=raws[i]) E1.out ?_))
   refine HC.out.mono ?_
   rintro e w2 ⟨rfl,l2⟩
   rw[HM.out]
   have P2:=hid (P1.out.below l2)
   have K2:=hid (K1.out.below l2)
   have B2:=hid (HB.out.trans (l2.mono HB.out.size))
   have a0:=P2.out.c0
   have a2:=P2.out.c2
   simp only at a0 a2
   have hw:wrap64 ((n:Int)+(m:Int))=((n+m:Nat):Int):=by have:=HS.out;have:=HL.out;unfold wrap64;omega
   have hwi:wrap64 ((i:Int)+1)=((i+1:Nat):Int):=by unfold wrap64;omega
   have hmin:min ((n+m:Nat):Int) 4001=((gcnt 7 ks (i+1):Nat):Int):=by rw[HX.out];omega
   have HWI:=hid hwi
   clear l2 HC E1
   cases gk with
   |zero=>exact absurd hig.out (by have:=HI2.out;omega)
   |succ g=>
    by_cases h0:0<i
    ·have t0:(0:Int)<(i:Int):=by omega
     go_wp2_with fail
     go_roundg g
     case measure=>omega
     case rel=>exact⟨i+1,by first|rfl|exact congrArg (Value.int .i64) hmin,by first|rfl|exact congrArg (Value.int .i64) HWI.out,by have:=hig.out;unfold Hid;omega,P2,K2,B2⟩
    ·have t0: ¬(0:Int)<(i:Int):=by omega
     go_wp2_with fail
     go_roundg g
     case measure=>omega
     case rel=>exact⟨i+1,by first|rfl|exact congrArg (Value.int .i64) hmin,by first|rfl|exact congrArg (Value.int .i64) HWI.out,by have:=hig.out;unfold Hid;omega,P2,K2,B2⟩
  ·have ti: ¬(i:Int)<(ks.length:Int):=by omega
   have hie:i=ks.length:=by have:=hig.out;omega
   have hle:=gcnt_le 7 ks i
   have HE:=hid hie
   have hmin:min ((gcnt 7 ks i:Nat):Int) 4001=((gcnt 7 ks i:Nat):Int):=by omega
   clear hle hie
   go_wp2_with fail
   go_ret
   exact⟨by rw[←HE.out];first|rfl|rw[hmin],HB.out⟩
theorem rgsize_alt {t:ByteArray} {l tp:Int} {ks:List Piece} (IH: ∀i (hi:i<ks.length) (w:World) (r:Raw),PLow w r ks[i]→Calls Tryz.prog 28 #[.agg (rawA r)] w (GTo w ks[i])) {w:World} {r:Raw} (h:PLow w r (.mk 8 t ks l tp)):Calls Tryz.prog 28 #[.agg (rawA r)] w (GTo w (.mk 8 t ks l tp)):=by
 unfold GTo
 rw[gsize_many (.inr rfl) t ks l tp]
 obtain⟨A,c,raws,rfl,k1⟩:=h.parts
 have HI:=hid IH
 have hr1:=k1.room.1
 have hr2:=k1.room.2
 have K1:=hid k1
 clear h k1 IH
 go_enter Tryz.func28,Tryz.ntmps28
 go_wp2_with (first
  |(refine box_arg (r:=⟨8,t,A,ks.length,c,l,tp⟩) rfl (.tmp 0) rfl rfl ?_;intro w1 b1 e1 p1 l1 z1;have P1:=hid p1;have L1:=hid l1;clear e1 p1 l1 z1))
 have K1:=hid (K1.out.below L1.out)
 have HR:=hid (show ks.length≤c∧c≤9223372036854775807 from⟨hr1,hr2⟩)
 clear hr1 hr2
 go_loopg [3,4] ks.length (fun gk s3 s4 wr=> ∃i:Nat,s3= .int .i64 (gcnt 8 ks i:Nat)∧s4= .int .i64 i∧Hid (i+gk=ks.length)∧Hid (PBox wr b1 ⟨8,t,A,ks.length,c,l,tp⟩)∧Hid (Kids wr A c raws ks)∧Hid (Below w.heap.size w wr))
 case atStart=>exact⟨0,rfl,rfl,by unfold Hid;omega,P1,K1,L1⟩
 case round=>
  obtain⟨i,rfl,rfl,hig,P1,K1,HB⟩:=hrel
  have a0:=P1.out.c0
  have a2:=P1.out.c2
  simp only at a0 a2
  have hn1:=HR.out.1
  have hn2:=HR.out.2
  by_cases hi:i<ks.length
  ·have ti:(i:Int)<(ks.length:Int):=by omega
   obtain⟨g1,o1,rfl,C1⟩:=K1.out.at_ (Nat.lt_of_le_of_lt (Nat.zero_le _) hi)
   obtain⟨hr1,q1⟩:=K1.out.kid hi
   have E1:=hid (C1 i hr1)
   have HC:=hid (HI.out i hi wr _ q1)
   have HL:=hid (gcnt_le 8 ks i)
   have HI2:=hid hi
   clear C1 q1
   obtain⟨n,hn⟩: ∃n,gcnt 8 ks i=n:=⟨_,rfl⟩
   obtain⟨m,hm⟩: ∃m,gsize (ks[i]'hi)=m:=⟨_,rfl⟩
   have HX:=hid (gcnt_8 hi hn hm)
   rw[hn]at HL ⊢
   have HS:=hid (show m≤4001 from hm▸gsize_le _)
   have HM:=hid hm
   clear hn hm
   go_wp2_with (first|(refine load_at rfl (.tmp 27) rfl rfl (r:=raws[i]) E1.out ?_))
   refine HC.out.mono ?_
   rintro e w2 ⟨rfl,l2⟩
   rw[HM.out]
   have P2:=hid (P1.out.below l2)
   have K2:=hid (K1.out.below l2)
   have B2:=hid (HB.out.trans (l2.mono HB.out.size))
   have a0:=P2.out.c0
   have a2:=P2.out.c2
   simp only at a0 a2
   have hw:wrap64 ((n:Int)+(m:Int))=((n+m:Nat):Int):=by have:=HS.out;have:=HL.out;unfold wrap64;omega
   have hwi:wrap64 ((i:Int)+1)=((i+1:Nat):Int):=by unfold wrap64;omega
   have HWI:=hid hwi
   clear l2 HC E1
   cases gk with
   |zero=>exact absurd hig.out (by have:=HI2.out;omega)
   |succ g=>
    by_cases h0:0<i
    ·have t0:(0:Int)<(i:Int):=by omega
     have hw3:wrap64 ((n:Int)+(m:Int)+2)=((n+m+2:Nat):Int):=by have:=HS.out;have:=HL.out;unfold wrap64;omega
     have hmin:min (wrap64 ((n:Int)+(m:Int)+2)) 4001=((gcnt 8 ks (i+1):Nat):Int):=by rw[hw3,HX.out,if_pos h0];omega
     clear hw3
     go_wp2_with fail
     go_roundg g
     case measure=>omega
     case rel=>exact⟨i+1,by first|rfl|exact congrArg (Value.int .i64) hmin,by first|rfl|exact congrArg (Value.int .i64) HWI.out,by have:=hig.out;unfold Hid;omega,P2,K2,B2⟩
    ·have t0: ¬(0:Int)<(i:Int):=by omega
     have hmin:min ((n+m:Nat):Int) 4001=((gcnt 8 ks (i+1):Nat):Int):=by rw[HX.out,if_neg h0];omega
     go_wp2_with fail
     go_roundg g
     case measure=>omega
     case rel=>exact⟨i+1,by first|rfl|exact congrArg (Value.int .i64) hmin,by first|rfl|exact congrArg (Value.int .i64) HWI.out,by have:=hig.out;unfold Hid;omega,P2,K2,B2⟩
  ·have ti: ¬(i:Int)<(ks.length:Int):=by omega
   have hie:i=ks.length:=by have:=hig.out;omega
   have hle:=gcnt_le 8 ks i
   have HE:=hid hie
   have hmin:min ((gcnt 8 ks i:Nat):Int) 4001=((gcnt 8 ks i:Nat):Int):=by omega
   clear hle hie
   go_wp2_with fail
   go_ret
   exact⟨by rw[←HE.out];first|rfl|rw[hmin],HB.out⟩
theorem rgsize_ever {p:Piece} {M:Nat} (hM:M≤100) (IH: ∀(w:World) (r:Raw),PLow w r p→Calls Tryz.prog 28 #[.agg (rawA r)] w (GTo w p)) {w:World} {r:Raw} (h:PLow w r (.mk 9 ⟨#[]⟩ [p] M (-1))):Calls Tryz.prog 28 #[.agg (rawA r)] w (GTo w (.mk 9 ⟨#[]⟩ [p] M (-1))):=by
 unfold GTo
 rw[gsize_rep _ _ _ (oft_of hM (.inl rfl))]
 obtain⟨A,c,raws,rfl,k1⟩:=h.parts
 have hr:1≤c∧c≤9223372036854775807:=k1.room
 obtain⟨g1,o1,rfl,C1⟩:=k1.at_ (Nat.lt_succ_self 0)
 obtain⟨hr1,q1⟩:=k1.kid (i:=0) (Nat.lt_succ_self 0)
 have HG:=hid (k1.2.1 _ rfl (Nat.lt_of_le_of_lt (Nat.zero_le _) hr1))
 have E1:=C1 0 hr1
 obtain⟨rk,hrk⟩: ∃rk,raws[0]=rk:=⟨_,rfl⟩
 rw[hrk]at E1 q1
 have Q1:Hid (PLow w rk p):=q1
 rw[show o1+0*5=o1 by omega]at E1
 have E1:=hid E1
 have HI:=hid (fun(w:World) (h:PLow w rk p)=>IH w rk h)
 have HO:=hid (fun w=>roften_any (m:=(M:Int)) (t:=(-1)) ⟨by omega,by omega⟩ (A:=some ⟨g1,o1,none⟩) hr w)
 have hS:=gsize_le p
 obtain⟨K,hK⟩: ∃K,gsize p=K:=⟨_,rfl⟩
 have HK:=hid hK
 rw[hK]at hS ⊢
 have hMS:=mul_small (a:=M) (b:=K) (by omega) (by omega)
 obtain⟨P,hP⟩: ∃P,M*K=P:=⟨_,rfl⟩
 rw[hP]at hMS
 have hw1:Hid (wrap64 ((M:Int)*(K:Int))=(P:Int)):=wrap_nat (by rw[←Int.natCast_mul,hP]) (Nat.le_trans hMS (by decide))
 replace hP:=hid hP
 obtain⟨P2,hP2⟩: ∃P2,P+K=P2:=⟨_,rfl⟩
 have hw2:Hid (wrap64 ((P:Int)+(K:Int))=(P2:Int)):=wrap_nat (by rw[←hP2,Int.natCast_add]) (by omega)
 obtain⟨P3,hP3⟩: ∃P3,P2+2=P3:=⟨_,rfl⟩
 have hw3:Hid (wrap64 ((P2:Int)+2)=(P3:Int)):=wrap_nat (by rw[←hP3,Int.natCast_add];rfl) (by omega)
 have hmin:=min_nat P3
 have HE:Hid (min 4001 (if(-1:Int)= -1 then M*K+K+2 else M*K+(-1-(M:Int)).toNat*(K+1))=min 4001 P3):=by
  unfold Hid
  rw[if_pos rfl,hP.out,hP2,hP3]
 rw[HE.out]
 clear HE
 have hc1:=hr.1
 have hc2:=hr.2
 have HMIN:=hid hmin
 clear hM
 clear h k1 C1 q1 hrk hr1 IH hK hS hMS hP2 hP3 hr hmin
 go_enter Tryz.func28,Tryz.ntmps28
 go_wp2_with (first
  |(refine box_arg (r:=⟨9,⟨#[]⟩,some ⟨g1,o1,none⟩,1,c,(M:Int),(-1)⟩) rfl (.tmp 0) rfl rfl ?_;intro w1 b1 e1 p1 l1 z1;have P1:=hid p1;have L1:=hid l1;have a0:=p1.c0;have a1:=p1.c1;have a2:=p1.c2;have a3:=p1.c3;have a4:=p1.c4;clear e1 p1 l1 z1;simp only at a0 a1 a2 a3 a4))
 go_loopg [3,4] 1 (fun gk s3 s4 wr=>s3= .int .i64 0∧s4= .int .i64 0∧wr=w1)
 case atStart=>exact⟨rfl,rfl,rfl⟩
 case round=>
  obtain⟨rfl,rfl,rfl⟩:=hrel
  go_wp2_with fail
  refine(HO.out _).mono ?_
  rintro e w2 ⟨rfl,l2⟩
  have PB2:=hid (P1.out.below l2)
  have L2:=hid (L1.out.trans (l2.mono L1.out.size))
  have E2:Hid (∀j,j<5→w2.cell? ⟨g1,o1+j,none⟩=(rawC rk)[j]?):=fun j hj=>(cell_block (L2.out.block g1 HG.out)).trans (E1.out j hj)
  have Q2:=hid (Q1.out.below L2.out)
  have a0:=PB2.out.c0
  have a2:=PB2.out.c2
  simp only at a0 a2
  clear l2
  go_wp2_with (first|(refine load_at rfl (.tmp 73) rfl rfl (r:=rk) E2.out ?_))
  refine(HI.out _ Q2.out).mono ?_
  rintro e w3 ⟨rfl,l3⟩
  rw[HK.out]
  have PB3:=hid (PB2.out.below l3)
  have L3:=hid (L2.out.trans (l3.mono L2.out.size))
  have a3:=PB3.out.c3
  have a4:=PB3.out.c4
  simp only at a3 a4
  clear l3
  replace hw1:=hw1.out
  replace hw2:=hw2.out
  replace hw3:=hw3.out
  go_wp2_with fail
  go_ret
  refine⟨?_,L3.out⟩
  first|rfl|exact congrArg (fun x=>Ending.returned (Value.int .i64 x)) HMIN.out
theorem rgsize_upto {p:Piece} {M T:Nat} (hM:M≤100) (hT:M≤T∧T≤100) (IH: ∀(w:World) (r:Raw),PLow w r p→Calls Tryz.prog 28 #[.agg (rawA r)] w (GTo w p)) {w:World} {r:Raw} (h:PLow w r (.mk 9 ⟨#[]⟩ [p] M (T:Int))):Calls Tryz.prog 28 #[.agg (rawA r)] w (GTo w (.mk 9 ⟨#[]⟩ [p] M (T:Int))):=by
 unfold GTo
 rw[gsize_rep _ _ _ (oft_of hM (.inr ⟨by omega,by omega⟩))]
 obtain⟨A,c,raws,rfl,k1⟩:=h.parts
 have hr:1≤c∧c≤9223372036854775807:=k1.room
 obtain⟨g1,o1,rfl,C1⟩:=k1.at_ (Nat.lt_succ_self 0)
 obtain⟨hr1,q1⟩:=k1.kid (i:=0) (Nat.lt_succ_self 0)
 have HG:=hid (k1.2.1 _ rfl (Nat.lt_of_le_of_lt (Nat.zero_le _) hr1))
 have E1:=C1 0 hr1
 obtain⟨rk,hrk⟩: ∃rk,raws[0]=rk:=⟨_,rfl⟩
 rw[hrk]at E1 q1
 have Q1:Hid (PLow w rk p):=q1
 rw[show o1+0*5=o1 by omega]at E1
 have E1:=hid E1
 have HI:=hid (fun(w:World) (h:PLow w rk p)=>IH w rk h)
 have HO:=hid (fun w=>roften_any (m:=(M:Int)) (t:=(T:Int)) ⟨by omega,by omega⟩ (A:=some ⟨g1,o1,none⟩) hr w)
 have hS:=gsize_le p
 obtain⟨K,hK⟩: ∃K,gsize p=K:=⟨_,rfl⟩
 have HK:=hid hK
 rw[hK]at hS ⊢
 have hMS:=mul_small (a:=M) (b:=K) (by omega) (by omega)
 obtain⟨P,hP⟩: ∃P,M*K=P:=⟨_,rfl⟩
 rw[hP]at hMS
 have hw1:Hid (wrap64 ((M:Int)*(K:Int))=(P:Int)):=wrap_nat (by rw[←Int.natCast_mul,hP]) (Nat.le_trans hMS (by decide))
 replace hP:=hid hP
 obtain⟨P2,hP2⟩: ∃P2,P+K=P2:=⟨_,rfl⟩
 have hw2:Hid (wrap64 ((P:Int)+(K:Int))=(P2:Int)):=wrap_nat (by rw[←hP2,Int.natCast_add]) (by omega)
 obtain⟨P3,hP3⟩: ∃P3,P2+2=P3:=⟨_,rfl⟩
 have hw3:Hid (wrap64 ((P2:Int)+2)=(P3:Int)):=wrap_nat (by rw[←hP3,Int.natCast_add];rfl) (by omega)
 obtain⟨D,hD⟩: ∃D,T-M=D:=⟨_,rfl⟩
 have hw4:Hid (wrap64 ((T:Int)-(M:Int))=(D:Int)):=wrap_nat (by omega) (by omega)
 obtain⟨K2,hK2⟩: ∃K2,K+1=K2:=⟨_,rfl⟩
 have hw5:Hid (wrap64 ((K:Int)+1)=(K2:Int)):=wrap_nat (by omega) (by omega)
 have hDS:=mul_small (a:=D) (b:=K2) (by omega) (by omega)
 obtain⟨G,hG⟩: ∃G,D*K2=G:=⟨_,rfl⟩
 rw[hG]at hDS
 have hw6:Hid (wrap64 ((D:Int)*(K2:Int))=(G:Int)):=wrap_nat (by rw[←Int.natCast_mul,hG]) (Nat.le_trans hDS (by decide))
 replace hG:=hid hG
 obtain⟨N,hN⟩: ∃N,P+G=N:=⟨_,rfl⟩
 have hw7:Hid (wrap64 ((P:Int)+(G:Int))=(N:Int)):=wrap_nat (by rw[←hN,Int.natCast_add]) (by omega)
 have hmin:=min_nat N
 have HE:Hid (min 4001 (if(T:Int)= -1 then M*K+K+2 else M*K+((T:Int)-(M:Int)).toNat*(K+1))=min 4001 N):=by
  unfold Hid
  rw[if_neg (by omega),show((T:Int)-(M:Int)).toNat=D by omega,hP.out,hK2,hG.out,hN]
 have x0:(0:Int)≤(T:Int):=by omega
 rw[HE.out]
 clear HE
 have hc1:=hr.1
 have hc2:=hr.2
 have HMIN:=hid hmin
 replace x0:=hid x0
 clear hM hT
 clear h k1 C1 q1 hrk hr1 IH hK hS hMS hP2 hP3 hr hmin hD hK2 hDS hN
 go_enter Tryz.func28,Tryz.ntmps28
 go_wp2_with (first
  |(refine box_arg (r:=⟨9,⟨#[]⟩,some ⟨g1,o1,none⟩,1,c,(M:Int),(T:Int)⟩) rfl (.tmp 0) rfl rfl ?_;intro w1 b1 e1 p1 l1 z1;have P1:=hid p1;have L1:=hid l1;have a0:=p1.c0;have a1:=p1.c1;have a2:=p1.c2;have a3:=p1.c3;have a4:=p1.c4;clear e1 p1 l1 z1;simp only at a0 a1 a2 a3 a4))
 go_loopg [3,4] 1 (fun gk s3 s4 wr=>s3= .int .i64 0∧s4= .int .i64 0∧wr=w1)
 case atStart=>exact⟨rfl,rfl,rfl⟩
 case round=>
  obtain⟨rfl,rfl,rfl⟩:=hrel
  go_wp2_with fail
  refine(HO.out _).mono ?_
  rintro e w2 ⟨rfl,l2⟩
  have PB2:=hid (P1.out.below l2)
  have L2:=hid (L1.out.trans (l2.mono L1.out.size))
  have E2:Hid (∀j,j<5→w2.cell? ⟨g1,o1+j,none⟩=(rawC rk)[j]?):=fun j hj=>(cell_block (L2.out.block g1 HG.out)).trans (E1.out j hj)
  have Q2:=hid (Q1.out.below L2.out)
  have a0:=PB2.out.c0
  have a2:=PB2.out.c2
  simp only at a0 a2
  clear l2
  go_wp2_with (first|(refine load_at rfl (.tmp 73) rfl rfl (r:=rk) E2.out ?_))
  refine(HI.out _ Q2.out).mono ?_
  rintro e w3 ⟨rfl,l3⟩
  rw[HK.out]
  have PB3:=hid (PB2.out.below l3)
  have L3:=hid (L2.out.trans (l3.mono L2.out.size))
  have a3:=PB3.out.c3
  have a4:=PB3.out.c4
  simp only at a3 a4
  clear l3
  replace hw1:=hw1.out
  replace hw2:=hw2.out
  replace hw3:=hw3.out
  replace hw4:=hw4.out
  replace hw5:=hw5.out
  replace hw6:=hw6.out
  replace hw7:=hw7.out
  replace x0:=x0.out
  go_wp2_with fail
  go_ret
  refine⟨?_,L3.out⟩
  first|rfl|exact congrArg (fun x=>Ending.returned (Value.int .i64 x)) HMIN.out
theorem rgsize_any (p:Piece): ∀(w:World) (r:Raw),PLow w r p→Calls Tryz.prog 28 #[.agg (rawA r)] w (GTo w p):=by
 induction p using M15.ind with
 |h k t ks m tp ih=>
  intro w r h
  have IH: ∀i (hi:i<ks.length) (w:World) (r:Raw),PLow w r ks[i]→Calls Tryz.prog 28 #[.agg (rawA r)] w (GTo w ks[i]):=fun i hi=>ih ks[i] (List.getElem_mem hi)
  by_cases h1:1≤k∧k≤6
  ·exact rgsize_leaf h1 h
  by_cases h7:k=7
  ·subst h7;exact rgsize_seq IH h
  by_cases h8:k=8
  ·subst h8;exact rgsize_alt IH h
  by_cases h9:k=9
  ·subst h9
   cases ho:oft t ks.length m tp with
   |false=>exact rgsize_not ho h
   |true=>
    obtain⟨a1,a2,a3,a4⟩:=oft_is ho
    obtain⟨p,rfl⟩: ∃p,ks= [p]:=List.length_eq_one_iff.1 a1
    have ht:t=⟨#[]⟩:=no_of a2
    subst ht
    obtain⟨M,rfl⟩: ∃M:Nat,m=(M:Int):=⟨m.toNat,by omega⟩
    have IHp:=ih p (by simp)
    by_cases q:tp= -1
    ·subst q;exact rgsize_ever (by omega) IHp h
    ·obtain⟨T,rfl⟩: ∃T:Nat,tp=(T:Int):=⟨tp.toNat,by omega⟩
     exact rgsize_upto (by omega) ⟨by omega,by omega⟩ IHp h
  exact rgsize_other (by omega) h
end W15
namespace W15
open Strs Recs M15
open M14 (Piece size sizes)
open W14 (Raw Raws rawA rawC PAt PAll PBox PLow box_arg load_piece load_at cell_block)
open Kit (below_draws on)
structure St (w0 w:World) (b1:Nat) (r:Raw) (vo:Value) (L:List Inst):Prop where
 own:w.ownsRow w0.heap.size 106 4 vo L.length (L.flatMap insC)
 box:PBox w b1 r
 low:Below w0.heap.size w0 w
section
variable {w0 w w':World} {b1:Nat} {r:Raw} {vo v':Value} {L M:List Inst}
theorem St.below (h:St w0 w b1 r vo L) (hb:Below w.heap.size w w'):St w0 w' b1 r vo L:=
 ⟨own_block_same h.own fun k hk=>hb.block k (h.own.lt k hk).2,h.box.below hb,h.low.trans (hb.mono h.low.size)⟩
theorem pbox_put {base c:Nat} (hp:PBox w c r) (h:w.ownsRow base 106 4 vo L.length (L.flatMap insC)) (hg:Put vo v' w w'):PBox w' c r:=by
 obtain⟨-,-,-,-,g5⟩:=hg.grown
 refine(g5 c hp.lt fun q=> ?_).trans hp
 obtain⟨cur,h1⟩:=own_type h q.symm
 have h2:w.heap[c]? =_:=hp
 rw[h1]at h2
 injection h2 with h2
 injection h2 with _ h2
 exact absurd h2 (by decide)
theorem St.put (h:St w0 w b1 r vo L) (ho:w'.ownsRow w0.heap.size 106 4 v' (L++M).length ((L++M).flatMap insC)) (hp:Put vo v' w w'):St w0 w' b1 r v' (L++M):=by
 have g:=hp.grown
 refine⟨ho,pbox_put h.box h.own hp,h.low.trans ⟨g.os,g.tape,g.output,g.size,fun k hk=>g.block k (Nat.lt_of_lt_of_le hk h.low.size) fun q=> ?_⟩⟩
 have:=(h.own.lt k q.symm).1
 omega
theorem St.form (h:St w0 w b1 r vo L): ∃A c,vo= .slice A L.length c∧L.length≤c∧c≤9223372036854775807:=by
 obtain⟨A,c,e,h1,h2⟩:=(Recs.of_own insC_len rfl h.own).form
 unfold maxLen at h2
 exact⟨A,c,e,h1,h2⟩
theorem St.start (hb:PBox w b1 r) (hl:Below w0.heap.size w0 w):St w0 w b1 r (.slice none 0 0) []:=⟨World.ownsRow_nil _ _ _ _,hb,hl⟩
end
end W15
namespace W15
open Strs Recs M15
open M14 (Piece size sizes)
open W14 (Raw Raws rawA rawC PAt PAll PBox PLow box_arg load_piece load_at cell_block)
open Kit (below_draws on)
end W15
namespace W16
open Strs Recs Range
open M15 (Inst rightP okI)
open M16 (Text steps put puts go goOn eps ins)
open W15 (insC insA insC_len Prg IBox zeroI zero_ins ins_size insA_one run_load_ins own_type own_block_same)
open W14 (below_new own_same own_form cell_block two_new)
open Row256 (Beside)
open Kit (below_draws on)
theorem build_mark (a b:Int) (w:World):(Instr.build 132 #[(0,.int .i64 a),(1,.int .i64 b)]).run Tryz.prog w= .ok (.agg #[.int .i64 a,.int .i64 b]) w:=by kernel_rfl
section
variable {o:Oper} {a:Act} {w:World} {Q:Exit→Act→World→Prop} {K:Act→World→Prop}
theorem wp_alloc_ins (ho:o.op= .alloc 106)
    (h: ∀w' b,w.heap.size=b→IBox w' b zeroI→Below w.heap.size w w'→w'.heap.size=w.heap.size+1→K (a.put o.dst (.pointer (some ⟨b,0,none⟩))) w'):o.wp Tryz.prog a w K Q:=by
 unfold Oper.wp execOp
 simp only[ho,Instr.alloc,newVar,newRow,zero_ins,Sem.run_bind,Sem.run_pure,Result.andThen_ok]
 exact h _ _ rfl (heap_alloc_new w _) (below_new w _) (World.size_alloc w _)
theorem wp_store_ins (x y:Operand) (ho:o.op= .store 106 x y) {b:Nat} {r old:Inst} (hx:a.eval x= .pointer (some ⟨b,0,none⟩)) (hy:a.eval y= .agg (insA r)) (hr:IBox w b old)
    (h: ∀w',IBox w' b r→Beside b w w'→w'.heap.size=w.heap.size→K (a.put o.dst undef) w'):o.wp Tryz.prog a w K Q:=
 wp_store_row 106 x y ho b (insA r) hx hy 106 (insA old) hr (ins_size r) rfl (insA_one r)
  (h _ (setRow_heap w b _ _ _ _ hr) ⟨rfl,rfl,rfl,by rw[setRow_size];exact Nat.le_refl _,fun k _ e=>setRow_other w b k _ e⟩ (setRow_size _ _ _))
end
theorem seen_below {w w':World} {b4 r gm gl:Nat} {a4 ar am al:Nat} {v1 v2 v3:Value} {x:Inst} (h:w.cell? ⟨b4,a4,none⟩=some v1∧w.cell? ⟨r,ar,none⟩=some v2∧w.cell? ⟨gm,am,none⟩=some v3∧(∀j,j<4→w.cell? ⟨gl,al+j,none⟩=(insC x)[j]?)) (hb:Below w.heap.size w w'):
    w'.cell? ⟨b4,a4,none⟩=some v1∧w'.cell? ⟨r,ar,none⟩=some v2∧w'.cell? ⟨gm,am,none⟩=some v3∧(∀j,j<4→w'.cell? ⟨gl,al+j,none⟩=(insC x)[j]?):=by
 obtain⟨h1,h2,h3,h4⟩:=h
 refine⟨(hb.cell (World.block_lt_of_cell? w _ h1)).trans h1,(hb.cell (World.block_lt_of_cell? w _ h2)).trans h2,(hb.cell (World.block_lt_of_cell? w _ h3)).trans h3,fun j hj=> ?_⟩
 have h5:=h4 j hj
 have h6: ∃u,(insC x)[j]? =some u:=⟨_,List.getElem?_eq_getElem (by rw[insC_len];exact hj)⟩
 obtain⟨u,hu⟩:=h6
 rw[hu]at h5 ⊢
 exact(hb.cell (World.block_lt_of_cell? w _ h5)).trans h5
def RBox (w:World) (b:Nat) (lv:Value) (s:ByteArray):Prop:=w.heap[b]? =some (.cells #[lv,.string s] 124 (0,0))
section
variable {w w':World} {b:Nat} {lv:Value} {s:ByteArray}
theorem RBox.lt (h:RBox w b lv s):b<w.heap.size:=(Array.getElem?_eq_some_iff.1 h).1
theorem RBox.same (h:RBox w b lv s) (hk:w'.heap[b]? =w.heap[b]?):RBox w' b lv s:=hk.trans h
theorem RBox.below (h:RBox w b lv s) (k:Below w.heap.size w w'):RBox w' b lv s:=h.same (k.block b h.lt)
theorem RBox.c0 (h:RBox w b lv s):w.cell? ⟨b,0,none⟩=some lv:=cell_of_row w b 0 _ _ _ h
theorem RBox.c1 (h:RBox w b lv s):w.cell? ⟨b,1,none⟩=some (.string s):=cell_of_row w b 1 _ _ _ h
end
section
variable {ops:Array Oper} {rest:List Oper} {o:Oper} {a:Act} {w:World} {Q:Exit→Act→World→Prop}
theorem box_run (hgd:o.guard=none) (x:Operand) (ho:o.op= .box 124 x) {lv:Value} {s:ByteArray} (hx:a.eval x= .agg #[lv,.string s])
    (h: ∀w' b,w.heap.size=b→RBox w' b lv s→Below w.heap.size w w'→w'.heap.size=w.heap.size+1→wpList Tryz.prog ops Q rest (a.put o.dst (.pointer (some ⟨b,0,none⟩))) w'):wpList Tryz.prog ops Q (o::rest) a w:=
 wpList_plain hgd fun _ hK=>by
  unfold Oper.wp execOp
  simp only[ho,hx,Instr.box,newVar,newRow,Sem.run_bind,Sem.run_pure]
  exact hK _ _ (h _ _ rfl (heap_alloc_new w _) (below_new w _) (World.size_alloc w _))
end
def Fit (n:Nat) (M:List M16.Mark):Prop:=(steps M).Nodup∧ ∀x∈M,x.1<n
theorem Fit.len {n:Nat} {M:List M16.Mark} (h:Fit n M):M.length≤n:=by
 have:=M16.nodup_le n h.1 (fun x hx=>by
  obtain⟨y,hy,rfl⟩:=List.mem_map.1 hx
  exact h.2 y hy)
 simpa [steps]using this
theorem Fit.put {n:Nat} {M:List M16.Mark} {m:M16.Mark} (h:Fit n M) (hm:m.1<n):Fit n (put M m):=
 ⟨M16.put_nodup h.1,fun x hx=>by
  rcases M16.put_mem hx with h1|rfl
  ·exact h.2 x h1
  ·exact hm⟩
theorem go_next {L:List Inst} {n q b f i:Nat} {M:List M16.Mark} {m:M16.Mark} (h:M[i]? =some m):go L n q b (f+1) i M=go L n q b f (i+1) (puts M (eps (ins L m.1) n q) b):=by
 rw[go,h]
theorem go_stop {L:List Inst} {n q b f i:Nat} {M:List M16.Mark} (h:M.length≤i):go L n q b f i M=M:=by
 cases f with
 |zero=>rfl
 |succ f=>rw[go,List.getElem?_eq_none h]
set_option maxHeartbeats 16000000 in
theorem goOn_any {base:Nat} {w:World} {r g:Nat} {v lv:Value} {M:List M16.Mark} {L:List Inst} (hL:Prg base w lv L) (hR:rightP L=true) (hn:L.length≤900000) (h:RowAt base w r v g L.length M) (hK:Fit L.length M) (s:ByteArray) (m:M16.Mark) (hm:m.1<L.length) (q:Nat) (hq:q≤4611686018427387904):
    Calls Tryz.prog 114 #[.agg #[lv,.string s],.pointer (some ⟨r,0,none⟩),.agg (markA m),.int .i64 q] w fun e w'=>e= .returned (.tuple #[])∧ ∃v',RowAt base w' r v' g L.length (goOn L s.size q M m)∧Grew r g v v' w w':=by
 obtain⟨n,hnl⟩: ∃n,L.length=n:=⟨_,rfl⟩
 have HXO:=hid (fun(i:Nat) (hi:i<L.length)=>M16.ins_ok hR hi)
 obtain⟨gl,ol,cl,rfl,hgl,hlc,hlm⟩: ∃gl ol cl,lv= .slice (some ⟨gl,ol,none⟩) n cl∧gl<base∧n≤cl∧cl≤maxLen:=by
  obtain⟨A,cl,rfl,h1,h2⟩:=hL.form
  obtain⟨b,o,-,rfl,hb,-⟩:=hL.flat_ insC_len (by decide) (k:=0) (by omega)
  exact⟨b,o,cl,by rw[hnl],hb,by omega,h2⟩
 have HLC:=hid (fun(w':World) (hb:Below base w w') (k:Nat) (hk:k<n)=>by
  obtain⟨b,o,hl,e,-,hc⟩:=(hL.below hb).flat_ insC_len (by decide) (k:=k) hk
  cases e
  exact(⟨hl,hc⟩: ∃hl:k<L.length,∀j,j<4→w'.cell? ⟨gl,ol+k*4+j,none⟩=(insC L[k])[j]?))
 have HNL:Hid (L.length=n):=hnl
 rw[hnl]at h hK hm ⊢
 have H:=hid h
 have HK:=hid hK
 have HM:=hid hm
 have HN2:Hid (n<1000000):=by unfold Hid;omega
 obtain⟨A0,c0',rfl,hM1,hM2⟩:=h.form
 unfold maxLen at hM2 hlm
 have HLB:=hid (show gl<base∧n≤cl∧cl≤9223372036854775807 from⟨hgl,hlc,hlm⟩)
 have ha0:=h.c0
 have HMC:=hid (show M.length≤c0'∧c0'≤9223372036854775807 from⟨hM1,hM2⟩)
 obtain⟨R,hRR⟩: ∃R,goOn L s.size q M m=R:=⟨_,rfl⟩
 have HR:Hid (go L s.size q m.2 n M.length (put M m)=R):=by unfold Hid;rw[←hRR,goOn,HNL.out]
 rw[hRR]
 clear hL hR hn h hK hm hnl hgl hlc hlm hRR
 go_enter Tryz.func114,Tryz.ntmps114
 go_wp2_with (first
  |(refine box_run (lv:= .slice (some ⟨gl,ol,none⟩) n cl) (s:=s) rfl (.tmp 0) rfl rfl ?_;intro w1 b4 e1 p1 l1 z1;have Q4:=hid p1;have L1:=hid l1;have E4:=hid e1;clear e1 p1 l1 z1)
  |(refine box_mark (r:=m) rfl (.tmp 2) rfl rfl ?_;intro w2 b6 e1 p1 l1 z1;have B60:=hid p1;have L2:=hid (on L1.out l1);have B40:=hid (Q4.out.below l1);have E6:Hid (w.heap.size≤b6):=(by unfold Hid;have:=L1.out.size;omega);have H2:=hid (H.out.below L2.out);have a0:=H2.out.c0;clear e1 p1 l1 z1 ha0)
  |(refine load_mbox (r:=m) rfl (.tmp 6) rfl rfl B60.out ?_))
 have HBX:Hid (∀v1 w',Grew r g (.slice A0 M.length c0') v1 w2 w'→ ¬RF r g v1 b4∧ ¬RF r g v1 b6):=fun v1 w' hg=>by
  have h1:=H.out.lt
  have h2:=H.out.bits.lt
  have h3:=B40.out.lt
  have h4:=B60.out.lt
  have h5:=E4.out
  have h6:=E6.out
  refine⟨?_,?_⟩
  ·rintro(e|e|e)
   ·omega
   ·omega
   ·rcases hg.own b4 e with e2|e2
    ·have:=(H.out.own.lt b4 e2).2;omega
    ·omega
  ·rintro(e|e|e)
   ·omega
   ·omega
   ·rcases hg.own b6 e with e2|e2
    ·have:=(H.out.own.lt b6 e2).2;omega
    ·omega
 refine(put_any H2.out m HM.out (by have:=HK.out.len;have:=HN2.out;omega)).mono ?_
 rintro e w3 ⟨rfl,v3,r3,g3⟩
 have R3:=hid r3
 have F3:=hid (HK.out.put (m:=m) HM.out)
 have B4:=hid (B40.out.same (g3.keeps B40.out.lt (HBX.out _ _ (Grew.refl _ _ _ _)).1))
 have B6:=hid (B60.out.same (g3.keeps B60.out.lt (HBX.out _ _ (Grew.refl _ _ _ _)).2))
 have G3:=hid g3
 clear r3 g3 a0 hM1 hM2
 go_wp2_with fail
 go_loopg [8] n (fun gk s8 wr=> ∃(i:Nat) (v1:Value) (M1:List M16.Mark),s8= .int .i64 i∧Hid (RowAt base wr r v1 g n M1)∧Hid (Grew r g (.slice A0 M.length c0') v1 w2 wr)∧Hid (Fit n M1)∧Hid (RBox wr b4 (.slice (some ⟨gl,ol,none⟩) n cl) s)∧Hid (MBox wr b6 m)∧Hid (go L s.size q m.2 gk i M1=R)∧Hid (n≤i+gk))
 case atStart=>exact⟨M.length,v3,put M m,rfl,R3,G3,F3,B4,B6,HR,by unfold Hid;omega⟩
 case round=>
  clear B4 B6
  obtain⟨i,v1,M1,rfl,R1,G1,HF1,B4,B6,HGO,HLE⟩:=hrel
  by_cases hi:i<M1.length
  ·obtain⟨gm,c1,rfl,-,-,hk1,hk2⟩:=own_form R1.out.own (by omega)
   obtain⟨⟨j0,b0⟩,hx0⟩: ∃x,M1[i]=x:=⟨_,rfl⟩
   have hj0:j0<n:=by have:=HF1.out.2 M1[i] (List.getElem_mem hi);rw[hx0]at this;exact this
   obtain⟨hjl,hcl⟩:=HLC.out wr ((L2.out.mono (Nat.le_trans H.out.low (Nat.le_of_lt H.out.lt))).trans (G1.out.below H2.out)) j0 hj0
   have hii:ins L j0=L[j0]:=by unfold ins;rw[List.getD_eq_getElem?_getD,List.getElem?_eq_getElem hjl];rfl
   rw[←hii]at hcl
   have hmc:wr.cell? ⟨gm,i*2,none⟩=some (.int .i64 j0):=by
    rw[R1.out.own.cellAt _ (by omega)]
    have:=flat_at markC_len M1 i hi 0 (by decide)
    rw[Nat.add_zero]at this
    rw[this,hx0];rfl
   have HMI:Hid (M1[i]? =some (j0,b0)):=by unfold Hid;rw[List.getElem?_eq_getElem hi,hx0]
   obtain⟨⟨k,t,X,Y⟩,hx1⟩: ∃x,ins L j0=x:=⟨_,rfl⟩
   have HX:=hid hx1
   have HOK:Hid (k≠7→0≤X∧X<n∧1≤k∧k≤8∧(k=6→0≤Y∧Y<n)):=by
    have:=HXO.out j0 (by rw[HNL.out];exact hj0)
    rw[hx1,HNL.out]at this
    exact fun hk=>M16.okI_x this hk
   rw[hx1]at hcl
   obtain⟨k1,hk⟩: ∃k1,M1.length=k1:=⟨_,rfl⟩
   have HK1:=hid hk
   have hr0:=R1.out.c0
   rw[hk]at hi hk1 hr0 R1 G1
   unfold maxLen at hk2
   have HI:=hid hi
   have hii1:(i:Int)<(k1:Int):=by omega
   have hjn:(j0:Int)<(n:Int):=by omega
   have hwi:Hid (wrap64 ((i:Int)+1)=((i+1:Nat):Int)):=by unfold Hid wrap64;have:=HF1.out.len;have:=HN2.out;omega
   clear hii hjl hx0 hx1 hk hi
   go_wp2_with fail
   have D1:=hid (below_draws wr 1)
   have S0:Hid ((wr.drewN 1).cell? ⟨b4,0,none⟩=some (.slice (some ⟨gl,ol,none⟩) n cl)∧(wr.drewN 1).cell? ⟨r,0,none⟩=some (.slice (some ⟨gm,0,none⟩) k1 c1)∧(wr.drewN 1).cell? ⟨gm,i*2,none⟩=some (.int .i64 j0)∧(∀j,j<4→(wr.drewN 1).cell? ⟨gl,ol+j0*4+j,none⟩=(insC ⟨k,t,X,Y⟩)[j]?)):=seen_below ⟨B4.out.c0,hr0,hmc,hcl⟩ D1.out
   clear hr0 hmc hcl
   refine wp_region_held_drew (S:=fun w'=>w'.cell? ⟨b4,0,none⟩=some (.slice (some ⟨gl,ol,none⟩) n cl)∧w'.cell? ⟨r,0,none⟩=some (.slice (some ⟨gm,0,none⟩) k1 c1)∧w'.cell? ⟨gm,i*2,none⟩=some (.int .i64 j0)∧(∀j,j<4→w'.cell? ⟨gl,ol+j0*4+j,none⟩=(insC ⟨k,t,X,Y⟩)[j]?)) (by kernel_rfl) S0.out (fun hHeld=> ?_)
   refine Take.k 0 ⟨some 27,.fieldAddr 124 (.tmp 4) 0,_,_,_,none⟩ ?_
   refine Take.k 1 ⟨some 28,.load 46 (.tmp 27),_,_,_,none⟩ ?_
   refine Take.k 2 ⟨some 29,.move (.tmp 1),_,_,_,none⟩ ?_
   refine Take.k 3 ⟨some 30,.nilCheck (.tmp 29),_,_,_,none⟩ ?_
   refine Take.k 4 ⟨some 31,.fieldAddr 129 (.tmp 30) 0,_,_,_,none⟩ ?_
   refine Take.k 5 ⟨some 32,.load 127 (.tmp 31),_,_,_,none⟩ ?_
   refine Take.k 6 ⟨some 33,.move (.tmp 8),_,_,_,none⟩ ?_
   refine Take.k 7 ⟨some 34,.indexAddr 127 (.tmp 32) (.tmp 33),_,_,_,none⟩ ?_
   refine Take.k 8 ⟨some 35,.fieldAddr 132 (.tmp 34) 0,_,_,_,none⟩ ?_
   refine Take.k 9 ⟨some 36,.load 3 (.tmp 35),_,_,_,none⟩ ?_
   refine Take.k 10 ⟨some 37,.indexAddr 46 (.tmp 28) (.tmp 36),_,_,_,none⟩ ?_
   refine Take.k 11 ⟨some 38,.load 106 (.tmp 37),_,_,_,none⟩ ?_ (hy:=Or.inl ⟨by rfl,by(intro w hSw;(try dsimp only at hSw);refine run_load_ins (.tmp 37) ?_ ?_ hSw.2.2.2<;>rfl)⟩)
   refine wpAnyH_ready (rs:= [12]) (by kernel_rfl) (by simp) ?_
   refine AllReadyH.cons (o:=⟨some 9,.alloc 106,_,_,_,none⟩) rfl (fun K hK=> ?_) AllReadyH.nil
   rw[if_pos (by rfl)]
   (refine wp_alloc_ins rfl ?_;intro w6 b9 e6 p6 l6 z6;have P6:=hid p6;have L6:=hid l6;have E6':=hid e6;clear e6 p6 l6 z6)
   refine hK.out _ _ ?_ (fun hHeld=> ?_)
   ·exact seen_below S0.out L6.out
   clear hK K
   try simp only[Act.put,Take.a,Take.b,Take.c]
   refine wpAnyH_ready (rs:= [13]) (by kernel_rfl) (by simp) ?_
   refine AllReadyH.cons (o:=⟨none,.store 106 (.tmp 9) (.tmp 38),_,_,_,none⟩) rfl (fun K hK=> ?_) AllReadyH.nil
   rw[if_pos (by rfl)]
   (refine wp_store_ins (r:=⟨k,t,X,Y⟩) (.tmp 9) (.tmp 38) rfl rfl rfl P6.out ?_;intro w7 p7 l7 z7;have P7:=hid p7;have L7:=hid (two_new L6.out l7 E6'.out);clear p7 l7 z7)
   refine hK.out _ _ ?_ (fun hHeld=> ?_)
   ·exact seen_below S0.out L7.out
   clear hK K
   refine wpAnyH_done (by kernel_rfl) ?_ _
   have R5:=hid (R1.out.below (on D1.out L7.out))
   have G5:=hid (G1.out.trans (Grew.of (on D1.out L7.out)))
   have B45:=hid (B4.out.below (on D1.out L7.out))
   have B65:=hid (B6.out.below (on D1.out L7.out))
   have B9:=P7
   have NB9:Hid (¬RF r g (.slice (some ⟨gm,0,none⟩) k1 c1) b9):=by unfold Hid;intro e;have h1:=(R1.out.in_ e).2;have h2:wr.heap.size=b9:=E6'.out;omega
   clear P7 P6 R1 G1 S0 B4 B6 D1 L7 L6
   generalize w7=w5 at*
   by_cases k6:k=6
   ·subst k6
    have hx:=HOK.out (by decide)
    try simp only at hx
    obtain⟨jx,rfl⟩: ∃jx:Nat,X=(jx:Int):=⟨X.toNat,by have:=hx.1;omega⟩
    have HJX:Hid (jx<n):=by unfold Hid;have:=hx.2.1;omega
    obtain⟨jy,rfl⟩: ∃jy:Nat,Y=(jy:Int):=⟨Y.toNat,by have:=hx.2.2.2.2 trivial;omega⟩
    have HJY:Hid (jy<n):=by unfold Hid;have:=hx.2.2.2.2 trivial;omega
    have HEP:Hid (eps (ins L j0) s.size q= [jx,jy]):=by unfold Hid;rw[HX.out];simp[eps]
    clear hx
    have c0:=B9.out.c0
    have c2:=B9.out.c2
    have c3:=B9.out.c3
    have d1:=B65.out.c1
    have e1:=B45.out.c1
    simp only at c0 c2 c3
    go_wp2_with fail
    refine(put_any R5.out (jx,m.2) HJX.out (by have:=HF1.out.len;have:=HN2.out;omega)).mono ?_
    rintro e w6 ⟨rfl,v6,r6,g6⟩
    have R6:=hid r6
    have B46:=hid (B45.out.same (g6.keeps B45.out.lt (HBX.out _ _ G5.out).1))
    have B66:=hid (B65.out.same (g6.keeps B65.out.lt (HBX.out _ _ G5.out).2))
    have B9:Hid (IBox w6 b9 ⟨6,t,jx,jy⟩):=(g6.keeps B9.out.lt NB9.out).trans B9.out
    have c3:=B9.out.c3
    have d1:=B66.out.c1
    simp only at c3
    have G6:=hid (G5.out.trans g6)
    have F6:=hid (HF1.out.put (m:=(jx,m.2)) HJX.out)
    clear r6 g6
    go_wp2_with fail
    refine(put_any R6.out (jy,m.2) HJY.out (by have:=F6.out.len;have:=HN2.out;omega)).mono ?_
    rintro e w7 ⟨rfl,v7,r7,g7⟩
    have R7:=hid r7
    have B47:=hid (B46.out.same (g7.keeps B46.out.lt (HBX.out _ _ G6.out).1))
    have B67:=hid (B66.out.same (g7.keeps B66.out.lt (HBX.out _ _ G6.out).2))
    have G7:=hid (G6.out.trans g7)
    have F7:=hid (F6.out.put (m:=(jy,m.2)) HJY.out)
    clear r7 g7
    cases gk with
    |zero=>exact absurd HLE.out (by have:=HF1.out.len;have:=HI.out;omega)
    |succ gk=>
     go_wp2_with fail
     go_roundg gk
     case measure=>omega
     case rel=>
      refine⟨i+1,_,_,by first|rfl|exact congrArg (Value.int .i64) hwi.out,R7,G7,F7,B47,B67,?_,by have:=HLE.out;unfold Hid;omega⟩
      unfold Hid
      rw[←HGO.out,go_next HMI.out,HEP.out]
      rfl
   ·by_cases k8:k=8
    ·subst k8
     have hx:=HOK.out (by decide)
     try simp only at hx
     obtain⟨jx,rfl⟩: ∃jx:Nat,X=(jx:Int):=⟨X.toNat,by have:=hx.1;omega⟩
     have HJX:Hid (jx<n):=by unfold Hid;have:=hx.2.1;omega
     have HEP:Hid (eps (ins L j0) s.size q= [jx]):=by unfold Hid;rw[HX.out];simp[eps]
     clear hx
     have c0:=B9.out.c0
     have c2:=B9.out.c2
     have c3:=B9.out.c3
     have d1:=B65.out.c1
     have e1:=B45.out.c1
     simp only at c0 c2 c3
     go_wp2_with fail
     refine(put_any R5.out (jx,m.2) HJX.out (by have:=HF1.out.len;have:=HN2.out;omega)).mono ?_
     rintro e w6 ⟨rfl,v6,r6,g6⟩
     have R6:=hid r6
     have B46:=hid (B45.out.same (g6.keeps B45.out.lt (HBX.out _ _ G5.out).1))
     have B66:=hid (B65.out.same (g6.keeps B65.out.lt (HBX.out _ _ G5.out).2))
     have G6:=hid (G5.out.trans g6)
     have F6:=hid (HF1.out.put (m:=(jx,m.2)) HJX.out)
     clear r6 g6
     cases gk with
     |zero=>exact absurd HLE.out (by have:=HF1.out.len;have:=HI.out;omega)
     |succ gk=>
      go_wp2_with fail
      go_roundg gk
      case measure=>omega
      case rel=>
       refine⟨i+1,_,_,by first|rfl|exact congrArg (Value.int .i64) hwi.out,R6,G6,F6,B46,B66,?_,by have:=HLE.out;unfold Hid;omega⟩
       unfold Hid
       rw[←HGO.out,go_next HMI.out,HEP.out]
       rfl
    ·by_cases k4:k=4
     ·by_cases q0:q=0
      ·subst k4
       subst q0
       have hx:=HOK.out (by decide)
       try simp only at hx
       obtain⟨jx,rfl⟩: ∃jx:Nat,X=(jx:Int):=⟨X.toNat,by have:=hx.1;omega⟩
       have HJX:Hid (jx<n):=by unfold Hid;have:=hx.2.1;omega
       have HEP:Hid (eps (ins L j0) s.size 0= [jx]):=by unfold Hid;rw[HX.out];simp[eps]
       clear hx
       have c0:=B9.out.c0
       have c2:=B9.out.c2
       have c3:=B9.out.c3
       have d1:=B65.out.c1
       have e1:=B45.out.c1
       simp only at c0 c2 c3
       go_wp2_with fail
       refine(put_any R5.out (jx,m.2) HJX.out (by have:=HF1.out.len;have:=HN2.out;omega)).mono ?_
       rintro e w6 ⟨rfl,v6,r6,g6⟩
       have R6:=hid r6
       have B46:=hid (B45.out.same (g6.keeps B45.out.lt (HBX.out _ _ G5.out).1))
       have B66:=hid (B65.out.same (g6.keeps B65.out.lt (HBX.out _ _ G5.out).2))
       have G6:=hid (G5.out.trans g6)
       have F6:=hid (HF1.out.put (m:=(jx,m.2)) HJX.out)
       clear r6 g6
       cases gk with
       |zero=>exact absurd HLE.out (by have:=HF1.out.len;have:=HI.out;omega)
       |succ gk=>
        go_wp2_with fail
        go_roundg gk
        case measure=>omega
        case rel=>
         refine⟨i+1,_,_,by first|rfl|exact congrArg (Value.int .i64) hwi.out,R6,G6,F6,B46,B66,?_,by have:=HLE.out;unfold Hid;omega⟩
         unfold Hid
         rw[←HGO.out,go_next HMI.out,HEP.out]
         rfl
      ·subst k4
       have tq:((q:Int)==0)=false:=by simp;omega
       have HEP:Hid (eps (ins L j0) s.size q= []):=by unfold Hid;rw[HX.out];simp[eps,q0]
       clear q0
       have c0:=B9.out.c0
       have c2:=B9.out.c2
       have c3:=B9.out.c3
       have d1:=B65.out.c1
       have e1:=B45.out.c1
       simp only at c0 c2 c3
       cases gk with
       |zero=>exact absurd HLE.out (by have:=HF1.out.len;have:=HI.out;omega)
       |succ gk=>
        go_wp2_with fail
        go_roundg gk
        case measure=>omega
        case rel=>
         refine⟨i+1,_,_,by first|rfl|exact congrArg (Value.int .i64) hwi.out,R5,G5,HF1,B45,B65,?_,by have:=HLE.out;unfold Hid;omega⟩
         unfold Hid
         rw[←HGO.out,go_next HMI.out,HEP.out]
         rfl
     ·by_cases k5:k=5
      ·by_cases q0:q=s.size
       ·subst k5
        have tq:((q:Int)==(s.size:Int))=true:=by simp;omega
        have hx:=HOK.out (by decide)
        try simp only at hx
        obtain⟨jx,rfl⟩: ∃jx:Nat,X=(jx:Int):=⟨X.toNat,by have:=hx.1;omega⟩
        have HJX:Hid (jx<n):=by unfold Hid;have:=hx.2.1;omega
        have HEP:Hid (eps (ins L j0) s.size q= [jx]):=by unfold Hid;rw[HX.out];simp[eps,q0]
        clear hx q0
        have c0:=B9.out.c0
        have c2:=B9.out.c2
        have c3:=B9.out.c3
        have d1:=B65.out.c1
        have e1:=B45.out.c1
        simp only at c0 c2 c3
        go_wp2_with fail
        refine(put_any R5.out (jx,m.2) HJX.out (by have:=HF1.out.len;have:=HN2.out;omega)).mono ?_
        rintro e w6 ⟨rfl,v6,r6,g6⟩
        have R6:=hid r6
        have B46:=hid (B45.out.same (g6.keeps B45.out.lt (HBX.out _ _ G5.out).1))
        have B66:=hid (B65.out.same (g6.keeps B65.out.lt (HBX.out _ _ G5.out).2))
        have G6:=hid (G5.out.trans g6)
        have F6:=hid (HF1.out.put (m:=(jx,m.2)) HJX.out)
        clear r6 g6
        cases gk with
        |zero=>exact absurd HLE.out (by have:=HF1.out.len;have:=HI.out;omega)
        |succ gk=>
         go_wp2_with fail
         go_roundg gk
         case measure=>omega
         case rel=>
          refine⟨i+1,_,_,by first|rfl|exact congrArg (Value.int .i64) hwi.out,R6,G6,F6,B46,B66,?_,by have:=HLE.out;unfold Hid;omega⟩
          unfold Hid
          rw[←HGO.out,go_next HMI.out,HEP.out]
          rfl
       ·subst k5
        have tq:((q:Int)==(s.size:Int))=false:=by simp;omega
        have HEP:Hid (eps (ins L j0) s.size q= []):=by unfold Hid;rw[HX.out];simp[eps,q0]
        clear q0
        have c0:=B9.out.c0
        have c2:=B9.out.c2
        have c3:=B9.out.c3
        have d1:=B65.out.c1
        have e1:=B45.out.c1
        simp only at c0 c2 c3
        cases gk with
        |zero=>exact absurd HLE.out (by have:=HF1.out.len;have:=HI.out;omega)
        |succ gk=>
         go_wp2_with fail
         go_roundg gk
         case measure=>omega
         case rel=>
          refine⟨i+1,_,_,by first|rfl|exact congrArg (Value.int .i64) hwi.out,R5,G5,HF1,B45,B65,?_,by have:=HLE.out;unfold Hid;omega⟩
          unfold Hid
          rw[←HGO.out,go_next HMI.out,HEP.out]
          rfl
      ·have t6:(k==6)=false:=by simpa using k6
       have t8:(k==8)=false:=by simpa using k8
       have t4:(k==4)=false:=by simpa using k4
       have t5:(k==5)=false:=by simpa using k5
       have HEP:Hid (eps (ins L j0) s.size q= []):=by unfold Hid;rw[HX.out];simp[eps,k6,k8,k4,k5]
       clear k6 k8 k4 k5
       have c0:=B9.out.c0
       have c2:=B9.out.c2
       have c3:=B9.out.c3
       have d1:=B65.out.c1
       have e1:=B45.out.c1
       simp only at c0 c2 c3
       cases gk with
       |zero=>exact absurd HLE.out (by have:=HF1.out.len;have:=HI.out;omega)
       |succ gk=>
        go_wp2_with fail
        go_roundg gk
        case measure=>omega
        case rel=>
         refine⟨i+1,_,_,by first|rfl|exact congrArg (Value.int .i64) hwi.out,R5,G5,HF1,B45,B65,?_,by have:=HLE.out;unfold Hid;omega⟩
         unfold Hid
         rw[←HGO.out,go_next HMI.out,HEP.out]
         rfl
  ·have ti: ¬(i:Int)<(M1.length:Int):=by omega
   obtain⟨A1,c1,rfl,hk1,hk2⟩:=R1.out.form
   unfold maxLen at hk2
   have hr0:=R1.out.c0
   have HE:Hid (M1=R):=by unfold Hid;rw[←HGO.out,go_stop (by omega)]
   obtain⟨k1,hk⟩: ∃k1,M1.length=k1:=⟨_,rfl⟩
   rw[hk]at hk1 hr0 R1 G1 ti
   clear hi hk
   go_wp2_with fail
   go_end0
   rw[←HE.out]
   exact⟨rfl,_,R1.out,(Grew.of L2.out).trans G1.out⟩
end W16
end Go.Proofs.YtfgegjinhkgpbaaGreatDoor
