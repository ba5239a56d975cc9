/-
  Texts joined, in build order, each with its own comment and its own conditions: W14RefDig.
-/
import Derived.Test.YtfgegjinhkgpbaaGreatDoorJ19
import Derived.Test.YtfgegjinhkgpbaaGreatDoorJ04
import Derived.Deep.LoopGhost
namespace Go.Proofs.YtfgegjinhkgpbaaGreatDoor
set_option maxHeartbeats 4000000
set_option maxRecDepth 100000
open Go.RowKit
open Lib (hid)
namespace W14
open M14
open Kit (below_draws on)
theorem getD_at' {s:ByteArray} {i:Nat} (h:i<s.size):s.data.toList.getD i 0=s[i]:=Kit.byte_get s i h
theorem takeWhile_is {l:List UInt8}: ∀ {k:Nat},(l.take k).all dig=true→(l.length≤k∨dig (l.getD k 0)=false)→l.takeWhile dig=l.take k:=by
 induction l with
 |nil=>intro k _ _;simp
 |cons c l ih=>
  intro k h1 h2
  cases k with
  |zero=>
   rcases h2 with h2|h2
   ·simp at h2
   ·have:dig c=false:=h2
    rw[List.takeWhile_cons_of_neg (by rw[this];simp)];rfl
  |succ k=>
   rw[List.take_succ_cons,List.all_cons,Bool.and_eq_true]at h1
   rw[List.takeWhile_cons_of_pos h1.1,List.take_succ_cons,ih h1.2]
   rcases h2 with h2|h2
   ·exact .inl (by simp at h2;exact h2)
   ·exact .inr h2
theorem takeWhile_four {l:List UInt8} (h:(l.take 4).all dig=true) (hl:4≤l.length):4≤(l.takeWhile dig).length:=by
 match l,hl with
 |a::b::c::d::r,_=>
  simp only[List.take,List.all_cons,Bool.and_eq_true]at h
  rw[List.takeWhile_cons_of_pos h.1,List.takeWhile_cons_of_pos h.2.1,List.takeWhile_cons_of_pos h.2.2.1,List.takeWhile_cons_of_pos h.2.2.2.1]
  simp
theorem take_more {l:List UInt8} {k:Nat} (h:k<l.length):l.take (k+1)=l.take k++ [l.getD k 0]:=by
 rw[List.take_succ_eq_append_getElem h,List.getD_eq_getElem?_getD,List.getElem?_eq_getElem h];rfl
theorem val_more (t:List UInt8) (c:UInt8):val (t++ [c])=val t*10+(c.toNat-48):=by
 unfold val;rw[List.foldl_append];rfl
theorem fold_small: ∀(t:List UInt8) (n:Nat),t.all dig=true→t.foldl (fun n c=>n*10+(c.toNat-48)) n+1≤(n+1)*10^t.length
 | [],n,_=>by simp
 |c::t,n,h=>by
  rw[List.all_cons,Bool.and_eq_true]at h
  have h2:=h.1
  unfold dig at h2
  simp only[Bool.and_eq_true,decide_eq_true_eq]at h2
  have h3:c.toNat≤57:=h2.2
  have h4:=fold_small t (n*10+(c.toNat-48)) h.2
  rw[List.foldl_cons,List.length_cons,Nat.pow_succ]
  refine Nat.le_trans h4 ?_
  rw[Nat.mul_comm (10^t.length) 10,←Nat.mul_assoc]
  exact Nat.mul_le_mul_right _ (by omega)
theorem val_small {t:List UInt8} (h:t.all dig=true) (hl:t.length≤3):val t≤999:=by
 have:=fold_small t 0 h
 have h2:10^t.length≤10^3:=Nat.pow_le_pow_right (by decide) hl
 unfold val
 omega
theorem dig_le {c:UInt8}:dig c=(decide ((48:Int)≤(c.toNat:Int))&&decide ((c.toNat:Int)≤57)):=by
 unfold dig
 congr 1
 ·exact decide_eq_decide.2 ⟨fun h=>by have:(48:UInt8).toNat≤c.toNat:=h;simp at this;omega,fun h=>by show(48:UInt8).toNat≤c.toNat;simp;omega⟩
 ·exact decide_eq_decide.2 ⟨fun h=>by have:c.toNat≤(57:UInt8).toNat:=h;simp at this;omega,fun h=>by show c.toNat≤(57:UInt8).toNat;simp;omega⟩
def digitsR (S:List UInt8) (at_:Nat):Int×Nat:=if isNum ((S.drop at_).takeWhile dig)then((val ((S.drop at_).takeWhile dig):Int),at_+((S.drop at_).takeWhile dig).length)else(-1,at_)
theorem drop_getD (S:List UInt8) (i k:Nat):(S.drop i).getD k 0=S.getD (i+k) 0:=by
 rw[List.getD_eq_getElem?_getD,List.getElem?_drop,List.getD_eq_getElem?_getD]
theorem digits_end {S:List UInt8} {at_ k:Nat} (hk:k≤3) (h0:k≠0) (h1:((S.drop at_).take k).all dig=true) (h2:S.length≤at_+k∨dig (S.getD (at_+k) 0)=false) (hl:at_+k≤S.length):digitsR S at_=((val ((S.drop at_).take k):Int),at_+k):=by
 have e:(S.drop at_).takeWhile dig=(S.drop at_).take k:=takeWhile_is h1 (by
  rcases h2 with h2|h2
  ·exact .inl (by rw[List.length_drop];omega)
  ·exact .inr (by rw[drop_getD];exact h2))
 have hln:((S.drop at_).take k).length=k:=by rw[List.length_take,List.length_drop];omega
 unfold digitsR
 rw[e,hln,if_pos]
 unfold isNum
 rw[h1,hln,decide_eq_true hk,decide_eq_true (by intro q;rw[q]at hln;simp at hln;omega)];rfl
theorem digits_none {S:List UInt8} {at_:Nat} (h2:S.length≤at_∨dig (S.getD at_ 0)=false):digitsR S at_=(-1,at_):=by
 have e:(S.drop at_).takeWhile dig=(S.drop at_).take 0:=takeWhile_is (by simp) (by
  rcases h2 with h2|h2
  ·exact .inl (by rw[List.length_drop];omega)
  ·exact .inr (by rw[drop_getD];exact h2))
 unfold digitsR
 rw[e,if_neg]
 unfold isNum;simp
theorem digits_long {S:List UInt8} {at_:Nat} (h1:((S.drop at_).take 3).all dig=true) (h2:at_+3<S.length) (h3:dig (S.getD (at_+3) 0)=true):digitsR S at_=(-1,at_):=by
 have hl:4≤(S.drop at_).length:=by rw[List.length_drop];omega
 have h4:((S.drop at_).take 4).all dig=true:=by
  rw[take_more (k:=3) (by omega),List.all_append,h1,drop_getD];show(true&&(dig (S.getD (at_+3) 0)&&true))=true;rw[h3];rfl
 have:=takeWhile_four h4 hl
 unfold digitsR
 rw[if_neg]
 unfold isNum
 rw[decide_eq_false (p:=((S.drop at_).takeWhile dig).length≤3) (by omega)]
 simp
theorem refDigits_any (s:ByteArray) (at_:Nat) (hat:at_≤s.size) (hs:s.size≤900) (w:World):Calls Tryz.prog 156 #[.string s,.int .i64 at_] w fun e w'=>e= .returned (.tuple #[.int .i64 (digitsR s.data.toList at_).1,.int .i64 (digitsR s.data.toList at_).2])∧ ∃n,w'=w.drewN n:=by
 have hlen:s.data.toList.length=s.size:=(Lib.size_eq s).symm
 obtain⟨D,hD⟩: ∃D,digitsR s.data.toList at_=D:=⟨_,rfl⟩
 rw[hD]
 have HD:=hid hD
 have HLEN:=hid hlen
 clear hD hlen
 go_enter Tryz.func156,Tryz.ntmps156
 go_wp2_with fail
 go_loopg [6,7] 3 (fun g s6 s7 wr=> ∃k i m:Nat,Hid (k+g=3)∧Hid (i=at_+k)∧Hid (i≤s.size)∧Hid (m=val ((s.data.toList.drop at_).take k))∧s6= .int .i64 m∧s7= .int .i64 i∧Hid (((s.data.toList.drop at_).take k).all dig=true)∧ ∃n,wr=w.drewN n)
 case atStart=>exact⟨0,at_,0,rfl,rfl,hat,rfl,rfl,rfl,rfl,0,rfl⟩
 case round=>
  obtain⟨k,i,m,hk,hi,his,hm,rfl,rfl,hall,n,rfl⟩:=hrel
  have hkl:((s.data.toList.drop at_).take k).length=k:=by have:=hk.out;have:=hi.out;have:=his.out;rw[List.length_take,List.length_drop,HLEN.out];omega
  have hv:=val_small hall.out (by rw[hkl];have:=hk.out;omega)
  rw[←hm.out]at hv
  by_cases hlt:i<s.size
  ·have hlt2:(i:Int)<(s.size:Int):=by omega
   have hget:s.data.toList.getD (at_+k) 0=s[i]:=by rw[←hi.out];exact getD_at' hlt
   cases hdg:dig s[i]with
   |true=>
    have hdd:=hdg
    rw[dig_le,Bool.and_eq_true,decide_eq_true_eq,decide_eq_true_eq]at hdd
    obtain⟨hd1,hd2⟩:=hdd
    cases gk with
    |zero=>
     have hk3:k=3:=by have:=hk.out;omega
     subst hk3
     have HX:=hid (digits_long hall.out (by have:=hi.out;rw[HLEN.out];omega) (by rw[hget];exact hdg))
     have hq:(i:Int)-(at_:Int)=3:=by have:=hi.out;omega
     clear hdg hget hkl hv
     go_wp2_with fail
     go_ret2
     exact⟨by rw[←HD.out,HX.out];rfl,n,rfl⟩
    |succ g=>
     have hq:(i:Int)-(at_:Int)<3:=by have:=hi.out;have:=hk.out;omega
     have hv2:(m:Int)≤999:=by omega
     have HA:Hid (((s.data.toList.drop at_).take (k+1)).all dig=true):=by
      unfold Hid
      rw[take_more (by have:=hi.out;rw[List.length_drop,HLEN.out];omega),List.all_append,hall.out,drop_getD,hget]
      show(true&&(dig s[i]&&true))=true
      rw[hdg];rfl
     have HM:Hid (m*10+(s[i].toNat-48)=val ((s.data.toList.drop at_).take (k+1))):=by
      unfold Hid
      rw[take_more (by have:=hi.out;rw[List.length_drop,HLEN.out];omega),val_more,drop_getD,hget,hm.out]
     have hlt3:i+1≤s.size:=hlt
     have HS:=hid hlt3
     clear hdg hget hkl hlt3
     go_wp2_with fail
     go_roundg g
     case measure=>omega
     case rel=>exact⟨k+1,i+1,m*10+(s[i].toNat-48),by have:=hk.out;show _=_;omega,by have:=hi.out;show _=_;omega,HS.out,HM.out,by congr 1;omega,by first|rfl|(congr 1),HA.out,n,rfl⟩
   |false=>
    have HE:Hid (s.data.toList.length≤at_+k∨dig (s.data.toList.getD (at_+k) 0)=false):= .inr (by rw[hget];exact hdg)
    rw[dig_le]at hdg
    by_cases hd1:(48:Int)≤(s[i].toNat:Int)
    ·have hd2: ¬(s[i].toNat:Int)≤57:=by
       intro q
       rw[decide_eq_true hd1,decide_eq_true q]at hdg
       cases hdg
     clear hdg hget hkl
     by_cases hk0:k=0
     ·have hq:((i:Int)==(at_:Int))=true:=by have:=hi.out;simpa using (by omega:(i:Int)=(at_:Int))
      have HX:=hid (digits_none (S:=s.data.toList) (at_:=at_) (by have:=hi.out;subst hk0;rw[Nat.add_zero]at *;exact HE.out))
      clear hk0
      go_wp2_with fail
      go_ret2
      exact⟨by rw[←HD.out,HX.out];rfl,n,rfl⟩
     ·have hq:((i:Int)==(at_:Int))=false:=by have:=hi.out;simpa using (by omega: ¬(i:Int)=(at_:Int))
      have HX:=hid (digits_end (S:=s.data.toList) (at_:=at_) (by have:=hk.out;omega) hk0 hall.out HE.out (by have:=hi.out;have:=his.out;rw[HLEN.out];omega))
      clear hk0
      go_wp2_with fail
      go_ret2
      exact⟨by rw[←HD.out,HX.out,←hm.out,←hi.out];rfl,n,rfl⟩
    ·clear hdg hget hkl
     by_cases hk0:k=0
     ·have hq:((i:Int)==(at_:Int))=true:=by have:=hi.out;simpa using (by omega:(i:Int)=(at_:Int))
      have HX:=hid (digits_none (S:=s.data.toList) (at_:=at_) (by have:=hi.out;subst hk0;rw[Nat.add_zero]at *;exact HE.out))
      clear hk0
      go_wp2_with fail
      go_ret2
      exact⟨by rw[←HD.out,HX.out];rfl,n,rfl⟩
     ·have hq:((i:Int)==(at_:Int))=false:=by have:=hi.out;simpa using (by omega: ¬(i:Int)=(at_:Int))
      have HX:=hid (digits_end (S:=s.data.toList) (at_:=at_) (by have:=hk.out;omega) hk0 hall.out HE.out (by have:=hi.out;have:=his.out;rw[HLEN.out];omega))
      clear hk0
      go_wp2_with fail
      go_ret2
      exact⟨by rw[←HD.out,HX.out,←hm.out,←hi.out];rfl,n,rfl⟩
  ·have hlt2: ¬(i:Int)<(s.size:Int):=by omega
   have HE:Hid (s.data.toList.length≤at_+k∨dig (s.data.toList.getD (at_+k) 0)=false):= .inl (by have:=hi.out;rw[HLEN.out];omega)
   clear hkl
   by_cases hk0:k=0
   ·have hq:((i:Int)==(at_:Int))=true:=by have:=hi.out;simpa using (by omega:(i:Int)=(at_:Int))
    have HX:=hid (digits_none (S:=s.data.toList) (at_:=at_) (by have:=hi.out;subst hk0;rw[Nat.add_zero]at *;exact HE.out))
    clear hk0
    go_wp2_with fail
    go_ret2
    exact⟨by rw[←HD.out,HX.out];rfl,n,rfl⟩
   ·have hq:((i:Int)==(at_:Int))=false:=by have:=hi.out;simpa using (by omega: ¬(i:Int)=(at_:Int))
    have HX:=hid (digits_end (S:=s.data.toList) (at_:=at_) (by have:=hk.out;omega) hk0 hall.out HE.out (by have:=hi.out;have:=his.out;rw[HLEN.out];omega))
    clear hk0
    go_wp2_with fail
    go_ret2
    exact⟨by rw[←HD.out,HX.out,←hm.out,←hi.out];rfl,n,rfl⟩
end W14
end Go.Proofs.YtfgegjinhkgpbaaGreatDoor
