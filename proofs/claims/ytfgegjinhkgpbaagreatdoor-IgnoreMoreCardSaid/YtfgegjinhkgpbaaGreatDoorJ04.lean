/-
  Texts joined, in build order, each with its own comment and its own conditions: W14NoAtom, W14Real, Shelf, W14Times.
-/
import Derived.Test.YtfgegjinhkgpbaaGreatDoorJ02
import Derived.Test.YtfgegjinhkgpbaaGreatDoorJ01
import Derived.Shelf.Strings.Trim
import Derived.Shelf.Small.Strs
import Derived.Shelf.Small.Wraps
import Derived.Shelf.Strconv.Atoi
import Derived.Shelf.Strings.Search1
import Derived.Shelf.Strings.Search2
import Derived.Shelf.Strings.Search3
import Derived.Shelf.Strings.Cut
import Derived.Shelf.Strings.Count
import Derived.Shelf.Strings.Prefix
import Derived.Test.YtfgegjinhkgpbaaGreatDoorProg
import Derived.Shelf.Strings.SlTrimAscii
import Derived.Lib.IndexLaws
import Derived.Lib.SmallJoins
namespace Go.Proofs.YtfgegjinhkgpbaaGreatDoor
set_option maxHeartbeats 4000000
set_option maxRecDepth 100000
open Go.RowKit
open Lib (hid)
namespace W14
open M14
open Row256 (Beside)
theorem u8n {c d:UInt8} (h: ¬c=d):(((c.toNat:Nat):Int)==((d.toNat:Nat):Int))=false:=beq_eq_false_iff_ne.2 fun e=>h (Kit.byte_eq e)
theorem u8y {c d:UInt8} (h:c=d):(((c.toNat:Nat):Int)==((d.toNat:Nat):Int))=true:=by rw[h];exact beq_self_eq_true _
theorem int_no {a b:Nat} (h: ¬a=b):(((a:Nat):Int)==((b:Nat):Int))=false:=beq_eq_false_iff_ne.2 fun e=>h (by omega)
theorem int_yes {a b:Nat} (h:a=b):(((a:Nat):Int)==((b:Nat):Int))=true:=by rw[h];exact beq_self_eq_true _
def noAtom (S:List UInt8) (at_ deep:Nat):Bool×Int:=
 if at_=S.length then(true,0)
 else if S.getD at_ 0=41 then(if 0<deep then(true,0)else(true,3))
 else if S.getD at_ 0=42∨S.getD at_ 0=43∨S.getD at_ 0=63∨S.getD at_ 0=123 then(true,3)
 else if S.getD at_ 0=124 then(true,0)else(false,0)
theorem noAtom_any {w:World} {b:Nat} {s:ByteArray} {at_ deep:Nat} (h:Reader w b s at_ deep) (hat:at_≤s.size):
    Calls Tryz.prog 127 #[.pointer (some ⟨b,0,none⟩)] w fun e w'=>e= .returned (.tuple #[.bool (noAtom s.data.toList at_ deep).1,.int .i64 (noAtom s.data.toList at_ deep).2])∧ ∃n,w'=w.drewN n:=by
 have c0:=h.c0
 have c1:=h.c1
 have c2:=h.c2
 have hl:s.data.toList.length=s.size:=(Lib.size_eq s).symm
 clear h
 by_cases ha:at_=s.size
 ·have HV:Hid (noAtom s.data.toList at_ deep=(true,0)):=by
    unfold Hid noAtom
    rw[if_pos (by omega)]
  have t0:=int_yes ha
  rw[HV.out]
  clear hl
  go_enter Tryz.func127,Tryz.ntmps127
  go_wp2_with fail
  go_quiet (fail)
  go_wp2_with fail
  go_ret2
  exact⟨rfl,nq,rfl⟩
 ·have hlt:at_<s.size:=by omega
  have hlt2:(at_:Int)<(s.size:Int):=by omega
  have hc:s.data.toList.getD at_ 0=s[at_]:=Kit.byte_get s at_ hlt
  have t0:=int_no ha
  have hne: ¬at_=s.data.toList.length:=by omega
  by_cases h41:s[at_]=41
  ·have t41:((s[at_].toNat:Int)==41)=true:=u8y h41
   by_cases hd:0<deep
   ·have td:(0:Int)<(deep:Int):=by omega
    have HV:Hid (noAtom s.data.toList at_ deep=(true,0)):=by
     unfold Hid noAtom
     rw[if_neg hne,hc,if_pos h41,if_pos hd]
    clear h41
    rw[HV.out]
    clear hc hl hne
    go_enter Tryz.func127,Tryz.ntmps127
    go_wp2_with fail
    go_quiet (fail)
    have c0':(w.drewN nq).cell? ⟨b,0,none⟩=some (.string s):=c0
    have c1':(w.drewN nq).cell? ⟨b,1,none⟩=some (.int .i64 at_):=c1
    have c2':(w.drewN nq).cell? ⟨b,2,none⟩=some (.int .i64 deep):=c2
    obtain⟨W,hW,q1,hq⟩: ∃W,w.drewN nq=W∧ ∃q,W=w.drewN q:=⟨_,rfl,nq,rfl⟩
    rw[hW]at c0' c1' c2'
    rw[hW]
    have HQ:=hid hq
    clear hW hq c0 c1 c2
    go_wp2_with fail
    go_quiet (fail)
    have c2'':(W.drewN nq).cell? ⟨b,2,none⟩=some (.int .i64 deep):=c2'
    go_wp2_with fail
    go_ret2
    exact⟨rfl,q1+nq,by rw[HQ.out,World.drewN_drewN]⟩
   ·have td: ¬(0:Int)<(deep:Int):=by omega
    have HV:Hid (noAtom s.data.toList at_ deep=(true,3)):=by
     unfold Hid noAtom
     rw[if_neg hne,hc,if_pos h41,if_neg hd]
    clear h41
    rw[HV.out]
    clear hc hl hne
    go_enter Tryz.func127,Tryz.ntmps127
    go_wp2_with fail
    go_quiet (fail)
    have c0':(w.drewN nq).cell? ⟨b,0,none⟩=some (.string s):=c0
    have c1':(w.drewN nq).cell? ⟨b,1,none⟩=some (.int .i64 at_):=c1
    have c2':(w.drewN nq).cell? ⟨b,2,none⟩=some (.int .i64 deep):=c2
    obtain⟨W,hW,q1,hq⟩: ∃W,w.drewN nq=W∧ ∃q,W=w.drewN q:=⟨_,rfl,nq,rfl⟩
    rw[hW]at c0' c1' c2'
    rw[hW]
    have HQ:=hid hq
    clear hW hq c0 c1 c2
    go_wp2_with fail
    go_quiet (fail)
    have c2'':(W.drewN nq).cell? ⟨b,2,none⟩=some (.int .i64 deep):=c2'
    go_wp2_with fail
    go_ret2
    exact⟨rfl,q1+nq,by rw[HQ.out,World.drewN_drewN]⟩
  ·have t41:((s[at_].toNat:Int)==41)=false:=u8n h41
   by_cases h42:s[at_]=42
   ·have t42:((s[at_].toNat:Int)==42)=true:=u8y h42
    have HV:Hid (noAtom s.data.toList at_ deep=(true,3)):=by
     unfold Hid noAtom
     rw[if_neg hne,hc,if_neg h41,if_pos (by simp[h42])]
    clear h41 h42
    rw[HV.out]
    clear hc hl hne
    go_enter Tryz.func127,Tryz.ntmps127
    go_wp2_with fail
    go_quiet (fail)
    have c0':(w.drewN nq).cell? ⟨b,0,none⟩=some (.string s):=c0
    have c1':(w.drewN nq).cell? ⟨b,1,none⟩=some (.int .i64 at_):=c1
    have c2':(w.drewN nq).cell? ⟨b,2,none⟩=some (.int .i64 deep):=c2
    obtain⟨W,hW,q1,hq⟩: ∃W,w.drewN nq=W∧ ∃q,W=w.drewN q:=⟨_,rfl,nq,rfl⟩
    rw[hW]at c0' c1' c2'
    rw[hW]
    have HQ:=hid hq
    clear hW hq c0 c1 c2
    go_wp2_with fail
    go_quiet (fail)
    have c2'':(W.drewN nq).cell? ⟨b,2,none⟩=some (.int .i64 deep):=c2'
    go_wp2_with fail
    go_ret2
    exact⟨rfl,q1+nq,by rw[HQ.out,World.drewN_drewN]⟩
   ·have t42:((s[at_].toNat:Int)==42)=false:=u8n h42
    by_cases h43:s[at_]=43
    ·have t43:((s[at_].toNat:Int)==43)=true:=u8y h43
     have HV:Hid (noAtom s.data.toList at_ deep=(true,3)):=by
      unfold Hid noAtom
      rw[if_neg hne,hc,if_neg h41,if_pos (by simp[h43])]
     clear h41 h42 h43
     rw[HV.out]
     clear hc hl hne
     go_enter Tryz.func127,Tryz.ntmps127
     go_wp2_with fail
     go_quiet (fail)
     have c0':(w.drewN nq).cell? ⟨b,0,none⟩=some (.string s):=c0
     have c1':(w.drewN nq).cell? ⟨b,1,none⟩=some (.int .i64 at_):=c1
     have c2':(w.drewN nq).cell? ⟨b,2,none⟩=some (.int .i64 deep):=c2
     obtain⟨W,hW,q1,hq⟩: ∃W,w.drewN nq=W∧ ∃q,W=w.drewN q:=⟨_,rfl,nq,rfl⟩
     rw[hW]at c0' c1' c2'
     rw[hW]
     have HQ:=hid hq
     clear hW hq c0 c1 c2
     go_wp2_with fail
     go_quiet (fail)
     have c2'':(W.drewN nq).cell? ⟨b,2,none⟩=some (.int .i64 deep):=c2'
     go_wp2_with fail
     go_ret2
     exact⟨rfl,q1+nq,by rw[HQ.out,World.drewN_drewN]⟩
    ·have t43:((s[at_].toNat:Int)==43)=false:=u8n h43
     by_cases h63:s[at_]=63
     ·have t63:((s[at_].toNat:Int)==63)=true:=u8y h63
      have HV:Hid (noAtom s.data.toList at_ deep=(true,3)):=by
       unfold Hid noAtom
       rw[if_neg hne,hc,if_neg h41,if_pos (by simp[h63])]
      clear h41 h42 h43 h63
      rw[HV.out]
      clear hc hl hne
      go_enter Tryz.func127,Tryz.ntmps127
      go_wp2_with fail
      go_quiet (fail)
      have c0':(w.drewN nq).cell? ⟨b,0,none⟩=some (.string s):=c0
      have c1':(w.drewN nq).cell? ⟨b,1,none⟩=some (.int .i64 at_):=c1
      have c2':(w.drewN nq).cell? ⟨b,2,none⟩=some (.int .i64 deep):=c2
      obtain⟨W,hW,q1,hq⟩: ∃W,w.drewN nq=W∧ ∃q,W=w.drewN q:=⟨_,rfl,nq,rfl⟩
      rw[hW]at c0' c1' c2'
      rw[hW]
      have HQ:=hid hq
      clear hW hq c0 c1 c2
      go_wp2_with fail
      go_quiet (fail)
      have c2'':(W.drewN nq).cell? ⟨b,2,none⟩=some (.int .i64 deep):=c2'
      go_wp2_with fail
      go_ret2
      exact⟨rfl,q1+nq,by rw[HQ.out,World.drewN_drewN]⟩
     ·have t63:((s[at_].toNat:Int)==63)=false:=u8n h63
      by_cases h123:s[at_]=123
      ·have t123:((s[at_].toNat:Int)==123)=true:=u8y h123
       have HV:Hid (noAtom s.data.toList at_ deep=(true,3)):=by
        unfold Hid noAtom
        rw[if_neg hne,hc,if_neg h41,if_pos (by simp[h123])]
       clear h41 h42 h43 h63 h123
       rw[HV.out]
       clear hc hl hne
       go_enter Tryz.func127,Tryz.ntmps127
       go_wp2_with fail
       go_quiet (fail)
       have c0':(w.drewN nq).cell? ⟨b,0,none⟩=some (.string s):=c0
       have c1':(w.drewN nq).cell? ⟨b,1,none⟩=some (.int .i64 at_):=c1
       have c2':(w.drewN nq).cell? ⟨b,2,none⟩=some (.int .i64 deep):=c2
       obtain⟨W,hW,q1,hq⟩: ∃W,w.drewN nq=W∧ ∃q,W=w.drewN q:=⟨_,rfl,nq,rfl⟩
       rw[hW]at c0' c1' c2'
       rw[hW]
       have HQ:=hid hq
       clear hW hq c0 c1 c2
       go_wp2_with fail
       go_quiet (fail)
       have c2'':(W.drewN nq).cell? ⟨b,2,none⟩=some (.int .i64 deep):=c2'
       go_wp2_with fail
       go_ret2
       exact⟨rfl,q1+nq,by rw[HQ.out,World.drewN_drewN]⟩
      ·have t123:((s[at_].toNat:Int)==123)=false:=u8n h123
       by_cases h124:s[at_]=124
       ·have t124:((s[at_].toNat:Int)==124)=true:=u8y h124
        have HV:Hid (noAtom s.data.toList at_ deep=(true,0)):=by
         unfold Hid noAtom
         rw[if_neg hne,hc,if_neg h41,if_neg (by rintro(e|e|e|e)<;>contradiction),if_pos h124]
        clear h41 h42 h43 h63 h123 h124
        rw[HV.out]
        clear hc hl hne
        go_enter Tryz.func127,Tryz.ntmps127
        go_wp2_with fail
        go_quiet (fail)
        have c0':(w.drewN nq).cell? ⟨b,0,none⟩=some (.string s):=c0
        have c1':(w.drewN nq).cell? ⟨b,1,none⟩=some (.int .i64 at_):=c1
        have c2':(w.drewN nq).cell? ⟨b,2,none⟩=some (.int .i64 deep):=c2
        obtain⟨W,hW,q1,hq⟩: ∃W,w.drewN nq=W∧ ∃q,W=w.drewN q:=⟨_,rfl,nq,rfl⟩
        rw[hW]at c0' c1' c2'
        rw[hW]
        have HQ:=hid hq
        clear hW hq c0 c1 c2
        go_wp2_with fail
        go_quiet (fail)
        have c2'':(W.drewN nq).cell? ⟨b,2,none⟩=some (.int .i64 deep):=c2'
        go_wp2_with fail
        go_ret2
        exact⟨rfl,q1+nq,by rw[HQ.out,World.drewN_drewN]⟩
       ·have t124:((s[at_].toNat:Int)==124)=false:=u8n h124
        have HV:Hid (noAtom s.data.toList at_ deep=(false,0)):=by
         unfold Hid noAtom
         rw[if_neg hne,hc,if_neg h41,if_neg (by rintro(e|e|e|e)<;>contradiction),if_neg h124]
        clear h41 h42 h43 h63 h123 h124
        rw[HV.out]
        clear hc hl hne
        go_enter Tryz.func127,Tryz.ntmps127
        go_wp2_with fail
        go_quiet (fail)
        have c0':(w.drewN nq).cell? ⟨b,0,none⟩=some (.string s):=c0
        have c1':(w.drewN nq).cell? ⟨b,1,none⟩=some (.int .i64 at_):=c1
        have c2':(w.drewN nq).cell? ⟨b,2,none⟩=some (.int .i64 deep):=c2
        obtain⟨W,hW,q1,hq⟩: ∃W,w.drewN nq=W∧ ∃q,W=w.drewN q:=⟨_,rfl,nq,rfl⟩
        rw[hW]at c0' c1' c2'
        rw[hW]
        have HQ:=hid hq
        clear hW hq c0 c1 c2
        go_wp2_with fail
        go_quiet (fail)
        have c2'':(W.drewN nq).cell? ⟨b,2,none⟩=some (.int .i64 deep):=c2'
        go_wp2_with fail
        go_ret2
        exact⟨rfl,q1+nq,by rw[HQ.out,World.drewN_drewN]⟩
end W14
namespace M14
open Go
def isNum (t:List UInt8):Bool:=decide (t≠ [])&&(decide (t.length≤3)&&t.all dig)
theorem number_yes {t:List UInt8} (h:isNum t=true):number t=some (val t):=by
 unfold isNum at h
 simp only[Bool.and_eq_true,decide_eq_true_eq]at h
 unfold number
 rw[if_pos h]
theorem number_no {t:List UInt8} (h:isNum t=false):number t=none:=by
 unfold number
 rw[if_neg]
 rintro⟨a,b,c⟩
 unfold isNum at h
 rw[decide_eq_true a,decide_eq_true b,c]at h
 simp at h
theorem not_num {t u:List UInt8} {c:UInt8} (h:dig c=false):isNum (t++c::u)=false:=by
 unfold isNum
 rw[List.all_append,List.all_cons,h]
 simp
def before (c:UInt8) (l:List UInt8):List UInt8:=l.takeWhile (fun x=>decide (x≠c))
def behind (c:UInt8) (l:List UInt8):List UInt8:=(l.dropWhile (fun x=>decide (x≠c))).drop 1
theorem before_clean {c:UInt8} {t:List UInt8} (h: ¬c∈t) (r:List UInt8):before c (t++r)=t++before c r:=by
 unfold before
 rw[List.takeWhile_append_of_pos]
 intro x hx
 exact decide_eq_true fun e=>h (e▸hx)
theorem behind_clean {c:UInt8} {t:List UInt8} (h: ¬c∈t) (r:List UInt8):behind c (t++r)=behind c r:=by
 unfold behind
 rw[List.dropWhile_append_of_pos]
 intro x hx
 exact decide_eq_true fun e=>h (e▸hx)
theorem before_here (c:UInt8) (r:List UInt8):before c (c::r)= []:=by unfold before;simp
theorem behind_here (c:UInt8) (r:List UInt8):behind c (c::r)=r:=by unfold behind;simp
theorem before_skip {c d:UInt8} (h: ¬d=c) (r:List UInt8):before c (d::r)=d::before c r:=by unfold before;simp[h]
theorem before_nil (c:UInt8):before c []= []:=rfl
theorem before_all {c:UInt8} {t:List UInt8} (h: ¬c∈t):before c t=t:=by
 have:=before_clean h []
 simpa [before_nil]using this
def mayB (m t:Int):Bool:=decide (m≥0)&&decide (m≤100)&&(decide (t= -1)||decide (t≥m)&&decide (t≤100))
theorem range_may {m t:Int} (hm:0≤m) (ht: -1≤t) (n:Nat):range m t n=if mayB m t then(0,m,t,n)else(4,0,0,0):=by
 unfold range
 by_cases h:m>100∨t>100∨(0≤t∧m>t)
 ·rw[if_pos h,if_neg]
  unfold mayB
  simp only[Bool.and_eq_true,Bool.or_eq_true,decide_eq_true_eq]
  omega
 ·rw[if_neg h,if_pos]
  unfold mayB
  simp only[Bool.and_eq_true,Bool.or_eq_true,decide_eq_true_eq]
  omega
def firstB (l:List UInt8):List UInt8:=before 44 (before 125 l)
def openB (l:List UInt8):Bool:=decide (44∈before 125 l)&&decide (behind 44 (before 125 l)= [])
def secondB (l:List UInt8):List UInt8:=if 44∈before 125 l then behind 44 (before 125 l)else firstB l
def formB (l:List UInt8):Bool:=decide (125∈l)&&(isNum (firstB l)&&(openB l||isNum (secondB l)))
def topB (l:List UInt8):Int:=if openB l then-1 else val (secondB l)
theorem dig_not {c:UInt8} (h:dig c=true): ¬c=125∧ ¬c=44:=by
 constructor<;>(rintro rfl;revert h;decide)
theorem take_dig {l:List UInt8}: ∀x,x∈l.takeWhile dig→dig x=true:=fun x hx=>List.all_eq_true.1 (List.all_takeWhile (p:=dig) (l:=l)) x hx
theorem head_drop {l r:List UInt8} {c:UInt8} (h:l.dropWhile dig=c::r):dig c=false:=by
 have:=List.head?_dropWhile_not dig l
 rw[h]at this
 simpa using this
theorem braces_bad {l:List UInt8} (h:formB l=false):braces l=no3:=by
 have hl:l=l.takeWhile dig++l.dropWhile dig:=List.takeWhile_append_dropWhile.symm
 have hd:=take_dig (l:=l)
 unfold braces
 generalize l.takeWhile dig=t at*
 cases hr:l.dropWhile dig with
 |nil=>cases number t<;>rfl
 |cons c r=>
  have hc:=head_drop hr
  rw[hr]at hl
  clear hr
  have n125: ¬(125:UInt8)∈t:=fun q=>(dig_not (hd _ q)).1 rfl
  have n44: ¬(44:UInt8)∈t:=fun q=>(dig_not (hd _ q)).2 rfl
  cases hn:isNum t with
  |false=>rw[number_no hn]
  |true=>
   rw[number_yes hn]
   simp only
   by_cases c1:c=125
   ·exfalso
    subst c1
    have e1:before 125 l=t:=by rw[hl,before_clean n125,before_here,List.append_nil]
    have e2:firstB l=t:=by unfold firstB;rw[e1,before_all n44]
    have e3:secondB l=t:=by unfold secondB;rw[e1,if_neg n44,e2]
    unfold formB at h
    rw[e2,e3,hn,Bool.or_true,hl,decide_eq_true (by simp)]at h
    simp at h
   ·rw[if_neg c1]
    by_cases c2:c=44
    ·rw[if_pos c2]
     subst c2
     have e1:before 125 l=t++44::before 125 r:=by rw[hl,before_clean n125,before_skip (by decide)]
     have e2:firstB l=t:=by unfold firstB;rw[e1,before_clean n44,before_here,List.append_nil]
     have e3:behind 44 (before 125 l)=before 125 r:=by rw[e1,behind_clean n44,behind_here]
     have e4:secondB l=before 125 r:=by unfold secondB;rw[if_pos (by rw[e1];simp),e3]
     have e5:openB l=decide (before 125 r= []):=by unfold openB;rw[e3,decide_eq_true (by rw[e1];simp),Bool.true_and]
     have e6:decide ((125:UInt8)∈l)=decide ((125:UInt8)∈r):=by
      rw[hl]
      exact decide_eq_decide.2 (by simp[n125])
     unfold formB at h
     rw[e2,e4,e5,e6,hn,Bool.true_and]at h
     have hlr:r=r.takeWhile dig++r.dropWhile dig:=List.takeWhile_append_dropWhile.symm
     have hdr:=take_dig (l:=r)
     have m125: ¬(125:UInt8)∈r.takeWhile dig:=fun q=>(dig_not (hdr _ q)).1 rfl
     by_cases c3:r.takeWhile dig= []
     ·rw[if_pos c3]
      by_cases c4:r.headD 0=125
      ·exfalso
       cases r with
       |nil=>simp at c4
       |cons d r2=>
        have:d=125:=by simpa using c4
        subst this
        rw[before_here]at h
        simp at h
      ·rw[if_neg c4]
     ·rw[if_neg c3]
      cases hn2:isNum (r.takeWhile dig)with
      |false=>rw[number_no hn2]
      |true=>
       rw[number_yes hn2]
       simp only
       by_cases c4:(r.dropWhile dig).headD 0=125
       ·exfalso
        cases hr2:r.dropWhile dig with
        |nil=>rw[hr2]at c4;simp at c4
        |cons d r2=>
         rw[hr2]at c4 hlr
         have:d=125:=by simpa using c4
         subst this
         have e7:before 125 r=r.takeWhile dig:=by
          conv=>lhs;rw[hlr,before_clean m125,before_here,List.append_nil]
         rw[e7,hn2,Bool.or_true,decide_eq_true (by rw[hlr];simp)]at h
         simp at h
       ·rw[if_neg c4]
    ·rw[if_neg c2]
theorem braces_good {l:List UInt8} (h:formB l=true):braces l=range (val (firstB l)) (topB l) ((before 125 l).length+2):=by
 have hl:l=l.takeWhile dig++l.dropWhile dig:=List.takeWhile_append_dropWhile.symm
 have hd:=take_dig (l:=l)
 unfold formB at h
 simp only[Bool.and_eq_true,decide_eq_true_eq]at h
 obtain⟨h1,h2,h3⟩:=h
 unfold braces
 generalize l.takeWhile dig=t at*
 have n125: ¬(125:UInt8)∈t:=fun q=>(dig_not (hd _ q)).1 rfl
 have n44: ¬(44:UInt8)∈t:=fun q=>(dig_not (hd _ q)).2 rfl
 cases hr:l.dropWhile dig with
 |nil=>
  exfalso
  rw[hr,List.append_nil]at hl
  rw[hl]at h1
  exact n125 h1
 |cons c r=>
  have hc:=head_drop hr
  rw[hr]at hl
  clear hr
  by_cases c1:c=125
  ·subst c1
   have e1:before 125 l=t:=by rw[hl,before_clean n125,before_here,List.append_nil]
   have e2:firstB l=t:=by unfold firstB;rw[e1,before_all n44]
   have e3:secondB l=t:=by unfold secondB;rw[e1,if_neg n44,e2]
   have e4:openB l=false:=by unfold openB;rw[e1,decide_eq_false n44,Bool.false_and]
   have e5:topB l=val t:=by unfold topB;rw[e4,if_neg (by simp),e3]
   rw[e2]at h2
   rw[number_yes h2,e5,e2,e1]
   simp only[if_pos]
  ·by_cases c2:c=44
   ·subst c2
    have e1:before 125 l=t++44::before 125 r:=by rw[hl,before_clean n125,before_skip (by decide)]
    have e2:firstB l=t:=by unfold firstB;rw[e1,before_clean n44,before_here,List.append_nil]
    have e3:behind 44 (before 125 l)=before 125 r:=by rw[e1,behind_clean n44,behind_here]
    have e4:secondB l=before 125 r:=by unfold secondB;rw[if_pos (by rw[e1];simp),e3]
    have e5:openB l=decide (before 125 r= []):=by unfold openB;rw[e3,decide_eq_true (by rw[e1];simp),Bool.true_and]
    have e6:(125:UInt8)∈r:=by
     rw[hl]at h1
     rcases List.mem_append.1 h1 with q|q
     ·exact absurd q n125
     ·rcases List.mem_cons.1 q with q|q
      ·exact absurd q (by decide)
      ·exact q
    rw[e2]at h2
    rw[number_yes h2]
    simp only[if_neg c1,if_pos]
    have hlr:r=r.takeWhile dig++r.dropWhile dig:=List.takeWhile_append_dropWhile.symm
    have hdr:=take_dig (l:=r)
    have m125: ¬(125:UInt8)∈r.takeWhile dig:=fun q=>(dig_not (hdr _ q)).1 rfl
    cases hr2:r.dropWhile dig with
    |nil=>
     exfalso
     rw[hr2,List.append_nil]at hlr
     rw[hlr]at e6
     exact m125 e6
    |cons d r2=>
     have hdg:=head_drop hr2
     rw[hr2]at hlr
     have e7:before 125 r=r.takeWhile dig++before 125 (d::r2):=by
      conv=>lhs;rw[hlr,before_clean m125]
     by_cases c4:d=125
     ·subst c4
      rw[before_here,List.append_nil]at e7
      by_cases c3:r.takeWhile dig= []
      ·rw[if_pos c3]
       rw[c3]at e7 hlr
       rw[List.nil_append]at hlr
       have e8:topB l= -1:=by unfold topB;rw[e5,e7];rfl
       rw[if_pos (by rw[hlr];rfl),e8,e2,e1,e7]
       simp only[List.length_append,List.length_cons,List.length_nil]
      ·rw[if_neg c3]
       have e8:openB l=false:=by rw[e5,e7];exact decide_eq_false c3
       have e9:topB l=val (r.takeWhile dig):=by unfold topB;rw[e8,if_neg (by simp),e4,e7]
       rw[e8,e4,e7,Bool.false_or]at h3
       rw[number_yes h3]
       simp only[List.headD_cons,if_pos]
       rw[e9,e2,e1,e7]
       congr 1
       simp only[List.length_append,List.length_cons];omega
     ·exfalso
      rw[before_skip c4]at e7
      rw[e5,e4,e7,not_num hdg,Bool.or_false,decide_eq_true_eq]at h3
      simp at h3
   ·exfalso
    have e1:before 125 l=t++c::before 125 r:=by rw[hl,before_clean n125,before_skip c1]
    have e2:firstB l=t++c::before 44 (before 125 r):=by unfold firstB;rw[e1,before_clean n44,before_skip c2]
    rw[e2,not_num hc]at h2
    simp at h2
end M14
end Go.Proofs.YtfgegjinhkgpbaaGreatDoor
namespace Go.Proofs
open Go.Shelf
def Tryz.lays160_ren:Go.Shelf.Ren:=⟨fun|160=>38|232=>63|231=>62|227=>64|234=>66|233=>65|236=>68|235=>67|228=>90|271=>93|151=>92|197=>91|120=>123|152=>122|260=>121|137=>37|119=>145|224=>125|225=>124|217=>61|266=>89|n=>n,fun|9=>9|4=>4|3=>3|5=>5|117=>90|116=>89|0=>0|124=>93|21=>21|105=>115|46=>138|119=>149|139=>152|138=>151|n=>n,fun|3=>1|4=>2|n=>n⟩
theorem Tryz.lays160:Go.Proofs.Lays.n160 Tryz.prog Tryz.lays160_ren:= {
 mixed:=by kernel_rfl
 f119:=Tryz.func145.trans (congrArg some (by kernel_rfl))
 f120:=Tryz.func123.trans (congrArg some (by kernel_rfl))
 f137:=Tryz.func37.trans (congrArg some (by kernel_rfl))
 f151:=Tryz.func92.trans (congrArg some (by kernel_rfl))
 f152:=Tryz.func122.trans (congrArg some (by kernel_rfl))
 f160:=Tryz.func38.trans (congrArg some (by kernel_rfl))
 f197:=Tryz.func91.trans (congrArg some (by kernel_rfl))
 f217:=Tryz.func61.trans (congrArg some (by kernel_rfl))
 f224:=Tryz.func125.trans (congrArg some (by kernel_rfl))
 f225:=Tryz.func124.trans (congrArg some (by kernel_rfl))
 f227:=Tryz.func64.trans (congrArg some (by kernel_rfl))
 f228:=Tryz.func90.trans (congrArg some (by kernel_rfl))
 f231:=Tryz.func62.trans (congrArg some (by kernel_rfl))
 f232:=Tryz.func63.trans (congrArg some (by kernel_rfl))
 f233:=Tryz.func65.trans (congrArg some (by kernel_rfl))
 f234:=Tryz.func66.trans (congrArg some (by kernel_rfl))
 f235:=Tryz.func67.trans (congrArg some (by kernel_rfl))
 f236:=Tryz.func68.trans (congrArg some (by kernel_rfl))
 f260:=Tryz.func121.trans (congrArg some (by kernel_rfl))
 f266:=Tryz.func89.trans (congrArg some (by kernel_rfl))
 f271:=Tryz.func93.trans (congrArg some (by kernel_rfl))
 t0:=Tryz.underlying0
 a0:=Tryz.isAgg0
 z0:=Tryz.sizeOf0
 v0:=Tryz.zeroValue0
 t3:=Tryz.underlying3
 a3:=Tryz.isAgg3
 z3:=Tryz.sizeOf3
 v3:=Tryz.zeroValue3
 t4:=Tryz.underlying4
 a4:=Tryz.isAgg4
 z4:=Tryz.sizeOf4
 v4:=Tryz.zeroValue4
 t5:=Tryz.underlying5
 a5:=Tryz.isAgg5
 z5:=Tryz.sizeOf5
 v5:=Tryz.zeroValue5
 t9:=Tryz.underlying9
 a9:=Tryz.isAgg9
 z9:=Tryz.sizeOf9
 v9:=Tryz.zeroValue9
 t21:=Tryz.underlying21
 a21:=Tryz.isAgg21
 z21:=Tryz.sizeOf21
 v21:=Tryz.zeroValue21
 t46:=Tryz.underlying138
 a46:=Tryz.isAgg138
 z46:=Tryz.sizeOf138
 v46:=Tryz.zeroValue138
 t105:=Tryz.underlying115
 a105:=Tryz.isAgg115
 z105:=Tryz.sizeOf115
 v105:=Tryz.zeroValue115
 t116:=Tryz.underlying89
 a116:=Tryz.isAgg89
 z116:=Tryz.sizeOf89
 t117:=Tryz.underlying90
 a117:=Tryz.isAgg90
 z117:=Tryz.sizeOf90
 v117:=Tryz.zeroValue90
 t119:=Tryz.underlying149
 a119:=Tryz.isAgg149
 z119:=Tryz.sizeOf149
 t124:=Tryz.underlying93
 a124:=Tryz.isAgg93
 z124:=Tryz.sizeOf93
 v124:=Tryz.zeroValue93
 t138:=Tryz.underlying151
 a138:=Tryz.isAgg151
 z138:=Tryz.sizeOf151
 v138:=Tryz.zeroValue151
 t139:=Tryz.underlying152
 a139:=Tryz.isAgg152
 z139:=Tryz.sizeOf152
 v139:=Tryz.zeroValue152
 g3:=by kernel_rfl
 g4:=by kernel_rfl}
def Tryz.lays137_ren:Go.Shelf.Ren:=⟨fun|137=>37|217=>61|266=>89|n=>n,fun|9=>9|5=>5|3=>3|n=>n,fun|n=>n⟩
theorem Tryz.lays137:Go.Proofs.Lays.n137 Tryz.prog Tryz.lays137_ren:= {
 mixed:=by kernel_rfl
 f137:=Tryz.func37.trans (congrArg some (by kernel_rfl))
 f217:=Tryz.func61.trans (congrArg some (by kernel_rfl))
 f266:=Tryz.func89.trans (congrArg some (by kernel_rfl))
 t3:=Tryz.underlying3
 a3:=Tryz.isAgg3
 z3:=Tryz.sizeOf3
 v3:=Tryz.zeroValue3
 t5:=Tryz.underlying5
 a5:=Tryz.isAgg5
 z5:=Tryz.sizeOf5
 v5:=Tryz.zeroValue5
 t9:=Tryz.underlying9
 a9:=Tryz.isAgg9
 z9:=Tryz.sizeOf9
 v9:=Tryz.zeroValue9}
open Go.RowKit in
theorem Tryz.strings_IndexByte (s:ByteArray) (c:Int) (w:World):
    Calls Tryz.prog 37 #[.string s,.int .u8 c] w fun e w'=>e= .returned (.int .i64 (Lib.indexByte s.data.toList c.toNat.toUInt8))∧w'=w:=Any.strings_IndexByte Tryz.lays137 s c w
def Tryz.lays103_ren:Go.Shelf.Ren:=⟨fun|103=>179|210=>184|206=>69|n=>n,fun|9=>9|4=>4|24=>164|3=>3|n=>n,fun|n=>n⟩
theorem Tryz.lays103:Go.Proofs.Lays.n103 Tryz.prog Tryz.lays103_ren:= {
 mixed:=by kernel_rfl
 f103:=Tryz.func179.trans (congrArg some (by kernel_rfl))
 f206:=Tryz.func69.trans (congrArg some (by kernel_rfl))
 f210:=Tryz.func184.trans (congrArg some (by kernel_rfl))
 t3:=Tryz.underlying3
 a3:=Tryz.isAgg3
 z3:=Tryz.sizeOf3
 v3:=Tryz.zeroValue3
 t4:=Tryz.underlying4
 a4:=Tryz.isAgg4
 z4:=Tryz.sizeOf4
 v4:=Tryz.zeroValue4
 t9:=Tryz.underlying9
 a9:=Tryz.isAgg9
 z9:=Tryz.sizeOf9
 v9:=Tryz.zeroValue9
 t24:=Tryz.underlying164
 a24:=Tryz.isAgg164
 z24:=Tryz.sizeOf164
 v24:=Tryz.zeroValue164}
open Go.RowKit in
theorem Tryz.strings_CutPrefix (s p:ByteArray) (w:World):
    Calls Tryz.prog 179 #[.string s,.string p] w fun e w'=>e= .returned (.tuple #[.string ⟨(Lib.trimPrefix s.data.toList p.data.toList).toArray⟩,.bool (Lib.hasPrefix s.data.toList p.data.toList)])∧w'=w:=Any.strings_CutPrefix Tryz.lays103 s p w
def Tryz.lays172_ren:Go.Shelf.Ren:=⟨fun|172=>183|244=>187|245=>188|247=>192|279=>193|280=>194|281=>195|282=>196|287=>197|316=>198|171=>200|205=>199|321=>201|322=>202|243=>203|246=>204|283=>205|284=>206|285=>207|286=>208|129=>210|317=>209|318=>211|319=>212|320=>213|337=>214|338=>215|n=>n,fun|9=>9|3=>3|75=>183|76=>184|4=>4|5=>5|167=>194|37=>53|0=>0|85=>195|2=>2|168=>197|53=>200|175=>201|46=>138|210=>204|127=>208|145=>211|143=>209|21=>21|171=>213|173=>216|212=>219|51=>154|20=>20|213=>220|232=>224|233=>225|80=>177|n=>n,fun|15=>3|16=>4|17=>5|18=>6|19=>7|n=>n⟩
theorem Tryz.lays172:Go.Proofs.Lays.n172 Tryz.prog Tryz.lays172_ren:= {
 mixed:=by kernel_rfl
 f129:=Tryz.func210.trans (congrArg some (by kernel_rfl))
 f171:=Tryz.func200.trans (congrArg some (by kernel_rfl))
 f172:=Tryz.func183.trans (congrArg some (by kernel_rfl))
 f205:=Tryz.func199.trans (congrArg some (by kernel_rfl))
 f243:=Tryz.func203.trans (congrArg some (by kernel_rfl))
 f244:=Tryz.func187.trans (congrArg some (by kernel_rfl))
 f245:=Tryz.func188.trans (congrArg some (by kernel_rfl))
 f246:=Tryz.func204.trans (congrArg some (by kernel_rfl))
 f247:=Tryz.func192.trans (congrArg some (by kernel_rfl))
 f279:=Tryz.func193.trans (congrArg some (by kernel_rfl))
 f280:=Tryz.func194.trans (congrArg some (by kernel_rfl))
 f281:=Tryz.func195.trans (congrArg some (by kernel_rfl))
 f282:=Tryz.func196.trans (congrArg some (by kernel_rfl))
 f283:=Tryz.func205.trans (congrArg some (by kernel_rfl))
 f284:=Tryz.func206.trans (congrArg some (by kernel_rfl))
 f285:=Tryz.func207.trans (congrArg some (by kernel_rfl))
 f286:=Tryz.func208.trans (congrArg some (by kernel_rfl))
 f287:=Tryz.func197.trans (congrArg some (by kernel_rfl))
 f316:=Tryz.func198.trans (congrArg some (by kernel_rfl))
 f317:=Tryz.func209.trans (congrArg some (by kernel_rfl))
 f318:=Tryz.func211.trans (congrArg some (by kernel_rfl))
 f319:=Tryz.func212.trans (congrArg some (by kernel_rfl))
 f320:=Tryz.func213.trans (congrArg some (by kernel_rfl))
 f321:=Tryz.func201.trans (congrArg some (by kernel_rfl))
 f322:=Tryz.func202.trans (congrArg some (by kernel_rfl))
 f337:=Tryz.func214.trans (congrArg some (by kernel_rfl))
 f338:=Tryz.func215.trans (congrArg some (by kernel_rfl))
 t0:=Tryz.underlying0
 a0:=Tryz.isAgg0
 z0:=Tryz.sizeOf0
 v0:=Tryz.zeroValue0
 t2:=Tryz.underlying2
 a2:=Tryz.isAgg2
 z2:=Tryz.sizeOf2
 v2:=Tryz.zeroValue2
 t3:=Tryz.underlying3
 a3:=Tryz.isAgg3
 z3:=Tryz.sizeOf3
 v3:=Tryz.zeroValue3
 t4:=Tryz.underlying4
 a4:=Tryz.isAgg4
 z4:=Tryz.sizeOf4
 v4:=Tryz.zeroValue4
 t5:=Tryz.underlying5
 a5:=Tryz.isAgg5
 z5:=Tryz.sizeOf5
 v5:=Tryz.zeroValue5
 t9:=Tryz.underlying9
 a9:=Tryz.isAgg9
 z9:=Tryz.sizeOf9
 v9:=Tryz.zeroValue9
 t20:=Tryz.underlying20
 a20:=Tryz.isAgg20
 z20:=Tryz.sizeOf20
 v20:=Tryz.zeroValue20
 t21:=Tryz.underlying21
 a21:=Tryz.isAgg21
 z21:=Tryz.sizeOf21
 v21:=Tryz.zeroValue21
 t37:=Tryz.underlying53
 a37:=Tryz.isAgg53
 z37:=Tryz.sizeOf53
 v37:=Tryz.zeroValue53
 t46:=Tryz.underlying138
 a46:=Tryz.isAgg138
 z46:=Tryz.sizeOf138
 v46:=Tryz.zeroValue138
 t51:=Tryz.underlying154
 a51:=Tryz.isAgg154
 z51:=Tryz.sizeOf154
 v51:=Tryz.zeroValue154
 t53:=Tryz.underlying200
 a53:=Tryz.isAgg200
 z53:=Tryz.sizeOf200
 v53:=Tryz.zeroValue200
 t75:=Tryz.underlying183
 a75:=Tryz.isAgg183
 z75:=Tryz.sizeOf183
 v75:=Tryz.zeroValue183
 t76:=Tryz.underlying184
 a76:=Tryz.isAgg184
 z76:=Tryz.sizeOf184
 v76:=Tryz.zeroValue184
 t85:=Tryz.underlying195
 a85:=Tryz.isAgg195
 z85:=Tryz.sizeOf195
 v85:=Tryz.zeroValue195
 t127:=Tryz.underlying208
 a127:=Tryz.isAgg208
 z127:=Tryz.sizeOf208
 v127:=Tryz.zeroValue208
 t143:=Tryz.underlying209
 a143:=Tryz.isAgg209
 z143:=Tryz.sizeOf209
 v143:=Tryz.zeroValue209
 t145:=Tryz.underlying211
 a145:=Tryz.isAgg211
 z145:=Tryz.sizeOf211
 v145:=Tryz.zeroValue211
 t167:=Tryz.underlying194
 a167:=Tryz.isAgg194
 z167:=Tryz.sizeOf194
 v167:=Tryz.zeroValue194
 t168:=Tryz.underlying197
 a168:=Tryz.isAgg197
 z168:=Tryz.sizeOf197
 v168:=Tryz.zeroValue197
 t171:=Tryz.underlying213
 a171:=Tryz.isAgg213
 z171:=Tryz.sizeOf213
 v171:=Tryz.zeroValue213
 t173:=Tryz.underlying216
 a173:=Tryz.isAgg216
 z173:=Tryz.sizeOf216
 v173:=Tryz.zeroValue216
 t175:=Tryz.underlying201
 a175:=Tryz.isAgg201
 z175:=Tryz.sizeOf201
 v175:=Tryz.zeroValue201
 t210:=Tryz.underlying204
 a210:=Tryz.isAgg204
 z210:=Tryz.sizeOf204
 v210:=Tryz.zeroValue204
 t212:=Tryz.underlying219
 a212:=Tryz.isAgg219
 z212:=Tryz.sizeOf219
 v212:=Tryz.zeroValue219
 t213:=Tryz.underlying220
 a213:=Tryz.isAgg220
 z213:=Tryz.sizeOf220
 t232:=Tryz.underlying224
 a232:=Tryz.isAgg224
 z232:=Tryz.sizeOf224
 v232:=Tryz.zeroValue224
 t233:=Tryz.underlying225
 a233:=Tryz.isAgg225
 z233:=Tryz.sizeOf225
 v233:=Tryz.zeroValue225
 g15:=by kernel_rfl
 g16:=by kernel_rfl
 g17:=by kernel_rfl
 g18:=by kernel_rfl
 g19:=by kernel_rfl}
open Go.RowKit in
theorem Tryz.strconv_Atoi (s:ByteArray) (n:Int) (hl:s.size≤18) (h:Lib.atoi s.data.toList=some n) (w:World):
    Calls Tryz.prog 183 #[.string s] w fun e w'=>e= .returned (.tuple #[.int .i64 n,.nilIface])∧ ∃t,w'=Lib.bytesWorld w 5 t:=Any.strconv_Atoi Tryz.lays172 s n hl h w
def Tryz.lays217_ren:Go.Shelf.Ren:=⟨fun|217=>61|266=>89|n=>n,fun|9=>9|5=>5|3=>3|n=>n,fun|n=>n⟩
theorem Tryz.lays217:Go.Proofs.Lays.n217 Tryz.prog Tryz.lays217_ren:= {
 mixed:=by kernel_rfl
 f217:=Tryz.func61.trans (congrArg some (by kernel_rfl))
 f266:=Tryz.func89.trans (congrArg some (by kernel_rfl))
 t3:=Tryz.underlying3
 a3:=Tryz.isAgg3
 z3:=Tryz.sizeOf3
 v3:=Tryz.zeroValue3
 t5:=Tryz.underlying5
 a5:=Tryz.isAgg5
 z5:=Tryz.sizeOf5
 v5:=Tryz.zeroValue5
 t9:=Tryz.underlying9
 a9:=Tryz.isAgg9
 z9:=Tryz.sizeOf9
 v9:=Tryz.zeroValue9}
open Go.RowKit Go.Lib in
theorem Tryz.stringslite_IndexByte (s:ByteArray) (c:Int) (w:World):
    Calls Tryz.prog 61 #[.string s,.int .u8 c] w fun e w'=>e= .returned (.int .i64 (Lib.indexByte s.data.toList c.toNat.toUInt8))∧w'=w:=Any.stringslite_IndexByte Tryz.lays217 s c w
def Tryz.lays219_ren:Go.Shelf.Ren:=⟨fun|219=>94|217=>61|225=>124|224=>125|267=>126|266=>89|314=>146|n=>n,fun|9=>9|3=>3|4=>4|5=>5|46=>138|146=>155|51=>154|n=>n,fun|1=>0|n=>n⟩
theorem Tryz.lays219:Go.Proofs.Lays.n219 Tryz.prog Tryz.lays219_ren:= {
 mixed:=by kernel_rfl
 f217:=Tryz.func61.trans (congrArg some (by kernel_rfl))
 f219:=Tryz.func94.trans (congrArg some (by kernel_rfl))
 f224:=Tryz.func125.trans (congrArg some (by kernel_rfl))
 f225:=Tryz.func124.trans (congrArg some (by kernel_rfl))
 f266:=Tryz.func89.trans (congrArg some (by kernel_rfl))
 f267:=Tryz.func126.trans (congrArg some (by kernel_rfl))
 f314:=Tryz.func146.trans (congrArg some (by kernel_rfl))
 t3:=Tryz.underlying3
 a3:=Tryz.isAgg3
 z3:=Tryz.sizeOf3
 v3:=Tryz.zeroValue3
 t4:=Tryz.underlying4
 a4:=Tryz.isAgg4
 z4:=Tryz.sizeOf4
 v4:=Tryz.zeroValue4
 t5:=Tryz.underlying5
 a5:=Tryz.isAgg5
 z5:=Tryz.sizeOf5
 v5:=Tryz.zeroValue5
 t9:=Tryz.underlying9
 a9:=Tryz.isAgg9
 z9:=Tryz.sizeOf9
 v9:=Tryz.zeroValue9
 t46:=Tryz.underlying138
 a46:=Tryz.isAgg138
 z46:=Tryz.sizeOf138
 v46:=Tryz.zeroValue138
 t51:=Tryz.underlying154
 a51:=Tryz.isAgg154
 z51:=Tryz.sizeOf154
 v51:=Tryz.zeroValue154
 t146:=Tryz.underlying155
 a146:=Tryz.isAgg155
 z146:=Tryz.sizeOf155
 v146:=Tryz.zeroValue155
 g1:=by kernel_rfl}
open Go.RowKit Go.Lib in
theorem Tryz.stringslite_Index_one (s:ByteArray) (c:UInt8) (w:World):
    Calls Tryz.prog 94 #[.string s,.string ⟨#[c]⟩] w fun e w'=>e= .returned (.int .i64 (Lib.indexByte s.data.toList c))∧w'=w:=Any.stringslite_Index_one Tryz.lays219 s c w
def Tryz.lays144_ren:Go.Shelf.Ren:=⟨fun|144=>49|143=>81|219=>94|217=>61|225=>124|224=>125|267=>126|266=>89|314=>146|n=>n,fun|9=>9|4=>4|3=>3|5=>5|46=>138|146=>155|51=>154|n=>n,fun|1=>0|n=>n⟩
theorem Tryz.lays144:Go.Proofs.Lays.n144 Tryz.prog Tryz.lays144_ren:= {
 mixed:=by kernel_rfl
 f143:=Tryz.func81.trans (congrArg some (by kernel_rfl))
 f144:=Tryz.func49.trans (congrArg some (by kernel_rfl))
 f217:=Tryz.func61.trans (congrArg some (by kernel_rfl))
 f219:=Tryz.func94.trans (congrArg some (by kernel_rfl))
 f224:=Tryz.func125.trans (congrArg some (by kernel_rfl))
 f225:=Tryz.func124.trans (congrArg some (by kernel_rfl))
 f266:=Tryz.func89.trans (congrArg some (by kernel_rfl))
 f267:=Tryz.func126.trans (congrArg some (by kernel_rfl))
 f314:=Tryz.func146.trans (congrArg some (by kernel_rfl))
 t3:=Tryz.underlying3
 a3:=Tryz.isAgg3
 z3:=Tryz.sizeOf3
 v3:=Tryz.zeroValue3
 t4:=Tryz.underlying4
 a4:=Tryz.isAgg4
 z4:=Tryz.sizeOf4
 v4:=Tryz.zeroValue4
 t5:=Tryz.underlying5
 a5:=Tryz.isAgg5
 z5:=Tryz.sizeOf5
 v5:=Tryz.zeroValue5
 t9:=Tryz.underlying9
 a9:=Tryz.isAgg9
 z9:=Tryz.sizeOf9
 v9:=Tryz.zeroValue9
 t46:=Tryz.underlying138
 a46:=Tryz.isAgg138
 z46:=Tryz.sizeOf138
 v46:=Tryz.zeroValue138
 t51:=Tryz.underlying154
 a51:=Tryz.isAgg154
 z51:=Tryz.sizeOf154
 v51:=Tryz.zeroValue154
 t146:=Tryz.underlying155
 a146:=Tryz.isAgg155
 z146:=Tryz.sizeOf155
 v146:=Tryz.zeroValue155
 g1:=by kernel_rfl}
open Go.RowKit Go.Lib in
theorem Tryz.strings_Contains_one (s:ByteArray) (c:UInt8) (w:World):
    Calls Tryz.prog 49 #[.string s,.string ⟨#[c]⟩] w fun e w'=>e= .returned (.bool (decide (0≤Lib.indexByte s.data.toList c)))∧w'=w:=Any.strings_Contains_one Tryz.lays144 s c w
def Tryz.lays138_ren:Go.Shelf.Ren:=⟨fun|138=>168|195=>177|218=>178|143=>81|219=>94|217=>61|225=>124|224=>125|267=>126|266=>89|314=>146|n=>n,fun|9=>9|3=>3|4=>4|5=>5|0=>0|46=>138|146=>155|51=>154|n=>n,fun|1=>0|n=>n⟩
theorem Tryz.lays138:Go.Proofs.Lays.n138 Tryz.prog Tryz.lays138_ren:= {
 mixed:=by kernel_rfl
 f138:=Tryz.func168.trans (congrArg some (by kernel_rfl))
 f143:=Tryz.func81.trans (congrArg some (by kernel_rfl))
 f195:=Tryz.func177.trans (congrArg some (by kernel_rfl))
 f217:=Tryz.func61.trans (congrArg some (by kernel_rfl))
 f218:=Tryz.func178.trans (congrArg some (by kernel_rfl))
 f219:=Tryz.func94.trans (congrArg some (by kernel_rfl))
 f224:=Tryz.func125.trans (congrArg some (by kernel_rfl))
 f225:=Tryz.func124.trans (congrArg some (by kernel_rfl))
 f266:=Tryz.func89.trans (congrArg some (by kernel_rfl))
 f267:=Tryz.func126.trans (congrArg some (by kernel_rfl))
 f314:=Tryz.func146.trans (congrArg some (by kernel_rfl))
 t0:=Tryz.underlying0
 a0:=Tryz.isAgg0
 z0:=Tryz.sizeOf0
 v0:=Tryz.zeroValue0
 t3:=Tryz.underlying3
 a3:=Tryz.isAgg3
 z3:=Tryz.sizeOf3
 v3:=Tryz.zeroValue3
 t4:=Tryz.underlying4
 a4:=Tryz.isAgg4
 z4:=Tryz.sizeOf4
 v4:=Tryz.zeroValue4
 t5:=Tryz.underlying5
 a5:=Tryz.isAgg5
 z5:=Tryz.sizeOf5
 v5:=Tryz.zeroValue5
 t9:=Tryz.underlying9
 a9:=Tryz.isAgg9
 z9:=Tryz.sizeOf9
 v9:=Tryz.zeroValue9
 t46:=Tryz.underlying138
 a46:=Tryz.isAgg138
 z46:=Tryz.sizeOf138
 v46:=Tryz.zeroValue138
 t51:=Tryz.underlying154
 a51:=Tryz.isAgg154
 z51:=Tryz.sizeOf154
 v51:=Tryz.zeroValue154
 t146:=Tryz.underlying155
 a146:=Tryz.isAgg155
 z146:=Tryz.sizeOf155
 v146:=Tryz.zeroValue155
 g1:=by kernel_rfl}
open Go.RowKit Go.Lib in
theorem Tryz.strings_Count_one (s:ByteArray) (c:UInt8) (w:World):
    Calls Tryz.prog 168 #[.string s,.string ⟨#[c]⟩] w fun e w'=>e= .returned (.int .i64 (Lib.countByte s.data.toList c))∧w'=w:=Any.strings_Count_one Tryz.lays138 s c w
def Tryz.lays99_ren:Go.Shelf.Ren:=⟨fun|99=>39|206=>69|n=>n,fun|9=>9|4=>4|3=>3|n=>n,fun|n=>n⟩
theorem Tryz.lays99:Go.Proofs.Lays.n99 Tryz.prog Tryz.lays99_ren:= {
 mixed:=by kernel_rfl
 f99:=Tryz.func39.trans (congrArg some (by kernel_rfl))
 f206:=Tryz.func69.trans (congrArg some (by kernel_rfl))
 t3:=Tryz.underlying3
 a3:=Tryz.isAgg3
 z3:=Tryz.sizeOf3
 v3:=Tryz.zeroValue3
 t4:=Tryz.underlying4
 a4:=Tryz.isAgg4
 z4:=Tryz.sizeOf4
 v4:=Tryz.zeroValue4
 t9:=Tryz.underlying9
 a9:=Tryz.isAgg9
 z9:=Tryz.sizeOf9
 v9:=Tryz.zeroValue9}
open Go.RowKit Go.Lib in
theorem Tryz.strings_HasPrefix (s p:ByteArray) (w:World):
    Calls Tryz.prog 39 #[.string s,.string p] w fun e w'=>e= .returned (.bool (Lib.hasPrefix s.data.toList p.data.toList))∧w'=w:=Any.strings_HasPrefix Tryz.lays99 s p w
end Go.Proofs
namespace Go.Proofs.YtfgegjinhkgpbaaGreatDoor
set_option maxHeartbeats 4000000
set_option maxRecDepth 100000
open Go.RowKit
open Lib (hid)
namespace W14
open M14
open Row256 (Beside)
open Kit (ret_str ret_bool ret_int mk_of mk_bytes ba_ext below_draws on list_full list_ne list_none list_nil)
theorem index_here {l:List UInt8} {c:UInt8} (h:c∈l):Lib.indexByte l c=((before c l).length:Int):=by
 induction l with
 |nil=>simp at h
 |cons d l ih=>
  unfold Lib.indexByte
  by_cases e:d=c
  ·subst e;rw[before_here];simp
  ·have hl:c∈l:=by
     rcases List.mem_cons.1 h with q|q
     ·exact absurd q.symm e
     ·exact q
   rw[if_neg (by simpa using e),ih hl,before_skip e,if_neg (by simp)]
   simp
theorem index_none {l:List UInt8} {c:UInt8} (h: ¬c∈l):Lib.indexByte l c= -1:=by
 induction l with
 |nil=>rfl
 |cons d l ih=>
  unfold Lib.indexByte
  have e: ¬d=c:=fun e=>h (by simp[e])
  rw[if_neg (by simpa using e),ih (fun q=>h (by simp[q]))]
  rfl
theorem before_take {l:List UInt8} {c:UInt8}:l.take (before c l).length=before c l:=by
 induction l with
 |nil=>rfl
 |cons d l ih=>
  by_cases e:d=c
  ·subst e;rw[before_here];rfl
  ·rw[before_skip e];simp[ih]
theorem before_drop {l:List UInt8} {c:UInt8}:l.drop ((before c l).length+1)=behind c l:=by
 induction l with
 |nil=>rfl
 |cons d l ih=>
  by_cases e:d=c
  ·subst e;rw[before_here,behind_here];rfl
  ·rw[before_skip e]
   have:behind c (d::l)=behind c l:=by unfold behind;simp[e]
   rw[this,←ih];simp
theorem before_less {l:List UInt8} {c:UInt8} (h:c∈l):(before c l).length<l.length:=by
 induction l with
 |nil=>simp at h
 |cons d l ih=>
  by_cases e:d=c
  ·subst e;rw[before_here];simp
  ·have hl:c∈l:=by
     rcases List.mem_cons.1 h with q|q
     ·exact absurd q.symm e
     ·exact q
   rw[before_skip e];simp only[List.length_cons];have:=ih hl;omega
theorem behind_none {l:List UInt8} {c:UInt8} (h: ¬c∈l):behind c l= []:=by
 have:=behind_clean h []
 rw[List.append_nil]at this
 rw[this];rfl
def CutAt (w:World) (d:Bool) (A B:List UInt8) (e:Ending) (w':World):Prop:= ∃a b:ByteArray,e= .returned (.tuple #[.string a,.string b,.bool d])∧a.data.toList=A∧b.data.toList=B∧ ∃n,w'=w.drewN n
theorem bytes_mk (l:List UInt8):(⟨l.toArray⟩:ByteArray).data.toList=l:=rfl
theorem cutL_any (s:ByteArray) (hs:s.size≤1000000) (c:UInt8) (w:World):Calls Tryz.prog 70 #[.string s,.string ⟨#[c]⟩] w (CutAt w (decide (c∈s.data.toList)) (before c s.data.toList) (behind c s.data.toList)):=by
 have hl:s.data.toList.length=s.size:=(Lib.size_eq s).symm
 by_cases hc:c∈s.data.toList
 ·have HI:=hid (index_here hc)
  have hlt:=before_less hc
  have HA:Hid ((s.extract 0 (before c s.data.toList).length).data.toList=before c s.data.toList):=by
   show _=_
   rw[Kit.take_bytes,before_take]
  have HB:Hid ((s.extract ((before c s.data.toList).length+1) s.size).data.toList=behind c s.data.toList):=by
   show _=_
   rw[Kit.drop_bytes,before_drop]
  have HD:=hid (decide_eq_true hc)
  rw[HD.out]
  have HCA:=HA.out.symm
  have HCB:=HB.out.symm
  obtain⟨k,hk⟩: ∃k,(before c s.data.toList).length=k:=⟨_,rfl⟩
  rw[hk]at HI HA HB HCA HCB hlt
  rw[HCA,HCB]
  have h1:k<s.size:=by omega
  have h2:(k:Int)<(s.size:Int):=by omega
  have hw:wrap64 ((k:Int)+1)=((k+1:Nat):Int):=by unfold wrap64;omega
  have h3:((k+1:Nat):Int)≤(s.size:Int):=by omega
  clear HA HB HCA HCB hk hlt hl hc HD
  go_enter Tryz.func70,Tryz.ntmps70
  go_wp2_with (go_at_call 94;refine(Tryz.stringslite_Index_one s c w).mono ?_;rintro e w' ⟨rfl,rfl⟩;rw[HI.out])
  go_quiet (fail)
  go_wp2_with fail
  refine bodyPost_ret (results_tmp3 rfl _ _ _) rfl ?_
  exact⟨_,_,rfl,by first|rfl|(simp),by first|rfl|simp,nq,rfl⟩
 ·have HI:=hid (index_none hc)
  have HD:=hid (decide_eq_false hc)
  have HB:=hid (behind_none hc)
  have HA:=hid (before_all hc)
  rw[HD.out,HA.out,HB.out]
  clear HA HB HD hl hc
  go_enter Tryz.func70,Tryz.ntmps70
  go_wp2_with (go_at_call 94;refine(Tryz.stringslite_Index_one s c w).mono ?_;rintro e w' ⟨rfl,rfl⟩;rw[HI.out])
  refine bodyPost_ret (results_tmp3 rfl _ _ _) rfl ?_
  exact⟨_,_,rfl,rfl,rfl,0,rfl⟩
theorem cut_any (s:ByteArray) (hs:s.size≤1000000) (c:UInt8) (w:World):Calls Tryz.prog 40 #[.string s,.string ⟨#[c]⟩] w (CutAt w (decide (c∈s.data.toList)) (before c s.data.toList) (behind c s.data.toList)):=by
 have HC:=hid (cutL_any s hs c w)
 generalize decide (c∈s.data.toList)=d at*
 generalize before c s.data.toList=A at*
 generalize behind c s.data.toList=B at*
 go_enter Tryz.func40,Tryz.ntmps40
 go_wp2_with fail
 refine HC.out.mono ?_
 rintro e w' ⟨a,b,rfl,h1,h2,n,rfl⟩
 have H1:=hid h1
 have H2:=hid h2
 clear h1 h2
 go_wp2_with fail
 refine bodyPost_ret (results_tmp3 rfl _ _ _) rfl ?_
 exact⟨a,b,rfl,H1.out,H2.out,n,rfl⟩
/-! digits -/
theorem info256:(Tryz.prog.info? (Tryz.lays160_ren.t 116)).map (fun i=>(i.zero,i.size))=some (some (.agg (Array.replicate 256 (.bool false))),256):=by kernel_rfl
def tens:List UInt8:= [48,49,50,51,52,53,54,55,56,57]
theorem tens_dig (c:UInt8):tens.contains c=dig c:=by
 have h: ∀n:Fin 256,tens.contains (UInt8.ofNat n.val)=dig (UInt8.ofNat n.val):=by decide+kernel
 have:=h ⟨c.toNat,c.toNat_lt⟩
 simpa using this
theorem drop_dig: ∀(l:List UInt8),l.all dig=true→l.dropWhile dig= []
 | [],_=>rfl
 |c::l,h=>by
  rw[List.all_cons,Bool.and_eq_true]at h
  rw[List.dropWhile_cons_of_pos h.1]
  exact drop_dig l h.2
theorem trim_nil {t:List UInt8}:(Lib.trimS t tens== [])=t.all dig:=by
 have e:(fun c=>tens.contains c)=dig:=funext tens_dig
 unfold Lib.trimS Lib.trimLeftS Lib.trimRightS
 rw[e]
 cases h:t.all dig with
 |true=>
  have:t.reverse.dropWhile dig= []:=by
   refine drop_dig _ (List.all_eq_true.2 fun x hx=> ?_)
   exact List.all_eq_true.1 h x (List.mem_reverse.1 hx)
  rw[this];rfl
 |false=>
  obtain⟨x,hx,hn⟩: ∃x,x∈t∧dig x=false:=by
   have:=List.all_eq_false.1 h
   obtain⟨x,hx,hn⟩:=this
   exact⟨x,hx,by simpa using hn⟩
  have h1: ∀l:List UInt8,x∈l→x∈l.dropWhile dig:=by
   intro l
   induction l with
   |nil=>intro q;simp at q
   |cons d l ih=>
    intro q
    by_cases hd:dig d=true
    ·rw[List.dropWhile_cons_of_pos hd]
     rcases List.mem_cons.1 q with q|q
     ·subst q;rw[hn]at hd;cases hd
     ·exact ih q
    ·rw[List.dropWhile_cons_of_neg hd];exact q
  have h2:=h1 _ (List.mem_reverse.2 (h1 _ (List.mem_reverse.2 hx)))
  cases hq:(List.dropWhile dig (List.dropWhile dig t.reverse).reverse)with
  |nil=>rw[hq]at h2;simp at h2
  |cons a b=>rfl
theorem trim_any (s:ByteArray) (hs:s.size≤1000000) (w:World):Calls Tryz.prog 38 #[.string s,.string ⟨#[48,49,50,51,52,53,54,55,56,57]⟩] w fun e w'=> ∃d:ByteArray,e= .returned (.string d)∧d.toList.isEmpty=s.data.toList.all dig∧Below w.heap.size w w':=by
 refine Calls.mono (Any.strings_Trim_laid Tryz.lays160 info256 s ⟨#[48,49,50,51,52,53,54,55,56,57]⟩ w (by omega) (by decide) (ascii_of_all (by decide))) ?_
 rintro e w1 ⟨rfl,hb⟩
 refine⟨_,rfl,?_,hb⟩
 rw[←trim_nil,Lib.toList_data,bytes_mk]
 show(Lib.trimS s.data.toList tens).isEmpty=_
 cases Lib.trimS s.data.toList tens<;>rfl
theorem isNumber_any (s:ByteArray) (hs:s.size≤1000000) (w:World):Calls Tryz.prog 172 #[.string s] w fun e w'=>e= .returned (.bool (isNum s.data.toList))∧Below w.heap.size w w':=by
 have hl:s.data.toList.length=s.size:=(Lib.size_eq s).symm
 by_cases h0:0<s.size
 ·have he:=list_full h0
  by_cases h3:s.size≤3
  ·have HV:Hid (isNum s.data.toList=s.data.toList.all dig):=by
     unfold Hid isNum
     rw[decide_eq_true (Kit.bytes_ne h0),decide_eq_true (by omega),Bool.true_and,Bool.true_and]
   have h3':(s.size:Int)≤3:=by omega
   have HT:=hid (trim_any s hs w)
   rw[HV.out]
   generalize s.data.toList.all dig=b at*
   clear hl HV
   go_enter Tryz.func172,Tryz.ntmps172
   go_wp2_with fail
   refine HT.out.mono ?_
   rintro e w1 ⟨d,rfl,hd,hb⟩
   have HB:=hid hb
   clear hb
   go_wp2_with fail
   go_ret
   exact⟨rfl,HB.out⟩
  ·have HV:Hid (isNum s.data.toList=false):=by
     unfold Hid isNum
     rw[decide_eq_false (p:=s.data.toList.length≤3) (by omega),Bool.false_and,Bool.and_false]
   have h3': ¬(s.size:Int)≤3:=by omega
   rw[HV.out]
   clear hl HV
   go_enter Tryz.func172,Tryz.ntmps172
   go_wp2_with fail
   go_ret
   exact⟨rfl,Below.refl _ _⟩
 ·have he:=list_none h0
  have HV:Hid (isNum s.data.toList=false):=by
   unfold Hid isNum
   rw[Kit.bytes_nil h0];rfl
  rw[HV.out]
  clear hl HV
  go_enter Tryz.func172,Tryz.ntmps172
  go_wp2_with fail
  go_ret
  exact⟨rfl,Below.refl _ _⟩
theorem digitVal_dig {c:UInt8} (h:dig c=true):Lib.digitVal c=some (c.toNat-48):=by
 unfold Lib.digitVal
 unfold dig at h
 simp only[Bool.and_eq_true,decide_eq_true_eq]at h
 rw[if_pos ⟨h.1,h.2⟩]
theorem decFrom_dig: ∀(l:List UInt8) (n:Nat),l.all dig=true→Lib.decFrom n l=some (l.foldl (fun n c=>n*10+(c.toNat-48)) n)
 | [],n,_=>rfl
 |c::l,n,h=>by
  rw[List.all_cons,Bool.and_eq_true]at h
  unfold Lib.decFrom
  rw[digitVal_dig h.1]
  exact decFrom_dig l _ h.2
theorem atoi_num {t:List UInt8} (h:isNum t=true):Lib.atoi t=some (val t:Int):=by
 unfold isNum at h
 simp only[Bool.and_eq_true,decide_eq_true_eq]at h
 obtain⟨h1,-,h2⟩:=h
 cases t with
 |nil=>exact absurd rfl h1
 |cons c l=>
  have hc:=(List.all_cons▸h2:(dig c&&l.all dig)=true)
  have hd:dig c=true:=(Bool.and_eq_true_iff.1 hc).1
  have n45: ¬c=45:=by rintro rfl;revert hd;decide
  have n43: ¬c=43:=by rintro rfl;revert hd;decide
  unfold Lib.atoi
  simp only
  rw[if_neg (by simpa using n45),if_neg (by simpa using n43)]
  unfold Lib.decNat
  rw[if_neg (by simp),decFrom_dig _ _ h2]
  rfl
theorem value_any (s:ByteArray) (h:isNum s.data.toList=true) (w:World):Calls Tryz.prog 173 #[.string s] w fun e w'=>e= .returned (.int .i64 (val s.data.toList))∧Below w.heap.size w w':=by
 have hz:s.size≤3:=by
  unfold isNum at h
  simp only[Bool.and_eq_true,decide_eq_true_eq]at h
  rw[Lib.size_eq];exact h.2.1
 have HT:=hid (Tryz.strconv_Atoi s (val s.data.toList) (by omega) (atoi_num h) w)
 generalize val s.data.toList=n at*
 clear h
 go_enter Tryz.func173,Tryz.ntmps173
 go_wp2_with fail
 refine HT.out.mono ?_
 rintro e w1 ⟨rfl,t,rfl⟩
 go_wp2_with fail
 go_ret
 exact⟨rfl,Joins.below_bytesWorld _ _ _ _ (Nat.le_refl _)⟩
theorem mayBe_any (m t:Int) (w:World):Calls Tryz.prog 129 #[.int .i64 m,.int .i64 t] w fun e w'=>e= .returned (.bool (mayB m t))∧w'=w:=by
 by_cases h1:0≤m
 ·by_cases h2:m≤100
  ·by_cases h3:t= -1
   ·have t3:(t== -1)=true:=by simpa using h3
    have HV:Hid (mayB m t=true):=by
     unfold Hid mayB
     simp[h1,h2,h3]
    rw[HV.out]
    clear HV
    go_enter Tryz.func129,Tryz.ntmps129
    go_wp2_with fail
    go_ret
    exact⟨rfl,rfl⟩
   ·have t3:(t== -1)=false:=by simpa using h3
    by_cases h4:m≤t
    ·by_cases h5:t≤100
     ·skip
      have HV:Hid (mayB m t=true):=by
       unfold Hid mayB
       simp[h1,h2,h3,h4,h5]
      rw[HV.out]
      clear HV
      go_enter Tryz.func129,Tryz.ntmps129
      go_wp2_with fail
      go_ret
      exact⟨rfl,rfl⟩
     ·skip
      have HV:Hid (mayB m t=false):=by
       unfold Hid mayB
       simp[h1,h2,h3,h4,h5]
      rw[HV.out]
      clear HV
      go_enter Tryz.func129,Tryz.ntmps129
      go_wp2_with fail
      go_ret
      exact⟨rfl,rfl⟩
    ·skip
     have HV:Hid (mayB m t=false):=by
      unfold Hid mayB
      simp[h1,h2,h3,h4]
     rw[HV.out]
     clear HV
     go_enter Tryz.func129,Tryz.ntmps129
     go_wp2_with fail
     go_ret
     exact⟨rfl,rfl⟩
  ·skip
   have HV:Hid (mayB m t=false):=by
    unfold Hid mayB
    simp[h1,h2]
   rw[HV.out]
   clear HV
   go_enter Tryz.func129,Tryz.ntmps129
   go_wp2_with fail
   go_ret
   exact⟨rfl,rfl⟩
 ·skip
  have HV:Hid (mayB m t=false):=by
   unfold Hid mayB
   simp[h1]
  rw[HV.out]
  clear HV
  go_enter Tryz.func129,Tryz.ntmps129
  go_wp2_with fail
  go_ret
  exact⟨rfl,rfl⟩
end W14
end Go.Proofs.YtfgegjinhkgpbaaGreatDoor
