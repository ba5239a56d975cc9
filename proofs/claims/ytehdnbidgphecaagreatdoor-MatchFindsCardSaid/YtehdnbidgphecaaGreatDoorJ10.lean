/-
  Texts joined, in build order, each with its own comment and its own conditions: W15Goes, W15RefRight.
-/
import Derived.Test.YtehdnbidgphecaaGreatDoorJ03
import Derived.Test.YtehdnbidgphecaaGreatDoorJ08
import Derived.Deep.LoopGhost
import Derived.Test.YtehdnbidgphecaaGreatDoorTake
import Derived.Test.YtehdnbidgphecaaGreatDoorJ09
import Derived.Deep.RegionHeld3
import Derived.BigQuiet
namespace Go.Proofs.YtehdnbidgphecaaGreatDoor
set_option maxHeartbeats 4000000
set_option maxRecDepth 100000
open Go.RowKit
open Lib (hid)
namespace W15
open Strs Recs M15
open M13 (good)
open W14 (two_new cell_block)
open Kit (below_draws on)
theorem goes_1 (t:ByteArray) (a b:Int) (n:Nat) (w:World):Calls Tryz.prog 52 #[.agg (insA ⟨1,t,a,b⟩),.int .i64 n] w fun e w'=>e= .returned (.bool (goes 1 a b n))∧Below w.heap.size w w':=by
 have hv:goes 1 a b n=(place a n&&decide (b=0)):=rfl
 rw[hv]
 have HP:=hid (fun w=>isPlace_any a n w)
 generalize place a n=q at*
 clear hv
 cases q with
 |false=>
  rw[Bool.false_and]
  go_enter Tryz.func52,Tryz.ntmps52
  go_wp2_with (first
   |(refine box_ins (r:=⟨1,t,a,b⟩) rfl (.tmp 0) rfl rfl ?_;intro w1 b1 e1 p1 l1 z1;have c0:=p1.c0;have c2:=p1.c2;have c3:=p1.c3;have L1:=hid l1;clear e1 p1 l1 z1;simp only at c0 c2 c3))
  refine(HP.out _).mono ?_
  rintro e w2 ⟨rfl,rfl⟩
  go_wp2_with fail
  go_ret
  exact⟨rfl,L1.out⟩
 |true=>
  rw[Bool.true_and]
  by_cases hb:b=0
  ·rw[decide_eq_true hb]
   subst hb
   go_enter Tryz.func52,Tryz.ntmps52
   go_wp2_with (first
    |(refine box_ins (r:=⟨1,t,a,0⟩) rfl (.tmp 0) rfl rfl ?_;intro w1 b1 e1 p1 l1 z1;have c0:=p1.c0;have c2:=p1.c2;have c3:=p1.c3;have L1:=hid l1;clear e1 p1 l1 z1;simp only at c0 c2 c3))
   refine(HP.out _).mono ?_
   rintro e w2 ⟨rfl,rfl⟩
   go_wp2_with fail
   go_ret
   exact⟨rfl,L1.out⟩
  ·rw[decide_eq_false hb]
   have tb:(b==0)=false:=by simpa using hb
   clear hb
   go_enter Tryz.func52,Tryz.ntmps52
   go_wp2_with (first
    |(refine box_ins (r:=⟨1,t,a,b⟩) rfl (.tmp 0) rfl rfl ?_;intro w1 b1 e1 p1 l1 z1;have c0:=p1.c0;have c2:=p1.c2;have c3:=p1.c3;have L1:=hid l1;clear e1 p1 l1 z1;simp only at c0 c2 c3))
   refine(HP.out _).mono ?_
   rintro e w2 ⟨rfl,rfl⟩
   go_wp2_with fail
   go_ret
   exact⟨rfl,L1.out⟩
theorem goes_2 (t:ByteArray) (a b:Int) (n:Nat) (w:World):Calls Tryz.prog 52 #[.agg (insA ⟨2,t,a,b⟩),.int .i64 n] w fun e w'=>e= .returned (.bool (goes 2 a b n))∧Below w.heap.size w w':=by
 have hv:goes 2 a b n=(place a n&&decide (b=0)):=rfl
 rw[hv]
 have HP:=hid (fun w=>isPlace_any a n w)
 generalize place a n=q at*
 clear hv
 cases q with
 |false=>
  rw[Bool.false_and]
  go_enter Tryz.func52,Tryz.ntmps52
  go_wp2_with (first
   |(refine box_ins (r:=⟨2,t,a,b⟩) rfl (.tmp 0) rfl rfl ?_;intro w1 b1 e1 p1 l1 z1;have c0:=p1.c0;have c2:=p1.c2;have c3:=p1.c3;have L1:=hid l1;clear e1 p1 l1 z1;simp only at c0 c2 c3))
  refine(HP.out _).mono ?_
  rintro e w2 ⟨rfl,rfl⟩
  go_wp2_with fail
  go_ret
  exact⟨rfl,L1.out⟩
 |true=>
  rw[Bool.true_and]
  by_cases hb:b=0
  ·rw[decide_eq_true hb]
   subst hb
   go_enter Tryz.func52,Tryz.ntmps52
   go_wp2_with (first
    |(refine box_ins (r:=⟨2,t,a,0⟩) rfl (.tmp 0) rfl rfl ?_;intro w1 b1 e1 p1 l1 z1;have c0:=p1.c0;have c2:=p1.c2;have c3:=p1.c3;have L1:=hid l1;clear e1 p1 l1 z1;simp only at c0 c2 c3))
   refine(HP.out _).mono ?_
   rintro e w2 ⟨rfl,rfl⟩
   go_wp2_with fail
   go_ret
   exact⟨rfl,L1.out⟩
  ·rw[decide_eq_false hb]
   have tb:(b==0)=false:=by simpa using hb
   clear hb
   go_enter Tryz.func52,Tryz.ntmps52
   go_wp2_with (first
    |(refine box_ins (r:=⟨2,t,a,b⟩) rfl (.tmp 0) rfl rfl ?_;intro w1 b1 e1 p1 l1 z1;have c0:=p1.c0;have c2:=p1.c2;have c3:=p1.c3;have L1:=hid l1;clear e1 p1 l1 z1;simp only at c0 c2 c3))
   refine(HP.out _).mono ?_
   rintro e w2 ⟨rfl,rfl⟩
   go_wp2_with fail
   go_ret
   exact⟨rfl,L1.out⟩
theorem goes_3 (t:ByteArray) (a b:Int) (n:Nat) (w:World):Calls Tryz.prog 52 #[.agg (insA ⟨3,t,a,b⟩),.int .i64 n] w fun e w'=>e= .returned (.bool (goes 3 a b n))∧Below w.heap.size w w':=by
 have hv:goes 3 a b n=(place a n&&decide (b=0)):=rfl
 rw[hv]
 have HP:=hid (fun w=>isPlace_any a n w)
 generalize place a n=q at*
 clear hv
 cases q with
 |false=>
  rw[Bool.false_and]
  go_enter Tryz.func52,Tryz.ntmps52
  go_wp2_with (first
   |(refine box_ins (r:=⟨3,t,a,b⟩) rfl (.tmp 0) rfl rfl ?_;intro w1 b1 e1 p1 l1 z1;have c0:=p1.c0;have c2:=p1.c2;have c3:=p1.c3;have L1:=hid l1;clear e1 p1 l1 z1;simp only at c0 c2 c3))
  refine(HP.out _).mono ?_
  rintro e w2 ⟨rfl,rfl⟩
  go_wp2_with fail
  go_ret
  exact⟨rfl,L1.out⟩
 |true=>
  rw[Bool.true_and]
  by_cases hb:b=0
  ·rw[decide_eq_true hb]
   subst hb
   go_enter Tryz.func52,Tryz.ntmps52
   go_wp2_with (first
    |(refine box_ins (r:=⟨3,t,a,0⟩) rfl (.tmp 0) rfl rfl ?_;intro w1 b1 e1 p1 l1 z1;have c0:=p1.c0;have c2:=p1.c2;have c3:=p1.c3;have L1:=hid l1;clear e1 p1 l1 z1;simp only at c0 c2 c3))
   refine(HP.out _).mono ?_
   rintro e w2 ⟨rfl,rfl⟩
   go_wp2_with fail
   go_ret
   exact⟨rfl,L1.out⟩
  ·rw[decide_eq_false hb]
   have tb:(b==0)=false:=by simpa using hb
   clear hb
   go_enter Tryz.func52,Tryz.ntmps52
   go_wp2_with (first
    |(refine box_ins (r:=⟨3,t,a,b⟩) rfl (.tmp 0) rfl rfl ?_;intro w1 b1 e1 p1 l1 z1;have c0:=p1.c0;have c2:=p1.c2;have c3:=p1.c3;have L1:=hid l1;clear e1 p1 l1 z1;simp only at c0 c2 c3))
   refine(HP.out _).mono ?_
   rintro e w2 ⟨rfl,rfl⟩
   go_wp2_with fail
   go_ret
   exact⟨rfl,L1.out⟩
theorem goes_4 (t:ByteArray) (a b:Int) (n:Nat) (w:World):Calls Tryz.prog 52 #[.agg (insA ⟨4,t,a,b⟩),.int .i64 n] w fun e w'=>e= .returned (.bool (goes 4 a b n))∧Below w.heap.size w w':=by
 have hv:goes 4 a b n=(place a n&&decide (b=0)):=rfl
 rw[hv]
 have HP:=hid (fun w=>isPlace_any a n w)
 generalize place a n=q at*
 clear hv
 cases q with
 |false=>
  rw[Bool.false_and]
  go_enter Tryz.func52,Tryz.ntmps52
  go_wp2_with (first
   |(refine box_ins (r:=⟨4,t,a,b⟩) rfl (.tmp 0) rfl rfl ?_;intro w1 b1 e1 p1 l1 z1;have c0:=p1.c0;have c2:=p1.c2;have c3:=p1.c3;have L1:=hid l1;clear e1 p1 l1 z1;simp only at c0 c2 c3))
  refine(HP.out _).mono ?_
  rintro e w2 ⟨rfl,rfl⟩
  go_wp2_with fail
  go_ret
  exact⟨rfl,L1.out⟩
 |true=>
  rw[Bool.true_and]
  by_cases hb:b=0
  ·rw[decide_eq_true hb]
   subst hb
   go_enter Tryz.func52,Tryz.ntmps52
   go_wp2_with (first
    |(refine box_ins (r:=⟨4,t,a,0⟩) rfl (.tmp 0) rfl rfl ?_;intro w1 b1 e1 p1 l1 z1;have c0:=p1.c0;have c2:=p1.c2;have c3:=p1.c3;have L1:=hid l1;clear e1 p1 l1 z1;simp only at c0 c2 c3))
   refine(HP.out _).mono ?_
   rintro e w2 ⟨rfl,rfl⟩
   go_wp2_with fail
   go_ret
   exact⟨rfl,L1.out⟩
  ·rw[decide_eq_false hb]
   have tb:(b==0)=false:=by simpa using hb
   clear hb
   go_enter Tryz.func52,Tryz.ntmps52
   go_wp2_with (first
    |(refine box_ins (r:=⟨4,t,a,b⟩) rfl (.tmp 0) rfl rfl ?_;intro w1 b1 e1 p1 l1 z1;have c0:=p1.c0;have c2:=p1.c2;have c3:=p1.c3;have L1:=hid l1;clear e1 p1 l1 z1;simp only at c0 c2 c3))
   refine(HP.out _).mono ?_
   rintro e w2 ⟨rfl,rfl⟩
   go_wp2_with fail
   go_ret
   exact⟨rfl,L1.out⟩
theorem goes_5 (t:ByteArray) (a b:Int) (n:Nat) (w:World):Calls Tryz.prog 52 #[.agg (insA ⟨5,t,a,b⟩),.int .i64 n] w fun e w'=>e= .returned (.bool (goes 5 a b n))∧Below w.heap.size w w':=by
 have hv:goes 5 a b n=(place a n&&decide (b=0)):=rfl
 rw[hv]
 have HP:=hid (fun w=>isPlace_any a n w)
 generalize place a n=q at*
 clear hv
 cases q with
 |false=>
  rw[Bool.false_and]
  go_enter Tryz.func52,Tryz.ntmps52
  go_wp2_with (first
   |(refine box_ins (r:=⟨5,t,a,b⟩) rfl (.tmp 0) rfl rfl ?_;intro w1 b1 e1 p1 l1 z1;have c0:=p1.c0;have c2:=p1.c2;have c3:=p1.c3;have L1:=hid l1;clear e1 p1 l1 z1;simp only at c0 c2 c3))
  refine(HP.out _).mono ?_
  rintro e w2 ⟨rfl,rfl⟩
  go_wp2_with fail
  go_ret
  exact⟨rfl,L1.out⟩
 |true=>
  rw[Bool.true_and]
  by_cases hb:b=0
  ·rw[decide_eq_true hb]
   subst hb
   go_enter Tryz.func52,Tryz.ntmps52
   go_wp2_with (first
    |(refine box_ins (r:=⟨5,t,a,0⟩) rfl (.tmp 0) rfl rfl ?_;intro w1 b1 e1 p1 l1 z1;have c0:=p1.c0;have c2:=p1.c2;have c3:=p1.c3;have L1:=hid l1;clear e1 p1 l1 z1;simp only at c0 c2 c3))
   refine(HP.out _).mono ?_
   rintro e w2 ⟨rfl,rfl⟩
   go_wp2_with fail
   go_ret
   exact⟨rfl,L1.out⟩
  ·rw[decide_eq_false hb]
   have tb:(b==0)=false:=by simpa using hb
   clear hb
   go_enter Tryz.func52,Tryz.ntmps52
   go_wp2_with (first
    |(refine box_ins (r:=⟨5,t,a,b⟩) rfl (.tmp 0) rfl rfl ?_;intro w1 b1 e1 p1 l1 z1;have c0:=p1.c0;have c2:=p1.c2;have c3:=p1.c3;have L1:=hid l1;clear e1 p1 l1 z1;simp only at c0 c2 c3))
   refine(HP.out _).mono ?_
   rintro e w2 ⟨rfl,rfl⟩
   go_wp2_with fail
   go_ret
   exact⟨rfl,L1.out⟩
theorem goes_6 (t:ByteArray) (a b:Int) (n:Nat) (w:World):Calls Tryz.prog 52 #[.agg (insA ⟨6,t,a,b⟩),.int .i64 n] w fun e w'=>e= .returned (.bool (goes 6 a b n))∧Below w.heap.size w w':=by
 have hv:goes 6 a b n=(place a n&&place b n):=rfl
 rw[hv]
 have HP:=hid (fun w=>isPlace_any a n w)
 have HQ:=hid (fun w=>isPlace_any b n w)
 generalize place a n=q at*
 generalize place b n=q2 at*
 clear hv
 cases q with
 |false=>
  rw[Bool.false_and]
  go_enter Tryz.func52,Tryz.ntmps52
  go_wp2_with (first
   |(refine box_ins (r:=⟨6,t,a,b⟩) rfl (.tmp 0) rfl rfl ?_;intro w1 b1 e1 p1 l1 z1;have c0:=p1.c0;have c2:=p1.c2;have c3:=p1.c3;have L1:=hid l1;clear e1 p1 l1 z1;simp only at c0 c2 c3))
  refine(HP.out _).mono ?_
  rintro e w2 ⟨rfl,rfl⟩
  go_wp2_with fail
  go_ret
  exact⟨rfl,L1.out⟩
 |true=>
  rw[Bool.true_and]
  go_enter Tryz.func52,Tryz.ntmps52
  go_wp2_with (first
   |(refine box_ins (r:=⟨6,t,a,b⟩) rfl (.tmp 0) rfl rfl ?_;intro w1 b1 e1 p1 l1 z1;have c0:=p1.c0;have c2:=p1.c2;have c3:=p1.c3;have L1:=hid l1;clear e1 p1 l1 z1;simp only at c0 c2 c3))
  refine(HP.out _).mono ?_
  rintro e w2 ⟨rfl,rfl⟩
  go_wp2_with fail
  refine(HQ.out _).mono ?_
  rintro e w2 ⟨rfl,rfl⟩
  go_wp2_with fail
  go_ret
  exact⟨rfl,L1.out⟩
theorem goes_7 (t:ByteArray) (a b:Int) (n:Nat) (w:World):Calls Tryz.prog 52 #[.agg (insA ⟨7,t,a,b⟩),.int .i64 n] w fun e w'=>e= .returned (.bool (goes 7 a b n))∧Below w.heap.size w w':=by
 have hv:goes 7 a b n=(decide (a=0)&&decide (b=0)):=rfl
 rw[hv]
 clear hv
 by_cases ha:a=0
 ·rw[decide_eq_true ha,Bool.true_and]
  subst ha
  by_cases hb:b=0
  ·rw[decide_eq_true hb]
   subst hb
   go_enter Tryz.func52,Tryz.ntmps52
   go_wp2_with (first
    |(refine box_ins (r:=⟨7,t,0,0⟩) rfl (.tmp 0) rfl rfl ?_;intro w1 b1 e1 p1 l1 z1;have c0:=p1.c0;have c2:=p1.c2;have c3:=p1.c3;have L1:=hid l1;clear e1 p1 l1 z1;simp only at c0 c2 c3))
   go_ret
   exact⟨rfl,L1.out⟩
  ·rw[decide_eq_false hb]
   have tb:(b==0)=false:=by simpa using hb
   clear hb
   go_enter Tryz.func52,Tryz.ntmps52
   go_wp2_with (first
    |(refine box_ins (r:=⟨7,t,0,b⟩) rfl (.tmp 0) rfl rfl ?_;intro w1 b1 e1 p1 l1 z1;have c0:=p1.c0;have c2:=p1.c2;have c3:=p1.c3;have L1:=hid l1;clear e1 p1 l1 z1;simp only at c0 c2 c3))
   go_ret
   exact⟨rfl,L1.out⟩
 ·rw[decide_eq_false ha,Bool.false_and]
  have ta:(a==0)=false:=by simpa using ha
  clear ha
  go_enter Tryz.func52,Tryz.ntmps52
  go_wp2_with (first
   |(refine box_ins (r:=⟨7,t,a,b⟩) rfl (.tmp 0) rfl rfl ?_;intro w1 b1 e1 p1 l1 z1;have c0:=p1.c0;have c2:=p1.c2;have c3:=p1.c3;have L1:=hid l1;clear e1 p1 l1 z1;simp only at c0 c2 c3))
  go_ret
  exact⟨rfl,L1.out⟩
theorem goes_8 (t:ByteArray) (a b:Int) (n:Nat) (w:World):Calls Tryz.prog 52 #[.agg (insA ⟨8,t,a,b⟩),.int .i64 n] w fun e w'=>e= .returned (.bool (goes 8 a b n))∧Below w.heap.size w w':=by
 have hv:goes 8 a b n=(place a n&&decide (b=0)):=rfl
 rw[hv]
 have HP:=hid (fun w=>isPlace_any a n w)
 generalize place a n=q at*
 clear hv
 cases q with
 |false=>
  rw[Bool.false_and]
  go_enter Tryz.func52,Tryz.ntmps52
  go_wp2_with (first
   |(refine box_ins (r:=⟨8,t,a,b⟩) rfl (.tmp 0) rfl rfl ?_;intro w1 b1 e1 p1 l1 z1;have c0:=p1.c0;have c2:=p1.c2;have c3:=p1.c3;have L1:=hid l1;clear e1 p1 l1 z1;simp only at c0 c2 c3))
  refine(HP.out _).mono ?_
  rintro e w2 ⟨rfl,rfl⟩
  go_wp2_with fail
  go_ret
  exact⟨rfl,L1.out⟩
 |true=>
  rw[Bool.true_and]
  by_cases hb:b=0
  ·rw[decide_eq_true hb]
   subst hb
   go_enter Tryz.func52,Tryz.ntmps52
   go_wp2_with (first
    |(refine box_ins (r:=⟨8,t,a,0⟩) rfl (.tmp 0) rfl rfl ?_;intro w1 b1 e1 p1 l1 z1;have c0:=p1.c0;have c2:=p1.c2;have c3:=p1.c3;have L1:=hid l1;clear e1 p1 l1 z1;simp only at c0 c2 c3))
   refine(HP.out _).mono ?_
   rintro e w2 ⟨rfl,rfl⟩
   go_wp2_with fail
   go_ret
   exact⟨rfl,L1.out⟩
  ·rw[decide_eq_false hb]
   have tb:(b==0)=false:=by simpa using hb
   clear hb
   go_enter Tryz.func52,Tryz.ntmps52
   go_wp2_with (first
    |(refine box_ins (r:=⟨8,t,a,b⟩) rfl (.tmp 0) rfl rfl ?_;intro w1 b1 e1 p1 l1 z1;have c0:=p1.c0;have c2:=p1.c2;have c3:=p1.c3;have L1:=hid l1;clear e1 p1 l1 z1;simp only at c0 c2 c3))
   refine(HP.out _).mono ?_
   rintro e w2 ⟨rfl,rfl⟩
   go_wp2_with fail
   go_ret
   exact⟨rfl,L1.out⟩
theorem goes_other {k:Int} (hk: ¬(1≤k∧k≤8)) (t:ByteArray) (a b:Int) (n:Nat) (w:World):Calls Tryz.prog 52 #[.agg (insA ⟨k,t,a,b⟩),.int .i64 n] w fun e w'=>e= .returned (.bool (goes k a b n))∧Below w.heap.size w w':=by
 have hv:goes k a b n=false:=by
  unfold goes
  rw[if_neg (by omega),if_neg (by omega),if_neg hk]
 rw[hv]
 have t1:(k==1)=false:=by simp;omega
 have t2:(k==2)=false:=by simp;omega
 have t3:(k==3)=false:=by simp;omega
 have t4:(k==4)=false:=by simp;omega
 have t5:(k==5)=false:=by simp;omega
 have t6:(k==6)=false:=by simp;omega
 have t7:(k==7)=false:=by simp;omega
 have t8:(k==8)=false:=by simp;omega
 clear hv hk
 go_enter Tryz.func52,Tryz.ntmps52
 go_wp2_with (first
  |(refine box_ins (r:=⟨k,t,a,b⟩) rfl (.tmp 0) rfl rfl ?_;intro w1 b1 e1 p1 l1 z1;have c0:=p1.c0;have c2:=p1.c2;have c3:=p1.c3;have L1:=hid l1;clear e1 p1 l1 z1;simp only at c0 c2 c3))
 go_ret
 exact⟨rfl,L1.out⟩
theorem goesOn_any (x:Inst) (n:Nat) (w:World):Calls Tryz.prog 52 #[.agg (insA x),.int .i64 n] w fun e w'=>e= .returned (.bool (goes x.kind x.x x.y n))∧Below w.heap.size w w':=by
 obtain⟨k,t,a,b⟩:=x
 by_cases hk:1≤k∧k≤8
 ·have:k=1∨k=2∨k=3∨k=4∨k=5∨k=6∨k=7∨k=8:=by omega
  rcases this with rfl|rfl|rfl|rfl|rfl|rfl|rfl|rfl
  ·exact goes_1 t a b n w
  ·exact goes_2 t a b n w
  ·exact goes_3 t a b n w
  ·exact goes_4 t a b n w
  ·exact goes_5 t a b n w
  ·exact goes_6 t a b n w
  ·exact goes_7 t a b n w
  ·exact goes_8 t a b n w
 ·exact goes_other hk t a b n w
theorem all_take {α:Type} {f:α→Bool} {L:List α} {i:Nat} (hi:i<L.length):(L.take (i+1)).all f=((L.take i).all f&&f L[i]):=by
 rw[List.take_succ_eq_append_getElem hi,List.all_append]
 simp only[List.all_cons,List.all_nil,Bool.and_true]
theorem all_no {α:Type} {f:α→Bool} {L:List α} {i:Nat} (hi:i<L.length) (h:f L[i]=false):L.all f=false:=by
 rw[List.all_eq_false]
 exact⟨L[i],List.getElem_mem hi,by simp[h]⟩
theorem right_any {w:World} {B:Nat} {v:Value} {L:List Inst} (h:Prg B w v L) (hB:B≤w.heap.size):Calls Tryz.prog 36 #[v] w fun e w'=>e= .returned (.bool (rightP L))∧Below w.heap.size w w':=by
 obtain⟨A,c,rfl,h1,h2⟩:=h.form
 have H:=hid h
 unfold maxLen at h2
 have HC:=hid (show L.length≤c∧c≤9223372036854775807 from⟨h1,h2⟩)
 have HBB:=hid hB
 obtain⟨R,hR⟩: ∃R,rightP L=R:=⟨_,rfl⟩
 rw[hR]
 have HR:=hid hR
 clear h hB hR
 go_enter Tryz.func36,Tryz.ntmps36
 go_wp2_with fail
 clear h1 h2
 go_loopg [7] L.length (fun gk s7 wr=> ∃i:Nat,s7= .int .i64 i∧Hid (i+gk=L.length)∧Hid ((L.take i).all (okI L.length)=true)∧Hid (Below w.heap.size w wr))
 case atStart=>exact⟨0,rfl,by unfold Hid;omega,by unfold Hid;simp,Below.refl _ _⟩
 case round=>
  obtain⟨i,rfl,hig,HOK,LB⟩:=hrel
  have hc1:=HC.out.1
  have hc2:=HC.out.2
  by_cases hi:i<L.length
  ·have ti:(i:Int)<(L.length:Int):=by omega
   obtain⟨b1,o1,hl1,rfl,hb1,e1⟩:=H.out.flat_ insC_len (by decide) hi
   obtain⟨x,hx⟩: ∃x,L[i]=x:=⟨_,rfl⟩
   rw[hx]at e1
   have E1:Hid (∀j,j<4→wr.cell? ⟨b1,o1+i*4+j,none⟩=(insC x)[j]?):=fun j hj=>(cell_block (LB.out.block b1 (Nat.lt_of_lt_of_le hb1 HBB.out))).trans (e1 j hj)
   have HT:=hid (isText_any x)
   have HG:=hid (goesOn_any x L.length)
   have HALL:=all_take (f:=okI L.length) hi
   have HNO:=fun q=>all_no (f:=okI L.length) hi q
   rw[hx]at HALL HNO
   have hok:okI L.length x=(txtOk x.kind x.text&&goes x.kind x.x x.y L.length):=rfl
   rw[hok]at HALL HNO
   obtain⟨q1,hq1⟩: ∃q1,txtOk x.kind x.text=q1:=⟨_,rfl⟩
   obtain⟨q2,hq2⟩: ∃q2,goes x.kind x.x x.y L.length=q2:=⟨_,rfl⟩
   rw[hq1,hq2]at HALL HNO
   rw[hq1]at HT
   rw[hq2]at HG
   have HAL:=hid HALL
   have HN2:=hid HNO
   have hwi:Hid (wrap64 ((i:Int)+1)=((i+1:Nat):Int)):=by unfold Hid wrap64;omega
   have HI2:=hid hi
   clear e1 hb1 hx hl1 HALL HNO hok hq1 hq2 hi
   have RF:Hid ((q1&&q2)=false→rightP L=false):=fun q=>by
    unfold rightP
    rw[HN2.out q,Bool.false_and]
   cases q1 with
   |false=>
    go_wp2_with (first
     |(refine load_ins rfl (.tmp 9) rfl rfl (r:=x) E1.out ?_)
     |(refine alloc_ins rfl rfl ?_;intro w3 b3 e3 p3 l3 z3)
     |(refine store_ins (r:=x) rfl (.tmp 4) (.tmp 10) rfl rfl rfl p3 ?_;intro w4 p4 l4 z4;have L4:=hid (two_new l3 l4 e3);have P4:=hid p4;clear e3 p3 l3 z3 p4 l4 z4)
     |(refine load_ibox rfl (.tmp 4) rfl rfl (r:=x) P4.out ?_))
    refine(HT.out _).mono ?_
    rintro e w5 ⟨rfl,l5⟩
    have L5:=hid (LB.out.trans ((on L4.out l5).mono LB.out.size))
    clear l5
    go_wp2_with fail
    go_ret
    exact⟨by rw[←HR.out,RF.out rfl];rfl,L5.out⟩
   |true=>
    go_wp2_with (first
     |(refine load_ins rfl (.tmp 9) rfl rfl (r:=x) E1.out ?_)
     |(refine alloc_ins rfl rfl ?_;intro w3 b3 e3 p3 l3 z3)
     |(refine store_ins (r:=x) rfl (.tmp 4) (.tmp 10) rfl rfl rfl p3 ?_;intro w4 p4 l4 z4;have L4:=hid (two_new l3 l4 e3);have P4:=hid p4;clear e3 p3 l3 z3 p4 l4 z4)
     |(refine load_ibox rfl (.tmp 4) rfl rfl (r:=x) P4.out ?_))
    refine(HT.out _).mono ?_
    rintro e w5 ⟨rfl,l5⟩
    have P5:=hid (P4.out.below l5)
    have b0:=P5.out.c0
    have b1':=P5.out.c1
    have b2:=P5.out.c2
    have b3':=P5.out.c3
    have W5:=hid (on L4.out l5)
    clear l5
    go_wp2_with fail
    refine(HG.out _).mono ?_
    rintro e w6 ⟨rfl,l6⟩
    have L6:=hid (LB.out.trans ((on W5.out l6).mono LB.out.size))
    clear l6 b0 b1' b2 b3'
    cases q2 with
    |false=>
     go_wp2_with fail
     go_ret
     exact⟨by rw[←HR.out,RF.out rfl];rfl,L6.out⟩
    |true=>
     cases gk with
     |zero=>exact absurd hig.out (by have:=HI2.out;omega)
     |succ g=>
      go_wp2_with fail
      go_roundg g
      case measure=>omega
      case rel=>exact⟨i+1,by first|rfl|exact congrArg (Value.int .i64) hwi.out,by have:=hig.out;unfold Hid;omega,by unfold Hid;rw[HAL.out,HOK.out];rfl,L6⟩
  ·have ti: ¬(i:Int)<(L.length:Int):=by omega
   have hie:i=L.length:=by have:=hig.out;omega
   have HV:Hid (rightP L=decide (0<L.length)):=by
    have:=HOK.out
    rw[hie,List.take_length]at this
    unfold Hid rightP
    rw[this,Bool.true_and]
   clear hie hi
   go_wp2_with fail
   go_ret
   exact⟨by rw[←HR.out,HV.out];rfl,LB.out⟩
end W15
namespace M15
open Go
theorem goes_bad {k a b:Int} {n:Nat} (hk:1≤k∧k≤8) (h:a<0∨(n:Int)≤a∨(k=7∧a≠0)∨b<0∨(n:Int)≤b∨(k≠6∧b≠0)) (hn:0<n):goes k a b n=false:=by
 unfold goes place
 by_cases h6:k=6
 ·rw[if_pos h6]
  have: ¬(0≤a∧a<(n:Int)∧0≤b∧b<(n:Int)):=by omega
  by_cases c1:0≤a<;>by_cases c2:a<(n:Int)<;>by_cases c3:0≤b<;>by_cases c4:b<(n:Int)<;>simp[c1,c2,c3,c4]<;>omega
 ·rw[if_neg h6]
  by_cases h7:k=7
  ·rw[if_pos h7]
   by_cases c1:a=0<;>by_cases c2:b=0<;>simp[c1,c2]<;>omega
  ·rw[if_neg h7,if_pos hk]
   by_cases c1:0≤a<;>by_cases c2:a<(n:Int)<;>by_cases c3:b=0<;>simp[c1,c2,c3]<;>omega
theorem goes_good {k a b:Int} {n:Nat} (hk:1≤k∧k≤8) (h1: ¬a<0) (h2: ¬(n:Int)≤a) (h3:k=7→a=0) (h4: ¬b<0) (h5: ¬(n:Int)≤b) (h6:k≠6→b=0):goes k a b n=true:=by
 unfold goes place
 by_cases c6:k=6
 ·rw[if_pos c6]
  simp;omega
 ·rw[if_neg c6]
  by_cases c7:k=7
  ·rw[if_pos c7]
   simp[h3 c7,h6 c6]
  ·rw[if_neg c7,if_pos hk]
   simp[h6 c6];omega
end M15
namespace W15
open Strs Recs M15
open M13 (good has)
open W14 (two_new cell_block)
open Kit (below_draws on)
theorem union_good {t:ByteArray} (h:good t.data.toList=true):(W13.tx fun i=>has t.data.toList i||has t.data.toList i)=t:=by
 refine Kit.ba_ext ?_
 rw[W13.tx_list,M13.textOf_congr (g:=has t.data.toList) (fun i _=>Bool.or_self _)]
 exact(M13.good_text h).symm
theorem union_bad {t:ByteArray} (h:good t.data.toList=false): ¬(W13.tx fun i=>has t.data.toList i||has t.data.toList i)=t:=by
 intro q
 have h1:=M13.textOf_good (fun i=>has t.data.toList i||has t.data.toList i)
 rw[←W13.tx_list,q,h]at h1
 cases h1
set_option maxHeartbeats 16000000 in
theorem rright_any {w:World} {B:Nat} {v:Value} {L:List Inst} (h:Prg B w v L) (hB:B≤w.heap.size):Calls Tryz.prog 27 #[v] w fun e w'=>e= .returned (.bool (rightP L))∧Below w.heap.size w w':=by
 obtain⟨A,c,rfl,h1,h2⟩:=h.form
 have H:=hid h
 unfold maxLen at h2
 have HBB:=hid hB
 obtain⟨n,hn⟩: ∃n,L.length=n:=⟨_,rfl⟩
 have HNL:=hid hn
 rw[hn]at h1 H ⊢
 have HC:=hid (show n≤c∧c≤9223372036854775807 from⟨h1,h2⟩)
 obtain⟨R,hR⟩: ∃R,rightP L=R:=⟨_,rfl⟩
 rw[hR]
 have HR:=hid hR
 clear h hB hR hn h1 h2
 go_enter Tryz.func27,Tryz.ntmps27
 go_wp2_with fail
 go_loopg [3] n (fun gk s3 wr=> ∃i:Nat,s3= .int .i64 i∧Hid (i+gk=n)∧Hid ((L.take i).all (okI n)=true)∧Hid (Below w.heap.size w wr))
 case atStart=>exact⟨0,rfl,by unfold Hid;omega,by unfold Hid;simp,Below.refl _ _⟩
 case round=>
  obtain⟨i,rfl,hig,HOK,LB⟩:=hrel
  have hc1:=HC.out.1
  have hc2:=HC.out.2
  by_cases hi:i<n
  ·have ti:(i:Int)<(n:Int):=by omega
   have hiL:i<L.length:=by rw[HNL.out];exact hi
   obtain⟨b1,o1,hl1,rfl,hb1,e1⟩:=H.out.flat_ insC_len (by decide) hi
   obtain⟨⟨k,t,a,b⟩,hx⟩: ∃x,L[i]=x:=⟨_,rfl⟩
   rw[hx]at e1
   have E1:Hid (∀j,j<4→wr.cell? ⟨b1,o1+i*4+j,none⟩=(insC ⟨k,t,a,b⟩)[j]?):=fun j hj=>(cell_block (LB.out.block b1 (Nat.lt_of_lt_of_le hb1 HBB.out))).trans (e1 j hj)
   have HALL:=all_take (f:=okI n) hiL
   have HNO:=fun q=>all_no (f:=okI n) hiL q
   rw[hx]at HALL HNO
   have hok:okI n ⟨k,t,a,b⟩=(txtOk k t&&goes k a b n):=rfl
   rw[hok]at HALL HNO
   have HAL:=hid HALL
   have RF:Hid ((txtOk k t&&goes k a b n)=false→rightP L=false):=fun q=>by
    unfold rightP
    rw[HNL.out,HNO q,Bool.false_and]
   have hwi:Hid (wrap64 ((i:Int)+1)=((i+1:Nat):Int)):=by unfold Hid wrap64;omega
   have HI2:=hid hi
   have HN0:=hid (show 0<n by omega)
   clear e1 hb1 hx hl1 HALL HNO hok hiL hi
   by_cases hk:1≤k∧k≤8
   ·have HK:=hid hk
    have tk1: ¬k<1:=by omega
    have tk2: ¬8<k:=by omega
    clear hk
    go_wp2_with (first
     |(refine load_ins rfl (.tmp 13) rfl rfl (r:=⟨k,t,a,b⟩) E1.out ?_)
     |(refine alloc_ins rfl rfl ?_;intro w3 b3 e3 p3 l3 z3)
     |(refine store_ins (r:=⟨k,t,a,b⟩) rfl (.tmp 4) (.tmp 14) rfl rfl rfl p3 ?_;intro w4 p4 l4 z4;have L4:=hid (two_new l3 l4 e3);have P4:=hid p4;have d0:=p4.c0;have d1:=p4.c1;have d2:=p4.c2;have d3:=p4.c3;clear e3 p3 l3 z3 p4 l4 z4;simp only at d0 d1 d2 d3))
    clear tk1 tk2
    have W4:=hid (LB.out.trans (L4.out.mono LB.out.size))
    by_cases h1:k=1
    ·have t1:(k==1)=true:=by simp[h1]
     have t3:(k==3)=false:=by simp[h1]
     have n1:(k !=1)=false:=by simp[h1]
     have HX:Hid (txtOk k t=decide (t.size=1)):=by unfold Hid txtOk;rw[if_pos h1]
     clear h1
     by_cases hz:t.size=1
     ·have tz:((t.size:Int) !=1)=false:=by simp[hz]
      have HTX:Hid (txtOk k t=true):=by unfold Hid;rw[HX.out,decide_eq_true hz]
      clear hz
      go_quiet (fail)
      have W5:=hid (on W4.out (below_draws w4 nq))
      clear tz t1 t3 n1 d1
      by_cases g1:a<0
      ·go_wp2_with fail
       go_ret
       exact⟨by rw[←HR.out,RF.out (by rw[goes_bad HK.out (Or.inl g1) HN0.out,Bool.and_false])];rfl,W5.out⟩
      by_cases g2:(n:Int)≤a
      ·go_wp2_with fail
       go_ret
       exact⟨by rw[←HR.out,RF.out (by rw[goes_bad HK.out (Or.inr (Or.inl g2)) HN0.out,Bool.and_false])];rfl,W5.out⟩
      by_cases g7:k=7
      ·have t7:(k==7)=true:=by simp[g7]
       have H7:=hid g7
       clear g7
       by_cases g70:a=0
       ·have u7:(a !=0)=false:=by simp[g70]
        have H70:=hid g70
        clear g70
        by_cases g4:b<0
        ·go_wp2_with fail
         go_ret
         exact⟨by rw[←HR.out,RF.out (by rw[goes_bad HK.out (Or.inr (Or.inr (Or.inr (Or.inl g4)))) HN0.out,Bool.and_false])];rfl,W5.out⟩
        by_cases g5:(n:Int)≤b
        ·go_wp2_with fail
         go_ret
         exact⟨by rw[←HR.out,RF.out (by rw[goes_bad HK.out (Or.inr (Or.inr (Or.inr (Or.inr (Or.inl g5))))) HN0.out,Bool.and_false])];rfl,W5.out⟩
        have H6:Hid (k≠6):=by unfold Hid;have:=H7.out;omega
        have t6:(k !=6)=true:=by simpa using H6.out
        by_cases g6:b=0
        ·have hgd:Hid ((txtOk k t&&goes k a b n)=true):=by unfold Hid;rw[HTX.out,goes_good HK.out g1 g2 (fun _=>H70.out) g4 g5 (fun _=>g6)];rfl
         have u6:(b !=0)=false:=by simp[g6]
         clear g6
         cases gk with
         |zero=>exact absurd hig.out (by have:=HI2.out;omega)
         |succ g=>
          go_wp2_with fail
          go_roundg g
          case measure=>omega
          case rel=>exact⟨i+1,by first|rfl|exact congrArg (Value.int .i64) hwi.out,by have:=hig.out;unfold Hid;omega,by unfold Hid;rw[HAL.out,HOK.out,hgd.out];rfl,W5⟩
        ·have HB6:=hid g6
         have u6:(b !=0)=true:=by simpa using g6
         clear g6
         go_wp2_with fail
         go_ret
         exact⟨by rw[←HR.out,RF.out (by rw[goes_bad HK.out (Or.inr (Or.inr (Or.inr (Or.inr (Or.inr ⟨H6.out,HB6.out⟩))))) HN0.out,Bool.and_false])];rfl,W5.out⟩
       ·have u7:(a !=0)=true:=by simpa using g70
        have H70:=hid g70
        clear g70
        go_wp2_with fail
        go_ret
        exact⟨by rw[←HR.out,RF.out (by rw[goes_bad HK.out (Or.inr (Or.inr (Or.inl ⟨H7.out,H70.out⟩))) HN0.out,Bool.and_false])];rfl,W5.out⟩
      ·have t7:(k==7)=false:=by simpa using g7
       have H7:=hid g7
       clear g7
       by_cases g4:b<0
       ·go_wp2_with fail
        go_ret
        exact⟨by rw[←HR.out,RF.out (by rw[goes_bad HK.out (Or.inr (Or.inr (Or.inr (Or.inl g4)))) HN0.out,Bool.and_false])];rfl,W5.out⟩
       by_cases g5:(n:Int)≤b
       ·go_wp2_with fail
        go_ret
        exact⟨by rw[←HR.out,RF.out (by rw[goes_bad HK.out (Or.inr (Or.inr (Or.inr (Or.inr (Or.inl g5))))) HN0.out,Bool.and_false])];rfl,W5.out⟩
       by_cases g60:k=6
       ·have t6:(k !=6)=false:=by simp[g60]
        have H6:=hid g60
        clear g60
        have hgd:Hid ((txtOk k t&&goes k a b n)=true):=by unfold Hid;rw[HTX.out,goes_good HK.out g1 g2 (fun q=>absurd q H7.out) g4 g5 (fun q=>absurd H6.out q)];rfl
        cases gk with
        |zero=>exact absurd hig.out (by have:=HI2.out;omega)
        |succ g=>
         go_wp2_with fail
         go_roundg g
         case measure=>omega
         case rel=>exact⟨i+1,by first|rfl|exact congrArg (Value.int .i64) hwi.out,by have:=hig.out;unfold Hid;omega,by unfold Hid;rw[HAL.out,HOK.out,hgd.out];rfl,W5⟩
       ·have t6:(k !=6)=true:=by simpa using g60
        have H6:=hid g60
        clear g60
        by_cases g6:b=0
        ·have hgd:Hid ((txtOk k t&&goes k a b n)=true):=by unfold Hid;rw[HTX.out,goes_good HK.out g1 g2 (fun q=>absurd q H7.out) g4 g5 (fun _=>g6)];rfl
         have u6:(b !=0)=false:=by simp[g6]
         clear g6
         cases gk with
         |zero=>exact absurd hig.out (by have:=HI2.out;omega)
         |succ g=>
          go_wp2_with fail
          go_roundg g
          case measure=>omega
          case rel=>exact⟨i+1,by first|rfl|exact congrArg (Value.int .i64) hwi.out,by have:=hig.out;unfold Hid;omega,by unfold Hid;rw[HAL.out,HOK.out,hgd.out];rfl,W5⟩
        ·have HB6:=hid g6
         have u6:(b !=0)=true:=by simpa using g6
         clear g6
         go_wp2_with fail
         go_ret
         exact⟨by rw[←HR.out,RF.out (by rw[goes_bad HK.out (Or.inr (Or.inr (Or.inr (Or.inr (Or.inr ⟨H6.out,HB6.out⟩))))) HN0.out,Bool.and_false])];rfl,W5.out⟩
     ·have tz:((t.size:Int) !=1)=true:=by simp;omega
      have HTX:Hid (txtOk k t=false):=by unfold Hid;rw[HX.out,decide_eq_false hz]
      clear hz
      go_quiet (fail)
      have W5:=hid (on W4.out (below_draws w4 nq))
      go_wp2_with fail
      go_ret
      exact⟨by rw[←HR.out,RF.out (by rw[HTX.out,Bool.false_and])];rfl,W5.out⟩
    ·have t1:(k==1)=false:=by simpa using h1
     have n1:(k !=1)=true:=by simpa using h1
     by_cases h3:k=3
     ·have t3:(k==3)=true:=by simp[h3]
      have n3:(k !=3)=false:=by simp[h3]
      have HX:Hid (txtOk k t=good t.data.toList):=by unfold Hid txtOk;rw[if_neg h1,if_pos h3]
      clear h1 h3
      have D4:=hid (below_draws w4 1)
      have HU0:=fun w=>W13.refUnion_any t t w
      by_cases hz:good t.data.toList=true
      ·rw[union_good hz]at HU0
       have HU:=hid HU0
       have tz:(t.toList !=t.toList)=false:=by simp
       have HTX:Hid (txtOk k t=true):=by unfold Hid;rw[HX.out,hz]
       clear hz HU0
       refine wp_region_held_drew (S:=fun w'=>w'.cell? ⟨b3,0,none⟩=some (.int .i64 k)∧w'.cell? ⟨b3,1,none⟩=some (.string t)) (by kernel_rfl) ⟨P4.out.c0,P4.out.c1⟩ (fun hHeld=> ?_)
       refine Take.k 0 ⟨some 23,.fieldAddr 62 (.tmp 4) 0,_,_,_,none⟩ ?_
       refine Take.k 1 ⟨some 24,.load 3 (.tmp 23),_,_,_,none⟩ ?_
       refine Take.k 2 ⟨some 25,.binOp .eql 3 (.tmp 24) (.const (.int .i64 1)) 3,_,_,_,none⟩ ?_
       refine Take.k 3 ⟨some 26,.move (.tmp 25),_,_,_,none⟩ ?_
       refine Take.u 4 ⟨some 27,.fieldAddr 62 (.tmp 4) 1,_,_,_,some (3,true)⟩ ?_
       refine Take.u 5 ⟨some 28,.load 9 (.tmp 27),_,_,_,some (3,true)⟩ ?_
       refine Take.u 6 ⟨some 29,.call ⟨.builtin .len, #[.tmp 28], #[9]⟩,_,_,_,some (3,true)⟩ ?_
       refine Take.u 7 ⟨some 30,.binOp .neq 3 (.tmp 29) (.const (.int .i64 1)) 3,_,_,_,some (3,true)⟩ ?_
       refine Take.k 8 ⟨some 31,.pick (.tmp 26) (.tmp 30) (.const (.bool false)),_,_,_,none⟩ ?_
       refine Take.k 9 ⟨some 32,.move (.tmp 31),_,_,_,none⟩ ?_
       refine Take.k 10 ⟨some 33,.fieldAddr 62 (.tmp 4) 0,_,_,_,some (9,false)⟩ ?_
       refine Take.k 11 ⟨some 34,.load 3 (.tmp 33),_,_,_,some (9,false)⟩ ?_
       refine Take.k 12 ⟨some 35,.binOp .eql 3 (.tmp 34) (.const (.int .i64 3)) 3,_,_,_,some (9,false)⟩ ?_
       refine Take.k 13 ⟨some 36,.move (.tmp 35),_,_,_,some (9,false)⟩ ?_
       refine Take.k 14 ⟨some 37,.fieldAddr 62 (.tmp 4) 1,_,_,_,some (13,true)⟩ ?_
       refine Take.k 15 ⟨some 38,.load 9 (.tmp 37),_,_,_,some (13,true)⟩ ?_
       refine Take.k 16 ⟨some 39,.fieldAddr 62 (.tmp 4) 1,_,_,_,some (13,true)⟩ ?_
       refine Take.k 17 ⟨some 40,.load 9 (.tmp 39),_,_,_,some (13,true)⟩ ?_
       refine Take.k 19 ⟨some 42,.fieldAddr 62 (.tmp 4) 1,_,_,_,some (13,true)⟩ ?_
       refine Take.k 20 ⟨some 43,.load 9 (.tmp 42),_,_,_,some (13,true)⟩ ?_
       refine wpAnyH_ready (rs:= [18]) (by kernel_rfl) (by simp) ?_
       refine AllReadyH.cons (o:=⟨some 41,.call ⟨.value (.func 41), #[.tmp 38,.tmp 40], #[9,9]⟩,_,_,_,some (13,true)⟩) rfl (fun K hK=> ?_) AllReadyH.nil
       go_simp
       (go_at_call 41;refine(HU.out _).mono ?_;rintro e x1 ⟨rfl,m1⟩;have LU:=hid (on D4.out m1);have PU:=hid (P4.out.below LU.out);clear m1)
       go_wp2_with fail
       refine hK.out _ _ ?_ (fun hHeld=> ?_)
       ·exact⟨PU.out.c0,PU.out.c1⟩
       clear hK K
       try simp only[Act.put,Take.a,Take.b,Take.c]
       refine Take.k 21 ⟨some 44,.binOp .neq 9 (.tmp 41) (.tmp 43) 9,_,_,_,some (13,true)⟩ ?_
       refine Take.k 22 ⟨some 45,.pick (.tmp 36) (.tmp 44) (.const (.bool false)),_,_,_,some (9,false)⟩ ?_
       refine Take.k 23 ⟨some 46,.pick (.tmp 32) (.const (.bool true)) (.tmp 45),_,_,_,none⟩ ?_
       refine Take.k 24 ⟨some 47,.move (.tmp 46),_,_,_,none⟩ ?_
       refine Take.k 25 ⟨some 48,.fieldAddr 62 (.tmp 4) 0,_,_,_,some (24,false)⟩ ?_
       refine Take.k 26 ⟨some 49,.load 3 (.tmp 48),_,_,_,some (24,false)⟩ ?_
       refine Take.k 27 ⟨some 50,.binOp .neq 3 (.tmp 49) (.const (.int .i64 1)) 3,_,_,_,some (24,false)⟩ ?_
       refine Take.k 28 ⟨some 51,.move (.tmp 50),_,_,_,some (24,false)⟩ ?_
       refine Take.k 29 ⟨some 52,.fieldAddr 62 (.tmp 4) 0,_,_,_,some (28,true)⟩ ?_
       refine Take.k 30 ⟨some 53,.load 3 (.tmp 52),_,_,_,some (28,true)⟩ ?_
       refine Take.k 31 ⟨some 54,.binOp .neq 3 (.tmp 53) (.const (.int .i64 3)) 3,_,_,_,some (28,true)⟩ ?_
       refine Take.k 32 ⟨some 55,.pick (.tmp 51) (.tmp 54) (.const (.bool false)),_,_,_,some (24,false)⟩ ?_
       refine Take.k 33 ⟨some 56,.move (.tmp 55),_,_,_,some (24,false)⟩ ?_
       refine Take.u 34 ⟨some 57,.fieldAddr 62 (.tmp 4) 1,_,_,_,some (33,true)⟩ ?_
       refine Take.u 35 ⟨some 58,.load 9 (.tmp 57),_,_,_,some (33,true)⟩ ?_
       refine Take.u 36 ⟨some 59,.binOp .neq 9 (.tmp 58) (.const (.string {data:= #[]})) 9,_,_,_,some (33,true)⟩ ?_
       refine Take.k 37 ⟨some 60,.pick (.tmp 56) (.tmp 59) (.const (.bool false)),_,_,_,some (24,false)⟩ ?_
       refine Take.k 38 ⟨some 61,.pick (.tmp 47) (.const (.bool true)) (.tmp 60),_,_,_,none⟩ ?_
       refine wpAnyH_done (by kernel_rfl) ?_ _
       have W5:=hid (on W4.out LU.out)
       clear tz t1 t3 n1 n3 d0 d1 d2 d3
       have d0:=PU.out.c0
       have d2:=PU.out.c2
       have d3:=PU.out.c3
       simp only at d0 d2 d3
       by_cases g1:a<0
       ·go_wp2_with fail
        go_ret
        exact⟨by rw[←HR.out,RF.out (by rw[goes_bad HK.out (Or.inl g1) HN0.out,Bool.and_false])];rfl,W5.out⟩
       by_cases g2:(n:Int)≤a
       ·go_wp2_with fail
        go_ret
        exact⟨by rw[←HR.out,RF.out (by rw[goes_bad HK.out (Or.inr (Or.inl g2)) HN0.out,Bool.and_false])];rfl,W5.out⟩
       by_cases g7:k=7
       ·have t7:(k==7)=true:=by simp[g7]
        have H7:=hid g7
        clear g7
        by_cases g70:a=0
        ·have u7:(a !=0)=false:=by simp[g70]
         have H70:=hid g70
         clear g70
         by_cases g4:b<0
         ·go_wp2_with fail
          go_ret
          exact⟨by rw[←HR.out,RF.out (by rw[goes_bad HK.out (Or.inr (Or.inr (Or.inr (Or.inl g4)))) HN0.out,Bool.and_false])];rfl,W5.out⟩
         by_cases g5:(n:Int)≤b
         ·go_wp2_with fail
          go_ret
          exact⟨by rw[←HR.out,RF.out (by rw[goes_bad HK.out (Or.inr (Or.inr (Or.inr (Or.inr (Or.inl g5))))) HN0.out,Bool.and_false])];rfl,W5.out⟩
         have H6:Hid (k≠6):=by unfold Hid;have:=H7.out;omega
         have t6:(k !=6)=true:=by simpa using H6.out
         by_cases g6:b=0
         ·have hgd:Hid ((txtOk k t&&goes k a b n)=true):=by unfold Hid;rw[HTX.out,goes_good HK.out g1 g2 (fun _=>H70.out) g4 g5 (fun _=>g6)];rfl
          have u6:(b !=0)=false:=by simp[g6]
          clear g6
          cases gk with
          |zero=>exact absurd hig.out (by have:=HI2.out;omega)
          |succ g=>
           go_wp2_with fail
           go_roundg g
           case measure=>omega
           case rel=>exact⟨i+1,by first|rfl|exact congrArg (Value.int .i64) hwi.out,by have:=hig.out;unfold Hid;omega,by unfold Hid;rw[HAL.out,HOK.out,hgd.out];rfl,W5⟩
         ·have HB6:=hid g6
          have u6:(b !=0)=true:=by simpa using g6
          clear g6
          go_wp2_with fail
          go_ret
          exact⟨by rw[←HR.out,RF.out (by rw[goes_bad HK.out (Or.inr (Or.inr (Or.inr (Or.inr (Or.inr ⟨H6.out,HB6.out⟩))))) HN0.out,Bool.and_false])];rfl,W5.out⟩
        ·have u7:(a !=0)=true:=by simpa using g70
         have H70:=hid g70
         clear g70
         go_wp2_with fail
         go_ret
         exact⟨by rw[←HR.out,RF.out (by rw[goes_bad HK.out (Or.inr (Or.inr (Or.inl ⟨H7.out,H70.out⟩))) HN0.out,Bool.and_false])];rfl,W5.out⟩
       ·have t7:(k==7)=false:=by simpa using g7
        have H7:=hid g7
        clear g7
        by_cases g4:b<0
        ·go_wp2_with fail
         go_ret
         exact⟨by rw[←HR.out,RF.out (by rw[goes_bad HK.out (Or.inr (Or.inr (Or.inr (Or.inl g4)))) HN0.out,Bool.and_false])];rfl,W5.out⟩
        by_cases g5:(n:Int)≤b
        ·go_wp2_with fail
         go_ret
         exact⟨by rw[←HR.out,RF.out (by rw[goes_bad HK.out (Or.inr (Or.inr (Or.inr (Or.inr (Or.inl g5))))) HN0.out,Bool.and_false])];rfl,W5.out⟩
        by_cases g60:k=6
        ·have t6:(k !=6)=false:=by simp[g60]
         have H6:=hid g60
         clear g60
         have hgd:Hid ((txtOk k t&&goes k a b n)=true):=by unfold Hid;rw[HTX.out,goes_good HK.out g1 g2 (fun q=>absurd q H7.out) g4 g5 (fun q=>absurd H6.out q)];rfl
         cases gk with
         |zero=>exact absurd hig.out (by have:=HI2.out;omega)
         |succ g=>
          go_wp2_with fail
          go_roundg g
          case measure=>omega
          case rel=>exact⟨i+1,by first|rfl|exact congrArg (Value.int .i64) hwi.out,by have:=hig.out;unfold Hid;omega,by unfold Hid;rw[HAL.out,HOK.out,hgd.out];rfl,W5⟩
        ·have t6:(k !=6)=true:=by simpa using g60
         have H6:=hid g60
         clear g60
         by_cases g6:b=0
         ·have hgd:Hid ((txtOk k t&&goes k a b n)=true):=by unfold Hid;rw[HTX.out,goes_good HK.out g1 g2 (fun q=>absurd q H7.out) g4 g5 (fun _=>g6)];rfl
          have u6:(b !=0)=false:=by simp[g6]
          clear g6
          cases gk with
          |zero=>exact absurd hig.out (by have:=HI2.out;omega)
          |succ g=>
           go_wp2_with fail
           go_roundg g
           case measure=>omega
           case rel=>exact⟨i+1,by first|rfl|exact congrArg (Value.int .i64) hwi.out,by have:=hig.out;unfold Hid;omega,by unfold Hid;rw[HAL.out,HOK.out,hgd.out];rfl,W5⟩
         ·have HB6:=hid g6
          have u6:(b !=0)=true:=by simpa using g6
          clear g6
          go_wp2_with fail
          go_ret
          exact⟨by rw[←HR.out,RF.out (by rw[goes_bad HK.out (Or.inr (Or.inr (Or.inr (Or.inr (Or.inr ⟨H6.out,HB6.out⟩))))) HN0.out,Bool.and_false])];rfl,W5.out⟩
      ·have hzf:good t.data.toList=false:=by simpa using hz
       have hne:=union_bad hzf
       obtain⟨u,hu⟩: ∃u,(W13.tx fun i=>has t.data.toList i||has t.data.toList i)=u:=⟨_,rfl⟩
       rw[hu]at HU0 hne
       have HU:=hid HU0
       have tz:(u.toList !=t.toList)=true:=by
        have: ¬u.toList=t.toList:=fun q=>hne (Kit.ba_ext (by rw[←Lib.toList_data,←Lib.toList_data,q]))
        simpa using this
       have tz2:(u.toList==t.toList)=false:=by simpa using tz
       have HTX:Hid (txtOk k t=false):=by unfold Hid;rw[HX.out,hzf]
       clear hz hzf hne hu HU0
       refine wp_region_held_drew (S:=fun w'=>w'.cell? ⟨b3,0,none⟩=some (.int .i64 k)∧w'.cell? ⟨b3,1,none⟩=some (.string t)) (by kernel_rfl) ⟨P4.out.c0,P4.out.c1⟩ (fun hHeld=> ?_)
       refine Take.k 0 ⟨some 23,.fieldAddr 62 (.tmp 4) 0,_,_,_,none⟩ ?_
       refine Take.k 1 ⟨some 24,.load 3 (.tmp 23),_,_,_,none⟩ ?_
       refine Take.k 2 ⟨some 25,.binOp .eql 3 (.tmp 24) (.const (.int .i64 1)) 3,_,_,_,none⟩ ?_
       refine Take.k 3 ⟨some 26,.move (.tmp 25),_,_,_,none⟩ ?_
       refine Take.u 4 ⟨some 27,.fieldAddr 62 (.tmp 4) 1,_,_,_,some (3,true)⟩ ?_
       refine Take.u 5 ⟨some 28,.load 9 (.tmp 27),_,_,_,some (3,true)⟩ ?_
       refine Take.u 6 ⟨some 29,.call ⟨.builtin .len, #[.tmp 28], #[9]⟩,_,_,_,some (3,true)⟩ ?_
       refine Take.u 7 ⟨some 30,.binOp .neq 3 (.tmp 29) (.const (.int .i64 1)) 3,_,_,_,some (3,true)⟩ ?_
       refine Take.k 8 ⟨some 31,.pick (.tmp 26) (.tmp 30) (.const (.bool false)),_,_,_,none⟩ ?_
       refine Take.k 9 ⟨some 32,.move (.tmp 31),_,_,_,none⟩ ?_
       refine Take.k 10 ⟨some 33,.fieldAddr 62 (.tmp 4) 0,_,_,_,some (9,false)⟩ ?_
       refine Take.k 11 ⟨some 34,.load 3 (.tmp 33),_,_,_,some (9,false)⟩ ?_
       refine Take.k 12 ⟨some 35,.binOp .eql 3 (.tmp 34) (.const (.int .i64 3)) 3,_,_,_,some (9,false)⟩ ?_
       refine Take.k 13 ⟨some 36,.move (.tmp 35),_,_,_,some (9,false)⟩ ?_
       refine Take.k 14 ⟨some 37,.fieldAddr 62 (.tmp 4) 1,_,_,_,some (13,true)⟩ ?_
       refine Take.k 15 ⟨some 38,.load 9 (.tmp 37),_,_,_,some (13,true)⟩ ?_
       refine Take.k 16 ⟨some 39,.fieldAddr 62 (.tmp 4) 1,_,_,_,some (13,true)⟩ ?_
       refine Take.k 17 ⟨some 40,.load 9 (.tmp 39),_,_,_,some (13,true)⟩ ?_
       refine Take.k 19 ⟨some 42,.fieldAddr 62 (.tmp 4) 1,_,_,_,some (13,true)⟩ ?_
       refine Take.k 20 ⟨some 43,.load 9 (.tmp 42),_,_,_,some (13,true)⟩ ?_
       refine wpAnyH_ready (rs:= [18]) (by kernel_rfl) (by simp) ?_
       refine AllReadyH.cons (o:=⟨some 41,.call ⟨.value (.func 41), #[.tmp 38,.tmp 40], #[9,9]⟩,_,_,_,some (13,true)⟩) rfl (fun K hK=> ?_) AllReadyH.nil
       go_simp
       (go_at_call 41;refine(HU.out _).mono ?_;rintro e x1 ⟨rfl,m1⟩;have LU:=hid (on D4.out m1);have PU:=hid (P4.out.below LU.out);clear m1)
       go_wp2_with fail
       refine hK.out _ _ ?_ (fun hHeld=> ?_)
       ·exact⟨PU.out.c0,PU.out.c1⟩
       clear hK K
       try simp only[Act.put,Take.a,Take.b,Take.c]
       refine Take.k 21 ⟨some 44,.binOp .neq 9 (.tmp 41) (.tmp 43) 9,_,_,_,some (13,true)⟩ ?_
       refine Take.k 22 ⟨some 45,.pick (.tmp 36) (.tmp 44) (.const (.bool false)),_,_,_,some (9,false)⟩ ?_
       refine Take.k 23 ⟨some 46,.pick (.tmp 32) (.const (.bool true)) (.tmp 45),_,_,_,none⟩ ?_
       refine Take.k 24 ⟨some 47,.move (.tmp 46),_,_,_,none⟩ ?_
       refine Take.u 25 ⟨some 48,.fieldAddr 62 (.tmp 4) 0,_,_,_,some (24,false)⟩ ?_
       refine Take.u 26 ⟨some 49,.load 3 (.tmp 48),_,_,_,some (24,false)⟩ ?_
       refine Take.u 27 ⟨some 50,.binOp .neq 3 (.tmp 49) (.const (.int .i64 1)) 3,_,_,_,some (24,false)⟩ ?_
       refine Take.u 28 ⟨some 51,.move (.tmp 50),_,_,_,some (24,false)⟩ ?_
       refine Take.u 29 ⟨some 52,.fieldAddr 62 (.tmp 4) 0,_,_,_,some (28,true)⟩ ?_
       refine Take.u 30 ⟨some 53,.load 3 (.tmp 52),_,_,_,some (28,true)⟩ ?_
       refine Take.u 31 ⟨some 54,.binOp .neq 3 (.tmp 53) (.const (.int .i64 3)) 3,_,_,_,some (28,true)⟩ ?_
       refine Take.u 32 ⟨some 55,.pick (.tmp 51) (.tmp 54) (.const (.bool false)),_,_,_,some (24,false)⟩ ?_
       refine Take.u 33 ⟨some 56,.move (.tmp 55),_,_,_,some (24,false)⟩ ?_
       refine Take.u 34 ⟨some 57,.fieldAddr 62 (.tmp 4) 1,_,_,_,some (33,true)⟩ ?_
       refine Take.u 35 ⟨some 58,.load 9 (.tmp 57),_,_,_,some (33,true)⟩ ?_
       refine Take.u 36 ⟨some 59,.binOp .neq 9 (.tmp 58) (.const (.string {data:= #[]})) 9,_,_,_,some (33,true)⟩ ?_
       refine Take.u 37 ⟨some 60,.pick (.tmp 56) (.tmp 59) (.const (.bool false)),_,_,_,some (24,false)⟩ ?_
       refine Take.k 38 ⟨some 61,.pick (.tmp 47) (.const (.bool true)) (.tmp 60),_,_,_,none⟩ ?_
       refine wpAnyH_done (by kernel_rfl) ?_ _
       have W5:=hid (on W4.out LU.out)
       go_wp2_with fail
       go_ret
       exact⟨by rw[←HR.out,RF.out (by rw[HTX.out,Bool.false_and])];rfl,W5.out⟩
     ·have t3:(k==3)=false:=by simpa using h3
      have n3:(k !=3)=true:=by simpa using h3
      have HX:Hid (txtOk k t=decide (t.size=0)):=by unfold Hid txtOk;rw[if_neg h1,if_neg h3]
      clear h1 h3
      by_cases hz:t.size=0
      ·have te:=Kit.list_none (s:=t) (by omega)
       have te2:=Kit.list_nil (s:=t) (by omega)
       have HTX:Hid (txtOk k t=true):=by unfold Hid;rw[HX.out,decide_eq_true hz]
       clear hz
       go_quiet (fail)
       have W5:=hid (on W4.out (below_draws w4 nq))
       clear te te2 t1 t3 n1 n3 d1
       by_cases g1:a<0
       ·go_wp2_with fail
        go_ret
        exact⟨by rw[←HR.out,RF.out (by rw[goes_bad HK.out (Or.inl g1) HN0.out,Bool.and_false])];rfl,W5.out⟩
       by_cases g2:(n:Int)≤a
       ·go_wp2_with fail
        go_ret
        exact⟨by rw[←HR.out,RF.out (by rw[goes_bad HK.out (Or.inr (Or.inl g2)) HN0.out,Bool.and_false])];rfl,W5.out⟩
       by_cases g7:k=7
       ·have t7:(k==7)=true:=by simp[g7]
        have H7:=hid g7
        clear g7
        by_cases g70:a=0
        ·have u7:(a !=0)=false:=by simp[g70]
         have H70:=hid g70
         clear g70
         by_cases g4:b<0
         ·go_wp2_with fail
          go_ret
          exact⟨by rw[←HR.out,RF.out (by rw[goes_bad HK.out (Or.inr (Or.inr (Or.inr (Or.inl g4)))) HN0.out,Bool.and_false])];rfl,W5.out⟩
         by_cases g5:(n:Int)≤b
         ·go_wp2_with fail
          go_ret
          exact⟨by rw[←HR.out,RF.out (by rw[goes_bad HK.out (Or.inr (Or.inr (Or.inr (Or.inr (Or.inl g5))))) HN0.out,Bool.and_false])];rfl,W5.out⟩
         have H6:Hid (k≠6):=by unfold Hid;have:=H7.out;omega
         have t6:(k !=6)=true:=by simpa using H6.out
         by_cases g6:b=0
         ·have hgd:Hid ((txtOk k t&&goes k a b n)=true):=by unfold Hid;rw[HTX.out,goes_good HK.out g1 g2 (fun _=>H70.out) g4 g5 (fun _=>g6)];rfl
          have u6:(b !=0)=false:=by simp[g6]
          clear g6
          cases gk with
          |zero=>exact absurd hig.out (by have:=HI2.out;omega)
          |succ g=>
           go_wp2_with fail
           go_roundg g
           case measure=>omega
           case rel=>exact⟨i+1,by first|rfl|exact congrArg (Value.int .i64) hwi.out,by have:=hig.out;unfold Hid;omega,by unfold Hid;rw[HAL.out,HOK.out,hgd.out];rfl,W5⟩
         ·have HB6:=hid g6
          have u6:(b !=0)=true:=by simpa using g6
          clear g6
          go_wp2_with fail
          go_ret
          exact⟨by rw[←HR.out,RF.out (by rw[goes_bad HK.out (Or.inr (Or.inr (Or.inr (Or.inr (Or.inr ⟨H6.out,HB6.out⟩))))) HN0.out,Bool.and_false])];rfl,W5.out⟩
        ·have u7:(a !=0)=true:=by simpa using g70
         have H70:=hid g70
         clear g70
         go_wp2_with fail
         go_ret
         exact⟨by rw[←HR.out,RF.out (by rw[goes_bad HK.out (Or.inr (Or.inr (Or.inl ⟨H7.out,H70.out⟩))) HN0.out,Bool.and_false])];rfl,W5.out⟩
       ·have t7:(k==7)=false:=by simpa using g7
        have H7:=hid g7
        clear g7
        by_cases g4:b<0
        ·go_wp2_with fail
         go_ret
         exact⟨by rw[←HR.out,RF.out (by rw[goes_bad HK.out (Or.inr (Or.inr (Or.inr (Or.inl g4)))) HN0.out,Bool.and_false])];rfl,W5.out⟩
        by_cases g5:(n:Int)≤b
        ·go_wp2_with fail
         go_ret
         exact⟨by rw[←HR.out,RF.out (by rw[goes_bad HK.out (Or.inr (Or.inr (Or.inr (Or.inr (Or.inl g5))))) HN0.out,Bool.and_false])];rfl,W5.out⟩
        by_cases g60:k=6
        ·have t6:(k !=6)=false:=by simp[g60]
         have H6:=hid g60
         clear g60
         have hgd:Hid ((txtOk k t&&goes k a b n)=true):=by unfold Hid;rw[HTX.out,goes_good HK.out g1 g2 (fun q=>absurd q H7.out) g4 g5 (fun q=>absurd H6.out q)];rfl
         cases gk with
         |zero=>exact absurd hig.out (by have:=HI2.out;omega)
         |succ g=>
          go_wp2_with fail
          go_roundg g
          case measure=>omega
          case rel=>exact⟨i+1,by first|rfl|exact congrArg (Value.int .i64) hwi.out,by have:=hig.out;unfold Hid;omega,by unfold Hid;rw[HAL.out,HOK.out,hgd.out];rfl,W5⟩
        ·have t6:(k !=6)=true:=by simpa using g60
         have H6:=hid g60
         clear g60
         by_cases g6:b=0
         ·have hgd:Hid ((txtOk k t&&goes k a b n)=true):=by unfold Hid;rw[HTX.out,goes_good HK.out g1 g2 (fun q=>absurd q H7.out) g4 g5 (fun _=>g6)];rfl
          have u6:(b !=0)=false:=by simp[g6]
          clear g6
          cases gk with
          |zero=>exact absurd hig.out (by have:=HI2.out;omega)
          |succ g=>
           go_wp2_with fail
           go_roundg g
           case measure=>omega
           case rel=>exact⟨i+1,by first|rfl|exact congrArg (Value.int .i64) hwi.out,by have:=hig.out;unfold Hid;omega,by unfold Hid;rw[HAL.out,HOK.out,hgd.out];rfl,W5⟩
         ·have HB6:=hid g6
          have u6:(b !=0)=true:=by simpa using g6
          clear g6
          go_wp2_with fail
          go_ret
          exact⟨by rw[←HR.out,RF.out (by rw[goes_bad HK.out (Or.inr (Or.inr (Or.inr (Or.inr (Or.inr ⟨H6.out,HB6.out⟩))))) HN0.out,Bool.and_false])];rfl,W5.out⟩
      ·have te:=Kit.list_full (s:=t) (by omega)
       have te2:=Kit.list_ne (s:=t) (by omega)
       have HTX:Hid (txtOk k t=false):=by unfold Hid;rw[HX.out,decide_eq_false hz]
       clear hz
       go_quiet (fail)
       have W5:=hid (on W4.out (below_draws w4 nq))
       go_wp2_with fail
       go_ret
       exact⟨by rw[←HR.out,RF.out (by rw[HTX.out,Bool.false_and])];rfl,W5.out⟩
   ·have hg0:goes k a b n=false:=by
      unfold goes
      rw[if_neg (by omega),if_neg (by omega),if_neg hk]
    have HG0:=hid hg0
    clear hg0
    by_cases hk1:k<1
    ·clear hk
     go_wp2_with (first
      |(refine load_ins rfl (.tmp 13) rfl rfl (r:=⟨k,t,a,b⟩) E1.out ?_)
      |(refine alloc_ins rfl rfl ?_;intro w3 b3 e3 p3 l3 z3)
      |(refine store_ins (r:=⟨k,t,a,b⟩) rfl (.tmp 4) (.tmp 14) rfl rfl rfl p3 ?_;intro w4 p4 l4 z4;have L4:=hid (two_new l3 l4 e3);have d0:=p4.c0;clear e3 p3 l3 z3 p4 l4 z4;simp only at d0))
     have W4:=hid (LB.out.trans (L4.out.mono LB.out.size))
     go_ret
     exact⟨by rw[←HR.out,RF.out (by rw[HG0.out,Bool.and_false])];rfl,W4.out⟩
    ·have hk2:8<k:=by omega
     clear hk
     go_wp2_with (first
      |(refine load_ins rfl (.tmp 13) rfl rfl (r:=⟨k,t,a,b⟩) E1.out ?_)
      |(refine alloc_ins rfl rfl ?_;intro w3 b3 e3 p3 l3 z3)
      |(refine store_ins (r:=⟨k,t,a,b⟩) rfl (.tmp 4) (.tmp 14) rfl rfl rfl p3 ?_;intro w4 p4 l4 z4;have L4:=hid (two_new l3 l4 e3);have d0:=p4.c0;clear e3 p3 l3 z3 p4 l4 z4;simp only at d0))
     have W4:=hid (LB.out.trans (L4.out.mono LB.out.size))
     go_ret
     exact⟨by rw[←HR.out,RF.out (by rw[HG0.out,Bool.and_false])];rfl,W4.out⟩
  ·have ti: ¬(i:Int)<(n:Int):=by omega
   have hie:i=n:=by have:=hig.out;omega
   have HV:Hid (rightP L=decide (0<n)):=by
    have:=HOK.out
    rw[hie,←HNL.out,List.take_length]at this
    unfold Hid rightP
    rw[this,Bool.true_and,HNL.out]
   clear hie hi
   go_wp2_with fail
   go_ret
   exact⟨by rw[←HR.out,HV.out];rfl,LB.out⟩
end W15
end Go.Proofs.YtehdnbidgphecaaGreatDoor
