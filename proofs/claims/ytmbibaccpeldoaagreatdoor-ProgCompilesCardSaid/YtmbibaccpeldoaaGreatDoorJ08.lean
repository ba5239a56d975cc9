/-
  Texts joined, in build order, each with its own comment and its own conditions: W15Goes, W15RefRight, W15Whole.
-/
import Derived.Test.YtmbibaccpeldoaaGreatDoorJ05
import Derived.Test.YtmbibaccpeldoaaGreatDoorJ07
import Derived.Deep.LoopGhost
import Derived.Test.YtmbibaccpeldoaaGreatDoorJ03
import Derived.Deep.RegionHeld3
import Derived.BigQuiet
import Derived.Test.YtmbibaccpeldoaaGreatDoorJ02
/-
  Layer 15 (prog), walks of the program's goesOn and Right: whether a program may be. The conditions stand in the statements.
-/
namespace Go.Proofs.YtmbibaccpeldoaaGreatDoor.W15
set_option maxRecDepth 100000
open Go Go.RowKit Go.Proofs.YtmbibaccpeldoaaGreatDoor.Strs Go.Proofs.YtmbibaccpeldoaaGreatDoor.Recs Go.Proofs.YtmbibaccpeldoaaGreatDoor.M15
open Go.Proofs.YtmbibaccpeldoaaGreatDoor.M13 (good)
open Go.Proofs.YtmbibaccpeldoaaGreatDoor.W14 (two_new cell_block)
open Go.Proofs.YtmbibaccpeldoaaGreatDoor.Kit (below_draws on)

set_option maxHeartbeats 2000000 in
theorem goes_1 (t : ByteArray) (a b : Int) (n : Nat) (w : World) : Calls Tryz.prog 22 #[.agg (insA ⟨1, t, a, b⟩), .int .i64 n] w fun e w' => e = .returned (.bool (goes 1 a b n)) ∧ Below w.heap.size w w' := by
  have hv : goes 1 a b n = (place a n && decide (b = 0)) := rfl
  rw [hv]
  have HP := Lib.hid (fun w => isPlace_any a n w)
  generalize place a n = q at *
  clear hv
  cases q with
  | false =>
    rw [Bool.false_and]
    go_enter Tryz.func22, Tryz.ntmps22
    go_wp2_with (first
      | (refine box_ins (r := ⟨1, t, a, b⟩) rfl (.tmp 0) rfl rfl ?_; intro w1 b1 e1 p1 l1 z1; have c0 := p1.c0; have c2 := p1.c2; have c3 := p1.c3; have L1 := Lib.hid l1; clear e1 p1 l1 z1; simp only at c0 c2 c3))
    refine (HP.out _).mono ?_
    rintro e w2 ⟨rfl, rfl⟩
    go_wp2_with fail
    go_ret
    exact ⟨rfl, L1.out⟩
  | true =>
    rw [Bool.true_and]
    by_cases hb : b = 0
    · rw [decide_eq_true hb]
      subst hb
      go_enter Tryz.func22, Tryz.ntmps22
      go_wp2_with (first
        | (refine box_ins (r := ⟨1, t, a, 0⟩) rfl (.tmp 0) rfl rfl ?_; intro w1 b1 e1 p1 l1 z1; have c0 := p1.c0; have c2 := p1.c2; have c3 := p1.c3; have L1 := Lib.hid l1; clear e1 p1 l1 z1; simp only at c0 c2 c3))
      refine (HP.out _).mono ?_
      rintro e w2 ⟨rfl, rfl⟩
      go_wp2_with fail
      go_ret
      exact ⟨rfl, L1.out⟩
    · rw [decide_eq_false hb]
      have tb : (b == 0) = false := by simpa using hb
      clear hb
      go_enter Tryz.func22, Tryz.ntmps22
      go_wp2_with (first
        | (refine box_ins (r := ⟨1, t, a, b⟩) rfl (.tmp 0) rfl rfl ?_; intro w1 b1 e1 p1 l1 z1; have c0 := p1.c0; have c2 := p1.c2; have c3 := p1.c3; have L1 := Lib.hid l1; clear e1 p1 l1 z1; simp only at c0 c2 c3))
      refine (HP.out _).mono ?_
      rintro e w2 ⟨rfl, rfl⟩
      go_wp2_with fail
      go_ret
      exact ⟨rfl, L1.out⟩
set_option maxHeartbeats 2000000 in
theorem goes_2 (t : ByteArray) (a b : Int) (n : Nat) (w : World) : Calls Tryz.prog 22 #[.agg (insA ⟨2, t, a, b⟩), .int .i64 n] w fun e w' => e = .returned (.bool (goes 2 a b n)) ∧ Below w.heap.size w w' := by
  have hv : goes 2 a b n = (place a n && decide (b = 0)) := rfl
  rw [hv]
  have HP := Lib.hid (fun w => isPlace_any a n w)
  generalize place a n = q at *
  clear hv
  cases q with
  | false =>
    rw [Bool.false_and]
    go_enter Tryz.func22, Tryz.ntmps22
    go_wp2_with (first
      | (refine box_ins (r := ⟨2, t, a, b⟩) rfl (.tmp 0) rfl rfl ?_; intro w1 b1 e1 p1 l1 z1; have c0 := p1.c0; have c2 := p1.c2; have c3 := p1.c3; have L1 := Lib.hid l1; clear e1 p1 l1 z1; simp only at c0 c2 c3))
    refine (HP.out _).mono ?_
    rintro e w2 ⟨rfl, rfl⟩
    go_wp2_with fail
    go_ret
    exact ⟨rfl, L1.out⟩
  | true =>
    rw [Bool.true_and]
    by_cases hb : b = 0
    · rw [decide_eq_true hb]
      subst hb
      go_enter Tryz.func22, Tryz.ntmps22
      go_wp2_with (first
        | (refine box_ins (r := ⟨2, t, a, 0⟩) rfl (.tmp 0) rfl rfl ?_; intro w1 b1 e1 p1 l1 z1; have c0 := p1.c0; have c2 := p1.c2; have c3 := p1.c3; have L1 := Lib.hid l1; clear e1 p1 l1 z1; simp only at c0 c2 c3))
      refine (HP.out _).mono ?_
      rintro e w2 ⟨rfl, rfl⟩
      go_wp2_with fail
      go_ret
      exact ⟨rfl, L1.out⟩
    · rw [decide_eq_false hb]
      have tb : (b == 0) = false := by simpa using hb
      clear hb
      go_enter Tryz.func22, Tryz.ntmps22
      go_wp2_with (first
        | (refine box_ins (r := ⟨2, t, a, b⟩) rfl (.tmp 0) rfl rfl ?_; intro w1 b1 e1 p1 l1 z1; have c0 := p1.c0; have c2 := p1.c2; have c3 := p1.c3; have L1 := Lib.hid l1; clear e1 p1 l1 z1; simp only at c0 c2 c3))
      refine (HP.out _).mono ?_
      rintro e w2 ⟨rfl, rfl⟩
      go_wp2_with fail
      go_ret
      exact ⟨rfl, L1.out⟩
set_option maxHeartbeats 2000000 in
theorem goes_3 (t : ByteArray) (a b : Int) (n : Nat) (w : World) : Calls Tryz.prog 22 #[.agg (insA ⟨3, t, a, b⟩), .int .i64 n] w fun e w' => e = .returned (.bool (goes 3 a b n)) ∧ Below w.heap.size w w' := by
  have hv : goes 3 a b n = (place a n && decide (b = 0)) := rfl
  rw [hv]
  have HP := Lib.hid (fun w => isPlace_any a n w)
  generalize place a n = q at *
  clear hv
  cases q with
  | false =>
    rw [Bool.false_and]
    go_enter Tryz.func22, Tryz.ntmps22
    go_wp2_with (first
      | (refine box_ins (r := ⟨3, t, a, b⟩) rfl (.tmp 0) rfl rfl ?_; intro w1 b1 e1 p1 l1 z1; have c0 := p1.c0; have c2 := p1.c2; have c3 := p1.c3; have L1 := Lib.hid l1; clear e1 p1 l1 z1; simp only at c0 c2 c3))
    refine (HP.out _).mono ?_
    rintro e w2 ⟨rfl, rfl⟩
    go_wp2_with fail
    go_ret
    exact ⟨rfl, L1.out⟩
  | true =>
    rw [Bool.true_and]
    by_cases hb : b = 0
    · rw [decide_eq_true hb]
      subst hb
      go_enter Tryz.func22, Tryz.ntmps22
      go_wp2_with (first
        | (refine box_ins (r := ⟨3, t, a, 0⟩) rfl (.tmp 0) rfl rfl ?_; intro w1 b1 e1 p1 l1 z1; have c0 := p1.c0; have c2 := p1.c2; have c3 := p1.c3; have L1 := Lib.hid l1; clear e1 p1 l1 z1; simp only at c0 c2 c3))
      refine (HP.out _).mono ?_
      rintro e w2 ⟨rfl, rfl⟩
      go_wp2_with fail
      go_ret
      exact ⟨rfl, L1.out⟩
    · rw [decide_eq_false hb]
      have tb : (b == 0) = false := by simpa using hb
      clear hb
      go_enter Tryz.func22, Tryz.ntmps22
      go_wp2_with (first
        | (refine box_ins (r := ⟨3, t, a, b⟩) rfl (.tmp 0) rfl rfl ?_; intro w1 b1 e1 p1 l1 z1; have c0 := p1.c0; have c2 := p1.c2; have c3 := p1.c3; have L1 := Lib.hid l1; clear e1 p1 l1 z1; simp only at c0 c2 c3))
      refine (HP.out _).mono ?_
      rintro e w2 ⟨rfl, rfl⟩
      go_wp2_with fail
      go_ret
      exact ⟨rfl, L1.out⟩
set_option maxHeartbeats 2000000 in
theorem goes_4 (t : ByteArray) (a b : Int) (n : Nat) (w : World) : Calls Tryz.prog 22 #[.agg (insA ⟨4, t, a, b⟩), .int .i64 n] w fun e w' => e = .returned (.bool (goes 4 a b n)) ∧ Below w.heap.size w w' := by
  have hv : goes 4 a b n = (place a n && decide (b = 0)) := rfl
  rw [hv]
  have HP := Lib.hid (fun w => isPlace_any a n w)
  generalize place a n = q at *
  clear hv
  cases q with
  | false =>
    rw [Bool.false_and]
    go_enter Tryz.func22, Tryz.ntmps22
    go_wp2_with (first
      | (refine box_ins (r := ⟨4, t, a, b⟩) rfl (.tmp 0) rfl rfl ?_; intro w1 b1 e1 p1 l1 z1; have c0 := p1.c0; have c2 := p1.c2; have c3 := p1.c3; have L1 := Lib.hid l1; clear e1 p1 l1 z1; simp only at c0 c2 c3))
    refine (HP.out _).mono ?_
    rintro e w2 ⟨rfl, rfl⟩
    go_wp2_with fail
    go_ret
    exact ⟨rfl, L1.out⟩
  | true =>
    rw [Bool.true_and]
    by_cases hb : b = 0
    · rw [decide_eq_true hb]
      subst hb
      go_enter Tryz.func22, Tryz.ntmps22
      go_wp2_with (first
        | (refine box_ins (r := ⟨4, t, a, 0⟩) rfl (.tmp 0) rfl rfl ?_; intro w1 b1 e1 p1 l1 z1; have c0 := p1.c0; have c2 := p1.c2; have c3 := p1.c3; have L1 := Lib.hid l1; clear e1 p1 l1 z1; simp only at c0 c2 c3))
      refine (HP.out _).mono ?_
      rintro e w2 ⟨rfl, rfl⟩
      go_wp2_with fail
      go_ret
      exact ⟨rfl, L1.out⟩
    · rw [decide_eq_false hb]
      have tb : (b == 0) = false := by simpa using hb
      clear hb
      go_enter Tryz.func22, Tryz.ntmps22
      go_wp2_with (first
        | (refine box_ins (r := ⟨4, t, a, b⟩) rfl (.tmp 0) rfl rfl ?_; intro w1 b1 e1 p1 l1 z1; have c0 := p1.c0; have c2 := p1.c2; have c3 := p1.c3; have L1 := Lib.hid l1; clear e1 p1 l1 z1; simp only at c0 c2 c3))
      refine (HP.out _).mono ?_
      rintro e w2 ⟨rfl, rfl⟩
      go_wp2_with fail
      go_ret
      exact ⟨rfl, L1.out⟩
set_option maxHeartbeats 2000000 in
theorem goes_5 (t : ByteArray) (a b : Int) (n : Nat) (w : World) : Calls Tryz.prog 22 #[.agg (insA ⟨5, t, a, b⟩), .int .i64 n] w fun e w' => e = .returned (.bool (goes 5 a b n)) ∧ Below w.heap.size w w' := by
  have hv : goes 5 a b n = (place a n && decide (b = 0)) := rfl
  rw [hv]
  have HP := Lib.hid (fun w => isPlace_any a n w)
  generalize place a n = q at *
  clear hv
  cases q with
  | false =>
    rw [Bool.false_and]
    go_enter Tryz.func22, Tryz.ntmps22
    go_wp2_with (first
      | (refine box_ins (r := ⟨5, t, a, b⟩) rfl (.tmp 0) rfl rfl ?_; intro w1 b1 e1 p1 l1 z1; have c0 := p1.c0; have c2 := p1.c2; have c3 := p1.c3; have L1 := Lib.hid l1; clear e1 p1 l1 z1; simp only at c0 c2 c3))
    refine (HP.out _).mono ?_
    rintro e w2 ⟨rfl, rfl⟩
    go_wp2_with fail
    go_ret
    exact ⟨rfl, L1.out⟩
  | true =>
    rw [Bool.true_and]
    by_cases hb : b = 0
    · rw [decide_eq_true hb]
      subst hb
      go_enter Tryz.func22, Tryz.ntmps22
      go_wp2_with (first
        | (refine box_ins (r := ⟨5, t, a, 0⟩) rfl (.tmp 0) rfl rfl ?_; intro w1 b1 e1 p1 l1 z1; have c0 := p1.c0; have c2 := p1.c2; have c3 := p1.c3; have L1 := Lib.hid l1; clear e1 p1 l1 z1; simp only at c0 c2 c3))
      refine (HP.out _).mono ?_
      rintro e w2 ⟨rfl, rfl⟩
      go_wp2_with fail
      go_ret
      exact ⟨rfl, L1.out⟩
    · rw [decide_eq_false hb]
      have tb : (b == 0) = false := by simpa using hb
      clear hb
      go_enter Tryz.func22, Tryz.ntmps22
      go_wp2_with (first
        | (refine box_ins (r := ⟨5, t, a, b⟩) rfl (.tmp 0) rfl rfl ?_; intro w1 b1 e1 p1 l1 z1; have c0 := p1.c0; have c2 := p1.c2; have c3 := p1.c3; have L1 := Lib.hid l1; clear e1 p1 l1 z1; simp only at c0 c2 c3))
      refine (HP.out _).mono ?_
      rintro e w2 ⟨rfl, rfl⟩
      go_wp2_with fail
      go_ret
      exact ⟨rfl, L1.out⟩
set_option maxHeartbeats 2000000 in
theorem goes_6 (t : ByteArray) (a b : Int) (n : Nat) (w : World) : Calls Tryz.prog 22 #[.agg (insA ⟨6, t, a, b⟩), .int .i64 n] w fun e w' => e = .returned (.bool (goes 6 a b n)) ∧ Below w.heap.size w w' := by
  have hv : goes 6 a b n = (place a n && place b n) := rfl
  rw [hv]
  have HP := Lib.hid (fun w => isPlace_any a n w)
  have HQ := Lib.hid (fun w => isPlace_any b n w)
  generalize place a n = q at *
  generalize place b n = q2 at *
  clear hv
  cases q with
  | false =>
    rw [Bool.false_and]
    go_enter Tryz.func22, Tryz.ntmps22
    go_wp2_with (first
      | (refine box_ins (r := ⟨6, t, a, b⟩) rfl (.tmp 0) rfl rfl ?_; intro w1 b1 e1 p1 l1 z1; have c0 := p1.c0; have c2 := p1.c2; have c3 := p1.c3; have L1 := Lib.hid l1; clear e1 p1 l1 z1; simp only at c0 c2 c3))
    refine (HP.out _).mono ?_
    rintro e w2 ⟨rfl, rfl⟩
    go_wp2_with fail
    go_ret
    exact ⟨rfl, L1.out⟩
  | true =>
    rw [Bool.true_and]
    go_enter Tryz.func22, Tryz.ntmps22
    go_wp2_with (first
      | (refine box_ins (r := ⟨6, t, a, b⟩) rfl (.tmp 0) rfl rfl ?_; intro w1 b1 e1 p1 l1 z1; have c0 := p1.c0; have c2 := p1.c2; have c3 := p1.c3; have L1 := Lib.hid l1; clear e1 p1 l1 z1; simp only at c0 c2 c3))
    refine (HP.out _).mono ?_
    rintro e w2 ⟨rfl, rfl⟩
    go_wp2_with fail
    refine (HQ.out _).mono ?_
    rintro e w2 ⟨rfl, rfl⟩
    go_wp2_with fail
    go_ret
    exact ⟨rfl, L1.out⟩
set_option maxHeartbeats 2000000 in
theorem goes_7 (t : ByteArray) (a b : Int) (n : Nat) (w : World) : Calls Tryz.prog 22 #[.agg (insA ⟨7, t, a, b⟩), .int .i64 n] w fun e w' => e = .returned (.bool (goes 7 a b n)) ∧ Below w.heap.size w w' := by
  have hv : goes 7 a b n = (decide (a = 0) && decide (b = 0)) := rfl
  rw [hv]
  clear hv
  by_cases ha : a = 0
  · rw [decide_eq_true ha, Bool.true_and]
    subst ha
    by_cases hb : b = 0
    · rw [decide_eq_true hb]
      subst hb
      go_enter Tryz.func22, Tryz.ntmps22
      go_wp2_with (first
        | (refine box_ins (r := ⟨7, t, 0, 0⟩) rfl (.tmp 0) rfl rfl ?_; intro w1 b1 e1 p1 l1 z1; have c0 := p1.c0; have c2 := p1.c2; have c3 := p1.c3; have L1 := Lib.hid l1; clear e1 p1 l1 z1; simp only at c0 c2 c3))
      go_ret
      exact ⟨rfl, L1.out⟩
    · rw [decide_eq_false hb]
      have tb : (b == 0) = false := by simpa using hb
      clear hb
      go_enter Tryz.func22, Tryz.ntmps22
      go_wp2_with (first
        | (refine box_ins (r := ⟨7, t, 0, b⟩) rfl (.tmp 0) rfl rfl ?_; intro w1 b1 e1 p1 l1 z1; have c0 := p1.c0; have c2 := p1.c2; have c3 := p1.c3; have L1 := Lib.hid l1; clear e1 p1 l1 z1; simp only at c0 c2 c3))
      go_ret
      exact ⟨rfl, L1.out⟩
  · rw [decide_eq_false ha, Bool.false_and]
    have ta : (a == 0) = false := by simpa using ha
    clear ha
    go_enter Tryz.func22, Tryz.ntmps22
    go_wp2_with (first
      | (refine box_ins (r := ⟨7, t, a, b⟩) rfl (.tmp 0) rfl rfl ?_; intro w1 b1 e1 p1 l1 z1; have c0 := p1.c0; have c2 := p1.c2; have c3 := p1.c3; have L1 := Lib.hid l1; clear e1 p1 l1 z1; simp only at c0 c2 c3))
    go_ret
    exact ⟨rfl, L1.out⟩
set_option maxHeartbeats 2000000 in
theorem goes_8 (t : ByteArray) (a b : Int) (n : Nat) (w : World) : Calls Tryz.prog 22 #[.agg (insA ⟨8, t, a, b⟩), .int .i64 n] w fun e w' => e = .returned (.bool (goes 8 a b n)) ∧ Below w.heap.size w w' := by
  have hv : goes 8 a b n = (place a n && decide (b = 0)) := rfl
  rw [hv]
  have HP := Lib.hid (fun w => isPlace_any a n w)
  generalize place a n = q at *
  clear hv
  cases q with
  | false =>
    rw [Bool.false_and]
    go_enter Tryz.func22, Tryz.ntmps22
    go_wp2_with (first
      | (refine box_ins (r := ⟨8, t, a, b⟩) rfl (.tmp 0) rfl rfl ?_; intro w1 b1 e1 p1 l1 z1; have c0 := p1.c0; have c2 := p1.c2; have c3 := p1.c3; have L1 := Lib.hid l1; clear e1 p1 l1 z1; simp only at c0 c2 c3))
    refine (HP.out _).mono ?_
    rintro e w2 ⟨rfl, rfl⟩
    go_wp2_with fail
    go_ret
    exact ⟨rfl, L1.out⟩
  | true =>
    rw [Bool.true_and]
    by_cases hb : b = 0
    · rw [decide_eq_true hb]
      subst hb
      go_enter Tryz.func22, Tryz.ntmps22
      go_wp2_with (first
        | (refine box_ins (r := ⟨8, t, a, 0⟩) rfl (.tmp 0) rfl rfl ?_; intro w1 b1 e1 p1 l1 z1; have c0 := p1.c0; have c2 := p1.c2; have c3 := p1.c3; have L1 := Lib.hid l1; clear e1 p1 l1 z1; simp only at c0 c2 c3))
      refine (HP.out _).mono ?_
      rintro e w2 ⟨rfl, rfl⟩
      go_wp2_with fail
      go_ret
      exact ⟨rfl, L1.out⟩
    · rw [decide_eq_false hb]
      have tb : (b == 0) = false := by simpa using hb
      clear hb
      go_enter Tryz.func22, Tryz.ntmps22
      go_wp2_with (first
        | (refine box_ins (r := ⟨8, t, a, b⟩) rfl (.tmp 0) rfl rfl ?_; intro w1 b1 e1 p1 l1 z1; have c0 := p1.c0; have c2 := p1.c2; have c3 := p1.c3; have L1 := Lib.hid l1; clear e1 p1 l1 z1; simp only at c0 c2 c3))
      refine (HP.out _).mono ?_
      rintro e w2 ⟨rfl, rfl⟩
      go_wp2_with fail
      go_ret
      exact ⟨rfl, L1.out⟩
set_option maxHeartbeats 2000000 in
theorem goes_other {k : Int} (hk : ¬ (1 ≤ k ∧ k ≤ 8)) (t : ByteArray) (a b : Int) (n : Nat) (w : World) : Calls Tryz.prog 22 #[.agg (insA ⟨k, t, a, b⟩), .int .i64 n] w fun e w' => e = .returned (.bool (goes k a b n)) ∧ Below w.heap.size w w' := by
  have hv : goes k a b n = false := by
    unfold goes
    rw [if_neg (by omega), if_neg (by omega), if_neg hk]
  rw [hv]
  have t1 : (k == 1) = false := by simp; omega
  have t2 : (k == 2) = false := by simp; omega
  have t3 : (k == 3) = false := by simp; omega
  have t4 : (k == 4) = false := by simp; omega
  have t5 : (k == 5) = false := by simp; omega
  have t6 : (k == 6) = false := by simp; omega
  have t7 : (k == 7) = false := by simp; omega
  have t8 : (k == 8) = false := by simp; omega
  clear hv hk
  go_enter Tryz.func22, Tryz.ntmps22
  go_wp2_with (first
    | (refine box_ins (r := ⟨k, t, a, b⟩) rfl (.tmp 0) rfl rfl ?_; intro w1 b1 e1 p1 l1 z1; have c0 := p1.c0; have c2 := p1.c2; have c3 := p1.c3; have L1 := Lib.hid l1; clear e1 p1 l1 z1; simp only at c0 c2 c3))
  go_ret
  exact ⟨rfl, L1.out⟩
theorem goesOn_any (x : Inst) (n : Nat) (w : World) : Calls Tryz.prog 22 #[.agg (insA x), .int .i64 n] w fun e w' => e = .returned (.bool (goes x.kind x.x x.y n)) ∧ Below w.heap.size w w' := by
  obtain ⟨k, t, a, b⟩ := x
  by_cases hk : 1 ≤ k ∧ k ≤ 8
  · have : k = 1 ∨ k = 2 ∨ k = 3 ∨ k = 4 ∨ k = 5 ∨ k = 6 ∨ k = 7 ∨ k = 8 := by omega
    rcases this with rfl | rfl | rfl | rfl | rfl | rfl | rfl | rfl
    · exact goes_1 t a b n w
    · exact goes_2 t a b n w
    · exact goes_3 t a b n w
    · exact goes_4 t a b n w
    · exact goes_5 t a b n w
    · exact goes_6 t a b n w
    · exact goes_7 t a b n w
    · exact goes_8 t a b n w
  · exact goes_other hk t a b n w
theorem all_take {α : Type} {f : α → Bool} {L : List α} {i : Nat} (hi : i < L.length) : (L.take (i + 1)).all f = ((L.take i).all f && f L[i]) := by
  rw [List.take_succ_eq_append_getElem hi, List.all_append]
  simp only [List.all_cons, List.all_nil, Bool.and_true]
theorem all_no {α : Type} {f : α → Bool} {L : List α} {i : Nat} (hi : i < L.length) (h : f L[i] = false) : L.all f = false := by
  rw [List.all_eq_false]
  exact ⟨L[i], List.getElem_mem hi, by simp [h]⟩
set_option maxHeartbeats 4000000 in
theorem right_any {w : World} {B : Nat} {v : Value} {L : List Inst} (h : Prg B w v L) (hB : B ≤ w.heap.size) : Calls Tryz.prog 11 #[v] w fun e w' => e = .returned (.bool (rightP L)) ∧ Below w.heap.size w w' := by
  obtain ⟨A, c, rfl, h1, h2⟩ := h.form
  have H := Lib.hid h
  unfold maxLen at h2
  have HC := Lib.hid (show L.length ≤ c ∧ c ≤ 9223372036854775807 from ⟨h1, h2⟩)
  have HBB := Lib.hid hB
  obtain ⟨R, hR⟩ : ∃ R, rightP L = R := ⟨_, rfl⟩
  rw [hR]
  have HR := Lib.hid hR
  clear h hB hR
  go_enter Tryz.func11, Tryz.ntmps11
  go_wp2_with fail
  clear h1 h2
  go_loopg [7] L.length (fun gk s7 wr => ∃ i : Nat, s7 = .int .i64 i ∧ Hid (i + gk = L.length) ∧ Hid ((L.take i).all (okI L.length) = true) ∧ Hid (Below w.heap.size w wr))
  case atStart => exact ⟨0, rfl, by unfold Hid; omega, by unfold Hid; simp, Below.refl _ _⟩
  case round =>
    obtain ⟨i, rfl, hig, HOK, LB⟩ := hrel
    have hc1 := HC.out.1
    have hc2 := HC.out.2
    by_cases hi : i < L.length
    · have ti : (i : Int) < (L.length : Int) := by omega
      obtain ⟨b1, o1, hl1, rfl, hb1, e1⟩ := H.out.flat_ insC_len (by decide) hi
      obtain ⟨x, hx⟩ : ∃ x, L[i] = x := ⟨_, rfl⟩
      rw [hx] at e1
      have E1 : Hid (∀ j, j < 4 → wr.cell? ⟨b1, o1 + i * 4 + j, none⟩ = (insC x)[j]?) := fun j hj => (cell_block (LB.out.block b1 (Nat.lt_of_lt_of_le hb1 HBB.out))).trans (e1 j hj)
      have HT := Lib.hid (isText_any x)
      have HG := Lib.hid (goesOn_any x L.length)
      have HALL := all_take (f := okI L.length) hi
      have HNO := fun q => all_no (f := okI L.length) hi q
      rw [hx] at HALL HNO
      have hok : okI L.length x = (txtOk x.kind x.text && goes x.kind x.x x.y L.length) := rfl
      rw [hok] at HALL HNO
      obtain ⟨q1, hq1⟩ : ∃ q1, txtOk x.kind x.text = q1 := ⟨_, rfl⟩
      obtain ⟨q2, hq2⟩ : ∃ q2, goes x.kind x.x x.y L.length = q2 := ⟨_, rfl⟩
      rw [hq1, hq2] at HALL HNO
      rw [hq1] at HT
      rw [hq2] at HG
      have HAL := Lib.hid HALL
      have HN2 := Lib.hid HNO
      have hwi : Hid (wrap64 ((i : Int) + 1) = ((i + 1 : Nat) : Int)) := by unfold Hid wrap64; omega
      have HI2 := Lib.hid hi
      clear e1 hb1 hx hl1 HALL HNO hok hq1 hq2 hi
      have RF : Hid ((q1 && q2) = false → rightP L = false) := fun q => by
        unfold rightP
        rw [HN2.out q, Bool.false_and]
      cases q1 with
      | false =>
        go_wp2_with (first
          | (refine load_ins rfl (.tmp 9) rfl rfl (r := x) E1.out ?_)
          | (refine alloc_ins rfl rfl ?_; intro w3 b3 e3 p3 l3 z3)
          | (refine store_ins (r := x) rfl (.tmp 4) (.tmp 10) rfl rfl rfl p3 ?_; intro w4 p4 l4 z4; have L4 := Lib.hid (two_new l3 l4 e3); have P4 := Lib.hid p4; clear e3 p3 l3 z3 p4 l4 z4)
          | (refine load_ibox rfl (.tmp 4) rfl rfl (r := x) P4.out ?_))
        refine (HT.out _).mono ?_
        rintro e w5 ⟨rfl, l5⟩
        have L5 := Lib.hid (LB.out.trans ((on L4.out l5).mono LB.out.size))
        clear l5
        go_wp2_with fail
        go_ret
        exact ⟨by rw [← HR.out, RF.out rfl]; rfl, L5.out⟩
      | true =>
        go_wp2_with (first
          | (refine load_ins rfl (.tmp 9) rfl rfl (r := x) E1.out ?_)
          | (refine alloc_ins rfl rfl ?_; intro w3 b3 e3 p3 l3 z3)
          | (refine store_ins (r := x) rfl (.tmp 4) (.tmp 10) rfl rfl rfl p3 ?_; intro w4 p4 l4 z4; have L4 := Lib.hid (two_new l3 l4 e3); have P4 := Lib.hid p4; clear e3 p3 l3 z3 p4 l4 z4)
          | (refine load_ibox rfl (.tmp 4) rfl rfl (r := x) P4.out ?_))
        refine (HT.out _).mono ?_
        rintro e w5 ⟨rfl, l5⟩
        have P5 := Lib.hid (P4.out.below l5)
        have b0 := P5.out.c0
        have b1' := P5.out.c1
        have b2 := P5.out.c2
        have b3' := P5.out.c3
        have W5 := Lib.hid (on L4.out l5)
        clear l5
        go_wp2_with fail
        refine (HG.out _).mono ?_
        rintro e w6 ⟨rfl, l6⟩
        have L6 := Lib.hid (LB.out.trans ((on W5.out l6).mono LB.out.size))
        clear l6 b0 b1' b2 b3'
        cases q2 with
        | false =>
          go_wp2_with fail
          go_ret
          exact ⟨by rw [← HR.out, RF.out rfl]; rfl, L6.out⟩
        | true =>
          cases gk with
          | zero => exact absurd hig.out (by have := HI2.out; omega)
          | succ g =>
            go_wp2_with fail
            go_roundg g
            case measure => omega
            case rel => exact ⟨i + 1, by first | rfl | exact congrArg (Value.int .i64) hwi.out, by have := hig.out; unfold Hid; omega, by unfold Hid; rw [HAL.out, HOK.out]; rfl, L6⟩
    · have ti : ¬ (i : Int) < (L.length : Int) := by omega
      have hie : i = L.length := by have := hig.out; omega
      have HV : Hid (rightP L = decide (0 < L.length)) := by
        have := HOK.out
        rw [hie, List.take_length] at this
        unfold Hid rightP
        rw [this, Bool.true_and]
      clear hie hi
      go_wp2_with fail
      go_ret
      exact ⟨by rw [← HR.out, HV.out]; rfl, LB.out⟩
end Go.Proofs.YtmbibaccpeldoaaGreatDoor.W15
/-
  Layer 15 (prog), walk of the document's Right: whether a program may be. The conditions stand in the statements.
-/
namespace Go.Proofs.YtmbibaccpeldoaaGreatDoor.M15
set_option maxRecDepth 100000
open Go
end Go.Proofs.YtmbibaccpeldoaaGreatDoor.M15
namespace Go.Proofs.YtmbibaccpeldoaaGreatDoor.W15
open Go Go.RowKit Go.Proofs.YtmbibaccpeldoaaGreatDoor.Strs Go.Proofs.YtmbibaccpeldoaaGreatDoor.Recs Go.Proofs.YtmbibaccpeldoaaGreatDoor.M15
open Go.Proofs.YtmbibaccpeldoaaGreatDoor.M13 (good has)
open Go.Proofs.YtmbibaccpeldoaaGreatDoor.W14 (two_new cell_block)
open Go.Proofs.YtmbibaccpeldoaaGreatDoor.Kit (below_draws on)

theorem union_good {t : ByteArray} (h : good t.data.toList = true) : (W13.tx fun i => has t.data.toList i || has t.data.toList i) = t := by
  refine Kit.ba_ext ?_
  rw [W13.tx_list, M13.textOf_congr (g := has t.data.toList) (fun i _ => Bool.or_self _)]
  exact (M13.good_text h).symm
theorem union_bad {t : ByteArray} (h : good t.data.toList = false) : ¬ (W13.tx fun i => has t.data.toList i || has t.data.toList i) = t := by
  intro q
  have h1 := M13.textOf_good (fun i => has t.data.toList i || has t.data.toList i)
  rw [← W13.tx_list, q, h] at h1
  cases h1
end Go.Proofs.YtmbibaccpeldoaaGreatDoor.W15
/-
  Layer 15 (prog), walks of layer 14's own often and whole of any piece. The conditions stand in the statements.
-/
namespace Go.Proofs.YtmbibaccpeldoaaGreatDoor.W15
set_option maxRecDepth 100000
open Go Go.RowKit Go.Proofs.YtmbibaccpeldoaaGreatDoor.Strs Go.Proofs.YtmbibaccpeldoaaGreatDoor.Recs Go.Proofs.YtmbibaccpeldoaaGreatDoor.M15
open Go.Proofs.YtmbibaccpeldoaaGreatDoor.M13 (good has)
open Go.Proofs.YtmbibaccpeldoaaGreatDoor.M14 (Piece)
open Go.Proofs.YtmbibaccpeldoaaGreatDoor.W14 (Raw rawA rawC PAt PBox PLow box_arg load_piece load_at cell_block)
open Go.Proofs.YtmbibaccpeldoaaGreatDoor.Kit (below_draws on)

def Asks (f : Nat) (r : Raw) (v : Bool) : Prop := ∀ w, Calls Tryz.prog f #[.agg (rawA r)] w fun e w' => e = .returned (.bool v) ∧ Below w.heap.size w w'
set_option maxHeartbeats 4000000 in
theorem roft_any (k : Int) (t : ByteArray) (A : Option Addr) (n c : Nat) (m tp : Int) (hc : n ≤ c ∧ c ≤ 9223372036854775807) : Asks 23 ⟨k, t, A, n, c, m, tp⟩ (oft t n m tp) := by
  intro w
  have hc1 := hc.1
  have hc2 := hc.2
  clear hc
  unfold oft
  by_cases h1 : n = 1
  · rw [decide_eq_true h1]
    subst h1
    by_cases h2 : t.size = 0
    · rw [decide_eq_true h2]
      have te := Kit.list_none (s := t) (by omega)
      have te2 := Kit.list_nil (s := t) (by omega)
      clear h2
      by_cases h3 : 0 ≤ m
      · rw [decide_eq_true h3]
        have x1 : ¬ m < 0 := by omega
        by_cases h4 : m ≤ 100
        · rw [decide_eq_true h4]
          have x2 : ¬ 100 < m := by omega
          by_cases h5 : tp ≤ 100
          · rw [decide_eq_true h5]
            have x3 : ¬ 100 < tp := by omega
            clear h3 h4 h5
            by_cases h6 : tp = -1
            · rw [decide_eq_true h6]
              subst h6
              go_enter Tryz.func23, Tryz.ntmps23
              go_wp2_with (first
                | (refine box_arg (r := ⟨k, t, A, 1, c, m, -1⟩) rfl (.tmp 0) rfl rfl ?_; intro w1 b1 e1 p1 l1 z1; have a1 := p1.c1; have a2 := p1.c2; have a3 := p1.c3; have a4 := p1.c4; have L1 := Lib.hid l1; clear e1 p1 l1 z1; simp only at a1 a2 a3 a4))
              go_ret
              exact ⟨rfl, L1.out⟩
            · rw [decide_eq_false h6]
              have x4 : (tp == -1) = false := by simpa using h6
              clear h6
              by_cases h7 : m ≤ tp
              · rw [decide_eq_true h7]
                go_enter Tryz.func23, Tryz.ntmps23
                go_wp2_with (first
                  | (refine box_arg (r := ⟨k, t, A, 1, c, m, tp⟩) rfl (.tmp 0) rfl rfl ?_; intro w1 b1 e1 p1 l1 z1; have a1 := p1.c1; have a2 := p1.c2; have a3 := p1.c3; have a4 := p1.c4; have L1 := Lib.hid l1; clear e1 p1 l1 z1; simp only at a1 a2 a3 a4))
                go_ret
                exact ⟨rfl, L1.out⟩
              · rw [decide_eq_false h7]
                go_enter Tryz.func23, Tryz.ntmps23
                go_wp2_with (first
                  | (refine box_arg (r := ⟨k, t, A, 1, c, m, tp⟩) rfl (.tmp 0) rfl rfl ?_; intro w1 b1 e1 p1 l1 z1; have a1 := p1.c1; have a2 := p1.c2; have a3 := p1.c3; have a4 := p1.c4; have L1 := Lib.hid l1; clear e1 p1 l1 z1; simp only at a1 a2 a3 a4))
                go_ret
                exact ⟨rfl, L1.out⟩
          · rw [decide_eq_false h5]
            have x3 : 100 < tp := by omega
            clear h3 h4 h5
            rw [show (true && true && true && true && false && (decide (tp = -1) || decide (m ≤ tp))) = false from rfl]
            go_enter Tryz.func23, Tryz.ntmps23
            go_wp2_with (first
              | (refine box_arg (r := ⟨k, t, A, 1, c, m, tp⟩) rfl (.tmp 0) rfl rfl ?_; intro w1 b1 e1 p1 l1 z1; have a1 := p1.c1; have a2 := p1.c2; have a3 := p1.c3; have a4 := p1.c4; have L1 := Lib.hid l1; clear e1 p1 l1 z1; simp only at a1 a2 a3 a4))
            go_ret
            exact ⟨rfl, L1.out⟩
        · rw [decide_eq_false h4]
          have x2 : 100 < m := by omega
          clear h3 h4
          rw [show (true && true && true && false && decide (tp ≤ 100) && (decide (tp = -1) || decide (m ≤ tp))) = false from rfl]
          go_enter Tryz.func23, Tryz.ntmps23
          go_wp2_with (first
            | (refine box_arg (r := ⟨k, t, A, 1, c, m, tp⟩) rfl (.tmp 0) rfl rfl ?_; intro w1 b1 e1 p1 l1 z1; have a1 := p1.c1; have a2 := p1.c2; have a3 := p1.c3; have a4 := p1.c4; have L1 := Lib.hid l1; clear e1 p1 l1 z1; simp only at a1 a2 a3 a4))
          go_ret
          exact ⟨rfl, L1.out⟩
      · rw [decide_eq_false h3]
        have x1 : m < 0 := by omega
        clear h3
        rw [show (true && true && false && decide (m ≤ 100) && decide (tp ≤ 100) && (decide (tp = -1) || decide (m ≤ tp))) = false from rfl]
        go_enter Tryz.func23, Tryz.ntmps23
        go_wp2_with (first
          | (refine box_arg (r := ⟨k, t, A, 1, c, m, tp⟩) rfl (.tmp 0) rfl rfl ?_; intro w1 b1 e1 p1 l1 z1; have a1 := p1.c1; have a2 := p1.c2; have a3 := p1.c3; have a4 := p1.c4; have L1 := Lib.hid l1; clear e1 p1 l1 z1; simp only at a1 a2 a3 a4))
        go_ret
        exact ⟨rfl, L1.out⟩
    · rw [decide_eq_false h2]
      have te := Kit.list_full (s := t) (by omega)
      have te2 := Kit.list_ne (s := t) (by omega)
      clear h2
      rw [show (true && false && decide (0 ≤ m) && decide (m ≤ 100) && decide (tp ≤ 100) && (decide (tp = -1) || decide (m ≤ tp))) = false from rfl]
      go_enter Tryz.func23, Tryz.ntmps23
      go_wp2_with (first
        | (refine box_arg (r := ⟨k, t, A, 1, c, m, tp⟩) rfl (.tmp 0) rfl rfl ?_; intro w1 b1 e1 p1 l1 z1; have a1 := p1.c1; have a2 := p1.c2; have a3 := p1.c3; have a4 := p1.c4; have L1 := Lib.hid l1; clear e1 p1 l1 z1; simp only at a1 a2 a3 a4))
      go_ret
      exact ⟨rfl, L1.out⟩
  · rw [decide_eq_false h1]
    have tn : ((n : Int) != 1) = true := by simp; omega
    clear h1
    rw [show (false && decide (t.size = 0) && decide (0 ≤ m) && decide (m ≤ 100) && decide (tp ≤ 100) && (decide (tp = -1) || decide (m ≤ tp))) = false from rfl]
    go_enter Tryz.func23, Tryz.ntmps23
    go_wp2_with (first
      | (refine box_arg (r := ⟨k, t, A, n, c, m, tp⟩) rfl (.tmp 0) rfl rfl ?_; intro w1 b1 e1 p1 l1 z1; have a1 := p1.c1; have a2 := p1.c2; have a3 := p1.c3; have a4 := p1.c4; have L1 := Lib.hid l1; clear e1 p1 l1 z1; simp only at a1 a2 a3 a4))
    go_ret
    exact ⟨rfl, L1.out⟩
set_option maxRecDepth 100000 in
set_option maxHeartbeats 16000000 in
theorem rwhole_mk {k : Int} {t : ByteArray} {ks : List Piece} {m tp : Int} (IH : ∀ i (hi : i < ks.length) (w : World) (r : Raw), PLow w r ks[i] → Calls Tryz.prog 38 #[.agg (rawA r)] w fun e w' => e = .returned (.bool (gwhole ks[i])) ∧ Below w.heap.size w w') {w : World} {r : Raw} (h : PLow w r (.mk k t ks m tp)) :
    Calls Tryz.prog 38 #[.agg (rawA r)] w fun e w' => e = .returned (.bool (gwhole (.mk k t ks m tp))) ∧ Below w.heap.size w w' := by
  rw [gwhole_mk]
  obtain ⟨A, c, raws, rfl, k1⟩ := h.parts
  have HI := Lib.hid IH
  have HR := Lib.hid k1.room
  have K1 := Lib.hid k1
  obtain ⟨V, hV⟩ : ∃ V, (ks.all gwhole && own k t ks.length m tp) = V := ⟨_, rfl⟩
  rw [hV]
  have HV := Lib.hid hV
  have HO := Lib.hid (roft_any k t A ks.length c m tp k1.room)
  unfold Asks at HO
  clear h k1 IH hV
  go_enter Tryz.func38, Tryz.ntmps38
  go_wp2_with (first
    | (refine box_arg (r := ⟨k, t, A, ks.length, c, m, tp⟩) rfl (.tmp 0) rfl rfl ?_; intro w1 b1 e1 p1 l1 z1; have P1 := Lib.hid p1; have L1 := Lib.hid l1; clear e1 p1 l1 z1))
  have K1 := Lib.hid (K1.out.below L1.out)
  go_loopg [3] ks.length (fun gk s3 wr => ∃ i : Nat, s3 = .int .i64 i ∧ Hid (i + gk = ks.length) ∧ Hid ((ks.take i).all gwhole = true) ∧ Hid (PBox wr b1 ⟨k, t, A, ks.length, c, m, tp⟩) ∧ Hid (W14.Kids wr A c raws ks) ∧ Hid (Below w.heap.size w wr))
  case atStart => exact ⟨0, rfl, by unfold Hid; omega, by unfold Hid; simp, P1, K1, L1⟩
  case round =>
    obtain ⟨i, rfl, hig, HALL, P1, K1, HB⟩ := hrel
    have a0 := P1.out.c0
    have a1 := P1.out.c1
    have a2 := P1.out.c2
    have a3 := P1.out.c3
    have a4 := P1.out.c4
    simp only at a0 a1 a2 a3 a4
    have hn1 := HR.out.1
    have hn2 := HR.out.2
    by_cases hi : i < ks.length
    · have ti : (i : Int) < (ks.length : Int) := by omega
      obtain ⟨g1, o1, rfl, C1⟩ := K1.out.at_ (Nat.lt_of_le_of_lt (Nat.zero_le _) hi)
      obtain ⟨hr1, q1⟩ := K1.out.kid hi
      have E1 := Lib.hid (C1 i hr1)
      obtain ⟨rk, hrk⟩ : ∃ rk, raws[i]'hr1 = rk := ⟨_, rfl⟩
      rw [hrk] at E1 q1
      have HC := Lib.hid (HI.out i hi wr rk q1)
      have HAL := Lib.hid (all_take (f := gwhole) hi)
      have HNO := Lib.hid (fun q => all_no (f := gwhole) hi q)
      obtain ⟨q, hq⟩ : ∃ q, gwhole (ks[i]'hi) = q := ⟨_, rfl⟩
      rw [hq] at HC HAL HNO
      have HI2 := Lib.hid hi
      have hwi : Hid (wrap64 ((i : Int) + 1) = ((i + 1 : Nat) : Int)) := by unfold Hid wrap64; omega
      clear C1 q1 hrk hq hi a0 a1 a3 a4
      go_wp2_with (first | (refine load_at rfl (.tmp 14) rfl rfl (r := rk) E1.out ?_))
      refine HC.out.mono ?_
      rintro e w2 ⟨rfl, l2⟩
      have P2 := Lib.hid (P1.out.below l2)
      have K2 := Lib.hid (K1.out.below l2)
      have B2 := Lib.hid (HB.out.trans (l2.mono HB.out.size))
      clear l2 a2
      cases q with
      | false =>
        go_wp2_with fail
        go_ret
        exact ⟨by rw [← HV.out, HNO.out (by first | rfl | trivial), Bool.false_and]; rfl, B2.out⟩
      | true =>
        cases gk with
        | zero => exact absurd hig.out (by have := HI2.out; omega)
        | succ g =>
          go_wp2_with fail
          go_roundg g
          case measure => omega
          case rel => exact ⟨i + 1, by first | rfl | exact congrArg (Value.int .i64) hwi.out, by have := hig.out; unfold Hid; omega, by unfold Hid; rw [HAL.out, HALL.out]; rfl, P2, K2, B2⟩
    · have ti : ¬ (i : Int) < (ks.length : Int) := by omega
      have hie : i = ks.length := by have := hig.out; omega
      have HVV : Hid (V = own k t ks.length m tp) := by
        have := HALL.out
        rw [hie, List.take_length] at this
        unfold Hid
        rw [← HV.out, this, Bool.true_and]
      clear hie hi
      obtain ⟨n, hn⟩ : ∃ n, ks.length = n := ⟨_, rfl⟩
      rw [hn] at HVV HO a2 ti hn1 P1 ⊢
      clear hn
      by_cases h9 : k = 9
      · have t9 : (k == 9) = true := by simp [h9]
        have HW : Hid (V = oft t n m tp) := by unfold Hid; rw [HVV.out]; unfold own; rw [if_pos h9]
        clear h9
        go_wp2_with (first | (refine load_piece (r := ⟨k, t, A, n, c, m, tp⟩) rfl (.tmp 1) rfl rfl P1.out ?_))
        refine (HO.out _).mono ?_
        rintro e w2 ⟨rfl, l2⟩
        have B2 := Lib.hid (HB.out.trans (l2.mono HB.out.size))
        clear l2
        go_wp2_with fail
        go_ret
        exact ⟨by rw [HW.out]; rfl, B2.out⟩
      · have t9 : (k == 9) = false := by simpa using h9
        by_cases hm : m = 0
        · have tm : (m != 0) = false := by simp [hm]
          by_cases htp : tp = 0
          · have tt : (tp != 0) = false := by simp [htp]
            have HW : Hid (V = if k = 7 ∨ k = 8 then decide (1 < n) && decide (t.size = 0) else decide (n = 0) && (if k = 2 then decide (t.size = 1) else if k = 4 then good t.data.toList else decide (t.size = 0) && decide (k = 1 ∨ k = 3 ∨ k = 5 ∨ k = 6))) := by
              unfold Hid; rw [HVV.out]; unfold own; rw [if_neg h9, decide_eq_true hm, decide_eq_true htp, Bool.true_and, Bool.true_and]
            clear hm htp h9
            by_cases h7 : k = 7 ∨ k = 8
            · rw [if_pos h7] at HW
              by_cases hz1 : 1 < n
              · rw [decide_eq_true hz1, Bool.true_and] at HW
                have tn : (1 : Int) < (n : Int) := by omega
                clear hz1
                by_cases hz : t.size = 0
                · rw [decide_eq_true hz] at HW
                  have te := Kit.list_none (s := t) (by omega)
                  have te2 := Kit.list_nil (s := t) (by omega)
                  clear hz
                  rcases h7 with h7 | h7
                  · have t7 : (k == 7) = true := by simp [h7]
                    clear h7
                    go_wp2_with fail
                    go_ret
                    exact ⟨by rw [HW.out]; rfl, HB.out⟩
                  · have t7 : (k == 7) = false := by simp [h7]
                    have t8 : (k == 8) = true := by simp [h7]
                    clear h7
                    go_wp2_with fail
                    go_ret
                    exact ⟨by rw [HW.out]; rfl, HB.out⟩
                · rw [decide_eq_false hz] at HW
                  have te := Kit.list_full (s := t) (by omega)
                  have te2 := Kit.list_ne (s := t) (by omega)
                  clear hz
                  rcases h7 with h7 | h7
                  · have t7 : (k == 7) = true := by simp [h7]
                    clear h7
                    go_wp2_with fail
                    go_ret
                    exact ⟨by rw [HW.out]; rfl, HB.out⟩
                  · have t7 : (k == 7) = false := by simp [h7]
                    have t8 : (k == 8) = true := by simp [h7]
                    clear h7
                    go_wp2_with fail
                    go_ret
                    exact ⟨by rw [HW.out]; rfl, HB.out⟩
              · rw [decide_eq_false hz1, Bool.false_and] at HW
                have tn : ¬ (1 : Int) < (n : Int) := by omega
                clear hz1
                rcases h7 with h7 | h7
                · have t7 : (k == 7) = true := by simp [h7]
                  clear h7
                  go_wp2_with fail
                  go_ret
                  exact ⟨by rw [HW.out]; rfl, HB.out⟩
                · have t7 : (k == 7) = false := by simp [h7]
                  have t8 : (k == 8) = true := by simp [h7]
                  clear h7
                  go_wp2_with fail
                  go_ret
                  exact ⟨by rw [HW.out]; rfl, HB.out⟩
            · rw [if_neg h7] at HW
              have t7 : (k == 7) = false := by simp; omega
              have t8 : (k == 8) = false := by simp; omega
              clear h7
              by_cases hz0 : n = 0
              · rw [decide_eq_true hz0, Bool.true_and] at HW
                have tn : ¬ (0 : Int) < (n : Int) := by omega
                clear hz0
                by_cases h2 : k = 2
                · rw [if_pos h2] at HW
                  have t2 : (k == 2) = true := by simp [h2]
                  clear h2
                  by_cases hz : t.size = 1
                  · rw [decide_eq_true hz] at HW
                    have tz : ((t.size : Int) == 1) = true := by simp [hz]
                    clear hz
                    go_wp2_with fail
                    go_ret
                    exact ⟨by rw [HW.out]; rfl, HB.out⟩
                  · rw [decide_eq_false hz] at HW
                    have tz : ((t.size : Int) == 1) = false := by simp; omega
                    clear hz
                    go_wp2_with fail
                    go_ret
                    exact ⟨by rw [HW.out]; rfl, HB.out⟩
                · rw [if_neg h2] at HW
                  have t2 : (k == 2) = false := by simpa using h2
                  by_cases h4 : k = 4
                  · rw [if_pos h4] at HW
                    have t4 : (k == 4) = true := by simp [h4]
                    clear h2 h4
                    have HU0 := fun w => W13.refUnion_any t t w
                    by_cases hz : good t.data.toList = true
                    · rw [hz] at HW
                      rw [union_good hz] at HU0
                      have HU := Lib.hid HU0
                      have tz : (t.toList == t.toList) = true := by simp
                      clear hz HU0
                      have D4 := Lib.hid (below_draws wr 1)
                      go_wp2_with fail
                      refine wp_region_held_drew (S := fun w' => w'.cell? ⟨b1, 1, none⟩ = some (.string t)) (by kernel_rfl) P1.out.c1 (fun hHeld => ?_)
                      refine wpAnyH_take (i := 0) (oi := { dst := some 62, op := Op.fieldAddr 24 (Operand.tmp 1) 1, type := 0, pos := "ref.go:240", after := #[], guard := none }) (v := ?vg0) rfl (by kernel_rfl) (by kernel_rfl) (by kernel_rfl) (fun _ _ _ h => h) (Or.inl ⟨by rfl, ?hg0⟩) (by assumption) ?rg0
                      case hg0 => (intro w hSw; (try dsimp only at hSw); go_simp; try with_reducible rfl)
                      try simp only [Act.put, List.setIfInBounds_toArray, List.set_cons_zero, List.set_cons_succ]
                      refine wpAnyH_take (i := 1) (oi := { dst := some 63, op := Op.load 9 (Operand.tmp 62), type := 9, pos := "ref.go:240", after := #[{ on := 0, ground := Ground.data }], guard := none }) (v := ?vg1) rfl (by kernel_rfl) (by kernel_rfl) (by kernel_rfl) (fun _ _ _ h => h) (Or.inl ⟨by rfl, ?hg1⟩) (by assumption) ?rg1
                      case hg1 => (intro w hSw; (try dsimp only at hSw); go_simp; try with_reducible rfl)
                      try simp only [Act.put, List.setIfInBounds_toArray, List.set_cons_zero, List.set_cons_succ]
                      refine wpAnyH_take (i := 2) (oi := { dst := some 64, op := Op.fieldAddr 24 (Operand.tmp 1) 1, type := 0, pos := "ref.go:240", after := #[], guard := none }) (v := ?vg2) rfl (by kernel_rfl) (by kernel_rfl) (by kernel_rfl) (fun _ _ _ h => h) (Or.inl ⟨by rfl, ?hg2⟩) (by assumption) ?rg2
                      case hg2 => (intro w hSw; (try dsimp only at hSw); go_simp; try with_reducible rfl)
                      try simp only [Act.put, List.setIfInBounds_toArray, List.set_cons_zero, List.set_cons_succ]
                      refine wpAnyH_take (i := 3) (oi := { dst := some 65, op := Op.load 9 (Operand.tmp 64), type := 9, pos := "ref.go:240", after := #[{ on := 2, ground := Ground.data }], guard := none }) (v := ?vg3) rfl (by kernel_rfl) (by kernel_rfl) (by kernel_rfl) (fun _ _ _ h => h) (Or.inl ⟨by rfl, ?hg3⟩) (by assumption) ?rg3
                      case hg3 => (intro w hSw; (try dsimp only at hSw); go_simp; try with_reducible rfl)
                      try simp only [Act.put, List.setIfInBounds_toArray, List.set_cons_zero, List.set_cons_succ]
                      refine wpAnyH_take (i := 5) (oi := { dst := some 67, op := Op.fieldAddr 24 (Operand.tmp 1) 1, type := 0, pos := "ref.go:240", after := #[], guard := none }) (v := ?vg5) rfl (by kernel_rfl) (by kernel_rfl) (by kernel_rfl) (fun _ _ _ h => h) (Or.inl ⟨by rfl, ?hg5⟩) (by assumption) ?rg5
                      case hg5 => (intro w hSw; (try dsimp only at hSw); go_simp; try with_reducible rfl)
                      try simp only [Act.put, List.setIfInBounds_toArray, List.set_cons_zero, List.set_cons_succ]
                      refine wpAnyH_take (i := 6) (oi := { dst := some 68, op := Op.load 9 (Operand.tmp 67), type := 9, pos := "ref.go:240", after := #[{ on := 5, ground := Ground.data }], guard := none }) (v := ?vg6) rfl (by kernel_rfl) (by kernel_rfl) (by kernel_rfl) (fun _ _ _ h => h) (Or.inl ⟨by rfl, ?hg6⟩) (by assumption) ?rg6
                      case hg6 => (intro w hSw; (try dsimp only at hSw); go_simp; try with_reducible rfl)
                      try simp only [Act.put, List.setIfInBounds_toArray, List.set_cons_zero, List.set_cons_succ]
                      refine wpAnyH_ready (rs := [4]) (by kernel_rfl) (by simp) ?_
                      refine AllReadyH.cons (o := { dst := some 66, op := Op.call { callee := Callee.value (Operand.func 27), args := #[Operand.tmp 63, Operand.tmp 65], argTypes := #[9, 9] }, type := 9, pos := "ref.go:240", after := #[{ on := 1, ground := Ground.data }, { on := 3, ground := Ground.data }], guard := none }) rfl (fun K hK => ?_) AllReadyH.nil
                      go_simp
                      (go_at_call 27; refine (HU.out _).mono ?_; rintro e x1 ⟨rfl, m1⟩; have LU := Lib.hid (on D4.out m1); have PU := Lib.hid (P1.out.below LU.out); clear m1)
                      go_wp2_with fail
                      refine hK.out _ _ ?_ (fun hHeld => ?_)
                      · exact PU.out.c1
                      clear hK K
                      try simp only [Act.put, List.setIfInBounds_toArray, List.set_cons_zero, List.set_cons_succ]
                      refine wpAnyH_take (i := 7) (oi := { dst := some 69, op := Op.binOp BinOp.eql 9 (Operand.tmp 66) (Operand.tmp 68) 9, type := 4, pos := "ref.go:240", after := #[{ on := 4, ground := Ground.data }, { on := 6, ground := Ground.data }], guard := none }) (v := ?vg7) rfl (by kernel_rfl) (by kernel_rfl) (by kernel_rfl) (fun _ _ _ h => h) (Or.inl ⟨by rfl, ?hg7⟩) (by assumption) ?rg7
                      case hg7 => (intro w hSw; (try dsimp only at hSw); go_simp; try with_reducible rfl)
                      try simp only [Act.put, List.setIfInBounds_toArray, List.set_cons_zero, List.set_cons_succ]
                      refine wpAnyH_take (i := 8) (oi := { dst := some 2, op := Op.assign (Operand.tmp 69), type := 4, pos := "ref.go:240", after := #[{ on := 7, ground := Ground.data }, { on := 4, ground := Ground.chain }, { on := 0, ground := Ground.phase }, { on := 1, ground := Ground.phase }, { on := 2, ground := Ground.phase }, { on := 3, ground := Ground.phase }, { on := 4, ground := Ground.phase }, { on := 5, ground := Ground.phase }, { on := 6, ground := Ground.phase }, { on := 7, ground := Ground.phase }], guard := none }) (v := ?vg8) rfl (by kernel_rfl) (by kernel_rfl) (by kernel_rfl) (fun _ _ _ h => h) (Or.inl ⟨by rfl, ?hg8⟩) (by assumption) ?rg8
                      case hg8 => (intro w hSw; (try dsimp only at hSw); go_simp; try with_reducible rfl)
                      try simp only [Act.put, List.setIfInBounds_toArray, List.set_cons_zero, List.set_cons_succ]
                      refine wpAnyH_done (by kernel_rfl) ?_ _
                      have B5 := Lib.hid (HB.out.trans (LU.out.mono HB.out.size))
                      go_wp2_with fail
                      go_ret
                      exact ⟨by rw [HW.out]; first | rfl | simp [tz], B5.out⟩
                    · have hzf : good t.data.toList = false := by simpa using hz
                      rw [hzf] at HW
                      have hne := union_bad hzf
                      obtain ⟨u, hu⟩ : ∃ u, (W13.tx fun i => has t.data.toList i || has t.data.toList i) = u := ⟨_, rfl⟩
                      rw [hu] at HU0 hne
                      have HU := Lib.hid HU0
                      have tz : (u.toList == t.toList) = false := by
                        have : ¬ u.toList = t.toList := fun q => hne (Kit.ba_ext (by rw [← Lib.toList_data, ← Lib.toList_data, q]))
                        simpa using this
                      clear hz hzf hne hu HU0
                      have D4 := Lib.hid (below_draws wr 1)
                      go_wp2_with fail
                      refine wp_region_held_drew (S := fun w' => w'.cell? ⟨b1, 1, none⟩ = some (.string t)) (by kernel_rfl) P1.out.c1 (fun hHeld => ?_)
                      refine wpAnyH_take (i := 0) (oi := { dst := some 62, op := Op.fieldAddr 24 (Operand.tmp 1) 1, type := 0, pos := "ref.go:240", after := #[], guard := none }) (v := ?vh0) rfl (by kernel_rfl) (by kernel_rfl) (by kernel_rfl) (fun _ _ _ h => h) (Or.inl ⟨by rfl, ?hh0⟩) (by assumption) ?rh0
                      case hh0 => (intro w hSw; (try dsimp only at hSw); go_simp; try with_reducible rfl)
                      try simp only [Act.put, List.setIfInBounds_toArray, List.set_cons_zero, List.set_cons_succ]
                      refine wpAnyH_take (i := 1) (oi := { dst := some 63, op := Op.load 9 (Operand.tmp 62), type := 9, pos := "ref.go:240", after := #[{ on := 0, ground := Ground.data }], guard := none }) (v := ?vh1) rfl (by kernel_rfl) (by kernel_rfl) (by kernel_rfl) (fun _ _ _ h => h) (Or.inl ⟨by rfl, ?hh1⟩) (by assumption) ?rh1
                      case hh1 => (intro w hSw; (try dsimp only at hSw); go_simp; try with_reducible rfl)
                      try simp only [Act.put, List.setIfInBounds_toArray, List.set_cons_zero, List.set_cons_succ]
                      refine wpAnyH_take (i := 2) (oi := { dst := some 64, op := Op.fieldAddr 24 (Operand.tmp 1) 1, type := 0, pos := "ref.go:240", after := #[], guard := none }) (v := ?vh2) rfl (by kernel_rfl) (by kernel_rfl) (by kernel_rfl) (fun _ _ _ h => h) (Or.inl ⟨by rfl, ?hh2⟩) (by assumption) ?rh2
                      case hh2 => (intro w hSw; (try dsimp only at hSw); go_simp; try with_reducible rfl)
                      try simp only [Act.put, List.setIfInBounds_toArray, List.set_cons_zero, List.set_cons_succ]
                      refine wpAnyH_take (i := 3) (oi := { dst := some 65, op := Op.load 9 (Operand.tmp 64), type := 9, pos := "ref.go:240", after := #[{ on := 2, ground := Ground.data }], guard := none }) (v := ?vh3) rfl (by kernel_rfl) (by kernel_rfl) (by kernel_rfl) (fun _ _ _ h => h) (Or.inl ⟨by rfl, ?hh3⟩) (by assumption) ?rh3
                      case hh3 => (intro w hSw; (try dsimp only at hSw); go_simp; try with_reducible rfl)
                      try simp only [Act.put, List.setIfInBounds_toArray, List.set_cons_zero, List.set_cons_succ]
                      refine wpAnyH_take (i := 5) (oi := { dst := some 67, op := Op.fieldAddr 24 (Operand.tmp 1) 1, type := 0, pos := "ref.go:240", after := #[], guard := none }) (v := ?vh5) rfl (by kernel_rfl) (by kernel_rfl) (by kernel_rfl) (fun _ _ _ h => h) (Or.inl ⟨by rfl, ?hh5⟩) (by assumption) ?rh5
                      case hh5 => (intro w hSw; (try dsimp only at hSw); go_simp; try with_reducible rfl)
                      try simp only [Act.put, List.setIfInBounds_toArray, List.set_cons_zero, List.set_cons_succ]
                      refine wpAnyH_take (i := 6) (oi := { dst := some 68, op := Op.load 9 (Operand.tmp 67), type := 9, pos := "ref.go:240", after := #[{ on := 5, ground := Ground.data }], guard := none }) (v := ?vh6) rfl (by kernel_rfl) (by kernel_rfl) (by kernel_rfl) (fun _ _ _ h => h) (Or.inl ⟨by rfl, ?hh6⟩) (by assumption) ?rh6
                      case hh6 => (intro w hSw; (try dsimp only at hSw); go_simp; try with_reducible rfl)
                      try simp only [Act.put, List.setIfInBounds_toArray, List.set_cons_zero, List.set_cons_succ]
                      refine wpAnyH_ready (rs := [4]) (by kernel_rfl) (by simp) ?_
                      refine AllReadyH.cons (o := { dst := some 66, op := Op.call { callee := Callee.value (Operand.func 27), args := #[Operand.tmp 63, Operand.tmp 65], argTypes := #[9, 9] }, type := 9, pos := "ref.go:240", after := #[{ on := 1, ground := Ground.data }, { on := 3, ground := Ground.data }], guard := none }) rfl (fun K hK => ?_) AllReadyH.nil
                      go_simp
                      (go_at_call 27; refine (HU.out _).mono ?_; rintro e x1 ⟨rfl, m1⟩; have LU := Lib.hid (on D4.out m1); have PU := Lib.hid (P1.out.below LU.out); clear m1)
                      go_wp2_with fail
                      refine hK.out _ _ ?_ (fun hHeld => ?_)
                      · exact PU.out.c1
                      clear hK K
                      try simp only [Act.put, List.setIfInBounds_toArray, List.set_cons_zero, List.set_cons_succ]
                      refine wpAnyH_take (i := 7) (oi := { dst := some 69, op := Op.binOp BinOp.eql 9 (Operand.tmp 66) (Operand.tmp 68) 9, type := 4, pos := "ref.go:240", after := #[{ on := 4, ground := Ground.data }, { on := 6, ground := Ground.data }], guard := none }) (v := ?vh7) rfl (by kernel_rfl) (by kernel_rfl) (by kernel_rfl) (fun _ _ _ h => h) (Or.inl ⟨by rfl, ?hh7⟩) (by assumption) ?rh7
                      case hh7 => (intro w hSw; (try dsimp only at hSw); go_simp; try with_reducible rfl)
                      try simp only [Act.put, List.setIfInBounds_toArray, List.set_cons_zero, List.set_cons_succ]
                      refine wpAnyH_take (i := 8) (oi := { dst := some 2, op := Op.assign (Operand.tmp 69), type := 4, pos := "ref.go:240", after := #[{ on := 7, ground := Ground.data }, { on := 4, ground := Ground.chain }, { on := 0, ground := Ground.phase }, { on := 1, ground := Ground.phase }, { on := 2, ground := Ground.phase }, { on := 3, ground := Ground.phase }, { on := 4, ground := Ground.phase }, { on := 5, ground := Ground.phase }, { on := 6, ground := Ground.phase }, { on := 7, ground := Ground.phase }], guard := none }) (v := ?vh8) rfl (by kernel_rfl) (by kernel_rfl) (by kernel_rfl) (fun _ _ _ h => h) (Or.inl ⟨by rfl, ?hh8⟩) (by assumption) ?rh8
                      case hh8 => (intro w hSw; (try dsimp only at hSw); go_simp; try with_reducible rfl)
                      try simp only [Act.put, List.setIfInBounds_toArray, List.set_cons_zero, List.set_cons_succ]
                      refine wpAnyH_done (by kernel_rfl) ?_ _
                      have B5 := Lib.hid (HB.out.trans (LU.out.mono HB.out.size))
                      go_wp2_with fail
                      go_ret
                      exact ⟨by rw [HW.out]; first | rfl | simp [tz], B5.out⟩
                  · rw [if_neg h4] at HW
                    have t4 : (k == 4) = false := by simpa using h4
                    by_cases hz : t.size = 0
                    · rw [decide_eq_true hz, Bool.true_and] at HW
                      have te := Kit.list_none (s := t) (by omega)
                      have te2 := Kit.list_nil (s := t) (by omega)
                      clear hz
                      by_cases k1 : k = 1
                      · rw [decide_eq_true (show k = 1 ∨ k = 3 ∨ k = 5 ∨ k = 6 by omega)] at HW
                        have u1 : (k == 1) = true := by simp [k1]
                        clear k1 h2 h4
                        go_wp2_with fail
                        go_ret
                        exact ⟨by rw [HW.out]; rfl, HB.out⟩
                      · have u1 : (k == 1) = false := by simpa using k1
                        by_cases k3 : k = 3
                        · rw [decide_eq_true (show k = 1 ∨ k = 3 ∨ k = 5 ∨ k = 6 by omega)] at HW
                          have u3 : (k == 3) = true := by simp [k3]
                          clear k1 k3 h2 h4
                          go_wp2_with fail
                          go_ret
                          exact ⟨by rw [HW.out]; rfl, HB.out⟩
                        · have u3 : (k == 3) = false := by simpa using k3
                          by_cases k5 : k = 5
                          · rw [decide_eq_true (show k = 1 ∨ k = 3 ∨ k = 5 ∨ k = 6 by omega)] at HW
                            have u5 : (k == 5) = true := by simp [k5]
                            clear k1 k3 k5 h2 h4
                            go_wp2_with fail
                            go_ret
                            exact ⟨by rw [HW.out]; rfl, HB.out⟩
                          · have u5 : (k == 5) = false := by simpa using k5
                            by_cases k6 : k = 6
                            · rw [decide_eq_true (show k = 1 ∨ k = 3 ∨ k = 5 ∨ k = 6 by omega)] at HW
                              have u6 : (k == 6) = true := by simp [k6]
                              clear k1 k3 k5 k6 h2 h4
                              go_wp2_with fail
                              go_ret
                              exact ⟨by rw [HW.out]; rfl, HB.out⟩
                            · have u6 : (k == 6) = false := by simpa using k6
                              rw [decide_eq_false (show ¬ (k = 1 ∨ k = 3 ∨ k = 5 ∨ k = 6) by omega)] at HW
                              clear k1 k3 k5 k6 h2 h4
                              go_wp2_with fail
                              go_ret
                              exact ⟨by rw [HW.out]; rfl, HB.out⟩
                    · rw [decide_eq_false hz, Bool.false_and] at HW
                      have te := Kit.list_full (s := t) (by omega)
                      have te2 := Kit.list_ne (s := t) (by omega)
                      clear hz h2 h4
                      go_wp2_with fail
                      go_ret
                      exact ⟨by rw [HW.out]; rfl, HB.out⟩
              · rw [decide_eq_false hz0, Bool.false_and] at HW
                have tn : (0 : Int) < (n : Int) := by omega
                clear hz0
                go_wp2_with fail
                go_ret
                exact ⟨by rw [HW.out]; rfl, HB.out⟩
          · have tt : (tp != 0) = true := by simpa using htp
            have HW : Hid (V = false) := by unfold Hid; rw [HVV.out]; unfold own; rw [if_neg h9, decide_eq_true hm, decide_eq_false htp, Bool.true_and, Bool.false_and]
            clear hm htp h9
            go_wp2_with fail
            go_ret
            exact ⟨by rw [HW.out]; rfl, HB.out⟩
        · have tm : (m != 0) = true := by simpa using hm
          have HW : Hid (V = false) := by unfold Hid; rw [HVV.out]; unfold own; rw [if_neg h9, decide_eq_false hm, Bool.false_and]
          clear hm h9
          go_wp2_with fail
          go_ret
          exact ⟨by rw [HW.out]; rfl, HB.out⟩
theorem rwhole_any (p : Piece) : ∀ (w : World) (r : Raw), PLow w r p → Calls Tryz.prog 38 #[.agg (rawA r)] w fun e w' => e = .returned (.bool (gwhole p)) ∧ Below w.heap.size w w' := by
  induction p using M15.ind with
  | h k t ks m tp ih => exact fun w r h => rwhole_mk (fun i hi => ih ks[i] (List.getElem_mem hi)) h
end Go.Proofs.YtmbibaccpeldoaaGreatDoor.W15
