/-
  Texts joined, in build order, each with its own comment and its own conditions: W15Goes, W13Ref.
-/
import Derived.Test.YtmbibaccpeldoaaGreatDoorJ04
import Derived.Test.YtmbibaccpeldoaaGreatDoorJ07
import Derived.Deep.LoopGhost
import Derived.Test.YtmbibaccpeldoaaGreatDoorJ06
import Derived.Deep.OwnRows
/-
  Layer 15 (prog), walks of the program's goesOn and Right: whether a program may be. The conditions stand in the statements.
-/
namespace Go.Proofs.YtmbibaccpeldoaaGreatDoor.W15
set_option maxRecDepth 100000
open Go Go.RowKit Go.Proofs.YtmbibaccpeldoaaGreatDoor.Strs Go.Proofs.YtmbibaccpeldoaaGreatDoor.Recs Go.Proofs.YtmbibaccpeldoaaGreatDoor.M15
open Go.Proofs.YtmbibaccpeldoaaGreatDoor.M13 (good)
open Go.Proofs.YtmbibaccpeldoaaGreatDoor.W14 (two_new cell_block)
open Go.Proofs.YtmbibaccpeldoaaGreatDoor.Kit (below_draws on)

set_option maxHeartbeats 2000000 in
theorem goes_1 (t : ByteArray) (a b : Int) (n : Nat) (w : World) : Calls Tryz.prog 22 #[.agg (insA ⟨1, t, a, b⟩), .int .i64 n] w fun e w' => e = .returned (.bool (goes 1 a b n)) ∧ Below w.heap.size w w' := by
  have hv : goes 1 a b n = (place a n && decide (b = 0)) := rfl
  rw [hv]
  have HP := Lib.hid (fun w => isPlace_any a n w)
  generalize place a n = q at *
  clear hv
  cases q with
  | false =>
    rw [Bool.false_and]
    go_enter Tryz.func22, Tryz.ntmps22
    go_wp2_with (first
      | (refine box_ins (r := ⟨1, t, a, b⟩) rfl (.tmp 0) rfl rfl ?_; intro w1 b1 e1 p1 l1 z1; have c0 := p1.c0; have c2 := p1.c2; have c3 := p1.c3; have L1 := Lib.hid l1; clear e1 p1 l1 z1; simp only at c0 c2 c3))
    refine (HP.out _).mono ?_
    rintro e w2 ⟨rfl, rfl⟩
    go_wp2_with fail
    go_ret
    exact ⟨rfl, L1.out⟩
  | true =>
    rw [Bool.true_and]
    by_cases hb : b = 0
    · rw [decide_eq_true hb]
      subst hb
      go_enter Tryz.func22, Tryz.ntmps22
      go_wp2_with (first
        | (refine box_ins (r := ⟨1, t, a, 0⟩) rfl (.tmp 0) rfl rfl ?_; intro w1 b1 e1 p1 l1 z1; have c0 := p1.c0; have c2 := p1.c2; have c3 := p1.c3; have L1 := Lib.hid l1; clear e1 p1 l1 z1; simp only at c0 c2 c3))
      refine (HP.out _).mono ?_
      rintro e w2 ⟨rfl, rfl⟩
      go_wp2_with fail
      go_ret
      exact ⟨rfl, L1.out⟩
    · rw [decide_eq_false hb]
      have tb : (b == 0) = false := by simpa using hb
      clear hb
      go_enter Tryz.func22, Tryz.ntmps22
      go_wp2_with (first
        | (refine box_ins (r := ⟨1, t, a, b⟩) rfl (.tmp 0) rfl rfl ?_; intro w1 b1 e1 p1 l1 z1; have c0 := p1.c0; have c2 := p1.c2; have c3 := p1.c3; have L1 := Lib.hid l1; clear e1 p1 l1 z1; simp only at c0 c2 c3))
      refine (HP.out _).mono ?_
      rintro e w2 ⟨rfl, rfl⟩
      go_wp2_with fail
      go_ret
      exact ⟨rfl, L1.out⟩
set_option maxHeartbeats 2000000 in
theorem goes_2 (t : ByteArray) (a b : Int) (n : Nat) (w : World) : Calls Tryz.prog 22 #[.agg (insA ⟨2, t, a, b⟩), .int .i64 n] w fun e w' => e = .returned (.bool (goes 2 a b n)) ∧ Below w.heap.size w w' := by
  have hv : goes 2 a b n = (place a n && decide (b = 0)) := rfl
  rw [hv]
  have HP := Lib.hid (fun w => isPlace_any a n w)
  generalize place a n = q at *
  clear hv
  cases q with
  | false =>
    rw [Bool.false_and]
    go_enter Tryz.func22, Tryz.ntmps22
    go_wp2_with (first
      | (refine box_ins (r := ⟨2, t, a, b⟩) rfl (.tmp 0) rfl rfl ?_; intro w1 b1 e1 p1 l1 z1; have c0 := p1.c0; have c2 := p1.c2; have c3 := p1.c3; have L1 := Lib.hid l1; clear e1 p1 l1 z1; simp only at c0 c2 c3))
    refine (HP.out _).mono ?_
    rintro e w2 ⟨rfl, rfl⟩
    go_wp2_with fail
    go_ret
    exact ⟨rfl, L1.out⟩
  | true =>
    rw [Bool.true_and]
    by_cases hb : b = 0
    · rw [decide_eq_true hb]
      subst hb
      go_enter Tryz.func22, Tryz.ntmps22
      go_wp2_with (first
        | (refine box_ins (r := ⟨2, t, a, 0⟩) rfl (.tmp 0) rfl rfl ?_; intro w1 b1 e1 p1 l1 z1; have c0 := p1.c0; have c2 := p1.c2; have c3 := p1.c3; have L1 := Lib.hid l1; clear e1 p1 l1 z1; simp only at c0 c2 c3))
      refine (HP.out _).mono ?_
      rintro e w2 ⟨rfl, rfl⟩
      go_wp2_with fail
      go_ret
      exact ⟨rfl, L1.out⟩
    · rw [decide_eq_false hb]
      have tb : (b == 0) = false := by simpa using hb
      clear hb
      go_enter Tryz.func22, Tryz.ntmps22
      go_wp2_with (first
        | (refine box_ins (r := ⟨2, t, a, b⟩) rfl (.tmp 0) rfl rfl ?_; intro w1 b1 e1 p1 l1 z1; have c0 := p1.c0; have c2 := p1.c2; have c3 := p1.c3; have L1 := Lib.hid l1; clear e1 p1 l1 z1; simp only at c0 c2 c3))
      refine (HP.out _).mono ?_
      rintro e w2 ⟨rfl, rfl⟩
      go_wp2_with fail
      go_ret
      exact ⟨rfl, L1.out⟩
set_option maxHeartbeats 2000000 in
theorem goes_3 (t : ByteArray) (a b : Int) (n : Nat) (w : World) : Calls Tryz.prog 22 #[.agg (insA ⟨3, t, a, b⟩), .int .i64 n] w fun e w' => e = .returned (.bool (goes 3 a b n)) ∧ Below w.heap.size w w' := by
  have hv : goes 3 a b n = (place a n && decide (b = 0)) := rfl
  rw [hv]
  have HP := Lib.hid (fun w => isPlace_any a n w)
  generalize place a n = q at *
  clear hv
  cases q with
  | false =>
    rw [Bool.false_and]
    go_enter Tryz.func22, Tryz.ntmps22
    go_wp2_with (first
      | (refine box_ins (r := ⟨3, t, a, b⟩) rfl (.tmp 0) rfl rfl ?_; intro w1 b1 e1 p1 l1 z1; have c0 := p1.c0; have c2 := p1.c2; have c3 := p1.c3; have L1 := Lib.hid l1; clear e1 p1 l1 z1; simp only at c0 c2 c3))
    refine (HP.out _).mono ?_
    rintro e w2 ⟨rfl, rfl⟩
    go_wp2_with fail
    go_ret
    exact ⟨rfl, L1.out⟩
  | true =>
    rw [Bool.true_and]
    by_cases hb : b = 0
    · rw [decide_eq_true hb]
      subst hb
      go_enter Tryz.func22, Tryz.ntmps22
      go_wp2_with (first
        | (refine box_ins (r := ⟨3, t, a, 0⟩) rfl (.tmp 0) rfl rfl ?_; intro w1 b1 e1 p1 l1 z1; have c0 := p1.c0; have c2 := p1.c2; have c3 := p1.c3; have L1 := Lib.hid l1; clear e1 p1 l1 z1; simp only at c0 c2 c3))
      refine (HP.out _).mono ?_
      rintro e w2 ⟨rfl, rfl⟩
      go_wp2_with fail
      go_ret
      exact ⟨rfl, L1.out⟩
    · rw [decide_eq_false hb]
      have tb : (b == 0) = false := by simpa using hb
      clear hb
      go_enter Tryz.func22, Tryz.ntmps22
      go_wp2_with (first
        | (refine box_ins (r := ⟨3, t, a, b⟩) rfl (.tmp 0) rfl rfl ?_; intro w1 b1 e1 p1 l1 z1; have c0 := p1.c0; have c2 := p1.c2; have c3 := p1.c3; have L1 := Lib.hid l1; clear e1 p1 l1 z1; simp only at c0 c2 c3))
      refine (HP.out _).mono ?_
      rintro e w2 ⟨rfl, rfl⟩
      go_wp2_with fail
      go_ret
      exact ⟨rfl, L1.out⟩
set_option maxHeartbeats 2000000 in
theorem goes_4 (t : ByteArray) (a b : Int) (n : Nat) (w : World) : Calls Tryz.prog 22 #[.agg (insA ⟨4, t, a, b⟩), .int .i64 n] w fun e w' => e = .returned (.bool (goes 4 a b n)) ∧ Below w.heap.size w w' := by
  have hv : goes 4 a b n = (place a n && decide (b = 0)) := rfl
  rw [hv]
  have HP := Lib.hid (fun w => isPlace_any a n w)
  generalize place a n = q at *
  clear hv
  cases q with
  | false =>
    rw [Bool.false_and]
    go_enter Tryz.func22, Tryz.ntmps22
    go_wp2_with (first
      | (refine box_ins (r := ⟨4, t, a, b⟩) rfl (.tmp 0) rfl rfl ?_; intro w1 b1 e1 p1 l1 z1; have c0 := p1.c0; have c2 := p1.c2; have c3 := p1.c3; have L1 := Lib.hid l1; clear e1 p1 l1 z1; simp only at c0 c2 c3))
    refine (HP.out _).mono ?_
    rintro e w2 ⟨rfl, rfl⟩
    go_wp2_with fail
    go_ret
    exact ⟨rfl, L1.out⟩
  | true =>
    rw [Bool.true_and]
    by_cases hb : b = 0
    · rw [decide_eq_true hb]
      subst hb
      go_enter Tryz.func22, Tryz.ntmps22
      go_wp2_with (first
        | (refine box_ins (r := ⟨4, t, a, 0⟩) rfl (.tmp 0) rfl rfl ?_; intro w1 b1 e1 p1 l1 z1; have c0 := p1.c0; have c2 := p1.c2; have c3 := p1.c3; have L1 := Lib.hid l1; clear e1 p1 l1 z1; simp only at c0 c2 c3))
      refine (HP.out _).mono ?_
      rintro e w2 ⟨rfl, rfl⟩
      go_wp2_with fail
      go_ret
      exact ⟨rfl, L1.out⟩
    · rw [decide_eq_false hb]
      have tb : (b == 0) = false := by simpa using hb
      clear hb
      go_enter Tryz.func22, Tryz.ntmps22
      go_wp2_with (first
        | (refine box_ins (r := ⟨4, t, a, b⟩) rfl (.tmp 0) rfl rfl ?_; intro w1 b1 e1 p1 l1 z1; have c0 := p1.c0; have c2 := p1.c2; have c3 := p1.c3; have L1 := Lib.hid l1; clear e1 p1 l1 z1; simp only at c0 c2 c3))
      refine (HP.out _).mono ?_
      rintro e w2 ⟨rfl, rfl⟩
      go_wp2_with fail
      go_ret
      exact ⟨rfl, L1.out⟩
set_option maxHeartbeats 2000000 in
theorem goes_5 (t : ByteArray) (a b : Int) (n : Nat) (w : World) : Calls Tryz.prog 22 #[.agg (insA ⟨5, t, a, b⟩), .int .i64 n] w fun e w' => e = .returned (.bool (goes 5 a b n)) ∧ Below w.heap.size w w' := by
  have hv : goes 5 a b n = (place a n && decide (b = 0)) := rfl
  rw [hv]
  have HP := Lib.hid (fun w => isPlace_any a n w)
  generalize place a n = q at *
  clear hv
  cases q with
  | false =>
    rw [Bool.false_and]
    go_enter Tryz.func22, Tryz.ntmps22
    go_wp2_with (first
      | (refine box_ins (r := ⟨5, t, a, b⟩) rfl (.tmp 0) rfl rfl ?_; intro w1 b1 e1 p1 l1 z1; have c0 := p1.c0; have c2 := p1.c2; have c3 := p1.c3; have L1 := Lib.hid l1; clear e1 p1 l1 z1; simp only at c0 c2 c3))
    refine (HP.out _).mono ?_
    rintro e w2 ⟨rfl, rfl⟩
    go_wp2_with fail
    go_ret
    exact ⟨rfl, L1.out⟩
  | true =>
    rw [Bool.true_and]
    by_cases hb : b = 0
    · rw [decide_eq_true hb]
      subst hb
      go_enter Tryz.func22, Tryz.ntmps22
      go_wp2_with (first
        | (refine box_ins (r := ⟨5, t, a, 0⟩) rfl (.tmp 0) rfl rfl ?_; intro w1 b1 e1 p1 l1 z1; have c0 := p1.c0; have c2 := p1.c2; have c3 := p1.c3; have L1 := Lib.hid l1; clear e1 p1 l1 z1; simp only at c0 c2 c3))
      refine (HP.out _).mono ?_
      rintro e w2 ⟨rfl, rfl⟩
      go_wp2_with fail
      go_ret
      exact ⟨rfl, L1.out⟩
    · rw [decide_eq_false hb]
      have tb : (b == 0) = false := by simpa using hb
      clear hb
      go_enter Tryz.func22, Tryz.ntmps22
      go_wp2_with (first
        | (refine box_ins (r := ⟨5, t, a, b⟩) rfl (.tmp 0) rfl rfl ?_; intro w1 b1 e1 p1 l1 z1; have c0 := p1.c0; have c2 := p1.c2; have c3 := p1.c3; have L1 := Lib.hid l1; clear e1 p1 l1 z1; simp only at c0 c2 c3))
      refine (HP.out _).mono ?_
      rintro e w2 ⟨rfl, rfl⟩
      go_wp2_with fail
      go_ret
      exact ⟨rfl, L1.out⟩
set_option maxHeartbeats 2000000 in
theorem goes_6 (t : ByteArray) (a b : Int) (n : Nat) (w : World) : Calls Tryz.prog 22 #[.agg (insA ⟨6, t, a, b⟩), .int .i64 n] w fun e w' => e = .returned (.bool (goes 6 a b n)) ∧ Below w.heap.size w w' := by
  have hv : goes 6 a b n = (place a n && place b n) := rfl
  rw [hv]
  have HP := Lib.hid (fun w => isPlace_any a n w)
  have HQ := Lib.hid (fun w => isPlace_any b n w)
  generalize place a n = q at *
  generalize place b n = q2 at *
  clear hv
  cases q with
  | false =>
    rw [Bool.false_and]
    go_enter Tryz.func22, Tryz.ntmps22
    go_wp2_with (first
      | (refine box_ins (r := ⟨6, t, a, b⟩) rfl (.tmp 0) rfl rfl ?_; intro w1 b1 e1 p1 l1 z1; have c0 := p1.c0; have c2 := p1.c2; have c3 := p1.c3; have L1 := Lib.hid l1; clear e1 p1 l1 z1; simp only at c0 c2 c3))
    refine (HP.out _).mono ?_
    rintro e w2 ⟨rfl, rfl⟩
    go_wp2_with fail
    go_ret
    exact ⟨rfl, L1.out⟩
  | true =>
    rw [Bool.true_and]
    go_enter Tryz.func22, Tryz.ntmps22
    go_wp2_with (first
      | (refine box_ins (r := ⟨6, t, a, b⟩) rfl (.tmp 0) rfl rfl ?_; intro w1 b1 e1 p1 l1 z1; have c0 := p1.c0; have c2 := p1.c2; have c3 := p1.c3; have L1 := Lib.hid l1; clear e1 p1 l1 z1; simp only at c0 c2 c3))
    refine (HP.out _).mono ?_
    rintro e w2 ⟨rfl, rfl⟩
    go_wp2_with fail
    refine (HQ.out _).mono ?_
    rintro e w2 ⟨rfl, rfl⟩
    go_wp2_with fail
    go_ret
    exact ⟨rfl, L1.out⟩
set_option maxHeartbeats 2000000 in
theorem goes_7 (t : ByteArray) (a b : Int) (n : Nat) (w : World) : Calls Tryz.prog 22 #[.agg (insA ⟨7, t, a, b⟩), .int .i64 n] w fun e w' => e = .returned (.bool (goes 7 a b n)) ∧ Below w.heap.size w w' := by
  have hv : goes 7 a b n = (decide (a = 0) && decide (b = 0)) := rfl
  rw [hv]
  clear hv
  by_cases ha : a = 0
  · rw [decide_eq_true ha, Bool.true_and]
    subst ha
    by_cases hb : b = 0
    · rw [decide_eq_true hb]
      subst hb
      go_enter Tryz.func22, Tryz.ntmps22
      go_wp2_with (first
        | (refine box_ins (r := ⟨7, t, 0, 0⟩) rfl (.tmp 0) rfl rfl ?_; intro w1 b1 e1 p1 l1 z1; have c0 := p1.c0; have c2 := p1.c2; have c3 := p1.c3; have L1 := Lib.hid l1; clear e1 p1 l1 z1; simp only at c0 c2 c3))
      go_ret
      exact ⟨rfl, L1.out⟩
    · rw [decide_eq_false hb]
      have tb : (b == 0) = false := by simpa using hb
      clear hb
      go_enter Tryz.func22, Tryz.ntmps22
      go_wp2_with (first
        | (refine box_ins (r := ⟨7, t, 0, b⟩) rfl (.tmp 0) rfl rfl ?_; intro w1 b1 e1 p1 l1 z1; have c0 := p1.c0; have c2 := p1.c2; have c3 := p1.c3; have L1 := Lib.hid l1; clear e1 p1 l1 z1; simp only at c0 c2 c3))
      go_ret
      exact ⟨rfl, L1.out⟩
  · rw [decide_eq_false ha, Bool.false_and]
    have ta : (a == 0) = false := by simpa using ha
    clear ha
    go_enter Tryz.func22, Tryz.ntmps22
    go_wp2_with (first
      | (refine box_ins (r := ⟨7, t, a, b⟩) rfl (.tmp 0) rfl rfl ?_; intro w1 b1 e1 p1 l1 z1; have c0 := p1.c0; have c2 := p1.c2; have c3 := p1.c3; have L1 := Lib.hid l1; clear e1 p1 l1 z1; simp only at c0 c2 c3))
    go_ret
    exact ⟨rfl, L1.out⟩
set_option maxHeartbeats 2000000 in
theorem goes_8 (t : ByteArray) (a b : Int) (n : Nat) (w : World) : Calls Tryz.prog 22 #[.agg (insA ⟨8, t, a, b⟩), .int .i64 n] w fun e w' => e = .returned (.bool (goes 8 a b n)) ∧ Below w.heap.size w w' := by
  have hv : goes 8 a b n = (place a n && decide (b = 0)) := rfl
  rw [hv]
  have HP := Lib.hid (fun w => isPlace_any a n w)
  generalize place a n = q at *
  clear hv
  cases q with
  | false =>
    rw [Bool.false_and]
    go_enter Tryz.func22, Tryz.ntmps22
    go_wp2_with (first
      | (refine box_ins (r := ⟨8, t, a, b⟩) rfl (.tmp 0) rfl rfl ?_; intro w1 b1 e1 p1 l1 z1; have c0 := p1.c0; have c2 := p1.c2; have c3 := p1.c3; have L1 := Lib.hid l1; clear e1 p1 l1 z1; simp only at c0 c2 c3))
    refine (HP.out _).mono ?_
    rintro e w2 ⟨rfl, rfl⟩
    go_wp2_with fail
    go_ret
    exact ⟨rfl, L1.out⟩
  | true =>
    rw [Bool.true_and]
    by_cases hb : b = 0
    · rw [decide_eq_true hb]
      subst hb
      go_enter Tryz.func22, Tryz.ntmps22
      go_wp2_with (first
        | (refine box_ins (r := ⟨8, t, a, 0⟩) rfl (.tmp 0) rfl rfl ?_; intro w1 b1 e1 p1 l1 z1; have c0 := p1.c0; have c2 := p1.c2; have c3 := p1.c3; have L1 := Lib.hid l1; clear e1 p1 l1 z1; simp only at c0 c2 c3))
      refine (HP.out _).mono ?_
      rintro e w2 ⟨rfl, rfl⟩
      go_wp2_with fail
      go_ret
      exact ⟨rfl, L1.out⟩
    · rw [decide_eq_false hb]
      have tb : (b == 0) = false := by simpa using hb
      clear hb
      go_enter Tryz.func22, Tryz.ntmps22
      go_wp2_with (first
        | (refine box_ins (r := ⟨8, t, a, b⟩) rfl (.tmp 0) rfl rfl ?_; intro w1 b1 e1 p1 l1 z1; have c0 := p1.c0; have c2 := p1.c2; have c3 := p1.c3; have L1 := Lib.hid l1; clear e1 p1 l1 z1; simp only at c0 c2 c3))
      refine (HP.out _).mono ?_
      rintro e w2 ⟨rfl, rfl⟩
      go_wp2_with fail
      go_ret
      exact ⟨rfl, L1.out⟩
set_option maxHeartbeats 2000000 in
theorem goes_other {k : Int} (hk : ¬ (1 ≤ k ∧ k ≤ 8)) (t : ByteArray) (a b : Int) (n : Nat) (w : World) : Calls Tryz.prog 22 #[.agg (insA ⟨k, t, a, b⟩), .int .i64 n] w fun e w' => e = .returned (.bool (goes k a b n)) ∧ Below w.heap.size w w' := by
  have hv : goes k a b n = false := by
    unfold goes
    rw [if_neg (by omega), if_neg (by omega), if_neg hk]
  rw [hv]
  have t1 : (k == 1) = false := by simp; omega
  have t2 : (k == 2) = false := by simp; omega
  have t3 : (k == 3) = false := by simp; omega
  have t4 : (k == 4) = false := by simp; omega
  have t5 : (k == 5) = false := by simp; omega
  have t6 : (k == 6) = false := by simp; omega
  have t7 : (k == 7) = false := by simp; omega
  have t8 : (k == 8) = false := by simp; omega
  clear hv hk
  go_enter Tryz.func22, Tryz.ntmps22
  go_wp2_with (first
    | (refine box_ins (r := ⟨k, t, a, b⟩) rfl (.tmp 0) rfl rfl ?_; intro w1 b1 e1 p1 l1 z1; have c0 := p1.c0; have c2 := p1.c2; have c3 := p1.c3; have L1 := Lib.hid l1; clear e1 p1 l1 z1; simp only at c0 c2 c3))
  go_ret
  exact ⟨rfl, L1.out⟩
theorem goesOn_any (x : Inst) (n : Nat) (w : World) : Calls Tryz.prog 22 #[.agg (insA x), .int .i64 n] w fun e w' => e = .returned (.bool (goes x.kind x.x x.y n)) ∧ Below w.heap.size w w' := by
  obtain ⟨k, t, a, b⟩ := x
  by_cases hk : 1 ≤ k ∧ k ≤ 8
  · have : k = 1 ∨ k = 2 ∨ k = 3 ∨ k = 4 ∨ k = 5 ∨ k = 6 ∨ k = 7 ∨ k = 8 := by omega
    rcases this with rfl | rfl | rfl | rfl | rfl | rfl | rfl | rfl
    · exact goes_1 t a b n w
    · exact goes_2 t a b n w
    · exact goes_3 t a b n w
    · exact goes_4 t a b n w
    · exact goes_5 t a b n w
    · exact goes_6 t a b n w
    · exact goes_7 t a b n w
    · exact goes_8 t a b n w
  · exact goes_other hk t a b n w
theorem all_take {α : Type} {f : α → Bool} {L : List α} {i : Nat} (hi : i < L.length) : (L.take (i + 1)).all f = ((L.take i).all f && f L[i]) := by
  rw [List.take_succ_eq_append_getElem hi, List.all_append]
  simp only [List.all_cons, List.all_nil, Bool.and_true]
theorem all_no {α : Type} {f : α → Bool} {L : List α} {i : Nat} (hi : i < L.length) (h : f L[i] = false) : L.all f = false := by
  rw [List.all_eq_false]
  exact ⟨L[i], List.getElem_mem hi, by simp [h]⟩
set_option maxHeartbeats 4000000 in
theorem right_any {w : World} {B : Nat} {v : Value} {L : List Inst} (h : Prg B w v L) (hB : B ≤ w.heap.size) : Calls Tryz.prog 11 #[v] w fun e w' => e = .returned (.bool (rightP L)) ∧ Below w.heap.size w w' := by
  obtain ⟨A, c, rfl, h1, h2⟩ := h.form
  have H := Lib.hid h
  unfold maxLen at h2
  have HC := Lib.hid (show L.length ≤ c ∧ c ≤ 9223372036854775807 from ⟨h1, h2⟩)
  have HBB := Lib.hid hB
  obtain ⟨R, hR⟩ : ∃ R, rightP L = R := ⟨_, rfl⟩
  rw [hR]
  have HR := Lib.hid hR
  clear h hB hR
  go_enter Tryz.func11, Tryz.ntmps11
  go_wp2_with fail
  clear h1 h2
  go_loopg [7] L.length (fun gk s7 wr => ∃ i : Nat, s7 = .int .i64 i ∧ Hid (i + gk = L.length) ∧ Hid ((L.take i).all (okI L.length) = true) ∧ Hid (Below w.heap.size w wr))
  case atStart => exact ⟨0, rfl, by unfold Hid; omega, by unfold Hid; simp, Below.refl _ _⟩
  case round =>
    obtain ⟨i, rfl, hig, HOK, LB⟩ := hrel
    have hc1 := HC.out.1
    have hc2 := HC.out.2
    by_cases hi : i < L.length
    · have ti : (i : Int) < (L.length : Int) := by omega
      obtain ⟨b1, o1, hl1, rfl, hb1, e1⟩ := H.out.flat_ insC_len (by decide) hi
      obtain ⟨x, hx⟩ : ∃ x, L[i] = x := ⟨_, rfl⟩
      rw [hx] at e1
      have E1 : Hid (∀ j, j < 4 → wr.cell? ⟨b1, o1 + i * 4 + j, none⟩ = (insC x)[j]?) := fun j hj => (cell_block (LB.out.block b1 (Nat.lt_of_lt_of_le hb1 HBB.out))).trans (e1 j hj)
      have HT := Lib.hid (isText_any x)
      have HG := Lib.hid (goesOn_any x L.length)
      have HALL := all_take (f := okI L.length) hi
      have HNO := fun q => all_no (f := okI L.length) hi q
      rw [hx] at HALL HNO
      have hok : okI L.length x = (txtOk x.kind x.text && goes x.kind x.x x.y L.length) := rfl
      rw [hok] at HALL HNO
      obtain ⟨q1, hq1⟩ : ∃ q1, txtOk x.kind x.text = q1 := ⟨_, rfl⟩
      obtain ⟨q2, hq2⟩ : ∃ q2, goes x.kind x.x x.y L.length = q2 := ⟨_, rfl⟩
      rw [hq1, hq2] at HALL HNO
      rw [hq1] at HT
      rw [hq2] at HG
      have HAL := Lib.hid HALL
      have HN2 := Lib.hid HNO
      have hwi : Hid (wrap64 ((i : Int) + 1) = ((i + 1 : Nat) : Int)) := by unfold Hid wrap64; omega
      have HI2 := Lib.hid hi
      clear e1 hb1 hx hl1 HALL HNO hok hq1 hq2 hi
      have RF : Hid ((q1 && q2) = false → rightP L = false) := fun q => by
        unfold rightP
        rw [HN2.out q, Bool.false_and]
      cases q1 with
      | false =>
        go_wp2_with (first
          | (refine load_ins rfl (.tmp 9) rfl rfl (r := x) E1.out ?_)
          | (refine alloc_ins rfl rfl ?_; intro w3 b3 e3 p3 l3 z3)
          | (refine store_ins (r := x) rfl (.tmp 4) (.tmp 10) rfl rfl rfl p3 ?_; intro w4 p4 l4 z4; have L4 := Lib.hid (two_new l3 l4 e3); have P4 := Lib.hid p4; clear e3 p3 l3 z3 p4 l4 z4)
          | (refine load_ibox rfl (.tmp 4) rfl rfl (r := x) P4.out ?_))
        refine (HT.out _).mono ?_
        rintro e w5 ⟨rfl, l5⟩
        have L5 := Lib.hid (LB.out.trans ((on L4.out l5).mono LB.out.size))
        clear l5
        go_wp2_with fail
        go_ret
        exact ⟨by rw [← HR.out, RF.out rfl]; rfl, L5.out⟩
      | true =>
        go_wp2_with (first
          | (refine load_ins rfl (.tmp 9) rfl rfl (r := x) E1.out ?_)
          | (refine alloc_ins rfl rfl ?_; intro w3 b3 e3 p3 l3 z3)
          | (refine store_ins (r := x) rfl (.tmp 4) (.tmp 10) rfl rfl rfl p3 ?_; intro w4 p4 l4 z4; have L4 := Lib.hid (two_new l3 l4 e3); have P4 := Lib.hid p4; clear e3 p3 l3 z3 p4 l4 z4)
          | (refine load_ibox rfl (.tmp 4) rfl rfl (r := x) P4.out ?_))
        refine (HT.out _).mono ?_
        rintro e w5 ⟨rfl, l5⟩
        have P5 := Lib.hid (P4.out.below l5)
        have b0 := P5.out.c0
        have b1' := P5.out.c1
        have b2 := P5.out.c2
        have b3' := P5.out.c3
        have W5 := Lib.hid (on L4.out l5)
        clear l5
        go_wp2_with fail
        refine (HG.out _).mono ?_
        rintro e w6 ⟨rfl, l6⟩
        have L6 := Lib.hid (LB.out.trans ((on W5.out l6).mono LB.out.size))
        clear l6 b0 b1' b2 b3'
        cases q2 with
        | false =>
          go_wp2_with fail
          go_ret
          exact ⟨by rw [← HR.out, RF.out rfl]; rfl, L6.out⟩
        | true =>
          cases gk with
          | zero => exact absurd hig.out (by have := HI2.out; omega)
          | succ g =>
            go_wp2_with fail
            go_roundg g
            case measure => omega
            case rel => exact ⟨i + 1, by first | rfl | exact congrArg (Value.int .i64) hwi.out, by have := hig.out; unfold Hid; omega, by unfold Hid; rw [HAL.out, HOK.out]; rfl, L6⟩
    · have ti : ¬ (i : Int) < (L.length : Int) := by omega
      have hie : i = L.length := by have := hig.out; omega
      have HV : Hid (rightP L = decide (0 < L.length)) := by
        have := HOK.out
        rw [hie, List.take_length] at this
        unfold Hid rightP
        rw [this, Bool.true_and]
      clear hie hi
      go_wp2_with fail
      go_ret
      exact ⟨by rw [← HR.out, HV.out]; rfl, LB.out⟩
end Go.Proofs.YtmbibaccpeldoaaGreatDoor.W15
/-
  Layer 13 (class), walks of the document's own answers: Make, Span, Has, Union, Not, Count, Named. The conditions stand in the statements.
-/
namespace Go.Proofs.YtmbibaccpeldoaaGreatDoor.W13
set_option maxRecDepth 100000
open Go Go.RowKit Go.Proofs.YtmbibaccpeldoaaGreatDoor.M13 Go.Proofs.YtmbibaccpeldoaaGreatDoor.Row256
open Go.Proofs.YtmbibaccpeldoaaGreatDoor.Kit (ret_str ret_bool ret_int mk_of mk_bytes ba_ext below_draws on take_next cat_bytes)

theorem infoBool : (Tryz.prog.info? 4).map (fun i => (i.zero, i.size, i.bytes)) = some (some (Value.bool false), 1, 1) := by kernel_rfl
set_option maxHeartbeats 1000000 in
theorem refMake_any {w : World} {b : Nat} {t : TypeId} {f : Nat → Bool} (h : Row w b t (bv f)) :
    Calls Tryz.prog 46 #[.slice (some ⟨b, 0, none⟩) 256 256] w fun e w' => e = .returned (.string (tx f)) ∧ w' = w := by
  have HC := Lib.hid h
  clear h
  go_enter Tryz.func46, Tryz.ntmps46
  go_wp2_with fail
  go_loopg [3, 4] 256 (fun g s3 s4 wr => ∃ (i : Nat) (d : ByteArray), s3 = .string d ∧ s4 = .int .i64 i ∧ i + g = 256 ∧ Hid (d.data.toList = (List.range i).map fun j => bit (f j)) ∧ wr = w)
  case atStart => exact ⟨0, ⟨#[]⟩, rfl, rfl, rfl, rfl, rfl⟩
  case round =>
    obtain ⟨i, d, rfl, rfl, hig, hd, rfl⟩ := hrel
    cases gk with
    | zero =>
      obtain rfl : i = 256 := by omega
      go_wp2_with fail
      go_ret
      exact ⟨ret_str (ba_ext hd.out), rfl⟩
    | succ g =>
      have hi3 : (i : Int) < 256 := by omega
      have hcell : wr.cell? ⟨b, i, none⟩ = some (.bool (f i)) := HC.out.cell (i := i) (by omega)
      have hstep : ∀ u : UInt8, u = bit (f i) → Hid ((d ++ ⟨#[u]⟩).data.toList = (List.range (i + 1)).map fun j => bit (f j)) := by
        intro u hu
        unfold Hid
        rw [cat_bytes, hd.out, List.range_succ, List.map_append, hu]; rfl
      have HS := Lib.hid hstep
      clear hstep
      have hdz : d.size = i := by rw [Lib.size_eq, hd.out, List.length_map, List.length_range]
      have hn : ¬ 9223372036854775807 < d.size + 1 := by omega
      clear hdz
      cases hf : f i with
      | true =>
        rw [hf] at hcell
        go_wp2_with fail
        go_roundg g
        case measure => omega
        case rel => exact ⟨i + 1, _, rfl, by first | rfl | simp, by omega, HS.out 49 (by rw [hf]; rfl), rfl⟩
      | false =>
        rw [hf] at hcell
        go_wp2_with fail
        go_roundg g
        case measure => omega
        case rel => exact ⟨i + 1, _, rfl, by first | rfl | simp, by omega, HS.out 48 (by rw [hf]; rfl), rfl⟩
theorem made_row (v : Value) : madeCells #[v] 256 = rowV fun _ => v := by
  refine rowV_ext (size_madeCells _ _) fun j hj => ?_
  simp [madeCells, hj, Nat.mod_one]
theorem make_row (w : World) : (Instr.makeSlice 64 (.int .i64 256) (.int .i64 256)).run Tryz.prog w = .ok (.slice (some ⟨w.heap.size, 0, none⟩) 256 256) (w.alloc (.cells (rowV (bv fun _ => false)) 4)) := by
  have h := run_make_row' (P := Tryz.prog) 64 4 (.bool false) 1 Tryz.underlying64 infoBool rfl .i64 .i64 256 (by omega) (by omega) w
  rw [made_row] at h
  exact h
theorem new_bools (w : World) : Row (w.alloc (.cells (rowV (bv fun _ => false)) 4)) w.heap.size 4 (bv fun _ => false) ∧ Below w.heap.size w (w.alloc (.cells (rowV (bv fun _ => false)) 4)) :=
  ⟨Row.new _ _ _, (Below.refl w.heap.size w).alloc (Nat.le_refl _) _⟩
set_option maxHeartbeats 1000000 in
theorem refSpan_any (a c : Nat) (hc : c < 256) (w : World) : Calls Tryz.prog 107 #[.int .i64 a, .int .i64 c] w fun e w' => e = .returned (.string (tx (between a c))) ∧ Below w.heap.size w w' := by
  have hmk := make_row
  have HC := Lib.hid hc
  clear hc
  go_enter Tryz.func107, Tryz.ntmps107
  go_wp2_with fail
  have HN := Lib.hid (new_bools w)
  generalize (w.alloc (.cells (rowV (bv fun _ => false)) 4)) = w1 at HN ⊢
  clear hmk
  go_loopg [6] (c + 1 - a) (fun g s6 wr => ∃ i : Nat, s6 = .int .i64 i ∧ a ≤ i ∧ (i + g = c + 1 ∨ g = 0 ∧ c < i) ∧ Hid (Row wr w.heap.size 4 (bv fun j => decide (a ≤ j) && decide (j < i) && decide (j ≤ c))) ∧ Hid (Below w.heap.size w wr))
  case atStart =>
    refine ⟨a, rfl, Nat.le_refl _, by omega, HN.out.1.is fun j _ => bv_eq ?_, HN.out.2⟩
    have e : (decide (a ≤ j) && decide (j < a)) = false := by simp
    rw [e, Bool.false_and]
  case round =>
    obtain ⟨i, rfl, hai, hig, hr, hb⟩ := hrel
    cases gk with
    | zero =>
      have hi : c < i := by omega
      have hi2 : ¬ ((i : Int) ≤ (c : Int)) := by omega
      have HI := Lib.hid hi
      clear hi hig
      go_wp2_with fail
      refine (refMake_any hr.out).mono ?_
      rintro e w2 ⟨rfl, rfl⟩
      go_wp2_with fail
      go_ret
      refine ⟨congrArg (fun x => Ending.returned (.string x)) (tx_congr fun j _ => ?_), hb.out⟩
      unfold between
      by_cases e : j ≤ c
      · have := HI.out
        rw [decide_eq_true (show j < i by omega), Bool.and_true]
      · rw [decide_eq_false e, Bool.and_false, Bool.and_false]
    | succ g =>
      have hi : i ≤ c := by omega
      have hi2 : (i : Int) ≤ (c : Int) := by omega
      have hi3 : (i : Int) < 256 := by have := HC.out; omega
      have hcell := hr.out.cell (i := i) (by omega)
      have hfree := hr.out.free i
      generalize hold : bv (fun j => decide (a ≤ j) && decide (j < i) && decide (j ≤ c)) i = old at hcell
      clear hold
      go_wp2_with fail
      go_roundg g
      case measure => omega
      case rel =>
        refine ⟨i + 1, by first | rfl | simp, by omega, by omega, (hr.out.put i (.bool true)).is fun j _ => ?_, hb.out.setCell (Nat.le_refl _) _⟩
        by_cases e : j = i
        · subst e
          rw [if_pos rfl]
          refine (bv_eq (f := fun _ => true) ?_)
          rw [decide_eq_true hai, decide_eq_true (show j < j + 1 by omega), decide_eq_true hi]; rfl
        · rw [if_neg e]
          refine bv_eq ?_
          rw [show decide (j < i + 1) = decide (j < i) from decide_eq_decide.2 (by omega)]
theorem byte_is (s : ByteArray) {i : Nat} (hi : i < s.size) (u : UInt8) : ((s[i].toNat : Int) == (u.toNat : Int)) = decide (s[i] = u) := Kit.byte_test _ _
theorem good_of {s : ByteArray} (hs : s.size = 256) (h : ∀ j (hj : j < s.size), s[j] = 48 ∨ s[j] = 49) : good s.data.toList = true := by
  unfold good
  rw [← Lib.size_eq, decide_eq_true hs, Bool.true_and, List.all_eq_true]
  intro c hc
  obtain ⟨j, hj, rfl⟩ := List.mem_iff_getElem.1 hc
  have := h j (by rw [Lib.size_eq]; exact hj)
  rcases this with e | e
  · rw [show s.data.toList[j] = 48 from e]; rfl
  · rw [show s.data.toList[j] = 49 from e]; rfl
theorem bad_of {s : ByteArray} {j : Nat} (hj : j < s.size) (h0 : ¬ s[j] = 48) (h1 : ¬ s[j] = 49) : good s.data.toList = false := by
  cases h : good s.data.toList with
  | false => rfl
  | true =>
    exfalso
    unfold good at h
    have h2 := List.all_eq_true.1 (Bool.and_eq_true_iff.1 h).2 s[j] (List.getElem_mem _)
    rw [decide_eq_false h0, decide_eq_false h1] at h2
    cases h2
theorem has_at2 {s : ByteArray} (hg : good s.data.toList = true) {i : Nat} (hi : i < s.size) : ((s[i].toNat : Int) == 49) = has s.data.toList i := by
  rw [has_good hg, Kit.byte_get s i hi]
  exact byte_is s hi 49
set_option maxHeartbeats 1000000 in
theorem refHas_any (s : ByteArray) (c : Nat) (w : World) : Calls Tryz.prog 45 #[.string s, .int .i64 c] w fun e w' => e = .returned (.bool (has s.data.toList c)) ∧ w' = w := by
  have h0 : ¬ ((c : Int) < 0) := by omega
  by_cases hs : s.size = 256
  · have hz : (((s.size : Nat) : Int) != 256) = false := by rw [hs]; rfl
    by_cases hc : c < 256
    · have hc2 : ¬ (255 < (c : Int)) := by omega
      have HS := Lib.hid (And.intro hs hc)
      clear hs hc
      go_enter Tryz.func45, Tryz.ntmps45
      go_wp2_with fail
      go_loopg [5] 256 (fun g s5 wr => ∃ i : Nat, s5 = .int .i64 i ∧ i + g = 256 ∧ Hid (∀ j (hj : j < s.size), j < i → s[j] = 48 ∨ s[j] = 49) ∧ wr = w)
      case atStart => exact ⟨0, rfl, rfl, fun j _ h => absurd h (by omega), rfl⟩
      case round =>
        obtain ⟨i, rfl, hig, hall, rfl⟩ := hrel
        cases gk with
        | zero =>
          obtain rfl : i = 256 := by omega
          have hg := good_of HS.out.1 (fun j hj => hall.out j hj (by rw [← HS.out.1]; exact hj))
          have hcs : c < s.size := by rw [HS.out.1]; exact HS.out.2
          have HV := Lib.hid (has_at2 hg hcs)
          clear hg
          go_wp2_with fail
          go_ret
          exact ⟨ret_bool HV.out, rfl⟩
        | succ g =>
          have hi : i < s.size := by rw [HS.out.1]; omega
          have hi3 : (i : Int) < 256 := by omega
          by_cases e0 : s[i] = 48
          · have t0 : (s[i].toNat : Int) = 48 := by rw [e0]; rfl
            have HE := Lib.hid e0
            clear e0
            go_wp2_with fail
            go_roundg g
            case measure => omega
            case rel =>
              refine ⟨i + 1, by first | rfl | simp, by omega, fun j hj h => ?_, rfl⟩
              by_cases e : j = i
              · subst e; exact Or.inl HE.out
              · exact hall.out j hj (by omega)
          · have t0 : ¬ (s[i].toNat : Int) = 48 := fun e => e0 (UInt8.toNat_inj.1 (show s[i].toNat = 48 by omega))
            by_cases e1 : s[i] = 49
            · have t1 : (s[i].toNat : Int) = 49 := by rw [e1]; rfl
              have HE := Lib.hid e1
              clear e0 e1 t0
              go_wp2_with fail
              go_roundg g
              case measure => omega
              case rel =>
                refine ⟨i + 1, by first | rfl | simp, by omega, fun j hj h => ?_, rfl⟩
                by_cases e : j = i
                · subst e; exact Or.inr HE.out
                · exact hall.out j hj (by omega)
            · have t1 : ¬ (s[i].toNat : Int) = 49 := fun e => e1 (UInt8.toNat_inj.1 (show s[i].toNat = 49 by omega))
              have HV := Lib.hid (has_bad (bad_of hi e0 e1) c)
              have q0 : ((s[i].toNat : Int) != 48) = true := by simpa using t0
              have q1 : ((s[i].toNat : Int) != 49) = true := by simpa using t1
              clear e0 e1 t0 t1
              go_wp2_with fail
              go_ret
              exact ⟨ret_bool HV.out.symm, rfl⟩
    · have hc2 : 255 < (c : Int) := by omega
      have HV := Lib.hid (has_far (s := s.data.toList) (i := c) (by omega))
      clear hs hc
      go_enter Tryz.func45, Tryz.ntmps45
      go_wp2_with fail
      go_ret
      exact ⟨ret_bool HV.out.symm, rfl⟩
  · have hz : (((s.size : Nat) : Int) != 256) = true := by simp; omega
    have hb : good s.data.toList = false := by unfold good; rw [← Lib.size_eq, decide_eq_false hs]; rfl
    have HV := Lib.hid (has_bad hb c)
    clear hs hb
    go_enter Tryz.func45, Tryz.ntmps45
    go_wp2_with fail
    go_ret
    exact ⟨ret_bool HV.out.symm, rfl⟩
set_option maxHeartbeats 1000000 in
theorem refUnion_any (a b : ByteArray) (w : World) : Calls Tryz.prog 27 #[.string a, .string b] w fun e w' => e = .returned (.string (tx fun i => has a.data.toList i || has b.data.toList i)) ∧ Below w.heap.size w w' := by
  have hmk := make_row
  go_enter Tryz.func27, Tryz.ntmps27
  go_wp2_with fail
  have HN := Lib.hid (new_bools w)
  generalize (w.alloc (.cells (rowV (bv fun _ => false)) 4)) = w1 at HN ⊢
  clear hmk
  go_loopg [6] 256 (fun g s6 wr => ∃ i : Nat, s6 = .int .i64 i ∧ i + g = 256 ∧ Hid (Row wr w.heap.size 4 (bv fun j => if j < i then has a.data.toList j || has b.data.toList j else false)) ∧ Hid (Below w.heap.size w wr))
  case atStart => exact ⟨0, rfl, rfl, HN.out.1.is fun j _ => bv_eq (by rw [if_neg (by omega)]), HN.out.2⟩
  case round =>
    obtain ⟨i, rfl, hig, hr, hb⟩ := hrel
    cases gk with
    | zero =>
      obtain rfl : i = 256 := by omega
      go_wp2_with fail
      refine (refMake_any hr.out).mono ?_
      rintro e w2 ⟨rfl, rfl⟩
      go_wp2_with fail
      go_ret
      exact ⟨congrArg (fun x => Ending.returned (.string x)) (tx_congr fun j hj => by first | rw [if_pos hj] | rw [decide_eq_true hj, Bool.true_and]), hb.out⟩
    | succ g =>
      have hi3 : (i : Int) < 256 := by omega
      have hcell := hr.out.cell (i := i) (by omega)
      have hfree := hr.out.free i
      generalize hold : bv (fun j => if j < i then has a.data.toList j || has b.data.toList j else false) i = old at hcell
      clear hold
      obtain ⟨W0, rfl⟩ : ∃ W0 : World, W0 = wr := ⟨_, rfl⟩
      go_wp2_with fail
      refine (refHas_any _ _ _).mono ?_
      rintro e w2 ⟨rfl, rfl⟩
      cases hA : has a.data.toList i with
      | true =>
        go_wp2_with fail
        go_roundg g
        case measure => omega
        case rel => exact ⟨i + 1, by first | rfl | simp, by omega, row_step hr.out (by rw [hA]; rfl), hb.out.setCell (Nat.le_refl _) _⟩
      | false =>
        go_wp2_with fail
        refine (refHas_any _ _ _).mono ?_
        rintro e w2 ⟨rfl, rfl⟩
        go_wp2_with fail
        go_roundg g
        case measure => omega
        case rel => exact ⟨i + 1, by first | rfl | simp, by omega, row_step hr.out (by rw [hA]; rfl), hb.out.setCell (Nat.le_refl _) _⟩
set_option maxHeartbeats 1000000 in
theorem refNot_any (a : ByteArray) (w : World) : Calls Tryz.prog 109 #[.string a] w fun e w' => e = .returned (.string (tx fun i => !has a.data.toList i)) ∧ Below w.heap.size w w' := by
  have hmk := make_row
  go_enter Tryz.func109, Tryz.ntmps109
  go_wp2_with fail
  have HN := Lib.hid (new_bools w)
  generalize (w.alloc (.cells (rowV (bv fun _ => false)) 4)) = w1 at HN ⊢
  clear hmk
  go_loopg [4] 256 (fun g s4 wr => ∃ i : Nat, s4 = .int .i64 i ∧ i + g = 256 ∧ Hid (Row wr w.heap.size 4 (bv fun j => if j < i then !has a.data.toList j else false)) ∧ Hid (Below w.heap.size w wr))
  case atStart => exact ⟨0, rfl, rfl, HN.out.1.is fun j _ => bv_eq (by rw [if_neg (by omega)]), HN.out.2⟩
  case round =>
    obtain ⟨i, rfl, hig, hr, hb⟩ := hrel
    cases gk with
    | zero =>
      obtain rfl : i = 256 := by omega
      go_wp2_with fail
      refine (refMake_any hr.out).mono ?_
      rintro e w2 ⟨rfl, rfl⟩
      go_wp2_with fail
      go_ret
      exact ⟨congrArg (fun x => Ending.returned (.string x)) (tx_congr fun j hj => by first | rw [if_pos hj] | rw [decide_eq_true hj, Bool.true_and]), hb.out⟩
    | succ g =>
      have hi3 : (i : Int) < 256 := by omega
      have hcell := hr.out.cell (i := i) (by omega)
      have hfree := hr.out.free i
      generalize hold : bv (fun j => if j < i then !has a.data.toList j else false) i = old at hcell
      clear hold
      go_wp2_with fail
      refine (refHas_any _ _ _).mono ?_
      rintro e w2 ⟨rfl, rfl⟩
      go_wp2_with fail
      go_roundg g
      case measure => omega
      case rel => exact ⟨i + 1, by first | rfl | simp, by omega, row_step hr.out rfl, hb.out.setCell (Nat.le_refl _) _⟩
/-! what these answer of texts of truths -/
theorem has_tx (f : Nat → Bool) {i : Nat} (h : i < 256) : has (tx f).data.toList i = f i := has_text f h
theorem refUnion_tx (f g : Nat → Bool) (w : World) : Calls Tryz.prog 27 #[.string (tx f), .string (tx g)] w fun e w' => e = .returned (.string (tx fun i => f i || g i)) ∧ Below w.heap.size w w' :=
  (refUnion_any _ _ _).mono fun _ _ h => ⟨h.1.trans (congrArg (fun x => Ending.returned (.string x)) (tx_congr fun i hi => by rw [has_tx f hi, has_tx g hi])), h.2⟩
theorem refNot_tx (f : Nat → Bool) (w : World) : Calls Tryz.prog 109 #[.string (tx f)] w fun e w' => e = .returned (.string (tx fun i => !f i)) ∧ Below w.heap.size w w' :=
  (refNot_any _ _).mono fun _ _ h => ⟨h.1.trans (congrArg (fun x => Ending.returned (.string x)) (tx_congr fun i hi => by rw [has_tx f hi])), h.2⟩
end Go.Proofs.YtmbibaccpeldoaaGreatDoor.W13
