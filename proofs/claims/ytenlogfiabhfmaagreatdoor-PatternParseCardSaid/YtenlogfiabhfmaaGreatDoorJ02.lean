/-
  Texts joined, in build order, each with its own comment and its own conditions: W13RefN, W13Next.
-/
import Derived.Test.YtenlogfiabhfmaaGreatDoorJ01
import Derived.Deep.RegionHeld3
import Derived.BigQuiet
/-
  Layer 13 (class), walk of the document's own answer Named: seven ways. No condition.
-/
namespace Go.Proofs.YtenlogfiabhfmaaGreatDoor.W13
set_option maxRecDepth 100000
open Go Go.RowKit Go.Proofs.YtenlogfiabhfmaaGreatDoor.M13 Go.Proofs.YtenlogfiabhfmaaGreatDoor.Row256
open Go.Proofs.YtenlogfiabhfmaaGreatDoor.Kit (ret_str ret_bool ret_int mk_of mk_bytes ba_ext below_draws on)

theorem u8_no {c d : UInt8} (h : ¬ c = d) : (((c.toNat : Nat) : Int) == ((d.toNat : Nat) : Int)) = false := beq_eq_false_iff_ne.2 fun e => h (Kit.byte_eq e)
theorem u8_yes {c d : UInt8} (h : c = d) : (((c.toNat : Nat) : Int) == ((d.toNat : Nat) : Int)) = true := by rw [h]; exact beq_self_eq_true _
theorem two_eq {f g : Nat → Bool} {b c : Bool} (h : ∀ i, i < 256 → f i = g i) (e : b = c) : Ending.returned (.tuple #[.string (tx f), .bool b]) = Ending.returned (.tuple #[.string (tx g), .bool c]) := by rw [tx_congr h, e]
def wordR (i : Nat) : Bool := (between 48 57 i || between 97 122 i) || (between 65 90 i || between 95 95 i)
def spaceR (i : Nat) : Bool := between 9 13 i || between 32 32 i
theorem one_is (a i : Nat) : between a a i = decide (i = a) := by
  unfold between
  by_cases e : i = a
  · subst e; simp
  · rw [decide_eq_false e]; simp; omega
theorem word_is (i : Nat) : wordR i = wordF i := by
  unfold wordR wordF
  rw [one_is]
  cases between 48 57 i <;> cases between 97 122 i <;> cases between 65 90 i <;> cases decide (i = 95) <;> rfl
theorem not_word (i : Nat) : (!between 48 57 i && !between 97 122 i && (!between 65 90 i && !between 95 95 i)) = !wordF i := by
  rw [← word_is]
  unfold wordR
  cases between 48 57 i <;> cases between 97 122 i <;> cases between 65 90 i <;> cases between 95 95 i <;> rfl
theorem space_is (i : Nat) : spaceR i = spaceF i := by unfold spaceR spaceF; rw [one_is]
theorem not_space (i : Nat) : (!between 9 13 i && !between 32 32 i) = !spaceF i := by
  rw [← space_is]
  unfold spaceR
  cases between 9 13 i <;> cases between 32 32 i <;> rfl
set_option maxHeartbeats 2000000 in
theorem refNamed_100 {c : UInt8} (h100 : c = 100) (w : World) : Calls Tryz.prog 41 #[.int .u8 c.toNat] w fun e w' => e = .returned (.tuple #[.string (tx (namedF c)), .bool (letter c)]) ∧ Below w.heap.size w w' := by
  have HF := Lib.hid h100
  have t100 : (((c.toNat : Nat) : Int) == 100) = true := u8_yes (d := 100) h100
  clear h100
  have HB := Lib.hid (Below.refl w.heap.size w)
  go_enter Tryz.func41, Tryz.ntmps41
  go_wp2_with fail
  refine (refSpan_any 48 57 (by omega) _).mono ?_
  rintro e w1 ⟨rfl, hb1⟩
  replace HB := Lib.hid (on HB.out hb1)
  clear hb1
  go_wp2_with fail
  refine (refSpan_any 97 122 (by omega) _).mono ?_
  rintro e w2 ⟨rfl, hb2⟩
  replace HB := Lib.hid (on HB.out hb2)
  clear hb2
  go_wp2_with fail
  refine (refUnion_tx _ _ _).mono ?_
  rintro e w3 ⟨rfl, hb3⟩
  replace HB := Lib.hid (on HB.out hb3)
  clear hb3
  go_wp2_with fail
  refine (refSpan_any 65 90 (by omega) _).mono ?_
  rintro e w4 ⟨rfl, hb4⟩
  replace HB := Lib.hid (on HB.out hb4)
  clear hb4
  go_wp2_with fail
  refine (refSpan_any 95 95 (by omega) _).mono ?_
  rintro e w5 ⟨rfl, hb5⟩
  replace HB := Lib.hid (on HB.out hb5)
  clear hb5
  go_wp2_with fail
  refine (refUnion_tx _ _ _).mono ?_
  rintro e w6 ⟨rfl, hb6⟩
  replace HB := Lib.hid (on HB.out hb6)
  clear hb6
  go_wp2_with fail
  refine (refUnion_tx _ _ _).mono ?_
  rintro e w7 ⟨rfl, hb7⟩
  replace HB := Lib.hid (on HB.out hb7)
  clear hb7
  go_wp2_with fail
  refine (refSpan_any 9 13 (by omega) _).mono ?_
  rintro e w8 ⟨rfl, hb8⟩
  replace HB := Lib.hid (on HB.out hb8)
  clear hb8
  go_wp2_with fail
  refine (refSpan_any 32 32 (by omega) _).mono ?_
  rintro e w9 ⟨rfl, hb9⟩
  replace HB := Lib.hid (on HB.out hb9)
  clear hb9
  go_wp2_with fail
  refine (refUnion_tx _ _ _).mono ?_
  rintro e w10 ⟨rfl, hb10⟩
  replace HB := Lib.hid (on HB.out hb10)
  clear hb10
  go_wp2_with fail
  go_ret2
  obtain rfl := HF.out
  exact ⟨two_eq (fun i _ => rfl) rfl, HB.out⟩
set_option maxHeartbeats 2000000 in
theorem refNamed_119 {c : UInt8} (h100 : ¬ c = 100) (h119 : c = 119) (w : World) : Calls Tryz.prog 41 #[.int .u8 c.toNat] w fun e w' => e = .returned (.tuple #[.string (tx (namedF c)), .bool (letter c)]) ∧ Below w.heap.size w w' := by
  have HF := Lib.hid h119
  have t100 : (((c.toNat : Nat) : Int) == 100) = false := u8_no (d := 100) h100
  have t119 : (((c.toNat : Nat) : Int) == 119) = true := u8_yes (d := 119) h119
  clear h100 h119
  have HB := Lib.hid (Below.refl w.heap.size w)
  go_enter Tryz.func41, Tryz.ntmps41
  go_wp2_with fail
  refine (refSpan_any 48 57 (by omega) _).mono ?_
  rintro e w1 ⟨rfl, hb1⟩
  replace HB := Lib.hid (on HB.out hb1)
  clear hb1
  go_wp2_with fail
  refine (refSpan_any 97 122 (by omega) _).mono ?_
  rintro e w2 ⟨rfl, hb2⟩
  replace HB := Lib.hid (on HB.out hb2)
  clear hb2
  go_wp2_with fail
  refine (refUnion_tx _ _ _).mono ?_
  rintro e w3 ⟨rfl, hb3⟩
  replace HB := Lib.hid (on HB.out hb3)
  clear hb3
  go_wp2_with fail
  refine (refSpan_any 65 90 (by omega) _).mono ?_
  rintro e w4 ⟨rfl, hb4⟩
  replace HB := Lib.hid (on HB.out hb4)
  clear hb4
  go_wp2_with fail
  refine (refSpan_any 95 95 (by omega) _).mono ?_
  rintro e w5 ⟨rfl, hb5⟩
  replace HB := Lib.hid (on HB.out hb5)
  clear hb5
  go_wp2_with fail
  refine (refUnion_tx _ _ _).mono ?_
  rintro e w6 ⟨rfl, hb6⟩
  replace HB := Lib.hid (on HB.out hb6)
  clear hb6
  go_wp2_with fail
  refine (refUnion_tx _ _ _).mono ?_
  rintro e w7 ⟨rfl, hb7⟩
  replace HB := Lib.hid (on HB.out hb7)
  clear hb7
  go_wp2_with fail
  refine (refSpan_any 9 13 (by omega) _).mono ?_
  rintro e w8 ⟨rfl, hb8⟩
  replace HB := Lib.hid (on HB.out hb8)
  clear hb8
  go_wp2_with fail
  refine (refSpan_any 32 32 (by omega) _).mono ?_
  rintro e w9 ⟨rfl, hb9⟩
  replace HB := Lib.hid (on HB.out hb9)
  clear hb9
  go_wp2_with fail
  refine (refUnion_tx _ _ _).mono ?_
  rintro e w10 ⟨rfl, hb10⟩
  replace HB := Lib.hid (on HB.out hb10)
  clear hb10
  go_wp2_with fail
  go_ret2
  obtain rfl := HF.out
  exact ⟨two_eq (fun i _ => word_is i) rfl, HB.out⟩
set_option maxHeartbeats 2000000 in
theorem refNamed_115 {c : UInt8} (h100 : ¬ c = 100) (h119 : ¬ c = 119) (h115 : c = 115) (w : World) : Calls Tryz.prog 41 #[.int .u8 c.toNat] w fun e w' => e = .returned (.tuple #[.string (tx (namedF c)), .bool (letter c)]) ∧ Below w.heap.size w w' := by
  have HF := Lib.hid h115
  have t100 : (((c.toNat : Nat) : Int) == 100) = false := u8_no (d := 100) h100
  have t119 : (((c.toNat : Nat) : Int) == 119) = false := u8_no (d := 119) h119
  have t115 : (((c.toNat : Nat) : Int) == 115) = true := u8_yes (d := 115) h115
  clear h100 h119 h115
  have HB := Lib.hid (Below.refl w.heap.size w)
  go_enter Tryz.func41, Tryz.ntmps41
  go_wp2_with fail
  refine (refSpan_any 48 57 (by omega) _).mono ?_
  rintro e w1 ⟨rfl, hb1⟩
  replace HB := Lib.hid (on HB.out hb1)
  clear hb1
  go_wp2_with fail
  refine (refSpan_any 97 122 (by omega) _).mono ?_
  rintro e w2 ⟨rfl, hb2⟩
  replace HB := Lib.hid (on HB.out hb2)
  clear hb2
  go_wp2_with fail
  refine (refUnion_tx _ _ _).mono ?_
  rintro e w3 ⟨rfl, hb3⟩
  replace HB := Lib.hid (on HB.out hb3)
  clear hb3
  go_wp2_with fail
  refine (refSpan_any 65 90 (by omega) _).mono ?_
  rintro e w4 ⟨rfl, hb4⟩
  replace HB := Lib.hid (on HB.out hb4)
  clear hb4
  go_wp2_with fail
  refine (refSpan_any 95 95 (by omega) _).mono ?_
  rintro e w5 ⟨rfl, hb5⟩
  replace HB := Lib.hid (on HB.out hb5)
  clear hb5
  go_wp2_with fail
  refine (refUnion_tx _ _ _).mono ?_
  rintro e w6 ⟨rfl, hb6⟩
  replace HB := Lib.hid (on HB.out hb6)
  clear hb6
  go_wp2_with fail
  refine (refUnion_tx _ _ _).mono ?_
  rintro e w7 ⟨rfl, hb7⟩
  replace HB := Lib.hid (on HB.out hb7)
  clear hb7
  go_wp2_with fail
  refine (refSpan_any 9 13 (by omega) _).mono ?_
  rintro e w8 ⟨rfl, hb8⟩
  replace HB := Lib.hid (on HB.out hb8)
  clear hb8
  go_wp2_with fail
  refine (refSpan_any 32 32 (by omega) _).mono ?_
  rintro e w9 ⟨rfl, hb9⟩
  replace HB := Lib.hid (on HB.out hb9)
  clear hb9
  go_wp2_with fail
  refine (refUnion_tx _ _ _).mono ?_
  rintro e w10 ⟨rfl, hb10⟩
  replace HB := Lib.hid (on HB.out hb10)
  clear hb10
  go_wp2_with fail
  go_ret2
  obtain rfl := HF.out
  exact ⟨two_eq (fun i _ => space_is i) rfl, HB.out⟩
set_option maxHeartbeats 2000000 in
theorem refNamed_68 {c : UInt8} (h100 : ¬ c = 100) (h119 : ¬ c = 119) (h115 : ¬ c = 115) (h68 : c = 68) (w : World) : Calls Tryz.prog 41 #[.int .u8 c.toNat] w fun e w' => e = .returned (.tuple #[.string (tx (namedF c)), .bool (letter c)]) ∧ Below w.heap.size w w' := by
  have HF := Lib.hid h68
  have t100 : (((c.toNat : Nat) : Int) == 100) = false := u8_no (d := 100) h100
  have t119 : (((c.toNat : Nat) : Int) == 119) = false := u8_no (d := 119) h119
  have t115 : (((c.toNat : Nat) : Int) == 115) = false := u8_no (d := 115) h115
  have t68 : (((c.toNat : Nat) : Int) == 68) = true := u8_yes (d := 68) h68
  clear h100 h119 h115 h68
  have HB := Lib.hid (Below.refl w.heap.size w)
  go_enter Tryz.func41, Tryz.ntmps41
  go_wp2_with fail
  refine (refSpan_any 48 57 (by omega) _).mono ?_
  rintro e w1 ⟨rfl, hb1⟩
  replace HB := Lib.hid (on HB.out hb1)
  clear hb1
  go_wp2_with fail
  refine (refSpan_any 97 122 (by omega) _).mono ?_
  rintro e w2 ⟨rfl, hb2⟩
  replace HB := Lib.hid (on HB.out hb2)
  clear hb2
  go_wp2_with fail
  refine (refUnion_tx _ _ _).mono ?_
  rintro e w3 ⟨rfl, hb3⟩
  replace HB := Lib.hid (on HB.out hb3)
  clear hb3
  go_wp2_with fail
  refine (refSpan_any 65 90 (by omega) _).mono ?_
  rintro e w4 ⟨rfl, hb4⟩
  replace HB := Lib.hid (on HB.out hb4)
  clear hb4
  go_wp2_with fail
  refine (refSpan_any 95 95 (by omega) _).mono ?_
  rintro e w5 ⟨rfl, hb5⟩
  replace HB := Lib.hid (on HB.out hb5)
  clear hb5
  go_wp2_with fail
  refine (refUnion_tx _ _ _).mono ?_
  rintro e w6 ⟨rfl, hb6⟩
  replace HB := Lib.hid (on HB.out hb6)
  clear hb6
  go_wp2_with fail
  refine (refUnion_tx _ _ _).mono ?_
  rintro e w7 ⟨rfl, hb7⟩
  replace HB := Lib.hid (on HB.out hb7)
  clear hb7
  go_wp2_with fail
  refine (refSpan_any 9 13 (by omega) _).mono ?_
  rintro e w8 ⟨rfl, hb8⟩
  replace HB := Lib.hid (on HB.out hb8)
  clear hb8
  go_wp2_with fail
  refine (refSpan_any 32 32 (by omega) _).mono ?_
  rintro e w9 ⟨rfl, hb9⟩
  replace HB := Lib.hid (on HB.out hb9)
  clear hb9
  go_wp2_with fail
  refine (refUnion_tx _ _ _).mono ?_
  rintro e w10 ⟨rfl, hb10⟩
  replace HB := Lib.hid (on HB.out hb10)
  clear hb10
  go_wp2_with fail
  refine (refNot_tx _ _).mono ?_
  rintro e w11 ⟨rfl, hb11⟩
  replace HB := Lib.hid (on HB.out hb11)
  clear hb11
  go_wp2_with fail
  go_ret2
  obtain rfl := HF.out
  exact ⟨two_eq (fun i _ => rfl) rfl, HB.out⟩
set_option maxHeartbeats 2000000 in
theorem refNamed_87 {c : UInt8} (h100 : ¬ c = 100) (h119 : ¬ c = 119) (h115 : ¬ c = 115) (h68 : ¬ c = 68) (h87 : c = 87) (w : World) : Calls Tryz.prog 41 #[.int .u8 c.toNat] w fun e w' => e = .returned (.tuple #[.string (tx (namedF c)), .bool (letter c)]) ∧ Below w.heap.size w w' := by
  have HF := Lib.hid h87
  have t100 : (((c.toNat : Nat) : Int) == 100) = false := u8_no (d := 100) h100
  have t119 : (((c.toNat : Nat) : Int) == 119) = false := u8_no (d := 119) h119
  have t115 : (((c.toNat : Nat) : Int) == 115) = false := u8_no (d := 115) h115
  have t68 : (((c.toNat : Nat) : Int) == 68) = false := u8_no (d := 68) h68
  have t87 : (((c.toNat : Nat) : Int) == 87) = true := u8_yes (d := 87) h87
  clear h100 h119 h115 h68 h87
  have HB := Lib.hid (Below.refl w.heap.size w)
  go_enter Tryz.func41, Tryz.ntmps41
  go_wp2_with fail
  refine (refSpan_any 48 57 (by omega) _).mono ?_
  rintro e w1 ⟨rfl, hb1⟩
  replace HB := Lib.hid (on HB.out hb1)
  clear hb1
  go_wp2_with fail
  refine (refSpan_any 97 122 (by omega) _).mono ?_
  rintro e w2 ⟨rfl, hb2⟩
  replace HB := Lib.hid (on HB.out hb2)
  clear hb2
  go_wp2_with fail
  refine (refUnion_tx _ _ _).mono ?_
  rintro e w3 ⟨rfl, hb3⟩
  replace HB := Lib.hid (on HB.out hb3)
  clear hb3
  go_wp2_with fail
  refine (refSpan_any 65 90 (by omega) _).mono ?_
  rintro e w4 ⟨rfl, hb4⟩
  replace HB := Lib.hid (on HB.out hb4)
  clear hb4
  go_wp2_with fail
  refine (refSpan_any 95 95 (by omega) _).mono ?_
  rintro e w5 ⟨rfl, hb5⟩
  replace HB := Lib.hid (on HB.out hb5)
  clear hb5
  go_wp2_with fail
  refine (refUnion_tx _ _ _).mono ?_
  rintro e w6 ⟨rfl, hb6⟩
  replace HB := Lib.hid (on HB.out hb6)
  clear hb6
  go_wp2_with fail
  refine (refUnion_tx _ _ _).mono ?_
  rintro e w7 ⟨rfl, hb7⟩
  replace HB := Lib.hid (on HB.out hb7)
  clear hb7
  go_wp2_with fail
  refine (refSpan_any 9 13 (by omega) _).mono ?_
  rintro e w8 ⟨rfl, hb8⟩
  replace HB := Lib.hid (on HB.out hb8)
  clear hb8
  go_wp2_with fail
  refine (refSpan_any 32 32 (by omega) _).mono ?_
  rintro e w9 ⟨rfl, hb9⟩
  replace HB := Lib.hid (on HB.out hb9)
  clear hb9
  go_wp2_with fail
  refine (refUnion_tx _ _ _).mono ?_
  rintro e w10 ⟨rfl, hb10⟩
  replace HB := Lib.hid (on HB.out hb10)
  clear hb10
  go_wp2_with fail
  refine (refNot_tx _ _).mono ?_
  rintro e w11 ⟨rfl, hb11⟩
  replace HB := Lib.hid (on HB.out hb11)
  clear hb11
  go_wp2_with fail
  go_ret2
  obtain rfl := HF.out
  exact ⟨two_eq (fun i _ => not_word i) rfl, HB.out⟩
set_option maxHeartbeats 2000000 in
theorem refNamed_83 {c : UInt8} (h100 : ¬ c = 100) (h119 : ¬ c = 119) (h115 : ¬ c = 115) (h68 : ¬ c = 68) (h87 : ¬ c = 87) (h83 : c = 83) (w : World) : Calls Tryz.prog 41 #[.int .u8 c.toNat] w fun e w' => e = .returned (.tuple #[.string (tx (namedF c)), .bool (letter c)]) ∧ Below w.heap.size w w' := by
  have HF := Lib.hid h83
  have t100 : (((c.toNat : Nat) : Int) == 100) = false := u8_no (d := 100) h100
  have t119 : (((c.toNat : Nat) : Int) == 119) = false := u8_no (d := 119) h119
  have t115 : (((c.toNat : Nat) : Int) == 115) = false := u8_no (d := 115) h115
  have t68 : (((c.toNat : Nat) : Int) == 68) = false := u8_no (d := 68) h68
  have t87 : (((c.toNat : Nat) : Int) == 87) = false := u8_no (d := 87) h87
  have t83 : (((c.toNat : Nat) : Int) == 83) = true := u8_yes (d := 83) h83
  clear h100 h119 h115 h68 h87 h83
  have HB := Lib.hid (Below.refl w.heap.size w)
  go_enter Tryz.func41, Tryz.ntmps41
  go_wp2_with fail
  refine (refSpan_any 48 57 (by omega) _).mono ?_
  rintro e w1 ⟨rfl, hb1⟩
  replace HB := Lib.hid (on HB.out hb1)
  clear hb1
  go_wp2_with fail
  refine (refSpan_any 97 122 (by omega) _).mono ?_
  rintro e w2 ⟨rfl, hb2⟩
  replace HB := Lib.hid (on HB.out hb2)
  clear hb2
  go_wp2_with fail
  refine (refUnion_tx _ _ _).mono ?_
  rintro e w3 ⟨rfl, hb3⟩
  replace HB := Lib.hid (on HB.out hb3)
  clear hb3
  go_wp2_with fail
  refine (refSpan_any 65 90 (by omega) _).mono ?_
  rintro e w4 ⟨rfl, hb4⟩
  replace HB := Lib.hid (on HB.out hb4)
  clear hb4
  go_wp2_with fail
  refine (refSpan_any 95 95 (by omega) _).mono ?_
  rintro e w5 ⟨rfl, hb5⟩
  replace HB := Lib.hid (on HB.out hb5)
  clear hb5
  go_wp2_with fail
  refine (refUnion_tx _ _ _).mono ?_
  rintro e w6 ⟨rfl, hb6⟩
  replace HB := Lib.hid (on HB.out hb6)
  clear hb6
  go_wp2_with fail
  refine (refUnion_tx _ _ _).mono ?_
  rintro e w7 ⟨rfl, hb7⟩
  replace HB := Lib.hid (on HB.out hb7)
  clear hb7
  go_wp2_with fail
  refine (refSpan_any 9 13 (by omega) _).mono ?_
  rintro e w8 ⟨rfl, hb8⟩
  replace HB := Lib.hid (on HB.out hb8)
  clear hb8
  go_wp2_with fail
  refine (refSpan_any 32 32 (by omega) _).mono ?_
  rintro e w9 ⟨rfl, hb9⟩
  replace HB := Lib.hid (on HB.out hb9)
  clear hb9
  go_wp2_with fail
  refine (refUnion_tx _ _ _).mono ?_
  rintro e w10 ⟨rfl, hb10⟩
  replace HB := Lib.hid (on HB.out hb10)
  clear hb10
  go_wp2_with fail
  refine (refNot_tx _ _).mono ?_
  rintro e w11 ⟨rfl, hb11⟩
  replace HB := Lib.hid (on HB.out hb11)
  clear hb11
  go_wp2_with fail
  go_ret2
  obtain rfl := HF.out
  exact ⟨two_eq (fun i _ => not_space i) rfl, HB.out⟩
set_option maxHeartbeats 2000000 in
theorem refNamed_no {c : UInt8} (h100 : ¬ c = 100) (h119 : ¬ c = 119) (h115 : ¬ c = 115) (h68 : ¬ c = 68) (h87 : ¬ c = 87) (h83 : ¬ c = 83) (w : World) : Calls Tryz.prog 41 #[.int .u8 c.toNat] w fun e w' => e = .returned (.tuple #[.string (tx (namedF c)), .bool (letter c)]) ∧ Below w.heap.size w w' := by
  have HF : Hid (namedF c = (fun _ => false) ∧ letter c = false) := by
    refine ⟨?_, ?_⟩
    · funext i
      unfold namedF
      rw [if_neg h100, if_neg h119, if_neg h115, if_neg h68, if_neg h87, if_neg h83]
    · unfold letter
      rw [decide_eq_false h100, decide_eq_false h119, decide_eq_false h115, decide_eq_false h68, decide_eq_false h87, decide_eq_false h83]; rfl
  have t100 : (((c.toNat : Nat) : Int) == 100) = false := u8_no (d := 100) h100
  have t119 : (((c.toNat : Nat) : Int) == 119) = false := u8_no (d := 119) h119
  have t115 : (((c.toNat : Nat) : Int) == 115) = false := u8_no (d := 115) h115
  have t68 : (((c.toNat : Nat) : Int) == 68) = false := u8_no (d := 68) h68
  have t87 : (((c.toNat : Nat) : Int) == 87) = false := u8_no (d := 87) h87
  have t83 : (((c.toNat : Nat) : Int) == 83) = false := u8_no (d := 83) h83
  clear h100 h119 h115 h68 h87 h83
  have HB := Lib.hid (Below.refl w.heap.size w)
  go_enter Tryz.func41, Tryz.ntmps41
  go_wp2_with fail
  refine (refSpan_any 48 57 (by omega) _).mono ?_
  rintro e w1 ⟨rfl, hb1⟩
  replace HB := Lib.hid (on HB.out hb1)
  clear hb1
  go_wp2_with fail
  refine (refSpan_any 97 122 (by omega) _).mono ?_
  rintro e w2 ⟨rfl, hb2⟩
  replace HB := Lib.hid (on HB.out hb2)
  clear hb2
  go_wp2_with fail
  refine (refUnion_tx _ _ _).mono ?_
  rintro e w3 ⟨rfl, hb3⟩
  replace HB := Lib.hid (on HB.out hb3)
  clear hb3
  go_wp2_with fail
  refine (refSpan_any 65 90 (by omega) _).mono ?_
  rintro e w4 ⟨rfl, hb4⟩
  replace HB := Lib.hid (on HB.out hb4)
  clear hb4
  go_wp2_with fail
  refine (refSpan_any 95 95 (by omega) _).mono ?_
  rintro e w5 ⟨rfl, hb5⟩
  replace HB := Lib.hid (on HB.out hb5)
  clear hb5
  go_wp2_with fail
  refine (refUnion_tx _ _ _).mono ?_
  rintro e w6 ⟨rfl, hb6⟩
  replace HB := Lib.hid (on HB.out hb6)
  clear hb6
  go_wp2_with fail
  refine (refUnion_tx _ _ _).mono ?_
  rintro e w7 ⟨rfl, hb7⟩
  replace HB := Lib.hid (on HB.out hb7)
  clear hb7
  go_wp2_with fail
  refine (refSpan_any 9 13 (by omega) _).mono ?_
  rintro e w8 ⟨rfl, hb8⟩
  replace HB := Lib.hid (on HB.out hb8)
  clear hb8
  go_wp2_with fail
  refine (refSpan_any 32 32 (by omega) _).mono ?_
  rintro e w9 ⟨rfl, hb9⟩
  replace HB := Lib.hid (on HB.out hb9)
  clear hb9
  go_wp2_with fail
  refine (refUnion_tx _ _ _).mono ?_
  rintro e w10 ⟨rfl, hb10⟩
  replace HB := Lib.hid (on HB.out hb10)
  clear hb10
  go_wp2_with fail
  refine (refSpan_any 1 0 (by omega) _).mono ?_
  rintro e w11 ⟨rfl, hb11⟩
  replace HB := Lib.hid (on HB.out hb11)
  clear hb11
  go_wp2_with fail
  go_ret2
  refine ⟨two_eq (fun i _ => ?_) ?_, HB.out⟩
  · rw [HF.out.1]; unfold between; by_cases e : 1 ≤ i
    · rw [decide_eq_false (show ¬ i ≤ 0 by omega), Bool.and_false]
    · rw [decide_eq_false e, Bool.false_and]
  · exact HF.out.2.symm
theorem refNamed_any (c : UInt8) (w : World) : Calls Tryz.prog 41 #[.int .u8 c.toNat] w fun e w' => e = .returned (.tuple #[.string (tx (namedF c)), .bool (letter c)]) ∧ Below w.heap.size w w' := by
  by_cases h100 : c = 100
  · exact refNamed_100 h100 w
  by_cases h119 : c = 119
  · exact refNamed_119 h100 h119 w
  by_cases h115 : c = 115
  · exact refNamed_115 h100 h119 h115 w
  by_cases h68 : c = 68
  · exact refNamed_68 h100 h119 h115 h68 w
  by_cases h87 : c = 87
  · exact refNamed_87 h100 h119 h115 h68 h87 w
  by_cases h83 : c = 83
  · exact refNamed_83 h100 h119 h115 h68 h87 h83 w
  exact refNamed_no h100 h119 h115 h68 h87 h83 w
end Go.Proofs.YtenlogfiabhfmaaGreatDoor.W13
/-
  Layer 13 (class), walk of the document's next: a byte, or a letter's set, at a place. The conditions stand in the statements.
-/
namespace Go.Proofs.YtenlogfiabhfmaaGreatDoor.W13
set_option maxRecDepth 100000
open Go Go.RowKit Go.Proofs.YtenlogfiabhfmaaGreatDoor.M13 Go.Proofs.YtenlogfiabhfmaaGreatDoor.Row256
open Go.Proofs.YtenlogfiabhfmaaGreatDoor.Kit (ret_str ret_bool ret_int mk_of mk_bytes ba_ext below_draws on)

/-- what next answers -/
def nextV (at_ : Nat) (o : UInt8 × Nat × Bool) : Value :=
  if o.2.1 = 0 then .tuple #[.int .i64 0, .string ⟨#[]⟩, .int .i64 0, .int .i64 3]
  else if o.2.2 then .tuple #[.int .i64 (-1), .string (tx (namedF o.1)), .int .i64 ((at_ + o.2.1 : Nat) : Int), .int .i64 0]
  else .tuple #[.int .i64 o.1.toNat, .string (tx (between o.1.toNat o.1.toNat)), .int .i64 ((at_ + o.2.1 : Nat) : Int), .int .i64 0]
def NextTo (w : World) (v : Value) (e : Ending) (w' : World) : Prop := e = .returned v ∧ Below w.heap.size w w'
theorem res4 {fn : Func} {a b c d : Tmp} (h : fn.results = #[.tmp a, .tmp b, .tmp c, .tmp d]) (tmps : Array Value) (P : Program) (w : World) : (results fn tmps).run P w = .ok (.tuple #[tmps.getD a undef, tmps.getD b undef, tmps.getD c undef, tmps.getD d undef]) w := by
  simp [results, h]
theorem one_at {s : ByteArray} {at_ : Nat} (h : at_ < s.size) : one (s.data.toList.drop at_) = if s[at_] = 92 then (if h2 : at_ + 1 < s.size then (s[at_ + 1], 2, letter s[at_ + 1]) else (0, 0, false)) else (s[at_], 1, false) := by
  rw [Kit.drop_next s at_ h]
  unfold one
  by_cases h92 : s[at_] = 92
  · simp only [if_pos h92]
    by_cases h2 : at_ + 1 < s.size
    · rw [Kit.drop_next s (at_ + 1) h2, dif_pos h2]
    · rw [Kit.drop_end s (at_ + 1) h2, dif_neg h2]
  · simp only [if_neg h92]
section
variable {s : ByteArray} {at_ : Nat} {w : World}
set_option maxHeartbeats 1000000 in
theorem next_end (hat : ¬ at_ < s.size) : Calls Tryz.prog 52 #[.string s, .int .i64 at_] w (NextTo w (.tuple #[.int .i64 0, .string ⟨#[]⟩, .int .i64 0, .int .i64 3])) := by
  have h1 : (s.size : Int) ≤ (at_ : Int) := by omega
  go_enter Tryz.func52, Tryz.ntmps52
  go_wp2_with fail
  refine bodyPost_ret (res4 rfl _ _ _) rfl ?_
  exact ⟨rfl, Below.refl _ _⟩
set_option maxHeartbeats 1000000 in
theorem next_last (hs : s.size ≤ 900) (hat : at_ < s.size) (h92 : s[at_] = 92) (hl : ¬ at_ + 1 < s.size) : Calls Tryz.prog 52 #[.string s, .int .i64 at_] w (NextTo w (.tuple #[.int .i64 0, .string ⟨#[]⟩, .int .i64 0, .int .i64 3])) := by
  have h1 : ¬ (s.size : Int) ≤ (at_ : Int) := by omega
  have h2 : (at_ : Int) < (s.size : Int) := by omega
  have t92 : ((s[at_].toNat : Int) == 92) = true := u8_yes h92
  have hw1 : wrap64 ((at_ : Int) + 1) = ((at_ + 1 : Nat) : Int) := by unfold wrap64; omega
  have hq : (((at_ + 1 : Nat) : Int) == (s.size : Int)) = true := by simpa using (by omega : ((at_ : Int) + 1) = (s.size : Int))
  clear h92
  go_enter Tryz.func52, Tryz.ntmps52
  go_wp2_with fail
  refine bodyPost_ret (res4 rfl _ _ _) rfl ?_
  exact ⟨rfl, Below.refl _ _⟩
set_option maxHeartbeats 1000000 in
theorem next_plain (hs : s.size ≤ 900) (hat : at_ < s.size) (h92 : ¬ s[at_] = 92) : Calls Tryz.prog 52 #[.string s, .int .i64 at_] w (NextTo w (.tuple #[.int .i64 s[at_].toNat, .string (tx (between s[at_].toNat s[at_].toNat)), .int .i64 ((at_ + 1 : Nat) : Int), .int .i64 0])) := by
  have h1 : ¬ (s.size : Int) ≤ (at_ : Int) := by omega
  have h2 : (at_ : Int) < (s.size : Int) := by omega
  have t92 : ((s[at_].toNat : Int) == 92) = false := u8_no h92
  have hw1 : wrap64 ((at_ : Int) + 1) = ((at_ + 1 : Nat) : Int) := by unfold wrap64; omega
  have hb0 : (0 : Int) ≤ (at_ : Int) := by omega
  have hwr : IntKind.i64.wrap ((at_ : Int) + 1) = (at_ : Int) + 1 := by rw [IntKind.wrap_i64]; omega
  have hwb : IntKind.i64.wrap (s[at_].toNat : Int) = (s[at_].toNat : Int) := by have := UInt8.toNat_lt s[at_]; rw [IntKind.wrap_i64]; omega
  clear h92
  go_enter Tryz.func52, Tryz.ntmps52
  go_wp2_with fail
  refine wp_region_held_drew (S := fun w' => Below w.heap.size w w') (by kernel_rfl) (below_draws w 1) (fun hHeld => ?_)
  refine wpAnyH_take (i := 0) (oi := { dst := some 31, op := Op.move (Operand.tmp 0), type := 9, pos := "ref.go:96", after := #[], guard := none }) (v := ?vq0) rfl (by kernel_rfl) (by kernel_rfl) (by kernel_rfl) (fun _ _ _ h => h) (Or.inl ⟨by rfl, ?hq0⟩) (by assumption) ?rq0
  case hq0 => (intro w hSw; (try dsimp only at hSw); go_simp; try with_reducible rfl)
  try simp only [Act.put, List.setIfInBounds_toArray, List.set_cons_zero, List.set_cons_succ]
  refine wpAnyH_take (i := 1) (oi := { dst := some 32, op := Op.move (Operand.tmp 1), type := 3, pos := "ref.go:96", after := #[], guard := none }) (v := ?vq1) rfl (by kernel_rfl) (by kernel_rfl) (by kernel_rfl) (fun _ _ _ h => h) (Or.inl ⟨by rfl, ?hq1⟩) (by assumption) ?rq1
  case hq1 => (intro w hSw; (try dsimp only at hSw); go_simp; try with_reducible rfl)
  try simp only [Act.put, List.setIfInBounds_toArray, List.set_cons_zero, List.set_cons_succ]
  refine wpAnyH_take (i := 2) (oi := { dst := some 33, op := Op.index 9 (Operand.tmp 31) (Operand.tmp 32), type := 5, pos := "ref.go:96", after := #[{ on := 0, ground := Ground.data }, { on := 1, ground := Ground.data }], guard := none }) (v := ?vq2) rfl (by kernel_rfl) (by kernel_rfl) (by kernel_rfl) (fun _ _ _ h => h) (Or.inl ⟨by rfl, ?hq2⟩) (by assumption) ?rq2
  case hq2 => (intro w hSw; (try dsimp only at hSw); go_simp; try with_reducible rfl)
  try simp only [Act.put, List.setIfInBounds_toArray, List.set_cons_zero, List.set_cons_succ]
  refine wpAnyH_take (i := 3) (oi := { dst := some 34, op := Op.convert 5 3 (Operand.tmp 33), type := 3, pos := "ref.go:96", after := #[{ on := 2, ground := Ground.data }], guard := none }) (v := ?vq3) rfl (by kernel_rfl) (by kernel_rfl) (by kernel_rfl) (fun _ _ _ h => h) (Or.inl ⟨by rfl, ?hq3⟩) (by assumption) ?rq3
  case hq3 => (intro w hSw; (try dsimp only at hSw); go_simp; try with_reducible rfl)
  try simp only [Act.put, List.setIfInBounds_toArray, List.set_cons_zero, List.set_cons_succ]
  refine wpAnyH_take (i := 4) (oi := { dst := some 35, op := Op.move (Operand.tmp 0), type := 9, pos := "ref.go:96", after := #[], guard := none }) (v := ?vq4) rfl (by kernel_rfl) (by kernel_rfl) (by kernel_rfl) (fun _ _ _ h => h) (Or.inl ⟨by rfl, ?hq4⟩) (by assumption) ?rq4
  case hq4 => (intro w hSw; (try dsimp only at hSw); go_simp; try with_reducible rfl)
  try simp only [Act.put, List.setIfInBounds_toArray, List.set_cons_zero, List.set_cons_succ]
  refine wpAnyH_take (i := 5) (oi := { dst := some 36, op := Op.move (Operand.tmp 1), type := 3, pos := "ref.go:96", after := #[], guard := none }) (v := ?vq5) rfl (by kernel_rfl) (by kernel_rfl) (by kernel_rfl) (fun _ _ _ h => h) (Or.inl ⟨by rfl, ?hq5⟩) (by assumption) ?rq5
  case hq5 => (intro w hSw; (try dsimp only at hSw); go_simp; try with_reducible rfl)
  try simp only [Act.put, List.setIfInBounds_toArray, List.set_cons_zero, List.set_cons_succ]
  refine wpAnyH_take (i := 6) (oi := { dst := some 37, op := Op.index 9 (Operand.tmp 35) (Operand.tmp 36), type := 5, pos := "ref.go:96", after := #[{ on := 4, ground := Ground.data }, { on := 5, ground := Ground.data }], guard := none }) (v := ?vq6) rfl (by kernel_rfl) (by kernel_rfl) (by kernel_rfl) (fun _ _ _ h => h) (Or.inl ⟨by rfl, ?hq6⟩) (by assumption) ?rq6
  case hq6 => (intro w hSw; (try dsimp only at hSw); go_simp; try with_reducible rfl)
  try simp only [Act.put, List.setIfInBounds_toArray, List.set_cons_zero, List.set_cons_succ]
  refine wpAnyH_take (i := 7) (oi := { dst := some 38, op := Op.convert 5 3 (Operand.tmp 37), type := 3, pos := "ref.go:96", after := #[{ on := 6, ground := Ground.data }], guard := none }) (v := ?vq7) rfl (by kernel_rfl) (by kernel_rfl) (by kernel_rfl) (fun _ _ _ h => h) (Or.inl ⟨by rfl, ?hq7⟩) (by assumption) ?rq7
  case hq7 => (intro w hSw; (try dsimp only at hSw); go_simp; try with_reducible rfl)
  try simp only [Act.put, List.setIfInBounds_toArray, List.set_cons_zero, List.set_cons_succ]
  refine wpAnyH_take (i := 8) (oi := { dst := some 39, op := Op.move (Operand.tmp 0), type := 9, pos := "ref.go:96", after := #[], guard := none }) (v := ?vq8) rfl (by kernel_rfl) (by kernel_rfl) (by kernel_rfl) (fun _ _ _ h => h) (Or.inl ⟨by rfl, ?hq8⟩) (by assumption) ?rq8
  case hq8 => (intro w hSw; (try dsimp only at hSw); go_simp; try with_reducible rfl)
  try simp only [Act.put, List.setIfInBounds_toArray, List.set_cons_zero, List.set_cons_succ]
  refine wpAnyH_take (i := 9) (oi := { dst := some 40, op := Op.move (Operand.tmp 1), type := 3, pos := "ref.go:96", after := #[], guard := none }) (v := ?vq9) rfl (by kernel_rfl) (by kernel_rfl) (by kernel_rfl) (fun _ _ _ h => h) (Or.inl ⟨by rfl, ?hq9⟩) (by assumption) ?rq9
  case hq9 => (intro w hSw; (try dsimp only at hSw); go_simp; try with_reducible rfl)
  try simp only [Act.put, List.setIfInBounds_toArray, List.set_cons_zero, List.set_cons_succ]
  refine wpAnyH_take (i := 10) (oi := { dst := some 41, op := Op.index 9 (Operand.tmp 39) (Operand.tmp 40), type := 5, pos := "ref.go:96", after := #[{ on := 8, ground := Ground.data }, { on := 9, ground := Ground.data }], guard := none }) (v := ?vq10) rfl (by kernel_rfl) (by kernel_rfl) (by kernel_rfl) (fun _ _ _ h => h) (Or.inl ⟨by rfl, ?hq10⟩) (by assumption) ?rq10
  case hq10 => (intro w hSw; (try dsimp only at hSw); go_simp; try with_reducible rfl)
  try simp only [Act.put, List.setIfInBounds_toArray, List.set_cons_zero, List.set_cons_succ]
  refine wpAnyH_take (i := 11) (oi := { dst := some 42, op := Op.convert 5 3 (Operand.tmp 41), type := 3, pos := "ref.go:96", after := #[{ on := 10, ground := Ground.data }], guard := none }) (v := ?vq11) rfl (by kernel_rfl) (by kernel_rfl) (by kernel_rfl) (fun _ _ _ h => h) (Or.inl ⟨by rfl, ?hq11⟩) (by assumption) ?rq11
  case hq11 => (intro w hSw; (try dsimp only at hSw); go_simp; try with_reducible rfl)
  try simp only [Act.put, List.setIfInBounds_toArray, List.set_cons_zero, List.set_cons_succ]
  refine wpAnyH_take (i := 13) (oi := { dst := some 44, op := Op.move (Operand.tmp 1), type := 3, pos := "ref.go:96", after := #[{ on := 16, ground := Ground.gcOnly Departure.lateStores }], guard := none }) (v := ?vq13) rfl (by kernel_rfl) (by kernel_rfl) (by kernel_rfl) (fun _ _ _ h => h) (Or.inl ⟨by rfl, ?hq13⟩) (by assumption) ?rq13
  case hq13 => (intro w hSw; (try dsimp only at hSw); go_simp; try with_reducible rfl)
  try simp only [Act.put, List.setIfInBounds_toArray, List.set_cons_zero, List.set_cons_succ]
  refine wpAnyH_take (i := 14) (oi := { dst := some 45, op := Op.binOp BinOp.add 3 (Operand.tmp 44) (Operand.const (Value.int IntKind.i64 1)) 3, type := 3, pos := "ref.go:96", after := #[{ on := 13, ground := Ground.data }, { on := 16, ground := Ground.gcOnly Departure.lateStores }], guard := none }) (v := ?vq14) rfl (by kernel_rfl) (by kernel_rfl) (by kernel_rfl) (fun _ _ _ h => h) (Or.inl ⟨by rfl, ?hq14⟩) (by assumption) ?rq14
  case hq14 => (intro w hSw; (try dsimp only at hSw); go_simp; try with_reducible rfl)
  try simp only [Act.put, List.setIfInBounds_toArray, List.set_cons_zero, List.set_cons_succ]
  refine wpAnyH_ready (rs := [12]) (by kernel_rfl) (by simp) ?_
  refine AllReadyH.cons (o := { dst := some 43, op := Op.call { callee := Callee.value (Operand.func 51), args := #[Operand.tmp 38, Operand.tmp 42], argTypes := #[3, 3] }, type := 9, pos := "ref.go:96", after := #[{ on := 7, ground := Ground.data }, { on := 11, ground := Ground.data }], guard := none }) rfl (fun K hK => ?_) AllReadyH.nil
  go_simp
  (go_at_call 51; refine (refSpan_any s[at_].toNat s[at_].toNat (UInt8.toNat_lt _) (w.drewN 1)).mono ?_; rintro e w2 ⟨rfl, hb2⟩; have hB : Below w.heap.size w w2 := (below_draws w 1).trans hb2)
  go_wp2_with fail
  refine hK.out _ _ ?_ (fun hHeld => ?_)
  · exact hB
  clear hK K
  try simp only [Act.put, List.setIfInBounds_toArray, List.set_cons_zero, List.set_cons_succ]
  refine wpAnyH_take (i := 15) (oi := { dst := some 4, op := Op.assign (Operand.tmp 34), type := 3, pos := "ref.go:96", after := #[{ on := 3, ground := Ground.data }, { on := 12, ground := Ground.chain }, { on := 0, ground := Ground.phase }, { on := 1, ground := Ground.phase }, { on := 2, ground := Ground.phase }, { on := 3, ground := Ground.phase }, { on := 4, ground := Ground.textOnly Departure.lateStores }, { on := 5, ground := Ground.textOnly Departure.lateStores }, { on := 6, ground := Ground.textOnly Departure.lateStores }, { on := 7, ground := Ground.textOnly Departure.lateStores }, { on := 8, ground := Ground.textOnly Departure.lateStores }, { on := 9, ground := Ground.textOnly Departure.lateStores }, { on := 10, ground := Ground.textOnly Departure.lateStores }, { on := 11, ground := Ground.textOnly Departure.lateStores }, { on := 12, ground := Ground.textOnly Departure.lateStoresUnsure }, { on := 13, ground := Ground.textOnly Departure.lateStores }, { on := 14, ground := Ground.textOnly Departure.lateStores }], guard := none }) (v := ?vq15) rfl (by kernel_rfl) (by kernel_rfl) (by kernel_rfl) (fun _ _ _ h => h) (Or.inl ⟨by rfl, ?hq15⟩) (by assumption) ?rq15
  case hq15 => (intro w hSw; (try dsimp only at hSw); go_simp; try with_reducible rfl)
  try simp only [Act.put, List.setIfInBounds_toArray, List.set_cons_zero, List.set_cons_succ]
  refine wpAnyH_take (i := 16) (oi := { dst := some 5, op := Op.assign (Operand.tmp 43), type := 9, pos := "ref.go:96", after := #[{ on := 12, ground := Ground.data }, { on := 15, ground := Ground.chain }, { on := 0, ground := Ground.phase }, { on := 1, ground := Ground.phase }, { on := 2, ground := Ground.phase }, { on := 3, ground := Ground.phase }, { on := 4, ground := Ground.phase }, { on := 5, ground := Ground.phase }, { on := 6, ground := Ground.phase }, { on := 7, ground := Ground.phase }, { on := 8, ground := Ground.phase }, { on := 9, ground := Ground.phase }, { on := 10, ground := Ground.phase }, { on := 11, ground := Ground.phase }, { on := 12, ground := Ground.phase }, { on := 13, ground := Ground.textOnly Departure.lateStores }, { on := 14, ground := Ground.textOnly Departure.lateStores }, { on := 15, ground := Ground.phase }], guard := none }) (v := ?vq16) rfl (by kernel_rfl) (by kernel_rfl) (by kernel_rfl) (fun _ _ _ h => h) (Or.inl ⟨by rfl, ?hq16⟩) (by assumption) ?rq16
  case hq16 => (intro w hSw; (try dsimp only at hSw); go_simp; try with_reducible rfl)
  try simp only [Act.put, List.setIfInBounds_toArray, List.set_cons_zero, List.set_cons_succ]
  refine wpAnyH_take (i := 17) (oi := { dst := some 6, op := Op.assign (Operand.tmp 45), type := 3, pos := "ref.go:96", after := #[{ on := 14, ground := Ground.data }, { on := 16, ground := Ground.chain }, { on := 0, ground := Ground.phase }, { on := 1, ground := Ground.phase }, { on := 2, ground := Ground.phase }, { on := 3, ground := Ground.phase }, { on := 4, ground := Ground.phase }, { on := 5, ground := Ground.phase }, { on := 6, ground := Ground.phase }, { on := 7, ground := Ground.phase }, { on := 8, ground := Ground.phase }, { on := 9, ground := Ground.phase }, { on := 10, ground := Ground.phase }, { on := 11, ground := Ground.phase }, { on := 12, ground := Ground.phase }, { on := 13, ground := Ground.phase }, { on := 14, ground := Ground.phase }, { on := 15, ground := Ground.phase }, { on := 16, ground := Ground.phase }], guard := none }) (v := ?vq17) rfl (by kernel_rfl) (by kernel_rfl) (by kernel_rfl) (fun _ _ _ h => h) (Or.inl ⟨by rfl, ?hq17⟩) (by assumption) ?rq17
  case hq17 => (intro w hSw; (try dsimp only at hSw); go_simp; try with_reducible rfl)
  try simp only [Act.put, List.setIfInBounds_toArray, List.set_cons_zero, List.set_cons_succ]
  refine wpAnyH_take (i := 18) (oi := { dst := some 7, op := Op.assign (Operand.const (Value.int IntKind.i64 0)), type := 3, pos := "ref.go:96", after := #[{ on := 17, ground := Ground.chain }, { on := 0, ground := Ground.phase }, { on := 1, ground := Ground.phase }, { on := 2, ground := Ground.phase }, { on := 3, ground := Ground.phase }, { on := 4, ground := Ground.phase }, { on := 5, ground := Ground.phase }, { on := 6, ground := Ground.phase }, { on := 7, ground := Ground.phase }, { on := 8, ground := Ground.phase }, { on := 9, ground := Ground.phase }, { on := 10, ground := Ground.phase }, { on := 11, ground := Ground.phase }, { on := 12, ground := Ground.phase }, { on := 13, ground := Ground.phase }, { on := 14, ground := Ground.phase }, { on := 15, ground := Ground.phase }, { on := 16, ground := Ground.phase }, { on := 17, ground := Ground.phase }], guard := none }) (v := ?vq18) rfl (by kernel_rfl) (by kernel_rfl) (by kernel_rfl) (fun _ _ _ h => h) (Or.inl ⟨by rfl, ?hq18⟩) (by assumption) ?rq18
  case hq18 => (intro w hSw; (try dsimp only at hSw); go_simp; try with_reducible rfl)
  try simp only [Act.put, List.setIfInBounds_toArray, List.set_cons_zero, List.set_cons_succ]
  refine wpAnyH_done (by kernel_rfl) ?_ _
  go_wp2_with fail
  refine bodyPost_ret (res4 rfl _ _ _) rfl ?_
  exact ⟨rfl, hB⟩
set_option maxHeartbeats 1000000 in
theorem next_letter (hs : s.size ≤ 900) (hat : at_ < s.size) (h92 : s[at_] = 92) (hl : at_ + 1 < s.size) (hlet : letter s[at_ + 1] = true) : Calls Tryz.prog 52 #[.string s, .int .i64 at_] w (NextTo w (.tuple #[.int .i64 (-1), .string (tx (namedF s[at_ + 1])), .int .i64 ((at_ + 2 : Nat) : Int), .int .i64 0])) := by
  have h1 : ¬ (s.size : Int) ≤ (at_ : Int) := by omega
  have h2 : (at_ : Int) < (s.size : Int) := by omega
  have t92 : ((s[at_].toNat : Int) == 92) = true := u8_yes h92
  have hw1 : wrap64 ((at_ : Int) + 1) = ((at_ + 1 : Nat) : Int) := by unfold wrap64; omega
  have hw2 : wrap64 ((at_ : Int) + 2) = ((at_ + 2 : Nat) : Int) := by unfold wrap64; omega
  have h3 : ((at_ + 1 : Nat) : Int) < (s.size : Int) := by omega
  have hq : (((at_ + 1 : Nat) : Int) == (s.size : Int)) = false := by simpa using (by omega : ¬ ((at_ : Int) + 1) = (s.size : Int))
  have HN : Hid (∀ w, Calls Tryz.prog 41 #[.int .u8 s[at_ + 1].toNat] w fun e w' => e = .returned (.tuple #[.string (tx (namedF s[at_ + 1])), .bool true]) ∧ Below w.heap.size w w') := fun w => by
    have := refNamed_any s[at_ + 1] w
    rw [hlet] at this
    exact this
  clear h92 hlet
  go_enter Tryz.func52, Tryz.ntmps52
  go_wp2_with fail
  refine (HN.out _).mono ?_
  rintro e w1 ⟨rfl, hb1⟩
  have HB1 := Lib.hid hb1
  clear hb1
  go_wp2_with fail
  refine bodyPost_ret (res4 rfl _ _ _) rfl ?_
  exact ⟨rfl, HB1.out⟩
set_option maxHeartbeats 1000000 in
theorem next_escaped (hs : s.size ≤ 900) (hat : at_ < s.size) (h92 : s[at_] = 92) (hl : at_ + 1 < s.size) (hlet : letter s[at_ + 1] = false) : Calls Tryz.prog 52 #[.string s, .int .i64 at_] w (NextTo w (.tuple #[.int .i64 s[at_ + 1].toNat, .string (tx (between s[at_ + 1].toNat s[at_ + 1].toNat)), .int .i64 ((at_ + 2 : Nat) : Int), .int .i64 0])) := by
  have h1 : ¬ (s.size : Int) ≤ (at_ : Int) := by omega
  have h2 : (at_ : Int) < (s.size : Int) := by omega
  have t92 : ((s[at_].toNat : Int) == 92) = true := u8_yes h92
  have hw1 : wrap64 ((at_ : Int) + 1) = ((at_ + 1 : Nat) : Int) := by unfold wrap64; omega
  have hw2 : wrap64 ((at_ : Int) + 2) = ((at_ + 2 : Nat) : Int) := by unfold wrap64; omega
  have h3 : ((at_ + 1 : Nat) : Int) < (s.size : Int) := by omega
  have hq : (((at_ + 1 : Nat) : Int) == (s.size : Int)) = false := by simpa using (by omega : ¬ ((at_ : Int) + 1) = (s.size : Int))
  have hb0 : (0 : Int) ≤ (at_ : Int) := by omega
  have hwr : IntKind.i64.wrap ((at_ : Int) + 1) = (at_ : Int) + 1 := by rw [IntKind.wrap_i64]; omega
  have hb1' : (0 : Int) ≤ (at_ : Int) + 1 := by omega
  have hb2' : (at_ : Int) + 1 < (s.size : Int) := by omega
  have hwr2 : IntKind.i64.wrap ((at_ : Int) + 2) = (at_ : Int) + 2 := by rw [IntKind.wrap_i64]; omega
  have hwb : IntKind.i64.wrap (s[at_ + 1].toNat : Int) = (s[at_ + 1].toNat : Int) := by have := UInt8.toNat_lt s[at_ + 1]; rw [IntKind.wrap_i64]; omega
  have HN : Hid (∀ w, Calls Tryz.prog 41 #[.int .u8 s[at_ + 1].toNat] w fun e w' => e = .returned (.tuple #[.string (tx (namedF s[at_ + 1])), .bool false]) ∧ Below w.heap.size w w') := fun w => by
    have := refNamed_any s[at_ + 1] w
    rw [hlet] at this
    exact this
  clear h92 hlet
  go_enter Tryz.func52, Tryz.ntmps52
  go_wp2_with fail
  refine (HN.out _).mono ?_
  rintro e w1 ⟨rfl, hb1⟩
  have HB1 := Lib.hid hb1
  clear hb1
  go_wp2_with fail
  refine wp_region_held_drew (S := fun w' => Below w1.heap.size w1 w') (by kernel_rfl) (below_draws w1 1) (fun hHeld => ?_)
  refine wpAnyH_take (i := 0) (oi := { dst := some 58, op := Op.move (Operand.tmp 0), type := 9, pos := "ref.go:102", after := #[], guard := none }) (v := ?vq0) rfl (by kernel_rfl) (by kernel_rfl) (by kernel_rfl) (fun _ _ _ h => h) (Or.inl ⟨by rfl, ?hq0⟩) (by assumption) ?rq0
  case hq0 => (intro w hSw; (try dsimp only at hSw); go_simp; try with_reducible rfl)
  try simp only [Act.put, List.setIfInBounds_toArray, List.set_cons_zero, List.set_cons_succ]
  refine wpAnyH_take (i := 1) (oi := { dst := some 59, op := Op.move (Operand.tmp 1), type := 3, pos := "ref.go:102", after := #[], guard := none }) (v := ?vq1) rfl (by kernel_rfl) (by kernel_rfl) (by kernel_rfl) (fun _ _ _ h => h) (Or.inl ⟨by rfl, ?hq1⟩) (by assumption) ?rq1
  case hq1 => (intro w hSw; (try dsimp only at hSw); go_simp; try with_reducible rfl)
  try simp only [Act.put, List.setIfInBounds_toArray, List.set_cons_zero, List.set_cons_succ]
  refine wpAnyH_take (i := 2) (oi := { dst := some 60, op := Op.binOp BinOp.add 3 (Operand.tmp 59) (Operand.const (Value.int IntKind.i64 1)) 3, type := 3, pos := "ref.go:102", after := #[{ on := 1, ground := Ground.data }], guard := none }) (v := ?vq2) rfl (by kernel_rfl) (by kernel_rfl) (by kernel_rfl) (fun _ _ _ h => h) (Or.inl ⟨by rfl, ?hq2⟩) (by assumption) ?rq2
  case hq2 => (intro w hSw; (try dsimp only at hSw); go_simp; try with_reducible rfl)
  try simp only [Act.put, List.setIfInBounds_toArray, List.set_cons_zero, List.set_cons_succ]
  refine wpAnyH_take (i := 3) (oi := { dst := some 61, op := Op.index 9 (Operand.tmp 58) (Operand.tmp 60), type := 5, pos := "ref.go:102", after := #[{ on := 0, ground := Ground.data }, { on := 2, ground := Ground.data }], guard := none }) (v := ?vq3) rfl (by kernel_rfl) (by kernel_rfl) (by kernel_rfl) (fun _ _ _ h => h) (Or.inl ⟨by rfl, ?hq3⟩) (by assumption) ?rq3
  case hq3 => (intro w hSw; (try dsimp only at hSw); go_simp; try with_reducible rfl)
  try simp only [Act.put, List.setIfInBounds_toArray, List.set_cons_zero, List.set_cons_succ]
  refine wpAnyH_take (i := 4) (oi := { dst := some 62, op := Op.convert 5 3 (Operand.tmp 61), type := 3, pos := "ref.go:102", after := #[{ on := 3, ground := Ground.data }], guard := none }) (v := ?vq4) rfl (by kernel_rfl) (by kernel_rfl) (by kernel_rfl) (fun _ _ _ h => h) (Or.inl ⟨by rfl, ?hq4⟩) (by assumption) ?rq4
  case hq4 => (intro w hSw; (try dsimp only at hSw); go_simp; try with_reducible rfl)
  try simp only [Act.put, List.setIfInBounds_toArray, List.set_cons_zero, List.set_cons_succ]
  refine wpAnyH_take (i := 5) (oi := { dst := some 63, op := Op.move (Operand.tmp 0), type := 9, pos := "ref.go:102", after := #[], guard := none }) (v := ?vq5) rfl (by kernel_rfl) (by kernel_rfl) (by kernel_rfl) (fun _ _ _ h => h) (Or.inl ⟨by rfl, ?hq5⟩) (by assumption) ?rq5
  case hq5 => (intro w hSw; (try dsimp only at hSw); go_simp; try with_reducible rfl)
  try simp only [Act.put, List.setIfInBounds_toArray, List.set_cons_zero, List.set_cons_succ]
  refine wpAnyH_take (i := 6) (oi := { dst := some 64, op := Op.move (Operand.tmp 1), type := 3, pos := "ref.go:102", after := #[], guard := none }) (v := ?vq6) rfl (by kernel_rfl) (by kernel_rfl) (by kernel_rfl) (fun _ _ _ h => h) (Or.inl ⟨by rfl, ?hq6⟩) (by assumption) ?rq6
  case hq6 => (intro w hSw; (try dsimp only at hSw); go_simp; try with_reducible rfl)
  try simp only [Act.put, List.setIfInBounds_toArray, List.set_cons_zero, List.set_cons_succ]
  refine wpAnyH_take (i := 7) (oi := { dst := some 65, op := Op.binOp BinOp.add 3 (Operand.tmp 64) (Operand.const (Value.int IntKind.i64 1)) 3, type := 3, pos := "ref.go:102", after := #[{ on := 6, ground := Ground.data }], guard := none }) (v := ?vq7) rfl (by kernel_rfl) (by kernel_rfl) (by kernel_rfl) (fun _ _ _ h => h) (Or.inl ⟨by rfl, ?hq7⟩) (by assumption) ?rq7
  case hq7 => (intro w hSw; (try dsimp only at hSw); go_simp; try with_reducible rfl)
  try simp only [Act.put, List.setIfInBounds_toArray, List.set_cons_zero, List.set_cons_succ]
  refine wpAnyH_take (i := 8) (oi := { dst := some 66, op := Op.index 9 (Operand.tmp 63) (Operand.tmp 65), type := 5, pos := "ref.go:102", after := #[{ on := 5, ground := Ground.data }, { on := 7, ground := Ground.data }], guard := none }) (v := ?vq8) rfl (by kernel_rfl) (by kernel_rfl) (by kernel_rfl) (fun _ _ _ h => h) (Or.inl ⟨by rfl, ?hq8⟩) (by assumption) ?rq8
  case hq8 => (intro w hSw; (try dsimp only at hSw); go_simp; try with_reducible rfl)
  try simp only [Act.put, List.setIfInBounds_toArray, List.set_cons_zero, List.set_cons_succ]
  refine wpAnyH_take (i := 9) (oi := { dst := some 67, op := Op.convert 5 3 (Operand.tmp 66), type := 3, pos := "ref.go:102", after := #[{ on := 8, ground := Ground.data }], guard := none }) (v := ?vq9) rfl (by kernel_rfl) (by kernel_rfl) (by kernel_rfl) (fun _ _ _ h => h) (Or.inl ⟨by rfl, ?hq9⟩) (by assumption) ?rq9
  case hq9 => (intro w hSw; (try dsimp only at hSw); go_simp; try with_reducible rfl)
  try simp only [Act.put, List.setIfInBounds_toArray, List.set_cons_zero, List.set_cons_succ]
  refine wpAnyH_take (i := 10) (oi := { dst := some 68, op := Op.move (Operand.tmp 0), type := 9, pos := "ref.go:102", after := #[], guard := none }) (v := ?vq10) rfl (by kernel_rfl) (by kernel_rfl) (by kernel_rfl) (fun _ _ _ h => h) (Or.inl ⟨by rfl, ?hq10⟩) (by assumption) ?rq10
  case hq10 => (intro w hSw; (try dsimp only at hSw); go_simp; try with_reducible rfl)
  try simp only [Act.put, List.setIfInBounds_toArray, List.set_cons_zero, List.set_cons_succ]
  refine wpAnyH_take (i := 11) (oi := { dst := some 69, op := Op.move (Operand.tmp 1), type := 3, pos := "ref.go:102", after := #[], guard := none }) (v := ?vq11) rfl (by kernel_rfl) (by kernel_rfl) (by kernel_rfl) (fun _ _ _ h => h) (Or.inl ⟨by rfl, ?hq11⟩) (by assumption) ?rq11
  case hq11 => (intro w hSw; (try dsimp only at hSw); go_simp; try with_reducible rfl)
  try simp only [Act.put, List.setIfInBounds_toArray, List.set_cons_zero, List.set_cons_succ]
  refine wpAnyH_take (i := 12) (oi := { dst := some 70, op := Op.binOp BinOp.add 3 (Operand.tmp 69) (Operand.const (Value.int IntKind.i64 1)) 3, type := 3, pos := "ref.go:102", after := #[{ on := 11, ground := Ground.data }], guard := none }) (v := ?vq12) rfl (by kernel_rfl) (by kernel_rfl) (by kernel_rfl) (fun _ _ _ h => h) (Or.inl ⟨by rfl, ?hq12⟩) (by assumption) ?rq12
  case hq12 => (intro w hSw; (try dsimp only at hSw); go_simp; try with_reducible rfl)
  try simp only [Act.put, List.setIfInBounds_toArray, List.set_cons_zero, List.set_cons_succ]
  refine wpAnyH_take (i := 13) (oi := { dst := some 71, op := Op.index 9 (Operand.tmp 68) (Operand.tmp 70), type := 5, pos := "ref.go:102", after := #[{ on := 10, ground := Ground.data }, { on := 12, ground := Ground.data }], guard := none }) (v := ?vq13) rfl (by kernel_rfl) (by kernel_rfl) (by kernel_rfl) (fun _ _ _ h => h) (Or.inl ⟨by rfl, ?hq13⟩) (by assumption) ?rq13
  case hq13 => (intro w hSw; (try dsimp only at hSw); go_simp; try with_reducible rfl)
  try simp only [Act.put, List.setIfInBounds_toArray, List.set_cons_zero, List.set_cons_succ]
  refine wpAnyH_take (i := 14) (oi := { dst := some 72, op := Op.convert 5 3 (Operand.tmp 71), type := 3, pos := "ref.go:102", after := #[{ on := 13, ground := Ground.data }], guard := none }) (v := ?vq14) rfl (by kernel_rfl) (by kernel_rfl) (by kernel_rfl) (fun _ _ _ h => h) (Or.inl ⟨by rfl, ?hq14⟩) (by assumption) ?rq14
  case hq14 => (intro w hSw; (try dsimp only at hSw); go_simp; try with_reducible rfl)
  try simp only [Act.put, List.setIfInBounds_toArray, List.set_cons_zero, List.set_cons_succ]
  refine wpAnyH_take (i := 16) (oi := { dst := some 74, op := Op.move (Operand.tmp 1), type := 3, pos := "ref.go:102", after := #[{ on := 19, ground := Ground.gcOnly Departure.lateStores }], guard := none }) (v := ?vq16) rfl (by kernel_rfl) (by kernel_rfl) (by kernel_rfl) (fun _ _ _ h => h) (Or.inl ⟨by rfl, ?hq16⟩) (by assumption) ?rq16
  case hq16 => (intro w hSw; (try dsimp only at hSw); go_simp; try with_reducible rfl)
  try simp only [Act.put, List.setIfInBounds_toArray, List.set_cons_zero, List.set_cons_succ]
  refine wpAnyH_take (i := 17) (oi := { dst := some 75, op := Op.binOp BinOp.add 3 (Operand.tmp 74) (Operand.const (Value.int IntKind.i64 2)) 3, type := 3, pos := "ref.go:102", after := #[{ on := 16, ground := Ground.data }, { on := 19, ground := Ground.gcOnly Departure.lateStores }], guard := none }) (v := ?vq17) rfl (by kernel_rfl) (by kernel_rfl) (by kernel_rfl) (fun _ _ _ h => h) (Or.inl ⟨by rfl, ?hq17⟩) (by assumption) ?rq17
  case hq17 => (intro w hSw; (try dsimp only at hSw); go_simp; try with_reducible rfl)
  try simp only [Act.put, List.setIfInBounds_toArray, List.set_cons_zero, List.set_cons_succ]
  refine wpAnyH_ready (rs := [15]) (by kernel_rfl) (by simp) ?_
  refine AllReadyH.cons (o := { dst := some 73, op := Op.call { callee := Callee.value (Operand.func 51), args := #[Operand.tmp 67, Operand.tmp 72], argTypes := #[3, 3] }, type := 9, pos := "ref.go:102", after := #[{ on := 9, ground := Ground.data }, { on := 14, ground := Ground.data }], guard := none }) rfl (fun K hK => ?_) AllReadyH.nil
  go_simp
  (go_at_call 51; refine (refSpan_any s[at_ + 1].toNat s[at_ + 1].toNat (UInt8.toNat_lt _) (w1.drewN 1)).mono ?_; rintro e w2 ⟨rfl, hb2⟩; have hB : Below w1.heap.size w1 w2 := (below_draws w1 1).trans hb2)
  go_wp2_with fail
  refine hK.out _ _ ?_ (fun hHeld => ?_)
  · exact hB
  clear hK K
  try simp only [Act.put, List.setIfInBounds_toArray, List.set_cons_zero, List.set_cons_succ]
  refine wpAnyH_take (i := 18) (oi := { dst := some 4, op := Op.assign (Operand.tmp 62), type := 3, pos := "ref.go:102", after := #[{ on := 4, ground := Ground.data }, { on := 15, ground := Ground.chain }, { on := 0, ground := Ground.phase }, { on := 1, ground := Ground.phase }, { on := 2, ground := Ground.phase }, { on := 3, ground := Ground.phase }, { on := 4, ground := Ground.phase }, { on := 5, ground := Ground.textOnly Departure.lateStores }, { on := 6, ground := Ground.textOnly Departure.lateStores }, { on := 7, ground := Ground.textOnly Departure.lateStores }, { on := 8, ground := Ground.textOnly Departure.lateStores }, { on := 9, ground := Ground.textOnly Departure.lateStores }, { on := 10, ground := Ground.textOnly Departure.lateStores }, { on := 11, ground := Ground.textOnly Departure.lateStores }, { on := 12, ground := Ground.textOnly Departure.lateStores }, { on := 13, ground := Ground.textOnly Departure.lateStores }, { on := 14, ground := Ground.textOnly Departure.lateStores }, { on := 15, ground := Ground.textOnly Departure.lateStoresUnsure }, { on := 16, ground := Ground.textOnly Departure.lateStores }, { on := 17, ground := Ground.textOnly Departure.lateStores }], guard := none }) (v := ?vq18) rfl (by kernel_rfl) (by kernel_rfl) (by kernel_rfl) (fun _ _ _ h => h) (Or.inl ⟨by rfl, ?hq18⟩) (by assumption) ?rq18
  case hq18 => (intro w hSw; (try dsimp only at hSw); go_simp; try with_reducible rfl)
  try simp only [Act.put, List.setIfInBounds_toArray, List.set_cons_zero, List.set_cons_succ]
  refine wpAnyH_take (i := 19) (oi := { dst := some 5, op := Op.assign (Operand.tmp 73), type := 9, pos := "ref.go:102", after := #[{ on := 15, ground := Ground.data }, { on := 18, ground := Ground.chain }, { on := 0, ground := Ground.phase }, { on := 1, ground := Ground.phase }, { on := 2, ground := Ground.phase }, { on := 3, ground := Ground.phase }, { on := 4, ground := Ground.phase }, { on := 5, ground := Ground.phase }, { on := 6, ground := Ground.phase }, { on := 7, ground := Ground.phase }, { on := 8, ground := Ground.phase }, { on := 9, ground := Ground.phase }, { on := 10, ground := Ground.phase }, { on := 11, ground := Ground.phase }, { on := 12, ground := Ground.phase }, { on := 13, ground := Ground.phase }, { on := 14, ground := Ground.phase }, { on := 15, ground := Ground.phase }, { on := 16, ground := Ground.textOnly Departure.lateStores }, { on := 17, ground := Ground.textOnly Departure.lateStores }, { on := 18, ground := Ground.phase }], guard := none }) (v := ?vq19) rfl (by kernel_rfl) (by kernel_rfl) (by kernel_rfl) (fun _ _ _ h => h) (Or.inl ⟨by rfl, ?hq19⟩) (by assumption) ?rq19
  case hq19 => (intro w hSw; (try dsimp only at hSw); go_simp; try with_reducible rfl)
  try simp only [Act.put, List.setIfInBounds_toArray, List.set_cons_zero, List.set_cons_succ]
  refine wpAnyH_take (i := 20) (oi := { dst := some 6, op := Op.assign (Operand.tmp 75), type := 3, pos := "ref.go:102", after := #[{ on := 17, ground := Ground.data }, { on := 19, ground := Ground.chain }, { on := 0, ground := Ground.phase }, { on := 1, ground := Ground.phase }, { on := 2, ground := Ground.phase }, { on := 3, ground := Ground.phase }, { on := 4, ground := Ground.phase }, { on := 5, ground := Ground.phase }, { on := 6, ground := Ground.phase }, { on := 7, ground := Ground.phase }, { on := 8, ground := Ground.phase }, { on := 9, ground := Ground.phase }, { on := 10, ground := Ground.phase }, { on := 11, ground := Ground.phase }, { on := 12, ground := Ground.phase }, { on := 13, ground := Ground.phase }, { on := 14, ground := Ground.phase }, { on := 15, ground := Ground.phase }, { on := 16, ground := Ground.phase }, { on := 17, ground := Ground.phase }, { on := 18, ground := Ground.phase }, { on := 19, ground := Ground.phase }], guard := none }) (v := ?vq20) rfl (by kernel_rfl) (by kernel_rfl) (by kernel_rfl) (fun _ _ _ h => h) (Or.inl ⟨by rfl, ?hq20⟩) (by assumption) ?rq20
  case hq20 => (intro w hSw; (try dsimp only at hSw); go_simp; try with_reducible rfl)
  try simp only [Act.put, List.setIfInBounds_toArray, List.set_cons_zero, List.set_cons_succ]
  refine wpAnyH_take (i := 21) (oi := { dst := some 7, op := Op.assign (Operand.const (Value.int IntKind.i64 0)), type := 3, pos := "ref.go:102", after := #[{ on := 20, ground := Ground.chain }, { on := 0, ground := Ground.phase }, { on := 1, ground := Ground.phase }, { on := 2, ground := Ground.phase }, { on := 3, ground := Ground.phase }, { on := 4, ground := Ground.phase }, { on := 5, ground := Ground.phase }, { on := 6, ground := Ground.phase }, { on := 7, ground := Ground.phase }, { on := 8, ground := Ground.phase }, { on := 9, ground := Ground.phase }, { on := 10, ground := Ground.phase }, { on := 11, ground := Ground.phase }, { on := 12, ground := Ground.phase }, { on := 13, ground := Ground.phase }, { on := 14, ground := Ground.phase }, { on := 15, ground := Ground.phase }, { on := 16, ground := Ground.phase }, { on := 17, ground := Ground.phase }, { on := 18, ground := Ground.phase }, { on := 19, ground := Ground.phase }, { on := 20, ground := Ground.phase }], guard := none }) (v := ?vq21) rfl (by kernel_rfl) (by kernel_rfl) (by kernel_rfl) (fun _ _ _ h => h) (Or.inl ⟨by rfl, ?hq21⟩) (by assumption) ?rq21
  case hq21 => (intro w hSw; (try dsimp only at hSw); go_simp; try with_reducible rfl)
  try simp only [Act.put, List.setIfInBounds_toArray, List.set_cons_zero, List.set_cons_succ]
  refine wpAnyH_done (by kernel_rfl) ?_ _
  go_wp2_with fail
  refine bodyPost_ret (res4 rfl _ _ _) rfl ?_
  exact ⟨rfl, on HB1.out hB⟩
theorem next_any (hs : s.size ≤ 900) : Calls Tryz.prog 52 #[.string s, .int .i64 at_] w (NextTo w (nextV at_ (one (s.data.toList.drop at_)))) := by
  by_cases hat : at_ < s.size
  · rw [one_at hat]
    by_cases h92 : s[at_] = 92
    · rw [if_pos h92]
      by_cases hl : at_ + 1 < s.size
      · rw [dif_pos hl]
        cases hlet : letter s[at_ + 1] with
        | true => exact next_letter hs hat h92 hl hlet
        | false => exact next_escaped hs hat h92 hl hlet
      · rw [dif_neg hl]; exact next_last hs hat h92 hl
    · rw [if_neg h92]; exact next_plain hs hat h92
  · rw [Kit.drop_end s at_ hat]; exact next_end hat
end
end Go.Proofs.YtenlogfiabhfmaaGreatDoor.W13
