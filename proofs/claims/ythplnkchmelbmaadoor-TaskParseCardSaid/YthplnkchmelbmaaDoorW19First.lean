/-
  Layer 19 (task), a walk: the program's firstByte: which byte a word tells first. The conditions stand in the statement.
-/
import Derived.Test.YthplnkchmelbmaaDoorShelf
import Derived.Test.YthplnkchmelbmaaDoorW19Shield
namespace Go.Proofs.YthplnkchmelbmaaDoor.W19
set_option maxRecDepth 100000
open Go Go.RowKit Go.Proofs.YthplnkchmelbmaaDoor.M19
open Go.Proofs.YthplnkchmelbmaaDoor.Kit (ret_str ret_bool ret_int mk_of mk_bytes ba_ext below_draws on)

theorem index_digit (c : UInt8) : Lib.indexByte [48, 49, 50, 51, 52, 53, 54, 55, 56, 57, 65, 66, 67, 68, 69, 70] c = digZ c := by
  have := all_bytes (p := fun c => decide (Lib.indexByte [48, 49, 50, 51, 52, 53, 54, 55, 56, 57, 65, 66, 67, 68, 69, 70] c = digZ c)) (by decide +kernel) c
  exact of_decide_eq_true this
theorem digit_at (c : UInt8) (w : World) : Calls Tryd.prog 38 #[.string ⟨#[48, 49, 50, 51, 52, 53, 54, 55, 56, 57, 65, 66, 67, 68, 69, 70]⟩, .int .u8 (c.toNat : Int)] w fun e w' => e = .returned (.int .i64 (digZ c)) ∧ w' = w := by
  have := Tryd.strings_IndexByte ⟨#[48, 49, 50, 51, 52, 53, 54, 55, 56, 57, 65, 66, 67, 68, 69, 70]⟩ (c.toNat : Int) w
  rw [show ((c.toNat : Int)).toNat.toUInt8 = c by simp, show (⟨#[48, 49, 50, 51, 52, 53, 54, 55, 56, 57, 65, 66, 67, 68, 69, 70]⟩ : ByteArray).data.toList = [48, 49, 50, 51, 52, 53, 54, 55, 56, 57, 65, 66, 67, 68, 69, 70] from rfl, index_digit] at this
  exact this
/-- what firstByte answers -/
def one (o : Option (UInt8 × Nat)) : Value := match o with
  | some (c, n) => .tuple #[.int .u8 (c.toNat : Int), .int .i64 (n : Int)]
  | none => .tuple #[.int .u8 0, .int .i64 0]
theorem dig_none {c : UInt8} (h : dig c = none) : digZ c = -1 := by unfold digZ; rw [h]
theorem dig_some {c : UInt8} {n : Nat} (h : dig c = some n) : digZ c = (n : Int) := by unfold digZ; rw [h]
section
variable {s : ByteArray}
theorem list_three (h : 2 < s.size) : ∃ r, s.data.toList = s[0] :: s[1] :: s[2] :: r :=
  ⟨s.data.toList.drop 3, by
    have e := Kit.drop_next s 0 (by omega)
    rw [List.drop_zero] at e
    exact e.trans (congrArg _ ((Kit.drop_next s 1 (by omega)).trans (congrArg _ (Kit.drop_next s 2 (by omega)))))⟩
theorem list_one (h : 0 < s.size) : ∃ r, s.data.toList = s[0] :: r := ⟨s.data.toList.drop 1, by
    have e := Kit.drop_next s 0 h
    rwa [List.drop_zero] at e⟩
theorem one_plain (h : 0 < s.size) (hp : plain s[0] = true) : one (first s.data.toList) = .tuple #[.int .u8 (s[0].toNat : Int), .int .i64 1] := by
  obtain ⟨r, e⟩ := list_one h
  rw [e, first_plain hp]; rfl
theorem one_no (h : 0 < s.size) (hp : plain s[0] = false) (h37 : ¬ s[0] = 37) : one (first s.data.toList) = .tuple #[.int .u8 0, .int .i64 0] := by
  obtain ⟨r, e⟩ := list_one h
  rw [e, first_no hp h37]; rfl
theorem one_short (h : 0 < s.size) (h37 : s[0] = 37) (h3 : s.size < 3) : one (first s.data.toList) = .tuple #[.int .u8 0, .int .i64 0] := by
  obtain ⟨r, e⟩ := list_one h
  have hl : s.data.toList.length < 3 := by rw [← Lib.size_eq]; exact h3
  rw [e] at hl ⊢
  rw [h37, first_sign]
  match r, hl with
  | [], _ | [_], _ => rfl
theorem one_hexed (h : 2 < s.size) (h37 : s[0] = 37) : one (first s.data.toList) = one ((hexed s[1] s[2]).map fun x => (x, 3)) := by
  obtain ⟨r, e⟩ := list_three h
  rw [e, h37, first_sign]; rfl
end
set_option maxHeartbeats 1000000 in
theorem first_any (s : ByteArray) (h0 : 0 < s.size) (w : World) : Calls Tryd.prog 28 #[.string s] w fun e w' => e = .returned (one (first s.data.toList)) ∧ ∃ n, w' = w.drewN n := by
  have hi0 : (0 : Int) < s.size := by omega
  have HP0 := Lib.hid (fun w => plain_any s[0] w)
  cases hp : plain s[0] with
  | true =>
    rw [hp] at HP0
    rw [one_plain h0 hp]
    clear hp
    go_enter Tryd.func28, Tryd.ntmps28
    go_wp2_with fail
    refine (HP0.out _).mono ?_
    rintro e w1 ⟨rfl, rfl⟩
    go_wp2_with fail
    go_ret2
    exact ⟨rfl, 0, rfl⟩
  | false =>
    rw [hp] at HP0
    by_cases h37 : s[0] = 37
    · have t37 : ((s[0].toNat : Int) != 37) = false := by rw [h37]; rfl
      by_cases h3 : s.size < 3
      · rw [one_short h0 h37 h3]
        clear hp h37
        go_enter Tryd.func28, Tryd.ntmps28
        go_wp2_with fail
        refine (HP0.out _).mono ?_
        rintro e w1 ⟨rfl, rfl⟩
        go_wp2_with fail
        go_ret2
        exact ⟨rfl, 0, rfl⟩
      · have hi2 : (2 : Int) < s.size := by omega
        have hi1 : (1 : Int) < s.size := by omega
        have hi3 : ¬ (s.size : Int) < 3 := by omega
        rw [one_hexed (by omega) h37]
        have H1 := Lib.hid (fun w => digit_at (s[1]'(by omega)) w)
        have H2 := Lib.hid (fun w => digit_at (s[2]'(by omega)) w)
        clear hp h37
        cases d1 : dig (s[1]'(by omega)) with
        | none =>
          rw [dig_none d1] at H1
          have HR : one ((hexed (s[1]'(by omega)) (s[2]'(by omega))).map fun x => (x, 3)) = .tuple #[.int .u8 0, .int .i64 0] := by unfold hexed; rw [d1]; rfl
          rw [HR]
          clear HR d1
          generalize digZ (s[2]'(by omega)) = z2 at H2
          go_enter Tryd.func28, Tryd.ntmps28
          go_wp2_with fail
          refine (HP0.out _).mono ?_
          rintro e w1 ⟨rfl, rfl⟩
          go_wp2_with fail
          go_quiet (first | exact Calls.quiet_of_same (H1.out _) | exact Calls.quiet_of_same (H2.out _))
          go_wp2_with fail
          go_ret2
          exact ⟨rfl, nq, rfl⟩
        | some x =>
          rw [dig_some d1] at H1
          have hx := (dig_hex _ _ d1).1
          cases d2 : dig (s[2]'(by omega)) with
          | none =>
            rw [dig_none d2] at H2
            have HR : one ((hexed (s[1]'(by omega)) (s[2]'(by omega))).map fun x => (x, 3)) = .tuple #[.int .u8 0, .int .i64 0] := by unfold hexed; rw [d1, d2]; rfl
            rw [HR]
            clear HR d1 d2
            go_enter Tryd.func28, Tryd.ntmps28
            go_wp2_with fail
            refine (HP0.out _).mono ?_
            rintro e w1 ⟨rfl, rfl⟩
            go_wp2_with fail
            go_quiet (first | exact Calls.quiet_of_same (H1.out _) | exact Calls.quiet_of_same (H2.out _))
            go_wp2_with fail
            go_ret2
            exact ⟨rfl, nq, rfl⟩
          | some y =>
            rw [dig_some d2] at H2
            have hy := (dig_hex _ _ d2).1
            obtain ⟨c, hc⟩ : ∃ c : UInt8, c = UInt8.ofNat (16 * x + y) := ⟨_, rfl⟩
            have HX : hexed (s[1]'(by omega)) (s[2]'(by omega)) = if plain c then none else some c := by unfold hexed; rw [d1, d2, hc]
            have hw : IntKind.u8.wrap (16 * (x : Int) + (y : Int)) = (c.toNat : Int) := by
              rw [wrap_small (by omega) (by omega), hc, UInt8.toNat_ofNat']; omega
            have HPC := Lib.hid (fun w => plain_any c w)
            rw [HX]
            clear HX d1 d2 hc
            cases hp : plain c with
            | true =>
              rw [hp] at HPC
              clear hp
              go_enter Tryd.func28, Tryd.ntmps28
              go_wp2_with fail
              refine (HP0.out _).mono ?_
              rintro e w1 ⟨rfl, rfl⟩
              go_wp2_with fail
              go_quiet (first | exact Calls.quiet_of_same (H1.out _) | exact Calls.quiet_of_same (H2.out _))
              go_wp2_with fail
              refine (HPC.out _).mono ?_
              rintro e w3 ⟨rfl, rfl⟩
              go_wp2_with fail
              go_ret2
              exact ⟨rfl, nq, rfl⟩
            | false =>
              rw [hp] at HPC
              clear hp
              go_enter Tryd.func28, Tryd.ntmps28
              go_wp2_with fail
              refine (HP0.out _).mono ?_
              rintro e w1 ⟨rfl, rfl⟩
              go_wp2_with fail
              go_quiet (first | exact Calls.quiet_of_same (H1.out _) | exact Calls.quiet_of_same (H2.out _))
              go_wp2_with fail
              refine (HPC.out _).mono ?_
              rintro e w3 ⟨rfl, rfl⟩
              go_wp2_with fail
              go_ret2
              exact ⟨rfl, nq, rfl⟩
    · have t37 : ((s[0].toNat : Int) != 37) = true := by
        have := Kit.byte_test s[0] 37
        simp [h37] at this ⊢
        exact this
      rw [one_no h0 hp h37]
      clear hp h37
      go_enter Tryd.func28, Tryd.ntmps28
      go_wp2_with fail
      refine (HP0.out _).mono ?_
      rintro e w1 ⟨rfl, rfl⟩
      go_wp2_with fail
      go_ret2
      exact ⟨rfl, 0, rfl⟩
end Go.Proofs.YthplnkchmelbmaaDoor.W19
