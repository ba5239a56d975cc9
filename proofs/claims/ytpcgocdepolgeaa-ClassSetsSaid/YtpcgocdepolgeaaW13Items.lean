/-
  Layer 13 (class), walks of the program's functions that read a set's text: one byte, an item, the items, Parse. The conditions stand in the statements.
-/
import Derived.Test.YtpcgocdepolgeaaW13Sets
namespace Go.Proofs.Ytpcgocdepolgeaa.W13
set_option maxRecDepth 100000
open Go Go.RowKit Go.Proofs.Ytpcgocdepolgeaa.M13 Go.Proofs.Ytpcgocdepolgeaa.Row256
open Go.Proofs.Ytpcgocdepolgeaa.Kit (ret_str ret_bool ret_int mk_of mk_bytes ba_ext below_draws on list_full list_ne list_none list_nil bytes_nil bytes_cons)

def oneV (r : UInt8 × Nat × Bool) : Value := .tuple #[.int .u8 r.1.toNat, .int .i64 r.2.1, .bool r.2.2]
theorem bytes_two {s : ByteArray} (h : 1 < s.size) : s.data.toList = s[0] :: s[1] :: s.data.toList.drop 2 := by
  rw [← Kit.drop_next s 1 h]
  conv => lhs; rw [← List.drop_zero (l := s.data.toList), Kit.drop_next s 0 (by omega)]
theorem one_bytes {s : ByteArray} (h0 : 0 < s.size) (h : ¬ 1 < s.size) : s.data.toList = [s[0]] := by
  conv => lhs; rw [← List.drop_zero (l := s.data.toList), Kit.drop_next s 0 h0]
  rw [Kit.drop_end s 1 h]
set_option maxHeartbeats 1000000 in
theorem one_any (s : ByteArray) (w : World) : Calls Try.prog 45 #[.string s] w fun e w' => e = .returned (oneV (one s.data.toList)) ∧ Below w.heap.size w w' := by
  by_cases h0 : 0 < s.size
  · have hl := list_full h0
    by_cases h1 : s[0] = 92
    · by_cases h2 : 1 < s.size
      · have hb : (s.toList == [92]) = false := by rw [Lib.toList_data, bytes_two h2]; simp
        have HV : Hid (one s.data.toList = (s[1], 2, letter s[1])) := by
          unfold Hid
          rw [bytes_two h2, h1]; rfl
        have t1 : ((s[0].toNat : Int) == 92) = true := by rw [h1]; rfl
        clear h1
        go_enter Try.func45, Try.ntmps45
        go_wp2_with fail
        have hi2 : (1 : Int) < (s.size : Int) := by omega
        go_quiet ((go_at_call 20; exact Calls.quiet_of_same (isLetter_any _ _)))
        go_wp2_with fail
        refine bodyPost_ret (results_tmp3 rfl _ _ _) rfl ?_
        exact ⟨by rw [HV.out]; rfl, below_draws w nq⟩
      · have hb : (s.toList == [92]) = true := by rw [Lib.toList_data, one_bytes h0 h2, h1]; rfl
        have HV : Hid (one s.data.toList = (0, 0, false)) := by
          unfold Hid
          rw [one_bytes h0 h2, h1]; rfl
        clear h1
        go_enter Try.func45, Try.ntmps45
        go_wp2_with fail
        refine bodyPost_ret (results_tmp3 rfl _ _ _) rfl ?_
        exact ⟨by rw [HV.out]; rfl, Below.refl _ _⟩
    · have hb : (s.toList == [92]) = false := by rw [Lib.toList_data, bytes_cons h0]; simp [h1]
      have HV : Hid (one s.data.toList = (s[0], 1, false)) := by
        unfold Hid
        rw [bytes_cons h0]; unfold one; simp only [if_neg h1]
      have t1 : ((s[0].toNat : Int) == 92) = false := by
        rw [show (92 : Int) = ((92 : UInt8).toNat : Int) from rfl, Kit.byte_test, decide_eq_false h1]
      clear h1
      go_enter Try.func45, Try.ntmps45
      go_wp2_with fail
      refine bodyPost_ret (results_tmp3 rfl _ _ _) rfl ?_
      exact ⟨by rw [HV.out]; rfl, Below.refl _ _⟩
  · have hl := list_none h0
    have HV : Hid (one s.data.toList = (0, 0, false)) := by
      unfold Hid
      rw [bytes_nil h0]; rfl
    go_enter Try.func45, Try.ntmps45
    go_wp2_with fail
    refine bodyPost_ret (results_tmp3 rfl _ _ _) rfl ?_
    exact ⟨by rw [HV.out]; rfl, Below.refl _ _⟩
end Go.Proofs.Ytpcgocdepolgeaa.W13
