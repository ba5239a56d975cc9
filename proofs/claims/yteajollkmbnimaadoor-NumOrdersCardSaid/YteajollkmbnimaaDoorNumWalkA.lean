/-
  Layer 1 (num), walks: isDigit, digitsAhead, and the plain answers run, digits: what each returns, at every argument; the world as it was, or with draws alone.
-/
import Derived.Test.YteajollkmbnimaaDoorNumOrder
import Derived.Test.YteajollkmbnimaaDoorChecked
import Derived.WalkKit
import Derived.WalkSpells
import Derived.WalkLawsBesides
import Derived.Deep.QuietTactic
import Derived.BigQuiet
import Derived.Lib.Hide
namespace Go.Proofs.YteajollkmbnimaaDoor.NumW
open Go Go.RowKit Go.Proofs.YteajollkmbnimaaDoor.NumM

theorem ret_int {k : IntKind} {a b : Int} (h : a = b) : Ending.returned (.int k a) = .returned (.int k b) := by rw [h]
theorem ret_bool {a b : Bool} (h : a = b) : Ending.returned (.bool a) = .returned (.bool b) := by rw [h]

set_option maxHeartbeats 400000 in
theorem isDigit_any (c : UInt8) (w : World) : Calls Tryd.prog 31 #[.int .u8 (c.toNat : Int)] w fun e w' => e = .returned (.bool (dig c)) ∧ w' = w := by
  by_cases h1 : (48 : Int) ≤ (c.toNat : Int)
  · by_cases h2 : (c.toNat : Int) ≤ 57
    · go_enter Tryd.func31, Tryd.ntmps31
      go_wp2
      go_ret
      exact ⟨ret_bool (by simp [dig]; omega), rfl⟩
    · go_enter Tryd.func31, Tryd.ntmps31
      go_wp2
      go_ret
      exact ⟨ret_bool (by simp [dig]; omega), rfl⟩
  · go_enter Tryd.func31, Tryd.ntmps31
    go_wp2
    go_ret
    exact ⟨ret_bool (by simp [dig]; omega), rfl⟩

theorem isDigit_yes (c : UInt8) (h : dig c = true) (w : World) : Calls Tryd.prog 31 #[.int .u8 (c.toNat : Int)] w fun e w' => e = .returned (.bool true) ∧ w' = w := by
  rw [← h]; exact isDigit_any c w
theorem isDigit_no (c : UInt8) (h : dig c = false) (w : World) : Calls Tryd.prog 31 #[.int .u8 (c.toNat : Int)] w fun e w' => e = .returned (.bool false) ∧ w' = w := by
  rw [← h]; exact isDigit_any c w
theorem byte_get (s : ByteArray) (k : Nat) (h : k < s.size) : s.data.toList.getD k 0 = s[k] := by
  have h2 : k < s.data.toList.length := by rw [← Lib.size_eq]; exact h
  rw [List.getD_eq_getElem?_getD, List.getElem?_eq_getElem h2]
  rfl

theorem run_done {s : ByteArray} {k : Nat} (h0 : k ≤ s.size) (h1 : ∀ j, j < k → dig (s.data.toList.getD j 0) = true) (h2 : k < s.size → dig (s.data.toList.getD k 0) = false) : run s.data.toList = k :=
  run_of_prefix _ k (by rw [← Lib.size_eq]; exact h0) h1 (fun h => h2 (by rw [Lib.size_eq]; exact h))

set_option maxHeartbeats 400000 in
theorem digitsAhead_any (s : ByteArray) (hs : s.size ≤ maxLen) (w : World) :
    Calls Tryd.prog 27 #[.string s] w fun e w' => e = .returned (.int .i64 (run s.data.toList)) ∧ w' = w := by
  unfold maxLen at hs
  go_enter Tryd.func27, Tryd.ntmps27
  go_wp2
  go_loop [3] (fun i => ∃ k : Nat, k ≤ s.size ∧ i = .int .i64 k ∧ Hid (∀ j, j < k → dig (s.data.toList.getD j 0) = true)) (fun i => s.size - (intOf i).toNat)
  case atStart => exact ⟨0, Nat.zero_le _, rfl, fun j hj => by omega⟩
  case round =>
    obtain ⟨k, hk, rfl, hr⟩ := hrel
    by_cases hlt : k < s.size
    · have hb := byte_get s k hlt
      cases hd : dig s[k] with
      | true =>
        have HD := Lib.hid hd
        have HB := Lib.hid hb
        clear hd hb
        go_wp2_with (go_at_call 31; refine (isDigit_yes _ HD.out _).mono ?_; rintro e w' ⟨rfl, rfl⟩)
        go_round
        case rel => exact ⟨k + 1, by omega, by go_num, fun j hj => by
          by_cases e : j = k
          · rw [e, HB.out]; exact HD.out
          · exact hr.out j (by omega)⟩
        case measure => simp [intOf]; omega
      | false =>
        have HD := Lib.hid hd
        have HB := Lib.hid hb
        clear hd hb
        go_wp2_with (go_at_call 31; refine (isDigit_no _ HD.out _).mono ?_; rintro e w' ⟨rfl, rfl⟩)
        go_ret
        exact ⟨ret_int (by rw [run_done hk hr.out (fun _ => by rw [HB.out]; exact HD.out)]), rfl⟩
    · go_wp2
      go_ret
      exact ⟨ret_int (by rw [run_done hk hr.out (fun h => absurd h hlt)]), rfl⟩
end Go.Proofs.YteajollkmbnimaaDoor.NumW
