/-
  Layer 19 (task), walks over bytes and kinds: standsAsIs, hasText; the document's digit, verb. The conditions stand in the statements.
-/
import Derived.Test.YthplnkchmelbmaaDoorChecked
import Derived.Test.YthplnkchmelbmaaDoorW19Math
import Derived.WalkSpells
import Derived.WalkLawsBesides
namespace Go.Proofs.YthplnkchmelbmaaDoor.W19
set_option maxRecDepth 100000
open Go Go.RowKit Go.Proofs.YthplnkchmelbmaaDoor.M19
open Go.Proofs.YthplnkchmelbmaaDoor.Kit (ret_str ret_bool ret_int mk_of mk_bytes ba_ext below_draws on)

def plainZ (z : Int) : Bool := decide (33 ≤ z) && decide (z ≤ 126) && decide (z ≠ 37)
theorem plain_of (c : UInt8) : plainZ (c.toNat : Int) = plain c := by
  unfold plainZ plain
  congr 1
  · congr 1
    · rw [decide_eq_decide]; omega
    · rw [decide_eq_decide]; omega
  · rw [decide_eq_decide]; omega
set_option maxHeartbeats 400000 in
theorem plainZ_any (z : Int) (w : World) : Calls Tryd.prog 30 #[.int .u8 z] w fun e w' => e = .returned (.bool (plainZ z)) ∧ w' = w := by
  by_cases h1 : 33 ≤ z
  · by_cases h2 : z ≤ 126
    · by_cases h3 : z = 37
      · subst h3
        go_enter Tryd.func30, Tryd.ntmps30
        go_wp2
        go_ret
        exact ⟨ret_bool (by decide), rfl⟩
      · have e : plainZ z = true := by unfold plainZ; simp [h1, h2, h3]
        have t : (z != 37) = true := by simp [h3]
        rw [e]
        go_enter Tryd.func30, Tryd.ntmps30
        go_wp2
        go_ret
        exact ⟨ret_bool (by first | rfl | simp [t]), rfl⟩
    · have e : plainZ z = false := by unfold plainZ; simp [h2]
      rw [e]
      go_enter Tryd.func30, Tryd.ntmps30
      go_wp2
      go_ret
      exact ⟨ret_bool (by first | rfl | simp [h2]), rfl⟩
  · have e : plainZ z = false := by unfold plainZ; simp [h1]
    rw [e]
    go_enter Tryd.func30, Tryd.ntmps30
    go_wp2
    go_ret
    exact ⟨ret_bool (by first | rfl | simp [h1]), rfl⟩
theorem plain_any (c : UInt8) (w : World) : Calls Tryd.prog 30 #[.int .u8 (c.toNat : Int)] w fun e w' => e = .returned (.bool (plain c)) ∧ w' = w := by
  rw [← plain_of]; exact plainZ_any _ w
set_option maxHeartbeats 400000 in
theorem has_any (k : Int) (w : World) : Calls Tryd.prog 21 #[.int .i64 k] w fun e w' => e = .returned (.bool (has k)) ∧ w' = w := by
  by_cases h3 : k = 3
  · subst h3
    go_enter Tryd.func21, Tryd.ntmps21
    go_wp2
    go_ret
    exact ⟨ret_bool (by decide), rfl⟩
  · by_cases h5 : k = 5
    · subst h5
      go_enter Tryd.func21, Tryd.ntmps21
      go_wp2
      go_ret
      exact ⟨ret_bool (by decide), rfl⟩
    · have t3 : (k == 3) = false := by simp [h3]
      have t5 : (k == 5) = false := by simp [h5]
      have e : has k = (k == 6) := by unfold has; rw [t3, t5]; rfl
      rw [e]
      generalize hb : (k == 6) = b
      go_enter Tryd.func21, Tryd.ntmps21
      go_wp2
      go_ret
      exact ⟨ret_bool (by first | rfl | simp [t3, t5]), rfl⟩
/-- the document's digit: -1 where there is none -/
def digZ (c : UInt8) : Int := match dig c with
  | some n => (n : Int)
  | none => -1
set_option maxHeartbeats 400000 in
theorem digit_any (c : UInt8) (w : World) : Calls Tryd.prog 29 #[.int .u8 (c.toNat : Int)] w fun e w' => e = .returned (.int .i64 (digZ c)) ∧ w' = w := by
  have hc := c.toNat_lt
  by_cases h1 : 48 ≤ c.toNat ∧ c.toNat ≤ 57
  · have e : digZ c = (c.toNat : Int) - 48 := by
      unfold digZ dig; rw [if_pos h1]; show ((c.toNat - 48 : Nat) : Int) = _; omega
    rw [e]
    obtain ⟨h1, h2⟩ := h1
    clear e
    generalize c.toNat = n at *
    go_enter Tryd.func29, Tryd.ntmps29
    go_wp2
    go_ret
    exact ⟨ret_int (by go_num), rfl⟩
  · by_cases h2 : 65 ≤ c.toNat ∧ c.toNat ≤ 70
    · have e : digZ c = (c.toNat : Int) - 55 := by
        unfold digZ dig; rw [if_neg h1, if_pos h2]; show ((c.toNat - 55 : Nat) : Int) = _; omega
      rw [e]
      obtain ⟨h3, h4⟩ := h2
      clear e h1
      generalize c.toNat = n at *
      go_enter Tryd.func29, Tryd.ntmps29
      go_wp2
      go_ret
      exact ⟨ret_int (by go_num), rfl⟩
    · have e : digZ c = -1 := by unfold digZ dig; rw [if_neg h1, if_neg h2]
      rw [e]
      clear e
      generalize c.toNat = n at *
      by_cases a1 : n < 48
      · go_enter Tryd.func29, Tryd.ntmps29
        go_wp2
        go_ret
        exact ⟨rfl, rfl⟩
      · by_cases a2 : n < 65
        · have a3 : 57 < n := by omega
          clear h1 h2
          go_enter Tryd.func29, Tryd.ntmps29
          go_wp2
          go_ret
          exact ⟨rfl, rfl⟩
        · have a3 : 70 < n := by omega
          clear h1 h2
          go_enter Tryd.func29, Tryd.ntmps29
          go_wp2
          go_ret
          exact ⟨rfl, rfl⟩
set_option maxHeartbeats 400000 in
theorem verb_any (k : Int) (d : ByteArray) (hd : d.data.toList = verb k) (w : World) : Calls Tryd.prog 26 #[.int .i64 k] w fun e w' => e = .returned (.string d) ∧ w' = w := by
  have hd2 : d = ⟨(verb k).toArray⟩ := ba_ext hd
  clear hd
  subst hd2
  by_cases h1 : k = 1
  · subst h1
    go_enter Tryd.func26, Tryd.ntmps26
    go_wp2
    go_ret
    exact ⟨rfl, rfl⟩
  by_cases h2 : k = 2
  · subst h2
    go_enter Tryd.func26, Tryd.ntmps26
    go_wp2
    go_ret
    exact ⟨rfl, rfl⟩
  by_cases h3 : k = 3
  · subst h3
    go_enter Tryd.func26, Tryd.ntmps26
    go_wp2
    go_ret
    exact ⟨rfl, rfl⟩
  by_cases h4 : k = 4
  · subst h4
    go_enter Tryd.func26, Tryd.ntmps26
    go_wp2
    go_ret
    exact ⟨rfl, rfl⟩
  by_cases h5 : k = 5
  · subst h5
    go_enter Tryd.func26, Tryd.ntmps26
    go_wp2
    go_ret
    exact ⟨rfl, rfl⟩
  have e : verb k = [119, 114, 105, 116, 101] := by unfold verb; rw [if_neg h1, if_neg h2, if_neg h3, if_neg h4, if_neg h5]
  have t1 : (k == 1) = false := by simp [h1]
  have t2 : (k == 2) = false := by simp [h2]
  have t3 : (k == 3) = false := by simp [h3]
  have t4 : (k == 4) = false := by simp [h4]
  have t5 : (k == 5) = false := by simp [h5]
  rw [e]
  clear e
  go_enter Tryd.func26, Tryd.ntmps26
  go_wp2
  go_ret
  exact ⟨rfl, rfl⟩
end Go.Proofs.YthplnkchmelbmaaDoor.W19
