/-
  Layer 3 (name), walks: the plain answers Check, Plain and Find: what each returns at every argument; the world as it was, but for draws.
-/
import Derived.Test.YthplnkchmelbmaaDoorW03Math
import Derived.Test.YthplnkchmelbmaaDoorStrs
import Derived.Test.YthplnkchmelbmaaDoorChecked
import Derived.WalkSpells
import Derived.WalkLawsBesides
import Derived.BigQuiet
namespace Go.Proofs.YthplnkchmelbmaaDoor.W03
set_option maxRecDepth 100000
open Go Go.RowKit Go.Proofs.YthplnkchmelbmaaDoor.Strs Go.Proofs.YthplnkchmelbmaaDoor.M03
open Go.Proofs.YthplnkchmelbmaaDoor.Kit (ret_str ret_int ret_bool mk_bytes ba_ext bytes_nil bytes_cons byte_get take_next take_end list_full list_ne list_none list_nil byte_eq byte_ne head_of below_draws)

theorem check_empty {s : ByteArray} (h : ¬ 0 < s.size) : (5 : Int) = check s.data.toList := by
  unfold check; rw [← Lib.size_eq, if_pos (by omega)]
theorem check_long {s : ByteArray} (_h0 : 0 < s.size) (h : (64 : Int) < s.size) : (11 : Int) = check s.data.toList := by
  unfold check; rw [← Lib.size_eq, if_neg (by omega), if_pos (by omega)]
theorem check_bad {s : ByteArray} {k : Nat} (h0 : 0 < s.size) (h : (s.size : Int) ≤ 64) (hk : k < s.size) (hb : badByte s[k] = true) : (11 : Int) = check s.data.toList := by
  have : s.data.toList.any badByte = true := by
    rw [List.any_eq_true]
    have hk2 : k < s.data.toList.length := by rw [← Lib.size_eq]; exact hk
    exact ⟨s.data.toList[k], List.getElem_mem hk2, hb⟩
  unfold check; rw [← Lib.size_eq, if_neg (by omega), if_neg (by omega), if_pos this]
theorem check_end {s : ByteArray} {k : Nat} (h0 : 0 < s.size) (h : (s.size : Int) ≤ 64) (hk : ¬ k < s.size) (hb : (s.data.toList.take k).any badByte = false) : check s.data.toList = if s.data.toList = [46] ∨ s.data.toList = [46, 46] then 6 else 0 := by
  rw [take_end s k hk] at hb
  unfold check; rw [← Lib.size_eq, if_neg (by omega), if_neg (by omega), if_neg (by rw [hb]; decide)]
theorem any_next {s : ByteArray} {k : Nat} (hk : k < s.size) (h : (s.data.toList.take k).any badByte = false) (hb : badByte s[k] = false) : (s.data.toList.take (k + 1)).any badByte = false := by
  rw [take_next s k hk, List.any_append, h]; simp [hb]

set_option maxHeartbeats 400000 in
theorem refCheck_any (s : ByteArray) (w : World) :
    Calls Tryd.prog 35 #[.string s] w fun e w' => e = .returned (.int .i64 (check s.data.toList)) ∧ w' = w := by
  by_cases h0 : 0 < s.size
  · have z1 : ((s.size : Int) == 0) = false := by rw [beq_eq_false_iff_ne]; omega
    by_cases h64 : (64 : Int) < s.size
    · have HE := Lib.hid (check_long h0 h64)
      go_enter Tryd.func35, Tryd.ntmps35
      go_wp2
      go_ret
      exact ⟨ret_int HE.out, rfl⟩
    · have h65 : (s.size : Int) ≤ 64 := by omega
      clear h64
      go_enter Tryd.func35, Tryd.ntmps35
      go_wp2
      go_loop [3] (fun i => ∃ k : Nat, k ≤ s.size ∧ i = .int .i64 k ∧ Hid ((s.data.toList.take k).any badByte = false)) (fun i => s.size - (intOf i).toNat)
      case atStart => exact ⟨0, Nat.zero_le _, rfl, rfl⟩
      case round =>
        obtain ⟨k, hk, rfl, ha⟩ := hrel
        by_cases hlt : k < s.size
        · by_cases hb0 : (s[k].toNat : Int) = 0
          · have HB := Lib.hid (check_bad h0 h65 hlt (by rw [byte_eq (d := 0) hb0]; rfl))
            have t0 : ((s[k].toNat : Int) == 0) = true := by rw [beq_iff_eq]; exact hb0
            clear hb0
            go_wp2
            go_ret
            exact ⟨ret_int HB.out, rfl⟩
          · have t0 : ((s[k].toNat : Int) == 0) = false := by rw [beq_eq_false_iff_ne]; exact hb0
            by_cases hb47 : (s[k].toNat : Int) = 47
            · have HB := Lib.hid (check_bad h0 h65 hlt (by rw [byte_eq (d := 47) hb47]; rfl))
              have t47 : ((s[k].toNat : Int) == 47) = true := by rw [beq_iff_eq]; exact hb47
              clear hb0 hb47
              go_wp2
              go_ret
              exact ⟨ret_int HB.out, rfl⟩
            · have t47 : ((s[k].toNat : Int) == 47) = false := by rw [beq_eq_false_iff_ne]; exact hb47
              have HB := Lib.hid (any_next hlt ha.out (by have a1 := byte_ne (d := 0) hb0; have a2 := byte_ne (d := 47) hb47; simp [badByte, a1, a2]))
              clear hb0 hb47
              go_wp2
              go_round
              case rel => exact ⟨k + 1, by omega, by go_num, HB⟩
              case measure => simp [intOf]; omega
        · have HE := Lib.hid (check_end h0 h65 hlt ha.out)
          cases t1 : (s.toList == [46]) with
          | true =>
            have HX := Lib.hid (beq_iff_eq.1 t1)
            go_wp2
            go_ret
            exact ⟨ret_int (by rw [HE.out, ← Lib.toList_data, HX.out]; rfl), rfl⟩
          | false =>
            cases t2 : (s.toList == [46, 46]) with
            | true =>
              have HX := Lib.hid (beq_iff_eq.1 t2)
              go_wp2
              go_ret
              exact ⟨ret_int (by rw [HE.out, ← Lib.toList_data, HX.out]; rfl), rfl⟩
            | false =>
              have HX := Lib.hid (beq_eq_false_iff_ne.1 t1)
              have HY := Lib.hid (beq_eq_false_iff_ne.1 t2)
              go_wp2
              go_ret
              exact ⟨ret_int (by rw [HE.out, ← Lib.toList_data, if_neg (fun e => by rcases e with e | e; exact HX.out e; exact HY.out e)]), rfl⟩
  · have z1 : ((s.size : Int) == 0) = true := by rw [beq_iff_eq]; omega
    have HE := Lib.hid (check_empty h0)
    go_enter Tryd.func35, Tryd.ntmps35
    go_wp2
    go_ret
    exact ⟨ret_int HE.out, rfl⟩
theorem refCheck_at (s : ByteArray) (c : Int) (h : check s.data.toList = c) (w : World) :
    Calls Tryd.prog 35 #[.string s] w fun e w' => e = .returned (.int .i64 c) ∧ w' = w := by
  rw [← h]; exact refCheck_any s w
end Go.Proofs.YthplnkchmelbmaaDoor.W03
