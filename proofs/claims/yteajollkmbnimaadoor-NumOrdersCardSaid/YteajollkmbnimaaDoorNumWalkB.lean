/-
  Layer 1 (num), walks: the plain answers run, less, bare, digits: what each returns at every argument; the world as it was.
-/
import Derived.Test.YteajollkmbnimaaDoorNumWalkA
namespace Go.Proofs.YteajollkmbnimaaDoor.NumW
open Go Go.RowKit Go.Proofs.YteajollkmbnimaaDoor.NumM

theorem mk_bytes (t : ByteArray) : (⟨t.data.toList.toArray⟩ : ByteArray) = t := by obtain ⟨⟨l⟩⟩ := t; rfl
theorem bytes_mk (l : List UInt8) : (⟨l.toArray⟩ : ByteArray).data.toList = l := rfl
theorem size_mk (l : List UInt8) : (⟨l.toArray⟩ : ByteArray).size = l.length := rfl
theorem bytes_nil {t : ByteArray} (h : ¬ 0 < t.size) : t.data.toList = [] := List.length_eq_zero_iff.1 (by rw [← Lib.size_eq]; omega)
theorem bytes_cons {t : ByteArray} (h : 0 < t.size) : t.data.toList = t[0] :: (t.extract 1 t.size).data.toList := by
  rw [Lib.extract_data]
  have h2 : 0 < t.data.toList.length := by rw [← Lib.size_eq]; exact h
  rw [List.take_of_length_le (by rw [List.length_drop, ← Lib.size_eq]; omega)]
  conv => lhs; rw [← List.drop_zero (l := t.data.toList), List.drop_eq_getElem_cons h2]
  rfl
theorem ret_str {a b : ByteArray} (h : a = b) : Ending.returned (.string a) = .returned (.string b) := by rw [h]

theorem trim_no {t : ByteArray} (h : ¬ 0 < t.size) : Lib.trimLeftB t.data.toList 48 = t.data.toList := by rw [bytes_nil h]; rfl
theorem trim_stop {t : ByteArray} (h : 0 < t.size) (h2 : ((t[0].toNat : Int) == 48) = false) : Lib.trimLeftB t.data.toList 48 = t.data.toList := by
  rw [bytes_cons h]
  unfold Lib.trimLeftB
  rw [List.dropWhile_cons, if_neg]
  intro e
  rw [beq_iff_eq] at e
  rw [e] at h2
  simp at h2
theorem trim_go {t : ByteArray} (h : 0 < t.size) (h2 : ((t[0].toNat : Int) == 48) = true) : Lib.trimLeftB t.data.toList 48 = Lib.trimLeftB (t.extract 1 t.size).data.toList 48 := by
  conv => lhs; rw [bytes_cons h]
  unfold Lib.trimLeftB
  rw [List.dropWhile_cons, if_pos]
  rw [beq_iff_eq]
  rw [beq_iff_eq] at h2
  exact UInt8.toNat_inj.1 (by simp; omega)

def strSize : Value → Nat
  | .string s => s.size
  | _ => 0

set_option maxHeartbeats 400000 in
theorem bare_any (s : ByteArray) (_hs : s.size ≤ maxLen) (w : World) :
    Calls Tryd.prog 24 #[.string s] w fun e w' => e = .returned (.string ⟨(Lib.trimLeftB s.data.toList 48).toArray⟩) ∧ w' = w := by
  unfold maxLen at _hs
  go_enter Tryd.func24, Tryd.ntmps24
  go_wp2
  go_loop [0] (fun i => ∃ t : ByteArray, t.size ≤ s.size ∧ i = .string t ∧ Hid (Lib.trimLeftB s.data.toList 48 = Lib.trimLeftB t.data.toList 48)) (fun i => strSize i)
  case atStart => exact ⟨s, Nat.le_refl _, rfl, rfl⟩
  case round =>
    obtain ⟨t, hr, rfl, ht⟩ := hrel
    by_cases h0 : 0 < t.size
    · go_wp2
      · have h48 : ((t[0].toNat : Int) == 48) = true := by assumption
        go_round
        case rel => exact ⟨t.extract 1 t.size, by simp [ByteArray.size_extract]; omega, rfl, ht.out.trans (trim_go h0 h48)⟩
        case measure => simp [strSize, ByteArray.size_extract]; omega
      · have h48 : ((t[0].toNat : Int) == 48) = false := by assumption
        go_ret
        exact ⟨ret_str (by rw [ht.out, trim_stop h0 h48, mk_bytes]), rfl⟩
    · go_wp2
      go_ret
      exact ⟨ret_str (by rw [ht.out, trim_no h0, mk_bytes]), rfl⟩

theorem less_neg {a b : ByteArray} (h : Op.bytesLess a.toList b.toList = true) : (-1 : Int) = Lib.compareBytes a.data.toList b.data.toList := by
  rw [less_cmpB, Lib.toList_data, Lib.toList_data, decide_eq_true_eq] at h
  exact h.symm
theorem less_pos {a b : ByteArray} (h : Op.bytesLess a.toList b.toList = false) (h2 : (!a.toList == b.toList) = true) : (1 : Int) = Lib.compareBytes a.data.toList b.data.toList := by
  rw [less_cmpB, Lib.toList_data, Lib.toList_data, decide_eq_false_iff_not] at h
  rw [Lib.toList_data, Lib.toList_data] at h2
  rcases cmpB_three a.data.toList b.data.toList with e | e | e
  · exact absurd e h
  · have := cmpB_zero _ _ e
    rw [this] at h2
    simp at h2
  · exact e.symm
theorem less_eq {a b : ByteArray} (h2 : (!a.toList == b.toList) = false) : (0 : Int) = Lib.compareBytes a.data.toList b.data.toList := by
  rw [Lib.toList_data, Lib.toList_data] at h2
  have : a.data.toList = b.data.toList := by simpa using h2
  rw [this, cmpB_self]

set_option maxHeartbeats 400000 in
theorem less_any (a b : ByteArray) (w : World) :
    Calls Tryd.prog 22 #[.string a, .string b] w fun e w' => e = .returned (.int .i64 (Lib.compareBytes a.data.toList b.data.toList)) ∧ w' = w := by
  go_enter Tryd.func22, Tryd.ntmps22
  go_wp2
  all_goals go_ret
  · exact ⟨ret_int (less_neg (by assumption)), rfl⟩
  · exact ⟨ret_int (less_pos (by assumption) (by assumption)), rfl⟩
  · exact ⟨ret_int (less_eq (by assumption)), rfl⟩

set_option maxHeartbeats 400000 in
theorem run_any (s : ByteArray) (hs : s.size ≤ maxLen) (w : World) :
    Calls Tryd.prog 23 #[.string s] w fun e w' => e = .returned (.int .i64 (run s.data.toList)) ∧ w' = w := by
  unfold maxLen at hs
  go_enter Tryd.func23, Tryd.ntmps23
  go_wp2
  go_loop [3] (fun i => ∃ k : Nat, k ≤ s.size ∧ i = .int .i64 k ∧ Hid (∀ j, j < k → dig (s.data.toList.getD j 0) = true)) (fun i => s.size - (intOf i).toNat)
  case atStart => exact ⟨0, Nat.zero_le _, rfl, fun j hj => by omega⟩
  case round =>
    obtain ⟨k, hk, rfl, hr⟩ := hrel
    by_cases hlt : k < s.size
    · have HB := Lib.hid (byte_get s k hlt)
      by_cases h1 : (48 : Int) ≤ (s[k].toNat : Int)
      · by_cases h2 : (s[k].toNat : Int) ≤ 57
        · go_wp2
          go_round
          case rel => exact ⟨k + 1, by omega, by go_num, fun j hj => by
            by_cases e : j = k
            · rw [e, HB.out]; exact dig_yes (by omega) (by omega)
            · exact hr.out j (by omega)⟩
          case measure => simp [intOf]; omega
        · go_wp2
          go_ret
          exact ⟨ret_int (by rw [run_done hk hr.out (fun _ => by rw [HB.out]; simp [dig]; omega)]), rfl⟩
      · go_wp2
        go_ret
        exact ⟨ret_int (by rw [run_done hk hr.out (fun _ => by rw [HB.out]; simp [dig]; omega)]), rfl⟩
    · go_wp2
      go_ret
      exact ⟨ret_int (by rw [run_done hk hr.out (fun h => absurd h hlt)]), rfl⟩

/-! ### digits -/
theorem all_take {s : ByteArray} (h : ∀ j, j < s.size → dig (s.data.toList.getD j 0) = true) : s.data.toList.all dig = true := by
  rw [← run_all, ← Lib.size_eq]
  exact run_done (Nat.le_refl _) h (fun h => by omega)
theorem not_all {s : ByteArray} {k : Nat} (h : k < s.size) (h2 : dig (s.data.toList.getD k 0) = false) : digits s.data.toList = false := by
  have h3 : s.data.toList.all dig = false := by
    rw [List.all_eq_false]
    have h4 : k < s.data.toList.length := by rw [← Lib.size_eq]; exact h
    refine ⟨s.data.toList.getD k 0, ?_, by rw [h2]; decide⟩
    rw [List.getD_eq_getElem?_getD, List.getElem?_eq_getElem h4]
    exact List.getElem_mem h4
  simp [digits, h3]
theorem digits_of {s : ByteArray} (h : s.data.toList.all dig = true) (h0 : 0 < s.size) : digits s.data.toList = (decide (s[0] ≠ 48) || s.size == 1) := by
  have e : s.data.toList.length = s.size := (Lib.size_eq s).symm
  unfold digits
  rw [h, e]
  rw [bytes_cons h0]
  simp
theorem ne_byte {c d : UInt8} (h : ((c.toNat : Int) != (d.toNat : Int)) = true) : c ≠ d := by
  intro e; rw [e] at h; simp at h
theorem eq_byte {c d : UInt8} (h : ((c.toNat : Int) != (d.toNat : Int)) = false) : c = d := by
  simp at h; exact UInt8.toNat_inj.1 (by omega)

theorem list_full {s : ByteArray} (h : 0 < s.size) : s.toList.isEmpty = false := by rw [Lib.toList_data, bytes_cons h]; rfl
theorem list_ne {s : ByteArray} (h : 0 < s.size) : ¬ s.toList = [] := by rw [Lib.toList_data, bytes_cons h]; simp
theorem list_none {s : ByteArray} (h : ¬ 0 < s.size) : s.toList.isEmpty = true := by rw [Lib.toList_data, bytes_nil h]; rfl
theorem list_nil {s : ByteArray} (h : ¬ 0 < s.size) : s.toList = [] := by rw [Lib.toList_data, bytes_nil h]

set_option maxHeartbeats 400000 in
theorem digits_any (s : ByteArray) (hs : s.size ≤ maxLen) (w : World) :
    Calls Tryd.prog 17 #[.string s] w fun e w' => e = .returned (.bool (digits s.data.toList)) ∧ w' = w := by
  unfold maxLen at hs
  go_enter Tryd.func17, Tryd.ntmps17
  go_wp2
  go_loop [3] (fun i => ∃ k : Nat, k ≤ s.size ∧ i = .int .i64 k ∧ Hid (∀ j, j < k → dig (s.data.toList.getD j 0) = true)) (fun i => s.size - (intOf i).toNat)
  case atStart => exact ⟨0, Nat.zero_le _, rfl, fun j hj => by omega⟩
  case round =>
    obtain ⟨k, hk, rfl, hr⟩ := hrel
    by_cases hlt : k < s.size
    · have HB := Lib.hid (byte_get s k hlt)
      by_cases h1 : (s[k].toNat : Int) < 48
      · go_wp2
        go_ret
        exact ⟨ret_bool (by rw [not_all hlt (by rw [HB.out]; simp [dig]; omega)]), rfl⟩
      · by_cases h2 : (57 : Int) < (s[k].toNat : Int)
        · go_wp2
          go_ret
          exact ⟨ret_bool (by rw [not_all hlt (by rw [HB.out]; simp [dig]; omega)]), rfl⟩
        · go_wp2
          go_round
          case rel => exact ⟨k + 1, by omega, by go_num, fun j hj => by
            by_cases e : j = k
            · rw [e, HB.out]; exact dig_yes (by omega) (by omega)
            · exact hr.out j (by omega)⟩
          case measure => simp [intOf]; omega
    · obtain rfl : k = s.size := by omega
      have HA := Lib.hid (all_take hr.out)
      by_cases h0 : 0 < s.size
      · have he := list_full h0
        have hn := list_ne h0
        by_cases h48 : (s[0].toNat : Int) = 48
        · have HZ := Lib.hid h48
          have hb : ((s[0].toNat : Int) != 48) = false := by simp [h48]
          clear h48
          go_wp2
          all_goals go_ret
          all_goals exact ⟨ret_bool (by rw [digits_of HA.out h0]; have := HZ.out; have e : s[0] = 48 := UInt8.toNat_inj.1 (by simp; omega); rw [Bool.eq_iff_iff]; simp [e]; try omega), rfl⟩
        · have hb : ((s[0].toNat : Int) != 48) = true := by simp [h48]
          go_wp2
          all_goals go_ret
          all_goals exact ⟨ret_bool (by rw [digits_of HA.out h0]; have e : s[0] ≠ 48 := ne_byte (d := 48) hb; simp [e]), rfl⟩
      · have he := list_none h0
        have hn := list_nil h0
        go_wp2
        all_goals go_ret
        all_goals exact ⟨ret_bool (by simp [digits, bytes_nil h0]), rfl⟩
end Go.Proofs.YteajollkmbnimaaDoor.NumW
