/-
  Layer 1 (num), walks: the plain answer's Parse: what it returns at every text and both bounds; the world as it was.
-/
import Derived.Test.YteajollkmbnimaaDoorNumWalkC
namespace Go.Proofs.YteajollkmbnimaaDoor.NumW
open Go Go.RowKit Go.Proofs.YteajollkmbnimaaDoor.NumM

theorem digits_yes (s : ByteArray) (hs : s.size ≤ maxLen) (h : digits s.data.toList = true) (w : World) : Calls Tryd.prog 17 #[.string s] w fun e w' => e = .returned (.bool true) ∧ w' = w := by
  rw [← h]; exact digits_any s hs w
theorem digits_no (s : ByteArray) (hs : s.size ≤ maxLen) (h : digits s.data.toList = false) (w : World) : Calls Tryd.prog 17 #[.string s] w fun e w' => e = .returned (.bool false) ∧ w' = w := by
  rw [← h]; exact digits_any s hs w
theorem all_of_digits {l : List UInt8} (h : digits l = true) : l.all dig = true := by
  simp only [digits, Bool.and_eq_true] at h; exact h.1.1
theorem dig_at {f : ByteArray} {k : Nat} (h : f.data.toList.all dig = true) (hk : k < f.size) : (48 : Int) ≤ (f[k].toNat : Int) ∧ (f[k].toNat : Int) ≤ 57 := by
  have hk2 : k < f.data.toList.length := by rw [← Lib.size_eq]; exact hk
  rw [List.all_eq_true] at h
  have := dig_iff.1 (h f.data.toList[k] (List.getElem_mem hk2))
  have e : f.data.toList[k] = f[k] := rfl
  rw [e] at this
  omega
theorem val_step {f : ByteArray} {k n : Nat} (hk : k < f.size) (h : n = val 0 (f.data.toList.take k)) : n * 10 + (f[k].toNat - 48) = val 0 (f.data.toList.take (k + 1)) := by
  have hk2 : k < f.data.toList.length := by rw [← Lib.size_eq]; exact hk
  rw [val_take_succ _ _ hk2, h]
  rfl
theorem val_bound {f : ByteArray} {k n : Nat} (ha : f.data.toList.all dig = true) (hk : k ≤ 18) (h : n = val 0 (f.data.toList.take k)) : n ≤ 999999999999999999 := by
  have ha2 : (f.data.toList.take k).all dig = true := by
    rw [List.all_eq_true] at ha ⊢
    exact fun x hx => ha x (List.mem_of_mem_take hx)
  have h1 := val_lt (f.data.toList.take k) 0 ha2
  have h3 : 10 ^ (f.data.toList.take k).length ≤ 10 ^ 18 := Nat.pow_le_pow_right (by decide) (Nat.le_trans (List.length_take_le _ _) hk)
  have : (10 : Nat) ^ 18 = 1000000000000000000 := by decide
  omega
theorem val_done {f : ByteArray} {k n : Nat} (hk : ¬ k < f.size) (h : n = val 0 (f.data.toList.take k)) : n = val 0 f.data.toList := by
  rw [h, List.take_of_length_le (by rw [← Lib.size_eq]; omega)]
theorem val_end {f : ByteArray} {n : Nat} (ha : f.data.toList.all dig = true) (hl : f.size ≤ 19) (h : n = val 0 f.data.toList) : n ≤ 9999999999999999999 := by
  have := val_small ha 19 (Nat.le_refl _)
  rw [List.take_of_length_le (by rw [← Lib.size_eq]; exact hl)] at this
  omega
theorem wrap_least {n : Nat} (h1 : (9223372036854775808 : Int) ≤ n) (h2 : (n : Int) ≤ 9223372036854775808) : wrap64 (-wrap64 (n : Int)) = -(n : Int) := by
  unfold wrap64; omega
theorem u64_num {a b : Int} (h : a = b) : Value.int .u64 a = Value.int .u64 b := by rw [h]

set_option maxHeartbeats 1000000 in
theorem refParse_pos (s : ByteArray) (hs : s.size ≤ 281474976710656) (low high : Int) (h0 : 0 < s.size) (hz : ¬ (s[0].toNat : Int) = 45) (w : World) :
    Calls Tryd.prog 7 #[.string s, .int .i64 low, .int .i64 high] w fun e w' => e = .returned (.tuple #[.int .i64 (parseN s.data.toList low high), .int .i64 (parseE s.data.toList low high)]) ∧ w' = w := by
  have he := list_full h0
  have hne := list_ne h0
  have hb : ((s[0].toNat : Int) == 45) = false := by simp [hz]
  have hcons := bytes_cons h0
  have hng : neg s.data.toList = false := by
    rw [hcons]; simp only [neg, decide_eq_false_iff_not]; intro e; rw [e] at hz; simp at hz
  have hT := text_pos hng
  have HI := Lib.hid (text_in s.data.toList low high)
  have HO := Lib.hid (text_out s.data.toList low high)
  have HN := Lib.hid (text_nums s.data.toList low high)
  have HT := Lib.hid hT
  clear hT hcons hng
  have hfm : s.size ≤ maxLen := by unfold maxLen; omega
  have hfs : s.size ≤ 281474976710656 := hs
  go_enter Tryd.func7, Tryd.ntmps7
  go_wp2_with fail
  cases hd : digits s.data.toList with
  | false =>
    have HD := Lib.hid hd
    clear hd
    refine (digits_no s hfm HD.out _).mono ?_
    rintro e w' ⟨rfl, rfl⟩
    go_wp2
    go_ret2
    have hx : isText s.data.toList = false := by rw [HT.out.1, HD.out]
    exact ⟨ret_two (HN.out hx).1.symm (HN.out hx).2.symm, rfl⟩
  | true =>
    have HA := Lib.hid (all_of_digits hd)
    have HB := Lib.hid (fun h => val_big hd (l := s.data.toList) h)
    have HD := Lib.hid hd
    clear hd
    have HX : Hid (isText s.data.toList = true) := by show isText s.data.toList = true; rw [HT.out.1, HD.out]
    have HV : Hid (valT s.data.toList = (val 0 s.data.toList : Int)) := HT.out.2
    by_cases h19 : (19 : Int) < (s.size : Int)
    · have hbig := HB.out (by rw [← Lib.size_eq]; omega)
      have hv := HV.out
      have HR := Lib.hid (HO.out HX.out (by omega))
      clear hbig hv
      refine (digits_yes s hfm HD.out _).mono ?_
      rintro e w' ⟨rfl, rfl⟩
      go_wp2
      go_ret2
      exact ⟨ret_two HR.out.1.symm HR.out.2.symm, rfl⟩
    refine (digits_yes s hfm HD.out _).mono ?_
    rintro e w' ⟨rfl, rfl⟩
    go_wp2
    go_loop [10, 11] (fun u i => ∃ k n : Nat, k ≤ s.size ∧ i = .int .i64 k ∧ u = .int .u64 n ∧ Hid (n = val 0 (s.data.toList.take k))) (fun _ i => s.size - (intOf i).toNat)
    case atStart => exact ⟨0, 0, Nat.zero_le _, rfl, rfl, by show 0 = _; rw [List.take_zero, val_nil]⟩
    case round =>
      obtain ⟨k, n, hk, rfl, rfl, hn⟩ := hrel
      by_cases hlt : k < s.size
      · obtain ⟨d1, d2⟩ := dig_at HA.out hlt
        have hb9 := val_bound HA.out (by omega) hn.out
        go_wp2
        go_round
        case rel => exact ⟨k + 1, n * 10 + (s[k].toNat - 48), by omega, by go_num, u64_num (by omega), val_step hlt hn.out⟩
        case measure => simp [intOf]; omega
      · have hn2 := Lib.hid (val_done hlt hn.out)
        have hb19 := val_end HA.out (by omega) hn2.out
        have HV2 := HV.out
        rw [← hn2.out] at HV2
        have HV3 := Lib.hid HV2
        clear HV2
        by_cases a1 : (9223372036854775808 : Int) ≤ n
        · have HR := Lib.hid (HO.out HX.out (by have := HV3.out; omega))
          by_cases a2 : (9223372036854775808 : Int) < n
          · go_wp2
            go_ret2
            exact ⟨ret_two HR.out.1.symm HR.out.2.symm, rfl⟩
          · go_wp2
            go_ret2
            exact ⟨ret_two HR.out.1.symm HR.out.2.symm, rfl⟩
        · have a3 : (n : Int) ≤ 9223372036854775807 := by omega
          clear a1
          by_cases b1 : (n : Int) < low
          · have HR := Lib.hid (HO.out HX.out (by have := HV3.out; omega))
            go_wp2
            all_goals go_ret2
            all_goals exact ⟨ret_two HR.out.1.symm HR.out.2.symm, rfl⟩
          · by_cases b2 : high < (n : Int)
            · have HR := Lib.hid (HO.out HX.out (by have := HV3.out; omega))
              go_wp2
              all_goals go_ret2
              all_goals exact ⟨ret_two HR.out.1.symm HR.out.2.symm, rfl⟩
            · have HR := Lib.hid (HI.out HX.out (by have := HV3.out; omega))
              go_wp2
              · exfalso
                have hx : 9223372036854775808 < (n : Int) ∨ ((n : Int) == 9223372036854775808) = true := by assumption
                rcases hx with hx | hx
                · omega
                · have := beq_iff_eq.1 hx; omega
              · go_ret2
                exact ⟨ret_two (HV3.out.symm.trans HR.out.1.symm) HR.out.2.symm, rfl⟩

set_option maxHeartbeats 1000000 in
theorem refParse_neg (s : ByteArray) (hs : s.size ≤ 281474976710656) (low high : Int) (h0 : 0 < s.size) (hz : (s[0].toNat : Int) = 45) (w : World) :
    Calls Tryd.prog 7 #[.string s, .int .i64 low, .int .i64 high] w fun e w' => e = .returned (.tuple #[.int .i64 (parseN s.data.toList low high), .int .i64 (parseE s.data.toList low high)]) ∧ w' = w := by
  have he := list_full h0
  have hne := list_ne h0
  have hb : ((s[0].toNat : Int) == 45) = true := by simp [hz]
  have e45 : s[0] = 45 := UInt8.toNat_inj.1 (by simp; omega)
  have hcons := bytes_cons h0
  rw [e45] at hcons
  have hT := text_neg (s.extract 1 s.size).data.toList
  rw [← hcons] at hT
  have hfs : (s.extract 1 s.size).size ≤ 281474976710656 := by rw [ByteArray.size_extract]; omega
  have HI := Lib.hid (text_in s.data.toList low high)
  have HO := Lib.hid (text_out s.data.toList low high)
  have HN := Lib.hid (text_nums s.data.toList low high)
  have HT := Lib.hid hT
  clear hT hcons e45 hz
  go_enter Tryd.func7, Tryd.ntmps7
  go_wp2_with fail
  generalize s.extract 1 s.size = f at *
  have hfm : f.size ≤ maxLen := by unfold maxLen; omega
  cases hd : digits f.data.toList with
  | false =>
    have HD := Lib.hid hd
    clear hd
    refine (digits_no f hfm HD.out _).mono ?_
    rintro e w' ⟨rfl, rfl⟩
    go_wp2
    go_ret2
    have hx : isText s.data.toList = false := by rw [HT.out.1, HD.out]; rfl
    exact ⟨ret_two (HN.out hx).1.symm (HN.out hx).2.symm, rfl⟩
  | true =>
    have HA := Lib.hid (all_of_digits hd)
    have HB := Lib.hid (fun h => val_big hd (l := f.data.toList) h)
    have HD := Lib.hid hd
    clear hd
    by_cases h48 : f.data.toList = [48]
    · have hx : isText s.data.toList = false := by rw [HT.out.1, h48]; simp
      have h49 : (f.toList == [48]) = true := by rw [Lib.toList_data, h48]; rfl
      have HX := Lib.hid hx
      clear hx h48
      refine (digits_yes f hfm HD.out _).mono ?_
      rintro e w' ⟨rfl, rfl⟩
      go_wp2
      go_ret2
      exact ⟨ret_two (HN.out HX.out).1.symm (HN.out HX.out).2.symm, rfl⟩
    have h49 : (f.toList == [48]) = false := by rw [Lib.toList_data]; simpa using h48
    have HX : Hid (isText s.data.toList = true) := by show isText s.data.toList = true; rw [HT.out.1, HD.out]; simp [h48]
    have HV : Hid (valT s.data.toList = -(val 0 f.data.toList : Int)) := HT.out.2
    clear h48
    by_cases h19 : (19 : Int) < (f.size : Int)
    · have hbig := HB.out (by rw [← Lib.size_eq]; omega)
      have hv := HV.out
      have HR := Lib.hid (HO.out HX.out (by omega))
      clear hbig hv
      refine (digits_yes f hfm HD.out _).mono ?_
      rintro e w' ⟨rfl, rfl⟩
      go_wp2
      go_ret2
      exact ⟨ret_two HR.out.1.symm HR.out.2.symm, rfl⟩
    refine (digits_yes f hfm HD.out _).mono ?_
    rintro e w' ⟨rfl, rfl⟩
    go_wp2
    go_loop [10, 11] (fun u i => ∃ k n : Nat, k ≤ f.size ∧ i = .int .i64 k ∧ u = .int .u64 n ∧ Hid (n = val 0 (f.data.toList.take k))) (fun _ i => f.size - (intOf i).toNat)
    case atStart => exact ⟨0, 0, Nat.zero_le _, rfl, rfl, by show 0 = _; rw [List.take_zero, val_nil]⟩
    case round =>
      obtain ⟨k, n, hk, rfl, rfl, hn⟩ := hrel
      by_cases hlt : k < f.size
      · obtain ⟨d1, d2⟩ := dig_at HA.out hlt
        have hb9 := val_bound HA.out (by omega) hn.out
        go_wp2
        go_round
        case rel => exact ⟨k + 1, n * 10 + (f[k].toNat - 48), by omega, by go_num, u64_num (by omega), val_step hlt hn.out⟩
        case measure => simp [intOf]; omega
      · have hn2 := Lib.hid (val_done hlt hn.out)
        have hb19 := val_end HA.out (by omega) hn2.out
        have HV2 := HV.out
        rw [← hn2.out] at HV2
        have HV3 := Lib.hid HV2
        clear HV2
        by_cases a1 : (9223372036854775808 : Int) < n
        · have HR := Lib.hid (HO.out HX.out (by have := HV3.out; omega))
          go_wp2
          go_ret2
          exact ⟨ret_two HR.out.1.symm HR.out.2.symm, rfl⟩
        · have b0 : (n : Int) ≤ 9223372036854775808 := by omega
          clear a1
          by_cases a2 : (9223372036854775808 : Int) ≤ n
          · have hw := wrap_least (n := n) a2 b0
            by_cases b1 : -(n : Int) < low
            · have HR := Lib.hid (HO.out HX.out (by have := HV3.out; omega))
              go_wp2
              go_ret2
              exact ⟨ret_two HR.out.1.symm HR.out.2.symm, rfl⟩
            · by_cases b2 : high < -(n : Int)
              · have HR := Lib.hid (HO.out HX.out (by have := HV3.out; omega))
                go_wp2
                go_ret2
                exact ⟨ret_two HR.out.1.symm HR.out.2.symm, rfl⟩
              · have HR := Lib.hid (HI.out HX.out (by have := HV3.out; omega))
                go_wp2
                go_ret2
                exact ⟨ret_two (HV3.out.symm.trans HR.out.1.symm) HR.out.2.symm, rfl⟩
          · have a3 : (n : Int) ≤ 9223372036854775807 := by omega
            clear a2
            by_cases b1 : -(n : Int) < low
            · have HR := Lib.hid (HO.out HX.out (by have := HV3.out; omega))
              go_wp2
              go_ret2
              exact ⟨ret_two HR.out.1.symm HR.out.2.symm, rfl⟩
            · by_cases b2 : high < -(n : Int)
              · have HR := Lib.hid (HO.out HX.out (by have := HV3.out; omega))
                go_wp2
                go_ret2
                exact ⟨ret_two HR.out.1.symm HR.out.2.symm, rfl⟩
              · have HR := Lib.hid (HI.out HX.out (by have := HV3.out; omega))
                go_wp2
                go_ret2
                exact ⟨ret_two (HV3.out.symm.trans HR.out.1.symm) HR.out.2.symm, rfl⟩

set_option maxHeartbeats 400000 in
theorem refParse_none (s : ByteArray) (low high : Int) (h0 : ¬ 0 < s.size) (w : World) :
    Calls Tryd.prog 7 #[.string s, .int .i64 low, .int .i64 high] w fun e w' => e = .returned (.tuple #[.int .i64 (parseN s.data.toList low high), .int .i64 (parseE s.data.toList low high)]) ∧ w' = w := by
  have he := list_none h0
  have hne := list_nil h0
  have hd : digits s.data.toList = false := by rw [bytes_nil h0]; rfl
  have hx : isText s.data.toList = false := by rw [bytes_nil h0]; rfl
  have HN := Lib.hid (text_nums s.data.toList low high hx)
  have HD := Lib.hid hd
  clear hd hx
  go_enter Tryd.func7, Tryd.ntmps7
  go_wp2_with (go_at_call 17; refine (digits_no s (by unfold maxLen; omega) HD.out _).mono ?_; rintro e w' ⟨rfl, rfl⟩)
  go_ret2
  exact ⟨ret_two HN.out.1.symm HN.out.2.symm, rfl⟩

theorem refParse_any (s : ByteArray) (hs : s.size ≤ 281474976710656) (low high : Int) (w : World) :
    Calls Tryd.prog 7 #[.string s, .int .i64 low, .int .i64 high] w fun e w' => e = .returned (.tuple #[.int .i64 (parseN s.data.toList low high), .int .i64 (parseE s.data.toList low high)]) ∧ w' = w := by
  by_cases h0 : 0 < s.size
  · by_cases hz : (s[0].toNat : Int) = 45
    · exact refParse_neg s hs low high h0 hz w
    · exact refParse_pos s hs low high h0 hz w
  · exact refParse_none s low high h0 w
end Go.Proofs.YteajollkmbnimaaDoor.NumW
