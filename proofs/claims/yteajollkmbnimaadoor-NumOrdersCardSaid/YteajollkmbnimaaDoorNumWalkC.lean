/-
  Layer 1 (num), walks: isText, Parse and the plain answer's Parse: what each returns at every text and both bounds; Parse may lay new memory and changes nothing that was there.
-/
import Derived.Test.YteajollkmbnimaaDoorNumWalkB
import Derived.Test.YteajollkmbnimaaDoorShelf
namespace Go.Proofs.YteajollkmbnimaaDoor.NumW
open Go Go.RowKit Go.Proofs.YteajollkmbnimaaDoor.NumM

theorem mk_of {d : ByteArray} {l : List UInt8} (h : d.data.toList = l) : (⟨l.toArray⟩ : ByteArray) = d := by rw [← h, mk_bytes]
theorem minus_any (s d : ByteArray) (h : d.data.toList = Lib.trimPrefix s.data.toList [45]) (w : World) :
    Calls Tryd.prog 26 #[.string s, .string ⟨#[45]⟩] w fun e w' => e = .returned (.string d) ∧ w' = w :=
  (Tryd.strings_TrimPrefix s ⟨#[45]⟩ w).mono fun _ _ ⟨he, hw⟩ => ⟨by rw [he]; exact ret_str (mk_of h), hw⟩
/-- what the minus sign's taking away leaves -/
theorem minus_cases (l : List UInt8) : (neg l = true ∧ Lib.trimPrefix l [45] = l.tail) ∨ (neg l = false ∧ Lib.trimPrefix l [45] = l) := by
  cases l with
  | nil => right; exact ⟨rfl, rfl⟩
  | cons c r =>
    by_cases h : c = 45
    · subst h; left; exact ⟨rfl, rfl⟩
    · right
      refine ⟨by simp [neg, h], ?_⟩
      unfold Lib.trimPrefix Lib.hasPrefix
      rw [if_neg]
      simp [List.isPrefixOf, Ne.symm h]
theorem minus_len (l : List UInt8) : (Lib.trimPrefix l [45]).length ≤ l.length := by
  rcases minus_cases l with ⟨_, h⟩ | ⟨_, h⟩ <;> rw [h] <;> simp
theorem isText_nought {l : List UInt8} (h : (l == [48]) = true) : true = isText l := by
  rw [beq_iff_eq] at h; subst h; decide
theorem isText_minus {l : List UInt8} (h : (l == [48]) = false) : isText l = (digits (Lib.trimPrefix l [45]) && decide (Lib.trimPrefix l [45] ≠ [48])) := by
  rcases minus_cases l with ⟨h1, h2⟩ | ⟨h1, h2⟩
  · rw [h2]; simp [isText, h1]
  · rw [h2, (text_pos h1).1]
    have : l ≠ [48] := by simpa using h
    simp [this]
theorem mid_nil {d : ByteArray} (h : ¬ 0 < d.size) : (digits d.data.toList && decide (d.data.toList ≠ [48])) = false := by
  rw [bytes_nil h]; rfl
theorem mid_nought {d : ByteArray} (h : 0 < d.size) (h2 : d[0] = 48) : (digits d.data.toList && decide (d.data.toList ≠ [48])) = false := by
  by_cases ha : d.data.toList.all dig = true
  · rw [digits_of ha h, h2]
    by_cases h1 : d.size = 1
    · have : d.data.toList = [48] := by
        have e := bytes_cons h
        rw [h2] at e
        have e2 : (d.extract 1 d.size).data.toList = [] := bytes_nil (by rw [ByteArray.size_extract]; omega)
        rw [e, e2]
      simp [this]
    · simp [h1]
  · simp [digits, ha]
theorem mid_else {d : ByteArray} (h : 0 < d.size) (h2 : d[0] ≠ 48) : (digits d.data.toList && decide (d.data.toList ≠ [48])) = decide (run d.data.toList = d.size) := by
  have h3 : d.data.toList ≠ [48] := by
    intro e
    have e2 := bytes_cons h
    rw [e] at e2
    exact h2 (List.cons.inj e2).1.symm
  have hr := run_all d.data.toList
  rw [← Lib.size_eq] at hr
  by_cases ha : d.data.toList.all dig = true
  · rw [digits_of ha h]
    simp [h2, h3, hr, ha]
  · have : ¬ run d.data.toList = d.size := by rw [hr]; exact ha
    simp [digits, ha, this]

set_option maxHeartbeats 400000 in
theorem isText_any (s : ByteArray) (hs : s.size ≤ maxLen) (w : World) :
    Calls Tryd.prog 15 #[.string s] w fun e w' => e = .returned (.bool (isText s.data.toList)) ∧ w' = w := by
  unfold maxLen at hs
  cases h48 : (s.toList == [48]) with
  | true =>
    go_enter Tryd.func15, Tryd.ntmps15
    go_wp2_with fail
    go_ret
    exact ⟨ret_bool (isText_nought (by rw [← Lib.toList_data]; exact h48)), rfl⟩
  | false =>
    obtain ⟨d, hd⟩ : ∃ d : ByteArray, d.data.toList = Lib.trimPrefix s.data.toList [45] := ⟨⟨(Lib.trimPrefix s.data.toList [45]).toArray⟩, rfl⟩
    have HT := Lib.hid (isText_minus (l := s.data.toList) (by rw [← Lib.toList_data]; exact h48))
    have hsz : d.size ≤ 9223372036854775807 := by
      have := minus_len s.data.toList
      rw [← hd, ← Lib.size_eq, ← Lib.size_eq] at this
      omega
    have HD := Lib.hid hd
    clear hd
    go_enter Tryd.func15, Tryd.ntmps15
    by_cases h0 : 0 < d.size
    · have he := list_full h0
      have hn := list_ne h0
      by_cases hz : (d[0].toNat : Int) = 48
      · have HZ := Lib.hid (mid_nought h0 (UInt8.toNat_inj.1 (by simp; omega)))
        have hb : ((d[0].toNat : Int) != 48) = false := by simp [hz]
        clear hz
        go_wp2_with (go_at_call 26; refine (minus_any s d HD.out _).mono ?_; rintro e w' ⟨rfl, rfl⟩)
        go_ret
        exact ⟨ret_bool (by rw [HT.out, ← HD.out, HZ.out]), rfl⟩
      · have HZ := Lib.hid (mid_else h0 (ne_byte (d := 48) (by simp [hz])))
        have hb : ((d[0].toNat : Int) != 48) = true := by simp [hz]
        go_wp2_with (first | (go_at_call 26; refine (minus_any s d HD.out _).mono ?_; rintro e w' ⟨rfl, rfl⟩) | (go_at_call 27; refine (digitsAhead_any d (by unfold maxLen; omega) _).mono ?_; rintro e w' ⟨rfl, rfl⟩))
        go_ret
        exact ⟨ret_bool (by rw [HT.out, ← HD.out, HZ.out, Bool.eq_iff_iff]; simp; omega), rfl⟩
    · have he := list_none h0
      have hn := list_nil h0
      have HZ := Lib.hid (mid_nil h0)
      go_wp2_with (go_at_call 26; refine (minus_any s d HD.out _).mono ?_; rintro e w' ⟨rfl, rfl⟩)
      go_ret
      exact ⟨ret_bool (by rw [HT.out, ← HD.out, HZ.out]), rfl⟩

/-! ### num.Parse -/
theorem text_nums (l : List UInt8) (low high : Int) (h : isText l = false) : parseN l low high = 0 ∧ parseE l low high = 3 := by simp [parseN, parseE, h]
theorem text_out (l : List UInt8) (low high : Int) (h : isText l = true) (h2 : ¬ (-9223372036854775808 ≤ valT l ∧ valT l ≤ 9223372036854775807 ∧ low ≤ valT l ∧ valT l ≤ high)) : parseN l low high = 0 ∧ parseE l low high = 4 := by
  unfold parseN parseE
  rw [if_neg (fun e => h2 e.2), if_pos h, if_neg h2]
  exact ⟨rfl, rfl⟩
theorem text_in (l : List UInt8) (low high : Int) (h : isText l = true) (h2 : -9223372036854775808 ≤ valT l ∧ valT l ≤ 9223372036854775807 ∧ low ≤ valT l ∧ valT l ≤ high) : parseN l low high = valT l ∧ parseE l low high = 0 := by
  unfold parseN parseE
  rw [if_pos ⟨h, h2⟩, if_pos h, if_pos h2]
  exact ⟨rfl, rfl⟩
theorem ret_two {k j : IntKind} {a b c d : Int} (h : a = b) (h2 : c = d) : Ending.returned (.tuple #[.int k a, .int j c]) = .returned (.tuple #[.int k b, .int j d]) := by rw [h, h2]
theorem isText_yes (s : ByteArray) (hs : s.size ≤ maxLen) (h : isText s.data.toList = true) (w : World) : Calls Tryd.prog 15 #[.string s] w fun e w' => e = .returned (.bool true) ∧ w' = w := by
  rw [← h]; exact isText_any s hs w
theorem isText_no (s : ByteArray) (hs : s.size ≤ maxLen) (h : isText s.data.toList = false) (w : World) : Calls Tryd.prog 15 #[.string s] w fun e w' => e = .returned (.bool false) ∧ w' = w := by
  rw [← h]; exact isText_any s hs w
theorem atoi_yes (s : ByteArray) (hs : s.size ≤ 281474976710656) (n : Int) (h : Lib.atoiAll s.data.toList = .ok n) (w : World) : Calls Tryd.prog 16 #[.string s] w fun e w' => e = .returned (.tuple #[.int .i64 n, .nilIface]) ∧ Below w.heap.size w w' :=
  (Tryd.strconv_Atoi_ok s (by omega) n h w).mono fun _ _ ⟨he, hw⟩ => ⟨he, by
    rcases hw with rfl | ⟨t, rfl⟩
    · exact Below.refl _ _
    · exact Lib.bytesWorld_below _ _ _⟩

set_option maxHeartbeats 400000 in
theorem parse_any (s : ByteArray) (hs : s.size ≤ 281474976710656) (low high : Int) (tp : TypeId) (pv : Value) (w : World) (hvar : w.var? Tryd.prog "strconv.ErrRange" = some #[.iface tp pv]) :
    Calls Tryd.prog 6 #[.string s, .int .i64 low, .int .i64 high] w fun e w' => e = .returned (.tuple #[.int .i64 (parseN s.data.toList low high), .int .i64 (parseE s.data.toList low high)]) ∧ Below w.heap.size w w' := by
  have HV := Lib.hid hvar
  clear hvar
  cases ht : isText s.data.toList with
  | false =>
    have HP := Lib.hid (text_nums _ low high ht)
    have HT := Lib.hid ht
    clear ht
    go_enter Tryd.func6, Tryd.ntmps6
    go_wp2_with (go_at_call 15; refine (isText_no s (by unfold maxLen; omega) HT.out _).mono ?_; rintro e w' ⟨rfl, rfl⟩)
    go_ret2
    exact ⟨ret_two HP.out.1.symm HP.out.2.symm, Below.refl _ _⟩
  | true =>
    have hA := atoi_text ht
    by_cases hr : -9223372036854775808 ≤ valT s.data.toList ∧ valT s.data.toList ≤ 9223372036854775807
    · obtain ⟨n, hn⟩ : ∃ n, valT s.data.toList = n := ⟨_, rfl⟩
      have hok := Lib.hid (hA.1 hr)
      have HT := Lib.hid ht
      rw [hn] at hok hr
      have HI := Lib.hid (text_in s.data.toList low high ht)
      have HO := Lib.hid (text_out s.data.toList low high ht)
      rw [hn] at HI HO
      clear ht hA hn
      by_cases hlo : n < low
      · go_enter Tryd.func6, Tryd.ntmps6
        go_wp2_with (first | (go_at_call 15; refine (isText_yes s (by unfold maxLen; omega) HT.out _).mono ?_; rintro e w' ⟨rfl, rfl⟩) | (go_at_call 16; refine (atoi_yes s hs n hok.out _).mono ?_; rintro e w1 ⟨rfl, hb⟩))
        go_ret2
        exact ⟨ret_two (HO.out (by omega)).1.symm (HO.out (by omega)).2.symm, hb⟩
      · by_cases hhi : high < n
        · go_enter Tryd.func6, Tryd.ntmps6
          go_wp2_with (first | (go_at_call 15; refine (isText_yes s (by unfold maxLen; omega) HT.out _).mono ?_; rintro e w' ⟨rfl, rfl⟩) | (go_at_call 16; refine (atoi_yes s hs n hok.out _).mono ?_; rintro e w1 ⟨rfl, hb⟩))
          go_ret2
          exact ⟨ret_two (HO.out (by omega)).1.symm (HO.out (by omega)).2.symm, hb⟩
        · go_enter Tryd.func6, Tryd.ntmps6
          go_wp2_with (first | (go_at_call 15; refine (isText_yes s (by unfold maxLen; omega) HT.out _).mono ?_; rintro e w' ⟨rfl, rfl⟩) | (go_at_call 16; refine (atoi_yes s hs n hok.out _).mono ?_; rintro e w1 ⟨rfl, hb⟩))
          go_ret2
          exact ⟨ret_two (HI.out (by omega)).1.symm (HI.out (by omega)).2.symm, hb⟩
    · have hrg := Lib.hid (hA.2 hr)
      have HT := Lib.hid ht
      have HP := Lib.hid (text_out s.data.toList low high ht (fun e => hr ⟨e.1, e.2.1⟩))
      clear ht hA hr
      go_enter Tryd.func6, Tryd.ntmps6
      go_wp2_with (first | (go_at_call 15; refine (isText_yes s (by unfold maxLen; omega) HT.out _).mono ?_; rintro e w' ⟨rfl, rfl⟩) | (go_at_call 16; refine (Tryd.strconv_Atoi_range_var s hs hrg.out tp pv _ HV.out).mono ?_; rintro e w1 ⟨N, rfl, -, -, hb⟩))
      go_ret2
      exact ⟨ret_two HP.out.1.symm HP.out.2.symm, hb⟩
end Go.Proofs.YteajollkmbnimaaDoor.NumW
