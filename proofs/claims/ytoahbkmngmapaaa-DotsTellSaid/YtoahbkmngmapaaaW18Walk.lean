/-
  Layer 18 (dots): To, From, Is of the program, and the document's own To and From. The conditions stand in the statements.
-/
import Derived.Test.YtoahbkmngmapaaaShelf
import Derived.Test.YtoahbkmngmapaaaW18Math
namespace Go.Proofs.Ytoahbkmngmapaaa.W18
set_option maxRecDepth 100000
open Go Go.RowKit Go.Proofs.Ytoahbkmngmapaaa.M18
open Go.Proofs.Ytoahbkmngmapaaa.Kit (ret_str ret_bool mk_of mk_bytes ba_ext cat_bytes byte_eq byte_ne list_full list_ne list_none list_nil)

theorem eq_bytes {t u : ByteArray} (h : t.data.toList = u.data.toList) : (t.toList == u.toList) = true := by rw [Lib.toList_data, Lib.toList_data, h]; simp
theorem ne_bytes {t u : ByteArray} (h : ¬ t.data.toList = u.data.toList) : (t.toList == u.toList) = false := by rw [Lib.toList_data, Lib.toList_data]; simpa using h
section
variable {s a b d q : ByteArray} {w : World}
theorem swap_no (h : Lib.hasPrefix s.data.toList a.data.toList = false) (hd : d.data.toList = swap s.data.toList a.data.toList b.data.toList) : s = d := ba_ext (by rw [hd, swap_other h])
theorem swap_void (h : Lib.hasPrefix s.data.toList a.data.toList = true) (hq : q.data.toList = Lib.trimPrefix s.data.toList a.data.toList) (h0 : bare q.data.toList = true) (hd : d.data.toList = swap s.data.toList a.data.toList b.data.toList) : s = d := by
  unfold Lib.trimPrefix at hq
  rw [if_pos h] at hq
  rw [hq] at h0
  exact ba_ext (by rw [hd, swap_bare h0])
theorem swap_text (h : Lib.hasPrefix s.data.toList a.data.toList = true) (hq : q.data.toList = Lib.trimPrefix s.data.toList a.data.toList) (h0 : bare q.data.toList = false) (hd : d.data.toList = swap s.data.toList a.data.toList b.data.toList) : b ++ q = d := by
  unfold Lib.trimPrefix at hq
  rw [if_pos h] at hq
  rw [hq] at h0
  exact ba_ext (by rw [hd, swap_yes h h0, cat_bytes, hq])
theorem trim_size (hq : q.data.toList = Lib.trimPrefix s.data.toList a.data.toList) : q.size ≤ s.size := by
  rw [Lib.size_eq, Lib.size_eq, hq]
  unfold Lib.trimPrefix
  split
  · rw [List.length_drop]; omega
  · exact Nat.le_refl _
set_option maxHeartbeats 1000000 in
theorem swap_any (hd : d.data.toList = swap s.data.toList a.data.toList b.data.toList) (hds : d.size ≤ 9223372036854775807) :
    Calls Try.prog 10 #[.string s, .string a, .string b] w fun e w' => e = .returned (.string d) ∧ w' = w := by
  obtain ⟨q, hq⟩ : ∃ q : ByteArray, q.data.toList = Lib.trimPrefix s.data.toList a.data.toList := ⟨⟨(Lib.trimPrefix s.data.toList a.data.toList).toArray⟩, rfl⟩
  have HQ := Lib.hid hq
  have hqs := trim_size hq
  have HC : Hid (∀ w : World, Calls Try.prog 11 #[.string s, .string a] w fun e w' => e = .returned (.tuple #[.string q, .bool (Lib.hasPrefix s.data.toList a.data.toList)]) ∧ w' = w) := fun w => by
    have := Try.strings_CutPrefix s a w
    rw [mk_of hq] at this
    exact this
  have HP := Lib.hid (fun w => Try.strings_HasPrefix q ⟨#[46]⟩ w)
  have HD := Lib.hid hd
  clear hq hd
  cases h1 : Lib.hasPrefix s.data.toList a.data.toList with
  | false =>
    have HE := Lib.hid (swap_no h1 HD.out)
    rw [h1] at HC
    clear h1
    go_enter Try.func10, Try.ntmps10
    go_wp2_with fail
    refine (HC.out _).mono ?_
    rintro e w1 ⟨rfl, rfl⟩
    go_wp2_with fail
    go_ret
    exact ⟨ret_str HE.out, rfl⟩
  | true =>
    have H1 := Lib.hid h1
    rw [h1] at HC
    clear h1
    by_cases h0 : 0 < q.size
    · have z1 := list_ne h0
      have z2 := list_full h0
      cases h2 : Lib.hasPrefix q.data.toList [46] with
      | true =>
        have HE := Lib.hid (swap_void H1.out HQ.out (by unfold bare; rw [h2, Bool.or_true]) HD.out)
        have HP : Hid (∀ w : World, Calls Try.prog 12 #[.string q, .string ⟨#[46]⟩] w fun e w' => e = .returned (.bool true) ∧ w' = w) := fun w => by
          have := HP.out w
          rw [show (⟨#[46]⟩ : ByteArray).data.toList = [46] from rfl, h2] at this
          exact this
        clear h2
        go_enter Try.func10, Try.ntmps10
        go_wp2_with fail
        refine (HC.out _).mono ?_
        rintro e w1 ⟨rfl, rfl⟩
        go_wp2_with fail
        refine (HP.out _).mono ?_
        rintro e w1 ⟨rfl, rfl⟩
        go_wp2_with fail
        go_ret
        exact ⟨ret_str HE.out, rfl⟩
      | false =>
        have HE := Lib.hid (swap_text H1.out HQ.out (by unfold bare; rw [h2, Bool.or_false, ← Lib.toList_data]; exact z2) HD.out)
        have hbq : b.size + q.size ≤ 9223372036854775807 := by rw [← HE.out, ByteArray.size_append] at hds; exact hds
        have HP : Hid (∀ w : World, Calls Try.prog 12 #[.string q, .string ⟨#[46]⟩] w fun e w' => e = .returned (.bool false) ∧ w' = w) := fun w => by
          have := HP.out w
          rw [show (⟨#[46]⟩ : ByteArray).data.toList = [46] from rfl, h2] at this
          exact this
        clear h2
        go_enter Try.func10, Try.ntmps10
        go_wp2_with fail
        refine (HC.out _).mono ?_
        rintro e w1 ⟨rfl, rfl⟩
        go_wp2_with fail
        refine (HP.out _).mono ?_
        rintro e w1 ⟨rfl, rfl⟩
        go_wp2_with fail
        go_ret
        exact ⟨ret_str HE.out, rfl⟩
    · have z1 := list_nil h0
      have z2 := list_none h0
      have HE := Lib.hid (swap_void H1.out HQ.out (by unfold bare; rw [← Lib.toList_data, z2]; rfl) HD.out)
      go_enter Try.func10, Try.ntmps10
      go_wp2_with fail
      refine (HC.out _).mono ?_
      rintro e w1 ⟨rfl, rfl⟩
      go_wp2_with fail
      go_ret
      exact ⟨ret_str HE.out, rfl⟩
set_option maxHeartbeats 400000 in
theorem to_any (hd : d.data.toList = toP s.data.toList) (hs : s.size ≤ 9223372036854775807) : Calls Try.prog 6 #[.string s] w fun e w' => e = .returned (.string d) ∧ w' = w := by
  have HS : Hid (∀ w : World, Calls Try.prog 10 #[.string s, .string ⟨#[100, 111, 116, 45]⟩, .string ⟨#[46]⟩] w fun e w' => e = .returned (.string d) ∧ w' = w) := fun w => swap_any hd (by have := to_len s.data.toList; rw [← hd, ← Lib.size_eq, ← Lib.size_eq] at this; omega)
  clear hd
  go_enter Try.func6, Try.ntmps6
  go_wp2_with fail
  refine (HS.out _).mono ?_
  rintro e w1 ⟨rfl, rfl⟩
  go_wp2_with fail
  go_ret
  exact ⟨rfl, rfl⟩
set_option maxHeartbeats 400000 in
theorem of_any (hd : d.data.toList = ofP s.data.toList) (hs : s.size ≤ 140737488355328) : Calls Try.prog 5 #[.string s] w fun e w' => e = .returned (.string d) ∧ w' = w := by
  have HS : Hid (∀ w : World, Calls Try.prog 10 #[.string s, .string ⟨#[46]⟩, .string ⟨#[100, 111, 116, 45]⟩] w fun e w' => e = .returned (.string d) ∧ w' = w) := fun w => swap_any hd (by have := of_len s.data.toList; rw [← hd, ← Lib.size_eq, ← Lib.size_eq] at this; omega)
  clear hd
  go_enter Try.func5, Try.ntmps5
  go_wp2_with fail
  refine (HS.out _).mono ?_
  rintro e w1 ⟨rfl, rfl⟩
  go_wp2_with fail
  go_ret
  exact ⟨rfl, rfl⟩
set_option maxHeartbeats 400000 in
theorem is_any {o : Bool} (ho : decide (toP s.data.toList = s.data.toList) = !o) (hs : s.size ≤ 9223372036854775807) : Calls Try.prog 4 #[.string s] w fun e w' => e = .returned (.bool o) ∧ w' = w := by
  obtain ⟨d, hd⟩ : ∃ d : ByteArray, d.data.toList = toP s.data.toList := ⟨⟨(toP s.data.toList).toArray⟩, rfl⟩
  have HT : Hid (∀ w : World, Calls Try.prog 6 #[.string s] w fun e w' => e = .returned (.string d) ∧ w' = w) := fun w => to_any hd hs
  cases o with
  | true =>
    have tt := ne_bytes (t := d) (u := s) (by rw [hd]; simpa using ho)
    clear hd ho
    go_enter Try.func4, Try.ntmps4
    go_wp2_with fail
    refine (HT.out _).mono ?_
    rintro e w1 ⟨rfl, rfl⟩
    go_wp2_with fail
    go_ret
    exact ⟨ret_bool (by first | rfl | simp [tt]), rfl⟩
  | false =>
    have tt := eq_bytes (t := d) (u := s) (by rw [hd]; simpa using ho)
    clear hd ho
    go_enter Try.func4, Try.ntmps4
    go_wp2_with fail
    refine (HT.out _).mono ?_
    rintro e w1 ⟨rfl, rfl⟩
    go_wp2_with fail
    go_ret
    exact ⟨ret_bool (by first | rfl | simp [tt]), rfl⟩
set_option maxHeartbeats 1000000 in
theorem refTo_any (hd : d.data.toList = toP s.data.toList) (hs : s.size ≤ 9223372036854775807) : Calls Try.prog 7 #[.string s] w fun e w' => e = .returned (.string d) ∧ w' = w := by
  by_cases h4 : 4 < s.size
  · cases h1 : ((s.extract 0 4).toList == [100, 111, 116, 45]) with
    | false =>
      have HE : Hid (s = d) := ba_ext (by rw [hd, to_other h1])
      clear hd
      go_enter Try.func7, Try.ntmps7
      go_wp2_with fail
      go_ret
      exact ⟨ret_str HE.out, rfl⟩
    | true =>
      by_cases h46 : (s[4].toNat : Int) = 46
      · have HE : Hid (s = d) := ba_ext (by rw [hd, to_point h4 (byte_eq (d := 46) h46)])
        have t46 : ((s[4].toNat : Int) != 46) = false := by simp [h46]
        clear hd h46
        go_enter Try.func7, Try.ntmps7
        go_wp2_with fail
        go_ret
        exact ⟨ret_str HE.out, rfl⟩
      · have HE : Hid (⟨#[46]⟩ ++ s.extract 4 s.size = d) := ba_ext (by rw [hd, to_yes h4 h1 (byte_ne (d := 46) h46)])
        have t46 : ((s[4].toNat : Int) != 46) = true := by simp [h46]
        clear hd h46
        go_enter Try.func7, Try.ntmps7
        go_wp2_with fail
        go_ret
        exact ⟨ret_str HE.out, rfl⟩
  · have HE : Hid (s = d) := ba_ext (by rw [hd, to_short h4])
    clear hd
    go_enter Try.func7, Try.ntmps7
    go_wp2_with fail
    go_ret
    exact ⟨ret_str HE.out, rfl⟩
set_option maxHeartbeats 1000000 in
theorem refFrom_any (hd : d.data.toList = ofP s.data.toList) (hs : s.size ≤ 140737488355328) : Calls Try.prog 8 #[.string s] w fun e w' => e = .returned (.string d) ∧ w' = w := by
  by_cases h4 : 1 < s.size
  · by_cases h0 : (s[0].toNat : Int) = 46
    · have t0 : ((s[0].toNat : Int) == 46) = true := by simp [h0]
      have H0 := Lib.hid (byte_eq (d := 46) h0)
      clear h0
      by_cases h46 : (s[1].toNat : Int) = 46
      · have HE : Hid (s = d) := ba_ext (by rw [hd, of_point h4 (byte_eq (d := 46) h46)])
        have t46 : ((s[1].toNat : Int) != 46) = false := by simp [h46]
        clear hd h46
        go_enter Try.func8, Try.ntmps8
        go_wp2_with fail
        go_ret
        exact ⟨ret_str HE.out, rfl⟩
      · have HE : Hid (⟨#[100, 111, 116, 45]⟩ ++ s.extract 1 s.size = d) := ba_ext (by rw [hd, of_yes h4 H0.out (byte_ne (d := 46) h46)])
        have t46 : ((s[1].toNat : Int) != 46) = true := by simp [h46]
        clear hd h46
        go_enter Try.func8, Try.ntmps8
        go_wp2_with fail
        go_ret
        exact ⟨ret_str HE.out, rfl⟩
    · have HE : Hid (s = d) := ba_ext (by rw [hd, of_other (by omega) (byte_ne (d := 46) h0)])
      have t0 : ((s[0].toNat : Int) == 46) = false := by simp [h0]
      clear hd h0
      go_enter Try.func8, Try.ntmps8
      go_wp2_with fail
      go_ret
      exact ⟨ret_str HE.out, rfl⟩
  · have HE : Hid (s = d) := ba_ext (by rw [hd, of_short h4])
    clear hd
    go_enter Try.func8, Try.ntmps8
    go_wp2_with fail
    go_ret
    exact ⟨ret_str HE.out, rfl⟩
end
set_option maxHeartbeats 400000 in
theorem lives_any (w : World) : Calls Try.prog 9 #[] w fun e w' => e = .returned (.bool true) ∧ w' = w := by
  have H1 : Hid (∀ w : World, Calls Try.prog 6 #[.string ⟨#[100, 111, 116, 45, 97]⟩] w fun e w' => e = .returned (.string ⟨#[46, 97]⟩) ∧ w' = w) := fun w => to_any (by decide +kernel) (by decide)
  have H2 : Hid (∀ w : World, Calls Try.prog 5 #[.string ⟨#[46, 97]⟩] w fun e w' => e = .returned (.string ⟨#[100, 111, 116, 45, 97]⟩) ∧ w' = w) := fun w => of_any (by decide +kernel) (by decide)
  have H3 : Hid (∀ w : World, Calls Try.prog 4 #[.string ⟨#[100, 111, 116, 45, 97]⟩] w fun e w' => e = .returned (.bool true) ∧ w' = w) := fun w => is_any (by decide +kernel) (by decide)
  go_enter Try.func9, Try.ntmps9
  go_wp2_with fail
  refine (H1.out _).mono ?_
  rintro e w1 ⟨rfl, rfl⟩
  go_wp2_with fail
  refine (H2.out _).mono ?_
  rintro e w1 ⟨rfl, rfl⟩
  go_wp2_with fail
  refine (H3.out _).mono ?_
  rintro e w1 ⟨rfl, rfl⟩
  go_wp2_with fail
  go_ret
  exact ⟨rfl, rfl⟩
end Go.Proofs.Ytoahbkmngmapaaa.W18
