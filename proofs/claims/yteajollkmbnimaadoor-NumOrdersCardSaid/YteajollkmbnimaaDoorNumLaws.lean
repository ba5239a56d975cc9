/-
  Layer 1 (num), walks of the laws NumTexts and NumBack, and of lives: they return true at every argument (texts of at most 2^48 bytes), under what the listed variables of Go's library hold; nothing that was there is changed.
-/
import Derived.Test.YteajollkmbnimaaDoorNumWalkG
namespace Go.Proofs.YteajollkmbnimaaDoor.NumW
open Go Go.RowKit Go.Proofs.YteajollkmbnimaaDoor.NumM

theorem below_draws (w : World) (n : Nat) : Below w.heap.size w (w.drewN n) := ⟨rfl, rfl, rfl, Nat.le_refl _, fun _ _ => rfl⟩
theorem natural_below (a b : ByteArray) (ha : a.size ≤ maxLen) (hb : b.size ≤ maxLen) (w : World) :
    Calls Tryd.prog 11 #[.string a, .string b] w fun e w' => e = .returned (.int .i64 (nat a.data.toList b.data.toList)) ∧ Below w.heap.size w w' :=
  (natural_any a b ha hb w).mono fun _ _ ⟨he, n, hw⟩ => ⟨he, by rw [hw]; exact below_draws _ _⟩
theorem Below.on {a b c : World} (h : Below a.heap.size a b) (k : Below b.heap.size b c) : Below a.heap.size a c := h.trans (k.mono h.size)

theorem gcc : nat [103, 99, 99, 45, 57] [103, 99, 99, 45, 49, 50] = -1 := by decide +kernel
theorem forty : isText [45, 52, 48] = true ∧ valT [45, 52, 48] = -40 := by decide +kernel
theorem forty_back : (⟨(Lib.itoa (-40)).toArray⟩ : ByteArray) = ⟨#[45, 52, 48]⟩ := by
  have h : Lib.itoa (-40) = 45 :: Lib.decDigits 40 := Lib.itoa_neg 40 (by decide)
  rw [h, Lib.decDigits_two (by decide) (by decide)]
  decide +kernel
theorem forty_text (w : World) (hh : Held w) : Calls Tryd.prog 8 #[.int .i64 (-40)] w fun e w' => e = .returned (.string ⟨#[45, 52, 48]⟩) ∧ Below w.heap.size w w' :=
  (text_any (-40) (by decide) (by decide) w hh).mono fun _ _ ⟨he, hb⟩ => ⟨by rw [he]; exact ret_str forty_back, hb⟩
theorem forty_parse (w : World) (hh : Held w) : Calls Tryd.prog 6 #[.string ⟨#[45, 52, 48]⟩, .int .i64 (-40), .int .i64 0] w fun e w' => e = .returned (.tuple #[.int .i64 (-40), .int .i64 0]) ∧ Below w.heap.size w w' := by
  obtain ⟨tp, pv, hv⟩ := hh.2
  refine (parse_any ⟨#[45, 52, 48]⟩ (by decide) (-40) 0 tp pv w hv).mono fun _ _ ⟨he, hb⟩ => ⟨?_, hb⟩
  have h := text_in [45, 52, 48] (-40) 0 forty.1 (by rw [forty.2]; decide)
  rw [forty.2] at h
  rw [he]
  exact ret_two h.1 h.2
theorem gcc_natural (w : World) : Calls Tryd.prog 11 #[.string ⟨#[103, 99, 99, 45, 57]⟩, .string ⟨#[103, 99, 99, 45, 49, 50]⟩] w fun e w' => e = .returned (.int .i64 (-1)) ∧ Below w.heap.size w w' :=
  (natural_below _ _ (by unfold maxLen; decide) (by unfold maxLen; decide) w).mono fun _ _ ⟨he, hb⟩ => ⟨by rw [he]; exact ret_int gcc, hb⟩

set_option maxHeartbeats 400000 in
theorem lives_any (w : World) (hh : Held w) : Calls Tryd.prog 10 #[] w fun e w' => e = .returned (.bool true) ∧ Below w.heap.size w w' := by
  have HH := Lib.hid hh
  clear hh
  go_enter Tryd.func10, Tryd.ntmps10
  go_wp2_with fail
  refine (forty_parse _ HH.out).mono ?_
  rintro e w1 ⟨rfl, hb1⟩
  have H1 := Lib.hid (HH.out.on hb1)
  have B1 := Lib.hid hb1
  clear hb1
  go_wp2_with fail
  refine (forty_text _ H1.out).mono ?_
  rintro e w2 ⟨rfl, hb2⟩
  have B2 := Lib.hid (Below.on B1.out hb2)
  clear hb2
  go_wp2_with fail
  refine (gcc_natural _).mono ?_
  rintro e w3 ⟨rfl, hb3⟩
  have B3 := Lib.hid (Below.on B2.out hb3)
  clear hb3
  go_wp2_with fail
  go_ret
  exact ⟨rfl, B3.out⟩

set_option maxHeartbeats 400000 in
theorem numTexts_any (n : Int) (h0 : -9223372036854775808 ≤ n) (h1 : n ≤ 9223372036854775807) (s : ByteArray) (hs : s.size ≤ 281474976710656) (low : Int) (w : World) (hh : Held w) :
    Calls Tryd.prog 3 #[.int .i64 n, .string s, .int .i64 low] w fun e w' => e = .returned (.bool true) ∧ Below w.heap.size w w' := by
  obtain ⟨tp, pv, hv⟩ := hh.2
  have HP := Lib.hid (parse_any s hs low n tp pv w hv)
  have HR := Lib.hid (refParse_any s hs low n)
  have HT := Lib.hid (text_any n h0 h1)
  have HS := Lib.hid (refText_any n h0 h1)
  have HH := Lib.hid hh
  clear hh hv
  generalize parseN s.data.toList low n = pn at *
  generalize parseE s.data.toList low n = pe at *
  generalize (⟨(Lib.itoa n).toArray⟩ : ByteArray) = d at *
  go_enter Tryd.func3, Tryd.ntmps3
  go_wp2_with fail
  refine HP.out.mono ?_
  rintro e w1 ⟨rfl, hb1⟩
  have H1 := Lib.hid (HH.out.on hb1)
  have B1 := Lib.hid hb1
  clear hb1
  go_wp2_with fail
  refine (HR.out _).mono ?_
  rintro e w2 ⟨rfl, rfl⟩
  go_wp2_with fail
  refine (HT.out _ H1.out).mono ?_
  rintro e w3 ⟨rfl, hb3⟩
  have H3 := Lib.hid (H1.out.on hb3)
  have B3 := Lib.hid (Below.on B1.out hb3)
  clear hb3
  go_wp2_with fail
  refine (HS.out _).mono ?_
  rintro e w4 ⟨rfl, hb4⟩
  have H4 := Lib.hid (H3.out.on hb4)
  have B4 := Lib.hid (Below.on B3.out hb4)
  clear hb4
  go_wp2_with fail
  refine (lives_any _ H4.out).mono ?_
  rintro e w5 ⟨rfl, hb5⟩
  have B5 := Lib.hid (Below.on B4.out hb5)
  clear hb5
  go_wp2_with fail
  go_ret
  exact ⟨rfl, B5.out⟩

/-- what is told is parsed -/
theorem parse_told (n low high : Int) (h0 : -9223372036854775808 ≤ n) (h1 : n ≤ 9223372036854775807) :
    (low ≤ n ∧ n ≤ high → parseN (Lib.itoa n) low high = n ∧ parseE (Lib.itoa n) low high = 0) ∧ (¬ (low ≤ n ∧ n ≤ high) → parseN (Lib.itoa n) low high = 0 ∧ parseE (Lib.itoa n) low high = 4) := by
  have h := itoa_text n
  constructor
  · intro hr
    have := text_in (Lib.itoa n) low high h.1 (by rw [h.2]; exact ⟨h0, h1, hr.1, hr.2⟩)
    rw [h.2] at this
    exact this
  · intro hr
    exact text_out (Lib.itoa n) low high h.1 (by rw [h.2]; exact fun e => hr ⟨e.2.2.1, e.2.2.2⟩)
theorem itoa_size (n : Int) (h0 : -9223372036854775808 ≤ n) (h1 : n ≤ 9223372036854775807) : (⟨(Lib.itoa n).toArray⟩ : ByteArray).size ≤ 100 := by
  show (Lib.itoa n).toArray.size ≤ 100
  rw [List.size_toArray]
  have key : ∀ u : Nat, u ≤ 9999999999999999999 → (Lib.decDigits u).length ≤ 19 := by
    intro u hu
    rcases Nat.lt_or_ge 19 (Lib.decDigits u).length with h6 | h6
    · have := val_big (digits_dec u) h6
      rw [decDigits_val] at this
      omega
    · exact h6
  unfold Lib.itoa
  split
  · have := key n.natAbs (by omega)
    simp only [List.length_cons]; omega
  · have := key n.toNat (by omega)
    omega

theorem told_parse (n low high : Int) (h0 : -9223372036854775808 ≤ n) (h1 : n ≤ 9223372036854775807) (w : World) (hh : Held w) :
    (low ≤ n ∧ n ≤ high → Calls Tryd.prog 6 #[.string ⟨(Lib.itoa n).toArray⟩, .int .i64 low, .int .i64 high] w fun e w' => e = .returned (.tuple #[.int .i64 n, .int .i64 0]) ∧ Below w.heap.size w w') ∧
    (¬ (low ≤ n ∧ n ≤ high) → Calls Tryd.prog 6 #[.string ⟨(Lib.itoa n).toArray⟩, .int .i64 low, .int .i64 high] w fun e w' => e = .returned (.tuple #[.int .i64 0, .int .i64 4]) ∧ Below w.heap.size w w') := by
  obtain ⟨tp, pv, hv⟩ := hh.2
  have hp := parse_any ⟨(Lib.itoa n).toArray⟩ (by have := itoa_size n h0 h1; omega) low high tp pv w hv
  have ht := parse_told n low high h0 h1
  exact ⟨fun h => hp.mono fun _ _ ⟨he, hb⟩ => ⟨by rw [he]; exact ret_two (ht.1 h).1 (ht.1 h).2, hb⟩, fun h => hp.mono fun _ _ ⟨he, hb⟩ => ⟨by rw [he]; exact ret_two (ht.2 h).1 (ht.2 h).2, hb⟩⟩

set_option maxHeartbeats 400000 in
theorem numBack_in (n : Int) (h0 : -9223372036854775808 ≤ n) (h1 : n ≤ 9223372036854775807) (low high : Int) (hlo : low ≤ n) (hhi : n ≤ high) (w : World) (hh : Held w) :
    Calls Tryd.prog 4 #[.int .i64 n, .int .i64 low, .int .i64 high] w fun e w' => e = .returned (.bool true) ∧ Below w.heap.size w w' := by
  have HT := Lib.hid (text_any n h0 h1)
  have HP := Lib.hid (fun w hh => (told_parse n low high h0 h1 w hh).1 ⟨hlo, hhi⟩)
  have HH := Lib.hid hh
  clear hh
  generalize (⟨(Lib.itoa n).toArray⟩ : ByteArray) = d at *
  go_enter Tryd.func4, Tryd.ntmps4
  go_wp2_with fail
  refine (HT.out _ HH.out).mono ?_
  rintro e w1 ⟨rfl, hb1⟩
  have H1 := Lib.hid (HH.out.on hb1)
  have B1 := Lib.hid hb1
  clear hb1
  go_wp2_with fail
  refine (HP.out _ H1.out).mono ?_
  rintro e w2 ⟨rfl, hb2⟩
  have H2 := Lib.hid (H1.out.on hb2)
  have B2 := Lib.hid (Below.on B1.out hb2)
  clear hb2
  go_wp2_with fail
  refine (lives_any _ H2.out).mono ?_
  rintro e w3 ⟨rfl, hb3⟩
  have B3 := Lib.hid (Below.on B2.out hb3)
  clear hb3
  go_wp2_with fail
  go_ret
  exact ⟨rfl, B3.out⟩

set_option maxHeartbeats 400000 in
theorem numBack_out (n : Int) (h0 : -9223372036854775808 ≤ n) (h1 : n ≤ 9223372036854775807) (low high : Int) (hr : ¬ (low ≤ n ∧ n ≤ high)) (w : World) (hh : Held w) :
    Calls Tryd.prog 4 #[.int .i64 n, .int .i64 low, .int .i64 high] w fun e w' => e = .returned (.bool true) ∧ Below w.heap.size w w' := by
  have HT := Lib.hid (text_any n h0 h1)
  have HP := Lib.hid (fun w hh => (told_parse n low high h0 h1 w hh).2 hr)
  have HH := Lib.hid hh
  clear hh
  generalize (⟨(Lib.itoa n).toArray⟩ : ByteArray) = d at *
  by_cases hlo : low ≤ n
  · have hhi : high < n := by omega
    clear hr
    go_enter Tryd.func4, Tryd.ntmps4
    go_wp2_with fail
    refine (HT.out _ HH.out).mono ?_
    rintro e w1 ⟨rfl, hb1⟩
    have H1 := Lib.hid (HH.out.on hb1)
    have B1 := Lib.hid hb1
    clear hb1
    go_wp2_with fail
    refine (HP.out _ H1.out).mono ?_
    rintro e w2 ⟨rfl, hb2⟩
    have H2 := Lib.hid (H1.out.on hb2)
    have B2 := Lib.hid (Below.on B1.out hb2)
    clear hb2
    go_wp2_with fail
    refine (lives_any _ H2.out).mono ?_
    rintro e w3 ⟨rfl, hb3⟩
    have B3 := Lib.hid (Below.on B2.out hb3)
    clear hb3
    go_wp2_with fail
    go_ret
    exact ⟨ret_bool (by simp; omega), B3.out⟩
  · have hlo2 : n < low := by omega
    clear hr hlo
    go_enter Tryd.func4, Tryd.ntmps4
    go_wp2_with fail
    refine (HT.out _ HH.out).mono ?_
    rintro e w1 ⟨rfl, hb1⟩
    have H1 := Lib.hid (HH.out.on hb1)
    have B1 := Lib.hid hb1
    clear hb1
    go_wp2_with fail
    refine (HP.out _ H1.out).mono ?_
    rintro e w2 ⟨rfl, hb2⟩
    have H2 := Lib.hid (H1.out.on hb2)
    have B2 := Lib.hid (Below.on B1.out hb2)
    clear hb2
    go_wp2_with fail
    refine (lives_any _ H2.out).mono ?_
    rintro e w3 ⟨rfl, hb3⟩
    have B3 := Lib.hid (Below.on B2.out hb3)
    clear hb3
    go_wp2_with fail
    go_ret
    exact ⟨rfl, B3.out⟩
theorem numBack_any (n : Int) (h0 : -9223372036854775808 ≤ n) (h1 : n ≤ 9223372036854775807) (low high : Int) (w : World) (hh : Held w) :
    Calls Tryd.prog 4 #[.int .i64 n, .int .i64 low, .int .i64 high] w fun e w' => e = .returned (.bool true) ∧ Below w.heap.size w w' := by
  by_cases h : low ≤ n ∧ n ≤ high
  · exact numBack_in n h0 h1 low high h.1 h.2 w hh
  · exact numBack_out n h0 h1 low high h w hh
theorem numTexts_law (n : Int) (h0 : -9223372036854775808 ≤ n) (h1 : n ≤ 9223372036854775807) (s : ByteArray) (hs : s.size ≤ 140737488351232) (low : Int) (_l0 : -9223372036854775808 ≤ low) (_l1 : low ≤ 9223372036854775807) (w : World) (hh : Held w) :
    Calls Tryd.prog 3 #[.int .i64 n, .string s, .int .i64 low] w fun e w' => e = .returned (.bool true) ∧ Below w.heap.size w w' :=
  numTexts_any n h0 h1 s (by omega) low w hh
theorem numBack_law (n : Int) (h0 : -9223372036854775808 ≤ n) (h1 : n ≤ 9223372036854775807) (low : Int) (_l0 : -9223372036854775808 ≤ low) (_l1 : low ≤ 9223372036854775807) (high : Int) (_k0 : -9223372036854775808 ≤ high) (_k1 : high ≤ 9223372036854775807) (w : World) (hh : Held w) :
    Calls Tryd.prog 4 #[.int .i64 n, .int .i64 low, .int .i64 high] w fun e w' => e = .returned (.bool true) ∧ Below w.heap.size w w' :=
  numBack_any n h0 h1 low high w hh
end Go.Proofs.YteajollkmbnimaaDoor.NumW
