/-
  Layer 3 (name), walks of lives and of the laws NameChecks and NameSorts: they return true, at every argument; new memory may be laid, nothing that was there is changed.
-/
import Derived.Test.YtpefncegkhkeaaaW03Code
namespace Go.Proofs.Ytpefncegkhkeaaa.W03
open Go Go.RowKit Go.Proofs.Ytpefncegkhkeaaa.Strs Go.Proofs.Ytpefncegkhkeaaa.M03
open Go.Proofs.Ytpefncegkhkeaaa.Kit (ret_str ret_bool ret_int mk_of below_draws on)

theorem life_check (w : World) : Calls Try.prog 7 #[.string ⟨#[97, 47, 98]⟩] w fun e w' => e = .returned (.int .i64 11) ∧ Below w.heap.size w w' := by
  have h := check_any ⟨#[97, 47, 98]⟩ (by decide) w
  rw [show check (⟨#[97, 47, 98]⟩ : ByteArray).data.toList = 11 by decide +kernel] at h; exact h
theorem life_right (w : World) : Calls Try.prog 6 #[.string ⟨#[97]⟩] w fun e w' => e = .returned (.bool true) ∧ Below w.heap.size w w' := by
  have h := right_any ⟨#[97]⟩ (by decide) w
  rw [show check (⟨#[97]⟩ : ByteArray).data.toList = 0 by decide +kernel] at h; exact h
theorem life_plain (w : World) : Calls Try.prog 5 #[.string ⟨#[103, 99, 99, 45, 57]⟩] w fun e w' => e = .returned (.bool true) ∧ Below w.heap.size w w' := by
  have h := plain_any ⟨#[103, 99, 99, 45, 57]⟩ (by decide) w
  rw [show plain (⟨#[103, 99, 99, 45, 57]⟩ : ByteArray).data.toList = true by decide +kernel] at h; exact h
set_option maxHeartbeats 400000 in
theorem lives_any (w : World) : Calls Try.prog 10 #[] w fun e w' => e = .returned (.bool true) ∧ Below w.heap.size w w' := by
  go_enter Try.func10, Try.ntmps10
  go_wp2_with fail
  refine (life_check _).mono ?_
  rintro e w1 ⟨rfl, hb1⟩
  have B1 := Lib.hid hb1
  clear hb1
  go_wp2_with fail
  refine (life_right _).mono ?_
  rintro e w2 ⟨rfl, hb2⟩
  have B2 := Lib.hid (on B1.out hb2)
  clear hb2
  go_wp2_with fail
  refine (life_plain _).mono ?_
  rintro e w3 ⟨rfl, hb3⟩
  have B3 := Lib.hid (on B2.out hb3)
  clear hb3
  go_wp2_with fail
  go_ret
  exact ⟨rfl, B3.out⟩

set_option maxHeartbeats 400000 in
/-- behind the first test -/
theorem nameChecks_law (s : ByteArray) (hs : s.size ≤ 140737488351232) (w : World) : Calls Try.prog 3 #[.string s] w fun e w' => e = .returned (.bool true) ∧ Below w.heap.size w w' := by
  have HC := Lib.hid (check_any s hs)
  have HR := Lib.hid (right_any s hs)
  have HP := Lib.hid (plain_any s hs)
  have HRC := Lib.hid (refCheck_any s)
  have HRP := Lib.hid (refPlain_any s (by unfold maxLen; omega))
  have hpr := plain_right (l := s.data.toList)
  generalize check s.data.toList = c at *
  generalize plain s.data.toList = p at *
  obtain ⟨r, hr⟩ : ∃ r, decide (c = 0) = r := ⟨_, rfl⟩
  rw [hr] at HR
  have hcr : (c == 0) = r := by rw [← hr]; by_cases h : c = 0 <;> simp [h]
  have hprr : p = true → r = true := fun h => by rw [← hr, hpr h]; rfl
  clear hr hpr
  have hcc : (c == c) = true := by simp
  have hrr : (r == r) = true := by simp
  have hpp : (p == p) = true := by simp
  go_enter Try.func3, Try.ntmps3
  cases p with
  | true =>
    obtain rfl : r = true := hprr rfl
    clear hprr
    go_wp2_with fail
    refine (HP.out _).mono ?_
    rintro e w1 ⟨rfl, hb1⟩
    have B1 := Lib.hid hb1
    clear hb1
    go_wp2_with fail
    refine (HR.out _).mono ?_
    rintro e w2 ⟨rfl, hb2⟩
    have B2 := Lib.hid (on B1.out hb2)
    clear hb2
    go_wp2_with fail
    refine (HC.out _).mono ?_
    rintro e w3 ⟨rfl, hb3⟩
    have B3 := Lib.hid (on B2.out hb3)
    clear hb3
    go_wp2_with fail
    refine (HRC.out _).mono ?_
    rintro e w4 ⟨rfl, rfl⟩
    go_wp2_with fail
    refine (HR.out _).mono ?_
    rintro e w5 ⟨rfl, hb5⟩
    have B5 := Lib.hid (on B3.out hb5)
    clear hb5
    go_wp2_with fail
    refine (HRC.out _).mono ?_
    rintro e w6 ⟨rfl, rfl⟩
    go_wp2_with fail
    refine (HP.out _).mono ?_
    rintro e w7 ⟨rfl, hb7⟩
    have B7 := Lib.hid (on B5.out hb7)
    clear hb7
    go_wp2_with fail
    refine (HRP.out _).mono ?_
    rintro e w8 ⟨rfl, rfl⟩
    go_wp2_with fail
    refine (lives_any _).mono ?_
    rintro e w9 ⟨rfl, hb9⟩
    have B9 := Lib.hid (on B7.out hb9)
    clear hb9
    go_wp2_with fail
    go_ret
    exact ⟨rfl, B9.out⟩
  | false =>
    clear hprr
    go_wp2_with fail
    refine (HP.out _).mono ?_
    rintro e w1 ⟨rfl, hb1⟩
    have B2 := Lib.hid hb1
    clear hb1
    go_wp2_with fail
    refine (HC.out _).mono ?_
    rintro e w3 ⟨rfl, hb3⟩
    have B3 := Lib.hid (on B2.out hb3)
    clear hb3
    go_wp2_with fail
    refine (HRC.out _).mono ?_
    rintro e w4 ⟨rfl, rfl⟩
    go_wp2_with fail
    refine (HR.out _).mono ?_
    rintro e w5 ⟨rfl, hb5⟩
    have B5 := Lib.hid (on B3.out hb5)
    clear hb5
    go_wp2_with fail
    refine (HRC.out _).mono ?_
    rintro e w6 ⟨rfl, rfl⟩
    go_wp2_with fail
    refine (HP.out _).mono ?_
    rintro e w7 ⟨rfl, hb7⟩
    have B7 := Lib.hid (on B5.out hb7)
    clear hb7
    go_wp2_with fail
    refine (HRP.out _).mono ?_
    rintro e w8 ⟨rfl, rfl⟩
    go_wp2_with fail
    refine (lives_any _).mono ?_
    rintro e w9 ⟨rfl, hb9⟩
    have B9 := Lib.hid (on B7.out hb9)
    clear hb9
    go_wp2_with fail
    go_ret
    exact ⟨rfl, B9.out⟩

/-! ### NameSorts -/
theorem same_yes (va vb : Value) (L : List (List UInt8)) (B : Nat) (w : World) (ha : Texts B w va L) (hb : Texts B w vb L) :
    Calls Try.prog 14 #[va, vb] w fun e w' => e = .returned (.bool true) ∧ Below w.heap.size w w' :=
  (W02.same_any va vb L L B w ha hb).mono fun _ _ ⟨he, n, hw⟩ => ⟨by rw [he]; exact ret_bool (by simp), by rw [hw]; exact below_draws _ _⟩
theorem sort_len {L M : List (List UInt8)} (h : Rises M ∧ ∀ x, x ∈ M ↔ x ∈ L) : M.length ≤ L.length := sub_len M L (rises_nodup h.1) (fun x hx => (h.2 x).1 hx)
theorem sort_one {L M N : List (List UInt8)} (h : Rises M ∧ ∀ x, x ∈ M ↔ x ∈ L) (h2 : Rises N ∧ ∀ x, x ∈ N ↔ x ∈ L) : N = M := rises_unique h2.1 h.1 (fun x => (h2.2 x).trans (h.2 x).symm)
theorem refSort_reads (v : Value) (L : List (List UInt8)) (w : World) (h : Texts w.heap.size w v L) (hn : L.length ≤ 1099511627776) :
    Calls Try.prog 15 #[v] w fun e w' => ∃ u M, e = .returned u ∧ Texts w'.heap.size w' u M ∧ (Rises M ∧ ∀ x, x ∈ M ↔ x ∈ L) ∧ Below w.heap.size w w' :=
  (refSort_any v L w h hn).mono fun _ _ ⟨u, M, he, hown, hM, hb⟩ => ⟨u, M, he, Texts.of_own hown, hM, hb⟩

set_option maxHeartbeats 400000 in
theorem nameSorts_short (w : World) (v : Value) (L : List (List UInt8)) (h : Texts w.heap.size w v L) (hl : ∀ l ∈ L, l.length ≤ maxLen) (s : ByteArray) (hn : (L.length : Int) ≤ 100) : Calls Try.prog 4 #[v, .string s] w fun e w' => e = .returned (.bool true) ∧ Below w.heap.size w w' := by
  have HS := Lib.hid (sort_any v L w h (by omega) hl)
  have H := Lib.hid h
  obtain ⟨A, c, rfl, hA1, hA2⟩ := h.form
  unfold maxLen at hA2
  clear h hl
  generalize hm : L.length = n at *
  have HM := Lib.hid hm
  clear hm
  go_enter Try.func4, Try.ntmps4
  go_wp2_with fail
  refine HS.out.mono ?_
  rintro e w1 ⟨u, M, rfl, hu, hM, hb1⟩
  have B1 := Lib.hid hb1
  have U := Lib.hid hu
  have M1 := Lib.hid hM
  have ML : Hid (M.length ≤ 100) := by have := sort_len hM; show _ ≤ _; rw [HM.out] at this; omega
  have H1 := Lib.hid ((H.out.below hb1).more hb1.size)
  clear hb1 hu hM
  have HF := Lib.hid (fun w (h : Texts w1.heap.size w u M) => find_any u M w1.heap.size s w h M1.out.1 (Nat.le_trans ML.out (by decide)))
  have HRF := Lib.hid (fun w (h : Texts w1.heap.size w u M) => refFind_any u M w1.heap.size s w h)
  generalize find M s.data.toList = R at *
  go_wp2_with fail
  refine (HF.out _ U.out).mono ?_
  rintro e w2 ⟨rfl, hb2⟩
  have B2 := Lib.hid (on B1.out hb2)
  have U2 := Lib.hid (U.out.below hb2)
  have H2 := Lib.hid ((H1.out.below hb2).more hb2.size)
  have hz2 := hb2.size
  clear hb2
  go_wp2_with fail
  refine (HRF.out _ U2.out).mono ?_
  rintro e w3 ⟨rfl, q, rfl⟩
  have ht1 : (((R.1 : Nat) : Int) == ((R.1 : Nat) : Int)) = true := by simp
  have ht2 : (R.2 == R.2) = true := by simp
  go_wp2_with fail
  refine (refSort_reads _ L (w2.drewN q) (H2.out.drewN q) (by rw [HM.out]; omega)).mono ?_
  rintro e w4 ⟨u4, M4, rfl, hu4, hM4, hb4⟩
  obtain rfl : M4 = M := sort_one M1.out hM4
  have B4 := Lib.hid (on (on B2.out (below_draws w2 q)) hb4)
  have U4 := Lib.hid hu4
  have V4 := Lib.hid ((((U2.out.drewN q).more hz2).below (w' := w4) hb4).more hb4.size)
  clear hb4 hu4 hM4
  go_wp2_with fail
  refine (same_yes _ _ _ _ _ V4.out U4.out).mono ?_
  rintro e w5 ⟨rfl, hb5⟩
  have B5 := Lib.hid (on B4.out hb5)
  clear hb5
  go_wp2_with fail
  refine (lives_any _).mono ?_
  rintro e w6 ⟨rfl, hb6⟩
  have B6 := Lib.hid (on B5.out hb6)
  clear hb6
  go_wp2_with fail
  go_ret
  exact ⟨rfl, B6.out⟩
set_option maxHeartbeats 400000 in
theorem nameSorts_long (w : World) (v : Value) (L : List (List UInt8)) (h : Texts w.heap.size w v L) (s : ByteArray) (hn : (100 : Int) < (L.length : Int)) : Calls Try.prog 4 #[v, .string s] w fun e w' => e = .returned (.bool true) ∧ Below w.heap.size w w' := by
  obtain ⟨A, c, rfl, hA1, hA2⟩ := h.form
  go_enter Try.func4, Try.ntmps4
  go_wp2_with fail
  refine (lives_any _).mono ?_
  rintro e w6 ⟨rfl, hb6⟩
  go_wp2_with fail
  go_ret
  exact ⟨rfl, hb6⟩
theorem nameSorts_law (w : World) (v : Value) (L : List (List UInt8)) (h : Texts w.heap.size w v L) (hl : ∀ l ∈ L, l.length ≤ maxLen) (s : ByteArray) (_hs : s.size ≤ 140737488351232) : Calls Try.prog 4 #[v, .string s] w fun e w' => e = .returned (.bool true) ∧ Below w.heap.size w w' := by
  by_cases hn : (L.length : Int) ≤ 100
  · exact nameSorts_short w v L h hl s hn
  · exact nameSorts_long w v L h s (by omega)
end Go.Proofs.Ytpefncegkhkeaaa.W03
