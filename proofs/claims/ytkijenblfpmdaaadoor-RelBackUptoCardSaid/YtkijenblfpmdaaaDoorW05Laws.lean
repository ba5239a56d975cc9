/-
  Layer 5 (rel), walks of lives and of the laws RelTells and RelBack: they return true, at texts of at most 2^20 bytes; new memory may be laid, nothing that was there is changed.
-/
import Derived.Test.YtkijenblfpmdaaaDoorW05Code
namespace Go.Proofs.YtkijenblfpmdaaaDoor.W05
open Go Go.RowKit Go.Proofs.YtkijenblfpmdaaaDoor.Strs Go.Proofs.YtkijenblfpmdaaaDoor.M04 Go.Proofs.YtkijenblfpmdaaaDoor.M05
open Go.Proofs.YtkijenblfpmdaaaDoor.W04 (refParts_hands refParts_any refClean_any Hands text_of size_of eq_bytes ne_bytes)
open Go.Proofs.YtkijenblfpmdaaaDoor.Kit (ret_str ret_bool ret_int mk_of mk_bytes ba_ext below_draws on)

theorem life_to (w : World) : Calls Tryd.prog 9 #[.string ⟨#[47, 97, 47, 98]⟩, .string ⟨#[47, 97, 47, 99, 47, 100]⟩] w fun e w' => e = .returned (.string ⟨#[46, 46, 47, 99, 47, 100]⟩) ∧ Below w.heap.size w w' :=
  to_at ⟨#[47, 97, 47, 98]⟩ ⟨#[47, 97, 47, 99, 47, 100]⟩ ⟨#[46, 46, 47, 99, 47, 100]⟩ (by decide +kernel) (by decide) (by decide) w
theorem life_steps (w : World) : Calls Tryd.prog 10 #[.string ⟨#[47, 97, 47, 98]⟩, .string ⟨#[47, 97, 47, 99, 47, 100]⟩] w fun e w' => e = .returned (.int .i64 3) ∧ Below w.heap.size w w' := by
  have h := steps_any ⟨#[47, 97, 47, 98]⟩ ⟨#[47, 97, 47, 99, 47, 100]⟩ (by decide) (by decide) w
  rw [show steps (⟨#[47, 97, 47, 98]⟩ : ByteArray).data.toList (⟨#[47, 97, 47, 99, 47, 100]⟩ : ByteArray).data.toList = 3 by decide +kernel] at h
  exact h
set_option maxHeartbeats 400000 in
theorem lives_any (w : World) : Calls Tryd.prog 12 #[] w fun e w' => e = .returned (.bool true) ∧ Below w.heap.size w w' := by
  go_enter Tryd.func12, Tryd.ntmps12
  go_wp2_with fail
  refine (life_to _).mono ?_
  rintro e w1 ⟨rfl, hb1⟩
  have B1 := Lib.hid hb1
  clear hb1
  go_wp2_with fail
  refine (life_steps _).mono ?_
  rintro e w2 ⟨rfl, hb2⟩
  have B2 := Lib.hid (on B1.out hb2)
  clear hb2
  go_wp2_with fail
  go_ret
  exact ⟨rfl, B2.out⟩

set_option maxHeartbeats 2000000 in
theorem relTells_law (dir : ByteArray) (hs : dir.size ≤ 1048576) (s : ByteArray) (hs2 : s.size ≤ 1048576) (text : ByteArray) (hs3 : text.size ≤ 1048576) (w : World) : Calls Tryd.prog 3 #[.string dir, .string s, .string text] w fun e w' => e = .returned (.bool true) ∧ Below w.heap.size w w' := by
  obtain ⟨x, hx⟩ := text_of (join dir.data.toList text.data.toList)
  obtain ⟨y, hy⟩ := text_of (join dir.data.toList s.data.toList)
  obtain ⟨t, ht⟩ := text_of (to dir.data.toList s.data.toList)
  have hts : t.size ≤ 4194316 := by
    have := to_len dir.data.toList s.data.toList
    rw [← ht, ← Lib.size_eq, ← Lib.size_eq, ← Lib.size_eq] at this; omega
  have HE := Lib.hid (end_at dir text x hx (by omega) (by omega))
  have HRE := Lib.hid (refEnd_any dir text x hx (by omega))
  have HRS := Lib.hid (refEnd_any dir s y hy (by omega))
  have HT := Lib.hid (to_at dir s t ht (by omega) (by omega))
  have HRT := Lib.hid (refTo_any dir s t ht (by omega) (by omega))
  have HP := Lib.hid (refParts_hands t (by omega))
  have HN := Lib.hid (steps_any dir s (by omega) (by omega))
  have HM := Lib.hid (same_any dir text s (by omega) (by omega) (by omega))
  have HST := Lib.hid (steps_to dir.data.toList s.data.toList)
  rw [← ht] at HST
  have HSM : Hid (sameEnd dir.data.toList text.data.toList s.data.toList = ((x.toList == y.toList) && (rel text.data.toList == rel s.data.toList))) := by
    show _ = _
    unfold sameEnd
    rw [beq_text, hx, hy]
  clear hx hy ht
  generalize sameEnd dir.data.toList text.data.toList s.data.toList = m at *
  generalize steps dir.data.toList s.data.toList = n at *
  generalize rel text.data.toList = p at *
  generalize rel s.data.toList = q at *
  have t1 : (t.toList == t.toList) = true := by simp
  have t2 : (x.toList == x.toList) = true := by simp
  have t3 : (p == p) = true := by simp
  have t4 : (m == m) = true := by simp
  have HL := Lib.hid (fun e : t.data.toList = [46] => (if_pos e : (if t.data.toList = [46] then 0 else (parts t.data.toList).length) = 0))
  have HLN := Lib.hid (fun e : ¬ t.data.toList = [46] => (if_neg e : (if t.data.toList = [46] then 0 else (parts t.data.toList).length) = _))
  rw [HST.out] at HL HLN
  generalize parts t.data.toList = L at *
  have HNN : Hid (((t.toList == [46]) = true ∧ n = 0) ∨ ((t.toList == [46]) = false ∧ n = L.length)) := by
    by_cases e : t.data.toList = [46]
    · exact Or.inl ⟨by rw [Lib.toList_data, e]; rfl, HL.out e⟩
    · exact Or.inr ⟨by rw [Lib.toList_data]; simpa using e, HLN.out e⟩
  clear HL HLN HST
  go_enter Tryd.func3, Tryd.ntmps3
  cases hxy : (x.toList == y.toList) with
  | true =>
    have hxe := beq_iff_eq.1 hxy
    rw [hxy] at HSM
    obtain rfl : m = (p == q) := HSM.out
    clear hxe
    rcases HNN.out with ⟨hp, rfl⟩ | ⟨hp, rfl⟩
    · have hpe := beq_iff_eq.1 hp
      go_wp2_with fail
      refine (HE.out _).mono ?_
      rintro e w1 ⟨rfl, hb1⟩
      have B1 := Lib.hid hb1
      clear hb1
      go_wp2_with fail
      refine (HRE.out _).mono ?_
      rintro e w2 ⟨rfl, hb2⟩
      have B2 := Lib.hid (on B1.out hb2)
      clear hb2
      go_wp2_with fail
      refine (HRS.out _).mono ?_
      rintro e w3 ⟨rfl, hb3⟩
      have B3 := Lib.hid (on B2.out hb3)
      clear hb3
      go_wp2_with fail
      refine (HRT.out _).mono ?_
      rintro e w4 ⟨rfl, hb4⟩
      have B4 := Lib.hid (on B3.out hb4)
      clear hb4
      go_wp2_with fail
      refine (HT.out _).mono ?_
      rintro e w5 ⟨rfl, hb5⟩
      have B5 := Lib.hid (on B4.out hb5)
      clear hb5
      go_wp2_with fail
      refine (HRT.out _).mono ?_
      rintro e w6 ⟨rfl, hb6⟩
      have B6 := Lib.hid (on B5.out hb6)
      clear hb6
      go_wp2_with fail
      refine (HN.out _).mono ?_
      rintro e w7 ⟨rfl, hb7⟩
      have B7 := Lib.hid (on B6.out hb7)
      clear hb7
      go_wp2_with fail
      refine (HM.out _).mono ?_
      rintro e w8 ⟨rfl, hb8⟩
      have B8 := Lib.hid (on B7.out hb8)
      clear hb8
      go_wp2_with fail
      refine (lives_any _).mono ?_
      rintro e w9 ⟨rfl, hb9⟩
      have B9 := Lib.hid (on B8.out hb9)
      clear hb9
      go_wp2_with fail
      go_ret
      exact ⟨rfl, B9.out⟩
    · have hpe := beq_eq_false_iff_ne.1 hp
      go_wp2_with fail
      refine (HE.out _).mono ?_
      rintro e w1 ⟨rfl, hb1⟩
      have B1 := Lib.hid hb1
      clear hb1
      go_wp2_with fail
      refine (HRE.out _).mono ?_
      rintro e w2 ⟨rfl, hb2⟩
      have B2 := Lib.hid (on B1.out hb2)
      clear hb2
      go_wp2_with fail
      refine (HRS.out _).mono ?_
      rintro e w3 ⟨rfl, hb3⟩
      have B3 := Lib.hid (on B2.out hb3)
      clear hb3
      go_wp2_with fail
      refine (HRT.out _).mono ?_
      rintro e w4 ⟨rfl, hb4⟩
      have B4 := Lib.hid (on B3.out hb4)
      clear hb4
      go_wp2_with fail
      refine (HRT.out _).mono ?_
      rintro e w5 ⟨rfl, hb5⟩
      have B5 := Lib.hid (on B4.out hb5)
      clear hb5
      go_wp2_with fail
      refine (HP.out _).mono ?_
      rintro e w6 ⟨v_a, rfl, ht6, hb6⟩
      have T_a := Lib.hid ht6
      clear ht6
      have B6 := Lib.hid (on B5.out hb6)
      clear hb6
      obtain ⟨A, c, rfl, hA1, hA2⟩ := T_a.out.form
      unfold maxLen at hA2
      have t5 : ((L.length : Int) == (L.length : Int)) = true := by simp
      go_wp2_with fail
      refine (HT.out _).mono ?_
      rintro e w7 ⟨rfl, hb7⟩
      have T_a := Lib.hid ((T_a.out.below hb7).more hb7.size)
      have B7 := Lib.hid (on B6.out hb7)
      clear hb7
      go_wp2_with fail
      refine (HRT.out _).mono ?_
      rintro e w8 ⟨rfl, hb8⟩
      have T_a := Lib.hid ((T_a.out.below hb8).more hb8.size)
      have B8 := Lib.hid (on B7.out hb8)
      clear hb8
      go_wp2_with fail
      refine (HN.out _).mono ?_
      rintro e w9 ⟨rfl, hb9⟩
      have T_a := Lib.hid ((T_a.out.below hb9).more hb9.size)
      have B9 := Lib.hid (on B8.out hb9)
      clear hb9
      go_wp2_with fail
      refine (HM.out _).mono ?_
      rintro e w10 ⟨rfl, hb10⟩
      have T_a := Lib.hid ((T_a.out.below hb10).more hb10.size)
      have B10 := Lib.hid (on B9.out hb10)
      clear hb10
      go_wp2_with fail
      refine (lives_any _).mono ?_
      rintro e w11 ⟨rfl, hb11⟩
      have T_a := Lib.hid ((T_a.out.below hb11).more hb11.size)
      have B11 := Lib.hid (on B10.out hb11)
      clear hb11
      go_wp2_with fail
      go_ret
      exact ⟨rfl, B11.out⟩
  | false =>
    have hxe := beq_eq_false_iff_ne.1 hxy
    rw [hxy] at HSM
    obtain rfl : m = false := HSM.out
    rcases HNN.out with ⟨hp, rfl⟩ | ⟨hp, rfl⟩
    · have hpe := beq_iff_eq.1 hp
      go_wp2_with fail
      refine (HE.out _).mono ?_
      rintro e w1 ⟨rfl, hb1⟩
      have B1 := Lib.hid hb1
      clear hb1
      go_wp2_with fail
      refine (HRE.out _).mono ?_
      rintro e w2 ⟨rfl, hb2⟩
      have B2 := Lib.hid (on B1.out hb2)
      clear hb2
      go_wp2_with fail
      refine (HRS.out _).mono ?_
      rintro e w3 ⟨rfl, hb3⟩
      have B3 := Lib.hid (on B2.out hb3)
      clear hb3
      go_wp2_with fail
      refine (HRT.out _).mono ?_
      rintro e w4 ⟨rfl, hb4⟩
      have B4 := Lib.hid (on B3.out hb4)
      clear hb4
      go_wp2_with fail
      refine (HT.out _).mono ?_
      rintro e w5 ⟨rfl, hb5⟩
      have B5 := Lib.hid (on B4.out hb5)
      clear hb5
      go_wp2_with fail
      refine (HRT.out _).mono ?_
      rintro e w6 ⟨rfl, hb6⟩
      have B6 := Lib.hid (on B5.out hb6)
      clear hb6
      go_wp2_with fail
      refine (HN.out _).mono ?_
      rintro e w7 ⟨rfl, hb7⟩
      have B7 := Lib.hid (on B6.out hb7)
      clear hb7
      go_wp2_with fail
      refine (HM.out _).mono ?_
      rintro e w8 ⟨rfl, hb8⟩
      have B8 := Lib.hid (on B7.out hb8)
      clear hb8
      go_wp2_with fail
      refine (lives_any _).mono ?_
      rintro e w9 ⟨rfl, hb9⟩
      have B9 := Lib.hid (on B8.out hb9)
      clear hb9
      go_wp2_with fail
      go_ret
      exact ⟨rfl, B9.out⟩
    · have hpe := beq_eq_false_iff_ne.1 hp
      go_wp2_with fail
      refine (HE.out _).mono ?_
      rintro e w1 ⟨rfl, hb1⟩
      have B1 := Lib.hid hb1
      clear hb1
      go_wp2_with fail
      refine (HRE.out _).mono ?_
      rintro e w2 ⟨rfl, hb2⟩
      have B2 := Lib.hid (on B1.out hb2)
      clear hb2
      go_wp2_with fail
      refine (HRS.out _).mono ?_
      rintro e w3 ⟨rfl, hb3⟩
      have B3 := Lib.hid (on B2.out hb3)
      clear hb3
      go_wp2_with fail
      refine (HRT.out _).mono ?_
      rintro e w4 ⟨rfl, hb4⟩
      have B4 := Lib.hid (on B3.out hb4)
      clear hb4
      go_wp2_with fail
      refine (HRT.out _).mono ?_
      rintro e w5 ⟨rfl, hb5⟩
      have B5 := Lib.hid (on B4.out hb5)
      clear hb5
      go_wp2_with fail
      refine (HP.out _).mono ?_
      rintro e w6 ⟨v_a, rfl, ht6, hb6⟩
      have T_a := Lib.hid ht6
      clear ht6
      have B6 := Lib.hid (on B5.out hb6)
      clear hb6
      obtain ⟨A, c, rfl, hA1, hA2⟩ := T_a.out.form
      unfold maxLen at hA2
      have t5 : ((L.length : Int) == (L.length : Int)) = true := by simp
      go_wp2_with fail
      refine (HT.out _).mono ?_
      rintro e w7 ⟨rfl, hb7⟩
      have T_a := Lib.hid ((T_a.out.below hb7).more hb7.size)
      have B7 := Lib.hid (on B6.out hb7)
      clear hb7
      go_wp2_with fail
      refine (HRT.out _).mono ?_
      rintro e w8 ⟨rfl, hb8⟩
      have T_a := Lib.hid ((T_a.out.below hb8).more hb8.size)
      have B8 := Lib.hid (on B7.out hb8)
      clear hb8
      go_wp2_with fail
      refine (HN.out _).mono ?_
      rintro e w9 ⟨rfl, hb9⟩
      have T_a := Lib.hid ((T_a.out.below hb9).more hb9.size)
      have B9 := Lib.hid (on B8.out hb9)
      clear hb9
      go_wp2_with fail
      refine (HM.out _).mono ?_
      rintro e w10 ⟨rfl, hb10⟩
      have T_a := Lib.hid ((T_a.out.below hb10).more hb10.size)
      have B10 := Lib.hid (on B9.out hb10)
      clear hb10
      go_wp2_with fail
      refine (lives_any _).mono ?_
      rintro e w11 ⟨rfl, hb11⟩
      have T_a := Lib.hid ((T_a.out.below hb11).more hb11.size)
      have B11 := Lib.hid (on B10.out hb11)
      clear hb11
      go_wp2_with fail
      go_ret
      exact ⟨rfl, B11.out⟩

set_option maxHeartbeats 2000000 in
theorem relBack_law (dir : ByteArray) (hs : dir.size ≤ 1048576) (s : ByteArray) (hs2 : s.size ≤ 1048576) (text : ByteArray) (hs3 : text.size ≤ 1048576) (w : World) : Calls Tryd.prog 4 #[.string dir, .string s, .string text] w fun e w' => e = .returned (.bool true) ∧ Below w.heap.size w w' := by
  obtain ⟨x, hx⟩ := text_of (join dir.data.toList text.data.toList)
  obtain ⟨c, hc⟩ := text_of (clean s.data.toList)
  obtain ⟨t, ht⟩ := text_of (to dir.data.toList s.data.toList)
  have hts : t.size ≤ 4194316 := by
    have := to_len dir.data.toList s.data.toList
    rw [← ht, ← Lib.size_eq, ← Lib.size_eq, ← Lib.size_eq] at this; omega
  have HT := Lib.hid (to_at dir s t ht (by omega) (by omega))
  have HE := Lib.hid (end_at dir t c (by rw [hc, ht]; exact (join_to _ _).symm) (by omega) (by omega))
  rw [show rel t.data.toList = true by rw [ht]; exact to_rel _ _] at HE
  have HC := Lib.hid (refClean_any s c hc (by omega))
  have HRE := Lib.hid (refEnd_any dir text x hx (by omega))
  have HP := Lib.hid (refParts_hands text (by omega))
  have HN := Lib.hid (steps_any dir s (by omega) (by omega))
  have HSL : Hid (rel text.data.toList = true → x.data.toList = c.data.toList → ¬ (parts text.data.toList).length < steps dir.data.toList s.data.toList) := fun h1 h2 h3 => by
    have := steps_least (dir := dir.data.toList) (s := s.data.toList) h1 (by rw [← hx, ← hc]; exact h2)
    omega
  clear hx hc ht
  generalize steps dir.data.toList s.data.toList = n at *
  generalize rel text.data.toList = p at *
  generalize parts text.data.toList = L at *
  have t1 : (c.toList == c.toList) = true := by simp
  go_enter Tryd.func4, Tryd.ntmps4
  cases p with
  | false =>
    go_wp2_with fail
    refine (HT.out _).mono ?_
    rintro e w1 ⟨rfl, hb1⟩
    have B1 := Lib.hid hb1
    clear hb1
    go_wp2_with fail
    refine (HE.out _).mono ?_
    rintro e w2 ⟨rfl, hb2⟩
    have B2 := Lib.hid (on B1.out hb2)
    clear hb2
    go_wp2_with fail
    refine (HC.out _).mono ?_
    rintro e w3 ⟨rfl, hb3⟩
    have B3 := Lib.hid (on B2.out hb3)
    clear hb3
    go_wp2_with fail
    refine (HRE.out _).mono ?_
    rintro e w4 ⟨rfl, hb4⟩
    have B4 := Lib.hid (on B3.out hb4)
    clear hb4
    go_wp2_with fail
    refine (lives_any _).mono ?_
    rintro e w5 ⟨rfl, hb5⟩
    have B5 := Lib.hid (on B4.out hb5)
    clear hb5
    go_wp2_with fail
    go_ret
    exact ⟨rfl, B5.out⟩
  | true =>
    by_cases hxc : x.data.toList = c.data.toList
    · have h1 := eq_bytes hxc
      have h2 : ¬ (L.length : Int) < (n : Int) := by have := HSL.out rfl hxc; omega
      clear hxc
      go_wp2_with fail
      refine (HT.out _).mono ?_
      rintro e w1 ⟨rfl, hb1⟩
      have B1 := Lib.hid hb1
      clear hb1
      go_wp2_with fail
      refine (HE.out _).mono ?_
      rintro e w2 ⟨rfl, hb2⟩
      have B2 := Lib.hid (on B1.out hb2)
      clear hb2
      go_wp2_with fail
      refine (HC.out _).mono ?_
      rintro e w3 ⟨rfl, hb3⟩
      have B3 := Lib.hid (on B2.out hb3)
      clear hb3
      go_wp2_with fail
      refine (HRE.out _).mono ?_
      rintro e w4 ⟨rfl, hb4⟩
      have B4 := Lib.hid (on B3.out hb4)
      clear hb4
      go_wp2_with fail
      refine (HP.out _).mono ?_
      rintro e w5 ⟨v_a, rfl, ht5, hb5⟩
      have T_a := Lib.hid ht5
      clear ht5
      have B5 := Lib.hid (on B4.out hb5)
      clear hb5
      obtain ⟨A, ca, rfl, hA1, hA2⟩ := T_a.out.form
      unfold maxLen at hA2
      go_wp2_with fail
      refine (HN.out _).mono ?_
      rintro e w6 ⟨rfl, hb6⟩
      have T_a := Lib.hid ((T_a.out.below hb6).more hb6.size)
      have B6 := Lib.hid (on B5.out hb6)
      clear hb6
      go_wp2_with fail
      refine (lives_any _).mono ?_
      rintro e w7 ⟨rfl, hb7⟩
      have T_a := Lib.hid ((T_a.out.below hb7).more hb7.size)
      have B7 := Lib.hid (on B6.out hb7)
      clear hb7
      go_wp2_with fail
      go_ret
      exact ⟨rfl, B7.out⟩
    · have h1 := ne_bytes hxc
      clear hxc
      go_wp2_with fail
      refine (HT.out _).mono ?_
      rintro e w1 ⟨rfl, hb1⟩
      have B1 := Lib.hid hb1
      clear hb1
      go_wp2_with fail
      refine (HE.out _).mono ?_
      rintro e w2 ⟨rfl, hb2⟩
      have B2 := Lib.hid (on B1.out hb2)
      clear hb2
      go_wp2_with fail
      refine (HC.out _).mono ?_
      rintro e w3 ⟨rfl, hb3⟩
      have B3 := Lib.hid (on B2.out hb3)
      clear hb3
      go_wp2_with fail
      refine (HRE.out _).mono ?_
      rintro e w4 ⟨rfl, hb4⟩
      have B4 := Lib.hid (on B3.out hb4)
      clear hb4
      go_wp2_with fail
      refine (lives_any _).mono ?_
      rintro e w5 ⟨rfl, hb5⟩
      have B5 := Lib.hid (on B4.out hb5)
      clear hb5
      go_wp2_with fail
      go_ret
      exact ⟨rfl, B5.out⟩
end Go.Proofs.YtkijenblfpmdaaaDoor.W05
