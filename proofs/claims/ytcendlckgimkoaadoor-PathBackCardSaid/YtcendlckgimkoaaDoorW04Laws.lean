/-
  Layer 4 (path), walks of lives and of the laws PathTells, PathJoins (at texts of at most 2^20 bytes) and PathBack (at all that its row reaches): they return true; new memory may be laid, nothing that was there is changed.
-/
import Derived.Test.YtcendlckgimkoaaDoorW04Code
namespace Go.Proofs.YtcendlckgimkoaaDoor.W04
open Go Go.RowKit Go.Proofs.YtcendlckgimkoaaDoor.Strs Go.Proofs.YtcendlckgimkoaaDoor.M04
open Go.Proofs.YtcendlckgimkoaaDoor.Kit (ret_str ret_bool mk_of mk_bytes below_draws on)

theorem life_clean (w : World) : Calls Tryd.prog 9 #[.string ⟨#[97, 47, 47, 46, 47, 98, 47, 46, 46, 47, 99]⟩] w fun e w' => e = .returned (.string ⟨#[47, 97, 47, 99]⟩) ∧ Below w.heap.size w w' :=
  clean_at ⟨#[97, 47, 47, 46, 47, 98, 47, 46, 46, 47, 99]⟩ ⟨#[47, 97, 47, 99]⟩ (by decide +kernel) (by decide) w
theorem life_under (w : World) : Calls Tryd.prog 18 #[.string ⟨#[47, 97, 47, 98, 47, 99]⟩, .string ⟨#[47, 97]⟩] w fun e w' => e = .returned (.tuple #[.string ⟨#[98, 47, 99]⟩, .bool true]) ∧ Below w.heap.size w w' := by
  have h := under_at ⟨#[47, 97, 47, 98, 47, 99]⟩ ⟨#[47, 97]⟩ ⟨#[98, 47, 99]⟩ (by decide +kernel) (by decide) (by decide) w
  rw [show isUnder (⟨#[47, 97, 47, 98, 47, 99]⟩ : ByteArray).data.toList (⟨#[47, 97]⟩ : ByteArray).data.toList = true by decide +kernel] at h
  exact h
set_option maxHeartbeats 400000 in
theorem lives_any (w : World) : Calls Tryd.prog 17 #[] w fun e w' => e = .returned (.bool true) ∧ Below w.heap.size w w' := by
  go_enter Tryd.func17, Tryd.ntmps17
  go_wp2_with fail
  refine (life_under _).mono ?_
  rintro e w1 ⟨rfl, hb1⟩
  have B1 := Lib.hid hb1
  clear hb1
  go_wp2_with fail
  refine (life_clean _).mono ?_
  rintro e w2 ⟨rfl, hb2⟩
  have B2 := Lib.hid (on B1.out hb2)
  clear hb2
  go_wp2_with fail
  go_ret
  exact ⟨rfl, B2.out⟩

set_option maxHeartbeats 1000000 in
theorem pathTells_law (s : ByteArray) (hs : s.size ≤ 1048576) (w : World) : Calls Tryd.prog 3 #[.string s] w fun e w' => e = .returned (.bool true) ∧ Below w.heap.size w w' := by
  obtain ⟨c, hc⟩ := text_of (clean s.data.toList)
  obtain ⟨d, hd⟩ := text_of (dirOf s.data.toList)
  obtain ⟨b, hb⟩ := text_of (base s.data.toList)
  have HP := Lib.hid (parts_any s (by omega))
  have HRP := Lib.hid (refParts_hands s (by omega))
  have HC := Lib.hid (clean_at s c hc (by omega))
  have HRC := Lib.hid (refClean_any s c hc (by omega))
  have HI := Lib.hid (is_any s (by omega))
  have HRI := Lib.hid (refIs_any s (by omega))
  have HD := Lib.hid (dir_at s d hd (by omega))
  have HRD := Lib.hid (refDir_any s d hd (by omega))
  have HB := Lib.hid (base_at s b hb (by omega))
  have HRB := Lib.hid (refBase_any s b hb (by omega))
  clear hc hd hb
  generalize parts s.data.toList = L at *
  generalize isPath s.data.toList = r at *
  have t1 : (c.toList == c.toList) = true := by simp
  have t2 : (r == r) = true := by simp
  have t3 : (d.toList == d.toList) = true := by simp
  have t4 : (b.toList == b.toList) = true := by simp
  go_enter Tryd.func3, Tryd.ntmps3
  go_wp2_with fail
  refine (HP.out _).mono ?_
  rintro e w1 ⟨v_a, rfl, ht1, hb1⟩
  have T_a := Lib.hid ht1
  clear ht1
  have B1 := Lib.hid hb1
  clear hb1
  go_wp2_with fail
  refine (HRP.out _).mono ?_
  rintro e w2 ⟨v_b, rfl, ht2, hb2⟩
  have T_a := Lib.hid ((T_a.out.below hb2).more hb2.size)
  have T_b := Lib.hid ht2
  clear ht2
  have B2 := Lib.hid (on B1.out hb2)
  clear hb2
  go_wp2_with fail
  refine (same_yes _ _ L _ _ T_a.out T_b.out).mono ?_
  rintro e w3 ⟨rfl, hb3⟩
  have T_a := Lib.hid ((T_a.out.below hb3).more hb3.size)
  have T_b := Lib.hid ((T_b.out.below hb3).more hb3.size)
  have B3 := Lib.hid (on B2.out hb3)
  clear hb3
  go_wp2_with fail
  refine (HC.out _).mono ?_
  rintro e w4 ⟨rfl, hb4⟩
  have T_a := Lib.hid ((T_a.out.below hb4).more hb4.size)
  have T_b := Lib.hid ((T_b.out.below hb4).more hb4.size)
  have B4 := Lib.hid (on B3.out hb4)
  clear hb4
  go_wp2_with fail
  refine (HRC.out _).mono ?_
  rintro e w5 ⟨rfl, hb5⟩
  have T_a := Lib.hid ((T_a.out.below hb5).more hb5.size)
  have T_b := Lib.hid ((T_b.out.below hb5).more hb5.size)
  have B5 := Lib.hid (on B4.out hb5)
  clear hb5
  go_wp2_with fail
  refine (HI.out _).mono ?_
  rintro e w6 ⟨rfl, hb6⟩
  have T_a := Lib.hid ((T_a.out.below hb6).more hb6.size)
  have T_b := Lib.hid ((T_b.out.below hb6).more hb6.size)
  have B6 := Lib.hid (on B5.out hb6)
  clear hb6
  go_wp2_with fail
  refine (HRI.out _).mono ?_
  rintro e w7 ⟨rfl, hb7⟩
  have T_a := Lib.hid ((T_a.out.below hb7).more hb7.size)
  have T_b := Lib.hid ((T_b.out.below hb7).more hb7.size)
  have B7 := Lib.hid (on B6.out hb7)
  clear hb7
  go_wp2_with fail
  refine (HD.out _).mono ?_
  rintro e w8 ⟨rfl, hb8⟩
  have T_a := Lib.hid ((T_a.out.below hb8).more hb8.size)
  have T_b := Lib.hid ((T_b.out.below hb8).more hb8.size)
  have B8 := Lib.hid (on B7.out hb8)
  clear hb8
  go_wp2_with fail
  refine (HRD.out _).mono ?_
  rintro e w9 ⟨rfl, hb9⟩
  have T_a := Lib.hid ((T_a.out.below hb9).more hb9.size)
  have T_b := Lib.hid ((T_b.out.below hb9).more hb9.size)
  have B9 := Lib.hid (on B8.out hb9)
  clear hb9
  go_wp2_with fail
  refine (HB.out _).mono ?_
  rintro e w10 ⟨rfl, hb10⟩
  have T_a := Lib.hid ((T_a.out.below hb10).more hb10.size)
  have T_b := Lib.hid ((T_b.out.below hb10).more hb10.size)
  have B10 := Lib.hid (on B9.out hb10)
  clear hb10
  go_wp2_with fail
  refine (HRB.out _).mono ?_
  rintro e w11 ⟨rfl, hb11⟩
  have T_a := Lib.hid ((T_a.out.below hb11).more hb11.size)
  have T_b := Lib.hid ((T_b.out.below hb11).more hb11.size)
  have B11 := Lib.hid (on B10.out hb11)
  clear hb11
  go_wp2_with fail
  refine (lives_any _).mono ?_
  rintro e w12 ⟨rfl, hb12⟩
  have T_a := Lib.hid ((T_a.out.below hb12).more hb12.size)
  have T_b := Lib.hid ((T_b.out.below hb12).more hb12.size)
  have B12 := Lib.hid (on B11.out hb12)
  clear hb12
  go_wp2_with fail
  go_ret
  exact ⟨rfl, B12.out⟩

set_option maxHeartbeats 1000000 in
theorem pathJoins_law (s : ByteArray) (hs : s.size ≤ 1048576) (dir : ByteArray) (hs2 : dir.size ≤ 1048576) (w : World) : Calls Tryd.prog 4 #[.string s, .string dir] w fun e w' => e = .returned (.bool true) ∧ Below w.heap.size w w' := by
  obtain ⟨u, hu⟩ := text_of (under s.data.toList dir.data.toList).1
  obtain ⟨j, hj⟩ := text_of (join dir.data.toList s.data.toList)
  have HU := Lib.hid (under_at s dir u hu (by omega) (by omega))
  have HRU := Lib.hid (refUnder_any s dir u hu (by omega) (by omega))
  rw [under_flag] at HRU
  have HJ := Lib.hid (join_at dir s j hj (by omega))
  have HRJ := Lib.hid (refJoin_any dir s j hj (by omega))
  have HW := Lib.hid (within_any s dir (by omega) (by omega))
  clear hu hj
  generalize isUnder s.data.toList dir.data.toList = r at *
  have t1 : (u.toList == u.toList) = true := by simp
  have t2 : (r == r) = true := by simp
  have t3 : (j.toList == j.toList) = true := by simp
  go_enter Tryd.func4, Tryd.ntmps4
  go_wp2_with fail
  refine (HU.out _).mono ?_
  rintro e w1 ⟨rfl, hb1⟩
  have B1 := Lib.hid hb1
  clear hb1
  go_wp2_with fail
  refine (HRU.out _).mono ?_
  rintro e w2 ⟨rfl, hb2⟩
  have B2 := Lib.hid (on B1.out hb2)
  clear hb2
  go_wp2_with fail
  refine (HJ.out _).mono ?_
  rintro e w3 ⟨rfl, hb3⟩
  have B3 := Lib.hid (on B2.out hb3)
  clear hb3
  go_wp2_with fail
  refine (HRJ.out _).mono ?_
  rintro e w4 ⟨rfl, hb4⟩
  have B4 := Lib.hid (on B3.out hb4)
  clear hb4
  go_wp2_with fail
  refine (HW.out _).mono ?_
  rintro e w5 ⟨rfl, hb5⟩
  have B5 := Lib.hid (on B4.out hb5)
  clear hb5
  go_wp2_with fail
  refine (lives_any _).mono ?_
  rintro e w6 ⟨rfl, hb6⟩
  have B6 := Lib.hid (on B5.out hb6)
  clear hb6
  go_wp2_with fail
  go_ret
  exact ⟨rfl, B6.out⟩

theorem under_len (s d : Bytes) : (under s d).1.length ≤ s.length + 1 := by
  unfold under
  split
  · show (slashed _).length ≤ _
    have h1 := slashed_len ((parts s).drop (parts d).length)
    have h2 := drop_total (parts s) (parts d).length (parts s).length
    rw [List.take_of_length_le (by rw [List.length_drop]; omega)] at h2
    have h3 := parts_total s
    omega
  · simp
theorem dirOf_len (s : Bytes) : (dirOf s).length ≤ s.length + 5 := by
  have h1 := text_len (parts (clean s)).dropLast
  have h2 := total_dropLast (parts (clean s))
  have h3 := parts_total (clean s)
  have h4 := clean_len s
  unfold dirOf; omega
theorem base_len (s : Bytes) : (base s).length ≤ s.length + 4 := by
  have h3 := parts_total (clean s)
  have h4 := clean_len s
  unfold base
  rw [List.getLastD_eq_getLast?, List.getLast?_eq_getElem?, ← List.getD_eq_getElem?_getD]
  by_cases h : (parts (clean s)).length - 1 < (parts (clean s)).length
  · have := part_bound h; omega
  · have e : parts (clean s) = [] := List.length_eq_zero_iff.1 (by omega)
    rw [e]; simp
/-- the last row of PathBack, from a clean path c on -/
theorem root_text : (⟨#[47]⟩ : ByteArray).data.toList = [47] := rfl

set_option maxHeartbeats 4000000 in
theorem pathBack_law (s : ByteArray) (hs : s.size ≤ 140737488351232) (dir : ByteArray) (hs2 : dir.size ≤ 140737488351232) (w : World) : Calls Tryd.prog 5 #[.string s, .string dir] w fun e w' => e = .returned (.bool true) ∧ Below w.heap.size w w' := by
  obtain ⟨c, hc⟩ := text_of (clean s.data.toList)
  obtain ⟨d, hd⟩ := text_of (clean dir.data.toList)
  have sc : c.size ≤ 140737488351234 := by have := clean_size hc; omega
  have sd : d.size ≤ 140737488351234 := by have := clean_size hd; omega
  have cc : clean c.data.toList = c.data.toList := by rw [hc]; exact clean_clean _
  have cd : clean d.data.toList = d.data.toList := by rw [hd]; exact clean_clean _
  have HC := Lib.hid (clean_at s c hc (by omega))
  have HD := Lib.hid (clean_at dir d hd (by omega))
  clear hc hd
  obtain ⟨u, hu⟩ := text_of (under c.data.toList d.data.toList).1
  have su : u.size ≤ 140737488351235 := by have := size_of hu (under_len c.data.toList d.data.toList); rw [← Lib.size_eq] at this; omega
  have HU := Lib.hid (under_at c d u hu (by omega) (by omega))
  have HJ : Hid (isUnder c.data.toList d.data.toList = true → ∀ w : World, Calls Tryd.prog 20 #[.string d, .string u] w fun e w' => e = .returned (.string c) ∧ Below w.heap.size w w') := fun hi => join_at d u c (by
    rw [hu]; exact (join_under (by rw [under_flag]; exact hi)).symm) (by omega)
  clear hu
  obtain ⟨p, hp⟩ := text_of (dirOf c.data.toList)
  obtain ⟨b, hb⟩ := text_of (base c.data.toList)
  have sp : p.size ≤ 140737488351239 := by have := size_of hp (dirOf_len c.data.toList); rw [← Lib.size_eq] at this; omega
  have sb : b.size ≤ 140737488351238 := by have := size_of hb (base_len c.data.toList); rw [← Lib.size_eq] at this; omega
  have HP := Lib.hid (dir_at c p hp (by omega))
  have HB := Lib.hid (base_at c b hb (by omega))
  have HPB : Hid (c.data.toList ≠ [47] → ∀ w : World, Calls Tryd.prog 20 #[.string p, .string b] w fun e w' => e = .returned (.string c) ∧ Below w.heap.size w w') := fun hn => join_at p b c (by
    rw [hp, hb]; exact (join_base cc hn).symm) (by omega)
  have HCC := Lib.hid (clean_at c c cc.symm (by omega))
  have HW1 := Lib.hid (within_any c c (by omega) (by omega))
  rw [within_self cc] at HW1
  have HW2 := Lib.hid (within_any c p (by omega) (by omega))
  rw [hp, within_dir cc] at HW2
  have HW3 := Lib.hid (within_any c ⟨#[47]⟩ (by omega) (by decide))
  rw [root_text, within_root cc] at HW3
  clear hp hb cc cd
  have t1 : (c.toList == c.toList) = true := by simp
  have HR : Hid ((c.toList == [47]) = true ∨ ((c.toList == [47]) = false ∧ c.data.toList ≠ [47])) := by
    cases h : (c.toList == [47]) with
    | true => exact Or.inl rfl
    | false => exact Or.inr ⟨rfl, fun e => by rw [Lib.toList_data, e] at h; simp at h⟩
  generalize isUnder c.data.toList d.data.toList = r at *
  go_enter Tryd.func5, Tryd.ntmps5
  cases r with
  | true =>
    have HJ2 : Hid (∀ w : World, Calls Tryd.prog 20 #[.string d, .string u] w fun e w' => e = .returned (.string c) ∧ Below w.heap.size w w') := HJ.out rfl
    clear HJ
    rcases HR.out with hr | ⟨hr, hn⟩
    · skip
      go_wp2_with fail
      refine (HC.out _).mono ?_
      rintro e w1 ⟨rfl, hb1⟩
      have B1 := Lib.hid hb1
      clear hb1
      go_wp2_with fail
      refine (HD.out _).mono ?_
      rintro e w2 ⟨rfl, hb2⟩
      have B2 := Lib.hid (on B1.out hb2)
      clear hb2
      go_wp2_with fail
      refine (HU.out _).mono ?_
      rintro e w3 ⟨rfl, hb3⟩
      have B3 := Lib.hid (on B2.out hb3)
      clear hb3
      go_wp2_with fail
      refine (HJ2.out _).mono ?_
      rintro e w4 ⟨rfl, hb4⟩
      have B4 := Lib.hid (on B3.out hb4)
      clear hb4
      go_wp2_with fail
      refine (HCC.out _).mono ?_
      rintro e w5 ⟨rfl, hb5⟩
      have B5 := Lib.hid (on B4.out hb5)
      clear hb5
      go_wp2_with fail
      refine (HW1.out _).mono ?_
      rintro e w6 ⟨rfl, hb6⟩
      have B6 := Lib.hid (on B5.out hb6)
      clear hb6
      go_wp2_with fail
      refine (HP.out _).mono ?_
      rintro e w7 ⟨rfl, hb7⟩
      have B7 := Lib.hid (on B6.out hb7)
      clear hb7
      go_wp2_with fail
      refine (HW2.out _).mono ?_
      rintro e w8 ⟨rfl, hb8⟩
      have B8 := Lib.hid (on B7.out hb8)
      clear hb8
      go_wp2_with fail
      refine (HW3.out _).mono ?_
      rintro e w9 ⟨rfl, hb9⟩
      have B9 := Lib.hid (on B8.out hb9)
      clear hb9
      go_wp2_with fail
      refine (lives_any _).mono ?_
      rintro e w10 ⟨rfl, hb10⟩
      have B10 := Lib.hid (on B9.out hb10)
      clear hb10
      go_wp2_with fail
      go_ret
      exact ⟨rfl, B10.out⟩
    · have HPB := Lib.hid (HPB.out hn)
      clear hn
      go_wp2_with fail
      refine (HC.out _).mono ?_
      rintro e w1 ⟨rfl, hb1⟩
      have B1 := Lib.hid hb1
      clear hb1
      go_wp2_with fail
      refine (HD.out _).mono ?_
      rintro e w2 ⟨rfl, hb2⟩
      have B2 := Lib.hid (on B1.out hb2)
      clear hb2
      go_wp2_with fail
      refine (HU.out _).mono ?_
      rintro e w3 ⟨rfl, hb3⟩
      have B3 := Lib.hid (on B2.out hb3)
      clear hb3
      go_wp2_with fail
      refine (HJ2.out _).mono ?_
      rintro e w4 ⟨rfl, hb4⟩
      have B4 := Lib.hid (on B3.out hb4)
      clear hb4
      go_wp2_with fail
      refine (HP.out _).mono ?_
      rintro e w5 ⟨rfl, hb5⟩
      have B5 := Lib.hid (on B4.out hb5)
      clear hb5
      go_wp2_with fail
      refine (HB.out _).mono ?_
      rintro e w6 ⟨rfl, hb6⟩
      have B6 := Lib.hid (on B5.out hb6)
      clear hb6
      go_wp2_with fail
      refine (HPB.out _).mono ?_
      rintro e w7 ⟨rfl, hb7⟩
      have B7 := Lib.hid (on B6.out hb7)
      clear hb7
      go_wp2_with fail
      refine (HCC.out _).mono ?_
      rintro e w8 ⟨rfl, hb8⟩
      have B8 := Lib.hid (on B7.out hb8)
      clear hb8
      go_wp2_with fail
      refine (HW1.out _).mono ?_
      rintro e w9 ⟨rfl, hb9⟩
      have B9 := Lib.hid (on B8.out hb9)
      clear hb9
      go_wp2_with fail
      refine (HP.out _).mono ?_
      rintro e w10 ⟨rfl, hb10⟩
      have B10 := Lib.hid (on B9.out hb10)
      clear hb10
      go_wp2_with fail
      refine (HW2.out _).mono ?_
      rintro e w11 ⟨rfl, hb11⟩
      have B11 := Lib.hid (on B10.out hb11)
      clear hb11
      go_wp2_with fail
      refine (HW3.out _).mono ?_
      rintro e w12 ⟨rfl, hb12⟩
      have B12 := Lib.hid (on B11.out hb12)
      clear hb12
      go_wp2_with fail
      refine (lives_any _).mono ?_
      rintro e w13 ⟨rfl, hb13⟩
      have B13 := Lib.hid (on B12.out hb13)
      clear hb13
      go_wp2_with fail
      go_ret
      exact ⟨rfl, B13.out⟩
  | false =>
    clear HJ
    rcases HR.out with hr | ⟨hr, hn⟩
    · skip
      go_wp2_with fail
      refine (HC.out _).mono ?_
      rintro e w1 ⟨rfl, hb1⟩
      have B1 := Lib.hid hb1
      clear hb1
      go_wp2_with fail
      refine (HD.out _).mono ?_
      rintro e w2 ⟨rfl, hb2⟩
      have B2 := Lib.hid (on B1.out hb2)
      clear hb2
      go_wp2_with fail
      refine (HU.out _).mono ?_
      rintro e w3 ⟨rfl, hb3⟩
      have B3 := Lib.hid (on B2.out hb3)
      clear hb3
      go_wp2_with fail
      refine (HCC.out _).mono ?_
      rintro e w4 ⟨rfl, hb4⟩
      have B4 := Lib.hid (on B3.out hb4)
      clear hb4
      go_wp2_with fail
      refine (HW1.out _).mono ?_
      rintro e w5 ⟨rfl, hb5⟩
      have B5 := Lib.hid (on B4.out hb5)
      clear hb5
      go_wp2_with fail
      refine (HP.out _).mono ?_
      rintro e w6 ⟨rfl, hb6⟩
      have B6 := Lib.hid (on B5.out hb6)
      clear hb6
      go_wp2_with fail
      refine (HW2.out _).mono ?_
      rintro e w7 ⟨rfl, hb7⟩
      have B7 := Lib.hid (on B6.out hb7)
      clear hb7
      go_wp2_with fail
      refine (HW3.out _).mono ?_
      rintro e w8 ⟨rfl, hb8⟩
      have B8 := Lib.hid (on B7.out hb8)
      clear hb8
      go_wp2_with fail
      refine (lives_any _).mono ?_
      rintro e w9 ⟨rfl, hb9⟩
      have B9 := Lib.hid (on B8.out hb9)
      clear hb9
      go_wp2_with fail
      go_ret
      exact ⟨rfl, B9.out⟩
    · have HPB := Lib.hid (HPB.out hn)
      clear hn
      go_wp2_with fail
      refine (HC.out _).mono ?_
      rintro e w1 ⟨rfl, hb1⟩
      have B1 := Lib.hid hb1
      clear hb1
      go_wp2_with fail
      refine (HD.out _).mono ?_
      rintro e w2 ⟨rfl, hb2⟩
      have B2 := Lib.hid (on B1.out hb2)
      clear hb2
      go_wp2_with fail
      refine (HU.out _).mono ?_
      rintro e w3 ⟨rfl, hb3⟩
      have B3 := Lib.hid (on B2.out hb3)
      clear hb3
      go_wp2_with fail
      refine (HP.out _).mono ?_
      rintro e w4 ⟨rfl, hb4⟩
      have B4 := Lib.hid (on B3.out hb4)
      clear hb4
      go_wp2_with fail
      refine (HB.out _).mono ?_
      rintro e w5 ⟨rfl, hb5⟩
      have B5 := Lib.hid (on B4.out hb5)
      clear hb5
      go_wp2_with fail
      refine (HPB.out _).mono ?_
      rintro e w6 ⟨rfl, hb6⟩
      have B6 := Lib.hid (on B5.out hb6)
      clear hb6
      go_wp2_with fail
      refine (HCC.out _).mono ?_
      rintro e w7 ⟨rfl, hb7⟩
      have B7 := Lib.hid (on B6.out hb7)
      clear hb7
      go_wp2_with fail
      refine (HW1.out _).mono ?_
      rintro e w8 ⟨rfl, hb8⟩
      have B8 := Lib.hid (on B7.out hb8)
      clear hb8
      go_wp2_with fail
      refine (HP.out _).mono ?_
      rintro e w9 ⟨rfl, hb9⟩
      have B9 := Lib.hid (on B8.out hb9)
      clear hb9
      go_wp2_with fail
      refine (HW2.out _).mono ?_
      rintro e w10 ⟨rfl, hb10⟩
      have B10 := Lib.hid (on B9.out hb10)
      clear hb10
      go_wp2_with fail
      refine (HW3.out _).mono ?_
      rintro e w11 ⟨rfl, hb11⟩
      have B11 := Lib.hid (on B10.out hb11)
      clear hb11
      go_wp2_with fail
      refine (lives_any _).mono ?_
      rintro e w12 ⟨rfl, hb12⟩
      have B12 := Lib.hid (on B11.out hb12)
      clear hb12
      go_wp2_with fail
      go_ret
      exact ⟨rfl, B12.out⟩
end Go.Proofs.YtcendlckgimkoaaDoor.W04
