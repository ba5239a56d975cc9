/-
  Layer 4 (path), walks: the plain answers Join, Dir, Base and Is: what each returns at texts of at most 2^40 bytes; new memory may be laid, nothing that was there is changed.
-/
import Derived.Test.YtcendlckgimkoaaDoorW04Clean
import Derived.Test.YtcendlckgimkoaaDoorW03Walk
namespace Go.Proofs.YtcendlckgimkoaaDoor.W04
open Go Go.RowKit Go.Proofs.YtcendlckgimkoaaDoor.Strs Go.Proofs.YtcendlckgimkoaaDoor.M04
open Go.Proofs.YtcendlckgimkoaaDoor.M03 (check)
open Go.Proofs.YtcendlckgimkoaaDoor.Kit (ret_str ret_bool mk_of mk_bytes ba_ext cat_bytes list_full list_ne list_none list_nil bytes_nil bytes_cons byte_eq byte_ne below_draws on)

theorem clean_size {s d : ByteArray} (hd : d.data.toList = clean s.data.toList) : d.size ≤ s.size + 2 := by
  rw [Lib.size_eq, hd, Lib.size_eq]; exact clean_len _
theorem join_rooted {dir s : ByteArray} (h0 : 0 < s.size) (h : s[0] = 47) : join dir.data.toList s.data.toList = clean s.data.toList := by
  unfold join; rw [if_pos]; rw [bytes_cons h0, h]; rfl
theorem join_from {dir s : ByteArray} (h : ∀ h0 : 0 < s.size, ¬ s[0] = 47) : join dir.data.toList s.data.toList = clean (dir ++ ⟨#[47]⟩ ++ s).data.toList := by
  unfold join
  rw [if_neg, cat_bytes, cat_bytes, List.append_assoc]
  · rfl
  · intro e
    by_cases h0 : 0 < s.size
    · rw [bytes_cons h0] at e
      exact h h0 (by simpa using e)
    · rw [bytes_nil h0] at e; simp at e

theorem refJoin_any (dir s d : ByteArray) (hd : d.data.toList = join dir.data.toList s.data.toList) (hs : dir.size + s.size < 1099511627776) (w : World) :
    Calls Tryd.prog 21 #[.string dir, .string s] w fun e w' => e = .returned (.string d) ∧ Below w.heap.size w w' := by
  by_cases h0 : 0 < s.size
  · have hf := list_full h0
    have hn := list_ne h0
    by_cases h47 : (s[0].toNat : Int) = 47
    · have HC := Lib.hid (refClean_any s d (hd.trans (join_rooted h0 (byte_eq (d := 47) h47))) (by omega))
      have t47 : ((s[0].toNat : Int) == 47) = true := by simp [h47]
      clear h47 hd
      go_enter Tryd.func21, Tryd.ntmps21
      go_wp2_with fail
      refine (HC.out _).mono ?_
      rintro e w1 ⟨rfl, hb⟩
      go_wp2_with fail
      go_ret
      exact ⟨rfl, hb⟩
    · have HC := Lib.hid (refClean_any (dir ++ ⟨#[47]⟩ ++ s) d (hd.trans (join_from fun _ => byte_ne (d := 47) h47)) (by simp [ByteArray.size_append]; have : (⟨#[47]⟩ : ByteArray).size = 1 := rfl; omega))
      have t47 : ((s[0].toNat : Int) == 47) = false := by simp [h47]
      clear h47 hd
      go_enter Tryd.func21, Tryd.ntmps21
      go_wp2_with fail
      refine (HC.out _).mono ?_
      rintro e w1 ⟨rfl, hb⟩
      go_wp2_with fail
      go_ret
      exact ⟨rfl, hb⟩
  · have hf := list_none h0
    have hn := list_nil h0
    have HC := Lib.hid (refClean_any (dir ++ ⟨#[47]⟩ ++ s) d (hd.trans (join_from fun h => absurd h h0)) (by simp [ByteArray.size_append]; have : (⟨#[47]⟩ : ByteArray).size = 1 := rfl; omega))
    clear hd
    go_enter Tryd.func21, Tryd.ntmps21
    go_wp2_with fail
    refine (HC.out _).mono ?_
    rintro e w1 ⟨rfl, hb⟩
    go_wp2_with fail
    go_ret
    exact ⟨rfl, hb⟩

/-! ### Dir and Base -/
set_option maxHeartbeats 400000 in
theorem refDir_any (s d : ByteArray) (hd : d.data.toList = dirOf s.data.toList) (hs : s.size < 1099511627774) (w : World) :
    Calls Tryd.prog 14 #[.string s] w fun e w' => e = .returned (.string d) ∧ Below w.heap.size w w' := by
  obtain ⟨c, hc⟩ : ∃ c : ByteArray, c.data.toList = clean s.data.toList := ⟨⟨(clean s.data.toList).toArray⟩, rfl⟩
  have hcs := clean_size hc
  have HC := Lib.hid (refClean_any s c hc (by omega))
  have HP := Lib.hid (refParts_any c (by omega))
  have HD : Hid (d.data.toList = text (parts c.data.toList).dropLast) := by show _ = _; rw [hd, hc]; rfl
  have HT : Hid (total (parts c.data.toList).dropLast ≤ 4398046511104) := by
    show _ ≤ _
    have h1 := total_dropLast (parts c.data.toList)
    have h2 := parts_total c.data.toList
    rw [← Lib.size_eq] at h2
    omega
  clear hd hc
  generalize parts c.data.toList = L at *
  go_enter Tryd.func14, Tryd.ntmps14
  go_wp2_with fail
  refine (HC.out _).mono ?_
  rintro e w1 ⟨rfl, hb1⟩
  have B1 := Lib.hid hb1
  clear hb1
  go_wp2_with fail
  refine (HP.out _).mono ?_
  rintro e w2 ⟨v, rfl, hown2, hb2⟩
  have B2 := Lib.hid (on B1.out hb2)
  by_cases h0 : 0 < L.length
  · obtain ⟨m, hm1⟩ : ∃ m, L.length = m + 1 := ⟨L.length - 1, by omega⟩
    rw [hm1] at hown2
    obtain ⟨g, cc, rfl, hc1, hc2, hless⟩ := own_less hown2
    rw [take_drop_map hm1] at hless
    have T : Hid (Texts w2.heap.size w2 (.slice (some ⟨g, 0, none⟩) m cc) L.dropLast) := by
      have e : L.dropLast.length = m := by rw [List.length_dropLast, hm1]; rfl
      exact Texts.of_own (by rw [← e] at hless; rw [← e]; exact hless)
    clear hless hown2 hm1 h0 hb2
    unfold maxLen at hc2
    go_wp2_with fail
    refine (refText_any _ _ _ _ T.out HT.out).mono ?_
    rintro e w3 ⟨rfl, q, rfl⟩
    go_wp2_with fail
    go_ret
    exact ⟨ret_str (mk_of HD.out), B2.out.trans ((below_draws w2 q).mono B2.out.size)⟩
  · have e0 : L = [] := flat_none h0
    subst e0
    rcases hown2.2 with ⟨rfl, -⟩ | ⟨g, cc, cur, rfl, -, -, -, -, -, -⟩ <;>
    · clear hown2 hb2 h0
      go_wp2_with fail
      go_ret
      exact ⟨ret_str (ba_ext (by rw [HD.out]; rfl)), B2.out⟩
set_option maxHeartbeats 400000 in
theorem refBase_any (s d : ByteArray) (hd : d.data.toList = base s.data.toList) (hs : s.size < 1099511627774) (w : World) :
    Calls Tryd.prog 16 #[.string s] w fun e w' => e = .returned (.string d) ∧ Below w.heap.size w w' := by
  obtain ⟨c, hc⟩ : ∃ c : ByteArray, c.data.toList = clean s.data.toList := ⟨⟨(clean s.data.toList).toArray⟩, rfl⟩
  have hcs := clean_size hc
  have HC := Lib.hid (refClean_any s c hc (by omega))
  have HP := Lib.hid (refParts_any c (by omega))
  have HD : Hid (d.data.toList = (parts c.data.toList).getLastD []) := by show _ = _; rw [hd, hc]; rfl
  clear hd hc
  generalize parts c.data.toList = L at *
  go_enter Tryd.func16, Tryd.ntmps16
  go_wp2_with fail
  refine (HC.out _).mono ?_
  rintro e w1 ⟨rfl, hb1⟩
  have B1 := Lib.hid hb1
  clear hb1
  go_wp2_with fail
  refine (HP.out _).mono ?_
  rintro e w2 ⟨v, rfl, hown2, hb2⟩
  have B2 := Lib.hid (on B1.out hb2)
  have T := Lib.hid (Texts.of_own hown2)
  clear hown2 hb2
  obtain ⟨A, cc, rfl, hA1, hA2⟩ := T.out.form
  unfold maxLen at hA2
  by_cases h0 : 0 < L.length
  · obtain ⟨ad, p, rfl, hbl, hcell, hp⟩ := T.out.at_ (k := L.length - 1) (by omega)
    have HL : Hid (d = p) := by
      show _ = _
      apply ba_ext
      rw [HD.out, hp, List.getLastD_eq_getLast?, List.getLast?_eq_getElem?, List.getD_eq_getElem?_getD]
    clear hp
    generalize L.length = n at *
    obtain ⟨m, rfl⟩ : ∃ m, n = m + 1 := ⟨n - 1, by omega⟩
    rw [Nat.add_sub_cancel] at hcell
    clear h0
    go_wp2_with fail
    go_ret
    exact ⟨ret_str HL.out.symm, B2.out⟩
  · have e0 : L = [] := flat_none h0
    subst e0
    clear h0
    go_wp2_with fail
    go_ret
    exact ⟨ret_str (ba_ext (by rw [HD.out]; rfl)), B2.out⟩
end Go.Proofs.YtcendlckgimkoaaDoor.W04
