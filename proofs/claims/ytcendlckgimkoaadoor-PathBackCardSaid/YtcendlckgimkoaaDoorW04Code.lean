/-
  Layer 4 (path), walks: what the program's isClean, Is, Join, Dir, Base, Under and Within return at texts of less than 2^48 bytes (Is: of at most 2^31); nothing that was there is changed.
-/
import Derived.Test.YtcendlckgimkoaaDoorW04IsCode
import Derived.Test.YtcendlckgimkoaaDoorW04Real
namespace Go.Proofs.YtcendlckgimkoaaDoor.W04
open Go Go.RowKit Go.Proofs.YtcendlckgimkoaaDoor.Strs Go.Proofs.YtcendlckgimkoaaDoor.M04
open Go.Proofs.YtcendlckgimkoaaDoor.M03 (check)
open Go.Proofs.YtcendlckgimkoaaDoor.Kit (ret_str ret_bool ret_int mk_of mk_bytes ba_ext below_draws on take_bytes drop_bytes cat_bytes bytes_nil bytes_cons list_full list_ne list_none list_nil)

theorem same_bytes (a b : ByteArray) : (a.toList == b.toList) = decide (a.data.toList = b.data.toList) := by
  rw [Lib.toList_data, Lib.toList_data]
  by_cases h : a.data.toList = b.data.toList
  · simp [h]
  · rw [decide_eq_false h]
    exact beq_eq_false_iff_ne.2 h
theorem isClean_any (s : ByteArray) (hs : s.size < 281474976710656) (w : World) : Calls Tryd.prog 26 #[.string s] w fun e w' => e = .returned (.bool (decide (clean s.data.toList = s.data.toList))) ∧ Below w.heap.size w w' := by
  obtain ⟨c, hc⟩ := text_of (clean s.data.toList)
  have HC := Lib.hid (clean_at s c hc (by omega))
  have HE := Lib.hid (same_bytes c s)
  rw [hc] at HE
  clear hc
  generalize decide (clean s.data.toList = s.data.toList) = r at *
  go_enter Tryd.func26, Tryd.ntmps26
  go_wp2_with fail
  refine (HC.out _).mono ?_
  rintro e w1 ⟨rfl, hb⟩
  go_wp2_with fail
  go_ret
  exact ⟨ret_bool HE.out, hb⟩
theorem all_parts (s : ByteArray) : (partsOf s).all rightOf = (parts s.data.toList).all (fun p => decide (check p = 0)) := by
  unfold partsOf
  rw [List.all_map]
  rfl
theorem is_any (s : ByteArray) (hs : s.size ≤ 2147483648) (w : World) : Calls Tryd.prog 11 #[.string s] w fun e w' => e = .returned (.bool (isPath s.data.toList)) ∧ Below w.heap.size w w' := by
  have HC := Lib.hid (isClean_any s (by omega))
  have HO := Lib.hid (hasOnly_right s hs)
  have HE := Lib.hid (isPath_real s.data.toList)
  rw [← all_parts, ← Lib.size_eq] at HE
  generalize isPath s.data.toList = r at *
  generalize decide (clean s.data.toList = s.data.toList) = a at *
  generalize (partsOf s).all rightOf = b at *
  by_cases hl : (s.size : Int) ≤ 1024
  · rw [decide_eq_true (by omega), Bool.true_and] at HE
    cases a with
    | true =>
      go_enter Tryd.func11, Tryd.ntmps11
      go_wp2_with fail
      refine (HC.out _).mono ?_
      rintro e w1 ⟨rfl, hb⟩
      go_wp2_with fail
      refine (HO.out _).mono ?_
      rintro e w2 ⟨rfl, hb2⟩
      go_wp2_with fail
      go_ret
      exact ⟨ret_bool (by rw [HE.out]; rfl), on hb hb2⟩
    | false =>
      go_enter Tryd.func11, Tryd.ntmps11
      go_wp2_with fail
      refine (HC.out _).mono ?_
      rintro e w1 ⟨rfl, hb⟩
      go_wp2_with fail
      go_ret
      exact ⟨ret_bool (by rw [HE.out]; rfl), hb⟩
  · rw [decide_eq_false (by omega), Bool.false_and, Bool.false_and] at HE
    go_enter Tryd.func11, Tryd.ntmps11
    go_wp2_with fail
    go_ret
    exact ⟨ret_bool HE.out.symm, Below.refl _ _⟩
theorem join_at (dir s d : ByteArray) (hd : d.data.toList = join dir.data.toList s.data.toList) (hs : dir.size + s.size < 281474976710655) (w : World) : Calls Tryd.prog 20 #[.string dir, .string s] w fun e w' => e = .returned (.string d) ∧ Below w.heap.size w w' := by
  have HX := Lib.hid (Tryd.strings_HasPrefix s ⟨#[47]⟩)
  rw [show Lib.hasPrefix s.data.toList (⟨#[47]⟩ : ByteArray).data.toList = decide (s.data.toList.head? = some 47) from prefix_slash _] at HX
  unfold join at hd
  by_cases h : s.data.toList.head? = some 47
  · rw [if_pos h] at hd
    rw [decide_eq_true h] at HX
    have HC := Lib.hid (clean_at s d hd (by omega))
    clear hd h
    go_enter Tryd.func20, Tryd.ntmps20
    go_wp2_with fail
    refine (HX.out _).mono ?_
    rintro e w1 ⟨rfl, rfl⟩
    go_wp2_with fail
    refine (HC.out _).mono ?_
    rintro e w1 ⟨rfl, hb⟩
    go_wp2_with fail
    go_ret
    exact ⟨rfl, hb⟩
  · rw [if_neg h] at hd
    rw [decide_eq_false h] at HX
    have hsz : (dir ++ ⟨#[47]⟩ ++ s).size = dir.size + 1 + s.size := by rw [ByteArray.size_append, ByteArray.size_append]; rfl
    have HC := Lib.hid (clean_at (dir ++ ⟨#[47]⟩ ++ s) d (by rw [hd, cat_bytes, cat_bytes, List.append_assoc]; rfl) (by omega))
    clear hd h
    go_enter Tryd.func20, Tryd.ntmps20
    go_wp2_with fail
    refine (HX.out _).mono ?_
    rintro e w1 ⟨rfl, rfl⟩
    go_wp2_with fail
    refine (HC.out _).mono ?_
    rintro e w1 ⟨rfl, hb⟩
    go_wp2_with fail
    go_ret
    exact ⟨rfl, hb⟩
theorem dir_at (s d : ByteArray) (hd : d.data.toList = dirOf s.data.toList) (hs : s.size < 281474976710656) (w : World) : Calls Tryd.prog 13 #[.string s] w fun e w' => e = .returned (.string d) ∧ Below w.heap.size w w' := by
  obtain ⟨c, hc⟩ := text_of (clean s.data.toList)
  have hcs := clean_size hc
  have HC := Lib.hid (clean_at s c hc (by omega))
  have HL := Lib.hid (last_string c (by omega))
  have hls := last_le c.data.toList
  rw [← Lib.size_eq] at hls
  have hc1 : 1 ≤ c.size := by rw [Lib.size_eq, hc]; exact clean_pos _
  have HE : Hid (c.extract 0 (max 1 (lastSlash c.data.toList)).toNat = d) := by
    show _ = _
    apply ba_ext
    rw [take_bytes, hd, hc]; exact dir_real _
  clear hd hc
  generalize lastSlash c.data.toList = z at *
  go_enter Tryd.func13, Tryd.ntmps13
  go_wp2_with fail
  refine (HC.out _).mono ?_
  rintro e w1 ⟨rfl, hb⟩
  go_wp2_with fail
  refine (HL.out _).mono ?_
  rintro e w2 ⟨rfl, rfl⟩
  go_wp2_with fail
  go_ret
  exact ⟨ret_str HE.out, hb⟩
theorem base_at (s d : ByteArray) (hd : d.data.toList = base s.data.toList) (hs : s.size < 281474976710656) (w : World) : Calls Tryd.prog 15 #[.string s] w fun e w' => e = .returned (.string d) ∧ Below w.heap.size w w' := by
  obtain ⟨c, hc⟩ := text_of (clean s.data.toList)
  have hcs := clean_size hc
  have HC := Lib.hid (clean_at s c hc (by omega))
  have HL := Lib.hid (last_string c (by omega))
  have hls := last_lt (clean_pos s.data.toList)
  rw [← hc, ← Lib.size_eq] at hls
  have HE : Hid (c.extract (lastSlash c.data.toList + 1).toNat c.size = d) := by
    show _ = _
    apply ba_ext
    rw [drop_bytes, hd, hc]; exact base_real _
  clear hd hc
  generalize lastSlash c.data.toList = z at *
  go_enter Tryd.func15, Tryd.ntmps15
  go_wp2_with fail
  refine (HC.out _).mono ?_
  rintro e w1 ⟨rfl, hb⟩
  go_wp2_with fail
  refine (HL.out _).mono ?_
  rintro e w2 ⟨rfl, rfl⟩
  go_wp2_with fail
  go_ret
  exact ⟨ret_str HE.out, hb⟩
theorem under_flag (s d : Bytes) : (under s d).2 = isUnder s d := by
  unfold under
  split
  · rename_i h; exact h.symm
  · rename_i h; simp at h; exact h.symm
theorem not_clean_under {s d : Bytes} (h : ¬ (clean s = s ∧ clean d = d)) : under s d = ([], false) := by
  unfold under isUnder
  rw [if_neg]
  intro e
  simp only [Bool.and_eq_true, decide_eq_true_eq] at e
  exact h e.1
theorem head_byte {r : ByteArray} (h : 0 < r.size) : (r.data.toList = [] ∨ r.data.toList.head? = some 47) ↔ (r[0].toNat : Int) = 47 := by
  rw [bytes_cons h]
  constructor
  · rintro (e | e)
    · cases e
    · simp at e
      rw [e]; rfl
  · intro e
    right
    have : r[0] = 47 := Kit.byte_eq (d := 47) e
    simp [this]
theorem ret_text_bool {a b : ByteArray} (h : a = b) (x : Bool) : Ending.returned (.tuple #[.string a, .bool x]) = .returned (.tuple #[.string b, .bool x]) := by rw [h]
/-- what Under returns: the text d, and whether -/
theorem under_at (s dir d : ByteArray) (hd : d.data.toList = (under s.data.toList dir.data.toList).1) (hs : s.size < 281474976710656) (hs2 : dir.size < 281474976710656) (w : World) : Calls Tryd.prog 18 #[.string s, .string dir] w fun e w' => e = .returned (.tuple #[.string d, .bool (isUnder s.data.toList dir.data.toList)]) ∧ Below w.heap.size w w' := by
  rw [← under_flag]
  have HC := Lib.hid (isClean_any s hs)
  have HC2 := Lib.hid (isClean_any dir hs2)
  by_cases h1 : clean s.data.toList = s.data.toList
  · rw [decide_eq_true h1] at HC
    by_cases h2 : clean dir.data.toList = dir.data.toList
    · rw [decide_eq_true h2] at HC2
      have HR := under_real h1 h2
      obtain ⟨t, ht⟩ := text_of (Lib.trimSuffix dir.data.toList [47])
      have HTS : Hid (∀ w : World, Calls Tryd.prog 32 #[.string dir, .string ⟨#[47]⟩] w fun e w' => e = .returned (.string t) ∧ w' = w) := by
        intro w
        refine (Tryd.strings_TrimSuffix dir ⟨#[47]⟩ w (by omega)).mono ?_
        rintro e w' ⟨rfl, rfl⟩
        exact ⟨ret_str (mk_of ht), rfl⟩
      simp only [← ht] at HR
      obtain ⟨r, hr⟩ := text_of (Lib.trimPrefix s.data.toList t.data.toList)
      have HCP : Hid (∀ w : World, Calls Tryd.prog 31 #[.string s, .string t] w fun e w' => e = .returned (.tuple #[.string r, .bool (Lib.hasPrefix s.data.toList t.data.toList)]) ∧ w' = w) := by
        intro w
        refine (Tryd.strings_CutPrefix s t w).mono ?_
        rintro e w' ⟨rfl, rfl⟩
        rw [mk_of hr]
        exact ⟨rfl, rfl⟩
      simp only [← hr] at HR
      obtain ⟨u, hu⟩ := text_of (Lib.trimPrefix r.data.toList [47])
      have HTP : Hid (∀ w : World, Calls Tryd.prog 33 #[.string r, .string ⟨#[47]⟩] w fun e w' => e = .returned (.string u) ∧ w' = w) := by
        intro w
        refine (Tryd.strings_TrimPrefix r ⟨#[47]⟩ w).mono ?_
        rintro e w' ⟨rfl, rfl⟩
        exact ⟨ret_str (mk_of hu), rfl⟩
      rw [← hu] at HR
      clear ht hr hu h1 h2
      generalize Lib.hasPrefix s.data.toList t.data.toList = p at *
      generalize under s.data.toList dir.data.toList = R at *
      cases p with
      | false =>
        have hR : R = ([], false) := HR.2 (fun h => by simp at h)
        subst hR
        have HD : Hid ((⟨#[]⟩ : ByteArray) = d) := ba_ext hd.symm
        clear HR hd HTP
        go_enter Tryd.func18, Tryd.ntmps18
        go_wp2_with fail
        refine (HC.out _).mono ?_
        rintro e w1 ⟨rfl, hb1⟩
        go_wp2_with fail
        refine (HC2.out _).mono ?_
        rintro e w2 ⟨rfl, hb2⟩
        have B2 := Lib.hid (on hb1 hb2)
        clear hb1 hb2
        go_wp2_with fail
        refine (HTS.out _).mono ?_
        rintro e w3 ⟨rfl, rfl⟩
        go_wp2_with fail
        refine (HCP.out _).mono ?_
        rintro e w4 ⟨rfl, rfl⟩
        go_wp2_with fail
        go_ret2
        exact ⟨ret_text_bool HD.out _, B2.out⟩
      | true =>
        by_cases h0 : 0 < r.size
        · have z1 := list_ne h0
          have z2 := list_full h0
          have HH := head_byte h0
          by_cases h47 : (r[0].toNat : Int) = 47
          · have hR : R = (u.data.toList, true) := HR.1 ⟨rfl, HH.2 h47⟩
            subst hR
            have HD : Hid (u = d) := ba_ext hd.symm
            have t47 : ((r[0].toNat : Int) != 47) = false := by simp [h47]
            clear HR hd HH h47
            go_enter Tryd.func18, Tryd.ntmps18
            go_wp2_with fail
            refine (HC.out _).mono ?_
            rintro e w1 ⟨rfl, hb1⟩
            go_wp2_with fail
            refine (HC2.out _).mono ?_
            rintro e w2 ⟨rfl, hb2⟩
            have B2 := Lib.hid (on hb1 hb2)
            clear hb1 hb2
            go_wp2_with fail
            refine (HTS.out _).mono ?_
            rintro e w3 ⟨rfl, rfl⟩
            go_wp2_with fail
            refine (HCP.out _).mono ?_
            rintro e w4 ⟨rfl, rfl⟩
            go_wp2_with fail
            refine (HTP.out _).mono ?_
            rintro e w5 ⟨rfl, rfl⟩
            go_wp2_with fail
            go_ret2
            exact ⟨ret_text_bool HD.out _, B2.out⟩
          · have hR : R = ([], false) := HR.2 (fun h => h47 (HH.1 h.2))
            subst hR
            have HD : Hid ((⟨#[]⟩ : ByteArray) = d) := ba_ext hd.symm
            have t47 : ((r[0].toNat : Int) != 47) = true := by simp [h47]
            clear HR hd HTP HH h47
            go_enter Tryd.func18, Tryd.ntmps18
            go_wp2_with fail
            refine (HC.out _).mono ?_
            rintro e w1 ⟨rfl, hb1⟩
            go_wp2_with fail
            refine (HC2.out _).mono ?_
            rintro e w2 ⟨rfl, hb2⟩
            have B2 := Lib.hid (on hb1 hb2)
            clear hb1 hb2
            go_wp2_with fail
            refine (HTS.out _).mono ?_
            rintro e w3 ⟨rfl, rfl⟩
            go_wp2_with fail
            refine (HCP.out _).mono ?_
            rintro e w4 ⟨rfl, rfl⟩
            go_wp2_with fail
            go_ret2
            exact ⟨ret_text_bool HD.out _, B2.out⟩
        · have z1 := list_nil h0
          have z2 := list_none h0
          have hR : R = (u.data.toList, true) := HR.1 ⟨rfl, Or.inl (bytes_nil h0)⟩
          subst hR
          have HD : Hid (u = d) := ba_ext hd.symm
          clear HR hd
          go_enter Tryd.func18, Tryd.ntmps18
          go_wp2_with fail
          refine (HC.out _).mono ?_
          rintro e w1 ⟨rfl, hb1⟩
          go_wp2_with fail
          refine (HC2.out _).mono ?_
          rintro e w2 ⟨rfl, hb2⟩
          have B2 := Lib.hid (on hb1 hb2)
          clear hb1 hb2
          go_wp2_with fail
          refine (HTS.out _).mono ?_
          rintro e w3 ⟨rfl, rfl⟩
          go_wp2_with fail
          refine (HCP.out _).mono ?_
          rintro e w4 ⟨rfl, rfl⟩
          go_wp2_with fail
          refine (HTP.out _).mono ?_
          rintro e w5 ⟨rfl, rfl⟩
          go_wp2_with fail
          go_ret2
          exact ⟨ret_text_bool HD.out _, B2.out⟩
    · have HN := Lib.hid (not_clean_under (fun h => h2 h.2) : under s.data.toList dir.data.toList = ([], false))
      rw [decide_eq_false h2] at HC2
      rw [HN.out] at hd ⊢
      have HD : Hid ((⟨#[]⟩ : ByteArray) = d) := ba_ext hd.symm
      clear hd h1 h2 HN
      go_enter Tryd.func18, Tryd.ntmps18
      go_wp2_with fail
      refine (HC.out _).mono ?_
      rintro e w1 ⟨rfl, hb1⟩
      go_wp2_with fail
      refine (HC2.out _).mono ?_
      rintro e w2 ⟨rfl, hb2⟩
      have B2 := Lib.hid (on hb1 hb2)
      clear hb1 hb2
      go_wp2_with fail
      go_ret2
      exact ⟨ret_text_bool HD.out _, B2.out⟩
  · have HN := Lib.hid (not_clean_under (fun h => h1 h.1) : under s.data.toList dir.data.toList = ([], false))
    rw [decide_eq_false h1] at HC
    rw [HN.out] at hd ⊢
    have HD : Hid ((⟨#[]⟩ : ByteArray) = d) := ba_ext hd.symm
    clear hd h1 HN HC2
    go_enter Tryd.func18, Tryd.ntmps18
    go_wp2_with fail
    refine (HC.out _).mono ?_
    rintro e w1 ⟨rfl, hb1⟩
    go_wp2_with fail
    go_ret2
    exact ⟨ret_text_bool HD.out _, hb1⟩
theorem within_any (s dir : ByteArray) (hs : s.size < 281474976710656) (hs2 : dir.size < 281474976710656) (w : World) : Calls Tryd.prog 22 #[.string s, .string dir] w fun e w' => e = .returned (.bool (isUnder s.data.toList dir.data.toList)) ∧ Below w.heap.size w w' := by
  obtain ⟨d, hd⟩ := text_of (under s.data.toList dir.data.toList).1
  have H := Lib.hid (under_at s dir d hd hs hs2)
  clear hd
  generalize isUnder s.data.toList dir.data.toList = r at *
  go_enter Tryd.func22, Tryd.ntmps22
  go_wp2_with fail
  refine (H.out _).mono ?_
  rintro e w1 ⟨rfl, hb1⟩
  go_wp2_with fail
  go_ret
  exact ⟨rfl, hb1⟩
end Go.Proofs.YtcendlckgimkoaaDoor.W04
