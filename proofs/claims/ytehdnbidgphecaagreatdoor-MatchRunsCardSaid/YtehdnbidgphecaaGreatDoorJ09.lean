/-
  Texts joined, in build order, each with its own comment and its own conditions: W13Parsed, W13ParseAny, W14Often, W14Set, W14Brackets, W15Seq.
-/
import Derived.Test.YtehdnbidgphecaaGreatDoorJ08
import Derived.Test.YtehdnbidgphecaaGreatDoorJ07
import Derived.Deep.RegionHeld3
import Derived.Test.YtehdnbidgphecaaGreatDoorJ06
import Derived.Deep.LoopGhost
/-
  Layer 13 (class): the program's Parse. The conditions stand in the statements.
-/
namespace Go.Proofs.YtehdnbidgphecaaGreatDoor.W13
set_option maxRecDepth 100000
open Go Go.RowKit Go.Proofs.YtehdnbidgphecaaGreatDoor.M13 Go.Proofs.YtehdnbidgphecaaGreatDoor.Row256
open Go.Proofs.YtehdnbidgphecaaGreatDoor.Kit (ret_str ret_bool ret_int mk_of mk_bytes ba_ext below_draws on drop_bytes)

/-- what Parse answers -/
def Parsed (w : World) (r : (Nat → Bool) × Nat × Int) (e : Ending) (w' : World) : Prop := e = .returned (.tuple #[.string (tx r.1), .int .i64 r.2.1, .int .i64 r.2.2]) ∧ Below w.heap.size w w'
set_option maxHeartbeats 1000000 in
theorem parse_no {s : ByteArray} (h2 : Lib.hasPrefix s.data.toList [91, 94] = false) (h1 : Lib.hasPrefix s.data.toList [91] = false) (w : World) : Calls Tryz.prog 120 #[.string s] w (Parsed w (fun _ => false, 0, 3)) := by
  have hz := zero37
  have H2 := Lib.hid h2
  have H1 := Lib.hid h1
  clear h1 h2
  go_enter Tryz.func120, Tryz.ntmps120
  go_wp2_with fail
  refine (Tryz.strings_HasPrefix _ _ _).mono ?_
  rintro e w1 ⟨rfl, rfl⟩
  rw [H2.out]
  go_wp2_with fail
  refine (Tryz.strings_CutPrefix _ _ _).mono ?_
  rintro e w1 ⟨rfl, rfl⟩
  rw [H1.out]
  go_wp2_with fail
  refine (text_any _ _).mono ?_
  rintro e w2 ⟨rfl, hb2⟩
  have HB := Lib.hid hb2
  clear hb2
  go_wp2_with fail
  go_ret3
  exact ⟨rfl, HB.out⟩
set_option maxHeartbeats 2000000 in
theorem parse_bad {s q : ByteArray} (h2 : Lib.hasPrefix s.data.toList [91, 94] = false) (h1 : Lib.hasPrefix s.data.toList [91] = true) (hq : (⟨(Lib.trimPrefix s.data.toList [91]).toArray⟩ : ByteArray) = q) (hqs : q.size ≤ 4611686018427387904) {F : Nat → Bool} {n : Nat} {er : Int}
    (hit : items q.data.toList (q.size + 1) 0 (fun _ => false) = (F, n, er)) (her : ¬ er = 0) (hn : n ≤ 4611686018427387904) (w : World) : Calls Tryz.prog 120 #[.string s] w (Parsed w (fun _ => false, 0, er)) := by
  have hz := zero37
  have H2 := Lib.hid h2
  have H1 := Lib.hid h1
  clear h1
  have te : (er != 0) = true := by simpa using her
  have HQ := Lib.hid hq
  have HQS := Lib.hid hqs
  have HIT := Lib.hid hit
  have HN := Lib.hid hn
  clear h2 hq hqs hit hn her
  go_enter Tryz.func120, Tryz.ntmps120
  go_wp2_with fail
  refine (Tryz.strings_HasPrefix _ _ _).mono ?_
  rintro e w1 ⟨rfl, rfl⟩
  rw [H2.out]
  go_wp2_with fail
  refine (Tryz.strings_CutPrefix _ _ _).mono ?_
  rintro e w1 ⟨rfl, rfl⟩
  simp only []
  rw [H1.out, HQ.out]
  go_wp2_with fail
  refine (items_any _ HQS.out _).mono ?_
  rintro e w2 ⟨rfl, hb2⟩
  rw [HIT.out]
  unfold itemsV
  have HB := Lib.hid hb2
  clear hb2
  go_wp2_with (first | (refine store_row rfl (.tmp 8) (.tmp 26) rfl rfl rfl (Row.new _ _ _) ?_; intro wz hrz hbz; have HR := Lib.hid hrz; have HZ := Lib.hid ((new_row w2).2.trans (hbz.below (by rw [World.size_alloc]; omega) (Nat.le_refl _))); clear hrz hbz) | fail)
  refine (text_any _ _).mono ?_
  rintro e w3 ⟨rfl, hb3⟩
  have HB3 := Lib.hid (on (on HB.out HZ.out) hb3)
  clear hb3
  go_wp2_with fail
  go_ret3
  exact ⟨rfl, HB3.out⟩
set_option maxHeartbeats 2000000 in
theorem parse_badnot {s q : ByteArray} (h2 : Lib.hasPrefix s.data.toList [91, 94] = true) (hq : (⟨(Lib.trimPrefix s.data.toList [91, 94]).toArray⟩ : ByteArray) = q) (hqs : q.size ≤ 4611686018427387904) {F : Nat → Bool} {n : Nat} {er : Int}
    (hit : items q.data.toList (q.size + 1) 0 (fun _ => false) = (F, n, er)) (her : ¬ er = 0) (hn : n ≤ 4611686018427387904) (w : World) : Calls Tryz.prog 120 #[.string s] w (Parsed w (fun _ => false, 0, er)) := by
  have hz := zero37
  have H2 := Lib.hid h2
  have te : (er != 0) = true := by simpa using her
  have HQ := Lib.hid hq
  have HQS := Lib.hid hqs
  have HIT := Lib.hid hit
  have HN := Lib.hid hn
  clear h2 hq hqs hit hn her
  go_enter Tryz.func120, Tryz.ntmps120
  go_wp2_with fail
  refine (Tryz.strings_HasPrefix _ _ _).mono ?_
  rintro e w1 ⟨rfl, rfl⟩
  rw [H2.out]
  go_wp2_with fail
  refine (Tryz.strings_CutPrefix _ _ _).mono ?_
  rintro e w1 ⟨rfl, rfl⟩
  simp only []
  rw [H2.out, HQ.out]
  go_wp2_with fail
  refine (items_any _ HQS.out _).mono ?_
  rintro e w2 ⟨rfl, hb2⟩
  rw [HIT.out]
  unfold itemsV
  have HB := Lib.hid hb2
  clear hb2
  go_wp2_with (first | (refine store_row rfl (.tmp 8) (.tmp 26) rfl rfl rfl (Row.new _ _ _) ?_; intro wz hrz hbz; have HR := Lib.hid hrz; have HZ := Lib.hid ((new_row w2).2.trans (hbz.below (by rw [World.size_alloc]; omega) (Nat.le_refl _))); clear hrz hbz) | fail)
  refine (text_any _ _).mono ?_
  rintro e w3 ⟨rfl, hb3⟩
  have HB3 := Lib.hid (on (on HB.out HZ.out) hb3)
  clear hb3
  go_wp2_with fail
  go_ret3
  exact ⟨rfl, HB3.out⟩
set_option maxHeartbeats 2000000 in
theorem parse_ok {s q : ByteArray} (h2 : Lib.hasPrefix s.data.toList [91, 94] = false) (h1 : Lib.hasPrefix s.data.toList [91] = true) (hq : (⟨(Lib.trimPrefix s.data.toList [91]).toArray⟩ : ByteArray) = q) (hqs : q.size ≤ 4611686018427387904) {F : Nat → Bool} {n : Nat} {er : Int}
    (hit : items q.data.toList (q.size + 1) 0 (fun _ => false) = (F, n, er)) (her : er = 0) (hn : n ≤ 4611686018427387904) (w : World) : Calls Tryz.prog 120 #[.string s] w (Parsed w (F, 1 + n, 0)) := by
  have hz := zero37
  have H2 := Lib.hid h2
  have H1 := Lib.hid h1
  clear h1
  have te : (er != 0) = false := by rw [her]; rfl
  subst her
  have HQ := Lib.hid hq
  have HQS := Lib.hid hqs
  have HIT := Lib.hid hit
  have HN := Lib.hid hn
  clear h2 hq hqs hit hn
  go_enter Tryz.func120, Tryz.ntmps120
  go_wp2_with fail
  refine (Tryz.strings_HasPrefix _ _ _).mono ?_
  rintro e w1 ⟨rfl, rfl⟩
  rw [H2.out]
  go_wp2_with fail
  refine (Tryz.strings_CutPrefix _ _ _).mono ?_
  rintro e w1 ⟨rfl, rfl⟩
  simp only []
  rw [H1.out, HQ.out]
  go_wp2_with fail
  refine (items_any _ HQS.out _).mono ?_
  rintro e w2 ⟨rfl, hb2⟩
  rw [HIT.out]
  unfold itemsV
  have HB := Lib.hid hb2
  clear hb2
  go_wp2_with (first | (refine store_row rfl (.tmp 8) (.tmp 26) rfl rfl rfl (Row.new _ _ _) ?_; intro wz hrz hbz; have HR := Lib.hid hrz; have HZ := Lib.hid ((new_row w2).2.trans (hbz.below (by rw [World.size_alloc]; omega) (Nat.le_refl _))); clear hrz hbz) | (refine load_row rfl (.tmp 8) rfl rfl HR.out ?_) | fail)
  have HBY := Lib.hid (on HB.out HZ.out)
  refine (text_any _ _).mono ?_
  rintro e w4 ⟨rfl, hb4⟩
  have HB4 := Lib.hid (on HBY.out hb4)
  have hn := HN.out
  clear hb4
  go_wp2_with fail
  go_ret3
  exact ⟨rfl, HB4.out⟩
set_option maxHeartbeats 2000000 in
theorem parse_oknot {s q : ByteArray} (h2 : Lib.hasPrefix s.data.toList [91, 94] = true) (hq : (⟨(Lib.trimPrefix s.data.toList [91, 94]).toArray⟩ : ByteArray) = q) (hqs : q.size ≤ 4611686018427387904) {F : Nat → Bool} {n : Nat} {er : Int}
    (hit : items q.data.toList (q.size + 1) 0 (fun _ => false) = (F, n, er)) (her : er = 0) (hn : n ≤ 4611686018427387904) (w : World) : Calls Tryz.prog 120 #[.string s] w (Parsed w (fun i => !F i, 2 + n, 0)) := by
  have hz := zero37
  have H2 := Lib.hid h2
  have te : (er != 0) = false := by rw [her]; rfl
  subst her
  have HQ := Lib.hid hq
  have HQS := Lib.hid hqs
  have HIT := Lib.hid hit
  have HN := Lib.hid hn
  clear h2 hq hqs hit hn
  go_enter Tryz.func120, Tryz.ntmps120
  go_wp2_with fail
  refine (Tryz.strings_HasPrefix _ _ _).mono ?_
  rintro e w1 ⟨rfl, rfl⟩
  rw [H2.out]
  go_wp2_with fail
  refine (Tryz.strings_CutPrefix _ _ _).mono ?_
  rintro e w1 ⟨rfl, rfl⟩
  simp only []
  rw [H2.out, HQ.out]
  go_wp2_with fail
  refine (items_any _ HQS.out _).mono ?_
  rintro e w2 ⟨rfl, hb2⟩
  rw [HIT.out]
  unfold itemsV
  have HB := Lib.hid hb2
  clear hb2
  go_wp2_with (first | (refine store_row rfl (.tmp 8) (.tmp 26) rfl rfl rfl (Row.new _ _ _) ?_; intro wz hrz hbz; have HR := Lib.hid hrz; have HZ := Lib.hid ((new_row w2).2.trans (hbz.below (by rw [World.size_alloc]; omega) (Nat.le_refl _))); clear hrz hbz) | (refine load_row rfl (.tmp 8) rfl rfl HR.out ?_) | fail)
  have HBB := Lib.hid (on HB.out HZ.out)
  refine (others_any _ _).mono ?_
  rintro e w3 ⟨rfl, hb3⟩
  replace HR := Lib.hid (HR.out.on hb3 HR.out.lt)
  have HB3 := Lib.hid (on HBB.out hb3)
  have HLT := Lib.hid (Nat.le_trans HB.out.size (Nat.le_refl w2.heap.size))
  clear hb3
  go_wp2_with (first | (refine store_row rfl (.tmp 8) (.tmp 39) rfl rfl rfl HR.out ?_; intro wy hry hby; have HRY := Lib.hid hry; have HBY := Lib.hid (HB3.out.trans (hby.below HB3.out.size HLT.out)); clear hry hby) | (refine load_row rfl (.tmp 8) rfl rfl HRY.out ?_) | fail)
  refine (text_any _ _).mono ?_
  rintro e w4 ⟨rfl, hb4⟩
  have HB4 := Lib.hid (on HBY.out hb4)
  have hn := HN.out
  clear hb4
  go_wp2_with fail
  go_ret3
  exact ⟨rfl, HB4.out⟩
end Go.Proofs.YtehdnbidgphecaaGreatDoor.W13
/-
  Layer 13 (class): the contract of Parse. The conditions stand in the statements.
-/
namespace Go.Proofs.YtehdnbidgphecaaGreatDoor.W13
open Go Go.RowKit Go.Proofs.YtehdnbidgphecaaGreatDoor.M13 Go.Proofs.YtehdnbidgphecaaGreatDoor.Row256
open Go.Proofs.YtehdnbidgphecaaGreatDoor.Kit (ret_str ret_bool ret_int mk_of mk_bytes ba_ext below_draws on drop_bytes)

theorem items_n (s : List UInt8) : ∀ (fuel at_ : Nat) (f : Nat → Bool), (items s fuel at_ f).2.1 ≤ s.length + 1
  | 0, _, _ => Nat.zero_le _
  | fuel + 1, at_, f => by
    unfold items
    split
    · exact Nat.zero_le _
    · split
      · simp only; omega
      · split
        · exact Nat.zero_le _
        · exact items_n s fuel _ _
theorem parse_any {s : ByteArray} (hs : s.size ≤ 4611686018427387000) (w : World) : Calls Tryz.prog 120 #[.string s] w (Parsed w (parse s.data.toList)) := by
  have hsz : s.data.toList.length = s.size := (Lib.size_eq s).symm
  generalize hl : s.data.toList = l at hsz
  cases l with
  | nil => exact parse_no (by rw [hl]; rfl) (by rw [hl]; rfl) w
  | cons c r =>
    by_cases hc : c = 91
    · subst hc
      have plain : (Lib.hasPrefix (91 :: r) [91, 94] = false) → parse (91 :: r) = (if (items r (r.length + 1) 0 (fun _ => false)).2.2 ≠ 0 then (fun _ => false, 0, (items r (r.length + 1) 0 (fun _ => false)).2.2) else ((items r (r.length + 1) 0 (fun _ => false)).1, 1 + (items r (r.length + 1) 0 (fun _ => false)).2.1, 0)) → Calls Tryz.prog 120 #[.string s] w (Parsed w (parse (91 :: r))) := by
        intro h2 hp
        rw [hp]
        have hq : (⟨(Lib.trimPrefix s.data.toList [91]).toArray⟩ : ByteArray) = ⟨r.toArray⟩ := by rw [hl]; rfl
        have hqz : (⟨r.toArray⟩ : ByteArray).size = r.length := by simp [ByteArray.size]
        have hn := items_n r (r.length + 1) 0 (fun _ => false)
        rw [List.length_cons] at hsz
        obtain ⟨⟨F, n, er⟩, hit⟩ : ∃ x, items r (r.length + 1) 0 (fun _ => false) = x := ⟨_, rfl⟩
        rw [hit] at hn ⊢
        simp only at hn ⊢
        have hit2 : items (⟨r.toArray⟩ : ByteArray).data.toList ((⟨r.toArray⟩ : ByteArray).size + 1) 0 (fun _ => false) = (F, n, er) := by rw [hqz]; exact hit
        by_cases he : er = 0
        · rw [if_neg (by simpa using he)]
          exact parse_ok (by rw [hl]; exact h2) (by rw [hl]; rfl) hq (by rw [hqz]; omega) hit2 he (by omega) w
        · rw [if_pos he]
          exact parse_bad (by rw [hl]; exact h2) (by rw [hl]; rfl) hq (by rw [hqz]; omega) hit2 he (by omega) w
      cases r with
      | nil => exact plain rfl rfl
      | cons d q =>
        by_cases hd : d = 94
        · subst hd
          have hp : parse (91 :: 94 :: q) = (if (items q (q.length + 1) 0 (fun _ => false)).2.2 ≠ 0 then (fun _ => false, 0, (items q (q.length + 1) 0 (fun _ => false)).2.2) else (fun i => !(items q (q.length + 1) 0 (fun _ => false)).1 i, 2 + (items q (q.length + 1) 0 (fun _ => false)).2.1, 0)) := rfl
          rw [hp]
          have hq : (⟨(Lib.trimPrefix s.data.toList [91, 94]).toArray⟩ : ByteArray) = ⟨q.toArray⟩ := by rw [hl]; rfl
          have hqz : (⟨q.toArray⟩ : ByteArray).size = q.length := by simp [ByteArray.size]
          have hn := items_n q (q.length + 1) 0 (fun _ => false)
          rw [List.length_cons, List.length_cons] at hsz
          obtain ⟨⟨F, n, er⟩, hit⟩ : ∃ x, items q (q.length + 1) 0 (fun _ => false) = x := ⟨_, rfl⟩
          rw [hit] at hn ⊢
          simp only at hn ⊢
          have hit2 : items (⟨q.toArray⟩ : ByteArray).data.toList ((⟨q.toArray⟩ : ByteArray).size + 1) 0 (fun _ => false) = (F, n, er) := by rw [hqz]; exact hit
          by_cases he : er = 0
          · rw [if_neg (by simpa using he)]
            exact parse_oknot (by rw [hl]; rfl) hq (by rw [hqz]; omega) hit2 he (by omega) w
          · rw [if_pos he]
            exact parse_badnot (by rw [hl]; rfl) hq (by rw [hqz]; omega) hit2 he (by omega) w
        · refine plain ?_ ?_
          · have h3 : ¬ 94 = d := fun e => hd e.symm
            simp [Lib.hasPrefix, List.isPrefixOf, h3]
          · conv => lhs; unfold parse
            simp only [if_true, if_neg hd]
    · have h3 : ¬ 91 = c := fun e => hc e.symm
      have hp : parse (c :: r) = (fun _ => false, 0, 3) := by unfold parse; simp only [if_neg hc]
      rw [hp]
      exact parse_no (by rw [hl]; simp [Lib.hasPrefix, List.isPrefixOf, h3]) (by rw [hl]; simp [Lib.hasPrefix, List.isPrefixOf, h3]) w
end Go.Proofs.YtehdnbidgphecaaGreatDoor.W13
/-
  Layer 14 (pattern), walks of the program's times, set, escaped. The conditions stand in the statements.
-/
namespace Go.Proofs.YtehdnbidgphecaaGreatDoor.W14
set_option maxRecDepth 100000
open Go Go.RowKit Go.Proofs.YtehdnbidgphecaaGreatDoor.M14
open Go.Proofs.YtehdnbidgphecaaGreatDoor.Row256 (Beside)
open Go.Proofs.YtehdnbidgphecaaGreatDoor.Kit (ret_str ret_bool ret_int mk_of mk_bytes ba_ext below_draws on list_full list_ne list_none list_nil)

/-- how often the atom ahead of a text is asked for: an error, at least, at most, by how many bytes -/
def timesR (l : List UInt8) : Int × Int × Int × Nat :=
  match l with
  | [] => (0, 0, 0, 0)
  | c :: r => if c = 42 then (0, 0, -1, 1) else if c = 43 then (0, 1, -1, 1) else if c = 63 then (0, 0, 1, 1) else if c = 123 then braces r else (0, 0, 0, 0)
theorem timesR_at {s : ByteArray} (h : 0 < s.size) : timesR s.data.toList = if s[0] = 42 then (0, 0, -1, 1) else if s[0] = 43 then (0, 1, -1, 1) else if s[0] = 63 then (0, 0, 1, 1) else if s[0] = 123 then braces (s.data.toList.drop 1) else (0, 0, 0, 0) := by
  have e : s.data.toList = s[0] :: s.data.toList.drop 1 := by
    conv => lhs; rw [← List.drop_zero (l := s.data.toList), Kit.drop_next s 0 h]
  generalize s.data.toList.drop 1 = r at *
  rw [e]; rfl
set_option maxHeartbeats 1000000 in
theorem times_any (s : ByteArray) (hs : s.size ≤ 1000000) (w : World) : Calls Tryz.prog 97 #[.string s] w fun e w' => e = .returned (numV (timesR s.data.toList)) ∧ Below w.heap.size w w' := by
  by_cases h0 : 0 < s.size
  · have hl := list_full h0
    have hv := timesR_at h0
    by_cases h42 : s[0] = 42
    · have t42 : ((s[0].toNat : Int) == 42) = true := u8y h42
      rw [if_pos h42] at hv
      have HV := Lib.hid hv
      clear hv h42
      rw [HV.out]
      go_enter Tryz.func97, Tryz.ntmps97
      go_wp2_with fail
      refine bodyPost_ret (results_tmp4 rfl _ _ _) rfl ?_
      exact ⟨rfl, Below.refl _ _⟩
    · have t42 : ((s[0].toNat : Int) == 42) = false := u8n h42
      by_cases h43 : s[0] = 43
      · have t43 : ((s[0].toNat : Int) == 43) = true := u8y h43
        rw [if_neg h42, if_pos h43] at hv
        have HV := Lib.hid hv
        clear hv h42 h43
        rw [HV.out]
        go_enter Tryz.func97, Tryz.ntmps97
        go_wp2_with fail
        refine bodyPost_ret (results_tmp4 rfl _ _ _) rfl ?_
        exact ⟨rfl, Below.refl _ _⟩
      · have t43 : ((s[0].toNat : Int) == 43) = false := u8n h43
        by_cases h63 : s[0] = 63
        · have t63 : ((s[0].toNat : Int) == 63) = true := u8y h63
          rw [if_neg h42, if_neg h43, if_pos h63] at hv
          have HV := Lib.hid hv
          clear hv h42 h43 h63
          rw [HV.out]
          go_enter Tryz.func97, Tryz.ntmps97
          go_wp2_with fail
          refine bodyPost_ret (results_tmp4 rfl _ _ _) rfl ?_
          exact ⟨rfl, Below.refl _ _⟩
        · have t63 : ((s[0].toNat : Int) == 63) = false := u8n h63
          by_cases h123 : s[0] = 123
          · have t123 : ((s[0].toNat : Int) == 123) = true := u8y h123
            rw [if_neg h42, if_neg h43, if_neg h63, if_pos h123] at hv
            have HV := Lib.hid hv
            clear hv h42 h43 h63 h123
            rw [HV.out]
            have HN := Lib.hid (numbers_any h0 hs w)
            obtain ⟨r, hr⟩ : ∃ r, braces (s.data.toList.drop 1) = r := ⟨_, rfl⟩
            rw [hr] at HN ⊢
            clear hr HV
            go_enter Tryz.func97, Tryz.ntmps97
            go_wp2_with fail
            refine HN.out.mono ?_
            rintro e w1 ⟨rfl, hb⟩
            have HB := Lib.hid hb
            clear hb
            unfold numV
            go_wp2_with fail
            refine bodyPost_ret (results_tmp4 rfl _ _ _) rfl ?_
            exact ⟨rfl, HB.out⟩
          · have t123 : ((s[0].toNat : Int) == 123) = false := u8n h123
            rw [if_neg h42, if_neg h43, if_neg h63, if_neg h123] at hv
            have HV := Lib.hid hv
            clear hv h42 h43 h63 h123
            rw [HV.out]
            go_enter Tryz.func97, Tryz.ntmps97
            go_wp2_with fail
            refine bodyPost_ret (results_tmp4 rfl _ _ _) rfl ?_
            exact ⟨rfl, Below.refl _ _⟩
  · have hl := list_none h0
    have HV : Hid (timesR s.data.toList = (0, 0, 0, 0)) := by
      unfold Hid
      rw [Kit.bytes_nil h0]; rfl
    rw [HV.out]
    go_enter Tryz.func97, Tryz.ntmps97
    go_wp2_with fail
    refine bodyPost_ret (results_tmp4 rfl _ _ _) rfl ?_
    exact ⟨rfl, Below.refl _ _⟩
theorem timesR_ok {l : List UInt8} (h : (timesR l).1 = 0) : (timesR l).2.2.2 ≤ l.length := by
  cases l with
  | nil => exact Nat.le_refl _
  | cons c r =>
    revert h
    unfold timesR
    simp only
    split
    · intro _; simp
    · split
      · intro _; simp
      · split
        · intro _; simp
        · split
          · intro h
            have := (braces_ok h).2.2.2
            simpa using this
          · intro _; simp
theorem timesR_braces (r : List UInt8) : timesR (123 :: r) = braces r := rfl
theorem often_times (S : List UInt8) (p : Piece) {to : Nat} (h : to ≤ S.length) : often S p to = if (timesR (S.drop to)).1 ≠ 0 then .bad to (timesR (S.drop to)).1 else if (timesR (S.drop to)).2.2.2 = 0 then .ok p to else .ok (.mk 9 ⟨#[]⟩ [p] (timesR (S.drop to)).2.1 (timesR (S.drop to)).2.2.1) (to + (timesR (S.drop to)).2.2.2) := by
  unfold often
  by_cases h0 : to = S.length
  · rw [if_pos h0, h0, List.drop_length]; rfl
  · rw [if_neg h0]
    have hlt : to < S.length := by omega
    have e : S.drop to = S.getD to 0 :: S.drop (to + 1) := by
      rw [List.drop_eq_getElem_cons hlt, List.getD_eq_getElem?_getD, List.getElem?_eq_getElem hlt]; rfl
    rw [e]
    generalize S.getD to 0 = c
    by_cases h1 : c = 123
    · subst h1
      rw [if_pos rfl, timesR_braces]
      by_cases h2 : (braces (S.drop (to + 1))).1 ≠ 0
      · rw [if_pos h2, if_pos h2]
      · rw [if_neg h2, if_neg h2]
        have := (braces_ok (l := S.drop (to + 1)) (by simpa using h2)).2.2.1
        rw [if_neg (by omega)]
    · rw [if_neg h1]
      unfold timesR
      simp only
      by_cases h2 : c = 42
      · simp [h2]
      · by_cases h3 : c = 43
        · simp [h3]
        · by_cases h4 : c = 63
          · simp [h4]
          · simp [h1, h2, h3, h4]
end Go.Proofs.YtehdnbidgphecaaGreatDoor.W14
/-
  Layer 14 (pattern), walks of the program's set and escaped: what a reader reads. The conditions stand in the statements.
-/
namespace Go.Proofs.YtehdnbidgphecaaGreatDoor.W14
set_option maxRecDepth 100000
open Go Go.RowKit Go.Proofs.YtehdnbidgphecaaGreatDoor.M14
open Go.Proofs.YtehdnbidgphecaaGreatDoor.Row256 (Beside)
open Go.Proofs.YtehdnbidgphecaaGreatDoor.Kit (ret_str ret_bool ret_int mk_of mk_bytes ba_ext below_draws on list_full list_ne list_none list_nil)

/-- what a reader reads, and where it stands then -/
def Reads (rb : Nat) (s : ByteArray) (deep : Nat) (w : World) (g : Got) (e : Ending) (w' : World) : Prop :=
  Beside rb w w' ∧ match g with
  | .ok p to => ∃ r, e = .returned (.tuple #[.agg (rawA r), .int .i64 0]) ∧ Reader w' rb s to deep ∧ PAt (In w.heap.size w'.heap.size) w' r p
  | .bad b er => er ≠ 0 ∧ e = .returned (.tuple #[.agg (rawA zeroR), .int .i64 er]) ∧ ∃ d, Reader w' rb s b d
section
variable {wr W w1 : World} {b : Nat} {s : ByteArray} {at_ : Nat}
/-- a reader's text and place are held while a region draws -/
def RS (wr : World) (b : Nat) (s : ByteArray) (at_ : Nat) (W : World) : Prop := W.cell? ⟨b, 0, none⟩ = some (.string s) ∧ W.cell? ⟨b, 1, none⟩ = some (.int .i64 at_) ∧ Below wr.heap.size wr W
theorem rs_on (hlt : b < wr.heap.size) (h : RS wr b s at_ W) (hb : Below W.heap.size W w1) : RS wr b s at_ w1 := by
  have hW : b < W.heap.size := Nat.lt_of_lt_of_le hlt h.2.2.size
  exact ⟨(hb.cell hW).trans h.1, (hb.cell hW).trans h.2.1, on h.2.2 hb⟩
theorem rs_draw (h : RS wr b s at_ W) : RS wr b s at_ W.drew := ⟨h.1, h.2.1, h.2.2.drew⟩
theorem rs_below (h : RS wr b s at_ W) : Below wr.heap.size wr W := h.2.2
theorem rs_start {deep : Nat} (h : Reader wr b s at_ deep) : RS wr b s at_ wr.drew := ⟨h.c0, h.c1, (Below.refl _ _).drew⟩
end
set_option maxHeartbeats 1000000 in
theorem set_any {w : World} {b : Nat} {s : ByteArray} {at_ deep : Nat} (h : Reader w b s at_ deep) (hat : at_ < s.size) (hs : s.size ≤ 900) :
    Calls Tryz.prog 112 #[.pointer (some ⟨b, 0, none⟩)] w (Reads b s deep w (if (M13.parse (s.data.toList.drop at_)).2.2 ≠ 0 then .bad at_ (M13.parse (s.data.toList.drop at_)).2.2 else .ok (leaf 4 (txt (M13.parse (s.data.toList.drop at_)).1)) (at_ + (M13.parse (s.data.toList.drop at_)).2.1))) := by
  have hz : (s.extract at_ s.size).size ≤ 4611686018427387000 := by rw [ByteArray.size_extract]; omega
  have HP : ∀ w, Calls Tryz.prog 120 #[.string (s.extract at_ s.size)] w (W13.Parsed w (M13.parse (s.data.toList.drop at_))) := by
    intro w
    have := W13.parse_any hz w
    rw [Kit.drop_bytes] at this
    exact this
  have hle := parse_le (s := s.data.toList.drop at_)
  rw [List.length_drop, ← Lib.size_eq] at hle
  obtain ⟨⟨F, n, er⟩, hR⟩ : ∃ R, M13.parse (s.data.toList.drop at_) = R := ⟨_, rfl⟩
  rw [hR] at HP hle ⊢
  simp only at hle ⊢
  obtain ⟨g, hg⟩ : ∃ g, (if er ≠ 0 then Got.bad at_ er else .ok (leaf 4 (txt F)) (at_ + n)) = g := ⟨_, rfl⟩
  rw [hg]
  have HG := Lib.hid hg
  have HH := Lib.hid HP
  have hlt := h.lt
  have H := Lib.hid h
  have h1 : (at_ : Int) ≤ (s.size : Int) := by omega
  have HL := Lib.hid hle
  clear hR HP h hz hle hg
  go_enter Tryz.func112, Tryz.ntmps112
  go_wp2_with (first | (refine alloc_piece rfl rfl ?_; intro w1 b1 e1 p1 l1 z1))
  have H1 := Lib.hid (H.out.below l1)
  have P1 := Lib.hid p1
  have L1 := Lib.hid l1
  have hlt1 := H1.out.lt
  have d0 := H1.out.c0
  have d1 := H1.out.c1
  clear p1 l1
  go_region_held3 (fun w' => w'.cell? ⟨b, 0, none⟩ = some (.string s) ∧ w'.cell? ⟨b, 1, none⟩ = some (.int .i64 at_) ∧ Below w1.heap.size w1 w')
    (first | exact rs_on hlt1 (by assumption) hb2 | exact rs_start H1.out | exact rs_draw (by assumption) | go_keep)
    (first | (go_at_call 120; refine (HH.out _).mono ?_; rintro e w2 ⟨rfl, hb2⟩))
  have hS : RS w1 b s at_ w2 := by assumption
  have H2 := Lib.hid (H1.out.below (rs_below hS))
  have P2 := Lib.hid (P1.out.below (rs_below hS))
  have L2 := Lib.hid (L1.out.trans ((rs_below hS).mono L1.out.size))
  have hne : b1 ≠ b := by omega
  clear hS
  by_cases he : er = 0
  · have te : (er != 0) = false := by rw [he]; rfl
    have HG2 : Hid (g = .ok (leaf 4 (txt F)) (at_ + n)) := by
      unfold Hid
      rw [← HG.out, if_neg (by simpa using he)]
    have hw : wrap64 ((at_ : Int) + (n : Int)) = ((at_ + n : Nat) : Int) := by have := HL.out he; unfold wrap64; omega
    have f1 := H2.out.free 1
    have c1 := H2.out.c1
    clear he
    go_wp2_with (first | (refine store_piece (r := ⟨4, W13.tx F, none, 0, 0, 0, 0⟩) rfl _ _ rfl rfl rfl (PBox.beside P2.out (beside_put _ _ _ _) hne) ?_; intro w4 p4 l4 z4))
    refine end_piece2 rfl rfl p4 rfl ?_
    have B := beside_fresh ((Beside.of (b := b) L2.out).trans (beside_put w2 b 1 (.int .i64 ((at_ + n : Nat) : Int)))) l4 (by omega)
    rw [HG2.out]
    exact ⟨B, _, rfl, (H2.out.put1 (at_ + n)).beside l4 hne.symm, PAt.leaf _ _ 4 _⟩
  · have te : (er != 0) = true := by simpa using he
    have HG2 : Hid (g = .bad at_ er) := by
      unfold Hid
      rw [← HG.out, if_pos he]
    have HE := Lib.hid he
    clear he
    go_wp2_with (first | (refine store_piece (r := zeroR) rfl _ _ rfl rfl rfl P2.out ?_; intro w4 p4 l4 z4))
    refine end_piece2 rfl rfl p4 rfl ?_
    rw [HG2.out]
    exact ⟨beside_fresh (Beside.of (b := b) L2.out) l4 (by omega), HE.out, rfl, _, H2.out.beside l4 hne.symm⟩
theorem getD_at {s : ByteArray} {i : Nat} (h : i < s.size) : s.data.toList.getD i 0 = s[i] := Kit.byte_get s i h
theorem chr_at {s : ByteArray} {i : Nat} (h : i < s.size) : (s.extract i s.size).extract 0 1 = chr s[i] := by
  apply ba_ext
  rw [Kit.take_bytes, Kit.drop_bytes, Kit.drop_next s i h]
  rfl
/-- what a backslash stands ahead of -/
def escapedR (S : List UInt8) (at_ : Nat) : Got :=
  if at_ + 1 = S.length then .bad at_ 3
  else if M13.letter (S.getD (at_ + 1) 0) then .ok (leaf 4 (txt (M13.namedF (S.getD (at_ + 1) 0)))) (at_ + 2)
  else .ok (leaf 2 (chr (S.getD (at_ + 1) 0))) (at_ + 2)
set_option maxHeartbeats 1000000 in
theorem escaped_any {w : World} {b : Nat} {s : ByteArray} {at_ deep : Nat} (h : Reader w b s at_ deep) (hat : at_ < s.size) (hs : s.size ≤ 900) :
    Calls Tryz.prog 113 #[.pointer (some ⟨b, 0, none⟩)] w (Reads b s deep w (escapedR s.data.toList at_)) := by
  have hlen : s.data.toList.length = s.size := (Lib.size_eq s).symm
  have hlt := h.lt
  have H := Lib.hid h
  have h1 : ((at_ + 1 : Nat) : Int) ≤ (s.size : Int) := by omega
  have hw1 : wrap64 ((at_ : Int) + 1) = ((at_ + 1 : Nat) : Int) := by unfold wrap64; omega
  have hw2 : wrap64 ((at_ : Int) + 2) = ((at_ + 2 : Nat) : Int) := by unfold wrap64; omega
  by_cases hend : at_ + 1 = s.size
  · have HG : Hid (escapedR s.data.toList at_ = .bad at_ 3) := by
      unfold Hid escapedR
      rw [if_pos (by omega)]
    have he : (s.extract (at_ + 1) s.size).toList.isEmpty = true := list_none (by rw [ByteArray.size_extract]; omega)
    rw [HG.out]
    clear h hlen
    go_enter Tryz.func113, Tryz.ntmps113
    go_wp2_with (first | (refine alloc_piece rfl rfl ?_; intro w1 b1 e1 p1 l1 z1))
    have H1 := Lib.hid (H.out.below l1)
    have P1 := Lib.hid p1
    have L1 := Lib.hid l1
    have c0 := H1.out.c0
    have c1 := H1.out.c1
    clear p1 l1
    go_quiet (fail)
    have P2 : Hid (PBox (w1.drewN nq) b1 zeroR) := P1
    have H2 : Hid (Reader (w1.drewN nq) b s at_ deep) := H1
    have L2 := Lib.hid (L1.out.trans ((below_draws w1 nq).mono L1.out.size))
    go_wp2_with (first | (refine store_piece (r := zeroR) rfl _ _ rfl rfl rfl P2.out ?_; intro w4 p4 l4 z4))
    refine end_piece2 rfl rfl p4 rfl ?_
    exact ⟨beside_fresh (Beside.of (b := b) L2.out) l4 (by omega), by decide, rfl, _, H2.out.beside l4 (by omega)⟩
  · have hlt2 : at_ + 1 < s.size := by omega
    have he : (s.extract (at_ + 1) s.size).toList.isEmpty = false := list_full (by rw [ByteArray.size_extract]; omega)
    have hz : (s.extract (at_ + 1) s.size).size = s.size - (at_ + 1) := by rw [ByteArray.size_extract]; omega
    have hz0 : 0 < (s.extract (at_ + 1) s.size).size := by omega
    have hz1 : (1 : Int) ≤ ((s.extract (at_ + 1) s.size).size : Int) := by omega
    have hz2 : (0 : Int) < ((s.extract (at_ + 1) s.size).size : Int) := by omega
    have hc : (s.extract (at_ + 1) s.size)[0] = s[at_ + 1] := by
      have := Kit.byte_get (s.extract (at_ + 1) s.size) 0 hz0
      rw [Kit.drop_bytes, Kit.drop_next s (at_ + 1) hlt2] at this
      exact this.symm
    have HCH := Lib.hid (chr_at hlt2)
    have HN : Hid (∀ w, Calls Tryz.prog 121 #[.int .u8 (s.extract (at_ + 1) s.size)[0].toNat] w fun e w' => e = .returned (.tuple #[.string (W13.tx (M13.namedF s[at_ + 1])), .bool (M13.letter s[at_ + 1])]) ∧ Below w.heap.size w w') := by
      intro w
      rw [hc]
      exact W13.namedS_any _ w
    cases hlet : M13.letter s[at_ + 1] with
    | true =>
      have HG : Hid (escapedR s.data.toList at_ = .ok (leaf 4 (txt (M13.namedF s[at_ + 1]))) (at_ + 2)) := by
        unfold Hid escapedR
        rw [if_neg (by omega), getD_at hlt2, hlet, if_pos rfl]
      rw [HG.out]
      rw [hlet] at HN
      clear h hlen hlet hc
      go_enter Tryz.func113, Tryz.ntmps113
      go_wp2_with (first | (refine alloc_piece rfl rfl ?_; intro w1 b1 e1 p1 l1 z1))
      have H1 := Lib.hid (H.out.below l1)
      have P1 := Lib.hid p1
      have L1 := Lib.hid l1
      have c0 := H1.out.c0
      have c1 := H1.out.c1
      clear p1 l1
      go_quiet (fail)
      have P2 : Hid (PBox (w1.drewN nq) b1 zeroR) := P1
      have H2 : Hid (Reader (w1.drewN nq) b s at_ deep) := H1
      have L2 := Lib.hid (L1.out.trans ((below_draws w1 nq).mono L1.out.size))
      have d1 := H2.out.c1
      have f1 := H2.out.free 1
      generalize w1.drewN nq = w2 at *
      go_wp2_with fail
      refine (HN.out _).mono ?_
      rintro e w3 ⟨rfl, l3⟩
      have H3 := Lib.hid ((H2.out.put1 (at_ + 2)).below l3)
      have hne : b1 ≠ b := by omega
      have P3 := Lib.hid ((P2.out.beside (beside_put w2 b 1 (.int .i64 ((at_ + 2 : Nat) : Int))) hne).below l3)
      have B3 := Lib.hid (beside_onto ((Beside.of (b := b) L2.out).trans (beside_put w2 b 1 (.int .i64 ((at_ + 2 : Nat) : Int)))) l3)
      clear l3
      go_wp2_with (first | (refine store_piece (r := ⟨4, W13.tx (M13.namedF s[at_ + 1]), none, 0, 0, 0, 0⟩) rfl _ _ rfl rfl rfl P3.out ?_; intro w4 p4 l4 z4))
      refine end_piece2 rfl rfl p4 rfl ?_
      exact ⟨beside_fresh B3.out l4 (by omega), _, rfl, H3.out.beside l4 hne.symm, PAt.leaf _ _ 4 _⟩
    | false =>
      have HG : Hid (escapedR s.data.toList at_ = .ok (leaf 2 (chr s[at_ + 1])) (at_ + 2)) := by
        unfold Hid escapedR
        rw [if_neg (by omega), getD_at hlt2, hlet, if_neg (by simp)]
      rw [HG.out]
      rw [hlet] at HN
      clear h hlen hlet hc
      go_enter Tryz.func113, Tryz.ntmps113
      go_wp2_with (first | (refine alloc_piece rfl rfl ?_; intro w1 b1 e1 p1 l1 z1))
      have H1 := Lib.hid (H.out.below l1)
      have P1 := Lib.hid p1
      have L1 := Lib.hid l1
      have c0 := H1.out.c0
      have c1 := H1.out.c1
      clear p1 l1
      go_quiet (fail)
      have P2 : Hid (PBox (w1.drewN nq) b1 zeroR) := P1
      have H2 : Hid (Reader (w1.drewN nq) b s at_ deep) := H1
      have L2 := Lib.hid (L1.out.trans ((below_draws w1 nq).mono L1.out.size))
      have d1 := H2.out.c1
      have f1 := H2.out.free 1
      generalize w1.drewN nq = w2 at *
      go_wp2_with fail
      refine (HN.out _).mono ?_
      rintro e w3 ⟨rfl, l3⟩
      have H3 := Lib.hid ((H2.out.put1 (at_ + 2)).below l3)
      have hne : b1 ≠ b := by omega
      have P3 := Lib.hid ((P2.out.beside (beside_put w2 b 1 (.int .i64 ((at_ + 2 : Nat) : Int))) hne).below l3)
      have B3 := Lib.hid (beside_onto ((Beside.of (b := b) L2.out).trans (beside_put w2 b 1 (.int .i64 ((at_ + 2 : Nat) : Int)))) l3)
      clear l3
      go_wp2_with (first | (refine store_piece (r := ⟨2, (s.extract (at_ + 1) s.size).extract 0 1, none, 0, 0, 0, 0⟩) rfl _ _ rfl rfl rfl P3.out ?_; intro w4 p4 l4 z4))
      refine end_piece2 rfl rfl p4 rfl ?_
      rw [HCH.out]
      exact ⟨beside_fresh B3.out l4 (by omega), _, rfl, H3.out.beside l4 hne.symm, PAt.leaf _ _ 2 _⟩
end Go.Proofs.YtehdnbidgphecaaGreatDoor.W14
/-
  Layer 14 (pattern), walk of the program's brackets. The conditions stand in the statements.
-/
namespace Go.Proofs.YtehdnbidgphecaaGreatDoor.W14
set_option maxRecDepth 100000
open Go Go.RowKit Go.Proofs.YtehdnbidgphecaaGreatDoor.M14
open Go.Proofs.YtehdnbidgphecaaGreatDoor.Row256 (Beside)
open Go.Proofs.YtehdnbidgphecaaGreatDoor.Kit (ret_str ret_bool ret_int mk_of mk_bytes ba_ext below_draws on list_full list_ne list_none list_nil)

/-- from a place lo on, what R says is what the program's pattern reads -/
def PatOk (s : ByteArray) (R : Nat → Nat → Option Got) (lo : Nat) : Prop :=
  ∀ at_ deep, lo ≤ at_ → at_ ≤ s.size → deep ≤ 64 → ∃ g, R at_ deep = some g ∧ Fine s.data.toList at_ g ∧
    ∀ w b, Reader w b s at_ deep → Calls Tryz.prog 42 #[.pointer (some ⟨b, 0, none⟩)] w (Reads b s deep w (fix s.data.toList deep g))
theorem two_new {u v x : World} {c : Nat} (h : Below u.heap.size u v) (k : Beside c v x) (e : u.heap.size = c) : Below u.heap.size u x := h.trans (k.below h.size (by omega))
theorem fix_deep {S : List UInt8} {deep : Nat} (h : deep ≠ 0) (g : Got) : fix S deep g = g := by
  cases g with
  | ok p to => exact if_neg (fun q => h q.1)
  | bad b e => rfl
/-- a pattern in brackets, behind the first one -/
def bracketsR (R : Nat → Nat → Option Got) (S : List UInt8) (at_ deep : Nat) : Got :=
  if deep = 64 then .bad at_ 21
  else match R (at_ + 1) (deep + 1) with
    | none => .bad 0 0
    | some (.bad b e) => .bad b e
    | some (.ok p to) => if to = S.length then .bad S.length 3 else .ok p (to + 1)
section
variable {w : World} {b : Nat} {s : ByteArray} {at_ deep : Nat}
set_option maxHeartbeats 1000000 in
theorem brackets_deep (h : Reader w b s at_ 64) :
    Calls Tryz.prog 111 #[.pointer (some ⟨b, 0, none⟩)] w (Reads b s 64 w (.bad at_ 21)) := by
  have hlt := h.lt
  have H := Lib.hid h
  clear h
  go_enter Tryz.func111, Tryz.ntmps111
  go_wp2_with (first
    | (refine alloc_piece rfl rfl ?_; intro w1 b1 e1 p1 l1 z1; have H1 := Lib.hid (H.out.below l1); have d2 := H1.out.c2)
    | (refine store_piece (r := zeroR) rfl (.tmp 2) (.tmp 11) rfl rfl rfl p1 ?_; intro w2 p2 l2 z2))
  refine end_piece2 rfl rfl p2 rfl ?_
  exact ⟨beside_fresh (Beside.of (b := b) l1) l2 (by omega), by decide, rfl, _, H1.out.beside l2 (by omega)⟩
set_option maxHeartbeats 1000000 in
theorem brackets_bad (h : Reader w b s at_ deep) (hat : at_ < s.size) (hs : s.size ≤ 900) (hd : deep < 64) {q : Nat} {er : Int}
    (hC : ∀ w b, Reader w b s (at_ + 1) (deep + 1) → Calls Tryz.prog 42 #[.pointer (some ⟨b, 0, none⟩)] w (Reads b s (deep + 1) w (.bad q er))) :
    Calls Tryz.prog 111 #[.pointer (some ⟨b, 0, none⟩)] w (Reads b s deep w (.bad q er)) := by
  have hlt := h.lt
  have H := Lib.hid h
  have HC := Lib.hid hC
  have t1 : ((deep : Int) == 64) = false := by simpa using (by omega : ¬ (deep : Int) = 64)
  have hw1 : wrap64 ((at_ : Int) + 1) = ((at_ + 1 : Nat) : Int) := by unfold wrap64; omega
  have hw2 : wrap64 ((deep : Int) + 1) = ((deep + 1 : Nat) : Int) := by unfold wrap64; omega
  clear h hC
  go_enter Tryz.func111, Tryz.ntmps111
  go_wp2_with (first
    | (refine alloc_piece rfl rfl ?_; intro w1 b1 e1 p1 l1 z1; have H1 := Lib.hid (H.out.below l1); have d1 := H1.out.c1; have d2 := H1.out.c2; have f1 := H1.out.free 1; have f2 := H1.out.free 2))
  have hne : b1 ≠ b := by omega
  have H3 := Lib.hid ((H1.out.put1 (at_ + 1)).put2 (deep + 1))
  have B3 : Hid (Beside b w1 ((w1.setCell ⟨b, 1, none⟩ (.int .i64 ((at_ + 1 : Nat) : Int))).setCell ⟨b, 2, none⟩ (.int .i64 ((deep + 1 : Nat) : Int)))) := (beside_put _ _ _ _).trans (beside_put _ _ _ _)
  refine (HC.out _ _ H3.out).mono ?_
  rintro e w4 ⟨b4, he, rfl, d, hr⟩
  have B4 := Lib.hid (B3.out.trans b4)
  have P4 := Lib.hid (PBox.beside p1 B4.out hne)
  have H4 := Lib.hid hr
  have te : (er != 0) = true := by simpa using he
  have HE := Lib.hid he
  have hz := B4.out.size
  clear b4 hr he
  go_wp2_with (first
    | (refine alloc_piece rfl rfl ?_; intro w5 b2 e5 p5 l5 z5)
    | (refine store_piece (r := zeroR) rfl (.tmp 4) (.tmp 29) rfl rfl rfl p5 ?_; intro w6 p6 l6 z6; have L6 := Lib.hid (two_new l5 l6 e5); have P6 := Lib.hid (P4.out.below L6.out))
    | (refine store_piece (r := zeroR) rfl (.tmp 2) (.tmp 33) rfl rfl rfl P6.out ?_; intro w7 p7 l7 z7))
  refine end_piece2 rfl rfl p7 rfl ?_
  exact ⟨beside_fresh ((Beside.of (b := b) l1).trans (beside_onto B4.out L6.out)) l7 (by omega), HE.out, rfl, _, (H4.out.below L6.out).beside l7 hne.symm⟩
set_option maxHeartbeats 1000000 in
theorem brackets_open (h : Reader w b s at_ deep) (hat : at_ < s.size) (hs : s.size ≤ 900) (hd : deep < 64) {p : Piece}
    (hC : ∀ w b, Reader w b s (at_ + 1) (deep + 1) → Calls Tryz.prog 42 #[.pointer (some ⟨b, 0, none⟩)] w (Reads b s (deep + 1) w (.ok p s.size))) :
    Calls Tryz.prog 111 #[.pointer (some ⟨b, 0, none⟩)] w (Reads b s deep w (.bad s.size 3)) := by
  have hlt := h.lt
  have H := Lib.hid h
  have HC := Lib.hid hC
  have t1 : ((deep : Int) == 64) = false := by simpa using (by omega : ¬ (deep : Int) = 64)
  have hw1 : wrap64 ((at_ : Int) + 1) = ((at_ + 1 : Nat) : Int) := by unfold wrap64; omega
  have hw2 : wrap64 ((deep : Int) + 1) = ((deep + 1 : Nat) : Int) := by unfold wrap64; omega
  clear h hC
  go_enter Tryz.func111, Tryz.ntmps111
  go_wp2_with (first
    | (refine alloc_piece rfl rfl ?_; intro w1 b1 e1 p1 l1 z1; have H1 := Lib.hid (H.out.below l1); have d1 := H1.out.c1; have d2 := H1.out.c2; have f1 := H1.out.free 1; have f2 := H1.out.free 2))
  have hne : b1 ≠ b := by omega
  have H3 := Lib.hid ((H1.out.put1 (at_ + 1)).put2 (deep + 1))
  have B3 : Hid (Beside b w1 ((w1.setCell ⟨b, 1, none⟩ (.int .i64 ((at_ + 1 : Nat) : Int))).setCell ⟨b, 2, none⟩ (.int .i64 ((deep + 1 : Nat) : Int)))) := (beside_put _ _ _ _).trans (beside_put _ _ _ _)
  refine (HC.out _ _ H3.out).mono ?_
  rintro e w4 ⟨b4, r, rfl, hr, hp⟩
  have B4 := Lib.hid (B3.out.trans b4)
  have P4 := Lib.hid (PBox.beside p1 B4.out hne)
  have H4 := Lib.hid hr
  have hz := B4.out.size
  clear b4 hr hp
  go_wp2_with (first
    | (refine alloc_piece rfl rfl ?_; intro w5 b2 e5 p5 l5 z5)
    | (refine store_piece (r := r) rfl (.tmp 4) (.tmp 29) rfl rfl rfl p5 ?_; intro w6 p6 l6 z6; have L6 := Lib.hid (two_new l5 l6 e5); have P6 := Lib.hid (P4.out.below L6.out); have H6 := Lib.hid (H4.out.below L6.out); have k0 := H6.out.c0; have k1 := H6.out.c1))
  go_quiet (fail)
  have P7 : Hid (PBox (w6.drewN nq) b1 zeroR) := P6
  have H7 : Hid (Reader (w6.drewN nq) b s s.size (deep + 1)) := H6
  have B7 : Hid (Beside b w (w6.drewN nq)) := beside_onto ((Beside.of (b := b) l1).trans (beside_onto B4.out L6.out)) (below_draws w6 nq)
  go_wp2_with (first
    | (refine store_piece (r := zeroR) rfl (.tmp 2) (.tmp 45) rfl rfl rfl P7.out ?_; intro w8 p8 l8 z8))
  refine end_piece2 rfl rfl p8 rfl ?_
  exact ⟨beside_fresh B7.out l8 (by omega), by decide, rfl, _, H7.out.beside l8 hne.symm⟩
set_option maxHeartbeats 1000000 in
theorem brackets_ok (h : Reader w b s at_ deep) (hat : at_ < s.size) (hs : s.size ≤ 900) (hd : deep < 64) {p : Piece} {to : Nat} (hto : to < s.size)
    (hC : ∀ w b, Reader w b s (at_ + 1) (deep + 1) → Calls Tryz.prog 42 #[.pointer (some ⟨b, 0, none⟩)] w (Reads b s (deep + 1) w (.ok p to))) :
    Calls Tryz.prog 111 #[.pointer (some ⟨b, 0, none⟩)] w (Reads b s deep w (.ok p (to + 1))) := by
  have hlt := h.lt
  have H := Lib.hid h
  have HC := Lib.hid hC
  have t1 : ((deep : Int) == 64) = false := by simpa using (by omega : ¬ (deep : Int) = 64)
  have t2 : ((to : Int) == (s.size : Int)) = false := int_no (by omega)
  have hw1 : wrap64 ((at_ : Int) + 1) = ((at_ + 1 : Nat) : Int) := by unfold wrap64; omega
  have hw2 : wrap64 ((deep : Int) + 1) = ((deep + 1 : Nat) : Int) := by unfold wrap64; omega
  have hw3 : wrap64 ((to : Int) + 1) = ((to + 1 : Nat) : Int) := by unfold wrap64; omega
  have hw4 : wrap64 (((deep + 1 : Nat) : Int) - 1) = (deep : Int) := by unfold wrap64; omega
  clear h hC
  go_enter Tryz.func111, Tryz.ntmps111
  go_wp2_with (first
    | (refine alloc_piece rfl rfl ?_; intro w1 b1 e1 p1 l1 z1; have H1 := Lib.hid (H.out.below l1); have d1 := H1.out.c1; have d2 := H1.out.c2; have f1 := H1.out.free 1; have f2 := H1.out.free 2))
  have hne : b1 ≠ b := by omega
  have H3 := Lib.hid ((H1.out.put1 (at_ + 1)).put2 (deep + 1))
  have B3 : Hid (Beside b w1 ((w1.setCell ⟨b, 1, none⟩ (.int .i64 ((at_ + 1 : Nat) : Int))).setCell ⟨b, 2, none⟩ (.int .i64 ((deep + 1 : Nat) : Int)))) := (beside_put _ _ _ _).trans (beside_put _ _ _ _)
  refine (HC.out _ _ H3.out).mono ?_
  rintro e w4 ⟨b4, r, rfl, hr, hp⟩
  have B4 := Lib.hid (B3.out.trans b4)
  have P4 := Lib.hid (PBox.beside p1 B4.out hne)
  have H4 := Lib.hid hr
  rw [World.size_setCell, World.size_setCell] at hp
  have A4 := Lib.hid hp
  have hz := B4.out.size
  clear b4 hr hp
  go_wp2_with (first
    | (refine alloc_piece rfl rfl ?_; intro w5 b2 e5 p5 l5 z5)
    | (refine store_piece (r := r) rfl (.tmp 4) (.tmp 29) rfl rfl rfl p5 ?_; intro w6 p6 l6 z6; have L6 := Lib.hid (two_new l5 l6 e5); have P6 := Lib.hid (P4.out.below L6.out); have H6 := Lib.hid (H4.out.below L6.out); have A6 := Lib.hid (A4.out.by_below L6.out); have k0 := H6.out.c0; have k1 := H6.out.c1))
  go_quiet (fail)
  have P7 : Hid (PBox (w6.drewN nq) b1 zeroR) := P6
  have Q7 : Hid (PBox (w6.drewN nq) b2 r) := p6
  have H7 : Hid (Reader (w6.drewN nq) b s to (deep + 1)) := H6
  have A7 : Hid (PAt (In w1.heap.size (w6.drewN nq).heap.size) (w6.drewN nq) r p) := A6.out.keep (fun _ h => h) (fun _ _ => rfl)
  have B7 : Hid (Beside b w (w6.drewN nq)) := beside_onto ((Beside.of (b := b) l1).trans (beside_onto B4.out L6.out)) (below_draws w6 nq)
  have hz7 : w4.heap.size ≤ (w6.drewN nq).heap.size := L6.out.size
  clear P6 H6 A6 p6 k0 k1
  generalize w6.drewN nq = w7 at *
  have k1 := H7.out.c1
  have k2 := H7.out.c2
  have g1 := H7.out.free 1
  have g2 := H7.out.free 2
  have B8 : Hid (Beside b w7 ((w7.setCell ⟨b, 1, none⟩ (.int .i64 ((to + 1 : Nat) : Int))).setCell ⟨b, 2, none⟩ (.int .i64 (deep : Int)))) := (beside_put _ _ _ _).trans (beside_put _ _ _ _)
  have H8 := Lib.hid ((H7.out.put1 (to + 1)).put2 deep)
  go_wp2_with (first
    | (refine load_piece rfl (.tmp 4) rfl rfl (Q7.out.beside B8.out (by omega)) ?_)
    | (refine store_piece (r := r) rfl (.tmp 2) (.tmp 60) rfl rfl rfl (P7.out.beside B8.out hne) ?_; intro w8 p8 l8 z8))
  refine end_piece2 rfl rfl p8 rfl ?_
  exact ⟨beside_fresh (B7.out.trans B8.out) l8 (by omega), _, rfl, H8.out.beside l8 hne.symm, ((A7.out.by_beside B8.out (by omega)).by_beside l8 (by omega)).by_less l1.size⟩
theorem brackets_any {R : Nat → Nat → Option Got} (hR : PatOk s R (at_ + 1)) (hat : at_ < s.size) (hs : s.size ≤ 900) (hd : deep ≤ 64) (h : Reader w b s at_ deep) :
    Calls Tryz.prog 111 #[.pointer (some ⟨b, 0, none⟩)] w (Reads b s deep w (bracketsR R s.data.toList at_ deep)) := by
  have hlen : s.data.toList.length = s.size := (Lib.size_eq s).symm
  unfold bracketsR
  by_cases h64 : deep = 64
  · subst h64
    rw [if_pos rfl]; exact brackets_deep h
  · rw [if_neg h64]
    obtain ⟨g, e, hf, hc⟩ := hR (at_ + 1) (deep + 1) (Nat.le_refl _) hat (by omega)
    rw [fix_deep (by omega)] at hc
    rw [e]
    match g, hf, hc with
    | .bad q er, hf, hc => exact brackets_bad h hat hs (by omega) hc
    | .ok p to, hf, hc =>
      simp only
      have h2 := hf.2.1
      by_cases ht : to = s.data.toList.length
      · rw [if_pos ht, hlen]
        rw [hlen] at ht
        subst ht
        exact brackets_open h hat hs (by omega) hc
      · rw [if_neg ht]
        exact brackets_ok h hat hs (by omega) (by omega) hc
end
end Go.Proofs.YtehdnbidgphecaaGreatDoor.W14
/-
  Layer 15 (prog), walk of the layer's seq: kids one behind the other; kids below a block. The conditions stand in the statements.
-/
namespace Go.Proofs.YtehdnbidgphecaaGreatDoor.M15
set_option maxRecDepth 100000
open Go Go.Proofs.YtehdnbidgphecaaGreatDoor.M14
theorem seqs_snoc {ks : List Piece} : ∀ (l : List Piece) (p : Piece) (a : Nat), (∀ q, q ∈ l → q ∈ ks) → (∀ q, q ∈ ks → ∀ a, (steps q a).length = size q) → seqs (l ++ [p]) a = seqs l a ++ steps p (a + sizes l)
  | [], p, a, _, _ => by simp [seqs, sizes]
  | q :: l, p, a, hm, hs => by
    rw [List.cons_append, seqs, seqs, seqs_snoc l p (a + size q) (fun r hr => hm r (by simp [hr])) hs, List.append_assoc]
    rw [show sizes (q :: l) = size q + sizes l by simp only [sizes], Nat.add_assoc]
theorem sizes_take_le (ks : List Piece) (i : Nat) : sizes (ks.take i) ≤ sizes ks := by
  have := sizes_append (ks.take i) (ks.drop i)
  rw [List.take_append_drop] at this
  omega
theorem sizes_next {ks : List Piece} {i : Nat} (hi : i < ks.length) : sizes (ks.take (i + 1)) = sizes (ks.take i) + size ks[i] := by
  rw [List.take_succ_eq_append_getElem hi, sizes_append]
  simp only [sizes, Nat.add_zero]
theorem seqs_next {ks : List Piece} (hs : ∀ q, q ∈ ks → ∀ a, (steps q a).length = size q) {i : Nat} (hi : i < ks.length) (a : Nat) : seqs (ks.take (i + 1)) a = seqs (ks.take i) a ++ steps ks[i] (a + sizes (ks.take i)) := by
  rw [List.take_succ_eq_append_getElem hi]
  exact seqs_snoc _ _ _ (fun q hq => List.mem_of_mem_take hq) hs
theorem seqs_take_len {ks : List Piece} (hs : ∀ q, q ∈ ks → ∀ a, (steps q a).length = size q) (i a : Nat) : (seqs (ks.take i) a).length = sizes (ks.take i) := seqs_len (fun q hq => hs q (List.mem_of_mem_take hq)) a
end Go.Proofs.YtehdnbidgphecaaGreatDoor.M15
namespace Go.Proofs.YtehdnbidgphecaaGreatDoor.W15
open Go Go.RowKit Go.Proofs.YtehdnbidgphecaaGreatDoor.Strs Go.Proofs.YtehdnbidgphecaaGreatDoor.Recs Go.Proofs.YtehdnbidgphecaaGreatDoor.M15
open Go.Proofs.YtehdnbidgphecaaGreatDoor.M14 (Piece size sizes)
open Go.Proofs.YtehdnbidgphecaaGreatDoor.W14 (Raw Raws rawA rawC PAt PAll PBox below_new cell_block own_same own_form box_arg load_piece run_load_op load_at alloc_piece store_piece two_new raws_keep)
open Go.Proofs.YtehdnbidgphecaaGreatDoor.Row256 (Beside)
open Go.Proofs.YtehdnbidgphecaaGreatDoor.Kit (below_draws on)

/-- a piece's kids in memory, all below block b -/
def KidsU (b : Nat) (w : World) (A : Option Addr) (c : Nat) (raws : List Raw) (ks : List Piece) : Prop :=
  (∃ B, Raws B w (.slice A ks.length c) raws) ∧ (∀ ad, A = some ad → 0 < raws.length → ad.block < b) ∧ PAll (fun k => k < b) w raws ks
section
variable {w w' : World} {b : Nat} {A : Option Addr} {c : Nat} {raws : List Raw} {ks : List Piece}
theorem parts_under {r : Raw} {k : Int} {t : ByteArray} {l tp : Int} (h : PAt (fun k => k < b) w r (.mk k t ks l tp)) : ∃ A c raws, r = ⟨k, t, A, ks.length, c, l, tp⟩ ∧ KidsU b w A c raws ks := by
  cases h with
  | mk _ _ A n c _ _ raws _ B h hX hl hk =>
    have hn : n = ks.length := by
      obtain ⟨A', c', e, -⟩ := h
      injection e with e1 e2 e3
      omega
    subst hn
    exact ⟨A, c, raws, rfl, ⟨B, h⟩, hX, hl, hk⟩
theorem KidsU.keep (h : KidsU b w A c raws ks) (hk : ∀ k, k < b → w'.heap[k]? = w.heap[k]?) : KidsU b w' A c raws ks := by
  obtain ⟨⟨B, h1⟩, h2, h3⟩ := h
  exact ⟨⟨B, raws_keep h1 fun ad e hn p hp => cell_block (hk _ (by rw [hp]; exact h2 ad e hn))⟩, h2, h3.keep (fun _ q => q) fun _ q => cell_block (hk _ q)⟩
theorem KidsU.kids (h : KidsU b w A c raws ks) (hb : b ≤ w.heap.size) : W14.Kids w A c raws ks :=
  ⟨h.1, fun ad e hn => Nat.lt_of_lt_of_le (h.2.1 ad e hn) hb, h.2.2.keep (fun _ q => Nat.lt_of_lt_of_le q hb) fun _ _ => rfl⟩
theorem KidsU.kid (h : KidsU b w A c raws ks) {i : Nat} (hi : i < ks.length) : ∃ hr : i < raws.length, PAt (fun k => k < b) w raws[i] ks[i] := by
  obtain ⟨-, -, h3, h4⟩ := h
  exact ⟨by omega, h4 i (by omega) hi⟩
theorem KidsU.grow {v v' : Value} {L : List Inst} (h : KidsU b w A c raws ks) (hl : Lay w b v L) (hg : Grow b v v' w w') : KidsU b w' A c raws ks := h.keep fun _ q => hg.keeps hl q
theorem KidsU.below (h : KidsU b w A c raws ks) (hb : b < w.heap.size) (hg : Below w.heap.size w w') : KidsU b w' A c raws ks := h.keep fun _ q => hg.block _ (Nat.lt_trans q hb)
end
/-- lay lays a piece's steps -/
def LayOk (p : Piece) : Prop := ∀ (w : World) (b : Nat) (v : Value) (L : List Inst) (r : Raw), Lay w b v L → PAt (fun k => k < b) w r p → L.length + size p ≤ 4000 →
  Calls Tryz.prog 47 #[.pointer (some ⟨b, 0, none⟩), .agg (rawA r)] w (Laid b v w (L ++ steps p L.length))
set_option maxHeartbeats 4000000 in
theorem seq_any {ks : List Piece} (IH : ∀ i (hi : i < ks.length), LayOk ks[i]) (hs : ∀ q, q ∈ ks → ∀ a, (steps q a).length = size q) {w : World} {b : Nat} {v : Value} {L : List Inst} {k : Int} {t : ByteArray} {A : Option Addr} {c : Nat} {m tp : Int} {raws : List Raw} (h : Lay w b v L) (k1 : KidsU b w A c raws ks) (hl : L.length + sizes ks ≤ 4000) :
    Calls Tryz.prog 67 #[.pointer (some ⟨b, 0, none⟩), .agg (rawA ⟨k, t, A, ks.length, c, m, tp⟩)] w (Laid b v w (L ++ seqs ks L.length)) := by
  have H := Lib.hid h
  have HI := Lib.hid IH
  have HS := Lib.hid hs
  have K1 := Lib.hid k1
  have HR := Lib.hid (k1.kids (Nat.le_of_lt h.box.lt)).room
  have HL := Lib.hid hl
  have hr1 := HR.out.1
  have hr2 := HR.out.2
  clear h IH hs k1 hl
  go_enter Tryz.func67, Tryz.ntmps67
  go_wp2_with (first
    | (refine box_arg (r := ⟨k, t, A, ks.length, c, m, tp⟩) rfl (.tmp 1) rfl rfl ?_; intro w1 b1 e1 p1 l1 z1; have a2 := p1.c2; have L1 := Lib.hid l1; clear e1 p1 l1 z1; simp only at a2))
  have H1 := Lib.hid (H.out.below L1.out)
  have K2 := Lib.hid (K1.out.below H.out.box.lt L1.out)
  clear a2 hr1 hr2
  go_loopg [9] ks.length (fun gk s9 wr => ∃ (i : Nat) (v1 : Value), s9 = .int .i64 i ∧ Hid (i + gk = ks.length) ∧ Hid (Lay wr b v1 (L ++ seqs (ks.take i) L.length)) ∧ Hid (KidsU b wr A c raws ks) ∧ Hid (Grow b v v1 w wr))
  case atStart => exact ⟨0, v, rfl, by unfold Hid; omega, by unfold Hid; simp only [List.take_zero, seqs, List.append_nil]; exact H1.out, K2, Grow.of L1.out⟩
  case round =>
    obtain ⟨i, v1, rfl, hig, HL1, KK, GG⟩ := hrel
    have hn1 := HR.out.1
    have hn2 := HR.out.2
    by_cases hi : i < ks.length
    · have ti : (i : Int) < (ks.length : Int) := by omega
      have hlt := HL1.out.box.lt
      obtain ⟨g1, o1, rfl, C1⟩ := (KK.out.kids (Nat.le_of_lt hlt)).at_ (Nat.lt_of_le_of_lt (Nat.zero_le _) hi)
      obtain ⟨hr1, q1⟩ := KK.out.kid hi
      have E1 := Lib.hid (C1 i hr1)
      have Q1 := Lib.hid q1
      have HI2 := Lib.hid hi
      obtain ⟨rk, hrk⟩ : ∃ rk, raws[i]'hr1 = rk := ⟨_, rfl⟩
      rw [hrk] at E1 Q1
      have HC : Hid (∀ (w : World) (v : Value), Lay w b v (L ++ seqs (ks.take i) L.length) → PAt (fun k => k < b) w rk ks[i] → Calls Tryz.prog 47 #[.pointer (some ⟨b, 0, none⟩), .agg (rawA rk)] w (Laid b v w (L ++ seqs (ks.take (i + 1)) L.length))) := by
        intro w v h1 h2
        have hz : (L ++ seqs (ks.take i) L.length).length = L.length + sizes (ks.take i) := by rw [List.length_append, seqs_take_len HS.out]
        have := HI.out i hi w b v _ rk h1 h2 (by have h3 := sizes_next hi; have h4 := sizes_take_le ks (i + 1); have := HL.out; omega)
        rw [hz] at this
        rw [seqs_next HS.out hi, ← List.append_assoc]
        exact this
      have hwi : Hid (wrap64 ((i : Int) + 1) = ((i + 1 : Nat) : Int)) := by unfold Hid wrap64; omega
      have HT := Lib.hid hlt
      clear C1 q1 hrk hlt
      go_wp2_with (first
        | (refine load_at rfl (.tmp 11) rfl rfl (r := rk) E1.out ?_)
        | (refine alloc_piece rfl rfl ?_; intro w3 b3 e3 p3 l3 z3)
        | (refine store_piece (r := rk) rfl (.tmp 5) (.tmp 12) rfl rfl rfl p3 ?_; intro w4 p4 l4 z4; have L4 := Lib.hid (two_new l3 l4 e3); have P4 := Lib.hid p4; clear e3 p3 l3 z3 p4 l4 z4)
        | (refine load_piece (r := rk) rfl (.tmp 5) rfl rfl P4.out ?_))
      have H4 := Lib.hid (HL1.out.below L4.out)
      have K4 := Lib.hid (KK.out.below HT.out L4.out)
      refine (HC.out _ _ H4.out (below_piece L4.out HT.out Q1.out)).mono ?_
      rintro e w5 ⟨rfl, v2, h5, g5⟩
      have H5 := Lib.hid h5
      have K5 := Lib.hid (K4.out.grow H4.out g5)
      have G5 := Lib.hid (GG.out.trans ((Grow.of L4.out).trans g5))
      clear h5 g5
      cases gk with
      | zero => exact absurd hig.out (by have := HI2.out; omega)
      | succ g =>
        go_wp2_with fail
        go_roundg g
        case measure => omega
        case rel => exact ⟨i + 1, v2, by first | rfl | exact congrArg (Value.int .i64) hwi.out, by have := hig.out; unfold Hid; omega, H5, K5, G5⟩
    · have ti : ¬ (i : Int) < (ks.length : Int) := by omega
      have hie : i = ks.length := by have := hig.out; omega
      have HL2 : Hid (Lay wr b v1 (L ++ seqs ks L.length)) := by have := HL1.out; rw [hie, List.take_length] at this; exact this
      clear hie
      go_wp2_with fail
      go_end0
      exact ⟨rfl, v1, HL2.out, GG.out⟩
end Go.Proofs.YtehdnbidgphecaaGreatDoor.W15
