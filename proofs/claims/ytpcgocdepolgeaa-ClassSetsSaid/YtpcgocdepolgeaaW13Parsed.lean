/-
  Layer 13 (class): the program's Parse. The conditions stand in the statements.
-/
import Derived.Test.YtpcgocdepolgeaaW13Parse
namespace Go.Proofs.Ytpcgocdepolgeaa.W13
set_option maxRecDepth 100000
open Go Go.RowKit Go.Proofs.Ytpcgocdepolgeaa.M13 Go.Proofs.Ytpcgocdepolgeaa.Row256
open Go.Proofs.Ytpcgocdepolgeaa.Kit (ret_str ret_bool ret_int mk_of mk_bytes ba_ext below_draws on drop_bytes)

/-- what Parse answers -/
def Parsed (w : World) (r : (Nat → Bool) × Nat × Int) (e : Ending) (w' : World) : Prop := e = .returned (.tuple #[.string (tx r.1), .int .i64 r.2.1, .int .i64 r.2.2]) ∧ Below w.heap.size w w'
set_option maxHeartbeats 1000000 in
theorem parse_no {s : ByteArray} (h2 : Lib.hasPrefix s.data.toList [91, 94] = false) (h1 : Lib.hasPrefix s.data.toList [91] = false) (w : World) : Calls Try.prog 28 #[.string s] w (Parsed w (fun _ => false, 0, 3)) := by
  have hz := zero37
  have H2 := Lib.hid h2
  have H1 := Lib.hid h1
  clear h1 h2
  go_enter Try.func28, Try.ntmps28
  go_wp2_with fail
  refine (Try.strings_HasPrefix _ _ _).mono ?_
  rintro e w1 ⟨rfl, rfl⟩
  rw [H2.out]
  go_wp2_with fail
  refine (Try.strings_CutPrefix _ _ _).mono ?_
  rintro e w1 ⟨rfl, rfl⟩
  rw [H1.out]
  go_wp2_with fail
  refine (text_any _ _).mono ?_
  rintro e w2 ⟨rfl, hb2⟩
  have HB := Lib.hid hb2
  clear hb2
  go_wp2_with fail
  go_ret3
  exact ⟨rfl, HB.out⟩
set_option maxHeartbeats 2000000 in
theorem parse_bad {s q : ByteArray} (h2 : Lib.hasPrefix s.data.toList [91, 94] = false) (h1 : Lib.hasPrefix s.data.toList [91] = true) (hq : (⟨(Lib.trimPrefix s.data.toList [91]).toArray⟩ : ByteArray) = q) (hqs : q.size ≤ 4611686018427387904) {F : Nat → Bool} {n : Nat} {er : Int}
    (hit : items q.data.toList (q.size + 1) 0 (fun _ => false) = (F, n, er)) (her : ¬ er = 0) (hn : n ≤ 4611686018427387904) (w : World) : Calls Try.prog 28 #[.string s] w (Parsed w (fun _ => false, 0, er)) := by
  have hz := zero37
  have H2 := Lib.hid h2
  have H1 := Lib.hid h1
  clear h1
  have te : (er != 0) = true := by simpa using her
  have HQ := Lib.hid hq
  have HQS := Lib.hid hqs
  have HIT := Lib.hid hit
  have HN := Lib.hid hn
  clear h2 hq hqs hit hn her
  go_enter Try.func28, Try.ntmps28
  go_wp2_with fail
  refine (Try.strings_HasPrefix _ _ _).mono ?_
  rintro e w1 ⟨rfl, rfl⟩
  rw [H2.out]
  go_wp2_with fail
  refine (Try.strings_CutPrefix _ _ _).mono ?_
  rintro e w1 ⟨rfl, rfl⟩
  simp only []
  rw [H1.out, HQ.out]
  go_wp2_with fail
  refine (items_any _ HQS.out _).mono ?_
  rintro e w2 ⟨rfl, hb2⟩
  rw [HIT.out]
  unfold itemsV
  have HB := Lib.hid hb2
  clear hb2
  go_wp2_with (first | (refine store_row rfl (.tmp 8) (.tmp 26) rfl rfl rfl (Row.new _ _ _) ?_; intro wz hrz hbz; have HR := Lib.hid hrz; have HZ := Lib.hid ((new_row w2).2.trans (hbz.below (by rw [World.size_alloc]; omega) (Nat.le_refl _))); clear hrz hbz) | fail)
  refine (text_any _ _).mono ?_
  rintro e w3 ⟨rfl, hb3⟩
  have HB3 := Lib.hid (on (on HB.out HZ.out) hb3)
  clear hb3
  go_wp2_with fail
  go_ret3
  exact ⟨rfl, HB3.out⟩
set_option maxHeartbeats 2000000 in
theorem parse_badnot {s q : ByteArray} (h2 : Lib.hasPrefix s.data.toList [91, 94] = true) (hq : (⟨(Lib.trimPrefix s.data.toList [91, 94]).toArray⟩ : ByteArray) = q) (hqs : q.size ≤ 4611686018427387904) {F : Nat → Bool} {n : Nat} {er : Int}
    (hit : items q.data.toList (q.size + 1) 0 (fun _ => false) = (F, n, er)) (her : ¬ er = 0) (hn : n ≤ 4611686018427387904) (w : World) : Calls Try.prog 28 #[.string s] w (Parsed w (fun _ => false, 0, er)) := by
  have hz := zero37
  have H2 := Lib.hid h2
  have te : (er != 0) = true := by simpa using her
  have HQ := Lib.hid hq
  have HQS := Lib.hid hqs
  have HIT := Lib.hid hit
  have HN := Lib.hid hn
  clear h2 hq hqs hit hn her
  go_enter Try.func28, Try.ntmps28
  go_wp2_with fail
  refine (Try.strings_HasPrefix _ _ _).mono ?_
  rintro e w1 ⟨rfl, rfl⟩
  rw [H2.out]
  go_wp2_with fail
  refine (Try.strings_CutPrefix _ _ _).mono ?_
  rintro e w1 ⟨rfl, rfl⟩
  simp only []
  rw [H2.out, HQ.out]
  go_wp2_with fail
  refine (items_any _ HQS.out _).mono ?_
  rintro e w2 ⟨rfl, hb2⟩
  rw [HIT.out]
  unfold itemsV
  have HB := Lib.hid hb2
  clear hb2
  go_wp2_with (first | (refine store_row rfl (.tmp 8) (.tmp 26) rfl rfl rfl (Row.new _ _ _) ?_; intro wz hrz hbz; have HR := Lib.hid hrz; have HZ := Lib.hid ((new_row w2).2.trans (hbz.below (by rw [World.size_alloc]; omega) (Nat.le_refl _))); clear hrz hbz) | fail)
  refine (text_any _ _).mono ?_
  rintro e w3 ⟨rfl, hb3⟩
  have HB3 := Lib.hid (on (on HB.out HZ.out) hb3)
  clear hb3
  go_wp2_with fail
  go_ret3
  exact ⟨rfl, HB3.out⟩
set_option maxHeartbeats 2000000 in
theorem parse_ok {s q : ByteArray} (h2 : Lib.hasPrefix s.data.toList [91, 94] = false) (h1 : Lib.hasPrefix s.data.toList [91] = true) (hq : (⟨(Lib.trimPrefix s.data.toList [91]).toArray⟩ : ByteArray) = q) (hqs : q.size ≤ 4611686018427387904) {F : Nat → Bool} {n : Nat} {er : Int}
    (hit : items q.data.toList (q.size + 1) 0 (fun _ => false) = (F, n, er)) (her : er = 0) (hn : n ≤ 4611686018427387904) (w : World) : Calls Try.prog 28 #[.string s] w (Parsed w (F, 1 + n, 0)) := by
  have hz := zero37
  have H2 := Lib.hid h2
  have H1 := Lib.hid h1
  clear h1
  have te : (er != 0) = false := by rw [her]; rfl
  subst her
  have HQ := Lib.hid hq
  have HQS := Lib.hid hqs
  have HIT := Lib.hid hit
  have HN := Lib.hid hn
  clear h2 hq hqs hit hn
  go_enter Try.func28, Try.ntmps28
  go_wp2_with fail
  refine (Try.strings_HasPrefix _ _ _).mono ?_
  rintro e w1 ⟨rfl, rfl⟩
  rw [H2.out]
  go_wp2_with fail
  refine (Try.strings_CutPrefix _ _ _).mono ?_
  rintro e w1 ⟨rfl, rfl⟩
  simp only []
  rw [H1.out, HQ.out]
  go_wp2_with fail
  refine (items_any _ HQS.out _).mono ?_
  rintro e w2 ⟨rfl, hb2⟩
  rw [HIT.out]
  unfold itemsV
  have HB := Lib.hid hb2
  clear hb2
  go_wp2_with (first | (refine store_row rfl (.tmp 8) (.tmp 26) rfl rfl rfl (Row.new _ _ _) ?_; intro wz hrz hbz; have HR := Lib.hid hrz; have HZ := Lib.hid ((new_row w2).2.trans (hbz.below (by rw [World.size_alloc]; omega) (Nat.le_refl _))); clear hrz hbz) | (refine load_row rfl (.tmp 8) rfl rfl HR.out ?_) | fail)
  have HBY := Lib.hid (on HB.out HZ.out)
  refine (text_any _ _).mono ?_
  rintro e w4 ⟨rfl, hb4⟩
  have HB4 := Lib.hid (on HBY.out hb4)
  have hn := HN.out
  clear hb4
  go_wp2_with fail
  go_ret3
  exact ⟨rfl, HB4.out⟩
set_option maxHeartbeats 2000000 in
theorem parse_oknot {s q : ByteArray} (h2 : Lib.hasPrefix s.data.toList [91, 94] = true) (hq : (⟨(Lib.trimPrefix s.data.toList [91, 94]).toArray⟩ : ByteArray) = q) (hqs : q.size ≤ 4611686018427387904) {F : Nat → Bool} {n : Nat} {er : Int}
    (hit : items q.data.toList (q.size + 1) 0 (fun _ => false) = (F, n, er)) (her : er = 0) (hn : n ≤ 4611686018427387904) (w : World) : Calls Try.prog 28 #[.string s] w (Parsed w (fun i => !F i, 2 + n, 0)) := by
  have hz := zero37
  have H2 := Lib.hid h2
  have te : (er != 0) = false := by rw [her]; rfl
  subst her
  have HQ := Lib.hid hq
  have HQS := Lib.hid hqs
  have HIT := Lib.hid hit
  have HN := Lib.hid hn
  clear h2 hq hqs hit hn
  go_enter Try.func28, Try.ntmps28
  go_wp2_with fail
  refine (Try.strings_HasPrefix _ _ _).mono ?_
  rintro e w1 ⟨rfl, rfl⟩
  rw [H2.out]
  go_wp2_with fail
  refine (Try.strings_CutPrefix _ _ _).mono ?_
  rintro e w1 ⟨rfl, rfl⟩
  simp only []
  rw [H2.out, HQ.out]
  go_wp2_with fail
  refine (items_any _ HQS.out _).mono ?_
  rintro e w2 ⟨rfl, hb2⟩
  rw [HIT.out]
  unfold itemsV
  have HB := Lib.hid hb2
  clear hb2
  go_wp2_with (first | (refine store_row rfl (.tmp 8) (.tmp 26) rfl rfl rfl (Row.new _ _ _) ?_; intro wz hrz hbz; have HR := Lib.hid hrz; have HZ := Lib.hid ((new_row w2).2.trans (hbz.below (by rw [World.size_alloc]; omega) (Nat.le_refl _))); clear hrz hbz) | (refine load_row rfl (.tmp 8) rfl rfl HR.out ?_) | fail)
  have HBB := Lib.hid (on HB.out HZ.out)
  refine (others_any _ _).mono ?_
  rintro e w3 ⟨rfl, hb3⟩
  replace HR := Lib.hid (HR.out.on hb3 HR.out.lt)
  have HB3 := Lib.hid (on HBB.out hb3)
  have HLT := Lib.hid (Nat.le_trans HB.out.size (Nat.le_refl w2.heap.size))
  clear hb3
  go_wp2_with (first | (refine store_row rfl (.tmp 8) (.tmp 39) rfl rfl rfl HR.out ?_; intro wy hry hby; have HRY := Lib.hid hry; have HBY := Lib.hid (HB3.out.trans (hby.below HB3.out.size HLT.out)); clear hry hby) | (refine load_row rfl (.tmp 8) rfl rfl HRY.out ?_) | fail)
  refine (text_any _ _).mono ?_
  rintro e w4 ⟨rfl, hb4⟩
  have HB4 := Lib.hid (on HBY.out hb4)
  have hn := HN.out
  clear hb4
  go_wp2_with fail
  go_ret3
  exact ⟨rfl, HB4.out⟩
end Go.Proofs.Ytpcgocdepolgeaa.W13
