/-
  Layer 13 (class), the contracts of the program's functions: Span, One, Union, Not, Named. The conditions stand in the statements.
-/
import Derived.Test.YtpcgocdepolgeaaW13Asks
import Derived.Test.YtpcgocdepolgeaaW13Text
namespace Go.Proofs.Ytpcgocdepolgeaa.W13
set_option maxRecDepth 100000
open Go Go.RowKit Go.Proofs.Ytpcgocdepolgeaa.M13 Go.Proofs.Ytpcgocdepolgeaa.Row256
open Go.Proofs.Ytpcgocdepolgeaa.Kit (ret_str ret_bool ret_int mk_of mk_bytes ba_ext below_draws on)

/-- an array of no truths in a block of its own -/
theorem new_row (w : World) : Row (w.alloc (.cells (rowV (bv fun _ => false)) 37)) w.heap.size 37 (bv fun _ => false) ∧ Below w.heap.size w (w.alloc (.cells (rowV (bv fun _ => false)) 37)) :=
  ⟨Row.new _ _ _, (Below.refl w.heap.size w).alloc (Nat.le_refl _) _⟩
theorem new_rows (w : World) : Row ((w.alloc (.cells (rowV (bv fun _ => false)) 37)).alloc (.cells (rowV (bv fun _ => false)) 37)) w.heap.size 37 (bv fun _ => false) ∧ Row ((w.alloc (.cells (rowV (bv fun _ => false)) 37)).alloc (.cells (rowV (bv fun _ => false)) 37)) (w.heap.size + 1) 37 (bv fun _ => false) ∧ Below w.heap.size w ((w.alloc (.cells (rowV (bv fun _ => false)) 37)).alloc (.cells (rowV (bv fun _ => false)) 37)) := by
  have h := new_row (w.alloc (.cells (rowV (bv fun _ => false)) 37))
  rw [World.size_alloc] at h
  exact ⟨(new_row w).1.alloc _, h.1, (new_row w).2.trans (h.2.mono (Nat.le_succ _))⟩
set_option maxHeartbeats 1000000 in
theorem spanS_any (a c : UInt8) (w : World) : Calls Try.prog 6 #[.int .u8 a.toNat, .int .u8 c.toNat] w fun e w' => e = .returned (.string (tx (between a.toNat c.toNat))) ∧ Below w.heap.size w w' := by
  have hz := zero37
  go_enter Try.func6, Try.ntmps6
  go_wp2_with fail
  have HN := Lib.hid (new_row w)
  generalize (w.alloc (.cells (rowV (bv fun _ => false)) 37)) = w1 at HN ⊢
  refine (span_any HN.out.1 a c).mono ?_
  rintro e w2 ⟨rfl, hr2, hb2⟩
  have HR := Lib.hid hr2
  have HB := Lib.hid (HN.out.2.trans (hb2.below HN.out.2.size (Nat.le_refl _)))
  clear hr2 hb2 hz
  go_wp2_with (first | (refine load_row rfl (.tmp 5) rfl rfl HR.out ?_) | fail)
  refine (text_any _ _).mono ?_
  rintro e w3 ⟨rfl, hb3⟩
  have HB3 := Lib.hid hb3
  clear hb3
  go_wp2_with fail
  go_ret
  exact ⟨rfl, on HB.out HB3.out⟩
theorem oneS_any (c : UInt8) (w : World) : Calls Try.prog 8 #[.int .u8 c.toNat] w fun e w' => e = .returned (.string (tx (between c.toNat c.toNat))) ∧ Below w.heap.size w w' := by
  go_enter Try.func8, Try.ntmps8
  go_wp2_with fail
  refine (spanS_any _ _ _).mono ?_
  rintro e w3 ⟨rfl, hb3⟩
  have HB3 := Lib.hid hb3
  clear hb3
  go_wp2_with fail
  go_ret
  exact ⟨rfl, HB3.out⟩
set_option maxHeartbeats 1000000 in
theorem not_any (s : ByteArray) (w : World) : Calls Try.prog 11 #[.string s] w fun e w' => e = .returned (.string (tx fun i => !has s.data.toList i)) ∧ Below w.heap.size w w' := by
  go_enter Try.func11, Try.ntmps11
  go_wp2_with fail
  refine (bitsOf_any _ _).mono ?_
  rintro e w1 ⟨rfl, hb1⟩
  have HB1 := Lib.hid hb1
  clear hb1
  go_wp2_with fail
  refine (others_any _ _).mono ?_
  rintro e w2 ⟨rfl, hb2⟩
  have HB2 := Lib.hid (on HB1.out hb2)
  clear hb2
  go_wp2_with fail
  refine (text_any _ _).mono ?_
  rintro e w3 ⟨rfl, hb3⟩
  have HB3 := Lib.hid (on HB2.out hb3)
  clear hb3
  go_wp2_with fail
  go_ret
  exact ⟨rfl, HB3.out⟩
set_option maxHeartbeats 1000000 in
theorem union_any (a b : ByteArray) (w : World) : Calls Try.prog 12 #[.string a, .string b] w fun e w' => e = .returned (.string (tx fun i => has a.data.toList i || has b.data.toList i)) ∧ Below w.heap.size w w' := by
  have hz := zero37
  go_enter Try.func12, Try.ntmps12
  go_wp2_with fail
  have HN := Lib.hid (new_row w)
  generalize (w.alloc (.cells (rowV (bv fun _ => false)) 37)) = w1 at HN ⊢
  refine (bitsOf_any _ _).mono ?_
  rintro e w2 ⟨rfl, hb2⟩
  have HR2 := Lib.hid (HN.out.1.on hb2 HN.out.1.lt)
  have HB2 := Lib.hid (HN.out.2.trans (hb2.mono HN.out.2.size))
  clear hb2 hz
  go_wp2_with fail
  refine (add_any HR2.out _).mono ?_
  rintro e w3 ⟨rfl, hr3, hb3⟩
  have HR3 := Lib.hid hr3
  have HB3 := Lib.hid (HB2.out.trans (hb3.below HB2.out.size (Nat.le_refl _)))
  clear hr3 hb3
  go_wp2_with fail
  refine (bitsOf_any _ _).mono ?_
  rintro e w4 ⟨rfl, hb4⟩
  have HR4 := Lib.hid (HR3.out.on hb4 HR3.out.lt)
  have HB4 := Lib.hid (HB3.out.trans (hb4.mono HB3.out.size))
  clear hb4
  go_wp2_with fail
  refine (add_any HR4.out _).mono ?_
  rintro e w5 ⟨rfl, hr5, hb5⟩
  have HR5 := Lib.hid hr5
  have HB5 := Lib.hid (HB4.out.trans (hb5.below HB4.out.size (Nat.le_refl _)))
  clear hr5 hb5
  go_wp2_with (first | (refine load_row rfl (.tmp 5) rfl rfl HR5.out ?_) | fail)
  refine (text_any _ _).mono ?_
  rintro e w6 ⟨rfl, hb6⟩
  have HB6 := Lib.hid (on HB5.out hb6)
  clear hb6
  go_wp2_with fail
  go_ret
  refine ⟨?_, HB6.out⟩
  exact congrArg (fun x => Ending.returned (.string x)) (tx_congr fun i _ => rfl)
theorem row_true {w : World} {b : Nat} {t : TypeId} {f : Nat → Bool} (h : Row w b t (bv f)) (i : Nat) : Row (w.setCell ⟨b, i, none⟩ (.bool true)) b t (bv fun j => f j || decide (j = i)) := by
  refine (h.put i (.bool true)).is fun j _ => ?_
  by_cases e : j = i
  · subst e; rw [if_pos rfl]; exact bv_eq (f := fun _ => true) (by simp)
  · rw [if_neg e]; exact bv_eq (by simp [e])
set_option maxHeartbeats 1000000 in
theorem named_100 (w : World) : Calls Try.prog 18 #[.int .u8 100] w fun e w' => e = .returned (.agg (rowV (bv (namedF 100)))) ∧ Below w.heap.size w w' := by
  have hz := zero37
  go_enter Try.func18, Try.ntmps18
  go_wp2_with fail
  have HN := Lib.hid (new_rows w)
  generalize ((w.alloc (.cells (rowV (bv fun _ => false)) 37)).alloc (.cells (rowV (bv fun _ => false)) 37)) = w1 at HN ⊢
  clear hz
  have HR := Lib.hid HN.out.2.1
  have HQ := Lib.hid HN.out.1
  have HB := Lib.hid HN.out.2.2
  clear HN
  refine (span_any HR.out 48 57).mono ?_
  rintro e w2 ⟨rfl, hr2, hb2⟩
  replace HR := Lib.hid hr2
  replace HQ := Lib.hid (HQ.out.beside hb2 (by omega))
  replace HB := Lib.hid (HB.out.trans (hb2.below HB.out.size (by omega)))
  clear hr2 hb2
  go_wp2_with (first | (refine load_row rfl (.tmp 3) rfl rfl HR.out ?_) | (refine store_row rfl (.tmp 2) (.tmp 26) rfl rfl rfl HQ.out ?_; intro wz hrz hbz; have HRZ := Lib.hid hrz; have HBZ := Lib.hid hbz; clear hrz hbz))
  refine end_row rfl rfl HRZ.out rfl ⟨?_, HB.out.trans (HBZ.out.below HB.out.size (Nat.le_refl _))⟩
  exact congrArg (fun x => Ending.returned (.agg x)) (rowV_congr fun i _ => bv_eq rfl)
set_option maxHeartbeats 1000000 in
theorem named_119 (w : World) : Calls Try.prog 18 #[.int .u8 119] w fun e w' => e = .returned (.agg (rowV (bv (namedF 119)))) ∧ Below w.heap.size w w' := by
  have hz := zero37
  go_enter Try.func18, Try.ntmps18
  go_wp2_with fail
  have HN := Lib.hid (new_rows w)
  generalize ((w.alloc (.cells (rowV (bv fun _ => false)) 37)).alloc (.cells (rowV (bv fun _ => false)) 37)) = w1 at HN ⊢
  clear hz
  have HR := Lib.hid HN.out.2.1
  have HQ := Lib.hid HN.out.1
  have HB := Lib.hid HN.out.2.2
  clear HN
  refine (span_any HR.out 97 122).mono ?_
  rintro e w2 ⟨rfl, hr2, hb2⟩
  replace HR := Lib.hid hr2
  replace HQ := Lib.hid (HQ.out.beside hb2 (by omega))
  replace HB := Lib.hid (HB.out.trans (hb2.below HB.out.size (by omega)))
  clear hr2 hb2
  go_wp2_with fail
  refine (span_any HR.out 65 90).mono ?_
  rintro e w2 ⟨rfl, hr2, hb2⟩
  replace HR := Lib.hid hr2
  replace HQ := Lib.hid (HQ.out.beside hb2 (by omega))
  replace HB := Lib.hid (HB.out.trans (hb2.below HB.out.size (by omega)))
  clear hr2 hb2
  have hcell := HR.out.cell (i := 95) (by omega)
  have hfree := HR.out.free 95
  have HR2 := Lib.hid (row_true HR.out 95)
  have HQ2 := Lib.hid (HQ.out.other (a := ⟨w.heap.size + 1, 95, none⟩) (by simp) (.bool true))
  have HB2 := Lib.hid (HB.out.setCell (p := ⟨w.heap.size + 1, 95, none⟩) (by simp) (.bool true))
  go_wp2_with fail
  clear hcell hfree
  replace HR := HR2
  replace HQ := HQ2
  replace HB := HB2
  refine (span_any HR.out 48 57).mono ?_
  rintro e w2 ⟨rfl, hr2, hb2⟩
  replace HR := Lib.hid hr2
  replace HQ := Lib.hid (HQ.out.beside hb2 (by omega))
  replace HB := Lib.hid (HB.out.trans (hb2.below HB.out.size (by omega)))
  clear hr2 hb2
  go_wp2_with (first | (refine load_row rfl (.tmp 3) rfl rfl HR.out ?_) | (refine store_row rfl (.tmp 2) (.tmp 26) rfl rfl rfl HQ.out ?_; intro wz hrz hbz; have HRZ := Lib.hid hrz; have HBZ := Lib.hid hbz; clear hrz hbz))
  refine end_row rfl rfl HRZ.out rfl ⟨?_, HB.out.trans (HBZ.out.below HB.out.size (Nat.le_refl _))⟩
  exact congrArg (fun x => Ending.returned (.agg x)) (rowV_congr fun i _ => bv_eq rfl)
set_option maxHeartbeats 1000000 in
theorem named_115 (w : World) : Calls Try.prog 18 #[.int .u8 115] w fun e w' => e = .returned (.agg (rowV (bv (namedF 115)))) ∧ Below w.heap.size w w' := by
  have hz := zero37
  go_enter Try.func18, Try.ntmps18
  go_wp2_with fail
  have HN := Lib.hid (new_rows w)
  generalize ((w.alloc (.cells (rowV (bv fun _ => false)) 37)).alloc (.cells (rowV (bv fun _ => false)) 37)) = w1 at HN ⊢
  clear hz
  have HR := Lib.hid HN.out.2.1
  have HQ := Lib.hid HN.out.1
  have HB := Lib.hid HN.out.2.2
  clear HN
  refine (span_any HR.out 9 13).mono ?_
  rintro e w2 ⟨rfl, hr2, hb2⟩
  replace HR := Lib.hid hr2
  replace HQ := Lib.hid (HQ.out.beside hb2 (by omega))
  replace HB := Lib.hid (HB.out.trans (hb2.below HB.out.size (by omega)))
  clear hr2 hb2
  have hcell := HR.out.cell (i := 32) (by omega)
  have hfree := HR.out.free 32
  have HR2 := Lib.hid (row_true HR.out 32)
  have HQ2 := Lib.hid (HQ.out.other (a := ⟨w.heap.size + 1, 32, none⟩) (by simp) (.bool true))
  have HB2 := Lib.hid (HB.out.setCell (p := ⟨w.heap.size + 1, 32, none⟩) (by simp) (.bool true))
  go_wp2_with (first | (refine load_row rfl (.tmp 3) rfl rfl HR2.out ?_) | (refine store_row rfl (.tmp 2) (.tmp 26) rfl rfl rfl HQ2.out ?_; intro wz hrz hbz; have HRZ := Lib.hid hrz; have HBZ := Lib.hid hbz; clear hrz hbz))
  clear hcell hfree
  replace HR := HR2
  replace HQ := HQ2
  replace HB := HB2
  refine end_row rfl rfl HRZ.out rfl ⟨?_, HB.out.trans (HBZ.out.below HB.out.size (Nat.le_refl _))⟩
  exact congrArg (fun x => Ending.returned (.agg x)) (rowV_congr fun i _ => bv_eq rfl)
set_option maxHeartbeats 1000000 in
theorem named_68 (w : World) : Calls Try.prog 18 #[.int .u8 68] w fun e w' => e = .returned (.agg (rowV (bv (namedF 68)))) ∧ Below w.heap.size w w' := by
  have hz := zero37
  go_enter Try.func18, Try.ntmps18
  go_wp2_with fail
  have HN := Lib.hid (new_rows w)
  generalize ((w.alloc (.cells (rowV (bv fun _ => false)) 37)).alloc (.cells (rowV (bv fun _ => false)) 37)) = w1 at HN ⊢
  clear hz
  have HR := Lib.hid HN.out.2.1
  have HQ := Lib.hid HN.out.1
  have HB := Lib.hid HN.out.2.2
  clear HN
  refine (named_100 _).mono ?_
  rintro e w2 ⟨rfl, hb2⟩
  replace HR := Lib.hid (HR.out.on hb2 HR.out.lt)
  replace HQ := Lib.hid (HQ.out.on hb2 HQ.out.lt)
  replace HB := Lib.hid (HB.out.trans (hb2.mono HB.out.size))
  clear hb2
  go_wp2_with fail
  refine (others_any _ _).mono ?_
  rintro e w2 ⟨rfl, hb2⟩
  replace HR := Lib.hid (HR.out.on hb2 HR.out.lt)
  replace HQ := Lib.hid (HQ.out.on hb2 HQ.out.lt)
  replace HB := Lib.hid (HB.out.trans (hb2.mono HB.out.size))
  clear hb2
  go_wp2_with (first | (refine store_row rfl (.tmp 3) (.tmp 19) rfl rfl rfl HR.out ?_; intro wy hry hby; have HRY := Lib.hid hry; have HBY := Lib.hid hby; have HQY := Lib.hid (HQ.out.beside hby (by omega)); clear hry hby) | (refine load_row rfl (.tmp 3) rfl rfl HRY.out ?_) | (refine store_row rfl (.tmp 2) (.tmp 26) rfl rfl rfl HQY.out ?_; intro wz hrz hbz; have HRZ := Lib.hid hrz; have HBZ := Lib.hid hbz; clear hrz hbz))
  replace HB := Lib.hid (HB.out.trans (HBY.out.below HB.out.size (by omega)))
  refine end_row rfl rfl HRZ.out rfl ⟨?_, HB.out.trans (HBZ.out.below HB.out.size (Nat.le_refl _))⟩
  exact congrArg (fun x => Ending.returned (.agg x)) (rowV_congr fun i _ => bv_eq rfl)
set_option maxHeartbeats 1000000 in
theorem named_87 (w : World) : Calls Try.prog 18 #[.int .u8 87] w fun e w' => e = .returned (.agg (rowV (bv (namedF 87)))) ∧ Below w.heap.size w w' := by
  have hz := zero37
  go_enter Try.func18, Try.ntmps18
  go_wp2_with fail
  have HN := Lib.hid (new_rows w)
  generalize ((w.alloc (.cells (rowV (bv fun _ => false)) 37)).alloc (.cells (rowV (bv fun _ => false)) 37)) = w1 at HN ⊢
  clear hz
  have HR := Lib.hid HN.out.2.1
  have HQ := Lib.hid HN.out.1
  have HB := Lib.hid HN.out.2.2
  clear HN
  refine (named_119 _).mono ?_
  rintro e w2 ⟨rfl, hb2⟩
  replace HR := Lib.hid (HR.out.on hb2 HR.out.lt)
  replace HQ := Lib.hid (HQ.out.on hb2 HQ.out.lt)
  replace HB := Lib.hid (HB.out.trans (hb2.mono HB.out.size))
  clear hb2
  go_wp2_with fail
  refine (others_any _ _).mono ?_
  rintro e w2 ⟨rfl, hb2⟩
  replace HR := Lib.hid (HR.out.on hb2 HR.out.lt)
  replace HQ := Lib.hid (HQ.out.on hb2 HQ.out.lt)
  replace HB := Lib.hid (HB.out.trans (hb2.mono HB.out.size))
  clear hb2
  go_wp2_with (first | (refine store_row rfl (.tmp 3) (.tmp 19) rfl rfl rfl HR.out ?_; intro wy hry hby; have HRY := Lib.hid hry; have HBY := Lib.hid hby; have HQY := Lib.hid (HQ.out.beside hby (by omega)); clear hry hby) | (refine load_row rfl (.tmp 3) rfl rfl HRY.out ?_) | (refine store_row rfl (.tmp 2) (.tmp 26) rfl rfl rfl HQY.out ?_; intro wz hrz hbz; have HRZ := Lib.hid hrz; have HBZ := Lib.hid hbz; clear hrz hbz))
  replace HB := Lib.hid (HB.out.trans (HBY.out.below HB.out.size (by omega)))
  refine end_row rfl rfl HRZ.out rfl ⟨?_, HB.out.trans (HBZ.out.below HB.out.size (Nat.le_refl _))⟩
  exact congrArg (fun x => Ending.returned (.agg x)) (rowV_congr fun i _ => bv_eq rfl)
set_option maxHeartbeats 1000000 in
theorem named_83 (w : World) : Calls Try.prog 18 #[.int .u8 83] w fun e w' => e = .returned (.agg (rowV (bv (namedF 83)))) ∧ Below w.heap.size w w' := by
  have hz := zero37
  go_enter Try.func18, Try.ntmps18
  go_wp2_with fail
  have HN := Lib.hid (new_rows w)
  generalize ((w.alloc (.cells (rowV (bv fun _ => false)) 37)).alloc (.cells (rowV (bv fun _ => false)) 37)) = w1 at HN ⊢
  clear hz
  have HR := Lib.hid HN.out.2.1
  have HQ := Lib.hid HN.out.1
  have HB := Lib.hid HN.out.2.2
  clear HN
  refine (named_115 _).mono ?_
  rintro e w2 ⟨rfl, hb2⟩
  replace HR := Lib.hid (HR.out.on hb2 HR.out.lt)
  replace HQ := Lib.hid (HQ.out.on hb2 HQ.out.lt)
  replace HB := Lib.hid (HB.out.trans (hb2.mono HB.out.size))
  clear hb2
  go_wp2_with fail
  refine (others_any _ _).mono ?_
  rintro e w2 ⟨rfl, hb2⟩
  replace HR := Lib.hid (HR.out.on hb2 HR.out.lt)
  replace HQ := Lib.hid (HQ.out.on hb2 HQ.out.lt)
  replace HB := Lib.hid (HB.out.trans (hb2.mono HB.out.size))
  clear hb2
  go_wp2_with (first | (refine store_row rfl (.tmp 3) (.tmp 19) rfl rfl rfl HR.out ?_; intro wy hry hby; have HRY := Lib.hid hry; have HBY := Lib.hid hby; have HQY := Lib.hid (HQ.out.beside hby (by omega)); clear hry hby) | (refine load_row rfl (.tmp 3) rfl rfl HRY.out ?_) | (refine store_row rfl (.tmp 2) (.tmp 26) rfl rfl rfl HQY.out ?_; intro wz hrz hbz; have HRZ := Lib.hid hrz; have HBZ := Lib.hid hbz; clear hrz hbz))
  replace HB := Lib.hid (HB.out.trans (HBY.out.below HB.out.size (by omega)))
  refine end_row rfl rfl HRZ.out rfl ⟨?_, HB.out.trans (HBZ.out.below HB.out.size (Nat.le_refl _))⟩
  exact congrArg (fun x => Ending.returned (.agg x)) (rowV_congr fun i _ => bv_eq rfl)
theorem u8_ne {c d : UInt8} (h : ¬ c = d) : (((c.toNat : Nat) : Int) == ((d.toNat : Nat) : Int)) = false := beq_eq_false_iff_ne.2 fun e => h (Kit.byte_eq e)
set_option maxHeartbeats 1000000 in
theorem named_no {c : UInt8} (h1 : ¬ c = 100) (h2 : ¬ c = 119) (h3 : ¬ c = 115) (h4 : ¬ c = 68) (h5 : ¬ c = 87) (h6 : ¬ c = 83) (w : World) : Calls Try.prog 18 #[.int .u8 c.toNat] w fun e w' => e = .returned (.agg (rowV (bv (namedF c)))) ∧ Below w.heap.size w w' := by
  have HF : Hid (namedF c = fun _ => false) := by
    funext i
    unfold namedF
    rw [if_neg h1, if_neg h2, if_neg h3, if_neg h4, if_neg h5, if_neg h6]
  have g1 : (((c.toNat : Nat) : Int) == 100) = false := u8_ne (d := 100) h1
  have g2 : (((c.toNat : Nat) : Int) == 119) = false := u8_ne (d := 119) h2
  have g3 : (((c.toNat : Nat) : Int) == 115) = false := u8_ne (d := 115) h3
  have g4 : (((c.toNat : Nat) : Int) == 68) = false := u8_ne (d := 68) h4
  have g5 : (((c.toNat : Nat) : Int) == 87) = false := u8_ne (d := 87) h5
  have g6 : (((c.toNat : Nat) : Int) == 83) = false := u8_ne (d := 83) h6
  clear h1 h2 h3 h4 h5 h6
  have hz := zero37
  go_enter Try.func18, Try.ntmps18
  have HN := Lib.hid (new_rows w)
  go_wp2_with (first | (refine load_row rfl (.tmp 3) rfl rfl HN.out.2.1 ?_) | (refine store_row rfl (.tmp 2) (.tmp 26) rfl rfl rfl HN.out.1 ?_; intro wz hrz hbz; have HRZ := Lib.hid hrz; have HBZ := Lib.hid hbz; clear hrz hbz))
  refine end_row rfl rfl HRZ.out rfl ⟨?_, HN.out.2.2.trans (HBZ.out.below HN.out.2.2.size (Nat.le_refl _))⟩
  rw [HF.out]
theorem named_any (c : UInt8) (w : World) : Calls Try.prog 18 #[.int .u8 c.toNat] w fun e w' => e = .returned (.agg (rowV (bv (namedF c)))) ∧ Below w.heap.size w w' := by
  by_cases h1 : c = 100
  · subst h1; exact named_100 w
  by_cases h2 : c = 119
  · subst h2; exact named_119 w
  by_cases h3 : c = 115
  · subst h3; exact named_115 w
  by_cases h4 : c = 68
  · subst h4; exact named_68 w
  by_cases h5 : c = 87
  · subst h5; exact named_87 w
  by_cases h6 : c = 83
  · subst h6; exact named_83 w
  exact named_no h1 h2 h3 h4 h5 h6 w
set_option maxHeartbeats 1000000 in
theorem namedS_any (c : UInt8) (w : World) : Calls Try.prog 4 #[.int .u8 c.toNat] w fun e w' => e = .returned (.tuple #[.string (tx (namedF c)), .bool (letter c)]) ∧ Below w.heap.size w w' := by
  go_enter Try.func4, Try.ntmps4
  go_wp2_with fail
  refine (named_any _ _).mono ?_
  rintro e w1 ⟨rfl, hb1⟩
  have HB1 := Lib.hid hb1
  clear hb1
  go_wp2_with fail
  refine (text_any _ _).mono ?_
  rintro e w2 ⟨rfl, hb2⟩
  have HB2 := Lib.hid (on HB1.out hb2)
  clear hb2
  go_wp2_with fail
  refine (isLetter_any _ _).mono ?_
  rintro e w3 ⟨rfl, rfl⟩
  go_wp2_with fail
  go_ret2
  exact ⟨rfl, HB2.out⟩
end Go.Proofs.Ytpcgocdepolgeaa.W13
