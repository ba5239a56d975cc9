/-
  The law of layer 13 (class): ClassSets returns true whatever it is given. No condition.
-/
import Derived.Test.YtpcgocdepolgeaaW13ParseAny
import Derived.Test.YtpcgocdepolgeaaW13RefN
namespace Go.Proofs.Ytpcgocdepolgeaa.W13
open Go Go.RowKit Go.Proofs.Ytpcgocdepolgeaa.M13 Go.Proofs.Ytpcgocdepolgeaa.Row256
open Go.Proofs.Ytpcgocdepolgeaa.Kit (ret_str ret_bool ret_int mk_of mk_bytes ba_ext below_draws on drop_bytes)

theorem count_tx (F : Nat → Bool) : count (tx F).data.toList = (List.range 256).countP F := by
  rw [← countP_far]
  refine List.countP_congr fun i hi => ?_
  rw [has_tx F (List.mem_range.1 hi)]
theorem lives_any (w : World) : Calls Try.prog 17 #[] w fun e w' => e = .returned (.bool true) ∧ Below w.heap.size w w' := by
  obtain ⟨h1, h2, h3, h4, h5⟩ := lives_parse
  have HP := Lib.hid (fun w => parse_any (s := ⟨#[91, 94, 97, 45, 99, 92, 100, 93, 120]⟩) (by decide) w)
  have e : (⟨#[91, 94, 97, 45, 99, 92, 100, 93, 120]⟩ : ByteArray).data.toList = [91, 94, 97, 45, 99, 92, 100, 93, 120] := rfl
  rw [e] at HP
  clear e
  generalize parse [91, 94, 97, 45, 99, 92, 100, 93, 120] = R at *
  obtain ⟨F, n, er⟩ := R
  simp only at h1 h2 h3 h4 h5
  subst h1 h2
  have H3 := Lib.hid (count_tx F |>.trans h3)
  have H4 : Hid (has (tx F).data.toList 98 = false) := (has_tx F (by omega)).trans h4
  have H5 : Hid (has (tx F).data.toList 120 = true) := (has_tx F (by omega)).trans h5
  clear h3 h4 h5
  go_enter Try.func17, Try.ntmps17
  go_wp2_with fail
  refine (HP.out _).mono ?_
  rintro e w1 ⟨rfl, hb1⟩
  have HB := Lib.hid hb1
  clear hb1
  go_wp2_with fail
  refine (count_any _ _).mono ?_
  rintro e w2 ⟨rfl, rfl⟩
  rw [H3.out]
  go_wp2_with fail
  refine (has_any _ 98 _).mono ?_
  rintro e w3 ⟨rfl, rfl⟩
  rw [show (98 : UInt8).toNat = 98 from rfl, H4.out]
  go_wp2_with fail
  refine (has_any _ 120 _).mono ?_
  rintro e w3 ⟨rfl, rfl⟩
  rw [show (120 : UInt8).toNat = 120 from rfl, H5.out]
  go_wp2_with fail
  go_ret
  exact ⟨rfl, HB.out⟩
theorem not_tx (f : Nat → Bool) (w : World) : Calls Try.prog 11 #[.string (tx f)] w fun e w' => e = .returned (.string (tx fun i => !f i)) ∧ Below w.heap.size w w' :=
  (not_any _ _).mono fun _ _ h => ⟨h.1.trans (congrArg (fun x => Ending.returned (.string x)) (tx_congr fun i hi => by rw [has_tx f hi])), h.2⟩
theorem not_not (f : Nat → Bool) : tx (fun i => !(!f i)) = tx f := tx_congr fun _ _ => Bool.not_not _
theorem or_none (a : ByteArray) : tx (fun i => has a.data.toList i || has (⟨#[]⟩ : ByteArray).data.toList i) = tx (has a.data.toList) := tx_congr fun i _ => by
  rw [has_bad (s := (⟨#[]⟩ : ByteArray).data.toList) rfl, Bool.or_false]
set_option maxHeartbeats 4000000 in
theorem classSets_law {w : World} (a b : ByteArray) (c d : UInt8) : Calls Try.prog 3 #[.agg #[.string a, .string b, .int .u8 c.toNat, .int .u8 d.toNat]] w fun e w' => e = .returned (.bool true) ∧ Below w.heap.size w w' := by
  have hc : c.toNat < 256 := UInt8.toNat_lt c
  have hd : d.toNat < 256 := UInt8.toNat_lt d
  have h1 := namedS_any c
  have h2 := refNamed_any c
  have h3 := spanS_any c d
  have h4 := refSpan_any c.toNat d.toNat hd
  have h5 := oneS_any c
  have h6 := refSpan_any c.toNat c.toNat hc
  have h7 := has_any a c
  have h8 := refHas_any a c.toNat
  have h9 := not_any a
  have h10 := fun w => not_tx (fun i => !has a.data.toList i) w
  rw [not_not] at h10
  have h11 := union_any a b
  have h12 := refUnion_any a b
  have h13 := refNot_any a
  have h14 := union_any a ⟨#[]⟩
  rw [or_none] at h14
  have h15 := has_any (tx fun i => !has a.data.toList i) c
  rw [has_tx _ hc] at h15
  have h16 := count_any a
  have h17 := refCount_any a
  generalize tx (namedF c) = T1 at h1 h2
  generalize letter c = l1 at h1 h2
  generalize tx (between c.toNat d.toNat) = T2 at h3 h4
  generalize tx (between c.toNat c.toNat) = T3 at h5 h6
  generalize (tx fun i => !has a.data.toList i) = T4 at h9 h10 h13 h15
  generalize (tx fun i => has a.data.toList i || has b.data.toList i) = T5 at h11 h12
  generalize tx (has a.data.toList) = T6 at h10 h14
  generalize has a.data.toList c.toNat = x1 at h7 h8 h15
  generalize count a.data.toList = k1 at h16 h17
  have g1 : (T1.toList == T1.toList) = true := beq_self_eq_true _
  have g2 : (T2.toList == T2.toList) = true := beq_self_eq_true _
  have g3 : (T3.toList == T3.toList) = true := beq_self_eq_true _
  have g4 : (T4.toList == T4.toList) = true := beq_self_eq_true _
  have g5 : (T5.toList == T5.toList) = true := beq_self_eq_true _
  have g6 : (T6.toList == T6.toList) = true := beq_self_eq_true _
  replace h1 := Lib.hid h1
  replace h2 := Lib.hid h2
  replace h3 := Lib.hid h3
  replace h4 := Lib.hid h4
  replace h5 := Lib.hid h5
  replace h6 := Lib.hid h6
  replace h7 := Lib.hid h7
  replace h8 := Lib.hid h8
  replace h9 := Lib.hid h9
  replace h10 := Lib.hid h10
  replace h11 := Lib.hid h11
  replace h12 := Lib.hid h12
  replace h13 := Lib.hid h13
  replace h14 := Lib.hid h14
  replace h15 := Lib.hid h15
  replace h16 := Lib.hid h16
  replace h17 := Lib.hid h17
  go_enter Try.func3, Try.ntmps3
  go_wp2_with fail
  go_quiet (fail)
  have HB : Hid (Below w.heap.size w ((w.alloc (.cells #[.string a, .string b, .int .u8 c.toNat, .int .u8 d.toNat] 23)).drewN nq)) := Below.trans ((Below.refl w.heap.size w).alloc (Nat.le_refl _) _) ((below_draws _ nq).mono (by rw [World.size_alloc]; omega))
  generalize ((w.alloc (.cells #[.string a, .string b, .int .u8 c.toNat, .int .u8 d.toNat] 23)).drewN nq) = W1 at HB ⊢
  go_wp2_with fail
  refine (h1.out _).mono ?_
  rintro e w2 ⟨rfl, hb2⟩
  replace HB := Lib.hid (on HB.out hb2)
  clear hb2
  go_wp2_with fail
  refine (h2.out _).mono ?_
  rintro e w3 ⟨rfl, hb3⟩
  replace HB := Lib.hid (on HB.out hb3)
  clear hb3
  go_wp2_with fail
  refine (h3.out _).mono ?_
  rintro e w4 ⟨rfl, hb4⟩
  replace HB := Lib.hid (on HB.out hb4)
  clear hb4
  go_wp2_with fail
  refine (h4.out _).mono ?_
  rintro e w11 ⟨rfl, hb11⟩
  replace HB := Lib.hid (on HB.out hb11)
  clear hb11
  go_wp2_with fail
  refine (h5.out _).mono ?_
  rintro e w12 ⟨rfl, hb12⟩
  replace HB := Lib.hid (on HB.out hb12)
  clear hb12
  go_wp2_with fail
  refine (h6.out _).mono ?_
  rintro e w13 ⟨rfl, hb13⟩
  replace HB := Lib.hid (on HB.out hb13)
  clear hb13
  go_wp2_with fail
  refine (h7.out _).mono ?_
  rintro e w' ⟨rfl, rfl⟩
  go_wp2_with fail
  refine (h8.out _).mono ?_
  rintro e w' ⟨rfl, rfl⟩
  go_wp2_with fail
  refine (h9.out _).mono ?_
  rintro e w14 ⟨rfl, hb14⟩
  replace HB := Lib.hid (on HB.out hb14)
  clear hb14
  go_wp2_with fail
  refine (h15.out _).mono ?_
  rintro e w' ⟨rfl, rfl⟩
  go_wp2_with fail
  refine (h7.out _).mono ?_
  rintro e w' ⟨rfl, rfl⟩
  go_wp2_with fail
  refine (h11.out _).mono ?_
  rintro e w15 ⟨rfl, hb15⟩
  replace HB := Lib.hid (on HB.out hb15)
  clear hb15
  go_wp2_with fail
  refine (h12.out _).mono ?_
  rintro e w16 ⟨rfl, hb16⟩
  replace HB := Lib.hid (on HB.out hb16)
  clear hb16
  go_wp2_with fail
  refine (h9.out _).mono ?_
  rintro e w17 ⟨rfl, hb17⟩
  replace HB := Lib.hid (on HB.out hb17)
  clear hb17
  go_wp2_with fail
  refine (h13.out _).mono ?_
  rintro e w18 ⟨rfl, hb18⟩
  replace HB := Lib.hid (on HB.out hb18)
  clear hb18
  go_wp2_with fail
  refine (h9.out _).mono ?_
  rintro e w19 ⟨rfl, hb19⟩
  replace HB := Lib.hid (on HB.out hb19)
  clear hb19
  go_wp2_with fail
  refine (h10.out _).mono ?_
  rintro e w20 ⟨rfl, hb20⟩
  replace HB := Lib.hid (on HB.out hb20)
  clear hb20
  go_wp2_with fail
  refine (h14.out _).mono ?_
  rintro e w21 ⟨rfl, hb21⟩
  replace HB := Lib.hid (on HB.out hb21)
  clear hb21
  go_wp2_with fail
  refine (h16.out _).mono ?_
  rintro e w' ⟨rfl, rfl⟩
  go_wp2_with fail
  refine (h17.out _).mono ?_
  rintro e w' ⟨rfl, rfl⟩
  go_wp2_with fail
  refine (lives_any _).mono ?_
  rintro e w22 ⟨rfl, hb22⟩
  replace HB := Lib.hid (on HB.out hb22)
  clear hb22
  go_wp2_with fail
  go_ret
  exact ⟨rfl, HB.out⟩
end Go.Proofs.Ytpcgocdepolgeaa.W13
