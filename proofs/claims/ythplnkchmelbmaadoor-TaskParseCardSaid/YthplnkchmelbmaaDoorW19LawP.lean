/-
  Layer 19 (task): the law TaskParse over the walks. The condition stands in the statement.
-/
import Derived.Test.YthplnkchmelbmaaDoorW19Lives
import Derived.Test.YthplnkchmelbmaaDoorW19RefParse
namespace Go.Proofs.YthplnkchmelbmaaDoor.W19
set_option maxRecDepth 100000
open Go Go.RowKit Go.Proofs.YthplnkchmelbmaaDoor.M19
open Go.Proofs.YthplnkchmelbmaaDoor.W09 (Tk)
open Go.Proofs.YthplnkchmelbmaaDoor.Kit (ret_str ret_bool ret_int mk_of mk_bytes ba_ext below_draws on)

set_option maxHeartbeats 1000000 in
theorem taskParse_long (s : ByteArray) (hl : 4000 < s.size) (w : World) (hv : Verbs w) : Calls Tryd.prog 4 #[.string s] w fun e w' => e = .returned (.bool true) ∧ Below w.heap.size w w' := by
  have HL := Lib.hid (lives_any w hv)
  have h2 : (4000 : Int) < s.size := by omega
  clear hl hv
  go_enter Tryd.func4, Tryd.ntmps4
  go_wp2_with fail
  refine (HL.out).mono ?_
  rintro e w1 ⟨rfl, hb⟩
  have B1 := Lib.hid hb
  clear hb
  go_wp2_with fail
  go_ret
  exact ⟨rfl, B1.out⟩
set_option maxHeartbeats 4000000 in
theorem taskParse_short (s : ByteArray) (hl : s.size ≤ 4000) (w : World) (hv : Verbs w) : Calls Tryd.prog 4 #[.string s] w fun e w' => e = .returned (.bool true) ∧ Below w.heap.size w w' := by
  obtain ⟨q, hq⟩ : ∃ q : ByteArray, q.data.toList = shield s.data.toList := ⟨⟨(shield _).toArray⟩, rfl⟩
  have hqs : q.size ≤ 12000 := by
    rw [Lib.size_eq, hq]
    have := shield_len s.data.toList
    rw [Lib.size_eq] at hl
    omega
  have HP := Lib.hid (fun (w : World) (hv : Verbs w) => parse_any s (by omega) w hv)
  have HR := Lib.hid (fun w => refParse_any s (by omega) w)
  have HB := Lib.hid (fun w => bare_any s (by omega) w)
  have HRB := Lib.hid (fun w => refBare_any s (by omega) w)
  have HS := Lib.hid (fun w => shield_any s q hq (by omega) w)
  have HRS := Lib.hid (fun w => refShield_any s q hq (by omega) w)
  have HQ : Hid (∀ w : World, Calls Tryd.prog 13 #[.string q] w fun e w' => e = .returned (.tuple #[.string s, .bool true]) ∧ Below w.heap.size w w') := fun w => (bare_any q (by omega) w).mono fun e w' h => by
    obtain ⟨d, o, rfl, hd, hb⟩ := h
    rw [hq] at hd
    obtain ⟨h1, rfl⟩ := wordOf_one hd (wordOf_shield s.data.toList)
    rw [ba_ext h1]
    exact ⟨rfl, hb⟩
  have HV := Lib.hid hv
  have HE := Lib.hid eq_task
  have h2 : ¬ (4000 : Int) < s.size := by omega
  have ts : (s.toList == s.toList) = true := by simp
  have tq : (q.toList == q.toList) = true := by simp
  clear hv hl hq hqs
  go_enter Tryd.func4, Tryd.ntmps4
  go_wp2_with fail
  refine (HP.out _ HV.out).mono ?_
  rintro e w1 ⟨k, p, t, er, rfl, ha, hb⟩
  have HA := Lib.hid ha
  have B1 := Lib.hid hb
  have V1 := Lib.hid (HV.out.on hb)
  clear ha hb HP HV
  obtain ⟨U1, hU1⟩ : ∃ U1, w1.alloc (.cells #[.int .i64 k, .string p, .string t] 23) = U1 := ⟨_, rfl⟩
  have TB := Lib.hid (hU1 ▸ box_new w1 k p t)
  have BU := Lib.hid (on B1.out (hU1 ▸ below_new w1 (.cells #[.int .i64 k, .string p, .string t] 23)))
  have VU := Lib.hid (V1.out.on (hU1 ▸ below_new w1 (.cells #[.int .i64 k, .string p, .string t] 23)))
  clear B1 V1
  unfold taskV
  go_wp2_with fail
  refine (HR.out _).mono ?_
  rintro e w2 ⟨k2, p2, t2, er2, rfl, ha, hb⟩
  obtain ⟨rfl, rfl, rfl, rfl⟩ := ans_known HA.out ha
  have B2 := Lib.hid (on BU.out hb)
  have T2 := Lib.hid (TB.out.below hb)
  have V2 := Lib.hid (VU.out.on hb)
  clear ha hb HR HA hU1 TB BU VU
  obtain ⟨U2, hU2⟩ : ∃ U2, w2.alloc (.cells #[.int .i64 k, .string p, .string t] 23) = U2 := ⟨_, rfl⟩
  have X3 := Lib.hid (hU2 ▸ box_new w2 k p t)
  have B3 := Lib.hid (on B2.out (hU2 ▸ below_new w2 (.cells #[.int .i64 k, .string p, .string t] 23)))
  have T3 := Lib.hid (T2.out.below (hU2 ▸ below_new w2 (.cells #[.int .i64 k, .string p, .string t] 23)))
  have V3 := Lib.hid (V2.out.on (hU2 ▸ below_new w2 (.cells #[.int .i64 k, .string p, .string t] 23)))
  clear B2 T2 V2
  unfold taskV
  go_wp2_with fail
  refine (HB.out _).mono ?_
  rintro e w4 ⟨b, o, rfl, ho, hb⟩
  have HO := Lib.hid ho
  have B4 := Lib.hid (on B3.out hb)
  have T4 := Lib.hid (T3.out.below hb)
  have X4 := Lib.hid (X3.out.below hb)
  have V4 := Lib.hid (V3.out.on hb)
  clear ho hb hU2 B3 T3 X3 V3 HB
  go_wp2_with fail
  refine (HRB.out _).mono ?_
  rintro e w5 ⟨b2, o2, rfl, ho, hb⟩
  obtain ⟨e1, rfl⟩ := wordOf_one HO.out ho
  obtain rfl := ba_ext e1
  have B5 := Lib.hid (on B4.out hb)
  have T5 := Lib.hid (T4.out.below hb)
  have X5 := Lib.hid (X4.out.below hb)
  have V5 := Lib.hid (V4.out.on hb)
  clear ho hb B4 T4 X4 V4 HRB HO e1
  go_wp2_with fail
  refine (HS.out _).mono ?_
  rintro e w6 ⟨rfl, hb⟩
  have B6 := Lib.hid (on B5.out hb)
  have T6 := Lib.hid (T5.out.below hb)
  have X6 := Lib.hid (X5.out.below hb)
  have V6 := Lib.hid (V5.out.on hb)
  clear hb B5 T5 X5 V5
  go_wp2_with fail
  refine (HQ.out _).mono ?_
  rintro e w7 ⟨rfl, hb⟩
  have B7 := Lib.hid (on B6.out hb)
  have T7 := Lib.hid (T6.out.below hb)
  have X7 := Lib.hid (X6.out.below hb)
  have V7 := Lib.hid (V6.out.on hb)
  clear hb B6 T6 X6 V6 HQ
  have c0 := T7.out.c0
  have c1 := T7.out.c1
  have c2 := T7.out.c2
  have d0 := X7.out.c0
  have d1 := X7.out.c1
  have d2 := X7.out.c2
  have he := HE.out k p t
  have tb : (b.toList == b.toList) = true := by simp
  go_wp2_with fail
  refine (HS.out _).mono ?_
  rintro e w8 ⟨rfl, hb⟩
  have B8 := Lib.hid (on B7.out hb)
  have V8 := Lib.hid (V7.out.on hb)
  clear hb B7 V7 c0 c1 c2 d0 d1 d2 T7 X7
  go_wp2_with fail
  refine (HRS.out _).mono ?_
  rintro e w9 ⟨rfl, hb⟩
  have B9 := Lib.hid (on B8.out hb)
  have HL := Lib.hid (lives_any w9 (V8.out.on hb))
  clear hb B8 V8
  go_wp2_with fail
  refine (HL.out).mono ?_
  rintro e w10 ⟨rfl, hb⟩
  have B10 := Lib.hid (on B9.out hb)
  clear hb
  go_wp2_with fail
  go_ret
  exact ⟨rfl, B10.out⟩
theorem taskParse_law (s : ByteArray) (_hs : s.size ≤ 140737488351232) (w : World) (hv : Verbs w) : Calls Tryd.prog 4 #[.string s] w fun e w' => e = .returned (.bool true) ∧ Below w.heap.size w w' := by
  by_cases hl : 4000 < s.size
  · exact taskParse_long s hl w hv
  · exact taskParse_short s (by omega) w hv
end Go.Proofs.YthplnkchmelbmaaDoor.W19
