/-
  Layer 19 (task): the law TaskLines over the walks. The condition stands in the statement.
-/
import Derived.Test.YthplnkchmelbmaaDoorW19Lives
import Derived.Test.YthplnkchmelbmaaDoorW19Line
import Derived.Test.YthplnkchmelbmaaDoorW19RefLine
namespace Go.Proofs.YthplnkchmelbmaaDoor.W19
set_option maxRecDepth 100000
open Go Go.RowKit Go.Proofs.YthplnkchmelbmaaDoor.M19
open Go.Proofs.YthplnkchmelbmaaDoor.W09 (Tk)
open Go.Proofs.YthplnkchmelbmaaDoor.W04 (eq_bytes ne_bytes)
open Go.Proofs.YthplnkchmelbmaaDoor.Kit (ret_str ret_bool ret_int mk_of mk_bytes ba_ext below_draws on)

set_option maxHeartbeats 1000000 in
theorem taskLines_long (k : Int) (p t : ByteArray) (hl : 2000 < p.size ∨ 2000 < t.size) (w : World) (hv : Verbs w) : Calls Tryd.prog 3 #[taskV k p t] w fun e w' => e = .returned (.bool true) ∧ Below w.heap.size w w' := by
  obtain ⟨U, hU⟩ : ∃ U, w.alloc (.cells #[.int .i64 k, .string p, .string t] 23) = U := ⟨_, rfl⟩
  have TB := Lib.hid (hU ▸ box_new w k p t)
  have HBU := Lib.hid (hU ▸ below_new w (.cells #[.int .i64 k, .string p, .string t] 23))
  have HL := Lib.hid (lives_any U (hv.on HBU.out))
  have c1 := TB.out.c1
  have c2 := TB.out.c2
  unfold taskV
  clear hv
  by_cases h1 : 2000 < p.size
  · have h2 : (2000 : Int) < p.size := by omega
    clear hl h1
    go_enter Tryd.func3, Tryd.ntmps3
    go_wp2_with fail
    refine (HL.out).mono ?_
    rintro e w1 ⟨rfl, hb⟩
    have B1 := Lib.hid (on HBU.out hb)
    clear hb
    go_wp2_with fail
    go_ret
    exact ⟨rfl, B1.out⟩
  · have h2 : ¬ (2000 : Int) < p.size := by omega
    have h3 : (2000 : Int) < t.size := by omega
    clear hl h1
    go_enter Tryd.func3, Tryd.ntmps3
    go_wp2_with fail
    refine (HL.out).mono ?_
    rintro e w1 ⟨rfl, hb⟩
    have B1 := Lib.hid (on HBU.out hb)
    clear hb
    go_wp2_with fail
    go_ret
    exact ⟨rfl, B1.out⟩
set_option maxHeartbeats 4000000 in
theorem taskLines_no (k : Int) (p t : ByteArray) (hp : p.size ≤ 2000) (ht : t.size ≤ 2000) (hr : right ⟨k, p.data.toList, t.data.toList⟩ = false) (w : World) (hv : Verbs w) : Calls Tryd.prog 3 #[taskV k p t] w fun e w' => e = .returned (.bool true) ∧ Below w.heap.size w w' := by
  obtain ⟨U, hU⟩ : ∃ U, w.alloc (.cells #[.int .i64 k, .string p, .string t] 23) = U := ⟨_, rfl⟩
  have TB := Lib.hid (hU ▸ box_new w k p t)
  have HBU := Lib.hid (hU ▸ below_new w (.cells #[.int .i64 k, .string p, .string t] 23))
  have VU := Lib.hid (hv.on HBU.out)
  have HN := Lib.hid (fun w => line_no k p t (by omega) (by omega) hr w)
  have HR := Lib.hid (fun w => right_any k p t (by omega) (by omega) w)
  have HF := Lib.hid (fun w => refRight_any k p t (by omega) (by omega) w)
  rw [hr] at HR HF
  have c0 := TB.out.c0
  have c1 := TB.out.c1
  have c2 := TB.out.c2
  have h2 : ¬ (2000 : Int) < p.size := by omega
  have h3 : ¬ (2000 : Int) < t.size := by omega
  unfold taskV at HN HR HF ⊢
  clear hv hr hp ht
  go_enter Tryd.func3, Tryd.ntmps3
  go_wp2_with fail
  refine (HN.out _).mono ?_
  rintro e w1 ⟨rfl, hb⟩
  have B1 := Lib.hid (on HBU.out hb)
  have T1 := Lib.hid (TB.out.below hb)
  have V1 := Lib.hid (VU.out.on hb)
  clear hb TB HBU VU hU c0 c1 c2 HN
  have c0 := T1.out.c0
  have c1 := T1.out.c1
  have c2 := T1.out.c2
  have hlt := T1.out.lt
  have BD : Hid (Below w1.heap.size w1 w1.drew) := below_draws w1 1
  go_wp2_with fail
  go_region_held3 (fun w' => w'.cell? ⟨w.heap.size, 0, none⟩ = some (.int .i64 k) ∧ w'.cell? ⟨w.heap.size, 1, none⟩ = some (.string p) ∧ w'.cell? ⟨w.heap.size, 2, none⟩ = some (.string t) ∧ Below w1.heap.size w1 w')
    (first
      | exact ⟨(B3.cell hlt).trans c0, (B3.cell hlt).trans c1, (B3.cell hlt).trans c2, B3⟩
      | exact ⟨(B2.cell hlt).trans c0, (B2.cell hlt).trans c1, (B2.cell hlt).trans c2, B2⟩
      | exact ⟨c0, c1, c2, BD.out⟩)
    (first
      | (go_at_call 8; first | (refine (HR.out w2).mono ?_; rintro e w3 ⟨rfl, hb3⟩; have B3 := on B2 hb3) | (refine (HR.out _).mono ?_; rintro e w2 ⟨rfl, hb2⟩; have B2 := on BD.out hb2))
      | (go_at_call 9; first | (refine (HF.out w2).mono ?_; rintro e w3 ⟨rfl, hb3⟩; have B3 := on B2 hb3) | (refine (HF.out _).mono ?_; rintro e w2 ⟨rfl, hb2⟩; have B2 := on BD.out hb2)))
  all_goals (
    have B4 := Lib.hid (on B1.out B3)
    have T4 := Lib.hid (T1.out.below B3)
    have V4 := Lib.hid (V1.out.on B3)
    rename_i hHd
    clear B2 B3 hb2 hb3 hHd c0 c1 c2 hlt BD T1 V1 B1 HR
    have c0 := T4.out.c0
    have c1 := T4.out.c1
    have c2 := T4.out.c2
    go_wp2_with fail
    refine (HF.out _).mono ?_
    rintro e w5 ⟨rfl, hb⟩
    have B5 := Lib.hid (on B4.out hb)
    have HL := Lib.hid (lives_any w5 (V4.out.on hb))
    clear hb B4 T4 V4 HF c0 c1 c2
    go_wp2_with fail
    refine (HL.out).mono ?_
    rintro e w6 ⟨rfl, hb⟩
    have B6 := Lib.hid (on B5.out hb)
    clear hb
    go_wp2_with fail
    go_ret
    exact ⟨rfl, B6.out⟩)
set_option maxHeartbeats 4000000 in
theorem taskLines_yes (k : Int) (p t : ByteArray) (hp : p.size ≤ 2000) (ht : t.size ≤ 2000) (hr : right ⟨k, p.data.toList, t.data.toList⟩ = true) (w : World) (hv : Verbs w) : Calls Tryd.prog 3 #[taskV k p t] w fun e w' => e = .returned (.bool true) ∧ Below w.heap.size w w' := by
  obtain ⟨U, hU⟩ : ∃ U, w.alloc (.cells #[.int .i64 k, .string p, .string t] 23) = U := ⟨_, rfl⟩
  have TB := Lib.hid (hU ▸ box_new w k p t)
  have HBU := Lib.hid (hU ▸ below_new w (.cells #[.int .i64 k, .string p, .string t] 23))
  have VU := Lib.hid (hv.on HBU.out)
  obtain ⟨q, hq⟩ : ∃ q : ByteArray, q.data.toList = raw ⟨k, p.data.toList, t.data.toList⟩ := ⟨⟨(raw _).toArray⟩, rfl⟩
  have hqs : q.size ≤ 2147483648 := by
    rw [Lib.size_eq, hq]
    have := raw_len ⟨k, p.data.toList, t.data.toList⟩
    rw [Lib.size_eq] at hp ht
    dsimp only at this
    omega
  have HN := Lib.hid (line_ok k p t q (by omega) (by omega) hr hq U VU.out)
  have HR := Lib.hid (fun w => right_any k p t (by omega) (by omega) w)
  have HF := Lib.hid (fun w => refRight_any k p t (by omega) (by omega) w)
  have HG := Lib.hid (fun w => refLine_any k p t q (by omega) (by omega) hq w)
  have HP : Hid (∀ w : World, Verbs w → Calls Tryd.prog 10 #[.string q] w fun e w' => e = .returned (.tuple #[taskV k p t, .int .i64 0]) ∧ Below w.heap.size w w') := fun w hv => (parse_any q hqs w hv).mono fun e w' h => by
    obtain ⟨k', p', t', er, rfl, ha, hb⟩ := h
    rw [hq] at ha
    obtain ⟨rfl, rfl, rfl, rfl⟩ := ans_known ha (ans_raw hr)
    exact ⟨rfl, hb⟩
  have HE := Lib.hid (eq_task k p t)
  rw [hr] at HR HF
  have c0 := TB.out.c0
  have c1 := TB.out.c1
  have c2 := TB.out.c2
  have h2 : ¬ (2000 : Int) < p.size := by omega
  have h3 : ¬ (2000 : Int) < t.size := by omega
  have tq : (q.toList == q.toList) = true := by simp
  unfold taskV at HN HR HF HG HP ⊢
  clear hv hr hp ht hq hqs
  go_enter Tryd.func3, Tryd.ntmps3
  go_wp2_with fail
  refine (HN.out).mono ?_
  rintro e w1 ⟨rfl, hb⟩
  have B1 := Lib.hid (on HBU.out hb)
  have T1 := Lib.hid (TB.out.below hb)
  have V1 := Lib.hid (VU.out.on hb)
  clear hb TB HBU VU hU c0 c1 c2 HN
  have c0 := T1.out.c0
  have c1 := T1.out.c1
  have c2 := T1.out.c2
  have hlt := T1.out.lt
  have BD : Hid (Below w1.heap.size w1 w1.drew) := below_draws w1 1
  go_wp2_with fail
  go_region_held3 (fun w' => w'.cell? ⟨w.heap.size, 0, none⟩ = some (.int .i64 k) ∧ w'.cell? ⟨w.heap.size, 1, none⟩ = some (.string p) ∧ w'.cell? ⟨w.heap.size, 2, none⟩ = some (.string t) ∧ Below w1.heap.size w1 w')
    (first
      | exact ⟨(B3.cell hlt).trans c0, (B3.cell hlt).trans c1, (B3.cell hlt).trans c2, B3⟩
      | exact ⟨(B2.cell hlt).trans c0, (B2.cell hlt).trans c1, (B2.cell hlt).trans c2, B2⟩
      | exact ⟨c0, c1, c2, BD.out⟩)
    (first
      | (go_at_call 8; first | (refine (HR.out w2).mono ?_; rintro e w3 ⟨rfl, hb3⟩; have B3 := on B2 hb3) | (refine (HR.out _).mono ?_; rintro e w2 ⟨rfl, hb2⟩; have B2 := on BD.out hb2))
      | (go_at_call 9; first | (refine (HF.out w2).mono ?_; rintro e w3 ⟨rfl, hb3⟩; have B3 := on B2 hb3) | (refine (HF.out _).mono ?_; rintro e w2 ⟨rfl, hb2⟩; have B2 := on BD.out hb2)))
  all_goals (
    have B4 := Lib.hid (on B1.out B3)
    have T4 := Lib.hid (T1.out.below B3)
    have V4 := Lib.hid (V1.out.on B3)
    rename_i hHd
    clear B2 B3 hb2 hb3 hHd c0 c1 c2 hlt BD T1 V1 B1 HR
    have c0 := T4.out.c0
    have c1 := T4.out.c1
    have c2 := T4.out.c2
    go_wp2_with fail
    refine (HF.out _).mono ?_
    rintro e w5 ⟨rfl, hb⟩
    have B5 := Lib.hid (on B4.out hb)
    have T5 := Lib.hid (T4.out.below hb)
    have V5 := Lib.hid (V4.out.on hb)
    clear hb B4 T4 V4 HF c0 c1 c2
    go_wp2_with fail
    refine (HP.out _ V5.out).mono ?_
    rintro e w6 ⟨rfl, hb⟩
    have B6 := Lib.hid (on B5.out hb)
    have T6 := Lib.hid (T5.out.below hb)
    have V6 := Lib.hid (V5.out.on hb)
    clear hb B5 T5 V5 HP
    obtain ⟨V, hV⟩ : ∃ V, w6.alloc (.cells #[.int .i64 k, .string p, .string t] 23) = V := ⟨_, rfl⟩
    have TV := Lib.hid (hV ▸ box_new w6 k p t)
    have BV := Lib.hid (on B6.out (hV ▸ below_new w6 (.cells #[.int .i64 k, .string p, .string t] 23)))
    have T7 := Lib.hid (T6.out.below (hV ▸ below_new w6 (.cells #[.int .i64 k, .string p, .string t] 23)))
    have V7 := Lib.hid (V6.out.on (hV ▸ below_new w6 (.cells #[.int .i64 k, .string p, .string t] 23)))
    clear B6 T6 V6
    have c0 := T7.out.c0
    have c1 := T7.out.c1
    have c2 := T7.out.c2
    go_wp2_with fail
    refine (HG.out _).mono ?_
    rintro e w8 ⟨rfl, hb⟩
    have B8 := Lib.hid (on BV.out hb)
    have T8 := Lib.hid (T7.out.below hb)
    have X8 := Lib.hid (TV.out.below hb)
    have HL := Lib.hid (lives_any w8 (V7.out.on hb))
    clear hb BV T7 V7 TV hV c0 c1 c2 HG
    have c0 := T8.out.c0
    have c1 := T8.out.c1
    have c2 := T8.out.c2
    have d0 := X8.out.c0
    have d1 := X8.out.c1
    have d2 := X8.out.c2
    have he := HE.out
    go_wp2_with fail
    refine (HL.out).mono ?_
    rintro e w9 ⟨rfl, hb⟩
    have B9 := Lib.hid (on B8.out hb)
    clear hb
    go_wp2_with fail
    go_ret
    exact ⟨rfl, B9.out⟩)
theorem taskLines_law (k : Int) (p t : ByteArray) (w : World) (hv : Verbs w) : Calls Tryd.prog 3 #[.agg #[.int .i64 k, .string p, .string t]] w fun e w' => e = .returned (.bool true) ∧ Below w.heap.size w w' := by
  by_cases hl : 2000 < p.size ∨ 2000 < t.size
  · exact taskLines_long k p t hl w hv
  · cases hr : right ⟨k, p.data.toList, t.data.toList⟩ with
    | false => exact taskLines_no k p t (by omega) (by omega) hr w hv
    | true => exact taskLines_yes k p t (by omega) (by omega) hr w hv
end Go.Proofs.YthplnkchmelbmaaDoor.W19
