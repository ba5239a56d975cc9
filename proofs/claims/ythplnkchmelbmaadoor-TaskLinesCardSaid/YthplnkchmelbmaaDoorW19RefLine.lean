/-
  Layer 19 (task), a walk: the document's Line. The conditions stand in the statement.
-/
import Derived.Test.YthplnkchmelbmaaDoorW19Line
namespace Go.Proofs.YthplnkchmelbmaaDoor.W19
set_option maxRecDepth 100000
open Go Go.RowKit Go.Proofs.YthplnkchmelbmaaDoor.M19
open Go.Proofs.YthplnkchmelbmaaDoor.Kit (ret_str ret_bool ret_int mk_of mk_bytes ba_ext below_draws on cat_bytes)

set_option maxHeartbeats 4000000 in
theorem refLine_any (k : Int) (p t q : ByteArray) (hp : p.size ≤ 2147483648) (ht : t.size ≤ 2147483648) (hq : q.data.toList = raw ⟨k, p.data.toList, t.data.toList⟩) (w : World) : Calls Tryd.prog 11 #[taskV k p t] w fun e w' => e = .returned (.string q) ∧ Below w.heap.size w w' := by
  obtain ⟨v, hvv⟩ : ∃ v : ByteArray, v.data.toList = verb k := ⟨⟨(verb k).toArray⟩, rfl⟩
  obtain ⟨a, ha⟩ : ∃ a : ByteArray, a.data.toList = shield p.data.toList := ⟨⟨(shield p.data.toList).toArray⟩, rfl⟩
  obtain ⟨b, hbb⟩ : ∃ b : ByteArray, b.data.toList = shield t.data.toList := ⟨⟨(shield t.data.toList).toArray⟩, rfl⟩
  have HVB := Lib.hid (fun w => verb_any k v hvv w)
  have HSA := Lib.hid (fun w => refShield_any p a ha (by omega) w)
  have HSB := Lib.hid (fun w => refShield_any t b hbb (by omega) w)
  have s1 := verb_size hvv
  have s2 := text_size ha
  have s3 := text_size hbb
  have s4 := one_blank
  have hr1 : ∀ w : World, (Op.stringOp .add v ⟨#[32]⟩).run Tryd.prog w = .ok (.string (v ++ ⟨#[32]⟩)) w := fun w => run_string_add_sum w _ _ (by rw [s4]; omega)
  have s5 : (v ++ (⟨#[32]⟩ : ByteArray)).size = v.size + 1 := by rw [ByteArray.size_append, s4]
  have hr2 : ∀ w : World, (Op.stringOp .add (v ++ ⟨#[32]⟩) a).run Tryd.prog w = .ok (.string (v ++ ⟨#[32]⟩ ++ a)) w := fun w => run_string_add_sum w _ _ (by rw [s5]; omega)
  have s6 : (v ++ (⟨#[32]⟩ : ByteArray) ++ a).size = v.size + 1 + a.size := by rw [ByteArray.size_append, s5]
  have s7 : ((⟨#[32]⟩ : ByteArray) ++ b).size = 1 + b.size := by rw [ByteArray.size_append, s4]
  obtain ⟨U, hU⟩ : ∃ U, w.alloc (.cells #[.int .i64 k, .string p, .string t] 23) = U := ⟨_, rfl⟩
  have TB := Lib.hid (hU ▸ box_new w k p t)
  have HBU := Lib.hid (hU ▸ below_new w (.cells #[.int .i64 k, .string p, .string t] 23))
  have c0 := TB.out.c0
  have c1 := TB.out.c1
  have hlt := TB.out.lt
  have HXN : Hid (has k = false → v ++ (⟨#[32]⟩ : ByteArray) ++ a = q) := fun h => text_not h hvv ha hq
  have HXH : Hid (has k = true → v ++ (⟨#[32]⟩ : ByteArray) ++ a ++ ((⟨#[32]⟩ : ByteArray) ++ b) = q) := fun h => text_has h hvv ha hbb hq
  have BD : Hid (Below U.heap.size U U.drew) := below_draws U 1
  unfold taskV
  clear hvv ha hbb hq
  go_enter Tryd.func11, Tryd.ntmps11
  go_wp2_with fail
  clear hU
  go_region_held3 (fun w' => w'.cell? ⟨w.heap.size, 0, none⟩ = some (.int .i64 k) ∧ w'.cell? ⟨w.heap.size, 1, none⟩ = some (.string p) ∧ Below U.heap.size U w')
    (first
      | exact ⟨(B2.cell hlt).trans c0, (B2.cell hlt).trans c1, B2⟩
      | exact ⟨c0, c1, BD.out⟩)
    (first
      | (go_at_call 26; refine (HVB.out _).mono ?_; rintro e w3 ⟨rfl, rfl⟩)
      | (go_at_call 16; refine (HSA.out _).mono ?_; rintro e w2 ⟨rfl, hb2⟩; have B2 := on BD.out hb2))
  all_goals (
    have T2 := Lib.hid (TB.out.below B2)
    have B3 := Lib.hid (on HBU.out B2)
    have d0 := T2.out.c0
    have d2 := T2.out.c2
    rename_i hHd
    clear B2 c0 c1 hHd BD hr1 hr2 TB HBU hlt
    by_cases h3 : k = 3
    · subst h3
      have HX := Lib.hid (HXH.out rfl)
      clear HXN HXH
      go_wp2_with fail
      refine (HSB.out _).mono ?_
      rintro e w4 ⟨rfl, hb⟩
      have B4 := Lib.hid (on B3.out hb)
      clear hb
      go_wp2_with fail
      go_ret
      exact ⟨ret_str HX.out, B4.out⟩
    by_cases h5 : k = 5
    · subst h5
      have HX := Lib.hid (HXH.out rfl)
      clear HXN HXH h3
      go_wp2_with fail
      refine (HSB.out _).mono ?_
      rintro e w4 ⟨rfl, hb⟩
      have B4 := Lib.hid (on B3.out hb)
      clear hb
      go_wp2_with fail
      go_ret
      exact ⟨ret_str HX.out, B4.out⟩
    by_cases h6 : k = 6
    · subst h6
      have HX := Lib.hid (HXH.out rfl)
      clear HXN HXH h3 h5
      go_wp2_with fail
      refine (HSB.out _).mono ?_
      rintro e w4 ⟨rfl, hb⟩
      have B4 := Lib.hid (on B3.out hb)
      clear hb
      go_wp2_with fail
      go_ret
      exact ⟨ret_str HX.out, B4.out⟩
    have t3 : (k == 3) = false := by simp [h3]
    have t5 : (k == 5) = false := by simp [h5]
    have t6 : (k == 6) = false := by simp [h6]
    have HX := Lib.hid (HXN.out (by unfold has; rw [t3, t5, t6]; rfl))
    clear HXN HXH h3 h5 h6
    go_wp2_with fail
    go_ret
    exact ⟨ret_str HX.out, B3.out⟩)
end Go.Proofs.YthplnkchmelbmaaDoor.W19
