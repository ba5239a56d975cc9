/-
  Layer 19 (task), walks: Line of the program, and the document's Line. The conditions stand in the statements.
-/
import Derived.Test.YthplnkchmelbmaaDoorW19Task
import Derived.Test.YthplnkchmelbmaaDoorW19RefShield
import Derived.Deep.RegionHeld3
import Derived.Laws.Concat
namespace Go.Proofs.YthplnkchmelbmaaDoor.W19
set_option maxRecDepth 100000
open Go Go.RowKit Go.Proofs.YthplnkchmelbmaaDoor.M19
open Go.Proofs.YthplnkchmelbmaaDoor.W09 (Tk)
open Go.Proofs.YthplnkchmelbmaaDoor.Kit (ret_str ret_bool ret_int mk_of mk_bytes ba_ext below_draws on cat_bytes)

section
variable {k : Int} {p t v a b q : ByteArray}
theorem text_not (hn : has k = false) (hv : v.data.toList = verb k) (ha : a.data.toList = shield p.data.toList) (hq : q.data.toList = raw ⟨k, p.data.toList, t.data.toList⟩) : v ++ (⟨#[32]⟩ : ByteArray) ++ a = q :=
  ba_ext (by rw [hq, raw_not hn, cat_bytes, cat_bytes, hv, ha, List.append_assoc]; rfl)
theorem text_has (hn : has k = true) (hv : v.data.toList = verb k) (ha : a.data.toList = shield p.data.toList) (hb : b.data.toList = shield t.data.toList) (hq : q.data.toList = raw ⟨k, p.data.toList, t.data.toList⟩) : v ++ (⟨#[32]⟩ : ByteArray) ++ a ++ ((⟨#[32]⟩ : ByteArray) ++ b) = q :=
  ba_ext (by rw [hq, raw_has hn, cat_bytes, cat_bytes, cat_bytes, cat_bytes, hv, ha, hb, List.append_assoc, List.append_assoc]; rfl)
theorem text_size (ha : a.data.toList = shield p.data.toList) : a.size ≤ 3 * p.size := by rw [Lib.size_eq, Lib.size_eq, ha]; exact shield_len _
theorem verb_size (hv : v.data.toList = verb k) : v.size ≤ 6 := by
  rw [Lib.size_eq, hv]
  unfold verb
  split <;> try (simp; done)
  split <;> try (simp; done)
  split <;> try (simp; done)
  split <;> try (simp; done)
  split <;> simp
theorem wrap_i64 {z : Int} (h1 : 0 ≤ z) (h2 : z < 9223372036854775808) : IntKind.i64.wrap z = z := by
  unfold IntKind.wrap
  have e : (z % (2 ^ IntKind.i64.bits : Int)) = z := by
    show z % (2 ^ 64 : Int) = z
    omega
  simp only [e]
  rw [if_neg]
  simp only [Bool.and_eq_true, decide_eq_true_eq, not_and]
  intro _
  show ¬ z ≥ (2 ^ 63 : Int)
  omega
theorem one_blank : (⟨#[32]⟩ : ByteArray).size = 1 := rfl
end
set_option maxHeartbeats 1000000 in
theorem line_no (k : Int) (p t : ByteArray) (hp : p.size ≤ 2147483648) (ht : t.size ≤ 2147483648) (hr : right ⟨k, p.data.toList, t.data.toList⟩ = false) (w : World) : Calls Tryd.prog 7 #[taskV k p t] w fun e w' => e = .returned (.tuple #[.string ⟨#[]⟩, .int .i64 2]) ∧ Below w.heap.size w w' := by
  have HR := Lib.hid (fun w => right_any k p t hp ht w)
  rw [hr] at HR
  obtain ⟨U, hU⟩ : ∃ U, w.alloc (.cells #[.int .i64 k, .string p, .string t] 23) = U := ⟨_, rfl⟩
  have TB := Lib.hid (hU ▸ box_new w k p t)
  have HBU := Lib.hid (hU ▸ below_new w (.cells #[.int .i64 k, .string p, .string t] 23))
  have c0 := TB.out.c0
  have c1 := TB.out.c1
  have c2 := TB.out.c2
  unfold taskV at HR ⊢
  clear hr
  go_enter Tryd.func7, Tryd.ntmps7
  go_wp2_with fail
  refine (HR.out _).mono ?_
  rintro e w1 ⟨rfl, hb⟩
  have B1 := Lib.hid (on HBU.out hb)
  clear hb
  go_wp2_with fail
  go_ret2
  exact ⟨rfl, B1.out⟩
set_option maxHeartbeats 4000000 in
theorem line_yes (j : Nat) (hj : j < 6) (p t q : ByteArray) (hp : p.size ≤ 2147483648) (ht : t.size ≤ 2147483648) (hr : right ⟨(j : Int) + 1, p.data.toList, t.data.toList⟩ = true) (hq : q.data.toList = raw ⟨(j : Int) + 1, p.data.toList, t.data.toList⟩) (w : World) (hv : Verbs w) : Calls Tryd.prog 7 #[taskV ((j : Int) + 1) p t] w fun e w' => e = .returned (.tuple #[.string q, .int .i64 0]) ∧ Below w.heap.size w w' := by
  have HR := Lib.hid (fun w => right_any ((j : Int) + 1) p t hp ht w)
  rw [hr] at HR
  have HH := Lib.hid (fun w => has_any ((j : Int) + 1) w)
  obtain ⟨v, hvv⟩ : ∃ v : ByteArray, v.data.toList = verb ((j : Int) + 1) := ⟨⟨(verb ((j : Int) + 1)).toArray⟩, rfl⟩
  obtain ⟨a, ha⟩ : ∃ a : ByteArray, a.data.toList = shield p.data.toList := ⟨⟨(shield p.data.toList).toArray⟩, rfl⟩
  obtain ⟨b, hbb⟩ : ∃ b : ByteArray, b.data.toList = shield t.data.toList := ⟨⟨(shield t.data.toList).toArray⟩, rfl⟩
  have HSA := Lib.hid (fun w => shield_any p a ha (by omega) w)
  have HSB := Lib.hid (fun w => shield_any t b hbb (by omega) w)
  have s1 := verb_size hvv
  have s2 := text_size ha
  have s3 := text_size hbb
  have s4 := one_blank
  obtain ⟨U, hU⟩ : ∃ U, w.alloc (.cells #[.int .i64 ((j : Int) + 1), .string p, .string t] 23) = U := ⟨_, rfl⟩
  have TB := Lib.hid (hU ▸ box_new w ((j : Int) + 1) p t)
  have HBU := Lib.hid (hU ▸ below_new w (.cells #[.int .i64 ((j : Int) + 1), .string p, .string t] 23))
  have HVU := Lib.hid (hv.on HBU.out)
  have c0 := TB.out.c0
  have c1 := TB.out.c1
  have c2 := TB.out.c2
  have hr1 : ∀ w : World, (Op.stringOp .add v ⟨#[32]⟩).run Tryd.prog w = .ok (.string (v ++ ⟨#[32]⟩)) w := fun w => run_string_add_sum w _ _ (by rw [s4]; omega)
  have s5 : (v ++ (⟨#[32]⟩ : ByteArray)).size = v.size + 1 := by rw [ByteArray.size_append, s4]
  have hr2 : ∀ w : World, (Op.stringOp .add (v ++ ⟨#[32]⟩) a).run Tryd.prog w = .ok (.string (v ++ ⟨#[32]⟩ ++ a)) w := fun w => run_string_add_sum w _ _ (by rw [s5]; omega)
  have HXN : Hid (has ((j : Int) + 1) = false → v ++ (⟨#[32]⟩ : ByteArray) ++ a = q) := fun h => text_not h hvv ha hq
  have HXH : Hid (has ((j : Int) + 1) = true → v ++ (⟨#[32]⟩ : ByteArray) ++ a ++ ((⟨#[32]⟩ : ByteArray) ++ b) = q) := fun h => text_has h hvv ha hbb hq
  have HVV := Lib.hid hvv
  unfold taskV at HR ⊢
  clear hr hvv ha hbb hq hv
  go_enter Tryd.func7, Tryd.ntmps7
  go_wp2_with fail
  refine (HR.out _).mono ?_
  rintro e w1 ⟨rfl, hb⟩
  have B1 := Lib.hid (on HBU.out hb)
  have T1 := Lib.hid (TB.out.below hb)
  have V1 := Lib.hid (HVU.out.on hb)
  have cv := V1.out.cell hj HVV.out
  clear hb c0 c1 c2 hU
  have c0 := T1.out.c0
  have c1 := T1.out.c1
  have hj2 : (j : Int) < 6 := by omega
  have hwj : IntKind.i64.wrap (j : Int) = (j : Int) := wrap_i64 (by omega) (by omega)
  have hlt := T1.out.lt
  have hlv := cell_in cv
  have BD : Hid (Below w1.heap.size w1 w1.drew) := below_draws w1 1
  go_wp2_with fail
  go_region_held3 (fun w' => w'.cell? ⟨w.heap.size, 0, none⟩ = some (.int .i64 ((j : Int) + 1)) ∧ w'.cell? ⟨w.heap.size, 1, none⟩ = some (.string p) ∧ w'.cell? ⟨0, j, none⟩ = some (.string v) ∧ Below w1.heap.size w1 w')
    (first
      | exact ⟨(B2.cell hlt).trans c0, (B2.cell hlt).trans c1, (B2.cell hlv).trans cv, B2⟩
      | exact ⟨c0, c1, cv, BD.out⟩)
    (first
      | (go_at_call 15; refine (HSA.out _).mono ?_; rintro e w2 ⟨rfl, hb2⟩; have B2 := on BD.out hb2))
  all_goals (
    have T2 := Lib.hid (T1.out.below B2)
    have B3 := Lib.hid (on B1.out B2)
    have d0 := T2.out.c0
    have d2 := T2.out.c2
    have s6 : (v ++ (⟨#[32]⟩ : ByteArray) ++ a).size = v.size + 1 + a.size := by rw [ByteArray.size_append, s5]
    have s7 : ((⟨#[32]⟩ : ByteArray) ++ b).size = 1 + b.size := by rw [ByteArray.size_append, s4]
    rename_i hHd
    clear B2 c0 c1 cv hHd BD hr1 hr2 T1 B1 V1 HVU HBU hwj
    cases hh : has ((j : Int) + 1) with
    | false =>
      have HX := Lib.hid (HXN.out hh)
      rw [hh] at HH
      clear hh HXN HXH
      go_wp2_with fail
      refine (HH.out _).mono ?_
      rintro e w3 ⟨rfl, rfl⟩
      go_wp2_with fail
      go_ret2
      exact ⟨by rw [HX.out]; rfl, B3.out⟩
    | true =>
      have HX := Lib.hid (HXH.out hh)
      rw [hh] at HH
      clear hh HXN HXH
      go_wp2_with fail
      refine (HH.out _).mono ?_
      rintro e w3 ⟨rfl, rfl⟩
      go_wp2_with fail
      refine (HSB.out _).mono ?_
      rintro e w4 ⟨rfl, hb⟩
      have B4 := Lib.hid (on B3.out hb)
      clear hb
      go_wp2_with fail
      go_ret2
      exact ⟨by rw [HX.out]; rfl, B4.out⟩)
theorem line_ok (k : Int) (p t q : ByteArray) (hp : p.size ≤ 2147483648) (ht : t.size ≤ 2147483648) (hr : right ⟨k, p.data.toList, t.data.toList⟩ = true) (hq : q.data.toList = raw ⟨k, p.data.toList, t.data.toList⟩) (w : World) (hv : Verbs w) : Calls Tryd.prog 7 #[taskV k p t] w fun e w' => e = .returned (.tuple #[.string q, .int .i64 0]) ∧ Below w.heap.size w w' := by
  have h1 : 1 ≤ k := (right_fits hr).1.1
  have h2 : k ≤ 6 := (right_fits hr).1.2
  have e : k = (((k - 1).toNat : Nat) : Int) + 1 := by omega
  have hj : (k - 1).toNat < 6 := by omega
  generalize (k - 1).toNat = j at e hj
  subst e
  exact line_yes j hj p t q hp ht hr hq w hv
end Go.Proofs.YthplnkchmelbmaaDoor.W19
