/-
  Layer 19 (task), the law's lives: a line is a task. The condition stands in the statement.
-/
import Derived.Test.YthplnkchmelbmaaDoorW19Parse
import Derived.Laws.StructEq
namespace Go.Proofs.YthplnkchmelbmaaDoor.W19
set_option maxRecDepth 100000
open Go Go.RowKit Go.Proofs.YthplnkchmelbmaaDoor.M19
open Go.Proofs.YthplnkchmelbmaaDoor.W09 (Tk)
open Go.Proofs.YthplnkchmelbmaaDoor.Kit (ret_str ret_bool ret_int mk_of mk_bytes ba_ext below_draws on)

theorem eq_agg (k : Int) (p t : ByteArray) (w : World) : (Op.equalIn 10000 23 (.agg #[.int .i64 k, .string p, .string t]) (.agg #[.int .i64 k, .string p, .string t])).run Tryd.prog w = .ok true w := by
  have hS : Tryd.prog.underlying 23 = some (.struct (Tryd.prog.fieldsOf 23)) := by kernel_rfl
  have hp : Tryd.prog.stoodInHeld 23 = false := by kernel_rfl
  rw [show (10000 : Nat) = 9999 + 1 from rfl, run_equalIn_agg w 9999 23 _ _ hS hp]
  simp only [Program.fieldsOf, Tryd.underlying23]
  go_simp
theorem eq_task (k : Int) (p t : ByteArray) (w : World) : (binOp BinOp.eql 23 (.agg #[.int .i64 k, .string p, .string t]) (.agg #[.int .i64 k, .string p, .string t])).run Tryd.prog w = .ok (.bool true) w := by
  rw [run_eql_struct, eq_agg]; rfl
/-- what is known answers for what is told -/
theorem ans_known {l : Bytes} {k j er ej : Int} {p t a b : ByteArray} (h : Ans l ⟨k, p.data.toList, t.data.toList⟩ er) (h2 : Ans l ⟨j, a.data.toList, b.data.toList⟩ ej) : k = j ∧ p = a ∧ t = b ∧ er = ej := by
  obtain ⟨e1, e2⟩ := ans_one h h2
  injection e1 with e3 e4 e5
  exact ⟨e3, ba_ext e4, ba_ext e5, e2⟩
theorem lives_ans : Ans [108, 105, 110, 107, 32, 47, 116, 47, 97, 32, 46, 46, 47, 115, 47, 112, 47, 97, 37, 50, 48, 98] ⟨3, (⟨#[47, 116, 47, 97]⟩ : ByteArray).data.toList, (⟨#[46, 46, 47, 115, 47, 112, 47, 97, 32, 98]⟩ : ByteArray).data.toList⟩ 0 :=
  Or.inl ⟨rfl, by decide +kernel, by decide +kernel⟩
set_option maxHeartbeats 1000000 in
theorem lives_any (w : World) (hv : Verbs w) : Calls Tryd.prog 6 #[] w fun e w' => e = .returned (.bool true) ∧ Below w.heap.size w w' := by
  have HP := Lib.hid (parse_any ⟨#[108, 105, 110, 107, 32, 47, 116, 47, 97, 32, 46, 46, 47, 115, 47, 112, 47, 97, 37, 50, 48, 98]⟩ (by decide) w hv)
  have HQ := Lib.hid eq_task
  clear hv
  go_enter Tryd.func6, Tryd.ntmps6
  go_wp2_with fail
  refine (HP.out).mono ?_
  rintro e w1 ⟨k, p, t, er, rfl, ha, hb⟩
  obtain ⟨rfl, rfl, rfl, rfl⟩ := ans_known ha lives_ans
  have B1 := Lib.hid (on hb (below_new w1 (.cells #[.int .i64 3, .string ⟨#[47, 116, 47, 97]⟩, .string ⟨#[46, 46, 47, 115, 47, 112, 47, 97, 32, 98]⟩] 23)))
  have hq := HQ.out 3 ⟨#[47, 116, 47, 97]⟩ ⟨#[46, 46, 47, 115, 47, 112, 47, 97, 32, 98]⟩
  clear ha hb HP
  unfold taskV
  go_wp2_with fail
  go_ret
  exact ⟨rfl, B1.out⟩
end Go.Proofs.YthplnkchmelbmaaDoor.W19
