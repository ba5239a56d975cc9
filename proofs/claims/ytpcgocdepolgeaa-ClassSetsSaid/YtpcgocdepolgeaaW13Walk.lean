/-
  Layer 13 (class), walks of the program's functions on an array of truths. The conditions stand in the statements.
-/
import Derived.Test.YtpcgocdepolgeaaChecked
import Derived.Test.YtpcgocdepolgeaaW13Math
import Derived.WalkKit
import Derived.KernelRfl
import Derived.Test.YtpcgocdepolgeaaRow256
import Derived.Deep.LoopGhost
namespace Go.Proofs.Ytpcgocdepolgeaa.W13
set_option maxRecDepth 100000
open Go Go.RowKit Go.Proofs.Ytpcgocdepolgeaa.M13 Go.Proofs.Ytpcgocdepolgeaa.Row256
open Go.Proofs.Ytpcgocdepolgeaa.Kit (ret_str ret_bool ret_int mk_of mk_bytes ba_ext below_draws on)

def bv (f : Nat → Bool) (i : Nat) : Value := .bool (f i)
theorem bv_eq {f g : Nat → Bool} {i : Nat} (h : f i = g i) : bv f i = bv g i := by unfold bv; rw [h]
theorem bv_one (f : Nat → Bool) (i : Nat) : (bv f i).oneCell' = true := rfl
theorem info37 : (Try.prog.info? 37).map (fun i => (i.zero, i.size)) = some (some (Value.agg (Array.replicate 256 (.bool false))), 256) := by kernel_rfl
theorem zero37 (w : World) : (zeroValue 37).run Try.prog w = .ok (.agg (rowV (bv fun _ => false))) w := by
  have h := (zero_of_info info37).1 w
  rw [rowV_same] at h; exact h
theorem size37 : (Try.prog.info? 37).map (·.size) = some 256 := (zero_of_info info37).2

theorem size_row (g : Nat → Value) : (Try.prog.info? 37).map (·.size) = some (rowV g).size := by rw [rowV_size]; exact size37
/-- a whole array is loaded from a block, and stored into one -/
theorem load_row {ops : Array Oper} {rest : List Oper} {o : Oper} {a : Act} {w : World} {Q : Exit → Act → World → Prop} (hgd : o.guard = none) (x : Operand) (ho : o.op = .load 37 x)
    {b : Nat} (hx : a.eval x = .pointer (some ⟨b, 0, none⟩)) {t : TypeId} {f : Nat → Value} (hr : Row w b t f) (h : wpList Try.prog ops Q rest (a.put o.dst (.agg (rowV f))) w) : wpList Try.prog ops Q (o :: rest) a w :=
  wpList_load_row hgd 37 x ho b hx t (rowV f) (0, 0) _ hr Try.underlying37 rfl (size_row f) h
theorem store_row {ops : Array Oper} {rest : List Oper} {o : Oper} {a : Act} {w : World} {Q : Exit → Act → World → Prop} (hgd : o.guard = none) (x y : Operand) (ho : o.op = .store 37 x y)
    {b : Nat} {f : Nat → Bool} {g : Nat → Value} (hx : a.eval x = .pointer (some ⟨b, 0, none⟩)) (hy : a.eval y = .agg (rowV (bv f))) {t : TypeId} (hr : Row w b t g)
    (h : ∀ w', Row w' b t (bv f) → Beside b w w' → wpList Try.prog ops Q rest (a.put o.dst undef) w') : wpList Try.prog ops Q (o :: rest) a w :=
  wpList_store_row hgd 37 x y ho b (rowV (bv f)) hx hy t (rowV g) hr (size_row _) (by rw [rowV_size, rowV_size]) (rowV_one (bv_one f))
    (h _ (hr.set _) ⟨rfl, rfl, rfl, by rw [setRow_size]; exact Nat.le_refl _, fun k _ e => setRow_other w b k _ e⟩)
/-- a function ends whose one result is an array in a block of its own -/
theorem end_row {fn : Func} {R : Ending → World → Prop} {a : Act} {w : World} {p : Tmp} {b : Nat} {t : TypeId} {f : Nat → Value} (hf : fn.results = #[.cell p 37]) (hp : a.tmps.getD p undef = .pointer (some ⟨b, 0, none⟩)) (hr : Row w b t f) (hd : a.defers = [])
    (hR : R (.returned (.agg (rowV f))) w) : bodyPost Try.prog fn R .ret a w :=
  bodyPost_ret (results_cell_row hf a.tmps w b t (rowV f) (0, 0) _ hp hr Try.underlying37 rfl (size_row f)) hd hR

/-- one round of a loop that writes truth by truth -/
theorem row_step {w : World} {b i : Nat} {t : TypeId} {F G : Nat → Bool} {v : Bool} (h : Row w b t (bv fun j => if j < i then F j else G j)) (hv : v = F i) : Row (w.setCell ⟨b, i, none⟩ (.bool v)) b t (bv fun j => if j < i + 1 then F j else G j) := by
  refine (h.put i (.bool v)).is fun j _ => ?_
  by_cases e : j = i
  · subst e
    rw [if_pos rfl, hv]
    exact bv_eq (f := fun _ => F j) (by rw [if_pos (by omega)])
  · rw [if_neg e]
    refine bv_eq ?_
    by_cases e2 : j < i
    · rw [if_pos e2, if_pos (by omega)]
    · rw [if_neg e2, if_neg (by omega)]

set_option maxHeartbeats 1000000 in
theorem span_any {w : World} {b : Nat} {t : TypeId} {f : Nat → Bool} (h : Row w b t (bv f)) (a c : UInt8) :
    Calls Try.prog 21 #[.pointer (some ⟨b, 0, none⟩), .int .u8 a.toNat, .int .u8 c.toNat] w fun e w' => e = .returned (.tuple #[]) ∧ Row w' b t (bv fun i => f i || between a.toNat c.toNat i) ∧ Beside b w w' := by
  have HC := Lib.hid h
  clear h
  have hc256 : c.toNat < 256 := UInt8.toNat_lt c
  have ha256 : a.toNat < 256 := UInt8.toNat_lt a
  go_enter Try.func21, Try.ntmps21
  go_wp2_with fail
  go_loopg [6] (c.toNat + 1 - a.toNat) (fun g s6 wr => ∃ i : Nat, s6 = .int .i64 i ∧ a.toNat ≤ i ∧ (i + g = c.toNat + 1 ∨ g = 0 ∧ c.toNat < i) ∧ Hid (Row wr b t (bv fun j => f j || (decide (a.toNat ≤ j) && decide (j < i) && decide (j ≤ c.toNat)))) ∧ Hid (Beside b w wr))
  case atStart =>
    refine ⟨a.toNat, rfl, Nat.le_refl _, by omega, HC.out.is fun j _ => bv_eq ?_, Beside.refl _ _⟩
    have e : (decide (a.toNat ≤ j) && decide (j < a.toNat)) = false := by simp
    rw [e, Bool.false_and, Bool.or_false]
  case round =>
    obtain ⟨i, rfl, hai, hig, hr, hb⟩ := hrel
    cases gk with
    | zero =>
      have hi : c.toNat < i := by omega
      have hi2 : ¬ ((i : Int) ≤ (c.toNat : Int)) := by omega
      have HI := Lib.hid hi
      clear hi hig
      go_wp2
      go_end0
      refine ⟨rfl, hr.out.is fun j _ => bv_eq ?_, hb.out⟩
      unfold between
      by_cases e : j ≤ c.toNat
      · have := HI.out
        rw [decide_eq_true (show j < i by omega), Bool.and_true]
      · rw [decide_eq_false e, Bool.and_false, Bool.and_false]
    | succ g =>
      have hi : i ≤ c.toNat := by omega
      have hi2 : (i : Int) ≤ (c.toNat : Int) := by omega
      have hi3 : (i : Int) < 256 := by omega
      have hcell := hr.out.cell (i := i) (by omega)
      have hfree := hr.out.free i
      generalize hold : bv (fun j => f j || (decide (a.toNat ≤ j) && decide (j < i) && decide (j ≤ c.toNat))) i = old at hcell
      clear hold
      go_wp2
      go_roundg g
      case measure => omega
      case rel =>
        refine ⟨i + 1, by first | rfl | simp, by omega, by omega, (hr.out.put i (.bool true)).is fun j _ => ?_, hb.out.put i _⟩
        by_cases e : j = i
        · subst e
          rw [if_pos rfl]
          refine (bv_eq (f := fun _ => true) ?_)
          rw [decide_eq_true hai, decide_eq_true (show j < j + 1 by omega), decide_eq_true hi, Bool.and_true, Bool.and_true, Bool.or_true]
        · rw [if_neg e]
          refine bv_eq ?_
          rw [show decide (j < i + 1) = decide (j < i) from decide_eq_decide.2 (by omega)]
end Go.Proofs.Ytpcgocdepolgeaa.W13
