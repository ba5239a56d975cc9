/-
  Layer 19 (task): the table of verbs that the program keeps in a variable: what it holds (a premise, which the card ties), and the program's kindOf. The conditions stand in the statements.
-/
import Derived.Test.YthplnkchmelbmaaDoorW19Walk
import Derived.FnData
import Derived.WalkSmall
namespace Go.Proofs.YthplnkchmelbmaaDoor.W19
set_option maxRecDepth 100000
open Go Go.RowKit Go.Proofs.YthplnkchmelbmaaDoor.M19
open Go.Proofs.YthplnkchmelbmaaDoor.Strs (strV)
open Go.Proofs.YthplnkchmelbmaaDoor.Kit (ret_str ret_bool ret_int mk_of mk_bytes ba_ext below_draws on)

/-- the variable holds the six words -/
def Verbs (W : World) : Prop := W.var? Tryd.prog "linhay/task.verbs" = some #[.string ⟨#[109, 107, 100, 105, 114]⟩, .string ⟨#[114, 109, 100, 105, 114]⟩, .string ⟨#[108, 105, 110, 107]⟩, .string ⟨#[117, 110, 108, 105, 110, 107]⟩, .string ⟨#[109, 111, 118, 101]⟩, .string ⟨#[119, 114, 105, 116, 101]⟩]
theorem verbs_named : Tryd.prog.globalNamed "linhay/task.verbs" = some 0 := by kernel_rfl
theorem Verbs.on {W W' : World} (h : Verbs W) (hb : Below W.heap.size W W') : Verbs W' :=
  var?_below hb verbs_named (by
    have := World.var?_cell verbs_named h 0
    rcases Nat.lt_or_ge 0 W.heap.size with hlt | hge
    · exact hlt
    · simp [World.cell?, Array.getElem?_eq_none hge] at this) h
theorem Verbs.cell {W : World} (h : Verbs W) {j : Nat} (hj : j < 6) {d : ByteArray} (hd : d.data.toList = verb ((j : Int) + 1)) : W.cell? ⟨0, j, none⟩ = some (.string d) := by
  rw [World.var?_cell verbs_named h j]
  have e : d = ⟨(verb ((j : Int) + 1)).toArray⟩ := ba_ext hd
  rw [e]
  match j, hj with
  | 0, _ | 1, _ | 2, _ | 3, _ | 4, _ | 5, _ => rfl
/-- which kind a word tells -/
def KindOf (l : Bytes) (k : Int) (o : Bool) : Prop := (o = true ∧ Kind k ∧ l = verb k) ∨ (o = false ∧ k = 0 ∧ ∀ j, Kind j → l ≠ verb j)
theorem kind_yes {l : Bytes} {k : Int} (hk : Kind k) (h : l = verb k) : KindOf l k true := Or.inl ⟨rfl, hk, h⟩
def NoneTo (l : Bytes) (z : Int) : Prop := ∀ i : Int, 0 ≤ i → i < z → l ≠ verb (i + 1)
theorem noneTo_next {l : Bytes} {z : Int} (h : NoneTo l z) (h2 : l ≠ verb (z + 1)) : NoneTo l (z + 1) := fun i h0 hi => by
  by_cases e : i = z
  · rw [e]; exact h2
  · exact h i h0 (by omega)
theorem noneTo_end {l : Bytes} (h : NoneTo l 6) : KindOf l 0 false := Or.inr ⟨rfl, rfl, fun j hj => by
  obtain ⟨h1, h2⟩ := hj
  have e := h (j - 1) (by omega) (by omega)
  rwa [show j - 1 + 1 = j by omega] at e⟩
/-- what kindOf returns -/
def Kinds (w : World) (l : Bytes) (e : Ending) (w' : World) : Prop := ∃ (k : Int) (o : Bool), e = .returned (.tuple #[.int .i64 k, .bool o]) ∧ KindOf l k o ∧ w' = w
set_option maxHeartbeats 4000000 in
theorem kindOf_any (d : ByteArray) (w : World) (hv : Verbs w) : Calls Tryd.prog 37 #[.string d] w (Kinds w d.data.toList) := by
  have c0 := hv.cell (j := 0) (by omega) (d := ⟨#[109, 107, 100, 105, 114]⟩) rfl
  have c1 := hv.cell (j := 1) (by omega) (d := ⟨#[114, 109, 100, 105, 114]⟩) rfl
  have c2 := hv.cell (j := 2) (by omega) (d := ⟨#[108, 105, 110, 107]⟩) rfl
  have c3 := hv.cell (j := 3) (by omega) (d := ⟨#[117, 110, 108, 105, 110, 107]⟩) rfl
  have c4 := hv.cell (j := 4) (by omega) (d := ⟨#[109, 111, 118, 101]⟩) rfl
  have c5 := hv.cell (j := 5) (by omega) (d := ⟨#[119, 114, 105, 116, 101]⟩) rfl
  clear hv
  go_enter Tryd.func37, Tryd.ntmps37
  go_wp2_with fail
  go_loopw [7] (fun v wr => ∃ z : Int, 0 ≤ z ∧ z ≤ 6 ∧ v = .int .i64 z ∧ Hid (NoneTo d.data.toList z) ∧ wr = w) (fun v _ => 6 - (intOf v).toNat)
  case atStart => exact ⟨0, by omega, by omega, rfl, fun i h0 hi => by omega, rfl⟩
  case round =>
    obtain ⟨z, hz0, hz, rfl, hn, rfl⟩ := hrel
    by_cases hlt : z < 6
    · have hj2 : z = 0 ∨ z = 1 ∨ z = 2 ∨ z = 3 ∨ z = 4 ∨ z = 5 := by omega
      clear hz0 hz hlt
      rcases hj2 with rfl | rfl | rfl | rfl | rfl | rfl
      · have hx : ∀ W : World, (Instr.index 46 (.agg #[.string ⟨#[109, 107, 100, 105, 114]⟩, .string ⟨#[114, 109, 100, 105, 114]⟩, .string ⟨#[108, 105, 110, 107]⟩, .string ⟨#[117, 110, 108, 105, 110, 107]⟩, .string ⟨#[109, 111, 118, 101]⟩, .string ⟨#[119, 114, 105, 116, 101]⟩]) (.int .i64 0)).run Tryd.prog W = .ok (.string ⟨#[109, 107, 100, 105, 114]⟩) W := fun W => by kernel_rfl
        cases he : ([109, 107, 100, 105, 114] == d.toList) with
        | true =>
          have HE := Lib.hid (show KindOf d.data.toList 1 true from kind_yes ⟨by decide, by decide⟩ (by rw [← Lib.toList_data, ← beq_iff_eq.1 he]; rfl))
          go_wp2_with fail
          go_ret2
          exact ⟨1, true, rfl, HE.out, rfl⟩
        | false =>
          have HX := Lib.hid (noneTo_next hn.out (show d.data.toList ≠ verb (0 + 1) from fun e => by rw [Lib.toList_data, e] at he; exact absurd he (by decide)))
          have he2 := beq_eq_false_iff_ne.1 he
          go_wp2_with fail
          go_roundw
          case rel => exact ⟨1, by omega, by omega, by first | rfl | go_num, HX, by first | rfl | trivial⟩
          case measure => simp [intOf]
      · have hx : ∀ W : World, (Instr.index 46 (.agg #[.string ⟨#[109, 107, 100, 105, 114]⟩, .string ⟨#[114, 109, 100, 105, 114]⟩, .string ⟨#[108, 105, 110, 107]⟩, .string ⟨#[117, 110, 108, 105, 110, 107]⟩, .string ⟨#[109, 111, 118, 101]⟩, .string ⟨#[119, 114, 105, 116, 101]⟩]) (.int .i64 1)).run Tryd.prog W = .ok (.string ⟨#[114, 109, 100, 105, 114]⟩) W := fun W => by kernel_rfl
        cases he : ([114, 109, 100, 105, 114] == d.toList) with
        | true =>
          have HE := Lib.hid (show KindOf d.data.toList 2 true from kind_yes ⟨by decide, by decide⟩ (by rw [← Lib.toList_data, ← beq_iff_eq.1 he]; rfl))
          go_wp2_with fail
          go_ret2
          exact ⟨2, true, rfl, HE.out, rfl⟩
        | false =>
          have HX := Lib.hid (noneTo_next hn.out (show d.data.toList ≠ verb (1 + 1) from fun e => by rw [Lib.toList_data, e] at he; exact absurd he (by decide)))
          have he2 := beq_eq_false_iff_ne.1 he
          go_wp2_with fail
          go_roundw
          case rel => exact ⟨2, by omega, by omega, by first | rfl | go_num, HX, by first | rfl | trivial⟩
          case measure => simp [intOf]
      · have hx : ∀ W : World, (Instr.index 46 (.agg #[.string ⟨#[109, 107, 100, 105, 114]⟩, .string ⟨#[114, 109, 100, 105, 114]⟩, .string ⟨#[108, 105, 110, 107]⟩, .string ⟨#[117, 110, 108, 105, 110, 107]⟩, .string ⟨#[109, 111, 118, 101]⟩, .string ⟨#[119, 114, 105, 116, 101]⟩]) (.int .i64 2)).run Tryd.prog W = .ok (.string ⟨#[108, 105, 110, 107]⟩) W := fun W => by kernel_rfl
        cases he : ([108, 105, 110, 107] == d.toList) with
        | true =>
          have HE := Lib.hid (show KindOf d.data.toList 3 true from kind_yes ⟨by decide, by decide⟩ (by rw [← Lib.toList_data, ← beq_iff_eq.1 he]; rfl))
          go_wp2_with fail
          go_ret2
          exact ⟨3, true, rfl, HE.out, rfl⟩
        | false =>
          have HX := Lib.hid (noneTo_next hn.out (show d.data.toList ≠ verb (2 + 1) from fun e => by rw [Lib.toList_data, e] at he; exact absurd he (by decide)))
          have he2 := beq_eq_false_iff_ne.1 he
          go_wp2_with fail
          go_roundw
          case rel => exact ⟨3, by omega, by omega, by first | rfl | go_num, HX, by first | rfl | trivial⟩
          case measure => simp [intOf]
      · have hx : ∀ W : World, (Instr.index 46 (.agg #[.string ⟨#[109, 107, 100, 105, 114]⟩, .string ⟨#[114, 109, 100, 105, 114]⟩, .string ⟨#[108, 105, 110, 107]⟩, .string ⟨#[117, 110, 108, 105, 110, 107]⟩, .string ⟨#[109, 111, 118, 101]⟩, .string ⟨#[119, 114, 105, 116, 101]⟩]) (.int .i64 3)).run Tryd.prog W = .ok (.string ⟨#[117, 110, 108, 105, 110, 107]⟩) W := fun W => by kernel_rfl
        cases he : ([117, 110, 108, 105, 110, 107] == d.toList) with
        | true =>
          have HE := Lib.hid (show KindOf d.data.toList 4 true from kind_yes ⟨by decide, by decide⟩ (by rw [← Lib.toList_data, ← beq_iff_eq.1 he]; rfl))
          go_wp2_with fail
          go_ret2
          exact ⟨4, true, rfl, HE.out, rfl⟩
        | false =>
          have HX := Lib.hid (noneTo_next hn.out (show d.data.toList ≠ verb (3 + 1) from fun e => by rw [Lib.toList_data, e] at he; exact absurd he (by decide)))
          have he2 := beq_eq_false_iff_ne.1 he
          go_wp2_with fail
          go_roundw
          case rel => exact ⟨4, by omega, by omega, by first | rfl | go_num, HX, by first | rfl | trivial⟩
          case measure => simp [intOf]
      · have hx : ∀ W : World, (Instr.index 46 (.agg #[.string ⟨#[109, 107, 100, 105, 114]⟩, .string ⟨#[114, 109, 100, 105, 114]⟩, .string ⟨#[108, 105, 110, 107]⟩, .string ⟨#[117, 110, 108, 105, 110, 107]⟩, .string ⟨#[109, 111, 118, 101]⟩, .string ⟨#[119, 114, 105, 116, 101]⟩]) (.int .i64 4)).run Tryd.prog W = .ok (.string ⟨#[109, 111, 118, 101]⟩) W := fun W => by kernel_rfl
        cases he : ([109, 111, 118, 101] == d.toList) with
        | true =>
          have HE := Lib.hid (show KindOf d.data.toList 5 true from kind_yes ⟨by decide, by decide⟩ (by rw [← Lib.toList_data, ← beq_iff_eq.1 he]; rfl))
          go_wp2_with fail
          go_ret2
          exact ⟨5, true, rfl, HE.out, rfl⟩
        | false =>
          have HX := Lib.hid (noneTo_next hn.out (show d.data.toList ≠ verb (4 + 1) from fun e => by rw [Lib.toList_data, e] at he; exact absurd he (by decide)))
          have he2 := beq_eq_false_iff_ne.1 he
          go_wp2_with fail
          go_roundw
          case rel => exact ⟨5, by omega, by omega, by first | rfl | go_num, HX, by first | rfl | trivial⟩
          case measure => simp [intOf]
      · have hx : ∀ W : World, (Instr.index 46 (.agg #[.string ⟨#[109, 107, 100, 105, 114]⟩, .string ⟨#[114, 109, 100, 105, 114]⟩, .string ⟨#[108, 105, 110, 107]⟩, .string ⟨#[117, 110, 108, 105, 110, 107]⟩, .string ⟨#[109, 111, 118, 101]⟩, .string ⟨#[119, 114, 105, 116, 101]⟩]) (.int .i64 5)).run Tryd.prog W = .ok (.string ⟨#[119, 114, 105, 116, 101]⟩) W := fun W => by kernel_rfl
        cases he : ([119, 114, 105, 116, 101] == d.toList) with
        | true =>
          have HE := Lib.hid (show KindOf d.data.toList 6 true from kind_yes ⟨by decide, by decide⟩ (by rw [← Lib.toList_data, ← beq_iff_eq.1 he]; rfl))
          go_wp2_with fail
          go_ret2
          exact ⟨6, true, rfl, HE.out, rfl⟩
        | false =>
          have HX := Lib.hid (noneTo_next hn.out (show d.data.toList ≠ verb (5 + 1) from fun e => by rw [Lib.toList_data, e] at he; exact absurd he (by decide)))
          have he2 := beq_eq_false_iff_ne.1 he
          go_wp2_with fail
          go_roundw
          case rel => exact ⟨6, by omega, by omega, by first | rfl | go_num, HX, by first | rfl | trivial⟩
          case measure => simp [intOf]
    · obtain rfl : z = 6 := by omega
      have HE := Lib.hid (noneTo_end hn.out)
      go_wp2_with fail
      go_ret2
      exact ⟨0, false, rfl, HE.out, rfl⟩
end Go.Proofs.YthplnkchmelbmaaDoor.W19
