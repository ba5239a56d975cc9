/-
  Texts joined, in build order, each with its own comment and its own conditions: W15RefRight.
-/
import Derived.Test.YtehdnbidgphecaaGreatDoorJ11
import Derived.Deep.RegionHeld3
import Derived.BigQuiet
/-
  Layer 15 (prog), walk of the document's Right: whether a program may be. The conditions stand in the statements.
-/
namespace Go.Proofs.YtehdnbidgphecaaGreatDoor.M15
set_option maxRecDepth 100000
open Go
theorem goes_bad {k a b : Int} {n : Nat} (hk : 1 ≤ k ∧ k ≤ 8) (h : a < 0 ∨ (n : Int) ≤ a ∨ (k = 7 ∧ a ≠ 0) ∨ b < 0 ∨ (n : Int) ≤ b ∨ (k ≠ 6 ∧ b ≠ 0)) (hn : 0 < n) : goes k a b n = false := by
  unfold goes place
  by_cases h6 : k = 6
  · rw [if_pos h6]
    have : ¬ (0 ≤ a ∧ a < (n : Int) ∧ 0 ≤ b ∧ b < (n : Int)) := by omega
    by_cases c1 : 0 ≤ a <;> by_cases c2 : a < (n : Int) <;> by_cases c3 : 0 ≤ b <;> by_cases c4 : b < (n : Int) <;> simp [c1, c2, c3, c4] <;> omega
  · rw [if_neg h6]
    by_cases h7 : k = 7
    · rw [if_pos h7]
      by_cases c1 : a = 0 <;> by_cases c2 : b = 0 <;> simp [c1, c2] <;> omega
    · rw [if_neg h7, if_pos hk]
      by_cases c1 : 0 ≤ a <;> by_cases c2 : a < (n : Int) <;> by_cases c3 : b = 0 <;> simp [c1, c2, c3] <;> omega
theorem goes_good {k a b : Int} {n : Nat} (hk : 1 ≤ k ∧ k ≤ 8) (h1 : ¬ a < 0) (h2 : ¬ (n : Int) ≤ a) (h3 : k = 7 → a = 0) (h4 : ¬ b < 0) (h5 : ¬ (n : Int) ≤ b) (h6 : k ≠ 6 → b = 0) : goes k a b n = true := by
  unfold goes place
  by_cases c6 : k = 6
  · rw [if_pos c6]
    simp; omega
  · rw [if_neg c6]
    by_cases c7 : k = 7
    · rw [if_pos c7]
      simp [h3 c7, h6 c6]
    · rw [if_neg c7, if_pos hk]
      simp [h6 c6]; omega
end Go.Proofs.YtehdnbidgphecaaGreatDoor.M15
namespace Go.Proofs.YtehdnbidgphecaaGreatDoor.W15
open Go Go.RowKit Go.Proofs.YtehdnbidgphecaaGreatDoor.Strs Go.Proofs.YtehdnbidgphecaaGreatDoor.Recs Go.Proofs.YtehdnbidgphecaaGreatDoor.M15
open Go.Proofs.YtehdnbidgphecaaGreatDoor.M13 (good has)
open Go.Proofs.YtehdnbidgphecaaGreatDoor.W14 (two_new cell_block)
open Go.Proofs.YtehdnbidgphecaaGreatDoor.Kit (below_draws on)

theorem union_good {t : ByteArray} (h : good t.data.toList = true) : (W13.tx fun i => has t.data.toList i || has t.data.toList i) = t := by
  refine Kit.ba_ext ?_
  rw [W13.tx_list, M13.textOf_congr (g := has t.data.toList) (fun i _ => Bool.or_self _)]
  exact (M13.good_text h).symm
theorem union_bad {t : ByteArray} (h : good t.data.toList = false) : ¬ (W13.tx fun i => has t.data.toList i || has t.data.toList i) = t := by
  intro q
  have h1 := M13.textOf_good (fun i => has t.data.toList i || has t.data.toList i)
  rw [← W13.tx_list, q, h] at h1
  cases h1
set_option maxRecDepth 100000 in
set_option maxHeartbeats 16000000 in
theorem rright_any {w : World} {B : Nat} {v : Value} {L : List Inst} (h : Prg B w v L) (hB : B ≤ w.heap.size) : Calls Tryz.prog 27 #[v] w fun e w' => e = .returned (.bool (rightP L)) ∧ Below w.heap.size w w' := by
  obtain ⟨A, c, rfl, h1, h2⟩ := h.form
  have H := Lib.hid h
  unfold maxLen at h2
  have HBB := Lib.hid hB
  obtain ⟨n, hn⟩ : ∃ n, L.length = n := ⟨_, rfl⟩
  have HNL := Lib.hid hn
  rw [hn] at h1 H ⊢
  have HC := Lib.hid (show n ≤ c ∧ c ≤ 9223372036854775807 from ⟨h1, h2⟩)
  obtain ⟨R, hR⟩ : ∃ R, rightP L = R := ⟨_, rfl⟩
  rw [hR]
  have HR := Lib.hid hR
  clear h hB hR hn h1 h2
  go_enter Tryz.func27, Tryz.ntmps27
  go_wp2_with fail
  go_loopg [3] n (fun gk s3 wr => ∃ i : Nat, s3 = .int .i64 i ∧ Hid (i + gk = n) ∧ Hid ((L.take i).all (okI n) = true) ∧ Hid (Below w.heap.size w wr))
  case atStart => exact ⟨0, rfl, by unfold Hid; omega, by unfold Hid; simp, Below.refl _ _⟩
  case round =>
    obtain ⟨i, rfl, hig, HOK, LB⟩ := hrel
    have hc1 := HC.out.1
    have hc2 := HC.out.2
    by_cases hi : i < n
    · have ti : (i : Int) < (n : Int) := by omega
      have hiL : i < L.length := by rw [HNL.out]; exact hi
      obtain ⟨b1, o1, hl1, rfl, hb1, e1⟩ := H.out.flat_ insC_len (by decide) hi
      obtain ⟨⟨k, t, a, b⟩, hx⟩ : ∃ x, L[i] = x := ⟨_, rfl⟩
      rw [hx] at e1
      have E1 : Hid (∀ j, j < 4 → wr.cell? ⟨b1, o1 + i * 4 + j, none⟩ = (insC ⟨k, t, a, b⟩)[j]?) := fun j hj => (cell_block (LB.out.block b1 (Nat.lt_of_lt_of_le hb1 HBB.out))).trans (e1 j hj)
      have HALL := all_take (f := okI n) hiL
      have HNO := fun q => all_no (f := okI n) hiL q
      rw [hx] at HALL HNO
      have hok : okI n ⟨k, t, a, b⟩ = (txtOk k t && goes k a b n) := rfl
      rw [hok] at HALL HNO
      have HAL := Lib.hid HALL
      have RF : Hid ((txtOk k t && goes k a b n) = false → rightP L = false) := fun q => by
        unfold rightP
        rw [HNL.out, HNO q, Bool.false_and]
      have hwi : Hid (wrap64 ((i : Int) + 1) = ((i + 1 : Nat) : Int)) := by unfold Hid wrap64; omega
      have HI2 := Lib.hid hi
      have HN0 := Lib.hid (show 0 < n by omega)
      clear e1 hb1 hx hl1 HALL HNO hok hiL hi
      by_cases hk : 1 ≤ k ∧ k ≤ 8
      · have HK := Lib.hid hk
        have tk1 : ¬ k < 1 := by omega
        have tk2 : ¬ 8 < k := by omega
        clear hk
        go_wp2_with (first
          | (refine load_ins rfl (.tmp 13) rfl rfl (r := ⟨k, t, a, b⟩) E1.out ?_)
          | (refine alloc_ins rfl rfl ?_; intro w3 b3 e3 p3 l3 z3)
          | (refine store_ins (r := ⟨k, t, a, b⟩) rfl (.tmp 4) (.tmp 14) rfl rfl rfl p3 ?_; intro w4 p4 l4 z4; have L4 := Lib.hid (two_new l3 l4 e3); have P4 := Lib.hid p4; have d0 := p4.c0; have d1 := p4.c1; have d2 := p4.c2; have d3 := p4.c3; clear e3 p3 l3 z3 p4 l4 z4; simp only at d0 d1 d2 d3))
        clear tk1 tk2
        have W4 := Lib.hid (LB.out.trans (L4.out.mono LB.out.size))
        by_cases h1 : k = 1
        · have t1 : (k == 1) = true := by simp [h1]
          have t3 : (k == 3) = false := by simp [h1]
          have n1 : (k != 1) = false := by simp [h1]
          have HX : Hid (txtOk k t = decide (t.size = 1)) := by unfold Hid txtOk; rw [if_pos h1]
          clear h1
          by_cases hz : t.size = 1
          · have tz : ((t.size : Int) != 1) = false := by simp [hz]
            have HTX : Hid (txtOk k t = true) := by unfold Hid; rw [HX.out, decide_eq_true hz]
            clear hz
            go_quiet (fail)
            have W5 := Lib.hid (on W4.out (below_draws w4 nq))
            clear tz t1 t3 n1 d1
            by_cases g1 : a < 0
            · go_wp2_with fail
              go_ret
              exact ⟨by rw [← HR.out, RF.out (by rw [goes_bad HK.out (Or.inl g1) HN0.out, Bool.and_false])]; rfl, W5.out⟩
            by_cases g2 : (n : Int) ≤ a
            · go_wp2_with fail
              go_ret
              exact ⟨by rw [← HR.out, RF.out (by rw [goes_bad HK.out (Or.inr (Or.inl g2)) HN0.out, Bool.and_false])]; rfl, W5.out⟩
            by_cases g7 : k = 7
            · have t7 : (k == 7) = true := by simp [g7]
              have H7 := Lib.hid g7
              clear g7
              by_cases g70 : a = 0
              · have u7 : (a != 0) = false := by simp [g70]
                have H70 := Lib.hid g70
                clear g70
                by_cases g4 : b < 0
                · go_wp2_with fail
                  go_ret
                  exact ⟨by rw [← HR.out, RF.out (by rw [goes_bad HK.out (Or.inr (Or.inr (Or.inr (Or.inl g4)))) HN0.out, Bool.and_false])]; rfl, W5.out⟩
                by_cases g5 : (n : Int) ≤ b
                · go_wp2_with fail
                  go_ret
                  exact ⟨by rw [← HR.out, RF.out (by rw [goes_bad HK.out (Or.inr (Or.inr (Or.inr (Or.inr (Or.inl g5))))) HN0.out, Bool.and_false])]; rfl, W5.out⟩
                have H6 : Hid (k ≠ 6) := by unfold Hid; have := H7.out; omega
                have t6 : (k != 6) = true := by simpa using H6.out
                by_cases g6 : b = 0
                · have hgd : Hid ((txtOk k t && goes k a b n) = true) := by unfold Hid; rw [HTX.out, goes_good HK.out g1 g2 (fun _ => H70.out) g4 g5 (fun _ => g6)]; rfl
                  have u6 : (b != 0) = false := by simp [g6]
                  clear g6
                  cases gk with
                  | zero => exact absurd hig.out (by have := HI2.out; omega)
                  | succ g =>
                    go_wp2_with fail
                    go_roundg g
                    case measure => omega
                    case rel => exact ⟨i + 1, by first | rfl | exact congrArg (Value.int .i64) hwi.out, by have := hig.out; unfold Hid; omega, by unfold Hid; rw [HAL.out, HOK.out, hgd.out]; rfl, W5⟩
                · have HB6 := Lib.hid g6
                  have u6 : (b != 0) = true := by simpa using g6
                  clear g6
                  go_wp2_with fail
                  go_ret
                  exact ⟨by rw [← HR.out, RF.out (by rw [goes_bad HK.out (Or.inr (Or.inr (Or.inr (Or.inr (Or.inr ⟨H6.out, HB6.out⟩))))) HN0.out, Bool.and_false])]; rfl, W5.out⟩
              · have u7 : (a != 0) = true := by simpa using g70
                have H70 := Lib.hid g70
                clear g70
                go_wp2_with fail
                go_ret
                exact ⟨by rw [← HR.out, RF.out (by rw [goes_bad HK.out (Or.inr (Or.inr (Or.inl ⟨H7.out, H70.out⟩))) HN0.out, Bool.and_false])]; rfl, W5.out⟩
            · have t7 : (k == 7) = false := by simpa using g7
              have H7 := Lib.hid g7
              clear g7
              by_cases g4 : b < 0
              · go_wp2_with fail
                go_ret
                exact ⟨by rw [← HR.out, RF.out (by rw [goes_bad HK.out (Or.inr (Or.inr (Or.inr (Or.inl g4)))) HN0.out, Bool.and_false])]; rfl, W5.out⟩
              by_cases g5 : (n : Int) ≤ b
              · go_wp2_with fail
                go_ret
                exact ⟨by rw [← HR.out, RF.out (by rw [goes_bad HK.out (Or.inr (Or.inr (Or.inr (Or.inr (Or.inl g5))))) HN0.out, Bool.and_false])]; rfl, W5.out⟩
              by_cases g60 : k = 6
              · have t6 : (k != 6) = false := by simp [g60]
                have H6 := Lib.hid g60
                clear g60
                have hgd : Hid ((txtOk k t && goes k a b n) = true) := by unfold Hid; rw [HTX.out, goes_good HK.out g1 g2 (fun q => absurd q H7.out) g4 g5 (fun q => absurd H6.out q)]; rfl
                cases gk with
                | zero => exact absurd hig.out (by have := HI2.out; omega)
                | succ g =>
                  go_wp2_with fail
                  go_roundg g
                  case measure => omega
                  case rel => exact ⟨i + 1, by first | rfl | exact congrArg (Value.int .i64) hwi.out, by have := hig.out; unfold Hid; omega, by unfold Hid; rw [HAL.out, HOK.out, hgd.out]; rfl, W5⟩
              · have t6 : (k != 6) = true := by simpa using g60
                have H6 := Lib.hid g60
                clear g60
                by_cases g6 : b = 0
                · have hgd : Hid ((txtOk k t && goes k a b n) = true) := by unfold Hid; rw [HTX.out, goes_good HK.out g1 g2 (fun q => absurd q H7.out) g4 g5 (fun _ => g6)]; rfl
                  have u6 : (b != 0) = false := by simp [g6]
                  clear g6
                  cases gk with
                  | zero => exact absurd hig.out (by have := HI2.out; omega)
                  | succ g =>
                    go_wp2_with fail
                    go_roundg g
                    case measure => omega
                    case rel => exact ⟨i + 1, by first | rfl | exact congrArg (Value.int .i64) hwi.out, by have := hig.out; unfold Hid; omega, by unfold Hid; rw [HAL.out, HOK.out, hgd.out]; rfl, W5⟩
                · have HB6 := Lib.hid g6
                  have u6 : (b != 0) = true := by simpa using g6
                  clear g6
                  go_wp2_with fail
                  go_ret
                  exact ⟨by rw [← HR.out, RF.out (by rw [goes_bad HK.out (Or.inr (Or.inr (Or.inr (Or.inr (Or.inr ⟨H6.out, HB6.out⟩))))) HN0.out, Bool.and_false])]; rfl, W5.out⟩
          · have tz : ((t.size : Int) != 1) = true := by simp; omega
            have HTX : Hid (txtOk k t = false) := by unfold Hid; rw [HX.out, decide_eq_false hz]
            clear hz
            go_quiet (fail)
            have W5 := Lib.hid (on W4.out (below_draws w4 nq))
            go_wp2_with fail
            go_ret
            exact ⟨by rw [← HR.out, RF.out (by rw [HTX.out, Bool.false_and])]; rfl, W5.out⟩
        · have t1 : (k == 1) = false := by simpa using h1
          have n1 : (k != 1) = true := by simpa using h1
          by_cases h3 : k = 3
          · have t3 : (k == 3) = true := by simp [h3]
            have n3 : (k != 3) = false := by simp [h3]
            have HX : Hid (txtOk k t = good t.data.toList) := by unfold Hid txtOk; rw [if_neg h1, if_pos h3]
            clear h1 h3
            have D4 := Lib.hid (below_draws w4 1)
            have HU0 := fun w => W13.refUnion_any t t w
            by_cases hz : good t.data.toList = true
            · rw [union_good hz] at HU0
              have HU := Lib.hid HU0
              have tz : (t.toList != t.toList) = false := by simp
              have HTX : Hid (txtOk k t = true) := by unfold Hid; rw [HX.out, hz]
              clear hz HU0
              refine wp_region_held_drew (S := fun w' => w'.cell? ⟨b3, 0, none⟩ = some (.int .i64 k) ∧ w'.cell? ⟨b3, 1, none⟩ = some (.string t)) (by kernel_rfl) ⟨P4.out.c0, P4.out.c1⟩ (fun hHeld => ?_)
              refine wpAnyH_take (i := 0) (oi := { dst := some 23, op := Op.fieldAddr 62 (Operand.tmp 4) 0, type := 0, pos := "ref.go:88", after := #[], guard := none }) (v := ?vg0) rfl (by kernel_rfl) (by kernel_rfl) (by kernel_rfl) (fun _ _ _ h => h) (Or.inl ⟨by rfl, ?hg0⟩) (by assumption) ?rg0
              case hg0 => (intro w hSw; (try dsimp only at hSw); go_simp; try with_reducible rfl)
              try simp only [Act.put, List.setIfInBounds_toArray, List.set_cons_zero, List.set_cons_succ]
              refine wpAnyH_take (i := 1) (oi := { dst := some 24, op := Op.load 3 (Operand.tmp 23), type := 3, pos := "ref.go:88", after := #[{ on := 0, ground := Ground.data }], guard := none }) (v := ?vg1) rfl (by kernel_rfl) (by kernel_rfl) (by kernel_rfl) (fun _ _ _ h => h) (Or.inl ⟨by rfl, ?hg1⟩) (by assumption) ?rg1
              case hg1 => (intro w hSw; (try dsimp only at hSw); go_simp; try with_reducible rfl)
              try simp only [Act.put, List.setIfInBounds_toArray, List.set_cons_zero, List.set_cons_succ]
              refine wpAnyH_take (i := 2) (oi := { dst := some 25, op := Op.binOp BinOp.eql 3 (Operand.tmp 24) (Operand.const (Value.int IntKind.i64 1)) 3, type := 4, pos := "ref.go:88", after := #[{ on := 1, ground := Ground.data }], guard := none }) (v := ?vg2) rfl (by kernel_rfl) (by kernel_rfl) (by kernel_rfl) (fun _ _ _ h => h) (Or.inl ⟨by rfl, ?hg2⟩) (by assumption) ?rg2
              case hg2 => (intro w hSw; (try dsimp only at hSw); go_simp; try with_reducible rfl)
              try simp only [Act.put, List.setIfInBounds_toArray, List.set_cons_zero, List.set_cons_succ]
              refine wpAnyH_take (i := 3) (oi := { dst := some 26, op := Op.move (Operand.tmp 25), type := 4, pos := "ref.go:88", after := #[{ on := 2, ground := Ground.data }], guard := none }) (v := ?vg3) rfl (by kernel_rfl) (by kernel_rfl) (by kernel_rfl) (fun _ _ _ h => h) (Or.inl ⟨by rfl, ?hg3⟩) (by assumption) ?rg3
              case hg3 => (intro w hSw; (try dsimp only at hSw); go_simp; try with_reducible rfl)
              try simp only [Act.put, List.setIfInBounds_toArray, List.set_cons_zero, List.set_cons_succ]
              refine wpAnyH_take (i := 4) (oi := { dst := some 27, op := Op.fieldAddr 62 (Operand.tmp 4) 1, type := 0, pos := "ref.go:88", after := #[{ on := 3, ground := Ground.guard }], guard := some (3, true) }) (v := undef) rfl (by kernel_rfl) (by kernel_rfl) (by kernel_rfl) (fun _ _ _ h => h) (Or.inr ⟨by rfl, rfl⟩) (by assumption) ?_
              try simp only [Act.put, List.setIfInBounds_toArray, List.set_cons_zero, List.set_cons_succ]
              refine wpAnyH_take (i := 5) (oi := { dst := some 28, op := Op.load 9 (Operand.tmp 27), type := 9, pos := "ref.go:88", after := #[{ on := 4, ground := Ground.data }, { on := 3, ground := Ground.guard }], guard := some (3, true) }) (v := undef) rfl (by kernel_rfl) (by kernel_rfl) (by kernel_rfl) (fun _ _ _ h => h) (Or.inr ⟨by rfl, rfl⟩) (by assumption) ?_
              try simp only [Act.put, List.setIfInBounds_toArray, List.set_cons_zero, List.set_cons_succ]
              refine wpAnyH_take (i := 6) (oi := { dst := some 29, op := Op.call { callee := Callee.builtin Builtin.len, args := #[Operand.tmp 28], argTypes := #[9] }, type := 3, pos := "ref.go:88", after := #[{ on := 5, ground := Ground.data }, { on := 3, ground := Ground.guard }], guard := some (3, true) }) (v := undef) rfl (by kernel_rfl) (by kernel_rfl) (by kernel_rfl) (fun _ _ _ h => h) (Or.inr ⟨by rfl, rfl⟩) (by assumption) ?_
              try simp only [Act.put, List.setIfInBounds_toArray, List.set_cons_zero, List.set_cons_succ]
              refine wpAnyH_take (i := 7) (oi := { dst := some 30, op := Op.binOp BinOp.neq 3 (Operand.tmp 29) (Operand.const (Value.int IntKind.i64 1)) 3, type := 4, pos := "ref.go:88", after := #[{ on := 6, ground := Ground.data }, { on := 3, ground := Ground.guard }], guard := some (3, true) }) (v := undef) rfl (by kernel_rfl) (by kernel_rfl) (by kernel_rfl) (fun _ _ _ h => h) (Or.inr ⟨by rfl, rfl⟩) (by assumption) ?_
              try simp only [Act.put, List.setIfInBounds_toArray, List.set_cons_zero, List.set_cons_succ]
              refine wpAnyH_take (i := 8) (oi := { dst := some 31, op := Op.pick (Operand.tmp 26) (Operand.tmp 30) (Operand.const (Value.bool false)), type := 4, pos := "ref.go:88", after := #[{ on := 3, ground := Ground.data }, { on := 7, ground := Ground.data }], guard := none }) (v := ?vg8) rfl (by kernel_rfl) (by kernel_rfl) (by kernel_rfl) (fun _ _ _ h => h) (Or.inl ⟨by rfl, ?hg8⟩) (by assumption) ?rg8
              case hg8 => (intro w hSw; (try dsimp only at hSw); go_simp; try with_reducible rfl)
              try simp only [Act.put, List.setIfInBounds_toArray, List.set_cons_zero, List.set_cons_succ]
              refine wpAnyH_take (i := 9) (oi := { dst := some 32, op := Op.move (Operand.tmp 31), type := 4, pos := "ref.go:88", after := #[{ on := 8, ground := Ground.data }, { on := 3, ground := Ground.chain }], guard := none }) (v := ?vg9) rfl (by kernel_rfl) (by kernel_rfl) (by kernel_rfl) (fun _ _ _ h => h) (Or.inl ⟨by rfl, ?hg9⟩) (by assumption) ?rg9
              case hg9 => (intro w hSw; (try dsimp only at hSw); go_simp; try with_reducible rfl)
              try simp only [Act.put, List.setIfInBounds_toArray, List.set_cons_zero, List.set_cons_succ]
              refine wpAnyH_take (i := 10) (oi := { dst := some 33, op := Op.fieldAddr 62 (Operand.tmp 4) 0, type := 0, pos := "ref.go:88", after := #[{ on := 9, ground := Ground.guard }], guard := some (9, false) }) (v := ?vg10) rfl (by kernel_rfl) (by kernel_rfl) (by kernel_rfl) (fun _ _ _ h => h) (Or.inl ⟨by rfl, ?hg10⟩) (by assumption) ?rg10
              case hg10 => (intro w hSw; (try dsimp only at hSw); go_simp; try with_reducible rfl)
              try simp only [Act.put, List.setIfInBounds_toArray, List.set_cons_zero, List.set_cons_succ]
              refine wpAnyH_take (i := 11) (oi := { dst := some 34, op := Op.load 3 (Operand.tmp 33), type := 3, pos := "ref.go:88", after := #[{ on := 10, ground := Ground.data }, { on := 9, ground := Ground.guard }], guard := some (9, false) }) (v := ?vg11) rfl (by kernel_rfl) (by kernel_rfl) (by kernel_rfl) (fun _ _ _ h => h) (Or.inl ⟨by rfl, ?hg11⟩) (by assumption) ?rg11
              case hg11 => (intro w hSw; (try dsimp only at hSw); go_simp; try with_reducible rfl)
              try simp only [Act.put, List.setIfInBounds_toArray, List.set_cons_zero, List.set_cons_succ]
              refine wpAnyH_take (i := 12) (oi := { dst := some 35, op := Op.binOp BinOp.eql 3 (Operand.tmp 34) (Operand.const (Value.int IntKind.i64 3)) 3, type := 4, pos := "ref.go:88", after := #[{ on := 11, ground := Ground.data }, { on := 9, ground := Ground.guard }], guard := some (9, false) }) (v := ?vg12) rfl (by kernel_rfl) (by kernel_rfl) (by kernel_rfl) (fun _ _ _ h => h) (Or.inl ⟨by rfl, ?hg12⟩) (by assumption) ?rg12
              case hg12 => (intro w hSw; (try dsimp only at hSw); go_simp; try with_reducible rfl)
              try simp only [Act.put, List.setIfInBounds_toArray, List.set_cons_zero, List.set_cons_succ]
              refine wpAnyH_take (i := 13) (oi := { dst := some 36, op := Op.move (Operand.tmp 35), type := 4, pos := "ref.go:88", after := #[{ on := 12, ground := Ground.data }, { on := 9, ground := Ground.chain }, { on := 9, ground := Ground.guard }], guard := some (9, false) }) (v := ?vg13) rfl (by kernel_rfl) (by kernel_rfl) (by kernel_rfl) (fun _ _ _ h => h) (Or.inl ⟨by rfl, ?hg13⟩) (by assumption) ?rg13
              case hg13 => (intro w hSw; (try dsimp only at hSw); go_simp; try with_reducible rfl)
              try simp only [Act.put, List.setIfInBounds_toArray, List.set_cons_zero, List.set_cons_succ]
              refine wpAnyH_take (i := 14) (oi := { dst := some 37, op := Op.fieldAddr 62 (Operand.tmp 4) 1, type := 0, pos := "ref.go:88", after := #[{ on := 13, ground := Ground.guard }], guard := some (13, true) }) (v := ?vg14) rfl (by kernel_rfl) (by kernel_rfl) (by kernel_rfl) (fun _ _ _ h => h) (Or.inl ⟨by rfl, ?hg14⟩) (by assumption) ?rg14
              case hg14 => (intro w hSw; (try dsimp only at hSw); go_simp; try with_reducible rfl)
              try simp only [Act.put, List.setIfInBounds_toArray, List.set_cons_zero, List.set_cons_succ]
              refine wpAnyH_take (i := 15) (oi := { dst := some 38, op := Op.load 9 (Operand.tmp 37), type := 9, pos := "ref.go:88", after := #[{ on := 14, ground := Ground.data }, { on := 13, ground := Ground.guard }], guard := some (13, true) }) (v := ?vg15) rfl (by kernel_rfl) (by kernel_rfl) (by kernel_rfl) (fun _ _ _ h => h) (Or.inl ⟨by rfl, ?hg15⟩) (by assumption) ?rg15
              case hg15 => (intro w hSw; (try dsimp only at hSw); go_simp; try with_reducible rfl)
              try simp only [Act.put, List.setIfInBounds_toArray, List.set_cons_zero, List.set_cons_succ]
              refine wpAnyH_take (i := 16) (oi := { dst := some 39, op := Op.fieldAddr 62 (Operand.tmp 4) 1, type := 0, pos := "ref.go:88", after := #[{ on := 13, ground := Ground.guard }], guard := some (13, true) }) (v := ?vg16) rfl (by kernel_rfl) (by kernel_rfl) (by kernel_rfl) (fun _ _ _ h => h) (Or.inl ⟨by rfl, ?hg16⟩) (by assumption) ?rg16
              case hg16 => (intro w hSw; (try dsimp only at hSw); go_simp; try with_reducible rfl)
              try simp only [Act.put, List.setIfInBounds_toArray, List.set_cons_zero, List.set_cons_succ]
              refine wpAnyH_take (i := 17) (oi := { dst := some 40, op := Op.load 9 (Operand.tmp 39), type := 9, pos := "ref.go:88", after := #[{ on := 16, ground := Ground.data }, { on := 13, ground := Ground.guard }], guard := some (13, true) }) (v := ?vg17) rfl (by kernel_rfl) (by kernel_rfl) (by kernel_rfl) (fun _ _ _ h => h) (Or.inl ⟨by rfl, ?hg17⟩) (by assumption) ?rg17
              case hg17 => (intro w hSw; (try dsimp only at hSw); go_simp; try with_reducible rfl)
              try simp only [Act.put, List.setIfInBounds_toArray, List.set_cons_zero, List.set_cons_succ]
              refine wpAnyH_take (i := 19) (oi := { dst := some 42, op := Op.fieldAddr 62 (Operand.tmp 4) 1, type := 0, pos := "ref.go:88", after := #[{ on := 13, ground := Ground.guard }], guard := some (13, true) }) (v := ?vg19) rfl (by kernel_rfl) (by kernel_rfl) (by kernel_rfl) (fun _ _ _ h => h) (Or.inl ⟨by rfl, ?hg19⟩) (by assumption) ?rg19
              case hg19 => (intro w hSw; (try dsimp only at hSw); go_simp; try with_reducible rfl)
              try simp only [Act.put, List.setIfInBounds_toArray, List.set_cons_zero, List.set_cons_succ]
              refine wpAnyH_take (i := 20) (oi := { dst := some 43, op := Op.load 9 (Operand.tmp 42), type := 9, pos := "ref.go:88", after := #[{ on := 19, ground := Ground.data }, { on := 13, ground := Ground.guard }], guard := some (13, true) }) (v := ?vg20) rfl (by kernel_rfl) (by kernel_rfl) (by kernel_rfl) (fun _ _ _ h => h) (Or.inl ⟨by rfl, ?hg20⟩) (by assumption) ?rg20
              case hg20 => (intro w hSw; (try dsimp only at hSw); go_simp; try with_reducible rfl)
              try simp only [Act.put, List.setIfInBounds_toArray, List.set_cons_zero, List.set_cons_succ]
              refine wpAnyH_ready (rs := [18]) (by kernel_rfl) (by simp) ?_
              refine AllReadyH.cons (o := { dst := some 41, op := Op.call { callee := Callee.value (Operand.func 41), args := #[Operand.tmp 38, Operand.tmp 40], argTypes := #[9, 9] }, type := 9, pos := "ref.go:88", after := #[{ on := 15, ground := Ground.data }, { on := 17, ground := Ground.data }, { on := 13, ground := Ground.chain }, { on := 13, ground := Ground.guard }], guard := some (13, true) }) rfl (fun K hK => ?_) AllReadyH.nil
              go_simp
              (go_at_call 41; refine (HU.out _).mono ?_; rintro e x1 ⟨rfl, m1⟩; have LU := Lib.hid (on D4.out m1); have PU := Lib.hid (P4.out.below LU.out); clear m1)
              go_wp2_with fail
              refine hK.out _ _ ?_ (fun hHeld => ?_)
              · exact ⟨PU.out.c0, PU.out.c1⟩
              clear hK K
              try simp only [Act.put, List.setIfInBounds_toArray, List.set_cons_zero, List.set_cons_succ]
              refine wpAnyH_take (i := 21) (oi := { dst := some 44, op := Op.binOp BinOp.neq 9 (Operand.tmp 41) (Operand.tmp 43) 9, type := 4, pos := "ref.go:88", after := #[{ on := 18, ground := Ground.data }, { on := 20, ground := Ground.data }, { on := 13, ground := Ground.guard }], guard := some (13, true) }) (v := ?vg21) rfl (by kernel_rfl) (by kernel_rfl) (by kernel_rfl) (fun _ _ _ h => h) (Or.inl ⟨by rfl, ?hg21⟩) (by assumption) ?rg21
              case hg21 => (intro w hSw; (try dsimp only at hSw); go_simp; try with_reducible rfl)
              try simp only [Act.put, List.setIfInBounds_toArray, List.set_cons_zero, List.set_cons_succ]
              refine wpAnyH_take (i := 22) (oi := { dst := some 45, op := Op.pick (Operand.tmp 36) (Operand.tmp 44) (Operand.const (Value.bool false)), type := 4, pos := "ref.go:88", after := #[{ on := 13, ground := Ground.data }, { on := 21, ground := Ground.data }, { on := 9, ground := Ground.guard }], guard := some (9, false) }) (v := ?vg22) rfl (by kernel_rfl) (by kernel_rfl) (by kernel_rfl) (fun _ _ _ h => h) (Or.inl ⟨by rfl, ?hg22⟩) (by assumption) ?rg22
              case hg22 => (intro w hSw; (try dsimp only at hSw); go_simp; try with_reducible rfl)
              try simp only [Act.put, List.setIfInBounds_toArray, List.set_cons_zero, List.set_cons_succ]
              refine wpAnyH_take (i := 23) (oi := { dst := some 46, op := Op.pick (Operand.tmp 32) (Operand.const (Value.bool true)) (Operand.tmp 45), type := 4, pos := "ref.go:88", after := #[{ on := 9, ground := Ground.data }, { on := 22, ground := Ground.data }], guard := none }) (v := ?vg23) rfl (by kernel_rfl) (by kernel_rfl) (by kernel_rfl) (fun _ _ _ h => h) (Or.inl ⟨by rfl, ?hg23⟩) (by assumption) ?rg23
              case hg23 => (intro w hSw; (try dsimp only at hSw); go_simp; try with_reducible rfl)
              try simp only [Act.put, List.setIfInBounds_toArray, List.set_cons_zero, List.set_cons_succ]
              refine wpAnyH_take (i := 24) (oi := { dst := some 47, op := Op.move (Operand.tmp 46), type := 4, pos := "ref.go:88", after := #[{ on := 23, ground := Ground.data }, { on := 18, ground := Ground.chain }], guard := none }) (v := ?vg24) rfl (by kernel_rfl) (by kernel_rfl) (by kernel_rfl) (fun _ _ _ h => h) (Or.inl ⟨by rfl, ?hg24⟩) (by assumption) ?rg24
              case hg24 => (intro w hSw; (try dsimp only at hSw); go_simp; try with_reducible rfl)
              try simp only [Act.put, List.setIfInBounds_toArray, List.set_cons_zero, List.set_cons_succ]
              refine wpAnyH_take (i := 25) (oi := { dst := some 48, op := Op.fieldAddr 62 (Operand.tmp 4) 0, type := 0, pos := "ref.go:88", after := #[{ on := 24, ground := Ground.guard }], guard := some (24, false) }) (v := ?vg25) rfl (by kernel_rfl) (by kernel_rfl) (by kernel_rfl) (fun _ _ _ h => h) (Or.inl ⟨by rfl, ?hg25⟩) (by assumption) ?rg25
              case hg25 => (intro w hSw; (try dsimp only at hSw); go_simp; try with_reducible rfl)
              try simp only [Act.put, List.setIfInBounds_toArray, List.set_cons_zero, List.set_cons_succ]
              refine wpAnyH_take (i := 26) (oi := { dst := some 49, op := Op.load 3 (Operand.tmp 48), type := 3, pos := "ref.go:88", after := #[{ on := 25, ground := Ground.data }, { on := 24, ground := Ground.guard }], guard := some (24, false) }) (v := ?vg26) rfl (by kernel_rfl) (by kernel_rfl) (by kernel_rfl) (fun _ _ _ h => h) (Or.inl ⟨by rfl, ?hg26⟩) (by assumption) ?rg26
              case hg26 => (intro w hSw; (try dsimp only at hSw); go_simp; try with_reducible rfl)
              try simp only [Act.put, List.setIfInBounds_toArray, List.set_cons_zero, List.set_cons_succ]
              refine wpAnyH_take (i := 27) (oi := { dst := some 50, op := Op.binOp BinOp.neq 3 (Operand.tmp 49) (Operand.const (Value.int IntKind.i64 1)) 3, type := 4, pos := "ref.go:88", after := #[{ on := 26, ground := Ground.data }, { on := 24, ground := Ground.guard }], guard := some (24, false) }) (v := ?vg27) rfl (by kernel_rfl) (by kernel_rfl) (by kernel_rfl) (fun _ _ _ h => h) (Or.inl ⟨by rfl, ?hg27⟩) (by assumption) ?rg27
              case hg27 => (intro w hSw; (try dsimp only at hSw); go_simp; try with_reducible rfl)
              try simp only [Act.put, List.setIfInBounds_toArray, List.set_cons_zero, List.set_cons_succ]
              refine wpAnyH_take (i := 28) (oi := { dst := some 51, op := Op.move (Operand.tmp 50), type := 4, pos := "ref.go:88", after := #[{ on := 27, ground := Ground.data }, { on := 24, ground := Ground.chain }, { on := 24, ground := Ground.guard }], guard := some (24, false) }) (v := ?vg28) rfl (by kernel_rfl) (by kernel_rfl) (by kernel_rfl) (fun _ _ _ h => h) (Or.inl ⟨by rfl, ?hg28⟩) (by assumption) ?rg28
              case hg28 => (intro w hSw; (try dsimp only at hSw); go_simp; try with_reducible rfl)
              try simp only [Act.put, List.setIfInBounds_toArray, List.set_cons_zero, List.set_cons_succ]
              refine wpAnyH_take (i := 29) (oi := { dst := some 52, op := Op.fieldAddr 62 (Operand.tmp 4) 0, type := 0, pos := "ref.go:88", after := #[{ on := 28, ground := Ground.guard }], guard := some (28, true) }) (v := ?vg29) rfl (by kernel_rfl) (by kernel_rfl) (by kernel_rfl) (fun _ _ _ h => h) (Or.inl ⟨by rfl, ?hg29⟩) (by assumption) ?rg29
              case hg29 => (intro w hSw; (try dsimp only at hSw); go_simp; try with_reducible rfl)
              try simp only [Act.put, List.setIfInBounds_toArray, List.set_cons_zero, List.set_cons_succ]
              refine wpAnyH_take (i := 30) (oi := { dst := some 53, op := Op.load 3 (Operand.tmp 52), type := 3, pos := "ref.go:88", after := #[{ on := 29, ground := Ground.data }, { on := 28, ground := Ground.guard }], guard := some (28, true) }) (v := ?vg30) rfl (by kernel_rfl) (by kernel_rfl) (by kernel_rfl) (fun _ _ _ h => h) (Or.inl ⟨by rfl, ?hg30⟩) (by assumption) ?rg30
              case hg30 => (intro w hSw; (try dsimp only at hSw); go_simp; try with_reducible rfl)
              try simp only [Act.put, List.setIfInBounds_toArray, List.set_cons_zero, List.set_cons_succ]
              refine wpAnyH_take (i := 31) (oi := { dst := some 54, op := Op.binOp BinOp.neq 3 (Operand.tmp 53) (Operand.const (Value.int IntKind.i64 3)) 3, type := 4, pos := "ref.go:88", after := #[{ on := 30, ground := Ground.data }, { on := 28, ground := Ground.guard }], guard := some (28, true) }) (v := ?vg31) rfl (by kernel_rfl) (by kernel_rfl) (by kernel_rfl) (fun _ _ _ h => h) (Or.inl ⟨by rfl, ?hg31⟩) (by assumption) ?rg31
              case hg31 => (intro w hSw; (try dsimp only at hSw); go_simp; try with_reducible rfl)
              try simp only [Act.put, List.setIfInBounds_toArray, List.set_cons_zero, List.set_cons_succ]
              refine wpAnyH_take (i := 32) (oi := { dst := some 55, op := Op.pick (Operand.tmp 51) (Operand.tmp 54) (Operand.const (Value.bool false)), type := 4, pos := "ref.go:88", after := #[{ on := 28, ground := Ground.data }, { on := 31, ground := Ground.data }, { on := 24, ground := Ground.guard }], guard := some (24, false) }) (v := ?vg32) rfl (by kernel_rfl) (by kernel_rfl) (by kernel_rfl) (fun _ _ _ h => h) (Or.inl ⟨by rfl, ?hg32⟩) (by assumption) ?rg32
              case hg32 => (intro w hSw; (try dsimp only at hSw); go_simp; try with_reducible rfl)
              try simp only [Act.put, List.setIfInBounds_toArray, List.set_cons_zero, List.set_cons_succ]
              refine wpAnyH_take (i := 33) (oi := { dst := some 56, op := Op.move (Operand.tmp 55), type := 4, pos := "ref.go:88", after := #[{ on := 32, ground := Ground.data }, { on := 28, ground := Ground.chain }, { on := 24, ground := Ground.guard }], guard := some (24, false) }) (v := ?vg33) rfl (by kernel_rfl) (by kernel_rfl) (by kernel_rfl) (fun _ _ _ h => h) (Or.inl ⟨by rfl, ?hg33⟩) (by assumption) ?rg33
              case hg33 => (intro w hSw; (try dsimp only at hSw); go_simp; try with_reducible rfl)
              try simp only [Act.put, List.setIfInBounds_toArray, List.set_cons_zero, List.set_cons_succ]
              refine wpAnyH_take (i := 34) (oi := { dst := some 57, op := Op.fieldAddr 62 (Operand.tmp 4) 1, type := 0, pos := "ref.go:88", after := #[{ on := 33, ground := Ground.guard }], guard := some (33, true) }) (v := undef) rfl (by kernel_rfl) (by kernel_rfl) (by kernel_rfl) (fun _ _ _ h => h) (Or.inr ⟨by rfl, rfl⟩) (by assumption) ?_
              try simp only [Act.put, List.setIfInBounds_toArray, List.set_cons_zero, List.set_cons_succ]
              refine wpAnyH_take (i := 35) (oi := { dst := some 58, op := Op.load 9 (Operand.tmp 57), type := 9, pos := "ref.go:88", after := #[{ on := 34, ground := Ground.data }, { on := 33, ground := Ground.guard }], guard := some (33, true) }) (v := undef) rfl (by kernel_rfl) (by kernel_rfl) (by kernel_rfl) (fun _ _ _ h => h) (Or.inr ⟨by rfl, rfl⟩) (by assumption) ?_
              try simp only [Act.put, List.setIfInBounds_toArray, List.set_cons_zero, List.set_cons_succ]
              refine wpAnyH_take (i := 36) (oi := { dst := some 59, op := Op.binOp BinOp.neq 9 (Operand.tmp 58) (Operand.const (Value.string { data := #[] })) 9, type := 4, pos := "ref.go:88", after := #[{ on := 35, ground := Ground.data }, { on := 33, ground := Ground.guard }], guard := some (33, true) }) (v := undef) rfl (by kernel_rfl) (by kernel_rfl) (by kernel_rfl) (fun _ _ _ h => h) (Or.inr ⟨by rfl, rfl⟩) (by assumption) ?_
              try simp only [Act.put, List.setIfInBounds_toArray, List.set_cons_zero, List.set_cons_succ]
              refine wpAnyH_take (i := 37) (oi := { dst := some 60, op := Op.pick (Operand.tmp 56) (Operand.tmp 59) (Operand.const (Value.bool false)), type := 4, pos := "ref.go:88", after := #[{ on := 33, ground := Ground.data }, { on := 36, ground := Ground.data }, { on := 24, ground := Ground.guard }], guard := some (24, false) }) (v := ?vg37) rfl (by kernel_rfl) (by kernel_rfl) (by kernel_rfl) (fun _ _ _ h => h) (Or.inl ⟨by rfl, ?hg37⟩) (by assumption) ?rg37
              case hg37 => (intro w hSw; (try dsimp only at hSw); go_simp; try with_reducible rfl)
              try simp only [Act.put, List.setIfInBounds_toArray, List.set_cons_zero, List.set_cons_succ]
              refine wpAnyH_take (i := 38) (oi := { dst := some 61, op := Op.pick (Operand.tmp 47) (Operand.const (Value.bool true)) (Operand.tmp 60), type := 4, pos := "ref.go:88", after := #[{ on := 24, ground := Ground.data }, { on := 37, ground := Ground.data }], guard := none }) (v := ?vg38) rfl (by kernel_rfl) (by kernel_rfl) (by kernel_rfl) (fun _ _ _ h => h) (Or.inl ⟨by rfl, ?hg38⟩) (by assumption) ?rg38
              case hg38 => (intro w hSw; (try dsimp only at hSw); go_simp; try with_reducible rfl)
              try simp only [Act.put, List.setIfInBounds_toArray, List.set_cons_zero, List.set_cons_succ]
              refine wpAnyH_done (by kernel_rfl) ?_ _
              have W5 := Lib.hid (on W4.out LU.out)
              clear tz t1 t3 n1 n3 d0 d1 d2 d3
              have d0 := PU.out.c0
              have d2 := PU.out.c2
              have d3 := PU.out.c3
              simp only at d0 d2 d3
              by_cases g1 : a < 0
              · go_wp2_with fail
                go_ret
                exact ⟨by rw [← HR.out, RF.out (by rw [goes_bad HK.out (Or.inl g1) HN0.out, Bool.and_false])]; rfl, W5.out⟩
              by_cases g2 : (n : Int) ≤ a
              · go_wp2_with fail
                go_ret
                exact ⟨by rw [← HR.out, RF.out (by rw [goes_bad HK.out (Or.inr (Or.inl g2)) HN0.out, Bool.and_false])]; rfl, W5.out⟩
              by_cases g7 : k = 7
              · have t7 : (k == 7) = true := by simp [g7]
                have H7 := Lib.hid g7
                clear g7
                by_cases g70 : a = 0
                · have u7 : (a != 0) = false := by simp [g70]
                  have H70 := Lib.hid g70
                  clear g70
                  by_cases g4 : b < 0
                  · go_wp2_with fail
                    go_ret
                    exact ⟨by rw [← HR.out, RF.out (by rw [goes_bad HK.out (Or.inr (Or.inr (Or.inr (Or.inl g4)))) HN0.out, Bool.and_false])]; rfl, W5.out⟩
                  by_cases g5 : (n : Int) ≤ b
                  · go_wp2_with fail
                    go_ret
                    exact ⟨by rw [← HR.out, RF.out (by rw [goes_bad HK.out (Or.inr (Or.inr (Or.inr (Or.inr (Or.inl g5))))) HN0.out, Bool.and_false])]; rfl, W5.out⟩
                  have H6 : Hid (k ≠ 6) := by unfold Hid; have := H7.out; omega
                  have t6 : (k != 6) = true := by simpa using H6.out
                  by_cases g6 : b = 0
                  · have hgd : Hid ((txtOk k t && goes k a b n) = true) := by unfold Hid; rw [HTX.out, goes_good HK.out g1 g2 (fun _ => H70.out) g4 g5 (fun _ => g6)]; rfl
                    have u6 : (b != 0) = false := by simp [g6]
                    clear g6
                    cases gk with
                    | zero => exact absurd hig.out (by have := HI2.out; omega)
                    | succ g =>
                      go_wp2_with fail
                      go_roundg g
                      case measure => omega
                      case rel => exact ⟨i + 1, by first | rfl | exact congrArg (Value.int .i64) hwi.out, by have := hig.out; unfold Hid; omega, by unfold Hid; rw [HAL.out, HOK.out, hgd.out]; rfl, W5⟩
                  · have HB6 := Lib.hid g6
                    have u6 : (b != 0) = true := by simpa using g6
                    clear g6
                    go_wp2_with fail
                    go_ret
                    exact ⟨by rw [← HR.out, RF.out (by rw [goes_bad HK.out (Or.inr (Or.inr (Or.inr (Or.inr (Or.inr ⟨H6.out, HB6.out⟩))))) HN0.out, Bool.and_false])]; rfl, W5.out⟩
                · have u7 : (a != 0) = true := by simpa using g70
                  have H70 := Lib.hid g70
                  clear g70
                  go_wp2_with fail
                  go_ret
                  exact ⟨by rw [← HR.out, RF.out (by rw [goes_bad HK.out (Or.inr (Or.inr (Or.inl ⟨H7.out, H70.out⟩))) HN0.out, Bool.and_false])]; rfl, W5.out⟩
              · have t7 : (k == 7) = false := by simpa using g7
                have H7 := Lib.hid g7
                clear g7
                by_cases g4 : b < 0
                · go_wp2_with fail
                  go_ret
                  exact ⟨by rw [← HR.out, RF.out (by rw [goes_bad HK.out (Or.inr (Or.inr (Or.inr (Or.inl g4)))) HN0.out, Bool.and_false])]; rfl, W5.out⟩
                by_cases g5 : (n : Int) ≤ b
                · go_wp2_with fail
                  go_ret
                  exact ⟨by rw [← HR.out, RF.out (by rw [goes_bad HK.out (Or.inr (Or.inr (Or.inr (Or.inr (Or.inl g5))))) HN0.out, Bool.and_false])]; rfl, W5.out⟩
                by_cases g60 : k = 6
                · have t6 : (k != 6) = false := by simp [g60]
                  have H6 := Lib.hid g60
                  clear g60
                  have hgd : Hid ((txtOk k t && goes k a b n) = true) := by unfold Hid; rw [HTX.out, goes_good HK.out g1 g2 (fun q => absurd q H7.out) g4 g5 (fun q => absurd H6.out q)]; rfl
                  cases gk with
                  | zero => exact absurd hig.out (by have := HI2.out; omega)
                  | succ g =>
                    go_wp2_with fail
                    go_roundg g
                    case measure => omega
                    case rel => exact ⟨i + 1, by first | rfl | exact congrArg (Value.int .i64) hwi.out, by have := hig.out; unfold Hid; omega, by unfold Hid; rw [HAL.out, HOK.out, hgd.out]; rfl, W5⟩
                · have t6 : (k != 6) = true := by simpa using g60
                  have H6 := Lib.hid g60
                  clear g60
                  by_cases g6 : b = 0
                  · have hgd : Hid ((txtOk k t && goes k a b n) = true) := by unfold Hid; rw [HTX.out, goes_good HK.out g1 g2 (fun q => absurd q H7.out) g4 g5 (fun _ => g6)]; rfl
                    have u6 : (b != 0) = false := by simp [g6]
                    clear g6
                    cases gk with
                    | zero => exact absurd hig.out (by have := HI2.out; omega)
                    | succ g =>
                      go_wp2_with fail
                      go_roundg g
                      case measure => omega
                      case rel => exact ⟨i + 1, by first | rfl | exact congrArg (Value.int .i64) hwi.out, by have := hig.out; unfold Hid; omega, by unfold Hid; rw [HAL.out, HOK.out, hgd.out]; rfl, W5⟩
                  · have HB6 := Lib.hid g6
                    have u6 : (b != 0) = true := by simpa using g6
                    clear g6
                    go_wp2_with fail
                    go_ret
                    exact ⟨by rw [← HR.out, RF.out (by rw [goes_bad HK.out (Or.inr (Or.inr (Or.inr (Or.inr (Or.inr ⟨H6.out, HB6.out⟩))))) HN0.out, Bool.and_false])]; rfl, W5.out⟩
            · have hzf : good t.data.toList = false := by simpa using hz
              have hne := union_bad hzf
              obtain ⟨u, hu⟩ : ∃ u, (W13.tx fun i => has t.data.toList i || has t.data.toList i) = u := ⟨_, rfl⟩
              rw [hu] at HU0 hne
              have HU := Lib.hid HU0
              have tz : (u.toList != t.toList) = true := by
                have : ¬ u.toList = t.toList := fun q => hne (Kit.ba_ext (by rw [← Lib.toList_data, ← Lib.toList_data, q]))
                simpa using this
              have tz2 : (u.toList == t.toList) = false := by simpa using tz
              have HTX : Hid (txtOk k t = false) := by unfold Hid; rw [HX.out, hzf]
              clear hz hzf hne hu HU0
              refine wp_region_held_drew (S := fun w' => w'.cell? ⟨b3, 0, none⟩ = some (.int .i64 k) ∧ w'.cell? ⟨b3, 1, none⟩ = some (.string t)) (by kernel_rfl) ⟨P4.out.c0, P4.out.c1⟩ (fun hHeld => ?_)
              refine wpAnyH_take (i := 0) (oi := { dst := some 23, op := Op.fieldAddr 62 (Operand.tmp 4) 0, type := 0, pos := "ref.go:88", after := #[], guard := none }) (v := ?vh0) rfl (by kernel_rfl) (by kernel_rfl) (by kernel_rfl) (fun _ _ _ h => h) (Or.inl ⟨by rfl, ?hh0⟩) (by assumption) ?rh0
              case hh0 => (intro w hSw; (try dsimp only at hSw); go_simp; try with_reducible rfl)
              try simp only [Act.put, List.setIfInBounds_toArray, List.set_cons_zero, List.set_cons_succ]
              refine wpAnyH_take (i := 1) (oi := { dst := some 24, op := Op.load 3 (Operand.tmp 23), type := 3, pos := "ref.go:88", after := #[{ on := 0, ground := Ground.data }], guard := none }) (v := ?vh1) rfl (by kernel_rfl) (by kernel_rfl) (by kernel_rfl) (fun _ _ _ h => h) (Or.inl ⟨by rfl, ?hh1⟩) (by assumption) ?rh1
              case hh1 => (intro w hSw; (try dsimp only at hSw); go_simp; try with_reducible rfl)
              try simp only [Act.put, List.setIfInBounds_toArray, List.set_cons_zero, List.set_cons_succ]
              refine wpAnyH_take (i := 2) (oi := { dst := some 25, op := Op.binOp BinOp.eql 3 (Operand.tmp 24) (Operand.const (Value.int IntKind.i64 1)) 3, type := 4, pos := "ref.go:88", after := #[{ on := 1, ground := Ground.data }], guard := none }) (v := ?vh2) rfl (by kernel_rfl) (by kernel_rfl) (by kernel_rfl) (fun _ _ _ h => h) (Or.inl ⟨by rfl, ?hh2⟩) (by assumption) ?rh2
              case hh2 => (intro w hSw; (try dsimp only at hSw); go_simp; try with_reducible rfl)
              try simp only [Act.put, List.setIfInBounds_toArray, List.set_cons_zero, List.set_cons_succ]
              refine wpAnyH_take (i := 3) (oi := { dst := some 26, op := Op.move (Operand.tmp 25), type := 4, pos := "ref.go:88", after := #[{ on := 2, ground := Ground.data }], guard := none }) (v := ?vh3) rfl (by kernel_rfl) (by kernel_rfl) (by kernel_rfl) (fun _ _ _ h => h) (Or.inl ⟨by rfl, ?hh3⟩) (by assumption) ?rh3
              case hh3 => (intro w hSw; (try dsimp only at hSw); go_simp; try with_reducible rfl)
              try simp only [Act.put, List.setIfInBounds_toArray, List.set_cons_zero, List.set_cons_succ]
              refine wpAnyH_take (i := 4) (oi := { dst := some 27, op := Op.fieldAddr 62 (Operand.tmp 4) 1, type := 0, pos := "ref.go:88", after := #[{ on := 3, ground := Ground.guard }], guard := some (3, true) }) (v := undef) rfl (by kernel_rfl) (by kernel_rfl) (by kernel_rfl) (fun _ _ _ h => h) (Or.inr ⟨by rfl, rfl⟩) (by assumption) ?_
              try simp only [Act.put, List.setIfInBounds_toArray, List.set_cons_zero, List.set_cons_succ]
              refine wpAnyH_take (i := 5) (oi := { dst := some 28, op := Op.load 9 (Operand.tmp 27), type := 9, pos := "ref.go:88", after := #[{ on := 4, ground := Ground.data }, { on := 3, ground := Ground.guard }], guard := some (3, true) }) (v := undef) rfl (by kernel_rfl) (by kernel_rfl) (by kernel_rfl) (fun _ _ _ h => h) (Or.inr ⟨by rfl, rfl⟩) (by assumption) ?_
              try simp only [Act.put, List.setIfInBounds_toArray, List.set_cons_zero, List.set_cons_succ]
              refine wpAnyH_take (i := 6) (oi := { dst := some 29, op := Op.call { callee := Callee.builtin Builtin.len, args := #[Operand.tmp 28], argTypes := #[9] }, type := 3, pos := "ref.go:88", after := #[{ on := 5, ground := Ground.data }, { on := 3, ground := Ground.guard }], guard := some (3, true) }) (v := undef) rfl (by kernel_rfl) (by kernel_rfl) (by kernel_rfl) (fun _ _ _ h => h) (Or.inr ⟨by rfl, rfl⟩) (by assumption) ?_
              try simp only [Act.put, List.setIfInBounds_toArray, List.set_cons_zero, List.set_cons_succ]
              refine wpAnyH_take (i := 7) (oi := { dst := some 30, op := Op.binOp BinOp.neq 3 (Operand.tmp 29) (Operand.const (Value.int IntKind.i64 1)) 3, type := 4, pos := "ref.go:88", after := #[{ on := 6, ground := Ground.data }, { on := 3, ground := Ground.guard }], guard := some (3, true) }) (v := undef) rfl (by kernel_rfl) (by kernel_rfl) (by kernel_rfl) (fun _ _ _ h => h) (Or.inr ⟨by rfl, rfl⟩) (by assumption) ?_
              try simp only [Act.put, List.setIfInBounds_toArray, List.set_cons_zero, List.set_cons_succ]
              refine wpAnyH_take (i := 8) (oi := { dst := some 31, op := Op.pick (Operand.tmp 26) (Operand.tmp 30) (Operand.const (Value.bool false)), type := 4, pos := "ref.go:88", after := #[{ on := 3, ground := Ground.data }, { on := 7, ground := Ground.data }], guard := none }) (v := ?vh8) rfl (by kernel_rfl) (by kernel_rfl) (by kernel_rfl) (fun _ _ _ h => h) (Or.inl ⟨by rfl, ?hh8⟩) (by assumption) ?rh8
              case hh8 => (intro w hSw; (try dsimp only at hSw); go_simp; try with_reducible rfl)
              try simp only [Act.put, List.setIfInBounds_toArray, List.set_cons_zero, List.set_cons_succ]
              refine wpAnyH_take (i := 9) (oi := { dst := some 32, op := Op.move (Operand.tmp 31), type := 4, pos := "ref.go:88", after := #[{ on := 8, ground := Ground.data }, { on := 3, ground := Ground.chain }], guard := none }) (v := ?vh9) rfl (by kernel_rfl) (by kernel_rfl) (by kernel_rfl) (fun _ _ _ h => h) (Or.inl ⟨by rfl, ?hh9⟩) (by assumption) ?rh9
              case hh9 => (intro w hSw; (try dsimp only at hSw); go_simp; try with_reducible rfl)
              try simp only [Act.put, List.setIfInBounds_toArray, List.set_cons_zero, List.set_cons_succ]
              refine wpAnyH_take (i := 10) (oi := { dst := some 33, op := Op.fieldAddr 62 (Operand.tmp 4) 0, type := 0, pos := "ref.go:88", after := #[{ on := 9, ground := Ground.guard }], guard := some (9, false) }) (v := ?vh10) rfl (by kernel_rfl) (by kernel_rfl) (by kernel_rfl) (fun _ _ _ h => h) (Or.inl ⟨by rfl, ?hh10⟩) (by assumption) ?rh10
              case hh10 => (intro w hSw; (try dsimp only at hSw); go_simp; try with_reducible rfl)
              try simp only [Act.put, List.setIfInBounds_toArray, List.set_cons_zero, List.set_cons_succ]
              refine wpAnyH_take (i := 11) (oi := { dst := some 34, op := Op.load 3 (Operand.tmp 33), type := 3, pos := "ref.go:88", after := #[{ on := 10, ground := Ground.data }, { on := 9, ground := Ground.guard }], guard := some (9, false) }) (v := ?vh11) rfl (by kernel_rfl) (by kernel_rfl) (by kernel_rfl) (fun _ _ _ h => h) (Or.inl ⟨by rfl, ?hh11⟩) (by assumption) ?rh11
              case hh11 => (intro w hSw; (try dsimp only at hSw); go_simp; try with_reducible rfl)
              try simp only [Act.put, List.setIfInBounds_toArray, List.set_cons_zero, List.set_cons_succ]
              refine wpAnyH_take (i := 12) (oi := { dst := some 35, op := Op.binOp BinOp.eql 3 (Operand.tmp 34) (Operand.const (Value.int IntKind.i64 3)) 3, type := 4, pos := "ref.go:88", after := #[{ on := 11, ground := Ground.data }, { on := 9, ground := Ground.guard }], guard := some (9, false) }) (v := ?vh12) rfl (by kernel_rfl) (by kernel_rfl) (by kernel_rfl) (fun _ _ _ h => h) (Or.inl ⟨by rfl, ?hh12⟩) (by assumption) ?rh12
              case hh12 => (intro w hSw; (try dsimp only at hSw); go_simp; try with_reducible rfl)
              try simp only [Act.put, List.setIfInBounds_toArray, List.set_cons_zero, List.set_cons_succ]
              refine wpAnyH_take (i := 13) (oi := { dst := some 36, op := Op.move (Operand.tmp 35), type := 4, pos := "ref.go:88", after := #[{ on := 12, ground := Ground.data }, { on := 9, ground := Ground.chain }, { on := 9, ground := Ground.guard }], guard := some (9, false) }) (v := ?vh13) rfl (by kernel_rfl) (by kernel_rfl) (by kernel_rfl) (fun _ _ _ h => h) (Or.inl ⟨by rfl, ?hh13⟩) (by assumption) ?rh13
              case hh13 => (intro w hSw; (try dsimp only at hSw); go_simp; try with_reducible rfl)
              try simp only [Act.put, List.setIfInBounds_toArray, List.set_cons_zero, List.set_cons_succ]
              refine wpAnyH_take (i := 14) (oi := { dst := some 37, op := Op.fieldAddr 62 (Operand.tmp 4) 1, type := 0, pos := "ref.go:88", after := #[{ on := 13, ground := Ground.guard }], guard := some (13, true) }) (v := ?vh14) rfl (by kernel_rfl) (by kernel_rfl) (by kernel_rfl) (fun _ _ _ h => h) (Or.inl ⟨by rfl, ?hh14⟩) (by assumption) ?rh14
              case hh14 => (intro w hSw; (try dsimp only at hSw); go_simp; try with_reducible rfl)
              try simp only [Act.put, List.setIfInBounds_toArray, List.set_cons_zero, List.set_cons_succ]
              refine wpAnyH_take (i := 15) (oi := { dst := some 38, op := Op.load 9 (Operand.tmp 37), type := 9, pos := "ref.go:88", after := #[{ on := 14, ground := Ground.data }, { on := 13, ground := Ground.guard }], guard := some (13, true) }) (v := ?vh15) rfl (by kernel_rfl) (by kernel_rfl) (by kernel_rfl) (fun _ _ _ h => h) (Or.inl ⟨by rfl, ?hh15⟩) (by assumption) ?rh15
              case hh15 => (intro w hSw; (try dsimp only at hSw); go_simp; try with_reducible rfl)
              try simp only [Act.put, List.setIfInBounds_toArray, List.set_cons_zero, List.set_cons_succ]
              refine wpAnyH_take (i := 16) (oi := { dst := some 39, op := Op.fieldAddr 62 (Operand.tmp 4) 1, type := 0, pos := "ref.go:88", after := #[{ on := 13, ground := Ground.guard }], guard := some (13, true) }) (v := ?vh16) rfl (by kernel_rfl) (by kernel_rfl) (by kernel_rfl) (fun _ _ _ h => h) (Or.inl ⟨by rfl, ?hh16⟩) (by assumption) ?rh16
              case hh16 => (intro w hSw; (try dsimp only at hSw); go_simp; try with_reducible rfl)
              try simp only [Act.put, List.setIfInBounds_toArray, List.set_cons_zero, List.set_cons_succ]
              refine wpAnyH_take (i := 17) (oi := { dst := some 40, op := Op.load 9 (Operand.tmp 39), type := 9, pos := "ref.go:88", after := #[{ on := 16, ground := Ground.data }, { on := 13, ground := Ground.guard }], guard := some (13, true) }) (v := ?vh17) rfl (by kernel_rfl) (by kernel_rfl) (by kernel_rfl) (fun _ _ _ h => h) (Or.inl ⟨by rfl, ?hh17⟩) (by assumption) ?rh17
              case hh17 => (intro w hSw; (try dsimp only at hSw); go_simp; try with_reducible rfl)
              try simp only [Act.put, List.setIfInBounds_toArray, List.set_cons_zero, List.set_cons_succ]
              refine wpAnyH_take (i := 19) (oi := { dst := some 42, op := Op.fieldAddr 62 (Operand.tmp 4) 1, type := 0, pos := "ref.go:88", after := #[{ on := 13, ground := Ground.guard }], guard := some (13, true) }) (v := ?vh19) rfl (by kernel_rfl) (by kernel_rfl) (by kernel_rfl) (fun _ _ _ h => h) (Or.inl ⟨by rfl, ?hh19⟩) (by assumption) ?rh19
              case hh19 => (intro w hSw; (try dsimp only at hSw); go_simp; try with_reducible rfl)
              try simp only [Act.put, List.setIfInBounds_toArray, List.set_cons_zero, List.set_cons_succ]
              refine wpAnyH_take (i := 20) (oi := { dst := some 43, op := Op.load 9 (Operand.tmp 42), type := 9, pos := "ref.go:88", after := #[{ on := 19, ground := Ground.data }, { on := 13, ground := Ground.guard }], guard := some (13, true) }) (v := ?vh20) rfl (by kernel_rfl) (by kernel_rfl) (by kernel_rfl) (fun _ _ _ h => h) (Or.inl ⟨by rfl, ?hh20⟩) (by assumption) ?rh20
              case hh20 => (intro w hSw; (try dsimp only at hSw); go_simp; try with_reducible rfl)
              try simp only [Act.put, List.setIfInBounds_toArray, List.set_cons_zero, List.set_cons_succ]
              refine wpAnyH_ready (rs := [18]) (by kernel_rfl) (by simp) ?_
              refine AllReadyH.cons (o := { dst := some 41, op := Op.call { callee := Callee.value (Operand.func 41), args := #[Operand.tmp 38, Operand.tmp 40], argTypes := #[9, 9] }, type := 9, pos := "ref.go:88", after := #[{ on := 15, ground := Ground.data }, { on := 17, ground := Ground.data }, { on := 13, ground := Ground.chain }, { on := 13, ground := Ground.guard }], guard := some (13, true) }) rfl (fun K hK => ?_) AllReadyH.nil
              go_simp
              (go_at_call 41; refine (HU.out _).mono ?_; rintro e x1 ⟨rfl, m1⟩; have LU := Lib.hid (on D4.out m1); have PU := Lib.hid (P4.out.below LU.out); clear m1)
              go_wp2_with fail
              refine hK.out _ _ ?_ (fun hHeld => ?_)
              · exact ⟨PU.out.c0, PU.out.c1⟩
              clear hK K
              try simp only [Act.put, List.setIfInBounds_toArray, List.set_cons_zero, List.set_cons_succ]
              refine wpAnyH_take (i := 21) (oi := { dst := some 44, op := Op.binOp BinOp.neq 9 (Operand.tmp 41) (Operand.tmp 43) 9, type := 4, pos := "ref.go:88", after := #[{ on := 18, ground := Ground.data }, { on := 20, ground := Ground.data }, { on := 13, ground := Ground.guard }], guard := some (13, true) }) (v := ?vh21) rfl (by kernel_rfl) (by kernel_rfl) (by kernel_rfl) (fun _ _ _ h => h) (Or.inl ⟨by rfl, ?hh21⟩) (by assumption) ?rh21
              case hh21 => (intro w hSw; (try dsimp only at hSw); go_simp; try with_reducible rfl)
              try simp only [Act.put, List.setIfInBounds_toArray, List.set_cons_zero, List.set_cons_succ]
              refine wpAnyH_take (i := 22) (oi := { dst := some 45, op := Op.pick (Operand.tmp 36) (Operand.tmp 44) (Operand.const (Value.bool false)), type := 4, pos := "ref.go:88", after := #[{ on := 13, ground := Ground.data }, { on := 21, ground := Ground.data }, { on := 9, ground := Ground.guard }], guard := some (9, false) }) (v := ?vh22) rfl (by kernel_rfl) (by kernel_rfl) (by kernel_rfl) (fun _ _ _ h => h) (Or.inl ⟨by rfl, ?hh22⟩) (by assumption) ?rh22
              case hh22 => (intro w hSw; (try dsimp only at hSw); go_simp; try with_reducible rfl)
              try simp only [Act.put, List.setIfInBounds_toArray, List.set_cons_zero, List.set_cons_succ]
              refine wpAnyH_take (i := 23) (oi := { dst := some 46, op := Op.pick (Operand.tmp 32) (Operand.const (Value.bool true)) (Operand.tmp 45), type := 4, pos := "ref.go:88", after := #[{ on := 9, ground := Ground.data }, { on := 22, ground := Ground.data }], guard := none }) (v := ?vh23) rfl (by kernel_rfl) (by kernel_rfl) (by kernel_rfl) (fun _ _ _ h => h) (Or.inl ⟨by rfl, ?hh23⟩) (by assumption) ?rh23
              case hh23 => (intro w hSw; (try dsimp only at hSw); go_simp; try with_reducible rfl)
              try simp only [Act.put, List.setIfInBounds_toArray, List.set_cons_zero, List.set_cons_succ]
              refine wpAnyH_take (i := 24) (oi := { dst := some 47, op := Op.move (Operand.tmp 46), type := 4, pos := "ref.go:88", after := #[{ on := 23, ground := Ground.data }, { on := 18, ground := Ground.chain }], guard := none }) (v := ?vh24) rfl (by kernel_rfl) (by kernel_rfl) (by kernel_rfl) (fun _ _ _ h => h) (Or.inl ⟨by rfl, ?hh24⟩) (by assumption) ?rh24
              case hh24 => (intro w hSw; (try dsimp only at hSw); go_simp; try with_reducible rfl)
              try simp only [Act.put, List.setIfInBounds_toArray, List.set_cons_zero, List.set_cons_succ]
              refine wpAnyH_take (i := 25) (oi := { dst := some 48, op := Op.fieldAddr 62 (Operand.tmp 4) 0, type := 0, pos := "ref.go:88", after := #[{ on := 24, ground := Ground.guard }], guard := some (24, false) }) (v := undef) rfl (by kernel_rfl) (by kernel_rfl) (by kernel_rfl) (fun _ _ _ h => h) (Or.inr ⟨by rfl, rfl⟩) (by assumption) ?_
              try simp only [Act.put, List.setIfInBounds_toArray, List.set_cons_zero, List.set_cons_succ]
              refine wpAnyH_take (i := 26) (oi := { dst := some 49, op := Op.load 3 (Operand.tmp 48), type := 3, pos := "ref.go:88", after := #[{ on := 25, ground := Ground.data }, { on := 24, ground := Ground.guard }], guard := some (24, false) }) (v := undef) rfl (by kernel_rfl) (by kernel_rfl) (by kernel_rfl) (fun _ _ _ h => h) (Or.inr ⟨by rfl, rfl⟩) (by assumption) ?_
              try simp only [Act.put, List.setIfInBounds_toArray, List.set_cons_zero, List.set_cons_succ]
              refine wpAnyH_take (i := 27) (oi := { dst := some 50, op := Op.binOp BinOp.neq 3 (Operand.tmp 49) (Operand.const (Value.int IntKind.i64 1)) 3, type := 4, pos := "ref.go:88", after := #[{ on := 26, ground := Ground.data }, { on := 24, ground := Ground.guard }], guard := some (24, false) }) (v := undef) rfl (by kernel_rfl) (by kernel_rfl) (by kernel_rfl) (fun _ _ _ h => h) (Or.inr ⟨by rfl, rfl⟩) (by assumption) ?_
              try simp only [Act.put, List.setIfInBounds_toArray, List.set_cons_zero, List.set_cons_succ]
              refine wpAnyH_take (i := 28) (oi := { dst := some 51, op := Op.move (Operand.tmp 50), type := 4, pos := "ref.go:88", after := #[{ on := 27, ground := Ground.data }, { on := 24, ground := Ground.chain }, { on := 24, ground := Ground.guard }], guard := some (24, false) }) (v := undef) rfl (by kernel_rfl) (by kernel_rfl) (by kernel_rfl) (fun _ _ _ h => h) (Or.inr ⟨by rfl, rfl⟩) (by assumption) ?_
              try simp only [Act.put, List.setIfInBounds_toArray, List.set_cons_zero, List.set_cons_succ]
              refine wpAnyH_take (i := 29) (oi := { dst := some 52, op := Op.fieldAddr 62 (Operand.tmp 4) 0, type := 0, pos := "ref.go:88", after := #[{ on := 28, ground := Ground.guard }], guard := some (28, true) }) (v := undef) rfl (by kernel_rfl) (by kernel_rfl) (by kernel_rfl) (fun _ _ _ h => h) (Or.inr ⟨by rfl, rfl⟩) (by assumption) ?_
              try simp only [Act.put, List.setIfInBounds_toArray, List.set_cons_zero, List.set_cons_succ]
              refine wpAnyH_take (i := 30) (oi := { dst := some 53, op := Op.load 3 (Operand.tmp 52), type := 3, pos := "ref.go:88", after := #[{ on := 29, ground := Ground.data }, { on := 28, ground := Ground.guard }], guard := some (28, true) }) (v := undef) rfl (by kernel_rfl) (by kernel_rfl) (by kernel_rfl) (fun _ _ _ h => h) (Or.inr ⟨by rfl, rfl⟩) (by assumption) ?_
              try simp only [Act.put, List.setIfInBounds_toArray, List.set_cons_zero, List.set_cons_succ]
              refine wpAnyH_take (i := 31) (oi := { dst := some 54, op := Op.binOp BinOp.neq 3 (Operand.tmp 53) (Operand.const (Value.int IntKind.i64 3)) 3, type := 4, pos := "ref.go:88", after := #[{ on := 30, ground := Ground.data }, { on := 28, ground := Ground.guard }], guard := some (28, true) }) (v := undef) rfl (by kernel_rfl) (by kernel_rfl) (by kernel_rfl) (fun _ _ _ h => h) (Or.inr ⟨by rfl, rfl⟩) (by assumption) ?_
              try simp only [Act.put, List.setIfInBounds_toArray, List.set_cons_zero, List.set_cons_succ]
              refine wpAnyH_take (i := 32) (oi := { dst := some 55, op := Op.pick (Operand.tmp 51) (Operand.tmp 54) (Operand.const (Value.bool false)), type := 4, pos := "ref.go:88", after := #[{ on := 28, ground := Ground.data }, { on := 31, ground := Ground.data }, { on := 24, ground := Ground.guard }], guard := some (24, false) }) (v := undef) rfl (by kernel_rfl) (by kernel_rfl) (by kernel_rfl) (fun _ _ _ h => h) (Or.inr ⟨by rfl, rfl⟩) (by assumption) ?_
              try simp only [Act.put, List.setIfInBounds_toArray, List.set_cons_zero, List.set_cons_succ]
              refine wpAnyH_take (i := 33) (oi := { dst := some 56, op := Op.move (Operand.tmp 55), type := 4, pos := "ref.go:88", after := #[{ on := 32, ground := Ground.data }, { on := 28, ground := Ground.chain }, { on := 24, ground := Ground.guard }], guard := some (24, false) }) (v := undef) rfl (by kernel_rfl) (by kernel_rfl) (by kernel_rfl) (fun _ _ _ h => h) (Or.inr ⟨by rfl, rfl⟩) (by assumption) ?_
              try simp only [Act.put, List.setIfInBounds_toArray, List.set_cons_zero, List.set_cons_succ]
              refine wpAnyH_take (i := 34) (oi := { dst := some 57, op := Op.fieldAddr 62 (Operand.tmp 4) 1, type := 0, pos := "ref.go:88", after := #[{ on := 33, ground := Ground.guard }], guard := some (33, true) }) (v := undef) rfl (by kernel_rfl) (by kernel_rfl) (by kernel_rfl) (fun _ _ _ h => h) (Or.inr ⟨by rfl, rfl⟩) (by assumption) ?_
              try simp only [Act.put, List.setIfInBounds_toArray, List.set_cons_zero, List.set_cons_succ]
              refine wpAnyH_take (i := 35) (oi := { dst := some 58, op := Op.load 9 (Operand.tmp 57), type := 9, pos := "ref.go:88", after := #[{ on := 34, ground := Ground.data }, { on := 33, ground := Ground.guard }], guard := some (33, true) }) (v := undef) rfl (by kernel_rfl) (by kernel_rfl) (by kernel_rfl) (fun _ _ _ h => h) (Or.inr ⟨by rfl, rfl⟩) (by assumption) ?_
              try simp only [Act.put, List.setIfInBounds_toArray, List.set_cons_zero, List.set_cons_succ]
              refine wpAnyH_take (i := 36) (oi := { dst := some 59, op := Op.binOp BinOp.neq 9 (Operand.tmp 58) (Operand.const (Value.string { data := #[] })) 9, type := 4, pos := "ref.go:88", after := #[{ on := 35, ground := Ground.data }, { on := 33, ground := Ground.guard }], guard := some (33, true) }) (v := undef) rfl (by kernel_rfl) (by kernel_rfl) (by kernel_rfl) (fun _ _ _ h => h) (Or.inr ⟨by rfl, rfl⟩) (by assumption) ?_
              try simp only [Act.put, List.setIfInBounds_toArray, List.set_cons_zero, List.set_cons_succ]
              refine wpAnyH_take (i := 37) (oi := { dst := some 60, op := Op.pick (Operand.tmp 56) (Operand.tmp 59) (Operand.const (Value.bool false)), type := 4, pos := "ref.go:88", after := #[{ on := 33, ground := Ground.data }, { on := 36, ground := Ground.data }, { on := 24, ground := Ground.guard }], guard := some (24, false) }) (v := undef) rfl (by kernel_rfl) (by kernel_rfl) (by kernel_rfl) (fun _ _ _ h => h) (Or.inr ⟨by rfl, rfl⟩) (by assumption) ?_
              try simp only [Act.put, List.setIfInBounds_toArray, List.set_cons_zero, List.set_cons_succ]
              refine wpAnyH_take (i := 38) (oi := { dst := some 61, op := Op.pick (Operand.tmp 47) (Operand.const (Value.bool true)) (Operand.tmp 60), type := 4, pos := "ref.go:88", after := #[{ on := 24, ground := Ground.data }, { on := 37, ground := Ground.data }], guard := none }) (v := ?vh38) rfl (by kernel_rfl) (by kernel_rfl) (by kernel_rfl) (fun _ _ _ h => h) (Or.inl ⟨by rfl, ?hh38⟩) (by assumption) ?rh38
              case hh38 => (intro w hSw; (try dsimp only at hSw); go_simp; try with_reducible rfl)
              try simp only [Act.put, List.setIfInBounds_toArray, List.set_cons_zero, List.set_cons_succ]
              refine wpAnyH_done (by kernel_rfl) ?_ _
              have W5 := Lib.hid (on W4.out LU.out)
              go_wp2_with fail
              go_ret
              exact ⟨by rw [← HR.out, RF.out (by rw [HTX.out, Bool.false_and])]; rfl, W5.out⟩
          · have t3 : (k == 3) = false := by simpa using h3
            have n3 : (k != 3) = true := by simpa using h3
            have HX : Hid (txtOk k t = decide (t.size = 0)) := by unfold Hid txtOk; rw [if_neg h1, if_neg h3]
            clear h1 h3
            by_cases hz : t.size = 0
            · have te := Kit.list_none (s := t) (by omega)
              have te2 := Kit.list_nil (s := t) (by omega)
              have HTX : Hid (txtOk k t = true) := by unfold Hid; rw [HX.out, decide_eq_true hz]
              clear hz
              go_quiet (fail)
              have W5 := Lib.hid (on W4.out (below_draws w4 nq))
              clear te te2 t1 t3 n1 n3 d1
              by_cases g1 : a < 0
              · go_wp2_with fail
                go_ret
                exact ⟨by rw [← HR.out, RF.out (by rw [goes_bad HK.out (Or.inl g1) HN0.out, Bool.and_false])]; rfl, W5.out⟩
              by_cases g2 : (n : Int) ≤ a
              · go_wp2_with fail
                go_ret
                exact ⟨by rw [← HR.out, RF.out (by rw [goes_bad HK.out (Or.inr (Or.inl g2)) HN0.out, Bool.and_false])]; rfl, W5.out⟩
              by_cases g7 : k = 7
              · have t7 : (k == 7) = true := by simp [g7]
                have H7 := Lib.hid g7
                clear g7
                by_cases g70 : a = 0
                · have u7 : (a != 0) = false := by simp [g70]
                  have H70 := Lib.hid g70
                  clear g70
                  by_cases g4 : b < 0
                  · go_wp2_with fail
                    go_ret
                    exact ⟨by rw [← HR.out, RF.out (by rw [goes_bad HK.out (Or.inr (Or.inr (Or.inr (Or.inl g4)))) HN0.out, Bool.and_false])]; rfl, W5.out⟩
                  by_cases g5 : (n : Int) ≤ b
                  · go_wp2_with fail
                    go_ret
                    exact ⟨by rw [← HR.out, RF.out (by rw [goes_bad HK.out (Or.inr (Or.inr (Or.inr (Or.inr (Or.inl g5))))) HN0.out, Bool.and_false])]; rfl, W5.out⟩
                  have H6 : Hid (k ≠ 6) := by unfold Hid; have := H7.out; omega
                  have t6 : (k != 6) = true := by simpa using H6.out
                  by_cases g6 : b = 0
                  · have hgd : Hid ((txtOk k t && goes k a b n) = true) := by unfold Hid; rw [HTX.out, goes_good HK.out g1 g2 (fun _ => H70.out) g4 g5 (fun _ => g6)]; rfl
                    have u6 : (b != 0) = false := by simp [g6]
                    clear g6
                    cases gk with
                    | zero => exact absurd hig.out (by have := HI2.out; omega)
                    | succ g =>
                      go_wp2_with fail
                      go_roundg g
                      case measure => omega
                      case rel => exact ⟨i + 1, by first | rfl | exact congrArg (Value.int .i64) hwi.out, by have := hig.out; unfold Hid; omega, by unfold Hid; rw [HAL.out, HOK.out, hgd.out]; rfl, W5⟩
                  · have HB6 := Lib.hid g6
                    have u6 : (b != 0) = true := by simpa using g6
                    clear g6
                    go_wp2_with fail
                    go_ret
                    exact ⟨by rw [← HR.out, RF.out (by rw [goes_bad HK.out (Or.inr (Or.inr (Or.inr (Or.inr (Or.inr ⟨H6.out, HB6.out⟩))))) HN0.out, Bool.and_false])]; rfl, W5.out⟩
                · have u7 : (a != 0) = true := by simpa using g70
                  have H70 := Lib.hid g70
                  clear g70
                  go_wp2_with fail
                  go_ret
                  exact ⟨by rw [← HR.out, RF.out (by rw [goes_bad HK.out (Or.inr (Or.inr (Or.inl ⟨H7.out, H70.out⟩))) HN0.out, Bool.and_false])]; rfl, W5.out⟩
              · have t7 : (k == 7) = false := by simpa using g7
                have H7 := Lib.hid g7
                clear g7
                by_cases g4 : b < 0
                · go_wp2_with fail
                  go_ret
                  exact ⟨by rw [← HR.out, RF.out (by rw [goes_bad HK.out (Or.inr (Or.inr (Or.inr (Or.inl g4)))) HN0.out, Bool.and_false])]; rfl, W5.out⟩
                by_cases g5 : (n : Int) ≤ b
                · go_wp2_with fail
                  go_ret
                  exact ⟨by rw [← HR.out, RF.out (by rw [goes_bad HK.out (Or.inr (Or.inr (Or.inr (Or.inr (Or.inl g5))))) HN0.out, Bool.and_false])]; rfl, W5.out⟩
                by_cases g60 : k = 6
                · have t6 : (k != 6) = false := by simp [g60]
                  have H6 := Lib.hid g60
                  clear g60
                  have hgd : Hid ((txtOk k t && goes k a b n) = true) := by unfold Hid; rw [HTX.out, goes_good HK.out g1 g2 (fun q => absurd q H7.out) g4 g5 (fun q => absurd H6.out q)]; rfl
                  cases gk with
                  | zero => exact absurd hig.out (by have := HI2.out; omega)
                  | succ g =>
                    go_wp2_with fail
                    go_roundg g
                    case measure => omega
                    case rel => exact ⟨i + 1, by first | rfl | exact congrArg (Value.int .i64) hwi.out, by have := hig.out; unfold Hid; omega, by unfold Hid; rw [HAL.out, HOK.out, hgd.out]; rfl, W5⟩
                · have t6 : (k != 6) = true := by simpa using g60
                  have H6 := Lib.hid g60
                  clear g60
                  by_cases g6 : b = 0
                  · have hgd : Hid ((txtOk k t && goes k a b n) = true) := by unfold Hid; rw [HTX.out, goes_good HK.out g1 g2 (fun q => absurd q H7.out) g4 g5 (fun _ => g6)]; rfl
                    have u6 : (b != 0) = false := by simp [g6]
                    clear g6
                    cases gk with
                    | zero => exact absurd hig.out (by have := HI2.out; omega)
                    | succ g =>
                      go_wp2_with fail
                      go_roundg g
                      case measure => omega
                      case rel => exact ⟨i + 1, by first | rfl | exact congrArg (Value.int .i64) hwi.out, by have := hig.out; unfold Hid; omega, by unfold Hid; rw [HAL.out, HOK.out, hgd.out]; rfl, W5⟩
                  · have HB6 := Lib.hid g6
                    have u6 : (b != 0) = true := by simpa using g6
                    clear g6
                    go_wp2_with fail
                    go_ret
                    exact ⟨by rw [← HR.out, RF.out (by rw [goes_bad HK.out (Or.inr (Or.inr (Or.inr (Or.inr (Or.inr ⟨H6.out, HB6.out⟩))))) HN0.out, Bool.and_false])]; rfl, W5.out⟩
            · have te := Kit.list_full (s := t) (by omega)
              have te2 := Kit.list_ne (s := t) (by omega)
              have HTX : Hid (txtOk k t = false) := by unfold Hid; rw [HX.out, decide_eq_false hz]
              clear hz
              go_quiet (fail)
              have W5 := Lib.hid (on W4.out (below_draws w4 nq))
              go_wp2_with fail
              go_ret
              exact ⟨by rw [← HR.out, RF.out (by rw [HTX.out, Bool.false_and])]; rfl, W5.out⟩
      · have hg0 : goes k a b n = false := by
          unfold goes
          rw [if_neg (by omega), if_neg (by omega), if_neg hk]
        have HG0 := Lib.hid hg0
        clear hg0
        by_cases hk1 : k < 1
        · clear hk
          go_wp2_with (first
            | (refine load_ins rfl (.tmp 13) rfl rfl (r := ⟨k, t, a, b⟩) E1.out ?_)
            | (refine alloc_ins rfl rfl ?_; intro w3 b3 e3 p3 l3 z3)
            | (refine store_ins (r := ⟨k, t, a, b⟩) rfl (.tmp 4) (.tmp 14) rfl rfl rfl p3 ?_; intro w4 p4 l4 z4; have L4 := Lib.hid (two_new l3 l4 e3); have d0 := p4.c0; clear e3 p3 l3 z3 p4 l4 z4; simp only at d0))
          have W4 := Lib.hid (LB.out.trans (L4.out.mono LB.out.size))
          go_ret
          exact ⟨by rw [← HR.out, RF.out (by rw [HG0.out, Bool.and_false])]; rfl, W4.out⟩
        · have hk2 : 8 < k := by omega
          clear hk
          go_wp2_with (first
            | (refine load_ins rfl (.tmp 13) rfl rfl (r := ⟨k, t, a, b⟩) E1.out ?_)
            | (refine alloc_ins rfl rfl ?_; intro w3 b3 e3 p3 l3 z3)
            | (refine store_ins (r := ⟨k, t, a, b⟩) rfl (.tmp 4) (.tmp 14) rfl rfl rfl p3 ?_; intro w4 p4 l4 z4; have L4 := Lib.hid (two_new l3 l4 e3); have d0 := p4.c0; clear e3 p3 l3 z3 p4 l4 z4; simp only at d0))
          have W4 := Lib.hid (LB.out.trans (L4.out.mono LB.out.size))
          go_ret
          exact ⟨by rw [← HR.out, RF.out (by rw [HG0.out, Bool.and_false])]; rfl, W4.out⟩
    · have ti : ¬ (i : Int) < (n : Int) := by omega
      have hie : i = n := by have := hig.out; omega
      have HV : Hid (rightP L = decide (0 < n)) := by
        have := HOK.out
        rw [hie, ← HNL.out, List.take_length] at this
        unfold Hid rightP
        rw [this, Bool.true_and, HNL.out]
      clear hie hi
      go_wp2_with fail
      go_ret
      exact ⟨by rw [← HR.out, HV.out]; rfl, LB.out⟩
end Go.Proofs.YtehdnbidgphecaaGreatDoor.W15
