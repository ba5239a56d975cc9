/-
  Layer 19 (task), a walk: the document's Bare. The conditions stand in the statement.
-/
import Derived.Test.YthplnkchmelbmaaDoorW19Bare
import Derived.Test.YthplnkchmelbmaaDoorW19RefShield
namespace Go.Proofs.YthplnkchmelbmaaDoor.W19
set_option maxRecDepth 100000
open Go Go.RowKit Go.Proofs.YthplnkchmelbmaaDoor.M19
open Go.Proofs.YthplnkchmelbmaaDoor.Kit (ret_str ret_bool ret_int mk_of mk_bytes ba_ext below_draws on drop_bytes)

section
variable {s : ByteArray} {k : Nat}
theorem drop_one (h : k < s.size) : s.data.toList.drop k = s[k] :: s.data.toList.drop (k + 1) := Kit.drop_next s k h
theorem drop_three (h : k + 2 < s.size) : s.data.toList.drop k = s[k] :: s[k + 1] :: s[k + 2] :: s.data.toList.drop (k + 3) := by
  rw [Kit.drop_next s k (by omega), Kit.drop_next s (k + 1) (by omega), Kit.drop_next s (k + 2) (by omega)]
theorem first_at_plain (h : k < s.size) (hp : plain s[k] = true) : first (s.data.toList.drop k) = some (s[k], 1) := by rw [drop_one h]; exact first_plain hp
theorem first_at_no (h : k < s.size) (hp : plain s[k] = false) (h37 : ¬ s[k] = 37) : first (s.data.toList.drop k) = none := by rw [drop_one h]; exact first_no hp h37
theorem first_at_short (h : k < s.size) (h37 : s[k] = 37) (h3 : ¬ k + 2 < s.size) : first (s.data.toList.drop k) = none := by
  have hl : (s.data.toList.drop (k + 1)).length < 2 := by rw [List.length_drop, ← Lib.size_eq]; omega
  rw [drop_one h, h37, first_sign]
  match s.data.toList.drop (k + 1), hl with
  | [], _ | [_], _ => rfl
theorem first_at_hexed (h : k + 2 < s.size) (h37 : s[k] = 37) : first (s.data.toList.drop k) = (hexed s[k + 1] s[k + 2]).map fun x => (x, 3) := by
  rw [drop_three h, h37, first_sign]; rfl
end
theorem hexed_fst {a b : UInt8} (h : dig a = none) : hexed a b = none := by unfold hexed; rw [h]
theorem hexed_snd {a b : UInt8} {x : Nat} (h : dig a = some x) (h2 : dig b = none) : hexed a b = none := by unfold hexed; rw [h, h2]
theorem hexed_both {a b : UInt8} {x y : Nat} (h : dig a = some x) (h2 : dig b = some y) : hexed a b = if plain (UInt8.ofNat (16 * x + y)) then none else some (UInt8.ofNat (16 * x + y)) := by unfold hexed; rw [h, h2]
set_option maxHeartbeats 4000000 in
theorem refBare_any (s : ByteArray) (hs : s.size ≤ 1099511627776) (w : World) : Calls Tryd.prog 14 #[.string s] w (Bares w s.data.toList) := by
  obtain ⟨i0, hi, hz0, hz1, hz2⟩ := info_parts byte_info
  go_enter Tryd.func14, Tryd.ntmps14
  go_wp2
  go_loopw [4, 5] (fun v i wr => ∃ (k : Nat) (out : Bytes) (va : Value), va = v ∧ k ≤ s.size ∧ out.length ≤ k ∧ i = .int .i64 k ∧ Hid (Row wr w.heap.size v out) ∧ Hid (shield out = s.data.toList.take k) ∧ Hid (Below w.heap.size w wr)) (fun _ i _ => s.size - (intOf i).toNat)
  case atStart => exact ⟨0, [], _, rfl, Nat.zero_le _, Nat.zero_le _, rfl, row_nil _ _, rfl, Below.refl _ _⟩
  case round =>
    obtain ⟨k, out, va, rfl, hk, hol, rfl, hown, hq, hb⟩ := hrel
    by_cases hlt : k < s.size
    · have hn5 : (s[k].toNat : Int) < 256 := by have := s[k].toNat_lt; omega
      have hbs := Lib.hid hb.out.size
      cases hp : plain s[k] with
      | true =>
        have hf := first_at_plain hlt hp
        obtain ⟨m1, m2, m3, m4⟩ := bare_more hq.out hlt hf
        have HX := Lib.hid m1
        obtain ⟨t1, t2, t3⟩ := plain_tests hp
        have t4 : ((s[k].toNat : Int) == 37) = false := by simp [t3]
        have hw : IntKind.u8.wrap (s[k].toNat : Int) = (s[k].toNat : Int) := wrap_small (by omega) (by omega)
        clear m1 hf hp t3
        go_wp2_with (at_builtin; refine wpList_append_own _ rfl (.tmp 70) (.tmp 73) 53 rfl w.heap.size 5 i0 (.int .u8 0) 1 1 Tryd.underlying53 hi hz0 hz1 hz2 rfl (by decide) _ _ _ rfl (hown.out.alloc _) ⟨_, 0, none⟩ 1 1 [.int .u8 (s[k].toNat : Int)] rfl rfl (cell_one_new _ _ _) (by intro u hu; simp at hu; subst hu; rfl) (by unfold maxLen; omega) (by omega) (by simp; exact Nat.le_succ_of_le hbs.out) ?_; intro v1 w1 hown1 hgrow1 _)
        have B3 := Lib.hid (Strs.below_more hb.out hown.out hgrow1)
        have O3 : Hid (Row w1 w.heap.size v1 (out ++ [s[k]])) := row_more hown1 rfl rfl
        clear hown1 hgrow1
        go_wp2_with fail
        go_roundw
        case rel => exact ⟨k + 1, _, _, rfl, m2, by rw [List.length_append]; simp; omega, by go_num, O3, HX, B3⟩
        case measure => simp [intOf]; omega
      | false =>
        by_cases h37 : s[k] = 37
        · have t37 : ((s[k].toNat : Int) == 37) = true := by rw [h37]; rfl
          have tl : ¬ (s[k].toNat : Int) < 33 := by rw [h37]; decide
          have tu : ¬ (126 : Int) < (s[k].toNat : Int) := by rw [h37]; decide
          by_cases h3 : k + 2 < s.size
          · have hf := first_at_hexed h3 h37
            have H1 := Lib.hid (fun w => digit_any s[k + 1] w)
            have H2 := Lib.hid (fun w => digit_any s[k + 2] w)
            have hge : decide ((s.size : Int) ≤ (k : Int) + 2) = false := by simp; omega
            clear hp h37
            cases d1 : dig s[k + 1] with
            | none =>
              rw [hexed_fst d1] at hf
              rw [dig_none d1] at H1
              have HT := Lib.hid (bare_stops hq.out hlt hf)
              clear hf d1
              go_wp2_with fail
              refine (H1.out _).mono ?_
              rintro e w1 ⟨rfl, rfl⟩
              go_wp2_with fail
              go_ret2
              exact ⟨⟨#[]⟩, false, rfl, HT.out, hb.out⟩
            | some x =>
              rw [dig_some d1] at H1
              have hx := (dig_hex _ _ d1).1
              cases d2 : dig s[k + 2] with
              | none =>
                rw [hexed_snd d1 d2] at hf
                rw [dig_none d2] at H2
                have HT := Lib.hid (bare_stops hq.out hlt hf)
                clear hf d1 d2
                go_wp2_with fail
                refine (H1.out _).mono ?_
                rintro e w1 ⟨rfl, rfl⟩
                go_wp2_with fail
                refine (H2.out _).mono ?_
                rintro e w2 ⟨rfl, rfl⟩
                go_wp2_with fail
                go_ret2
                exact ⟨⟨#[]⟩, false, rfl, HT.out, hb.out⟩
              | some y =>
                rw [dig_some d2] at H2
                have HQ := Lib.hid digit_any
                have e1 := dig_some d1
                have e2 := dig_some d2
                have hy := (dig_hex _ _ d2).1
                rw [hexed_both d1 d2] at hf
                obtain ⟨c, hc⟩ : ∃ c : UInt8, c = UInt8.ofNat (16 * x + y) := ⟨_, rfl⟩
                rw [← hc] at hf
                have hcn : (c.toNat : Int) = 16 * (x : Int) + (y : Int) := by rw [hc, UInt8.toNat_ofNat']; omega
                clear hc d1 d2
                cases hp : plain c with
                | true =>
                  rw [hp, if_pos rfl] at hf
                  have HT := Lib.hid (bare_stops hq.out hlt hf)
                  obtain ⟨t1, t2, t3⟩ := plain_tests hp
                  rw [hcn] at t1 t2 t3
                  have t4 : (16 * (x : Int) + (y : Int) != 37) = true := by simp [t3]
                  clear hf hp hcn t3
                  go_wp2_with fail
                  refine (H1.out _).mono ?_
                  rintro e w1 ⟨rfl, rfl⟩
                  go_wp2_with fail
                  refine (H2.out _).mono ?_
                  rintro e w2 ⟨rfl, rfl⟩
                  go_wp2_with fail
                  go_quiet (exact Calls.quiet_of_same (HQ.out _ _))
                  go_wp2_with fail
                  go_ret2
                  exact ⟨⟨#[]⟩, false, rfl, HT.out, on hb.out (below_draws _ nq)⟩
                | false =>
                  rw [hp, if_neg (by decide)] at hf
                  obtain ⟨m1, m2, m3, m4⟩ := bare_more hq.out hlt hf
                  have HX := Lib.hid m1
                  have hw : IntKind.u8.wrap (16 * (x : Int) + (y : Int)) = (c.toNat : Int) := by rw [hcn]; exact wrap_small (by omega) (by omega)
                  have ht := plain_fails hp
                  rw [hcn] at ht
                  clear hf hp hcn m1
                  rcases ht with t | t | t
                  · skip
                    go_wp2_with fail
                    refine (H1.out _).mono ?_
                    rintro e w1 ⟨rfl, rfl⟩
                    go_wp2_with fail
                    refine (H2.out _).mono ?_
                    rintro e w2 ⟨rfl, rfl⟩
                    go_wp2_with fail
                    go_quiet (exact Calls.quiet_of_same (HQ.out _ _))
                    have B2 := Lib.hid (on hb.out (below_draws _ nq))
                    have O2 : Hid (Row (w2.drewN nq) w.heap.size va out) := hown.out
                    have hbs2 := Lib.hid B2.out.size
                    generalize w2.drewN nq = w3 at B2 O2 hbs2 ⊢
                    go_wp2_with (at_builtin; refine wpList_append_own _ rfl (.tmp 70) (.tmp 73) 53 rfl w.heap.size 5 i0 (.int .u8 0) 1 1 Tryd.underlying53 hi hz0 hz1 hz2 rfl (by decide) _ _ _ rfl (O2.out.alloc _) ⟨_, 0, none⟩ 1 1 [.int .u8 (c.toNat : Int)] rfl rfl (cell_one_new _ _ _) (by intro u hu; simp at hu; subst hu; rfl) (by unfold maxLen; omega) (by omega) (by simp; exact Nat.le_succ_of_le hbs2.out) ?_; intro v1 w1 hown1 hgrow1 _)
                    have B3 := Lib.hid (Strs.below_more B2.out O2.out hgrow1)
                    have O3 : Hid (Row w1 w.heap.size v1 (out ++ [c])) := row_more hown1 rfl rfl
                    clear hown1 hgrow1
                    go_wp2_with fail
                    go_roundw
                    case rel => exact ⟨k + 3, _, _, rfl, m2, by rw [List.length_append]; simp; omega, by go_num, O3, HX, B3⟩
                    case measure => simp [intOf]; omega
                  · have t2 : ¬ (16 * (x : Int) + (y : Int)) < 33 := by omega
                    go_wp2_with fail
                    refine (H1.out _).mono ?_
                    rintro e w1 ⟨rfl, rfl⟩
                    go_wp2_with fail
                    refine (H2.out _).mono ?_
                    rintro e w2 ⟨rfl, rfl⟩
                    go_wp2_with fail
                    go_quiet (exact Calls.quiet_of_same (HQ.out _ _))
                    have B2 := Lib.hid (on hb.out (below_draws _ nq))
                    have O2 : Hid (Row (w2.drewN nq) w.heap.size va out) := hown.out
                    have hbs2 := Lib.hid B2.out.size
                    generalize w2.drewN nq = w3 at B2 O2 hbs2 ⊢
                    go_wp2_with (at_builtin; refine wpList_append_own _ rfl (.tmp 70) (.tmp 73) 53 rfl w.heap.size 5 i0 (.int .u8 0) 1 1 Tryd.underlying53 hi hz0 hz1 hz2 rfl (by decide) _ _ _ rfl (O2.out.alloc _) ⟨_, 0, none⟩ 1 1 [.int .u8 (c.toNat : Int)] rfl rfl (cell_one_new _ _ _) (by intro u hu; simp at hu; subst hu; rfl) (by unfold maxLen; omega) (by omega) (by simp; exact Nat.le_succ_of_le hbs2.out) ?_; intro v1 w1 hown1 hgrow1 _)
                    have B3 := Lib.hid (Strs.below_more B2.out O2.out hgrow1)
                    have O3 : Hid (Row w1 w.heap.size v1 (out ++ [c])) := row_more hown1 rfl rfl
                    clear hown1 hgrow1
                    go_wp2_with fail
                    go_roundw
                    case rel => exact ⟨k + 3, _, _, rfl, m2, by rw [List.length_append]; simp; omega, by go_num, O3, HX, B3⟩
                    case measure => simp [intOf]; omega
                  · have t2 : ¬ (16 * (x : Int) + (y : Int)) < 33 := by omega
                    have t3 : ¬ (126 : Int) < (16 * (x : Int) + (y : Int)) := by omega
                    have t4 : (16 * (x : Int) + (y : Int) != 37) = false := by simp [t]
                    clear t
                    go_wp2_with fail
                    refine (H1.out _).mono ?_
                    rintro e w1 ⟨rfl, rfl⟩
                    go_wp2_with fail
                    refine (H2.out _).mono ?_
                    rintro e w2 ⟨rfl, rfl⟩
                    go_wp2_with fail
                    go_quiet (exact Calls.quiet_of_same (HQ.out _ _))
                    have B2 := Lib.hid (on hb.out (below_draws _ nq))
                    have O2 : Hid (Row (w2.drewN nq) w.heap.size va out) := hown.out
                    have hbs2 := Lib.hid B2.out.size
                    generalize w2.drewN nq = w3 at B2 O2 hbs2 ⊢
                    go_wp2_with (at_builtin; refine wpList_append_own _ rfl (.tmp 70) (.tmp 73) 53 rfl w.heap.size 5 i0 (.int .u8 0) 1 1 Tryd.underlying53 hi hz0 hz1 hz2 rfl (by decide) _ _ _ rfl (O2.out.alloc _) ⟨_, 0, none⟩ 1 1 [.int .u8 (c.toNat : Int)] rfl rfl (cell_one_new _ _ _) (by intro u hu; simp at hu; subst hu; rfl) (by unfold maxLen; omega) (by omega) (by simp; exact Nat.le_succ_of_le hbs2.out) ?_; intro v1 w1 hown1 hgrow1 _)
                    have B3 := Lib.hid (Strs.below_more B2.out O2.out hgrow1)
                    have O3 : Hid (Row w1 w.heap.size v1 (out ++ [c])) := row_more hown1 rfl rfl
                    clear hown1 hgrow1
                    go_wp2_with fail
                    go_roundw
                    case rel => exact ⟨k + 3, _, _, rfl, m2, by rw [List.length_append]; simp; omega, by go_num, O3, HX, B3⟩
                    case measure => simp [intOf]; omega
          · have HT := Lib.hid (bare_stops hq.out hlt (first_at_short hlt h37 h3))
            clear hp h37
            go_wp2_with fail
            go_ret2
            exact ⟨⟨#[]⟩, false, rfl, HT.out, hb.out⟩
        · have HT := Lib.hid (bare_stops hq.out hlt (first_at_no hlt hp h37))
          have ht : (s[k].toNat : Int) < 33 ∨ (126 : Int) < (s[k].toNat : Int) := by
            rcases plain_fails hp with t | t | t
            · exact Or.inl t
            · exact Or.inr t
            · exact absurd (Kit.byte_eq (d := 37) t) h37
          clear hp h37
          rcases ht with t | t
          · go_wp2_with fail
            go_ret2
            exact ⟨⟨#[]⟩, false, rfl, HT.out, hb.out⟩
          · have t2 : ¬ (s[k].toNat : Int) < 33 := by omega
            go_wp2_with fail
            go_ret2
            exact ⟨⟨#[]⟩, false, rfl, HT.out, hb.out⟩
    · have HT := Lib.hid (bare_end hq.out hlt)
      have hcv := row_conv hown.out
      go_wp2_with fail
      go_ret2
      exact ⟨_, true, rfl, HT.out, hb.out⟩
end Go.Proofs.YthplnkchmelbmaaDoor.W19
