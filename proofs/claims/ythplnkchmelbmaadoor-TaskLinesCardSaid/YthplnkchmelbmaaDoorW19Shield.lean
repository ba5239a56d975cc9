/-
  Layer 19 (task), a walk: the program's Shield. The conditions stand in the statement.
-/
import Derived.Test.YthplnkchmelbmaaDoorW19Rows
import Derived.Test.YthplnkchmelbmaaDoorW19Walk
import Derived.Test.YthplnkchmelbmaaDoorRecs
import Derived.BigQuiet
import Derived.Deep.RegionWith
import Derived.Deep.RegionHeld3
namespace Go.Proofs.YthplnkchmelbmaaDoor.W19
set_option maxRecDepth 100000
open Go Go.RowKit Go.Proofs.YthplnkchmelbmaaDoor.M19
open Go.Proofs.YthplnkchmelbmaaDoor.Recs (cells_new)
open Go.Proofs.YthplnkchmelbmaaDoor.Kit (ret_str ret_bool ret_int mk_of mk_bytes ba_ext below_draws on take_next)

theorem wrap_small {z : Int} (h0 : 0 ≤ z) (h1 : z < 256) : IntKind.u8.wrap z = z := by
  unfold IntKind.wrap
  have e : (z % (2 ^ IntKind.u8.bits : Int)) = z := by
    show z % (2 ^ 8 : Int) = z
    omega
  simp only [e]
  simp [IntKind.signed]
theorem hex_at {q : Nat} (h : q < 16) (h2 : q < (⟨#[48, 49, 50, 51, 52, 53, 54, 55, 56, 57, 65, 66, 67, 68, 69, 70]⟩ : ByteArray).size) : (⟨#[48, 49, 50, 51, 52, 53, 54, 55, 56, 57, 65, 66, 67, 68, 69, 70]⟩ : ByteArray)[q] = hexB q := by
  have := (by decide : ∀ q : Fin 16, (⟨#[48, 49, 50, 51, 52, 53, 54, 55, 56, 57, 65, 66, 67, 68, 69, 70]⟩ : ByteArray)[q.val]'(q.isLt) = hexB q.val) ⟨q, h⟩
  exact this
set_option maxHeartbeats 1000000 in
theorem shield_any (s d : ByteArray) (hd : d.data.toList = shield s.data.toList) (hs : s.size ≤ 1099511627776) (w : World) : Calls Tryd.prog 15 #[.string s] w fun e w' => e = .returned (.string d) ∧ Below w.heap.size w w' := by
  obtain ⟨i0, hi, hz0, hz1, hz2⟩ := info_parts byte_info
  have HD := Lib.hid hd
  have HP := Lib.hid plain_any
  clear hd
  go_enter Tryd.func15, Tryd.ntmps15
  go_wp2_with (at_make; refine wpList_make_own _ rfl _ _ 53 rfl w.heap.size 5 i0 (.int .u8 0) 1 Tryd.underlying53 hi hz0 hz1 .i64 .i64 _ s.size rfl rfl rfl (by rw [hz2]; omega) (by unfold maxLen; omega) (Nat.le_refl _) ?_; intro w1 hown1 hgrow1)
  have B1 := Lib.hid ((Below.refl _ w).grown hgrow1 (Nat.le_refl _) (fun r e => by cases e))
  have O1 : Hid (Row w1 w.heap.size (.slice (some ⟨w.heap.size, 0, none⟩) 0 s.size) []) := hown1
  clear hown1 hgrow1
  go_wp2_with fail
  go_loopw [3, 11] (fun v i wr => ∃ k : Nat, k ≤ s.size ∧ i = .int .i64 k ∧ Hid (Row wr w.heap.size v (shield (s.data.toList.take k))) ∧ Hid (Below w.heap.size w wr)) (fun _ i _ => s.size - (intOf i).toNat)
  case atStart => exact ⟨0, Nat.zero_le _, rfl, O1, B1⟩
  case round =>
    obtain ⟨k, hk, rfl, hown, hb⟩ := hrel
    by_cases hlt : k < s.size
    · have HN := Lib.hid (take_next s k hlt)
      have hl := shield_len (s.data.toList.take k)
      have hl2 : (s.data.toList.take k).length ≤ k := List.length_take_le _ _
      have hbs := Lib.hid hb.out.size
      cases hp : plain s[k] with
      | true =>
        have HX := Lib.hid (show shield (s.data.toList.take (k + 1)) = shield (s.data.toList.take k) ++ [s[k]] by rw [HN.out, shield_more, word_plain hp])
        have HPK : Hid (∀ w : World, Calls Tryd.prog 30 #[.int .u8 (s[k].toNat : Int)] w fun e w' => e = .returned (.bool true) ∧ w' = w) := fun w => by have := HP.out s[k] w; rwa [hp] at this
        go_wp2_with fail
        refine (HPK.out _).mono ?_
        rintro e w2 ⟨rfl, rfl⟩
        rename_i w2
        go_wp2_with (at_builtin; refine wpList_append_own _ rfl (.tmp 19) (.tmp 21) 53 rfl w.heap.size 5 i0 (.int .u8 0) 1 1 Tryd.underlying53 hi hz0 hz1 hz2 rfl (by decide) _ _ _ rfl (hown.out.alloc _) ⟨_, 0, none⟩ 1 1 [.int .u8 (s[k].toNat : Int)] rfl rfl (cell_one_new _ _ _) (by intro u hu; simp at hu; subst hu; rfl) (by unfold maxLen; omega) (by omega) (by simp; exact Nat.le_succ_of_le hbs.out) ?_; intro v1 w1 hown1 hgrow1 _)
        have B2 := Lib.hid (Strs.below_more hb.out hown.out hgrow1)
        have O2 : Hid (Row w1 w.heap.size v1 (shield (s.data.toList.take (k + 1)))) := by
          rw [HX.out]; exact row_more hown1 rfl rfl
        clear hown1 hgrow1
        go_wp2_with fail
        go_roundw
        case rel => exact ⟨k + 1, by omega, by go_num, O2, B2⟩
        case measure => simp [intOf]; omega
      | false =>
        have HX := Lib.hid (show shield (s.data.toList.take (k + 1)) = shield (s.data.toList.take k) ++ [37, hexB (s[k].toNat / 16), hexB (s[k].toNat % 16)] by rw [HN.out, shield_more, word_not hp])
        have HPK : Hid (∀ w : World, Calls Tryd.prog 30 #[.int .u8 (s[k].toNat : Int)] w fun e w' => e = .returned (.bool false) ∧ w' = w) := fun w => by have := HP.out s[k] w; rwa [hp] at this
        go_wp2_with fail
        refine (HPK.out _).mono ?_
        rintro e w2 ⟨rfl, rfl⟩
        rename_i w2
        obtain ⟨q, hq⟩ : ∃ q : Nat, q = s[k].toNat / 16 := ⟨_, rfl⟩
        obtain ⟨r, hr⟩ : ∃ r : Nat, r = s[k].toNat % 16 := ⟨_, rfl⟩
        have hn := s[k].toNat_lt
        have hq1 : IntKind.u8.wrap ((s[k].toNat : Int) / 16) = (q : Int) := by rw [wrap_small (by omega) (by omega)]; omega
        have hr1 : ((s[k].toNat : Int)).tmod 16 = (r : Int) := by rw [Int.tmod_eq_emod_of_nonneg (by omega)]; omega
        have hq2 : (q : Int) < 16 := by omega
        have hr2 : (r : Int) < 16 := by omega
        rw [← hq, ← hr] at HX
        clear hq hr hn
        go_wp2_with fail
        go_region_held3 (fun _ => (0 : Nat) ≤ 1)
          (exact Nat.zero_le 1)
          (first
            | (refine wp_append_own _ (.tmp 23) (.tmp 30) 53 rfl w.heap.size 5 i0 (.int .u8 0) 1 1 Tryd.underlying53 hi hz0 hz1 hz2 rfl (by decide) _ _ _ rfl (hown.out.alloc _) ⟨_, 0, none⟩ 3 3 [_, _, _] rfl rfl (cells_new _ [_, _, _] _) (by intro u hu; simp at hu; rcases hu with rfl | rfl | rfl <;> rfl) (by unfold maxLen; omega) (by omega) (by simp; exact Nat.le_succ_of_le hbs.out) ?_; intro v1 w1 hown1 hgrow1 _)
            | fail)
        all_goals (
          have B2 := Lib.hid (Strs.below_more hb.out hown.out (undrew hgrow1))
          have O2 : Hid (Row w1 w.heap.size v1 (shield (s.data.toList.take (k + 1)))) := by
            rw [HX.out]
            refine row_more hown1 rfl ?_
            rw [List.map_cons, List.map_cons, List.map_cons, List.map_nil, ← hex_at (show q < 16 by omega) (show q < 16 by omega), ← hex_at (show r < 16 by omega) (show r < 16 by omega)]
            rfl
          clear hown1 hgrow1
          go_wp2_with fail
          go_roundw
          case rel => exact ⟨k + 1, by omega, by go_num, O2, B2⟩
          case measure => simp [intOf]; omega)
    · have HE := Lib.hid (show s.data.toList.take k = s.data.toList from Kit.take_end s k hlt)
      have hcv := row_conv_text hown.out (d := d) (by rw [HD.out, HE.out])
      go_wp2_with fail
      go_ret
      exact ⟨rfl, hb.out⟩
end Go.Proofs.YthplnkchmelbmaaDoor.W19
