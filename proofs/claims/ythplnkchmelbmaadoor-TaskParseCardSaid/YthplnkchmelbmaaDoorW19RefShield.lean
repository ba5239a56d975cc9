/-
  Layer 19 (task), walks: the document's hex and Shield. The conditions stand in the statements.
-/
import Derived.Test.YthplnkchmelbmaaDoorW19Shield
namespace Go.Proofs.YthplnkchmelbmaaDoor.W19
set_option maxRecDepth 100000
open Go Go.RowKit Go.Proofs.YthplnkchmelbmaaDoor.M19
open Go.Proofs.YthplnkchmelbmaaDoor.Kit (ret_str ret_bool ret_int mk_of mk_bytes ba_ext below_draws on take_next cat_bytes one_size one_byte str_one one_num)

theorem conv_one (W : World) (c : Int) : (convert 53 9 (.slice (some ⟨W.heap.size, 0, none⟩) 1 1)).run Tryd.prog (W.alloc (.cells #[.int .u8 c] 5)) = .ok (.string (strOfNums [c])) (W.alloc (.cells #[.int .u8 c] 5)) :=
  run_convert_bytes_arg _ 53 5 Tryd.underlying53 Tryd.underlying5 _ 0 1 1 [c] rfl (fun i hi => by
    obtain rfl : i = 0 := by omega
    simp) 9 Tryd.underlying9
theorem hex_text {n : Nat} {z : Int} {d : ByteArray} (hd : d.data.toList = [hexB n]) (hz : z = ((hexB n).toNat : Int)) : strOfNums [z] = d := ba_ext (by rw [hd, one_num, hz]; simp)
theorem hex_low {n : Nat} (h : n < 10) : ((hexB n).toNat : Int) = 48 + (n : Int) := by
  have := (by decide : ∀ n : Fin 10, ((hexB n.val).toNat : Int) = 48 + (n.val : Int)) ⟨n, h⟩
  exact this
theorem hex_high {n : Nat} (h : ¬ n < 10) (h2 : n < 16) : ((hexB n).toNat : Int) = 55 + (n : Int) := by
  have := (by decide : ∀ n : Fin 16, ¬ n.val < 10 → ((hexB n.val).toNat : Int) = 55 + (n.val : Int)) ⟨n, h2⟩ h
  exact this
set_option maxHeartbeats 400000 in
theorem hex_any (n : Nat) (h : n < 16) (d : ByteArray) (hd : d.data.toList = [hexB n]) (w : World) : Calls Tryd.prog 31 #[.int .i64 (n : Int)] w fun e w' => e = .returned (.string d) ∧ Below w.heap.size w w' := by
  have hcv := conv_one
  by_cases h1 : n < 10
  · have hw : IntKind.u8.wrap (48 + (n : Int)) = 48 + (n : Int) := wrap_small (by omega) (by omega)
    have HD := Lib.hid (hex_text hd (hex_low h1).symm)
    have hb : Below w.heap.size w (w.alloc (.cells #[.int .u8 (48 + (n : Int))] 5)) := (Below.refl _ w).alloc (Nat.le_refl _) _
    go_enter Tryd.func31, Tryd.ntmps31
    go_wp2
    go_ret
    exact ⟨ret_str HD.out, hb⟩
  · have hw : IntKind.u8.wrap (55 + (n : Int)) = 55 + (n : Int) := wrap_small (by omega) (by omega)
    have HD := Lib.hid (hex_text hd (hex_high h1 h).symm)
    have hb : Below w.heap.size w (w.alloc (.cells #[.int .u8 (55 + (n : Int))] 5)) := (Below.refl _ w).alloc (Nat.le_refl _) _
    go_enter Tryd.func31, Tryd.ntmps31
    go_wp2
    go_ret
    exact ⟨ret_str HD.out, hb⟩
theorem plain_tests {c : UInt8} (h : plain c = true) : (33 : Int) ≤ (c.toNat : Int) ∧ (c.toNat : Int) ≤ 126 ∧ ¬ (c.toNat : Int) = 37 := by
  unfold plain at h
  simp only [Bool.and_eq_true, decide_eq_true_eq] at h
  omega
theorem plain_fails {c : UInt8} (h : plain c = false) : (c.toNat : Int) < 33 ∨ (126 : Int) < (c.toNat : Int) ∨ (c.toNat : Int) = 37 := by
  unfold plain at h
  simp only [Bool.and_eq_false_iff, decide_eq_false_iff_not] at h
  omega
set_option maxHeartbeats 2000000 in
theorem refShield_any (s d : ByteArray) (hd : d.data.toList = shield s.data.toList) (hs : s.size ≤ 1099511627776) (w : World) : Calls Tryd.prog 16 #[.string s] w fun e w' => e = .returned (.string d) ∧ Below w.heap.size w w' := by
  have HD := Lib.hid hd
  clear hd
  go_enter Tryd.func16, Tryd.ntmps16
  go_wp2
  go_loopw [3, 4] (fun v i wr => ∃ (k : Nat) (q : ByteArray), k ≤ s.size ∧ i = .int .i64 k ∧ v = .string q ∧ Hid (q.data.toList = shield (s.data.toList.take k)) ∧ Hid (Below w.heap.size w wr)) (fun _ i _ => s.size - (intOf i).toNat)
  case atStart => exact ⟨0, ⟨#[]⟩, Nat.zero_le _, rfl, rfl, rfl, Below.refl _ _⟩
  case round =>
    obtain ⟨k, q, hk, rfl, rfl, hq, hb⟩ := hrel
    have hqs : q.size ≤ 3 * k := by
      have h1 := shield_len (s.data.toList.take k)
      have h2 : (s.data.toList.take k).length ≤ k := List.length_take_le _ _
      rw [← hq.out, ← Lib.size_eq] at h1; omega
    by_cases hlt : k < s.size
    · have HN := Lib.hid (take_next s k hlt)
      have h1 := one_size s k hlt
      cases hp : plain s[k] with
      | true =>
        obtain ⟨t1, t2, t3⟩ := plain_tests hp
        have HX : Hid ((q ++ s.extract k (k + 1)).data.toList = shield (s.data.toList.take (k + 1))) := by
          show _ = _
          rw [HN.out, shield_more, word_plain hp, cat_bytes, hq.out, one_byte s k hlt]
        have t4 : ((s[k].toNat : Int) == 37) = false := by simp [t3]
        clear t3
        go_wp2_with fail
        go_roundw
        case rel => exact ⟨k + 1, _, by omega, by go_num, rfl, HX, hb⟩
        case measure => simp [intOf]; omega
      | false =>
        obtain ⟨x, hx⟩ : ∃ x : Nat, x = s[k].toNat / 16 := ⟨_, rfl⟩
        obtain ⟨y, hy⟩ : ∃ y : Nat, y = s[k].toNat % 16 := ⟨_, rfl⟩
        have hn := s[k].toNat_lt
        have hn5 : Hid ((s[k].toNat : Int) < 256) := by show _ < _; omega
        have hx1 : (s[k].toNat : Int).tdiv 16 = (x : Int) := by rw [Int.tdiv_eq_ediv_of_nonneg (by omega)]; omega
        have hy1 : (s[k].toNat : Int).tmod 16 = (y : Int) := by rw [Int.tmod_eq_emod_of_nonneg (by omega)]; omega
        have hx2 : x < 16 := by omega
        have hy2 : y < 16 := by omega
        have hx3 : wrap64 (x : Int) = (x : Int) := by unfold wrap64; omega
        obtain ⟨a, ha⟩ : ∃ a : ByteArray, a.data.toList = [hexB x] := ⟨⟨#[hexB x]⟩, rfl⟩
        obtain ⟨b, hb2⟩ : ∃ b : ByteArray, b.data.toList = [hexB y] := ⟨⟨#[hexB y]⟩, rfl⟩
        have HA : Hid (∀ w : World, Calls Tryd.prog 31 #[.int .i64 (wrap64 (x : Int))] w fun e w' => e = .returned (.string a) ∧ Below w.heap.size w w') := fun w => by rw [hx3]; exact hex_any x hx2 a ha w
        have HB := Lib.hid (hex_any y hy2 b hb2)
        have ha1 : a.size = 1 := by rw [Lib.size_eq, ha]; rfl
        have hb1 : b.size = 1 := by rw [Lib.size_eq, hb2]; rfl
        have HX : Hid ((q ++ ((⟨#[37]⟩ : ByteArray) ++ a ++ b)).data.toList = shield (s.data.toList.take (k + 1))) := by
          show _ = _
          rw [HN.out, shield_more, word_not hp, cat_bytes, cat_bytes, cat_bytes, hq.out, ha, hb2, hx, hy]; rfl
        clear hx hy hn hx2 hy2 ha hb2 hx3
        have hp1 : (((⟨#[37]⟩ : ByteArray) ++ a ++ b)).size = 3 := by rw [ByteArray.size_append, ByteArray.size_append, ha1, hb1]; rfl
        rcases plain_fails hp with t | t | t
        · clear hp
          go_wp2_with fail
          refine (HA.out _).mono ?_
          rintro e w2 ⟨rfl, hb3⟩
          have B2 := Lib.hid (on hb.out hb3)
          clear hb3
          go_wp2_with fail
          refine (HB.out _).mono ?_
          rintro e w3 ⟨rfl, hb4⟩
          have B3 := Lib.hid (on B2.out hb4)
          clear hb4
          go_wp2_with fail
          clear hx1 hy1
          go_roundw
          case rel => exact ⟨k + 1, _, by omega, by go_num, rfl, HX, B3⟩
          case measure => simp [intOf]; omega
        · have t2 : ¬ (s[k].toNat : Int) < 33 := by omega
          have t5 := hn5.out
          clear hp
          go_wp2_with fail
          refine (HA.out _).mono ?_
          rintro e w2 ⟨rfl, hb3⟩
          have B2 := Lib.hid (on hb.out hb3)
          clear hb3
          go_wp2_with fail
          refine (HB.out _).mono ?_
          rintro e w3 ⟨rfl, hb4⟩
          have B3 := Lib.hid (on B2.out hb4)
          clear hb4
          go_wp2_with fail
          clear hx1 hy1
          go_roundw
          case rel => exact ⟨k + 1, _, by omega, by go_num, rfl, HX, B3⟩
          case measure => simp [intOf]; omega
        · have t2 : ¬ (s[k].toNat : Int) < 33 := by omega
          have t4 : ¬ (126 : Int) < (s[k].toNat : Int) := by omega
          have t3 : ((s[k].toNat : Int) == 37) = true := by simp [t]
          clear hp t
          go_wp2_with fail
          refine (HA.out _).mono ?_
          rintro e w2 ⟨rfl, hb3⟩
          have B2 := Lib.hid (on hb.out hb3)
          clear hb3
          go_wp2_with fail
          refine (HB.out _).mono ?_
          rintro e w3 ⟨rfl, hb4⟩
          have B3 := Lib.hid (on B2.out hb4)
          clear hb4
          go_wp2_with fail
          clear hx1 hy1
          go_roundw
          case rel => exact ⟨k + 1, _, by omega, by go_num, rfl, HX, B3⟩
          case measure => simp [intOf]; omega
    · have HE : Hid (q = d) := ba_ext (by rw [hq.out, HD.out, Kit.take_end s k hlt])
      go_wp2_with fail
      go_ret
      exact ⟨ret_str HE.out, hb.out⟩
end Go.Proofs.YthplnkchmelbmaaDoor.W19
