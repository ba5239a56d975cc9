/-
  Layer 3 (name), walks: the plain answers Check, Plain and Find: what each returns at every argument; the world as it was, but for draws.
-/
import Derived.Test.YtpefncegkhkeaaaW03Math
import Derived.Test.YtpefncegkhkeaaaStrs
import Derived.Test.YtpefncegkhkeaaaChecked
import Derived.WalkSpells
import Derived.WalkLawsBesides
import Derived.BigQuiet
namespace Go.Proofs.Ytpefncegkhkeaaa.W03
open Go Go.RowKit Go.Proofs.Ytpefncegkhkeaaa.Strs Go.Proofs.Ytpefncegkhkeaaa.M03
open Go.Proofs.Ytpefncegkhkeaaa.Kit (ret_str ret_int ret_bool mk_bytes ba_ext bytes_nil bytes_cons byte_get take_next take_end list_full list_ne list_none list_nil byte_eq byte_ne head_of below_draws)

theorem check_empty {s : ByteArray} (h : ¬ 0 < s.size) : (5 : Int) = check s.data.toList := by
  unfold check; rw [← Lib.size_eq, if_pos (by omega)]
theorem check_long {s : ByteArray} (_h0 : 0 < s.size) (h : (64 : Int) < s.size) : (11 : Int) = check s.data.toList := by
  unfold check; rw [← Lib.size_eq, if_neg (by omega), if_pos (by omega)]
theorem check_bad {s : ByteArray} {k : Nat} (h0 : 0 < s.size) (h : (s.size : Int) ≤ 64) (hk : k < s.size) (hb : badByte s[k] = true) : (11 : Int) = check s.data.toList := by
  have : s.data.toList.any badByte = true := by
    rw [List.any_eq_true]
    have hk2 : k < s.data.toList.length := by rw [← Lib.size_eq]; exact hk
    exact ⟨s.data.toList[k], List.getElem_mem hk2, hb⟩
  unfold check; rw [← Lib.size_eq, if_neg (by omega), if_neg (by omega), if_pos this]
theorem check_end {s : ByteArray} {k : Nat} (h0 : 0 < s.size) (h : (s.size : Int) ≤ 64) (hk : ¬ k < s.size) (hb : (s.data.toList.take k).any badByte = false) : check s.data.toList = if s.data.toList = [46] ∨ s.data.toList = [46, 46] then 6 else 0 := by
  rw [take_end s k hk] at hb
  unfold check; rw [← Lib.size_eq, if_neg (by omega), if_neg (by omega), if_neg (by rw [hb]; decide)]
theorem any_next {s : ByteArray} {k : Nat} (hk : k < s.size) (h : (s.data.toList.take k).any badByte = false) (hb : badByte s[k] = false) : (s.data.toList.take (k + 1)).any badByte = false := by
  rw [take_next s k hk, List.any_append, h]; simp [hb]

set_option maxHeartbeats 400000 in
theorem refCheck_any (s : ByteArray) (w : World) :
    Calls Try.prog 8 #[.string s] w fun e w' => e = .returned (.int .i64 (check s.data.toList)) ∧ w' = w := by
  by_cases h0 : 0 < s.size
  · have z1 : ((s.size : Int) == 0) = false := by rw [beq_eq_false_iff_ne]; omega
    by_cases h64 : (64 : Int) < s.size
    · have HE := Lib.hid (check_long h0 h64)
      go_enter Try.func8, Try.ntmps8
      go_wp2
      go_ret
      exact ⟨ret_int HE.out, rfl⟩
    · have h65 : (s.size : Int) ≤ 64 := by omega
      clear h64
      go_enter Try.func8, Try.ntmps8
      go_wp2
      go_loop [3] (fun i => ∃ k : Nat, k ≤ s.size ∧ i = .int .i64 k ∧ Hid ((s.data.toList.take k).any badByte = false)) (fun i => s.size - (intOf i).toNat)
      case atStart => exact ⟨0, Nat.zero_le _, rfl, rfl⟩
      case round =>
        obtain ⟨k, hk, rfl, ha⟩ := hrel
        by_cases hlt : k < s.size
        · by_cases hb0 : (s[k].toNat : Int) = 0
          · have HB := Lib.hid (check_bad h0 h65 hlt (by rw [byte_eq (d := 0) hb0]; rfl))
            have t0 : ((s[k].toNat : Int) == 0) = true := by rw [beq_iff_eq]; exact hb0
            clear hb0
            go_wp2
            go_ret
            exact ⟨ret_int HB.out, rfl⟩
          · have t0 : ((s[k].toNat : Int) == 0) = false := by rw [beq_eq_false_iff_ne]; exact hb0
            by_cases hb47 : (s[k].toNat : Int) = 47
            · have HB := Lib.hid (check_bad h0 h65 hlt (by rw [byte_eq (d := 47) hb47]; rfl))
              have t47 : ((s[k].toNat : Int) == 47) = true := by rw [beq_iff_eq]; exact hb47
              clear hb0 hb47
              go_wp2
              go_ret
              exact ⟨ret_int HB.out, rfl⟩
            · have t47 : ((s[k].toNat : Int) == 47) = false := by rw [beq_eq_false_iff_ne]; exact hb47
              have HB := Lib.hid (any_next hlt ha.out (by have a1 := byte_ne (d := 0) hb0; have a2 := byte_ne (d := 47) hb47; simp [badByte, a1, a2]))
              clear hb0 hb47
              go_wp2
              go_round
              case rel => exact ⟨k + 1, by omega, by go_num, HB⟩
              case measure => simp [intOf]; omega
        · have HE := Lib.hid (check_end h0 h65 hlt ha.out)
          cases t1 : (s.toList == [46]) with
          | true =>
            have HX := Lib.hid (beq_iff_eq.1 t1)
            go_wp2
            go_ret
            exact ⟨ret_int (by rw [HE.out, ← Lib.toList_data, HX.out]; rfl), rfl⟩
          | false =>
            cases t2 : (s.toList == [46, 46]) with
            | true =>
              have HX := Lib.hid (beq_iff_eq.1 t2)
              go_wp2
              go_ret
              exact ⟨ret_int (by rw [HE.out, ← Lib.toList_data, HX.out]; rfl), rfl⟩
            | false =>
              have HX := Lib.hid (beq_eq_false_iff_ne.1 t1)
              have HY := Lib.hid (beq_eq_false_iff_ne.1 t2)
              go_wp2
              go_ret
              exact ⟨ret_int (by rw [HE.out, ← Lib.toList_data, if_neg (fun e => by rcases e with e | e; exact HX.out e; exact HY.out e)]), rfl⟩
  · have z1 : ((s.size : Int) == 0) = true := by rw [beq_iff_eq]; omega
    have HE := Lib.hid (check_empty h0)
    go_enter Try.func8, Try.ntmps8
    go_wp2
    go_ret
    exact ⟨ret_int HE.out, rfl⟩
theorem refCheck_at (s : ByteArray) (c : Int) (h : check s.data.toList = c) (w : World) :
    Calls Try.prog 8 #[.string s] w fun e w' => e = .returned (.int .i64 c) ∧ w' = w := by
  rw [← h]; exact refCheck_any s w
/-! ### Plain -/
theorem plain_not {s : ByteArray} (h : ¬ check s.data.toList = 0) : false = plain s.data.toList := by simp [plain, h]
theorem plain_dash {s : ByteArray} (h0 : 0 < s.size) (h : s[0] = 45) : false = plain s.data.toList := by
  unfold plain; rw [head_of h0, h]; simp
theorem plain_odd {s : ByteArray} {k : Nat} (hk : k < s.size) (h : plainByte s[k] = false) : false = plain s.data.toList := by
  have : s.data.toList.all plainByte = false := by
    rw [List.all_eq_false]
    have hk2 : k < s.data.toList.length := by rw [← Lib.size_eq]; exact hk
    exact ⟨s.data.toList[k], List.getElem_mem hk2, by show ¬ plainByte s[k] = true; rw [h]; decide⟩
  simp [plain, this]
theorem plain_end {s : ByteArray} {k : Nat} (h0 : 0 < s.size) (hc : check s.data.toList = 0) (hd : ¬ s[0] = 45) (hk : ¬ k < s.size) (ha : (s.data.toList.take k).all plainByte = true) : true = plain s.data.toList := by
  rw [take_end s k hk] at ha
  unfold plain; rw [head_of h0]; simp [hc, hd, ha]
theorem all_next {s : ByteArray} {k : Nat} (hk : k < s.size) (h : (s.data.toList.take k).all plainByte = true) (hb : plainByte s[k] = true) : (s.data.toList.take (k + 1)).all plainByte = true := by
  rw [take_next s k hk, List.all_append, h]; simp [hb]
theorem plain_yes {c : UInt8} (h : 97 ≤ c.toNat ∧ c.toNat ≤ 122 ∨ 65 ≤ c.toNat ∧ c.toNat ≤ 90 ∨ 48 ≤ c.toNat ∧ c.toNat ≤ 57 ∨ c.toNat = 46 ∨ c.toNat = 95 ∨ c.toNat = 43 ∨ c.toNat = 45) : plainByte c = true := by
  unfold plainByte
  rcases h with h | h | h | h | h | h | h
  · simp [h.1, h.2]
  · simp [h.1, h.2]
  · simp [h.1, h.2]
  · have : c = 46 := UInt8.toNat_inj.1 h; simp [this]
  · have : c = 95 := UInt8.toNat_inj.1 h; simp [this]
  · have : c = 43 := UInt8.toNat_inj.1 h; simp [this]
  · have : c = 45 := UInt8.toNat_inj.1 h; simp [this]
theorem plain_no {c : UInt8} (h : ¬ (97 ≤ c.toNat ∧ c.toNat ≤ 122 ∨ 65 ≤ c.toNat ∧ c.toNat ≤ 90 ∨ 48 ≤ c.toNat ∧ c.toNat ≤ 57 ∨ c.toNat = 46 ∨ c.toNat = 95 ∨ c.toNat = 43 ∨ c.toNat = 45)) : plainByte c = false := by
  have a1 : ¬ c = 46 := fun e => h (by rw [e]; decide)
  have a2 : ¬ c = 95 := fun e => h (by rw [e]; decide)
  have a3 : ¬ c = 43 := fun e => h (by rw [e]; decide)
  have a4 : ¬ c = 45 := fun e => h (by rw [e]; decide)
  unfold plainByte
  simp only [a1, a2, a3, a4, decide_false, Bool.or_false, Bool.or_eq_false_iff, Bool.and_eq_false_iff, decide_eq_false_iff_not]
  omega

set_option maxHeartbeats 2000000 in
theorem refPlain_any (s : ByteArray) (hs : s.size ≤ maxLen) (w : World) :
    Calls Try.prog 9 #[.string s] w fun e w' => e = .returned (.bool (plain s.data.toList)) ∧ w' = w := by
  unfold maxLen at hs
  by_cases hc : check s.data.toList = 0
  · have h0 : 0 < s.size := by
      rcases Nat.lt_or_ge 0 s.size with h | h
      · exact h
      · have := check_empty (s := s) (by omega); rw [hc] at this; cases this
    have HC := Lib.hid (refCheck_at s 0 hc)
    have HC0 := Lib.hid hc
    clear hc
    by_cases hd : (s[0].toNat : Int) = 45
    · have HP := Lib.hid (plain_dash h0 (byte_eq (d := 45) hd))
      have t45 : ((s[0].toNat : Int) == 45) = true := by rw [beq_iff_eq]; exact hd
      clear hd
      go_enter Try.func9, Try.ntmps9
      go_wp2_with fail
      refine (HC.out _).mono ?_
      rintro e w' ⟨rfl, rfl⟩
      go_wp2_with fail
      go_ret
      exact ⟨ret_bool HP.out, rfl⟩
    · have t45 : ((s[0].toNat : Int) == 45) = false := by rw [beq_eq_false_iff_ne]; exact hd
      have HD := Lib.hid (byte_ne (d := 45) hd)
      clear hd
      go_enter Try.func9, Try.ntmps9
      go_wp2_with fail
      refine (HC.out _).mono ?_
      rintro e w' ⟨rfl, rfl⟩
      go_wp2_with fail
      go_loop [3] (fun i => ∃ k : Nat, k ≤ s.size ∧ i = .int .i64 k ∧ Hid ((s.data.toList.take k).all plainByte = true)) (fun i => s.size - (intOf i).toNat)
      case atStart => exact ⟨0, Nat.zero_le _, rfl, rfl⟩
      case round =>
        obtain ⟨k, hk, rfl, ha⟩ := hrel
        by_cases hlt : k < s.size
        · have hbd : (s[k].toNat : Int) ≤ 255 := by have := UInt8.toNat_lt s[k]; omega
          have hcl : ((0 : Int) ≤ s[k].toNat ∧ (s[k].toNat : Int) ≤ 42) ∨ ((43 : Int) ≤ s[k].toNat ∧ (s[k].toNat : Int) ≤ 43) ∨ ((44 : Int) ≤ s[k].toNat ∧ (s[k].toNat : Int) ≤ 44) ∨ ((45 : Int) ≤ s[k].toNat ∧ (s[k].toNat : Int) ≤ 45) ∨ ((46 : Int) ≤ s[k].toNat ∧ (s[k].toNat : Int) ≤ 46) ∨ ((47 : Int) ≤ s[k].toNat ∧ (s[k].toNat : Int) ≤ 47) ∨ ((48 : Int) ≤ s[k].toNat ∧ (s[k].toNat : Int) ≤ 57) ∨ ((58 : Int) ≤ s[k].toNat ∧ (s[k].toNat : Int) ≤ 64) ∨ ((65 : Int) ≤ s[k].toNat ∧ (s[k].toNat : Int) ≤ 90) ∨ ((91 : Int) ≤ s[k].toNat ∧ (s[k].toNat : Int) ≤ 94) ∨ ((95 : Int) ≤ s[k].toNat ∧ (s[k].toNat : Int) ≤ 95) ∨ ((96 : Int) ≤ s[k].toNat ∧ (s[k].toNat : Int) ≤ 96) ∨ ((97 : Int) ≤ s[k].toNat ∧ (s[k].toNat : Int) ≤ 122) ∨ ((123 : Int) ≤ s[k].toNat ∧ (s[k].toNat : Int) ≤ 255) := by omega
          rcases hcl with ⟨c1, c2⟩ | ⟨c1, c2⟩ | ⟨c1, c2⟩ | ⟨c1, c2⟩ | ⟨c1, c2⟩ | ⟨c1, c2⟩ | ⟨c1, c2⟩ | ⟨c1, c2⟩ | ⟨c1, c2⟩ | ⟨c1, c2⟩ | ⟨c1, c2⟩ | ⟨c1, c2⟩ | ⟨c1, c2⟩ | ⟨c1, c2⟩
          · have HA := Lib.hid (plain_odd hlt (plain_no (by omega)))
            have u46 : ((s[k].toNat : Int) != 46) = true := by rw [bne_iff_ne]; omega
            have u95 : ((s[k].toNat : Int) != 95) = true := by rw [bne_iff_ne]; omega
            have u43 : ((s[k].toNat : Int) != 43) = true := by rw [bne_iff_ne]; omega
            have u45 : ((s[k].toNat : Int) != 45) = true := by rw [bne_iff_ne]; omega
            go_wp2
            go_ret
            exact ⟨ret_bool HA.out, rfl⟩
          · have HA := Lib.hid (all_next hlt ha.out (plain_yes (by omega)))
            have u46 : ((s[k].toNat : Int) != 46) = true := by rw [bne_iff_ne]; omega
            have u95 : ((s[k].toNat : Int) != 95) = true := by rw [bne_iff_ne]; omega
            have u43 : ((s[k].toNat : Int) != 43) = false := by rw [bne_eq_false_iff_eq]; omega
            have c3 : (0 : Int) ≤ s[k].toNat := by omega
            have c4 : (s[k].toNat : Int) ≤ 47 := by omega
            clear c1 c2
            go_wp2
            go_round
            case rel => exact ⟨k + 1, by omega, by go_num, HA⟩
            case measure => simp [intOf]; omega
          · have HA := Lib.hid (plain_odd hlt (plain_no (by omega)))
            have u46 : ((s[k].toNat : Int) != 46) = true := by rw [bne_iff_ne]; omega
            have u95 : ((s[k].toNat : Int) != 95) = true := by rw [bne_iff_ne]; omega
            have u43 : ((s[k].toNat : Int) != 43) = true := by rw [bne_iff_ne]; omega
            have u45 : ((s[k].toNat : Int) != 45) = true := by rw [bne_iff_ne]; omega
            go_wp2
            go_ret
            exact ⟨ret_bool HA.out, rfl⟩
          · have HA := Lib.hid (all_next hlt ha.out (plain_yes (by omega)))
            have u46 : ((s[k].toNat : Int) != 46) = true := by rw [bne_iff_ne]; omega
            have u95 : ((s[k].toNat : Int) != 95) = true := by rw [bne_iff_ne]; omega
            have u43 : ((s[k].toNat : Int) != 43) = true := by rw [bne_iff_ne]; omega
            have u45 : ((s[k].toNat : Int) != 45) = false := by rw [bne_eq_false_iff_eq]; omega
            have c3 : (0 : Int) ≤ s[k].toNat := by omega
            have c4 : (s[k].toNat : Int) ≤ 47 := by omega
            clear c1 c2
            go_wp2
            go_round
            case rel => exact ⟨k + 1, by omega, by go_num, HA⟩
            case measure => simp [intOf]; omega
          · have HA := Lib.hid (all_next hlt ha.out (plain_yes (by omega)))
            have u46 : ((s[k].toNat : Int) != 46) = false := by rw [bne_eq_false_iff_eq]; omega
            have c3 : (0 : Int) ≤ s[k].toNat := by omega
            have c4 : (s[k].toNat : Int) ≤ 47 := by omega
            clear c1 c2
            go_wp2
            go_round
            case rel => exact ⟨k + 1, by omega, by go_num, HA⟩
            case measure => simp [intOf]; omega
          · have HA := Lib.hid (plain_odd hlt (plain_no (by omega)))
            have u46 : ((s[k].toNat : Int) != 46) = true := by rw [bne_iff_ne]; omega
            have u95 : ((s[k].toNat : Int) != 95) = true := by rw [bne_iff_ne]; omega
            have u43 : ((s[k].toNat : Int) != 43) = true := by rw [bne_iff_ne]; omega
            have u45 : ((s[k].toNat : Int) != 45) = true := by rw [bne_iff_ne]; omega
            go_wp2
            go_ret
            exact ⟨ret_bool HA.out, rfl⟩
          · have HA := Lib.hid (all_next hlt ha.out (plain_yes (by omega)))
            have u46 : ((s[k].toNat : Int) != 46) = true := by rw [bne_iff_ne]; omega
            have u95 : ((s[k].toNat : Int) != 95) = true := by rw [bne_iff_ne]; omega
            have u43 : ((s[k].toNat : Int) != 43) = true := by rw [bne_iff_ne]; omega
            have u45 : ((s[k].toNat : Int) != 45) = true := by rw [bne_iff_ne]; omega
            go_wp2
            go_round
            case rel => exact ⟨k + 1, by omega, by go_num, HA⟩
            case measure => simp [intOf]; omega
          · have HA := Lib.hid (plain_odd hlt (plain_no (by omega)))
            have d57 : decide ((s[k].toNat : Int) ≤ 57) = false := by rw [decide_eq_false_iff_not]; omega
            have u46 : ((s[k].toNat : Int) != 46) = true := by rw [bne_iff_ne]; omega
            have u95 : ((s[k].toNat : Int) != 95) = true := by rw [bne_iff_ne]; omega
            have u43 : ((s[k].toNat : Int) != 43) = true := by rw [bne_iff_ne]; omega
            have u45 : ((s[k].toNat : Int) != 45) = true := by rw [bne_iff_ne]; omega
            go_wp2
            go_ret
            exact ⟨ret_bool HA.out, rfl⟩
          · have HA := Lib.hid (all_next hlt ha.out (plain_yes (by omega)))
            have u46 : ((s[k].toNat : Int) != 46) = true := by rw [bne_iff_ne]; omega
            have u95 : ((s[k].toNat : Int) != 95) = true := by rw [bne_iff_ne]; omega
            have u43 : ((s[k].toNat : Int) != 43) = true := by rw [bne_iff_ne]; omega
            have u45 : ((s[k].toNat : Int) != 45) = true := by rw [bne_iff_ne]; omega
            go_wp2
            go_round
            case rel => exact ⟨k + 1, by omega, by go_num, HA⟩
            case measure => simp [intOf]; omega
          · have HA := Lib.hid (plain_odd hlt (plain_no (by omega)))
            have d57 : decide ((s[k].toNat : Int) ≤ 57) = false := by rw [decide_eq_false_iff_not]; omega
            have d90 : decide ((s[k].toNat : Int) ≤ 90) = false := by rw [decide_eq_false_iff_not]; omega
            have u46 : ((s[k].toNat : Int) != 46) = true := by rw [bne_iff_ne]; omega
            have u95 : ((s[k].toNat : Int) != 95) = true := by rw [bne_iff_ne]; omega
            have u43 : ((s[k].toNat : Int) != 43) = true := by rw [bne_iff_ne]; omega
            have u45 : ((s[k].toNat : Int) != 45) = true := by rw [bne_iff_ne]; omega
            go_wp2
            go_ret
            exact ⟨ret_bool HA.out, rfl⟩
          · have HA := Lib.hid (all_next hlt ha.out (plain_yes (by omega)))
            have d57 : decide ((s[k].toNat : Int) ≤ 57) = false := by rw [decide_eq_false_iff_not]; omega
            have d90 : decide ((s[k].toNat : Int) ≤ 90) = false := by rw [decide_eq_false_iff_not]; omega
            have u46 : ((s[k].toNat : Int) != 46) = true := by rw [bne_iff_ne]; omega
            have u95 : ((s[k].toNat : Int) != 95) = false := by rw [bne_eq_false_iff_eq]; omega
            have c3 : (91 : Int) ≤ s[k].toNat := by omega
            have c4 : (s[k].toNat : Int) ≤ 96 := by omega
            clear c1 c2
            go_wp2
            go_round
            case rel => exact ⟨k + 1, by omega, by go_num, HA⟩
            case measure => simp [intOf]; omega
          · have HA := Lib.hid (plain_odd hlt (plain_no (by omega)))
            have d57 : decide ((s[k].toNat : Int) ≤ 57) = false := by rw [decide_eq_false_iff_not]; omega
            have d90 : decide ((s[k].toNat : Int) ≤ 90) = false := by rw [decide_eq_false_iff_not]; omega
            have u46 : ((s[k].toNat : Int) != 46) = true := by rw [bne_iff_ne]; omega
            have u95 : ((s[k].toNat : Int) != 95) = true := by rw [bne_iff_ne]; omega
            have u43 : ((s[k].toNat : Int) != 43) = true := by rw [bne_iff_ne]; omega
            have u45 : ((s[k].toNat : Int) != 45) = true := by rw [bne_iff_ne]; omega
            go_wp2
            go_ret
            exact ⟨ret_bool HA.out, rfl⟩
          · have HA := Lib.hid (all_next hlt ha.out (plain_yes (by omega)))
            have u46 : ((s[k].toNat : Int) != 46) = true := by rw [bne_iff_ne]; omega
            have u95 : ((s[k].toNat : Int) != 95) = true := by rw [bne_iff_ne]; omega
            have u43 : ((s[k].toNat : Int) != 43) = true := by rw [bne_iff_ne]; omega
            have u45 : ((s[k].toNat : Int) != 45) = true := by rw [bne_iff_ne]; omega
            go_wp2
            go_round
            case rel => exact ⟨k + 1, by omega, by go_num, HA⟩
            case measure => simp [intOf]; omega
          · have HA := Lib.hid (plain_odd hlt (plain_no (by omega)))
            have d57 : decide ((s[k].toNat : Int) ≤ 57) = false := by rw [decide_eq_false_iff_not]; omega
            have d90 : decide ((s[k].toNat : Int) ≤ 90) = false := by rw [decide_eq_false_iff_not]; omega
            have d122 : decide ((s[k].toNat : Int) ≤ 122) = false := by rw [decide_eq_false_iff_not]; omega
            have u46 : ((s[k].toNat : Int) != 46) = true := by rw [bne_iff_ne]; omega
            have u95 : ((s[k].toNat : Int) != 95) = true := by rw [bne_iff_ne]; omega
            have u43 : ((s[k].toNat : Int) != 43) = true := by rw [bne_iff_ne]; omega
            have u45 : ((s[k].toNat : Int) != 45) = true := by rw [bne_iff_ne]; omega
            go_wp2
            go_ret
            exact ⟨ret_bool HA.out, rfl⟩
        · have HP := Lib.hid (plain_end h0 HC0.out HD.out hlt ha.out)
          go_wp2
          go_ret
          exact ⟨ret_bool HP.out, rfl⟩
  · have HP := Lib.hid (plain_not hc)
    obtain ⟨c, hcc⟩ : ∃ c, check s.data.toList = c := ⟨_, rfl⟩
    have HC := Lib.hid (refCheck_at s c hcc)
    have tc : (c != 0) = true := by rw [bne_iff_ne, ← hcc]; exact hc
    clear hc hcc
    go_enter Try.func9, Try.ntmps9
    go_wp2_with fail
    refine (HC.out _).mono ?_
    rintro e w' ⟨rfl, rfl⟩
    go_wp2_with fail
    go_ret
    exact ⟨ret_bool HP.out, rfl⟩
end Go.Proofs.Ytpefncegkhkeaaa.W03
