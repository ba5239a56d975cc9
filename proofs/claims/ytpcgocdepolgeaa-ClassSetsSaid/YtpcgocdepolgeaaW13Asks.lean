/-
  Layer 13 (class), walks of the program's questions on texts: is it a set, which bytes does it hold, how many; letters, bytes and spans that a text begins with. The conditions stand in the statements.
-/
import Derived.Test.YtpcgocdepolgeaaW13Code
import Derived.Test.YtpcgocdepolgeaaShelf
import Derived.BigQuiet
namespace Go.Proofs.Ytpcgocdepolgeaa.W13
set_option maxRecDepth 100000
open Go Go.RowKit Go.Proofs.Ytpcgocdepolgeaa.M13 Go.Proofs.Ytpcgocdepolgeaa.Row256
open Go.Proofs.Ytpcgocdepolgeaa.Kit (ret_str ret_bool ret_int mk_of mk_bytes ba_ext below_draws on)

theorem isSet_any (s : ByteArray) (w : World) : Calls Try.prog 23 #[.string s] w fun e w' => e = .returned (.bool (good s.data.toList)) ∧ w' = w := by
  have hg := good_counts s.data.toList
  have hle := counts_le s.data.toList
  rw [← Lib.size_eq] at hg hle
  by_cases h : s.size = 256
  · have hi : (((s.size : Nat) : Int) == 256) = true := by rw [h]; rfl
    have hw : (wrap64 (((Lib.countByte s.data.toList 48 : Nat) : Int) + ((Lib.countByte s.data.toList 49 : Nat) : Int)) == 256) = good s.data.toList := by
      rw [← hg, decide_eq_true h, Bool.true_and, h]
      show (wrap64 (((s.data.toList.count 48 : Nat) : Int) + ((s.data.toList.count 49 : Nat) : Int)) == 256) = decide (s.data.toList.count 48 + s.data.toList.count 49 = 256)
      have e : wrap64 (((s.data.toList.count 48 : Nat) : Int) + ((s.data.toList.count 49 : Nat) : Int)) = ((s.data.toList.count 48 + s.data.toList.count 49 : Nat) : Int) := by unfold wrap64; omega
      rw [e]
      exact decide_eq_decide.2 (by omega)
    have HW := Lib.hid hw
    clear hg hle hw
    go_enter Try.func23, Try.ntmps23
    go_wp2_with (refine (Try.strings_Count_one _ _ _).mono ?_; rintro e w' ⟨rfl, rfl⟩)
    go_ret
    exact ⟨ret_bool HW.out, rfl⟩
  · have HG := Lib.hid hg
    have hi : (((s.size : Nat) : Int) == 256) = false := beq_eq_false_iff_ne.2 (by omega)
    clear hg hle
    go_enter Try.func23, Try.ntmps23
    go_wp2_with fail
    go_ret
    refine ⟨ret_bool ?_, rfl⟩
    rw [← HG.out, decide_eq_false h]; rfl
theorem bitsOf_any (s : ByteArray) (w : World) : Calls Try.prog 25 #[.string s] w fun e w' => e = .returned (.agg (rowV (bv (has s.data.toList)))) ∧ Below w.heap.size w w' := bitsOf_over s w (isSet_any s)
theorem has_at {s : ByteArray} (hg : good s.data.toList = true) {i : Nat} (hi : i < s.size) : ((s[i].toNat : Int) == 49) = has s.data.toList i := by
  rw [has_good hg, Kit.byte_get s i hi]
  exact decide_eq_decide.2 ⟨fun h => UInt8.toNat_inj.1 (show s[i].toNat = 49 by omega), fun h => by rw [h]; rfl⟩
theorem has_any (s : ByteArray) (c : UInt8) (w : World) : Calls Try.prog 9 #[.string s, .int .u8 c.toNat] w fun e w' => e = .returned (.bool (has s.data.toList c.toNat)) ∧ w' = w := by
  cases hg : good s.data.toList with
  | false =>
    have HG := Lib.hid hg
    go_enter Try.func9, Try.ntmps9
    go_wp2_with fail
    refine (isSet_any s _).mono ?_
    rintro e w' ⟨rfl, rfl⟩
    go_wp2_with fail
    go_ret
    exact ⟨ret_bool (has_bad HG.out _).symm, rfl⟩
  | true =>
    have hsz : s.size = 256 := by rw [Lib.size_eq]; exact good_len hg
    have hc : c.toNat < s.size := by rw [hsz]; exact UInt8.toNat_lt c
    have HV := Lib.hid (has_at hg hc)
    clear hsz
    go_enter Try.func9, Try.ntmps9
    go_wp2_with fail
    refine (isSet_any s _).mono ?_
    rintro e w' ⟨rfl, rfl⟩
    go_wp2_with fail
    go_ret
    exact ⟨ret_bool HV.out, rfl⟩
theorem count_any (s : ByteArray) (w : World) : Calls Try.prog 15 #[.string s] w fun e w' => e = .returned (.int .i64 (count s.data.toList)) ∧ w' = w := by
  cases hg : good s.data.toList with
  | false =>
    have HV : Hid ((count s.data.toList : Int) = 0) := by unfold count Hid; rw [hg]; rfl
    go_enter Try.func15, Try.ntmps15
    go_wp2_with fail
    refine (isSet_any s _).mono ?_
    rintro e w' ⟨rfl, rfl⟩
    go_wp2_with fail
    go_ret
    exact ⟨ret_int HV.out.symm, rfl⟩
  | true =>
    have HV : Hid (count s.data.toList = Lib.countByte s.data.toList 49) := by unfold count Hid; rw [hg]; rfl
    go_enter Try.func15, Try.ntmps15
    go_wp2_with fail
    refine (isSet_any s _).mono ?_
    rintro e w' ⟨rfl, rfl⟩
    go_wp2_with (refine (Try.strings_Count_one _ _ _).mono ?_; rintro e w' ⟨rfl, rfl⟩)
    go_ret
    exact ⟨ret_int (by rw [HV.out]), rfl⟩
theorem letter_index (c : UInt8) : decide (0 ≤ Lib.indexByte [100, 119, 115, 68, 87, 83] c) = letter c := by
  unfold letter
  by_cases h1 : c = 100
  · subst h1; rfl
  by_cases h2 : c = 119
  · subst h2; rfl
  by_cases h3 : c = 115
  · subst h3; rfl
  by_cases h4 : c = 68
  · subst h4; rfl
  by_cases h5 : c = 87
  · subst h5; rfl
  by_cases h6 : c = 83
  · subst h6; rfl
  simp [Lib.indexByte, h1, h2, h3, h4, h5, h6, Ne.symm h1, Ne.symm h2, Ne.symm h3, Ne.symm h4, Ne.symm h5, Ne.symm h6]
theorem u8_back (c : UInt8) : ((c.toNat : Int)).toNat.toUInt8 = c := by
  rw [Int.toNat_natCast]; exact UInt8.ofNat_toNat
theorem isLetter_any (c : UInt8) (w : World) : Calls Try.prog 20 #[.int .u8 c.toNat] w fun e w' => e = .returned (.bool (letter c)) ∧ w' = w := by
  have HV := Lib.hid (letter_index c)
  have HU := Lib.hid (u8_back c)
  go_enter Try.func20, Try.ntmps20
  go_wp2_with (refine (Try.strings_IndexByte _ _ _).mono ?_; rintro e w' ⟨rfl, rfl⟩; rw [HU.out])
  go_ret
  exact ⟨ret_bool HV.out, rfl⟩
theorem joined_is (s : List UInt8) : joined s = (Lib.hasPrefix s [45] && !Lib.hasPrefix s [45, 93]) := by
  unfold Lib.hasPrefix joined
  rcases s with _ | ⟨c, r⟩
  · rfl
  · by_cases h : c = 45
    · subst h
      rcases r with _ | ⟨d, q⟩
      · rfl
      · by_cases h2 : d = 93
        · subst h2; simp
        · have h3 : ¬ 93 = d := fun e => h2 e.symm
          simp [List.isPrefixOf, h2, h3]
    · simp [h, Ne.symm h]
theorem isJoined_any (s : ByteArray) (w : World) : Calls Try.prog 46 #[.string s] w fun e w' => e = .returned (.bool (joined s.data.toList)) ∧ w' = w := by
  have HV := Lib.hid (joined_is s.data.toList)
  cases hp : Lib.hasPrefix s.data.toList [45] with
  | false =>
    rw [hp] at HV
    go_enter Try.func46, Try.ntmps46
    go_wp2_with (refine (Try.strings_HasPrefix _ _ _).mono ?_; rintro e w' ⟨rfl, rfl⟩)
    go_ret
    exact ⟨ret_bool HV.out.symm, rfl⟩
  | true =>
    rw [hp] at HV
    go_enter Try.func46, Try.ntmps46
    go_wp2_with (refine (Try.strings_HasPrefix _ _ _).mono ?_; rintro e w' ⟨rfl, rfl⟩)
    go_ret
    exact ⟨ret_bool HV.out.symm, rfl⟩
end Go.Proofs.Ytpcgocdepolgeaa.W13
