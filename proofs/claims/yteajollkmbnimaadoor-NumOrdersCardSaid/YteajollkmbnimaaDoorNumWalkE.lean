/-
  Layer 1 (num), walks: Text and the plain answer's Text: the decimal digits of every int; new memory may be laid, nothing that was there is changed. What the listed variables of Go's library hold is a condition, and stays.
-/
import Derived.Test.YteajollkmbnimaaDoorNumWalkD
import Derived.Lib.LaidTab
namespace Go.Proofs.YteajollkmbnimaaDoor.NumW
open Go Go.RowKit Go.Proofs.YteajollkmbnimaaDoor.NumM

theorem var_stays {P : Program} {W W' : World} {n : String} {cs : Array Value} (h : Below W.heap.size W W') (hv : W.var? P n = some cs) : W'.var? P n = some cs := by
  unfold World.var? at hv ⊢
  cases hg : P.globalNamed n with
  | none => rw [hg] at hv; simp at hv
  | some g =>
    rw [hg] at hv
    simp only [Option.bind_some] at hv ⊢
    have hlt : g < W.heap.size := by
      rcases Nat.lt_or_ge g W.heap.size with h1 | h1
      · exact h1
      · rw [Array.getElem?_eq_none h1] at hv; simp at hv
    rw [h.block g hlt]
    exact hv
/-- what the conversions of numbers read of Go's library -/
def Held (W : World) : Prop := Lib.TabIs Tryd.prog W "internal/strconv.uint64pow10" .u64 Lib.pow10Tab ∧ ∃ tp pv, W.var? Tryd.prog "strconv.ErrRange" = some #[.iface tp pv]
theorem Held.on {W W' : World} (h : Held W) (hb : Below W.heap.size W W') : Held W' := ⟨var_stays hb h.1, by
  obtain ⟨tp, pv, h2⟩ := h.2
  exact ⟨tp, pv, var_stays hb h2⟩⟩
theorem below_lib (w : World) (k : Nat) (os : Array Obj) : Below w.heap.size w (Sort.grow (w.drewN k) os) := by
  refine ⟨rfl, rfl, rfl, ?_, fun i hi => ?_⟩
  · show w.heap.size ≤ (w.heap ++ os).size
    rw [Array.size_append]; omega
  · show (w.heap ++ os)[i]? = _
    rw [Array.getElem?_append_left hi]

set_option maxHeartbeats 400000 in
theorem text_any (n : Int) (h0 : -9223372036854775808 ≤ n) (h1 : n ≤ 9223372036854775807) (w : World) (hh : Held w) :
    Calls Tryd.prog 8 #[.int .i64 n] w fun e w' => e = .returned (.string ⟨(Lib.itoa n).toArray⟩) ∧ Below w.heap.size w w' := by
  have HH := Lib.hid hh
  clear hh
  go_enter Tryd.func8, Tryd.ntmps8
  go_wp2_with (go_at_call 18; refine (Tryd.strconv_Itoa n h0 h1 _ HH.out.1).mono ?_; rintro e w' ⟨rfl, k, os, rfl⟩)
  go_ret
  exact ⟨rfl, below_lib _ _ _⟩

/-! ### the plain answer: digit by digit -/
def Going (U u : Nat) (d : ByteArray) : Prop := (d.data.toList = [] ∧ u = U) ∨ (d.data.toList ≠ [] ∧ (if u = 0 then [] else Lib.decDigits u) ++ d.data.toList = Lib.decDigits U)

theorem dec_last (k : Nat) : (if k / 10 = 0 then [] else Lib.decDigits (k / 10)) ++ [UInt8.ofNat (48 + k % 10)] = Lib.decDigits k := by
  conv => rhs; rw [Lib.decDigits]
  by_cases h : k < 10
  · rw [if_pos (by omega), dif_pos h, Nat.mod_eq_of_lt h]; rfl
  · rw [if_neg (by omega), dif_neg h]
theorem one_bytes (k : Nat) (t : ByteArray) : (strOfNums [48 + (k : Int) % 10] ++ t).data.toList = UInt8.ofNat (48 + k % 10) :: t.data.toList := by
  obtain ⟨⟨l⟩⟩ := t
  have e : (48 + (k : Int) % 10).toNat = 48 + k % 10 := by omega
  have h : (strOfNums [48 + (k : Int) % 10] ++ (⟨⟨l⟩⟩ : ByteArray)).data = (strOfNums [48 + (k : Int) % 10]).data ++ (⟨l⟩ : Array UInt8) := ByteArray.data_append
  rw [h, Array.toList_append, strOfNums_data]
  simp only [List.map_cons, List.map_nil, e]
  rfl
theorem going_step {U k : Nat} {t : ByteArray} (h : Going U k t) (h2 : t.data.toList ≠ [] → 0 < k) : Going U (k / 10) (strOfNums [48 + (k : Int) % 10] ++ t) := by
  right
  rw [one_bytes]
  refine ⟨by simp, ?_⟩
  rcases h with ⟨h3, rfl⟩ | ⟨h3, h4⟩
  · rw [h3]; exact dec_last k
  · have := h2 h3
    rw [if_neg (by omega), ← dec_last k, List.append_assoc] at h4
    exact h4
theorem going_end {U : Nat} {t : ByteArray} (h : Going U 0 t) (h2 : 0 < t.size) : t.data.toList = Lib.decDigits U := by
  rcases h with ⟨h3, _⟩ | ⟨_, h4⟩
  · rw [Lib.size_eq, h3] at h2; simp at h2
  · simpa using h4
theorem going_size {U k : Nat} {t : ByteArray} (h : Going U k t) (hU : U ≤ 9999999999999999999) : t.size ≤ 19 := by
  rw [Lib.size_eq]
  rcases h with ⟨h3, _⟩ | ⟨_, h4⟩
  · rw [h3]; simp
  · have h5 : t.data.toList.length ≤ (Lib.decDigits U).length := by rw [← h4, List.length_append]; omega
    rcases Nat.lt_or_ge 19 (Lib.decDigits U).length with h6 | h6
    · have := val_big (digits_dec U) h6
      rw [decDigits_val] at this
      omega
    · omega
theorem str_one (x : Int) : (strOfNums [x]).size = 1 := strOfNums_size [x]
theorem u64_nat {a : Int} {b : Nat} (h : a = b) : Value.int .u64 a = Value.int .u64 (b : Int) := by rw [h]
theorem not_empty {t : ByteArray} (h : 0 < t.size) : ¬ t = ByteArray.empty := fun e => by rw [e] at h; simp at h
theorem is_empty {t : ByteArray} (h : ¬ 0 < t.size) : t = ByteArray.empty := ByteArray.size_eq_zero_iff.1 (by omega)
theorem one_not_empty (x : Int) : ¬ strOfNums [x] = ByteArray.empty := fun e => by have := congrArg ByteArray.size e; rw [strOfNums_size] at this; simp at this
theorem minus_cat (t : ByteArray) : (⟨#[45]⟩ : ByteArray) ++ t = ⟨(45 :: t.data.toList).toArray⟩ := by
  obtain ⟨⟨l⟩⟩ := t
  have h : ((⟨#[45]⟩ : ByteArray) ++ (⟨⟨l⟩⟩ : ByteArray)).data = #[45] ++ (⟨l⟩ : Array UInt8) := ByteArray.data_append
  rw [← mk_bytes ((⟨#[45]⟩ : ByteArray) ++ (⟨⟨l⟩⟩ : ByteArray)), h, Array.toList_append]
  rfl
theorem conv_one (W : World) (c : Int) : (convert 40 9 (.slice (some ⟨W.heap.size, 0, none⟩) 1 1)).run Tryd.prog (W.alloc (.cells #[.int .u8 c] 5)) = .ok (.string (strOfNums [c])) (W.alloc (.cells #[.int .u8 c] 5)) :=
  run_convert_bytes_arg _ 40 5 Tryd.underlying40 Tryd.underlying5 _ 0 1 1 [c] rfl (fun i hi => by
    obtain rfl : i = 0 := by omega
    simp) 9 Tryd.underlying9

set_option maxHeartbeats 400000 in
set_option maxRecDepth 100000 in
theorem refText_pos (n : Int) (h0 : 0 ≤ n) (h1 : n ≤ 9223372036854775807) (w : World) :
    Calls Tryd.prog 9 #[.int .i64 n] w fun e w' => e = .returned (.string ⟨(Lib.itoa n).toArray⟩) ∧ Below w.heap.size w w' := by
  obtain ⟨U, rfl⟩ := Int.eq_ofNat_of_zero_le h0
  have hU : U ≤ 9999999999999999999 := by omega
  have HF := Lib.hid (Lib.itoa_nonneg U)
  have hcv := conv_one
  have hs1 := str_one
  go_enter Tryd.func9, Tryd.ntmps9
  go_wp2
  go_loopw [3, 4] (fun d u wr => ∃ (t : ByteArray) (k : Nat), d = .string t ∧ u = .int .u64 k ∧ k ≤ 18446744073709551615 ∧ Hid (Going U k t) ∧ Below w.heap.size w wr) (fun d u _ => (intOf u).toNat + (if strSize d = 0 then 1 else 0))
  case atStart => exact ⟨⟨#[]⟩, U, rfl, rfl, by omega, Or.inl ⟨rfl, rfl⟩, Below.refl _ _⟩
  case round =>
    obtain ⟨t, k, rfl, rfl, hk, hg, hb⟩ := hrel
    have hsz := going_size hg.out hU
    have hbs := hb.size
    by_cases ht : 0 < t.size
    · have he := list_full ht
      have hn := list_ne ht
      by_cases hz : (0 : Int) < k
      · have hgn := Lib.hid (going_step hg.out (fun _ => by omega))
        go_wp2
        go_roundw
        case rel => exact ⟨_, k / 10, rfl, u64_nat (by omega), by omega, hgn, hb.alloc (by omega) _⟩
        case measure =>
          have e1 := not_empty ht
          simp [intOf, strSize, e1]; omega
      · obtain rfl : k = 0 := by omega
        have hd := Lib.hid (going_end hg.out ht)
        go_wp2
        go_ret
        exact ⟨ret_str (by rw [HF.out, ← hd.out, mk_bytes]), hb⟩
    · have he := list_none ht
      have hn := list_nil ht
      have hgn := Lib.hid (going_step hg.out (fun h => absurd (bytes_nil ht) h))
      go_wp2
      go_roundw
      case rel => exact ⟨_, k / 10, rfl, u64_nat (by omega), by omega, hgn, hb.alloc (by omega) _⟩
      case measure =>
        have e1 := is_empty ht
        have e2 := one_not_empty (48 + (k : Int) % 10)
        simp [intOf, strSize, e1, e2]; omega

set_option maxHeartbeats 400000 in
set_option maxRecDepth 100000 in
theorem refText_neg (n : Int) (h0 : n < 0) (h1 : -9223372036854775808 ≤ n) (w : World) :
    Calls Tryd.prog 9 #[.int .i64 n] w fun e w' => e = .returned (.string ⟨(Lib.itoa n).toArray⟩) ∧ Below w.heap.size w w' := by
  obtain ⟨U, rfl⟩ : ∃ U : Nat, n = -(U : Int) := ⟨n.natAbs, by omega⟩
  have hU1 : 1 ≤ U := by omega
  have hU : U ≤ 9999999999999999999 := by omega
  have hwr : IntKind.u64.wrap (-IntKind.u64.wrap (-(U : Int))) = (U : Int) := by rw [IntKind.wrap_u64, IntKind.wrap_u64]; omega
  have HF := Lib.hid (Lib.itoa_neg U hU1)
  have hcv := conv_one
  have hs1 := str_one
  go_enter Tryd.func9, Tryd.ntmps9
  go_wp2
  go_loopw [3, 4] (fun d u wr => ∃ (t : ByteArray) (k : Nat), d = .string t ∧ u = .int .u64 k ∧ k ≤ 18446744073709551615 ∧ Hid (Going U k t) ∧ Below w.heap.size w wr) (fun d u _ => (intOf u).toNat + (if strSize d = 0 then 1 else 0))
  case atStart => exact ⟨⟨#[]⟩, U, rfl, rfl, by omega, Or.inl ⟨rfl, rfl⟩, Below.refl _ _⟩
  case round =>
    obtain ⟨t, k, rfl, rfl, hk, hg, hb⟩ := hrel
    have hsz := going_size hg.out hU
    have hbs := hb.size
    by_cases ht : 0 < t.size
    · have he := list_full ht
      have hn := list_ne ht
      by_cases hz : (0 : Int) < k
      · have hgn := Lib.hid (going_step hg.out (fun _ => by omega))
        go_wp2
        go_roundw
        case rel => exact ⟨_, k / 10, rfl, u64_nat (by omega), by omega, hgn, hb.alloc (by omega) _⟩
        case measure =>
          have e1 := not_empty ht
          simp [intOf, strSize, e1]; omega
      · obtain rfl : k = 0 := by omega
        have hd := Lib.hid (going_end hg.out ht)
        go_wp2
        go_ret
        exact ⟨ret_str (by rw [HF.out, ← hd.out, minus_cat]), hb⟩
    · have he := list_none ht
      have hn := list_nil ht
      have hgn := Lib.hid (going_step hg.out (fun h => absurd (bytes_nil ht) h))
      go_wp2
      go_roundw
      case rel => exact ⟨_, k / 10, rfl, u64_nat (by omega), by omega, hgn, hb.alloc (by omega) _⟩
      case measure =>
        have e1 := is_empty ht
        have e2 := one_not_empty (48 + (k : Int) % 10)
        simp [intOf, strSize, e1, e2]; omega

theorem refText_any (n : Int) (h0 : -9223372036854775808 ≤ n) (h1 : n ≤ 9223372036854775807) (w : World) :
    Calls Tryd.prog 9 #[.int .i64 n] w fun e w' => e = .returned (.string ⟨(Lib.itoa n).toArray⟩) ∧ Below w.heap.size w w' := by
  by_cases h : n < 0
  · exact refText_neg n h h0 w
  · exact refText_pos n (by omega) h1 w
end Go.Proofs.YteajollkmbnimaaDoor.NumW
