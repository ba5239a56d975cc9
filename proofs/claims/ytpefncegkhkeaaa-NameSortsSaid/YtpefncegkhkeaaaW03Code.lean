/-
  Layer 3 (name), walks: what the program's Check, Right, Plain, Sort and Find return. No condition but those that each theorem bears.
-/
import Derived.Test.YtpefncegkhkeaaaW03May
import Derived.Test.YtpefncegkhkeaaaW03Sort
import Derived.Test.YtpefncegkhkeaaaW03Find
import Derived.Test.YtpefncegkhkeaaaW02Same
import Derived.Test.YtpefncegkhkeaaaLibSearch
import Derived.Test.YtpefncegkhkeaaaLibSlices
namespace Go.Proofs.Ytpefncegkhkeaaa.W03
open Go Go.RowKit Go.Proofs.Ytpefncegkhkeaaa.Strs Go.Proofs.Ytpefncegkhkeaaa.M03
open Go.Proofs.Ytpefncegkhkeaaa.Kit (ret_str ret_bool ret_int mk_of below_draws on list_full list_ne list_none list_nil)

def isPts (l : List UInt8) : Bool := (l == [46]) || (l == [46, 46])
theorem isPoints_any (s : ByteArray) (w : World) :
    Calls Try.prog 19 #[.string s] w fun e w' => e = .returned (.bool (isPts s.data.toList)) ∧ w' = w := by
  have HE : Hid (isPts s.data.toList = ((s.toList == [46]) || (s.toList == [46, 46]))) := by
    show isPts _ = _
    rw [Lib.toList_data]; rfl
  cases t1 : (s.toList == [46]) with
  | true =>
    have HX : Hid (isPts s.data.toList = true) := by show isPts _ = _; rw [HE.out, t1]; rfl
    clear HE
    go_enter Try.func19, Try.ntmps19
    go_wp2
    go_ret
    exact ⟨ret_bool HX.out.symm, rfl⟩
  | false =>
    cases t2 : (s.toList == [46, 46]) with
    | true =>
      have HX : Hid (isPts s.data.toList = true) := by show isPts _ = _; rw [HE.out, t1, t2]; rfl
      clear HE
      go_enter Try.func19, Try.ntmps19
      go_wp2
      go_ret
      exact ⟨ret_bool HX.out.symm, rfl⟩
    | false =>
      have HX : Hid (isPts s.data.toList = false) := by show isPts _ = _; rw [HE.out, t1, t2]; rfl
      clear HE
      go_enter Try.func19, Try.ntmps19
      go_wp2
      go_ret
      exact ⟨ret_bool HX.out.symm, rfl⟩
theorem check_of {s : ByteArray} (h0 : 0 < s.size) (h : ¬ (64 : Int) < s.size) : check s.data.toList = if s.data.toList.all goodB = true then (if isPts s.data.toList = true then 6 else 0) else 11 := by
  unfold check
  rw [← Lib.size_eq, if_neg (by omega), if_neg (by omega)]
  have e : s.data.toList.any badByte = !(s.data.toList.all goodB) := by
    rw [List.all_eq_not_any_not, Bool.not_not]
    congr 1
    funext c; simp [goodB]
  rw [e]
  cases s.data.toList.all goodB with
  | false => simp
  | true => simp [isPts]
theorem check_any (s : ByteArray) (_hs : s.size ≤ 140737488351232) (w : World) :
    Calls Try.prog 7 #[.string s] w fun e w' => e = .returned (.int .i64 (check s.data.toList)) ∧ Below w.heap.size w w' := by
  by_cases h0 : 0 < s.size
  · have z0 := list_full h0
    have z1 := list_ne h0
    by_cases h64 : (64 : Int) < s.size
    · have HE := Lib.hid (check_long h0 h64)
      go_enter Try.func7, Try.ntmps7
      go_wp2
      go_ret
      exact ⟨ret_int HE.out, Below.refl _ _⟩
    · have HE := Lib.hid (check_of h0 h64)
      have HA := Lib.hid (hasOnly_may s)
      have HP := Lib.hid (isPoints_any s)
      generalize s.data.toList.all goodB = a at *
      generalize isPts s.data.toList = b at *
      have h65 : (s.size : Int) ≤ 64 := by omega
      clear h64
      cases a with
      | false =>
        go_enter Try.func7, Try.ntmps7
        go_wp2_with fail
        refine (HA.out _).mono ?_
        rintro e w1 ⟨rfl, hb1⟩
        go_wp2
        go_ret
        exact ⟨ret_int (by rw [HE.out]; rfl), hb1⟩
      | true =>
        go_enter Try.func7, Try.ntmps7
        go_wp2_with fail
        refine (HA.out _).mono ?_
        rintro e w1 ⟨rfl, hb1⟩
        cases b with
        | false =>
          go_wp2_with fail
          refine (HP.out _).mono ?_
          rintro e w2 ⟨rfl, rfl⟩
          go_wp2
          go_ret
          exact ⟨ret_int (by rw [HE.out]; rfl), hb1⟩
        | true =>
          go_wp2_with fail
          refine (HP.out _).mono ?_
          rintro e w2 ⟨rfl, rfl⟩
          go_wp2
          go_ret
          exact ⟨ret_int (by rw [HE.out]; rfl), hb1⟩
  · have z0 := list_none h0
    have z1 := list_nil h0
    have HE := Lib.hid (check_empty h0)
    go_enter Try.func7, Try.ntmps7
    go_wp2
    go_ret
    exact ⟨ret_int HE.out, Below.refl _ _⟩
theorem right_any (s : ByteArray) (hs : s.size ≤ 140737488351232) (w : World) :
    Calls Try.prog 6 #[.string s] w fun e w' => e = .returned (.bool (decide (check s.data.toList = 0))) ∧ Below w.heap.size w w' := by
  have HC := Lib.hid (check_any s hs)
  generalize check s.data.toList = c at *
  go_enter Try.func6, Try.ntmps6
  go_wp2_with fail
  refine (HC.out _).mono ?_
  rintro e w1 ⟨rfl, hb⟩
  go_wp2_with fail
  go_ret
  exact ⟨ret_bool (by by_cases h : c = 0 <;> simp [h]), hb⟩
theorem check_full {s : ByteArray} (h : check s.data.toList = 0) : 0 < s.size := by
  rcases Nat.eq_zero_or_pos s.size with e | e
  · exfalso; revert h; unfold check; rw [← Lib.size_eq, if_pos e]; decide
  · exact e
theorem plain_any (s : ByteArray) (hs : s.size ≤ 140737488351232) (w : World) :
    Calls Try.prog 5 #[.string s] w fun e w' => e = .returned (.bool (plain s.data.toList)) ∧ Below w.heap.size w w' := by
  have HR := Lib.hid (right_any s hs)
  by_cases hc : check s.data.toList = 0
  · have h0 := check_full hc
    rw [decide_eq_true hc] at HR
    by_cases hd : s[0] = 45
    · have HP := Lib.hid (plain_dash h0 hd)
      have t1 : ((s[0].toNat : Int) != 45) = false := by rw [hd]; decide
      clear hc hd
      go_enter Try.func5, Try.ntmps5
      go_wp2_with fail
      refine (HR.out _).mono ?_
      rintro e w1 ⟨rfl, hb⟩
      go_wp2
      go_ret
      exact ⟨ret_bool HP.out, hb⟩
    · have HP : Hid (plain s.data.toList = s.data.toList.all plainByte) := by
        show plain _ = _
        unfold plain; rw [Kit.head_of h0]; simp [hc, hd]
      have t1 : ((s[0].toNat : Int) != 45) = true := by rw [bne_iff_ne]; exact fun e => hd (UInt8.toNat_inj.1 (by rw [show (45 : UInt8).toNat = 45 from rfl]; omega))
      have HA := Lib.hid (hasOnly_plain s)
      rw [HP.out]
      generalize s.data.toList.all plainByte = a at *
      clear hc hd HP
      go_enter Try.func5, Try.ntmps5
      go_wp2_with fail
      refine (HR.out _).mono ?_
      rintro e w1 ⟨rfl, hb⟩
      have B1 := Lib.hid hb
      clear hb
      go_wp2_with fail
      refine (HA.out _).mono ?_
      rintro e w2 ⟨rfl, hb⟩
      have B2 := Lib.hid (on B1.out hb)
      clear hb
      go_wp2
      go_ret
      exact ⟨rfl, B2.out⟩
  · have HP := Lib.hid (plain_not hc)
    rw [decide_eq_false hc] at HR
    clear hc
    go_enter Try.func5, Try.ntmps5
    go_wp2_with fail
    refine (HR.out _).mono ?_
    rintro e w1 ⟨rfl, hb⟩
    go_wp2
    go_ret
    exact ⟨ret_bool HP.out, hb⟩
/-- names that rise, of a list's names, come back in new memory -/
theorem sort_any (v : Value) (L : List (List UInt8)) (w : World) (h : Texts w.heap.size w v L) (hn : L.length ≤ 1099511627776) (_hl : ∀ l ∈ L, l.length ≤ maxLen) :
    Calls Try.prog 11 #[v] w fun e w' => ∃ u M, e = .returned u ∧ Texts w'.heap.size w' u M ∧ (Rises M ∧ ∀ x, x ∈ M ↔ x ∈ L) ∧ Below w.heap.size w w' := by
  have HC := Lib.hid (clone_texts v L w.heap.size w h (by omega))
  obtain ⟨A, c, rfl, -, -⟩ := h.form
  have HM := Lib.hid (sorted_rises L)
  have HL : Hid ((L.mergeSort fun x y => decide (x ≤ y)).length ≤ 1099511627776) := by show _ ≤ _; rw [List.length_mergeSort]; exact hn
  go_enter Try.func11, Try.ntmps11
  go_wp2_with fail
  refine HC.out.mono ?_
  rintro e w1 ⟨u, rfl, ho, hb1⟩
  have HS := Lib.hid (sort_own u L L.length w.heap.size w1 ho hb1.size (by omega))
  have B1 := Lib.hid hb1
  clear ho hb1 HC
  go_wp2_with fail
  refine HS.out.mono ?_
  rintro e w2 ⟨rfl, ho2, hb2⟩
  have HK := Lib.hid (compact_own u _ L.length w.heap.size w2 ho2 (by have := HL.out; omega))
  have B2 := Lib.hid (B1.out.trans hb2)
  clear ho2 hb2 HS
  go_wp2_with fail
  refine HK.out.mono ?_
  rintro e w3 ⟨u3, rfl, ho3, hb3⟩
  have B3 := Lib.hid (B2.out.trans hb3)
  have T3 := Lib.hid (Texts.of_own ho3)
  clear ho3 hb3 HK
  go_wp2_with fail
  go_ret
  exact ⟨_, _, rfl, T3.out, HM.out, B3.out⟩
theorem find_any (v : Value) (L : List (List UInt8)) (B : Nat) (s : ByteArray) (w : World) (h : Texts B w v L) (hr : Rises L) (hn : L.length ≤ 1099511627776) :
    Calls Try.prog 12 #[v, .string s] w fun e w' => e = .returned (.tuple #[.int .i64 ((find L s.data.toList).1 : Nat), .bool (find L s.data.toList).2]) ∧ Below w.heap.size w w' := by
  have HC := Lib.hid (binarySearch_any v L B s w h hr hn)
  generalize find L s.data.toList = R at *
  obtain ⟨A, c, rfl, -, -⟩ := h.form
  go_enter Try.func12, Try.ntmps12
  go_wp2_with fail
  refine HC.out.mono ?_
  rintro e w' ⟨rfl, q, rfl⟩
  go_wp2_with fail
  go_ret2
  exact ⟨rfl, below_draws _ _⟩
end Go.Proofs.Ytpefncegkhkeaaa.W03
