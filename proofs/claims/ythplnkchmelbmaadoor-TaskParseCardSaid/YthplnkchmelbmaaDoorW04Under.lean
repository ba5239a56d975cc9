/-
  Layer 4 (path), walks: the plain answers Is and Under: what each returns at texts of at most 2^40 bytes; new memory may be laid, nothing that was there is changed.
-/
import Derived.Test.YthplnkchmelbmaaDoorW04Join
import Derived.Deep.QuietTactic
namespace Go.Proofs.YthplnkchmelbmaaDoor.W04
set_option maxRecDepth 100000
open Go Go.RowKit Go.Proofs.YthplnkchmelbmaaDoor.Strs Go.Proofs.YthplnkchmelbmaaDoor.M04
open Go.Proofs.YthplnkchmelbmaaDoor.M03 (check)
open Go.Proofs.YthplnkchmelbmaaDoor.Kit (ret_str ret_bool mk_of mk_bytes ba_ext cat_bytes list_full list_ne list_none list_nil bytes_nil bytes_cons byte_eq byte_ne below_draws on)

theorem ne_bytes {a b : ByteArray} (h : ¬ a.data.toList = b.data.toList) : (a.toList == b.toList) = false := by
  rw [Lib.toList_data, Lib.toList_data]; simpa using h
theorem eq_bytes {a b : ByteArray} (h : a.data.toList = b.data.toList) : (a.toList == b.toList) = true := by
  rw [Lib.toList_data, Lib.toList_data]; simpa using h
theorem is_text {l : Bytes} (h : ¬ l = text (parts l)) : isPath l = false := by simp [isPath, h]
theorem is_long {l : Bytes} (h : 1024 < l.length) : isPath l = false := by
  have : ¬ l.length ≤ 1024 := by omega
  simp [isPath, this]
theorem is_all {l : Bytes} (h : l = text (parts l)) (h2 : l.length ≤ 1024) : isPath l = (parts l).all (fun p => decide (check p = 0)) := by
  unfold isPath; rw [decide_eq_true h, decide_eq_true h2]; rfl
theorem all_next {L : List Bytes} {k : Nat} (hk : k < L.length) (h : (L.take k).all (fun p => decide (check p = 0)) = true) (hc : check (L.getD k []) = 0) : (L.take (k + 1)).all (fun p => decide (check p = 0)) = true := by
  rw [List.take_succ_eq_append_getElem hk, List.all_append, h]
  have e : L[k] = L.getD k [] := by simp [hk]
  rw [e]
  simp only [List.all_cons, List.all_nil, Bool.and_true, Bool.true_and, decide_eq_true_eq]
  exact hc
theorem all_not {L : List Bytes} {k : Nat} (hk : k < L.length) (hc : ¬ check (L.getD k []) = 0) : L.all (fun p => decide (check p = 0)) = false := by
  rw [List.all_eq_false]
  refine ⟨L.getD k [], ?_, by simpa using hc⟩
  have e : L.getD k [] = L[k] := by simp [hk]
  rw [e]; exact List.getElem_mem hk

set_option maxHeartbeats 1000000 in
theorem refIs_any (s : ByteArray) (hs : s.size ≤ 1099511627776) (w : World) :
    Calls Tryd.prog 24 #[.string s] w fun e w' => e = .returned (.bool (isPath s.data.toList)) ∧ Below w.heap.size w w' := by
  obtain ⟨t, ht⟩ : ∃ t : ByteArray, t.data.toList = text (parts s.data.toList) := ⟨⟨(text (parts s.data.toList)).toArray⟩, rfl⟩
  have HP := Lib.hid (refParts_any s hs)
  have HL : Hid (total (parts s.data.toList) ≤ 4398046511104) := by
    show _ ≤ _
    have h2 := parts_total s.data.toList
    rw [← Lib.size_eq] at h2
    omega
  have H1 := Lib.hid (is_text (l := s.data.toList))
  have H2 := Lib.hid (is_long (l := s.data.toList))
  have H3 := Lib.hid (is_all (l := s.data.toList))
  generalize isPath s.data.toList = R at *
  generalize parts s.data.toList = L at *
  have HT := Lib.hid ht
  have HTX := Lib.hid (mk_of ht)
  clear ht
  have HS := Lib.hid (Lib.size_eq s)
  go_enter Tryd.func24, Tryd.ntmps24
  go_wp2_with fail
  refine (HP.out _).mono ?_
  rintro e w1 ⟨v, rfl, hown1, hb1⟩
  have T1 := Lib.hid (Texts.of_own hown1)
  have B1 := Lib.hid hb1
  clear hown1 hb1
  obtain ⟨A, c, rfl, hA1, hA2⟩ := T1.out.form
  unfold maxLen at hA2
  go_wp2_with fail
  refine (refText_any _ L _ _ T1.out HL.out).mono ?_
  rintro e w2 ⟨rfl, q, rfl⟩
  rw [HTX.out]
  by_cases hst : s.data.toList = t.data.toList
  · have hne := eq_bytes hst
    have HST : Hid (s.data.toList = text L) := hst.trans HT.out
    clear hst
    by_cases hlong : (1024 : Int) < s.size
    · go_wp2_with fail
      go_ret
      exact ⟨ret_bool (H2.out (by rw [← HS.out]; omega)).symm, B1.out.trans ((below_draws w1 q).mono B1.out.size)⟩
    · have hsh : (s.size : Int) ≤ 1024 := by omega
      have HA := Lib.hid (H3.out HST.out (by rw [← HS.out]; omega))
      clear hlong
      generalize hm : L.length = n at *
      have HM := Lib.hid hm
      clear hm
      go_wp2_with fail
      go_loopw [4] (fun i wr => ∃ k : Nat, k ≤ n ∧ i = .int .i64 k ∧ Hid ((L.take k).all (fun p => decide (check p = 0)) = true) ∧ wr = w1.drewN q) (fun i _ => n - (intOf i).toNat)
      case atStart => exact ⟨0, Nat.zero_le _, rfl, rfl, rfl⟩
      case round =>
        obtain ⟨k, hk, rfl, hr, rfl⟩ := hrel
        by_cases hlt : k < n
        · obtain ⟨ad, p, rfl, hbl, hc, hp⟩ := T1.out.at_ hlt
          by_cases h0 : check p.data.toList = 0
          · have HX := Lib.hid (all_next (by rw [HM.out]; exact hlt) hr.out (by rw [← hp]; exact h0))
            have HC := Lib.hid (W03.refCheck_any p)
            rw [h0] at HC
            clear h0 hp
            go_wp2_with fail
            refine (HC.out _).mono ?_
            rintro e w3 ⟨rfl, rfl⟩
            go_wp2_with fail
            go_roundw
            case rel => exact ⟨k + 1, by omega, by go_num, HX, by trivial⟩
            case measure => simp [intOf]; omega
          · have HX := Lib.hid (all_not (L := L) (k := k) (by rw [HM.out]; exact hlt) (by rw [← hp]; exact h0))
            have HC := Lib.hid (W03.refCheck_any p)
            have hz : (check p.data.toList != 0) = true := by simpa using h0
            clear h0 hp
            generalize check p.data.toList = z at *
            go_wp2_with fail
            refine (HC.out _).mono ?_
            rintro e w3 ⟨rfl, rfl⟩
            go_wp2_with fail
            go_ret
            exact ⟨ret_bool (HA.out.trans HX.out).symm, B1.out.trans ((below_draws w1 q).mono B1.out.size)⟩
        · have HX : Hid (L.all (fun p => decide (check p = 0)) = true) := by
            have := hr.out
            rw [List.take_of_length_le (by rw [HM.out]; omega)] at this; exact this
          go_wp2_with fail
          go_ret
          exact ⟨ret_bool (HA.out.trans HX.out).symm, B1.out.trans ((below_draws w1 q).mono B1.out.size)⟩
  · have hne := ne_bytes hst
    have HST : Hid (¬ s.data.toList = text L) := fun e => hst (e.trans HT.out.symm)
    clear hst
    go_wp2_with fail
    go_ret
    exact ⟨ret_bool (H1.out HST.out).symm, B1.out.trans ((below_draws w1 q).mono B1.out.size)⟩

/-! ### Under -/
theorem under_not {s d : Bytes} (h : isUnder s d = false) : under s d = ([], false) := by unfold under; rw [h]; rfl
theorem under_first {s d : Bytes} (h : ¬ clean s = s) : under s d = ([], false) := under_not (by simp [isUnder, h])
theorem under_second {s d : Bytes} (h : ¬ clean d = d) : under s d = ([], false) := under_not (by simp [isUnder, h])
theorem under_short {s d : Bytes} (h : (parts s).length < (parts d).length) : under s d = ([], false) := under_not (by
  have : (parts d).isPrefixOf (parts s) = false := by
    rw [Bool.eq_false_iff]
    intro e
    have := (List.isPrefixOf_iff_prefix.1 e).length_le
    omega
  simp [isUnder, this])
theorem under_differ {s d : Bytes} {k : Nat} (h : k < (parts d).length) (h2 : ¬ (parts s).getD k [] = (parts d).getD k []) : under s d = ([], false) := under_not (by
  have : (parts d).isPrefixOf (parts s) = false := by
    rw [Bool.eq_false_iff]
    intro e
    obtain ⟨t, ht⟩ := List.isPrefixOf_iff_prefix.1 e
    apply h2
    rw [← ht, List.getD_eq_getElem?_getD, List.getElem?_append_left h, ← List.getD_eq_getElem?_getD]
  simp [isUnder, this])
theorem prefix_of {a b : List Bytes} (hl : b.length ≤ a.length) (h : ∀ j, j < b.length → a.getD j [] = b.getD j []) : b.isPrefixOf a = true := by
  rw [List.isPrefixOf_iff_prefix, List.prefix_iff_eq_take]
  apply List.ext_getElem (by rw [List.length_take]; omega)
  intro i h1 h2
  have := h i h1
  have h3 : i < a.length := by omega
  rw [List.getElem_take]
  simpa [List.getD_eq_getElem?_getD, h1, h3] using this.symm
theorem under_yes {s d : Bytes} (hs : clean s = s) (hd : clean d = d) (hl : ¬ (parts s).length < (parts d).length) (h : ∀ j, j < (parts d).length → (parts s).getD j [] = (parts d).getD j []) : under s d = (slashed ((parts s).drop (parts d).length), true) := by
  unfold under
  rw [if_pos]
  simp [isUnder, hs, hd, prefix_of (by omega) h]
theorem slashed_snoc (L : List Bytes) (x : Bytes) (h : L ≠ []) : slashed (L ++ [x]) = slashed L ++ 47 :: x := by
  induction L with
  | nil => exact absurd rfl h
  | cons a L ih =>
    cases L with
    | nil => rfl
    | cons b r =>
      have := ih (by simp)
      show a ++ 47 :: slashed (b :: r ++ [x]) = (a ++ 47 :: slashed (b :: r)) ++ 47 :: x
      rw [this]; simp
theorem slashed_len : ∀ L : List Bytes, (slashed L).length ≤ total L
  | [] => by simp [slashed]
  | [p] => by simp [slashed, total]
  | p :: q :: r => by
    have := slashed_len (q :: r)
    show (p ++ 47 :: slashed (q :: r)).length ≤ _
    rw [total_cons, List.length_append, List.length_cons]; omega
theorem drop_total (L : List Bytes) (n k : Nat) : total ((L.drop n).take k) ≤ total L := by
  have h1 : total L = total (L.take n) + total (L.drop n) := by rw [← total_append, List.take_append_drop]
  have h2 : total (L.drop n) = total ((L.drop n).take k) + total ((L.drop n).drop k) := by rw [← total_append, List.take_append_drop]
  omega
/-- what has been put together when k parts are gone through -/
def sofar (a : List Bytes) (n k : Nat) : Bytes := slashed ((a.drop n).take (k - n))
theorem sofar_below {a : List Bytes} {n k : Nat} (h : k < n) : sofar a n (k + 1) = sofar a n k := by
  unfold sofar; rw [show k + 1 - n = 0 by omega, show k - n = 0 by omega]
theorem sofar_first {a : List Bytes} {n : Nat} (h : n < a.length) : sofar a n (n + 1) = a.getD n [] := by
  unfold sofar
  rw [show n + 1 - n = 1 by omega, List.drop_eq_getElem_cons h, List.take_succ_cons, List.take_zero]
  show a[n] = _
  simp [h]
theorem sofar_more {a : List Bytes} {n k : Nat} (h : n < k) (hk : k < a.length) : sofar a n (k + 1) = sofar a n k ++ 47 :: a.getD k [] := by
  unfold sofar
  have h1 : k - n < (a.drop n).length := by rw [List.length_drop]; omega
  rw [show k + 1 - n = k - n + 1 by omega, List.take_succ_eq_append_getElem h1, slashed_snoc]
  · rw [List.getElem_drop]
    have : n + (k - n) = k := by omega
    simp [this, hk]
  · intro e
    have := congrArg List.length e
    rw [List.length_take, List.length_nil] at this
    omega
theorem sofar_start (a : List Bytes) (n : Nat) : sofar a n n = [] := by unfold sofar; rw [Nat.sub_self]; rfl
theorem sofar_zero (a : List Bytes) (n : Nat) : sofar a n 0 = [] := by unfold sofar; rw [Nat.zero_sub]; rfl
theorem sofar_end {a : List Bytes} {n k : Nat} (h : ¬ k < a.length) : sofar a n k = slashed (a.drop n) := by
  unfold sofar; rw [List.take_of_length_le (by rw [List.length_drop]; omega)]
theorem sofar_len (a : List Bytes) (n k : Nat) : (sofar a n k).length ≤ total a := Nat.le_trans (slashed_len _) (drop_total a n _)
theorem ret_under {a b : ByteArray} {c d : Bool} (h : a = b) (h2 : c = d) : Ending.returned (.tuple #[.string a, .bool c]) = .returned (.tuple #[.string b, .bool d]) := by rw [h, h2]

end Go.Proofs.YthplnkchmelbmaaDoor.W04
