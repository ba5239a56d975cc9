/-
  Walks of Go's library: cmp.Less and slices.BinarySearch over texts: in a list of texts that rises the place of the first one that isn't below s, and whether it is s. No condition but those that each theorem bears; the world as it was, but for draws.
-/
import Derived.Test.YtpefncegkhkeaaaW03Find
import Derived.Deep.LoopGhost
namespace Go.Proofs.Ytpefncegkhkeaaa.W03
open Go Go.RowKit Go.Proofs.Ytpefncegkhkeaaa.Strs Go.Proofs.Ytpefncegkhkeaaa.M03
open Go.Proofs.Ytpefncegkhkeaaa.Kit (ret_bool below_draws ba_ext)

theorem self_same (s : ByteArray) : (s.toList != s.toList) = false := by simp
theorem cmpNaN_any (s : ByteArray) (w : World) :
    Calls Try.prog 38 #[.string s] w fun e w' => e = .returned (.bool false) ∧ w' = w := by
  have h := self_same s
  go_enter Try.func38, Try.ntmps38
  go_wp2
  go_ret
  exact ⟨by simp, rfl⟩
theorem cmpLess_any (s t : ByteArray) (b : Bool) (hb : Op.bytesLess s.toList t.toList = b) (w : World) :
    Calls Try.prog 26 #[.string s, .string t] w fun e w' => e = .returned (.bool b) ∧ w' = w := by
  have HN := Lib.hid (cmpNaN_any s)
  go_enter Try.func26, Try.ntmps26
  go_wp2_with fail
  refine (HN.out _).mono ?_
  rintro e w' ⟨rfl, rfl⟩
  cases b
  all_goals
    go_wp2
    go_ret
    exact ⟨rfl, rfl⟩
theorem sliceNaN_any (s : ByteArray) (w : World) :
    Calls Try.prog 27 #[.string s] w fun e w' => e = .returned (.bool false) ∧ w' = w := by
  have h := self_same s
  go_enter Try.func27, Try.ntmps27
  go_wp2
  go_ret
  exact ⟨by simp, rfl⟩
/-- where a text stands, told by what is below and what isn't -/
theorem find_at : ∀ (L : List (List UInt8)) (s : List UInt8) (i : Nat), i ≤ L.length → (∀ k, k < i → lt (L.getD k []) s) → (i < L.length → ¬ lt (L.getD i []) s) → find L s = (i, decide (i < L.length ∧ L.getD i [] = s))
  | [], s, i, hi, _, _ => by
    have : i = 0 := by simpa using hi
    subst this; simp [find]
  | a :: L, s, 0, _, _, h2 => by
    have := h2 (by simp)
    simp only [List.getD_cons_zero] at this
    simp [find, this]
  | a :: L, s, i + 1, hi, h1, h2 => by
    have ha := h1 0 (by omega)
    simp only [List.getD_cons_zero] at ha
    have ih := find_at L s i (by simpa using hi) (fun k hk => by have := h1 (k + 1) (by omega); simpa using this) (fun hk => by have := h2 (by simpa using hk); simpa using this)
    simp only [find, ha, if_true, ih, List.length_cons, List.getD_cons_succ, Nat.add_lt_add_iff_right]
theorem rises_at {L : List (List UInt8)} (h : Rises L) {a b : Nat} (hab : a < b) (hb : b < L.length) : lt (L.getD a []) (L.getD b []) := by
  have := List.pairwise_iff_getElem.1 h a b (by omega) hb hab
  simpa [List.getD_eq_getElem?_getD, List.getElem?_eq_getElem hb, List.getElem?_eq_getElem (show a < L.length by omega)] using this
theorem rises_low {L : List (List UInt8)} (h : Rises L) {a b : Nat} {s : List UInt8} (hab : a ≤ b) (hb : b < L.length) (hs : lt (L.getD b []) s) : lt (L.getD a []) s := by
  rcases Nat.lt_or_ge a b with h1 | h1
  · exact lt_trans (rises_at h h1 hb) hs
  · have : a = b := by omega
    subst this; exact hs
theorem rises_high {L : List (List UInt8)} (h : Rises L) {a b : Nat} {s : List UInt8} (hab : a ≤ b) (hb : b < L.length) (hs : ¬ lt (L.getD a []) s) : ¬ lt (L.getD b []) s := fun e => hs (rises_low h hab hb e)

set_option maxHeartbeats 2000000 in
set_option maxRecDepth 100000 in
theorem binarySearch_any (v : Value) (L : List (List UInt8)) (B : Nat) (s : ByteArray) (w : World) (h : Texts B w v L) (hr : Rises L) (hn : L.length ≤ 1099511627776) :
    Calls Try.prog 23 #[v, .string s] w fun e w' => e = .returned (.tuple #[.int .i64 ((find L s.data.toList).1 : Nat), .bool (find L s.data.toList).2]) ∧ ∃ n, w' = w.drewN n := by
  obtain ⟨A, c, rfl, hA1, hA2⟩ := h.form
  have H := Lib.hid h
  have HR := Lib.hid hr
  unfold maxLen at hA2
  clear h hr
  generalize hm : L.length = n at *
  have HM := Lib.hid hm
  clear hm
  go_enter Try.func23, Try.ntmps23
  go_wp2
  go_loopg [7, 8] n (fun g s7 s8 wr => ∃ lo hi q : Nat, s7 = .int .i64 lo ∧ s8 = .int .i64 hi ∧ lo ≤ hi ∧ hi ≤ n ∧ hi - lo ≤ g ∧ wr = w.drewN q ∧ Hid (∀ t, t < lo → lt (L.getD t []) s.data.toList) ∧ Hid (∀ t, hi ≤ t → t < n → ¬ lt (L.getD t []) s.data.toList))
  case atStart => exact ⟨0, n, 0, rfl, rfl, Nat.zero_le _, Nat.le_refl _, by omega, rfl, fun t ht => absurd ht (Nat.not_lt_zero _), fun t h1 h2 => by omega⟩
  case round =>
    obtain ⟨lo, hi, q, rfl, rfl, hlh, hin, hg, rfl, h1, h2⟩ := hrel
    by_cases hlt : lo < hi
    · obtain ⟨ad, t, rfl, hbl, hc, ht⟩ := H.out.at_ (k := (lo + hi) / 2) (by omega)
      have HT := Lib.hid ht
      have hlb := less_bytes t s
      clear ht
      by_cases hl : lt t.data.toList s.data.toList
      · have HC := Lib.hid (cmpLess_any t s true (by rw [hlb]; simpa using hl))
        have HL : Hid (∀ k, k < (lo + hi) / 2 + 1 → lt (L.getD k []) s.data.toList) := fun k hk => rises_low HR.out (show k ≤ (lo + hi) / 2 by omega) (by rw [HM.out]; omega) (by rw [← HT.out]; exact hl)
        clear hlb hl
        go_wp2_with (refine (HC.out _).mono ?_; rintro e w' ⟨rfl, rfl⟩)
        go_roundg (hi - ((lo + hi) / 2 + 1))
        case measure => omega
        case rel => exact ⟨(lo + hi) / 2 + 1, hi, _, by rw [show ((lo : Int) + (hi : Int)) / 2 + 1 = (((lo + hi) / 2 + 1 : Nat) : Int) by omega], rfl, by omega, hin, Nat.le_refl _, rfl, HL, h2⟩
      · have HC := Lib.hid (cmpLess_any t s false (by rw [hlb]; simpa using hl))
        have HL : Hid (∀ k, (lo + hi) / 2 ≤ k → k < n → ¬ lt (L.getD k []) s.data.toList) := fun k hk hk2 => rises_high HR.out hk (by rw [HM.out]; exact hk2) (by rw [← HT.out]; exact hl)
        clear hlb hl
        go_wp2_with (refine (HC.out _).mono ?_; rintro e w' ⟨rfl, rfl⟩)
        go_roundg ((lo + hi) / 2 - lo)
        case measure => omega
        case rel => exact ⟨lo, (lo + hi) / 2, _, rfl, by rw [show ((lo : Int) + (hi : Int)) / 2 = (((lo + hi) / 2 : Nat) : Int) by omega], by omega, by omega, Nat.le_refl _, rfl, h1, HL⟩
    · have : hi = lo := by omega
      subst this
      have HF := Lib.hid (find_at L s.data.toList hi (by rw [HM.out]; exact hin) h1.out (fun hk => h2.out hi (Nat.le_refl _) (by rw [← HM.out]; exact hk)))
      by_cases hnn : hi < n
      · obtain ⟨ad, t, rfl, hbl, hc, ht⟩ := H.out.at_ hnn
        have HT := Lib.hid ht
        have hsb := same_bytes t s
        clear ht
        by_cases he : t.data.toList = s.data.toList
        · have t1 : (t.toList == s.toList) = true := by rw [hsb]; simpa using he
          have HE : Hid ((find L s.data.toList).2 = true) := by
            show _ = _
            rw [HF.out]; simp only [decide_eq_true_eq]; exact ⟨by rw [HM.out]; exact hnn, by rw [← HT.out]; exact he⟩
          clear hsb he
          go_wp2
          go_ret2
          exact ⟨ret_place (by rw [HF.out]) HE.out.symm, _, rfl⟩
        · have t1 : (t.toList == s.toList) = false := by rw [hsb]; simpa using he
          have HN := Lib.hid (sliceNaN_any t)
          have HE : Hid ((find L s.data.toList).2 = false) := by
            show _ = _
            rw [HF.out]; simp only [decide_eq_false_iff_not]; rintro ⟨-, h⟩; exact he (by rw [HT.out]; exact h)
          clear hsb he
          go_wp2_with fail
          refine (HN.out _).mono ?_
          rintro e w' ⟨rfl, rfl⟩
          go_wp2
          go_ret2
          exact ⟨ret_place (by rw [HF.out]) HE.out.symm, _, rfl⟩
      · have HE : Hid ((find L s.data.toList).2 = false) := by
          show _ = _
          rw [HF.out]; simp only [decide_eq_false_iff_not]; rintro ⟨h, -⟩; rw [HM.out] at h; exact hnn h
        go_wp2
        go_ret2
        exact ⟨ret_place (by rw [HF.out]) HE.out.symm, _, rfl⟩
end Go.Proofs.Ytpefncegkhkeaaa.W03
