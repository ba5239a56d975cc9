/-
  Layer 6 (ents), walks: the landed code's search: the order of an entry and a name, slices.BinarySearchFunc with it: a name's place in entries that rise, and whether it is there; new memory may be laid, nothing that was there is changed.
-/
import Derived.Test.YtelphegeeiocnaaW06Place
import Derived.Test.YtelphegeeiocnaaW06More
import Derived.Test.YtelphegeeiocnaaRecCut
import Derived.Test.YtelphegeeiocnaaShelf
import Derived.Deep.LoopGhost
namespace Go.Proofs.Ytelphegeeiocnaa.W06
open Go Go.RowKit Go.Proofs.Ytelphegeeiocnaa.Strs Go.Proofs.Ytelphegeeiocnaa.Recs Go.Proofs.Ytelphegeeiocnaa.M06
open Go.Proofs.Ytelphegeeiocnaa.M03 (lt)
open Go.Proofs.Ytelphegeeiocnaa.W03 (less_bytes same_bytes ret_place)
open Go.Proofs.Ytelphegeeiocnaa.Kit (ret_str ret_bool ret_int mk_of mk_bytes ba_ext below_draws on)

theorem order_any (t s : ByteArray) (z : Int) (w : World) :
    Calls Try.prog 55 #[.agg #[.string t, .int .i64 z], .string s] w fun e w' => e = .returned (.int .i64 (Lib.compareBytes t.data.toList s.data.toList)) ∧ Below w.heap.size w w' := by
  have HC := Lib.hid (Try.strings_Compare t s)
  generalize Lib.compareBytes t.data.toList s.data.toList = r at *
  go_enter Try.func55, Try.ntmps55
  go_wp2_with fail
  refine (HC.out _).mono ?_
  rintro e w' ⟨rfl, rfl⟩
  go_wp2_with fail
  go_ret
  exact ⟨rfl, (Below.refl w.heap.size w).alloc (Nat.le_refl _) _⟩
/-- what the order says, in words -/
theorem cmp_neg {a b : List UInt8} (h : lt a b) : decide (Lib.compareBytes a b < 0) = true := by rw [decide_eq_true_eq]; unfold M03.lt at h; omega
theorem cmp_pos {a b : List UInt8} (h : ¬ lt a b) : decide (Lib.compareBytes a b < 0) = false := by
  rw [decide_eq_false_iff_not]; intro q
  unfold M03.lt at h
  rcases M03.cmp_three a b with e | e | e <;> omega
theorem cmp_nil (a b : List UInt8) : (Lib.compareBytes a b == 0) = decide (a = b) := by
  by_cases h : a = b
  · subst h; rw [M03.cmp_self]; simp
  · have : ¬ Lib.compareBytes a b = 0 := fun e => h (M03.cmp_zero e)
    simp [h, this]
theorem ret_found {a b : Int} {c d : Bool} (h : a = b) (h2 : c = d) : Ending.returned (.tuple #[.int .i64 a, .bool c]) = .returned (.tuple #[.int .i64 b, .bool d]) := by rw [h, h2]

set_option maxHeartbeats 2000000 in
set_option maxRecDepth 100000 in
theorem search_any (v : Value) (L : List Ent) (s : ByteArray) (w : World) (h : Ents w.heap.size w v L) (hr : right L = true) (hn : L.length ≤ 1099511627776) :
    Calls Try.prog 57 #[v, .string s, .func (.func 55) #[] #[]] w fun e w' => e = .returned (.tuple #[.int .i64 ((place L s.data.toList).1 : Nat), .bool (place L s.data.toList).2]) ∧ Below w.heap.size w w' := by
  obtain ⟨A, c, rfl, hA1, hA2⟩ := h.form
  have H := Lib.hid h
  have HR := Lib.hid hr
  unfold maxLen at hA2
  clear h hr
  generalize hm : L.length = n at *
  have HM := Lib.hid hm
  clear hm
  go_enter Try.func57, Try.ntmps57
  go_wp2
  go_loopg [9, 10] n (fun g s9 s10 wr => ∃ lo hi : Nat, s9 = .int .i64 lo ∧ s10 = .int .i64 hi ∧ lo ≤ hi ∧ hi ≤ n ∧ hi - lo ≤ g ∧ Below w.heap.size w wr ∧ Hid (∀ k (h : k < L.length), k < lo → lt (L[k]).1 s.data.toList) ∧ Hid (∀ k (h : k < L.length), hi ≤ k → ¬ lt (L[k]).1 s.data.toList))
  case atStart => exact ⟨0, n, rfl, rfl, Nat.zero_le _, Nat.le_refl _, by omega, Below.refl _ _, fun t _ ht => absurd ht (Nat.not_lt_zero _), fun t h1 h2 => by rw [HM.out] at h1; omega⟩
  case round =>
    obtain ⟨lo, hi, rfl, rfl, hlh, hin, hg, hb, h1, h2⟩ := hrel
    by_cases hlt : lo < hi
    · obtain ⟨b, o, hl1, t, rfl, hbl, ht, hc0, hc1⟩ := Ents.at_ (H.out.below hb) (k := (lo + hi) / 2) (by omega)
      have HT := Lib.hid ht
      have HC := Lib.hid (order_any t s (L[(lo + hi) / 2]).2 wr)
      have HB := Lib.hid hb
      clear ht hb
      by_cases hl : lt t.data.toList s.data.toList
      · have HL : Hid (∀ k (h : k < L.length), k < (lo + hi) / 2 + 1 → lt (L[k]).1 s.data.toList) := fun k hk hk2 => rises_low HR.out (show k ≤ (lo + hi) / 2 by omega) hl1 hk (by rw [← HT.out]; exact hl)
        have t1 := cmp_neg hl
        clear hl
        generalize Lib.compareBytes t.data.toList s.data.toList = r at *
        go_wp2_with fail
        refine (HC.out).mono ?_
        rintro e w' ⟨rfl, hb2⟩
        have B2 := Lib.hid (HB.out.trans (hb2.mono HB.out.size))
        clear hb2
        go_wp2_with fail
        go_roundg (hi - ((lo + hi) / 2 + 1))
        case measure => omega
        case rel => exact ⟨(lo + hi) / 2 + 1, hi, by rw [show ((lo : Int) + (hi : Int)) / 2 + 1 = (((lo + hi) / 2 + 1 : Nat) : Int) by omega], rfl, by omega, hin, Nat.le_refl _, B2.out, HL, h2⟩
      · have HL : Hid (∀ k (h : k < L.length), (lo + hi) / 2 ≤ k → ¬ lt (L[k]).1 s.data.toList) := fun k hk hk2 => rises_high HR.out hk2 hk hl1 (by rw [← HT.out]; exact hl)
        have t1 := cmp_pos hl
        clear hl
        generalize Lib.compareBytes t.data.toList s.data.toList = r at *
        go_wp2_with fail
        refine (HC.out).mono ?_
        rintro e w' ⟨rfl, hb2⟩
        have B2 := Lib.hid (HB.out.trans (hb2.mono HB.out.size))
        clear hb2
        go_wp2_with fail
        go_roundg ((lo + hi) / 2 - lo)
        case measure => omega
        case rel => exact ⟨lo, (lo + hi) / 2, rfl, by rw [show ((lo : Int) + (hi : Int)) / 2 = (((lo + hi) / 2 : Nat) : Int) by omega], by omega, by omega, Nat.le_refl _, B2.out, h1, HL⟩
    · obtain rfl : hi = lo := by omega
      have HF := Lib.hid (place_at L s.data.toList hi (by rw [HM.out]; exact hin) h1.out (fun hk => h2.out hi hk (Nat.le_refl _)))
      by_cases hnn : hi < n
      · obtain ⟨b, o, hl1, t, rfl, hbl, ht, hc0, hc1⟩ := Ents.at_ (H.out.below hb) hnn
        have HT := Lib.hid ht
        have HC := Lib.hid (order_any t s (L[hi]).2 wr)
        have HB := Lib.hid hb
        have HQ := Lib.hid (cmp_nil t.data.toList s.data.toList)
        have HE : Hid ((place L s.data.toList).2 = (Lib.compareBytes t.data.toList s.data.toList == 0)) := by
          show _ = _
          rw [HF.out, HQ.out, HT.out]; simp only [dif_pos hl1]
        clear ht hb HQ
        generalize Lib.compareBytes t.data.toList s.data.toList = r at *
        go_wp2_with fail
        refine (HC.out).mono ?_
        rintro e w' ⟨rfl, hb2⟩
        have B2 := Lib.hid (HB.out.trans (hb2.mono HB.out.size))
        clear hb2
        go_wp2_with fail
        go_ret2
        exact ⟨ret_found (by rw [HF.out]) HE.out.symm, B2.out⟩
      · have HE : Hid ((place L s.data.toList).2 = false) := by
          show _ = _
          rw [HF.out]; simp only; rw [dif_neg (by rw [HM.out]; exact hnn)]
        go_wp2_with fail
        go_ret2
        exact ⟨ret_found (by rw [HF.out]) HE.out.symm, hb⟩
end Go.Proofs.Ytelphegeeiocnaa.W06
