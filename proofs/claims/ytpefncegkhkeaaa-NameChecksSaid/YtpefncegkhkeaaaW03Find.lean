/-
  Layer 3 (name), walks: the plain answer's Find: where a text stands in a slice of texts, and whether it is there; the world as it was, but for draws.
-/
import Derived.Test.YtpefncegkhkeaaaW03Walk
namespace Go.Proofs.Ytpefncegkhkeaaa.W03
open Go Go.RowKit Go.Proofs.Ytpefncegkhkeaaa.Strs Go.Proofs.Ytpefncegkhkeaaa.M03
open Go.Proofs.Ytpefncegkhkeaaa.Kit (below_draws ba_ext)

theorem drop_at {L : List (List UInt8)} {k : Nat} (h : k < L.length) : L.drop k = L.getD k [] :: L.drop (k + 1) := by
  rw [List.drop_eq_getElem_cons h]; simp [h]
theorem find_next {L : List (List UInt8)} {s : List UInt8} {k : Nat} (hk : k < L.length) (h : lt (L.getD k []) s) (hf : find L s = ((find (L.drop k) s).1 + k, (find (L.drop k) s).2)) : find L s = ((find (L.drop (k + 1)) s).1 + (k + 1), (find (L.drop (k + 1)) s).2) := by
  rw [hf, drop_at hk, find, if_pos h]
  simp only [Prod.mk.injEq, and_true]; omega
theorem find_here {L : List (List UInt8)} {s : List UInt8} {k : Nat} (hk : k < L.length) (h : ¬ lt (L.getD k []) s) (hf : find L s = ((find (L.drop k) s).1 + k, (find (L.drop k) s).2)) : find L s = (k, decide (L.getD k [] = s)) := by
  rw [hf, drop_at hk, find, if_neg h]
  simp
theorem find_gone {L : List (List UInt8)} {s : List UInt8} {k : Nat} (hk : ¬ k < L.length) (hk2 : k ≤ L.length) (hf : find L s = ((find (L.drop k) s).1 + k, (find (L.drop k) s).2)) : find L s = (L.length, false) := by
  have e : k = L.length := by omega
  subst e
  rw [hf, List.drop_length, find]; simp
theorem less_bytes (a b : ByteArray) : Op.bytesLess a.toList b.toList = decide (lt a.data.toList b.data.toList) := by rw [Lib.toList_data, Lib.toList_data, less_cmp]
theorem same_bytes (a b : ByteArray) : (a.toList == b.toList) = decide (a.data.toList = b.data.toList) := by
  rw [Lib.toList_data, Lib.toList_data]
  by_cases h : a.data.toList = b.data.toList
  · simp [h]
  · rw [decide_eq_false h, beq_eq_false_iff_ne]; exact h
theorem ret_place {a b : Int} {c d : Bool} (h : a = b) (h2 : c = d) : Ending.returned (.tuple #[.int .i64 a, .bool c]) = .returned (.tuple #[.int .i64 b, .bool d]) := by rw [h, h2]

set_option maxHeartbeats 400000 in
theorem refFind_any (v : Value) (L : List (List UInt8)) (B : Nat) (s : ByteArray) (w : World) (h : Texts B w v L) :
    Calls Try.prog 13 #[v, .string s] w fun e w' => e = .returned (.tuple #[.int .i64 ((find L s.data.toList).1 : Nat), .bool (find L s.data.toList).2]) ∧ ∃ n, w' = w.drewN n := by
  obtain ⟨A, c, rfl, hA1, hA2⟩ := h.form
  have H := Lib.hid h
  unfold maxLen at hA2
  clear h
  generalize hm : L.length = n at *
  have HM := Lib.hid hm
  clear hm
  go_enter Try.func13, Try.ntmps13
  go_wp2
  go_loop [6] (fun i => ∃ k : Nat, k ≤ n ∧ i = .int .i64 k ∧ Hid (find L s.data.toList = ((find (L.drop k) s.data.toList).1 + k, (find (L.drop k) s.data.toList).2))) (fun i => n - (intOf i).toNat)
  case atStart => exact ⟨0, Nat.zero_le _, rfl, by show _ = _; rw [List.drop_zero]; simp⟩
  case round =>
    obtain ⟨k, hk, rfl, hf⟩ := hrel
    by_cases hlt : k < n
    · obtain ⟨ad, t, rfl, hbl, hc, ht⟩ := H.out.at_ hlt
      have HT := Lib.hid ht
      have hlb := less_bytes t s
      have hsb := same_bytes t s
      clear ht
      by_cases hl : lt t.data.toList s.data.toList
      · have HF := Lib.hid (find_next (by rw [HM.out]; exact hlt) (by rw [← HT.out]; exact hl) hf.out)
        have t1 : Op.bytesLess t.toList s.toList = true := by rw [hlb]; simpa using hl
        clear hlb hsb hl
        go_wp2
        go_round
        case rel => exact ⟨k + 1, by omega, by go_num, HF⟩
        case measure => simp [intOf]; omega
      · have HF := Lib.hid (find_here (by rw [HM.out]; exact hlt) (by rw [← HT.out]; exact hl) hf.out)
        have t1 : Op.bytesLess t.toList s.toList = false := by rw [hlb]; simpa using hl
        have HSB := Lib.hid hsb
        clear hlb hsb hl
        go_wp2
        go_quiet (fail)
        go_wp2
        go_ret2
        exact ⟨ret_place (by rw [HF.out]) (by rw [HF.out, ← HT.out]; exact HSB.out), nq, rfl⟩
    · have HF := Lib.hid (find_gone (by rw [HM.out]; exact hlt) (by rw [HM.out]; exact hk) hf.out)
      go_wp2
      go_ret2
      exact ⟨ret_place (by rw [HF.out, HM.out]) (by rw [HF.out]), 0, rfl⟩
end Go.Proofs.Ytpefncegkhkeaaa.W03
