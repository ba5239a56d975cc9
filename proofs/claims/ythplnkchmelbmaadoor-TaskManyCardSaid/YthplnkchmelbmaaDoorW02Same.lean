/-
  Layer 2 (words), a walk: the plain answer's Same: whether two slices of texts read alike; the world as it was, but for draws.
-/
import Derived.Test.YthplnkchmelbmaaDoorStrs
import Derived.Test.YthplnkchmelbmaaDoorChecked
import Derived.WalkSpells
import Derived.WalkLawsBesides
import Derived.Deep.QuietTactic
import Derived.BigQuiet
namespace Go.Proofs.YthplnkchmelbmaaDoor.W02
set_option maxRecDepth 100000
open Go Go.RowKit Go.Proofs.YthplnkchmelbmaaDoor.Strs

theorem ret_bool {a b : Bool} (h : a = b) : Ending.returned (.bool a) = .returned (.bool b) := by rw [h]
theorem same_upto {La Lb : List (List UInt8)} {k : Nat} (hl : La.length = Lb.length) (hk : ¬ k < La.length) (h : ∀ j, j < k → La.getD j [] = Lb.getD j []) : La = Lb := by
  apply List.ext_getElem hl
  intro i h1 h2
  have := h i (by omega)
  simpa [List.getD_eq_getElem?_getD, h1, h2] using this
theorem differ_at {La Lb : List (List UInt8)} {k : Nat} (h : ¬ La.getD k [] = Lb.getD k []) : ¬ La = Lb := fun e => h (by rw [e])

set_option maxHeartbeats 400000 in
theorem same_any (va vb : Value) (La Lb : List (List UInt8)) (B : Nat) (w : World) (ha : Texts B w va La) (hb : Texts B w vb Lb) :
    Calls Tryd.prog 19 #[va, vb] w fun e w' => e = .returned (.bool (decide (La = Lb))) ∧ ∃ n, w' = w.drewN n := by
  obtain ⟨A, c, rfl, hA1, hA2⟩ := ha.form
  obtain ⟨A', c', rfl, hB1, hB2⟩ := hb.form
  unfold maxLen at hA2 hB2
  by_cases hl : La.length = Lb.length
  · have HL := Lib.hid hl
    have HA := Lib.hid ha
    have HB := Lib.hid (hl ▸ hb)
    have hne : ((La.length : Int) != (Lb.length : Int)) = false := by simp [hl]
    rw [← hl]
    rw [← hl] at hB1 hne
    clear hl ha hb hne
    generalize hn : La.length = n at *
    have HN := Lib.hid hn
    clear hn
    go_enter Tryd.func19, Tryd.ntmps19
    go_wp2
    go_loopw [5] (fun i wr => ∃ k : Nat, k ≤ n ∧ i = .int .i64 k ∧ Hid (∀ j, j < k → La.getD j [] = Lb.getD j []) ∧ ∃ q, wr = w.drewN q) (fun i _ => n - (intOf i).toNat)
    case atStart => exact ⟨0, Nat.zero_le _, rfl, fun j hj => by omega, 0, rfl⟩
    case round =>
      obtain ⟨k, hk, rfl, hr, q, rfl⟩ := hrel
      by_cases hlt : k < n
      · obtain ⟨ad, s, rfl, hbl, hc, hs⟩ := HA.out.at_ hlt
        obtain ⟨ad', s', rfl, hbl', hc', hs'⟩ := HB.out.at_ hlt
        have HS := Lib.hid hs
        have HS' := Lib.hid hs'
        clear hs hs'
        cases he : (s.toList == s'.toList) with
        | true =>
          have hE := Lib.hid (beq_iff_eq.1 he)
          go_wp2_with fail
          go_quiet (fail)
          go_wp2_with fail
          go_roundw
          case rel => exact ⟨k + 1, by omega, by go_num, fun j hj => by
            by_cases e : j = k
            · rw [e, ← HS.out, ← HS'.out, ← Lib.toList_data, ← Lib.toList_data]; exact hE.out
            · exact hr.out j (by omega), q + nq, by first | rfl | rw [World.drewN_drewN]⟩
          case measure => simp [intOf]; omega
        | false =>
          have hE := Lib.hid (beq_eq_false_iff_ne.1 he)
          go_wp2_with fail
          go_quiet (fail)
          go_wp2_with fail
          go_ret
          refine ⟨ret_bool ?_, q + nq, by first | rfl | rw [World.drewN_drewN]⟩
          have := differ_at (La := La) (Lb := Lb) (k := k) (by rw [← HS.out, ← HS'.out, ← Lib.toList_data, ← Lib.toList_data]; exact hE.out)
          simp [this]
      · go_wp2
        go_ret
        refine ⟨ret_bool ?_, q, rfl⟩
        have := same_upto (HN.out.trans HL.out) (k := k) (by rw [HN.out]; exact hlt) hr.out
        simp [this]
  · have hne : ((La.length : Int) != (Lb.length : Int)) = true := by simp; omega
    have hd : ¬ La = Lb := fun e => hl (by rw [e])
    go_enter Tryd.func19, Tryd.ntmps19
    go_wp2
    go_ret
    exact ⟨ret_bool (by simp [hd]), 0, rfl⟩
end Go.Proofs.YthplnkchmelbmaaDoor.W02
