/-
  Layer 6 (ents), walks: the landed code's Right, usable and around: whether names rise; the entries, or none; those ahead of a name, the one that has it, those behind; new memory may be laid, nothing that was there is changed.
-/
import Derived.Test.YtelphegeeiocnaaW06Look
namespace Go.Proofs.Ytelphegeeiocnaa.W06
open Go Go.RowKit Go.Proofs.Ytelphegeeiocnaa.Strs Go.Proofs.Ytelphegeeiocnaa.Recs Go.Proofs.Ytelphegeeiocnaa.M06
open Go.Proofs.Ytelphegeeiocnaa.M03 (lt)
open Go.Proofs.Ytelphegeeiocnaa.W03 (less_bytes same_bytes ret_place)
open Go.Proofs.Ytelphegeeiocnaa.Kit (ret_str ret_bool ret_int mk_of mk_bytes ba_ext below_draws on)

set_option maxHeartbeats 400000 in
theorem codeRight_any (v : Value) (L : List Ent) (B : Nat) (w : World) (h : Ents B w v L) (hn : L.length ≤ 1099511627776) :
    Calls Try.prog 58 #[v] w fun e w' => e = .returned (.bool (right L)) ∧ ∃ n, w' = w.drewN n := by
  obtain ⟨A, c, rfl, hA1, hA2⟩ := h.form
  have H := Lib.hid h
  unfold maxLen at hA2
  clear h
  generalize hm : L.length = n at *
  have HM := Lib.hid hm
  clear hm
  go_enter Try.func58, Try.ntmps58
  go_wp2
  go_loopw [3] (fun i wr => ∃ k : Nat, k ≤ n ∧ i = .int .i64 (k + 1) ∧ Hid (right L = right (L.drop k)) ∧ ∃ q, wr = w.drewN q) (fun i _ => n + 1 - (intOf i).toNat)
  case atStart => exact ⟨0, Nat.zero_le _, rfl, rfl, 0, rfl⟩
  case round =>
    obtain ⟨k, hk, rfl, hr, q, rfl⟩ := hrel
    have hk1 : IntKind.i64.wrap ((k : Int) + 1 - 1) = k := by rw [IntKind.wrap_i64]; omega
    by_cases hlt : k + 1 < n
    · obtain ⟨b, o, hl1, s, rfl, hbl, hs, hc0, hc1⟩ := Ents.at_ H.out (k := k) (by omega)
      obtain ⟨b', o', hl2, t, he, hbl2, ht, hd0, hd1⟩ := Ents.at_ H.out (k := k + 1) hlt
      cases he
      have HS := Lib.hid (right_step (L := L) (k := k) hl2)
      rw [← hs, ← ht, ← hr.out] at HS
      have hlb := less_bytes t s
      have hsb := same_bytes t s
      clear hs ht
      by_cases hl : lt s.data.toList t.data.toList
      · have t1 : Op.bytesLess t.toList s.toList = false := by rw [hlb]; simpa using M03.lt_asymm hl
        have t2 : (t.toList == s.toList) = false := by rw [hsb]; simpa using fun e : t.data.toList = s.data.toList => M03.lt_irrefl _ (e ▸ hl)
        have HX : Hid (right L = right (L.drop (k + 1))) := by have := HS.out; rw [decide_eq_true hl, Bool.true_and] at this; exact this
        clear hlb hsb hl
        go_wp2_with fail
        go_quiet (fail)
        go_wp2_with fail
        go_roundw
        case rel => exact ⟨k + 1, by omega, by go_num, HX, q + nq, by first | rfl | rw [World.drewN_drewN]⟩
        case measure => simp [intOf]; omega
      · have HX : Hid (right L = false) := by have := HS.out; rw [decide_eq_false hl, Bool.false_and] at this; exact this
        by_cases hl2 : lt t.data.toList s.data.toList
        · have t1 : Op.bytesLess t.toList s.toList = true := by rw [hlb]; simpa using hl2
          clear hlb hsb hl hl2
          go_wp2_with fail
          go_quiet (fail)
          go_wp2_with fail
          go_ret
          exact ⟨ret_bool HX.out.symm, q + nq, by first | rfl | rw [World.drewN_drewN]⟩
        · have t1 : Op.bytesLess t.toList s.toList = false := by rw [hlb]; simpa using hl2
          have t2 : (t.toList == s.toList) = true := by
            rw [hsb]
            rcases M03.lt_total t.data.toList s.data.toList with e | e | e
            · exact absurd e hl2
            · simpa using e
            · exact absurd e hl
          clear hlb hsb hl hl2
          go_wp2_with fail
          go_quiet (fail)
          go_wp2_with fail
          go_ret
          exact ⟨ret_bool HX.out.symm, q + nq, by first | rfl | rw [World.drewN_drewN]⟩
    · have HX := Lib.hid (hr.out.trans (right_last (by rw [HM.out]; exact hlt)))
      go_wp2_with fail
      go_ret
      exact ⟨ret_bool HX.out.symm, q, rfl⟩
theorem usable_any (v : Value) (L : List Ent) (B : Nat) (w : World) (h : Ents B w v L) (hn : L.length ≤ 1099511627776) :
    Calls Try.prog 42 #[v] w fun e w' => (∃ u, e = .returned u ∧ Ents B w u (all L)) ∧ ∃ n, w' = w.drewN n := by
  have HR := Lib.hid (codeRight_any v L B w h hn)
  have H := Lib.hid h
  obtain ⟨A, c, rfl, hA1, hA2⟩ := h.form
  clear h
  cases hr : right L with
  | true =>
    have HA := Lib.hid (all_right hr)
    rw [hr] at HR
    clear hr
    go_enter Try.func42, Try.ntmps42
    go_wp2_with fail
    refine HR.out.mono ?_
    rintro e w1 ⟨rfl, q, rfl⟩
    go_wp2_with fail
    go_ret
    exact ⟨⟨_, rfl, by rw [HA.out]; exact H.out⟩, q, rfl⟩
  | false =>
    have HA : Hid (all L = []) := by show _ = _; unfold all; rw [hr]; rfl
    rw [hr] at HR
    clear hr
    go_enter Try.func42, Try.ntmps42
    go_wp2_with fail
    refine HR.out.mono ?_
    rintro e w1 ⟨rfl, q, rfl⟩
    go_wp2_with fail
    go_ret
    exact ⟨⟨_, rfl, by rw [HA.out]; exact recs_nil _ _ _ _⟩, q, rfl⟩
/-- what around hands out -/
def Parts3 (B : Nat) (w : World) (L : List Ent) (s : List UInt8) (e : Ending) (w' : World) : Prop :=
  ∃ v1 v2 v3, e = .returned (.tuple #[v1, v2, v3]) ∧ Ents B w' v1 (low L s) ∧ Ents B w' v2 (M06.mid L s) ∧ Ents B w' v3 (high L s) ∧ Below w.heap.size w w'
set_option maxHeartbeats 1000000 in
theorem around_any (v : Value) (L : List Ent) (B : Nat) (s : ByteArray) (w : World) (h : Ents B w v L) (hB : B ≤ w.heap.size) (hr : right L = true) (hn : L.length ≤ 1099511627776) :
    Calls Try.prog 41 #[v, .string s] w (Parts3 B w L s.data.toList) := by
  have HS := Lib.hid (search_any v L s w (h.more hB) hr hn)
  obtain ⟨p1, p2, p3⟩ := place_parts s.data.toList hr
  have P1 := Lib.hid p1
  have P2 := Lib.hid p2
  have P3 := Lib.hid p3
  have hpl := place_len L s.data.toList
  have H := Lib.hid h
  obtain ⟨A, c, rfl, hA1, hA2⟩ := h.form
  unfold maxLen at hA2
  clear h hr p1 p2 p3
  generalize place L s.data.toList = pf at *
  obtain ⟨p, f⟩ := pf
  generalize hm : L.length = n at *
  clear hm
  cases f with
  | true =>
    simp only [wide, if_true] at hpl P2 P3
    by_cases hc : c = p + 1
    · subst hc
      go_enter Try.func41, Try.ntmps41
      go_wp2_with fail
      refine HS.out.mono ?_
      rintro e w1 ⟨rfl, hb1⟩
      have B1 := Lib.hid hb1
      clear hb1
      go_wp2_with fail
      go_quiet (fail)
      go_wp2_with fail
      go_ret3
      refine ⟨_, _, _, rfl, ?_, ?_, ?_, B1.out.trans ((below_draws w1 _).mono B1.out.size)⟩
      · rw [P1.out]; exact (H.out.below (B1.out.mono hB)).take (by omega)
      · rw [P2.out]; exact (H.out.below (B1.out.mono hB)).one_last entC_len (by omega) hpl
      · rw [P3.out]; exact (H.out.below (B1.out.mono hB)).drop_last hpl
    · have hc2 : ¬ p + 1 = c := fun e => hc e.symm
      go_enter Try.func41, Try.ntmps41
      go_wp2_with fail
      refine HS.out.mono ?_
      rintro e w1 ⟨rfl, hb1⟩
      have B1 := Lib.hid hb1
      clear hb1
      go_wp2_with fail
      go_quiet (fail)
      go_wp2_with fail
      go_ret3
      refine ⟨_, _, _, rfl, ?_, ?_, ?_, B1.out.trans ((below_draws w1 _).mono B1.out.size)⟩
      · rw [P1.out]; exact (H.out.below (B1.out.mono hB)).take (by omega)
      · rw [P2.out]; exact (H.out.below (B1.out.mono hB)).one entC_len (by omega) hpl
      · rw [P3.out]; exact (H.out.below (B1.out.mono hB)).drop entC_len (by omega) hpl
  | false =>
    simp only [wide, Bool.false_eq_true, if_false, Nat.add_zero] at hpl P2 P3
    by_cases hc : c = p
    · subst hc
      go_enter Try.func41, Try.ntmps41
      go_wp2_with fail
      refine HS.out.mono ?_
      rintro e w1 ⟨rfl, hb1⟩
      have B1 := Lib.hid hb1
      clear hb1
      go_wp2_with fail
      go_quiet (fail)
      go_wp2_with fail
      go_ret3
      refine ⟨_, _, _, rfl, ?_, ?_, ?_, B1.out.trans ((below_draws w1 _).mono B1.out.size)⟩
      · rw [P1.out]; exact (H.out.below (B1.out.mono hB)).take (by omega)
      · rw [P2.out]; exact Recs.void (Nat.zero_le _)
      · rw [P3.out]; exact (H.out.below (B1.out.mono hB)).drop_last hpl
    · have hc2 : ¬ p = c := fun e => hc e.symm
      go_enter Try.func41, Try.ntmps41
      go_wp2_with fail
      refine HS.out.mono ?_
      rintro e w1 ⟨rfl, hb1⟩
      have B1 := Lib.hid hb1
      clear hb1
      go_wp2_with fail
      go_quiet (fail)
      go_wp2_with fail
      go_ret3
      refine ⟨_, _, _, rfl, ?_, ?_, ?_, B1.out.trans ((below_draws w1 _).mono B1.out.size)⟩
      · rw [P1.out]; exact (H.out.below (B1.out.mono hB)).take (by omega)
      · rw [P2.out]; exact Recs.void (c' := c - p) (by unfold maxLen; omega)
      · rw [P3.out]; exact (H.out.below (B1.out.mono hB)).drop entC_len (by omega) hpl
end Go.Proofs.Ytelphegeeiocnaa.W06
