/-
  The law DotsWays of layer 18 (dots): it returns true whatever it is given. The conditions stand in the statement.
-/
import Derived.Test.YtoahbkmngmapaaaDoorW18Prog
namespace Go.Proofs.YtoahbkmngmapaaaDoor.W18
set_option maxRecDepth 100000
open Go Go.RowKit Go.Proofs.YtoahbkmngmapaaaDoor.M18 Go.Proofs.YtoahbkmngmapaaaDoor.Strs
open Go.Proofs.YtoahbkmngmapaaaDoor.M04 (parts slashed total parts_total)
open Go.Proofs.YtoahbkmngmapaaaDoor.Kit (ret_str ret_bool mk_of mk_bytes ba_ext cat_bytes on below_draws)
theorem way_any {o : Bool} {s d : ByteArray} {w : World} (hd : d.data.toList = slashed ((parts s.data.toList).map (way o))) (hs : s.size ≤ 2147483648) :
    Calls Tryd.prog 5 #[.string s, .bool o] w fun e w' => e = .returned (.string d) ∧ Below w.heap.size w w' := by
  cases o with
  | true => exact way_on hd hs
  | false => exact way_off hd hs
theorem refWay_any {o : Bool} {s d : ByteArray} {w : World} (hd : d.data.toList = slashed ((parts s.data.toList).map (way o))) (hs : s.size ≤ 2147483648) :
    Calls Tryd.prog 6 #[.string s, .bool o] w fun e w' => e = .returned (.string d) ∧ Below w.heap.size w w' := by
  cases o with
  | true => exact refWay_on hd (by omega)
  | false => exact refWay_off hd (by omega)
set_option maxHeartbeats 2000000 in
theorem dotsWays_law {w : World} (s : ByteArray) (hs : s.size ≤ 1048576) (o : Bool) (v : Value) (L : List Bytes) (t : Texts w.heap.size w v L) (hm : ∀ l ∈ L, l.length ≤ maxLen) : Calls Tryd.prog 3 #[.string s, .bool o, v] w fun e w' => e = .returned (.bool true) ∧ Below w.heap.size w w' := by
  obtain ⟨d, hd⟩ : ∃ d : ByteArray, d.data.toList = slashed ((parts s.data.toList).map (way o)) := ⟨⟨(slashed ((parts s.data.toList).map (way o))).toArray⟩, rfl⟩
  have HW : Hid (∀ w : World, Calls Tryd.prog 5 #[.string s, .bool o] w fun e w' => e = .returned (.string d) ∧ Below w.heap.size w w') := fun w => way_any hd (by omega)
  have RW : Hid (∀ w : World, Calls Tryd.prog 6 #[.string s, .bool o] w fun e w' => e = .returned (.string d) ∧ Below w.heap.size w w') := fun w => refWay_any hd (by omega)
  have HV := Lib.hid lives_any
  have HA : Hid (∀ w' : World, Below w.heap.size w w' → Calls Tryd.prog 7 #[v] w' fun e w'' => e = .returned (.bool (some1 L)) ∧ w'' = w') := fun w' hb => any_any (t.below hb) hm
  have HT : Hid (∀ (p q : ByteArray) (w : World), q.data.toList = toP p.data.toList → p.size ≤ 9223372036854775807 → Calls Tryd.prog 4 #[.string p] w fun e w' => e = .returned (.string q) ∧ w' = w) := fun p q w h1 h2 => refTo_any h1 h2
  have sd := W04.eq_bytes (a := d) (b := d) rfl
  obtain ⟨A, c, rfl, hA1, hA2⟩ := t.form
  have H := Lib.hid t
  have HM := Lib.hid hm
  unfold maxLen at hA2
  clear t hm hd hs
  generalize hn : L.length = n at *
  have HN := Lib.hid hn
  clear hn
  go_enter Tryd.func3, Tryd.ntmps3
  go_wp2_with fail
  go_loopw [7, 8] (fun b i wr => ∃ k : Nat, k ≤ n ∧ i = .int .i64 k ∧ b = .bool (some1 (L.take k)) ∧ ∃ q, wr = w.drewN q) (fun _ i _ => n - (intOf i).toNat)
  case atStart => exact ⟨0, Nat.zero_le _, rfl, rfl, 0, rfl⟩
  case round =>
    obtain ⟨k, hk, rfl, rfl, q, rfl⟩ := hrel
    by_cases hlt : k < n
    · obtain ⟨ad, t, rfl, hbl, hc, ht⟩ := H.out.at_ hlt
      have hkl : k < L.length := by rw [HN.out]; exact hlt
      have hts : t.size ≤ 9223372036854775807 := by
        rw [Lib.size_eq, ht, List.getD_eq_getElem?_getD, List.getElem?_eq_getElem hkl]
        exact HM.out _ (List.getElem_mem hkl)
      obtain ⟨u, hu⟩ : ∃ u : ByteArray, u.data.toList = toP t.data.toList := ⟨⟨(toP t.data.toList).toArray⟩, rfl⟩
      have HQ := Lib.hid (fun w => HT.out t u w hu hts)
      have hnext := some1_next hkl
      cases hb : some1 (L.take k) with
      | true =>
        have HX : Hid (some1 (L.take (k + 1)) = true) := by show _ = _; rw [hnext, hb]; rfl
        clear hnext hb ht hu hkl
        go_wp2_with fail
        go_quiet (fail)
        go_wp2_with fail
        go_roundw
        case rel => exact ⟨k + 1, by omega, by go_num, by rw [HX.out], q + nq, by first | rfl | rw [World.drewN_drewN]⟩
        case measure => simp [intOf]; omega
      | false =>
        by_cases hl : toP t.data.toList = t.data.toList
        · have tt := W04.eq_bytes (a := u) (b := t) (hu.trans hl)
          have HX : Hid (some1 (L.take (k + 1)) = false) := by show _ = _; rw [hnext, hb, ← ht, hl]; simp
          clear hnext hb ht hu hkl hl
          go_wp2_with fail
          go_quiet ((go_at_call 4; exact Kit.quiet_more_same (HQ.out _)))
          go_wp2_with fail
          go_roundw
          case rel => exact ⟨k + 1, by omega, by go_num, by rw [HX.out], q + nq, by first | rfl | rw [World.drewN_drewN]⟩
          case measure => simp [intOf]; omega
        · have tt := W04.ne_bytes (a := u) (b := t) (by rw [hu]; exact hl)
          have HX : Hid (some1 (L.take (k + 1)) = true) := by show _ = _; rw [hnext, hb, ← ht]; simpa using hl
          clear hnext hb ht hu hkl hl
          go_wp2_with fail
          go_quiet ((go_at_call 4; exact Kit.quiet_more_same (HQ.out _)))
          go_wp2_with fail
          go_roundw
          case rel => exact ⟨k + 1, by omega, by go_num, by rw [HX.out], q + nq, by first | rfl | rw [World.drewN_drewN]⟩
          case measure => simp [intOf]; omega
    · have HX := some1_end (L := L) (k := k) (by rw [HN.out]; exact hlt)
      have BQ := Lib.hid (below_draws w q)
      rw [HX]
      clear HX
      generalize some1 L = z at *
      go_wp2_with fail
      refine (HW.out _).mono ?_
      rintro e w1 ⟨rfl, hb1⟩
      have B1 := Lib.hid (BQ.out.trans (hb1.mono BQ.out.size))
      clear hb1
      go_wp2_with fail
      refine (RW.out _).mono ?_
      rintro e w2 ⟨rfl, hb2⟩
      have B2 := Lib.hid (B1.out.trans (hb2.mono B1.out.size))
      clear hb2
      go_wp2_with fail
      refine (HA.out _ B2.out).mono ?_
      rintro e w3 ⟨rfl, rfl⟩
      go_wp2_with fail
      refine (HV.out _).mono ?_
      rintro e w4 ⟨rfl, rfl⟩
      go_wp2_with fail
      go_ret
      exact ⟨ret_bool (by first | rfl | simp), B2.out⟩
end Go.Proofs.YtoahbkmngmapaaaDoor.W18
