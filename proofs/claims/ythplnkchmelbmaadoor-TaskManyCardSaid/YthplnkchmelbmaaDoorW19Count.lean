/-
  Layer 19 (task), walks: Count of the program, and the document's Lines. The conditions stand in the statements.
-/
import Derived.Test.YthplnkchmelbmaaDoorW19Lines
namespace Go.Proofs.YthplnkchmelbmaaDoor.W19
set_option maxRecDepth 100000
open Go Go.RowKit Go.Proofs.YthplnkchmelbmaaDoor.M19 Go.Proofs.YthplnkchmelbmaaDoor.Strs
open Go.Proofs.YthplnkchmelbmaaDoor.W09 (Tk Tasks Tasks.at_)
open Go.Proofs.YthplnkchmelbmaaDoor.Kit (ret_str ret_bool ret_int mk_of mk_bytes ba_ext below_draws on)

/-- how many tasks are of a kind -/
def many (L : List Tk) (z : Int) : Nat := L.countP fun x => x.kind == z
section
variable {L : List Tk} {k : Nat} {z : Int}
theorem many_yes (hk : k < L.length) (h : (L[k].kind == z) = true) : many (L.take (k + 1)) z = many (L.take k) z + 1 := by
  unfold many
  rw [List.take_succ_eq_append_getElem hk, List.countP_append]; simp [h]
theorem many_no (hk : k < L.length) (h : (L[k].kind == z) = false) : many (L.take (k + 1)) z = many (L.take k) z := by
  unfold many
  rw [List.take_succ_eq_append_getElem hk, List.countP_append]; simp [h]
theorem many_end (hk : ¬ k < L.length) : many (L.take k) z = many L z := by rw [List.take_of_length_le (by omega)]
theorem many_le (k : Nat) : many (L.take k) z ≤ k := Nat.le_trans List.countP_le_length (List.length_take_le _ _)
end
set_option maxHeartbeats 1000000 in
theorem count_any (v : Value) (L : List Tk) (z : Int) (w : World) (h : Tasks w.heap.size w v L) : Calls Tryd.prog 18 #[v, .int .i64 z] w fun e w' => e = .returned (.int .i64 (many L z : Nat)) ∧ Below w.heap.size w w' := by
  obtain ⟨A, c, rfl, hA1, hA2⟩ := h.form
  unfold maxLen at hA2
  have H := Lib.hid h
  clear h
  generalize hm : L.length = m at *
  have HM := Lib.hid hm
  clear hm
  go_enter Tryd.func18, Tryd.ntmps18
  go_wp2_with fail
  go_loopw [5, 10] (fun v i wr => ∃ (k n : Nat), k ≤ m ∧ n ≤ k ∧ i = .int .i64 k ∧ v = .int .i64 n ∧ Hid (n = many (L.take k) z) ∧ Hid (Below w.heap.size w wr)) (fun _ i _ => m - (intOf i).toNat)
  case atStart => exact ⟨0, 0, Nat.zero_le _, Nat.le_refl _, rfl, rfl, rfl, Below.refl _ _⟩
  case round =>
    obtain ⟨k, n, hk, hnk, rfl, rfl, hn, hb⟩ := hrel
    by_cases hlt : k < m
    · obtain ⟨b, o, hl, rfl, hbl, c0, c1, c2⟩ := Tasks.at_ (H.out.below hb.out) hlt
      obtain ⟨kd, hkd⟩ : ∃ kd, kd = (L[k]).kind := ⟨_, rfl⟩
      obtain ⟨p, hp⟩ : ∃ p : ByteArray, p = ⟨(L[k]).path.toArray⟩ := ⟨_, rfl⟩
      obtain ⟨t, ht⟩ : ∃ t : ByteArray, t = ⟨(L[k]).text.toArray⟩ := ⟨_, rfl⟩
      rw [← hkd] at c0
      rw [← hp] at c1
      rw [← ht] at c2
      obtain ⟨U, hU⟩ : ∃ U, wr.alloc (.cells #[.int .i64 kd, .string p, .string t] 23) = U := ⟨_, rfl⟩
      have BU := Lib.hid (on hb.out (hU ▸ below_new wr (.cells #[.int .i64 kd, .string p, .string t] 23)))
      have d0 := (hU ▸ box_new wr kd p t : TaskBox U wr.heap.size kd p t).c0
      clear hp ht hbl
      cases hz : (kd == z) with
      | true =>
        have HX := Lib.hid (many_yes hl (hkd ▸ hz))
        have hz2 := Lib.hid hz
        clear hkd
        go_wp2_with fail
        go_roundw
        case rel => exact ⟨k + 1, n + 1, by omega, by omega, by go_num, by go_num, by show _ = _; rw [HX.out, hn.out], BU⟩
        case measure => simp [intOf]; omega
      | false =>
        have HX := Lib.hid (many_no hl (hkd ▸ hz))
        clear hkd
        go_wp2_with fail
        go_roundw
        case rel => exact ⟨k + 1, n, by omega, by omega, by go_num, rfl, by show _ = _; rw [HX.out, hn.out], BU⟩
        case measure => simp [intOf]; omega
    · have HE := Lib.hid (many_end (L := L) (k := k) (z := z) (by rw [HM.out]; exact hlt))
      go_wp2_with fail
      go_ret
      exact ⟨ret_int (by rw [← HE.out, ← hn.out]), hb.out⟩
set_option maxHeartbeats 4000000 in
theorem refLines_any (v : Value) (L : List Tk) (w : World) (h : Tasks w.heap.size w v L) (hs : ∀ x ∈ L, x.path.length ≤ 2000 ∧ x.text.length ≤ 2000) (hn : L.length ≤ 100) : Calls Tryd.prog 20 #[v] w fun e w' => ∃ u, e = .returned u ∧ RowT w' w.heap.size u (L.map raw) ∧ Below w.heap.size w w' := by
  obtain ⟨i0, hi, hz0, hz1, hz2⟩ := info_parts text_info
  obtain ⟨A, c, rfl, hA1, hA2⟩ := h.form
  unfold maxLen at hA2
  have H := Lib.hid h
  have HS := Lib.hid hs
  clear h hs
  generalize hm : L.length = m at *
  have HM := Lib.hid hm
  clear hm
  go_enter Tryd.func20, Tryd.ntmps20
  go_wp2_with fail
  go_loopw [3, 4] (fun v i wr => ∃ (k : Nat) (va : Value), va = v ∧ k ≤ m ∧ i = .int .i64 k ∧ Hid (RowT wr w.heap.size v ((L.take k).map raw)) ∧ Hid (Below w.heap.size w wr)) (fun _ i _ => m - (intOf i).toNat)
  case atStart => exact ⟨0, _, rfl, Nat.zero_le _, rfl, World.ownsRow_nil _ _ _ _, Below.refl _ _⟩
  case round =>
    obtain ⟨k, va, rfl, hk, rfl, hown, hb⟩ := hrel
    by_cases hlt : k < m
    · obtain ⟨b, o, hl, rfl, hbl, c0, c1, c2⟩ := Tasks.at_ (H.out.below hb.out) hlt
      have hx := HS.out L[k] (List.getElem_mem hl)
      have hpt : (⟨(L[k]).path.toArray⟩ : ByteArray).size ≤ 2147483648 := by rw [Lib.size_eq]; have := hx.1; show (L[k]).path.length ≤ _; omega
      have htt : (⟨(L[k]).text.toArray⟩ : ByteArray).size ≤ 2147483648 := by rw [Lib.size_eq]; have := hx.2; show (L[k]).text.length ≤ _; omega
      have HMX := Lib.hid (map_next hl)
      obtain ⟨kd, hkd⟩ : ∃ kd, kd = (L[k]).kind := ⟨_, rfl⟩
      obtain ⟨p, hp⟩ : ∃ p : ByteArray, p = ⟨(L[k]).path.toArray⟩ := ⟨_, rfl⟩
      obtain ⟨t, ht⟩ : ∃ t : ByteArray, t = ⟨(L[k]).text.toArray⟩ := ⟨_, rfl⟩
      have HXX : Hid (L[k] = ⟨kd, p.data.toList, t.data.toList⟩) := by rw [hkd, hp, ht]; rfl
      obtain ⟨q, hqq⟩ : ∃ q, q = rawB L[k] := ⟨_, rfl⟩
      have hlen : ((L.take k).map raw).length ≤ 100 := by rw [List.length_map, List.length_take]; omega
      rw [← hkd] at c0
      rw [← hp] at c1 hpt
      rw [← ht] at c2 htt
      have HC := Lib.hid (fun w => refLine_any kd p t q hpt htt (by rw [← HXX.out, hqq]; rfl) w)
      rw [← hqq] at HMX
      unfold taskV at HC
      clear hkd hp ht hx hbl hqq
      go_wp2_with fail
      refine (HC.out _).mono ?_
      rintro e w2 ⟨rfl, hb2⟩
      have B2 := Lib.hid (on hb.out hb2)
      have R2 := Lib.hid (rowT_below hown.out hb2)
      have hbs := Lib.hid B2.out.size
      clear hb2 c0 c1 c2
      go_wp2_with (at_builtin; refine wpList_append_own _ rfl (.tmp 11) (.tmp 17) 39 rfl w.heap.size 9 i0 (.string ⟨#[]⟩) 1 16 Tryd.underlying39 hi hz0 hz1 hz2 rfl (by decide) _ _ _ rfl (R2.out.alloc _) ⟨_, 0, none⟩ 1 1 [.string q] rfl rfl (cell_one_new _ _ _) (by intro u hu; simp at hu; subst hu; rfl) (by unfold maxLen; omega) (by omega) (by simp; exact Nat.le_succ_of_le hbs.out) ?_; intro v1 w1 hown1 hgrow1 _)
      have B3 := Lib.hid (below_more B2.out R2.out hgrow1)
      have O3 : Hid (RowT w1 w.heap.size v1 ((L.take (k + 1)).map raw)) := by rw [HMX.out]; exact rowT_more hown1
      clear hown1 hgrow1
      go_wp2_with fail
      go_roundw
      case rel => exact ⟨k + 1, _, rfl, by omega, by go_num, O3, B3⟩
      case measure => simp [intOf]; omega
    · have HE := Lib.hid (map_end (L := L) (k := k) (by rw [HM.out]; exact hlt))
      have RR : Hid (RowT wr w.heap.size va (L.map raw)) := by rw [← HE.out]; exact hown.out
      go_wp2_with fail
      go_ret
      exact ⟨_, rfl, RR.out, hb.out⟩
end Go.Proofs.YthplnkchmelbmaaDoor.W19
