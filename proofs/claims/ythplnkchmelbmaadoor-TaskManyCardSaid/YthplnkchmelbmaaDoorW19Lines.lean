/-
  Layer 19 (task), walks: Lines and Count of the program, and the document's Lines. The conditions stand in the statements.
-/
import Derived.Test.YthplnkchmelbmaaDoorW19Line
import Derived.Test.YthplnkchmelbmaaDoorW19RefLine
import Derived.Test.YthplnkchmelbmaaDoorW19Pieces
namespace Go.Proofs.YthplnkchmelbmaaDoor.W19
set_option maxRecDepth 100000
open Go Go.RowKit Go.Proofs.YthplnkchmelbmaaDoor.M19 Go.Proofs.YthplnkchmelbmaaDoor.Strs
open Go.Proofs.YthplnkchmelbmaaDoor.W09 (Tk Tasks Tasks.at_)
open Go.Proofs.YthplnkchmelbmaaDoor.Kit (ret_str ret_bool ret_int mk_of mk_bytes ba_ext below_draws on)

/-- the text of a task's line -/
def rawB (x : Tk) : ByteArray := ⟨(raw x).toArray⟩
/-- what Lines returns -/
def Lined (w : World) (L : List Tk) (e : Ending) (w' : World) : Prop :=
  ((L.all right = true ∧ ∃ u, e = .returned (.tuple #[u, .int .i64 0]) ∧ RowT w' w.heap.size u (L.map raw)) ∨ (L.all right = false ∧ e = .returned (.tuple #[.slice none 0 0, .int .i64 2]))) ∧ Below w.heap.size w w'
section
variable {L : List Tk} {k : Nat}
theorem all_next (h : (L.take k).all right = true) (hk : k < L.length) (h2 : right L[k] = true) : (L.take (k + 1)).all right = true := by
  rw [List.take_succ_eq_append_getElem hk, List.all_append, h]; simp [h2]
theorem all_no (hk : k < L.length) (h2 : right L[k] = false) : L.all right = false := by
  rw [List.all_eq_false]
  exact ⟨L[k], List.getElem_mem hk, by rw [h2]; decide⟩
theorem all_end (h : (L.take k).all right = true) (hk : ¬ k < L.length) : L.all right = true := by
  rwa [List.take_of_length_le (by omega)] at h
theorem map_next (hk : k < L.length) : (L.take (k + 1)).map raw = (L.take k).map raw ++ [(rawB L[k]).data.toList] := by
  rw [List.take_succ_eq_append_getElem hk, List.map_append]; rfl
theorem map_end (hk : ¬ k < L.length) : (L.take k).map raw = L.map raw := by rw [List.take_of_length_le (by omega)]
end
set_option maxHeartbeats 4000000 in
theorem lines_any (v : Value) (L : List Tk) (w : World) (h : Tasks w.heap.size w v L) (hs : ∀ x ∈ L, x.path.length ≤ 2000 ∧ x.text.length ≤ 2000) (hn : L.length ≤ 100) (hv : Verbs w) : Calls Tryd.prog 17 #[v] w (Lined w L) := by
  obtain ⟨i0, hi, hz0, hz1, hz2⟩ := info_parts text_info
  obtain ⟨A, c, rfl, hA1, hA2⟩ := h.form
  unfold maxLen at hA2
  have H := Lib.hid h
  have HS := Lib.hid hs
  have HV := Lib.hid hv
  clear h hs hv
  generalize hm : L.length = m at *
  have HM := Lib.hid hm
  clear hm
  go_enter Tryd.func17, Tryd.ntmps17
  go_wp2_with fail
  go_loopw [4, 11] (fun v i wr => ∃ (k : Nat) (va : Value), va = v ∧ k ≤ m ∧ i = .int .i64 k ∧ Hid (RowT wr w.heap.size v ((L.take k).map raw)) ∧ Hid ((L.take k).all right = true) ∧ Hid (Below w.heap.size w wr)) (fun _ i _ => m - (intOf i).toNat)
  case atStart => exact ⟨0, _, rfl, Nat.zero_le _, rfl, World.ownsRow_nil _ _ _ _, rfl, Below.refl _ _⟩
  case round =>
    obtain ⟨k, va, rfl, hk, rfl, hown, hq, hb⟩ := hrel
    by_cases hlt : k < m
    · obtain ⟨b, o, hl, rfl, hbl, c0, c1, c2⟩ := Tasks.at_ (H.out.below hb.out) hlt
      have hx := HS.out L[k] (List.getElem_mem hl)
      have hpt : (⟨(L[k]).path.toArray⟩ : ByteArray).size ≤ 2147483648 := by rw [Lib.size_eq]; have := hx.1; show (L[k]).path.length ≤ _; omega
      have htt : (⟨(L[k]).text.toArray⟩ : ByteArray).size ≤ 2147483648 := by rw [Lib.size_eq]; have := hx.2; show (L[k]).text.length ≤ _; omega
      have HMX := Lib.hid (map_next hl)
      obtain ⟨kd, hkd⟩ : ∃ kd, kd = (L[k]).kind := ⟨_, rfl⟩
      obtain ⟨p, hp⟩ : ∃ p : ByteArray, p = ⟨(L[k]).path.toArray⟩ := ⟨_, rfl⟩
      obtain ⟨t, ht⟩ : ∃ t : ByteArray, t = ⟨(L[k]).text.toArray⟩ := ⟨_, rfl⟩
      have hxx : L[k] = ⟨kd, p.data.toList, t.data.toList⟩ := by rw [hkd, hp, ht]
      have HXX := Lib.hid hxx
      rw [← hkd] at c0
      rw [← hp] at c1 hpt
      rw [← ht] at c2 htt
      obtain ⟨U, hU⟩ : ∃ U, wr.alloc (.cells #[.int .i64 kd, .string p, .string t] 23) = U := ⟨_, rfl⟩
      have BU := Lib.hid (on hb.out (hU ▸ below_new wr (.cells #[.int .i64 kd, .string p, .string t] 23)))
      have VU := Lib.hid (HV.out.on BU.out)
      have d0 := (hU ▸ box_new wr kd p t : TaskBox U wr.heap.size kd p t).c0
      have d1 := (hU ▸ box_new wr kd p t : TaskBox U wr.heap.size kd p t).c1
      have d2 := (hU ▸ box_new wr kd p t : TaskBox U wr.heap.size kd p t).c2
      have RU : Hid (RowT U w.heap.size va ((L.take k).map raw)) := hU ▸ World.ownsRow.alloc hown.out _
      have hlen : ((L.take k).map raw).length ≤ 100 := by rw [List.length_map, List.length_take]; omega
      clear hkd hp ht hx hbl
      cases hr : right L[k] with
      | false =>
        have HA := Lib.hid (all_no hl hr)
        have HC := Lib.hid (fun w => line_no kd p t hpt htt (by rw [← HXX.out]; exact hr) w)
        clear hr hxx
        unfold taskV at HC
        go_wp2_with fail
        refine (HC.out _).mono ?_
        rintro e w2 ⟨rfl, hb2⟩
        have B2 := Lib.hid (on BU.out hb2)
        clear hb2
        go_wp2_with fail
        go_ret2
        exact ⟨Or.inr ⟨HA.out, rfl⟩, B2.out⟩
      | true =>
        have HA := Lib.hid (all_next hq.out hl hr)
        obtain ⟨q, hqq⟩ : ∃ q, q = rawB L[k] := ⟨_, rfl⟩
        have HC := Lib.hid (line_ok kd p t q hpt htt (by rw [← HXX.out]; exact hr) (by rw [← HXX.out, hqq]; rfl) U VU.out)
        rw [← hqq] at HMX
        clear hr hxx hqq
        unfold taskV at HC
        go_wp2_with fail
        refine (HC.out).mono ?_
        rintro e w2 ⟨rfl, hb2⟩
        have B2 := Lib.hid (on BU.out hb2)
        have R2 := Lib.hid (rowT_below RU.out hb2)
        have hbs := Lib.hid B2.out.size
        clear hb2 hU d0 d1 d2 c0 c1 c2
        go_wp2_with (at_builtin; refine wpList_append_own _ rfl (.tmp 23) (.tmp 25) 39 rfl w.heap.size 9 i0 (.string ⟨#[]⟩) 1 16 Tryd.underlying39 hi hz0 hz1 hz2 rfl (by decide) _ _ _ rfl (R2.out.alloc _) ⟨_, 0, none⟩ 1 1 [.string q] rfl rfl (cell_one_new _ _ _) (by intro u hu; simp at hu; subst hu; rfl) (by unfold maxLen; omega) (by omega) (by simp; exact Nat.le_succ_of_le hbs.out) ?_; intro v1 w1 hown1 hgrow1 _)
        have B3 := Lib.hid (below_more B2.out R2.out hgrow1)
        have O3 : Hid (RowT w1 w.heap.size v1 ((L.take (k + 1)).map raw)) := by rw [HMX.out]; exact rowT_more hown1
        clear hown1 hgrow1
        go_wp2_with fail
        go_roundw
        case rel => exact ⟨k + 1, _, rfl, by omega, by go_num, O3, HA, B3⟩
        case measure => simp [intOf]; omega
    · have HA := Lib.hid (all_end hq.out (by rw [HM.out]; exact hlt))
      have HE := Lib.hid (map_end (L := L) (k := k) (by rw [HM.out]; exact hlt))
      have RR : Hid (RowT wr w.heap.size va (L.map raw)) := by rw [← HE.out]; exact hown.out
      go_wp2_with fail
      go_ret2
      exact ⟨Or.inl ⟨HA.out, _, rfl, RR.out⟩, hb.out⟩
end Go.Proofs.YthplnkchmelbmaaDoor.W19
