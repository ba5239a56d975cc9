/-
  Layer 4 (path), walks: the plain answers text, Clean, Join, Dir and Base: what each returns at texts of at most 2^40 bytes; new memory may be laid, nothing that was there is changed.
-/
import Derived.Test.YtkijenblfpmdaaaDoorW04Parts
namespace Go.Proofs.YtkijenblfpmdaaaDoor.W04
open Go Go.RowKit Go.Proofs.YtkijenblfpmdaaaDoor.Strs Go.Proofs.YtkijenblfpmdaaaDoor.M04
open Go.Proofs.YtkijenblfpmdaaaDoor.Kit (ret_str mk_of mk_bytes ba_ext cat_bytes list_full list_ne list_none list_nil bytes_nil bytes_cons byte_eq byte_ne below_draws on)

theorem flat_next {L : List Bytes} {k : Nat} (hk : k < L.length) : (L.take (k + 1)).flatMap (fun p => 47 :: p) = (L.take k).flatMap (fun p => 47 :: p) ++ 47 :: L.getD k [] := by
  rw [List.take_succ_eq_append_getElem hk, List.flatMap_append]
  simp [hk]
theorem flat_all {L : List Bytes} {k : Nat} (hk : ¬ k < L.length) : (L.take k).flatMap (fun p => 47 :: p) = L.flatMap (fun p => 47 :: p) := by rw [List.take_of_length_le (by omega)]
theorem flat_bound (L : List Bytes) (k : Nat) : ((L.take k).flatMap (fun p => 47 :: p)).length ≤ total L := by
  rw [flat_total]
  conv => rhs; rw [← List.take_append_drop k L, total_append]
  omega
theorem part_bound {L : List Bytes} {k : Nat} (hk : k < L.length) : (L.getD k []).length ≤ total L := by
  induction L generalizing k with
  | nil => simp at hk
  | cons p L ih =>
    rw [total_cons]
    cases k with
    | zero => simp; omega
    | succ k =>
      have := ih (k := k) (by simpa using hk)
      simp at this ⊢; omega
theorem text_full {L : List Bytes} (h : L ≠ []) : text L = L.flatMap (fun p => 47 :: p) := by unfold text; rw [if_neg h]
theorem flat_none {L : List Bytes} (h : ¬ 0 < L.length) : L = [] := List.length_eq_zero_iff.1 (by omega)
theorem flat_some {L : List Bytes} (h : 0 < (L.flatMap (fun p => 47 :: p)).length) : L ≠ [] := by rintro rfl; simp at h

set_option maxHeartbeats 400000 in
theorem refText_any (v : Value) (L : List Bytes) (B : Nat) (w : World) (h : Texts B w v L) (hl : total L ≤ 4398046511104) :
    Calls Tryd.prog 21 #[v] w fun e w' => e = .returned (.string ⟨(text L).toArray⟩) ∧ ∃ n, w' = w.drewN n := by
  obtain ⟨A, c, rfl, hA1, hA2⟩ := h.form
  have H := Lib.hid h
  unfold maxLen at hA2
  clear h
  generalize hm : L.length = n at *
  have HM := Lib.hid hm
  clear hm
  go_enter Tryd.func21, Tryd.ntmps21
  go_wp2
  go_loopw [3, 4] (fun d i wr => ∃ (k : Nat) (t : ByteArray), k ≤ n ∧ i = .int .i64 k ∧ d = .string t ∧ Hid (t.data.toList = (L.take k).flatMap (fun p => 47 :: p)) ∧ ∃ q, wr = w.drewN q) (fun _ i _ => n - (intOf i).toNat)
  case atStart => exact ⟨0, ⟨#[]⟩, Nat.zero_le _, rfl, rfl, rfl, 0, rfl⟩
  case round =>
    obtain ⟨k, t, hk, rfl, rfl, ht, q, rfl⟩ := hrel
    have hsz : t.size ≤ 4398046511104 := by rw [Lib.size_eq, ht.out]; exact Nat.le_trans (flat_bound L k) hl
    by_cases hlt : k < n
    · obtain ⟨ad, s, rfl, hbl, hc, hs⟩ := H.out.at_ hlt
      have hss : s.size ≤ 4398046511104 := by rw [Lib.size_eq, hs]; exact Nat.le_trans (part_bound (by rw [HM.out]; exact hlt)) hl
      have HT : Hid ((t ++ (⟨#[47]⟩ ++ s)).data.toList = (L.take (k + 1)).flatMap (fun p => 47 :: p)) := by
        show _ = _
        rw [flat_next (by rw [HM.out]; exact hlt), cat_bytes, cat_bytes, ht.out, hs]; rfl
      clear hs
      go_wp2
      go_roundw
      case rel => exact ⟨k + 1, _, by omega, by go_num, rfl, HT, q, rfl⟩
      case measure => simp [intOf]; omega
    · have HT := Lib.hid (ht.out.trans (flat_all (by rw [HM.out]; exact hlt)))
      by_cases h0 : 0 < t.size
      · have hf := list_full h0
        have hn := list_ne h0
        go_wp2
        go_ret
        refine ⟨ret_str (mk_of ?_).symm, q, rfl⟩
        rw [text_full]
        · exact HT.out
        · exact flat_some (by rw [← HT.out, ← Lib.size_eq]; exact h0)
      · have hf := list_none h0
        have hn := list_nil h0
        go_wp2
        go_ret
        refine ⟨ret_str ?_, q, rfl⟩
        have : L = [] := by
          have e := HT.out
          rw [bytes_nil h0] at e
          cases L with
          | nil => rfl
          | cons p L => simp at e
        rw [this]; rfl

/-! ### Clean -/
theorem fold_next {L : List Bytes} {k : Nat} (hk : k < L.length) : (L.take (k + 1)).foldl cstep [] = cstep ((L.take k).foldl cstep []) (L.getD k []) := by
  rw [List.take_succ_eq_append_getElem hk, List.foldl_append]
  simp [hk]
theorem fold_all {L : List Bytes} {k : Nat} (hk : ¬ k < L.length) : (L.take k).foldl cstep [] = cparts L := by rw [List.take_of_length_le (by omega)]; rfl
theorem fold_count : ∀ (L out : List Bytes), (L.foldl cstep out).length ≤ out.length + L.length
  | [], out => by simp
  | p :: L, out => by
    have h := fold_count L (cstep out p)
    have h2 : (cstep out p).length ≤ out.length + 1 := by unfold cstep; split <;> simp; omega
    rw [List.foldl_cons, List.length_cons]; omega
theorem clean_total (L : List Bytes) : total (cparts L) ≤ total L := by
  have := fold_total L []
  have e : total [] = 0 := rfl
  unfold cparts; omega
theorem take_drop_map {out : List Bytes} {n : Nat} (h : out.length = n + 1) : (out.map strV).take n = out.dropLast.map strV := by
  rw [List.dropLast_eq_take, h, List.map_take]; rfl

set_option maxHeartbeats 1000000 in
theorem refClean_any (s d : ByteArray) (hd : d.data.toList = clean s.data.toList) (hs : s.size ≤ 1099511627776) (w : World) :
    Calls Tryd.prog 13 #[.string s] w fun e w' => e = .returned (.string d) ∧ Below w.heap.size w w' := by
  obtain ⟨i0, hi, hz0, hz1, hz2⟩ := info_parts text_info
  have HD := Lib.hid hd
  have HP := Lib.hid (refParts_any s hs)
  have HC := Lib.hid (parts_count s.data.toList)
  have HTO := Lib.hid (parts_total s.data.toList)
  have HS := Lib.hid (Lib.size_eq s)
  clear hd
  have HDD : Hid (d.data.toList = text (cparts (parts s.data.toList))) := HD.out
  clear HD
  generalize parts s.data.toList = L at *
  have hn : L.length ≤ 1099511627777 := by have := HC.out; have := HS.out; omega
  go_enter Tryd.func13, Tryd.ntmps13
  go_wp2_with fail
  refine (HP.out _).mono ?_
  rintro e w1 ⟨v, rfl, hown1, hb1⟩
  have T1 := Lib.hid (Texts.of_own hown1)
  have B1 := Lib.hid hb1
  clear hown1 hb1
  obtain ⟨A, c, rfl, hA1, hA2⟩ := T1.out.form
  unfold maxLen at hA2
  generalize hm : L.length = n at *
  have HM := Lib.hid hm
  clear hm
  go_wp2
  go_loopw [4, 5] (fun u i wr => ∃ (k : Nat) (out : List Bytes), k ≤ n ∧ i = .int .i64 k ∧ out.length ≤ k ∧ Hid (out = (L.take k).foldl cstep []) ∧ Hid (wr.ownsRow w1.heap.size 9 1 u out.length (out.map strV)) ∧ Below w1.heap.size w1 wr) (fun _ i _ => n - (intOf i).toNat)
  case atStart => exact ⟨0, [], Nat.zero_le _, rfl, Nat.le_refl _, rfl, World.ownsRow_nil _ _ _ _, Below.refl _ _⟩
  case round =>
    obtain ⟨k, out, hk, rfl, hout, hf, hown, hb⟩ := hrel
    have hbs := hb.size
    by_cases hlt : k < n
    · obtain ⟨ad, p, rfl, hbl, hc, hp⟩ := (T1.out.below hb).at_ hlt
      have HF := Lib.hid (fold_next (L := L) (k := k) (by rw [HM.out]; exact hlt))
      rw [← hp, ← hf.out] at HF
      clear hp
      cases hdd : (p.toList == [46, 46]) with
      | true =>
        have hpe := beq_iff_eq.1 hdd
        have HX : Hid ((L.take (k + 1)).foldl cstep [] = out.dropLast) := by
          show _ = _
          rw [HF.out]; unfold cstep; rw [if_pos (by rw [← Lib.toList_data]; exact hpe)]
        by_cases h0 : 0 < out.length
        · obtain ⟨m, hm1⟩ : ∃ m, out.length = m + 1 := ⟨out.length - 1, by omega⟩
          have hown2 := hown.out
          rw [hm1] at hown2
          obtain ⟨g, cc, rfl, hc1, hc2, hless⟩ := own_less hown2
          rw [take_drop_map hm1] at hless
          have O : Hid (wr.ownsRow w1.heap.size 9 1 (.slice (some ⟨g, 0, none⟩) m cc) out.dropLast.length (out.dropLast.map strV)) := by
            show World.ownsRow _ _ _ _ _ _ _
            rw [List.length_dropLast, hm1]; exact hless
          have HL : Hid (out.dropLast.length = m) := by show _ = _; rw [List.length_dropLast, hm1]; rfl
          clear hless hown2
          unfold maxLen at hc2
          go_wp2
          go_roundw
          case rel => exact ⟨k + 1, out.dropLast, by omega, by go_num, by rw [HL.out]; omega, HX.out.symm, O, hb⟩
          case measure => simp [intOf]; omega
        · have e0 : out = [] := flat_none h0
          subst e0
          have hv := hown.out
          rcases hv.2 with ⟨rfl, -⟩ | ⟨g, cc, cur, rfl, -, -, -, -, -, -⟩ <;>
          · clear hv
            go_wp2
            go_roundw
            case rel => exact ⟨k + 1, [], by omega, by go_num, Nat.zero_le _, HX.out.symm, hown, hb⟩
            case measure => simp [intOf]; omega
      | false =>
        have hpe := beq_eq_false_iff_ne.1 hdd
        have HX : Hid ((L.take (k + 1)).foldl cstep [] = out ++ [p.data.toList]) := by
          show _ = _
          rw [HF.out]; unfold cstep; rw [if_neg (by rw [← Lib.toList_data]; exact hpe)]
        go_wp2_with (at_builtin; refine wpList_append_own _ rfl (.tmp 19) (.tmp 24) 25 rfl w1.heap.size 9 i0 (.string ⟨#[]⟩) 1 16 Tryd.underlying25 hi hz0 hz1 hz2 rfl (by decide) _ _ _ rfl (hown.out.alloc _) ⟨_, 0, none⟩ 1 1 [.string p] rfl rfl (cell_one_new _ _ _) (by intro u hu; simp at hu; subst hu; rfl) (by unfold maxLen; omega) (by omega) (by simp; omega) ?_; intro v1 w2 hown1 hgrow1 _)
        have B2 := Lib.hid (below_more hb hown.out hgrow1)
        have O1 := Lib.hid (own_more hown1)
        clear hown1 hgrow1
        go_wp2
        go_roundw
        case rel => exact ⟨k + 1, out ++ [p.data.toList], by omega, by go_num, by rw [List.length_append]; simp; omega, HX.out.symm, O1, B2.out⟩
        case measure => simp [intOf]; omega
    · have HX := Lib.hid (hf.out.trans (fold_all (by rw [HM.out]; exact hlt)))
      have T2 := Lib.hid (Texts.of_own hown.out)
      have HL : Hid (total out ≤ 4398046511104) := by
        show _ ≤ _
        rw [HX.out]
        have := clean_total L; have := HTO.out; have := HS.out; omega
      go_wp2_with fail
      refine (refText_any _ out _ _ T2.out HL.out).mono ?_
      rintro e w2 ⟨rfl, q, rfl⟩
      go_wp2_with fail
      go_ret
      exact ⟨ret_str (by rw [HX.out]; exact mk_of HDD.out), on B1.out (hb.trans ((below_draws _ _).mono hb.size))⟩
end Go.Proofs.YtkijenblfpmdaaaDoor.W04
