/-
  Layer 4 (path), walks: the plain answers text, Clean, Join, Dir and Base: what each returns at texts of at most 2^40 bytes; new memory may be laid, nothing that was there is changed.
-/
import Derived.Test.YthplnkchmelbmaaDoorW04Parts
namespace Go.Proofs.YthplnkchmelbmaaDoor.W04
set_option maxRecDepth 100000
open Go Go.RowKit Go.Proofs.YthplnkchmelbmaaDoor.Strs Go.Proofs.YthplnkchmelbmaaDoor.M04
open Go.Proofs.YthplnkchmelbmaaDoor.Kit (ret_str mk_of mk_bytes ba_ext cat_bytes list_full list_ne list_none list_nil bytes_nil bytes_cons byte_eq byte_ne below_draws on)

theorem flat_next {L : List Bytes} {k : Nat} (hk : k < L.length) : (L.take (k + 1)).flatMap (fun p => 47 :: p) = (L.take k).flatMap (fun p => 47 :: p) ++ 47 :: L.getD k [] := by
  rw [List.take_succ_eq_append_getElem hk, List.flatMap_append]
  simp [hk]
theorem flat_all {L : List Bytes} {k : Nat} (hk : ¬ k < L.length) : (L.take k).flatMap (fun p => 47 :: p) = L.flatMap (fun p => 47 :: p) := by rw [List.take_of_length_le (by omega)]
theorem flat_bound (L : List Bytes) (k : Nat) : ((L.take k).flatMap (fun p => 47 :: p)).length ≤ total L := by
  rw [flat_total]
  conv => rhs; rw [← List.take_append_drop k L, total_append]
  omega
theorem part_bound {L : List Bytes} {k : Nat} (hk : k < L.length) : (L.getD k []).length ≤ total L := by
  induction L generalizing k with
  | nil => simp at hk
  | cons p L ih =>
    rw [total_cons]
    cases k with
    | zero => simp; omega
    | succ k =>
      have := ih (k := k) (by simpa using hk)
      simp at this ⊢; omega
theorem text_full {L : List Bytes} (h : L ≠ []) : text L = L.flatMap (fun p => 47 :: p) := by unfold text; rw [if_neg h]
theorem flat_none {L : List Bytes} (h : ¬ 0 < L.length) : L = [] := List.length_eq_zero_iff.1 (by omega)
theorem flat_some {L : List Bytes} (h : 0 < (L.flatMap (fun p => 47 :: p)).length) : L ≠ [] := by rintro rfl; simp at h

set_option maxHeartbeats 400000 in
theorem refText_any (v : Value) (L : List Bytes) (B : Nat) (w : World) (h : Texts B w v L) (hl : total L ≤ 4398046511104) :
    Calls Tryd.prog 34 #[v] w fun e w' => e = .returned (.string ⟨(text L).toArray⟩) ∧ ∃ n, w' = w.drewN n := by
  obtain ⟨A, c, rfl, hA1, hA2⟩ := h.form
  have H := Lib.hid h
  unfold maxLen at hA2
  clear h
  generalize hm : L.length = n at *
  have HM := Lib.hid hm
  clear hm
  go_enter Tryd.func34, Tryd.ntmps34
  go_wp2
  go_loopw [3, 4] (fun d i wr => ∃ (k : Nat) (t : ByteArray), k ≤ n ∧ i = .int .i64 k ∧ d = .string t ∧ Hid (t.data.toList = (L.take k).flatMap (fun p => 47 :: p)) ∧ ∃ q, wr = w.drewN q) (fun _ i _ => n - (intOf i).toNat)
  case atStart => exact ⟨0, ⟨#[]⟩, Nat.zero_le _, rfl, rfl, rfl, 0, rfl⟩
  case round =>
    obtain ⟨k, t, hk, rfl, rfl, ht, q, rfl⟩ := hrel
    have hsz : t.size ≤ 4398046511104 := by rw [Lib.size_eq, ht.out]; exact Nat.le_trans (flat_bound L k) hl
    by_cases hlt : k < n
    · obtain ⟨ad, s, rfl, hbl, hc, hs⟩ := H.out.at_ hlt
      have hss : s.size ≤ 4398046511104 := by rw [Lib.size_eq, hs]; exact Nat.le_trans (part_bound (by rw [HM.out]; exact hlt)) hl
      have HT : Hid ((t ++ (⟨#[47]⟩ ++ s)).data.toList = (L.take (k + 1)).flatMap (fun p => 47 :: p)) := by
        show _ = _
        rw [flat_next (by rw [HM.out]; exact hlt), cat_bytes, cat_bytes, ht.out, hs]; rfl
      clear hs
      go_wp2
      go_roundw
      case rel => exact ⟨k + 1, _, by omega, by go_num, rfl, HT, q, rfl⟩
      case measure => simp [intOf]; omega
    · have HT := Lib.hid (ht.out.trans (flat_all (by rw [HM.out]; exact hlt)))
      by_cases h0 : 0 < t.size
      · have hf := list_full h0
        have hn := list_ne h0
        go_wp2
        go_ret
        refine ⟨ret_str (mk_of ?_).symm, q, rfl⟩
        rw [text_full]
        · exact HT.out
        · exact flat_some (by rw [← HT.out, ← Lib.size_eq]; exact h0)
      · have hf := list_none h0
        have hn := list_nil h0
        go_wp2
        go_ret
        refine ⟨ret_str ?_, q, rfl⟩
        have : L = [] := by
          have e := HT.out
          rw [bytes_nil h0] at e
          cases L with
          | nil => rfl
          | cons p L => simp at e
        rw [this]; rfl

/-! ### Clean -/
theorem fold_next {L : List Bytes} {k : Nat} (hk : k < L.length) : (L.take (k + 1)).foldl cstep [] = cstep ((L.take k).foldl cstep []) (L.getD k []) := by
  rw [List.take_succ_eq_append_getElem hk, List.foldl_append]
  simp [hk]
theorem fold_all {L : List Bytes} {k : Nat} (hk : ¬ k < L.length) : (L.take k).foldl cstep [] = cparts L := by rw [List.take_of_length_le (by omega)]; rfl
theorem fold_count : ∀ (L out : List Bytes), (L.foldl cstep out).length ≤ out.length + L.length
  | [], out => by simp
  | p :: L, out => by
    have h := fold_count L (cstep out p)
    have h2 : (cstep out p).length ≤ out.length + 1 := by unfold cstep; split <;> simp; omega
    rw [List.foldl_cons, List.length_cons]; omega
theorem clean_total (L : List Bytes) : total (cparts L) ≤ total L := by
  have := fold_total L []
  have e : total [] = 0 := rfl
  unfold cparts; omega
theorem take_drop_map {out : List Bytes} {n : Nat} (h : out.length = n + 1) : (out.map strV).take n = out.dropLast.map strV := by
  rw [List.dropLast_eq_take, h, List.map_take]; rfl

end Go.Proofs.YthplnkchmelbmaaDoor.W04
