/-
  Layer 4 (path), walks: the plain answers text, Clean, Join, Dir and Base: what each returns at texts of at most 2^40 bytes; new memory may be laid, nothing that was there is changed.
-/
import Derived.Test.YtoahbkmngmapaaaDoorW04Parts
namespace Go.Proofs.YtoahbkmngmapaaaDoor.W04
open Go Go.RowKit Go.Proofs.YtoahbkmngmapaaaDoor.Strs Go.Proofs.YtoahbkmngmapaaaDoor.M04
open Go.Proofs.YtoahbkmngmapaaaDoor.Kit (ret_str mk_of mk_bytes ba_ext cat_bytes list_full list_ne list_none list_nil bytes_nil bytes_cons byte_eq byte_ne below_draws on)

theorem flat_next {L : List Bytes} {k : Nat} (hk : k < L.length) : (L.take (k + 1)).flatMap (fun p => 47 :: p) = (L.take k).flatMap (fun p => 47 :: p) ++ 47 :: L.getD k [] := by
  rw [List.take_succ_eq_append_getElem hk, List.flatMap_append]
  simp [hk]
theorem flat_all {L : List Bytes} {k : Nat} (hk : ¬ k < L.length) : (L.take k).flatMap (fun p => 47 :: p) = L.flatMap (fun p => 47 :: p) := by rw [List.take_of_length_le (by omega)]
theorem flat_bound (L : List Bytes) (k : Nat) : ((L.take k).flatMap (fun p => 47 :: p)).length ≤ total L := by
  rw [flat_total]
  conv => rhs; rw [← List.take_append_drop k L, total_append]
  omega
theorem part_bound {L : List Bytes} {k : Nat} (hk : k < L.length) : (L.getD k []).length ≤ total L := by
  induction L generalizing k with
  | nil => simp at hk
  | cons p L ih =>
    rw [total_cons]
    cases k with
    | zero => simp; omega
    | succ k =>
      have := ih (k := k) (by simpa using hk)
      simp at this ⊢; omega
theorem text_full {L : List Bytes} (h : L ≠ []) : text L = L.flatMap (fun p => 47 :: p) := by unfold text; rw [if_neg h]
theorem flat_none {L : List Bytes} (h : ¬ 0 < L.length) : L = [] := List.length_eq_zero_iff.1 (by omega)
theorem flat_some {L : List Bytes} (h : 0 < (L.flatMap (fun p => 47 :: p)).length) : L ≠ [] := by rintro rfl; simp at h

/-! ### Clean -/
theorem fold_next {L : List Bytes} {k : Nat} (hk : k < L.length) : (L.take (k + 1)).foldl cstep [] = cstep ((L.take k).foldl cstep []) (L.getD k []) := by
  rw [List.take_succ_eq_append_getElem hk, List.foldl_append]
  simp [hk]
theorem fold_all {L : List Bytes} {k : Nat} (hk : ¬ k < L.length) : (L.take k).foldl cstep [] = cparts L := by rw [List.take_of_length_le (by omega)]; rfl
theorem fold_count : ∀ (L out : List Bytes), (L.foldl cstep out).length ≤ out.length + L.length
  | [], out => by simp
  | p :: L, out => by
    have h := fold_count L (cstep out p)
    have h2 : (cstep out p).length ≤ out.length + 1 := by unfold cstep; split <;> simp; omega
    rw [List.foldl_cons, List.length_cons]; omega
theorem clean_total (L : List Bytes) : total (cparts L) ≤ total L := by
  have := fold_total L []
  have e : total [] = 0 := rfl
  unfold cparts; omega
theorem take_drop_map {out : List Bytes} {n : Nat} (h : out.length = n + 1) : (out.map strV).take n = out.dropLast.map strV := by
  rw [List.dropLast_eq_take, h, List.map_take]; rfl

end Go.Proofs.YtoahbkmngmapaaaDoor.W04
