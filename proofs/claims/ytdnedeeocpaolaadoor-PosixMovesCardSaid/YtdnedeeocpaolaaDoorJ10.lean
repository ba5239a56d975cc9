/-
  Texts joined, in build order, each with its own comment and its own conditions: W08Find, W04Clean, W04Join, W04Under, W08Ways, W08Spot, W07Same, W07Do.
-/
import Derived.Test.YtdnedeeocpaolaaDoorJ09
import Derived.Test.YtdnedeeocpaolaaDoorJ07
import Derived.Test.YtdnedeeocpaolaaDoorJ02
import Derived.Deep.QuietTactic
import Derived.Test.YtdnedeeocpaolaaDoorJ06
import Derived.Test.YtdnedeeocpaolaaDoorJ04
import Derived.Deep.RegionHeld3
import Derived.Test.YtdnedeeocpaolaaDoorJ05
/-
  Layer 8 (seek), walks: the plain answer's Go at every list of parts, and Find; new memory may be laid, nothing that was there is changed. The conditions stand in the statements.
-/
namespace Go.Proofs.YtdnedeeocpaolaaDoor.W08
set_option maxRecDepth 100000
open Go Go.RowKit Go.Proofs.YtdnedeeocpaolaaDoor.Strs Go.Proofs.YtdnedeeocpaolaaDoor.Recs
open Go.Proofs.YtdnedeeocpaolaaDoor.M07 (Tr nodeAt inDir)
open Go.Proofs.YtdnedeeocpaolaaDoor.M08 Go.Proofs.YtdnedeeocpaolaaDoor.M04
open Go.Proofs.YtdnedeeocpaolaaDoor.W07 (Nodes nodeV)
open Go.Proofs.YtdnedeeocpaolaaDoor.M03 (check)
open Go.Proofs.YtdnedeeocpaolaaDoor.Kit (ret_str ret_bool ret_int mk_of mk_bytes ba_ext below_draws on list_full list_ne list_none list_nil bytes_nil bytes_ne)

theorem refGo_any (t : Tr) (hfit : Fit t) (htl : t.L.length ≤ 1048576) : ∀ (k : Nat) (l : List Bytes), GoesTo t k l := by
  intro k
  induction k using Nat.strongRecOn with
  | ind k ih =>
    intro l
    induction l with
    | nil => exact go_step t hfit htl k [] (fun k' l' h => ih k' h l') (fun p r h => by cases h)
    | cons p r ihl => exact go_step t hfit htl k (p :: r) (fun k' l' h => ih k' h l') (fun p' r' h => by cases h; exact ihl)
theorem refFind_any (t : Tr) (hfit : Fit t) (htl : t.L.length ≤ 1048576) (u : Value) (s : ByteArray) (last : Bool) (w : World) (hu : Nodes w.heap.size w u t.L) :
    Calls Tryd.prog 29 #[.agg #[u, .int .i64 t.last], .string s, .bool last] w fun e w' => e = .returned (.tuple #[.int .i64 (M08.find t s.data.toList last).1, .int .i64 (M08.find t s.data.toList last).2]) ∧ Below w.heap.size w w' := by
  obtain ⟨Au, cu, rfl, hu1, hu2⟩ := hu.form
  have HU := Lib.hid hu
  clear hu
  by_cases h0 : 0 < s.size
  · have hne : ¬ s.data.toList = [] := bytes_ne h0
    have e1 := list_full h0
    have e2 := list_ne h0
    by_cases h1 : s.size ≤ 1024
    · have hl : ¬ 1024 < s.data.toList.length := by rw [← Lib.size_eq]; omega
      have HF : Hid (M08.find t s.data.toList last = ((goTo t 1 (parts s.data.toList) last 0).1, (goTo t 1 (parts s.data.toList) last 0).2.2)) := by
        show _ = _
        unfold M08.find
        rw [if_neg hne, if_neg hl]
      rw [HF.out]
      have HPT := Lib.hid (fun w' => W04.refParts_any s (by omega) w')
      have hpl := parts_len s.data.toList
      rw [← Lib.size_eq] at hpl
      have HGO := Lib.hid (fun (w' : World) (v : Value) (hb : Below w.heap.size w w') (ht : Texts w'.heap.size w' v (parts s.data.toList)) => refGo_any t hfit htl 40 (parts s.data.toList) 1 last 0 (.slice Au t.L.length cu) v w' rfl (by omega) ((HU.out.below hb).more hb.size) ht)
      generalize goTo t 1 (parts s.data.toList) last 0 = G at *
      generalize parts s.data.toList = PL at *
      obtain ⟨w1, hw1⟩ : ∃ w1 : World, w.alloc (.cells #[.slice Au t.L.length cu, .int .i64 t.last] 28) = w1 := ⟨_, rfl⟩
      have B1 : Below w.heap.size w w1 := by rw [← hw1]; exact (Below.refl _ _).alloc (Nat.le_refl _) _
      have hs1 : w.heap.size < w1.heap.size := by rw [← hw1]; simp
      have x0 : w1.cell? ⟨w.heap.size, 0, none⟩ = some (.slice Au t.L.length cu) := by rw [← hw1]; simp
      have x1 : w1.cell? ⟨w.heap.size, 1, none⟩ = some (.int .i64 t.last) := by rw [← hw1]; simp
      have HB1 := Lib.hid B1
      clear hpl hl hne HF B1
      go_enter Tryd.func29, Tryd.ntmps29
      go_wp2_with fail
      go_region_held3 (fun w' => w'.cell? ⟨w.heap.size, 0, none⟩ = some (.slice Au t.L.length cu) ∧ w'.cell? ⟨w.heap.size, 1, none⟩ = some (.int .i64 t.last) ∧ Below w1.heap.size w1 w')
        (first | exact box_on hs1 (by assumption) hb4 | exact box_on hs1 (by assumption) hb3 | exact ⟨x0, x1, (Below.refl _ _).drew⟩ | go_keep)
        (first
          | (go_at_call 61; refine (HPT.out _).mono ?_; rintro e w3 ⟨v3, rfl, ho3, hb3⟩; have B3 := on ((Below.refl w1.heap.size w1).drew) hb3; have T3 := Lib.hid (Texts.of_own ho3))
          | (go_at_call 60; refine (HGO.out w3 v3 (on HB1.out B3) T3.out).mono ?_; rintro e w4 ⟨rfl, hb4⟩; have B4 := on B3 hb4))
      all_goals (
        go_wp2_with fail
        go_ret2
        exact ⟨rfl, on HB1.out B4⟩)
    · have hl : 1024 < s.data.toList.length := by rw [← Lib.size_eq]; omega
      have HF : Hid (M08.find t s.data.toList last = (0, 11)) := by
        show _ = _
        unfold M08.find
        rw [if_neg hne, if_pos hl]
      rw [HF.out]
      clear hl hne HF
      go_enter Tryd.func29, Tryd.ntmps29
      go_wp2_with fail
      go_ret2
      exact ⟨rfl, (Below.refl _ _).alloc (Nat.le_refl _) _⟩
  · have hne : s.data.toList = [] := bytes_nil h0
    have e1 := list_none h0
    have e2 := list_nil h0
    have HF : Hid (M08.find t s.data.toList last = (0, 5)) := by
      show _ = _
      unfold M08.find
      rw [if_pos hne]
    rw [HF.out]
    clear hne HF
    go_enter Tryd.func29, Tryd.ntmps29
    go_wp2_with fail
    go_ret2
    exact ⟨rfl, (Below.refl _ _).alloc (Nat.le_refl _) _⟩
end Go.Proofs.YtdnedeeocpaolaaDoor.W08
/-
  Layer 4 (path), walks: the plain answers text, Clean, Join, Dir and Base: what each returns at texts of at most 2^40 bytes; new memory may be laid, nothing that was there is changed.
-/
namespace Go.Proofs.YtdnedeeocpaolaaDoor.W04
open Go Go.RowKit Go.Proofs.YtdnedeeocpaolaaDoor.Strs Go.Proofs.YtdnedeeocpaolaaDoor.M04
open Go.Proofs.YtdnedeeocpaolaaDoor.Kit (ret_str mk_of mk_bytes ba_ext cat_bytes list_full list_ne list_none list_nil bytes_nil bytes_cons byte_eq byte_ne below_draws on)

theorem flat_next {L : List Bytes} {k : Nat} (hk : k < L.length) : (L.take (k + 1)).flatMap (fun p => 47 :: p) = (L.take k).flatMap (fun p => 47 :: p) ++ 47 :: L.getD k [] := by
  rw [List.take_succ_eq_append_getElem hk, List.flatMap_append]
  simp [hk]
theorem flat_all {L : List Bytes} {k : Nat} (hk : ¬ k < L.length) : (L.take k).flatMap (fun p => 47 :: p) = L.flatMap (fun p => 47 :: p) := by rw [List.take_of_length_le (by omega)]
theorem flat_bound (L : List Bytes) (k : Nat) : ((L.take k).flatMap (fun p => 47 :: p)).length ≤ total L := by
  rw [flat_total]
  conv => rhs; rw [← List.take_append_drop k L, total_append]
  omega
theorem part_bound {L : List Bytes} {k : Nat} (hk : k < L.length) : (L.getD k []).length ≤ total L := by
  induction L generalizing k with
  | nil => simp at hk
  | cons p L ih =>
    rw [total_cons]
    cases k with
    | zero => simp; omega
    | succ k =>
      have := ih (k := k) (by simpa using hk)
      simp at this ⊢; omega
theorem text_full {L : List Bytes} (h : L ≠ []) : text L = L.flatMap (fun p => 47 :: p) := by unfold text; rw [if_neg h]
theorem flat_none {L : List Bytes} (h : ¬ 0 < L.length) : L = [] := List.length_eq_zero_iff.1 (by omega)
theorem flat_some {L : List Bytes} (h : 0 < (L.flatMap (fun p => 47 :: p)).length) : L ≠ [] := by rintro rfl; simp at h

/-! ### Clean -/
theorem fold_next {L : List Bytes} {k : Nat} (hk : k < L.length) : (L.take (k + 1)).foldl cstep [] = cstep ((L.take k).foldl cstep []) (L.getD k []) := by
  rw [List.take_succ_eq_append_getElem hk, List.foldl_append]
  simp [hk]
theorem fold_all {L : List Bytes} {k : Nat} (hk : ¬ k < L.length) : (L.take k).foldl cstep [] = cparts L := by rw [List.take_of_length_le (by omega)]; rfl
theorem fold_count : ∀ (L out : List Bytes), (L.foldl cstep out).length ≤ out.length + L.length
  | [], out => by simp
  | p :: L, out => by
    have h := fold_count L (cstep out p)
    have h2 : (cstep out p).length ≤ out.length + 1 := by unfold cstep; split <;> simp; omega
    rw [List.foldl_cons, List.length_cons]; omega
theorem clean_total (L : List Bytes) : total (cparts L) ≤ total L := by
  have := fold_total L []
  have e : total [] = 0 := rfl
  unfold cparts; omega
theorem take_drop_map {out : List Bytes} {n : Nat} (h : out.length = n + 1) : (out.map strV).take n = out.dropLast.map strV := by
  rw [List.dropLast_eq_take, h, List.map_take]; rfl

end Go.Proofs.YtdnedeeocpaolaaDoor.W04
/-
  Layer 4 (path), walks: the plain answers Join, Dir, Base and Is: what each returns at texts of at most 2^40 bytes; new memory may be laid, nothing that was there is changed.
-/
namespace Go.Proofs.YtdnedeeocpaolaaDoor.W04
open Go Go.RowKit Go.Proofs.YtdnedeeocpaolaaDoor.Strs Go.Proofs.YtdnedeeocpaolaaDoor.M04
open Go.Proofs.YtdnedeeocpaolaaDoor.M03 (check)
open Go.Proofs.YtdnedeeocpaolaaDoor.Kit (ret_str ret_bool mk_of mk_bytes ba_ext cat_bytes list_full list_ne list_none list_nil bytes_nil bytes_cons byte_eq byte_ne below_draws on)

theorem clean_size {s d : ByteArray} (hd : d.data.toList = clean s.data.toList) : d.size ≤ s.size + 2 := by
  rw [Lib.size_eq, hd, Lib.size_eq]; exact clean_len _
theorem join_rooted {dir s : ByteArray} (h0 : 0 < s.size) (h : s[0] = 47) : join dir.data.toList s.data.toList = clean s.data.toList := by
  unfold join; rw [if_pos]; rw [bytes_cons h0, h]; rfl
theorem join_from {dir s : ByteArray} (h : ∀ h0 : 0 < s.size, ¬ s[0] = 47) : join dir.data.toList s.data.toList = clean (dir ++ ⟨#[47]⟩ ++ s).data.toList := by
  unfold join
  rw [if_neg, cat_bytes, cat_bytes, List.append_assoc]
  · rfl
  · intro e
    by_cases h0 : 0 < s.size
    · rw [bytes_cons h0] at e
      exact h h0 (by simpa using e)
    · rw [bytes_nil h0] at e; simp at e


end Go.Proofs.YtdnedeeocpaolaaDoor.W04
/-
  Layer 4 (path), walks: the plain answers Is and Under: what each returns at texts of at most 2^40 bytes; new memory may be laid, nothing that was there is changed.
-/
namespace Go.Proofs.YtdnedeeocpaolaaDoor.W04
open Go Go.RowKit Go.Proofs.YtdnedeeocpaolaaDoor.Strs Go.Proofs.YtdnedeeocpaolaaDoor.M04
open Go.Proofs.YtdnedeeocpaolaaDoor.M03 (check)
open Go.Proofs.YtdnedeeocpaolaaDoor.Kit (ret_str ret_bool mk_of mk_bytes ba_ext cat_bytes list_full list_ne list_none list_nil bytes_nil bytes_cons byte_eq byte_ne below_draws on)

theorem ne_bytes {a b : ByteArray} (h : ¬ a.data.toList = b.data.toList) : (a.toList == b.toList) = false := by
  rw [Lib.toList_data, Lib.toList_data]; simpa using h
theorem eq_bytes {a b : ByteArray} (h : a.data.toList = b.data.toList) : (a.toList == b.toList) = true := by
  rw [Lib.toList_data, Lib.toList_data]; simpa using h
theorem is_text {l : Bytes} (h : ¬ l = text (parts l)) : isPath l = false := by simp [isPath, h]
theorem is_long {l : Bytes} (h : 1024 < l.length) : isPath l = false := by
  have : ¬ l.length ≤ 1024 := by omega
  simp [isPath, this]
theorem is_all {l : Bytes} (h : l = text (parts l)) (h2 : l.length ≤ 1024) : isPath l = (parts l).all (fun p => decide (check p = 0)) := by
  unfold isPath; rw [decide_eq_true h, decide_eq_true h2]; rfl
theorem all_next {L : List Bytes} {k : Nat} (hk : k < L.length) (h : (L.take k).all (fun p => decide (check p = 0)) = true) (hc : check (L.getD k []) = 0) : (L.take (k + 1)).all (fun p => decide (check p = 0)) = true := by
  rw [List.take_succ_eq_append_getElem hk, List.all_append, h]
  have e : L[k] = L.getD k [] := by simp [hk]
  rw [e]
  simp only [List.all_cons, List.all_nil, Bool.and_true, Bool.true_and, decide_eq_true_eq]
  exact hc
theorem all_not {L : List Bytes} {k : Nat} (hk : k < L.length) (hc : ¬ check (L.getD k []) = 0) : L.all (fun p => decide (check p = 0)) = false := by
  rw [List.all_eq_false]
  refine ⟨L.getD k [], ?_, by simpa using hc⟩
  have e : L.getD k [] = L[k] := by simp [hk]
  rw [e]; exact List.getElem_mem hk


/-! ### Under -/
theorem under_not {s d : Bytes} (h : isUnder s d = false) : under s d = ([], false) := by unfold under; rw [h]; rfl
theorem under_first {s d : Bytes} (h : ¬ clean s = s) : under s d = ([], false) := under_not (by simp [isUnder, h])
theorem under_second {s d : Bytes} (h : ¬ clean d = d) : under s d = ([], false) := under_not (by simp [isUnder, h])
theorem under_short {s d : Bytes} (h : (parts s).length < (parts d).length) : under s d = ([], false) := under_not (by
  have : (parts d).isPrefixOf (parts s) = false := by
    rw [Bool.eq_false_iff]
    intro e
    have := (List.isPrefixOf_iff_prefix.1 e).length_le
    omega
  simp [isUnder, this])
theorem under_differ {s d : Bytes} {k : Nat} (h : k < (parts d).length) (h2 : ¬ (parts s).getD k [] = (parts d).getD k []) : under s d = ([], false) := under_not (by
  have : (parts d).isPrefixOf (parts s) = false := by
    rw [Bool.eq_false_iff]
    intro e
    obtain ⟨t, ht⟩ := List.isPrefixOf_iff_prefix.1 e
    apply h2
    rw [← ht, List.getD_eq_getElem?_getD, List.getElem?_append_left h, ← List.getD_eq_getElem?_getD]
  simp [isUnder, this])
theorem prefix_of {a b : List Bytes} (hl : b.length ≤ a.length) (h : ∀ j, j < b.length → a.getD j [] = b.getD j []) : b.isPrefixOf a = true := by
  rw [List.isPrefixOf_iff_prefix, List.prefix_iff_eq_take]
  apply List.ext_getElem (by rw [List.length_take]; omega)
  intro i h1 h2
  have := h i h1
  have h3 : i < a.length := by omega
  rw [List.getElem_take]
  simpa [List.getD_eq_getElem?_getD, h1, h3] using this.symm
theorem under_yes {s d : Bytes} (hs : clean s = s) (hd : clean d = d) (hl : ¬ (parts s).length < (parts d).length) (h : ∀ j, j < (parts d).length → (parts s).getD j [] = (parts d).getD j []) : under s d = (slashed ((parts s).drop (parts d).length), true) := by
  unfold under
  rw [if_pos]
  simp [isUnder, hs, hd, prefix_of (by omega) h]
theorem slashed_snoc (L : List Bytes) (x : Bytes) (h : L ≠ []) : slashed (L ++ [x]) = slashed L ++ 47 :: x := by
  induction L with
  | nil => exact absurd rfl h
  | cons a L ih =>
    cases L with
    | nil => rfl
    | cons b r =>
      have := ih (by simp)
      show a ++ 47 :: slashed (b :: r ++ [x]) = (a ++ 47 :: slashed (b :: r)) ++ 47 :: x
      rw [this]; simp
theorem slashed_len : ∀ L : List Bytes, (slashed L).length ≤ total L
  | [] => by simp [slashed]
  | [p] => by simp [slashed, total]
  | p :: q :: r => by
    have := slashed_len (q :: r)
    show (p ++ 47 :: slashed (q :: r)).length ≤ _
    rw [total_cons, List.length_append, List.length_cons]; omega
theorem drop_total (L : List Bytes) (n k : Nat) : total ((L.drop n).take k) ≤ total L := by
  have h1 : total L = total (L.take n) + total (L.drop n) := by rw [← total_append, List.take_append_drop]
  have h2 : total (L.drop n) = total ((L.drop n).take k) + total ((L.drop n).drop k) := by rw [← total_append, List.take_append_drop]
  omega
/-- what has been put together when k parts are gone through -/
def sofar (a : List Bytes) (n k : Nat) : Bytes := slashed ((a.drop n).take (k - n))
theorem sofar_below {a : List Bytes} {n k : Nat} (h : k < n) : sofar a n (k + 1) = sofar a n k := by
  unfold sofar; rw [show k + 1 - n = 0 by omega, show k - n = 0 by omega]
theorem sofar_first {a : List Bytes} {n : Nat} (h : n < a.length) : sofar a n (n + 1) = a.getD n [] := by
  unfold sofar
  rw [show n + 1 - n = 1 by omega, List.drop_eq_getElem_cons h, List.take_succ_cons, List.take_zero]
  show a[n] = _
  simp [h]
theorem sofar_more {a : List Bytes} {n k : Nat} (h : n < k) (hk : k < a.length) : sofar a n (k + 1) = sofar a n k ++ 47 :: a.getD k [] := by
  unfold sofar
  have h1 : k - n < (a.drop n).length := by rw [List.length_drop]; omega
  rw [show k + 1 - n = k - n + 1 by omega, List.take_succ_eq_append_getElem h1, slashed_snoc]
  · rw [List.getElem_drop]
    have : n + (k - n) = k := by omega
    simp [this, hk]
  · intro e
    have := congrArg List.length e
    rw [List.length_take, List.length_nil] at this
    omega
theorem sofar_start (a : List Bytes) (n : Nat) : sofar a n n = [] := by unfold sofar; rw [Nat.sub_self]; rfl
theorem sofar_zero (a : List Bytes) (n : Nat) : sofar a n 0 = [] := by unfold sofar; rw [Nat.zero_sub]; rfl
theorem sofar_end {a : List Bytes} {n k : Nat} (h : ¬ k < a.length) : sofar a n k = slashed (a.drop n) := by
  unfold sofar; rw [List.take_of_length_le (by rw [List.length_drop]; omega)]
theorem sofar_len (a : List Bytes) (n k : Nat) : (sofar a n k).length ≤ total a := Nat.le_trans (slashed_len _) (drop_total a n _)
theorem ret_under {a b : ByteArray} {c d : Bool} (h : a = b) (h2 : c = d) : Ending.returned (.tuple #[.string a, .bool c]) = .returned (.tuple #[.string b, .bool d]) := by rw [h, h2]

end Go.Proofs.YtdnedeeocpaolaaDoor.W04
/-
  Layer 8 (seek), walks: the plain answers Real and Straight; new memory may be laid, nothing that was there is changed. The conditions stand in the statements.
-/
namespace Go.Proofs.YtdnedeeocpaolaaDoor.W08
open Go Go.RowKit Go.Proofs.YtdnedeeocpaolaaDoor.Strs Go.Proofs.YtdnedeeocpaolaaDoor.Recs
open Go.Proofs.YtdnedeeocpaolaaDoor.M07 (Tr nodeAt inDir Right upOf upN height at_some)
open Go.Proofs.YtdnedeeocpaolaaDoor.M08 Go.Proofs.YtdnedeeocpaolaaDoor.M04
open Go.Proofs.YtdnedeeocpaolaaDoor.W07 (Nodes nodeV NodeBox set_heap set_size heap_top)
open Go.Proofs.YtdnedeeocpaolaaDoor.M03 (check)
open Go.Proofs.YtdnedeeocpaolaaDoor.Kit (ret_str ret_bool ret_int mk_of mk_bytes ba_ext below_draws on list_full list_ne list_none list_nil bytes_nil bytes_ne cat_bytes)

/-- a plain tree's box -/
def RefBox (w : World) (k : Nat) (v : Value) (last : Int) : Prop := w.heap[k]? = some (.cells #[v, .int .i64 last] 28 (0, 0))
section
variable {w w' : World} {k : Nat} {v : Value} {last : Int}
theorem RefBox.lt (h : RefBox w k v last) : k < w.heap.size := (Array.getElem?_eq_some_iff.1 h).1
theorem RefBox.below (h : RefBox w k v last) (hb : Below w.heap.size w w') : RefBox w' k v last := (hb.block _ h.lt).trans h
theorem RefBox.new (w : World) (v : Value) (last : Int) : RefBox (w.alloc (.cells #[v, .int .i64 last] 28)) w.heap.size v last := heap_top _ _
theorem RefBox.c0 (h : RefBox w k v last) : w.cell? ⟨k, 0, none⟩ = some v := cell_of_row w _ 0 _ _ (0, 0) h
theorem RefBox.fr (h : RefBox w k v last) (j : Nat) : w.frozen? ⟨k, j, none⟩ = false := frozen_of_row w _ j _ _ h
theorem RefBox.c1 (h : RefBox w k v last) : w.cell? ⟨k, 1, none⟩ = some (.int .i64 last) := cell_of_row w _ 1 _ _ (0, 0) h
end
/-- the number of the node in a box -/
def numAt (w : World) (p : Nat) : Int := match w.cell? ⟨p, 0, none⟩ with | some (.int _ q) => q | _ => 0
theorem num_at {w : World} {p : Nat} {x : M07.Nd} (h : NodeBox w p x) : numAt w p = x.num := by unfold numAt; rw [h.c0]
/-- a node stored over another one -/
def overNode (w : World) (p : Nat) (x : M07.Nd) : World := ((((w.setCell ⟨p, 0, none⟩ (.int .i64 x.num)).setCell ⟨p, 1, none⟩ (.int .i64 x.up)).setCell ⟨p, 2, none⟩ (.string ⟨x.name.toArray⟩)).setCell ⟨p, 3, none⟩ (.int .i64 x.kind)).setCell ⟨p, 4, none⟩ (.string ⟨x.data.toArray⟩)
theorem over_box {w : World} {p : Nat} {x y : M07.Nd} (h : NodeBox w p x) : NodeBox (overNode w p y) p y :=
  set_heap (set_heap (set_heap (set_heap (set_heap h 0 (.int .i64 y.num)) 1 (.int .i64 y.up)) 2 (.string ⟨y.name.toArray⟩)) 3 (.int .i64 y.kind)) 4 (.string ⟨y.data.toArray⟩)
theorem over_other {w : World} {p k : Nat} {y : M07.Nd} (h : k ≠ p) : (overNode w p y).heap[k]? = w.heap[k]? := by
  unfold overNode
  rw [Below.heap_setCell _ _ _ _ (by exact h), Below.heap_setCell _ _ _ _ (by exact h), Below.heap_setCell _ _ _ _ (by exact h), Below.heap_setCell _ _ _ _ (by exact h), Below.heap_setCell _ _ _ _ (by exact h)]
theorem over_below {a w : World} {B p : Nat} {y : M07.Nd} (h : Below B a w) (hp : B ≤ p) : Below B a (overNode w p y) := ((((h.setCell (p := ⟨p, 0, none⟩) hp _).setCell (p := ⟨p, 1, none⟩) hp _).setCell (p := ⟨p, 2, none⟩) hp _).setCell (p := ⟨p, 3, none⟩) hp _).setCell (p := ⟨p, 4, none⟩) hp _
theorem over_size (w : World) (p : Nat) (y : M07.Nd) : (overNode w p y).heap.size = w.heap.size := by unfold overNode; rw [set_size, set_size, set_size, set_size, set_size]
theorem ret_real {a : ByteArray} {b : Bool} {r : Bytes × Bool} (h : r = (a.data.toList, b)) : Ending.returned (.tuple #[.string a, .bool b]) = .returned (.tuple #[.string ⟨r.1.toArray⟩, .bool r.2]) := by
  rw [h]
theorem at_num {t : Tr} {k : Int} (h : (nodeAt t.L k).kind ≠ 0) : (nodeAt t.L k).num = k := (at_some h).2
theorem texts_flat {B : Nat} {w : World} {A : Option Addr} {n c k : Nat} {L : List Bytes} (h : Texts B w (.slice A n c) L) (hk : k < n) : ∃ (b o : Nat) (q : ByteArray), A = some ⟨b, o, none⟩ ∧ b < B ∧ w.cell? ⟨b, o + k, none⟩ = some (.string q) ∧ q.data.toList = L.getD k [] := by
  obtain ⟨ad, q, rfl, hb, hc, hq⟩ := h.at_ hk
  obtain ⟨ad0, q0, e, -, hc0, -⟩ := h.at_ (k := 0) (by omega)
  cases e
  obtain ⟨b, o, sp⟩ := ad
  have hsp : sp = none := by simpa [Addr.add] using World.cell?_spot hc0
  subst hsp
  rw [Addr.add_lit] at hc
  exact ⟨b, o, q, rfl, hb, hc, hq⟩
theorem box3_below {w1 w' : World} {p q i : Nat} {y0 y1 y2 : Value} (hS : w'.cell? ⟨p, 0, none⟩ = some y0 ∧ w'.cell? ⟨p, 1, none⟩ = some y1 ∧ w'.cell? ⟨q, i, none⟩ = some y2 ∧ Below w1.heap.size w1 w') : Below w1.heap.size w1 w' := hS.2.2.2
end Go.Proofs.YtdnedeeocpaolaaDoor.W08
/-
  Layer 8 (seek), walks: the plain answers Spot, Real and Straight; new memory may be laid, nothing that was there is changed. The conditions stand in the statements.
-/
namespace Go.Proofs.YtdnedeeocpaolaaDoor.W08
open Go Go.RowKit Go.Proofs.YtdnedeeocpaolaaDoor.Strs Go.Proofs.YtdnedeeocpaolaaDoor.Recs
open Go.Proofs.YtdnedeeocpaolaaDoor.M07 (Tr nodeAt inDir Right)
open Go.Proofs.YtdnedeeocpaolaaDoor.M08 Go.Proofs.YtdnedeeocpaolaaDoor.M04
open Go.Proofs.YtdnedeeocpaolaaDoor.W07 (Nodes nodeV)
open Go.Proofs.YtdnedeeocpaolaaDoor.M03 (check)
open Go.Proofs.YtdnedeeocpaolaaDoor.Kit (ret_str ret_bool ret_int mk_of mk_bytes ba_ext below_draws on list_full list_ne list_none list_nil bytes_nil bytes_ne)

theorem ret_spot {a : Int} {b : ByteArray} {c : Int} {r : Int × Bytes × Int} (h : r = (a, b.data.toList, c)) : Ending.returned (.tuple #[.int .i64 a, .string b, .int .i64 c]) = .returned (.tuple #[.int .i64 r.1, .string ⟨r.2.1.toArray⟩, .int .i64 r.2.2]) := by
  rw [h]
theorem drop_len {P : List Bytes} {m : Nat} (h : P.length = m + 1) : P.dropLast.length = m := by rw [List.length_dropLast, h]; rfl
end Go.Proofs.YtdnedeeocpaolaaDoor.W08
/-
  Layer 7 (tree), a walk of the law's Same: a tree of the program's that reads as a right tree t, held against the plain answer's t: true; nothing that was there is changed.
-/
namespace Go.Proofs.YtdnedeeocpaolaaDoor.W07
open Go Go.RowKit Go.Proofs.YtdnedeeocpaolaaDoor.Strs Go.Proofs.YtdnedeeocpaolaaDoor.Recs Go.Proofs.YtdnedeeocpaolaaDoor.M07 Go.Proofs.YtdnedeeocpaolaaDoor.Range
open Go.Proofs.YtdnedeeocpaolaaDoor.M06 (Ent)
open Go.Proofs.YtdnedeeocpaolaaDoor.W06 (Ents HandsE)
open Go.Proofs.YtdnedeeocpaolaaDoor.Kit (ret_str ret_bool ret_int mk_of mk_bytes ba_ext below_draws on)

/-- what is held of a node's box over calls that lay new memory alone -/
def HoldsNode (w6 : World) (p : Nat) (x : Nd) (w' : World) : Prop := w'.cell? ⟨p, 1, none⟩ = some (.int .i64 x.up) ∧ w'.cell? ⟨p, 3, none⟩ = some (.int .i64 x.kind) ∧ w'.cell? ⟨p, 4, none⟩ = some (.string ⟨x.data.toArray⟩) ∧ Below w6.heap.size w6 w'
theorem holds_on {w6 w' w'' : World} {p : Nat} {x : Nd} (hp : p < w6.heap.size) (h : w'.cell? ⟨p, 1, none⟩ = some (.int .i64 x.up) ∧ w'.cell? ⟨p, 3, none⟩ = some (.int .i64 x.kind) ∧ w'.cell? ⟨p, 4, none⟩ = some (.string ⟨x.data.toArray⟩) ∧ Below w6.heap.size w6 w') (hb : Below w'.heap.size w' w'') :
    w''.cell? ⟨p, 1, none⟩ = some (.int .i64 x.up) ∧ w''.cell? ⟨p, 3, none⟩ = some (.int .i64 x.kind) ∧ w''.cell? ⟨p, 4, none⟩ = some (.string ⟨x.data.toArray⟩) ∧ Below w6.heap.size w6 w'' := by
  obtain ⟨h1, h2, h3, h4⟩ := h
  have hlt : p < w'.heap.size := Nat.lt_of_lt_of_le hp h4.size
  exact ⟨(hb.cell hlt).trans h1, (hb.cell hlt).trans h2, (hb.cell hlt).trans h3, on h4 hb⟩
theorem holds_below {w6 w' : World} {p : Nat} {x : Nd} (h : w'.cell? ⟨p, 1, none⟩ = some (.int .i64 x.up) ∧ w'.cell? ⟨p, 3, none⟩ = some (.int .i64 x.kind) ∧ w'.cell? ⟨p, 4, none⟩ = some (.string ⟨x.data.toArray⟩) ∧ Below w6.heap.size w6 w') : Below w6.heap.size w6 w' := h.2.2.2

end Go.Proofs.YtdnedeeocpaolaaDoor.W07
/-
  Layer 7 (tree), a walk of the law's do: an act done to a tree of the program's, and to the plain answer's tree, comes to the same; nothing that was there is changed but the tree's own blocks.
-/
namespace Go.Proofs.YtdnedeeocpaolaaDoor.W07
open Go Go.RowKit Go.Proofs.YtdnedeeocpaolaaDoor.Strs Go.Proofs.YtdnedeeocpaolaaDoor.Recs Go.Proofs.YtdnedeeocpaolaaDoor.M07 Go.Proofs.YtdnedeeocpaolaaDoor.Range
open Go.Proofs.YtdnedeeocpaolaaDoor.M06 (Ent)
open Go.Proofs.YtdnedeeocpaolaaDoor.Kit (ret_str ret_bool ret_int mk_of mk_bytes ba_ext below_draws on)

/-- a slice's own block is none of F -/
def Off (F : Nat → Prop) (u : Value) : Prop := ∀ b o n c, u = .slice (some ⟨b, o, none⟩) n c → ¬ F b
theorem nodes_turns {F : Nat → Prop} {B : Nat} {w w' : World} {v : Value} {L : List Nd} (h : Nodes B w v L) (ht : Turns F w w') (hoff : Off F v) : Nodes B w' v L := by
  by_cases h0 : 0 < L.length
  · obtain ⟨A, c, rfl, h1, h2⟩ := h.form
    obtain ⟨b, o, _, rfl, hb, hc0, _⟩ := Nodes.at_ h h0
    have hlt := World.block_lt_of_cell? w _ hc0
    exact Recs.other h fun p hp => World.cell?_of_block (ht.block _ (by rw [hp]; exact hlt) (by rw [hp]; exact hoff _ _ _ _ rfl))
  · have e : L = [] := List.length_eq_zero_iff.1 (by omega)
    subst e
    obtain ⟨A, c, rfl, h1, h2, h3⟩ := h
    exact ⟨A, c, rfl, h1, h2, fun h => absurd h (by simp)⟩
theorem off_same {F F' : Nat → Prop} {v : Value} {L : List Nd} {n0 : Nat} {w : World} (hn : Nodes n0 w v L) (h0 : 0 < L.length) (hv : Off F v) (hF : ∀ k, F' k → F k ∨ n0 ≤ k) : Off F' v := by
  obtain ⟨A, c, rfl, h1, h2⟩ := hn.form
  obtain ⟨b, o, _, rfl, hb, _⟩ := Nodes.at_ hn h0
  intro b' o' n' c' e hk
  cases e
  rcases hF _ hk with h | h
  · exact hv _ _ _ _ rfl h
  · omega
theorem off_from {F : Nat → Prop} {v u : Value} {S : Nat} (hv : Off F v) (hS : ∀ k, F k → k < S) (hf : FromOr v S u) : Off F u := by
  rcases hf with rfl | rfl | ⟨g, n, c, rfl, hg⟩
  · exact hv
  · intro b o n c e; cases e
  · intro b o n' c' e hk
    cases e
    have := hS _ hk
    omega
noncomputable def doAct (t : Tr) (act dir dst : Int) (name as' : Bytes) (kind : Int) (data : Bytes) : Tr :=
  if act = 0 then (put t dir name kind data).1 else if act = 1 then (set t dir data).1 else if act = 2 then (cut t dir name).1 else if act = 3 then (M07.move t dir name dst as').1 else t
/-- a box of a plain tree -/
def TreeBox (w : World) (p : Nat) (v : Value) (last : Int) : Prop := w.heap[p]? = some (.cells #[v, .int .i64 last] 28 (0, 0))
section
variable {w w' : World} {p : Nat} {v : Value} {last act dir dst kind : Int} {nm al dt : ByteArray}
theorem TreeBox.lt (h : TreeBox w p v last) : p < w.heap.size := (Array.getElem?_eq_some_iff.1 h).1
theorem TreeBox.below (h : TreeBox w p v last) (hb : Below w.heap.size w w') : TreeBox w' p v last := (hb.block _ h.lt).trans h
theorem TreeBox.turns {F : Nat → Prop} (h : TreeBox w p v last) (ht : Turns F w w') (hp : ¬ F p) : TreeBox w' p v last := ht.keeps h hp
theorem TreeBox.c0 (h : TreeBox w p v last) : w.cell? ⟨p, 0, none⟩ = some v := cell_of_row w _ 0 _ _ (0, 0) h
theorem TreeBox.c1 (h : TreeBox w p v last) : w.cell? ⟨p, 1, none⟩ = some (.int .i64 last) := cell_of_row w _ 1 _ _ (0, 0) h
theorem TreeBox.fr (h : TreeBox w p v last) (j : Nat) : w.frozen? ⟨p, j, none⟩ = false := frozen_of_row w _ j _ _ h
end
/-- what do comes to -/
def Did (Rep : (Nat → Prop) → World → Value → Tr → Prop) (F : Nat → Prop) (pv : Value) (t' : Tr) (w : World) (e : Ending) (w' : World) : Prop :=
  ∃ u F', e = .returned (.tuple #[.agg #[u, .int .i64 t'.last], .bool true]) ∧ Nodes w'.heap.size w' u t'.L ∧ Rep F' w' pv t' ∧ Off F' u ∧ Turns F w w' ∧ ∀ k, F' k → F k ∨ w.heap.size ≤ k
theorem turns_box (w : World) (q : Nat) (a b : Value) : Turns (fun k => k = q) w ((w.setCell ⟨q, 0, none⟩ a).setCell ⟨q, 1, none⟩ b) :=
  (Turns.setCell (T := fun k => k = q) (a := ⟨q, 0, none⟩) a rfl).trans (Turns.setCell (T := fun k => k = q) (a := ⟨q, 1, none⟩) b rfl)
theorem turns_old {F : Nat → Prop} {A B : World} (h : Turns (fun k => F k ∨ A.heap.size ≤ k) A B) : Turns F A B := ⟨h.os, h.tape, h.output, h.size, fun k hk hf => h.block k hk (fun e => by rcases e with e | e; exact hf e; omega)⟩
theorem did_done {Rep : (Nat → Prop) → World → Value → Tr → Prop} (C : Trees Rep) {F F' : Nat → Prop} {w wi wf : World} {pv u : Value} {t' : Tr} {q : Nat} {e : Ending}
    (he : e = .returned (.tuple #[.agg #[u, .int .i64 t'.last], .bool true])) (Hi : Rep F' wi pv t') (hF : ∀ k, F' k → F k ∨ w.heap.size ≤ k) (hq : ¬ F' q) (hqw : w.heap.size ≤ q)
    (t1 : Turns (fun k => F k ∨ w.heap.size ≤ k) w wi) (tf : Turns (fun k => k = q) wi wf) (hn : Nodes wf.heap.size wf u t'.L) (ho : Off F' u) : Did Rep F pv t' w e wf :=
  ⟨u, F', he, hn, C.keep Hi (fun k hk => tf.block k (C.low Hi k hk) (fun e => hq (by rw [← e]; exact hk))) tf.size, ho, turns_old (t1.trans (tf.wider fun k hk => Or.inr (by omega))), hF⟩
theorem results_cell_one_tmp {fn : Func} {p t : Tmp} {ty : TypeId} (h : fn.results = #[.cell p ty, .tmp t]) (tmps : Array Value) (P : Program) (w : World) :
    (results fn tmps).run P w = ((asAddr (tmps.getD p undef)).run P w).andThen fun a w₁ => ((loadVar ty a).run P w₁).andThen fun v w₂ => .ok (.tuple #[v, tmps.getD t undef]) w₂ := by
  simp only [results, h]
  simp [Sem.run_bind, Result.andThen]
end Go.Proofs.YtdnedeeocpaolaaDoor.W07
