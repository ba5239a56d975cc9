/-
  Texts joined, in build order, each with its own comment and its own conditions: W08Find, W04Clean, W04Join, W04Under, W08Ways, W08Spot, W07Same, W07Do, W09Ref.
-/
import Derived.Test.YtmbpgjncioegdaaGreatDoorJ08
import Derived.Test.YtmbpgjncioegdaaGreatDoorJ07
import Derived.Test.YtmbpgjncioegdaaGreatDoorJ02
import Derived.Deep.QuietTactic
import Derived.Test.YtmbpgjncioegdaaGreatDoorJ06
import Derived.Test.YtmbpgjncioegdaaGreatDoorJ05
import Derived.Deep.RegionHeld3
import Derived.Test.YtmbpgjncioegdaaGreatDoorJ03
/-
  Layer 8 (seek), walks: the plain answer's Go at every list of parts, and Find; new memory may be laid, nothing that was there is changed. The conditions stand in the statements.
-/
namespace Go.Proofs.YtmbpgjncioegdaaGreatDoor.W08
set_option maxRecDepth 100000
open Go Go.RowKit Go.Proofs.YtmbpgjncioegdaaGreatDoor.Strs Go.Proofs.YtmbpgjncioegdaaGreatDoor.Recs
open Go.Proofs.YtmbpgjncioegdaaGreatDoor.M07 (Tr nodeAt inDir)
open Go.Proofs.YtmbpgjncioegdaaGreatDoor.M08 Go.Proofs.YtmbpgjncioegdaaGreatDoor.M04
open Go.Proofs.YtmbpgjncioegdaaGreatDoor.W07 (Nodes nodeV)
open Go.Proofs.YtmbpgjncioegdaaGreatDoor.M03 (check)
open Go.Proofs.YtmbpgjncioegdaaGreatDoor.Kit (ret_str ret_bool ret_int mk_of mk_bytes ba_ext below_draws on list_full list_ne list_none list_nil bytes_nil bytes_ne)

theorem refGo_any (t : Tr) (hfit : Fit t) (htl : t.L.length ≤ 1048576) : ∀ (k : Nat) (l : List Bytes), GoesTo t k l := by
  intro k
  induction k using Nat.strongRecOn with
  | ind k ih =>
    intro l
    induction l with
    | nil => exact go_step t hfit htl k [] (fun k' l' h => ih k' h l') (fun p r h => by cases h)
    | cons p r ihl => exact go_step t hfit htl k (p :: r) (fun k' l' h => ih k' h l') (fun p' r' h => by cases h; exact ihl)
theorem refFind_any (t : Tr) (hfit : Fit t) (htl : t.L.length ≤ 1048576) (u : Value) (s : ByteArray) (last : Bool) (w : World) (hu : Nodes w.heap.size w u t.L) :
    Calls Tryz.prog 76 #[.agg #[u, .int .i64 t.last], .string s, .bool last] w fun e w' => e = .returned (.tuple #[.int .i64 (M08.find t s.data.toList last).1, .int .i64 (M08.find t s.data.toList last).2]) ∧ Below w.heap.size w w' := by
  obtain ⟨Au, cu, rfl, hu1, hu2⟩ := hu.form
  have HU := Lib.hid hu
  clear hu
  by_cases h0 : 0 < s.size
  · have hne : ¬ s.data.toList = [] := bytes_ne h0
    have e1 := list_full h0
    have e2 := list_ne h0
    by_cases h1 : s.size ≤ 1024
    · have hl : ¬ 1024 < s.data.toList.length := by rw [← Lib.size_eq]; omega
      have HF : Hid (M08.find t s.data.toList last = ((goTo t 1 (parts s.data.toList) last 0).1, (goTo t 1 (parts s.data.toList) last 0).2.2)) := by
        show _ = _
        unfold M08.find
        rw [if_neg hne, if_neg hl]
      rw [HF.out]
      have HPT := Lib.hid (fun w' => W04.refParts_any s (by omega) w')
      have hpl := parts_len s.data.toList
      rw [← Lib.size_eq] at hpl
      have HGO := Lib.hid (fun (w' : World) (v : Value) (hb : Below w.heap.size w w') (ht : Texts w'.heap.size w' v (parts s.data.toList)) => refGo_any t hfit htl 40 (parts s.data.toList) 1 last 0 (.slice Au t.L.length cu) v w' rfl (by omega) ((HU.out.below hb).more hb.size) ht)
      generalize goTo t 1 (parts s.data.toList) last 0 = G at *
      generalize parts s.data.toList = PL at *
      obtain ⟨w1, hw1⟩ : ∃ w1 : World, w.alloc (.cells #[.slice Au t.L.length cu, .int .i64 t.last] 30) = w1 := ⟨_, rfl⟩
      have B1 : Below w.heap.size w w1 := by rw [← hw1]; exact (Below.refl _ _).alloc (Nat.le_refl _) _
      have hs1 : w.heap.size < w1.heap.size := by rw [← hw1]; simp
      have x0 : w1.cell? ⟨w.heap.size, 0, none⟩ = some (.slice Au t.L.length cu) := by rw [← hw1]; simp
      have x1 : w1.cell? ⟨w.heap.size, 1, none⟩ = some (.int .i64 t.last) := by rw [← hw1]; simp
      have HB1 := Lib.hid B1
      clear hpl hl hne HF B1
      go_enter Tryz.func76, Tryz.ntmps76
      go_wp2_with fail
      go_region_held3 (fun w' => w'.cell? ⟨w.heap.size, 0, none⟩ = some (.slice Au t.L.length cu) ∧ w'.cell? ⟨w.heap.size, 1, none⟩ = some (.int .i64 t.last) ∧ Below w1.heap.size w1 w')
        (first | exact box_on hs1 (by assumption) hb4 | exact box_on hs1 (by assumption) hb3 | exact ⟨x0, x1, (Below.refl _ _).drew⟩ | go_keep)
        (first
          | (go_at_call 98; refine (HPT.out _).mono ?_; rintro e w3 ⟨v3, rfl, ho3, hb3⟩; have B3 := on ((Below.refl w1.heap.size w1).drew) hb3; have T3 := Lib.hid (Texts.of_own ho3))
          | (go_at_call 100; refine (HGO.out w3 v3 (on HB1.out B3) T3.out).mono ?_; rintro e w4 ⟨rfl, hb4⟩; have B4 := on B3 hb4))
      all_goals (
        go_wp2_with fail
        go_ret2
        exact ⟨rfl, on HB1.out B4⟩)
    · have hl : 1024 < s.data.toList.length := by rw [← Lib.size_eq]; omega
      have HF : Hid (M08.find t s.data.toList last = (0, 11)) := by
        show _ = _
        unfold M08.find
        rw [if_neg hne, if_pos hl]
      rw [HF.out]
      clear hl hne HF
      go_enter Tryz.func76, Tryz.ntmps76
      go_wp2_with fail
      go_ret2
      exact ⟨rfl, (Below.refl _ _).alloc (Nat.le_refl _) _⟩
  · have hne : s.data.toList = [] := bytes_nil h0
    have e1 := list_none h0
    have e2 := list_nil h0
    have HF : Hid (M08.find t s.data.toList last = (0, 5)) := by
      show _ = _
      unfold M08.find
      rw [if_pos hne]
    rw [HF.out]
    clear hne HF
    go_enter Tryz.func76, Tryz.ntmps76
    go_wp2_with fail
    go_ret2
    exact ⟨rfl, (Below.refl _ _).alloc (Nat.le_refl _) _⟩
end Go.Proofs.YtmbpgjncioegdaaGreatDoor.W08
/-
  Layer 4 (path), walks: the plain answers text, Clean, Join, Dir and Base: what each returns at texts of at most 2^40 bytes; new memory may be laid, nothing that was there is changed.
-/
namespace Go.Proofs.YtmbpgjncioegdaaGreatDoor.W04
set_option maxRecDepth 100000
open Go Go.RowKit Go.Proofs.YtmbpgjncioegdaaGreatDoor.Strs Go.Proofs.YtmbpgjncioegdaaGreatDoor.M04
open Go.Proofs.YtmbpgjncioegdaaGreatDoor.Kit (ret_str mk_of mk_bytes ba_ext cat_bytes list_full list_ne list_none list_nil bytes_nil bytes_cons byte_eq byte_ne below_draws on)

theorem flat_next {L : List Bytes} {k : Nat} (hk : k < L.length) : (L.take (k + 1)).flatMap (fun p => 47 :: p) = (L.take k).flatMap (fun p => 47 :: p) ++ 47 :: L.getD k [] := by
  rw [List.take_succ_eq_append_getElem hk, List.flatMap_append]
  simp [hk]
theorem flat_all {L : List Bytes} {k : Nat} (hk : ¬ k < L.length) : (L.take k).flatMap (fun p => 47 :: p) = L.flatMap (fun p => 47 :: p) := by rw [List.take_of_length_le (by omega)]
theorem flat_bound (L : List Bytes) (k : Nat) : ((L.take k).flatMap (fun p => 47 :: p)).length ≤ total L := by
  rw [flat_total]
  conv => rhs; rw [← List.take_append_drop k L, total_append]
  omega
theorem part_bound {L : List Bytes} {k : Nat} (hk : k < L.length) : (L.getD k []).length ≤ total L := by
  induction L generalizing k with
  | nil => simp at hk
  | cons p L ih =>
    rw [total_cons]
    cases k with
    | zero => simp; omega
    | succ k =>
      have := ih (k := k) (by simpa using hk)
      simp at this ⊢; omega
theorem text_full {L : List Bytes} (h : L ≠ []) : text L = L.flatMap (fun p => 47 :: p) := by unfold text; rw [if_neg h]
theorem flat_none {L : List Bytes} (h : ¬ 0 < L.length) : L = [] := List.length_eq_zero_iff.1 (by omega)
theorem flat_some {L : List Bytes} (h : 0 < (L.flatMap (fun p => 47 :: p)).length) : L ≠ [] := by rintro rfl; simp at h

set_option maxHeartbeats 400000 in
theorem refText_any (v : Value) (L : List Bytes) (B : Nat) (w : World) (h : Texts B w v L) (hl : total L ≤ 4398046511104) :
    Calls Tryz.prog 99 #[v] w fun e w' => e = .returned (.string ⟨(text L).toArray⟩) ∧ ∃ n, w' = w.drewN n := by
  obtain ⟨A, c, rfl, hA1, hA2⟩ := h.form
  have H := Lib.hid h
  unfold maxLen at hA2
  clear h
  generalize hm : L.length = n at *
  have HM := Lib.hid hm
  clear hm
  go_enter Tryz.func99, Tryz.ntmps99
  go_wp2
  go_loopw [3, 4] (fun d i wr => ∃ (k : Nat) (t : ByteArray), k ≤ n ∧ i = .int .i64 k ∧ d = .string t ∧ Hid (t.data.toList = (L.take k).flatMap (fun p => 47 :: p)) ∧ ∃ q, wr = w.drewN q) (fun _ i _ => n - (intOf i).toNat)
  case atStart => exact ⟨0, ⟨#[]⟩, Nat.zero_le _, rfl, rfl, rfl, 0, rfl⟩
  case round =>
    obtain ⟨k, t, hk, rfl, rfl, ht, q, rfl⟩ := hrel
    have hsz : t.size ≤ 4398046511104 := by rw [Lib.size_eq, ht.out]; exact Nat.le_trans (flat_bound L k) hl
    by_cases hlt : k < n
    · obtain ⟨ad, s, rfl, hbl, hc, hs⟩ := H.out.at_ hlt
      have hss : s.size ≤ 4398046511104 := by rw [Lib.size_eq, hs]; exact Nat.le_trans (part_bound (by rw [HM.out]; exact hlt)) hl
      have HT : Hid ((t ++ (⟨#[47]⟩ ++ s)).data.toList = (L.take (k + 1)).flatMap (fun p => 47 :: p)) := by
        show _ = _
        rw [flat_next (by rw [HM.out]; exact hlt), cat_bytes, cat_bytes, ht.out, hs]; rfl
      clear hs
      go_wp2
      go_roundw
      case rel => exact ⟨k + 1, _, by omega, by go_num, rfl, HT, q, rfl⟩
      case measure => simp [intOf]; omega
    · have HT := Lib.hid (ht.out.trans (flat_all (by rw [HM.out]; exact hlt)))
      by_cases h0 : 0 < t.size
      · have hf := list_full h0
        have hn := list_ne h0
        go_wp2
        go_ret
        refine ⟨ret_str (mk_of ?_).symm, q, rfl⟩
        rw [text_full]
        · exact HT.out
        · exact flat_some (by rw [← HT.out, ← Lib.size_eq]; exact h0)
      · have hf := list_none h0
        have hn := list_nil h0
        go_wp2
        go_ret
        refine ⟨ret_str ?_, q, rfl⟩
        have : L = [] := by
          have e := HT.out
          rw [bytes_nil h0] at e
          cases L with
          | nil => rfl
          | cons p L => simp at e
        rw [this]; rfl

/-! ### Clean -/
theorem take_drop_map {out : List Bytes} {n : Nat} (h : out.length = n + 1) : (out.map strV).take n = out.dropLast.map strV := by
  rw [List.dropLast_eq_take, h, List.map_take]; rfl

end Go.Proofs.YtmbpgjncioegdaaGreatDoor.W04
/-
  Layer 4 (path), walks: the plain answers Join, Dir, Base and Is: what each returns at texts of at most 2^40 bytes; new memory may be laid, nothing that was there is changed.
-/
namespace Go.Proofs.YtmbpgjncioegdaaGreatDoor.W04
open Go Go.RowKit Go.Proofs.YtmbpgjncioegdaaGreatDoor.Strs Go.Proofs.YtmbpgjncioegdaaGreatDoor.M04
open Go.Proofs.YtmbpgjncioegdaaGreatDoor.M03 (check)
open Go.Proofs.YtmbpgjncioegdaaGreatDoor.Kit (ret_str ret_bool mk_of mk_bytes ba_ext cat_bytes list_full list_ne list_none list_nil bytes_nil bytes_cons byte_eq byte_ne below_draws on)

end Go.Proofs.YtmbpgjncioegdaaGreatDoor.W04
/-
  Layer 4 (path), walks: the plain answers Is and Under: what each returns at texts of at most 2^40 bytes; new memory may be laid, nothing that was there is changed.
-/
namespace Go.Proofs.YtmbpgjncioegdaaGreatDoor.W04
set_option maxRecDepth 100000
open Go Go.RowKit Go.Proofs.YtmbpgjncioegdaaGreatDoor.Strs Go.Proofs.YtmbpgjncioegdaaGreatDoor.M04
open Go.Proofs.YtmbpgjncioegdaaGreatDoor.M03 (check)
open Go.Proofs.YtmbpgjncioegdaaGreatDoor.Kit (ret_str ret_bool mk_of mk_bytes ba_ext cat_bytes list_full list_ne list_none list_nil bytes_nil bytes_cons byte_eq byte_ne below_draws on)

theorem ne_bytes {a b : ByteArray} (h : ¬ a.data.toList = b.data.toList) : (a.toList == b.toList) = false := by
  rw [Lib.toList_data, Lib.toList_data]; simpa using h
theorem eq_bytes {a b : ByteArray} (h : a.data.toList = b.data.toList) : (a.toList == b.toList) = true := by
  rw [Lib.toList_data, Lib.toList_data]; simpa using h
theorem is_text {l : Bytes} (h : ¬ l = text (parts l)) : isPath l = false := by simp [isPath, h]
theorem is_long {l : Bytes} (h : 1024 < l.length) : isPath l = false := by
  have : ¬ l.length ≤ 1024 := by omega
  simp [isPath, this]
theorem is_all {l : Bytes} (h : l = text (parts l)) (h2 : l.length ≤ 1024) : isPath l = (parts l).all (fun p => decide (check p = 0)) := by
  unfold isPath; rw [decide_eq_true h, decide_eq_true h2]; rfl
theorem all_next {L : List Bytes} {k : Nat} (hk : k < L.length) (h : (L.take k).all (fun p => decide (check p = 0)) = true) (hc : check (L.getD k []) = 0) : (L.take (k + 1)).all (fun p => decide (check p = 0)) = true := by
  rw [List.take_succ_eq_append_getElem hk, List.all_append, h]
  have e : L[k] = L.getD k [] := by simp [hk]
  rw [e]
  simp only [List.all_cons, List.all_nil, Bool.and_true, Bool.true_and, decide_eq_true_eq]
  exact hc
theorem all_not {L : List Bytes} {k : Nat} (hk : k < L.length) (hc : ¬ check (L.getD k []) = 0) : L.all (fun p => decide (check p = 0)) = false := by
  rw [List.all_eq_false]
  refine ⟨L.getD k [], ?_, by simpa using hc⟩
  have e : L.getD k [] = L[k] := by simp [hk]
  rw [e]; exact List.getElem_mem hk

set_option maxHeartbeats 1000000 in
theorem refIs_any (s : ByteArray) (hs : s.size ≤ 1099511627776) (w : World) :
    Calls Tryz.prog 72 #[.string s] w fun e w' => e = .returned (.bool (isPath s.data.toList)) ∧ Below w.heap.size w w' := by
  obtain ⟨t, ht⟩ : ∃ t : ByteArray, t.data.toList = text (parts s.data.toList) := ⟨⟨(text (parts s.data.toList)).toArray⟩, rfl⟩
  have HP := Lib.hid (refParts_any s hs)
  have HL : Hid (total (parts s.data.toList) ≤ 4398046511104) := by
    show _ ≤ _
    have h2 := parts_total s.data.toList
    rw [← Lib.size_eq] at h2
    omega
  have H1 := Lib.hid (is_text (l := s.data.toList))
  have H2 := Lib.hid (is_long (l := s.data.toList))
  have H3 := Lib.hid (is_all (l := s.data.toList))
  generalize isPath s.data.toList = R at *
  generalize parts s.data.toList = L at *
  have HT := Lib.hid ht
  have HTX := Lib.hid (mk_of ht)
  clear ht
  have HS := Lib.hid (Lib.size_eq s)
  go_enter Tryz.func72, Tryz.ntmps72
  go_wp2_with fail
  refine (HP.out _).mono ?_
  rintro e w1 ⟨v, rfl, hown1, hb1⟩
  have T1 := Lib.hid (Texts.of_own hown1)
  have B1 := Lib.hid hb1
  clear hown1 hb1
  obtain ⟨A, c, rfl, hA1, hA2⟩ := T1.out.form
  unfold maxLen at hA2
  go_wp2_with fail
  refine (refText_any _ L _ _ T1.out HL.out).mono ?_
  rintro e w2 ⟨rfl, q, rfl⟩
  rw [HTX.out]
  by_cases hst : s.data.toList = t.data.toList
  · have hne := eq_bytes hst
    have HST : Hid (s.data.toList = text L) := hst.trans HT.out
    clear hst
    by_cases hlong : (1024 : Int) < s.size
    · go_wp2_with fail
      go_ret
      exact ⟨ret_bool (H2.out (by rw [← HS.out]; omega)).symm, B1.out.trans ((below_draws w1 q).mono B1.out.size)⟩
    · have hsh : (s.size : Int) ≤ 1024 := by omega
      have HA := Lib.hid (H3.out HST.out (by rw [← HS.out]; omega))
      clear hlong
      generalize hm : L.length = n at *
      have HM := Lib.hid hm
      clear hm
      go_wp2_with fail
      go_loopw [4] (fun i wr => ∃ k : Nat, k ≤ n ∧ i = .int .i64 k ∧ Hid ((L.take k).all (fun p => decide (check p = 0)) = true) ∧ wr = w1.drewN q) (fun i _ => n - (intOf i).toNat)
      case atStart => exact ⟨0, Nat.zero_le _, rfl, rfl, rfl⟩
      case round =>
        obtain ⟨k, hk, rfl, hr, rfl⟩ := hrel
        by_cases hlt : k < n
        · obtain ⟨ad, p, rfl, hbl, hc, hp⟩ := T1.out.at_ hlt
          by_cases h0 : check p.data.toList = 0
          · have HX := Lib.hid (all_next (by rw [HM.out]; exact hlt) hr.out (by rw [← hp]; exact h0))
            have HC := Lib.hid (W03.refCheck_any p)
            rw [h0] at HC
            clear h0 hp
            go_wp2_with fail
            refine (HC.out _).mono ?_
            rintro e w3 ⟨rfl, rfl⟩
            go_wp2_with fail
            go_roundw
            case rel => exact ⟨k + 1, by omega, by go_num, HX, by trivial⟩
            case measure => simp [intOf]; omega
          · have HX := Lib.hid (all_not (L := L) (k := k) (by rw [HM.out]; exact hlt) (by rw [← hp]; exact h0))
            have HC := Lib.hid (W03.refCheck_any p)
            have hz : (check p.data.toList != 0) = true := by simpa using h0
            clear h0 hp
            generalize check p.data.toList = z at *
            go_wp2_with fail
            refine (HC.out _).mono ?_
            rintro e w3 ⟨rfl, rfl⟩
            go_wp2_with fail
            go_ret
            exact ⟨ret_bool (HA.out.trans HX.out).symm, B1.out.trans ((below_draws w1 q).mono B1.out.size)⟩
        · have HX : Hid (L.all (fun p => decide (check p = 0)) = true) := by
            have := hr.out
            rw [List.take_of_length_le (by rw [HM.out]; omega)] at this; exact this
          go_wp2_with fail
          go_ret
          exact ⟨ret_bool (HA.out.trans HX.out).symm, B1.out.trans ((below_draws w1 q).mono B1.out.size)⟩
  · have hne := ne_bytes hst
    have HST : Hid (¬ s.data.toList = text L) := fun e => hst (e.trans HT.out.symm)
    clear hst
    go_wp2_with fail
    go_ret
    exact ⟨ret_bool (H1.out HST.out).symm, B1.out.trans ((below_draws w1 q).mono B1.out.size)⟩

/-! ### Under -/
theorem slashed_len : ∀ L : List Bytes, (slashed L).length ≤ total L
  | [] => by simp [slashed]
  | [p] => by simp [slashed, total]
  | p :: q :: r => by
    have := slashed_len (q :: r)
    show (p ++ 47 :: slashed (q :: r)).length ≤ _
    rw [total_cons, List.length_append, List.length_cons]; omega
theorem drop_total (L : List Bytes) (n k : Nat) : total ((L.drop n).take k) ≤ total L := by
  have h1 : total L = total (L.take n) + total (L.drop n) := by rw [← total_append, List.take_append_drop]
  have h2 : total (L.drop n) = total ((L.drop n).take k) + total ((L.drop n).drop k) := by rw [← total_append, List.take_append_drop]
  omega
/-- what has been put together when k parts are gone through -/
def sofar (a : List Bytes) (n k : Nat) : Bytes := slashed ((a.drop n).take (k - n))
theorem sofar_zero (a : List Bytes) (n : Nat) : sofar a n 0 = [] := by unfold sofar; rw [Nat.zero_sub]; rfl
theorem sofar_end {a : List Bytes} {n k : Nat} (h : ¬ k < a.length) : sofar a n k = slashed (a.drop n) := by
  unfold sofar; rw [List.take_of_length_le (by rw [List.length_drop]; omega)]
theorem sofar_len (a : List Bytes) (n k : Nat) : (sofar a n k).length ≤ total a := Nat.le_trans (slashed_len _) (drop_total a n _)
end Go.Proofs.YtmbpgjncioegdaaGreatDoor.W04
/-
  Layer 8 (seek), walks: the plain answers Real and Straight; new memory may be laid, nothing that was there is changed. The conditions stand in the statements.
-/
namespace Go.Proofs.YtmbpgjncioegdaaGreatDoor.W08
open Go Go.RowKit Go.Proofs.YtmbpgjncioegdaaGreatDoor.Strs Go.Proofs.YtmbpgjncioegdaaGreatDoor.Recs
open Go.Proofs.YtmbpgjncioegdaaGreatDoor.M07 (Tr nodeAt inDir Right upOf upN height at_some)
open Go.Proofs.YtmbpgjncioegdaaGreatDoor.M08 Go.Proofs.YtmbpgjncioegdaaGreatDoor.M04
open Go.Proofs.YtmbpgjncioegdaaGreatDoor.W07 (Nodes nodeV NodeBox set_heap set_size heap_top)
open Go.Proofs.YtmbpgjncioegdaaGreatDoor.M03 (check)
open Go.Proofs.YtmbpgjncioegdaaGreatDoor.Kit (ret_str ret_bool ret_int mk_of mk_bytes ba_ext below_draws on list_full list_ne list_none list_nil bytes_nil bytes_ne cat_bytes)

/-- a plain tree's box -/
def RefBox (w : World) (k : Nat) (v : Value) (last : Int) : Prop := w.heap[k]? = some (.cells #[v, .int .i64 last] 30 (0, 0))
section
variable {w w' : World} {k : Nat} {v : Value} {last : Int}
theorem RefBox.lt (h : RefBox w k v last) : k < w.heap.size := (Array.getElem?_eq_some_iff.1 h).1
theorem RefBox.below (h : RefBox w k v last) (hb : Below w.heap.size w w') : RefBox w' k v last := (hb.block _ h.lt).trans h
theorem RefBox.new (w : World) (v : Value) (last : Int) : RefBox (w.alloc (.cells #[v, .int .i64 last] 30)) w.heap.size v last := heap_top _ _
theorem RefBox.c0 (h : RefBox w k v last) : w.cell? ⟨k, 0, none⟩ = some v := cell_of_row w _ 0 _ _ (0, 0) h
theorem RefBox.fr (h : RefBox w k v last) (j : Nat) : w.frozen? ⟨k, j, none⟩ = false := frozen_of_row w _ j _ _ h
theorem RefBox.c1 (h : RefBox w k v last) : w.cell? ⟨k, 1, none⟩ = some (.int .i64 last) := cell_of_row w _ 1 _ _ (0, 0) h
end
theorem at_num {t : Tr} {k : Int} (h : (nodeAt t.L k).kind ≠ 0) : (nodeAt t.L k).num = k := (at_some h).2
theorem texts_flat {B : Nat} {w : World} {A : Option Addr} {n c k : Nat} {L : List Bytes} (h : Texts B w (.slice A n c) L) (hk : k < n) : ∃ (b o : Nat) (q : ByteArray), A = some ⟨b, o, none⟩ ∧ b < B ∧ w.cell? ⟨b, o + k, none⟩ = some (.string q) ∧ q.data.toList = L.getD k [] := by
  obtain ⟨ad, q, rfl, hb, hc, hq⟩ := h.at_ hk
  obtain ⟨ad0, q0, e, -, hc0, -⟩ := h.at_ (k := 0) (by omega)
  cases e
  obtain ⟨b, o, sp⟩ := ad
  have hsp : sp = none := by simpa [Addr.add] using World.cell?_spot hc0
  subst hsp
  rw [Addr.add_lit] at hc
  exact ⟨b, o, q, rfl, hb, hc, hq⟩
end Go.Proofs.YtmbpgjncioegdaaGreatDoor.W08
/-
  Layer 8 (seek), walks: the plain answers Spot, Real and Straight; new memory may be laid, nothing that was there is changed. The conditions stand in the statements.
-/
namespace Go.Proofs.YtmbpgjncioegdaaGreatDoor.W08
set_option maxRecDepth 100000
open Go Go.RowKit Go.Proofs.YtmbpgjncioegdaaGreatDoor.Strs Go.Proofs.YtmbpgjncioegdaaGreatDoor.Recs
open Go.Proofs.YtmbpgjncioegdaaGreatDoor.M07 (Tr nodeAt inDir Right)
open Go.Proofs.YtmbpgjncioegdaaGreatDoor.M08 Go.Proofs.YtmbpgjncioegdaaGreatDoor.M04
open Go.Proofs.YtmbpgjncioegdaaGreatDoor.W07 (Nodes nodeV)
open Go.Proofs.YtmbpgjncioegdaaGreatDoor.M03 (check)
open Go.Proofs.YtmbpgjncioegdaaGreatDoor.Kit (ret_str ret_bool ret_int mk_of mk_bytes ba_ext below_draws on list_full list_ne list_none list_nil bytes_nil bytes_ne)

theorem ret_spot {a : Int} {b : ByteArray} {c : Int} {r : Int × Bytes × Int} (h : r = (a, b.data.toList, c)) : Ending.returned (.tuple #[.int .i64 a, .string b, .int .i64 c]) = .returned (.tuple #[.int .i64 r.1, .string ⟨r.2.1.toArray⟩, .int .i64 r.2.2]) := by
  rw [h]
theorem drop_len {P : List Bytes} {m : Nat} (h : P.length = m + 1) : P.dropLast.length = m := by rw [List.length_dropLast, h]; rfl
set_option maxHeartbeats 8000000 in
theorem refSpot_any (t : Tr) (hfit : Fit t) (htl : t.L.length ≤ 1048576) (u : Value) (s : ByteArray) (w : World) (hu : Nodes w.heap.size w u t.L) :
    Calls Tryz.prog 73 #[.agg #[u, .int .i64 t.last], .string s] w fun e w' => e = .returned (.tuple #[.int .i64 (spot t s.data.toList).1, .string ⟨(spot t s.data.toList).2.1.toArray⟩, .int .i64 (spot t s.data.toList).2.2]) ∧ Below w.heap.size w w' := by
  obtain ⟨Au, cu, rfl, hu1, hu2⟩ := hu.form
  have HU := Lib.hid hu
  clear hu
  by_cases h0 : 0 < s.size
  · have hne : ¬ s.data.toList = [] := bytes_ne h0
    have e1 := list_full h0
    have e2 := list_ne h0
    by_cases h1 : s.size ≤ 1024
    · have hl : ¬ 1024 < s.data.toList.length := by rw [← Lib.size_eq]; omega
      have HF : Hid (spot t s.data.toList = if parts s.data.toList = [] ∨ (parts s.data.toList).getLastD [] = [46, 46] then (0, [], 6) else
          let g := goTo t 1 (parts s.data.toList).dropLast true 0
          let e := if g.2.2 ≠ 0 then g.2.2 else if (nodeAt t.L g.1).kind ≠ 1 then 7 else check ((parts s.data.toList).getLastD [])
          if e ≠ 0 then (0, [], e) else (g.1, (parts s.data.toList).getLastD [], 0)) := by
        show _ = _
        unfold spot
        rw [if_neg hne, if_neg hl]
      have HPT := Lib.hid (fun w' => W04.refParts_any s (by omega) w')
      have hpl := parts_len s.data.toList
      rw [← Lib.size_eq] at hpl
      have HGO := Lib.hid (fun (w' : World) (v : Value) (hb : Below w.heap.size w w') (ht : Texts w'.heap.size w' v (parts s.data.toList).dropLast) => refGo_any t hfit htl 40 (parts s.data.toList).dropLast 1 true 0 (.slice Au t.L.length cu) v w' rfl (by rw [List.length_dropLast]; omega) ((HU.out.below hb).more hb.size) ht)
      have HAT := Lib.hid (fun (w' : World) (n : Int) (hb : Below w.heap.size w w') => W07.refAt_any (.slice Au t.L.length cu) t.L t.last n w.heap.size w' (HU.out.below hb) hb.size (by omega))
      generalize spot t s.data.toList = R at *
      generalize parts s.data.toList = PL at *
      obtain ⟨w1, hw1⟩ : ∃ w1 : World, w.alloc (.cells #[.slice Au t.L.length cu, .int .i64 t.last] 30) = w1 := ⟨_, rfl⟩
      have B1 : Below w.heap.size w w1 := by rw [← hw1]; exact (Below.refl _ _).alloc (Nat.le_refl _) _
      have hs1 : w.heap.size < w1.heap.size := by rw [← hw1]; simp
      have x0 : w1.cell? ⟨w.heap.size, 0, none⟩ = some (.slice Au t.L.length cu) := by rw [← hw1]; simp
      have x1 : w1.cell? ⟨w.heap.size, 1, none⟩ = some (.int .i64 t.last) := by rw [← hw1]; simp
      have HB1 := Lib.hid B1
      clear hl hne B1
      go_enter Tryz.func73, Tryz.ntmps73
      go_wp2_with fail
      clear hw1
      refine (HPT.out _).mono ?_
      rintro e w2 ⟨v, rfl, hown2, hb2⟩
      have B2 := Lib.hid (on HB1.out hb2)
      have T2 := Lib.hid (Texts.of_own hown2)
      by_cases h0 : 0 < PL.length
      · obtain ⟨m, hm1⟩ : ∃ m, PL.length = m + 1 := ⟨PL.length - 1, by omega⟩
        have hown3 := hown2
        rw [hm1] at hown2
        obtain ⟨g, cc, rfl, hc1, hc2, hless⟩ := own_less hown2
        rw [W04.take_drop_map hm1] at hless
        have T : Hid (Texts w2.heap.size w2 (.slice (some ⟨g, 0, none⟩) m cc) PL.dropLast) := by
          have e := drop_len hm1
          exact Texts.of_own (by rw [← e] at hless; rw [← e]; exact hless)
        have TT := T2.out
        obtain ⟨ad, q, hA, hbl, hcell, hq⟩ := TT.at_ (k := m) (by omega)
        cases hA
        rw [Addr.add_lit, Nat.zero_add] at hcell
        have HQ : Hid (PL.getLastD [] = q.data.toList) := by
          show _ = _
          rw [hq, List.getLastD_eq_getLast?, List.getLast?_eq_getElem?, List.getD_eq_getElem?_getD, hm1, Nat.add_sub_cancel]
        rw [HQ.out] at HF
        have hPn : PL ≠ [] := fun e => by rw [e] at h0; simp at h0
        have y0 : w2.cell? ⟨w.heap.size, 0, none⟩ = some (.slice Au t.L.length cu) := (hb2.cell hs1).trans x0
        have y1 : w2.cell? ⟨w.heap.size, 1, none⟩ = some (.int .i64 t.last) := (hb2.cell hs1).trans x1
        have hs2 : w.heap.size < w2.heap.size := Nat.lt_of_lt_of_le hs1 hb2.size
        have hg2 : g < w2.heap.size := hbl
        clear hless hown2 hown3 hb2 hq T2 x0 x1
        unfold maxLen at hc2
        by_cases hdd : q.data.toList = [46, 46]
        · have HX : Hid (R = (0, [], 6)) := HF.out.trans (if_pos (Or.inr hdd))
          have ts : (q.toList == [46, 46]) = true := by rw [Lib.toList_data, hdd]; rfl
          clear HF hdd
          go_wp2_with fail
          go_ret3
          exact ⟨ret_spot (b := ⟨#[]⟩) HX.out, B2.out⟩
        · have HX : Hid (R = if (if (goTo t 1 PL.dropLast true 0).2.2 ≠ 0 then (goTo t 1 PL.dropLast true 0).2.2 else if (nodeAt t.L (goTo t 1 PL.dropLast true 0).1).kind ≠ 1 then 7 else check q.data.toList) ≠ 0 then (0, [], if (goTo t 1 PL.dropLast true 0).2.2 ≠ 0 then (goTo t 1 PL.dropLast true 0).2.2 else if (nodeAt t.L (goTo t 1 PL.dropLast true 0).1).kind ≠ 1 then 7 else check q.data.toList) else ((goTo t 1 PL.dropLast true 0).1, q.data.toList, 0)) := HF.out.trans (if_neg (by rintro (e | e); exact hPn e; exact hdd e))
          have ts : (q.toList == [46, 46]) = false := by rw [Lib.toList_data, beq_eq_false_iff_ne]; exact hdd
          have HC := Lib.hid (W03.refCheck_any q)
          generalize goTo t 1 PL.dropLast true 0 = G at *
          obtain ⟨gn, gh, ge⟩ := G
          have HX : Hid (R = if (if ge ≠ 0 then ge else if (nodeAt t.L gn).kind ≠ 1 then 7 else check q.data.toList) ≠ 0 then (0, [], if ge ≠ 0 then ge else if (nodeAt t.L gn).kind ≠ 1 then 7 else check q.data.toList) else (gn, q.data.toList, 0)) := HX.out
          have q6 : IntKind.i64.wrap (m : Int) = m := by rw [IntKind.wrap_i64]; omega
          have q1 : (0 : Int) ≤ (m : Int) := by omega
          have q2 : (m : Int) ≤ (cc : Int) := by omega
          clear HF hdd
          go_wp2_with fail
          go_region_held3 (fun w' => w'.cell? ⟨w.heap.size, 0, none⟩ = some (.slice Au t.L.length cu) ∧ w'.cell? ⟨w.heap.size, 1, none⟩ = some (.int .i64 t.last) ∧ Below w2.heap.size w2 w')
            (first | exact box_on hs2 (by assumption) hb4 | exact ⟨y0, y1, (Below.refl _ _).drew⟩ | go_keep)
            (first
              | (go_at_call 100; refine (HGO.out _ _ (on B2.out (box_below (by assumption))) (T.out.below (box_below (by assumption)) |>.more (box_below (w1 := w2) (by assumption)).size)).mono ?_; rintro e w4 ⟨rfl, hb4⟩))
          have hS := (by assumption : w4.cell? ⟨w.heap.size, 0, none⟩ = some (.slice Au t.L.length cu) ∧ w4.cell? ⟨w.heap.size, 1, none⟩ = some (.int .i64 t.last) ∧ Below w2.heap.size w2 w4)
          have z0 := hS.1
          have z1 := hS.2.1
          have hcell4 : w4.cell? ⟨g, m, none⟩ = some (.string q) := (hS.2.2.cell (by show g < _; exact hg2)).trans hcell
          have hg4 : g < w4.heap.size := Nat.lt_of_lt_of_le hg2 hS.2.2.size
          have B4 := Lib.hid (on B2.out hS.2.2)
          have HA := Lib.hid (HAT.out w4 gn B4.out)
          unfold nodeV at HA
          clear hS hb4 y0 y1 hcell T TT HGO
          by_cases hg0 : ge = 0
          · subst hg0
            have HX : Hid (R = if (if (nodeAt t.L gn).kind ≠ 1 then 7 else check q.data.toList) ≠ 0 then (0, [], if (nodeAt t.L gn).kind ≠ 1 then 7 else check q.data.toList) else (gn, q.data.toList, 0)) := HX.out
            generalize nodeAt t.L gn = x at *
            have hf := W07.field_kind x.num x.up ⟨x.name.toArray⟩ x.kind ⟨x.data.toArray⟩
            by_cases hk : x.kind = 1
            · have HX : Hid (R = if check q.data.toList ≠ 0 then (0, [], check q.data.toList) else (gn, q.data.toList, 0)) := by have := HX.out; rw [if_neg (show ¬ x.kind ≠ 1 from fun e => e hk)] at this; exact this
              have tk : (x.kind != 1) = false := by simp [hk]
              generalize check q.data.toList = ce at *
              clear hk
              go_wp2_with fail
              refine HA.out.mono ?_
              rintro e w5 ⟨rfl, hb5⟩
              have hcell5 : w5.cell? ⟨g, m, none⟩ = some (.string q) := (hb5.cell (by show g < _; exact hg4)).trans hcell4
              have B5 := Lib.hid (on B4.out hb5)
              clear hb5 hcell4 z0 z1 HA
              go_wp2_with fail
              refine (HC.out _).mono ?_
              rintro e w6 ⟨rfl, hw⟩
              have hw := hw.symm
              subst hw
              by_cases hce : ce = 0
              · have HX : Hid (R = (gn, q.data.toList, 0)) := HX.out.trans (if_neg (show ¬ ce ≠ 0 from fun e => e hce))
                subst hce
                go_wp2_with fail
                go_quiet (fail)
                go_wp2_with fail
                go_ret3
                exact ⟨ret_spot HX.out, on B5.out (below_draws _ _)⟩
              · have HX : Hid (R = (0, [], ce)) := HX.out.trans (if_pos hce)
                have t1 : (ce != 0) = true := by simpa using hce
                go_wp2_with fail
                go_ret3
                exact ⟨ret_spot (b := ⟨#[]⟩) HX.out, B5.out⟩
            · have HX : Hid (R = (0, [], 7)) := by have := HX.out; rw [if_pos hk, if_pos (by decide)] at this; exact this
              have tk : (x.kind != 1) = true := by simpa using hk
              clear hk
              go_wp2_with fail
              refine HA.out.mono ?_
              rintro e w5 ⟨rfl, hb5⟩
              have B5 := Lib.hid (on B4.out hb5)
              clear hb5 hcell4 z0 z1 HA
              go_wp2_with fail
              go_ret3
              exact ⟨ret_spot (b := ⟨#[]⟩) HX.out, B5.out⟩
          · have HX : Hid (R = (0, [], ge)) := by have := HX.out; rw [if_pos hg0, if_pos hg0] at this; exact this
            have t0 : (ge == 0) = false := by simpa using hg0
            have t1 : (ge != 0) = true := by simpa using hg0
            clear hg0 z0 z1 hcell4 HA
            go_wp2_with fail
            go_ret3
            exact ⟨ret_spot (b := ⟨#[]⟩) HX.out, B4.out⟩
      · have e0 : PL = [] := W04.flat_none h0
        subst e0
        have HX : Hid (R = (0, [], 6)) := HF.out.trans (if_pos (Or.inl rfl))
        obtain ⟨A, cc, rfl, -, -⟩ := T2.out.form
        clear hown2 hb2 h0 HF T2
        go_wp2_with fail
        go_ret3
        exact ⟨ret_spot (b := ⟨#[]⟩) HX.out, B2.out⟩
    · have hl : 1024 < s.data.toList.length := by rw [← Lib.size_eq]; omega
      have HF : Hid (spot t s.data.toList = (0, [], 11)) := by
        show _ = _
        unfold spot
        rw [if_neg hne, if_pos hl]
      generalize spot t s.data.toList = R at *
      clear hl hne
      go_enter Tryz.func73, Tryz.ntmps73
      go_wp2_with fail
      go_ret3
      exact ⟨ret_spot (b := ⟨#[]⟩) HF.out, (Below.refl _ _).alloc (Nat.le_refl _) _⟩
  · have hne : s.data.toList = [] := bytes_nil h0
    have e1 := list_none h0
    have e2 := list_nil h0
    have HF : Hid (spot t s.data.toList = (0, [], 5)) := by
      show _ = _
      unfold spot
      rw [if_pos hne]
    generalize spot t s.data.toList = R at *
    clear hne
    go_enter Tryz.func73, Tryz.ntmps73
    go_wp2_with fail
    go_ret3
    exact ⟨ret_spot (b := ⟨#[]⟩) HF.out, (Below.refl _ _).alloc (Nat.le_refl _) _⟩
end Go.Proofs.YtmbpgjncioegdaaGreatDoor.W08
/-
  Layer 7 (tree), a walk of the law's Same: a tree of the program's that reads as a right tree t, held against the plain answer's t: true; nothing that was there is changed.
-/
namespace Go.Proofs.YtmbpgjncioegdaaGreatDoor.W07
set_option maxRecDepth 100000
open Go Go.RowKit Go.Proofs.YtmbpgjncioegdaaGreatDoor.Strs Go.Proofs.YtmbpgjncioegdaaGreatDoor.Recs Go.Proofs.YtmbpgjncioegdaaGreatDoor.M07 Go.Proofs.YtmbpgjncioegdaaGreatDoor.Range
open Go.Proofs.YtmbpgjncioegdaaGreatDoor.M06 (Ent)
open Go.Proofs.YtmbpgjncioegdaaGreatDoor.W06 (Ents HandsE)
open Go.Proofs.YtmbpgjncioegdaaGreatDoor.Kit (ret_str ret_bool ret_int mk_of mk_bytes ba_ext below_draws on)

theorem same_ents (va vb : Value) (L : List Ent) (B : Nat) (w : World) (ha : Ents B w va L) (hb : Ents B w vb L) :
    Calls Tryz.prog 39 #[va, vb] w fun e w' => e = .returned (.bool true) ∧ Below w.heap.size w w' :=
  (W06.refSame_any va vb L L B w ha hb).mono fun _ _ ⟨he, n, hw⟩ => ⟨by rw [he]; exact ret_bool (by simp), by rw [hw]; exact below_draws _ _⟩
theorem holds_on {w6 w' w'' : World} {p : Nat} {x : Nd} (hp : p < w6.heap.size) (h : w'.cell? ⟨p, 1, none⟩ = some (.int .i64 x.up) ∧ w'.cell? ⟨p, 3, none⟩ = some (.int .i64 x.kind) ∧ w'.cell? ⟨p, 4, none⟩ = some (.string ⟨x.data.toArray⟩) ∧ Below w6.heap.size w6 w') (hb : Below w'.heap.size w' w'') :
    w''.cell? ⟨p, 1, none⟩ = some (.int .i64 x.up) ∧ w''.cell? ⟨p, 3, none⟩ = some (.int .i64 x.kind) ∧ w''.cell? ⟨p, 4, none⟩ = some (.string ⟨x.data.toArray⟩) ∧ Below w6.heap.size w6 w'' := by
  obtain ⟨h1, h2, h3, h4⟩ := h
  have hlt : p < w'.heap.size := Nat.lt_of_lt_of_le hp h4.size
  exact ⟨(hb.cell hlt).trans h1, (hb.cell hlt).trans h2, (hb.cell hlt).trans h3, on h4 hb⟩
theorem holds_below {w6 w' : World} {p : Nat} {x : Nd} (h : w'.cell? ⟨p, 1, none⟩ = some (.int .i64 x.up) ∧ w'.cell? ⟨p, 3, none⟩ = some (.int .i64 x.kind) ∧ w'.cell? ⟨p, 4, none⟩ = some (.string ⟨x.data.toArray⟩) ∧ Below w6.heap.size w6 w') : Below w6.heap.size w6 w' := h.2.2.2

set_option maxHeartbeats 4000000 in
set_option maxRecDepth 100000 in
theorem same_tree {Rep : (Nat → Prop) → World → Value → Tr → Prop} (C : Trees Rep) {F : Nat → Prop} (w : World) {pv : Value} {t : Tr} (h : Rep F w pv t) (hs : Small t) (v : Value) (hn : Nodes w.heap.size w v t.L) :
    Calls Tryz.prog 14 #[pv, .agg #[v, .int .i64 t.last]] w fun e w' => e = .returned (.bool true) ∧ Below w.heap.size w w' := by
  obtain ⟨L, last⟩ := t
  obtain ⟨hs1, hs2⟩ := hs
  have hl1 : 1 ≤ last := by
    obtain ⟨r, hr⟩ := (C.right h).root
    have := (C.right h).ends ⟨1, 1, [], 1, []⟩ (by rw [hr]; exact List.mem_cons_self)
    exact this.2
  obtain ⟨w1, hw1⟩ : ∃ w', w.alloc (.cells #[v, .int .i64 last] 30) = w' := ⟨_, rfl⟩
  have hb1 : Below w.heap.size w w1 := by rw [← hw1]; exact below_one w _
  have hz1 : w1.heap.size = w.heap.size + 1 := by rw [← hw1]; exact World.alloc_size _ _
  have H1 := C.below h hb1
  have N1 := hn.below hb1
  have c0 : w1.cell? ⟨w.heap.size, 0, none⟩ = some v := by rw [← hw1]; exact cell_of_row _ _ 0 _ _ (0, 0) (heap_top _ _)
  have c1 : w1.cell? ⟨w.heap.size, 1, none⟩ = some (.int .i64 last) := by rw [← hw1]; exact cell_of_row _ _ 1 _ _ (0, 0) (heap_top _ _)
  have HLEN := Lib.hid (fun (w' : World) (hb : Below w1.heap.size w1 w') => C.len (C.below H1 hb) ⟨hs1, hs2⟩)
  have HKIND := Lib.hid (fun (n : Int) (w' : World) (hb : Below w1.heap.size w1 w') => C.kind (C.below H1 hb) ⟨hs1, hs2⟩ n)
  have HDATA := Lib.hid (fun (n : Int) (w' : World) (hb : Below w1.heap.size w1 w') => C.data (C.below H1 hb) ⟨hs1, hs2⟩ n)
  have HUP := Lib.hid (fun (n : Int) (w' : World) (hb : Below w1.heap.size w1 w') => C.up (C.below H1 hb) ⟨hs1, hs2⟩ n)
  have HLIST := Lib.hid (fun (n : Int) (w' : World) (hb : Below w1.heap.size w1 w') => C.list (C.below H1 hb) ⟨hs1, hs2⟩ n)
  have HAT := Lib.hid (fun (n : Int) (w' : World) (hb : Below w1.heap.size w1 w') => refAt_any v L last n w.heap.size w' (N1.below (hb.mono hb1.size)) (Nat.le_trans hb1.size hb.size) (by show L.length ≤ _; have : L.length ≤ 1048576 := hs1; omega))
  have HREF := Lib.hid (fun (n : Int) (w' : World) (hb : Below w1.heap.size w1 w') => refList_any v L last n w.heap.size w' (N1.below (hb.mono hb1.size)) (Nat.le_trans hb1.size hb.size) (by show L.length ≤ _; have : L.length ≤ 1048576 := hs1; omega))
  have HB1 := Lib.hid hb1
  obtain ⟨A, c, rfl, hA1, hA2⟩ := hn.form
  unfold maxLen at hA2
  clear h hn H1 N1 hb1
  have hp1 : w.heap.size < w1.heap.size := by omega
  go_enter Tryz.func14, Tryz.ntmps14
  go_wp2_with fail
  go_region_held3 (fun w' => w'.cell? ⟨w.heap.size, 0, none⟩ = some (.slice A L.length c) ∧ w'.cell? ⟨w.heap.size, 1, none⟩ = some (.int .i64 last) ∧ Below w1.heap.size w1 w')
    (first | exact ⟨(hb2.cell (show w.heap.size < w1.heap.size by omega)).trans c0, (hb2.cell (show w.heap.size < w1.heap.size by omega)).trans c1, (below_draws w1 1).trans hb2⟩ | exact ⟨c0, c1, below_draws w1 1⟩ | go_keep)
    (first | (go_at_call 33; refine (HLEN.out _ (below_draws w1 1)).mono ?_; rintro e w2 ⟨rfl, hb2⟩))
  have B2 := Lib.hid ((below_draws w1 1).trans hb2)
  clear hb2
  obtain ⟨d0, d1, -⟩ : w2.cell? ⟨w.heap.size, 0, none⟩ = some (.slice A L.length c) ∧ w2.cell? ⟨w.heap.size, 1, none⟩ = some (.int .i64 last) ∧ Below w1.heap.size w1 w2 := by assumption
  clear c0 c1
  have hwr : IntKind.i64.wrap (last + 1) = last + 1 := wrap_next (by omega) (by have : last ≤ 1048576 := hs2; omega)
  have hs3 : last ≤ 1048576 := hs2
  go_wp2_with fail
  go_loopw [5] (fun s5 wr => ∃ k : Int, s5 = .int .i64 k ∧ -1 ≤ k ∧ k ≤ last + 2 ∧ wr.cell? ⟨w.heap.size, 0, none⟩ = some (.slice A L.length c) ∧ wr.cell? ⟨w.heap.size, 1, none⟩ = some (.int .i64 last) ∧ Hid (Below w1.heap.size w1 wr)) (fun s5 _ => (last + 2 - intOf s5).toNat)
  case atStart => exact ⟨-1, rfl, by omega, by omega, d0, d1, B2⟩
  case round =>
    clear d0 d1 B2
    obtain ⟨k, rfl, hk1, hk2, d0, d1, B3⟩ := hrel
    have hz3 := B3.out.size
    by_cases hk : k ≤ last + 1
    · have HA := Lib.hid (HAT.out k)
      have HK := Lib.hid (HKIND.out k)
      have HDD := Lib.hid (HDATA.out k)
      have HU := Lib.hid (HUP.out k)
      have HL := Lib.hid (HLIST.out k)
      have HR := Lib.hid (HREF.out k)
      have HLE : Hid (listed ⟨L, last⟩ k = if (nodeAt L k).kind = 1 then listDir L k else []) := rfl
      generalize nodeAt L k = x at *
      generalize listed ⟨L, last⟩ k = E at *
      generalize listDir L k = E2 at *
      have hwk : IntKind.i64.wrap (k + 1) = k + 1 := wrap_next (by omega) (by omega)
      unfold nodeV at HA
      go_wp2_with fail
      refine (HA.out _ B3.out).mono ?_
      rintro e w4 ⟨rfl, hb4⟩
      have B4 := Lib.hid (on B3.out hb4)
      have e0 := (hb4.cell (show w.heap.size < wr.heap.size by omega)).trans d0
      have e1 := (hb4.cell (show w.heap.size < wr.heap.size by omega)).trans d1
      clear hb4 d0 d1 B3
      obtain ⟨w5, hw5⟩ : ∃ w', w4.alloc (.cells #[.int .i64 x.num, .int .i64 x.up, .string ⟨x.name.toArray⟩, .int .i64 x.kind, .string ⟨x.data.toArray⟩] 69) = w' := ⟨_, rfl⟩
      have NB : NodeBox w5 w4.heap.size x := by rw [← hw5]; exact NodeBox.new w4 x
      have hb5 : Below w4.heap.size w4 w5 := by rw [← hw5]; exact below_one w4 _
      have B5 := Lib.hid (on B4.out hb5)
      have hz4 := B4.out.size
      have f0 := (hb5.cell (show w.heap.size < w4.heap.size by omega)).trans e0
      have f1 := (hb5.cell (show w.heap.size < w4.heap.size by omega)).trans e1
      obtain ⟨p, hpe⟩ : ∃ p, w4.heap.size = p := ⟨_, rfl⟩
      rw [hpe] at NB
      have q1 := NB.c1
      have q3 := NB.c3
      have q4 := NB.c4
      have hp5 := NB.lt
      have NBH := Lib.hid NB
      clear hb5 e0 e1 NB hz4 B4
      go_wp2_with fail
      go_region_held3 (fun w' => w'.cell? ⟨p, 1, none⟩ = some (.int .i64 x.up) ∧ w'.cell? ⟨p, 3, none⟩ = some (.int .i64 x.kind) ∧ w'.cell? ⟨p, 4, none⟩ = some (.string ⟨x.data.toArray⟩) ∧ Below w5.heap.size w5 w')
        (first | exact holds_on hp5 (by assumption) hb8 | exact holds_on hp5 (by assumption) hb7 | exact holds_on hp5 (by assumption) hb6 | exact ⟨q1, q3, q4, below_draws w5 1⟩ | go_keep)
        (first
          | (go_at_call 35; refine (HK.out _ (on B5.out (holds_below (by assumption)))).mono ?_; rintro e w6 ⟨rfl, hb6⟩)
          | (go_at_call 36; refine (HDD.out _ (on B5.out (holds_below (by assumption)))).mono ?_; rintro e w7 ⟨rfl, hb7⟩)
          | (go_at_call 37; refine (HU.out _ (on B5.out (holds_below (by assumption)))).mono ?_; rintro e w8 ⟨rfl, hb8⟩))
      all_goals (
        obtain ⟨-, s3, -, sb⟩ : w8.cell? ⟨p, 1, none⟩ = some (.int .i64 x.up) ∧ w8.cell? ⟨p, 3, none⟩ = some (.int .i64 x.kind) ∧ w8.cell? ⟨p, 4, none⟩ = some (.string ⟨x.data.toArray⟩) ∧ Below w5.heap.size w5 w8 := by assumption
        have hz5 := B5.out.size
        have g0 := (sb.cell (show w.heap.size < w5.heap.size by omega)).trans f0
        have g1 := (sb.cell (show w.heap.size < w5.heap.size by omega)).trans f1
        have B8 := Lib.hid (on B5.out sb)
        have hp8 : p < w8.heap.size := Nat.lt_of_lt_of_le hp5 sb.size
        have hz8 := B8.out.size
        clear hb6 hb7 hb8 f0 f1 q1 q3 q4 sb B5 NBH
        clear HLEN HKIND HDATA HUP HLIST HAT HREF HK HDD HU hpe hw5 hw1
        go_wp2_with fail
        refine (HR.out _ B8.out).mono ?_
        rintro e w9 ⟨v2, rfl, ht9, hb9⟩
        have T2 := Lib.hid ht9
        have s3' := (hb9.cell hp8).trans s3
        have g0' := (hb9.cell (show w.heap.size < w8.heap.size by omega)).trans g0
        have g1' := (hb9.cell (show w.heap.size < w8.heap.size by omega)).trans g1
        have B9 := Lib.hid (on B8.out hb9)
        have hz9 : w8.heap.size ≤ w9.heap.size := hb9.size
        clear ht9 hb9 s3 g0 g1
        by_cases kx : x.kind = 1
        · have tx : (x.kind != 1) = false := by simp [kx]
          have HEE : Hid (E = E2) := HLE.out.trans (if_pos kx)
          clear kx HLE
          go_wp2_with fail
          refine (HL.out _ B9.out).mono ?_
          rintro e w10 ⟨v1, rfl, ht10, hb10⟩
          have T1 : Hid (Ents w10.heap.size w10 v1 E2) := by rw [← HEE.out]; exact ht10
          have T3 := Lib.hid ((T2.out.below hb10).more hb10.size)
          have h0 := (hb10.cell (show w.heap.size < w9.heap.size by omega)).trans g0'
          have h1 := (hb10.cell (show w.heap.size < w9.heap.size by omega)).trans g1'
          have B10 := Lib.hid (on B9.out hb10)
          have hz10 : w9.heap.size ≤ w10.heap.size := hb10.size
          clear ht10 hb10
          go_wp2_with fail
          refine (same_ents v1 v2 E2 _ _ T1.out T3.out).mono ?_
          rintro e w11 ⟨rfl, hb11⟩
          have i0 := (hb11.cell (show w.heap.size < w10.heap.size by omega)).trans h0
          have i1 := (hb11.cell (show w.heap.size < w10.heap.size by omega)).trans h1
          have B11 := Lib.hid (on B10.out hb11)
          clear hb11
          go_wp2_with fail
          go_roundw
          case rel => exact ⟨k + 1, rfl, by omega, by omega, i0, i1, B11⟩
          case measure => simp [intOf]; omega
        · have tx : (x.kind != 1) = true := by simpa using kx
          have HEE : Hid (E = []) := HLE.out.trans (if_neg kx)
          clear kx HLE
          go_wp2_with fail
          refine (HL.out _ B9.out).mono ?_
          rintro e w10 ⟨v1, rfl, ht10, hb10⟩
          have T1 : Hid (Ents w10.heap.size w10 v1 []) := by rw [← HEE.out]; exact ht10
          have h0 := (hb10.cell (show w.heap.size < w9.heap.size by omega)).trans g0'
          have h1 := (hb10.cell (show w.heap.size < w9.heap.size by omega)).trans g1'
          have B10 := Lib.hid (on B9.out hb10)
          have hz10 : w9.heap.size ≤ w10.heap.size := hb10.size
          clear ht10 hb10
          go_wp2_with fail
          refine (same_ents v1 (.slice none 0 0) [] _ _ T1.out (recs_nil _ _ _ _)).mono ?_
          rintro e w11 ⟨rfl, hb11⟩
          have i0 := (hb11.cell (show w.heap.size < w10.heap.size by omega)).trans h0
          have i1 := (hb11.cell (show w.heap.size < w10.heap.size by omega)).trans h1
          have B11 := Lib.hid (on B10.out hb11)
          clear hb11
          go_wp2_with fail
          go_roundw
          case rel => exact ⟨k + 1, rfl, by omega, by omega, i0, i1, B11⟩
          case measure => simp [intOf]; omega)
    · go_wp2_with fail
      go_ret
      exact ⟨rfl, on HB1.out B3.out⟩
end Go.Proofs.YtmbpgjncioegdaaGreatDoor.W07
/-
  Layer 7 (tree), a walk of the law's do: an act done to a tree of the program's, and to the plain answer's tree, comes to the same; nothing that was there is changed but the tree's own blocks.
-/
namespace Go.Proofs.YtmbpgjncioegdaaGreatDoor.W07
open Go Go.RowKit Go.Proofs.YtmbpgjncioegdaaGreatDoor.Strs Go.Proofs.YtmbpgjncioegdaaGreatDoor.Recs Go.Proofs.YtmbpgjncioegdaaGreatDoor.M07 Go.Proofs.YtmbpgjncioegdaaGreatDoor.Range
open Go.Proofs.YtmbpgjncioegdaaGreatDoor.M06 (Ent)
open Go.Proofs.YtmbpgjncioegdaaGreatDoor.Kit (ret_str ret_bool ret_int mk_of mk_bytes ba_ext below_draws on)

/-- a slice's own block is none of F -/
def Off (F : Nat → Prop) (u : Value) : Prop := ∀ b o n c, u = .slice (some ⟨b, o, none⟩) n c → ¬ F b
theorem nodes_turns {F : Nat → Prop} {B : Nat} {w w' : World} {v : Value} {L : List Nd} (h : Nodes B w v L) (ht : Turns F w w') (hoff : Off F v) : Nodes B w' v L := by
  by_cases h0 : 0 < L.length
  · obtain ⟨A, c, rfl, h1, h2⟩ := h.form
    obtain ⟨b, o, _, rfl, hb, hc0, _⟩ := Nodes.at_ h h0
    have hlt := World.block_lt_of_cell? w _ hc0
    exact Recs.other h fun p hp => World.cell?_of_block (ht.block _ (by rw [hp]; exact hlt) (by rw [hp]; exact hoff _ _ _ _ rfl))
  · have e : L = [] := List.length_eq_zero_iff.1 (by omega)
    subst e
    obtain ⟨A, c, rfl, h1, h2, h3⟩ := h
    exact ⟨A, c, rfl, h1, h2, fun h => absurd h (by simp)⟩
theorem off_same {F F' : Nat → Prop} {v : Value} {L : List Nd} {n0 : Nat} {w : World} (hn : Nodes n0 w v L) (h0 : 0 < L.length) (hv : Off F v) (hF : ∀ k, F' k → F k ∨ n0 ≤ k) : Off F' v := by
  obtain ⟨A, c, rfl, h1, h2⟩ := hn.form
  obtain ⟨b, o, _, rfl, hb, _⟩ := Nodes.at_ hn h0
  intro b' o' n' c' e hk
  cases e
  rcases hF _ hk with h | h
  · exact hv _ _ _ _ rfl h
  · omega
theorem off_from {F : Nat → Prop} {v u : Value} {S : Nat} (hv : Off F v) (hS : ∀ k, F k → k < S) (hf : FromOr v S u) : Off F u := by
  rcases hf with rfl | rfl | ⟨g, n, c, rfl, hg⟩
  · exact hv
  · intro b o n c e; cases e
  · intro b o n' c' e hk
    cases e
    have := hS _ hk
    omega
/-- a box of a plain tree -/
def TreeBox (w : World) (p : Nat) (v : Value) (last : Int) : Prop := w.heap[p]? = some (.cells #[v, .int .i64 last] 30 (0, 0))
section
variable {w w' : World} {p : Nat} {v : Value} {last act dir dst kind : Int} {nm al dt : ByteArray}
theorem TreeBox.lt (h : TreeBox w p v last) : p < w.heap.size := (Array.getElem?_eq_some_iff.1 h).1
theorem TreeBox.below (h : TreeBox w p v last) (hb : Below w.heap.size w w') : TreeBox w' p v last := (hb.block _ h.lt).trans h
theorem TreeBox.turns {F : Nat → Prop} (h : TreeBox w p v last) (ht : Turns F w w') (hp : ¬ F p) : TreeBox w' p v last := ht.keeps h hp
theorem TreeBox.c0 (h : TreeBox w p v last) : w.cell? ⟨p, 0, none⟩ = some v := cell_of_row w _ 0 _ _ (0, 0) h
theorem TreeBox.c1 (h : TreeBox w p v last) : w.cell? ⟨p, 1, none⟩ = some (.int .i64 last) := cell_of_row w _ 1 _ _ (0, 0) h
theorem TreeBox.fr (h : TreeBox w p v last) (j : Nat) : w.frozen? ⟨p, j, none⟩ = false := frozen_of_row w _ j _ _ h
end
theorem turns_box (w : World) (q : Nat) (a b : Value) : Turns (fun k => k = q) w ((w.setCell ⟨q, 0, none⟩ a).setCell ⟨q, 1, none⟩ b) :=
  (Turns.setCell (T := fun k => k = q) (a := ⟨q, 0, none⟩) a rfl).trans (Turns.setCell (T := fun k => k = q) (a := ⟨q, 1, none⟩) b rfl)
end Go.Proofs.YtmbpgjncioegdaaGreatDoor.W07
/-
  Layer 9 (posix), walks: the plain answers Stat, Data, List; new memory may be laid, nothing that was there is changed. The conditions stand in the statements.
-/
namespace Go.Proofs.YtmbpgjncioegdaaGreatDoor.W09
open Go Go.RowKit Go.Proofs.YtmbpgjncioegdaaGreatDoor.Strs Go.Proofs.YtmbpgjncioegdaaGreatDoor.Recs Go.Proofs.YtmbpgjncioegdaaGreatDoor.Range
open Go.Proofs.YtmbpgjncioegdaaGreatDoor.M07 (Tr Nd nodeAt inDir Right listDir)
open Go.Proofs.YtmbpgjncioegdaaGreatDoor.M08 Go.Proofs.YtmbpgjncioegdaaGreatDoor.M09
open Go.Proofs.YtmbpgjncioegdaaGreatDoor.W07 (Nodes nodeV TreeBox refAt_any refList_any heap_two_a heap_two_b heap_top)

open Go.Proofs.YtmbpgjncioegdaaGreatDoor.W06 (Ents)
open Go.Proofs.YtmbpgjncioegdaaGreatDoor.Kit (ret_str ret_bool ret_int mk_of mk_bytes ba_ext below_draws on)

/-- a box of a plain node -/
def NdBox (w : World) (p : Nat) (x : Nd) : Prop := w.heap[p]? = some (.cells #[.int .i64 x.num, .int .i64 x.up, .string ⟨x.name.toArray⟩, .int .i64 x.kind, .string ⟨x.data.toArray⟩] 69 (0, 0))
section
variable {w w' : World} {p : Nat} {a b c : Int} {x : Nd}
theorem NdBox.lt (h : NdBox w p x) : p < w.heap.size := (Array.getElem?_eq_some_iff.1 h).1
theorem NdBox.below (h : NdBox w p x) (hb : Below w.heap.size w w') : NdBox w' p x := (hb.block _ h.lt).trans h
theorem NdBox.c3 (h : NdBox w p x) : w.cell? ⟨p, 3, none⟩ = some (.int .i64 x.kind) := cell_of_row w _ 3 _ _ (0, 0) h
theorem NdBox.c4 (h : NdBox w p x) : w.cell? ⟨p, 4, none⟩ = some (.string ⟨x.data.toArray⟩) := cell_of_row w _ 4 _ _ (0, 0) h
end
/-- a box of a task -/
def TaskBox (w : World) (p : Nat) (k : Int) (a b : ByteArray) : Prop := w.heap[p]? = some (.cells #[.int .i64 k, .string a, .string b] 59 (0, 0))
section
variable {w w' : World} {p : Nat} {k : Int} {a b : ByteArray}
theorem TaskBox.lt (h : TaskBox w p k a b) : p < w.heap.size := (Array.getElem?_eq_some_iff.1 h).1
theorem TaskBox.below (h : TaskBox w p k a b) (hb : Below w.heap.size w w') : TaskBox w' p k a b := (hb.block _ h.lt).trans h
theorem TaskBox.c0 (h : TaskBox w p k a b) : w.cell? ⟨p, 0, none⟩ = some (.int .i64 k) := cell_of_row w _ 0 _ _ (0, 0) h
theorem TaskBox.c1 (h : TaskBox w p k a b) : w.cell? ⟨p, 1, none⟩ = some (.string a) := cell_of_row w _ 1 _ _ (0, 0) h
theorem TaskBox.c2 (h : TaskBox w p k a b) : w.cell? ⟨p, 2, none⟩ = some (.string b) := cell_of_row w _ 2 _ _ (0, 0) h
end
theorem stored3 {w w' : World} {p : Nat} (a b c : Value) (h : Below w.heap.size w w') (hp : w.heap.size ≤ p) : Below w.heap.size w (((w'.setCell ⟨p, 0, none⟩ a).setCell ⟨p, 1, none⟩ b).setCell ⟨p, 2, none⟩ c) :=
  ((h.setCell hp a).setCell hp b).setCell hp c
end Go.Proofs.YtmbpgjncioegdaaGreatDoor.W09
