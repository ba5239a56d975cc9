/-
  Texts joined, in build order, each with its own comment and its own conditions: W08Find, W08Spot, W08Over.
-/
import Derived.Test.YtmpjjfhmkfchfaaDoorJ10
import Derived.Test.YtmpjjfhmkfchfaaDoorJ07
import Derived.Test.YtmpjjfhmkfchfaaDoorJ09
import Derived.Test.YtmpjjfhmkfchfaaDoorJ06
/-
  Layer 8 (seek), walks: the plain answer's Go at every list of parts, and Find; new memory may be laid, nothing that was there is changed. The conditions stand in the statements.
-/
namespace Go.Proofs.YtmpjjfhmkfchfaaDoor.W08
set_option maxRecDepth 100000
open Go Go.RowKit Go.Proofs.YtmpjjfhmkfchfaaDoor.Strs Go.Proofs.YtmpjjfhmkfchfaaDoor.Recs
open Go.Proofs.YtmpjjfhmkfchfaaDoor.M07 (Tr nodeAt inDir)
open Go.Proofs.YtmpjjfhmkfchfaaDoor.M08 Go.Proofs.YtmpjjfhmkfchfaaDoor.M04
open Go.Proofs.YtmpjjfhmkfchfaaDoor.W07 (Nodes nodeV)
open Go.Proofs.YtmpjjfhmkfchfaaDoor.M03 (check)
open Go.Proofs.YtmpjjfhmkfchfaaDoor.Kit (ret_str ret_bool ret_int mk_of mk_bytes ba_ext below_draws on list_full list_ne list_none list_nil bytes_nil bytes_ne)

theorem refGo_any (t : Tr) (hfit : Fit t) (htl : t.L.length ≤ 1048576) : ∀ (k : Nat) (l : List Bytes), GoesTo t k l := by
  intro k
  induction k using Nat.strongRecOn with
  | ind k ih =>
    intro l
    induction l with
    | nil => exact go_step t hfit htl k [] (fun k' l' h => ih k' h l') (fun p r h => by cases h)
    | cons p r ihl => exact go_step t hfit htl k (p :: r) (fun k' l' h => ih k' h l') (fun p' r' h => by cases h; exact ihl)
theorem refFind_any (t : Tr) (hfit : Fit t) (htl : t.L.length ≤ 1048576) (u : Value) (s : ByteArray) (last : Bool) (w : World) (hu : Nodes w.heap.size w u t.L) :
    Calls Tryd.prog 10 #[.agg #[u, .int .i64 t.last], .string s, .bool last] w fun e w' => e = .returned (.tuple #[.int .i64 (M08.find t s.data.toList last).1, .int .i64 (M08.find t s.data.toList last).2]) ∧ Below w.heap.size w w' := by
  obtain ⟨Au, cu, rfl, hu1, hu2⟩ := hu.form
  have HU := Lib.hid hu
  clear hu
  by_cases h0 : 0 < s.size
  · have hne : ¬ s.data.toList = [] := bytes_ne h0
    have e1 := list_full h0
    have e2 := list_ne h0
    by_cases h1 : s.size ≤ 1024
    · have hl : ¬ 1024 < s.data.toList.length := by rw [← Lib.size_eq]; omega
      have HF : Hid (M08.find t s.data.toList last = ((goTo t 1 (parts s.data.toList) last 0).1, (goTo t 1 (parts s.data.toList) last 0).2.2)) := by
        show _ = _
        unfold M08.find
        rw [if_neg hne, if_neg hl]
      rw [HF.out]
      have HPT := Lib.hid (fun w' => W04.refParts_any s (by omega) w')
      have hpl := parts_len s.data.toList
      rw [← Lib.size_eq] at hpl
      have HGO := Lib.hid (fun (w' : World) (v : Value) (hb : Below w.heap.size w w') (ht : Texts w'.heap.size w' v (parts s.data.toList)) => refGo_any t hfit htl 40 (parts s.data.toList) 1 last 0 (.slice Au t.L.length cu) v w' rfl (by omega) ((HU.out.below hb).more hb.size) ht)
      generalize goTo t 1 (parts s.data.toList) last 0 = G at *
      generalize parts s.data.toList = PL at *
      obtain ⟨w1, hw1⟩ : ∃ w1 : World, w.alloc (.cells #[.slice Au t.L.length cu, .int .i64 t.last] 28) = w1 := ⟨_, rfl⟩
      have B1 : Below w.heap.size w w1 := by rw [← hw1]; exact (Below.refl _ _).alloc (Nat.le_refl _) _
      have hs1 : w.heap.size < w1.heap.size := by rw [← hw1]; simp
      have x0 : w1.cell? ⟨w.heap.size, 0, none⟩ = some (.slice Au t.L.length cu) := by rw [← hw1]; simp
      have x1 : w1.cell? ⟨w.heap.size, 1, none⟩ = some (.int .i64 t.last) := by rw [← hw1]; simp
      have HB1 := Lib.hid B1
      clear hpl hl hne HF B1
      go_enter Tryd.func10, Tryd.ntmps10
      go_wp2_with fail
      go_region_held3 (fun w' => w'.cell? ⟨w.heap.size, 0, none⟩ = some (.slice Au t.L.length cu) ∧ w'.cell? ⟨w.heap.size, 1, none⟩ = some (.int .i64 t.last) ∧ Below w1.heap.size w1 w')
        (first | exact box_on hs1 (by assumption) hb4 | exact box_on hs1 (by assumption) hb3 | exact ⟨x0, x1, (Below.refl _ _).drew⟩ | go_keep)
        (first
          | (go_at_call 27; refine (HPT.out _).mono ?_; rintro e w3 ⟨v3, rfl, ho3, hb3⟩; have B3 := on ((Below.refl w1.heap.size w1).drew) hb3; have T3 := Lib.hid (Texts.of_own ho3))
          | (go_at_call 26; refine (HGO.out w3 v3 (on HB1.out B3) T3.out).mono ?_; rintro e w4 ⟨rfl, hb4⟩; have B4 := on B3 hb4))
      all_goals (
        go_wp2_with fail
        go_ret2
        exact ⟨rfl, on HB1.out B4⟩)
    · have hl : 1024 < s.data.toList.length := by rw [← Lib.size_eq]; omega
      have HF : Hid (M08.find t s.data.toList last = (0, 11)) := by
        show _ = _
        unfold M08.find
        rw [if_neg hne, if_pos hl]
      rw [HF.out]
      clear hl hne HF
      go_enter Tryd.func10, Tryd.ntmps10
      go_wp2_with fail
      go_ret2
      exact ⟨rfl, (Below.refl _ _).alloc (Nat.le_refl _) _⟩
  · have hne : s.data.toList = [] := bytes_nil h0
    have e1 := list_none h0
    have e2 := list_nil h0
    have HF : Hid (M08.find t s.data.toList last = (0, 5)) := by
      show _ = _
      unfold M08.find
      rw [if_pos hne]
    rw [HF.out]
    clear hne HF
    go_enter Tryd.func10, Tryd.ntmps10
    go_wp2_with fail
    go_ret2
    exact ⟨rfl, (Below.refl _ _).alloc (Nat.le_refl _) _⟩
end Go.Proofs.YtmpjjfhmkfchfaaDoor.W08
/-
  Layer 8 (seek), walks: the plain answers Spot, Real and Straight; new memory may be laid, nothing that was there is changed. The conditions stand in the statements.
-/
namespace Go.Proofs.YtmpjjfhmkfchfaaDoor.W08
set_option maxRecDepth 100000
open Go Go.RowKit Go.Proofs.YtmpjjfhmkfchfaaDoor.Strs Go.Proofs.YtmpjjfhmkfchfaaDoor.Recs
open Go.Proofs.YtmpjjfhmkfchfaaDoor.M07 (Tr nodeAt inDir Right)
open Go.Proofs.YtmpjjfhmkfchfaaDoor.M08 Go.Proofs.YtmpjjfhmkfchfaaDoor.M04
open Go.Proofs.YtmpjjfhmkfchfaaDoor.W07 (Nodes nodeV)
open Go.Proofs.YtmpjjfhmkfchfaaDoor.M03 (check)
open Go.Proofs.YtmpjjfhmkfchfaaDoor.Kit (ret_str ret_bool ret_int mk_of mk_bytes ba_ext below_draws on list_full list_ne list_none list_nil bytes_nil bytes_ne)

theorem ret_spot {a : Int} {b : ByteArray} {c : Int} {r : Int × Bytes × Int} (h : r = (a, b.data.toList, c)) : Ending.returned (.tuple #[.int .i64 a, .string b, .int .i64 c]) = .returned (.tuple #[.int .i64 r.1, .string ⟨r.2.1.toArray⟩, .int .i64 r.2.2]) := by
  rw [h]
theorem drop_len {P : List Bytes} {m : Nat} (h : P.length = m + 1) : P.dropLast.length = m := by rw [List.length_dropLast, h]; rfl
set_option maxHeartbeats 8000000 in
theorem refSpot_any (t : Tr) (hfit : Fit t) (htl : t.L.length ≤ 1048576) (u : Value) (s : ByteArray) (w : World) (hu : Nodes w.heap.size w u t.L) :
    Calls Tryd.prog 12 #[.agg #[u, .int .i64 t.last], .string s] w fun e w' => e = .returned (.tuple #[.int .i64 (spot t s.data.toList).1, .string ⟨(spot t s.data.toList).2.1.toArray⟩, .int .i64 (spot t s.data.toList).2.2]) ∧ Below w.heap.size w w' := by
  obtain ⟨Au, cu, rfl, hu1, hu2⟩ := hu.form
  have HU := Lib.hid hu
  clear hu
  by_cases h0 : 0 < s.size
  · have hne : ¬ s.data.toList = [] := bytes_ne h0
    have e1 := list_full h0
    have e2 := list_ne h0
    by_cases h1 : s.size ≤ 1024
    · have hl : ¬ 1024 < s.data.toList.length := by rw [← Lib.size_eq]; omega
      have HF : Hid (spot t s.data.toList = if parts s.data.toList = [] ∨ (parts s.data.toList).getLastD [] = [46, 46] then (0, [], 6) else
          let g := goTo t 1 (parts s.data.toList).dropLast true 0
          let e := if g.2.2 ≠ 0 then g.2.2 else if (nodeAt t.L g.1).kind ≠ 1 then 7 else check ((parts s.data.toList).getLastD [])
          if e ≠ 0 then (0, [], e) else (g.1, (parts s.data.toList).getLastD [], 0)) := by
        show _ = _
        unfold spot
        rw [if_neg hne, if_neg hl]
      have HPT := Lib.hid (fun w' => W04.refParts_any s (by omega) w')
      have hpl := parts_len s.data.toList
      rw [← Lib.size_eq] at hpl
      have HGO := Lib.hid (fun (w' : World) (v : Value) (hb : Below w.heap.size w w') (ht : Texts w'.heap.size w' v (parts s.data.toList).dropLast) => refGo_any t hfit htl 40 (parts s.data.toList).dropLast 1 true 0 (.slice Au t.L.length cu) v w' rfl (by rw [List.length_dropLast]; omega) ((HU.out.below hb).more hb.size) ht)
      have HAT := Lib.hid (fun (w' : World) (n : Int) (hb : Below w.heap.size w w') => W07.refAt_any (.slice Au t.L.length cu) t.L t.last n w.heap.size w' (HU.out.below hb) hb.size (by omega))
      generalize spot t s.data.toList = R at *
      generalize parts s.data.toList = PL at *
      obtain ⟨w1, hw1⟩ : ∃ w1 : World, w.alloc (.cells #[.slice Au t.L.length cu, .int .i64 t.last] 28) = w1 := ⟨_, rfl⟩
      have B1 : Below w.heap.size w w1 := by rw [← hw1]; exact (Below.refl _ _).alloc (Nat.le_refl _) _
      have hs1 : w.heap.size < w1.heap.size := by rw [← hw1]; simp
      have x0 : w1.cell? ⟨w.heap.size, 0, none⟩ = some (.slice Au t.L.length cu) := by rw [← hw1]; simp
      have x1 : w1.cell? ⟨w.heap.size, 1, none⟩ = some (.int .i64 t.last) := by rw [← hw1]; simp
      have HB1 := Lib.hid B1
      clear hl hne B1
      go_enter Tryd.func12, Tryd.ntmps12
      go_wp2_with fail
      clear hw1
      refine (HPT.out _).mono ?_
      rintro e w2 ⟨v, rfl, hown2, hb2⟩
      have B2 := Lib.hid (on HB1.out hb2)
      have T2 := Lib.hid (Texts.of_own hown2)
      by_cases h0 : 0 < PL.length
      · obtain ⟨m, hm1⟩ : ∃ m, PL.length = m + 1 := ⟨PL.length - 1, by omega⟩
        have hown3 := hown2
        rw [hm1] at hown2
        obtain ⟨g, cc, rfl, hc1, hc2, hless⟩ := own_less hown2
        rw [W04.take_drop_map hm1] at hless
        have T : Hid (Texts w2.heap.size w2 (.slice (some ⟨g, 0, none⟩) m cc) PL.dropLast) := by
          have e := drop_len hm1
          exact Texts.of_own (by rw [← e] at hless; rw [← e]; exact hless)
        have TT := T2.out
        obtain ⟨ad, q, hA, hbl, hcell, hq⟩ := TT.at_ (k := m) (by omega)
        cases hA
        rw [Addr.add_lit, Nat.zero_add] at hcell
        have HQ : Hid (PL.getLastD [] = q.data.toList) := by
          show _ = _
          rw [hq, List.getLastD_eq_getLast?, List.getLast?_eq_getElem?, List.getD_eq_getElem?_getD, hm1, Nat.add_sub_cancel]
        rw [HQ.out] at HF
        have hPn : PL ≠ [] := fun e => by rw [e] at h0; simp at h0
        have y0 : w2.cell? ⟨w.heap.size, 0, none⟩ = some (.slice Au t.L.length cu) := (hb2.cell hs1).trans x0
        have y1 : w2.cell? ⟨w.heap.size, 1, none⟩ = some (.int .i64 t.last) := (hb2.cell hs1).trans x1
        have hs2 : w.heap.size < w2.heap.size := Nat.lt_of_lt_of_le hs1 hb2.size
        have hg2 : g < w2.heap.size := hbl
        clear hless hown2 hown3 hb2 hq T2 x0 x1
        unfold maxLen at hc2
        by_cases hdd : q.data.toList = [46, 46]
        · have HX : Hid (R = (0, [], 6)) := HF.out.trans (if_pos (Or.inr hdd))
          have ts : (q.toList == [46, 46]) = true := by rw [Lib.toList_data, hdd]; rfl
          clear HF hdd
          go_wp2_with fail
          go_ret3
          exact ⟨ret_spot (b := ⟨#[]⟩) HX.out, B2.out⟩
        · have HX : Hid (R = if (if (goTo t 1 PL.dropLast true 0).2.2 ≠ 0 then (goTo t 1 PL.dropLast true 0).2.2 else if (nodeAt t.L (goTo t 1 PL.dropLast true 0).1).kind ≠ 1 then 7 else check q.data.toList) ≠ 0 then (0, [], if (goTo t 1 PL.dropLast true 0).2.2 ≠ 0 then (goTo t 1 PL.dropLast true 0).2.2 else if (nodeAt t.L (goTo t 1 PL.dropLast true 0).1).kind ≠ 1 then 7 else check q.data.toList) else ((goTo t 1 PL.dropLast true 0).1, q.data.toList, 0)) := HF.out.trans (if_neg (by rintro (e | e); exact hPn e; exact hdd e))
          have ts : (q.toList == [46, 46]) = false := by rw [Lib.toList_data, beq_eq_false_iff_ne]; exact hdd
          have HC := Lib.hid (W03.refCheck_any q)
          generalize goTo t 1 PL.dropLast true 0 = G at *
          obtain ⟨gn, gh, ge⟩ := G
          have HX : Hid (R = if (if ge ≠ 0 then ge else if (nodeAt t.L gn).kind ≠ 1 then 7 else check q.data.toList) ≠ 0 then (0, [], if ge ≠ 0 then ge else if (nodeAt t.L gn).kind ≠ 1 then 7 else check q.data.toList) else (gn, q.data.toList, 0)) := HX.out
          have q6 : IntKind.i64.wrap (m : Int) = m := by rw [IntKind.wrap_i64]; omega
          have q1 : (0 : Int) ≤ (m : Int) := by omega
          have q2 : (m : Int) ≤ (cc : Int) := by omega
          clear HF hdd
          go_wp2_with fail
          go_region_held3 (fun w' => w'.cell? ⟨w.heap.size, 0, none⟩ = some (.slice Au t.L.length cu) ∧ w'.cell? ⟨w.heap.size, 1, none⟩ = some (.int .i64 t.last) ∧ Below w2.heap.size w2 w')
            (first | exact box_on hs2 (by assumption) hb4 | exact ⟨y0, y1, (Below.refl _ _).drew⟩ | go_keep)
            (first
              | (go_at_call 26; refine (HGO.out _ _ (on B2.out (box_below (by assumption))) (T.out.below (box_below (by assumption)) |>.more (box_below (w1 := w2) (by assumption)).size)).mono ?_; rintro e w4 ⟨rfl, hb4⟩))
          have hS := (by assumption : w4.cell? ⟨w.heap.size, 0, none⟩ = some (.slice Au t.L.length cu) ∧ w4.cell? ⟨w.heap.size, 1, none⟩ = some (.int .i64 t.last) ∧ Below w2.heap.size w2 w4)
          have z0 := hS.1
          have z1 := hS.2.1
          have hcell4 : w4.cell? ⟨g, m, none⟩ = some (.string q) := (hS.2.2.cell (by show g < _; exact hg2)).trans hcell
          have hg4 : g < w4.heap.size := Nat.lt_of_lt_of_le hg2 hS.2.2.size
          have B4 := Lib.hid (on B2.out hS.2.2)
          have HA := Lib.hid (HAT.out w4 gn B4.out)
          unfold nodeV at HA
          clear hS hb4 y0 y1 hcell T TT HGO
          by_cases hg0 : ge = 0
          · subst hg0
            have HX : Hid (R = if (if (nodeAt t.L gn).kind ≠ 1 then 7 else check q.data.toList) ≠ 0 then (0, [], if (nodeAt t.L gn).kind ≠ 1 then 7 else check q.data.toList) else (gn, q.data.toList, 0)) := HX.out
            generalize nodeAt t.L gn = x at *
            have hf := W07.field_kind x.num x.up ⟨x.name.toArray⟩ x.kind ⟨x.data.toArray⟩
            by_cases hk : x.kind = 1
            · have HX : Hid (R = if check q.data.toList ≠ 0 then (0, [], check q.data.toList) else (gn, q.data.toList, 0)) := by have := HX.out; rw [if_neg (show ¬ x.kind ≠ 1 from fun e => e hk)] at this; exact this
              have tk : (x.kind != 1) = false := by simp [hk]
              generalize check q.data.toList = ce at *
              clear hk
              go_wp2_with fail
              refine HA.out.mono ?_
              rintro e w5 ⟨rfl, hb5⟩
              have hcell5 : w5.cell? ⟨g, m, none⟩ = some (.string q) := (hb5.cell (by show g < _; exact hg4)).trans hcell4
              have B5 := Lib.hid (on B4.out hb5)
              clear hb5 hcell4 z0 z1 HA
              go_wp2_with fail
              refine (HC.out _).mono ?_
              rintro e w6 ⟨rfl, hw⟩
              have hw := hw.symm
              subst hw
              by_cases hce : ce = 0
              · have HX : Hid (R = (gn, q.data.toList, 0)) := HX.out.trans (if_neg (show ¬ ce ≠ 0 from fun e => e hce))
                subst hce
                go_wp2_with fail
                go_quiet (fail)
                go_wp2_with fail
                go_ret3
                exact ⟨ret_spot HX.out, on B5.out (below_draws _ _)⟩
              · have HX : Hid (R = (0, [], ce)) := HX.out.trans (if_pos hce)
                have t1 : (ce != 0) = true := by simpa using hce
                go_wp2_with fail
                go_ret3
                exact ⟨ret_spot (b := ⟨#[]⟩) HX.out, B5.out⟩
            · have HX : Hid (R = (0, [], 7)) := by have := HX.out; rw [if_pos hk, if_pos (by decide)] at this; exact this
              have tk : (x.kind != 1) = true := by simpa using hk
              clear hk
              go_wp2_with fail
              refine HA.out.mono ?_
              rintro e w5 ⟨rfl, hb5⟩
              have B5 := Lib.hid (on B4.out hb5)
              clear hb5 hcell4 z0 z1 HA
              go_wp2_with fail
              go_ret3
              exact ⟨ret_spot (b := ⟨#[]⟩) HX.out, B5.out⟩
          · have HX : Hid (R = (0, [], ge)) := by have := HX.out; rw [if_pos hg0, if_pos hg0] at this; exact this
            have t0 : (ge == 0) = false := by simpa using hg0
            have t1 : (ge != 0) = true := by simpa using hg0
            clear hg0 z0 z1 hcell4 HA
            go_wp2_with fail
            go_ret3
            exact ⟨ret_spot (b := ⟨#[]⟩) HX.out, B4.out⟩
      · have e0 : PL = [] := W04.flat_none h0
        subst e0
        have HX : Hid (R = (0, [], 6)) := HF.out.trans (if_pos (Or.inl rfl))
        obtain ⟨A, cc, rfl, -, -⟩ := T2.out.form
        clear hown2 hb2 h0 HF T2
        go_wp2_with fail
        go_ret3
        exact ⟨ret_spot (b := ⟨#[]⟩) HX.out, B2.out⟩
    · have hl : 1024 < s.data.toList.length := by rw [← Lib.size_eq]; omega
      have HF : Hid (spot t s.data.toList = (0, [], 11)) := by
        show _ = _
        unfold spot
        rw [if_neg hne, if_pos hl]
      generalize spot t s.data.toList = R at *
      clear hl hne
      go_enter Tryd.func12, Tryd.ntmps12
      go_wp2_with fail
      go_ret3
      exact ⟨ret_spot (b := ⟨#[]⟩) HF.out, (Below.refl _ _).alloc (Nat.le_refl _) _⟩
  · have hne : s.data.toList = [] := bytes_nil h0
    have e1 := list_none h0
    have e2 := list_nil h0
    have HF : Hid (spot t s.data.toList = (0, [], 5)) := by
      show _ = _
      unfold spot
      rw [if_pos hne]
    generalize spot t s.data.toList = R at *
    clear hne
    go_enter Tryd.func12, Tryd.ntmps12
    go_wp2_with fail
    go_ret3
    exact ⟨ret_spot (b := ⟨#[]⟩) HF.out, (Below.refl _ _).alloc (Nat.le_refl _) _⟩
end Go.Proofs.YtmpjjfhmkfchfaaDoor.W08
/-
  Layer 8 (seek), walks of the laws SeekFinds, SeekReal and SeekNone over the contracts: each returns true; nothing that was there is changed. The conditions stand in the statements.
-/
namespace Go.Proofs.YtmpjjfhmkfchfaaDoor.W08
set_option maxRecDepth 100000
open Go Go.RowKit Go.Proofs.YtmpjjfhmkfchfaaDoor.Strs Go.Proofs.YtmpjjfhmkfchfaaDoor.Recs Go.Proofs.YtmpjjfhmkfchfaaDoor.Range
open Go.Proofs.YtmpjjfhmkfchfaaDoor.M07 (Tr Nd nodeAt inDir Right put put_right)
open Go.Proofs.YtmpjjfhmkfchfaaDoor.M08
open Go.Proofs.YtmpjjfhmkfchfaaDoor.M04 (text)
open Go.Proofs.YtmpjjfhmkfchfaaDoor.M03 (check)
open Go.Proofs.YtmpjjfhmkfchfaaDoor.W07 (Small Trees Nodes)
open Go.Proofs.YtmpjjfhmkfchfaaDoor.Kit (ret_str ret_bool ret_int mk_of mk_bytes ba_ext below_draws on)

set_option maxHeartbeats 4000000 in
theorem seekFinds_over {Rep : (Nat → Prop) → World → Value → Tr → Prop} (C : Trees Rep) (S : Seeks Rep) (w : World) (v : Value) (L : List Sn) (h : Snodes w.heap.size w v L) (p : ByteArray) (last : Bool) :
    Calls Tryd.prog 3 #[v, .string p, .bool last] w fun e w' => e = .returned (.bool true) ∧ Below w.heap.size w w' := by
  have HFW := Lib.hid (few_any v L w.heap.size w h)
  have HL := Lib.hid (fun w' => lives_over C S w')
  have HH := Lib.hid h
  obtain ⟨A, c, rfl, -, -⟩ := h.form
  clear h
  generalize hm : L.length = m at *
  cases hf : isFew L with
  | false =>
    rw [hf] at HFW
    clear hf hm
    go_enter Tryd.func3, Tryd.ntmps3
    go_wp2_with fail
    refine HFW.out.mono ?_
    rintro e w1 ⟨rfl, hw⟩
    have hw := hw.symm
    subst hw
    go_wp2_with fail
    refine (HL.out _).mono ?_
    rintro e w2 ⟨rfl, hb⟩
    go_wp2_with fail
    go_ret
    exact ⟨rfl, hb⟩
  | true =>
    rw [hf] at HFW
    obtain ⟨hd, hl⟩ := few_is hf
    by_cases hp : (3000 : Int) < p.size
    · clear hf hm hd hl
      go_enter Tryd.func3, Tryd.ntmps3
      go_wp2_with fail
      refine HFW.out.mono ?_
      rintro e w1 ⟨rfl, hw⟩
      have hw := hw.symm
      subst hw
      go_wp2_with fail
      refine (HL.out _).mono ?_
      rintro e w2 ⟨rfl, hb⟩
      go_wp2_with fail
      go_ret
      exact ⟨rfl, hb⟩
    · have hps : p.size ≤ 1048576 := by omega
      have HM := made_over C w (.slice A m c) L HH.out hl hd
      obtain ⟨hG, hR⟩ := made_good hl
      have HG := Lib.hid hG
      generalize (made L).1 = T at *
      have HM := Lib.hid HM
      clear hf hm hd hl hG
      go_enter Tryd.func3, Tryd.ntmps3
      go_wp2_with fail
      refine HFW.out.mono ?_
      rintro e w1 ⟨rfl, hw⟩
      have hw := hw.symm
      subst hw
      go_wp2_with fail
      refine HM.out.mono ?_
      rintro e w2 ⟨pv, u, F, rfl, hrep, hn, -, hb⟩
      obtain ⟨Au, cu, rfl, -, -⟩ := hn.form
      obtain ⟨w3, hw3⟩ : ∃ w3, w2.alloc (.cells #[.slice Au T.L.length cu, .int .i64 T.last] 28) = w3 := ⟨_, rfl⟩
      have ha : Below w2.heap.size w2 w3 := by rw [← hw3]; exact (Below.refl _ _).alloc (Nat.le_refl _) _
      have BX := Lib.hid (show RefBox w3 w2.heap.size (.slice Au T.L.length cu) T.last by rw [← hw3]; exact RefBox.new _ _ _)
      have P3 := Lib.hid (C.below hrep ha)
      have N3 := Lib.hid ((hn.below ha).more ha.size)
      have B3 := Lib.hid (on hb ha)
      have HFD := Lib.hid (S.find P3.out HG.out p last hps)
      clear hrep hn hb ha HM
      go_wp2_with fail
      clear hw3
      refine HFD.out.mono ?_
      rintro e w4 ⟨rfl, hb4⟩
      have P4 := Lib.hid (C.below P3.out hb4)
      have N4 := Lib.hid ((N3.out.below hb4).more hb4.size)
      have BX4 := Lib.hid (BX.out.below hb4)
      have B4 := Lib.hid (on B3.out hb4)
      have x0 := BX4.out.c0
      have x1 := BX4.out.c1
      have HRF := Lib.hid (refFind_any T HG.out.fit HG.out.small.1 _ p last w4 N4.out)
      clear hb4 P3 N3 BX B3 HFD
      go_wp2_with fail
      refine HRF.out.mono ?_
      rintro e w5 ⟨rfl, hb5⟩
      have P5 := Lib.hid (C.below P4.out hb5)
      have N5 := Lib.hid ((N4.out.below hb5).more hb5.size)
      have BX5 := Lib.hid (BX4.out.below hb5)
      have B5 := Lib.hid (on B4.out hb5)
      have HSP := Lib.hid (S.spot P5.out HG.out p hps)
      clear hb5 P4 N4 BX4 B4 HRF x0 x1
      go_wp2_with fail
      refine HSP.out.mono ?_
      rintro e w6 ⟨rfl, hb6⟩
      have N6 := Lib.hid ((N5.out.below hb6).more hb6.size)
      have BX6 := Lib.hid (BX5.out.below hb6)
      have B6 := Lib.hid (on B5.out hb6)
      have x0 := BX6.out.c0
      have x1 := BX6.out.c1
      have HRS := Lib.hid (refSpot_any T HG.out.fit HG.out.small.1 _ p w6 N6.out)
      clear hb6 P5 N5 BX5 B5 HSP
      go_wp2_with fail
      refine HRS.out.mono ?_
      rintro e w7 ⟨rfl, hb7⟩
      have B7 := Lib.hid (on B6.out hb7)
      clear hb7 N6 BX6 B6 HRS x0 x1
      generalize M08.find T p.data.toList last = fd at *
      generalize spot T p.data.toList = sp at *
      go_wp2_with fail
      refine (HL.out _).mono ?_
      rintro e w8 ⟨rfl, hb8⟩
      have B8 := Lib.hid (on B7.out hb8)
      clear hb8
      go_wp2_with fail
      go_ret
      exact ⟨rfl, B8.out⟩
theorem two_keep {w6 w' w'' : World} {q : Nat} {y0 y1 : Value} (hq : q < w6.heap.size) (h : w'.cell? ⟨q, 0, none⟩ = some y0 ∧ w'.cell? ⟨q, 1, none⟩ = some y1 ∧ Below w6.heap.size w6 w') (hb : Below w'.heap.size w' w'') : w''.cell? ⟨q, 0, none⟩ = some y0 ∧ w''.cell? ⟨q, 1, none⟩ = some y1 ∧ Below w6.heap.size w6 w'' := by
  have hs := h.2.2.size
  exact ⟨(hb.cell (by show q < _; omega)).trans h.1, (hb.cell (by show q < _; omega)).trans h.2.1, on h.2.2 hb⟩
theorem two_of {w6 w' : World} {q : Nat} {y0 y1 : Value} (h : w'.cell? ⟨q, 0, none⟩ = some y0 ∧ w'.cell? ⟨q, 1, none⟩ = some y1 ∧ Below w6.heap.size w6 w') : Below w6.heap.size w6 w' := h.2.2
set_option maxHeartbeats 8000000 in
theorem seekReal_over {Rep : (Nat → Prop) → World → Value → Tr → Prop} (C : Trees Rep) (S : Seeks Rep) (IS : ∀ (s : ByteArray) (w : World), s.size ≤ 1048576 → Calls Tryd.prog 17 #[.string s] w fun e w' => e = .returned (.bool (M04.isPath s.data.toList)) ∧ Below w.heap.size w w')
    (w : World) (v : Value) (L : List Sn) (h : Snodes w.heap.size w v L) (n : Int) (p : ByteArray) :
    Calls Tryd.prog 4 #[v, .int .i64 n, .string p] w fun e w' => e = .returned (.bool true) ∧ Below w.heap.size w w' := by
  have HFW := Lib.hid (few_any v L w.heap.size w h)
  have HL := Lib.hid (fun w' => lives_over C S w')
  have HIS := Lib.hid IS
  have HH := Lib.hid h
  obtain ⟨A, c, rfl, -, -⟩ := h.form
  clear h IS
  generalize hm : L.length = m at *
  cases hf : isFew L with
  | false =>
    rw [hf] at HFW
    clear hf hm
    go_enter Tryd.func4, Tryd.ntmps4
    go_wp2_with fail
    refine HFW.out.mono ?_
    rintro e w1 ⟨rfl, hw⟩
    have hw := hw.symm
    subst hw
    go_wp2_with fail
    refine (HL.out _).mono ?_
    rintro e w2 ⟨rfl, hb⟩
    go_wp2_with fail
    go_ret
    exact ⟨rfl, hb⟩
  | true =>
    rw [hf] at HFW
    obtain ⟨hd, hl⟩ := few_is hf
    by_cases hp : (3000 : Int) < p.size
    · clear hf hm hd hl
      go_enter Tryd.func4, Tryd.ntmps4
      go_wp2_with fail
      refine HFW.out.mono ?_
      rintro e w1 ⟨rfl, hw⟩
      have hw := hw.symm
      subst hw
      go_wp2_with fail
      refine (HL.out _).mono ?_
      rintro e w2 ⟨rfl, hb⟩
      go_wp2_with fail
      go_ret
      exact ⟨rfl, hb⟩
    · have hps : p.size ≤ 1048576 := by omega
      have HM := made_over C w (.slice A m c) L HH.out hl hd
      obtain ⟨hG, hR⟩ := made_good hl
      have HG := Lib.hid hG
      have HR := Lib.hid hR
      have hsm : (made L).1.L.length ≤ 61 := by
        have := (made_is L L.length (Nat.le_refl _)).len
        rw [List.take_length] at this
        omega
      generalize (made L).1 = T at *
      have HM := Lib.hid HM
      have HPS := Lib.hid hps
      clear hf hm hd hl hG hR
      go_enter Tryd.func4, Tryd.ntmps4
      go_wp2_with fail
      refine HFW.out.mono ?_
      rintro e w1 ⟨rfl, hw⟩
      have hw := hw.symm
      subst hw
      go_wp2_with fail
      refine HM.out.mono ?_
      rintro e w2 ⟨pv, u, F, rfl, hrep, hn, -, hb⟩
      obtain ⟨Au, cu, rfl, -, -⟩ := hn.form
      obtain ⟨w3, hw3⟩ : ∃ w3, w2.alloc (.cells #[.slice Au T.L.length cu, .int .i64 T.last] 28) = w3 := ⟨_, rfl⟩
      obtain ⟨q, hq⟩ : ∃ q, w2.heap.size = q := ⟨_, rfl⟩
      have ha : Below w2.heap.size w2 w3 := by rw [← hw3]; exact (Below.refl _ _).alloc (Nat.le_refl _) _
      have BX := Lib.hid (show RefBox w3 q (.slice Au T.L.length cu) T.last by rw [← hw3, ← hq]; exact RefBox.new _ _ _)
      have P3 := Lib.hid (C.below hrep ha)
      have N3 := Lib.hid ((hn.below ha).more ha.size)
      have B3 := Lib.hid (on hb ha)
      have HRL := Lib.hid (S.real P3.out HG.out n)
      clear hrep hn hb ha HM
      go_wp2_with fail
      clear hw3 hq
      refine HRL.out.mono ?_
      rintro e w4 ⟨rfl, hb4⟩
      have P4 := Lib.hid (C.below P3.out hb4)
      have N4 := Lib.hid ((N3.out.below hb4).more hb4.size)
      have BX4 := Lib.hid (BX.out.below hb4)
      have B4 := Lib.hid (on B3.out hb4)
      have x0 := BX4.out.c0
      have x1 := BX4.out.c1
      have HRR := Lib.hid (refReal_any T HR.out HG.out.named HG.out.small.1 _ n w4 N4.out)
      clear hb4 P3 N3 BX B3 HRL
      go_wp2_with fail
      refine HRR.out.mono ?_
      rintro e w5 ⟨rfl, hb5⟩
      have P5 := Lib.hid (C.below P4.out hb5)
      have N5 := Lib.hid ((N4.out.below hb5).more hb5.size)
      have BX5 := Lib.hid (BX4.out.below hb5)
      have B5 := Lib.hid (on B4.out hb5)
      clear hb5 P4 N4 BX4 B4 HRR x0 x1
      have HRN := Lib.hid (fun (hk : (nodeAt T.L n).kind ≠ 0) (hl : (text (names T n)).length ≤ 1024) => real_found HR.out HG.out.named hk hl)
      have HRB : Hid (real T n = if (nodeAt T.L n).kind = 0 then ([], false) else (text (names T n), true)) := rfl
      have HSF := Lib.hid (fun hs => straight_found HR.out (p := p.data.toList) hs)
      have HST := Lib.hid (fun (w' : World) (hb : Below w5.heap.size w5 w') => S.straight (C.below P5.out hb) HG.out p HPS.out)
      have HSR := Lib.hid (fun (w' : World) (hb : Below w5.heap.size w5 w') => refStraight_any T HG.out.small.1 (.slice Au T.L.length cu) p (by omega) w' ((N5.out.below hb).more hb.size))
      have x0 := BX5.out.c0
      have x1 := BX5.out.c1
      have hq5 := BX5.out.lt
      generalize straight T p.data.toList = st at *
      obtain ⟨sb, hsb⟩ : ∃ sb : ByteArray, (⟨(real T n).1.toArray⟩ : ByteArray) = sb := ⟨_, rfl⟩
      have HSB : Hid (sb.data.toList = (real T n).1) := by rw [← hsb]; rfl
      rw [hsb]
      clear hsb
      obtain ⟨rk, hrk⟩ : ∃ rk, (real T n).2 = rk := ⟨_, rfl⟩
      have HRK := Lib.hid hrk
      rw [hrk]
      clear hrk
      go_wp2_with fail
      go_region_held3 (fun w' => w'.cell? ⟨q, 0, none⟩ = some (.slice Au T.L.length cu) ∧ w'.cell? ⟨q, 1, none⟩ = some (.int .i64 T.last) ∧ Below w5.heap.size w5 w')
        (first | exact two_keep hq5 (by assumption) hb7 | exact two_keep hq5 (by assumption) hb6 | exact ⟨x0, x1, (Below.refl _ _).drew⟩ | go_keep)
        (first
          | (go_at_call 15; refine (HST.out _ (two_of (by assumption))).mono ?_; rintro e w6 ⟨rfl, hb6⟩)
          | (go_at_call 16; refine (HSR.out _ (two_of (by assumption))).mono ?_; rintro e w7 ⟨rfl, hb7⟩))
      rename_i hHeld
      have HZ := Lib.hid (two_of hHeld)
      clear hHeld x0 x1 hq5 HSR N5 BX5
      have hcase : rk = false ∨ (rk = true ∧ sb.size ≤ 1024 ∧ M08.find T sb.data.toList false = (n, 0) ∧ M04.isPath sb.data.toList = true) ∨ (rk = true ∧ 1024 < sb.size) := by
        by_cases hk : (nodeAt T.L n).kind = 0
        · left; rw [← HRK.out, HRB.out, if_pos hk]
        · have e1 : rk = true := by rw [← HRK.out, HRB.out, if_neg hk]
          have e2 : sb.data.toList = text (names T n) := by rw [HSB.out, HRB.out, if_neg hk]
          by_cases hl : sb.size ≤ 1024
          · obtain ⟨r1, r2⟩ := HRN.out hk (by rw [← e2]; simpa using hl)
            right; left
            exact ⟨e1, hl, by rw [e2]; exact r1, by rw [e2]; exact r2⟩
          · right; right
            exact ⟨e1, by omega⟩
      clear HRN HRB HRK HSB
      rcases hcase with hr | ⟨hr, hl, hf, hi⟩ | ⟨hr, hl⟩
      subst hr
      go_wp2_with fail
      rotate_left
      subst hr
      have tl : (sb.size : Int) ≤ 1024 := by omega
      have HFD := S.find (C.below P5.out HZ.out) HG.out sb false (by omega)
      rw [hf] at HFD
      have HFD := Lib.hid HFD
      have HIP := HIS.out sb
      rw [hi] at HIP
      have HIP := Lib.hid (fun w => HIP w (by omega))
      clear hf hi
      go_wp2_with fail
      refine HFD.out.mono ?_
      rintro e w8 ⟨rfl, hb8⟩
      have HZ := Lib.hid (on HZ.out hb8)
      clear hb8 HFD
      go_wp2_with fail
      refine (HIP.out _).mono ?_
      rintro e w9 ⟨rfl, hb9⟩
      have HZ := Lib.hid (on HZ.out hb9)
      clear hb9 HIP
      go_wp2_with fail
      rotate_left
      subst hr
      have tl : (1024 : Int) < sb.size := by omega
      go_wp2_with fail
      rotate_left
      all_goals (
        refine (HST.out _ HZ.out).mono ?_
        rintro e w10 ⟨rfl, hb10⟩
        have HZ := Lib.hid (on HZ.out hb10)
        clear hb10
        cases st with
        | false =>
          go_wp2_with fail
          refine (HL.out _).mono ?_
          rintro e w11 ⟨rfl, hb11⟩
          have HZ := Lib.hid (on HZ.out hb11)
          clear hb11
          go_wp2_with fail
          go_ret
          exact ⟨rfl, on B5.out HZ.out⟩
        | true =>
          obtain ⟨s1, s2⟩ := HSF.out rfl
          generalize dirAt T 1 (M04.parts p.data.toList) = dr at *
          have HFP := S.find (C.below P5.out HZ.out) HG.out p true HPS.out
          rw [s1] at HFP
          have HFP := Lib.hid HFP
          have HRP := Lib.hid (fun (w' : World) (hb : Below w5.heap.size w5 w') => (by
            have := S.real (C.below P5.out hb) HG.out dr
            rw [s2] at this
            rw [show (⟨p.data.toList.toArray⟩ : ByteArray) = p from rfl] at this
            exact this : Calls Tryd.prog 13 #[pv, .int .i64 dr] w' fun e w'' => e = .returned (.tuple #[.string p, .bool true]) ∧ Below w'.heap.size w' w''))
          clear s1 s2
          go_wp2_with fail
          refine HFP.out.mono ?_
          rintro e w11 ⟨rfl, hb11⟩
          have HZ := Lib.hid (on HZ.out hb11)
          clear hb11 HFP
          go_wp2_with fail
          refine (HRP.out _ HZ.out).mono ?_
          rintro e w12 ⟨rfl, hb12⟩
          have HZ := Lib.hid (on HZ.out hb12)
          clear hb12 HRP
          go_wp2_with fail
          refine (HL.out _).mono ?_
          rintro e w13 ⟨rfl, hb13⟩
          have HZ := Lib.hid (on HZ.out hb13)
          clear hb13
          go_wp2_with fail
          go_ret
          exact ⟨rfl, on B5.out HZ.out⟩)
set_option maxHeartbeats 4000000 in
theorem seekNone_over {Rep : (Nat → Prop) → World → Value → Tr → Prop} (C : Trees Rep) (S : Seeks Rep) (N : NoSeek) (w : World) (p : ByteArray) (hp : p.size ≤ 1048576) (n : Int) (last : Bool) :
    Calls Tryd.prog 5 #[.string p, .int .i64 n, .bool last] w fun e w' => e = .returned (.bool true) ∧ Below w.heap.size w w' := by
  have HL := Lib.hid (fun w' => lives_over C S w')
  have HN := Lib.hid N
  obtain ⟨d, hd⟩ : ∃ d : ByteArray, d.data.toList = M04.clean p.data.toList := ⟨⟨(M04.clean p.data.toList).toArray⟩, rfl⟩
  have HC := Lib.hid (fun w' => W04.refClean_any p d hd (by omega) w')
  clear hd N
  go_enter Tryd.func5, Tryd.ntmps5
  go_wp2_with fail
  refine (HN.out.find _ p last).mono ?_
  rintro e w1 ⟨rfl, hb1⟩
  have B1 := Lib.hid hb1
  clear hb1
  go_wp2_with fail
  refine (HN.out.spot _ p).mono ?_
  rintro e w2 ⟨rfl, hb2⟩
  have B2 := Lib.hid (on B1.out hb2)
  clear hb2
  go_wp2_with fail
  refine (HN.out.real _ n).mono ?_
  rintro e w3 ⟨rfl, hb3⟩
  have B3 := Lib.hid (on B2.out hb3)
  clear hb3
  go_wp2_with fail
  refine (HC.out _).mono ?_
  rintro e w4 ⟨rfl, hb4⟩
  have B4 := Lib.hid (on B3.out hb4)
  clear hb4
  go_wp2_with fail
  refine (HN.out.straight _ d).mono ?_
  rintro e w5 ⟨rfl, hb5⟩
  have B5 := Lib.hid (on B4.out hb5)
  clear hb5
  go_wp2_with fail
  refine (HL.out _).mono ?_
  rintro e w6 ⟨rfl, hb6⟩
  have B6 := Lib.hid (on B5.out hb6)
  clear hb6
  go_wp2_with fail
  go_ret
  exact ⟨rfl, B6.out⟩
end Go.Proofs.YtmpjjfhmkfchfaaDoor.W08
