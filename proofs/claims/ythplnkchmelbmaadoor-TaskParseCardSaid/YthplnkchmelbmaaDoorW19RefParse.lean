/-
  Layer 19 (task), a walk: the document's Parse. The conditions stand in the statement.
-/
import Derived.Test.YthplnkchmelbmaaDoorW19Pieces
import Derived.Test.YthplnkchmelbmaaDoorW19Fits
import Derived.Test.YthplnkchmelbmaaDoorW19RefBare
import Derived.Test.YthplnkchmelbmaaDoorW19Parse
namespace Go.Proofs.YthplnkchmelbmaaDoor.W19
set_option maxRecDepth 100000
open Go Go.RowKit Go.Proofs.YthplnkchmelbmaaDoor.M19 Go.Proofs.YthplnkchmelbmaaDoor.Strs
open Go.Proofs.YthplnkchmelbmaaDoor.W09 (Tk)
open Go.Proofs.YthplnkchmelbmaaDoor.W04 (eq_bytes ne_bytes)
open Go.Proofs.YthplnkchmelbmaaDoor.Kit (ret_str ret_bool ret_int mk_of mk_bytes ba_ext below_draws on)

/-- what holds of a world between the rounds -/
def Mid (w W : World) (v : Value) (L : List Bytes) : Prop := TaskBox W w.heap.size 0 ⟨#[]⟩ ⟨#[]⟩ ∧ RowT W (w.heap.size + 1) v L ∧ Below w.heap.size w W
theorem Mid.draws {w W : World} {v : Value} {L : List Bytes} (h : Mid w W v L) (n : Nat) : Mid w (W.drewN n) v L := ⟨h.1.below (below_draws W n), h.2.1, on h.2.2 (below_draws W n)⟩
theorem rowT_at {W : World} {base g c : Nat} {L : List Bytes} {x : ByteArray} {j : Nat} (h : RowT W base (.slice (some ⟨g, 0, none⟩) L.length c) L) (hx : L[j]? = some x.data.toList) : W.cell? ⟨g, j, none⟩ = some (.string x) := by
  have hj := (List.getElem?_eq_some_iff.1 hx).1
  rw [World.ownsRow.cellAt h j (by omega), List.getElem?_map, hx]
  show some (strV x.data.toList) = _
  unfold strV
  rw [mk_bytes]
theorem box_other {W : World} {b b' j : Nat} {k : Int} {p t : ByteArray} (h : TaskBox W b k p t) (hne : b ≠ b') (u : Value) : TaskBox (W.setCell ⟨b', j, none⟩ u) b k p t :=
  (heap_setCell_other W ⟨b', j, none⟩ b u hne).trans h
theorem box_set {W : World} {b : Nat} {k : Int} {p t : ByteArray} (h : TaskBox W b k p t) (q u : ByteArray) : TaskBox ((W.setCell ⟨b, 1, none⟩ (.string q)).setCell ⟨b, 2, none⟩ (.string u)) b k q u :=
  heap_setCell_same _ b 2 _ _ _ (heap_setCell_same W b 1 _ _ _ h)
theorem head_at {L : List Bytes} {x : ByteArray} (h : L.head? = some x.data.toList) : L[0]? = some x.data.toList := by rw [← List.head?_eq_getElem?]; exact h
theorem list_two {L : List Bytes} (h : L.length = 2) : ∃ a f, L = [a, f] := by
  match L, h with
  | [a, f], _ => exact ⟨a, f, rfl⟩
theorem list_tri {L : List Bytes} (h : L.length = 3) : ∃ a f g, L = [a, f, g] := by
  match L, h with
  | [a, f, g], _ => exact ⟨a, f, g, rfl⟩
set_option maxHeartbeats 8000000 in
theorem refParse_any (s : ByteArray) (hs : s.size ≤ 2147483648) (w : World) : Calls Tryd.prog 12 #[.string s] w (Parsed w s.data.toList) := by
  obtain ⟨U, hU⟩ : ∃ U, w.alloc (.cells #[.int .i64 0, .string ⟨#[]⟩, .string ⟨#[]⟩] 23) = U := ⟨_, rfl⟩
  have TB := Lib.hid (hU ▸ box_new w 0 ⟨#[]⟩ ⟨#[]⟩)
  have HBU := Lib.hid (hU ▸ below_new w (.cells #[.int .i64 0, .string ⟨#[]⟩, .string ⟨#[]⟩] 23))
  have hUs : U.heap.size = w.heap.size + 1 := by rw [← hU]; simp
  have HPT := Lib.hid (parts_any s hs U)
  go_enter Tryd.func12, Tryd.ntmps12
  go_wp2_with fail
  refine (HPT.out).mono ?_
  rintro e w1 ⟨v, L, rfl, hp, hrow, hl, hb⟩
  rw [hUs] at hrow
  have HP := Lib.hid hp
  have M1 : Hid (Mid w w1 v L) := ⟨TB.out.below hb, hrow, on HBU.out hb⟩
  have HNE := Lib.hid hp.2.2
  clear hp hb HPT HBU TB hU hUs hrow
  obtain ⟨g, c, rfl, hg, hc1, hc2⟩ := rowT_form M1.out.2.1 HNE.out
  unfold maxLen at hc2
  obtain ⟨x, hx⟩ : ∃ x : ByteArray, L.head? = some x.data.toList := by
    cases hL : L with
    | nil => exact absurd hL HNE.out
    | cons a r => exact ⟨⟨a.toArray⟩, rfl⟩
  have HX := Lib.hid hx
  have hn1 : 1 ≤ L.length := by cases L with | nil => exact absurd rfl HNE.out | cons a r => simp
  clear hx
  have HSS := Lib.hid hs
  rw [Lib.size_eq] at hs
  have hsl := Lib.hid (And.intro hs hl)
  clear hs hl
  go_wp2_with fail
  go_loopw [5] (fun v wr => ∃ z : Int, 1 ≤ z ∧ z ≤ 7 ∧ v = .int .i64 z ∧ Hid (NoFit L z) ∧ Hid (Mid w wr (.slice (some ⟨g, 0, none⟩) L.length c) L)) (fun v _ => 7 - (intOf v).toNat)
  case atStart => exact ⟨1, by omega, by omega, rfl, fun k h0 hk => by omega, M1⟩
  case round =>
    obtain ⟨z, hz0, hz1, rfl, hno, hM⟩ := hrel
    by_cases hlt : z ≤ 6
    · obtain ⟨vb, hvb⟩ : ∃ vb : ByteArray, vb.data.toList = verb z := ⟨⟨(verb z).toArray⟩, rfl⟩
      have HVB := Lib.hid (fun w => verb_any z vb hvb w)
      have HK := Lib.hid (show Kind z from ⟨hz0, hlt⟩)
      have cx := rowT_at hM.out.2.1 (head_at HX.out)
      have hw0 : wrap64 z = z := by unfold wrap64; omega
      have HW0 := Lib.hid hw0
      clear hw0
      by_cases e0 : x.data.toList = vb.data.toList
      · have te := eq_bytes e0
        have te2 := beq_iff_eq.1 te
        have HVX := Lib.hid (e0.trans hvb)
        clear e0 hvb
        by_cases h3 : z = 3
        · subst h3
          have hh : Hid (has 3 = true) := rfl
          by_cases hwant : L.length = 3
          · obtain ⟨a, f, gg, hL⟩ := list_tri hwant
            have hq := HP.out
            have hxx := HX.out
            rw [hL] at hq hxx
            have hav : a = verb 3 := (Option.some.inj hxx).trans HVX.out
            obtain ⟨fb, hf⟩ : ∃ fb : ByteArray, fb.data.toList = f := ⟨⟨f.toArray⟩, rfl⟩
            obtain ⟨gb, hgb⟩ : ∃ gb : ByteArray, gb.data.toList = gg := ⟨⟨gg.toArray⟩, rfl⟩
            have hfs : fb.size ≤ 2147483648 := by
              have h1 := hsl.out.1
              rw [← hq.1] at h1
              rw [Lib.size_eq, hf]
              simp only [joined, List.length_append, List.length_cons] at h1
              omega
            have hgs : gb.size ≤ 2147483648 := by
              have h1 := hsl.out.1
              rw [← hq.1] at h1
              rw [Lib.size_eq, hgb]
              simp only [joined, List.length_append, List.length_cons] at h1
              omega
            have HS : Hid (∀ (d t : Bytes) (o p : Bool), WordOf fb.data.toList d o → WordOf gb.data.toList t p → Split s.data.toList ⟨3, d, t⟩ (o && p)) := fun d t o p h1 h2 => fits_three hq hav HK.out hh.out (hf ▸ h1) (hgb ▸ h2)
            have HF1 := Lib.hid (fun w => refBare_any fb (by omega) w)
            have HF2 := Lib.hid (fun w => refBare_any gb (by omega) w)
            have HC1 : Hid (∀ W : World, RowT W (w.heap.size + 1) (.slice (some ⟨g, 0, none⟩) L.length c) L → W.cell? ⟨g, 1, none⟩ = some (.string fb)) := fun W h => rowT_at h (by rw [hL, hf]; rfl)
            have HC2 : Hid (∀ W : World, RowT W (w.heap.size + 1) (.slice (some ⟨g, 0, none⟩) L.length c) L → W.cell? ⟨g, 2, none⟩ = some (.string gb)) := fun W h => rowT_at h (by rw [hL, hgb]; rfl)
            have hnl : L.length = 3 := hwant
            rw [hnl] at hc1 hM HC1 HC2 ⊢
            clear hq hxx hav hf hgb hL hwant hnl HX HP HVX hno hn1 HNE hsl M1
            go_wp2_with fail
            go_quiet (exact Calls.quiet_of_same (HVB.out _))
            have M2 := Lib.hid (hM.out.draws nq)
            generalize wr.drewN nq = w3 at M2 ⊢
            clear hM cx
            obtain ⟨V, hV⟩ : ∃ V, w3.alloc (.cells #[.int .i64 3, .string ⟨#[]⟩, .string ⟨#[]⟩] 23) = V := ⟨_, rfl⟩
            have HBV := Lib.hid (hV ▸ below_new w3 (.cells #[.int .i64 3, .string ⟨#[]⟩, .string ⟨#[]⟩] 23))
            have TX := Lib.hid (hV ▸ box_new w3 3 ⟨#[]⟩ ⟨#[]⟩)
            have TR := Lib.hid (M2.out.1.below HBV.out)
            have RV := Lib.hid (rowT_below M2.out.2.1 HBV.out)
            have BV := Lib.hid (on M2.out.2.2 HBV.out)
            have hne : Hid (w.heap.size ≠ w3.heap.size) := Nat.ne_of_lt M2.out.1.lt
            have hws : Hid (w.heap.size ≤ w3.heap.size) := M2.out.2.2.size
            have d1 := HC1.out V RV.out
            rw [← hV] at d1
            have HV := Lib.hid hV
            clear M2 HBV HC1 hV
            go_wp2_with fail
            refine (HF1.out _).mono ?_
            rintro e w4 ⟨d, o, rfl, ho, hb⟩
            rw [HV.out] at hb
            have WD := Lib.hid ho
            have T4 := Lib.hid (TX.out.below hb)
            have R4 := Lib.hid (TR.out.below hb)
            have B4 := Lib.hid (on BV.out hb)
            have W4 := Lib.hid (rowT_below RV.out hb)
            have d2 := HC2.out w4 W4.out
            clear ho hb HV d1 HF1 TX TR BV RV HC2
            go_wp2_with fail
            refine (HF2.out _).mono ?_
            rintro e w5 ⟨t, p, rfl, ho, hb⟩
            have HSP := Lib.hid (HS.out _ _ _ _ WD.out ho)
            have T5 := Lib.hid (T4.out.below hb)
            have R5 := Lib.hid (R4.out.below hb)
            have B5 := Lib.hid (on B4.out hb)
            clear ho hb d2 HF2 T4 R4 B4 W4 WD HS
            cases o with
            | false =>
              have HE := Lib.hid (ans_form HSP.out)
              have b0 := R5.out.c0
              have b1 := R5.out.c1
              have b2 := R5.out.c2
              have f0 := R5.out.fr 0
              have f1 := R5.out.fr 1
              have f2 := R5.out.fr 2
              go_wp2_with fail
              refine bodyPost_ret_by (v := .tuple #[taskV 0 ⟨#[]⟩ ⟨#[]⟩, .int .i64 3]) ?_ rfl ?_
              · rw [results_cell_one_tmp rfl]
                go_simp
                rfl
              · exact ⟨0, ⟨#[]⟩, ⟨#[]⟩, 3, rfl, HE.out, below_set B5.out (Nat.le_refl _) _ _ _⟩
            | true =>
              cases p with
              | false =>
                have HE := Lib.hid (ans_form HSP.out)
                have b0 := R5.out.c0
                have b1 := R5.out.c1
                have b2 := R5.out.c2
                have f0 := R5.out.fr 0
                have f1 := R5.out.fr 1
                have f2 := R5.out.fr 2
                go_wp2_with fail
                refine bodyPost_ret_by (v := .tuple #[taskV 0 ⟨#[]⟩ ⟨#[]⟩, .int .i64 3]) ?_ rfl ?_
                · rw [results_cell_one_tmp rfl]
                  go_simp
                  rfl
                · exact ⟨0, ⟨#[]⟩, ⟨#[]⟩, 3, rfl, HE.out, below_set B5.out (Nat.le_refl _) _ _ _⟩
              | true =>
                have HSZ := Lib.hid (split_size (p := d) (t := t) HSP.out)
                have HR := Lib.hid (fun w => refRight_any 3 d t (by have := HSZ.out.1; have := HSS.out; omega) (by have := HSZ.out.2; have := HSS.out; omega) w)
                have x0 := T5.out.c0
                have x1 := T5.out.c1
                have x2 := T5.out.c2
                have y1 := T5.out.fr 1
                have y2 := T5.out.fr 2
                obtain ⟨w6, hw6⟩ : ∃ w6, (w5.setCell ⟨w3.heap.size, 1, none⟩ (.string d)).setCell ⟨w3.heap.size, 2, none⟩ (.string t) = w6 := ⟨_, rfl⟩
                have T6 := Lib.hid (hw6 ▸ box_set T5.out d t)
                have R6 := Lib.hid (hw6 ▸ box_other (box_other R5.out hne.out (.string d)) hne.out (.string t))
                have B6 := Lib.hid (hw6 ▸ (B5.out.setCell (p := ⟨w3.heap.size, 1, none⟩) hws.out (.string d)).setCell (p := ⟨w3.heap.size, 2, none⟩) hws.out (.string t))
                have z0 := T6.out.c0
                have z1 := T6.out.c1
                have z2 := T6.out.c2
                unfold taskV at HR
                go_wp2_with fail
                refine (HR.out _).mono ?_
                rintro e w7 ⟨rfl, hb⟩
                have T7 := Lib.hid (T6.out.below hb)
                have R7 := Lib.hid (R6.out.below hb)
                have B7 := Lib.hid (on B6.out hb)
                clear hb z0 z1 z2 T6 R6 B6 hw6 x0 x1 x2 y1 y2 T5 R5 B5 HR
                have b0 := R7.out.c0
                have b1 := R7.out.c1
                have b2 := R7.out.c2
                have f0 := R7.out.fr 0
                have f1 := R7.out.fr 1
                have f2 := R7.out.fr 2
                cases hr : right ⟨3, d.data.toList, (t : ByteArray).data.toList⟩ with
                | false =>
                  have HE := Lib.hid (ans_arg HSP.out hr)
                  clear hr
                  go_wp2_with fail
                  refine bodyPost_ret_by (v := .tuple #[taskV 0 ⟨#[]⟩ ⟨#[]⟩, .int .i64 2]) ?_ rfl ?_
                  · rw [results_cell_one_tmp rfl]
                    go_simp
                    rfl
                  · exact ⟨0, ⟨#[]⟩, ⟨#[]⟩, 2, rfl, HE.out, below_set B7.out (Nat.le_refl _) _ _ _⟩
                | true =>
                  have HE := Lib.hid (ans_ok HSP.out hr)
                  have z0 := T7.out.c0
                  have z1 := T7.out.c1
                  have z2 := T7.out.c2
                  clear hr
                  go_wp2_with fail
                  refine bodyPost_ret_by (v := .tuple #[taskV 3 d t, .int .i64 0]) ?_ rfl ?_
                  · rw [results_cell_one_tmp rfl]
                    go_simp
                    rfl
                  · exact ⟨3, d, t, 0, rfl, HE.out, below_set B7.out (Nat.le_refl _) _ _ _⟩
          · have HN : Hid (NoFit L (3 + 1)) := noFit_next hno.out (fun e => hwant (by have := e.2; unfold want at this; rw [hh.out] at this; exact this))
            have tn : ((L.length : Int) != 3) = true := by simp <;> omega
            clear hwant
            go_wp2_with fail
            go_quiet (exact Calls.quiet_of_same (HVB.out _))
            have M2 := Lib.hid (hM.out.draws nq)
            go_wp2_with fail
            go_roundw
            case rel => exact ⟨3 + 1, by omega, by omega, by first | rfl | go_num, HN, M2⟩
            case measure => simp [intOf] <;> omega
        · by_cases h5 : 5 ≤ z
          · have hh : Hid (has z = true) := by
              show has z = true
              have : z = 5 ∨ z = 6 := by omega
              rcases this with rfl | rfl <;> rfl
            have t3 : (z == 3) = false := by simp [h3]
            clear h3
            by_cases hwant : L.length = 3
            · obtain ⟨a, f, gg, hL⟩ := list_tri hwant
              have hq := HP.out
              have hxx := HX.out
              rw [hL] at hq hxx
              have hav : a = verb z := (Option.some.inj hxx).trans HVX.out
              obtain ⟨fb, hf⟩ : ∃ fb : ByteArray, fb.data.toList = f := ⟨⟨f.toArray⟩, rfl⟩
              obtain ⟨gb, hgb⟩ : ∃ gb : ByteArray, gb.data.toList = gg := ⟨⟨gg.toArray⟩, rfl⟩
              have hfs : fb.size ≤ 2147483648 := by
                have h1 := hsl.out.1
                rw [← hq.1] at h1
                rw [Lib.size_eq, hf]
                simp only [joined, List.length_append, List.length_cons] at h1
                omega
              have hgs : gb.size ≤ 2147483648 := by
                have h1 := hsl.out.1
                rw [← hq.1] at h1
                rw [Lib.size_eq, hgb]
                simp only [joined, List.length_append, List.length_cons] at h1
                omega
              have HS : Hid (∀ (d t : Bytes) (o p : Bool), WordOf fb.data.toList d o → WordOf gb.data.toList t p → Split s.data.toList ⟨z, d, t⟩ (o && p)) := fun d t o p h1 h2 => fits_three hq hav HK.out hh.out (hf ▸ h1) (hgb ▸ h2)
              have HF1 := Lib.hid (fun w => refBare_any fb (by omega) w)
              have HF2 := Lib.hid (fun w => refBare_any gb (by omega) w)
              have HC1 : Hid (∀ W : World, RowT W (w.heap.size + 1) (.slice (some ⟨g, 0, none⟩) L.length c) L → W.cell? ⟨g, 1, none⟩ = some (.string fb)) := fun W h => rowT_at h (by rw [hL, hf]; rfl)
              have HC2 : Hid (∀ W : World, RowT W (w.heap.size + 1) (.slice (some ⟨g, 0, none⟩) L.length c) L → W.cell? ⟨g, 2, none⟩ = some (.string gb)) := fun W h => rowT_at h (by rw [hL, hgb]; rfl)
              have hnl : L.length = 3 := hwant
              rw [hnl] at hc1 hM HC1 HC2 ⊢
              clear hq hxx hav hf hgb hL hwant hnl HX HP HVX hno hn1 HNE hsl M1
              go_wp2_with fail
              go_quiet (exact Calls.quiet_of_same (HVB.out _))
              have M2 := Lib.hid (hM.out.draws nq)
              generalize wr.drewN nq = w3 at M2 ⊢
              clear hM cx
              obtain ⟨V, hV⟩ : ∃ V, w3.alloc (.cells #[.int .i64 z, .string ⟨#[]⟩, .string ⟨#[]⟩] 23) = V := ⟨_, rfl⟩
              have HBV := Lib.hid (hV ▸ below_new w3 (.cells #[.int .i64 z, .string ⟨#[]⟩, .string ⟨#[]⟩] 23))
              have TX := Lib.hid (hV ▸ box_new w3 z ⟨#[]⟩ ⟨#[]⟩)
              have TR := Lib.hid (M2.out.1.below HBV.out)
              have RV := Lib.hid (rowT_below M2.out.2.1 HBV.out)
              have BV := Lib.hid (on M2.out.2.2 HBV.out)
              have hne : Hid (w.heap.size ≠ w3.heap.size) := Nat.ne_of_lt M2.out.1.lt
              have hws : Hid (w.heap.size ≤ w3.heap.size) := M2.out.2.2.size
              have d1 := HC1.out V RV.out
              rw [← hV] at d1
              have HV := Lib.hid hV
              clear M2 HBV HC1 hV
              go_wp2_with fail
              refine (HF1.out _).mono ?_
              rintro e w4 ⟨d, o, rfl, ho, hb⟩
              rw [HV.out] at hb
              have WD := Lib.hid ho
              have T4 := Lib.hid (TX.out.below hb)
              have R4 := Lib.hid (TR.out.below hb)
              have B4 := Lib.hid (on BV.out hb)
              have W4 := Lib.hid (rowT_below RV.out hb)
              have d2 := HC2.out w4 W4.out
              clear ho hb HV d1 HF1 TX TR BV RV HC2
              go_wp2_with fail
              refine (HF2.out _).mono ?_
              rintro e w5 ⟨t, p, rfl, ho, hb⟩
              have HSP := Lib.hid (HS.out _ _ _ _ WD.out ho)
              have T5 := Lib.hid (T4.out.below hb)
              have R5 := Lib.hid (R4.out.below hb)
              have B5 := Lib.hid (on B4.out hb)
              clear ho hb d2 HF2 T4 R4 B4 W4 WD HS
              cases o with
              | false =>
                have HE := Lib.hid (ans_form HSP.out)
                have b0 := R5.out.c0
                have b1 := R5.out.c1
                have b2 := R5.out.c2
                have f0 := R5.out.fr 0
                have f1 := R5.out.fr 1
                have f2 := R5.out.fr 2
                go_wp2_with fail
                refine bodyPost_ret_by (v := .tuple #[taskV 0 ⟨#[]⟩ ⟨#[]⟩, .int .i64 3]) ?_ rfl ?_
                · rw [results_cell_one_tmp rfl]
                  go_simp
                  rfl
                · exact ⟨0, ⟨#[]⟩, ⟨#[]⟩, 3, rfl, HE.out, below_set B5.out (Nat.le_refl _) _ _ _⟩
              | true =>
                cases p with
                | false =>
                  have HE := Lib.hid (ans_form HSP.out)
                  have b0 := R5.out.c0
                  have b1 := R5.out.c1
                  have b2 := R5.out.c2
                  have f0 := R5.out.fr 0
                  have f1 := R5.out.fr 1
                  have f2 := R5.out.fr 2
                  go_wp2_with fail
                  refine bodyPost_ret_by (v := .tuple #[taskV 0 ⟨#[]⟩ ⟨#[]⟩, .int .i64 3]) ?_ rfl ?_
                  · rw [results_cell_one_tmp rfl]
                    go_simp
                    rfl
                  · exact ⟨0, ⟨#[]⟩, ⟨#[]⟩, 3, rfl, HE.out, below_set B5.out (Nat.le_refl _) _ _ _⟩
                | true =>
                  have HSZ := Lib.hid (split_size (p := d) (t := t) HSP.out)
                  have HR := Lib.hid (fun w => refRight_any z d t (by have := HSZ.out.1; have := HSS.out; omega) (by have := HSZ.out.2; have := HSS.out; omega) w)
                  have x0 := T5.out.c0
                  have x1 := T5.out.c1
                  have x2 := T5.out.c2
                  have y1 := T5.out.fr 1
                  have y2 := T5.out.fr 2
                  obtain ⟨w6, hw6⟩ : ∃ w6, (w5.setCell ⟨w3.heap.size, 1, none⟩ (.string d)).setCell ⟨w3.heap.size, 2, none⟩ (.string t) = w6 := ⟨_, rfl⟩
                  have T6 := Lib.hid (hw6 ▸ box_set T5.out d t)
                  have R6 := Lib.hid (hw6 ▸ box_other (box_other R5.out hne.out (.string d)) hne.out (.string t))
                  have B6 := Lib.hid (hw6 ▸ (B5.out.setCell (p := ⟨w3.heap.size, 1, none⟩) hws.out (.string d)).setCell (p := ⟨w3.heap.size, 2, none⟩) hws.out (.string t))
                  have z0 := T6.out.c0
                  have z1 := T6.out.c1
                  have z2 := T6.out.c2
                  unfold taskV at HR
                  go_wp2_with fail
                  refine (HR.out _).mono ?_
                  rintro e w7 ⟨rfl, hb⟩
                  have T7 := Lib.hid (T6.out.below hb)
                  have R7 := Lib.hid (R6.out.below hb)
                  have B7 := Lib.hid (on B6.out hb)
                  clear hb z0 z1 z2 T6 R6 B6 hw6 x0 x1 x2 y1 y2 T5 R5 B5 HR
                  have b0 := R7.out.c0
                  have b1 := R7.out.c1
                  have b2 := R7.out.c2
                  have f0 := R7.out.fr 0
                  have f1 := R7.out.fr 1
                  have f2 := R7.out.fr 2
                  cases hr : right ⟨z, d.data.toList, (t : ByteArray).data.toList⟩ with
                  | false =>
                    have HE := Lib.hid (ans_arg HSP.out hr)
                    clear hr
                    go_wp2_with fail
                    refine bodyPost_ret_by (v := .tuple #[taskV 0 ⟨#[]⟩ ⟨#[]⟩, .int .i64 2]) ?_ rfl ?_
                    · rw [results_cell_one_tmp rfl]
                      go_simp
                      rfl
                    · exact ⟨0, ⟨#[]⟩, ⟨#[]⟩, 2, rfl, HE.out, below_set B7.out (Nat.le_refl _) _ _ _⟩
                  | true =>
                    have HE := Lib.hid (ans_ok HSP.out hr)
                    have z0 := T7.out.c0
                    have z1 := T7.out.c1
                    have z2 := T7.out.c2
                    clear hr
                    go_wp2_with fail
                    refine bodyPost_ret_by (v := .tuple #[taskV z d t, .int .i64 0]) ?_ rfl ?_
                    · rw [results_cell_one_tmp rfl]
                      go_simp
                      rfl
                    · exact ⟨z, d, t, 0, rfl, HE.out, below_set B7.out (Nat.le_refl _) _ _ _⟩
            · have HN : Hid (NoFit L (z + 1)) := noFit_next hno.out (fun e => hwant (by have := e.2; unfold want at this; rw [hh.out] at this; exact this))
              have tn : ((L.length : Int) != 3) = true := by simp <;> omega
              clear hwant
              go_wp2_with fail
              go_quiet (exact Calls.quiet_of_same (HVB.out _))
              have M2 := Lib.hid (hM.out.draws nq)
              go_wp2_with fail
              go_roundw
              case rel => exact ⟨z + 1, by omega, by omega, by first | rfl | go_num, HN, M2⟩
              case measure => simp [intOf] <;> omega
          · have hh : Hid (has z = false) := by
              show has z = false
              have : z = 1 ∨ z = 2 ∨ z = 4 := by omega
              rcases this with rfl | rfl | rfl <;> rfl
            have t3 : (z == 3) = false := by simp [h3]
            clear h3
            by_cases hwant : L.length = 2
            · obtain ⟨a, f, hL⟩ := list_two hwant
              have hq := HP.out
              have hxx := HX.out
              rw [hL] at hq hxx
              have hav : a = verb z := (Option.some.inj hxx).trans HVX.out
              obtain ⟨fb, hf⟩ : ∃ fb : ByteArray, fb.data.toList = f := ⟨⟨f.toArray⟩, rfl⟩
              have hfs : fb.size ≤ 2147483648 := by
                have h1 := hsl.out.1
                rw [← hq.1] at h1
                rw [Lib.size_eq, hf]
                simp only [joined, List.length_append, List.length_cons] at h1
                omega
              have HS : Hid (∀ (d : Bytes) (o : Bool), WordOf fb.data.toList d o → Split s.data.toList ⟨z, d, []⟩ o) := fun d o h1 => fits_two hq hav HK.out hh.out (hf ▸ h1)
              have HF1 := Lib.hid (fun w => refBare_any fb (by omega) w)
              have HC1 : Hid (∀ W : World, RowT W (w.heap.size + 1) (.slice (some ⟨g, 0, none⟩) L.length c) L → W.cell? ⟨g, 1, none⟩ = some (.string fb)) := fun W h => rowT_at h (by rw [hL, hf]; rfl)
              have hnl : L.length = 2 := hwant
              rw [hnl] at hc1 hM HC1 ⊢
              clear hq hxx hav hf  hL hwant hnl HX HP HVX hno hn1 HNE hsl M1
              go_wp2_with fail
              go_quiet (exact Calls.quiet_of_same (HVB.out _))
              have M2 := Lib.hid (hM.out.draws nq)
              generalize wr.drewN nq = w3 at M2 ⊢
              clear hM cx
              obtain ⟨V, hV⟩ : ∃ V, w3.alloc (.cells #[.int .i64 z, .string ⟨#[]⟩, .string ⟨#[]⟩] 23) = V := ⟨_, rfl⟩
              have HBV := Lib.hid (hV ▸ below_new w3 (.cells #[.int .i64 z, .string ⟨#[]⟩, .string ⟨#[]⟩] 23))
              have TX := Lib.hid (hV ▸ box_new w3 z ⟨#[]⟩ ⟨#[]⟩)
              have TR := Lib.hid (M2.out.1.below HBV.out)
              have RV := Lib.hid (rowT_below M2.out.2.1 HBV.out)
              have BV := Lib.hid (on M2.out.2.2 HBV.out)
              have hne : Hid (w.heap.size ≠ w3.heap.size) := Nat.ne_of_lt M2.out.1.lt
              have hws : Hid (w.heap.size ≤ w3.heap.size) := M2.out.2.2.size
              have d1 := HC1.out V RV.out
              rw [← hV] at d1
              have HV := Lib.hid hV
              clear M2 HBV HC1 hV
              go_wp2_with fail
              refine (HF1.out _).mono ?_
              rintro e w4 ⟨d, o, rfl, ho, hb⟩
              rw [HV.out] at hb
              have WD := Lib.hid ho
              have T4 := Lib.hid (TX.out.below hb)
              have R4 := Lib.hid (TR.out.below hb)
              have B4 := Lib.hid (on BV.out hb)
              have HSP := Lib.hid (HS.out _ _ WD.out)
              have T5 := T4
              have R5 := R4
              have B5 := B4
              clear ho hb HV d1 HF1 TX TR BV RV T4 R4 B4 WD HS
              obtain ⟨w5, hw5⟩ : ∃ w5, w5 = w4 := ⟨_, rfl⟩
              subst hw5
              cases o with
              | false =>
                have HE := Lib.hid (ans_form HSP.out)
                have b0 := R5.out.c0
                have b1 := R5.out.c1
                have b2 := R5.out.c2
                have f0 := R5.out.fr 0
                have f1 := R5.out.fr 1
                have f2 := R5.out.fr 2
                go_wp2_with fail
                refine bodyPost_ret_by (v := .tuple #[taskV 0 ⟨#[]⟩ ⟨#[]⟩, .int .i64 3]) ?_ rfl ?_
                · rw [results_cell_one_tmp rfl]
                  go_simp
                  rfl
                · exact ⟨0, ⟨#[]⟩, ⟨#[]⟩, 3, rfl, HE.out, below_set B5.out (Nat.le_refl _) _ _ _⟩
              | true =>
                have HSZ := Lib.hid (split_size (p := d) (t := ⟨#[]⟩) HSP.out)
                have HR := Lib.hid (fun w => refRight_any z d ⟨#[]⟩ (by have := HSZ.out.1; have := HSS.out; omega) (by have := HSZ.out.2; have := HSS.out; omega) w)
                have x0 := T5.out.c0
                have x1 := T5.out.c1
                have x2 := T5.out.c2
                have y1 := T5.out.fr 1
                have y2 := T5.out.fr 2
                obtain ⟨w6, hw6⟩ : ∃ w6, (w5.setCell ⟨w3.heap.size, 1, none⟩ (.string d)).setCell ⟨w3.heap.size, 2, none⟩ (.string ⟨#[]⟩) = w6 := ⟨_, rfl⟩
                have T6 := Lib.hid (hw6 ▸ box_set T5.out d ⟨#[]⟩)
                have R6 := Lib.hid (hw6 ▸ box_other (box_other R5.out hne.out (.string d)) hne.out (.string ⟨#[]⟩))
                have B6 := Lib.hid (hw6 ▸ (B5.out.setCell (p := ⟨w3.heap.size, 1, none⟩) hws.out (.string d)).setCell (p := ⟨w3.heap.size, 2, none⟩) hws.out (.string ⟨#[]⟩))
                have z0 := T6.out.c0
                have z1 := T6.out.c1
                have z2 := T6.out.c2
                unfold taskV at HR
                go_wp2_with fail
                refine (HR.out _).mono ?_
                rintro e w7 ⟨rfl, hb⟩
                have T7 := Lib.hid (T6.out.below hb)
                have R7 := Lib.hid (R6.out.below hb)
                have B7 := Lib.hid (on B6.out hb)
                clear hb z0 z1 z2 T6 R6 B6 hw6 x0 x1 x2 y1 y2 T5 R5 B5 HR
                have b0 := R7.out.c0
                have b1 := R7.out.c1
                have b2 := R7.out.c2
                have f0 := R7.out.fr 0
                have f1 := R7.out.fr 1
                have f2 := R7.out.fr 2
                cases hr : right ⟨z, d.data.toList, (⟨#[]⟩ : ByteArray).data.toList⟩ with
                | false =>
                  have HE := Lib.hid (ans_arg HSP.out hr)
                  clear hr
                  go_wp2_with fail
                  refine bodyPost_ret_by (v := .tuple #[taskV 0 ⟨#[]⟩ ⟨#[]⟩, .int .i64 2]) ?_ rfl ?_
                  · rw [results_cell_one_tmp rfl]
                    go_simp
                    rfl
                  · exact ⟨0, ⟨#[]⟩, ⟨#[]⟩, 2, rfl, HE.out, below_set B7.out (Nat.le_refl _) _ _ _⟩
                | true =>
                  have HE := Lib.hid (ans_ok HSP.out hr)
                  have z0 := T7.out.c0
                  have z1 := T7.out.c1
                  have z2 := T7.out.c2
                  clear hr
                  go_wp2_with fail
                  refine bodyPost_ret_by (v := .tuple #[taskV z d ⟨#[]⟩, .int .i64 0]) ?_ rfl ?_
                  · rw [results_cell_one_tmp rfl]
                    go_simp
                    rfl
                  · exact ⟨z, d, ⟨#[]⟩, 0, rfl, HE.out, below_set B7.out (Nat.le_refl _) _ _ _⟩
            · have HN : Hid (NoFit L (z + 1)) := noFit_next hno.out (fun e => hwant (by have := e.2; unfold want at this; rw [hh.out] at this; exact this))
              have tn : ((L.length : Int) != 2) = true := by simp <;> omega
              clear hwant
              go_wp2_with fail
              go_quiet (exact Calls.quiet_of_same (HVB.out _))
              have M2 := Lib.hid (hM.out.draws nq)
              go_wp2_with fail
              go_roundw
              case rel => exact ⟨z + 1, by omega, by omega, by first | rfl | go_num, HN, M2⟩
              case measure => simp [intOf] <;> omega
      · have te := ne_bytes e0
        have te2 := beq_eq_false_iff_ne.1 te
        have HN : Hid (NoFit L (z + 1)) := noFit_next hno.out (fun e => e0 (by have := e.1; rw [HX.out] at this; rw [Option.some.inj this, hvb]))
        clear e0 hvb
        by_cases h3 : z = 3
        · subst h3
          have hh : Hid (has 3 = true) := rfl
          go_wp2_with fail
          go_quiet (exact Calls.quiet_of_same (HVB.out _))
          have M2 := Lib.hid (hM.out.draws nq)
          go_wp2_with fail
          go_roundw
          case rel => exact ⟨3 + 1, by omega, by omega, by first | rfl | go_num, HN, M2⟩
          case measure => simp [intOf] <;> omega
        · by_cases h5 : 5 ≤ z
          · have hh : Hid (has z = true) := by
              show has z = true
              have : z = 5 ∨ z = 6 := by omega
              rcases this with rfl | rfl <;> rfl
            have t3 : (z == 3) = false := by simp [h3]
            clear h3
            go_wp2_with fail
            go_quiet (exact Calls.quiet_of_same (HVB.out _))
            have M2 := Lib.hid (hM.out.draws nq)
            go_wp2_with fail
            go_roundw
            case rel => exact ⟨z + 1, by omega, by omega, by first | rfl | go_num, HN, M2⟩
            case measure => simp [intOf] <;> omega
          · have hh : Hid (has z = false) := by
              show has z = false
              have : z = 1 ∨ z = 2 ∨ z = 4 := by omega
              rcases this with rfl | rfl | rfl <;> rfl
            have t3 : (z == 3) = false := by simp [h3]
            clear h3
            go_wp2_with fail
            go_quiet (exact Calls.quiet_of_same (HVB.out _))
            have M2 := Lib.hid (hM.out.draws nq)
            go_wp2_with fail
            go_roundw
            case rel => exact ⟨z + 1, by omega, by omega, by first | rfl | go_num, HN, M2⟩
            case measure => simp [intOf] <;> omega
    · obtain rfl : z = 7 := by omega
      have HE := Lib.hid (noFit_end hno.out HP.out)
      have b0 := hM.out.1.c0
      have b1 := hM.out.1.c1
      have b2 := hM.out.1.c2
      have f0 := hM.out.1.fr 0
      have f1 := hM.out.1.fr 1
      have f2 := hM.out.1.fr 2
      go_wp2_with fail
      refine bodyPost_ret_by (v := .tuple #[taskV 0 ⟨#[]⟩ ⟨#[]⟩, .int .i64 3]) ?_ rfl ?_
      · rw [results_cell_one_tmp rfl]
        go_simp
        rfl
      · exact ⟨0, ⟨#[]⟩, ⟨#[]⟩, 3, rfl, HE.out, below_set hM.out.2.2 (Nat.le_refl _) _ _ _⟩
end Go.Proofs.YthplnkchmelbmaaDoor.W19
