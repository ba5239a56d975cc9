/-
  Layer 6 (ents), walks: the plain answers Put, Merge, Next and Same: what each returns; new memory may be laid, nothing that was there is changed.
-/
import Derived.Test.YtelphegeeiocnaaW06Walk
namespace Go.Proofs.Ytelphegeeiocnaa.W06
open Go Go.RowKit Go.Proofs.Ytelphegeeiocnaa.Strs Go.Proofs.Ytelphegeeiocnaa.Recs Go.Proofs.Ytelphegeeiocnaa.M06
open Go.Proofs.Ytelphegeeiocnaa.M03 (lt)
open Go.Proofs.Ytelphegeeiocnaa.W03 (less_bytes same_bytes)
open Go.Proofs.Ytelphegeeiocnaa.Kit (ret_str ret_bool ret_int mk_of mk_bytes ba_ext below_draws on)

theorem own_lower {w : World} {a b : Nat} {v : Value} {L : List Ent} (hab : b ≤ a) (h : OwnEnts w a v L) : OwnEnts w b v L := by
  refine ⟨h.1, ?_⟩
  rcases h.2 with hn | ⟨g, cap, cur, hv, hb, hg, rest⟩
  · exact Or.inl hn
  · exact Or.inr ⟨g, cap, cur, hv, by omega, hg, rest⟩
theorem filter_next {L : List Ent} {p : Ent → Bool} {k : Nat} (hk : k < L.length) (h : p L[k] = true) : (L.take (k + 1)).filter p = (L.take k).filter p ++ [L[k]] := by
  rw [take_at hk, List.filter_append]; simp [h]
theorem filter_skip {L : List Ent} {p : Ent → Bool} {k : Nat} (hk : k < L.length) (h : p L[k] = false) : (L.take (k + 1)).filter p = (L.take k).filter p := by
  rw [take_at hk, List.filter_append]; simp [h]

set_option maxHeartbeats 2000000 in
theorem refPut_any (v : Value) (L : List Ent) (B : Nat) (en : ByteArray) (z : Int) (w : World) (h : Ents B w v L) (hB : B ≤ w.heap.size) (hn : L.length ≤ 1099511627776) :
    Calls Try.prog 49 #[v, .agg #[.string en, .int .i64 z]] w (MakesE w (put L (en.data.toList, z))) := by
  obtain ⟨i0, hi, hz0, hz1, hz2⟩ := info_parts ent_info
  have HC := Lib.hid (refCut_any v L B en (w.alloc (.cells #[.string en, .int .i64 z] 45)) (h.alloc hB _) (by simp; omega) hn)
  have hcl := cut_len L en.data.toList
  have HPU : Hid (put L (en.data.toList, z) = (cut L en.data.toList).filter (fun a => decide (lt a.1 en.data.toList)) ++ (en.data.toList, z) :: (cut L en.data.toList).filter (fun a => decide (lt en.data.toList a.1))) := rfl
  generalize put L (en.data.toList, z) = R at *
  generalize cut L en.data.toList = M at *
  obtain ⟨A0, c0, rfl, -, -⟩ := h.form
  clear h
  go_enter Try.func49, Try.ntmps49
  go_wp2_with fail
  refine HC.out.mono ?_
  rintro e w1 ⟨u, rfl, hu, hb1⟩
  have H := Lib.hid hu.reads
  have hx0 : w1.cell? ⟨w.heap.size, 0, none⟩ = some (.string en) := by rw [hb1.cell (by simp)]; simp
  have hx1 : w1.cell? ⟨w.heap.size, 1, none⟩ = some (.int .i64 z) := by rw [hb1.cell (by simp)]; simp
  have hs1 : w.heap.size < w1.heap.size := by have := hb1.size; simp at this; omega
  have B1 : Hid (Below w.heap.size w w1) := ((Below.refl w.heap.size w).alloc (Nat.le_refl _) _).trans (hb1.mono (by simp))
  clear hb1
  obtain ⟨A, c, rfl, hA1, hA2⟩ := hu.reads.form
  clear hu
  unfold maxLen at hA2
  generalize hm : M.length = n at *
  have HM := Lib.hid hm
  clear hm
  go_wp2_with fail
  go_loopw [5, 6] (fun u i wr => ∃ (k : Nat) (out : List Ent), k ≤ n ∧ i = .int .i64 k ∧ out.length ≤ k ∧ Hid (out = (M.take k).filter (fun a => decide (lt a.1 en.data.toList))) ∧ Hid (OwnEnts wr w1.heap.size u out) ∧ Below w1.heap.size w1 wr) (fun _ i _ => n - (intOf i).toNat)
  case atStart => exact ⟨0, [], Nat.zero_le _, rfl, Nat.le_refl _, rfl, own_ents_nil _ _, Below.refl _ _⟩
  case round =>
    obtain ⟨k, out, hk, rfl, hout, hr, hown, hb⟩ := hrel
    have hbs := hb.size
    have hy0 : wr.cell? ⟨w.heap.size, 0, none⟩ = some (.string en) := by rw [hb.cell hs1]; exact hx0
    have hy1 : wr.cell? ⟨w.heap.size, 1, none⟩ = some (.int .i64 z) := by rw [hb.cell hs1]; exact hx1
    by_cases hlt : k < n
    · obtain ⟨b, o, hl1, t, rfl, hbl, ht, hc0, hc1⟩ := Ents.at_ (H.out.below hb) hlt
      have hlb := less_bytes t en
      by_cases hl : lt t.data.toList en.data.toList
      · have t1 : Op.bytesLess t.toList en.toList = true := by rw [hlb]; simpa using hl
        have HX := Lib.hid (filter_next (p := fun a => decide (lt a.1 en.data.toList)) hl1 (by rw [← ht]; simpa using hl))
        rw [← hr.out] at HX
        have HT := Lib.hid (ent_text ht)
        clear hlb hl ht
        go_wp2_with fail
        go_quiet (fail)
        have hown2 : Hid (OwnEnts (wr.drewN nq) w1.heap.size _ out) := hown
        have hb2 : Below w1.heap.size w1 (wr.drewN nq) := hb.trans ((below_draws wr nq).mono hbs)
        have hbs2 := hb2.size
        have d0 : (wr.drewN nq).cell? ⟨b, o + k * 2, none⟩ = some (.string t) := hc0
        have d1 : (wr.drewN nq).cell? ⟨b, o + k * 2 + 1, none⟩ = some (.int .i64 (M[k]).2) := hc1
        generalize wr.drewN nq = W at *
        clear hc0 hc1 hy0 hy1
        go_wp2_with (at_builtin; refine wpList_append_own _ rfl (.tmp 26) (.tmp 31) 41 rfl w1.heap.size 45 i0 (.agg #[.string ⟨#[]⟩, .int .i64 0]) 2 24 Try.underlying41 hi hz0 hz1 hz2 rfl (by decide) _ _ _ rfl (own_alloc hown2.out _) ⟨_, 0, none⟩ 1 1 [.string t, .int .i64 (M[k]).2] rfl rfl (cells_new _ [_, _] _) (by intro u hu; simp at hu; rcases hu with rfl | rfl <;> rfl) (by unfold maxLen; omega) (by omega) (by simp; omega) ?_; intro v1 w2 hown1 hgrow1 _)
        rw [HT.out] at hown1
        have B2 := Lib.hid (below_more2 hb2 hbs2 hown2.out hgrow1)
        have O1 := Lib.hid (own_ents_more hown1)
        clear hown1 hgrow1
        go_wp2
        go_roundw
        case rel => exact ⟨k + 1, _, by omega, by go_num, by rw [List.length_append]; simp; omega, HX.symm, O1, B2.out⟩
        case measure => simp [intOf]; omega
      · have t1 : Op.bytesLess t.toList en.toList = false := by rw [hlb]; simpa using hl
        have HX := Lib.hid (hr.out.trans (filter_skip (p := fun a => decide (lt a.1 en.data.toList)) hl1 (by rw [← ht]; simpa using hl)).symm)
        clear hlb hl ht
        go_wp2_with fail
        go_quiet (fail)
        go_wp2_with fail
        go_roundw
        case rel => exact ⟨k + 1, out, by omega, by go_num, by omega, HX, hown, hb.trans ((below_draws wr _).mono hbs)⟩
        case measure => simp [intOf]; omega
    · have HX : Hid (out = M.filter (fun a => decide (lt a.1 en.data.toList))) := hr.out.trans (by rw [take_all (by rw [HM.out]; exact hlt)])
      have HE : Hid (Value.string en = strV en.data.toList) := by show _ = _; unfold strV; rw [mk_bytes]
      go_wp2_with (at_builtin; refine wpList_append_own _ rfl (.tmp 33) (.tmp 35) 41 rfl w1.heap.size 45 i0 (.agg #[.string ⟨#[]⟩, .int .i64 0]) 2 24 Try.underlying41 hi hz0 hz1 hz2 rfl (by decide) _ _ _ rfl (own_alloc hown.out _) ⟨_, 0, none⟩ 1 1 [.string en, .int .i64 z] rfl rfl (cells_new _ [_, _] _) (by intro u hu; simp at hu; rcases hu with rfl | rfl <;> rfl) (by unfold maxLen; omega) (by omega) (by simp; omega) ?_; intro v1 w2 hown1 hgrow1 _)
      rw [HE.out] at hown1
      have B2 := Lib.hid (below_more2 hb hbs hown.out hgrow1)
      have O1 := Lib.hid (own_ents_more (e := (en.data.toList, z)) hown1)
      clear hown1 hgrow1
      go_wp2_with fail
      go_loopw [5, 7] (fun u i wr => ∃ (k : Nat) (out2 : List Ent), k ≤ n ∧ i = .int .i64 k ∧ out2.length ≤ k ∧ Hid (out2 = (M.take k).filter (fun a => decide (lt en.data.toList a.1))) ∧ Hid (OwnEnts wr w1.heap.size u (out ++ [(en.data.toList, z)] ++ out2)) ∧ Below w1.heap.size w1 wr) (fun _ i _ => n - (intOf i).toNat)
      case atStart => exact ⟨0, [], Nat.zero_le _, rfl, Nat.le_refl _, rfl, by rw [List.append_nil]; exact O1, B2.out⟩
      case round =>
        clear B2 O1 hown hb hbs hy0 hy1 hlt
        obtain ⟨k2, out2, hk2, rfl, hout2, hr2, hown, hb⟩ := hrel
        have hbs := hb.size
        have hy0 : wr.cell? ⟨w.heap.size, 0, none⟩ = some (.string en) := by rw [hb.cell hs1]; exact hx0
        have hy1 : wr.cell? ⟨w.heap.size, 1, none⟩ = some (.int .i64 z) := by rw [hb.cell hs1]; exact hx1
        by_cases hlt : k2 < n
        · obtain ⟨b, o, hl1, t, rfl, hbl, ht, hc0, hc1⟩ := Ents.at_ (H.out.below hb) hlt
          have hlb := less_bytes t en
          have hsb := same_bytes t en
          by_cases hl : lt en.data.toList t.data.toList
          · have t1 : Op.bytesLess t.toList en.toList = false := by rw [hlb]; simpa using M03.lt_asymm hl
            have t2 : (t.toList == en.toList) = false := by rw [hsb]; simpa using fun e : t.data.toList = en.data.toList => M03.lt_irrefl _ (e ▸ hl)
            clear hsb
            have HX2 := Lib.hid (filter_next (p := fun a => decide (lt en.data.toList a.1)) hl1 (by rw [← ht]; simpa using hl))
            rw [← hr2.out] at HX2
            have HT := Lib.hid (ent_text ht)
            have hll : (out ++ [(en.data.toList, z)] ++ out2).length = out.length + 1 + out2.length := by rw [List.length_append, List.length_append]; rfl
            clear hlb hl ht
            go_wp2_with fail
            go_quiet (fail)
            have hown2 : Hid (OwnEnts (wr.drewN nq) w1.heap.size _ (out ++ [(en.data.toList, z)] ++ out2)) := hown
            have hb2 : Below w1.heap.size w1 (wr.drewN nq) := hb.trans ((below_draws wr nq).mono hbs)
            have hbs2 := hb2.size
            have d0 : (wr.drewN nq).cell? ⟨b, o + k2 * 2, none⟩ = some (.string t) := hc0
            have d1 : (wr.drewN nq).cell? ⟨b, o + k2 * 2 + 1, none⟩ = some (.int .i64 (M[k2]).2) := hc1
            have a1 : (out ++ [(en.data.toList, z)] ++ out2).length + 1 ≤ maxLen := by unfold maxLen; omega
            have a2 : ((out ++ [(en.data.toList, z)] ++ out2).length + 1) * 24 ≤ 140737488355328 := by omega
            clear hll
            generalize wr.drewN nq = W at *
            clear hc0 hc1 hy0 hy1
            go_wp2_with (at_builtin; refine wpList_append_own _ rfl (.tmp 51) (.tmp 56) 41 rfl w1.heap.size 45 i0 (.agg #[.string ⟨#[]⟩, .int .i64 0]) 2 24 Try.underlying41 hi hz0 hz1 hz2 rfl (by decide) _ _ _ rfl (own_alloc hown2.out _) ⟨_, 0, none⟩ 1 1 [.string t, .int .i64 (M[k2]).2] rfl rfl (cells_new _ [_, _] _) (by intro u hu; simp at hu; rcases hu with rfl | rfl <;> rfl) a1 a2 (by simp; omega) ?_; intro v1 w2 hown1 hgrow1 _)
            rw [HT.out] at hown1
            have B2 := Lib.hid (below_more2 hb2 hbs2 hown2.out hgrow1)
            have O1 := Lib.hid (own_ents_more hown1)
            rw [List.append_assoc (out ++ [(en.data.toList, z)])] at O1
            clear hown1 hgrow1 a1 a2
            go_wp2
            go_roundw
            case rel => exact ⟨k2 + 1, _, by omega, by go_num, by rw [List.length_append]; simp; omega, HX2.symm, O1, B2.out⟩
            case measure => simp [intOf]; omega
          · have HX2 := Lib.hid (hr2.out.trans (filter_skip (p := fun a => decide (lt en.data.toList a.1)) hl1 (by rw [← ht]; simpa using hl)).symm)
            by_cases hl2 : lt t.data.toList en.data.toList
            · have t1 : Op.bytesLess t.toList en.toList = true := by rw [hlb]; simpa using hl2
              clear hl2
              clear hlb hsb hl ht
              go_wp2_with fail
              go_quiet (fail)
              go_wp2_with fail
              go_roundw
              case rel => exact ⟨k2 + 1, out2, by omega, by go_num, by omega, HX2, hown, hb.trans ((below_draws wr _).mono hbs)⟩
              case measure => simp [intOf]; omega
            · have t1 : Op.bytesLess t.toList en.toList = false := by rw [hlb]; simpa using hl2
              have t2 : (t.toList == en.toList) = true := by
                rw [hsb]
                rcases M03.lt_total t.data.toList en.data.toList with e | e | e
                · exact absurd e hl2
                · simpa using e
                · exact absurd e hl
              clear hl2
              clear hlb hsb hl ht
              go_wp2_with fail
              go_quiet (fail)
              go_wp2_with fail
              go_roundw
              case rel => exact ⟨k2 + 1, out2, by omega, by go_num, by omega, HX2, hown, hb.trans ((below_draws wr _).mono hbs)⟩
              case measure => simp [intOf]; omega
        · have HX2 : Hid (out2 = M.filter (fun a => decide (lt en.data.toList a.1))) := hr2.out.trans (by rw [take_all (by rw [HM.out]; exact hlt)])
          have HR : Hid (R = out ++ [(en.data.toList, z)] ++ out2) := by show _ = _; rw [HPU.out, HX.out, HX2.out]; simp
          go_wp2_with fail
          go_ret
          exact ⟨_, rfl, by rw [HR.out]; exact own_lower (by omega) hown.out, on B1.out hb⟩
end Go.Proofs.Ytelphegeeiocnaa.W06
