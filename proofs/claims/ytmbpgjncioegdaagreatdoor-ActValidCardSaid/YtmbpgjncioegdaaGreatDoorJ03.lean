/-
  Texts joined, in build order, each with its own comment and its own conditions: W06Put, W06More, W07Walk, W07List, W07With.
-/
import Derived.Test.YtmbpgjncioegdaaGreatDoorJ02
import Derived.Laws.ResultCell
import Derived.Laws.NewBlocks
import Derived.Test.YtmbpgjncioegdaaGreatDoorJ01
import Derived.Deep.RegionHeld3
/-
  Layer 6 (ents), walks: the plain answers Put, Merge, Next and Same: what each returns; new memory may be laid, nothing that was there is changed.
-/
namespace Go.Proofs.YtmbpgjncioegdaaGreatDoor.W06
set_option maxRecDepth 100000
open Go Go.RowKit Go.Proofs.YtmbpgjncioegdaaGreatDoor.Strs Go.Proofs.YtmbpgjncioegdaaGreatDoor.Recs Go.Proofs.YtmbpgjncioegdaaGreatDoor.M06
open Go.Proofs.YtmbpgjncioegdaaGreatDoor.M03 (lt)
open Go.Proofs.YtmbpgjncioegdaaGreatDoor.W03 (less_bytes same_bytes)
open Go.Proofs.YtmbpgjncioegdaaGreatDoor.Kit (ret_str ret_bool ret_int mk_of mk_bytes ba_ext below_draws on)

theorem own_lower {w : World} {a b : Nat} {v : Value} {L : List Ent} (hab : b ≤ a) (h : OwnEnts w a v L) : OwnEnts w b v L := by
  refine ⟨h.1, ?_⟩
  rcases h.2 with hn | ⟨g, cap, cur, hv, hb, hg, rest⟩
  · exact Or.inl hn
  · exact Or.inr ⟨g, cap, cur, hv, by omega, hg, rest⟩
theorem filter_next {L : List Ent} {p : Ent → Bool} {k : Nat} (hk : k < L.length) (h : p L[k] = true) : (L.take (k + 1)).filter p = (L.take k).filter p ++ [L[k]] := by
  rw [take_at hk, List.filter_append]; simp [h]
theorem filter_skip {L : List Ent} {p : Ent → Bool} {k : Nat} (hk : k < L.length) (h : p L[k] = false) : (L.take (k + 1)).filter p = (L.take k).filter p := by
  rw [take_at hk, List.filter_append]; simp [h]

set_option maxHeartbeats 2000000 in
theorem refPut_any (v : Value) (L : List Ent) (B : Nat) (en : ByteArray) (z : Int) (w : World) (h : Ents B w v L) (hB : B ≤ w.heap.size) (hn : L.length ≤ 1099511627776) :
    Calls Tryz.prog 62 #[v, .agg #[.string en, .int .i64 z]] w (MakesE w (put L (en.data.toList, z))) := by
  obtain ⟨i0, hi, hz0, hz1, hz2⟩ := info_parts ent_info
  have HC := Lib.hid (refCut_any v L B en (w.alloc (.cells #[.string en, .int .i64 z] 103)) (h.alloc hB _) (by simp; omega) hn)
  have hcl := cut_len L en.data.toList
  have HPU : Hid (put L (en.data.toList, z) = (cut L en.data.toList).filter (fun a => decide (lt a.1 en.data.toList)) ++ (en.data.toList, z) :: (cut L en.data.toList).filter (fun a => decide (lt en.data.toList a.1))) := rfl
  generalize put L (en.data.toList, z) = R at *
  generalize cut L en.data.toList = M at *
  obtain ⟨A0, c0, rfl, -, -⟩ := h.form
  clear h
  go_enter Tryz.func62, Tryz.ntmps62
  go_wp2_with fail
  refine HC.out.mono ?_
  rintro e w1 ⟨u, rfl, hu, hb1⟩
  have H := Lib.hid hu.reads
  have hx0 : w1.cell? ⟨w.heap.size, 0, none⟩ = some (.string en) := by rw [hb1.cell (by simp)]; simp
  have hx1 : w1.cell? ⟨w.heap.size, 1, none⟩ = some (.int .i64 z) := by rw [hb1.cell (by simp)]; simp
  have hs1 : w.heap.size < w1.heap.size := by have := hb1.size; simp at this; omega
  have B1 : Hid (Below w.heap.size w w1) := ((Below.refl w.heap.size w).alloc (Nat.le_refl _) _).trans (hb1.mono (by simp))
  clear hb1
  obtain ⟨A, c, rfl, hA1, hA2⟩ := hu.reads.form
  clear hu
  unfold maxLen at hA2
  generalize hm : M.length = n at *
  have HM := Lib.hid hm
  clear hm
  go_wp2_with fail
  go_loopw [5, 6] (fun u i wr => ∃ (k : Nat) (out : List Ent), k ≤ n ∧ i = .int .i64 k ∧ out.length ≤ k ∧ Hid (out = (M.take k).filter (fun a => decide (lt a.1 en.data.toList))) ∧ Hid (OwnEnts wr w1.heap.size u out) ∧ Below w1.heap.size w1 wr) (fun _ i _ => n - (intOf i).toNat)
  case atStart => exact ⟨0, [], Nat.zero_le _, rfl, Nat.le_refl _, rfl, own_ents_nil _ _, Below.refl _ _⟩
  case round =>
    obtain ⟨k, out, hk, rfl, hout, hr, hown, hb⟩ := hrel
    have hbs := hb.size
    have hy0 : wr.cell? ⟨w.heap.size, 0, none⟩ = some (.string en) := by rw [hb.cell hs1]; exact hx0
    have hy1 : wr.cell? ⟨w.heap.size, 1, none⟩ = some (.int .i64 z) := by rw [hb.cell hs1]; exact hx1
    by_cases hlt : k < n
    · obtain ⟨b, o, hl1, t, rfl, hbl, ht, hc0, hc1⟩ := Ents.at_ (H.out.below hb) hlt
      have hlb := less_bytes t en
      by_cases hl : lt t.data.toList en.data.toList
      · have t1 : Op.bytesLess t.toList en.toList = true := by rw [hlb]; simpa using hl
        have HX := Lib.hid (filter_next (p := fun a => decide (lt a.1 en.data.toList)) hl1 (by rw [← ht]; simpa using hl))
        rw [← hr.out] at HX
        have HT := Lib.hid (ent_text ht)
        clear hlb hl ht
        go_wp2_with fail
        go_quiet (fail)
        have hown2 : Hid (OwnEnts (wr.drewN nq) w1.heap.size _ out) := hown
        have hb2 : Below w1.heap.size w1 (wr.drewN nq) := hb.trans ((below_draws wr nq).mono hbs)
        have hbs2 := hb2.size
        have d0 : (wr.drewN nq).cell? ⟨b, o + k * 2, none⟩ = some (.string t) := hc0
        have d1 : (wr.drewN nq).cell? ⟨b, o + k * 2 + 1, none⟩ = some (.int .i64 (M[k]).2) := hc1
        generalize wr.drewN nq = W at *
        clear hc0 hc1 hy0 hy1
        go_wp2_with (at_builtin; refine wpList_append_own _ rfl (.tmp 26) (.tmp 31) 73 rfl w1.heap.size 103 i0 (.agg #[.string ⟨#[]⟩, .int .i64 0]) 2 24 Tryz.underlying73 hi hz0 hz1 hz2 rfl (by decide) _ _ _ rfl (own_alloc hown2.out _) ⟨_, 0, none⟩ 1 1 [.string t, .int .i64 (M[k]).2] rfl rfl (cells_new _ [_, _] _) (by intro u hu; simp at hu; rcases hu with rfl | rfl <;> rfl) (by unfold maxLen; omega) (by omega) (by simp; omega) ?_; intro v1 w2 hown1 hgrow1 _)
        rw [HT.out] at hown1
        have B2 := Lib.hid (below_more2 hb2 hbs2 hown2.out hgrow1)
        have O1 := Lib.hid (own_ents_more hown1)
        clear hown1 hgrow1
        go_wp2
        go_roundw
        case rel => exact ⟨k + 1, _, by omega, by go_num, by rw [List.length_append]; simp; omega, HX.symm, O1, B2.out⟩
        case measure => simp [intOf]; omega
      · have t1 : Op.bytesLess t.toList en.toList = false := by rw [hlb]; simpa using hl
        have HX := Lib.hid (hr.out.trans (filter_skip (p := fun a => decide (lt a.1 en.data.toList)) hl1 (by rw [← ht]; simpa using hl)).symm)
        clear hlb hl ht
        go_wp2_with fail
        go_quiet (fail)
        go_wp2_with fail
        go_roundw
        case rel => exact ⟨k + 1, out, by omega, by go_num, by omega, HX, hown, hb.trans ((below_draws wr _).mono hbs)⟩
        case measure => simp [intOf]; omega
    · have HX : Hid (out = M.filter (fun a => decide (lt a.1 en.data.toList))) := hr.out.trans (by rw [take_all (by rw [HM.out]; exact hlt)])
      have HE : Hid (Value.string en = strV en.data.toList) := by show _ = _; unfold strV; rw [mk_bytes]
      go_wp2_with (at_builtin; refine wpList_append_own _ rfl (.tmp 33) (.tmp 35) 73 rfl w1.heap.size 103 i0 (.agg #[.string ⟨#[]⟩, .int .i64 0]) 2 24 Tryz.underlying73 hi hz0 hz1 hz2 rfl (by decide) _ _ _ rfl (own_alloc hown.out _) ⟨_, 0, none⟩ 1 1 [.string en, .int .i64 z] rfl rfl (cells_new _ [_, _] _) (by intro u hu; simp at hu; rcases hu with rfl | rfl <;> rfl) (by unfold maxLen; omega) (by omega) (by simp; omega) ?_; intro v1 w2 hown1 hgrow1 _)
      rw [HE.out] at hown1
      have B2 := Lib.hid (below_more2 hb hbs hown.out hgrow1)
      have O1 := Lib.hid (own_ents_more (e := (en.data.toList, z)) hown1)
      clear hown1 hgrow1
      go_wp2_with fail
      go_loopw [5, 7] (fun u i wr => ∃ (k : Nat) (out2 : List Ent), k ≤ n ∧ i = .int .i64 k ∧ out2.length ≤ k ∧ Hid (out2 = (M.take k).filter (fun a => decide (lt en.data.toList a.1))) ∧ Hid (OwnEnts wr w1.heap.size u (out ++ [(en.data.toList, z)] ++ out2)) ∧ Below w1.heap.size w1 wr) (fun _ i _ => n - (intOf i).toNat)
      case atStart => exact ⟨0, [], Nat.zero_le _, rfl, Nat.le_refl _, rfl, by rw [List.append_nil]; exact O1, B2.out⟩
      case round =>
        clear B2 O1 hown hb hbs hy0 hy1 hlt
        obtain ⟨k2, out2, hk2, rfl, hout2, hr2, hown, hb⟩ := hrel
        have hbs := hb.size
        have hy0 : wr.cell? ⟨w.heap.size, 0, none⟩ = some (.string en) := by rw [hb.cell hs1]; exact hx0
        have hy1 : wr.cell? ⟨w.heap.size, 1, none⟩ = some (.int .i64 z) := by rw [hb.cell hs1]; exact hx1
        by_cases hlt : k2 < n
        · obtain ⟨b, o, hl1, t, rfl, hbl, ht, hc0, hc1⟩ := Ents.at_ (H.out.below hb) hlt
          have hlb := less_bytes t en
          have hsb := same_bytes t en
          by_cases hl : lt en.data.toList t.data.toList
          · have t1 : Op.bytesLess t.toList en.toList = false := by rw [hlb]; simpa using M03.lt_asymm hl
            have t2 : (t.toList == en.toList) = false := by rw [hsb]; simpa using fun e : t.data.toList = en.data.toList => M03.lt_irrefl _ (e ▸ hl)
            clear hsb
            have HX2 := Lib.hid (filter_next (p := fun a => decide (lt en.data.toList a.1)) hl1 (by rw [← ht]; simpa using hl))
            rw [← hr2.out] at HX2
            have HT := Lib.hid (ent_text ht)
            have hll : (out ++ [(en.data.toList, z)] ++ out2).length = out.length + 1 + out2.length := by rw [List.length_append, List.length_append]; rfl
            clear hlb hl ht
            go_wp2_with fail
            go_quiet (fail)
            have hown2 : Hid (OwnEnts (wr.drewN nq) w1.heap.size _ (out ++ [(en.data.toList, z)] ++ out2)) := hown
            have hb2 : Below w1.heap.size w1 (wr.drewN nq) := hb.trans ((below_draws wr nq).mono hbs)
            have hbs2 := hb2.size
            have d0 : (wr.drewN nq).cell? ⟨b, o + k2 * 2, none⟩ = some (.string t) := hc0
            have d1 : (wr.drewN nq).cell? ⟨b, o + k2 * 2 + 1, none⟩ = some (.int .i64 (M[k2]).2) := hc1
            have a1 : (out ++ [(en.data.toList, z)] ++ out2).length + 1 ≤ maxLen := by unfold maxLen; omega
            have a2 : ((out ++ [(en.data.toList, z)] ++ out2).length + 1) * 24 ≤ 140737488355328 := by omega
            clear hll
            generalize wr.drewN nq = W at *
            clear hc0 hc1 hy0 hy1
            go_wp2_with (at_builtin; refine wpList_append_own _ rfl (.tmp 51) (.tmp 56) 73 rfl w1.heap.size 103 i0 (.agg #[.string ⟨#[]⟩, .int .i64 0]) 2 24 Tryz.underlying73 hi hz0 hz1 hz2 rfl (by decide) _ _ _ rfl (own_alloc hown2.out _) ⟨_, 0, none⟩ 1 1 [.string t, .int .i64 (M[k2]).2] rfl rfl (cells_new _ [_, _] _) (by intro u hu; simp at hu; rcases hu with rfl | rfl <;> rfl) a1 a2 (by simp; omega) ?_; intro v1 w2 hown1 hgrow1 _)
            rw [HT.out] at hown1
            have B2 := Lib.hid (below_more2 hb2 hbs2 hown2.out hgrow1)
            have O1 := Lib.hid (own_ents_more hown1)
            rw [List.append_assoc (out ++ [(en.data.toList, z)])] at O1
            clear hown1 hgrow1 a1 a2
            go_wp2
            go_roundw
            case rel => exact ⟨k2 + 1, _, by omega, by go_num, by rw [List.length_append]; simp; omega, HX2.symm, O1, B2.out⟩
            case measure => simp [intOf]; omega
          · have HX2 := Lib.hid (hr2.out.trans (filter_skip (p := fun a => decide (lt en.data.toList a.1)) hl1 (by rw [← ht]; simpa using hl)).symm)
            by_cases hl2 : lt t.data.toList en.data.toList
            · have t1 : Op.bytesLess t.toList en.toList = true := by rw [hlb]; simpa using hl2
              clear hl2
              clear hlb hsb hl ht
              go_wp2_with fail
              go_quiet (fail)
              go_wp2_with fail
              go_roundw
              case rel => exact ⟨k2 + 1, out2, by omega, by go_num, by omega, HX2, hown, hb.trans ((below_draws wr _).mono hbs)⟩
              case measure => simp [intOf]; omega
            · have t1 : Op.bytesLess t.toList en.toList = false := by rw [hlb]; simpa using hl2
              have t2 : (t.toList == en.toList) = true := by
                rw [hsb]
                rcases M03.lt_total t.data.toList en.data.toList with e | e | e
                · exact absurd e hl2
                · simpa using e
                · exact absurd e hl
              clear hl2
              clear hlb hsb hl ht
              go_wp2_with fail
              go_quiet (fail)
              go_wp2_with fail
              go_roundw
              case rel => exact ⟨k2 + 1, out2, by omega, by go_num, by omega, HX2, hown, hb.trans ((below_draws wr _).mono hbs)⟩
              case measure => simp [intOf]; omega
        · have HX2 : Hid (out2 = M.filter (fun a => decide (lt en.data.toList a.1))) := hr2.out.trans (by rw [take_all (by rw [HM.out]; exact hlt)])
          have HR : Hid (R = out ++ [(en.data.toList, z)] ++ out2) := by show _ = _; rw [HPU.out, HX.out, HX2.out]; simp
          go_wp2_with fail
          go_ret
          exact ⟨_, rfl, by rw [HR.out]; exact own_lower (by omega) hown.out, on B1.out hb⟩
end Go.Proofs.YtmbpgjncioegdaaGreatDoor.W06
/-
  Layer 6 (ents), walks: the plain answers Merge, Next and Same: what each returns; new memory may be laid, nothing that was there is changed.
-/
namespace Go.Proofs.YtmbpgjncioegdaaGreatDoor.W06
set_option maxRecDepth 100000
open Go Go.RowKit Go.Proofs.YtmbpgjncioegdaaGreatDoor.Strs Go.Proofs.YtmbpgjncioegdaaGreatDoor.Recs Go.Proofs.YtmbpgjncioegdaaGreatDoor.M06
open Go.Proofs.YtmbpgjncioegdaaGreatDoor.M03 (lt)
open Go.Proofs.YtmbpgjncioegdaaGreatDoor.W03 (less_bytes same_bytes)
open Go.Proofs.YtmbpgjncioegdaaGreatDoor.Kit (ret_str ret_bool ret_int mk_of mk_bytes ba_ext below_draws on)

/-- what a call returns that hands out entries -/
def HandsE (w : World) (L : List Ent) (e : Ending) (w' : World) : Prop := ∃ v, e = .returned v ∧ Ents w'.heap.size w' v L ∧ Below w.heap.size w w'
/-! ### Next -/
theorem below_box (w : World) (o : Obj) (q : Nat) (v0 v1 : Value) : Below w.heap.size w ((((w.alloc o).drewN q).setCell ⟨w.heap.size, 0, none⟩ v0).setCell ⟨w.heap.size, 1, none⟩ v1) := by
  have h1 : Below w.heap.size w ((w.alloc o).drewN q) := ((Below.refl w.heap.size w).alloc (Nat.le_refl _) o).trans ((below_draws (w.alloc o) q).mono (by simp))
  exact (h1.setCell (Nat.le_refl _) _).setCell (Nat.le_refl _) _
/-! ### Same -/
theorem ents_upto {La Lb : List Ent} {k : Nat} (hl : La.length = Lb.length) (hk : ¬ k < La.length) (h : ∀ j (h1 : j < La.length) (h2 : j < Lb.length), j < k → La[j] = Lb[j]) : La = Lb := by
  apply List.ext_getElem hl
  intro i h1 h2
  exact h i h1 h2 (by omega)
set_option maxHeartbeats 400000 in
theorem refSame_any (va vb : Value) (La Lb : List Ent) (B : Nat) (w : World) (ha : Ents B w va La) (hb : Ents B w vb Lb) :
    Calls Tryz.prog 39 #[va, vb] w fun e w' => e = .returned (.bool (decide (La = Lb))) ∧ ∃ n, w' = w.drewN n := by
  obtain ⟨A, c, rfl, hA1, hA2⟩ := ha.form
  obtain ⟨A', c', rfl, hB1, hB2⟩ := hb.form
  unfold maxLen at hA2 hB2
  by_cases hl : La.length = Lb.length
  · have HL := Lib.hid hl
    have HA := Lib.hid ha
    have HB := Lib.hid (hl ▸ hb)
    have hne : ((La.length : Int) != (Lb.length : Int)) = false := by simp [hl]
    rw [← hl]
    rw [← hl] at hB1 hne
    clear hl ha hb hne
    generalize hn : La.length = n at *
    have HN := Lib.hid hn
    clear hn
    go_enter Tryz.func39, Tryz.ntmps39
    go_wp2
    go_loopw [5] (fun i wr => ∃ k : Nat, k ≤ n ∧ i = .int .i64 k ∧ Hid (∀ j (h1 : j < La.length) (h2 : j < Lb.length), j < k → La[j] = Lb[j]) ∧ ∃ q, wr = w.drewN q) (fun i _ => n - (intOf i).toNat)
    case atStart => exact ⟨0, Nat.zero_le _, rfl, fun j _ _ hj => by omega, 0, rfl⟩
    case round =>
      obtain ⟨k, hk, rfl, hr, q, rfl⟩ := hrel
      by_cases hlt : k < n
      · obtain ⟨b, o, hl1, s, rfl, hbl, hs, hc0, hc1⟩ := Ents.at_ HA.out hlt
        obtain ⟨b', o', hl2, s', rfl, hbl', hs', hd0, hd1⟩ := Ents.at_ HB.out hlt
        have HS := Lib.hid hs
        have HS' := Lib.hid hs'
        clear hs hs'
        have HE : Hid (La[k] = Lb[k] ↔ s.data.toList = s'.data.toList ∧ (La[k]).2 = (Lb[k]).2) := by
          show _ ↔ _
          rw [HS.out, HS'.out]
          exact Prod.ext_iff
        have hsb := same_bytes s s'
        by_cases h1 : s.data.toList = s'.data.toList
        · have t1 : (s.toList == s'.toList) = true := by rw [hsb]; simpa using h1
          by_cases h2 : (La[k]).2 = (Lb[k]).2
          · have t2 : ((La[k]).2 == (Lb[k]).2) = true := by simpa using h2
            have HX : Hid (La[k] = Lb[k]) := HE.out.2 ⟨h1, h2⟩
            clear h1 h2 hsb
            go_wp2_with fail
            go_quiet (fail)
            go_wp2_with fail
            go_roundw
            case rel => exact ⟨k + 1, by omega, by go_num, fun j h1 h2 hj => by
              by_cases e : j = k
              · subst e; exact HX.out
              · exact hr.out j h1 h2 (by omega), q + nq, by first | rfl | rw [World.drewN_drewN]⟩
            case measure => simp [intOf]; omega
          · have t2 : ((La[k]).2 == (Lb[k]).2) = false := by simpa using h2
            have HX : Hid (¬ La = Lb) := fun e => h2 (by simp only [e])
            clear h1 h2 hsb
            go_wp2_with fail
            go_quiet (fail)
            go_wp2_with fail
            go_ret
            exact ⟨ret_bool (decide_eq_false HX.out).symm, q + nq, by first | rfl | rw [World.drewN_drewN]⟩
        · have t1 : (s.toList == s'.toList) = false := by rw [hsb]; simpa using h1
          have HX : Hid (¬ La = Lb) := fun e => h1 (by rw [HS.out, HS'.out]; simp only [e])
          clear h1 hsb
          go_wp2_with fail
          go_quiet (fail)
          go_wp2_with fail
          go_ret
          exact ⟨ret_bool (decide_eq_false HX.out).symm, q + nq, by first | rfl | rw [World.drewN_drewN]⟩
      · have HX := Lib.hid (ents_upto (HN.out.trans HL.out) (k := k) (by rw [HN.out]; exact hlt) hr.out)
        go_wp2
        go_ret
        exact ⟨ret_bool (decide_eq_true HX.out).symm, q, rfl⟩
  · have hne : ((La.length : Int) != (Lb.length : Int)) = true := by simp; omega
    have hd : ¬ La = Lb := fun e => hl (by rw [e])
    go_enter Tryz.func39, Tryz.ntmps39
    go_wp2
    go_ret
    exact ⟨ret_bool (by simp [hd]), 0, rfl⟩
end Go.Proofs.YtmbpgjncioegdaaGreatDoor.W06
/-
  Layer 7 (tree), walks: the plain answers At, In, dir, may: what each returns; new memory may be laid, nothing that was there is changed.
-/
namespace Go.Proofs.YtmbpgjncioegdaaGreatDoor.W07
set_option maxRecDepth 100000
open Go Go.RowKit Go.Proofs.YtmbpgjncioegdaaGreatDoor.Strs Go.Proofs.YtmbpgjncioegdaaGreatDoor.Recs Go.Proofs.YtmbpgjncioegdaaGreatDoor.M07
open Go.Proofs.YtmbpgjncioegdaaGreatDoor.M06 (Ent)
open Go.Proofs.YtmbpgjncioegdaaGreatDoor.W03 (less_bytes same_bytes)
open Go.Proofs.YtmbpgjncioegdaaGreatDoor.Kit (ret_str ret_bool ret_int mk_of mk_bytes ba_ext below_draws on list_full list_ne list_none list_nil bytes_nil bytes_cons)

/-- a node's cells -/
def nodeC (x : Nd) : List Value := [.int .i64 x.num, .int .i64 x.up, strV x.name, .int .i64 x.kind, strV x.data]
def nodeV (x : Nd) : Value := .agg #[.int .i64 x.num, .int .i64 x.up, .string ⟨x.name.toArray⟩, .int .i64 x.kind, .string ⟨x.data.toArray⟩]
theorem nodeC_len (x : Nd) : (nodeC x).length = 5 := rfl
abbrev Nodes (B : Nat) (w : World) (v : Value) (L : List Nd) : Prop := Recs nodeC 5 B w v L
theorem Nodes.at_ {B : Nat} {w : World} {L : List Nd} {A : Option Addr} {n c : Nat} (h : Nodes B w (.slice A n c) L) {k : Nat} (hk : k < n) : ∃ (b o : Nat) (hl : k < L.length), A = some ⟨b, o, none⟩ ∧ b < B ∧ w.cell? ⟨b, o + k * 5, none⟩ = some (.int .i64 (L[k]).num) ∧ w.cell? ⟨b, o + k * 5 + 1, none⟩ = some (.int .i64 (L[k]).up) ∧ w.cell? ⟨b, o + k * 5 + 2, none⟩ = some (.string ⟨(L[k]).name.toArray⟩) ∧ w.cell? ⟨b, o + k * 5 + 3, none⟩ = some (.int .i64 (L[k]).kind) ∧ w.cell? ⟨b, o + k * 5 + 4, none⟩ = some (.string ⟨(L[k]).data.toArray⟩) := by
  obtain ⟨b, o, hl, rfl, hb, hc⟩ := Recs.flat_ h nodeC_len (by omega) hk
  exact ⟨b, o, hl, rfl, hb, hc 0 (by omega), hc 1 (by omega), hc 2 (by omega), hc 3 (by omega), hc 4 (by omega)⟩
theorem results_cell_one {fn : Func} {p : Tmp} {ty : TypeId} (h : fn.results = #[.cell p ty]) (tmps : Array Value) (P : Program) (w : World) :
    (results fn tmps).run P w = ((asAddr (tmps.getD p undef)).run P w).andThen fun a w₁ => ((loadVar ty a).run P w₁).andThen fun v w₂ => .ok v w₂ := by
  simp only [results, h]
  simp [Sem.run_bind, Result.andThen]
  split
  · split <;> simp_all
  · rfl

theorem below_two (w : World) (o1 o2 : Obj) : Below w.heap.size w ((w.alloc o1).alloc o2) := ((Below.refl w.heap.size w).alloc (Nat.le_refl _) o1).alloc (by simp) o2
theorem below_one (w : World) (o1 : Obj) : Below w.heap.size w (w.alloc o1) := (Below.refl w.heap.size w).alloc (Nat.le_refl _) o1

set_option maxHeartbeats 2000000 in
theorem refAt_any (v : Value) (L : List Nd) (last n : Int) (B : Nat) (w : World) (h : Nodes B w v L) (hB : B ≤ w.heap.size) (hn : L.length ≤ 1099511627776) :
    Calls Tryz.prog 34 #[.agg #[v, .int .i64 last], .int .i64 n] w fun e w' => e = .returned (nodeV (nodeAt L n)) ∧ Below w.heap.size w w' := by
  have H := Lib.hid h
  obtain ⟨A, c, rfl, hA1, hA2⟩ := h.form
  unfold maxLen at hA2
  clear h
  generalize hm : L.length = m at *
  have HM := Lib.hid hm
  clear hm
  go_enter Tryz.func34, Tryz.ntmps34
  go_wp2_with fail
  go_loopw [5] (fun i wr => ∃ k : Nat, k ≤ m ∧ i = .int .i64 k ∧ Hid (nodeAt L n = nodeAt (L.drop k) n) ∧ wr = (w.alloc (.cells #[.slice A m c, .int .i64 last] 30)).alloc (.cells #[.int .i64 0, .int .i64 0, .string ⟨#[]⟩, .int .i64 0, .string ⟨#[]⟩] 69)) (fun i _ => m - (intOf i).toNat)
  case atStart => exact ⟨0, Nat.zero_le _, rfl, rfl, rfl⟩
  case round =>
    obtain ⟨k, hk, rfl, hr, rfl⟩ := hrel
    by_cases hlt : k < m
    · obtain ⟨b, o, hl1, rfl, hbl, hc0, hc1, hc2, hc3, hc4⟩ := Nodes.at_ H.out hlt
      have hbw : b < w.heap.size := by omega
      by_cases hnum : (L[k]).num = n
      · have t1 : ((L[k]).num == n) = true := by simpa using hnum
        have HX := Lib.hid (hr.out.trans (at_here hl1 hnum))
        clear hnum
        go_wp2_with fail
        refine bodyPost_ret_by (v := nodeV L[k]) ?_ rfl ⟨by rw [HX.out], ?_⟩
        · rw [results_cell_one rfl]
          go_simp
          rfl
        · exact below_two w _ _
      · have t1 : ((L[k]).num == n) = false := by simpa using hnum
        have HX := Lib.hid (hr.out.trans (at_on hl1 hnum))
        clear hnum
        go_wp2_with fail
        go_roundw
        case rel => exact ⟨k + 1, by omega, by go_num, HX, by trivial⟩
        case measure => simp [intOf]; omega
    · have HX := Lib.hid (hr.out.trans (at_end (by rw [HM.out]; exact hlt)))
      go_wp2_with fail
      refine bodyPost_ret_by (v := nodeV zero) ?_ rfl ⟨by rw [HX.out], ?_⟩
      · rw [results_cell_one rfl]
        go_simp
        rfl
      · exact below_two w _ _

/-! ### dir and may -/
theorem field_up (a b : Int) (c : ByteArray) (k : Int) (d : ByteArray) (w : World) : (Instr.field 69 (.agg #[.int .i64 a, .int .i64 b, .string c, .int .i64 k, .string d]) 1).run Tryz.prog w = .ok (.int .i64 b) w := by kernel_rfl
theorem field_kind (a b : Int) (c : ByteArray) (k : Int) (d : ByteArray) (w : World) : (Instr.field 69 (.agg #[.int .i64 a, .int .i64 b, .string c, .int .i64 k, .string d]) 3).run Tryz.prog w = .ok (.int .i64 k) w := by kernel_rfl
theorem refDir_any (v : Value) (L : List Nd) (last n : Int) (B : Nat) (w : World) (h : Nodes B w v L) (hB : B ≤ w.heap.size) (hn : L.length ≤ 1099511627776) :
    Calls Tryz.prog 49 #[.agg #[v, .int .i64 last], .int .i64 n] w fun e w' => e = .returned (.int .i64 (dirErr L n)) ∧ Below w.heap.size w w' := by
  obtain ⟨A, c, rfl, hA1, hA2⟩ := h.form
  have HA := Lib.hid (refAt_any _ L last n B (w.alloc (.cells #[.slice A L.length c, .int .i64 last] 30)) (h.alloc hB _) (by simp; omega) hn)
  clear h
  have HD : Hid (dirErr L n = if (nodeAt L n).kind = 0 then 5 else if (nodeAt L n).kind = 1 then 0 else 7) := rfl
  generalize dirErr L n = r at *
  generalize nodeAt L n = x at *
  unfold nodeV at HA
  have kf := field_kind x.num x.up ⟨x.name.toArray⟩ x.kind ⟨x.data.toArray⟩
  go_enter Tryz.func49, Tryz.ntmps49
  by_cases h0 : x.kind = 0
  · have t0 : (x.kind == 0) = true := by simpa using h0
    have HX : Hid (r = 5) := by have := HD.out; rw [if_pos h0] at this; exact this
    clear h0
    go_wp2_with fail
    refine HA.out.mono ?_
    rintro e w1 ⟨rfl, hb⟩
    have B1 := Lib.hid ((below_one w _).trans (hb.mono (by simp)))
    clear hb
    go_wp2_with fail
    go_ret
    exact ⟨ret_int HX.out.symm, B1.out⟩
  · have t0 : (x.kind == 0) = false := by simpa using h0
    by_cases h1 : x.kind = 1
    · have t1 : (x.kind == 1) = true := by simpa using h1
      have HX : Hid (r = 0) := by have := HD.out; rw [if_neg h0, if_pos h1] at this; exact this
      clear h0 h1
      go_wp2_with fail
      refine HA.out.mono ?_
      rintro e w1 ⟨rfl, hb⟩
      have B1 := Lib.hid ((below_one w _).trans (hb.mono (by simp)))
      clear hb
      go_wp2_with fail
      go_ret
      exact ⟨ret_int HX.out.symm, B1.out⟩
    · have t1 : (x.kind == 1) = false := by simpa using h1
      have HX : Hid (r = 7) := by have := HD.out; rw [if_neg h0, if_neg h1] at this; exact this
      clear h0 h1
      go_wp2_with fail
      refine HA.out.mono ?_
      rintro e w1 ⟨rfl, hb⟩
      have B1 := Lib.hid ((below_one w _).trans (hb.mono (by simp)))
      clear hb
      go_wp2_with fail
      go_ret
      exact ⟨ret_int HX.out.symm, B1.out⟩
set_option maxHeartbeats 400000 in
theorem refMay_any (kind : Int) (s : ByteArray) (hs : s.size ≤ maxLen) (w : World) :
    Calls Tryz.prog 52 #[.int .i64 kind, .string s] w fun e w' => e = .returned (.int .i64 (mayErr kind s.data.toList)) ∧ w' = w := by
  unfold maxLen at hs
  have HL := Lib.hid (Lib.size_eq s)
  by_cases h1 : kind < 1
  · have HX : Hid (mayErr kind s.data.toList = 2) := if_pos (Or.inl h1)
    generalize mayErr kind s.data.toList = r at *
    go_enter Tryz.func52, Tryz.ntmps52
    go_wp2_with fail
    go_ret
    exact ⟨ret_int HX.out.symm, rfl⟩
  · by_cases h3 : 3 < kind
    · have HX : Hid (mayErr kind s.data.toList = 2) := if_pos (Or.inr h3)
      generalize mayErr kind s.data.toList = r at *
      go_enter Tryz.func52, Tryz.ntmps52
      go_wp2_with fail
      go_ret
      exact ⟨ret_int HX.out.symm, rfl⟩
    · have HM : Hid (mayErr kind s.data.toList = if (kind = 1 ∧ s.data.toList ≠ []) ∨ (kind = 3 ∧ s.data.toList = []) then 3 else if 65536 < s.data.toList.length then 4 else 0) := if_neg (by omega)
      by_cases h0 : 0 < s.size
      · have hf := list_full h0
        have hn := list_ne h0
        have hne : s.data.toList ≠ [] := Kit.bytes_ne h0
        by_cases k1 : kind = 1
        · have HX : Hid (mayErr kind s.data.toList = 3) := HM.out.trans (if_pos (Or.inl ⟨k1, hne⟩))
          generalize mayErr kind s.data.toList = r at *
          subst k1
          clear hne
          go_enter Tryz.func52, Tryz.ntmps52
          go_wp2_with fail
          go_ret
          exact ⟨ret_int HX.out.symm, rfl⟩
        · have HM2 : Hid (mayErr kind s.data.toList = if 65536 < s.data.toList.length then 4 else 0) := HM.out.trans (if_neg (by rintro (e | e); exact k1 e.1; exact hne e.2))
          have t1 : (kind == 1) = false := by simpa using k1
          clear hne HM
          by_cases hbig : (65536 : Int) < s.size
          · have HX : Hid (mayErr kind s.data.toList = 4) := HM2.out.trans (if_pos (by rw [← HL.out]; omega))
            generalize mayErr kind s.data.toList = r at *
            cases k3 : (kind == 3) <;>
            · go_enter Tryz.func52, Tryz.ntmps52
              go_wp2_with fail
              go_ret
              exact ⟨ret_int HX.out.symm, rfl⟩
          · have HX : Hid (mayErr kind s.data.toList = 0) := HM2.out.trans (if_neg (by rw [← HL.out]; omega))
            generalize mayErr kind s.data.toList = r at *
            cases k3 : (kind == 3) <;>
            · go_enter Tryz.func52, Tryz.ntmps52
              go_wp2_with fail
              go_ret
              exact ⟨ret_int HX.out.symm, rfl⟩
      · have hf := list_none h0
        have hn := list_nil h0
        have hne : s.data.toList = [] := bytes_nil h0
        have hz : (s.size : Int) ≤ 65536 := by omega
        by_cases k3 : kind = 3
        · have HX : Hid (mayErr kind s.data.toList = 3) := HM.out.trans (if_pos (Or.inr ⟨k3, hne⟩))
          generalize mayErr kind s.data.toList = r at *
          subst k3
          clear hne
          go_enter Tryz.func52, Tryz.ntmps52
          go_wp2_with fail
          go_ret
          exact ⟨ret_int HX.out.symm, rfl⟩
        · have HX : Hid (mayErr kind s.data.toList = 0) := HM.out.trans ((if_neg (by rintro (e | e); exact e.2 hne; exact k3 e.1)).trans (if_neg (by rw [← HL.out]; omega)))
          have t3 : (kind == 3) = false := by simpa using k3
          generalize mayErr kind s.data.toList = r at *
          clear hne k3 HM
          cases k1 : (kind == 1) <;>
          · go_enter Tryz.func52, Tryz.ntmps52
            go_wp2_with fail
            go_ret
            exact ⟨ret_int HX.out.symm, rfl⟩
end Go.Proofs.YtmbpgjncioegdaaGreatDoor.W07
/-
  Layer 7 (tree), walks: the plain answers In and List: what each returns; new memory may be laid, nothing that was there is changed.
-/
namespace Go.Proofs.YtmbpgjncioegdaaGreatDoor.W07
set_option maxRecDepth 100000
open Go Go.RowKit Go.Proofs.YtmbpgjncioegdaaGreatDoor.Strs Go.Proofs.YtmbpgjncioegdaaGreatDoor.Recs Go.Proofs.YtmbpgjncioegdaaGreatDoor.M07
open Go.Proofs.YtmbpgjncioegdaaGreatDoor.M06 (Ent)
open Go.Proofs.YtmbpgjncioegdaaGreatDoor.W06 (Ents HandsE refPut_any)
open Go.Proofs.YtmbpgjncioegdaaGreatDoor.W03 (less_bytes same_bytes)
open Go.Proofs.YtmbpgjncioegdaaGreatDoor.Kit (ret_str ret_bool ret_int mk_of mk_bytes ba_ext below_draws on list_full list_ne list_none list_nil bytes_nil bytes_cons)

set_option maxHeartbeats 2000000 in
theorem refIn_any (v : Value) (L : List Nd) (last d : Int) (s : ByteArray) (B : Nat) (w : World) (h : Nodes B w v L) (hB : B ≤ w.heap.size) (hn : L.length ≤ 1099511627776) :
    Calls Tryz.prog 51 #[.agg #[v, .int .i64 last], .int .i64 d, .string s] w fun e w' => e = .returned (.int .i64 (inDir L d s.data.toList)) ∧ Below w.heap.size w w' := by
  have H := Lib.hid h
  obtain ⟨A, c, rfl, hA1, hA2⟩ := h.form
  unfold maxLen at hA2
  clear h
  generalize hm : L.length = m at *
  have HM := Lib.hid hm
  clear hm
  go_enter Tryz.func51, Tryz.ntmps51
  go_wp2_with fail
  go_loopw [7] (fun i wr => ∃ k : Nat, k ≤ m ∧ i = .int .i64 k ∧ Hid (inDir L d s.data.toList = inDir (L.drop k) d s.data.toList) ∧ wr = w.alloc (.cells #[.slice A m c, .int .i64 last] 30)) (fun i _ => m - (intOf i).toNat)
  case atStart => exact ⟨0, Nat.zero_le _, rfl, rfl, rfl⟩
  case round =>
    obtain ⟨k, hk, rfl, hr, rfl⟩ := hrel
    by_cases hlt : k < m
    · obtain ⟨b, o, hl1, rfl, hbl, hc0, hc1, hc2, hc3, hc4⟩ := Nodes.at_ H.out hlt
      have hbw : b < w.heap.size := by omega
      obtain ⟨nm, hnmE⟩ : ∃ t : ByteArray, (⟨(L[k]).name.toArray⟩ : ByteArray) = t := ⟨_, rfl⟩
      have hnl : nm.data.toList = (L[k]).name := by rw [← hnmE]
      rw [hnmE] at hc2
      have hsb := same_bytes nm s
      rw [hnl] at hsb
      clear hnmE hnl
      by_cases hup : (L[k]).up = d
      · have t1 : ((L[k]).up == d) = true := by simpa using hup
        by_cases hnm : (L[k]).name = s.data.toList
        · have t2 : (nm.toList == s.toList) = true := by rw [hsb]; simpa using hnm
          by_cases hnu : (L[k]).num = 1
          · have t3 : ((L[k]).num != 1) = false := by simpa using hnu
            have t4 : ((L[k]).num == 1) = true := by simpa using hnu
            have HX := Lib.hid (hr.out.trans (in_on hl1 (fun e => e.2.2 hnu)))
            clear hup hnm hnu hsb
            go_wp2_with fail
            go_roundw
            case rel => exact ⟨k + 1, by omega, by go_num, HX, by trivial⟩
            case measure => simp [intOf]; omega
          · have t3 : ((L[k]).num != 1) = true := by simpa using hnu
            have t4 : ((L[k]).num == 1) = false := by simpa using hnu
            have HX := Lib.hid (hr.out.trans (in_here hl1 ⟨hup, hnm, hnu⟩))
            clear hup hnm hnu hsb
            go_wp2_with fail
            go_ret
            exact ⟨ret_int HX.out.symm, below_one w _⟩
        · have t2 : (nm.toList == s.toList) = false := by rw [hsb]; simpa using hnm
          have HX := Lib.hid (hr.out.trans (in_on hl1 (fun e => hnm e.2.1)))
          clear hup hnm hsb
          go_wp2_with fail
          go_roundw
          case rel => exact ⟨k + 1, by omega, by go_num, HX, by trivial⟩
          case measure => simp [intOf]; omega
      · have t1 : ((L[k]).up == d) = false := by simpa using hup
        have HX := Lib.hid (hr.out.trans (in_on hl1 (fun e => hup e.1)))
        clear hup hsb
        go_wp2_with fail
        go_roundw
        case rel => exact ⟨k + 1, by omega, by go_num, HX, by trivial⟩
        case measure => simp [intOf]; omega
    · have HX := Lib.hid (hr.out.trans (in_end (by rw [HM.out]; exact hlt)))
      go_wp2_with fail
      go_ret
      exact ⟨ret_int HX.out.symm, below_one w _⟩

/-! ### List -/
set_option maxHeartbeats 2000000 in
theorem refList_any (v : Value) (L : List Nd) (last d : Int) (B : Nat) (w : World) (h : Nodes B w v L) (hB : B ≤ w.heap.size) (hn : L.length ≤ 1099511627776) :
    Calls Tryz.prog 38 #[.agg #[v, .int .i64 last], .int .i64 d] w (HandsE w (listDir L d)) := by
  have H := Lib.hid h
  obtain ⟨A, c, rfl, hA1, hA2⟩ := h.form
  unfold maxLen at hA2
  clear h
  generalize hm : L.length = m at *
  have HM := Lib.hid hm
  clear hm
  go_enter Tryz.func38, Tryz.ntmps38
  go_wp2_with fail
  go_loopw [5, 6] (fun u i wr => ∃ (k : Nat) (out : List Ent), k ≤ m ∧ i = .int .i64 k ∧ out.length ≤ k ∧ Hid (out = listDir (L.take k) d) ∧ Hid (Ents wr.heap.size wr u out) ∧ wr.cell? ⟨w.heap.size, 0, none⟩ = some (.slice A m c) ∧ w.heap.size < wr.heap.size ∧ Below w.heap.size w wr) (fun _ i _ => m - (intOf i).toNat)
  case atStart => exact ⟨0, [], Nat.zero_le _, rfl, Nat.le_refl _, rfl, recs_nil _ _ _ _, by simp, by simp, below_one w _⟩
  case round =>
    obtain ⟨k, out, hk, rfl, hout, hr, hu, hbx, hsz, hb⟩ := hrel
    by_cases hlt : k < m
    · obtain ⟨b, o, hl1, rfl, hbl, hc0, hc1, hc2, hc3, hc4⟩ := Nodes.at_ (H.out.below (hb.mono hB)) hlt
      have hbw : b < wr.heap.size := by have := hb.size; omega
      by_cases hup : (L[k]).up = d
      · have t1 : ((L[k]).up == d) = true := by simpa using hup
        by_cases hnu : (L[k]).num = 1
        · have t4 : ((L[k]).num == 1) = true := by simpa using hnu
          have HX := Lib.hid (hr.out.trans (list_out hl1 (by simp [stands, hnu])).symm)
          clear hup hnu
          go_wp2_with fail
          go_roundw
          case rel => exact ⟨k + 1, out, by omega, by go_num, by omega, HX, hu, hbx, hsz, hb⟩
          case measure => simp [intOf]; omega
        · have t4 : ((L[k]).num == 1) = false := by simpa using hnu
          have HX := Lib.hid (list_in (d := d) hl1 (by simp [stands, hup, hnu]))
          rw [← hr.out] at HX
          have hle := M06.put_len out (entOf L[k])
          have HP := Lib.hid (refPut_any u5 out wr.heap.size ⟨(L[k]).name.toArray⟩ (L[k]).num (wr.drewN 1) (hu.out.drewN 1) (Nat.le_refl _) (by omega))
          clear hup hnu
          go_wp2_with fail
          go_region_held3 (fun w' => w'.cell? ⟨w.heap.size, 0, none⟩ = some (.slice (some ⟨b, o, none⟩) m c) ∧ w'.cell? ⟨b, o + k * 5, none⟩ = some (.int .i64 (L[k]).num) ∧ w'.cell? ⟨b, o + k * 5 + 2, none⟩ = some (.string ⟨(L[k]).name.toArray⟩))
            (first | exact ⟨(hb1.cell hsz).trans hbx, (hb1.cell hbw).trans hc0, (hb1.cell hbw).trans hc2⟩ | exact ⟨hbx, hc0, hc2⟩ | go_keep)
            (first | (go_at_call 62; refine HP.out.mono ?_; rintro e w1 ⟨u1, rfl, hu1, hb1⟩))
          all_goals (go_wp2_with fail)
          have D1 : Below w.heap.size w w1 := on (on hb (below_draws wr 1)) hb1
          have U1 := Lib.hid (W06.OwnEnts.reads hu1)
          have hy : w1.cell? ⟨w.heap.size, 0, none⟩ = some (.slice (some ⟨b, o, none⟩) m c) := (hb1.cell hsz).trans hbx
          have hz : w.heap.size < w1.heap.size := Nat.lt_of_lt_of_le hsz hb1.size
          clear hu1 hb1
          go_roundw
          case rel => exact ⟨k + 1, _, by omega, by go_num, by have := HX.out; omega, HX.symm, U1, hy, hz, D1⟩
          case measure => simp [intOf]; omega
      · have t1 : ((L[k]).up == d) = false := by simpa using hup
        have HX := Lib.hid (hr.out.trans (list_out hl1 (by simp [stands, hup])).symm)
        clear hup
        go_wp2_with fail
        go_roundw
        case rel => exact ⟨k + 1, out, by omega, by go_num, by omega, HX, hu, hbx, hsz, hb⟩
        case measure => simp [intOf]; omega
    · have HX : Hid (out = listDir L d) := hr.out.trans (by rw [List.take_of_length_le (by rw [HM.out]; omega)])
      go_wp2_with fail
      go_ret
      exact ⟨_, rfl, by rw [← HX.out]; exact hu.out, hb⟩
end Go.Proofs.YtmbpgjncioegdaaGreatDoor.W07
/-
  Layer 7 (tree), a walk: the plain answer's with: a tree with a node in another one's place, in new memory; nothing that was there is changed.
-/
namespace Go.Proofs.YtmbpgjncioegdaaGreatDoor.W07
set_option maxRecDepth 100000
open Go Go.RowKit Go.Proofs.YtmbpgjncioegdaaGreatDoor.Strs Go.Proofs.YtmbpgjncioegdaaGreatDoor.Recs Go.Proofs.YtmbpgjncioegdaaGreatDoor.M07
open Go.Proofs.YtmbpgjncioegdaaGreatDoor.M06 (Ent)
open Go.Proofs.YtmbpgjncioegdaaGreatDoor.Kit (ret_str ret_bool ret_int mk_of mk_bytes ba_ext below_draws on)

theorem node_info : (Tryz.prog.info? 69).map (fun i => (i.zero, i.size, i.bytes)) = some (some (.agg #[.int .i64 0, .int .i64 0, .string ⟨#[]⟩, .int .i64 0, .string ⟨#[]⟩]), 5, 56) := by kernel_rfl
def OwnNodes (w : World) (base : Nat) (v : Value) (L : List Nd) : Prop := w.ownsRow base 69 5 v L.length (L.flatMap nodeC)
theorem OwnNodes.reads {w : World} {base : Nat} {v : Value} {L : List Nd} (h : OwnNodes w base v L) : Nodes w.heap.size w v L := Recs.of_own nodeC_len rfl h
theorem nodes_one {L : List Nd} : ∀ u ∈ L.flatMap nodeC, u.oneCell' = true := by
  intro u hu
  obtain ⟨x, -, hx⟩ := List.mem_flatMap.1 hu
  simp only [nodeC, List.mem_cons, List.not_mem_nil, or_false] at hx
  rcases hx with rfl | rfl | rfl | rfl | rfl <;> rfl
theorem flat_set (x : Nd) : ∀ (L : List Nd) (k : Nat), k < L.length → ((((((L.flatMap nodeC).set (k * 5) (.int .i64 x.num)).set (k * 5 + 1) (.int .i64 x.up)).set (k * 5 + 2) (strV x.name)).set (k * 5 + 3) (.int .i64 x.kind)).set (k * 5 + 4) (strV x.data)) = (L.set k x).flatMap nodeC
  | [], k, h => by simp at h
  | y :: L, 0, _ => by simp [nodeC]
  | y :: L, k + 1, h => by
    have ih := flat_set x L k (by simpa using h)
    rw [List.set_cons_succ, List.flatMap_cons, List.flatMap_cons, ← ih]
    have hl : (nodeC y).length = 5 := rfl
    have e : ∀ (M : List Value) (j : Nat) (u : Value), (nodeC y ++ M).set (5 + j) u = nodeC y ++ M.set j u := fun M j u => by
      rw [List.set_append_right _ _ (by rw [hl]; omega), hl]
      congr 2; omega
    rw [show (k + 1) * 5 = 5 + k * 5 by omega, show 5 + k * 5 + 1 = 5 + (k * 5 + 1) by omega, show 5 + k * 5 + 2 = 5 + (k * 5 + 2) by omega, show 5 + k * 5 + 3 = 5 + (k * 5 + 3) by omega, show 5 + k * 5 + 4 = 5 + (k * 5 + 4) by omega]
    rw [e, e, e, e, e]
/-- a node stored into an own row -/
def storeNode (w : World) (g k : Nat) (x : Nd) : World := ((((w.setCell ⟨g, k * 5, none⟩ (.int .i64 x.num)).setCell ⟨g, k * 5 + 1, none⟩ (.int .i64 x.up)).setCell ⟨g, k * 5 + 2, none⟩ (.string ⟨x.name.toArray⟩)).setCell ⟨g, k * 5 + 3, none⟩ (.int .i64 x.kind)).setCell ⟨g, k * 5 + 4, none⟩ (.string ⟨x.data.toArray⟩)
theorem own_store {w : World} {base g n c : Nat} {L : List Nd} {k : Nat} (x : Nd) (hn : n = L.length) (h : OwnNodes w base (.slice (some ⟨g, 0, none⟩) n c) L) (hk : k < L.length) : OwnNodes (storeNode w g k x) base (.slice (some ⟨g, 0, none⟩) n c) (L.set k x) := by
  subst hn
  have h1 := (World.ownsRow.stored h (k * 5) (.int .i64 x.num)).1
  have h2 := (World.ownsRow.stored h1 (k * 5 + 1) (.int .i64 x.up)).1
  have h3 := (World.ownsRow.stored h2 (k * 5 + 2) (strV x.name)).1
  have h4 := (World.ownsRow.stored h3 (k * 5 + 3) (.int .i64 x.kind)).1
  have h5 := (World.ownsRow.stored h4 (k * 5 + 4) (strV x.data)).1
  rw [flat_set x L k hk] at h5
  unfold OwnNodes
  rw [List.length_set]
  exact h5
theorem below_store {B : Nat} {w wr : World} {g k : Nat} {x : Nd} (h : Below B w wr) (hg : B ≤ g) : Below B w (storeNode wr g k x) :=
  ((((h.setCell hg _).setCell hg _).setCell hg _).setCell hg _).setCell hg _
theorem own_form {w : World} {base : Nat} {v : Value} {L : List Nd} (h : OwnNodes w base v L) (h0 : 0 < L.length) : ∃ g c, v = .slice (some ⟨g, 0, none⟩) L.length c ∧ base ≤ g ∧ g < w.heap.size ∧ L.length ≤ c ∧ c ≤ maxLen := by
  rcases h.2 with ⟨_, hz⟩ | ⟨g, cap, cur, hv, hb, hg, hn, hc, _⟩
  · omega
  · refine ⟨g, cap, hv, hb, ?_, hn, hc⟩
    rcases Nat.lt_or_ge g w.heap.size with hlt | hge
    · exact hlt
    · rw [Array.getElem?_eq_none hge] at hg; cases hg
theorem own_frozen {w : World} {base g n c : Nat} {L : List Nd} (hn : n = L.length) (h : OwnNodes w base (.slice (some ⟨g, 0, none⟩) n c) L) (j : Nat) : w.frozen? ⟨g, j, none⟩ = false := by
  subst hn; exact World.ownsRow.frozenAt h j
/-- the nodes when k are gone through -/
def sofar (L : List Nd) (x : Nd) (k : Nat) : List Nd := (L.take k).map (fun a => if a.num = x.num then x else a) ++ L.drop k
theorem sofar_len (L : List Nd) (x : Nd) (k : Nat) : (sofar L x k).length = L.length := by unfold sofar; simp; omega
theorem sofar_at {L : List Nd} {x : Nd} {k : Nat} (hk : k < L.length) : (sofar L x k)[k]'(by rw [sofar_len]; exact hk) = L[k] := by
  unfold sofar
  rw [List.getElem_append_right (by simp; omega)]
  simp [Nat.min_eq_left (Nat.le_of_lt hk)]
theorem sofar_hit {L : List Nd} {x : Nd} {k : Nat} (hk : k < L.length) (h : (L[k]).num = x.num) : (sofar L x k).set k x = sofar L x (k + 1) := by
  have e : (L.drop k).set 0 x = x :: L.drop (k + 1) := by rw [List.drop_eq_getElem_cons hk]; rfl
  have e2 : ((L.take k).map (fun a => if a.num = x.num then x else a)).length = k := by simp; omega
  unfold sofar
  rw [List.set_append_right _ _ (by rw [e2]; exact Nat.le_refl _), e2, Nat.sub_self, e, List.take_succ_eq_append_getElem hk, List.map_append, List.append_assoc]
  simp only [List.map_cons, List.map_nil, h, if_true, List.cons_append, List.nil_append]
theorem sofar_miss {L : List Nd} {x : Nd} {k : Nat} (hk : k < L.length) (h : ¬ (L[k]).num = x.num) : sofar L x k = sofar L x (k + 1) := by
  unfold sofar
  rw [List.take_succ_eq_append_getElem hk, List.map_append]
  conv => lhs; rw [List.drop_eq_getElem_cons hk]
  simp [h]
theorem sofar_end {L : List Nd} {x : Nd} {k : Nat} (hk : ¬ k < L.length) : sofar L x k = L.map (fun a => if a.num = x.num then x else a) := by
  unfold sofar; rw [List.take_of_length_le (by omega), List.drop_of_length_le (by omega), List.append_nil]
theorem sofar_zero (L : List Nd) (x : Nd) : sofar L x 0 = L := by unfold sofar; simp

theorem _root_.Go.World.alloc_size (w : World) (o : Obj) : (w.alloc o).heap.size = w.heap.size + 1 := by show (w.heap.push o).size = _; rw [Array.size_push]
theorem heap_top (w : World) (o : Obj) : (w.alloc o).heap[w.heap.size]? = some o := by show (w.heap.push o)[w.heap.size]? = _; rw [Array.getElem?_push_size]
theorem heap_three_a (w : World) (a b c : Obj) : (((w.alloc a).alloc b).alloc c).heap[w.heap.size]? = some a := by
  rw [Below.heap_alloc _ _ _ (by rw [World.alloc_size, World.alloc_size]; omega), Below.heap_alloc _ _ _ (by rw [World.alloc_size]; omega), heap_top]
theorem heap_three_b (w : World) (a b c : Obj) : (((w.alloc a).alloc b).alloc c).heap[w.heap.size + 1]? = some b := by
  rw [Below.heap_alloc _ _ _ (by rw [World.alloc_size, World.alloc_size]; omega), ← World.alloc_size w a, heap_top]
theorem heap_three_c (w : World) (a b c : Obj) : (((w.alloc a).alloc b).alloc c).heap[w.heap.size + 1 + 1]? = some c := by
  rw [← World.alloc_size w a, ← World.alloc_size (w.alloc a) b, heap_top]

set_option maxHeartbeats 2000000 in
theorem refWith_any (v : Value) (L : List Nd) (last : Int) (x : Nd) (B : Nat) (w : World) (h : Nodes B w v L) (hB : B ≤ w.heap.size) (hn : L.length ≤ 1099511627776) (h0 : 0 < L.length) :
    Calls Tryz.prog 101 #[.agg #[v, .int .i64 last], nodeV x] w fun e w' => ∃ g n c, e = .returned (.agg #[.slice (some ⟨g, 0, none⟩) n c, .int .i64 last]) ∧ w.heap.size ≤ g ∧ Nodes w'.heap.size w' (.slice (some ⟨g, 0, none⟩) n c) (withNode ⟨L, last⟩ x).L ∧ Below w.heap.size w w' := by
  obtain ⟨i0, hi, hz0, hz1, hz2⟩ := info_parts node_info
  have H := Lib.hid h
  obtain ⟨A, c, rfl, hA1, hA2⟩ := h.form
  obtain ⟨b, o, rfl, hbB, hnews⟩ := Recs.news h nodeC_len (by omega) h0
  unfold maxLen at hA2
  have HNW := Lib.hid hnews
  have HFL := Lib.hid (flat_len nodeC_len L)
  clear h hnews
  unfold nodeV
  go_enter Tryz.func101, Tryz.ntmps101
  have hW : ∀ o1 o2 o3 : Obj, Below w.heap.size w (((w.alloc o1).alloc o2).alloc o3) := fun o1 o2 o3 => (((Below.refl w.heap.size w).alloc (Nat.le_refl _) o1).alloc (by simp) o2).alloc (by simp; omega) o3
  have hNW : ∀ o1 o2 o3 : Obj, ∀ j u, (L.flatMap nodeC)[j]? = some u → (((w.alloc o1).alloc o2).alloc o3).cell? ((⟨b, o, none⟩ : Addr).add j) = some u := fun o1 o2 o3 j u hj => ((hW o1 o2 o3).cell (by rw [block_add]; show b < _; omega)).trans (HNW.out j u hj)
  have HNW3 := Lib.hid hNW
  have HW3 := Lib.hid hW
  clear hNW hW
  go_wp2_with (at_builtin; refine wpList_append_own _ rfl (.const (.slice none 0 0)) (.tmp 8) 28 rfl (w.heap.size + 1 + 1 + 1) 69 i0 (.agg #[.int .i64 0, .int .i64 0, .string ⟨#[]⟩, .int .i64 0, .string ⟨#[]⟩]) 5 56 Tryz.underlying28 hi hz0 hz1 hz2 rfl (by decide) (.slice none 0 0) 0 [] rfl (World.ownsRow_nil _ _ _ _) ⟨b, o, none⟩ L.length c (L.flatMap nodeC) rfl HFL.out (HNW3.out _ _ _) nodes_one (by unfold maxLen; omega) (by omega) (by simp) ?_; intro v1 w1 hown1 hgrow1 _)
  rw [Nat.zero_add, List.nil_append] at hown1
  have O1 := Lib.hid (show OwnNodes w1 (w.heap.size + 1 + 1 + 1) v1 L from hown1)
  have HB0 := Lib.hid (HW3.out (.cells #[.slice (some ⟨b, o, none⟩) L.length c, .int .i64 last] 30) (.cells #[.int .i64 x.num, .int .i64 x.up, .string ⟨x.name.toArray⟩, .int .i64 x.kind, .string ⟨x.data.toArray⟩] 69) (.cells #[.slice none 0 0, .int .i64 0] 30))
  clear hown1 HNW3 HW3
  generalize hW3 : ((w.alloc (.cells #[.slice (some ⟨b, o, none⟩) L.length c, .int .i64 last] 30)).alloc (.cells #[.int .i64 x.num, .int .i64 x.up, .string ⟨x.name.toArray⟩, .int .i64 x.kind, .string ⟨x.data.toArray⟩] 69)).alloc (.cells #[.slice none 0 0, .int .i64 0] 30) = W3 at hgrow1 HB0
  have hsz3 : W3.heap.size = w.heap.size + 1 + 1 + 1 := by rw [← hW3]; rw [World.alloc_size, World.alloc_size, World.alloc_size]
  have k1 : W3.heap[w.heap.size]? = some (.cells #[.slice (some ⟨b, o, none⟩) L.length c, .int .i64 last] 30 (0, 0)) := by rw [← hW3]; exact heap_three_a _ _ _ _
  have k2 : W3.heap[w.heap.size + 1]? = some (.cells #[.int .i64 x.num, .int .i64 x.up, .string ⟨x.name.toArray⟩, .int .i64 x.kind, .string ⟨x.data.toArray⟩] 69 (0, 0)) := by rw [← hW3]; exact heap_three_b _ _ _ _
  have k3 : W3.heap[w.heap.size + 1 + 1]? = some (.cells #[.slice none 0 0, .int .i64 0] 30 (0, 0)) := by rw [← hW3]; exact heap_three_c _ _ _ _
  have p1 : W3.cell? ⟨w.heap.size, 1, none⟩ = some (.int .i64 last) := cell_of_row W3 _ 1 _ _ (0, 0) k1
  have q0 : W3.cell? ⟨w.heap.size + 1, 0, none⟩ = some (.int .i64 x.num) := cell_of_row W3 _ 0 _ _ (0, 0) k2
  have q1 : W3.cell? ⟨w.heap.size + 1, 1, none⟩ = some (.int .i64 x.up) := cell_of_row W3 _ 1 _ _ (0, 0) k2
  have q2 : W3.cell? ⟨w.heap.size + 1, 2, none⟩ = some (.string ⟨x.name.toArray⟩) := cell_of_row W3 _ 2 _ _ (0, 0) k2
  have q3 : W3.cell? ⟨w.heap.size + 1, 3, none⟩ = some (.int .i64 x.kind) := cell_of_row W3 _ 3 _ _ (0, 0) k2
  have q4 : W3.cell? ⟨w.heap.size + 1, 4, none⟩ = some (.string ⟨x.data.toArray⟩) := cell_of_row W3 _ 4 _ _ (0, 0) k2
  have r0 : W3.cell? ⟨w.heap.size + 1 + 1, 0, none⟩ = some (.slice none 0 0) := cell_of_row W3 _ 0 _ _ (0, 0) k3
  have r1 : W3.cell? ⟨w.heap.size + 1 + 1, 1, none⟩ = some (.int .i64 0) := cell_of_row W3 _ 1 _ _ (0, 0) k3
  have f0 : W3.frozen? ⟨w.heap.size + 1 + 1, 0, none⟩ = false := frozen_of_row W3 _ 0 _ _ k3
  have f1 : W3.frozen? ⟨w.heap.size + 1 + 1, 1, none⟩ = false := frozen_of_row W3 _ 1 _ _ k3
  clear k1 k2 k3
  have B1 : Hid (Below (w.heap.size + 1 + 1 + 1) W3 w1) := (Below.refl _ W3).grown hgrow1 (by omega) (fun k hk => by cases hk)
  clear hgrow1 hW3
  obtain ⟨g, c1, rfl, hg1, hg2, hcn, hcm⟩ := own_form O1.out h0
  have HS0 := Lib.hid (sofar_zero L x)
  have HEND := Lib.hid (fun k => sofar_end (L := L) (x := x) (k := k))
  generalize hm : L.length = m at *
  have HM := Lib.hid hm
  clear hm
  unfold maxLen at hcm
  go_wp2_with fail
  go_loopw [6] (fun i wr => ∃ k : Nat, k ≤ m ∧ i = .int .i64 k ∧ Hid (OwnNodes wr (w.heap.size + 1 + 1 + 1) (.slice (some ⟨g, 0, none⟩) m c1) (sofar L x k)) ∧ Below (w.heap.size + 1 + 1 + 1) W3 wr) (fun i _ => m - (intOf i).toNat)
  case atStart => exact ⟨0, Nat.zero_le _, rfl, by rw [HS0.out]; exact O1, B1.out⟩
  case round =>
    obtain ⟨k, hk, rfl, hown, hb⟩ := hrel
    have hlt3 : w.heap.size + 1 < w.heap.size + 1 + 1 + 1 := by omega
    have a0 : wr.cell? ⟨w.heap.size + 1, 0, none⟩ = some (.int .i64 x.num) := (hb.cell hlt3).trans q0
    have a1 : wr.cell? ⟨w.heap.size + 1, 1, none⟩ = some (.int .i64 x.up) := (hb.cell hlt3).trans q1
    have a2 : wr.cell? ⟨w.heap.size + 1, 2, none⟩ = some (.string ⟨x.name.toArray⟩) := (hb.cell hlt3).trans q2
    have a3 : wr.cell? ⟨w.heap.size + 1, 3, none⟩ = some (.int .i64 x.kind) := (hb.cell hlt3).trans q3
    have a4 : wr.cell? ⟨w.heap.size + 1, 4, none⟩ = some (.string ⟨x.data.toArray⟩) := (hb.cell hlt3).trans q4
    by_cases hlt : k < m
    · have hlk : k < L.length := by rw [HM.out]; exact hlt
      have hsl : (sofar L x k).length = m := by rw [sofar_len]; exact HM.out
      have hsk := sofar_at (x := x) hlk
      obtain ⟨b2, o2, hl2, he2, hbl, hc0, hc1, hc2, hc3, hc4⟩ := Nodes.at_ (show Nodes wr.heap.size wr (.slice (some ⟨g, 0, none⟩) m c1) (sofar L x k) from hown.out.reads) hlt
      cases he2
      rw [hsk, Nat.zero_add] at hc0
      rw [hsk, Nat.zero_add] at hc1 hc2 hc3 hc4
      by_cases hnum : (L[k]).num = x.num
      · have t1 : ((L[k]).num == x.num) = true := by simpa using hnum
        have HX := Lib.hid (sofar_hit hlk hnum)
        have OS : Hid (∀ q, OwnNodes (storeNode (wr.drewN q) g k x) (w.heap.size + 1 + 1 + 1) (.slice (some ⟨g, 0, none⟩) m c1) (sofar L x (k + 1))) := fun q => by
          rw [← HX.out]
          exact own_store x hsl.symm (show OwnNodes (wr.drewN q) _ _ _ from hown.out) (by rw [hsl]; exact hlt)
        have z0 : wr.frozen? ⟨g, k * 5, none⟩ = false := own_frozen hsl.symm hown.out _
        have z1 : wr.frozen? ⟨g, k * 5 + 1, none⟩ = false := own_frozen hsl.symm hown.out _
        have z2 : wr.frozen? ⟨g, k * 5 + 2, none⟩ = false := own_frozen hsl.symm hown.out _
        have z3 : wr.frozen? ⟨g, k * 5 + 3, none⟩ = false := own_frozen hsl.symm hown.out _
        have z4 : wr.frozen? ⟨g, k * 5 + 4, none⟩ = false := own_frozen hsl.symm hown.out _
        clear hnum
        go_wp2_with fail
        go_quiet (fail)
        go_wp2_with fail
        go_roundw
        case rel => exact ⟨k + 1, by omega, by go_num, OS.out _, below_store (hb.trans ((below_draws wr _).mono (by have := hb.size; omega))) hg1⟩
        case measure => simp [intOf]; omega
      · have t1 : ((L[k]).num == x.num) = false := by simpa using hnum
        have HX := Lib.hid (sofar_miss hlk hnum)
        rw [HX.out] at hown
        clear hnum hc1 hc2 hc3 hc4
        go_wp2_with fail
        go_quiet (fail)
        go_wp2_with fail
        go_roundw
        case rel => exact ⟨k + 1, by omega, by go_num, hown, hb.trans ((below_draws wr nq).mono (by have := hb.size; omega))⟩
        case measure => simp [intOf]; omega
    · have HX : Hid (sofar L x k = (withNode ⟨L, last⟩ x).L) := HEND.out k hlt
      rw [HX.out] at hown
      have b1 : wr.cell? ⟨w.heap.size, 1, none⟩ = some (.int .i64 last) := (hb.cell (show w.heap.size < w.heap.size + 1 + 1 + 1 by omega)).trans p1
      have s0 : wr.cell? ⟨w.heap.size + 1 + 1, 0, none⟩ = some (.slice none 0 0) := (hb.cell (show w.heap.size + 1 + 1 < w.heap.size + 1 + 1 + 1 by omega)).trans r0
      have s1 : wr.cell? ⟨w.heap.size + 1 + 1, 1, none⟩ = some (.int .i64 0) := (hb.cell (show w.heap.size + 1 + 1 < w.heap.size + 1 + 1 + 1 by omega)).trans r1
      have g0 : wr.frozen? ⟨w.heap.size + 1 + 1, 0, none⟩ = false := (hb.frozen (show w.heap.size + 1 + 1 < w.heap.size + 1 + 1 + 1 by omega)).trans f0
      have g1 : wr.frozen? ⟨w.heap.size + 1 + 1, 1, none⟩ = false := (hb.frozen (show w.heap.size + 1 + 1 < w.heap.size + 1 + 1 + 1 by omega)).trans f1
      have HN := Lib.hid hown.out.reads
      have HBW : Hid (Below w.heap.size w wr) := HB0.out.trans (hb.mono (by omega))
      clear hown
      go_wp2_with fail
      refine bodyPost_ret_by (v := .agg #[.slice (some ⟨g, 0, none⟩) m c1, .int .i64 last]) ?_ rfl ⟨g, m, c1, rfl, by omega, ?_, ?_⟩
      · rw [results_cell_one rfl]
        go_simp
      · refine Recs.more (Recs.other HN.out fun p hp => ?_) (by simp [World.setCell])
        have hne : ∀ j, (⟨w.heap.size + 1 + 1, j, none⟩ : Addr) ≠ p := fun j e => by
          have : w.heap.size + 1 + 1 = g := by rw [← hp, ← e]
          omega
        have e1 : ∀ (w' : World) (j : Nat) (u : Value), (w'.setCell ⟨w.heap.size + 1 + 1, j, none⟩ u).cell? p = w'.cell? p := fun w' j u => World.cell?_setCell_other (h := hne j) ..
        rw [e1, e1]
      · exact (HBW.out.setCell (by show w.heap.size ≤ w.heap.size + 1 + 1; omega) _).setCell (by show w.heap.size ≤ w.heap.size + 1 + 1; omega) _
end Go.Proofs.YtmbpgjncioegdaaGreatDoor.W07
