/-
  Layer 6 (ents), walks of lives and of the law EntsKeep: they return true, at every argument; new memory may be laid, nothing that was there is changed.
-/
import Derived.Test.YtnfamakpbgaoiaaW06Code
import Derived.Deep.RegionWith
namespace Go.Proofs.Ytnfamakpbgaoiaa.W06
open Go Go.RowKit Go.Proofs.Ytnfamakpbgaoiaa.Strs Go.Proofs.Ytnfamakpbgaoiaa.Recs Go.Proofs.Ytnfamakpbgaoiaa.M06
open Go.Proofs.Ytnfamakpbgaoiaa.Kit (ret_str ret_bool ret_int mk_of mk_bytes ba_ext below_draws on)

theorem life_put (w : World) : Calls Try.prog 15 #[.slice none 0 0, .agg #[.string ⟨#[99]⟩, .int .i64 3]] w (HandsE w [([99], 3)]) := by
  have h := put_any (.slice none 0 0) [] w ⟨#[99]⟩ 3 (recs_nil _ _ _ _) (by simp)
  rw [show put [] ((⟨#[99]⟩ : ByteArray).data.toList, 3) = [([99], 3)] by decide +kernel] at h
  exact h
theorem life_more (v : Value) (w : World) (hv : Ents w.heap.size w v [([99], 3)]) : Calls Try.prog 15 #[v, .agg #[.string ⟨#[97]⟩, .int .i64 1]] w (HandsE w [([97], 1), ([99], 3)]) := by
  have h := put_any v _ w ⟨#[97]⟩ 1 hv (by simp)
  rw [show put [([99], 3)] ((⟨#[97]⟩ : ByteArray).data.toList, 1) = [([97], 1), ([99], 3)] by decide +kernel] at h
  exact h
theorem life_next (v : Value) (w : World) (hv : Ents w.heap.size w v [([97], 1), ([99], 3)]) : Calls Try.prog 8 #[v, .string ⟨#[98]⟩] w fun e w' => e = .returned (.tuple #[.agg #[.string ⟨#[99]⟩, .int .i64 3], .bool true]) ∧ Below w.heap.size w w' := by
  have h := next_any v _ w ⟨#[98]⟩ hv (by simp)
  rw [show next (all [([97], 1), ([99], 3)]) (⟨#[98]⟩ : ByteArray).data.toList = (([99], 3), true) by decide +kernel] at h
  exact h
theorem two_form {B : Nat} {w : World} {v : Value} {a b : Ent} (h : Ents B w v [a, b]) : ∃ A c, v = .slice A 2 c := by
  obtain ⟨A, c, rfl, -, -⟩ := h.form
  exact ⟨A, c, rfl⟩

set_option maxHeartbeats 400000 in
theorem lives_any (w : World) : Calls Try.prog 5 #[] w fun e w' => e = .returned (.bool true) ∧ Below w.heap.size w w' := by
  go_enter Try.func5, Try.ntmps5
  go_wp2_with fail
  refine (life_put _).mono ?_
  rintro e w1 ⟨u, rfl, hu, hb1⟩
  have B1 := Lib.hid hb1
  have U1 := Lib.hid hu
  clear hu hb1
  go_wp2_with fail
  refine (life_more u _ U1.out).mono ?_
  rintro e w2 ⟨x, rfl, hx, hb2⟩
  have B2 := Lib.hid (on B1.out hb2)
  have U2 := Lib.hid hx
  clear hx hb2
  go_wp2_with fail
  refine (life_next x _ U2.out).mono ?_
  rintro e w3 ⟨rfl, hb3⟩
  have B3 := Lib.hid (on B2.out hb3)
  obtain ⟨A, c, rfl⟩ := two_form U2.out
  clear hb3
  go_wp2_with fail
  go_ret
  exact ⟨rfl, Below.alloc B3.out B3.out.size _⟩

/-! ### EntsKeep -/
set_option maxHeartbeats 2000000 in
theorem entsKeep_short (w : World) (va vb : Value) (La Lb : List Ent) (ha : Ents w.heap.size w va La) (hb : Ents w.heap.size w vb Lb) (en : ByteArray) (z : Int) (hla : (La.length : Int) ≤ 60) (hlb : (Lb.length : Int) ≤ 60) :
    Calls Try.prog 4 #[va, vb, .agg #[.string en, .int .i64 z]] w fun e w' => e = .returned (.bool true) ∧ Below w.heap.size w w' := by
  have HMc := Lib.hid (merge_any va vb La Lb ((w.alloc (.cells #[.string en, .int .i64 z] 24)).drewN 1) (((ha.alloc (Nat.le_refl _) _).more (by simp)).drewN 1) (((hb.alloc (Nat.le_refl _) _).more (by simp)).drewN 1) (by omega) (by omega))
  have lM : (merge La Lb).length ≤ 120 := by have := merge_len La Lb; omega
  obtain ⟨A, c, rfl, hA1, hA2⟩ := ha.form
  obtain ⟨A', c', rfl, hB1, hB2⟩ := hb.form
  unfold maxLen at hA2 hB2
  clear ha hb
  have lP : (put (merge La Lb) (en.data.toList, z)).length ≤ 121 := by have := put_len (merge La Lb) (en.data.toList, z); omega
  have lC : (cut (put (merge La Lb) (en.data.toList, z)) en.data.toList).length ≤ 121 := by have := cut_len (put (merge La Lb) (en.data.toList, z)) en.data.toList; omega
  have rP := right_put (merge La Lb) (en.data.toList, z)
  have rC := right_cut (put (merge La Lb) (en.data.toList, z)) en.data.toList
  have fP : M06.find (all (put (merge La Lb) (en.data.toList, z))) en.data.toList = (z, true) := by rw [all_right rP]; exact find_put _ _
  have fC : M06.find (all (cut (put (merge La Lb) (en.data.toList, z)) en.data.toList)) en.data.toList = (0, false) := by rw [all_right rC]; exact find_cut _ _
  have HPc : Hid (∀ (w : World) (v : Value), Ents w.heap.size w v (merge La Lb) → Calls Try.prog 15 #[v, .agg #[.string en, .int .i64 z]] w (HandsE w (put (merge La Lb) (en.data.toList, z)))) := fun w v h => put_any v _ w en z h (by omega)
  have HFc : Hid (∀ (w : World) (v : Value), Ents w.heap.size w v (put (merge La Lb) (en.data.toList, z)) → Calls Try.prog 6 #[v, .string en] w fun e w' => e = .returned (.tuple #[.int .i64 z, .bool true]) ∧ Below w.heap.size w w') := fun w v h => by
    have := find_any v _ w en h (by omega)
    rw [fP] at this; exact this
  have HCc : Hid (∀ (w : World) (v : Value), Ents w.heap.size w v (put (merge La Lb) (en.data.toList, z)) → Calls Try.prog 17 #[v, .string en] w (HandsE w (cut (put (merge La Lb) (en.data.toList, z)) en.data.toList))) := fun w v h => cut_any v _ w en h (by omega)
  have HGc : Hid (∀ (w : World) (v : Value), Ents w.heap.size w v (cut (put (merge La Lb) (en.data.toList, z)) en.data.toList) → Calls Try.prog 6 #[v, .string en] w fun e w' => e = .returned (.tuple #[.int .i64 0, .bool false]) ∧ Below w.heap.size w w') := fun w v h => by
    have := find_any v _ w en h (by omega)
    rw [fC] at this; exact this
  have HRc : Hid (∀ (w : World) (v : Value), Ents w.heap.size w v (put (merge La Lb) (en.data.toList, z)) → Calls Try.prog 13 #[v] w fun e w' => e = .returned (.bool true) ∧ Below w.heap.size w w') := fun w v h => by
    have := right_any v _ w h (by omega)
    rw [rP] at this; exact this
  have HSc : Hid (∀ (w : World) (v : Value), Ents w.heap.size w v (cut (put (merge La Lb) (en.data.toList, z)) en.data.toList) → Calls Try.prog 13 #[v] w fun e w' => e = .returned (.bool true) ∧ Below w.heap.size w w') := fun w v h => by
    have := right_any v _ w h (by omega)
    rw [rC] at this; exact this
  clear rP rC fP fC lM lP lC
  generalize cut (put (merge La Lb) (en.data.toList, z)) en.data.toList = C at *
  generalize put (merge La Lb) (en.data.toList, z) = P at *
  generalize merge La Lb = M at *
  generalize La.length = na at *
  generalize Lb.length = nb at *
  have tz : (z == z) = true := by simp
  go_enter Try.func4, Try.ntmps4
  go_wp2_with fail
  go_region_with (first
    | (go_at_call 19; refine HMc.out.mono ?_; rintro e w1 ⟨u, rfl, hu, hb1⟩; have hx0 : w1.cell? ⟨w.heap.size, 0, none⟩ = some (.string en) := by {rw [hb1.cell (by simp)]; simp}; have hx1 : w1.cell? ⟨w.heap.size, 1, none⟩ = some (.int .i64 z) := by {rw [hb1.cell (by simp)]; simp}; have B1 := Lib.hid hb1; have U1 := Lib.hid hu; clear hu hb1)
    | (go_at_call 15; refine (HPc.out _ _ U1.out).mono ?_; rintro e w2 ⟨x, rfl, hx, hb2⟩; have B2 := Lib.hid hb2; have U2 := Lib.hid hx; clear hx hb2))
  all_goals (
    have hs1 : w.heap.size < w1.heap.size := by have := B1.out.size; simp at this; omega
    have hs2 : w.heap.size < w2.heap.size := by have := B2.out.size; omega
    have BB : Hid (Below w.heap.size w w2) := (((Below.refl w.heap.size w).alloc (Nat.le_refl _) _).trans ((below_draws _ 1).mono (by simp))).trans ((B1.out.mono (by simp)).trans (B2.out.mono (by omega)))
    have hy0 : w2.cell? ⟨w.heap.size, 0, none⟩ = some (.string en) := by rw [B2.out.cell hs1]; exact hx0
    have hy1 : w2.cell? ⟨w.heap.size, 1, none⟩ = some (.int .i64 z) := by rw [B2.out.cell hs1]; exact hx1
    clear hx0 hx1 B1 B2 hs1
    go_wp2_with fail
    refine (HFc.out _ _ U2.out).mono ?_
    rintro e w3 ⟨rfl, hb3⟩
    have U3 := Lib.hid ((U2.out.below hb3).more hb3.size)
    have B3 := Lib.hid (on BB.out hb3)
    have hs3 : w.heap.size < w3.heap.size := by have := hb3.size; omega
    have hz0 : w3.cell? ⟨w.heap.size, 0, none⟩ = some (.string en) := by rw [hb3.cell hs2]; exact hy0
    have hz1 : w3.cell? ⟨w.heap.size, 1, none⟩ = some (.int .i64 z) := by rw [hb3.cell hs2]; exact hy1
    clear hb3 hy0 hy1 hs2
    go_wp2_with fail
    go_region_with (first
      | (go_at_call 17; refine (HCc.out (w3.drewN 1) _ (U3.out.drewN 1)).mono ?_; rintro e w4 ⟨u4, rfl, hu4, hb4⟩; have hv0 : w4.cell? ⟨w.heap.size, 0, none⟩ = some (.string en) := by {rw [hb4.cell (by exact hs3)]; exact hz0}; have hv1 : w4.cell? ⟨w.heap.size, 1, none⟩ = some (.int .i64 z) := by {rw [hb4.cell (by exact hs3)]; exact hz1}; have B4 := Lib.hid hb4; have U4 := Lib.hid hu4; clear hu4 hb4)
      | (go_at_call 6; refine (HGc.out _ _ U4.out).mono ?_; rintro e w5 ⟨rfl, hb5⟩; have B5 := Lib.hid hb5; clear hb5))
    all_goals (
      have D4 : Hid (Below w3.heap.size w3 w4) := (below_draws w3 1).trans B4.out
      have hs4 : w.heap.size < w4.heap.size := by have := D4.out.size; omega
      have hs5 : w.heap.size < w5.heap.size := by have := B5.out.size; omega
      have U5 := Lib.hid ((((U3.out.below D4.out).more D4.out.size).below B5.out).more B5.out.size)
      have BB5 := Lib.hid (on (on B3.out D4.out) B5.out)
      have hq0 : w5.cell? ⟨w.heap.size, 0, none⟩ = some (.string en) := by rw [B5.out.cell hs4]; exact hv0
      have hq1 : w5.cell? ⟨w.heap.size, 1, none⟩ = some (.int .i64 z) := by rw [B5.out.cell hs4]; exact hv1
      clear hz0 hz1 hv0 hv1 hs3 hs4 U3 U4 B3 B4 B5 D4
      go_wp2_with fail
      refine (HRc.out _ _ U5.out).mono ?_
      rintro e w6 ⟨rfl, hb6⟩
      have U6 := Lib.hid ((U5.out.below hb6).more hb6.size)
      have BB6 := Lib.hid (on BB5.out hb6)
      have hs6 : w.heap.size < w6.heap.size := by have := hb6.size; omega
      have hr0 : w6.cell? ⟨w.heap.size, 0, none⟩ = some (.string en) := by rw [hb6.cell hs5]; exact hq0
      have hr1 : w6.cell? ⟨w.heap.size, 1, none⟩ = some (.int .i64 z) := by rw [hb6.cell hs5]; exact hq1
      clear hb6 hq0 hq1 hs5 U5 BB5
      go_wp2_with fail
      refine (HCc.out _ _ U6.out).mono ?_
      rintro e w7 ⟨u7, rfl, hu7, hb7⟩
      have U7 := Lib.hid hu7
      have BB7 := Lib.hid (on BB6.out hb7)
      have hs7 : w.heap.size < w7.heap.size := by have := hb7.size; omega
      have hp1 : w7.cell? ⟨w.heap.size, 1, none⟩ = some (.int .i64 z) := by rw [hb7.cell hs6]; exact hr1
      clear hb7 hr0 hr1 hs6 U6 BB6 hu7
      go_wp2_with fail
      refine (HSc.out _ _ U7.out).mono ?_
      rintro e w8 ⟨rfl, hb8⟩
      have BB8 := Lib.hid (on BB7.out hb8)
      have ho1 : w8.cell? ⟨w.heap.size, 1, none⟩ = some (.int .i64 z) := by rw [hb8.cell hs7]; exact hp1
      clear hb8 hp1 hs7 U7 BB7
      go_wp2_with fail
      refine (lives_any _).mono ?_
      rintro e w9 ⟨rfl, hb9⟩
      have BB9 := Lib.hid (on BB8.out hb9)
      clear hb9
      go_wp2_with fail
      go_ret
      exact ⟨rfl, BB9.out⟩))
theorem entsKeep_law (w : World) (va : Value) (La : List Ent) (ha : Ents w.heap.size w va La) (vb : Value) (Lb : List Ent) (hb : Ents w.heap.size w vb Lb) (en : ByteArray) (z : Int) :
    Calls Try.prog 4 #[va, vb, .agg #[.string en, .int .i64 z]] w fun e w' => e = .returned (.bool true) ∧ Below w.heap.size w w' := by
  by_cases h1 : (La.length : Int) ≤ 60
  · by_cases h2 : (Lb.length : Int) ≤ 60
    · exact entsKeep_short w va vb La Lb ha hb en z h1 h2
    · obtain ⟨A, c, rfl, hA1, hA2⟩ := ha.form
      obtain ⟨A', c', rfl, hB1, hB2⟩ := hb.form
      have h3 : (60 : Int) < Lb.length := by omega
      clear h2 ha hb
      go_enter Try.func4, Try.ntmps4
      go_wp2_with fail
      refine (lives_any _).mono ?_
      rintro e w9 ⟨rfl, hb9⟩
      go_wp2_with fail
      go_ret
      exact ⟨rfl, ((Below.refl w.heap.size w).alloc (Nat.le_refl _) _).trans (hb9.mono (by simp))⟩
  · obtain ⟨A, c, rfl, hA1, hA2⟩ := ha.form
    obtain ⟨A', c', rfl, hB1, hB2⟩ := hb.form
    have h3 : (60 : Int) < La.length := by omega
    clear h1 ha hb
    go_enter Try.func4, Try.ntmps4
    go_wp2_with fail
    refine (lives_any _).mono ?_
    rintro e w9 ⟨rfl, hb9⟩
    go_wp2_with fail
    go_ret
    exact ⟨rfl, ((Below.refl w.heap.size w).alloc (Nat.le_refl _) _).trans (hb9.mono (by simp))⟩
end Go.Proofs.Ytnfamakpbgaoiaa.W06
