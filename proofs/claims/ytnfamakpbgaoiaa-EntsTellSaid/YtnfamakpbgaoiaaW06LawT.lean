/-
  Layer 6 (ents), a walk of the law EntsTell: it returns true, at every argument; new memory may be laid, nothing that was there is changed.
-/
import Derived.Test.YtnfamakpbgaoiaaW06Laws
import Derived.Test.YtnfamakpbgaoiaaW02Same
import Derived.Deep.RegionHeld3
namespace Go.Proofs.Ytnfamakpbgaoiaa.W06
open Go Go.RowKit Go.Proofs.Ytnfamakpbgaoiaa.Strs Go.Proofs.Ytnfamakpbgaoiaa.Recs Go.Proofs.Ytnfamakpbgaoiaa.M06
open Go.Proofs.Ytnfamakpbgaoiaa.Kit (ret_str ret_bool ret_int mk_of mk_bytes ba_ext below_draws on)

theorem same_yesE (va vb : Value) (L : List Ent) (B : Nat) (w : World) (ha : Ents B w va L) (hb : Ents B w vb L) :
    Calls Try.prog 14 #[va, vb] w fun e w' => e = .returned (.bool true) ∧ Below w.heap.size w w' :=
  (refSame_any va vb L L B w ha hb).mono fun _ _ ⟨he, n, hw⟩ => ⟨by rw [he]; exact ret_bool (by simp), by rw [hw]; exact below_draws _ _⟩
theorem same_yesT (va vb : Value) (L : List (List UInt8)) (B : Nat) (w : World) (ha : Texts B w va L) (hb : Texts B w vb L) :
    Calls Try.prog 11 #[va, vb] w fun e w' => e = .returned (.bool true) ∧ Below w.heap.size w w' :=
  (W02.same_any va vb L L B w ha hb).mono fun _ _ ⟨he, n, hw⟩ => ⟨by rw [he]; exact ret_bool (by simp), by rw [hw]; exact below_draws _ _⟩
theorem names_false {L : List Ent} (h : right L = false) : names L = [] := by unfold names all; rw [h]; rfl
theorem names_true {L : List Ent} (h : right L = true) : names L = L.map (·.1) := by unfold names all; rw [h]; rfl
theorem right_some {L : List Ent} (h : right L = false) : 0 < L.length := by
  cases L with
  | nil => cases h
  | cons a L => simp

section
variable {w9 w' w'' : World} {B : Nat} {x0 x1 : Value}
theorem held_ents {v : Value} {L : List Ent} (h : Ents w9.heap.size w9 v L) (hS : w'.cell? ⟨B, 0, none⟩ = some x0 ∧ w'.cell? ⟨B, 1, none⟩ = some x1 ∧ Below w9.heap.size w9 w') : Ents w'.heap.size w' v L := (h.below hS.2.2).more hS.2.2.size
theorem held_on (hs : B < w9.heap.size) (hS : w'.cell? ⟨B, 0, none⟩ = some x0 ∧ w'.cell? ⟨B, 1, none⟩ = some x1 ∧ Below w9.heap.size w9 w') (hb : Below w'.heap.size w' w'') : w''.cell? ⟨B, 0, none⟩ = some x0 ∧ w''.cell? ⟨B, 1, none⟩ = some x1 ∧ Below w9.heap.size w9 w'' := by
  have := hS.2.2.size
  exact ⟨by rw [hb.cell (by show B < _; omega)]; exact hS.1, by rw [hb.cell (by show B < _; omega)]; exact hS.2.1, on hS.2.2 hb⟩
theorem held_draw (hS : w'.cell? ⟨B, 0, none⟩ = some x0 ∧ w'.cell? ⟨B, 1, none⟩ = some x1 ∧ Below w9.heap.size w9 w') : w'.drew.cell? ⟨B, 0, none⟩ = some x0 ∧ w'.drew.cell? ⟨B, 1, none⟩ = some x1 ∧ Below w9.heap.size w9 w'.drew := ⟨hS.1, hS.2.1, hS.2.2.drew⟩
theorem held_below (hS : w'.cell? ⟨B, 0, none⟩ = some x0 ∧ w'.cell? ⟨B, 1, none⟩ = some x1 ∧ Below w9.heap.size w9 w') : Below w9.heap.size w9 w' := hS.2.2
end
/-- an own row, kept by a call -/
theorem _root_.Go.World.ownsRow.belowRow {w w' : World} {base : Nat} {e : TypeId} {size : Nat} {v : Value} {n : Nat} {xs : List Value} (h : w.ownsRow base e size v n xs) (hb : Below w.heap.size w w') : w'.ownsRow base e size v n xs := by
  refine ⟨h.1, ?_⟩
  rcases h.2 with hn | ⟨g, cap, cur, hv, hg, hh, rest⟩
  · exact Or.inl hn
  · refine Or.inr ⟨g, cap, cur, hv, hg, ?_, rest⟩
    rw [hb.block g ?_]; exact hh
    rcases Nat.lt_or_ge g w.heap.size with hlt | hge
    · exact hlt
    · rw [Array.getElem?_eq_none hge] at hh; cases hh

set_option maxHeartbeats 8000000 in
set_option maxRecDepth 100000 in
theorem entsTell_true (w : World) (va vb : Value) (La Lb : List Ent) (ha : Ents w.heap.size w va La) (hb : Ents w.heap.size w vb Lb) (en : ByteArray) (z : Int) (hla : (La.length : Int) ≤ 60) (hlb : (Lb.length : Int) ≤ 60) (hr : right La = true) :
    Calls Try.prog 3 #[va, vb, .agg #[.string en, .int .i64 z]] w fun e w' => e = .returned (.bool true) ∧ Below w.heap.size w w' := by
  obtain ⟨i0, hi, hz0, hz1, hz2⟩ := info_parts text_info
  have HA := Lib.hid ((ha.alloc (Nat.le_refl _) (.cells #[.string en, .int .i64 z] 24)).more (B' := (w.alloc (.cells #[.string en, .int .i64 z] 24)).heap.size) (by simp))
  have HB := Lib.hid ((hb.alloc (Nat.le_refl _) (.cells #[.string en, .int .i64 z] 24)).more (B' := (w.alloc (.cells #[.string en, .int .i64 z] 24)).heap.size) (by simp))
  obtain ⟨A, c, rfl, hA1, hA2⟩ := ha.form
  obtain ⟨A', c', rfl, hB1, hB2⟩ := hb.form
  unfold maxLen at hA2 hB2
  clear ha hb
  have CF : Hid (∀ (w : World) (v : Value), Ents w.heap.size w v La → Calls Try.prog 6 #[v, .string en] w fun e w' => e = .returned (.tuple #[.int .i64 (M06.find (all La) en.data.toList).1, .bool (M06.find (all La) en.data.toList).2]) ∧ Below w.heap.size w w') := fun w v h => find_any v _ w en h (by omega)
  have RF : Hid (∀ (w : World) (v : Value), Ents w.heap.size w v La → Calls Try.prog 7 #[v, .string en] w fun e w' => e = .returned (.tuple #[.int .i64 (M06.find (all La) en.data.toList).1, .bool (M06.find (all La) en.data.toList).2]) ∧ Below w.heap.size w w') := fun w v h => (refFind_any v _ _ en w h (by omega)).mono fun _ _ => draws_below
  have CN : Hid (∀ (w : World) (v : Value), Ents w.heap.size w v La → Calls Try.prog 8 #[v, .string en] w fun e w' => e = .returned (.tuple #[.agg #[.string ⟨(next (all La) en.data.toList).1.1.toArray⟩, .int .i64 (next (all La) en.data.toList).1.2], .bool (next (all La) en.data.toList).2]) ∧ Below w.heap.size w w') := fun w v h => next_any v _ w en h (by omega)
  have RN : Hid (∀ (w : World) (v : Value), Ents w.heap.size w v La → Calls Try.prog 9 #[v, .string en] w fun e w' => e = .returned (.tuple #[.agg #[.string ⟨(next (all La) en.data.toList).1.1.toArray⟩, .int .i64 (next (all La) en.data.toList).1.2], .bool (next (all La) en.data.toList).2]) ∧ Below w.heap.size w w') := fun w v h => refNext_any v _ _ en w h (Nat.le_refl _) (by omega)
  have CM : Hid (∀ (w : World) (v : Value), Ents w.heap.size w v La → Calls Try.prog 12 #[v] w (HandsT w (names La))) := fun w v h => names_any v _ w h (by omega)
  have CR : Hid (∀ (w : World) (v : Value), Ents w.heap.size w v La → Calls Try.prog 13 #[v] w fun e w' => e = .returned (.bool (right La)) ∧ Below w.heap.size w w') := fun w v h => right_any v _ w h (by omega)
  have RR : Hid (∀ (w : World) (v : Value), Ents w.heap.size w v La → Calls Try.prog 10 #[v] w fun e w' => e = .returned (.bool (right La)) ∧ Below w.heap.size w w') := fun w v h => (refRight_any v _ _ w h (by omega)).mono fun _ _ => draws_below
  have CP : Hid (∀ (w : World) (v : Value), Ents w.heap.size w v La → Calls Try.prog 15 #[v, .agg #[.string en, .int .i64 z]] w (HandsE w (put La (en.data.toList, z)))) := fun w v h => put_any v _ w en z h (by omega)
  have RP : Hid (∀ (w : World) (v : Value), Ents w.heap.size w v La → Calls Try.prog 16 #[v, .agg #[.string en, .int .i64 z]] w (HandsE w (put La (en.data.toList, z)))) := fun w v h => (refPut_any v _ _ en z w h (Nat.le_refl _) (by omega)).mono fun _ _ h => makes_handsE h
  have CC : Hid (∀ (w : World) (v : Value), Ents w.heap.size w v La → Calls Try.prog 17 #[v, .string en] w (HandsE w (cut La en.data.toList))) := fun w v h => cut_any v _ w en h (by omega)
  have RC : Hid (∀ (w : World) (v : Value), Ents w.heap.size w v La → Calls Try.prog 18 #[v, .string en] w (HandsE w (cut La en.data.toList))) := fun w v h => (refCut_any v _ _ en w h (Nat.le_refl _) (by omega)).mono fun _ _ h => makes_handsE h
  have CG : Hid (∀ (w : World) (v u : Value), Ents w.heap.size w v La → Ents w.heap.size w u Lb → Calls Try.prog 19 #[v, u] w (HandsE w (merge La Lb))) := fun w v u h k => merge_any v u _ _ w h k (by omega) (by omega)
  have RG : Hid (∀ (w : World) (v u : Value), Ents w.heap.size w v La → Ents w.heap.size w u Lb → Calls Try.prog 20 #[v, u] w (HandsE w (merge La Lb))) := fun w v u h k => refMerge_any v u _ _ w h k (by omega) (by omega)
  have HR := Lib.hid hr
  rw [hr] at CR RR
  have HN := Lib.hid (names_true hr)
  clear hr
  generalize merge La Lb = MG at *
  generalize cut La en.data.toList = CU at *
  generalize put La (en.data.toList, z) = PU at *
  generalize (next (all La) en.data.toList).1.1 = nx at *
  generalize (next (all La) en.data.toList).1.2 = nz at *
  generalize (next (all La) en.data.toList).2 = nb at *
  generalize (M06.find (all La) en.data.toList).1 = fz at *
  generalize (M06.find (all La) en.data.toList).2 = fb at *
  have e1 : (fz == fz) = true := by simp
  have e2 : (fb == fb) = true := by simp
  have e3 : (nb == nb) = true := by simp
  have e4 : (nz == nz) = true := by simp
  have e5 : ((⟨nx.toArray⟩ : ByteArray).toList == (⟨nx.toArray⟩ : ByteArray).toList) = true := by simp
  generalize hna : La.length = na at *
  have HNA := Lib.hid hna
  generalize hnb : Lb.length = mb at *
  clear hna hnb
  go_enter Try.func3, Try.ntmps3
  go_wp2_with fail
  refine (CF.out _ _ HA.out).mono ?_
  rintro e w1 ⟨rfl, hb⟩
  have hx0 : w1.cell? ⟨w.heap.size, 0, none⟩ = some (.string en) := by rw [hb.cell (by simp)]; simp
  have hx1 : w1.cell? ⟨w.heap.size, 1, none⟩ = some (.int .i64 z) := by rw [hb.cell (by simp)]; simp
  have hs : w.heap.size < w1.heap.size := by have := hb.size; simp at this; omega
  have BB : Hid (Below w.heap.size w w1) := ((Below.refl w.heap.size w).alloc (Nat.le_refl _) _).trans (hb.mono (by simp))
  have HA := Lib.hid ((HA.out.below hb).more hb.size)
  have HB := Lib.hid ((HB.out.below hb).more hb.size)
  clear hb
  go_wp2_with fail
  refine (RF.out _ _ HA.out).mono ?_
  rintro e w2 ⟨rfl, hb⟩
  have hy0 : w2.cell? ⟨w.heap.size, 0, none⟩ = some (.string en) := by rw [hb.cell hs]; exact hx0
  have hy1 : w2.cell? ⟨w.heap.size, 1, none⟩ = some (.int .i64 z) := by rw [hb.cell hs]; exact hx1
  clear hx0 hx1
  have hx0 := hy0
  have hx1 := hy1
  clear hy0 hy1
  have hs : w.heap.size < w2.heap.size := by have := hb.size; omega
  have BB := Lib.hid (on BB.out hb)
  have HA := Lib.hid ((HA.out.below hb).more hb.size)
  have HB := Lib.hid ((HB.out.below hb).more hb.size)
  clear hb
  go_wp2_with fail
  refine (CN.out _ _ HA.out).mono ?_
  rintro e w3 ⟨rfl, hb⟩
  have hy0 : w3.cell? ⟨w.heap.size, 0, none⟩ = some (.string en) := by rw [hb.cell hs]; exact hx0
  have hy1 : w3.cell? ⟨w.heap.size, 1, none⟩ = some (.int .i64 z) := by rw [hb.cell hs]; exact hx1
  clear hx0 hx1
  have hx0 := hy0
  have hx1 := hy1
  clear hy0 hy1
  have hs : w.heap.size < w3.heap.size := by have := hb.size; omega
  have BB := Lib.hid (on BB.out hb)
  have HA := Lib.hid ((HA.out.below hb).more hb.size)
  have HB := Lib.hid ((HB.out.below hb).more hb.size)
  clear hb
  go_wp2_with fail
  obtain ⟨v3, hv3⟩ : ∃ x : World, x = w3.alloc (.cells #[.string ⟨nx.toArray⟩, .int .i64 nz] 24) := ⟨_, rfl⟩
  have hb : Below w3.heap.size w3 v3 := by rw [hv3]; exact (Below.refl _ _).alloc (Nat.le_refl _) _
  have kp0 : v3.cell? ⟨w3.heap.size, 0, none⟩ = some (.string ⟨nx.toArray⟩) := by rw [hv3]; simp
  have kp1 : v3.cell? ⟨w3.heap.size, 1, none⟩ = some (.int .i64 nz) := by rw [hv3]; simp
  have sp : w3.heap.size < v3.heap.size := by rw [hv3]; simp
  have hy0 : v3.cell? ⟨w.heap.size, 0, none⟩ = some (.string en) := by rw [hb.cell hs]; exact hx0
  have hy1 : v3.cell? ⟨w.heap.size, 1, none⟩ = some (.int .i64 z) := by rw [hb.cell hs]; exact hx1
  clear hx0 hx1
  have hx0 := hy0
  have hx1 := hy1
  clear hy0 hy1
  have hs : w.heap.size < v3.heap.size := by have := hb.size; omega
  have BB := Lib.hid (on BB.out hb)
  have HA := Lib.hid ((HA.out.below hb).more hb.size)
  have HB := Lib.hid ((HB.out.below hb).more hb.size)
  clear hb
  rw [← hv3]
  refine (RN.out _ _ HA.out).mono ?_
  rintro e w4 ⟨rfl, hb⟩
  have kp0 : w4.cell? ⟨w3.heap.size, 0, none⟩ = some (.string ⟨nx.toArray⟩) := by rw [hb.cell sp]; exact kp0
  have kp1 : w4.cell? ⟨w3.heap.size, 1, none⟩ = some (.int .i64 nz) := by rw [hb.cell sp]; exact kp1
  have sp : w3.heap.size < w4.heap.size := by have := hb.size; omega
  have hy0 : w4.cell? ⟨w.heap.size, 0, none⟩ = some (.string en) := by rw [hb.cell hs]; exact hx0
  have hy1 : w4.cell? ⟨w.heap.size, 1, none⟩ = some (.int .i64 z) := by rw [hb.cell hs]; exact hx1
  clear hx0 hx1
  have hx0 := hy0
  have hx1 := hy1
  clear hy0 hy1
  have hs : w.heap.size < w4.heap.size := by have := hb.size; omega
  have BB := Lib.hid (on BB.out hb)
  have HA := Lib.hid ((HA.out.below hb).more hb.size)
  have HB := Lib.hid ((HB.out.below hb).more hb.size)
  clear hb
  clear hv3
  go_wp2_with fail
  obtain ⟨v4, hv4⟩ : ∃ x : World, x = w4.alloc (.cells #[.string ⟨nx.toArray⟩, .int .i64 nz] 24) := ⟨_, rfl⟩
  have hb : Below w4.heap.size w4 v4 := by rw [hv4]; exact (Below.refl _ _).alloc (Nat.le_refl _) _
  have kq0 : v4.cell? ⟨w4.heap.size, 0, none⟩ = some (.string ⟨nx.toArray⟩) := by rw [hv4]; simp
  have kq1 : v4.cell? ⟨w4.heap.size, 1, none⟩ = some (.int .i64 nz) := by rw [hv4]; simp
  have sq : w4.heap.size < v4.heap.size := by rw [hv4]; simp
  have kp0 : v4.cell? ⟨w3.heap.size, 0, none⟩ = some (.string ⟨nx.toArray⟩) := by rw [hb.cell (by show _ < _; omega)]; exact kp0
  have kp1 : v4.cell? ⟨w3.heap.size, 1, none⟩ = some (.int .i64 nz) := by rw [hb.cell (by show _ < _; omega)]; exact kp1
  have sp : w3.heap.size < v4.heap.size := by have := hb.size; omega
  have hy0 : v4.cell? ⟨w.heap.size, 0, none⟩ = some (.string en) := by rw [hb.cell hs]; exact hx0
  have hy1 : v4.cell? ⟨w.heap.size, 1, none⟩ = some (.int .i64 z) := by rw [hb.cell hs]; exact hx1
  clear hx0 hx1
  have hx0 := hy0
  have hx1 := hy1
  clear hy0 hy1
  have hs : w.heap.size < v4.heap.size := by have := hb.size; omega
  have BB := Lib.hid (on BB.out hb)
  have HA := Lib.hid ((HA.out.below hb).more hb.size)
  have HB := Lib.hid ((HB.out.below hb).more hb.size)
  clear hb
  rw [← hv4]
  clear hv4
  go_loopw [15, 16] (fun u i wr => ∃ (k : Nat) (out : List (List UInt8)), k ≤ na ∧ i = .int .i64 k ∧ out.length = k ∧ Hid (out = (La.take k).map (·.1)) ∧ Hid (wr.ownsRow v4.heap.size 9 1 u out.length (out.map strV)) ∧ Below v4.heap.size v4 wr) (fun _ i _ => na - (intOf i).toNat)
  case atStart => exact ⟨0, [], Nat.zero_le _, rfl, rfl, rfl, World.ownsRow_nil _ _ _ _, Below.refl _ _⟩
  case round =>
    obtain ⟨k, out, hk, rfl, hout, hrr, hown, hbw⟩ := hrel
    by_cases hlt : k < na
    · obtain ⟨b, oo, hl1, t, rfl, hbl, ht, hc0, hc1⟩ := Ents.at_ (HA.out.below hbw) hlt
      have HX : Hid ((La.take (k + 1)).map (·.1) = out ++ [t.data.toList]) := by
        show _ = _
        rw [take_at hl1, List.map_append, ← hrr.out, ht]; rfl
      have HRW := Lib.hid (RR.out wr _ ((HA.out.below hbw).more hbw.size))
      clear ht
      go_wp2_with fail
      refine HRW.out.mono ?_
      rintro e w5 ⟨rfl, hb5⟩
      have hbw2 : Below v4.heap.size v4 w5 := hbw.trans (hb5.mono hbw.size)
      have hown2 : Hid (w5.ownsRow v4.heap.size 9 1 _ out.length (out.map strV)) := hown.out.belowRow hb5
      have hbs := hbw2.size
      have d0 : w5.cell? ⟨b, oo + k * 2, none⟩ = some (.string t) := by rw [hb5.cell (by show b < _; have := hbw.size; omega)]; exact hc0
      have a1 : out.length + 1 ≤ maxLen := by unfold maxLen; omega
      have a2 : (out.length + 1) * 16 ≤ 140737488355328 := by omega
      clear hc0 hc1
      go_wp2_with (at_builtin; refine wpList_append_own _ rfl (.tmp 64) (.tmp 70) 30 rfl v4.heap.size 9 i0 (.string ⟨#[]⟩) 1 16 Try.underlying30 hi hz0 hz1 hz2 rfl (by decide) _ _ _ rfl (hown2.out.alloc _) ⟨_, 0, none⟩ 1 1 [.string t] rfl rfl (cell_one_new _ _ _) (by intro u hu; simp at hu; subst hu; rfl) a1 a2 (by simp; omega) ?_; intro v1 w6 hown1 hgrow1 _)
      have B2 := Lib.hid (below_more hbw2 hown2.out hgrow1)
      have O1 := Lib.hid (own_more hown1)
      clear hown1 hgrow1 a1 a2
      go_wp2
      go_roundw
      case rel => exact ⟨k + 1, _, by omega, by go_num, by rw [List.length_append, hout]; rfl, HX.symm, O1, B2.out⟩
      case measure => simp [intOf]; omega
    · have HX : Hid (out = names La) := hrr.out.trans (by rw [HN.out, take_all (by rw [HNA.out]; exact hlt)])
      have TN := Lib.hid (Texts.of_own hown.out)
      rw [HX.out] at TN
      have kp0 : wr.cell? ⟨w3.heap.size, 0, none⟩ = some (.string ⟨nx.toArray⟩) := by rw [hbw.cell sp]; exact kp0
      have kp1 : wr.cell? ⟨w3.heap.size, 1, none⟩ = some (.int .i64 nz) := by rw [hbw.cell sp]; exact kp1
      have kq0 : wr.cell? ⟨w4.heap.size, 0, none⟩ = some (.string ⟨nx.toArray⟩) := by rw [hbw.cell sq]; exact kq0
      have kq1 : wr.cell? ⟨w4.heap.size, 1, none⟩ = some (.int .i64 nz) := by rw [hbw.cell sq]; exact kq1
      have hy0 : wr.cell? ⟨w.heap.size, 0, none⟩ = some (.string en) := by rw [hbw.cell hs]; exact hx0
      have hy1 : wr.cell? ⟨w.heap.size, 1, none⟩ = some (.int .i64 z) := by rw [hbw.cell hs]; exact hx1
      clear hx0 hx1
      have hx0 := hy0
      have hx1 := hy1
      clear hy0 hy1
      have hs : w.heap.size < wr.heap.size := by have := hbw.size; omega
      have BB := Lib.hid (on BB.out hbw)
      have HA := Lib.hid ((HA.out.below hbw).more hbw.size)
      have HB := Lib.hid ((HB.out.below hbw).more hbw.size)
      clear hbw hown hrr
      go_wp2_with fail
      refine (CM.out _ _ HA.out).mono ?_
      rintro e w6 ⟨vn, rfl, hvn, hb⟩
      have TM := Lib.hid hvn
      clear hvn
      have hy0 : w6.cell? ⟨w.heap.size, 0, none⟩ = some (.string en) := by rw [hb.cell hs]; exact hx0
      have hy1 : w6.cell? ⟨w.heap.size, 1, none⟩ = some (.int .i64 z) := by rw [hb.cell hs]; exact hx1
      clear hx0 hx1
      have hx0 := hy0
      have hx1 := hy1
      clear hy0 hy1
      have hs : w.heap.size < w6.heap.size := by have := hb.size; omega
      have BB := Lib.hid (on BB.out hb)
      have HA := Lib.hid ((HA.out.below hb).more hb.size)
      have HB := Lib.hid ((HB.out.below hb).more hb.size)
      have TN := Lib.hid ((TN.out.below hb).more hb.size)
      clear hb
      go_wp2_with fail
      refine (same_yesT _ _ _ _ _ TM.out TN.out).mono ?_
      rintro e w7 ⟨rfl, hb⟩
      clear TM TN
      have hy0 : w7.cell? ⟨w.heap.size, 0, none⟩ = some (.string en) := by rw [hb.cell hs]; exact hx0
      have hy1 : w7.cell? ⟨w.heap.size, 1, none⟩ = some (.int .i64 z) := by rw [hb.cell hs]; exact hx1
      clear hx0 hx1
      have hx0 := hy0
      have hx1 := hy1
      clear hy0 hy1
      have hs : w.heap.size < w7.heap.size := by have := hb.size; omega
      have BB := Lib.hid (on BB.out hb)
      have HA := Lib.hid ((HA.out.below hb).more hb.size)
      have HB := Lib.hid ((HB.out.below hb).more hb.size)
      clear hb
      go_wp2_with fail
      refine (CR.out _ _ HA.out).mono ?_
      rintro e w8 ⟨rfl, hb⟩
      have hy0 : w8.cell? ⟨w.heap.size, 0, none⟩ = some (.string en) := by rw [hb.cell hs]; exact hx0
      have hy1 : w8.cell? ⟨w.heap.size, 1, none⟩ = some (.int .i64 z) := by rw [hb.cell hs]; exact hx1
      clear hx0 hx1
      have hx0 := hy0
      have hx1 := hy1
      clear hy0 hy1
      have hs : w.heap.size < w8.heap.size := by have := hb.size; omega
      have BB := Lib.hid (on BB.out hb)
      have HA := Lib.hid ((HA.out.below hb).more hb.size)
      have HB := Lib.hid ((HB.out.below hb).more hb.size)
      clear hb
      go_wp2_with fail
      refine (RR.out _ _ HA.out).mono ?_
      rintro e w9 ⟨rfl, hb⟩
      have hy0 : w9.cell? ⟨w.heap.size, 0, none⟩ = some (.string en) := by rw [hb.cell hs]; exact hx0
      have hy1 : w9.cell? ⟨w.heap.size, 1, none⟩ = some (.int .i64 z) := by rw [hb.cell hs]; exact hx1
      clear hx0 hx1
      have hx0 := hy0
      have hx1 := hy1
      clear hy0 hy1
      have hs : w.heap.size < w9.heap.size := by have := hb.size; omega
      have BB := Lib.hid (on BB.out hb)
      have HA := Lib.hid ((HA.out.below hb).more hb.size)
      have HB := Lib.hid ((HB.out.below hb).more hb.size)
      clear hb
      go_wp2_with fail
      go_region_held3 (fun w' => w'.cell? ⟨w.heap.size, 0, none⟩ = some (.string en) ∧ w'.cell? ⟨w.heap.size, 1, none⟩ = some (.int .i64 z) ∧ Below w9.heap.size w9 w')
        (first | exact held_on hs (by assumption) hb10 | exact held_on hs (by assumption) hb9 | exact held_on hs (by assumption) hb8 | exact held_on hs (by assumption) hb7 | exact held_on hs (by assumption) hb6 | exact held_on hs (by assumption) hb5 | exact held_on hs (by assumption) hb4 | exact held_on hs (by assumption) hb3 | exact held_on hs (by assumption) hb2 | exact held_on hs (by assumption) hb1 | exact ⟨hx0, hx1, (Below.refl _ _).drew⟩ | exact held_draw (by assumption) | go_keep)
        (first
          | (go_at_call 15; refine (CP.out _ _ (held_ents HA.out (by assumption))).mono ?_; rintro e x1 ⟨y1, rfl, hu, hb1⟩; have U_1 := Lib.hid hu; clear hu)
          | (go_at_call 16; refine (RP.out _ _ (held_ents HA.out (by assumption))).mono ?_; rintro e x2 ⟨y2, rfl, hu, hb2⟩; have V_2 := Lib.hid hu; clear hu; have U_2 := Lib.hid ((U_1.out.below hb2).more hb2.size))
          | (go_at_call_of 14 y1; refine (same_yesE y1 y2 _ _ _ U_2.out V_2.out).mono ?_; rintro e x3 ⟨rfl, hb3⟩)
          | (go_at_call 17; refine (CC.out _ _ (held_ents HA.out (by assumption))).mono ?_; rintro e x4 ⟨y4, rfl, hu, hb4⟩; have U_4 := Lib.hid hu; clear hu)
          | (go_at_call 18; refine (RC.out _ _ (held_ents HA.out (by assumption))).mono ?_; rintro e x5 ⟨y5, rfl, hu, hb5⟩; have V_5 := Lib.hid hu; clear hu; have U_5 := Lib.hid ((U_4.out.below hb5).more hb5.size))
          | (go_at_call_of 14 y4; refine (same_yesE y4 y5 _ _ _ U_5.out V_5.out).mono ?_; rintro e x6 ⟨rfl, hb6⟩)
          | (go_at_call 19; refine (CG.out _ _ _ (held_ents HA.out (by assumption)) (held_ents HB.out (by assumption))).mono ?_; rintro e x7 ⟨y7, rfl, hu, hb7⟩; have U_7 := Lib.hid hu; clear hu)
          | (go_at_call 20; refine (RG.out _ _ _ (held_ents HA.out (by assumption)) (held_ents HB.out (by assumption))).mono ?_; rintro e x8 ⟨y8, rfl, hu, hb8⟩; have V_8 := Lib.hid hu; clear hu; have U_8 := Lib.hid ((U_7.out.below hb8).more hb8.size))
          | (go_at_call_of 14 y7; refine (same_yesE y7 y8 _ _ _ U_8.out V_8.out).mono ?_; rintro e x9 ⟨rfl, hb9⟩)
          | (go_at_call 5; refine (lives_any _).mono ?_; rintro e x10 ⟨rfl, hb10⟩))
      all_goals (go_wp2_with fail; go_ret)
      all_goals exact ⟨rfl, on BB.out (held_below (by assumption))⟩

set_option maxHeartbeats 8000000 in
set_option maxRecDepth 100000 in
theorem entsTell_false (w : World) (va vb : Value) (La Lb : List Ent) (ha : Ents w.heap.size w va La) (hb : Ents w.heap.size w vb Lb) (en : ByteArray) (z : Int) (hla : (La.length : Int) ≤ 60) (hlb : (Lb.length : Int) ≤ 60) (hr : right La = false) :
    Calls Try.prog 3 #[va, vb, .agg #[.string en, .int .i64 z]] w fun e w' => e = .returned (.bool true) ∧ Below w.heap.size w w' := by
  obtain ⟨i0, hi, hz0, hz1, hz2⟩ := info_parts text_info
  have HA := Lib.hid ((ha.alloc (Nat.le_refl _) (.cells #[.string en, .int .i64 z] 24)).more (B' := (w.alloc (.cells #[.string en, .int .i64 z] 24)).heap.size) (by simp))
  have HB := Lib.hid ((hb.alloc (Nat.le_refl _) (.cells #[.string en, .int .i64 z] 24)).more (B' := (w.alloc (.cells #[.string en, .int .i64 z] 24)).heap.size) (by simp))
  obtain ⟨A, c, rfl, hA1, hA2⟩ := ha.form
  obtain ⟨A', c', rfl, hB1, hB2⟩ := hb.form
  unfold maxLen at hA2 hB2
  clear ha hb
  have CF : Hid (∀ (w : World) (v : Value), Ents w.heap.size w v La → Calls Try.prog 6 #[v, .string en] w fun e w' => e = .returned (.tuple #[.int .i64 (M06.find (all La) en.data.toList).1, .bool (M06.find (all La) en.data.toList).2]) ∧ Below w.heap.size w w') := fun w v h => find_any v _ w en h (by omega)
  have RF : Hid (∀ (w : World) (v : Value), Ents w.heap.size w v La → Calls Try.prog 7 #[v, .string en] w fun e w' => e = .returned (.tuple #[.int .i64 (M06.find (all La) en.data.toList).1, .bool (M06.find (all La) en.data.toList).2]) ∧ Below w.heap.size w w') := fun w v h => (refFind_any v _ _ en w h (by omega)).mono fun _ _ => draws_below
  have CN : Hid (∀ (w : World) (v : Value), Ents w.heap.size w v La → Calls Try.prog 8 #[v, .string en] w fun e w' => e = .returned (.tuple #[.agg #[.string ⟨(next (all La) en.data.toList).1.1.toArray⟩, .int .i64 (next (all La) en.data.toList).1.2], .bool (next (all La) en.data.toList).2]) ∧ Below w.heap.size w w') := fun w v h => next_any v _ w en h (by omega)
  have RN : Hid (∀ (w : World) (v : Value), Ents w.heap.size w v La → Calls Try.prog 9 #[v, .string en] w fun e w' => e = .returned (.tuple #[.agg #[.string ⟨(next (all La) en.data.toList).1.1.toArray⟩, .int .i64 (next (all La) en.data.toList).1.2], .bool (next (all La) en.data.toList).2]) ∧ Below w.heap.size w w') := fun w v h => refNext_any v _ _ en w h (Nat.le_refl _) (by omega)
  have CM : Hid (∀ (w : World) (v : Value), Ents w.heap.size w v La → Calls Try.prog 12 #[v] w (HandsT w (names La))) := fun w v h => names_any v _ w h (by omega)
  have CR : Hid (∀ (w : World) (v : Value), Ents w.heap.size w v La → Calls Try.prog 13 #[v] w fun e w' => e = .returned (.bool (right La)) ∧ Below w.heap.size w w') := fun w v h => right_any v _ w h (by omega)
  have RR : Hid (∀ (w : World) (v : Value), Ents w.heap.size w v La → Calls Try.prog 10 #[v] w fun e w' => e = .returned (.bool (right La)) ∧ Below w.heap.size w w') := fun w v h => (refRight_any v _ _ w h (by omega)).mono fun _ _ => draws_below
  have CP : Hid (∀ (w : World) (v : Value), Ents w.heap.size w v La → Calls Try.prog 15 #[v, .agg #[.string en, .int .i64 z]] w (HandsE w (put La (en.data.toList, z)))) := fun w v h => put_any v _ w en z h (by omega)
  have RP : Hid (∀ (w : World) (v : Value), Ents w.heap.size w v La → Calls Try.prog 16 #[v, .agg #[.string en, .int .i64 z]] w (HandsE w (put La (en.data.toList, z)))) := fun w v h => (refPut_any v _ _ en z w h (Nat.le_refl _) (by omega)).mono fun _ _ h => makes_handsE h
  have CC : Hid (∀ (w : World) (v : Value), Ents w.heap.size w v La → Calls Try.prog 17 #[v, .string en] w (HandsE w (cut La en.data.toList))) := fun w v h => cut_any v _ w en h (by omega)
  have RC : Hid (∀ (w : World) (v : Value), Ents w.heap.size w v La → Calls Try.prog 18 #[v, .string en] w (HandsE w (cut La en.data.toList))) := fun w v h => (refCut_any v _ _ en w h (Nat.le_refl _) (by omega)).mono fun _ _ h => makes_handsE h
  have CG : Hid (∀ (w : World) (v u : Value), Ents w.heap.size w v La → Ents w.heap.size w u Lb → Calls Try.prog 19 #[v, u] w (HandsE w (merge La Lb))) := fun w v u h k => merge_any v u _ _ w h k (by omega) (by omega)
  have RG : Hid (∀ (w : World) (v u : Value), Ents w.heap.size w v La → Ents w.heap.size w u Lb → Calls Try.prog 20 #[v, u] w (HandsE w (merge La Lb))) := fun w v u h k => refMerge_any v u _ _ w h k (by omega) (by omega)
  have HR := Lib.hid hr
  rw [hr] at CR RR
  have h0 := right_some hr
  have HN := Lib.hid (names_false hr)
  clear hr
  generalize merge La Lb = MG at *
  generalize cut La en.data.toList = CU at *
  generalize put La (en.data.toList, z) = PU at *
  generalize (next (all La) en.data.toList).1.1 = nx at *
  generalize (next (all La) en.data.toList).1.2 = nz at *
  generalize (next (all La) en.data.toList).2 = nb at *
  generalize (M06.find (all La) en.data.toList).1 = fz at *
  generalize (M06.find (all La) en.data.toList).2 = fb at *
  have e1 : (fz == fz) = true := by simp
  have e2 : (fb == fb) = true := by simp
  have e3 : (nb == nb) = true := by simp
  have e4 : (nz == nz) = true := by simp
  have e5 : ((⟨nx.toArray⟩ : ByteArray).toList == (⟨nx.toArray⟩ : ByteArray).toList) = true := by simp
  generalize hna : La.length = na at *
  have HNA := Lib.hid hna
  generalize hnb : Lb.length = mb at *
  clear hna hnb
  go_enter Try.func3, Try.ntmps3
  go_wp2_with fail
  refine (CF.out _ _ HA.out).mono ?_
  rintro e w1 ⟨rfl, hb⟩
  have hx0 : w1.cell? ⟨w.heap.size, 0, none⟩ = some (.string en) := by rw [hb.cell (by simp)]; simp
  have hx1 : w1.cell? ⟨w.heap.size, 1, none⟩ = some (.int .i64 z) := by rw [hb.cell (by simp)]; simp
  have hs : w.heap.size < w1.heap.size := by have := hb.size; simp at this; omega
  have BB : Hid (Below w.heap.size w w1) := ((Below.refl w.heap.size w).alloc (Nat.le_refl _) _).trans (hb.mono (by simp))
  have HA := Lib.hid ((HA.out.below hb).more hb.size)
  have HB := Lib.hid ((HB.out.below hb).more hb.size)
  clear hb
  go_wp2_with fail
  refine (RF.out _ _ HA.out).mono ?_
  rintro e w2 ⟨rfl, hb⟩
  have hy0 : w2.cell? ⟨w.heap.size, 0, none⟩ = some (.string en) := by rw [hb.cell hs]; exact hx0
  have hy1 : w2.cell? ⟨w.heap.size, 1, none⟩ = some (.int .i64 z) := by rw [hb.cell hs]; exact hx1
  clear hx0 hx1
  have hx0 := hy0
  have hx1 := hy1
  clear hy0 hy1
  have hs : w.heap.size < w2.heap.size := by have := hb.size; omega
  have BB := Lib.hid (on BB.out hb)
  have HA := Lib.hid ((HA.out.below hb).more hb.size)
  have HB := Lib.hid ((HB.out.below hb).more hb.size)
  clear hb
  go_wp2_with fail
  refine (CN.out _ _ HA.out).mono ?_
  rintro e w3 ⟨rfl, hb⟩
  have hy0 : w3.cell? ⟨w.heap.size, 0, none⟩ = some (.string en) := by rw [hb.cell hs]; exact hx0
  have hy1 : w3.cell? ⟨w.heap.size, 1, none⟩ = some (.int .i64 z) := by rw [hb.cell hs]; exact hx1
  clear hx0 hx1
  have hx0 := hy0
  have hx1 := hy1
  clear hy0 hy1
  have hs : w.heap.size < w3.heap.size := by have := hb.size; omega
  have BB := Lib.hid (on BB.out hb)
  have HA := Lib.hid ((HA.out.below hb).more hb.size)
  have HB := Lib.hid ((HB.out.below hb).more hb.size)
  clear hb
  go_wp2_with fail
  obtain ⟨v3, hv3⟩ : ∃ x : World, x = w3.alloc (.cells #[.string ⟨nx.toArray⟩, .int .i64 nz] 24) := ⟨_, rfl⟩
  have hb : Below w3.heap.size w3 v3 := by rw [hv3]; exact (Below.refl _ _).alloc (Nat.le_refl _) _
  have kp0 : v3.cell? ⟨w3.heap.size, 0, none⟩ = some (.string ⟨nx.toArray⟩) := by rw [hv3]; simp
  have kp1 : v3.cell? ⟨w3.heap.size, 1, none⟩ = some (.int .i64 nz) := by rw [hv3]; simp
  have sp : w3.heap.size < v3.heap.size := by rw [hv3]; simp
  have hy0 : v3.cell? ⟨w.heap.size, 0, none⟩ = some (.string en) := by rw [hb.cell hs]; exact hx0
  have hy1 : v3.cell? ⟨w.heap.size, 1, none⟩ = some (.int .i64 z) := by rw [hb.cell hs]; exact hx1
  clear hx0 hx1
  have hx0 := hy0
  have hx1 := hy1
  clear hy0 hy1
  have hs : w.heap.size < v3.heap.size := by have := hb.size; omega
  have BB := Lib.hid (on BB.out hb)
  have HA := Lib.hid ((HA.out.below hb).more hb.size)
  have HB := Lib.hid ((HB.out.below hb).more hb.size)
  clear hb
  rw [← hv3]
  refine (RN.out _ _ HA.out).mono ?_
  rintro e w4 ⟨rfl, hb⟩
  have kp0 : w4.cell? ⟨w3.heap.size, 0, none⟩ = some (.string ⟨nx.toArray⟩) := by rw [hb.cell sp]; exact kp0
  have kp1 : w4.cell? ⟨w3.heap.size, 1, none⟩ = some (.int .i64 nz) := by rw [hb.cell sp]; exact kp1
  have sp : w3.heap.size < w4.heap.size := by have := hb.size; omega
  have hy0 : w4.cell? ⟨w.heap.size, 0, none⟩ = some (.string en) := by rw [hb.cell hs]; exact hx0
  have hy1 : w4.cell? ⟨w.heap.size, 1, none⟩ = some (.int .i64 z) := by rw [hb.cell hs]; exact hx1
  clear hx0 hx1
  have hx0 := hy0
  have hx1 := hy1
  clear hy0 hy1
  have hs : w.heap.size < w4.heap.size := by have := hb.size; omega
  have BB := Lib.hid (on BB.out hb)
  have HA := Lib.hid ((HA.out.below hb).more hb.size)
  have HB := Lib.hid ((HB.out.below hb).more hb.size)
  clear hb
  clear hv3
  go_wp2_with fail
  obtain ⟨v4, hv4⟩ : ∃ x : World, x = w4.alloc (.cells #[.string ⟨nx.toArray⟩, .int .i64 nz] 24) := ⟨_, rfl⟩
  have hb : Below w4.heap.size w4 v4 := by rw [hv4]; exact (Below.refl _ _).alloc (Nat.le_refl _) _
  have kq0 : v4.cell? ⟨w4.heap.size, 0, none⟩ = some (.string ⟨nx.toArray⟩) := by rw [hv4]; simp
  have kq1 : v4.cell? ⟨w4.heap.size, 1, none⟩ = some (.int .i64 nz) := by rw [hv4]; simp
  have sq : w4.heap.size < v4.heap.size := by rw [hv4]; simp
  have kp0 : v4.cell? ⟨w3.heap.size, 0, none⟩ = some (.string ⟨nx.toArray⟩) := by rw [hb.cell (by show _ < _; omega)]; exact kp0
  have kp1 : v4.cell? ⟨w3.heap.size, 1, none⟩ = some (.int .i64 nz) := by rw [hb.cell (by show _ < _; omega)]; exact kp1
  have sp : w3.heap.size < v4.heap.size := by have := hb.size; omega
  have hy0 : v4.cell? ⟨w.heap.size, 0, none⟩ = some (.string en) := by rw [hb.cell hs]; exact hx0
  have hy1 : v4.cell? ⟨w.heap.size, 1, none⟩ = some (.int .i64 z) := by rw [hb.cell hs]; exact hx1
  clear hx0 hx1
  have hx0 := hy0
  have hx1 := hy1
  clear hy0 hy1
  have hs : w.heap.size < v4.heap.size := by have := hb.size; omega
  have BB := Lib.hid (on BB.out hb)
  have HA := Lib.hid ((HA.out.below hb).more hb.size)
  have HB := Lib.hid ((HB.out.below hb).more hb.size)
  clear hb
  rw [← hv4]
  clear hv4
  go_loopw [15, 16] (fun u i wr => u = .slice none 0 0 ∧ i = .int .i64 0 ∧ wr = v4) (fun _ _ _ => 0)
  case atStart => exact ⟨rfl, rfl, rfl⟩
  case round =>
    obtain ⟨rfl, rfl, rfl⟩ := hrel
    go_wp2_with fail
    refine (RR.out _ _ HA.out).mono ?_
    rintro e w5 ⟨rfl, hb⟩
    have kp0 : w5.cell? ⟨w3.heap.size, 0, none⟩ = some (.string ⟨nx.toArray⟩) := by rw [hb.cell sp]; exact kp0
    have kp1 : w5.cell? ⟨w3.heap.size, 1, none⟩ = some (.int .i64 nz) := by rw [hb.cell sp]; exact kp1
    have kq0 : w5.cell? ⟨w4.heap.size, 0, none⟩ = some (.string ⟨nx.toArray⟩) := by rw [hb.cell sq]; exact kq0
    have kq1 : w5.cell? ⟨w4.heap.size, 1, none⟩ = some (.int .i64 nz) := by rw [hb.cell sq]; exact kq1
    have TN : Hid (Texts w5.heap.size w5 (.slice none 0 0) (names La)) := by show Texts _ _ _ _; rw [HN.out]; exact texts_nil _ _
    have hy0 : w5.cell? ⟨w.heap.size, 0, none⟩ = some (.string en) := by rw [hb.cell hs]; exact hx0
    have hy1 : w5.cell? ⟨w.heap.size, 1, none⟩ = some (.int .i64 z) := by rw [hb.cell hs]; exact hx1
    clear hx0 hx1
    have hx0 := hy0
    have hx1 := hy1
    clear hy0 hy1
    have hs : w.heap.size < w5.heap.size := by have := hb.size; omega
    have BB := Lib.hid (on BB.out hb)
    have HA := Lib.hid ((HA.out.below hb).more hb.size)
    have HB := Lib.hid ((HB.out.below hb).more hb.size)
    clear hb
    go_wp2_with fail
    refine (CM.out _ _ HA.out).mono ?_
    rintro e w6 ⟨vn, rfl, hvn, hb⟩
    have TM := Lib.hid hvn
    clear hvn
    have hy0 : w6.cell? ⟨w.heap.size, 0, none⟩ = some (.string en) := by rw [hb.cell hs]; exact hx0
    have hy1 : w6.cell? ⟨w.heap.size, 1, none⟩ = some (.int .i64 z) := by rw [hb.cell hs]; exact hx1
    clear hx0 hx1
    have hx0 := hy0
    have hx1 := hy1
    clear hy0 hy1
    have hs : w.heap.size < w6.heap.size := by have := hb.size; omega
    have BB := Lib.hid (on BB.out hb)
    have HA := Lib.hid ((HA.out.below hb).more hb.size)
    have HB := Lib.hid ((HB.out.below hb).more hb.size)
    have TN := Lib.hid ((TN.out.below hb).more hb.size)
    clear hb
    go_wp2_with fail
    refine (same_yesT _ _ _ _ _ TM.out TN.out).mono ?_
    rintro e w7 ⟨rfl, hb⟩
    clear TM TN
    have hy0 : w7.cell? ⟨w.heap.size, 0, none⟩ = some (.string en) := by rw [hb.cell hs]; exact hx0
    have hy1 : w7.cell? ⟨w.heap.size, 1, none⟩ = some (.int .i64 z) := by rw [hb.cell hs]; exact hx1
    clear hx0 hx1
    have hx0 := hy0
    have hx1 := hy1
    clear hy0 hy1
    have hs : w.heap.size < w7.heap.size := by have := hb.size; omega
    have BB := Lib.hid (on BB.out hb)
    have HA := Lib.hid ((HA.out.below hb).more hb.size)
    have HB := Lib.hid ((HB.out.below hb).more hb.size)
    clear hb
    go_wp2_with fail
    refine (CR.out _ _ HA.out).mono ?_
    rintro e w8 ⟨rfl, hb⟩
    have hy0 : w8.cell? ⟨w.heap.size, 0, none⟩ = some (.string en) := by rw [hb.cell hs]; exact hx0
    have hy1 : w8.cell? ⟨w.heap.size, 1, none⟩ = some (.int .i64 z) := by rw [hb.cell hs]; exact hx1
    clear hx0 hx1
    have hx0 := hy0
    have hx1 := hy1
    clear hy0 hy1
    have hs : w.heap.size < w8.heap.size := by have := hb.size; omega
    have BB := Lib.hid (on BB.out hb)
    have HA := Lib.hid ((HA.out.below hb).more hb.size)
    have HB := Lib.hid ((HB.out.below hb).more hb.size)
    clear hb
    go_wp2_with fail
    refine (RR.out _ _ HA.out).mono ?_
    rintro e w9 ⟨rfl, hb⟩
    have hy0 : w9.cell? ⟨w.heap.size, 0, none⟩ = some (.string en) := by rw [hb.cell hs]; exact hx0
    have hy1 : w9.cell? ⟨w.heap.size, 1, none⟩ = some (.int .i64 z) := by rw [hb.cell hs]; exact hx1
    clear hx0 hx1
    have hx0 := hy0
    have hx1 := hy1
    clear hy0 hy1
    have hs : w.heap.size < w9.heap.size := by have := hb.size; omega
    have BB := Lib.hid (on BB.out hb)
    have HA := Lib.hid ((HA.out.below hb).more hb.size)
    have HB := Lib.hid ((HB.out.below hb).more hb.size)
    clear hb
    go_wp2_with fail
    go_region_held3 (fun w' => w'.cell? ⟨w.heap.size, 0, none⟩ = some (.string en) ∧ w'.cell? ⟨w.heap.size, 1, none⟩ = some (.int .i64 z) ∧ Below w9.heap.size w9 w')
      (first | exact held_on hs (by assumption) hb10 | exact held_on hs (by assumption) hb9 | exact held_on hs (by assumption) hb8 | exact held_on hs (by assumption) hb7 | exact held_on hs (by assumption) hb6 | exact held_on hs (by assumption) hb5 | exact held_on hs (by assumption) hb4 | exact held_on hs (by assumption) hb3 | exact held_on hs (by assumption) hb2 | exact held_on hs (by assumption) hb1 | exact ⟨hx0, hx1, (Below.refl _ _).drew⟩ | exact held_draw (by assumption) | go_keep)
      (first
        | (go_at_call 15; refine (CP.out _ _ (held_ents HA.out (by assumption))).mono ?_; rintro e x1 ⟨y1, rfl, hu, hb1⟩; have U_1 := Lib.hid hu; clear hu)
        | (go_at_call 16; refine (RP.out _ _ (held_ents HA.out (by assumption))).mono ?_; rintro e x2 ⟨y2, rfl, hu, hb2⟩; have V_2 := Lib.hid hu; clear hu; have U_2 := Lib.hid ((U_1.out.below hb2).more hb2.size))
        | (go_at_call_of 14 y1; refine (same_yesE y1 y2 _ _ _ U_2.out V_2.out).mono ?_; rintro e x3 ⟨rfl, hb3⟩)
        | (go_at_call 17; refine (CC.out _ _ (held_ents HA.out (by assumption))).mono ?_; rintro e x4 ⟨y4, rfl, hu, hb4⟩; have U_4 := Lib.hid hu; clear hu)
        | (go_at_call 18; refine (RC.out _ _ (held_ents HA.out (by assumption))).mono ?_; rintro e x5 ⟨y5, rfl, hu, hb5⟩; have V_5 := Lib.hid hu; clear hu; have U_5 := Lib.hid ((U_4.out.below hb5).more hb5.size))
        | (go_at_call_of 14 y4; refine (same_yesE y4 y5 _ _ _ U_5.out V_5.out).mono ?_; rintro e x6 ⟨rfl, hb6⟩)
        | (go_at_call 19; refine (CG.out _ _ _ (held_ents HA.out (by assumption)) (held_ents HB.out (by assumption))).mono ?_; rintro e x7 ⟨y7, rfl, hu, hb7⟩; have U_7 := Lib.hid hu; clear hu)
        | (go_at_call 20; refine (RG.out _ _ _ (held_ents HA.out (by assumption)) (held_ents HB.out (by assumption))).mono ?_; rintro e x8 ⟨y8, rfl, hu, hb8⟩; have V_8 := Lib.hid hu; clear hu; have U_8 := Lib.hid ((U_7.out.below hb8).more hb8.size))
        | (go_at_call_of 14 y7; refine (same_yesE y7 y8 _ _ _ U_8.out V_8.out).mono ?_; rintro e x9 ⟨rfl, hb9⟩)
        | (go_at_call 5; refine (lives_any _).mono ?_; rintro e x10 ⟨rfl, hb10⟩))
    all_goals (go_wp2_with fail; go_ret)
    all_goals exact ⟨rfl, on BB.out (held_below (by assumption))⟩
theorem entsTell_law (w : World) (va : Value) (La : List Ent) (ha : Ents w.heap.size w va La) (vb : Value) (Lb : List Ent) (hb : Ents w.heap.size w vb Lb) (en : ByteArray) (z : Int) :
    Calls Try.prog 3 #[va, vb, .agg #[.string en, .int .i64 z]] w fun e w' => e = .returned (.bool true) ∧ Below w.heap.size w w' := by
  by_cases h1 : (La.length : Int) ≤ 60
  · by_cases h2 : (Lb.length : Int) ≤ 60
    · cases hr : right La with
      | true => exact entsTell_true w va vb La Lb ha hb en z h1 h2 hr
      | false => exact entsTell_false w va vb La Lb ha hb en z h1 h2 hr
    · obtain ⟨A, c, rfl, hA1, hA2⟩ := ha.form
      obtain ⟨A', c', rfl, hB1, hB2⟩ := hb.form
      have h3 : (60 : Int) < Lb.length := by omega
      clear h2 ha hb
      go_enter Try.func3, Try.ntmps3
      go_wp2_with fail
      refine (lives_any _).mono ?_
      rintro e w9 ⟨rfl, hb9⟩
      go_wp2_with fail
      go_ret
      exact ⟨rfl, ((Below.refl w.heap.size w).alloc (Nat.le_refl _) _).trans (hb9.mono (by simp))⟩
  · obtain ⟨A, c, rfl, hA1, hA2⟩ := ha.form
    obtain ⟨A', c', rfl, hB1, hB2⟩ := hb.form
    have h3 : (60 : Int) < La.length := by omega
    clear h1 ha hb
    go_enter Try.func3, Try.ntmps3
    go_wp2_with fail
    refine (lives_any _).mono ?_
    rintro e w9 ⟨rfl, hb9⟩
    go_wp2_with fail
    go_ret
    exact ⟨rfl, ((Below.refl w.heap.size w).alloc (Nat.le_refl _) _).trans (hb9.mono (by simp))⟩
end Go.Proofs.Ytnfamakpbgaoiaa.W06
