/-
  Texts joined, in build order, each with its own comment and its own conditions: W08Go.
-/
import Derived.Test.YtmbpgjncioegdaaGreatDoorJ06
import Derived.Test.YtmbpgjncioegdaaGreatDoorJ07
import Derived.Deep.RegionHeld3
/-
  Layer 8 (seek), a walk: the plain answer's Go: where parts lead from a node on; new memory may be laid, nothing that was there is changed. The conditions stand in the statement.
-/
namespace Go.Proofs.YtmbpgjncioegdaaGreatDoor.W08
set_option maxRecDepth 100000
open Go Go.RowKit Go.Proofs.YtmbpgjncioegdaaGreatDoor.Strs Go.Proofs.YtmbpgjncioegdaaGreatDoor.Recs
open Go.Proofs.YtmbpgjncioegdaaGreatDoor.M07 (Tr nodeAt inDir)
open Go.Proofs.YtmbpgjncioegdaaGreatDoor.M08 Go.Proofs.YtmbpgjncioegdaaGreatDoor.M04
open Go.Proofs.YtmbpgjncioegdaaGreatDoor.W07 (Nodes nodeV)
open Go.Proofs.YtmbpgjncioegdaaGreatDoor.M03 (check)
open Go.Proofs.YtmbpgjncioegdaaGreatDoor.Kit (ret_str ret_bool ret_int mk_of mk_bytes ba_ext below_draws on)

/-- what Go returns -/
def Went (r : Int × Nat × Int) (w : World) (e : Ending) (w' : World) : Prop := e = .returned (.tuple #[.int .i64 r.1, .int .i64 r.2.1, .int .i64 r.2.2]) ∧ Below w.heap.size w w'
/-- Go's contract at so many links left and so many parts -/
def GoesTo (t : Tr) (k : Nat) (l : List Bytes) : Prop :=
  ∀ (at_ : Int) (last : Bool) (hops : Nat) (u v : Value) (w : World), hops + k = 40 → l.length ≤ 70000 * (hops + 1) → Nodes w.heap.size w u t.L → Texts w.heap.size w v l →
    Calls Tryz.prog 100 #[.agg #[u, .int .i64 t.last], .int .i64 at_, v, .bool last, .int .i64 hops] w (Went (goTo t at_ l last hops) w)
theorem texts_cons {B : Nat} {w : World} {v : Value} {p : Bytes} {r : List Bytes} (h : Texts B w v (p :: r)) : ∃ (b o c : Nat) (s : ByteArray), v = .slice (some ⟨b, o, none⟩) (r.length + 1) c ∧ r.length + 1 ≤ c ∧ c ≤ maxLen ∧ b < B ∧ s.data.toList = p ∧ w.cell? ⟨b, o, none⟩ = some (.string s) := by
  obtain ⟨A, c, rfl, h1, h2⟩ := h.form
  obtain ⟨ad, s, rfl, hb, hc, hs⟩ := h.at_ (k := 0) (by simp)
  obtain ⟨b, o, sp⟩ := ad
  have : sp = none := by simpa [Addr.add] using World.cell?_spot hc
  subst this
  rw [Addr.add_lit, Nat.add_zero] at hc
  exact ⟨b, o, c, s, rfl, h1, h2, hb, hs, hc⟩

theorem same_bytes (a b : ByteArray) : (a.toList == b.toList) = decide (a.data.toList = b.data.toList) := W03.same_bytes a b
section
variable {w1 w' w'' : World} {p : Nat} {y0 y1 : Value}
theorem box_below (hS : w'.cell? ⟨p, 0, none⟩ = some y0 ∧ w'.cell? ⟨p, 1, none⟩ = some y1 ∧ Below w1.heap.size w1 w') : Below w1.heap.size w1 w' := hS.2.2
theorem box_on (hp : p < w1.heap.size) (hS : w'.cell? ⟨p, 0, none⟩ = some y0 ∧ w'.cell? ⟨p, 1, none⟩ = some y1 ∧ Below w1.heap.size w1 w') (hb : Below w'.heap.size w' w'') : w''.cell? ⟨p, 0, none⟩ = some y0 ∧ w''.cell? ⟨p, 1, none⟩ = some y1 ∧ Below w1.heap.size w1 w'' := by
  have hlt := Nat.lt_of_lt_of_le hp hS.2.2.size
  exact ⟨(hb.cell hlt).trans hS.1, (hb.cell hlt).trans hS.2.1, on hS.2.2 hb⟩
end
section
variable {w1 w' w'' : World} {p q i : Nat} {y0 y1 y2 : Value}
theorem part_below (hS : w'.cell? ⟨p, 0, none⟩ = some y0 ∧ w'.cell? ⟨p, 1, none⟩ = some y1 ∧ w'.cell? ⟨q, i, none⟩ = some y2 ∧ Below w1.heap.size w1 w') : Below w1.heap.size w1 w' := hS.2.2.2
theorem part_on (hp : p < w1.heap.size) (hq : q < w1.heap.size) (hS : w'.cell? ⟨p, 0, none⟩ = some y0 ∧ w'.cell? ⟨p, 1, none⟩ = some y1 ∧ w'.cell? ⟨q, i, none⟩ = some y2 ∧ Below w1.heap.size w1 w') (hb : Below w'.heap.size w' w'') : w''.cell? ⟨p, 0, none⟩ = some y0 ∧ w''.cell? ⟨p, 1, none⟩ = some y1 ∧ w''.cell? ⟨q, i, none⟩ = some y2 ∧ Below w1.heap.size w1 w'' := by
  have hlt := Nat.lt_of_lt_of_le hp hS.2.2.2.size
  exact ⟨(hb.cell hlt).trans hS.1, (hb.cell hlt).trans hS.2.1, (hb.cell (Nat.lt_of_lt_of_le hq hS.2.2.2.size)).trans hS.2.2.1, on hS.2.2.2 hb⟩
end
theorem more_len {hops : Nat} {x p : Bytes} {r : List Bytes} (h1 : x.length ≤ 65536) (h2 : (p :: r).length ≤ 70000 * (hops + 1)) : (parts x ++ r).length ≤ 70000 * (hops + 1 + 1) := by
  have := parts_len x
  rw [List.length_append]
  rw [List.length_cons] at h2
  omega
/-- a link's contract, the number of links as the walk spells it -/
theorem go_more {t : Tr} {k hops : Nat} {l : List Bytes} (H : GoesTo t (k - 1) l) {u v : Value} {w : World} (at_ : Int) (last : Bool) (hk : hops + 1 + (k - 1) = 40) (hl : l.length ≤ 70000 * (hops + 1 + 1)) (hu : Nodes w.heap.size w u t.L) (hv : Texts w.heap.size w v l) :
    Calls Tryz.prog 100 #[.agg #[u, .int .i64 t.last], .int .i64 at_, v, .bool last, .int .i64 ((hops : Int) + 1)] w (Went (goTo t at_ l last (hops + 1)) w) := H at_ last (hops + 1) u v w hk hl hu hv
/-- the rest of a slice of texts, as the walk spells the cut -/
theorem rest_texts {B : Nat} {w : World} {b o c : Nat} {p : Bytes} {r : List Bytes} (hv : Texts B w (.slice (some ⟨b, o, none⟩) (r.length + 1) c) (p :: r)) : Texts B w (if c = 1 then .slice (some ⟨b, o, none⟩) 0 0 else .slice (some ⟨b, o + 1, none⟩) r.length (c - 1)) r := by
  have hc := hv.count
  simp only [List.length_cons] at hc
  split
  · rename_i e
    subst e
    have h0 : r.length = 0 := by omega
    have h1 := hv.drop_all (k := 1) (by omega)
    rw [show r.length + 1 - 1 = 0 by omega] at h1
    exact h1
  · have h1 := hv.drop (k := 1) (by omega)
    rw [show r.length + 1 - 1 = r.length by omega] at h1
    have e : (some (⟨b, o, none⟩ : Addr)).map (fun x => x.add 1) = some ⟨b, o + 1, none⟩ := by show some ((⟨b, o, none⟩ : Addr).add 1) = _; rw [Addr.add_lit]
    rw [e] at h1
    exact h1
/-- the rest's contract, as the walk spells the cut -/
theorem go_rest {t : Tr} {k hops : Nat} {p : Bytes} {r : List Bytes} (H : GoesTo t k r) {b o c : Nat} {u : Value} {w : World} (hlr : r.length ≤ 70000 * (hops + 1)) (at_ : Int) (last : Bool) (hk : hops + k = 40) (_hl : (p :: r).length ≤ 70000 * (hops + 1)) (hu : Nodes w.heap.size w u t.L) (hv : Texts w.heap.size w (.slice (some ⟨b, o, none⟩) (r.length + 1) c) (p :: r)) :
    Calls Tryz.prog 100 #[.agg #[u, .int .i64 t.last], .int .i64 at_, if c = 1 then .slice (some ⟨b, o, none⟩) 0 0 else .slice (some ⟨b, o + 1, none⟩) r.length (c - 1), .bool last, .int .i64 hops] w (Went (goTo t at_ r last hops) w) :=
  H at_ last hops u _ w hk hlr hu (rest_texts hv)
def oneT (l : Bytes) : List Value := [strV l]
theorem one_len (l : Bytes) : (oneT l).length = 1 := rfl
theorem one_one (l : Bytes) : ∀ c ∈ oneT l, c.oneCell' = true := by intro c hc; simp [oneT, strV] at hc; subst hc; rfl
theorem texts_recs {B : Nat} {w : World} {v : Value} {L : List Bytes} (h : Texts B w v L) : Recs oneT 1 B w v L := by
  obtain ⟨A, c, e, h1, h2, h3⟩ := h
  refine ⟨A, c, e, h1, h2, fun hn => ?_⟩
  obtain ⟨ad, e2, hb, hc⟩ := h3 hn
  refine ⟨ad, e2, hb, fun k hk j hj => ?_⟩
  obtain rfl : j = 0 := by omega
  rw [Nat.mul_one, Nat.add_zero, hc k hk, List.getD_eq_getElem?_getD, List.getElem?_eq_getElem hk]
  rfl
theorem flat_one : ∀ L : List Bytes, L.flatMap oneT = L.map strV
  | [] => rfl
  | a :: L => by rw [List.flatMap_cons, List.map_cons, flat_one L]; rfl
theorem texts_two {w : World} {base : Nat} {v : Value} {P R : List Bytes} (h : w.ownsRow base 9 1 v (0 + P.length + R.length) ([] ++ P.flatMap oneT ++ R.flatMap oneT)) : Texts w.heap.size w v (P ++ R) := by
  rw [flat_one, flat_one, List.nil_append, ← List.map_append] at h
  exact Texts.of_own h
theorem kept3 {w6 w' : World} {p q : Nat} {y0 y1 y2 : Value} (hp : p < w6.heap.size) (hq : q < w6.heap.size) (h0 : w6.cell? ⟨p, 0, none⟩ = some y0) (h1 : w6.cell? ⟨p, 1, none⟩ = some y1) (h2 : w6.cell? ⟨q, 4, none⟩ = some y2) (hb : Below w6.heap.size w6 w') : w'.cell? ⟨p, 0, none⟩ = some y0 ∧ w'.cell? ⟨p, 1, none⟩ = some y1 ∧ w'.cell? ⟨q, 4, none⟩ = some y2 ∧ Below w6.heap.size w6 w' :=
  ⟨(hb.cell hp).trans h0, (hb.cell hp).trans h1, (hb.cell hq).trans h2, hb⟩
set_option maxHeartbeats 16000000 in
theorem go_step (t : Tr) (hfit : Fit t) (htl : t.L.length ≤ 1048576) (k : Nat) (l : List Bytes) (H1 : ∀ k' l', k' < k → GoesTo t k' l') (H2 : ∀ p r, l = p :: r → GoesTo t k r) : GoesTo t k l := by
  intro at_ last hops u v w hk hl hu hv
  obtain ⟨i0, hi, hz0, hz1, hz2⟩ := info_parts text_info
  have HI := Lib.hid hi
  clear hi
  obtain ⟨Au, cu, rfl, hu1, hu2⟩ := hu.form
  unfold maxLen at hu2
  obtain ⟨w1, hw1⟩ : ∃ w1 : World, w.alloc (.cells #[.slice Au t.L.length cu, .int .i64 t.last] 30) = w1 := ⟨_, rfl⟩
  have B1 : Below w.heap.size w w1 := by rw [← hw1]; exact (Below.refl _ _).alloc (Nat.le_refl _) _
  have hs1 : w.heap.size < w1.heap.size := by rw [← hw1]; simp
  have x0 : w1.cell? ⟨w.heap.size, 0, none⟩ = some (.slice Au t.L.length cu) := by rw [← hw1]; simp
  have x1 : w1.cell? ⟨w.heap.size, 1, none⟩ = some (.int .i64 t.last) := by rw [← hw1]; simp
  cases l with
  | nil =>
    obtain ⟨A, c, rfl, -, -⟩ := hv.form
    rw [go_nil]
    clear hu hv H1 H2
    simp only [List.length_nil]
    go_enter Tryz.func100, Tryz.ntmps100
    go_wp2_with fail
    go_ret3
    exact ⟨rfl, B1⟩
  | cons p r =>
    obtain ⟨b, o, c, s, rfl, hc1, hc2, hb, hs, hcell⟩ := texts_cons hv
    unfold maxLen at hc2
    have hq1 : (1 : Int) ≤ (r.length : Int) + 1 := by omega
    have hq2 : (r.length : Int) + 1 ≤ (c : Int) := by omega
    have HIH := Lib.hid (H2 p r rfl)
    have HL := Lib.hid (fun l' (h : 0 < k) => H1 (k - 1) l' (by omega))
    have U1 := Lib.hid ((hu.below B1).more B1.size)
    have V1 := Lib.hid ((hv.below B1).more B1.size)
    have HAT := Lib.hid (fun (w' : World) (n : Int) (hb : Below w1.heap.size w1 w') => W07.refAt_any (.slice Au t.L.length cu) t.L t.last n w1.heap.size w' (U1.out.below hb) hb.size (by omega))
    have hcell1 : w1.cell? ⟨b, o, none⟩ = some (.string s) := (B1.cell hb).trans hcell
    have HB1 := Lib.hid B1
    clear hu hv H1 H2 B1 hcell
    by_cases hkd : (nodeAt t.L at_).kind = 1
    · skip
      -- %dir
      have hkd2 : ((nodeAt t.L at_).kind != 1) = false := by simp [hkd]
      have HA := Lib.hid (HAT.out w1 at_ (Below.refl _ _))
      unfold nodeV at HA
      have hlr : r.length ≤ 70000 * (hops + 1) := by have := hl; simp only [List.length_cons] at this; omega
      have HRS := Lib.hid (fun (n : Int) (w' : World) (hb : Below w1.heap.size w1 w') => go_rest HIH.out hlr n last hk hl (U1.out.below hb |>.more hb.size) (V1.out.below hb |>.more hb.size))
      by_cases hp : p = [46, 46]
      · have ts : (s.toList == [46, 46]) = true := by rw [Lib.toList_data, hs, hp]; rfl
        rw [go_up hkd hp]
        have HAU := Lib.hid (fun (w' : World) (hb : Below w1.heap.size w1 w') => HAT.out w' at_ hb)
        unfold nodeV at HAU
        have HREC := Lib.hid (HRS.out (nodeAt t.L at_).up)
        clear HRS HIH HL HAT
        generalize nodeAt t.L at_ = x at *
        generalize goTo t x.up r last hops = G at *
        clear hkd hp
        by_cases hc : c = 1
        · subst hc
          obtain rfl : r = [] := List.length_eq_zero_iff.1 (by omega)
          rw [if_pos rfl] at HREC
          try simp only [List.length_nil, Nat.zero_add] at *
          go_enter Tryz.func100, Tryz.ntmps100
          go_wp2_with fail
          refine HA.out.mono ?_
          rintro e w2 ⟨rfl, hb2⟩
          have hf1 := W07.field_kind x.num x.up ⟨x.name.toArray⟩ x.kind ⟨x.data.toArray⟩ w2
          have hf2 := W07.field_up x.num x.up ⟨x.name.toArray⟩ x.kind ⟨x.data.toArray⟩
          have hcell2 : w2.cell? ⟨b, o, none⟩ = some (.string s) := (hb2.cell (by show b < _; omega)).trans hcell1
          have y0 : w2.cell? ⟨w.heap.size, 0, none⟩ = some (.slice Au t.L.length cu) := (hb2.cell hs1).trans x0
          have y1 : w2.cell? ⟨w.heap.size, 1, none⟩ = some (.int .i64 t.last) := (hb2.cell hs1).trans x1
          go_wp2_with fail
          go_region_held3 (fun w' => w'.cell? ⟨w.heap.size, 0, none⟩ = some (.slice Au t.L.length cu) ∧ w'.cell? ⟨w.heap.size, 1, none⟩ = some (.int .i64 t.last) ∧ Below w1.heap.size w1 w')
            (first | exact box_on hs1 (by assumption) hb4 | exact box_on hs1 (by assumption) hb3 | exact ⟨y0, y1, hb2.drew⟩ | go_keep)
            (first
              | (go_at_call 34; refine (HAU.out _ (box_below (by assumption))).mono ?_; rintro e w3 ⟨rfl, hb3⟩)
              | (go_at_call 100; refine (HREC.out _ (box_below (by assumption))).mono ?_; rintro e w4 ⟨rfl, hb4⟩))
          all_goals (
            go_wp2_with fail
            go_ret3
            exact ⟨rfl, on HB1.out (box_below (w1 := w1) (p := w.heap.size) (y0 := .slice Au t.L.length cu) (y1 := .int .i64 t.last) (by assumption))⟩)
        · have hc' : ¬ 1 = c := fun e => hc e.symm
          rw [if_neg hc] at HREC
          go_enter Tryz.func100, Tryz.ntmps100
          go_wp2_with fail
          refine HA.out.mono ?_
          rintro e w2 ⟨rfl, hb2⟩
          have hf1 := W07.field_kind x.num x.up ⟨x.name.toArray⟩ x.kind ⟨x.data.toArray⟩ w2
          have hf2 := W07.field_up x.num x.up ⟨x.name.toArray⟩ x.kind ⟨x.data.toArray⟩
          have hcell2 : w2.cell? ⟨b, o, none⟩ = some (.string s) := (hb2.cell (by show b < _; omega)).trans hcell1
          have y0 : w2.cell? ⟨w.heap.size, 0, none⟩ = some (.slice Au t.L.length cu) := (hb2.cell hs1).trans x0
          have y1 : w2.cell? ⟨w.heap.size, 1, none⟩ = some (.int .i64 t.last) := (hb2.cell hs1).trans x1
          go_wp2_with fail
          go_region_held3 (fun w' => w'.cell? ⟨w.heap.size, 0, none⟩ = some (.slice Au t.L.length cu) ∧ w'.cell? ⟨w.heap.size, 1, none⟩ = some (.int .i64 t.last) ∧ Below w1.heap.size w1 w')
            (first | exact box_on hs1 (by assumption) hb4 | exact box_on hs1 (by assumption) hb3 | exact ⟨y0, y1, hb2.drew⟩ | go_keep)
            (first
              | (go_at_call 34; refine (HAU.out _ (box_below (by assumption))).mono ?_; rintro e w3 ⟨rfl, hb3⟩)
              | (go_at_call 100; refine (HREC.out _ (box_below (by assumption))).mono ?_; rintro e w4 ⟨rfl, hb4⟩))
          all_goals (
            go_wp2_with fail
            go_ret3
            exact ⟨rfl, on HB1.out (box_below (w1 := w1) (p := w.heap.size) (y0 := .slice Au t.L.length cu) (y1 := .int .i64 t.last) (by assumption))⟩)
      · have ts : (s.toList == [46, 46]) = false := by rw [Lib.toList_data, hs, beq_eq_false_iff_ne]; exact hp
        have HCH := Lib.hid (W03.refCheck_any s)
        rw [hs] at HCH
        by_cases hck : check p = 0
        · skip
          have tc : (check p != 0) = false := by simp [hck]
          have HIN := Lib.hid (fun (w' : World) (hb : Below w1.heap.size w1 w') => W07.refIn_any (.slice Au t.L.length cu) t.L t.last at_ s w1.heap.size w' (U1.out.below hb) hb.size (by omega))
          rw [hs] at HIN
          have HAN := Lib.hid (fun (w' : World) (hb : Below w1.heap.size w1 w') => HAT.out w' (inDir t.L at_ p) hb)
          unfold nodeV at HAN
          have HREC := Lib.hid (HRS.out (inDir t.L at_ p))
          clear HRS
          by_cases hn : inDir t.L at_ p = 0
          · rw [go_none hkd hp hck hn]
            have tn : (inDir t.L at_ p == 0) = true := by simp [hn]
            generalize hxx : nodeAt t.L at_ = xa at *
            generalize inDir t.L at_ p = m at *
            generalize nodeAt t.L m = x at *
            generalize check p = cp at *
            have hb1 : b < w1.heap.size := by omega
            clear hkd hp hck hn HREC HIH HL HAT
            go_enter Tryz.func100, Tryz.ntmps100
            go_wp2_with fail
            refine HA.out.mono ?_
            rintro e w2 ⟨rfl, hb2⟩
            have hf1 := W07.field_kind xa.num xa.up ⟨xa.name.toArray⟩ xa.kind ⟨xa.data.toArray⟩ w2
            have hcell2 : w2.cell? ⟨b, o, none⟩ = some (.string s) := (hb2.cell hb1).trans hcell1
            have y0 : w2.cell? ⟨w.heap.size, 0, none⟩ = some (.slice Au t.L.length cu) := (hb2.cell hs1).trans x0
            have y1 : w2.cell? ⟨w.heap.size, 1, none⟩ = some (.int .i64 t.last) := (hb2.cell hs1).trans x1
            go_wp2_with fail
            refine (HCH.out w2).mono ?_
            rintro e w3 ⟨rfl, rfl⟩
            go_wp2_with fail
            go_region_held3 (fun w' => w'.cell? ⟨w.heap.size, 0, none⟩ = some (.slice Au t.L.length cu) ∧ w'.cell? ⟨w.heap.size, 1, none⟩ = some (.int .i64 t.last) ∧ w'.cell? ⟨b, o, none⟩ = some (.string s) ∧ Below w1.heap.size w1 w')
              (first | exact part_on hs1 hb1 (by assumption) hb4 | exact ⟨y0, y1, hcell2, hb2.drew⟩ | go_keep)
              (first
                | (go_at_call 51; refine (HIN.out _ (part_below (by assumption))).mono ?_; rintro e w4 ⟨rfl, hb4⟩))
            obtain ⟨a0, a1, ac, hb4'⟩ := (by assumption : w4.cell? ⟨w.heap.size, 0, none⟩ = some (.slice Au t.L.length cu) ∧ w4.cell? ⟨w.heap.size, 1, none⟩ = some (.int .i64 t.last) ∧ w4.cell? ⟨b, o, none⟩ = some (.string s) ∧ Below w1.heap.size w1 w4)
            clear hb4
            go_wp2_with fail
            refine (HAN.out w4 hb4').mono ?_
            rintro e w5 ⟨rfl, hb5⟩
            obtain ⟨w6, hw6⟩ : ∃ w', w5.alloc (.cells #[.int .i64 x.num, .int .i64 x.up, .string ⟨x.name.toArray⟩, .int .i64 x.kind, .string ⟨x.data.toArray⟩] 69) = w' := ⟨_, rfl⟩
            have hb6 : Below w5.heap.size w5 w6 := by rw [← hw6]; exact (Below.refl _ _).alloc (Nat.le_refl _) _
            have HB6 := Lib.hid (on hb4' (on hb5 hb6))
            have z3 : w6.cell? ⟨w5.heap.size, 3, none⟩ = some (.int .i64 x.kind) := by rw [← hw6]; simp
            have z4 : w6.cell? ⟨w5.heap.size, 4, none⟩ = some (.string ⟨x.data.toArray⟩) := by rw [← hw6]; simp
            have hsz : w1.heap.size ≤ w5.heap.size := (on hb4' hb5).size
            have q0 : w6.cell? ⟨w.heap.size, 0, none⟩ = some (.slice Au t.L.length cu) := (hb6.cell (show w.heap.size < w5.heap.size by omega)).trans ((hb5.cell (show w.heap.size < w4.heap.size by have := hb4'.size; omega)).trans a0)
            have q1 : w6.cell? ⟨w.heap.size, 1, none⟩ = some (.int .i64 t.last) := (hb6.cell (show w.heap.size < w5.heap.size by omega)).trans ((hb5.cell (show w.heap.size < w4.heap.size by have := hb4'.size; omega)).trans a1)
            have hlt6 : w5.heap.size < w6.heap.size := by rw [← hw6]; simp
            clear a0 a1 ac hb4' hb5 hb6 y0 y1 hcell2
            go_wp2_with fail
            go_ret3
            exact ⟨rfl, on HB1.out HB6.out⟩
          · have tn : (inDir t.L at_ p == 0) = false := by simpa using hn
            by_cases hA : (nodeAt t.L (inDir t.L at_ p)).kind ≠ 3
            · rw [go_on hkd hp hck hn (Or.inl hA)]
              have tA : ((nodeAt t.L (inDir t.L at_ p)).kind != 3) = true := by simpa using hA
              generalize goTo t (inDir t.L at_ p) r last hops = G at *
              generalize hxx : nodeAt t.L at_ = xa at *
              generalize inDir t.L at_ p = m at *
              generalize nodeAt t.L m = x at *
              generalize check p = cp at *
              have hb1 : b < w1.heap.size := by omega
              clear hkd hp hck hn HIH HL HAT
              clear hA
              by_cases hc : c = 1
              · subst hc
                obtain rfl : r = [] := List.length_eq_zero_iff.1 (by omega)
                rw [if_pos rfl] at HREC
                try simp only [List.length_nil, Nat.zero_add] at *
                go_enter Tryz.func100, Tryz.ntmps100
                go_wp2_with fail
                refine HA.out.mono ?_
                rintro e w2 ⟨rfl, hb2⟩
                have hf1 := W07.field_kind xa.num xa.up ⟨xa.name.toArray⟩ xa.kind ⟨xa.data.toArray⟩ w2
                have hcell2 : w2.cell? ⟨b, o, none⟩ = some (.string s) := (hb2.cell hb1).trans hcell1
                have y0 : w2.cell? ⟨w.heap.size, 0, none⟩ = some (.slice Au t.L.length cu) := (hb2.cell hs1).trans x0
                have y1 : w2.cell? ⟨w.heap.size, 1, none⟩ = some (.int .i64 t.last) := (hb2.cell hs1).trans x1
                go_wp2_with fail
                refine (HCH.out w2).mono ?_
                rintro e w3 ⟨rfl, rfl⟩
                go_wp2_with fail
                go_region_held3 (fun w' => w'.cell? ⟨w.heap.size, 0, none⟩ = some (.slice Au t.L.length cu) ∧ w'.cell? ⟨w.heap.size, 1, none⟩ = some (.int .i64 t.last) ∧ w'.cell? ⟨b, o, none⟩ = some (.string s) ∧ Below w1.heap.size w1 w')
                  (first | exact part_on hs1 hb1 (by assumption) hb4 | exact ⟨y0, y1, hcell2, hb2.drew⟩ | go_keep)
                  (first
                    | (go_at_call 51; refine (HIN.out _ (part_below (by assumption))).mono ?_; rintro e w4 ⟨rfl, hb4⟩))
                obtain ⟨a0, a1, ac, hb4'⟩ := (by assumption : w4.cell? ⟨w.heap.size, 0, none⟩ = some (.slice Au t.L.length cu) ∧ w4.cell? ⟨w.heap.size, 1, none⟩ = some (.int .i64 t.last) ∧ w4.cell? ⟨b, o, none⟩ = some (.string s) ∧ Below w1.heap.size w1 w4)
                clear hb4
                go_wp2_with fail
                refine (HAN.out w4 hb4').mono ?_
                rintro e w5 ⟨rfl, hb5⟩
                obtain ⟨w6, hw6⟩ : ∃ w', w5.alloc (.cells #[.int .i64 x.num, .int .i64 x.up, .string ⟨x.name.toArray⟩, .int .i64 x.kind, .string ⟨x.data.toArray⟩] 69) = w' := ⟨_, rfl⟩
                have hb6 : Below w5.heap.size w5 w6 := by rw [← hw6]; exact (Below.refl _ _).alloc (Nat.le_refl _) _
                have HB6 := Lib.hid (on hb4' (on hb5 hb6))
                have z3 : w6.cell? ⟨w5.heap.size, 3, none⟩ = some (.int .i64 x.kind) := by rw [← hw6]; simp
                have z4 : w6.cell? ⟨w5.heap.size, 4, none⟩ = some (.string ⟨x.data.toArray⟩) := by rw [← hw6]; simp
                have hsz : w1.heap.size ≤ w5.heap.size := (on hb4' hb5).size
                have q0 : w6.cell? ⟨w.heap.size, 0, none⟩ = some (.slice Au t.L.length cu) := (hb6.cell (show w.heap.size < w5.heap.size by omega)).trans ((hb5.cell (show w.heap.size < w4.heap.size by have := hb4'.size; omega)).trans a0)
                have q1 : w6.cell? ⟨w.heap.size, 1, none⟩ = some (.int .i64 t.last) := (hb6.cell (show w.heap.size < w5.heap.size by omega)).trans ((hb5.cell (show w.heap.size < w4.heap.size by have := hb4'.size; omega)).trans a1)
                have hlt6 : w5.heap.size < w6.heap.size := by rw [← hw6]; simp
                clear a0 a1 ac hb4' hb5 hb6 y0 y1 hcell2
                go_wp2_with fail
                go_region_held3 (fun w' => w'.cell? ⟨w.heap.size, 0, none⟩ = some (.slice Au t.L.length cu) ∧ w'.cell? ⟨w.heap.size, 1, none⟩ = some (.int .i64 t.last) ∧ Below w1.heap.size w1 w')
                  (first | exact box_on hs1 (by assumption) hb7 | exact ⟨q0, q1, HB6.out.drew⟩ | go_keep)
                  (first
                    | (go_at_call 100; refine (HREC.out _ (box_below (by assumption))).mono ?_; rintro e w7 ⟨rfl, hb7⟩))
                all_goals (
                  go_wp2_with fail
                  go_ret3
                  exact ⟨rfl, on HB1.out (box_below (w1 := w1) (p := w.heap.size) (y0 := .slice Au t.L.length cu) (y1 := .int .i64 t.last) (by assumption))⟩)
              · have hc' : ¬ 1 = c := fun e => hc e.symm
                rw [if_neg hc] at HREC
                go_enter Tryz.func100, Tryz.ntmps100
                go_wp2_with fail
                refine HA.out.mono ?_
                rintro e w2 ⟨rfl, hb2⟩
                have hf1 := W07.field_kind xa.num xa.up ⟨xa.name.toArray⟩ xa.kind ⟨xa.data.toArray⟩ w2
                have hcell2 : w2.cell? ⟨b, o, none⟩ = some (.string s) := (hb2.cell hb1).trans hcell1
                have y0 : w2.cell? ⟨w.heap.size, 0, none⟩ = some (.slice Au t.L.length cu) := (hb2.cell hs1).trans x0
                have y1 : w2.cell? ⟨w.heap.size, 1, none⟩ = some (.int .i64 t.last) := (hb2.cell hs1).trans x1
                go_wp2_with fail
                refine (HCH.out w2).mono ?_
                rintro e w3 ⟨rfl, rfl⟩
                go_wp2_with fail
                go_region_held3 (fun w' => w'.cell? ⟨w.heap.size, 0, none⟩ = some (.slice Au t.L.length cu) ∧ w'.cell? ⟨w.heap.size, 1, none⟩ = some (.int .i64 t.last) ∧ w'.cell? ⟨b, o, none⟩ = some (.string s) ∧ Below w1.heap.size w1 w')
                  (first | exact part_on hs1 hb1 (by assumption) hb4 | exact ⟨y0, y1, hcell2, hb2.drew⟩ | go_keep)
                  (first
                    | (go_at_call 51; refine (HIN.out _ (part_below (by assumption))).mono ?_; rintro e w4 ⟨rfl, hb4⟩))
                obtain ⟨a0, a1, ac, hb4'⟩ := (by assumption : w4.cell? ⟨w.heap.size, 0, none⟩ = some (.slice Au t.L.length cu) ∧ w4.cell? ⟨w.heap.size, 1, none⟩ = some (.int .i64 t.last) ∧ w4.cell? ⟨b, o, none⟩ = some (.string s) ∧ Below w1.heap.size w1 w4)
                clear hb4
                go_wp2_with fail
                refine (HAN.out w4 hb4').mono ?_
                rintro e w5 ⟨rfl, hb5⟩
                obtain ⟨w6, hw6⟩ : ∃ w', w5.alloc (.cells #[.int .i64 x.num, .int .i64 x.up, .string ⟨x.name.toArray⟩, .int .i64 x.kind, .string ⟨x.data.toArray⟩] 69) = w' := ⟨_, rfl⟩
                have hb6 : Below w5.heap.size w5 w6 := by rw [← hw6]; exact (Below.refl _ _).alloc (Nat.le_refl _) _
                have HB6 := Lib.hid (on hb4' (on hb5 hb6))
                have z3 : w6.cell? ⟨w5.heap.size, 3, none⟩ = some (.int .i64 x.kind) := by rw [← hw6]; simp
                have z4 : w6.cell? ⟨w5.heap.size, 4, none⟩ = some (.string ⟨x.data.toArray⟩) := by rw [← hw6]; simp
                have hsz : w1.heap.size ≤ w5.heap.size := (on hb4' hb5).size
                have q0 : w6.cell? ⟨w.heap.size, 0, none⟩ = some (.slice Au t.L.length cu) := (hb6.cell (show w.heap.size < w5.heap.size by omega)).trans ((hb5.cell (show w.heap.size < w4.heap.size by have := hb4'.size; omega)).trans a0)
                have q1 : w6.cell? ⟨w.heap.size, 1, none⟩ = some (.int .i64 t.last) := (hb6.cell (show w.heap.size < w5.heap.size by omega)).trans ((hb5.cell (show w.heap.size < w4.heap.size by have := hb4'.size; omega)).trans a1)
                have hlt6 : w5.heap.size < w6.heap.size := by rw [← hw6]; simp
                clear a0 a1 ac hb4' hb5 hb6 y0 y1 hcell2
                go_wp2_with fail
                go_region_held3 (fun w' => w'.cell? ⟨w.heap.size, 0, none⟩ = some (.slice Au t.L.length cu) ∧ w'.cell? ⟨w.heap.size, 1, none⟩ = some (.int .i64 t.last) ∧ Below w1.heap.size w1 w')
                  (first | exact box_on hs1 (by assumption) hb7 | exact ⟨q0, q1, HB6.out.drew⟩ | go_keep)
                  (first
                    | (go_at_call 100; refine (HREC.out _ (box_below (by assumption))).mono ?_; rintro e w7 ⟨rfl, hb7⟩))
                all_goals (
                  go_wp2_with fail
                  go_ret3
                  exact ⟨rfl, on HB1.out (box_below (w1 := w1) (p := w.heap.size) (y0 := .slice Au t.L.length cu) (y1 := .int .i64 t.last) (by assumption))⟩)
            · have tA : ((nodeAt t.L (inDir t.L at_ p)).kind != 3) = false := by simpa using hA
              by_cases hB : r = [] ∧ last = false
              · rw [go_on hkd hp hck hn (Or.inr hB)]
                obtain ⟨rfl, rfl⟩ := hB
                simp only [List.length_nil, Nat.zero_add] at *
                generalize goTo t (inDir t.L at_ p) [] false hops = G at *
                generalize hxx : nodeAt t.L at_ = xa at *
                generalize inDir t.L at_ p = m at *
                generalize nodeAt t.L m = x at *
                generalize check p = cp at *
                have hb1 : b < w1.heap.size := by omega
                clear hkd hp hck hn HIH HL HAT hA
                by_cases hc : c = 1
                · subst hc
                  rw [if_pos rfl] at HREC
                  try simp only [List.length_nil, Nat.zero_add] at *
                  go_enter Tryz.func100, Tryz.ntmps100
                  go_wp2_with fail
                  refine HA.out.mono ?_
                  rintro e w2 ⟨rfl, hb2⟩
                  have hf1 := W07.field_kind xa.num xa.up ⟨xa.name.toArray⟩ xa.kind ⟨xa.data.toArray⟩ w2
                  have hcell2 : w2.cell? ⟨b, o, none⟩ = some (.string s) := (hb2.cell hb1).trans hcell1
                  have y0 : w2.cell? ⟨w.heap.size, 0, none⟩ = some (.slice Au t.L.length cu) := (hb2.cell hs1).trans x0
                  have y1 : w2.cell? ⟨w.heap.size, 1, none⟩ = some (.int .i64 t.last) := (hb2.cell hs1).trans x1
                  go_wp2_with fail
                  refine (HCH.out w2).mono ?_
                  rintro e w3 ⟨rfl, rfl⟩
                  go_wp2_with fail
                  go_region_held3 (fun w' => w'.cell? ⟨w.heap.size, 0, none⟩ = some (.slice Au t.L.length cu) ∧ w'.cell? ⟨w.heap.size, 1, none⟩ = some (.int .i64 t.last) ∧ w'.cell? ⟨b, o, none⟩ = some (.string s) ∧ Below w1.heap.size w1 w')
                    (first | exact part_on hs1 hb1 (by assumption) hb4 | exact ⟨y0, y1, hcell2, hb2.drew⟩ | go_keep)
                    (first
                      | (go_at_call 51; refine (HIN.out _ (part_below (by assumption))).mono ?_; rintro e w4 ⟨rfl, hb4⟩))
                  obtain ⟨a0, a1, ac, hb4'⟩ := (by assumption : w4.cell? ⟨w.heap.size, 0, none⟩ = some (.slice Au t.L.length cu) ∧ w4.cell? ⟨w.heap.size, 1, none⟩ = some (.int .i64 t.last) ∧ w4.cell? ⟨b, o, none⟩ = some (.string s) ∧ Below w1.heap.size w1 w4)
                  clear hb4
                  go_wp2_with fail
                  refine (HAN.out w4 hb4').mono ?_
                  rintro e w5 ⟨rfl, hb5⟩
                  obtain ⟨w6, hw6⟩ : ∃ w', w5.alloc (.cells #[.int .i64 x.num, .int .i64 x.up, .string ⟨x.name.toArray⟩, .int .i64 x.kind, .string ⟨x.data.toArray⟩] 69) = w' := ⟨_, rfl⟩
                  have hb6 : Below w5.heap.size w5 w6 := by rw [← hw6]; exact (Below.refl _ _).alloc (Nat.le_refl _) _
                  have HB6 := Lib.hid (on hb4' (on hb5 hb6))
                  have z3 : w6.cell? ⟨w5.heap.size, 3, none⟩ = some (.int .i64 x.kind) := by rw [← hw6]; simp
                  have z4 : w6.cell? ⟨w5.heap.size, 4, none⟩ = some (.string ⟨x.data.toArray⟩) := by rw [← hw6]; simp
                  have hsz : w1.heap.size ≤ w5.heap.size := (on hb4' hb5).size
                  have q0 : w6.cell? ⟨w.heap.size, 0, none⟩ = some (.slice Au t.L.length cu) := (hb6.cell (show w.heap.size < w5.heap.size by omega)).trans ((hb5.cell (show w.heap.size < w4.heap.size by have := hb4'.size; omega)).trans a0)
                  have q1 : w6.cell? ⟨w.heap.size, 1, none⟩ = some (.int .i64 t.last) := (hb6.cell (show w.heap.size < w5.heap.size by omega)).trans ((hb5.cell (show w.heap.size < w4.heap.size by have := hb4'.size; omega)).trans a1)
                  have hlt6 : w5.heap.size < w6.heap.size := by rw [← hw6]; simp
                  clear a0 a1 ac hb4' hb5 hb6 y0 y1 hcell2
                  go_wp2_with fail
                  go_region_held3 (fun w' => w'.cell? ⟨w.heap.size, 0, none⟩ = some (.slice Au t.L.length cu) ∧ w'.cell? ⟨w.heap.size, 1, none⟩ = some (.int .i64 t.last) ∧ Below w1.heap.size w1 w')
                    (first | exact box_on hs1 (by assumption) hb7 | exact ⟨q0, q1, HB6.out.drew⟩ | go_keep)
                    (first
                      | (go_at_call 100; refine (HREC.out _ (box_below (by assumption))).mono ?_; rintro e w7 ⟨rfl, hb7⟩))
                  all_goals (
                    go_wp2_with fail
                    go_ret3
                    exact ⟨rfl, on HB1.out (box_below (w1 := w1) (p := w.heap.size) (y0 := .slice Au t.L.length cu) (y1 := .int .i64 t.last) (by assumption))⟩)
                · have hc' : ¬ 1 = c := fun e => hc e.symm
                  rw [if_neg hc] at HREC
                  go_enter Tryz.func100, Tryz.ntmps100
                  go_wp2_with fail
                  refine HA.out.mono ?_
                  rintro e w2 ⟨rfl, hb2⟩
                  have hf1 := W07.field_kind xa.num xa.up ⟨xa.name.toArray⟩ xa.kind ⟨xa.data.toArray⟩ w2
                  have hcell2 : w2.cell? ⟨b, o, none⟩ = some (.string s) := (hb2.cell hb1).trans hcell1
                  have y0 : w2.cell? ⟨w.heap.size, 0, none⟩ = some (.slice Au t.L.length cu) := (hb2.cell hs1).trans x0
                  have y1 : w2.cell? ⟨w.heap.size, 1, none⟩ = some (.int .i64 t.last) := (hb2.cell hs1).trans x1
                  go_wp2_with fail
                  refine (HCH.out w2).mono ?_
                  rintro e w3 ⟨rfl, rfl⟩
                  go_wp2_with fail
                  go_region_held3 (fun w' => w'.cell? ⟨w.heap.size, 0, none⟩ = some (.slice Au t.L.length cu) ∧ w'.cell? ⟨w.heap.size, 1, none⟩ = some (.int .i64 t.last) ∧ w'.cell? ⟨b, o, none⟩ = some (.string s) ∧ Below w1.heap.size w1 w')
                    (first | exact part_on hs1 hb1 (by assumption) hb4 | exact ⟨y0, y1, hcell2, hb2.drew⟩ | go_keep)
                    (first
                      | (go_at_call 51; refine (HIN.out _ (part_below (by assumption))).mono ?_; rintro e w4 ⟨rfl, hb4⟩))
                  obtain ⟨a0, a1, ac, hb4'⟩ := (by assumption : w4.cell? ⟨w.heap.size, 0, none⟩ = some (.slice Au t.L.length cu) ∧ w4.cell? ⟨w.heap.size, 1, none⟩ = some (.int .i64 t.last) ∧ w4.cell? ⟨b, o, none⟩ = some (.string s) ∧ Below w1.heap.size w1 w4)
                  clear hb4
                  go_wp2_with fail
                  refine (HAN.out w4 hb4').mono ?_
                  rintro e w5 ⟨rfl, hb5⟩
                  obtain ⟨w6, hw6⟩ : ∃ w', w5.alloc (.cells #[.int .i64 x.num, .int .i64 x.up, .string ⟨x.name.toArray⟩, .int .i64 x.kind, .string ⟨x.data.toArray⟩] 69) = w' := ⟨_, rfl⟩
                  have hb6 : Below w5.heap.size w5 w6 := by rw [← hw6]; exact (Below.refl _ _).alloc (Nat.le_refl _) _
                  have HB6 := Lib.hid (on hb4' (on hb5 hb6))
                  have z3 : w6.cell? ⟨w5.heap.size, 3, none⟩ = some (.int .i64 x.kind) := by rw [← hw6]; simp
                  have z4 : w6.cell? ⟨w5.heap.size, 4, none⟩ = some (.string ⟨x.data.toArray⟩) := by rw [← hw6]; simp
                  have hsz : w1.heap.size ≤ w5.heap.size := (on hb4' hb5).size
                  have q0 : w6.cell? ⟨w.heap.size, 0, none⟩ = some (.slice Au t.L.length cu) := (hb6.cell (show w.heap.size < w5.heap.size by omega)).trans ((hb5.cell (show w.heap.size < w4.heap.size by have := hb4'.size; omega)).trans a0)
                  have q1 : w6.cell? ⟨w.heap.size, 1, none⟩ = some (.int .i64 t.last) := (hb6.cell (show w.heap.size < w5.heap.size by omega)).trans ((hb5.cell (show w.heap.size < w4.heap.size by have := hb4'.size; omega)).trans a1)
                  have hlt6 : w5.heap.size < w6.heap.size := by rw [← hw6]; simp
                  clear a0 a1 ac hb4' hb5 hb6 y0 y1 hcell2
                  go_wp2_with fail
                  go_region_held3 (fun w' => w'.cell? ⟨w.heap.size, 0, none⟩ = some (.slice Au t.L.length cu) ∧ w'.cell? ⟨w.heap.size, 1, none⟩ = some (.int .i64 t.last) ∧ Below w1.heap.size w1 w')
                    (first | exact box_on hs1 (by assumption) hb7 | exact ⟨q0, q1, HB6.out.drew⟩ | go_keep)
                    (first
                      | (go_at_call 100; refine (HREC.out _ (box_below (by assumption))).mono ?_; rintro e w7 ⟨rfl, hb7⟩))
                  all_goals (
                    go_wp2_with fail
                    go_ret3
                    exact ⟨rfl, on HB1.out (box_below (w1 := w1) (p := w.heap.size) (y0 := .slice Au t.L.length cu) (y1 := .int .i64 t.last) (by assumption))⟩)
              · have hk3 : ¬ ((nodeAt t.L (inDir t.L at_ p)).kind ≠ 3 ∨ (r = [] ∧ last = false)) := fun h => h.elim hA hB
                by_cases hh : 40 ≤ hops
                · rw [go_loop hkd hp hck hn hk3 hh]
                  by_cases hr : r = []
                  · obtain rfl : last = true := by cases last; exact absurd ⟨hr, rfl⟩ hB; rfl
                    subst hr
                    simp only [List.length_nil, Nat.zero_add] at *
                    have t40 : ((hops : Int) == 40) = true := by simp; omega
                    generalize hxx : nodeAt t.L at_ = xa at *
                    generalize inDir t.L at_ p = m at *
                    generalize nodeAt t.L m = x at *
                    generalize check p = cp at *
                    have hb1 : b < w1.heap.size := by omega
                    clear hkd hp hck hn HREC HIH HL HAT hA hB hk3
                    go_enter Tryz.func100, Tryz.ntmps100
                    go_wp2_with fail
                    refine HA.out.mono ?_
                    rintro e w2 ⟨rfl, hb2⟩
                    have hf1 := W07.field_kind xa.num xa.up ⟨xa.name.toArray⟩ xa.kind ⟨xa.data.toArray⟩ w2
                    have hcell2 : w2.cell? ⟨b, o, none⟩ = some (.string s) := (hb2.cell hb1).trans hcell1
                    have y0 : w2.cell? ⟨w.heap.size, 0, none⟩ = some (.slice Au t.L.length cu) := (hb2.cell hs1).trans x0
                    have y1 : w2.cell? ⟨w.heap.size, 1, none⟩ = some (.int .i64 t.last) := (hb2.cell hs1).trans x1
                    go_wp2_with fail
                    refine (HCH.out w2).mono ?_
                    rintro e w3 ⟨rfl, rfl⟩
                    go_wp2_with fail
                    go_region_held3 (fun w' => w'.cell? ⟨w.heap.size, 0, none⟩ = some (.slice Au t.L.length cu) ∧ w'.cell? ⟨w.heap.size, 1, none⟩ = some (.int .i64 t.last) ∧ w'.cell? ⟨b, o, none⟩ = some (.string s) ∧ Below w1.heap.size w1 w')
                      (first | exact part_on hs1 hb1 (by assumption) hb4 | exact ⟨y0, y1, hcell2, hb2.drew⟩ | go_keep)
                      (first
                        | (go_at_call 51; refine (HIN.out _ (part_below (by assumption))).mono ?_; rintro e w4 ⟨rfl, hb4⟩))
                    obtain ⟨a0, a1, ac, hb4'⟩ := (by assumption : w4.cell? ⟨w.heap.size, 0, none⟩ = some (.slice Au t.L.length cu) ∧ w4.cell? ⟨w.heap.size, 1, none⟩ = some (.int .i64 t.last) ∧ w4.cell? ⟨b, o, none⟩ = some (.string s) ∧ Below w1.heap.size w1 w4)
                    clear hb4
                    go_wp2_with fail
                    refine (HAN.out w4 hb4').mono ?_
                    rintro e w5 ⟨rfl, hb5⟩
                    obtain ⟨w6, hw6⟩ : ∃ w', w5.alloc (.cells #[.int .i64 x.num, .int .i64 x.up, .string ⟨x.name.toArray⟩, .int .i64 x.kind, .string ⟨x.data.toArray⟩] 69) = w' := ⟨_, rfl⟩
                    have hb6 : Below w5.heap.size w5 w6 := by rw [← hw6]; exact (Below.refl _ _).alloc (Nat.le_refl _) _
                    have HB6 := Lib.hid (on hb4' (on hb5 hb6))
                    have z3 : w6.cell? ⟨w5.heap.size, 3, none⟩ = some (.int .i64 x.kind) := by rw [← hw6]; simp
                    have z4 : w6.cell? ⟨w5.heap.size, 4, none⟩ = some (.string ⟨x.data.toArray⟩) := by rw [← hw6]; simp
                    have hsz : w1.heap.size ≤ w5.heap.size := (on hb4' hb5).size
                    have q0 : w6.cell? ⟨w.heap.size, 0, none⟩ = some (.slice Au t.L.length cu) := (hb6.cell (show w.heap.size < w5.heap.size by omega)).trans ((hb5.cell (show w.heap.size < w4.heap.size by have := hb4'.size; omega)).trans a0)
                    have q1 : w6.cell? ⟨w.heap.size, 1, none⟩ = some (.int .i64 t.last) := (hb6.cell (show w.heap.size < w5.heap.size by omega)).trans ((hb5.cell (show w.heap.size < w4.heap.size by have := hb4'.size; omega)).trans a1)
                    have hlt6 : w5.heap.size < w6.heap.size := by rw [← hw6]; simp
                    clear a0 a1 ac hb4' hb5 hb6 y0 y1 hcell2
                    go_wp2_with fail
                    go_ret3
                    exact ⟨rfl, on HB1.out HB6.out⟩
                  · have hr0 : 0 < r.length := List.length_pos_iff.2 hr
                    have tl : ((r.length : Int) + 1 == 1) = false  := by rw [beq_eq_false_iff_ne]; omega
                    have t40 : ((hops : Int) == 40) = true := by simp; omega
                    generalize hxx : nodeAt t.L at_ = xa at *
                    generalize inDir t.L at_ p = m at *
                    generalize nodeAt t.L m = x at *
                    generalize check p = cp at *
                    have hb1 : b < w1.heap.size := by omega
                    clear hkd hp hck hn HREC HIH HL HAT hA hB hk3 hr
                    go_enter Tryz.func100, Tryz.ntmps100
                    go_wp2_with fail
                    refine HA.out.mono ?_
                    rintro e w2 ⟨rfl, hb2⟩
                    have hf1 := W07.field_kind xa.num xa.up ⟨xa.name.toArray⟩ xa.kind ⟨xa.data.toArray⟩ w2
                    have hcell2 : w2.cell? ⟨b, o, none⟩ = some (.string s) := (hb2.cell hb1).trans hcell1
                    have y0 : w2.cell? ⟨w.heap.size, 0, none⟩ = some (.slice Au t.L.length cu) := (hb2.cell hs1).trans x0
                    have y1 : w2.cell? ⟨w.heap.size, 1, none⟩ = some (.int .i64 t.last) := (hb2.cell hs1).trans x1
                    go_wp2_with fail
                    refine (HCH.out w2).mono ?_
                    rintro e w3 ⟨rfl, rfl⟩
                    go_wp2_with fail
                    go_region_held3 (fun w' => w'.cell? ⟨w.heap.size, 0, none⟩ = some (.slice Au t.L.length cu) ∧ w'.cell? ⟨w.heap.size, 1, none⟩ = some (.int .i64 t.last) ∧ w'.cell? ⟨b, o, none⟩ = some (.string s) ∧ Below w1.heap.size w1 w')
                      (first | exact part_on hs1 hb1 (by assumption) hb4 | exact ⟨y0, y1, hcell2, hb2.drew⟩ | go_keep)
                      (first
                        | (go_at_call 51; refine (HIN.out _ (part_below (by assumption))).mono ?_; rintro e w4 ⟨rfl, hb4⟩))
                    obtain ⟨a0, a1, ac, hb4'⟩ := (by assumption : w4.cell? ⟨w.heap.size, 0, none⟩ = some (.slice Au t.L.length cu) ∧ w4.cell? ⟨w.heap.size, 1, none⟩ = some (.int .i64 t.last) ∧ w4.cell? ⟨b, o, none⟩ = some (.string s) ∧ Below w1.heap.size w1 w4)
                    clear hb4
                    go_wp2_with fail
                    refine (HAN.out w4 hb4').mono ?_
                    rintro e w5 ⟨rfl, hb5⟩
                    obtain ⟨w6, hw6⟩ : ∃ w', w5.alloc (.cells #[.int .i64 x.num, .int .i64 x.up, .string ⟨x.name.toArray⟩, .int .i64 x.kind, .string ⟨x.data.toArray⟩] 69) = w' := ⟨_, rfl⟩
                    have hb6 : Below w5.heap.size w5 w6 := by rw [← hw6]; exact (Below.refl _ _).alloc (Nat.le_refl _) _
                    have HB6 := Lib.hid (on hb4' (on hb5 hb6))
                    have z3 : w6.cell? ⟨w5.heap.size, 3, none⟩ = some (.int .i64 x.kind) := by rw [← hw6]; simp
                    have z4 : w6.cell? ⟨w5.heap.size, 4, none⟩ = some (.string ⟨x.data.toArray⟩) := by rw [← hw6]; simp
                    have hsz : w1.heap.size ≤ w5.heap.size := (on hb4' hb5).size
                    have q0 : w6.cell? ⟨w.heap.size, 0, none⟩ = some (.slice Au t.L.length cu) := (hb6.cell (show w.heap.size < w5.heap.size by omega)).trans ((hb5.cell (show w.heap.size < w4.heap.size by have := hb4'.size; omega)).trans a0)
                    have q1 : w6.cell? ⟨w.heap.size, 1, none⟩ = some (.int .i64 t.last) := (hb6.cell (show w.heap.size < w5.heap.size by omega)).trans ((hb5.cell (show w.heap.size < w4.heap.size by have := hb4'.size; omega)).trans a1)
                    have hlt6 : w5.heap.size < w6.heap.size := by rw [← hw6]; simp
                    clear a0 a1 ac hb4' hb5 hb6 y0 y1 hcell2
                    go_wp2_with fail
                    go_ret3
                    exact ⟨rfl, on HB1.out HB6.out⟩
                · rw [go_link hkd hp hck hn hk3 hh]
                  by_cases hr : r = []
                  · obtain rfl : last = true := by cases last; exact absurd ⟨hr, rfl⟩ hB; rfl
                    subst hr
                    simp only [List.length_nil, Nat.zero_add] at *
                    have t40 : ((hops : Int) == 40) = false := by simp; omega
                    have hmem : nodeAt t.L (inDir t.L at_ p) ∈ t.L := (M07.at_some (by have := hA; omega)).1
                    obtain ⟨hfl, hfn, -⟩ := hfit _ hmem
                    have hne : (nodeAt t.L (inDir t.L at_ p)).data ≠ [] := hfn (by omega)
                    have HGO := Lib.hid (fun (w' : World) (s9 : Value) (hb : Below w1.heap.size w1 w') (ht : Texts w'.heap.size w' s9 (parts (nodeAt t.L (inDir t.L at_ p)).data ++ [])) (a : Int) => go_more (hops := hops) (HL.out (parts (nodeAt t.L (inDir t.L at_ p)).data ++ []) (by omega)) a true (by omega) (more_len (p := p) hfl (by rw [List.length_cons]; first | (have := hl; simp only [List.length_cons] at this; omega) | (rw [List.length_nil]; omega))) (U1.out.below hb |>.more hb.size) ht)
                    have HBS : Hid (goTo t (base at_ (nodeAt t.L (inDir t.L at_ p)).data) (parts (nodeAt t.L (inDir t.L at_ p)).data ++ []) true (hops + 1) = goTo t (if (nodeAt t.L (inDir t.L at_ p)).data.head? = some 47 then 1 else at_) (parts (nodeAt t.L (inDir t.L at_ p)).data ++ []) true (hops + 1)) := rfl
                    rw [HBS.out]
                    clear HBS
                    generalize hxx : nodeAt t.L at_ = xa at *
                    generalize inDir t.L at_ p = m at *
                    generalize nodeAt t.L m = x at *
                    generalize check p = cp at *
                    have hb1 : b < w1.heap.size := by omega
                    clear hkd hp hck hn HREC HIH HL HAT hA hB hk3 hmem hfn
                    obtain ⟨xn, xu, xm, xk, xd⟩ := x
                    obtain ⟨ds, rfl⟩ : ∃ ds : ByteArray, xd = ds.data.toList := ⟨⟨xd.toArray⟩, rfl⟩
                    simp only [mk_bytes] at *
                    have hd0 : 0 < ds.size := by
                      rcases Nat.eq_zero_or_pos ds.size with q | q
                      · exact absurd (List.length_eq_zero_iff.1 (by rw [← Lib.size_eq]; exact q)) hne
                      · exact q
                    have hdl : ds.size ≤ 65536 := by rw [Lib.size_eq]; exact hfl
                    have hhd : ds.data.toList.head? = some ds[0] := by rw [Kit.bytes_cons hd0]; rfl
                    rw [hhd] at *
                    clear hne hfl hhd
                    by_cases h47 : ds[0] = 47
                    · have t47 : ((ds[0].toNat : Int) == 47) = true := by rw [h47]; rfl
                      rw [if_pos (by rw [h47])]
                      clear h47
                      have HGA := Lib.hid (fun w' s9 hb ht => HGO.out w' s9 hb ht 1)
                      have HPT := Lib.hid (fun w' => W04.refParts_any ds (by omega) w')
                      have hpl := parts_len ds.data.toList
                      rw [← Lib.size_eq] at hpl
                      generalize goTo t 1 (parts ds.data.toList ++ []) true (hops + 1) = G at *
                      generalize parts ds.data.toList = PL at *
                      have HTV := Lib.hid (fun (w' : World) (hb : Below w1.heap.size w1 w') => rest_texts (p := p) (r := []) (c := c) (b := b) (o := o) (V1.out.below hb))
                      try simp only [List.length_nil] at HTV
                      have hlr : ([] : List Bytes).length ≤ 70000 * 41 := by simp
                      have A1 : Hid (0 + PL.length ≤ maxLen) := by show _ ≤ _; unfold maxLen; omega
                      have A2 : Hid ((0 + PL.length) * 16 ≤ 140737488355328) := by show _ ≤ _; omega
                      have A3 : Hid (0 + PL.length + ([] : List Bytes).length ≤ maxLen) := by show _ ≤ _; unfold maxLen; omega
                      have A4 : Hid ((0 + PL.length + ([] : List Bytes).length) * 16 ≤ 140737488355328) := by show _ ≤ _; omega
                      clear HGO hl hpl
                      by_cases hc : c = 1
                      · subst hc
                        rw [if_pos rfl] at HTV
                        go_enter Tryz.func100, Tryz.ntmps100
                        go_wp2_with fail
                        refine HA.out.mono ?_
                        rintro e w2 ⟨rfl, hb2⟩
                        have hf1 := W07.field_kind xa.num xa.up ⟨xa.name.toArray⟩ xa.kind ⟨xa.data.toArray⟩ w2
                        have hcell2 : w2.cell? ⟨b, o, none⟩ = some (.string s) := (hb2.cell hb1).trans hcell1
                        have y0 : w2.cell? ⟨w.heap.size, 0, none⟩ = some (.slice Au t.L.length cu) := (hb2.cell hs1).trans x0
                        have y1 : w2.cell? ⟨w.heap.size, 1, none⟩ = some (.int .i64 t.last) := (hb2.cell hs1).trans x1
                        go_wp2_with fail
                        refine (HCH.out w2).mono ?_
                        rintro e w3 ⟨rfl, rfl⟩
                        go_wp2_with fail
                        go_region_held3 (fun w' => w'.cell? ⟨w.heap.size, 0, none⟩ = some (.slice Au t.L.length cu) ∧ w'.cell? ⟨w.heap.size, 1, none⟩ = some (.int .i64 t.last) ∧ w'.cell? ⟨b, o, none⟩ = some (.string s) ∧ Below w1.heap.size w1 w')
                          (first | exact part_on hs1 hb1 (by assumption) hb4 | exact ⟨y0, y1, hcell2, hb2.drew⟩ | go_keep)
                          (first
                            | (go_at_call 51; refine (HIN.out _ (part_below (by assumption))).mono ?_; rintro e w4 ⟨rfl, hb4⟩))
                        obtain ⟨a0, a1, ac, hb4'⟩ := (by assumption : w4.cell? ⟨w.heap.size, 0, none⟩ = some (.slice Au t.L.length cu) ∧ w4.cell? ⟨w.heap.size, 1, none⟩ = some (.int .i64 t.last) ∧ w4.cell? ⟨b, o, none⟩ = some (.string s) ∧ Below w1.heap.size w1 w4)
                        clear hb4
                        go_wp2_with fail
                        refine (HAN.out w4 hb4').mono ?_
                        rintro e w5 ⟨rfl, hb5⟩
                        obtain ⟨w6, hw6⟩ : ∃ w', w5.alloc (.cells #[.int .i64 xn, .int .i64 xu, .string ⟨xm.toArray⟩, .int .i64 xk, .string ds] 69) = w' := ⟨_, rfl⟩
                        have hb6 : Below w5.heap.size w5 w6 := by rw [← hw6]; exact (Below.refl _ _).alloc (Nat.le_refl _) _
                        have HB6 := Lib.hid (on hb4' (on hb5 hb6))
                        have z3 : w6.cell? ⟨w5.heap.size, 3, none⟩ = some (.int .i64 xk) := by rw [← hw6]; simp
                        have z4 : w6.cell? ⟨w5.heap.size, 4, none⟩ = some (.string ds) := by rw [← hw6]; simp
                        have hsz : w1.heap.size ≤ w5.heap.size := (on hb4' hb5).size
                        have q0 : w6.cell? ⟨w.heap.size, 0, none⟩ = some (.slice Au t.L.length cu) := (hb6.cell (show w.heap.size < w5.heap.size by omega)).trans ((hb5.cell (show w.heap.size < w4.heap.size by have := hb4'.size; omega)).trans a0)
                        have q1 : w6.cell? ⟨w.heap.size, 1, none⟩ = some (.int .i64 t.last) := (hb6.cell (show w.heap.size < w5.heap.size by omega)).trans ((hb5.cell (show w.heap.size < w4.heap.size by have := hb4'.size; omega)).trans a1)
                        have hlt6 : w5.heap.size < w6.heap.size := by rw [← hw6]; simp
                        clear a0 a1 ac hb4' hb5 hb6 y0 y1 hcell2
                        go_wp2_with fail
                        have hwr : IntKind.i64.wrap ((hops : Int) + 1) = (hops : Int) + 1 := by rw [IntKind.wrap_i64]; omega
                        have hs6 : w.heap.size < w6.heap.size := by omega
                        go_region_held3 (fun w' => w'.cell? ⟨w.heap.size, 0, none⟩ = some (.slice Au t.L.length cu) ∧ w'.cell? ⟨w.heap.size, 1, none⟩ = some (.int .i64 t.last) ∧ w'.cell? ⟨w5.heap.size, 4, none⟩ = some (.string ds) ∧ Below w6.heap.size w6 w')
                          (first | exact kept3 hs6 hlt6 q0 q1 z4 B10 | exact kept3 hs6 hlt6 q0 q1 z4 B9 | exact kept3 hs6 hlt6 q0 q1 z4 B8 | exact kept3 hs6 hlt6 q0 q1 z4 B7 | exact ⟨q0, q1, z4, (Below.refl _ _).drew⟩ | go_keep)
                          (first
                            | (go_at_call 98; refine (HPT.out _).mono ?_; rintro e w7 ⟨v7, rfl, ho7, hb7⟩; have B7 : Below w6.heap.size w6 w7 := (Below.refl w6.heap.size w6).drew.trans hb7)
                            | (refine wp_append_recs (.const (.slice none 0 0)) (.tmp 97) 135 rfl w6.heap.size 9 i0 (.string ⟨#[]⟩) 1 16 Tryz.underlying135 HI.out hz0 hz1 hz2 rfl (by decide) (.slice none 0 0) 0 [] rfl (World.ownsRow_nil _ _ _ _) v7 PL w7.heap.size rfl (texts_recs (Texts.of_own ho7)) one_len one_one A1.out A2.out B7.size ?_; intro s8 w8 ho8 hg8 hq8; have B8 : Below w6.heap.size w6 w8 := B7.grown hg8 B7.size (fun k hk => by cases hk))
                            | (refine wp_append_recs (.tmp 98) (.tmp 100) 135 rfl w6.heap.size 9 i0 (.string ⟨#[]⟩) 1 16 Tryz.underlying135 HI.out hz0 hz1 hz2 rfl (by decide) s8 (0 + PL.length) _ rfl ho8 _ [] w1.heap.size rfl (texts_recs (HTV.out w8 (on HB6.out B8))) one_len one_one A3.out A4.out B8.size ?_; intro s9 w9 ho9 hg9 hq9; have B9 : Below w6.heap.size w6 w9 := B8.grown hg9 B8.size (fun k hk => (ho8.lt k hk).1))
                            | (go_at_call 100; refine (HGA.out w9 s9 (on HB6.out B9) (texts_two ho9)).mono ?_; rintro e w10 ⟨rfl, hb10⟩; have B10 := on B9 hb10))
                        all_goals (
                          go_wp2_with fail
                          go_ret3
                          exact ⟨rfl, on HB1.out (on HB6.out B10)⟩)
                      · have hc' : ¬ 1 = c := fun e => hc e.symm
                        rw [if_neg hc] at HTV
                        go_enter Tryz.func100, Tryz.ntmps100
                        go_wp2_with fail
                        refine HA.out.mono ?_
                        rintro e w2 ⟨rfl, hb2⟩
                        have hf1 := W07.field_kind xa.num xa.up ⟨xa.name.toArray⟩ xa.kind ⟨xa.data.toArray⟩ w2
                        have hcell2 : w2.cell? ⟨b, o, none⟩ = some (.string s) := (hb2.cell hb1).trans hcell1
                        have y0 : w2.cell? ⟨w.heap.size, 0, none⟩ = some (.slice Au t.L.length cu) := (hb2.cell hs1).trans x0
                        have y1 : w2.cell? ⟨w.heap.size, 1, none⟩ = some (.int .i64 t.last) := (hb2.cell hs1).trans x1
                        go_wp2_with fail
                        refine (HCH.out w2).mono ?_
                        rintro e w3 ⟨rfl, rfl⟩
                        go_wp2_with fail
                        go_region_held3 (fun w' => w'.cell? ⟨w.heap.size, 0, none⟩ = some (.slice Au t.L.length cu) ∧ w'.cell? ⟨w.heap.size, 1, none⟩ = some (.int .i64 t.last) ∧ w'.cell? ⟨b, o, none⟩ = some (.string s) ∧ Below w1.heap.size w1 w')
                          (first | exact part_on hs1 hb1 (by assumption) hb4 | exact ⟨y0, y1, hcell2, hb2.drew⟩ | go_keep)
                          (first
                            | (go_at_call 51; refine (HIN.out _ (part_below (by assumption))).mono ?_; rintro e w4 ⟨rfl, hb4⟩))
                        obtain ⟨a0, a1, ac, hb4'⟩ := (by assumption : w4.cell? ⟨w.heap.size, 0, none⟩ = some (.slice Au t.L.length cu) ∧ w4.cell? ⟨w.heap.size, 1, none⟩ = some (.int .i64 t.last) ∧ w4.cell? ⟨b, o, none⟩ = some (.string s) ∧ Below w1.heap.size w1 w4)
                        clear hb4
                        go_wp2_with fail
                        refine (HAN.out w4 hb4').mono ?_
                        rintro e w5 ⟨rfl, hb5⟩
                        obtain ⟨w6, hw6⟩ : ∃ w', w5.alloc (.cells #[.int .i64 xn, .int .i64 xu, .string ⟨xm.toArray⟩, .int .i64 xk, .string ds] 69) = w' := ⟨_, rfl⟩
                        have hb6 : Below w5.heap.size w5 w6 := by rw [← hw6]; exact (Below.refl _ _).alloc (Nat.le_refl _) _
                        have HB6 := Lib.hid (on hb4' (on hb5 hb6))
                        have z3 : w6.cell? ⟨w5.heap.size, 3, none⟩ = some (.int .i64 xk) := by rw [← hw6]; simp
                        have z4 : w6.cell? ⟨w5.heap.size, 4, none⟩ = some (.string ds) := by rw [← hw6]; simp
                        have hsz : w1.heap.size ≤ w5.heap.size := (on hb4' hb5).size
                        have q0 : w6.cell? ⟨w.heap.size, 0, none⟩ = some (.slice Au t.L.length cu) := (hb6.cell (show w.heap.size < w5.heap.size by omega)).trans ((hb5.cell (show w.heap.size < w4.heap.size by have := hb4'.size; omega)).trans a0)
                        have q1 : w6.cell? ⟨w.heap.size, 1, none⟩ = some (.int .i64 t.last) := (hb6.cell (show w.heap.size < w5.heap.size by omega)).trans ((hb5.cell (show w.heap.size < w4.heap.size by have := hb4'.size; omega)).trans a1)
                        have hlt6 : w5.heap.size < w6.heap.size := by rw [← hw6]; simp
                        clear a0 a1 ac hb4' hb5 hb6 y0 y1 hcell2
                        go_wp2_with fail
                        have hwr : IntKind.i64.wrap ((hops : Int) + 1) = (hops : Int) + 1 := by rw [IntKind.wrap_i64]; omega
                        have hs6 : w.heap.size < w6.heap.size := by omega
                        go_region_held3 (fun w' => w'.cell? ⟨w.heap.size, 0, none⟩ = some (.slice Au t.L.length cu) ∧ w'.cell? ⟨w.heap.size, 1, none⟩ = some (.int .i64 t.last) ∧ w'.cell? ⟨w5.heap.size, 4, none⟩ = some (.string ds) ∧ Below w6.heap.size w6 w')
                          (first | exact kept3 hs6 hlt6 q0 q1 z4 B10 | exact kept3 hs6 hlt6 q0 q1 z4 B9 | exact kept3 hs6 hlt6 q0 q1 z4 B8 | exact kept3 hs6 hlt6 q0 q1 z4 B7 | exact ⟨q0, q1, z4, (Below.refl _ _).drew⟩ | go_keep)
                          (first
                            | (go_at_call 98; refine (HPT.out _).mono ?_; rintro e w7 ⟨v7, rfl, ho7, hb7⟩; have B7 : Below w6.heap.size w6 w7 := (Below.refl w6.heap.size w6).drew.trans hb7)
                            | (refine wp_append_recs (.const (.slice none 0 0)) (.tmp 97) 135 rfl w6.heap.size 9 i0 (.string ⟨#[]⟩) 1 16 Tryz.underlying135 HI.out hz0 hz1 hz2 rfl (by decide) (.slice none 0 0) 0 [] rfl (World.ownsRow_nil _ _ _ _) v7 PL w7.heap.size rfl (texts_recs (Texts.of_own ho7)) one_len one_one A1.out A2.out B7.size ?_; intro s8 w8 ho8 hg8 hq8; have B8 : Below w6.heap.size w6 w8 := B7.grown hg8 B7.size (fun k hk => by cases hk))
                            | (refine wp_append_recs (.tmp 98) (.tmp 100) 135 rfl w6.heap.size 9 i0 (.string ⟨#[]⟩) 1 16 Tryz.underlying135 HI.out hz0 hz1 hz2 rfl (by decide) s8 (0 + PL.length) _ rfl ho8 _ [] w1.heap.size rfl (texts_recs (HTV.out w8 (on HB6.out B8))) one_len one_one A3.out A4.out B8.size ?_; intro s9 w9 ho9 hg9 hq9; have B9 : Below w6.heap.size w6 w9 := B8.grown hg9 B8.size (fun k hk => (ho8.lt k hk).1))
                            | (go_at_call 100; refine (HGA.out w9 s9 (on HB6.out B9) (texts_two ho9)).mono ?_; rintro e w10 ⟨rfl, hb10⟩; have B10 := on B9 hb10))
                        all_goals (
                          go_wp2_with fail
                          go_ret3
                          exact ⟨rfl, on HB1.out (on HB6.out B10)⟩)
                    · have t47 : ((ds[0].toNat : Int) == 47) = false := by rw [beq_eq_false_iff_ne]; exact fun e => h47 (Kit.byte_eq e)
                      rw [if_neg (by simpa using h47)]
                      clear h47
                      have HGA := Lib.hid (fun w' s9 hb ht => HGO.out w' s9 hb ht at_)
                      have HPT := Lib.hid (fun w' => W04.refParts_any ds (by omega) w')
                      have hpl := parts_len ds.data.toList
                      rw [← Lib.size_eq] at hpl
                      generalize goTo t at_ (parts ds.data.toList ++ []) true (hops + 1) = G at *
                      generalize parts ds.data.toList = PL at *
                      have HTV := Lib.hid (fun (w' : World) (hb : Below w1.heap.size w1 w') => rest_texts (p := p) (r := []) (c := c) (b := b) (o := o) (V1.out.below hb))
                      try simp only [List.length_nil] at HTV
                      have hlr : ([] : List Bytes).length ≤ 70000 * 41 := by simp
                      have A1 : Hid (0 + PL.length ≤ maxLen) := by show _ ≤ _; unfold maxLen; omega
                      have A2 : Hid ((0 + PL.length) * 16 ≤ 140737488355328) := by show _ ≤ _; omega
                      have A3 : Hid (0 + PL.length + ([] : List Bytes).length ≤ maxLen) := by show _ ≤ _; unfold maxLen; omega
                      have A4 : Hid ((0 + PL.length + ([] : List Bytes).length) * 16 ≤ 140737488355328) := by show _ ≤ _; omega
                      clear HGO hl hpl
                      by_cases hc : c = 1
                      · subst hc
                        rw [if_pos rfl] at HTV
                        go_enter Tryz.func100, Tryz.ntmps100
                        go_wp2_with fail
                        refine HA.out.mono ?_
                        rintro e w2 ⟨rfl, hb2⟩
                        have hf1 := W07.field_kind xa.num xa.up ⟨xa.name.toArray⟩ xa.kind ⟨xa.data.toArray⟩ w2
                        have hcell2 : w2.cell? ⟨b, o, none⟩ = some (.string s) := (hb2.cell hb1).trans hcell1
                        have y0 : w2.cell? ⟨w.heap.size, 0, none⟩ = some (.slice Au t.L.length cu) := (hb2.cell hs1).trans x0
                        have y1 : w2.cell? ⟨w.heap.size, 1, none⟩ = some (.int .i64 t.last) := (hb2.cell hs1).trans x1
                        go_wp2_with fail
                        refine (HCH.out w2).mono ?_
                        rintro e w3 ⟨rfl, rfl⟩
                        go_wp2_with fail
                        go_region_held3 (fun w' => w'.cell? ⟨w.heap.size, 0, none⟩ = some (.slice Au t.L.length cu) ∧ w'.cell? ⟨w.heap.size, 1, none⟩ = some (.int .i64 t.last) ∧ w'.cell? ⟨b, o, none⟩ = some (.string s) ∧ Below w1.heap.size w1 w')
                          (first | exact part_on hs1 hb1 (by assumption) hb4 | exact ⟨y0, y1, hcell2, hb2.drew⟩ | go_keep)
                          (first
                            | (go_at_call 51; refine (HIN.out _ (part_below (by assumption))).mono ?_; rintro e w4 ⟨rfl, hb4⟩))
                        obtain ⟨a0, a1, ac, hb4'⟩ := (by assumption : w4.cell? ⟨w.heap.size, 0, none⟩ = some (.slice Au t.L.length cu) ∧ w4.cell? ⟨w.heap.size, 1, none⟩ = some (.int .i64 t.last) ∧ w4.cell? ⟨b, o, none⟩ = some (.string s) ∧ Below w1.heap.size w1 w4)
                        clear hb4
                        go_wp2_with fail
                        refine (HAN.out w4 hb4').mono ?_
                        rintro e w5 ⟨rfl, hb5⟩
                        obtain ⟨w6, hw6⟩ : ∃ w', w5.alloc (.cells #[.int .i64 xn, .int .i64 xu, .string ⟨xm.toArray⟩, .int .i64 xk, .string ds] 69) = w' := ⟨_, rfl⟩
                        have hb6 : Below w5.heap.size w5 w6 := by rw [← hw6]; exact (Below.refl _ _).alloc (Nat.le_refl _) _
                        have HB6 := Lib.hid (on hb4' (on hb5 hb6))
                        have z3 : w6.cell? ⟨w5.heap.size, 3, none⟩ = some (.int .i64 xk) := by rw [← hw6]; simp
                        have z4 : w6.cell? ⟨w5.heap.size, 4, none⟩ = some (.string ds) := by rw [← hw6]; simp
                        have hsz : w1.heap.size ≤ w5.heap.size := (on hb4' hb5).size
                        have q0 : w6.cell? ⟨w.heap.size, 0, none⟩ = some (.slice Au t.L.length cu) := (hb6.cell (show w.heap.size < w5.heap.size by omega)).trans ((hb5.cell (show w.heap.size < w4.heap.size by have := hb4'.size; omega)).trans a0)
                        have q1 : w6.cell? ⟨w.heap.size, 1, none⟩ = some (.int .i64 t.last) := (hb6.cell (show w.heap.size < w5.heap.size by omega)).trans ((hb5.cell (show w.heap.size < w4.heap.size by have := hb4'.size; omega)).trans a1)
                        have hlt6 : w5.heap.size < w6.heap.size := by rw [← hw6]; simp
                        clear a0 a1 ac hb4' hb5 hb6 y0 y1 hcell2
                        go_wp2_with fail
                        have hwr : IntKind.i64.wrap ((hops : Int) + 1) = (hops : Int) + 1 := by rw [IntKind.wrap_i64]; omega
                        have hs6 : w.heap.size < w6.heap.size := by omega
                        go_region_held3 (fun w' => w'.cell? ⟨w.heap.size, 0, none⟩ = some (.slice Au t.L.length cu) ∧ w'.cell? ⟨w.heap.size, 1, none⟩ = some (.int .i64 t.last) ∧ w'.cell? ⟨w5.heap.size, 4, none⟩ = some (.string ds) ∧ Below w6.heap.size w6 w')
                          (first | exact kept3 hs6 hlt6 q0 q1 z4 B10 | exact kept3 hs6 hlt6 q0 q1 z4 B9 | exact kept3 hs6 hlt6 q0 q1 z4 B8 | exact kept3 hs6 hlt6 q0 q1 z4 B7 | exact ⟨q0, q1, z4, (Below.refl _ _).drew⟩ | go_keep)
                          (first
                            | (go_at_call 98; refine (HPT.out _).mono ?_; rintro e w7 ⟨v7, rfl, ho7, hb7⟩; have B7 : Below w6.heap.size w6 w7 := (Below.refl w6.heap.size w6).drew.trans hb7)
                            | (refine wp_append_recs (.const (.slice none 0 0)) (.tmp 97) 135 rfl w6.heap.size 9 i0 (.string ⟨#[]⟩) 1 16 Tryz.underlying135 HI.out hz0 hz1 hz2 rfl (by decide) (.slice none 0 0) 0 [] rfl (World.ownsRow_nil _ _ _ _) v7 PL w7.heap.size rfl (texts_recs (Texts.of_own ho7)) one_len one_one A1.out A2.out B7.size ?_; intro s8 w8 ho8 hg8 hq8; have B8 : Below w6.heap.size w6 w8 := B7.grown hg8 B7.size (fun k hk => by cases hk))
                            | (refine wp_append_recs (.tmp 98) (.tmp 100) 135 rfl w6.heap.size 9 i0 (.string ⟨#[]⟩) 1 16 Tryz.underlying135 HI.out hz0 hz1 hz2 rfl (by decide) s8 (0 + PL.length) _ rfl ho8 _ [] w1.heap.size rfl (texts_recs (HTV.out w8 (on HB6.out B8))) one_len one_one A3.out A4.out B8.size ?_; intro s9 w9 ho9 hg9 hq9; have B9 : Below w6.heap.size w6 w9 := B8.grown hg9 B8.size (fun k hk => (ho8.lt k hk).1))
                            | (go_at_call 100; refine (HGA.out w9 s9 (on HB6.out B9) (texts_two ho9)).mono ?_; rintro e w10 ⟨rfl, hb10⟩; have B10 := on B9 hb10))
                        all_goals (
                          go_wp2_with fail
                          go_ret3
                          exact ⟨rfl, on HB1.out (on HB6.out B10)⟩)
                      · have hc' : ¬ 1 = c := fun e => hc e.symm
                        rw [if_neg hc] at HTV
                        go_enter Tryz.func100, Tryz.ntmps100
                        go_wp2_with fail
                        refine HA.out.mono ?_
                        rintro e w2 ⟨rfl, hb2⟩
                        have hf1 := W07.field_kind xa.num xa.up ⟨xa.name.toArray⟩ xa.kind ⟨xa.data.toArray⟩ w2
                        have hcell2 : w2.cell? ⟨b, o, none⟩ = some (.string s) := (hb2.cell hb1).trans hcell1
                        have y0 : w2.cell? ⟨w.heap.size, 0, none⟩ = some (.slice Au t.L.length cu) := (hb2.cell hs1).trans x0
                        have y1 : w2.cell? ⟨w.heap.size, 1, none⟩ = some (.int .i64 t.last) := (hb2.cell hs1).trans x1
                        go_wp2_with fail
                        refine (HCH.out w2).mono ?_
                        rintro e w3 ⟨rfl, rfl⟩
                        go_wp2_with fail
                        go_region_held3 (fun w' => w'.cell? ⟨w.heap.size, 0, none⟩ = some (.slice Au t.L.length cu) ∧ w'.cell? ⟨w.heap.size, 1, none⟩ = some (.int .i64 t.last) ∧ w'.cell? ⟨b, o, none⟩ = some (.string s) ∧ Below w1.heap.size w1 w')
                          (first | exact part_on hs1 hb1 (by assumption) hb4 | exact ⟨y0, y1, hcell2, hb2.drew⟩ | go_keep)
                          (first
                            | (go_at_call 51; refine (HIN.out _ (part_below (by assumption))).mono ?_; rintro e w4 ⟨rfl, hb4⟩))
                        obtain ⟨a0, a1, ac, hb4'⟩ := (by assumption : w4.cell? ⟨w.heap.size, 0, none⟩ = some (.slice Au t.L.length cu) ∧ w4.cell? ⟨w.heap.size, 1, none⟩ = some (.int .i64 t.last) ∧ w4.cell? ⟨b, o, none⟩ = some (.string s) ∧ Below w1.heap.size w1 w4)
                        clear hb4
                        go_wp2_with fail
                        refine (HAN.out w4 hb4').mono ?_
                        rintro e w5 ⟨rfl, hb5⟩
                        obtain ⟨w6, hw6⟩ : ∃ w', w5.alloc (.cells #[.int .i64 xn, .int .i64 xu, .string ⟨xm.toArray⟩, .int .i64 xk, .string ds] 69) = w' := ⟨_, rfl⟩
                        have hb6 : Below w5.heap.size w5 w6 := by rw [← hw6]; exact (Below.refl _ _).alloc (Nat.le_refl _) _
                        have HB6 := Lib.hid (on hb4' (on hb5 hb6))
                        have z3 : w6.cell? ⟨w5.heap.size, 3, none⟩ = some (.int .i64 xk) := by rw [← hw6]; simp
                        have z4 : w6.cell? ⟨w5.heap.size, 4, none⟩ = some (.string ds) := by rw [← hw6]; simp
                        have hsz : w1.heap.size ≤ w5.heap.size := (on hb4' hb5).size
                        have q0 : w6.cell? ⟨w.heap.size, 0, none⟩ = some (.slice Au t.L.length cu) := (hb6.cell (show w.heap.size < w5.heap.size by omega)).trans ((hb5.cell (show w.heap.size < w4.heap.size by have := hb4'.size; omega)).trans a0)
                        have q1 : w6.cell? ⟨w.heap.size, 1, none⟩ = some (.int .i64 t.last) := (hb6.cell (show w.heap.size < w5.heap.size by omega)).trans ((hb5.cell (show w.heap.size < w4.heap.size by have := hb4'.size; omega)).trans a1)
                        have hlt6 : w5.heap.size < w6.heap.size := by rw [← hw6]; simp
                        clear a0 a1 ac hb4' hb5 hb6 y0 y1 hcell2
                        go_wp2_with fail
                        have hwr : IntKind.i64.wrap ((hops : Int) + 1) = (hops : Int) + 1 := by rw [IntKind.wrap_i64]; omega
                        have hs6 : w.heap.size < w6.heap.size := by omega
                        go_region_held3 (fun w' => w'.cell? ⟨w.heap.size, 0, none⟩ = some (.slice Au t.L.length cu) ∧ w'.cell? ⟨w.heap.size, 1, none⟩ = some (.int .i64 t.last) ∧ w'.cell? ⟨w5.heap.size, 4, none⟩ = some (.string ds) ∧ Below w6.heap.size w6 w')
                          (first | exact kept3 hs6 hlt6 q0 q1 z4 B10 | exact kept3 hs6 hlt6 q0 q1 z4 B9 | exact kept3 hs6 hlt6 q0 q1 z4 B8 | exact kept3 hs6 hlt6 q0 q1 z4 B7 | exact ⟨q0, q1, z4, (Below.refl _ _).drew⟩ | go_keep)
                          (first
                            | (go_at_call 98; refine (HPT.out _).mono ?_; rintro e w7 ⟨v7, rfl, ho7, hb7⟩; have B7 : Below w6.heap.size w6 w7 := (Below.refl w6.heap.size w6).drew.trans hb7)
                            | (refine wp_append_recs (.const (.slice none 0 0)) (.tmp 97) 135 rfl w6.heap.size 9 i0 (.string ⟨#[]⟩) 1 16 Tryz.underlying135 HI.out hz0 hz1 hz2 rfl (by decide) (.slice none 0 0) 0 [] rfl (World.ownsRow_nil _ _ _ _) v7 PL w7.heap.size rfl (texts_recs (Texts.of_own ho7)) one_len one_one A1.out A2.out B7.size ?_; intro s8 w8 ho8 hg8 hq8; have B8 : Below w6.heap.size w6 w8 := B7.grown hg8 B7.size (fun k hk => by cases hk))
                            | (refine wp_append_recs (.tmp 98) (.tmp 100) 135 rfl w6.heap.size 9 i0 (.string ⟨#[]⟩) 1 16 Tryz.underlying135 HI.out hz0 hz1 hz2 rfl (by decide) s8 (0 + PL.length) _ rfl ho8 _ [] w1.heap.size rfl (texts_recs (HTV.out w8 (on HB6.out B8))) one_len one_one A3.out A4.out B8.size ?_; intro s9 w9 ho9 hg9 hq9; have B9 : Below w6.heap.size w6 w9 := B8.grown hg9 B8.size (fun k hk => (ho8.lt k hk).1))
                            | (go_at_call 100; refine (HGA.out w9 s9 (on HB6.out B9) (texts_two ho9)).mono ?_; rintro e w10 ⟨rfl, hb10⟩; have B10 := on B9 hb10))
                        all_goals (
                          go_wp2_with fail
                          go_ret3
                          exact ⟨rfl, on HB1.out (on HB6.out B10)⟩)
                  · have hr0 : 0 < r.length := List.length_pos_iff.2 hr
                    have tl : ((r.length : Int) + 1 == 1) = false  := by rw [beq_eq_false_iff_ne]; omega
                    have t40 : ((hops : Int) == 40) = false := by simp; omega
                    have hmem : nodeAt t.L (inDir t.L at_ p) ∈ t.L := (M07.at_some (by have := hA; omega)).1
                    obtain ⟨hfl, hfn, -⟩ := hfit _ hmem
                    have hne : (nodeAt t.L (inDir t.L at_ p)).data ≠ [] := hfn (by omega)
                    have HGO := Lib.hid (fun (w' : World) (s9 : Value) (hb : Below w1.heap.size w1 w') (ht : Texts w'.heap.size w' s9 (parts (nodeAt t.L (inDir t.L at_ p)).data ++ r)) (a : Int) => go_more (hops := hops) (HL.out (parts (nodeAt t.L (inDir t.L at_ p)).data ++ r) (by omega)) a last (by omega) (more_len (p := p) hfl (by rw [List.length_cons]; first | (have := hl; simp only [List.length_cons] at this; omega) | (rw [List.length_nil]; omega))) (U1.out.below hb |>.more hb.size) ht)
                    have HBS : Hid (goTo t (base at_ (nodeAt t.L (inDir t.L at_ p)).data) (parts (nodeAt t.L (inDir t.L at_ p)).data ++ r) last (hops + 1) = goTo t (if (nodeAt t.L (inDir t.L at_ p)).data.head? = some 47 then 1 else at_) (parts (nodeAt t.L (inDir t.L at_ p)).data ++ r) last (hops + 1)) := rfl
                    rw [HBS.out]
                    clear HBS
                    generalize hxx : nodeAt t.L at_ = xa at *
                    generalize inDir t.L at_ p = m at *
                    generalize nodeAt t.L m = x at *
                    generalize check p = cp at *
                    have hb1 : b < w1.heap.size := by omega
                    clear hkd hp hck hn HREC HIH HL HAT hA hB hk3 hmem hfn hr
                    obtain ⟨xn, xu, xm, xk, xd⟩ := x
                    obtain ⟨ds, rfl⟩ : ∃ ds : ByteArray, xd = ds.data.toList := ⟨⟨xd.toArray⟩, rfl⟩
                    simp only [mk_bytes] at *
                    have hd0 : 0 < ds.size := by
                      rcases Nat.eq_zero_or_pos ds.size with q | q
                      · exact absurd (List.length_eq_zero_iff.1 (by rw [← Lib.size_eq]; exact q)) hne
                      · exact q
                    have hdl : ds.size ≤ 65536 := by rw [Lib.size_eq]; exact hfl
                    have hhd : ds.data.toList.head? = some ds[0] := by rw [Kit.bytes_cons hd0]; rfl
                    rw [hhd] at *
                    clear hne hfl hhd
                    by_cases h47 : ds[0] = 47
                    · have t47 : ((ds[0].toNat : Int) == 47) = true := by rw [h47]; rfl
                      rw [if_pos (by rw [h47])]
                      clear h47
                      have HGA := Lib.hid (fun w' s9 hb ht => HGO.out w' s9 hb ht 1)
                      have HPT := Lib.hid (fun w' => W04.refParts_any ds (by omega) w')
                      have hpl := parts_len ds.data.toList
                      rw [← Lib.size_eq] at hpl
                      generalize goTo t 1 (parts ds.data.toList ++ r) last (hops + 1) = G at *
                      generalize parts ds.data.toList = PL at *
                      have HTV := Lib.hid (fun (w' : World) (hb : Below w1.heap.size w1 w') => rest_texts (p := p) (r := r) (c := c) (b := b) (o := o) (V1.out.below hb))
                      try simp only [List.length_nil] at HTV
                      have hlr : r.length ≤ 70000 * 41 := by have := hl; simp only [List.length_cons] at this; omega
                      have A1 : Hid (0 + PL.length ≤ maxLen) := by show _ ≤ _; unfold maxLen; omega
                      have A2 : Hid ((0 + PL.length) * 16 ≤ 140737488355328) := by show _ ≤ _; omega
                      have A3 : Hid (0 + PL.length + r.length ≤ maxLen) := by show _ ≤ _; unfold maxLen; omega
                      have A4 : Hid ((0 + PL.length + r.length) * 16 ≤ 140737488355328) := by show _ ≤ _; omega
                      clear HGO hl hpl
                      by_cases hc : c = 1
                      · subst hc
                        exact absurd hr0 (by omega)
                      · have hc' : ¬ 1 = c := fun e => hc e.symm
                        rw [if_neg hc] at HTV
                        go_enter Tryz.func100, Tryz.ntmps100
                        go_wp2_with fail
                        refine HA.out.mono ?_
                        rintro e w2 ⟨rfl, hb2⟩
                        have hf1 := W07.field_kind xa.num xa.up ⟨xa.name.toArray⟩ xa.kind ⟨xa.data.toArray⟩ w2
                        have hcell2 : w2.cell? ⟨b, o, none⟩ = some (.string s) := (hb2.cell hb1).trans hcell1
                        have y0 : w2.cell? ⟨w.heap.size, 0, none⟩ = some (.slice Au t.L.length cu) := (hb2.cell hs1).trans x0
                        have y1 : w2.cell? ⟨w.heap.size, 1, none⟩ = some (.int .i64 t.last) := (hb2.cell hs1).trans x1
                        go_wp2_with fail
                        refine (HCH.out w2).mono ?_
                        rintro e w3 ⟨rfl, rfl⟩
                        go_wp2_with fail
                        go_region_held3 (fun w' => w'.cell? ⟨w.heap.size, 0, none⟩ = some (.slice Au t.L.length cu) ∧ w'.cell? ⟨w.heap.size, 1, none⟩ = some (.int .i64 t.last) ∧ w'.cell? ⟨b, o, none⟩ = some (.string s) ∧ Below w1.heap.size w1 w')
                          (first | exact part_on hs1 hb1 (by assumption) hb4 | exact ⟨y0, y1, hcell2, hb2.drew⟩ | go_keep)
                          (first
                            | (go_at_call 51; refine (HIN.out _ (part_below (by assumption))).mono ?_; rintro e w4 ⟨rfl, hb4⟩))
                        obtain ⟨a0, a1, ac, hb4'⟩ := (by assumption : w4.cell? ⟨w.heap.size, 0, none⟩ = some (.slice Au t.L.length cu) ∧ w4.cell? ⟨w.heap.size, 1, none⟩ = some (.int .i64 t.last) ∧ w4.cell? ⟨b, o, none⟩ = some (.string s) ∧ Below w1.heap.size w1 w4)
                        clear hb4
                        go_wp2_with fail
                        refine (HAN.out w4 hb4').mono ?_
                        rintro e w5 ⟨rfl, hb5⟩
                        obtain ⟨w6, hw6⟩ : ∃ w', w5.alloc (.cells #[.int .i64 xn, .int .i64 xu, .string ⟨xm.toArray⟩, .int .i64 xk, .string ds] 69) = w' := ⟨_, rfl⟩
                        have hb6 : Below w5.heap.size w5 w6 := by rw [← hw6]; exact (Below.refl _ _).alloc (Nat.le_refl _) _
                        have HB6 := Lib.hid (on hb4' (on hb5 hb6))
                        have z3 : w6.cell? ⟨w5.heap.size, 3, none⟩ = some (.int .i64 xk) := by rw [← hw6]; simp
                        have z4 : w6.cell? ⟨w5.heap.size, 4, none⟩ = some (.string ds) := by rw [← hw6]; simp
                        have hsz : w1.heap.size ≤ w5.heap.size := (on hb4' hb5).size
                        have q0 : w6.cell? ⟨w.heap.size, 0, none⟩ = some (.slice Au t.L.length cu) := (hb6.cell (show w.heap.size < w5.heap.size by omega)).trans ((hb5.cell (show w.heap.size < w4.heap.size by have := hb4'.size; omega)).trans a0)
                        have q1 : w6.cell? ⟨w.heap.size, 1, none⟩ = some (.int .i64 t.last) := (hb6.cell (show w.heap.size < w5.heap.size by omega)).trans ((hb5.cell (show w.heap.size < w4.heap.size by have := hb4'.size; omega)).trans a1)
                        have hlt6 : w5.heap.size < w6.heap.size := by rw [← hw6]; simp
                        clear a0 a1 ac hb4' hb5 hb6 y0 y1 hcell2
                        go_wp2_with fail
                        have hwr : IntKind.i64.wrap ((hops : Int) + 1) = (hops : Int) + 1 := by rw [IntKind.wrap_i64]; omega
                        have hs6 : w.heap.size < w6.heap.size := by omega
                        go_region_held3 (fun w' => w'.cell? ⟨w.heap.size, 0, none⟩ = some (.slice Au t.L.length cu) ∧ w'.cell? ⟨w.heap.size, 1, none⟩ = some (.int .i64 t.last) ∧ w'.cell? ⟨w5.heap.size, 4, none⟩ = some (.string ds) ∧ Below w6.heap.size w6 w')
                          (first | exact kept3 hs6 hlt6 q0 q1 z4 B10 | exact kept3 hs6 hlt6 q0 q1 z4 B9 | exact kept3 hs6 hlt6 q0 q1 z4 B8 | exact kept3 hs6 hlt6 q0 q1 z4 B7 | exact ⟨q0, q1, z4, (Below.refl _ _).drew⟩ | go_keep)
                          (first
                            | (go_at_call 98; refine (HPT.out _).mono ?_; rintro e w7 ⟨v7, rfl, ho7, hb7⟩; have B7 : Below w6.heap.size w6 w7 := (Below.refl w6.heap.size w6).drew.trans hb7)
                            | (refine wp_append_recs (.const (.slice none 0 0)) (.tmp 97) 135 rfl w6.heap.size 9 i0 (.string ⟨#[]⟩) 1 16 Tryz.underlying135 HI.out hz0 hz1 hz2 rfl (by decide) (.slice none 0 0) 0 [] rfl (World.ownsRow_nil _ _ _ _) v7 PL w7.heap.size rfl (texts_recs (Texts.of_own ho7)) one_len one_one A1.out A2.out B7.size ?_; intro s8 w8 ho8 hg8 hq8; have B8 : Below w6.heap.size w6 w8 := B7.grown hg8 B7.size (fun k hk => by cases hk))
                            | (refine wp_append_recs (.tmp 98) (.tmp 100) 135 rfl w6.heap.size 9 i0 (.string ⟨#[]⟩) 1 16 Tryz.underlying135 HI.out hz0 hz1 hz2 rfl (by decide) s8 (0 + PL.length) _ rfl ho8 _ r w1.heap.size rfl (texts_recs (HTV.out w8 (on HB6.out B8))) one_len one_one A3.out A4.out B8.size ?_; intro s9 w9 ho9 hg9 hq9; have B9 : Below w6.heap.size w6 w9 := B8.grown hg9 B8.size (fun k hk => (ho8.lt k hk).1))
                            | (go_at_call 100; refine (HGA.out w9 s9 (on HB6.out B9) (texts_two ho9)).mono ?_; rintro e w10 ⟨rfl, hb10⟩; have B10 := on B9 hb10))
                        all_goals (
                          go_wp2_with fail
                          go_ret3
                          exact ⟨rfl, on HB1.out (on HB6.out B10)⟩)
                    · have t47 : ((ds[0].toNat : Int) == 47) = false := by rw [beq_eq_false_iff_ne]; exact fun e => h47 (Kit.byte_eq e)
                      rw [if_neg (by simpa using h47)]
                      clear h47
                      have HGA := Lib.hid (fun w' s9 hb ht => HGO.out w' s9 hb ht at_)
                      have HPT := Lib.hid (fun w' => W04.refParts_any ds (by omega) w')
                      have hpl := parts_len ds.data.toList
                      rw [← Lib.size_eq] at hpl
                      generalize goTo t at_ (parts ds.data.toList ++ r) last (hops + 1) = G at *
                      generalize parts ds.data.toList = PL at *
                      have HTV := Lib.hid (fun (w' : World) (hb : Below w1.heap.size w1 w') => rest_texts (p := p) (r := r) (c := c) (b := b) (o := o) (V1.out.below hb))
                      try simp only [List.length_nil] at HTV
                      have hlr : r.length ≤ 70000 * 41 := by have := hl; simp only [List.length_cons] at this; omega
                      have A1 : Hid (0 + PL.length ≤ maxLen) := by show _ ≤ _; unfold maxLen; omega
                      have A2 : Hid ((0 + PL.length) * 16 ≤ 140737488355328) := by show _ ≤ _; omega
                      have A3 : Hid (0 + PL.length + r.length ≤ maxLen) := by show _ ≤ _; unfold maxLen; omega
                      have A4 : Hid ((0 + PL.length + r.length) * 16 ≤ 140737488355328) := by show _ ≤ _; omega
                      clear HGO hl hpl
                      by_cases hc : c = 1
                      · subst hc
                        exact absurd hr0 (by omega)
                      · have hc' : ¬ 1 = c := fun e => hc e.symm
                        rw [if_neg hc] at HTV
                        go_enter Tryz.func100, Tryz.ntmps100
                        go_wp2_with fail
                        refine HA.out.mono ?_
                        rintro e w2 ⟨rfl, hb2⟩
                        have hf1 := W07.field_kind xa.num xa.up ⟨xa.name.toArray⟩ xa.kind ⟨xa.data.toArray⟩ w2
                        have hcell2 : w2.cell? ⟨b, o, none⟩ = some (.string s) := (hb2.cell hb1).trans hcell1
                        have y0 : w2.cell? ⟨w.heap.size, 0, none⟩ = some (.slice Au t.L.length cu) := (hb2.cell hs1).trans x0
                        have y1 : w2.cell? ⟨w.heap.size, 1, none⟩ = some (.int .i64 t.last) := (hb2.cell hs1).trans x1
                        go_wp2_with fail
                        refine (HCH.out w2).mono ?_
                        rintro e w3 ⟨rfl, rfl⟩
                        go_wp2_with fail
                        go_region_held3 (fun w' => w'.cell? ⟨w.heap.size, 0, none⟩ = some (.slice Au t.L.length cu) ∧ w'.cell? ⟨w.heap.size, 1, none⟩ = some (.int .i64 t.last) ∧ w'.cell? ⟨b, o, none⟩ = some (.string s) ∧ Below w1.heap.size w1 w')
                          (first | exact part_on hs1 hb1 (by assumption) hb4 | exact ⟨y0, y1, hcell2, hb2.drew⟩ | go_keep)
                          (first
                            | (go_at_call 51; refine (HIN.out _ (part_below (by assumption))).mono ?_; rintro e w4 ⟨rfl, hb4⟩))
                        obtain ⟨a0, a1, ac, hb4'⟩ := (by assumption : w4.cell? ⟨w.heap.size, 0, none⟩ = some (.slice Au t.L.length cu) ∧ w4.cell? ⟨w.heap.size, 1, none⟩ = some (.int .i64 t.last) ∧ w4.cell? ⟨b, o, none⟩ = some (.string s) ∧ Below w1.heap.size w1 w4)
                        clear hb4
                        go_wp2_with fail
                        refine (HAN.out w4 hb4').mono ?_
                        rintro e w5 ⟨rfl, hb5⟩
                        obtain ⟨w6, hw6⟩ : ∃ w', w5.alloc (.cells #[.int .i64 xn, .int .i64 xu, .string ⟨xm.toArray⟩, .int .i64 xk, .string ds] 69) = w' := ⟨_, rfl⟩
                        have hb6 : Below w5.heap.size w5 w6 := by rw [← hw6]; exact (Below.refl _ _).alloc (Nat.le_refl _) _
                        have HB6 := Lib.hid (on hb4' (on hb5 hb6))
                        have z3 : w6.cell? ⟨w5.heap.size, 3, none⟩ = some (.int .i64 xk) := by rw [← hw6]; simp
                        have z4 : w6.cell? ⟨w5.heap.size, 4, none⟩ = some (.string ds) := by rw [← hw6]; simp
                        have hsz : w1.heap.size ≤ w5.heap.size := (on hb4' hb5).size
                        have q0 : w6.cell? ⟨w.heap.size, 0, none⟩ = some (.slice Au t.L.length cu) := (hb6.cell (show w.heap.size < w5.heap.size by omega)).trans ((hb5.cell (show w.heap.size < w4.heap.size by have := hb4'.size; omega)).trans a0)
                        have q1 : w6.cell? ⟨w.heap.size, 1, none⟩ = some (.int .i64 t.last) := (hb6.cell (show w.heap.size < w5.heap.size by omega)).trans ((hb5.cell (show w.heap.size < w4.heap.size by have := hb4'.size; omega)).trans a1)
                        have hlt6 : w5.heap.size < w6.heap.size := by rw [← hw6]; simp
                        clear a0 a1 ac hb4' hb5 hb6 y0 y1 hcell2
                        go_wp2_with fail
                        have hwr : IntKind.i64.wrap ((hops : Int) + 1) = (hops : Int) + 1 := by rw [IntKind.wrap_i64]; omega
                        have hs6 : w.heap.size < w6.heap.size := by omega
                        go_region_held3 (fun w' => w'.cell? ⟨w.heap.size, 0, none⟩ = some (.slice Au t.L.length cu) ∧ w'.cell? ⟨w.heap.size, 1, none⟩ = some (.int .i64 t.last) ∧ w'.cell? ⟨w5.heap.size, 4, none⟩ = some (.string ds) ∧ Below w6.heap.size w6 w')
                          (first | exact kept3 hs6 hlt6 q0 q1 z4 B10 | exact kept3 hs6 hlt6 q0 q1 z4 B9 | exact kept3 hs6 hlt6 q0 q1 z4 B8 | exact kept3 hs6 hlt6 q0 q1 z4 B7 | exact ⟨q0, q1, z4, (Below.refl _ _).drew⟩ | go_keep)
                          (first
                            | (go_at_call 98; refine (HPT.out _).mono ?_; rintro e w7 ⟨v7, rfl, ho7, hb7⟩; have B7 : Below w6.heap.size w6 w7 := (Below.refl w6.heap.size w6).drew.trans hb7)
                            | (refine wp_append_recs (.const (.slice none 0 0)) (.tmp 97) 135 rfl w6.heap.size 9 i0 (.string ⟨#[]⟩) 1 16 Tryz.underlying135 HI.out hz0 hz1 hz2 rfl (by decide) (.slice none 0 0) 0 [] rfl (World.ownsRow_nil _ _ _ _) v7 PL w7.heap.size rfl (texts_recs (Texts.of_own ho7)) one_len one_one A1.out A2.out B7.size ?_; intro s8 w8 ho8 hg8 hq8; have B8 : Below w6.heap.size w6 w8 := B7.grown hg8 B7.size (fun k hk => by cases hk))
                            | (refine wp_append_recs (.tmp 98) (.tmp 100) 135 rfl w6.heap.size 9 i0 (.string ⟨#[]⟩) 1 16 Tryz.underlying135 HI.out hz0 hz1 hz2 rfl (by decide) s8 (0 + PL.length) _ rfl ho8 _ r w1.heap.size rfl (texts_recs (HTV.out w8 (on HB6.out B8))) one_len one_one A3.out A4.out B8.size ?_; intro s9 w9 ho9 hg9 hq9; have B9 : Below w6.heap.size w6 w9 := B8.grown hg9 B8.size (fun k hk => (ho8.lt k hk).1))
                            | (go_at_call 100; refine (HGA.out w9 s9 (on HB6.out B9) (texts_two ho9)).mono ?_; rintro e w10 ⟨rfl, hb10⟩; have B10 := on B9 hb10))
                        all_goals (
                          go_wp2_with fail
                          go_ret3
                          exact ⟨rfl, on HB1.out (on HB6.out B10)⟩)
        · rw [go_bad hkd hp hck]
          have tc : (check p != 0) = true := by simpa using hck
          generalize nodeAt t.L at_ = x at *
          generalize check p = cp at *
          clear hkd hp HRS HIH HL HAT
          go_enter Tryz.func100, Tryz.ntmps100
          go_wp2_with fail
          refine HA.out.mono ?_
          rintro e w2 ⟨rfl, hb2⟩
          have hf1 := W07.field_kind x.num x.up ⟨x.name.toArray⟩ x.kind ⟨x.data.toArray⟩ w2
          skip
          have hcell2 : w2.cell? ⟨b, o, none⟩ = some (.string s) := (hb2.cell (by show b < _; omega)).trans hcell1
          have y0 : w2.cell? ⟨w.heap.size, 0, none⟩ = some (.slice Au t.L.length cu) := (hb2.cell hs1).trans x0
          have y1 : w2.cell? ⟨w.heap.size, 1, none⟩ = some (.int .i64 t.last) := (hb2.cell hs1).trans x1
          go_wp2_with fail
          refine (HCH.out w2).mono ?_
          rintro e w3 ⟨rfl, rfl⟩
          go_wp2_with fail
          go_ret3
          exact ⟨rfl, on HB1.out hb2⟩
      -- %end
    · rw [go_no hkd]
      have hkd2 : ((nodeAt t.L at_).kind != 1) = true := by simpa using hkd
      have HA := Lib.hid (HAT.out w1 at_ (Below.refl _ _))
      unfold nodeV at HA
      generalize nodeAt t.L at_ = x at *
      clear hkd
      go_enter Tryz.func100, Tryz.ntmps100
      go_wp2_with fail
      refine HA.out.mono ?_
      rintro e w2 ⟨rfl, hb2⟩
      have hf1 := W07.field_kind x.num x.up ⟨x.name.toArray⟩ x.kind ⟨x.data.toArray⟩ w2
      go_wp2_with fail
      go_ret3
      exact ⟨rfl, on HB1.out hb2⟩
end Go.Proofs.YtmbpgjncioegdaaGreatDoor.W08
