/-
  Layer 7 (tree), a walk of the law's Same: a tree of the program's that reads as a right tree t, held against the plain answer's t: true; nothing that was there is changed.
-/
import Derived.Test.YtelphegeeiocnaaW07Abs
import Derived.Deep.RegionHeld3
namespace Go.Proofs.Ytelphegeeiocnaa.W07
open Go Go.RowKit Go.Proofs.Ytelphegeeiocnaa.Strs Go.Proofs.Ytelphegeeiocnaa.Recs Go.Proofs.Ytelphegeeiocnaa.M07 Go.Proofs.Ytelphegeeiocnaa.Range
open Go.Proofs.Ytelphegeeiocnaa.M06 (Ent)
open Go.Proofs.Ytelphegeeiocnaa.W06 (Ents HandsE)
open Go.Proofs.Ytelphegeeiocnaa.Kit (ret_str ret_bool ret_int mk_of mk_bytes ba_ext below_draws on)

theorem same_ents (va vb : Value) (L : List Ent) (B : Nat) (w : World) (ha : Ents B w va L) (hb : Ents B w vb L) :
    Calls Try.prog 36 #[va, vb] w fun e w' => e = .returned (.bool true) ∧ Below w.heap.size w w' :=
  (W06.refSame_any va vb L L B w ha hb).mono fun _ _ ⟨he, n, hw⟩ => ⟨by rw [he]; exact ret_bool (by simp), by rw [hw]; exact below_draws _ _⟩
/-- what is held of a node's box over calls that lay new memory alone -/
def HoldsNode (w6 : World) (p : Nat) (x : Nd) (w' : World) : Prop := w'.cell? ⟨p, 1, none⟩ = some (.int .i64 x.up) ∧ w'.cell? ⟨p, 3, none⟩ = some (.int .i64 x.kind) ∧ w'.cell? ⟨p, 4, none⟩ = some (.string ⟨x.data.toArray⟩) ∧ Below w6.heap.size w6 w'
theorem holds_on {w6 w' w'' : World} {p : Nat} {x : Nd} (hp : p < w6.heap.size) (h : w'.cell? ⟨p, 1, none⟩ = some (.int .i64 x.up) ∧ w'.cell? ⟨p, 3, none⟩ = some (.int .i64 x.kind) ∧ w'.cell? ⟨p, 4, none⟩ = some (.string ⟨x.data.toArray⟩) ∧ Below w6.heap.size w6 w') (hb : Below w'.heap.size w' w'') :
    w''.cell? ⟨p, 1, none⟩ = some (.int .i64 x.up) ∧ w''.cell? ⟨p, 3, none⟩ = some (.int .i64 x.kind) ∧ w''.cell? ⟨p, 4, none⟩ = some (.string ⟨x.data.toArray⟩) ∧ Below w6.heap.size w6 w'' := by
  obtain ⟨h1, h2, h3, h4⟩ := h
  have hlt : p < w'.heap.size := Nat.lt_of_lt_of_le hp h4.size
  exact ⟨(hb.cell hlt).trans h1, (hb.cell hlt).trans h2, (hb.cell hlt).trans h3, on h4 hb⟩
theorem holds_below {w6 w' : World} {p : Nat} {x : Nd} (h : w'.cell? ⟨p, 1, none⟩ = some (.int .i64 x.up) ∧ w'.cell? ⟨p, 3, none⟩ = some (.int .i64 x.kind) ∧ w'.cell? ⟨p, 4, none⟩ = some (.string ⟨x.data.toArray⟩) ∧ Below w6.heap.size w6 w') : Below w6.heap.size w6 w' := h.2.2.2

set_option maxHeartbeats 4000000 in
set_option maxRecDepth 100000 in
theorem same_tree {Rep : (Nat → Prop) → World → Value → Tr → Prop} (C : Trees Rep) {F : Nat → Prop} (w : World) {pv : Value} {t : Tr} (h : Rep F w pv t) (hs : Small t) (v : Value) (hn : Nodes w.heap.size w v t.L) :
    Calls Try.prog 14 #[pv, .agg #[v, .int .i64 t.last]] w fun e w' => e = .returned (.bool true) ∧ Below w.heap.size w w' := by
  obtain ⟨L, last⟩ := t
  obtain ⟨hs1, hs2⟩ := hs
  have hl1 : 1 ≤ last := by
    obtain ⟨r, hr⟩ := (C.right h).root
    have := (C.right h).ends ⟨1, 1, [], 1, []⟩ (by rw [hr]; exact List.mem_cons_self)
    exact this.2
  obtain ⟨w1, hw1⟩ : ∃ w', w.alloc (.cells #[v, .int .i64 last] 29) = w' := ⟨_, rfl⟩
  have hb1 : Below w.heap.size w w1 := by rw [← hw1]; exact below_one w _
  have hz1 : w1.heap.size = w.heap.size + 1 := by rw [← hw1]; exact World.alloc_size _ _
  have H1 := C.below h hb1
  have N1 := hn.below hb1
  have c0 : w1.cell? ⟨w.heap.size, 0, none⟩ = some v := by rw [← hw1]; exact cell_of_row _ _ 0 _ _ (0, 0) (heap_top _ _)
  have c1 : w1.cell? ⟨w.heap.size, 1, none⟩ = some (.int .i64 last) := by rw [← hw1]; exact cell_of_row _ _ 1 _ _ (0, 0) (heap_top _ _)
  have HLEN := Lib.hid (fun (w' : World) (hb : Below w1.heap.size w1 w') => C.len (C.below H1 hb) ⟨hs1, hs2⟩)
  have HKIND := Lib.hid (fun (n : Int) (w' : World) (hb : Below w1.heap.size w1 w') => C.kind (C.below H1 hb) ⟨hs1, hs2⟩ n)
  have HDATA := Lib.hid (fun (n : Int) (w' : World) (hb : Below w1.heap.size w1 w') => C.data (C.below H1 hb) ⟨hs1, hs2⟩ n)
  have HUP := Lib.hid (fun (n : Int) (w' : World) (hb : Below w1.heap.size w1 w') => C.up (C.below H1 hb) ⟨hs1, hs2⟩ n)
  have HLIST := Lib.hid (fun (n : Int) (w' : World) (hb : Below w1.heap.size w1 w') => C.list (C.below H1 hb) ⟨hs1, hs2⟩ n)
  have HAT := Lib.hid (fun (n : Int) (w' : World) (hb : Below w1.heap.size w1 w') => refAt_any v L last n w.heap.size w' (N1.below (hb.mono hb1.size)) (Nat.le_trans hb1.size hb.size) (by show L.length ≤ _; have : L.length ≤ 1048576 := hs1; omega))
  have HREF := Lib.hid (fun (n : Int) (w' : World) (hb : Below w1.heap.size w1 w') => refList_any v L last n w.heap.size w' (N1.below (hb.mono hb1.size)) (Nat.le_trans hb1.size hb.size) (by show L.length ≤ _; have : L.length ≤ 1048576 := hs1; omega))
  have HB1 := Lib.hid hb1
  obtain ⟨A, c, rfl, hA1, hA2⟩ := hn.form
  unfold maxLen at hA2
  clear h hn H1 N1 hb1
  have hp1 : w.heap.size < w1.heap.size := by omega
  go_enter Try.func14, Try.ntmps14
  go_wp2_with fail
  go_region_held3 (fun w' => w'.cell? ⟨w.heap.size, 0, none⟩ = some (.slice A L.length c) ∧ w'.cell? ⟨w.heap.size, 1, none⟩ = some (.int .i64 last) ∧ Below w1.heap.size w1 w')
    (first | exact ⟨(hb2.cell (show w.heap.size < w1.heap.size by omega)).trans c0, (hb2.cell (show w.heap.size < w1.heap.size by omega)).trans c1, (below_draws w1 1).trans hb2⟩ | exact ⟨c0, c1, below_draws w1 1⟩ | go_keep)
    (first | (go_at_call 18; refine (HLEN.out _ (below_draws w1 1)).mono ?_; rintro e w2 ⟨rfl, hb2⟩))
  have B2 := Lib.hid ((below_draws w1 1).trans hb2)
  clear hb2
  obtain ⟨d0, d1, -⟩ : w2.cell? ⟨w.heap.size, 0, none⟩ = some (.slice A L.length c) ∧ w2.cell? ⟨w.heap.size, 1, none⟩ = some (.int .i64 last) ∧ Below w1.heap.size w1 w2 := by assumption
  clear c0 c1
  have hwr : IntKind.i64.wrap (last + 1) = last + 1 := wrap_next (by omega) (by have : last ≤ 1048576 := hs2; omega)
  have hs3 : last ≤ 1048576 := hs2
  go_wp2_with fail
  go_loopw [5] (fun s5 wr => ∃ k : Int, s5 = .int .i64 k ∧ -1 ≤ k ∧ k ≤ last + 2 ∧ wr.cell? ⟨w.heap.size, 0, none⟩ = some (.slice A L.length c) ∧ wr.cell? ⟨w.heap.size, 1, none⟩ = some (.int .i64 last) ∧ Hid (Below w1.heap.size w1 wr)) (fun s5 _ => (last + 2 - intOf s5).toNat)
  case atStart => exact ⟨-1, rfl, by omega, by omega, d0, d1, B2⟩
  case round =>
    clear d0 d1 B2
    obtain ⟨k, rfl, hk1, hk2, d0, d1, B3⟩ := hrel
    have hz3 := B3.out.size
    by_cases hk : k ≤ last + 1
    · have HA := Lib.hid (HAT.out k)
      have HK := Lib.hid (HKIND.out k)
      have HDD := Lib.hid (HDATA.out k)
      have HU := Lib.hid (HUP.out k)
      have HL := Lib.hid (HLIST.out k)
      have HR := Lib.hid (HREF.out k)
      have HLE : Hid (listed ⟨L, last⟩ k = if (nodeAt L k).kind = 1 then listDir L k else []) := rfl
      generalize nodeAt L k = x at *
      generalize listed ⟨L, last⟩ k = E at *
      generalize listDir L k = E2 at *
      have hwk : IntKind.i64.wrap (k + 1) = k + 1 := wrap_next (by omega) (by omega)
      unfold nodeV at HA
      go_wp2_with fail
      refine (HA.out _ B3.out).mono ?_
      rintro e w4 ⟨rfl, hb4⟩
      have B4 := Lib.hid (on B3.out hb4)
      have e0 := (hb4.cell (show w.heap.size < wr.heap.size by omega)).trans d0
      have e1 := (hb4.cell (show w.heap.size < wr.heap.size by omega)).trans d1
      clear hb4 d0 d1 B3
      obtain ⟨w5, hw5⟩ : ∃ w', w4.alloc (.cells #[.int .i64 x.num, .int .i64 x.up, .string ⟨x.name.toArray⟩, .int .i64 x.kind, .string ⟨x.data.toArray⟩] 56) = w' := ⟨_, rfl⟩
      have NB : NodeBox w5 w4.heap.size x := by rw [← hw5]; exact NodeBox.new w4 x
      have hb5 : Below w4.heap.size w4 w5 := by rw [← hw5]; exact below_one w4 _
      have B5 := Lib.hid (on B4.out hb5)
      have hz4 := B4.out.size
      have f0 := (hb5.cell (show w.heap.size < w4.heap.size by omega)).trans e0
      have f1 := (hb5.cell (show w.heap.size < w4.heap.size by omega)).trans e1
      obtain ⟨p, hpe⟩ : ∃ p, w4.heap.size = p := ⟨_, rfl⟩
      rw [hpe] at NB
      have q1 := NB.c1
      have q3 := NB.c3
      have q4 := NB.c4
      have hp5 := NB.lt
      have NBH := Lib.hid NB
      clear hb5 e0 e1 NB hz4 B4
      go_wp2_with fail
      go_region_held3 (fun w' => w'.cell? ⟨p, 1, none⟩ = some (.int .i64 x.up) ∧ w'.cell? ⟨p, 3, none⟩ = some (.int .i64 x.kind) ∧ w'.cell? ⟨p, 4, none⟩ = some (.string ⟨x.data.toArray⟩) ∧ Below w5.heap.size w5 w')
        (first | exact holds_on hp5 (by assumption) hb8 | exact holds_on hp5 (by assumption) hb7 | exact holds_on hp5 (by assumption) hb6 | exact ⟨q1, q3, q4, below_draws w5 1⟩ | go_keep)
        (first
          | (go_at_call 17; refine (HK.out _ (on B5.out (holds_below (by assumption)))).mono ?_; rintro e w6 ⟨rfl, hb6⟩)
          | (go_at_call 21; refine (HDD.out _ (on B5.out (holds_below (by assumption)))).mono ?_; rintro e w7 ⟨rfl, hb7⟩)
          | (go_at_call 16; refine (HU.out _ (on B5.out (holds_below (by assumption)))).mono ?_; rintro e w8 ⟨rfl, hb8⟩))
      all_goals (
        obtain ⟨-, s3, -, sb⟩ : w8.cell? ⟨p, 1, none⟩ = some (.int .i64 x.up) ∧ w8.cell? ⟨p, 3, none⟩ = some (.int .i64 x.kind) ∧ w8.cell? ⟨p, 4, none⟩ = some (.string ⟨x.data.toArray⟩) ∧ Below w5.heap.size w5 w8 := by assumption
        have hz5 := B5.out.size
        have g0 := (sb.cell (show w.heap.size < w5.heap.size by omega)).trans f0
        have g1 := (sb.cell (show w.heap.size < w5.heap.size by omega)).trans f1
        have B8 := Lib.hid (on B5.out sb)
        have hp8 : p < w8.heap.size := Nat.lt_of_lt_of_le hp5 sb.size
        have hz8 := B8.out.size
        clear hb6 hb7 hb8 f0 f1 q1 q3 q4 sb B5 NBH
        clear HLEN HKIND HDATA HUP HLIST HAT HREF HK HDD HU hpe hw5 hw1
        go_wp2_with fail
        refine (HR.out _ B8.out).mono ?_
        rintro e w9 ⟨v2, rfl, ht9, hb9⟩
        have T2 := Lib.hid ht9
        have s3' := (hb9.cell hp8).trans s3
        have g0' := (hb9.cell (show w.heap.size < w8.heap.size by omega)).trans g0
        have g1' := (hb9.cell (show w.heap.size < w8.heap.size by omega)).trans g1
        have B9 := Lib.hid (on B8.out hb9)
        have hz9 : w8.heap.size ≤ w9.heap.size := hb9.size
        clear ht9 hb9 s3 g0 g1
        by_cases kx : x.kind = 1
        · have tx : (x.kind != 1) = false := by simp [kx]
          have HEE : Hid (E = E2) := HLE.out.trans (if_pos kx)
          clear kx HLE
          go_wp2_with fail
          refine (HL.out _ B9.out).mono ?_
          rintro e w10 ⟨v1, rfl, ht10, hb10⟩
          have T1 : Hid (Ents w10.heap.size w10 v1 E2) := by rw [← HEE.out]; exact ht10
          have T3 := Lib.hid ((T2.out.below hb10).more hb10.size)
          have h0 := (hb10.cell (show w.heap.size < w9.heap.size by omega)).trans g0'
          have h1 := (hb10.cell (show w.heap.size < w9.heap.size by omega)).trans g1'
          have B10 := Lib.hid (on B9.out hb10)
          have hz10 : w9.heap.size ≤ w10.heap.size := hb10.size
          clear ht10 hb10
          go_wp2_with fail
          refine (same_ents v1 v2 E2 _ _ T1.out T3.out).mono ?_
          rintro e w11 ⟨rfl, hb11⟩
          have i0 := (hb11.cell (show w.heap.size < w10.heap.size by omega)).trans h0
          have i1 := (hb11.cell (show w.heap.size < w10.heap.size by omega)).trans h1
          have B11 := Lib.hid (on B10.out hb11)
          clear hb11
          go_wp2_with fail
          go_roundw
          case rel => exact ⟨k + 1, rfl, by omega, by omega, i0, i1, B11⟩
          case measure => simp [intOf]; omega
        · have tx : (x.kind != 1) = true := by simpa using kx
          have HEE : Hid (E = []) := HLE.out.trans (if_neg kx)
          clear kx HLE
          go_wp2_with fail
          refine (HL.out _ B9.out).mono ?_
          rintro e w10 ⟨v1, rfl, ht10, hb10⟩
          have T1 : Hid (Ents w10.heap.size w10 v1 []) := by rw [← HEE.out]; exact ht10
          have h0 := (hb10.cell (show w.heap.size < w9.heap.size by omega)).trans g0'
          have h1 := (hb10.cell (show w.heap.size < w9.heap.size by omega)).trans g1'
          have B10 := Lib.hid (on B9.out hb10)
          have hz10 : w9.heap.size ≤ w10.heap.size := hb10.size
          clear ht10 hb10
          go_wp2_with fail
          refine (same_ents v1 (.slice none 0 0) [] _ _ T1.out (recs_nil _ _ _ _)).mono ?_
          rintro e w11 ⟨rfl, hb11⟩
          have i0 := (hb11.cell (show w.heap.size < w10.heap.size by omega)).trans h0
          have i1 := (hb11.cell (show w.heap.size < w10.heap.size by omega)).trans h1
          have B11 := Lib.hid (on B10.out hb11)
          clear hb11
          go_wp2_with fail
          go_roundw
          case rel => exact ⟨k + 1, rfl, by omega, by omega, i0, i1, B11⟩
          case measure => simp [intOf]; omega)
    · go_wp2_with fail
      go_ret
      exact ⟨rfl, on HB1.out B3.out⟩
end Go.Proofs.Ytelphegeeiocnaa.W07
