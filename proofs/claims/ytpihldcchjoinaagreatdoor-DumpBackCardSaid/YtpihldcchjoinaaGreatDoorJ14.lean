/-
  Texts joined, in build order, each with its own comment and its own conditions: W07Same, W07Do, W09Ref, W09Put.
-/
import Derived.Test.YtpihldcchjoinaaGreatDoorJ08
import Derived.Deep.RegionHeld3
import Derived.Test.YtpihldcchjoinaaGreatDoorJ13
import Derived.Test.YtpihldcchjoinaaGreatDoorJ07
/-
  Layer 7 (tree), a walk of the law's Same: a tree of the program's that reads as a right tree t, held against the plain answer's t: true; nothing that was there is changed.
-/
namespace Go.Proofs.YtpihldcchjoinaaGreatDoor.W07
set_option maxRecDepth 100000
open Go Go.RowKit Go.Proofs.YtpihldcchjoinaaGreatDoor.Strs Go.Proofs.YtpihldcchjoinaaGreatDoor.Recs Go.Proofs.YtpihldcchjoinaaGreatDoor.M07 Go.Proofs.YtpihldcchjoinaaGreatDoor.Range
open Go.Proofs.YtpihldcchjoinaaGreatDoor.M06 (Ent)
open Go.Proofs.YtpihldcchjoinaaGreatDoor.W06 (Ents HandsE)
open Go.Proofs.YtpihldcchjoinaaGreatDoor.Kit (ret_str ret_bool ret_int mk_of mk_bytes ba_ext below_draws on)

theorem same_ents (va vb : Value) (L : List Ent) (B : Nat) (w : World) (ha : Ents B w va L) (hb : Ents B w vb L) :
    Calls Tryz.prog 46 #[va, vb] w fun e w' => e = .returned (.bool true) ∧ Below w.heap.size w w' :=
  (W06.refSame_any va vb L L B w ha hb).mono fun _ _ ⟨he, n, hw⟩ => ⟨by rw [he]; exact ret_bool (by simp), by rw [hw]; exact below_draws _ _⟩
theorem holds_on {w6 w' w'' : World} {p : Nat} {x : Nd} (hp : p < w6.heap.size) (h : w'.cell? ⟨p, 1, none⟩ = some (.int .i64 x.up) ∧ w'.cell? ⟨p, 3, none⟩ = some (.int .i64 x.kind) ∧ w'.cell? ⟨p, 4, none⟩ = some (.string ⟨x.data.toArray⟩) ∧ Below w6.heap.size w6 w') (hb : Below w'.heap.size w' w'') :
    w''.cell? ⟨p, 1, none⟩ = some (.int .i64 x.up) ∧ w''.cell? ⟨p, 3, none⟩ = some (.int .i64 x.kind) ∧ w''.cell? ⟨p, 4, none⟩ = some (.string ⟨x.data.toArray⟩) ∧ Below w6.heap.size w6 w'' := by
  obtain ⟨h1, h2, h3, h4⟩ := h
  have hlt : p < w'.heap.size := Nat.lt_of_lt_of_le hp h4.size
  exact ⟨(hb.cell hlt).trans h1, (hb.cell hlt).trans h2, (hb.cell hlt).trans h3, on h4 hb⟩
theorem holds_below {w6 w' : World} {p : Nat} {x : Nd} (h : w'.cell? ⟨p, 1, none⟩ = some (.int .i64 x.up) ∧ w'.cell? ⟨p, 3, none⟩ = some (.int .i64 x.kind) ∧ w'.cell? ⟨p, 4, none⟩ = some (.string ⟨x.data.toArray⟩) ∧ Below w6.heap.size w6 w') : Below w6.heap.size w6 w' := h.2.2.2

set_option maxHeartbeats 4000000 in
set_option maxRecDepth 100000 in
theorem same_tree {Rep : (Nat → Prop) → World → Value → Tr → Prop} (C : Trees Rep) {F : Nat → Prop} (w : World) {pv : Value} {t : Tr} (h : Rep F w pv t) (hs : Small t) (v : Value) (hn : Nodes w.heap.size w v t.L) :
    Calls Tryz.prog 19 #[pv, .agg #[v, .int .i64 t.last]] w fun e w' => e = .returned (.bool true) ∧ Below w.heap.size w w' := by
  obtain ⟨L, last⟩ := t
  obtain ⟨hs1, hs2⟩ := hs
  have hl1 : 1 ≤ last := by
    obtain ⟨r, hr⟩ := (C.right h).root
    have := (C.right h).ends ⟨1, 1, [], 1, []⟩ (by rw [hr]; exact List.mem_cons_self)
    exact this.2
  obtain ⟨w1, hw1⟩ : ∃ w', w.alloc (.cells #[v, .int .i64 last] 28) = w' := ⟨_, rfl⟩
  have hb1 : Below w.heap.size w w1 := by rw [← hw1]; exact below_one w _
  have hz1 : w1.heap.size = w.heap.size + 1 := by rw [← hw1]; exact World.alloc_size _ _
  have H1 := C.below h hb1
  have N1 := hn.below hb1
  have c0 : w1.cell? ⟨w.heap.size, 0, none⟩ = some v := by rw [← hw1]; exact cell_of_row _ _ 0 _ _ (0, 0) (heap_top _ _)
  have c1 : w1.cell? ⟨w.heap.size, 1, none⟩ = some (.int .i64 last) := by rw [← hw1]; exact cell_of_row _ _ 1 _ _ (0, 0) (heap_top _ _)
  have HLEN := Lib.hid (fun (w' : World) (hb : Below w1.heap.size w1 w') => C.len (C.below H1 hb) ⟨hs1, hs2⟩)
  have HKIND := Lib.hid (fun (n : Int) (w' : World) (hb : Below w1.heap.size w1 w') => C.kind (C.below H1 hb) ⟨hs1, hs2⟩ n)
  have HDATA := Lib.hid (fun (n : Int) (w' : World) (hb : Below w1.heap.size w1 w') => C.data (C.below H1 hb) ⟨hs1, hs2⟩ n)
  have HUP := Lib.hid (fun (n : Int) (w' : World) (hb : Below w1.heap.size w1 w') => C.up (C.below H1 hb) ⟨hs1, hs2⟩ n)
  have HLIST := Lib.hid (fun (n : Int) (w' : World) (hb : Below w1.heap.size w1 w') => C.list (C.below H1 hb) ⟨hs1, hs2⟩ n)
  have HAT := Lib.hid (fun (n : Int) (w' : World) (hb : Below w1.heap.size w1 w') => refAt_any v L last n w.heap.size w' (N1.below (hb.mono hb1.size)) (Nat.le_trans hb1.size hb.size) (by show L.length ≤ _; have : L.length ≤ 1048576 := hs1; omega))
  have HREF := Lib.hid (fun (n : Int) (w' : World) (hb : Below w1.heap.size w1 w') => refList_any v L last n w.heap.size w' (N1.below (hb.mono hb1.size)) (Nat.le_trans hb1.size hb.size) (by show L.length ≤ _; have : L.length ≤ 1048576 := hs1; omega))
  have HB1 := Lib.hid hb1
  obtain ⟨A, c, rfl, hA1, hA2⟩ := hn.form
  unfold maxLen at hA2
  clear h hn H1 N1 hb1
  have hp1 : w.heap.size < w1.heap.size := by omega
  go_enter Tryz.func19, Tryz.ntmps19
  go_wp2_with fail
  go_region_held3 (fun w' => w'.cell? ⟨w.heap.size, 0, none⟩ = some (.slice A L.length c) ∧ w'.cell? ⟨w.heap.size, 1, none⟩ = some (.int .i64 last) ∧ Below w1.heap.size w1 w')
    (first | exact ⟨(hb2.cell (show w.heap.size < w1.heap.size by omega)).trans c0, (hb2.cell (show w.heap.size < w1.heap.size by omega)).trans c1, (below_draws w1 1).trans hb2⟩ | exact ⟨c0, c1, below_draws w1 1⟩ | go_keep)
    (first | (go_at_call 40; refine (HLEN.out _ (below_draws w1 1)).mono ?_; rintro e w2 ⟨rfl, hb2⟩))
  have B2 := Lib.hid ((below_draws w1 1).trans hb2)
  clear hb2
  obtain ⟨d0, d1, -⟩ : w2.cell? ⟨w.heap.size, 0, none⟩ = some (.slice A L.length c) ∧ w2.cell? ⟨w.heap.size, 1, none⟩ = some (.int .i64 last) ∧ Below w1.heap.size w1 w2 := by assumption
  clear c0 c1
  have hwr : IntKind.i64.wrap (last + 1) = last + 1 := wrap_next (by omega) (by have : last ≤ 1048576 := hs2; omega)
  have hs3 : last ≤ 1048576 := hs2
  go_wp2_with fail
  go_loopw [5] (fun s5 wr => ∃ k : Int, s5 = .int .i64 k ∧ -1 ≤ k ∧ k ≤ last + 2 ∧ wr.cell? ⟨w.heap.size, 0, none⟩ = some (.slice A L.length c) ∧ wr.cell? ⟨w.heap.size, 1, none⟩ = some (.int .i64 last) ∧ Hid (Below w1.heap.size w1 wr)) (fun s5 _ => (last + 2 - intOf s5).toNat)
  case atStart => exact ⟨-1, rfl, by omega, by omega, d0, d1, B2⟩
  case round =>
    clear d0 d1 B2
    obtain ⟨k, rfl, hk1, hk2, d0, d1, B3⟩ := hrel
    have hz3 := B3.out.size
    by_cases hk : k ≤ last + 1
    · have HA := Lib.hid (HAT.out k)
      have HK := Lib.hid (HKIND.out k)
      have HDD := Lib.hid (HDATA.out k)
      have HU := Lib.hid (HUP.out k)
      have HL := Lib.hid (HLIST.out k)
      have HR := Lib.hid (HREF.out k)
      have HLE : Hid (listed ⟨L, last⟩ k = if (nodeAt L k).kind = 1 then listDir L k else []) := rfl
      generalize nodeAt L k = x at *
      generalize listed ⟨L, last⟩ k = E at *
      generalize listDir L k = E2 at *
      have hwk : IntKind.i64.wrap (k + 1) = k + 1 := wrap_next (by omega) (by omega)
      unfold nodeV at HA
      go_wp2_with fail
      refine (HA.out _ B3.out).mono ?_
      rintro e w4 ⟨rfl, hb4⟩
      have B4 := Lib.hid (on B3.out hb4)
      have e0 := (hb4.cell (show w.heap.size < wr.heap.size by omega)).trans d0
      have e1 := (hb4.cell (show w.heap.size < wr.heap.size by omega)).trans d1
      clear hb4 d0 d1 B3
      obtain ⟨w5, hw5⟩ : ∃ w', w4.alloc (.cells #[.int .i64 x.num, .int .i64 x.up, .string ⟨x.name.toArray⟩, .int .i64 x.kind, .string ⟨x.data.toArray⟩] 77) = w' := ⟨_, rfl⟩
      have NB : NodeBox w5 w4.heap.size x := by rw [← hw5]; exact NodeBox.new w4 x
      have hb5 : Below w4.heap.size w4 w5 := by rw [← hw5]; exact below_one w4 _
      have B5 := Lib.hid (on B4.out hb5)
      have hz4 := B4.out.size
      have f0 := (hb5.cell (show w.heap.size < w4.heap.size by omega)).trans e0
      have f1 := (hb5.cell (show w.heap.size < w4.heap.size by omega)).trans e1
      obtain ⟨p, hpe⟩ : ∃ p, w4.heap.size = p := ⟨_, rfl⟩
      rw [hpe] at NB
      have q1 := NB.c1
      have q3 := NB.c3
      have q4 := NB.c4
      have hp5 := NB.lt
      have NBH := Lib.hid NB
      clear hb5 e0 e1 NB hz4 B4
      go_wp2_with fail
      go_region_held3 (fun w' => w'.cell? ⟨p, 1, none⟩ = some (.int .i64 x.up) ∧ w'.cell? ⟨p, 3, none⟩ = some (.int .i64 x.kind) ∧ w'.cell? ⟨p, 4, none⟩ = some (.string ⟨x.data.toArray⟩) ∧ Below w5.heap.size w5 w')
        (first | exact holds_on hp5 (by assumption) hb8 | exact holds_on hp5 (by assumption) hb7 | exact holds_on hp5 (by assumption) hb6 | exact ⟨q1, q3, q4, below_draws w5 1⟩ | go_keep)
        (first
          | (go_at_call 42; refine (HK.out _ (on B5.out (holds_below (by assumption)))).mono ?_; rintro e w6 ⟨rfl, hb6⟩)
          | (go_at_call 43; refine (HDD.out _ (on B5.out (holds_below (by assumption)))).mono ?_; rintro e w7 ⟨rfl, hb7⟩)
          | (go_at_call 44; refine (HU.out _ (on B5.out (holds_below (by assumption)))).mono ?_; rintro e w8 ⟨rfl, hb8⟩))
      all_goals (
        obtain ⟨-, s3, -, sb⟩ : w8.cell? ⟨p, 1, none⟩ = some (.int .i64 x.up) ∧ w8.cell? ⟨p, 3, none⟩ = some (.int .i64 x.kind) ∧ w8.cell? ⟨p, 4, none⟩ = some (.string ⟨x.data.toArray⟩) ∧ Below w5.heap.size w5 w8 := by assumption
        have hz5 := B5.out.size
        have g0 := (sb.cell (show w.heap.size < w5.heap.size by omega)).trans f0
        have g1 := (sb.cell (show w.heap.size < w5.heap.size by omega)).trans f1
        have B8 := Lib.hid (on B5.out sb)
        have hp8 : p < w8.heap.size := Nat.lt_of_lt_of_le hp5 sb.size
        have hz8 := B8.out.size
        clear hb6 hb7 hb8 f0 f1 q1 q3 q4 sb B5 NBH
        clear HLEN HKIND HDATA HUP HLIST HAT HREF HK HDD HU hpe hw5 hw1
        go_wp2_with fail
        refine (HR.out _ B8.out).mono ?_
        rintro e w9 ⟨v2, rfl, ht9, hb9⟩
        have T2 := Lib.hid ht9
        have s3' := (hb9.cell hp8).trans s3
        have g0' := (hb9.cell (show w.heap.size < w8.heap.size by omega)).trans g0
        have g1' := (hb9.cell (show w.heap.size < w8.heap.size by omega)).trans g1
        have B9 := Lib.hid (on B8.out hb9)
        have hz9 : w8.heap.size ≤ w9.heap.size := hb9.size
        clear ht9 hb9 s3 g0 g1
        by_cases kx : x.kind = 1
        · have tx : (x.kind != 1) = false := by simp [kx]
          have HEE : Hid (E = E2) := HLE.out.trans (if_pos kx)
          clear kx HLE
          go_wp2_with fail
          refine (HL.out _ B9.out).mono ?_
          rintro e w10 ⟨v1, rfl, ht10, hb10⟩
          have T1 : Hid (Ents w10.heap.size w10 v1 E2) := by rw [← HEE.out]; exact ht10
          have T3 := Lib.hid ((T2.out.below hb10).more hb10.size)
          have h0 := (hb10.cell (show w.heap.size < w9.heap.size by omega)).trans g0'
          have h1 := (hb10.cell (show w.heap.size < w9.heap.size by omega)).trans g1'
          have B10 := Lib.hid (on B9.out hb10)
          have hz10 : w9.heap.size ≤ w10.heap.size := hb10.size
          clear ht10 hb10
          go_wp2_with fail
          refine (same_ents v1 v2 E2 _ _ T1.out T3.out).mono ?_
          rintro e w11 ⟨rfl, hb11⟩
          have i0 := (hb11.cell (show w.heap.size < w10.heap.size by omega)).trans h0
          have i1 := (hb11.cell (show w.heap.size < w10.heap.size by omega)).trans h1
          have B11 := Lib.hid (on B10.out hb11)
          clear hb11
          go_wp2_with fail
          go_roundw
          case rel => exact ⟨k + 1, rfl, by omega, by omega, i0, i1, B11⟩
          case measure => simp [intOf]; omega
        · have tx : (x.kind != 1) = true := by simpa using kx
          have HEE : Hid (E = []) := HLE.out.trans (if_neg kx)
          clear kx HLE
          go_wp2_with fail
          refine (HL.out _ B9.out).mono ?_
          rintro e w10 ⟨v1, rfl, ht10, hb10⟩
          have T1 : Hid (Ents w10.heap.size w10 v1 []) := by rw [← HEE.out]; exact ht10
          have h0 := (hb10.cell (show w.heap.size < w9.heap.size by omega)).trans g0'
          have h1 := (hb10.cell (show w.heap.size < w9.heap.size by omega)).trans g1'
          have B10 := Lib.hid (on B9.out hb10)
          have hz10 : w9.heap.size ≤ w10.heap.size := hb10.size
          clear ht10 hb10
          go_wp2_with fail
          refine (same_ents v1 (.slice none 0 0) [] _ _ T1.out (recs_nil _ _ _ _)).mono ?_
          rintro e w11 ⟨rfl, hb11⟩
          have i0 := (hb11.cell (show w.heap.size < w10.heap.size by omega)).trans h0
          have i1 := (hb11.cell (show w.heap.size < w10.heap.size by omega)).trans h1
          have B11 := Lib.hid (on B10.out hb11)
          clear hb11
          go_wp2_with fail
          go_roundw
          case rel => exact ⟨k + 1, rfl, by omega, by omega, i0, i1, B11⟩
          case measure => simp [intOf]; omega)
    · go_wp2_with fail
      go_ret
      exact ⟨rfl, on HB1.out B3.out⟩
end Go.Proofs.YtpihldcchjoinaaGreatDoor.W07
/-
  Layer 7 (tree), a walk of the law's do: an act done to a tree of the program's, and to the plain answer's tree, comes to the same; nothing that was there is changed but the tree's own blocks.
-/
namespace Go.Proofs.YtpihldcchjoinaaGreatDoor.W07
open Go Go.RowKit Go.Proofs.YtpihldcchjoinaaGreatDoor.Strs Go.Proofs.YtpihldcchjoinaaGreatDoor.Recs Go.Proofs.YtpihldcchjoinaaGreatDoor.M07 Go.Proofs.YtpihldcchjoinaaGreatDoor.Range
open Go.Proofs.YtpihldcchjoinaaGreatDoor.M06 (Ent)
open Go.Proofs.YtpihldcchjoinaaGreatDoor.Kit (ret_str ret_bool ret_int mk_of mk_bytes ba_ext below_draws on)

/-- a slice's own block is none of F -/
def Off (F : Nat → Prop) (u : Value) : Prop := ∀ b o n c, u = .slice (some ⟨b, o, none⟩) n c → ¬ F b
theorem nodes_turns {F : Nat → Prop} {B : Nat} {w w' : World} {v : Value} {L : List Nd} (h : Nodes B w v L) (ht : Turns F w w') (hoff : Off F v) : Nodes B w' v L := by
  by_cases h0 : 0 < L.length
  · obtain ⟨A, c, rfl, h1, h2⟩ := h.form
    obtain ⟨b, o, _, rfl, hb, hc0, _⟩ := Nodes.at_ h h0
    have hlt := World.block_lt_of_cell? w _ hc0
    exact Recs.other h fun p hp => World.cell?_of_block (ht.block _ (by rw [hp]; exact hlt) (by rw [hp]; exact hoff _ _ _ _ rfl))
  · have e : L = [] := List.length_eq_zero_iff.1 (by omega)
    subst e
    obtain ⟨A, c, rfl, h1, h2, h3⟩ := h
    exact ⟨A, c, rfl, h1, h2, fun h => absurd h (by simp)⟩
theorem off_same {F F' : Nat → Prop} {v : Value} {L : List Nd} {n0 : Nat} {w : World} (hn : Nodes n0 w v L) (h0 : 0 < L.length) (hv : Off F v) (hF : ∀ k, F' k → F k ∨ n0 ≤ k) : Off F' v := by
  obtain ⟨A, c, rfl, h1, h2⟩ := hn.form
  obtain ⟨b, o, _, rfl, hb, _⟩ := Nodes.at_ hn h0
  intro b' o' n' c' e hk
  cases e
  rcases hF _ hk with h | h
  · exact hv _ _ _ _ rfl h
  · omega
theorem off_from {F : Nat → Prop} {v u : Value} {S : Nat} (hv : Off F v) (hS : ∀ k, F k → k < S) (hf : FromOr v S u) : Off F u := by
  rcases hf with rfl | rfl | ⟨g, n, c, rfl, hg⟩
  · exact hv
  · intro b o n c e; cases e
  · intro b o n' c' e hk
    cases e
    have := hS _ hk
    omega
/-- a box of a plain tree -/
def TreeBox (w : World) (p : Nat) (v : Value) (last : Int) : Prop := w.heap[p]? = some (.cells #[v, .int .i64 last] 28 (0, 0))
section
variable {w w' : World} {p : Nat} {v : Value} {last act dir dst kind : Int} {nm al dt : ByteArray}
theorem TreeBox.lt (h : TreeBox w p v last) : p < w.heap.size := (Array.getElem?_eq_some_iff.1 h).1
theorem TreeBox.below (h : TreeBox w p v last) (hb : Below w.heap.size w w') : TreeBox w' p v last := (hb.block _ h.lt).trans h
theorem TreeBox.turns {F : Nat → Prop} (h : TreeBox w p v last) (ht : Turns F w w') (hp : ¬ F p) : TreeBox w' p v last := ht.keeps h hp
theorem TreeBox.c0 (h : TreeBox w p v last) : w.cell? ⟨p, 0, none⟩ = some v := cell_of_row w _ 0 _ _ (0, 0) h
theorem TreeBox.c1 (h : TreeBox w p v last) : w.cell? ⟨p, 1, none⟩ = some (.int .i64 last) := cell_of_row w _ 1 _ _ (0, 0) h
theorem TreeBox.fr (h : TreeBox w p v last) (j : Nat) : w.frozen? ⟨p, j, none⟩ = false := frozen_of_row w _ j _ _ h
end
theorem turns_box (w : World) (q : Nat) (a b : Value) : Turns (fun k => k = q) w ((w.setCell ⟨q, 0, none⟩ a).setCell ⟨q, 1, none⟩ b) :=
  (Turns.setCell (T := fun k => k = q) (a := ⟨q, 0, none⟩) a rfl).trans (Turns.setCell (T := fun k => k = q) (a := ⟨q, 1, none⟩) b rfl)
end Go.Proofs.YtpihldcchjoinaaGreatDoor.W07
/-
  Layer 9 (posix), walks: the plain answers Stat, Data, List; new memory may be laid, nothing that was there is changed. The conditions stand in the statements.
-/
namespace Go.Proofs.YtpihldcchjoinaaGreatDoor.W09
open Go Go.RowKit Go.Proofs.YtpihldcchjoinaaGreatDoor.Strs Go.Proofs.YtpihldcchjoinaaGreatDoor.Recs Go.Proofs.YtpihldcchjoinaaGreatDoor.Range
open Go.Proofs.YtpihldcchjoinaaGreatDoor.M07 (Tr Nd nodeAt inDir Right listDir)
open Go.Proofs.YtpihldcchjoinaaGreatDoor.M08 Go.Proofs.YtpihldcchjoinaaGreatDoor.M09
open Go.Proofs.YtpihldcchjoinaaGreatDoor.W07 (Nodes nodeV TreeBox refAt_any refList_any heap_two_a heap_two_b heap_top)

open Go.Proofs.YtpihldcchjoinaaGreatDoor.W06 (Ents)
open Go.Proofs.YtpihldcchjoinaaGreatDoor.Kit (ret_str ret_bool ret_int mk_of mk_bytes ba_ext below_draws on)

/-- a box of what is told of a node -/
def StatBox (w : World) (p : Nat) (a b c : Int) : Prop := w.heap[p]? = some (.cells #[.int .i64 a, .int .i64 b, .int .i64 c] 119 (0, 0))
/-- a box of a plain node -/
def NdBox (w : World) (p : Nat) (x : Nd) : Prop := w.heap[p]? = some (.cells #[.int .i64 x.num, .int .i64 x.up, .string ⟨x.name.toArray⟩, .int .i64 x.kind, .string ⟨x.data.toArray⟩] 77 (0, 0))
section
variable {w w' : World} {p : Nat} {a b c : Int} {x : Nd}
theorem StatBox.lt (h : StatBox w p a b c) : p < w.heap.size := (Array.getElem?_eq_some_iff.1 h).1
theorem StatBox.below (h : StatBox w p a b c) (hb : Below w.heap.size w w') : StatBox w' p a b c := (hb.block _ h.lt).trans h
theorem StatBox.c0 (h : StatBox w p a b c) : w.cell? ⟨p, 0, none⟩ = some (.int .i64 a) := cell_of_row w _ 0 _ _ (0, 0) h
theorem StatBox.c1 (h : StatBox w p a b c) : w.cell? ⟨p, 1, none⟩ = some (.int .i64 b) := cell_of_row w _ 1 _ _ (0, 0) h
theorem StatBox.c2 (h : StatBox w p a b c) : w.cell? ⟨p, 2, none⟩ = some (.int .i64 c) := cell_of_row w _ 2 _ _ (0, 0) h
theorem StatBox.fr (h : StatBox w p a b c) (j : Nat) : w.frozen? ⟨p, j, none⟩ = false := frozen_of_row w _ j _ _ h
theorem NdBox.lt (h : NdBox w p x) : p < w.heap.size := (Array.getElem?_eq_some_iff.1 h).1
theorem NdBox.below (h : NdBox w p x) (hb : Below w.heap.size w w') : NdBox w' p x := (hb.block _ h.lt).trans h
theorem NdBox.c3 (h : NdBox w p x) : w.cell? ⟨p, 3, none⟩ = some (.int .i64 x.kind) := cell_of_row w _ 3 _ _ (0, 0) h
theorem NdBox.c4 (h : NdBox w p x) : w.cell? ⟨p, 4, none⟩ = some (.string ⟨x.data.toArray⟩) := cell_of_row w _ 4 _ _ (0, 0) h
end
section
variable {w w' : World} {p : Nat} {k : Int} {a b : ByteArray}
end
theorem build_stat (a b c : Int) (w : World) : (Instr.build 119 #[(0, .int .i64 a), (1, .int .i64 b), (2, .int .i64 c)]).run Tryz.prog w = .ok (.agg #[.int .i64 a, .int .i64 b, .int .i64 c]) w := by kernel_rfl
theorem stored3 {w w' : World} {p : Nat} (a b c : Value) (h : Below w.heap.size w w') (hp : w.heap.size ≤ p) : Below w.heap.size w (((w'.setCell ⟨p, 0, none⟩ a).setCell ⟨p, 1, none⟩ b).setCell ⟨p, 2, none⟩ c) :=
  ((h.setCell hp a).setCell hp b).setCell hp c
end Go.Proofs.YtpihldcchjoinaaGreatDoor.W09
/-
  Layer 9 (posix), walks: the plain answers Put, Cut, Rename, Write, Do: each hands out a tree and an error's number; nothing that was there is changed. The conditions stand in the statements.
-/
namespace Go.Proofs.YtpihldcchjoinaaGreatDoor.W09
set_option maxRecDepth 100000
open Go Go.RowKit Go.Proofs.YtpihldcchjoinaaGreatDoor.Strs Go.Proofs.YtpihldcchjoinaaGreatDoor.Recs Go.Proofs.YtpihldcchjoinaaGreatDoor.Range
open Go.Proofs.YtpihldcchjoinaaGreatDoor.M07 (Tr Nd nodeAt inDir Right listDir)
open Go.Proofs.YtpihldcchjoinaaGreatDoor.M08 Go.Proofs.YtpihldcchjoinaaGreatDoor.M09
open Go.Proofs.YtpihldcchjoinaaGreatDoor.W07 (Nodes nodeV TreeBox heap_top boxed_new below_two TreeErr FromOr Off turns_box nodes_turns off_from stored_nodes stored_below right_full)
open Go.Proofs.YtpihldcchjoinaaGreatDoor.Kit (ret_str ret_bool ret_int mk_of mk_bytes ba_ext below_draws on)

theorem off_nodes {F : Nat → Prop} {B : Nat} {w : World} {v : Value} {L : List Nd} (h : Nodes B w v L) (h0 : 0 < L.length) (hF : ∀ k, F k → B ≤ k) : Off F v := by
  obtain ⟨A, c, rfl, -, -⟩ := h.form
  obtain ⟨b, o, _, rfl, hb, _⟩ := W07.Nodes.at_ h h0
  intro b' o' n' c' e hk
  cases e
  have := hF _ hk
  omega
theorem FromOr.low {v u : Value} {S S' : Nat} (h : FromOr v S u) (hs : S' ≤ S) : FromOr v S' u := by
  rcases h with h | h | ⟨g, n, c, h, hg⟩
  · exact Or.inl h
  · exact Or.inr (Or.inl h)
  · exact Or.inr (Or.inr ⟨g, n, c, h, Nat.le_trans hs hg⟩)
/-- behind the store of a tree that a call handed out -/
theorem stored_out {w wj : World} {u vv : Value} {L : List Nd} {S q : Nat} (hv : Off (fun k => k = q) vv) (N : Nodes wj.heap.size wj u L) (hf : FromOr vv S u) (hS : q < S) (hq : w.heap.size ≤ q) (B : Below w.heap.size w wj) (a b : Value) :
    Nodes ((wj.setCell ⟨q, 0, none⟩ a).setCell ⟨q, 1, none⟩ b).heap.size ((wj.setCell ⟨q, 0, none⟩ a).setCell ⟨q, 1, none⟩ b) u L ∧ Below w.heap.size w ((wj.setCell ⟨q, 0, none⟩ a).setCell ⟨q, 1, none⟩ b) ∧ FromOr vv w.heap.size u := by
  have ht := turns_box wj q a b
  exact ⟨(nodes_turns N ht (off_from hv (fun k hk => by have : k = q := hk; omega) hf)).more ht.size, (B.setCell hq _).setCell hq _, FromOr.low hf (by omega)⟩
theorem out_of {v u : Value} {w W : World} {R : Tr × Int} {t' : Tr} {er : Int} (hR : R = (t', er)) (h : Nodes W.heap.size W u t'.L ∧ Below w.heap.size w W ∧ FromOr v w.heap.size u) : TreeErr v w R (.returned (.tuple #[.agg #[u, .int .i64 t'.last], .int .i64 er])) W := by
  subst hR
  exact ⟨u, rfl, h.1, h.2.1, h.2.2⟩
theorem out_all {v u : Value} {w W : World} {R Q : Tr × Int} (hR : R = Q) (h : Nodes W.heap.size W u Q.1.L ∧ Below w.heap.size w W ∧ FromOr v w.heap.size u) : TreeErr v w R (.returned (.tuple #[.agg #[u, .int .i64 Q.1.last], .int .i64 Q.2])) W := by
  subst hR
  exact ⟨u, rfl, h.1, h.2.1, h.2.2⟩
/-- what a plain tree is asked to be -/
structure Fits (t : Tr) (w : World) (u : Value) : Prop where
  fit : Fit t
  len : t.L.length ≤ 1048576
  some : 0 < t.L.length
  low : -1 ≤ t.last
  high : t.last ≤ 1048576
  nodes : Nodes w.heap.size w u t.L
set_option maxHeartbeats 4000000 in
theorem refPut9_any (t : Tr) (u : Value) (w : World) (hf : Fits t w u) (p : ByteArray) (kind : Int) (x : ByteArray) (hx : x.size ≤ maxLen) :
    Calls Tryz.prog 38 #[.agg #[u, .int .i64 t.last], .string p, .int .i64 kind, .string x] w (TreeErr u w (putAt t p.data.toList kind x.data.toList)) := by
  have HU := Lib.hid hf.nodes
  have HOFF : Hid (Off (fun k => k = w.heap.size + 1) u) := off_nodes hf.nodes hf.some (fun k hk => by have : k = w.heap.size + 1 := hk; omega)
  have hlen := hf.len
  have hsome := hf.some
  have hlow := hf.low
  have hhigh := hf.high
  have hfit := Lib.hid hf.fit
  obtain ⟨Au, cu, rfl, hu1, hu2⟩ := hf.nodes.form
  unfold maxLen at hu2
  obtain ⟨w1, hw1⟩ : ∃ w1 : World, (w.alloc (.cells #[.slice Au t.L.length cu, .int .i64 t.last] 28)).alloc (.cells #[.slice none 0 0, .int .i64 0] 28) = w1 := ⟨_, rfl⟩
  have B1 : Hid (Below w.heap.size w w1) := by show Below _ _ _; rw [← hw1]; exact below_two _ _ _
  have BX : Hid (W07.Boxed w1 w.heap.size (.slice Au t.L.length cu) t.last) := by show W07.Boxed _ _ _ _; rw [← hw1]; exact boxed_new _ _ _
  have t0 := BX.out.t0
  have t1 := BX.out.t1
  have HSP := Lib.hid (W08.refSpot_any t hfit.out hlen (.slice Au t.L.length cu) p w1 ((HU.out.below B1.out).more B1.out.size))
  have HX : Hid (putAt t p.data.toList kind x.data.toList = if (spot t p.data.toList).2.2 ≠ 0 then (t, (spot t p.data.toList).2.2) else ((M07.put t (spot t p.data.toList).1 (spot t p.data.toList).2.1 kind x.data.toList).1, (M07.put t (spot t p.data.toList).1 (spot t p.data.toList).2.1 kind x.data.toList).2.2)) := rfl
  generalize putAt t p.data.toList kind x.data.toList = R at *
  generalize spot t p.data.toList = G at *
  obtain ⟨gd, gs, ge⟩ := G
  obtain ⟨ds, hds⟩ : ∃ ds : ByteArray, ds.data.toList = gs := ⟨⟨gs.toArray⟩, rfl⟩
  subst hds
  rw [mk_bytes] at HSP
  have HPU := Lib.hid (fun (w' : World) (hb : Below w.heap.size w w') => W07.refPut_any (.slice Au t.L.length cu) t.L t.last gd kind ds x hx w' ((HU.out.below hb).more hb.size) (by omega) hsome hlow (by omega))
  clear hf
  go_enter Tryz.func38, Tryz.ntmps38
  go_wp2_with fail
  clear hw1
  refine HSP.out.mono ?_
  rintro e w2 ⟨rfl, hb⟩
  have B2 := Lib.hid (on B1.out hb)
  replace BX := Lib.hid (BX.out.below hb)
  clear hb t0 t1
  have t0 := BX.out.t0
  have t1 := BX.out.t1
  have r0 := BX.out.r0
  have r1 := BX.out.r1
  have f0 := BX.out.f0
  have f1 := BX.out.f1
  have hz := BX.out.2.2
  by_cases he : ge = 0
  · have te : (ge != 0) = false := by simp [he]
    replace HX : Hid (R = ((M07.put t gd ds.data.toList kind x.data.toList).1, (M07.put t gd ds.data.toList kind x.data.toList).2.2)) := HX.out.trans (if_neg (fun h => h he))
    have HPU := Lib.hid (HPU.out w2 B2.out)
    have hput : M07.put ⟨t.L, t.last⟩ gd ds.data.toList kind x.data.toList = M07.put t gd ds.data.toList kind x.data.toList := rfl
    rw [hput] at HPU
    generalize M07.put t gd ds.data.toList kind x.data.toList = Q at *
    clear he hput
    go_wp2_with fail
    refine HPU.out.mono ?_
    rintro e w3 ⟨u, rfl, hn, hb, hfo⟩
    obtain ⟨A9, c9, rfl, -, -⟩ := hn.form
    obtain ⟨w4, hw4⟩ : ∃ w4 : World, w3.alloc (.cells #[.slice A9 Q.1.L.length c9, .int .i64 Q.1.last] 28) = w4 := ⟨_, rfl⟩
    have ha : Below w3.heap.size w3 w4 := by rw [← hw4]; exact (Below.refl _ _).alloc (Nat.le_refl _) _
    have TB : Hid (TreeBox w4 w3.heap.size (.slice A9 Q.1.L.length c9) Q.1.last) := by show TreeBox _ _ _ _; rw [← hw4]; exact heap_top _ _
    have B4 := Lib.hid (on B2.out (on hb ha))
    have hS : w.heap.size + 1 < w2.heap.size := hz
    replace BX := Lib.hid (BX.out.below (on hb ha))
    have N9 := Lib.hid ((hn.below ha).more ha.size)
    have F9 := Lib.hid hfo
    clear hb ha hn hfo t0 t1 r0 r1 f0 f1 hz
    have t0 := BX.out.t0
    have t1 := BX.out.t1
    have r0 := BX.out.r0
    have r1 := BX.out.r1
    have f0 := BX.out.f0
    have f1 := BX.out.f1
    have hz := BX.out.2.2
    have x0 := TB.out.c0
    have x1 := TB.out.c1
    go_wp2_with fail
    clear hw4
    refine bodyPost_ret_by (v := .tuple #[.agg #[.slice A9 Q.1.L.length c9, .int .i64 Q.1.last], .int .i64 Q.2.2]) ?_ rfl ?_
    · rw [results_cell_tmp rfl]
      go_simp
    · exact out_of HX.out (stored_out HOFF.out N9.out F9.out hS (by omega) B4.out _ _)
  · have te : (ge != 0) = true := by simpa using he
    replace HX : Hid (R = (t, ge)) := HX.out.trans (if_pos he)
    clear he HPU
    go_wp2_with fail
    refine bodyPost_ret_by (v := .tuple #[.agg #[.slice Au t.L.length cu, .int .i64 t.last], .int .i64 ge]) ?_ rfl ?_
    · rw [results_cell_tmp rfl]
      go_simp
    · exact out_of HX.out ⟨stored_nodes (HU.out.below B2.out) (by omega) hz, stored_below B2.out (by omega), Or.inl rfl⟩
set_option maxHeartbeats 8000000 in
theorem refWrite9_any (t : Tr) (u : Value) (w : World) (hf : Fits t w u) (p x : ByteArray) (hx : x.size ≤ maxLen) :
    Calls Tryz.prog 39 #[.agg #[u, .int .i64 t.last], .string p, .string x] w (TreeErr u w (M09.write t p.data.toList x.data.toList)) := by
  have HU := Lib.hid hf.nodes
  have HOFF : Hid (Off (fun k => k = w.heap.size + 1) u) := off_nodes hf.nodes hf.some (fun k hk => by have : k = w.heap.size + 1 := hk; omega)
  have hlen := hf.len
  have hsome := hf.some
  have hlow := hf.low
  have hhigh := hf.high
  have hfit := Lib.hid hf.fit
  obtain ⟨Au, cu, rfl, hu1, hu2⟩ := hf.nodes.form
  unfold maxLen at hu2
  obtain ⟨w1, hw1⟩ : ∃ w1 : World, (w.alloc (.cells #[.slice Au t.L.length cu, .int .i64 t.last] 28)).alloc (.cells #[.slice none 0 0, .int .i64 0] 28) = w1 := ⟨_, rfl⟩
  have B1 : Hid (Below w.heap.size w w1) := by show Below _ _ _; rw [← hw1]; exact below_two _ _ _
  have BX : Hid (W07.Boxed w1 w.heap.size (.slice Au t.L.length cu) t.last) := by show W07.Boxed _ _ _ _; rw [← hw1]; exact boxed_new _ _ _
  have t0 := BX.out.t0
  have t1 := BX.out.t1
  have HFD := Lib.hid (W08.refFind_any t hfit.out hlen (.slice Au t.L.length cu) p true w1 ((HU.out.below B1.out).more B1.out.size))
  have HSP := Lib.hid (fun (w' : World) (hb : Below w.heap.size w w') => W08.refSpot_any t hfit.out hlen (.slice Au t.L.length cu) p w' ((HU.out.below hb).more hb.size))
  have HPU := Lib.hid (fun (w' : World) (hb : Below w.heap.size w w') => refPut9_any t (.slice Au t.L.length cu) w' ⟨hfit.out, hlen, hsome, hlow, hhigh, (HU.out.below hb).more hb.size⟩ p 2 x hx)
  have HX : Hid (M09.write t p.data.toList x.data.toList = if (find t p.data.toList true).2 = 0 then M07.set t (find t p.data.toList true).1 x.data.toList else if (find t p.data.toList true).2 ≠ 5 then (t, (find t p.data.toList true).2) else if (spot t p.data.toList).2.2 ≠ 0 then (t, (spot t p.data.toList).2.2) else if 0 < inDir t.L (spot t p.data.toList).1 (spot t p.data.toList).2.1 then (t, 5) else putAt t p.data.toList 2 x.data.toList) := rfl
  generalize M09.write t p.data.toList x.data.toList = R at *
  generalize find t p.data.toList true = FD at *
  generalize spot t p.data.toList = G at *
  obtain ⟨fn, fe⟩ := FD
  obtain ⟨gd, gs, ge⟩ := G
  obtain ⟨ds, hds⟩ : ∃ ds : ByteArray, ds.data.toList = gs := ⟨⟨gs.toArray⟩, rfl⟩
  subst hds
  rw [mk_bytes] at HSP
  have HSE := Lib.hid (fun (w' : World) (hb : Below w.heap.size w w') => W07.refSet_any (.slice Au t.L.length cu) t.L t.last fn x hx w' ((HU.out.below hb).more hb.size) (by omega) hsome)
  have HIN := Lib.hid (fun (w' : World) (hb : Below w.heap.size w w') => W07.refIn_any (.slice Au t.L.length cu) t.L t.last gd ds w.heap.size w' (HU.out.below hb) hb.size (by omega))
  clear hf
  go_enter Tryz.func39, Tryz.ntmps39
  go_wp2_with fail
  clear hw1
  refine HFD.out.mono ?_
  rintro e w2 ⟨rfl, hb⟩
  have B2 := Lib.hid (on B1.out hb)
  replace BX := Lib.hid (BX.out.below hb)
  clear hb t0 t1
  have t0 := BX.out.t0
  have t1 := BX.out.t1
  have r0 := BX.out.r0
  have r1 := BX.out.r1
  have f0 := BX.out.f0
  have f1 := BX.out.f1
  have hz := BX.out.2.2
  by_cases he : fe = 0
  · have te : (fe == 0) = true := by simp [he]
    replace HX : Hid (R = M07.set t fn x.data.toList) := HX.out.trans (if_pos he)
    have HSE := Lib.hid (HSE.out w2 B2.out)
    have hse : M07.set ⟨t.L, t.last⟩ fn x.data.toList = M07.set t fn x.data.toList := rfl
    rw [hse] at HSE
    generalize M07.set t fn x.data.toList = Q at *
    clear he hse HPU HSP HIN
    go_wp2_with fail
    refine HSE.out.mono ?_
    rintro e w3 ⟨u, rfl, hn, hb, hfo⟩
    obtain ⟨A9, c9, rfl, -, -⟩ := hn.form
    have B3 := Lib.hid (on B2.out hb)
    have hS : w.heap.size + 1 < w2.heap.size := hz
    replace BX := Lib.hid (BX.out.below hb)
    have N9 := Lib.hid hn
    have F9 := Lib.hid hfo
    clear hb hn hfo t0 t1 r0 r1 f0 f1 hz
    have t0 := BX.out.t0
    have t1 := BX.out.t1
    have r0 := BX.out.r0
    have r1 := BX.out.r1
    have f0 := BX.out.f0
    have f1 := BX.out.f1
    have hz := BX.out.2.2
    go_wp2_with fail
    refine bodyPost_ret_by (v := .tuple #[.agg #[.slice A9 Q.1.L.length c9, .int .i64 Q.1.last], .int .i64 Q.2]) ?_ rfl ?_
    · rw [results_cell_tmp rfl]
      go_simp
    · exact out_all HX.out (stored_out HOFF.out N9.out F9.out hS (by omega) B3.out _ _)
  · have te : (fe == 0) = false := by simpa using he
    replace HX := Lib.hid (HX.out.trans (if_neg he))
    by_cases h5 : fe = 5
    · have t5 : (fe != 5) = false := by simp [h5]
      replace HX := Lib.hid (HX.out.trans (if_neg (fun h => h h5)))
      have HSP := Lib.hid (HSP.out w2 B2.out)
      clear he h5 r0 r1 f0 f1 hz HSE
      go_wp2_with fail
      refine HSP.out.mono ?_
      rintro e w3 ⟨rfl, hb⟩
      have B3 := Lib.hid (on B2.out hb)
      replace BX := Lib.hid (BX.out.below hb)
      clear hb t0 t1
      have t0 := BX.out.t0
      have t1 := BX.out.t1
      have r0 := BX.out.r0
      have r1 := BX.out.r1
      have f0 := BX.out.f0
      have f1 := BX.out.f1
      have hz := BX.out.2.2
      by_cases h6 : ge = 0
      · have t6 : (ge != 0) = false := by simp [h6]
        replace HX : Hid (R = if 0 < inDir t.L gd ds.data.toList then (t, 5) else putAt t p.data.toList 2 x.data.toList) := HX.out.trans (if_neg (fun h => h h6))
        have HIN := Lib.hid (HIN.out w3 B3.out)
        generalize inDir t.L gd ds.data.toList = n at *
        clear h6 r0 r1 f0 f1 hz
        go_wp2_with fail
        refine HIN.out.mono ?_
        rintro e w4 ⟨rfl, hb⟩
        have B4 := Lib.hid (on B3.out hb)
        replace BX := Lib.hid (BX.out.below hb)
        clear hb t0 t1
        have t0 := BX.out.t0
        have t1 := BX.out.t1
        have r0 := BX.out.r0
        have r1 := BX.out.r1
        have f0 := BX.out.f0
        have f1 := BX.out.f1
        have hz := BX.out.2.2
        by_cases h7 : 0 < n
        · replace HX : Hid (R = (t, 5)) := HX.out.trans (if_pos h7)
          clear HPU
          go_wp2_with fail
          refine bodyPost_ret_by (v := .tuple #[.agg #[.slice Au t.L.length cu, .int .i64 t.last], .int .i64 5]) ?_ rfl ?_
          · rw [results_cell_tmp rfl]
            go_simp
          · exact out_of HX.out ⟨stored_nodes (HU.out.below B4.out) (by omega) hz, stored_below B4.out (by omega), Or.inl rfl⟩
        · replace HX : Hid (R = putAt t p.data.toList 2 x.data.toList) := HX.out.trans (if_neg h7)
          have HPU := Lib.hid (HPU.out w4 B4.out)
          generalize putAt t p.data.toList 2 x.data.toList = Q at *
          go_wp2_with fail
          refine HPU.out.mono ?_
          rintro e w5 ⟨u, rfl, hn, hb, hfo⟩
          obtain ⟨A9, c9, rfl, -, -⟩ := hn.form
          have B5 := Lib.hid (on B4.out hb)
          have hS : w.heap.size + 1 < w4.heap.size := hz
          replace BX := Lib.hid (BX.out.below hb)
          have N9 := Lib.hid hn
          have F9 := Lib.hid hfo
          clear hb hn hfo t0 t1 r0 r1 f0 f1 hz
          have t0 := BX.out.t0
          have t1 := BX.out.t1
          have r0 := BX.out.r0
          have r1 := BX.out.r1
          have f0 := BX.out.f0
          have f1 := BX.out.f1
          have hz := BX.out.2.2
          go_wp2_with fail
          refine bodyPost_ret_by (v := .tuple #[.agg #[.slice A9 Q.1.L.length c9, .int .i64 Q.1.last], .int .i64 Q.2]) ?_ rfl ?_
          · rw [results_cell_tmp rfl]
            go_simp
          · exact out_all HX.out (stored_out HOFF.out N9.out F9.out hS (by omega) B5.out _ _)
      · have t6 : (ge != 0) = true := by simpa using h6
        replace HX : Hid (R = (t, ge)) := HX.out.trans (if_pos h6)
        clear h6 HPU HIN
        go_wp2_with fail
        refine bodyPost_ret_by (v := .tuple #[.agg #[.slice Au t.L.length cu, .int .i64 t.last], .int .i64 ge]) ?_ rfl ?_
        · rw [results_cell_tmp rfl]
          go_simp
        · exact out_of HX.out ⟨stored_nodes (HU.out.below B3.out) (by omega) hz, stored_below B3.out (by omega), Or.inl rfl⟩
    · have t5 : (fe != 5) = true := by simpa using h5
      replace HX : Hid (R = (t, fe)) := HX.out.trans (if_pos h5)
      clear he h5 HPU HIN HSP HSE
      go_wp2_with fail
      refine bodyPost_ret_by (v := .tuple #[.agg #[.slice Au t.L.length cu, .int .i64 t.last], .int .i64 fe]) ?_ rfl ?_
      · rw [results_cell_tmp rfl]
        go_simp
      · exact out_of HX.out ⟨stored_nodes (HU.out.below B2.out) (by omega) hz, stored_below B2.out (by omega), Or.inl rfl⟩
end Go.Proofs.YtpihldcchjoinaaGreatDoor.W09
