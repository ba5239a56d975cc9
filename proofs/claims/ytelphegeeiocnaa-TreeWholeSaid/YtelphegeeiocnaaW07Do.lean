/-
  Layer 7 (tree), a walk of the law's do: an act done to a tree of the program's, and to the plain answer's tree, comes to the same; nothing that was there is changed but the tree's own blocks.
-/
import Derived.Test.YtelphegeeiocnaaW07Same
namespace Go.Proofs.Ytelphegeeiocnaa.W07
open Go Go.RowKit Go.Proofs.Ytelphegeeiocnaa.Strs Go.Proofs.Ytelphegeeiocnaa.Recs Go.Proofs.Ytelphegeeiocnaa.M07 Go.Proofs.Ytelphegeeiocnaa.Range
open Go.Proofs.Ytelphegeeiocnaa.M06 (Ent)
open Go.Proofs.Ytelphegeeiocnaa.Kit (ret_str ret_bool ret_int mk_of mk_bytes ba_ext below_draws on)

/-- a slice's own block is none of F -/
def Off (F : Nat → Prop) (u : Value) : Prop := ∀ b o n c, u = .slice (some ⟨b, o, none⟩) n c → ¬ F b
theorem nodes_turns {F : Nat → Prop} {B : Nat} {w w' : World} {v : Value} {L : List Nd} (h : Nodes B w v L) (ht : Turns F w w') (hoff : Off F v) : Nodes B w' v L := by
  by_cases h0 : 0 < L.length
  · obtain ⟨A, c, rfl, h1, h2⟩ := h.form
    obtain ⟨b, o, _, rfl, hb, hc0, _⟩ := Nodes.at_ h h0
    have hlt := World.block_lt_of_cell? w _ hc0
    exact Recs.other h fun p hp => World.cell?_of_block (ht.block _ (by rw [hp]; exact hlt) (by rw [hp]; exact hoff _ _ _ _ rfl))
  · have e : L = [] := List.length_eq_zero_iff.1 (by omega)
    subst e
    obtain ⟨A, c, rfl, h1, h2, h3⟩ := h
    exact ⟨A, c, rfl, h1, h2, fun h => absurd h (by simp)⟩
theorem off_same {F F' : Nat → Prop} {v : Value} {L : List Nd} {n0 : Nat} {w : World} (hn : Nodes n0 w v L) (h0 : 0 < L.length) (hv : Off F v) (hF : ∀ k, F' k → F k ∨ n0 ≤ k) : Off F' v := by
  obtain ⟨A, c, rfl, h1, h2⟩ := hn.form
  obtain ⟨b, o, _, rfl, hb, _⟩ := Nodes.at_ hn h0
  intro b' o' n' c' e hk
  cases e
  rcases hF _ hk with h | h
  · exact hv _ _ _ _ rfl h
  · omega
theorem off_from {F : Nat → Prop} {v u : Value} {S : Nat} (hv : Off F v) (hS : ∀ k, F k → k < S) (hf : FromOr v S u) : Off F u := by
  rcases hf with rfl | rfl | ⟨g, n, c, rfl, hg⟩
  · exact hv
  · intro b o n c e; cases e
  · intro b o n' c' e hk
    cases e
    have := hS _ hk
    omega
noncomputable def doAct (t : Tr) (act dir dst : Int) (name as' : Bytes) (kind : Int) (data : Bytes) : Tr :=
  if act = 0 then (put t dir name kind data).1 else if act = 1 then (set t dir data).1 else if act = 2 then (cut t dir name).1 else if act = 3 then (M07.move t dir name dst as').1 else t
/-- the act's box -/
def ActBox (w : World) (p : Nat) (act dir dst : Int) (nm al : ByteArray) (kind : Int) (dt : ByteArray) : Prop := w.heap[p]? = some (.cells #[.int .i64 act, .int .i64 dir, .int .i64 dst, .string nm, .string al, .int .i64 kind, .string dt] 32 (0, 0))
/-- a box of a plain tree -/
def TreeBox (w : World) (p : Nat) (v : Value) (last : Int) : Prop := w.heap[p]? = some (.cells #[v, .int .i64 last] 29 (0, 0))
section
variable {w w' : World} {p : Nat} {v : Value} {last act dir dst kind : Int} {nm al dt : ByteArray}
theorem TreeBox.lt (h : TreeBox w p v last) : p < w.heap.size := (Array.getElem?_eq_some_iff.1 h).1
theorem TreeBox.below (h : TreeBox w p v last) (hb : Below w.heap.size w w') : TreeBox w' p v last := (hb.block _ h.lt).trans h
theorem TreeBox.turns {F : Nat → Prop} (h : TreeBox w p v last) (ht : Turns F w w') (hp : ¬ F p) : TreeBox w' p v last := ht.keeps h hp
theorem TreeBox.c0 (h : TreeBox w p v last) : w.cell? ⟨p, 0, none⟩ = some v := cell_of_row w _ 0 _ _ (0, 0) h
theorem TreeBox.c1 (h : TreeBox w p v last) : w.cell? ⟨p, 1, none⟩ = some (.int .i64 last) := cell_of_row w _ 1 _ _ (0, 0) h
theorem TreeBox.fr (h : TreeBox w p v last) (j : Nat) : w.frozen? ⟨p, j, none⟩ = false := frozen_of_row w _ j _ _ h
theorem ActBox.lt (h : ActBox w p act dir dst nm al kind dt) : p < w.heap.size := (Array.getElem?_eq_some_iff.1 h).1
theorem ActBox.below (h : ActBox w p act dir dst nm al kind dt) (hb : Below w.heap.size w w') : ActBox w' p act dir dst nm al kind dt := (hb.block _ h.lt).trans h
theorem ActBox.turns {F : Nat → Prop} (h : ActBox w p act dir dst nm al kind dt) (ht : Turns F w w') (hp : ¬ F p) : ActBox w' p act dir dst nm al kind dt := ht.keeps h hp
theorem ActBox.c (h : ActBox w p act dir dst nm al kind dt) : w.cell? ⟨p, 0, none⟩ = some (.int .i64 act) ∧ w.cell? ⟨p, 1, none⟩ = some (.int .i64 dir) ∧ w.cell? ⟨p, 2, none⟩ = some (.int .i64 dst) ∧ w.cell? ⟨p, 3, none⟩ = some (.string nm) ∧ w.cell? ⟨p, 4, none⟩ = some (.string al) ∧ w.cell? ⟨p, 5, none⟩ = some (.int .i64 kind) ∧ w.cell? ⟨p, 6, none⟩ = some (.string dt) :=
  ⟨cell_of_row w _ 0 _ _ (0, 0) h, cell_of_row w _ 1 _ _ (0, 0) h, cell_of_row w _ 2 _ _ (0, 0) h, cell_of_row w _ 3 _ _ (0, 0) h, cell_of_row w _ 4 _ _ (0, 0) h, cell_of_row w _ 5 _ _ (0, 0) h, cell_of_row w _ 6 _ _ (0, 0) h⟩
end
/-- what do comes to -/
def Did (Rep : (Nat → Prop) → World → Value → Tr → Prop) (F : Nat → Prop) (pv : Value) (t' : Tr) (w : World) (e : Ending) (w' : World) : Prop :=
  ∃ u F', e = .returned (.tuple #[.agg #[u, .int .i64 t'.last], .bool true]) ∧ Nodes w'.heap.size w' u t'.L ∧ Rep F' w' pv t' ∧ Off F' u ∧ Turns F w w' ∧ ∀ k, F' k → F k ∨ w.heap.size ≤ k
/-- the three boxes that do lays at its start -/
def boxes (w : World) (v : Value) (last act dir dst : Int) (nm al : ByteArray) (kind : Int) (dt : ByteArray) : World := ((w.alloc (.cells #[v, .int .i64 last] 29)).alloc (.cells #[.int .i64 act, .int .i64 dir, .int .i64 dst, .string nm, .string al, .int .i64 kind, .string dt] 32)).alloc (.cells #[.slice none 0 0, .int .i64 0] 29)
theorem boxes_lie (w : World) (v : Value) (last act dir dst : Int) (nm al : ByteArray) (kind : Int) (dt : ByteArray) :
    TreeBox (boxes w v last act dir dst nm al kind dt) w.heap.size v last ∧ ActBox (boxes w v last act dir dst nm al kind dt) (w.heap.size + 1) act dir dst nm al kind dt ∧ TreeBox (boxes w v last act dir dst nm al kind dt) (w.heap.size + 1 + 1) (.slice none 0 0) 0 ∧ (boxes w v last act dir dst nm al kind dt).heap.size = w.heap.size + 3 ∧ Below w.heap.size w (boxes w v last act dir dst nm al kind dt) :=
  ⟨heap_three_a _ _ _ _, heap_three_b _ _ _ _, heap_three_c _ _ _ _, by unfold boxes; simp, (((Below.refl _ w).alloc (Nat.le_refl _) _).alloc (by rw [World.alloc_size]; omega) _).alloc (by rw [World.alloc_size, World.alloc_size]; omega) _⟩
theorem turns_box (w : World) (q : Nat) (a b : Value) : Turns (fun k => k = q) w ((w.setCell ⟨q, 0, none⟩ a).setCell ⟨q, 1, none⟩ b) :=
  (Turns.setCell (T := fun k => k = q) (a := ⟨q, 0, none⟩) a rfl).trans (Turns.setCell (T := fun k => k = q) (a := ⟨q, 1, none⟩) b rfl)
theorem turns_old {F : Nat → Prop} {A B : World} (h : Turns (fun k => F k ∨ A.heap.size ≤ k) A B) : Turns F A B := ⟨h.os, h.tape, h.output, h.size, fun k hk hf => h.block k hk (fun e => by rcases e with e | e; exact hf e; omega)⟩
theorem did_done {Rep : (Nat → Prop) → World → Value → Tr → Prop} (C : Trees Rep) {F F' : Nat → Prop} {w wi wf : World} {pv u : Value} {t' : Tr} {q : Nat} {e : Ending}
    (he : e = .returned (.tuple #[.agg #[u, .int .i64 t'.last], .bool true])) (Hi : Rep F' wi pv t') (hF : ∀ k, F' k → F k ∨ w.heap.size ≤ k) (hq : ¬ F' q) (hqw : w.heap.size ≤ q)
    (t1 : Turns (fun k => F k ∨ w.heap.size ≤ k) w wi) (tf : Turns (fun k => k = q) wi wf) (hn : Nodes wf.heap.size wf u t'.L) (ho : Off F' u) : Did Rep F pv t' w e wf :=
  ⟨u, F', he, hn, C.keep Hi (fun k hk => tf.block k (C.low Hi k hk) (fun e => hq (by rw [← e]; exact hk))) tf.size, ho, turns_old (t1.trans (tf.wider fun k hk => Or.inr (by omega))), hF⟩
theorem results_cell_one_tmp {fn : Func} {p t : Tmp} {ty : TypeId} (h : fn.results = #[.cell p ty, .tmp t]) (tmps : Array Value) (P : Program) (w : World) :
    (results fn tmps).run P w = ((asAddr (tmps.getD p undef)).run P w).andThen fun a w₁ => ((loadVar ty a).run P w₁).andThen fun v w₂ => .ok (.tuple #[v, tmps.getD t undef]) w₂ := by
  simp only [results, h]
  simp [Sem.run_bind, Result.andThen]
set_option maxHeartbeats 4000000 in
set_option maxRecDepth 100000 in
theorem do_tree {Rep : (Nat → Prop) → World → Value → Tr → Prop} (C : Trees Rep) {F : Nat → Prop} (w : World) {pv : Value} {t : Tr} (h : Rep F w pv t) (hs : t.L.length ≤ 1000 ∧ t.last ≤ 1000) (v : Value) (hn : Nodes w.heap.size w v t.L) (hoff : Off F v)
    (act dir dst : Int) (nm al : ByteArray) (kind : Int) (dt : ByteArray) (hdt : dt.size ≤ maxLen) :
    Calls Try.prog 13 #[pv, .agg #[v, .int .i64 t.last], .agg #[.int .i64 act, .int .i64 dir, .int .i64 dst, .string nm, .string al, .int .i64 kind, .string dt]] w (Did Rep F pv (doAct t act dir dst nm.data.toList al.data.toList kind dt.data.toList) w) := by
  have hR := C.right h
  have h0 := right_full hR
  have hlow := C.low h
  obtain ⟨w3, hw3⟩ : ∃ w', boxes w v t.last act dir dst nm al kind dt = w' := ⟨_, rfl⟩
  have hbx := boxes_lie w v t.last act dir dst nm al kind dt
  rw [hw3] at hbx
  obtain ⟨T0, A0, R0, hz3, hb3⟩ := hbx
  unfold boxes at hw3
  have H3 := C.below h hb3
  have N3 := hn.below hb3
  have hsm : Small t := ⟨by omega, by omega⟩
  have hfl : ∀ k, F k → k < w.heap.size := hlow
  obtain ⟨L, last⟩ := t
  obtain ⟨A, c, rfl, hA1, hA2⟩ := hn.form
  unfold maxLen at hA2
  have t0 := T0.c0
  have t1 := T0.c1
  obtain ⟨a0, a1, a2, a3, a4, a5, a6⟩ := A0.c
  have r0 := R0.c0
  have r1 := R0.c1
  have hlast : 1 ≤ last := by
    obtain ⟨r, hr⟩ := hR.root
    have := hR.ends ⟨1, 1, [], 1, []⟩ (by rw [hr]; exact List.mem_cons_self)
    exact this.2
  have hlast2 : last ≤ 1000 := hs.2
  have hL1 : L.length ≤ 1073741824 := by have : L.length ≤ 1000 := hs.1; omega
  have hq0 : ∀ k, w.heap.size ≤ k → ¬ F k := fun k h1 h2 => by have := hfl k h2; omega
  by_cases k0 : act = 0
  · have HP := Lib.hid (C.put H3 hsm dir nm kind dt hdt)
    have HRP := Lib.hid (fun (w' : World) (h : Nodes w'.heap.size w' (.slice A L.length c) L) => refPut_any (.slice A L.length c) L last dir kind nm dt hdt w' h hL1 h0 (by omega) (by omega))
    have HDA : Hid (doAct ⟨L, last⟩ act dir dst nm.data.toList al.data.toList kind dt.data.toList = (put ⟨L, last⟩ dir nm.data.toList kind dt.data.toList).1) := if_pos k0
    have tk : (act == 0) = true := by simpa using k0
    generalize doAct ⟨L, last⟩ act dir dst nm.data.toList al.data.toList kind dt.data.toList = D at *
    generalize put ⟨L, last⟩ dir nm.data.toList kind dt.data.toList = R at *
    clear k0
    go_enter Try.func13, Try.ntmps13
    go_wp2_with fail
    refine HP.out.mono ?_
    rintro e w4 ⟨rfl, F', H4, ht4, hF4⟩
    have N4 := (nodes_turns N3 ht4 hoff)
    have hz4 := ht4.size
    have R4 := R0.turns ht4 (hq0 _ (by omega))
    have T4 := T0.turns ht4 (hq0 _ (by omega))
    have A4 := A0.turns ht4 (hq0 _ (by omega))
    have hq' : ∀ k, w.heap.size ≤ k → k < w3.heap.size → ¬ F' k := fun k h1 h2 h3 => by
      rcases hF4 k h3 with h | h
      · exact hq0 k h1 h
      · omega
    have ho4 : Off F' (.slice A L.length c) := off_same N3 h0 hoff (fun k hk => by
      rcases hF4 k hk with h | h
      · exact Or.inl h
      · exact Or.inr (by omega))
    clear t0 t1 a0 a1 a2 a3 a4 a5 a6 r0 r1
    have t0 := T4.c0
    have t1 := T4.c1
    obtain ⟨a0, a1, a2, a3, a4, a5, a6⟩ := A4.c
    go_wp2_with fail
    refine (HRP.out w4 (N4.more (by omega))).mono ?_
    rintro e w5 ⟨u, rfl, hnu, hb5, hfu⟩
    have hou := off_from ho4 (C.low H4) hfu
    have hoq : Off (fun k => k = w.heap.size + 1 + 1) u := off_from (off_same (F := fun _ => False) N3 h0 (fun _ _ _ _ _ h => h) (fun k hk => Or.inr (by omega))) (fun k hk => by omega) hfu
    obtain ⟨A2, c2, rfl, hA21, hA22⟩ := hnu.form
    unfold maxLen at hA22
    obtain ⟨w6, hw6⟩ : ∃ w', w5.alloc (.cells #[.slice A2 R.1.L.length c2, .int .i64 R.1.last] 29) = w' := ⟨_, rfl⟩
    have U6 : TreeBox w6 w5.heap.size (.slice A2 R.1.L.length c2) R.1.last := by rw [← hw6]; exact heap_top _ _
    have hb6 : Below w5.heap.size w5 w6 := by rw [← hw6]; exact below_one _ _
    have R6 := (R4.below hb5).below hb6
    have u0 := U6.c0
    have u1 := U6.c1
    have y0 := R6.c0
    have y1 := R6.c1
    have z0 := R6.fr 0
    have z1 := R6.fr 1
    have hb56 := on hb5 hb6
    have hq6 : w.heap.size + 1 + 1 < w6.heap.size := R6.lt
    clear hw3
    go_wp2_with fail
    refine bodyPost_ret_by (v := .tuple #[.agg #[.slice A2 R.1.L.length c2, .int .i64 R.1.last], .bool true]) ?_ rfl ?_
    · rw [results_cell_one_tmp rfl]
      go_simp
    · rw [HDA.out]
      exact did_done C rfl H4 (fun k hk => (hF4 k hk).imp id (by omega)) (hq' (w.heap.size + 1 + 1) (by omega) (by omega)) (by omega) ((Turns.new hb3).trans (ht4.wider fun _ h => Or.inl h))
        ((Turns.new hb56).trans (turns_box _ _ _ _)) ((nodes_turns hnu ((Turns.new hb6).trans (turns_box _ _ _ _)) hoq).more (by rw [set_size, set_size]; exact hb6.size)) hou
  · by_cases k1 : act = 1
    · have HS := Lib.hid (fun (w' : World) (hb : Below w3.heap.size w3 w') => C.set (C.below H3 hb) hsm dir dt hdt)
      have HRS := Lib.hid (refSet_any (.slice A L.length c) L last dir dt hdt w3 (N3.more hb3.size) (by omega) h0)
      have HDA : Hid (doAct ⟨L, last⟩ act dir dst nm.data.toList al.data.toList kind dt.data.toList = (set ⟨L, last⟩ dir dt.data.toList).1) := (if_neg k0).trans (if_pos k1)
      have tk0 : (act == 0) = false := by simpa using k0
      have tk : (act == 1) = true := by simpa using k1
      generalize doAct ⟨L, last⟩ act dir dst nm.data.toList al.data.toList kind dt.data.toList = D at *
      generalize set ⟨L, last⟩ dir dt.data.toList = R at *
      clear k0 k1
      go_enter Try.func13, Try.ntmps13
      go_wp2_with fail
      refine HRS.out.mono ?_
      rintro e w5 ⟨u, rfl, hnu, hb5, hfu⟩
      have hou : Off F u := off_from hoff (fun k hk => by have := hfl k hk; omega) hfu
      have hoq : Off (fun k => k = w.heap.size + 1 + 1) u := off_from (off_same (F := fun _ => False) N3 h0 (fun _ _ _ _ _ h => h) (fun k hk => Or.inr (by omega))) (fun k hk => by omega) hfu
      obtain ⟨A2, c2, rfl, hA21, hA22⟩ := hnu.form
      unfold maxLen at hA22
      obtain ⟨w6, hw6⟩ : ∃ w', w5.alloc (.cells #[.slice A2 R.1.L.length c2, .int .i64 R.1.last] 29) = w' := ⟨_, rfl⟩
      have U6 : TreeBox w6 w5.heap.size (.slice A2 R.1.L.length c2) R.1.last := by rw [← hw6]; exact heap_top _ _
      have hb6 : Below w5.heap.size w5 w6 := by rw [← hw6]; exact below_one _ _
      have hb56 := on hb5 hb6
      have R6 := R0.below hb56
      have A6 := A0.below hb56
      have hz5 := hb5.size
      have hz6 := hb56.size
      clear t0 t1 a0 a1 a2 a3 a4 a5 a6 r0 r1
      have u0 := U6.c0
      have u1 := U6.c1
      have y0 := R6.c0
      have y1 := R6.c1
      have z0 := R6.fr 0
      have z1 := R6.fr 1
      obtain ⟨a0, a1, a2, a3, a4, a5, a6⟩ := A6.c
      have hlt5 : w5.heap.size < w6.heap.size := U6.lt
      have hne : ¬ w5.heap.size = w.heap.size + 1 + 1 := by omega
      have hne2 : ¬ w.heap.size + 1 = w.heap.size + 1 + 1 := by omega
      go_wp2_with fail
      go_region_held3 (fun w' => w'.cell? ⟨w5.heap.size, 0, none⟩ = some (.slice A2 R.1.L.length c2) ∧ w'.cell? ⟨w5.heap.size, 1, none⟩ = some (.int .i64 R.1.last) ∧ w'.cell? ⟨w.heap.size + 1, 1, none⟩ = some (.int .i64 dir) ∧ w'.cell? ⟨w.heap.size + 1, 2, none⟩ = some (.int .i64 dst) ∧ w'.cell? ⟨w.heap.size + 1, 3, none⟩ = some (.string nm) ∧ w'.cell? ⟨w.heap.size + 1, 4, none⟩ = some (.string al) ∧ w'.cell? ⟨w.heap.size + 1, 6, none⟩ = some (.string dt))
        (first | exact ⟨(TQ _ _).cell v0 hne, (TQ _ _).cell v1 hne, (TQ _ _).cell b1 hne2, (TQ _ _).cell b2 hne2, (TQ _ _).cell b3 hne2, (TQ _ _).cell b4 hne2, (TQ _ _).cell b6 hne2⟩ | exact ⟨v0, v1, b1, b2, b3, b4, b6⟩ | exact ⟨u0, u1, a1, a2, a3, a4, a6⟩ | go_keep)
        (first | (go_at_call 19; refine (HS.out (w6.drewN 1) (hb56.trans ((below_draws w6 1).mono hb56.size))).mono ?_; rintro e w7 ⟨rfl, F', H7, ht7, hF7⟩; have U7 := TreeBox.turns (w := w6.drewN 1) U6 ht7 (hq0 _ (by omega)); have R7 := TreeBox.turns (w := w6.drewN 1) R6 ht7 (hq0 _ (by omega)); have A7 := ActBox.turns (w := w6.drewN 1) A6 ht7 (hq0 _ (by omega)); have v0 := U7.c0; have v1 := U7.c1; have x0 := R7.c0; have x1 := R7.c1; have f0 := R7.fr 0; have f1 := R7.fr 1; obtain ⟨b0, b1, b2, b3, b4, b5, b6⟩ := A7.c; have TQ := turns_box w7 (w.heap.size + 1 + 1)))
      all_goals (go_wp2_with fail)
      all_goals (
        refine bodyPost_ret_by (v := .tuple #[.agg #[.slice A2 R.1.L.length c2, .int .i64 R.1.last], .bool true]) ?_ rfl ?_
        · rw [results_cell_one_tmp rfl]
          go_simp
        · rw [HDA.out]
          have hF7' : ∀ k, F' k → F k ∨ w6.heap.size ≤ k := hF7
          have ht7' : Turns F w6 w7 := ⟨ht7.os, ht7.tape, ht7.output, ht7.size, ht7.block⟩
          exact did_done C rfl H7 (fun k hk => (hF7' k hk).imp id (fun h => by omega)) (fun h => by rcases hF7' _ h with h | h; exact hq0 _ (by omega) h; omega) (by omega) (((Turns.new hb3).trans (Turns.new hb56)).trans (ht7'.wider fun _ h => Or.inl h))
            (turns_box _ _ _ _) ((nodes_turns (nodes_turns (hnu.below hb6) ht7' hou) (turns_box _ _ _ _) hoq).more (by rw [set_size, set_size]; exact Nat.le_trans hb6.size ht7'.size)) (off_same hnu (right_full (C.right H7)) hou (fun k hk => (hF7' k hk).imp id (fun h => Nat.le_trans hb6.size h))))
    · by_cases k2 : act = 2
      · have HS := Lib.hid (fun (w' : World) (hb : Below w3.heap.size w3 w') => C.cut (C.below H3 hb) hsm dir nm)
        have HRS := Lib.hid (refCut_any (.slice A L.length c) L last dir nm w3 (N3.more hb3.size) (by omega))
        have HDA : Hid (doAct ⟨L, last⟩ act dir dst nm.data.toList al.data.toList kind dt.data.toList = (cut ⟨L, last⟩ dir nm.data.toList).1) := (if_neg k0).trans ((if_neg k1).trans (if_pos k2))
        have tk0 : (act == 0) = false := by simpa using k0
        have tk1 : (act == 1) = false := by simpa using k1
        have tk : (act == 2) = true := by simpa using k2
        generalize doAct ⟨L, last⟩ act dir dst nm.data.toList al.data.toList kind dt.data.toList = D at *
        generalize cut ⟨L, last⟩ dir nm.data.toList = R at *
        clear k0 k1 k2
        go_enter Try.func13, Try.ntmps13
        go_wp2_with fail
        refine HRS.out.mono ?_
        rintro e w5 ⟨u, rfl, hnu, hb5, hfu⟩
        have hou : Off F u := off_from hoff (fun k hk => by have := hfl k hk; omega) hfu
        have hoq : Off (fun k => k = w.heap.size + 1 + 1) u := off_from (off_same (F := fun _ => False) N3 h0 (fun _ _ _ _ _ h => h) (fun k hk => Or.inr (by omega))) (fun k hk => by omega) hfu
        obtain ⟨A2, c2, rfl, hA21, hA22⟩ := hnu.form
        unfold maxLen at hA22
        obtain ⟨w6, hw6⟩ : ∃ w', w5.alloc (.cells #[.slice A2 R.1.L.length c2, .int .i64 R.1.last] 29) = w' := ⟨_, rfl⟩
        have U6 : TreeBox w6 w5.heap.size (.slice A2 R.1.L.length c2) R.1.last := by rw [← hw6]; exact heap_top _ _
        have hb6 : Below w5.heap.size w5 w6 := by rw [← hw6]; exact below_one _ _
        have hb56 := on hb5 hb6
        have R6 := R0.below hb56
        have A6 := A0.below hb56
        have hz5 := hb5.size
        have hz6 := hb56.size
        clear t0 t1 a0 a1 a2 a3 a4 a5 a6 r0 r1
        have u0 := U6.c0
        have u1 := U6.c1
        have y0 := R6.c0
        have y1 := R6.c1
        have z0 := R6.fr 0
        have z1 := R6.fr 1
        obtain ⟨a0, a1, a2, a3, a4, a5, a6⟩ := A6.c
        have hlt5 : w5.heap.size < w6.heap.size := U6.lt
        have hne : ¬ w5.heap.size = w.heap.size + 1 + 1 := by omega
        have hne2 : ¬ w.heap.size + 1 = w.heap.size + 1 + 1 := by omega
        go_wp2_with fail
        go_region_held3 (fun w' => w'.cell? ⟨w5.heap.size, 0, none⟩ = some (.slice A2 R.1.L.length c2) ∧ w'.cell? ⟨w5.heap.size, 1, none⟩ = some (.int .i64 R.1.last) ∧ w'.cell? ⟨w.heap.size + 1, 1, none⟩ = some (.int .i64 dir) ∧ w'.cell? ⟨w.heap.size + 1, 2, none⟩ = some (.int .i64 dst) ∧ w'.cell? ⟨w.heap.size + 1, 3, none⟩ = some (.string nm) ∧ w'.cell? ⟨w.heap.size + 1, 4, none⟩ = some (.string al) ∧ w'.cell? ⟨w.heap.size + 1, 6, none⟩ = some (.string dt))
        (first | exact ⟨(TQ _ _).cell v0 hne, (TQ _ _).cell v1 hne, (TQ _ _).cell b1 hne2, (TQ _ _).cell b2 hne2, (TQ _ _).cell b3 hne2, (TQ _ _).cell b4 hne2, (TQ _ _).cell b6 hne2⟩ | exact ⟨v0, v1, b1, b2, b3, b4, b6⟩ | exact ⟨u0, u1, a1, a2, a3, a4, a6⟩ | go_keep)
        (first | (go_at_call 12; refine (HS.out (w6.drewN 1) (hb56.trans ((below_draws w6 1).mono hb56.size))).mono ?_; rintro e w7 ⟨rfl, F', H7, ht7, hF7⟩; have U7 := TreeBox.turns (w := w6.drewN 1) U6 ht7 (hq0 _ (by omega)); have R7 := TreeBox.turns (w := w6.drewN 1) R6 ht7 (hq0 _ (by omega)); have A7 := ActBox.turns (w := w6.drewN 1) A6 ht7 (hq0 _ (by omega)); have v0 := U7.c0; have v1 := U7.c1; have x0 := R7.c0; have x1 := R7.c1; have f0 := R7.fr 0; have f1 := R7.fr 1; obtain ⟨b0, b1, b2, b3, b4, b5, b6⟩ := A7.c; have TQ := turns_box w7 (w.heap.size + 1 + 1)))
        all_goals (go_wp2_with fail)
        all_goals (
          refine bodyPost_ret_by (v := .tuple #[.agg #[.slice A2 R.1.L.length c2, .int .i64 R.1.last], .bool true]) ?_ rfl ?_
          · rw [results_cell_one_tmp rfl]
            go_simp
          · rw [HDA.out]
            have hF7' : ∀ k, F' k → F k ∨ w6.heap.size ≤ k := hF7
            have ht7' : Turns F w6 w7 := ⟨ht7.os, ht7.tape, ht7.output, ht7.size, ht7.block⟩
            exact did_done C rfl H7 (fun k hk => (hF7' k hk).imp id (fun h => by omega)) (fun h => by rcases hF7' _ h with h | h; exact hq0 _ (by omega) h; omega) (by omega) (((Turns.new hb3).trans (Turns.new hb56)).trans (ht7'.wider fun _ h => Or.inl h))
              (turns_box _ _ _ _) ((nodes_turns (nodes_turns (hnu.below hb6) ht7' hou) (turns_box _ _ _ _) hoq).more (by rw [set_size, set_size]; exact Nat.le_trans hb6.size ht7'.size)) (off_same hnu (right_full (C.right H7)) hou (fun k hk => (hF7' k hk).imp id (fun h => Nat.le_trans hb6.size h))))
      · by_cases k3 : act = 3
        · have HS := Lib.hid (fun (w' : World) (hb : Below w3.heap.size w3 w') => C.move (C.below H3 hb) hsm dir nm dst al)
          have HRS := Lib.hid (refMove_any (.slice A L.length c) L last dir nm dst al w3 (N3.more hb3.size) hL1 hR)
          have HDA : Hid (doAct ⟨L, last⟩ act dir dst nm.data.toList al.data.toList kind dt.data.toList = (M07.move ⟨L, last⟩ dir nm.data.toList dst al.data.toList).1) := (if_neg k0).trans ((if_neg k1).trans ((if_neg k2).trans (if_pos k3)))
          have tk0 : (act == 0) = false := by simpa using k0
          have tk1 : (act == 1) = false := by simpa using k1
          have tk2 : (act == 2) = false := by simpa using k2
          have tk : (act == 3) = true := by simpa using k3
          generalize doAct ⟨L, last⟩ act dir dst nm.data.toList al.data.toList kind dt.data.toList = D at *
          generalize M07.move ⟨L, last⟩ dir nm.data.toList dst al.data.toList = R at *
          clear k0 k1 k2 k3
          go_enter Try.func13, Try.ntmps13
          go_wp2_with fail
          refine HRS.out.mono ?_
          rintro e w5 ⟨u, rfl, hnu, hb5, hfu⟩
          have hou : Off F u := off_from hoff (fun k hk => by have := hfl k hk; omega) hfu
          have hoq : Off (fun k => k = w.heap.size + 1 + 1) u := off_from (off_same (F := fun _ => False) N3 h0 (fun _ _ _ _ _ h => h) (fun k hk => Or.inr (by omega))) (fun k hk => by omega) hfu
          obtain ⟨A2, c2, rfl, hA21, hA22⟩ := hnu.form
          unfold maxLen at hA22
          obtain ⟨w6, hw6⟩ : ∃ w', w5.alloc (.cells #[.slice A2 R.1.L.length c2, .int .i64 R.1.last] 29) = w' := ⟨_, rfl⟩
          have U6 : TreeBox w6 w5.heap.size (.slice A2 R.1.L.length c2) R.1.last := by rw [← hw6]; exact heap_top _ _
          have hb6 : Below w5.heap.size w5 w6 := by rw [← hw6]; exact below_one _ _
          have hb56 := on hb5 hb6
          have R6 := R0.below hb56
          have A6 := A0.below hb56
          have hz5 := hb5.size
          have hz6 := hb56.size
          clear t0 t1 a0 a1 a2 a3 a4 a5 a6 r0 r1
          have u0 := U6.c0
          have u1 := U6.c1
          have y0 := R6.c0
          have y1 := R6.c1
          have z0 := R6.fr 0
          have z1 := R6.fr 1
          obtain ⟨a0, a1, a2, a3, a4, a5, a6⟩ := A6.c
          have hlt5 : w5.heap.size < w6.heap.size := U6.lt
          have hne : ¬ w5.heap.size = w.heap.size + 1 + 1 := by omega
          have hne2 : ¬ w.heap.size + 1 = w.heap.size + 1 + 1 := by omega
          go_wp2_with fail
          go_region_held3 (fun w' => w'.cell? ⟨w5.heap.size, 0, none⟩ = some (.slice A2 R.1.L.length c2) ∧ w'.cell? ⟨w5.heap.size, 1, none⟩ = some (.int .i64 R.1.last) ∧ w'.cell? ⟨w.heap.size + 1, 1, none⟩ = some (.int .i64 dir) ∧ w'.cell? ⟨w.heap.size + 1, 2, none⟩ = some (.int .i64 dst) ∧ w'.cell? ⟨w.heap.size + 1, 3, none⟩ = some (.string nm) ∧ w'.cell? ⟨w.heap.size + 1, 4, none⟩ = some (.string al) ∧ w'.cell? ⟨w.heap.size + 1, 6, none⟩ = some (.string dt))
        (first | exact ⟨(TQ _ _).cell v0 hne, (TQ _ _).cell v1 hne, (TQ _ _).cell b1 hne2, (TQ _ _).cell b2 hne2, (TQ _ _).cell b3 hne2, (TQ _ _).cell b4 hne2, (TQ _ _).cell b6 hne2⟩ | exact ⟨v0, v1, b1, b2, b3, b4, b6⟩ | exact ⟨u0, u1, a1, a2, a3, a4, a6⟩ | go_keep)
        (first | (go_at_call 20; refine (HS.out (w6.drewN 1) (hb56.trans ((below_draws w6 1).mono hb56.size))).mono ?_; rintro e w7 ⟨rfl, F', H7, ht7, hF7⟩; have U7 := TreeBox.turns (w := w6.drewN 1) U6 ht7 (hq0 _ (by omega)); have R7 := TreeBox.turns (w := w6.drewN 1) R6 ht7 (hq0 _ (by omega)); have A7 := ActBox.turns (w := w6.drewN 1) A6 ht7 (hq0 _ (by omega)); have v0 := U7.c0; have v1 := U7.c1; have x0 := R7.c0; have x1 := R7.c1; have f0 := R7.fr 0; have f1 := R7.fr 1; obtain ⟨b0, b1, b2, b3, b4, b5, b6⟩ := A7.c; have TQ := turns_box w7 (w.heap.size + 1 + 1)))
          all_goals (go_wp2_with fail)
          all_goals (
            refine bodyPost_ret_by (v := .tuple #[.agg #[.slice A2 R.1.L.length c2, .int .i64 R.1.last], .bool true]) ?_ rfl ?_
            · rw [results_cell_one_tmp rfl]
              go_simp
            · rw [HDA.out]
              have hF7' : ∀ k, F' k → F k ∨ w6.heap.size ≤ k := hF7
              have ht7' : Turns F w6 w7 := ⟨ht7.os, ht7.tape, ht7.output, ht7.size, ht7.block⟩
              exact did_done C rfl H7 (fun k hk => (hF7' k hk).imp id (fun h => by omega)) (fun h => by rcases hF7' _ h with h | h; exact hq0 _ (by omega) h; omega) (by omega) (((Turns.new hb3).trans (Turns.new hb56)).trans (ht7'.wider fun _ h => Or.inl h))
                (turns_box _ _ _ _) ((nodes_turns (nodes_turns (hnu.below hb6) ht7' hou) (turns_box _ _ _ _) hoq).more (by rw [set_size, set_size]; exact Nat.le_trans hb6.size ht7'.size)) (off_same hnu (right_full (C.right H7)) hou (fun k hk => (hF7' k hk).imp id (fun h => Nat.le_trans hb6.size h))))
        · have HDA : Hid (doAct ⟨L, last⟩ act dir dst nm.data.toList al.data.toList kind dt.data.toList = ⟨L, last⟩) := (if_neg k0).trans ((if_neg k1).trans ((if_neg k2).trans (if_neg k3)))
          have tk0 : (act == 0) = false := by simpa using k0
          have tk1 : (act == 1) = false := by simpa using k1
          have tk2 : (act == 2) = false := by simpa using k2
          have tk3 : (act == 3) = false := by simpa using k3
          generalize doAct ⟨L, last⟩ act dir dst nm.data.toList al.data.toList kind dt.data.toList = D at *
          clear k0 k1 k2 k3
          have hoq : Off (fun k => k = w.heap.size + 1 + 1) (.slice A L.length c) := off_same (F := fun _ => False) N3 h0 (fun _ _ _ _ _ h => h) (fun k hk => Or.inr (by omega))
          have z0 := R0.fr 0
          have z1 := R0.fr 1
          go_enter Try.func13, Try.ntmps13
          go_wp2_with fail
          refine bodyPost_ret_by (v := .tuple #[.agg #[.slice A L.length c, .int .i64 last], .bool true]) ?_ rfl ?_
          · rw [results_cell_one_tmp rfl]
            go_simp
          · rw [HDA.out]
            exact did_done C (t' := ⟨L, last⟩) rfl H3 (fun k hk => Or.inl hk) (hq0 (w.heap.size + 1 + 1) (by omega)) (by omega) (Turns.new hb3) (turns_box _ _ _ _) ((nodes_turns N3 (turns_box _ _ _ _) hoq).more (by rw [set_size, set_size]; omega)) hoff
end Go.Proofs.Ytelphegeeiocnaa.W07
