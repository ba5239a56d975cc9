/-
  Texts joined, in build order, each with its own comment and its own conditions: W08Made.
-/
import Derived.Test.YtmbpgjncioegdaaGreatDoorJ07
import Derived.Test.YtmbpgjncioegdaaGreatDoorJ09
import Derived.Test.YtmbpgjncioegdaaGreatDoorJ06
import Derived.Deep.RegionHeld3
/-
  Layer 8 (seek), a walk over the contracts: Made: both trees come to the one that the list of nodes tells; nothing that was there is changed. The conditions stand in the statements.
-/
namespace Go.Proofs.YtmbpgjncioegdaaGreatDoor.W08
set_option maxRecDepth 100000
open Go Go.RowKit Go.Proofs.YtmbpgjncioegdaaGreatDoor.Strs Go.Proofs.YtmbpgjncioegdaaGreatDoor.Recs Go.Proofs.YtmbpgjncioegdaaGreatDoor.Range
open Go.Proofs.YtmbpgjncioegdaaGreatDoor.M07 (Tr nodeAt inDir Right put put_right)
open Go.Proofs.YtmbpgjncioegdaaGreatDoor.M08
open Go.Proofs.YtmbpgjncioegdaaGreatDoor.W07 (Small Trees Nodes FromOr heap_top set_heap set_size Wrote)
open Go.Proofs.YtmbpgjncioegdaaGreatDoor.Kit (ret_str ret_bool ret_int mk_of mk_bytes ba_ext below_draws on)

/-- a slice's own block is none of F -/
def Clear (F : Nat → Prop) (u : Value) : Prop := ∀ b o n c, u = .slice (some ⟨b, o, none⟩) n c → ¬ F b
theorem nodes_on {F : Nat → Prop} {B : Nat} {w w' : World} {v : Value} {L : List M07.Nd} (h : Nodes B w v L) (ht : Turns F w w') (hoff : Clear F v) : Nodes B w' v L := by
  by_cases h0 : 0 < L.length
  · obtain ⟨A, c, rfl, h1, h2⟩ := h.form
    obtain ⟨b, o, _, rfl, hb, hc0, _⟩ := W07.Nodes.at_ h h0
    have hlt := World.block_lt_of_cell? w _ hc0
    exact Recs.other h fun p hp => World.cell?_of_block (ht.block _ (by rw [hp]; exact hlt) (by rw [hp]; exact hoff _ _ _ _ rfl))
  · have e : L = [] := List.length_eq_zero_iff.1 (by omega)
    subst e
    obtain ⟨A, c, rfl, h1, h2, h3⟩ := h
    exact ⟨A, c, rfl, h1, h2, fun h => absurd h (by simp)⟩
theorem clear_from {F : Nat → Prop} {v u : Value} {S : Nat} (hv : Clear F v) (hS : ∀ k, F k → k < S) (hf : FromOr v S u) : Clear F u := by
  rcases hf with rfl | rfl | ⟨g, n, c, rfl, hg⟩
  · exact hv
  · intro b o n c e; cases e
  · intro b o n' c' e hk
    cases e
    have := hS _ hk
    omega
/-- where a slice of nodes lies -/
theorem nodes_lt {B : Nat} {w : World} {v : Value} {L : List M07.Nd} (h : Nodes B w v L) (h0 : 0 < L.length) : ∀ b o n c, v = .slice (some ⟨b, o, none⟩) n c → b < B := by
  rintro b o n c rfl
  obtain ⟨A, c', e, -, -⟩ := h.form
  injection e with e1 e2 e3
  obtain ⟨b', o', _, e, hb, -⟩ := W07.Nodes.at_ h (k := 0) (by omega)
  cases e
  exact hb
def numC (z : Int) : List Value := [.int .i64 z]
theorem numC_len (z : Int) : (numC z).length = 1 := rfl
theorem numC_one (z : Int) : ∀ c ∈ numC z, c.oneCell' = true := by intro c hc; simp [numC] at hc; subst hc; rfl
theorem num_info : (Tryz.prog.info? 3).map (fun i => (i.zero, i.size, i.bytes)) = some (some (.int .i64 0), 1, 8) := by kernel_rfl
theorem one_num (w : World) (z : Int) (t : TypeId) : Recs numC 1 (w.heap.size + 1) (w.alloc (.cells #[.int .i64 z] t)) (.slice (some ⟨w.heap.size, 0, none⟩) 1 1) [z] := by
  refine ⟨_, 1, rfl, Nat.le_refl _, by decide, fun _ => ⟨_, rfl, Nat.lt_succ_self _, fun k hk j hj => ?_⟩⟩
  obtain rfl : k = 0 := by simpa using hk
  obtain rfl : j = 0 := by omega
  exact cells_new w [.int .i64 z] t 0 _ rfl
/-- both trees under way: the program's reads as t1, the plain one as t2 -/
structure HalfAt (Rep : (Nat → Prop) → World → Value → Tr → Prop) (w wr : World) (pv : Value) (t1 t2 : Tr) (nums : List Int) (F : Nat → Prop) (q3 q : Nat) (u s : Value) : Prop where
  rep : Rep F wr pv t1
  fnew : ∀ k, F k → w.heap.size ≤ k
  box : RefBox wr q u t2.last
  res : RefBox wr q3 (.slice none 0 0) 0
  nodes : Nodes wr.heap.size wr u t2.L
  full : 0 < t2.L.length
  row : wr.ownsRow w.heap.size 3 1 s nums.length (nums.flatMap numC)
  offq : ¬ F q
  offq3 : ¬ F q3
  offu : Clear F u
  offs : ∀ k, s.ownBlock = some k → ¬ F k ∧ k ≠ q ∧ k ≠ q3
  offus : Clear (fun k => s.ownBlock = some k) u
  offuq : Clear (fun k => k = q) u
  offuq3 : Clear (fun k => k = q3) u
  qs : q ≠ q3
  newq : w.heap.size ≤ q
  newq3 : w.heap.size ≤ q3
  below : Below w.heap.size w wr
section
variable {Rep : (Nat → Prop) → World → Value → Tr → Prop} {w wr w1 : World} {pv u u' s s' : Value} {t1 t2 t' : Tr} {nums add : List Int} {F F' : Nat → Prop} {q3 q : Nat}
theorem row_on {base : Nat} {e : TypeId} {sz n : Nat} {xs : List Value} (h : wr.ownsRow base e sz s n xs) (ht : Turns F wr w1) (ho : ∀ k, s.ownBlock = some k → ¬ F k) : w1.ownsRow base e sz s n xs := by
  refine ⟨h.1, ?_⟩
  rcases h.2 with hn | ⟨g, cap, cur, hv, hg, hh, rest⟩
  · exact Or.inl hn
  · refine Or.inr ⟨g, cap, cur, hv, hg, ?_, rest⟩
    rw [ht.block g (Array.getElem?_eq_some_iff.1 hh).1 (ho g (by rw [hv]; rfl))]; exact hh
theorem box_on_turns {v : Value} {last : Int} (h : RefBox wr q v last) (ht : Turns F wr w1) (ho : ¬ F q) : RefBox w1 q v last := (ht.block q h.lt ho).trans h
theorem HalfAt.call (C : Trees Rep) (h : HalfAt Rep w wr pv t1 t2 nums F q3 q u s) (hb : Below wr.heap.size wr w1) : HalfAt Rep w w1 pv t1 t2 nums F q3 q u s :=
  ⟨C.below h.rep hb, h.fnew, h.box.below hb, h.res.below hb, (h.nodes.below hb).more hb.size, h.full, row_on h.row (Turns.new (T := fun _ => False) hb) (fun _ _ e => e), h.offq, h.offq3, h.offu, h.offs, h.offus, h.offuq, h.offuq3, h.qs, h.newq, h.newq3, on h.below hb⟩
/-- the program's tree has been written -/
theorem HalfAt.tree (h : HalfAt Rep w wr pv t1 t2 nums F q3 q u s) (H : Rep F' w1 pv t') (ht : Turns F wr w1) (hF : ∀ k, F' k → F k ∨ wr.heap.size ≤ k) : HalfAt Rep w w1 pv t' t2 nums F' q3 q u s := by
  have hsz := ht.size
  have hbs := h.below.size
  have hlt := nodes_lt h.nodes h.full
  have hrl : ∀ k, s.ownBlock = some k → k < wr.heap.size := fun k hk => (h.row.lt k hk).2
  refine ⟨H, fun k hk => (hF k hk).elim (h.fnew k) (fun e => by omega), box_on_turns h.box ht h.offq, box_on_turns h.res ht h.offq3, (nodes_on h.nodes ht h.offu).more hsz, h.full, row_on h.row ht (fun k hk => (h.offs k hk).1), ?_, ?_, ?_, ?_, h.offus, h.offuq, h.offuq3, h.qs, h.newq, h.newq3, h.below.trans (ht.below (fun k hk => h.fnew k hk) hbs)⟩
  · intro e; rcases hF _ e with e | e; exact h.offq e; have := h.box.lt; omega
  · intro e; rcases hF _ e with e | e; exact h.offq3 e; have := h.res.lt; omega
  · intro b o n c e hk; rcases hF _ hk with e2 | e2; exact h.offu _ _ _ _ e e2; have := hlt _ _ _ _ e; omega
  · intro k hk
    refine ⟨fun e => ?_, (h.offs k hk).2⟩
    rcases hF _ e with e | e
    · exact (h.offs k hk).1 e
    · have := hrl k hk; omega
theorem drew_turns (T : Nat → Prop) (w : World) : Turns T w w.drew := ⟨rfl, rfl, rfl, Nat.le_refl _, fun _ _ _ => rfl⟩
theorem turns_two (w : World) (q : Nat) (a b : Value) : Turns (fun k => k = q) w ((w.setCell ⟨q, 0, none⟩ a).setCell ⟨q, 1, none⟩ b) :=
  (Turns.setCell (T := fun k => k = q) (a := ⟨q, 0, none⟩) a rfl).trans (Turns.setCell (T := fun k => k = q) (a := ⟨q, 1, none⟩) b rfl)
/-- the plain tree has been written -/
theorem HalfAt.store (C : Trees Rep) (h : HalfAt Rep w wr pv t1 t2 nums F q3 q u s) {S : Nat} (hnu : Nodes wr.heap.size wr u' t'.L) (hfull : 0 < t'.L.length) (hfu : FromOr u S u') (hF : ∀ k, F k → k < S) (hr : ∀ k, s.ownBlock = some k → k < S) (hqS : q < S) (hq3S : q3 < S) :
    HalfAt Rep w ((wr.setCell ⟨q, 0, none⟩ u').setCell ⟨q, 1, none⟩ (.int .i64 t'.last)) pv t1 t' nums F q3 q u' s := by
  have ht := turns_two wr q u' (.int .i64 t'.last)
  have hbs := h.below.size
  have huq := clear_from h.offuq (fun k hk => by rw [hk]; exact hqS) hfu
  refine ⟨C.keep h.rep (fun k hk => ht.block k (C.low h.rep k hk) (fun e => h.offq (by rw [← e]; exact hk))) ht.size, h.fnew, set_heap (set_heap h.box 0 u') 1 (.int .i64 t'.last), box_on_turns h.res ht (fun e => h.qs e.symm), (nodes_on hnu ht huq).more ht.size, hfull, row_on h.row ht (fun k hk => (h.offs k hk).2.1), h.offq, h.offq3, clear_from h.offu hF hfu, h.offs, clear_from h.offus (fun k hk => hr k hk) hfu, huq, clear_from h.offuq3 (fun k hk => by rw [hk]; exact hq3S) hfu, h.qs, h.newq, h.newq3, h.below.trans (ht.below (fun k hk => by rw [hk]; exact h.newq) hbs)⟩
theorem HalfAt.append (C : Trees Rep) (h : HalfAt Rep w wr pv t1 t2 nums F q3 q u s) (hg : wr.grownBy w1 s.ownBlock) (hr : w1.ownsRow w.heap.size 3 1 s' (nums.length + add.length) (nums.flatMap numC ++ add.flatMap numC)) (hl : ∀ k, s'.ownBlock = some k → s.ownBlock = some k ∨ wr.heap.size ≤ k) : HalfAt Rep w w1 pv t1 t2 (nums ++ add) F q3 q u s' := by
  have ht : Turns (fun k => s.ownBlock = some k) wr w1 := Turns.of_grown hg (fun _ e => e)
  have hlt := nodes_lt h.nodes h.full
  refine ⟨C.keep h.rep (fun k hk => ht.block k (C.low h.rep k hk) (fun e => (h.offs k e).1 hk)) ht.size, h.fnew, box_on_turns h.box ht (fun e => (h.offs _ e).2.1 rfl), box_on_turns h.res ht (fun e => (h.offs _ e).2.2 rfl), (nodes_on h.nodes ht h.offus).more ht.size, h.full, by rw [List.length_append, List.flatMap_append]; exact hr, h.offq, h.offq3, h.offu, ?_, ?_, h.offuq, h.offuq3, h.qs, h.newq, h.newq3, h.below.grown hg h.below.size (fun k hk => (h.row.lt k hk).1)⟩
  · intro k hk
    rcases hl k hk with e | e
    · exact h.offs k e
    · exact ⟨fun e2 => by have := C.low h.rep k e2; omega, fun e2 => by have := h.box.lt; omega, fun e2 => by have := h.res.lt; omega⟩
  · intro b o n c e hk
    rcases hl b hk with e2 | e2
    · exact h.offus _ _ _ _ e e2
    · have := hlt _ _ _ _ e; omega
theorem HalfAt.row_form (h : HalfAt Rep w wr pv t1 t2 nums F q3 q u s) (h0 : 0 < nums.length) : ∃ g cap, s = .slice (some ⟨g, 0, none⟩) nums.length cap ∧ nums.length ≤ cap ∧ cap ≤ maxLen ∧ g < wr.heap.size ∧ ∀ i, i < nums.length → wr.cell? ⟨g, i, none⟩ = some (.int .i64 (nums.getD i 0)) := by
  rcases h.row.2 with ⟨_, hn⟩ | ⟨g, cap, cur, rfl, hg, hh, hn, hcap, hsz, htk⟩
  · omega
  · refine ⟨g, cap, rfl, hn, hcap, (h.row.lt g rfl).2, fun i hi => ?_⟩
    have hf := flat_at numC_len nums i hi 0 (by omega)
    have hc := h.row.cells (g := g) rfl (i * 1 + 0) (.int .i64 nums[i]) (by rw [hf]; rfl)
    rw [Addr.add_lit, Nat.mul_one, Nat.add_zero, Nat.zero_add] at hc
    rw [List.getD_eq_getElem?_getD, List.getElem?_eq_getElem hi]
    exact hc
end
theorem half_start {Rep : (Nat → Prop) → World → Value → Tr → Prop} (C : Trees Rep) {w w3 : World} {pv : Value} {F : Nat → Prop} {g n cu S : Nat} (h : Rep F w3 pv M07.new) (hF : ∀ k, F k → w.heap.size < k) (hFS : ∀ k, F k → k < S) (hg : S ≤ g) (hS : S ≤ w3.heap.size) (hwS : w.heap.size < S)
    (hr : RefBox w3 w.heap.size (.slice none 0 0) 0) (hn : Nodes w3.heap.size w3 (.slice (some ⟨g, 0, none⟩) n cu) M07.new.L) (hb : Below w.heap.size w w3) :
    HalfAt Rep w ((w3.alloc (.cells #[.slice (some ⟨g, 0, none⟩) n cu, .int .i64 M07.new.last] 30)).alloc (.cells #[] 3)) pv M07.new M07.new [] F w.heap.size w3.heap.size (.slice (some ⟨g, 0, none⟩) n cu) (.slice (some ⟨w3.heap.size + 1, 0, none⟩) 0 0) := by
  have hlt := nodes_lt hn (by decide) g 0 n cu rfl
  have hrl := hr.lt
  have ha : Below w3.heap.size w3 (w3.alloc (.cells #[.slice (some ⟨g, 0, none⟩) n cu, .int .i64 M07.new.last] 30)) := (Below.refl _ _).alloc (Nat.le_refl _) _
  have hab : Below w3.heap.size w3 ((w3.alloc (.cells #[.slice (some ⟨g, 0, none⟩) n cu, .int .i64 M07.new.last] 30)).alloc (.cells #[] 3)) := ha.alloc (by rw [World.size_alloc]; omega) _
  refine ⟨C.below h hab, fun k hk => by have := hF k hk; omega, ?_, hr.below hab, (hn.below hab).more hab.size, by decide, ?_, fun e => by have := hFS _ e; omega, fun e => by have := hF _ e; omega, ?_, ?_, ?_, ?_, ?_, by omega, by omega, Nat.le_refl _, on hb hab⟩
  · exact (Below.heap_alloc _ _ _ (by rw [World.size_alloc]; omega)).trans (heap_top _ _)
  · refine ⟨rfl, Or.inr ⟨w3.heap.size + 1, 0, #[], rfl, by have := hb.size; omega, ?_, Nat.le_refl _, Nat.zero_le _, rfl, rfl⟩⟩
    have := heap_top (w3.alloc (.cells #[.slice (some ⟨g, 0, none⟩) n cu, .int .i64 M07.new.last] 30)) (.cells #[] 3)
    rw [World.size_alloc] at this
    exact this
  · intro b o n' c' e hk; cases e; have := hFS _ hk; omega
  · intro k hk
    have e : w3.heap.size + 1 = k := by have : some (w3.heap.size + 1) = some k := hk; injection this
    subst e
    exact ⟨fun e => by have := hFS _ e; omega, by omega, by omega⟩
  · intro b o n' c' e hk
    cases e
    have : some (w3.heap.size + 1) = some g := hk
    injection this with this
    omega
  · intro b o n' c' e hk; cases e; omega
  · intro b o n' c' e hk; cases e; omega
theorem results_tmp_cell {fn : Func} {p t : Tmp} {ty : TypeId} (h : fn.results = #[.tmp t, .cell p ty]) (tmps : Array Value) (P : Program) (w : World) :
    (results fn tmps).run P w = ((asAddr (tmps.getD p undef)).run P w).andThen fun a w₁ => ((loadVar ty a).run P w₁).andThen fun v w₂ => .ok (.tuple #[tmps.getD t undef, v]) w₂ := by
  simp only [results, h]
  simp [Sem.run_bind, Result.andThen]
theorem half_end {Rep : (Nat → Prop) → World → Value → Tr → Prop} (C : Trees Rep) {w wr wf : World} {pv u s : Value} {t : Tr} {nums : List Int} {F : Nat → Prop} {q3 q : Nat} (h : HalfAt Rep w wr pv t t nums F q3 q u s) (ht : Turns (fun k => k = q3) wr wf) (ho : Clear (fun k => k = q3) u) :
    Rep F wf pv t ∧ Nodes wf.heap.size wf u t.L ∧ (∀ k, F k → w.heap.size ≤ k) ∧ Below w.heap.size w wf ∧ Clear F u :=
  ⟨C.keep h.rep (fun k hk => ht.block k (C.low h.rep k hk) (fun e => h.offq3 (by rw [← e]; exact hk))) ht.size, (nodes_on h.nodes ht ho).more ht.size, h.fnew, h.below.trans (ht.below (fun k hk => by rw [hk]; exact h.newq3) h.below.size), h.offu⟩
theorem new_facts {w6 w7 : World} {v0 v1 : Value} {T : TypeId} (hb : Below ((w6.alloc (.cells #[v0, v1] T)).drew).heap.size ((w6.alloc (.cells #[v0, v1] T)).drew) w7) :
    w7.cell? ⟨w6.heap.size, 0, none⟩ = some v0 ∧ w7.cell? ⟨w6.heap.size, 1, none⟩ = some v1 ∧ w7.frozen? ⟨w6.heap.size, 0, none⟩ = false ∧ w7.frozen? ⟨w6.heap.size, 1, none⟩ = false := by
  have hlt : w6.heap.size < ((w6.alloc (.cells #[v0, v1] T)).drew).heap.size := by show _ < (w6.alloc _).heap.size; simp
  have h : ((w6.alloc (.cells #[v0, v1] T)).drew).heap[w6.heap.size]? = some (.cells #[v0, v1] T (0, 0)) := heap_top _ _
  exact ⟨(hb.cell hlt).trans (cell_of_row _ _ 0 _ _ (0, 0) h), (hb.cell hlt).trans (cell_of_row _ _ 1 _ _ (0, 0) h), (hb.frozen hlt).trans (frozen_of_row _ _ 0 _ _ h), (hb.frozen hlt).trans (frozen_of_row _ _ 1 _ _ h)⟩
theorem five_size {w6 w7 : World} {o : Obj} (h : ((w6.alloc o).drew).heap.size ≤ w7.heap.size) : w6.heap.size ≤ w7.heap.size := by
  have h : (w6.alloc o).heap.size ≤ w7.heap.size := h
  rw [World.size_alloc] at h; omega
theorem size_over {w6 : World} {o : Obj} {i : Nat} (h : i < w6.heap.size) : i < ((w6.alloc o).drew).heap.size := by
  show i < (w6.alloc o).heap.size
  rw [World.size_alloc]; omega
theorem clear_new {w6 : World} {v u : Value} {S r : Nat} {L : List M07.Nd} (hf : FromOr v S u) (hS : r < S) (hn : Nodes r w6 v L) (h0 : 0 < L.length) : Clear (fun i => i = r) u := by
  rcases hf with rfl | rfl | ⟨g, n, c, rfl, hg⟩
  · intro b o n c e hk
    have := nodes_lt hn h0 b o n c e
    omega
  · intro b o n c e; cases e
  · intro b o n' c' e hk
    cases e
    omega
theorem two_set {w7 : World} {r : Nat} {x0 x1 a b : Value} (h0 : w7.cell? ⟨r, 0, none⟩ = some x0) (h1 : w7.cell? ⟨r, 1, none⟩ = some x1) : ((w7.setCell ⟨r, 0, none⟩ a).setCell ⟨r, 1, none⟩ b).cell? ⟨r, 0, none⟩ = some a ∧ ((w7.setCell ⟨r, 0, none⟩ a).setCell ⟨r, 1, none⟩ b).cell? ⟨r, 1, none⟩ = some b := by
  have e1 : (w7.setCell ⟨r, 0, none⟩ a).cell? ⟨r, 1, none⟩ = some x1 := (World.cell?_setCell_other _ _ _ _ (by intro e; cases e)).trans h1
  exact ⟨(World.cell?_setCell_other _ _ _ _ (by intro e; cases e)).trans (World.cell?_setCell_same _ _ _ h0), World.cell?_setCell_same _ _ _ e1⟩
section
variable {w6 w' w'' : World} {p q i1 i2 i3 : Nat} {x1 x2 x3 y0 y1 : Value}
theorem five_on (hp : p < w6.heap.size) (hq : q < w6.heap.size) (h : w'.cell? ⟨p, i1, none⟩ = some x1 ∧ w'.cell? ⟨p, i2, none⟩ = some x2 ∧ w'.cell? ⟨p, i3, none⟩ = some x3 ∧ w'.cell? ⟨q, 0, none⟩ = some y0 ∧ w'.cell? ⟨q, 1, none⟩ = some y1 ∧ Below w6.heap.size w6 w') (hb : Below w'.heap.size w' w'') :
    w''.cell? ⟨p, i1, none⟩ = some x1 ∧ w''.cell? ⟨p, i2, none⟩ = some x2 ∧ w''.cell? ⟨p, i3, none⟩ = some x3 ∧ w''.cell? ⟨q, 0, none⟩ = some y0 ∧ w''.cell? ⟨q, 1, none⟩ = some y1 ∧ Below w6.heap.size w6 w'' := by
  obtain ⟨h1, h2, h3, h4, h5, h6⟩ := h
  have hs := h6.size
  exact ⟨(hb.cell (by show p < _; omega)).trans h1, (hb.cell (by show p < _; omega)).trans h2, (hb.cell (by show p < _; omega)).trans h3, (hb.cell (by show q < _; omega)).trans h4, (hb.cell (by show q < _; omega)).trans h5, on h6 hb⟩
theorem five_alloc (hp : p < w6.heap.size) (hq : q < w6.heap.size) (h : w'.cell? ⟨p, i1, none⟩ = some x1 ∧ w'.cell? ⟨p, i2, none⟩ = some x2 ∧ w'.cell? ⟨p, i3, none⟩ = some x3 ∧ w'.cell? ⟨q, 0, none⟩ = some y0 ∧ w'.cell? ⟨q, 1, none⟩ = some y1 ∧ Below w6.heap.size w6 w') (o : Obj) :
    (w'.alloc o).cell? ⟨p, i1, none⟩ = some x1 ∧ (w'.alloc o).cell? ⟨p, i2, none⟩ = some x2 ∧ (w'.alloc o).cell? ⟨p, i3, none⟩ = some x3 ∧ (w'.alloc o).cell? ⟨q, 0, none⟩ = some y0 ∧ (w'.alloc o).cell? ⟨q, 1, none⟩ = some y1 ∧ Below w6.heap.size w6 (w'.alloc o) := five_on hp hq h ((Below.refl _ _).alloc (Nat.le_refl _) o)
theorem five_swap {w7 : World} {o : Obj} (hp : p < w6.heap.size) (hq : q < w6.heap.size) (hs : w6.heap.size ≤ w7.heap.size) (h : (w7.alloc o).cell? ⟨p, i1, none⟩ = some x1 ∧ (w7.alloc o).cell? ⟨p, i2, none⟩ = some x2 ∧ (w7.alloc o).cell? ⟨p, i3, none⟩ = some x3 ∧ (w7.alloc o).cell? ⟨q, 0, none⟩ = some y0 ∧ (w7.alloc o).cell? ⟨q, 1, none⟩ = some y1 ∧ Below w6.heap.size w6 (w7.alloc o)) (o' : Obj) :
    (w7.alloc o').cell? ⟨p, i1, none⟩ = some x1 ∧ (w7.alloc o').cell? ⟨p, i2, none⟩ = some x2 ∧ (w7.alloc o').cell? ⟨p, i3, none⟩ = some x3 ∧ (w7.alloc o').cell? ⟨q, 0, none⟩ = some y0 ∧ (w7.alloc o').cell? ⟨q, 1, none⟩ = some y1 ∧ Below w6.heap.size w6 (w7.alloc o') := by
  obtain ⟨h1, h2, h3, h4, h5, h6⟩ := h
  have hc : ∀ (a j : Nat), a < w6.heap.size → (w7.alloc o').cell? ⟨a, j, none⟩ = (w7.alloc o).cell? ⟨a, j, none⟩ := fun a j ha => (World.cell?_alloc_lt w7 o' ⟨a, j, none⟩ (by show a < _; omega)).trans (World.cell?_alloc_lt w7 o ⟨a, j, none⟩ (by show a < _; omega)).symm
  refine ⟨(hc _ _ hp).trans h1, (hc _ _ hp).trans h2, (hc _ _ hp).trans h3, (hc _ _ hq).trans h4, (hc _ _ hq).trans h5, ⟨h6.os, h6.tape, h6.output, by rw [World.size_alloc]; omega, fun i hi => ?_⟩⟩
  rw [← h6.block i hi, Below.heap_alloc _ _ _ (by omega), Below.heap_alloc _ _ _ (by omega)]
theorem five_set {r j : Nat} {z : Value} (hp : p < w6.heap.size) (hq : q < w6.heap.size) (hr : w6.heap.size ≤ r) (h : w'.cell? ⟨p, i1, none⟩ = some x1 ∧ w'.cell? ⟨p, i2, none⟩ = some x2 ∧ w'.cell? ⟨p, i3, none⟩ = some x3 ∧ w'.cell? ⟨q, 0, none⟩ = some y0 ∧ w'.cell? ⟨q, 1, none⟩ = some y1 ∧ Below w6.heap.size w6 w') :
    (w'.setCell ⟨r, j, none⟩ z).cell? ⟨p, i1, none⟩ = some x1 ∧ (w'.setCell ⟨r, j, none⟩ z).cell? ⟨p, i2, none⟩ = some x2 ∧ (w'.setCell ⟨r, j, none⟩ z).cell? ⟨p, i3, none⟩ = some x3 ∧ (w'.setCell ⟨r, j, none⟩ z).cell? ⟨q, 0, none⟩ = some y0 ∧ (w'.setCell ⟨r, j, none⟩ z).cell? ⟨q, 1, none⟩ = some y1 ∧ Below w6.heap.size w6 (w'.setCell ⟨r, j, none⟩ z) := by
  obtain ⟨h1, h2, h3, h4, h5, h6⟩ := h
  have e1 : (w'.setCell ⟨r, j, none⟩ z).heap[p]? = w'.heap[p]? := Below.heap_setCell _ _ _ _ (by show p ≠ r; omega)
  have e2 : (w'.setCell ⟨r, j, none⟩ z).heap[q]? = w'.heap[q]? := Below.heap_setCell _ _ _ _ (by show q ≠ r; omega)
  exact ⟨(World.cell?_of_block e1).trans h1, (World.cell?_of_block e1).trans h2, (World.cell?_of_block e1).trans h3, (World.cell?_of_block e2).trans h4, (World.cell?_of_block e2).trans h5, h6.setCell hr z⟩
end
/-- the same, and the plain tree lies beside the tree -/
def Makes3 (Rep : (Nat → Prop) → World → Value → Tr → Prop) (t : Tr) (w : World) (e : Ending) (w' : World) : Prop :=
  ∃ pv u F, e = .returned (.tuple #[pv, .agg #[u, .int .i64 t.last]]) ∧ Rep F w' pv t ∧ Nodes w'.heap.size w' u t.L ∧ (∀ k, F k → w.heap.size ≤ k) ∧ Below w.heap.size w w' ∧ Clear F u
-- %made
set_option maxHeartbeats 8000000 in
theorem made_over3 {Rep : (Nat → Prop) → World → Value → Tr → Prop} (C : Trees Rep) (w : World) (v : Value) (L : List Sn) (h : Snodes w.heap.size w v L) (hl : L.length ≤ 60) (hd : ∀ x ∈ L, x.data.length ≤ 2000) :
    Calls Tryz.prog 10 #[v] w (Makes3 Rep (made L).1 w) := by
  have H := Lib.hid h
  obtain ⟨A, c, rfl, hA1, hA2⟩ := h.form
  unfold maxLen at hA2
  clear h
  generalize hm : L.length = m at *
  have HM := Lib.hid hm
  have HD := Lib.hid hd
  clear hm hd
  obtain ⟨w1, hw1⟩ : ∃ w1, w.alloc (.cells #[.slice none 0 0, .int .i64 0] 30) = w1 := ⟨_, rfl⟩
  have B1 : Hid (Below w.heap.size w w1) := by rw [← hw1]; exact (Below.refl _ _).alloc (Nat.le_refl _) _
  have R1 : Hid (RefBox w1 w.heap.size (.slice none 0 0) 0) := by rw [← hw1]; exact RefBox.new _ _ _
  have HN := Lib.hid (C.new w1)
  have HRN := Lib.hid (fun w' => W07.refNew_any w')
  go_enter Tryz.func10, Tryz.ntmps10
  go_wp2_with fail
  clear hw1
  refine HN.out.mono ?_
  rintro e w2 ⟨pv, F, rfl, hrep, hnew, hb2⟩
  have R2 := Lib.hid (R1.out.below hb2)
  have B2 := Lib.hid (on B1.out hb2)
  have P2 := Lib.hid hrep
  have HF2 : Hid (∀ k, F k → w.heap.size < k) := fun k hk => Nat.lt_of_lt_of_le R1.out.lt (hnew k hk)
  clear hrep hnew hb2 R1 HN
  go_wp2_with fail
  refine (HRN.out w2).mono ?_
  rintro e w3 ⟨u, rfl, hnu, hb3, g, n, cu, rfl, hg⟩
  have R3 := Lib.hid (R2.out.below hb3)
  have B3 := Lib.hid (on B2.out hb3)
  have P3 := Lib.hid (C.below P2.out hb3)
  have N3 := Lib.hid hnu
  have HG := Lib.hid hg
  have HL3 := Lib.hid (C.low P2.out)
  have HQ3 := Lib.hid R2.out.lt
  have hs3 := hb3.size
  clear hnu hg hb3 R2 HRN
  have H5 := Lib.hid (half_start C P3.out HF2.out HL3.out HG.out hs3 HQ3.out R3.out N3.out B3.out)
  obtain ⟨w5, hw5⟩ : ∃ w5, (w3.alloc (.cells #[.slice (some ⟨g, 0, none⟩) n cu, .int .i64 M07.new.last] 30)).alloc (.cells #[] 3) = w5 := ⟨_, rfl⟩
  rw [hw5] at H5
  obtain ⟨q, hq⟩ : ∃ q, w3.heap.size = q := ⟨_, rfl⟩
  rw [hq] at H5
  go_wp2_with fail
  clear hw5 R3 B3 P3 N3 HG HL3 HQ3 HF2 B2 P2 B1 hs3
  go_loopw [6, 7] (fun u6 u7 wr => ∃ (k : Nat) (F : Nat → Prop) (u s : Value), u6 = s ∧ u7 = .int .i64 k ∧ k ≤ m ∧ Hid (HalfAt Rep w wr pv (made (L.take k)).1 (made (L.take k)).1 (made (L.take k)).2 F w.heap.size q u s)) (fun _ u7 _ => m - (intOf u7).toNat)
  case atStart => exact ⟨0, F, _, _, rfl, rfl, Nat.zero_le _, H5⟩
  case round =>
    clear H5 hq
    obtain ⟨k, F, u, s, hus, rfl, hk, hg⟩ := hrel
    have hus := hus.symm
    subst hus
    by_cases hlt : k < m
-- %round
    · have hk2 : k < L.length := by rw [HM.out]; exact hlt
      obtain ⟨b, off, hl1, rfl, hbl, hc0, hc1, hc2, hc3⟩ := Snodes.at_ (H.out.below hg.out.below) hlt
      have hbw : b < wr.heap.size := Nat.lt_of_lt_of_le hbl hg.out.below.size
      have HI := Lib.hid (made_is L k (by omega))
      have HX := Lib.hid (made_next hk2)
      have hxd := HD.out _ (List.getElem_mem hk2)
      generalize L[k] = x at *
      generalize made (L.take k) = st at *
      obtain ⟨T, NL⟩ := st
      obtain ⟨inn, nm, kd, dt⟩ := x
      replace hg : Hid (HalfAt Rep w wr pv T T NL F w.heap.size q u s) := hg.out
      replace hxd : dt.length ≤ 2000 := hxd
      replace hc0 : wr.cell? ⟨b, off + k * 4, none⟩ = some (.int .i64 inn) := hc0
      replace hc2 : wr.cell? ⟨b, off + k * 4 + 2, none⟩ = some (.int .i64 kd) := hc2
      obtain ⟨nmb, hnm⟩ : ∃ z : ByteArray, z.data.toList = nm := ⟨⟨nm.toArray⟩, rfl⟩
      obtain ⟨dtb, hdt⟩ : ∃ z : ByteArray, z.data.toList = dt := ⟨⟨dt.toArray⟩, rfl⟩
      replace hc1 : wr.cell? ⟨b, off + k * 4 + 1, none⟩ = some (.string nmb) := by rw [hc1]; show some (Value.string ⟨nm.toArray⟩) = _; rw [← hnm, show (⟨nmb.data.toList.toArray⟩ : ByteArray) = nmb from mk_bytes nmb]
      replace hc3 : wr.cell? ⟨b, off + k * 4 + 3, none⟩ = some (.string dtb) := by rw [hc3]; show some (Value.string ⟨dt.toArray⟩) = _; rw [← hdt, show (⟨dtb.data.toList.toArray⟩ : ByteArray) = dtb from mk_bytes dtb]
      have hds : dtb.size ≤ maxLen := by rw [Lib.size_eq, hdt]; unfold maxLen; omega
      replace HX : Hid (made (L.take (k + 1)) = ((put T (madeDir NL inn) nmb.data.toList kd dtb.data.toList).1, NL ++ [(put T (madeDir NL inn) nmb.data.toList kd dtb.data.toList).2.1])) := by rw [hnm, hdt]; exact HX.out
      have hcn : NL.length = k := HI.out.count
      have hlen := HI.out.len
      have hlast := HI.out.last
      have hlast1 : 1 ≤ T.last := by
        obtain ⟨r, hr⟩ := HI.out.right.root
        have := HI.out.right.ends ⟨1, 1, [], 1, []⟩ (by rw [hr]; exact List.mem_cons_self)
        exact this.2
      replace hlen : T.L.length ≤ k + 1 := hlen
      replace hlast : T.last ≤ k + 1 := hlast
      obtain ⟨Au, cu2, rfl, hu1, hu2⟩ := hg.out.nodes.form
      unfold maxLen at hu2
      have HDS := Lib.hid hds
      have HL60 := Lib.hid hl
      clear hnm hdt hxd hds
      by_cases ha : inn < 0
      · have HDD : Hid (madeDir NL inn = 1) := if_neg (by omega)
        have ta : ¬ (0 : Int) ≤ inn := by omega
        have hsm : Small T := ⟨by show T.L.length ≤ _; omega, by show T.last ≤ _; omega⟩
        have HP := Lib.hid (C.put (C.keep (w' := wr.drewN 1) hg.out.rep (fun _ _ => rfl) (Nat.le_refl _)) hsm 1 nmb kd dtb HDS.out)
        have HRP := Lib.hid (fun (w' : World) (h : Nodes w'.heap.size w' (.slice Au T.L.length cu2) T.L) => W07.refPut_any (.slice Au T.L.length cu2) T.L T.last 1 kd nmb dtb HDS.out w' h (by omega) hg.out.full (by omega) (by omega))
        replace HX : Hid (made (L.take (k + 1)) = ((put T 1 nmb.data.toList kd dtb.data.toList).1, NL ++ [(put T 1 nmb.data.toList kd dtb.data.toList).2.1])) := by have := HX.out; rw [HDD.out] at this; exact this
        have hfull2 : 0 < (put T 1 nmb.data.toList kd dtb.data.toList).1.L.length := W07.right_full (put_right HI.out.right)
        have HFU := Lib.hid hfull2
        replace HRP : Hid (∀ (w' : World), Nodes w'.heap.size w' (.slice Au T.L.length cu2) T.L → Calls Tryz.prog 27 #[.agg #[.slice Au T.L.length cu2, .int .i64 T.last], .int .i64 1, .string nmb, .int .i64 kd, .string dtb] w' (W07.TreePut (.slice Au T.L.length cu2) w' (put T 1 nmb.data.toList kd dtb.data.toList))) := HRP.out
        clear hfull2 HDD
        generalize put T 1 nmb.data.toList kd dtb.data.toList = R at *
        go_wp2_with fail
        go_region_held3 (fun w' => w'.cell? ⟨b, off + k * 4 + 1, none⟩ = some (.string nmb) ∧ w'.cell? ⟨b, off + k * 4 + 2, none⟩ = some (.int .i64 kd) ∧ w'.cell? ⟨b, off + k * 4 + 3, none⟩ = some (.string dtb))
          (first | exact ⟨v1, v2, v3⟩ | exact ⟨hc1, hc2, hc3⟩ | go_keep)
          (first | (go_at_call 26; refine HP.out.mono ?_; rintro e w6 ⟨rfl, F6, H6, ht6, hF6⟩; have ht6 : Turns F wr w6 := ⟨ht6.os, ht6.tape, ht6.output, ht6.size, ht6.block⟩; have hF6 : ∀ k, F6 k → F k ∨ wr.heap.size ≤ k := hF6; have hnb : ¬ F b := fun e => absurd (hg.out.fnew b e) (by omega); have v1 := ht6.cell hc1 hnb; have v2 := ht6.cell hc2 hnb; have v3 := ht6.cell hc3 hnb))
        have G6 := Lib.hid (hg.out.tree H6 ht6 hF6)
        have HLW := Lib.hid (C.low G6.out.rep)
        have HRW : Hid (∀ i, (s : Value).ownBlock = some i → i < w6.heap.size) := fun i hi => (G6.out.row.lt i hi).2
        have HQW := Lib.hid G6.out.box.lt
        have HQ3W := Lib.hid G6.out.res.lt
        have hs6 := ht6.size
        have y0 := G6.out.box.c0
        have y1 := G6.out.box.c1
        have hb6 : b < w6.heap.size := by omega
        have hqlt := G6.out.box.lt
        clear H6 ht6 hF6 hc1 hc2 hc3 HP hg hsm
        have HRP6 := Lib.hid (fun (w' : World) (hb : Below w6.heap.size w6 w') => HRP.out w' ((G6.out.nodes.below hb).more hb.size))
        clear HRP
        go_wp2_with fail
        go_region_held3 (fun w' => w'.cell? ⟨b, off + k * 4 + 1, none⟩ = some (.string nmb) ∧ w'.cell? ⟨b, off + k * 4 + 2, none⟩ = some (.int .i64 kd) ∧ w'.cell? ⟨b, off + k * 4 + 3, none⟩ = some (.string dtb) ∧ w'.cell? ⟨q, 0, none⟩ = some (.slice Au T.L.length cu2) ∧ w'.cell? ⟨q, 1, none⟩ = some (.int .i64 T.last) ∧ Below w6.heap.size w6 w')
          (first | exact five_on hb6 hqlt (by assumption) hb7 | exact ⟨v1, v2, v3, y0, y1, (Below.refl _ _).drew⟩ | exact five_alloc hb6 hqlt (by assumption) _ | exact five_swap hb6 hqlt hs7 (by assumption) _ | exact five_set hb6 hqlt (Nat.le_refl _) (five_set hb6 hqlt (Nat.le_refl _) (by assumption)) | go_keep)
          (first
            | (go_at_call 27; refine (HRP6.out w6.drew (Below.refl _ _).drew).mono ?_; rintro e w7 ⟨u7, rfl, hnu, hb7, hfu⟩; have hs7 : w6.heap.size ≤ w7.heap.size := hb7.size; obtain ⟨A7, c7, hu7, hu71, hu72⟩ := hnu.form; subst hu7; unfold maxLen at hu72)
            | (go_at_call 27; refine (HRP6.out (w6.alloc (.cells #[.slice none 0 0, .int .i64 0] 30)).drew ((Below.refl w6.heap.size w6).alloc (Nat.le_refl _) _).drew).mono ?_; rintro e w7 ⟨u7, rfl, hnu, hb7, hfu⟩; obtain ⟨d0, d1, g0, g1⟩ := new_facts hb7; have hs7 : w6.heap.size ≤ w7.heap.size := five_size hb7.size; obtain ⟨A7, c7, hu7, hu71, hu72⟩ := hnu.form; subst hu7; unfold maxLen at hu72))
        · have hb7' : Below w6.heap.size w6 w7 := ⟨hb7.os, hb7.tape, hb7.output, hb7.size, hb7.block⟩
          have G8 := Lib.hid (G6.out.call C (hb7'.alloc hs7 (.cells #[.slice A7 R.1.L.length c7, .int .i64 R.1.last] 30)))
          have G9 := Lib.hid (G8.out.store C (S := w6.heap.size) ((hnu.below ((Below.refl w7.heap.size w7).alloc (Nat.le_refl _) (.cells #[.slice A7 R.1.L.length c7, .int .i64 R.1.last] 30))).more (by rw [World.size_alloc]; omega)) HFU.out hfu HLW.out HRW.out HQW.out HQ3W.out)
          clear hb7 hb7' hnu hfu
          have c0 := G8.out.box.c0
          have c1 := G8.out.box.c1
          have f0 := G8.out.box.fr 0
          have f1 := G8.out.box.fr 1
          obtain ⟨w9, hw9⟩ : ∃ w9, ((w7.alloc (.cells #[.slice A7 R.1.L.length c7, .int .i64 R.1.last] 30)).setCell ⟨q, 0, none⟩ (.slice A7 R.1.L.length c7)).setCell ⟨q, 1, none⟩ (.int .i64 R.1.last) = w9 := ⟨_, rfl⟩
          rw [hw9] at G9
          have G10 := Lib.hid (G9.out.call C ((Below.refl w9.heap.size w9).alloc (Nat.le_refl _) (.cells #[.int .i64 R.2.1] 3)))
          have HON : Hid (Recs numC 1 (w9.heap.size + 1) (w9.alloc (.cells #[.int .i64 R.2.1] 3)) (.slice (some ⟨w9.heap.size, 0, none⟩) 1 1) [R.2.1]) := one_num w9 _ _
          have A1 : Hid (NL.length + [R.2.1].length ≤ maxLen) := by show _ ≤ _; simp only [List.length_cons, List.length_nil]; unfold maxLen; omega
          have A2 : Hid ((NL.length + [R.2.1].length) * 8 ≤ 140737488355328) := by show _ ≤ _; simp only [List.length_cons, List.length_nil]; omega
          have A3 : Hid (w.heap.size ≤ (w9.alloc (.cells #[.int .i64 R.2.1] 3)).heap.size) := G10.out.below.size
          obtain ⟨i0, hi, hz0, hz1, hz2⟩ := info_parts num_info
          have HI0 := Lib.hid hi
          have Z0 := Lib.hid hz0
          have Z1 := Lib.hid hz1
          have Z2 := Lib.hid hz2
          clear hi hz0 hz1 hz2 y0 y1 v1 v2 v3 hcn hlen hlast hlast1
          go_wp2_with (at_builtin; refine wpList_append_recs rfl (.tmp 85) (.tmp 87) 61 rfl w.heap.size 3 i0 (.int .i64 0) 1 8 Tryz.underlying61 HI0.out Z0.out Z1.out Z2.out rfl (by decide) _ _ _ rfl G10.out.row _ [R.2.1] _ rfl HON.out numC_len numC_one A1.out A2.out A3.out ?_; intro v11 w11 hown11 hgrow11 hloc11)
          have G11 := Lib.hid (G10.out.append C hgrow11 hown11 hloc11)
          clear hw9 hown11 hgrow11 hloc11 c0 c1 f0 f1
          go_wp2_with fail
          go_roundw
          case rel => exact ⟨k + 1, F6, _, _, rfl, by go_num, by omega, by rw [HX.out]; exact G11.out⟩
          case measure => simp [intOf]; omega
        · have hb7' : Below w6.heap.size w6 w7 := ((Below.refl w6.heap.size w6).alloc (Nat.le_refl _) (.cells #[.slice none 0 0, .int .i64 0] 30)).trans (Below.mono (B := (w6.alloc (.cells #[.slice none 0 0, .int .i64 0] 30)).heap.size) ⟨hb7.os, hb7.tape, hb7.output, hb7.size, hb7.block⟩ (by rw [World.size_alloc]; omega))
          have hcl : Clear (fun i => i = w6.heap.size) (.slice A7 R.1.L.length c7) := clear_new hfu (by
            show w6.heap.size < (w6.alloc _).heap.size
            rw [World.size_alloc]; omega) G6.out.nodes G6.out.full
          have G8 := Lib.hid (G6.out.call C ((hb7'.setCell (p := ⟨w6.heap.size, 0, none⟩) (Nat.le_refl _) (.slice A7 R.1.L.length c7)).setCell (p := ⟨w6.heap.size, 1, none⟩) (Nat.le_refl _) (.int .i64 R.1.last)))
          have G9 := Lib.hid (G8.out.store C (S := ((w6.alloc (.cells #[.slice none 0 0, .int .i64 0] 30)).drew).heap.size) ((nodes_on hnu (turns_two w7 w6.heap.size (.slice A7 R.1.L.length c7) (.int .i64 R.1.last)) hcl).more (turns_two w7 w6.heap.size (.slice A7 R.1.L.length c7) (.int .i64 R.1.last)).size) HFU.out hfu (fun i hi => size_over (HLW.out i hi)) (fun i hi => size_over (HRW.out i hi)) (size_over HQW.out) (size_over HQ3W.out))
          have u0 : ((w7.setCell ⟨w6.heap.size, 0, none⟩ (.slice A7 R.1.L.length c7)).setCell ⟨w6.heap.size, 1, none⟩ (.int .i64 R.1.last)).cell? ⟨w6.heap.size, 0, none⟩ = some (.slice A7 R.1.L.length c7) := (two_set d0 d1).1
          have u1 : ((w7.setCell ⟨w6.heap.size, 0, none⟩ (.slice A7 R.1.L.length c7)).setCell ⟨w6.heap.size, 1, none⟩ (.int .i64 R.1.last)).cell? ⟨w6.heap.size, 1, none⟩ = some (.int .i64 R.1.last) := (two_set d0 d1).2
          clear hb7 hb7' hnu hfu hcl d0 d1 g0 g1
          have c0 := G8.out.box.c0
          have c1 := G8.out.box.c1
          have f0 := G8.out.box.fr 0
          have f1 := G8.out.box.fr 1
          obtain ⟨w9, hw9⟩ : ∃ w9, (((w7.setCell ⟨w6.heap.size, 0, none⟩ (.slice A7 R.1.L.length c7)).setCell ⟨w6.heap.size, 1, none⟩ (.int .i64 R.1.last)).setCell ⟨q, 0, none⟩ (.slice A7 R.1.L.length c7)).setCell ⟨q, 1, none⟩ (.int .i64 R.1.last) = w9 := ⟨_, rfl⟩
          rw [hw9] at G9
          have G10 := Lib.hid (G9.out.call C ((Below.refl w9.heap.size w9).alloc (Nat.le_refl _) (.cells #[.int .i64 R.2.1] 3)))
          have HON : Hid (Recs numC 1 (w9.heap.size + 1) (w9.alloc (.cells #[.int .i64 R.2.1] 3)) (.slice (some ⟨w9.heap.size, 0, none⟩) 1 1) [R.2.1]) := one_num w9 _ _
          have A1 : Hid (NL.length + [R.2.1].length ≤ maxLen) := by show _ ≤ _; simp only [List.length_cons, List.length_nil]; unfold maxLen; omega
          have A2 : Hid ((NL.length + [R.2.1].length) * 8 ≤ 140737488355328) := by show _ ≤ _; simp only [List.length_cons, List.length_nil]; omega
          have A3 : Hid (w.heap.size ≤ (w9.alloc (.cells #[.int .i64 R.2.1] 3)).heap.size) := G10.out.below.size
          obtain ⟨i0, hi, hz0, hz1, hz2⟩ := info_parts num_info
          have HI0 := Lib.hid hi
          have Z0 := Lib.hid hz0
          have Z1 := Lib.hid hz1
          have Z2 := Lib.hid hz2
          clear hi hz0 hz1 hz2 y0 y1 v1 v2 v3 hcn hlen hlast hlast1
          go_wp2_with (at_builtin; refine wpList_append_recs rfl (.tmp 85) (.tmp 87) 61 rfl w.heap.size 3 i0 (.int .i64 0) 1 8 Tryz.underlying61 HI0.out Z0.out Z1.out Z2.out rfl (by decide) _ _ _ rfl G10.out.row _ [R.2.1] _ rfl HON.out numC_len numC_one A1.out A2.out A3.out ?_; intro v11 w11 hown11 hgrow11 hloc11)
          have G11 := Lib.hid (G10.out.append C hgrow11 hown11 hloc11)
          clear hw9 hown11 hgrow11 hloc11 c0 c1 f0 f1
          go_wp2_with fail
          go_roundw
          case rel => exact ⟨k + 1, F6, _, _, rfl, by go_num, by omega, by rw [HX.out]; exact G11.out⟩
          case measure => simp [intOf]; omega
      · by_cases hb : inn < (k : Int)
        · obtain ⟨j, rfl⟩ : ∃ j : Nat, inn = (j : Int) := ⟨inn.toNat, by omega⟩
          have hjk : j < k := by omega
          obtain ⟨gN, capN, rfl, hN1, hN2, hN3, hN4⟩ := hg.out.row_form (by omega)
          have hcj := hN4 j (by omega)
          have HDD : Hid (madeDir NL (j : Int) = NL.getD j 0) := (if_pos (by rw [hcn]; omega)).trans (by simp)
          rw [hcn] at hg hN1
          rw [hcn]
          generalize NL.getD j 0 = dj at *
          clear ha hb hN3 hN4
          unfold maxLen at hN2
          have hj0 : (0 : Int) ≤ (j : Int) := by omega
          have hj1 : (j : Int) < (k : Int) := by omega
          have hsm : Small T := ⟨by show T.L.length ≤ _; omega, by show T.last ≤ _; omega⟩
          have HP := Lib.hid (C.put (C.keep (w' := wr.drewN 1) hg.out.rep (fun _ _ => rfl) (Nat.le_refl _)) hsm dj nmb kd dtb HDS.out)
          have HRP := Lib.hid (fun (w' : World) (h : Nodes w'.heap.size w' (.slice Au T.L.length cu2) T.L) => W07.refPut_any (.slice Au T.L.length cu2) T.L T.last dj kd nmb dtb HDS.out w' h (by omega) hg.out.full (by omega) (by omega))
          replace HX : Hid (made (L.take (k + 1)) = ((put T dj nmb.data.toList kd dtb.data.toList).1, NL ++ [(put T dj nmb.data.toList kd dtb.data.toList).2.1])) := by have := HX.out; rw [HDD.out] at this; exact this
          have hfull2 : 0 < (put T dj nmb.data.toList kd dtb.data.toList).1.L.length := W07.right_full (put_right HI.out.right)
          have HFU := Lib.hid hfull2
          replace HRP : Hid (∀ (w' : World), Nodes w'.heap.size w' (.slice Au T.L.length cu2) T.L → Calls Tryz.prog 27 #[.agg #[.slice Au T.L.length cu2, .int .i64 T.last], .int .i64 dj, .string nmb, .int .i64 kd, .string dtb] w' (W07.TreePut (.slice Au T.L.length cu2) w' (put T dj nmb.data.toList kd dtb.data.toList))) := HRP.out
          clear hfull2 HDD
          generalize put T dj nmb.data.toList kd dtb.data.toList = R at *
          go_wp2_with fail
          go_region_held3 (fun w' => w'.cell? ⟨b, off + k * 4 + 1, none⟩ = some (.string nmb) ∧ w'.cell? ⟨b, off + k * 4 + 2, none⟩ = some (.int .i64 kd) ∧ w'.cell? ⟨b, off + k * 4 + 3, none⟩ = some (.string dtb))
            (first | exact ⟨v1, v2, v3⟩ | exact ⟨hc1, hc2, hc3⟩ | go_keep)
            (first | (go_at_call 26; refine HP.out.mono ?_; rintro e w6 ⟨rfl, F6, H6, ht6, hF6⟩; have ht6 : Turns F wr w6 := ⟨ht6.os, ht6.tape, ht6.output, ht6.size, ht6.block⟩; have hF6 : ∀ k, F6 k → F k ∨ wr.heap.size ≤ k := hF6; have hnb : ¬ F b := fun e => absurd (hg.out.fnew b e) (by omega); have v1 := ht6.cell hc1 hnb; have v2 := ht6.cell hc2 hnb; have v3 := ht6.cell hc3 hnb))
          have G6 := Lib.hid (hg.out.tree H6 ht6 hF6)
          have HLW := Lib.hid (C.low G6.out.rep)
          have HRW : Hid (∀ i, (.slice (some ⟨gN, 0, none⟩) k capN : Value).ownBlock = some i → i < w6.heap.size) := fun i hi => (G6.out.row.lt i hi).2
          have HQW := Lib.hid G6.out.box.lt
          have HQ3W := Lib.hid G6.out.res.lt
          have hs6 := ht6.size
          have y0 := G6.out.box.c0
          have y1 := G6.out.box.c1
          have hb6 : b < w6.heap.size := by omega
          have hqlt := G6.out.box.lt
          clear H6 ht6 hF6 hc1 hc2 hc3 HP hg hsm
          have HRP6 := Lib.hid (fun (w' : World) (hb : Below w6.heap.size w6 w') => HRP.out w' ((G6.out.nodes.below hb).more hb.size))
          clear HRP
          go_wp2_with fail
          go_region_held3 (fun w' => w'.cell? ⟨b, off + k * 4 + 1, none⟩ = some (.string nmb) ∧ w'.cell? ⟨b, off + k * 4 + 2, none⟩ = some (.int .i64 kd) ∧ w'.cell? ⟨b, off + k * 4 + 3, none⟩ = some (.string dtb) ∧ w'.cell? ⟨q, 0, none⟩ = some (.slice Au T.L.length cu2) ∧ w'.cell? ⟨q, 1, none⟩ = some (.int .i64 T.last) ∧ Below w6.heap.size w6 w')
            (first | exact five_on hb6 hqlt (by assumption) hb7 | exact ⟨v1, v2, v3, y0, y1, (Below.refl _ _).drew⟩ | exact five_alloc hb6 hqlt (by assumption) _ | exact five_swap hb6 hqlt hs7 (by assumption) _ | exact five_set hb6 hqlt (Nat.le_refl _) (five_set hb6 hqlt (Nat.le_refl _) (by assumption)) | go_keep)
            (first
              | (go_at_call 27; refine (HRP6.out w6.drew (Below.refl _ _).drew).mono ?_; rintro e w7 ⟨u7, rfl, hnu, hb7, hfu⟩; have hs7 : w6.heap.size ≤ w7.heap.size := hb7.size; obtain ⟨A7, c7, hu7, hu71, hu72⟩ := hnu.form; subst hu7; unfold maxLen at hu72)
              | (go_at_call 27; refine (HRP6.out (w6.alloc (.cells #[.slice none 0 0, .int .i64 0] 30)).drew ((Below.refl w6.heap.size w6).alloc (Nat.le_refl _) _).drew).mono ?_; rintro e w7 ⟨u7, rfl, hnu, hb7, hfu⟩; obtain ⟨d0, d1, g0, g1⟩ := new_facts hb7; have hs7 : w6.heap.size ≤ w7.heap.size := five_size hb7.size; obtain ⟨A7, c7, hu7, hu71, hu72⟩ := hnu.form; subst hu7; unfold maxLen at hu72))
          · have hb7' : Below w6.heap.size w6 w7 := ⟨hb7.os, hb7.tape, hb7.output, hb7.size, hb7.block⟩
            have G8 := Lib.hid (G6.out.call C (hb7'.alloc hs7 (.cells #[.slice A7 R.1.L.length c7, .int .i64 R.1.last] 30)))
            have G9 := Lib.hid (G8.out.store C (S := w6.heap.size) ((hnu.below ((Below.refl w7.heap.size w7).alloc (Nat.le_refl _) (.cells #[.slice A7 R.1.L.length c7, .int .i64 R.1.last] 30))).more (by rw [World.size_alloc]; omega)) HFU.out hfu HLW.out HRW.out HQW.out HQ3W.out)
            clear hb7 hb7' hnu hfu
            have c0 := G8.out.box.c0
            have c1 := G8.out.box.c1
            have f0 := G8.out.box.fr 0
            have f1 := G8.out.box.fr 1
            obtain ⟨w9, hw9⟩ : ∃ w9, ((w7.alloc (.cells #[.slice A7 R.1.L.length c7, .int .i64 R.1.last] 30)).setCell ⟨q, 0, none⟩ (.slice A7 R.1.L.length c7)).setCell ⟨q, 1, none⟩ (.int .i64 R.1.last) = w9 := ⟨_, rfl⟩
            rw [hw9] at G9
            have G10 := Lib.hid (G9.out.call C ((Below.refl w9.heap.size w9).alloc (Nat.le_refl _) (.cells #[.int .i64 R.2.1] 3)))
            have HON : Hid (Recs numC 1 (w9.heap.size + 1) (w9.alloc (.cells #[.int .i64 R.2.1] 3)) (.slice (some ⟨w9.heap.size, 0, none⟩) 1 1) [R.2.1]) := one_num w9 _ _
            have A1 : Hid (NL.length + [R.2.1].length ≤ maxLen) := by show _ ≤ _; simp only [List.length_cons, List.length_nil]; unfold maxLen; omega
            have A2 : Hid ((NL.length + [R.2.1].length) * 8 ≤ 140737488355328) := by show _ ≤ _; simp only [List.length_cons, List.length_nil]; omega
            have A3 : Hid (w.heap.size ≤ (w9.alloc (.cells #[.int .i64 R.2.1] 3)).heap.size) := G10.out.below.size
            obtain ⟨i0, hi, hz0, hz1, hz2⟩ := info_parts num_info
            have HI0 := Lib.hid hi
            have Z0 := Lib.hid hz0
            have Z1 := Lib.hid hz1
            have Z2 := Lib.hid hz2
            clear hi hz0 hz1 hz2 y0 y1 v1 v2 v3 hcn hlen hlast hlast1
            go_wp2_with (at_builtin; refine wpList_append_recs rfl (.tmp 85) (.tmp 87) 61 rfl w.heap.size 3 i0 (.int .i64 0) 1 8 Tryz.underlying61 HI0.out Z0.out Z1.out Z2.out rfl (by decide) _ _ _ rfl G10.out.row _ [R.2.1] _ rfl HON.out numC_len numC_one A1.out A2.out A3.out ?_; intro v11 w11 hown11 hgrow11 hloc11)
            have G11 := Lib.hid (G10.out.append C hgrow11 hown11 hloc11)
            clear hw9 hown11 hgrow11 hloc11 c0 c1 f0 f1
            go_wp2_with fail
            go_roundw
            case rel => exact ⟨k + 1, F6, _, _, rfl, by go_num, by omega, by rw [HX.out]; exact G11.out⟩
            case measure => simp [intOf]; omega
          · have hb7' : Below w6.heap.size w6 w7 := ((Below.refl w6.heap.size w6).alloc (Nat.le_refl _) (.cells #[.slice none 0 0, .int .i64 0] 30)).trans (Below.mono (B := (w6.alloc (.cells #[.slice none 0 0, .int .i64 0] 30)).heap.size) ⟨hb7.os, hb7.tape, hb7.output, hb7.size, hb7.block⟩ (by rw [World.size_alloc]; omega))
            have hcl : Clear (fun i => i = w6.heap.size) (.slice A7 R.1.L.length c7) := clear_new hfu (by
              show w6.heap.size < (w6.alloc _).heap.size
              rw [World.size_alloc]; omega) G6.out.nodes G6.out.full
            have G8 := Lib.hid (G6.out.call C ((hb7'.setCell (p := ⟨w6.heap.size, 0, none⟩) (Nat.le_refl _) (.slice A7 R.1.L.length c7)).setCell (p := ⟨w6.heap.size, 1, none⟩) (Nat.le_refl _) (.int .i64 R.1.last)))
            have G9 := Lib.hid (G8.out.store C (S := ((w6.alloc (.cells #[.slice none 0 0, .int .i64 0] 30)).drew).heap.size) ((nodes_on hnu (turns_two w7 w6.heap.size (.slice A7 R.1.L.length c7) (.int .i64 R.1.last)) hcl).more (turns_two w7 w6.heap.size (.slice A7 R.1.L.length c7) (.int .i64 R.1.last)).size) HFU.out hfu (fun i hi => size_over (HLW.out i hi)) (fun i hi => size_over (HRW.out i hi)) (size_over HQW.out) (size_over HQ3W.out))
            have u0 : ((w7.setCell ⟨w6.heap.size, 0, none⟩ (.slice A7 R.1.L.length c7)).setCell ⟨w6.heap.size, 1, none⟩ (.int .i64 R.1.last)).cell? ⟨w6.heap.size, 0, none⟩ = some (.slice A7 R.1.L.length c7) := (two_set d0 d1).1
            have u1 : ((w7.setCell ⟨w6.heap.size, 0, none⟩ (.slice A7 R.1.L.length c7)).setCell ⟨w6.heap.size, 1, none⟩ (.int .i64 R.1.last)).cell? ⟨w6.heap.size, 1, none⟩ = some (.int .i64 R.1.last) := (two_set d0 d1).2
            clear hb7 hb7' hnu hfu hcl d0 d1 g0 g1
            have c0 := G8.out.box.c0
            have c1 := G8.out.box.c1
            have f0 := G8.out.box.fr 0
            have f1 := G8.out.box.fr 1
            obtain ⟨w9, hw9⟩ : ∃ w9, (((w7.setCell ⟨w6.heap.size, 0, none⟩ (.slice A7 R.1.L.length c7)).setCell ⟨w6.heap.size, 1, none⟩ (.int .i64 R.1.last)).setCell ⟨q, 0, none⟩ (.slice A7 R.1.L.length c7)).setCell ⟨q, 1, none⟩ (.int .i64 R.1.last) = w9 := ⟨_, rfl⟩
            rw [hw9] at G9
            have G10 := Lib.hid (G9.out.call C ((Below.refl w9.heap.size w9).alloc (Nat.le_refl _) (.cells #[.int .i64 R.2.1] 3)))
            have HON : Hid (Recs numC 1 (w9.heap.size + 1) (w9.alloc (.cells #[.int .i64 R.2.1] 3)) (.slice (some ⟨w9.heap.size, 0, none⟩) 1 1) [R.2.1]) := one_num w9 _ _
            have A1 : Hid (NL.length + [R.2.1].length ≤ maxLen) := by show _ ≤ _; simp only [List.length_cons, List.length_nil]; unfold maxLen; omega
            have A2 : Hid ((NL.length + [R.2.1].length) * 8 ≤ 140737488355328) := by show _ ≤ _; simp only [List.length_cons, List.length_nil]; omega
            have A3 : Hid (w.heap.size ≤ (w9.alloc (.cells #[.int .i64 R.2.1] 3)).heap.size) := G10.out.below.size
            obtain ⟨i0, hi, hz0, hz1, hz2⟩ := info_parts num_info
            have HI0 := Lib.hid hi
            have Z0 := Lib.hid hz0
            have Z1 := Lib.hid hz1
            have Z2 := Lib.hid hz2
            clear hi hz0 hz1 hz2 y0 y1 v1 v2 v3 hcn hlen hlast hlast1
            go_wp2_with (at_builtin; refine wpList_append_recs rfl (.tmp 85) (.tmp 87) 61 rfl w.heap.size 3 i0 (.int .i64 0) 1 8 Tryz.underlying61 HI0.out Z0.out Z1.out Z2.out rfl (by decide) _ _ _ rfl G10.out.row _ [R.2.1] _ rfl HON.out numC_len numC_one A1.out A2.out A3.out ?_; intro v11 w11 hown11 hgrow11 hloc11)
            have G11 := Lib.hid (G10.out.append C hgrow11 hown11 hloc11)
            clear hw9 hown11 hgrow11 hloc11 c0 c1 f0 f1
            go_wp2_with fail
            go_roundw
            case rel => exact ⟨k + 1, F6, _, _, rfl, by go_num, by omega, by rw [HX.out]; exact G11.out⟩
            case measure => simp [intOf]; omega
        · have HDD : Hid (madeDir NL inn = 1) := if_neg (by rw [hcn]; omega)
          have ta : (0 : Int) ≤ inn := by omega
          have tb : ¬ inn < (k : Int) := hb
          have hsm : Small T := ⟨by show T.L.length ≤ _; omega, by show T.last ≤ _; omega⟩
          have HP := Lib.hid (C.put (C.keep (w' := wr.drewN 1) hg.out.rep (fun _ _ => rfl) (Nat.le_refl _)) hsm 1 nmb kd dtb HDS.out)
          have HRP := Lib.hid (fun (w' : World) (h : Nodes w'.heap.size w' (.slice Au T.L.length cu2) T.L) => W07.refPut_any (.slice Au T.L.length cu2) T.L T.last 1 kd nmb dtb HDS.out w' h (by omega) hg.out.full (by omega) (by omega))
          replace HX : Hid (made (L.take (k + 1)) = ((put T 1 nmb.data.toList kd dtb.data.toList).1, NL ++ [(put T 1 nmb.data.toList kd dtb.data.toList).2.1])) := by have := HX.out; rw [HDD.out] at this; exact this
          have hfull2 : 0 < (put T 1 nmb.data.toList kd dtb.data.toList).1.L.length := W07.right_full (put_right HI.out.right)
          have HFU := Lib.hid hfull2
          replace HRP : Hid (∀ (w' : World), Nodes w'.heap.size w' (.slice Au T.L.length cu2) T.L → Calls Tryz.prog 27 #[.agg #[.slice Au T.L.length cu2, .int .i64 T.last], .int .i64 1, .string nmb, .int .i64 kd, .string dtb] w' (W07.TreePut (.slice Au T.L.length cu2) w' (put T 1 nmb.data.toList kd dtb.data.toList))) := HRP.out
          clear hfull2 HDD
          generalize put T 1 nmb.data.toList kd dtb.data.toList = R at *
          go_wp2_with fail
          go_region_held3 (fun w' => w'.cell? ⟨b, off + k * 4 + 1, none⟩ = some (.string nmb) ∧ w'.cell? ⟨b, off + k * 4 + 2, none⟩ = some (.int .i64 kd) ∧ w'.cell? ⟨b, off + k * 4 + 3, none⟩ = some (.string dtb))
            (first | exact ⟨v1, v2, v3⟩ | exact ⟨hc1, hc2, hc3⟩ | go_keep)
            (first | (go_at_call 26; refine HP.out.mono ?_; rintro e w6 ⟨rfl, F6, H6, ht6, hF6⟩; have ht6 : Turns F wr w6 := ⟨ht6.os, ht6.tape, ht6.output, ht6.size, ht6.block⟩; have hF6 : ∀ k, F6 k → F k ∨ wr.heap.size ≤ k := hF6; have hnb : ¬ F b := fun e => absurd (hg.out.fnew b e) (by omega); have v1 := ht6.cell hc1 hnb; have v2 := ht6.cell hc2 hnb; have v3 := ht6.cell hc3 hnb))
          have G6 := Lib.hid (hg.out.tree H6 ht6 hF6)
          have HLW := Lib.hid (C.low G6.out.rep)
          have HRW : Hid (∀ i, (s : Value).ownBlock = some i → i < w6.heap.size) := fun i hi => (G6.out.row.lt i hi).2
          have HQW := Lib.hid G6.out.box.lt
          have HQ3W := Lib.hid G6.out.res.lt
          have hs6 := ht6.size
          have y0 := G6.out.box.c0
          have y1 := G6.out.box.c1
          have hb6 : b < w6.heap.size := by omega
          have hqlt := G6.out.box.lt
          clear H6 ht6 hF6 hc1 hc2 hc3 HP hg hsm
          have HRP6 := Lib.hid (fun (w' : World) (hb : Below w6.heap.size w6 w') => HRP.out w' ((G6.out.nodes.below hb).more hb.size))
          clear HRP
          go_wp2_with fail
          go_region_held3 (fun w' => w'.cell? ⟨b, off + k * 4 + 1, none⟩ = some (.string nmb) ∧ w'.cell? ⟨b, off + k * 4 + 2, none⟩ = some (.int .i64 kd) ∧ w'.cell? ⟨b, off + k * 4 + 3, none⟩ = some (.string dtb) ∧ w'.cell? ⟨q, 0, none⟩ = some (.slice Au T.L.length cu2) ∧ w'.cell? ⟨q, 1, none⟩ = some (.int .i64 T.last) ∧ Below w6.heap.size w6 w')
            (first | exact five_on hb6 hqlt (by assumption) hb7 | exact ⟨v1, v2, v3, y0, y1, (Below.refl _ _).drew⟩ | exact five_alloc hb6 hqlt (by assumption) _ | exact five_swap hb6 hqlt hs7 (by assumption) _ | exact five_set hb6 hqlt (Nat.le_refl _) (five_set hb6 hqlt (Nat.le_refl _) (by assumption)) | go_keep)
            (first
              | (go_at_call 27; refine (HRP6.out w6.drew (Below.refl _ _).drew).mono ?_; rintro e w7 ⟨u7, rfl, hnu, hb7, hfu⟩; have hs7 : w6.heap.size ≤ w7.heap.size := hb7.size; obtain ⟨A7, c7, hu7, hu71, hu72⟩ := hnu.form; subst hu7; unfold maxLen at hu72)
              | (go_at_call 27; refine (HRP6.out (w6.alloc (.cells #[.slice none 0 0, .int .i64 0] 30)).drew ((Below.refl w6.heap.size w6).alloc (Nat.le_refl _) _).drew).mono ?_; rintro e w7 ⟨u7, rfl, hnu, hb7, hfu⟩; obtain ⟨d0, d1, g0, g1⟩ := new_facts hb7; have hs7 : w6.heap.size ≤ w7.heap.size := five_size hb7.size; obtain ⟨A7, c7, hu7, hu71, hu72⟩ := hnu.form; subst hu7; unfold maxLen at hu72))
          · have hb7' : Below w6.heap.size w6 w7 := ⟨hb7.os, hb7.tape, hb7.output, hb7.size, hb7.block⟩
            have G8 := Lib.hid (G6.out.call C (hb7'.alloc hs7 (.cells #[.slice A7 R.1.L.length c7, .int .i64 R.1.last] 30)))
            have G9 := Lib.hid (G8.out.store C (S := w6.heap.size) ((hnu.below ((Below.refl w7.heap.size w7).alloc (Nat.le_refl _) (.cells #[.slice A7 R.1.L.length c7, .int .i64 R.1.last] 30))).more (by rw [World.size_alloc]; omega)) HFU.out hfu HLW.out HRW.out HQW.out HQ3W.out)
            clear hb7 hb7' hnu hfu
            have c0 := G8.out.box.c0
            have c1 := G8.out.box.c1
            have f0 := G8.out.box.fr 0
            have f1 := G8.out.box.fr 1
            obtain ⟨w9, hw9⟩ : ∃ w9, ((w7.alloc (.cells #[.slice A7 R.1.L.length c7, .int .i64 R.1.last] 30)).setCell ⟨q, 0, none⟩ (.slice A7 R.1.L.length c7)).setCell ⟨q, 1, none⟩ (.int .i64 R.1.last) = w9 := ⟨_, rfl⟩
            rw [hw9] at G9
            have G10 := Lib.hid (G9.out.call C ((Below.refl w9.heap.size w9).alloc (Nat.le_refl _) (.cells #[.int .i64 R.2.1] 3)))
            have HON : Hid (Recs numC 1 (w9.heap.size + 1) (w9.alloc (.cells #[.int .i64 R.2.1] 3)) (.slice (some ⟨w9.heap.size, 0, none⟩) 1 1) [R.2.1]) := one_num w9 _ _
            have A1 : Hid (NL.length + [R.2.1].length ≤ maxLen) := by show _ ≤ _; simp only [List.length_cons, List.length_nil]; unfold maxLen; omega
            have A2 : Hid ((NL.length + [R.2.1].length) * 8 ≤ 140737488355328) := by show _ ≤ _; simp only [List.length_cons, List.length_nil]; omega
            have A3 : Hid (w.heap.size ≤ (w9.alloc (.cells #[.int .i64 R.2.1] 3)).heap.size) := G10.out.below.size
            obtain ⟨i0, hi, hz0, hz1, hz2⟩ := info_parts num_info
            have HI0 := Lib.hid hi
            have Z0 := Lib.hid hz0
            have Z1 := Lib.hid hz1
            have Z2 := Lib.hid hz2
            clear hi hz0 hz1 hz2 y0 y1 v1 v2 v3 hcn hlen hlast hlast1
            go_wp2_with (at_builtin; refine wpList_append_recs rfl (.tmp 85) (.tmp 87) 61 rfl w.heap.size 3 i0 (.int .i64 0) 1 8 Tryz.underlying61 HI0.out Z0.out Z1.out Z2.out rfl (by decide) _ _ _ rfl G10.out.row _ [R.2.1] _ rfl HON.out numC_len numC_one A1.out A2.out A3.out ?_; intro v11 w11 hown11 hgrow11 hloc11)
            have G11 := Lib.hid (G10.out.append C hgrow11 hown11 hloc11)
            clear hw9 hown11 hgrow11 hloc11 c0 c1 f0 f1
            go_wp2_with fail
            go_roundw
            case rel => exact ⟨k + 1, F6, _, _, rfl, by go_num, by omega, by rw [HX.out]; exact G11.out⟩
            case measure => simp [intOf]; omega
          · have hb7' : Below w6.heap.size w6 w7 := ((Below.refl w6.heap.size w6).alloc (Nat.le_refl _) (.cells #[.slice none 0 0, .int .i64 0] 30)).trans (Below.mono (B := (w6.alloc (.cells #[.slice none 0 0, .int .i64 0] 30)).heap.size) ⟨hb7.os, hb7.tape, hb7.output, hb7.size, hb7.block⟩ (by rw [World.size_alloc]; omega))
            have hcl : Clear (fun i => i = w6.heap.size) (.slice A7 R.1.L.length c7) := clear_new hfu (by
              show w6.heap.size < (w6.alloc _).heap.size
              rw [World.size_alloc]; omega) G6.out.nodes G6.out.full
            have G8 := Lib.hid (G6.out.call C ((hb7'.setCell (p := ⟨w6.heap.size, 0, none⟩) (Nat.le_refl _) (.slice A7 R.1.L.length c7)).setCell (p := ⟨w6.heap.size, 1, none⟩) (Nat.le_refl _) (.int .i64 R.1.last)))
            have G9 := Lib.hid (G8.out.store C (S := ((w6.alloc (.cells #[.slice none 0 0, .int .i64 0] 30)).drew).heap.size) ((nodes_on hnu (turns_two w7 w6.heap.size (.slice A7 R.1.L.length c7) (.int .i64 R.1.last)) hcl).more (turns_two w7 w6.heap.size (.slice A7 R.1.L.length c7) (.int .i64 R.1.last)).size) HFU.out hfu (fun i hi => size_over (HLW.out i hi)) (fun i hi => size_over (HRW.out i hi)) (size_over HQW.out) (size_over HQ3W.out))
            have u0 : ((w7.setCell ⟨w6.heap.size, 0, none⟩ (.slice A7 R.1.L.length c7)).setCell ⟨w6.heap.size, 1, none⟩ (.int .i64 R.1.last)).cell? ⟨w6.heap.size, 0, none⟩ = some (.slice A7 R.1.L.length c7) := (two_set d0 d1).1
            have u1 : ((w7.setCell ⟨w6.heap.size, 0, none⟩ (.slice A7 R.1.L.length c7)).setCell ⟨w6.heap.size, 1, none⟩ (.int .i64 R.1.last)).cell? ⟨w6.heap.size, 1, none⟩ = some (.int .i64 R.1.last) := (two_set d0 d1).2
            clear hb7 hb7' hnu hfu hcl d0 d1 g0 g1
            have c0 := G8.out.box.c0
            have c1 := G8.out.box.c1
            have f0 := G8.out.box.fr 0
            have f1 := G8.out.box.fr 1
            obtain ⟨w9, hw9⟩ : ∃ w9, (((w7.setCell ⟨w6.heap.size, 0, none⟩ (.slice A7 R.1.L.length c7)).setCell ⟨w6.heap.size, 1, none⟩ (.int .i64 R.1.last)).setCell ⟨q, 0, none⟩ (.slice A7 R.1.L.length c7)).setCell ⟨q, 1, none⟩ (.int .i64 R.1.last) = w9 := ⟨_, rfl⟩
            rw [hw9] at G9
            have G10 := Lib.hid (G9.out.call C ((Below.refl w9.heap.size w9).alloc (Nat.le_refl _) (.cells #[.int .i64 R.2.1] 3)))
            have HON : Hid (Recs numC 1 (w9.heap.size + 1) (w9.alloc (.cells #[.int .i64 R.2.1] 3)) (.slice (some ⟨w9.heap.size, 0, none⟩) 1 1) [R.2.1]) := one_num w9 _ _
            have A1 : Hid (NL.length + [R.2.1].length ≤ maxLen) := by show _ ≤ _; simp only [List.length_cons, List.length_nil]; unfold maxLen; omega
            have A2 : Hid ((NL.length + [R.2.1].length) * 8 ≤ 140737488355328) := by show _ ≤ _; simp only [List.length_cons, List.length_nil]; omega
            have A3 : Hid (w.heap.size ≤ (w9.alloc (.cells #[.int .i64 R.2.1] 3)).heap.size) := G10.out.below.size
            obtain ⟨i0, hi, hz0, hz1, hz2⟩ := info_parts num_info
            have HI0 := Lib.hid hi
            have Z0 := Lib.hid hz0
            have Z1 := Lib.hid hz1
            have Z2 := Lib.hid hz2
            clear hi hz0 hz1 hz2 y0 y1 v1 v2 v3 hcn hlen hlast hlast1
            go_wp2_with (at_builtin; refine wpList_append_recs rfl (.tmp 85) (.tmp 87) 61 rfl w.heap.size 3 i0 (.int .i64 0) 1 8 Tryz.underlying61 HI0.out Z0.out Z1.out Z2.out rfl (by decide) _ _ _ rfl G10.out.row _ [R.2.1] _ rfl HON.out numC_len numC_one A1.out A2.out A3.out ?_; intro v11 w11 hown11 hgrow11 hloc11)
            have G11 := Lib.hid (G10.out.append C hgrow11 hown11 hloc11)
            clear hw9 hown11 hgrow11 hloc11 c0 c1 f0 f1
            go_wp2_with fail
            go_roundw
            case rel => exact ⟨k + 1, F6, _, _, rfl, by go_num, by omega, by rw [HX.out]; exact G11.out⟩
            case measure => simp [intOf]; omega
-- %endround
    · have HX : Hid (made (L.take k) = made L) := by show _ = _; rw [List.take_of_length_le (by rw [HM.out]; omega)]
      rw [HX.out] at hg
      clear HX
      generalize (made L).2 = NL at *
      generalize (made L).1 = T at *
      have c0 := hg.out.box.c0
      have c1 := hg.out.box.c1
      have d0 := hg.out.res.c0
      have d1 := hg.out.res.c1
      obtain ⟨Au, cu2, rfl, -, -⟩ := hg.out.nodes.form
      have f0 := hg.out.res.fr 0
      have f1 := hg.out.res.fr 1
      go_wp2_with fail
      go_region
      go_wp2_with fail
      refine bodyPost_ret_by (v := .tuple #[pv, .agg #[.slice Au T.L.length cu2, .int .i64 T.last]]) ?_ rfl ?_
      · rw [results_tmp_cell rfl]
        go_simp
      · have := half_end C hg.out (wf := (wr.drew.setCell ⟨w.heap.size, 0, none⟩ (.slice Au T.L.length cu2)).setCell ⟨w.heap.size, 1, none⟩ (.int .i64 T.last)) ((drew_turns _ wr).trans (turns_two _ _ _ _)) hg.out.offuq3
        exact ⟨pv, _, F, rfl, this.1, this.2.1, this.2.2.1, this.2.2.2⟩
-- %end
end Go.Proofs.YtmbpgjncioegdaaGreatDoor.W08
