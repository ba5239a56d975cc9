/-
  Layer 7 (tree), walks: what the landed code's tree is in memory: a box with the map of nodes, each node's list of names; the calls that only look: node, Kind, Data, Up, Len, List. The bounds stand in the statements.
-/
import Derived.Test.YtelphegeeiocnaaW07Real
import Derived.Test.YtelphegeeiocnaaW07Move
import Derived.Test.YtelphegeeiocnaaW06Code
namespace Go.Proofs.Ytelphegeeiocnaa.W07
open Go Go.RowKit Go.Proofs.Ytelphegeeiocnaa.Strs Go.Proofs.Ytelphegeeiocnaa.Recs Go.Proofs.Ytelphegeeiocnaa.M07 Go.Proofs.Ytelphegeeiocnaa.Maps Go.Proofs.Ytelphegeeiocnaa.Range
open Go.Proofs.Ytelphegeeiocnaa.M06 (Ent)
open Go.Proofs.Ytelphegeeiocnaa.W06 (Ents HandsE)
open Go.Proofs.Ytelphegeeiocnaa.Kit (ret_str ret_bool ret_int mk_of mk_bytes ba_ext below_draws on)

/-- a node as the map holds it; v: its list of names -/
def nodV (x : Nod) (v : Value) : Value := .agg #[.int .i64 x.kind, .int .i64 x.up, .string ⟨x.data.toArray⟩, v]
def held (g : Int → Nod) (lv : Int → Value) (n : Int) : Option Value := if (g n).kind = 0 then none else some (nodV (g n) (lv n))
theorem key_under : Try.prog.underlying 3 = some (.int .i64) := Try.underlying3
theorem map_under : Try.prog.underlying 52 = some (.map 3 51) := Try.underlying52
theorem zero_node (w : World) : (zeroValue 51).run Try.prog w = .ok (.agg #[.int .i64 0, .int .i64 0, .string ⟨#[]⟩, .slice none 0 0]) w := by kernel_rfl
/-- the box of a tree -/
def RootBox (w : World) (sb mb : Nat) (last : Int) : Prop := w.heap[sb]? = some (.cells #[.map (some mb), .int .i64 last] 54 (0, 0))
section
variable {w w' : World} {sb mb : Nat} {last : Int}
theorem RootBox.lt (h : RootBox w sb mb last) : sb < w.heap.size := (Array.getElem?_eq_some_iff.1 h).1
theorem RootBox.c0 (h : RootBox w sb mb last) : w.cell? ⟨sb, 0, none⟩ = some (.map (some mb)) := cell_of_row w _ 0 _ _ (0, 0) h
theorem RootBox.c1 (h : RootBox w sb mb last) : w.cell? ⟨sb, 1, none⟩ = some (.int .i64 last) := cell_of_row w _ 1 _ _ (0, 0) h
theorem RootBox.fr (h : RootBox w sb mb last) (j : Nat) : w.frozen? ⟨sb, j, none⟩ = false := frozen_of_row w _ j _ _ h
theorem RootBox.count (h : RootBox w sb mb last) (n : Int) : RootBox (w.setCell ⟨sb, 1, none⟩ (.int .i64 n)) sb mb n := set_heap h 1 (.int .i64 n)
end
structure Mem (F : Nat → Prop) (w : World) (sb mb : Nat) (g : Int → Nod) (lv : Int → Value) (last : Int) (m : Nat) : Prop where
  box : RootBox w sb mb last
  fs : F sb
  fm : F mb
  low : ∀ k, F k → k < w.heap.size
  map : MapIs w Try.prog 3 mb (held g lv) m
  zero : ∀ n, (g n).kind = 0 → g n = nod0 ∧ lv n = .slice none 0 0
  list : ∀ n, Ents w.heap.size w (lv n) (g n).list
  at_ : ∀ n b o c d, 0 < (g n).list.length → lv n = .slice (some ⟨b, o, none⟩) c d → F b
/-- lists are no longer than nodes are many -/
def Short (g : Int → Nod) : Prop := ∀ n, (g n).list.length ≤ 1073741824

theorem ents_keep {B : Nat} {w w' : World} {v : Value} {L : List Ent} (h : Ents B w v L) (hk : ∀ b o c d, 0 < L.length → b < B → v = .slice (some ⟨b, o, none⟩) c d → w'.heap[b]? = w.heap[b]?) : Ents B w' v L := by
  obtain ⟨A, c, rfl, h1, h2⟩ := h.form
  rcases Nat.eq_zero_or_pos L.length with h0 | h0
  · obtain ⟨A', c', e, a1, a2, -⟩ := h
    exact ⟨A', c', e, a1, a2, fun hn => absurd hn (by omega)⟩
  · obtain ⟨b, o, hl, rfl, hb, -⟩ := Recs.flat_ h W06.entC_len (by omega) h0
    exact Recs.other h fun p hp => World.cell?_of_block (by rw [hp]; exact hk b o _ _ h0 hb rfl)
section
variable {F F' : Nat → Prop} {w w' : World} {sb mb : Nat} {g : Int → Nod} {lv : Int → Value} {last : Int} {m : Nat}
theorem Mem.keep (h : Mem F w sb mb g lv last m) (hk : ∀ k, F k → w'.heap[k]? = w.heap[k]?) (hs : w.heap.size ≤ w'.heap.size) : Mem F w' sb mb g lv last m where
  box := (hk _ h.fs).trans h.box
  fs := h.fs
  fm := h.fm
  low := fun k hf => Nat.lt_of_lt_of_le (h.low k hf) hs
  map := h.map.keep (hk _ h.fm)
  zero := h.zero
  list := fun n => (ents_keep (h.list n) fun b o c d e0 _ e => hk b (h.at_ n b o c d e0 e)).more hs
  at_ := h.at_
theorem Mem.below (h : Mem F w sb mb g lv last m) (hb : Below w.heap.size w w') : Mem F w' sb mb g lv last m := h.keep (fun k hf => hb.block k (h.low k hf)) hb.size
theorem Mem.alloc (h : Mem F w sb mb g lv last m) (o : Obj) : Mem F (w.alloc o) sb mb g lv last m := h.below ((Below.refl _ _).alloc (Nat.le_refl _) o)
theorem Mem.look (h : Mem F w sb mb g lv last m) (n : Int) : (held g lv n).getD (.agg #[.int .i64 0, .int .i64 0, .string ⟨#[]⟩, .slice none 0 0]) = nodV (g n) (lv n) := by
  unfold held
  split
  · rename_i e
    obtain ⟨e1, e2⟩ := h.zero n e
    rw [e1, e2]; rfl
  · rfl
theorem Mem.form (h : Mem F w sb mb g lv last m) (n : Int) : ∃ A c, lv n = .slice A (g n).list.length c := by
  obtain ⟨A, c, e, -, -⟩ := (h.list n).form
  exact ⟨A, c, e⟩
theorem ret_node {e : Ending} {v : Value} {x : Nod} {u : Value} {Q : Prop} (he : e = .returned (nodV x u)) (hv : u = v) (hQ : Q) : e = .returned (nodV x v) ∧ Q := by subst hv; exact ⟨he, hQ⟩
set_option maxHeartbeats 1000000 in
theorem node_any (h : Mem F w sb mb g lv last m) (n : Int) : Calls Try.prog 28 #[.pointer (some ⟨sb, 0, none⟩), .int .i64 n] w fun e w' => e = .returned (nodV (g n) (lv n)) ∧ Below w.heap.size w w' := by
  have HM := Lib.hid (h.map.alloc (.cells #[.int .i64 0, .int .i64 0, .string ⟨#[]⟩, .slice none 0 0] 51))
  have HL := Lib.hid (h.look n)
  have c0 := h.box.c0
  have hlt := h.box.lt
  obtain ⟨A, c, e⟩ := h.form n
  rw [e]
  rw [e] at HL
  generalize (g n).list.length = k at *
  obtain ⟨x, hx⟩ : ∃ x, g n = x := ⟨_, rfl⟩
  rw [hx] at HL
  rw [hx]
  clear e hx h
  go_enter Try.func28, Try.ntmps28
  go_wp2_with (at_lookup; refine wpList_look _ rfl _ _ 52 rfl 3 51 key_under map_under (zero_node _) mb m (held g lv) rfl HM.out n rfl (.agg #[.int .i64 x.kind, .int .i64 x.up, .string ⟨x.data.toArray⟩, .slice A k c]) HL.out ?_)
  refine bodyPost_ret_by (v := nodV x (.slice A k c)) ?_ rfl ⟨rfl, ?_⟩
  · rw [results_cell_one rfl]
    go_simp
    rfl
  · exact (Below.refl _ _).alloc (Nat.le_refl _) _
theorem nod_kind (a b : Int) (c : ByteArray) (A : Option Addr) (n k : Nat) (w : World) : (Instr.field 51 (.agg #[.int .i64 a, .int .i64 b, .string c, .slice A n k]) 0).run Try.prog w = .ok (.int .i64 a) w := by kernel_rfl
theorem nod_up (a b : Int) (c : ByteArray) (A : Option Addr) (n k : Nat) (w : World) : (Instr.field 51 (.agg #[.int .i64 a, .int .i64 b, .string c, .slice A n k]) 1).run Try.prog w = .ok (.int .i64 b) w := by kernel_rfl
theorem nod_data (a b : Int) (c : ByteArray) (A : Option Addr) (n k : Nat) (w : World) : (Instr.field 51 (.agg #[.int .i64 a, .int .i64 b, .string c, .slice A n k]) 2).run Try.prog w = .ok (.string c) w := by kernel_rfl
theorem nod_list (a b : Int) (c : ByteArray) (A : Option Addr) (n k : Nat) (w : World) : (Instr.field 51 (.agg #[.int .i64 a, .int .i64 b, .string c, .slice A n k]) 3).run Try.prog w = .ok (.slice A n k) w := by kernel_rfl
/-- node's result, written out -/
theorem Mem.node_ (h : Mem F w sb mb g lv last m) (n : Int) : ∃ A c, lv n = .slice A (g n).list.length c ∧ Calls Try.prog 28 #[.pointer (some ⟨sb, 0, none⟩), .int .i64 n] w fun e w' => e = .returned (.agg #[.int .i64 (g n).kind, .int .i64 (g n).up, .string ⟨(g n).data.toArray⟩, .slice A (g n).list.length c]) ∧ Below w.heap.size w w' := by
  obtain ⟨A, c, e⟩ := h.form n
  have := node_any h n
  rw [e] at this
  exact ⟨A, c, e, this⟩
set_option maxHeartbeats 1000000 in
theorem kind_any (h : Mem F w sb mb g lv last m) (n : Int) : Calls Try.prog 17 #[.pointer (some ⟨sb, 0, none⟩), .int .i64 n] w fun e w' => e = .returned (.int .i64 (g n).kind) ∧ Below w.heap.size w w' := by
  obtain ⟨A, c, -, hc⟩ := h.node_ n
  have HC := Lib.hid hc
  have hf := nod_kind (g n).kind (g n).up ⟨(g n).data.toArray⟩ A (g n).list.length c
  clear hc h
  go_enter Try.func17, Try.ntmps17
  go_wp2_with fail
  refine HC.out.mono ?_
  rintro e w1 ⟨rfl, hb⟩
  go_wp2_with fail
  go_ret
  exact ⟨rfl, hb⟩
set_option maxHeartbeats 1000000 in
theorem up_any (h : Mem F w sb mb g lv last m) (n : Int) : Calls Try.prog 16 #[.pointer (some ⟨sb, 0, none⟩), .int .i64 n] w fun e w' => e = .returned (.int .i64 (g n).up) ∧ Below w.heap.size w w' := by
  obtain ⟨A, c, -, hc⟩ := h.node_ n
  have HC := Lib.hid hc
  have hf := nod_up (g n).kind (g n).up ⟨(g n).data.toArray⟩ A (g n).list.length c
  clear hc h
  go_enter Try.func16, Try.ntmps16
  go_wp2_with fail
  refine HC.out.mono ?_
  rintro e w1 ⟨rfl, hb⟩
  go_wp2_with fail
  go_ret
  exact ⟨rfl, hb⟩
set_option maxHeartbeats 1000000 in
theorem data_any (h : Mem F w sb mb g lv last m) (n : Int) : Calls Try.prog 21 #[.pointer (some ⟨sb, 0, none⟩), .int .i64 n] w fun e w' => e = .returned (.string ⟨(g n).data.toArray⟩) ∧ Below w.heap.size w w' := by
  obtain ⟨A, c, -, hc⟩ := h.node_ n
  have HC := Lib.hid hc
  have hf := nod_data (g n).kind (g n).up ⟨(g n).data.toArray⟩ A (g n).list.length c
  clear hc h
  go_enter Try.func21, Try.ntmps21
  go_wp2_with fail
  refine HC.out.mono ?_
  rintro e w1 ⟨rfl, hb⟩
  go_wp2_with fail
  go_ret
  exact ⟨rfl, hb⟩
set_option maxHeartbeats 1000000 in
theorem len_any (h : Mem F w sb mb g lv last m) : Calls Try.prog 18 #[.pointer (some ⟨sb, 0, none⟩)] w fun e w' => e = .returned (.int .i64 m) ∧ Below w.heap.size w w' := by
  have c0 := h.box.c0
  have hl := fun ty => h.map.len (t := 52) map_under ty
  clear h
  go_enter Try.func18, Try.ntmps18
  go_wp2_with fail
  go_ret
  exact ⟨rfl, Below.refl _ _⟩
theorem is_nil (n c : Nat) (w : World) : (binOp BinOp.eql 41 (.slice none n c) (.slice none 0 0)).run Try.prog w = .ok (.bool true) w := by kernel_rfl
theorem is_some (ad : Addr) (n c : Nat) (w : World) : (binOp BinOp.eql 41 (.slice (some ad) n c) (.slice none 0 0)).run Try.prog w = .ok (.bool false) w := by kernel_rfl
set_option maxHeartbeats 1000000 in
set_option maxRecDepth 100000 in
theorem clone_any (v : Value) (L : List Ent) (h : Ents w.heap.size w v L) (hn : L.length ≤ 1099511627776) : Calls Try.prog 22 #[v] w (W06.HandsN w L) := by
  obtain ⟨A, c, rfl, -, -⟩ := h.form
  cases A with
  | none =>
    have h0 : L = [] := by
      rcases Nat.eq_zero_or_pos L.length with h0 | h0
      · exact List.length_eq_zero_iff.1 h0
      · obtain ⟨b, o, hl, e, -⟩ := Recs.flat_ h W06.entC_len (by omega) h0
        cases e
    subst h0
    have hnil := is_nil 0 c
    go_enter Try.func22, Try.ntmps22
    go_wp2_with fail
    go_ret
    exact ⟨.slice none 0 0, rfl, recs_nil _ _ _ _, (fun b o n c e => by cases e), Below.refl _ _⟩
  | some ad =>
    have H := Lib.hid h
    have hnil := is_some ad L.length c
    clear h
    go_enter Try.func22, Try.ntmps22
    obtain ⟨i0, hi, hz0, hz1, hz2⟩ := info_parts W06.ent_info
    have hown : (w.alloc (.cells #[] 45)).ownsRow w.heap.size 45 2 (.slice (some ⟨w.heap.size, 0, none⟩) 0 0) 0 [] :=
      ⟨rfl, Or.inr ⟨w.heap.size, 0, #[], rfl, Nat.le_refl _, by show (w.heap.push _)[w.heap.size]? = _; simp, Nat.zero_le _, Nat.zero_le _, rfl, by simp⟩⟩
    have OW := Lib.hid hown
    clear hown
    go_wp2_with (at_builtin; refine wpList_append_recs rfl (.tmp 5) (.tmp 6) 41 rfl w.heap.size 45 i0 (.agg #[.string ⟨#[]⟩, .int .i64 0]) 2 24 Try.underlying41 hi hz0 hz1 hz2 rfl (by decide) _ _ _ rfl OW.out _ L w.heap.size rfl (H.out.alloc (Nat.le_refl _) _) W06.entC_len W06.entC_one (by unfold maxLen; omega) (by omega) (by simp) ?_; intro v1 w2 hown1 hg2 _)
    have O2 : Hid (W06.OwnEnts w2 w.heap.size v1 L) := W06.own_ents_all (out := []) hown1
    have B2 : Hid (Below w.heap.size w w2) := ((Below.refl w.heap.size w).alloc (Nat.le_refl _) _).grown hg2 (by simp) (fun k hk => (OW.out.lt k hk).1)
    clear hown1 hg2 OW hi hz0 hz1 hz2
    go_wp2
    go_ret
    exact ⟨v1, rfl, O2.out.reads, W06.own_new O2.out (Nat.le_refl _), B2.out⟩
set_option maxHeartbeats 1000000 in
theorem list_any (h : Mem F w sb mb g lv last m) (n : Int) (hn : (g n).list.length ≤ 1099511627776) : Calls Try.prog 15 #[.pointer (some ⟨sb, 0, none⟩), .int .i64 n] w (W06.HandsN w (g n).list) := by
  obtain ⟨A, c, e, hc⟩ := h.node_ n
  have hE := h.list n
  rw [e] at hE
  have HCL := Lib.hid (fun (w' : World) (hb : Below w.heap.size w w') => clone_any (.slice A (g n).list.length c) (g n).list ((hE.below hb).more hb.size) hn)
  have HC := Lib.hid hc
  have hf := nod_list (g n).kind (g n).up ⟨(g n).data.toArray⟩ A (g n).list.length c
  clear hc h e hE
  generalize (g n).list = L at *
  go_enter Try.func15, Try.ntmps15
  go_wp2_with fail
  refine HC.out.mono ?_
  rintro e w1 ⟨rfl, hb⟩
  have HCL := Lib.hid (HCL.out w1 hb)
  have B1 := Lib.hid hb
  have hs1 := hb.size
  clear hb
  go_wp2_with fail
  refine HCL.out.mono ?_
  rintro e w2 ⟨u, rfl, hu, hnew, hb⟩
  have U := Lib.hid hu
  have N := Lib.hid hnew
  have B2 := Lib.hid (on B1.out hb)
  clear hu hnew hb
  go_wp2
  go_ret
  exact ⟨u, rfl, U.out, fun b o n c e => Nat.le_trans hs1 (N.out b o n c e), B2.out⟩
end

/-! what the calls that write do to the box, the map and the lists -/
theorem cell_not_map {w : World} {b : Nat} {es : Array MapEntry} {clock : Nat} (h : w.heap[b]? = some (.map es clock)) (o : Nat) (s : Option Nat) : w.cell? ⟨b, o, s⟩ = none := by simp [World.cell?, h]
theorem ents_turn {B : Nat} {w w' : World} {v : Value} {L : List Ent} {mb : Nat} {es : Array MapEntry} {clock : Nat} (h : Ents B w v L) (hm : w.heap[mb]? = some (.map es clock)) (hg : w.grownBy w' (some mb)) : Ents B w' v L := by
  obtain ⟨A, c, e, h1, h2, h3⟩ := h
  refine ⟨A, c, e, h1, h2, fun hn => ?_⟩
  obtain ⟨ad, e2, hb, hc⟩ := h3 hn
  refine ⟨ad, e2, hb, fun k hk j hj => ?_⟩
  have := hc k hk j hj
  have hlt : j < (W06.entC L[k]).length := hj
  rw [List.getElem?_eq_getElem hlt] at this ⊢
  refine hg.cell this fun e => ?_
  have e : (ad.add (k * 2 + j)).block = mb := by injection e
  have hz := cell_not_map hm (ad.add (k * 2 + j)).off (ad.add (k * 2 + j)).spot
  rw [← e] at hz
  rw [show (⟨(ad.add (k * 2 + j)).block, (ad.add (k * 2 + j)).off, (ad.add (k * 2 + j)).spot⟩ : Addr) = ad.add (k * 2 + j) from rfl, this] at hz
  cases hz
theorem narrow {F : Nat → Prop} {w w' : World} (h : Turns (fun k => F k ∨ w.heap.size ≤ k) w w') : Turns F w w' :=
  ⟨h.os, h.tape, h.output, h.size, fun i hi ht => h.block i hi (by rintro (e | e); exact ht e; omega)⟩
/-- what is new, beside F, from B on -/
def More (F : Nat → Prop) (B : Nat) (w : World) (k : Nat) : Prop := F k ∨ (B ≤ k ∧ k < w.heap.size)
section
variable {F F' : Nat → Prop} {w w' : World} {sb mb : Nat} {g : Int → Nod} {lv : Int → Value} {last : Int} {m m' : Nat}
theorem Mem.wider (h : Mem F w sb mb g lv last m) (hs : ∀ k, F k → F' k) (hl : ∀ k, F' k → k < w.heap.size) : Mem F' w sb mb g lv last m where
  box := h.box
  fs := hs _ h.fs
  fm := hs _ h.fm
  low := hl
  map := h.map
  zero := h.zero
  list := h.list
  at_ := fun n b o c d e0 e => hs _ (h.at_ n b o c d e0 e)
theorem Mem.more (h : Mem F w sb mb g lv last m) (B : Nat) : Mem (More F B w) w sb mb g lv last m := h.wider (fun _ => Or.inl) (by rintro k (hk | hk); exact h.low k hk; exact hk.2)
theorem Mem.apart (h : Mem F w sb mb g lv last m) : sb ≠ mb := by
  intro e
  obtain ⟨es, clock, hm⟩ := h.map.at_
  have := h.box
  unfold RootBox at this
  rw [e, hm] at this
  cases this
theorem held_upd {n : Int} {x : Nod} {u : Value} (hx : x.kind ≠ 0) (i : Int) : upd (held g lv) n (some (nodV x u)) i = held (upd g n x) (upd lv n u) i := by
  unfold upd held
  by_cases e : i = n
  · subst e; simp [hx]
  · simp [e]
theorem held_none {n : Int} (i : Int) : upd (held g lv) n none i = held (upd g n nod0) (upd lv n (.slice none 0 0)) i := by
  unfold upd held
  by_cases e : i = n
  · subst e; simp [nod0]
  · simp [e]
/-- the box, and each list, while the map alone turns -/
theorem Mem.turned (h : Mem F w sb mb g lv last m) {n : Int} {x : Nod} {u : Value} (hz : x.kind = 0 → x = nod0 ∧ u = .slice none 0 0) (hu : Ents w.heap.size w u x.list) (hF : ∀ b o c d, 0 < x.list.length → u = .slice (some ⟨b, o, none⟩) c d → F b)
    (hmap : MapIs w' Try.prog 3 mb (held (upd g n x) (upd lv n u)) m') (hg : w.grownBy w' (some mb)) : Mem F w' sb mb (upd g n x) (upd lv n u) last m' where
  box := (hg.block sb h.box.lt (by intro e; injection e with e; exact h.apart e)).trans h.box
  fs := h.fs
  fm := h.fm
  low := fun k hk => Nat.lt_of_lt_of_le (h.low k hk) hg.size
  map := hmap
  zero := fun i hi => by
    unfold upd at hi ⊢
    by_cases e : i = n
    · rw [if_pos e] at hi ⊢; rw [if_pos e]; exact hz hi
    · rw [if_neg e] at hi ⊢; rw [if_neg e]; exact h.zero i hi
  list := fun i => by
    obtain ⟨es, clock, hm⟩ := h.map.at_
    unfold upd
    by_cases e : i = n
    · rw [if_pos e, if_pos e]; exact (ents_turn hu hm hg).more hg.size
    · rw [if_neg e, if_neg e]; exact (ents_turn (h.list i) hm hg).more hg.size
  at_ := fun i b o c d => by
    unfold upd
    by_cases e : i = n
    · rw [if_pos e, if_pos e]; exact hF b o c d
    · rw [if_neg e, if_neg e]; exact h.at_ i b o c d
theorem Mem.stored (h : Mem F w sb mb g lv last m) {n : Int} {x : Nod} {u : Value} (hx : x.kind ≠ 0) (hu : Ents w.heap.size w u x.list) (hF : ∀ b o c d, 0 < x.list.length → u = .slice (some ⟨b, o, none⟩) c d → F b)
    (hmap : MapIs w' Try.prog 3 mb (upd (held g lv) n (some (nodV x u))) m') (ht : w.mapTurned w' mb) : Mem F w' sb mb (upd g n x) (upd lv n u) last m' :=
  h.turned (fun e => absurd e hx) hu hF (hmap.as (held_upd hx) rfl) ht.grown
theorem Mem.dropped (h : Mem F w sb mb g lv last m) {n : Int} (hmap : MapIs w' Try.prog 3 mb (upd (held g lv) n none) m') (ht : w.mapTurned w' mb) : Mem F w' sb mb (upd g n nod0) (upd lv n (.slice none 0 0)) last m' :=
  h.turned (fun _ => ⟨rfl, rfl⟩) (recs_nil _ _ _ _) (fun b o c d _ e => by cases e) (hmap.as held_none rfl) ht.grown
theorem Mem.some_ (_h : Mem F w sb mb g lv last m) {n : Int} (hn : (g n).kind ≠ 0) : held g lv n = some (nodV (g n) (lv n)) := by unfold held; rw [if_neg hn]
theorem Mem.wf (h : Mem F w sb mb g lv last m) {n : Int} (hn : (g n).kind ≠ 0) : (Lit.int .i64 n).wf = true := h.map.wf key_under (h.some_ hn)
theorem turned_turns {T : Nat → Prop} (ht : w.mapTurned w' mb) (hT : T mb) : Turns T w w' := Turns.of_grown ht.grown (fun r e => by cases e; exact hT)
theorem drew_turns (T : Nat → Prop) (w : World) : Turns T w w.drew := ⟨rfl, rfl, rfl, Nat.le_refl _, fun _ _ _ => rfl⟩
/-- a box of a node -/
def NodBox (w : World) (p : Nat) (x : Nod) (u : Value) : Prop := w.heap[p]? = some (.cells #[.int .i64 x.kind, .int .i64 x.up, .string ⟨x.data.toArray⟩, u] 51 (0, 0))
variable {p : Nat} {x : Nod} {u : Value}
theorem NodBox.lt (h : NodBox w p x u) : p < w.heap.size := (Array.getElem?_eq_some_iff.1 h).1
theorem NodBox.below (h : NodBox w p x u) (hb : Below w.heap.size w w') : NodBox w' p x u := (hb.block _ h.lt).trans h
theorem NodBox.new (w : World) (x : Nod) (u : Value) : NodBox (w.alloc (.cells #[.int .i64 x.kind, .int .i64 x.up, .string ⟨x.data.toArray⟩, u] 51)) w.heap.size x u := heap_top _ _
theorem NodBox.c0 (h : NodBox w p x u) : w.cell? ⟨p, 0, none⟩ = some (.int .i64 x.kind) := cell_of_row w _ 0 _ _ (0, 0) h
theorem NodBox.c1 (h : NodBox w p x u) : w.cell? ⟨p, 1, none⟩ = some (.int .i64 x.up) := cell_of_row w _ 1 _ _ (0, 0) h
theorem NodBox.c2 (h : NodBox w p x u) : w.cell? ⟨p, 2, none⟩ = some (.string ⟨x.data.toArray⟩) := cell_of_row w _ 2 _ _ (0, 0) h
theorem NodBox.c3 (h : NodBox w p x u) : w.cell? ⟨p, 3, none⟩ = some u := cell_of_row w _ 3 _ _ (0, 0) h
theorem NodBox.fr (h : NodBox w p x u) (j : Nat) : w.frozen? ⟨p, j, none⟩ = false := frozen_of_row w _ j _ _ h
theorem NodBox.set3 (h : NodBox w p x u) (L : List Ent) (u' : Value) : NodBox (w.setCell ⟨p, 3, none⟩ u') p { x with list := L } u' := set_heap h 3 u'
theorem NodBox.set1 (h : NodBox w p x u) (d : Int) : NodBox (w.setCell ⟨p, 1, none⟩ (.int .i64 d)) p { x with up := d } u := set_heap h 1 (.int .i64 d)
theorem NodBox.set2 (h : NodBox w p x u) (s : ByteArray) : NodBox (w.setCell ⟨p, 2, none⟩ (.string s)) p { x with data := s.data.toList } u := by
  have h2 := set_heap h 2 (.string s)
  have e : (⟨s.data.toList.toArray⟩ : ByteArray) = s := mk_bytes s
  unfold NodBox
  rw [e]
  exact h2
end
end Go.Proofs.Ytelphegeeiocnaa.W07
