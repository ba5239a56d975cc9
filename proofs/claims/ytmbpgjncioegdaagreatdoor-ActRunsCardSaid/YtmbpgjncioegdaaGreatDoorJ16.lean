/-
  Texts joined, in build order, each with its own comment and its own conditions: W07Mem, W07Hang, W07Check.
-/
import Derived.Test.YtmbpgjncioegdaaGreatDoorJ14
import Derived.Test.YtmbpgjncioegdaaGreatDoorJ05
import Derived.Test.YtmbpgjncioegdaaGreatDoorJ15
import Derived.BigRegion
import Derived.Test.YtmbpgjncioegdaaGreatDoorJ12
import Derived.BigQuiet
/-
  Layer 7 (tree), walks: what the landed code's tree is in memory: a box with the map of nodes, each node's list of names; the calls that only look: node, Kind, Data, Up, Len, List. The bounds stand in the statements.
-/
namespace Go.Proofs.YtmbpgjncioegdaaGreatDoor.W07
set_option maxRecDepth 100000
open Go Go.RowKit Go.Proofs.YtmbpgjncioegdaaGreatDoor.Strs Go.Proofs.YtmbpgjncioegdaaGreatDoor.Recs Go.Proofs.YtmbpgjncioegdaaGreatDoor.M07 Go.Proofs.YtmbpgjncioegdaaGreatDoor.Maps Go.Proofs.YtmbpgjncioegdaaGreatDoor.Range
open Go.Proofs.YtmbpgjncioegdaaGreatDoor.M06 (Ent)
open Go.Proofs.YtmbpgjncioegdaaGreatDoor.W06 (Ents HandsE)
open Go.Proofs.YtmbpgjncioegdaaGreatDoor.Kit (ret_str ret_bool ret_int mk_of mk_bytes ba_ext below_draws on)

/-- a node as the map holds it; v: its list of names -/
def nodV (x : Nod) (v : Value) : Value := .agg #[.int .i64 x.kind, .int .i64 x.up, .string ⟨x.data.toArray⟩, v]
def held (g : Int → Nod) (lv : Int → Value) (n : Int) : Option Value := if (g n).kind = 0 then none else some (nodV (g n) (lv n))
theorem key_under : Tryz.prog.underlying 3 = some (.int .i64) := Tryz.underlying3
theorem map_under : Tryz.prog.underlying 88 = some (.map 3 87) := Tryz.underlying88
theorem zero_node (w : World) : (zeroValue 87).run Tryz.prog w = .ok (.agg #[.int .i64 0, .int .i64 0, .string ⟨#[]⟩, .slice none 0 0]) w := by kernel_rfl
/-- the box of a tree -/
def RootBox (w : World) (sb mb : Nat) (last : Int) : Prop := w.heap[sb]? = some (.cells #[.map (some mb), .int .i64 last] 90 (0, 0))
section
variable {w w' : World} {sb mb : Nat} {last : Int}
theorem RootBox.lt (h : RootBox w sb mb last) : sb < w.heap.size := (Array.getElem?_eq_some_iff.1 h).1
theorem RootBox.c0 (h : RootBox w sb mb last) : w.cell? ⟨sb, 0, none⟩ = some (.map (some mb)) := cell_of_row w _ 0 _ _ (0, 0) h
theorem RootBox.c1 (h : RootBox w sb mb last) : w.cell? ⟨sb, 1, none⟩ = some (.int .i64 last) := cell_of_row w _ 1 _ _ (0, 0) h
theorem RootBox.fr (h : RootBox w sb mb last) (j : Nat) : w.frozen? ⟨sb, j, none⟩ = false := frozen_of_row w _ j _ _ h
theorem RootBox.count (h : RootBox w sb mb last) (n : Int) : RootBox (w.setCell ⟨sb, 1, none⟩ (.int .i64 n)) sb mb n := set_heap h 1 (.int .i64 n)
end
structure Mem (F : Nat → Prop) (w : World) (sb mb : Nat) (g : Int → Nod) (lv : Int → Value) (last : Int) (m : Nat) : Prop where
  box : RootBox w sb mb last
  fs : F sb
  fm : F mb
  low : ∀ k, F k → k < w.heap.size
  map : MapIs w Tryz.prog 3 mb (held g lv) m
  zero : ∀ n, (g n).kind = 0 → g n = nod0 ∧ lv n = .slice none 0 0
  list : ∀ n, Ents w.heap.size w (lv n) (g n).list
  at_ : ∀ n b o c d, 0 < (g n).list.length → lv n = .slice (some ⟨b, o, none⟩) c d → F b
/-- lists are no longer than nodes are many -/
def Short (g : Int → Nod) : Prop := ∀ n, (g n).list.length ≤ 1073741824

theorem ents_keep {B : Nat} {w w' : World} {v : Value} {L : List Ent} (h : Ents B w v L) (hk : ∀ b o c d, 0 < L.length → b < B → v = .slice (some ⟨b, o, none⟩) c d → w'.heap[b]? = w.heap[b]?) : Ents B w' v L := by
  obtain ⟨A, c, rfl, h1, h2⟩ := h.form
  rcases Nat.eq_zero_or_pos L.length with h0 | h0
  · obtain ⟨A', c', e, a1, a2, -⟩ := h
    exact ⟨A', c', e, a1, a2, fun hn => absurd hn (by omega)⟩
  · obtain ⟨b, o, hl, rfl, hb, -⟩ := Recs.flat_ h W06.entC_len (by omega) h0
    exact Recs.other h fun p hp => World.cell?_of_block (by rw [hp]; exact hk b o _ _ h0 hb rfl)
section
variable {F F' : Nat → Prop} {w w' : World} {sb mb : Nat} {g : Int → Nod} {lv : Int → Value} {last : Int} {m : Nat}
theorem Mem.keep (h : Mem F w sb mb g lv last m) (hk : ∀ k, F k → w'.heap[k]? = w.heap[k]?) (hs : w.heap.size ≤ w'.heap.size) : Mem F w' sb mb g lv last m where
  box := (hk _ h.fs).trans h.box
  fs := h.fs
  fm := h.fm
  low := fun k hf => Nat.lt_of_lt_of_le (h.low k hf) hs
  map := h.map.keep (hk _ h.fm)
  zero := h.zero
  list := fun n => (ents_keep (h.list n) fun b o c d e0 _ e => hk b (h.at_ n b o c d e0 e)).more hs
  at_ := h.at_
theorem Mem.below (h : Mem F w sb mb g lv last m) (hb : Below w.heap.size w w') : Mem F w' sb mb g lv last m := h.keep (fun k hf => hb.block k (h.low k hf)) hb.size
theorem Mem.alloc (h : Mem F w sb mb g lv last m) (o : Obj) : Mem F (w.alloc o) sb mb g lv last m := h.below ((Below.refl _ _).alloc (Nat.le_refl _) o)
theorem Mem.look (h : Mem F w sb mb g lv last m) (n : Int) : (held g lv n).getD (.agg #[.int .i64 0, .int .i64 0, .string ⟨#[]⟩, .slice none 0 0]) = nodV (g n) (lv n) := by
  unfold held
  split
  · rename_i e
    obtain ⟨e1, e2⟩ := h.zero n e
    rw [e1, e2]; rfl
  · rfl
theorem Mem.form (h : Mem F w sb mb g lv last m) (n : Int) : ∃ A c, lv n = .slice A (g n).list.length c := by
  obtain ⟨A, c, e, -, -⟩ := (h.list n).form
  exact ⟨A, c, e⟩
set_option maxHeartbeats 1000000 in
theorem node_any (h : Mem F w sb mb g lv last m) (n : Int) : Calls Tryz.prog 61 #[.pointer (some ⟨sb, 0, none⟩), .int .i64 n] w fun e w' => e = .returned (nodV (g n) (lv n)) ∧ Below w.heap.size w w' := by
  have HM := Lib.hid (h.map.alloc (.cells #[.int .i64 0, .int .i64 0, .string ⟨#[]⟩, .slice none 0 0] 87))
  have HL := Lib.hid (h.look n)
  have c0 := h.box.c0
  have hlt := h.box.lt
  obtain ⟨A, c, e⟩ := h.form n
  rw [e]
  rw [e] at HL
  generalize (g n).list.length = k at *
  obtain ⟨x, hx⟩ : ∃ x, g n = x := ⟨_, rfl⟩
  rw [hx] at HL
  rw [hx]
  clear e hx h
  go_enter Tryz.func61, Tryz.ntmps61
  go_wp2_with (at_lookup; refine wpList_look _ rfl _ _ 88 rfl 3 87 key_under map_under (zero_node _) mb m (held g lv) rfl HM.out n rfl (.agg #[.int .i64 x.kind, .int .i64 x.up, .string ⟨x.data.toArray⟩, .slice A k c]) HL.out ?_)
  refine bodyPost_ret_by (v := nodV x (.slice A k c)) ?_ rfl ⟨rfl, ?_⟩
  · rw [results_cell_one rfl]
    go_simp
    rfl
  · exact (Below.refl _ _).alloc (Nat.le_refl _) _
theorem nod_kind (a b : Int) (c : ByteArray) (A : Option Addr) (n k : Nat) (w : World) : (Instr.field 87 (.agg #[.int .i64 a, .int .i64 b, .string c, .slice A n k]) 0).run Tryz.prog w = .ok (.int .i64 a) w := by kernel_rfl
theorem nod_up (a b : Int) (c : ByteArray) (A : Option Addr) (n k : Nat) (w : World) : (Instr.field 87 (.agg #[.int .i64 a, .int .i64 b, .string c, .slice A n k]) 1).run Tryz.prog w = .ok (.int .i64 b) w := by kernel_rfl
theorem nod_data (a b : Int) (c : ByteArray) (A : Option Addr) (n k : Nat) (w : World) : (Instr.field 87 (.agg #[.int .i64 a, .int .i64 b, .string c, .slice A n k]) 2).run Tryz.prog w = .ok (.string c) w := by kernel_rfl
theorem nod_list (a b : Int) (c : ByteArray) (A : Option Addr) (n k : Nat) (w : World) : (Instr.field 87 (.agg #[.int .i64 a, .int .i64 b, .string c, .slice A n k]) 3).run Tryz.prog w = .ok (.slice A n k) w := by kernel_rfl
/-- node's result, written out -/
theorem Mem.node_ (h : Mem F w sb mb g lv last m) (n : Int) : ∃ A c, lv n = .slice A (g n).list.length c ∧ Calls Tryz.prog 61 #[.pointer (some ⟨sb, 0, none⟩), .int .i64 n] w fun e w' => e = .returned (.agg #[.int .i64 (g n).kind, .int .i64 (g n).up, .string ⟨(g n).data.toArray⟩, .slice A (g n).list.length c]) ∧ Below w.heap.size w w' := by
  obtain ⟨A, c, e⟩ := h.form n
  have := node_any h n
  rw [e] at this
  exact ⟨A, c, e, this⟩
set_option maxHeartbeats 1000000 in
theorem kind_any (h : Mem F w sb mb g lv last m) (n : Int) : Calls Tryz.prog 35 #[.pointer (some ⟨sb, 0, none⟩), .int .i64 n] w fun e w' => e = .returned (.int .i64 (g n).kind) ∧ Below w.heap.size w w' := by
  obtain ⟨A, c, -, hc⟩ := h.node_ n
  have HC := Lib.hid hc
  have hf := nod_kind (g n).kind (g n).up ⟨(g n).data.toArray⟩ A (g n).list.length c
  clear hc h
  go_enter Tryz.func35, Tryz.ntmps35
  go_wp2_with fail
  refine HC.out.mono ?_
  rintro e w1 ⟨rfl, hb⟩
  go_wp2_with fail
  go_ret
  exact ⟨rfl, hb⟩
set_option maxHeartbeats 1000000 in
theorem up_any (h : Mem F w sb mb g lv last m) (n : Int) : Calls Tryz.prog 37 #[.pointer (some ⟨sb, 0, none⟩), .int .i64 n] w fun e w' => e = .returned (.int .i64 (g n).up) ∧ Below w.heap.size w w' := by
  obtain ⟨A, c, -, hc⟩ := h.node_ n
  have HC := Lib.hid hc
  have hf := nod_up (g n).kind (g n).up ⟨(g n).data.toArray⟩ A (g n).list.length c
  clear hc h
  go_enter Tryz.func37, Tryz.ntmps37
  go_wp2_with fail
  refine HC.out.mono ?_
  rintro e w1 ⟨rfl, hb⟩
  go_wp2_with fail
  go_ret
  exact ⟨rfl, hb⟩
set_option maxHeartbeats 1000000 in
theorem data_any (h : Mem F w sb mb g lv last m) (n : Int) : Calls Tryz.prog 36 #[.pointer (some ⟨sb, 0, none⟩), .int .i64 n] w fun e w' => e = .returned (.string ⟨(g n).data.toArray⟩) ∧ Below w.heap.size w w' := by
  obtain ⟨A, c, -, hc⟩ := h.node_ n
  have HC := Lib.hid hc
  have hf := nod_data (g n).kind (g n).up ⟨(g n).data.toArray⟩ A (g n).list.length c
  clear hc h
  go_enter Tryz.func36, Tryz.ntmps36
  go_wp2_with fail
  refine HC.out.mono ?_
  rintro e w1 ⟨rfl, hb⟩
  go_wp2_with fail
  go_ret
  exact ⟨rfl, hb⟩
set_option maxHeartbeats 1000000 in
theorem len_any (h : Mem F w sb mb g lv last m) : Calls Tryz.prog 33 #[.pointer (some ⟨sb, 0, none⟩)] w fun e w' => e = .returned (.int .i64 m) ∧ Below w.heap.size w w' := by
  have c0 := h.box.c0
  have hl := fun ty => h.map.len (t := 88) map_under ty
  clear h
  go_enter Tryz.func33, Tryz.ntmps33
  go_wp2_with fail
  go_ret
  exact ⟨rfl, Below.refl _ _⟩
theorem is_nil (n c : Nat) (w : World) : (binOp BinOp.eql 73 (.slice none n c) (.slice none 0 0)).run Tryz.prog w = .ok (.bool true) w := by kernel_rfl
theorem is_some (ad : Addr) (n c : Nat) (w : World) : (binOp BinOp.eql 73 (.slice (some ad) n c) (.slice none 0 0)).run Tryz.prog w = .ok (.bool false) w := by kernel_rfl
set_option maxHeartbeats 1000000 in
set_option maxRecDepth 100000 in
theorem clone_any (v : Value) (L : List Ent) (h : Ents w.heap.size w v L) (hn : L.length ≤ 1099511627776) : Calls Tryz.prog 55 #[v] w (W06.HandsN w L) := by
  obtain ⟨A, c, rfl, -, -⟩ := h.form
  cases A with
  | none =>
    have h0 : L = [] := by
      rcases Nat.eq_zero_or_pos L.length with h0 | h0
      · exact List.length_eq_zero_iff.1 h0
      · obtain ⟨b, o, hl, e, -⟩ := Recs.flat_ h W06.entC_len (by omega) h0
        cases e
    subst h0
    have hnil := is_nil 0 c
    go_enter Tryz.func55, Tryz.ntmps55
    go_wp2_with fail
    go_ret
    exact ⟨.slice none 0 0, rfl, recs_nil _ _ _ _, (fun b o n c e => by cases e), Below.refl _ _⟩
  | some ad =>
    have H := Lib.hid h
    have hnil := is_some ad L.length c
    clear h
    go_enter Tryz.func55, Tryz.ntmps55
    obtain ⟨i0, hi, hz0, hz1, hz2⟩ := info_parts W06.ent_info
    have hown : (w.alloc (.cells #[] 103)).ownsRow w.heap.size 103 2 (.slice (some ⟨w.heap.size, 0, none⟩) 0 0) 0 [] :=
      ⟨rfl, Or.inr ⟨w.heap.size, 0, #[], rfl, Nat.le_refl _, by show (w.heap.push _)[w.heap.size]? = _; simp, Nat.zero_le _, Nat.zero_le _, rfl, by simp⟩⟩
    have OW := Lib.hid hown
    clear hown
    go_wp2_with (at_builtin; refine wpList_append_recs rfl (.tmp 5) (.tmp 6) 73 rfl w.heap.size 103 i0 (.agg #[.string ⟨#[]⟩, .int .i64 0]) 2 24 Tryz.underlying73 hi hz0 hz1 hz2 rfl (by decide) _ _ _ rfl OW.out _ L w.heap.size rfl (H.out.alloc (Nat.le_refl _) _) W06.entC_len W06.entC_one (by unfold maxLen; omega) (by omega) (by simp) ?_; intro v1 w2 hown1 hg2 _)
    have O2 : Hid (W06.OwnEnts w2 w.heap.size v1 L) := W06.own_ents_all (out := []) hown1
    have B2 : Hid (Below w.heap.size w w2) := ((Below.refl w.heap.size w).alloc (Nat.le_refl _) _).grown hg2 (by simp) (fun k hk => (OW.out.lt k hk).1)
    clear hown1 hg2 OW hi hz0 hz1 hz2
    go_wp2
    go_ret
    exact ⟨v1, rfl, O2.out.reads, W06.own_new O2.out (Nat.le_refl _), B2.out⟩
set_option maxHeartbeats 1000000 in
theorem list_any (h : Mem F w sb mb g lv last m) (n : Int) (hn : (g n).list.length ≤ 1099511627776) : Calls Tryz.prog 40 #[.pointer (some ⟨sb, 0, none⟩), .int .i64 n] w (W06.HandsN w (g n).list) := by
  obtain ⟨A, c, e, hc⟩ := h.node_ n
  have hE := h.list n
  rw [e] at hE
  have HCL := Lib.hid (fun (w' : World) (hb : Below w.heap.size w w') => clone_any (.slice A (g n).list.length c) (g n).list ((hE.below hb).more hb.size) hn)
  have HC := Lib.hid hc
  have hf := nod_list (g n).kind (g n).up ⟨(g n).data.toArray⟩ A (g n).list.length c
  clear hc h e hE
  generalize (g n).list = L at *
  go_enter Tryz.func40, Tryz.ntmps40
  go_wp2_with fail
  refine HC.out.mono ?_
  rintro e w1 ⟨rfl, hb⟩
  have HCL := Lib.hid (HCL.out w1 hb)
  have B1 := Lib.hid hb
  have hs1 := hb.size
  clear hb
  go_wp2_with fail
  refine HCL.out.mono ?_
  rintro e w2 ⟨u, rfl, hu, hnew, hb⟩
  have U := Lib.hid hu
  have N := Lib.hid hnew
  have B2 := Lib.hid (on B1.out hb)
  clear hu hnew hb
  go_wp2
  go_ret
  exact ⟨u, rfl, U.out, fun b o n c e => Nat.le_trans hs1 (N.out b o n c e), B2.out⟩
end

/-! what the calls that write do to the box, the map and the lists -/
theorem cell_not_map {w : World} {b : Nat} {es : Array MapEntry} {clock : Nat} (h : w.heap[b]? = some (.map es clock)) (o : Nat) (s : Option Nat) : w.cell? ⟨b, o, s⟩ = none := by simp [World.cell?, h]
theorem ents_turn {B : Nat} {w w' : World} {v : Value} {L : List Ent} {mb : Nat} {es : Array MapEntry} {clock : Nat} (h : Ents B w v L) (hm : w.heap[mb]? = some (.map es clock)) (hg : w.grownBy w' (some mb)) : Ents B w' v L := by
  obtain ⟨A, c, e, h1, h2, h3⟩ := h
  refine ⟨A, c, e, h1, h2, fun hn => ?_⟩
  obtain ⟨ad, e2, hb, hc⟩ := h3 hn
  refine ⟨ad, e2, hb, fun k hk j hj => ?_⟩
  have := hc k hk j hj
  have hlt : j < (W06.entC L[k]).length := hj
  rw [List.getElem?_eq_getElem hlt] at this ⊢
  refine hg.cell this fun e => ?_
  have e : (ad.add (k * 2 + j)).block = mb := by injection e
  have hz := cell_not_map hm (ad.add (k * 2 + j)).off (ad.add (k * 2 + j)).spot
  rw [← e] at hz
  rw [show (⟨(ad.add (k * 2 + j)).block, (ad.add (k * 2 + j)).off, (ad.add (k * 2 + j)).spot⟩ : Addr) = ad.add (k * 2 + j) from rfl, this] at hz
  cases hz
theorem narrow {F : Nat → Prop} {w w' : World} (h : Turns (fun k => F k ∨ w.heap.size ≤ k) w w') : Turns F w w' :=
  ⟨h.os, h.tape, h.output, h.size, fun i hi ht => h.block i hi (by rintro (e | e); exact ht e; omega)⟩
/-- what is new, beside F, from B on -/
def More (F : Nat → Prop) (B : Nat) (w : World) (k : Nat) : Prop := F k ∨ (B ≤ k ∧ k < w.heap.size)
section
variable {F F' : Nat → Prop} {w w' : World} {sb mb : Nat} {g : Int → Nod} {lv : Int → Value} {last : Int} {m m' : Nat}
theorem Mem.wider (h : Mem F w sb mb g lv last m) (hs : ∀ k, F k → F' k) (hl : ∀ k, F' k → k < w.heap.size) : Mem F' w sb mb g lv last m where
  box := h.box
  fs := hs _ h.fs
  fm := hs _ h.fm
  low := hl
  map := h.map
  zero := h.zero
  list := h.list
  at_ := fun n b o c d e0 e => hs _ (h.at_ n b o c d e0 e)
theorem Mem.more (h : Mem F w sb mb g lv last m) (B : Nat) : Mem (More F B w) w sb mb g lv last m := h.wider (fun _ => Or.inl) (by rintro k (hk | hk); exact h.low k hk; exact hk.2)
theorem Mem.apart (h : Mem F w sb mb g lv last m) : sb ≠ mb := by
  intro e
  obtain ⟨es, clock, hm⟩ := h.map.at_
  have := h.box
  unfold RootBox at this
  rw [e, hm] at this
  cases this
theorem held_upd {n : Int} {x : Nod} {u : Value} (hx : x.kind ≠ 0) (i : Int) : upd (held g lv) n (some (nodV x u)) i = held (upd g n x) (upd lv n u) i := by
  unfold upd held
  by_cases e : i = n
  · subst e; simp [hx]
  · simp [e]
theorem held_none {n : Int} (i : Int) : upd (held g lv) n none i = held (upd g n nod0) (upd lv n (.slice none 0 0)) i := by
  unfold upd held
  by_cases e : i = n
  · subst e; simp [nod0]
  · simp [e]
/-- the box, and each list, while the map alone turns -/
theorem Mem.turned (h : Mem F w sb mb g lv last m) {n : Int} {x : Nod} {u : Value} (hz : x.kind = 0 → x = nod0 ∧ u = .slice none 0 0) (hu : Ents w.heap.size w u x.list) (hF : ∀ b o c d, 0 < x.list.length → u = .slice (some ⟨b, o, none⟩) c d → F b)
    (hmap : MapIs w' Tryz.prog 3 mb (held (upd g n x) (upd lv n u)) m') (hg : w.grownBy w' (some mb)) : Mem F w' sb mb (upd g n x) (upd lv n u) last m' where
  box := (hg.block sb h.box.lt (by intro e; injection e with e; exact h.apart e)).trans h.box
  fs := h.fs
  fm := h.fm
  low := fun k hk => Nat.lt_of_lt_of_le (h.low k hk) hg.size
  map := hmap
  zero := fun i hi => by
    unfold upd at hi ⊢
    by_cases e : i = n
    · rw [if_pos e] at hi ⊢; rw [if_pos e]; exact hz hi
    · rw [if_neg e] at hi ⊢; rw [if_neg e]; exact h.zero i hi
  list := fun i => by
    obtain ⟨es, clock, hm⟩ := h.map.at_
    unfold upd
    by_cases e : i = n
    · rw [if_pos e, if_pos e]; exact (ents_turn hu hm hg).more hg.size
    · rw [if_neg e, if_neg e]; exact (ents_turn (h.list i) hm hg).more hg.size
  at_ := fun i b o c d => by
    unfold upd
    by_cases e : i = n
    · rw [if_pos e, if_pos e]; exact hF b o c d
    · rw [if_neg e, if_neg e]; exact h.at_ i b o c d
theorem Mem.stored (h : Mem F w sb mb g lv last m) {n : Int} {x : Nod} {u : Value} (hx : x.kind ≠ 0) (hu : Ents w.heap.size w u x.list) (hF : ∀ b o c d, 0 < x.list.length → u = .slice (some ⟨b, o, none⟩) c d → F b)
    (hmap : MapIs w' Tryz.prog 3 mb (upd (held g lv) n (some (nodV x u))) m') (ht : w.mapTurned w' mb) : Mem F w' sb mb (upd g n x) (upd lv n u) last m' :=
  h.turned (fun e => absurd e hx) hu hF (hmap.as (held_upd hx) rfl) ht.grown
theorem Mem.dropped (h : Mem F w sb mb g lv last m) {n : Int} (hmap : MapIs w' Tryz.prog 3 mb (upd (held g lv) n none) m') (ht : w.mapTurned w' mb) : Mem F w' sb mb (upd g n nod0) (upd lv n (.slice none 0 0)) last m' :=
  h.turned (fun _ => ⟨rfl, rfl⟩) (recs_nil _ _ _ _) (fun b o c d _ e => by cases e) (hmap.as held_none rfl) ht.grown
theorem Mem.some_ (_h : Mem F w sb mb g lv last m) {n : Int} (hn : (g n).kind ≠ 0) : held g lv n = some (nodV (g n) (lv n)) := by unfold held; rw [if_neg hn]
theorem Mem.wf (h : Mem F w sb mb g lv last m) {n : Int} (hn : (g n).kind ≠ 0) : (Lit.int .i64 n).wf = true := h.map.wf key_under (h.some_ hn)
theorem turned_turns {T : Nat → Prop} (ht : w.mapTurned w' mb) (hT : T mb) : Turns T w w' := Turns.of_grown ht.grown (fun r e => by cases e; exact hT)
theorem drew_turns (T : Nat → Prop) (w : World) : Turns T w w.drew := ⟨rfl, rfl, rfl, Nat.le_refl _, fun _ _ _ => rfl⟩
/-- a box of a node -/
def NodBox (w : World) (p : Nat) (x : Nod) (u : Value) : Prop := w.heap[p]? = some (.cells #[.int .i64 x.kind, .int .i64 x.up, .string ⟨x.data.toArray⟩, u] 87 (0, 0))
variable {p : Nat} {x : Nod} {u : Value}
theorem NodBox.lt (h : NodBox w p x u) : p < w.heap.size := (Array.getElem?_eq_some_iff.1 h).1
theorem NodBox.below (h : NodBox w p x u) (hb : Below w.heap.size w w') : NodBox w' p x u := (hb.block _ h.lt).trans h
theorem NodBox.new (w : World) (x : Nod) (u : Value) : NodBox (w.alloc (.cells #[.int .i64 x.kind, .int .i64 x.up, .string ⟨x.data.toArray⟩, u] 87)) w.heap.size x u := heap_top _ _
theorem NodBox.c0 (h : NodBox w p x u) : w.cell? ⟨p, 0, none⟩ = some (.int .i64 x.kind) := cell_of_row w _ 0 _ _ (0, 0) h
theorem NodBox.c1 (h : NodBox w p x u) : w.cell? ⟨p, 1, none⟩ = some (.int .i64 x.up) := cell_of_row w _ 1 _ _ (0, 0) h
theorem NodBox.c2 (h : NodBox w p x u) : w.cell? ⟨p, 2, none⟩ = some (.string ⟨x.data.toArray⟩) := cell_of_row w _ 2 _ _ (0, 0) h
theorem NodBox.c3 (h : NodBox w p x u) : w.cell? ⟨p, 3, none⟩ = some u := cell_of_row w _ 3 _ _ (0, 0) h
theorem NodBox.fr (h : NodBox w p x u) (j : Nat) : w.frozen? ⟨p, j, none⟩ = false := frozen_of_row w _ j _ _ h
theorem NodBox.set3 (h : NodBox w p x u) (L : List Ent) (u' : Value) : NodBox (w.setCell ⟨p, 3, none⟩ u') p { x with list := L } u' := set_heap h 3 u'
theorem NodBox.set1 (h : NodBox w p x u) (d : Int) : NodBox (w.setCell ⟨p, 1, none⟩ (.int .i64 d)) p { x with up := d } u := set_heap h 1 (.int .i64 d)
theorem NodBox.set2 (h : NodBox w p x u) (s : ByteArray) : NodBox (w.setCell ⟨p, 2, none⟩ (.string s)) p { x with data := s.data.toList } u := by
  have h2 := set_heap h 2 (.string s)
  have e : (⟨s.data.toList.toArray⟩ : ByteArray) = s := mk_bytes s
  unfold NodBox
  rw [e]
  exact h2
end
end Go.Proofs.YtmbpgjncioegdaaGreatDoor.W07
/-
  Layer 7 (tree), walks: the landed code's hang and unhang: a node's name in a directory's list. The bounds stand in the statements.
-/
namespace Go.Proofs.YtmbpgjncioegdaaGreatDoor.W07
set_option maxRecDepth 100000
open Go Go.RowKit Go.Proofs.YtmbpgjncioegdaaGreatDoor.Strs Go.Proofs.YtmbpgjncioegdaaGreatDoor.Recs Go.Proofs.YtmbpgjncioegdaaGreatDoor.M07 Go.Proofs.YtmbpgjncioegdaaGreatDoor.Maps Go.Proofs.YtmbpgjncioegdaaGreatDoor.Range
open Go.Proofs.YtmbpgjncioegdaaGreatDoor.M06 (Ent)
open Go.Proofs.YtmbpgjncioegdaaGreatDoor.W06 (Ents HandsE)
open Go.Proofs.YtmbpgjncioegdaaGreatDoor.Kit (ret_str ret_bool ret_int mk_of mk_bytes ba_ext below_draws on)

/-- behind a call that has written the tree's memory -/
def Left (F : Nat → Prop) (w w' : World) (sb mb : Nat) (g : Int → Nod) (last : Int) (m : Nat) : Prop :=
  ∃ F' lv', Mem F' w' sb mb g lv' last m ∧ Turns F w w' ∧ ∀ k, F' k → F k ∨ w.heap.size ≤ k
section
variable {F : Nat → Prop} {w w1 w2 : World} {sb mb : Nat} {g : Int → Nod} {lv : Int → Value} {last : Int} {m : Nat} {p : Nat} {x : Nod} {u : Value}
/-- a local copy of a node with another list in it, the tree as it was -/
theorem open_list (h : Mem F w sb mb g lv last m) (hb : Below w.heap.size w w1) (hp : w.heap.size ≤ p) (L : List Ent) (hbox : NodBox w1 p x u) (u' : Value) (hb2 : Below w1.heap.size w1 w2) (hu : Ents w2.heap.size w2 u' L) (hN : ∀ b o n c, u' = .slice (some ⟨b, o, none⟩) n c → w1.heap.size ≤ b) :
    Mem (More F w.heap.size (w2.setCell ⟨p, 3, none⟩ u')) (w2.setCell ⟨p, 3, none⟩ u') sb mb g lv last m ∧ NodBox (w2.setCell ⟨p, 3, none⟩ u') p { x with list := L } u' ∧ Ents (w2.setCell ⟨p, 3, none⟩ u').heap.size (w2.setCell ⟨p, 3, none⟩ u') u' L ∧ (∀ b o c d, 0 < L.length → u' = .slice (some ⟨b, o, none⟩) c d → More F w.heap.size (w2.setCell ⟨p, 3, none⟩ u') b) ∧ Below w.heap.size w (w2.setCell ⟨p, 3, none⟩ u') := by
  have h2 := h.below (on hb hb2)
  have hbx := hbox.below hb2
  have hB : Below w.heap.size w (w2.setCell ⟨p, 3, none⟩ u') := (on hb hb2).setCell hp u'
  have hu2 : Ents w2.heap.size (w2.setCell ⟨p, 3, none⟩ u') u' L := ents_keep hu fun b o c d _ _ e => Below.heap_setCell _ _ _ _ (by
    have h1 := hN b o c d e
    have h2 := hbox.lt
    show b ≠ p
    omega)
  have hu3 : Ents w2.heap.size (w2.setCell ⟨p, 3, none⟩ u') u' L := hu2
  refine ⟨(h.below hB).more _, hbx.set3 L u', by rw [set_size]; exact hu2, fun b o c d e0 e => ?_, hB⟩
  subst e
  obtain ⟨b', o', hl, e, hb', -⟩ := Recs.flat_ hu3 W06.entC_len (by omega) (k := 0) (by
    obtain ⟨A, c', e, -⟩ := hu3.form
    injection e with e1 e2
    omega)
  cases e
  exact Or.inr ⟨Nat.le_trans hb.size (hN b o c d rfl), by rw [set_size]; exact hb'⟩
set_option maxHeartbeats 2000000 in
set_option maxRecDepth 100000 in
theorem unhang_any (h : Mem F w sb mb g lv last m) (hs : Short g) (hm : m ≤ 1073741824) (d : Int) (s : ByteArray) (hd : (g d).kind ≠ 0) :
    Calls Tryz.prog 132 #[.pointer (some ⟨sb, 0, none⟩), .int .i64 d, .string s] w fun e w' => e = .returned (.tuple #[]) ∧ Left F w w' sb mb (unhangN g d s.data.toList) last m := by
  obtain ⟨A, c, e⟩ := h.form d
  have hE := h.list d
  have HL := Lib.hid (h.look d)
  rw [e] at hE HL
  have c0 := h.box.c0
  have HM := Lib.hid h.map
  have hsd := hs d
  have hwf := Lib.hid (h.wf hd)
  obtain ⟨w1, hw1⟩ : ∃ w1, w.alloc (.cells #[.int .i64 (g d).kind, .int .i64 (g d).up, .string ⟨(g d).data.toArray⟩, .slice A (g d).list.length c] 87) = w1 := ⟨_, rfl⟩
  have X1 : Hid (NodBox w1 w.heap.size (g d) (.slice A (g d).list.length c)) := by rw [← hw1]; exact NodBox.new _ _ _
  have B1 : Hid (Below w.heap.size w w1) := by rw [← hw1]; exact (Below.refl _ _).alloc (Nat.le_refl _) _
  have x3 := X1.out.c3
  have HC := Lib.hid (W06.cut_new (.slice A (g d).list.length c) (g d).list w1 s ((hE.below B1.out).more B1.out.size) (by omega))
  have H := Lib.hid h
  have HD := Lib.hid hd
  clear h hs e hE hsd hd
  generalize (g d).list.length = n0 at *
  go_enter Tryz.func132, Tryz.ntmps132
  go_wp2_with (at_lookup; refine wpList_look _ rfl _ _ 88 rfl 3 87 key_under map_under (zero_node _) mb m (held g lv) rfl HM.out d rfl (.agg #[.int .i64 (g d).kind, .int .i64 (g d).up, .string ⟨(g d).data.toArray⟩, .slice A n0 c]) HL.out ?_)
  clear hw1
  refine HC.out.mono ?_
  rintro e w2 ⟨u, rfl, hu, hnew, hb⟩
  obtain ⟨A2, c2, rfl, -, -⟩ := hu.form
  obtain ⟨q1, q2, q3, q4, q5⟩ := open_list H.out B1.out (Nat.le_refl _) _ X1.out _ hb hu hnew
  have frz := (X1.out.below hb).fr 3
  have old := (X1.out.below hb).c3
  clear hu hnew hb HM c0 x3
  generalize hL : (M06.cut (g d).list s.data.toList).length = n2 at *
  obtain ⟨w3, hw3⟩ : ∃ w3, w2.setCell ⟨w.heap.size, 3, none⟩ (.slice A2 n2 c2) = w3 := ⟨_, rfl⟩
  rw [hw3] at q1 q2 q3 q4 q5
  have M3 := Lib.hid q1
  have U3 := Lib.hid q3
  have N3 := Lib.hid q4
  have B3 := Lib.hid q5
  have y0 := q2.c0
  have y1 := q2.c1
  have y2 := q2.c2
  have y3 := q2.c3
  have c0 := q1.box.c0
  have hk := hwf.out
  clear q1 q3 q4 q5
  have hmp : MapIs w3.drew Tryz.prog 3 mb (held g lv) m := M3.out.map.keep rfl
  have hst := hmp.store (t := 88) (e := 87) key_under map_under (by unfold maxLen; omega) (n := d) hwf.out (.agg #[.int .i64 (g d).kind, .int .i64 (g d).up, .string ⟨(g d).data.toArray⟩, .slice A2 n2 c2])
  obtain ⟨w4, hrun, map4, turn4⟩ := hst
  go_wp2_with fail
  clear hw3
  go_region
  go_end0
  have e4 : (held g lv d).isSome = true := by rw [H.out.some_ HD.out]; rfl
  rw [if_pos e4] at map4
  exact ⟨rfl, _, _, Mem.stored (M3.out.keep (w' := w3.drew) (fun _ _ => rfl) (Nat.le_refl _)) (x := { g d with list := M06.cut (g d).list s.data.toList }) (u := .slice A2 n2 c2) HD.out U3.out (by rw [hL]; exact N3.out) map4 turn4,
    narrow (((Turns.new B3.out).trans (drew_turns _ _)).trans (turned_turns turn4 (Or.inl H.out.fm))), fun k hk => hk.imp id And.left⟩
/-- a local copy of a node with another directory in it, the tree as it was -/
theorem open_up (h : Mem F w sb mb g lv last m) (x : Nod) (u : Value) (d : Int) :
    Mem F ((w.alloc (.cells #[.int .i64 x.kind, .int .i64 x.up, .string ⟨x.data.toArray⟩, u] 87)).setCell ⟨w.heap.size, 1, none⟩ (.int .i64 d)) sb mb g lv last m ∧ NodBox ((w.alloc (.cells #[.int .i64 x.kind, .int .i64 x.up, .string ⟨x.data.toArray⟩, u] 87)).setCell ⟨w.heap.size, 1, none⟩ (.int .i64 d)) w.heap.size { x with up := d } u ∧ Below w.heap.size w ((w.alloc (.cells #[.int .i64 x.kind, .int .i64 x.up, .string ⟨x.data.toArray⟩, u] 87)).setCell ⟨w.heap.size, 1, none⟩ (.int .i64 d)) := by
  have hB : Below w.heap.size w ((w.alloc (.cells #[.int .i64 x.kind, .int .i64 x.up, .string ⟨x.data.toArray⟩, u] 87)).setCell ⟨w.heap.size, 1, none⟩ (.int .i64 d)) := ((Below.refl _ _).alloc (Nat.le_refl _) _).setCell (Nat.le_refl _) _
  exact ⟨h.below hB, (NodBox.new w x u).set1 d, hB⟩
set_option maxHeartbeats 4000000 in
set_option maxRecDepth 100000 in
theorem hang_any (h : Mem F w sb mb g lv last m) (hs : Short g) (hm : m ≤ 1073741824) (d : Int) (s : ByteArray) (n : Int) (hd : (g d).kind ≠ 0) (hn : (g n).kind ≠ 0) :
    Calls Tryz.prog 48 #[.pointer (some ⟨sb, 0, none⟩), .int .i64 d, .string s, .int .i64 n] w fun e w' => e = .returned (.tuple #[]) ∧ Left F w w' sb mb (hangN g d s.data.toList n) last m := by
  obtain ⟨A, c, e⟩ := h.form d
  have hE := h.list d
  have HL := Lib.hid (h.look d)
  rw [e] at hE HL
  have c0 := h.box.c0
  have HM := Lib.hid h.map
  have hsd := hs d
  have hwf := Lib.hid (h.wf hd)
  have hwn := Lib.hid (h.wf hn)
  obtain ⟨w1, hw1⟩ : ∃ w1, w.alloc (.cells #[.int .i64 (g d).kind, .int .i64 (g d).up, .string ⟨(g d).data.toArray⟩, .slice A (g d).list.length c] 87) = w1 := ⟨_, rfl⟩
  have X1 : Hid (NodBox w1 w.heap.size (g d) (.slice A (g d).list.length c)) := by rw [← hw1]; exact NodBox.new _ _ _
  have B1 : Hid (Below w.heap.size w w1) := by rw [← hw1]; exact (Below.refl _ _).alloc (Nat.le_refl _) _
  have x3 := X1.out.c3
  have HC := Lib.hid (W06.put_new (.slice A (g d).list.length c) (g d).list w1 s n ((hE.below B1.out).more B1.out.size) (by omega))
  have H := Lib.hid h
  have HD := Lib.hid hd
  have HN := Lib.hid hn
  clear h hs e hE hsd hd hn
  generalize (g d).list.length = n0 at *
  go_enter Tryz.func48, Tryz.ntmps48
  go_wp2_with (at_lookup; refine wpList_look _ rfl _ _ 88 rfl 3 87 key_under map_under (zero_node _) mb m (held g lv) rfl HM.out d rfl (.agg #[.int .i64 (g d).kind, .int .i64 (g d).up, .string ⟨(g d).data.toArray⟩, .slice A n0 c]) HL.out ?_)
  clear hw1
  refine HC.out.mono ?_
  rintro e w2 ⟨u, rfl, hu, hnew, hb⟩
  obtain ⟨A2, c2, rfl, -, -⟩ := hu.form
  obtain ⟨q1, q2, q3, q4, q5⟩ := open_list H.out B1.out (Nat.le_refl _) _ X1.out _ hb hu hnew
  have frz := (X1.out.below hb).fr 3
  have old := (X1.out.below hb).c3
  clear hu hnew hb HM c0 x3 HC X1 HL
  generalize hL : (M06.put (g d).list (s.data.toList, n)).length = n2 at *
  have HLL := Lib.hid hL
  clear hL
  obtain ⟨w3, hw3⟩ : ∃ w3, w2.setCell ⟨w.heap.size, 3, none⟩ (.slice A2 n2 c2) = w3 := ⟨_, rfl⟩
  rw [hw3] at q1 q2 q3 q4 q5
  have M3 := Lib.hid q1
  have U3 := Lib.hid q3
  have N3 := Lib.hid q4
  have B3 := Lib.hid q5
  have y0 := q2.c0
  have y1 := q2.c1
  have y2 := q2.c2
  have y3 := q2.c3
  have c0 := q1.box.c0
  clear q1 q2 q3 q4 q5
  have hmp : MapIs w3.drew Tryz.prog 3 mb (held g lv) m := M3.out.map.keep rfl
  have hst := hmp.store (t := 88) (e := 87) key_under map_under (by unfold maxLen; omega) (n := d) hwf.out (.agg #[.int .i64 (g d).kind, .int .i64 (g d).up, .string ⟨(g d).data.toArray⟩, .slice A2 n2 c2])
  obtain ⟨w4, hrun, map4, turn4⟩ := hst
  have e4 : (held g lv d).isSome = true := by rw [H.out.some_ HD.out]; rfl
  rw [if_pos e4] at map4
  have M4 := Lib.hid (Mem.stored (M3.out.keep (w' := w3.drew) (fun _ _ => rfl) (Nat.le_refl _)) (x := { g d with list := M06.put (g d).list (s.data.toList, n) }) (u := .slice A2 n2 c2) HD.out U3.out (by rw [HLL.out]; exact N3.out) map4 turn4)
  have T4 := Lib.hid (((Turns.new (T := fun k => F k ∨ w.heap.size ≤ k) B3.out).trans (drew_turns _ _)).trans (turned_turns turn4 (Or.inl H.out.fm)))
  clear map4 turn4 hmp e4
  go_wp2_with fail
  clear hw3
  go_region
  clear hrun y0 y1 y2 y3 c0 frz old
  -- the node itself
  obtain ⟨g1, hg1⟩ : ∃ g1, upd g d { g d with list := M06.put (g d).list (s.data.toList, n) } = g1 := ⟨_, rfl⟩
  have HG : Hid (hangN g d s.data.toList n = upd g1 n { g1 n with up := d }) := by rw [← hg1]; rfl
  have hk1 : Hid ((g1 n).kind ≠ 0) := by
    rw [← hg1]
    show (upd g d _ n).kind ≠ 0
    unfold upd
    split
    · exact HD.out
    · exact HN.out
  rw [hg1] at M4
  generalize upd lv d (.slice A2 n2 c2) = lv1 at *
  have HF : Hid (∀ k, More F w.heap.size w3 k → F k ∨ w.heap.size ≤ k) := fun k hk => hk.imp id And.left
  clear hg1 M3 U3 N3 B3
  generalize More F w.heap.size w3 = F1 at *
  obtain ⟨A4, c4, e⟩ := M4.out.form n
  have HL := Lib.hid (M4.out.look n)
  have U4 := Lib.hid (M4.out.list n)
  have N4 := Lib.hid (fun b o c d h0 => M4.out.at_ n b o c d h0)
  rw [e] at HL U4 N4
  have HM := Lib.hid M4.out.map
  have c0 := M4.out.box.c0
  generalize hL : (g1 n).list.length = n4 at *
  have HLL := Lib.hid hL
  clear hL e
  obtain ⟨q1, q2, q5⟩ := open_up M4.out (g1 n) (.slice A4 n4 c4) d
  obtain ⟨w6, hw6⟩ : ∃ w6, (w4.alloc (.cells #[.int .i64 (g1 n).kind, .int .i64 (g1 n).up, .string ⟨(g1 n).data.toArray⟩, .slice A4 n4 c4] 87)).setCell ⟨w4.heap.size, 1, none⟩ (.int .i64 d) = w6 := ⟨_, rfl⟩
  rw [hw6] at q1 q2 q5
  have M6 := Lib.hid q1
  have B6 := Lib.hid q5
  have y0 := q2.c0
  have y1 := q2.c1
  have y2 := q2.c2
  have y3 := q2.c3
  have d0 := q1.box.c0
  clear q1 q2 q5
  have hmp : MapIs w6.drew Tryz.prog 3 mb (held g1 lv1) m := M6.out.map.keep rfl
  have hst := hmp.store (t := 88) (e := 87) key_under map_under (by unfold maxLen; omega) (n := n) hwn.out (.agg #[.int .i64 (g1 n).kind, .int .i64 d, .string ⟨(g1 n).data.toArray⟩, .slice A4 n4 c4])
  obtain ⟨w7, hrun, map7, turn7⟩ := hst
  go_wp2_with (at_lookup; refine wpList_look _ rfl _ _ 88 rfl 3 87 key_under map_under (zero_node _) mb m (held g1 lv1) rfl HM.out n rfl (.agg #[.int .i64 (g1 n).kind, .int .i64 (g1 n).up, .string ⟨(g1 n).data.toArray⟩, .slice A4 n4 c4]) HL.out ?_)
  clear hw6
  go_region
  go_end0
  have e4 : (held g1 lv1 n).isSome = true := by rw [M4.out.some_ hk1.out]; rfl
  rw [if_pos e4] at map7
  rw [HG.out]
  exact ⟨rfl, _, _, Mem.stored (M6.out.keep (w' := w6.drew) (fun _ _ => rfl) (Nat.le_refl _)) (x := { g1 n with up := d }) (u := .slice A4 n4 c4) hk1.out ((U4.out.below B6.out).more B6.out.size) (by rw [HLL.out]; exact N4.out) map7 turn7,
    narrow (((T4.out.trans (Turns.new B6.out)).trans (drew_turns _ _)).trans (turned_turns turn7 (Or.inl H.out.fm))), HF.out⟩
end
end Go.Proofs.YtmbpgjncioegdaaGreatDoor.W07
/-
  Layer 7 (tree), walks: the landed code's checks: checkDir, checkData, checkPlace, within, checkMove, checkReplace. The bounds stand in the statements.
-/
namespace Go.Proofs.YtmbpgjncioegdaaGreatDoor.W07
set_option maxRecDepth 100000
open Go Go.RowKit Go.Proofs.YtmbpgjncioegdaaGreatDoor.Strs Go.Proofs.YtmbpgjncioegdaaGreatDoor.Recs Go.Proofs.YtmbpgjncioegdaaGreatDoor.M07 Go.Proofs.YtmbpgjncioegdaaGreatDoor.Maps Go.Proofs.YtmbpgjncioegdaaGreatDoor.Range
open Go.Proofs.YtmbpgjncioegdaaGreatDoor.M06 (Ent)
open Go.Proofs.YtmbpgjncioegdaaGreatDoor.M03 (check)
open Go.Proofs.YtmbpgjncioegdaaGreatDoor.W06 (Ents HandsE)
open Go.Proofs.YtmbpgjncioegdaaGreatDoor.Kit (ret_str ret_bool ret_int mk_of mk_bytes ba_ext below_draws on list_full list_ne list_none list_nil bytes_nil)

section
variable {F : Nat → Prop} {w w1 w2 : World} {sb mb : Nat} {g : Int → Nod} {lv : Int → Value} {last : Int} {m : Nat}
/-- why nothing can stand in a node -/
def dirN (x : Nod) : Int := if x.kind = 0 then 5 else if x.kind = 1 then 0 else 7
set_option maxHeartbeats 1000000 in
theorem checkDir_any (h : Mem F w sb mb g lv last m) (n : Int) : Calls Tryz.prog 65 #[.pointer (some ⟨sb, 0, none⟩), .int .i64 n] w fun e w' => e = .returned (.int .i64 (dirN (g n))) ∧ Below w.heap.size w w' := by
  obtain ⟨A, c, -, hc⟩ := h.node_ n
  have HC := Lib.hid hc
  have hf := nod_kind (g n).kind (g n).up ⟨(g n).data.toArray⟩ A (g n).list.length c
  have HD : Hid (dirN (g n) = if (g n).kind = 0 then 5 else if (g n).kind = 1 then 0 else 7) := rfl
  clear hc h
  generalize dirN (g n) = r at *
  generalize (g n).kind = k at *
  generalize (g n).up = up at *
  generalize (g n).data = data at *
  generalize (g n).list.length = ln at *
  by_cases h0 : k = 0
  · have HX : Hid (r = 5) := HD.out.trans (if_pos h0)
    subst h0
    go_enter Tryz.func65, Tryz.ntmps65
    go_wp2_with fail
    refine HC.out.mono ?_
    rintro e w1 ⟨rfl, hb⟩
    go_wp2_with fail
    go_ret
    exact ⟨ret_int HX.out.symm, hb⟩
  · by_cases h1 : k = 1
    · have HX : Hid (r = 0) := HD.out.trans ((if_neg h0).trans (if_pos h1))
      subst h1
      go_enter Tryz.func65, Tryz.ntmps65
      go_wp2_with fail
      refine HC.out.mono ?_
      rintro e w1 ⟨rfl, hb⟩
      go_wp2_with fail
      go_ret
      exact ⟨ret_int HX.out.symm, hb⟩
    · have HX : Hid (r = 7) := HD.out.trans ((if_neg h0).trans (if_neg h1))
      have t0 : (k == 0) = false := by simpa using h0
      have t1 : (k == 1) = false := by simpa using h1
      clear h0 h1
      go_enter Tryz.func65, Tryz.ntmps65
      go_wp2_with fail
      refine HC.out.mono ?_
      rintro e w1 ⟨rfl, hb⟩
      go_wp2_with fail
      go_ret
      exact ⟨ret_int HX.out.symm, hb⟩
set_option maxHeartbeats 1000000 in
theorem checkData_any (kind : Int) (s : ByteArray) (w : World) :
    Calls Tryz.prog 47 #[.int .i64 kind, .string s] w fun e w' => e = .returned (.int .i64 (mayErr kind s.data.toList)) ∧ w' = w := by
  have HL := Lib.hid (Lib.size_eq s)
  by_cases hk : kind = 1 ∨ kind = 2 ∨ kind = 3
  · have HM : Hid (mayErr kind s.data.toList = if (kind = 1 ∧ s.data.toList ≠ []) ∨ (kind = 3 ∧ s.data.toList = []) then 3 else if 65536 < s.data.toList.length then 4 else 0) := if_neg (by omega)
    by_cases h0 : 0 < s.size
    · have hf := list_full h0
      have hn := list_ne h0
      have hne : s.data.toList ≠ [] := Kit.bytes_ne h0
      have HX : Hid (kind ≠ 1 → mayErr kind s.data.toList = if 65536 < s.data.toList.length then 4 else 0) := fun h1 => HM.out.trans (if_neg (by rintro (e | e); exact h1 e.1; exact hne e.2))
      have HY : Hid (kind = 1 → mayErr kind s.data.toList = 3) := fun h1 => HM.out.trans (if_pos (Or.inl ⟨h1, hne⟩))
      rw [← HL.out] at HX
      clear hne HM
      generalize mayErr kind s.data.toList = r at *
      rcases hk with rfl | rfl | rfl
      · go_enter Tryz.func47, Tryz.ntmps47
        go_wp2_with fail
        go_ret
        exact ⟨ret_int (HY.out (by trivial)).symm, rfl⟩
      all_goals
        by_cases hbig : (65536 : Int) < s.size
        · have HZ : Hid (r = 4) := (HX.out (by decide)).trans (if_pos (by omega))
          go_enter Tryz.func47, Tryz.ntmps47
          go_wp2_with fail
          go_ret
          exact ⟨ret_int HZ.out.symm, rfl⟩
        · have HZ : Hid (r = 0) := (HX.out (by decide)).trans (if_neg (by omega))
          go_enter Tryz.func47, Tryz.ntmps47
          go_wp2_with fail
          go_ret
          exact ⟨ret_int HZ.out.symm, rfl⟩
    · have hf := list_none h0
      have hn := list_nil h0
      have hne : s.data.toList = [] := bytes_nil h0
      have hz : ¬ (65536 : Int) < s.size := by omega
      have HX : Hid (kind ≠ 3 → mayErr kind s.data.toList = 0) := fun h1 => HM.out.trans ((if_neg (by rintro (e | e); exact e.2 hne; exact h1 e.1)).trans (if_neg (by rw [hne]; simp)))
      have HY : Hid (kind = 3 → mayErr kind s.data.toList = 3) := fun h1 => HM.out.trans (if_pos (Or.inr ⟨h1, hne⟩))
      clear hne HM HL
      generalize mayErr kind s.data.toList = r at *
      rcases hk with rfl | rfl | rfl
      all_goals
        go_enter Tryz.func47, Tryz.ntmps47
        go_wp2_with fail
        go_ret
        exact ⟨ret_int (by first | exact (HX.out (by decide)).symm | exact (HY.out (by trivial)).symm), rfl⟩
  · have HX : Hid (mayErr kind s.data.toList = 2) := if_pos (by omega)
    have t1 : (kind == 1) = false := by simp; omega
    have t2 : (kind == 2) = false := by simp; omega
    have t3 : (kind == 3) = false := by simp; omega
    have k1 : (kind != 1) = true := by simp; omega
    have k2 : (kind != 2) = true := by simp; omega
    have k3 : (kind != 3) = true := by simp; omega
    clear hk
    generalize mayErr kind s.data.toList = r at *
    go_enter Tryz.func47, Tryz.ntmps47
    go_wp2_with fail
    go_ret
    exact ⟨ret_int HX.out.symm, rfl⟩
/-- a node's list, as Find is asked for a name in it -/
theorem Mem.find_ (h : Mem F w sb mb g lv last m) (hs : Short g) (n : Int) (s : ByteArray) : ∃ A c, lv n = .slice A (g n).list.length c ∧
    (Calls Tryz.prog 61 #[.pointer (some ⟨sb, 0, none⟩), .int .i64 n] w fun e w' => e = .returned (.agg #[.int .i64 (g n).kind, .int .i64 (g n).up, .string ⟨(g n).data.toArray⟩, .slice A (g n).list.length c]) ∧ Below w.heap.size w w') ∧
    (∀ w', Below w.heap.size w w' → Calls Tryz.prog 67 #[.slice A (g n).list.length c, .string s] w' fun e w2 => e = .returned (.tuple #[.int .i64 (M06.find (M06.all (g n).list) s.data.toList).1, .bool (M06.find (M06.all (g n).list) s.data.toList).2]) ∧ Below w'.heap.size w' w2) ∧
    (∀ w, (Instr.field 87 (.agg #[.int .i64 (g n).kind, .int .i64 (g n).up, .string ⟨(g n).data.toArray⟩, .slice A (g n).list.length c]) 3).run Tryz.prog w = .ok (.slice A (g n).list.length c) w) := by
  obtain ⟨A, c, e, hc⟩ := h.node_ n
  have hE := h.list n
  rw [e] at hE
  have hl := hs n
  exact ⟨A, c, e, hc, fun w' hb => W06.find_any _ _ w' s ((hE.below hb).more hb.size) (by omega), nod_list _ _ _ _ _ _⟩
/-- why no new node can stand in a directory by a name -/
def placeN (x : Nod) (s : Bytes) : Int := if dirN x ≠ 0 then dirN x else if check s ≠ 0 then check s else if (M06.find (M06.all x.list) s).2 = true then 6 else 0
set_option maxHeartbeats 2000000 in
theorem checkPlace_any (h : Mem F w sb mb g lv last m) (hs : Short g) (n : Int) (s : ByteArray) : Calls Tryz.prog 46 #[.pointer (some ⟨sb, 0, none⟩), .int .i64 n, .string s] w fun e w' => e = .returned (.int .i64 (placeN (g n) s.data.toList)) ∧ Below w.heap.size w w' := by
  have HD := Lib.hid (checkDir_any h n)
  have HK := Lib.hid (fun w' : World => W03.check_free s w')
  have HF := Lib.hid (fun (w' : World) (hb : Below w.heap.size w w') => (h.below hb).find_ hs n s)
  have HP : Hid (placeN (g n) s.data.toList = if dirN (g n) ≠ 0 then dirN (g n) else if check s.data.toList ≠ 0 then check s.data.toList else if (M06.find (M06.all (g n).list) s.data.toList).2 = true then 6 else 0) := rfl
  clear h hs
  generalize placeN (g n) s.data.toList = r at *
  generalize (M06.find (M06.all (g n).list) s.data.toList).2 = fd at *
  generalize (M06.find (M06.all (g n).list) s.data.toList).1 = fn at *
  generalize dirN (g n) = rd at *
  generalize check s.data.toList = rc at *
  by_cases hd : rd = 0
  · have HP : Hid (r = if rc ≠ 0 then rc else if fd = true then 6 else 0) := HP.out.trans (if_neg (show ¬ rd ≠ 0 from fun e => e hd))
    subst hd
    by_cases hc : rc = 0
    · have HP : Hid (r = if fd = true then 6 else 0) := HP.out.trans (if_neg (show ¬ rc ≠ 0 from fun e => e hc))
      subst hc
      go_enter Tryz.func46, Tryz.ntmps46
      go_wp2_with fail
      refine HD.out.mono ?_
      rintro e w1 ⟨rfl, hb⟩
      have B1 := Lib.hid hb
      clear hb
      go_wp2_with fail
      refine (HK.out w1).mono ?_
      rintro e w2 ⟨rfl, hb⟩
      have B2 := Lib.hid (on B1.out hb)
      clear hb
      obtain ⟨A, c, -, hn, hfd, hfl⟩ := HF.out w2 B2.out
      have HN := Lib.hid hn
      have HFD := Lib.hid hfd
      clear hn hfd
      go_wp2_with fail
      refine HN.out.mono ?_
      rintro e w3 ⟨rfl, hb⟩
      have HFD := Lib.hid (HFD.out w3 hb)
      have B3 := Lib.hid (on B2.out hb)
      clear hb
      go_wp2_with fail
      refine HFD.out.mono ?_
      rintro e w4 ⟨rfl, hb⟩
      have B4 := Lib.hid (on B3.out hb)
      clear hb HN HFD hfl HF
      cases fd with
      | true =>
        have HX : Hid (r = 6) := HP.out
        go_wp2_with fail
        go_ret
        exact ⟨ret_int HX.out.symm, B4.out⟩
      | false =>
        have HX : Hid (r = 0) := HP.out
        go_wp2_with fail
        go_ret
        exact ⟨ret_int HX.out.symm, B4.out⟩
    · have HX : Hid (r = rc) := HP.out.trans (if_pos hc)
      have t1 : (rc == 0) = false := by simpa using hc
      go_enter Tryz.func46, Tryz.ntmps46
      go_wp2_with fail
      refine HD.out.mono ?_
      rintro e w1 ⟨rfl, hb⟩
      have B1 := Lib.hid hb
      clear hb
      go_wp2_with fail
      refine (HK.out w1).mono ?_
      rintro e w2 ⟨rfl, hb⟩
      have B2 := Lib.hid (on B1.out hb)
      clear hb
      go_wp2_with fail
      go_ret
      exact ⟨ret_int HX.out.symm, B2.out⟩
  · have HX : Hid (r = rd) := HP.out.trans (if_pos hd)
    have t1 : (rd == 0) = false := by simpa using hd
    go_enter Tryz.func46, Tryz.ntmps46
    go_wp2_with fail
    refine HD.out.mono ?_
    rintro e w1 ⟨rfl, hb⟩
    have B1 := Lib.hid hb
    clear hb
    go_wp2_with fail
    go_ret
    exact ⟨ret_int HX.out.symm, B1.out⟩
/-- whether a directory is a node, or stands in it -/
theorem within_any {t : Tr} (hR : Right t) (h : Mem F w sb mb (plainN t) lv last m) (dst n : Int) (hk : (nodeAt t.L dst).kind ≠ 0) : ∃ b, (b = true ↔ Inside t.L n dst) ∧
    Calls Tryz.prog 140 #[.pointer (some ⟨sb, 0, none⟩), .int .i64 dst, .int .i64 n] w fun e w' => e = .returned (.bool b) ∧ Below w.heap.size w w' := by
  classical
  obtain ⟨r, hr⟩ : ∃ r, decide (Inside t.L n dst) = r := ⟨_, rfl⟩
  refine ⟨r, by rw [← hr]; simp, ?_⟩
  have HX := Lib.hid hr
  clear hr
  have HR := Lib.hid (hR.reach hk)
  have HN := Lib.hid (fun (w' : World) (hb : Below w.heap.size w w') (k : Int) => (h.below hb).node_ k)
  clear h hk
  go_enter Tryz.func140, Tryz.ntmps140
  go_wp2_with fail
  go_loopw [1] (fun k5 wr => ∃ k : Int, k5 = .int .i64 k ∧ Hid (Inside t.L n dst ↔ Inside t.L n k) ∧ Hid (∃ j, upN t.L j k = 1) ∧ Hid (Below w.heap.size w wr)) (fun k5 _ => height t.L (intOf k5))
  case atStart => exact ⟨dst, rfl, Iff.rfl, HR.out, Below.refl _ _⟩
  case round =>
    clear HR
    obtain ⟨k, rfl, hin, hrch, hb⟩ := hrel
    by_cases kn : k = n
    · have HZ : Hid (r = true) := HX.out.symm.trans (decide_eq_true (hin.out.2 (by rw [kn]; exact inside_here _ _)))
      clear hin
      subst kn
      go_wp2_with fail
      go_ret
      exact ⟨ret_bool HZ.out.symm, hb.out⟩
    · have t1 : (k == n) = false := by simpa using kn
      have s1 : (k != n) = true := by simpa using kn
      by_cases kr : k = 1
      · have HZ : Hid (r = false) := HX.out.symm.trans (decide_eq_false fun e => by
          have e2 := hin.out.1 e
          rw [kr] at e2
          exact inside_root (fun e3 => kn (kr.trans e3.symm)) e2)
        clear hin hrch
        subst kr
        go_wp2_with fail
        go_ret
        exact ⟨ret_bool HZ.out.symm, hb.out⟩
      · have t2 : (k == 1) = false := by simpa using kr
        have s2 : (k != 1) = true := by simpa using kr
        have HIN := Lib.hid (hin.out.trans (inside_up kn kr))
        have HH := Lib.hid (height_up hrch.out kr)
        obtain ⟨A, c, -, hc⟩ := HN.out wr hb.out k
        have HC := Lib.hid hc
        have hf := nod_up (plainN t k).kind (plainN t k).up ⟨(plainN t k).data.toArray⟩ A (plainN t k).list.length c
        clear hc hin hrch
        go_wp2_with fail
        refine HC.out.mono ?_
        rintro e w1 ⟨rfl, hb2⟩
        have B2 := Lib.hid (on hb.out hb2)
        clear hb2
        go_wp2_with fail
        go_roundw
        case rel => exact ⟨(plainN t k).up, rfl, HIN, HH.out.1, B2⟩
        case measure => exact HH.out.2
set_option maxHeartbeats 1000000 in
theorem checkMove_any {t : Tr} (hR : Right t) (h : Mem F w sb mb (plainN t) lv last m) (n dst : Int) (s : ByteArray) (hk : (nodeAt t.L dst).kind ≠ 0) : ∃ r, (check s.data.toList ≠ 0 → r = check s.data.toList) ∧ (check s.data.toList = 0 → Inside t.L n dst → r = 14) ∧ (check s.data.toList = 0 → ¬ Inside t.L n dst → r = 0) ∧
    Calls Tryz.prog 130 #[.pointer (some ⟨sb, 0, none⟩), .int .i64 n, .int .i64 dst, .string s] w fun e w' => e = .returned (.int .i64 r) ∧ Below w.heap.size w w' := by
  have HK := Lib.hid (W03.check_free s w)
  by_cases hc : check s.data.toList = 0
  · rw [hc] at HK ⊢
    by_cases hi : Inside t.L n dst
    · refine ⟨14, fun e => absurd rfl e, fun _ _ => rfl, fun _ e => absurd hi e, ?_⟩
      have HW := Lib.hid (fun (w' : World) (hb : Below w.heap.size w w') => within_any hR (h.below hb) dst n hk)
      have HI := Lib.hid hi
      clear h hk hc hi
      go_enter Tryz.func130, Tryz.ntmps130
      go_wp2_with fail
      refine HK.out.mono ?_
      rintro e w1 ⟨rfl, hb⟩
      have B1 := Lib.hid hb
      clear hb
      obtain ⟨b, hb, hw⟩ := HW.out w1 B1.out
      have hb := hb.2 HI.out
      subst hb
      have HW := Lib.hid hw
      clear hw
      go_wp2_with fail
      refine HW.out.mono ?_
      rintro e w2 ⟨rfl, hb⟩
      have B2 := Lib.hid (on B1.out hb)
      clear hb
      go_wp2_with fail
      go_ret
      exact ⟨rfl, B2.out⟩
    · refine ⟨0, fun e => absurd rfl e, fun _ e => absurd e hi, fun _ _ => rfl, ?_⟩
      have HW := Lib.hid (fun (w' : World) (hb : Below w.heap.size w w') => within_any hR (h.below hb) dst n hk)
      have HI := Lib.hid hi
      clear h hk hc hi
      go_enter Tryz.func130, Tryz.ntmps130
      go_wp2_with fail
      refine HK.out.mono ?_
      rintro e w1 ⟨rfl, hb⟩
      have B1 := Lib.hid hb
      clear hb
      obtain ⟨b, hb, hw⟩ := HW.out w1 B1.out
      have hb : b = false := by
        cases b with
        | false => rfl
        | true => exact absurd (hb.1 rfl) HI.out
      subst hb
      have HW := Lib.hid hw
      clear hw
      go_wp2_with fail
      refine HW.out.mono ?_
      rintro e w2 ⟨rfl, hb⟩
      have B2 := Lib.hid (on B1.out hb)
      clear hb
      go_wp2_with fail
      go_ret
      exact ⟨rfl, B2.out⟩
  · refine ⟨check s.data.toList, fun _ => rfl, fun e => absurd e hc, fun e => absurd e hc, ?_⟩
    generalize check s.data.toList = rc at *
    have t1 : (rc == 0) = false := by simpa using hc
    have s1 : (rc != 0) = true := by simpa using hc
    clear h hk
    go_enter Tryz.func130, Tryz.ntmps130
    go_wp2_with fail
    refine HK.out.mono ?_
    rintro e w1 ⟨rfl, hb⟩
    go_wp2_with fail
    go_ret
    exact ⟨rfl, hb⟩
/-- why a node can't make room for another one -/
def replaceN (a b : Nod) : Int := if a.kind = 1 ∧ b.kind ≠ 1 then 8 else if a.kind ≠ 1 ∧ b.kind = 1 then 7 else if 0 < a.list.length then 9 else 0
set_option maxHeartbeats 2000000 in
theorem checkReplace_any (h : Mem F w sb mb g lv last m) (th n : Int) : Calls Tryz.prog 131 #[.pointer (some ⟨sb, 0, none⟩), .int .i64 th, .int .i64 n] w fun e w' => e = .returned (.int .i64 (replaceN (g th) (g n))) ∧ Below w.heap.size w w' := by
  obtain ⟨A, c, -, hc⟩ := h.node_ th
  have HC := Lib.hid hc
  have HN := Lib.hid (fun (w' : World) (hb : Below w.heap.size w w') => (h.below hb).node_ n)
  have HP : Hid (replaceN (g th) (g n) = if (g th).kind = 1 ∧ (g n).kind ≠ 1 then 8 else if (g th).kind ≠ 1 ∧ (g n).kind = 1 then 7 else if 0 < (g th).list.length then 9 else 0) := rfl
  clear hc h
  generalize replaceN (g th) (g n) = r at *
  generalize (g th).kind = ko at *
  generalize (g th).up = uo at *
  generalize (g th).data = dto at *
  generalize (g th).list.length = lo at *
  generalize (g n).kind = kn at *
  generalize (g n).up = un at *
  generalize (g n).data = dn at *
  have hfn := fun A2 c2 => nod_kind kn un ⟨dn.toArray⟩ A2 (g n).list.length c2
  have t1 : ∀ k : Int, (k != 1) = !(k == 1) := fun k => rfl
  cases ho : (ko == 1) with
  | true =>
    have e1 : ko = 1 := by simpa using ho
    subst e1
    clear ho
    cases hn : (kn == 1) with
    | true =>
      have e2 : kn = 1 := by simpa using hn
      subst e2
      clear hn
      have HP : Hid (r = if 0 < lo then 9 else 0) := HP.out.trans ((if_neg (by simp)).trans (if_neg (by simp)))
      by_cases hl : (0 : Int) < lo
      · have HX : Hid (r = 9) := HP.out.trans (if_pos (by omega))
        go_enter Tryz.func131, Tryz.ntmps131
        go_wp2_with fail
        refine HC.out.mono ?_
        rintro e w1 ⟨rfl, hb⟩
        have B1 := Lib.hid hb
        obtain ⟨A2, c2, -, hn2⟩ := HN.out w1 hb
        have HN := Lib.hid hn2
        have hf := hfn A2 c2
        clear hb hn2 hfn
        go_wp2_with fail
        refine HN.out.mono ?_
        rintro e w2 ⟨rfl, hb⟩
        have B2 := Lib.hid (on B1.out hb)
        clear hb
        go_wp2_with fail
        go_ret
        exact ⟨ret_int HX.out.symm, B2.out.alloc B2.out.size _⟩
      · have HX : Hid (r = 0) := HP.out.trans (if_neg (by omega))
        go_enter Tryz.func131, Tryz.ntmps131
        go_wp2_with fail
        refine HC.out.mono ?_
        rintro e w1 ⟨rfl, hb⟩
        have B1 := Lib.hid hb
        obtain ⟨A2, c2, -, hn2⟩ := HN.out w1 hb
        have HN := Lib.hid hn2
        have hf := hfn A2 c2
        clear hb hn2 hfn
        go_wp2_with fail
        refine HN.out.mono ?_
        rintro e w2 ⟨rfl, hb⟩
        have B2 := Lib.hid (on B1.out hb)
        clear hb
        go_wp2_with fail
        go_ret
        exact ⟨ret_int HX.out.symm, B2.out.alloc B2.out.size _⟩
    | false =>
      have e2 : kn ≠ 1 := by simpa using hn
      have HX : Hid (r = 8) := HP.out.trans (if_pos ⟨rfl, e2⟩)
      clear e2
      go_enter Tryz.func131, Tryz.ntmps131
      go_wp2_with fail
      refine HC.out.mono ?_
      rintro e w1 ⟨rfl, hb⟩
      have B1 := Lib.hid hb
      obtain ⟨A2, c2, -, hn2⟩ := HN.out w1 hb
      have HN := Lib.hid hn2
      have hf := hfn A2 c2
      clear hb hn2 hfn
      go_wp2_with fail
      refine HN.out.mono ?_
      rintro e w2 ⟨rfl, hb⟩
      have B2 := Lib.hid (on B1.out hb)
      clear hb
      go_wp2_with fail
      go_ret
      exact ⟨ret_int HX.out.symm, B2.out.alloc B2.out.size _⟩
  | false =>
    have e1 : ko ≠ 1 := by simpa using ho
    have s1 : (ko != 1) = true := by simpa using ho
    cases hn : (kn == 1) with
    | true =>
      have e2 : kn = 1 := by simpa using hn
      subst e2
      clear hn
      have HX : Hid (r = 7) := HP.out.trans ((if_neg (by simp)).trans (if_pos ⟨e1, rfl⟩))
      clear e1
      go_enter Tryz.func131, Tryz.ntmps131
      go_wp2_with fail
      refine HC.out.mono ?_
      rintro e w1 ⟨rfl, hb⟩
      have B1 := Lib.hid hb
      obtain ⟨A2, c2, -, hn2⟩ := HN.out w1 hb
      have HN := Lib.hid hn2
      have hf := hfn A2 c2
      clear hb hn2 hfn
      go_wp2_with fail
      refine HN.out.mono ?_
      rintro e w2 ⟨rfl, hb⟩
      have B2 := Lib.hid (on B1.out hb)
      clear hb
      go_wp2_with fail
      go_ret
      exact ⟨ret_int HX.out.symm, B2.out.alloc B2.out.size _⟩
    | false =>
      have e2 : kn ≠ 1 := by simpa using hn
      have HP : Hid (r = if 0 < lo then 9 else 0) := HP.out.trans ((if_neg (fun e => e1 e.1)).trans (if_neg (fun e => e2 e.2)))
      clear e1 e2
      by_cases hl : (0 : Int) < lo
      · have HX : Hid (r = 9) := HP.out.trans (if_pos (by omega))
        go_enter Tryz.func131, Tryz.ntmps131
        go_wp2_with fail
        refine HC.out.mono ?_
        rintro e w1 ⟨rfl, hb⟩
        have B1 := Lib.hid hb
        obtain ⟨A2, c2, -, hn2⟩ := HN.out w1 hb
        have HN := Lib.hid hn2
        have hf := hfn A2 c2
        clear hb hn2 hfn
        go_wp2_with fail
        refine HN.out.mono ?_
        rintro e w2 ⟨rfl, hb⟩
        have B2 := Lib.hid (on B1.out hb)
        clear hb
        go_wp2_with fail
        go_ret
        exact ⟨ret_int HX.out.symm, B2.out.alloc B2.out.size _⟩
      · have HX : Hid (r = 0) := HP.out.trans (if_neg (by omega))
        go_enter Tryz.func131, Tryz.ntmps131
        go_wp2_with fail
        refine HC.out.mono ?_
        rintro e w1 ⟨rfl, hb⟩
        have B1 := Lib.hid hb
        obtain ⟨A2, c2, -, hn2⟩ := HN.out w1 hb
        have HN := Lib.hid hn2
        have hf := hfn A2 c2
        clear hb hn2 hfn
        go_wp2_with fail
        refine HN.out.mono ?_
        rintro e w2 ⟨rfl, hb⟩
        have B2 := Lib.hid (on B1.out hb)
        clear hb
        go_wp2_with fail
        go_ret
        exact ⟨ret_int HX.out.symm, B2.out.alloc B2.out.size _⟩
end
end Go.Proofs.YtmbpgjncioegdaaGreatDoor.W07
