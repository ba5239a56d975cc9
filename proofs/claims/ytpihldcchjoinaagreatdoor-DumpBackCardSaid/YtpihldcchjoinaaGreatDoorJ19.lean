/-
  Texts joined, in build order, each with its own comment and its own conditions: W07Mem, W12Put, W12Make.
-/
import Derived.Test.YtpihldcchjoinaaGreatDoorJ09
import Derived.Test.YtpihldcchjoinaaGreatDoorJ08
import Derived.Test.YtpihldcchjoinaaGreatDoorJ10
import Derived.Test.YtpihldcchjoinaaGreatDoorJ16
import Derived.Test.YtpihldcchjoinaaGreatDoorJ18
import Derived.Test.YtpihldcchjoinaaGreatDoorJ13
/-
  Layer 7 (tree), walks: what the landed code's tree is in memory: a box with the map of nodes, each node's list of names; the calls that only look: node, Kind, Data, Up, Len, List. The bounds stand in the statements.
-/
namespace Go.Proofs.YtpihldcchjoinaaGreatDoor.W07
set_option maxRecDepth 100000
open Go Go.RowKit Go.Proofs.YtpihldcchjoinaaGreatDoor.Strs Go.Proofs.YtpihldcchjoinaaGreatDoor.Recs Go.Proofs.YtpihldcchjoinaaGreatDoor.M07 Go.Proofs.YtpihldcchjoinaaGreatDoor.Maps Go.Proofs.YtpihldcchjoinaaGreatDoor.Range
open Go.Proofs.YtpihldcchjoinaaGreatDoor.M06 (Ent)
open Go.Proofs.YtpihldcchjoinaaGreatDoor.W06 (Ents HandsE)
open Go.Proofs.YtpihldcchjoinaaGreatDoor.Kit (ret_str ret_bool ret_int mk_of mk_bytes ba_ext below_draws on)

/-- a node as the map holds it; v: its list of names -/
def nodV (x : Nod) (v : Value) : Value := .agg #[.int .i64 x.kind, .int .i64 x.up, .string ⟨x.data.toArray⟩, v]
def held (g : Int → Nod) (lv : Int → Value) (n : Int) : Option Value := if (g n).kind = 0 then none else some (nodV (g n) (lv n))
theorem key_under : Tryz.prog.underlying 3 = some (.int .i64) := Tryz.underlying3
theorem map_under : Tryz.prog.underlying 97 = some (.map 3 96) := Tryz.underlying97
theorem zero_node (w : World) : (zeroValue 96).run Tryz.prog w = .ok (.agg #[.int .i64 0, .int .i64 0, .string ⟨#[]⟩, .slice none 0 0]) w := by kernel_rfl
/-- the box of a tree -/
def RootBox (w : World) (sb mb : Nat) (last : Int) : Prop := w.heap[sb]? = some (.cells #[.map (some mb), .int .i64 last] 99 (0, 0))
section
variable {w w' : World} {sb mb : Nat} {last : Int}
theorem RootBox.lt (h : RootBox w sb mb last) : sb < w.heap.size := (Array.getElem?_eq_some_iff.1 h).1
theorem RootBox.c0 (h : RootBox w sb mb last) : w.cell? ⟨sb, 0, none⟩ = some (.map (some mb)) := cell_of_row w _ 0 _ _ (0, 0) h
theorem RootBox.c1 (h : RootBox w sb mb last) : w.cell? ⟨sb, 1, none⟩ = some (.int .i64 last) := cell_of_row w _ 1 _ _ (0, 0) h
theorem RootBox.fr (h : RootBox w sb mb last) (j : Nat) : w.frozen? ⟨sb, j, none⟩ = false := frozen_of_row w _ j _ _ h
theorem RootBox.count (h : RootBox w sb mb last) (n : Int) : RootBox (w.setCell ⟨sb, 1, none⟩ (.int .i64 n)) sb mb n := set_heap h 1 (.int .i64 n)
end
structure Mem (F : Nat → Prop) (w : World) (sb mb : Nat) (g : Int → Nod) (lv : Int → Value) (last : Int) (m : Nat) : Prop where
  box : RootBox w sb mb last
  fs : F sb
  fm : F mb
  low : ∀ k, F k → k < w.heap.size
  map : MapIs w Tryz.prog 3 mb (held g lv) m
  zero : ∀ n, (g n).kind = 0 → g n = nod0 ∧ lv n = .slice none 0 0
  list : ∀ n, Ents w.heap.size w (lv n) (g n).list
  at_ : ∀ n b o c d, 0 < (g n).list.length → lv n = .slice (some ⟨b, o, none⟩) c d → F b
/-- lists are no longer than nodes are many -/
def Short (g : Int → Nod) : Prop := ∀ n, (g n).list.length ≤ 1073741824

theorem ents_keep {B : Nat} {w w' : World} {v : Value} {L : List Ent} (h : Ents B w v L) (hk : ∀ b o c d, 0 < L.length → b < B → v = .slice (some ⟨b, o, none⟩) c d → w'.heap[b]? = w.heap[b]?) : Ents B w' v L := by
  obtain ⟨A, c, rfl, h1, h2⟩ := h.form
  rcases Nat.eq_zero_or_pos L.length with h0 | h0
  · obtain ⟨A', c', e, a1, a2, -⟩ := h
    exact ⟨A', c', e, a1, a2, fun hn => absurd hn (by omega)⟩
  · obtain ⟨b, o, hl, rfl, hb, -⟩ := Recs.flat_ h W06.entC_len (by omega) h0
    exact Recs.other h fun p hp => World.cell?_of_block (by rw [hp]; exact hk b o _ _ h0 hb rfl)
section
variable {F F' : Nat → Prop} {w w' : World} {sb mb : Nat} {g : Int → Nod} {lv : Int → Value} {last : Int} {m : Nat}
theorem Mem.keep (h : Mem F w sb mb g lv last m) (hk : ∀ k, F k → w'.heap[k]? = w.heap[k]?) (hs : w.heap.size ≤ w'.heap.size) : Mem F w' sb mb g lv last m where
  box := (hk _ h.fs).trans h.box
  fs := h.fs
  fm := h.fm
  low := fun k hf => Nat.lt_of_lt_of_le (h.low k hf) hs
  map := h.map.keep (hk _ h.fm)
  zero := h.zero
  list := fun n => (ents_keep (h.list n) fun b o c d e0 _ e => hk b (h.at_ n b o c d e0 e)).more hs
  at_ := h.at_
theorem Mem.below (h : Mem F w sb mb g lv last m) (hb : Below w.heap.size w w') : Mem F w' sb mb g lv last m := h.keep (fun k hf => hb.block k (h.low k hf)) hb.size
theorem Mem.alloc (h : Mem F w sb mb g lv last m) (o : Obj) : Mem F (w.alloc o) sb mb g lv last m := h.below ((Below.refl _ _).alloc (Nat.le_refl _) o)
theorem Mem.look (h : Mem F w sb mb g lv last m) (n : Int) : (held g lv n).getD (.agg #[.int .i64 0, .int .i64 0, .string ⟨#[]⟩, .slice none 0 0]) = nodV (g n) (lv n) := by
  unfold held
  split
  · rename_i e
    obtain ⟨e1, e2⟩ := h.zero n e
    rw [e1, e2]; rfl
  · rfl
theorem Mem.form (h : Mem F w sb mb g lv last m) (n : Int) : ∃ A c, lv n = .slice A (g n).list.length c := by
  obtain ⟨A, c, e, -, -⟩ := (h.list n).form
  exact ⟨A, c, e⟩
set_option maxHeartbeats 1000000 in
theorem node_any (h : Mem F w sb mb g lv last m) (n : Int) : Calls Tryz.prog 77 #[.pointer (some ⟨sb, 0, none⟩), .int .i64 n] w fun e w' => e = .returned (nodV (g n) (lv n)) ∧ Below w.heap.size w w' := by
  have HM := Lib.hid (h.map.alloc (.cells #[.int .i64 0, .int .i64 0, .string ⟨#[]⟩, .slice none 0 0] 96))
  have HL := Lib.hid (h.look n)
  have c0 := h.box.c0
  have hlt := h.box.lt
  obtain ⟨A, c, e⟩ := h.form n
  rw [e]
  rw [e] at HL
  generalize (g n).list.length = k at *
  obtain ⟨x, hx⟩ : ∃ x, g n = x := ⟨_, rfl⟩
  rw [hx] at HL
  rw [hx]
  clear e hx h
  go_enter Tryz.func77, Tryz.ntmps77
  go_wp2_with (at_lookup; refine wpList_look _ rfl _ _ 97 rfl 3 96 key_under map_under (zero_node _) mb m (held g lv) rfl HM.out n rfl (.agg #[.int .i64 x.kind, .int .i64 x.up, .string ⟨x.data.toArray⟩, .slice A k c]) HL.out ?_)
  refine bodyPost_ret_by (v := nodV x (.slice A k c)) ?_ rfl ⟨rfl, ?_⟩
  · rw [results_cell_one rfl]
    go_simp
    rfl
  · exact (Below.refl _ _).alloc (Nat.le_refl _) _
theorem nod_kind (a b : Int) (c : ByteArray) (A : Option Addr) (n k : Nat) (w : World) : (Instr.field 96 (.agg #[.int .i64 a, .int .i64 b, .string c, .slice A n k]) 0).run Tryz.prog w = .ok (.int .i64 a) w := by kernel_rfl
theorem nod_up (a b : Int) (c : ByteArray) (A : Option Addr) (n k : Nat) (w : World) : (Instr.field 96 (.agg #[.int .i64 a, .int .i64 b, .string c, .slice A n k]) 1).run Tryz.prog w = .ok (.int .i64 b) w := by kernel_rfl
theorem nod_data (a b : Int) (c : ByteArray) (A : Option Addr) (n k : Nat) (w : World) : (Instr.field 96 (.agg #[.int .i64 a, .int .i64 b, .string c, .slice A n k]) 2).run Tryz.prog w = .ok (.string c) w := by kernel_rfl
theorem nod_list (a b : Int) (c : ByteArray) (A : Option Addr) (n k : Nat) (w : World) : (Instr.field 96 (.agg #[.int .i64 a, .int .i64 b, .string c, .slice A n k]) 3).run Tryz.prog w = .ok (.slice A n k) w := by kernel_rfl
/-- node's result, written out -/
theorem Mem.node_ (h : Mem F w sb mb g lv last m) (n : Int) : ∃ A c, lv n = .slice A (g n).list.length c ∧ Calls Tryz.prog 77 #[.pointer (some ⟨sb, 0, none⟩), .int .i64 n] w fun e w' => e = .returned (.agg #[.int .i64 (g n).kind, .int .i64 (g n).up, .string ⟨(g n).data.toArray⟩, .slice A (g n).list.length c]) ∧ Below w.heap.size w w' := by
  obtain ⟨A, c, e⟩ := h.form n
  have := node_any h n
  rw [e] at this
  exact ⟨A, c, e, this⟩
set_option maxHeartbeats 1000000 in
theorem kind_any (h : Mem F w sb mb g lv last m) (n : Int) : Calls Tryz.prog 42 #[.pointer (some ⟨sb, 0, none⟩), .int .i64 n] w fun e w' => e = .returned (.int .i64 (g n).kind) ∧ Below w.heap.size w w' := by
  obtain ⟨A, c, -, hc⟩ := h.node_ n
  have HC := Lib.hid hc
  have hf := nod_kind (g n).kind (g n).up ⟨(g n).data.toArray⟩ A (g n).list.length c
  clear hc h
  go_enter Tryz.func42, Tryz.ntmps42
  go_wp2_with fail
  refine HC.out.mono ?_
  rintro e w1 ⟨rfl, hb⟩
  go_wp2_with fail
  go_ret
  exact ⟨rfl, hb⟩
set_option maxHeartbeats 1000000 in
theorem up_any (h : Mem F w sb mb g lv last m) (n : Int) : Calls Tryz.prog 44 #[.pointer (some ⟨sb, 0, none⟩), .int .i64 n] w fun e w' => e = .returned (.int .i64 (g n).up) ∧ Below w.heap.size w w' := by
  obtain ⟨A, c, -, hc⟩ := h.node_ n
  have HC := Lib.hid hc
  have hf := nod_up (g n).kind (g n).up ⟨(g n).data.toArray⟩ A (g n).list.length c
  clear hc h
  go_enter Tryz.func44, Tryz.ntmps44
  go_wp2_with fail
  refine HC.out.mono ?_
  rintro e w1 ⟨rfl, hb⟩
  go_wp2_with fail
  go_ret
  exact ⟨rfl, hb⟩
set_option maxHeartbeats 1000000 in
theorem data_any (h : Mem F w sb mb g lv last m) (n : Int) : Calls Tryz.prog 43 #[.pointer (some ⟨sb, 0, none⟩), .int .i64 n] w fun e w' => e = .returned (.string ⟨(g n).data.toArray⟩) ∧ Below w.heap.size w w' := by
  obtain ⟨A, c, -, hc⟩ := h.node_ n
  have HC := Lib.hid hc
  have hf := nod_data (g n).kind (g n).up ⟨(g n).data.toArray⟩ A (g n).list.length c
  clear hc h
  go_enter Tryz.func43, Tryz.ntmps43
  go_wp2_with fail
  refine HC.out.mono ?_
  rintro e w1 ⟨rfl, hb⟩
  go_wp2_with fail
  go_ret
  exact ⟨rfl, hb⟩
set_option maxHeartbeats 1000000 in
theorem len_any (h : Mem F w sb mb g lv last m) : Calls Tryz.prog 40 #[.pointer (some ⟨sb, 0, none⟩)] w fun e w' => e = .returned (.int .i64 m) ∧ Below w.heap.size w w' := by
  have c0 := h.box.c0
  have hl := fun ty => h.map.len (t := 97) map_under ty
  clear h
  go_enter Tryz.func40, Tryz.ntmps40
  go_wp2_with fail
  go_ret
  exact ⟨rfl, Below.refl _ _⟩
theorem is_nil (n c : Nat) (w : World) : (binOp BinOp.eql 89 (.slice none n c) (.slice none 0 0)).run Tryz.prog w = .ok (.bool true) w := by kernel_rfl
theorem is_some (ad : Addr) (n c : Nat) (w : World) : (binOp BinOp.eql 89 (.slice (some ad) n c) (.slice none 0 0)).run Tryz.prog w = .ok (.bool false) w := by kernel_rfl
set_option maxHeartbeats 1000000 in
set_option maxRecDepth 100000 in
theorem clone_any (v : Value) (L : List Ent) (h : Ents w.heap.size w v L) (hn : L.length ≤ 1099511627776) : Calls Tryz.prog 79 #[v] w (W06.HandsN w L) := by
  obtain ⟨A, c, rfl, -, -⟩ := h.form
  cases A with
  | none =>
    have h0 : L = [] := by
      rcases Nat.eq_zero_or_pos L.length with h0 | h0
      · exact List.length_eq_zero_iff.1 h0
      · obtain ⟨b, o, hl, e, -⟩ := Recs.flat_ h W06.entC_len (by omega) h0
        cases e
    subst h0
    have hnil := is_nil 0 c
    go_enter Tryz.func79, Tryz.ntmps79
    go_wp2_with fail
    go_ret
    exact ⟨.slice none 0 0, rfl, recs_nil _ _ _ _, (fun b o n c e => by cases e), Below.refl _ _⟩
  | some ad =>
    have H := Lib.hid h
    have hnil := is_some ad L.length c
    clear h
    go_enter Tryz.func79, Tryz.ntmps79
    obtain ⟨i0, hi, hz0, hz1, hz2⟩ := info_parts W06.ent_info
    have hown : (w.alloc (.cells #[] 114)).ownsRow w.heap.size 114 2 (.slice (some ⟨w.heap.size, 0, none⟩) 0 0) 0 [] :=
      ⟨rfl, Or.inr ⟨w.heap.size, 0, #[], rfl, Nat.le_refl _, by show (w.heap.push _)[w.heap.size]? = _; simp, Nat.zero_le _, Nat.zero_le _, rfl, by simp⟩⟩
    have OW := Lib.hid hown
    clear hown
    go_wp2_with (at_builtin; refine wpList_append_recs rfl (.tmp 5) (.tmp 6) 89 rfl w.heap.size 114 i0 (.agg #[.string ⟨#[]⟩, .int .i64 0]) 2 24 Tryz.underlying89 hi hz0 hz1 hz2 rfl (by decide) _ _ _ rfl OW.out _ L w.heap.size rfl (H.out.alloc (Nat.le_refl _) _) W06.entC_len W06.entC_one (by unfold maxLen; omega) (by omega) (by simp) ?_; intro v1 w2 hown1 hg2 _)
    have O2 : Hid (W06.OwnEnts w2 w.heap.size v1 L) := W06.own_ents_all (out := []) hown1
    have B2 : Hid (Below w.heap.size w w2) := ((Below.refl w.heap.size w).alloc (Nat.le_refl _) _).grown hg2 (by simp) (fun k hk => (OW.out.lt k hk).1)
    clear hown1 hg2 OW hi hz0 hz1 hz2
    go_wp2
    go_ret
    exact ⟨v1, rfl, O2.out.reads, W06.own_new O2.out (Nat.le_refl _), B2.out⟩
set_option maxHeartbeats 1000000 in
theorem list_any (h : Mem F w sb mb g lv last m) (n : Int) (hn : (g n).list.length ≤ 1099511627776) : Calls Tryz.prog 47 #[.pointer (some ⟨sb, 0, none⟩), .int .i64 n] w (W06.HandsN w (g n).list) := by
  obtain ⟨A, c, e, hc⟩ := h.node_ n
  have hE := h.list n
  rw [e] at hE
  have HCL := Lib.hid (fun (w' : World) (hb : Below w.heap.size w w') => clone_any (.slice A (g n).list.length c) (g n).list ((hE.below hb).more hb.size) hn)
  have HC := Lib.hid hc
  have hf := nod_list (g n).kind (g n).up ⟨(g n).data.toArray⟩ A (g n).list.length c
  clear hc h e hE
  generalize (g n).list = L at *
  go_enter Tryz.func47, Tryz.ntmps47
  go_wp2_with fail
  refine HC.out.mono ?_
  rintro e w1 ⟨rfl, hb⟩
  have HCL := Lib.hid (HCL.out w1 hb)
  have B1 := Lib.hid hb
  have hs1 := hb.size
  clear hb
  go_wp2_with fail
  refine HCL.out.mono ?_
  rintro e w2 ⟨u, rfl, hu, hnew, hb⟩
  have U := Lib.hid hu
  have N := Lib.hid hnew
  have B2 := Lib.hid (on B1.out hb)
  clear hu hnew hb
  go_wp2
  go_ret
  exact ⟨u, rfl, U.out, fun b o n c e => Nat.le_trans hs1 (N.out b o n c e), B2.out⟩
end

/-! what the calls that write do to the box, the map and the lists -/
theorem cell_not_map {w : World} {b : Nat} {es : Array MapEntry} {clock : Nat} (h : w.heap[b]? = some (.map es clock)) (o : Nat) (s : Option Nat) : w.cell? ⟨b, o, s⟩ = none := by simp [World.cell?, h]
theorem ents_turn {B : Nat} {w w' : World} {v : Value} {L : List Ent} {mb : Nat} {es : Array MapEntry} {clock : Nat} (h : Ents B w v L) (hm : w.heap[mb]? = some (.map es clock)) (hg : w.grownBy w' (some mb)) : Ents B w' v L := by
  obtain ⟨A, c, e, h1, h2, h3⟩ := h
  refine ⟨A, c, e, h1, h2, fun hn => ?_⟩
  obtain ⟨ad, e2, hb, hc⟩ := h3 hn
  refine ⟨ad, e2, hb, fun k hk j hj => ?_⟩
  have := hc k hk j hj
  have hlt : j < (W06.entC L[k]).length := hj
  rw [List.getElem?_eq_getElem hlt] at this ⊢
  refine hg.cell this fun e => ?_
  have e : (ad.add (k * 2 + j)).block = mb := by injection e
  have hz := cell_not_map hm (ad.add (k * 2 + j)).off (ad.add (k * 2 + j)).spot
  rw [← e] at hz
  rw [show (⟨(ad.add (k * 2 + j)).block, (ad.add (k * 2 + j)).off, (ad.add (k * 2 + j)).spot⟩ : Addr) = ad.add (k * 2 + j) from rfl, this] at hz
  cases hz
theorem narrow {F : Nat → Prop} {w w' : World} (h : Turns (fun k => F k ∨ w.heap.size ≤ k) w w') : Turns F w w' :=
  ⟨h.os, h.tape, h.output, h.size, fun i hi ht => h.block i hi (by rintro (e | e); exact ht e; omega)⟩
/-- what is new, beside F, from B on -/
def More (F : Nat → Prop) (B : Nat) (w : World) (k : Nat) : Prop := F k ∨ (B ≤ k ∧ k < w.heap.size)
section
variable {F F' : Nat → Prop} {w w' : World} {sb mb : Nat} {g : Int → Nod} {lv : Int → Value} {last : Int} {m m' : Nat}
theorem Mem.wider (h : Mem F w sb mb g lv last m) (hs : ∀ k, F k → F' k) (hl : ∀ k, F' k → k < w.heap.size) : Mem F' w sb mb g lv last m where
  box := h.box
  fs := hs _ h.fs
  fm := hs _ h.fm
  low := hl
  map := h.map
  zero := h.zero
  list := h.list
  at_ := fun n b o c d e0 e => hs _ (h.at_ n b o c d e0 e)
theorem Mem.more (h : Mem F w sb mb g lv last m) (B : Nat) : Mem (More F B w) w sb mb g lv last m := h.wider (fun _ => Or.inl) (by rintro k (hk | hk); exact h.low k hk; exact hk.2)
theorem Mem.apart (h : Mem F w sb mb g lv last m) : sb ≠ mb := by
  intro e
  obtain ⟨es, clock, hm⟩ := h.map.at_
  have := h.box
  unfold RootBox at this
  rw [e, hm] at this
  cases this
theorem held_upd {n : Int} {x : Nod} {u : Value} (hx : x.kind ≠ 0) (i : Int) : upd (held g lv) n (some (nodV x u)) i = held (upd g n x) (upd lv n u) i := by
  unfold upd held
  by_cases e : i = n
  · subst e; simp [hx]
  · simp [e]
/-- the box, and each list, while the map alone turns -/
theorem Mem.turned (h : Mem F w sb mb g lv last m) {n : Int} {x : Nod} {u : Value} (hz : x.kind = 0 → x = nod0 ∧ u = .slice none 0 0) (hu : Ents w.heap.size w u x.list) (hF : ∀ b o c d, 0 < x.list.length → u = .slice (some ⟨b, o, none⟩) c d → F b)
    (hmap : MapIs w' Tryz.prog 3 mb (held (upd g n x) (upd lv n u)) m') (hg : w.grownBy w' (some mb)) : Mem F w' sb mb (upd g n x) (upd lv n u) last m' where
  box := (hg.block sb h.box.lt (by intro e; injection e with e; exact h.apart e)).trans h.box
  fs := h.fs
  fm := h.fm
  low := fun k hk => Nat.lt_of_lt_of_le (h.low k hk) hg.size
  map := hmap
  zero := fun i hi => by
    unfold upd at hi ⊢
    by_cases e : i = n
    · rw [if_pos e] at hi ⊢; rw [if_pos e]; exact hz hi
    · rw [if_neg e] at hi ⊢; rw [if_neg e]; exact h.zero i hi
  list := fun i => by
    obtain ⟨es, clock, hm⟩ := h.map.at_
    unfold upd
    by_cases e : i = n
    · rw [if_pos e, if_pos e]; exact (ents_turn hu hm hg).more hg.size
    · rw [if_neg e, if_neg e]; exact (ents_turn (h.list i) hm hg).more hg.size
  at_ := fun i b o c d => by
    unfold upd
    by_cases e : i = n
    · rw [if_pos e, if_pos e]; exact hF b o c d
    · rw [if_neg e, if_neg e]; exact h.at_ i b o c d
theorem Mem.stored (h : Mem F w sb mb g lv last m) {n : Int} {x : Nod} {u : Value} (hx : x.kind ≠ 0) (hu : Ents w.heap.size w u x.list) (hF : ∀ b o c d, 0 < x.list.length → u = .slice (some ⟨b, o, none⟩) c d → F b)
    (hmap : MapIs w' Tryz.prog 3 mb (upd (held g lv) n (some (nodV x u))) m') (ht : w.mapTurned w' mb) : Mem F w' sb mb (upd g n x) (upd lv n u) last m' :=
  h.turned (fun e => absurd e hx) hu hF (hmap.as (held_upd hx) rfl) ht.grown
theorem Mem.some_ (_h : Mem F w sb mb g lv last m) {n : Int} (hn : (g n).kind ≠ 0) : held g lv n = some (nodV (g n) (lv n)) := by unfold held; rw [if_neg hn]
theorem Mem.wf (h : Mem F w sb mb g lv last m) {n : Int} (hn : (g n).kind ≠ 0) : (Lit.int .i64 n).wf = true := h.map.wf key_under (h.some_ hn)
theorem turned_turns {T : Nat → Prop} (ht : w.mapTurned w' mb) (hT : T mb) : Turns T w w' := Turns.of_grown ht.grown (fun r e => by cases e; exact hT)
theorem drew_turns (T : Nat → Prop) (w : World) : Turns T w w.drew := ⟨rfl, rfl, rfl, Nat.le_refl _, fun _ _ _ => rfl⟩
/-- a box of a node -/
def NodBox (w : World) (p : Nat) (x : Nod) (u : Value) : Prop := w.heap[p]? = some (.cells #[.int .i64 x.kind, .int .i64 x.up, .string ⟨x.data.toArray⟩, u] 96 (0, 0))
variable {p : Nat} {x : Nod} {u : Value}
theorem NodBox.lt (h : NodBox w p x u) : p < w.heap.size := (Array.getElem?_eq_some_iff.1 h).1
theorem NodBox.below (h : NodBox w p x u) (hb : Below w.heap.size w w') : NodBox w' p x u := (hb.block _ h.lt).trans h
theorem NodBox.new (w : World) (x : Nod) (u : Value) : NodBox (w.alloc (.cells #[.int .i64 x.kind, .int .i64 x.up, .string ⟨x.data.toArray⟩, u] 96)) w.heap.size x u := heap_top _ _
theorem NodBox.c0 (h : NodBox w p x u) : w.cell? ⟨p, 0, none⟩ = some (.int .i64 x.kind) := cell_of_row w _ 0 _ _ (0, 0) h
theorem NodBox.c1 (h : NodBox w p x u) : w.cell? ⟨p, 1, none⟩ = some (.int .i64 x.up) := cell_of_row w _ 1 _ _ (0, 0) h
theorem NodBox.c2 (h : NodBox w p x u) : w.cell? ⟨p, 2, none⟩ = some (.string ⟨x.data.toArray⟩) := cell_of_row w _ 2 _ _ (0, 0) h
theorem NodBox.c3 (h : NodBox w p x u) : w.cell? ⟨p, 3, none⟩ = some u := cell_of_row w _ 3 _ _ (0, 0) h
theorem NodBox.fr (h : NodBox w p x u) (j : Nat) : w.frozen? ⟨p, j, none⟩ = false := frozen_of_row w _ j _ _ h
theorem NodBox.set3 (h : NodBox w p x u) (L : List Ent) (u' : Value) : NodBox (w.setCell ⟨p, 3, none⟩ u') p { x with list := L } u' := set_heap h 3 u'
theorem NodBox.set1 (h : NodBox w p x u) (d : Int) : NodBox (w.setCell ⟨p, 1, none⟩ (.int .i64 d)) p { x with up := d } u := set_heap h 1 (.int .i64 d)
theorem NodBox.set2 (h : NodBox w p x u) (s : ByteArray) : NodBox (w.setCell ⟨p, 2, none⟩ (.string s)) p { x with data := s.data.toList } u := by
  have h2 := set_heap h 2 (.string s)
  have e : (⟨s.data.toList.toArray⟩ : ByteArray) = s := mk_bytes s
  unfold NodBox
  rw [e]
  exact h2
end
end Go.Proofs.YtpihldcchjoinaaGreatDoor.W07
/-
  Layer 12 (dump), walks of the program's put, Lay, Make, over any reading of a tree. The conditions stand in the statements.
-/
namespace Go.Proofs.YtpihldcchjoinaaGreatDoor.W12
set_option maxRecDepth 100000
open Go Go.RowKit Go.Shelf Go.Proofs.YtpihldcchjoinaaGreatDoor.Strs Go.Proofs.YtpihldcchjoinaaGreatDoor.Recs Go.Proofs.YtpihldcchjoinaaGreatDoor.Range
open Go.Proofs.YtpihldcchjoinaaGreatDoor.M12
open Go.Proofs.YtpihldcchjoinaaGreatDoor.M07 (Tr Nd nodeAt Right)
open Go.Proofs.YtpihldcchjoinaaGreatDoor.M09 (Kept putAt write stat)
open Go.Proofs.YtpihldcchjoinaaGreatDoor.W07 (Small Trees Wrote Off)
open Go.Proofs.YtpihldcchjoinaaGreatDoor.W09 (Posix Within statV)
open Go.Proofs.YtpihldcchjoinaaGreatDoor.W11
open Go.Proofs.YtpihldcchjoinaaGreatDoor.Kit (ret_str ret_bool ret_int mk_of mk_bytes ba_ext below_draws on)

theorem stat_err (t : Tr) (p : Bytes) : (stat t p false).2 = (M08.find t p false).2 := by
  unfold M09.stat
  by_cases h : (M08.find t p false).2 = 0
  · rw [if_neg (by simpa using h), h]
  · rw [if_pos h]
theorem right_kind {p d : Bytes} {k : Int} (h : rightR ⟨p, k, d⟩ = true) : (k = 1 ∧ d = []) ∨ k = 2 ∨ k = 3 := by
  unfold rightR mayHave at h
  simp only [Bool.and_eq_true, Bool.or_eq_true, decide_eq_true_eq] at h
  rcases h.2 with (h | h) | h
  · exact Or.inl h
  · exact Or.inr (Or.inl h)
  · exact Or.inr (Or.inr h.1)
section
variable {Rep : (Nat → Prop) → World → Value → Tr → Prop} {F : Nat → Prop} {w w1 w2 : World} {v : Value} {t t' : Tr}
theorem wrote_none (C : Trees Rep) (H : Rep F w v t) (hb : Below w.heap.size w w1) : Wrote Rep F v t w w1 := ⟨F, C.below H hb, Turns.new hb, fun _ => Or.inl⟩
theorem wrote_after (hb : Below w.heap.size w w1) (h : Wrote Rep F v t' w1 w2) : Wrote Rep F v t' w w2 := by
  obtain ⟨F', h1, h2, h3⟩ := h
  exact ⟨F', h1, (Turns.new hb).trans h2, fun k hk => (h3 k hk).imp id (Nat.le_trans hb.size)⟩
set_option maxHeartbeats 4000000 in
theorem put_any (C : Trees Rep) (S : Posix Rep) {va : Addr} (H : Rep F w (.pointer (some va)) t) (G : W09.Good t) (p x : ByteArray) (k : Int) (hp : p.size ≤ 1048576) (hx : x.size ≤ 1048576) :
    Calls Tryz.prog 37 #[.pointer (some va), .agg #[.string p, .int .i64 k, .string x]] w fun e w' => e = .returned (.int .i64 (makeOn t ⟨p.data.toList, k, x.data.toList⟩).2) ∧ Wrote Rep F (.pointer (some va)) (makeOn t ⟨p.data.toList, k, x.data.toList⟩).1 w w' := by
  obtain ⟨w1, hw1⟩ : ∃ w1, w.alloc (.cells #[.string p, .int .i64 k, .string x] 41) = w1 := ⟨_, rfl⟩
  have hb1 : Below w.heap.size w w1 := by rw [← hw1]; exact below_box w _
  have hs1 : w.heap.size < w1.heap.size := by rw [← hw1, World.size_alloc]; omega
  have X1 : RowBox w1 w.heap.size p k x := by rw [← hw1]; exact W11.RowBox.new _ _ _ _ _
  obtain ⟨x0, x1, x2⟩ := X1
  have HRT := Lib.hid (right_any p x k (by omega) w1)
  have HW := Lib.hid (fun (w' : World) (hb : Below w.heap.size w w') => wrote_none C H hb)
  have HLS := Lib.hid (fun (w' : World) (hb : Below w.heap.size w w') => S.lstat (C.below H hb) G p hp)
  have HMK := Lib.hid (fun (w' : World) (hb : Below w.heap.size w w') => S.mkdir (C.below H hb) G p hp)
  have HSY := Lib.hid (fun (w' : World) (hb : Below w.heap.size w w') => S.symlink (C.below H hb) G x p hx hp)
  have HWR := Lib.hid (fun (w' : World) (hb : Below w.heap.size w w') => S.write (C.below H hb) G p x hp hx)
  have hst := stat_err t p.data.toList
  generalize stat t p.data.toList false = st at *
  obtain ⟨st1, st2⟩ := st
  simp only at hst
  subst hst
  obtain ⟨s0, s1, s2⟩ := st1
  unfold statV at HLS
  cases hrt : rightR ⟨p.data.toList, k, x.data.toList⟩ with
  | false =>
    rw [hrt] at HRT
    rw [make_no hrt]
    clear hrt
    go_enter Tryz.func37, Tryz.ntmps37
    go_wp2_with fail
    clear hw1
    refine HRT.out.mono ?_
    rintro e w2 ⟨rfl, hb2⟩
    have HE := Lib.hid (HW.out w2 (on hb1 hb2))
    go_wp2_with fail
    go_ret
    exact ⟨rfl, HE.out⟩
  | true =>
    rw [hrt] at HRT
    by_cases hth : (M08.find t p.data.toList false).2 = 0
    · rw [make_there hrt hth]
      rw [hth] at HLS
      clear hrt hth
      go_enter Tryz.func37, Tryz.ntmps37
      go_wp2_with fail
      clear hw1
      refine HRT.out.mono ?_
      rintro e w2 ⟨rfl, hb2⟩
      have z0 : w2.cell? ⟨w.heap.size, 0, none⟩ = _ := (hb2.cell (p := ⟨w.heap.size, 0, none⟩) hs1).trans x0
      have HB2 := Lib.hid (on hb1 hb2)
      go_wp2_with fail
      refine (HLS.out w2 HB2.out).mono ?_
      rintro e w3 ⟨rfl, hb3⟩
      have HE := Lib.hid (HW.out _ ((on HB2.out hb3).trans ((below_box w3 (.cells #[.int .i64 s0, .int .i64 s1, .int .i64 s2] 119)).mono (on HB2.out hb3).size)))
      go_wp2_with fail
      go_ret
      exact ⟨rfl, HE.out⟩
    · have hth2 : ((M08.find t p.data.toList false).2 == 0) = false := by simpa using hth
      have HKD := Lib.hid (right_kind hrt)
      have HMF := Lib.hid (fun (e : k = 2) => (by subst e; exact make_file (t := t) hrt hth : makeOn t ⟨p.data.toList, k, x.data.toList⟩ = write t p.data.toList x.data.toList))
      have HMO := Lib.hid (fun e => make_other (t := t) hrt hth e)
      generalize makeOn t ⟨p.data.toList, k, x.data.toList⟩ = Q at *
      generalize (M08.find t p.data.toList false).2 = fe at *
      clear hrt
      go_enter Tryz.func37, Tryz.ntmps37
      go_wp2_with fail
      clear hw1
      refine HRT.out.mono ?_
      rintro e w2 ⟨rfl, hb2⟩
      have z0 : w2.cell? ⟨w.heap.size, 0, none⟩ = _ := (hb2.cell (p := ⟨w.heap.size, 0, none⟩) hs1).trans x0
      have z1 : w2.cell? ⟨w.heap.size, 1, none⟩ = _ := (hb2.cell (p := ⟨w.heap.size, 1, none⟩) hs1).trans x1
      have z2 : w2.cell? ⟨w.heap.size, 2, none⟩ = _ := (hb2.cell (p := ⟨w.heap.size, 2, none⟩) hs1).trans x2
      have HB2 := Lib.hid (on hb1 hb2)
      go_wp2_with fail
      refine (HLS.out w2 HB2.out).mono ?_
      rintro e w3 ⟨rfl, hb3⟩
      obtain ⟨w4, hw4⟩ : ∃ w4, w3.alloc (.cells #[.int .i64 s0, .int .i64 s1, .int .i64 s2] 119) = w4 := ⟨_, rfl⟩
      have hb4 : Below w2.heap.size w2 w4 := by rw [← hw4]; exact hb3.alloc hb3.size _
      have hl2 : w.heap.size < w2.heap.size := Nat.lt_of_lt_of_le hs1 hb2.size
      have y0 : w4.cell? ⟨w.heap.size, 0, none⟩ = _ := (hb4.cell (p := ⟨w.heap.size, 0, none⟩) hl2).trans z0
      have y1 : w4.cell? ⟨w.heap.size, 1, none⟩ = _ := (hb4.cell (p := ⟨w.heap.size, 1, none⟩) hl2).trans z1
      have y2 : w4.cell? ⟨w.heap.size, 2, none⟩ = _ := (hb4.cell (p := ⟨w.heap.size, 2, none⟩) hl2).trans z2
      have HB4 := Lib.hid (on HB2.out hb4)
      clear z0 z1 z2 x0 x1 x2 hb2 hb3 hb4 hb1 HB2
      rcases HKD.out with ⟨rfl, hx0⟩ | rfl | rfl
      · have e := HMO.out (by decide)
        rw [hx0] at e
        have HQ := Lib.hid e
        clear HMO HMF e
        go_wp2_with fail
        clear hw4
        refine (HMK.out w4 HB4.out).mono ?_
        rintro e w5 ⟨rfl, hw⟩
        go_wp2_with fail
        go_ret
        exact ⟨by rw [HQ.out]; rfl, by rw [HQ.out]; exact wrote_after HB4.out hw⟩
      · have HQ := Lib.hid (HMF.out rfl)
        clear HMO HMF
        go_wp2_with fail
        clear hw4
        refine (HWR.out w4 HB4.out).mono ?_
        rintro e w5 ⟨rfl, hw⟩
        go_wp2_with fail
        go_ret
        exact ⟨by rw [HQ.out]; rfl, by rw [HQ.out]; exact wrote_after HB4.out hw⟩
      · have HQ := Lib.hid (HMO.out (by decide))
        clear HMO HMF
        go_wp2_with fail
        clear hw4
        refine (HSY.out w4 HB4.out).mono ?_
        rintro e w5 ⟨rfl, hw⟩
        go_wp2_with fail
        go_ret
        exact ⟨by rw [HQ.out]; rfl, by rw [HQ.out]; exact wrote_after HB4.out hw⟩
theorem rows_turns {B : Nat} {w w' : World} {v : Value} {L : List Rw} (h : RowList B w v L) (ht : Turns F w w') (hoff : Off F v) : RowList B w' v L := by
  by_cases h0 : 0 < L.length
  · obtain ⟨A, c, rfl, h1, h2⟩ := h.form
    obtain ⟨b, o, _, _, _, rfl, hb, _, _, hc0, _⟩ := RowList.at_ h h0
    have hlt := World.block_lt_of_cell? w _ hc0
    exact Recs.other h fun p hp => World.cell?_of_block (ht.block _ (by rw [hp]; exact hlt) (by rw [hp]; exact hoff _ _ _ _ rfl))
  · have e : L = [] := List.length_eq_zero_iff.1 (by omega)
    subst e
    obtain ⟨A, c, rfl, h1, h2, h3⟩ := h
    exact ⟨A, c, rfl, h1, h2, fun h => absurd h (by simp)⟩
/-- where the loop stands -/
structure Along (Rep : (Nat → Prop) → World → Value → Tr → Prop) (F : Nat → Prop) (w wr : World) (tv u : Value) (n : Nat) (L : List Rw) (k : Nat) (t : Tr) (F' : Nat → Prop) : Prop where
  rep : Rep F' wr tv t
  within : Within t (n + k)
  turns : Turns F w wr
  from_ : ∀ k, F' k → F k ∨ w.heap.size ≤ k
  rows : RowList w.heap.size wr u L
variable {F' : Nat → Prop} {wr : World} {tv u : Value} {n k : Nat} {L : List Rw}
theorem Along.off (h : Along Rep F w wr tv u n L k t F') (ho : Off F u) (h0 : 0 < L.length) : Off F' u := by
  obtain ⟨A, c, rfl, h1, h2⟩ := h.rows.form
  obtain ⟨b, o, _, _, _, rfl, hb, _⟩ := RowList.at_ h.rows h0
  intro b' o' n' c' e hk
  cases e
  rcases h.from_ _ hk with h | h
  · exact ho _ _ _ _ rfl h
  · omega
theorem Along.new (C : Trees Rep) (h : Along Rep F w wr tv u n L k t F') (hb : Below wr.heap.size wr w2) : Along Rep F w w2 tv u n L k t F' :=
  ⟨C.below h.rep hb, h.within, h.turns.trans (Turns.new hb), h.from_, h.rows.below (hb.mono h.turns.size)⟩
theorem Along.wrote (h : Along Rep F w wr tv u n L k t F') (ho : Off F u) (h0 : 0 < L.length) (hk : Kept t t') (hw : Wrote Rep F' tv t' wr w2) : ∃ F2, Along Rep F w w2 tv u n L (k + 1) t' F2 := by
  have hoff := h.off ho h0
  obtain ⟨F2, h1, h2, h3⟩ := hw
  exact ⟨F2, h1, h.within.next hk, W07.narrow ((h.turns.wider fun _ => Or.inl).trans (h2.wider h.from_)), fun k hk => (h3 k hk).elim (h.from_ k) (fun e => Or.inr (Nat.le_trans h.turns.size e)), rows_turns h.rows h2 hoff⟩
theorem Along.gives (h : Along Rep F w wr tv u n L k t F') : Wrote Rep F tv t w wr := ⟨F', h.rep, h.turns, h.from_⟩
set_option maxHeartbeats 8000000 in
theorem lay_any (C : Trees Rep) (S : Posix Rep) {va : Addr} {T0 : Tr} (h : Rep F w (.pointer (some va)) T0) (n : Nat) (hn : Within T0 n) (hL : RowList w.heap.size w u L) (ho : 0 < L.length → Off F u) (hm : n + L.length ≤ 1048576) (hs : ∀ x ∈ L, x.path.length ≤ 1048576 ∧ x.data.length ≤ 1048576) :
    Calls Tryz.prog 17 #[.pointer (some va), u] w fun e w' => e = .returned (.tuple #[.int .i64 ((lay T0 0 L).2.1 : Int), .int .i64 (lay T0 0 L).2.2]) ∧ Wrote Rep F (.pointer (some va)) (lay T0 0 L).1 w w' := by
  have W0 : Hid (Along Rep F w w (.pointer (some va)) u n L 0 T0 F) := ⟨h, hn, Turns.refl _ _, fun _ => Or.inl, hL⟩
  have HD0 : Hid (lay T0 0 L = lay T0 0 (L.drop 0)) := rfl
  obtain ⟨A, c, rfl, hA1, hA2⟩ := hL.form
  have HO := Lib.hid ho
  have HS := Lib.hid hs
  unfold maxLen at hA2
  clear h hL ho hs hn
  generalize hR : lay T0 0 L = R at *
  generalize hq : L.length = m at *
  have HM := Lib.hid hq
  clear hq hR
  go_enter Tryz.func17, Tryz.ntmps17
  go_wp2_with fail
  go_loopw [13] (fun i wr => ∃ (k : Nat) (t : Tr) (F' : Nat → Prop), k ≤ m ∧ i = .int .i64 k ∧ Hid (Along Rep F w wr (.pointer (some va)) (.slice A m c) n L k t F') ∧ Hid (R = lay t k (L.drop k))) (fun i _ => m - (intOf i).toNat)
  case atStart => exact ⟨0, _, _, Nat.zero_le _, rfl, W0, HD0⟩
  case round =>
    clear W0
    obtain ⟨k, t, F', hk, rfl, hr, hd⟩ := hrel
    by_cases hlt : k < m
    · obtain ⟨b, o, hl1, sp, st, rfl, hbl, hps, hpx, a0, a1, a2⟩ := RowList.at_ hr.out.rows hlt
      have hxd := HS.out _ (List.getElem_mem hl1)
      have HStop := Lib.hid (fun h => hd.out.trans (lay_stop (t := t) (i := k) hl1 h))
      have HNext := Lib.hid (fun h => hd.out.trans (lay_step (t := t) (i := k) hl1 h))
      have hxe : L[k] = ⟨sp.data.toList, (L[k]).kind, st.data.toList⟩ := row_ext hps.symm rfl hpx.symm
      rw [← hps, ← hpx, ← Lib.size_eq, ← Lib.size_eq] at hxd
      obtain ⟨hxd1, hxd2⟩ := hxd
      generalize (L[k]).kind = xk at *
      rw [hxe] at HStop HNext
      clear hxe hps hpx
      have HL0 : Hid (0 < L.length) := by rw [HM.out]; show 0 < m; omega
      have HG : Hid (W09.Good t) := Lib.hid (hr.out.within.good (by omega))
      obtain ⟨wX, hwX⟩ : ∃ wX : World, wr.alloc (.cells #[.string sp, .int .i64 xk, .string st] 41) = wX := ⟨_, rfl⟩
      have hbX : Below wr.heap.size wr wX := by rw [← hwX]; exact below_box _ _
      have XB : RowBox wX wr.heap.size sp xk st := by rw [← hwX]; exact W11.RowBox.new _ _ _ _ _
      obtain ⟨x0, x1, x2⟩ := XB
      have WX := Lib.hid (hr.out.new C hbX)
      have HPT := Lib.hid (put_any C S WX.out.rep HG.out sp st xk hxd1 hxd2)
      have HKP := Lib.hid (kept_makeOn t ⟨sp.data.toList, xk, st.data.toList⟩)
      have HER := Lib.hid (fun h => makeOn_err (t := t) (x := ⟨sp.data.toList, xk, st.data.toList⟩) h)
      generalize makeOn t ⟨sp.data.toList, xk, st.data.toList⟩ = Q at *
      obtain ⟨T', fe⟩ := Q
      simp only at HPT HER HKP HStop HNext
      by_cases hfe : fe = 0
      · subst hfe
        have HX := Lib.hid (HNext.out rfl)
        clear HNext HStop HER
        go_wp2_with fail
        clear hwX
        refine HPT.out.mono ?_
        rintro e w3 ⟨rfl, hw⟩
        obtain ⟨F2, h2⟩ := WX.out.wrote (HO.out (by rw [← HM.out]; exact HL0.out)) HL0.out HKP.out hw
        have H2 := Lib.hid h2
        clear h2 hw
        go_wp2_with fail
        go_roundw
        case rel => exact ⟨k + 1, _, _, by omega, by go_num, H2, HX⟩
        case measure => simp [intOf]; omega
      · have tfe : (fe != 0) = true := by simpa using hfe
        have HX := Lib.hid (HStop.out hfe)
        have HT := Lib.hid (HER.out hfe)
        clear HNext HStop HER
        go_wp2_with fail
        clear hwX
        refine HPT.out.mono ?_
        rintro e w3 ⟨rfl, hw⟩
        rw [HT.out] at hw
        obtain ⟨F2, h2⟩ := WX.out.wrote (HO.out (by rw [← HM.out]; exact HL0.out)) HL0.out (Kept.refl t) hw
        have H2 := Lib.hid h2.gives
        clear h2 hw
        go_wp2_with fail
        go_ret2
        exact ⟨by rw [HX.out]; rfl, by rw [HX.out]; exact H2.out⟩
    · have HX := Lib.hid (hd.out.trans (lay_end (t := t) (i := k) (by rw [HM.out]; exact hlt)))
      have hkm : k = m := by omega
      subst hkm
      have H2 := Lib.hid hr.out.gives
      clear hr
      go_wp2_with fail
      go_ret2
      exact ⟨by rw [HX.out]; rfl, by rw [HX.out]; exact H2.out⟩
theorem lay_nil (u : Value) (w : World) : Calls Tryz.prog 17 #[.pointer none, u] w fun e w' => e = .returned (.tuple #[.int .i64 0, .int .i64 1]) ∧ w' = w := by
  go_enter Tryz.func17, Tryz.ntmps17
  go_wp2_with fail
  go_ret2
  exact ⟨rfl, rfl⟩
end
end Go.Proofs.YtpihldcchjoinaaGreatDoor.W12
/-
  Layer 12 (dump), walks of the program's Make, over any reading of a tree. The conditions stand in the statements.
-/
namespace Go.Proofs.YtpihldcchjoinaaGreatDoor.W12
set_option maxRecDepth 100000
open Go Go.RowKit Go.Shelf Go.Proofs.YtpihldcchjoinaaGreatDoor.Strs Go.Proofs.YtpihldcchjoinaaGreatDoor.Recs Go.Proofs.YtpihldcchjoinaaGreatDoor.Range
open Go.Proofs.YtpihldcchjoinaaGreatDoor.M12
open Go.Proofs.YtpihldcchjoinaaGreatDoor.M07 (Tr Nd nodeAt Right)
open Go.Proofs.YtpihldcchjoinaaGreatDoor.W07 (Small Trees Wrote Off)
open Go.Proofs.YtpihldcchjoinaaGreatDoor.W09 (Posix Within)
open Go.Proofs.YtpihldcchjoinaaGreatDoor.W11
open Go.Proofs.YtpihldcchjoinaaGreatDoor.Kit (ret_str ret_bool ret_int mk_of mk_bytes ba_ext below_draws on)

theorem new_within : Within M07.new 1 := ⟨M07.new_right, M08.fit_new, M08.named_new, by decide, by decide⟩
/-- a new tree, or none -/
def MadeTree (Rep : (Nat → Prop) → World → Value → Tr → Prop) (w : World) (R : Tr × Nat × Int) (e : Ending) (w' : World) : Prop :=
  ∃ v, e = .returned (.tuple #[v, .int .i64 R.2.2]) ∧ Below w.heap.size w w' ∧ (R.2.2 ≠ 0 → v = .pointer none) ∧ (R.2.2 = 0 → ∃ a F', v = .pointer (some a) ∧ Rep F' w' v R.1 ∧ ∀ k, F' k → w.heap.size ≤ k)
section
variable {Rep : (Nat → Prop) → World → Value → Tr → Prop} {F : Nat → Prop} {w : World} {u : Value} {L : List Rw}
set_option maxHeartbeats 2000000 in
theorem make_any (C : Trees Rep) (hf : ∀ {F w v t}, Rep F w v t → ∃ a, v = .pointer (some a)) (S : Posix Rep) (hL : RowList w.heap.size w u L) (hm : L.length ≤ 1048000) (hs : ∀ x ∈ L, x.path.length ≤ 1048576 ∧ x.data.length ≤ 1048576) :
    Calls Tryz.prog 20 #[u] w (MadeTree Rep w (lay M07.new 0 L)) := by
  have HN := Lib.hid (C.new w)
  have HLY := Lib.hid (fun (w1 : World) (va : Addr) (F : Nat → Prop) (h : Rep F w1 (.pointer (some va)) M07.new) (hF : ∀ k, F k → w.heap.size ≤ k) (hb : Below w.heap.size w w1) =>
    lay_any C S h 1 new_within ((hL.below hb).more hb.size) (fun h0 => by
      obtain ⟨A, c, rfl, h1, h2⟩ := hL.form
      obtain ⟨b, o, _, _, _, rfl, hb, _⟩ := RowList.at_ hL h0
      intro b' o' n' c' e hk
      cases e
      have := hF _ hk
      omega) (by omega) hs)
  generalize lay M07.new 0 L = R at *
  obtain ⟨T, i, fe⟩ := R
  simp only at HLY
  go_enter Tryz.func20, Tryz.ntmps20
  go_wp2_with fail
  refine HN.out.mono ?_
  rintro e w1 ⟨v, F, rfl, hrep, hF, hb1⟩
  obtain ⟨va, rfl⟩ := hf hrep
  have HL1 := Lib.hid (HLY.out w1 va F hrep hF hb1)
  have HF := Lib.hid hF
  clear HLY hrep hF
  by_cases hfe : fe = 0
  · subst hfe
    go_wp2_with fail
    refine HL1.out.mono ?_
    rintro e w2 ⟨rfl, F', h1, h2, h3⟩
    have HRP := Lib.hid h1
    have hb2 : Below w.heap.size w w2 := hb1.trans (h2.below HF.out hb1.size)
    have HF3 : Hid (∀ k, F' k → w.heap.size ≤ k) := fun k hk => (h3 k hk).elim (HF.out k) (fun e => Nat.le_trans hb1.size e)
    clear h1 h2 h3
    go_wp2_with fail
    go_ret2
    exact ⟨_, rfl, hb2, fun h => absurd rfl h, fun _ => ⟨va, F', rfl, HRP.out, HF3.out⟩⟩
  · have tfe : (fe != 0) = true := by simpa using hfe
    go_wp2_with fail
    refine HL1.out.mono ?_
    rintro e w2 ⟨rfl, F', h1, h2, h3⟩
    have hb2 : Below w.heap.size w w2 := hb1.trans (h2.below HF.out hb1.size)
    clear h1 h2 h3
    go_wp2_with fail
    go_ret2
    exact ⟨_, rfl, hb2, fun _ => rfl, fun h => absurd h hfe⟩
end
end Go.Proofs.YtpihldcchjoinaaGreatDoor.W12
