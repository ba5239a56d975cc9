/-
  Texts joined, in build order, each with its own comment and its own conditions: W15Layer.
-/
import Derived.Test.YtmbibaccpeldoaaGreatDoorJ04
/-
  Layer 15 (prog), the layer's box: what it holds, what is put behind the steps, what else stays; walks of here, step and jump. The conditions stand in the statements.
-/
namespace Go.Proofs.YtmbibaccpeldoaaGreatDoor.W15
set_option maxRecDepth 100000
open Go Go.RowKit Go.Proofs.YtmbibaccpeldoaaGreatDoor.Strs Go.Proofs.YtmbibaccpeldoaaGreatDoor.Recs Go.Proofs.YtmbibaccpeldoaaGreatDoor.M15
open Go.Proofs.YtmbibaccpeldoaaGreatDoor.M14 (Piece size sizes)
open Go.Proofs.YtmbibaccpeldoaaGreatDoor.W14 (Raw rawA rawC PAt PBox Kids below_new cell_block own_same own_form)
open Go.Proofs.YtmbibaccpeldoaaGreatDoor.Row256 (Beside)

/-- a method of the layer in block b, as a value -/
abbrev way (g b : Nat) : Value := .func (.func g) #[.pointer (some ⟨b, 0, none⟩)] #[]
def layA (b : Nat) (v : Value) : Array Value := #[v, .nilFunc, way 29 b, way 30 b, way 31 b, way 32 b, way 33 b, way 34 b, way 35 b, way 36 b, way 37 b]
/-- block b is the layer's box, v its steps -/
def LBox (w : World) (b : Nat) (v : Value) : Prop := w.heap[b]? = some (.cells (layA b v) 46 (0, 0))
/-- the layer's box, and the steps in a row of its own that is younger -/
structure Lay (w : World) (b : Nat) (v : Value) (L : List Inst) : Prop where
  box : LBox w b v
  own : w.ownsRow (b + 1) 40 4 v L.length (L.flatMap insC)
/-- but for the layer's box, the row of its steps and what is new, the world is as it was -/
structure Grow (b : Nat) (v v' : Value) (w w' : World) : Prop where
  os : w'.os = w.os
  tape : w'.tape = w.tape
  output : w'.output = w.output
  size : w.heap.size ≤ w'.heap.size
  block : ∀ k, k < w.heap.size → k ≠ b → v.ownBlock ≠ some k → w'.heap[k]? = w.heap[k]?
  own : ∀ k, v'.ownBlock = some k → v.ownBlock = some k ∨ w.heap.size ≤ k
section
variable {w w' w'' : World} {b : Nat} {v v' v'' : Value} {L M : List Inst}
theorem LBox.lt (h : LBox w b v) : b < w.heap.size := (Array.getElem?_eq_some_iff.1 h).1
theorem LBox.c0 (h : LBox w b v) : w.cell? ⟨b, 0, none⟩ = some v := cell_of_row w b 0 _ _ _ h
theorem LBox.free (h : LBox w b v) (i : Nat) : w.frozen? ⟨b, i, none⟩ = false := frozen_of_row w b i _ _ h
theorem LBox.below (h : LBox w b v) (k : Below w.heap.size w w') : LBox w' b v := (k.block b h.lt).trans h
theorem LBox.put (h : LBox w b v) (u : Value) : LBox (w.setCell ⟨b, 0, none⟩ u) b u := by
  unfold LBox at *
  rw [heap_setCell_same w b 0 _ _ _ h]; rfl
theorem Lay.below (h : Lay w b v L) (k : Below w.heap.size w w') : Lay w' b v L := ⟨h.box.below k, own_same h.own fun i _ hi => k.block i hi⟩
theorem Lay.other (h : Lay w b v L) {c : Nat} (k : Beside c w w') (hb : c ≠ b) (hv : v.ownBlock ≠ some c) : Lay w' b v L := by
  refine ⟨(k.block b h.box.lt (fun q => hb q.symm)).trans h.box, ?_⟩
  have h1 := h.own
  refine ⟨h1.1, ?_⟩
  rcases h1.2 with h0 | ⟨g, cap, cur, e1, hb, hh, rest⟩
  · exact Or.inl h0
  · subst e1
    exact Or.inr ⟨g, cap, cur, rfl, hb, (k.block g (Array.getElem?_eq_some_iff.1 hh).1 (fun q => hv (by subst q; rfl))).trans hh, rest⟩
theorem Lay.own_gt (h : Lay w b v L) : ∀ k, v.ownBlock = some k → b < k ∧ k < w.heap.size := fun k hk => h.own.lt k hk
theorem Lay.form (h : Lay w b v L) : ∃ A c, v = .slice A L.length c ∧ L.length ≤ c ∧ c ≤ maxLen := (Recs.of_own insC_len rfl h.own).form
theorem Grow.refl (b : Nat) (v : Value) (w : World) : Grow b v v w w := ⟨rfl, rfl, rfl, Nat.le_refl _, fun _ _ _ _ => rfl, fun _ h => Or.inl h⟩
theorem Grow.trans (h : Grow b v v' w w') (k : Grow b v' v'' w' w'') : Grow b v v'' w w'' :=
  ⟨k.os.trans h.os, k.tape.trans h.tape, k.output.trans h.output, Nat.le_trans h.size k.size, fun i hi e1 e2 => (k.block i (Nat.lt_of_lt_of_le hi h.size) e1 (fun q => by
    rcases h.own i q with q2 | q2
    · exact e2 q2
    · omega)).trans (h.block i hi e1 e2), fun i hi => by
    rcases k.own i hi with q | q
    · exact h.own i q
    · exact Or.inr (Nat.le_trans h.size q)⟩
theorem Grow.of (h : Below w.heap.size w w') : Grow b v v w w' := ⟨h.os, h.tape, h.output, h.size, fun k hk _ _ => h.block k hk, fun _ q => Or.inl q⟩
/-- a box of the caller's own, made since -/
theorem Grow.beside {w0 : World} {c : Nat} (h : Grow b v v' w0 w) (k : Beside c w w') (hc : w0.heap.size ≤ c) : Grow b v v' w0 w' :=
  ⟨k.os.trans h.os, k.tape.trans h.tape, k.output.trans h.output, Nat.le_trans h.size k.size, fun i hi e1 e2 => (k.block i (Nat.lt_of_lt_of_le hi h.size) (by omega)).trans (h.block i hi e1 e2), h.own⟩
/-- a row of the caller's own, made since -/
theorem Grow.put {w0 : World} {u u' : Value} (h : Grow b v v' w0 w) (k : Put u u' w w') (hu : ∀ i, u.ownBlock = some i → w0.heap.size ≤ i) : Grow b v v' w0 w' := by
  obtain ⟨g1, g2, g3, g4, g5⟩ := k.grown
  exact ⟨g1.trans h.os, g2.trans h.tape, g3.trans h.output, Nat.le_trans h.size g4, fun i hi e1 e2 => (g5 i (Nat.lt_of_lt_of_le hi h.size) (fun q => by have := hu i q.symm; omega)).trans (h.block i hi e1 e2), h.own⟩
/-- another block stays -/
theorem Grow.keeps (h : Grow b v v' w w') (hl : Lay w b v L) {k : Nat} (hk : k < b) : w'.heap[k]? = w.heap[k]? :=
  h.block k (Nat.lt_trans hk hl.box.lt) (by omega) (fun q => by have := (hl.own_gt k q).1; omega)
theorem Grow.piece {r : Raw} {p : Piece} (h : Grow b v v' w w') (hl : Lay w b v L) (hp : PAt (fun k => k < b) w r p) : PAt (fun k => k < b) w' r p := hp.keep (fun _ q => q) fun _ q => cell_block (h.keeps hl q)
theorem below_piece {r : Raw} {p : Piece} (h : Below w.heap.size w w') (hb : b < w.heap.size) (hp : PAt (fun k => k < b) w r p) : PAt (fun k => k < b) w' r p := hp.keep (fun _ q => q) fun _ (q : _ < b) => cell_block (h.block _ (Nat.lt_trans q hb))
/-- steps are put behind the others -/
theorem Lay.more {w1 w2 : World} (h : Lay w b v L) (hB : Below w.heap.size w w1) (hown : w2.ownsRow (b + 1) 40 4 v' (L ++ M).length ((L ++ M).flatMap insC)) (hp : Put v v' w1 w2) :
    LBox w2 b v ∧ Lay (w2.setCell ⟨b, 0, none⟩ v') b v' (L ++ M) ∧ Grow b v v' w (w2.setCell ⟨b, 0, none⟩ v') := by
  obtain ⟨g1, g2, g3, g4, g5⟩ := hp.grown
  have h1 := h.below hB
  have hb2 : LBox w2 b v := (g5 b h1.box.lt (fun q => by have := (h.own_gt b q.symm).1; omega)).trans h1.box
  refine ⟨hb2, ⟨hb2.put v', own_same hown fun k hk _ => heap_setCell_other w2 _ k _ (show k ≠ b by omega)⟩, ⟨g1.trans hB.os, g2.trans hB.tape, g3.trans hB.output, ?_, ?_, ?_⟩⟩
  · rw [World.size_setCell]; exact Nat.le_trans hB.size g4
  · intro k hk e1 e2
    rw [heap_setCell_other w2 _ k _ e1, g5 k (Nat.lt_of_lt_of_le hk hB.size) (fun q => e2 q.symm), hB.block k hk]
  · intro k hk
    rcases hp.own k hk with q | q
    · exact Or.inl q
    · exact Or.inr (Nat.le_trans hB.size q)
end
/-- what a method of the layer comes to that answers nothing: steps are laid -/
def Laid (b : Nat) (v : Value) (w : World) (L : List Inst) (e : Ending) (w' : World) : Prop := e = .returned (.tuple #[]) ∧ ∃ v', Lay w' b v' L ∧ Grow b v v' w w'
/-- and of one that answers a place -/
def LaidAt (b : Nat) (v : Value) (w : World) (n : Nat) (L : List Inst) (e : Ending) (w' : World) : Prop := e = .returned (.int .i64 n) ∧ ∃ v', Lay w' b v' L ∧ Grow b v v' w w'
set_option maxHeartbeats 1000000 in
theorem here_any {w : World} {b : Nat} {v : Value} {L : List Inst} (h : Lay w b v L) : Calls Tryz.prog 50 #[.pointer (some ⟨b, 0, none⟩)] w fun e w' => e = .returned (.int .i64 L.length) ∧ w' = w := by
  obtain ⟨A, c, rfl, h1, h2⟩ := h.form
  have c0 := h.box.c0
  unfold maxLen at h2
  clear h
  go_enter Tryz.func50, Tryz.ntmps50
  go_wp2_with fail
  go_ret
  exact ⟨rfl, rfl⟩
set_option maxHeartbeats 2000000 in
theorem step_any {w : World} {b : Nat} {v : Value} {L : List Inst} (h : Lay w b v L) (hl : L.length ≤ 900000) (k : Int) (t : ByteArray) : Calls Tryz.prog 48 #[.pointer (some ⟨b, 0, none⟩), .int .i64 k, .string t] w (LaidAt b v w L.length (L ++ [⟨k, t, (L.length + 1 : Nat), 0⟩])) := by
  have HE := Lib.hid (here_any h)
  have H := Lib.hid h
  have hw : wrap64 ((L.length : Int) + 1) = ((L.length + 1 : Nat) : Int) := by unfold wrap64; omega
  obtain ⟨n, hn⟩ : ∃ n, L.length + 1 = n := ⟨_, rfl⟩
  rw [hn] at hw ⊢
  obtain ⟨m, hm⟩ : ∃ m, L.length = m := ⟨_, rfl⟩
  have HM := Lib.hid hm
  rw [hm] at HE hw hl ⊢
  have HW := Lib.hid hw
  have HL := Lib.hid hl
  have hc0 := h.box.c0
  have hf := h.box.free 0
  clear h hn hm hl
  go_enter Tryz.func48, Tryz.ntmps48
  go_wp2_with fail
  refine HE.out.mono ?_
  rintro e w' ⟨rfl, rfl⟩
  go_wp2_with (first
    | (refine slice_ins (r := ⟨k, t, (n : Nat), 0⟩) rfl (.tmp 19) rfl rfl ?_; intro w1 b1 e1 p1 l1 z1 o1; have P1 := Lib.hid p1; have L1 := Lib.hid l1; clear e1 p1 l1 z1 o1)
    | (refine append_ins rfl (.tmp 14) (.tmp 20) rfl rfl rfl (H.out.below L1.out).own P1.out (by rw [HM.out]; simp only [List.length_cons, List.length_nil]; have := HL.out; omega) (Nat.le_trans H.out.box.lt L1.out.size) ?_; intro v' w2 o2 p2; obtain ⟨g2, c2, rfl, -, -, -, -⟩ := own_form o2 (by simp); have R2 := Lib.hid (H.out.more L1.out o2 p2); obtain ⟨q2, hq2⟩ : ∃ q2, (L ++ [(⟨k, t, (n : Nat), 0⟩ : Inst)]).length = q2 := ⟨_, rfl⟩; rw [hq2] at R2 ⊢; clear hq2; have hf2 := R2.out.1.free 0; have hc2 := R2.out.1.c0; clear o2 p2))
  go_ret
  exact ⟨rfl, _, R2.out.2⟩
set_option maxHeartbeats 2000000 in
theorem jump_any {w : World} {b : Nat} {v : Value} {L : List Inst} (h : Lay w b v L) (hl : L.length ≤ 900000) (to : Nat) : Calls Tryz.prog 49 #[.pointer (some ⟨b, 0, none⟩), .int .i64 to] w (LaidAt b v w L.length (L ++ [M15.jump to])) := by
  have HE := Lib.hid (here_any h)
  have H := Lib.hid h
  unfold M15.jump no
  obtain ⟨m, hm⟩ : ∃ m, L.length = m := ⟨_, rfl⟩
  have HM := Lib.hid hm
  rw [hm] at HE hl ⊢
  have HL := Lib.hid hl
  have hc0 := h.box.c0
  have hf := h.box.free 0
  clear h hm hl
  go_enter Tryz.func49, Tryz.ntmps49
  go_wp2_with fail
  refine HE.out.mono ?_
  rintro e w' ⟨rfl, rfl⟩
  go_wp2_with (first
    | (refine slice_ins (r := ⟨8, ⟨#[]⟩, (to : Nat), 0⟩) rfl (.tmp 14) rfl rfl ?_; intro w1 b1 e1 p1 l1 z1 o1; have P1 := Lib.hid p1; have L1 := Lib.hid l1; clear e1 p1 l1 z1 o1)
    | (refine append_ins rfl (.tmp 12) (.tmp 15) rfl rfl rfl (H.out.below L1.out).own P1.out (by rw [HM.out]; simp only [List.length_cons, List.length_nil]; have := HL.out; omega) (Nat.le_trans H.out.box.lt L1.out.size) ?_; intro v' w2 o2 p2; obtain ⟨g2, c2, rfl, -, -, -, -⟩ := own_form o2 (by simp); have R2 := Lib.hid (H.out.more L1.out o2 p2); obtain ⟨q2, hq2⟩ : ∃ q2, (L ++ [(⟨8, ⟨#[]⟩, (to : Nat), 0⟩ : Inst)]).length = q2 := ⟨_, rfl⟩; rw [hq2] at R2 ⊢; clear hq2; have hf2 := R2.out.1.free 0; have hc2 := R2.out.1.c0; clear o2 p2))
  go_ret
  exact ⟨rfl, _, R2.out.2⟩
end Go.Proofs.YtmbibaccpeldoaaGreatDoor.W15
