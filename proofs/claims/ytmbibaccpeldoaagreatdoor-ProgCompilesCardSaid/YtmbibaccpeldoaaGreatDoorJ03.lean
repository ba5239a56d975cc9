/-
  Texts joined, in build order, each with its own comment and its own conditions: W14Box, W14Together, W14Take, W13Walk, W13Text, W13Ref, RecKeep.
-/
import Derived.Test.YtmbibaccpeldoaaGreatDoorChecked
import Derived.Test.YtmbibaccpeldoaaGreatDoorJ02
import Derived.WalkKit
import Derived.KernelRfl
import Derived.Laws.Rows
import Derived.Laws.Tables
import Derived.Deep.WholeRow
import Derived.Great.BuildSlice
import Derived.BigQuiet
import Derived.Test.YtmbibaccpeldoaaGreatDoorJ01
import Derived.Deep.LoopGhost
import Derived.Laws.BytesString
import Derived.Deep.OwnRows
/-
  Layer 14 (pattern), steps of walks over pieces that lie in boxes: laid, loaded, stored, put into a slice, returned; the reader's box. The conditions stand in the statements.
-/
namespace Go.Proofs.YtmbibaccpeldoaaGreatDoor.W14
open Go Go.RowKit Go.Proofs.YtmbibaccpeldoaaGreatDoor.Strs Go.Proofs.YtmbibaccpeldoaaGreatDoor.Recs Go.Proofs.YtmbibaccpeldoaaGreatDoor.M14
open Go.Proofs.YtmbibaccpeldoaaGreatDoor.Row256 (Beside)

def zeroR : Raw := ⟨0, ⟨#[]⟩, none, 0, 0, 0, 0⟩
theorem piece_info : (Tryz.prog.info? 24).map (fun i => (i.zero, i.size, i.bytes)) = some (some (.agg #[.int .i64 0, .string ⟨#[]⟩, .slice none 0 0, .int .i64 0, .int .i64 0]), 5, 64) := by kernel_rfl
theorem piece_size (r : Raw) : (Tryz.prog.info? 24).map (·.size) = some (rawA r).size := by
  obtain ⟨i, hi, -, h2, -⟩ := info_parts piece_info
  rw [hi]; simp [rawA, h2]
theorem rawA_one (r : Raw) : (rawA r).all (·.oneCell') = true := by simp [rawA, Value.oneCell']
/-- block b is a piece's box, and may be written -/
def PBox (w : World) (b : Nat) (r : Raw) : Prop := w.heap[b]? = some (.cells (rawA r) 24 (0, 0))
theorem PBox.lt {w : World} {b : Nat} {r : Raw} (h : PBox w b r) : b < w.heap.size := (Array.getElem?_eq_some_iff.1 h).1
theorem PBox.below {w w' : World} {b : Nat} {r : Raw} (h : PBox w b r) (k : Below w.heap.size w w') : PBox w' b r := (k.block b h.lt).trans h
theorem PBox.beside {w w' : World} {b c : Nat} {r : Raw} (h : PBox w b r) (k : Beside c w w') (e : b ≠ c) : PBox w' b r := (k.block b h.lt e).trans h
theorem zero_piece (w : World) : (zeroValue 24).run Tryz.prog w = .ok (.agg (rawA zeroR)) w := by
  obtain ⟨i, hi, h1, -, -⟩ := info_parts piece_info
  simp [zeroValue, typeInfo, hi, h1]; rfl
section
variable {ops : Array Oper} {rest : List Oper} {o : Oper} {a : Act} {w : World} {Q : Exit → Act → World → Prop}
theorem below_new (w : World) (o : Obj) : Below w.heap.size w (w.alloc o) := (Below.refl w.heap.size w).alloc (Nat.le_refl _) o
/-- a piece's box is laid -/
theorem alloc_piece (hgd : o.guard = none) (ho : o.op = .alloc 24)
    (h : ∀ w' b, w.heap.size = b → PBox w' b zeroR → Below w.heap.size w w' → w'.heap.size = w.heap.size + 1 → wpList Tryz.prog ops Q rest (a.put o.dst (.pointer (some ⟨b, 0, none⟩))) w') : wpList Tryz.prog ops Q (o :: rest) a w :=
  wpList_plain hgd fun _ hK => by
    unfold Oper.wp execOp
    simp only [ho, Instr.alloc, newVar, newRow, zero_piece, Sem.run_bind, Sem.run_pure, Result.andThen_ok]
    exact hK _ _ (h _ _ rfl (heap_alloc_new w _) (below_new w _) (World.size_alloc w _))
theorem load_piece (hgd : o.guard = none) (x : Operand) (ho : o.op = .load 24 x) {b : Nat} (hx : a.eval x = .pointer (some ⟨b, 0, none⟩)) {r : Raw} (hr : PBox w b r) (h : wpList Tryz.prog ops Q rest (a.put o.dst (.agg (rawA r))) w) : wpList Tryz.prog ops Q (o :: rest) a w :=
  wpList_load_row hgd 24 x ho b hx 24 (rawA r) (0, 0) _ hr Tryz.underlying24 rfl (piece_size r) h
theorem store_piece (hgd : o.guard = none) (x y : Operand) (ho : o.op = .store 24 x y) {b : Nat} {r old : Raw} (hx : a.eval x = .pointer (some ⟨b, 0, none⟩)) (hy : a.eval y = .agg (rawA r)) (hr : PBox w b old)
    (h : ∀ w', PBox w' b r → Beside b w w' → w'.heap.size = w.heap.size → wpList Tryz.prog ops Q rest (a.put o.dst undef) w') : wpList Tryz.prog ops Q (o :: rest) a w :=
  wpList_store_row hgd 24 x y ho b (rawA r) hx hy 24 (rawA old) hr (piece_size r) rfl (rawA_one r)
    (h _ (setRow_heap w b _ _ _ _ hr) ⟨rfl, rfl, rfl, by rw [setRow_size]; exact Nat.le_refl _, fun k _ e => setRow_other w b k _ e⟩ (setRow_size _ _ _))
/-- a slice of one piece -/
theorem slice_piece (hgd : o.guard = none) (x : Operand) (ho : o.op = .buildSlice 22 1 #[(0, x)]) {r : Raw} (hx : a.eval x = .agg (rawA r))
    (h : ∀ w' b, w.heap.size = b → Raws w'.heap.size w' (.slice (some ⟨b, 0, none⟩) 1 1) [r] → Below w.heap.size w w' → w'.heap.size = w.heap.size + 1 → wpList Tryz.prog ops Q rest (a.put o.dst (.slice (some ⟨b, 0, none⟩) 1 1)) w') : wpList Tryz.prog ops Q (o :: rest) a w := by
  obtain ⟨i, hi, h1, h2, -⟩ := info_parts piece_info
  refine wpList_plain hgd fun _ hK => wp_buildSlice 22 24 1 _ ho (rawA r) i _ Tryz.underlying22 hi h1 (by rw [h2]; decide) (by rw [h2]; decide) ?_ (hK _ _ (h _ _ rfl ?_ (below_new w _) (World.size_alloc w _)))
  · rw [h2]
    simp only [List.map_toArray, List.map_cons, List.map_nil, hx]
    have hr : Array.range (1 * 5) = #[0, 1, 2, 3, 4] := by decide
    rw [hr]
    simp [Instr.fill, rawA, Value.cells]
  · refine ⟨_, _, rfl, Nat.le_refl _, by unfold maxLen; decide, fun _ => ⟨_, rfl, by rw [World.size_alloc]; exact Nat.lt_succ_self _, fun k hk j hj => ?_⟩⟩
    have hk0 : k = 0 := by simp at hk; omega
    subst hk0
    have := cells_new w (rawC r) 24 j
    rw [Nat.zero_mul, Nat.zero_add]
    have h5 : j < (rawC r).length := by rw [rawC_len]; exact hj
    exact (this _ (List.getElem?_eq_getElem h5)).trans (List.getElem?_eq_getElem h5).symm
end
theorem Build.own_lt {e : TypeId} {base : Nat} {w : World} {v : Value} {ks : List Piece} (h : Build e base w v ks) : ∀ g, v.ownBlock = some g → g < w.heap.size := by
  obtain ⟨raws, h1, -⟩ := h
  intro g hg
  exact (h1.lt g hg).2
/-- one more piece is put behind a list's last one -/
theorem append_piece {ops : Array Oper} {rest : List Oper} {o : Oper} {a : Act} {w : World} {Q : Exit → Act → World → Prop} (hgd : o.guard = none) (s x : Operand)
    (ho : o.op = .call { callee := .builtin .append, args := #[s, x], argTypes := #[22, 22] })
    {base lo : Nat} {v u : Value} {ks : List Piece} {r : Raw} {p : Piece} (hs : a.eval s = v) (hx : a.eval x = u) (hb : Build 24 base w v ks) (hn : ∀ g, v.ownBlock = some g → g < lo) (hlo : base ≤ lo) (hbase : base ≤ w.heap.size)
    (hu : Raws w.heap.size w u [r]) (hp : PAt (In lo w.heap.size) w r p) (hl : ks.length ≤ 1000000)
    (h : ∀ v' w', Build 24 base w' v' (ks ++ [p]) → w.grownBy w' v.ownBlock → wpList Tryz.prog ops Q rest (a.put o.dst v') w') : wpList Tryz.prog ops Q (o :: rest) a w := by
  obtain ⟨i, hi, h1, h2, h3⟩ := info_parts piece_info
  obtain ⟨raws, hown, hall⟩ := hb
  have hl2 : raws.length ≤ 1000000 := by rw [hall.1]; exact hl
  refine wpList_append_recs hgd s x 22 ho base 24 i _ 5 64 Tryz.underlying22 hi h1 h2 h3 rfl (by decide) v raws.length (raws.flatMap rawC) hs hown u [r] w.heap.size hx hu rawC_len rawC_one
    (by simp only [List.length_cons, List.length_nil]; unfold maxLen; omega) (by simp only [List.length_cons, List.length_nil]; omega) hbase fun v' w' e1 e2 e3 => h v' w' (Build.more hall hn hlo hp e1 e2 e3) e2
/-- what was there is there: an append changes the list's own block, if any -/
theorem grown_below {e : TypeId} {base : Nat} {w w' : World} {v : Value} {ks : List Piece} (hb : Build e base w v ks) (hg : w.grownBy w' v.ownBlock) : ∀ k, k < base → k < w.heap.size → w'.heap[k]? = w.heap[k]? := by
  obtain ⟨g1, g2, g3, g4, g5⟩ := hg
  obtain ⟨raws, h1, -⟩ := hb
  intro k hk hk2
  refine g5 k hk2 fun q => ?_
  have := (h1.lt k q.symm).1
  omega

/-! the reader -/
/-- block b is the reader's box: its text, its place, how deep it is -/
def Reader (w : World) (b : Nat) (s : ByteArray) (at_ deep : Nat) : Prop := w.heap[b]? = some (.cells #[.string s, .int .i64 at_, .int .i64 deep] 57 (0, 0))
section
variable {w w' : World} {b : Nat} {s : ByteArray} {at_ deep : Nat}
theorem Reader.lt (h : Reader w b s at_ deep) : b < w.heap.size := (Array.getElem?_eq_some_iff.1 h).1
theorem Reader.below (h : Reader w b s at_ deep) (k : Below w.heap.size w w') : Reader w' b s at_ deep := (k.block b h.lt).trans h
theorem Reader.beside {c : Nat} (h : Reader w b s at_ deep) (k : Beside c w w') (e : b ≠ c) : Reader w' b s at_ deep := (k.block b h.lt e).trans h
theorem Reader.c0 (h : Reader w b s at_ deep) : w.cell? ⟨b, 0, none⟩ = some (.string s) := cell_of_row w b 0 _ _ _ h
theorem Reader.c1 (h : Reader w b s at_ deep) : w.cell? ⟨b, 1, none⟩ = some (.int .i64 at_) := cell_of_row w b 1 _ _ _ h
theorem Reader.c2 (h : Reader w b s at_ deep) : w.cell? ⟨b, 2, none⟩ = some (.int .i64 deep) := cell_of_row w b 2 _ _ _ h
theorem Reader.free (h : Reader w b s at_ deep) (i : Nat) : w.frozen? ⟨b, i, none⟩ = false := frozen_of_row w b i _ _ h
theorem Reader.put1 (h : Reader w b s at_ deep) (n : Nat) : Reader (w.setCell ⟨b, 1, none⟩ (.int .i64 n)) b s n deep := by
  unfold Reader at *
  rw [heap_setCell_same w b 1 _ _ _ h]; rfl
theorem Reader.put2 (h : Reader w b s at_ deep) (n : Nat) : Reader (w.setCell ⟨b, 2, none⟩ (.int .i64 n)) b s at_ n := by
  unfold Reader at *
  rw [heap_setCell_same w b 2 _ _ _ h]; rfl
end
theorem beside_put (w : World) (b i : Nat) (v : Value) : Beside b w (w.setCell ⟨b, i, none⟩ v) := (Beside.refl b w).put i v
/-- a box newer than all is not told of -/
theorem beside_fresh {b c : Nat} {w0 w w' : World} (h : Beside b w0 w) (k : Beside c w w') (hc : w0.heap.size ≤ c) : Beside b w0 w' :=
  ⟨k.os.trans h.os, k.tape.trans h.tape, k.output.trans h.output, Nat.le_trans h.size k.size, fun i hi e => (k.block i (Nat.lt_of_lt_of_le hi h.size) (by omega)).trans (h.block i hi e)⟩
theorem beside_onto {b : Nat} {w0 w w' : World} (h : Beside b w0 w) (k : Below w.heap.size w w') : Beside b w0 w' := h.trans (.of k)
/-- a function ends whose first result is a piece in a box, with one more -/
theorem end_piece2 {fn : Func} {R : Ending → World → Prop} {a : Act} {w : World} {p u : Tmp} {b : Nat} {r : Raw} (hf : fn.results = #[.cell p 24, .tmp u]) (hp : a.tmps.getD p undef = .pointer (some ⟨b, 0, none⟩)) (hr : PBox w b r) (hd : a.defers = [])
    (hR : R (.returned (.tuple #[.agg (rawA r), a.tmps.getD u undef])) w) : bodyPost Tryz.prog fn R .ret a w := by
  refine bodyPost_ret ?_ hd hR
  have hp' : a.tmps[p]?.getD undef = .pointer (some ⟨b, 0, none⟩) := by simpa using hp
  have hl := run_loadVar_row w b 24 24 (rawA r) (0, 0) _ hr Tryz.underlying24 rfl (piece_size r)
  simp [results, hf, hp', asAddr, Result.andThen, hl]
theorem end_piece3 {fn : Func} {R : Ending → World → Prop} {a : Act} {w : World} {p u v : Tmp} {b : Nat} {r : Raw} (hf : fn.results = #[.cell p 24, .tmp u, .tmp v]) (hp : a.tmps.getD p undef = .pointer (some ⟨b, 0, none⟩)) (hr : PBox w b r) (hd : a.defers = [])
    (hR : R (.returned (.tuple #[.agg (rawA r), a.tmps.getD u undef, a.tmps.getD v undef])) w) : bodyPost Tryz.prog fn R .ret a w := by
  refine bodyPost_ret ?_ hd hR
  have hp' : a.tmps[p]?.getD undef = .pointer (some ⟨b, 0, none⟩) := by simpa using hp
  have hl := run_loadVar_row w b 24 24 (rawA r) (0, 0) _ hr Tryz.underlying24 rfl (piece_size r)
  simp [results, hf, hp', asAddr, Result.andThen, hl]
theorem end_piece1 {fn : Func} {R : Ending → World → Prop} {a : Act} {w : World} {p : Tmp} {b : Nat} {r : Raw} (hf : fn.results = #[.cell p 24]) (hp : a.tmps.getD p undef = .pointer (some ⟨b, 0, none⟩)) (hr : PBox w b r) (hd : a.defers = [])
    (hR : R (.returned (.agg (rawA r))) w) : bodyPost Tryz.prog fn R .ret a w :=
  bodyPost_ret (results_cell_row hf a.tmps w b 24 (rawA r) (0, 0) _ hp hr Tryz.underlying24 rfl (piece_size r)) hd hR
end Go.Proofs.YtmbibaccpeldoaaGreatDoor.W14
/-
  Layer 14 (pattern), walks of the program's functions: what pieces are together; whether no atom begins at a place. The conditions stand in the statements.
-/
namespace Go.Proofs.YtmbibaccpeldoaaGreatDoor.W14
set_option maxRecDepth 100000
open Go Go.RowKit Go.Proofs.YtmbibaccpeldoaaGreatDoor.Strs Go.Proofs.YtmbibaccpeldoaaGreatDoor.Recs Go.Proofs.YtmbibaccpeldoaaGreatDoor.M14
open Go.Proofs.YtmbibaccpeldoaaGreatDoor.Row256 (Beside)
open Go.Proofs.YtmbibaccpeldoaaGreatDoor.Kit (ret_str ret_bool ret_int mk_of mk_bytes ba_ext below_draws on)

/-- a piece is loaded out of a slice -/
theorem load_at {ops : Array Oper} {rest : List Oper} {o : Oper} {a : Act} {w : World} {Q : Exit → Act → World → Prop} (hgd : o.guard = none) (x : Operand) (ho : o.op = .load 24 x) {b k : Nat} (hx : a.eval x = .pointer (some ⟨b, k, none⟩)) {r : Raw}
    (hr : ∀ j, j < 5 → w.cell? ⟨b, k + j, none⟩ = (rawC r)[j]?) (h : wpList Tryz.prog ops Q rest (a.put o.dst (.agg (rawA r))) w) : wpList Tryz.prog ops Q (o :: rest) a w :=
  wpList_plain hgd fun _ hK => by
    have hl : (loadCells ⟨b, k, none⟩ (rawC r).length).run Tryz.prog w = .ok (rawC r).toArray w := run_loadCells_list (P := Tryz.prog) w ⟨b, k, none⟩ (rawC r) fun j v hv => by
      have hadd : (⟨b, k, none⟩ : Addr).add j = ⟨b, k + j, none⟩ := by unfold Addr.add; split <;> simp_all
      have hj : j < 5 := by
        rcases Nat.lt_or_ge j (rawC r).length with q | q
        · rw [rawC_len] at q; exact q
        · rw [List.getElem?_eq_none q] at hv; cases hv
      rw [hadd, hr j hj]; exact hv
    obtain ⟨i, hi, -, h2, -⟩ := info_parts piece_info
    have hagg : (isAgg 24).run Tryz.prog w = .ok true w := by
      unfold isAgg
      rw [Sem.run_bind, run_underlying Tryz.underlying24 w]
      rfl
    rw [rawC_len] at hl
    unfold Oper.wp execOp
    simp only [ho, hx, Instr.loadAt, Instr.sureAddr, loadVar, sizeOf, typeInfo, Sem.run_bind, Sem.run_pure, Result.andThen_ok, hagg]
    simp [hi, h2, hl, Sem.run_bind, Result.andThen]
    exact hK _ _ h
/-- what pieces are together -/
def Laid (base : Nat) (w : World) (p : Piece) (e : Ending) (w' : World) : Prop := ∃ r, e = .returned (.agg (rawA r)) ∧ PAt (In base w'.heap.size) w' r p ∧ Below w.heap.size w w'
theorem own_form {base : Nat} {e : TypeId} {size n : Nat} {v : Value} {xs : List Value} {w : World} (h : w.ownsRow base e size v n xs) (hn : 0 < n) : ∃ g c, v = .slice (some ⟨g, 0, none⟩) n c ∧ base ≤ g ∧ g < w.heap.size ∧ n ≤ c ∧ c ≤ maxLen := by
  rcases h.2 with ⟨rfl, h0⟩ | ⟨g, cap, cur, rfl, hb, hh, hc, hm, -⟩
  · omega
  · exact ⟨g, cap, rfl, hb, (Array.getElem?_eq_some_iff.1 hh).1, hc, hm⟩
set_option maxHeartbeats 1000000 in
theorem together_0 {base : Nat} {w : World} {v : Value} (kind : Int) (h : Build 24 base w v []) : Calls Tryz.prog 61 #[.int .i64 kind, v] w (Laid base w (together kind [])) := by
  obtain ⟨A, c, rfl, h1, h2⟩ := h.len
  unfold maxLen at h2
  go_enter Tryz.func61, Tryz.ntmps61
  go_wp2_with (first
    | (refine alloc_piece rfl rfl ?_; intro w1 b1 e1 p1 l1 z1)
    | (refine store_piece (r := ⟨1, ⟨#[]⟩, none, 0, 0, 0, 0⟩) rfl _ _ rfl rfl rfl p1 ?_; intro w2 p2 l2 z2))
  refine end_piece1 rfl rfl p2 rfl ⟨_, rfl, PAt.leaf _ _ 1 _, l1.trans (l2.below l1.size (by omega))⟩
set_option maxHeartbeats 1000000 in
theorem together_1 {base : Nat} {w : World} {v : Value} {p : Piece} (kind : Int) (h : Build 24 base w v [p]) : Calls Tryz.prog 61 #[.int .i64 kind, v] w (Laid base w (together kind [p])) := by
  obtain ⟨raws, hown, hall⟩ := h
  obtain ⟨r, rfl⟩ : ∃ r, raws = [r] := List.length_eq_one_iff.1 hall.1
  have hp := hall.2 0 (by simp) (by simp)
  simp only [List.getElem_cons_zero] at hp
  have hR := Recs.of_own rawC_len rfl hown
  obtain ⟨g, c, rfl, hg, hgw, h1, h2⟩ := own_form hown (by simp)
  unfold maxLen at h2
  obtain ⟨b, o, hl, hbo, -, hc⟩ := hR.flat_ rawC_len (by decide) (k := 0) (by simp)
  cases hbo
  simp only [List.getElem_cons_zero, Nat.zero_mul, Nat.add_zero] at hc
  have HC := Lib.hid hc
  have HP := Lib.hid hp
  simp only [List.length_cons, List.length_nil, Nat.zero_add] at h1 ⊢
  clear hc hp hR hall hown
  go_enter Tryz.func61, Tryz.ntmps61
  go_wp2_with (first
    | (refine alloc_piece rfl rfl ?_; intro w1 b1 e1 p1 l1 z1)
    | (refine load_at rfl _ rfl rfl (r := r) (fun j hj => (cell_block (l1.block _ hgw)).trans (HC.out j hj)) ?_)
    | (refine store_piece rfl _ _ rfl rfl rfl p1 ?_; intro w2 p2 l2 z2))
  have hb := l1.trans (l2.below l1.size (by omega))
  refine end_piece1 rfl rfl p2 rfl ⟨_, rfl, HP.out.keep (fun _ q => ⟨q.1.1, Nat.lt_of_lt_of_le q.1.2 hb.size⟩) (fun _ q => cell_block (hb.block _ q.1.2)), hb⟩
set_option maxHeartbeats 1000000 in
theorem together_2 {base : Nat} {w : World} {v : Value} {p q : Piece} {ks : List Piece} (kind : Int) (hks : ks.length ≤ 1000000) (h : Build 24 base w v (p :: q :: ks)) : Calls Tryz.prog 61 #[.int .i64 kind, v] w (Laid base w (together kind (p :: q :: ks))) := by
  obtain ⟨raws, hown, hall⟩ := h
  have hlen : raws.length = ks.length + 2 := hall.1
  have hR := Recs.of_own rawC_len rfl hown
  obtain ⟨g, c, rfl, hg, hgw, h1, h2⟩ := own_form hown (by omega)
  have HA := Lib.hid hall
  have HR := Lib.hid hR
  unfold maxLen at h2
  rw [hlen] at h1 HR ⊢
  clear hR hall hown
  have t0 : (((ks.length + 2 : Nat) : Int) == 0) = false := by simpa using (by omega : ¬ (((ks.length + 2 : Nat) : Int) = 0))
  have t1 : (((ks.length + 2 : Nat) : Int) == 1) = false := by simpa using (by omega : ¬ (((ks.length + 2 : Nat) : Int) = 1))
  generalize hn : ks.length + 2 = n at *
  have HN := Lib.hid hn
  clear hn
  go_enter Tryz.func61, Tryz.ntmps61
  go_wp2_with (first
    | (refine alloc_piece rfl rfl ?_; intro w1 b1 e1 p1 l1 z1)
    | (refine store_piece (r := ⟨kind, ⟨#[]⟩, some ⟨g, 0, none⟩, n, c, 0, 0⟩) rfl _ _ rfl rfl rfl p1 ?_; intro w2 p2 l2 z2))
  have hb := l1.trans (l2.below l1.size (by omega))
  refine end_piece1 rfl rfl p2 rfl ⟨_, rfl, .mk _ _ _ _ _ _ _ raws _ _ (HR.out.below hb) ?_ HA.out.1 ?_, hb⟩
  · intro ad e _
    cases e
    exact ⟨hg, Nat.lt_of_lt_of_le hgw hb.size⟩
  · intro i h1 h2
    exact (HA.out.2 i h1 h2).keep (fun _ q => ⟨q.1.1, Nat.lt_of_lt_of_le q.1.2 hb.size⟩) (fun _ q => cell_block (hb.block _ q.1.2))
theorem together_any {base : Nat} {w : World} {v : Value} {ks : List Piece} (kind : Int) (hks : ks.length ≤ 1000000) (h : Build 24 base w v ks) : Calls Tryz.prog 61 #[.int .i64 kind, v] w (Laid base w (together kind ks)) := by
  match ks, h with
  | [], h => exact together_0 kind h
  | [p], h => exact together_1 kind h
  | p :: q :: l, h => exact together_2 kind (by simp only [List.length_cons] at hks; omega) h
end Go.Proofs.YtmbibaccpeldoaaGreatDoor.W14
/-
  Layer 14 (pattern), pieces as arguments: put into a box, loaded out of it, their kids by number; how all this is kept. The conditions stand in the statements.
-/
namespace Go.Proofs.YtmbibaccpeldoaaGreatDoor.W14
open Go Go.RowKit Go.Proofs.YtmbibaccpeldoaaGreatDoor.Strs Go.Proofs.YtmbibaccpeldoaaGreatDoor.Recs Go.Proofs.YtmbibaccpeldoaaGreatDoor.M14
open Go.Proofs.YtmbibaccpeldoaaGreatDoor.Row256 (Beside)
open Go.Proofs.YtmbibaccpeldoaaGreatDoor.Kit (below_draws on)

section
variable {ops : Array Oper} {rest : List Oper} {o : Oper} {a : Act} {w : World} {Q : Exit → Act → World → Prop}
/-- a piece that came in is put into a box -/
theorem box_arg (hgd : o.guard = none) (x : Operand) (ho : o.op = .box 24 x) {r : Raw} (hx : a.eval x = .agg (rawA r))
    (h : ∀ w' b, w.heap.size = b → PBox w' b r → Below w.heap.size w w' → w'.heap.size = w.heap.size + 1 → wpList Tryz.prog ops Q rest (a.put o.dst (.pointer (some ⟨b, 0, none⟩))) w') : wpList Tryz.prog ops Q (o :: rest) a w :=
  wpList_plain hgd fun _ hK => by
    unfold Oper.wp execOp
    simp only [ho, hx, Instr.box, newVar, newRow, Sem.run_bind, Sem.run_pure]
    exact hK _ _ (h _ _ rfl (heap_alloc_new w _) (below_new w _) (World.size_alloc w _))
end
/-- a piece's load as an operation of a drawn region -/
theorem run_load_op {a : Act} {o : Oper} {w : World} (x : Operand) (ho : o.op = .load 24 x) {b k : Nat} (hx : a.eval x = .pointer (some ⟨b, k, none⟩)) {r : Raw} (hr : ∀ j, j < 5 → w.cell? ⟨b, k + j, none⟩ = (rawC r)[j]?) : (execOp a.eval o).run Tryz.prog w = .ok (.value (.agg (rawA r))) w := by
  have hl : (loadCells ⟨b, k, none⟩ (rawC r).length).run Tryz.prog w = .ok (rawC r).toArray w := run_loadCells_list (P := Tryz.prog) w ⟨b, k, none⟩ (rawC r) fun j v hv => by
    have hadd : (⟨b, k, none⟩ : Addr).add j = ⟨b, k + j, none⟩ := by unfold Addr.add; split <;> simp_all
    have hj : j < 5 := by
      rcases Nat.lt_or_ge j (rawC r).length with q | q
      · rw [rawC_len] at q; exact q
      · rw [List.getElem?_eq_none q] at hv; cases hv
    rw [hadd, hr j hj]; exact hv
  obtain ⟨i, hi, -, h2, -⟩ := info_parts piece_info
  have hagg : (isAgg 24).run Tryz.prog w = .ok true w := by
    unfold isAgg
    rw [Sem.run_bind, run_underlying Tryz.underlying24 w]
    rfl
  rw [rawC_len] at hl
  unfold execOp
  simp only [ho, hx, Instr.loadAt, Instr.sureAddr, loadVar, sizeOf, typeInfo, Sem.run_bind, Sem.run_pure, Result.andThen_ok, hagg]
  simp [hi, h2, hl, Sem.run_bind, Result.andThen]
  rfl
section
variable {w w' : World} {b : Nat} {r : Raw}
theorem PBox.c0 (h : PBox w b r) : w.cell? ⟨b, 0, none⟩ = some (.int .i64 r.kind) := cell_of_row w b 0 _ _ _ h
theorem PBox.c1 (h : PBox w b r) : w.cell? ⟨b, 1, none⟩ = some (.string r.text) := cell_of_row w b 1 _ _ _ h
theorem PBox.c2 (h : PBox w b r) : w.cell? ⟨b, 2, none⟩ = some (.slice r.ad r.len r.cap) := cell_of_row w b 2 _ _ _ h
theorem PBox.c3 (h : PBox w b r) : w.cell? ⟨b, 3, none⟩ = some (.int .i64 r.least) := cell_of_row w b 3 _ _ _ h
theorem PBox.c4 (h : PBox w b r) : w.cell? ⟨b, 4, none⟩ = some (.int .i64 r.top) := cell_of_row w b 4 _ _ _ h
theorem PBox.cells (h : PBox w b r) : ∀ j, j < 5 → w.cell? ⟨b, 0 + j, none⟩ = (rawC r)[j]? := by
  intro j hj
  rw [Nat.zero_add, cell_of_row w b j _ _ _ h]
  match j, hj with
  | 0, _ => rfl
  | 1, _ => rfl
  | 2, _ => rfl
  | 3, _ => rfl
  | 4, _ => rfl
end
/-- a piece, all whose blocks lie below the world's end -/
def PLow (w : World) (r : Raw) (p : Piece) : Prop := PAt (fun b => b < w.heap.size) w r p
theorem PLow.below {w w' : World} {r : Raw} {p : Piece} (h : PLow w r p) (hb : Below w.heap.size w w') : PLow w' r p :=
  PAt.keep h (fun _ q => Nat.lt_of_lt_of_le q hb.size) fun _ q => cell_block (hb.block _ q)
theorem PAt.low {lo : Nat} {w : World} {r : Raw} {p : Piece} (h : PAt (In lo w.heap.size) w r p) : PLow w r p := h.keep (fun _ q => q.2) fun _ _ => rfl
/-- a piece's kids in memory -/
def Kids (w : World) (A : Option Addr) (c : Nat) (raws : List Raw) (ks : List Piece) : Prop :=
  (∃ B, Raws B w (.slice A ks.length c) raws) ∧ (∀ ad, A = some ad → 0 < raws.length → ad.block < w.heap.size) ∧ PAll (fun b => b < w.heap.size) w raws ks
theorem PLow.parts {w : World} {r : Raw} {k : Int} {t : ByteArray} {ks : List Piece} {l tp : Int} (h : PLow w r (.mk k t ks l tp)) : ∃ A c raws, r = ⟨k, t, A, ks.length, c, l, tp⟩ ∧ Kids w A c raws ks := by
  unfold PLow at h
  cases h with
  | mk _ _ A n c _ _ raws _ B h hX hl hk =>
    have hn : n = ks.length := by
      obtain ⟨A', c', e, -⟩ := h
      injection e with e1 e2 e3
      omega
    subst hn
    exact ⟨A, c, raws, rfl, ⟨B, h⟩, hX, hl, hk⟩
theorem Kids.below {w w' : World} {A : Option Addr} {c : Nat} {raws : List Raw} {ks : List Piece} (h : Kids w A c raws ks) (hb : Below w.heap.size w w') : Kids w' A c raws ks := by
  obtain ⟨⟨B, h1⟩, h2, h3⟩ := h
  refine ⟨⟨B, raws_keep h1 fun ad e hn p hp => cell_block (hb.block _ (by rw [hp]; exact h2 ad e hn))⟩, fun ad e hn => Nat.lt_of_lt_of_le (h2 ad e hn) hb.size, h3.keep (fun _ q => Nat.lt_of_lt_of_le q hb.size) fun _ q => cell_block (hb.block _ q)⟩
theorem Kids.room {w : World} {A : Option Addr} {c : Nat} {raws : List Raw} {ks : List Piece} (h : Kids w A c raws ks) : ks.length ≤ c ∧ c ≤ 9223372036854775807 := by
  obtain ⟨⟨B, A', c', e, h2, h3, -⟩, -, h4, -⟩ := h
  injection e with e1 e2 e3
  subst e3
  unfold maxLen at h3
  omega
theorem Kids.at_ {w : World} {A : Option Addr} {c : Nat} {raws : List Raw} {ks : List Piece} (h : Kids w A c raws ks) (hn : 0 < ks.length) : ∃ g o, A = some ⟨g, o, none⟩ ∧ ∀ i (hi : i < raws.length), ∀ j, j < 5 → w.cell? ⟨g, o + i * 5 + j, none⟩ = (rawC raws[i])[j]? := by
  obtain ⟨⟨B, h1⟩, h2, h3, -⟩ := h
  obtain ⟨g, o, hl, e, -, -⟩ := h1.flat_ rawC_len (by decide) (k := 0) hn
  refine ⟨g, o, e, fun i hi => ?_⟩
  obtain ⟨g', o', hl', e', -, hc⟩ := h1.flat_ rawC_len (by decide) (k := i) (by omega)
  rw [e] at e'
  cases e'
  exact hc
theorem Kids.kid {w : World} {A : Option Addr} {c : Nat} {raws : List Raw} {ks : List Piece} (h : Kids w A c raws ks) {i : Nat} (hi : i < ks.length) : ∃ hr : i < raws.length, PLow w raws[i] ks[i] := by
  obtain ⟨-, -, h3, h4⟩ := h
  exact ⟨by omega, h4 i (by omega) hi⟩
theorem Kids.moved {w w' : World} {g o c : Nat} {raws : List Raw} {ks : List Piece} (h : Kids w (some ⟨g, o, none⟩) c raws ks) (hb : Below w.heap.size w w') {i : Nat} (hi : i < raws.length) (hc : ∀ j, j < 5 → w.cell? ⟨g, o + i * 5 + j, none⟩ = (rawC raws[i])[j]?) : ∀ j, j < 5 → w'.cell? ⟨g, o + i * 5 + j, none⟩ = (rawC raws[i])[j]? := fun j hj =>
  (cell_block (hb.block g (h.2.1 _ rfl (Nat.lt_of_le_of_lt (Nat.zero_le _) hi)))).trans (hc j hj)
end Go.Proofs.YtmbibaccpeldoaaGreatDoor.W14
/-
  Layer 13 (class), walks of the program's functions on an array of truths. The conditions stand in the statements.
-/
namespace Go.Proofs.YtmbibaccpeldoaaGreatDoor.W13
set_option maxRecDepth 100000
open Go Go.RowKit Go.Proofs.YtmbibaccpeldoaaGreatDoor.M13 Go.Proofs.YtmbibaccpeldoaaGreatDoor.Row256
open Go.Proofs.YtmbibaccpeldoaaGreatDoor.Kit (ret_str ret_bool ret_int mk_of mk_bytes ba_ext below_draws on)

def bv (f : Nat → Bool) (i : Nat) : Value := .bool (f i)
theorem bv_eq {f g : Nat → Bool} {i : Nat} (h : f i = g i) : bv f i = bv g i := by unfold bv; rw [h]
theorem bv_one (f : Nat → Bool) (i : Nat) : (bv f i).oneCell' = true := rfl
theorem info37 : (Tryz.prog.info? 95).map (fun i => (i.zero, i.size)) = some (some (Value.agg (Array.replicate 256 (.bool false))), 256) := by kernel_rfl
theorem zero37 (w : World) : (zeroValue 95).run Tryz.prog w = .ok (.agg (rowV (bv fun _ => false))) w := by
  have h := (zero_of_info info37).1 w
  rw [rowV_same] at h; exact h
theorem size37 : (Tryz.prog.info? 95).map (·.size) = some 256 := (zero_of_info info37).2

theorem size_row (g : Nat → Value) : (Tryz.prog.info? 95).map (·.size) = some (rowV g).size := by rw [rowV_size]; exact size37
/-- a whole array is loaded from a block, and stored into one -/
theorem load_row {ops : Array Oper} {rest : List Oper} {o : Oper} {a : Act} {w : World} {Q : Exit → Act → World → Prop} (hgd : o.guard = none) (x : Operand) (ho : o.op = .load 95 x)
    {b : Nat} (hx : a.eval x = .pointer (some ⟨b, 0, none⟩)) {t : TypeId} {f : Nat → Value} (hr : Row w b t f) (h : wpList Tryz.prog ops Q rest (a.put o.dst (.agg (rowV f))) w) : wpList Tryz.prog ops Q (o :: rest) a w :=
  wpList_load_row hgd 95 x ho b hx t (rowV f) (0, 0) _ hr Tryz.underlying95 rfl (size_row f) h
theorem store_row {ops : Array Oper} {rest : List Oper} {o : Oper} {a : Act} {w : World} {Q : Exit → Act → World → Prop} (hgd : o.guard = none) (x y : Operand) (ho : o.op = .store 95 x y)
    {b : Nat} {f : Nat → Bool} {g : Nat → Value} (hx : a.eval x = .pointer (some ⟨b, 0, none⟩)) (hy : a.eval y = .agg (rowV (bv f))) {t : TypeId} (hr : Row w b t g)
    (h : ∀ w', Row w' b t (bv f) → Beside b w w' → wpList Tryz.prog ops Q rest (a.put o.dst undef) w') : wpList Tryz.prog ops Q (o :: rest) a w :=
  wpList_store_row hgd 95 x y ho b (rowV (bv f)) hx hy t (rowV g) hr (size_row _) (by rw [rowV_size, rowV_size]) (rowV_one (bv_one f))
    (h _ (hr.set _) ⟨rfl, rfl, rfl, by rw [setRow_size]; exact Nat.le_refl _, fun k _ e => setRow_other w b k _ e⟩)
/-- a function ends whose one result is an array in a block of its own -/
theorem end_row {fn : Func} {R : Ending → World → Prop} {a : Act} {w : World} {p : Tmp} {b : Nat} {t : TypeId} {f : Nat → Value} (hf : fn.results = #[.cell p 95]) (hp : a.tmps.getD p undef = .pointer (some ⟨b, 0, none⟩)) (hr : Row w b t f) (hd : a.defers = [])
    (hR : R (.returned (.agg (rowV f))) w) : bodyPost Tryz.prog fn R .ret a w :=
  bodyPost_ret (results_cell_row hf a.tmps w b t (rowV f) (0, 0) _ hp hr Tryz.underlying95 rfl (size_row f)) hd hR

/-- one round of a loop that writes truth by truth -/
theorem row_step {w : World} {b i : Nat} {t : TypeId} {F G : Nat → Bool} {v : Bool} (h : Row w b t (bv fun j => if j < i then F j else G j)) (hv : v = F i) : Row (w.setCell ⟨b, i, none⟩ (.bool v)) b t (bv fun j => if j < i + 1 then F j else G j) := by
  refine (h.put i (.bool v)).is fun j _ => ?_
  by_cases e : j = i
  · subst e
    rw [if_pos rfl, hv]
    exact bv_eq (f := fun _ => F j) (by rw [if_pos (by omega)])
  · rw [if_neg e]
    refine bv_eq ?_
    by_cases e2 : j < i
    · rw [if_pos e2, if_pos (by omega)]
    · rw [if_neg e2, if_neg (by omega)]

set_option maxHeartbeats 1000000 in
theorem span_any {w : World} {b : Nat} {t : TypeId} {f : Nat → Bool} (h : Row w b t (bv f)) (a c : UInt8) :
    Calls Tryz.prog 123 #[.pointer (some ⟨b, 0, none⟩), .int .u8 a.toNat, .int .u8 c.toNat] w fun e w' => e = .returned (.tuple #[]) ∧ Row w' b t (bv fun i => f i || between a.toNat c.toNat i) ∧ Beside b w w' := by
  have HC := Lib.hid h
  clear h
  have hc256 : c.toNat < 256 := UInt8.toNat_lt c
  have ha256 : a.toNat < 256 := UInt8.toNat_lt a
  go_enter Tryz.func123, Tryz.ntmps123
  go_wp2_with fail
  go_loopg [6] (c.toNat + 1 - a.toNat) (fun g s6 wr => ∃ i : Nat, s6 = .int .i64 i ∧ a.toNat ≤ i ∧ (i + g = c.toNat + 1 ∨ g = 0 ∧ c.toNat < i) ∧ Hid (Row wr b t (bv fun j => f j || (decide (a.toNat ≤ j) && decide (j < i) && decide (j ≤ c.toNat)))) ∧ Hid (Beside b w wr))
  case atStart =>
    refine ⟨a.toNat, rfl, Nat.le_refl _, by omega, HC.out.is fun j _ => bv_eq ?_, Beside.refl _ _⟩
    have e : (decide (a.toNat ≤ j) && decide (j < a.toNat)) = false := by simp
    rw [e, Bool.false_and, Bool.or_false]
  case round =>
    obtain ⟨i, rfl, hai, hig, hr, hb⟩ := hrel
    cases gk with
    | zero =>
      have hi : c.toNat < i := by omega
      have hi2 : ¬ ((i : Int) ≤ (c.toNat : Int)) := by omega
      have HI := Lib.hid hi
      clear hi hig
      go_wp2
      go_end0
      refine ⟨rfl, hr.out.is fun j _ => bv_eq ?_, hb.out⟩
      unfold between
      by_cases e : j ≤ c.toNat
      · have := HI.out
        rw [decide_eq_true (show j < i by omega), Bool.and_true]
      · rw [decide_eq_false e, Bool.and_false, Bool.and_false]
    | succ g =>
      have hi : i ≤ c.toNat := by omega
      have hi2 : (i : Int) ≤ (c.toNat : Int) := by omega
      have hi3 : (i : Int) < 256 := by omega
      have hcell := hr.out.cell (i := i) (by omega)
      have hfree := hr.out.free i
      generalize hold : bv (fun j => f j || (decide (a.toNat ≤ j) && decide (j < i) && decide (j ≤ c.toNat))) i = old at hcell
      clear hold
      go_wp2
      go_roundg g
      case measure => omega
      case rel =>
        refine ⟨i + 1, by first | rfl | simp, by omega, by omega, (hr.out.put i (.bool true)).is fun j _ => ?_, hb.out.put i _⟩
        by_cases e : j = i
        · subst e
          rw [if_pos rfl]
          refine (bv_eq (f := fun _ => true) ?_)
          rw [decide_eq_true hai, decide_eq_true (show j < j + 1 by omega), decide_eq_true hi, Bool.and_true, Bool.and_true, Bool.or_true]
        · rw [if_neg e]
          refine bv_eq ?_
          rw [show decide (j < i + 1) = decide (j < i) from decide_eq_decide.2 (by omega)]
end Go.Proofs.YtmbibaccpeldoaaGreatDoor.W13
/-
  Layer 13 (class): the program's text of 256 truths. The conditions stand in the statements.
-/
namespace Go.Proofs.YtmbibaccpeldoaaGreatDoor.W13
set_option maxRecDepth 100000
open Go Go.RowKit Go.Proofs.YtmbibaccpeldoaaGreatDoor.M13 Go.Proofs.YtmbibaccpeldoaaGreatDoor.Row256
open Go.Proofs.YtmbibaccpeldoaaGreatDoor.Kit (ret_str ret_bool ret_int mk_of mk_bytes ba_ext below_draws on)

/-- the text of 256 truths, as a value's bytes -/
def tx (f : Nat → Bool) : ByteArray := ⟨(textOf f).toArray⟩
theorem tx_list (f : Nat → Bool) : (tx f).data.toList = textOf f := rfl
theorem tx_congr {f g : Nat → Bool} (h : ∀ i, i < 256 → f i = g i) : tx f = tx g := by unfold tx; rw [textOf_congr h]
def uv (f : Nat → UInt8) (i : Nat) : Value := .int .u8 (f i).toNat
theorem uv_eq {f g : Nat → UInt8} {i : Nat} (h : f i = g i) : uv f i = uv g i := by unfold uv; rw [h]
theorem info52 : (Tryz.prog.info? 99).map (fun i => (i.zero, i.size)) = some (some (Value.agg (Array.replicate 256 (.int .u8 0))), 256) := by kernel_rfl
theorem zero52 (w : World) : (zeroValue 99).run Tryz.prog w = .ok (.agg (rowV (uv fun _ => 0))) w := by
  have h := (zero_of_info info52).1 w
  rw [rowV_same] at h; exact h
/-- one round of the loop that writes the text's bytes -/
theorem byte_step {w : World} {b i : Nat} {t : TypeId} {F : Nat → UInt8} {v : Value} (h : Row w b t (uv fun j => if j < i then F j else 0)) (u : Value) (hv : v = uv F i) : Row ((w.setCell ⟨b, i, none⟩ u).setCell ⟨b, i, none⟩ v) b t (uv fun j => if j < i + 1 then F j else 0) := by
  refine ((h.put i u).put i v).is fun j _ => ?_
  by_cases e : j = i
  · subst e
    rw [if_pos rfl, hv]
    exact uv_eq (g := fun k => if k < j + 1 then F k else 0) (by rw [if_pos (by omega)])
  · rw [if_neg e, if_neg e]
    refine uv_eq ?_
    by_cases e2 : j < i
    · rw [if_pos e2, if_pos (by omega)]
    · rw [if_neg e2, if_neg (by omega)]
theorem byte_step0 {w : World} {b i : Nat} {t : TypeId} {F : Nat → UInt8} {v : Value} (h : Row w b t (uv fun j => if j < i then F j else 0)) (hv : v = uv F i) : Row (w.setCell ⟨b, i, none⟩ v) b t (uv fun j => if j < i + 1 then F j else 0) := by
  refine (h.put i v).is fun j _ => ?_
  by_cases e : j = i
  · subst e
    rw [if_pos rfl, hv]
    exact uv_eq (g := fun k => if k < j + 1 then F k else 0) (by rw [if_pos (by omega)])
  · rw [if_neg e]
    refine uv_eq ?_
    by_cases e2 : j < i
    · rw [if_pos e2, if_pos (by omega)]
    · rw [if_neg e2, if_neg (by omega)]
theorem conv_row {w : World} {b : Nat} {t : TypeId} {f : Nat → Bool} (h : Row w b t (uv fun j => bit (f j))) : (convert 114 9 (.slice (some ⟨b, 0, none⟩) 256 256)).run Tryz.prog w = .ok (.string (tx f)) w := by
  have h2 := run_convert_bytes_back (P := Tryz.prog) w 114 9 5 ⟨b, 0, none⟩ 256 (textOf f) Tryz.underlying114 Tryz.underlying5 Tryz.underlying9 (fun j hj => by
    have hj2 : j < 256 := by rw [textOf_len] at hj; exact hj
    have hc := h.cell hj2
    have hadd : (⟨b, 0, none⟩ : Addr).add j = ⟨b, j, none⟩ := by unfold Addr.add; split <;> simp_all
    have e : (textOf f)[j]'hj = bit (f j) := by
      have := textOf_get f hj2
      rw [List.getElem?_eq_getElem hj] at this
      exact Option.some.inj this
    rw [hadd, hc]
    show some (Value.int .u8 (bit (f j)).toNat) = some (Value.int .u8 ((textOf f)[j]'hj).toNat)
    rw [e])
  rw [textOf_len] at h2
  exact h2
set_option maxHeartbeats 1000000 in
theorem text_any (f : Nat → Bool) (w : World) :
    Calls Tryz.prog 87 #[.agg (rowV (bv f))] w fun e w' => e = .returned (.string (tx f)) ∧ Below w.heap.size w w' := by
  have hz := zero52
  go_enter Tryz.func87, Tryz.ntmps87
  go_wp2_with fail
  have hn1 : Row (w.alloc (.cells (rowV (bv f)) 95)) w.heap.size 95 (bv f) := Row.new _ _ _
  have hn2 := Row.new (w.alloc (.cells (rowV (bv f)) 95)) 99 (uv fun _ => 0)
  rw [World.size_alloc] at hn2
  have HN := Lib.hid (And.intro (hn1.alloc (.cells (rowV (uv fun _ => 0)) 99)) hn2)
  have HB := Lib.hid ((Below.refl w.heap.size w).alloc (Nat.le_refl _) (.cells (rowV (bv f)) 95) |>.alloc (by rw [World.size_alloc]; omega) (.cells (rowV (uv fun _ => 0)) 99))
  clear hn1 hn2 hz
  generalize ((w.alloc (.cells (rowV (bv f)) 95)).alloc (.cells (rowV (uv fun _ => 0)) 99)) = w1 at HN HB ⊢
  go_loopg [5] 256 (fun g s5 wr => ∃ i : Nat, s5 = .int .i64 i ∧ i + g = 256 ∧ Hid (Row wr (w.heap.size + 1) 99 (uv fun j => if j < i then bit (f j) else 0)) ∧ Hid (Row wr w.heap.size 95 (bv f)) ∧ Hid (Below w.heap.size w wr))
  case atStart => exact ⟨0, rfl, rfl, HN.out.2.is fun j _ => uv_eq (by rw [if_neg (by omega)]), HN.out.1, HB⟩
  case round =>
    obtain ⟨i, rfl, hig, hr, hz, hb⟩ := hrel
    cases gk with
    | zero =>
      obtain rfl : i = 256 := by omega
      have hconv := conv_row (f := f) (hr.out.is fun j hj => uv_eq (by rw [if_pos hj]))
      go_wp2_with fail
      go_ret
      exact ⟨rfl, hb.out⟩
    | succ g =>
      have hi3 : (i : Int) < 256 := by omega
      have hcell := hr.out.cell (i := i) (by omega)
      have hfree := hr.out.free i
      generalize hold : uv (fun j => if j < i then bit (f j) else 0) i = old at hcell
      clear hold
      have hcell2 : wr.cell? ⟨w.heap.size, i, none⟩ = some (.bool (f i)) := hz.out.cell (i := i) (by omega)
      cases hf : f i with
      | true =>
        rw [hf] at hcell2
        go_wp2_with fail
        go_roundg g
        case measure => omega
        case rel => exact ⟨i + 1, by first | rfl | simp, by omega, byte_step hr.out _ (by rw [show uv (fun j => bit (f j)) i = .int .u8 (bit (f i)).toNat from rfl, hf]; rfl), (hz.out.other (a := ⟨w.heap.size + 1, i, none⟩) (by simp) _).other (by simp) _, (hb.out.setCell (p := ⟨w.heap.size + 1, i, none⟩) (by simp) _).setCell (by simp) _⟩
      | false =>
        rw [hf] at hcell2
        go_wp2_with fail
        go_roundg g
        case measure => omega
        case rel => exact ⟨i + 1, by first | rfl | simp, by omega, byte_step0 hr.out (by rw [show uv (fun j => bit (f j)) i = .int .u8 (bit (f i)).toNat from rfl, hf]; rfl), hz.out.other (by simp) _, hb.out.setCell (by simp) _⟩
end Go.Proofs.YtmbibaccpeldoaaGreatDoor.W13
/-
  Layer 13 (class), walks of the document's own answers: Make, Span, Has, Union, Not, Count, Named. The conditions stand in the statements.
-/
namespace Go.Proofs.YtmbibaccpeldoaaGreatDoor.W13
set_option maxRecDepth 100000
open Go Go.RowKit Go.Proofs.YtmbibaccpeldoaaGreatDoor.M13 Go.Proofs.YtmbibaccpeldoaaGreatDoor.Row256
open Go.Proofs.YtmbibaccpeldoaaGreatDoor.Kit (ret_str ret_bool ret_int mk_of mk_bytes ba_ext below_draws on take_next cat_bytes)

theorem infoBool : (Tryz.prog.info? 4).map (fun i => (i.zero, i.size, i.bytes)) = some (some (Value.bool false), 1, 1) := by kernel_rfl
set_option maxHeartbeats 1000000 in
theorem refMake_any {w : World} {b : Nat} {t : TypeId} {f : Nat → Bool} (h : Row w b t (bv f)) :
    Calls Tryz.prog 46 #[.slice (some ⟨b, 0, none⟩) 256 256] w fun e w' => e = .returned (.string (tx f)) ∧ w' = w := by
  have HC := Lib.hid h
  clear h
  go_enter Tryz.func46, Tryz.ntmps46
  go_wp2_with fail
  go_loopg [3, 4] 256 (fun g s3 s4 wr => ∃ (i : Nat) (d : ByteArray), s3 = .string d ∧ s4 = .int .i64 i ∧ i + g = 256 ∧ Hid (d.data.toList = (List.range i).map fun j => bit (f j)) ∧ wr = w)
  case atStart => exact ⟨0, ⟨#[]⟩, rfl, rfl, rfl, rfl, rfl⟩
  case round =>
    obtain ⟨i, d, rfl, rfl, hig, hd, rfl⟩ := hrel
    cases gk with
    | zero =>
      obtain rfl : i = 256 := by omega
      go_wp2_with fail
      go_ret
      exact ⟨ret_str (ba_ext hd.out), rfl⟩
    | succ g =>
      have hi3 : (i : Int) < 256 := by omega
      have hcell : wr.cell? ⟨b, i, none⟩ = some (.bool (f i)) := HC.out.cell (i := i) (by omega)
      have hstep : ∀ u : UInt8, u = bit (f i) → Hid ((d ++ ⟨#[u]⟩).data.toList = (List.range (i + 1)).map fun j => bit (f j)) := by
        intro u hu
        unfold Hid
        rw [cat_bytes, hd.out, List.range_succ, List.map_append, hu]; rfl
      have HS := Lib.hid hstep
      clear hstep
      have hdz : d.size = i := by rw [Lib.size_eq, hd.out, List.length_map, List.length_range]
      have hn : ¬ 9223372036854775807 < d.size + 1 := by omega
      clear hdz
      cases hf : f i with
      | true =>
        rw [hf] at hcell
        go_wp2_with fail
        go_roundg g
        case measure => omega
        case rel => exact ⟨i + 1, _, rfl, by first | rfl | simp, by omega, HS.out 49 (by rw [hf]; rfl), rfl⟩
      | false =>
        rw [hf] at hcell
        go_wp2_with fail
        go_roundg g
        case measure => omega
        case rel => exact ⟨i + 1, _, rfl, by first | rfl | simp, by omega, HS.out 48 (by rw [hf]; rfl), rfl⟩
theorem made_row (v : Value) : madeCells #[v] 256 = rowV fun _ => v := by
  refine rowV_ext (size_madeCells _ _) fun j hj => ?_
  simp [madeCells, hj, Nat.mod_one]
theorem make_row (w : World) : (Instr.makeSlice 64 (.int .i64 256) (.int .i64 256)).run Tryz.prog w = .ok (.slice (some ⟨w.heap.size, 0, none⟩) 256 256) (w.alloc (.cells (rowV (bv fun _ => false)) 4)) := by
  have h := run_make_row' (P := Tryz.prog) 64 4 (.bool false) 1 Tryz.underlying64 infoBool rfl .i64 .i64 256 (by omega) (by omega) w
  rw [made_row] at h
  exact h
theorem new_bools (w : World) : Row (w.alloc (.cells (rowV (bv fun _ => false)) 4)) w.heap.size 4 (bv fun _ => false) ∧ Below w.heap.size w (w.alloc (.cells (rowV (bv fun _ => false)) 4)) :=
  ⟨Row.new _ _ _, (Below.refl w.heap.size w).alloc (Nat.le_refl _) _⟩
theorem byte_is (s : ByteArray) {i : Nat} (hi : i < s.size) (u : UInt8) : ((s[i].toNat : Int) == (u.toNat : Int)) = decide (s[i] = u) := Kit.byte_test _ _
theorem good_of {s : ByteArray} (hs : s.size = 256) (h : ∀ j (hj : j < s.size), s[j] = 48 ∨ s[j] = 49) : good s.data.toList = true := by
  unfold good
  rw [← Lib.size_eq, decide_eq_true hs, Bool.true_and, List.all_eq_true]
  intro c hc
  obtain ⟨j, hj, rfl⟩ := List.mem_iff_getElem.1 hc
  have := h j (by rw [Lib.size_eq]; exact hj)
  rcases this with e | e
  · rw [show s.data.toList[j] = 48 from e]; rfl
  · rw [show s.data.toList[j] = 49 from e]; rfl
theorem bad_of {s : ByteArray} {j : Nat} (hj : j < s.size) (h0 : ¬ s[j] = 48) (h1 : ¬ s[j] = 49) : good s.data.toList = false := by
  cases h : good s.data.toList with
  | false => rfl
  | true =>
    exfalso
    unfold good at h
    have h2 := List.all_eq_true.1 (Bool.and_eq_true_iff.1 h).2 s[j] (List.getElem_mem _)
    rw [decide_eq_false h0, decide_eq_false h1] at h2
    cases h2
theorem has_at2 {s : ByteArray} (hg : good s.data.toList = true) {i : Nat} (hi : i < s.size) : ((s[i].toNat : Int) == 49) = has s.data.toList i := by
  rw [has_good hg, Kit.byte_get s i hi]
  exact byte_is s hi 49
set_option maxHeartbeats 1000000 in
theorem refHas_any (s : ByteArray) (c : Nat) (w : World) : Calls Tryz.prog 45 #[.string s, .int .i64 c] w fun e w' => e = .returned (.bool (has s.data.toList c)) ∧ w' = w := by
  have h0 : ¬ ((c : Int) < 0) := by omega
  by_cases hs : s.size = 256
  · have hz : (((s.size : Nat) : Int) != 256) = false := by rw [hs]; rfl
    by_cases hc : c < 256
    · have hc2 : ¬ (255 < (c : Int)) := by omega
      have HS := Lib.hid (And.intro hs hc)
      clear hs hc
      go_enter Tryz.func45, Tryz.ntmps45
      go_wp2_with fail
      go_loopg [5] 256 (fun g s5 wr => ∃ i : Nat, s5 = .int .i64 i ∧ i + g = 256 ∧ Hid (∀ j (hj : j < s.size), j < i → s[j] = 48 ∨ s[j] = 49) ∧ wr = w)
      case atStart => exact ⟨0, rfl, rfl, fun j _ h => absurd h (by omega), rfl⟩
      case round =>
        obtain ⟨i, rfl, hig, hall, rfl⟩ := hrel
        cases gk with
        | zero =>
          obtain rfl : i = 256 := by omega
          have hg := good_of HS.out.1 (fun j hj => hall.out j hj (by rw [← HS.out.1]; exact hj))
          have hcs : c < s.size := by rw [HS.out.1]; exact HS.out.2
          have HV := Lib.hid (has_at2 hg hcs)
          clear hg
          go_wp2_with fail
          go_ret
          exact ⟨ret_bool HV.out, rfl⟩
        | succ g =>
          have hi : i < s.size := by rw [HS.out.1]; omega
          have hi3 : (i : Int) < 256 := by omega
          by_cases e0 : s[i] = 48
          · have t0 : (s[i].toNat : Int) = 48 := by rw [e0]; rfl
            have HE := Lib.hid e0
            clear e0
            go_wp2_with fail
            go_roundg g
            case measure => omega
            case rel =>
              refine ⟨i + 1, by first | rfl | simp, by omega, fun j hj h => ?_, rfl⟩
              by_cases e : j = i
              · subst e; exact Or.inl HE.out
              · exact hall.out j hj (by omega)
          · have t0 : ¬ (s[i].toNat : Int) = 48 := fun e => e0 (UInt8.toNat_inj.1 (show s[i].toNat = 48 by omega))
            by_cases e1 : s[i] = 49
            · have t1 : (s[i].toNat : Int) = 49 := by rw [e1]; rfl
              have HE := Lib.hid e1
              clear e0 e1 t0
              go_wp2_with fail
              go_roundg g
              case measure => omega
              case rel =>
                refine ⟨i + 1, by first | rfl | simp, by omega, fun j hj h => ?_, rfl⟩
                by_cases e : j = i
                · subst e; exact Or.inr HE.out
                · exact hall.out j hj (by omega)
            · have t1 : ¬ (s[i].toNat : Int) = 49 := fun e => e1 (UInt8.toNat_inj.1 (show s[i].toNat = 49 by omega))
              have HV := Lib.hid (has_bad (bad_of hi e0 e1) c)
              have q0 : ((s[i].toNat : Int) != 48) = true := by simpa using t0
              have q1 : ((s[i].toNat : Int) != 49) = true := by simpa using t1
              clear e0 e1 t0 t1
              go_wp2_with fail
              go_ret
              exact ⟨ret_bool HV.out.symm, rfl⟩
    · have hc2 : 255 < (c : Int) := by omega
      have HV := Lib.hid (has_far (s := s.data.toList) (i := c) (by omega))
      clear hs hc
      go_enter Tryz.func45, Tryz.ntmps45
      go_wp2_with fail
      go_ret
      exact ⟨ret_bool HV.out.symm, rfl⟩
  · have hz : (((s.size : Nat) : Int) != 256) = true := by simp; omega
    have hb : good s.data.toList = false := by unfold good; rw [← Lib.size_eq, decide_eq_false hs]; rfl
    have HV := Lib.hid (has_bad hb c)
    clear hs hb
    go_enter Tryz.func45, Tryz.ntmps45
    go_wp2_with fail
    go_ret
    exact ⟨ret_bool HV.out.symm, rfl⟩
set_option maxHeartbeats 1000000 in
theorem refUnion_any (a b : ByteArray) (w : World) : Calls Tryz.prog 27 #[.string a, .string b] w fun e w' => e = .returned (.string (tx fun i => has a.data.toList i || has b.data.toList i)) ∧ Below w.heap.size w w' := by
  have hmk := make_row
  go_enter Tryz.func27, Tryz.ntmps27
  go_wp2_with fail
  have HN := Lib.hid (new_bools w)
  generalize (w.alloc (.cells (rowV (bv fun _ => false)) 4)) = w1 at HN ⊢
  clear hmk
  go_loopg [6] 256 (fun g s6 wr => ∃ i : Nat, s6 = .int .i64 i ∧ i + g = 256 ∧ Hid (Row wr w.heap.size 4 (bv fun j => if j < i then has a.data.toList j || has b.data.toList j else false)) ∧ Hid (Below w.heap.size w wr))
  case atStart => exact ⟨0, rfl, rfl, HN.out.1.is fun j _ => bv_eq (by rw [if_neg (by omega)]), HN.out.2⟩
  case round =>
    obtain ⟨i, rfl, hig, hr, hb⟩ := hrel
    cases gk with
    | zero =>
      obtain rfl : i = 256 := by omega
      go_wp2_with fail
      refine (refMake_any hr.out).mono ?_
      rintro e w2 ⟨rfl, rfl⟩
      go_wp2_with fail
      go_ret
      exact ⟨congrArg (fun x => Ending.returned (.string x)) (tx_congr fun j hj => by first | rw [if_pos hj] | rw [decide_eq_true hj, Bool.true_and]), hb.out⟩
    | succ g =>
      have hi3 : (i : Int) < 256 := by omega
      have hcell := hr.out.cell (i := i) (by omega)
      have hfree := hr.out.free i
      generalize hold : bv (fun j => if j < i then has a.data.toList j || has b.data.toList j else false) i = old at hcell
      clear hold
      obtain ⟨W0, rfl⟩ : ∃ W0 : World, W0 = wr := ⟨_, rfl⟩
      go_wp2_with fail
      refine (refHas_any _ _ _).mono ?_
      rintro e w2 ⟨rfl, rfl⟩
      cases hA : has a.data.toList i with
      | true =>
        go_wp2_with fail
        go_roundg g
        case measure => omega
        case rel => exact ⟨i + 1, by first | rfl | simp, by omega, row_step hr.out (by rw [hA]; rfl), hb.out.setCell (Nat.le_refl _) _⟩
      | false =>
        go_wp2_with fail
        refine (refHas_any _ _ _).mono ?_
        rintro e w2 ⟨rfl, rfl⟩
        go_wp2_with fail
        go_roundg g
        case measure => omega
        case rel => exact ⟨i + 1, by first | rfl | simp, by omega, row_step hr.out (by rw [hA]; rfl), hb.out.setCell (Nat.le_refl _) _⟩
/-! what these answer of texts of truths -/
theorem has_tx (f : Nat → Bool) {i : Nat} (h : i < 256) : has (tx f).data.toList i = f i := has_text f h
end Go.Proofs.YtmbibaccpeldoaaGreatDoor.W13
/-
  append(own, records...) where the first is a row of the call's own: all blocks but that of the row that comes out lie as they lay. For every program; the conditions stand in the statements.
-/
namespace Go.Proofs.YtmbibaccpeldoaaGreatDoor.Recs
open Go Go.RowKit

/-- what an append leaves: all blocks but that of the row that comes out -/
theorem old_kept {P : Program} (w : World) (base : Nat) (t ty e : TypeId) (i : TypeInfo) (z : Value) (size bytes : Nat) (ht : P.underlying t = some (.slice e)) (hi : P.info? e = some i) (hz : i.zero = some z)
    (hsize : i.size = size) (hby : i.bytes = bytes) (hzs : z.cells.size = size) (hsz : 0 < size)
    (v : Value) (n : Nat) (xs : List Value) (hown : w.ownsRow base e size v n xs) (hbase : base ≤ w.heap.size)
    (a : Addr) (m c : Nat) (news : List Value) (hl : news.length = m * size) (hnews : ∀ j u, news[j]? = some u → w.cell? (a.add j) = some u) (h1 : ∀ u ∈ news, u.oneCell' = true)
    (h63 : n + m ≤ maxLen) (hbytes : (n + m) * bytes ≤ 140737488355328) {v' : Value} {w' : World} (hr : (Builtin.append_ #[t, t] ty #[v, .slice (some a) m c]).run P w = .ok v' w') :
    ∀ k, k < w.heap.size → v'.ownBlock ≠ some k → w'.heap[k]? = w.heap[k]? := by
  subst hsize
  subst hby
  intro k hk hne
  obtain ⟨v2, w2, hr2, -, hg2, -⟩ := run_append_own w base t ty e i z i.size i.bytes ht hi hz rfl rfl hzs hsz v n xs hown a m c news hl hnews h1 h63 hbytes hbase
  rw [hr] at hr2
  cases hr2
  obtain ⟨-, -, -, -, g5⟩ := hg2
  rcases hown.2 with ⟨rfl, rfl⟩ | ⟨g, cap, cur, rfl, hbg, hg, hnc, hcm, hcs, htake⟩
  · exact g5 k hk (by simp [Value.ownBlock])
  · by_cases hroom : n + m ≤ cap
    · have hfit : n * i.size + news.length ≤ cur.size := by rw [hl, hcs, ← Nat.add_mul]; exact Nat.mul_le_mul_right _ hroom
      rw [run_append_room w t ty e i ht hi g n cap cur hg a m c news hl hnews h1 hroom hfit] at hr
      cases hr
      exact g5 k hk (fun q => hne (by rw [q]; rfl))
    · have holds : ∀ j u, xs[j]? = some u → w.cell? ((⟨g, 0, none⟩ : Addr).add j) = some u := hown.cells (g := g) rfl
      have hsmall : n + m ≤ 9223372036854775807 := by simp only [maxLen] at h63; omega
      rw [run_append_grow w t ty e i z ht hi hz ⟨g, 0, none⟩ n cap xs hown.1 holds a m c news hl hnews (by omega) (by omega) (growslice_fits (by omega) hbytes)] at hr
      cases hr
      exact heap_alloc_old w _ hk
/-- what an append of records comes to -/
structure Put (v v' : Value) (w w' : World) : Prop where
  grown : w.grownBy w' v.ownBlock
  own : ∀ k, v'.ownBlock = some k → v.ownBlock = some k ∨ w.heap.size ≤ k
  kept : ∀ k, k < w.heap.size → v'.ownBlock ≠ some k → w'.heap[k]? = w.heap[k]?
theorem wp_append_put {α : Type} {enc : α → List Value} {P : Program} {w : World} {o : Oper} {a : Act} {K : Act → World → Prop} {Q : Exit → Act → World → Prop} (s x : Operand) (t : TypeId)
    (ho : o.op = .call { callee := .builtin .append, args := #[s, x], argTypes := #[t, t] })
    (base : Nat) (e : TypeId) (i : TypeInfo) (z : Value) (size bytes : Nat) (ht : P.underlying t = some (.slice e)) (hi : P.info? e = some i) (hz : i.zero = some z)
    (hsize : i.size = size) (hby : i.bytes = bytes) (hzs : z.cells.size = size) (hsz : 0 < size)
    (v : Value) (n : Nat) (xs : List Value) (hs : a.eval s = v) (hown : w.ownsRow base e size v n xs)
    (u : Value) (L : List α) (B : Nat) (hx : a.eval x = u) (hu : Recs enc size B w u L) (he : ∀ r : α, (enc r).length = size) (h1 : ∀ r : α, ∀ c ∈ enc r, c.oneCell' = true)
    (h63 : n + L.length ≤ maxLen) (hbytes : (n + L.length) * bytes ≤ 140737488355328) (hbase : base ≤ w.heap.size)
    (h : ∀ v' w', w'.ownsRow base e size v' (n + L.length) (xs ++ L.flatMap enc) → Put v v' w w' → K (a.put o.dst v') w') : o.wp P a w K Q := by
  obtain ⟨A, c, rfl, hc1, hc2⟩ := hu.form
  have hfl : (L.flatMap enc).length = L.length * size := flat_len he L
  have hone : ∀ u ∈ L.flatMap enc, u.oneCell' = true := fun q hq => by
    obtain ⟨r, _, hr⟩ := List.mem_flatMap.1 hq
    exact h1 r q hr
  cases A with
  | none =>
    have h0 : L.length = 0 := by
      rcases Nat.eq_zero_or_pos L.length with q | q
      · exact q
      · obtain ⟨b, o, hf, _⟩ := hu.news he hsz q
        cases hf
    have hL : L = [] := List.length_eq_zero_iff.1 h0
    subst hL
    have hrun := run_append_void (P := P) (w := w) base t o.type e i size ht hi v n c xs hown
    have hx' : a.eval x = .slice none 0 c := hx
    unfold Oper.wp
    simp [execOp, ho, resolve, invoke, builtin, hs, hx', hrun, Result.andThen]
    exact h v w (by simpa using hown) ⟨⟨rfl, rfl, rfl, Nat.le_refl _, fun _ _ _ => rfl⟩, fun k hk => Or.inl hk, fun _ _ _ => rfl⟩
  | some ad =>
    have hnews : ∀ j q, (L.flatMap enc)[j]? = some q → w.cell? (ad.add j) = some q := by
      intro j q hq
      rcases Nat.eq_zero_or_pos L.length with h0 | h0
      · have : L = [] := List.length_eq_zero_iff.1 h0
        subst this
        simp at hq
      · obtain ⟨b, o, hf, _, hcell⟩ := hu.news he hsz h0
        cases hf
        exact hcell j q hq
    obtain ⟨v', w', hr, h2, h3, -⟩ := run_append_own (P := P) w base t o.type e i z size bytes ht hi hz hsize hby hzs hsz v n xs hown ad L.length c (L.flatMap enc) hfl hnews hone h63 hbytes hbase
    have h4 := own_block_next w base t o.type e i z size bytes ht hi hz hsize hby hzs hsz v n xs hown ad L.length c (L.flatMap enc) hfl hnews hone h63 hbytes hr
    have h5 := old_kept w base t o.type e i z size bytes ht hi hz hsize hby hzs hsz v n xs hown hbase ad L.length c (L.flatMap enc) hfl hnews hone h63 hbytes hr
    have hx' : a.eval x = .slice (some ad) L.length c := hx
    unfold Oper.wp execOp
    simp only [ho, resolve, invoke, builtin, Sem.run_bind, Sem.run_pure, Result.andThen_ok, List.map_toArray, List.map_cons, List.map_nil, hs, hx', hr]
    exact h v' w' h2 ⟨h3, h4, h5⟩
theorem wpList_append_put {α : Type} {enc : α → List Value} {P : Program} {w : World} {ops : Array Oper} {rest : List Oper} {o : Oper} {a : Act} {Q : Exit → Act → World → Prop} (hgd : o.guard = none) (s x : Operand) (t : TypeId)
    (ho : o.op = .call { callee := .builtin .append, args := #[s, x], argTypes := #[t, t] })
    (base : Nat) (e : TypeId) (i : TypeInfo) (z : Value) (size bytes : Nat) (ht : P.underlying t = some (.slice e)) (hi : P.info? e = some i) (hz : i.zero = some z)
    (hsize : i.size = size) (hby : i.bytes = bytes) (hzs : z.cells.size = size) (hsz : 0 < size)
    (v : Value) (n : Nat) (xs : List Value) (hs : a.eval s = v) (hown : w.ownsRow base e size v n xs)
    (u : Value) (L : List α) (B : Nat) (hx : a.eval x = u) (hu : Recs enc size B w u L) (he : ∀ r : α, (enc r).length = size) (h1 : ∀ r : α, ∀ c ∈ enc r, c.oneCell' = true)
    (h63 : n + L.length ≤ maxLen) (hbytes : (n + L.length) * bytes ≤ 140737488355328) (hbase : base ≤ w.heap.size)
    (h : ∀ v' w', w'.ownsRow base e size v' (n + L.length) (xs ++ L.flatMap enc) → Put v v' w w' → wpList P ops Q rest (a.put o.dst v') w') : wpList P ops Q (o :: rest) a w :=
  wpList_plain hgd fun _ hK => wp_append_put s x t ho base e i z size bytes ht hi hz hsize hby hzs hsz v n xs hs hown u L B hx hu he h1 h63 hbytes hbase fun v' w' h2 h3 => hK _ _ (h v' w' h2 h3)
end Go.Proofs.YtmbibaccpeldoaaGreatDoor.Recs
