/-
  Texts joined, in build order, each with its own comment and its own conditions: W14Box, W14Together, W14RefBox, W14Real, W14NoAtom.
-/
import Derived.Test.YtenlogfiabhfmaaGreatDoorChecked
import Derived.Test.YtenlogfiabhfmaaGreatDoorJ05
import Derived.WalkKit
import Derived.KernelRfl
import Derived.Laws.Rows
import Derived.Laws.Tables
import Derived.Deep.WholeRow
import Derived.Great.BuildSlice
import Derived.BigQuiet
/-
  Layer 14 (pattern), steps of walks over pieces that lie in boxes: laid, loaded, stored, put into a slice, returned; the reader's box. The conditions stand in the statements.
-/
namespace Go.Proofs.YtenlogfiabhfmaaGreatDoor.W14
open Go Go.RowKit Go.Proofs.YtenlogfiabhfmaaGreatDoor.Strs Go.Proofs.YtenlogfiabhfmaaGreatDoor.Recs Go.Proofs.YtenlogfiabhfmaaGreatDoor.M14
open Go.Proofs.YtenlogfiabhfmaaGreatDoor.Row256 (Beside)

def zeroR : Raw := ⟨0, ⟨#[]⟩, none, 0, 0, 0, 0⟩
theorem piece_info : (Tryz.prog.info? 25).map (fun i => (i.zero, i.size, i.bytes)) = some (some (.agg #[.int .i64 0, .string ⟨#[]⟩, .slice none 0 0, .int .i64 0, .int .i64 0]), 5, 64) := by kernel_rfl
theorem piece_size (r : Raw) : (Tryz.prog.info? 25).map (·.size) = some (rawA r).size := by
  obtain ⟨i, hi, -, h2, -⟩ := info_parts piece_info
  rw [hi]; simp [rawA, h2]
theorem rawA_one (r : Raw) : (rawA r).all (·.oneCell') = true := by simp [rawA, Value.oneCell']
/-- block b is a piece's box, and may be written -/
def PBox (w : World) (b : Nat) (r : Raw) : Prop := w.heap[b]? = some (.cells (rawA r) 25 (0, 0))
theorem PBox.lt {w : World} {b : Nat} {r : Raw} (h : PBox w b r) : b < w.heap.size := (Array.getElem?_eq_some_iff.1 h).1
theorem PBox.below {w w' : World} {b : Nat} {r : Raw} (h : PBox w b r) (k : Below w.heap.size w w') : PBox w' b r := (k.block b h.lt).trans h
theorem PBox.beside {w w' : World} {b c : Nat} {r : Raw} (h : PBox w b r) (k : Beside c w w') (e : b ≠ c) : PBox w' b r := (k.block b h.lt e).trans h
theorem zero_piece (w : World) : (zeroValue 25).run Tryz.prog w = .ok (.agg (rawA zeroR)) w := by
  obtain ⟨i, hi, h1, -, -⟩ := info_parts piece_info
  simp [zeroValue, typeInfo, hi, h1]; rfl
section
variable {ops : Array Oper} {rest : List Oper} {o : Oper} {a : Act} {w : World} {Q : Exit → Act → World → Prop}
theorem below_new (w : World) (o : Obj) : Below w.heap.size w (w.alloc o) := (Below.refl w.heap.size w).alloc (Nat.le_refl _) o
/-- a piece's box is laid -/
theorem alloc_piece (hgd : o.guard = none) (ho : o.op = .alloc 25)
    (h : ∀ w' b, w.heap.size = b → PBox w' b zeroR → Below w.heap.size w w' → w'.heap.size = w.heap.size + 1 → wpList Tryz.prog ops Q rest (a.put o.dst (.pointer (some ⟨b, 0, none⟩))) w') : wpList Tryz.prog ops Q (o :: rest) a w :=
  wpList_plain hgd fun _ hK => by
    unfold Oper.wp execOp
    simp only [ho, Instr.alloc, newVar, newRow, zero_piece, Sem.run_bind, Sem.run_pure, Result.andThen_ok]
    exact hK _ _ (h _ _ rfl (heap_alloc_new w _) (below_new w _) (World.size_alloc w _))
theorem load_piece (hgd : o.guard = none) (x : Operand) (ho : o.op = .load 25 x) {b : Nat} (hx : a.eval x = .pointer (some ⟨b, 0, none⟩)) {r : Raw} (hr : PBox w b r) (h : wpList Tryz.prog ops Q rest (a.put o.dst (.agg (rawA r))) w) : wpList Tryz.prog ops Q (o :: rest) a w :=
  wpList_load_row hgd 25 x ho b hx 25 (rawA r) (0, 0) _ hr Tryz.underlying25 rfl (piece_size r) h
theorem store_piece (hgd : o.guard = none) (x y : Operand) (ho : o.op = .store 25 x y) {b : Nat} {r old : Raw} (hx : a.eval x = .pointer (some ⟨b, 0, none⟩)) (hy : a.eval y = .agg (rawA r)) (hr : PBox w b old)
    (h : ∀ w', PBox w' b r → Beside b w w' → w'.heap.size = w.heap.size → wpList Tryz.prog ops Q rest (a.put o.dst undef) w') : wpList Tryz.prog ops Q (o :: rest) a w :=
  wpList_store_row hgd 25 x y ho b (rawA r) hx hy 25 (rawA old) hr (piece_size r) rfl (rawA_one r)
    (h _ (setRow_heap w b _ _ _ _ hr) ⟨rfl, rfl, rfl, by rw [setRow_size]; exact Nat.le_refl _, fun k _ e => setRow_other w b k _ e⟩ (setRow_size _ _ _))
/-- a slice of one piece -/
theorem slice_piece (hgd : o.guard = none) (x : Operand) (ho : o.op = .buildSlice 23 1 #[(0, x)]) {r : Raw} (hx : a.eval x = .agg (rawA r))
    (h : ∀ w' b, w.heap.size = b → Raws w'.heap.size w' (.slice (some ⟨b, 0, none⟩) 1 1) [r] → Below w.heap.size w w' → w'.heap.size = w.heap.size + 1 → wpList Tryz.prog ops Q rest (a.put o.dst (.slice (some ⟨b, 0, none⟩) 1 1)) w') : wpList Tryz.prog ops Q (o :: rest) a w := by
  obtain ⟨i, hi, h1, h2, -⟩ := info_parts piece_info
  refine wpList_plain hgd fun _ hK => wp_buildSlice 23 25 1 _ ho (rawA r) i _ Tryz.underlying23 hi h1 (by rw [h2]; decide) (by rw [h2]; decide) ?_ (hK _ _ (h _ _ rfl ?_ (below_new w _) (World.size_alloc w _)))
  · rw [h2]
    simp only [List.map_toArray, List.map_cons, List.map_nil, hx]
    have hr : Array.range (1 * 5) = #[0, 1, 2, 3, 4] := by decide
    rw [hr]
    simp [Instr.fill, rawA, Value.cells]
  · refine ⟨_, _, rfl, Nat.le_refl _, by unfold maxLen; decide, fun _ => ⟨_, rfl, by rw [World.size_alloc]; exact Nat.lt_succ_self _, fun k hk j hj => ?_⟩⟩
    have hk0 : k = 0 := by simp at hk; omega
    subst hk0
    have := cells_new w (rawC r) 25 j
    rw [Nat.zero_mul, Nat.zero_add]
    have h5 : j < (rawC r).length := by rw [rawC_len]; exact hj
    exact (this _ (List.getElem?_eq_getElem h5)).trans (List.getElem?_eq_getElem h5).symm
end
theorem Build.own_lt {e : TypeId} {base : Nat} {w : World} {v : Value} {ks : List Piece} (h : Build e base w v ks) : ∀ g, v.ownBlock = some g → g < w.heap.size := by
  obtain ⟨raws, h1, -⟩ := h
  intro g hg
  exact (h1.lt g hg).2
/-- one more piece is put behind a list's last one -/
theorem append_piece {ops : Array Oper} {rest : List Oper} {o : Oper} {a : Act} {w : World} {Q : Exit → Act → World → Prop} (hgd : o.guard = none) (s x : Operand)
    (ho : o.op = .call { callee := .builtin .append, args := #[s, x], argTypes := #[23, 23] })
    {base lo : Nat} {v u : Value} {ks : List Piece} {r : Raw} {p : Piece} (hs : a.eval s = v) (hx : a.eval x = u) (hb : Build 25 base w v ks) (hn : ∀ g, v.ownBlock = some g → g < lo) (hlo : base ≤ lo) (hbase : base ≤ w.heap.size)
    (hu : Raws w.heap.size w u [r]) (hp : PAt (In lo w.heap.size) w r p) (hl : ks.length ≤ 1000000)
    (h : ∀ v' w', Build 25 base w' v' (ks ++ [p]) → w.grownBy w' v.ownBlock → wpList Tryz.prog ops Q rest (a.put o.dst v') w') : wpList Tryz.prog ops Q (o :: rest) a w := by
  obtain ⟨i, hi, h1, h2, h3⟩ := info_parts piece_info
  obtain ⟨raws, hown, hall⟩ := hb
  have hl2 : raws.length ≤ 1000000 := by rw [hall.1]; exact hl
  refine wpList_append_recs hgd s x 23 ho base 25 i _ 5 64 Tryz.underlying23 hi h1 h2 h3 rfl (by decide) v raws.length (raws.flatMap rawC) hs hown u [r] w.heap.size hx hu rawC_len rawC_one
    (by simp only [List.length_cons, List.length_nil]; unfold maxLen; omega) (by simp only [List.length_cons, List.length_nil]; omega) hbase fun v' w' e1 e2 e3 => h v' w' (Build.more hall hn hlo hp e1 e2 e3) e2
/-- what was there is there: an append changes the list's own block, if any -/
theorem grown_below {e : TypeId} {base : Nat} {w w' : World} {v : Value} {ks : List Piece} (hb : Build e base w v ks) (hg : w.grownBy w' v.ownBlock) : ∀ k, k < base → k < w.heap.size → w'.heap[k]? = w.heap[k]? := by
  obtain ⟨g1, g2, g3, g4, g5⟩ := hg
  obtain ⟨raws, h1, -⟩ := hb
  intro k hk hk2
  refine g5 k hk2 fun q => ?_
  have := (h1.lt k q.symm).1
  omega

/-! the reader -/
/-- block b is the reader's box: its text, its place, how deep it is -/
def Reader (w : World) (b : Nat) (s : ByteArray) (at_ deep : Nat) : Prop := w.heap[b]? = some (.cells #[.string s, .int .i64 at_, .int .i64 deep] 36 (0, 0))
section
variable {w w' : World} {b : Nat} {s : ByteArray} {at_ deep : Nat}
theorem Reader.lt (h : Reader w b s at_ deep) : b < w.heap.size := (Array.getElem?_eq_some_iff.1 h).1
theorem Reader.below (h : Reader w b s at_ deep) (k : Below w.heap.size w w') : Reader w' b s at_ deep := (k.block b h.lt).trans h
theorem Reader.beside {c : Nat} (h : Reader w b s at_ deep) (k : Beside c w w') (e : b ≠ c) : Reader w' b s at_ deep := (k.block b h.lt e).trans h
theorem Reader.c0 (h : Reader w b s at_ deep) : w.cell? ⟨b, 0, none⟩ = some (.string s) := cell_of_row w b 0 _ _ _ h
theorem Reader.c1 (h : Reader w b s at_ deep) : w.cell? ⟨b, 1, none⟩ = some (.int .i64 at_) := cell_of_row w b 1 _ _ _ h
theorem Reader.c2 (h : Reader w b s at_ deep) : w.cell? ⟨b, 2, none⟩ = some (.int .i64 deep) := cell_of_row w b 2 _ _ _ h
theorem Reader.free (h : Reader w b s at_ deep) (i : Nat) : w.frozen? ⟨b, i, none⟩ = false := frozen_of_row w b i _ _ h
theorem Reader.put1 (h : Reader w b s at_ deep) (n : Nat) : Reader (w.setCell ⟨b, 1, none⟩ (.int .i64 n)) b s n deep := by
  unfold Reader at *
  rw [heap_setCell_same w b 1 _ _ _ h]; rfl
theorem Reader.put2 (h : Reader w b s at_ deep) (n : Nat) : Reader (w.setCell ⟨b, 2, none⟩ (.int .i64 n)) b s at_ n := by
  unfold Reader at *
  rw [heap_setCell_same w b 2 _ _ _ h]; rfl
end
theorem beside_put (w : World) (b i : Nat) (v : Value) : Beside b w (w.setCell ⟨b, i, none⟩ v) := (Beside.refl b w).put i v
/-- a box newer than all is not told of -/
theorem beside_fresh {b c : Nat} {w0 w w' : World} (h : Beside b w0 w) (k : Beside c w w') (hc : w0.heap.size ≤ c) : Beside b w0 w' :=
  ⟨k.os.trans h.os, k.tape.trans h.tape, k.output.trans h.output, Nat.le_trans h.size k.size, fun i hi e => (k.block i (Nat.lt_of_lt_of_le hi h.size) (by omega)).trans (h.block i hi e)⟩
theorem beside_onto {b : Nat} {w0 w w' : World} (h : Beside b w0 w) (k : Below w.heap.size w w') : Beside b w0 w' := h.trans (.of k)
/-- a function ends whose first result is a piece in a box, with one more -/
theorem end_piece2 {fn : Func} {R : Ending → World → Prop} {a : Act} {w : World} {p u : Tmp} {b : Nat} {r : Raw} (hf : fn.results = #[.cell p 25, .tmp u]) (hp : a.tmps.getD p undef = .pointer (some ⟨b, 0, none⟩)) (hr : PBox w b r) (hd : a.defers = [])
    (hR : R (.returned (.tuple #[.agg (rawA r), a.tmps.getD u undef])) w) : bodyPost Tryz.prog fn R .ret a w := by
  refine bodyPost_ret ?_ hd hR
  have hp' : a.tmps[p]?.getD undef = .pointer (some ⟨b, 0, none⟩) := by simpa using hp
  have hl := run_loadVar_row w b 25 25 (rawA r) (0, 0) _ hr Tryz.underlying25 rfl (piece_size r)
  simp [results, hf, hp', asAddr, Result.andThen, hl]
theorem end_piece3 {fn : Func} {R : Ending → World → Prop} {a : Act} {w : World} {p u v : Tmp} {b : Nat} {r : Raw} (hf : fn.results = #[.cell p 25, .tmp u, .tmp v]) (hp : a.tmps.getD p undef = .pointer (some ⟨b, 0, none⟩)) (hr : PBox w b r) (hd : a.defers = [])
    (hR : R (.returned (.tuple #[.agg (rawA r), a.tmps.getD u undef, a.tmps.getD v undef])) w) : bodyPost Tryz.prog fn R .ret a w := by
  refine bodyPost_ret ?_ hd hR
  have hp' : a.tmps[p]?.getD undef = .pointer (some ⟨b, 0, none⟩) := by simpa using hp
  have hl := run_loadVar_row w b 25 25 (rawA r) (0, 0) _ hr Tryz.underlying25 rfl (piece_size r)
  simp [results, hf, hp', asAddr, Result.andThen, hl]
theorem end_piece1 {fn : Func} {R : Ending → World → Prop} {a : Act} {w : World} {p : Tmp} {b : Nat} {r : Raw} (hf : fn.results = #[.cell p 25]) (hp : a.tmps.getD p undef = .pointer (some ⟨b, 0, none⟩)) (hr : PBox w b r) (hd : a.defers = [])
    (hR : R (.returned (.agg (rawA r))) w) : bodyPost Tryz.prog fn R .ret a w :=
  bodyPost_ret (results_cell_row hf a.tmps w b 25 (rawA r) (0, 0) _ hp hr Tryz.underlying25 rfl (piece_size r)) hd hR
end Go.Proofs.YtenlogfiabhfmaaGreatDoor.W14
/-
  Layer 14 (pattern), walks of the program's functions: what pieces are together; whether no atom begins at a place. The conditions stand in the statements.
-/
namespace Go.Proofs.YtenlogfiabhfmaaGreatDoor.W14
set_option maxRecDepth 100000
open Go Go.RowKit Go.Proofs.YtenlogfiabhfmaaGreatDoor.Strs Go.Proofs.YtenlogfiabhfmaaGreatDoor.Recs Go.Proofs.YtenlogfiabhfmaaGreatDoor.M14
open Go.Proofs.YtenlogfiabhfmaaGreatDoor.Row256 (Beside)
open Go.Proofs.YtenlogfiabhfmaaGreatDoor.Kit (ret_str ret_bool ret_int mk_of mk_bytes ba_ext below_draws on)

/-- a piece is loaded out of a slice -/
theorem load_at {ops : Array Oper} {rest : List Oper} {o : Oper} {a : Act} {w : World} {Q : Exit → Act → World → Prop} (hgd : o.guard = none) (x : Operand) (ho : o.op = .load 25 x) {b k : Nat} (hx : a.eval x = .pointer (some ⟨b, k, none⟩)) {r : Raw}
    (hr : ∀ j, j < 5 → w.cell? ⟨b, k + j, none⟩ = (rawC r)[j]?) (h : wpList Tryz.prog ops Q rest (a.put o.dst (.agg (rawA r))) w) : wpList Tryz.prog ops Q (o :: rest) a w :=
  wpList_plain hgd fun _ hK => by
    have hl : (loadCells ⟨b, k, none⟩ (rawC r).length).run Tryz.prog w = .ok (rawC r).toArray w := run_loadCells_list (P := Tryz.prog) w ⟨b, k, none⟩ (rawC r) fun j v hv => by
      have hadd : (⟨b, k, none⟩ : Addr).add j = ⟨b, k + j, none⟩ := by unfold Addr.add; split <;> simp_all
      have hj : j < 5 := by
        rcases Nat.lt_or_ge j (rawC r).length with q | q
        · rw [rawC_len] at q; exact q
        · rw [List.getElem?_eq_none q] at hv; cases hv
      rw [hadd, hr j hj]; exact hv
    obtain ⟨i, hi, -, h2, -⟩ := info_parts piece_info
    have hagg : (isAgg 25).run Tryz.prog w = .ok true w := by
      unfold isAgg
      rw [Sem.run_bind, run_underlying Tryz.underlying25 w]
      rfl
    rw [rawC_len] at hl
    unfold Oper.wp execOp
    simp only [ho, hx, Instr.loadAt, Instr.sureAddr, loadVar, sizeOf, typeInfo, Sem.run_bind, Sem.run_pure, Result.andThen_ok, hagg]
    simp [hi, h2, hl, Sem.run_bind, Result.andThen]
    exact hK _ _ h
/-- what pieces are together -/
def Laid (base : Nat) (w : World) (p : Piece) (e : Ending) (w' : World) : Prop := ∃ r, e = .returned (.agg (rawA r)) ∧ PAt (In base w'.heap.size) w' r p ∧ Below w.heap.size w w'
theorem own_form {base : Nat} {e : TypeId} {size n : Nat} {v : Value} {xs : List Value} {w : World} (h : w.ownsRow base e size v n xs) (hn : 0 < n) : ∃ g c, v = .slice (some ⟨g, 0, none⟩) n c ∧ base ≤ g ∧ g < w.heap.size ∧ n ≤ c ∧ c ≤ maxLen := by
  rcases h.2 with ⟨rfl, h0⟩ | ⟨g, cap, cur, rfl, hb, hh, hc, hm, -⟩
  · omega
  · exact ⟨g, cap, rfl, hb, (Array.getElem?_eq_some_iff.1 hh).1, hc, hm⟩
set_option maxHeartbeats 1000000 in
theorem together_0 {base : Nat} {w : World} {v : Value} (kind : Int) (h : Build 25 base w v []) : Calls Tryz.prog 19 #[.int .i64 kind, v] w (Laid base w (together kind [])) := by
  obtain ⟨A, c, rfl, h1, h2⟩ := h.len
  unfold maxLen at h2
  go_enter Tryz.func19, Tryz.ntmps19
  go_wp2_with (first
    | (refine alloc_piece rfl rfl ?_; intro w1 b1 e1 p1 l1 z1)
    | (refine store_piece (r := ⟨1, ⟨#[]⟩, none, 0, 0, 0, 0⟩) rfl _ _ rfl rfl rfl p1 ?_; intro w2 p2 l2 z2))
  refine end_piece1 rfl rfl p2 rfl ⟨_, rfl, PAt.leaf _ _ 1 _, l1.trans (l2.below l1.size (by omega))⟩
set_option maxHeartbeats 1000000 in
theorem together_1 {base : Nat} {w : World} {v : Value} {p : Piece} (kind : Int) (h : Build 25 base w v [p]) : Calls Tryz.prog 19 #[.int .i64 kind, v] w (Laid base w (together kind [p])) := by
  obtain ⟨raws, hown, hall⟩ := h
  obtain ⟨r, rfl⟩ : ∃ r, raws = [r] := List.length_eq_one_iff.1 hall.1
  have hp := hall.2 0 (by simp) (by simp)
  simp only [List.getElem_cons_zero] at hp
  have hR := Recs.of_own rawC_len rfl hown
  obtain ⟨g, c, rfl, hg, hgw, h1, h2⟩ := own_form hown (by simp)
  unfold maxLen at h2
  obtain ⟨b, o, hl, hbo, -, hc⟩ := hR.flat_ rawC_len (by decide) (k := 0) (by simp)
  cases hbo
  simp only [List.getElem_cons_zero, Nat.zero_mul, Nat.add_zero] at hc
  have HC := Lib.hid hc
  have HP := Lib.hid hp
  simp only [List.length_cons, List.length_nil, Nat.zero_add] at h1 ⊢
  clear hc hp hR hall hown
  go_enter Tryz.func19, Tryz.ntmps19
  go_wp2_with (first
    | (refine alloc_piece rfl rfl ?_; intro w1 b1 e1 p1 l1 z1)
    | (refine load_at rfl _ rfl rfl (r := r) (fun j hj => (cell_block (l1.block _ hgw)).trans (HC.out j hj)) ?_)
    | (refine store_piece rfl _ _ rfl rfl rfl p1 ?_; intro w2 p2 l2 z2))
  have hb := l1.trans (l2.below l1.size (by omega))
  refine end_piece1 rfl rfl p2 rfl ⟨_, rfl, HP.out.keep (fun _ q => ⟨q.1.1, Nat.lt_of_lt_of_le q.1.2 hb.size⟩) (fun _ q => cell_block (hb.block _ q.1.2)), hb⟩
set_option maxHeartbeats 1000000 in
theorem together_2 {base : Nat} {w : World} {v : Value} {p q : Piece} {ks : List Piece} (kind : Int) (hks : ks.length ≤ 1000000) (h : Build 25 base w v (p :: q :: ks)) : Calls Tryz.prog 19 #[.int .i64 kind, v] w (Laid base w (together kind (p :: q :: ks))) := by
  obtain ⟨raws, hown, hall⟩ := h
  have hlen : raws.length = ks.length + 2 := hall.1
  have hR := Recs.of_own rawC_len rfl hown
  obtain ⟨g, c, rfl, hg, hgw, h1, h2⟩ := own_form hown (by omega)
  have HA := Lib.hid hall
  have HR := Lib.hid hR
  unfold maxLen at h2
  rw [hlen] at h1 HR ⊢
  clear hR hall hown
  have t0 : (((ks.length + 2 : Nat) : Int) == 0) = false := by simpa using (by omega : ¬ (((ks.length + 2 : Nat) : Int) = 0))
  have t1 : (((ks.length + 2 : Nat) : Int) == 1) = false := by simpa using (by omega : ¬ (((ks.length + 2 : Nat) : Int) = 1))
  generalize hn : ks.length + 2 = n at *
  have HN := Lib.hid hn
  clear hn
  go_enter Tryz.func19, Tryz.ntmps19
  go_wp2_with (first
    | (refine alloc_piece rfl rfl ?_; intro w1 b1 e1 p1 l1 z1)
    | (refine store_piece (r := ⟨kind, ⟨#[]⟩, some ⟨g, 0, none⟩, n, c, 0, 0⟩) rfl _ _ rfl rfl rfl p1 ?_; intro w2 p2 l2 z2))
  have hb := l1.trans (l2.below l1.size (by omega))
  refine end_piece1 rfl rfl p2 rfl ⟨_, rfl, .mk _ _ _ _ _ _ _ raws _ _ (HR.out.below hb) ?_ HA.out.1 ?_, hb⟩
  · intro ad e _
    cases e
    exact ⟨hg, Nat.lt_of_lt_of_le hgw hb.size⟩
  · intro i h1 h2
    exact (HA.out.2 i h1 h2).keep (fun _ q => ⟨q.1.1, Nat.lt_of_lt_of_le q.1.2 hb.size⟩) (fun _ q => cell_block (hb.block _ q.1.2))
theorem together_any {base : Nat} {w : World} {v : Value} {ks : List Piece} (kind : Int) (hks : ks.length ≤ 1000000) (h : Build 25 base w v ks) : Calls Tryz.prog 19 #[.int .i64 kind, v] w (Laid base w (together kind ks)) := by
  match ks, h with
  | [], h => exact together_0 kind h
  | [p], h => exact together_1 kind h
  | p :: q :: l, h => exact together_2 kind (by simp only [List.length_cons] at hks; omega) h
end Go.Proofs.YtenlogfiabhfmaaGreatDoor.W14
/-
  Layer 14 (pattern), steps of walks over what the document's own answers read (a piece, a place, an error and its place), in boxes. The conditions stand in the statements.
-/
namespace Go.Proofs.YtenlogfiabhfmaaGreatDoor.W14
set_option maxRecDepth 100000
open Go Go.RowKit Go.Proofs.YtenlogfiabhfmaaGreatDoor.Strs Go.Proofs.YtenlogfiabhfmaaGreatDoor.Recs Go.Proofs.YtenlogfiabhfmaaGreatDoor.M14
open Go.Proofs.YtenlogfiabhfmaaGreatDoor.Row256 (Beside)
open Go.Proofs.YtenlogfiabhfmaaGreatDoor.Kit (below_draws on)

def gotA (r : Raw) (to e bad : Int) : Array Value := #[.int .i64 r.kind, .string r.text, .slice r.ad r.len r.cap, .int .i64 r.least, .int .i64 r.top, .int .i64 to, .int .i64 e, .int .i64 bad]
theorem got_info : (Tryz.prog.info? 40).map (fun i => (i.zero, i.size, i.bytes)) = some (some (.agg #[.int .i64 0, .string ⟨#[]⟩, .slice none 0 0, .int .i64 0, .int .i64 0, .int .i64 0, .int .i64 0, .int .i64 0]), 8, 88) := by kernel_rfl
theorem got_size (r : Raw) (to e bad : Int) : (Tryz.prog.info? 40).map (·.size) = some (gotA r to e bad).size := by
  obtain ⟨i, hi, -, h2, -⟩ := info_parts got_info
  rw [hi]; simp [gotA, h2]
theorem gotA_one (r : Raw) (to e bad : Int) : (gotA r to e bad).all (·.oneCell') = true := by simp [gotA, Value.oneCell']
def GBox (w : World) (b : Nat) (r : Raw) (to e bad : Int) : Prop := w.heap[b]? = some (.cells (gotA r to e bad) 40 (0, 0))
section
variable {w w' : World} {b : Nat} {r : Raw} {to e bad : Int}
theorem GBox.lt (h : GBox w b r to e bad) : b < w.heap.size := (Array.getElem?_eq_some_iff.1 h).1
theorem GBox.below (h : GBox w b r to e bad) (k : Below w.heap.size w w') : GBox w' b r to e bad := (k.block b h.lt).trans h
theorem GBox.beside {c : Nat} (h : GBox w b r to e bad) (k : Beside c w w') (q : b ≠ c) : GBox w' b r to e bad := (k.block b h.lt q).trans h
theorem GBox.c5 (h : GBox w b r to e bad) : w.cell? ⟨b, 5, none⟩ = some (.int .i64 to) := cell_of_row w b 5 _ _ _ h
theorem GBox.c6 (h : GBox w b r to e bad) : w.cell? ⟨b, 6, none⟩ = some (.int .i64 e) := cell_of_row w b 6 _ _ _ h
theorem GBox.c7 (h : GBox w b r to e bad) : w.cell? ⟨b, 7, none⟩ = some (.int .i64 bad) := cell_of_row w b 7 _ _ _ h
theorem GBox.free (h : GBox w b r to e bad) (i : Nat) : w.frozen? ⟨b, i, none⟩ = false := frozen_of_row w b i _ _ h
theorem GBox.put (h : GBox w b r to e bad) (n : Int) : GBox (w.setCell ⟨b, 5, none⟩ (.int .i64 n)) b r n e bad := by
  unfold GBox at *
  rw [heap_setCell_same w b 5 _ _ _ h]; rfl
theorem GBox.raw (h : GBox w b r to e bad) (j : Nat) (hj : j < 5) : w.cell? ⟨b, 0 + j, none⟩ = (rawC r)[j]? := by
  rw [Nat.zero_add, cell_of_row w b j _ _ _ h]
  match j, hj with
  | 0, _ => rfl
  | 1, _ => rfl
  | 2, _ => rfl
  | 3, _ => rfl
  | 4, _ => rfl
end
theorem zero_got (w : World) : (zeroValue 40).run Tryz.prog w = .ok (.agg (gotA zeroR 0 0 0)) w := by
  obtain ⟨i, hi, h1, -, -⟩ := info_parts got_info
  simp [zeroValue, typeInfo, hi, h1]; rfl
theorem built_got (k : Int) (t : ByteArray) (A : Option Addr) (n c : Nat) (l tp to : Int) (w : World) : (Instr.build 40 #[(0, .agg #[.int .i64 k, .string t, .slice A n c, .int .i64 l, .int .i64 tp]), (1, .int .i64 to)]).run Tryz.prog w = .ok (.agg #[.int .i64 k, .string t, .slice A n c, .int .i64 l, .int .i64 tp, .int .i64 to, .int .i64 0, .int .i64 0]) w := by kernel_rfl
theorem built_bad (e bad : Int) (w : World) : (Instr.build 40 #[(2, .int .i64 e), (3, .int .i64 bad)]).run Tryz.prog w = .ok (.agg (gotA zeroR 0 e bad)) w := by kernel_rfl
section
variable {ops : Array Oper} {rest : List Oper} {o : Oper} {a : Act} {w : World} {Q : Exit → Act → World → Prop}
theorem alloc_got (hgd : o.guard = none) (ho : o.op = .alloc 40)
    (h : ∀ w' b, w.heap.size = b → GBox w' b zeroR 0 0 0 → Below w.heap.size w w' → w'.heap.size = w.heap.size + 1 → wpList Tryz.prog ops Q rest (a.put o.dst (.pointer (some ⟨b, 0, none⟩))) w') : wpList Tryz.prog ops Q (o :: rest) a w :=
  wpList_plain hgd fun _ hK => by
    unfold Oper.wp execOp
    simp only [ho, Instr.alloc, newVar, newRow, zero_got, Sem.run_bind, Sem.run_pure, Result.andThen_ok]
    exact hK _ _ (h _ _ rfl (heap_alloc_new w _) (below_new w _) (World.size_alloc w _))
theorem load_got (hgd : o.guard = none) (x : Operand) (ho : o.op = .load 40 x) {b : Nat} (hx : a.eval x = .pointer (some ⟨b, 0, none⟩)) {r : Raw} {to e bad : Int} (hr : GBox w b r to e bad) (h : wpList Tryz.prog ops Q rest (a.put o.dst (.agg (gotA r to e bad))) w) : wpList Tryz.prog ops Q (o :: rest) a w :=
  wpList_load_row hgd 40 x ho b hx 40 (gotA r to e bad) (0, 0) _ hr Tryz.underlying40 rfl (got_size r to e bad) h
theorem store_got (hgd : o.guard = none) (x y : Operand) (ho : o.op = .store 40 x y) {b : Nat} {r old : Raw} {to e bad to' e' bad' : Int} (hx : a.eval x = .pointer (some ⟨b, 0, none⟩)) (hy : a.eval y = .agg (gotA r to e bad)) (hr : GBox w b old to' e' bad')
    (h : ∀ w', GBox w' b r to e bad → Beside b w w' → w'.heap.size = w.heap.size → wpList Tryz.prog ops Q rest (a.put o.dst undef) w') : wpList Tryz.prog ops Q (o :: rest) a w :=
  wpList_store_row hgd 40 x y ho b (gotA r to e bad) hx hy 40 (gotA old to' e' bad') hr (got_size r to e bad) rfl (gotA_one r to e bad)
    (h _ (setRow_heap w b _ _ _ _ hr) ⟨rfl, rfl, rfl, by rw [setRow_size]; exact Nat.le_refl _, fun k _ e => setRow_other w b k _ e⟩ (setRow_size _ _ _))
/-- a piece and a place are put together -/
theorem build_got (hgd : o.guard = none) (x y : Operand) (ho : o.op = .build 40 #[(0, x), (1, y)]) {r : Raw} {to : Int} (hx : a.eval x = .agg (rawA r)) (hy : a.eval y = .int .i64 to) (h : wpList Tryz.prog ops Q rest (a.put o.dst (.agg (gotA r to 0 0))) w) : wpList Tryz.prog ops Q (o :: rest) a w :=
  wpList_plain hgd fun _ hK => by
    have := built_got r.kind r.text r.ad r.len r.cap r.least r.top to w
    unfold Oper.wp execOp
    simp only [ho, List.map_toArray, List.map_cons, List.map_nil, hx, hy, Sem.run_bind, rawA, this, Sem.run_pure, Result.andThen_ok]
    exact hK _ _ h
theorem build_bad (hgd : o.guard = none) (x y : Operand) (ho : o.op = .build 40 #[(2, x), (3, y)]) {e bad : Int} (hx : a.eval x = .int .i64 e) (hy : a.eval y = .int .i64 bad) (h : wpList Tryz.prog ops Q rest (a.put o.dst (.agg (gotA zeroR 0 e bad))) w) : wpList Tryz.prog ops Q (o :: rest) a w :=
  wpList_plain hgd fun _ hK => by
    unfold Oper.wp execOp
    simp only [ho, List.map_toArray, List.map_cons, List.map_nil, hx, hy, Sem.run_bind, built_bad, Sem.run_pure, Result.andThen_ok]
    exact hK _ _ h
end
/-- what the document's own answers read -/
def Gots (w : World) (g : Got) (e : Ending) (w' : World) : Prop :=
  Below w.heap.size w w' ∧ match g with
  | .ok p to => ∃ r, e = .returned (.agg (gotA r to 0 0)) ∧ PAt (In w.heap.size w'.heap.size) w' r p
  | .bad b er => er ≠ 0 ∧ ∃ t, e = .returned (.agg (gotA zeroR t er b))
theorem end_got {fn : Func} {R : Ending → World → Prop} {a : Act} {w : World} {p : Tmp} {b : Nat} {r : Raw} {to er bad : Int} (hf : fn.results = #[.cell p 40]) (hp : a.tmps.getD p undef = .pointer (some ⟨b, 0, none⟩)) (hr : GBox w b r to er bad) (hd : a.defers = [])
    (hR : R (.returned (.agg (gotA r to er bad))) w) : bodyPost Tryz.prog fn R .ret a w :=
  bodyPost_ret (results_cell_row hf a.tmps w b 40 (gotA r to er bad) (0, 0) _ hp hr Tryz.underlying40 rfl (got_size r to er bad)) hd hR
theorem refBad_any (b : Nat) (er : Int) (he : er ≠ 0) (w : World) : Calls Tryz.prog 39 #[.int .i64 b, .int .i64 er] w (Gots w (.bad b er)) := by
  have HE := Lib.hid he
  clear he
  go_enter Tryz.func39, Tryz.ntmps39
  go_wp2_with (first
    | (refine alloc_got rfl rfl ?_; intro w1 b1 e1 p1 l1 z1)
    | (refine build_bad rfl (.tmp 5) (.tmp 6) rfl rfl rfl ?_)
    | (refine store_got (r := zeroR) rfl (.tmp 4) (.tmp 7) rfl rfl rfl p1 ?_; intro w2 p2 l2 z2))
  exact end_got rfl rfl p2 rfl ⟨l1.trans (l2.below l1.size (by omega)), HE.out, 0, rfl⟩
theorem refLeaf_any (k : Int) (t : ByteArray) (to : Nat) (w : World) : Calls Tryz.prog 27 #[.int .i64 k, .string t, .int .i64 to] w (Gots w (.ok (M14.leaf k t) to)) := by
  go_enter Tryz.func27, Tryz.ntmps27
  go_wp2_with (first
    | (refine alloc_got rfl rfl ?_; intro w1 b1 e1 p1 l1 z1)
    | (refine build_got (r := ⟨k, t, none, 0, 0, 0, 0⟩) rfl (.tmp 9) (.tmp 10) rfl rfl rfl ?_)
    | (refine store_got (r := ⟨k, t, none, 0, 0, 0, 0⟩) rfl (.tmp 6) (.tmp 11) rfl rfl rfl p1 ?_; intro w2 p2 l2 z2))
  exact end_got rfl rfl p2 rfl ⟨l1.trans (l2.below l1.size (by omega)), _, rfl, PAt.leaf _ _ k t⟩
end Go.Proofs.YtenlogfiabhfmaaGreatDoor.W14
/-
  Layer 14 (pattern), mathematics of the program's way to read braces: cut at the first closing one and at the first comma, it comes to the same as digit by digit. No condition but those that each theorem bears.
-/
namespace Go.Proofs.YtenlogfiabhfmaaGreatDoor.M14
open Go

def isNum (t : List UInt8) : Bool := decide (t ≠ []) && (decide (t.length ≤ 3) && t.all dig)
theorem number_yes {t : List UInt8} (h : isNum t = true) : number t = some (val t) := by
  unfold isNum at h
  simp only [Bool.and_eq_true, decide_eq_true_eq] at h
  unfold number
  rw [if_pos h]
theorem number_no {t : List UInt8} (h : isNum t = false) : number t = none := by
  unfold number
  rw [if_neg]
  rintro ⟨a, b, c⟩
  unfold isNum at h
  rw [decide_eq_true a, decide_eq_true b, c] at h
  simp at h
theorem not_num {t u : List UInt8} {c : UInt8} (h : dig c = false) : isNum (t ++ c :: u) = false := by
  unfold isNum
  rw [List.all_append, List.all_cons, h]
  simp
/-- what stands ahead of the first c, behind it, and is there one -/
def before (c : UInt8) (l : List UInt8) : List UInt8 := l.takeWhile (fun x => decide (x ≠ c))
def behind (c : UInt8) (l : List UInt8) : List UInt8 := (l.dropWhile (fun x => decide (x ≠ c))).drop 1
theorem before_clean {c : UInt8} {t : List UInt8} (h : ¬ c ∈ t) (r : List UInt8) : before c (t ++ r) = t ++ before c r := by
  unfold before
  rw [List.takeWhile_append_of_pos]
  intro x hx
  exact decide_eq_true fun e => h (e ▸ hx)
theorem behind_clean {c : UInt8} {t : List UInt8} (h : ¬ c ∈ t) (r : List UInt8) : behind c (t ++ r) = behind c r := by
  unfold behind
  rw [List.dropWhile_append_of_pos]
  intro x hx
  exact decide_eq_true fun e => h (e ▸ hx)
theorem before_here (c : UInt8) (r : List UInt8) : before c (c :: r) = [] := by unfold before; simp
theorem behind_here (c : UInt8) (r : List UInt8) : behind c (c :: r) = r := by unfold behind; simp
theorem before_skip {c d : UInt8} (h : ¬ d = c) (r : List UInt8) : before c (d :: r) = d :: before c r := by unfold before; simp [h]
theorem before_nil (c : UInt8) : before c [] = [] := rfl
theorem before_all {c : UInt8} {t : List UInt8} (h : ¬ c ∈ t) : before c t = t := by
  have := before_clean h []
  simpa [before_nil] using this
def mayB (m t : Int) : Bool := decide (m ≥ 0) && decide (m ≤ 100) && (decide (t = -1) || decide (t ≥ m) && decide (t ≤ 100))
theorem range_may {m t : Int} (hm : 0 ≤ m) (ht : -1 ≤ t) (n : Nat) : range m t n = if mayB m t then (0, m, t, n) else (4, 0, 0, 0) := by
  unfold range
  by_cases h : m > 100 ∨ t > 100 ∨ (0 ≤ t ∧ m > t)
  · rw [if_pos h, if_neg]
    unfold mayB
    simp only [Bool.and_eq_true, Bool.or_eq_true, decide_eq_true_eq]
    omega
  · rw [if_neg h, if_pos]
    unfold mayB
    simp only [Bool.and_eq_true, Bool.or_eq_true, decide_eq_true_eq]
    omega
/-- the parts of what stands behind a {: ahead of the comma, behind it (or the same), and is the second one left out -/
def firstB (l : List UInt8) : List UInt8 := before 44 (before 125 l)
def openB (l : List UInt8) : Bool := decide (44 ∈ before 125 l) && decide (behind 44 (before 125 l) = [])
def secondB (l : List UInt8) : List UInt8 := if 44 ∈ before 125 l then behind 44 (before 125 l) else firstB l
def formB (l : List UInt8) : Bool := decide (125 ∈ l) && (isNum (firstB l) && (openB l || isNum (secondB l)))
def topB (l : List UInt8) : Int := if openB l then -1 else val (secondB l)
theorem dig_not {c : UInt8} (h : dig c = true) : ¬ c = 125 ∧ ¬ c = 44 := by
  constructor <;> (rintro rfl; revert h; decide)
theorem take_dig {l : List UInt8} : ∀ x, x ∈ l.takeWhile dig → dig x = true := fun x hx => List.all_eq_true.1 (List.all_takeWhile (p := dig) (l := l)) x hx
theorem head_drop {l r : List UInt8} {c : UInt8} (h : l.dropWhile dig = c :: r) : dig c = false := by
  have := List.head?_dropWhile_not dig l
  rw [h] at this
  simpa using this
theorem braces_bad {l : List UInt8} (h : formB l = false) : braces l = no3 := by
  have hl : l = l.takeWhile dig ++ l.dropWhile dig := List.takeWhile_append_dropWhile.symm
  have hd := take_dig (l := l)
  unfold braces
  generalize l.takeWhile dig = t at *
  cases hr : l.dropWhile dig with
  | nil => cases number t <;> rfl
  | cons c r =>
    have hc := head_drop hr
    rw [hr] at hl
    clear hr
    have n125 : ¬ (125 : UInt8) ∈ t := fun q => (dig_not (hd _ q)).1 rfl
    have n44 : ¬ (44 : UInt8) ∈ t := fun q => (dig_not (hd _ q)).2 rfl
    cases hn : isNum t with
    | false => rw [number_no hn]
    | true =>
      rw [number_yes hn]
      simp only
      by_cases c1 : c = 125
      · exfalso
        subst c1
        have e1 : before 125 l = t := by rw [hl, before_clean n125, before_here, List.append_nil]
        have e2 : firstB l = t := by unfold firstB; rw [e1, before_all n44]
        have e3 : secondB l = t := by unfold secondB; rw [e1, if_neg n44, e2]
        unfold formB at h
        rw [e2, e3, hn, Bool.or_true, hl, decide_eq_true (by simp)] at h
        simp at h
      · rw [if_neg c1]
        by_cases c2 : c = 44
        · rw [if_pos c2]
          subst c2
          have e1 : before 125 l = t ++ 44 :: before 125 r := by rw [hl, before_clean n125, before_skip (by decide)]
          have e2 : firstB l = t := by unfold firstB; rw [e1, before_clean n44, before_here, List.append_nil]
          have e3 : behind 44 (before 125 l) = before 125 r := by rw [e1, behind_clean n44, behind_here]
          have e4 : secondB l = before 125 r := by unfold secondB; rw [if_pos (by rw [e1]; simp), e3]
          have e5 : openB l = decide (before 125 r = []) := by unfold openB; rw [e3, decide_eq_true (by rw [e1]; simp), Bool.true_and]
          have e6 : decide ((125 : UInt8) ∈ l) = decide ((125 : UInt8) ∈ r) := by
            rw [hl]
            exact decide_eq_decide.2 (by simp [n125])
          unfold formB at h
          rw [e2, e4, e5, e6, hn, Bool.true_and] at h
          have hlr : r = r.takeWhile dig ++ r.dropWhile dig := List.takeWhile_append_dropWhile.symm
          have hdr := take_dig (l := r)
          have m125 : ¬ (125 : UInt8) ∈ r.takeWhile dig := fun q => (dig_not (hdr _ q)).1 rfl
          by_cases c3 : r.takeWhile dig = []
          · rw [if_pos c3]
            by_cases c4 : r.headD 0 = 125
            · exfalso
              cases r with
              | nil => simp at c4
              | cons d r2 =>
                have : d = 125 := by simpa using c4
                subst this
                rw [before_here] at h
                simp at h
            · rw [if_neg c4]
          · rw [if_neg c3]
            cases hn2 : isNum (r.takeWhile dig) with
            | false => rw [number_no hn2]
            | true =>
              rw [number_yes hn2]
              simp only
              by_cases c4 : (r.dropWhile dig).headD 0 = 125
              · exfalso
                cases hr2 : r.dropWhile dig with
                | nil => rw [hr2] at c4; simp at c4
                | cons d r2 =>
                  rw [hr2] at c4 hlr
                  have : d = 125 := by simpa using c4
                  subst this
                  have e7 : before 125 r = r.takeWhile dig := by
                    conv => lhs; rw [hlr, before_clean m125, before_here, List.append_nil]
                  rw [e7, hn2, Bool.or_true, decide_eq_true (by rw [hlr]; simp)] at h
                  simp at h
              · rw [if_neg c4]
        · rw [if_neg c2]
theorem braces_good {l : List UInt8} (h : formB l = true) : braces l = range (val (firstB l)) (topB l) ((before 125 l).length + 2) := by
  have hl : l = l.takeWhile dig ++ l.dropWhile dig := List.takeWhile_append_dropWhile.symm
  have hd := take_dig (l := l)
  unfold formB at h
  simp only [Bool.and_eq_true, decide_eq_true_eq] at h
  obtain ⟨h1, h2, h3⟩ := h
  unfold braces
  generalize l.takeWhile dig = t at *
  have n125 : ¬ (125 : UInt8) ∈ t := fun q => (dig_not (hd _ q)).1 rfl
  have n44 : ¬ (44 : UInt8) ∈ t := fun q => (dig_not (hd _ q)).2 rfl
  cases hr : l.dropWhile dig with
  | nil =>
    exfalso
    rw [hr, List.append_nil] at hl
    rw [hl] at h1
    exact n125 h1
  | cons c r =>
    have hc := head_drop hr
    rw [hr] at hl
    clear hr
    by_cases c1 : c = 125
    · subst c1
      have e1 : before 125 l = t := by rw [hl, before_clean n125, before_here, List.append_nil]
      have e2 : firstB l = t := by unfold firstB; rw [e1, before_all n44]
      have e3 : secondB l = t := by unfold secondB; rw [e1, if_neg n44, e2]
      have e4 : openB l = false := by unfold openB; rw [e1, decide_eq_false n44, Bool.false_and]
      have e5 : topB l = val t := by unfold topB; rw [e4, if_neg (by simp), e3]
      rw [e2] at h2
      rw [number_yes h2, e5, e2, e1]
      simp only [if_pos]
    · by_cases c2 : c = 44
      · subst c2
        have e1 : before 125 l = t ++ 44 :: before 125 r := by rw [hl, before_clean n125, before_skip (by decide)]
        have e2 : firstB l = t := by unfold firstB; rw [e1, before_clean n44, before_here, List.append_nil]
        have e3 : behind 44 (before 125 l) = before 125 r := by rw [e1, behind_clean n44, behind_here]
        have e4 : secondB l = before 125 r := by unfold secondB; rw [if_pos (by rw [e1]; simp), e3]
        have e5 : openB l = decide (before 125 r = []) := by unfold openB; rw [e3, decide_eq_true (by rw [e1]; simp), Bool.true_and]
        have e6 : (125 : UInt8) ∈ r := by
          rw [hl] at h1
          rcases List.mem_append.1 h1 with q | q
          · exact absurd q n125
          · rcases List.mem_cons.1 q with q | q
            · exact absurd q (by decide)
            · exact q
        rw [e2] at h2
        rw [number_yes h2]
        simp only [if_neg c1, if_pos]
        have hlr : r = r.takeWhile dig ++ r.dropWhile dig := List.takeWhile_append_dropWhile.symm
        have hdr := take_dig (l := r)
        have m125 : ¬ (125 : UInt8) ∈ r.takeWhile dig := fun q => (dig_not (hdr _ q)).1 rfl
        cases hr2 : r.dropWhile dig with
        | nil =>
          exfalso
          rw [hr2, List.append_nil] at hlr
          rw [hlr] at e6
          exact m125 e6
        | cons d r2 =>
          have hdg := head_drop hr2
          rw [hr2] at hlr
          have e7 : before 125 r = r.takeWhile dig ++ before 125 (d :: r2) := by
            conv => lhs; rw [hlr, before_clean m125]
          by_cases c4 : d = 125
          · subst c4
            rw [before_here, List.append_nil] at e7
            by_cases c3 : r.takeWhile dig = []
            · rw [if_pos c3]
              rw [c3] at e7 hlr
              rw [List.nil_append] at hlr
              have e8 : topB l = -1 := by unfold topB; rw [e5, e7]; rfl
              rw [if_pos (by rw [hlr]; rfl), e8, e2, e1, e7]
              simp only [List.length_append, List.length_cons, List.length_nil]
            · rw [if_neg c3]
              have e8 : openB l = false := by rw [e5, e7]; exact decide_eq_false c3
              have e9 : topB l = val (r.takeWhile dig) := by unfold topB; rw [e8, if_neg (by simp), e4, e7]
              rw [e8, e4, e7, Bool.false_or] at h3
              rw [number_yes h3]
              simp only [List.headD_cons, if_pos]
              rw [e9, e2, e1, e7]
              congr 1
              simp only [List.length_append, List.length_cons]; omega
          · exfalso
            rw [before_skip c4] at e7
            rw [e5, e4, e7, not_num hdg, Bool.or_false, decide_eq_true_eq] at h3
            simp at h3
      · exfalso
        have e1 : before 125 l = t ++ c :: before 125 r := by rw [hl, before_clean n125, before_skip c1]
        have e2 : firstB l = t ++ c :: before 44 (before 125 r) := by unfold firstB; rw [e1, before_clean n44, before_skip c2]
        rw [e2, not_num hc] at h2
        simp at h2
end Go.Proofs.YtenlogfiabhfmaaGreatDoor.M14
/-
  Layer 14 (pattern), walk of the program's noAtom: whether no atom begins at a place. The conditions stand in the statement.
-/
namespace Go.Proofs.YtenlogfiabhfmaaGreatDoor.W14
set_option maxRecDepth 100000
open Go Go.RowKit Go.Proofs.YtenlogfiabhfmaaGreatDoor.M14
open Go.Proofs.YtenlogfiabhfmaaGreatDoor.Row256 (Beside)

theorem u8n {c d : UInt8} (h : ¬ c = d) : (((c.toNat : Nat) : Int) == ((d.toNat : Nat) : Int)) = false := beq_eq_false_iff_ne.2 fun e => h (Kit.byte_eq e)
theorem u8y {c d : UInt8} (h : c = d) : (((c.toNat : Nat) : Int) == ((d.toNat : Nat) : Int)) = true := by rw [h]; exact beq_self_eq_true _
theorem int_no {a b : Nat} (h : ¬ a = b) : (((a : Nat) : Int) == ((b : Nat) : Int)) = false := beq_eq_false_iff_ne.2 fun e => h (by omega)
theorem int_yes {a b : Nat} (h : a = b) : (((a : Nat) : Int) == ((b : Nat) : Int)) = true := by rw [h]; exact beq_self_eq_true _
/-- no atom begins at a place; and the error, if no row may end there either -/
def noAtom (S : List UInt8) (at_ deep : Nat) : Bool × Int :=
  if at_ = S.length then (true, 0)
  else if S.getD at_ 0 = 41 then (if 0 < deep then (true, 0) else (true, 3))
  else if S.getD at_ 0 = 42 ∨ S.getD at_ 0 = 43 ∨ S.getD at_ 0 = 63 ∨ S.getD at_ 0 = 123 then (true, 3)
  else if S.getD at_ 0 = 124 then (true, 0) else (false, 0)
set_option maxHeartbeats 4000000 in
theorem noAtom_any {w : World} {b : Nat} {s : ByteArray} {at_ deep : Nat} (h : Reader w b s at_ deep) (hat : at_ ≤ s.size) :
    Calls Tryz.prog 23 #[.pointer (some ⟨b, 0, none⟩)] w fun e w' => e = .returned (.tuple #[.bool (noAtom s.data.toList at_ deep).1, .int .i64 (noAtom s.data.toList at_ deep).2]) ∧ ∃ n, w' = w.drewN n := by
  have c0 := h.c0
  have c1 := h.c1
  have c2 := h.c2
  have hl : s.data.toList.length = s.size := (Lib.size_eq s).symm
  clear h
  by_cases ha : at_ = s.size
  · have HV : Hid (noAtom s.data.toList at_ deep = (true, 0)) := by
      unfold Hid noAtom
      rw [if_pos (by omega)]
    have t0 := int_yes ha
    rw [HV.out]
    clear hl
    go_enter Tryz.func23, Tryz.ntmps23
    go_wp2_with fail
    go_quiet (fail)
    go_wp2_with fail
    go_ret2
    exact ⟨rfl, nq, rfl⟩
  · have hlt : at_ < s.size := by omega
    have hlt2 : (at_ : Int) < (s.size : Int) := by omega
    have hc : s.data.toList.getD at_ 0 = s[at_] := Kit.byte_get s at_ hlt
    have t0 := int_no ha
    have hne : ¬ at_ = s.data.toList.length := by omega
    by_cases h41 : s[at_] = 41
    · have t41 : ((s[at_].toNat : Int) == 41) = true := u8y h41
      by_cases hd : 0 < deep
      · have td : (0 : Int) < (deep : Int) := by omega
        have HV : Hid (noAtom s.data.toList at_ deep = (true, 0)) := by
          unfold Hid noAtom
          rw [if_neg hne, hc, if_pos h41, if_pos hd]
        clear h41
        rw [HV.out]
        clear hc hl hne
        go_enter Tryz.func23, Tryz.ntmps23
        go_wp2_with fail
        go_quiet (fail)
        have c0' : (w.drewN nq).cell? ⟨b, 0, none⟩ = some (.string s) := c0
        have c1' : (w.drewN nq).cell? ⟨b, 1, none⟩ = some (.int .i64 at_) := c1
        have c2' : (w.drewN nq).cell? ⟨b, 2, none⟩ = some (.int .i64 deep) := c2
        obtain ⟨W, hW, q1, hq⟩ : ∃ W, w.drewN nq = W ∧ ∃ q, W = w.drewN q := ⟨_, rfl, nq, rfl⟩
        rw [hW] at c0' c1' c2'
        rw [hW]
        have HQ := Lib.hid hq
        clear hW hq c0 c1 c2
        go_wp2_with fail
        go_quiet (fail)
        have c2'' : (W.drewN nq).cell? ⟨b, 2, none⟩ = some (.int .i64 deep) := c2'
        go_wp2_with fail
        go_ret2
        exact ⟨rfl, q1 + nq, by rw [HQ.out, World.drewN_drewN]⟩
      · have td : ¬ (0 : Int) < (deep : Int) := by omega
        have HV : Hid (noAtom s.data.toList at_ deep = (true, 3)) := by
          unfold Hid noAtom
          rw [if_neg hne, hc, if_pos h41, if_neg hd]
        clear h41
        rw [HV.out]
        clear hc hl hne
        go_enter Tryz.func23, Tryz.ntmps23
        go_wp2_with fail
        go_quiet (fail)
        have c0' : (w.drewN nq).cell? ⟨b, 0, none⟩ = some (.string s) := c0
        have c1' : (w.drewN nq).cell? ⟨b, 1, none⟩ = some (.int .i64 at_) := c1
        have c2' : (w.drewN nq).cell? ⟨b, 2, none⟩ = some (.int .i64 deep) := c2
        obtain ⟨W, hW, q1, hq⟩ : ∃ W, w.drewN nq = W ∧ ∃ q, W = w.drewN q := ⟨_, rfl, nq, rfl⟩
        rw [hW] at c0' c1' c2'
        rw [hW]
        have HQ := Lib.hid hq
        clear hW hq c0 c1 c2
        go_wp2_with fail
        go_quiet (fail)
        have c2'' : (W.drewN nq).cell? ⟨b, 2, none⟩ = some (.int .i64 deep) := c2'
        go_wp2_with fail
        go_ret2
        exact ⟨rfl, q1 + nq, by rw [HQ.out, World.drewN_drewN]⟩
    · have t41 : ((s[at_].toNat : Int) == 41) = false := u8n h41
      by_cases h42 : s[at_] = 42
      · have t42 : ((s[at_].toNat : Int) == 42) = true := u8y h42
        have HV : Hid (noAtom s.data.toList at_ deep = (true, 3)) := by
          unfold Hid noAtom
          rw [if_neg hne, hc, if_neg h41, if_pos (by simp [h42])]
        clear h41 h42
        rw [HV.out]
        clear hc hl hne
        go_enter Tryz.func23, Tryz.ntmps23
        go_wp2_with fail
        go_quiet (fail)
        have c0' : (w.drewN nq).cell? ⟨b, 0, none⟩ = some (.string s) := c0
        have c1' : (w.drewN nq).cell? ⟨b, 1, none⟩ = some (.int .i64 at_) := c1
        have c2' : (w.drewN nq).cell? ⟨b, 2, none⟩ = some (.int .i64 deep) := c2
        obtain ⟨W, hW, q1, hq⟩ : ∃ W, w.drewN nq = W ∧ ∃ q, W = w.drewN q := ⟨_, rfl, nq, rfl⟩
        rw [hW] at c0' c1' c2'
        rw [hW]
        have HQ := Lib.hid hq
        clear hW hq c0 c1 c2
        go_wp2_with fail
        go_quiet (fail)
        have c2'' : (W.drewN nq).cell? ⟨b, 2, none⟩ = some (.int .i64 deep) := c2'
        go_wp2_with fail
        go_ret2
        exact ⟨rfl, q1 + nq, by rw [HQ.out, World.drewN_drewN]⟩
      · have t42 : ((s[at_].toNat : Int) == 42) = false := u8n h42
        by_cases h43 : s[at_] = 43
        · have t43 : ((s[at_].toNat : Int) == 43) = true := u8y h43
          have HV : Hid (noAtom s.data.toList at_ deep = (true, 3)) := by
            unfold Hid noAtom
            rw [if_neg hne, hc, if_neg h41, if_pos (by simp [h43])]
          clear h41 h42 h43
          rw [HV.out]
          clear hc hl hne
          go_enter Tryz.func23, Tryz.ntmps23
          go_wp2_with fail
          go_quiet (fail)
          have c0' : (w.drewN nq).cell? ⟨b, 0, none⟩ = some (.string s) := c0
          have c1' : (w.drewN nq).cell? ⟨b, 1, none⟩ = some (.int .i64 at_) := c1
          have c2' : (w.drewN nq).cell? ⟨b, 2, none⟩ = some (.int .i64 deep) := c2
          obtain ⟨W, hW, q1, hq⟩ : ∃ W, w.drewN nq = W ∧ ∃ q, W = w.drewN q := ⟨_, rfl, nq, rfl⟩
          rw [hW] at c0' c1' c2'
          rw [hW]
          have HQ := Lib.hid hq
          clear hW hq c0 c1 c2
          go_wp2_with fail
          go_quiet (fail)
          have c2'' : (W.drewN nq).cell? ⟨b, 2, none⟩ = some (.int .i64 deep) := c2'
          go_wp2_with fail
          go_ret2
          exact ⟨rfl, q1 + nq, by rw [HQ.out, World.drewN_drewN]⟩
        · have t43 : ((s[at_].toNat : Int) == 43) = false := u8n h43
          by_cases h63 : s[at_] = 63
          · have t63 : ((s[at_].toNat : Int) == 63) = true := u8y h63
            have HV : Hid (noAtom s.data.toList at_ deep = (true, 3)) := by
              unfold Hid noAtom
              rw [if_neg hne, hc, if_neg h41, if_pos (by simp [h63])]
            clear h41 h42 h43 h63
            rw [HV.out]
            clear hc hl hne
            go_enter Tryz.func23, Tryz.ntmps23
            go_wp2_with fail
            go_quiet (fail)
            have c0' : (w.drewN nq).cell? ⟨b, 0, none⟩ = some (.string s) := c0
            have c1' : (w.drewN nq).cell? ⟨b, 1, none⟩ = some (.int .i64 at_) := c1
            have c2' : (w.drewN nq).cell? ⟨b, 2, none⟩ = some (.int .i64 deep) := c2
            obtain ⟨W, hW, q1, hq⟩ : ∃ W, w.drewN nq = W ∧ ∃ q, W = w.drewN q := ⟨_, rfl, nq, rfl⟩
            rw [hW] at c0' c1' c2'
            rw [hW]
            have HQ := Lib.hid hq
            clear hW hq c0 c1 c2
            go_wp2_with fail
            go_quiet (fail)
            have c2'' : (W.drewN nq).cell? ⟨b, 2, none⟩ = some (.int .i64 deep) := c2'
            go_wp2_with fail
            go_ret2
            exact ⟨rfl, q1 + nq, by rw [HQ.out, World.drewN_drewN]⟩
          · have t63 : ((s[at_].toNat : Int) == 63) = false := u8n h63
            by_cases h123 : s[at_] = 123
            · have t123 : ((s[at_].toNat : Int) == 123) = true := u8y h123
              have HV : Hid (noAtom s.data.toList at_ deep = (true, 3)) := by
                unfold Hid noAtom
                rw [if_neg hne, hc, if_neg h41, if_pos (by simp [h123])]
              clear h41 h42 h43 h63 h123
              rw [HV.out]
              clear hc hl hne
              go_enter Tryz.func23, Tryz.ntmps23
              go_wp2_with fail
              go_quiet (fail)
              have c0' : (w.drewN nq).cell? ⟨b, 0, none⟩ = some (.string s) := c0
              have c1' : (w.drewN nq).cell? ⟨b, 1, none⟩ = some (.int .i64 at_) := c1
              have c2' : (w.drewN nq).cell? ⟨b, 2, none⟩ = some (.int .i64 deep) := c2
              obtain ⟨W, hW, q1, hq⟩ : ∃ W, w.drewN nq = W ∧ ∃ q, W = w.drewN q := ⟨_, rfl, nq, rfl⟩
              rw [hW] at c0' c1' c2'
              rw [hW]
              have HQ := Lib.hid hq
              clear hW hq c0 c1 c2
              go_wp2_with fail
              go_quiet (fail)
              have c2'' : (W.drewN nq).cell? ⟨b, 2, none⟩ = some (.int .i64 deep) := c2'
              go_wp2_with fail
              go_ret2
              exact ⟨rfl, q1 + nq, by rw [HQ.out, World.drewN_drewN]⟩
            · have t123 : ((s[at_].toNat : Int) == 123) = false := u8n h123
              by_cases h124 : s[at_] = 124
              · have t124 : ((s[at_].toNat : Int) == 124) = true := u8y h124
                have HV : Hid (noAtom s.data.toList at_ deep = (true, 0)) := by
                  unfold Hid noAtom
                  rw [if_neg hne, hc, if_neg h41, if_neg (by rintro (e | e | e | e) <;> contradiction), if_pos h124]
                clear h41 h42 h43 h63 h123 h124
                rw [HV.out]
                clear hc hl hne
                go_enter Tryz.func23, Tryz.ntmps23
                go_wp2_with fail
                go_quiet (fail)
                have c0' : (w.drewN nq).cell? ⟨b, 0, none⟩ = some (.string s) := c0
                have c1' : (w.drewN nq).cell? ⟨b, 1, none⟩ = some (.int .i64 at_) := c1
                have c2' : (w.drewN nq).cell? ⟨b, 2, none⟩ = some (.int .i64 deep) := c2
                obtain ⟨W, hW, q1, hq⟩ : ∃ W, w.drewN nq = W ∧ ∃ q, W = w.drewN q := ⟨_, rfl, nq, rfl⟩
                rw [hW] at c0' c1' c2'
                rw [hW]
                have HQ := Lib.hid hq
                clear hW hq c0 c1 c2
                go_wp2_with fail
                go_quiet (fail)
                have c2'' : (W.drewN nq).cell? ⟨b, 2, none⟩ = some (.int .i64 deep) := c2'
                go_wp2_with fail
                go_ret2
                exact ⟨rfl, q1 + nq, by rw [HQ.out, World.drewN_drewN]⟩
              · have t124 : ((s[at_].toNat : Int) == 124) = false := u8n h124
                have HV : Hid (noAtom s.data.toList at_ deep = (false, 0)) := by
                  unfold Hid noAtom
                  rw [if_neg hne, hc, if_neg h41, if_neg (by rintro (e | e | e | e) <;> contradiction), if_neg h124]
                clear h41 h42 h43 h63 h123 h124
                rw [HV.out]
                clear hc hl hne
                go_enter Tryz.func23, Tryz.ntmps23
                go_wp2_with fail
                go_quiet (fail)
                have c0' : (w.drewN nq).cell? ⟨b, 0, none⟩ = some (.string s) := c0
                have c1' : (w.drewN nq).cell? ⟨b, 1, none⟩ = some (.int .i64 at_) := c1
                have c2' : (w.drewN nq).cell? ⟨b, 2, none⟩ = some (.int .i64 deep) := c2
                obtain ⟨W, hW, q1, hq⟩ : ∃ W, w.drewN nq = W ∧ ∃ q, W = w.drewN q := ⟨_, rfl, nq, rfl⟩
                rw [hW] at c0' c1' c2'
                rw [hW]
                have HQ := Lib.hid hq
                clear hW hq c0 c1 c2
                go_wp2_with fail
                go_quiet (fail)
                have c2'' : (W.drewN nq).cell? ⟨b, 2, none⟩ = some (.int .i64 deep) := c2'
                go_wp2_with fail
                go_ret2
                exact ⟨rfl, q1 + nq, by rw [HQ.out, World.drewN_drewN]⟩
end Go.Proofs.YtenlogfiabhfmaaGreatDoor.W14
