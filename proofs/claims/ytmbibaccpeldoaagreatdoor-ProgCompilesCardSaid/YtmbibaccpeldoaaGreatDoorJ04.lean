/-
  Texts joined, in build order, each with its own comment and its own conditions: W15Heap, W14NoAtom, W14Real, Shelf.
-/
import Derived.Test.YtmbibaccpeldoaaGreatDoorChecked
import Derived.Test.YtmbibaccpeldoaaGreatDoorJ02
import Derived.Test.YtmbibaccpeldoaaGreatDoorJ03
import Derived.Test.YtmbibaccpeldoaaGreatDoorJ01
import Derived.Shelf.Strings.Trim
import Derived.Shelf.Small.Strs
import Derived.Shelf.Small.Wraps
import Derived.Shelf.Strconv.Atoi
import Derived.Shelf.Strings.Search1
import Derived.Shelf.Strings.Search2
import Derived.Shelf.Strings.Count
import Derived.Shelf.Strings.Prefix
import Derived.Test.YtmbibaccpeldoaaGreatDoorProg
/-
  Layer 15 (prog), steps in memory: boxes and slices of them, what an append leaves; numbers in a slice; steps of walks over all this. The conditions stand in the statements.
-/
namespace Go.Proofs.YtmbibaccpeldoaaGreatDoor.W15
open Go Go.RowKit Go.Proofs.YtmbibaccpeldoaaGreatDoor.Strs Go.Proofs.YtmbibaccpeldoaaGreatDoor.Recs Go.Proofs.YtmbibaccpeldoaaGreatDoor.M15
open Go.Proofs.YtmbibaccpeldoaaGreatDoor.M14 (Piece size sizes)
open Go.Proofs.YtmbibaccpeldoaaGreatDoor.W14 (Raw rawA rawC PAt PBox Kids below_new cell_block)
open Go.Proofs.YtmbibaccpeldoaaGreatDoor.Row256 (Beside)

/-- a step's cells -/
def insC (x : Inst) : List Value := [.int .i64 x.kind, .string x.text, .int .i64 x.x, .int .i64 x.y]
def insA (x : Inst) : Array Value := #[.int .i64 x.kind, .string x.text, .int .i64 x.x, .int .i64 x.y]
theorem insC_len (x : Inst) : (insC x).length = 4 := rfl
theorem insC_one (x : Inst) : ∀ c ∈ insC x, c.oneCell' = true := by
  intro c hc
  simp only [insC, List.mem_cons, List.not_mem_nil, or_false] at hc
  rcases hc with rfl | rfl | rfl | rfl <;> rfl
theorem insA_one (x : Inst) : (insA x).all (·.oneCell') = true := by simp [insA, Value.oneCell']
abbrev Prg (B : Nat) (w : World) (v : Value) (L : List Inst) : Prop := Recs insC 4 B w v L
theorem ins_info : (Tryz.prog.info? 40).map (fun i => (i.zero, i.size, i.bytes)) = some (some (.agg #[.int .i64 0, .string ⟨#[]⟩, .int .i64 0, .int .i64 0]), 4, 40) := by kernel_rfl
theorem ins_size (x : Inst) : (Tryz.prog.info? 40).map (·.size) = some (insA x).size := by
  obtain ⟨i, hi, -, h2, -⟩ := info_parts ins_info
  rw [hi]; simp [insA, h2]
def zeroI : Inst := ⟨0, ⟨#[]⟩, 0, 0⟩
/-- block b is a step's box, and may be written -/
def IBox (w : World) (b : Nat) (x : Inst) : Prop := w.heap[b]? = some (.cells (insA x) 40 (0, 0))
section
variable {w w' : World} {b : Nat} {x : Inst}
theorem IBox.lt (h : IBox w b x) : b < w.heap.size := (Array.getElem?_eq_some_iff.1 h).1
theorem IBox.below (h : IBox w b x) (k : Below w.heap.size w w') : IBox w' b x := (k.block b h.lt).trans h
theorem IBox.c0 (h : IBox w b x) : w.cell? ⟨b, 0, none⟩ = some (.int .i64 x.kind) := cell_of_row w b 0 _ _ _ h
theorem IBox.c1 (h : IBox w b x) : w.cell? ⟨b, 1, none⟩ = some (.string x.text) := cell_of_row w b 1 _ _ _ h
theorem IBox.c2 (h : IBox w b x) : w.cell? ⟨b, 2, none⟩ = some (.int .i64 x.x) := cell_of_row w b 2 _ _ _ h
theorem IBox.c3 (h : IBox w b x) : w.cell? ⟨b, 3, none⟩ = some (.int .i64 x.y) := cell_of_row w b 3 _ _ _ h
theorem IBox.free (h : IBox w b x) (i : Nat) : w.frozen? ⟨b, i, none⟩ = false := frozen_of_row w b i _ _ h
theorem IBox.put2 (h : IBox w b x) (n : Int) : IBox (w.setCell ⟨b, 2, none⟩ (.int .i64 n)) b { x with x := n } := by
  unfold IBox at *
  rw [heap_setCell_same w b 2 _ _ _ h]; rfl
theorem IBox.put3 (h : IBox w b x) (n : Int) : IBox (w.setCell ⟨b, 3, none⟩ (.int .i64 n)) b { x with y := n } := by
  unfold IBox at *
  rw [heap_setCell_same w b 3 _ _ _ h]; rfl
end
theorem zero_ins (w : World) : (zeroValue 40).run Tryz.prog w = .ok (.agg (insA zeroI)) w := by
  obtain ⟨i, hi, h1, -, -⟩ := info_parts ins_info
  simp [zeroValue, typeInfo, hi, h1]; rfl
section
variable {ops : Array Oper} {rest : List Oper} {o : Oper} {a : Act} {w : World} {Q : Exit → Act → World → Prop}
theorem alloc_ins (hgd : o.guard = none) (ho : o.op = .alloc 40)
    (h : ∀ w' b, w.heap.size = b → IBox w' b zeroI → Below w.heap.size w w' → w'.heap.size = w.heap.size + 1 → wpList Tryz.prog ops Q rest (a.put o.dst (.pointer (some ⟨b, 0, none⟩))) w') : wpList Tryz.prog ops Q (o :: rest) a w :=
  wpList_plain hgd fun _ hK => by
    unfold Oper.wp execOp
    simp only [ho, Instr.alloc, newVar, newRow, zero_ins, Sem.run_bind, Sem.run_pure, Result.andThen_ok]
    exact hK _ _ (h _ _ rfl (heap_alloc_new w _) (below_new w _) (World.size_alloc w _))
theorem box_ins (hgd : o.guard = none) (x : Operand) (ho : o.op = .box 40 x) {r : Inst} (hx : a.eval x = .agg (insA r))
    (h : ∀ w' b, w.heap.size = b → IBox w' b r → Below w.heap.size w w' → w'.heap.size = w.heap.size + 1 → wpList Tryz.prog ops Q rest (a.put o.dst (.pointer (some ⟨b, 0, none⟩))) w') : wpList Tryz.prog ops Q (o :: rest) a w :=
  wpList_plain hgd fun _ hK => by
    unfold Oper.wp execOp
    simp only [ho, hx, Instr.box, newVar, newRow, Sem.run_bind, Sem.run_pure]
    exact hK _ _ (h _ _ rfl (heap_alloc_new w _) (below_new w _) (World.size_alloc w _))
theorem load_ibox (hgd : o.guard = none) (x : Operand) (ho : o.op = .load 40 x) {b : Nat} (hx : a.eval x = .pointer (some ⟨b, 0, none⟩)) {r : Inst} (hr : IBox w b r) (h : wpList Tryz.prog ops Q rest (a.put o.dst (.agg (insA r))) w) : wpList Tryz.prog ops Q (o :: rest) a w :=
  wpList_load_row hgd 40 x ho b hx 40 (insA r) (0, 0) _ hr Tryz.underlying40 rfl (ins_size r) h
theorem store_ins (hgd : o.guard = none) (x y : Operand) (ho : o.op = .store 40 x y) {b : Nat} {r old : Inst} (hx : a.eval x = .pointer (some ⟨b, 0, none⟩)) (hy : a.eval y = .agg (insA r)) (hr : IBox w b old)
    (h : ∀ w', IBox w' b r → Beside b w w' → w'.heap.size = w.heap.size → wpList Tryz.prog ops Q rest (a.put o.dst undef) w') : wpList Tryz.prog ops Q (o :: rest) a w :=
  wpList_store_row hgd 40 x y ho b (insA r) hx hy 40 (insA old) hr (ins_size r) rfl (insA_one r)
    (h _ (setRow_heap w b _ _ _ _ hr) ⟨rfl, rfl, rfl, by rw [setRow_size]; exact Nat.le_refl _, fun k _ e => setRow_other w b k _ e⟩ (setRow_size _ _ _))
/-- a slice of one step -/
theorem wp_slice_ins {K : Act → World → Prop} (x : Operand) (ho : o.op = .buildSlice 27 1 #[(0, x)]) {r : Inst} (hx : a.eval x = .agg (insA r))
    (h : ∀ w' b, w.heap.size = b → Prg w'.heap.size w' (.slice (some ⟨b, 0, none⟩) 1 1) [r] → Below w.heap.size w w' → w'.heap.size = w.heap.size + 1 → w'.ownsRow w.heap.size 40 4 (.slice (some ⟨b, 0, none⟩) 1 1) 1 (insC r) → K (a.put o.dst (.slice (some ⟨b, 0, none⟩) 1 1)) w') : o.wp Tryz.prog a w K Q := by
  obtain ⟨i, hi, h1, h2, -⟩ := info_parts ins_info
  refine wp_buildSlice 27 40 1 _ ho (insA r) i _ Tryz.underlying27 hi h1 (by rw [h2]; decide) (by rw [h2]; decide) ?_ (h _ _ rfl ?_ (below_new w _) (World.size_alloc w _) ?_)
  · rw [h2]
    simp only [List.map_toArray, List.map_cons, List.map_nil, hx]
    have hr : Array.range (1 * 4) = #[0, 1, 2, 3] := by decide
    rw [hr]
    simp [Instr.fill, insA, Value.cells]
  · refine ⟨_, _, rfl, Nat.le_refl _, by unfold maxLen; decide, fun _ => ⟨_, rfl, by rw [World.size_alloc]; exact Nat.lt_succ_self _, fun k hk j hj => ?_⟩⟩
    have hk0 : k = 0 := by simp at hk; omega
    subst hk0
    have := cells_new w (insC r) 40 j
    rw [Nat.zero_mul, Nat.zero_add]
    have h5 : j < (insC r).length := by rw [insC_len]; exact hj
    exact (this _ (List.getElem?_eq_getElem h5)).trans (List.getElem?_eq_getElem h5).symm
  · refine ⟨rfl, Or.inr ⟨w.heap.size, 1, insA r, rfl, Nat.le_refl _, heap_alloc_new w _, Nat.le_refl _, by unfold maxLen; decide, rfl, rfl⟩⟩
theorem slice_ins (hgd : o.guard = none) (x : Operand) (ho : o.op = .buildSlice 27 1 #[(0, x)]) {r : Inst} (hx : a.eval x = .agg (insA r))
    (h : ∀ w' b, w.heap.size = b → Prg w'.heap.size w' (.slice (some ⟨b, 0, none⟩) 1 1) [r] → Below w.heap.size w w' → w'.heap.size = w.heap.size + 1 → w'.ownsRow w.heap.size 40 4 (.slice (some ⟨b, 0, none⟩) 1 1) 1 (insC r) → wpList Tryz.prog ops Q rest (a.put o.dst (.slice (some ⟨b, 0, none⟩) 1 1)) w') : wpList Tryz.prog ops Q (o :: rest) a w :=
  wpList_plain hgd fun _ hK => wp_slice_ins x ho hx fun w' b h1 h2 h3 h4 h5 => hK _ _ (h w' b h1 h2 h3 h4 h5)
/-- a step's load as an operation of a drawn region -/
theorem run_load_ins {a : Act} {o : Oper} {w : World} (x : Operand) (ho : o.op = .load 40 x) {b k : Nat} (hx : a.eval x = .pointer (some ⟨b, k, none⟩)) {r : Inst} (hr : ∀ j, j < 4 → w.cell? ⟨b, k + j, none⟩ = (insC r)[j]?) : (execOp a.eval o).run Tryz.prog w = .ok (.value (.agg (insA r))) w := by
  have hl : (loadCells ⟨b, k, none⟩ (insC r).length).run Tryz.prog w = .ok (insC r).toArray w := run_loadCells_list (P := Tryz.prog) w ⟨b, k, none⟩ (insC r) fun j v hv => by
    have hadd : (⟨b, k, none⟩ : Addr).add j = ⟨b, k + j, none⟩ := by unfold Addr.add; split <;> simp_all
    have hj : j < 4 := by
      rcases Nat.lt_or_ge j (insC r).length with q | q
      · rw [insC_len] at q; exact q
      · rw [List.getElem?_eq_none q] at hv; cases hv
    rw [hadd, hr j hj]; exact hv
  obtain ⟨i, hi, -, h2, -⟩ := info_parts ins_info
  have hagg : (isAgg 40).run Tryz.prog w = .ok true w := by
    unfold isAgg
    rw [Sem.run_bind, run_underlying Tryz.underlying40 w]
    rfl
  rw [insC_len] at hl
  unfold execOp
  simp only [ho, hx, Instr.loadAt, Instr.sureAddr, loadVar, sizeOf, typeInfo, Sem.run_bind, Sem.run_pure, Result.andThen_ok, hagg]
  simp [hi, h2, hl, Sem.run_bind, Result.andThen]
  rfl
/-- a step is loaded out of a slice -/
theorem load_ins (hgd : o.guard = none) (x : Operand) (ho : o.op = .load 40 x) {b k : Nat} (hx : a.eval x = .pointer (some ⟨b, k, none⟩)) {r : Inst}
    (hr : ∀ j, j < 4 → w.cell? ⟨b, k + j, none⟩ = (insC r)[j]?) (h : wpList Tryz.prog ops Q rest (a.put o.dst (.agg (insA r))) w) : wpList Tryz.prog ops Q (o :: rest) a w :=
  wpList_plain hgd fun _ hK => by
    have hl : (loadCells ⟨b, k, none⟩ (insC r).length).run Tryz.prog w = .ok (insC r).toArray w := run_loadCells_list (P := Tryz.prog) w ⟨b, k, none⟩ (insC r) fun j v hv => by
      have hadd : (⟨b, k, none⟩ : Addr).add j = ⟨b, k + j, none⟩ := by unfold Addr.add; split <;> simp_all
      have hj : j < 4 := by
        rcases Nat.lt_or_ge j (insC r).length with q | q
        · rw [insC_len] at q; exact q
        · rw [List.getElem?_eq_none q] at hv; cases hv
      rw [hadd, hr j hj]; exact hv
    obtain ⟨i, hi, -, h2, -⟩ := info_parts ins_info
    have hagg : (isAgg 40).run Tryz.prog w = .ok true w := by
      unfold isAgg
      rw [Sem.run_bind, run_underlying Tryz.underlying40 w]
      rfl
    rw [insC_len] at hl
    unfold Oper.wp execOp
    simp only [ho, hx, Instr.loadAt, Instr.sureAddr, loadVar, sizeOf, typeInfo, Sem.run_bind, Sem.run_pure, Result.andThen_ok, hagg]
    simp [hi, h2, hl, Sem.run_bind, Result.andThen]
    exact hK _ _ h
/-- steps are put behind a row of the call's own -/
theorem wp_append_ins {K : Act → World → Prop} (s x : Operand) (ho : o.op = .call { callee := .builtin .append, args := #[s, x], argTypes := #[27, 27] })
    {base B : Nat} {v u : Value} {L M : List Inst} (hs : a.eval s = v) (hx : a.eval x = u) (hown : w.ownsRow base 40 4 v L.length (L.flatMap insC)) (hu : Prg B w u M) (hl : L.length + M.length ≤ 1000000) (hbase : base ≤ w.heap.size)
    (h : ∀ v' w', w'.ownsRow base 40 4 v' (L ++ M).length ((L ++ M).flatMap insC) → Put v v' w w' → K (a.put o.dst v') w') : o.wp Tryz.prog a w K Q := by
  obtain ⟨i, hi, h1, h2, h3⟩ := info_parts ins_info
  refine wp_append_put s x 27 ho base 40 i _ 4 40 Tryz.underlying27 hi h1 h2 h3 rfl (by decide) v L.length (L.flatMap insC) hs hown u M B hx hu insC_len insC_one (by unfold maxLen; omega) (by omega) hbase fun v' w' e1 e2 => h v' w' ?_ e2
  rw [List.length_append, List.flatMap_append]; exact e1
theorem append_ins (hgd : o.guard = none) (s x : Operand) (ho : o.op = .call { callee := .builtin .append, args := #[s, x], argTypes := #[27, 27] })
    {base B : Nat} {v u : Value} {L M : List Inst} (hs : a.eval s = v) (hx : a.eval x = u) (hown : w.ownsRow base 40 4 v L.length (L.flatMap insC)) (hu : Prg B w u M) (hl : L.length + M.length ≤ 1000000) (hbase : base ≤ w.heap.size)
    (h : ∀ v' w', w'.ownsRow base 40 4 v' (L ++ M).length ((L ++ M).flatMap insC) → Put v v' w w' → wpList Tryz.prog ops Q rest (a.put o.dst v') w') : wpList Tryz.prog ops Q (o :: rest) a w :=
  wpList_plain hgd fun _ hK => wp_append_ins s x ho hs hx hown hu hl hbase fun v' w' h1 h2 => hK _ _ (h v' w' h1 h2)
end

/-! numbers in a slice -/
def numC (n : Nat) : List Value := [.int .i64 n]
theorem numC_len (n : Nat) : (numC n).length = 1 := rfl
theorem numC_one (n : Nat) : ∀ c ∈ numC n, c.oneCell' = true := by
  intro c hc
  simp only [numC, List.mem_cons, List.not_mem_nil, or_false] at hc
  subst hc; rfl
theorem int_info : (Tryz.prog.info? 3).map (fun i => (i.zero, i.size, i.bytes)) = some (some (.int .i64 0), 1, 8) := by kernel_rfl
section
variable {ops : Array Oper} {rest : List Oper} {o : Oper} {a : Act} {w : World} {Q : Exit → Act → World → Prop}
theorem slice_num (hgd : o.guard = none) (x : Operand) (ho : o.op = .buildSlice 68 1 #[(0, x)]) {n : Nat} (hx : a.eval x = .int .i64 n)
    (h : ∀ w' b, w.heap.size = b → Recs numC 1 w'.heap.size w' (.slice (some ⟨b, 0, none⟩) 1 1) [n] → Below w.heap.size w w' → w'.heap.size = w.heap.size + 1 → wpList Tryz.prog ops Q rest (a.put o.dst (.slice (some ⟨b, 0, none⟩) 1 1)) w') : wpList Tryz.prog ops Q (o :: rest) a w := by
  obtain ⟨i, hi, h1, h2, -⟩ := info_parts int_info
  refine wpList_plain hgd fun _ hK => wp_buildSlice 68 3 1 _ ho #[.int .i64 n] i _ Tryz.underlying68 hi h1 (by rw [h2]; decide) (by rw [h2]; decide) ?_ (hK _ _ (h _ _ rfl ?_ (below_new w _) (World.size_alloc w _)))
  · rw [h2]
    simp only [List.map_toArray, List.map_cons, List.map_nil, hx]
    have hr : Array.range (1 * 1) = #[0] := by decide
    rw [hr]
    simp [Instr.fill, Value.cells]
  · refine ⟨_, _, rfl, Nat.le_refl _, by unfold maxLen; decide, fun _ => ⟨_, rfl, by rw [World.size_alloc]; exact Nat.lt_succ_self _, fun k hk j hj => ?_⟩⟩
    have hk0 : k = 0 := by simp at hk; omega
    subst hk0
    have := cells_new w (numC n) 3 j
    rw [Nat.zero_mul, Nat.zero_add]
    have h5 : j < (numC n).length := by rw [numC_len]; exact hj
    exact (this _ (List.getElem?_eq_getElem h5)).trans (List.getElem?_eq_getElem h5).symm
theorem append_num (hgd : o.guard = none) (s x : Operand) (ho : o.op = .call { callee := .builtin .append, args := #[s, x], argTypes := #[68, 68] })
    {base B : Nat} {v u : Value} {L M : List Nat} (hs : a.eval s = v) (hx : a.eval x = u) (hown : w.ownsRow base 3 1 v L.length (L.flatMap numC)) (hu : Recs numC 1 B w u M) (hl : L.length + M.length ≤ 1000000) (hbase : base ≤ w.heap.size)
    (h : ∀ v' w', w'.ownsRow base 3 1 v' (L ++ M).length ((L ++ M).flatMap numC) → Put v v' w w' → wpList Tryz.prog ops Q rest (a.put o.dst v') w') : wpList Tryz.prog ops Q (o :: rest) a w := by
  obtain ⟨i, hi, h1, h2, h3⟩ := info_parts int_info
  refine wpList_append_put hgd s x 68 ho base 3 i _ 1 8 Tryz.underlying68 hi h1 h2 h3 rfl (by decide) v L.length (L.flatMap numC) hs hown u M B hx hu numC_len numC_one (by unfold maxLen; omega) (by omega) hbase fun v' w' e1 e2 => h v' w' ?_ e2
  rw [List.length_append, List.flatMap_append]; exact e1
end
end Go.Proofs.YtmbibaccpeldoaaGreatDoor.W15
/-
  Layer 14 (pattern), walk of the program's noAtom: whether no atom begins at a place. The conditions stand in the statement.
-/
namespace Go.Proofs.YtmbibaccpeldoaaGreatDoor.W14
set_option maxRecDepth 100000
open Go Go.RowKit Go.Proofs.YtmbibaccpeldoaaGreatDoor.M14
open Go.Proofs.YtmbibaccpeldoaaGreatDoor.Row256 (Beside)

theorem u8n {c d : UInt8} (h : ¬ c = d) : (((c.toNat : Nat) : Int) == ((d.toNat : Nat) : Int)) = false := beq_eq_false_iff_ne.2 fun e => h (Kit.byte_eq e)
theorem u8y {c d : UInt8} (h : c = d) : (((c.toNat : Nat) : Int) == ((d.toNat : Nat) : Int)) = true := by rw [h]; exact beq_self_eq_true _
theorem int_no {a b : Nat} (h : ¬ a = b) : (((a : Nat) : Int) == ((b : Nat) : Int)) = false := beq_eq_false_iff_ne.2 fun e => h (by omega)
theorem int_yes {a b : Nat} (h : a = b) : (((a : Nat) : Int) == ((b : Nat) : Int)) = true := by rw [h]; exact beq_self_eq_true _
/-- no atom begins at a place; and the error, if no row may end there either -/
def noAtom (S : List UInt8) (at_ deep : Nat) : Bool × Int :=
  if at_ = S.length then (true, 0)
  else if S.getD at_ 0 = 41 then (if 0 < deep then (true, 0) else (true, 3))
  else if S.getD at_ 0 = 42 ∨ S.getD at_ 0 = 43 ∨ S.getD at_ 0 = 63 ∨ S.getD at_ 0 = 123 then (true, 3)
  else if S.getD at_ 0 = 124 then (true, 0) else (false, 0)
set_option maxHeartbeats 4000000 in
theorem noAtom_any {w : World} {b : Nat} {s : ByteArray} {at_ deep : Nat} (h : Reader w b s at_ deep) (hat : at_ ≤ s.size) :
    Calls Tryz.prog 71 #[.pointer (some ⟨b, 0, none⟩)] w fun e w' => e = .returned (.tuple #[.bool (noAtom s.data.toList at_ deep).1, .int .i64 (noAtom s.data.toList at_ deep).2]) ∧ ∃ n, w' = w.drewN n := by
  have c0 := h.c0
  have c1 := h.c1
  have c2 := h.c2
  have hl : s.data.toList.length = s.size := (Lib.size_eq s).symm
  clear h
  by_cases ha : at_ = s.size
  · have HV : Hid (noAtom s.data.toList at_ deep = (true, 0)) := by
      unfold Hid noAtom
      rw [if_pos (by omega)]
    have t0 := int_yes ha
    rw [HV.out]
    clear hl
    go_enter Tryz.func71, Tryz.ntmps71
    go_wp2_with fail
    go_quiet (fail)
    go_wp2_with fail
    go_ret2
    exact ⟨rfl, nq, rfl⟩
  · have hlt : at_ < s.size := by omega
    have hlt2 : (at_ : Int) < (s.size : Int) := by omega
    have hc : s.data.toList.getD at_ 0 = s[at_] := Kit.byte_get s at_ hlt
    have t0 := int_no ha
    have hne : ¬ at_ = s.data.toList.length := by omega
    by_cases h41 : s[at_] = 41
    · have t41 : ((s[at_].toNat : Int) == 41) = true := u8y h41
      by_cases hd : 0 < deep
      · have td : (0 : Int) < (deep : Int) := by omega
        have HV : Hid (noAtom s.data.toList at_ deep = (true, 0)) := by
          unfold Hid noAtom
          rw [if_neg hne, hc, if_pos h41, if_pos hd]
        clear h41
        rw [HV.out]
        clear hc hl hne
        go_enter Tryz.func71, Tryz.ntmps71
        go_wp2_with fail
        go_quiet (fail)
        have c0' : (w.drewN nq).cell? ⟨b, 0, none⟩ = some (.string s) := c0
        have c1' : (w.drewN nq).cell? ⟨b, 1, none⟩ = some (.int .i64 at_) := c1
        have c2' : (w.drewN nq).cell? ⟨b, 2, none⟩ = some (.int .i64 deep) := c2
        obtain ⟨W, hW, q1, hq⟩ : ∃ W, w.drewN nq = W ∧ ∃ q, W = w.drewN q := ⟨_, rfl, nq, rfl⟩
        rw [hW] at c0' c1' c2'
        rw [hW]
        have HQ := Lib.hid hq
        clear hW hq c0 c1 c2
        go_wp2_with fail
        go_quiet (fail)
        have c2'' : (W.drewN nq).cell? ⟨b, 2, none⟩ = some (.int .i64 deep) := c2'
        go_wp2_with fail
        go_ret2
        exact ⟨rfl, q1 + nq, by rw [HQ.out, World.drewN_drewN]⟩
      · have td : ¬ (0 : Int) < (deep : Int) := by omega
        have HV : Hid (noAtom s.data.toList at_ deep = (true, 3)) := by
          unfold Hid noAtom
          rw [if_neg hne, hc, if_pos h41, if_neg hd]
        clear h41
        rw [HV.out]
        clear hc hl hne
        go_enter Tryz.func71, Tryz.ntmps71
        go_wp2_with fail
        go_quiet (fail)
        have c0' : (w.drewN nq).cell? ⟨b, 0, none⟩ = some (.string s) := c0
        have c1' : (w.drewN nq).cell? ⟨b, 1, none⟩ = some (.int .i64 at_) := c1
        have c2' : (w.drewN nq).cell? ⟨b, 2, none⟩ = some (.int .i64 deep) := c2
        obtain ⟨W, hW, q1, hq⟩ : ∃ W, w.drewN nq = W ∧ ∃ q, W = w.drewN q := ⟨_, rfl, nq, rfl⟩
        rw [hW] at c0' c1' c2'
        rw [hW]
        have HQ := Lib.hid hq
        clear hW hq c0 c1 c2
        go_wp2_with fail
        go_quiet (fail)
        have c2'' : (W.drewN nq).cell? ⟨b, 2, none⟩ = some (.int .i64 deep) := c2'
        go_wp2_with fail
        go_ret2
        exact ⟨rfl, q1 + nq, by rw [HQ.out, World.drewN_drewN]⟩
    · have t41 : ((s[at_].toNat : Int) == 41) = false := u8n h41
      by_cases h42 : s[at_] = 42
      · have t42 : ((s[at_].toNat : Int) == 42) = true := u8y h42
        have HV : Hid (noAtom s.data.toList at_ deep = (true, 3)) := by
          unfold Hid noAtom
          rw [if_neg hne, hc, if_neg h41, if_pos (by simp [h42])]
        clear h41 h42
        rw [HV.out]
        clear hc hl hne
        go_enter Tryz.func71, Tryz.ntmps71
        go_wp2_with fail
        go_quiet (fail)
        have c0' : (w.drewN nq).cell? ⟨b, 0, none⟩ = some (.string s) := c0
        have c1' : (w.drewN nq).cell? ⟨b, 1, none⟩ = some (.int .i64 at_) := c1
        have c2' : (w.drewN nq).cell? ⟨b, 2, none⟩ = some (.int .i64 deep) := c2
        obtain ⟨W, hW, q1, hq⟩ : ∃ W, w.drewN nq = W ∧ ∃ q, W = w.drewN q := ⟨_, rfl, nq, rfl⟩
        rw [hW] at c0' c1' c2'
        rw [hW]
        have HQ := Lib.hid hq
        clear hW hq c0 c1 c2
        go_wp2_with fail
        go_quiet (fail)
        have c2'' : (W.drewN nq).cell? ⟨b, 2, none⟩ = some (.int .i64 deep) := c2'
        go_wp2_with fail
        go_ret2
        exact ⟨rfl, q1 + nq, by rw [HQ.out, World.drewN_drewN]⟩
      · have t42 : ((s[at_].toNat : Int) == 42) = false := u8n h42
        by_cases h43 : s[at_] = 43
        · have t43 : ((s[at_].toNat : Int) == 43) = true := u8y h43
          have HV : Hid (noAtom s.data.toList at_ deep = (true, 3)) := by
            unfold Hid noAtom
            rw [if_neg hne, hc, if_neg h41, if_pos (by simp [h43])]
          clear h41 h42 h43
          rw [HV.out]
          clear hc hl hne
          go_enter Tryz.func71, Tryz.ntmps71
          go_wp2_with fail
          go_quiet (fail)
          have c0' : (w.drewN nq).cell? ⟨b, 0, none⟩ = some (.string s) := c0
          have c1' : (w.drewN nq).cell? ⟨b, 1, none⟩ = some (.int .i64 at_) := c1
          have c2' : (w.drewN nq).cell? ⟨b, 2, none⟩ = some (.int .i64 deep) := c2
          obtain ⟨W, hW, q1, hq⟩ : ∃ W, w.drewN nq = W ∧ ∃ q, W = w.drewN q := ⟨_, rfl, nq, rfl⟩
          rw [hW] at c0' c1' c2'
          rw [hW]
          have HQ := Lib.hid hq
          clear hW hq c0 c1 c2
          go_wp2_with fail
          go_quiet (fail)
          have c2'' : (W.drewN nq).cell? ⟨b, 2, none⟩ = some (.int .i64 deep) := c2'
          go_wp2_with fail
          go_ret2
          exact ⟨rfl, q1 + nq, by rw [HQ.out, World.drewN_drewN]⟩
        · have t43 : ((s[at_].toNat : Int) == 43) = false := u8n h43
          by_cases h63 : s[at_] = 63
          · have t63 : ((s[at_].toNat : Int) == 63) = true := u8y h63
            have HV : Hid (noAtom s.data.toList at_ deep = (true, 3)) := by
              unfold Hid noAtom
              rw [if_neg hne, hc, if_neg h41, if_pos (by simp [h63])]
            clear h41 h42 h43 h63
            rw [HV.out]
            clear hc hl hne
            go_enter Tryz.func71, Tryz.ntmps71
            go_wp2_with fail
            go_quiet (fail)
            have c0' : (w.drewN nq).cell? ⟨b, 0, none⟩ = some (.string s) := c0
            have c1' : (w.drewN nq).cell? ⟨b, 1, none⟩ = some (.int .i64 at_) := c1
            have c2' : (w.drewN nq).cell? ⟨b, 2, none⟩ = some (.int .i64 deep) := c2
            obtain ⟨W, hW, q1, hq⟩ : ∃ W, w.drewN nq = W ∧ ∃ q, W = w.drewN q := ⟨_, rfl, nq, rfl⟩
            rw [hW] at c0' c1' c2'
            rw [hW]
            have HQ := Lib.hid hq
            clear hW hq c0 c1 c2
            go_wp2_with fail
            go_quiet (fail)
            have c2'' : (W.drewN nq).cell? ⟨b, 2, none⟩ = some (.int .i64 deep) := c2'
            go_wp2_with fail
            go_ret2
            exact ⟨rfl, q1 + nq, by rw [HQ.out, World.drewN_drewN]⟩
          · have t63 : ((s[at_].toNat : Int) == 63) = false := u8n h63
            by_cases h123 : s[at_] = 123
            · have t123 : ((s[at_].toNat : Int) == 123) = true := u8y h123
              have HV : Hid (noAtom s.data.toList at_ deep = (true, 3)) := by
                unfold Hid noAtom
                rw [if_neg hne, hc, if_neg h41, if_pos (by simp [h123])]
              clear h41 h42 h43 h63 h123
              rw [HV.out]
              clear hc hl hne
              go_enter Tryz.func71, Tryz.ntmps71
              go_wp2_with fail
              go_quiet (fail)
              have c0' : (w.drewN nq).cell? ⟨b, 0, none⟩ = some (.string s) := c0
              have c1' : (w.drewN nq).cell? ⟨b, 1, none⟩ = some (.int .i64 at_) := c1
              have c2' : (w.drewN nq).cell? ⟨b, 2, none⟩ = some (.int .i64 deep) := c2
              obtain ⟨W, hW, q1, hq⟩ : ∃ W, w.drewN nq = W ∧ ∃ q, W = w.drewN q := ⟨_, rfl, nq, rfl⟩
              rw [hW] at c0' c1' c2'
              rw [hW]
              have HQ := Lib.hid hq
              clear hW hq c0 c1 c2
              go_wp2_with fail
              go_quiet (fail)
              have c2'' : (W.drewN nq).cell? ⟨b, 2, none⟩ = some (.int .i64 deep) := c2'
              go_wp2_with fail
              go_ret2
              exact ⟨rfl, q1 + nq, by rw [HQ.out, World.drewN_drewN]⟩
            · have t123 : ((s[at_].toNat : Int) == 123) = false := u8n h123
              by_cases h124 : s[at_] = 124
              · have t124 : ((s[at_].toNat : Int) == 124) = true := u8y h124
                have HV : Hid (noAtom s.data.toList at_ deep = (true, 0)) := by
                  unfold Hid noAtom
                  rw [if_neg hne, hc, if_neg h41, if_neg (by rintro (e | e | e | e) <;> contradiction), if_pos h124]
                clear h41 h42 h43 h63 h123 h124
                rw [HV.out]
                clear hc hl hne
                go_enter Tryz.func71, Tryz.ntmps71
                go_wp2_with fail
                go_quiet (fail)
                have c0' : (w.drewN nq).cell? ⟨b, 0, none⟩ = some (.string s) := c0
                have c1' : (w.drewN nq).cell? ⟨b, 1, none⟩ = some (.int .i64 at_) := c1
                have c2' : (w.drewN nq).cell? ⟨b, 2, none⟩ = some (.int .i64 deep) := c2
                obtain ⟨W, hW, q1, hq⟩ : ∃ W, w.drewN nq = W ∧ ∃ q, W = w.drewN q := ⟨_, rfl, nq, rfl⟩
                rw [hW] at c0' c1' c2'
                rw [hW]
                have HQ := Lib.hid hq
                clear hW hq c0 c1 c2
                go_wp2_with fail
                go_quiet (fail)
                have c2'' : (W.drewN nq).cell? ⟨b, 2, none⟩ = some (.int .i64 deep) := c2'
                go_wp2_with fail
                go_ret2
                exact ⟨rfl, q1 + nq, by rw [HQ.out, World.drewN_drewN]⟩
              · have t124 : ((s[at_].toNat : Int) == 124) = false := u8n h124
                have HV : Hid (noAtom s.data.toList at_ deep = (false, 0)) := by
                  unfold Hid noAtom
                  rw [if_neg hne, hc, if_neg h41, if_neg (by rintro (e | e | e | e) <;> contradiction), if_neg h124]
                clear h41 h42 h43 h63 h123 h124
                rw [HV.out]
                clear hc hl hne
                go_enter Tryz.func71, Tryz.ntmps71
                go_wp2_with fail
                go_quiet (fail)
                have c0' : (w.drewN nq).cell? ⟨b, 0, none⟩ = some (.string s) := c0
                have c1' : (w.drewN nq).cell? ⟨b, 1, none⟩ = some (.int .i64 at_) := c1
                have c2' : (w.drewN nq).cell? ⟨b, 2, none⟩ = some (.int .i64 deep) := c2
                obtain ⟨W, hW, q1, hq⟩ : ∃ W, w.drewN nq = W ∧ ∃ q, W = w.drewN q := ⟨_, rfl, nq, rfl⟩
                rw [hW] at c0' c1' c2'
                rw [hW]
                have HQ := Lib.hid hq
                clear hW hq c0 c1 c2
                go_wp2_with fail
                go_quiet (fail)
                have c2'' : (W.drewN nq).cell? ⟨b, 2, none⟩ = some (.int .i64 deep) := c2'
                go_wp2_with fail
                go_ret2
                exact ⟨rfl, q1 + nq, by rw [HQ.out, World.drewN_drewN]⟩
end Go.Proofs.YtmbibaccpeldoaaGreatDoor.W14
/-
  Layer 14 (pattern), mathematics of the program's way to read braces: cut at the first closing one and at the first comma, it comes to the same as digit by digit. No condition but those that each theorem bears.
-/
namespace Go.Proofs.YtmbibaccpeldoaaGreatDoor.M14
open Go

def isNum (t : List UInt8) : Bool := decide (t ≠ []) && (decide (t.length ≤ 3) && t.all dig)
theorem number_yes {t : List UInt8} (h : isNum t = true) : number t = some (val t) := by
  unfold isNum at h
  simp only [Bool.and_eq_true, decide_eq_true_eq] at h
  unfold number
  rw [if_pos h]
theorem number_no {t : List UInt8} (h : isNum t = false) : number t = none := by
  unfold number
  rw [if_neg]
  rintro ⟨a, b, c⟩
  unfold isNum at h
  rw [decide_eq_true a, decide_eq_true b, c] at h
  simp at h
theorem not_num {t u : List UInt8} {c : UInt8} (h : dig c = false) : isNum (t ++ c :: u) = false := by
  unfold isNum
  rw [List.all_append, List.all_cons, h]
  simp
/-- what stands ahead of the first c, behind it, and is there one -/
def before (c : UInt8) (l : List UInt8) : List UInt8 := l.takeWhile (fun x => decide (x ≠ c))
def behind (c : UInt8) (l : List UInt8) : List UInt8 := (l.dropWhile (fun x => decide (x ≠ c))).drop 1
theorem before_clean {c : UInt8} {t : List UInt8} (h : ¬ c ∈ t) (r : List UInt8) : before c (t ++ r) = t ++ before c r := by
  unfold before
  rw [List.takeWhile_append_of_pos]
  intro x hx
  exact decide_eq_true fun e => h (e ▸ hx)
theorem behind_clean {c : UInt8} {t : List UInt8} (h : ¬ c ∈ t) (r : List UInt8) : behind c (t ++ r) = behind c r := by
  unfold behind
  rw [List.dropWhile_append_of_pos]
  intro x hx
  exact decide_eq_true fun e => h (e ▸ hx)
theorem before_here (c : UInt8) (r : List UInt8) : before c (c :: r) = [] := by unfold before; simp
theorem behind_here (c : UInt8) (r : List UInt8) : behind c (c :: r) = r := by unfold behind; simp
theorem before_skip {c d : UInt8} (h : ¬ d = c) (r : List UInt8) : before c (d :: r) = d :: before c r := by unfold before; simp [h]
theorem before_nil (c : UInt8) : before c [] = [] := rfl
theorem before_all {c : UInt8} {t : List UInt8} (h : ¬ c ∈ t) : before c t = t := by
  have := before_clean h []
  simpa [before_nil] using this
def mayB (m t : Int) : Bool := decide (m ≥ 0) && decide (m ≤ 100) && (decide (t = -1) || decide (t ≥ m) && decide (t ≤ 100))
theorem range_may {m t : Int} (hm : 0 ≤ m) (ht : -1 ≤ t) (n : Nat) : range m t n = if mayB m t then (0, m, t, n) else (4, 0, 0, 0) := by
  unfold range
  by_cases h : m > 100 ∨ t > 100 ∨ (0 ≤ t ∧ m > t)
  · rw [if_pos h, if_neg]
    unfold mayB
    simp only [Bool.and_eq_true, Bool.or_eq_true, decide_eq_true_eq]
    omega
  · rw [if_neg h, if_pos]
    unfold mayB
    simp only [Bool.and_eq_true, Bool.or_eq_true, decide_eq_true_eq]
    omega
/-- the parts of what stands behind a {: ahead of the comma, behind it (or the same), and is the second one left out -/
def firstB (l : List UInt8) : List UInt8 := before 44 (before 125 l)
def openB (l : List UInt8) : Bool := decide (44 ∈ before 125 l) && decide (behind 44 (before 125 l) = [])
def secondB (l : List UInt8) : List UInt8 := if 44 ∈ before 125 l then behind 44 (before 125 l) else firstB l
def formB (l : List UInt8) : Bool := decide (125 ∈ l) && (isNum (firstB l) && (openB l || isNum (secondB l)))
def topB (l : List UInt8) : Int := if openB l then -1 else val (secondB l)
theorem dig_not {c : UInt8} (h : dig c = true) : ¬ c = 125 ∧ ¬ c = 44 := by
  constructor <;> (rintro rfl; revert h; decide)
theorem take_dig {l : List UInt8} : ∀ x, x ∈ l.takeWhile dig → dig x = true := fun x hx => List.all_eq_true.1 (List.all_takeWhile (p := dig) (l := l)) x hx
theorem head_drop {l r : List UInt8} {c : UInt8} (h : l.dropWhile dig = c :: r) : dig c = false := by
  have := List.head?_dropWhile_not dig l
  rw [h] at this
  simpa using this
theorem braces_bad {l : List UInt8} (h : formB l = false) : braces l = no3 := by
  have hl : l = l.takeWhile dig ++ l.dropWhile dig := List.takeWhile_append_dropWhile.symm
  have hd := take_dig (l := l)
  unfold braces
  generalize l.takeWhile dig = t at *
  cases hr : l.dropWhile dig with
  | nil => cases number t <;> rfl
  | cons c r =>
    have hc := head_drop hr
    rw [hr] at hl
    clear hr
    have n125 : ¬ (125 : UInt8) ∈ t := fun q => (dig_not (hd _ q)).1 rfl
    have n44 : ¬ (44 : UInt8) ∈ t := fun q => (dig_not (hd _ q)).2 rfl
    cases hn : isNum t with
    | false => rw [number_no hn]
    | true =>
      rw [number_yes hn]
      simp only
      by_cases c1 : c = 125
      · exfalso
        subst c1
        have e1 : before 125 l = t := by rw [hl, before_clean n125, before_here, List.append_nil]
        have e2 : firstB l = t := by unfold firstB; rw [e1, before_all n44]
        have e3 : secondB l = t := by unfold secondB; rw [e1, if_neg n44, e2]
        unfold formB at h
        rw [e2, e3, hn, Bool.or_true, hl, decide_eq_true (by simp)] at h
        simp at h
      · rw [if_neg c1]
        by_cases c2 : c = 44
        · rw [if_pos c2]
          subst c2
          have e1 : before 125 l = t ++ 44 :: before 125 r := by rw [hl, before_clean n125, before_skip (by decide)]
          have e2 : firstB l = t := by unfold firstB; rw [e1, before_clean n44, before_here, List.append_nil]
          have e3 : behind 44 (before 125 l) = before 125 r := by rw [e1, behind_clean n44, behind_here]
          have e4 : secondB l = before 125 r := by unfold secondB; rw [if_pos (by rw [e1]; simp), e3]
          have e5 : openB l = decide (before 125 r = []) := by unfold openB; rw [e3, decide_eq_true (by rw [e1]; simp), Bool.true_and]
          have e6 : decide ((125 : UInt8) ∈ l) = decide ((125 : UInt8) ∈ r) := by
            rw [hl]
            exact decide_eq_decide.2 (by simp [n125])
          unfold formB at h
          rw [e2, e4, e5, e6, hn, Bool.true_and] at h
          have hlr : r = r.takeWhile dig ++ r.dropWhile dig := List.takeWhile_append_dropWhile.symm
          have hdr := take_dig (l := r)
          have m125 : ¬ (125 : UInt8) ∈ r.takeWhile dig := fun q => (dig_not (hdr _ q)).1 rfl
          by_cases c3 : r.takeWhile dig = []
          · rw [if_pos c3]
            by_cases c4 : r.headD 0 = 125
            · exfalso
              cases r with
              | nil => simp at c4
              | cons d r2 =>
                have : d = 125 := by simpa using c4
                subst this
                rw [before_here] at h
                simp at h
            · rw [if_neg c4]
          · rw [if_neg c3]
            cases hn2 : isNum (r.takeWhile dig) with
            | false => rw [number_no hn2]
            | true =>
              rw [number_yes hn2]
              simp only
              by_cases c4 : (r.dropWhile dig).headD 0 = 125
              · exfalso
                cases hr2 : r.dropWhile dig with
                | nil => rw [hr2] at c4; simp at c4
                | cons d r2 =>
                  rw [hr2] at c4 hlr
                  have : d = 125 := by simpa using c4
                  subst this
                  have e7 : before 125 r = r.takeWhile dig := by
                    conv => lhs; rw [hlr, before_clean m125, before_here, List.append_nil]
                  rw [e7, hn2, Bool.or_true, decide_eq_true (by rw [hlr]; simp)] at h
                  simp at h
              · rw [if_neg c4]
        · rw [if_neg c2]
theorem braces_good {l : List UInt8} (h : formB l = true) : braces l = range (val (firstB l)) (topB l) ((before 125 l).length + 2) := by
  have hl : l = l.takeWhile dig ++ l.dropWhile dig := List.takeWhile_append_dropWhile.symm
  have hd := take_dig (l := l)
  unfold formB at h
  simp only [Bool.and_eq_true, decide_eq_true_eq] at h
  obtain ⟨h1, h2, h3⟩ := h
  unfold braces
  generalize l.takeWhile dig = t at *
  have n125 : ¬ (125 : UInt8) ∈ t := fun q => (dig_not (hd _ q)).1 rfl
  have n44 : ¬ (44 : UInt8) ∈ t := fun q => (dig_not (hd _ q)).2 rfl
  cases hr : l.dropWhile dig with
  | nil =>
    exfalso
    rw [hr, List.append_nil] at hl
    rw [hl] at h1
    exact n125 h1
  | cons c r =>
    have hc := head_drop hr
    rw [hr] at hl
    clear hr
    by_cases c1 : c = 125
    · subst c1
      have e1 : before 125 l = t := by rw [hl, before_clean n125, before_here, List.append_nil]
      have e2 : firstB l = t := by unfold firstB; rw [e1, before_all n44]
      have e3 : secondB l = t := by unfold secondB; rw [e1, if_neg n44, e2]
      have e4 : openB l = false := by unfold openB; rw [e1, decide_eq_false n44, Bool.false_and]
      have e5 : topB l = val t := by unfold topB; rw [e4, if_neg (by simp), e3]
      rw [e2] at h2
      rw [number_yes h2, e5, e2, e1]
      simp only [if_pos]
    · by_cases c2 : c = 44
      · subst c2
        have e1 : before 125 l = t ++ 44 :: before 125 r := by rw [hl, before_clean n125, before_skip (by decide)]
        have e2 : firstB l = t := by unfold firstB; rw [e1, before_clean n44, before_here, List.append_nil]
        have e3 : behind 44 (before 125 l) = before 125 r := by rw [e1, behind_clean n44, behind_here]
        have e4 : secondB l = before 125 r := by unfold secondB; rw [if_pos (by rw [e1]; simp), e3]
        have e5 : openB l = decide (before 125 r = []) := by unfold openB; rw [e3, decide_eq_true (by rw [e1]; simp), Bool.true_and]
        have e6 : (125 : UInt8) ∈ r := by
          rw [hl] at h1
          rcases List.mem_append.1 h1 with q | q
          · exact absurd q n125
          · rcases List.mem_cons.1 q with q | q
            · exact absurd q (by decide)
            · exact q
        rw [e2] at h2
        rw [number_yes h2]
        simp only [if_neg c1, if_pos]
        have hlr : r = r.takeWhile dig ++ r.dropWhile dig := List.takeWhile_append_dropWhile.symm
        have hdr := take_dig (l := r)
        have m125 : ¬ (125 : UInt8) ∈ r.takeWhile dig := fun q => (dig_not (hdr _ q)).1 rfl
        cases hr2 : r.dropWhile dig with
        | nil =>
          exfalso
          rw [hr2, List.append_nil] at hlr
          rw [hlr] at e6
          exact m125 e6
        | cons d r2 =>
          have hdg := head_drop hr2
          rw [hr2] at hlr
          have e7 : before 125 r = r.takeWhile dig ++ before 125 (d :: r2) := by
            conv => lhs; rw [hlr, before_clean m125]
          by_cases c4 : d = 125
          · subst c4
            rw [before_here, List.append_nil] at e7
            by_cases c3 : r.takeWhile dig = []
            · rw [if_pos c3]
              rw [c3] at e7 hlr
              rw [List.nil_append] at hlr
              have e8 : topB l = -1 := by unfold topB; rw [e5, e7]; rfl
              rw [if_pos (by rw [hlr]; rfl), e8, e2, e1, e7]
              simp only [List.length_append, List.length_cons, List.length_nil]
            · rw [if_neg c3]
              have e8 : openB l = false := by rw [e5, e7]; exact decide_eq_false c3
              have e9 : topB l = val (r.takeWhile dig) := by unfold topB; rw [e8, if_neg (by simp), e4, e7]
              rw [e8, e4, e7, Bool.false_or] at h3
              rw [number_yes h3]
              simp only [List.headD_cons, if_pos]
              rw [e9, e2, e1, e7]
              congr 1
              simp only [List.length_append, List.length_cons]; omega
          · exfalso
            rw [before_skip c4] at e7
            rw [e5, e4, e7, not_num hdg, Bool.or_false, decide_eq_true_eq] at h3
            simp at h3
      · exfalso
        have e1 : before 125 l = t ++ c :: before 125 r := by rw [hl, before_clean n125, before_skip c1]
        have e2 : firstB l = t ++ c :: before 44 (before 125 r) := by unfold firstB; rw [e1, before_clean n44, before_skip c2]
        rw [e2, not_num hc] at h2
        simp at h2
end Go.Proofs.YtmbibaccpeldoaaGreatDoor.M14
/-
  The library's contracts that this seat's proofs use, laid at the seat's translation by the kit's own commands (lay-shelf, lay-plain): each says what one function of Go's library returns, under the conditions that stand in its statement.
-/
namespace Go.Proofs
open Go.Shelf
def Tryz.lays160_ren : Go.Shelf.Ren := ⟨fun | 160 => 39 | 232 => 53 | 231 => 52 | 227 => 54 | 234 => 56 | 233 => 55 | 236 => 58 | 235 => 57 | 228 => 67 | 271 => 70 | 151 => 69 | 197 => 68 | 120 => 80 | 152 => 79 | 260 => 78 | 137 => 88 | 119 => 89 | 224 => 90 | 225 => 91 | 217 => 101 | 266 => 111 | n => n, fun | 9 => 9 | 4 => 4 | 3 => 3 | 5 => 5 | 117 => 75 | 116 => 74 | 0 => 0 | 124 => 78 | 21 => 21 | 105 => 84 | 46 => 100 | 119 => 99 | 139 => 103 | 138 => 102 | n => n, fun | 3 => 0 | 4 => 1 | n => n⟩
theorem Tryz.lays160 : Go.Proofs.Lays.n160 Tryz.prog Tryz.lays160_ren := {
  mixed := by kernel_rfl
  f119 := Tryz.func89.trans (congrArg some (by kernel_rfl))
  f120 := Tryz.func80.trans (congrArg some (by kernel_rfl))
  f137 := Tryz.func88.trans (congrArg some (by kernel_rfl))
  f151 := Tryz.func69.trans (congrArg some (by kernel_rfl))
  f152 := Tryz.func79.trans (congrArg some (by kernel_rfl))
  f160 := Tryz.func39.trans (congrArg some (by kernel_rfl))
  f197 := Tryz.func68.trans (congrArg some (by kernel_rfl))
  f217 := Tryz.func101.trans (congrArg some (by kernel_rfl))
  f224 := Tryz.func90.trans (congrArg some (by kernel_rfl))
  f225 := Tryz.func91.trans (congrArg some (by kernel_rfl))
  f227 := Tryz.func54.trans (congrArg some (by kernel_rfl))
  f228 := Tryz.func67.trans (congrArg some (by kernel_rfl))
  f231 := Tryz.func52.trans (congrArg some (by kernel_rfl))
  f232 := Tryz.func53.trans (congrArg some (by kernel_rfl))
  f233 := Tryz.func55.trans (congrArg some (by kernel_rfl))
  f234 := Tryz.func56.trans (congrArg some (by kernel_rfl))
  f235 := Tryz.func57.trans (congrArg some (by kernel_rfl))
  f236 := Tryz.func58.trans (congrArg some (by kernel_rfl))
  f260 := Tryz.func78.trans (congrArg some (by kernel_rfl))
  f266 := Tryz.func111.trans (congrArg some (by kernel_rfl))
  f271 := Tryz.func70.trans (congrArg some (by kernel_rfl))
  t0 := Tryz.underlying0
  a0 := Tryz.isAgg0
  z0 := Tryz.sizeOf0
  v0 := Tryz.zeroValue0
  t3 := Tryz.underlying3
  a3 := Tryz.isAgg3
  z3 := Tryz.sizeOf3
  v3 := Tryz.zeroValue3
  t4 := Tryz.underlying4
  a4 := Tryz.isAgg4
  z4 := Tryz.sizeOf4
  v4 := Tryz.zeroValue4
  t5 := Tryz.underlying5
  a5 := Tryz.isAgg5
  z5 := Tryz.sizeOf5
  v5 := Tryz.zeroValue5
  t9 := Tryz.underlying9
  a9 := Tryz.isAgg9
  z9 := Tryz.sizeOf9
  v9 := Tryz.zeroValue9
  t21 := Tryz.underlying21
  a21 := Tryz.isAgg21
  z21 := Tryz.sizeOf21
  v21 := Tryz.zeroValue21
  t46 := Tryz.underlying100
  a46 := Tryz.isAgg100
  z46 := Tryz.sizeOf100
  v46 := Tryz.zeroValue100
  t105 := Tryz.underlying84
  a105 := Tryz.isAgg84
  z105 := Tryz.sizeOf84
  v105 := Tryz.zeroValue84
  t116 := Tryz.underlying74
  a116 := Tryz.isAgg74
  z116 := Tryz.sizeOf74
  t117 := Tryz.underlying75
  a117 := Tryz.isAgg75
  z117 := Tryz.sizeOf75
  v117 := Tryz.zeroValue75
  t119 := Tryz.underlying99
  a119 := Tryz.isAgg99
  z119 := Tryz.sizeOf99
  t124 := Tryz.underlying78
  a124 := Tryz.isAgg78
  z124 := Tryz.sizeOf78
  v124 := Tryz.zeroValue78
  t138 := Tryz.underlying102
  a138 := Tryz.isAgg102
  z138 := Tryz.sizeOf102
  v138 := Tryz.zeroValue102
  t139 := Tryz.underlying103
  a139 := Tryz.isAgg103
  z139 := Tryz.sizeOf103
  v139 := Tryz.zeroValue103
  g3 := by kernel_rfl
  g4 := by kernel_rfl }
def Tryz.lays137_ren : Go.Shelf.Ren := ⟨fun | 137 => 88 | 217 => 101 | 266 => 111 | n => n, fun | 9 => 9 | 5 => 5 | 3 => 3 | n => n, fun | n => n⟩
theorem Tryz.lays137 : Go.Proofs.Lays.n137 Tryz.prog Tryz.lays137_ren := {
  mixed := by kernel_rfl
  f137 := Tryz.func88.trans (congrArg some (by kernel_rfl))
  f217 := Tryz.func101.trans (congrArg some (by kernel_rfl))
  f266 := Tryz.func111.trans (congrArg some (by kernel_rfl))
  t3 := Tryz.underlying3
  a3 := Tryz.isAgg3
  z3 := Tryz.sizeOf3
  v3 := Tryz.zeroValue3
  t5 := Tryz.underlying5
  a5 := Tryz.isAgg5
  z5 := Tryz.sizeOf5
  v5 := Tryz.zeroValue5
  t9 := Tryz.underlying9
  a9 := Tryz.isAgg9
  z9 := Tryz.sizeOf9
  v9 := Tryz.zeroValue9 }
open Go.RowKit in
theorem Tryz.strings_IndexByte (s : ByteArray) (c : Int) (w : World) :
    Calls Tryz.prog 88 #[.string s, .int .u8 c] w fun e w' => e = .returned (.int .i64 (Lib.indexByte s.data.toList c.toNat.toUInt8)) ∧ w' = w := Any.strings_IndexByte Tryz.lays137 s c w
def Tryz.lays103_ren : Go.Shelf.Ren := ⟨fun | 103 => 112 | 210 => 121 | 206 => 73 | n => n, fun | 9 => 9 | 4 => 4 | 24 => 110 | 3 => 3 | n => n, fun | n => n⟩
theorem Tryz.lays103 : Go.Proofs.Lays.n103 Tryz.prog Tryz.lays103_ren := {
  mixed := by kernel_rfl
  f103 := Tryz.func112.trans (congrArg some (by kernel_rfl))
  f206 := Tryz.func73.trans (congrArg some (by kernel_rfl))
  f210 := Tryz.func121.trans (congrArg some (by kernel_rfl))
  t3 := Tryz.underlying3
  a3 := Tryz.isAgg3
  z3 := Tryz.sizeOf3
  v3 := Tryz.zeroValue3
  t4 := Tryz.underlying4
  a4 := Tryz.isAgg4
  z4 := Tryz.sizeOf4
  v4 := Tryz.zeroValue4
  t9 := Tryz.underlying9
  a9 := Tryz.isAgg9
  z9 := Tryz.sizeOf9
  v9 := Tryz.zeroValue9
  t24 := Tryz.underlying110
  a24 := Tryz.isAgg110
  z24 := Tryz.sizeOf110
  v24 := Tryz.zeroValue110 }
open Go.RowKit in
theorem Tryz.strings_CutPrefix (s p : ByteArray) (w : World) :
    Calls Tryz.prog 112 #[.string s, .string p] w fun e w' => e = .returned (.tuple #[.string ⟨(Lib.trimPrefix s.data.toList p.data.toList).toArray⟩, .bool (Lib.hasPrefix s.data.toList p.data.toList)]) ∧ w' = w := Any.strings_CutPrefix Tryz.lays103 s p w
def Tryz.lays172_ren : Go.Shelf.Ren := ⟨fun | 172 => 117 | 244 => 125 | 245 => 126 | 247 => 131 | 279 => 132 | 280 => 133 | 281 => 134 | 282 => 135 | 287 => 137 | 316 => 138 | 171 => 140 | 205 => 139 | 321 => 141 | 322 => 142 | 243 => 143 | 246 => 144 | 283 => 145 | 284 => 146 | 285 => 147 | 286 => 148 | 129 => 150 | 317 => 149 | 318 => 151 | 319 => 152 | 320 => 153 | 337 => 154 | 338 => 155 | n => n, fun | 9 => 9 | 3 => 3 | 75 => 128 | 76 => 129 | 4 => 4 | 5 => 5 | 167 => 139 | 37 => 114 | 0 => 0 | 85 => 140 | 2 => 2 | 168 => 142 | 53 => 148 | 175 => 149 | 46 => 100 | 210 => 152 | 127 => 156 | 145 => 159 | 143 => 157 | 21 => 21 | 171 => 161 | 173 => 164 | 212 => 167 | 51 => 145 | 20 => 20 | 213 => 168 | 232 => 172 | 233 => 173 | 80 => 98 | n => n, fun | 15 => 3 | 16 => 4 | 17 => 5 | 18 => 6 | 19 => 7 | n => n⟩
theorem Tryz.lays172 : Go.Proofs.Lays.n172 Tryz.prog Tryz.lays172_ren := {
  mixed := by kernel_rfl
  f129 := Tryz.func150.trans (congrArg some (by kernel_rfl))
  f171 := Tryz.func140.trans (congrArg some (by kernel_rfl))
  f172 := Tryz.func117.trans (congrArg some (by kernel_rfl))
  f205 := Tryz.func139.trans (congrArg some (by kernel_rfl))
  f243 := Tryz.func143.trans (congrArg some (by kernel_rfl))
  f244 := Tryz.func125.trans (congrArg some (by kernel_rfl))
  f245 := Tryz.func126.trans (congrArg some (by kernel_rfl))
  f246 := Tryz.func144.trans (congrArg some (by kernel_rfl))
  f247 := Tryz.func131.trans (congrArg some (by kernel_rfl))
  f279 := Tryz.func132.trans (congrArg some (by kernel_rfl))
  f280 := Tryz.func133.trans (congrArg some (by kernel_rfl))
  f281 := Tryz.func134.trans (congrArg some (by kernel_rfl))
  f282 := Tryz.func135.trans (congrArg some (by kernel_rfl))
  f283 := Tryz.func145.trans (congrArg some (by kernel_rfl))
  f284 := Tryz.func146.trans (congrArg some (by kernel_rfl))
  f285 := Tryz.func147.trans (congrArg some (by kernel_rfl))
  f286 := Tryz.func148.trans (congrArg some (by kernel_rfl))
  f287 := Tryz.func137.trans (congrArg some (by kernel_rfl))
  f316 := Tryz.func138.trans (congrArg some (by kernel_rfl))
  f317 := Tryz.func149.trans (congrArg some (by kernel_rfl))
  f318 := Tryz.func151.trans (congrArg some (by kernel_rfl))
  f319 := Tryz.func152.trans (congrArg some (by kernel_rfl))
  f320 := Tryz.func153.trans (congrArg some (by kernel_rfl))
  f321 := Tryz.func141.trans (congrArg some (by kernel_rfl))
  f322 := Tryz.func142.trans (congrArg some (by kernel_rfl))
  f337 := Tryz.func154.trans (congrArg some (by kernel_rfl))
  f338 := Tryz.func155.trans (congrArg some (by kernel_rfl))
  t0 := Tryz.underlying0
  a0 := Tryz.isAgg0
  z0 := Tryz.sizeOf0
  v0 := Tryz.zeroValue0
  t2 := Tryz.underlying2
  a2 := Tryz.isAgg2
  z2 := Tryz.sizeOf2
  v2 := Tryz.zeroValue2
  t3 := Tryz.underlying3
  a3 := Tryz.isAgg3
  z3 := Tryz.sizeOf3
  v3 := Tryz.zeroValue3
  t4 := Tryz.underlying4
  a4 := Tryz.isAgg4
  z4 := Tryz.sizeOf4
  v4 := Tryz.zeroValue4
  t5 := Tryz.underlying5
  a5 := Tryz.isAgg5
  z5 := Tryz.sizeOf5
  v5 := Tryz.zeroValue5
  t9 := Tryz.underlying9
  a9 := Tryz.isAgg9
  z9 := Tryz.sizeOf9
  v9 := Tryz.zeroValue9
  t20 := Tryz.underlying20
  a20 := Tryz.isAgg20
  z20 := Tryz.sizeOf20
  v20 := Tryz.zeroValue20
  t21 := Tryz.underlying21
  a21 := Tryz.isAgg21
  z21 := Tryz.sizeOf21
  v21 := Tryz.zeroValue21
  t37 := Tryz.underlying114
  a37 := Tryz.isAgg114
  z37 := Tryz.sizeOf114
  v37 := Tryz.zeroValue114
  t46 := Tryz.underlying100
  a46 := Tryz.isAgg100
  z46 := Tryz.sizeOf100
  v46 := Tryz.zeroValue100
  t51 := Tryz.underlying145
  a51 := Tryz.isAgg145
  z51 := Tryz.sizeOf145
  v51 := Tryz.zeroValue145
  t53 := Tryz.underlying148
  a53 := Tryz.isAgg148
  z53 := Tryz.sizeOf148
  v53 := Tryz.zeroValue148
  t75 := Tryz.underlying128
  a75 := Tryz.isAgg128
  z75 := Tryz.sizeOf128
  v75 := Tryz.zeroValue128
  t76 := Tryz.underlying129
  a76 := Tryz.isAgg129
  z76 := Tryz.sizeOf129
  v76 := Tryz.zeroValue129
  t85 := Tryz.underlying140
  a85 := Tryz.isAgg140
  z85 := Tryz.sizeOf140
  v85 := Tryz.zeroValue140
  t127 := Tryz.underlying156
  a127 := Tryz.isAgg156
  z127 := Tryz.sizeOf156
  v127 := Tryz.zeroValue156
  t143 := Tryz.underlying157
  a143 := Tryz.isAgg157
  z143 := Tryz.sizeOf157
  v143 := Tryz.zeroValue157
  t145 := Tryz.underlying159
  a145 := Tryz.isAgg159
  z145 := Tryz.sizeOf159
  v145 := Tryz.zeroValue159
  t167 := Tryz.underlying139
  a167 := Tryz.isAgg139
  z167 := Tryz.sizeOf139
  v167 := Tryz.zeroValue139
  t168 := Tryz.underlying142
  a168 := Tryz.isAgg142
  z168 := Tryz.sizeOf142
  v168 := Tryz.zeroValue142
  t171 := Tryz.underlying161
  a171 := Tryz.isAgg161
  z171 := Tryz.sizeOf161
  v171 := Tryz.zeroValue161
  t173 := Tryz.underlying164
  a173 := Tryz.isAgg164
  z173 := Tryz.sizeOf164
  v173 := Tryz.zeroValue164
  t175 := Tryz.underlying149
  a175 := Tryz.isAgg149
  z175 := Tryz.sizeOf149
  v175 := Tryz.zeroValue149
  t210 := Tryz.underlying152
  a210 := Tryz.isAgg152
  z210 := Tryz.sizeOf152
  v210 := Tryz.zeroValue152
  t212 := Tryz.underlying167
  a212 := Tryz.isAgg167
  z212 := Tryz.sizeOf167
  v212 := Tryz.zeroValue167
  t213 := Tryz.underlying168
  a213 := Tryz.isAgg168
  z213 := Tryz.sizeOf168
  t232 := Tryz.underlying172
  a232 := Tryz.isAgg172
  z232 := Tryz.sizeOf172
  v232 := Tryz.zeroValue172
  t233 := Tryz.underlying173
  a233 := Tryz.isAgg173
  z233 := Tryz.sizeOf173
  v233 := Tryz.zeroValue173
  g15 := by kernel_rfl
  g16 := by kernel_rfl
  g17 := by kernel_rfl
  g18 := by kernel_rfl
  g19 := by kernel_rfl }
open Go.RowKit in
theorem Tryz.strconv_Atoi (s : ByteArray) (n : Int) (hl : s.size ≤ 18) (h : Lib.atoi s.data.toList = some n) (w : World) :
    Calls Tryz.prog 117 #[.string s] w fun e w' => e = .returned (.tuple #[.int .i64 n, .nilIface]) ∧ ∃ t, w' = Lib.bytesWorld w 5 t := Any.strconv_Atoi Tryz.lays172 s n hl h w
def Tryz.lays219_ren : Go.Shelf.Ren := ⟨fun | 219 => 124 | 217 => 101 | 225 => 91 | 224 => 90 | 267 => 130 | 266 => 111 | 314 => 136 | n => n, fun | 9 => 9 | 3 => 3 | 4 => 4 | 5 => 5 | 46 => 100 | 146 => 146 | 51 => 145 | n => n, fun | 1 => 2 | n => n⟩
theorem Tryz.lays219 : Go.Proofs.Lays.n219 Tryz.prog Tryz.lays219_ren := {
  mixed := by kernel_rfl
  f217 := Tryz.func101.trans (congrArg some (by kernel_rfl))
  f219 := Tryz.func124.trans (congrArg some (by kernel_rfl))
  f224 := Tryz.func90.trans (congrArg some (by kernel_rfl))
  f225 := Tryz.func91.trans (congrArg some (by kernel_rfl))
  f266 := Tryz.func111.trans (congrArg some (by kernel_rfl))
  f267 := Tryz.func130.trans (congrArg some (by kernel_rfl))
  f314 := Tryz.func136.trans (congrArg some (by kernel_rfl))
  t3 := Tryz.underlying3
  a3 := Tryz.isAgg3
  z3 := Tryz.sizeOf3
  v3 := Tryz.zeroValue3
  t4 := Tryz.underlying4
  a4 := Tryz.isAgg4
  z4 := Tryz.sizeOf4
  v4 := Tryz.zeroValue4
  t5 := Tryz.underlying5
  a5 := Tryz.isAgg5
  z5 := Tryz.sizeOf5
  v5 := Tryz.zeroValue5
  t9 := Tryz.underlying9
  a9 := Tryz.isAgg9
  z9 := Tryz.sizeOf9
  v9 := Tryz.zeroValue9
  t46 := Tryz.underlying100
  a46 := Tryz.isAgg100
  z46 := Tryz.sizeOf100
  v46 := Tryz.zeroValue100
  t51 := Tryz.underlying145
  a51 := Tryz.isAgg145
  z51 := Tryz.sizeOf145
  v51 := Tryz.zeroValue145
  t146 := Tryz.underlying146
  a146 := Tryz.isAgg146
  z146 := Tryz.sizeOf146
  v146 := Tryz.zeroValue146
  g1 := by kernel_rfl }
open Go.RowKit Go.Lib in
theorem Tryz.stringslite_Index_one (s : ByteArray) (c : UInt8) (w : World) :
    Calls Tryz.prog 124 #[.string s, .string ⟨#[c]⟩] w fun e w' => e = .returned (.int .i64 (Lib.indexByte s.data.toList c)) ∧ w' = w := Any.stringslite_Index_one Tryz.lays219 s c w
def Tryz.lays138_ren : Go.Shelf.Ren := ⟨fun | 138 => 110 | 195 => 118 | 218 => 119 | 143 => 120 | 219 => 124 | 217 => 101 | 225 => 91 | 224 => 90 | 267 => 130 | 266 => 111 | 314 => 136 | n => n, fun | 9 => 9 | 3 => 3 | 4 => 4 | 5 => 5 | 0 => 0 | 46 => 100 | 146 => 146 | 51 => 145 | n => n, fun | 1 => 2 | n => n⟩
theorem Tryz.lays138 : Go.Proofs.Lays.n138 Tryz.prog Tryz.lays138_ren := {
  mixed := by kernel_rfl
  f138 := Tryz.func110.trans (congrArg some (by kernel_rfl))
  f143 := Tryz.func120.trans (congrArg some (by kernel_rfl))
  f195 := Tryz.func118.trans (congrArg some (by kernel_rfl))
  f217 := Tryz.func101.trans (congrArg some (by kernel_rfl))
  f218 := Tryz.func119.trans (congrArg some (by kernel_rfl))
  f219 := Tryz.func124.trans (congrArg some (by kernel_rfl))
  f224 := Tryz.func90.trans (congrArg some (by kernel_rfl))
  f225 := Tryz.func91.trans (congrArg some (by kernel_rfl))
  f266 := Tryz.func111.trans (congrArg some (by kernel_rfl))
  f267 := Tryz.func130.trans (congrArg some (by kernel_rfl))
  f314 := Tryz.func136.trans (congrArg some (by kernel_rfl))
  t0 := Tryz.underlying0
  a0 := Tryz.isAgg0
  z0 := Tryz.sizeOf0
  v0 := Tryz.zeroValue0
  t3 := Tryz.underlying3
  a3 := Tryz.isAgg3
  z3 := Tryz.sizeOf3
  v3 := Tryz.zeroValue3
  t4 := Tryz.underlying4
  a4 := Tryz.isAgg4
  z4 := Tryz.sizeOf4
  v4 := Tryz.zeroValue4
  t5 := Tryz.underlying5
  a5 := Tryz.isAgg5
  z5 := Tryz.sizeOf5
  v5 := Tryz.zeroValue5
  t9 := Tryz.underlying9
  a9 := Tryz.isAgg9
  z9 := Tryz.sizeOf9
  v9 := Tryz.zeroValue9
  t46 := Tryz.underlying100
  a46 := Tryz.isAgg100
  z46 := Tryz.sizeOf100
  v46 := Tryz.zeroValue100
  t51 := Tryz.underlying145
  a51 := Tryz.isAgg145
  z51 := Tryz.sizeOf145
  v51 := Tryz.zeroValue145
  t146 := Tryz.underlying146
  a146 := Tryz.isAgg146
  z146 := Tryz.sizeOf146
  v146 := Tryz.zeroValue146
  g1 := by kernel_rfl }
open Go.RowKit Go.Lib in
theorem Tryz.strings_Count_one (s : ByteArray) (c : UInt8) (w : World) :
    Calls Tryz.prog 110 #[.string s, .string ⟨#[c]⟩] w fun e w' => e = .returned (.int .i64 (Lib.countByte s.data.toList c)) ∧ w' = w := Any.strings_Count_one Tryz.lays138 s c w
def Tryz.lays99_ren : Go.Shelf.Ren := ⟨fun | 99 => 60 | 206 => 73 | n => n, fun | 9 => 9 | 4 => 4 | 3 => 3 | n => n, fun | n => n⟩
theorem Tryz.lays99 : Go.Proofs.Lays.n99 Tryz.prog Tryz.lays99_ren := {
  mixed := by kernel_rfl
  f99 := Tryz.func60.trans (congrArg some (by kernel_rfl))
  f206 := Tryz.func73.trans (congrArg some (by kernel_rfl))
  t3 := Tryz.underlying3
  a3 := Tryz.isAgg3
  z3 := Tryz.sizeOf3
  v3 := Tryz.zeroValue3
  t4 := Tryz.underlying4
  a4 := Tryz.isAgg4
  z4 := Tryz.sizeOf4
  v4 := Tryz.zeroValue4
  t9 := Tryz.underlying9
  a9 := Tryz.isAgg9
  z9 := Tryz.sizeOf9
  v9 := Tryz.zeroValue9 }
open Go.RowKit Go.Lib in
theorem Tryz.strings_HasPrefix (s p : ByteArray) (w : World) :
    Calls Tryz.prog 60 #[.string s, .string p] w fun e w' => e = .returned (.bool (Lib.hasPrefix s.data.toList p.data.toList)) ∧ w' = w := Any.strings_HasPrefix Tryz.lays99 s p w
end Go.Proofs
