/-
  Arrays of 256 values in a block of their own: what they read as, what a store makes of them; for every program. No condition but those that each theorem bears.
-/
import Derived.Test.YtpcgocdepolgeaaKit
import Derived.Deep.WholeRow
import Derived.Laws.Rows
import Derived.Laws.Tables
namespace Go.Proofs.Ytpcgocdepolgeaa.Row256
open Go Go.RowKit

/-- 256 values -/
def rowV (g : Nat → Value) : Array Value := ((List.range 256).map g).toArray
theorem rowV_size (g : Nat → Value) : (rowV g).size = 256 := by unfold rowV; rw [List.size_toArray, List.length_map, List.length_range]
theorem rowV_get (g : Nat → Value) {i : Nat} (h : i < 256) : (rowV g)[i]? = some (g i) := by
  unfold rowV
  rw [List.getElem?_toArray, List.getElem?_map, List.getElem?_range h]; rfl
theorem rowV_congr {g h : Nat → Value} (e : ∀ i, i < 256 → g i = h i) : rowV g = rowV h := by
  unfold rowV
  congr 1
  exact List.map_congr_left fun i hi => e i (List.mem_range.1 hi)
theorem rowV_ext {a : Array Value} {g : Nat → Value} (hs : a.size = 256) (h : ∀ i, i < 256 → a[i]? = some (g i)) : a = rowV g := by
  apply Array.ext_getElem?
  intro i
  by_cases hi : i < 256
  · rw [h i hi, rowV_get g hi]
  · rw [Array.getElem?_eq_none (by omega), Array.getElem?_eq_none (by rw [rowV_size]; omega)]
theorem rowV_set (g : Nat → Value) {i : Nat} (v : Value) : (rowV g).setIfInBounds i v = rowV (fun j => if j = i then v else g j) := by
  refine rowV_ext (by rw [Array.size_setIfInBounds, rowV_size]) fun j hj => ?_
  rw [Array.getElem?_setIfInBounds, rowV_size, rowV_get g hj]
  by_cases e : i = j
  · subst e; rw [if_pos rfl, if_pos hj, if_pos rfl]
  · rw [if_neg e, if_neg (fun q => e q.symm)]
theorem rowV_same (v : Value) : Array.replicate 256 v = rowV (fun _ => v) := by
  refine rowV_ext (by rw [Array.size_replicate]) fun j hj => ?_
  rw [Array.getElem?_replicate, if_pos hj]
theorem rowV_one {g : Nat → Value} (h : ∀ i, (g i).oneCell' = true) : (rowV g).all (·.oneCell') = true := by
  unfold rowV
  rw [Array.all_eq_true_iff_forall_mem]
  intro v hv
  obtain ⟨i, _, rfl⟩ := List.mem_map.1 (List.mem_toArray.1 hv)
  exact h i

/-- block b is an array of 256 values, and may be written -/
def Row (w : World) (b : Nat) (t : TypeId) (g : Nat → Value) : Prop := w.heap[b]? = some (.cells (rowV g) t (0, 0))
theorem Row.new (w : World) (t : TypeId) (g : Nat → Value) : Row (w.alloc (.cells (rowV g) t)) w.heap.size t g := heap_alloc_new w _
theorem Row.lt {w : World} {b : Nat} {t : TypeId} {g : Nat → Value} (h : Row w b t g) : b < w.heap.size := (Array.getElem?_eq_some_iff.1 h).1
theorem Row.alloc {w : World} {b : Nat} {t : TypeId} {g : Nat → Value} (h : Row w b t g) (o : Obj) : Row (w.alloc o) b t g := (Below.heap_alloc w o b h.lt).trans h
theorem Row.cell {w : World} {b : Nat} {t : TypeId} {g : Nat → Value} (h : Row w b t g) {i : Nat} (hi : i < 256) : w.cell? ⟨b, i, none⟩ = some (g i) := by
  rw [cell_of_row w b i _ t _ h, rowV_get g hi]
theorem Row.free {w : World} {b : Nat} {t : TypeId} {g : Nat → Value} (h : Row w b t g) (i : Nat) : w.frozen? ⟨b, i, none⟩ = false := frozen_of_row w b i _ t h
theorem Row.put {w : World} {b : Nat} {t : TypeId} {g : Nat → Value} (h : Row w b t g) (i : Nat) (v : Value) : Row (w.setCell ⟨b, i, none⟩ v) b t (fun j => if j = i then v else g j) := by
  unfold Row
  rw [heap_setCell_same w b i _ t v h, rowV_set]
theorem Row.other {w : World} {b : Nat} {t : TypeId} {g : Nat → Value} (h : Row w b t g) {a : Addr} (ha : b ≠ a.block) (v : Value) : Row (w.setCell a v) b t g := (heap_setCell_other w a b v ha).trans h
theorem Row.on {w w' : World} {b B : Nat} {t : TypeId} {g : Nat → Value} (h : Row w b t g) (k : Below B w w') (hb : b < B) : Row w' b t g := (k.block b hb).trans h
theorem Row.is {w : World} {b : Nat} {t : TypeId} {g k : Nat → Value} (h : Row w b t g) (e : ∀ i, i < 256 → g i = k i) : Row w b t k := by
  unfold Row at *; rw [h, rowV_congr e]
theorem Row.set {w : World} {b : Nat} {t : TypeId} {g : Nat → Value} (h : Row w b t g) (k : Nat → Value) : Row (w.setRow b (rowV k)) b t k := setRow_heap w b _ _ t _ h
theorem Row.setOther {w : World} {b c : Nat} {t : TypeId} {g : Nat → Value} (h : Row w b t g) (hb : b ≠ c) (cs : Array Value) : Row (w.setRow c cs) b t g := (setRow_other w c b cs hb).trans h

/-- but for block b the world w' is as w was, below its end -/
structure Beside (b : Nat) (w w' : World) : Prop where
  os : w'.os = w.os
  tape : w'.tape = w.tape
  output : w'.output = w.output
  size : w.heap.size ≤ w'.heap.size
  block : ∀ k, k < w.heap.size → k ≠ b → w'.heap[k]? = w.heap[k]?
theorem Beside.refl (b : Nat) (w : World) : Beside b w w := ⟨rfl, rfl, rfl, Nat.le_refl _, fun _ _ _ => rfl⟩
theorem Beside.trans {b : Nat} {u v w : World} (h : Beside b u v) (k : Beside b v w) : Beside b u w :=
  ⟨k.os.trans h.os, k.tape.trans h.tape, k.output.trans h.output, Nat.le_trans h.size k.size, fun i hi e => (k.block i (Nat.lt_of_lt_of_le hi h.size) e).trans (h.block i hi e)⟩
theorem Beside.of {b : Nat} {w w' : World} (h : Below w.heap.size w w') : Beside b w w' := ⟨h.os, h.tape, h.output, h.size, fun k hk _ => h.block k hk⟩
theorem Beside.put {b : Nat} {u w : World} (h : Beside b u w) (i : Nat) (v : Value) : Beside b u (w.setCell ⟨b, i, none⟩ v) :=
  h.trans ⟨rfl, rfl, rfl, by rw [World.size_setCell]; exact Nat.le_refl _, fun k _ e => heap_setCell_other w _ k v e⟩
theorem Beside.below {b B : Nat} {w w' : World} (h : Beside b w w') (hB : B ≤ w.heap.size) (hb : B ≤ b) : Below B w w' := ⟨h.os, h.tape, h.output, h.size, fun k hk => h.block k (by omega) (by omega)⟩
theorem Beside.new {b B : Nat} {u w w' : World} (h : Below B u w) (k : Beside b w w') (hB : B ≤ w.heap.size) (hb : B ≤ b) : Below B u w' := h.trans (k.below hB hb)
theorem Row.beside {w w' : World} {b c : Nat} {t : TypeId} {g : Nat → Value} (h : Row w b t g) (k : Beside c w w') (hb : b ≠ c) : Row w' b t g := (k.block b h.lt hb).trans h
end Go.Proofs.Ytpcgocdepolgeaa.Row256
