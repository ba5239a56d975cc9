/-
  Texts joined, in build order, each with its own comment and its own conditions: Kit, W13Math, Row256, W13Walk, W13Text, W13Ref.
-/
import Derived.WalkKit
import Derived.Below
import Derived.Deep.Draws
import Derived.Deep.QuietTactic
import Derived.Lib.Strings
import Derived.Lib.Hide
import Derived.Laws.BytesArg
import Derived.Deep.WholeRow
import Derived.Laws.Rows
import Derived.Laws.Tables
import Derived.Test.YtenlogfiabhfmaaGreatDoorChecked
import Derived.KernelRfl
import Derived.Deep.LoopGhost
import Derived.Laws.BytesString
import Derived.Deep.OwnRows
/-
  Plain lemmas that walks over texts use: a text's bytes, cuts, sums, emptiness in the walk's spelling; what a call returns; draws. No condition but those that each theorem bears.
-/
namespace Go.Proofs.YtenlogfiabhfmaaGreatDoor.Kit
open Go Go.RowKit

theorem ret_int {k : IntKind} {a b : Int} (h : a = b) : Ending.returned (.int k a) = .returned (.int k b) := by rw [h]
theorem ret_bool {a b : Bool} (h : a = b) : Ending.returned (.bool a) = .returned (.bool b) := by rw [h]
theorem ret_str {a b : ByteArray} (h : a = b) : Ending.returned (.string a) = .returned (.string b) := by rw [h]
theorem mk_bytes (t : ByteArray) : (⟨t.data.toList.toArray⟩ : ByteArray) = t := by obtain ⟨⟨l⟩⟩ := t; rfl
theorem mk_of {d : ByteArray} {l : List UInt8} (h : d.data.toList = l) : (⟨l.toArray⟩ : ByteArray) = d := by rw [← h, mk_bytes]
theorem ba_ext {a b : ByteArray} (h : a.data.toList = b.data.toList) : a = b := by rw [← mk_bytes a, h, mk_bytes b]
theorem bytes_nil {t : ByteArray} (h : ¬ 0 < t.size) : t.data.toList = [] := List.length_eq_zero_iff.1 (by rw [← Lib.size_eq]; omega)
theorem bytes_cons {t : ByteArray} (h : 0 < t.size) : t.data.toList = t[0] :: (t.extract 1 t.size).data.toList := by
  rw [Lib.extract_data]
  have h2 : 0 < t.data.toList.length := by rw [← Lib.size_eq]; exact h
  rw [List.take_of_length_le (by rw [List.length_drop, ← Lib.size_eq]; omega)]
  conv => lhs; rw [← List.drop_zero (l := t.data.toList), List.drop_eq_getElem_cons h2]
  rfl
theorem bytes_ne {s : ByteArray} (h : 0 < s.size) : s.data.toList ≠ [] := by rw [bytes_cons h]; simp
theorem byte_get (s : ByteArray) (k : Nat) (h : k < s.size) : s.data.toList.getD k 0 = s[k] := by
  have h2 : k < s.data.toList.length := by rw [← Lib.size_eq]; exact h
  rw [List.getD_eq_getElem?_getD, List.getElem?_eq_getElem h2]
  rfl
theorem cat_bytes (a b : ByteArray) : (a ++ b).data.toList = a.data.toList ++ b.data.toList := by
  rw [ByteArray.data_append, Array.toList_append]
theorem drop_bytes (s : ByteArray) (k : Nat) : (s.extract k s.size).data.toList = s.data.toList.drop k := by
  rw [Lib.extract_data, List.take_of_length_le (by rw [List.length_drop, ← Lib.size_eq]; exact Nat.le_refl _)]
theorem take_bytes (s : ByteArray) (k : Nat) : (s.extract 0 k).data.toList = s.data.toList.take k := by
  rw [Lib.extract_data, List.drop_zero]; rfl
theorem one_byte (s : ByteArray) (k : Nat) (h : k < s.size) : (s.extract k (k + 1)).data.toList = [s[k]] := by
  have h2 : k < s.data.toList.length := by rw [← Lib.size_eq]; exact h
  rw [Lib.extract_data, List.drop_eq_getElem_cons h2, show k + 1 - k = 1 by omega]
  rfl
theorem drop_next (s : ByteArray) (k : Nat) (h : k < s.size) : s.data.toList.drop k = s[k] :: s.data.toList.drop (k + 1) := by
  have h2 : k < s.data.toList.length := by rw [← Lib.size_eq]; exact h
  rw [List.drop_eq_getElem_cons h2]
  rfl
theorem drop_end (s : ByteArray) (k : Nat) (h : ¬ k < s.size) : s.data.toList.drop k = [] := by
  rw [List.drop_eq_nil_iff, ← Lib.size_eq]; omega
theorem take_next (s : ByteArray) (k : Nat) (h : k < s.size) : s.data.toList.take (k + 1) = s.data.toList.take k ++ [s[k]] := by
  have h2 : k < s.data.toList.length := by rw [← Lib.size_eq]; exact h
  rw [List.take_succ_eq_append_getElem h2]
  rfl
theorem list_full {s : ByteArray} (h : 0 < s.size) : s.toList.isEmpty = false := by rw [Lib.toList_data, bytes_cons h]; rfl
theorem list_ne {s : ByteArray} (h : 0 < s.size) : ¬ s.toList = [] := by rw [Lib.toList_data, bytes_cons h]; simp
theorem list_none {s : ByteArray} (h : ¬ 0 < s.size) : s.toList.isEmpty = true := by rw [Lib.toList_data, bytes_nil h]; rfl
theorem list_nil {s : ByteArray} (h : ¬ 0 < s.size) : s.toList = [] := by rw [Lib.toList_data, bytes_nil h]
theorem byte_eq {c d : UInt8} (h : (c.toNat : Int) = (d.toNat : Int)) : c = d := UInt8.toNat_inj.1 (by omega)
theorem byte_test (c d : UInt8) : ((c.toNat : Int) == (d.toNat : Int)) = decide (c = d) := by
  by_cases h : c = d
  · simp [h]
  · have : ¬ (c.toNat : Int) = (d.toNat : Int) := fun e => h (byte_eq e)
    simp [h, this]
theorem below_draws (w : World) (n : Nat) : Below w.heap.size w (w.drewN n) := ⟨rfl, rfl, rfl, Nat.le_refl _, fun _ _ => rfl⟩
theorem on {a b c : World} (h : Below a.heap.size a b) (k : Below b.heap.size b c) : Below a.heap.size a c := h.trans (k.mono h.size)
end Go.Proofs.YtenlogfiabhfmaaGreatDoor.Kit
/-
  Layer 13 (class), plain mathematics: sets of bytes as 256 truths and as texts; which set a text begins with. No condition but those that each theorem bears.
-/
namespace Go.Proofs.YtenlogfiabhfmaaGreatDoor.M13
open Go

def bit (b : Bool) : UInt8 := if b then 49 else 48
/-- the text of 256 truths -/
def textOf (f : Nat → Bool) : List UInt8 := (List.range 256).map fun i => bit (f i)
def good (s : List UInt8) : Bool := decide (s.length = 256) && s.all (fun c => decide (c = 48) || decide (c = 49))
/-- the bytes of a set -/
def has (s : List UInt8) (i : Nat) : Bool := good s && decide (s.getD i 0 = 49)

theorem textOf_congr {f g : Nat → Bool} (h : ∀ i, i < 256 → f i = g i) : textOf f = textOf g := by
  unfold textOf
  refine List.map_congr_left fun i hi => ?_
  rw [h i (List.mem_range.1 hi)]
theorem textOf_len (f : Nat → Bool) : (textOf f).length = 256 := by unfold textOf; rw [List.length_map, List.length_range]
theorem textOf_get (f : Nat → Bool) {i : Nat} (h : i < 256) : (textOf f)[i]? = some (bit (f i)) := by
  unfold textOf
  rw [List.getElem?_map, List.getElem?_range h]; rfl
theorem bit_is (b : Bool) : bit b = 48 ∨ bit b = 49 := by cases b <;> simp [bit]
theorem bit_one (b : Bool) : decide (bit b = 49) = b := by cases b <;> rfl
theorem textOf_good (f : Nat → Bool) : good (textOf f) = true := by
  unfold good
  rw [textOf_len]
  simp only [decide_true, Bool.true_and, List.all_eq_true]
  intro c hc
  unfold textOf at hc
  obtain ⟨i, _, rfl⟩ := List.mem_map.1 hc
  rcases bit_is (f i) with h | h <;> rw [h] <;> rfl
theorem has_text (f : Nat → Bool) {i : Nat} (h : i < 256) : has (textOf f) i = f i := by
  unfold has
  rw [textOf_good, List.getD_eq_getElem?_getD, textOf_get f h, Option.getD_some, bit_one, Bool.true_and]
theorem has_far {s : List UInt8} {i : Nat} (h : 256 ≤ i) : has s i = false := by
  unfold has
  by_cases e : s.length = 256
  · rw [List.getD_eq_getElem?_getD, List.getElem?_eq_none (by omega)]; simp
  · unfold good; rw [decide_eq_false e]; rfl
theorem has_bad {s : List UInt8} (h : good s = false) (i : Nat) : has s i = false := by unfold has; rw [h]; rfl
theorem has_good {s : List UInt8} (h : good s = true) (i : Nat) : has s i = decide (s.getD i 0 = 49) := by unfold has; rw [h]; rfl
theorem good_len {s : List UInt8} (h : good s = true) : s.length = 256 := by
  unfold good at h
  exact of_decide_eq_true (Bool.and_eq_true_iff.1 h).1
theorem counts_le : ∀ s : List UInt8, s.count 48 + s.count 49 ≤ s.length
  | [] => Nat.le_refl _
  | c :: s => by
    have := counts_le s
    rw [List.count_cons, List.count_cons, List.length_cons]
    by_cases e : c = 48
    · subst e; simp; omega
    · by_cases e2 : c = 49
      · subst e2; simp; omega
      · simp [e, e2]; omega
theorem counts_all : ∀ s : List UInt8, decide (s.count 48 + s.count 49 = s.length) = s.all (fun c => decide (c = 48) || decide (c = 49))
  | [] => rfl
  | c :: s => by
    have ih := counts_all s
    have hle := counts_le s
    rw [List.count_cons, List.count_cons, List.length_cons, List.all_cons, ← ih]
    by_cases e : c = 48
    · subst e
      simp only [beq_self_eq_true, if_true, decide_true, Bool.true_or, Bool.true_and]
      rw [show ((48 : UInt8) == 49) = false from rfl]
      simp only [Bool.false_eq_true, if_false, Nat.add_zero]
      exact decide_eq_decide.2 (by omega)
    · by_cases e2 : c = 49
      · subst e2
        simp only [beq_self_eq_true, if_true, decide_true, Bool.or_true, Bool.true_and]
        rw [show ((49 : UInt8) == 48) = false from rfl]
        simp only [Bool.false_eq_true, if_false, Nat.add_zero]
        exact decide_eq_decide.2 (by omega)
      · rw [decide_eq_false e, decide_eq_false e2, show (c == 48) = false from beq_eq_false_iff_ne.2 e, show (c == 49) = false from beq_eq_false_iff_ne.2 e2]
        simp only [Bool.false_eq_true, if_false, Nat.add_zero, Bool.or_self, Bool.false_and]
        exact decide_eq_false (by omega)
/-- what the program asks of a set -/
theorem good_counts (s : List UInt8) : (decide (s.length = 256) && decide (s.count 48 + s.count 49 = s.length)) = good s := by unfold good; rw [counts_all]

/-- how many bytes belong to a set -/
def count (s : List UInt8) : Nat := if good s then s.count 49 else 0
/-! the letters' sets -/
def between (a b i : Nat) : Bool := decide (a ≤ i) && decide (i ≤ b)
def letter (c : UInt8) : Bool := decide (c = 100) || decide (c = 119) || decide (c = 115) || decide (c = 68) || decide (c = 87) || decide (c = 83)
def digitF (i : Nat) : Bool := between 48 57 i
def wordF (i : Nat) : Bool := between 97 122 i || between 65 90 i || decide (i = 95) || between 48 57 i
def spaceF (i : Nat) : Bool := between 9 13 i || decide (i = 32)
def namedF (c : UInt8) (i : Nat) : Bool :=
  if c = 100 then digitF i else if c = 119 then wordF i else if c = 115 then spaceF i else if c = 68 then !digitF i else if c = 87 then !wordF i else if c = 83 then !spaceF i else false

/-! which set a text begins with -/
/-- a byte: itself, how many bytes tell it, is it a letter's set? -/
def one : List UInt8 → UInt8 × Nat × Bool
  | [] => (0, 0, false)
  | c :: r => if c = 92 then (match r with | [] => (0, 0, false) | d :: _ => (d, 2, letter d)) else (c, 1, false)
def joined : List UInt8 → Bool
  | [] => false
  | c :: r => decide (c = 45) && (match r with | [] => true | d :: _ => !decide (d = 93))
/-- an item: how many bytes tell it, an error, what it adds -/
def item (s : List UInt8) : Nat × Int × (Nat → Bool) :=
  if (one s).2.1 = 0 then (0, 3, fun _ => false)
  else if (one s).2.2 then (if joined (s.drop (one s).2.1) then (0, 3, fun _ => false) else ((one s).2.1, 0, namedF (one s).1))
  else if joined (s.drop (one s).2.1) = false then ((one s).2.1, 0, fun i => decide (i = (one s).1.toNat))
  else if (one (s.drop ((one s).2.1 + 1))).2.1 = 0 then (0, 3, fun _ => false)
  else if (one (s.drop ((one s).2.1 + 1))).2.2 then (0, 3, fun _ => false)
  else if (one (s.drop ((one s).2.1 + 1))).1.toNat < (one s).1.toNat then (0, 4, fun _ => false)
  else ((one s).2.1 + 1 + (one (s.drop ((one s).2.1 + 1))).2.1, 0, between (one s).1.toNat (one (s.drop ((one s).2.1 + 1))).1.toNat)
/-- items and their end, from a place on: the set, how many bytes, an error -/
def items (s : List UInt8) : Nat → Nat → (Nat → Bool) → (Nat → Bool) × Nat × Int
  | 0, _, _ => (fun _ => false, 0, 3)
  | fuel + 1, at_, f =>
    if s.length ≤ at_ then (fun _ => false, 0, 3)
    else if s.getD at_ 0 = 93 ∧ 0 < at_ then (f, at_ + 1, 0)
    else if (item (s.drop at_)).2.1 ≠ 0 then (fun _ => false, 0, (item (s.drop at_)).2.1)
    else items s fuel (at_ + (item (s.drop at_)).1) (fun i => f i || (item (s.drop at_)).2.2 i)
/-- the set that a text begins with, how many bytes it takes, an error -/
def parse (s : List UInt8) : (Nat → Bool) × Nat × Int :=
  match s with
  | [] => (fun _ => false, 0, 3)
  | c :: r => if c = 91 then
      (match r with
      | [] => (fun _ => false, 0, 3)
      | d :: q => if d = 94 then
          (if (items q (q.length + 1) 0 (fun _ => false)).2.2 ≠ 0 then (fun _ => false, 0, (items q (q.length + 1) 0 (fun _ => false)).2.2) else (fun i => !(items q (q.length + 1) 0 (fun _ => false)).1 i, 2 + (items q (q.length + 1) 0 (fun _ => false)).2.1, 0))
        else
          (if (items r (r.length + 1) 0 (fun _ => false)).2.2 ≠ 0 then (fun _ => false, 0, (items r (r.length + 1) 0 (fun _ => false)).2.2) else ((items r (r.length + 1) 0 (fun _ => false)).1, 1 + (items r (r.length + 1) 0 (fun _ => false)).2.1, 0)))
    else (fun _ => false, 0, 3)
theorem one_le (s : List UInt8) : (one s).2.1 ≤ s.length := by
  unfold one
  split
  · exact Nat.le_refl _
  · rename_i c r
    by_cases h : c = 92
    · rw [if_pos h]
      split
      · exact Nat.zero_le _
      · simp only [List.length_cons]; omega
    · rw [if_neg h]; simp only [List.length_cons]; omega
end Go.Proofs.YtenlogfiabhfmaaGreatDoor.M13
/-
  Arrays of 256 values in a block of their own: what they read as, what a store makes of them; for every program. No condition but those that each theorem bears.
-/
namespace Go.Proofs.YtenlogfiabhfmaaGreatDoor.Row256
open Go Go.RowKit

/-- 256 values -/
def rowV (g : Nat → Value) : Array Value := ((List.range 256).map g).toArray
theorem rowV_size (g : Nat → Value) : (rowV g).size = 256 := by unfold rowV; rw [List.size_toArray, List.length_map, List.length_range]
theorem rowV_get (g : Nat → Value) {i : Nat} (h : i < 256) : (rowV g)[i]? = some (g i) := by
  unfold rowV
  rw [List.getElem?_toArray, List.getElem?_map, List.getElem?_range h]; rfl
theorem rowV_congr {g h : Nat → Value} (e : ∀ i, i < 256 → g i = h i) : rowV g = rowV h := by
  unfold rowV
  congr 1
  exact List.map_congr_left fun i hi => e i (List.mem_range.1 hi)
theorem rowV_ext {a : Array Value} {g : Nat → Value} (hs : a.size = 256) (h : ∀ i, i < 256 → a[i]? = some (g i)) : a = rowV g := by
  apply Array.ext_getElem?
  intro i
  by_cases hi : i < 256
  · rw [h i hi, rowV_get g hi]
  · rw [Array.getElem?_eq_none (by omega), Array.getElem?_eq_none (by rw [rowV_size]; omega)]
theorem rowV_set (g : Nat → Value) {i : Nat} (v : Value) : (rowV g).setIfInBounds i v = rowV (fun j => if j = i then v else g j) := by
  refine rowV_ext (by rw [Array.size_setIfInBounds, rowV_size]) fun j hj => ?_
  rw [Array.getElem?_setIfInBounds, rowV_size, rowV_get g hj]
  by_cases e : i = j
  · subst e; rw [if_pos rfl, if_pos hj, if_pos rfl]
  · rw [if_neg e, if_neg (fun q => e q.symm)]
theorem rowV_same (v : Value) : Array.replicate 256 v = rowV (fun _ => v) := by
  refine rowV_ext (by rw [Array.size_replicate]) fun j hj => ?_
  rw [Array.getElem?_replicate, if_pos hj]
theorem rowV_one {g : Nat → Value} (h : ∀ i, (g i).oneCell' = true) : (rowV g).all (·.oneCell') = true := by
  unfold rowV
  rw [Array.all_eq_true_iff_forall_mem]
  intro v hv
  obtain ⟨i, _, rfl⟩ := List.mem_map.1 (List.mem_toArray.1 hv)
  exact h i

/-- block b is an array of 256 values, and may be written -/
def Row (w : World) (b : Nat) (t : TypeId) (g : Nat → Value) : Prop := w.heap[b]? = some (.cells (rowV g) t (0, 0))
theorem Row.new (w : World) (t : TypeId) (g : Nat → Value) : Row (w.alloc (.cells (rowV g) t)) w.heap.size t g := heap_alloc_new w _
theorem Row.lt {w : World} {b : Nat} {t : TypeId} {g : Nat → Value} (h : Row w b t g) : b < w.heap.size := (Array.getElem?_eq_some_iff.1 h).1
theorem Row.alloc {w : World} {b : Nat} {t : TypeId} {g : Nat → Value} (h : Row w b t g) (o : Obj) : Row (w.alloc o) b t g := (Below.heap_alloc w o b h.lt).trans h
theorem Row.cell {w : World} {b : Nat} {t : TypeId} {g : Nat → Value} (h : Row w b t g) {i : Nat} (hi : i < 256) : w.cell? ⟨b, i, none⟩ = some (g i) := by
  rw [cell_of_row w b i _ t _ h, rowV_get g hi]
theorem Row.free {w : World} {b : Nat} {t : TypeId} {g : Nat → Value} (h : Row w b t g) (i : Nat) : w.frozen? ⟨b, i, none⟩ = false := frozen_of_row w b i _ t h
theorem Row.put {w : World} {b : Nat} {t : TypeId} {g : Nat → Value} (h : Row w b t g) (i : Nat) (v : Value) : Row (w.setCell ⟨b, i, none⟩ v) b t (fun j => if j = i then v else g j) := by
  unfold Row
  rw [heap_setCell_same w b i _ t v h, rowV_set]
theorem Row.other {w : World} {b : Nat} {t : TypeId} {g : Nat → Value} (h : Row w b t g) {a : Addr} (ha : b ≠ a.block) (v : Value) : Row (w.setCell a v) b t g := (heap_setCell_other w a b v ha).trans h
theorem Row.on {w w' : World} {b B : Nat} {t : TypeId} {g : Nat → Value} (h : Row w b t g) (k : Below B w w') (hb : b < B) : Row w' b t g := (k.block b hb).trans h
theorem Row.is {w : World} {b : Nat} {t : TypeId} {g k : Nat → Value} (h : Row w b t g) (e : ∀ i, i < 256 → g i = k i) : Row w b t k := by
  unfold Row at *; rw [h, rowV_congr e]
theorem Row.set {w : World} {b : Nat} {t : TypeId} {g : Nat → Value} (h : Row w b t g) (k : Nat → Value) : Row (w.setRow b (rowV k)) b t k := setRow_heap w b _ _ t _ h
/-- but for block b the world w' is as w was, below its end -/
structure Beside (b : Nat) (w w' : World) : Prop where
  os : w'.os = w.os
  tape : w'.tape = w.tape
  output : w'.output = w.output
  size : w.heap.size ≤ w'.heap.size
  block : ∀ k, k < w.heap.size → k ≠ b → w'.heap[k]? = w.heap[k]?
theorem Beside.refl (b : Nat) (w : World) : Beside b w w := ⟨rfl, rfl, rfl, Nat.le_refl _, fun _ _ _ => rfl⟩
theorem Beside.trans {b : Nat} {u v w : World} (h : Beside b u v) (k : Beside b v w) : Beside b u w :=
  ⟨k.os.trans h.os, k.tape.trans h.tape, k.output.trans h.output, Nat.le_trans h.size k.size, fun i hi e => (k.block i (Nat.lt_of_lt_of_le hi h.size) e).trans (h.block i hi e)⟩
theorem Beside.of {b : Nat} {w w' : World} (h : Below w.heap.size w w') : Beside b w w' := ⟨h.os, h.tape, h.output, h.size, fun k hk _ => h.block k hk⟩
theorem Beside.put {b : Nat} {u w : World} (h : Beside b u w) (i : Nat) (v : Value) : Beside b u (w.setCell ⟨b, i, none⟩ v) :=
  h.trans ⟨rfl, rfl, rfl, by rw [World.size_setCell]; exact Nat.le_refl _, fun k _ e => heap_setCell_other w _ k v e⟩
theorem Beside.below {b B : Nat} {w w' : World} (h : Beside b w w') (hB : B ≤ w.heap.size) (hb : B ≤ b) : Below B w w' := ⟨h.os, h.tape, h.output, h.size, fun k hk => h.block k (by omega) (by omega)⟩
theorem Beside.new {b B : Nat} {u w w' : World} (h : Below B u w) (k : Beside b w w') (hB : B ≤ w.heap.size) (hb : B ≤ b) : Below B u w' := h.trans (k.below hB hb)
theorem Row.beside {w w' : World} {b c : Nat} {t : TypeId} {g : Nat → Value} (h : Row w b t g) (k : Beside c w w') (hb : b ≠ c) : Row w' b t g := (k.block b h.lt hb).trans h
end Go.Proofs.YtenlogfiabhfmaaGreatDoor.Row256
/-
  Layer 13 (class), walks of the program's functions on an array of truths. The conditions stand in the statements.
-/
namespace Go.Proofs.YtenlogfiabhfmaaGreatDoor.W13
set_option maxRecDepth 100000
open Go Go.RowKit Go.Proofs.YtenlogfiabhfmaaGreatDoor.M13 Go.Proofs.YtenlogfiabhfmaaGreatDoor.Row256
open Go.Proofs.YtenlogfiabhfmaaGreatDoor.Kit (ret_str ret_bool ret_int mk_of mk_bytes ba_ext below_draws on)

def bv (f : Nat → Bool) (i : Nat) : Value := .bool (f i)
theorem bv_eq {f g : Nat → Bool} {i : Nat} (h : f i = g i) : bv f i = bv g i := by unfold bv; rw [h]
theorem bv_one (f : Nat → Bool) (i : Nat) : (bv f i).oneCell' = true := rfl
theorem info37 : (Tryz.prog.info? 62).map (fun i => (i.zero, i.size)) = some (some (Value.agg (Array.replicate 256 (.bool false))), 256) := by kernel_rfl
theorem zero37 (w : World) : (zeroValue 62).run Tryz.prog w = .ok (.agg (rowV (bv fun _ => false))) w := by
  have h := (zero_of_info info37).1 w
  rw [rowV_same] at h; exact h
theorem size37 : (Tryz.prog.info? 62).map (·.size) = some 256 := (zero_of_info info37).2

theorem size_row (g : Nat → Value) : (Tryz.prog.info? 62).map (·.size) = some (rowV g).size := by rw [rowV_size]; exact size37
/-- a whole array is loaded from a block, and stored into one -/
theorem load_row {ops : Array Oper} {rest : List Oper} {o : Oper} {a : Act} {w : World} {Q : Exit → Act → World → Prop} (hgd : o.guard = none) (x : Operand) (ho : o.op = .load 62 x)
    {b : Nat} (hx : a.eval x = .pointer (some ⟨b, 0, none⟩)) {t : TypeId} {f : Nat → Value} (hr : Row w b t f) (h : wpList Tryz.prog ops Q rest (a.put o.dst (.agg (rowV f))) w) : wpList Tryz.prog ops Q (o :: rest) a w :=
  wpList_load_row hgd 62 x ho b hx t (rowV f) (0, 0) _ hr Tryz.underlying62 rfl (size_row f) h
theorem store_row {ops : Array Oper} {rest : List Oper} {o : Oper} {a : Act} {w : World} {Q : Exit → Act → World → Prop} (hgd : o.guard = none) (x y : Operand) (ho : o.op = .store 62 x y)
    {b : Nat} {f : Nat → Bool} {g : Nat → Value} (hx : a.eval x = .pointer (some ⟨b, 0, none⟩)) (hy : a.eval y = .agg (rowV (bv f))) {t : TypeId} (hr : Row w b t g)
    (h : ∀ w', Row w' b t (bv f) → Beside b w w' → wpList Tryz.prog ops Q rest (a.put o.dst undef) w') : wpList Tryz.prog ops Q (o :: rest) a w :=
  wpList_store_row hgd 62 x y ho b (rowV (bv f)) hx hy t (rowV g) hr (size_row _) (by rw [rowV_size, rowV_size]) (rowV_one (bv_one f))
    (h _ (hr.set _) ⟨rfl, rfl, rfl, by rw [setRow_size]; exact Nat.le_refl _, fun k _ e => setRow_other w b k _ e⟩)
/-- a function ends whose one result is an array in a block of its own -/
theorem end_row {fn : Func} {R : Ending → World → Prop} {a : Act} {w : World} {p : Tmp} {b : Nat} {t : TypeId} {f : Nat → Value} (hf : fn.results = #[.cell p 62]) (hp : a.tmps.getD p undef = .pointer (some ⟨b, 0, none⟩)) (hr : Row w b t f) (hd : a.defers = [])
    (hR : R (.returned (.agg (rowV f))) w) : bodyPost Tryz.prog fn R .ret a w :=
  bodyPost_ret (results_cell_row hf a.tmps w b t (rowV f) (0, 0) _ hp hr Tryz.underlying62 rfl (size_row f)) hd hR

/-- one round of a loop that writes truth by truth -/
theorem row_step {w : World} {b i : Nat} {t : TypeId} {F G : Nat → Bool} {v : Bool} (h : Row w b t (bv fun j => if j < i then F j else G j)) (hv : v = F i) : Row (w.setCell ⟨b, i, none⟩ (.bool v)) b t (bv fun j => if j < i + 1 then F j else G j) := by
  refine (h.put i (.bool v)).is fun j _ => ?_
  by_cases e : j = i
  · subst e
    rw [if_pos rfl, hv]
    exact bv_eq (f := fun _ => F j) (by rw [if_pos (by omega)])
  · rw [if_neg e]
    refine bv_eq ?_
    by_cases e2 : j < i
    · rw [if_pos e2, if_pos (by omega)]
    · rw [if_neg e2, if_neg (by omega)]

set_option maxHeartbeats 1000000 in
theorem span_any {w : World} {b : Nat} {t : TypeId} {f : Nat → Bool} (h : Row w b t (bv f)) (a c : UInt8) :
    Calls Tryz.prog 68 #[.pointer (some ⟨b, 0, none⟩), .int .u8 a.toNat, .int .u8 c.toNat] w fun e w' => e = .returned (.tuple #[]) ∧ Row w' b t (bv fun i => f i || between a.toNat c.toNat i) ∧ Beside b w w' := by
  have HC := Lib.hid h
  clear h
  have hc256 : c.toNat < 256 := UInt8.toNat_lt c
  have ha256 : a.toNat < 256 := UInt8.toNat_lt a
  go_enter Tryz.func68, Tryz.ntmps68
  go_wp2_with fail
  go_loopg [6] (c.toNat + 1 - a.toNat) (fun g s6 wr => ∃ i : Nat, s6 = .int .i64 i ∧ a.toNat ≤ i ∧ (i + g = c.toNat + 1 ∨ g = 0 ∧ c.toNat < i) ∧ Hid (Row wr b t (bv fun j => f j || (decide (a.toNat ≤ j) && decide (j < i) && decide (j ≤ c.toNat)))) ∧ Hid (Beside b w wr))
  case atStart =>
    refine ⟨a.toNat, rfl, Nat.le_refl _, by omega, HC.out.is fun j _ => bv_eq ?_, Beside.refl _ _⟩
    have e : (decide (a.toNat ≤ j) && decide (j < a.toNat)) = false := by simp
    rw [e, Bool.false_and, Bool.or_false]
  case round =>
    obtain ⟨i, rfl, hai, hig, hr, hb⟩ := hrel
    cases gk with
    | zero =>
      have hi : c.toNat < i := by omega
      have hi2 : ¬ ((i : Int) ≤ (c.toNat : Int)) := by omega
      have HI := Lib.hid hi
      clear hi hig
      go_wp2
      go_end0
      refine ⟨rfl, hr.out.is fun j _ => bv_eq ?_, hb.out⟩
      unfold between
      by_cases e : j ≤ c.toNat
      · have := HI.out
        rw [decide_eq_true (show j < i by omega), Bool.and_true]
      · rw [decide_eq_false e, Bool.and_false, Bool.and_false]
    | succ g =>
      have hi : i ≤ c.toNat := by omega
      have hi2 : (i : Int) ≤ (c.toNat : Int) := by omega
      have hi3 : (i : Int) < 256 := by omega
      have hcell := hr.out.cell (i := i) (by omega)
      have hfree := hr.out.free i
      generalize hold : bv (fun j => f j || (decide (a.toNat ≤ j) && decide (j < i) && decide (j ≤ c.toNat))) i = old at hcell
      clear hold
      go_wp2
      go_roundg g
      case measure => omega
      case rel =>
        refine ⟨i + 1, by first | rfl | simp, by omega, by omega, (hr.out.put i (.bool true)).is fun j _ => ?_, hb.out.put i _⟩
        by_cases e : j = i
        · subst e
          rw [if_pos rfl]
          refine (bv_eq (f := fun _ => true) ?_)
          rw [decide_eq_true hai, decide_eq_true (show j < j + 1 by omega), decide_eq_true hi, Bool.and_true, Bool.and_true, Bool.or_true]
        · rw [if_neg e]
          refine bv_eq ?_
          rw [show decide (j < i + 1) = decide (j < i) from decide_eq_decide.2 (by omega)]
end Go.Proofs.YtenlogfiabhfmaaGreatDoor.W13
/-
  Layer 13 (class): the program's text of 256 truths. The conditions stand in the statements.
-/
namespace Go.Proofs.YtenlogfiabhfmaaGreatDoor.W13
set_option maxRecDepth 100000
open Go Go.RowKit Go.Proofs.YtenlogfiabhfmaaGreatDoor.M13 Go.Proofs.YtenlogfiabhfmaaGreatDoor.Row256
open Go.Proofs.YtenlogfiabhfmaaGreatDoor.Kit (ret_str ret_bool ret_int mk_of mk_bytes ba_ext below_draws on)

/-- the text of 256 truths, as a value's bytes -/
def tx (f : Nat → Bool) : ByteArray := ⟨(textOf f).toArray⟩
theorem tx_congr {f g : Nat → Bool} (h : ∀ i, i < 256 → f i = g i) : tx f = tx g := by unfold tx; rw [textOf_congr h]
def uv (f : Nat → UInt8) (i : Nat) : Value := .int .u8 (f i).toNat
theorem uv_eq {f g : Nat → UInt8} {i : Nat} (h : f i = g i) : uv f i = uv g i := by unfold uv; rw [h]
theorem info52 : (Tryz.prog.info? 75).map (fun i => (i.zero, i.size)) = some (some (Value.agg (Array.replicate 256 (.int .u8 0))), 256) := by kernel_rfl
theorem zero52 (w : World) : (zeroValue 75).run Tryz.prog w = .ok (.agg (rowV (uv fun _ => 0))) w := by
  have h := (zero_of_info info52).1 w
  rw [rowV_same] at h; exact h
/-- one round of the loop that writes the text's bytes -/
theorem byte_step {w : World} {b i : Nat} {t : TypeId} {F : Nat → UInt8} {v : Value} (h : Row w b t (uv fun j => if j < i then F j else 0)) (u : Value) (hv : v = uv F i) : Row ((w.setCell ⟨b, i, none⟩ u).setCell ⟨b, i, none⟩ v) b t (uv fun j => if j < i + 1 then F j else 0) := by
  refine ((h.put i u).put i v).is fun j _ => ?_
  by_cases e : j = i
  · subst e
    rw [if_pos rfl, hv]
    exact uv_eq (g := fun k => if k < j + 1 then F k else 0) (by rw [if_pos (by omega)])
  · rw [if_neg e, if_neg e]
    refine uv_eq ?_
    by_cases e2 : j < i
    · rw [if_pos e2, if_pos (by omega)]
    · rw [if_neg e2, if_neg (by omega)]
theorem byte_step0 {w : World} {b i : Nat} {t : TypeId} {F : Nat → UInt8} {v : Value} (h : Row w b t (uv fun j => if j < i then F j else 0)) (hv : v = uv F i) : Row (w.setCell ⟨b, i, none⟩ v) b t (uv fun j => if j < i + 1 then F j else 0) := by
  refine (h.put i v).is fun j _ => ?_
  by_cases e : j = i
  · subst e
    rw [if_pos rfl, hv]
    exact uv_eq (g := fun k => if k < j + 1 then F k else 0) (by rw [if_pos (by omega)])
  · rw [if_neg e]
    refine uv_eq ?_
    by_cases e2 : j < i
    · rw [if_pos e2, if_pos (by omega)]
    · rw [if_neg e2, if_neg (by omega)]
theorem conv_row {w : World} {b : Nat} {t : TypeId} {f : Nat → Bool} (h : Row w b t (uv fun j => bit (f j))) : (convert 76 9 (.slice (some ⟨b, 0, none⟩) 256 256)).run Tryz.prog w = .ok (.string (tx f)) w := by
  have h2 := run_convert_bytes_back (P := Tryz.prog) w 76 9 5 ⟨b, 0, none⟩ 256 (textOf f) Tryz.underlying76 Tryz.underlying5 Tryz.underlying9 (fun j hj => by
    have hj2 : j < 256 := by rw [textOf_len] at hj; exact hj
    have hc := h.cell hj2
    have hadd : (⟨b, 0, none⟩ : Addr).add j = ⟨b, j, none⟩ := by unfold Addr.add; split <;> simp_all
    have e : (textOf f)[j]'hj = bit (f j) := by
      have := textOf_get f hj2
      rw [List.getElem?_eq_getElem hj] at this
      exact Option.some.inj this
    rw [hadd, hc]
    show some (Value.int .u8 (bit (f j)).toNat) = some (Value.int .u8 ((textOf f)[j]'hj).toNat)
    rw [e])
  rw [textOf_len] at h2
  exact h2
set_option maxHeartbeats 1000000 in
theorem text_any (f : Nat → Bool) (w : World) :
    Calls Tryz.prog 45 #[.agg (rowV (bv f))] w fun e w' => e = .returned (.string (tx f)) ∧ Below w.heap.size w w' := by
  have hz := zero52
  go_enter Tryz.func45, Tryz.ntmps45
  go_wp2_with fail
  have hn1 : Row (w.alloc (.cells (rowV (bv f)) 62)) w.heap.size 62 (bv f) := Row.new _ _ _
  have hn2 := Row.new (w.alloc (.cells (rowV (bv f)) 62)) 75 (uv fun _ => 0)
  rw [World.size_alloc] at hn2
  have HN := Lib.hid (And.intro (hn1.alloc (.cells (rowV (uv fun _ => 0)) 75)) hn2)
  have HB := Lib.hid ((Below.refl w.heap.size w).alloc (Nat.le_refl _) (.cells (rowV (bv f)) 62) |>.alloc (by rw [World.size_alloc]; omega) (.cells (rowV (uv fun _ => 0)) 75))
  clear hn1 hn2 hz
  generalize ((w.alloc (.cells (rowV (bv f)) 62)).alloc (.cells (rowV (uv fun _ => 0)) 75)) = w1 at HN HB ⊢
  go_loopg [5] 256 (fun g s5 wr => ∃ i : Nat, s5 = .int .i64 i ∧ i + g = 256 ∧ Hid (Row wr (w.heap.size + 1) 75 (uv fun j => if j < i then bit (f j) else 0)) ∧ Hid (Row wr w.heap.size 62 (bv f)) ∧ Hid (Below w.heap.size w wr))
  case atStart => exact ⟨0, rfl, rfl, HN.out.2.is fun j _ => uv_eq (by rw [if_neg (by omega)]), HN.out.1, HB⟩
  case round =>
    obtain ⟨i, rfl, hig, hr, hz, hb⟩ := hrel
    cases gk with
    | zero =>
      obtain rfl : i = 256 := by omega
      have hconv := conv_row (f := f) (hr.out.is fun j hj => uv_eq (by rw [if_pos hj]))
      go_wp2_with fail
      go_ret
      exact ⟨rfl, hb.out⟩
    | succ g =>
      have hi3 : (i : Int) < 256 := by omega
      have hcell := hr.out.cell (i := i) (by omega)
      have hfree := hr.out.free i
      generalize hold : uv (fun j => if j < i then bit (f j) else 0) i = old at hcell
      clear hold
      have hcell2 : wr.cell? ⟨w.heap.size, i, none⟩ = some (.bool (f i)) := hz.out.cell (i := i) (by omega)
      cases hf : f i with
      | true =>
        rw [hf] at hcell2
        go_wp2_with fail
        go_roundg g
        case measure => omega
        case rel => exact ⟨i + 1, by first | rfl | simp, by omega, byte_step hr.out _ (by rw [show uv (fun j => bit (f j)) i = .int .u8 (bit (f i)).toNat from rfl, hf]; rfl), (hz.out.other (a := ⟨w.heap.size + 1, i, none⟩) (by simp) _).other (by simp) _, (hb.out.setCell (p := ⟨w.heap.size + 1, i, none⟩) (by simp) _).setCell (by simp) _⟩
      | false =>
        rw [hf] at hcell2
        go_wp2_with fail
        go_roundg g
        case measure => omega
        case rel => exact ⟨i + 1, by first | rfl | simp, by omega, byte_step0 hr.out (by rw [show uv (fun j => bit (f j)) i = .int .u8 (bit (f i)).toNat from rfl, hf]; rfl), hz.out.other (by simp) _, hb.out.setCell (by simp) _⟩
end Go.Proofs.YtenlogfiabhfmaaGreatDoor.W13
/-
  Layer 13 (class), walks of the document's own answers: Make, Span, Has, Union, Not, Count, Named. The conditions stand in the statements.
-/
namespace Go.Proofs.YtenlogfiabhfmaaGreatDoor.W13
set_option maxRecDepth 100000
open Go Go.RowKit Go.Proofs.YtenlogfiabhfmaaGreatDoor.M13 Go.Proofs.YtenlogfiabhfmaaGreatDoor.Row256
open Go.Proofs.YtenlogfiabhfmaaGreatDoor.Kit (ret_str ret_bool ret_int mk_of mk_bytes ba_ext below_draws on take_next cat_bytes)

theorem infoBool : (Tryz.prog.info? 4).map (fun i => (i.zero, i.size, i.bytes)) = some (some (Value.bool false), 1, 1) := by kernel_rfl
set_option maxHeartbeats 1000000 in
theorem refMake_any {w : World} {b : Nat} {t : TypeId} {f : Nat → Bool} (h : Row w b t (bv f)) :
    Calls Tryz.prog 63 #[.slice (some ⟨b, 0, none⟩) 256 256] w fun e w' => e = .returned (.string (tx f)) ∧ w' = w := by
  have HC := Lib.hid h
  clear h
  go_enter Tryz.func63, Tryz.ntmps63
  go_wp2_with fail
  go_loopg [3, 4] 256 (fun g s3 s4 wr => ∃ (i : Nat) (d : ByteArray), s3 = .string d ∧ s4 = .int .i64 i ∧ i + g = 256 ∧ Hid (d.data.toList = (List.range i).map fun j => bit (f j)) ∧ wr = w)
  case atStart => exact ⟨0, ⟨#[]⟩, rfl, rfl, rfl, rfl, rfl⟩
  case round =>
    obtain ⟨i, d, rfl, rfl, hig, hd, rfl⟩ := hrel
    cases gk with
    | zero =>
      obtain rfl : i = 256 := by omega
      go_wp2_with fail
      go_ret
      exact ⟨ret_str (ba_ext hd.out), rfl⟩
    | succ g =>
      have hi3 : (i : Int) < 256 := by omega
      have hcell : wr.cell? ⟨b, i, none⟩ = some (.bool (f i)) := HC.out.cell (i := i) (by omega)
      have hstep : ∀ u : UInt8, u = bit (f i) → Hid ((d ++ ⟨#[u]⟩).data.toList = (List.range (i + 1)).map fun j => bit (f j)) := by
        intro u hu
        unfold Hid
        rw [cat_bytes, hd.out, List.range_succ, List.map_append, hu]; rfl
      have HS := Lib.hid hstep
      clear hstep
      have hdz : d.size = i := by rw [Lib.size_eq, hd.out, List.length_map, List.length_range]
      have hn : ¬ 9223372036854775807 < d.size + 1 := by omega
      clear hdz
      cases hf : f i with
      | true =>
        rw [hf] at hcell
        go_wp2_with fail
        go_roundg g
        case measure => omega
        case rel => exact ⟨i + 1, _, rfl, by first | rfl | simp, by omega, HS.out 49 (by rw [hf]; rfl), rfl⟩
      | false =>
        rw [hf] at hcell
        go_wp2_with fail
        go_roundg g
        case measure => omega
        case rel => exact ⟨i + 1, _, rfl, by first | rfl | simp, by omega, HS.out 48 (by rw [hf]; rfl), rfl⟩
theorem made_row (v : Value) : madeCells #[v] 256 = rowV fun _ => v := by
  refine rowV_ext (size_madeCells _ _) fun j hj => ?_
  simp [madeCells, hj, Nat.mod_one]
theorem make_row (w : World) : (Instr.makeSlice 86 (.int .i64 256) (.int .i64 256)).run Tryz.prog w = .ok (.slice (some ⟨w.heap.size, 0, none⟩) 256 256) (w.alloc (.cells (rowV (bv fun _ => false)) 4)) := by
  have h := run_make_row' (P := Tryz.prog) 86 4 (.bool false) 1 Tryz.underlying86 infoBool rfl .i64 .i64 256 (by omega) (by omega) w
  rw [made_row] at h
  exact h
theorem new_bools (w : World) : Row (w.alloc (.cells (rowV (bv fun _ => false)) 4)) w.heap.size 4 (bv fun _ => false) ∧ Below w.heap.size w (w.alloc (.cells (rowV (bv fun _ => false)) 4)) :=
  ⟨Row.new _ _ _, (Below.refl w.heap.size w).alloc (Nat.le_refl _) _⟩
set_option maxHeartbeats 1000000 in
theorem refSpan_any (a c : Nat) (hc : c < 256) (w : World) : Calls Tryz.prog 51 #[.int .i64 a, .int .i64 c] w fun e w' => e = .returned (.string (tx (between a c))) ∧ Below w.heap.size w w' := by
  have hmk := make_row
  have HC := Lib.hid hc
  clear hc
  go_enter Tryz.func51, Tryz.ntmps51
  go_wp2_with fail
  have HN := Lib.hid (new_bools w)
  generalize (w.alloc (.cells (rowV (bv fun _ => false)) 4)) = w1 at HN ⊢
  clear hmk
  go_loopg [6] (c + 1 - a) (fun g s6 wr => ∃ i : Nat, s6 = .int .i64 i ∧ a ≤ i ∧ (i + g = c + 1 ∨ g = 0 ∧ c < i) ∧ Hid (Row wr w.heap.size 4 (bv fun j => decide (a ≤ j) && decide (j < i) && decide (j ≤ c))) ∧ Hid (Below w.heap.size w wr))
  case atStart =>
    refine ⟨a, rfl, Nat.le_refl _, by omega, HN.out.1.is fun j _ => bv_eq ?_, HN.out.2⟩
    have e : (decide (a ≤ j) && decide (j < a)) = false := by simp
    rw [e, Bool.false_and]
  case round =>
    obtain ⟨i, rfl, hai, hig, hr, hb⟩ := hrel
    cases gk with
    | zero =>
      have hi : c < i := by omega
      have hi2 : ¬ ((i : Int) ≤ (c : Int)) := by omega
      have HI := Lib.hid hi
      clear hi hig
      go_wp2_with fail
      refine (refMake_any hr.out).mono ?_
      rintro e w2 ⟨rfl, rfl⟩
      go_wp2_with fail
      go_ret
      refine ⟨congrArg (fun x => Ending.returned (.string x)) (tx_congr fun j _ => ?_), hb.out⟩
      unfold between
      by_cases e : j ≤ c
      · have := HI.out
        rw [decide_eq_true (show j < i by omega), Bool.and_true]
      · rw [decide_eq_false e, Bool.and_false, Bool.and_false]
    | succ g =>
      have hi : i ≤ c := by omega
      have hi2 : (i : Int) ≤ (c : Int) := by omega
      have hi3 : (i : Int) < 256 := by have := HC.out; omega
      have hcell := hr.out.cell (i := i) (by omega)
      have hfree := hr.out.free i
      generalize hold : bv (fun j => decide (a ≤ j) && decide (j < i) && decide (j ≤ c)) i = old at hcell
      clear hold
      go_wp2_with fail
      go_roundg g
      case measure => omega
      case rel =>
        refine ⟨i + 1, by first | rfl | simp, by omega, by omega, (hr.out.put i (.bool true)).is fun j _ => ?_, hb.out.setCell (Nat.le_refl _) _⟩
        by_cases e : j = i
        · subst e
          rw [if_pos rfl]
          refine (bv_eq (f := fun _ => true) ?_)
          rw [decide_eq_true hai, decide_eq_true (show j < j + 1 by omega), decide_eq_true hi]; rfl
        · rw [if_neg e]
          refine bv_eq ?_
          rw [show decide (j < i + 1) = decide (j < i) from decide_eq_decide.2 (by omega)]
theorem byte_is (s : ByteArray) {i : Nat} (hi : i < s.size) (u : UInt8) : ((s[i].toNat : Int) == (u.toNat : Int)) = decide (s[i] = u) := Kit.byte_test _ _
theorem good_of {s : ByteArray} (hs : s.size = 256) (h : ∀ j (hj : j < s.size), s[j] = 48 ∨ s[j] = 49) : good s.data.toList = true := by
  unfold good
  rw [← Lib.size_eq, decide_eq_true hs, Bool.true_and, List.all_eq_true]
  intro c hc
  obtain ⟨j, hj, rfl⟩ := List.mem_iff_getElem.1 hc
  have := h j (by rw [Lib.size_eq]; exact hj)
  rcases this with e | e
  · rw [show s.data.toList[j] = 48 from e]; rfl
  · rw [show s.data.toList[j] = 49 from e]; rfl
theorem bad_of {s : ByteArray} {j : Nat} (hj : j < s.size) (h0 : ¬ s[j] = 48) (h1 : ¬ s[j] = 49) : good s.data.toList = false := by
  cases h : good s.data.toList with
  | false => rfl
  | true =>
    exfalso
    unfold good at h
    have h2 := List.all_eq_true.1 (Bool.and_eq_true_iff.1 h).2 s[j] (List.getElem_mem _)
    rw [decide_eq_false h0, decide_eq_false h1] at h2
    cases h2
theorem has_at2 {s : ByteArray} (hg : good s.data.toList = true) {i : Nat} (hi : i < s.size) : ((s[i].toNat : Int) == 49) = has s.data.toList i := by
  rw [has_good hg, Kit.byte_get s i hi]
  exact byte_is s hi 49
set_option maxHeartbeats 1000000 in
theorem refHas_any (s : ByteArray) (c : Nat) (w : World) : Calls Tryz.prog 64 #[.string s, .int .i64 c] w fun e w' => e = .returned (.bool (has s.data.toList c)) ∧ w' = w := by
  have h0 : ¬ ((c : Int) < 0) := by omega
  by_cases hs : s.size = 256
  · have hz : (((s.size : Nat) : Int) != 256) = false := by rw [hs]; rfl
    by_cases hc : c < 256
    · have hc2 : ¬ (255 < (c : Int)) := by omega
      have HS := Lib.hid (And.intro hs hc)
      clear hs hc
      go_enter Tryz.func64, Tryz.ntmps64
      go_wp2_with fail
      go_loopg [5] 256 (fun g s5 wr => ∃ i : Nat, s5 = .int .i64 i ∧ i + g = 256 ∧ Hid (∀ j (hj : j < s.size), j < i → s[j] = 48 ∨ s[j] = 49) ∧ wr = w)
      case atStart => exact ⟨0, rfl, rfl, fun j _ h => absurd h (by omega), rfl⟩
      case round =>
        obtain ⟨i, rfl, hig, hall, rfl⟩ := hrel
        cases gk with
        | zero =>
          obtain rfl : i = 256 := by omega
          have hg := good_of HS.out.1 (fun j hj => hall.out j hj (by rw [← HS.out.1]; exact hj))
          have hcs : c < s.size := by rw [HS.out.1]; exact HS.out.2
          have HV := Lib.hid (has_at2 hg hcs)
          clear hg
          go_wp2_with fail
          go_ret
          exact ⟨ret_bool HV.out, rfl⟩
        | succ g =>
          have hi : i < s.size := by rw [HS.out.1]; omega
          have hi3 : (i : Int) < 256 := by omega
          by_cases e0 : s[i] = 48
          · have t0 : (s[i].toNat : Int) = 48 := by rw [e0]; rfl
            have HE := Lib.hid e0
            clear e0
            go_wp2_with fail
            go_roundg g
            case measure => omega
            case rel =>
              refine ⟨i + 1, by first | rfl | simp, by omega, fun j hj h => ?_, rfl⟩
              by_cases e : j = i
              · subst e; exact Or.inl HE.out
              · exact hall.out j hj (by omega)
          · have t0 : ¬ (s[i].toNat : Int) = 48 := fun e => e0 (UInt8.toNat_inj.1 (show s[i].toNat = 48 by omega))
            by_cases e1 : s[i] = 49
            · have t1 : (s[i].toNat : Int) = 49 := by rw [e1]; rfl
              have HE := Lib.hid e1
              clear e0 e1 t0
              go_wp2_with fail
              go_roundg g
              case measure => omega
              case rel =>
                refine ⟨i + 1, by first | rfl | simp, by omega, fun j hj h => ?_, rfl⟩
                by_cases e : j = i
                · subst e; exact Or.inr HE.out
                · exact hall.out j hj (by omega)
            · have t1 : ¬ (s[i].toNat : Int) = 49 := fun e => e1 (UInt8.toNat_inj.1 (show s[i].toNat = 49 by omega))
              have HV := Lib.hid (has_bad (bad_of hi e0 e1) c)
              have q0 : ((s[i].toNat : Int) != 48) = true := by simpa using t0
              have q1 : ((s[i].toNat : Int) != 49) = true := by simpa using t1
              clear e0 e1 t0 t1
              go_wp2_with fail
              go_ret
              exact ⟨ret_bool HV.out.symm, rfl⟩
    · have hc2 : 255 < (c : Int) := by omega
      have HV := Lib.hid (has_far (s := s.data.toList) (i := c) (by omega))
      clear hs hc
      go_enter Tryz.func64, Tryz.ntmps64
      go_wp2_with fail
      go_ret
      exact ⟨ret_bool HV.out.symm, rfl⟩
  · have hz : (((s.size : Nat) : Int) != 256) = true := by simp; omega
    have hb : good s.data.toList = false := by unfold good; rw [← Lib.size_eq, decide_eq_false hs]; rfl
    have HV := Lib.hid (has_bad hb c)
    clear hs hb
    go_enter Tryz.func64, Tryz.ntmps64
    go_wp2_with fail
    go_ret
    exact ⟨ret_bool HV.out.symm, rfl⟩
set_option maxHeartbeats 1000000 in
theorem refUnion_any (a b : ByteArray) (w : World) : Calls Tryz.prog 53 #[.string a, .string b] w fun e w' => e = .returned (.string (tx fun i => has a.data.toList i || has b.data.toList i)) ∧ Below w.heap.size w w' := by
  have hmk := make_row
  go_enter Tryz.func53, Tryz.ntmps53
  go_wp2_with fail
  have HN := Lib.hid (new_bools w)
  generalize (w.alloc (.cells (rowV (bv fun _ => false)) 4)) = w1 at HN ⊢
  clear hmk
  go_loopg [6] 256 (fun g s6 wr => ∃ i : Nat, s6 = .int .i64 i ∧ i + g = 256 ∧ Hid (Row wr w.heap.size 4 (bv fun j => if j < i then has a.data.toList j || has b.data.toList j else false)) ∧ Hid (Below w.heap.size w wr))
  case atStart => exact ⟨0, rfl, rfl, HN.out.1.is fun j _ => bv_eq (by rw [if_neg (by omega)]), HN.out.2⟩
  case round =>
    obtain ⟨i, rfl, hig, hr, hb⟩ := hrel
    cases gk with
    | zero =>
      obtain rfl : i = 256 := by omega
      go_wp2_with fail
      refine (refMake_any hr.out).mono ?_
      rintro e w2 ⟨rfl, rfl⟩
      go_wp2_with fail
      go_ret
      exact ⟨congrArg (fun x => Ending.returned (.string x)) (tx_congr fun j hj => by first | rw [if_pos hj] | rw [decide_eq_true hj, Bool.true_and]), hb.out⟩
    | succ g =>
      have hi3 : (i : Int) < 256 := by omega
      have hcell := hr.out.cell (i := i) (by omega)
      have hfree := hr.out.free i
      generalize hold : bv (fun j => if j < i then has a.data.toList j || has b.data.toList j else false) i = old at hcell
      clear hold
      obtain ⟨W0, rfl⟩ : ∃ W0 : World, W0 = wr := ⟨_, rfl⟩
      go_wp2_with fail
      refine (refHas_any _ _ _).mono ?_
      rintro e w2 ⟨rfl, rfl⟩
      cases hA : has a.data.toList i with
      | true =>
        go_wp2_with fail
        go_roundg g
        case measure => omega
        case rel => exact ⟨i + 1, by first | rfl | simp, by omega, row_step hr.out (by rw [hA]; rfl), hb.out.setCell (Nat.le_refl _) _⟩
      | false =>
        go_wp2_with fail
        refine (refHas_any _ _ _).mono ?_
        rintro e w2 ⟨rfl, rfl⟩
        go_wp2_with fail
        go_roundg g
        case measure => omega
        case rel => exact ⟨i + 1, by first | rfl | simp, by omega, row_step hr.out (by rw [hA]; rfl), hb.out.setCell (Nat.le_refl _) _⟩
set_option maxHeartbeats 1000000 in
theorem refNot_any (a : ByteArray) (w : World) : Calls Tryz.prog 54 #[.string a] w fun e w' => e = .returned (.string (tx fun i => !has a.data.toList i)) ∧ Below w.heap.size w w' := by
  have hmk := make_row
  go_enter Tryz.func54, Tryz.ntmps54
  go_wp2_with fail
  have HN := Lib.hid (new_bools w)
  generalize (w.alloc (.cells (rowV (bv fun _ => false)) 4)) = w1 at HN ⊢
  clear hmk
  go_loopg [4] 256 (fun g s4 wr => ∃ i : Nat, s4 = .int .i64 i ∧ i + g = 256 ∧ Hid (Row wr w.heap.size 4 (bv fun j => if j < i then !has a.data.toList j else false)) ∧ Hid (Below w.heap.size w wr))
  case atStart => exact ⟨0, rfl, rfl, HN.out.1.is fun j _ => bv_eq (by rw [if_neg (by omega)]), HN.out.2⟩
  case round =>
    obtain ⟨i, rfl, hig, hr, hb⟩ := hrel
    cases gk with
    | zero =>
      obtain rfl : i = 256 := by omega
      go_wp2_with fail
      refine (refMake_any hr.out).mono ?_
      rintro e w2 ⟨rfl, rfl⟩
      go_wp2_with fail
      go_ret
      exact ⟨congrArg (fun x => Ending.returned (.string x)) (tx_congr fun j hj => by first | rw [if_pos hj] | rw [decide_eq_true hj, Bool.true_and]), hb.out⟩
    | succ g =>
      have hi3 : (i : Int) < 256 := by omega
      have hcell := hr.out.cell (i := i) (by omega)
      have hfree := hr.out.free i
      generalize hold : bv (fun j => if j < i then !has a.data.toList j else false) i = old at hcell
      clear hold
      go_wp2_with fail
      refine (refHas_any _ _ _).mono ?_
      rintro e w2 ⟨rfl, rfl⟩
      go_wp2_with fail
      go_roundg g
      case measure => omega
      case rel => exact ⟨i + 1, by first | rfl | simp, by omega, row_step hr.out rfl, hb.out.setCell (Nat.le_refl _) _⟩
/-! what these answer of texts of truths -/
theorem has_tx (f : Nat → Bool) {i : Nat} (h : i < 256) : has (tx f).data.toList i = f i := has_text f h
theorem refUnion_tx (f g : Nat → Bool) (w : World) : Calls Tryz.prog 53 #[.string (tx f), .string (tx g)] w fun e w' => e = .returned (.string (tx fun i => f i || g i)) ∧ Below w.heap.size w w' :=
  (refUnion_any _ _ _).mono fun _ _ h => ⟨h.1.trans (congrArg (fun x => Ending.returned (.string x)) (tx_congr fun i hi => by rw [has_tx f hi, has_tx g hi])), h.2⟩
theorem refNot_tx (f : Nat → Bool) (w : World) : Calls Tryz.prog 54 #[.string (tx f)] w fun e w' => e = .returned (.string (tx fun i => !f i)) ∧ Below w.heap.size w w' :=
  (refNot_any _ _).mono fun _ _ h => ⟨h.1.trans (congrArg (fun x => Ending.returned (.string x)) (tx_congr fun i hi => by rw [has_tx f hi])), h.2⟩
end Go.Proofs.YtenlogfiabhfmaaGreatDoor.W13
