/-
  Arguments that are tasks, or slices of them, opened. For this program's types; no condition but those that each theorem bears.
-/
import Derived.Test.YthplnkchmelbmaaDoorOpenRecs
import Derived.Test.YthplnkchmelbmaaDoorChecked
import Derived.Test.YthplnkchmelbmaaDoorTaskRec
import Derived.Test.YthplnkchmelbmaaDoorKit
namespace Go.Proofs.YthplnkchmelbmaaDoor.W09
open Go Go.RowKit Go.ChangeShapes Go.WideShapes Go.Deep Go.Joins
open Go.Proofs.YthplnkchmelbmaaDoor.Strs (strV)
open Go.Proofs.YthplnkchmelbmaaDoor.Recs
open Go.Proofs.YthplnkchmelbmaaDoor.Kit (mk_bytes)

theorem tk_struct : ∃ f0 f1 f2 : Field, Tryd.prog.underlying 23 = some (.struct #[f0, f1, f2]) ∧ f0.type = 3 ∧ f1.type = 9 ∧ f2.type = 9 ∧ oneCellFields Tryd.prog #[f0, f1, f2] = true :=
  ⟨_, _, _, Tryd.underlying23, rfl, rfl, rfl, by kernel_rfl⟩
theorem tk_cells : Tryd.prog.cellsOf 23 = 3 := by kernel_rfl
theorem three {α : Type} : ∀ {l : List α}, l.length = 3 → ∃ a b c, l = [a, b, c]
  | [a, b, c], _ => ⟨a, b, c, rfl⟩
section
variable {H : Type} {enc : TypeId × Value → H} {W : World} {base : Nat}
theorem tk_read (n : Nat) (cs : List Value) (x : DataW H × List MemPlace) (hl : cs.length = 3) (h : DataW.trod enc Tryd.prog W 0 (fun _ => true) true n 23 cs = some x) : ∃ r : Tk, cs = tkC r ∧ r.text.length ≤ maxLen := by
  obtain ⟨f0, f1, f2, hs, e0, e1, e2, hone⟩ := tk_struct
  obtain ⟨o0, k0⟩ := hone_of hone 0 f0 rfl
  obtain ⟨o1, k1⟩ := hone_of hone 1 f1 rfl
  obtain ⟨o2, k2⟩ := hone_of hone 2 f2 rfl
  obtain ⟨xs, m, _, _, _, hxl, hf⟩ := DataW.trod_struct hs h
  have hxl3 : xs.length = 3 := hxl
  have g0 := hf 0 f0 rfl
  have g1 := hf 1 f1 rfl
  have g2 := hf 2 f2 rfl
  rw [o0, k0, e0, List.getElem?_eq_getElem (by omega)] at g0
  rw [o1, k1, e1, List.getElem?_eq_getElem (by omega)] at g1
  rw [o2, k2, e2, List.getElem?_eq_getElem (by omega)] at g2
  obtain ⟨c0, c1, c2, rfl⟩ := three hl
  obtain ⟨z0, q0, _, _⟩ := DataW.trod_int Tryd.underlying3 g0
  obtain ⟨s1, q1, _, _⟩ := DataW.trod_string Tryd.underlying9 g1
  obtain ⟨s2, q2, _, hm⟩ := DataW.trod_string Tryd.underlying9 g2
  simp at q0 q1 q2
  subst q0 q1 q2
  refine ⟨⟨z0, s1.data.toList, s2.data.toList⟩, ?_, by rw [← Lib.size_eq]; exact hm⟩
  show _ = [_, strV s1.data.toList, strV s2.data.toList]
  unfold strV
  rw [mk_bytes, mk_bytes]
set_option maxRecDepth 100000 in
theorem open_task {v : Value} {d : DataW H} {p : List MemPlace} (hok : Value.okWide Tryd.prog W .any base 23 v) (h : DataW.Trod enc Tryd.prog W 0 (fun _ => true) true 23 v d p) :
    ∃ (k : Int) (a b : ByteArray), v = .agg #[.int .i64 k, .string a, .string b] ∧ b.size ≤ maxLen := by
  obtain ⟨f0, f1, f2, hs, -⟩ := tk_struct
  obtain ⟨cs, rfl, hsz⟩ := okWide_struct hs hok
  obtain ⟨fuel, hf⟩ := h
  obtain ⟨r, hr, hm⟩ := tk_read _ _ _ (by show cs.toList.length = 3; rw [Array.length_toList, hsz]; exact tk_cells) hf
  refine ⟨r.kind, ⟨r.path.toArray⟩, ⟨r.text.toArray⟩, ?_, by rw [Lib.size_eq]; exact hm⟩
  have hr2 : cs.toList = tkC r := hr
  have : cs = (tkC r).toArray := by rw [← hr2]
  rw [this]; rfl
set_option maxRecDepth 100000 in
theorem open_tasks {v : Value} {d : DataW H} {p : List MemPlace} (hok : Value.okWide Tryd.prog W .any base 38 v) (h : DataW.Trod enc Tryd.prog W 0 (fun _ => true) true 38 v d p) (hlt : ∀ x ∈ p, x.block < W.heap.size) :
    ∃ L : List Tk, Tasks W.heap.size W v L ∧ ∀ r ∈ L, r.text.length ≤ maxLen :=
  open_recs Tryd.underlying38 tk_cells (by omega) tk_read hok h hlt
end
end Go.Proofs.YthplnkchmelbmaaDoor.W09
