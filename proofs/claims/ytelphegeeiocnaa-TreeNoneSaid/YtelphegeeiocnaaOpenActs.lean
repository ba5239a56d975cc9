/-
  Arguments that are acts on a tree, or slices of them, opened. For this program's types; no condition but those that each theorem bears.
-/
import Derived.Test.YtelphegeeiocnaaOpenRecs
import Derived.Test.YtelphegeeiocnaaW07Abs
namespace Go.Proofs.Ytelphegeeiocnaa.W07
open Go Go.RowKit Go.ChangeShapes Go.WideShapes Go.Deep Go.Joins
open Go.Proofs.Ytelphegeeiocnaa.Strs (strV)
open Go.Proofs.Ytelphegeeiocnaa.Recs Go.Proofs.Ytelphegeeiocnaa.M07
open Go.Proofs.Ytelphegeeiocnaa.Kit (mk_bytes)

theorem act_struct : ∃ f0 f1 f2 f3 f4 f5 f6 : Field, Try.prog.underlying 32 = some (.struct #[f0, f1, f2, f3, f4, f5, f6]) ∧ f0.type = 3 ∧ f1.type = 3 ∧ f2.type = 3 ∧ f3.type = 9 ∧ f4.type = 9 ∧ f5.type = 3 ∧ f6.type = 9 ∧ oneCellFields Try.prog #[f0, f1, f2, f3, f4, f5, f6] = true :=
  ⟨_, _, _, _, _, _, _, Try.underlying32, rfl, rfl, rfl, rfl, rfl, rfl, rfl, by kernel_rfl⟩
theorem act_cells : Try.prog.cellsOf 32 = 7 := by kernel_rfl
theorem seven {α : Type} : ∀ {l : List α}, l.length = 7 → ∃ a b c d e f g, l = [a, b, c, d, e, f, g]
  | [a, b, c, d, e, f, g], _ => ⟨a, b, c, d, e, f, g, rfl⟩
section
variable {H : Type} {enc : TypeId × Value → H} {W : World} {base : Nat}
theorem act_read (n : Nat) (cs : List Value) (x : DataW H × List MemPlace) (hl : cs.length = 7) (h : DataW.trod enc Try.prog W 0 (fun _ => true) true n 32 cs = some x) : ∃ r : Ac, cs = actC r ∧ r.data.length ≤ maxLen := by
  obtain ⟨f0, f1, f2, f3, f4, f5, f6, hs, e0, e1, e2, e3, e4, e5, e6, hone⟩ := act_struct
  obtain ⟨o0, k0⟩ := hone_of hone 0 f0 rfl
  obtain ⟨o1, k1⟩ := hone_of hone 1 f1 rfl
  obtain ⟨o2, k2⟩ := hone_of hone 2 f2 rfl
  obtain ⟨o3, k3⟩ := hone_of hone 3 f3 rfl
  obtain ⟨o4, k4⟩ := hone_of hone 4 f4 rfl
  obtain ⟨o5, k5⟩ := hone_of hone 5 f5 rfl
  obtain ⟨o6, k6⟩ := hone_of hone 6 f6 rfl
  obtain ⟨xs, m, _, _, _, hxl, hf⟩ := DataW.trod_struct hs h
  have hxl7 : xs.length = 7 := hxl
  have g0 := hf 0 f0 rfl
  have g1 := hf 1 f1 rfl
  have g2 := hf 2 f2 rfl
  have g3 := hf 3 f3 rfl
  have g4 := hf 4 f4 rfl
  have g5 := hf 5 f5 rfl
  have g6 := hf 6 f6 rfl
  rw [o0, k0, e0, List.getElem?_eq_getElem (by omega)] at g0
  rw [o1, k1, e1, List.getElem?_eq_getElem (by omega)] at g1
  rw [o2, k2, e2, List.getElem?_eq_getElem (by omega)] at g2
  rw [o3, k3, e3, List.getElem?_eq_getElem (by omega)] at g3
  rw [o4, k4, e4, List.getElem?_eq_getElem (by omega)] at g4
  rw [o5, k5, e5, List.getElem?_eq_getElem (by omega)] at g5
  rw [o6, k6, e6, List.getElem?_eq_getElem (by omega)] at g6
  obtain ⟨c0, c1, c2, c3, c4, c5, c6, rfl⟩ := seven hl
  obtain ⟨z0, q0, _, _⟩ := DataW.trod_int Try.underlying3 g0
  obtain ⟨z1, q1, _, _⟩ := DataW.trod_int Try.underlying3 g1
  obtain ⟨z2, q2, _, _⟩ := DataW.trod_int Try.underlying3 g2
  obtain ⟨s3, q3, _, _⟩ := DataW.trod_string Try.underlying9 g3
  obtain ⟨s4, q4, _, _⟩ := DataW.trod_string Try.underlying9 g4
  obtain ⟨z5, q5, _, _⟩ := DataW.trod_int Try.underlying3 g5
  obtain ⟨s6, q6, _, hm⟩ := DataW.trod_string Try.underlying9 g6
  simp at q0 q1 q2 q3 q4 q5 q6
  subst q0 q1 q2 q3 q4 q5 q6
  refine ⟨⟨z0, z1, z2, s3.data.toList, s4.data.toList, z5, s6.data.toList⟩, ?_, by rw [← Lib.size_eq]; exact hm⟩
  show _ = [_, _, _, strV s3.data.toList, strV s4.data.toList, _, strV s6.data.toList]
  unfold strV
  rw [mk_bytes, mk_bytes, mk_bytes]
theorem open_act {v : Value} {d : DataW H} {p : List MemPlace} (hok : Value.okWide Try.prog W .any base 32 v) (h : DataW.Trod enc Try.prog W 0 (fun _ => true) true 32 v d p) :
    ∃ x : Ac, v = .agg #[.int .i64 x.act, .int .i64 x.dir, .int .i64 x.to, .string ⟨x.name.toArray⟩, .string ⟨x.alias.toArray⟩, .int .i64 x.kind, .string ⟨x.data.toArray⟩] ∧ x.data.length ≤ maxLen := by
  obtain ⟨f0, f1, f2, f3, f4, f5, f6, hs, -⟩ := act_struct
  obtain ⟨cs, rfl, hsz⟩ := okWide_struct hs hok
  obtain ⟨fuel, hf⟩ := h
  obtain ⟨r, hr, hm⟩ := act_read _ _ _ (by show cs.toList.length = 7; rw [Array.length_toList, hsz]; exact act_cells) hf
  refine ⟨r, ?_, hm⟩
  have hr2 : cs.toList = actC r := hr
  have : cs = (actC r).toArray := by rw [← hr2]
  rw [this]; rfl
theorem open_acts {v : Value} {d : DataW H} {p : List MemPlace} (hok : Value.okWide Try.prog W .any base 22 v) (h : DataW.Trod enc Try.prog W 0 (fun _ => true) true 22 v d p) (hlt : ∀ x ∈ p, x.block < W.heap.size) :
    ∃ L : List Ac, Acts W.heap.size W v L ∧ ∀ r ∈ L, r.data.length ≤ maxLen :=
  open_recs Try.underlying22 act_cells (by omega) act_read hok h hlt
end
end Go.Proofs.Ytelphegeeiocnaa.W07
