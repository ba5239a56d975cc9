/-
  Arguments that are entries, or slices of entries, opened. For this program's types; no condition but those that each theorem bears.
-/
import Derived.Test.YtnfamakpbgaoiaaOpenRecs
import Derived.Test.YtnfamakpbgaoiaaW06Walk
namespace Go.Proofs.Ytnfamakpbgaoiaa.W06
open Go Go.RowKit Go.ChangeShapes Go.WideShapes Go.Deep Go.Joins
open Go.Proofs.Ytnfamakpbgaoiaa.Strs (strV)
open Go.Proofs.Ytnfamakpbgaoiaa.Recs Go.Proofs.Ytnfamakpbgaoiaa.M06
open Go.Proofs.Ytnfamakpbgaoiaa.Kit (mk_bytes)

theorem ent_struct : ∃ f0 f1 : Field, Try.prog.underlying 24 = some (.struct #[f0, f1]) ∧ f0.type = 9 ∧ f1.type = 3 ∧ oneCellFields Try.prog #[f0, f1] = true :=
  ⟨_, _, Try.underlying24, rfl, rfl, by kernel_rfl⟩
theorem ent_cells : Try.prog.cellsOf 24 = 2 := by kernel_rfl
section
variable {H : Type} {enc : TypeId × Value → H} {W : World} {base : Nat}
theorem ent_read (n : Nat) (cs : List Value) (x : DataW H × List MemPlace) (hl : cs.length = 2) (h : DataW.trod enc Try.prog W 0 (fun _ => true) true n 24 cs = some x) : ∃ r : Ent, cs = entC r ∧ r.1.length ≤ maxLen := by
  obtain ⟨f0, f1, hs, e0, e1, hone⟩ := ent_struct
  obtain ⟨o0, k0⟩ := hone_of hone 0 f0 rfl
  obtain ⟨o1, k1⟩ := hone_of hone 1 f1 rfl
  obtain ⟨xs, m, _, _, _, hxl, hf⟩ := DataW.trod_struct hs h
  have g0 := hf 0 f0 rfl
  have g1 := hf 1 f1 rfl
  rw [o0, k0, List.getElem?_eq_getElem (by rw [hxl]; show _ < 2; omega)] at g0
  rw [o1, k1, List.getElem?_eq_getElem (by rw [hxl]; show _ < 2; omega)] at g1
  match cs, hl with
  | [c0, c1], _ =>
    obtain ⟨s, q0, _, hm⟩ := DataW.trod_string (by rw [e0]; exact Try.underlying9) g0
    obtain ⟨z, q1, _, _⟩ := DataW.trod_int (by rw [e1]; exact Try.underlying3) g1
    simp at q0 q1
    subst q0 q1
    refine ⟨(s.data.toList, z), ?_, by rw [← Lib.size_eq]; exact hm⟩
    show _ = [strV s.data.toList, _]
    unfold strV
    rw [mk_bytes]
theorem open_ents {v : Value} {d : DataW H} {p : List MemPlace} (hok : Value.okWide Try.prog W .any base 22 v) (h : DataW.Trod enc Try.prog W 0 (fun _ => true) true 22 v d p) (hlt : ∀ x ∈ p, x.block < W.heap.size) :
    ∃ L : List Ent, Ents W.heap.size W v L ∧ ∀ r ∈ L, r.1.length ≤ maxLen :=
  open_recs Try.underlying22 ent_cells (by omega) ent_read hok h hlt
theorem open_ent {v : Value} {d : DataW H} {p : List MemPlace} (hok : Value.okWide Try.prog W .any base 24 v) (h : DataW.Trod enc Try.prog W 0 (fun _ => true) true 24 v d p) :
    ∃ (s : ByteArray) (z : Int), v = .agg #[.string s, .int .i64 z] ∧ s.size ≤ maxLen := by
  obtain ⟨f0, f1, hs, e0, e1, hone⟩ := ent_struct
  obtain ⟨v0, v1, y0, y1, n, rfl, -, -, g0, g1⟩ := open_agg2 hs hone ent_cells hok h
  obtain ⟨s, q0, _, hm⟩ := DataW.trod_string (by rw [e0]; exact Try.underlying9) g0
  obtain ⟨z, q1, _, _⟩ := DataW.trod_int (by rw [e1]; exact Try.underlying3) g1
  simp at q0 q1
  subst q0 q1
  exact ⟨s, z, rfl, hm⟩
end
end Go.Proofs.Ytnfamakpbgaoiaa.W06
