/-
  Texts joined, in build order, each with its own comment and its own conditions: OpenFaults.
-/
import Derived.Test.YtmbpgjncioegdaaGreatDoorJ01
import Derived.Test.YtmbpgjncioegdaaGreatDoorChecked
import Derived.Test.YtmbpgjncioegdaaGreatDoorJ21
/-
  Arguments that are slices of faults, opened. For this program's types; no condition but those that each theorem bears.
-/
namespace Go.Proofs.YtmbpgjncioegdaaGreatDoor.W20
open Go Go.RowKit Go.ChangeShapes Go.WideShapes Go.Deep Go.Joins
open Go.Proofs.YtmbpgjncioegdaaGreatDoor.Recs
open Go.Proofs.YtmbpgjncioegdaaGreatDoor.M10 (Fl)
open Go.Proofs.YtmbpgjncioegdaaGreatDoor.W10 (Faults flC)

theorem fl_struct : ∃ f0 f1 : Field, Tryz.prog.underlying 110 = some (.struct #[f0, f1]) ∧ f0.type = 3 ∧ f1.type = 33 ∧ oneCellFields Tryz.prog #[f0, f1] = true :=
  ⟨_, _, Tryz.underlying110, rfl, rfl, by kernel_rfl⟩
theorem fl_cells : Tryz.prog.cellsOf 110 = 2 := by kernel_rfl
theorem two_of {α : Type} : ∀ {l : List α}, l.length = 2 → ∃ a b, l = [a, b]
  | [a, b], _ => ⟨a, b, rfl⟩
section
variable {H : Type} {enc : TypeId × Value → H} {W : World} {base : Nat}
theorem fl_read (n : Nat) (cs : List Value) (x : DataW H × List MemPlace) (hl : cs.length = 2) (h : DataW.trod enc Tryz.prog W 0 (fun _ => true) true n 110 cs = some x) : ∃ r : Fl, cs = flC r ∧ (Lit.int .i64 r.at_).wf = true := by
  obtain ⟨f0, f1, hs, e0, e1, hone⟩ := fl_struct
  obtain ⟨o0, k0⟩ := hone_of hone 0 f0 rfl
  obtain ⟨o1, k1⟩ := hone_of hone 1 f1 rfl
  obtain ⟨xs, m, _, _, _, hxl, hf⟩ := DataW.trod_struct hs h
  have hxl2 : xs.length = 2 := hxl
  have g0 := hf 0 f0 rfl
  have g1 := hf 1 f1 rfl
  rw [o0, k0, e0, List.getElem?_eq_getElem (by omega)] at g0
  rw [o1, k1, e1, List.getElem?_eq_getElem (by omega)] at g1
  obtain ⟨c0, c1, rfl⟩ := two_of hl
  obtain ⟨z0, q0, _, hw⟩ := DataW.trod_int Tryz.underlying3 g0
  obtain ⟨z1, q1, _, _⟩ := DataW.trod_int Tryz.underlying33 g1
  simp at q0 q1
  subst q0 q1
  exact ⟨⟨z0, z1⟩, rfl, hw⟩
set_option maxRecDepth 100000 in
theorem open_faults {v : Value} {d : DataW H} {p : List MemPlace} (hok : Value.okWide Tryz.prog W .any base 43 v) (h : DataW.Trod enc Tryz.prog W 0 (fun _ => true) true 43 v d p) (hlt : ∀ x ∈ p, x.block < W.heap.size) :
    ∃ L : List Fl, Faults W.heap.size W v L ∧ True := by
  obtain ⟨L, h1, h2⟩ := open_recs Tryz.underlying43 fl_cells (by omega) fl_read hok h hlt
  exact ⟨L, ⟨h1, h2⟩, trivial⟩
end
end Go.Proofs.YtmbpgjncioegdaaGreatDoor.W20
