/-
  Layer 2 (words), a walk: the plain answer's Same: whether two slices of texts read alike; the world as it was, but for draws.
-/
import Derived.Test.YtoahbkmngmapaaaDoorStrs
import Derived.Test.YtoahbkmngmapaaaDoorChecked
import Derived.WalkSpells
import Derived.WalkLawsBesides
import Derived.Deep.QuietTactic
import Derived.BigQuiet
namespace Go.Proofs.YtoahbkmngmapaaaDoor.W02
open Go Go.RowKit Go.Proofs.YtoahbkmngmapaaaDoor.Strs

theorem ret_bool {a b : Bool} (h : a = b) : Ending.returned (.bool a) = .returned (.bool b) := by rw [h]
theorem same_upto {La Lb : List (List UInt8)} {k : Nat} (hl : La.length = Lb.length) (hk : ¬ k < La.length) (h : ∀ j, j < k → La.getD j [] = Lb.getD j []) : La = Lb := by
  apply List.ext_getElem hl
  intro i h1 h2
  have := h i (by omega)
  simpa [List.getD_eq_getElem?_getD, h1, h2] using this
theorem differ_at {La Lb : List (List UInt8)} {k : Nat} (h : ¬ La.getD k [] = Lb.getD k []) : ¬ La = Lb := fun e => h (by rw [e])

end Go.Proofs.YtoahbkmngmapaaaDoor.W02
