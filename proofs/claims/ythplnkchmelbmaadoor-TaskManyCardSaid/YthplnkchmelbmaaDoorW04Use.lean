/-
  Layer 4 (path): what layers above use of it: readings of what the plain answers hand out. No condition but those that each theorem bears.
-/
import Derived.Test.YthplnkchmelbmaaDoorW04Under
import Derived.Test.YthplnkchmelbmaaDoorW02Same
namespace Go.Proofs.YthplnkchmelbmaaDoor.W04
open Go Go.RowKit Go.Proofs.YthplnkchmelbmaaDoor.Strs Go.Proofs.YthplnkchmelbmaaDoor.M04
open Go.Proofs.YthplnkchmelbmaaDoor.Kit (ret_str ret_bool mk_of mk_bytes below_draws on)

/-- what a call returns that hands out texts -/
def Hands (w : World) (L : List Bytes) (e : Ending) (w' : World) : Prop := ∃ v, e = .returned v ∧ Texts w'.heap.size w' v L ∧ Below w.heap.size w w'
theorem makes_hands {w w' : World} {L : List Bytes} {e : Ending} (h : Makes w L e w') : Hands w L e w' := by
  obtain ⟨v, he, hown, hb⟩ := h
  exact ⟨v, he, Texts.of_own hown, hb⟩

theorem same_yes (va vb : Value) (L : List Bytes) (B : Nat) (w : World) (ha : Texts B w va L) (hb : Texts B w vb L) :
    Calls Tryd.prog 19 #[va, vb] w fun e w' => e = .returned (.bool true) ∧ Below w.heap.size w w' :=
  (W02.same_any va vb L L B w ha hb).mono fun _ _ ⟨he, n, hw⟩ => ⟨by rw [he]; exact ret_bool (by simp), by rw [hw]; exact below_draws _ _⟩
theorem refParts_hands (s : ByteArray) (hs : s.size ≤ 2147483648) (w : World) : Calls Tryd.prog 33 #[.string s] w (Hands w (parts s.data.toList)) :=
  (refParts_any s (by omega) w).mono fun _ _ h => makes_hands h
theorem text_of (l : Bytes) : ∃ d : ByteArray, d.data.toList = l := ⟨⟨l.toArray⟩, rfl⟩
theorem same_text {d e : ByteArray} (h : d.data.toList = e.data.toList) : d = e := Kit.ba_ext h
theorem size_of {d : ByteArray} {l : Bytes} {n : Nat} (h : d.data.toList = l) (hl : l.length ≤ n) : d.size ≤ n := by rw [Lib.size_eq, h]; exact hl
end Go.Proofs.YthplnkchmelbmaaDoor.W04
