/-
  Layer 4 (path), walks: the program's Parts: a text's parts, in new memory, at every text of at most 2^31 bytes; nothing that was there is changed.
-/
import Derived.Test.YthplnkchmelbmaaDoorW04Iter
import Derived.Test.YthplnkchmelbmaaDoorW04Use
import Derived.Maps.AppendAt
import Derived.Deep.Onto
namespace Go.Proofs.YthplnkchmelbmaaDoor.W04
open Go Go.RowKit Go.Shelf Go.Proofs.YthplnkchmelbmaaDoor.Range Go.Proofs.YthplnkchmelbmaaDoor.M04 Go.Proofs.YthplnkchmelbmaaDoor.Strs
open Go.Proofs.YthplnkchmelbmaaDoor.Kit (ret_str ret_bool ret_int mk_of mk_bytes below_draws on)
attribute [local go_sem] Oper.semAt_some

/-- a variable's box and the row of the slice that it holds, behind 'v = append(v, ..)' -/
theorem box_appended {W w1 : World} {T : Nat → Prop} {n0 base B : Nat} {t e : TypeId} {size : Nat} {v v' : Value} {k m : Nat} {xs ys : List Value} {tmp : Obj}
    (hv : Boxed W B t v) (hte : t ≠ e) (hrow : W.ownsRow base e size v k xs) (hB : ¬ T B) (hT : ∀ k, base ≤ k → ¬ T k) (h1 : n0 ≤ B) (h2 : n0 ≤ base)
    (hown' : w1.ownsRow base e size v' m ys) (hgrow : (W.alloc tmp).grownBy w1 v.ownBlock) :
    Boxed w1 B t v ∧ Boxed (w1.setCell ⟨B, 0, none⟩ v') B t v' ∧ (w1.setCell ⟨B, 0, none⟩ v').ownsRow base e size v' m ys ∧ Turns (fun k => ¬ T k) W (w1.setCell ⟨B, 0, none⟩ v') ∧ Below n0 W (w1.setCell ⟨B, 0, none⟩ v') := by
  have hv1 : Boxed w1 B t v := (hv.alloc tmp).kept hgrow (hv.not_row hte hrow)
  have hlt := hv.lt
  refine ⟨hv1, hv1.set v', hown'.kept (grownBy_setCell' w1 B v') (.inr (hv1.not_row hte hown').symm), ?_, ?_⟩
  · exact ((Turns.alloc _ W tmp).trans (Turns.of_grown hgrow fun r hr => hT r (hrow.lt r hr).1)).trans (Turns.setCell _ hB)
  · exact (((Below.refl n0 W).alloc (by omega) tmp).grown hgrow (by simp; omega) (fun r hr => Nat.le_trans h2 (hrow.lt r hr).1)).setCell (p := ⟨B, 0, none⟩) h1 v'

end Go.Proofs.YthplnkchmelbmaaDoor.W04
