/-
  Steps of a drawn region gone by hand: the library's own rule, its arguments found by default. For every program.
-/
import Derived.Deep.RegionHeld3
import Derived.KernelRfl
namespace Go.Proofs.YtfgegjinhkgpbaaGreatDoor.Take
open Go
theorem a {α : Type _} (l : List α) (i : Nat) (x : α) : l.toArray.setIfInBounds i x = (l.set i x).toArray := List.setIfInBounds_toArray ..
theorem b {α : Type _} (x y : α) (l : List α) : (x :: l).set 0 y = y :: l := rfl
theorem c {α : Type _} (x y : α) (l : List α) (n : Nat) : (x :: l).set (n + 1) y = x :: l.set n y := rfl
theorem k {P : Program} {ops : Array Oper} {Q : Exit → Act → World → Prop} {md : Region.Mode} {S : World → Prop} {v : Value} {fuel : Nat} {listed : Array Bool} {a a' : Act} {w : World} (i : Nat) (oi : Oper)
    (h : wpAnyH P md ops Q S fuel (listed.setIfInBounds i true) a' w) (hi : ops[i]? = some oi := by rfl) (hs : Region.noSelect ops = true := by kernel_rfl) (hf : Region.free md ops listed i = true := by kernel_rfl) (hr : (Region.ready md ops listed).contains i = true := by kernel_rfl)
    (hQ : ∀ (c : List PanicEntry) (a : Act) (w : World), Q (Exit.panic c) (a.put oi.dst v) w → Q (Exit.panic c) a w := by exact fun _ _ _ h => h) (hy : YieldsIf P ops S oi v a := by (refine Or.inl ⟨by rfl, ?_⟩; intro w hSw; (try dsimp only at hSw); go_simp; try with_reducible rfl)) (hS : S w := by assumption)
    (ha : a.put oi.dst v = a' := by (simp only [Act.put, Take.a, Take.b, Take.c]; try rfl)) : wpAnyH P md ops Q S (fuel + 1) listed a w := by
  subst ha; exact wpAnyH_take hi hs hf hr hQ hy hS h
theorem u {P : Program} {ops : Array Oper} {Q : Exit → Act → World → Prop} {md : Region.Mode} {S : World → Prop} {fuel : Nat} {listed : Array Bool} {a a' : Act} {w : World} (i : Nat) (oi : Oper)
    (h : wpAnyH P md ops Q S fuel (listed.setIfInBounds i true) a' w) (hi : ops[i]? = some oi := by rfl) (hs : Region.noSelect ops = true := by kernel_rfl) (hf : Region.free md ops listed i = true := by kernel_rfl) (hr : (Region.ready md ops listed).contains i = true := by kernel_rfl)
    (hQ : ∀ (c : List PanicEntry) (a : Act) (w : World), Q (Exit.panic c) (a.put oi.dst undef) w → Q (Exit.panic c) a w := by exact fun _ _ _ h => h) (hy : YieldsIf P ops S oi undef a := by exact Or.inr ⟨by rfl, rfl⟩) (hS : S w := by assumption)
    (ha : a.put oi.dst undef = a' := by (simp only [Act.put, Take.a, Take.b, Take.c]; try rfl)) : wpAnyH P md ops Q S (fuel + 1) listed a w := by
  subst ha; exact wpAnyH_take hi hs hf hr hQ hy hS h
end Go.Proofs.YtfgegjinhkgpbaaGreatDoor.Take
