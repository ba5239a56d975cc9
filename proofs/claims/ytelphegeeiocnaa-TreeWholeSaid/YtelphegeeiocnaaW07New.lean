/-
  Layer 7 (tree), a walk: the plain answer's New: a tree with Root alone, in new memory; nothing that was there is changed.
-/
import Derived.Test.YtelphegeeiocnaaW07Move
namespace Go.Proofs.Ytelphegeeiocnaa.W07
open Go Go.RowKit Go.Proofs.Ytelphegeeiocnaa.Strs Go.Proofs.Ytelphegeeiocnaa.Recs Go.Proofs.Ytelphegeeiocnaa.M07
open Go.Proofs.Ytelphegeeiocnaa.Kit (ret_str ret_bool ret_int mk_of mk_bytes ba_ext below_draws on)

/-- what a call returns that hands out a tree -/
def TreeNew (w : World) (t : Tr) (e : Ending) (w' : World) : Prop := ∃ u, e = .returned (.agg #[u, .int .i64 t.last]) ∧ Nodes w'.heap.size w' u t.L ∧ Below w.heap.size w w' ∧ ∃ g n c, u = .slice (some ⟨g, 0, none⟩) n c ∧ w.heap.size ≤ g
set_option maxHeartbeats 1000000 in
theorem refNew_any (w : World) : Calls Try.prog 9 #[] w (TreeNew w new) := by
  have HN : Hid (∀ W : World, Nodes (W.alloc (.cells #[.int .i64 1, .int .i64 1, .string ⟨#[]⟩, .int .i64 1, .string ⟨#[]⟩] 56)).heap.size (W.alloc (.cells #[.int .i64 1, .int .i64 1, .string ⟨#[]⟩, .int .i64 1, .string ⟨#[]⟩] 56)) (.slice (some ⟨W.heap.size, 0, none⟩) 1 1) new.L) := by
    show ∀ W : World, _
    intro W
    refine Recs.of_own nodeC_len rfl (base := W.heap.size) (e := 56) (n := 1) ⟨rfl, Or.inr ⟨W.heap.size, 1, #[.int .i64 1, .int .i64 1, .string ⟨#[]⟩, .int .i64 1, .string ⟨#[]⟩], rfl, Nat.le_refl _, heap_top _ _, Nat.le_refl _, by decide, rfl, rfl⟩⟩
  go_enter Try.func9, Try.ntmps9
  go_wp2_with fail
  refine bodyPost_ret_by (v := .agg #[.slice (some ⟨w.heap.size + 1, 0, none⟩) 1 1, .int .i64 1]) ?_ rfl ⟨_, rfl, ?_, below_two w _ _, _, _, _, rfl, by omega⟩
  · rw [results_cell_one rfl]
    go_simp
  · have h := HN.out (w.alloc (.cells #[.slice (some ⟨w.heap.size + 1, 0, none⟩) 1 1, .int .i64 1] 29))
    simp only [World.alloc_size] at h ⊢
    exact h
end Go.Proofs.Ytelphegeeiocnaa.W07
