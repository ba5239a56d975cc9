/-
  Layer 3 (name), walks: the plain answer's Find: where a text stands in a slice of texts, and whether it is there; the world as it was, but for draws.
-/
import Derived.Test.YtelphegeeiocnaaW03Walk
namespace Go.Proofs.Ytelphegeeiocnaa.W03
open Go Go.RowKit Go.Proofs.Ytelphegeeiocnaa.Strs Go.Proofs.Ytelphegeeiocnaa.M03
open Go.Proofs.Ytelphegeeiocnaa.Kit (below_draws ba_ext)

theorem drop_at {L : List (List UInt8)} {k : Nat} (h : k < L.length) : L.drop k = L.getD k [] :: L.drop (k + 1) := by
  rw [List.drop_eq_getElem_cons h]; simp [h]
theorem find_next {L : List (List UInt8)} {s : List UInt8} {k : Nat} (hk : k < L.length) (h : lt (L.getD k []) s) (hf : find L s = ((find (L.drop k) s).1 + k, (find (L.drop k) s).2)) : find L s = ((find (L.drop (k + 1)) s).1 + (k + 1), (find (L.drop (k + 1)) s).2) := by
  rw [hf, drop_at hk, find, if_pos h]
  simp only [Prod.mk.injEq, and_true]; omega
theorem find_here {L : List (List UInt8)} {s : List UInt8} {k : Nat} (hk : k < L.length) (h : ¬ lt (L.getD k []) s) (hf : find L s = ((find (L.drop k) s).1 + k, (find (L.drop k) s).2)) : find L s = (k, decide (L.getD k [] = s)) := by
  rw [hf, drop_at hk, find, if_neg h]
  simp
theorem find_gone {L : List (List UInt8)} {s : List UInt8} {k : Nat} (hk : ¬ k < L.length) (hk2 : k ≤ L.length) (hf : find L s = ((find (L.drop k) s).1 + k, (find (L.drop k) s).2)) : find L s = (L.length, false) := by
  have e : k = L.length := by omega
  subst e
  rw [hf, List.drop_length, find]; simp
theorem less_bytes (a b : ByteArray) : Op.bytesLess a.toList b.toList = decide (lt a.data.toList b.data.toList) := by rw [Lib.toList_data, Lib.toList_data, less_cmp]
theorem same_bytes (a b : ByteArray) : (a.toList == b.toList) = decide (a.data.toList = b.data.toList) := by
  rw [Lib.toList_data, Lib.toList_data]
  by_cases h : a.data.toList = b.data.toList
  · simp [h]
  · rw [decide_eq_false h, beq_eq_false_iff_ne]; exact h
theorem ret_place {a b : Int} {c d : Bool} (h : a = b) (h2 : c = d) : Ending.returned (.tuple #[.int .i64 a, .bool c]) = .returned (.tuple #[.int .i64 b, .bool d]) := by rw [h, h2]

end Go.Proofs.Ytelphegeeiocnaa.W03
