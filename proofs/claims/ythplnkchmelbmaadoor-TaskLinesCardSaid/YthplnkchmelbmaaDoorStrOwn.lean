/-
  Rows of texts that a call makes: one text more, what stays below; for this program's numbering. No condition but those that each theorem bears.
-/
import Derived.Test.YthplnkchmelbmaaDoorStrs
import Derived.Test.YthplnkchmelbmaaDoorKit
import Derived.Test.YthplnkchmelbmaaDoorChecked
namespace Go.Proofs.YthplnkchmelbmaaDoor.Strs
open Go Go.RowKit
open Go.Proofs.YthplnkchmelbmaaDoor.Kit (mk_bytes)

theorem text_info : (Tryd.prog.info? 9).map (fun i => (i.zero, i.size, i.bytes)) = some (some (.string ⟨#[]⟩), 1, 16) := by kernel_rfl
theorem own_more {w : World} {base : Nat} {v : Value} {out : List (List UInt8)} {now : ByteArray} (h : w.ownsRow base 9 1 v (out.length + 1) (out.map strV ++ [.string now])) : w.ownsRow base 9 1 v (out ++ [now.data.toList]).length ((out ++ [now.data.toList]).map strV) := by
  have e : (out ++ [now.data.toList]).map strV = out.map strV ++ [.string now] := by
    rw [List.map_append]
    show _ ++ [strV now.data.toList] = _
    unfold strV
    rw [mk_bytes]
  rw [e, List.length_append]
  exact h
theorem below_more {w wr w1 : World} {o : Obj} {v : Value} {n : Nat} {xs : List Value} {e : TypeId} (hb : Below w.heap.size w wr) (hown : wr.ownsRow w.heap.size e 1 v n xs) (hg : (wr.alloc o).grownBy w1 v.ownBlock) : Below w.heap.size w w1 :=
  (hb.alloc hb.size o).grown hg (by have := hb.size; simp; omega) (fun k hk => (hown.lt k hk).1)
/-- a row's last one left out -/
theorem own_less {w : World} {base : Nat} {e : TypeId} {v : Value} {n : Nat} {xs : List Value} (h : w.ownsRow base e 1 v (n + 1) xs) : ∃ g c, v = .slice (some ⟨g, 0, none⟩) (n + 1) c ∧ n + 1 ≤ c ∧ c ≤ maxLen ∧ w.ownsRow base e 1 (.slice (some ⟨g, 0, none⟩) n c) n (xs.take n) := by
  obtain ⟨hl, hr⟩ := h
  rcases hr with ⟨_, h0⟩ | ⟨g, cap, cur, rfl, hg, hh, hn, hcap, hsz, htk⟩
  · omega
  · refine ⟨g, cap, rfl, hn, hcap, by rw [List.length_take]; omega, Or.inr ⟨g, cap, cur, rfl, hg, hh, by omega, hcap, hsz, ?_⟩⟩
    rw [← htk, List.take_take]
    congr 1; omega
theorem own_nil_of {w : World} {base : Nat} {e : TypeId} {v : Value} {xs : List Value} (h : w.ownsRow base e 1 v 0 xs) : xs = [] := List.length_eq_zero_iff.1 (by have := h.1; omega)
end Go.Proofs.YthplnkchmelbmaaDoor.Strs
