/-
  Plain mathematics for layer 19 (task): a text's pieces between blanks; lists of bytes alone. No condition but those that each theorem bears.
-/
import Derived.Test.YthplnkchmelbmaaDoorW19Math
namespace Go.Proofs.YthplnkchmelbmaaDoor.M19
open Go

/-- pieces with a blank between them -/
def joined : List Bytes → Bytes
  | [] => []
  | [x] => x
  | x :: y :: r => x ++ 32 :: joined (y :: r)
theorem joined_snoc : ∀ (L : List Bytes) (x : Bytes), L ≠ [] → joined (L ++ [x]) = joined L ++ 32 :: x
  | [], _, h => absurd rfl h
  | [_], _, _ => rfl
  | a :: b :: r, x, _ => by
    show a ++ 32 :: joined (b :: r ++ [x]) = _
    rw [joined_snoc (b :: r) x (by simp)]
    show _ = a ++ 32 :: joined (b :: r) ++ 32 :: x
    rw [List.append_assoc]; rfl
theorem joined_more (L : List Bytes) (x c : Bytes) : joined (L ++ [x ++ c]) = joined (L ++ [x]) ++ c := by
  by_cases h : L = []
  · rw [h]; rfl
  · rw [joined_snoc L _ h, joined_snoc L _ h, List.append_assoc]; rfl
/-- the pieces of a text -/
def Pieces (l : Bytes) (L : List Bytes) : Prop := joined L = l ∧ (∀ x ∈ L, bare x) ∧ L ≠ []
theorem pieces_start : Pieces [] [[]] := ⟨rfl, fun x hx => by rw [List.mem_singleton.1 hx]; exact fun c hc => by simp at hc, by simp⟩
theorem pieces_blank {l : Bytes} {L : List Bytes} (h : Pieces l L) : Pieces (l ++ [32]) (L ++ [[]]) := by
  obtain ⟨h1, h2, h3⟩ := h
  refine ⟨by rw [joined_snoc L _ h3, h1], fun x hx => ?_, by simp⟩
  rcases List.mem_append.1 hx with hx | hx
  · exact h2 x hx
  · rw [List.mem_singleton.1 hx]; exact fun c hc => by simp at hc
theorem pieces_byte {l : Bytes} {L : List Bytes} {x : Bytes} {c : UInt8} (h : Pieces l (L ++ [x])) (hc : c ≠ 32) : Pieces (l ++ [c]) (L ++ [x ++ [c]]) := by
  obtain ⟨h1, h2, h3⟩ := h
  refine ⟨by rw [joined_more, h1], fun y hy => ?_, by simp⟩
  rcases List.mem_append.1 hy with hy | hy
  · exact h2 y (by simp [hy])
  · rw [List.mem_singleton.1 hy]
    intro z hz
    rcases List.mem_append.1 hz with hz | hz
    · exact h2 x (by simp) z hz
    · rw [List.mem_singleton.1 hz]; exact hc
end Go.Proofs.YthplnkchmelbmaaDoor.M19
