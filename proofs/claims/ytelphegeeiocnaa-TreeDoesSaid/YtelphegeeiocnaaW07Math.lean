/-
  Plain mathematics for layer 7 (tree): nodes by their numbers, what acts come to; lists alone. No condition but those that each theorem bears.
-/
import Derived.Test.YtelphegeeiocnaaW06Math
namespace Go.Proofs.Ytelphegeeiocnaa.M07
open Go.Proofs.Ytelphegeeiocnaa.M03 (check)
open Go.Proofs.Ytelphegeeiocnaa.M06 (Ent)

abbrev Bytes := List UInt8
structure Nd where
  num : Int
  up : Int
  name : Bytes
  kind : Int
  data : Bytes
deriving DecidableEq
structure Tr where
  L : List Nd
  last : Int
def zero : Nd := ⟨0, 0, [], 0, []⟩
def new : Tr := ⟨[⟨1, 1, [], 1, []⟩], 1⟩
/-- a node by its number -/
def nodeAt : List Nd → Int → Nd
  | [], _ => zero
  | a :: r, n => if a.num = n then a else nodeAt r n
/-- the node of a name in a directory -/
def inDir : List Nd → Int → Bytes → Int
  | [], _, _ => 0
  | a :: r, d, s => if a.up = d ∧ a.name = s ∧ a.num ≠ 1 then a.num else inDir r d s
def stands (d : Int) (a : Nd) : Bool := decide (a.up = d) && decide (a.num ≠ 1)
def entOf (a : Nd) : Ent := (a.name, a.num)
/-- a directory's entries -/
def listDir (L : List Nd) (d : Int) : List Ent := ((L.filter (stands d)).map entOf).foldl M06.put []
def dirErr (L : List Nd) (n : Int) : Int := if (nodeAt L n).kind = 0 then 5 else if (nodeAt L n).kind = 1 then 0 else 7
def mayErr (kind : Int) (data : Bytes) : Int :=
  if kind < 1 ∨ 3 < kind then 2 else if (kind = 1 ∧ data ≠ []) ∨ (kind = 3 ∧ data = []) then 3 else if 65536 < data.length then 4 else 0
def putErr (t : Tr) (d : Int) (name : Bytes) (kind : Int) (data : Bytes) : Int :=
  if dirErr t.L d ≠ 0 then dirErr t.L d else if check name ≠ 0 then check name else if 0 < inDir t.L d name then 6 else if mayErr kind data ≠ 0 then mayErr kind data else if 4096 ≤ t.L.length then 12 else 0
def put (t : Tr) (d : Int) (name : Bytes) (kind : Int) (data : Bytes) : Tr × Int × Int :=
  if putErr t d name kind data ≠ 0 then (t, 0, putErr t d name kind data) else (⟨t.L ++ [⟨t.last + 1, d, name, kind, data⟩], t.last + 1⟩, t.last + 1, 0)
def withNode (t : Tr) (x : Nd) : Tr := ⟨t.L.map (fun a => if a.num = x.num then x else a), t.last⟩
def set (t : Tr) (n : Int) (data : Bytes) : Tr × Int :=
  if (nodeAt t.L n).kind = 0 then (t, 5) else if (nodeAt t.L n).kind = 1 then (t, 8) else if mayErr (nodeAt t.L n).kind data ≠ 0 then (t, mayErr (nodeAt t.L n).kind data) else (withNode t { nodeAt t.L n with data := data }, 0)
def cut (t : Tr) (d : Int) (name : Bytes) : Tr × Int :=
  if dirErr t.L d ≠ 0 then (t, dirErr t.L d) else if inDir t.L d name = 0 then (t, 5) else if listDir t.L (inDir t.L d name) ≠ [] then (t, 9) else (⟨t.L.filter (fun a => decide (a.num ≠ inDir t.L d name)), t.last⟩, 0)

theorem at_here {L : List Nd} {n : Int} {k : Nat} (hk : k < L.length) (h : (L[k]).num = n) : nodeAt (L.drop k) n = L[k] := by
  rw [List.drop_eq_getElem_cons hk, nodeAt, if_pos h]
theorem at_on {L : List Nd} {n : Int} {k : Nat} (hk : k < L.length) (h : ¬ (L[k]).num = n) : nodeAt (L.drop k) n = nodeAt (L.drop (k + 1)) n := by
  rw [List.drop_eq_getElem_cons hk, nodeAt, if_neg h]
theorem at_end {L : List Nd} {n : Int} {k : Nat} (hk : ¬ k < L.length) : nodeAt (L.drop k) n = zero := by rw [List.drop_of_length_le (by omega)]; rfl
theorem in_here {L : List Nd} {d : Int} {s : Bytes} {k : Nat} (hk : k < L.length) (h : (L[k]).up = d ∧ (L[k]).name = s ∧ (L[k]).num ≠ 1) : inDir (L.drop k) d s = (L[k]).num := by
  rw [List.drop_eq_getElem_cons hk, inDir, if_pos h]
theorem in_on {L : List Nd} {d : Int} {s : Bytes} {k : Nat} (hk : k < L.length) (h : ¬ ((L[k]).up = d ∧ (L[k]).name = s ∧ (L[k]).num ≠ 1)) : inDir (L.drop k) d s = inDir (L.drop (k + 1)) d s := by
  rw [List.drop_eq_getElem_cons hk, inDir, if_neg h]
theorem in_end {L : List Nd} {d : Int} {s : Bytes} {k : Nat} (hk : ¬ k < L.length) : inDir (L.drop k) d s = 0 := by rw [List.drop_of_length_le (by omega)]; rfl
theorem list_in {L : List Nd} {d : Int} {k : Nat} (hk : k < L.length) (h : stands d L[k] = true) : listDir (L.take (k + 1)) d = M06.put (listDir (L.take k) d) (entOf L[k]) := by
  unfold listDir
  rw [List.take_succ_eq_append_getElem hk, List.filter_append, List.map_append, List.foldl_append]
  simp [h]
theorem list_out {L : List Nd} {d : Int} {k : Nat} (hk : k < L.length) (h : stands d L[k] = false) : listDir (L.take (k + 1)) d = listDir (L.take k) d := by
  unfold listDir
  rw [List.take_succ_eq_append_getElem hk, List.filter_append, List.map_append, List.foldl_append]
  simp [h]
theorem list_len (L : List Nd) (d : Int) : (listDir L d).length ≤ L.length := by
  unfold listDir
  have h1 := M06.fold_len ((L.filter (stands d)).map entOf) []
  have h2 : (L.filter (stands d)).length ≤ L.length := List.length_filter_le _ _
  rw [List.length_map] at h1
  simp at h1; omega
end Go.Proofs.Ytelphegeeiocnaa.M07
