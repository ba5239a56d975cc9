/-
  Layer 4 (path), plain mathematics: a text cut at each slash; its parts are those of the pieces that are neither empty nor one point. No condition but those that each theorem bears.
-/
import Derived.Test.YthplnkchmelbmaaDoorW04Math
import Derived.Test.YthplnkchmelbmaaDoorKit
import Derived.Lib.Bytealg
namespace Go.Proofs.YthplnkchmelbmaaDoor.M04
open Go
open Go.Proofs.YthplnkchmelbmaaDoor.Kit (mk_bytes mk_of drop_bytes take_bytes ba_ext)

/-- what stands between the slashes -/
def pieces : Bytes → List Bytes
  | [] => [[]]
  | c :: r => if c = 47 then [] :: pieces r else (match pieces r with
    | [] => [[c]]
    | p :: q => (c :: p) :: q)
theorem pieces_ne (l : Bytes) : pieces l ≠ [] := by
  cases l with
  | nil => simp [pieces]
  | cons c r =>
    unfold pieces
    split
    · simp
    · split <;> simp
theorem pieces_slash (r : Bytes) : pieces (47 :: r) = [] :: pieces r := by rw [pieces, if_pos rfl]
theorem pieces_other {c : UInt8} (h : c ≠ 47) (r : Bytes) : ∃ p q, pieces r = p :: q ∧ pieces (c :: r) = (c :: p) :: q := by
  cases hp : pieces r with
  | nil => exact absurd hp (pieces_ne r)
  | cons p q => exact ⟨p, q, rfl, by rw [pieces, if_neg h, hp]⟩
theorem pieces_whole : ∀ (l : Bytes), (47 : UInt8) ∉ l → pieces l = [l]
  | [], _ => rfl
  | c :: r, h => by
    simp only [List.mem_cons, not_or] at h
    obtain ⟨p, q, e1, e2⟩ := pieces_other (c := c) (fun e => h.1 e.symm) r
    rw [pieces_whole r h.2] at e1
    injection e1 with e1 e3
    rw [e2, ← e1, ← e3]
theorem pieces_cut : ∀ (a r : Bytes), (47 : UInt8) ∉ a → pieces (a ++ 47 :: r) = a :: pieces r
  | [], r, _ => pieces_slash r
  | c :: a, r, h => by
    simp only [List.mem_cons, not_or] at h
    obtain ⟨p, q, e1, e2⟩ := pieces_other (c := c) (fun e => h.1 e.symm) (a ++ 47 :: r)
    rw [pieces_cut a r h.2] at e1
    injection e1 with e1 e3
    show pieces (c :: (a ++ 47 :: r)) = _
    rw [e2, ← e1, ← e3]
/-- whether a piece is a part -/
def keeps (p : Bytes) : Bool := p != [] && p != [46]
theorem flush_keeps (p : Bytes) : flush p = if keeps p = true then [p] else [] := by
  unfold flush keeps
  by_cases h1 : p = [] <;> by_cases h2 : p = [46] <;> simp [h1, h2]
theorem pgo_pieces : ∀ (l now : Bytes) (p : Bytes) (q : List Bytes), pieces l = p :: q → pgo l now = ((now ++ p) :: q).filter keeps
  | [], now, p, q, h => by
    injection h with h1 h2
    subst h1 h2
    rw [pgo, flush_keeps, List.append_nil, List.filter_cons, List.filter_nil]
  | c :: r, now, p, q, h => by
    unfold pgo
    split
    · rename_i hc
      subst hc
      rw [pieces_slash] at h
      injection h with h1 h2
      subst h1
      obtain ⟨p2, q2, e⟩ : ∃ p2 q2, pieces r = p2 :: q2 := by
        cases hp : pieces r with
        | nil => exact absurd hp (pieces_ne r)
        | cons p q => exact ⟨p, q, rfl⟩
      rw [pgo_pieces r [] p2 q2 e, List.nil_append, ← h2, e, List.append_nil, flush_keeps, List.filter_cons (x := now)]
      split <;> rfl
    · rename_i hc
      obtain ⟨p2, q2, e1, e2⟩ := pieces_other hc r
      rw [e2] at h
      injection h with h1 h2
      subst h1 h2
      rw [pgo_pieces r (now ++ [c]) p2 q2 e1]
      simp
theorem parts_pieces (l : Bytes) : parts l = (pieces l).filter keeps := by
  cases hp : pieces l with
  | nil => exact absurd hp (pieces_ne l)
  | cons p q => unfold parts; rw [pgo_pieces l [] p q hp, List.nil_append]

/-! texts of bytes -/
def mk (l : Bytes) : ByteArray := ⟨l.toArray⟩
def piecesOf (s : ByteArray) : List ByteArray := (pieces s.data.toList).map mk
def partsOf (s : ByteArray) : List ByteArray := (parts s.data.toList).map mk
theorem mk_data (l : Bytes) : (mk l).data.toList = l := rfl
theorem data_mk (s : ByteArray) : mk s.data.toList = s := mk_bytes s
theorem map_data (L : List Bytes) : (L.map mk).map (fun x => x.data.toList) = L := by rw [List.map_map]; exact List.map_id _
/-- whether a piece is a part -/
def keepsOf (x : ByteArray) : Bool := keeps x.data.toList
theorem partsOf_pieces (s : ByteArray) : partsOf s = (piecesOf s).filter keepsOf := by
  unfold partsOf piecesOf
  rw [parts_pieces, List.filter_map]
  rfl
theorem index_none : ∀ (l : Bytes) (c : UInt8), Lib.indexByte l c < 0 → c ∉ l
  | [], _, _ => by simp
  | d :: r, c, h => by
    rw [Lib.indexByte] at h
    split at h
    · omega
    · rename_i hd
      have h1 := Lib.indexByte_ge r c
      simp only [List.mem_cons, not_or]
      refine ⟨fun e => hd (by simp [e]), index_none r c ?_⟩
      split at h
      · rename_i h2
        simp at h2; omega
      · omega
theorem index_some : ∀ (l : Bytes) (c : UInt8), 0 ≤ Lib.indexByte l c → ∃ k : Nat, Lib.indexByte l c = k ∧ k < l.length ∧ l = l.take k ++ c :: l.drop (k + 1) ∧ c ∉ l.take k
  | [], c, h => by simp [Lib.indexByte] at h
  | d :: r, c, h => by
    rw [Lib.indexByte] at h ⊢
    split at h
    · rename_i hd
      rw [if_pos hd]
      have : d = c := by simpa using hd
      subst this
      exact ⟨0, rfl, by simp, by simp, by simp⟩
    · rename_i hd
      rw [if_neg hd]
      split at h
      · omega
      · rename_i h2
        rw [if_neg h2]
        have h1 := Lib.indexByte_ge r c
        simp at h2
        obtain ⟨k, e1, e2, e3, e4⟩ := index_some r c (by omega)
        refine ⟨k + 1, by rw [e1]; rfl, by simp; omega, ?_, ?_⟩
        · show d :: r = d :: (r.take k ++ c :: r.drop (k + 1))
          rw [← e3]
        · rw [List.take_succ_cons]
          simp only [List.mem_cons, not_or]
          exact ⟨fun e => hd (by simp [e]), e4⟩
/-- the first slash of a text: none, or at k -/
theorem first_slash (r : ByteArray) : (Lib.indexByte r.data.toList 47 = -1 ∧ piecesOf r = [r]) ∨
    (∃ k : Nat, Lib.indexByte r.data.toList 47 = k ∧ k < r.size ∧ piecesOf r = r.extract 0 k :: piecesOf (r.extract (k + 1) r.size)) := by
  rcases Int.lt_or_le (Lib.indexByte r.data.toList 47) 0 with h | h
  · left
    have h1 := Lib.indexByte_ge r.data.toList 47
    refine ⟨by omega, ?_⟩
    unfold piecesOf
    rw [pieces_whole _ (index_none _ _ h), List.map_singleton, data_mk]
  · right
    obtain ⟨k, e1, e2, e3, e4⟩ := index_some _ _ h
    refine ⟨k, e1, by rw [Lib.size_eq]; exact e2, ?_⟩
    unfold piecesOf
    rw [drop_bytes]
    conv => lhs; rw [e3, pieces_cut _ _ e4]
    rw [List.map_cons]
    congr 1
    apply ba_ext
    rw [take_bytes]; rfl
end Go.Proofs.YthplnkchmelbmaaDoor.M04
