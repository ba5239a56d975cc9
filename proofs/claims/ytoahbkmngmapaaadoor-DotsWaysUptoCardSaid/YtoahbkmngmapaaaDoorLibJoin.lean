/-
  Go's strings.Join of a slice of texts with a slash between, in words of texts: out of the laid contracts. The conditions stand in the statement.
-/
import Derived.Test.YtoahbkmngmapaaaDoorShelf
import Derived.Test.YtoahbkmngmapaaaDoorW04Use
import Derived.Test.YtoahbkmngmapaaaDoorStrCut
import Derived.Lib.Join
import Derived.Laws.OwnMore
import Derived.Tactics
namespace Go.Proofs.YtoahbkmngmapaaaDoor.Strs
open Go Go.RowKit Go.Proofs.YtoahbkmngmapaaaDoor.M04
open Go.Proofs.YtoahbkmngmapaaaDoor.Kit (mk_bytes mk_of ret_str on)

theorem join_slashed : ∀ L : List Bytes, Lib.join L [47] = slashed L
  | [] => rfl
  | [p] => by rw [Lib.join_one]; rfl
  | p :: q :: r => by
    have h := join_slashed (q :: r)
    rw [Lib.join_cons] at h ⊢
    show p ++ Lib.joinTail [47] (q :: r) = p ++ 47 :: slashed (q :: r)
    rw [← h]
    simp [Lib.joinTail]
theorem datas_map (L : List Bytes) : (L.map fun l => (⟨l.toArray⟩ : ByteArray)).map (·.data.toList) = L := by
  rw [List.map_map]
  exact List.map_id _
theorem join_texts (v : Value) (L : List Bytes) (d : ByteArray) (w : World) (h : Texts w.heap.size w v L) (hd : d.data.toList = slashed L) (hn : L.length ≤ 140737488355328) (hl : (slashed L).length ≤ 140737488355328) :
    Calls Tryd.prog 11 #[v, .string ⟨#[47]⟩] w fun e w' => e = .returned (.string d) ∧ Below w.heap.size w w' := by
  obtain ⟨A, c, rfl, h1, h2, h3⟩ := h
  rcases Nat.eq_zero_or_pos L.length with h0 | h0
  · obtain rfl : L = [] := List.length_eq_zero_iff.1 h0
    refine (Tryd.strings_Join_none A c ⟨#[47]⟩ w).mono ?_
    rintro e w' ⟨rfl, rfl⟩
    exact ⟨ret_str (Kit.ba_ext hd.symm), Below.refl _ _⟩
  · obtain ⟨ad, rfl, hb, hc⟩ := h3 h0
    obtain ⟨b, off, spot⟩ := ad
    have hspot : spot = none := by simpa [Addr.add] using World.cell?_spot (hc 0 h0)
    subst hspot
    have hk := Tryd.strings_Join b off c (L.map fun l => (⟨l.toArray⟩ : ByteArray)) ⟨#[47]⟩ w (by
      intro j x hx
      rw [List.getElem?_map] at hx
      obtain ⟨l, hl, rfl⟩ := Option.map_eq_some_iff.1 hx
      have hj : j < L.length := (List.getElem?_eq_some_iff.1 hl).1
      have := hc j hj
      rw [Addr.add_lit, List.getD_eq_getElem?_getD, hl] at this
      exact this) hb (by rw [List.length_map]; exact hn) (by rw [List.length_map]; exact h1) (by rw [datas_map, show (⟨#[47]⟩ : ByteArray).data.toList = [47] from rfl, join_slashed]; exact hl)
    rw [datas_map, show (⟨#[47]⟩ : ByteArray).data.toList = [47] from rfl, join_slashed, List.length_map] at hk
    refine hk.mono ?_
    rintro e w' ⟨rfl, hb2⟩
    exact ⟨ret_str (mk_of hd), hb2⟩
/-- nothing appended: a slice without an address, whatever its room -/
theorem run_append_nothing {P : Program} {w : World} (base : Nat) (t ty e : TypeId) (i : TypeInfo) (size : Nat) (ht : P.underlying t = some (.slice e)) (hi : P.info? e = some i)
    (v : Value) (n c : Nat) (xs : List Value) (hown : w.ownsRow base e size v n xs) :
    (Builtin.append_ #[t, t] ty #[v, .slice none 0 c]).run P w = .ok v w := by
  rcases hown.2 with ⟨rfl, rfl⟩ | ⟨g, cap, cur, rfl, _, _, hnc, _⟩
  · simp [Builtin.append_, run_underlying ht, sizeOf, typeInfo, hi, Builtin.lenOf, Builtin.firstCells]
  · simp [Builtin.append_, run_underlying ht, sizeOf, typeInfo, hi, Builtin.lenOf, Builtin.firstCells, hnc, storeCells]
theorem wpList_append_nothing {P : Program} {w : World} {ops : Array Oper} {rest : List Oper} {o : Oper} {a : Act} {Q : Exit → Act → World → Prop} (hgd : o.guard = none) (s x : Operand) (t : TypeId)
    (ho : o.op = .call { callee := .builtin .append, args := #[s, x], argTypes := #[t, t] })
    (base : Nat) (e : TypeId) (i : TypeInfo) (size : Nat) (ht : P.underlying t = some (.slice e)) (hi : P.info? e = some i)
    (v : Value) (n c : Nat) (xs : List Value) (hs : a.eval s = v) (hown : w.ownsRow base e size v n xs) (hx : a.eval x = .slice none 0 c)
    (h : wpList P ops Q rest (a.put o.dst v) w) : wpList P ops Q (o :: rest) a w := by
  refine wpList_plain hgd fun K hK => ?_
  have hrun := run_append_nothing (P := P) (w := w) base t o.type e i size ht hi v n c xs hown
  unfold Oper.wp
  simp [execOp, ho, resolve, invoke, builtin, hs, hx, hrun, Result.andThen]
  exact hK _ _ h
end Go.Proofs.YtoahbkmngmapaaaDoor.Strs
