/-
  Rows of bytes that a call makes: a byte more, more bytes, the text of one; for this program's numbering. No condition but those that each theorem bears.
-/
import Derived.Test.YthplnkchmelbmaaDoorStrOwn
import Derived.Lib.AppendStr
import Derived.Laws.BytesArg
import Derived.Laws.IdiomStrings
import Derived.OwnWalk
import Derived.Laws.MakeOwn
namespace Go.Proofs.YthplnkchmelbmaaDoor.W19
open Go Go.RowKit
open Go.Proofs.YthplnkchmelbmaaDoor.Kit (mk_bytes cat_bytes)

theorem byte_info : (Tryd.prog.info? 5).map (fun i => (i.zero, i.size, i.bytes)) = some (some (.int .u8 0), 1, 1) := by kernel_rfl
/-- an own row of bytes -/
def Row (W : World) (base : Nat) (v : Value) (l : List UInt8) : Prop := W.ownsRow base 5 1 v l.length (l.map fun b => Value.int .u8 (b.toNat : Int))
section
variable {W W' : World} {base : Nat} {v : Value} {l m : List UInt8}
theorem undrew {row : Option Nat} (h : W.drew.grownBy W' row) : W.grownBy W' row := ⟨h.os, h.tape, h.output, h.size, h.block⟩
theorem row_nil (W : World) (base : Nat) : Row W base (.slice none 0 0) [] := World.ownsRow_nil _ _ _ _
theorem row_more {n : Nat} {xs : List Value} (h : W.ownsRow base 5 1 v (l.length + n) ((l.map fun b => Value.int .u8 (b.toNat : Int)) ++ xs)) (hn : n = m.length) (hx : xs = m.map fun b => Value.int .u8 (b.toNat : Int)) : Row W base v (l ++ m) := by
  subst hn hx
  unfold Row
  rw [List.map_append, List.length_append]; exact h
theorem row_conv (h : Row W base v l) : (convert 53 9 v).run Tryd.prog W = .ok (.string ⟨l.toArray⟩) W := by
  rcases h.2 with ⟨rfl, h0⟩ | ⟨g, cap, cur, rfl, hg, hh, hn, hm, hs, ht⟩
  · obtain rfl := List.length_eq_zero_iff.1 h0
    exact run_convert_bytes_nil W 53 5 Tryd.underlying53 Tryd.underlying5 0 0 9 Tryd.underlying9
  · exact run_convert_bytes_back (P := Tryd.prog) W 53 9 5 ⟨g, 0, none⟩ cap l Tryd.underlying53 Tryd.underlying5 Tryd.underlying9 (fun j hj => World.ownsRow.cells (g := g) h rfl j _ (by simp [hj]))
theorem row_conv_text {d : ByteArray} (h : Row W base v l) (hd : d.data.toList = l) : (convert 53 9 v).run Tryd.prog W = .ok (.string d) W := by
  subst hd
  have := row_conv h
  rw [mk_bytes] at this
  exact this
end
end Go.Proofs.YthplnkchmelbmaaDoor.W19
