/-
  Tasks as records of three cells: how a value reads as one, and a slice as a list of them. No condition but those that each theorem bears.
-/
import Derived.Test.YthplnkchmelbmaaDoorRecs
namespace Go.Proofs.YthplnkchmelbmaaDoor.W09
open Go Go.RowKit Go.Proofs.YthplnkchmelbmaaDoor.Strs Go.Proofs.YthplnkchmelbmaaDoor.Recs

structure Tk where
  kind : Int
  path : List UInt8
  text : List UInt8
def tkC (x : Tk) : List Value := [.int .i64 x.kind, strV x.path, strV x.text]
theorem tkC_len (x : Tk) : (tkC x).length = 3 := rfl
abbrev Tasks (B : Nat) (w : World) (v : Value) (L : List Tk) : Prop := Recs tkC 3 B w v L
theorem Tasks.at_ {B : Nat} {w : World} {L : List Tk} {A : Option Addr} {n c : Nat} (h : Tasks B w (.slice A n c) L) {k : Nat} (hk : k < n) : ∃ (b o : Nat) (hl : k < L.length), A = some ⟨b, o, none⟩ ∧ b < B ∧ w.cell? ⟨b, o + k * 3, none⟩ = some (.int .i64 (L[k]).kind) ∧ w.cell? ⟨b, o + k * 3 + 1, none⟩ = some (.string ⟨(L[k]).path.toArray⟩) ∧ w.cell? ⟨b, o + k * 3 + 2, none⟩ = some (.string ⟨(L[k]).text.toArray⟩) := by
  obtain ⟨b, o, hl, rfl, hb, hc⟩ := Recs.flat_ h tkC_len (by omega) hk
  exact ⟨b, o, hl, rfl, hb, hc 0 (by omega), hc 1 (by omega), hc 2 (by omega)⟩
end Go.Proofs.YthplnkchmelbmaaDoor.W09
