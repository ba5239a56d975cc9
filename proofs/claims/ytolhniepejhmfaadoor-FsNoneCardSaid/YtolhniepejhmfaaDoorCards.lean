/-
  DERIVED. GIVEN WITH THE SEED: THE CARDS: each row of YtolhniepejhmfaaDoorRows.lean that lists a variable, with what it lists TIED to the program's text (the seventh form; the later family's looks); each row that meets fmt, with fmt's text TOLD by the authors' own Lean function (tested against real Go, not proved from fmt's source: count such statements apart). THE CARD IS WHAT COUNTS. Prove the row's statement (the work); the ties are given (YtolhniepejhmfaaDoorTie.lean); close each card by the builder's one call (the guide's Derived/Test/ToyasCard.lean, 'card_holds'). Laid BY PROGRAM, IN A SANDBOX (cutbox-door.mjs). By AI agents, Wed Nov 11 2026. No macro, syntax, notation, axiom, sorry.
-/
import Derived.Test.YtolhniepejhmfaaDoorRows
import GoSem.ClaimSeven
namespace Go.Proofs.YtolhniepejhmfaaDoor
namespace Rows

/-- THE TIED CARD OF 'linhaylaw10.FsNone'. -/
def fsNoneCard : Claim7 := { stood := { row := fsNoneRow, standIns := [], harness := (true, "11f902b4e43d4abac631fa998db53bf9b9bb24d74b369d4ee199888899cc97f1"), looks := false }, kinds := [], alts := [], laidByText := true, laidKinds := [.data, .pinned], laidTests := true, laidLooks := .later }
def FsNoneCardSaid : Prop := Claim7.holds Tryd.pinned (.plain (OpenSpec.ofChange fsNoneSpec)) fsNoneCard

/-- THE SECOND FORM's CARD OF 'linhaylaw10.FsNone'. -/
def fsNoneUptoCard : Claim7 := { stood := { row := fsNoneUptoRow, standIns := [], harness := (true, "11f902b4e43d4abac631fa998db53bf9b9bb24d74b369d4ee199888899cc97f1"), looks := false }, kinds := [], alts := [], laidByText := true, laidKinds := [.data, .pinned], laidTests := true, laidLooks := .later }
def FsNoneUptoCardSaid : Prop := Claim7.holds Tryd.pinned (.plain (OpenSpec.upto fsNoneSpec)) fsNoneUptoCard
end Rows
end Go.Proofs.YtolhniepejhmfaaDoor
