/-
  DERIVED. GIVEN WITH THE SEED: THE CARDS: each row of YtenlogfiabhfmaaGreatDoorRows.lean that lists a variable, with what it lists TIED to the program's text (the seventh form; the later family's looks); each row that meets fmt, with fmt's text TOLD by the authors' own Lean function (tested against real Go, not proved from fmt's source: count such statements apart). THE CARD IS WHAT COUNTS. Prove the row's statement (the work); the ties are given (YtenlogfiabhfmaaGreatDoorTie.lean); close each card by the builder's one call (the guide's Derived/Test/ToyasCard.lean, 'card_holds'). Laid BY PROGRAM, IN A SANDBOX (cutbox-door.mjs). By AI agents, Wed Nov 11 2026. No macro, syntax, notation, axiom, sorry.
-/
import Derived.Test.YtenlogfiabhfmaaGreatDoorRows
import GoSem.ClaimSeven
namespace Go.Proofs.YtenlogfiabhfmaaGreatDoor
namespace Rows

/-- THE TIED CARD OF 'linhaylaw14.PatternParse'. -/
def patternParseCard : Claim7 := { stood := { row := patternParseRow, standIns := [], harness := (true, "87b397de3ce84ed6c7bed2571f036d20b872ab25cc66b01c6a3f38c7cd344aea"), looks := true }, kinds := [], alts := [], laidByText := true, laidKinds := [.data, .data, .data, .data, .sentinel, .sentinel, .pinned], laidTests := true, laidLooks := .later }
def PatternParseCardSaid : Prop := Claim7.holds Tryz.pinned (.plain (OpenSpec.ofChange patternParseSpec)) patternParseCard

/-- THE SECOND FORM's CARD OF 'linhaylaw14.PatternParse'. -/
def patternParseUptoCard : Claim7 := { stood := { row := patternParseUptoRow, standIns := [], harness := (true, "87b397de3ce84ed6c7bed2571f036d20b872ab25cc66b01c6a3f38c7cd344aea"), looks := true }, kinds := [], alts := [], laidByText := true, laidKinds := [.data, .data, .data, .data, .sentinel, .sentinel, .pinned], laidTests := true, laidLooks := .later }
def PatternParseUptoCardSaid : Prop := Claim7.holds Tryz.pinned (.plain (OpenSpec.upto patternParseSpec)) patternParseUptoCard
end Rows
end Go.Proofs.YtenlogfiabhfmaaGreatDoor
