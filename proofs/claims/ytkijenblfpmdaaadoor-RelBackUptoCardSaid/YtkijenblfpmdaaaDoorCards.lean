/-
  DERIVED. GIVEN WITH THE SEED: THE CARDS: each row of YtkijenblfpmdaaaDoorRows.lean that lists a variable, with what it lists TIED to the program's text (the seventh form; the later family's looks); each row that meets fmt, with fmt's text TOLD by the authors' own Lean function (tested against real Go, not proved from fmt's source: count such statements apart). THE CARD IS WHAT COUNTS. Prove the row's statement (the work); the ties are given (YtkijenblfpmdaaaDoorTie.lean); close each card by the builder's one call (the guide's Derived/Test/ToyasCard.lean, 'card_holds'). Laid BY PROGRAM, IN A SANDBOX (cutbox-door.mjs). By AI agents, Wed Nov 11 2026. No macro, syntax, notation, axiom, sorry.
-/
import Derived.Test.YtkijenblfpmdaaaDoorRows
import GoSem.ClaimSeven
namespace Go.Proofs.YtkijenblfpmdaaaDoor
namespace Rows

/-- THE TIED CARD OF 'linhaylaw05.RelTells'. -/
def relTellsCard : Claim7 := { stood := { row := relTellsRow, standIns := [], harness := (true, "0463d49038e86e0d871e7b6852b8cc5a37a6af71bb752fab56eaa9939bfef3e3"), looks := false }, kinds := [], alts := [], laidByText := true, laidKinds := [.data, .pinned], laidTests := true, laidLooks := .later }
def RelTellsCardSaid : Prop := Claim7.holds Tryd.pinned (.plain (OpenSpec.ofChange relTellsSpec)) relTellsCard

/-- THE TIED CARD OF 'linhaylaw05.RelBack'. -/
def relBackCard : Claim7 := { stood := { row := relBackRow, standIns := [], harness := (true, "0463d49038e86e0d871e7b6852b8cc5a37a6af71bb752fab56eaa9939bfef3e3"), looks := false }, kinds := [], alts := [], laidByText := true, laidKinds := [.data, .pinned], laidTests := true, laidLooks := .later }
def RelBackCardSaid : Prop := Claim7.holds Tryd.pinned (.plain (OpenSpec.ofChange relBackSpec)) relBackCard

/-- THE SECOND FORM's CARD OF 'linhaylaw05.RelTells'. -/
def relTellsUptoCard : Claim7 := { stood := { row := relTellsUptoRow, standIns := [], harness := (true, "0463d49038e86e0d871e7b6852b8cc5a37a6af71bb752fab56eaa9939bfef3e3"), looks := false }, kinds := [], alts := [], laidByText := true, laidKinds := [.data, .pinned], laidTests := true, laidLooks := .later }
def RelTellsUptoCardSaid : Prop := Claim7.holds Tryd.pinned (.plain (OpenSpec.upto relTellsSpec)) relTellsUptoCard

/-- THE SECOND FORM's CARD OF 'linhaylaw05.RelBack'. -/
def relBackUptoCard : Claim7 := { stood := { row := relBackUptoRow, standIns := [], harness := (true, "0463d49038e86e0d871e7b6852b8cc5a37a6af71bb752fab56eaa9939bfef3e3"), looks := false }, kinds := [], alts := [], laidByText := true, laidKinds := [.data, .pinned], laidTests := true, laidLooks := .later }
def RelBackUptoCardSaid : Prop := Claim7.holds Tryd.pinned (.plain (OpenSpec.upto relBackSpec)) relBackUptoCard
end Rows
end Go.Proofs.YtkijenblfpmdaaaDoor
