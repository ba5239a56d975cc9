/-
  DERIVED. GIVEN WITH THE SEED: THE CARDS: each row of YtdnedeeocpaolaaGreatDoorRows.lean that lists a variable, with what it lists TIED to the program's text (the seventh form; the later family's looks); each row that meets fmt, with fmt's text TOLD by the authors' own Lean function (tested against real Go, not proved from fmt's source: count such statements apart). THE CARD IS WHAT COUNTS. Prove the row's statement (the work); the ties are given (YtdnedeeocpaolaaGreatDoorTie.lean); close each card by the builder's one call (the guide's Derived/Test/ToyasCard.lean, 'card_holds'). Laid BY PROGRAM, IN A SANDBOX (cutbox-door.mjs). By AI agents, Wed Nov 11 2026. No macro, syntax, notation, axiom, sorry.
-/
import Derived.Test.YtdnedeeocpaolaaGreatDoorRows
import GoSem.ClaimSeven
namespace Go.Proofs.YtdnedeeocpaolaaGreatDoor
namespace Rows

/-- THE TIED CARD OF 'linhaylaw09.PosixDoes'. -/
def posixDoesCard : Claim7 := { stood := { row := posixDoesRow, standIns := [], harness := (true, "216b0892712a02ca7855f1ac75db4da53cb219c301ed86cbe1c14af4bb4a67f1"), looks := false }, kinds := [], alts := [], laidByText := true, laidKinds := [.data, .pinned], laidTests := true, laidLooks := .later }
def PosixDoesCardSaid : Prop := Claim7.holds Tryz.pinned (.plain (OpenSpec.ofChange posixDoesSpec)) posixDoesCard

/-- THE TIED CARD OF 'linhaylaw09.PosixNone'. -/
def posixNoneCard : Claim7 := { stood := { row := posixNoneRow, standIns := [], harness := (true, "216b0892712a02ca7855f1ac75db4da53cb219c301ed86cbe1c14af4bb4a67f1"), looks := false }, kinds := [], alts := [], laidByText := true, laidKinds := [.data, .pinned], laidTests := true, laidLooks := .later }
def PosixNoneCardSaid : Prop := Claim7.holds Tryz.pinned (.plain (OpenSpec.ofChange posixNoneSpec)) posixNoneCard

/-- THE SECOND FORM's CARD OF 'linhaylaw09.PosixDoes'. -/
def posixDoesUptoCard : Claim7 := { stood := { row := posixDoesUptoRow, standIns := [], harness := (true, "216b0892712a02ca7855f1ac75db4da53cb219c301ed86cbe1c14af4bb4a67f1"), looks := false }, kinds := [], alts := [], laidByText := true, laidKinds := [.data, .pinned], laidTests := true, laidLooks := .later }
def PosixDoesUptoCardSaid : Prop := Claim7.holds Tryz.pinned (.plain (OpenSpec.upto posixDoesSpec)) posixDoesUptoCard

/-- THE SECOND FORM's CARD OF 'linhaylaw09.PosixNone'. -/
def posixNoneUptoCard : Claim7 := { stood := { row := posixNoneUptoRow, standIns := [], harness := (true, "216b0892712a02ca7855f1ac75db4da53cb219c301ed86cbe1c14af4bb4a67f1"), looks := false }, kinds := [], alts := [], laidByText := true, laidKinds := [.data, .pinned], laidTests := true, laidLooks := .later }
def PosixNoneUptoCardSaid : Prop := Claim7.holds Tryz.pinned (.plain (OpenSpec.upto posixNoneSpec)) posixNoneUptoCard
end Rows
end Go.Proofs.YtdnedeeocpaolaaGreatDoor
