/-
  DERIVED. GIVEN WITH THE SEED: THE CARDS: each row of YtolhniepejhmfaaGreatDoorRows.lean that lists a variable, with what it lists TIED to the program's text (the seventh form; the later family's looks); each row that meets fmt, with fmt's text TOLD by the authors' own Lean function (tested against real Go, not proved from fmt's source: count such statements apart). THE CARD IS WHAT COUNTS. Prove the row's statement (the work); the ties are given (YtolhniepejhmfaaGreatDoorTie.lean); close each card by the builder's one call (the guide's Derived/Test/ToyasCard.lean, 'card_holds'). Laid BY PROGRAM, IN A SANDBOX (cutbox-door.mjs). By AI agents, Wed Nov 11 2026. No macro, syntax, notation, axiom, sorry.
-/
import Derived.Test.YtolhniepejhmfaaGreatDoorRows
import GoSem.ClaimSeven
namespace Go.Proofs.YtolhniepejhmfaaGreatDoor
namespace Rows

/-- THE TIED CARD OF 'linhaylaw10.FsDoes'. -/
def fsDoesCard : Claim7 := { stood := { row := fsDoesRow, standIns := [], harness := (true, "ac022e5ec00dcc43d3d690f2be716719f11b07f350b487ac15b595d3ede62453"), looks := false }, kinds := [], alts := [], laidByText := true, laidKinds := [.data, .pinned], laidTests := true, laidLooks := .later }
def FsDoesCardSaid : Prop := Claim7.holds Tryz.pinned (.plain (OpenSpec.ofChange fsDoesSpec)) fsDoesCard

/-- THE TIED CARD OF 'linhaylaw10.FsApplies'. -/
def fsAppliesCard : Claim7 := { stood := { row := fsAppliesRow, standIns := [], harness := (true, "ac022e5ec00dcc43d3d690f2be716719f11b07f350b487ac15b595d3ede62453"), looks := false }, kinds := [], alts := [], laidByText := true, laidKinds := [.data, .pinned], laidTests := true, laidLooks := .later }
def FsAppliesCardSaid : Prop := Claim7.holds Tryz.pinned (.plain (OpenSpec.ofChange fsAppliesSpec)) fsAppliesCard

/-- THE SECOND FORM's CARD OF 'linhaylaw10.FsDoes'. -/
def fsDoesUptoCard : Claim7 := { stood := { row := fsDoesUptoRow, standIns := [], harness := (true, "ac022e5ec00dcc43d3d690f2be716719f11b07f350b487ac15b595d3ede62453"), looks := false }, kinds := [], alts := [], laidByText := true, laidKinds := [.data, .pinned], laidTests := true, laidLooks := .later }
def FsDoesUptoCardSaid : Prop := Claim7.holds Tryz.pinned (.plain (OpenSpec.upto fsDoesSpec)) fsDoesUptoCard

/-- THE SECOND FORM's CARD OF 'linhaylaw10.FsApplies'. -/
def fsAppliesUptoCard : Claim7 := { stood := { row := fsAppliesUptoRow, standIns := [], harness := (true, "ac022e5ec00dcc43d3d690f2be716719f11b07f350b487ac15b595d3ede62453"), looks := false }, kinds := [], alts := [], laidByText := true, laidKinds := [.data, .pinned], laidTests := true, laidLooks := .later }
def FsAppliesUptoCardSaid : Prop := Claim7.holds Tryz.pinned (.plain (OpenSpec.upto fsAppliesSpec)) fsAppliesUptoCard
end Rows
end Go.Proofs.YtolhniepejhmfaaGreatDoor
