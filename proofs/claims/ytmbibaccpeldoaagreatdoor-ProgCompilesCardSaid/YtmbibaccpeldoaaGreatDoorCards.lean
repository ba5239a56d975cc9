/-
  DERIVED. GIVEN WITH THE SEED: THE CARDS: each row of YtmbibaccpeldoaaGreatDoorRows.lean that lists a variable, with what it lists TIED to the program's text (the seventh form; the later family's looks); each row that meets fmt, with fmt's text TOLD by the authors' own Lean function (tested against real Go, not proved from fmt's source: count such statements apart). THE CARD IS WHAT COUNTS. Prove the row's statement (the work); the ties are given (YtmbibaccpeldoaaGreatDoorTie.lean); close each card by the builder's one call (the guide's Derived/Test/ToyasCard.lean, 'card_holds'). Laid BY PROGRAM, IN A SANDBOX (cutbox-door.mjs). By AI agents, Wed Nov 11 2026. No macro, syntax, notation, axiom, sorry.
-/
import Derived.Test.YtmbibaccpeldoaaGreatDoorRows
import GoSem.ClaimSeven
namespace Go.Proofs.YtmbibaccpeldoaaGreatDoor
namespace Rows

/-- THE TIED CARD OF 'linhaylaw15.ProgCompiles'. -/
def progCompilesCard : Claim7 := { stood := { row := progCompilesRow, standIns := [], harness := (true, "e0e59e0a60ed1d6964f954d9ec7707e4725d46a2a495fc63ab288e782a5b01ad"), looks := true }, kinds := [], alts := [], laidByText := true, laidKinds := [.data, .data, .data, .data, .sentinel, .sentinel, .pinned], laidTests := true, laidLooks := .later }
def ProgCompilesCardSaid : Prop := Claim7.holds Tryz.pinned (.plain (OpenSpec.ofChange progCompilesSpec)) progCompilesCard

/-- THE TIED CARD OF 'linhaylaw15.ProgOf'. -/
def progOfCard : Claim7 := { stood := { row := progOfRow, standIns := [], harness := (true, "e0e59e0a60ed1d6964f954d9ec7707e4725d46a2a495fc63ab288e782a5b01ad"), looks := true }, kinds := [], alts := [], laidByText := true, laidKinds := [.data, .data, .data, .data, .sentinel, .sentinel, .pinned], laidTests := true, laidLooks := .later }
def ProgOfCardSaid : Prop := Claim7.holds Tryz.pinned (.plain (OpenSpec.ofChange progOfSpec)) progOfCard

/-- THE TIED CARD OF 'linhaylaw15.ProgRight'. -/
def progRightCard : Claim7 := { stood := { row := progRightRow, standIns := [], harness := (true, "e0e59e0a60ed1d6964f954d9ec7707e4725d46a2a495fc63ab288e782a5b01ad"), looks := true }, kinds := [], alts := [], laidByText := true, laidKinds := [.data, .data, .data, .data, .sentinel, .sentinel, .pinned], laidTests := true, laidLooks := .later }
def ProgRightCardSaid : Prop := Claim7.holds Tryz.pinned (.plain (OpenSpec.ofChange progRightSpec)) progRightCard

/-- THE SECOND FORM's CARD OF 'linhaylaw15.ProgCompiles'. -/
def progCompilesUptoCard : Claim7 := { stood := { row := progCompilesUptoRow, standIns := [], harness := (true, "e0e59e0a60ed1d6964f954d9ec7707e4725d46a2a495fc63ab288e782a5b01ad"), looks := true }, kinds := [], alts := [], laidByText := true, laidKinds := [.data, .data, .data, .data, .sentinel, .sentinel, .pinned], laidTests := true, laidLooks := .later }
def ProgCompilesUptoCardSaid : Prop := Claim7.holds Tryz.pinned (.plain (OpenSpec.upto progCompilesSpec)) progCompilesUptoCard

/-- THE SECOND FORM's CARD OF 'linhaylaw15.ProgOf'. -/
def progOfUptoCard : Claim7 := { stood := { row := progOfUptoRow, standIns := [], harness := (true, "e0e59e0a60ed1d6964f954d9ec7707e4725d46a2a495fc63ab288e782a5b01ad"), looks := true }, kinds := [], alts := [], laidByText := true, laidKinds := [.data, .data, .data, .data, .sentinel, .sentinel, .pinned], laidTests := true, laidLooks := .later }
def ProgOfUptoCardSaid : Prop := Claim7.holds Tryz.pinned (.plain (OpenSpec.upto progOfSpec)) progOfUptoCard

/-- THE SECOND FORM's CARD OF 'linhaylaw15.ProgRight'. -/
def progRightUptoCard : Claim7 := { stood := { row := progRightUptoRow, standIns := [], harness := (true, "e0e59e0a60ed1d6964f954d9ec7707e4725d46a2a495fc63ab288e782a5b01ad"), looks := true }, kinds := [], alts := [], laidByText := true, laidKinds := [.data, .data, .data, .data, .sentinel, .sentinel, .pinned], laidTests := true, laidLooks := .later }
def ProgRightUptoCardSaid : Prop := Claim7.holds Tryz.pinned (.plain (OpenSpec.upto progRightSpec)) progRightUptoCard
end Rows
end Go.Proofs.YtmbibaccpeldoaaGreatDoor
