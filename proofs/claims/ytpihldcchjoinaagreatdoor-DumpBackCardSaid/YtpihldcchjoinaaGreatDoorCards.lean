/-
  DERIVED. GIVEN WITH THE SEED: THE CARDS: each row of YtpihldcchjoinaaGreatDoorRows.lean that lists a variable, with what it lists TIED to the program's text (the seventh form; the later family's looks); each row that meets fmt, with fmt's text TOLD by the authors' own Lean function (tested against real Go, not proved from fmt's source: count such statements apart). THE CARD IS WHAT COUNTS. Prove the row's statement (the work); the ties are given (YtpihldcchjoinaaGreatDoorTie.lean); close each card by the builder's one call (the guide's Derived/Test/ToyasCard.lean, 'card_holds'). Laid BY PROGRAM, IN A SANDBOX (cutbox-door.mjs). By AI agents, Wed Nov 11 2026. No macro, syntax, notation, axiom, sorry.
-/
import Derived.Test.YtpihldcchjoinaaGreatDoorRows
import GoSem.ClaimSeven
namespace Go.Proofs.YtpihldcchjoinaaGreatDoor
namespace Rows

/-- THE TIED CARD OF 'linhaylaw12.DumpTells'. -/
def dumpTellsCard : Claim7 := { stood := { row := dumpTellsRow, standIns := [], harness := (true, "22317c1f56899982c8984cf259f1a61e5cfc02122d6056af8aed34b3cef5fe68"), looks := false }, kinds := [], alts := [], laidByText := true, laidKinds := [.data, .pinned], laidTests := true, laidLooks := .later }
def DumpTellsCardSaid : Prop := Claim7.holds Tryz.pinned (.plain (OpenSpec.ofChange dumpTellsSpec)) dumpTellsCard

/-- THE TIED CARD OF 'linhaylaw12.DumpLays'. -/
def dumpLaysCard : Claim7 := { stood := { row := dumpLaysRow, standIns := [], harness := (true, "22317c1f56899982c8984cf259f1a61e5cfc02122d6056af8aed34b3cef5fe68"), looks := false }, kinds := [], alts := [], laidByText := true, laidKinds := [.data, .pinned], laidTests := true, laidLooks := .later }
def DumpLaysCardSaid : Prop := Claim7.holds Tryz.pinned (.plain (OpenSpec.ofChange dumpLaysSpec)) dumpLaysCard

/-- THE TIED CARD OF 'linhaylaw12.DumpBack'. -/
def dumpBackCard : Claim7 := { stood := { row := dumpBackRow, standIns := [], harness := (true, "22317c1f56899982c8984cf259f1a61e5cfc02122d6056af8aed34b3cef5fe68"), looks := false }, kinds := [], alts := [], laidByText := true, laidKinds := [.data, .pinned], laidTests := true, laidLooks := .later }
def DumpBackCardSaid : Prop := Claim7.holds Tryz.pinned (.plain (OpenSpec.ofChange dumpBackSpec)) dumpBackCard

/-- THE TIED CARD OF 'linhaylaw12.DumpNone'. -/
def dumpNoneCard : Claim7 := { stood := { row := dumpNoneRow, standIns := [], harness := (true, "22317c1f56899982c8984cf259f1a61e5cfc02122d6056af8aed34b3cef5fe68"), looks := false }, kinds := [], alts := [], laidByText := true, laidKinds := [.data, .pinned], laidTests := true, laidLooks := .later }
def DumpNoneCardSaid : Prop := Claim7.holds Tryz.pinned (.plain (OpenSpec.ofChange dumpNoneSpec)) dumpNoneCard

/-- THE SECOND FORM's CARD OF 'linhaylaw12.DumpTells'. -/
def dumpTellsUptoCard : Claim7 := { stood := { row := dumpTellsUptoRow, standIns := [], harness := (true, "22317c1f56899982c8984cf259f1a61e5cfc02122d6056af8aed34b3cef5fe68"), looks := false }, kinds := [], alts := [], laidByText := true, laidKinds := [.data, .pinned], laidTests := true, laidLooks := .later }
def DumpTellsUptoCardSaid : Prop := Claim7.holds Tryz.pinned (.plain (OpenSpec.upto dumpTellsSpec)) dumpTellsUptoCard

/-- THE SECOND FORM's CARD OF 'linhaylaw12.DumpLays'. -/
def dumpLaysUptoCard : Claim7 := { stood := { row := dumpLaysUptoRow, standIns := [], harness := (true, "22317c1f56899982c8984cf259f1a61e5cfc02122d6056af8aed34b3cef5fe68"), looks := false }, kinds := [], alts := [], laidByText := true, laidKinds := [.data, .pinned], laidTests := true, laidLooks := .later }
def DumpLaysUptoCardSaid : Prop := Claim7.holds Tryz.pinned (.plain (OpenSpec.upto dumpLaysSpec)) dumpLaysUptoCard

/-- THE SECOND FORM's CARD OF 'linhaylaw12.DumpBack'. -/
def dumpBackUptoCard : Claim7 := { stood := { row := dumpBackUptoRow, standIns := [], harness := (true, "22317c1f56899982c8984cf259f1a61e5cfc02122d6056af8aed34b3cef5fe68"), looks := false }, kinds := [], alts := [], laidByText := true, laidKinds := [.data, .pinned], laidTests := true, laidLooks := .later }
def DumpBackUptoCardSaid : Prop := Claim7.holds Tryz.pinned (.plain (OpenSpec.upto dumpBackSpec)) dumpBackUptoCard

/-- THE SECOND FORM's CARD OF 'linhaylaw12.DumpNone'. -/
def dumpNoneUptoCard : Claim7 := { stood := { row := dumpNoneUptoRow, standIns := [], harness := (true, "22317c1f56899982c8984cf259f1a61e5cfc02122d6056af8aed34b3cef5fe68"), looks := false }, kinds := [], alts := [], laidByText := true, laidKinds := [.data, .pinned], laidTests := true, laidLooks := .later }
def DumpNoneUptoCardSaid : Prop := Claim7.holds Tryz.pinned (.plain (OpenSpec.upto dumpNoneSpec)) dumpNoneUptoCard
end Rows
end Go.Proofs.YtpihldcchjoinaaGreatDoor
