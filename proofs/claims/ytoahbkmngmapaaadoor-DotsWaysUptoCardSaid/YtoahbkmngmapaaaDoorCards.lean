/-
  DERIVED. GIVEN WITH THE SEED: THE CARDS: each row of YtoahbkmngmapaaaDoorRows.lean that lists a variable, with what it lists TIED to the program's text (the seventh form; the later family's looks); each row that meets fmt, with fmt's text TOLD by the authors' own Lean function (tested against real Go, not proved from fmt's source: count such statements apart). THE CARD IS WHAT COUNTS. Prove the row's statement (the work); the ties are given (YtoahbkmngmapaaaDoorTie.lean); close each card by the builder's one call (the guide's Derived/Test/ToyasCard.lean, 'card_holds'). Laid BY PROGRAM, IN A SANDBOX (cutbox-door.mjs). By AI agents, Wed Nov 11 2026. No macro, syntax, notation, axiom, sorry.
-/
import Derived.Test.YtoahbkmngmapaaaDoorRows
import GoSem.ClaimSeven
namespace Go.Proofs.YtoahbkmngmapaaaDoor
namespace Rows

/-- THE TIED CARD OF 'linhaylaw18.DotsWays'. -/
def dotsWaysCard : Claim7 := { stood := { row := dotsWaysRow, standIns := [], harness := (true, "8e8337b27b89e10c8d4f9f9f3992d182de9ea2990b38f9903b13c0eb8edb580b"), looks := false }, kinds := [], alts := [], laidByText := true, laidKinds := [.data, .pinned], laidTests := true, laidLooks := .later }
def DotsWaysCardSaid : Prop := Claim7.holds Tryd.pinned (.plain (OpenSpec.ofChange dotsWaysSpec)) dotsWaysCard

/-- THE SECOND FORM's CARD OF 'linhaylaw18.DotsWays'. -/
def dotsWaysUptoCard : Claim7 := { stood := { row := dotsWaysUptoRow, standIns := [], harness := (true, "8e8337b27b89e10c8d4f9f9f3992d182de9ea2990b38f9903b13c0eb8edb580b"), looks := false }, kinds := [], alts := [], laidByText := true, laidKinds := [.data, .pinned], laidTests := true, laidLooks := .later }
def DotsWaysUptoCardSaid : Prop := Claim7.holds Tryd.pinned (.plain (OpenSpec.upto dotsWaysSpec)) dotsWaysUptoCard
end Rows
end Go.Proofs.YtoahbkmngmapaaaDoor
