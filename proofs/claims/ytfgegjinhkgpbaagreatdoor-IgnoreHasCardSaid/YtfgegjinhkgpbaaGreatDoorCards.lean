/-
  DERIVED. GIVEN WITH THE SEED: THE CARDS: each row of YtfgegjinhkgpbaaGreatDoorRows.lean that lists a variable, with what it lists TIED to the program's text (the seventh form; the later family's looks); each row that meets fmt, with fmt's text TOLD by the authors' own Lean function (tested against real Go, not proved from fmt's source: count such statements apart). THE CARD IS WHAT COUNTS. Prove the row's statement (the work); the ties are given (YtfgegjinhkgpbaaGreatDoorTie.lean); close each card by the builder's one call (the guide's Derived/Test/ToyasCard.lean, 'card_holds'). Laid BY PROGRAM, IN A SANDBOX (cutbox-door.mjs). By AI agents, Wed Nov 11 2026. No macro, syntax, notation, axiom, sorry.
-/
import Derived.Test.YtfgegjinhkgpbaaGreatDoorRows
import GoSem.ClaimSeven
namespace Go.Proofs.YtfgegjinhkgpbaaGreatDoor
namespace Rows

/-- THE TIED CARD OF 'linhaylaw17.IgnoreParse'. -/
def ignoreParseCard : Claim7 := { stood := { row := ignoreParseRow, standIns := [], harness := (true, "bed8bac13a9f5a196210514da5810d6e1a61b1159eb392f034daed8869e8d948"), looks := true }, kinds := [], alts := [], laidByText := true, laidKinds := [.data, .data, .data, .data, .sentinel, .sentinel, .pinned], laidTests := true, laidLooks := .later }
def IgnoreParseCardSaid : Prop := Claim7.holds Tryz.pinned (.plain (OpenSpec.ofChange ignoreParseSpec)) ignoreParseCard

/-- THE TIED CARD OF 'linhaylaw17.IgnoreHas'. -/
def ignoreHasCard : Claim7 := { stood := { row := ignoreHasRow, standIns := [], harness := (true, "bed8bac13a9f5a196210514da5810d6e1a61b1159eb392f034daed8869e8d948"), looks := true }, kinds := [], alts := [], laidByText := true, laidKinds := [.data, .data, .data, .data, .sentinel, .sentinel, .pinned], laidTests := true, laidLooks := .later }
def IgnoreHasCardSaid : Prop := Claim7.holds Tryz.pinned (.plain (OpenSpec.ofChange ignoreHasSpec)) ignoreHasCard

/-- THE TIED CARD OF 'linhaylaw17.IgnoreMore'. -/
def ignoreMoreCard : Claim7 := { stood := { row := ignoreMoreRow, standIns := [], harness := (true, "bed8bac13a9f5a196210514da5810d6e1a61b1159eb392f034daed8869e8d948"), looks := true }, kinds := [], alts := [], laidByText := true, laidKinds := [.data, .data, .data, .data, .sentinel, .sentinel, .pinned], laidTests := true, laidLooks := .later }
def IgnoreMoreCardSaid : Prop := Claim7.holds Tryz.pinned (.plain (OpenSpec.ofChange ignoreMoreSpec)) ignoreMoreCard

/-- THE SECOND FORM's CARD OF 'linhaylaw17.IgnoreParse'. -/
def ignoreParseUptoCard : Claim7 := { stood := { row := ignoreParseUptoRow, standIns := [], harness := (true, "bed8bac13a9f5a196210514da5810d6e1a61b1159eb392f034daed8869e8d948"), looks := true }, kinds := [], alts := [], laidByText := true, laidKinds := [.data, .data, .data, .data, .sentinel, .sentinel, .pinned], laidTests := true, laidLooks := .later }
def IgnoreParseUptoCardSaid : Prop := Claim7.holds Tryz.pinned (.plain (OpenSpec.upto ignoreParseSpec)) ignoreParseUptoCard

/-- THE SECOND FORM's CARD OF 'linhaylaw17.IgnoreHas'. -/
def ignoreHasUptoCard : Claim7 := { stood := { row := ignoreHasUptoRow, standIns := [], harness := (true, "bed8bac13a9f5a196210514da5810d6e1a61b1159eb392f034daed8869e8d948"), looks := true }, kinds := [], alts := [], laidByText := true, laidKinds := [.data, .data, .data, .data, .sentinel, .sentinel, .pinned], laidTests := true, laidLooks := .later }
def IgnoreHasUptoCardSaid : Prop := Claim7.holds Tryz.pinned (.plain (OpenSpec.upto ignoreHasSpec)) ignoreHasUptoCard

/-- THE SECOND FORM's CARD OF 'linhaylaw17.IgnoreMore'. -/
def ignoreMoreUptoCard : Claim7 := { stood := { row := ignoreMoreUptoRow, standIns := [], harness := (true, "bed8bac13a9f5a196210514da5810d6e1a61b1159eb392f034daed8869e8d948"), looks := true }, kinds := [], alts := [], laidByText := true, laidKinds := [.data, .data, .data, .data, .sentinel, .sentinel, .pinned], laidTests := true, laidLooks := .later }
def IgnoreMoreUptoCardSaid : Prop := Claim7.holds Tryz.pinned (.plain (OpenSpec.upto ignoreMoreSpec)) ignoreMoreUptoCard
end Rows
end Go.Proofs.YtfgegjinhkgpbaaGreatDoor
