/-
  DERIVED. GIVEN WITH THE SEED: THE CARDS: each row of YtmpjjfhmkfchfaaDoorRows.lean that lists a variable, with what it lists TIED to the program's text (the seventh form; the later family's looks); each row that meets fmt, with fmt's text TOLD by the authors' own Lean function (tested against real Go, not proved from fmt's source: count such statements apart). THE CARD IS WHAT COUNTS. Prove the row's statement (the work); the ties are given (YtmpjjfhmkfchfaaDoorTie.lean); close each card by the builder's one call (the guide's Derived/Test/ToyasCard.lean, 'card_holds'). Laid BY PROGRAM, IN A SANDBOX (cutbox-door.mjs). By AI agents, Wed Nov 11 2026. No macro, syntax, notation, axiom, sorry.
-/
import Derived.Test.YtmpjjfhmkfchfaaDoorRows
import GoSem.ClaimSeven
namespace Go.Proofs.YtmpjjfhmkfchfaaDoor
namespace Rows

/-- THE TIED CARD OF 'linhaylaw08.SeekFinds'. -/
def seekFindsCard : Claim7 := { stood := { row := seekFindsRow, standIns := [], harness := (true, "17faf12f0705501f0f65fb4c755bcfbe6723175b08af277d42f74cd634dffea6"), looks := false }, kinds := [], alts := [], laidByText := true, laidKinds := [.data, .pinned], laidTests := true, laidLooks := .later }
def SeekFindsCardSaid : Prop := Claim7.holds Tryd.pinned (.plain (OpenSpec.ofChange seekFindsSpec)) seekFindsCard

/-- THE TIED CARD OF 'linhaylaw08.SeekReal'. -/
def seekRealCard : Claim7 := { stood := { row := seekRealRow, standIns := [], harness := (true, "17faf12f0705501f0f65fb4c755bcfbe6723175b08af277d42f74cd634dffea6"), looks := false }, kinds := [], alts := [], laidByText := true, laidKinds := [.data, .pinned], laidTests := true, laidLooks := .later }
def SeekRealCardSaid : Prop := Claim7.holds Tryd.pinned (.plain (OpenSpec.ofChange seekRealSpec)) seekRealCard

/-- THE TIED CARD OF 'linhaylaw08.SeekNone'. -/
def seekNoneCard : Claim7 := { stood := { row := seekNoneRow, standIns := [], harness := (true, "17faf12f0705501f0f65fb4c755bcfbe6723175b08af277d42f74cd634dffea6"), looks := false }, kinds := [], alts := [], laidByText := true, laidKinds := [.data, .pinned], laidTests := true, laidLooks := .later }
def SeekNoneCardSaid : Prop := Claim7.holds Tryd.pinned (.plain (OpenSpec.ofChange seekNoneSpec)) seekNoneCard

/-- THE SECOND FORM's CARD OF 'linhaylaw08.SeekFinds'. -/
def seekFindsUptoCard : Claim7 := { stood := { row := seekFindsUptoRow, standIns := [], harness := (true, "17faf12f0705501f0f65fb4c755bcfbe6723175b08af277d42f74cd634dffea6"), looks := false }, kinds := [], alts := [], laidByText := true, laidKinds := [.data, .pinned], laidTests := true, laidLooks := .later }
def SeekFindsUptoCardSaid : Prop := Claim7.holds Tryd.pinned (.plain (OpenSpec.upto seekFindsSpec)) seekFindsUptoCard

/-- THE SECOND FORM's CARD OF 'linhaylaw08.SeekReal'. -/
def seekRealUptoCard : Claim7 := { stood := { row := seekRealUptoRow, standIns := [], harness := (true, "17faf12f0705501f0f65fb4c755bcfbe6723175b08af277d42f74cd634dffea6"), looks := false }, kinds := [], alts := [], laidByText := true, laidKinds := [.data, .pinned], laidTests := true, laidLooks := .later }
def SeekRealUptoCardSaid : Prop := Claim7.holds Tryd.pinned (.plain (OpenSpec.upto seekRealSpec)) seekRealUptoCard

/-- THE SECOND FORM's CARD OF 'linhaylaw08.SeekNone'. -/
def seekNoneUptoCard : Claim7 := { stood := { row := seekNoneUptoRow, standIns := [], harness := (true, "17faf12f0705501f0f65fb4c755bcfbe6723175b08af277d42f74cd634dffea6"), looks := false }, kinds := [], alts := [], laidByText := true, laidKinds := [.data, .pinned], laidTests := true, laidLooks := .later }
def SeekNoneUptoCardSaid : Prop := Claim7.holds Tryd.pinned (.plain (OpenSpec.upto seekNoneSpec)) seekNoneUptoCard
end Rows
end Go.Proofs.YtmpjjfhmkfchfaaDoor
