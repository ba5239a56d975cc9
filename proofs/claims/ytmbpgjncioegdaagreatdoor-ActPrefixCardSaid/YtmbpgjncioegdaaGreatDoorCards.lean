/-
  DERIVED. GIVEN WITH THE SEED: THE CARDS: each row of YtmbpgjncioegdaaGreatDoorRows.lean that lists a variable, with what it lists TIED to the program's text (the seventh form; the later family's looks); each row that meets fmt, with fmt's text TOLD by the authors' own Lean function (tested against real Go, not proved from fmt's source: count such statements apart). THE CARD IS WHAT COUNTS. Prove the row's statement (the work); the ties are given (YtmbpgjncioegdaaGreatDoorTie.lean); close each card by the builder's one call (the guide's Derived/Test/ToyasCard.lean, 'card_holds'). Laid BY PROGRAM, IN A SANDBOX (cutbox-door.mjs). By AI agents, Wed Nov 11 2026. No macro, syntax, notation, axiom, sorry.
-/
import Derived.Test.YtmbpgjncioegdaaGreatDoorRows
import GoSem.ClaimSeven
namespace Go.Proofs.YtmbpgjncioegdaaGreatDoor
namespace Rows

/-- THE TIED CARD OF 'linhaylaw20.ActValid'. -/
def actValidCard : Claim7 := { stood := { row := actValidRow, standIns := [], harness := (true, "ab943f8627cd7f20cf2f1327a9ae5fdfe6c285753978dc8530028b527b14acd0"), looks := false }, kinds := [], alts := [], laidByText := true, laidKinds := [.data, .pinned], laidTests := true, laidLooks := .later }
def ActValidCardSaid : Prop := Claim7.holds Tryz.pinned (.plain (OpenSpec.ofChange actValidSpec)) actValidCard

/-- THE TIED CARD OF 'linhaylaw20.ActRuns'. -/
def actRunsCard : Claim7 := { stood := { row := actRunsRow, standIns := [], harness := (true, "ab943f8627cd7f20cf2f1327a9ae5fdfe6c285753978dc8530028b527b14acd0"), looks := false }, kinds := [], alts := [], laidByText := true, laidKinds := [.data, .pinned], laidTests := true, laidLooks := .later }
def ActRunsCardSaid : Prop := Claim7.holds Tryz.pinned (.plain (OpenSpec.ofChange actRunsSpec)) actRunsCard

/-- THE TIED CARD OF 'linhaylaw20.ActPrefix'. -/
def actPrefixCard : Claim7 := { stood := { row := actPrefixRow, standIns := [], harness := (true, "ab943f8627cd7f20cf2f1327a9ae5fdfe6c285753978dc8530028b527b14acd0"), looks := false }, kinds := [], alts := [], laidByText := true, laidKinds := [.data, .pinned], laidTests := true, laidLooks := .later }
def ActPrefixCardSaid : Prop := Claim7.holds Tryz.pinned (.plain (OpenSpec.ofChange actPrefixSpec)) actPrefixCard

/-- THE TIED CARD OF 'linhaylaw20.ActNone'. -/
def actNoneCard : Claim7 := { stood := { row := actNoneRow, standIns := [], harness := (true, "ab943f8627cd7f20cf2f1327a9ae5fdfe6c285753978dc8530028b527b14acd0"), looks := false }, kinds := [], alts := [], laidByText := true, laidKinds := [.data, .pinned], laidTests := true, laidLooks := .later }
def ActNoneCardSaid : Prop := Claim7.holds Tryz.pinned (.plain (OpenSpec.ofChange actNoneSpec)) actNoneCard

/-- THE SECOND FORM's CARD OF 'linhaylaw20.ActValid'. -/
def actValidUptoCard : Claim7 := { stood := { row := actValidUptoRow, standIns := [], harness := (true, "ab943f8627cd7f20cf2f1327a9ae5fdfe6c285753978dc8530028b527b14acd0"), looks := false }, kinds := [], alts := [], laidByText := true, laidKinds := [.data, .pinned], laidTests := true, laidLooks := .later }
def ActValidUptoCardSaid : Prop := Claim7.holds Tryz.pinned (.plain (OpenSpec.upto actValidSpec)) actValidUptoCard

/-- THE SECOND FORM's CARD OF 'linhaylaw20.ActRuns'. -/
def actRunsUptoCard : Claim7 := { stood := { row := actRunsUptoRow, standIns := [], harness := (true, "ab943f8627cd7f20cf2f1327a9ae5fdfe6c285753978dc8530028b527b14acd0"), looks := false }, kinds := [], alts := [], laidByText := true, laidKinds := [.data, .pinned], laidTests := true, laidLooks := .later }
def ActRunsUptoCardSaid : Prop := Claim7.holds Tryz.pinned (.plain (OpenSpec.upto actRunsSpec)) actRunsUptoCard

/-- THE SECOND FORM's CARD OF 'linhaylaw20.ActPrefix'. -/
def actPrefixUptoCard : Claim7 := { stood := { row := actPrefixUptoRow, standIns := [], harness := (true, "ab943f8627cd7f20cf2f1327a9ae5fdfe6c285753978dc8530028b527b14acd0"), looks := false }, kinds := [], alts := [], laidByText := true, laidKinds := [.data, .pinned], laidTests := true, laidLooks := .later }
def ActPrefixUptoCardSaid : Prop := Claim7.holds Tryz.pinned (.plain (OpenSpec.upto actPrefixSpec)) actPrefixUptoCard

/-- THE SECOND FORM's CARD OF 'linhaylaw20.ActNone'. -/
def actNoneUptoCard : Claim7 := { stood := { row := actNoneUptoRow, standIns := [], harness := (true, "ab943f8627cd7f20cf2f1327a9ae5fdfe6c285753978dc8530028b527b14acd0"), looks := false }, kinds := [], alts := [], laidByText := true, laidKinds := [.data, .pinned], laidTests := true, laidLooks := .later }
def ActNoneUptoCardSaid : Prop := Claim7.holds Tryz.pinned (.plain (OpenSpec.upto actNoneSpec)) actNoneUptoCard
end Rows
end Go.Proofs.YtmbpgjncioegdaaGreatDoor
