/-
  DERIVED. GIVEN WITH THE SEED: THE CARDS: each row of YtdnedeeocpaolaaDoorRows.lean that lists a variable, with what it lists TIED to the program's text (the seventh form; the later family's looks); each row that meets fmt, with fmt's text TOLD by the authors' own Lean function (tested against real Go, not proved from fmt's source: count such statements apart). THE CARD IS WHAT COUNTS. Prove the row's statement (the work); the ties are given (YtdnedeeocpaolaaDoorTie.lean); close each card by the builder's one call (the guide's Derived/Test/ToyasCard.lean, 'card_holds'). Laid BY PROGRAM, IN A SANDBOX (cutbox-door.mjs). By AI agents, Wed Nov 11 2026. No macro, syntax, notation, axiom, sorry.
-/
import Derived.Test.YtdnedeeocpaolaaDoorRows
import GoSem.ClaimSeven
namespace Go.Proofs.YtdnedeeocpaolaaDoor
namespace Rows

/-- THE TIED CARD OF 'linhaylaw09.PosixAsks'. -/
def posixAsksCard : Claim7 := { stood := { row := posixAsksRow, standIns := [], harness := (true, "b4be46e5de6b7bf38ea2db787f13a87723c630f94331572b6b26f2e0db590d3b"), looks := false }, kinds := [], alts := [], laidByText := true, laidKinds := [.data, .pinned], laidTests := true, laidLooks := .later }
def PosixAsksCardSaid : Prop := Claim7.holds Tryd.pinned (.plain (OpenSpec.ofChange posixAsksSpec)) posixAsksCard

/-- THE TIED CARD OF 'linhaylaw09.PosixMoves'. -/
def posixMovesCard : Claim7 := { stood := { row := posixMovesRow, standIns := [], harness := (true, "b4be46e5de6b7bf38ea2db787f13a87723c630f94331572b6b26f2e0db590d3b"), looks := false }, kinds := [], alts := [], laidByText := true, laidKinds := [.data, .pinned], laidTests := true, laidLooks := .later }
def PosixMovesCardSaid : Prop := Claim7.holds Tryd.pinned (.plain (OpenSpec.ofChange posixMovesSpec)) posixMovesCard

/-- THE SECOND FORM's CARD OF 'linhaylaw09.PosixAsks'. -/
def posixAsksUptoCard : Claim7 := { stood := { row := posixAsksUptoRow, standIns := [], harness := (true, "b4be46e5de6b7bf38ea2db787f13a87723c630f94331572b6b26f2e0db590d3b"), looks := false }, kinds := [], alts := [], laidByText := true, laidKinds := [.data, .pinned], laidTests := true, laidLooks := .later }
def PosixAsksUptoCardSaid : Prop := Claim7.holds Tryd.pinned (.plain (OpenSpec.upto posixAsksSpec)) posixAsksUptoCard

/-- THE SECOND FORM's CARD OF 'linhaylaw09.PosixMoves'. -/
def posixMovesUptoCard : Claim7 := { stood := { row := posixMovesUptoRow, standIns := [], harness := (true, "b4be46e5de6b7bf38ea2db787f13a87723c630f94331572b6b26f2e0db590d3b"), looks := false }, kinds := [], alts := [], laidByText := true, laidKinds := [.data, .pinned], laidTests := true, laidLooks := .later }
def PosixMovesUptoCardSaid : Prop := Claim7.holds Tryd.pinned (.plain (OpenSpec.upto posixMovesSpec)) posixMovesUptoCard
end Rows
end Go.Proofs.YtdnedeeocpaolaaDoor
