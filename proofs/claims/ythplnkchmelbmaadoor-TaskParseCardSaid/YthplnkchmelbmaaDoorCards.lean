/-
  DERIVED. GIVEN WITH THE SEED: THE CARDS: each row of YthplnkchmelbmaaDoorRows.lean that lists a variable, with what it lists TIED to the program's text (the seventh form; the later family's looks); each row that meets fmt, with fmt's text TOLD by the authors' own Lean function (tested against real Go, not proved from fmt's source: count such statements apart). THE CARD IS WHAT COUNTS. Prove the row's statement (the work); the ties are given (YthplnkchmelbmaaDoorTie.lean); close each card by the builder's one call (the guide's Derived/Test/ToyasCard.lean, 'card_holds'). Laid BY PROGRAM, IN A SANDBOX (cutbox-door.mjs). By AI agents, Wed Nov 11 2026. No macro, syntax, notation, axiom, sorry.
-/
import Derived.Test.YthplnkchmelbmaaDoorRows
import GoSem.ClaimSeven
namespace Go.Proofs.YthplnkchmelbmaaDoor
namespace Rows

/-- THE TIED CARD OF 'linhaylaw19.TaskLines'. -/
def taskLinesCard : Claim7 := { stood := { row := taskLinesRow, standIns := [], harness := (true, "1df0f81bf11568ea09f156544102fa7125294562dfa2ec22388a086dbe5d47d9"), looks := false }, kinds := [], alts := [], laidByText := true, laidKinds := [.data, .data, .pinned], laidTests := true, laidLooks := .later }
def TaskLinesCardSaid : Prop := Claim7.holds Tryd.pinned (.plain (OpenSpec.ofChange taskLinesSpec)) taskLinesCard

/-- THE TIED CARD OF 'linhaylaw19.TaskParse'. -/
def taskParseCard : Claim7 := { stood := { row := taskParseRow, standIns := [], harness := (true, "1df0f81bf11568ea09f156544102fa7125294562dfa2ec22388a086dbe5d47d9"), looks := false }, kinds := [], alts := [], laidByText := true, laidKinds := [.data, .data, .pinned], laidTests := true, laidLooks := .later }
def TaskParseCardSaid : Prop := Claim7.holds Tryd.pinned (.plain (OpenSpec.ofChange taskParseSpec)) taskParseCard

/-- THE TIED CARD OF 'linhaylaw19.TaskMany'. -/
def taskManyCard : Claim7 := { stood := { row := taskManyRow, standIns := [], harness := (true, "1df0f81bf11568ea09f156544102fa7125294562dfa2ec22388a086dbe5d47d9"), looks := false }, kinds := [], alts := [], laidByText := true, laidKinds := [.data, .data, .pinned], laidTests := true, laidLooks := .later }
def TaskManyCardSaid : Prop := Claim7.holds Tryd.pinned (.plain (OpenSpec.ofChange taskManySpec)) taskManyCard

/-- THE SECOND FORM's CARD OF 'linhaylaw19.TaskLines'. -/
def taskLinesUptoCard : Claim7 := { stood := { row := taskLinesUptoRow, standIns := [], harness := (true, "1df0f81bf11568ea09f156544102fa7125294562dfa2ec22388a086dbe5d47d9"), looks := false }, kinds := [], alts := [], laidByText := true, laidKinds := [.data, .data, .pinned], laidTests := true, laidLooks := .later }
def TaskLinesUptoCardSaid : Prop := Claim7.holds Tryd.pinned (.plain (OpenSpec.upto taskLinesSpec)) taskLinesUptoCard

/-- THE SECOND FORM's CARD OF 'linhaylaw19.TaskParse'. -/
def taskParseUptoCard : Claim7 := { stood := { row := taskParseUptoRow, standIns := [], harness := (true, "1df0f81bf11568ea09f156544102fa7125294562dfa2ec22388a086dbe5d47d9"), looks := false }, kinds := [], alts := [], laidByText := true, laidKinds := [.data, .data, .pinned], laidTests := true, laidLooks := .later }
def TaskParseUptoCardSaid : Prop := Claim7.holds Tryd.pinned (.plain (OpenSpec.upto taskParseSpec)) taskParseUptoCard

/-- THE SECOND FORM's CARD OF 'linhaylaw19.TaskMany'. -/
def taskManyUptoCard : Claim7 := { stood := { row := taskManyUptoRow, standIns := [], harness := (true, "1df0f81bf11568ea09f156544102fa7125294562dfa2ec22388a086dbe5d47d9"), looks := false }, kinds := [], alts := [], laidByText := true, laidKinds := [.data, .data, .pinned], laidTests := true, laidLooks := .later }
def TaskManyUptoCardSaid : Prop := Claim7.holds Tryd.pinned (.plain (OpenSpec.upto taskManySpec)) taskManyUptoCard
end Rows
end Go.Proofs.YthplnkchmelbmaaDoor
