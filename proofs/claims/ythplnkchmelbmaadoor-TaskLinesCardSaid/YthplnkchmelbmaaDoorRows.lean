/-
  NARROWER THAN 'FOR EVERY INPUT', by the rows' own cells (each row's printed sentence says how): TaskLines: laid · TaskParse: laid · TaskMany: laid.
  DERIVED. THE GIVEN ROWS OF THIS SEAT. 3 by the template 'for every input the law returns true; each argument reads behind the call as it read before'; 0 by the template 'total and deterministic' (their statements: YthplnkchmelbmaaDoorTotals.lean).
  GIVEN WITH THE SEED: the statements are not yours to turn. If you find one false, say at which input.
  Laid BY PROGRAM, IN A SANDBOX (cutbox-rows.mjs): the forced cells as the released guide's own fill.sh prints them over the translation a22d8d5ff0e17f09… (all of the seat's roots in one cut). By AI agents, Wed Nov 11 2026. No macro, syntax, notation, axiom, sorry.
-/
import Derived.Test.YthplnkchmelbmaaDoorChecked
import GoSem.PinnedTables
import GoSem.Claim
import GoSem.ClaimJoined
import GoSem.ClaimMapViews
import Derived.JoinedTies
import Derived.KernelRfl
namespace Go.Proofs.YthplnkchmelbmaaDoor
/- THE CELL 'sum', in the pinned program and in every row, IS THE sha256 OF THE DUMP (.gsa) THAT YthplnkchmelbmaaDoorProg.lean LOADS. Nothing in Lean hashes anything: it is a label: what it is worth is what the hold of that sum in a sandbox is worth. -/
noncomputable def Tryd.pinned : Pinned := { name := "ythplnkchmelbmaadoor", sum := "a22d8d5ff0e17f093775cfc872f37c9e47d7a94fd138265f5cc1231ba71809d5", checked := Tryd.checked }
namespace Rows
def none {H : Type} : Left H := { results := [], args := [] }

/- WHAT THE LISTED PACKAGE-LEVEL VARIABLES READ AS WHEN THE CALL BEGINS. Each datum BY PROGRAM (the guide's laid-datum.mjs) off the statement by which the dump's own 'gosem.cut.vars' lays the variable. In a bare row this is a premise. The card (YthplnkchmelbmaaDoorCards.lean) ties it to the program's text. -/
def laid_unicode_utf8_acceptRanges {H : Type} : DataW H := .agg [.agg [.lit (.int .u8 128), .lit (.int .u8 191)], .agg [.lit (.int .u8 160), .lit (.int .u8 191)], .agg [.lit (.int .u8 128), .lit (.int .u8 159)], .agg [.lit (.int .u8 144), .lit (.int .u8 191)], .agg [.lit (.int .u8 128), .lit (.int .u8 143)], .agg [.lit (.int .u8 0), .lit (.int .u8 0)], .agg [.lit (.int .u8 0), .lit (.int .u8 0)], .agg [.lit (.int .u8 0), .lit (.int .u8 0)], .agg [.lit (.int .u8 0), .lit (.int .u8 0)], .agg [.lit (.int .u8 0), .lit (.int .u8 0)], .agg [.lit (.int .u8 0), .lit (.int .u8 0)], .agg [.lit (.int .u8 0), .lit (.int .u8 0)], .agg [.lit (.int .u8 0), .lit (.int .u8 0)], .agg [.lit (.int .u8 0), .lit (.int .u8 0)], .agg [.lit (.int .u8 0), .lit (.int .u8 0)], .agg [.lit (.int .u8 0), .lit (.int .u8 0)]]
def laid_linhay_task_verbs {H : Type} : DataW H := .agg [.lit (.string [109, 107, 100, 105, 114]), .lit (.string [114, 109, 100, 105, 114]), .lit (.string [108, 105, 110, 107]), .lit (.string [117, 110, 108, 105, 110, 107]), .lit (.string [109, 111, 118, 101]), .lit (.string [119, 114, 105, 116, 101])]
/-- One of Go's own tables, pinned by name: the form's constant. -/
def laid_unicode_utf8_first : DataW Unit := Go.Pinned.utf8First

/-- 'linhaylaw19.TaskLines': WHATEVER THE INPUT: true; the input reads as it did. -/
def taskLinesSpec : ChangeSpec := { name := "taskLines", fn := fun _ => fun
  | [d] => { results := [.lit (.bool true)], args := [d] }
  | _ => none }
def taskLinesRow : OpenClaim := { program := "ythplnkchmelbmaadoor", sum := "a22d8d5ff0e17f093775cfc872f37c9e47d7a94fd138265f5cc1231ba71809d5", func := "linhay/linhaylaw19.TaskLines", spec := "taskLines", inPlace := ["internal/bytealg.IndexByteString", "internal/bytealg.IndexString"], unfollowed := true, recurses := true, named := ["internal/bytealg.MaxLen", "linhay/task.verbs", "unicode/utf8.first", "unicode/utf8.acceptRanges"], apart := false, laid := [("unicode/utf8.acceptRanges", laid_unicode_utf8_acceptRanges), ("linhay/task.verbs", laid_linhay_task_verbs), ("unicode/utf8.first", laid_unicode_utf8_first)] }
def TaskLinesSaid : Prop := taskLinesRow.holds Tryd.pinned (OpenSpec.ofChange taskLinesSpec)

/-- ITS FALSE NEIGHBOUR: 'it returns false'. Refute it at one input. -/
def taskLinesWrong : ChangeSpec := { name := "taskLines", fn := fun _ => fun
  | [d] => { results := [.lit (.bool false)], args := [d] }
  | _ => none }
def TaskLinesWrongFalsely : Prop := taskLinesRow.holds Tryd.pinned (OpenSpec.ofChange taskLinesWrong)

/-- 'linhaylaw19.TaskParse': WHATEVER THE INPUT: true; the input reads as it did. -/
def taskParseSpec : ChangeSpec := { name := "taskParse", fn := fun _ => fun
  | [d] => { results := [.lit (.bool true)], args := [d] }
  | _ => none }
def taskParseRow : OpenClaim := { program := "ythplnkchmelbmaadoor", sum := "a22d8d5ff0e17f093775cfc872f37c9e47d7a94fd138265f5cc1231ba71809d5", func := "linhay/linhaylaw19.TaskParse", spec := "taskParse", inPlace := ["internal/bytealg.IndexByteString", "internal/bytealg.IndexString"], unfollowed := true, recurses := true, named := ["internal/bytealg.MaxLen", "linhay/task.verbs", "unicode/utf8.first", "unicode/utf8.acceptRanges"], apart := false, laid := [("unicode/utf8.acceptRanges", laid_unicode_utf8_acceptRanges), ("linhay/task.verbs", laid_linhay_task_verbs), ("unicode/utf8.first", laid_unicode_utf8_first)] }
def TaskParseSaid : Prop := taskParseRow.holds Tryd.pinned (OpenSpec.ofChange taskParseSpec)

/-- ITS FALSE NEIGHBOUR: 'it returns false'. Refute it at one input. -/
def taskParseWrong : ChangeSpec := { name := "taskParse", fn := fun _ => fun
  | [d] => { results := [.lit (.bool false)], args := [d] }
  | _ => none }
def TaskParseWrongFalsely : Prop := taskParseRow.holds Tryd.pinned (OpenSpec.ofChange taskParseWrong)

/-- 'linhaylaw19.TaskMany': WHATEVER THE INPUT: true; the input reads as it did. -/
def taskManySpec : ChangeSpec := { name := "taskMany", fn := fun _ => fun
  | [d1, d2] => { results := [.lit (.bool true)], args := [d1, d2] }
  | _ => none }
def taskManyRow : OpenClaim := { program := "ythplnkchmelbmaadoor", sum := "a22d8d5ff0e17f093775cfc872f37c9e47d7a94fd138265f5cc1231ba71809d5", func := "linhay/linhaylaw19.TaskMany", spec := "taskMany", inPlace := ["internal/bytealg.IndexByteString", "internal/bytealg.IndexString"], unfollowed := true, recurses := true, named := ["internal/bytealg.MaxLen", "linhay/task.verbs", "unicode/utf8.first", "unicode/utf8.acceptRanges"], apart := false, laid := [("unicode/utf8.acceptRanges", laid_unicode_utf8_acceptRanges), ("linhay/task.verbs", laid_linhay_task_verbs), ("unicode/utf8.first", laid_unicode_utf8_first)] }
def TaskManySaid : Prop := taskManyRow.holds Tryd.pinned (OpenSpec.ofChange taskManySpec)

/-- ITS FALSE NEIGHBOUR: 'it returns false'. Refute it at one input. -/
def taskManyWrong : ChangeSpec := { name := "taskMany", fn := fun _ => fun
  | [d1, d2] => { results := [.lit (.bool false)], args := [d1, d2] }
  | _ => none }
def TaskManyWrongFalsely : Prop := taskManyRow.holds Tryd.pinned (OpenSpec.ofChange taskManyWrong)

/- THE SECOND FORM. 'bulk': how many values and letters a reading holds, each counted each time it is reached (what is shared counts as often as it is met; a slice's spare places count too). A statement '..UptoSaid' is the law's where the arguments, and the package variables that the reading takes, are together of bulk at most 1048576: NARROWER than '..Said'. Prove '..Said' where nothing that the law and all that it calls make is longer than what came in: it says more and counts as full. Else prove '..UptoSaid'. A law counts once. -/
mutual
def uptoBulk {H : Type} : DataW H → Nat
  | .lit (.string bytes) => bytes.length + 1
  | .lit _ => 1
  | .nil => 1
  | .ptr d => uptoBulk d + 1
  | .slice elems spare => uptoBulkAll elems + uptoBulkAll spare + 1
  | .agg parts => uptoBulkAll parts + 1
  | .iface _ d => uptoBulk d + 1
  | .map entries => uptoBulkEntries entries + 1
  | .held _ => 1
def uptoBulkAll {H : Type} : List (DataW H) → Nat
  | [] => 0
  | d :: r => uptoBulk d + uptoBulkAll r
def uptoBulkEntries {H : Type} : List (Lit × DataW H) → Nat
  | [] => 0
  | x :: r => uptoBulkEntry x + uptoBulkEntries r
def uptoBulkEntry {H : Type} : Lit × DataW H → Nat
  | (.string bytes, d) => bytes.length + uptoBulk d + 1
  | (_, d) => uptoBulk d + 1
 end
def uptoSmall : (H : Type) → List (DataW H) → Bool := fun _ ds => decide (uptoBulkAll ds ≤ 1048576)
def OpenSpec.upto (s : _root_.Go.ChangeSpec) : _root_.Go.OpenSpec := { _root_.Go.OpenSpec.ofChange s with cond := some uptoSmall }

/-- 'linhaylaw19.TaskLines', WHERE WHAT IT READS IS OF BULK AT MOST 1048576: true; the input reads as it did. -/
def taskLinesUptoRow : OpenClaim := { program := "ythplnkchmelbmaadoor", sum := "a22d8d5ff0e17f093775cfc872f37c9e47d7a94fd138265f5cc1231ba71809d5", func := "linhay/linhaylaw19.TaskLines", spec := "taskLines", inPlace := ["internal/bytealg.IndexByteString", "internal/bytealg.IndexString"], unfollowed := true, recurses := true, named := ["internal/bytealg.MaxLen", "linhay/task.verbs", "unicode/utf8.first", "unicode/utf8.acceptRanges"], apart := false, laid := [("unicode/utf8.acceptRanges", laid_unicode_utf8_acceptRanges), ("linhay/task.verbs", laid_linhay_task_verbs), ("unicode/utf8.first", laid_unicode_utf8_first)], narrowed := true }
def TaskLinesUptoSaid : Prop := taskLinesUptoRow.holds Tryd.pinned (OpenSpec.upto taskLinesSpec)

/-- 'linhaylaw19.TaskParse', WHERE WHAT IT READS IS OF BULK AT MOST 1048576: true; the input reads as it did. -/
def taskParseUptoRow : OpenClaim := { program := "ythplnkchmelbmaadoor", sum := "a22d8d5ff0e17f093775cfc872f37c9e47d7a94fd138265f5cc1231ba71809d5", func := "linhay/linhaylaw19.TaskParse", spec := "taskParse", inPlace := ["internal/bytealg.IndexByteString", "internal/bytealg.IndexString"], unfollowed := true, recurses := true, named := ["internal/bytealg.MaxLen", "linhay/task.verbs", "unicode/utf8.first", "unicode/utf8.acceptRanges"], apart := false, laid := [("unicode/utf8.acceptRanges", laid_unicode_utf8_acceptRanges), ("linhay/task.verbs", laid_linhay_task_verbs), ("unicode/utf8.first", laid_unicode_utf8_first)], narrowed := true }
def TaskParseUptoSaid : Prop := taskParseUptoRow.holds Tryd.pinned (OpenSpec.upto taskParseSpec)

/-- 'linhaylaw19.TaskMany', WHERE WHAT IT READS IS OF BULK AT MOST 1048576: true; the input reads as it did. -/
def taskManyUptoRow : OpenClaim := { program := "ythplnkchmelbmaadoor", sum := "a22d8d5ff0e17f093775cfc872f37c9e47d7a94fd138265f5cc1231ba71809d5", func := "linhay/linhaylaw19.TaskMany", spec := "taskMany", inPlace := ["internal/bytealg.IndexByteString", "internal/bytealg.IndexString"], unfollowed := true, recurses := true, named := ["internal/bytealg.MaxLen", "linhay/task.verbs", "unicode/utf8.first", "unicode/utf8.acceptRanges"], apart := false, laid := [("unicode/utf8.acceptRanges", laid_unicode_utf8_acceptRanges), ("linhay/task.verbs", laid_linhay_task_verbs), ("unicode/utf8.first", laid_unicode_utf8_first)], narrowed := true }
def TaskManyUptoSaid : Prop := taskManyUptoRow.holds Tryd.pinned (OpenSpec.upto taskManySpec)

end Rows
end Go.Proofs.YthplnkchmelbmaaDoor
