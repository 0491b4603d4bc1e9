/-
  NARROWER THAN 'FOR EVERY INPUT', by the rows' own cells (each row's printed sentence says how): FnExactBenchValid: laid · FnExactDeedText: laid · FnExactReadDeed: laid · FnExactJournalText: laid · FnExactReadJournal: laid · FnDeedText: laid · FnReadDeed: laid · FnJournalText: laid.
  DERIVED. THE GIVEN ROWS OF THIS SEAT. 8 by the template 'for every input the law returns true; each argument reads behind the call as it read before'; 0 by the template 'total and deterministic' (their statements: YtdabbjlefpgkmaaDoorTotals.lean).
  GIVEN WITH THE SEED: the statements are not yours to turn. If you find one false, say at which input.
  Laid BY PROGRAM, IN A SANDBOX (cutbox-rows.mjs): the forced cells as the released guide's own fill.sh prints them over the translation bf33745811ceee74… (all of the seat's roots in one cut). By AI agents, Wed Nov 11 2026. No macro, syntax, notation, axiom, sorry.
-/
import Derived.Test.YtdabbjlefpgkmaaDoorChecked
import GoSem.Claim
import GoSem.ClaimJoined
import GoSem.ClaimMapViews
import Derived.JoinedTies
import Derived.KernelRfl
namespace Go.Proofs.YtdabbjlefpgkmaaDoor
/- THE CELL 'sum', in the pinned program and in every row, IS THE sha256 OF THE DUMP (.gsa) THAT YtdabbjlefpgkmaaDoorProg.lean LOADS. Nothing in Lean hashes anything: it is a label: what it is worth is what the hold of that sum in a sandbox is worth. -/
noncomputable def Tryd.pinned : Pinned := { name := "ytdabbjlefpgkmaadoor", sum := "bf33745811ceee7464a6c6af0022196f56505334b4f9c98943b8d3b20b22db10", checked := Tryd.checked }
namespace Rows
def none {H : Type} : Left H := { results := [], args := [] }

/- WHAT THE LISTED PACKAGE-LEVEL VARIABLES READ AS WHEN THE CALL BEGINS. Each datum BY PROGRAM (the guide's laid-datum.mjs) off the statement by which the dump's own 'gosem.cut.vars' lays the variable. In a bare row this is a premise. The card (YtdabbjlefpgkmaaDoorCards.lean) ties it to the program's text. -/
def laid_loop_example_stackwords_impl_opTexts {H : Type} : DataW H := .agg [.lit (.string [100, 117, 112]), .lit (.string [100, 114, 111, 112]), .lit (.string [115, 119, 97, 112]), .lit (.string [100, 105, 112]), .lit (.string [99, 97, 108, 108]), .lit (.string [43]), .lit (.string [45]), .lit (.string [42]), .lit (.string [60]), .lit (.string [105, 102]), .lit (.string [116, 105, 109, 101, 115]), .lit (.string [91]), .lit (.string [93])]

/-- 'laws.FnExactBenchValid': WHATEVER THE INPUT: true; the input reads as it did. -/
def fnExactBenchValidSpec : ChangeSpec := { name := "fnExactBenchValid", vars := ["loop.example/stackwords/impl.opTexts"], fn := fun _ => fun
  | [d, g1] => { results := [.lit (.bool true)], args := [d], vars := [g1] }
  | _ => none }
def fnExactBenchValidRow : OpenClaim := { program := "ytdabbjlefpgkmaadoor", sum := "bf33745811ceee7464a6c6af0022196f56505334b4f9c98943b8d3b20b22db10", func := "loop.example/stackwords/laws.FnExactBenchValid", spec := "fnExactBenchValid", named := ["loop.example/stackwords/impl.opTexts"], apart := false, laid := [("loop.example/stackwords/impl.opTexts", laid_loop_example_stackwords_impl_opTexts)] }
def FnExactBenchValidSaid : Prop := fnExactBenchValidRow.holds Tryd.pinned (OpenSpec.ofChange fnExactBenchValidSpec)

/-- ITS FALSE NEIGHBOUR: 'it returns false'. Refute it at one input. -/
def fnExactBenchValidWrong : ChangeSpec := { name := "fnExactBenchValid", vars := ["loop.example/stackwords/impl.opTexts"], fn := fun _ => fun
  | [d, g1] => { results := [.lit (.bool false)], args := [d], vars := [g1] }
  | _ => none }
def FnExactBenchValidWrongFalsely : Prop := fnExactBenchValidRow.holds Tryd.pinned (OpenSpec.ofChange fnExactBenchValidWrong)

/-- 'laws.FnExactDeedText': WHATEVER THE INPUT: true; the input reads as it did. -/
def fnExactDeedTextSpec : ChangeSpec := { name := "fnExactDeedText", vars := ["loop.example/stackwords/impl.opTexts"], fn := fun _ => fun
  | [d, g1] => { results := [.lit (.bool true)], args := [d], vars := [g1] }
  | _ => none }
def fnExactDeedTextRow : OpenClaim := { program := "ytdabbjlefpgkmaadoor", sum := "bf33745811ceee7464a6c6af0022196f56505334b4f9c98943b8d3b20b22db10", func := "loop.example/stackwords/laws.FnExactDeedText", spec := "fnExactDeedText", named := ["loop.example/stackwords/impl.opTexts"], apart := false, laid := [("loop.example/stackwords/impl.opTexts", laid_loop_example_stackwords_impl_opTexts)] }
def FnExactDeedTextSaid : Prop := fnExactDeedTextRow.holds Tryd.pinned (OpenSpec.ofChange fnExactDeedTextSpec)

/-- ITS FALSE NEIGHBOUR: 'it returns false'. Refute it at one input. -/
def fnExactDeedTextWrong : ChangeSpec := { name := "fnExactDeedText", vars := ["loop.example/stackwords/impl.opTexts"], fn := fun _ => fun
  | [d, g1] => { results := [.lit (.bool false)], args := [d], vars := [g1] }
  | _ => none }
def FnExactDeedTextWrongFalsely : Prop := fnExactDeedTextRow.holds Tryd.pinned (OpenSpec.ofChange fnExactDeedTextWrong)

/-- 'laws.FnExactReadDeed': WHATEVER THE INPUT: true; the input reads as it did. -/
def fnExactReadDeedSpec : ChangeSpec := { name := "fnExactReadDeed", vars := ["loop.example/stackwords/impl.opTexts"], fn := fun _ => fun
  | [d, g1] => { results := [.lit (.bool true)], args := [d], vars := [g1] }
  | _ => none }
def fnExactReadDeedRow : OpenClaim := { program := "ytdabbjlefpgkmaadoor", sum := "bf33745811ceee7464a6c6af0022196f56505334b4f9c98943b8d3b20b22db10", func := "loop.example/stackwords/laws.FnExactReadDeed", spec := "fnExactReadDeed", named := ["loop.example/stackwords/impl.opTexts"], apart := false, laid := [("loop.example/stackwords/impl.opTexts", laid_loop_example_stackwords_impl_opTexts)] }
def FnExactReadDeedSaid : Prop := fnExactReadDeedRow.holds Tryd.pinned (OpenSpec.ofChange fnExactReadDeedSpec)

/-- ITS FALSE NEIGHBOUR: 'it returns false'. Refute it at one input. -/
def fnExactReadDeedWrong : ChangeSpec := { name := "fnExactReadDeed", vars := ["loop.example/stackwords/impl.opTexts"], fn := fun _ => fun
  | [d, g1] => { results := [.lit (.bool false)], args := [d], vars := [g1] }
  | _ => none }
def FnExactReadDeedWrongFalsely : Prop := fnExactReadDeedRow.holds Tryd.pinned (OpenSpec.ofChange fnExactReadDeedWrong)

/-- 'laws.FnExactJournalText': WHATEVER THE INPUT: true; the input reads as it did. -/
def fnExactJournalTextSpec : ChangeSpec := { name := "fnExactJournalText", vars := ["loop.example/stackwords/impl.opTexts"], fn := fun _ => fun
  | [d, g1] => { results := [.lit (.bool true)], args := [d], vars := [g1] }
  | _ => none }
def fnExactJournalTextRow : OpenClaim := { program := "ytdabbjlefpgkmaadoor", sum := "bf33745811ceee7464a6c6af0022196f56505334b4f9c98943b8d3b20b22db10", func := "loop.example/stackwords/laws.FnExactJournalText", spec := "fnExactJournalText", inPlace := ["internal/abi.NoEscape"], named := ["loop.example/stackwords/impl.opTexts"], apart := false, laid := [("loop.example/stackwords/impl.opTexts", laid_loop_example_stackwords_impl_opTexts)] }
def FnExactJournalTextSaid : Prop := fnExactJournalTextRow.holds Tryd.pinned (OpenSpec.ofChange fnExactJournalTextSpec)

/-- ITS FALSE NEIGHBOUR: 'it returns false'. Refute it at one input. -/
def fnExactJournalTextWrong : ChangeSpec := { name := "fnExactJournalText", vars := ["loop.example/stackwords/impl.opTexts"], fn := fun _ => fun
  | [d, g1] => { results := [.lit (.bool false)], args := [d], vars := [g1] }
  | _ => none }
def FnExactJournalTextWrongFalsely : Prop := fnExactJournalTextRow.holds Tryd.pinned (OpenSpec.ofChange fnExactJournalTextWrong)

/-- 'laws.FnExactReadJournal': WHATEVER THE INPUT: true; the input reads as it did. -/
def fnExactReadJournalSpec : ChangeSpec := { name := "fnExactReadJournal", vars := ["loop.example/stackwords/impl.opTexts"], fn := fun _ => fun
  | [d, g1] => { results := [.lit (.bool true)], args := [d], vars := [g1] }
  | _ => none }
def fnExactReadJournalRow : OpenClaim := { program := "ytdabbjlefpgkmaadoor", sum := "bf33745811ceee7464a6c6af0022196f56505334b4f9c98943b8d3b20b22db10", func := "loop.example/stackwords/laws.FnExactReadJournal", spec := "fnExactReadJournal", inPlace := ["internal/bytealg.IndexByteString", "internal/bytealg.IndexString"], named := ["internal/bytealg.MaxLen", "loop.example/stackwords/impl.opTexts"], apart := false, laid := [("loop.example/stackwords/impl.opTexts", laid_loop_example_stackwords_impl_opTexts)] }
def FnExactReadJournalSaid : Prop := fnExactReadJournalRow.holds Tryd.pinned (OpenSpec.ofChange fnExactReadJournalSpec)

/-- ITS FALSE NEIGHBOUR: 'it returns false'. Refute it at one input. -/
def fnExactReadJournalWrong : ChangeSpec := { name := "fnExactReadJournal", vars := ["loop.example/stackwords/impl.opTexts"], fn := fun _ => fun
  | [d, g1] => { results := [.lit (.bool false)], args := [d], vars := [g1] }
  | _ => none }
def FnExactReadJournalWrongFalsely : Prop := fnExactReadJournalRow.holds Tryd.pinned (OpenSpec.ofChange fnExactReadJournalWrong)

/-- 'laws.FnDeedText': WHATEVER THE INPUT: true; the input reads as it did. -/
def fnDeedTextSpec : ChangeSpec := { name := "fnDeedText", vars := ["loop.example/stackwords/impl.opTexts"], fn := fun _ => fun
  | [d, g1] => { results := [.lit (.bool true)], args := [d], vars := [g1] }
  | _ => none }
def fnDeedTextRow : OpenClaim := { program := "ytdabbjlefpgkmaadoor", sum := "bf33745811ceee7464a6c6af0022196f56505334b4f9c98943b8d3b20b22db10", func := "loop.example/stackwords/laws.FnDeedText", spec := "fnDeedText", recurses := true, named := ["loop.example/stackwords/impl.opTexts"], apart := false, laid := [("loop.example/stackwords/impl.opTexts", laid_loop_example_stackwords_impl_opTexts)] }
def FnDeedTextSaid : Prop := fnDeedTextRow.holds Tryd.pinned (OpenSpec.ofChange fnDeedTextSpec)

/-- ITS FALSE NEIGHBOUR: 'it returns false'. Refute it at one input. -/
def fnDeedTextWrong : ChangeSpec := { name := "fnDeedText", vars := ["loop.example/stackwords/impl.opTexts"], fn := fun _ => fun
  | [d, g1] => { results := [.lit (.bool false)], args := [d], vars := [g1] }
  | _ => none }
def FnDeedTextWrongFalsely : Prop := fnDeedTextRow.holds Tryd.pinned (OpenSpec.ofChange fnDeedTextWrong)

/-- 'laws.FnReadDeed': WHATEVER THE INPUT: true; the input reads as it did. -/
def fnReadDeedSpec : ChangeSpec := { name := "fnReadDeed", vars := ["loop.example/stackwords/impl.opTexts"], fn := fun _ => fun
  | [d, g1] => { results := [.lit (.bool true)], args := [d], vars := [g1] }
  | _ => none }
def fnReadDeedRow : OpenClaim := { program := "ytdabbjlefpgkmaadoor", sum := "bf33745811ceee7464a6c6af0022196f56505334b4f9c98943b8d3b20b22db10", func := "loop.example/stackwords/laws.FnReadDeed", spec := "fnReadDeed", recurses := true, named := ["loop.example/stackwords/impl.opTexts"], apart := false, laid := [("loop.example/stackwords/impl.opTexts", laid_loop_example_stackwords_impl_opTexts)] }
def FnReadDeedSaid : Prop := fnReadDeedRow.holds Tryd.pinned (OpenSpec.ofChange fnReadDeedSpec)

/-- ITS FALSE NEIGHBOUR: 'it returns false'. Refute it at one input. -/
def fnReadDeedWrong : ChangeSpec := { name := "fnReadDeed", vars := ["loop.example/stackwords/impl.opTexts"], fn := fun _ => fun
  | [d, g1] => { results := [.lit (.bool false)], args := [d], vars := [g1] }
  | _ => none }
def FnReadDeedWrongFalsely : Prop := fnReadDeedRow.holds Tryd.pinned (OpenSpec.ofChange fnReadDeedWrong)

/-- 'laws.FnJournalText': WHATEVER THE INPUT: true; the input reads as it did. -/
def fnJournalTextSpec : ChangeSpec := { name := "fnJournalText", vars := ["loop.example/stackwords/impl.opTexts"], fn := fun _ => fun
  | [d, g1] => { results := [.lit (.bool true)], args := [d], vars := [g1] }
  | _ => none }
def fnJournalTextRow : OpenClaim := { program := "ytdabbjlefpgkmaadoor", sum := "bf33745811ceee7464a6c6af0022196f56505334b4f9c98943b8d3b20b22db10", func := "loop.example/stackwords/laws.FnJournalText", spec := "fnJournalText", inPlace := ["internal/abi.NoEscape", "internal/bytealg.IndexByteString", "internal/bytealg.IndexString"], recurses := true, named := ["loop.example/stackwords/impl.opTexts", "internal/bytealg.MaxLen"], apart := false, laid := [("loop.example/stackwords/impl.opTexts", laid_loop_example_stackwords_impl_opTexts)] }
def FnJournalTextSaid : Prop := fnJournalTextRow.holds Tryd.pinned (OpenSpec.ofChange fnJournalTextSpec)

/-- ITS FALSE NEIGHBOUR: 'it returns false'. Refute it at one input. -/
def fnJournalTextWrong : ChangeSpec := { name := "fnJournalText", vars := ["loop.example/stackwords/impl.opTexts"], fn := fun _ => fun
  | [d, g1] => { results := [.lit (.bool false)], args := [d], vars := [g1] }
  | _ => none }
def FnJournalTextWrongFalsely : Prop := fnJournalTextRow.holds Tryd.pinned (OpenSpec.ofChange fnJournalTextWrong)

/- THE SECOND FORM. 'bulk': how many values and letters a reading holds, each counted each time it is reached (what is shared counts as often as it is met; a slice's spare places count too). A statement '..UptoSaid' is the law's where the arguments, and the package variables that the reading takes, are together of bulk at most 1048576: NARROWER than '..Said'. Prove '..Said' where nothing that the law and all that it calls make is longer than what came in: it says more and counts as full. Else prove '..UptoSaid'. A law counts once. -/
mutual
def uptoBulk {H : Type} : DataW H → Nat
  | .lit (.string bytes) => bytes.length + 1
  | .lit _ => 1
  | .nil => 1
  | .ptr d => uptoBulk d + 1
  | .slice elems spare => uptoBulkAll elems + uptoBulkAll spare + 1
  | .agg parts => uptoBulkAll parts + 1
  | .iface _ d => uptoBulk d + 1
  | .map entries => uptoBulkEntries entries + 1
  | .held _ => 1
def uptoBulkAll {H : Type} : List (DataW H) → Nat
  | [] => 0
  | d :: r => uptoBulk d + uptoBulkAll r
def uptoBulkEntries {H : Type} : List (Lit × DataW H) → Nat
  | [] => 0
  | x :: r => uptoBulkEntry x + uptoBulkEntries r
def uptoBulkEntry {H : Type} : Lit × DataW H → Nat
  | (.string bytes, d) => bytes.length + uptoBulk d + 1
  | (_, d) => uptoBulk d + 1
 end
def uptoSmall : (H : Type) → List (DataW H) → Bool := fun _ ds => decide (uptoBulkAll ds ≤ 1048576)
def OpenSpec.upto (s : _root_.Go.ChangeSpec) : _root_.Go.OpenSpec := { _root_.Go.OpenSpec.ofChange s with cond := some uptoSmall }

/-- 'laws.FnExactBenchValid', WHERE WHAT IT READS IS OF BULK AT MOST 1048576: true; the input reads as it did. -/
def fnExactBenchValidUptoRow : OpenClaim := { program := "ytdabbjlefpgkmaadoor", sum := "bf33745811ceee7464a6c6af0022196f56505334b4f9c98943b8d3b20b22db10", func := "loop.example/stackwords/laws.FnExactBenchValid", spec := "fnExactBenchValid", named := ["loop.example/stackwords/impl.opTexts"], apart := false, laid := [("loop.example/stackwords/impl.opTexts", laid_loop_example_stackwords_impl_opTexts)], narrowed := true }
def FnExactBenchValidUptoSaid : Prop := fnExactBenchValidUptoRow.holds Tryd.pinned (OpenSpec.upto fnExactBenchValidSpec)

/-- 'laws.FnExactDeedText', WHERE WHAT IT READS IS OF BULK AT MOST 1048576: true; the input reads as it did. -/
def fnExactDeedTextUptoRow : OpenClaim := { program := "ytdabbjlefpgkmaadoor", sum := "bf33745811ceee7464a6c6af0022196f56505334b4f9c98943b8d3b20b22db10", func := "loop.example/stackwords/laws.FnExactDeedText", spec := "fnExactDeedText", named := ["loop.example/stackwords/impl.opTexts"], apart := false, laid := [("loop.example/stackwords/impl.opTexts", laid_loop_example_stackwords_impl_opTexts)], narrowed := true }
def FnExactDeedTextUptoSaid : Prop := fnExactDeedTextUptoRow.holds Tryd.pinned (OpenSpec.upto fnExactDeedTextSpec)

/-- 'laws.FnExactReadDeed', WHERE WHAT IT READS IS OF BULK AT MOST 1048576: true; the input reads as it did. -/
def fnExactReadDeedUptoRow : OpenClaim := { program := "ytdabbjlefpgkmaadoor", sum := "bf33745811ceee7464a6c6af0022196f56505334b4f9c98943b8d3b20b22db10", func := "loop.example/stackwords/laws.FnExactReadDeed", spec := "fnExactReadDeed", named := ["loop.example/stackwords/impl.opTexts"], apart := false, laid := [("loop.example/stackwords/impl.opTexts", laid_loop_example_stackwords_impl_opTexts)], narrowed := true }
def FnExactReadDeedUptoSaid : Prop := fnExactReadDeedUptoRow.holds Tryd.pinned (OpenSpec.upto fnExactReadDeedSpec)

/-- 'laws.FnExactJournalText', WHERE WHAT IT READS IS OF BULK AT MOST 1048576: true; the input reads as it did. -/
def fnExactJournalTextUptoRow : OpenClaim := { program := "ytdabbjlefpgkmaadoor", sum := "bf33745811ceee7464a6c6af0022196f56505334b4f9c98943b8d3b20b22db10", func := "loop.example/stackwords/laws.FnExactJournalText", spec := "fnExactJournalText", inPlace := ["internal/abi.NoEscape"], named := ["loop.example/stackwords/impl.opTexts"], apart := false, laid := [("loop.example/stackwords/impl.opTexts", laid_loop_example_stackwords_impl_opTexts)], narrowed := true }
def FnExactJournalTextUptoSaid : Prop := fnExactJournalTextUptoRow.holds Tryd.pinned (OpenSpec.upto fnExactJournalTextSpec)

/-- 'laws.FnExactReadJournal', WHERE WHAT IT READS IS OF BULK AT MOST 1048576: true; the input reads as it did. -/
def fnExactReadJournalUptoRow : OpenClaim := { program := "ytdabbjlefpgkmaadoor", sum := "bf33745811ceee7464a6c6af0022196f56505334b4f9c98943b8d3b20b22db10", func := "loop.example/stackwords/laws.FnExactReadJournal", spec := "fnExactReadJournal", inPlace := ["internal/bytealg.IndexByteString", "internal/bytealg.IndexString"], named := ["internal/bytealg.MaxLen", "loop.example/stackwords/impl.opTexts"], apart := false, laid := [("loop.example/stackwords/impl.opTexts", laid_loop_example_stackwords_impl_opTexts)], narrowed := true }
def FnExactReadJournalUptoSaid : Prop := fnExactReadJournalUptoRow.holds Tryd.pinned (OpenSpec.upto fnExactReadJournalSpec)

/-- 'laws.FnDeedText', WHERE WHAT IT READS IS OF BULK AT MOST 1048576: true; the input reads as it did. -/
def fnDeedTextUptoRow : OpenClaim := { program := "ytdabbjlefpgkmaadoor", sum := "bf33745811ceee7464a6c6af0022196f56505334b4f9c98943b8d3b20b22db10", func := "loop.example/stackwords/laws.FnDeedText", spec := "fnDeedText", recurses := true, named := ["loop.example/stackwords/impl.opTexts"], apart := false, laid := [("loop.example/stackwords/impl.opTexts", laid_loop_example_stackwords_impl_opTexts)], narrowed := true }
def FnDeedTextUptoSaid : Prop := fnDeedTextUptoRow.holds Tryd.pinned (OpenSpec.upto fnDeedTextSpec)

/-- 'laws.FnReadDeed', WHERE WHAT IT READS IS OF BULK AT MOST 1048576: true; the input reads as it did. -/
def fnReadDeedUptoRow : OpenClaim := { program := "ytdabbjlefpgkmaadoor", sum := "bf33745811ceee7464a6c6af0022196f56505334b4f9c98943b8d3b20b22db10", func := "loop.example/stackwords/laws.FnReadDeed", spec := "fnReadDeed", recurses := true, named := ["loop.example/stackwords/impl.opTexts"], apart := false, laid := [("loop.example/stackwords/impl.opTexts", laid_loop_example_stackwords_impl_opTexts)], narrowed := true }
def FnReadDeedUptoSaid : Prop := fnReadDeedUptoRow.holds Tryd.pinned (OpenSpec.upto fnReadDeedSpec)

/-- 'laws.FnJournalText', WHERE WHAT IT READS IS OF BULK AT MOST 1048576: true; the input reads as it did. -/
def fnJournalTextUptoRow : OpenClaim := { program := "ytdabbjlefpgkmaadoor", sum := "bf33745811ceee7464a6c6af0022196f56505334b4f9c98943b8d3b20b22db10", func := "loop.example/stackwords/laws.FnJournalText", spec := "fnJournalText", inPlace := ["internal/abi.NoEscape", "internal/bytealg.IndexByteString", "internal/bytealg.IndexString"], recurses := true, named := ["loop.example/stackwords/impl.opTexts", "internal/bytealg.MaxLen"], apart := false, laid := [("loop.example/stackwords/impl.opTexts", laid_loop_example_stackwords_impl_opTexts)], narrowed := true }
def FnJournalTextUptoSaid : Prop := fnJournalTextUptoRow.holds Tryd.pinned (OpenSpec.upto fnJournalTextSpec)

end Rows
end Go.Proofs.YtdabbjlefpgkmaaDoor
