/-
  NARROWER THAN 'FOR EVERY INPUT', by the rows' own cells (each row's printed sentence says how): FnBenchValid: laid · FnDeedText: laid · FnReadDeed: laid · FnJournalText: laid.
  DERIVED. THE GIVEN ROWS OF THIS SEAT. 4 by the template 'for every input the law returns true; each argument reads behind the call as it read before'; 0 by the template 'total and deterministic' (their statements: YtjblecinkedppaaDoorTotals.lean).
  GIVEN WITH THE SEED: the statements are not yours to turn. If you find one false, say at which input.
  Laid BY PROGRAM, IN A SANDBOX (cutbox-rows.mjs): the forced cells as the released guide's own fill.sh prints them over the translation 9ce1ad7470b2a9dc… (all of the seat's roots in one cut). By AI agents, Wed Nov 11 2026. No macro, syntax, notation, axiom, sorry.
-/
import Derived.Test.YtjblecinkedppaaDoorChecked
import GoSem.Claim
import GoSem.ClaimJoined
import GoSem.ClaimMapViews
import Derived.JoinedTies
import Derived.KernelRfl
namespace Go.Proofs.YtjblecinkedppaaDoor
/- THE CELL 'sum', in the pinned program and in every row, IS THE sha256 OF THE DUMP (.gsa) THAT YtjblecinkedppaaDoorProg.lean LOADS. Nothing in Lean hashes anything: it is a label: what it is worth is what the hold of that sum in a sandbox is worth. -/
noncomputable def Tryd.pinned : Pinned := { name := "ytjblecinkedppaadoor", sum := "9ce1ad7470b2a9dc2f68a76250e6d97fba5daad10650d776df64b6bef1b271af", checked := Tryd.checked }
namespace Rows
def none {H : Type} : Left H := { results := [], args := [] }

/- WHAT THE LISTED PACKAGE-LEVEL VARIABLES READ AS WHEN THE CALL BEGINS. Each datum BY PROGRAM (the guide's laid-datum.mjs) off the statement by which the dump's own 'gosem.cut.vars' lays the variable. In a bare row this is a premise. The card (YtjblecinkedppaaDoorCards.lean) ties it to the program's text. -/
def laid_loop_example_stackwords_impl_opTexts {H : Type} : DataW H := .agg [.lit (.string [100, 117, 112]), .lit (.string [100, 114, 111, 112]), .lit (.string [115, 119, 97, 112]), .lit (.string [100, 105, 112]), .lit (.string [99, 97, 108, 108]), .lit (.string [43]), .lit (.string [45]), .lit (.string [42]), .lit (.string [60]), .lit (.string [105, 102]), .lit (.string [116, 105, 109, 101, 115]), .lit (.string [91]), .lit (.string [93])]

/-- 'laws.FnBenchValid': WHATEVER THE INPUT: true; the input reads as it did. -/
def fnBenchValidSpec : ChangeSpec := { name := "fnBenchValid", vars := ["loop.example/stackwords/impl.opTexts"], fn := fun _ => fun
  | [d, g1] => { results := [.lit (.bool true)], args := [d], vars := [g1] }
  | _ => none }
def fnBenchValidRow : OpenClaim := { program := "ytjblecinkedppaadoor", sum := "9ce1ad7470b2a9dc2f68a76250e6d97fba5daad10650d776df64b6bef1b271af", func := "loop.example/stackwords/laws.FnBenchValid", spec := "fnBenchValid", recurses := true, named := ["loop.example/stackwords/impl.opTexts"], apart := false, laid := [("loop.example/stackwords/impl.opTexts", laid_loop_example_stackwords_impl_opTexts)] }
def FnBenchValidSaid : Prop := fnBenchValidRow.holds Tryd.pinned (OpenSpec.ofChange fnBenchValidSpec)

/-- ITS FALSE NEIGHBOUR: 'it returns false'. Refute it at one input. -/
def fnBenchValidWrong : ChangeSpec := { name := "fnBenchValid", vars := ["loop.example/stackwords/impl.opTexts"], fn := fun _ => fun
  | [d, g1] => { results := [.lit (.bool false)], args := [d], vars := [g1] }
  | _ => none }
def FnBenchValidWrongFalsely : Prop := fnBenchValidRow.holds Tryd.pinned (OpenSpec.ofChange fnBenchValidWrong)

/-- 'laws.FnDeedText': WHATEVER THE INPUT: true; the input reads as it did. -/
def fnDeedTextSpec : ChangeSpec := { name := "fnDeedText", vars := ["loop.example/stackwords/impl.opTexts"], fn := fun _ => fun
  | [d, g1] => { results := [.lit (.bool true)], args := [d], vars := [g1] }
  | _ => none }
def fnDeedTextRow : OpenClaim := { program := "ytjblecinkedppaadoor", sum := "9ce1ad7470b2a9dc2f68a76250e6d97fba5daad10650d776df64b6bef1b271af", func := "loop.example/stackwords/laws.FnDeedText", spec := "fnDeedText", recurses := true, named := ["loop.example/stackwords/impl.opTexts"], apart := false, laid := [("loop.example/stackwords/impl.opTexts", laid_loop_example_stackwords_impl_opTexts)] }
def FnDeedTextSaid : Prop := fnDeedTextRow.holds Tryd.pinned (OpenSpec.ofChange fnDeedTextSpec)

/-- ITS FALSE NEIGHBOUR: 'it returns false'. Refute it at one input. -/
def fnDeedTextWrong : ChangeSpec := { name := "fnDeedText", vars := ["loop.example/stackwords/impl.opTexts"], fn := fun _ => fun
  | [d, g1] => { results := [.lit (.bool false)], args := [d], vars := [g1] }
  | _ => none }
def FnDeedTextWrongFalsely : Prop := fnDeedTextRow.holds Tryd.pinned (OpenSpec.ofChange fnDeedTextWrong)

/-- 'laws.FnReadDeed': WHATEVER THE INPUT: true; the input reads as it did. -/
def fnReadDeedSpec : ChangeSpec := { name := "fnReadDeed", vars := ["loop.example/stackwords/impl.opTexts"], fn := fun _ => fun
  | [d, g1] => { results := [.lit (.bool true)], args := [d], vars := [g1] }
  | _ => none }
def fnReadDeedRow : OpenClaim := { program := "ytjblecinkedppaadoor", sum := "9ce1ad7470b2a9dc2f68a76250e6d97fba5daad10650d776df64b6bef1b271af", func := "loop.example/stackwords/laws.FnReadDeed", spec := "fnReadDeed", recurses := true, named := ["loop.example/stackwords/impl.opTexts"], apart := false, laid := [("loop.example/stackwords/impl.opTexts", laid_loop_example_stackwords_impl_opTexts)] }
def FnReadDeedSaid : Prop := fnReadDeedRow.holds Tryd.pinned (OpenSpec.ofChange fnReadDeedSpec)

/-- ITS FALSE NEIGHBOUR: 'it returns false'. Refute it at one input. -/
def fnReadDeedWrong : ChangeSpec := { name := "fnReadDeed", vars := ["loop.example/stackwords/impl.opTexts"], fn := fun _ => fun
  | [d, g1] => { results := [.lit (.bool false)], args := [d], vars := [g1] }
  | _ => none }
def FnReadDeedWrongFalsely : Prop := fnReadDeedRow.holds Tryd.pinned (OpenSpec.ofChange fnReadDeedWrong)

/-- 'laws.FnJournalText': WHATEVER THE INPUT: true; the input reads as it did. -/
def fnJournalTextSpec : ChangeSpec := { name := "fnJournalText", vars := ["loop.example/stackwords/impl.opTexts"], fn := fun _ => fun
  | [d, g1] => { results := [.lit (.bool true)], args := [d], vars := [g1] }
  | _ => none }
def fnJournalTextRow : OpenClaim := { program := "ytjblecinkedppaadoor", sum := "9ce1ad7470b2a9dc2f68a76250e6d97fba5daad10650d776df64b6bef1b271af", func := "loop.example/stackwords/laws.FnJournalText", spec := "fnJournalText", inPlace := ["internal/abi.NoEscape", "internal/bytealg.IndexByteString", "internal/bytealg.IndexString"], recurses := true, named := ["loop.example/stackwords/impl.opTexts", "internal/bytealg.MaxLen"], apart := false, laid := [("loop.example/stackwords/impl.opTexts", laid_loop_example_stackwords_impl_opTexts)] }
def FnJournalTextSaid : Prop := fnJournalTextRow.holds Tryd.pinned (OpenSpec.ofChange fnJournalTextSpec)

/-- ITS FALSE NEIGHBOUR: 'it returns false'. Refute it at one input. -/
def fnJournalTextWrong : ChangeSpec := { name := "fnJournalText", vars := ["loop.example/stackwords/impl.opTexts"], fn := fun _ => fun
  | [d, g1] => { results := [.lit (.bool false)], args := [d], vars := [g1] }
  | _ => none }
def FnJournalTextWrongFalsely : Prop := fnJournalTextRow.holds Tryd.pinned (OpenSpec.ofChange fnJournalTextWrong)

/- THE SECOND FORM. 'bulk': how many values and letters a reading holds, each counted each time it is reached (what is shared counts as often as it is met; a slice's spare places count too). A statement '..UptoSaid' is the law's where the arguments, and the package variables that the reading takes, are together of bulk at most 1048576: NARROWER than '..Said'. Prove '..Said' where nothing that the law and all that it calls make is longer than what came in: it says more and counts as full. Else prove '..UptoSaid'. A law counts once. -/
mutual
def uptoBulk {H : Type} : DataW H → Nat
  | .lit (.string bytes) => bytes.length + 1
  | .lit _ => 1
  | .nil => 1
  | .ptr d => uptoBulk d + 1
  | .slice elems spare => uptoBulkAll elems + uptoBulkAll spare + 1
  | .agg parts => uptoBulkAll parts + 1
  | .iface _ d => uptoBulk d + 1
  | .map entries => uptoBulkEntries entries + 1
  | .held _ => 1
def uptoBulkAll {H : Type} : List (DataW H) → Nat
  | [] => 0
  | d :: r => uptoBulk d + uptoBulkAll r
def uptoBulkEntries {H : Type} : List (Lit × DataW H) → Nat
  | [] => 0
  | x :: r => uptoBulkEntry x + uptoBulkEntries r
def uptoBulkEntry {H : Type} : Lit × DataW H → Nat
  | (.string bytes, d) => bytes.length + uptoBulk d + 1
  | (_, d) => uptoBulk d + 1
 end
def uptoSmall : (H : Type) → List (DataW H) → Bool := fun _ ds => decide (uptoBulkAll ds ≤ 1048576)
def OpenSpec.upto (s : _root_.Go.ChangeSpec) : _root_.Go.OpenSpec := { _root_.Go.OpenSpec.ofChange s with cond := some uptoSmall }

/-- 'laws.FnBenchValid', WHERE WHAT IT READS IS OF BULK AT MOST 1048576: true; the input reads as it did. -/
def fnBenchValidUptoRow : OpenClaim := { program := "ytjblecinkedppaadoor", sum := "9ce1ad7470b2a9dc2f68a76250e6d97fba5daad10650d776df64b6bef1b271af", func := "loop.example/stackwords/laws.FnBenchValid", spec := "fnBenchValid", recurses := true, named := ["loop.example/stackwords/impl.opTexts"], apart := false, laid := [("loop.example/stackwords/impl.opTexts", laid_loop_example_stackwords_impl_opTexts)], narrowed := true }
def FnBenchValidUptoSaid : Prop := fnBenchValidUptoRow.holds Tryd.pinned (OpenSpec.upto fnBenchValidSpec)

/-- 'laws.FnDeedText', WHERE WHAT IT READS IS OF BULK AT MOST 1048576: true; the input reads as it did. -/
def fnDeedTextUptoRow : OpenClaim := { program := "ytjblecinkedppaadoor", sum := "9ce1ad7470b2a9dc2f68a76250e6d97fba5daad10650d776df64b6bef1b271af", func := "loop.example/stackwords/laws.FnDeedText", spec := "fnDeedText", recurses := true, named := ["loop.example/stackwords/impl.opTexts"], apart := false, laid := [("loop.example/stackwords/impl.opTexts", laid_loop_example_stackwords_impl_opTexts)], narrowed := true }
def FnDeedTextUptoSaid : Prop := fnDeedTextUptoRow.holds Tryd.pinned (OpenSpec.upto fnDeedTextSpec)

/-- 'laws.FnReadDeed', WHERE WHAT IT READS IS OF BULK AT MOST 1048576: true; the input reads as it did. -/
def fnReadDeedUptoRow : OpenClaim := { program := "ytjblecinkedppaadoor", sum := "9ce1ad7470b2a9dc2f68a76250e6d97fba5daad10650d776df64b6bef1b271af", func := "loop.example/stackwords/laws.FnReadDeed", spec := "fnReadDeed", recurses := true, named := ["loop.example/stackwords/impl.opTexts"], apart := false, laid := [("loop.example/stackwords/impl.opTexts", laid_loop_example_stackwords_impl_opTexts)], narrowed := true }
def FnReadDeedUptoSaid : Prop := fnReadDeedUptoRow.holds Tryd.pinned (OpenSpec.upto fnReadDeedSpec)

/-- 'laws.FnJournalText', WHERE WHAT IT READS IS OF BULK AT MOST 1048576: true; the input reads as it did. -/
def fnJournalTextUptoRow : OpenClaim := { program := "ytjblecinkedppaadoor", sum := "9ce1ad7470b2a9dc2f68a76250e6d97fba5daad10650d776df64b6bef1b271af", func := "loop.example/stackwords/laws.FnJournalText", spec := "fnJournalText", inPlace := ["internal/abi.NoEscape", "internal/bytealg.IndexByteString", "internal/bytealg.IndexString"], recurses := true, named := ["loop.example/stackwords/impl.opTexts", "internal/bytealg.MaxLen"], apart := false, laid := [("loop.example/stackwords/impl.opTexts", laid_loop_example_stackwords_impl_opTexts)], narrowed := true }
def FnJournalTextUptoSaid : Prop := fnJournalTextUptoRow.holds Tryd.pinned (OpenSpec.upto fnJournalTextSpec)

end Rows
end Go.Proofs.YtjblecinkedppaaDoor
