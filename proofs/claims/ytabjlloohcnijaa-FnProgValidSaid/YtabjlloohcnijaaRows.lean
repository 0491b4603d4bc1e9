/-
  No cell of these rows narrows 'for every input' (looked for: loops, veiled, ifaces, maps, wideKeys, modest, calm, conditions, laid).
  DERIVED. THE GIVEN ROWS OF THIS SEAT. 10 by the template 'for every input the law returns true; each argument reads behind the call as it read before'; 0 by the template 'total and deterministic' (their statements: YtabjlloohcnijaaTotals.lean).
  GIVEN WITH THE SEED: the statements are not yours to turn. If you find one false, say at which input.
  Laid BY PROGRAM, IN A SANDBOX (cutbox-rows.mjs): the forced cells as the released guide's own fill.sh prints them over the translation c39703ff0c20ccd4… (all of the seat's roots in one cut). By AI agents, Wed Nov 11 2026. No macro, syntax, notation, axiom, sorry.
-/
import Derived.Test.YtabjlloohcnijaaChecked
import GoSem.Claim
import GoSem.ClaimJoined
import GoSem.ClaimMapViews
import Derived.JoinedTies
import Derived.KernelRfl
namespace Go.Proofs.Ytabjlloohcnijaa
/- THE CELL 'sum', in the pinned program and in every row, IS THE sha256 OF THE DUMP (.gsa) THAT YtabjlloohcnijaaProg.lean LOADS. Nothing in Lean hashes anything: it is a label: what it is worth is what the hold of that sum in a sandbox is worth. -/
noncomputable def Try.pinned : Pinned := { name := "ytabjlloohcnijaa", sum := "c39703ff0c20ccd406b081cc3fd1b663d66d65ab8768dae08c2b4dadf19e2f59", checked := Try.checked }
namespace Rows
def none {H : Type} : Left H := { results := [], args := [] }

/-- 'laws.FnProgValid': WHATEVER THE INPUT: true; the input reads as it did. -/
def fnProgValidSpec : ChangeSpec := { name := "fnProgValid", fn := fun _ => fun
  | [d] => { results := [.lit (.bool true)], args := [d] }
  | _ => none }
def fnProgValidRow : OpenClaim := { program := "ytabjlloohcnijaa", sum := "c39703ff0c20ccd406b081cc3fd1b663d66d65ab8768dae08c2b4dadf19e2f59", func := "loop.example/stackwords/laws.FnProgValid", spec := "fnProgValid", recurses := true, apart := false }
def FnProgValidSaid : Prop := fnProgValidRow.holds Try.pinned (OpenSpec.ofChange fnProgValidSpec)

/-- ITS FALSE NEIGHBOUR: 'it returns false'. Refute it at one input. -/
def fnProgValidWrong : ChangeSpec := { name := "fnProgValid", fn := fun _ => fun
  | [d] => { results := [.lit (.bool false)], args := [d] }
  | _ => none }
def FnProgValidWrongFalsely : Prop := fnProgValidRow.holds Try.pinned (OpenSpec.ofChange fnProgValidWrong)

/-- 'laws.FnProgThen': WHATEVER THE INPUT: true; the input reads as it did. -/
def fnProgThenSpec : ChangeSpec := { name := "fnProgThen", fn := fun _ => fun
  | [d1, d2] => { results := [.lit (.bool true)], args := [d1, d2] }
  | _ => none }
def fnProgThenRow : OpenClaim := { program := "ytabjlloohcnijaa", sum := "c39703ff0c20ccd406b081cc3fd1b663d66d65ab8768dae08c2b4dadf19e2f59", func := "loop.example/stackwords/laws.FnProgThen", spec := "fnProgThen", recurses := true, apart := false }
def FnProgThenSaid : Prop := fnProgThenRow.holds Try.pinned (OpenSpec.ofChange fnProgThenSpec)

/-- ITS FALSE NEIGHBOUR: 'it returns false'. Refute it at one input. -/
def fnProgThenWrong : ChangeSpec := { name := "fnProgThen", fn := fun _ => fun
  | [d1, d2] => { results := [.lit (.bool false)], args := [d1, d2] }
  | _ => none }
def FnProgThenWrongFalsely : Prop := fnProgThenRow.holds Try.pinned (OpenSpec.ofChange fnProgThenWrong)

/-- 'laws.FnProgQuote': WHATEVER THE INPUT: true; the input reads as it did. -/
def fnProgQuoteSpec : ChangeSpec := { name := "fnProgQuote", fn := fun _ => fun
  | [d] => { results := [.lit (.bool true)], args := [d] }
  | _ => none }
def fnProgQuoteRow : OpenClaim := { program := "ytabjlloohcnijaa", sum := "c39703ff0c20ccd406b081cc3fd1b663d66d65ab8768dae08c2b4dadf19e2f59", func := "loop.example/stackwords/laws.FnProgQuote", spec := "fnProgQuote", recurses := true, apart := false }
def FnProgQuoteSaid : Prop := fnProgQuoteRow.holds Try.pinned (OpenSpec.ofChange fnProgQuoteSpec)

/-- ITS FALSE NEIGHBOUR: 'it returns false'. Refute it at one input. -/
def fnProgQuoteWrong : ChangeSpec := { name := "fnProgQuote", fn := fun _ => fun
  | [d] => { results := [.lit (.bool false)], args := [d] }
  | _ => none }
def FnProgQuoteWrongFalsely : Prop := fnProgQuoteRow.holds Try.pinned (OpenSpec.ofChange fnProgQuoteWrong)

/-- 'laws.FnProgParts': WHATEVER THE INPUT: true; the input reads as it did. -/
def fnProgPartsSpec : ChangeSpec := { name := "fnProgParts", fn := fun _ => fun
  | [d] => { results := [.lit (.bool true)], args := [d] }
  | _ => none }
def fnProgPartsRow : OpenClaim := { program := "ytabjlloohcnijaa", sum := "c39703ff0c20ccd406b081cc3fd1b663d66d65ab8768dae08c2b4dadf19e2f59", func := "loop.example/stackwords/laws.FnProgParts", spec := "fnProgParts", recurses := true, apart := false }
def FnProgPartsSaid : Prop := fnProgPartsRow.holds Try.pinned (OpenSpec.ofChange fnProgPartsSpec)

/-- ITS FALSE NEIGHBOUR: 'it returns false'. Refute it at one input. -/
def fnProgPartsWrong : ChangeSpec := { name := "fnProgParts", fn := fun _ => fun
  | [d] => { results := [.lit (.bool false)], args := [d] }
  | _ => none }
def FnProgPartsWrongFalsely : Prop := fnProgPartsRow.holds Try.pinned (OpenSpec.ofChange fnProgPartsWrong)

/-- 'laws.FnProgDepth': WHATEVER THE INPUT: true; the input reads as it did. -/
def fnProgDepthSpec : ChangeSpec := { name := "fnProgDepth", fn := fun _ => fun
  | [d1, d2] => { results := [.lit (.bool true)], args := [d1, d2] }
  | _ => none }
def fnProgDepthRow : OpenClaim := { program := "ytabjlloohcnijaa", sum := "c39703ff0c20ccd406b081cc3fd1b663d66d65ab8768dae08c2b4dadf19e2f59", func := "loop.example/stackwords/laws.FnProgDepth", spec := "fnProgDepth", recurses := true, apart := false }
def FnProgDepthSaid : Prop := fnProgDepthRow.holds Try.pinned (OpenSpec.ofChange fnProgDepthSpec)

/-- ITS FALSE NEIGHBOUR: 'it returns false'. Refute it at one input. -/
def fnProgDepthWrong : ChangeSpec := { name := "fnProgDepth", fn := fun _ => fun
  | [d1, d2] => { results := [.lit (.bool false)], args := [d1, d2] }
  | _ => none }
def FnProgDepthWrongFalsely : Prop := fnProgDepthRow.holds Try.pinned (OpenSpec.ofChange fnProgDepthWrong)

/-- 'laws.FnExactProgValid': WHATEVER THE INPUT: true; the input reads as it did. -/
def fnExactProgValidSpec : ChangeSpec := { name := "fnExactProgValid", fn := fun _ => fun
  | [d] => { results := [.lit (.bool true)], args := [d] }
  | _ => none }
def fnExactProgValidRow : OpenClaim := { program := "ytabjlloohcnijaa", sum := "c39703ff0c20ccd406b081cc3fd1b663d66d65ab8768dae08c2b4dadf19e2f59", func := "loop.example/stackwords/laws.FnExactProgValid", spec := "fnExactProgValid", apart := false }
def FnExactProgValidSaid : Prop := fnExactProgValidRow.holds Try.pinned (OpenSpec.ofChange fnExactProgValidSpec)

/-- ITS FALSE NEIGHBOUR: 'it returns false'. Refute it at one input. -/
def fnExactProgValidWrong : ChangeSpec := { name := "fnExactProgValid", fn := fun _ => fun
  | [d] => { results := [.lit (.bool false)], args := [d] }
  | _ => none }
def FnExactProgValidWrongFalsely : Prop := fnExactProgValidRow.holds Try.pinned (OpenSpec.ofChange fnExactProgValidWrong)

/-- 'laws.FnExactProgThen': WHATEVER THE INPUT: true; the input reads as it did. -/
def fnExactProgThenSpec : ChangeSpec := { name := "fnExactProgThen", fn := fun _ => fun
  | [d1, d2] => { results := [.lit (.bool true)], args := [d1, d2] }
  | _ => none }
def fnExactProgThenRow : OpenClaim := { program := "ytabjlloohcnijaa", sum := "c39703ff0c20ccd406b081cc3fd1b663d66d65ab8768dae08c2b4dadf19e2f59", func := "loop.example/stackwords/laws.FnExactProgThen", spec := "fnExactProgThen", apart := false }
def FnExactProgThenSaid : Prop := fnExactProgThenRow.holds Try.pinned (OpenSpec.ofChange fnExactProgThenSpec)

/-- ITS FALSE NEIGHBOUR: 'it returns false'. Refute it at one input. -/
def fnExactProgThenWrong : ChangeSpec := { name := "fnExactProgThen", fn := fun _ => fun
  | [d1, d2] => { results := [.lit (.bool false)], args := [d1, d2] }
  | _ => none }
def FnExactProgThenWrongFalsely : Prop := fnExactProgThenRow.holds Try.pinned (OpenSpec.ofChange fnExactProgThenWrong)

/-- 'laws.FnExactProgQuote': WHATEVER THE INPUT: true; the input reads as it did. -/
def fnExactProgQuoteSpec : ChangeSpec := { name := "fnExactProgQuote", fn := fun _ => fun
  | [d] => { results := [.lit (.bool true)], args := [d] }
  | _ => none }
def fnExactProgQuoteRow : OpenClaim := { program := "ytabjlloohcnijaa", sum := "c39703ff0c20ccd406b081cc3fd1b663d66d65ab8768dae08c2b4dadf19e2f59", func := "loop.example/stackwords/laws.FnExactProgQuote", spec := "fnExactProgQuote", apart := false }
def FnExactProgQuoteSaid : Prop := fnExactProgQuoteRow.holds Try.pinned (OpenSpec.ofChange fnExactProgQuoteSpec)

/-- ITS FALSE NEIGHBOUR: 'it returns false'. Refute it at one input. -/
def fnExactProgQuoteWrong : ChangeSpec := { name := "fnExactProgQuote", fn := fun _ => fun
  | [d] => { results := [.lit (.bool false)], args := [d] }
  | _ => none }
def FnExactProgQuoteWrongFalsely : Prop := fnExactProgQuoteRow.holds Try.pinned (OpenSpec.ofChange fnExactProgQuoteWrong)

/-- 'laws.FnExactProgParts': WHATEVER THE INPUT: true; the input reads as it did. -/
def fnExactProgPartsSpec : ChangeSpec := { name := "fnExactProgParts", fn := fun _ => fun
  | [d] => { results := [.lit (.bool true)], args := [d] }
  | _ => none }
def fnExactProgPartsRow : OpenClaim := { program := "ytabjlloohcnijaa", sum := "c39703ff0c20ccd406b081cc3fd1b663d66d65ab8768dae08c2b4dadf19e2f59", func := "loop.example/stackwords/laws.FnExactProgParts", spec := "fnExactProgParts", apart := false }
def FnExactProgPartsSaid : Prop := fnExactProgPartsRow.holds Try.pinned (OpenSpec.ofChange fnExactProgPartsSpec)

/-- ITS FALSE NEIGHBOUR: 'it returns false'. Refute it at one input. -/
def fnExactProgPartsWrong : ChangeSpec := { name := "fnExactProgParts", fn := fun _ => fun
  | [d] => { results := [.lit (.bool false)], args := [d] }
  | _ => none }
def FnExactProgPartsWrongFalsely : Prop := fnExactProgPartsRow.holds Try.pinned (OpenSpec.ofChange fnExactProgPartsWrong)

/-- 'laws.FnExactProgDepth': WHATEVER THE INPUT: true; the input reads as it did. -/
def fnExactProgDepthSpec : ChangeSpec := { name := "fnExactProgDepth", fn := fun _ => fun
  | [d] => { results := [.lit (.bool true)], args := [d] }
  | _ => none }
def fnExactProgDepthRow : OpenClaim := { program := "ytabjlloohcnijaa", sum := "c39703ff0c20ccd406b081cc3fd1b663d66d65ab8768dae08c2b4dadf19e2f59", func := "loop.example/stackwords/laws.FnExactProgDepth", spec := "fnExactProgDepth", apart := false }
def FnExactProgDepthSaid : Prop := fnExactProgDepthRow.holds Try.pinned (OpenSpec.ofChange fnExactProgDepthSpec)

/-- ITS FALSE NEIGHBOUR: 'it returns false'. Refute it at one input. -/
def fnExactProgDepthWrong : ChangeSpec := { name := "fnExactProgDepth", fn := fun _ => fun
  | [d] => { results := [.lit (.bool false)], args := [d] }
  | _ => none }
def FnExactProgDepthWrongFalsely : Prop := fnExactProgDepthRow.holds Try.pinned (OpenSpec.ofChange fnExactProgDepthWrong)

/- THE SECOND FORM. 'bulk': how many values and letters a reading holds, each counted each time it is reached (what is shared counts as often as it is met; a slice's spare places count too). A statement '..UptoSaid' is the law's where the arguments, and the package variables that the reading takes, are together of bulk at most 1048576: NARROWER than '..Said'. Prove '..Said' where nothing that the law and all that it calls make is longer than what came in: it says more and counts as full. Else prove '..UptoSaid'. A law counts once. -/
mutual
def uptoBulk {H : Type} : DataW H → Nat
  | .lit (.string bytes) => bytes.length + 1
  | .lit _ => 1
  | .nil => 1
  | .ptr d => uptoBulk d + 1
  | .slice elems spare => uptoBulkAll elems + uptoBulkAll spare + 1
  | .agg parts => uptoBulkAll parts + 1
  | .iface _ d => uptoBulk d + 1
  | .map entries => uptoBulkEntries entries + 1
  | .held _ => 1
def uptoBulkAll {H : Type} : List (DataW H) → Nat
  | [] => 0
  | d :: r => uptoBulk d + uptoBulkAll r
def uptoBulkEntries {H : Type} : List (Lit × DataW H) → Nat
  | [] => 0
  | x :: r => uptoBulkEntry x + uptoBulkEntries r
def uptoBulkEntry {H : Type} : Lit × DataW H → Nat
  | (.string bytes, d) => bytes.length + uptoBulk d + 1
  | (_, d) => uptoBulk d + 1
 end
def uptoSmall : (H : Type) → List (DataW H) → Bool := fun _ ds => decide (uptoBulkAll ds ≤ 1048576)
def OpenSpec.upto (s : _root_.Go.ChangeSpec) : _root_.Go.OpenSpec := { _root_.Go.OpenSpec.ofChange s with cond := some uptoSmall }

/-- 'laws.FnProgValid', WHERE WHAT IT READS IS OF BULK AT MOST 1048576: true; the input reads as it did. -/
def fnProgValidUptoRow : OpenClaim := { program := "ytabjlloohcnijaa", sum := "c39703ff0c20ccd406b081cc3fd1b663d66d65ab8768dae08c2b4dadf19e2f59", func := "loop.example/stackwords/laws.FnProgValid", spec := "fnProgValid", recurses := true, apart := false, narrowed := true }
def FnProgValidUptoSaid : Prop := fnProgValidUptoRow.holds Try.pinned (OpenSpec.upto fnProgValidSpec)

/-- 'laws.FnProgThen', WHERE WHAT IT READS IS OF BULK AT MOST 1048576: true; the input reads as it did. -/
def fnProgThenUptoRow : OpenClaim := { program := "ytabjlloohcnijaa", sum := "c39703ff0c20ccd406b081cc3fd1b663d66d65ab8768dae08c2b4dadf19e2f59", func := "loop.example/stackwords/laws.FnProgThen", spec := "fnProgThen", recurses := true, apart := false, narrowed := true }
def FnProgThenUptoSaid : Prop := fnProgThenUptoRow.holds Try.pinned (OpenSpec.upto fnProgThenSpec)

/-- 'laws.FnProgQuote', WHERE WHAT IT READS IS OF BULK AT MOST 1048576: true; the input reads as it did. -/
def fnProgQuoteUptoRow : OpenClaim := { program := "ytabjlloohcnijaa", sum := "c39703ff0c20ccd406b081cc3fd1b663d66d65ab8768dae08c2b4dadf19e2f59", func := "loop.example/stackwords/laws.FnProgQuote", spec := "fnProgQuote", recurses := true, apart := false, narrowed := true }
def FnProgQuoteUptoSaid : Prop := fnProgQuoteUptoRow.holds Try.pinned (OpenSpec.upto fnProgQuoteSpec)

/-- 'laws.FnProgParts', WHERE WHAT IT READS IS OF BULK AT MOST 1048576: true; the input reads as it did. -/
def fnProgPartsUptoRow : OpenClaim := { program := "ytabjlloohcnijaa", sum := "c39703ff0c20ccd406b081cc3fd1b663d66d65ab8768dae08c2b4dadf19e2f59", func := "loop.example/stackwords/laws.FnProgParts", spec := "fnProgParts", recurses := true, apart := false, narrowed := true }
def FnProgPartsUptoSaid : Prop := fnProgPartsUptoRow.holds Try.pinned (OpenSpec.upto fnProgPartsSpec)

/-- 'laws.FnProgDepth', WHERE WHAT IT READS IS OF BULK AT MOST 1048576: true; the input reads as it did. -/
def fnProgDepthUptoRow : OpenClaim := { program := "ytabjlloohcnijaa", sum := "c39703ff0c20ccd406b081cc3fd1b663d66d65ab8768dae08c2b4dadf19e2f59", func := "loop.example/stackwords/laws.FnProgDepth", spec := "fnProgDepth", recurses := true, apart := false, narrowed := true }
def FnProgDepthUptoSaid : Prop := fnProgDepthUptoRow.holds Try.pinned (OpenSpec.upto fnProgDepthSpec)

/-- 'laws.FnExactProgValid', WHERE WHAT IT READS IS OF BULK AT MOST 1048576: true; the input reads as it did. -/
def fnExactProgValidUptoRow : OpenClaim := { program := "ytabjlloohcnijaa", sum := "c39703ff0c20ccd406b081cc3fd1b663d66d65ab8768dae08c2b4dadf19e2f59", func := "loop.example/stackwords/laws.FnExactProgValid", spec := "fnExactProgValid", apart := false, narrowed := true }
def FnExactProgValidUptoSaid : Prop := fnExactProgValidUptoRow.holds Try.pinned (OpenSpec.upto fnExactProgValidSpec)

/-- 'laws.FnExactProgThen', WHERE WHAT IT READS IS OF BULK AT MOST 1048576: true; the input reads as it did. -/
def fnExactProgThenUptoRow : OpenClaim := { program := "ytabjlloohcnijaa", sum := "c39703ff0c20ccd406b081cc3fd1b663d66d65ab8768dae08c2b4dadf19e2f59", func := "loop.example/stackwords/laws.FnExactProgThen", spec := "fnExactProgThen", apart := false, narrowed := true }
def FnExactProgThenUptoSaid : Prop := fnExactProgThenUptoRow.holds Try.pinned (OpenSpec.upto fnExactProgThenSpec)

/-- 'laws.FnExactProgQuote', WHERE WHAT IT READS IS OF BULK AT MOST 1048576: true; the input reads as it did. -/
def fnExactProgQuoteUptoRow : OpenClaim := { program := "ytabjlloohcnijaa", sum := "c39703ff0c20ccd406b081cc3fd1b663d66d65ab8768dae08c2b4dadf19e2f59", func := "loop.example/stackwords/laws.FnExactProgQuote", spec := "fnExactProgQuote", apart := false, narrowed := true }
def FnExactProgQuoteUptoSaid : Prop := fnExactProgQuoteUptoRow.holds Try.pinned (OpenSpec.upto fnExactProgQuoteSpec)

/-- 'laws.FnExactProgParts', WHERE WHAT IT READS IS OF BULK AT MOST 1048576: true; the input reads as it did. -/
def fnExactProgPartsUptoRow : OpenClaim := { program := "ytabjlloohcnijaa", sum := "c39703ff0c20ccd406b081cc3fd1b663d66d65ab8768dae08c2b4dadf19e2f59", func := "loop.example/stackwords/laws.FnExactProgParts", spec := "fnExactProgParts", apart := false, narrowed := true }
def FnExactProgPartsUptoSaid : Prop := fnExactProgPartsUptoRow.holds Try.pinned (OpenSpec.upto fnExactProgPartsSpec)

/-- 'laws.FnExactProgDepth', WHERE WHAT IT READS IS OF BULK AT MOST 1048576: true; the input reads as it did. -/
def fnExactProgDepthUptoRow : OpenClaim := { program := "ytabjlloohcnijaa", sum := "c39703ff0c20ccd406b081cc3fd1b663d66d65ab8768dae08c2b4dadf19e2f59", func := "loop.example/stackwords/laws.FnExactProgDepth", spec := "fnExactProgDepth", apart := false, narrowed := true }
def FnExactProgDepthUptoSaid : Prop := fnExactProgDepthUptoRow.holds Try.pinned (OpenSpec.upto fnExactProgDepthSpec)

end Rows
end Go.Proofs.Ytabjlloohcnijaa
