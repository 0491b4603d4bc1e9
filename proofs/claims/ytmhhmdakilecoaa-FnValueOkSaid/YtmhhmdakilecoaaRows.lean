/-
  No cell of these rows narrows 'for every input' (looked for: loops, veiled, ifaces, maps, wideKeys, modest, calm, conditions, laid).
  DERIVED. THE GIVEN ROWS OF THIS SEAT. 16 by the template 'for every input the law returns true; each argument reads behind the call as it read before'; 0 by the template 'total and deterministic' (their statements: YtmhhmdakilecoaaTotals.lean).
  GIVEN WITH THE SEED: the statements are not yours to turn. If you find one false, say at which input.
  Laid BY PROGRAM, IN A SANDBOX (cutbox-rows.mjs): the forced cells as the released guide's own fill.sh prints them over the translation 8281db2cf7d4d77f… (all of the seat's roots in one cut). By AI agents, Wed Nov 11 2026. No macro, syntax, notation, axiom, sorry.
-/
import Derived.Test.YtmhhmdakilecoaaChecked
import GoSem.Claim
import GoSem.ClaimJoined
import GoSem.ClaimMapViews
import Derived.JoinedTies
import Derived.KernelRfl
namespace Go.Proofs.Ytmhhmdakilecoaa
/- THE CELL 'sum', in the pinned program and in every row, IS THE sha256 OF THE DUMP (.gsa) THAT YtmhhmdakilecoaaProg.lean LOADS. Nothing in Lean hashes anything: it is a label: what it is worth is what the hold of that sum in a sandbox is worth. -/
noncomputable def Try.pinned : Pinned := { name := "ytmhhmdakilecoaa", sum := "8281db2cf7d4d77f00e65ff3e7c75bd8bba53a44b8b265bf7319e9409f616943", checked := Try.checked }
namespace Rows
def none {H : Type} : Left H := { results := [], args := [] }

/-- 'laws.FnValueOk': WHATEVER THE INPUT: true; the input reads as it did. -/
def fnValueOkSpec : ChangeSpec := { name := "fnValueOk", fn := fun _ => fun
  | [d] => { results := [.lit (.bool true)], args := [d] }
  | _ => none }
def fnValueOkRow : OpenClaim := { program := "ytmhhmdakilecoaa", sum := "8281db2cf7d4d77f00e65ff3e7c75bd8bba53a44b8b265bf7319e9409f616943", func := "loop.example/stackwords/laws.FnValueOk", spec := "fnValueOk", unfollowed := true, recurses := true, apart := false }
def FnValueOkSaid : Prop := fnValueOkRow.holds Try.pinned (OpenSpec.ofChange fnValueOkSpec)

/-- ITS FALSE NEIGHBOUR: 'it returns false'. Refute it at one input. -/
def fnValueOkWrong : ChangeSpec := { name := "fnValueOk", fn := fun _ => fun
  | [d] => { results := [.lit (.bool false)], args := [d] }
  | _ => none }
def FnValueOkWrongFalsely : Prop := fnValueOkRow.holds Try.pinned (OpenSpec.ofChange fnValueOkWrong)

/-- 'laws.FnStackOk': WHATEVER THE INPUT: true; the input reads as it did. -/
def fnStackOkSpec : ChangeSpec := { name := "fnStackOk", fn := fun _ => fun
  | [d] => { results := [.lit (.bool true)], args := [d] }
  | _ => none }
def fnStackOkRow : OpenClaim := { program := "ytmhhmdakilecoaa", sum := "8281db2cf7d4d77f00e65ff3e7c75bd8bba53a44b8b265bf7319e9409f616943", func := "loop.example/stackwords/laws.FnStackOk", spec := "fnStackOk", recurses := true, apart := false }
def FnStackOkSaid : Prop := fnStackOkRow.holds Try.pinned (OpenSpec.ofChange fnStackOkSpec)

/-- ITS FALSE NEIGHBOUR: 'it returns false'. Refute it at one input. -/
def fnStackOkWrong : ChangeSpec := { name := "fnStackOk", fn := fun _ => fun
  | [d] => { results := [.lit (.bool false)], args := [d] }
  | _ => none }
def FnStackOkWrongFalsely : Prop := fnStackOkRow.holds Try.pinned (OpenSpec.ofChange fnStackOkWrong)

/-- 'laws.FnStackProg': WHATEVER THE INPUT: true; the input reads as it did. -/
def fnStackProgSpec : ChangeSpec := { name := "fnStackProg", fn := fun _ => fun
  | [d] => { results := [.lit (.bool true)], args := [d] }
  | _ => none }
def fnStackProgRow : OpenClaim := { program := "ytmhhmdakilecoaa", sum := "8281db2cf7d4d77f00e65ff3e7c75bd8bba53a44b8b265bf7319e9409f616943", func := "loop.example/stackwords/laws.FnStackProg", spec := "fnStackProg", unfollowed := true, recurses := true, apart := false }
def FnStackProgSaid : Prop := fnStackProgRow.holds Try.pinned (OpenSpec.ofChange fnStackProgSpec)

/-- ITS FALSE NEIGHBOUR: 'it returns false'. Refute it at one input. -/
def fnStackProgWrong : ChangeSpec := { name := "fnStackProg", fn := fun _ => fun
  | [d] => { results := [.lit (.bool false)], args := [d] }
  | _ => none }
def FnStackProgWrongFalsely : Prop := fnStackProgRow.holds Try.pinned (OpenSpec.ofChange fnStackProgWrong)

/-- 'laws.FnProgStack': WHATEVER THE INPUT: true; the input reads as it did. -/
def fnProgStackSpec : ChangeSpec := { name := "fnProgStack", fn := fun _ => fun
  | [d] => { results := [.lit (.bool true)], args := [d] }
  | _ => none }
def fnProgStackRow : OpenClaim := { program := "ytmhhmdakilecoaa", sum := "8281db2cf7d4d77f00e65ff3e7c75bd8bba53a44b8b265bf7319e9409f616943", func := "loop.example/stackwords/laws.FnProgStack", spec := "fnProgStack", recurses := true, apart := false }
def FnProgStackSaid : Prop := fnProgStackRow.holds Try.pinned (OpenSpec.ofChange fnProgStackSpec)

/-- ITS FALSE NEIGHBOUR: 'it returns false'. Refute it at one input. -/
def fnProgStackWrong : ChangeSpec := { name := "fnProgStack", fn := fun _ => fun
  | [d] => { results := [.lit (.bool false)], args := [d] }
  | _ => none }
def FnProgStackWrongFalsely : Prop := fnProgStackRow.holds Try.pinned (OpenSpec.ofChange fnProgStackWrong)

/-- 'laws.FnStateOk': WHATEVER THE INPUT: true; the input reads as it did. -/
def fnStateOkSpec : ChangeSpec := { name := "fnStateOk", fn := fun _ => fun
  | [d] => { results := [.lit (.bool true)], args := [d] }
  | _ => none }
def fnStateOkRow : OpenClaim := { program := "ytmhhmdakilecoaa", sum := "8281db2cf7d4d77f00e65ff3e7c75bd8bba53a44b8b265bf7319e9409f616943", func := "loop.example/stackwords/laws.FnStateOk", spec := "fnStateOk", recurses := true, apart := false }
def FnStateOkSaid : Prop := fnStateOkRow.holds Try.pinned (OpenSpec.ofChange fnStateOkSpec)

/-- ITS FALSE NEIGHBOUR: 'it returns false'. Refute it at one input. -/
def fnStateOkWrong : ChangeSpec := { name := "fnStateOk", fn := fun _ => fun
  | [d] => { results := [.lit (.bool false)], args := [d] }
  | _ => none }
def FnStateOkWrongFalsely : Prop := fnStateOkRow.holds Try.pinned (OpenSpec.ofChange fnStateOkWrong)

/-- 'laws.FnStepOf': WHATEVER THE INPUT: true; the input reads as it did. -/
def fnStepOfSpec : ChangeSpec := { name := "fnStepOf", fn := fun _ => fun
  | [d] => { results := [.lit (.bool true)], args := [d] }
  | _ => none }
def fnStepOfRow : OpenClaim := { program := "ytmhhmdakilecoaa", sum := "8281db2cf7d4d77f00e65ff3e7c75bd8bba53a44b8b265bf7319e9409f616943", func := "loop.example/stackwords/laws.FnStepOf", spec := "fnStepOf", unfollowed := true, recurses := true, apart := false }
def FnStepOfSaid : Prop := fnStepOfRow.holds Try.pinned (OpenSpec.ofChange fnStepOfSpec)

/-- ITS FALSE NEIGHBOUR: 'it returns false'. Refute it at one input. -/
def fnStepOfWrong : ChangeSpec := { name := "fnStepOf", fn := fun _ => fun
  | [d] => { results := [.lit (.bool false)], args := [d] }
  | _ => none }
def FnStepOfWrongFalsely : Prop := fnStepOfRow.holds Try.pinned (OpenSpec.ofChange fnStepOfWrong)

/-- 'laws.FnRunOf': WHATEVER THE INPUT: true; the input reads as it did. -/
def fnRunOfSpec : ChangeSpec := { name := "fnRunOf", fn := fun _ => fun
  | [d1, d2] => { results := [.lit (.bool true)], args := [d1, d2] }
  | _ => none }
def fnRunOfRow : OpenClaim := { program := "ytmhhmdakilecoaa", sum := "8281db2cf7d4d77f00e65ff3e7c75bd8bba53a44b8b265bf7319e9409f616943", func := "loop.example/stackwords/laws.FnRunOf", spec := "fnRunOf", unfollowed := true, recurses := true, apart := false }
def FnRunOfSaid : Prop := fnRunOfRow.holds Try.pinned (OpenSpec.ofChange fnRunOfSpec)

/-- ITS FALSE NEIGHBOUR: 'it returns false'. Refute it at one input. -/
def fnRunOfWrong : ChangeSpec := { name := "fnRunOf", fn := fun _ => fun
  | [d1, d2] => { results := [.lit (.bool false)], args := [d1, d2] }
  | _ => none }
def FnRunOfWrongFalsely : Prop := fnRunOfRow.holds Try.pinned (OpenSpec.ofChange fnRunOfWrong)

/-- 'laws.FnSameOn': WHATEVER THE INPUT: true; the input reads as it did. -/
def fnSameOnSpec : ChangeSpec := { name := "fnSameOn", fn := fun _ => fun
  | [d1, d2] => { results := [.lit (.bool true)], args := [d1, d2] }
  | _ => none }
def fnSameOnRow : OpenClaim := { program := "ytmhhmdakilecoaa", sum := "8281db2cf7d4d77f00e65ff3e7c75bd8bba53a44b8b265bf7319e9409f616943", func := "loop.example/stackwords/laws.FnSameOn", spec := "fnSameOn", unfollowed := true, recurses := true, apart := false }
def FnSameOnSaid : Prop := fnSameOnRow.holds Try.pinned (OpenSpec.ofChange fnSameOnSpec)

/-- ITS FALSE NEIGHBOUR: 'it returns false'. Refute it at one input. -/
def fnSameOnWrong : ChangeSpec := { name := "fnSameOn", fn := fun _ => fun
  | [d1, d2] => { results := [.lit (.bool false)], args := [d1, d2] }
  | _ => none }
def FnSameOnWrongFalsely : Prop := fnSameOnRow.holds Try.pinned (OpenSpec.ofChange fnSameOnWrong)

/-- 'laws.FnExactValueOk': WHATEVER THE INPUT: true; the input reads as it did. -/
def fnExactValueOkSpec : ChangeSpec := { name := "fnExactValueOk", fn := fun _ => fun
  | [d] => { results := [.lit (.bool true)], args := [d] }
  | _ => none }
def fnExactValueOkRow : OpenClaim := { program := "ytmhhmdakilecoaa", sum := "8281db2cf7d4d77f00e65ff3e7c75bd8bba53a44b8b265bf7319e9409f616943", func := "loop.example/stackwords/laws.FnExactValueOk", spec := "fnExactValueOk", apart := false }
def FnExactValueOkSaid : Prop := fnExactValueOkRow.holds Try.pinned (OpenSpec.ofChange fnExactValueOkSpec)

/-- ITS FALSE NEIGHBOUR: 'it returns false'. Refute it at one input. -/
def fnExactValueOkWrong : ChangeSpec := { name := "fnExactValueOk", fn := fun _ => fun
  | [d] => { results := [.lit (.bool false)], args := [d] }
  | _ => none }
def FnExactValueOkWrongFalsely : Prop := fnExactValueOkRow.holds Try.pinned (OpenSpec.ofChange fnExactValueOkWrong)

/-- 'laws.FnExactStackOk': WHATEVER THE INPUT: true; the input reads as it did. -/
def fnExactStackOkSpec : ChangeSpec := { name := "fnExactStackOk", fn := fun _ => fun
  | [d] => { results := [.lit (.bool true)], args := [d] }
  | _ => none }
def fnExactStackOkRow : OpenClaim := { program := "ytmhhmdakilecoaa", sum := "8281db2cf7d4d77f00e65ff3e7c75bd8bba53a44b8b265bf7319e9409f616943", func := "loop.example/stackwords/laws.FnExactStackOk", spec := "fnExactStackOk", apart := false }
def FnExactStackOkSaid : Prop := fnExactStackOkRow.holds Try.pinned (OpenSpec.ofChange fnExactStackOkSpec)

/-- ITS FALSE NEIGHBOUR: 'it returns false'. Refute it at one input. -/
def fnExactStackOkWrong : ChangeSpec := { name := "fnExactStackOk", fn := fun _ => fun
  | [d] => { results := [.lit (.bool false)], args := [d] }
  | _ => none }
def FnExactStackOkWrongFalsely : Prop := fnExactStackOkRow.holds Try.pinned (OpenSpec.ofChange fnExactStackOkWrong)

/-- 'laws.FnExactStackProg': WHATEVER THE INPUT: true; the input reads as it did. -/
def fnExactStackProgSpec : ChangeSpec := { name := "fnExactStackProg", fn := fun _ => fun
  | [d] => { results := [.lit (.bool true)], args := [d] }
  | _ => none }
def fnExactStackProgRow : OpenClaim := { program := "ytmhhmdakilecoaa", sum := "8281db2cf7d4d77f00e65ff3e7c75bd8bba53a44b8b265bf7319e9409f616943", func := "loop.example/stackwords/laws.FnExactStackProg", spec := "fnExactStackProg", apart := false }
def FnExactStackProgSaid : Prop := fnExactStackProgRow.holds Try.pinned (OpenSpec.ofChange fnExactStackProgSpec)

/-- ITS FALSE NEIGHBOUR: 'it returns false'. Refute it at one input. -/
def fnExactStackProgWrong : ChangeSpec := { name := "fnExactStackProg", fn := fun _ => fun
  | [d] => { results := [.lit (.bool false)], args := [d] }
  | _ => none }
def FnExactStackProgWrongFalsely : Prop := fnExactStackProgRow.holds Try.pinned (OpenSpec.ofChange fnExactStackProgWrong)

/-- 'laws.FnExactProgStack': WHATEVER THE INPUT: true; the input reads as it did. -/
def fnExactProgStackSpec : ChangeSpec := { name := "fnExactProgStack", fn := fun _ => fun
  | [d] => { results := [.lit (.bool true)], args := [d] }
  | _ => none }
def fnExactProgStackRow : OpenClaim := { program := "ytmhhmdakilecoaa", sum := "8281db2cf7d4d77f00e65ff3e7c75bd8bba53a44b8b265bf7319e9409f616943", func := "loop.example/stackwords/laws.FnExactProgStack", spec := "fnExactProgStack", apart := false }
def FnExactProgStackSaid : Prop := fnExactProgStackRow.holds Try.pinned (OpenSpec.ofChange fnExactProgStackSpec)

/-- ITS FALSE NEIGHBOUR: 'it returns false'. Refute it at one input. -/
def fnExactProgStackWrong : ChangeSpec := { name := "fnExactProgStack", fn := fun _ => fun
  | [d] => { results := [.lit (.bool false)], args := [d] }
  | _ => none }
def FnExactProgStackWrongFalsely : Prop := fnExactProgStackRow.holds Try.pinned (OpenSpec.ofChange fnExactProgStackWrong)

/-- 'laws.FnExactStateOk': WHATEVER THE INPUT: true; the input reads as it did. -/
def fnExactStateOkSpec : ChangeSpec := { name := "fnExactStateOk", fn := fun _ => fun
  | [d] => { results := [.lit (.bool true)], args := [d] }
  | _ => none }
def fnExactStateOkRow : OpenClaim := { program := "ytmhhmdakilecoaa", sum := "8281db2cf7d4d77f00e65ff3e7c75bd8bba53a44b8b265bf7319e9409f616943", func := "loop.example/stackwords/laws.FnExactStateOk", spec := "fnExactStateOk", apart := false }
def FnExactStateOkSaid : Prop := fnExactStateOkRow.holds Try.pinned (OpenSpec.ofChange fnExactStateOkSpec)

/-- ITS FALSE NEIGHBOUR: 'it returns false'. Refute it at one input. -/
def fnExactStateOkWrong : ChangeSpec := { name := "fnExactStateOk", fn := fun _ => fun
  | [d] => { results := [.lit (.bool false)], args := [d] }
  | _ => none }
def FnExactStateOkWrongFalsely : Prop := fnExactStateOkRow.holds Try.pinned (OpenSpec.ofChange fnExactStateOkWrong)

/-- 'laws.FnExactStepOf': WHATEVER THE INPUT: true; the input reads as it did. -/
def fnExactStepOfSpec : ChangeSpec := { name := "fnExactStepOf", fn := fun _ => fun
  | [d] => { results := [.lit (.bool true)], args := [d] }
  | _ => none }
def fnExactStepOfRow : OpenClaim := { program := "ytmhhmdakilecoaa", sum := "8281db2cf7d4d77f00e65ff3e7c75bd8bba53a44b8b265bf7319e9409f616943", func := "loop.example/stackwords/laws.FnExactStepOf", spec := "fnExactStepOf", unfollowed := true, recurses := true, apart := false }
def FnExactStepOfSaid : Prop := fnExactStepOfRow.holds Try.pinned (OpenSpec.ofChange fnExactStepOfSpec)

/-- ITS FALSE NEIGHBOUR: 'it returns false'. Refute it at one input. -/
def fnExactStepOfWrong : ChangeSpec := { name := "fnExactStepOf", fn := fun _ => fun
  | [d] => { results := [.lit (.bool false)], args := [d] }
  | _ => none }
def FnExactStepOfWrongFalsely : Prop := fnExactStepOfRow.holds Try.pinned (OpenSpec.ofChange fnExactStepOfWrong)

/-- 'laws.FnExactRunOf': WHATEVER THE INPUT: true; the input reads as it did. -/
def fnExactRunOfSpec : ChangeSpec := { name := "fnExactRunOf", fn := fun _ => fun
  | [d1, d2] => { results := [.lit (.bool true)], args := [d1, d2] }
  | _ => none }
def fnExactRunOfRow : OpenClaim := { program := "ytmhhmdakilecoaa", sum := "8281db2cf7d4d77f00e65ff3e7c75bd8bba53a44b8b265bf7319e9409f616943", func := "loop.example/stackwords/laws.FnExactRunOf", spec := "fnExactRunOf", unfollowed := true, recurses := true, apart := false }
def FnExactRunOfSaid : Prop := fnExactRunOfRow.holds Try.pinned (OpenSpec.ofChange fnExactRunOfSpec)

/-- ITS FALSE NEIGHBOUR: 'it returns false'. Refute it at one input. -/
def fnExactRunOfWrong : ChangeSpec := { name := "fnExactRunOf", fn := fun _ => fun
  | [d1, d2] => { results := [.lit (.bool false)], args := [d1, d2] }
  | _ => none }
def FnExactRunOfWrongFalsely : Prop := fnExactRunOfRow.holds Try.pinned (OpenSpec.ofChange fnExactRunOfWrong)

/-- 'laws.FnExactSameOn': WHATEVER THE INPUT: true; the input reads as it did. -/
def fnExactSameOnSpec : ChangeSpec := { name := "fnExactSameOn", fn := fun _ => fun
  | [d1, d2, d3] => { results := [.lit (.bool true)], args := [d1, d2, d3] }
  | _ => none }
def fnExactSameOnRow : OpenClaim := { program := "ytmhhmdakilecoaa", sum := "8281db2cf7d4d77f00e65ff3e7c75bd8bba53a44b8b265bf7319e9409f616943", func := "loop.example/stackwords/laws.FnExactSameOn", spec := "fnExactSameOn", unfollowed := true, recurses := true, apart := false }
def FnExactSameOnSaid : Prop := fnExactSameOnRow.holds Try.pinned (OpenSpec.ofChange fnExactSameOnSpec)

/-- ITS FALSE NEIGHBOUR: 'it returns false'. Refute it at one input. -/
def fnExactSameOnWrong : ChangeSpec := { name := "fnExactSameOn", fn := fun _ => fun
  | [d1, d2, d3] => { results := [.lit (.bool false)], args := [d1, d2, d3] }
  | _ => none }
def FnExactSameOnWrongFalsely : Prop := fnExactSameOnRow.holds Try.pinned (OpenSpec.ofChange fnExactSameOnWrong)

/- THE SECOND FORM. 'bulk': how many values and letters a reading holds, each counted each time it is reached (what is shared counts as often as it is met; a slice's spare places count too). A statement '..UptoSaid' is the law's where the arguments, and the package variables that the reading takes, are together of bulk at most 1048576: NARROWER than '..Said'. Prove '..Said' where nothing that the law and all that it calls make is longer than what came in: it says more and counts as full. Else prove '..UptoSaid'. A law counts once. -/
mutual
def uptoBulk {H : Type} : DataW H → Nat
  | .lit (.string bytes) => bytes.length + 1
  | .lit _ => 1
  | .nil => 1
  | .ptr d => uptoBulk d + 1
  | .slice elems spare => uptoBulkAll elems + uptoBulkAll spare + 1
  | .agg parts => uptoBulkAll parts + 1
  | .iface _ d => uptoBulk d + 1
  | .map entries => uptoBulkEntries entries + 1
  | .held _ => 1
def uptoBulkAll {H : Type} : List (DataW H) → Nat
  | [] => 0
  | d :: r => uptoBulk d + uptoBulkAll r
def uptoBulkEntries {H : Type} : List (Lit × DataW H) → Nat
  | [] => 0
  | x :: r => uptoBulkEntry x + uptoBulkEntries r
def uptoBulkEntry {H : Type} : Lit × DataW H → Nat
  | (.string bytes, d) => bytes.length + uptoBulk d + 1
  | (_, d) => uptoBulk d + 1
 end
def uptoSmall : (H : Type) → List (DataW H) → Bool := fun _ ds => decide (uptoBulkAll ds ≤ 1048576)
def OpenSpec.upto (s : _root_.Go.ChangeSpec) : _root_.Go.OpenSpec := { _root_.Go.OpenSpec.ofChange s with cond := some uptoSmall }

/-- 'laws.FnValueOk', WHERE WHAT IT READS IS OF BULK AT MOST 1048576: true; the input reads as it did. -/
def fnValueOkUptoRow : OpenClaim := { program := "ytmhhmdakilecoaa", sum := "8281db2cf7d4d77f00e65ff3e7c75bd8bba53a44b8b265bf7319e9409f616943", func := "loop.example/stackwords/laws.FnValueOk", spec := "fnValueOk", unfollowed := true, recurses := true, apart := false, narrowed := true }
def FnValueOkUptoSaid : Prop := fnValueOkUptoRow.holds Try.pinned (OpenSpec.upto fnValueOkSpec)

/-- 'laws.FnStackOk', WHERE WHAT IT READS IS OF BULK AT MOST 1048576: true; the input reads as it did. -/
def fnStackOkUptoRow : OpenClaim := { program := "ytmhhmdakilecoaa", sum := "8281db2cf7d4d77f00e65ff3e7c75bd8bba53a44b8b265bf7319e9409f616943", func := "loop.example/stackwords/laws.FnStackOk", spec := "fnStackOk", recurses := true, apart := false, narrowed := true }
def FnStackOkUptoSaid : Prop := fnStackOkUptoRow.holds Try.pinned (OpenSpec.upto fnStackOkSpec)

/-- 'laws.FnStackProg', WHERE WHAT IT READS IS OF BULK AT MOST 1048576: true; the input reads as it did. -/
def fnStackProgUptoRow : OpenClaim := { program := "ytmhhmdakilecoaa", sum := "8281db2cf7d4d77f00e65ff3e7c75bd8bba53a44b8b265bf7319e9409f616943", func := "loop.example/stackwords/laws.FnStackProg", spec := "fnStackProg", unfollowed := true, recurses := true, apart := false, narrowed := true }
def FnStackProgUptoSaid : Prop := fnStackProgUptoRow.holds Try.pinned (OpenSpec.upto fnStackProgSpec)

/-- 'laws.FnProgStack', WHERE WHAT IT READS IS OF BULK AT MOST 1048576: true; the input reads as it did. -/
def fnProgStackUptoRow : OpenClaim := { program := "ytmhhmdakilecoaa", sum := "8281db2cf7d4d77f00e65ff3e7c75bd8bba53a44b8b265bf7319e9409f616943", func := "loop.example/stackwords/laws.FnProgStack", spec := "fnProgStack", recurses := true, apart := false, narrowed := true }
def FnProgStackUptoSaid : Prop := fnProgStackUptoRow.holds Try.pinned (OpenSpec.upto fnProgStackSpec)

/-- 'laws.FnStateOk', WHERE WHAT IT READS IS OF BULK AT MOST 1048576: true; the input reads as it did. -/
def fnStateOkUptoRow : OpenClaim := { program := "ytmhhmdakilecoaa", sum := "8281db2cf7d4d77f00e65ff3e7c75bd8bba53a44b8b265bf7319e9409f616943", func := "loop.example/stackwords/laws.FnStateOk", spec := "fnStateOk", recurses := true, apart := false, narrowed := true }
def FnStateOkUptoSaid : Prop := fnStateOkUptoRow.holds Try.pinned (OpenSpec.upto fnStateOkSpec)

/-- 'laws.FnStepOf', WHERE WHAT IT READS IS OF BULK AT MOST 1048576: true; the input reads as it did. -/
def fnStepOfUptoRow : OpenClaim := { program := "ytmhhmdakilecoaa", sum := "8281db2cf7d4d77f00e65ff3e7c75bd8bba53a44b8b265bf7319e9409f616943", func := "loop.example/stackwords/laws.FnStepOf", spec := "fnStepOf", unfollowed := true, recurses := true, apart := false, narrowed := true }
def FnStepOfUptoSaid : Prop := fnStepOfUptoRow.holds Try.pinned (OpenSpec.upto fnStepOfSpec)

/-- 'laws.FnRunOf', WHERE WHAT IT READS IS OF BULK AT MOST 1048576: true; the input reads as it did. -/
def fnRunOfUptoRow : OpenClaim := { program := "ytmhhmdakilecoaa", sum := "8281db2cf7d4d77f00e65ff3e7c75bd8bba53a44b8b265bf7319e9409f616943", func := "loop.example/stackwords/laws.FnRunOf", spec := "fnRunOf", unfollowed := true, recurses := true, apart := false, narrowed := true }
def FnRunOfUptoSaid : Prop := fnRunOfUptoRow.holds Try.pinned (OpenSpec.upto fnRunOfSpec)

/-- 'laws.FnSameOn', WHERE WHAT IT READS IS OF BULK AT MOST 1048576: true; the input reads as it did. -/
def fnSameOnUptoRow : OpenClaim := { program := "ytmhhmdakilecoaa", sum := "8281db2cf7d4d77f00e65ff3e7c75bd8bba53a44b8b265bf7319e9409f616943", func := "loop.example/stackwords/laws.FnSameOn", spec := "fnSameOn", unfollowed := true, recurses := true, apart := false, narrowed := true }
def FnSameOnUptoSaid : Prop := fnSameOnUptoRow.holds Try.pinned (OpenSpec.upto fnSameOnSpec)

/-- 'laws.FnExactValueOk', WHERE WHAT IT READS IS OF BULK AT MOST 1048576: true; the input reads as it did. -/
def fnExactValueOkUptoRow : OpenClaim := { program := "ytmhhmdakilecoaa", sum := "8281db2cf7d4d77f00e65ff3e7c75bd8bba53a44b8b265bf7319e9409f616943", func := "loop.example/stackwords/laws.FnExactValueOk", spec := "fnExactValueOk", apart := false, narrowed := true }
def FnExactValueOkUptoSaid : Prop := fnExactValueOkUptoRow.holds Try.pinned (OpenSpec.upto fnExactValueOkSpec)

/-- 'laws.FnExactStackOk', WHERE WHAT IT READS IS OF BULK AT MOST 1048576: true; the input reads as it did. -/
def fnExactStackOkUptoRow : OpenClaim := { program := "ytmhhmdakilecoaa", sum := "8281db2cf7d4d77f00e65ff3e7c75bd8bba53a44b8b265bf7319e9409f616943", func := "loop.example/stackwords/laws.FnExactStackOk", spec := "fnExactStackOk", apart := false, narrowed := true }
def FnExactStackOkUptoSaid : Prop := fnExactStackOkUptoRow.holds Try.pinned (OpenSpec.upto fnExactStackOkSpec)

/-- 'laws.FnExactStackProg', WHERE WHAT IT READS IS OF BULK AT MOST 1048576: true; the input reads as it did. -/
def fnExactStackProgUptoRow : OpenClaim := { program := "ytmhhmdakilecoaa", sum := "8281db2cf7d4d77f00e65ff3e7c75bd8bba53a44b8b265bf7319e9409f616943", func := "loop.example/stackwords/laws.FnExactStackProg", spec := "fnExactStackProg", apart := false, narrowed := true }
def FnExactStackProgUptoSaid : Prop := fnExactStackProgUptoRow.holds Try.pinned (OpenSpec.upto fnExactStackProgSpec)

/-- 'laws.FnExactProgStack', WHERE WHAT IT READS IS OF BULK AT MOST 1048576: true; the input reads as it did. -/
def fnExactProgStackUptoRow : OpenClaim := { program := "ytmhhmdakilecoaa", sum := "8281db2cf7d4d77f00e65ff3e7c75bd8bba53a44b8b265bf7319e9409f616943", func := "loop.example/stackwords/laws.FnExactProgStack", spec := "fnExactProgStack", apart := false, narrowed := true }
def FnExactProgStackUptoSaid : Prop := fnExactProgStackUptoRow.holds Try.pinned (OpenSpec.upto fnExactProgStackSpec)

/-- 'laws.FnExactStateOk', WHERE WHAT IT READS IS OF BULK AT MOST 1048576: true; the input reads as it did. -/
def fnExactStateOkUptoRow : OpenClaim := { program := "ytmhhmdakilecoaa", sum := "8281db2cf7d4d77f00e65ff3e7c75bd8bba53a44b8b265bf7319e9409f616943", func := "loop.example/stackwords/laws.FnExactStateOk", spec := "fnExactStateOk", apart := false, narrowed := true }
def FnExactStateOkUptoSaid : Prop := fnExactStateOkUptoRow.holds Try.pinned (OpenSpec.upto fnExactStateOkSpec)

/-- 'laws.FnExactStepOf', WHERE WHAT IT READS IS OF BULK AT MOST 1048576: true; the input reads as it did. -/
def fnExactStepOfUptoRow : OpenClaim := { program := "ytmhhmdakilecoaa", sum := "8281db2cf7d4d77f00e65ff3e7c75bd8bba53a44b8b265bf7319e9409f616943", func := "loop.example/stackwords/laws.FnExactStepOf", spec := "fnExactStepOf", unfollowed := true, recurses := true, apart := false, narrowed := true }
def FnExactStepOfUptoSaid : Prop := fnExactStepOfUptoRow.holds Try.pinned (OpenSpec.upto fnExactStepOfSpec)

/-- 'laws.FnExactRunOf', WHERE WHAT IT READS IS OF BULK AT MOST 1048576: true; the input reads as it did. -/
def fnExactRunOfUptoRow : OpenClaim := { program := "ytmhhmdakilecoaa", sum := "8281db2cf7d4d77f00e65ff3e7c75bd8bba53a44b8b265bf7319e9409f616943", func := "loop.example/stackwords/laws.FnExactRunOf", spec := "fnExactRunOf", unfollowed := true, recurses := true, apart := false, narrowed := true }
def FnExactRunOfUptoSaid : Prop := fnExactRunOfUptoRow.holds Try.pinned (OpenSpec.upto fnExactRunOfSpec)

/-- 'laws.FnExactSameOn', WHERE WHAT IT READS IS OF BULK AT MOST 1048576: true; the input reads as it did. -/
def fnExactSameOnUptoRow : OpenClaim := { program := "ytmhhmdakilecoaa", sum := "8281db2cf7d4d77f00e65ff3e7c75bd8bba53a44b8b265bf7319e9409f616943", func := "loop.example/stackwords/laws.FnExactSameOn", spec := "fnExactSameOn", unfollowed := true, recurses := true, apart := false, narrowed := true }
def FnExactSameOnUptoSaid : Prop := fnExactSameOnUptoRow.holds Try.pinned (OpenSpec.upto fnExactSameOnSpec)

end Rows
end Go.Proofs.Ytmhhmdakilecoaa
