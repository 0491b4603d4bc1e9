/-
  No cell of these rows narrows 'for every input' (looked for: loops, veiled, ifaces, maps, wideKeys, modest, calm, conditions, laid).
  DERIVED. THE GIVEN ROWS OF THIS SEAT. 12 by the template 'for every input the law returns true; each argument reads behind the call as it read before'; 0 by the template 'total and deterministic' (their statements: YtpljkkcljhhpbaaTotals.lean).
  GIVEN WITH THE SEED: the statements are not yours to turn. If you find one false, say at which input.
  Laid BY PROGRAM, IN A SANDBOX (cutbox-rows.mjs): the forced cells as the released guide's own fill.sh prints them over the translation 72f4a533d3d7fcdb… (all of the seat's roots in one cut). By AI agents, Wed Nov 11 2026. No macro, syntax, notation, axiom, sorry.
-/
import Derived.Test.YtpljkkcljhhpbaaChecked
import GoSem.Claim
import GoSem.ClaimJoined
import GoSem.ClaimMapViews
import Derived.JoinedTies
import Derived.KernelRfl
namespace Go.Proofs.Ytpljkkcljhhpbaa
/- THE CELL 'sum', in the pinned program and in every row, IS THE sha256 OF THE DUMP (.gsa) THAT YtpljkkcljhhpbaaProg.lean LOADS. Nothing in Lean hashes anything: it is a label: what it is worth is what the hold of that sum in a sandbox is worth. -/
noncomputable def Try.pinned : Pinned := { name := "ytpljkkcljhhpbaa", sum := "72f4a533d3d7fcdb9874c747fefef8f3afb1b3e9de075e838699a12ddf585400", checked := Try.checked }
namespace Rows
def none {H : Type} : Left H := { results := [], args := [] }

/-- 'laws.FnExactCodeOf': WHATEVER THE INPUT: true; the input reads as it did. -/
def fnExactCodeOfSpec : ChangeSpec := { name := "fnExactCodeOf", fn := fun _ => fun
  | [d] => { results := [.lit (.bool true)], args := [d] }
  | _ => none }
def fnExactCodeOfRow : OpenClaim := { program := "ytpljkkcljhhpbaa", sum := "72f4a533d3d7fcdb9874c747fefef8f3afb1b3e9de075e838699a12ddf585400", func := "loop.example/stackwords/laws.FnExactCodeOf", spec := "fnExactCodeOf", recurses := true, apart := false }
def FnExactCodeOfSaid : Prop := fnExactCodeOfRow.holds Try.pinned (OpenSpec.ofChange fnExactCodeOfSpec)

/-- ITS FALSE NEIGHBOUR: 'it returns false'. Refute it at one input. -/
def fnExactCodeOfWrong : ChangeSpec := { name := "fnExactCodeOf", fn := fun _ => fun
  | [d] => { results := [.lit (.bool false)], args := [d] }
  | _ => none }
def FnExactCodeOfWrongFalsely : Prop := fnExactCodeOfRow.holds Try.pinned (OpenSpec.ofChange fnExactCodeOfWrong)

/-- 'laws.FnCodeOf': WHATEVER THE INPUT: true; the input reads as it did. -/
def fnCodeOfSpec : ChangeSpec := { name := "fnCodeOf", fn := fun _ => fun
  | [d] => { results := [.lit (.bool true)], args := [d] }
  | _ => none }
def fnCodeOfRow : OpenClaim := { program := "ytpljkkcljhhpbaa", sum := "72f4a533d3d7fcdb9874c747fefef8f3afb1b3e9de075e838699a12ddf585400", func := "loop.example/stackwords/laws.FnCodeOf", spec := "fnCodeOf", unfollowed := true, recurses := true, apart := false }
def FnCodeOfSaid : Prop := fnCodeOfRow.holds Try.pinned (OpenSpec.ofChange fnCodeOfSpec)

/-- ITS FALSE NEIGHBOUR: 'it returns false'. Refute it at one input. -/
def fnCodeOfWrong : ChangeSpec := { name := "fnCodeOf", fn := fun _ => fun
  | [d] => { results := [.lit (.bool false)], args := [d] }
  | _ => none }
def FnCodeOfWrongFalsely : Prop := fnCodeOfRow.holds Try.pinned (OpenSpec.ofChange fnCodeOfWrong)

/-- 'laws.FnExactTickRun': WHATEVER THE INPUT: true; the input reads as it did. -/
def fnExactTickRunSpec : ChangeSpec := { name := "fnExactTickRun", fn := fun _ => fun
  | [d] => { results := [.lit (.bool true)], args := [d] }
  | _ => none }
def fnExactTickRunRow : OpenClaim := { program := "ytpljkkcljhhpbaa", sum := "72f4a533d3d7fcdb9874c747fefef8f3afb1b3e9de075e838699a12ddf585400", func := "loop.example/stackwords/laws.FnExactTickRun", spec := "fnExactTickRun", unfollowed := true, recurses := true, apart := false }
def FnExactTickRunSaid : Prop := fnExactTickRunRow.holds Try.pinned (OpenSpec.ofChange fnExactTickRunSpec)

/-- ITS FALSE NEIGHBOUR: 'it returns false'. Refute it at one input. -/
def fnExactTickRunWrong : ChangeSpec := { name := "fnExactTickRun", fn := fun _ => fun
  | [d] => { results := [.lit (.bool false)], args := [d] }
  | _ => none }
def FnExactTickRunWrongFalsely : Prop := fnExactTickRunRow.holds Try.pinned (OpenSpec.ofChange fnExactTickRunWrong)

/-- 'laws.FnTickRun': WHATEVER THE INPUT: true; the input reads as it did. -/
def fnTickRunSpec : ChangeSpec := { name := "fnTickRun", fn := fun _ => fun
  | [d] => { results := [.lit (.bool true)], args := [d] }
  | _ => none }
def fnTickRunRow : OpenClaim := { program := "ytpljkkcljhhpbaa", sum := "72f4a533d3d7fcdb9874c747fefef8f3afb1b3e9de075e838699a12ddf585400", func := "loop.example/stackwords/laws.FnTickRun", spec := "fnTickRun", unfollowed := true, recurses := true, apart := false }
def FnTickRunSaid : Prop := fnTickRunRow.holds Try.pinned (OpenSpec.ofChange fnTickRunSpec)

/-- ITS FALSE NEIGHBOUR: 'it returns false'. Refute it at one input. -/
def fnTickRunWrong : ChangeSpec := { name := "fnTickRun", fn := fun _ => fun
  | [d] => { results := [.lit (.bool false)], args := [d] }
  | _ => none }
def FnTickRunWrongFalsely : Prop := fnTickRunRow.holds Try.pinned (OpenSpec.ofChange fnTickRunWrong)

/-- 'laws.FnExactValuesOf': WHATEVER THE INPUT: true; the input reads as it did. -/
def fnExactValuesOfSpec : ChangeSpec := { name := "fnExactValuesOf", fn := fun _ => fun
  | [d1, d2] => { results := [.lit (.bool true)], args := [d1, d2] }
  | _ => none }
def fnExactValuesOfRow : OpenClaim := { program := "ytpljkkcljhhpbaa", sum := "72f4a533d3d7fcdb9874c747fefef8f3afb1b3e9de075e838699a12ddf585400", func := "loop.example/stackwords/laws.FnExactValuesOf", spec := "fnExactValuesOf", recurses := true, apart := false }
def FnExactValuesOfSaid : Prop := fnExactValuesOfRow.holds Try.pinned (OpenSpec.ofChange fnExactValuesOfSpec)

/-- ITS FALSE NEIGHBOUR: 'it returns false'. Refute it at one input. -/
def fnExactValuesOfWrong : ChangeSpec := { name := "fnExactValuesOf", fn := fun _ => fun
  | [d1, d2] => { results := [.lit (.bool false)], args := [d1, d2] }
  | _ => none }
def FnExactValuesOfWrongFalsely : Prop := fnExactValuesOfRow.holds Try.pinned (OpenSpec.ofChange fnExactValuesOfWrong)

/-- 'laws.FnValuesOf': WHATEVER THE INPUT: true; the input reads as it did. -/
def fnValuesOfSpec : ChangeSpec := { name := "fnValuesOf", fn := fun _ => fun
  | [d] => { results := [.lit (.bool true)], args := [d] }
  | _ => none }
def fnValuesOfRow : OpenClaim := { program := "ytpljkkcljhhpbaa", sum := "72f4a533d3d7fcdb9874c747fefef8f3afb1b3e9de075e838699a12ddf585400", func := "loop.example/stackwords/laws.FnValuesOf", spec := "fnValuesOf", recurses := true, apart := false }
def FnValuesOfSaid : Prop := fnValuesOfRow.holds Try.pinned (OpenSpec.ofChange fnValuesOfSpec)

/-- ITS FALSE NEIGHBOUR: 'it returns false'. Refute it at one input. -/
def fnValuesOfWrong : ChangeSpec := { name := "fnValuesOf", fn := fun _ => fun
  | [d] => { results := [.lit (.bool false)], args := [d] }
  | _ => none }
def FnValuesOfWrongFalsely : Prop := fnValuesOfRow.holds Try.pinned (OpenSpec.ofChange fnValuesOfWrong)

/-- 'laws.FnStepOf': WHATEVER THE INPUT: true; the input reads as it did. -/
def fnStepOfSpec : ChangeSpec := { name := "fnStepOf", fn := fun _ => fun
  | [d] => { results := [.lit (.bool true)], args := [d] }
  | _ => none }
def fnStepOfRow : OpenClaim := { program := "ytpljkkcljhhpbaa", sum := "72f4a533d3d7fcdb9874c747fefef8f3afb1b3e9de075e838699a12ddf585400", func := "loop.example/stackwords/laws.FnStepOf", spec := "fnStepOf", unfollowed := true, recurses := true, apart := false }
def FnStepOfSaid : Prop := fnStepOfRow.holds Try.pinned (OpenSpec.ofChange fnStepOfSpec)

/-- ITS FALSE NEIGHBOUR: 'it returns false'. Refute it at one input. -/
def fnStepOfWrong : ChangeSpec := { name := "fnStepOf", fn := fun _ => fun
  | [d] => { results := [.lit (.bool false)], args := [d] }
  | _ => none }
def FnStepOfWrongFalsely : Prop := fnStepOfRow.holds Try.pinned (OpenSpec.ofChange fnStepOfWrong)

/-- 'laws.FnStateOk': WHATEVER THE INPUT: true; the input reads as it did. -/
def fnStateOkSpec : ChangeSpec := { name := "fnStateOk", fn := fun _ => fun
  | [d] => { results := [.lit (.bool true)], args := [d] }
  | _ => none }
def fnStateOkRow : OpenClaim := { program := "ytpljkkcljhhpbaa", sum := "72f4a533d3d7fcdb9874c747fefef8f3afb1b3e9de075e838699a12ddf585400", func := "loop.example/stackwords/laws.FnStateOk", spec := "fnStateOk", recurses := true, apart := false }
def FnStateOkSaid : Prop := fnStateOkRow.holds Try.pinned (OpenSpec.ofChange fnStateOkSpec)

/-- ITS FALSE NEIGHBOUR: 'it returns false'. Refute it at one input. -/
def fnStateOkWrong : ChangeSpec := { name := "fnStateOk", fn := fun _ => fun
  | [d] => { results := [.lit (.bool false)], args := [d] }
  | _ => none }
def FnStateOkWrongFalsely : Prop := fnStateOkRow.holds Try.pinned (OpenSpec.ofChange fnStateOkWrong)

/-- 'laws.FnRowOk': WHATEVER THE INPUT: true; the input reads as it did. -/
def fnRowOkSpec : ChangeSpec := { name := "fnRowOk", fn := fun _ => fun
  | [d] => { results := [.lit (.bool true)], args := [d] }
  | _ => none }
def fnRowOkRow : OpenClaim := { program := "ytpljkkcljhhpbaa", sum := "72f4a533d3d7fcdb9874c747fefef8f3afb1b3e9de075e838699a12ddf585400", func := "loop.example/stackwords/laws.FnRowOk", spec := "fnRowOk", recurses := true, apart := false }
def FnRowOkSaid : Prop := fnRowOkRow.holds Try.pinned (OpenSpec.ofChange fnRowOkSpec)

/-- ITS FALSE NEIGHBOUR: 'it returns false'. Refute it at one input. -/
def fnRowOkWrong : ChangeSpec := { name := "fnRowOk", fn := fun _ => fun
  | [d] => { results := [.lit (.bool false)], args := [d] }
  | _ => none }
def FnRowOkWrongFalsely : Prop := fnRowOkRow.holds Try.pinned (OpenSpec.ofChange fnRowOkWrong)

/-- 'laws.FnExactEffectOk': WHATEVER THE INPUT: true; the input reads as it did. -/
def fnExactEffectOkSpec : ChangeSpec := { name := "fnExactEffectOk", fn := fun _ => fun
  | [d] => { results := [.lit (.bool true)], args := [d] }
  | _ => none }
def fnExactEffectOkRow : OpenClaim := { program := "ytpljkkcljhhpbaa", sum := "72f4a533d3d7fcdb9874c747fefef8f3afb1b3e9de075e838699a12ddf585400", func := "loop.example/stackwords/laws.FnExactEffectOk", spec := "fnExactEffectOk", recurses := true, apart := false }
def FnExactEffectOkSaid : Prop := fnExactEffectOkRow.holds Try.pinned (OpenSpec.ofChange fnExactEffectOkSpec)

/-- ITS FALSE NEIGHBOUR: 'it returns false'. Refute it at one input. -/
def fnExactEffectOkWrong : ChangeSpec := { name := "fnExactEffectOk", fn := fun _ => fun
  | [d] => { results := [.lit (.bool false)], args := [d] }
  | _ => none }
def FnExactEffectOkWrongFalsely : Prop := fnExactEffectOkRow.holds Try.pinned (OpenSpec.ofChange fnExactEffectOkWrong)

/-- 'laws.FnEffectOk': WHATEVER THE INPUT: true; the input reads as it did. -/
def fnEffectOkSpec : ChangeSpec := { name := "fnEffectOk", fn := fun _ => fun
  | [d] => { results := [.lit (.bool true)], args := [d] }
  | _ => none }
def fnEffectOkRow : OpenClaim := { program := "ytpljkkcljhhpbaa", sum := "72f4a533d3d7fcdb9874c747fefef8f3afb1b3e9de075e838699a12ddf585400", func := "loop.example/stackwords/laws.FnEffectOk", spec := "fnEffectOk", recurses := true, apart := false }
def FnEffectOkSaid : Prop := fnEffectOkRow.holds Try.pinned (OpenSpec.ofChange fnEffectOkSpec)

/-- ITS FALSE NEIGHBOUR: 'it returns false'. Refute it at one input. -/
def fnEffectOkWrong : ChangeSpec := { name := "fnEffectOk", fn := fun _ => fun
  | [d] => { results := [.lit (.bool false)], args := [d] }
  | _ => none }
def FnEffectOkWrongFalsely : Prop := fnEffectOkRow.holds Try.pinned (OpenSpec.ofChange fnEffectOkWrong)

/-- 'laws.FnExactNeedsOf': WHATEVER THE INPUT: true; the input reads as it did. -/
def fnExactNeedsOfSpec : ChangeSpec := { name := "fnExactNeedsOf", fn := fun _ => fun
  | [d] => { results := [.lit (.bool true)], args := [d] }
  | _ => none }
def fnExactNeedsOfRow : OpenClaim := { program := "ytpljkkcljhhpbaa", sum := "72f4a533d3d7fcdb9874c747fefef8f3afb1b3e9de075e838699a12ddf585400", func := "loop.example/stackwords/laws.FnExactNeedsOf", spec := "fnExactNeedsOf", unfollowed := true, recurses := true, apart := false }
def FnExactNeedsOfSaid : Prop := fnExactNeedsOfRow.holds Try.pinned (OpenSpec.ofChange fnExactNeedsOfSpec)

/-- ITS FALSE NEIGHBOUR: 'it returns false'. Refute it at one input. -/
def fnExactNeedsOfWrong : ChangeSpec := { name := "fnExactNeedsOf", fn := fun _ => fun
  | [d] => { results := [.lit (.bool false)], args := [d] }
  | _ => none }
def FnExactNeedsOfWrongFalsely : Prop := fnExactNeedsOfRow.holds Try.pinned (OpenSpec.ofChange fnExactNeedsOfWrong)

/- THE SECOND FORM. 'bulk': how many values and letters a reading holds, each counted each time it is reached (what is shared counts as often as it is met; a slice's spare places count too). A statement '..UptoSaid' is the law's where the arguments, and the package variables that the reading takes, are together of bulk at most 1048576: NARROWER than '..Said'. Prove '..Said' where nothing that the law and all that it calls make is longer than what came in: it says more and counts as full. Else prove '..UptoSaid'. A law counts once. -/
mutual
def uptoBulk {H : Type} : DataW H → Nat
  | .lit (.string bytes) => bytes.length + 1
  | .lit _ => 1
  | .nil => 1
  | .ptr d => uptoBulk d + 1
  | .slice elems spare => uptoBulkAll elems + uptoBulkAll spare + 1
  | .agg parts => uptoBulkAll parts + 1
  | .iface _ d => uptoBulk d + 1
  | .map entries => uptoBulkEntries entries + 1
  | .held _ => 1
def uptoBulkAll {H : Type} : List (DataW H) → Nat
  | [] => 0
  | d :: r => uptoBulk d + uptoBulkAll r
def uptoBulkEntries {H : Type} : List (Lit × DataW H) → Nat
  | [] => 0
  | x :: r => uptoBulkEntry x + uptoBulkEntries r
def uptoBulkEntry {H : Type} : Lit × DataW H → Nat
  | (.string bytes, d) => bytes.length + uptoBulk d + 1
  | (_, d) => uptoBulk d + 1
 end
def uptoSmall : (H : Type) → List (DataW H) → Bool := fun _ ds => decide (uptoBulkAll ds ≤ 1048576)
def OpenSpec.upto (s : _root_.Go.ChangeSpec) : _root_.Go.OpenSpec := { _root_.Go.OpenSpec.ofChange s with cond := some uptoSmall }

/-- 'laws.FnExactCodeOf', WHERE WHAT IT READS IS OF BULK AT MOST 1048576: true; the input reads as it did. -/
def fnExactCodeOfUptoRow : OpenClaim := { program := "ytpljkkcljhhpbaa", sum := "72f4a533d3d7fcdb9874c747fefef8f3afb1b3e9de075e838699a12ddf585400", func := "loop.example/stackwords/laws.FnExactCodeOf", spec := "fnExactCodeOf", recurses := true, apart := false, narrowed := true }
def FnExactCodeOfUptoSaid : Prop := fnExactCodeOfUptoRow.holds Try.pinned (OpenSpec.upto fnExactCodeOfSpec)

/-- 'laws.FnCodeOf', WHERE WHAT IT READS IS OF BULK AT MOST 1048576: true; the input reads as it did. -/
def fnCodeOfUptoRow : OpenClaim := { program := "ytpljkkcljhhpbaa", sum := "72f4a533d3d7fcdb9874c747fefef8f3afb1b3e9de075e838699a12ddf585400", func := "loop.example/stackwords/laws.FnCodeOf", spec := "fnCodeOf", unfollowed := true, recurses := true, apart := false, narrowed := true }
def FnCodeOfUptoSaid : Prop := fnCodeOfUptoRow.holds Try.pinned (OpenSpec.upto fnCodeOfSpec)

/-- 'laws.FnExactTickRun', WHERE WHAT IT READS IS OF BULK AT MOST 1048576: true; the input reads as it did. -/
def fnExactTickRunUptoRow : OpenClaim := { program := "ytpljkkcljhhpbaa", sum := "72f4a533d3d7fcdb9874c747fefef8f3afb1b3e9de075e838699a12ddf585400", func := "loop.example/stackwords/laws.FnExactTickRun", spec := "fnExactTickRun", unfollowed := true, recurses := true, apart := false, narrowed := true }
def FnExactTickRunUptoSaid : Prop := fnExactTickRunUptoRow.holds Try.pinned (OpenSpec.upto fnExactTickRunSpec)

/-- 'laws.FnTickRun', WHERE WHAT IT READS IS OF BULK AT MOST 1048576: true; the input reads as it did. -/
def fnTickRunUptoRow : OpenClaim := { program := "ytpljkkcljhhpbaa", sum := "72f4a533d3d7fcdb9874c747fefef8f3afb1b3e9de075e838699a12ddf585400", func := "loop.example/stackwords/laws.FnTickRun", spec := "fnTickRun", unfollowed := true, recurses := true, apart := false, narrowed := true }
def FnTickRunUptoSaid : Prop := fnTickRunUptoRow.holds Try.pinned (OpenSpec.upto fnTickRunSpec)

/-- 'laws.FnExactValuesOf', WHERE WHAT IT READS IS OF BULK AT MOST 1048576: true; the input reads as it did. -/
def fnExactValuesOfUptoRow : OpenClaim := { program := "ytpljkkcljhhpbaa", sum := "72f4a533d3d7fcdb9874c747fefef8f3afb1b3e9de075e838699a12ddf585400", func := "loop.example/stackwords/laws.FnExactValuesOf", spec := "fnExactValuesOf", recurses := true, apart := false, narrowed := true }
def FnExactValuesOfUptoSaid : Prop := fnExactValuesOfUptoRow.holds Try.pinned (OpenSpec.upto fnExactValuesOfSpec)

/-- 'laws.FnValuesOf', WHERE WHAT IT READS IS OF BULK AT MOST 1048576: true; the input reads as it did. -/
def fnValuesOfUptoRow : OpenClaim := { program := "ytpljkkcljhhpbaa", sum := "72f4a533d3d7fcdb9874c747fefef8f3afb1b3e9de075e838699a12ddf585400", func := "loop.example/stackwords/laws.FnValuesOf", spec := "fnValuesOf", recurses := true, apart := false, narrowed := true }
def FnValuesOfUptoSaid : Prop := fnValuesOfUptoRow.holds Try.pinned (OpenSpec.upto fnValuesOfSpec)

/-- 'laws.FnStepOf', WHERE WHAT IT READS IS OF BULK AT MOST 1048576: true; the input reads as it did. -/
def fnStepOfUptoRow : OpenClaim := { program := "ytpljkkcljhhpbaa", sum := "72f4a533d3d7fcdb9874c747fefef8f3afb1b3e9de075e838699a12ddf585400", func := "loop.example/stackwords/laws.FnStepOf", spec := "fnStepOf", unfollowed := true, recurses := true, apart := false, narrowed := true }
def FnStepOfUptoSaid : Prop := fnStepOfUptoRow.holds Try.pinned (OpenSpec.upto fnStepOfSpec)

/-- 'laws.FnStateOk', WHERE WHAT IT READS IS OF BULK AT MOST 1048576: true; the input reads as it did. -/
def fnStateOkUptoRow : OpenClaim := { program := "ytpljkkcljhhpbaa", sum := "72f4a533d3d7fcdb9874c747fefef8f3afb1b3e9de075e838699a12ddf585400", func := "loop.example/stackwords/laws.FnStateOk", spec := "fnStateOk", recurses := true, apart := false, narrowed := true }
def FnStateOkUptoSaid : Prop := fnStateOkUptoRow.holds Try.pinned (OpenSpec.upto fnStateOkSpec)

/-- 'laws.FnRowOk', WHERE WHAT IT READS IS OF BULK AT MOST 1048576: true; the input reads as it did. -/
def fnRowOkUptoRow : OpenClaim := { program := "ytpljkkcljhhpbaa", sum := "72f4a533d3d7fcdb9874c747fefef8f3afb1b3e9de075e838699a12ddf585400", func := "loop.example/stackwords/laws.FnRowOk", spec := "fnRowOk", recurses := true, apart := false, narrowed := true }
def FnRowOkUptoSaid : Prop := fnRowOkUptoRow.holds Try.pinned (OpenSpec.upto fnRowOkSpec)

/-- 'laws.FnExactEffectOk', WHERE WHAT IT READS IS OF BULK AT MOST 1048576: true; the input reads as it did. -/
def fnExactEffectOkUptoRow : OpenClaim := { program := "ytpljkkcljhhpbaa", sum := "72f4a533d3d7fcdb9874c747fefef8f3afb1b3e9de075e838699a12ddf585400", func := "loop.example/stackwords/laws.FnExactEffectOk", spec := "fnExactEffectOk", recurses := true, apart := false, narrowed := true }
def FnExactEffectOkUptoSaid : Prop := fnExactEffectOkUptoRow.holds Try.pinned (OpenSpec.upto fnExactEffectOkSpec)

/-- 'laws.FnEffectOk', WHERE WHAT IT READS IS OF BULK AT MOST 1048576: true; the input reads as it did. -/
def fnEffectOkUptoRow : OpenClaim := { program := "ytpljkkcljhhpbaa", sum := "72f4a533d3d7fcdb9874c747fefef8f3afb1b3e9de075e838699a12ddf585400", func := "loop.example/stackwords/laws.FnEffectOk", spec := "fnEffectOk", recurses := true, apart := false, narrowed := true }
def FnEffectOkUptoSaid : Prop := fnEffectOkUptoRow.holds Try.pinned (OpenSpec.upto fnEffectOkSpec)

/-- 'laws.FnExactNeedsOf', WHERE WHAT IT READS IS OF BULK AT MOST 1048576: true; the input reads as it did. -/
def fnExactNeedsOfUptoRow : OpenClaim := { program := "ytpljkkcljhhpbaa", sum := "72f4a533d3d7fcdb9874c747fefef8f3afb1b3e9de075e838699a12ddf585400", func := "loop.example/stackwords/laws.FnExactNeedsOf", spec := "fnExactNeedsOf", unfollowed := true, recurses := true, apart := false, narrowed := true }
def FnExactNeedsOfUptoSaid : Prop := fnExactNeedsOfUptoRow.holds Try.pinned (OpenSpec.upto fnExactNeedsOfSpec)

end Rows
end Go.Proofs.Ytpljkkcljhhpbaa
