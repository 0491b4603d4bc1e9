/-
  No cell of these rows narrows 'for every input' (looked for: loops, veiled, ifaces, maps, wideKeys, modest, calm, conditions, laid).
  DERIVED. THE GIVEN ROWS OF THIS SEAT. 4 by the template 'for every input the law returns true; each argument reads behind the call as it read before'; 0 by the template 'total and deterministic' (their statements: YtceekfoacgoalaaTotals.lean).
  GIVEN WITH THE SEED: the statements are not yours to turn. If you find one false, say at which input.
  Laid BY PROGRAM, IN A SANDBOX (cutbox-rows.mjs): the forced cells as the released guide's own fill.sh prints them over the translation 2d5922725d53fa9c… (all of the seat's roots in one cut). By AI agents, Wed Nov 11 2026. No macro, syntax, notation, axiom, sorry.
-/
import Derived.Test.YtceekfoacgoalaaChecked
import GoSem.Claim
import GoSem.ClaimJoined
import GoSem.ClaimMapViews
import Derived.JoinedTies
import Derived.KernelRfl
namespace Go.Proofs.Ytceekfoacgoalaa
/- THE CELL 'sum', in the pinned program and in every row, IS THE sha256 OF THE DUMP (.gsa) THAT YtceekfoacgoalaaProg.lean LOADS. Nothing in Lean hashes anything: it is a label: what it is worth is what the hold of that sum in a sandbox is worth. -/
noncomputable def Try.pinned : Pinned := { name := "ytceekfoacgoalaa", sum := "2d5922725d53fa9ce71cead1de20660beadfec8771afee58232398ad3aacfadd", checked := Try.checked }
namespace Rows
def none {H : Type} : Left H := { results := [], args := [] }

/-- 'laws.FnEffectOk': WHATEVER THE INPUT: true; the input reads as it did. -/
def fnEffectOkSpec : ChangeSpec := { name := "fnEffectOk", fn := fun _ => fun
  | [d] => { results := [.lit (.bool true)], args := [d] }
  | _ => none }
def fnEffectOkRow : OpenClaim := { program := "ytceekfoacgoalaa", sum := "2d5922725d53fa9ce71cead1de20660beadfec8771afee58232398ad3aacfadd", func := "loop.example/stackwords/laws.FnEffectOk", spec := "fnEffectOk", recurses := true, apart := false }
def FnEffectOkSaid : Prop := fnEffectOkRow.holds Try.pinned (OpenSpec.ofChange fnEffectOkSpec)

/-- ITS FALSE NEIGHBOUR: 'it returns false'. Refute it at one input. -/
def fnEffectOkWrong : ChangeSpec := { name := "fnEffectOk", fn := fun _ => fun
  | [d] => { results := [.lit (.bool false)], args := [d] }
  | _ => none }
def FnEffectOkWrongFalsely : Prop := fnEffectOkRow.holds Try.pinned (OpenSpec.ofChange fnEffectOkWrong)

/-- 'laws.FnNeedsOf': WHATEVER THE INPUT: true; the input reads as it did. -/
def fnNeedsOfSpec : ChangeSpec := { name := "fnNeedsOf", fn := fun _ => fun
  | [d] => { results := [.lit (.bool true)], args := [d] }
  | _ => none }
def fnNeedsOfRow : OpenClaim := { program := "ytceekfoacgoalaa", sum := "2d5922725d53fa9ce71cead1de20660beadfec8771afee58232398ad3aacfadd", func := "loop.example/stackwords/laws.FnNeedsOf", spec := "fnNeedsOf", unfollowed := true, recurses := true, apart := false }
def FnNeedsOfSaid : Prop := fnNeedsOfRow.holds Try.pinned (OpenSpec.ofChange fnNeedsOfSpec)

/-- ITS FALSE NEIGHBOUR: 'it returns false'. Refute it at one input. -/
def fnNeedsOfWrong : ChangeSpec := { name := "fnNeedsOf", fn := fun _ => fun
  | [d] => { results := [.lit (.bool false)], args := [d] }
  | _ => none }
def FnNeedsOfWrongFalsely : Prop := fnNeedsOfRow.holds Try.pinned (OpenSpec.ofChange fnNeedsOfWrong)

/-- 'laws.FnExactMoreGeneral': WHATEVER THE INPUT: true; the input reads as it did. -/
def fnExactMoreGeneralSpec : ChangeSpec := { name := "fnExactMoreGeneral", fn := fun _ => fun
  | [d1, d2] => { results := [.lit (.bool true)], args := [d1, d2] }
  | _ => none }
def fnExactMoreGeneralRow : OpenClaim := { program := "ytceekfoacgoalaa", sum := "2d5922725d53fa9ce71cead1de20660beadfec8771afee58232398ad3aacfadd", func := "loop.example/stackwords/laws.FnExactMoreGeneral", spec := "fnExactMoreGeneral", unfollowed := true, recurses := true, apart := false }
def FnExactMoreGeneralSaid : Prop := fnExactMoreGeneralRow.holds Try.pinned (OpenSpec.ofChange fnExactMoreGeneralSpec)

/-- ITS FALSE NEIGHBOUR: 'it returns false'. Refute it at one input. -/
def fnExactMoreGeneralWrong : ChangeSpec := { name := "fnExactMoreGeneral", fn := fun _ => fun
  | [d1, d2] => { results := [.lit (.bool false)], args := [d1, d2] }
  | _ => none }
def FnExactMoreGeneralWrongFalsely : Prop := fnExactMoreGeneralRow.holds Try.pinned (OpenSpec.ofChange fnExactMoreGeneralWrong)

/-- 'laws.FnMoreGeneral': WHATEVER THE INPUT: true; the input reads as it did. -/
def fnMoreGeneralSpec : ChangeSpec := { name := "fnMoreGeneral", fn := fun _ => fun
  | [d1, d2] => { results := [.lit (.bool true)], args := [d1, d2] }
  | _ => none }
def fnMoreGeneralRow : OpenClaim := { program := "ytceekfoacgoalaa", sum := "2d5922725d53fa9ce71cead1de20660beadfec8771afee58232398ad3aacfadd", func := "loop.example/stackwords/laws.FnMoreGeneral", spec := "fnMoreGeneral", unfollowed := true, recurses := true, apart := false }
def FnMoreGeneralSaid : Prop := fnMoreGeneralRow.holds Try.pinned (OpenSpec.ofChange fnMoreGeneralSpec)

/-- ITS FALSE NEIGHBOUR: 'it returns false'. Refute it at one input. -/
def fnMoreGeneralWrong : ChangeSpec := { name := "fnMoreGeneral", fn := fun _ => fun
  | [d1, d2] => { results := [.lit (.bool false)], args := [d1, d2] }
  | _ => none }
def FnMoreGeneralWrongFalsely : Prop := fnMoreGeneralRow.holds Try.pinned (OpenSpec.ofChange fnMoreGeneralWrong)

/- THE SECOND FORM. 'bulk': how many values and letters a reading holds, each counted each time it is reached (what is shared counts as often as it is met; a slice's spare places count too). A statement '..UptoSaid' is the law's where the arguments, and the package variables that the reading takes, are together of bulk at most 1048576: NARROWER than '..Said'. Prove '..Said' where nothing that the law and all that it calls make is longer than what came in: it says more and counts as full. Else prove '..UptoSaid'. A law counts once. -/
mutual
def uptoBulk {H : Type} : DataW H → Nat
  | .lit (.string bytes) => bytes.length + 1
  | .lit _ => 1
  | .nil => 1
  | .ptr d => uptoBulk d + 1
  | .slice elems spare => uptoBulkAll elems + uptoBulkAll spare + 1
  | .agg parts => uptoBulkAll parts + 1
  | .iface _ d => uptoBulk d + 1
  | .map entries => uptoBulkEntries entries + 1
  | .held _ => 1
def uptoBulkAll {H : Type} : List (DataW H) → Nat
  | [] => 0
  | d :: r => uptoBulk d + uptoBulkAll r
def uptoBulkEntries {H : Type} : List (Lit × DataW H) → Nat
  | [] => 0
  | x :: r => uptoBulkEntry x + uptoBulkEntries r
def uptoBulkEntry {H : Type} : Lit × DataW H → Nat
  | (.string bytes, d) => bytes.length + uptoBulk d + 1
  | (_, d) => uptoBulk d + 1
 end
def uptoSmall : (H : Type) → List (DataW H) → Bool := fun _ ds => decide (uptoBulkAll ds ≤ 1048576)
def OpenSpec.upto (s : _root_.Go.ChangeSpec) : _root_.Go.OpenSpec := { _root_.Go.OpenSpec.ofChange s with cond := some uptoSmall }

/-- 'laws.FnEffectOk', WHERE WHAT IT READS IS OF BULK AT MOST 1048576: true; the input reads as it did. -/
def fnEffectOkUptoRow : OpenClaim := { program := "ytceekfoacgoalaa", sum := "2d5922725d53fa9ce71cead1de20660beadfec8771afee58232398ad3aacfadd", func := "loop.example/stackwords/laws.FnEffectOk", spec := "fnEffectOk", recurses := true, apart := false, narrowed := true }
def FnEffectOkUptoSaid : Prop := fnEffectOkUptoRow.holds Try.pinned (OpenSpec.upto fnEffectOkSpec)

/-- 'laws.FnNeedsOf', WHERE WHAT IT READS IS OF BULK AT MOST 1048576: true; the input reads as it did. -/
def fnNeedsOfUptoRow : OpenClaim := { program := "ytceekfoacgoalaa", sum := "2d5922725d53fa9ce71cead1de20660beadfec8771afee58232398ad3aacfadd", func := "loop.example/stackwords/laws.FnNeedsOf", spec := "fnNeedsOf", unfollowed := true, recurses := true, apart := false, narrowed := true }
def FnNeedsOfUptoSaid : Prop := fnNeedsOfUptoRow.holds Try.pinned (OpenSpec.upto fnNeedsOfSpec)

/-- 'laws.FnExactMoreGeneral', WHERE WHAT IT READS IS OF BULK AT MOST 1048576: true; the input reads as it did. -/
def fnExactMoreGeneralUptoRow : OpenClaim := { program := "ytceekfoacgoalaa", sum := "2d5922725d53fa9ce71cead1de20660beadfec8771afee58232398ad3aacfadd", func := "loop.example/stackwords/laws.FnExactMoreGeneral", spec := "fnExactMoreGeneral", unfollowed := true, recurses := true, apart := false, narrowed := true }
def FnExactMoreGeneralUptoSaid : Prop := fnExactMoreGeneralUptoRow.holds Try.pinned (OpenSpec.upto fnExactMoreGeneralSpec)

/-- 'laws.FnMoreGeneral', WHERE WHAT IT READS IS OF BULK AT MOST 1048576: true; the input reads as it did. -/
def fnMoreGeneralUptoRow : OpenClaim := { program := "ytceekfoacgoalaa", sum := "2d5922725d53fa9ce71cead1de20660beadfec8771afee58232398ad3aacfadd", func := "loop.example/stackwords/laws.FnMoreGeneral", spec := "fnMoreGeneral", unfollowed := true, recurses := true, apart := false, narrowed := true }
def FnMoreGeneralUptoSaid : Prop := fnMoreGeneralUptoRow.holds Try.pinned (OpenSpec.upto fnMoreGeneralSpec)

end Rows
end Go.Proofs.Ytceekfoacgoalaa
