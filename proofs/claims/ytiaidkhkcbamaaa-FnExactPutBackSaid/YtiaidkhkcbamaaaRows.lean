/-
  No cell of these rows narrows 'for every input' (looked for: loops, veiled, ifaces, maps, wideKeys, modest, calm, conditions, laid).
  DERIVED. THE GIVEN ROWS OF THIS SEAT. 12 by the template 'for every input the law returns true; each argument reads behind the call as it read before'; 0 by the template 'total and deterministic' (their statements: YtiaidkhkcbamaaaTotals.lean).
  GIVEN WITH THE SEED: the statements are not yours to turn. If you find one false, say at which input.
  Laid BY PROGRAM, IN A SANDBOX (cutbox-rows.mjs): the forced cells as the released guide's own fill.sh prints them over the translation 67792ce98f2efdd3… (all of the seat's roots in one cut). By AI agents, Wed Nov 11 2026. No macro, syntax, notation, axiom, sorry.
-/
import Derived.Test.YtiaidkhkcbamaaaChecked
import GoSem.Claim
import GoSem.ClaimJoined
import GoSem.ClaimMapViews
import Derived.JoinedTies
import Derived.KernelRfl
namespace Go.Proofs.Ytiaidkhkcbamaaa
/- THE CELL 'sum', in the pinned program and in every row, IS THE sha256 OF THE DUMP (.gsa) THAT YtiaidkhkcbamaaaProg.lean LOADS. Nothing in Lean hashes anything: it is a label: what it is worth is what the hold of that sum in a sandbox is worth. -/
noncomputable def Try.pinned : Pinned := { name := "ytiaidkhkcbamaaa", sum := "67792ce98f2efdd36dfd331967c86528e9c2ed90cfe23c672b8cb2566e776cef", checked := Try.checked }
namespace Rows
def none {H : Type} : Left H := { results := [], args := [] }

/-- 'laws.FnDictValid': WHATEVER THE INPUT: true; the input reads as it did. -/
def fnDictValidSpec : ChangeSpec := { name := "fnDictValid", fn := fun _ => fun
  | [d] => { results := [.lit (.bool true)], args := [d] }
  | _ => none }
def fnDictValidRow : OpenClaim := { program := "ytiaidkhkcbamaaa", sum := "67792ce98f2efdd36dfd331967c86528e9c2ed90cfe23c672b8cb2566e776cef", func := "loop.example/stackwords/laws.FnDictValid", spec := "fnDictValid", unfollowed := true, recurses := true, apart := false }
def FnDictValidSaid : Prop := fnDictValidRow.holds Try.pinned (OpenSpec.ofChange fnDictValidSpec)

/-- ITS FALSE NEIGHBOUR: 'it returns false'. Refute it at one input. -/
def fnDictValidWrong : ChangeSpec := { name := "fnDictValid", fn := fun _ => fun
  | [d] => { results := [.lit (.bool false)], args := [d] }
  | _ => none }
def FnDictValidWrongFalsely : Prop := fnDictValidRow.holds Try.pinned (OpenSpec.ofChange fnDictValidWrong)

/-- 'laws.FnUsesOk': WHATEVER THE INPUT: true; the input reads as it did. -/
def fnUsesOkSpec : ChangeSpec := { name := "fnUsesOk", fn := fun _ => fun
  | [d] => { results := [.lit (.bool true)], args := [d] }
  | _ => none }
def fnUsesOkRow : OpenClaim := { program := "ytiaidkhkcbamaaa", sum := "67792ce98f2efdd36dfd331967c86528e9c2ed90cfe23c672b8cb2566e776cef", func := "loop.example/stackwords/laws.FnUsesOk", spec := "fnUsesOk", unfollowed := true, recurses := true, apart := false }
def FnUsesOkSaid : Prop := fnUsesOkRow.holds Try.pinned (OpenSpec.ofChange fnUsesOkSpec)

/-- ITS FALSE NEIGHBOUR: 'it returns false'. Refute it at one input. -/
def fnUsesOkWrong : ChangeSpec := { name := "fnUsesOk", fn := fun _ => fun
  | [d] => { results := [.lit (.bool false)], args := [d] }
  | _ => none }
def FnUsesOkWrongFalsely : Prop := fnUsesOkRow.holds Try.pinned (OpenSpec.ofChange fnUsesOkWrong)

/-- 'laws.FnMeansOf': WHATEVER THE INPUT: true; the input reads as it did. -/
def fnMeansOfSpec : ChangeSpec := { name := "fnMeansOf", fn := fun _ => fun
  | [d] => { results := [.lit (.bool true)], args := [d] }
  | _ => none }
def fnMeansOfRow : OpenClaim := { program := "ytiaidkhkcbamaaa", sum := "67792ce98f2efdd36dfd331967c86528e9c2ed90cfe23c672b8cb2566e776cef", func := "loop.example/stackwords/laws.FnMeansOf", spec := "fnMeansOf", unfollowed := true, recurses := true, apart := false }
def FnMeansOfSaid : Prop := fnMeansOfRow.holds Try.pinned (OpenSpec.ofChange fnMeansOfSpec)

/-- ITS FALSE NEIGHBOUR: 'it returns false'. Refute it at one input. -/
def fnMeansOfWrong : ChangeSpec := { name := "fnMeansOf", fn := fun _ => fun
  | [d] => { results := [.lit (.bool false)], args := [d] }
  | _ => none }
def FnMeansOfWrongFalsely : Prop := fnMeansOfRow.holds Try.pinned (OpenSpec.ofChange fnMeansOfWrong)

/-- 'laws.FnNamesOf': WHATEVER THE INPUT: true; the input reads as it did. -/
def fnNamesOfSpec : ChangeSpec := { name := "fnNamesOf", fn := fun _ => fun
  | [d] => { results := [.lit (.bool true)], args := [d] }
  | _ => none }
def fnNamesOfRow : OpenClaim := { program := "ytiaidkhkcbamaaa", sum := "67792ce98f2efdd36dfd331967c86528e9c2ed90cfe23c672b8cb2566e776cef", func := "loop.example/stackwords/laws.FnNamesOf", spec := "fnNamesOf", unfollowed := true, recurses := true, apart := false }
def FnNamesOfSaid : Prop := fnNamesOfRow.holds Try.pinned (OpenSpec.ofChange fnNamesOfSpec)

/-- ITS FALSE NEIGHBOUR: 'it returns false'. Refute it at one input. -/
def fnNamesOfWrong : ChangeSpec := { name := "fnNamesOf", fn := fun _ => fun
  | [d] => { results := [.lit (.bool false)], args := [d] }
  | _ => none }
def FnNamesOfWrongFalsely : Prop := fnNamesOfRow.holds Try.pinned (OpenSpec.ofChange fnNamesOfWrong)

/-- 'laws.FnTwiceOf': WHATEVER THE INPUT: true; the input reads as it did. -/
def fnTwiceOfSpec : ChangeSpec := { name := "fnTwiceOf", fn := fun _ => fun
  | [d] => { results := [.lit (.bool true)], args := [d] }
  | _ => none }
def fnTwiceOfRow : OpenClaim := { program := "ytiaidkhkcbamaaa", sum := "67792ce98f2efdd36dfd331967c86528e9c2ed90cfe23c672b8cb2566e776cef", func := "loop.example/stackwords/laws.FnTwiceOf", spec := "fnTwiceOf", unfollowed := true, recurses := true, apart := false }
def FnTwiceOfSaid : Prop := fnTwiceOfRow.holds Try.pinned (OpenSpec.ofChange fnTwiceOfSpec)

/-- ITS FALSE NEIGHBOUR: 'it returns false'. Refute it at one input. -/
def fnTwiceOfWrong : ChangeSpec := { name := "fnTwiceOf", fn := fun _ => fun
  | [d] => { results := [.lit (.bool false)], args := [d] }
  | _ => none }
def FnTwiceOfWrongFalsely : Prop := fnTwiceOfRow.holds Try.pinned (OpenSpec.ofChange fnTwiceOfWrong)

/-- 'laws.FnExactDictValid': WHATEVER THE INPUT: true; the input reads as it did. -/
def fnExactDictValidSpec : ChangeSpec := { name := "fnExactDictValid", fn := fun _ => fun
  | [d] => { results := [.lit (.bool true)], args := [d] }
  | _ => none }
def fnExactDictValidRow : OpenClaim := { program := "ytiaidkhkcbamaaa", sum := "67792ce98f2efdd36dfd331967c86528e9c2ed90cfe23c672b8cb2566e776cef", func := "loop.example/stackwords/laws.FnExactDictValid", spec := "fnExactDictValid", unfollowed := true, recurses := true, apart := false }
def FnExactDictValidSaid : Prop := fnExactDictValidRow.holds Try.pinned (OpenSpec.ofChange fnExactDictValidSpec)

/-- ITS FALSE NEIGHBOUR: 'it returns false'. Refute it at one input. -/
def fnExactDictValidWrong : ChangeSpec := { name := "fnExactDictValid", fn := fun _ => fun
  | [d] => { results := [.lit (.bool false)], args := [d] }
  | _ => none }
def FnExactDictValidWrongFalsely : Prop := fnExactDictValidRow.holds Try.pinned (OpenSpec.ofChange fnExactDictValidWrong)

/-- 'laws.FnExactUsesOk': WHATEVER THE INPUT: true; the input reads as it did. -/
def fnExactUsesOkSpec : ChangeSpec := { name := "fnExactUsesOk", fn := fun _ => fun
  | [d1, d2] => { results := [.lit (.bool true)], args := [d1, d2] }
  | _ => none }
def fnExactUsesOkRow : OpenClaim := { program := "ytiaidkhkcbamaaa", sum := "67792ce98f2efdd36dfd331967c86528e9c2ed90cfe23c672b8cb2566e776cef", func := "loop.example/stackwords/laws.FnExactUsesOk", spec := "fnExactUsesOk", unfollowed := true, recurses := true, apart := false }
def FnExactUsesOkSaid : Prop := fnExactUsesOkRow.holds Try.pinned (OpenSpec.ofChange fnExactUsesOkSpec)

/-- ITS FALSE NEIGHBOUR: 'it returns false'. Refute it at one input. -/
def fnExactUsesOkWrong : ChangeSpec := { name := "fnExactUsesOk", fn := fun _ => fun
  | [d1, d2] => { results := [.lit (.bool false)], args := [d1, d2] }
  | _ => none }
def FnExactUsesOkWrongFalsely : Prop := fnExactUsesOkRow.holds Try.pinned (OpenSpec.ofChange fnExactUsesOkWrong)

/-- 'laws.FnExactMeansOf': WHATEVER THE INPUT: true; the input reads as it did. -/
def fnExactMeansOfSpec : ChangeSpec := { name := "fnExactMeansOf", fn := fun _ => fun
  | [d1, d2] => { results := [.lit (.bool true)], args := [d1, d2] }
  | _ => none }
def fnExactMeansOfRow : OpenClaim := { program := "ytiaidkhkcbamaaa", sum := "67792ce98f2efdd36dfd331967c86528e9c2ed90cfe23c672b8cb2566e776cef", func := "loop.example/stackwords/laws.FnExactMeansOf", spec := "fnExactMeansOf", unfollowed := true, recurses := true, apart := false }
def FnExactMeansOfSaid : Prop := fnExactMeansOfRow.holds Try.pinned (OpenSpec.ofChange fnExactMeansOfSpec)

/-- ITS FALSE NEIGHBOUR: 'it returns false'. Refute it at one input. -/
def fnExactMeansOfWrong : ChangeSpec := { name := "fnExactMeansOf", fn := fun _ => fun
  | [d1, d2] => { results := [.lit (.bool false)], args := [d1, d2] }
  | _ => none }
def FnExactMeansOfWrongFalsely : Prop := fnExactMeansOfRow.holds Try.pinned (OpenSpec.ofChange fnExactMeansOfWrong)

/-- 'laws.FnExactNamesOf': WHATEVER THE INPUT: true; the input reads as it did. -/
def fnExactNamesOfSpec : ChangeSpec := { name := "fnExactNamesOf", fn := fun _ => fun
  | [d1, d2] => { results := [.lit (.bool true)], args := [d1, d2] }
  | _ => none }
def fnExactNamesOfRow : OpenClaim := { program := "ytiaidkhkcbamaaa", sum := "67792ce98f2efdd36dfd331967c86528e9c2ed90cfe23c672b8cb2566e776cef", func := "loop.example/stackwords/laws.FnExactNamesOf", spec := "fnExactNamesOf", unfollowed := true, recurses := true, apart := false }
def FnExactNamesOfSaid : Prop := fnExactNamesOfRow.holds Try.pinned (OpenSpec.ofChange fnExactNamesOfSpec)

/-- ITS FALSE NEIGHBOUR: 'it returns false'. Refute it at one input. -/
def fnExactNamesOfWrong : ChangeSpec := { name := "fnExactNamesOf", fn := fun _ => fun
  | [d1, d2] => { results := [.lit (.bool false)], args := [d1, d2] }
  | _ => none }
def FnExactNamesOfWrongFalsely : Prop := fnExactNamesOfRow.holds Try.pinned (OpenSpec.ofChange fnExactNamesOfWrong)

/-- 'laws.FnExactTwiceOf': WHATEVER THE INPUT: true; the input reads as it did. -/
def fnExactTwiceOfSpec : ChangeSpec := { name := "fnExactTwiceOf", fn := fun _ => fun
  | [d1, d2] => { results := [.lit (.bool true)], args := [d1, d2] }
  | _ => none }
def fnExactTwiceOfRow : OpenClaim := { program := "ytiaidkhkcbamaaa", sum := "67792ce98f2efdd36dfd331967c86528e9c2ed90cfe23c672b8cb2566e776cef", func := "loop.example/stackwords/laws.FnExactTwiceOf", spec := "fnExactTwiceOf", unfollowed := true, recurses := true, apart := false }
def FnExactTwiceOfSaid : Prop := fnExactTwiceOfRow.holds Try.pinned (OpenSpec.ofChange fnExactTwiceOfSpec)

/-- ITS FALSE NEIGHBOUR: 'it returns false'. Refute it at one input. -/
def fnExactTwiceOfWrong : ChangeSpec := { name := "fnExactTwiceOf", fn := fun _ => fun
  | [d1, d2] => { results := [.lit (.bool false)], args := [d1, d2] }
  | _ => none }
def FnExactTwiceOfWrongFalsely : Prop := fnExactTwiceOfRow.holds Try.pinned (OpenSpec.ofChange fnExactTwiceOfWrong)

/-- 'laws.FnExactGiveName': WHATEVER THE INPUT: true; the input reads as it did. -/
def fnExactGiveNameSpec : ChangeSpec := { name := "fnExactGiveName", fn := fun _ => fun
  | [d1, d2] => { results := [.lit (.bool true)], args := [d1, d2] }
  | _ => none }
def fnExactGiveNameRow : OpenClaim := { program := "ytiaidkhkcbamaaa", sum := "67792ce98f2efdd36dfd331967c86528e9c2ed90cfe23c672b8cb2566e776cef", func := "loop.example/stackwords/laws.FnExactGiveName", spec := "fnExactGiveName", unfollowed := true, recurses := true, apart := false }
def FnExactGiveNameSaid : Prop := fnExactGiveNameRow.holds Try.pinned (OpenSpec.ofChange fnExactGiveNameSpec)

/-- ITS FALSE NEIGHBOUR: 'it returns false'. Refute it at one input. -/
def fnExactGiveNameWrong : ChangeSpec := { name := "fnExactGiveName", fn := fun _ => fun
  | [d1, d2] => { results := [.lit (.bool false)], args := [d1, d2] }
  | _ => none }
def FnExactGiveNameWrongFalsely : Prop := fnExactGiveNameRow.holds Try.pinned (OpenSpec.ofChange fnExactGiveNameWrong)

/-- 'laws.FnExactPutBack': WHATEVER THE INPUT: true; the input reads as it did. -/
def fnExactPutBackSpec : ChangeSpec := { name := "fnExactPutBack", fn := fun _ => fun
  | [d1, d2] => { results := [.lit (.bool true)], args := [d1, d2] }
  | _ => none }
def fnExactPutBackRow : OpenClaim := { program := "ytiaidkhkcbamaaa", sum := "67792ce98f2efdd36dfd331967c86528e9c2ed90cfe23c672b8cb2566e776cef", func := "loop.example/stackwords/laws.FnExactPutBack", spec := "fnExactPutBack", unfollowed := true, recurses := true, apart := false }
def FnExactPutBackSaid : Prop := fnExactPutBackRow.holds Try.pinned (OpenSpec.ofChange fnExactPutBackSpec)

/-- ITS FALSE NEIGHBOUR: 'it returns false'. Refute it at one input. -/
def fnExactPutBackWrong : ChangeSpec := { name := "fnExactPutBack", fn := fun _ => fun
  | [d1, d2] => { results := [.lit (.bool false)], args := [d1, d2] }
  | _ => none }
def FnExactPutBackWrongFalsely : Prop := fnExactPutBackRow.holds Try.pinned (OpenSpec.ofChange fnExactPutBackWrong)

/- THE SECOND FORM. 'bulk': how many values and letters a reading holds, each counted each time it is reached (what is shared counts as often as it is met; a slice's spare places count too). A statement '..UptoSaid' is the law's where the arguments, and the package variables that the reading takes, are together of bulk at most 1048576: NARROWER than '..Said'. Prove '..Said' where nothing that the law and all that it calls make is longer than what came in: it says more and counts as full. Else prove '..UptoSaid'. A law counts once. -/
mutual
def uptoBulk {H : Type} : DataW H → Nat
  | .lit (.string bytes) => bytes.length + 1
  | .lit _ => 1
  | .nil => 1
  | .ptr d => uptoBulk d + 1
  | .slice elems spare => uptoBulkAll elems + uptoBulkAll spare + 1
  | .agg parts => uptoBulkAll parts + 1
  | .iface _ d => uptoBulk d + 1
  | .map entries => uptoBulkEntries entries + 1
  | .held _ => 1
def uptoBulkAll {H : Type} : List (DataW H) → Nat
  | [] => 0
  | d :: r => uptoBulk d + uptoBulkAll r
def uptoBulkEntries {H : Type} : List (Lit × DataW H) → Nat
  | [] => 0
  | x :: r => uptoBulkEntry x + uptoBulkEntries r
def uptoBulkEntry {H : Type} : Lit × DataW H → Nat
  | (.string bytes, d) => bytes.length + uptoBulk d + 1
  | (_, d) => uptoBulk d + 1
 end
def uptoSmall : (H : Type) → List (DataW H) → Bool := fun _ ds => decide (uptoBulkAll ds ≤ 1048576)
def OpenSpec.upto (s : _root_.Go.ChangeSpec) : _root_.Go.OpenSpec := { _root_.Go.OpenSpec.ofChange s with cond := some uptoSmall }

/-- 'laws.FnDictValid', WHERE WHAT IT READS IS OF BULK AT MOST 1048576: true; the input reads as it did. -/
def fnDictValidUptoRow : OpenClaim := { program := "ytiaidkhkcbamaaa", sum := "67792ce98f2efdd36dfd331967c86528e9c2ed90cfe23c672b8cb2566e776cef", func := "loop.example/stackwords/laws.FnDictValid", spec := "fnDictValid", unfollowed := true, recurses := true, apart := false, narrowed := true }
def FnDictValidUptoSaid : Prop := fnDictValidUptoRow.holds Try.pinned (OpenSpec.upto fnDictValidSpec)

/-- 'laws.FnUsesOk', WHERE WHAT IT READS IS OF BULK AT MOST 1048576: true; the input reads as it did. -/
def fnUsesOkUptoRow : OpenClaim := { program := "ytiaidkhkcbamaaa", sum := "67792ce98f2efdd36dfd331967c86528e9c2ed90cfe23c672b8cb2566e776cef", func := "loop.example/stackwords/laws.FnUsesOk", spec := "fnUsesOk", unfollowed := true, recurses := true, apart := false, narrowed := true }
def FnUsesOkUptoSaid : Prop := fnUsesOkUptoRow.holds Try.pinned (OpenSpec.upto fnUsesOkSpec)

/-- 'laws.FnMeansOf', WHERE WHAT IT READS IS OF BULK AT MOST 1048576: true; the input reads as it did. -/
def fnMeansOfUptoRow : OpenClaim := { program := "ytiaidkhkcbamaaa", sum := "67792ce98f2efdd36dfd331967c86528e9c2ed90cfe23c672b8cb2566e776cef", func := "loop.example/stackwords/laws.FnMeansOf", spec := "fnMeansOf", unfollowed := true, recurses := true, apart := false, narrowed := true }
def FnMeansOfUptoSaid : Prop := fnMeansOfUptoRow.holds Try.pinned (OpenSpec.upto fnMeansOfSpec)

/-- 'laws.FnNamesOf', WHERE WHAT IT READS IS OF BULK AT MOST 1048576: true; the input reads as it did. -/
def fnNamesOfUptoRow : OpenClaim := { program := "ytiaidkhkcbamaaa", sum := "67792ce98f2efdd36dfd331967c86528e9c2ed90cfe23c672b8cb2566e776cef", func := "loop.example/stackwords/laws.FnNamesOf", spec := "fnNamesOf", unfollowed := true, recurses := true, apart := false, narrowed := true }
def FnNamesOfUptoSaid : Prop := fnNamesOfUptoRow.holds Try.pinned (OpenSpec.upto fnNamesOfSpec)

/-- 'laws.FnTwiceOf', WHERE WHAT IT READS IS OF BULK AT MOST 1048576: true; the input reads as it did. -/
def fnTwiceOfUptoRow : OpenClaim := { program := "ytiaidkhkcbamaaa", sum := "67792ce98f2efdd36dfd331967c86528e9c2ed90cfe23c672b8cb2566e776cef", func := "loop.example/stackwords/laws.FnTwiceOf", spec := "fnTwiceOf", unfollowed := true, recurses := true, apart := false, narrowed := true }
def FnTwiceOfUptoSaid : Prop := fnTwiceOfUptoRow.holds Try.pinned (OpenSpec.upto fnTwiceOfSpec)

/-- 'laws.FnExactDictValid', WHERE WHAT IT READS IS OF BULK AT MOST 1048576: true; the input reads as it did. -/
def fnExactDictValidUptoRow : OpenClaim := { program := "ytiaidkhkcbamaaa", sum := "67792ce98f2efdd36dfd331967c86528e9c2ed90cfe23c672b8cb2566e776cef", func := "loop.example/stackwords/laws.FnExactDictValid", spec := "fnExactDictValid", unfollowed := true, recurses := true, apart := false, narrowed := true }
def FnExactDictValidUptoSaid : Prop := fnExactDictValidUptoRow.holds Try.pinned (OpenSpec.upto fnExactDictValidSpec)

/-- 'laws.FnExactUsesOk', WHERE WHAT IT READS IS OF BULK AT MOST 1048576: true; the input reads as it did. -/
def fnExactUsesOkUptoRow : OpenClaim := { program := "ytiaidkhkcbamaaa", sum := "67792ce98f2efdd36dfd331967c86528e9c2ed90cfe23c672b8cb2566e776cef", func := "loop.example/stackwords/laws.FnExactUsesOk", spec := "fnExactUsesOk", unfollowed := true, recurses := true, apart := false, narrowed := true }
def FnExactUsesOkUptoSaid : Prop := fnExactUsesOkUptoRow.holds Try.pinned (OpenSpec.upto fnExactUsesOkSpec)

/-- 'laws.FnExactMeansOf', WHERE WHAT IT READS IS OF BULK AT MOST 1048576: true; the input reads as it did. -/
def fnExactMeansOfUptoRow : OpenClaim := { program := "ytiaidkhkcbamaaa", sum := "67792ce98f2efdd36dfd331967c86528e9c2ed90cfe23c672b8cb2566e776cef", func := "loop.example/stackwords/laws.FnExactMeansOf", spec := "fnExactMeansOf", unfollowed := true, recurses := true, apart := false, narrowed := true }
def FnExactMeansOfUptoSaid : Prop := fnExactMeansOfUptoRow.holds Try.pinned (OpenSpec.upto fnExactMeansOfSpec)

/-- 'laws.FnExactNamesOf', WHERE WHAT IT READS IS OF BULK AT MOST 1048576: true; the input reads as it did. -/
def fnExactNamesOfUptoRow : OpenClaim := { program := "ytiaidkhkcbamaaa", sum := "67792ce98f2efdd36dfd331967c86528e9c2ed90cfe23c672b8cb2566e776cef", func := "loop.example/stackwords/laws.FnExactNamesOf", spec := "fnExactNamesOf", unfollowed := true, recurses := true, apart := false, narrowed := true }
def FnExactNamesOfUptoSaid : Prop := fnExactNamesOfUptoRow.holds Try.pinned (OpenSpec.upto fnExactNamesOfSpec)

/-- 'laws.FnExactTwiceOf', WHERE WHAT IT READS IS OF BULK AT MOST 1048576: true; the input reads as it did. -/
def fnExactTwiceOfUptoRow : OpenClaim := { program := "ytiaidkhkcbamaaa", sum := "67792ce98f2efdd36dfd331967c86528e9c2ed90cfe23c672b8cb2566e776cef", func := "loop.example/stackwords/laws.FnExactTwiceOf", spec := "fnExactTwiceOf", unfollowed := true, recurses := true, apart := false, narrowed := true }
def FnExactTwiceOfUptoSaid : Prop := fnExactTwiceOfUptoRow.holds Try.pinned (OpenSpec.upto fnExactTwiceOfSpec)

/-- 'laws.FnExactGiveName', WHERE WHAT IT READS IS OF BULK AT MOST 1048576: true; the input reads as it did. -/
def fnExactGiveNameUptoRow : OpenClaim := { program := "ytiaidkhkcbamaaa", sum := "67792ce98f2efdd36dfd331967c86528e9c2ed90cfe23c672b8cb2566e776cef", func := "loop.example/stackwords/laws.FnExactGiveName", spec := "fnExactGiveName", unfollowed := true, recurses := true, apart := false, narrowed := true }
def FnExactGiveNameUptoSaid : Prop := fnExactGiveNameUptoRow.holds Try.pinned (OpenSpec.upto fnExactGiveNameSpec)

/-- 'laws.FnExactPutBack', WHERE WHAT IT READS IS OF BULK AT MOST 1048576: true; the input reads as it did. -/
def fnExactPutBackUptoRow : OpenClaim := { program := "ytiaidkhkcbamaaa", sum := "67792ce98f2efdd36dfd331967c86528e9c2ed90cfe23c672b8cb2566e776cef", func := "loop.example/stackwords/laws.FnExactPutBack", spec := "fnExactPutBack", unfollowed := true, recurses := true, apart := false, narrowed := true }
def FnExactPutBackUptoSaid : Prop := fnExactPutBackUptoRow.holds Try.pinned (OpenSpec.upto fnExactPutBackSpec)

end Rows
end Go.Proofs.Ytiaidkhkcbamaaa
