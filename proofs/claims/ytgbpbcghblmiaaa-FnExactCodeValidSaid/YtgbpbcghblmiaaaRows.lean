/-
  No cell of these rows narrows 'for every input' (looked for: loops, veiled, ifaces, maps, wideKeys, modest, calm, conditions, laid).
  DERIVED. THE GIVEN ROWS OF THIS SEAT. 4 by the template 'for every input the law returns true; each argument reads behind the call as it read before'; 0 by the template 'total and deterministic' (their statements: YtgbpbcghblmiaaaTotals.lean).
  GIVEN WITH THE SEED: the statements are not yours to turn. If you find one false, say at which input.
  Laid BY PROGRAM, IN A SANDBOX (cutbox-rows.mjs): the forced cells as the released guide's own fill.sh prints them over the translation ff6ee554b4c6e07f… (all of the seat's roots in one cut). By AI agents, Wed Nov 11 2026. No macro, syntax, notation, axiom, sorry.
-/
import Derived.Test.YtgbpbcghblmiaaaChecked
import GoSem.Claim
import GoSem.ClaimJoined
import GoSem.ClaimMapViews
import Derived.JoinedTies
import Derived.KernelRfl
namespace Go.Proofs.Ytgbpbcghblmiaaa
/- THE CELL 'sum', in the pinned program and in every row, IS THE sha256 OF THE DUMP (.gsa) THAT YtgbpbcghblmiaaaProg.lean LOADS. Nothing in Lean hashes anything: it is a label: what it is worth is what the hold of that sum in a sandbox is worth. -/
noncomputable def Try.pinned : Pinned := { name := "ytgbpbcghblmiaaa", sum := "ff6ee554b4c6e07f8ec5078791292d4caf4fbd86ca1f37b114abd70ba52e6d7e", checked := Try.checked }
namespace Rows
def none {H : Type} : Left H := { results := [], args := [] }

/-- 'laws.FnExactCodeValid': WHATEVER THE INPUT: true; the input reads as it did. -/
def fnExactCodeValidSpec : ChangeSpec := { name := "fnExactCodeValid", fn := fun _ => fun
  | [d] => { results := [.lit (.bool true)], args := [d] }
  | _ => none }
def fnExactCodeValidRow : OpenClaim := { program := "ytgbpbcghblmiaaa", sum := "ff6ee554b4c6e07f8ec5078791292d4caf4fbd86ca1f37b114abd70ba52e6d7e", func := "loop.example/stackwords/laws.FnExactCodeValid", spec := "fnExactCodeValid", apart := false }
def FnExactCodeValidSaid : Prop := fnExactCodeValidRow.holds Try.pinned (OpenSpec.ofChange fnExactCodeValidSpec)

/-- ITS FALSE NEIGHBOUR: 'it returns false'. Refute it at one input. -/
def fnExactCodeValidWrong : ChangeSpec := { name := "fnExactCodeValid", fn := fun _ => fun
  | [d] => { results := [.lit (.bool false)], args := [d] }
  | _ => none }
def FnExactCodeValidWrongFalsely : Prop := fnExactCodeValidRow.holds Try.pinned (OpenSpec.ofChange fnExactCodeValidWrong)

/-- 'laws.FnCodeValid': WHATEVER THE INPUT: true; the input reads as it did. -/
def fnCodeValidSpec : ChangeSpec := { name := "fnCodeValid", fn := fun _ => fun
  | [d] => { results := [.lit (.bool true)], args := [d] }
  | _ => none }
def fnCodeValidRow : OpenClaim := { program := "ytgbpbcghblmiaaa", sum := "ff6ee554b4c6e07f8ec5078791292d4caf4fbd86ca1f37b114abd70ba52e6d7e", func := "loop.example/stackwords/laws.FnCodeValid", spec := "fnCodeValid", recurses := true, apart := false }
def FnCodeValidSaid : Prop := fnCodeValidRow.holds Try.pinned (OpenSpec.ofChange fnCodeValidSpec)

/-- ITS FALSE NEIGHBOUR: 'it returns false'. Refute it at one input. -/
def fnCodeValidWrong : ChangeSpec := { name := "fnCodeValid", fn := fun _ => fun
  | [d] => { results := [.lit (.bool false)], args := [d] }
  | _ => none }
def FnCodeValidWrongFalsely : Prop := fnCodeValidRow.holds Try.pinned (OpenSpec.ofChange fnCodeValidWrong)

/-- 'laws.FnExactProgOf': WHATEVER THE INPUT: true; the input reads as it did. -/
def fnExactProgOfSpec : ChangeSpec := { name := "fnExactProgOf", fn := fun _ => fun
  | [d1, d2] => { results := [.lit (.bool true)], args := [d1, d2] }
  | _ => none }
def fnExactProgOfRow : OpenClaim := { program := "ytgbpbcghblmiaaa", sum := "ff6ee554b4c6e07f8ec5078791292d4caf4fbd86ca1f37b114abd70ba52e6d7e", func := "loop.example/stackwords/laws.FnExactProgOf", spec := "fnExactProgOf", recurses := true, apart := false }
def FnExactProgOfSaid : Prop := fnExactProgOfRow.holds Try.pinned (OpenSpec.ofChange fnExactProgOfSpec)

/-- ITS FALSE NEIGHBOUR: 'it returns false'. Refute it at one input. -/
def fnExactProgOfWrong : ChangeSpec := { name := "fnExactProgOf", fn := fun _ => fun
  | [d1, d2] => { results := [.lit (.bool false)], args := [d1, d2] }
  | _ => none }
def FnExactProgOfWrongFalsely : Prop := fnExactProgOfRow.holds Try.pinned (OpenSpec.ofChange fnExactProgOfWrong)

/-- 'laws.FnProgOf': WHATEVER THE INPUT: true; the input reads as it did. -/
def fnProgOfSpec : ChangeSpec := { name := "fnProgOf", fn := fun _ => fun
  | [d] => { results := [.lit (.bool true)], args := [d] }
  | _ => none }
def fnProgOfRow : OpenClaim := { program := "ytgbpbcghblmiaaa", sum := "ff6ee554b4c6e07f8ec5078791292d4caf4fbd86ca1f37b114abd70ba52e6d7e", func := "loop.example/stackwords/laws.FnProgOf", spec := "fnProgOf", recurses := true, apart := false }
def FnProgOfSaid : Prop := fnProgOfRow.holds Try.pinned (OpenSpec.ofChange fnProgOfSpec)

/-- ITS FALSE NEIGHBOUR: 'it returns false'. Refute it at one input. -/
def fnProgOfWrong : ChangeSpec := { name := "fnProgOf", fn := fun _ => fun
  | [d] => { results := [.lit (.bool false)], args := [d] }
  | _ => none }
def FnProgOfWrongFalsely : Prop := fnProgOfRow.holds Try.pinned (OpenSpec.ofChange fnProgOfWrong)

/- THE SECOND FORM. 'bulk': how many values and letters a reading holds, each counted each time it is reached (what is shared counts as often as it is met; a slice's spare places count too). A statement '..UptoSaid' is the law's where the arguments, and the package variables that the reading takes, are together of bulk at most 1048576: NARROWER than '..Said'. Prove '..Said' where nothing that the law and all that it calls make is longer than what came in: it says more and counts as full. Else prove '..UptoSaid'. A law counts once. -/
mutual
def uptoBulk {H : Type} : DataW H → Nat
  | .lit (.string bytes) => bytes.length + 1
  | .lit _ => 1
  | .nil => 1
  | .ptr d => uptoBulk d + 1
  | .slice elems spare => uptoBulkAll elems + uptoBulkAll spare + 1
  | .agg parts => uptoBulkAll parts + 1
  | .iface _ d => uptoBulk d + 1
  | .map entries => uptoBulkEntries entries + 1
  | .held _ => 1
def uptoBulkAll {H : Type} : List (DataW H) → Nat
  | [] => 0
  | d :: r => uptoBulk d + uptoBulkAll r
def uptoBulkEntries {H : Type} : List (Lit × DataW H) → Nat
  | [] => 0
  | x :: r => uptoBulkEntry x + uptoBulkEntries r
def uptoBulkEntry {H : Type} : Lit × DataW H → Nat
  | (.string bytes, d) => bytes.length + uptoBulk d + 1
  | (_, d) => uptoBulk d + 1
 end
def uptoSmall : (H : Type) → List (DataW H) → Bool := fun _ ds => decide (uptoBulkAll ds ≤ 1048576)
def OpenSpec.upto (s : _root_.Go.ChangeSpec) : _root_.Go.OpenSpec := { _root_.Go.OpenSpec.ofChange s with cond := some uptoSmall }

/-- 'laws.FnExactCodeValid', WHERE WHAT IT READS IS OF BULK AT MOST 1048576: true; the input reads as it did. -/
def fnExactCodeValidUptoRow : OpenClaim := { program := "ytgbpbcghblmiaaa", sum := "ff6ee554b4c6e07f8ec5078791292d4caf4fbd86ca1f37b114abd70ba52e6d7e", func := "loop.example/stackwords/laws.FnExactCodeValid", spec := "fnExactCodeValid", apart := false, narrowed := true }
def FnExactCodeValidUptoSaid : Prop := fnExactCodeValidUptoRow.holds Try.pinned (OpenSpec.upto fnExactCodeValidSpec)

/-- 'laws.FnCodeValid', WHERE WHAT IT READS IS OF BULK AT MOST 1048576: true; the input reads as it did. -/
def fnCodeValidUptoRow : OpenClaim := { program := "ytgbpbcghblmiaaa", sum := "ff6ee554b4c6e07f8ec5078791292d4caf4fbd86ca1f37b114abd70ba52e6d7e", func := "loop.example/stackwords/laws.FnCodeValid", spec := "fnCodeValid", recurses := true, apart := false, narrowed := true }
def FnCodeValidUptoSaid : Prop := fnCodeValidUptoRow.holds Try.pinned (OpenSpec.upto fnCodeValidSpec)

/-- 'laws.FnExactProgOf', WHERE WHAT IT READS IS OF BULK AT MOST 1048576: true; the input reads as it did. -/
def fnExactProgOfUptoRow : OpenClaim := { program := "ytgbpbcghblmiaaa", sum := "ff6ee554b4c6e07f8ec5078791292d4caf4fbd86ca1f37b114abd70ba52e6d7e", func := "loop.example/stackwords/laws.FnExactProgOf", spec := "fnExactProgOf", recurses := true, apart := false, narrowed := true }
def FnExactProgOfUptoSaid : Prop := fnExactProgOfUptoRow.holds Try.pinned (OpenSpec.upto fnExactProgOfSpec)

/-- 'laws.FnProgOf', WHERE WHAT IT READS IS OF BULK AT MOST 1048576: true; the input reads as it did. -/
def fnProgOfUptoRow : OpenClaim := { program := "ytgbpbcghblmiaaa", sum := "ff6ee554b4c6e07f8ec5078791292d4caf4fbd86ca1f37b114abd70ba52e6d7e", func := "loop.example/stackwords/laws.FnProgOf", spec := "fnProgOf", recurses := true, apart := false, narrowed := true }
def FnProgOfUptoSaid : Prop := fnProgOfUptoRow.holds Try.pinned (OpenSpec.upto fnProgOfSpec)

end Rows
end Go.Proofs.Ytgbpbcghblmiaaa
