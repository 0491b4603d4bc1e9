/-
  No cell of these rows narrows 'for every input' (looked for: loops, veiled, ifaces, maps, wideKeys, modest, calm, conditions, laid).
  DERIVED. THE GIVEN ROWS OF THIS SEAT. 10 by the template 'for every input the law returns true; each argument reads behind the call as it read before'; 0 by the template 'total and deterministic' (their statements: YtkiedpdhehehfaaTotals.lean).
  GIVEN WITH THE SEED: the statements are not yours to turn. If you find one false, say at which input.
  Laid BY PROGRAM, IN A SANDBOX (cutbox-rows.mjs): the forced cells as the released guide's own fill.sh prints them over the translation 9afe06ad5acafac2… (all of the seat's roots in one cut). By AI agents, Wed Nov 11 2026. No macro, syntax, notation, axiom, sorry.
-/
import Derived.Test.YtkiedpdhehehfaaChecked
import GoSem.Claim
import GoSem.ClaimJoined
import GoSem.ClaimMapViews
import Derived.JoinedTies
import Derived.KernelRfl
namespace Go.Proofs.Ytkiedpdhehehfaa
/- THE CELL 'sum', in the pinned program and in every row, IS THE sha256 OF THE DUMP (.gsa) THAT YtkiedpdhehehfaaProg.lean LOADS. Nothing in Lean hashes anything: it is a label: what it is worth is what the hold of that sum in a sandbox is worth. -/
noncomputable def Try.pinned : Pinned := { name := "ytkiedpdhehehfaa", sum := "9afe06ad5acafac2598005cc214642a57e4ae6c7a2df559d75ec39887e91c873", checked := Try.checked }
namespace Rows
def none {H : Type} : Left H := { results := [], args := [] }

/-- 'laws.FnExactRegsOf': WHATEVER THE INPUT: true; the input reads as it did. -/
def fnExactRegsOfSpec : ChangeSpec := { name := "fnExactRegsOf", fn := fun _ => fun
  | [d] => { results := [.lit (.bool true)], args := [d] }
  | _ => none }
def fnExactRegsOfRow : OpenClaim := { program := "ytkiedpdhehehfaa", sum := "9afe06ad5acafac2598005cc214642a57e4ae6c7a2df559d75ec39887e91c873", func := "loop.example/stackwords/laws.FnExactRegsOf", spec := "fnExactRegsOf", unfollowed := true, recurses := true, plainKeys := false, apart := false }
def FnExactRegsOfSaid : Prop := fnExactRegsOfRow.holds Try.pinned (OpenSpec.ofChange fnExactRegsOfSpec)

/-- ITS FALSE NEIGHBOUR: 'it returns false'. Refute it at one input. -/
def fnExactRegsOfWrong : ChangeSpec := { name := "fnExactRegsOf", fn := fun _ => fun
  | [d] => { results := [.lit (.bool false)], args := [d] }
  | _ => none }
def FnExactRegsOfWrongFalsely : Prop := fnExactRegsOfRow.holds Try.pinned (OpenSpec.ofChange fnExactRegsOfWrong)

/-- 'laws.FnExactValuesOf': WHATEVER THE INPUT: true; the input reads as it did. -/
def fnExactValuesOfSpec : ChangeSpec := { name := "fnExactValuesOf", fn := fun _ => fun
  | [d1, d2] => { results := [.lit (.bool true)], args := [d1, d2] }
  | _ => none }
def fnExactValuesOfRow : OpenClaim := { program := "ytkiedpdhehehfaa", sum := "9afe06ad5acafac2598005cc214642a57e4ae6c7a2df559d75ec39887e91c873", func := "loop.example/stackwords/laws.FnExactValuesOf", spec := "fnExactValuesOf", recurses := true, plainKeys := false, apart := false }
def FnExactValuesOfSaid : Prop := fnExactValuesOfRow.holds Try.pinned (OpenSpec.ofChange fnExactValuesOfSpec)

/-- ITS FALSE NEIGHBOUR: 'it returns false'. Refute it at one input. -/
def fnExactValuesOfWrong : ChangeSpec := { name := "fnExactValuesOf", fn := fun _ => fun
  | [d1, d2] => { results := [.lit (.bool false)], args := [d1, d2] }
  | _ => none }
def FnExactValuesOfWrongFalsely : Prop := fnExactValuesOfRow.holds Try.pinned (OpenSpec.ofChange fnExactValuesOfWrong)

/-- 'laws.FnExactProgOf': WHATEVER THE INPUT: true; the input reads as it did. -/
def fnExactProgOfSpec : ChangeSpec := { name := "fnExactProgOf", fn := fun _ => fun
  | [d1, d2] => { results := [.lit (.bool true)], args := [d1, d2] }
  | _ => none }
def fnExactProgOfRow : OpenClaim := { program := "ytkiedpdhehehfaa", sum := "9afe06ad5acafac2598005cc214642a57e4ae6c7a2df559d75ec39887e91c873", func := "loop.example/stackwords/laws.FnExactProgOf", spec := "fnExactProgOf", recurses := true, plainKeys := false, apart := false }
def FnExactProgOfSaid : Prop := fnExactProgOfRow.holds Try.pinned (OpenSpec.ofChange fnExactProgOfSpec)

/-- ITS FALSE NEIGHBOUR: 'it returns false'. Refute it at one input. -/
def fnExactProgOfWrong : ChangeSpec := { name := "fnExactProgOf", fn := fun _ => fun
  | [d1, d2] => { results := [.lit (.bool false)], args := [d1, d2] }
  | _ => none }
def FnExactProgOfWrongFalsely : Prop := fnExactProgOfRow.holds Try.pinned (OpenSpec.ofChange fnExactProgOfWrong)

/-- 'laws.FnExactCodeOf': WHATEVER THE INPUT: true; the input reads as it did. -/
def fnExactCodeOfSpec : ChangeSpec := { name := "fnExactCodeOf", fn := fun _ => fun
  | [d] => { results := [.lit (.bool true)], args := [d] }
  | _ => none }
def fnExactCodeOfRow : OpenClaim := { program := "ytkiedpdhehehfaa", sum := "9afe06ad5acafac2598005cc214642a57e4ae6c7a2df559d75ec39887e91c873", func := "loop.example/stackwords/laws.FnExactCodeOf", spec := "fnExactCodeOf", recurses := true, plainKeys := false, apart := false }
def FnExactCodeOfSaid : Prop := fnExactCodeOfRow.holds Try.pinned (OpenSpec.ofChange fnExactCodeOfSpec)

/-- ITS FALSE NEIGHBOUR: 'it returns false'. Refute it at one input. -/
def fnExactCodeOfWrong : ChangeSpec := { name := "fnExactCodeOf", fn := fun _ => fun
  | [d] => { results := [.lit (.bool false)], args := [d] }
  | _ => none }
def FnExactCodeOfWrongFalsely : Prop := fnExactCodeOfRow.holds Try.pinned (OpenSpec.ofChange fnExactCodeOfWrong)

/-- 'laws.FnCodeValid': WHATEVER THE INPUT: true; the input reads as it did. -/
def fnCodeValidSpec : ChangeSpec := { name := "fnCodeValid", fn := fun _ => fun
  | [d] => { results := [.lit (.bool true)], args := [d] }
  | _ => none }
def fnCodeValidRow : OpenClaim := { program := "ytkiedpdhehehfaa", sum := "9afe06ad5acafac2598005cc214642a57e4ae6c7a2df559d75ec39887e91c873", func := "loop.example/stackwords/laws.FnCodeValid", spec := "fnCodeValid", recurses := true, plainKeys := false, apart := false }
def FnCodeValidSaid : Prop := fnCodeValidRow.holds Try.pinned (OpenSpec.ofChange fnCodeValidSpec)

/-- ITS FALSE NEIGHBOUR: 'it returns false'. Refute it at one input. -/
def fnCodeValidWrong : ChangeSpec := { name := "fnCodeValid", fn := fun _ => fun
  | [d] => { results := [.lit (.bool false)], args := [d] }
  | _ => none }
def FnCodeValidWrongFalsely : Prop := fnCodeValidRow.holds Try.pinned (OpenSpec.ofChange fnCodeValidWrong)

/-- 'laws.FnExactMoreGeneral': WHATEVER THE INPUT: true; the input reads as it did. -/
def fnExactMoreGeneralSpec : ChangeSpec := { name := "fnExactMoreGeneral", fn := fun _ => fun
  | [d1, d2] => { results := [.lit (.bool true)], args := [d1, d2] }
  | _ => none }
def fnExactMoreGeneralRow : OpenClaim := { program := "ytkiedpdhehehfaa", sum := "9afe06ad5acafac2598005cc214642a57e4ae6c7a2df559d75ec39887e91c873", func := "loop.example/stackwords/laws.FnExactMoreGeneral", spec := "fnExactMoreGeneral", unfollowed := true, recurses := true, plainKeys := false, apart := false }
def FnExactMoreGeneralSaid : Prop := fnExactMoreGeneralRow.holds Try.pinned (OpenSpec.ofChange fnExactMoreGeneralSpec)

/-- ITS FALSE NEIGHBOUR: 'it returns false'. Refute it at one input. -/
def fnExactMoreGeneralWrong : ChangeSpec := { name := "fnExactMoreGeneral", fn := fun _ => fun
  | [d1, d2] => { results := [.lit (.bool false)], args := [d1, d2] }
  | _ => none }
def FnExactMoreGeneralWrongFalsely : Prop := fnExactMoreGeneralRow.holds Try.pinned (OpenSpec.ofChange fnExactMoreGeneralWrong)

/-- 'laws.FnStepOf': WHATEVER THE INPUT: true; the input reads as it did. -/
def fnStepOfSpec : ChangeSpec := { name := "fnStepOf", fn := fun _ => fun
  | [d] => { results := [.lit (.bool true)], args := [d] }
  | _ => none }
def fnStepOfRow : OpenClaim := { program := "ytkiedpdhehehfaa", sum := "9afe06ad5acafac2598005cc214642a57e4ae6c7a2df559d75ec39887e91c873", func := "loop.example/stackwords/laws.FnStepOf", spec := "fnStepOf", unfollowed := true, recurses := true, plainKeys := false, apart := false }
def FnStepOfSaid : Prop := fnStepOfRow.holds Try.pinned (OpenSpec.ofChange fnStepOfSpec)

/-- ITS FALSE NEIGHBOUR: 'it returns false'. Refute it at one input. -/
def fnStepOfWrong : ChangeSpec := { name := "fnStepOf", fn := fun _ => fun
  | [d] => { results := [.lit (.bool false)], args := [d] }
  | _ => none }
def FnStepOfWrongFalsely : Prop := fnStepOfRow.holds Try.pinned (OpenSpec.ofChange fnStepOfWrong)

/-- 'laws.FnRowOk': WHATEVER THE INPUT: true; the input reads as it did. -/
def fnRowOkSpec : ChangeSpec := { name := "fnRowOk", fn := fun _ => fun
  | [d] => { results := [.lit (.bool true)], args := [d] }
  | _ => none }
def fnRowOkRow : OpenClaim := { program := "ytkiedpdhehehfaa", sum := "9afe06ad5acafac2598005cc214642a57e4ae6c7a2df559d75ec39887e91c873", func := "loop.example/stackwords/laws.FnRowOk", spec := "fnRowOk", recurses := true, plainKeys := false, apart := false }
def FnRowOkSaid : Prop := fnRowOkRow.holds Try.pinned (OpenSpec.ofChange fnRowOkSpec)

/-- ITS FALSE NEIGHBOUR: 'it returns false'. Refute it at one input. -/
def fnRowOkWrong : ChangeSpec := { name := "fnRowOk", fn := fun _ => fun
  | [d] => { results := [.lit (.bool false)], args := [d] }
  | _ => none }
def FnRowOkWrongFalsely : Prop := fnRowOkRow.holds Try.pinned (OpenSpec.ofChange fnRowOkWrong)

/-- 'laws.FnEffectOk': WHATEVER THE INPUT: true; the input reads as it did. -/
def fnEffectOkSpec : ChangeSpec := { name := "fnEffectOk", fn := fun _ => fun
  | [d] => { results := [.lit (.bool true)], args := [d] }
  | _ => none }
def fnEffectOkRow : OpenClaim := { program := "ytkiedpdhehehfaa", sum := "9afe06ad5acafac2598005cc214642a57e4ae6c7a2df559d75ec39887e91c873", func := "loop.example/stackwords/laws.FnEffectOk", spec := "fnEffectOk", recurses := true, plainKeys := false, apart := false }
def FnEffectOkSaid : Prop := fnEffectOkRow.holds Try.pinned (OpenSpec.ofChange fnEffectOkSpec)

/-- ITS FALSE NEIGHBOUR: 'it returns false'. Refute it at one input. -/
def fnEffectOkWrong : ChangeSpec := { name := "fnEffectOk", fn := fun _ => fun
  | [d] => { results := [.lit (.bool false)], args := [d] }
  | _ => none }
def FnEffectOkWrongFalsely : Prop := fnEffectOkRow.holds Try.pinned (OpenSpec.ofChange fnEffectOkWrong)

/-- 'laws.FnNeedsOf': WHATEVER THE INPUT: true; the input reads as it did. -/
def fnNeedsOfSpec : ChangeSpec := { name := "fnNeedsOf", fn := fun _ => fun
  | [d] => { results := [.lit (.bool true)], args := [d] }
  | _ => none }
def fnNeedsOfRow : OpenClaim := { program := "ytkiedpdhehehfaa", sum := "9afe06ad5acafac2598005cc214642a57e4ae6c7a2df559d75ec39887e91c873", func := "loop.example/stackwords/laws.FnNeedsOf", spec := "fnNeedsOf", unfollowed := true, recurses := true, plainKeys := false, apart := false }
def FnNeedsOfSaid : Prop := fnNeedsOfRow.holds Try.pinned (OpenSpec.ofChange fnNeedsOfSpec)

/-- ITS FALSE NEIGHBOUR: 'it returns false'. Refute it at one input. -/
def fnNeedsOfWrong : ChangeSpec := { name := "fnNeedsOf", fn := fun _ => fun
  | [d] => { results := [.lit (.bool false)], args := [d] }
  | _ => none }
def FnNeedsOfWrongFalsely : Prop := fnNeedsOfRow.holds Try.pinned (OpenSpec.ofChange fnNeedsOfWrong)

/- THE SECOND FORM. 'bulk': how many values and letters a reading holds, each counted each time it is reached (what is shared counts as often as it is met; a slice's spare places count too). A statement '..UptoSaid' is the law's where the arguments, and the package variables that the reading takes, are together of bulk at most 1048576: NARROWER than '..Said'. Prove '..Said' where nothing that the law and all that it calls make is longer than what came in: it says more and counts as full. Else prove '..UptoSaid'. A law counts once. -/
mutual
def uptoBulk {H : Type} : DataW H → Nat
  | .lit (.string bytes) => bytes.length + 1
  | .lit _ => 1
  | .nil => 1
  | .ptr d => uptoBulk d + 1
  | .slice elems spare => uptoBulkAll elems + uptoBulkAll spare + 1
  | .agg parts => uptoBulkAll parts + 1
  | .iface _ d => uptoBulk d + 1
  | .map entries => uptoBulkEntries entries + 1
  | .held _ => 1
def uptoBulkAll {H : Type} : List (DataW H) → Nat
  | [] => 0
  | d :: r => uptoBulk d + uptoBulkAll r
def uptoBulkEntries {H : Type} : List (Lit × DataW H) → Nat
  | [] => 0
  | x :: r => uptoBulkEntry x + uptoBulkEntries r
def uptoBulkEntry {H : Type} : Lit × DataW H → Nat
  | (.string bytes, d) => bytes.length + uptoBulk d + 1
  | (_, d) => uptoBulk d + 1
 end
def uptoSmall : (H : Type) → List (DataW H) → Bool := fun _ ds => decide (uptoBulkAll ds ≤ 1048576)
def OpenSpec.upto (s : _root_.Go.ChangeSpec) : _root_.Go.OpenSpec := { _root_.Go.OpenSpec.ofChange s with cond := some uptoSmall }

/-- 'laws.FnExactRegsOf', WHERE WHAT IT READS IS OF BULK AT MOST 1048576: true; the input reads as it did. -/
def fnExactRegsOfUptoRow : OpenClaim := { program := "ytkiedpdhehehfaa", sum := "9afe06ad5acafac2598005cc214642a57e4ae6c7a2df559d75ec39887e91c873", func := "loop.example/stackwords/laws.FnExactRegsOf", spec := "fnExactRegsOf", unfollowed := true, recurses := true, plainKeys := false, apart := false, narrowed := true }
def FnExactRegsOfUptoSaid : Prop := fnExactRegsOfUptoRow.holds Try.pinned (OpenSpec.upto fnExactRegsOfSpec)

/-- 'laws.FnExactValuesOf', WHERE WHAT IT READS IS OF BULK AT MOST 1048576: true; the input reads as it did. -/
def fnExactValuesOfUptoRow : OpenClaim := { program := "ytkiedpdhehehfaa", sum := "9afe06ad5acafac2598005cc214642a57e4ae6c7a2df559d75ec39887e91c873", func := "loop.example/stackwords/laws.FnExactValuesOf", spec := "fnExactValuesOf", recurses := true, plainKeys := false, apart := false, narrowed := true }
def FnExactValuesOfUptoSaid : Prop := fnExactValuesOfUptoRow.holds Try.pinned (OpenSpec.upto fnExactValuesOfSpec)

/-- 'laws.FnExactProgOf', WHERE WHAT IT READS IS OF BULK AT MOST 1048576: true; the input reads as it did. -/
def fnExactProgOfUptoRow : OpenClaim := { program := "ytkiedpdhehehfaa", sum := "9afe06ad5acafac2598005cc214642a57e4ae6c7a2df559d75ec39887e91c873", func := "loop.example/stackwords/laws.FnExactProgOf", spec := "fnExactProgOf", recurses := true, plainKeys := false, apart := false, narrowed := true }
def FnExactProgOfUptoSaid : Prop := fnExactProgOfUptoRow.holds Try.pinned (OpenSpec.upto fnExactProgOfSpec)

/-- 'laws.FnExactCodeOf', WHERE WHAT IT READS IS OF BULK AT MOST 1048576: true; the input reads as it did. -/
def fnExactCodeOfUptoRow : OpenClaim := { program := "ytkiedpdhehehfaa", sum := "9afe06ad5acafac2598005cc214642a57e4ae6c7a2df559d75ec39887e91c873", func := "loop.example/stackwords/laws.FnExactCodeOf", spec := "fnExactCodeOf", recurses := true, plainKeys := false, apart := false, narrowed := true }
def FnExactCodeOfUptoSaid : Prop := fnExactCodeOfUptoRow.holds Try.pinned (OpenSpec.upto fnExactCodeOfSpec)

/-- 'laws.FnCodeValid', WHERE WHAT IT READS IS OF BULK AT MOST 1048576: true; the input reads as it did. -/
def fnCodeValidUptoRow : OpenClaim := { program := "ytkiedpdhehehfaa", sum := "9afe06ad5acafac2598005cc214642a57e4ae6c7a2df559d75ec39887e91c873", func := "loop.example/stackwords/laws.FnCodeValid", spec := "fnCodeValid", recurses := true, plainKeys := false, apart := false, narrowed := true }
def FnCodeValidUptoSaid : Prop := fnCodeValidUptoRow.holds Try.pinned (OpenSpec.upto fnCodeValidSpec)

/-- 'laws.FnExactMoreGeneral', WHERE WHAT IT READS IS OF BULK AT MOST 1048576: true; the input reads as it did. -/
def fnExactMoreGeneralUptoRow : OpenClaim := { program := "ytkiedpdhehehfaa", sum := "9afe06ad5acafac2598005cc214642a57e4ae6c7a2df559d75ec39887e91c873", func := "loop.example/stackwords/laws.FnExactMoreGeneral", spec := "fnExactMoreGeneral", unfollowed := true, recurses := true, plainKeys := false, apart := false, narrowed := true }
def FnExactMoreGeneralUptoSaid : Prop := fnExactMoreGeneralUptoRow.holds Try.pinned (OpenSpec.upto fnExactMoreGeneralSpec)

/-- 'laws.FnStepOf', WHERE WHAT IT READS IS OF BULK AT MOST 1048576: true; the input reads as it did. -/
def fnStepOfUptoRow : OpenClaim := { program := "ytkiedpdhehehfaa", sum := "9afe06ad5acafac2598005cc214642a57e4ae6c7a2df559d75ec39887e91c873", func := "loop.example/stackwords/laws.FnStepOf", spec := "fnStepOf", unfollowed := true, recurses := true, plainKeys := false, apart := false, narrowed := true }
def FnStepOfUptoSaid : Prop := fnStepOfUptoRow.holds Try.pinned (OpenSpec.upto fnStepOfSpec)

/-- 'laws.FnRowOk', WHERE WHAT IT READS IS OF BULK AT MOST 1048576: true; the input reads as it did. -/
def fnRowOkUptoRow : OpenClaim := { program := "ytkiedpdhehehfaa", sum := "9afe06ad5acafac2598005cc214642a57e4ae6c7a2df559d75ec39887e91c873", func := "loop.example/stackwords/laws.FnRowOk", spec := "fnRowOk", recurses := true, plainKeys := false, apart := false, narrowed := true }
def FnRowOkUptoSaid : Prop := fnRowOkUptoRow.holds Try.pinned (OpenSpec.upto fnRowOkSpec)

/-- 'laws.FnEffectOk', WHERE WHAT IT READS IS OF BULK AT MOST 1048576: true; the input reads as it did. -/
def fnEffectOkUptoRow : OpenClaim := { program := "ytkiedpdhehehfaa", sum := "9afe06ad5acafac2598005cc214642a57e4ae6c7a2df559d75ec39887e91c873", func := "loop.example/stackwords/laws.FnEffectOk", spec := "fnEffectOk", recurses := true, plainKeys := false, apart := false, narrowed := true }
def FnEffectOkUptoSaid : Prop := fnEffectOkUptoRow.holds Try.pinned (OpenSpec.upto fnEffectOkSpec)

/-- 'laws.FnNeedsOf', WHERE WHAT IT READS IS OF BULK AT MOST 1048576: true; the input reads as it did. -/
def fnNeedsOfUptoRow : OpenClaim := { program := "ytkiedpdhehehfaa", sum := "9afe06ad5acafac2598005cc214642a57e4ae6c7a2df559d75ec39887e91c873", func := "loop.example/stackwords/laws.FnNeedsOf", spec := "fnNeedsOf", unfollowed := true, recurses := true, plainKeys := false, apart := false, narrowed := true }
def FnNeedsOfUptoSaid : Prop := fnNeedsOfUptoRow.holds Try.pinned (OpenSpec.upto fnNeedsOfSpec)

end Rows
end Go.Proofs.Ytkiedpdhehehfaa
