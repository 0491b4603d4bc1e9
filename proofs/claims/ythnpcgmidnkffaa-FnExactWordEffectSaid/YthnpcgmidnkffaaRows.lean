/-
  No cell of these rows narrows 'for every input' (looked for: loops, veiled, ifaces, maps, wideKeys, modest, calm, conditions, laid).
  DERIVED. THE GIVEN ROWS OF THIS SEAT. 9 by the template 'for every input the law returns true; each argument reads behind the call as it read before'; 0 by the template 'total and deterministic' (their statements: YthnpcgmidnkffaaTotals.lean).
  GIVEN WITH THE SEED: the statements are not yours to turn. If you find one false, say at which input.
  Laid BY PROGRAM, IN A SANDBOX (cutbox-rows.mjs): the forced cells as the released guide's own fill.sh prints them over the translation a9e2ccd9d0a183a4… (all of the seat's roots in one cut). By AI agents, Wed Nov 11 2026. No macro, syntax, notation, axiom, sorry.
-/
import Derived.Test.YthnpcgmidnkffaaChecked
import GoSem.Claim
import GoSem.ClaimJoined
import GoSem.ClaimMapViews
import Derived.JoinedTies
import Derived.KernelRfl
namespace Go.Proofs.Ythnpcgmidnkffaa
/- THE CELL 'sum', in the pinned program and in every row, IS THE sha256 OF THE DUMP (.gsa) THAT YthnpcgmidnkffaaProg.lean LOADS. Nothing in Lean hashes anything: it is a label: what it is worth is what the hold of that sum in a sandbox is worth. -/
noncomputable def Try.pinned : Pinned := { name := "ythnpcgmidnkffaa", sum := "a9e2ccd9d0a183a4df1a485af43ac804a9c7caab8281bfa6f177efd07b33ea2a", checked := Try.checked }
namespace Rows
def none {H : Type} : Left H := { results := [], args := [] }

/-- 'laws.FnExactWordEffect': WHATEVER THE INPUT: true; the input reads as it did. -/
def fnExactWordEffectSpec : ChangeSpec := { name := "fnExactWordEffect", fn := fun _ => fun
  | [d] => { results := [.lit (.bool true)], args := [d] }
  | _ => none }
def fnExactWordEffectRow : OpenClaim := { program := "ythnpcgmidnkffaa", sum := "a9e2ccd9d0a183a4df1a485af43ac804a9c7caab8281bfa6f177efd07b33ea2a", func := "loop.example/stackwords/laws.FnExactWordEffect", spec := "fnExactWordEffect", apart := false }
def FnExactWordEffectSaid : Prop := fnExactWordEffectRow.holds Try.pinned (OpenSpec.ofChange fnExactWordEffectSpec)

/-- ITS FALSE NEIGHBOUR: 'it returns false'. Refute it at one input. -/
def fnExactWordEffectWrong : ChangeSpec := { name := "fnExactWordEffect", fn := fun _ => fun
  | [d] => { results := [.lit (.bool false)], args := [d] }
  | _ => none }
def FnExactWordEffectWrongFalsely : Prop := fnExactWordEffectRow.holds Try.pinned (OpenSpec.ofChange fnExactWordEffectWrong)

/-- 'laws.FnRowOk': WHATEVER THE INPUT: true; the input reads as it did. -/
def fnRowOkSpec : ChangeSpec := { name := "fnRowOk", fn := fun _ => fun
  | [d] => { results := [.lit (.bool true)], args := [d] }
  | _ => none }
def fnRowOkRow : OpenClaim := { program := "ythnpcgmidnkffaa", sum := "a9e2ccd9d0a183a4df1a485af43ac804a9c7caab8281bfa6f177efd07b33ea2a", func := "loop.example/stackwords/laws.FnRowOk", spec := "fnRowOk", recurses := true, apart := false }
def FnRowOkSaid : Prop := fnRowOkRow.holds Try.pinned (OpenSpec.ofChange fnRowOkSpec)

/-- ITS FALSE NEIGHBOUR: 'it returns false'. Refute it at one input. -/
def fnRowOkWrong : ChangeSpec := { name := "fnRowOk", fn := fun _ => fun
  | [d] => { results := [.lit (.bool false)], args := [d] }
  | _ => none }
def FnRowOkWrongFalsely : Prop := fnRowOkRow.holds Try.pinned (OpenSpec.ofChange fnRowOkWrong)

/-- 'laws.FnExactEffectOk': WHATEVER THE INPUT: true; the input reads as it did. -/
def fnExactEffectOkSpec : ChangeSpec := { name := "fnExactEffectOk", fn := fun _ => fun
  | [d] => { results := [.lit (.bool true)], args := [d] }
  | _ => none }
def fnExactEffectOkRow : OpenClaim := { program := "ythnpcgmidnkffaa", sum := "a9e2ccd9d0a183a4df1a485af43ac804a9c7caab8281bfa6f177efd07b33ea2a", func := "loop.example/stackwords/laws.FnExactEffectOk", spec := "fnExactEffectOk", recurses := true, apart := false }
def FnExactEffectOkSaid : Prop := fnExactEffectOkRow.holds Try.pinned (OpenSpec.ofChange fnExactEffectOkSpec)

/-- ITS FALSE NEIGHBOUR: 'it returns false'. Refute it at one input. -/
def fnExactEffectOkWrong : ChangeSpec := { name := "fnExactEffectOk", fn := fun _ => fun
  | [d] => { results := [.lit (.bool false)], args := [d] }
  | _ => none }
def FnExactEffectOkWrongFalsely : Prop := fnExactEffectOkRow.holds Try.pinned (OpenSpec.ofChange fnExactEffectOkWrong)

/-- 'laws.FnExactNeedsOf': WHATEVER THE INPUT: true; the input reads as it did. -/
def fnExactNeedsOfSpec : ChangeSpec := { name := "fnExactNeedsOf", fn := fun _ => fun
  | [d] => { results := [.lit (.bool true)], args := [d] }
  | _ => none }
def fnExactNeedsOfRow : OpenClaim := { program := "ythnpcgmidnkffaa", sum := "a9e2ccd9d0a183a4df1a485af43ac804a9c7caab8281bfa6f177efd07b33ea2a", func := "loop.example/stackwords/laws.FnExactNeedsOf", spec := "fnExactNeedsOf", unfollowed := true, recurses := true, apart := false }
def FnExactNeedsOfSaid : Prop := fnExactNeedsOfRow.holds Try.pinned (OpenSpec.ofChange fnExactNeedsOfSpec)

/-- ITS FALSE NEIGHBOUR: 'it returns false'. Refute it at one input. -/
def fnExactNeedsOfWrong : ChangeSpec := { name := "fnExactNeedsOf", fn := fun _ => fun
  | [d] => { results := [.lit (.bool false)], args := [d] }
  | _ => none }
def FnExactNeedsOfWrongFalsely : Prop := fnExactNeedsOfRow.holds Try.pinned (OpenSpec.ofChange fnExactNeedsOfWrong)

/-- 'laws.FnEffectOk': WHATEVER THE INPUT: true; the input reads as it did. -/
def fnEffectOkSpec : ChangeSpec := { name := "fnEffectOk", fn := fun _ => fun
  | [d] => { results := [.lit (.bool true)], args := [d] }
  | _ => none }
def fnEffectOkRow : OpenClaim := { program := "ythnpcgmidnkffaa", sum := "a9e2ccd9d0a183a4df1a485af43ac804a9c7caab8281bfa6f177efd07b33ea2a", func := "loop.example/stackwords/laws.FnEffectOk", spec := "fnEffectOk", recurses := true, apart := false }
def FnEffectOkSaid : Prop := fnEffectOkRow.holds Try.pinned (OpenSpec.ofChange fnEffectOkSpec)

/-- ITS FALSE NEIGHBOUR: 'it returns false'. Refute it at one input. -/
def fnEffectOkWrong : ChangeSpec := { name := "fnEffectOk", fn := fun _ => fun
  | [d] => { results := [.lit (.bool false)], args := [d] }
  | _ => none }
def FnEffectOkWrongFalsely : Prop := fnEffectOkRow.holds Try.pinned (OpenSpec.ofChange fnEffectOkWrong)

/-- 'laws.FnNeedsOf': WHATEVER THE INPUT: true; the input reads as it did. -/
def fnNeedsOfSpec : ChangeSpec := { name := "fnNeedsOf", fn := fun _ => fun
  | [d] => { results := [.lit (.bool true)], args := [d] }
  | _ => none }
def fnNeedsOfRow : OpenClaim := { program := "ythnpcgmidnkffaa", sum := "a9e2ccd9d0a183a4df1a485af43ac804a9c7caab8281bfa6f177efd07b33ea2a", func := "loop.example/stackwords/laws.FnNeedsOf", spec := "fnNeedsOf", unfollowed := true, recurses := true, apart := false }
def FnNeedsOfSaid : Prop := fnNeedsOfRow.holds Try.pinned (OpenSpec.ofChange fnNeedsOfSpec)

/-- ITS FALSE NEIGHBOUR: 'it returns false'. Refute it at one input. -/
def fnNeedsOfWrong : ChangeSpec := { name := "fnNeedsOf", fn := fun _ => fun
  | [d] => { results := [.lit (.bool false)], args := [d] }
  | _ => none }
def FnNeedsOfWrongFalsely : Prop := fnNeedsOfRow.holds Try.pinned (OpenSpec.ofChange fnNeedsOfWrong)

/-- 'laws.FnExactCountOf': WHATEVER THE INPUT: true; the input reads as it did. -/
def fnExactCountOfSpec : ChangeSpec := { name := "fnExactCountOf", fn := fun _ => fun
  | [d] => { results := [.lit (.bool true)], args := [d] }
  | _ => none }
def fnExactCountOfRow : OpenClaim := { program := "ythnpcgmidnkffaa", sum := "a9e2ccd9d0a183a4df1a485af43ac804a9c7caab8281bfa6f177efd07b33ea2a", func := "loop.example/stackwords/laws.FnExactCountOf", spec := "fnExactCountOf", unfollowed := true, recurses := true, apart := false }
def FnExactCountOfSaid : Prop := fnExactCountOfRow.holds Try.pinned (OpenSpec.ofChange fnExactCountOfSpec)

/-- ITS FALSE NEIGHBOUR: 'it returns false'. Refute it at one input. -/
def fnExactCountOfWrong : ChangeSpec := { name := "fnExactCountOf", fn := fun _ => fun
  | [d] => { results := [.lit (.bool false)], args := [d] }
  | _ => none }
def FnExactCountOfWrongFalsely : Prop := fnExactCountOfRow.holds Try.pinned (OpenSpec.ofChange fnExactCountOfWrong)

/-- 'laws.FnExactMoreGeneral': WHATEVER THE INPUT: true; the input reads as it did. -/
def fnExactMoreGeneralSpec : ChangeSpec := { name := "fnExactMoreGeneral", fn := fun _ => fun
  | [d1, d2] => { results := [.lit (.bool true)], args := [d1, d2] }
  | _ => none }
def fnExactMoreGeneralRow : OpenClaim := { program := "ythnpcgmidnkffaa", sum := "a9e2ccd9d0a183a4df1a485af43ac804a9c7caab8281bfa6f177efd07b33ea2a", func := "loop.example/stackwords/laws.FnExactMoreGeneral", spec := "fnExactMoreGeneral", unfollowed := true, recurses := true, apart := false }
def FnExactMoreGeneralSaid : Prop := fnExactMoreGeneralRow.holds Try.pinned (OpenSpec.ofChange fnExactMoreGeneralSpec)

/-- ITS FALSE NEIGHBOUR: 'it returns false'. Refute it at one input. -/
def fnExactMoreGeneralWrong : ChangeSpec := { name := "fnExactMoreGeneral", fn := fun _ => fun
  | [d1, d2] => { results := [.lit (.bool false)], args := [d1, d2] }
  | _ => none }
def FnExactMoreGeneralWrongFalsely : Prop := fnExactMoreGeneralRow.holds Try.pinned (OpenSpec.ofChange fnExactMoreGeneralWrong)

/-- 'laws.FnExactEffectThen': WHATEVER THE INPUT: true; the input reads as it did. -/
def fnExactEffectThenSpec : ChangeSpec := { name := "fnExactEffectThen", fn := fun _ => fun
  | [d1, d2] => { results := [.lit (.bool true)], args := [d1, d2] }
  | _ => none }
def fnExactEffectThenRow : OpenClaim := { program := "ythnpcgmidnkffaa", sum := "a9e2ccd9d0a183a4df1a485af43ac804a9c7caab8281bfa6f177efd07b33ea2a", func := "loop.example/stackwords/laws.FnExactEffectThen", spec := "fnExactEffectThen", recurses := true, apart := false }
def FnExactEffectThenSaid : Prop := fnExactEffectThenRow.holds Try.pinned (OpenSpec.ofChange fnExactEffectThenSpec)

/-- ITS FALSE NEIGHBOUR: 'it returns false'. Refute it at one input. -/
def fnExactEffectThenWrong : ChangeSpec := { name := "fnExactEffectThen", fn := fun _ => fun
  | [d1, d2] => { results := [.lit (.bool false)], args := [d1, d2] }
  | _ => none }
def FnExactEffectThenWrongFalsely : Prop := fnExactEffectThenRow.holds Try.pinned (OpenSpec.ofChange fnExactEffectThenWrong)

/- THE SECOND FORM. 'bulk': how many values and letters a reading holds, each counted each time it is reached (what is shared counts as often as it is met; a slice's spare places count too). A statement '..UptoSaid' is the law's where the arguments, and the package variables that the reading takes, are together of bulk at most 1048576: NARROWER than '..Said'. Prove '..Said' where nothing that the law and all that it calls make is longer than what came in: it says more and counts as full. Else prove '..UptoSaid'. A law counts once. -/
mutual
def uptoBulk {H : Type} : DataW H → Nat
  | .lit (.string bytes) => bytes.length + 1
  | .lit _ => 1
  | .nil => 1
  | .ptr d => uptoBulk d + 1
  | .slice elems spare => uptoBulkAll elems + uptoBulkAll spare + 1
  | .agg parts => uptoBulkAll parts + 1
  | .iface _ d => uptoBulk d + 1
  | .map entries => uptoBulkEntries entries + 1
  | .held _ => 1
def uptoBulkAll {H : Type} : List (DataW H) → Nat
  | [] => 0
  | d :: r => uptoBulk d + uptoBulkAll r
def uptoBulkEntries {H : Type} : List (Lit × DataW H) → Nat
  | [] => 0
  | x :: r => uptoBulkEntry x + uptoBulkEntries r
def uptoBulkEntry {H : Type} : Lit × DataW H → Nat
  | (.string bytes, d) => bytes.length + uptoBulk d + 1
  | (_, d) => uptoBulk d + 1
 end
def uptoSmall : (H : Type) → List (DataW H) → Bool := fun _ ds => decide (uptoBulkAll ds ≤ 1048576)
def OpenSpec.upto (s : _root_.Go.ChangeSpec) : _root_.Go.OpenSpec := { _root_.Go.OpenSpec.ofChange s with cond := some uptoSmall }

/-- 'laws.FnExactWordEffect', WHERE WHAT IT READS IS OF BULK AT MOST 1048576: true; the input reads as it did. -/
def fnExactWordEffectUptoRow : OpenClaim := { program := "ythnpcgmidnkffaa", sum := "a9e2ccd9d0a183a4df1a485af43ac804a9c7caab8281bfa6f177efd07b33ea2a", func := "loop.example/stackwords/laws.FnExactWordEffect", spec := "fnExactWordEffect", apart := false, narrowed := true }
def FnExactWordEffectUptoSaid : Prop := fnExactWordEffectUptoRow.holds Try.pinned (OpenSpec.upto fnExactWordEffectSpec)

/-- 'laws.FnRowOk', WHERE WHAT IT READS IS OF BULK AT MOST 1048576: true; the input reads as it did. -/
def fnRowOkUptoRow : OpenClaim := { program := "ythnpcgmidnkffaa", sum := "a9e2ccd9d0a183a4df1a485af43ac804a9c7caab8281bfa6f177efd07b33ea2a", func := "loop.example/stackwords/laws.FnRowOk", spec := "fnRowOk", recurses := true, apart := false, narrowed := true }
def FnRowOkUptoSaid : Prop := fnRowOkUptoRow.holds Try.pinned (OpenSpec.upto fnRowOkSpec)

/-- 'laws.FnExactEffectOk', WHERE WHAT IT READS IS OF BULK AT MOST 1048576: true; the input reads as it did. -/
def fnExactEffectOkUptoRow : OpenClaim := { program := "ythnpcgmidnkffaa", sum := "a9e2ccd9d0a183a4df1a485af43ac804a9c7caab8281bfa6f177efd07b33ea2a", func := "loop.example/stackwords/laws.FnExactEffectOk", spec := "fnExactEffectOk", recurses := true, apart := false, narrowed := true }
def FnExactEffectOkUptoSaid : Prop := fnExactEffectOkUptoRow.holds Try.pinned (OpenSpec.upto fnExactEffectOkSpec)

/-- 'laws.FnExactNeedsOf', WHERE WHAT IT READS IS OF BULK AT MOST 1048576: true; the input reads as it did. -/
def fnExactNeedsOfUptoRow : OpenClaim := { program := "ythnpcgmidnkffaa", sum := "a9e2ccd9d0a183a4df1a485af43ac804a9c7caab8281bfa6f177efd07b33ea2a", func := "loop.example/stackwords/laws.FnExactNeedsOf", spec := "fnExactNeedsOf", unfollowed := true, recurses := true, apart := false, narrowed := true }
def FnExactNeedsOfUptoSaid : Prop := fnExactNeedsOfUptoRow.holds Try.pinned (OpenSpec.upto fnExactNeedsOfSpec)

/-- 'laws.FnEffectOk', WHERE WHAT IT READS IS OF BULK AT MOST 1048576: true; the input reads as it did. -/
def fnEffectOkUptoRow : OpenClaim := { program := "ythnpcgmidnkffaa", sum := "a9e2ccd9d0a183a4df1a485af43ac804a9c7caab8281bfa6f177efd07b33ea2a", func := "loop.example/stackwords/laws.FnEffectOk", spec := "fnEffectOk", recurses := true, apart := false, narrowed := true }
def FnEffectOkUptoSaid : Prop := fnEffectOkUptoRow.holds Try.pinned (OpenSpec.upto fnEffectOkSpec)

/-- 'laws.FnNeedsOf', WHERE WHAT IT READS IS OF BULK AT MOST 1048576: true; the input reads as it did. -/
def fnNeedsOfUptoRow : OpenClaim := { program := "ythnpcgmidnkffaa", sum := "a9e2ccd9d0a183a4df1a485af43ac804a9c7caab8281bfa6f177efd07b33ea2a", func := "loop.example/stackwords/laws.FnNeedsOf", spec := "fnNeedsOf", unfollowed := true, recurses := true, apart := false, narrowed := true }
def FnNeedsOfUptoSaid : Prop := fnNeedsOfUptoRow.holds Try.pinned (OpenSpec.upto fnNeedsOfSpec)

/-- 'laws.FnExactCountOf', WHERE WHAT IT READS IS OF BULK AT MOST 1048576: true; the input reads as it did. -/
def fnExactCountOfUptoRow : OpenClaim := { program := "ythnpcgmidnkffaa", sum := "a9e2ccd9d0a183a4df1a485af43ac804a9c7caab8281bfa6f177efd07b33ea2a", func := "loop.example/stackwords/laws.FnExactCountOf", spec := "fnExactCountOf", unfollowed := true, recurses := true, apart := false, narrowed := true }
def FnExactCountOfUptoSaid : Prop := fnExactCountOfUptoRow.holds Try.pinned (OpenSpec.upto fnExactCountOfSpec)

/-- 'laws.FnExactMoreGeneral', WHERE WHAT IT READS IS OF BULK AT MOST 1048576: true; the input reads as it did. -/
def fnExactMoreGeneralUptoRow : OpenClaim := { program := "ythnpcgmidnkffaa", sum := "a9e2ccd9d0a183a4df1a485af43ac804a9c7caab8281bfa6f177efd07b33ea2a", func := "loop.example/stackwords/laws.FnExactMoreGeneral", spec := "fnExactMoreGeneral", unfollowed := true, recurses := true, apart := false, narrowed := true }
def FnExactMoreGeneralUptoSaid : Prop := fnExactMoreGeneralUptoRow.holds Try.pinned (OpenSpec.upto fnExactMoreGeneralSpec)

/-- 'laws.FnExactEffectThen', WHERE WHAT IT READS IS OF BULK AT MOST 1048576: true; the input reads as it did. -/
def fnExactEffectThenUptoRow : OpenClaim := { program := "ythnpcgmidnkffaa", sum := "a9e2ccd9d0a183a4df1a485af43ac804a9c7caab8281bfa6f177efd07b33ea2a", func := "loop.example/stackwords/laws.FnExactEffectThen", spec := "fnExactEffectThen", recurses := true, apart := false, narrowed := true }
def FnExactEffectThenUptoSaid : Prop := fnExactEffectThenUptoRow.holds Try.pinned (OpenSpec.upto fnExactEffectThenSpec)

end Rows
end Go.Proofs.Ythnpcgmidnkffaa
