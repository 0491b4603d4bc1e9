/-
  No cell of these rows narrows 'for every input' (looked for: loops, veiled, ifaces, maps, wideKeys, modest, calm, conditions, laid).
  DERIVED. THE GIVEN ROWS OF THIS SEAT. 11 by the template 'for every input the law returns true; each argument reads behind the call as it read before'; 0 by the template 'total and deterministic' (their statements: YtnnacbnopdjdcaaTotals.lean).
  GIVEN WITH THE SEED: the statements are not yours to turn. If you find one false, say at which input.
  Laid BY PROGRAM, IN A SANDBOX (cutbox-rows.mjs): the forced cells as the released guide's own fill.sh prints them over the translation c2a237070bb866cd… (all of the seat's roots in one cut). By AI agents, Wed Nov 11 2026. No macro, syntax, notation, axiom, sorry.
-/
import Derived.Test.YtnnacbnopdjdcaaChecked
import GoSem.Claim
import GoSem.ClaimJoined
import GoSem.ClaimMapViews
import Derived.JoinedTies
import Derived.KernelRfl
namespace Go.Proofs.Ytnnacbnopdjdcaa
/- THE CELL 'sum', in the pinned program and in every row, IS THE sha256 OF THE DUMP (.gsa) THAT YtnnacbnopdjdcaaProg.lean LOADS. Nothing in Lean hashes anything: it is a label: what it is worth is what the hold of that sum in a sandbox is worth. -/
noncomputable def Try.pinned : Pinned := { name := "ytnnacbnopdjdcaa", sum := "c2a237070bb866cdd3c1f9521f8053d8e59424add249b8952b88cd816d16f201", checked := Try.checked }
namespace Rows
def none {H : Type} : Left H := { results := [], args := [] }

/-- 'laws.FnIsShuffle': WHATEVER THE INPUT: true; the input reads as it did. -/
def fnIsShuffleSpec : ChangeSpec := { name := "fnIsShuffle", fn := fun _ => fun
  | [d] => { results := [.lit (.bool true)], args := [d] }
  | _ => none }
def fnIsShuffleRow : OpenClaim := { program := "ytnnacbnopdjdcaa", sum := "c2a237070bb866cdd3c1f9521f8053d8e59424add249b8952b88cd816d16f201", func := "loop.example/stackwords/laws.FnIsShuffle", spec := "fnIsShuffle", recurses := true, apart := false }
def FnIsShuffleSaid : Prop := fnIsShuffleRow.holds Try.pinned (OpenSpec.ofChange fnIsShuffleSpec)

/-- ITS FALSE NEIGHBOUR: 'it returns false'. Refute it at one input. -/
def fnIsShuffleWrong : ChangeSpec := { name := "fnIsShuffle", fn := fun _ => fun
  | [d] => { results := [.lit (.bool false)], args := [d] }
  | _ => none }
def FnIsShuffleWrongFalsely : Prop := fnIsShuffleRow.holds Try.pinned (OpenSpec.ofChange fnIsShuffleWrong)

/-- 'laws.FnPlacesOf': WHATEVER THE INPUT: true; the input reads as it did. -/
def fnPlacesOfSpec : ChangeSpec := { name := "fnPlacesOf", fn := fun _ => fun
  | [d1, d2] => { results := [.lit (.bool true)], args := [d1, d2] }
  | _ => none }
def fnPlacesOfRow : OpenClaim := { program := "ytnnacbnopdjdcaa", sum := "c2a237070bb866cdd3c1f9521f8053d8e59424add249b8952b88cd816d16f201", func := "loop.example/stackwords/laws.FnPlacesOf", spec := "fnPlacesOf", unfollowed := true, recurses := true, apart := false }
def FnPlacesOfSaid : Prop := fnPlacesOfRow.holds Try.pinned (OpenSpec.ofChange fnPlacesOfSpec)

/-- ITS FALSE NEIGHBOUR: 'it returns false'. Refute it at one input. -/
def fnPlacesOfWrong : ChangeSpec := { name := "fnPlacesOf", fn := fun _ => fun
  | [d1, d2] => { results := [.lit (.bool false)], args := [d1, d2] }
  | _ => none }
def FnPlacesOfWrongFalsely : Prop := fnPlacesOfRow.holds Try.pinned (OpenSpec.ofChange fnPlacesOfWrong)

/-- 'laws.FnSameShuffle': WHATEVER THE INPUT: true; the input reads as it did. -/
def fnSameShuffleSpec : ChangeSpec := { name := "fnSameShuffle", fn := fun _ => fun
  | [d1, d2] => { results := [.lit (.bool true)], args := [d1, d2] }
  | _ => none }
def fnSameShuffleRow : OpenClaim := { program := "ytnnacbnopdjdcaa", sum := "c2a237070bb866cdd3c1f9521f8053d8e59424add249b8952b88cd816d16f201", func := "loop.example/stackwords/laws.FnSameShuffle", spec := "fnSameShuffle", unfollowed := true, recurses := true, apart := false }
def FnSameShuffleSaid : Prop := fnSameShuffleRow.holds Try.pinned (OpenSpec.ofChange fnSameShuffleSpec)

/-- ITS FALSE NEIGHBOUR: 'it returns false'. Refute it at one input. -/
def fnSameShuffleWrong : ChangeSpec := { name := "fnSameShuffle", fn := fun _ => fun
  | [d1, d2] => { results := [.lit (.bool false)], args := [d1, d2] }
  | _ => none }
def FnSameShuffleWrongFalsely : Prop := fnSameShuffleRow.holds Try.pinned (OpenSpec.ofChange fnSameShuffleWrong)

/-- 'laws.FnShuffleFor': WHATEVER THE INPUT: true; the input reads as it did. -/
def fnShuffleForSpec : ChangeSpec := { name := "fnShuffleFor", fn := fun _ => fun
  | [d] => { results := [.lit (.bool true)], args := [d] }
  | _ => none }
def fnShuffleForRow : OpenClaim := { program := "ytnnacbnopdjdcaa", sum := "c2a237070bb866cdd3c1f9521f8053d8e59424add249b8952b88cd816d16f201", func := "loop.example/stackwords/laws.FnShuffleFor", spec := "fnShuffleFor", unfollowed := true, recurses := true, apart := false }
def FnShuffleForSaid : Prop := fnShuffleForRow.holds Try.pinned (OpenSpec.ofChange fnShuffleForSpec)

/-- ITS FALSE NEIGHBOUR: 'it returns false'. Refute it at one input. -/
def fnShuffleForWrong : ChangeSpec := { name := "fnShuffleFor", fn := fun _ => fun
  | [d] => { results := [.lit (.bool false)], args := [d] }
  | _ => none }
def FnShuffleForWrongFalsely : Prop := fnShuffleForRow.holds Try.pinned (OpenSpec.ofChange fnShuffleForWrong)

/-- 'laws.FnPlacesThen': WHATEVER THE INPUT: true; the input reads as it did. -/
def fnPlacesThenSpec : ChangeSpec := { name := "fnPlacesThen", fn := fun _ => fun
  | [d] => { results := [.lit (.bool true)], args := [d] }
  | _ => none }
def fnPlacesThenRow : OpenClaim := { program := "ytnnacbnopdjdcaa", sum := "c2a237070bb866cdd3c1f9521f8053d8e59424add249b8952b88cd816d16f201", func := "loop.example/stackwords/laws.FnPlacesThen", spec := "fnPlacesThen", unfollowed := true, recurses := true, apart := false }
def FnPlacesThenSaid : Prop := fnPlacesThenRow.holds Try.pinned (OpenSpec.ofChange fnPlacesThenSpec)

/-- ITS FALSE NEIGHBOUR: 'it returns false'. Refute it at one input. -/
def fnPlacesThenWrong : ChangeSpec := { name := "fnPlacesThen", fn := fun _ => fun
  | [d] => { results := [.lit (.bool false)], args := [d] }
  | _ => none }
def FnPlacesThenWrongFalsely : Prop := fnPlacesThenRow.holds Try.pinned (OpenSpec.ofChange fnPlacesThenWrong)

/-- 'laws.FnExactIsShuffle': WHATEVER THE INPUT: true; the input reads as it did. -/
def fnExactIsShuffleSpec : ChangeSpec := { name := "fnExactIsShuffle", fn := fun _ => fun
  | [d] => { results := [.lit (.bool true)], args := [d] }
  | _ => none }
def fnExactIsShuffleRow : OpenClaim := { program := "ytnnacbnopdjdcaa", sum := "c2a237070bb866cdd3c1f9521f8053d8e59424add249b8952b88cd816d16f201", func := "loop.example/stackwords/laws.FnExactIsShuffle", spec := "fnExactIsShuffle", recurses := true, apart := false }
def FnExactIsShuffleSaid : Prop := fnExactIsShuffleRow.holds Try.pinned (OpenSpec.ofChange fnExactIsShuffleSpec)

/-- ITS FALSE NEIGHBOUR: 'it returns false'. Refute it at one input. -/
def fnExactIsShuffleWrong : ChangeSpec := { name := "fnExactIsShuffle", fn := fun _ => fun
  | [d] => { results := [.lit (.bool false)], args := [d] }
  | _ => none }
def FnExactIsShuffleWrongFalsely : Prop := fnExactIsShuffleRow.holds Try.pinned (OpenSpec.ofChange fnExactIsShuffleWrong)

/-- 'laws.FnExactPlacesOf': WHATEVER THE INPUT: true; the input reads as it did. -/
def fnExactPlacesOfSpec : ChangeSpec := { name := "fnExactPlacesOf", fn := fun _ => fun
  | [d1, d2] => { results := [.lit (.bool true)], args := [d1, d2] }
  | _ => none }
def fnExactPlacesOfRow : OpenClaim := { program := "ytnnacbnopdjdcaa", sum := "c2a237070bb866cdd3c1f9521f8053d8e59424add249b8952b88cd816d16f201", func := "loop.example/stackwords/laws.FnExactPlacesOf", spec := "fnExactPlacesOf", recurses := true, apart := false }
def FnExactPlacesOfSaid : Prop := fnExactPlacesOfRow.holds Try.pinned (OpenSpec.ofChange fnExactPlacesOfSpec)

/-- ITS FALSE NEIGHBOUR: 'it returns false'. Refute it at one input. -/
def fnExactPlacesOfWrong : ChangeSpec := { name := "fnExactPlacesOf", fn := fun _ => fun
  | [d1, d2] => { results := [.lit (.bool false)], args := [d1, d2] }
  | _ => none }
def FnExactPlacesOfWrongFalsely : Prop := fnExactPlacesOfRow.holds Try.pinned (OpenSpec.ofChange fnExactPlacesOfWrong)

/-- 'laws.FnExactTakesOf': WHATEVER THE INPUT: true; the input reads as it did. -/
def fnExactTakesOfSpec : ChangeSpec := { name := "fnExactTakesOf", fn := fun _ => fun
  | [d] => { results := [.lit (.bool true)], args := [d] }
  | _ => none }
def fnExactTakesOfRow : OpenClaim := { program := "ytnnacbnopdjdcaa", sum := "c2a237070bb866cdd3c1f9521f8053d8e59424add249b8952b88cd816d16f201", func := "loop.example/stackwords/laws.FnExactTakesOf", spec := "fnExactTakesOf", recurses := true, apart := false }
def FnExactTakesOfSaid : Prop := fnExactTakesOfRow.holds Try.pinned (OpenSpec.ofChange fnExactTakesOfSpec)

/-- ITS FALSE NEIGHBOUR: 'it returns false'. Refute it at one input. -/
def fnExactTakesOfWrong : ChangeSpec := { name := "fnExactTakesOf", fn := fun _ => fun
  | [d] => { results := [.lit (.bool false)], args := [d] }
  | _ => none }
def FnExactTakesOfWrongFalsely : Prop := fnExactTakesOfRow.holds Try.pinned (OpenSpec.ofChange fnExactTakesOfWrong)

/-- 'laws.FnExactSameShuffle': WHATEVER THE INPUT: true; the input reads as it did. -/
def fnExactSameShuffleSpec : ChangeSpec := { name := "fnExactSameShuffle", fn := fun _ => fun
  | [d1, d2] => { results := [.lit (.bool true)], args := [d1, d2] }
  | _ => none }
def fnExactSameShuffleRow : OpenClaim := { program := "ytnnacbnopdjdcaa", sum := "c2a237070bb866cdd3c1f9521f8053d8e59424add249b8952b88cd816d16f201", func := "loop.example/stackwords/laws.FnExactSameShuffle", spec := "fnExactSameShuffle", recurses := true, apart := false }
def FnExactSameShuffleSaid : Prop := fnExactSameShuffleRow.holds Try.pinned (OpenSpec.ofChange fnExactSameShuffleSpec)

/-- ITS FALSE NEIGHBOUR: 'it returns false'. Refute it at one input. -/
def fnExactSameShuffleWrong : ChangeSpec := { name := "fnExactSameShuffle", fn := fun _ => fun
  | [d1, d2] => { results := [.lit (.bool false)], args := [d1, d2] }
  | _ => none }
def FnExactSameShuffleWrongFalsely : Prop := fnExactSameShuffleRow.holds Try.pinned (OpenSpec.ofChange fnExactSameShuffleWrong)

/-- 'laws.FnExactShuffleFor': WHATEVER THE INPUT: true; the input reads as it did. -/
def fnExactShuffleForSpec : ChangeSpec := { name := "fnExactShuffleFor", fn := fun _ => fun
  | [d1, d2] => { results := [.lit (.bool true)], args := [d1, d2] }
  | _ => none }
def fnExactShuffleForRow : OpenClaim := { program := "ytnnacbnopdjdcaa", sum := "c2a237070bb866cdd3c1f9521f8053d8e59424add249b8952b88cd816d16f201", func := "loop.example/stackwords/laws.FnExactShuffleFor", spec := "fnExactShuffleFor", unfollowed := true, recurses := true, apart := false }
def FnExactShuffleForSaid : Prop := fnExactShuffleForRow.holds Try.pinned (OpenSpec.ofChange fnExactShuffleForSpec)

/-- ITS FALSE NEIGHBOUR: 'it returns false'. Refute it at one input. -/
def fnExactShuffleForWrong : ChangeSpec := { name := "fnExactShuffleFor", fn := fun _ => fun
  | [d1, d2] => { results := [.lit (.bool false)], args := [d1, d2] }
  | _ => none }
def FnExactShuffleForWrongFalsely : Prop := fnExactShuffleForRow.holds Try.pinned (OpenSpec.ofChange fnExactShuffleForWrong)

/-- 'laws.FnExactPlacesThen': WHATEVER THE INPUT: true; the input reads as it did. -/
def fnExactPlacesThenSpec : ChangeSpec := { name := "fnExactPlacesThen", fn := fun _ => fun
  | [d1, d2] => { results := [.lit (.bool true)], args := [d1, d2] }
  | _ => none }
def fnExactPlacesThenRow : OpenClaim := { program := "ytnnacbnopdjdcaa", sum := "c2a237070bb866cdd3c1f9521f8053d8e59424add249b8952b88cd816d16f201", func := "loop.example/stackwords/laws.FnExactPlacesThen", spec := "fnExactPlacesThen", apart := false }
def FnExactPlacesThenSaid : Prop := fnExactPlacesThenRow.holds Try.pinned (OpenSpec.ofChange fnExactPlacesThenSpec)

/-- ITS FALSE NEIGHBOUR: 'it returns false'. Refute it at one input. -/
def fnExactPlacesThenWrong : ChangeSpec := { name := "fnExactPlacesThen", fn := fun _ => fun
  | [d1, d2] => { results := [.lit (.bool false)], args := [d1, d2] }
  | _ => none }
def FnExactPlacesThenWrongFalsely : Prop := fnExactPlacesThenRow.holds Try.pinned (OpenSpec.ofChange fnExactPlacesThenWrong)

/- THE SECOND FORM. 'bulk': how many values and letters a reading holds, each counted each time it is reached (what is shared counts as often as it is met; a slice's spare places count too). A statement '..UptoSaid' is the law's where the arguments, and the package variables that the reading takes, are together of bulk at most 1048576: NARROWER than '..Said'. Prove '..Said' where nothing that the law and all that it calls make is longer than what came in: it says more and counts as full. Else prove '..UptoSaid'. A law counts once. -/
mutual
def uptoBulk {H : Type} : DataW H → Nat
  | .lit (.string bytes) => bytes.length + 1
  | .lit _ => 1
  | .nil => 1
  | .ptr d => uptoBulk d + 1
  | .slice elems spare => uptoBulkAll elems + uptoBulkAll spare + 1
  | .agg parts => uptoBulkAll parts + 1
  | .iface _ d => uptoBulk d + 1
  | .map entries => uptoBulkEntries entries + 1
  | .held _ => 1
def uptoBulkAll {H : Type} : List (DataW H) → Nat
  | [] => 0
  | d :: r => uptoBulk d + uptoBulkAll r
def uptoBulkEntries {H : Type} : List (Lit × DataW H) → Nat
  | [] => 0
  | x :: r => uptoBulkEntry x + uptoBulkEntries r
def uptoBulkEntry {H : Type} : Lit × DataW H → Nat
  | (.string bytes, d) => bytes.length + uptoBulk d + 1
  | (_, d) => uptoBulk d + 1
 end
def uptoSmall : (H : Type) → List (DataW H) → Bool := fun _ ds => decide (uptoBulkAll ds ≤ 1048576)
def OpenSpec.upto (s : _root_.Go.ChangeSpec) : _root_.Go.OpenSpec := { _root_.Go.OpenSpec.ofChange s with cond := some uptoSmall }

/-- 'laws.FnIsShuffle', WHERE WHAT IT READS IS OF BULK AT MOST 1048576: true; the input reads as it did. -/
def fnIsShuffleUptoRow : OpenClaim := { program := "ytnnacbnopdjdcaa", sum := "c2a237070bb866cdd3c1f9521f8053d8e59424add249b8952b88cd816d16f201", func := "loop.example/stackwords/laws.FnIsShuffle", spec := "fnIsShuffle", recurses := true, apart := false, narrowed := true }
def FnIsShuffleUptoSaid : Prop := fnIsShuffleUptoRow.holds Try.pinned (OpenSpec.upto fnIsShuffleSpec)

/-- 'laws.FnPlacesOf', WHERE WHAT IT READS IS OF BULK AT MOST 1048576: true; the input reads as it did. -/
def fnPlacesOfUptoRow : OpenClaim := { program := "ytnnacbnopdjdcaa", sum := "c2a237070bb866cdd3c1f9521f8053d8e59424add249b8952b88cd816d16f201", func := "loop.example/stackwords/laws.FnPlacesOf", spec := "fnPlacesOf", unfollowed := true, recurses := true, apart := false, narrowed := true }
def FnPlacesOfUptoSaid : Prop := fnPlacesOfUptoRow.holds Try.pinned (OpenSpec.upto fnPlacesOfSpec)

/-- 'laws.FnSameShuffle', WHERE WHAT IT READS IS OF BULK AT MOST 1048576: true; the input reads as it did. -/
def fnSameShuffleUptoRow : OpenClaim := { program := "ytnnacbnopdjdcaa", sum := "c2a237070bb866cdd3c1f9521f8053d8e59424add249b8952b88cd816d16f201", func := "loop.example/stackwords/laws.FnSameShuffle", spec := "fnSameShuffle", unfollowed := true, recurses := true, apart := false, narrowed := true }
def FnSameShuffleUptoSaid : Prop := fnSameShuffleUptoRow.holds Try.pinned (OpenSpec.upto fnSameShuffleSpec)

/-- 'laws.FnShuffleFor', WHERE WHAT IT READS IS OF BULK AT MOST 1048576: true; the input reads as it did. -/
def fnShuffleForUptoRow : OpenClaim := { program := "ytnnacbnopdjdcaa", sum := "c2a237070bb866cdd3c1f9521f8053d8e59424add249b8952b88cd816d16f201", func := "loop.example/stackwords/laws.FnShuffleFor", spec := "fnShuffleFor", unfollowed := true, recurses := true, apart := false, narrowed := true }
def FnShuffleForUptoSaid : Prop := fnShuffleForUptoRow.holds Try.pinned (OpenSpec.upto fnShuffleForSpec)

/-- 'laws.FnPlacesThen', WHERE WHAT IT READS IS OF BULK AT MOST 1048576: true; the input reads as it did. -/
def fnPlacesThenUptoRow : OpenClaim := { program := "ytnnacbnopdjdcaa", sum := "c2a237070bb866cdd3c1f9521f8053d8e59424add249b8952b88cd816d16f201", func := "loop.example/stackwords/laws.FnPlacesThen", spec := "fnPlacesThen", unfollowed := true, recurses := true, apart := false, narrowed := true }
def FnPlacesThenUptoSaid : Prop := fnPlacesThenUptoRow.holds Try.pinned (OpenSpec.upto fnPlacesThenSpec)

/-- 'laws.FnExactIsShuffle', WHERE WHAT IT READS IS OF BULK AT MOST 1048576: true; the input reads as it did. -/
def fnExactIsShuffleUptoRow : OpenClaim := { program := "ytnnacbnopdjdcaa", sum := "c2a237070bb866cdd3c1f9521f8053d8e59424add249b8952b88cd816d16f201", func := "loop.example/stackwords/laws.FnExactIsShuffle", spec := "fnExactIsShuffle", recurses := true, apart := false, narrowed := true }
def FnExactIsShuffleUptoSaid : Prop := fnExactIsShuffleUptoRow.holds Try.pinned (OpenSpec.upto fnExactIsShuffleSpec)

/-- 'laws.FnExactPlacesOf', WHERE WHAT IT READS IS OF BULK AT MOST 1048576: true; the input reads as it did. -/
def fnExactPlacesOfUptoRow : OpenClaim := { program := "ytnnacbnopdjdcaa", sum := "c2a237070bb866cdd3c1f9521f8053d8e59424add249b8952b88cd816d16f201", func := "loop.example/stackwords/laws.FnExactPlacesOf", spec := "fnExactPlacesOf", recurses := true, apart := false, narrowed := true }
def FnExactPlacesOfUptoSaid : Prop := fnExactPlacesOfUptoRow.holds Try.pinned (OpenSpec.upto fnExactPlacesOfSpec)

/-- 'laws.FnExactTakesOf', WHERE WHAT IT READS IS OF BULK AT MOST 1048576: true; the input reads as it did. -/
def fnExactTakesOfUptoRow : OpenClaim := { program := "ytnnacbnopdjdcaa", sum := "c2a237070bb866cdd3c1f9521f8053d8e59424add249b8952b88cd816d16f201", func := "loop.example/stackwords/laws.FnExactTakesOf", spec := "fnExactTakesOf", recurses := true, apart := false, narrowed := true }
def FnExactTakesOfUptoSaid : Prop := fnExactTakesOfUptoRow.holds Try.pinned (OpenSpec.upto fnExactTakesOfSpec)

/-- 'laws.FnExactSameShuffle', WHERE WHAT IT READS IS OF BULK AT MOST 1048576: true; the input reads as it did. -/
def fnExactSameShuffleUptoRow : OpenClaim := { program := "ytnnacbnopdjdcaa", sum := "c2a237070bb866cdd3c1f9521f8053d8e59424add249b8952b88cd816d16f201", func := "loop.example/stackwords/laws.FnExactSameShuffle", spec := "fnExactSameShuffle", recurses := true, apart := false, narrowed := true }
def FnExactSameShuffleUptoSaid : Prop := fnExactSameShuffleUptoRow.holds Try.pinned (OpenSpec.upto fnExactSameShuffleSpec)

/-- 'laws.FnExactShuffleFor', WHERE WHAT IT READS IS OF BULK AT MOST 1048576: true; the input reads as it did. -/
def fnExactShuffleForUptoRow : OpenClaim := { program := "ytnnacbnopdjdcaa", sum := "c2a237070bb866cdd3c1f9521f8053d8e59424add249b8952b88cd816d16f201", func := "loop.example/stackwords/laws.FnExactShuffleFor", spec := "fnExactShuffleFor", unfollowed := true, recurses := true, apart := false, narrowed := true }
def FnExactShuffleForUptoSaid : Prop := fnExactShuffleForUptoRow.holds Try.pinned (OpenSpec.upto fnExactShuffleForSpec)

/-- 'laws.FnExactPlacesThen', WHERE WHAT IT READS IS OF BULK AT MOST 1048576: true; the input reads as it did. -/
def fnExactPlacesThenUptoRow : OpenClaim := { program := "ytnnacbnopdjdcaa", sum := "c2a237070bb866cdd3c1f9521f8053d8e59424add249b8952b88cd816d16f201", func := "loop.example/stackwords/laws.FnExactPlacesThen", spec := "fnExactPlacesThen", apart := false, narrowed := true }
def FnExactPlacesThenUptoSaid : Prop := fnExactPlacesThenUptoRow.holds Try.pinned (OpenSpec.upto fnExactPlacesThenSpec)

end Rows
end Go.Proofs.Ytnnacbnopdjdcaa
