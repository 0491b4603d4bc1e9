/-
  No cell of these rows narrows 'for every input' (looked for: loops, veiled, ifaces, maps, wideKeys, modest, calm, conditions, laid).
  DERIVED. THE GIVEN ROWS OF THIS SEAT. 12 by the template 'for every input the law returns true; each argument reads behind the call as it read before'; 0 by the template 'total and deterministic' (their statements: YtjbfpbajbjnifaaTotals.lean).
  GIVEN WITH THE SEED: the statements are not yours to turn. If you find one false, say at which input.
  Laid BY PROGRAM, IN A SANDBOX (cutbox-rows.mjs): the forced cells as the released guide's own fill.sh prints them over the translation 56024032b70e6382… (all of the seat's roots in one cut). By AI agents, Wed Nov 11 2026. No macro, syntax, notation, axiom, sorry.
-/
import Derived.Test.YtjbfpbajbjnifaaChecked
import GoSem.Claim
import GoSem.ClaimJoined
import GoSem.ClaimMapViews
import Derived.JoinedTies
import Derived.KernelRfl
namespace Go.Proofs.Ytjbfpbajbjnifaa
/- THE CELL 'sum', in the pinned program and in every row, IS THE sha256 OF THE DUMP (.gsa) THAT YtjbfpbajbjnifaaProg.lean LOADS. Nothing in Lean hashes anything: it is a label: what it is worth is what the hold of that sum in a sandbox is worth. -/
noncomputable def Try.pinned : Pinned := { name := "ytjbfpbajbjnifaa", sum := "56024032b70e63829a784dc6a2d7b8ac9f26d8918aba42df78a30a1c7b0f9bb3", checked := Try.checked }
namespace Rows
def none {H : Type} : Left H := { results := [], args := [] }

/-- 'laws.FnStateOk': WHATEVER THE INPUT: true; the input reads as it did. -/
def fnStateOkSpec : ChangeSpec := { name := "fnStateOk", fn := fun _ => fun
  | [d] => { results := [.lit (.bool true)], args := [d] }
  | _ => none }
def fnStateOkRow : OpenClaim := { program := "ytjbfpbajbjnifaa", sum := "56024032b70e63829a784dc6a2d7b8ac9f26d8918aba42df78a30a1c7b0f9bb3", func := "loop.example/stackwords/laws.FnStateOk", spec := "fnStateOk", recurses := true, apart := false }
def FnStateOkSaid : Prop := fnStateOkRow.holds Try.pinned (OpenSpec.ofChange fnStateOkSpec)

/-- ITS FALSE NEIGHBOUR: 'it returns false'. Refute it at one input. -/
def fnStateOkWrong : ChangeSpec := { name := "fnStateOk", fn := fun _ => fun
  | [d] => { results := [.lit (.bool false)], args := [d] }
  | _ => none }
def FnStateOkWrongFalsely : Prop := fnStateOkRow.holds Try.pinned (OpenSpec.ofChange fnStateOkWrong)

/-- 'laws.FnNeedsOf': WHATEVER THE INPUT: true; the input reads as it did. -/
def fnNeedsOfSpec : ChangeSpec := { name := "fnNeedsOf", fn := fun _ => fun
  | [d] => { results := [.lit (.bool true)], args := [d] }
  | _ => none }
def fnNeedsOfRow : OpenClaim := { program := "ytjbfpbajbjnifaa", sum := "56024032b70e63829a784dc6a2d7b8ac9f26d8918aba42df78a30a1c7b0f9bb3", func := "loop.example/stackwords/laws.FnNeedsOf", spec := "fnNeedsOf", unfollowed := true, recurses := true, apart := false }
def FnNeedsOfSaid : Prop := fnNeedsOfRow.holds Try.pinned (OpenSpec.ofChange fnNeedsOfSpec)

/-- ITS FALSE NEIGHBOUR: 'it returns false'. Refute it at one input. -/
def fnNeedsOfWrong : ChangeSpec := { name := "fnNeedsOf", fn := fun _ => fun
  | [d] => { results := [.lit (.bool false)], args := [d] }
  | _ => none }
def FnNeedsOfWrongFalsely : Prop := fnNeedsOfRow.holds Try.pinned (OpenSpec.ofChange fnNeedsOfWrong)

/-- 'laws.FnPlacesOf': WHATEVER THE INPUT: true; the input reads as it did. -/
def fnPlacesOfSpec : ChangeSpec := { name := "fnPlacesOf", fn := fun _ => fun
  | [d1, d2] => { results := [.lit (.bool true)], args := [d1, d2] }
  | _ => none }
def fnPlacesOfRow : OpenClaim := { program := "ytjbfpbajbjnifaa", sum := "56024032b70e63829a784dc6a2d7b8ac9f26d8918aba42df78a30a1c7b0f9bb3", func := "loop.example/stackwords/laws.FnPlacesOf", spec := "fnPlacesOf", unfollowed := true, recurses := true, apart := false }
def FnPlacesOfSaid : Prop := fnPlacesOfRow.holds Try.pinned (OpenSpec.ofChange fnPlacesOfSpec)

/-- ITS FALSE NEIGHBOUR: 'it returns false'. Refute it at one input. -/
def fnPlacesOfWrong : ChangeSpec := { name := "fnPlacesOf", fn := fun _ => fun
  | [d1, d2] => { results := [.lit (.bool false)], args := [d1, d2] }
  | _ => none }
def FnPlacesOfWrongFalsely : Prop := fnPlacesOfRow.holds Try.pinned (OpenSpec.ofChange fnPlacesOfWrong)

/-- 'laws.FnSameShuffle': WHATEVER THE INPUT: true; the input reads as it did. -/
def fnSameShuffleSpec : ChangeSpec := { name := "fnSameShuffle", fn := fun _ => fun
  | [d1, d2] => { results := [.lit (.bool true)], args := [d1, d2] }
  | _ => none }
def fnSameShuffleRow : OpenClaim := { program := "ytjbfpbajbjnifaa", sum := "56024032b70e63829a784dc6a2d7b8ac9f26d8918aba42df78a30a1c7b0f9bb3", func := "loop.example/stackwords/laws.FnSameShuffle", spec := "fnSameShuffle", unfollowed := true, recurses := true, apart := false }
def FnSameShuffleSaid : Prop := fnSameShuffleRow.holds Try.pinned (OpenSpec.ofChange fnSameShuffleSpec)

/-- ITS FALSE NEIGHBOUR: 'it returns false'. Refute it at one input. -/
def fnSameShuffleWrong : ChangeSpec := { name := "fnSameShuffle", fn := fun _ => fun
  | [d1, d2] => { results := [.lit (.bool false)], args := [d1, d2] }
  | _ => none }
def FnSameShuffleWrongFalsely : Prop := fnSameShuffleRow.holds Try.pinned (OpenSpec.ofChange fnSameShuffleWrong)

/-- 'laws.FnShuffleFor': WHATEVER THE INPUT: true; the input reads as it did. -/
def fnShuffleForSpec : ChangeSpec := { name := "fnShuffleFor", fn := fun _ => fun
  | [d] => { results := [.lit (.bool true)], args := [d] }
  | _ => none }
def fnShuffleForRow : OpenClaim := { program := "ytjbfpbajbjnifaa", sum := "56024032b70e63829a784dc6a2d7b8ac9f26d8918aba42df78a30a1c7b0f9bb3", func := "loop.example/stackwords/laws.FnShuffleFor", spec := "fnShuffleFor", unfollowed := true, recurses := true, apart := false }
def FnShuffleForSaid : Prop := fnShuffleForRow.holds Try.pinned (OpenSpec.ofChange fnShuffleForSpec)

/-- ITS FALSE NEIGHBOUR: 'it returns false'. Refute it at one input. -/
def fnShuffleForWrong : ChangeSpec := { name := "fnShuffleFor", fn := fun _ => fun
  | [d] => { results := [.lit (.bool false)], args := [d] }
  | _ => none }
def FnShuffleForWrongFalsely : Prop := fnShuffleForRow.holds Try.pinned (OpenSpec.ofChange fnShuffleForWrong)

/-- 'laws.FnPlacesThen': WHATEVER THE INPUT: true; the input reads as it did. -/
def fnPlacesThenSpec : ChangeSpec := { name := "fnPlacesThen", fn := fun _ => fun
  | [d] => { results := [.lit (.bool true)], args := [d] }
  | _ => none }
def fnPlacesThenRow : OpenClaim := { program := "ytjbfpbajbjnifaa", sum := "56024032b70e63829a784dc6a2d7b8ac9f26d8918aba42df78a30a1c7b0f9bb3", func := "loop.example/stackwords/laws.FnPlacesThen", spec := "fnPlacesThen", unfollowed := true, recurses := true, apart := false }
def FnPlacesThenSaid : Prop := fnPlacesThenRow.holds Try.pinned (OpenSpec.ofChange fnPlacesThenSpec)

/-- ITS FALSE NEIGHBOUR: 'it returns false'. Refute it at one input. -/
def fnPlacesThenWrong : ChangeSpec := { name := "fnPlacesThen", fn := fun _ => fun
  | [d] => { results := [.lit (.bool false)], args := [d] }
  | _ => none }
def FnPlacesThenWrongFalsely : Prop := fnPlacesThenRow.holds Try.pinned (OpenSpec.ofChange fnPlacesThenWrong)

/-- 'laws.FnExactEffectOk': WHATEVER THE INPUT: true; the input reads as it did. -/
def fnExactEffectOkSpec : ChangeSpec := { name := "fnExactEffectOk", fn := fun _ => fun
  | [d] => { results := [.lit (.bool true)], args := [d] }
  | _ => none }
def fnExactEffectOkRow : OpenClaim := { program := "ytjbfpbajbjnifaa", sum := "56024032b70e63829a784dc6a2d7b8ac9f26d8918aba42df78a30a1c7b0f9bb3", func := "loop.example/stackwords/laws.FnExactEffectOk", spec := "fnExactEffectOk", recurses := true, apart := false }
def FnExactEffectOkSaid : Prop := fnExactEffectOkRow.holds Try.pinned (OpenSpec.ofChange fnExactEffectOkSpec)

/-- ITS FALSE NEIGHBOUR: 'it returns false'. Refute it at one input. -/
def fnExactEffectOkWrong : ChangeSpec := { name := "fnExactEffectOk", fn := fun _ => fun
  | [d] => { results := [.lit (.bool false)], args := [d] }
  | _ => none }
def FnExactEffectOkWrongFalsely : Prop := fnExactEffectOkRow.holds Try.pinned (OpenSpec.ofChange fnExactEffectOkWrong)

/-- 'laws.FnExactNeedsOf': WHATEVER THE INPUT: true; the input reads as it did. -/
def fnExactNeedsOfSpec : ChangeSpec := { name := "fnExactNeedsOf", fn := fun _ => fun
  | [d] => { results := [.lit (.bool true)], args := [d] }
  | _ => none }
def fnExactNeedsOfRow : OpenClaim := { program := "ytjbfpbajbjnifaa", sum := "56024032b70e63829a784dc6a2d7b8ac9f26d8918aba42df78a30a1c7b0f9bb3", func := "loop.example/stackwords/laws.FnExactNeedsOf", spec := "fnExactNeedsOf", unfollowed := true, recurses := true, apart := false }
def FnExactNeedsOfSaid : Prop := fnExactNeedsOfRow.holds Try.pinned (OpenSpec.ofChange fnExactNeedsOfSpec)

/-- ITS FALSE NEIGHBOUR: 'it returns false'. Refute it at one input. -/
def fnExactNeedsOfWrong : ChangeSpec := { name := "fnExactNeedsOf", fn := fun _ => fun
  | [d] => { results := [.lit (.bool false)], args := [d] }
  | _ => none }
def FnExactNeedsOfWrongFalsely : Prop := fnExactNeedsOfRow.holds Try.pinned (OpenSpec.ofChange fnExactNeedsOfWrong)

/-- 'laws.FnExactCountOf': WHATEVER THE INPUT: true; the input reads as it did. -/
def fnExactCountOfSpec : ChangeSpec := { name := "fnExactCountOf", fn := fun _ => fun
  | [d] => { results := [.lit (.bool true)], args := [d] }
  | _ => none }
def fnExactCountOfRow : OpenClaim := { program := "ytjbfpbajbjnifaa", sum := "56024032b70e63829a784dc6a2d7b8ac9f26d8918aba42df78a30a1c7b0f9bb3", func := "loop.example/stackwords/laws.FnExactCountOf", spec := "fnExactCountOf", unfollowed := true, recurses := true, apart := false }
def FnExactCountOfSaid : Prop := fnExactCountOfRow.holds Try.pinned (OpenSpec.ofChange fnExactCountOfSpec)

/-- ITS FALSE NEIGHBOUR: 'it returns false'. Refute it at one input. -/
def fnExactCountOfWrong : ChangeSpec := { name := "fnExactCountOf", fn := fun _ => fun
  | [d] => { results := [.lit (.bool false)], args := [d] }
  | _ => none }
def FnExactCountOfWrongFalsely : Prop := fnExactCountOfRow.holds Try.pinned (OpenSpec.ofChange fnExactCountOfWrong)

/-- 'laws.FnExactPlacesOf': WHATEVER THE INPUT: true; the input reads as it did. -/
def fnExactPlacesOfSpec : ChangeSpec := { name := "fnExactPlacesOf", fn := fun _ => fun
  | [d1, d2] => { results := [.lit (.bool true)], args := [d1, d2] }
  | _ => none }
def fnExactPlacesOfRow : OpenClaim := { program := "ytjbfpbajbjnifaa", sum := "56024032b70e63829a784dc6a2d7b8ac9f26d8918aba42df78a30a1c7b0f9bb3", func := "loop.example/stackwords/laws.FnExactPlacesOf", spec := "fnExactPlacesOf", recurses := true, apart := false }
def FnExactPlacesOfSaid : Prop := fnExactPlacesOfRow.holds Try.pinned (OpenSpec.ofChange fnExactPlacesOfSpec)

/-- ITS FALSE NEIGHBOUR: 'it returns false'. Refute it at one input. -/
def fnExactPlacesOfWrong : ChangeSpec := { name := "fnExactPlacesOf", fn := fun _ => fun
  | [d1, d2] => { results := [.lit (.bool false)], args := [d1, d2] }
  | _ => none }
def FnExactPlacesOfWrongFalsely : Prop := fnExactPlacesOfRow.holds Try.pinned (OpenSpec.ofChange fnExactPlacesOfWrong)

/-- 'laws.FnExactTakesOf': WHATEVER THE INPUT: true; the input reads as it did. -/
def fnExactTakesOfSpec : ChangeSpec := { name := "fnExactTakesOf", fn := fun _ => fun
  | [d] => { results := [.lit (.bool true)], args := [d] }
  | _ => none }
def fnExactTakesOfRow : OpenClaim := { program := "ytjbfpbajbjnifaa", sum := "56024032b70e63829a784dc6a2d7b8ac9f26d8918aba42df78a30a1c7b0f9bb3", func := "loop.example/stackwords/laws.FnExactTakesOf", spec := "fnExactTakesOf", recurses := true, apart := false }
def FnExactTakesOfSaid : Prop := fnExactTakesOfRow.holds Try.pinned (OpenSpec.ofChange fnExactTakesOfSpec)

/-- ITS FALSE NEIGHBOUR: 'it returns false'. Refute it at one input. -/
def fnExactTakesOfWrong : ChangeSpec := { name := "fnExactTakesOf", fn := fun _ => fun
  | [d] => { results := [.lit (.bool false)], args := [d] }
  | _ => none }
def FnExactTakesOfWrongFalsely : Prop := fnExactTakesOfRow.holds Try.pinned (OpenSpec.ofChange fnExactTakesOfWrong)

/-- 'laws.FnExactSameShuffle': WHATEVER THE INPUT: true; the input reads as it did. -/
def fnExactSameShuffleSpec : ChangeSpec := { name := "fnExactSameShuffle", fn := fun _ => fun
  | [d1, d2] => { results := [.lit (.bool true)], args := [d1, d2] }
  | _ => none }
def fnExactSameShuffleRow : OpenClaim := { program := "ytjbfpbajbjnifaa", sum := "56024032b70e63829a784dc6a2d7b8ac9f26d8918aba42df78a30a1c7b0f9bb3", func := "loop.example/stackwords/laws.FnExactSameShuffle", spec := "fnExactSameShuffle", recurses := true, apart := false }
def FnExactSameShuffleSaid : Prop := fnExactSameShuffleRow.holds Try.pinned (OpenSpec.ofChange fnExactSameShuffleSpec)

/-- ITS FALSE NEIGHBOUR: 'it returns false'. Refute it at one input. -/
def fnExactSameShuffleWrong : ChangeSpec := { name := "fnExactSameShuffle", fn := fun _ => fun
  | [d1, d2] => { results := [.lit (.bool false)], args := [d1, d2] }
  | _ => none }
def FnExactSameShuffleWrongFalsely : Prop := fnExactSameShuffleRow.holds Try.pinned (OpenSpec.ofChange fnExactSameShuffleWrong)

/- THE SECOND FORM. 'bulk': how many values and letters a reading holds, each counted each time it is reached (what is shared counts as often as it is met; a slice's spare places count too). A statement '..UptoSaid' is the law's where the arguments, and the package variables that the reading takes, are together of bulk at most 1048576: NARROWER than '..Said'. Prove '..Said' where nothing that the law and all that it calls make is longer than what came in: it says more and counts as full. Else prove '..UptoSaid'. A law counts once. -/
mutual
def uptoBulk {H : Type} : DataW H → Nat
  | .lit (.string bytes) => bytes.length + 1
  | .lit _ => 1
  | .nil => 1
  | .ptr d => uptoBulk d + 1
  | .slice elems spare => uptoBulkAll elems + uptoBulkAll spare + 1
  | .agg parts => uptoBulkAll parts + 1
  | .iface _ d => uptoBulk d + 1
  | .map entries => uptoBulkEntries entries + 1
  | .held _ => 1
def uptoBulkAll {H : Type} : List (DataW H) → Nat
  | [] => 0
  | d :: r => uptoBulk d + uptoBulkAll r
def uptoBulkEntries {H : Type} : List (Lit × DataW H) → Nat
  | [] => 0
  | x :: r => uptoBulkEntry x + uptoBulkEntries r
def uptoBulkEntry {H : Type} : Lit × DataW H → Nat
  | (.string bytes, d) => bytes.length + uptoBulk d + 1
  | (_, d) => uptoBulk d + 1
 end
def uptoSmall : (H : Type) → List (DataW H) → Bool := fun _ ds => decide (uptoBulkAll ds ≤ 1048576)
def OpenSpec.upto (s : _root_.Go.ChangeSpec) : _root_.Go.OpenSpec := { _root_.Go.OpenSpec.ofChange s with cond := some uptoSmall }

/-- 'laws.FnStateOk', WHERE WHAT IT READS IS OF BULK AT MOST 1048576: true; the input reads as it did. -/
def fnStateOkUptoRow : OpenClaim := { program := "ytjbfpbajbjnifaa", sum := "56024032b70e63829a784dc6a2d7b8ac9f26d8918aba42df78a30a1c7b0f9bb3", func := "loop.example/stackwords/laws.FnStateOk", spec := "fnStateOk", recurses := true, apart := false, narrowed := true }
def FnStateOkUptoSaid : Prop := fnStateOkUptoRow.holds Try.pinned (OpenSpec.upto fnStateOkSpec)

/-- 'laws.FnNeedsOf', WHERE WHAT IT READS IS OF BULK AT MOST 1048576: true; the input reads as it did. -/
def fnNeedsOfUptoRow : OpenClaim := { program := "ytjbfpbajbjnifaa", sum := "56024032b70e63829a784dc6a2d7b8ac9f26d8918aba42df78a30a1c7b0f9bb3", func := "loop.example/stackwords/laws.FnNeedsOf", spec := "fnNeedsOf", unfollowed := true, recurses := true, apart := false, narrowed := true }
def FnNeedsOfUptoSaid : Prop := fnNeedsOfUptoRow.holds Try.pinned (OpenSpec.upto fnNeedsOfSpec)

/-- 'laws.FnPlacesOf', WHERE WHAT IT READS IS OF BULK AT MOST 1048576: true; the input reads as it did. -/
def fnPlacesOfUptoRow : OpenClaim := { program := "ytjbfpbajbjnifaa", sum := "56024032b70e63829a784dc6a2d7b8ac9f26d8918aba42df78a30a1c7b0f9bb3", func := "loop.example/stackwords/laws.FnPlacesOf", spec := "fnPlacesOf", unfollowed := true, recurses := true, apart := false, narrowed := true }
def FnPlacesOfUptoSaid : Prop := fnPlacesOfUptoRow.holds Try.pinned (OpenSpec.upto fnPlacesOfSpec)

/-- 'laws.FnSameShuffle', WHERE WHAT IT READS IS OF BULK AT MOST 1048576: true; the input reads as it did. -/
def fnSameShuffleUptoRow : OpenClaim := { program := "ytjbfpbajbjnifaa", sum := "56024032b70e63829a784dc6a2d7b8ac9f26d8918aba42df78a30a1c7b0f9bb3", func := "loop.example/stackwords/laws.FnSameShuffle", spec := "fnSameShuffle", unfollowed := true, recurses := true, apart := false, narrowed := true }
def FnSameShuffleUptoSaid : Prop := fnSameShuffleUptoRow.holds Try.pinned (OpenSpec.upto fnSameShuffleSpec)

/-- 'laws.FnShuffleFor', WHERE WHAT IT READS IS OF BULK AT MOST 1048576: true; the input reads as it did. -/
def fnShuffleForUptoRow : OpenClaim := { program := "ytjbfpbajbjnifaa", sum := "56024032b70e63829a784dc6a2d7b8ac9f26d8918aba42df78a30a1c7b0f9bb3", func := "loop.example/stackwords/laws.FnShuffleFor", spec := "fnShuffleFor", unfollowed := true, recurses := true, apart := false, narrowed := true }
def FnShuffleForUptoSaid : Prop := fnShuffleForUptoRow.holds Try.pinned (OpenSpec.upto fnShuffleForSpec)

/-- 'laws.FnPlacesThen', WHERE WHAT IT READS IS OF BULK AT MOST 1048576: true; the input reads as it did. -/
def fnPlacesThenUptoRow : OpenClaim := { program := "ytjbfpbajbjnifaa", sum := "56024032b70e63829a784dc6a2d7b8ac9f26d8918aba42df78a30a1c7b0f9bb3", func := "loop.example/stackwords/laws.FnPlacesThen", spec := "fnPlacesThen", unfollowed := true, recurses := true, apart := false, narrowed := true }
def FnPlacesThenUptoSaid : Prop := fnPlacesThenUptoRow.holds Try.pinned (OpenSpec.upto fnPlacesThenSpec)

/-- 'laws.FnExactEffectOk', WHERE WHAT IT READS IS OF BULK AT MOST 1048576: true; the input reads as it did. -/
def fnExactEffectOkUptoRow : OpenClaim := { program := "ytjbfpbajbjnifaa", sum := "56024032b70e63829a784dc6a2d7b8ac9f26d8918aba42df78a30a1c7b0f9bb3", func := "loop.example/stackwords/laws.FnExactEffectOk", spec := "fnExactEffectOk", recurses := true, apart := false, narrowed := true }
def FnExactEffectOkUptoSaid : Prop := fnExactEffectOkUptoRow.holds Try.pinned (OpenSpec.upto fnExactEffectOkSpec)

/-- 'laws.FnExactNeedsOf', WHERE WHAT IT READS IS OF BULK AT MOST 1048576: true; the input reads as it did. -/
def fnExactNeedsOfUptoRow : OpenClaim := { program := "ytjbfpbajbjnifaa", sum := "56024032b70e63829a784dc6a2d7b8ac9f26d8918aba42df78a30a1c7b0f9bb3", func := "loop.example/stackwords/laws.FnExactNeedsOf", spec := "fnExactNeedsOf", unfollowed := true, recurses := true, apart := false, narrowed := true }
def FnExactNeedsOfUptoSaid : Prop := fnExactNeedsOfUptoRow.holds Try.pinned (OpenSpec.upto fnExactNeedsOfSpec)

/-- 'laws.FnExactCountOf', WHERE WHAT IT READS IS OF BULK AT MOST 1048576: true; the input reads as it did. -/
def fnExactCountOfUptoRow : OpenClaim := { program := "ytjbfpbajbjnifaa", sum := "56024032b70e63829a784dc6a2d7b8ac9f26d8918aba42df78a30a1c7b0f9bb3", func := "loop.example/stackwords/laws.FnExactCountOf", spec := "fnExactCountOf", unfollowed := true, recurses := true, apart := false, narrowed := true }
def FnExactCountOfUptoSaid : Prop := fnExactCountOfUptoRow.holds Try.pinned (OpenSpec.upto fnExactCountOfSpec)

/-- 'laws.FnExactPlacesOf', WHERE WHAT IT READS IS OF BULK AT MOST 1048576: true; the input reads as it did. -/
def fnExactPlacesOfUptoRow : OpenClaim := { program := "ytjbfpbajbjnifaa", sum := "56024032b70e63829a784dc6a2d7b8ac9f26d8918aba42df78a30a1c7b0f9bb3", func := "loop.example/stackwords/laws.FnExactPlacesOf", spec := "fnExactPlacesOf", recurses := true, apart := false, narrowed := true }
def FnExactPlacesOfUptoSaid : Prop := fnExactPlacesOfUptoRow.holds Try.pinned (OpenSpec.upto fnExactPlacesOfSpec)

/-- 'laws.FnExactTakesOf', WHERE WHAT IT READS IS OF BULK AT MOST 1048576: true; the input reads as it did. -/
def fnExactTakesOfUptoRow : OpenClaim := { program := "ytjbfpbajbjnifaa", sum := "56024032b70e63829a784dc6a2d7b8ac9f26d8918aba42df78a30a1c7b0f9bb3", func := "loop.example/stackwords/laws.FnExactTakesOf", spec := "fnExactTakesOf", recurses := true, apart := false, narrowed := true }
def FnExactTakesOfUptoSaid : Prop := fnExactTakesOfUptoRow.holds Try.pinned (OpenSpec.upto fnExactTakesOfSpec)

/-- 'laws.FnExactSameShuffle', WHERE WHAT IT READS IS OF BULK AT MOST 1048576: true; the input reads as it did. -/
def fnExactSameShuffleUptoRow : OpenClaim := { program := "ytjbfpbajbjnifaa", sum := "56024032b70e63829a784dc6a2d7b8ac9f26d8918aba42df78a30a1c7b0f9bb3", func := "loop.example/stackwords/laws.FnExactSameShuffle", spec := "fnExactSameShuffle", recurses := true, apart := false, narrowed := true }
def FnExactSameShuffleUptoSaid : Prop := fnExactSameShuffleUptoRow.holds Try.pinned (OpenSpec.upto fnExactSameShuffleSpec)

end Rows
end Go.Proofs.Ytjbfpbajbjnifaa
