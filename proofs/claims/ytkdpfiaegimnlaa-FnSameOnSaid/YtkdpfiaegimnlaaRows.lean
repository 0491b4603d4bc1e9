/-
  No cell of these rows narrows 'for every input' (looked for: loops, veiled, ifaces, maps, wideKeys, modest, calm, conditions, laid).
  DERIVED. THE GIVEN ROWS OF THIS SEAT. 10 by the template 'for every input the law returns true; each argument reads behind the call as it read before'; 0 by the template 'total and deterministic' (their statements: YtkdpfiaegimnlaaTotals.lean).
  GIVEN WITH THE SEED: the statements are not yours to turn. If you find one false, say at which input.
  Laid BY PROGRAM, IN A SANDBOX (cutbox-rows.mjs): the forced cells as the released guide's own fill.sh prints them over the translation b184524120cfe44a… (all of the seat's roots in one cut). By AI agents, Wed Nov 11 2026. No macro, syntax, notation, axiom, sorry.
-/
import Derived.Test.YtkdpfiaegimnlaaChecked
import GoSem.Claim
import GoSem.ClaimJoined
import GoSem.ClaimMapViews
import Derived.JoinedTies
import Derived.KernelRfl
namespace Go.Proofs.Ytkdpfiaegimnlaa
/- THE CELL 'sum', in the pinned program and in every row, IS THE sha256 OF THE DUMP (.gsa) THAT YtkdpfiaegimnlaaProg.lean LOADS. Nothing in Lean hashes anything: it is a label: what it is worth is what the hold of that sum in a sandbox is worth. -/
noncomputable def Try.pinned : Pinned := { name := "ytkdpfiaegimnlaa", sum := "b184524120cfe44ae0dc4559a8eac652817194136af1f5634c78154d72b835be", checked := Try.checked }
namespace Rows
def none {H : Type} : Left H := { results := [], args := [] }

/-- 'laws.FnStackProg': WHATEVER THE INPUT: true; the input reads as it did. -/
def fnStackProgSpec : ChangeSpec := { name := "fnStackProg", fn := fun _ => fun
  | [d] => { results := [.lit (.bool true)], args := [d] }
  | _ => none }
def fnStackProgRow : OpenClaim := { program := "ytkdpfiaegimnlaa", sum := "b184524120cfe44ae0dc4559a8eac652817194136af1f5634c78154d72b835be", func := "loop.example/stackwords/laws.FnStackProg", spec := "fnStackProg", unfollowed := true, recurses := true, apart := false }
def FnStackProgSaid : Prop := fnStackProgRow.holds Try.pinned (OpenSpec.ofChange fnStackProgSpec)

/-- ITS FALSE NEIGHBOUR: 'it returns false'. Refute it at one input. -/
def fnStackProgWrong : ChangeSpec := { name := "fnStackProg", fn := fun _ => fun
  | [d] => { results := [.lit (.bool false)], args := [d] }
  | _ => none }
def FnStackProgWrongFalsely : Prop := fnStackProgRow.holds Try.pinned (OpenSpec.ofChange fnStackProgWrong)

/-- 'laws.FnRunOf': WHATEVER THE INPUT: true; the input reads as it did. -/
def fnRunOfSpec : ChangeSpec := { name := "fnRunOf", fn := fun _ => fun
  | [d1, d2] => { results := [.lit (.bool true)], args := [d1, d2] }
  | _ => none }
def fnRunOfRow : OpenClaim := { program := "ytkdpfiaegimnlaa", sum := "b184524120cfe44ae0dc4559a8eac652817194136af1f5634c78154d72b835be", func := "loop.example/stackwords/laws.FnRunOf", spec := "fnRunOf", unfollowed := true, recurses := true, apart := false }
def FnRunOfSaid : Prop := fnRunOfRow.holds Try.pinned (OpenSpec.ofChange fnRunOfSpec)

/-- ITS FALSE NEIGHBOUR: 'it returns false'. Refute it at one input. -/
def fnRunOfWrong : ChangeSpec := { name := "fnRunOf", fn := fun _ => fun
  | [d1, d2] => { results := [.lit (.bool false)], args := [d1, d2] }
  | _ => none }
def FnRunOfWrongFalsely : Prop := fnRunOfRow.holds Try.pinned (OpenSpec.ofChange fnRunOfWrong)

/-- 'laws.FnSameOn': WHATEVER THE INPUT: true; the input reads as it did. -/
def fnSameOnSpec : ChangeSpec := { name := "fnSameOn", fn := fun _ => fun
  | [d1, d2] => { results := [.lit (.bool true)], args := [d1, d2] }
  | _ => none }
def fnSameOnRow : OpenClaim := { program := "ytkdpfiaegimnlaa", sum := "b184524120cfe44ae0dc4559a8eac652817194136af1f5634c78154d72b835be", func := "loop.example/stackwords/laws.FnSameOn", spec := "fnSameOn", unfollowed := true, recurses := true, apart := false }
def FnSameOnSaid : Prop := fnSameOnRow.holds Try.pinned (OpenSpec.ofChange fnSameOnSpec)

/-- ITS FALSE NEIGHBOUR: 'it returns false'. Refute it at one input. -/
def fnSameOnWrong : ChangeSpec := { name := "fnSameOn", fn := fun _ => fun
  | [d1, d2] => { results := [.lit (.bool false)], args := [d1, d2] }
  | _ => none }
def FnSameOnWrongFalsely : Prop := fnSameOnRow.holds Try.pinned (OpenSpec.ofChange fnSameOnWrong)

/-- 'laws.FnPlacesOf': WHATEVER THE INPUT: true; the input reads as it did. -/
def fnPlacesOfSpec : ChangeSpec := { name := "fnPlacesOf", fn := fun _ => fun
  | [d1, d2] => { results := [.lit (.bool true)], args := [d1, d2] }
  | _ => none }
def fnPlacesOfRow : OpenClaim := { program := "ytkdpfiaegimnlaa", sum := "b184524120cfe44ae0dc4559a8eac652817194136af1f5634c78154d72b835be", func := "loop.example/stackwords/laws.FnPlacesOf", spec := "fnPlacesOf", unfollowed := true, recurses := true, apart := false }
def FnPlacesOfSaid : Prop := fnPlacesOfRow.holds Try.pinned (OpenSpec.ofChange fnPlacesOfSpec)

/-- ITS FALSE NEIGHBOUR: 'it returns false'. Refute it at one input. -/
def fnPlacesOfWrong : ChangeSpec := { name := "fnPlacesOf", fn := fun _ => fun
  | [d1, d2] => { results := [.lit (.bool false)], args := [d1, d2] }
  | _ => none }
def FnPlacesOfWrongFalsely : Prop := fnPlacesOfRow.holds Try.pinned (OpenSpec.ofChange fnPlacesOfWrong)

/-- 'laws.FnSameShuffle': WHATEVER THE INPUT: true; the input reads as it did. -/
def fnSameShuffleSpec : ChangeSpec := { name := "fnSameShuffle", fn := fun _ => fun
  | [d1, d2] => { results := [.lit (.bool true)], args := [d1, d2] }
  | _ => none }
def fnSameShuffleRow : OpenClaim := { program := "ytkdpfiaegimnlaa", sum := "b184524120cfe44ae0dc4559a8eac652817194136af1f5634c78154d72b835be", func := "loop.example/stackwords/laws.FnSameShuffle", spec := "fnSameShuffle", unfollowed := true, recurses := true, apart := false }
def FnSameShuffleSaid : Prop := fnSameShuffleRow.holds Try.pinned (OpenSpec.ofChange fnSameShuffleSpec)

/-- ITS FALSE NEIGHBOUR: 'it returns false'. Refute it at one input. -/
def fnSameShuffleWrong : ChangeSpec := { name := "fnSameShuffle", fn := fun _ => fun
  | [d1, d2] => { results := [.lit (.bool false)], args := [d1, d2] }
  | _ => none }
def FnSameShuffleWrongFalsely : Prop := fnSameShuffleRow.holds Try.pinned (OpenSpec.ofChange fnSameShuffleWrong)

/-- 'laws.FnValueOk': WHATEVER THE INPUT: true; the input reads as it did. -/
def fnValueOkSpec : ChangeSpec := { name := "fnValueOk", fn := fun _ => fun
  | [d] => { results := [.lit (.bool true)], args := [d] }
  | _ => none }
def fnValueOkRow : OpenClaim := { program := "ytkdpfiaegimnlaa", sum := "b184524120cfe44ae0dc4559a8eac652817194136af1f5634c78154d72b835be", func := "loop.example/stackwords/laws.FnValueOk", spec := "fnValueOk", unfollowed := true, recurses := true, apart := false }
def FnValueOkSaid : Prop := fnValueOkRow.holds Try.pinned (OpenSpec.ofChange fnValueOkSpec)

/-- ITS FALSE NEIGHBOUR: 'it returns false'. Refute it at one input. -/
def fnValueOkWrong : ChangeSpec := { name := "fnValueOk", fn := fun _ => fun
  | [d] => { results := [.lit (.bool false)], args := [d] }
  | _ => none }
def FnValueOkWrongFalsely : Prop := fnValueOkRow.holds Try.pinned (OpenSpec.ofChange fnValueOkWrong)

/-- 'laws.FnStopOf': WHATEVER THE INPUT: true; the input reads as it did. -/
def fnStopOfSpec : ChangeSpec := { name := "fnStopOf", fn := fun _ => fun
  | [d] => { results := [.lit (.bool true)], args := [d] }
  | _ => none }
def fnStopOfRow : OpenClaim := { program := "ytkdpfiaegimnlaa", sum := "b184524120cfe44ae0dc4559a8eac652817194136af1f5634c78154d72b835be", func := "loop.example/stackwords/laws.FnStopOf", spec := "fnStopOf", unfollowed := true, recurses := true, apart := false }
def FnStopOfSaid : Prop := fnStopOfRow.holds Try.pinned (OpenSpec.ofChange fnStopOfSpec)

/-- ITS FALSE NEIGHBOUR: 'it returns false'. Refute it at one input. -/
def fnStopOfWrong : ChangeSpec := { name := "fnStopOf", fn := fun _ => fun
  | [d] => { results := [.lit (.bool false)], args := [d] }
  | _ => none }
def FnStopOfWrongFalsely : Prop := fnStopOfRow.holds Try.pinned (OpenSpec.ofChange fnStopOfWrong)

/-- 'laws.FnExactStepOf': WHATEVER THE INPUT: true; the input reads as it did. -/
def fnExactStepOfSpec : ChangeSpec := { name := "fnExactStepOf", fn := fun _ => fun
  | [d] => { results := [.lit (.bool true)], args := [d] }
  | _ => none }
def fnExactStepOfRow : OpenClaim := { program := "ytkdpfiaegimnlaa", sum := "b184524120cfe44ae0dc4559a8eac652817194136af1f5634c78154d72b835be", func := "loop.example/stackwords/laws.FnExactStepOf", spec := "fnExactStepOf", unfollowed := true, recurses := true, apart := false }
def FnExactStepOfSaid : Prop := fnExactStepOfRow.holds Try.pinned (OpenSpec.ofChange fnExactStepOfSpec)

/-- ITS FALSE NEIGHBOUR: 'it returns false'. Refute it at one input. -/
def fnExactStepOfWrong : ChangeSpec := { name := "fnExactStepOf", fn := fun _ => fun
  | [d] => { results := [.lit (.bool false)], args := [d] }
  | _ => none }
def FnExactStepOfWrongFalsely : Prop := fnExactStepOfRow.holds Try.pinned (OpenSpec.ofChange fnExactStepOfWrong)

/-- 'laws.FnExactRunOf': WHATEVER THE INPUT: true; the input reads as it did. -/
def fnExactRunOfSpec : ChangeSpec := { name := "fnExactRunOf", fn := fun _ => fun
  | [d1, d2] => { results := [.lit (.bool true)], args := [d1, d2] }
  | _ => none }
def fnExactRunOfRow : OpenClaim := { program := "ytkdpfiaegimnlaa", sum := "b184524120cfe44ae0dc4559a8eac652817194136af1f5634c78154d72b835be", func := "loop.example/stackwords/laws.FnExactRunOf", spec := "fnExactRunOf", unfollowed := true, recurses := true, apart := false }
def FnExactRunOfSaid : Prop := fnExactRunOfRow.holds Try.pinned (OpenSpec.ofChange fnExactRunOfSpec)

/-- ITS FALSE NEIGHBOUR: 'it returns false'. Refute it at one input. -/
def fnExactRunOfWrong : ChangeSpec := { name := "fnExactRunOf", fn := fun _ => fun
  | [d1, d2] => { results := [.lit (.bool false)], args := [d1, d2] }
  | _ => none }
def FnExactRunOfWrongFalsely : Prop := fnExactRunOfRow.holds Try.pinned (OpenSpec.ofChange fnExactRunOfWrong)

/-- 'laws.FnExactSameOn': WHATEVER THE INPUT: true; the input reads as it did. -/
def fnExactSameOnSpec : ChangeSpec := { name := "fnExactSameOn", fn := fun _ => fun
  | [d1, d2, d3] => { results := [.lit (.bool true)], args := [d1, d2, d3] }
  | _ => none }
def fnExactSameOnRow : OpenClaim := { program := "ytkdpfiaegimnlaa", sum := "b184524120cfe44ae0dc4559a8eac652817194136af1f5634c78154d72b835be", func := "loop.example/stackwords/laws.FnExactSameOn", spec := "fnExactSameOn", unfollowed := true, recurses := true, apart := false }
def FnExactSameOnSaid : Prop := fnExactSameOnRow.holds Try.pinned (OpenSpec.ofChange fnExactSameOnSpec)

/-- ITS FALSE NEIGHBOUR: 'it returns false'. Refute it at one input. -/
def fnExactSameOnWrong : ChangeSpec := { name := "fnExactSameOn", fn := fun _ => fun
  | [d1, d2, d3] => { results := [.lit (.bool false)], args := [d1, d2, d3] }
  | _ => none }
def FnExactSameOnWrongFalsely : Prop := fnExactSameOnRow.holds Try.pinned (OpenSpec.ofChange fnExactSameOnWrong)

/- THE SECOND FORM. 'bulk': how many values and letters a reading holds, each counted each time it is reached (what is shared counts as often as it is met; a slice's spare places count too). A statement '..UptoSaid' is the law's where the arguments, and the package variables that the reading takes, are together of bulk at most 1048576: NARROWER than '..Said'. Prove '..Said' where nothing that the law and all that it calls make is longer than what came in: it says more and counts as full. Else prove '..UptoSaid'. A law counts once. -/
mutual
def uptoBulk {H : Type} : DataW H → Nat
  | .lit (.string bytes) => bytes.length + 1
  | .lit _ => 1
  | .nil => 1
  | .ptr d => uptoBulk d + 1
  | .slice elems spare => uptoBulkAll elems + uptoBulkAll spare + 1
  | .agg parts => uptoBulkAll parts + 1
  | .iface _ d => uptoBulk d + 1
  | .map entries => uptoBulkEntries entries + 1
  | .held _ => 1
def uptoBulkAll {H : Type} : List (DataW H) → Nat
  | [] => 0
  | d :: r => uptoBulk d + uptoBulkAll r
def uptoBulkEntries {H : Type} : List (Lit × DataW H) → Nat
  | [] => 0
  | x :: r => uptoBulkEntry x + uptoBulkEntries r
def uptoBulkEntry {H : Type} : Lit × DataW H → Nat
  | (.string bytes, d) => bytes.length + uptoBulk d + 1
  | (_, d) => uptoBulk d + 1
 end
def uptoSmall : (H : Type) → List (DataW H) → Bool := fun _ ds => decide (uptoBulkAll ds ≤ 1048576)
def OpenSpec.upto (s : _root_.Go.ChangeSpec) : _root_.Go.OpenSpec := { _root_.Go.OpenSpec.ofChange s with cond := some uptoSmall }

/-- 'laws.FnStackProg', WHERE WHAT IT READS IS OF BULK AT MOST 1048576: true; the input reads as it did. -/
def fnStackProgUptoRow : OpenClaim := { program := "ytkdpfiaegimnlaa", sum := "b184524120cfe44ae0dc4559a8eac652817194136af1f5634c78154d72b835be", func := "loop.example/stackwords/laws.FnStackProg", spec := "fnStackProg", unfollowed := true, recurses := true, apart := false, narrowed := true }
def FnStackProgUptoSaid : Prop := fnStackProgUptoRow.holds Try.pinned (OpenSpec.upto fnStackProgSpec)

/-- 'laws.FnRunOf', WHERE WHAT IT READS IS OF BULK AT MOST 1048576: true; the input reads as it did. -/
def fnRunOfUptoRow : OpenClaim := { program := "ytkdpfiaegimnlaa", sum := "b184524120cfe44ae0dc4559a8eac652817194136af1f5634c78154d72b835be", func := "loop.example/stackwords/laws.FnRunOf", spec := "fnRunOf", unfollowed := true, recurses := true, apart := false, narrowed := true }
def FnRunOfUptoSaid : Prop := fnRunOfUptoRow.holds Try.pinned (OpenSpec.upto fnRunOfSpec)

/-- 'laws.FnSameOn', WHERE WHAT IT READS IS OF BULK AT MOST 1048576: true; the input reads as it did. -/
def fnSameOnUptoRow : OpenClaim := { program := "ytkdpfiaegimnlaa", sum := "b184524120cfe44ae0dc4559a8eac652817194136af1f5634c78154d72b835be", func := "loop.example/stackwords/laws.FnSameOn", spec := "fnSameOn", unfollowed := true, recurses := true, apart := false, narrowed := true }
def FnSameOnUptoSaid : Prop := fnSameOnUptoRow.holds Try.pinned (OpenSpec.upto fnSameOnSpec)

/-- 'laws.FnPlacesOf', WHERE WHAT IT READS IS OF BULK AT MOST 1048576: true; the input reads as it did. -/
def fnPlacesOfUptoRow : OpenClaim := { program := "ytkdpfiaegimnlaa", sum := "b184524120cfe44ae0dc4559a8eac652817194136af1f5634c78154d72b835be", func := "loop.example/stackwords/laws.FnPlacesOf", spec := "fnPlacesOf", unfollowed := true, recurses := true, apart := false, narrowed := true }
def FnPlacesOfUptoSaid : Prop := fnPlacesOfUptoRow.holds Try.pinned (OpenSpec.upto fnPlacesOfSpec)

/-- 'laws.FnSameShuffle', WHERE WHAT IT READS IS OF BULK AT MOST 1048576: true; the input reads as it did. -/
def fnSameShuffleUptoRow : OpenClaim := { program := "ytkdpfiaegimnlaa", sum := "b184524120cfe44ae0dc4559a8eac652817194136af1f5634c78154d72b835be", func := "loop.example/stackwords/laws.FnSameShuffle", spec := "fnSameShuffle", unfollowed := true, recurses := true, apart := false, narrowed := true }
def FnSameShuffleUptoSaid : Prop := fnSameShuffleUptoRow.holds Try.pinned (OpenSpec.upto fnSameShuffleSpec)

/-- 'laws.FnValueOk', WHERE WHAT IT READS IS OF BULK AT MOST 1048576: true; the input reads as it did. -/
def fnValueOkUptoRow : OpenClaim := { program := "ytkdpfiaegimnlaa", sum := "b184524120cfe44ae0dc4559a8eac652817194136af1f5634c78154d72b835be", func := "loop.example/stackwords/laws.FnValueOk", spec := "fnValueOk", unfollowed := true, recurses := true, apart := false, narrowed := true }
def FnValueOkUptoSaid : Prop := fnValueOkUptoRow.holds Try.pinned (OpenSpec.upto fnValueOkSpec)

/-- 'laws.FnStopOf', WHERE WHAT IT READS IS OF BULK AT MOST 1048576: true; the input reads as it did. -/
def fnStopOfUptoRow : OpenClaim := { program := "ytkdpfiaegimnlaa", sum := "b184524120cfe44ae0dc4559a8eac652817194136af1f5634c78154d72b835be", func := "loop.example/stackwords/laws.FnStopOf", spec := "fnStopOf", unfollowed := true, recurses := true, apart := false, narrowed := true }
def FnStopOfUptoSaid : Prop := fnStopOfUptoRow.holds Try.pinned (OpenSpec.upto fnStopOfSpec)

/-- 'laws.FnExactStepOf', WHERE WHAT IT READS IS OF BULK AT MOST 1048576: true; the input reads as it did. -/
def fnExactStepOfUptoRow : OpenClaim := { program := "ytkdpfiaegimnlaa", sum := "b184524120cfe44ae0dc4559a8eac652817194136af1f5634c78154d72b835be", func := "loop.example/stackwords/laws.FnExactStepOf", spec := "fnExactStepOf", unfollowed := true, recurses := true, apart := false, narrowed := true }
def FnExactStepOfUptoSaid : Prop := fnExactStepOfUptoRow.holds Try.pinned (OpenSpec.upto fnExactStepOfSpec)

/-- 'laws.FnExactRunOf', WHERE WHAT IT READS IS OF BULK AT MOST 1048576: true; the input reads as it did. -/
def fnExactRunOfUptoRow : OpenClaim := { program := "ytkdpfiaegimnlaa", sum := "b184524120cfe44ae0dc4559a8eac652817194136af1f5634c78154d72b835be", func := "loop.example/stackwords/laws.FnExactRunOf", spec := "fnExactRunOf", unfollowed := true, recurses := true, apart := false, narrowed := true }
def FnExactRunOfUptoSaid : Prop := fnExactRunOfUptoRow.holds Try.pinned (OpenSpec.upto fnExactRunOfSpec)

/-- 'laws.FnExactSameOn', WHERE WHAT IT READS IS OF BULK AT MOST 1048576: true; the input reads as it did. -/
def fnExactSameOnUptoRow : OpenClaim := { program := "ytkdpfiaegimnlaa", sum := "b184524120cfe44ae0dc4559a8eac652817194136af1f5634c78154d72b835be", func := "loop.example/stackwords/laws.FnExactSameOn", spec := "fnExactSameOn", unfollowed := true, recurses := true, apart := false, narrowed := true }
def FnExactSameOnUptoSaid : Prop := fnExactSameOnUptoRow.holds Try.pinned (OpenSpec.upto fnExactSameOnSpec)

end Rows
end Go.Proofs.Ytkdpfiaegimnlaa
