/-
  No cell of these rows narrows 'for every input' (looked for: loops, veiled, ifaces, maps, wideKeys, modest, calm, conditions, laid).
  DERIVED. THE GIVEN ROWS OF THIS SEAT. 12 by the template 'for every input the law returns true; each argument reads behind the call as it read before'; 0 by the template 'total and deterministic' (their statements: YtaehaalaeikloaaTotals.lean).
  GIVEN WITH THE SEED: the statements are not yours to turn. If you find one false, say at which input.
  Laid BY PROGRAM, IN A SANDBOX (cutbox-rows.mjs): the forced cells as the released guide's own fill.sh prints them over the translation 7b916522a474a05a… (all of the seat's roots in one cut). By AI agents, Wed Nov 11 2026. No macro, syntax, notation, axiom, sorry.
-/
import Derived.Test.YtaehaalaeikloaaChecked
import GoSem.Claim
import GoSem.ClaimJoined
import GoSem.ClaimMapViews
import Derived.JoinedTies
import Derived.KernelRfl
namespace Go.Proofs.Ytaehaalaeikloaa
/- THE CELL 'sum', in the pinned program and in every row, IS THE sha256 OF THE DUMP (.gsa) THAT YtaehaalaeikloaaProg.lean LOADS. Nothing in Lean hashes anything: it is a label: what it is worth is what the hold of that sum in a sandbox is worth. -/
noncomputable def Try.pinned : Pinned := { name := "ytaehaalaeikloaa", sum := "7b916522a474a05ae1e16d6c812fc6582e1599ecbf64a702c4e89bf05ae51556", checked := Try.checked }
namespace Rows
def none {H : Type} : Left H := { results := [], args := [] }

/-- 'laws.FnRowOk': WHATEVER THE INPUT: true; the input reads as it did. -/
def fnRowOkSpec : ChangeSpec := { name := "fnRowOk", fn := fun _ => fun
  | [d] => { results := [.lit (.bool true)], args := [d] }
  | _ => none }
def fnRowOkRow : OpenClaim := { program := "ytaehaalaeikloaa", sum := "7b916522a474a05ae1e16d6c812fc6582e1599ecbf64a702c4e89bf05ae51556", func := "loop.example/stackwords/laws.FnRowOk", spec := "fnRowOk", recurses := true, plainKeys := false, apart := false }
def FnRowOkSaid : Prop := fnRowOkRow.holds Try.pinned (OpenSpec.ofChange fnRowOkSpec)

/-- ITS FALSE NEIGHBOUR: 'it returns false'. Refute it at one input. -/
def fnRowOkWrong : ChangeSpec := { name := "fnRowOk", fn := fun _ => fun
  | [d] => { results := [.lit (.bool false)], args := [d] }
  | _ => none }
def FnRowOkWrongFalsely : Prop := fnRowOkRow.holds Try.pinned (OpenSpec.ofChange fnRowOkWrong)

/-- 'laws.FnEffectThen': WHATEVER THE INPUT: true; the input reads as it did. -/
def fnEffectThenSpec : ChangeSpec := { name := "fnEffectThen", fn := fun _ => fun
  | [d1, d2] => { results := [.lit (.bool true)], args := [d1, d2] }
  | _ => none }
def fnEffectThenRow : OpenClaim := { program := "ytaehaalaeikloaa", sum := "7b916522a474a05ae1e16d6c812fc6582e1599ecbf64a702c4e89bf05ae51556", func := "loop.example/stackwords/laws.FnEffectThen", spec := "fnEffectThen", recurses := true, plainKeys := false, apart := false }
def FnEffectThenSaid : Prop := fnEffectThenRow.holds Try.pinned (OpenSpec.ofChange fnEffectThenSpec)

/-- ITS FALSE NEIGHBOUR: 'it returns false'. Refute it at one input. -/
def fnEffectThenWrong : ChangeSpec := { name := "fnEffectThen", fn := fun _ => fun
  | [d1, d2] => { results := [.lit (.bool false)], args := [d1, d2] }
  | _ => none }
def FnEffectThenWrongFalsely : Prop := fnEffectThenRow.holds Try.pinned (OpenSpec.ofChange fnEffectThenWrong)

/-- 'laws.FnMoreGeneral': WHATEVER THE INPUT: true; the input reads as it did. -/
def fnMoreGeneralSpec : ChangeSpec := { name := "fnMoreGeneral", fn := fun _ => fun
  | [d1, d2] => { results := [.lit (.bool true)], args := [d1, d2] }
  | _ => none }
def fnMoreGeneralRow : OpenClaim := { program := "ytaehaalaeikloaa", sum := "7b916522a474a05ae1e16d6c812fc6582e1599ecbf64a702c4e89bf05ae51556", func := "loop.example/stackwords/laws.FnMoreGeneral", spec := "fnMoreGeneral", unfollowed := true, recurses := true, plainKeys := false, apart := false }
def FnMoreGeneralSaid : Prop := fnMoreGeneralRow.holds Try.pinned (OpenSpec.ofChange fnMoreGeneralSpec)

/-- ITS FALSE NEIGHBOUR: 'it returns false'. Refute it at one input. -/
def fnMoreGeneralWrong : ChangeSpec := { name := "fnMoreGeneral", fn := fun _ => fun
  | [d1, d2] => { results := [.lit (.bool false)], args := [d1, d2] }
  | _ => none }
def FnMoreGeneralWrongFalsely : Prop := fnMoreGeneralRow.holds Try.pinned (OpenSpec.ofChange fnMoreGeneralWrong)

/-- 'laws.FnNeedsOf': WHATEVER THE INPUT: true; the input reads as it did. -/
def fnNeedsOfSpec : ChangeSpec := { name := "fnNeedsOf", fn := fun _ => fun
  | [d] => { results := [.lit (.bool true)], args := [d] }
  | _ => none }
def fnNeedsOfRow : OpenClaim := { program := "ytaehaalaeikloaa", sum := "7b916522a474a05ae1e16d6c812fc6582e1599ecbf64a702c4e89bf05ae51556", func := "loop.example/stackwords/laws.FnNeedsOf", spec := "fnNeedsOf", unfollowed := true, recurses := true, plainKeys := false, apart := false }
def FnNeedsOfSaid : Prop := fnNeedsOfRow.holds Try.pinned (OpenSpec.ofChange fnNeedsOfSpec)

/-- ITS FALSE NEIGHBOUR: 'it returns false'. Refute it at one input. -/
def fnNeedsOfWrong : ChangeSpec := { name := "fnNeedsOf", fn := fun _ => fun
  | [d] => { results := [.lit (.bool false)], args := [d] }
  | _ => none }
def FnNeedsOfWrongFalsely : Prop := fnNeedsOfRow.holds Try.pinned (OpenSpec.ofChange fnNeedsOfWrong)

/-- 'laws.FnRegsValid': WHATEVER THE INPUT: true; the input reads as it did. -/
def fnRegsValidSpec : ChangeSpec := { name := "fnRegsValid", fn := fun _ => fun
  | [d] => { results := [.lit (.bool true)], args := [d] }
  | _ => none }
def fnRegsValidRow : OpenClaim := { program := "ytaehaalaeikloaa", sum := "7b916522a474a05ae1e16d6c812fc6582e1599ecbf64a702c4e89bf05ae51556", func := "loop.example/stackwords/laws.FnRegsValid", spec := "fnRegsValid", recurses := true, plainKeys := false, apart := false }
def FnRegsValidSaid : Prop := fnRegsValidRow.holds Try.pinned (OpenSpec.ofChange fnRegsValidSpec)

/-- ITS FALSE NEIGHBOUR: 'it returns false'. Refute it at one input. -/
def fnRegsValidWrong : ChangeSpec := { name := "fnRegsValid", fn := fun _ => fun
  | [d] => { results := [.lit (.bool false)], args := [d] }
  | _ => none }
def FnRegsValidWrongFalsely : Prop := fnRegsValidRow.holds Try.pinned (OpenSpec.ofChange fnRegsValidWrong)

/-- 'laws.FnRegsRun': WHATEVER THE INPUT: true; the input reads as it did. -/
def fnRegsRunSpec : ChangeSpec := { name := "fnRegsRun", fn := fun _ => fun
  | [d] => { results := [.lit (.bool true)], args := [d] }
  | _ => none }
def fnRegsRunRow : OpenClaim := { program := "ytaehaalaeikloaa", sum := "7b916522a474a05ae1e16d6c812fc6582e1599ecbf64a702c4e89bf05ae51556", func := "loop.example/stackwords/laws.FnRegsRun", spec := "fnRegsRun", recurses := true, plainKeys := false, apart := false }
def FnRegsRunSaid : Prop := fnRegsRunRow.holds Try.pinned (OpenSpec.ofChange fnRegsRunSpec)

/-- ITS FALSE NEIGHBOUR: 'it returns false'. Refute it at one input. -/
def fnRegsRunWrong : ChangeSpec := { name := "fnRegsRun", fn := fun _ => fun
  | [d] => { results := [.lit (.bool false)], args := [d] }
  | _ => none }
def FnRegsRunWrongFalsely : Prop := fnRegsRunRow.holds Try.pinned (OpenSpec.ofChange fnRegsRunWrong)

/-- 'laws.FnGiveName': WHATEVER THE INPUT: true; the input reads as it did. -/
def fnGiveNameSpec : ChangeSpec := { name := "fnGiveName", fn := fun _ => fun
  | [d] => { results := [.lit (.bool true)], args := [d] }
  | _ => none }
def fnGiveNameRow : OpenClaim := { program := "ytaehaalaeikloaa", sum := "7b916522a474a05ae1e16d6c812fc6582e1599ecbf64a702c4e89bf05ae51556", func := "loop.example/stackwords/laws.FnGiveName", spec := "fnGiveName", unfollowed := true, recurses := true, plainKeys := false, apart := false }
def FnGiveNameSaid : Prop := fnGiveNameRow.holds Try.pinned (OpenSpec.ofChange fnGiveNameSpec)

/-- ITS FALSE NEIGHBOUR: 'it returns false'. Refute it at one input. -/
def fnGiveNameWrong : ChangeSpec := { name := "fnGiveName", fn := fun _ => fun
  | [d] => { results := [.lit (.bool false)], args := [d] }
  | _ => none }
def FnGiveNameWrongFalsely : Prop := fnGiveNameRow.holds Try.pinned (OpenSpec.ofChange fnGiveNameWrong)

/-- 'laws.FnPutBack': WHATEVER THE INPUT: true; the input reads as it did. -/
def fnPutBackSpec : ChangeSpec := { name := "fnPutBack", fn := fun _ => fun
  | [d] => { results := [.lit (.bool true)], args := [d] }
  | _ => none }
def fnPutBackRow : OpenClaim := { program := "ytaehaalaeikloaa", sum := "7b916522a474a05ae1e16d6c812fc6582e1599ecbf64a702c4e89bf05ae51556", func := "loop.example/stackwords/laws.FnPutBack", spec := "fnPutBack", unfollowed := true, recurses := true, plainKeys := false, apart := false }
def FnPutBackSaid : Prop := fnPutBackRow.holds Try.pinned (OpenSpec.ofChange fnPutBackSpec)

/-- ITS FALSE NEIGHBOUR: 'it returns false'. Refute it at one input. -/
def fnPutBackWrong : ChangeSpec := { name := "fnPutBack", fn := fun _ => fun
  | [d] => { results := [.lit (.bool false)], args := [d] }
  | _ => none }
def FnPutBackWrongFalsely : Prop := fnPutBackRow.holds Try.pinned (OpenSpec.ofChange fnPutBackWrong)

/-- 'laws.FnExactEffectThen': WHATEVER THE INPUT: true; the input reads as it did. -/
def fnExactEffectThenSpec : ChangeSpec := { name := "fnExactEffectThen", fn := fun _ => fun
  | [d1, d2] => { results := [.lit (.bool true)], args := [d1, d2] }
  | _ => none }
def fnExactEffectThenRow : OpenClaim := { program := "ytaehaalaeikloaa", sum := "7b916522a474a05ae1e16d6c812fc6582e1599ecbf64a702c4e89bf05ae51556", func := "loop.example/stackwords/laws.FnExactEffectThen", spec := "fnExactEffectThen", recurses := true, plainKeys := false, apart := false }
def FnExactEffectThenSaid : Prop := fnExactEffectThenRow.holds Try.pinned (OpenSpec.ofChange fnExactEffectThenSpec)

/-- ITS FALSE NEIGHBOUR: 'it returns false'. Refute it at one input. -/
def fnExactEffectThenWrong : ChangeSpec := { name := "fnExactEffectThen", fn := fun _ => fun
  | [d1, d2] => { results := [.lit (.bool false)], args := [d1, d2] }
  | _ => none }
def FnExactEffectThenWrongFalsely : Prop := fnExactEffectThenRow.holds Try.pinned (OpenSpec.ofChange fnExactEffectThenWrong)

/-- 'laws.FnExactMoreGeneral': WHATEVER THE INPUT: true; the input reads as it did. -/
def fnExactMoreGeneralSpec : ChangeSpec := { name := "fnExactMoreGeneral", fn := fun _ => fun
  | [d1, d2] => { results := [.lit (.bool true)], args := [d1, d2] }
  | _ => none }
def fnExactMoreGeneralRow : OpenClaim := { program := "ytaehaalaeikloaa", sum := "7b916522a474a05ae1e16d6c812fc6582e1599ecbf64a702c4e89bf05ae51556", func := "loop.example/stackwords/laws.FnExactMoreGeneral", spec := "fnExactMoreGeneral", unfollowed := true, recurses := true, plainKeys := false, apart := false }
def FnExactMoreGeneralSaid : Prop := fnExactMoreGeneralRow.holds Try.pinned (OpenSpec.ofChange fnExactMoreGeneralSpec)

/-- ITS FALSE NEIGHBOUR: 'it returns false'. Refute it at one input. -/
def fnExactMoreGeneralWrong : ChangeSpec := { name := "fnExactMoreGeneral", fn := fun _ => fun
  | [d1, d2] => { results := [.lit (.bool false)], args := [d1, d2] }
  | _ => none }
def FnExactMoreGeneralWrongFalsely : Prop := fnExactMoreGeneralRow.holds Try.pinned (OpenSpec.ofChange fnExactMoreGeneralWrong)

/-- 'laws.FnExactRegsOf': WHATEVER THE INPUT: true; the input reads as it did. -/
def fnExactRegsOfSpec : ChangeSpec := { name := "fnExactRegsOf", fn := fun _ => fun
  | [d] => { results := [.lit (.bool true)], args := [d] }
  | _ => none }
def fnExactRegsOfRow : OpenClaim := { program := "ytaehaalaeikloaa", sum := "7b916522a474a05ae1e16d6c812fc6582e1599ecbf64a702c4e89bf05ae51556", func := "loop.example/stackwords/laws.FnExactRegsOf", spec := "fnExactRegsOf", unfollowed := true, recurses := true, plainKeys := false, apart := false }
def FnExactRegsOfSaid : Prop := fnExactRegsOfRow.holds Try.pinned (OpenSpec.ofChange fnExactRegsOfSpec)

/-- ITS FALSE NEIGHBOUR: 'it returns false'. Refute it at one input. -/
def fnExactRegsOfWrong : ChangeSpec := { name := "fnExactRegsOf", fn := fun _ => fun
  | [d] => { results := [.lit (.bool false)], args := [d] }
  | _ => none }
def FnExactRegsOfWrongFalsely : Prop := fnExactRegsOfRow.holds Try.pinned (OpenSpec.ofChange fnExactRegsOfWrong)

/-- 'laws.FnExactSameRegs': WHATEVER THE INPUT: true; the input reads as it did. -/
def fnExactSameRegsSpec : ChangeSpec := { name := "fnExactSameRegs", fn := fun _ => fun
  | [d1, d2] => { results := [.lit (.bool true)], args := [d1, d2] }
  | _ => none }
def fnExactSameRegsRow : OpenClaim := { program := "ytaehaalaeikloaa", sum := "7b916522a474a05ae1e16d6c812fc6582e1599ecbf64a702c4e89bf05ae51556", func := "loop.example/stackwords/laws.FnExactSameRegs", spec := "fnExactSameRegs", unfollowed := true, recurses := true, plainKeys := false, apart := false }
def FnExactSameRegsSaid : Prop := fnExactSameRegsRow.holds Try.pinned (OpenSpec.ofChange fnExactSameRegsSpec)

/-- ITS FALSE NEIGHBOUR: 'it returns false'. Refute it at one input. -/
def fnExactSameRegsWrong : ChangeSpec := { name := "fnExactSameRegs", fn := fun _ => fun
  | [d1, d2] => { results := [.lit (.bool false)], args := [d1, d2] }
  | _ => none }
def FnExactSameRegsWrongFalsely : Prop := fnExactSameRegsRow.holds Try.pinned (OpenSpec.ofChange fnExactSameRegsWrong)

/- THE SECOND FORM. 'bulk': how many values and letters a reading holds, each counted each time it is reached (what is shared counts as often as it is met; a slice's spare places count too). A statement '..UptoSaid' is the law's where the arguments, and the package variables that the reading takes, are together of bulk at most 1048576: NARROWER than '..Said'. Prove '..Said' where nothing that the law and all that it calls make is longer than what came in: it says more and counts as full. Else prove '..UptoSaid'. A law counts once. -/
mutual
def uptoBulk {H : Type} : DataW H → Nat
  | .lit (.string bytes) => bytes.length + 1
  | .lit _ => 1
  | .nil => 1
  | .ptr d => uptoBulk d + 1
  | .slice elems spare => uptoBulkAll elems + uptoBulkAll spare + 1
  | .agg parts => uptoBulkAll parts + 1
  | .iface _ d => uptoBulk d + 1
  | .map entries => uptoBulkEntries entries + 1
  | .held _ => 1
def uptoBulkAll {H : Type} : List (DataW H) → Nat
  | [] => 0
  | d :: r => uptoBulk d + uptoBulkAll r
def uptoBulkEntries {H : Type} : List (Lit × DataW H) → Nat
  | [] => 0
  | x :: r => uptoBulkEntry x + uptoBulkEntries r
def uptoBulkEntry {H : Type} : Lit × DataW H → Nat
  | (.string bytes, d) => bytes.length + uptoBulk d + 1
  | (_, d) => uptoBulk d + 1
 end
def uptoSmall : (H : Type) → List (DataW H) → Bool := fun _ ds => decide (uptoBulkAll ds ≤ 1048576)
def OpenSpec.upto (s : _root_.Go.ChangeSpec) : _root_.Go.OpenSpec := { _root_.Go.OpenSpec.ofChange s with cond := some uptoSmall }

/-- 'laws.FnRowOk', WHERE WHAT IT READS IS OF BULK AT MOST 1048576: true; the input reads as it did. -/
def fnRowOkUptoRow : OpenClaim := { program := "ytaehaalaeikloaa", sum := "7b916522a474a05ae1e16d6c812fc6582e1599ecbf64a702c4e89bf05ae51556", func := "loop.example/stackwords/laws.FnRowOk", spec := "fnRowOk", recurses := true, plainKeys := false, apart := false, narrowed := true }
def FnRowOkUptoSaid : Prop := fnRowOkUptoRow.holds Try.pinned (OpenSpec.upto fnRowOkSpec)

/-- 'laws.FnEffectThen', WHERE WHAT IT READS IS OF BULK AT MOST 1048576: true; the input reads as it did. -/
def fnEffectThenUptoRow : OpenClaim := { program := "ytaehaalaeikloaa", sum := "7b916522a474a05ae1e16d6c812fc6582e1599ecbf64a702c4e89bf05ae51556", func := "loop.example/stackwords/laws.FnEffectThen", spec := "fnEffectThen", recurses := true, plainKeys := false, apart := false, narrowed := true }
def FnEffectThenUptoSaid : Prop := fnEffectThenUptoRow.holds Try.pinned (OpenSpec.upto fnEffectThenSpec)

/-- 'laws.FnMoreGeneral', WHERE WHAT IT READS IS OF BULK AT MOST 1048576: true; the input reads as it did. -/
def fnMoreGeneralUptoRow : OpenClaim := { program := "ytaehaalaeikloaa", sum := "7b916522a474a05ae1e16d6c812fc6582e1599ecbf64a702c4e89bf05ae51556", func := "loop.example/stackwords/laws.FnMoreGeneral", spec := "fnMoreGeneral", unfollowed := true, recurses := true, plainKeys := false, apart := false, narrowed := true }
def FnMoreGeneralUptoSaid : Prop := fnMoreGeneralUptoRow.holds Try.pinned (OpenSpec.upto fnMoreGeneralSpec)

/-- 'laws.FnNeedsOf', WHERE WHAT IT READS IS OF BULK AT MOST 1048576: true; the input reads as it did. -/
def fnNeedsOfUptoRow : OpenClaim := { program := "ytaehaalaeikloaa", sum := "7b916522a474a05ae1e16d6c812fc6582e1599ecbf64a702c4e89bf05ae51556", func := "loop.example/stackwords/laws.FnNeedsOf", spec := "fnNeedsOf", unfollowed := true, recurses := true, plainKeys := false, apart := false, narrowed := true }
def FnNeedsOfUptoSaid : Prop := fnNeedsOfUptoRow.holds Try.pinned (OpenSpec.upto fnNeedsOfSpec)

/-- 'laws.FnRegsValid', WHERE WHAT IT READS IS OF BULK AT MOST 1048576: true; the input reads as it did. -/
def fnRegsValidUptoRow : OpenClaim := { program := "ytaehaalaeikloaa", sum := "7b916522a474a05ae1e16d6c812fc6582e1599ecbf64a702c4e89bf05ae51556", func := "loop.example/stackwords/laws.FnRegsValid", spec := "fnRegsValid", recurses := true, plainKeys := false, apart := false, narrowed := true }
def FnRegsValidUptoSaid : Prop := fnRegsValidUptoRow.holds Try.pinned (OpenSpec.upto fnRegsValidSpec)

/-- 'laws.FnRegsRun', WHERE WHAT IT READS IS OF BULK AT MOST 1048576: true; the input reads as it did. -/
def fnRegsRunUptoRow : OpenClaim := { program := "ytaehaalaeikloaa", sum := "7b916522a474a05ae1e16d6c812fc6582e1599ecbf64a702c4e89bf05ae51556", func := "loop.example/stackwords/laws.FnRegsRun", spec := "fnRegsRun", recurses := true, plainKeys := false, apart := false, narrowed := true }
def FnRegsRunUptoSaid : Prop := fnRegsRunUptoRow.holds Try.pinned (OpenSpec.upto fnRegsRunSpec)

/-- 'laws.FnGiveName', WHERE WHAT IT READS IS OF BULK AT MOST 1048576: true; the input reads as it did. -/
def fnGiveNameUptoRow : OpenClaim := { program := "ytaehaalaeikloaa", sum := "7b916522a474a05ae1e16d6c812fc6582e1599ecbf64a702c4e89bf05ae51556", func := "loop.example/stackwords/laws.FnGiveName", spec := "fnGiveName", unfollowed := true, recurses := true, plainKeys := false, apart := false, narrowed := true }
def FnGiveNameUptoSaid : Prop := fnGiveNameUptoRow.holds Try.pinned (OpenSpec.upto fnGiveNameSpec)

/-- 'laws.FnPutBack', WHERE WHAT IT READS IS OF BULK AT MOST 1048576: true; the input reads as it did. -/
def fnPutBackUptoRow : OpenClaim := { program := "ytaehaalaeikloaa", sum := "7b916522a474a05ae1e16d6c812fc6582e1599ecbf64a702c4e89bf05ae51556", func := "loop.example/stackwords/laws.FnPutBack", spec := "fnPutBack", unfollowed := true, recurses := true, plainKeys := false, apart := false, narrowed := true }
def FnPutBackUptoSaid : Prop := fnPutBackUptoRow.holds Try.pinned (OpenSpec.upto fnPutBackSpec)

/-- 'laws.FnExactEffectThen', WHERE WHAT IT READS IS OF BULK AT MOST 1048576: true; the input reads as it did. -/
def fnExactEffectThenUptoRow : OpenClaim := { program := "ytaehaalaeikloaa", sum := "7b916522a474a05ae1e16d6c812fc6582e1599ecbf64a702c4e89bf05ae51556", func := "loop.example/stackwords/laws.FnExactEffectThen", spec := "fnExactEffectThen", recurses := true, plainKeys := false, apart := false, narrowed := true }
def FnExactEffectThenUptoSaid : Prop := fnExactEffectThenUptoRow.holds Try.pinned (OpenSpec.upto fnExactEffectThenSpec)

/-- 'laws.FnExactMoreGeneral', WHERE WHAT IT READS IS OF BULK AT MOST 1048576: true; the input reads as it did. -/
def fnExactMoreGeneralUptoRow : OpenClaim := { program := "ytaehaalaeikloaa", sum := "7b916522a474a05ae1e16d6c812fc6582e1599ecbf64a702c4e89bf05ae51556", func := "loop.example/stackwords/laws.FnExactMoreGeneral", spec := "fnExactMoreGeneral", unfollowed := true, recurses := true, plainKeys := false, apart := false, narrowed := true }
def FnExactMoreGeneralUptoSaid : Prop := fnExactMoreGeneralUptoRow.holds Try.pinned (OpenSpec.upto fnExactMoreGeneralSpec)

/-- 'laws.FnExactRegsOf', WHERE WHAT IT READS IS OF BULK AT MOST 1048576: true; the input reads as it did. -/
def fnExactRegsOfUptoRow : OpenClaim := { program := "ytaehaalaeikloaa", sum := "7b916522a474a05ae1e16d6c812fc6582e1599ecbf64a702c4e89bf05ae51556", func := "loop.example/stackwords/laws.FnExactRegsOf", spec := "fnExactRegsOf", unfollowed := true, recurses := true, plainKeys := false, apart := false, narrowed := true }
def FnExactRegsOfUptoSaid : Prop := fnExactRegsOfUptoRow.holds Try.pinned (OpenSpec.upto fnExactRegsOfSpec)

/-- 'laws.FnExactSameRegs', WHERE WHAT IT READS IS OF BULK AT MOST 1048576: true; the input reads as it did. -/
def fnExactSameRegsUptoRow : OpenClaim := { program := "ytaehaalaeikloaa", sum := "7b916522a474a05ae1e16d6c812fc6582e1599ecbf64a702c4e89bf05ae51556", func := "loop.example/stackwords/laws.FnExactSameRegs", spec := "fnExactSameRegs", unfollowed := true, recurses := true, plainKeys := false, apart := false, narrowed := true }
def FnExactSameRegsUptoSaid : Prop := fnExactSameRegsUptoRow.holds Try.pinned (OpenSpec.upto fnExactSameRegsSpec)

end Rows
end Go.Proofs.Ytaehaalaeikloaa
