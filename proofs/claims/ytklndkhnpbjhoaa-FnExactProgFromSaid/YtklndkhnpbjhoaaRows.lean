/-
  No cell of these rows narrows 'for every input' (looked for: loops, veiled, ifaces, maps, wideKeys, modest, calm, conditions, laid).
  DERIVED. THE GIVEN ROWS OF THIS SEAT. 7 by the template 'for every input the law returns true; each argument reads behind the call as it read before'; 0 by the template 'total and deterministic' (their statements: YtklndkhnpbjhoaaTotals.lean).
  GIVEN WITH THE SEED: the statements are not yours to turn. If you find one false, say at which input.
  Laid BY PROGRAM, IN A SANDBOX (cutbox-rows.mjs): the forced cells as the released guide's own fill.sh prints them over the translation 3639dbe36556613d… (all of the seat's roots in one cut). By AI agents, Wed Nov 11 2026. No macro, syntax, notation, axiom, sorry.
-/
import Derived.Test.YtklndkhnpbjhoaaChecked
import GoSem.Claim
import GoSem.ClaimJoined
import GoSem.ClaimMapViews
import Derived.JoinedTies
import Derived.KernelRfl
namespace Go.Proofs.Ytklndkhnpbjhoaa
/- THE CELL 'sum', in the pinned program and in every row, IS THE sha256 OF THE DUMP (.gsa) THAT YtklndkhnpbjhoaaProg.lean LOADS. Nothing in Lean hashes anything: it is a label: what it is worth is what the hold of that sum in a sandbox is worth. -/
noncomputable def Try.pinned : Pinned := { name := "ytklndkhnpbjhoaa", sum := "3639dbe36556613d3037ffec2afabaf13ad142955ac10363cf0c5a365fa07998", checked := Try.checked }
namespace Rows
def none {H : Type} : Left H := { results := [], args := [] }

/-- 'laws.FnRegsValid': WHATEVER THE INPUT: true; the input reads as it did. -/
def fnRegsValidSpec : ChangeSpec := { name := "fnRegsValid", fn := fun _ => fun
  | [d] => { results := [.lit (.bool true)], args := [d] }
  | _ => none }
def fnRegsValidRow : OpenClaim := { program := "ytklndkhnpbjhoaa", sum := "3639dbe36556613d3037ffec2afabaf13ad142955ac10363cf0c5a365fa07998", func := "loop.example/stackwords/laws.FnRegsValid", spec := "fnRegsValid", recurses := true, plainKeys := false, apart := false }
def FnRegsValidSaid : Prop := fnRegsValidRow.holds Try.pinned (OpenSpec.ofChange fnRegsValidSpec)

/-- ITS FALSE NEIGHBOUR: 'it returns false'. Refute it at one input. -/
def fnRegsValidWrong : ChangeSpec := { name := "fnRegsValid", fn := fun _ => fun
  | [d] => { results := [.lit (.bool false)], args := [d] }
  | _ => none }
def FnRegsValidWrongFalsely : Prop := fnRegsValidRow.holds Try.pinned (OpenSpec.ofChange fnRegsValidWrong)

/-- 'laws.FnRegsRun': WHATEVER THE INPUT: true; the input reads as it did. -/
def fnRegsRunSpec : ChangeSpec := { name := "fnRegsRun", fn := fun _ => fun
  | [d] => { results := [.lit (.bool true)], args := [d] }
  | _ => none }
def fnRegsRunRow : OpenClaim := { program := "ytklndkhnpbjhoaa", sum := "3639dbe36556613d3037ffec2afabaf13ad142955ac10363cf0c5a365fa07998", func := "loop.example/stackwords/laws.FnRegsRun", spec := "fnRegsRun", recurses := true, plainKeys := false, apart := false }
def FnRegsRunSaid : Prop := fnRegsRunRow.holds Try.pinned (OpenSpec.ofChange fnRegsRunSpec)

/-- ITS FALSE NEIGHBOUR: 'it returns false'. Refute it at one input. -/
def fnRegsRunWrong : ChangeSpec := { name := "fnRegsRun", fn := fun _ => fun
  | [d] => { results := [.lit (.bool false)], args := [d] }
  | _ => none }
def FnRegsRunWrongFalsely : Prop := fnRegsRunRow.holds Try.pinned (OpenSpec.ofChange fnRegsRunWrong)

/-- 'laws.FnExactRegsOf': WHATEVER THE INPUT: true; the input reads as it did. -/
def fnExactRegsOfSpec : ChangeSpec := { name := "fnExactRegsOf", fn := fun _ => fun
  | [d] => { results := [.lit (.bool true)], args := [d] }
  | _ => none }
def fnExactRegsOfRow : OpenClaim := { program := "ytklndkhnpbjhoaa", sum := "3639dbe36556613d3037ffec2afabaf13ad142955ac10363cf0c5a365fa07998", func := "loop.example/stackwords/laws.FnExactRegsOf", spec := "fnExactRegsOf", unfollowed := true, recurses := true, plainKeys := false, apart := false }
def FnExactRegsOfSaid : Prop := fnExactRegsOfRow.holds Try.pinned (OpenSpec.ofChange fnExactRegsOfSpec)

/-- ITS FALSE NEIGHBOUR: 'it returns false'. Refute it at one input. -/
def fnExactRegsOfWrong : ChangeSpec := { name := "fnExactRegsOf", fn := fun _ => fun
  | [d] => { results := [.lit (.bool false)], args := [d] }
  | _ => none }
def FnExactRegsOfWrongFalsely : Prop := fnExactRegsOfRow.holds Try.pinned (OpenSpec.ofChange fnExactRegsOfWrong)

/-- 'laws.FnExactRegsValid': WHATEVER THE INPUT: true; the input reads as it did. -/
def fnExactRegsValidSpec : ChangeSpec := { name := "fnExactRegsValid", fn := fun _ => fun
  | [d] => { results := [.lit (.bool true)], args := [d] }
  | _ => none }
def fnExactRegsValidRow : OpenClaim := { program := "ytklndkhnpbjhoaa", sum := "3639dbe36556613d3037ffec2afabaf13ad142955ac10363cf0c5a365fa07998", func := "loop.example/stackwords/laws.FnExactRegsValid", spec := "fnExactRegsValid", plainKeys := false, apart := false }
def FnExactRegsValidSaid : Prop := fnExactRegsValidRow.holds Try.pinned (OpenSpec.ofChange fnExactRegsValidSpec)

/-- ITS FALSE NEIGHBOUR: 'it returns false'. Refute it at one input. -/
def fnExactRegsValidWrong : ChangeSpec := { name := "fnExactRegsValid", fn := fun _ => fun
  | [d] => { results := [.lit (.bool false)], args := [d] }
  | _ => none }
def FnExactRegsValidWrongFalsely : Prop := fnExactRegsValidRow.holds Try.pinned (OpenSpec.ofChange fnExactRegsValidWrong)

/-- 'laws.FnExactRegsRun': WHATEVER THE INPUT: true; the input reads as it did. -/
def fnExactRegsRunSpec : ChangeSpec := { name := "fnExactRegsRun", fn := fun _ => fun
  | [d1, d2] => { results := [.lit (.bool true)], args := [d1, d2] }
  | _ => none }
def fnExactRegsRunRow : OpenClaim := { program := "ytklndkhnpbjhoaa", sum := "3639dbe36556613d3037ffec2afabaf13ad142955ac10363cf0c5a365fa07998", func := "loop.example/stackwords/laws.FnExactRegsRun", spec := "fnExactRegsRun", plainKeys := false, apart := false }
def FnExactRegsRunSaid : Prop := fnExactRegsRunRow.holds Try.pinned (OpenSpec.ofChange fnExactRegsRunSpec)

/-- ITS FALSE NEIGHBOUR: 'it returns false'. Refute it at one input. -/
def fnExactRegsRunWrong : ChangeSpec := { name := "fnExactRegsRun", fn := fun _ => fun
  | [d1, d2] => { results := [.lit (.bool false)], args := [d1, d2] }
  | _ => none }
def FnExactRegsRunWrongFalsely : Prop := fnExactRegsRunRow.holds Try.pinned (OpenSpec.ofChange fnExactRegsRunWrong)

/-- 'laws.FnExactSameRegs': WHATEVER THE INPUT: true; the input reads as it did. -/
def fnExactSameRegsSpec : ChangeSpec := { name := "fnExactSameRegs", fn := fun _ => fun
  | [d1, d2] => { results := [.lit (.bool true)], args := [d1, d2] }
  | _ => none }
def fnExactSameRegsRow : OpenClaim := { program := "ytklndkhnpbjhoaa", sum := "3639dbe36556613d3037ffec2afabaf13ad142955ac10363cf0c5a365fa07998", func := "loop.example/stackwords/laws.FnExactSameRegs", spec := "fnExactSameRegs", unfollowed := true, recurses := true, plainKeys := false, apart := false }
def FnExactSameRegsSaid : Prop := fnExactSameRegsRow.holds Try.pinned (OpenSpec.ofChange fnExactSameRegsSpec)

/-- ITS FALSE NEIGHBOUR: 'it returns false'. Refute it at one input. -/
def fnExactSameRegsWrong : ChangeSpec := { name := "fnExactSameRegs", fn := fun _ => fun
  | [d1, d2] => { results := [.lit (.bool false)], args := [d1, d2] }
  | _ => none }
def FnExactSameRegsWrongFalsely : Prop := fnExactSameRegsRow.holds Try.pinned (OpenSpec.ofChange fnExactSameRegsWrong)

/-- 'laws.FnExactProgFrom': WHATEVER THE INPUT: true; the input reads as it did. -/
def fnExactProgFromSpec : ChangeSpec := { name := "fnExactProgFrom", fn := fun _ => fun
  | [d] => { results := [.lit (.bool true)], args := [d] }
  | _ => none }
def fnExactProgFromRow : OpenClaim := { program := "ytklndkhnpbjhoaa", sum := "3639dbe36556613d3037ffec2afabaf13ad142955ac10363cf0c5a365fa07998", func := "loop.example/stackwords/laws.FnExactProgFrom", spec := "fnExactProgFrom", plainKeys := false, apart := false }
def FnExactProgFromSaid : Prop := fnExactProgFromRow.holds Try.pinned (OpenSpec.ofChange fnExactProgFromSpec)

/-- ITS FALSE NEIGHBOUR: 'it returns false'. Refute it at one input. -/
def fnExactProgFromWrong : ChangeSpec := { name := "fnExactProgFrom", fn := fun _ => fun
  | [d] => { results := [.lit (.bool false)], args := [d] }
  | _ => none }
def FnExactProgFromWrongFalsely : Prop := fnExactProgFromRow.holds Try.pinned (OpenSpec.ofChange fnExactProgFromWrong)

/- THE SECOND FORM. 'bulk': how many values and letters a reading holds, each counted each time it is reached (what is shared counts as often as it is met; a slice's spare places count too). A statement '..UptoSaid' is the law's where the arguments, and the package variables that the reading takes, are together of bulk at most 1048576: NARROWER than '..Said'. Prove '..Said' where nothing that the law and all that it calls make is longer than what came in: it says more and counts as full. Else prove '..UptoSaid'. A law counts once. -/
mutual
def uptoBulk {H : Type} : DataW H → Nat
  | .lit (.string bytes) => bytes.length + 1
  | .lit _ => 1
  | .nil => 1
  | .ptr d => uptoBulk d + 1
  | .slice elems spare => uptoBulkAll elems + uptoBulkAll spare + 1
  | .agg parts => uptoBulkAll parts + 1
  | .iface _ d => uptoBulk d + 1
  | .map entries => uptoBulkEntries entries + 1
  | .held _ => 1
def uptoBulkAll {H : Type} : List (DataW H) → Nat
  | [] => 0
  | d :: r => uptoBulk d + uptoBulkAll r
def uptoBulkEntries {H : Type} : List (Lit × DataW H) → Nat
  | [] => 0
  | x :: r => uptoBulkEntry x + uptoBulkEntries r
def uptoBulkEntry {H : Type} : Lit × DataW H → Nat
  | (.string bytes, d) => bytes.length + uptoBulk d + 1
  | (_, d) => uptoBulk d + 1
 end
def uptoSmall : (H : Type) → List (DataW H) → Bool := fun _ ds => decide (uptoBulkAll ds ≤ 1048576)
def OpenSpec.upto (s : _root_.Go.ChangeSpec) : _root_.Go.OpenSpec := { _root_.Go.OpenSpec.ofChange s with cond := some uptoSmall }

/-- 'laws.FnRegsValid', WHERE WHAT IT READS IS OF BULK AT MOST 1048576: true; the input reads as it did. -/
def fnRegsValidUptoRow : OpenClaim := { program := "ytklndkhnpbjhoaa", sum := "3639dbe36556613d3037ffec2afabaf13ad142955ac10363cf0c5a365fa07998", func := "loop.example/stackwords/laws.FnRegsValid", spec := "fnRegsValid", recurses := true, plainKeys := false, apart := false, narrowed := true }
def FnRegsValidUptoSaid : Prop := fnRegsValidUptoRow.holds Try.pinned (OpenSpec.upto fnRegsValidSpec)

/-- 'laws.FnRegsRun', WHERE WHAT IT READS IS OF BULK AT MOST 1048576: true; the input reads as it did. -/
def fnRegsRunUptoRow : OpenClaim := { program := "ytklndkhnpbjhoaa", sum := "3639dbe36556613d3037ffec2afabaf13ad142955ac10363cf0c5a365fa07998", func := "loop.example/stackwords/laws.FnRegsRun", spec := "fnRegsRun", recurses := true, plainKeys := false, apart := false, narrowed := true }
def FnRegsRunUptoSaid : Prop := fnRegsRunUptoRow.holds Try.pinned (OpenSpec.upto fnRegsRunSpec)

/-- 'laws.FnExactRegsOf', WHERE WHAT IT READS IS OF BULK AT MOST 1048576: true; the input reads as it did. -/
def fnExactRegsOfUptoRow : OpenClaim := { program := "ytklndkhnpbjhoaa", sum := "3639dbe36556613d3037ffec2afabaf13ad142955ac10363cf0c5a365fa07998", func := "loop.example/stackwords/laws.FnExactRegsOf", spec := "fnExactRegsOf", unfollowed := true, recurses := true, plainKeys := false, apart := false, narrowed := true }
def FnExactRegsOfUptoSaid : Prop := fnExactRegsOfUptoRow.holds Try.pinned (OpenSpec.upto fnExactRegsOfSpec)

/-- 'laws.FnExactRegsValid', WHERE WHAT IT READS IS OF BULK AT MOST 1048576: true; the input reads as it did. -/
def fnExactRegsValidUptoRow : OpenClaim := { program := "ytklndkhnpbjhoaa", sum := "3639dbe36556613d3037ffec2afabaf13ad142955ac10363cf0c5a365fa07998", func := "loop.example/stackwords/laws.FnExactRegsValid", spec := "fnExactRegsValid", plainKeys := false, apart := false, narrowed := true }
def FnExactRegsValidUptoSaid : Prop := fnExactRegsValidUptoRow.holds Try.pinned (OpenSpec.upto fnExactRegsValidSpec)

/-- 'laws.FnExactRegsRun', WHERE WHAT IT READS IS OF BULK AT MOST 1048576: true; the input reads as it did. -/
def fnExactRegsRunUptoRow : OpenClaim := { program := "ytklndkhnpbjhoaa", sum := "3639dbe36556613d3037ffec2afabaf13ad142955ac10363cf0c5a365fa07998", func := "loop.example/stackwords/laws.FnExactRegsRun", spec := "fnExactRegsRun", plainKeys := false, apart := false, narrowed := true }
def FnExactRegsRunUptoSaid : Prop := fnExactRegsRunUptoRow.holds Try.pinned (OpenSpec.upto fnExactRegsRunSpec)

/-- 'laws.FnExactSameRegs', WHERE WHAT IT READS IS OF BULK AT MOST 1048576: true; the input reads as it did. -/
def fnExactSameRegsUptoRow : OpenClaim := { program := "ytklndkhnpbjhoaa", sum := "3639dbe36556613d3037ffec2afabaf13ad142955ac10363cf0c5a365fa07998", func := "loop.example/stackwords/laws.FnExactSameRegs", spec := "fnExactSameRegs", unfollowed := true, recurses := true, plainKeys := false, apart := false, narrowed := true }
def FnExactSameRegsUptoSaid : Prop := fnExactSameRegsUptoRow.holds Try.pinned (OpenSpec.upto fnExactSameRegsSpec)

/-- 'laws.FnExactProgFrom', WHERE WHAT IT READS IS OF BULK AT MOST 1048576: true; the input reads as it did. -/
def fnExactProgFromUptoRow : OpenClaim := { program := "ytklndkhnpbjhoaa", sum := "3639dbe36556613d3037ffec2afabaf13ad142955ac10363cf0c5a365fa07998", func := "loop.example/stackwords/laws.FnExactProgFrom", spec := "fnExactProgFrom", plainKeys := false, apart := false, narrowed := true }
def FnExactProgFromUptoSaid : Prop := fnExactProgFromUptoRow.holds Try.pinned (OpenSpec.upto fnExactProgFromSpec)

end Rows
end Go.Proofs.Ytklndkhnpbjhoaa
