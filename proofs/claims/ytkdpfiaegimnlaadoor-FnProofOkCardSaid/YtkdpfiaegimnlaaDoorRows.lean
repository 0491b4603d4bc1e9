/-
  NARROWER THAN 'FOR EVERY INPUT', by the rows' own cells (each row's printed sentence says how): FnProofOk: laid · FnSimpleOf: laid.
  DERIVED. THE GIVEN ROWS OF THIS SEAT. 2 by the template 'for every input the law returns true; each argument reads behind the call as it read before'; 0 by the template 'total and deterministic' (their statements: YtkdpfiaegimnlaaDoorTotals.lean).
  GIVEN WITH THE SEED: the statements are not yours to turn. If you find one false, say at which input.
  Laid BY PROGRAM, IN A SANDBOX (cutbox-rows.mjs): the forced cells as the released guide's own fill.sh prints them over the translation 38bc67823c9132b7… (all of the seat's roots in one cut). By AI agents, Wed Nov 11 2026. No macro, syntax, notation, axiom, sorry.
-/
import Derived.Test.YtkdpfiaegimnlaaDoorChecked
import GoSem.Claim
import GoSem.ClaimJoined
import GoSem.ClaimMapViews
import Derived.JoinedTies
import Derived.KernelRfl
namespace Go.Proofs.YtkdpfiaegimnlaaDoor
/- THE CELL 'sum', in the pinned program and in every row, IS THE sha256 OF THE DUMP (.gsa) THAT YtkdpfiaegimnlaaDoorProg.lean LOADS. Nothing in Lean hashes anything: it is a label: what it is worth is what the hold of that sum in a sandbox is worth. -/
noncomputable def Tryd.pinned : Pinned := { name := "ytkdpfiaegimnlaadoor", sum := "38bc67823c9132b72b197bf451539e121a2eee6a00faaca8b7776ee6156bc57c", checked := Tryd.checked }
namespace Rows
def none {H : Type} : Left H := { results := [], args := [] }

/- WHAT THE LISTED PACKAGE-LEVEL VARIABLES READ AS WHEN THE CALL BEGINS. Each datum BY PROGRAM (the guide's laid-datum.mjs) off the statement by which the dump's own 'gosem.cut.vars' lays the variable. In a bare row this is a premise. The card (YtkdpfiaegimnlaaDoorCards.lean) ties it to the program's text. -/
def laid_loop_example_stackwords_impl_ruleTakes {H : Type} : DataW H := .agg [.lit (.int .i64 1), .lit (.int .i64 1), .lit (.int .i64 2), .lit (.int .i64 1), .lit (.int .i64 2), .lit (.int .i64 2), .lit (.int .i64 3), .lit (.int .i64 2), .lit (.int .i64 2)]

/-- 'laws.FnProofOk': WHATEVER THE INPUT: true; the input reads as it did. -/
def fnProofOkSpec : ChangeSpec := { name := "fnProofOk", vars := ["loop.example/stackwords/impl.ruleTakes"], fn := fun _ => fun
  | [d1, d2, g1] => { results := [.lit (.bool true)], args := [d1, d2], vars := [g1] }
  | _ => none }
def fnProofOkRow : OpenClaim := { program := "ytkdpfiaegimnlaadoor", sum := "38bc67823c9132b72b197bf451539e121a2eee6a00faaca8b7776ee6156bc57c", func := "loop.example/stackwords/laws.FnProofOk", spec := "fnProofOk", unfollowed := true, recurses := true, named := ["loop.example/stackwords/impl.ruleTakes"], apart := false, laid := [("loop.example/stackwords/impl.ruleTakes", laid_loop_example_stackwords_impl_ruleTakes)] }
def FnProofOkSaid : Prop := fnProofOkRow.holds Tryd.pinned (OpenSpec.ofChange fnProofOkSpec)

/-- ITS FALSE NEIGHBOUR: 'it returns false'. Refute it at one input. -/
def fnProofOkWrong : ChangeSpec := { name := "fnProofOk", vars := ["loop.example/stackwords/impl.ruleTakes"], fn := fun _ => fun
  | [d1, d2, g1] => { results := [.lit (.bool false)], args := [d1, d2], vars := [g1] }
  | _ => none }
def FnProofOkWrongFalsely : Prop := fnProofOkRow.holds Tryd.pinned (OpenSpec.ofChange fnProofOkWrong)

/-- 'laws.FnSimpleOf': WHATEVER THE INPUT: true; the input reads as it did. -/
def fnSimpleOfSpec : ChangeSpec := { name := "fnSimpleOf", vars := ["loop.example/stackwords/impl.ruleTakes"], fn := fun _ => fun
  | [d, g1] => { results := [.lit (.bool true)], args := [d], vars := [g1] }
  | _ => none }
def fnSimpleOfRow : OpenClaim := { program := "ytkdpfiaegimnlaadoor", sum := "38bc67823c9132b72b197bf451539e121a2eee6a00faaca8b7776ee6156bc57c", func := "loop.example/stackwords/laws.FnSimpleOf", spec := "fnSimpleOf", unfollowed := true, recurses := true, named := ["loop.example/stackwords/impl.ruleTakes"], apart := false, laid := [("loop.example/stackwords/impl.ruleTakes", laid_loop_example_stackwords_impl_ruleTakes)] }
def FnSimpleOfSaid : Prop := fnSimpleOfRow.holds Tryd.pinned (OpenSpec.ofChange fnSimpleOfSpec)

/-- ITS FALSE NEIGHBOUR: 'it returns false'. Refute it at one input. -/
def fnSimpleOfWrong : ChangeSpec := { name := "fnSimpleOf", vars := ["loop.example/stackwords/impl.ruleTakes"], fn := fun _ => fun
  | [d, g1] => { results := [.lit (.bool false)], args := [d], vars := [g1] }
  | _ => none }
def FnSimpleOfWrongFalsely : Prop := fnSimpleOfRow.holds Tryd.pinned (OpenSpec.ofChange fnSimpleOfWrong)

/- THE SECOND FORM. 'bulk': how many values and letters a reading holds, each counted each time it is reached (what is shared counts as often as it is met; a slice's spare places count too). A statement '..UptoSaid' is the law's where the arguments, and the package variables that the reading takes, are together of bulk at most 1048576: NARROWER than '..Said'. Prove '..Said' where nothing that the law and all that it calls make is longer than what came in: it says more and counts as full. Else prove '..UptoSaid'. A law counts once. -/
mutual
def uptoBulk {H : Type} : DataW H → Nat
  | .lit (.string bytes) => bytes.length + 1
  | .lit _ => 1
  | .nil => 1
  | .ptr d => uptoBulk d + 1
  | .slice elems spare => uptoBulkAll elems + uptoBulkAll spare + 1
  | .agg parts => uptoBulkAll parts + 1
  | .iface _ d => uptoBulk d + 1
  | .map entries => uptoBulkEntries entries + 1
  | .held _ => 1
def uptoBulkAll {H : Type} : List (DataW H) → Nat
  | [] => 0
  | d :: r => uptoBulk d + uptoBulkAll r
def uptoBulkEntries {H : Type} : List (Lit × DataW H) → Nat
  | [] => 0
  | x :: r => uptoBulkEntry x + uptoBulkEntries r
def uptoBulkEntry {H : Type} : Lit × DataW H → Nat
  | (.string bytes, d) => bytes.length + uptoBulk d + 1
  | (_, d) => uptoBulk d + 1
 end
def uptoSmall : (H : Type) → List (DataW H) → Bool := fun _ ds => decide (uptoBulkAll ds ≤ 1048576)
def OpenSpec.upto (s : _root_.Go.ChangeSpec) : _root_.Go.OpenSpec := { _root_.Go.OpenSpec.ofChange s with cond := some uptoSmall }

/-- 'laws.FnProofOk', WHERE WHAT IT READS IS OF BULK AT MOST 1048576: true; the input reads as it did. -/
def fnProofOkUptoRow : OpenClaim := { program := "ytkdpfiaegimnlaadoor", sum := "38bc67823c9132b72b197bf451539e121a2eee6a00faaca8b7776ee6156bc57c", func := "loop.example/stackwords/laws.FnProofOk", spec := "fnProofOk", unfollowed := true, recurses := true, named := ["loop.example/stackwords/impl.ruleTakes"], apart := false, laid := [("loop.example/stackwords/impl.ruleTakes", laid_loop_example_stackwords_impl_ruleTakes)], narrowed := true }
def FnProofOkUptoSaid : Prop := fnProofOkUptoRow.holds Tryd.pinned (OpenSpec.upto fnProofOkSpec)

/-- 'laws.FnSimpleOf', WHERE WHAT IT READS IS OF BULK AT MOST 1048576: true; the input reads as it did. -/
def fnSimpleOfUptoRow : OpenClaim := { program := "ytkdpfiaegimnlaadoor", sum := "38bc67823c9132b72b197bf451539e121a2eee6a00faaca8b7776ee6156bc57c", func := "loop.example/stackwords/laws.FnSimpleOf", spec := "fnSimpleOf", unfollowed := true, recurses := true, named := ["loop.example/stackwords/impl.ruleTakes"], apart := false, laid := [("loop.example/stackwords/impl.ruleTakes", laid_loop_example_stackwords_impl_ruleTakes)], narrowed := true }
def FnSimpleOfUptoSaid : Prop := fnSimpleOfUptoRow.holds Tryd.pinned (OpenSpec.upto fnSimpleOfSpec)

end Rows
end Go.Proofs.YtkdpfiaegimnlaaDoor
