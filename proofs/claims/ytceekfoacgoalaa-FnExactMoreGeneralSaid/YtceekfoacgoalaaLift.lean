/- From a contract "returns true, and nothing of before has changed" to a law's row. -/
import Derived.Test.YtceekfoacgoalaaBb
import Derived.Test.YtceekfoacgoalaaF1
import Derived.Test.YtceekfoacgoalaaF2
import Derived.Test.YtceekfoacgoalaaF3
namespace Go.Proofs.Ytceekfoacgoalaa
set_option maxRecDepth 100000
open Go.RowKit Go.WideShapes Go.ChangeShapes Go.WideElems

/-- What a law's walk has to give: whatever fits, it returns true, and all of before is as it was. -/
def LawWalk (K : Nat) (f : Func) : Prop :=
  ∀ (H : Type) (enc : TypeId × Value → H) (W : World) (base : Nat) (args : Array Value) (ds : List (DataW H)) (ps : List MemPlace),
    (∀ (j : Nat) t v, f.params[j]? = some t → args[j]? = some v → Value.okWide Try.prog W .any base t v) →
    DataW.TrodAll enc Try.prog W 0 (fun _ => true) true f.params.toList args.toList ds ps →
    Calls Try.prog K args W fun e W' => e = .returned (.bool true) ∧ Below W.heap.size W W'

/-- The same, and what the specification of the row says of these data. -/
theorem law_contract {K : Nat} {f : Func} {s : ChangeSpec} (hl : laidOutB Try.prog = true) (hv : s.vars = [])
    (hread : f.params.toList.all (fun t => Try.prog.readableRec t && decide (t < Try.prog.types.size)) = true)
    (hres : f.resultTypes = #[4])
    (hspec : ∀ (H : Type) (ds : List (DataW H)), ds.length = f.params.toList.length → (s.fn H ds).results = [.lit (.bool true)] ∧ (s.fn H ds).args = ds ∧ (s.fn H ds).vars = [])
    (hwalk : LawWalk K f) {H : Type} {enc : TypeId × Value → H} {apart fresh handsOn again : Bool} (W : World) (base : Nat) (args : Array Value) (ds gs : List (DataW H)) (before : List MemPlace)
    (hval : ∀ (j : Nat) t v, f.params[j]? = some t → args[j]? = some v → Value.okWide Try.prog W .any base t v)
    (hW : DataW.Whole enc Try.prog f.params.toList s.vars apart W args.toList ds gs before) :
    Calls Try.prog K args W fun e W' => ∃ v, e = .returned v ∧ s.post enc Try.prog f apart fresh handsOn again W args v W' := by
  have hA := hW
  obtain ⟨p, q, hA, _⟩ := hA
  refine (hwalk H enc W base args ds p hval hA).mono fun e W' ⟨he, hb⟩ => ⟨_, he, ?_⟩
  exact post_law hl hW hv hread hres Try.underlying4 (hspec H ds (trodAll_length hA).2) hb


end Go.Proofs.Ytceekfoacgoalaa
