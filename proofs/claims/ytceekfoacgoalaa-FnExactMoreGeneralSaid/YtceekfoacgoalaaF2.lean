/- The words of the cut's head: what is lifted. -/
import Derived.Test.YtceekfoacgoalaaRows
import Derived.WalkKit
import Derived.ProofKit
import Derived.JoinedOf
namespace Go.Proofs.Ytceekfoacgoalaa
set_option maxRecDepth 100000
open Go.RowKit
theorem pf_lifts : Try.pinned.checked.prog.liftsFinal = false := by kernel_rfl
end Go.Proofs.Ytceekfoacgoalaa
