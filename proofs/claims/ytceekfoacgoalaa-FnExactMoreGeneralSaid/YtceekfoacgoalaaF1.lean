/- The words of the cut's head: the program may be entered. -/
import Derived.Test.YtceekfoacgoalaaRows
import Derived.WalkKit
import Derived.ProofKit
import Derived.JoinedOf
namespace Go.Proofs.Ytceekfoacgoalaa
set_option maxRecDepth 100000
open Go.RowKit
theorem pf_enter : Try.pinned.checked.prog.mayEnter = true := by kernel_rfl
end Go.Proofs.Ytceekfoacgoalaa
