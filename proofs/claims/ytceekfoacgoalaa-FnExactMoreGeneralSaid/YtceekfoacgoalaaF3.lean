/- The words of the cut's head: how it is made. -/
import Derived.Test.YtceekfoacgoalaaRows
import Derived.WalkKit
import Derived.ProofKit
import Derived.JoinedOf
namespace Go.Proofs.Ytceekfoacgoalaa
set_option maxRecDepth 100000
open Go.RowKit
theorem pf_make : Try.pinned.checked.prog.make = some .cut := by kernel_rfl
end Go.Proofs.Ytceekfoacgoalaa
