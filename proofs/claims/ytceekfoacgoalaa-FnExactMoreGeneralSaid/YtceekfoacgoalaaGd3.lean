/- l20Good at 3 parts. -/
import Derived.Test.YtceekfoacgoalaaBe
import Derived.IntWalk
namespace Go.Proofs.Ytceekfoacgoalaa
set_option maxRecDepth 100000
open Go.RowKit Go.WideShapes

end Go.Proofs.Ytceekfoacgoalaa
