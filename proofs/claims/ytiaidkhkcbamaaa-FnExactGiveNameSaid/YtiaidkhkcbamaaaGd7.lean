/- l20Good at 7 parts. -/
import Derived.Test.YtiaidkhkcbamaaaBe
import Derived.IntWalk
namespace Go.Proofs.Ytiaidkhkcbamaaa
set_option maxRecDepth 100000
open Go.RowKit Go.WideShapes

end Go.Proofs.Ytiaidkhkcbamaaa
