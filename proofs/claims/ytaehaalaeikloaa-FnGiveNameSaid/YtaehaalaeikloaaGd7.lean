/- l20Good at 7 parts. -/
import Derived.Test.YtaehaalaeikloaaBe
import Derived.IntWalk
namespace Go.Proofs.Ytaehaalaeikloaa
set_option maxRecDepth 100000
open Go.RowKit Go.WideShapes

end Go.Proofs.Ytaehaalaeikloaa
