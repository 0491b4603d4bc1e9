/- What the reader gives of a state of the laws. -/
import Derived.Test.YtpljkkcljhhpbaaB5
namespace Go.Proofs.Ytpljkkcljhhpbaa
set_option maxRecDepth 100000
open Go.RowKit Go.WideShapes Go.Joins

end Go.Proofs.Ytpljkkcljhhpbaa
