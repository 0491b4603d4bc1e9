/- What the reader gives of a state of the laws. -/
import Derived.Test.YtjbfpbajbjnifaaB5
namespace Go.Proofs.Ytjbfpbajbjnifaa
set_option maxRecDepth 100000
open Go.RowKit Go.WideShapes Go.Joins

end Go.Proofs.Ytjbfpbajbjnifaa
