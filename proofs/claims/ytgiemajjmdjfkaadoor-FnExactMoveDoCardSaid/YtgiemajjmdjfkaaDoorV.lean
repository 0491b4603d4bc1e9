/- Contracts of chapter 1's functions, in the form that the exact laws take. -/
import Derived.Test.YtgiemajjmdjfkaaDoorU
import Derived.Test.YtgiemajjmdjfkaaDoorO
namespace Go.Proofs.YtgiemajjmdjfkaaDoor
set_option maxRecDepth 100000
open Go.RowKit Go.WideShapes

theorem thenR_len (p q : List Int) : szI (thenR p q).1 ≤ 1000000 := by
  unfold thenR szI; split
  · rename_i h; simp; omega
  · simp
theorem quoteR_len (p : List Int) : szI (quoteR p).1 ≤ 1000000 := by
  unfold quoteR szI; split
  · rename_i h; simp; omega
  · simp
end Go.Proofs.YtgiemajjmdjfkaaDoor
