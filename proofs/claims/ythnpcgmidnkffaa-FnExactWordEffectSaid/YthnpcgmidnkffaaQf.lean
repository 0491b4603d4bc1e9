/- Contracts of chapter 2's tests, in the form that the exact laws take. -/
import Derived.Test.YthnpcgmidnkffaaSp
namespace Go.Proofs.Ythnpcgmidnkffaa
set_option maxRecDepth 100000
open Go.RowKit Go.WideShapes

theorem stackProgR_len (s : List (List Int)) : szI (stackProgR s).1 ≤ 1000000 := by
  unfold stackProgR szI; split
  · rename_i h; have := h.2; show s.flatten.length ≤ _; omega
  · simp
theorem progStackR_len (p : List Int) : szS (progStackR p).1 ≤ 1000000 := by
  unfold progStackR; split
  · exact partsR_len p
  · simp [szS]
end Go.Proofs.Ythnpcgmidnkffaa
