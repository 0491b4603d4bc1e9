/- The laws' comparisons of benches where both are equal. -/
import Derived.Test.YtjblecinkedppaaDoorI
import Derived.Test.YtjblecinkedppaaDoorAq
import Derived.Test.YtjblecinkedppaaDoorBm
import Derived.Test.YtjblecinkedppaaDoorB6
import Derived.Test.YtjblecinkedppaaDoorB5
namespace Go.Proofs.YtjblecinkedppaaDoor
set_option maxRecDepth 100000
open Go.RowKit Go.WideShapes

theorem RdT.nil9 (w : World) (A : Option Addr) (c : Nat) : RdT w (.slice A 0 c) [] := ⟨A, c, rfl, Nat.zero_le _, by simp, fun h => absurd h (by simp)⟩
theorem RdI.nil9 (w : World) : RdI w (.slice none 0 0) [] := (⟨⟨World.ownsRow_nil _ _ _ _, fun _ h => absurd h (by simp)⟩, by simp [Value.ownBlock]⟩ : OwnI w w.heap.size w.heap.size (.slice none 0 0) []).rd
end Go.Proofs.YtjblecinkedppaaDoor
