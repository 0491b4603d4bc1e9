/- Words as texts: strconv.Itoa, WordText of the program; l1Number, WordText of the model. -/
import Derived.Test.YtjblecinkedppaaDoorBp
import Derived.Test.YtjblecinkedppaaDoorSh
import Derived.Test.YtjblecinkedppaaDoorBb
import Derived.Sort.Grow
namespace Go.Proofs.YtjblecinkedppaaDoor
set_option maxRecDepth 100000
open Go.RowKit Go.WideShapes
open Lib (decDigits)

theorem below_grow0 (w : World) (k : Nat) (os : Array Obj) : Below w.heap.size w (Sort.grow (w.drewN k) os) :=
  ⟨rfl, rfl, rfl, by simp [Sort.grow, World.drewN], fun i hi => by simp [Sort.grow, World.drewN, Array.getElem?_append_left hi]⟩
/-- The library's table of powers of ten. -/
def Pow (w : World) : Prop := Lib.TabIs Tryd.prog w "internal/strconv.uint64pow10" .u64 Lib.pow10Tab
end Go.Proofs.YtjblecinkedppaaDoor
