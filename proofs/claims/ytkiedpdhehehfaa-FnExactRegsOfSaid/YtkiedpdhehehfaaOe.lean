/- RegsValid of the program, at registers by value. -/
import Derived.Test.YtkiedpdhehehfaaOa
import Derived.Test.YtkiedpdhehehfaaOd
import Derived.Test.YtkiedpdhehehfaaB5
import Derived.Deep.RegionWith
namespace Go.Proofs.Ytkiedpdhehehfaa
set_option maxRecDepth 100000
open Go.RowKit Go.WideShapes Go.Deep

theorem reckons_any (z : Int) (w : World) (y : Bool) (hy : decide (1006 ≤ z ∧ z ≤ 1009) = y) :
    Calls Try.prog 125 #[.int .i64 z] w fun e w' => e = .returned (.bool y) ∧ w = w' := by
  have HY := Lib.hid hy; clear hy
  by_cases h1 : 1006 ≤ z
  · by_cases h2 : z ≤ 1009
    · obtain rfl : true = y := by rw [← HY.out]; simp [h1, h2]
      go_enter Try.func125, Try.ntmps125
      go_wp2
      go_ret
      exact ⟨ret_bool (by first | rfl | (simp; done) | (simp; omega)), rfl⟩
    · obtain rfl : false = y := by rw [← HY.out]; simp [h2]
      go_enter Try.func125, Try.ntmps125
      go_wp2
      go_ret
      exact ⟨ret_bool (by first | rfl | (simp; done) | (simp; omega)), rfl⟩
  · obtain rfl : false = y := by rw [← HY.out]; simp [h1]
    go_enter Try.func125, Try.ntmps125
    go_wp2
    go_ret
    exact ⟨ret_bool (by simp), rfl⟩
end Go.Proofs.Ytkiedpdhehehfaa
