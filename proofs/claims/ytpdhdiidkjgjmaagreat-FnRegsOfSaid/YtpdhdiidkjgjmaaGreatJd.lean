/- The draw of shuffles: l20Shuffle at 1, 3, 6 and 2, 5 parts. Only that something comes, in memory of its own, not too long. -/
import Derived.Test.YtpdhdiidkjgjmaaGreatBe
import Derived.IntWalk
namespace Go.Proofs.YtpdhdiidkjgjmaaGreat
set_option maxRecDepth 100000
open Go.RowKit Go.WideShapes

theorem oddN (w0 : World) (g p : Nat) (n : Int) (bs : List Int) (w : World) (h : RS w0 w g bs p) (hn : 0 ≤ n ∧ n ≤ 1000) (hp : p ≤ 1000000000000) :
    Calls Tryz.prog 46 #[.pointer (some ⟨g, 0, none⟩), .int .i64 n] w fun e w' => ∃ (b : Bool) (p' : Nat), e = .returned (.bool b) ∧ RS w0 w' g bs p' ∧ p' ≤ p + 1 ∧ Within g (g + 1) w w' := by
  by_cases h0 : n = 0
  · subst h0
    have X := Lib.hid (And.intro h (Within.of_below (lo := g) (hi := g + 1) (Below.refl _ w))); clear h
    go_enter Tryz.func46, Tryz.ntmps46
    go_wp2
    go_ret
    exact ⟨_, p, rfl, X.out.1, by omega, X.out.2⟩
  · refine (odd w0 g p n bs w h (by omega) hp).mono ?_
    rintro e w' ⟨b, rfl, hr, hg⟩
    exact ⟨b, p + 1, rfl, hr, Nat.le_refl _, hg⟩

end Go.Proofs.YtpdhdiidkjgjmaaGreat
