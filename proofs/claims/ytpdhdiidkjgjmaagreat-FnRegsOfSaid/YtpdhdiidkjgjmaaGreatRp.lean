/- Rows of the call's own of different kinds: apart by their type; appends that tell which block has grown. -/
import Derived.Test.YtpdhdiidkjgjmaaGreatOa
import Derived.Test.YtpdhdiidkjgjmaaGreatSa
import Derived.Test.YtpdhdiidkjgjmaaGreatKa
namespace Go.Proofs.YtpdhdiidkjgjmaaGreat
set_option maxRecDepth 100000
open Go.RowKit Go.WideShapes Go.Deep

theorem ownsRow_blk_ne {w : World} {lo d n : Nat} {e : TypeId} {v : Value} {xs : List Value} (h : w.ownsRow lo e d v n xs) {g : Nat} {cs : Array Value} {T : TypeId} (hb : Blk w g cs T) (hne : T ≠ e) : v.ownBlock ≠ some g := by
  intro hg
  obtain ⟨cs2, h2⟩ := ownsRow_type h hg
  unfold Blk at hb
  rw [hb] at h2
  injection h2 with h2
  injection h2 with _ h3
  exact hne h3
/-- The registers while they are made: the list behind its variable, and the row. -/
structure RgS (w : World) (lo g : Nat) (T : Int) (ul v : Value) (ms : List (Int × Int × Int)) (row : List Int) : Prop where
  blk : Blk w g #[.int .i64 T, ul, .slice none 0 0] 27
  lst : w.ownsRow lo 33 3 ul ms.length ((flat3 ms).map (Value.int .i64))
  row : Own w lo v row
theorem RgS.step {w w' : World} {lo g : Nat} {T : Int} {ul v : Value} {ms : List (Int × Int × Int)} {row : List Int} (h : RgS w lo g T ul v ms row) (hb : Below w.heap.size w w') : RgS w' lo g T ul v ms row :=
  ⟨h.blk.below hb h.blk.lt, ((show Own3 33 w lo w.heap.size ul ms from ⟨h.lst, fun g hg => (h.lst.lt g hg).2⟩).below hb).own, h.row.below hb⟩
theorem RgS.grown {w w' : World} {lo g : Nat} {T : Int} {ul v v' : Value} {ms : List (Int × Int × Int)} {row row' : List Int} (h : RgS w lo g T ul v ms row) (hr : Own w' lo v' row') (hg : w.grownBy w' v.ownBlock) : RgS w' lo g T ul v' ms row' := by
  refine ⟨(hg.block g h.blk.lt fun e => ownsRow_blk_ne h.row.own h.blk (by decide) e.symm).trans h.blk, ?_, hr⟩
  refine h.lst.kept hg ?_
  rcases ownsRow_ne8 h.lst h.row.own (by decide) with h1 | h1
  · exact .inl h1
  · exact .inr h1
theorem RgS.below {w w' : World} {lo g : Nat} {T : Int} {ul v : Value} {ms : List (Int × Int × Int)} {row : List Int} (h : RgS w lo g T ul v ms row) (hlo : lo ≤ w.heap.size) (hg : w.grownBy w' v.ownBlock) : Below lo w w' :=
  below_of_only hg hlo fun k hk => (h.row.ge k hk).1
end Go.Proofs.YtpdhdiidkjgjmaaGreat
