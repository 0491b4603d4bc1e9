/- The laws' comparisons of benches where both are equal. -/
import Derived.Test.YtjblecinkedppaaGreatDoorI
import Derived.Test.YtjblecinkedppaaGreatDoorAq
import Derived.Test.YtjblecinkedppaaGreatDoorBm
import Derived.Test.YtjblecinkedppaaGreatDoorB6
import Derived.Test.YtjblecinkedppaaGreatDoorB5
namespace Go.Proofs.YtjblecinkedppaaGreatDoor
set_option maxRecDepth 100000
open Go.RowKit Go.WideShapes

theorem RdT.nil9 (w : World) (A : Option Addr) (c : Nat) : RdT w (.slice A 0 c) [] := ⟨A, c, rfl, Nat.zero_le _, by simp, fun h => absurd h (by simp)⟩
theorem RdI.nil9 (w : World) : RdI w (.slice none 0 0) [] := (⟨⟨World.ownsRow_nil _ _ _ _, fun _ h => absurd h (by simp)⟩, by simp [Value.ownBlock]⟩ : OwnI w w.heap.size w.heap.size (.slice none 0 0) []).rd
set_option maxHeartbeats 2000000 in
theorem sameTexts9 (v u : Value) (ss : List (List UInt8)) (w : World) (h0 : RdT w v ss) (h1 : RdT w u ss) :
    Calls Tryz.prog 33 #[v, u] w fun e w' => e = .returned (.bool true) ∧ Below w.heap.size w w' := by
  obtain ⟨A, c, rfl, _, hm, hr0⟩ := h0
  obtain ⟨B, d, rfl, _, _, hr1⟩ := h1
  have H0 := Lib.hid hr0; have H1 := Lib.hid hr1; clear hr0 hr1
  go_enter Tryz.func33, Tryz.ntmps33
  go_wp2
  go_loopw [5] (fun kv wr => ∃ k : Nat, k ≤ ss.length ∧ kv = .int .i64 k ∧ Below w.heap.size w wr) (fun kv _ => ss.length - (intOf kv).toNat)
  case atStart => exact ⟨0, Nat.zero_le _, by first | rfl | simp, Below.refl _ _⟩
  case round =>
    obtain ⟨k, hk, rfl, hbl⟩ := hrel
    by_cases hlt : k < ss.length
    · obtain ⟨b1, o1, rfl, hb1, hc1⟩ := H0.out (by omega)
      obtain ⟨b2, o2, rfl, hb2, hc2⟩ := H1.out (by omega)
      obtain ⟨s, hs⟩ : ∃ s, ss[k]? = some s := ⟨ss[k], List.getElem?_eq_getElem hlt⟩
      have x0 := (hbl.cell (p := ⟨b1, o1 + k, none⟩) hb1).trans (hc1 k s hs)
      have y0 := (hbl.cell (p := ⟨b2, o2 + k, none⟩) hb2).trans (hc2 k s hs)
      have hltI : (k : Int) < ss.length := by omega
      have V := Lib.hid hbl; clear hbl hs hc1 hc2
      go_wp2
      go_quiet (fail)
      go_wp2
      go_roundw
      case rel => exact ⟨k + 1, by omega, by go_num, below_drewN V.out _⟩
      case measure => simp [intOf]; omega
    · have hltI : ¬ (k : Int) < ss.length := by omega
      have V := Lib.hid hbl; clear hbl
      go_wp2
      go_ret
      exact ⟨rfl, V.out⟩
theorem sameBench9 (v0 v1 u0 u1 : Value) (n : List Int) (ps : List (List UInt8)) (w : World) (h0 : RdI w v0 n) (h1 : RdT w v1 ps) (h2 : RdI w u0 n) (h3 : RdT w u1 ps) :
    Calls Tryz.prog 8 #[.agg #[v0, v1], .agg #[u0, u1]] w fun e w' => e = .returned (.bool true) ∧ Below w.heap.size w w' := by
  obtain ⟨W, hW⟩ : ∃ W, (w.alloc (.cells #[v0, v1] 26)).alloc (.cells #[u0, u1] 26) = W := ⟨_, rfl⟩
  have hb : Below w.heap.size w W := by rw [← hW]; exact ((Below.refl _ _).alloc (Nat.le_refl _) _).alloc (by simp) _
  have hz : W.heap.size = w.heap.size + 2 := by rw [← hW]; simp
  have k2 : Blk W (w.heap.size + 1) #[u0, u1] 26 := by
    have := Blk.new (w.alloc (.cells #[v0, v1] 26)) #[u0, u1] 26
    rw [World.size_alloc, hW] at this
    exact this
  have k1 : Blk W w.heap.size #[v0, v1] 26 := by rw [← hW]; exact (Blk.new w #[v0, v1] 26).below ((Below.refl (w.heap.size + 1) _).alloc (by simp) _) (by omega)
  have S := Lib.hid (And.intro (h0.step hb) (And.intro (RdT.step h1 hb) (And.intro (h2.step hb) (And.intro (RdT.step h3 hb) (And.intro hb (And.intro k1 k2))))))
  obtain ⟨A0, c0, rfl, _⟩ := id h0
  obtain ⟨A1, c1, rfl, _⟩ := id h1
  obtain ⟨A2, c2, rfl, _⟩ := id h2
  obtain ⟨A3, c3, rfl, _⟩ := id h3
  clear h0 h1 h2 h3 hb k1 k2
  obtain ⟨g0, g1, _, _⟩ := blkPair9 S.out.2.2.2.2.2.1
  obtain ⟨e0, e1, _, _⟩ := blkPair9 S.out.2.2.2.2.2.2
  go_enter Tryz.func8, Tryz.ntmps8
  go_wp2_with fail
  try rw [hW]
  refine (smI _ _ n n _ S.out.1 S.out.2.2.1 true (by simp)).mono ?_
  rintro e w2 ⟨rfl, hb⟩
  have hz2 := hb.size
  have g1' := (hb.cell (p := ⟨w.heap.size, 1, none⟩) (show w.heap.size < W.heap.size by omega)).trans g1
  have e1' := (hb.cell (p := ⟨w.heap.size + 1, 1, none⟩) (show w.heap.size + 1 < W.heap.size by omega)).trans e1
  have T := Lib.hid (And.intro (RdT.step S.out.2.1 hb) (And.intro (RdT.step S.out.2.2.2.1 hb) (S.out.2.2.2.2.1.trans (hb.mono (by omega))))); clear hb S g0 g1 e0 e1
  go_wp2_with fail
  refine (sameTexts9 _ _ ps _ T.out.1 T.out.2.1).mono ?_
  rintro e w3 ⟨rfl, hb⟩
  have U := Lib.hid (T.out.2.2.trans (hb.mono (by omega))); clear hb T
  go_wp2
  go_ret
  exact ⟨rfl, U.out⟩
theorem noBench9 (A A' : Option Addr) (c c' : Nat) (w : World) (h0 : RdI w (.slice A 0 c) []) :
    Calls Tryz.prog 19 #[.agg #[.slice A 0 c, .slice A' 0 c']] w fun e w' => e = .returned (.bool true) ∧ Below w.heap.size w w' := by
  have hb : Below w.heap.size w (w.alloc (.cells #[.slice A 0 c, .slice A' 0 c'] 26)) := (Below.refl _ _).alloc (Nat.le_refl _) _
  have S := Lib.hid (And.intro (h0.step hb) hb); clear h0 hb
  go_enter Tryz.func19, Tryz.ntmps19
  go_wp2_with fail
  refine (sameBench9 _ _ _ _ [] [] _ S.out.1 (RdT.nil9 _ _ _) (RdI.nil9 _) (RdT.nil9 _ _ _)).mono ?_
  rintro e w2 ⟨rfl, hb⟩
  have T := Lib.hid (S.out.2.trans (hb.mono (by simp))); clear hb S
  go_wp2
  go_ret
  exact ⟨rfl, T.out⟩
end Go.Proofs.YtjblecinkedppaaGreatDoor
