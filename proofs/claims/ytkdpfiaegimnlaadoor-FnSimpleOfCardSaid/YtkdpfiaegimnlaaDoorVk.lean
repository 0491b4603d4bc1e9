/- Chapter 5, the program's: MovesAt, MoveDo. -/
import Derived.Test.YtkdpfiaegimnlaaDoorVj
namespace Go.Proofs.YtkdpfiaegimnlaaDoor
set_option maxRecDepth 100000
open Go.RowKit Go.WideShapes

theorem parts_facts (p : List Int) : (∀ q ∈ partsR p, isPart q) ∧ (partsR p).length ≤ 60 ∧ (∀ q ∈ partsR p, q.length ≤ 60) := by
  by_cases hp : validB p = true
  · exact ⟨fun q hq => isPart_of hp hq, partsR_count, fun q hq => ((parts_ok hp).1 q hq).2.2⟩
  · rw [partsR_bad (by simpa using hp)]; simp
theorem movesAtR_3 (p : List Int) (at_ : Int) : movesAtR p at_ = if (move3R (partsR p) at_).2.2 = true then [(move3R (partsR p) at_).2.1] else [] := by
  unfold movesAtR move3R
  rcases moveR (partsR p) at_ with _ | x <;> simp
theorem moveDoR_3 (p : List Int) (which at_ : Int) : moveDoR p which at_ = if (move3R (partsR p) at_).2.2 = true ∧ (move3R (partsR p) at_).2.1 = which then ((move3R (partsR p) at_).1, true) else ([], false) := by
  unfold moveDoR move3R
  rcases moveR (partsR p) at_ with _ | x
  · simp
  · by_cases h : which = (x.2 : Int)
    · subst h; simp
    · have h' : ¬ (x.2 : Int) = which := fun e => h e.symm
      simp [h, h']
theorem move3R_num (p : List Int) (at_ : Int) : 0 ≤ (move3R (partsR p) at_).2.1 ∧ (move3R (partsR p) at_).2.1 ≤ 8 := by
  by_cases hp : validB p = true
  · unfold move3R
    rcases hm : moveR (partsR p) at_ with _ | x
    · simp
    · have := (moveR_ok hp hm).2
      dsimp only; omega
  · rw [partsR_bad (by simpa using hp), move3R_out (by simp; omega)]
    simp

set_option maxHeartbeats 2000000 in
theorem MoveDo_I (v0 : Value) (x0 : List Int) (x1 x2 : Int) (w : World) (h0 : RdI w v0 x0) (hl0 : x0.length ≤ 1048576) (y0 : List Int) (y1 : Bool) (hR : moveDoR x0 x1 x2 = (y0, y1)) (ht : IntTab w 0 takesL) :
    Calls Tryd.prog 43 #[v0, .agg #[.int .i64 x1, .int .i64 x2]] w (AhPost w y0 y1) := by
  rw [moveDoR_3] at hR
  have HR := Lib.hid hR; clear hR
  have hb0 : Below w.heap.size w (w.alloc (.cells #[.int .i64 x1, .int .i64 x2] 62)) := (Below.refl _ _).alloc (Nat.le_refl _) _
  have H := Lib.hid (And.intro (h0.step hb0) (And.intro hb0 (ht.step hb0)))
  have k1 := Blk.new w #[.int .i64 x1, .int .i64 x2] 62
  have K := Lib.hid k1
  obtain ⟨c0, c1, f0, f1⟩ := k1.two
  clear hb0 k1 ht
  obtain ⟨p1, p2, p3⟩ := parts_facts x0
  have hn := move3R_num x0 x2
  obtain ⟨A, c, rfl, _⟩ := h0
  rcases hm : move3R (partsR x0) x2 with ⟨y, k, b⟩
  rw [hm] at HR hn
  dsimp only at HR hn
  have hd : Below (w.alloc (.cells #[.int .i64 x1, .int .i64 x2] 62)).heap.size (w.alloc (.cells #[.int .i64 x1, .int .i64 x2] 62)) (w.alloc (.cells #[.int .i64 x1, .int .i64 x2] 62)).drew := (Below.refl _ _).drew
  have PP := Lib.hid (And.intro hm (And.intro p1 (And.intro p2 p3))); clear hm p1 p2 p3
  generalize hps : partsR x0 = ps at *
  have HP := Lib.hid hps; clear hps
  go_enter Tryd.func43, Tryd.ntmps43
  go_wp2_with fail
  go_region_with (first
    | (go_at_call 47; have hq := hbA; refine (moveAt_any _ ps x2 _ _ _ hoA PP.out.2.1 PP.out.2.2.1 PP.out.2.2.2 ((H.out.2.2.step hd).step hbA) y k b PP.out.1).mono ?_; rintro e wB ⟨u2, rfl, hoB, hbB⟩; have cB := ((K.out.below hd (by simp)).below hbA (by simp)).below hbB (by have := hbA.size; simp at this; omega); obtain ⟨cB0, cB1, _, _⟩ := cB.two)
    | (go_at_call 46; refine (ProgParts_I _ x0 _ (H.out.1.step hd) hl0 ps HP.out).mono ?_; rintro e wA ⟨u, rfl, hoA, hbA⟩; have cA := (K.out.below hd (by simp)).below hbA (by simp); obtain ⟨cA0, cA1, _, _⟩ := cA.two))
  all_goals
    have zA : w.heap.size + 1 ≤ wA.heap.size := by have := hbA.size; simpa using this
    have zB := hbB.size
    have hbw : Below w.heap.size w wB := H.out.2.1.trans ((hd.trans (hbA.trans (hbB.mono (by have := hbA.size; exact this)))).mono (by simp))
    have R := Lib.hid (And.intro (OwnI.mk (hoB.own.mono (show w.heap.size ≤ wA.heap.size by omega)) hoB.lt) hbw)
    clear hbw hoB hbB hbA hoA hd H K PP HP cA cB cA0 cA1 cB1 zA zB hn
    rcases b with _ | _
    · obtain ⟨rfl, rfl⟩ : [] = y0 ∧ false = y1 := by have := HR.out; rw [if_neg (by simp)] at this; cases this; exact ⟨rfl, rfl⟩
      go_wp2
      go_ret2
      exact ⟨_, rfl, OwnI.nil _ _ _, R.out.2⟩
    · by_cases hk : k = x1
      · obtain ⟨rfl, rfl⟩ : y = y0 ∧ true = y1 := by have := HR.out; rw [if_pos ⟨rfl, hk⟩] at this; cases this; exact ⟨rfl, rfl⟩
        have hkk : (k != x1) = false := by simp [hk]
        clear hk
        go_wp2
        go_ret2
        exact ⟨_, rfl, R.out.1, R.out.2⟩
      · obtain ⟨rfl, rfl⟩ : [] = y0 ∧ false = y1 := by have := HR.out; rw [if_neg (fun h => hk h.2)] at this; cases this; exact ⟨rfl, rfl⟩
        have hkk : (k != x1) = true := by simp [hk]
        clear hk
        go_wp2
        go_ret2
        exact ⟨_, rfl, OwnI.nil _ _ _, R.out.2⟩
end Go.Proofs.YtkdpfiaegimnlaaDoor
