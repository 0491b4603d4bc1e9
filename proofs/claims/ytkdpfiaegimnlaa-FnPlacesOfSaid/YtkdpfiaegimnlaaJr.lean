/- Shuffles, plain: what a run of a shuffle leaves are the values at its places. -/
import Derived.Test.YtkdpfiaegimnlaaJa
import Derived.Test.YtkdpfiaegimnlaaB8
namespace Go.Proofs.Ytkdpfiaegimnlaa
set_option maxRecDepth 100000

theorem l2_quote {m r : List Int} {st : List (List Int)} (hf : fitsFrom 0 m = true) : l2R (1012 :: (m ++ 1013 :: r)) st = some (r, (1012 :: (m ++ [1013])) :: st) := by
  have hb : brk 1012 = 1 := rfl
  have hc : cutAt 0 ((1012 :: (m ++ [1013])) ++ r) = some (m.length + 2) := by
    refine cutAt_append ?_ r
    rw [cutAt, hb, if_neg (by omega), cutAt_wrap (Int.le_refl 0) hf]; rfl
  have e : (1012 :: (m ++ 1013 :: r) : List Int) = (1012 :: (m ++ [1013])) ++ r := by simp
  rw [e]
  generalize hv : (1012 :: (m ++ [1013]) : List Int) = v at *
  have hl : v.length = m.length + 2 := by rw [← hv]; simp
  have h2 : l2R (v ++ r) st = some ((v ++ r).drop ((cutAt 0 (v ++ r)).getD 0), (v ++ r).take ((cutAt 0 (v ++ r)).getD 0) :: st) := by
    rw [← hv, List.cons_append, l2R, if_neg (by omega), if_pos rfl]
  rw [h2, hc]
  simp only [Option.getD_some]
  rw [← hl]
  simp
theorem stepR_told {r : List Int} {st : List (List Int)} {x : List Int × List (List Int)} (h : stepR r st = some x) : l2R r st = some x ∧ stackB x.2 = true := stepR_iff.1 h
theorem runR_cons {f : Nat} {w : Int} {r : List Int} {st : List (List Int)} {x : List (List Int) × Nat} (h : runR f (w :: r) st = some x) : ∃ f' y z, f = f' + 1 ∧ stepR (w :: r) st = some y ∧ runR f' y.1 y.2 = some z ∧ z.1 = x.1 := by
  cases f with
  | zero => rw [runR] at h; cases h
  | succ f =>
    rw [runR] at h
    rcases hs : stepR (w :: r) st with _ | y
    · rw [hs] at h; cases h
    · rw [hs] at h
      dsimp only at h
      obtain ⟨z, hz, rfl⟩ := Option.map_eq_some_iff.1 h
      exact ⟨f, y, z, rfl, rfl, hz, rfl⟩
theorem run_shuf (N : Nat) : ∀ (f : Nat) (p q : List Int) (st : List (List Int)) (x : List (List Int) × Nat), f ≤ N → fitsFrom 0 p = true → shufFrom 1002 p = true → stackB st = true → runR f (p ++ q) st = some x →
    ∃ t f' y, rowT p st = some t ∧ f' ≤ f ∧ runR f' q t = some y ∧ y.1 = x.1 ∧ stackB t = true := by
  induction N with
  | zero =>
    intro f p q st x hf hp hs hst h
    obtain rfl : f = 0 := by omega
    cases p with
    | nil => exact ⟨st, 0, x, rfl, Nat.le_refl _, h, rfl, hst⟩
    | cons z r => rw [List.cons_append, runR] at h; cases h
  | succ N ih =>
    intro f p q st x hf hp hs hst h
    rcases shuf_cases hp hs with rfl | ⟨z, r, rfl, hz, h1, h2⟩ | ⟨inner, r, rfl, i1, i2, h1, h2⟩
    · exact ⟨st, f, x, rfl, Nat.le_refl _, h, rfl, hst⟩
    · rw [List.cons_append] at h
      obtain ⟨f', y, z', rfl, hy, hr, hx⟩ := runR_cons h
      obtain ⟨l2, sB⟩ := stepR_told hy
      have key : ∃ t, rowT (z :: r) st = rowT r t ∧ y = (r ++ q, t) := by
        rw [l2R, if_neg (by omega), if_neg (by omega)] at l2
        rcases st with _ | ⟨a, st⟩
        · rw [opR] at l2; cases l2
        · rw [opR] at l2
          unfold opR1 at l2
          rcases hz with rfl | rfl | rfl
          · rw [if_pos rfl] at l2; cases l2
            exact ⟨a :: a :: st, by simp [rowT, mvRun, mvStep], rfl⟩
          · rw [if_neg (by omega), if_pos rfl] at l2; cases l2
            exact ⟨st, by simp [rowT, mvRun, mvStep], rfl⟩
          · rw [if_neg (by omega), if_neg (by omega), if_neg (by omega)] at l2
            rcases st with _ | ⟨b, st⟩
            · cases l2
            · dsimp only at l2
              unfold opR2 at l2
              rw [if_pos rfl] at l2; cases l2
              exact ⟨b :: a :: st, by simp [rowT, mvRun, mvStep], rfl⟩
      obtain ⟨t, ht, rfl⟩ := key
      obtain ⟨t', f2, y2, e1, e2, e3, e4, e5⟩ := ih f' r q t z' (by omega) h1 h2 sB hr
      exact ⟨t', f2, y2, by rw [ht]; exact e1, by omega, e3, e4.trans hx, e5⟩
    · rw [List.cons_append, show inner ++ 1013 :: 1004 :: r ++ q = inner ++ 1013 :: (1004 :: (r ++ q)) from by simp] at h
      obtain ⟨f1, y1, z1, rfl, hy1, hr1, hx1⟩ := runR_cons h
      obtain ⟨l2, sB⟩ := stepR_told hy1
      rw [l2_quote i1] at l2
      cases l2
      dsimp only at hr1 sB
      obtain ⟨f2, y2, z2, rfl, hy2, hr2, hx2⟩ := runR_cons hr1
      obtain ⟨l3, sB2⟩ := stepR_told hy2
      rw [l2R, if_neg (by omega), if_neg (by omega), opR] at l3
      unfold opR1 at l3
      rw [if_neg (by omega), if_neg (by omega), if_neg (by omega)] at l3
      rcases st with _ | ⟨v, st⟩
      · cases l3
      · dsimp only at l3
        unfold opR2 at l3
        rw [if_neg (by omega), if_pos ⟨rfl, by simp⟩, inside_wrap] at l3
        cases l3
        dsimp only at hr2 sB2
        obtain ⟨_, hv⟩ := stackB_all hst
        have hvv := hv v (by simp)
        rw [List.append_assoc] at hr2
        obtain ⟨t1, f3, y3, e1, e2, e3, e4, e5⟩ := ih f2 inner (v ++ (r ++ q)) st z2 (by omega) i1 i2 sB2 hr2
        obtain ⟨v0, vr, rfl⟩ : ∃ v0 vr, v = v0 :: vr := by
          rcases v with _ | ⟨v0, vr⟩
          · have := (valueB_len hvv).1; simp at this
          · exact ⟨v0, vr, rfl⟩
        rw [List.cons_append] at e3
        obtain ⟨f4, y4, z4, rfl, hy4, hr4, hx4⟩ := runR_cons e3
        have hs4 : y4 = (r ++ q, (v0 :: vr) :: t1) := by
          obtain ⟨l4, sB4⟩ := stepR_told hy4
          have hc := cutAt_append (cutAt_value hvv) (r ++ q)
          rcases valueB_cases hvv with ⟨z, he, h0, h9⟩ | ⟨m, he, hm, hl⟩
          · cases he
            rw [List.nil_append, l2R, if_pos h9] at l4
            exact (Option.some.inj l4).symm
          · have hmf : fitsFrom 0 m = true := by
              simp only [validB, Bool.and_eq_true] at hm; exact hm.2
            rw [← List.cons_append, he, show (1012 :: (m ++ [1013])) ++ (r ++ q) = 1012 :: (m ++ 1013 :: (r ++ q)) from by simp, l2_quote hmf] at l4
            rw [he]
            exact (Option.some.inj l4).symm
        subst hs4
        dsimp only at hr4
        have sB4 : stackB ((v0 :: vr) :: t1) = true := (stepR_told hy4).2
        obtain ⟨t', f5, y5, g1, g2, g3, g4, g5⟩ := ih f4 r q ((v0 :: vr) :: t1) z4 (by omega) h1 h2 sB4 hr4
        refine ⟨t', f5, y5, ?_, by omega, g3, g4.trans (hx4.trans (e4.trans (hx2.trans hx1))), g5⟩
        rw [rowT_open i1 i2]
        dsimp only
        rw [e1]
        exact g1
theorem shufB_parts {p : List Int} (h : shufB p = true) : validB p = true ∧ fitsFrom 0 p = true ∧ shufFrom 1002 p = true := by
  rw [shufB, Bool.and_eq_true] at h
  have h1 := h.1
  simp only [validB, Bool.and_eq_true] at h1
  exact ⟨h.1, h1.2, h.2⟩
theorem runOf_shuf {p : List Int} {s left : List (List Int)} {n : Int} (hp : shufB p = true) (h : runOfR p s = (left, n, true)) : rowT p s.reverse = some left.reverse := by
  obtain ⟨h1, h2, h3⟩ := shufB_parts hp
  obtain ⟨_, hs, x, hx, he, _⟩ := runOfR_ok (p := p) (s := s) (by rw [h])
  rw [h] at he
  have e1 : left = x.1.reverse := congrArg (·.1) he
  have hx' : runR 2000 (p ++ []) s.reverse = some x := by rw [List.append_nil]; exact hx
  obtain ⟨t, f', y, g1, _, g2, g3, _⟩ := run_shuf 2000 2000 p [] s.reverse x (Nat.le_refl _) h2 h3 (by rw [stackB_reverse]; exact hs) hx'
  rw [runR_nil] at g2
  cases g2
  rw [g1, e1, List.reverse_reverse, ← g3]
theorem places_run {p places : List Int} {many n : Int} {s left : List (List Int)} (hp : placesR p many = (places, true)) (hs : (s.length : Int) = many) (h : runOfR p s = (left, n, true)) : left = places.map fun z => s.getD z.toNat [] := by
  obtain ⟨h1, h2, h3, h4, _⟩ := placesR_ok hp
  have h5 := runOf_shuf h1 h
  have e : many.toNat = s.length := by omega
  rw [e] at h4
  have h6 : (topRow s.length).map (fun z => s.getD z.toNat []) = s.reverse := by
    rw [topRow, List.map_reverse, List.map_map]
    congr 1
    apply List.ext_getElem
    · simp
    · intro i q1 q2
      simp [List.getD, List.getElem?_eq_getElem q2]
  rw [← h6, rowT_map, h4] at h5
  simp only [Option.map_some] at h5
  have h7 := congrArg List.reverse (Option.some.inj h5)
  rw [List.reverse_reverse] at h7
  rw [← h7]
  simp [List.map_reverse]
end Go.Proofs.Ytkdpfiaegimnlaa
