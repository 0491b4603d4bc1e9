/- slices.Sort of a short row of the call's own; slices.Collect and slices.Sorted of a short row that is read. -/
import Derived.Test.YtkdpfiaegimnlaaJq
import Derived.Deep.QuietTactic
import Derived.BigQuiet
namespace Go.Proofs.Ytkdpfiaegimnlaa
set_option maxRecDepth 100000
open Go.RowKit Go.WideShapes Go.Deep

/-- Where the inner loop stands: what is before the place, the value there, what has been passed, and the rest. -/
structure Ins (i j : Nat) (ys P S R : List Int) (x : Int) : Prop where
  eq : ys = P ++ x :: (S ++ R)
  lp : P.length = j
  ls : S.length + j = i
  sp : P.Pairwise (· ≤ ·)
  ss : S.Pairwise (· ≤ ·)
  ps : ∀ p ∈ P, ∀ s ∈ S, p ≤ s
  xs : ∀ s ∈ S, x ≤ s
theorem Ins.start {i : Nat} {ys : List Int} (hi : i < ys.length) (hs : (ys.take i).Pairwise (· ≤ ·)) : Ins i i ys (ys.take i) [] (ys.drop (i + 1)) (ys.getD i 0) := by
  refine ⟨?_, by simp; omega, by simp, hs, List.Pairwise.nil, by simp, by simp⟩
  have h1 : ys.drop i = ys.getD i 0 :: ys.drop (i + 1) := by
    rw [List.drop_eq_getElem_cons hi]; simp [List.getD, List.getElem?_eq_getElem hi]
  rw [List.nil_append, ← h1, List.take_append_drop]
theorem Ins.swap {i m : Nat} {ys P S R : List Int} {x : Int} (h : Ins i (m + 1) ys P S R x) : ∃ P' y, P = P' ++ [y] ∧ ys[m]? = some y ∧ ys[m + 1]? = some x ∧
    (x < y → Ins i m ((ys.set (m + 1) y).set m x) P' (y :: S) R x ∧ ((ys.set (m + 1) y).set m x).Perm ys) ∧ (¬ x < y → (ys.take (i + 1)).Pairwise (· ≤ ·)) := by
  obtain ⟨heq, hlp, hls, hsp, hss, hps, hxs⟩ := h
  rcases List.eq_nil_or_concat P with rfl | ⟨P', y, rfl⟩
  · simp at hlp
  · rw [List.concat_eq_append] at *
    have hl' : P'.length = m := by simpa using hlp
    have e0 : ys = P' ++ (y :: x :: (S ++ R)) := by rw [heq]; simp
    refine ⟨P', y, rfl, ?_, ?_, fun hxy => ?_, fun hxy => ?_⟩
    · rw [e0, List.getElem?_append_right (by omega)]; simp [hl']
    · rw [e0, List.getElem?_append_right (by omega), hl', show m + 1 - m = 1 from by omega]; rfl
    · have e1 : ys.set (m + 1) y = P' ++ (y :: y :: (S ++ R)) := by
        rw [e0, List.set_append_right _ _ (by omega), hl', show m + 1 - m = 1 from by omega]; rfl
      have e2 : (ys.set (m + 1) y).set m x = P' ++ (x :: y :: (S ++ R)) := by
        rw [e1, List.set_append_right _ _ (by omega), hl', Nat.sub_self]; rfl
      rw [List.pairwise_append] at hsp
      refine ⟨⟨by rw [e2]; simp, hl', by simp; omega, hsp.1, ?_, ?_, ?_⟩, ?_⟩
      · rw [List.pairwise_cons]; exact ⟨fun s hs => hps y (by simp) s hs, hss⟩
      · intro p hp s hs
        rcases List.mem_cons.1 hs with rfl | hs
        · exact hsp.2.2 p hp _ (by simp)
        · exact hps p (by simp [hp]) s hs
      · intro s hs
        rcases List.mem_cons.1 hs with rfl | hs
        · omega
        · exact hxs s hs
      · rw [e2, e0]
        exact List.Perm.append_left P' (List.Perm.swap y x (S ++ R))
    · have e3 : ys.take (i + 1) = (P' ++ [y]) ++ (x :: S) := by
        rw [heq, show i + 1 = ((P' ++ [y]) ++ (x :: S)).length from by simp; omega, show (P' ++ [y]) ++ x :: (S ++ R) = ((P' ++ [y]) ++ (x :: S)) ++ R from by simp, List.take_left]
      rw [e3, List.pairwise_append, List.pairwise_cons]
      rw [List.pairwise_append] at hsp
      refine ⟨by rw [List.pairwise_append]; exact hsp, ⟨hxs, hss⟩, fun a ha b hb => ?_⟩
      rcases List.mem_cons.1 hb with rfl | hb
      · rcases List.mem_append.1 ha with ha | ha
        · have := hsp.2.2 a ha y (by simp); omega
        · have : a = y := by simpa using ha
          omega
      · exact hps a ha b hb
theorem Ins.first {i : Nat} {ys P S R : List Int} {x : Int} (h : Ins i 0 ys P S R x) : (ys.take (i + 1)).Pairwise (· ≤ ·) := by
  obtain ⟨heq, hlp, hls, hsp, hss, hps, hxs⟩ := h
  obtain rfl := List.eq_nil_of_length_eq_zero hlp
  have e3 : ys.take (i + 1) = x :: S := by
    rw [heq, List.nil_append, show i + 1 = (x :: S).length from by simp; omega, show x :: (S ++ R) = (x :: S) ++ R from rfl, List.take_left]
  rw [e3, List.pairwise_cons]; exact ⟨hxs, hss⟩
theorem set2_map (ys : List Int) (a b : Nat) (x y : Int) : ((ys.map (Value.int .i64)).set a (.int .i64 y)).set b (.int .i64 x) = ((ys.set a y).set b x).map (Value.int .i64) := by
  rw [List.map_set, List.map_set]

theorem grown_drewN {a w : World} {r : Option Nat} (h : a.grownBy w r) (n : Nat) : a.grownBy (w.drewN n) r := ⟨h.os, h.tape, h.output, h.size, h.block⟩
def Sorts (lo g cap n : Nat) (xs : List Int) (w : World) (e : Ending) (w' : World) : Prop := e = .returned (.tuple #[]) ∧ ∃ ys : List Int, ys.Perm xs ∧ ys.Pairwise (· ≤ ·) ∧ w'.ownsRow lo 3 1 (.slice (some ⟨g, 0, none⟩) n cap) n (ys.map (Value.int .i64)) ∧ w.grownBy w' (some g)
end Go.Proofs.Ytkdpfiaegimnlaa
