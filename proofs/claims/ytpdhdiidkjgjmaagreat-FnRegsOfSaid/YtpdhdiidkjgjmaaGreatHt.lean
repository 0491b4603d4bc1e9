/- Registers of a straight program: what the laws FnRegsOf and FnSameRegs ask of them; plain facts. -/
import Derived.Test.YtpdhdiidkjgjmaaGreatHr
import Derived.Test.YtpdhdiidkjgjmaaGreatHs
import Derived.Test.YtpdhdiidkjgjmaaGreatOd
import Derived.Test.YtpdhdiidkjgjmaaGreatZz
namespace Go.Proofs.YtpdhdiidkjgjmaaGreat
set_option maxRecDepth 100000

theorem regs_yes {p : List Int} {T : Int} {ms : List (Int × Int × Int)} {row : List Int} (h : regsOfR p = (T, ms, row, true)) : ¬ (countR p).1 < 0 ∧ (countR p).1 = T ∧ (regRun ([], startR (countR p).1.toNat) p).1 = ms ∧ (regRun ([], startR (countR p).1.toNat) p).2 = row := by
  unfold regsOfR at h
  split at h
  · cases h
  · rename_i hn
    cases h
    exact ⟨hn, rfl, rfl, rfl⟩
theorem regs_none {p : List Int} {T : Int} {ms : List (Int × Int × Int)} {row : List Int} (h : regsOfR p = (T, ms, row, false)) : T = 0 := by
  unfold regsOfR at h
  split at h
  · cases h; rfl
  · cases h
theorem regs_T60 {p : List Int} {T : Int} {ms : List (Int × Int × Int)} {row : List Int} {ok : Bool} (h : regsOfR p = (T, ms, row, ok)) (hl : p.length ≤ 30) : 0 ≤ T ∧ T ≤ 60 := by
  refine ⟨(regsOfR_len p h).1, ?_⟩
  rcases ok with _ | _
  · rw [regs_none h]; decide
  · obtain ⟨hn, hT, _, _⟩ := regs_yes h
    obtain ⟨_, _, he⟩ := countR_ok hn
    have h2 := countL_le p (0, 0)
    rw [he] at hT
    simp only at hT h2
    omega
theorem regs_nodup {p : List Int} {T : Int} {ms : List (Int × Int × Int)} {row : List Int} {ok : Bool} (h : regsOfR p = (T, ms, row, ok)) : ms.Nodup := by
  unfold regsOfR at h
  split at h
  · cases h; exact List.nodup_nil
  · cases h; exact reg_nodup p _ List.nodup_nil
theorem regs_ne {ms : List (Int × Int × Int)} (h : ms.Nodup) {j k : Nat} (hj : j < k) {x y : Int × Int × Int} (h1 : ms[j]? = some x) (h2 : ms[k]? = some y) : x ≠ y := by
  intro e
  subst e
  obtain ⟨hj', e1⟩ := List.getElem?_eq_some_iff.1 h1
  obtain ⟨hk', e2⟩ := List.getElem?_eq_some_iff.1 h2
  have := (List.nodup_iff_pairwise_ne.1 h)
  have h3 := List.pairwise_iff_getElem.1 this j k hj' hk' hj
  exact h3 (e1.trans e2.symm)
theorem regs_countOf {p : List Int} {T : Int} {ms : List (Int × Int × Int)} {row : List Int} (h : regsOfR p = (T, ms, row, true)) : countR p = (T, (row.length : Int)) := by
  obtain ⟨hn, hT, _, hr⟩ := regs_yes h
  have := regs_count hn
  rw [hr] at this
  exact Prod.ext hT this.symm
theorem regs_left {p : List Int} {T : Int} {ms : List (Int × Int × Int)} {row : List Int} (h : regsOfR p = (T, ms, row, true)) {inn : List Int} (hi : inn.length = T.toNat) {left : List (List Int)} {n : Int} (hr : runOfR p (inn.map fun z => [z]) = (left, n, true)) :
    left = row.map fun a => [valR T (runOps T inn ms) a] := by
  obtain ⟨hn, hT, h1, h2⟩ := regs_yes h
  have hb := regsOfR_len p h
  have := regs_leave hn (by omega) (by rw [hT]; exact hi) hr
  rw [h1, h2, hT] at this
  exact this
theorem regs_ran {p : List Int} {T : Int} {ms : List (Int × Int × Int)} {row : List Int} (h : regsOfR p = (T, ms, row, true)) {inn : List Int} (hi : inn.length = T.toNat) {left : List (List Int)} {n : Int} (hr : runOfR p (inn.map fun z => [z]) = (left, n, true)) {out : List Int} (ho : regsRunR T ms row inn = (out, true)) :
    left = out.map fun z => [z] := by
  rw [regs_left h hi hr]
  unfold regsRunR at ho
  split at ho
  · cases ho
    rw [List.map_map]
    rfl
  · cases ho
theorem sameRegs_parts {p q : List Int} (h : sameRegsR p q = true) : ∃ T ms row, regsOfR p = (T, ms, row, true) ∧ regsOfR q = (T, ms, row, true) := by
  unfold sameRegsR at h
  simp only [Bool.and_eq_true, decide_eq_true_eq] at h
  obtain ⟨h1, h2, h3, h4, h5⟩ := h
  refine ⟨(regsOfR p).1, (regsOfR p).2.1, (regsOfR p).2.2.1, ?_, ?_⟩
  · rw [← h1]
  · rw [h3, h4, h5, ← h2]
theorem sameRegs_swap {p q : List Int} (h : sameRegsR p q = true) : sameRegsR q p = true := by
  unfold sameRegsR at h ⊢
  simp only [Bool.and_eq_true, decide_eq_true_eq] at h ⊢
  exact ⟨h.2.1, h.1, h.2.2.1.symm, h.2.2.2.1.symm, h.2.2.2.2.symm⟩
theorem sameRegs_left {p q : List Int} (h : sameRegsR p q = true) {inn : List Int} (hi : inn.length = (countR p).1.toNat) {l1 l2 : List (List Int)} {n1 n2 : Int} (h1 : runOfR p (inn.map fun z => [z]) = (l1, n1, true)) (h2 : runOfR q (inn.map fun z => [z]) = (l2, n2, true)) : l1 = l2 := by
  obtain ⟨T, ms, row, hp, hq⟩ := sameRegs_parts h
  have hT := (regs_yes hp).2.1
  rw [regs_left hp (by rw [← hT]; exact hi) h1, regs_left hq (by rw [← hT]; exact hi) h2]
end Go.Proofs.YtpdhdiidkjgjmaaGreat
