/- How long registers are; plain facts. -/
import Derived.Test.YtpdhdiidkjgjmaaGreatRq
namespace Go.Proofs.YtpdhdiidkjgjmaaGreat
set_option maxRecDepth 100000

theorem regStep_len1 (z : Int) (st : List (Int × Int × Int) × List Int) : (regStep z st).2.length ≤ st.2.length + 2 ∧ (regStep z st).1.length ≤ st.1.length + 1 := by
  unfold regStep
  split
  · first | (simp; done) | (simp; omega)
  · split
    · first | (simp; done) | (simp; omega)
    · split
      · first | (simp; done) | (simp; omega)
      · split
        · first | (simp; done) | (simp; omega)
        · exact ⟨by first | (simp; done) | (simp; omega), opPut_len _ _⟩
theorem regRun_len : ∀ (p : List Int) (st : List (Int × Int × Int) × List Int), (regRun st p).2.length ≤ st.2.length + 2 * p.length ∧ (regRun st p).1.length ≤ st.1.length + p.length := by
  intro p
  induction p with
  | nil => intro st; exact ⟨Nat.le_refl _, Nat.le_refl _⟩
  | cons z p ih =>
    intro st
    have h := ih (regStep z st)
    have h2 := regStep_len1 z st
    rw [regRun, List.length_cons]
    omega
theorem regsOfR_len (p : List Int) {T : Int} {ms : List (Int × Int × Int)} {row : List Int} {ok : Bool} (h : regsOfR p = (T, ms, row, ok)) : 0 ≤ T ∧ T ≤ 120 ∧ ms.length ≤ 60 ∧ row.length ≤ 240 := by
  by_cases hn : (countR p).1 < 0
  · rw [regsOfR_no hn] at h
    cases h
    simp
  · obtain ⟨hv, _, hT⟩ := countR_pos hn
    have hl := validB_len hv
    have h2 := countL_le p (0, 0)
    unfold regsOfR at h
    rw [if_neg hn] at h
    cases h
    have h3 := regRun_len p ([], startR (countR p).1.toNat)
    rw [startR_len] at h3
    have h4 : (countR p).1.toNat ≤ 120 := by rw [hT]; simp at h2; omega
    simp at h3
    refine ⟨by omega, by omega, by omega, by omega⟩
end Go.Proofs.YtpdhdiidkjgjmaaGreat
