/- The model's step, whole. -/
import Derived.Test.YtenaeiedoiepdaaSwA
import Derived.Test.YtenaeiedoiepdaaSwB
import Derived.Test.YtenaeiedoiepdaaSwC
import Derived.Test.YtenaeiedoiepdaaSwD
import Derived.Test.YtenaeiedoiepdaaSwE
namespace Go.Proofs.Ytenaeiedoiepdaa
set_option maxRecDepth 100000
open Go.RowKit Go.WideShapes

theorem no_end {r : List Int} (h : restB (1013 :: r) = true) : False := by
  simp only [restB, Bool.and_eq_true] at h
  have h1 := h.2
  have hb : brk 1013 = -1 := rfl
  rw [fitsFrom, hb] at h1
  simp at h1
theorem step_S_if (v0 v1 : Value) (r : List Int) (st : List (List Int)) (w : World) (h0 : RdI w v0 (1010 :: r)) (h1 : RdS w v1 st.reverse) (hl : r.length ≤ 1048576) (hok : okS (1010 :: r) st) :
    Calls Try.prog 18 #[.agg #[v0, v1]] w (StepPost w (l2R (1010 :: r) st)) := by
  by_cases hm : ∃ a b c s3, st = a :: b :: c :: s3 ∧ (1 < a.length ∧ 1 < b.length ∧ ¬ 1 < c.length)
  · obtain ⟨a, b, c, s3, hst, ha, hb, hc⟩ := hm
    by_cases hk : 0 < c.getD 0 0
    · exact step_S_if1 v0 v1 r st w h0 h1 hl hok a b c s3 (Lib.hid hst) (Lib.hid ha) (Lib.hid hb) (Lib.hid hc) (Lib.hid hk)
    · exact step_S_if2 v0 v1 r st w h0 h1 hl hok a b c s3 (Lib.hid hst) (Lib.hid ha) (Lib.hid hb) (Lib.hid hc) (Lib.hid (by omega))
  · exact step_S_if0 v0 v1 r st w h0 h1 hl hok (Lib.hid fun a b c s3 e hh => hm ⟨a, b, c, s3, e, hh⟩)
theorem l2Step_any (v0 v1 : Value) (z : Int) (r : List Int) (st : List (List Int)) (w : World) (h0 : RdI w v0 (z :: r)) (h1 : RdS w v1 st.reverse) (hl : r.length ≤ 1048576) (hok : okS (z :: r) st) :
    Calls Try.prog 18 #[.agg #[v0, v1]] w (StepPost w (l2R (z :: r) st)) := by
  by_cases hz : z ≤ 999
  · exact step_S_num v0 v1 z r st w h0 h1 hl hok hz
  · have hw : z = 1001 ∨ z = 1002 ∨ z = 1003 ∨ z = 1004 ∨ z = 1005 ∨ z = 1006 ∨ z = 1007 ∨ z = 1008 ∨ z = 1009 ∨ z = 1010 ∨ z = 1011 ∨ z = 1012 ∨ z = 1013 := by
      have h := hok.1
      simp only [restB, Bool.and_eq_true, List.all_cons, isWordB, isNumB, Bool.or_eq_true, decide_eq_true_eq] at h
      omega
    rcases hw with rfl | rfl | rfl | rfl | rfl | rfl | rfl | rfl | rfl | rfl | rfl | rfl | rfl
    · exact step_S_dup v0 v1 r st w h0 h1 hl hok
    · exact step_S_drop v0 v1 r st w h0 h1 hl hok
    · exact step_S_swap v0 v1 r st w h0 h1 hl hok
    · exact step_S_dip v0 v1 r st w h0 h1 hl hok
    · exact step_S_call v0 v1 r st w h0 h1 hl hok
    · exact step_S_reck v0 v1 1006 (by omega) (by omega) r st w h0 h1 hl hok
    · exact step_S_reck v0 v1 1007 (by omega) (by omega) r st w h0 h1 hl hok
    · exact step_S_reck v0 v1 1008 (by omega) (by omega) r st w h0 h1 hl hok
    · exact step_S_reck v0 v1 1009 (by omega) (by omega) r st w h0 h1 hl hok
    · exact step_S_if v0 v1 r st w h0 h1 hl hok
    · exact step_S_times v0 v1 r st w h0 h1 hl hok
    · exact step_S_open v0 v1 r st w h0 h1 hl hok
    · exact (no_end hok.1).elim
end Go.Proofs.Ytenaeiedoiepdaa
