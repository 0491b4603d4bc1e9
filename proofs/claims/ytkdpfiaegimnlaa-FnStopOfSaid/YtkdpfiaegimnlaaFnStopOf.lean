/- FnStopOf: of every code: StopOf is its model at the drawn program and stack; it is StopDone exactly if RunOf is told, with the same number of steps. For every input. -/
import Derived.Test.YtkdpfiaegimnlaaDr
import Derived.Test.YtkdpfiaegimnlaaSo
import Derived.Test.YtkdpfiaegimnlaaB5
import Derived.Test.YtkdpfiaegimnlaaB2
import Derived.Test.YtkdpfiaegimnlaaB6
import Derived.Test.YtkdpfiaegimnlaaLift
namespace Go.Proofs.Ytkdpfiaegimnlaa
set_option maxRecDepth 100000
open Go.RowKit Go.WideShapes Go.ChangeShapes

theorem DrawStopOf_any (v : Value) (zs : List Int) (w : World) (h : RdC w v zs) : Calls Try.prog 39 #[v] w (DrawnR w) := by
  have H := Lib.hid h; clear h
  go_enter Try.func39, Try.ntmps39
  go_wp2_with fail
  refine (l20Open_any v zs _ H.out).mono ?_
  rintro e w1 ⟨g, bs, rfl, hr, hg, hb⟩
  have X := Lib.hid (And.intro hr hb); clear hr hb
  have hs := X.out.2.size
  go_wp2_with fail
  refine (run w1 g 0 bs _ (RS.refl X.out.1) (by omega)).mono ?_
  rintro e w2 ⟨p, zp, u, zss, p2, rfl, hv, hl, hu, hn, hy, hr2, hp2, hg2⟩
  have Y := Lib.hid (And.intro (hv.weak hs) (And.intro (hu.weak hs) (And.intro hy (below_of_within X.out.2 hg hg2)))); clear hv hu hy hr2 hg2
  go_wp2_with fail
  go_ret2
  exact ⟨p, zp, u, zss, rfl, Y.out.1, hl, Y.out.2.1, hn, Y.out.2.2.1, Y.out.2.2.2⟩

theorem stopR_le (f : Nat) (r : List Int) (st : List (List Int)) : 0 ≤ (stopR f r st).1 ∧ (stopR f r st).1 ≤ 3 := by
  induction f generalizing r st with
  | zero =>
    rcases r with _ | ⟨w, r⟩
    · rw [stopR_nil]; exact ⟨Int.le_refl _, by decide⟩
    · rw [stopR]
      rcases stepR (w :: r) st with _ | y
      · rcases whyB_ne (w :: r) st with h | h <;> simp [h]
      · simp
  | succ f ih =>
    rcases r with _ | ⟨w, r⟩
    · rw [stopR_nil]; exact ⟨Int.le_refl _, by decide⟩
    · rw [stopR]
      rcases stepR (w :: r) st with _ | y
      · rcases whyB_ne (w :: r) st with h | h <;> simp [h]
      · exact ih y.1 y.2
theorem stop_law {p : List Int} {s l : List (List Int)} {a b k : Int} {ok : Bool} (h : stopOfR p s = (a, b)) (hr : runOfR p s = (l, k, ok)) : (a < 0 → a = -1 ∧ b = 0) ∧ (0 ≤ a → a ≤ 3 ∧ (ok = true → a = 0 ∧ k = b) ∧ (ok = false → a ≠ 0)) := by
  unfold stopOfR at h
  unfold runOfR at hr
  split at h
  · rename_i hc
    rw [if_pos hc] at hr
    obtain ⟨h1, h2⟩ := stopR_le 2000 p s.reverse
    obtain ⟨h3, h4⟩ := @stopR_run 2000 p s.reverse
    cases h
    refine ⟨fun h => by omega, fun _ => ⟨h2, fun ho => ?_, fun ho => ?_⟩⟩
    · subst ho
      rcases hx : runR 2000 p s.reverse with _ | x
      · rw [hx] at hr; cases hr
      · rw [hx] at hr
        have := h3 x hx
        rw [this]
        cases hr
        exact ⟨rfl, rfl⟩
    · subst ho
      rcases hx : runR 2000 p s.reverse with _ | x
      · exact h4 hx
      · rw [hx] at hr; cases hr
  · cases h
    exact ⟨fun _ => ⟨rfl, rfl⟩, fun h => by omega⟩

set_option maxHeartbeats 4000000 in
theorem fnStopOf_any (A0 : Option Addr) (c0 : Nat) (x0 : List Int) (w0 : World) (h0 : RdC w0 (.slice A0 x0.length c0) x0) :
    Calls Try.prog 9 #[.slice A0 x0.length c0] w0 fun e w' => e = .returned (.bool true) ∧ Below w0.heap.size w0 w' := by
  have hm := h0.len_le
  have HH := Lib.hid h0; clear h0
  by_cases hl : x0.length ≤ 1048576
  case neg =>
    go_enter Try.func9, Try.ntmps9
    go_wp2
    go_ret
    exact ⟨rfl, Below.refl _ _⟩
  go_enter Try.func9, Try.ntmps9
  go_wp2_with fail
  refine (DrawStopOf_any _ x0 _ HH.out).mono ?_
  rintro e w1 ⟨p, zp, s, zss, rfl, hp, hpl, hs, hsl, hsy, hb⟩
  have hz1 := hb.size
  have hsz := szS_200 hsy
  have S1 : Hid (Below w0.heap.size w0 w1 ∧ RdBI w1 w1.heap.size p zp ∧ RdBS w1 w1.heap.size s zss) := Lib.hid ⟨hb, hp.1.at_, hs.rd.at_⟩
  clear hp hs hsy hb HH
  rcases hO : stopOfR zp zss with ⟨a, b⟩
  rcases hR : runOfR zp zss with ⟨zl, zk, told⟩
  obtain ⟨k1, k2⟩ := stop_law hO hR
  have HO := Lib.hid hO; have HR := Lib.hid hR; clear hO hR
  have haa : (a != a) = false := by simp
  have hbb : (b != b) = false := by simp
  go_wp2_with fail
  refine (StopOf_I _ zp _ zss _ ((S1.out.2.1).rd (by first | omega | (simp <;> omega))) (by omega) ((S1.out.2.2).rd (by first | omega | (simp <;> omega))) a b HO.out).mono ?_
  rintro e w_2 ⟨rfl, hb2⟩
  have hz2 : w1.heap.size ≤ w_2.heap.size := by have := hb2.size; simpa using this
  replace hb2 : Below (w1.heap.size) w1 w_2 := by simpa using hb2
  have S2 : Hid (Below w0.heap.size w0 w_2 ∧ RdBI w_2 (w1.heap.size) p (zp) ∧ RdBS w_2 (w1.heap.size) s (zss)) := Lib.hid ⟨(S1.out.1).trans (hb2.mono (by omega)), (S1.out.2.1).below (hb2.mono (by omega)), (S1.out.2.2).below (hb2.mono (by omega))⟩
  clear S1
  clear hb2
  go_wp2_with fail
  refine (StopOf_S _ zp _ zss _ ((S2.out.2.1).rd (by first | omega | (simp <;> omega))) (by omega) ((S2.out.2.2).rd (by first | omega | (simp <;> omega))) (by omega) (by omega) a b HO.out).mono ?_
  rintro e w_3 ⟨rfl, hb3⟩
  have hz3 : w_2.heap.size ≤ w_3.heap.size := by have := hb3.size; simpa using this
  replace hb3 : Below (w_2.heap.size) w_2 w_3 := by simpa using hb3
  have S3 : Hid (Below w0.heap.size w0 w_3 ∧ RdBI w_3 (w1.heap.size) p (zp) ∧ RdBS w_3 (w1.heap.size) s (zss)) := Lib.hid ⟨(S2.out.1).trans (hb3.mono (by omega)), (S2.out.2.1).below (hb3.mono (by omega)), (S2.out.2.2).below (hb3.mono (by omega))⟩
  clear S2
  clear hb3
  -- at w_3: S3: base p s
  by_cases hneg : a < 0
  · obtain ⟨rfl, rfl⟩ := k1 hneg
    clear k1 k2 hneg
    go_wp2_with fail
    refine (alive_any _).mono ?_
    rintro e w_5 ⟨rfl, hb5⟩
    have T5 := Lib.hid (S3.out.1.trans (hb5.mono (by omega))); clear hb5
    go_wp2
    go_ret
    exact ⟨rfl, T5.out⟩
  · obtain ⟨h3, k3, k4⟩ := k2 (by omega)
    clear k1 k2
    have K := Lib.hid (And.intro k3 k4); clear k3 k4
    rcases told with _ | _
    · have hne := K.out.2 rfl
      have hab : (a == 0) = false := beq_eq_false_iff_ne.2 hne
      clear hne K
      go_wp2_with fail
      refine (RunOf_I _ zp _ zss _ (S3.out.2.1.rd (by omega)) (by omega) (S3.out.2.2.rd (by omega)) zl zk false HR.out).mono ?_
      rintro e w4 ⟨u, rfl, _, hb5⟩
      have T5 := Lib.hid (S3.out.1.trans (hb5.mono (by omega))); clear hb5
      go_wp2
      go_ret
      exact ⟨rfl, T5.out⟩
    · obtain ⟨rfl, rfl⟩ := K.out.1 rfl
      have hkk : (zk == zk) = true := by simp
      clear K
      go_wp2_with fail
      refine (RunOf_I _ zp _ zss _ (S3.out.2.1.rd (by omega)) (by omega) (S3.out.2.2.rd (by omega)) zl zk true HR.out).mono ?_
      rintro e w4 ⟨u, rfl, _, hb5⟩
      have T5 := Lib.hid (S3.out.1.trans (hb5.mono (by omega))); clear hb5
      go_wp2
      go_ret
      exact ⟨rfl, T5.out⟩

theorem fnStopOf_walk : LawWalk 9 Try.f9 := by
  intro H enc W base args ds ps hval hA
  rw [Try.params9] at hA hval
  obtain ⟨v0, d0, rfl, rfl, h0⟩ := trodAll_one hA
  obtain ⟨A0, c0, zs0, rfl, hi0, hc0⟩ := ints_of_trod Try.underlying22 Try.underlying5 cells_byte (hval 0 _ _ rfl rfl) h0
  exact fnStopOf_any A0 c0 zs0 W (RdC.mk hi0 hc0)

set_option maxRecDepth 100000 in
theorem fnStopOf_lifted (os : Os) (started : os.Started) (H : Type) (enc : TypeId × Value → H) :
    ReturnsInHanded {} Try.checked os 9 .any (Rows.fnStopOfSpec.pre6 enc Try.prog Try.f9 Rows.fnStopOfRow.domain false) (Rows.fnStopOfSpec.post enc Try.prog Try.f9 false true false false) := by
  refine returnsInHanded_of_change (C := Try.checked) own started (by kernel_rfl) Try.func9
    (ChangeSpec.witness6 (enc := enc) (C := Try.checked) false ⟨#[], #[.slice none 0 0], []⟩ 8 (by kernel_rfl) (by kernel_rfl) (by kernel_rfl) (by kernel_rfl)) ?_
  intro W base args ds gs before hval hW _ _
  exact law_contract laidOut rfl (by kernel_rfl) rfl (fun H ds hd => by
    match ds, hd with
    | [d0], _ => exact ⟨rfl, rfl, rfl⟩) fnStopOf_walk W base args ds gs before hval hW

/-- FnStopOf: the row as it is given. -/
theorem fnStopOf_holds : Rows.FnStopOfSaid :=
  OpenClaim.holds_of_wide 9 Try.f9 rfl rfl rfl rfl rfl rfl rfl ⟨rfl, rfl, rfl, rfl, rfl⟩ rfl rfl rfl rfl rfl (by kernel_rfl) Try.func9 (by unfold joinedFacts; rw [pf_enter, pf_lifts, pf_make]; kernel_rfl)
    (of_decide_eq_true (by kernel_rfl)) (by unfold Func.isWrapper; first | (rw [if_pos (by decide +kernel)]; kernel_rfl) | (rw [if_neg (by decide +kernel)]; exact ⟨rfl, rfl⟩))
    (fun os started H enc _ => fnStopOf_lifted os started H enc)

end Go.Proofs.Ytkdpfiaegimnlaa
