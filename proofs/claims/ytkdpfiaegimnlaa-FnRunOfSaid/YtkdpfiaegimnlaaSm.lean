/- Rows and stacks compared with the slices package, and by the model: SameOn of both sides. -/
import Derived.Test.YtkdpfiaegimnlaaSl
import Derived.Test.YtkdpfiaegimnlaaSy
import Derived.Test.YtkdpfiaegimnlaaB5
import Derived.Test.YtkdpfiaegimnlaaI
import Derived.Test.YtkdpfiaegimnlaaB8
import Derived.Deep.QuietTactic
import Derived.BigQuiet
namespace Go.Proofs.Ytkdpfiaegimnlaa
set_option maxRecDepth 100000
open Go.RowKit Go.WideShapes

def sameOnR (p q : List Int) (s : List (List Int)) : Bool := (runOfR p s).2.2 && (runOfR q s).2.2 && decide ((runOfR p s).1 = (runOfR q s).1)
theorem SameOn_I (v0 : Value) (x0 : List Int) (v1 : Value) (x1 : List Int) (v2 : Value) (x2 : List (List Int)) (w : World) (h0 : RdI w v0 x0) (hl0 : x0.length ≤ 1048576) (h1 : RdI w v1 x1) (hl1 : x1.length ≤ 1048576) (h2 : RdS w v2 x2) (_ : x2.length ≤ 1048576) (_ : szS x2 ≤ 1048576) (y0 : Bool) (hR : sameOnR x0 x1 x2 = y0) :
    Calls Try.prog 27 #[v0, v1, v2] w fun e w' => e = .returned (.bool y0) ∧ Below w.heap.size w w' := by
  subst hR
  have H := Lib.hid (And.intro h0 (And.intro h1 h2)); clear h0 h1 h2
  rcases hR : runOfR x0 x2 with ⟨a0, a1, a2⟩
  rcases hQ : runOfR x1 x2 with ⟨b0, b1, b2⟩
  have HR := Lib.hid hR; have HQ := Lib.hid hQ
  have hres : Hid (sameOnR x0 x1 x2 = (a2 && b2 && decide (a0 = b0))) := Lib.hid (by rw [sameOnR, hR, hQ])
  clear hR hQ
  go_enter Try.func27, Try.ntmps27
  go_wp2_with fail
  refine (RunOf_I _ x0 _ x2 _ H.out.1 hl0 H.out.2.2 a0 a1 a2 HR.out).mono ?_
  rintro e w1 ⟨u, rfl, ho, hb⟩
  have hz := hb.size
  have X := Lib.hid (And.intro ho (And.intro (H.out.2.1.step hb) (And.intro (H.out.2.2.step hb) hb))); clear ho hb H
  go_wp2_with fail
  refine (RunOf_I _ x1 _ x2 _ X.out.2.1 hl1 X.out.2.2.1 b0 b1 b2 HQ.out).mono ?_
  rintro e w2 ⟨u2, rfl, ho, hb⟩
  have Y := Lib.hid (And.intro (X.out.1.below hb).rd (And.intro ho.rd (X.out.2.2.2.trans (hb.mono hz)))); clear ho hb X
  rcases a2 with _ | _
  · go_wp2
    go_ret
    exact ⟨ret_bool (by rw [hres.out]; rfl), Y.out.2.2⟩
  · rcases b2 with _ | _
    · go_wp2
      go_ret
      exact ⟨ret_bool (by rw [hres.out]; rfl), Y.out.2.2⟩
    · have hz2 := Y.out.2.2.size
      go_wp2_with fail
      refine (eqFunc_any _ _ a0 b0 _ Y.out.1 Y.out.2.1 _ rfl).mono ?_
      rintro e w3 ⟨rfl, hb⟩
      have Z := Lib.hid (Y.out.2.2.trans (hb.mono hz2)); clear hb Y
      go_wp2
      go_ret
      exact ⟨ret_bool (by rw [hres.out]; simp), Z.out⟩

set_option maxHeartbeats 1000000 in
theorem SameOn_S (v0 : Value) (x0 : List Int) (v1 : Value) (x1 : List Int) (v2 : Value) (x2 : List (List Int)) (w : World) (h0 : RdI w v0 x0) (hl0 : x0.length ≤ 1048576) (h1 : RdI w v1 x1) (hl1 : x1.length ≤ 1048576) (h2 : RdS w v2 x2) (hn2 : x2.length ≤ 1048576) (hl2 : szS x2 ≤ 1048576) (y0 : Bool) (hR : sameOnR x0 x1 x2 = y0) :
    Calls Try.prog 28 #[v0, v1, v2] w fun e w' => e = .returned (.bool y0) ∧ Below w.heap.size w w' := by
  subst hR
  have H := Lib.hid (And.intro h0 (And.intro h1 h2)); clear h0 h1 h2
  rcases hR : runOfR x0 x2 with ⟨a0, a1, a2⟩
  rcases hQ : runOfR x1 x2 with ⟨b0, b1, b2⟩
  have HR := Lib.hid hR; have HQ := Lib.hid hQ
  have hres : Hid (sameOnR x0 x1 x2 = (a2 && b2 && decide (a0 = b0))) := Lib.hid (by rw [sameOnR, hR, hQ])
  have Ha := Lib.hid (runOfR_stack hR)
  have Hb := Lib.hid (runOfR_stack hQ)
  obtain ⟨sa1, sa2, sa3⟩ := stackB_small Ha.out
  obtain ⟨sb1, sb2, sb3⟩ := stackB_small Hb.out
  clear hR hQ
  go_enter Try.func28, Try.ntmps28
  go_wp2_with fail
  refine (RunOf_S _ x0 _ x2 _ H.out.1 hl0 H.out.2.2 hn2 hl2 a0 a1 a2 HR.out).mono ?_
  rintro e w1 ⟨u, rfl, ho, hb⟩
  have hz := hb.size
  have X := Lib.hid (And.intro ho (And.intro (H.out.2.1.step hb) (And.intro (H.out.2.2.step hb) hb))); clear ho hb H
  go_wp2_with fail
  refine (RunOf_S _ x1 _ x2 _ X.out.2.1 hl1 X.out.2.2.1 hn2 hl2 b0 b1 b2 HQ.out).mono ?_
  rintro e w2 ⟨u2, rfl, ho, hb⟩
  have hz2 := hb.size
  have Y := Lib.hid (And.intro (X.out.1.step hb) (And.intro ho (X.out.2.2.2.trans (hb.mono hz)))); clear ho hb X
  obtain ⟨A, c, rfl, _⟩ := Y.out.1
  obtain ⟨B, d, rfl, _⟩ := Y.out.2.1
  rcases a2 with _ | _
  · go_wp2
    go_ret
    exact ⟨ret_bool (by rw [hres.out]; rfl), Y.out.2.2⟩
  · rcases b2 with _ | _
    · go_wp2
      go_ret
      exact ⟨ret_bool (by rw [hres.out]; rfl), Y.out.2.2⟩
    · by_cases hlen : a0.length = b0.length
      · have hlb : ((a0.length : Int) == (b0.length : Int)) = true := by rw [beq_iff_eq]; omega
        clear hlen
        obtain ⟨fa, hfa⟩ : ∃ f, f = a0.flatten := ⟨_, rfl⟩
        obtain ⟨fb, hfb⟩ : ∃ f, f = b0.flatten := ⟨_, rfl⟩
        have HF := Lib.hid (And.intro hfa hfb); clear hfa hfb
        clear sa3 sb3
        go_wp2_with fail
        refine (l2Words_any _ a0 _ Y.out.1 sa1 sa2).mono ?_
        rintro e w3 ⟨u3, rfl, ho, hb⟩
        rw [← HF.out.1] at ho
        have hz3 := hb.size
        have Z := Lib.hid (And.intro ho (And.intro (Y.out.2.1.step hb) (Y.out.2.2.trans (hb.mono (by omega))))); clear ho hb Y
        go_wp2_with fail
        refine (l2Words_any _ b0 _ Z.out.2.1 sb1 sb2).mono ?_
        rintro e w4 ⟨u4, rfl, ho, hb⟩
        rw [← HF.out.2] at ho
        have hz4 := hb.size
        have T := Lib.hid (And.intro (Z.out.1.below hb).rd (And.intro ho.rd (Z.out.2.2.trans (hb.mono (by omega))))); clear ho hb Z
        obtain ⟨A3, c3, rfl, hi3, _⟩ := T.out.1
        obtain ⟨A4, c4, rfl, hi4, _⟩ := T.out.2.1
        have HI := Lib.hid (And.intro hi3 hi4); clear hi3 hi4
        go_wp2_with fail
        refine (l1Same_any A3 A4 c3 c4 fa fb _ HI.out.1 HI.out.2).mono ?_
        rintro e w5 ⟨rfl, hq⟩
        have V := Lib.hid (T.out.2.2.trans ((quiet_below (B := w4.heap.size) hq).mono (by omega))); clear hq
        go_wp2
        go_ret
        exact ⟨ret_bool (by rw [hres.out, HF.out.1, HF.out.2, flatten_eq Ha.out Hb.out]; simp), V.out⟩
      · have hlb : ((a0.length : Int) == (b0.length : Int)) = false := by rw [beq_eq_false_iff_ne]; omega
        have hne : Hid (¬ a0 = b0) := Lib.hid (fun e => hlen (by rw [e]))
        clear hlen
        go_wp2
        go_ret
        exact ⟨ret_bool (by rw [hres.out]; simp [hne.out]), Y.out.2.2⟩
end Go.Proofs.Ytkdpfiaegimnlaa
