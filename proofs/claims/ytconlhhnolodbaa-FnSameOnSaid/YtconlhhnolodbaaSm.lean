/- Rows and stacks compared with the slices package, and by the model: SameOn of both sides. -/
import Derived.Test.YtconlhhnolodbaaSy
import Derived.Test.YtconlhhnolodbaaQf
import Derived.Test.YtconlhhnolodbaaI
import Derived.Test.YtconlhhnolodbaaLq
import Derived.Deep.QuietTactic
import Derived.BigQuiet
namespace Go.Proofs.Ytconlhhnolodbaa
set_option maxRecDepth 100000
open Go.RowKit Go.WideShapes

theorem slEq_any (A B : Option Addr) (c d : Nat) (xs ys : List Int) (w : World) (hx : Ints w A xs) (hy : Ints w B ys) :
    Calls Try.prog 73 #[.slice A xs.length c, .slice B ys.length d] w fun e w' => e = .returned (.bool (decide (xs = ys))) ∧ ∃ n, w' = w.drewN n := by
  obtain ⟨hmx, -, hrx⟩ := hx
  obtain ⟨hmy, -, hry⟩ := hy
  have Hrx := Lib.hid hrx; clear hrx
  have Hry := Lib.hid hry; clear hry
  by_cases hlen : xs.length = ys.length
  · rw [← hlen]
    have Hlen := Lib.hid hlen
    have h1 : ys.length ≤ xs.length := by omega
    have h2 : xs.length ≤ ys.length := by omega
    clear hlen
    go_enter Try.func73, Try.ntmps73
    go_wp2
    go_loopw [5, 13] (fun _ i wr => ∃ k n : Nat, k ≤ xs.length ∧ i = .int .i64 k ∧ wr = w.drewN n ∧ xs.take k = ys.take k) (fun _ i _ => xs.length - (intOf i).toNat)
    case atStart => exact ⟨0, 0, Nat.zero_le _, rfl, rfl, rfl⟩
    case round =>
      obtain ⟨k, n, hk, rfl, rfl, ht⟩ := hrel
      have Ht := Lib.hid ht; clear ht
      by_cases hlt : k < xs.length
      · obtain ⟨b, off, rfl, hb, hc⟩ := Hrx.out (by omega)
        obtain ⟨b', off', rfl, hb', hc'⟩ := Hry.out (by omega)
        have hcell := hc k hlt
        have hcell' := hc' k (by omega)
        clear hc hc'
        have hlt' : (k : Int) < xs.length := by omega
        have hlt2 : (k : Int) < ys.length := by omega
        have hsucc := take_succ_eq hlt Hlen.out Ht.out
        have hne : xs.getD k 0 ≠ ys.getD k 0 → xs ≠ ys := ne_of_getD
        have Hs := Lib.hid hsucc; clear hsucc
        have Hn := Lib.hid hne; clear hne
        generalize xs.getD k 0 = x at *
        generalize ys.getD k 0 = y at *
        go_wp2
        go_quiet (fail)
        go_wp2
        · have hxy : (x != y) = true := by assumption
          have hf : ¬ xs = ys := Hn.out (by simpa using hxy)
          go_ret
          exact ⟨ret_bool (by simp [hf]), _, World.drewN_drewN _ _ _⟩
        · have hxy : (x != y) = false := by assumption
          have he : x = y := by simpa using hxy
          have hs := Hs.out he
          go_roundw
          case rel => exact ⟨k + 1, _, by omega, by go_num, rfl, hs⟩
          case measure => simp [intOf]; omega
      · have hfin : xs = ys := by
          have := Ht.out
          rwa [List.take_of_length_le (by omega), List.take_of_length_le (by omega)] at this
        have Hf := Lib.hid hfin; clear hfin
        go_wp2
        go_ret
        exact ⟨ret_bool (by simp [Hf.out]), n, rfl⟩
  · have hne : ¬ xs = ys := fun e => hlen (by rw [e])
    have hb : ((xs.length : Int) != (ys.length : Int)) = true := by rw [bne_iff_ne]; omega
    have Hne := Lib.hid hne; clear hne
    clear hlen
    go_enter Try.func73, Try.ntmps73
    go_wp2
    go_ret
    exact ⟨ret_bool (by simp [Hne.out]), 0, rfl⟩

theorem slEqQ (v u : Value) (xs ys : List Int) (w : World) (hx : RdI w v xs) (hy : RdI w u ys) (b : Bool) (hb : decide (xs = ys) = b) :
    Calls Try.prog 73 #[v, u] w fun e w' => e = .returned (.bool b) ∧ ∃ n, w' = w.drewN n := by
  subst hb
  obtain ⟨A, c, rfl, hi, _⟩ := hx
  obtain ⟨A', c', rfl, hi', _⟩ := hy
  exact slEq_any A A' c c' xs ys w hi hi'
theorem eqFuncQ (v u : Value) (xss yss : List (List Int)) (w : World) (hx : RdS w v xss) (hy : RdS w u yss) :
    Calls Try.prog 72 #[v, u, .func (.func 73) #[] #[]] w fun e w' => e = .returned (.bool (decide (xss = yss))) ∧ ∃ n, w' = w.drewN n := by
  obtain ⟨A, c, rfl, hmx, hrx⟩ := hx
  obtain ⟨A', c', rfl, hmy, hry⟩ := hy
  have Hrx := Lib.hid hrx; clear hrx
  have Hry := Lib.hid hry; clear hry
  by_cases hlen : xss.length = yss.length
  · rw [← hlen]
    have Hlen := Lib.hid hlen
    have h1 : yss.length ≤ xss.length := by omega
    have h2 : xss.length ≤ yss.length := by omega
    clear hlen
    go_enter Try.func72, Try.ntmps72
    go_wp2
    go_loopw [7, 8, 9, 17] (fun _ _ _ i wr => ∃ k : Nat, k ≤ xss.length ∧ i = .int .i64 k ∧ (∃ n, wr = w.drewN n) ∧ xss.take k = yss.take k) (fun _ _ _ i _ => xss.length - (intOf i).toNat)
    case atStart => exact ⟨0, Nat.zero_le _, rfl, ⟨0, rfl⟩, rfl⟩
    case round =>
      obtain ⟨k, hk, rfl, hq, ht⟩ := hrel
      have Ht := Lib.hid ht; clear ht
      have Hq := Lib.hid hq; clear hq
      by_cases hlt : k < xss.length
      · obtain ⟨b, off, rfl, hb, hc⟩ := Hrx.out (by omega)
        obtain ⟨b', off', rfl, hb', hc'⟩ := Hry.out (by omega)
        have hkx : xss[k]? = some xss[k] := List.getElem?_eq_getElem hlt
        have hky : yss[k]? = some (yss[k]'(by omega)) := List.getElem?_eq_getElem (by omega)
        obtain ⟨u1, hcell, hr1⟩ := hc k _ hkx
        obtain ⟨u2, hcell', hr2⟩ := hc' k _ hky
        have hbw : Below w.heap.size w wr := quiet_below Hq.out
        have R1 := Lib.hid ((hr1.below hbw).rd hbw.size)
        have R2 := Lib.hid ((hr2.below hbw).rd hbw.size)
        have hs : xss[k] = yss[k]'(by omega) → xss.take (k + 1) = yss.take (k + 1) := fun he => take_succ_eqS hkx hky Ht.out he
        have hn : xss[k] ≠ yss[k]'(by omega) → xss ≠ yss := fun he e => he (by subst e; rfl)
        replace hcell := (hbw.cell (p := ⟨b, off + k, none⟩) hb).trans hcell
        replace hcell' := (hbw.cell (p := ⟨b', off' + k, none⟩) hb').trans hcell'
        clear hc hc' hkx hky hr1 hr2 hbw
        have hlt' : (k : Int) < xss.length := by omega
        have hlt2 : (k : Int) < yss.length := by omega
        have Hs := Lib.hid hs; clear hs
        have Hn := Lib.hid hn; clear hn
        generalize xss[k] = x at *
        generalize yss[k]'(by omega) = y at *
        generalize hd : decide (x = y) = d
        have Hd := Lib.hid hd; clear hd
        go_wp2_with fail
        refine (slEqQ u1 u2 x y _ R1.out R2.out d Hd.out).mono ?_
        rintro e w' ⟨rfl, hq2⟩
        have Hq2 := Lib.hid (quiet_trans Hq.out hq2); clear hq2
        rcases d with _ | _
        · have hf : ¬ xss = yss := Hn.out (of_decide_eq_false Hd.out)
          have Hf := Lib.hid hf; clear hf
          go_wp2
          go_ret
          exact ⟨ret_bool (by simp [Hf.out]), Hq2.out⟩
        · have hs := Hs.out (of_decide_eq_true Hd.out)
          have Hs' := Lib.hid hs; clear hs
          go_wp2
          go_roundw
          case rel => exact ⟨k + 1, by omega, by go_num, Hq2.out, Hs'.out⟩
          case measure => simp [intOf]; omega
      · have hfin : xss = yss := by
          have := Ht.out
          rwa [List.take_of_length_le (by omega), List.take_of_length_le (by omega)] at this
        have Hf := Lib.hid hfin; clear hfin
        go_wp2
        go_ret
        exact ⟨ret_bool (by simp [Hf.out]), Hq.out⟩
  · have hne : ¬ xss = yss := fun e => hlen (by rw [e])
    have hb : ((xss.length : Int) != (yss.length : Int)) = true := by rw [bne_iff_ne]; omega
    have Hne := Lib.hid hne; clear hne
    clear hlen
    go_enter Try.func72, Try.ntmps72
    go_wp2
    go_ret
    exact ⟨ret_bool (by simp [Hne.out]), 0, rfl⟩

def sameOnR (p q : List Int) (s : List (List Int)) : Bool := (runOfR p s).2.2 && (runOfR q s).2.2 && decide ((runOfR p s).1 = (runOfR q s).1)
theorem eqFunc_any (v u : Value) (xss yss : List (List Int)) (w : World) (hx : RdS w v xss) (hy : RdS w u yss) (b : Bool) (hb : decide (xss = yss) = b) :
    Calls Try.prog 72 #[v, u, .func (.func 73) #[] #[]] w fun e w' => e = .returned (.bool b) ∧ Below w.heap.size w w' := by
  refine (eqFuncQ v u xss yss w hx hy).mono ?_
  rintro e w' ⟨rfl, hq⟩
  exact ⟨by rw [hb], quiet_below hq⟩
theorem SameOn_I (v0 : Value) (x0 : List Int) (v1 : Value) (x1 : List Int) (v2 : Value) (x2 : List (List Int)) (w : World) (h0 : RdI w v0 x0) (hl0 : x0.length ≤ 1048576) (h1 : RdI w v1 x1) (hl1 : x1.length ≤ 1048576) (h2 : RdS w v2 x2) (_ : x2.length ≤ 1048576) (_ : szS x2 ≤ 1048576) (y0 : Bool) (hR : sameOnR x0 x1 x2 = y0) :
    Calls Try.prog 26 #[v0, v1, v2] w fun e w' => e = .returned (.bool y0) ∧ Below w.heap.size w w' := by
  subst hR
  have H := Lib.hid (And.intro h0 (And.intro h1 h2)); clear h0 h1 h2
  rcases hR : runOfR x0 x2 with ⟨a0, a1, a2⟩
  rcases hQ : runOfR x1 x2 with ⟨b0, b1, b2⟩
  have HR := Lib.hid hR; have HQ := Lib.hid hQ
  have hres : Hid (sameOnR x0 x1 x2 = (a2 && b2 && decide (a0 = b0))) := Lib.hid (by rw [sameOnR, hR, hQ])
  clear hR hQ
  go_enter Try.func26, Try.ntmps26
  go_wp2_with fail
  refine (RunOf_I _ x0 _ x2 _ H.out.1 hl0 H.out.2.2 a0 a1 a2 HR.out).mono ?_
  rintro e w1 ⟨u, rfl, ho, hb⟩
  have hz := hb.size
  have X := Lib.hid (And.intro ho (And.intro (H.out.2.1.step hb) (And.intro (H.out.2.2.step hb) hb))); clear ho hb H
  go_wp2_with fail
  refine (RunOf_I _ x1 _ x2 _ X.out.2.1 hl1 X.out.2.2.1 b0 b1 b2 HQ.out).mono ?_
  rintro e w2 ⟨u2, rfl, ho, hb⟩
  have Y := Lib.hid (And.intro (X.out.1.below hb).rd (And.intro ho.rd (X.out.2.2.2.trans (hb.mono hz)))); clear ho hb X
  rcases a2 with _ | _
  · go_wp2
    go_ret
    exact ⟨ret_bool (by rw [hres.out]; rfl), Y.out.2.2⟩
  · rcases b2 with _ | _
    · go_wp2
      go_ret
      exact ⟨ret_bool (by rw [hres.out]; rfl), Y.out.2.2⟩
    · have hz2 := Y.out.2.2.size
      go_wp2_with fail
      refine (eqFunc_any _ _ a0 b0 _ Y.out.1 Y.out.2.1 _ rfl).mono ?_
      rintro e w3 ⟨rfl, hb⟩
      have Z := Lib.hid (Y.out.2.2.trans (hb.mono hz2)); clear hb Y
      go_wp2
      go_ret
      exact ⟨ret_bool (by rw [hres.out]; simp), Z.out⟩

theorem l1Same_any (A B : Option Addr) (c d : Nat) (xs ys : List Int) (w : World) (hx : Ints w A xs) (hy : Ints w B ys) :
    Calls Try.prog 70 #[.slice A xs.length c, .slice B ys.length d] w fun e w' => e = .returned (.bool (decide (xs = ys))) ∧ ∃ n, w' = w.drewN n := by
  obtain ⟨hmx, -, hrx⟩ := hx
  obtain ⟨hmy, -, hry⟩ := hy
  have Hrx := Lib.hid hrx; clear hrx
  have Hry := Lib.hid hry; clear hry
  go_enter Try.func70, Try.ntmps70
  go_wp2
  go_loopw [5] (fun i wr => ∃ k n : Nat, k ≤ xs.length ∧ k ≤ ys.length ∧ i = .int .i64 k ∧ wr = w.drewN n ∧ xs.take k = ys.take k) (fun i _ => xs.length - (intOf i).toNat)
  case atStart => exact ⟨0, 0, Nat.zero_le _, Nat.zero_le _, rfl, rfl, rfl⟩
  case round =>
    obtain ⟨k, n, hk, hky, rfl, rfl, ht⟩ := hrel
    have Ht := Lib.hid ht; clear ht
    by_cases hlt : k < xs.length
    · by_cases hly : k < ys.length
      · obtain ⟨b, off, rfl, hb, hc⟩ := Hrx.out (by omega)
        obtain ⟨b', off', rfl, hb', hc'⟩ := Hry.out (by omega)
        have hcell := hc k hlt
        have hcell' := hc' k hly
        clear hc hc'
        have hlt' : (k : Int) < xs.length := by omega
        have hlt2 : (k : Int) < ys.length := by omega
        have hsucc : xs.getD k 0 = ys.getD k 0 → xs.take (k + 1) = ys.take (k + 1) := fun he => by
          have h1 : xs[k]? = some (xs.getD k 0) := by simp [List.getD, List.getElem?_eq_getElem hlt]
          have h2 : ys[k]? = some (ys.getD k 0) := by simp [List.getD, List.getElem?_eq_getElem hly]
          rw [List.take_add_one, List.take_add_one, Ht.out, h1, h2, he]
        have hne : xs.getD k 0 ≠ ys.getD k 0 → xs ≠ ys := ne_of_getD
        have Hs := Lib.hid hsucc; clear hsucc
        have Hn := Lib.hid hne; clear hne
        generalize xs.getD k 0 = x at *
        generalize ys.getD k 0 = y at *
        go_wp2
        go_quiet (fail)
        go_wp2
        · have hxy : (x != y) = true := by assumption
          have hf : ¬ xs = ys := Hn.out (by simpa using hxy)
          go_ret
          exact ⟨ret_bool (by simp [hf]), _, World.drewN_drewN _ _ _⟩
        · have hxy : (x != y) = false := by assumption
          have he : x = y := by simpa using hxy
          have hs := Hs.out he
          go_roundw
          case rel => exact ⟨k + 1, _, by omega, by omega, by go_num, rfl, hs⟩
          case measure => simp [intOf]; omega
      · have hf : ¬ xs = ys := fun e => by rw [e] at hlt; omega
        have hb : ((xs.length : Int) == (ys.length : Int)) = false := by rw [beq_eq_false_iff_ne]; omega
        have Hf := Lib.hid hf; clear hf
        have hlt' : (k : Int) < xs.length := by omega
        have hly' : ¬ (k : Int) < ys.length := by omega
        go_wp2
        go_ret
        exact ⟨ret_bool (by simp [Hf.out]), n, rfl⟩
    · have hlt' : ¬ (k : Int) < xs.length := by omega
      have hres : decide (xs = ys) = ((xs.length : Int) == (ys.length : Int)) := by
        have h1 := Ht.out
        rw [List.take_of_length_le (by omega)] at h1
        rw [Bool.eq_iff_iff, decide_eq_true_eq, beq_iff_eq]
        constructor
        · intro e; rw [e]
        · intro e
          rw [List.take_of_length_le (by omega)] at h1
          exact h1
      have Hres := Lib.hid hres; clear hres
      go_wp2
      go_ret
      exact ⟨ret_bool (by rw [Hres.out]), n, rfl⟩
theorem flatten_eq {xss yss : List (List Int)} (hx : stackB xss = true) (hy : stackB yss = true) : decide (xss.flatten = yss.flatten) = decide (xss = yss) := by
  rw [Bool.eq_iff_iff, decide_eq_true_eq, decide_eq_true_eq]
  constructor
  · intro h
    rw [← parts_values (stackB_all hx).2, ← parts_values (stackB_all hy).2, h]
  · intro h; rw [h]
theorem runOfR_stack {p : List Int} {s a0 : List (List Int)} {a1 : Int} {a2 : Bool} (h : runOfR p s = (a0, a1, a2)) : stackB a0 = true := by
  rcases a2 with _ | _
  · have := runOfR_no (p := p) (s := s) (by rw [h])
    rw [h] at this; cases this; rfl
  · obtain ⟨-, -, x, -, he, hs, -⟩ := runOfR_ok (p := p) (s := s) (by rw [h])
    rw [h] at he; cases he; exact hs
theorem stackB_small {s : List (List Int)} (h : stackB s = true) : s.length ≤ 1048576 ∧ szS s ≤ 1048576 ∧ s.flatten.length ≤ 1200 := by
  obtain ⟨h1, h2⟩ := stackB_all h
  refine ⟨by omega, ?_, flatten_len h⟩
  have : ∀ t : List (List Int), (∀ v ∈ t, v.length ≤ 60) → szS t ≤ 60 * t.length := by
    intro t; induction t with
    | nil => simp [szS]
    | cons v t ih => intro h; rw [szS, List.length_cons]; have := h v (by simp); have := ih (fun u hu => h u (by simp [hu])); omega
  have := this s (fun v hv => (valueB_len (h2 v hv)).2)
  omega
set_option maxHeartbeats 1000000 in
theorem SameOn_S (v0 : Value) (x0 : List Int) (v1 : Value) (x1 : List Int) (v2 : Value) (x2 : List (List Int)) (w : World) (h0 : RdI w v0 x0) (hl0 : x0.length ≤ 1048576) (h1 : RdI w v1 x1) (hl1 : x1.length ≤ 1048576) (h2 : RdS w v2 x2) (hn2 : x2.length ≤ 1048576) (hl2 : szS x2 ≤ 1048576) (y0 : Bool) (hR : sameOnR x0 x1 x2 = y0) :
    Calls Try.prog 25 #[v0, v1, v2] w fun e w' => e = .returned (.bool y0) ∧ Below w.heap.size w w' := by
  subst hR
  have H := Lib.hid (And.intro h0 (And.intro h1 h2)); clear h0 h1 h2
  rcases hR : runOfR x0 x2 with ⟨a0, a1, a2⟩
  rcases hQ : runOfR x1 x2 with ⟨b0, b1, b2⟩
  have HR := Lib.hid hR; have HQ := Lib.hid hQ
  have hres : Hid (sameOnR x0 x1 x2 = (a2 && b2 && decide (a0 = b0))) := Lib.hid (by rw [sameOnR, hR, hQ])
  have Ha := Lib.hid (runOfR_stack hR)
  have Hb := Lib.hid (runOfR_stack hQ)
  obtain ⟨sa1, sa2, sa3⟩ := stackB_small Ha.out
  obtain ⟨sb1, sb2, sb3⟩ := stackB_small Hb.out
  clear hR hQ
  go_enter Try.func25, Try.ntmps25
  go_wp2_with fail
  refine (RunOf_S _ x0 _ x2 _ H.out.1 hl0 H.out.2.2 hn2 hl2 a0 a1 a2 HR.out).mono ?_
  rintro e w1 ⟨u, rfl, ho, hb⟩
  have hz := hb.size
  have X := Lib.hid (And.intro ho (And.intro (H.out.2.1.step hb) (And.intro (H.out.2.2.step hb) hb))); clear ho hb H
  go_wp2_with fail
  refine (RunOf_S _ x1 _ x2 _ X.out.2.1 hl1 X.out.2.2.1 hn2 hl2 b0 b1 b2 HQ.out).mono ?_
  rintro e w2 ⟨u2, rfl, ho, hb⟩
  have hz2 := hb.size
  have Y := Lib.hid (And.intro (X.out.1.step hb) (And.intro ho (X.out.2.2.2.trans (hb.mono hz)))); clear ho hb X
  obtain ⟨A, c, rfl, _⟩ := Y.out.1
  obtain ⟨B, d, rfl, _⟩ := Y.out.2.1
  rcases a2 with _ | _
  · go_wp2
    go_ret
    exact ⟨ret_bool (by rw [hres.out]; rfl), Y.out.2.2⟩
  · rcases b2 with _ | _
    · go_wp2
      go_ret
      exact ⟨ret_bool (by rw [hres.out]; rfl), Y.out.2.2⟩
    · by_cases hlen : a0.length = b0.length
      · have hlb : ((a0.length : Int) == (b0.length : Int)) = true := by rw [beq_iff_eq]; omega
        clear hlen
        obtain ⟨fa, hfa⟩ : ∃ f, f = a0.flatten := ⟨_, rfl⟩
        obtain ⟨fb, hfb⟩ : ∃ f, f = b0.flatten := ⟨_, rfl⟩
        have HF := Lib.hid (And.intro hfa hfb); clear hfa hfb
        clear sa3 sb3
        go_wp2_with fail
        refine (l2Words_any _ a0 _ Y.out.1 sa1 sa2).mono ?_
        rintro e w3 ⟨u3, rfl, ho, hb⟩
        rw [← HF.out.1] at ho
        have hz3 := hb.size
        have Z := Lib.hid (And.intro ho (And.intro (Y.out.2.1.step hb) (Y.out.2.2.trans (hb.mono (by omega))))); clear ho hb Y
        go_wp2_with fail
        refine (l2Words_any _ b0 _ Z.out.2.1 sb1 sb2).mono ?_
        rintro e w4 ⟨u4, rfl, ho, hb⟩
        rw [← HF.out.2] at ho
        have hz4 := hb.size
        have T := Lib.hid (And.intro (Z.out.1.below hb).rd (And.intro ho.rd (Z.out.2.2.trans (hb.mono (by omega))))); clear ho hb Z
        obtain ⟨A3, c3, rfl, hi3, _⟩ := T.out.1
        obtain ⟨A4, c4, rfl, hi4, _⟩ := T.out.2.1
        have HI := Lib.hid (And.intro hi3 hi4); clear hi3 hi4
        go_wp2_with fail
        refine (l1Same_any A3 A4 c3 c4 fa fb _ HI.out.1 HI.out.2).mono ?_
        rintro e w5 ⟨rfl, hq⟩
        have V := Lib.hid (T.out.2.2.trans ((quiet_below (B := w4.heap.size) hq).mono (by omega))); clear hq
        go_wp2
        go_ret
        exact ⟨ret_bool (by rw [hres.out, HF.out.1, HF.out.2, flatten_eq Ha.out Hb.out]; simp), V.out⟩
      · have hlb : ((a0.length : Int) == (b0.length : Int)) = false := by rw [beq_eq_false_iff_ne]; omega
        have hne : Hid (¬ a0 = b0) := Lib.hid (fun e => hlen (by rw [e]))
        clear hlen
        go_wp2
        go_ret
        exact ⟨ret_bool (by rw [hres.out]; simp [hne.out]), Y.out.2.2⟩
end Go.Proofs.Ytconlhhnolodbaa
