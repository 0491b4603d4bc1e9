/- Chapter 9, pure: a name put back, words named: what the laws say. -/
import Derived.Test.YtaehaalaeikloaaYv
import Derived.Test.YtaehaalaeikloaaYr
namespace Go.Proofs.Ytaehaalaeikloaa
set_option maxRecDepth 100000
open Go.RowKit Go.WideShapes

theorem take_last {d : List (List Int)} {m : Nat} {q : List Int} (hm : d.length = m + 1) (hq : d[m]? = some q) : d = d.take m ++ [q] := by
  conv => lhs; rw [← List.take_of_length_le (Nat.le_of_eq hm), List.take_add_one, hq]
  rfl
theorem back_no {d e : List (List Int)} {p q : List Int} (h : putBackR d p = (e, q, false)) : e = [] ∧ q = [] := by
  unfold putBackR at h
  split at h <;> cases h
  exact ⟨rfl, rfl⟩
theorem back_yes {d e : List (List Int)} {p q : List Int} (h : putBackR d p = (e, q, true)) : usesOkB d p = true ∧ usesOkB e q = true ∧ meansR e q = meansR d p ∧ e.length + 1 = d.length ∧ e.length ≤ 6 ∧ q.length ≤ 60 ∧ (∀ r ∈ e, r.length ≤ 60) := by
  have hc : usesOkB d p = true ∧ 1 ≤ d.length := by
    unfold putBackR at h
    split at h
    · rename_i hc; exact ⟨hc.1, hc.2.1⟩
    · cases h
  obtain ⟨m, l, hm, hl, hlu, hpu, hpb, hrl, hm5, hl60, hp60⟩ := putBack_parts hc.1 hc.2
  rw [h] at hpb
  by_cases h60 : (pbR (1101 + (m : Int)) l p).length ≤ 60
  · rw [if_pos h60] at hpb
    cases hpb
    have hd := take_last hm hl
    have hml : (d.take m).length = m := by rw [List.length_take]; omega
    have hdd := hc.1
    simp only [usesOkB, Bool.and_eq_true] at hdd
    have hu : usesOkB (d.take m) (pbR (1101 + (m : Int)) l p) = true := by
      simp only [usesOkB, Bool.and_eq_true]
      exact ⟨dictB_take hdd.1 m, by rw [hml, put_fits hlu hpu]; exact decide_eq_true h60⟩
    have hf : flatR d p = flatR (d.take m) (pbR (1101 + (m : Int)) l p) := by
      have := flat_put (d := d.take m) (q := l) (p := p) (by rw [hml]; exact hpu)
      rw [hml, ← hd] at this; exact this
    refine ⟨hc.1, hu, ?_, by omega, by omega, h60, hrl⟩
    unfold meansR
    rw [hu, hc.1, hf]
  · rw [if_neg h60] at hpb; cases hpb
theorem rep_mem {ws : List Int} (hw : 1 ≤ ws.length) (nm : Int) : ∀ (n : Nat) (p : List Int), p.length ≤ n → ∀ z ∈ repR ws nm p, z = nm ∨ z ∈ p := by
  intro n
  induction n with
  | zero => intro p h z hz; rw [List.eq_nil_of_length_eq_zero (Nat.le_zero.1 h), rep_nil] at hz; simp at hz
  | succ n ih =>
    intro p h z hz
    rcases p with _ | ⟨y, r⟩
    · rw [rep_nil] at hz; simp at hz
    · rcases h0 : bgB ws (y :: r) with _ | _
      · rw [rep_miss nm h0] at hz
        rcases List.mem_cons.1 hz with rfl | hz
        · right; simp
        · rcases ih r (by simpa using h) z hz with h1 | h1
          · exact .inl h1
          · right; simp [h1]
      · rw [rep_hit hw nm h0] at hz
        rcases List.mem_cons.1 hz with rfl | hz
        · exact .inl rfl
        · rcases ih ((y :: r).drop ws.length) (by rw [List.length_drop]; simp at h ⊢; omega) z hz with h1 | h1
          · exact .inl h1
          · exact .inr (List.mem_of_mem_drop h1)
theorem rep_back {ws : List Int} (hw : 1 ≤ ws.length) (nm : Int) : ∀ (n : Nat) (p : List Int), p.length ≤ n → nm ∉ p → pbR nm ws (repR ws nm p) = p := by
  intro n
  induction n with
  | zero => intro p h _; rw [List.eq_nil_of_length_eq_zero (Nat.le_zero.1 h)]; rfl
  | succ n ih =>
    intro p h hn
    rcases p with _ | ⟨y, r⟩
    · rfl
    · rcases h0 : bgB ws (y :: r) with _ | _
      · rw [rep_miss nm h0, pb_cons, if_neg (by intro e; exact hn (by rw [e]; simp)), ih r (by simpa using h) (fun e => hn (by simp [e]))]; rfl
      · rw [rep_hit hw nm h0, pb_cons, if_pos rfl, ih ((y :: r).drop ws.length) (by rw [List.length_drop]; simp at h ⊢; omega) (fun e => hn (List.mem_of_mem_drop e))]
        exact (bg_split h0).symm
theorem rep_short {ws : List Int} (hw : 2 ≤ ws.length) (nm : Int) : ∀ (n : Nat) (p : List Int), p.length ≤ n → (repR ws nm p).length + cntR ws p ≤ p.length := by
  intro n
  induction n with
  | zero => intro p h; rw [List.eq_nil_of_length_eq_zero (Nat.le_zero.1 h)]; simp [rep_nil, cntR, cntF]
  | succ n ih =>
    intro p h
    rcases p with _ | ⟨y, r⟩
    · simp [rep_nil, cntR, cntF]
    · rcases h0 : bgB ws (y :: r) with _ | _
      · rw [rep_miss nm h0, cnt_miss h0]; have := ih r (by simpa using h); simp; omega
      · rw [rep_hit (by omega) nm h0, cnt_hit (by omega) h0]
        have hb := bg_len h0
        have := ih ((y :: r).drop ws.length) (by rw [List.length_drop]; simp at h ⊢; omega)
        rw [List.length_drop] at this
        simp at this hb ⊢; omega
theorem gave_no {d e : List (List Int)} {p q : List Int} (h : giveR d p = (e, q, false)) : e = [] ∧ q = [] := by
  unfold giveR at h
  split at h <;> cases h
  exact ⟨rfl, rfl⟩
theorem gave_yes {d e : List (List Int)} {p q : List Int} (h : giveR d p = (e, q, true)) : usesOkB d p = true ∧ usesOkB e q = true ∧ meansR e q = meansR d p ∧ q.length < p.length ∧ putBackR e q = (d, p, true) ∧ e.length ≤ 6 ∧ p.length ≤ 60 ∧ (∀ r ∈ e, r.length ≤ 60) := by
  rcases hT : twiceR d p with ⟨y, b⟩
  rcases b with _ | _
  · rw [give_no hT] at h; cases h
  obtain ⟨hu, hyu, hy2, hyp, a, ha, hst⟩ := twice_yes hT
  obtain ⟨_, _, hy60, hp60, hd6, hr60⟩ := twice_lens hT
  rw [give_yes hT] at h
  by_cases h6 : d.length < 6
  · rw [if_pos h6] at h
    cases h
    have hu2 := hu
    simp only [usesOkB, Bool.and_eq_true] at hu2 hyu
    have hdp := dictB_parts hu2.1
    obtain ⟨n, hn⟩ : ∃ n, d.length = n := ⟨_, rfl⟩
    rw [hn] at hu2 hyu h6 ⊢
    have hnm : (1101 + (n : Int)) ∉ p := by
      intro e
      rcases uses_all hu2.2 _ e with h1 | h1
      · obtain ⟨k, hk, he⟩ := nmB_iff.1 h1; omega
      · rw [nm_word] at h1; cases h1
    have hback := rep_back (ws := y) (by omega) (1101 + (n : Int)) p.length p (Nat.le_refl _) hnm
    have hcnt := cnt_one (ws := y) (by omega) p.length p a (Nat.le_refl _) ha
    have hsh := rep_short hy2 (1101 + (n : Int)) p.length p (Nat.le_refl _)
    have hbk : brk (1101 + (n : Int)) = 0 := nmB_brk (n := n + 1) (nmB_iff.2 ⟨n, by omega, rfl⟩)
    have hyf : fitsFrom 0 y = true := by have := hyu.2; simp only [usesB, Bool.and_eq_true] at this; exact this.2.2
    have hpf : fitsFrom 0 p = true := by have := hu2.2; simp only [usesB, Bool.and_eq_true] at this; exact this.2.2
    have hqf : fitsFrom 0 (repR y (1101 + (n : Int)) p) = true := by
      have := fits_flat (f := fun z => if z = 1101 + (n : Int) then y else [z]) (repR y (1101 + (n : Int)) p) 0 (by omega) (fun z _ => by
        by_cases e : z = 1101 + (n : Int)
        · right; subst e; rw [if_pos rfl]; exact ⟨hbk, hyf⟩
        · left; rw [if_neg e])
      rw [← this]
      show fitsFrom 0 (pbR (1101 + (n : Int)) y (repR y (1101 + (n : Int)) p)) = true
      rw [hback]; exact hpf
    have hqa : (repR y (1101 + (n : Int)) p).all (wdB (n + 1)) = true := by
      rw [List.all_eq_true]
      intro z hz
      rcases rep_mem (ws := y) (by omega) (1101 + (n : Int)) p.length p (Nat.le_refl _) z hz with rfl | h1
      · rw [wdB, nmB_iff.2 ⟨n, by omega, rfl⟩, Bool.true_or]
      · rcases uses_all hu2.2 z h1 with h2 | h2
        · obtain ⟨k, hk, rfl⟩ := nmB_iff.1 h2
          rw [wdB, nmB_iff.2 ⟨k, by omega, rfl⟩, Bool.true_or]
        · rw [wdB, h2, Bool.or_true]
    have hql : (repR y (1101 + (n : Int)) p).length < p.length := by omega
    have hqu : usesB (n + 1) (repR y (1101 + (n : Int)) p) = true := by
      simp only [usesB, Bool.and_eq_true, decide_eq_true_eq]
      exact ⟨by omega, hqa, hqf⟩
    have hel : (d ++ [y]).length = n + 1 := by rw [List.length_append, hn]; rfl
    have hed : dictB (d ++ [y]) = true := by
      simp only [dictB, Bool.and_eq_true, decide_eq_true_eq]
      refine ⟨by omega, ?_⟩
      rw [dictFrom_append, hdp.2, Nat.zero_add, hn]
      simp [dictFrom, hyu.2]
    have heu : usesOkB (d ++ [y]) (repR y (1101 + (n : Int)) p) = true := by
      simp only [usesOkB, Bool.and_eq_true]
      exact ⟨hed, by rw [hel]; exact hqu⟩
    have hfl : flatR (d ++ [y]) (repR y (1101 + (n : Int)) p) = flatR d p := by
      have := flat_put (d := d) (q := y) (p := repR y (1101 + (n : Int)) p) (by rw [hn]; exact hqu)
      rw [hn, hback] at this; exact this
    refine ⟨hu, heu, ?_, hql, ?_, by omega, hp60, fun r hr => ?_⟩
    · unfold meansR; rw [heu, hu, hfl]
    · obtain ⟨m, l, hm, hl, _, _, hpb, _⟩ := putBack_parts heu (by omega)
      have hmn : m = n := by omega
      subst hmn
      have hly : l = y := by
        rw [List.getElem?_append_right (by omega), hn, Nat.sub_self] at hl
        simpa using hl.symm
      subst hly
      rw [hpb, hback, if_pos hp60, List.take_append_of_le_length (by omega), List.take_of_length_le (by omega)]
    · rcases List.mem_append.1 hr with h1 | h1
      · exact hr60 r h1
      · simp at h1; subst h1; exact hy60
  · rw [if_neg h6] at h; cases h
theorem rows_small {e : List (List Int)} (h : e.length ≤ 6) (hr : ∀ r ∈ e, r.length ≤ 60) : szS e ≤ 1048576 := by have := szS_rows e hr; omega
end Go.Proofs.Ytaehaalaeikloaa
