/- Contracts of the model's ProgThen and ProgQuote. -/
import Derived.Test.YtabjlloohcnijaaS
import Derived.Test.YtabjlloohcnijaaT
namespace Go.Proofs.Ytabjlloohcnijaa
open Go.RowKit Go.WideShapes

theorem fitsFrom_append {o : Int} {p : List Int} (q : List Int) (h : fitsFrom o p = true) : fitsFrom o (p ++ q) = fitsFrom 0 q := by
  induction p generalizing o with
  | nil => simp [fitsFrom] at h; subst h; rfl
  | cons z zs ih =>
    rw [fitsFrom] at h
    rw [List.cons_append, fitsFrom]
    by_cases hn : o + brk z < 0
    · simp [hn] at h
    · rw [if_neg hn] at h ⊢; exact ih h
theorem validB_append {p q : List Int} (hp : validB p = true) (hq : validB q = true) : validB (p ++ q) = decide (p.length + q.length ≤ 60) := by
  simp only [validB, Bool.and_eq_true, decide_eq_true_eq] at hp hq
  simp [validB, fitsFrom_append q hp.2, hq.2]
  intro _
  exact ⟨by simpa using hp.1.2, by simpa using hq.1.2⟩
theorem fitsFrom_shift {o : Int} {p : List Int} (q : List Int) (d : Int) (hd : 0 ≤ d) (h : fitsFrom o p = true) : fitsFrom (o + d) (p ++ q) = fitsFrom d q := by
  induction p generalizing o with
  | nil => simp [fitsFrom] at h; subst h; simp
  | cons z zs ih =>
    rw [fitsFrom] at h
    rw [List.cons_append, fitsFrom]
    by_cases hn : o + brk z < 0
    · simp [hn] at h
    · rw [if_neg hn] at h; rw [if_neg (by omega), show o + d + brk z = o + brk z + d from by omega]; exact ih h
theorem validB_quote {p : List Int} (hp : validB p = true) : validB (1012 :: (p ++ [1013])) = decide (p.length + 2 ≤ 60) := by
  simp only [validB, Bool.and_eq_true, decide_eq_true_eq] at hp
  have hb1 : brk 1012 = 1 := rfl
  have hb2 : brk 1013 = -1 := rfl
  have hf : fitsFrom 0 (1012 :: (p ++ [1013])) = true := by
    rw [fitsFrom, hb1, if_neg (by omega), fitsFrom_shift [1013] 1 (by omega) hp.2]
    rfl
  have hw : (1012 :: (p ++ [1013])).all isWordB = true := by
    simp only [List.all_cons, List.all_append, hp.1.2]; rfl
  rw [validB, hf, hw]
  simp

theorem specThen_any (A A' : Option Addr) (c c' : Nat) (p q : List Int) (w : World) (hp : Ints w A p) (hq : Ints w A' q) (hl : p.length ≤ 1048576 ∧ q.length ≤ 1048576) :
    Calls Try.prog 19 #[.slice A p.length c, .slice A' q.length c'] w fun e w' => ∃ v, e = .returned (.tuple #[v, .bool (thenR p q).2]) ∧ Own w' w.heap.size v (thenR p q).1 ∧ Below w.heap.size w w' := by
  have hlp := hp.len
  have hlq := hq.len
  have HP := Lib.hid hp; clear hp
  have HQ := Lib.hid hq; clear hq
  generalize hvp : validB p = vp
  generalize hvq : validB q = vq
  have Hvp := Lib.hid hvp; clear hvp
  have Hvq := Lib.hid hvq; clear hvq
  have L0 := lit_own w [] (by simp)
  simp only [List.map_nil, List.length_nil] at L0
  have Hwf : Hid (∀ z ∈ p ++ q, InK .i64 z) := Lib.hid (by
    intro z hz
    rcases List.mem_append.1 hz with h | h
    · exact HP.out.wf z h
    · exact HQ.out.wf z h)
  go_enter Try.func19, Try.ntmps19
  go_wp2_with (at_builtin; refine wpList_append_ints rfl (.tmp 7) (.tmp 8) _ rfl w.heap.size 3 .i64 8 Try.underlying23 intInfo (Nat.le_refl _) _ [] rfl L0 (w.heap.size + 1) A p c rfl ((HP.out.alloc (Nat.le_refl _) _).mono (by omega)) (by simp; omega) (by simp) ?_)
  intro v1 w1 hown1 hg1 _
  have hb1 : Below w.heap.size w w1 := ((Below.refl w.heap.size w).alloc (Nat.le_refl _) _).grown hg1 (by simp) (by intro k hk; simp [Value.ownBlock] at hk; omega)
  have Hown1 := Lib.hid hown1
  have Hb1 := Lib.hid hb1
  clear hown1 hg1 hb1 L0
  go_wp2_with (at_builtin; refine wpList_append_ints rfl (.tmp 9) (.tmp 10) _ rfl w.heap.size 3 .i64 8 Try.underlying23 intInfo (Nat.le_refl _) _ p rfl Hown1.out w.heap.size A' q c' rfl (HQ.out.below Hb1.out) (by omega) Hb1.out.size ?_)
  intro v2 w2 hown2 hg2 _
  have hb2 : Below w.heap.size w w2 := Hb1.out.grown hg2 Hb1.out.size (fun g hg => (Hown1.out.lt g hg).1)
  have ho2 : Own w2 w.heap.size v2 (p ++ q) := ⟨by simpa using hown2, Hwf.out⟩
  clear hown2 hg2 Hown1 Hb1 Hwf
  have hvall : validB p = true → validB q = true → validB (p ++ q) = decide (p.length + q.length ≤ 60) := fun h1 h2 => validB_append h1 h2
  have hrr : validB p = true → validB q = true → p.length + q.length ≤ 60 → thenR p q = (p ++ q, true) := fun h1 h2 h3 => by rw [thenR, if_pos ⟨h1, h2, h3⟩]
  generalize p ++ q = r at ho2 hvall hrr
  have Hvall := Lib.hid hvall; clear hvall
  have Hrr := Lib.hid hrr; clear hrr
  have hlo := ho2.ints
  have Ho2 := Lib.hid ho2
  have Hb2 := Lib.hid hb2
  clear ho2 hb2
  obtain ⟨A2, c2, rfl, hi2, _⟩ := hlo
  have HI2 := Lib.hid hi2; clear hi2
  have HP2 := Lib.hid (HP.out.step Hb2.out)
  have HQ2 := Lib.hid (HQ.out.step Hb2.out)
  have hl2 : r.length ≤ 9223372036854775807 := HI2.out.len
  have Hret : Hid (∀ w', Below w2.heap.size w2 w' → Below w.heap.size w w') := Lib.hid (fun w' h => below_after Hb2.out h)
  rcases vp with _ | _
  · have HR : Hid (thenR p q = ([], false)) := Lib.hid (by rw [thenR, if_neg (by rw [Hvp.out]; simp)])
    go_wp2_with fail
    refine (specValid_any A c p _ HP2.out).mono ?_
    rw [Hvp.out]
    rintro e w' ⟨rfl, rfl⟩
    go_wp2_with fail
    go_ret2
    rw [HR.out]
    exact ⟨_, rfl, (⟨(lit_own _ [] (by simp)), by simp⟩ : Own _ _ _ []).mono Hb2.out.size, Hret.out _ ((Below.refl _ _).alloc (Nat.le_refl _) _)⟩
  · rcases vq with _ | _
    · have HR : Hid (thenR p q = ([], false)) := Lib.hid (by rw [thenR, if_neg (by rw [Hvq.out]; simp)])
      go_wp2_with fail
      refine (specValid_any A c p _ HP2.out).mono ?_
      rw [Hvp.out]
      rintro e w' ⟨rfl, rfl⟩
      go_wp2_with fail
      refine (specValid_any A' c' q _ HQ2.out).mono ?_
      rw [Hvq.out]
      rintro e w' ⟨rfl, rfl⟩
      go_wp2_with fail
      go_ret2
      rw [HR.out]
      exact ⟨_, rfl, (⟨(lit_own _ [] (by simp)), by simp⟩ : Own _ _ _ []).mono Hb2.out.size, Hret.out _ ((Below.refl _ _).alloc (Nat.le_refl _) _)⟩
    · generalize hvl : decide (p.length + q.length ≤ 60) = b
      have Hvl := Lib.hid hvl; clear hvl
      have Hvpq : Hid (validB r = b) := Lib.hid ((Hvall.out Hvp.out Hvq.out).trans Hvl.out)
      rcases b with _ | _
      all_goals
        go_wp2_with fail
        refine (specValid_any A c p _ HP2.out).mono ?_
        rw [Hvp.out]
        rintro e w' ⟨rfl, rfl⟩
        go_wp2_with fail
        refine (specValid_any A' c' q _ HQ2.out).mono ?_
        rw [Hvq.out]
        rintro e w' ⟨rfl, rfl⟩
        go_wp2_with fail
        refine (specValid_any A2 c2 r _ HI2.out).mono ?_
        rw [Hvpq.out]
        rintro e w' ⟨rfl, rfl⟩
        go_wp2_with fail
        go_ret2
      · have HR : thenR p q = ([], false) := by rw [thenR, if_neg (by have := of_decide_eq_false Hvl.out; exact fun h => this h.2.2)]
        rw [HR]
        exact ⟨_, rfl, (⟨(lit_own _ [] (by simp)), by simp⟩ : Own _ _ _ []).mono Hb2.out.size, Hret.out _ ((Below.refl _ _).alloc (Nat.le_refl _) _)⟩
      · rw [Hrr.out Hvp.out Hvq.out (of_decide_eq_true Hvl.out)]
        exact ⟨_, rfl, Ho2.out, Hb2.out⟩

theorem specQuote_any (A : Option Addr) (c : Nat) (p : List Int) (w : World) (hp : Ints w A p) (hl : p.length ≤ 1048576) :
    Calls Try.prog 23 #[.slice A p.length c] w fun e w' => ∃ v, e = .returned (.tuple #[v, .bool (quoteR p).2]) ∧ Own w' w.heap.size v (quoteR p).1 ∧ Below w.heap.size w w' := by
  have hlp := hp.len
  have HP := Lib.hid hp; clear hp
  generalize hvp : validB p = vp
  have Hvp := Lib.hid hvp; clear hvp
  have L0 := lit_own w [1012] (by simp)
  simp only [List.map_nil, List.map_cons, List.length_nil, List.length_cons] at L0
  have Hwf : Hid (∀ z ∈ 1012 :: (p ++ [1013]), InK .i64 z) := Lib.hid (by
    intro z hz
    simp only [List.mem_cons, List.mem_append, List.not_mem_nil, or_false] at hz
    rcases hz with rfl | h | rfl
    · exact wf_small _ (by omega)
    · exact HP.out.wf z h
    · exact wf_small _ (by omega))
  go_enter Try.func23, Try.ntmps23
  go_wp2_with (at_builtin; refine wpList_append_ints rfl (.tmp 5) (.tmp 6) _ rfl w.heap.size 3 .i64 8 Try.underlying23 intInfo (Nat.le_refl _) _ [1012] rfl L0 (w.heap.size + 1) A p c rfl ((HP.out.alloc (Nat.le_refl _) _).mono (by omega)) (by simp; omega) (by simp) ?_)
  intro v1 w1 hown1 hg1 _
  have hb1 : Below w.heap.size w w1 := ((Below.refl w.heap.size w).alloc (Nat.le_refl _) _).grown hg1 (by simp) (by intro k hk; simp [Value.ownBlock] at hk; omega)
  have hown1' : w1.ownsRow w.heap.size 3 1 v1 ([1012] ++ p).length (([1012] ++ p).map (Value.int .i64)) := by simpa using hown1
  have Hown1 := Lib.hid hown1'
  clear hown1'
  have Hb1 := Lib.hid hb1
  have Hsz := Lib.hid hb1.size
  clear hown1 hg1 hb1 L0
  have L1 := lit_own w1 [1013] (by simp)
  simp only [List.map_nil, List.map_cons, List.length_nil, List.length_cons] at L1
  have I1 : IntsK .i64 (w1.alloc (.cells [Value.int .i64 1013].toArray 3)) (w1.heap.size + 1) (some ⟨w1.heap.size, 0, none⟩) [1013] := by
    obtain ⟨A1, c1, he, hi, _⟩ := (⟨L1, by intro z hz; simp at hz; subst hz; exact wf_small _ (by omega)⟩ : Own _ _ _ [1013]).ints
    cases he
    simpa using hi.mono (B' := w1.heap.size + 1) (by simp)
  have HO := Lib.hid (Hown1.out.alloc (.cells [Value.int .i64 1013].toArray 3))
  clear L1
  go_wp2_with (at_builtin; refine wpList_append_ints rfl (.tmp 7) (.tmp 8) _ rfl w.heap.size 3 .i64 8 Try.underlying23 intInfo (Nat.le_refl _) _ ([1012] ++ p) rfl HO.out (w1.heap.size + 1) _ [1013] 1 rfl I1 (by simp; omega) (by have := Hsz.out; simp; omega) ?_)
  intro v2 w2 hown2 hg2 _
  have hb2 : Below w.heap.size w w2 := (Hb1.out.alloc Hsz.out _).grown hg2 (by have := Hsz.out; simp; omega) (fun g hg => (Hown1.out.lt g hg).1)
  have ho2 : Own w2 w.heap.size v2 (1012 :: (p ++ [1013])) := ⟨by simpa using hown2, Hwf.out⟩
  clear hown2 hg2 Hown1 Hb1 Hwf Hsz I1 HO
  have hvall : validB p = true → validB (1012 :: (p ++ [1013])) = decide (p.length + 2 ≤ 60) := fun h1 => validB_quote h1
  have hrr : validB p = true → p.length + 2 ≤ 60 → quoteR p = (1012 :: (p ++ [1013]), true) := fun h1 h3 => by rw [quoteR, if_pos ⟨h1, h3⟩]
  generalize 1012 :: (p ++ [1013]) = r at ho2 hvall hrr
  have Hvall := Lib.hid hvall; clear hvall
  have Hrr := Lib.hid hrr; clear hrr
  have hlo := ho2.ints
  have Ho2 := Lib.hid ho2
  have Hb2 := Lib.hid hb2
  clear ho2 hb2
  obtain ⟨A2, c2, rfl, hi2, _⟩ := hlo
  have HI2 := Lib.hid hi2; clear hi2
  have HP2 := Lib.hid (HP.out.step Hb2.out)
  have hl2 : r.length ≤ 9223372036854775807 := HI2.out.len
  have Hret : Hid (∀ w', Below w2.heap.size w2 w' → Below w.heap.size w w') := Lib.hid (fun w' h => below_after Hb2.out h)
  rcases vp with _ | _
  · have HR : Hid (quoteR p = ([], false)) := Lib.hid (by rw [quoteR, if_neg (by rw [Hvp.out]; simp)])
    go_wp2_with fail
    refine (specValid_any A c p _ HP2.out).mono ?_
    rw [Hvp.out]
    rintro e w' ⟨rfl, rfl⟩
    go_wp2_with fail
    go_ret2
    rw [HR.out]
    exact ⟨_, rfl, (⟨(lit_own _ [] (by simp)), by simp⟩ : Own _ _ _ []).mono Hb2.out.size, Hret.out _ ((Below.refl _ _).alloc (Nat.le_refl _) _)⟩
  · generalize hvl : decide (p.length + 2 ≤ 60) = b
    have Hvl := Lib.hid hvl; clear hvl
    have Hvpq : Hid (validB r = b) := Lib.hid ((Hvall.out Hvp.out).trans Hvl.out)
    rcases b with _ | _
    all_goals
      go_wp2_with fail
      refine (specValid_any A c p _ HP2.out).mono ?_
      rw [Hvp.out]
      rintro e w' ⟨rfl, rfl⟩
      go_wp2_with fail
      refine (specValid_any A2 c2 r _ HI2.out).mono ?_
      rw [Hvpq.out]
      rintro e w' ⟨rfl, rfl⟩
      go_wp2_with fail
      go_ret2
    · have HR : quoteR p = ([], false) := by rw [quoteR, if_neg (by have := of_decide_eq_false Hvl.out; exact fun h => this h.2)]
      rw [HR]
      exact ⟨_, rfl, (⟨(lit_own _ [] (by simp)), by simp⟩ : Own _ _ _ []).mono Hb2.out.size, Hret.out _ ((Below.refl _ _).alloc (Nat.le_refl _) _)⟩
    · rw [Hrr.out Hvp.out (of_decide_eq_true Hvl.out)]
      exact ⟨_, rfl, Ho2.out, Hb2.out⟩
end Go.Proofs.Ytabjlloohcnijaa
