/- covers of the program, at every two terms: what the letters stand for then. -/
import Derived.Test.YtceekfoacgoalaaQe
namespace Go.Proofs.Ytceekfoacgoalaa
set_option maxRecDepth 100000
open Go.RowKit Go.WideShapes Go.Deep

/-- The letters' terms M of the one effect stand for what σ says, with terms of the other one (its letters' terms: N). -/
structure Cov (M N : Int × Int → Nat → Prop) (σ : Sbt) (w : World) : Prop where
  lt : ∀ kn b, M kn b → ∃ q, Blk w b #[.int .i64 kn.1, .int .i64 kn.2, .slice none 0 0, .pointer q, .int .i64 0] 86 ∧ (σ kn = none → q = none) ∧ ∀ T, σ kn = some T → Sk w (fun _ => True) N T q
  sp : ∀ kn b, N kn b → LtB w b kn
/-- What does not belong to the letters' terms M is as it was. -/
structure Frm (lo : Nat) (M : Int × Int → Nat → Prop) (w w' : World) : Prop where
  low : Below lo w w'
  keep : ∀ k, k < w.heap.size → (∀ kn, ¬ M kn k) → w'.heap[k]? = w.heap[k]?
theorem Frm.trans {lo : Nat} {M : Int × Int → Nat → Prop} {a b c : World} (h : Frm lo M a b) (h2 : Frm lo M b c) : Frm lo M a c :=
  ⟨h.low.trans h2.low, fun k hk hm => (h2.keep k (by have := h.low.size; omega) hm).trans (h.keep k hk hm)⟩
theorem Frm.of_below {lo : Nat} (M : Int × Int → Nat → Prop) {w w' : World} (hb : Below w.heap.size w w') (hl : lo ≤ w.heap.size) : Frm lo M w w' := ⟨hb.mono hl, fun k hk _ => hb.block k hk⟩
/-- M's terms are letters' terms at w. -/
def LetM (M : Int × Int → Nat → Prop) (w : World) : Prop := ∀ kn b, M kn b → (kn.1 = 1 ∨ kn.1 = 3) ∧ ∃ q, Blk w b #[.int .i64 kn.1, .int .i64 kn.2, .slice none 0 0, .pointer q, .int .i64 0] 86
theorem LetM.node {M : Int × Int → Nat → Prop} {w : World} (h : LetM M w) {b : Nat} {z : Int} {c1 c2 c3 c4 : Value} (hb : Blk w b #[.int .i64 z, c1, c2, c3, c4] 86) (hz : ¬ (z = 1 ∨ z = 3)) : ∀ kn, ¬ M kn b := fun kn hm => by
  obtain ⟨h1, q, h2⟩ := h kn b hm
  have e0 := h2.cell 0
  rw [hb.cell 0] at e0
  simp at e0
  exact hz (by rw [e0]; exact h1)
theorem LetM.part {M : Int × Int → Nat → Prop} {w : World} (h : LetM M w) {b : Nat} {cs : Array Value} (hb : Blk w b cs 49) : ∀ kn, ¬ M kn b := fun kn hm => by
  obtain ⟨_, q, h2⟩ := h kn b hm
  exact blk_kind h2 hb (by decide) rfl
theorem Sk.frm {lo : Nat} {M M0 : Int × Int → Nat → Prop} {w w' : World} {T : Ty} {p : Option Addr} (h : Sk w (fun _ => True) M0 T p) (hf : Frm lo M w w') (hm : LetM M w) : Sk w' (fun _ => True) M0 T p := by
  induction T generalizing p with
  | num => obtain ⟨b, e, _, h2⟩ := h; exact ⟨b, e, trivial, (hf.keep b h2.lt (hm.node h2 (by decide))).trans h2⟩
  | any n => exact h
  | rest n => exact h
  | prog S T ihs iht => obtain ⟨b, g, q, r, e, _, _, h3, h4, h5, h6⟩ := h; exact ⟨b, g, q, r, e, trivial, trivial, (hf.keep b h3.lt (hm.node h3 (by decide))).trans h3, (hf.keep g h4.lt (hm.part h4)).trans h4, ihs h5, iht h6⟩
  | put S T ihs iht => obtain ⟨b, g, q, r, e, _, _, h3, h4, h5, h6⟩ := h; exact ⟨b, g, q, r, e, trivial, trivial, (hf.keep b h3.lt (hm.node h3 (by decide))).trans h3, (hf.keep g h4.lt (hm.part h4)).trans h4, ihs h5, iht h6⟩
theorem Cov.letM {M N : Int × Int → Nat → Prop} {σ : Sbt} {w : World} (h : Cov M N σ w) (hk : ∀ kn b, M kn b → kn.1 = 1 ∨ kn.1 = 3) : LetM M w := fun kn b hm => ⟨hk kn b hm, by obtain ⟨q, h1, _⟩ := h.lt kn b hm; exact ⟨q, h1⟩⟩
theorem Cov.step {M N : Int × Int → Nat → Prop} {σ : Sbt} {w w' : World} (h : Cov M N σ w) (hb : Below w.heap.size w w') : Cov M N σ w' :=
  ⟨fun kn b hm => by obtain ⟨q, h1, h2, h3⟩ := h.lt kn b hm; exact ⟨q, h1.below hb h1.lt, h2, fun T hT => (h3 T hT).keep (fun k _ hk => ⟨hb.block k hk, trivial⟩) fun _ _ h => h⟩, fun kn b hm => (h.sp kn b hm).below hb (h.sp kn b hm).lt⟩
/-- What covers leaves. -/
def CovQ (lo : Nat) (M N : Int × Int → Nat → Prop) (S T : Ty) (σ : Sbt) (w : World) (y : Bool) (w' : World) : Prop :=
  Frm lo M w w' ∧ (y = false → covT S T σ = none) ∧ (y = true → ∃ τ, covT S T σ = some τ ∧ Cov M N τ w')
theorem covers_ty (lo : Nat) (M N : Int × Int → Nat → Prop) (hkd : ∀ kn b, M kn b → lo ≤ b ∧ (kn.1 = 1 ∨ kn.1 = 3)) (hfn : ∀ kn b b', M kn b → M kn b' → b = b') (hdis : ∀ kn kn' b, M kn b → ¬ N kn' b) (S : Ty) :
    ∀ (T : Ty) (b : Bool) (p q : Option Addr) (σ : Sbt) (w : World), S.ok b → T.ok b → T.nums.length ≤ 150 → σ.ok → lo ≤ w.heap.size → Sk w (fun _ => True) M S p → Sk w (fun _ => True) N T q → Cov M N σ w →
    Calls Try.prog 39 #[.pointer p, .pointer q] w fun e w' => ∃ y, e = .returned (.bool y) ∧ CovQ lo M N S T σ w y w' := by
  -- a letter
  have letter : ∀ (k n : Int) (T : Ty) (b : Bool) (d : Nat) (q : Option Addr) (σ : Sbt) (w : World) (S : Ty), (S = .any n ∧ k = 1 ∧ b = false ∨ S = .rest n ∧ k = 3 ∧ b = true) → M (k, n) d → T.ok b → T.nums.length ≤ 150 → σ.ok → lo ≤ w.heap.size → Sk w (fun _ => True) N T q → Cov M N σ w →
      Calls Try.prog 39 #[.pointer (some ⟨d, 0, none⟩), .pointer q] w fun e w' => ∃ y, e = .returned (.bool y) ∧ CovQ lo M N S T σ w y w' := by
    intro k n T b d q σ w S hS hm hT hl hσ hlo hq hc
    have hk : k = 1 ∨ k = 3 := (hkd _ _ hm).2
    have hcov : covT S T σ = match σ (k, n) with | none => some (σ.set (k, n) T) | some v => if eqTy v T = true then some σ else none := by
      rcases hS with ⟨rfl, rfl, _⟩ | ⟨rfl, rfl, _⟩ <;> rfl
    obtain ⟨q0, hb, h1, h2⟩ := hc.lt _ _ hm
    rcases hs : σ (k, n) with _ | V
    · obtain rfl := h1 hs
      rw [hs] at hcov
      have hqn := hq.some
      obtain ⟨qa, rfl⟩ := Option.ne_none_iff_exists'.1 hqn
      obtain ⟨e, rfl⟩ : ∃ e, qa = ⟨e, 0, none⟩ := by
        cases T with
        | num => obtain ⟨b, h, _⟩ := hq; cases h; exact ⟨_, rfl⟩
        | any n => obtain ⟨b, h, _⟩ := hq; cases h; exact ⟨_, rfl⟩
        | rest n => obtain ⟨b, h, _⟩ := hq; cases h; exact ⟨_, rfl⟩
        | prog S T => obtain ⟨b, g, q, r, h, _⟩ := hq; cases h; exact ⟨_, rfl⟩
        | put S T => obtain ⟨b, g, q, r, h, _⟩ := hq; cases h; exact ⟨_, rfl⟩
      refine (covers_new d e k n _ _ (fun w' => Frm lo M w w' ∧ Cov M N (σ.set (k, n) T) w') w hb hk fun X hX => ?_).mono ?_
      · have hlX : lo ≤ X.heap.size := by have := hX.size; omega
        have hbX := hb.below hX hb.lt
        have hcX := hc.step hX
        have hqX : Sk X (fun _ => True) N T (some ⟨e, 0, none⟩) := hq.keep (fun k _ hk => ⟨hX.block k hk, trivial⟩) fun _ _ h => h
        have hne : ∀ j, j ≠ d → (X.setCell ⟨d, 3, none⟩ (.pointer (some ⟨e, 0, none⟩))).heap[j]? = X.heap[j]? := fun j hj => Below.heap_setCell _ _ _ _ (by simpa using hj)
        have hF : Frm lo M X (X.setCell ⟨d, 3, none⟩ (.pointer (some ⟨e, 0, none⟩))) := ⟨(Below.refl _ _).setCell (hkd _ _ hm).1 _, fun j _ hj => hne j (fun e => hj (k, n) (by rw [e]; exact hm))⟩
        have hLM : LetM M X := hcX.letM fun kn b h => (hkd kn b h).2
        have hC : Cov M N (σ.set (k, n) T) (X.setCell ⟨d, 3, none⟩ (.pointer (some ⟨e, 0, none⟩))) := by
          refine ⟨fun kn b' hm' => ?_, fun kn b' hm' => ?_⟩
          · by_cases hkn : kn = (k, n)
            · subst hkn
              obtain rfl := hfn _ _ _ hm hm'
              have hs2 := hbX.set 3 (.pointer (some ⟨e, 0, none⟩))
              simp only [List.setIfInBounds_toArray, List.set_cons_succ, List.set_cons_zero] at hs2
              refine ⟨some ⟨e, 0, none⟩, hs2, fun h => ?_, fun U hU => ?_⟩
              · simp [Sbt.set] at h
              · have : T = U := by simpa [Sbt.set] using hU
                subst this
                exact hqX.frm hF hLM
            · obtain ⟨q1, k1, k2, k3⟩ := hcX.lt kn b' hm'
              have hbd : b' ≠ d := fun e1 => hkn (by
                subst e1
                have e2 := k1
                unfold Blk at e2 hbX
                rw [hbX] at e2
                simp at e2
                exact Prod.ext e2.1.symm e2.2.1.symm)
              refine ⟨q1, (hne b' hbd).trans k1, fun h => k2 (by simpa [Sbt.set, hkn] using h), fun U hU => (k3 U (by simpa [Sbt.set, hkn] using hU)).frm hF hLM⟩
          · have := hcX.sp kn b' hm'
            exact (hne b' (fun e1 => hdis (k, n) kn d hm (by rw [← e1]; exact hm'))).trans this
        refine (equals_ty N T T b _ _ _ hT hT (hqX.frm hF hLM) (hqX.frm hF hLM) hC.sp).mono ?_
        rintro e9 w' ⟨rfl, hb9⟩
        have : eqTy T T = true := (eqTy_iff T T).2 rfl
        rw [this]
        exact ⟨rfl, ((Frm.of_below M hX hlo).trans hF).trans (Frm.of_below M hb9 (by have := hF.low.size; omega)), hC.step hb9⟩
      · rintro e9 w' ⟨rfl, hF, hC⟩
        exact ⟨true, rfl, hF, ⟨fun h => (by cases h), fun _ => ⟨_, hcov, hC⟩⟩⟩
    · rw [hs] at hcov
      dsimp only at hcov
      have hV := h2 V hs
      have hqn := hV.some
      obtain ⟨a, rfl⟩ := Option.ne_none_iff_exists'.1 hqn
      have hVo : V.ok b := by
        rcases hS with ⟨_, rfl, rfl⟩ | ⟨_, rfl, rfl⟩
        · exact ((hσ n V).1 hs).1
        · exact ((hσ n V).2 hs).1
      refine (covers_old d a q k n _ _ (eqTy V T) w hb hk fun X hX => equals_ty N V T b _ _ X hVo hT (hV.keep (fun k _ hk => ⟨hX.block k hk, trivial⟩) fun _ _ h => h) (hq.keep (fun k _ hk => ⟨hX.block k hk, trivial⟩) fun _ _ h => h) (hc.step hX).sp).mono ?_
      rintro e9 w' ⟨rfl, hb9⟩
      exact ⟨_, rfl, Frm.of_below M hb9 hlo, ⟨fun h => by rw [hcov, h]; rfl, fun h => ⟨σ, by rw [hcov, h]; rfl, hc.step hb9⟩⟩⟩
  have two : ∀ (k : Int) (A B C D S T : Ty) (b b2 : Bool) (d e g h : Nat) (q0 q1 r0 r1 : Option Addr) (σ : Sbt) (w : World),
      (∀ σ, covT S T σ = (covT A C σ).bind (covT B D)) →
      (∀ (T : Ty) (b : Bool) (p q : Option Addr) (σ : Sbt) (w : World), A.ok b → T.ok b → T.nums.length ≤ 150 → σ.ok → lo ≤ w.heap.size → Sk w (fun _ => True) M A p → Sk w (fun _ => True) N T q → Cov M N σ w → Calls Try.prog 39 #[.pointer p, .pointer q] w fun e w' => ∃ y, e = .returned (.bool y) ∧ CovQ lo M N A T σ w y w') →
      (∀ (T : Ty) (b : Bool) (p q : Option Addr) (σ : Sbt) (w : World), B.ok b → T.ok b → T.nums.length ≤ 150 → σ.ok → lo ≤ w.heap.size → Sk w (fun _ => True) M B p → Sk w (fun _ => True) N T q → Cov M N σ w → Calls Try.prog 39 #[.pointer p, .pointer q] w fun e w' => ∃ y, e = .returned (.bool y) ∧ CovQ lo M N B T σ w y w') →
      ¬ (k = 1 ∨ k = 3) → A.ok b → B.ok b2 → C.ok b → D.ok b2 → C.nums.length + D.nums.length ≤ 149 → σ.ok → lo ≤ w.heap.size →
      Blk w d #[.int .i64 k, .int .i64 0, .slice (some ⟨g, 0, none⟩) 2 2, .pointer none, .int .i64 0] 86 → Blk w g #[.pointer q0, .pointer q1] 49 → Blk w e #[.int .i64 k, .int .i64 0, .slice (some ⟨h, 0, none⟩) 2 2, .pointer none, .int .i64 0] 86 → Blk w h #[.pointer r0, .pointer r1] 49 →
      Sk w (fun _ => True) M A q0 → Sk w (fun _ => True) M B q1 → Sk w (fun _ => True) N C r0 → Sk w (fun _ => True) N D r1 → Cov M N σ w →
      Calls Try.prog 39 #[.pointer (some ⟨d, 0, none⟩), .pointer (some ⟨e, 0, none⟩)] w fun e w' => ∃ y, e = .returned (.bool y) ∧ CovQ lo M N S T σ w y w' := by
    intro k A B C D S T b b2 d e g h q0 q1 r0 r1 σ w hcov ihA ihB hk hA hB hC hD hl hσ hlo hd hg he hh sA sB sC sD hc
    refine covers_yes d e k 0 0 _ _ 2 2 2 2 _ _ _ _ (fun y w' => CovQ lo M N S T σ w y w') w hd he hk fun X hX => ?_
    have hlX : lo ≤ X.heap.size := by have := hX.size; omega
    have st : ∀ {M0 : Int × Int → Nat → Prop} {T : Ty} {p : Option Addr} {Y : World}, Sk w (fun _ => True) M0 T p → Below w.heap.size w Y → Sk Y (fun _ => True) M0 T p := fun hs hb => hs.keep (fun k _ hk => ⟨hb.block k hk, trivial⟩) fun _ _ h => h
    have hcX := hc.step hX
    have hLM : LetM M X := hcX.letM fun kn b h => (hkd kn b h).2
    have kd := hd.below hX hd.lt
    have kg := hg.below hX hg.lt
    have ke := he.below hX he.lt
    have kh := hh.below hX hh.lt
    have fix : ∀ {Y : World}, Frm lo M X Y → Blk Y d #[.int .i64 k, .int .i64 0, .slice (some ⟨g, 0, none⟩) 2 2, .pointer none, .int .i64 0] 86 ∧ Blk Y g #[.pointer q0, .pointer q1] 49 ∧ Blk Y e #[.int .i64 k, .int .i64 0, .slice (some ⟨h, 0, none⟩) 2 2, .pointer none, .int .i64 0] 86 ∧ Blk Y h #[.pointer r0, .pointer r1] 49 := fun hF =>
      ⟨(hF.keep d kd.lt (hLM.node kd hk)).trans kd, (hF.keep g kg.lt (hLM.part kg)).trans kg, (hF.keep e ke.lt (hLM.node ke hk)).trans ke, (hF.keep h kh.lt (hLM.part kh)).trans kh⟩
    refine (eqf_two_c g h q0 q1 r0 r1 X (fun Y => Frm lo M X Y ∧ ∃ τ, covT A C σ = some τ ∧ Cov M N τ Y) (fun y Y => Frm lo M X Y ∧ CovQ lo M N S T σ w y Y) ?_ ?_ ?_).mono ?_
    · rintro Y (rfl | ⟨hY, _⟩)
      · exact ⟨kg, kh⟩
      · exact ⟨(fix hY).2.1, (fix hY).2.2.2⟩
    · refine (ihA C b q0 r0 σ X hA hC (by omega) hσ hlX (st sA hX) (st sC hX) hcX).mono ?_
      rintro e' Y ⟨y, rfl, hF, h0, h1⟩
      refine ⟨y, rfl, fun hy => ⟨hF, (Frm.of_below M hX hlo).trans hF, ⟨fun _ => by rw [hcov, h0 hy]; rfl, fun h => by cases h⟩⟩, fun hy => ⟨hF, h1 hy⟩⟩
    · rintro Y ⟨hF, τ, hτ, hcY⟩
      have hτo := covT_ok hA hC (by omega) hσ hτ
      refine (ihB D b2 q1 r1 τ Y hB hD (by omega) hτo (by have := hF.low.size; omega) ((st sB hX).frm hF hLM) ((st sD hX).frm hF hLM) hcY).mono ?_
      rintro e' Z ⟨y, rfl, hF2, h0, h1⟩
      have hF3 := hF.trans hF2
      refine ⟨y, rfl, hF3, (Frm.of_below M hX hlo).trans hF3, ⟨fun hy => by rw [hcov, hτ]; exact h0 hy, fun hy => ?_⟩⟩
      obtain ⟨ρ, k1, k2⟩ := h1 hy
      exact ⟨ρ, by rw [hcov, hτ]; exact k1, k2⟩
    · rintro e' Z ⟨y, rfl, hF, hQ⟩
      obtain ⟨f1, _, f3, _⟩ := fix hF
      exact ⟨y, rfl, hQ, f1.cell 0, f1.cell 2, f3.cell 0, f3.cell 2⟩
  have no : ∀ (S T : Ty) (k k' n n' : Int) (c2 c3 c4 d2 d3 d4 : Value) (d e : Nat) (σ : Sbt) (w : World), covT S T σ = none → lo ≤ w.heap.size → Blk w d #[.int .i64 k, .int .i64 n, c2, c3, c4] 86 → Blk w e #[.int .i64 k', .int .i64 n', d2, d3, d4] 86 → ¬ (k = 1 ∨ k = 3) → k ≠ k' →
      Calls Try.prog 39 #[.pointer (some ⟨d, 0, none⟩), .pointer (some ⟨e, 0, none⟩)] w fun e w' => ∃ y, e = .returned (.bool y) ∧ CovQ lo M N S T σ w y w' := by
    intro S T k k' n n' c2 c3 c4 d2 d3 d4 d e σ w hcov hlo hd he hk hne
    refine (covers_no d e k k' n n' _ _ _ _ _ _ w hd he hk hne).mono ?_
    rintro e' w' ⟨rfl, hb⟩
    exact ⟨false, rfl, Frm.of_below M hb hlo, ⟨fun _ => hcov, fun h => by cases h⟩⟩
  induction S with
  | num =>
    intro T b p q σ w hS hT hl hσ hlo hp hq hc
    cases b with
    | true => cases hS
    | false =>
    obtain ⟨d, rfl, _, hd⟩ := hp
    cases T with
    | num =>
      obtain ⟨e, rfl, _, he⟩ := hq
      refine covers_yes d e 0 0 0 _ _ 0 0 0 0 _ _ _ _ (fun y w' => CovQ lo M N .num .num σ w y w') w hd he (by decide) fun X hX => ?_
      refine (eqf_nil_c X).mono ?_
      rintro e' Y ⟨rfl, rfl⟩
      have kd := hd.below hX hd.lt
      have ke := he.below hX he.lt
      exact ⟨true, rfl, ⟨Frm.of_below M hX hlo, ⟨fun h => (by cases h), fun _ => ⟨σ, rfl, hc.step hX⟩⟩⟩, kd.cell 0, kd.cell 2, ke.cell 0, ke.cell 2⟩
    | any m => obtain ⟨e, rfl, he⟩ := hq; exact no _ _ 0 1 0 m _ _ _ _ _ _ d e σ w rfl hlo hd (hc.sp _ _ he) (by decide) (by decide)
    | prog C D => obtain ⟨e, h, r0, r1, rfl, _, _, he, _⟩ := hq; exact no _ _ 0 2 0 0 _ _ _ _ _ _ d e σ w rfl hlo hd he (by decide) (by decide)
    | rest m => cases hT
    | put C D => cases hT
  | any n =>
    intro T b p q σ w hS hT hl hσ hlo hp hq hc
    obtain ⟨d, rfl, hm⟩ := hp
    have hb : b = false := by cases b with | false => rfl | true => cases hS
    exact letter 1 n T b d q σ w _ (.inl ⟨rfl, rfl, hb⟩) hm hT hl hσ hlo hq hc
  | rest n =>
    intro T b p q σ w hS hT hl hσ hlo hp hq hc
    obtain ⟨d, rfl, hm⟩ := hp
    have hb : b = true := by cases b with | true => rfl | false => cases hS
    exact letter 3 n T b d q σ w _ (.inr ⟨rfl, rfl, hb⟩) hm hT hl hσ hlo hq hc
  | prog A B ihA ihB =>
    intro T b p q σ w hS hT hl hσ hlo hp hq hc
    cases b with
    | true => cases hS
    | false =>
    obtain ⟨d, g, q0, q1, rfl, _, _, hd, hg, sA, sB⟩ := hp
    cases T with
    | num => obtain ⟨e, rfl, _, he⟩ := hq; exact no _ _ 2 0 0 0 _ _ _ _ _ _ d e σ w rfl hlo hd he (by decide) (by decide)
    | any m => obtain ⟨e, rfl, he⟩ := hq; exact no _ _ 2 1 0 m _ _ _ _ _ _ d e σ w rfl hlo hd (hc.sp _ _ he) (by decide) (by decide)
    | prog C D =>
      obtain ⟨e, h, r0, r1, rfl, _, _, he, hh, sC, sD⟩ := hq
      exact two 2 A B C D _ _ true true d e g h q0 q1 r0 r1 σ w (fun _ => rfl) ihA ihB (by decide) hS.1 hS.2 hT.1 hT.2 (by simp [Ty.nums] at hl; omega) hσ hlo hd hg he hh sA sB sC sD hc
    | rest m => cases hT
    | put C D => cases hT
  | put A B ihA ihB =>
    intro T b p q σ w hS hT hl hσ hlo hp hq hc
    cases b with
    | false => cases hS
    | true =>
    obtain ⟨d, g, q0, q1, rfl, _, _, hd, hg, sA, sB⟩ := hp
    cases T with
    | num => cases hT
    | any m => cases hT
    | prog C D => cases hT
    | rest m => obtain ⟨e, rfl, he⟩ := hq; exact no _ _ 4 3 0 m _ _ _ _ _ _ d e σ w rfl hlo hd (hc.sp _ _ he) (by decide) (by decide)
    | put C D =>
      obtain ⟨e, h, r0, r1, rfl, _, _, he, hh, sC, sD⟩ := hq
      exact two 4 A B C D _ _ true false d e g h q0 q1 r0 r1 σ w (fun _ => rfl) ihA ihB (by decide) hS.1 hS.2 hT.1 hT.2 (by simp [Ty.nums] at hl; omega) hσ hlo hd hg he hh sA sB sC sD hc
end Go.Proofs.Ytceekfoacgoalaa
