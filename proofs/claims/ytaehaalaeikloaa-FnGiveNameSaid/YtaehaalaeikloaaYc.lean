/- Chapter 9, pure: words that stand twice. -/
import Derived.Test.YtaehaalaeikloaaYb
namespace Go.Proofs.Ytaehaalaeikloaa
set_option maxRecDepth 100000
open Go.RowKit Go.WideShapes

def bgB (ws row : List Int) : Bool := decide (row.take ws.length = ws)
def standsB (ws : List Int) : List Int → Bool
  | [] => false
  | z :: r => bgB ws (z :: r) || standsB ws r
def repF (ws : List Int) (nm : Int) : Nat → List Int → List Int
  | 0, _ => []
  | _ + 1, [] => []
  | f + 1, z :: r => if bgB ws (z :: r) = true then nm :: repF ws nm f ((z :: r).drop ws.length) else z :: repF ws nm f r
def repR (ws : List Int) (nm : Int) (p : List Int) : List Int := repF ws nm p.length p
def cntF (ws : List Int) : Nat → List Int → Nat
  | 0, _ => 0
  | _ + 1, [] => 0
  | f + 1, z :: r => if bgB ws (z :: r) = true then cntF ws f ((z :: r).drop ws.length) + 1 else cntF ws f r
def cntR (ws p : List Int) : Nat := cntF ws p.length p
theorem repF_fuel {ws : List Int} (hw : 1 ≤ ws.length) (nm : Int) : ∀ (f g : Nat) (p : List Int), p.length ≤ f → p.length ≤ g → repF ws nm f p = repF ws nm g p := by
  intro f
  induction f with
  | zero =>
    intro g p h _
    rw [List.eq_nil_of_length_eq_zero (Nat.le_zero.1 h)]
    cases g <;> rfl
  | succ f ih =>
    intro g p h h'
    rcases p with _ | ⟨z, r⟩
    · cases g <;> rfl
    · rcases g with _ | g
      · simp at h'
      · rw [repF, repF]
        have h1 : r.length ≤ f := by simpa using h
        have h2 : r.length ≤ g := by simpa using h'
        rw [ih g r h1 h2, ih g ((z :: r).drop ws.length) (by rw [List.length_drop, List.length_cons]; omega) (by rw [List.length_drop, List.length_cons]; omega)]
theorem cntF_fuel {ws : List Int} (hw : 1 ≤ ws.length) : ∀ (f g : Nat) (p : List Int), p.length ≤ f → p.length ≤ g → cntF ws f p = cntF ws g p := by
  intro f
  induction f with
  | zero =>
    intro g p h _
    rw [List.eq_nil_of_length_eq_zero (Nat.le_zero.1 h)]
    cases g <;> rfl
  | succ f ih =>
    intro g p h h'
    rcases p with _ | ⟨z, r⟩
    · cases g <;> rfl
    · rcases g with _ | g
      · simp at h'
      · rw [cntF, cntF]
        have h1 : r.length ≤ f := by simpa using h
        have h2 : r.length ≤ g := by simpa using h'
        rw [ih g r h1 h2, ih g ((z :: r).drop ws.length) (by rw [List.length_drop, List.length_cons]; omega) (by rw [List.length_drop, List.length_cons]; omega)]
theorem rep_nil (ws : List Int) (nm : Int) : repR ws nm [] = [] := rfl
theorem rep_hit {ws : List Int} (hw : 1 ≤ ws.length) (nm : Int) {p : List Int} (h : bgB ws p = true) : repR ws nm p = nm :: repR ws nm (p.drop ws.length) := by
  rcases p with _ | ⟨z, r⟩
  · simp [bgB] at h; rw [h] at hw; simp at hw
  · unfold repR
    rw [List.length_cons, repF, if_pos h, repF_fuel hw nm r.length ((z :: r).drop ws.length).length _ (by rw [List.length_drop, List.length_cons]; omega) (Nat.le_refl _)]
theorem rep_miss {ws : List Int} (nm : Int) {z : Int} {r : List Int} (h : bgB ws (z :: r) = false) : repR ws nm (z :: r) = z :: repR ws nm r := by
  unfold repR
  rw [List.length_cons, repF, if_neg (by rw [h]; simp)]
theorem cnt_hit {ws : List Int} (hw : 1 ≤ ws.length) {p : List Int} (h : bgB ws p = true) : cntR ws p = cntR ws (p.drop ws.length) + 1 := by
  rcases p with _ | ⟨z, r⟩
  · simp [bgB] at h; rw [h] at hw; simp at hw
  · unfold cntR
    rw [List.length_cons, cntF, if_pos h, cntF_fuel hw r.length ((z :: r).drop ws.length).length _ (by rw [List.length_drop, List.length_cons]; omega) (Nat.le_refl _)]
theorem cnt_miss {ws : List Int} {z : Int} {r : List Int} (h : bgB ws (z :: r) = false) : cntR ws (z :: r) = cntR ws r := by
  unfold cntR
  rw [List.length_cons, cntF, if_neg (by rw [h]; simp)]
theorem bg_len {ws row : List Int} (h : bgB ws row = true) : ws.length ≤ row.length := by
  have h := of_decide_eq_true h
  have := congrArg List.length h
  rw [List.length_take] at this; omega
theorem bg_split {ws row : List Int} (h : bgB ws row = true) : row = ws ++ row.drop ws.length := by
  have h := of_decide_eq_true h
  conv => lhs; rw [← List.take_append_drop ws.length row, h]
theorem bg_nil {ws : List Int} (hw : 1 ≤ ws.length) : bgB ws [] = false := by
  rcases h : bgB ws [] with _ | _
  · rfl
  · have := bg_len h; rw [List.length_nil] at this; omega
theorem drop_cons' {z : Int} {r : List Int} {a : Nat} (h : 1 ≤ a) : (z :: r).drop a = r.drop (a - 1) := by
  rcases a with _ | a
  · omega
  · rfl
theorem cnt_one {ws : List Int} (hw : 1 ≤ ws.length) : ∀ (n : Nat) (p : List Int) (a : Nat), p.length ≤ n → bgB ws (p.drop a) = true → 1 ≤ cntR ws p := by
  intro n
  induction n with
  | zero =>
    intro p a h hb
    rw [List.eq_nil_of_length_eq_zero (Nat.le_zero.1 h), List.drop_nil, bg_nil hw] at hb; cases hb
  | succ n ih =>
    intro p a h hb
    rcases h0 : bgB ws p with _ | _
    · rcases p with _ | ⟨z, r⟩
      · rw [List.drop_nil, bg_nil hw] at hb; cases hb
      · have ha : 1 ≤ a := by
          rcases a with _ | a
          · rw [List.drop_zero, h0] at hb; cases hb
          · omega
        rw [cnt_miss h0]
        exact ih r (a - 1) (by simpa using h) (by rw [← drop_cons' (z := z) ha]; exact hb)
    · rw [cnt_hit hw h0]; omega
theorem cnt_two {ws : List Int} (hw : 1 ≤ ws.length) : ∀ (n : Nat) (p : List Int) (a b : Nat), p.length ≤ n → bgB ws (p.drop a) = true → a + ws.length ≤ b → bgB ws (p.drop b) = true → 2 ≤ cntR ws p := by
  intro n
  induction n with
  | zero =>
    intro p a b h hb _ _
    rw [List.eq_nil_of_length_eq_zero (Nat.le_zero.1 h), List.drop_nil, bg_nil hw] at hb; cases hb
  | succ n ih =>
    intro p a b h hb hab hbb
    rcases h0 : bgB ws p with _ | _
    · rcases p with _ | ⟨z, r⟩
      · rw [List.drop_nil, bg_nil hw] at hb; cases hb
      · have ha : 1 ≤ a := by
          rcases a with _ | a
          · rw [List.drop_zero, h0] at hb; cases hb
          · omega
        rw [cnt_miss h0]
        exact ih r (a - 1) (b - 1) (by simpa using h) (by rw [← drop_cons' (z := z) ha]; exact hb) (by omega) (by rw [← drop_cons' (z := z) (by omega : 1 ≤ b)]; exact hbb)
    · rw [cnt_hit hw h0]
      have : 1 ≤ cntR ws (p.drop ws.length) := cnt_one hw (p.drop ws.length).length _ (b - ws.length) (Nat.le_refl _) (by rw [List.drop_drop, show ws.length + (b - ws.length) = b from by omega]; exact hbb)
      omega
theorem stands_of_cnt {ws : List Int} : ∀ (n : Nat) (p : List Int), p.length ≤ n → 1 ≤ cntR ws p → standsB ws p = true := by
  intro n
  induction n with
  | zero => intro p h hc; rw [List.eq_nil_of_length_eq_zero (Nat.le_zero.1 h)] at hc; simp [cntR, cntF] at hc
  | succ n ih =>
    intro p h hc
    rcases p with _ | ⟨z, r⟩
    · simp [cntR, cntF] at hc
    · rw [standsB]
      rcases h0 : bgB ws (z :: r) with _ | _
      · rw [cnt_miss h0] at hc
        rw [ih r (by simpa using h) hc]; rfl
      · rfl
theorem stands_iff {ws : List Int} : ∀ {p : List Int}, standsB ws p = true → ∃ a, a < p.length ∧ bgB ws (p.drop a) = true := by
  intro p
  induction p with
  | nil => intro h; cases h
  | cons z r ih =>
    intro h
    rw [standsB, Bool.or_eq_true] at h
    rcases h with h | h
    · exact ⟨0, by simp, by simpa using h⟩
    · obtain ⟨a, h1, h2⟩ := ih h
      exact ⟨a + 1, by simpa using h1, by simpa using h2⟩
theorem cnt_first {ws : List Int} (hw : 1 ≤ ws.length) : ∀ (n : Nat) (p : List Int), p.length ≤ n → 1 ≤ cntR ws p → ∃ a, bgB ws (p.drop a) = true ∧ (∀ y, y < a → bgB ws (p.drop y) = false) ∧ cntR ws p = cntR ws (p.drop (a + ws.length)) + 1 := by
  intro n
  induction n with
  | zero => intro p h hc; rw [List.eq_nil_of_length_eq_zero (Nat.le_zero.1 h)] at hc; simp [cntR, cntF] at hc
  | succ n ih =>
    intro p h hc
    rcases h0 : bgB ws p with _ | _
    · rcases p with _ | ⟨z, r⟩
      · simp [cntR, cntF] at hc
      · rw [cnt_miss h0] at hc
        obtain ⟨a, h1, h2, h3⟩ := ih r (by simpa using h) hc
        refine ⟨a + 1, by simpa using h1, ?_, ?_⟩
        · intro y hy
          rcases y with _ | y
          · simpa using h0
          · simpa using h2 y (by omega)
        · rw [cnt_miss h0, h3, show a + 1 + ws.length = (a + ws.length) + 1 from by omega]; rfl
    · exact ⟨0, by simpa using h0, fun y hy => by omega, by rw [cnt_hit hw h0, Nat.zero_add]⟩
def firstAt (t : Nat → Bool) : Nat → Nat → Option Nat
  | _, 0 => none
  | a, c + 1 => if t a = true then some a else firstAt t (a + 1) c
theorem first_some {t : Nat → Bool} : ∀ {c a x : Nat}, firstAt t a c = some x → a ≤ x ∧ x < a + c ∧ t x = true ∧ ∀ y, a ≤ y → y < x → t y = false := by
  intro c
  induction c with
  | zero => intro a x h; cases h
  | succ c ih =>
    intro a x h
    rw [firstAt] at h
    rcases h0 : t a with _ | _
    · rw [h0] at h
      obtain ⟨h1, h2, h3, h4⟩ := ih (by simpa using h)
      refine ⟨by omega, by omega, h3, fun y hy hyx => ?_⟩
      by_cases hya : y = a
      · rw [hya]; exact h0
      · exact h4 y (by omega) hyx
    · rw [h0] at h
      simp at h; subst h
      exact ⟨Nat.le_refl _, by omega, h0, fun y h1 h2 => by omega⟩
theorem first_none {t : Nat → Bool} : ∀ {c a : Nat}, firstAt t a c = none → ∀ y, a ≤ y → y < a + c → t y = false := by
  intro c
  induction c with
  | zero => intro a _ y h1 h2; omega
  | succ c ih =>
    intro a h y h1 h2
    rw [firstAt] at h
    rcases h0 : t a with _ | _
    · rw [h0] at h
      by_cases hya : y = a
      · rw [hya]; exact h0
      · exact ih (by simpa using h) y (by omega) (by omega)
    · rw [h0] at h; simp at h
theorem first_all {t : Nat → Bool} : ∀ {c a : Nat}, (∀ y, a ≤ y → y < a + c → t y = false) → firstAt t a c = none := by
  intro c
  induction c with
  | zero => intro a _; rfl
  | succ c ih =>
    intro a h
    rw [firstAt, h a (Nat.le_refl _) (by omega)]
    simpa using ih fun y h1 h2 => h y (by omega) (by omega)
theorem first_same {t s : Nat → Bool} {a c : Nat} (h1 : ∀ x, t x = true → s x = true) (h2 : ∀ x, a ≤ x → s x = true → ∃ y, a ≤ y ∧ y ≤ x ∧ t y = true) : firstAt t a c = firstAt s a c := by
  rcases ht : firstAt t a c with _ | x
  · have := first_none ht
    refine (first_all fun y hy hyc => ?_).symm
    rcases hs : s y with _ | _
    · rfl
    · obtain ⟨z, hz1, hz2, hz⟩ := h2 y hy hs
      rw [this z hz1 (by omega)] at hz; cases hz
  · obtain ⟨b1, b2, b3, b4⟩ := first_some ht
    rcases hs : firstAt s a c with _ | y
    · have := first_none hs x b1 b2
      rw [h1 x b3] at this; cases this
    · obtain ⟨c1, c2, c3, c4⟩ := first_some hs
      have hxy : y ≤ x := by
        rcases Nat.lt_or_ge x y with h | h
        · have := c4 x b1 h; rw [h1 x b3] at this; cases this
        · exact h
      obtain ⟨z, hz1, hz2, hz⟩ := h2 y c1 c3
      have : x ≤ z := by
        rcases Nat.lt_or_ge z x with h | h
        · have := b4 z hz1 h; rw [hz] at this; cases this
        · exact h
      congr 1; omega
def wdsR (p : List Int) (many a : Nat) : List Int := (p.drop a).take many
def twI (p : List Int) (many a : Nat) : Bool := decide (a + 2 * many ≤ p.length) && (fitsFrom 0 (wdsR p many a) && standsB (wdsR p many a) (p.drop (a + many)))
def twS (n : Nat) (p : List Int) (many a : Nat) : Bool := decide (a + many ≤ p.length) && (usesB n (wdsR p many a) && decide (2 ≤ cntR (wdsR p many a) p))
def mostAt (t : Nat → Nat → Bool) (c : Nat) : Nat → Option (Nat × Nat)
  | 0 => none
  | 1 => none
  | m + 2 => match firstAt (t (m + 2)) 0 c with
    | some a => some (m + 2, a)
    | none => mostAt t c (m + 1)
def twiceAtR (p : List Int) : Option (Nat × Nat) := mostAt (twI p) (p.length + 1) (p.length / 2)
def twiceR (d : List (List Int)) (p : List Int) : List Int × Bool :=
  if usesOkB d p = true then match twiceAtR p with
    | some (m, a) => (wdsR p m a, true)
    | none => ([], false)
  else ([], false)
theorem wds_len {p : List Int} {m a : Nat} (h : a + m ≤ p.length) : (wdsR p m a).length = m := by
  unfold wdsR; rw [List.length_take, List.length_drop]; omega
theorem wds_all {n : Nat} {p : List Int} (h : p.all (wdB n) = true) (m a : Nat) : (wdsR p m a).all (wdB n) = true := by
  rw [List.all_eq_true] at h ⊢
  intro z hz
  exact h z (List.mem_of_mem_drop (List.mem_of_mem_take hz))
theorem wds_bg {p : List Int} {m a : Nat} (h : a + m ≤ p.length) : bgB (wdsR p m a) (p.drop a) = true := by
  unfold bgB; rw [wds_len h]; exact decide_eq_true rfl
theorem bg_wds {p w : List Int} {a : Nat} (h : bgB w (p.drop a) = true) : wdsR p w.length a = w := of_decide_eq_true h
theorem twI_S {n : Nat} {p : List Int} (hp : usesB n p = true) {m : Nat} (hm : 2 ≤ m) (x : Nat) (h : twI p m x = true) : twS n p m x = true := by
  simp only [twI, twS, Bool.and_eq_true, decide_eq_true_eq] at h ⊢
  obtain ⟨h1, h2, h3⟩ := h
  have hl := wds_len (p := p) (m := m) (a := x) (by omega)
  have hu := hp
  simp only [usesB, Bool.and_eq_true, decide_eq_true_eq] at hu
  refine ⟨by omega, ?_, ?_⟩
  · simp only [usesB, Bool.and_eq_true, decide_eq_true_eq]
    exact ⟨by omega, wds_all hu.2.1 m x, h2⟩
  · obtain ⟨b, _, hb⟩ := stands_iff h3
    exact cnt_two (by omega) p.length p x (x + m + b) (Nat.le_refl _) (wds_bg (by omega)) (by omega) (by rw [← List.drop_drop]; exact hb)
theorem twS_I {n : Nat} {p : List Int} {m : Nat} (hm : 2 ≤ m) (x : Nat) (h : twS n p m x = true) : ∃ y, 0 ≤ y ∧ y ≤ x ∧ twI p m y = true := by
  simp only [twS, Bool.and_eq_true, decide_eq_true_eq] at h
  obtain ⟨h1, h2, h3⟩ := h
  have hl := wds_len h1
  have hb := wds_bg h1
  generalize hw : wdsR p m x = w at *
  obtain ⟨a, a1, a2, a3⟩ := cnt_first (ws := w) (by omega) p.length p (Nat.le_refl _) (by omega)
  have hax : a ≤ x := by
    rcases Nat.lt_or_ge x a with h | h
    · have := a2 x h; rw [hb] at this; cases this
    · exact h
  have hwa : wdsR p m a = w := by rw [← hl]; exact bg_wds a1
  have hst := stands_of_cnt (ws := w) (p.drop (a + w.length)).length (p.drop (a + w.length)) (Nat.le_refl _) (by omega)
  refine ⟨a, Nat.zero_le _, hax, ?_⟩
  simp only [twI, Bool.and_eq_true, decide_eq_true_eq]
  rw [hwa]
  refine ⟨?_, ?_, ?_⟩
  · obtain ⟨b, b1, b2⟩ := stands_iff hst
    have := bg_len b2
    rw [List.length_drop, List.length_drop] at this
    rw [List.length_drop] at b1
    omega
  · simp only [usesB, Bool.and_eq_true] at h2; exact h2.2.2
  · rw [← hl]; exact hst
theorem most_same {n : Nat} {p : List Int} (hp : usesB n p = true) (c : Nat) : ∀ m, mostAt (twI p) c m = mostAt (twS n p) c m := by
  intro m
  induction m with
  | zero => rfl
  | succ m ih =>
    rcases m with _ | m
    · rfl
    · rw [mostAt, mostAt, first_same (t := twI p (m + 2)) (s := twS n p (m + 2)) (fun x hx => twI_S hp (by omega) x hx) (fun x _ hx => twS_I (by omega) x hx), ih]
theorem most_some {t : Nat → Nat → Bool} {c : Nat} : ∀ {m k a : Nat}, mostAt t c m = some (k, a) → 2 ≤ k ∧ k ≤ m ∧ t k a = true := by
  intro m
  induction m with
  | zero => intro k a h; cases h
  | succ m ih =>
    intro k a h
    rcases m with _ | m
    · cases h
    · rw [mostAt] at h
      rcases hf : firstAt (t (m + 2)) 0 c with _ | x
      · rw [hf] at h
        obtain ⟨h1, h2, h3⟩ := ih h
        exact ⟨h1, by omega, h3⟩
      · rw [hf] at h
        simp at h
        obtain ⟨rfl, rfl⟩ := h
        exact ⟨by omega, by omega, (first_some hf).2.2.1⟩
def giveR (d : List (List Int)) (p : List Int) : List (List Int) × List Int × Bool :=
  if (twiceR d p).2 = true ∧ d.length < 6 then (d ++ [(twiceR d p).1], repR (twiceR d p).1 (1101 + (d.length : Int)) p, true) else ([], [], false)
def putBackR (d : List (List Int)) (p : List Int) : List (List Int) × List Int × Bool :=
  if usesOkB d p = true ∧ 1 ≤ d.length ∧ (pbR (1101 + ((d.length - 1 : Nat) : Int)) (d.getD (d.length - 1) []) p).length ≤ 60 then (d.take (d.length - 1), pbR (1101 + ((d.length - 1 : Nat) : Int)) (d.getD (d.length - 1) []) p, true) else ([], [], false)
theorem twice_some {d : List (List Int)} {p : List Int} (h : (twiceR d p).2 = true) : usesOkB d p = true ∧ ∃ m a, (twiceR d p).1 = wdsR p m a ∧ 2 ≤ m ∧ twI p m a = true := by
  unfold twiceR at h ⊢
  rcases hu : usesOkB d p with _ | _
  · rw [hu] at h; simp at h
  · rw [hu] at h
    simp only [if_true] at h ⊢
    rcases ht : twiceAtR p with _ | ⟨m, a⟩
    · rw [ht] at h; cases h
    · obtain ⟨h1, _, h3⟩ := most_some ht
      exact ⟨trivial, m, a, rfl, h1, h3⟩

end Go.Proofs.Ytaehaalaeikloaa
