/- Several texts in one. -/
import Derived.Test.YtceekfoacgoalaaB1
/- Contracts of ProgThen and ProgQuote. -/
namespace Go.Proofs.Ytceekfoacgoalaa
set_option maxRecDepth 100000
open Go.RowKit Go.WideShapes

def thenR (p q : List Int) : List Int × Bool := if validB p = true ∧ validB q = true ∧ p.length + q.length ≤ 60 then (p ++ q, true) else ([], false)
def quoteR (p : List Int) : List Int × Bool := if validB p = true ∧ p.length + 2 ≤ 60 then (1012 :: (p ++ [1013]), true) else ([], false)

theorem Own.nil (w : World) (B : Nat) : Own w B (.slice none 0 0) [] := ⟨World.ownsRow_nil _ _ _ _, by simp⟩

theorem slrow_lit (w : World) (T : TypeId) (ss : List Sl) (h : ∀ s ∈ ss, IntsK .i64 w w.heap.size s.1 s.2.2) :
    SlRow (w.alloc (.cells (ss.map Sl.val).toArray T)) (w.alloc (.cells (ss.map Sl.val).toArray T)).heap.size w.heap.size 0 ss := by
  refine ⟨fun j s hs => ?_, fun s hs => ((h s hs).alloc (Nat.le_refl _) _).mono (by simp)⟩
  rw [Nat.zero_add, cell_of_row _ _ _ _ _ _ (heap_alloc_new w _)]
  simp [hs]

theorem ret_pair {v : Value} {a b : Bool} (h : a = b) : Ending.returned (.tuple #[v, .bool a]) = .returned (.tuple #[v, .bool b]) := by rw [h]

theorem lit_own (w : World) (zs : List Int) (hn : zs.length ≤ 1000) : (w.alloc (.cells (zs.map (Value.int .i64)).toArray 3)).ownsRow w.heap.size 3 1 (.slice (some ⟨w.heap.size, 0, none⟩) zs.length zs.length) zs.length (zs.map (Value.int .i64)) := by
  have h := World.ownsRow_lit (base := w.heap.size) (e := 3) (size := 1) w (zs.map (Value.int .i64)).toArray zs.length (Nat.le_refl _) (by unfold maxLen; omega) (by simp)
  simpa using h
theorem validB_len {p : List Int} (h : validB p = true) : p.length ≤ 60 := by simp [validB] at h; omega
theorem wf_small (z : Int) (h : 0 ≤ z ∧ z ≤ 1000000) : InK .i64 z := WalkArith.wf_i64 (by omega)

end Go.Proofs.Ytceekfoacgoalaa

/- Contracts of the model's ProgThen and ProgQuote. -/
namespace Go.Proofs.Ytceekfoacgoalaa
set_option maxRecDepth 100000
open Go.RowKit Go.WideShapes

theorem fitsFrom_append {o : Int} {p : List Int} (q : List Int) (h : fitsFrom o p = true) : fitsFrom o (p ++ q) = fitsFrom 0 q := by
  induction p generalizing o with
  | nil => simp [fitsFrom] at h; subst h; rfl
  | cons z zs ih =>
    rw [fitsFrom] at h
    rw [List.cons_append, fitsFrom]
    by_cases hn : o + brk z < 0
    · simp [hn] at h
    · rw [if_neg hn] at h ⊢; exact ih h
theorem validB_append {p q : List Int} (hp : validB p = true) (hq : validB q = true) : validB (p ++ q) = decide (p.length + q.length ≤ 60) := by
  simp only [validB, Bool.and_eq_true, decide_eq_true_eq] at hp hq
  simp [validB, fitsFrom_append q hp.2, hq.2]
  intro _
  exact ⟨by simpa using hp.1.2, by simpa using hq.1.2⟩
theorem fitsFrom_shift {o : Int} {p : List Int} (q : List Int) (d : Int) (hd : 0 ≤ d) (h : fitsFrom o p = true) : fitsFrom (o + d) (p ++ q) = fitsFrom d q := by
  induction p generalizing o with
  | nil => simp [fitsFrom] at h; subst h; simp
  | cons z zs ih =>
    rw [fitsFrom] at h
    rw [List.cons_append, fitsFrom]
    by_cases hn : o + brk z < 0
    · simp [hn] at h
    · rw [if_neg hn] at h; rw [if_neg (by omega), show o + d + brk z = o + brk z + d from by omega]; exact ih h
theorem validB_quote {p : List Int} (hp : validB p = true) : validB (1012 :: (p ++ [1013])) = decide (p.length + 2 ≤ 60) := by
  simp only [validB, Bool.and_eq_true, decide_eq_true_eq] at hp
  have hb1 : brk 1012 = 1 := rfl
  have hb2 : brk 1013 = -1 := rfl
  have hf : fitsFrom 0 (1012 :: (p ++ [1013])) = true := by
    rw [fitsFrom, hb1, if_neg (by omega), fitsFrom_shift [1013] 1 (by omega) hp.2]
    rfl
  have hw : (1012 :: (p ++ [1013])).all isWordB = true := by
    simp only [List.all_cons, List.all_append, hp.1.2]; rfl
  rw [validB, hf, hw]
  simp

end Go.Proofs.Ytceekfoacgoalaa

/- Contracts of chapter 1's functions, in the form that the exact laws take. -/
namespace Go.Proofs.Ytceekfoacgoalaa
set_option maxRecDepth 100000
open Go.RowKit Go.WideShapes

theorem thenR_len (p q : List Int) : szI (thenR p q).1 ≤ 1000000 := by
  unfold thenR szI; split
  · rename_i h; simp; omega
  · simp
theorem quoteR_len (p : List Int) : szI (quoteR p).1 ≤ 1000000 := by
  unfold quoteR szI; split
  · rename_i h; simp; omega
  · simp
end Go.Proofs.Ytceekfoacgoalaa

/- Contracts of ProgDepth, the program's and the model's. -/
namespace Go.Proofs.Ytceekfoacgoalaa
set_option maxRecDepth 100000
open Go.RowKit Go.WideShapes

/-- From o brackets open, m the most so far: the most. -/
def depthFrom : Int → Int → List Int → Int
  | _, m, [] => m
  | o, m, z :: zs => depthFrom (o + brk z) (if m < o + brk z then o + brk z else m) zs
theorem depthFrom_drop (o m : Int) (zs : List Int) (k : Nat) (h : k < zs.length) :
    depthFrom o m (zs.drop k) = depthFrom (o + brk (zs.getD k 0)) (if m < o + brk (zs.getD k 0) then o + brk (zs.getD k 0) else m) (zs.drop (k + 1)) := by
  rw [List.drop_eq_getElem_cons h, depthFrom]; simp [List.getD, List.getElem?_eq_getElem h]
def depthR (p : List Int) : Int := if validB p = true then depthFrom 0 0 p else -1

theorem ProgValid_I (v0 : Value) (x0 : List Int) (w : World) (h0 : RdI w v0 x0) (_ : x0.length ≤ 1048576) (y0 : Bool) (hR : validB x0 = y0) :
    Calls Try.prog 33 #[v0] w fun e w' => e = .returned (.bool y0) ∧ Below w.heap.size w w' := by
  obtain ⟨A, c, rfl, hi0, _⟩ := h0
  refine (ProgValid_any A c x0 w hi0).mono ?_
  rw [hR]
  rintro e w' ⟨rfl, rfl⟩
  exact ⟨rfl, Below.refl _ _⟩
end Go.Proofs.Ytceekfoacgoalaa

/- Rows of rows of integers: what reads as one, one of the call's own; the exact laws' helpers on them. -/
namespace Go.Proofs.Ytceekfoacgoalaa
set_option maxRecDepth 100000
open Go.RowKit Go.WideShapes

/-- A value that reads as the rows zss, all of it below block B. -/
structure RdAtS (w : World) (B : Nat) (A : Option Addr) (zss : List (List Int)) : Prop where
  len : zss.length ≤ 9223372036854775807
  at_ : 0 < zss.length → ∃ b off, A = some ⟨b, off, none⟩ ∧ b < B ∧ ∀ j zs, zss[j]? = some zs → ∃ u, w.cell? ⟨b, off + j, none⟩ = some u ∧ RdBI w B u zs
def RdBS (w : World) (B : Nat) (v : Value) (zss : List (List Int)) : Prop := ∃ A c, v = .slice A zss.length c ∧ RdAtS w B A zss
abbrev RdS (w : World) (v : Value) (zss : List (List Int)) : Prop := RdBS w w.heap.size v zss

theorem RdBI.mono {w : World} {B B' : Nat} {v : Value} {zs : List Int} (h : RdBI w B v zs) (hB : B ≤ B') : RdBI w B' v zs := by
  obtain ⟨A, c, rfl, hi, hc⟩ := h; exact ⟨A, c, rfl, hi.mono hB, hc⟩
section
variable {w w' : World} {B B' : Nat} {v : Value} {zss : List (List Int)}
theorem RdBS.below (h : RdBS w B v zss) (hb : Below B w w') : RdBS w' B v zss := by
  obtain ⟨A, c, rfl, hl, hi⟩ := h
  refine ⟨A, c, rfl, hl, fun h0 => ?_⟩
  obtain ⟨b, off, rfl, hlt, hc⟩ := hi h0
  refine ⟨b, off, rfl, hlt, fun j zs hj => ?_⟩
  obtain ⟨u, hu, hr⟩ := hc j zs hj
  exact ⟨u, (hb.cell hlt).trans hu, hr.below hb⟩
theorem RdBS.mono (h : RdBS w B v zss) (hB : B ≤ B') : RdBS w B' v zss := by
  obtain ⟨A, c, rfl, hl, hi⟩ := h
  refine ⟨A, c, rfl, hl, fun h0 => ?_⟩
  obtain ⟨b, off, rfl, hlt, hc⟩ := hi h0
  refine ⟨b, off, rfl, by omega, fun j zs hj => ?_⟩
  obtain ⟨u, hu, hr⟩ := hc j zs hj
  exact ⟨u, hu, hr.mono hB⟩
theorem RdS.step (h : RdS w v zss) (hb : Below w.heap.size w w') : RdS w' v zss := RdBS.mono (RdBS.below h hb) hb.size
theorem RdBS.rd (h : RdBS w B v zss) (hB : B ≤ w.heap.size) : RdS w v zss := h.mono hB
theorem RdS.at_ (h : RdS w v zss) : RdBS w w.heap.size v zss := h
end

theorem quiet_below {w w' : World} {B : Nat} (h : ∃ n, w' = w.drewN n) : Below B w w' := by
  obtain ⟨n, rfl⟩ := h; exact below_drewN (Below.refl _ _) n
theorem quiet_trans {a b c : World} (h : ∃ n, b = a.drewN n) (h' : ∃ n, c = b.drewN n) : ∃ n, c = a.drewN n := by
  obtain ⟨n, rfl⟩ := h; obtain ⟨m, rfl⟩ := h'; exact ⟨n + m, World.drewN_drewN _ _ _⟩
theorem take_succ_eqS {xs ys : List (List Int)} {k : Nat} {x y : List Int} (hx : xs[k]? = some x) (hy : ys[k]? = some y) (h : xs.take k = ys.take k) (he : x = y) : xs.take (k + 1) = ys.take (k + 1) := by
  rw [List.take_add_one, List.take_add_one, h, hx, hy, he]

theorem eqIQ (v u : Value) (xs ys : List Int) (w : World) (hx : RdI w v xs) (hy : RdI w u ys) (b : Bool) (hb : decide (xs = ys) = b) :
    Calls Try.prog 40 #[v, u] w fun e w' => e = .returned (.bool b) ∧ ∃ n, w' = w.drewN n := by
  subst hb
  obtain ⟨A, c, rfl, hi, _⟩ := hx
  obtain ⟨A', c', rfl, hi', _⟩ := hy
  exact eqIntS_any A A' c c' xs ys w hi hi'

/-- Rows of rows of the call's own: the outer row and each inner one in a block of its own, from lo on and below hi. -/
structure OwnVs (w : World) (lo hi : Nat) (v : Value) (vs : List Value) (zss : List (List Int)) : Prop where
  len : vs.length = zss.length
  row : w.ownsRow lo 23 1 v zss.length vs
  lt : ∀ g, v.ownBlock = some g → g < hi
  inner : ∀ (j : Nat) u zs, vs[j]? = some u → zss[j]? = some zs → OwnI w lo hi u zs
  apart : ∀ (i j : Nat) u u' g, i ≠ j → vs[i]? = some u → vs[j]? = some u' → u.ownBlock = some g → u'.ownBlock ≠ some g
def OwnS (w : World) (lo hi : Nat) (v : Value) (zss : List (List Int)) : Prop := ∃ vs, OwnVs w lo hi v vs zss
def szS : List (List Int) → Nat
  | [] => 0
  | zs :: r => zs.length + szS r
def mkS : Int → List (List Int) → List (List Int)
  | _, [] => []
  | a, zs :: r => marks a zs.length :: mkS (a + zs.length) r
theorem mkS_length (a : Int) (zss : List (List Int)) : (mkS a zss).length = zss.length := by
  induction zss generalizing a with
  | nil => rfl
  | cons z r ih => simp [mkS, ih]
theorem mkS_get (a : Int) (zss : List (List Int)) (j : Nat) (zs : List Int) (h : zss[j]? = some zs) : (mkS a zss)[j]? = some (marks (a + szS (zss.take j)) zs.length) := by
  induction zss generalizing a j with
  | nil => simp at h
  | cons z r ih =>
    rcases j with _ | j
    · simp only [List.getElem?_cons_zero, Option.some.injEq] at h
      subst h
      simp [mkS, szS]
    · rw [mkS, List.getElem?_cons_succ, ih _ j (by simpa using h)]
      simp only [List.take_succ_cons, szS]
      rw [show a + (z.length : Int) + (szS (r.take j) : Int) = a + ((z.length + szS (r.take j) : Nat) : Int) from by omega]
theorem szS_take_succ (zss : List (List Int)) (j : Nat) (zs : List Int) (h : zss[j]? = some zs) : szS (zss.take (j + 1)) = szS (zss.take j) + zs.length := by
  induction zss generalizing j with
  | nil => simp at h
  | cons z r ih =>
    rcases j with _ | j
    · simp only [List.getElem?_cons_zero, Option.some.injEq] at h
      subst h
      simp [szS]
    · rw [List.take_succ_cons, List.take_succ_cons, szS, szS, ih j (by simpa using h)]; omega
theorem szS_take_le (zss : List (List Int)) (j : Nat) : szS (zss.take j) ≤ szS zss := by
  induction zss generalizing j with
  | nil => simp [szS]
  | cons z r ih =>
    rcases j with _ | j
    · simp [szS]
    · rw [List.take_succ_cons, szS, szS]; have := ih j; omega

section
variable {w w' : World} {lo hi lo' hi' : Nat} {v : Value} {zss : List (List Int)}
theorem OwnVs.inner_ne {vs : List Value} (h : OwnVs w lo hi v vs zss) {j : Nat} {u : Value} {zs : List Int} (hu : vs[j]? = some u) (hz : zss[j]? = some zs) : v.ownBlock = none ∨ v.ownBlock ≠ u.ownBlock := by
  rcases h.row.2 with ⟨rfl, _⟩ | ⟨g, cap, cur, rfl, _, hh, _⟩
  · exact .inl rfl
  · refine .inr fun e => ?_
    rcases (h.inner j u zs hu hz).own.own.2 with ⟨rfl, _⟩ | ⟨g', cap', cur', rfl, _, hh', _⟩
    · simp [Value.ownBlock] at e
    · simp only [Value.ownBlock, Option.some.injEq] at e
      subst e
      rw [hh] at hh'
      injection hh' with hh'
      injection hh' with _ ht
      exact absurd ht (by decide)
theorem OwnS.below (h : OwnS w lo hi v zss) (hb : Below w.heap.size w w') : OwnS w' lo hi v zss := by
  obtain ⟨vs, h⟩ := h
  refine ⟨vs, h.len, h.row.kept (row := none) (only_of_below hb none) ?_, h.lt, fun j u zs hu hz => (h.inner j u zs hu hz).below hb, h.apart⟩
  rcases e : v.ownBlock with _ | g
  · exact .inl rfl
  · exact .inr (by simp)
theorem OwnS.apart (h : OwnS w lo hi v zss) (hw : Within lo' hi' w w') (hd : hi ≤ lo' ∨ hi' ≤ lo) : OwnS w' lo hi v zss := by
  obtain ⟨vs, h⟩ := h
  refine ⟨vs, h.len, ⟨h.row.1, ?_⟩, h.lt, fun j u zs hu hz => (h.inner j u zs hu hz).apart hw hd, h.apart⟩
  rcases h.row.2 with h0 | ⟨g, cap, cur, rfl, hb, hh, h1⟩
  · exact .inl h0
  · have hg := h.lt g rfl
    exact .inr ⟨g, cap, cur, rfl, hb, (hw.block g (h.row.lt g rfl).2 (by omega)).trans hh, h1⟩
theorem OwnS.belowB {B : Nat} (h : OwnS w lo hi v zss) (hb : Below B w w') (hB : hi ≤ B) : OwnS w' lo hi v zss := by
  obtain ⟨vs, h⟩ := h
  refine ⟨vs, h.len, ⟨h.row.1, ?_⟩, h.lt, fun j u zs hu hz => (h.inner j u zs hu hz).belowB hb hB, h.apart⟩
  rcases h.row.2 with h0 | ⟨g, cap, cur, rfl, hb', hh, h1⟩
  · exact .inl h0
  · have hg := h.lt g rfl
    exact .inr ⟨g, cap, cur, rfl, hb', (hb.block g (by omega)).trans hh, h1⟩
theorem RdBS.get {w : World} {B n c : Nat} {A : Option Addr} {zss : List (List Int)} (h : RdBS w B (.slice A n c) zss) {j : Nat} {zs : List Int} (hz : zss[j]? = some zs) :
    ∃ b off u, A = some ⟨b, off, none⟩ ∧ b < B ∧ w.cell? ⟨b, off + j, none⟩ = some u ∧ RdBI w B u zs := by
  obtain ⟨A', c', he, hl, hat⟩ := h
  cases he
  have h0 : 0 < zss.length := by
    rcases Nat.eq_zero_or_pos zss.length with h | h
    · rw [List.getElem?_eq_none (by omega)] at hz; cases hz
    · exact h
  obtain ⟨b, off, rfl, hb, hc⟩ := hat h0
  obtain ⟨u, hu, hr⟩ := hc j zs hz
  exact ⟨b, off, u, rfl, hb, hu, hr⟩
theorem OwnVs.form {vs : List Value} (h : OwnVs w lo hi v vs zss) : (v = .slice none 0 0 ∧ zss.length = 0) ∨ ∃ g cap, v = .slice (some ⟨g, 0, none⟩) zss.length cap ∧ g < w.heap.size ∧ (∀ j u, vs[j]? = some u → w.cell? ⟨g, j, none⟩ = some u) := by
  rcases h.row.2 with h0 | ⟨g, cap, cur, rfl, hb, hh, h1⟩
  · exact .inl h0
  · refine .inr ⟨g, cap, rfl, (h.row.lt g rfl).2, fun j u hu => ?_⟩
    have hj : j < vs.length := by
      rcases Nat.lt_or_ge j vs.length with h | h
      · exact h
      · rw [List.getElem?_eq_none h] at hu; cases hu
    rw [h.row.cellAt j (by rw [Nat.mul_one, ← h.len]; exact hj), hu]
theorem OwnVs.len_le {vs : List Value} (h : OwnVs w lo hi v vs zss) : zss.length ≤ 9223372036854775807 := by
  rcases h.row.2 with ⟨_, h0⟩ | ⟨g, cap, cur, _, _, _, h1, h2, _⟩
  · omega
  · unfold maxLen at h2; omega
theorem OwnS.rd (h : OwnS w lo hi v zss) : RdS w v zss := by
  obtain ⟨vs, h⟩ := h
  have hl := h.len_le
  rcases h.form with ⟨rfl, h0⟩ | ⟨g, cap, rfl, hg, hc⟩
  · exact ⟨none, 0, by rw [h0], hl, fun h1 => by omega⟩
  · refine ⟨_, cap, rfl, hl, fun h1 => ⟨g, 0, rfl, hg, fun j zs hz => ?_⟩⟩
    have hj : j < vs.length := by
      rw [h.len]
      rcases Nat.lt_or_ge j zss.length with h | h
      · exact h
      · rw [List.getElem?_eq_none h] at hz; cases hz
    have hu : vs[j]? = some vs[j] := List.getElem?_eq_getElem hj
    exact ⟨vs[j], by rw [Nat.zero_add]; exact hc j _ hu, (h.inner j _ zs hu hz).rd⟩
end

end Go.Proofs.Ytceekfoacgoalaa
