/- Several texts in one. -/
import Derived.Test.YtkiedpdhehehfaaB1
/- Contracts of ProgThen and ProgQuote. -/
namespace Go.Proofs.Ytkiedpdhehehfaa
set_option maxRecDepth 100000
open Go.RowKit Go.WideShapes

def thenR (p q : List Int) : List Int × Bool := if validB p = true ∧ validB q = true ∧ p.length + q.length ≤ 60 then (p ++ q, true) else ([], false)
def quoteR (p : List Int) : List Int × Bool := if validB p = true ∧ p.length + 2 ≤ 60 then (1012 :: (p ++ [1013]), true) else ([], false)

theorem Own.nil (w : World) (B : Nat) : Own w B (.slice none 0 0) [] := ⟨World.ownsRow_nil _ _ _ _, by simp⟩

theorem slrow_lit (w : World) (T : TypeId) (ss : List Sl) (h : ∀ s ∈ ss, IntsK .i64 w w.heap.size s.1 s.2.2) :
    SlRow (w.alloc (.cells (ss.map Sl.val).toArray T)) (w.alloc (.cells (ss.map Sl.val).toArray T)).heap.size w.heap.size 0 ss := by
  refine ⟨fun j s hs => ?_, fun s hs => ((h s hs).alloc (Nat.le_refl _) _).mono (by simp)⟩
  rw [Nat.zero_add, cell_of_row _ _ _ _ _ _ (heap_alloc_new w _)]
  simp [hs]

theorem ret_pair {v : Value} {a b : Bool} (h : a = b) : Ending.returned (.tuple #[v, .bool a]) = .returned (.tuple #[v, .bool b]) := by rw [h]

theorem lit_own (w : World) (zs : List Int) (hn : zs.length ≤ 1000) : (w.alloc (.cells (zs.map (Value.int .i64)).toArray 3)).ownsRow w.heap.size 3 1 (.slice (some ⟨w.heap.size, 0, none⟩) zs.length zs.length) zs.length (zs.map (Value.int .i64)) := by
  have h := World.ownsRow_lit (base := w.heap.size) (e := 3) (size := 1) w (zs.map (Value.int .i64)).toArray zs.length (Nat.le_refl _) (by unfold maxLen; omega) (by simp)
  simpa using h
theorem validB_len {p : List Int} (h : validB p = true) : p.length ≤ 60 := by simp [validB] at h; omega
theorem wf_small (z : Int) (h : 0 ≤ z ∧ z ≤ 1000000) : InK .i64 z := WalkArith.wf_i64 (by omega)

theorem ProgQuote_any (A : Option Addr) (c : Nat) (p : List Int) (w : World) (hp : Ints w A p) :
    Calls Try.prog 132 #[.slice A p.length c] w fun e w' => ∃ v, e = .returned (.tuple #[v, .bool (quoteR p).2]) ∧ Own w' w.heap.size v (quoteR p).1 ∧ Below w.heap.size w w' := by
  have hlp := hp.len
  have HP := Lib.hid hp; clear hp
  generalize hvp : validB p = vp
  have Hvp := Lib.hid hvp; clear hvp
  by_cases hok : vp = true ∧ p.length + 2 ≤ 60
  · obtain ⟨rfl, hlen⟩ := hok
    have HR : Hid (quoteR p = (1012 :: (p ++ [1013]), true)) := Lib.hid (by rw [quoteR, if_pos ⟨Hvp.out, hlen⟩])
    rw [HR.out]
    go_enter Try.func132, Try.ntmps132
    go_wp2_with fail
    refine (ProgValid_any A c p _ HP.out).mono ?_
    rw [Hvp.out]
    rintro e w' ⟨rfl, rfl⟩
    go_wp2_with fail
    have L1 := lit_own w [1012] (by simp)
    have L2 := lit_own (w.alloc (.cells ([1012].map (Value.int .i64)).toArray 3)) [1013] (by simp)
    have I1 : IntsK .i64 ((w.alloc (.cells ([1012].map (Value.int .i64)).toArray 3)).alloc (.cells ([1013].map (Value.int .i64)).toArray 3)) (w.heap.size + 2) (some ⟨w.heap.size, 0, none⟩) [1012] := by
      have h1 := (⟨L1, by intro z hz; simp at hz; subst hz; exact wf_small _ (by omega)⟩ : Own _ w.heap.size _ [1012]).ints
      obtain ⟨A1, c1, he, hi, _⟩ := h1
      cases he
      exact (hi.alloc (Nat.le_refl _) _).mono (by simp)
    have I2 : IntsK .i64 ((w.alloc (.cells ([1012].map (Value.int .i64)).toArray 3)).alloc (.cells ([1013].map (Value.int .i64)).toArray 3)) (w.heap.size + 2) (some ⟨w.heap.size + 1, 0, none⟩) [1013] := by
      have h1 := (⟨L2, by intro z hz; simp at hz; subst hz; exact wf_small _ (by omega)⟩ : Own _ _ _ [1013]).ints
      obtain ⟨A1, c1, he, hi, _⟩ := h1
      cases he
      simpa using hi.mono (B' := w.heap.size + 2) (by simp)
    have S1 := slrow_lit ((w.alloc (.cells ([1012].map (Value.int .i64)).toArray 3)).alloc (.cells ([1013].map (Value.int .i64)).toArray 3)) 22 [(some ⟨w.heap.size, 0, none⟩, 1, [1012]), (A, c, p), (some ⟨w.heap.size + 1, 0, none⟩, 1, [1013])] (by
      intro s hs
      simp only [List.mem_cons, List.not_mem_nil, or_false] at hs
      rcases hs with rfl | rfl | rfl
      · simpa using I1
      · exact ((HP.out.alloc (Nat.le_refl _) _).alloc (by simp) _).mono (by simp; omega)
      · simpa using I2)
    refine (concat_any (w.heap.size + 1 + 1) 0 3 [(some ⟨w.heap.size, 0, none⟩, 1, [1012]), (A, c, p), (some ⟨w.heap.size + 1, 0, none⟩, 1, [1013])] _ (by simp) (by simpa [Sl.val] using S1) (by simp) (by simp [flat]; omega)).mono ?_
    rintro e w1 ⟨v1, rfl, ho1, hb1⟩
    rw [show flat [(some (⟨w.heap.size, 0, none⟩ : Addr), 1, [1012]), (A, c, p), (some (⟨w.heap.size + 1, 0, none⟩ : Addr), 1, [1013])] = 1012 :: (p ++ [1013]) from by simp [flat]] at ho1
    have Ho1 := Lib.hid (ho1.mono (B := w.heap.size) (by simp; omega))
    have Hb1 := Lib.hid (((((Below.refl w.heap.size w).alloc (Nat.le_refl _) _).alloc (by simp) _).alloc (by simp; omega) _).trans (hb1.mono (by simp; omega)))
    clear ho1 hb1 S1 I1 I2 L1 L2
    go_wp2_with fail
    go_ret2
    exact ⟨_, rfl, Ho1.out, Hb1.out⟩
  · have HR : Hid (quoteR p = ([], false)) := Lib.hid (by rw [quoteR, if_neg (by rw [Hvp.out]; exact hok)])
    rw [HR.out]
    rcases vp with _ | _
    · clear hok
      go_enter Try.func132, Try.ntmps132
      go_wp2_with fail
      refine (ProgValid_any A c p _ HP.out).mono ?_
      rw [Hvp.out]
      rintro e w' ⟨rfl, rfl⟩
      go_wp2_with fail
      go_ret2
      exact ⟨_, rfl, Own.nil _ _, Below.refl _ _⟩
    · have hl1 : p.length ≤ 60 := validB_len Hvp.out
      have hlen : 60 < p.length + 2 := by
        rcases Nat.lt_or_ge 60 (p.length + 2) with h | h
        · exact h
        · exact absurd ⟨rfl, h⟩ hok
      clear hok
      go_enter Try.func132, Try.ntmps132
      go_wp2_with fail
      refine (ProgValid_any A c p _ HP.out).mono ?_
      rw [Hvp.out]
      rintro e w' ⟨rfl, rfl⟩
      go_wp2_with fail
      go_ret2
      exact ⟨_, rfl, Own.nil _ _, Below.refl _ _⟩
end Go.Proofs.Ytkiedpdhehehfaa

/- Contracts of the model's ProgThen and ProgQuote. -/
namespace Go.Proofs.Ytkiedpdhehehfaa
set_option maxRecDepth 100000
open Go.RowKit Go.WideShapes

theorem fitsFrom_append {o : Int} {p : List Int} (q : List Int) (h : fitsFrom o p = true) : fitsFrom o (p ++ q) = fitsFrom 0 q := by
  induction p generalizing o with
  | nil => simp [fitsFrom] at h; subst h; rfl
  | cons z zs ih =>
    rw [fitsFrom] at h
    rw [List.cons_append, fitsFrom]
    by_cases hn : o + brk z < 0
    · simp [hn] at h
    · rw [if_neg hn] at h ⊢; exact ih h
theorem validB_append {p q : List Int} (hp : validB p = true) (hq : validB q = true) : validB (p ++ q) = decide (p.length + q.length ≤ 60) := by
  simp only [validB, Bool.and_eq_true, decide_eq_true_eq] at hp hq
  simp [validB, fitsFrom_append q hp.2, hq.2]
  intro _
  exact ⟨by simpa using hp.1.2, by simpa using hq.1.2⟩
theorem fitsFrom_shift {o : Int} {p : List Int} (q : List Int) (d : Int) (hd : 0 ≤ d) (h : fitsFrom o p = true) : fitsFrom (o + d) (p ++ q) = fitsFrom d q := by
  induction p generalizing o with
  | nil => simp [fitsFrom] at h; subst h; simp
  | cons z zs ih =>
    rw [fitsFrom] at h
    rw [List.cons_append, fitsFrom]
    by_cases hn : o + brk z < 0
    · simp [hn] at h
    · rw [if_neg hn] at h; rw [if_neg (by omega), show o + d + brk z = o + brk z + d from by omega]; exact ih h
theorem validB_quote {p : List Int} (hp : validB p = true) : validB (1012 :: (p ++ [1013])) = decide (p.length + 2 ≤ 60) := by
  simp only [validB, Bool.and_eq_true, decide_eq_true_eq] at hp
  have hb1 : brk 1012 = 1 := rfl
  have hb2 : brk 1013 = -1 := rfl
  have hf : fitsFrom 0 (1012 :: (p ++ [1013])) = true := by
    rw [fitsFrom, hb1, if_neg (by omega), fitsFrom_shift [1013] 1 (by omega) hp.2]
    rfl
  have hw : (1012 :: (p ++ [1013])).all isWordB = true := by
    simp only [List.all_cons, List.all_append, hp.1.2]; rfl
  rw [validB, hf, hw]
  simp

theorem specQuote_any (A : Option Addr) (c : Nat) (p : List Int) (w : World) (hp : Ints w A p) (hl : p.length ≤ 1048576) :
    Calls Try.prog 70 #[.slice A p.length c] w fun e w' => ∃ v, e = .returned (.tuple #[v, .bool (quoteR p).2]) ∧ Own w' w.heap.size v (quoteR p).1 ∧ Below w.heap.size w w' := by
  have hlp := hp.len
  have HP := Lib.hid hp; clear hp
  generalize hvp : validB p = vp
  have Hvp := Lib.hid hvp; clear hvp
  have L0 := lit_own w [1012] (by simp)
  simp only [List.map_nil, List.map_cons, List.length_nil, List.length_cons] at L0
  have Hwf : Hid (∀ z ∈ 1012 :: (p ++ [1013]), InK .i64 z) := Lib.hid (by
    intro z hz
    simp only [List.mem_cons, List.mem_append, List.not_mem_nil, or_false] at hz
    rcases hz with rfl | h | rfl
    · exact wf_small _ (by omega)
    · exact HP.out.wf z h
    · exact wf_small _ (by omega))
  go_enter Try.func70, Try.ntmps70
  go_wp2_with (at_builtin; refine wpList_append_ints rfl (.tmp 5) (.tmp 6) _ rfl w.heap.size 3 .i64 8 Try.underlying22 intInfo (Nat.le_refl _) _ [1012] rfl L0 (w.heap.size + 1) A p c rfl ((HP.out.alloc (Nat.le_refl _) _).mono (by omega)) (by simp; omega) (by simp) ?_)
  intro v1 w1 hown1 hg1 _
  have hb1 : Below w.heap.size w w1 := ((Below.refl w.heap.size w).alloc (Nat.le_refl _) _).grown hg1 (by simp) (by intro k hk; simp [Value.ownBlock] at hk; omega)
  have hown1' : w1.ownsRow w.heap.size 3 1 v1 ([1012] ++ p).length (([1012] ++ p).map (Value.int .i64)) := by simpa using hown1
  have Hown1 := Lib.hid hown1'
  clear hown1'
  have Hb1 := Lib.hid hb1
  have Hsz := Lib.hid hb1.size
  clear hown1 hg1 hb1 L0
  have L1 := lit_own w1 [1013] (by simp)
  simp only [List.map_nil, List.map_cons, List.length_nil, List.length_cons] at L1
  have I1 : IntsK .i64 (w1.alloc (.cells [Value.int .i64 1013].toArray 3)) (w1.heap.size + 1) (some ⟨w1.heap.size, 0, none⟩) [1013] := by
    obtain ⟨A1, c1, he, hi, _⟩ := (⟨L1, by intro z hz; simp at hz; subst hz; exact wf_small _ (by omega)⟩ : Own _ _ _ [1013]).ints
    cases he
    simpa using hi.mono (B' := w1.heap.size + 1) (by simp)
  have HO := Lib.hid (Hown1.out.alloc (.cells [Value.int .i64 1013].toArray 3))
  clear L1
  go_wp2_with (at_builtin; refine wpList_append_ints rfl (.tmp 7) (.tmp 8) _ rfl w.heap.size 3 .i64 8 Try.underlying22 intInfo (Nat.le_refl _) _ ([1012] ++ p) rfl HO.out (w1.heap.size + 1) _ [1013] 1 rfl I1 (by simp; omega) (by have := Hsz.out; simp; omega) ?_)
  intro v2 w2 hown2 hg2 _
  have hb2 : Below w.heap.size w w2 := (Hb1.out.alloc Hsz.out _).grown hg2 (by have := Hsz.out; simp; omega) (fun g hg => (Hown1.out.lt g hg).1)
  have ho2 : Own w2 w.heap.size v2 (1012 :: (p ++ [1013])) := ⟨by simpa using hown2, Hwf.out⟩
  clear hown2 hg2 Hown1 Hb1 Hwf Hsz I1 HO
  have hvall : validB p = true → validB (1012 :: (p ++ [1013])) = decide (p.length + 2 ≤ 60) := fun h1 => validB_quote h1
  have hrr : validB p = true → p.length + 2 ≤ 60 → quoteR p = (1012 :: (p ++ [1013]), true) := fun h1 h3 => by rw [quoteR, if_pos ⟨h1, h3⟩]
  generalize 1012 :: (p ++ [1013]) = r at ho2 hvall hrr
  have Hvall := Lib.hid hvall; clear hvall
  have Hrr := Lib.hid hrr; clear hrr
  have hlo := ho2.ints
  have Ho2 := Lib.hid ho2
  have Hb2 := Lib.hid hb2
  clear ho2 hb2
  obtain ⟨A2, c2, rfl, hi2, _⟩ := hlo
  have HI2 := Lib.hid hi2; clear hi2
  have HP2 := Lib.hid (HP.out.step Hb2.out)
  have hl2 : r.length ≤ 9223372036854775807 := HI2.out.len
  have Hret : Hid (∀ w', Below w2.heap.size w2 w' → Below w.heap.size w w') := Lib.hid (fun w' h => below_after Hb2.out h)
  rcases vp with _ | _
  · have HR : Hid (quoteR p = ([], false)) := Lib.hid (by rw [quoteR, if_neg (by rw [Hvp.out]; simp)])
    go_wp2_with fail
    refine (specValid_any A c p _ HP2.out).mono ?_
    rw [Hvp.out]
    rintro e w' ⟨rfl, rfl⟩
    go_wp2_with fail
    go_ret2
    rw [HR.out]
    exact ⟨_, rfl, (⟨(lit_own _ [] (by simp)), by simp⟩ : Own _ _ _ []).mono Hb2.out.size, Hret.out _ ((Below.refl _ _).alloc (Nat.le_refl _) _)⟩
  · generalize hvl : decide (p.length + 2 ≤ 60) = b
    have Hvl := Lib.hid hvl; clear hvl
    have Hvpq : Hid (validB r = b) := Lib.hid ((Hvall.out Hvp.out).trans Hvl.out)
    rcases b with _ | _
    all_goals
      go_wp2_with fail
      refine (specValid_any A c p _ HP2.out).mono ?_
      rw [Hvp.out]
      rintro e w' ⟨rfl, rfl⟩
      go_wp2_with fail
      refine (specValid_any A2 c2 r _ HI2.out).mono ?_
      rw [Hvpq.out]
      rintro e w' ⟨rfl, rfl⟩
      go_wp2_with fail
      go_ret2
    · have HR : quoteR p = ([], false) := by rw [quoteR, if_neg (by have := of_decide_eq_false Hvl.out; exact fun h => this h.2)]
      rw [HR]
      exact ⟨_, rfl, (⟨(lit_own _ [] (by simp)), by simp⟩ : Own _ _ _ []).mono Hb2.out.size, Hret.out _ ((Below.refl _ _).alloc (Nat.le_refl _) _)⟩
    · rw [Hrr.out Hvp.out (of_decide_eq_true Hvl.out)]
      exact ⟨_, rfl, Ho2.out, Hb2.out⟩
end Go.Proofs.Ytkiedpdhehehfaa

/- Contracts of chapter 1's functions, in the form that the exact laws take. -/
namespace Go.Proofs.Ytkiedpdhehehfaa
set_option maxRecDepth 100000
open Go.RowKit Go.WideShapes

theorem thenR_len (p q : List Int) : szI (thenR p q).1 ≤ 1000000 := by
  unfold thenR szI; split
  · rename_i h; simp; omega
  · simp
theorem ProgQuote_I (v0 : Value) (x0 : List Int) (w : World) (h0 : RdI w v0 x0) (_ : x0.length ≤ 1048576) (y0 : List Int) (y1 : Bool) (hR : quoteR x0 = (y0, y1)) :
    Calls Try.prog 132 #[v0] w fun e w' => ∃ u, e = .returned (.tuple #[u, .bool y1]) ∧ OwnI w' w.heap.size w'.heap.size u y0 ∧ Below w.heap.size w w' := by
  obtain ⟨A, c, rfl, hi0, _⟩ := h0
  refine (ProgQuote_any A c x0 w hi0).mono ?_
  rw [hR]
  rintro e w' ⟨u, rfl, ho, hb⟩
  exact ⟨u, rfl, ho.within, hb⟩
theorem ProgQuote_S (v0 : Value) (x0 : List Int) (w : World) (h0 : RdI w v0 x0) (hl0 : x0.length ≤ 1048576) (y0 : List Int) (y1 : Bool) (hR : quoteR x0 = (y0, y1)) :
    Calls Try.prog 70 #[v0] w fun e w' => ∃ u, e = .returned (.tuple #[u, .bool y1]) ∧ OwnI w' w.heap.size w'.heap.size u y0 ∧ Below w.heap.size w w' := by
  obtain ⟨A, c, rfl, hi0, _⟩ := h0
  refine (specQuote_any A c x0 w hi0 hl0).mono ?_
  rw [hR]
  rintro e w' ⟨u, rfl, ho, hb⟩
  exact ⟨u, rfl, ho.within, hb⟩
theorem quoteR_len (p : List Int) : szI (quoteR p).1 ≤ 1000000 := by
  unfold quoteR szI; split
  · rename_i h; simp; omega
  · simp
end Go.Proofs.Ytkiedpdhehehfaa

/- Contracts of ProgDepth, the program's and the model's. -/
namespace Go.Proofs.Ytkiedpdhehehfaa
set_option maxRecDepth 100000
open Go.RowKit Go.WideShapes

/-- From o brackets open, m the most so far: the most. -/
def depthFrom : Int → Int → List Int → Int
  | _, m, [] => m
  | o, m, z :: zs => depthFrom (o + brk z) (if m < o + brk z then o + brk z else m) zs
theorem depthFrom_drop (o m : Int) (zs : List Int) (k : Nat) (h : k < zs.length) :
    depthFrom o m (zs.drop k) = depthFrom (o + brk (zs.getD k 0)) (if m < o + brk (zs.getD k 0) then o + brk (zs.getD k 0) else m) (zs.drop (k + 1)) := by
  rw [List.drop_eq_getElem_cons h, depthFrom]; simp [List.getD, List.getElem?_eq_getElem h]
def depthR (p : List Int) : Int := if validB p = true then depthFrom 0 0 p else -1

theorem ProgValid_I (v0 : Value) (x0 : List Int) (w : World) (h0 : RdI w v0 x0) (_ : x0.length ≤ 1048576) (y0 : Bool) (hR : validB x0 = y0) :
    Calls Try.prog 83 #[v0] w fun e w' => e = .returned (.bool y0) ∧ Below w.heap.size w w' := by
  obtain ⟨A, c, rfl, hi0, _⟩ := h0
  refine (ProgValid_any A c x0 w hi0).mono ?_
  rw [hR]
  rintro e w' ⟨rfl, rfl⟩
  exact ⟨rfl, Below.refl _ _⟩
theorem ProgValid_S (v0 : Value) (x0 : List Int) (w : World) (h0 : RdI w v0 x0) (_ : x0.length ≤ 1048576) (y0 : Bool) (hR : validB x0 = y0) :
    Calls Try.prog 78 #[v0] w fun e w' => e = .returned (.bool y0) ∧ Below w.heap.size w w' := by
  obtain ⟨A, c, rfl, hi0, _⟩ := h0
  refine (specValid_any A c x0 w hi0).mono ?_
  rw [hR]
  rintro e w' ⟨rfl, rfl⟩
  exact ⟨rfl, Below.refl _ _⟩
end Go.Proofs.Ytkiedpdhehehfaa

/- Rows of rows of integers: what reads as one, one of the call's own; the exact laws' helpers on them. -/
namespace Go.Proofs.Ytkiedpdhehehfaa
set_option maxRecDepth 100000
open Go.RowKit Go.WideShapes

/-- A value that reads as the rows zss, all of it below block B. -/
structure RdAtS (w : World) (B : Nat) (A : Option Addr) (zss : List (List Int)) : Prop where
  len : zss.length ≤ 9223372036854775807
  at_ : 0 < zss.length → ∃ b off, A = some ⟨b, off, none⟩ ∧ b < B ∧ ∀ j zs, zss[j]? = some zs → ∃ u, w.cell? ⟨b, off + j, none⟩ = some u ∧ RdBI w B u zs
def RdBS (w : World) (B : Nat) (v : Value) (zss : List (List Int)) : Prop := ∃ A c, v = .slice A zss.length c ∧ RdAtS w B A zss
abbrev RdS (w : World) (v : Value) (zss : List (List Int)) : Prop := RdBS w w.heap.size v zss

theorem RdBI.mono {w : World} {B B' : Nat} {v : Value} {zs : List Int} (h : RdBI w B v zs) (hB : B ≤ B') : RdBI w B' v zs := by
  obtain ⟨A, c, rfl, hi, hc⟩ := h; exact ⟨A, c, rfl, hi.mono hB, hc⟩
section
variable {w w' : World} {B B' : Nat} {v : Value} {zss : List (List Int)}
theorem RdBS.below (h : RdBS w B v zss) (hb : Below B w w') : RdBS w' B v zss := by
  obtain ⟨A, c, rfl, hl, hi⟩ := h
  refine ⟨A, c, rfl, hl, fun h0 => ?_⟩
  obtain ⟨b, off, rfl, hlt, hc⟩ := hi h0
  refine ⟨b, off, rfl, hlt, fun j zs hj => ?_⟩
  obtain ⟨u, hu, hr⟩ := hc j zs hj
  exact ⟨u, (hb.cell hlt).trans hu, hr.below hb⟩
theorem RdBS.mono (h : RdBS w B v zss) (hB : B ≤ B') : RdBS w B' v zss := by
  obtain ⟨A, c, rfl, hl, hi⟩ := h
  refine ⟨A, c, rfl, hl, fun h0 => ?_⟩
  obtain ⟨b, off, rfl, hlt, hc⟩ := hi h0
  refine ⟨b, off, rfl, by omega, fun j zs hj => ?_⟩
  obtain ⟨u, hu, hr⟩ := hc j zs hj
  exact ⟨u, hu, hr.mono hB⟩
theorem RdS.step (h : RdS w v zss) (hb : Below w.heap.size w w') : RdS w' v zss := RdBS.mono (RdBS.below h hb) hb.size
theorem RdBS.rd (h : RdBS w B v zss) (hB : B ≤ w.heap.size) : RdS w v zss := h.mono hB
theorem RdS.at_ (h : RdS w v zss) : RdBS w w.heap.size v zss := h
end

theorem quiet_below {w w' : World} {B : Nat} (h : ∃ n, w' = w.drewN n) : Below B w w' := by
  obtain ⟨n, rfl⟩ := h; exact below_drewN (Below.refl _ _) n
theorem quiet_trans {a b c : World} (h : ∃ n, b = a.drewN n) (h' : ∃ n, c = b.drewN n) : ∃ n, c = a.drewN n := by
  obtain ⟨n, rfl⟩ := h; obtain ⟨m, rfl⟩ := h'; exact ⟨n + m, World.drewN_drewN _ _ _⟩
theorem take_succ_eqS {xs ys : List (List Int)} {k : Nat} {x y : List Int} (hx : xs[k]? = some x) (hy : ys[k]? = some y) (h : xs.take k = ys.take k) (he : x = y) : xs.take (k + 1) = ys.take (k + 1) := by
  rw [List.take_add_one, List.take_add_one, h, hx, hy, he]

theorem eqIQ (v u : Value) (xs ys : List Int) (w : World) (hx : RdI w v xs) (hy : RdI w u ys) (b : Bool) (hb : decide (xs = ys) = b) :
    Calls Try.prog 17 #[v, u] w fun e w' => e = .returned (.bool b) ∧ ∃ n, w' = w.drewN n := by
  subst hb
  obtain ⟨A, c, rfl, hi, _⟩ := hx
  obtain ⟨A', c', rfl, hi', _⟩ := hy
  exact eqIntS_any A A' c c' xs ys w hi hi'

theorem eqSQ (v u : Value) (xss yss : List (List Int)) (w : World) (hx : RdS w v xss) (hy : RdS w u yss) :
    Calls Try.prog 25 #[v, u] w fun e w' => e = .returned (.bool (decide (xss = yss))) ∧ ∃ n, w' = w.drewN n := by
  obtain ⟨A, c, rfl, hmx, hrx⟩ := hx
  obtain ⟨A', c', rfl, hmy, hry⟩ := hy
  have Hrx := Lib.hid hrx; clear hrx
  have Hry := Lib.hid hry; clear hry
  by_cases hlen : xss.length = yss.length
  · rw [← hlen]
    have Hlen := Lib.hid hlen
    have h1 : yss.length ≤ xss.length := by omega
    have h2 : xss.length ≤ yss.length := by omega
    clear hlen
    go_enter Try.func25, Try.ntmps25
    go_wp2
    go_loopw [5] (fun i wr => ∃ k : Nat, k ≤ xss.length ∧ i = .int .i64 k ∧ (∃ n, wr = w.drewN n) ∧ xss.take k = yss.take k) (fun i _ => xss.length - (intOf i).toNat)
    case atStart => exact ⟨0, Nat.zero_le _, rfl, ⟨0, rfl⟩, rfl⟩
    case round =>
      obtain ⟨k, hk, rfl, hq, ht⟩ := hrel
      have Ht := Lib.hid ht; clear ht
      have Hq := Lib.hid hq; clear hq
      by_cases hlt : k < xss.length
      · obtain ⟨b, off, rfl, hb, hc⟩ := Hrx.out (by omega)
        obtain ⟨b', off', rfl, hb', hc'⟩ := Hry.out (by omega)
        have hkx : xss[k]? = some xss[k] := List.getElem?_eq_getElem hlt
        have hky : yss[k]? = some (yss[k]'(by omega)) := List.getElem?_eq_getElem (by omega)
        obtain ⟨u1, hcell, hr1⟩ := hc k _ hkx
        obtain ⟨u2, hcell', hr2⟩ := hc' k _ hky
        have hbw : Below w.heap.size w wr := quiet_below Hq.out
        have R1 := Lib.hid ((hr1.below hbw).rd hbw.size)
        have R2 := Lib.hid ((hr2.below hbw).rd hbw.size)
        have hs : xss[k] = yss[k]'(by omega) → xss.take (k + 1) = yss.take (k + 1) := fun he => take_succ_eqS hkx hky Ht.out he
        have hn : xss[k] ≠ yss[k]'(by omega) → xss ≠ yss := fun he e => he (by subst e; rfl)
        replace hcell := (hbw.cell (p := ⟨b, off + k, none⟩) hb).trans hcell
        replace hcell' := (hbw.cell (p := ⟨b', off' + k, none⟩) hb').trans hcell'
        clear hc hc' hkx hky hr1 hr2 hbw
        have hlt' : (k : Int) < xss.length := by omega
        have hlt2 : (k : Int) < yss.length := by omega
        have Hs := Lib.hid hs; clear hs
        have Hn := Lib.hid hn; clear hn
        generalize xss[k] = x at *
        generalize yss[k]'(by omega) = y at *
        generalize hd : decide (x = y) = d
        have Hd := Lib.hid hd; clear hd
        go_wp2
        go_quiet ((go_at_call 17; go_loud (exact Calls.quiet_of (eqIQ u1 u2 x y _ (R1.out.step (below_drewN (Below.refl _ _) _)) (R2.out.step (below_drewN (Below.refl _ _) _)) d Hd.out))))
        rcases d with _ | _
        · have hf : ¬ xss = yss := Hn.out (of_decide_eq_false Hd.out)
          have Hf := Lib.hid hf; clear hf
          go_wp2
          go_ret
          exact ⟨ret_bool (by simp [Hf.out]), quiet_trans Hq.out ⟨_, rfl⟩⟩
        · have hs := Hs.out (of_decide_eq_true Hd.out)
          have Hs' := Lib.hid hs; clear hs
          go_wp2
          go_roundw
          case rel => exact ⟨k + 1, by omega, by go_num, quiet_trans Hq.out ⟨_, rfl⟩, Hs'.out⟩
          case measure => simp [intOf]; omega
      · have hfin : xss = yss := by
          have := Ht.out
          rwa [List.take_of_length_le (by omega), List.take_of_length_le (by omega)] at this
        have Hf := Lib.hid hfin; clear hfin
        go_wp2
        go_ret
        exact ⟨ret_bool (by simp [Hf.out]), Hq.out⟩
  · have hne : ¬ xss = yss := fun e => hlen (by rw [e])
    have hb : ((xss.length : Int) != (yss.length : Int)) = true := by rw [bne_iff_ne]; omega
    have Hne := Lib.hid hne; clear hne
    clear hlen
    go_enter Try.func25, Try.ntmps25
    go_wp2
    go_ret
    exact ⟨ret_bool (by simp [Hne.out]), 0, rfl⟩
theorem eqS (v u : Value) (xs ys : List (List Int)) (w : World) (hx : RdS w v xs) (hy : RdS w u ys) (b : Bool) (hb : decide (xs = ys) = b) :
    Calls Try.prog 25 #[v, u] w fun e w' => e = .returned (.bool b) ∧ Below w.heap.size w w' := by
  refine (eqSQ v u xs ys w hx hy).mono ?_
  rintro e w' ⟨rfl, hq⟩
  exact ⟨by rw [hb], quiet_below hq⟩

/-- Rows of rows of the call's own: the outer row and each inner one in a block of its own, from lo on and below hi. -/
structure OwnVs (w : World) (lo hi : Nat) (v : Value) (vs : List Value) (zss : List (List Int)) : Prop where
  len : vs.length = zss.length
  row : w.ownsRow lo 22 1 v zss.length vs
  lt : ∀ g, v.ownBlock = some g → g < hi
  inner : ∀ (j : Nat) u zs, vs[j]? = some u → zss[j]? = some zs → OwnI w lo hi u zs
  apart : ∀ (i j : Nat) u u' g, i ≠ j → vs[i]? = some u → vs[j]? = some u' → u.ownBlock = some g → u'.ownBlock ≠ some g
def OwnS (w : World) (lo hi : Nat) (v : Value) (zss : List (List Int)) : Prop := ∃ vs, OwnVs w lo hi v vs zss
def szS : List (List Int) → Nat
  | [] => 0
  | zs :: r => zs.length + szS r
def mkS : Int → List (List Int) → List (List Int)
  | _, [] => []
  | a, zs :: r => marks a zs.length :: mkS (a + zs.length) r
theorem mkS_length (a : Int) (zss : List (List Int)) : (mkS a zss).length = zss.length := by
  induction zss generalizing a with
  | nil => rfl
  | cons z r ih => simp [mkS, ih]
theorem mkS_get (a : Int) (zss : List (List Int)) (j : Nat) (zs : List Int) (h : zss[j]? = some zs) : (mkS a zss)[j]? = some (marks (a + szS (zss.take j)) zs.length) := by
  induction zss generalizing a j with
  | nil => simp at h
  | cons z r ih =>
    rcases j with _ | j
    · simp only [List.getElem?_cons_zero, Option.some.injEq] at h
      subst h
      simp [mkS, szS]
    · rw [mkS, List.getElem?_cons_succ, ih _ j (by simpa using h)]
      simp only [List.take_succ_cons, szS]
      rw [show a + (z.length : Int) + (szS (r.take j) : Int) = a + ((z.length + szS (r.take j) : Nat) : Int) from by omega]
theorem szS_take_succ (zss : List (List Int)) (j : Nat) (zs : List Int) (h : zss[j]? = some zs) : szS (zss.take (j + 1)) = szS (zss.take j) + zs.length := by
  induction zss generalizing j with
  | nil => simp at h
  | cons z r ih =>
    rcases j with _ | j
    · simp only [List.getElem?_cons_zero, Option.some.injEq] at h
      subst h
      simp [szS]
    · rw [List.take_succ_cons, List.take_succ_cons, szS, szS, ih j (by simpa using h)]; omega
theorem szS_take_le (zss : List (List Int)) (j : Nat) : szS (zss.take j) ≤ szS zss := by
  induction zss generalizing j with
  | nil => simp [szS]
  | cons z r ih =>
    rcases j with _ | j
    · simp [szS]
    · rw [List.take_succ_cons, szS, szS]; have := ih j; omega

section
variable {w w' : World} {lo hi lo' hi' : Nat} {v : Value} {zss : List (List Int)}
theorem OwnVs.inner_ne {vs : List Value} (h : OwnVs w lo hi v vs zss) {j : Nat} {u : Value} {zs : List Int} (hu : vs[j]? = some u) (hz : zss[j]? = some zs) : v.ownBlock = none ∨ v.ownBlock ≠ u.ownBlock := by
  rcases h.row.2 with ⟨rfl, _⟩ | ⟨g, cap, cur, rfl, _, hh, _⟩
  · exact .inl rfl
  · refine .inr fun e => ?_
    rcases (h.inner j u zs hu hz).own.own.2 with ⟨rfl, _⟩ | ⟨g', cap', cur', rfl, _, hh', _⟩
    · simp [Value.ownBlock] at e
    · simp only [Value.ownBlock, Option.some.injEq] at e
      subst e
      rw [hh] at hh'
      injection hh' with hh'
      injection hh' with _ ht
      exact absurd ht (by decide)
theorem OwnS.below (h : OwnS w lo hi v zss) (hb : Below w.heap.size w w') : OwnS w' lo hi v zss := by
  obtain ⟨vs, h⟩ := h
  refine ⟨vs, h.len, h.row.kept (row := none) (only_of_below hb none) ?_, h.lt, fun j u zs hu hz => (h.inner j u zs hu hz).below hb, h.apart⟩
  rcases e : v.ownBlock with _ | g
  · exact .inl rfl
  · exact .inr (by simp)
theorem OwnS.apart (h : OwnS w lo hi v zss) (hw : Within lo' hi' w w') (hd : hi ≤ lo' ∨ hi' ≤ lo) : OwnS w' lo hi v zss := by
  obtain ⟨vs, h⟩ := h
  refine ⟨vs, h.len, ⟨h.row.1, ?_⟩, h.lt, fun j u zs hu hz => (h.inner j u zs hu hz).apart hw hd, h.apart⟩
  rcases h.row.2 with h0 | ⟨g, cap, cur, rfl, hb, hh, h1⟩
  · exact .inl h0
  · have hg := h.lt g rfl
    exact .inr ⟨g, cap, cur, rfl, hb, (hw.block g (h.row.lt g rfl).2 (by omega)).trans hh, h1⟩
theorem OwnS.belowB {B : Nat} (h : OwnS w lo hi v zss) (hb : Below B w w') (hB : hi ≤ B) : OwnS w' lo hi v zss := by
  obtain ⟨vs, h⟩ := h
  refine ⟨vs, h.len, ⟨h.row.1, ?_⟩, h.lt, fun j u zs hu hz => (h.inner j u zs hu hz).belowB hb hB, h.apart⟩
  rcases h.row.2 with h0 | ⟨g, cap, cur, rfl, hb', hh, h1⟩
  · exact .inl h0
  · have hg := h.lt g rfl
    exact .inr ⟨g, cap, cur, rfl, hb', (hb.block g (by omega)).trans hh, h1⟩
theorem RdBS.get {w : World} {B n c : Nat} {A : Option Addr} {zss : List (List Int)} (h : RdBS w B (.slice A n c) zss) {j : Nat} {zs : List Int} (hz : zss[j]? = some zs) :
    ∃ b off u, A = some ⟨b, off, none⟩ ∧ b < B ∧ w.cell? ⟨b, off + j, none⟩ = some u ∧ RdBI w B u zs := by
  obtain ⟨A', c', he, hl, hat⟩ := h
  cases he
  have h0 : 0 < zss.length := by
    rcases Nat.eq_zero_or_pos zss.length with h | h
    · rw [List.getElem?_eq_none (by omega)] at hz; cases hz
    · exact h
  obtain ⟨b, off, rfl, hb, hc⟩ := hat h0
  obtain ⟨u, hu, hr⟩ := hc j zs hz
  exact ⟨b, off, u, rfl, hb, hu, hr⟩
theorem OwnVs.form {vs : List Value} (h : OwnVs w lo hi v vs zss) : (v = .slice none 0 0 ∧ zss.length = 0) ∨ ∃ g cap, v = .slice (some ⟨g, 0, none⟩) zss.length cap ∧ g < w.heap.size ∧ (∀ j u, vs[j]? = some u → w.cell? ⟨g, j, none⟩ = some u) := by
  rcases h.row.2 with h0 | ⟨g, cap, cur, rfl, hb, hh, h1⟩
  · exact .inl h0
  · refine .inr ⟨g, cap, rfl, (h.row.lt g rfl).2, fun j u hu => ?_⟩
    have hj : j < vs.length := by
      rcases Nat.lt_or_ge j vs.length with h | h
      · exact h
      · rw [List.getElem?_eq_none h] at hu; cases hu
    rw [h.row.cellAt j (by rw [Nat.mul_one, ← h.len]; exact hj), hu]
theorem OwnVs.len_le {vs : List Value} (h : OwnVs w lo hi v vs zss) : zss.length ≤ 9223372036854775807 := by
  rcases h.row.2 with ⟨_, h0⟩ | ⟨g, cap, cur, _, _, _, h1, h2, _⟩
  · omega
  · unfold maxLen at h2; omega
theorem OwnS.rd (h : OwnS w lo hi v zss) : RdS w v zss := by
  obtain ⟨vs, h⟩ := h
  have hl := h.len_le
  rcases h.form with ⟨rfl, h0⟩ | ⟨g, cap, rfl, hg, hc⟩
  · exact ⟨none, 0, by rw [h0], hl, fun h1 => by omega⟩
  · refine ⟨_, cap, rfl, hl, fun h1 => ⟨g, 0, rfl, hg, fun j zs hz => ?_⟩⟩
    have hj : j < vs.length := by
      rw [h.len]
      rcases Nat.lt_or_ge j zss.length with h | h
      · exact h
      · rw [List.getElem?_eq_none h] at hz; cases hz
    have hu : vs[j]? = some vs[j] := List.getElem?_eq_getElem hj
    exact ⟨vs[j], by rw [Nat.zero_add]; exact hc j _ hu, (h.inner j _ zs hu hz).rd⟩
end

theorem markS (v : Value) (zss : List (List Int)) (a : Int) (lo hi : Nat) (w : World) (ha : 0 ≤ a ∧ a ≤ 900000000) (hl : szS zss ≤ 90000000) (h : OwnS w lo hi v zss) :
    Calls Try.prog 28 #[v, .int .i64 a] w fun e w' => e = .returned (.int .i64 (a + szS zss)) ∧ OwnS w' lo hi v (mkS a zss) ∧ Within lo hi w w' := by
  obtain ⟨vs, h⟩ := h
  have hlen := h.len_le
  have Hln := Lib.hid h.len
  have Hap := Lib.hid h.apart
  have Hlt := Lib.hid h.lt
  have Hne : Hid (∀ (j : Nat) u, vs[j]? = some u → v.ownBlock = none ∨ v.ownBlock ≠ u.ownBlock) := Lib.hid fun j u hu => by
    have hj : j < zss.length := by
      rw [← h.len]
      rcases Nat.lt_or_ge j vs.length with h | h
      · exact h
      · rw [List.getElem?_eq_none h] at hu; cases hu
    exact h.inner_ne hu (List.getElem?_eq_getElem hj)
  have Hform := Lib.hid h.form
  have Hrow := Lib.hid h.row
  have Hin := Lib.hid h.inner
  clear h
  obtain ⟨A, c, rfl, Hcell⟩ : ∃ A c, v = .slice A zss.length c ∧ Hid (∀ wr : World, wr.ownsRow lo 22 1 v zss.length vs → ∀ (j : Nat) u, vs[j]? = some u → ∃ g, A = some ⟨g, 0, none⟩ ∧ wr.cell? ⟨g, j, none⟩ = some u) := by
    rcases Hform.out with ⟨rfl, h0⟩ | ⟨g, cap, rfl, hg, hc⟩
    · refine ⟨none, 0, by rw [h0], Lib.hid fun wr hr j u hu => ?_⟩
      have : vs = [] := List.eq_nil_of_length_eq_zero (by rw [Hln.out, h0])
      subst this; simp at hu
    · refine ⟨_, _, rfl, Lib.hid fun wr hr j u hu => ⟨g, rfl, ?_⟩⟩
      have hj : j < vs.length := by
        rcases Nat.lt_or_ge j vs.length with h | h
        · exact h
        · rw [List.getElem?_eq_none h] at hu; cases hu
      rw [hr.cellAt j (by rw [Nat.mul_one, ← Hln.out]; exact hj), hu]
  go_enter Try.func28, Try.ntmps28
  go_wp2
  go_loopw [1, 5] (fun a' i wr => ∃ k : Nat, k ≤ zss.length ∧ i = .int .i64 k ∧ a' = .int .i64 (a + (szS (zss.take k) : Nat)) ∧ Within lo hi w wr ∧ wr.ownsRow lo 22 1 (.slice A zss.length c) zss.length vs ∧
    (∀ (j : Nat) u zs, vs[j]? = some u → zss[j]? = some zs → k ≤ j → OwnI wr lo hi u zs) ∧ (∀ (j : Nat) u ms, vs[j]? = some u → (mkS a zss)[j]? = some ms → j < k → OwnI wr lo hi u ms)) (fun _ i _ => zss.length - (intOf i).toNat)
  case atStart => exact ⟨0, Nat.zero_le _, rfl, by simp [szS], Within.of_below (Below.refl _ _), Hrow.out, fun j u zs hu hz _ => Hin.out j u zs hu hz, fun j u ms _ _ h => by omega⟩
  case round =>
    clear Hrow Hin
    obtain ⟨k, hk, rfl, rfl, hwi, hrow, hto, hdone⟩ := hrel
    have Hwi := Lib.hid hwi; clear hwi
    have Hrow := Lib.hid hrow; clear hrow
    have Hto := Lib.hid hto; clear hto
    have Hdone := Lib.hid hdone; clear hdone
    by_cases hlt : k < zss.length
    · have hz : zss[k]? = some zss[k] := List.getElem?_eq_getElem hlt
      have hu : vs[k]? = some (vs[k]'(by rw [Hln.out]; exact hlt)) := List.getElem?_eq_getElem _
      generalize zss[k] = zs at *
      generalize vs[k]'(by rw [Hln.out]; exact hlt) = u at *
      obtain ⟨g, rfl, hcell⟩ := Hcell.out wr Hrow.out k u hu
      have hown := Hto.out k u zs hu hz (Nat.le_refl _)
      have hmk := mkS_get a zss k zs hz
      have hsz := szS_take_succ zss k zs hz
      have hle := szS_take_le zss (k + 1)
      have Hz := Lib.hid hz; clear hz
      have Hu := Lib.hid hu; clear hu
      have Hown := Lib.hid hown; clear hown
      have Hmk := Lib.hid hmk; clear hmk
      have Hsz := Lib.hid hsz
      have hle1 : szS (zss.take k) + zs.length ≤ 90000000 := by omega
      clear hsz hle
      have hlt' : (k : Int) < zss.length := by omega
      obtain ⟨s, Hs⟩ : ∃ s, Hid (szS (zss.take k) = s) := ⟨_, Lib.hid rfl⟩
      rw [Hs.out] at hle1 ⊢
      go_wp2_with fail
      refine (mark_own lo zs u (a + s) _ (by omega) (by omega) Hown.out.own).mono ?_
      rintro e w2 ⟨rfl, ho, hg⟩
      have hw2 : Within lo hi w w2 := by
        have h1 : Within lo hi wr w2 := Within.of_only hg fun g' hg' => ⟨(Hown.out.own.ge g' hg').1, Hown.out.lt g' hg'⟩
        exact ⟨h1.os.trans Hwi.out.os, h1.tape.trans Hwi.out.tape, h1.output.trans Hwi.out.output, Nat.le_trans Hwi.out.size h1.size, fun q hq hn => (h1.block q (Nat.lt_of_lt_of_le hq Hwi.out.size) hn).trans (Hwi.out.block q hq hn)⟩
      have hrow2 := Hrow.out.kept hg (Hne.out k u Hu.out)
      have hsep : ∀ (j : Nat) u', j ≠ k → vs[j]? = some u' → u'.ownBlock = none ∨ u'.ownBlock ≠ u.ownBlock := by
        intro j u' hj hu'
        rcases e : u'.ownBlock with _ | g'
        · exact .inl rfl
        · exact .inr fun e2 => Hap.out j k u' u g' hj hu' Hu.out e e2.symm
      have hto2 : ∀ (j : Nat) u' zs', vs[j]? = some u' → zss[j]? = some zs' → k + 1 ≤ j → OwnI w2 lo hi u' zs' := fun j u' zs' hu' hz' hj =>
        ⟨(Hto.out j u' zs' hu' hz' (by omega)).own.only hg (hsep j u' (by omega) hu'), (Hto.out j u' zs' hu' hz' (by omega)).lt⟩
      have hdone2 : ∀ (j : Nat) u' ms, vs[j]? = some u' → (mkS a zss)[j]? = some ms → j < k + 1 → OwnI w2 lo hi u' ms := by
        intro j u' ms hu' hm hj
        by_cases hjk : j = k
        · subst hjk
          rw [Hmk.out] at hm
          rw [Hu.out] at hu'
          cases hm; cases hu'
          rw [Hs.out]
          exact ⟨ho, Hown.out.lt⟩
        · exact ⟨(Hdone.out j u' ms hu' hm (by omega)).own.only hg (hsep j u' hjk hu'), (Hdone.out j u' ms hu' hm (by omega)).lt⟩
      have X : Hid _ := Lib.hid (And.intro hw2 (And.intro hrow2 (And.intro hto2 hdone2)))
      clear hw2 hrow2 hto2 hdone2 hsep hg ho
      go_wp2
      go_roundw
      case rel => exact ⟨k + 1, by omega, by go_num, by rw [Hsz.out, Hs.out]; go_num, X.out⟩
      case measure => simp [intOf]; omega
    · have hke : k = zss.length := by omega
      have hall : zss.take k = zss := List.take_of_length_le (by omega)
      have Hk := Lib.hid hke; clear hke
      have Ha := Lib.hid hall; clear hall
      go_wp2
      go_ret
      refine ⟨ret_i64 (by rw [Ha.out]), ⟨vs, by rw [mkS_length]; exact Hln.out, by rw [mkS_length]; exact Hrow.out, Hlt.out, fun j u ms hu hm => Hdone.out j u ms hu hm ?_, Hap.out⟩, Hwi.out⟩
      rw [Hk.out, ← Hln.out]
      rcases Nat.lt_or_ge j vs.length with h | h
      · exact h
      · rw [List.getElem?_eq_none h] at hu; cases hu

theorem heldS (v : Value) (zss : List (List Int)) (a : Int) (w : World) (ha : 0 ≤ a ∧ a ≤ 900000000) (hl : szS zss ≤ 90000000) (h : RdS w v (mkS a zss)) :
    Calls Try.prog 29 #[v, .int .i64 a] w fun e w' => e = .returned (.int .i64 (a + szS zss)) ∧ Below w.heap.size w w' := by
  obtain ⟨A, c, rfl, hm, hr⟩ := h
  rw [mkS_length] at hm hr ⊢
  have Hr := Lib.hid hr; clear hr
  go_enter Try.func29, Try.ntmps29
  go_wp2
  go_loop [1, 5] (fun a' i => ∃ k : Nat, k ≤ zss.length ∧ i = .int .i64 k ∧ a' = .int .i64 (a + (szS (zss.take k) : Nat))) (fun _ i => zss.length - (intOf i).toNat)
  case atStart => exact ⟨0, Nat.zero_le _, rfl, by simp [szS]⟩
  case round =>
    obtain ⟨k, hk, rfl, rfl⟩ := hrel
    by_cases hlt : k < zss.length
    · obtain ⟨b, off, rfl, hb, hc⟩ := Hr.out (by omega)
      have hz : zss[k]? = some zss[k] := List.getElem?_eq_getElem hlt
      generalize zss[k] = zs at *
      obtain ⟨u, hcell, hu⟩ := hc k _ (mkS_get a zss k zs hz)
      have hsz := szS_take_succ zss k zs hz
      have hle := szS_take_le zss (k + 1)
      have Hsz := Lib.hid hsz
      have hle1 : szS (zss.take k) + zs.length ≤ 90000000 := by omega
      clear hsz hle hz hc
      obtain ⟨s, Hs⟩ : ∃ s, Hid (szS (zss.take k) = s) := ⟨_, Lib.hid rfl⟩
      rw [Hs.out] at hle1 hu ⊢
      have HU := Lib.hid hu; clear hu
      have hlt' : (k : Int) < zss.length := by omega
      obtain ⟨A1, c1, rfl, hi1, _⟩ := HU.out
      rw [marks_length] at hcell
      have Hi1 := Lib.hid hi1; clear hi1
      go_wp2_with fail
      refine (heldIntS_any A1 c1 zs.length (a + s) _ (by omega) (by omega) Hi1.out).mono ?_
      rintro e w2 ⟨rfl, rfl⟩
      have hnn : ¬ (a + (s : Int) + zs.length < 0) := by omega
      go_wp2
      go_round
      case rel => exact ⟨k + 1, by omega, by go_num, by rw [Hsz.out, Hs.out]; go_num⟩
      case measure => simp [intOf]; omega
    · have hall : zss.take k = zss := List.take_of_length_le (by omega)
      have Ha := Lib.hid hall; clear hall
      go_wp2
      go_ret
      exact ⟨ret_i64 (by rw [Ha.out]), Below.refl _ _⟩
end Go.Proofs.Ytkiedpdhehehfaa
