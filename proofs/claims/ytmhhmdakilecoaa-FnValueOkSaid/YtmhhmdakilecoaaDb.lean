/- The draws of chapter 2's first laws: a stack, a program, a value. Only that something comes, in memory of its own, not too long. -/
import Derived.Test.YtmhhmdakilecoaaDa
namespace Go.Proofs.Ytmhhmdakilecoaa
set_option maxRecDepth 100000
open Go.RowKit Go.WideShapes

/-- A drawn stack. -/
def DrawnS (w : World) (e : Ending) (w' : World) : Prop := ∃ v zss, e = .returned v ∧ OwnS w' w.heap.size w'.heap.size v zss ∧ (zss.length ≤ 21 ∧ ∀ zs ∈ zss, zs.length ≤ 200) ∧ Below w.heap.size w w'
/-- A drawn value, or what is none. -/
def DrawnV (w : World) (e : Ending) (w' : World) : Prop := ∃ v zs, e = .returned v ∧ OwnI w' w.heap.size w'.heap.size v zs ∧ zs.length ≤ 200 ∧ Below w.heap.size w w'

theorem DrawStackOk_any (v : Value) (zs : List Int) (w : World) (h : RdC w v zs) : Calls Try.prog 26 #[v] w (DrawnS w) := by
  have H := Lib.hid h; clear h
  go_enter Try.func26, Try.ntmps26
  go_wp2_with fail
  refine (l20Open_any v zs _ H.out).mono ?_
  rintro e w1 ⟨g, bs, rfl, hr, hg, hb⟩
  have X := Lib.hid (And.intro hr hb); clear hr hb
  have hs := X.out.2.size
  go_wp2_with fail
  refine (stack 5 3 w1 g 0 bs _ (by omega) (by omega) (RS.refl X.out.1) (by omega)).mono ?_
  rintro e w2 ⟨u, yss, p2, rfl, ho, hl, hy, hr2, hp2, hg2⟩
  have Y := Lib.hid (And.intro ho (And.intro (And.intro hl hy) (below_of_within X.out.2 hg hg2))); clear ho hl hy hr2 hg2
  go_wp2_with fail
  go_ret
  exact ⟨u, yss, rfl, Y.out.1.mono hs, Y.out.2.1, Y.out.2.2⟩

theorem DrawStackProg_any (v : Value) (zs : List Int) (w : World) (h : RdC w v zs) : Calls Try.prog 29 #[v] w (DrawnS w) := by
  have H := Lib.hid h; clear h
  go_enter Try.func29, Try.ntmps29
  go_wp2_with fail
  refine (l20Open_any v zs _ H.out).mono ?_
  rintro e w1 ⟨g, bs, rfl, hr, hg, hb⟩
  have X := Lib.hid (And.intro hr hb); clear hr hb
  have hs := X.out.2.size
  go_wp2_with fail
  refine (stack 6 9 w1 g 0 bs _ (by omega) (by omega) (RS.refl X.out.1) (by omega)).mono ?_
  rintro e w2 ⟨u, yss, p2, rfl, ho, hl, hy, hr2, hp2, hg2⟩
  have Y := Lib.hid (And.intro ho (And.intro (And.intro hl hy) (below_of_within X.out.2 hg hg2))); clear ho hl hy hr2 hg2
  go_wp2_with fail
  go_ret
  exact ⟨u, yss, rfl, Y.out.1.mono hs, Y.out.2.1, Y.out.2.2⟩

theorem DrawValueOk_any (v : Value) (zs : List Int) (w : World) (h : RdC w v zs) : Calls Try.prog 19 #[v] w (DrawnV w) := by
  have H := Lib.hid h; clear h
  go_enter Try.func19, Try.ntmps19
  go_wp2_with fail
  refine (l20Open_any v zs _ H.out).mono ?_
  rintro e w1 ⟨g, bs, rfl, hr, hg, hb⟩
  have X := Lib.hid (And.intro hr hb); clear hr hb
  have hs := X.out.2.size
  have hgl := X.out.1.lt
  go_wp2_with fail
  refine (pick w1 g 0 3 bs _ (RS.refl X.out.1) (by omega) (by omega)).mono ?_
  rintro e w2 ⟨x, rfl, hx0, hx1, hr2, hg2⟩
  have hs2 := hg2.size
  have Y := Lib.hid (And.intro hr2 (below_of_within X.out.2 hg hg2)); clear hr2 hg2 X
  by_cases hx : x = 0
  · subst hx
    go_wp2_with fail
    refine (prog 3 5 w1 g (0 + 1) bs _ (by omega) (by omega) Y.out.1 (by omega)).mono ?_
    rintro e w3 ⟨u, ys, p2, rfl, ho, hl, hr3, hp2, hg3⟩
    have Z := Lib.hid (And.intro ho (Below.trans Y.out.2 (hg3.below hg (by omega)))); clear ho hr3 hg3
    go_wp2_with fail
    go_ret
    exact ⟨u, ys, rfl, ⟨Z.out.1.own.mono (by omega), Z.out.1.lt⟩, by omega, Z.out.2⟩
  · have hxb : (x == 0) = false := by simpa using hx
    go_wp2_with fail
    refine (value w1 g (0 + 1) bs _ Y.out.1 (by omega)).mono ?_
    rintro e w3 ⟨u, ys, p2, rfl, ho, hl, hr3, hp2, hg3⟩
    have Z := Lib.hid (And.intro ho (Below.trans Y.out.2 (hg3.below hg (by omega)))); clear ho hr3 hg3
    go_wp2_with fail
    go_ret
    exact ⟨u, ys, rfl, ⟨Z.out.1.own.mono (by omega), Z.out.1.lt⟩, by omega, Z.out.2⟩

theorem szS_200 {zss : List (List Int)} (h : ∀ zs ∈ zss, zs.length ≤ 200) : szS zss ≤ 200 * zss.length := by
  induction zss with
  | nil => simp [szS]
  | cons z r ih =>
    have h1 := h z List.mem_cons_self
    have h2 := ih (fun zs hz => h zs (List.mem_cons_of_mem _ hz))
    rw [szS, List.length_cons]; omega
theorem flat_200 {zss : List (List Int)} (h : ∀ zs ∈ zss, zs.length ≤ 200) : zss.flatten.length ≤ 200 * zss.length := by
  induction zss with
  | nil => simp
  | cons z r ih =>
    have h1 := h z List.mem_cons_self
    have h2 := ih (fun zs hz => h zs (List.mem_cons_of_mem _ hz))
    rw [List.flatten_cons, List.length_append, List.length_cons]; omega

/-- A drawn program, longer maybe. -/
def DrawnP (w : World) (e : Ending) (w' : World) : Prop := ∃ v zs, e = .returned v ∧ OwnI w' w.heap.size w'.heap.size v zs ∧ zs.length ≤ 10000 ∧ Below w.heap.size w w'

theorem stackProgR_short {x0 : List (List Int)} (h : x0.length ≤ 21 ∧ ∀ zs ∈ x0, zs.length ≤ 200) : (stackProgR x0).1.length ≤ 10000 := by
  unfold stackProgR
  split
  · have := flat_200 h.2; show x0.flatten.length ≤ 10000; omega
  · show ([] : List Int).length ≤ 10000; simp

theorem DrawProgStack_any (v : Value) (zs : List Int) (w : World) (h : RdC w v zs) : Calls Try.prog 34 #[v] w (DrawnP w) := by
  have H := Lib.hid h; clear h
  go_enter Try.func34, Try.ntmps34
  go_wp2_with fail
  refine (l20Open_any v zs _ H.out).mono ?_
  rintro e w1 ⟨g, bs, rfl, hr, hg, hb⟩
  have X := Lib.hid (And.intro hr hb); clear hr hb
  have hs := X.out.2.size
  have hgl := X.out.1.lt
  go_wp2_with fail
  refine (stack 6 0 w1 g 0 bs _ (by omega) (by omega) (RS.refl X.out.1) (by omega)).mono ?_
  rintro e w2 ⟨u, yss, p2, rfl, ho, hl, hy, hr2, hp2, hg2⟩
  have hs2 := hg2.size
  have hsz := szS_200 hy
  have hq := stackProgR_short (x0 := yss) ⟨hl, hy⟩
  have Y := Lib.hid (And.intro ho (And.intro hr2 (below_of_within X.out.2 hg hg2))); clear ho hr2 hg2 hy
  rcases hR : stackProgR yss with ⟨y0, y1⟩
  rw [hR] at hq
  have HR := Lib.hid hR; clear hR
  go_wp2_with fail
  refine (StackProg_O _ yss _ Y.out.1.rd (by omega) (by omega) y0 y1 HR.out).mono ?_
  rintro e w3 ⟨u3, rfl, ho3, hb3⟩
  have hs3 := hb3.size
  have Z := Lib.hid (And.intro ho3 (And.intro (Y.out.2.1.below hb3 (by omega)) (Below.trans Y.out.2.2 (hb3.mono (by omega))))); clear ho3 hb3 Y HR
  rcases y1 with _ | _
  · go_wp2_with fail
    refine (prog 4 9 w1 g p2 bs _ (by omega) (by omega) Z.out.2.1 (by omega)).mono ?_
    rintro e w4 ⟨u4, ys4, p4, rfl, ho4, hl4, hr4, hp4, hg4⟩
    have T := Lib.hid (And.intro ho4 (Below.trans Z.out.2.2 (hg4.below hg (by omega)))); clear ho4 hr4 hg4
    go_wp2_with fail
    go_ret
    exact ⟨u4, ys4, rfl, T.out.1.low (by omega), by omega, T.out.2⟩
  · go_wp2_with fail
    refine (pick w1 g p2 2 bs _ Z.out.2.1 (by omega) (by omega)).mono ?_
    rintro e w4 ⟨x, rfl, hx0, hx1, hr4, hg4⟩
    have hs4 := hg4.size
    have T := Lib.hid (And.intro ((Z.out.1.apart hg4 (by omega))) (And.intro hr4 (Below.trans Z.out.2.2 (hg4.below hg (by omega))))); clear hr4 hg4 Z
    by_cases hx : x = 0
    · subst hx
      go_wp2_with fail
      go_ret
      exact ⟨u3, y0, rfl, ⟨(T.out.1.own.mono (by omega)), fun q hq => by have := T.out.1.lt q hq; omega⟩, hq, T.out.2.2⟩
    · have hxb : (x == 0) = false := by simpa using hx
      go_wp2_with fail
      refine (prog 4 9 w1 g (p2 + 1) bs _ (by omega) (by omega) T.out.2.1 (by omega)).mono ?_
      rintro e w5 ⟨u5, ys5, p5, rfl, ho5, hl5, hr5, hp5, hg5⟩
      have U := Lib.hid (And.intro ho5 (Below.trans T.out.2.2 (hg5.below hg (by omega)))); clear ho5 hr5 hg5
      go_wp2_with fail
      go_ret
      exact ⟨u5, ys5, rfl, U.out.1.low (by omega), by omega, U.out.2⟩
end Go.Proofs.Ytmhhmdakilecoaa
