/- The draws of chapter 2's first laws: a stack, a program, a value. Only that something comes, in memory of its own, not too long. -/
import Derived.Test.YtconlhhnolodbaaDa
namespace Go.Proofs.Ytconlhhnolodbaa
set_option maxRecDepth 100000
open Go.RowKit Go.WideShapes

/-- A drawn stack. -/
def DrawnS (w : World) (e : Ending) (w' : World) : Prop := ∃ v zss, e = .returned v ∧ OwnS w' w.heap.size w'.heap.size v zss ∧ (zss.length ≤ 21 ∧ ∀ zs ∈ zss, zs.length ≤ 200) ∧ Below w.heap.size w w'
/-- A drawn value, or what is none. -/
def DrawnV (w : World) (e : Ending) (w' : World) : Prop := ∃ v zs, e = .returned v ∧ OwnI w' w.heap.size w'.heap.size v zs ∧ zs.length ≤ 200 ∧ Below w.heap.size w w'

theorem DrawStackProg_any (v : Value) (zs : List Int) (w : World) (h : RdC w v zs) : Calls Try.prog 34 #[v] w (DrawnS w) := by
  have H := Lib.hid h; clear h
  go_enter Try.func34, Try.ntmps34
  go_wp2_with fail
  refine (l20Open_any v zs _ H.out).mono ?_
  rintro e w1 ⟨g, bs, rfl, hr, hg, hb⟩
  have X := Lib.hid (And.intro hr hb); clear hr hb
  have hs := X.out.2.size
  go_wp2_with fail
  refine (stack 6 9 w1 g 0 bs _ (by omega) (by omega) (RS.refl X.out.1) (by omega)).mono ?_
  rintro e w2 ⟨u, yss, p2, rfl, ho, hl, hy, hr2, hp2, hg2⟩
  have Y := Lib.hid (And.intro ho (And.intro (And.intro hl hy) (below_of_within X.out.2 hg hg2))); clear ho hl hy hr2 hg2
  go_wp2_with fail
  go_ret
  exact ⟨u, yss, rfl, Y.out.1.mono hs, Y.out.2.1, Y.out.2.2⟩

theorem DrawValueOk_any (v : Value) (zs : List Int) (w : World) (h : RdC w v zs) : Calls Try.prog 39 #[v] w (DrawnV w) := by
  have H := Lib.hid h; clear h
  go_enter Try.func39, Try.ntmps39
  go_wp2_with fail
  refine (l20Open_any v zs _ H.out).mono ?_
  rintro e w1 ⟨g, bs, rfl, hr, hg, hb⟩
  have X := Lib.hid (And.intro hr hb); clear hr hb
  have hs := X.out.2.size
  have hgl := X.out.1.lt
  go_wp2_with fail
  refine (pick w1 g 0 3 bs _ (RS.refl X.out.1) (by omega) (by omega)).mono ?_
  rintro e w2 ⟨x, rfl, hx0, hx1, hr2, hg2⟩
  have hs2 := hg2.size
  have Y := Lib.hid (And.intro hr2 (below_of_within X.out.2 hg hg2)); clear hr2 hg2 X
  by_cases hx : x = 0
  · subst hx
    go_wp2_with fail
    refine (prog 3 5 w1 g (0 + 1) bs _ (by omega) (by omega) Y.out.1 (by omega)).mono ?_
    rintro e w3 ⟨u, ys, p2, rfl, ho, hl, hr3, hp2, hg3⟩
    have Z := Lib.hid (And.intro ho (Below.trans Y.out.2 (hg3.below hg (by omega)))); clear ho hr3 hg3
    go_wp2_with fail
    go_ret
    exact ⟨u, ys, rfl, ⟨Z.out.1.own.mono (by omega), Z.out.1.lt⟩, by omega, Z.out.2⟩
  · have hxb : (x == 0) = false := by simpa using hx
    go_wp2_with fail
    refine (value w1 g (0 + 1) bs _ Y.out.1 (by omega)).mono ?_
    rintro e w3 ⟨u, ys, p2, rfl, ho, hl, hr3, hp2, hg3⟩
    have Z := Lib.hid (And.intro ho (Below.trans Y.out.2 (hg3.below hg (by omega)))); clear ho hr3 hg3
    go_wp2_with fail
    go_ret
    exact ⟨u, ys, rfl, ⟨Z.out.1.own.mono (by omega), Z.out.1.lt⟩, by omega, Z.out.2⟩

theorem szS_200 {zss : List (List Int)} (h : ∀ zs ∈ zss, zs.length ≤ 200) : szS zss ≤ 200 * zss.length := by
  induction zss with
  | nil => simp [szS]
  | cons z r ih =>
    have h1 := h z List.mem_cons_self
    have h2 := ih (fun zs hz => h zs (List.mem_cons_of_mem _ hz))
    rw [szS, List.length_cons]; omega
theorem flat_200 {zss : List (List Int)} (h : ∀ zs ∈ zss, zs.length ≤ 200) : zss.flatten.length ≤ 200 * zss.length := by
  induction zss with
  | nil => simp
  | cons z r ih =>
    have h1 := h z List.mem_cons_self
    have h2 := ih (fun zs hz => h zs (List.mem_cons_of_mem _ hz))
    rw [List.flatten_cons, List.length_append, List.length_cons]; omega

/-- A drawn program, longer maybe. -/
def DrawnP (w : World) (e : Ending) (w' : World) : Prop := ∃ v zs, e = .returned v ∧ OwnI w' w.heap.size w'.heap.size v zs ∧ zs.length ≤ 10000 ∧ Below w.heap.size w w'

theorem stackProgR_short {x0 : List (List Int)} (h : x0.length ≤ 21 ∧ ∀ zs ∈ x0, zs.length ≤ 200) : (stackProgR x0).1.length ≤ 10000 := by
  unfold stackProgR
  split
  · have := flat_200 h.2; show x0.flatten.length ≤ 10000; omega
  · show ([] : List Int).length ≤ 10000; simp

end Go.Proofs.Ytconlhhnolodbaa
