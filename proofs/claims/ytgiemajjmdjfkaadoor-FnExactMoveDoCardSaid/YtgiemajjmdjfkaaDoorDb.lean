/- The draws of chapter 2's first laws: a stack, a program, a value. Only that something comes, in memory of its own, not too long. -/
import Derived.Test.YtgiemajjmdjfkaaDoorDa
namespace Go.Proofs.YtgiemajjmdjfkaaDoor
set_option maxRecDepth 100000
open Go.RowKit Go.WideShapes

/-- A drawn stack. -/
def DrawnS (w : World) (e : Ending) (w' : World) : Prop := ∃ v zss, e = .returned v ∧ OwnS w' w.heap.size w'.heap.size v zss ∧ (zss.length ≤ 21 ∧ ∀ zs ∈ zss, zs.length ≤ 200) ∧ Below w.heap.size w w'
/-- A drawn value, or what is none. -/
def DrawnV (w : World) (e : Ending) (w' : World) : Prop := ∃ v zs, e = .returned v ∧ OwnI w' w.heap.size w'.heap.size v zs ∧ zs.length ≤ 200 ∧ Below w.heap.size w w'

theorem szS_200 {zss : List (List Int)} (h : ∀ zs ∈ zss, zs.length ≤ 200) : szS zss ≤ 200 * zss.length := by
  induction zss with
  | nil => simp [szS]
  | cons z r ih =>
    have h1 := h z List.mem_cons_self
    have h2 := ih (fun zs hz => h zs (List.mem_cons_of_mem _ hz))
    rw [szS, List.length_cons]; omega
theorem flat_200 {zss : List (List Int)} (h : ∀ zs ∈ zss, zs.length ≤ 200) : zss.flatten.length ≤ 200 * zss.length := by
  induction zss with
  | nil => simp
  | cons z r ih =>
    have h1 := h z List.mem_cons_self
    have h2 := ih (fun zs hz => h zs (List.mem_cons_of_mem _ hz))
    rw [List.flatten_cons, List.length_append, List.length_cons]; omega

/-- A drawn program, longer maybe. -/
def DrawnP (w : World) (e : Ending) (w' : World) : Prop := ∃ v zs, e = .returned v ∧ OwnI w' w.heap.size w'.heap.size v zs ∧ zs.length ≤ 10000 ∧ Below w.heap.size w w'

theorem stackProgR_short {x0 : List (List Int)} (h : x0.length ≤ 21 ∧ ∀ zs ∈ x0, zs.length ≤ 200) : (stackProgR x0).1.length ≤ 10000 := by
  unfold stackProgR
  split
  · have := flat_200 h.2; show x0.flatten.length ≤ 10000; omega
  · show ([] : List Int).length ≤ 10000; simp

end Go.Proofs.YtgiemajjmdjfkaaDoor
