/- Contracts of StackProg, ProgStack and StateOk: the program's and the model's. -/
import Derived.Test.YtgiemajjmdjfkaaDoorQ
import Derived.Test.YtgiemajjmdjfkaaDoorRt
import Derived.Test.YtgiemajjmdjfkaaDoorPb
import Derived.Test.YtgiemajjmdjfkaaDoorH
namespace Go.Proofs.YtgiemajjmdjfkaaDoor
set_option maxRecDepth 100000
open Go.RowKit Go.WideShapes

theorem slrow_of_rd {w : World} {b off : Nat} {zss : List (List Int)} (h : ∀ j zs, zss[j]? = some zs → ∃ u, w.cell? ⟨b, off + j, none⟩ = some u ∧ RdBI w w.heap.size u zs) : ∃ ss : List Sl, ss.length = zss.length ∧ flat ss = zss.flatten ∧ SlRow w w.heap.size b off ss := by
  have key : ∀ k, k ≤ zss.length → ∃ ss : List Sl, ss.length = k ∧ flat ss = (zss.take k).flatten ∧ SlRow w w.heap.size b off ss := by
    intro k
    induction k with
    | zero => intro _; exact ⟨[], rfl, by simp [flat], ⟨by simp, by simp⟩⟩
    | succ k ih =>
      intro hk
      obtain ⟨ss, h1, h2, h3⟩ := ih (by omega)
      have hz : zss[k]? = some zss[k] := List.getElem?_eq_getElem (by omega)
      obtain ⟨u, hu, A, c, rfl, hi, hc⟩ := h k _ hz
      refine ⟨ss ++ [(A, c, zss[k])], by simp [h1], ?_, ⟨?_, ?_⟩⟩
      · rw [flat, List.map_append, List.flatten_append, ← flat, h2, List.take_add_one, hz, List.flatten_append]
        simp
      · intro j s hs
        by_cases hj : j < ss.length
        · rw [List.getElem?_append_left hj] at hs; exact h3.cell j s hs
        · have hjl : j = ss.length := by
            rcases Nat.lt_or_ge j (ss.length + 1) with h' | h'
            · omega
            · rw [List.getElem?_eq_none (by simp; omega)] at hs; cases hs
          subst hjl
          rw [List.getElem?_append_right (by omega)] at hs
          simp at hs; subst hs
          rw [h1]; exact hu
      · intro s hs
        rcases List.mem_append.1 hs with hs | hs
        · exact h3.ints s hs
        · simp at hs; subst hs; exact hi
  obtain ⟨ss, h1, h2, h3⟩ := key zss.length (Nat.le_refl _)
  exact ⟨ss, h1, by rw [h2, List.take_length], h3⟩

theorem concat_none (A : Option Addr) (c : Nat) (w : World) :
    Calls Tryd.prog 85 #[.slice A 0 c] w fun e w' => ∃ v, e = .returned v ∧ Own w' w.heap.size v [] ∧ Below w.heap.size w w' := by
  go_enter Tryd.func85, Tryd.ntmps85
  go_wp2
  go_loop [3, 11] (fun s i => i = .int .i64 0 ∧ s = .int .i64 0) (fun _ _ => 0)
  case atStart => exact ⟨rfl, rfl⟩
  case round =>
    obtain ⟨rfl, rfl⟩ := hrel
    go_wp2_with fail
    refine (grow_nil 0 _ (by omega)).mono ?_
    rintro e w1 ⟨v1, rfl, hown1, hb1⟩
    have X := Lib.hid (And.intro hown1 hb1); clear hown1 hb1
    go_wp2
    go_loopw [6, 27] (fun v i wr => i = .int .i64 0 ∧ v = v1 ∧ wr = w1) (fun _ _ _ => 0)
    case atStart => exact ⟨rfl, rfl, rfl⟩
    case round =>
      obtain ⟨rfl, rfl, rfl⟩ := hrel
      go_wp2
      go_ret
      exact ⟨_, rfl, ⟨by simpa using X.out.1, by simp⟩, X.out.2⟩

theorem concatS (v : Value) (zss : List (List Int)) (w : World) (h : RdS w v zss) (hn : zss.length ≤ 1000000) (hl : zss.flatten.length ≤ 1000000000) :
    Calls Tryd.prog 85 #[v] w fun e w' => ∃ v, e = .returned v ∧ Own w' w.heap.size v zss.flatten ∧ Below w.heap.size w w' := by
  obtain ⟨A, c, rfl, hm, hr⟩ := h
  by_cases h0 : 0 < zss.length
  · obtain ⟨b, off, rfl, hb, hc⟩ := hr h0
    obtain ⟨ss, h1, h2, h3⟩ := slrow_of_rd hc
    rw [← h1, ← h2]
    exact concat_any b off c ss w hb h3 (by omega) (by rw [h2]; exact hl)
  · have hz : zss = [] := List.eq_nil_of_length_eq_zero (by omega)
    subst hz
    exact concat_none A c w

def stackProgR (zss : List (List Int)) : List Int × Bool := if stackB zss = true ∧ zss.flatten.length ≤ 60 then (zss.flatten, true) else ([], false)
theorem flatten_len {zss : List (List Int)} (h : stackB zss = true) : zss.flatten.length ≤ 1200 := by
  obtain ⟨h1, h2⟩ := stackB_all h
  have key : ∀ l : List (List Int), (∀ v ∈ l, valueB v = true) → l.flatten.length ≤ 60 * l.length := by
    intro l
    induction l with
    | nil => simp
    | cons a r ih =>
      intro hv
      have := ih (fun v hv' => hv v (by simp [hv']))
      have := (valueB_len (hv a (by simp))).2
      rw [List.flatten_cons, List.length_append, List.length_cons]; omega
  have := key zss h2
  omega
theorem flatten_rest {zss : List (List Int)} (h : ∀ v ∈ zss, valueB v = true) : restB zss.flatten = true := by
  induction zss with
  | nil => rfl
  | cons a r ih =>
    rw [List.flatten_cons]
    exact restB_append (valueB_rest (h a (by simp))) (ih fun v hv => h v (by simp [hv]))
theorem flatten_valid {zss : List (List Int)} (h : stackB zss = true) : validB zss.flatten = decide (zss.flatten.length ≤ 60) := by
  have := flatten_rest (stackB_all h).2
  simp only [restB, Bool.and_eq_true] at this
  simp [validB, this.1, this.2]

def progStackR (p : List Int) : List (List Int) × Bool := if validB p = true ∧ stackB (partsR p) = true then (partsR p, true) else ([], false)
theorem OwnS.nil (w : World) (lo hi : Nat) : OwnS w lo hi (.slice none 0 0) [] := ⟨[], rfl, World.ownsRow_nil _ _ _ _, by simp [Value.ownBlock], by simp, by simp⟩
theorem OwnI.low {w : World} {lo lo' hi : Nat} {v : Value} {zs : List Int} (h : OwnI w lo' hi v zs) (hl : lo ≤ lo') : OwnI w lo hi v zs := ⟨h.own.mono hl, h.lt⟩
/-- An empty literal of rows. -/
theorem litS_nil (w : World) : OwnS (w.alloc (.cells #[] 23)) w.heap.size (w.heap.size + 1) (.slice (some ⟨w.heap.size, 0, none⟩) 0 0) [] := by
  have h : (w.alloc (.cells #[] 23)).ownsRow w.heap.size 23 1 (.slice (some ⟨w.heap.size, 0, none⟩) 0 0) 0 [] := by
    have := World.ownsRow_lit (base := w.heap.size) (size := 1) (e := 23) w #[] 0 (Nat.le_refl _) (by unfold maxLen; omega) (by simp)
    simpa using this
  exact ⟨[], rfl, h, fun g hg => by simp [Value.ownBlock] at hg; omega, by simp, by simp⟩
end Go.Proofs.YtgiemajjmdjfkaaDoor
