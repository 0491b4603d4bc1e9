/- Several texts in one. -/
import Derived.Test.YtceekfoacgoalaaB4
import Derived.Test.YtceekfoacgoalaaBc
import Derived.Test.YtceekfoacgoalaaB3
import Derived.Test.YtceekfoacgoalaaB1
import Derived.Test.YtceekfoacgoalaaB2
import Derived.Deep.Matrix
import Derived.Lib.SmallJoins
/- Contracts of StackProg, ProgStack and StateOk: the program's and the model's. -/
namespace Go.Proofs.Ytceekfoacgoalaa
set_option maxRecDepth 100000
open Go.RowKit Go.WideShapes

theorem slrow_of_rd {w : World} {b off : Nat} {zss : List (List Int)} (h : ∀ j zs, zss[j]? = some zs → ∃ u, w.cell? ⟨b, off + j, none⟩ = some u ∧ RdBI w w.heap.size u zs) : ∃ ss : List Sl, ss.length = zss.length ∧ flat ss = zss.flatten ∧ SlRow w w.heap.size b off ss := by
  have key : ∀ k, k ≤ zss.length → ∃ ss : List Sl, ss.length = k ∧ flat ss = (zss.take k).flatten ∧ SlRow w w.heap.size b off ss := by
    intro k
    induction k with
    | zero => intro _; exact ⟨[], rfl, by simp [flat], ⟨by simp, by simp⟩⟩
    | succ k ih =>
      intro hk
      obtain ⟨ss, h1, h2, h3⟩ := ih (by omega)
      have hz : zss[k]? = some zss[k] := List.getElem?_eq_getElem (by omega)
      obtain ⟨u, hu, A, c, rfl, hi, hc⟩ := h k _ hz
      refine ⟨ss ++ [(A, c, zss[k])], by simp [h1], ?_, ⟨?_, ?_⟩⟩
      · rw [flat, List.map_append, List.flatten_append, ← flat, h2, List.take_add_one, hz, List.flatten_append]
        simp
      · intro j s hs
        by_cases hj : j < ss.length
        · rw [List.getElem?_append_left hj] at hs; exact h3.cell j s hs
        · have hjl : j = ss.length := by
            rcases Nat.lt_or_ge j (ss.length + 1) with h' | h'
            · omega
            · rw [List.getElem?_eq_none (by simp; omega)] at hs; cases hs
          subst hjl
          rw [List.getElem?_append_right (by omega)] at hs
          simp at hs; subst hs
          rw [h1]; exact hu
      · intro s hs
        rcases List.mem_append.1 hs with hs | hs
        · exact h3.ints s hs
        · simp at hs; subst hs; exact hi
  obtain ⟨ss, h1, h2, h3⟩ := key zss.length (Nat.le_refl _)
  exact ⟨ss, h1, by rw [h2, List.take_length], h3⟩

def stackProgR (zss : List (List Int)) : List Int × Bool := if stackB zss = true ∧ zss.flatten.length ≤ 60 then (zss.flatten, true) else ([], false)
theorem flatten_len {zss : List (List Int)} (h : stackB zss = true) : zss.flatten.length ≤ 1200 := by
  obtain ⟨h1, h2⟩ := stackB_all h
  have key : ∀ l : List (List Int), (∀ v ∈ l, valueB v = true) → l.flatten.length ≤ 60 * l.length := by
    intro l
    induction l with
    | nil => simp
    | cons a r ih =>
      intro hv
      have := ih (fun v hv' => hv v (by simp [hv']))
      have := (valueB_len (hv a (by simp))).2
      rw [List.flatten_cons, List.length_append, List.length_cons]; omega
  have := key zss h2
  omega
theorem flatten_rest {zss : List (List Int)} (h : ∀ v ∈ zss, valueB v = true) : restB zss.flatten = true := by
  induction zss with
  | nil => rfl
  | cons a r ih =>
    rw [List.flatten_cons]
    exact restB_append (valueB_rest (h a (by simp))) (ih fun v hv => h v (by simp [hv]))
theorem flatten_valid {zss : List (List Int)} (h : stackB zss = true) : validB zss.flatten = decide (zss.flatten.length ≤ 60) := by
  have := flatten_rest (stackB_all h).2
  simp only [restB, Bool.and_eq_true] at this
  simp [validB, this.1, this.2]

def progStackR (p : List Int) : List (List Int) × Bool := if validB p = true ∧ stackB (partsR p) = true then (partsR p, true) else ([], false)
theorem OwnS.nil (w : World) (lo hi : Nat) : OwnS w lo hi (.slice none 0 0) [] := ⟨[], rfl, World.ownsRow_nil _ _ _ _, by simp [Value.ownBlock], by simp, by simp⟩
theorem OwnI.low {w : World} {lo lo' hi : Nat} {v : Value} {zs : List Int} (h : OwnI w lo' hi v zs) (hl : lo ≤ lo') : OwnI w lo hi v zs := ⟨h.own.mono hl, h.lt⟩
/-- An empty literal of rows. -/
theorem litS_nil (w : World) : OwnS (w.alloc (.cells #[] 23)) w.heap.size (w.heap.size + 1) (.slice (some ⟨w.heap.size, 0, none⟩) 0 0) [] := by
  have h : (w.alloc (.cells #[] 23)).ownsRow w.heap.size 23 1 (.slice (some ⟨w.heap.size, 0, none⟩) 0 0) 0 [] := by
    have := World.ownsRow_lit (base := w.heap.size) (size := 1) (e := 23) w #[] 0 (Nat.le_refl _) (by unfold maxLen; omega) (by simp)
    simpa using this
  exact ⟨[], rfl, h, fun g hg => by simp [Value.ownBlock] at hg; omega, by simp, by simp⟩
end Go.Proofs.Ytceekfoacgoalaa

/- Contracts of chapter 2's tests, in the form that the exact laws take. -/
namespace Go.Proofs.Ytceekfoacgoalaa
set_option maxRecDepth 100000
open Go.RowKit Go.WideShapes

theorem stackProgR_len (s : List (List Int)) : szI (stackProgR s).1 ≤ 1000000 := by
  unfold stackProgR szI; split
  · rename_i h; have := h.2; show s.flatten.length ≤ _; omega
  · simp
theorem progStackR_len (p : List Int) : szS (progStackR p).1 ≤ 1000000 := by
  unfold progStackR; split
  · exact partsR_len p
  · simp [szS]
end Go.Proofs.Ytceekfoacgoalaa

/- What the reader gives of a slice of slices of integers. -/
namespace Go.Proofs.Ytceekfoacgoalaa
set_option maxRecDepth 100000
open Go.RowKit Go.WideShapes Go.ChangeShapes Go.Deep

theorem lt_of_cell {w : World} {b o : Nat} {u : Value} (h : w.cell? ⟨b, o, none⟩ = some u) : b < w.heap.size := by
  rcases Nat.lt_or_ge b w.heap.size with hlt | hge
  · exact hlt
  · simp [World.cell?, Array.getElem?_eq_none hge] at h
theorem spot_of_cell {w : World} {a : Addr} {u : Value} (h : w.cell? a = some u) : a = ⟨a.block, a.off, none⟩ := by
  obtain ⟨b, o, s⟩ := a
  have := World.cell?_spot h
  simp at this; subst this; rfl

theorem rows_of_fuel {H : Type} {enc : TypeId × Value → H} {P : Program} {W : World} {t e q : TypeId} {fuel base : Nat} {v : Value} {x : DataW H × List MemPlace}
    (ht : P.underlying t = some (.slice e)) (he : P.underlying e = some (.slice q)) (hq : P.underlying q = some (.int .i64)) (ce : P.cellsOf e = 1) (cq : P.cellsOf q = 1)
    (hf : DataW.trod enc P W base (fun _ => true) true fuel t [v] = some x) : ∃ A c zss, v = .slice A zss.length c ∧ RdS W v zss := by
  rcases open_int_rows ht he hq ce cq hf with ⟨hcs, _⟩ | ⟨a, len, cap, A, L, C, Z, hcs, _, hl, hm, _, hr⟩
  · obtain rfl : v = .slice none 0 0 := by simpa using hcs
    exact ⟨none, 0, [], rfl, none, 0, rfl, by simp, fun h => by simp at h⟩
  · obtain rfl : v = .slice (some a) len cap := by simpa using hcs
    have hlen : ((List.range len).map fun r => (Z r).take (L r)).length = len := by simp
    refine ⟨some a, cap, (List.range len).map fun r => (Z r).take (L r), by rw [hlen], some a, cap, by rw [hlen], by rw [hlen]; unfold maxLen at hm; omega, fun h0 => ?_⟩
    rw [hlen] at h0
    have h1 := spot_of_cell (hr 0 (by omega)).1
    simp only [Addr.add, Nat.add_zero] at h1
    obtain ⟨b, off, sp⟩ := a
    obtain rfl : sp = none := by simpa using congrArg Addr.spot h1
    refine ⟨b, off, rfl, lt_of_cell (by simpa [Addr.add] using (hr 0 (by omega)).1), fun j zs hj => ?_⟩
    have hjl : j < len := by
      rcases Nat.lt_or_ge j len with h | h
      · exact h
      · rw [List.getElem?_eq_none (by simp; omega)] at hj; cases hj
    obtain ⟨hc, hLC, hCm, hZ, hwf, _, hcell⟩ := hr j (by omega)
    obtain rfl : (Z j).take (L j) = zs := by simpa [hjl] using hj
    have hZl : ((Z j).take (L j)).length = L j := by rw [List.length_take]; omega
    refine ⟨_, by rw [← add_plain]; exact hc, A j, C j, by rw [hZl], ⟨by rw [hZl]; unfold maxLen at hCm; omega, fun z hz => hwf z (List.mem_of_mem_take hz), fun h2 => ?_⟩, by rw [hZl]; exact hLC⟩
    rw [hZl] at h2
    rcases hA : A j with _ | a'
    · rename_i hnone _
      have := (hr j (by omega)).2.2.2.2.2.1 hA
      omega
    · obtain ⟨_, hcs'⟩ := hcell a' hA
      have h3 := spot_of_cell (hcs' 0 (by omega))
      simp only [Addr.add, Nat.add_zero] at h3
      obtain ⟨b', off', sp'⟩ := a'
      obtain rfl : sp' = none := by simpa using congrArg Addr.spot h3
      refine ⟨b', off', rfl, lt_of_cell (by simpa [Addr.add] using hcs' 0 (by omega)), fun i hi => ?_⟩
      rw [hZl] at hi
      rw [← add_plain, hcs' i (by omega)]
      simp only [List.getD, List.getElem?_take]
      rw [if_pos (by omega)]
theorem ints_of_fuel {H : Type} {enc : TypeId × Value → H} {P : Program} {W : World} {t e : TypeId} {fuel base : Nat} {v : Value} {x : DataW H × List MemPlace}
    (ht : P.underlying t = some (.slice e)) (he : P.underlying e = some (.int .i64)) (hc : P.cellsOf e = 1)
    (hf : DataW.trod enc P W base (fun _ => true) true fuel t [v] = some x) : ∃ A c zs, v = .slice A zs.length c ∧ RdI W v zs := by
  rcases open_ints ht he hc hf with ⟨hcs, _⟩ | ⟨a, len, cap, zs, hcs, _, hl, hm, hz, _, hcell, hwz⟩
  · obtain rfl : v = .slice none 0 0 := by simpa using hcs
    exact ⟨none, 0, [], rfl, none, 0, rfl, IntsK.nil _ _ _ _, by simp⟩
  · obtain rfl : v = .slice (some a) len cap := by simpa using hcs
    simp only [if_true] at hz
    have hlen : (zs.take len).length = len := by rw [List.length_take]; omega
    refine ⟨some a, cap, zs.take len, by rw [hlen], some a, cap, by rw [hlen], ⟨by unfold maxLen at hm; omega, fun z hz' => hwz z (List.mem_of_mem_take hz'), fun h0 => ?_⟩, by rw [hlen]; exact hl⟩
    have h0' : 0 < zs.length := by omega
    have h1 := spot_of_cell (hcell 0 h0')
    simp only [Addr.add, Nat.add_zero] at h1
    obtain ⟨b, off, sp⟩ := a
    obtain rfl : sp = none := by simpa using congrArg Addr.spot h1
    refine ⟨b, off, rfl, lt_of_cell (by simpa [Addr.add] using hcell 0 h0'), fun j hj => ?_⟩
    rw [← add_plain, hcell j (by omega)]
    simp only [List.getD, List.getElem?_take]
    rw [if_pos (by omega)]
theorem cells_row : Try.prog.cellsOf 23 = 1 := by kernel_rfl
theorem cells_int' : Try.prog.cellsOf 3 = 1 := by kernel_rfl
theorem rows_of_trod {H : Type} {enc : TypeId × Value → H} {W : World} {v : Value} {d : DataW H} {ps : List MemPlace} {base : Nat}
    (hval : Value.okWide Try.prog W .any base 62 v) (h : DataW.Trod enc Try.prog W 0 (fun _ => true) true 62 v d ps) : ∃ A c zss, v = .slice A zss.length c ∧ RdS W v zss := by
  obtain ⟨a0, len, cap, rfl⟩ := okWide_slice Try.underlying62 hval
  obtain ⟨fuel, hf⟩ := h
  exact rows_of_fuel Try.underlying62 Try.underlying23 Try.underlying3 cells_row cells_int' (by simpa [Value.cells] using hf)
end Go.Proofs.Ytceekfoacgoalaa

/- States by value: the exact laws' helpers, StateOk of the program and of the model. -/
namespace Go.Proofs.Ytceekfoacgoalaa
set_option maxRecDepth 100000
open Go.RowKit Go.WideShapes

def leftT (n : Int) (r : List Int) (s : List (List Int)) : Int := if n - (r.length : Int) < 0 then -1 else leftS (n - (r.length : Int)) s
def stateB (r : List Int) (s : List (List Int)) : Bool := restB r && stackB s
theorem cell_new2 (w : World) (o : Obj) (cs : Array Value) (T : TypeId) (j : Nat) (u : Value) (h : cs[j]? = some u) : ((w.alloc o).alloc (.cells cs T)).cell? ⟨w.heap.size + 1, j, none⟩ = some u := by
  have hh := heap_alloc_new (w.alloc o) (.cells cs T)
  rw [show (w.alloc o).heap.size = w.heap.size + 1 from by simp] at hh
  rw [cell_of_row _ _ _ _ _ _ hh, h]
theorem bcell {W w1 : World} (hb : Below W.heap.size W w1) : (∀ b o, b < W.heap.size → w1.cell? ⟨b, o, none⟩ = W.cell? ⟨b, o, none⟩) ∧ (∀ b o, b < W.heap.size → w1.frozen? ⟨b, o, none⟩ = W.frozen? ⟨b, o, none⟩) :=
  ⟨fun b o h => hb.cell (p := ⟨b, o, none⟩) h, fun b o h => hb.frozen (p := ⟨b, o, none⟩) h⟩
/-- Block g holds these cells, none of them frozen. -/
def Blk (w : World) (g : Nat) (cs : Array Value) (T : TypeId) : Prop := w.heap[g]? = some (.cells cs T (0, 0))
theorem Blk.cell {w : World} {g : Nat} {cs : Array Value} {T : TypeId} (h : Blk w g cs T) (j : Nat) : w.cell? ⟨g, j, none⟩ = cs[j]? := by
  simpa using cell_of_row _ _ _ _ _ _ h
theorem Blk.free {w : World} {g : Nat} {cs : Array Value} {T : TypeId} (h : Blk w g cs T) (j : Nat) : w.frozen? ⟨g, j, none⟩ = false := by
  unfold Blk at h; simp [World.frozen?, h]
theorem Blk.lt {w : World} {g : Nat} {cs : Array Value} {T : TypeId} (h : Blk w g cs T) : g < w.heap.size := by
  unfold Blk at h
  rcases Nat.lt_or_ge g w.heap.size with h1 | h1
  · exact h1
  · rw [Array.getElem?_eq_none h1] at h; cases h
theorem Blk.below {w w' : World} {g B : Nat} {cs : Array Value} {T : TypeId} (h : Blk w g cs T) (hb : Below B w w') (hg : g < B) : Blk w' g cs T := (hb.block g hg).trans h
theorem Blk.set {w : World} {g : Nat} {cs : Array Value} {T : TypeId} (h : Blk w g cs T) (j : Nat) (u : Value) : Blk (w.setCell ⟨g, j, none⟩ u) g (cs.setIfInBounds j u) T := by
  unfold Blk at *; simp [World.setCell, Array.getElem?_modify, h]
theorem Blk.other {w : World} {g g' : Nat} {cs : Array Value} {T : TypeId} (h : Blk w g cs T) (hne : g ≠ g') (j : Nat) (u : Value) : Blk (w.setCell ⟨g', j, none⟩ u) g cs T := (Below.heap_setCell _ _ _ _ (by simpa using hne)).trans h
theorem Blk.new (w : World) (cs : Array Value) (T : TypeId) : Blk (w.alloc (.cells cs T)) w.heap.size cs T := heap_alloc_new w _
theorem within_setCell (w : World) (g o : Nat) (u : Value) : Within g (g + 1) w (w.setCell ⟨g, o, none⟩ u) :=
  ⟨rfl, rfl, rfl, by simp [World.setCell], fun k _ hn => Below.heap_setCell _ _ _ _ (by simp only; omega)⟩
/-- A copy of a state: both rows of the call's own. -/
def ToT (w : World) (r : List Int) (s : List (List Int)) (e : Ending) (w' : World) : Prop := ∃ u0 u1 m, e = .returned (.agg #[u0, u1]) ∧ w.heap.size ≤ m ∧ m ≤ w'.heap.size ∧ OwnI w' w.heap.size m u0 r ∧ OwnS w' m w'.heap.size u1 s ∧ Below w.heap.size w w'
end Go.Proofs.Ytceekfoacgoalaa
