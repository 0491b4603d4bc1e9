/- What the reader gives of a slice of slices of integers. -/
import Derived.Test.YtgiemajjmdjfkaaDoorW
import Derived.Test.YtgiemajjmdjfkaaDoorR
import Derived.Deep.Matrix
import Derived.Lib.SmallJoins
namespace Go.Proofs.YtgiemajjmdjfkaaDoor
set_option maxRecDepth 100000
open Go.RowKit Go.WideShapes Go.ChangeShapes Go.Deep

theorem lt_of_cell {w : World} {b o : Nat} {u : Value} (h : w.cell? ⟨b, o, none⟩ = some u) : b < w.heap.size := by
  rcases Nat.lt_or_ge b w.heap.size with hlt | hge
  · exact hlt
  · simp [World.cell?, Array.getElem?_eq_none hge] at h
theorem spot_of_cell {w : World} {a : Addr} {u : Value} (h : w.cell? a = some u) : a = ⟨a.block, a.off, none⟩ := by
  obtain ⟨b, o, s⟩ := a
  have := World.cell?_spot h
  simp at this; subst this; rfl

theorem rows_of_fuel {H : Type} {enc : TypeId × Value → H} {P : Program} {W : World} {t e q : TypeId} {fuel base : Nat} {v : Value} {x : DataW H × List MemPlace}
    (ht : P.underlying t = some (.slice e)) (he : P.underlying e = some (.slice q)) (hq : P.underlying q = some (.int .i64)) (ce : P.cellsOf e = 1) (cq : P.cellsOf q = 1)
    (hf : DataW.trod enc P W base (fun _ => true) true fuel t [v] = some x) : ∃ A c zss, v = .slice A zss.length c ∧ RdS W v zss := by
  rcases open_int_rows ht he hq ce cq hf with ⟨hcs, _⟩ | ⟨a, len, cap, A, L, C, Z, hcs, _, hl, hm, _, hr⟩
  · obtain rfl : v = .slice none 0 0 := by simpa using hcs
    exact ⟨none, 0, [], rfl, none, 0, rfl, by simp, fun h => by simp at h⟩
  · obtain rfl : v = .slice (some a) len cap := by simpa using hcs
    have hlen : ((List.range len).map fun r => (Z r).take (L r)).length = len := by simp
    refine ⟨some a, cap, (List.range len).map fun r => (Z r).take (L r), by rw [hlen], some a, cap, by rw [hlen], by rw [hlen]; unfold maxLen at hm; omega, fun h0 => ?_⟩
    rw [hlen] at h0
    have h1 := spot_of_cell (hr 0 (by omega)).1
    simp only [Addr.add, Nat.add_zero] at h1
    obtain ⟨b, off, sp⟩ := a
    obtain rfl : sp = none := by simpa using congrArg Addr.spot h1
    refine ⟨b, off, rfl, lt_of_cell (by simpa [Addr.add] using (hr 0 (by omega)).1), fun j zs hj => ?_⟩
    have hjl : j < len := by
      rcases Nat.lt_or_ge j len with h | h
      · exact h
      · rw [List.getElem?_eq_none (by simp; omega)] at hj; cases hj
    obtain ⟨hc, hLC, hCm, hZ, hwf, _, hcell⟩ := hr j (by omega)
    obtain rfl : (Z j).take (L j) = zs := by simpa [hjl] using hj
    have hZl : ((Z j).take (L j)).length = L j := by rw [List.length_take]; omega
    refine ⟨_, by rw [← add_plain]; exact hc, A j, C j, by rw [hZl], ⟨by rw [hZl]; unfold maxLen at hCm; omega, fun z hz => hwf z (List.mem_of_mem_take hz), fun h2 => ?_⟩, by rw [hZl]; exact hLC⟩
    rw [hZl] at h2
    rcases hA : A j with _ | a'
    · rename_i hnone _
      have := (hr j (by omega)).2.2.2.2.2.1 hA
      omega
    · obtain ⟨_, hcs'⟩ := hcell a' hA
      have h3 := spot_of_cell (hcs' 0 (by omega))
      simp only [Addr.add, Nat.add_zero] at h3
      obtain ⟨b', off', sp'⟩ := a'
      obtain rfl : sp' = none := by simpa using congrArg Addr.spot h3
      refine ⟨b', off', rfl, lt_of_cell (by simpa [Addr.add] using hcs' 0 (by omega)), fun i hi => ?_⟩
      rw [hZl] at hi
      rw [← add_plain, hcs' i (by omega)]
      simp only [List.getD, List.getElem?_take]
      rw [if_pos (by omega)]
theorem ints_of_fuel {H : Type} {enc : TypeId × Value → H} {P : Program} {W : World} {t e : TypeId} {fuel base : Nat} {v : Value} {x : DataW H × List MemPlace}
    (ht : P.underlying t = some (.slice e)) (he : P.underlying e = some (.int .i64)) (hc : P.cellsOf e = 1)
    (hf : DataW.trod enc P W base (fun _ => true) true fuel t [v] = some x) : ∃ A c zs, v = .slice A zs.length c ∧ RdI W v zs := by
  rcases open_ints ht he hc hf with ⟨hcs, _⟩ | ⟨a, len, cap, zs, hcs, _, hl, hm, hz, _, hcell, hwz⟩
  · obtain rfl : v = .slice none 0 0 := by simpa using hcs
    exact ⟨none, 0, [], rfl, none, 0, rfl, IntsK.nil _ _ _ _, by simp⟩
  · obtain rfl : v = .slice (some a) len cap := by simpa using hcs
    simp only [if_true] at hz
    have hlen : (zs.take len).length = len := by rw [List.length_take]; omega
    refine ⟨some a, cap, zs.take len, by rw [hlen], some a, cap, by rw [hlen], ⟨by unfold maxLen at hm; omega, fun z hz' => hwz z (List.mem_of_mem_take hz'), fun h0 => ?_⟩, by rw [hlen]; exact hl⟩
    have h0' : 0 < zs.length := by omega
    have h1 := spot_of_cell (hcell 0 h0')
    simp only [Addr.add, Nat.add_zero] at h1
    obtain ⟨b, off, sp⟩ := a
    obtain rfl : sp = none := by simpa using congrArg Addr.spot h1
    refine ⟨b, off, rfl, lt_of_cell (by simpa [Addr.add] using hcell 0 h0'), fun j hj => ?_⟩
    rw [← add_plain, hcell j (by omega)]
    simp only [List.getD, List.getElem?_take]
    rw [if_pos (by omega)]
theorem cells_row : Tryd.prog.cellsOf 23 = 1 := by kernel_rfl
theorem cells_int' : Tryd.prog.cellsOf 3 = 1 := by kernel_rfl
theorem rows_of_trod {H : Type} {enc : TypeId × Value → H} {W : World} {v : Value} {d : DataW H} {ps : List MemPlace} {base : Nat}
    (hval : Value.okWide Tryd.prog W .any base 35 v) (h : DataW.Trod enc Tryd.prog W 0 (fun _ => true) true 35 v d ps) : ∃ A c zss, v = .slice A zss.length c ∧ RdS W v zss := by
  obtain ⟨a0, len, cap, rfl⟩ := okWide_slice Tryd.underlying35 hval
  obtain ⟨fuel, hf⟩ := h
  exact rows_of_fuel Tryd.underlying35 Tryd.underlying23 Tryd.underlying3 cells_row cells_int' (by simpa [Value.cells] using hf)
end Go.Proofs.YtgiemajjmdjfkaaDoor
