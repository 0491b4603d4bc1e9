/- Chapter 7: values put in the order of a row (the program), and ShuffleFor of the program. -/
import Derived.Test.YtkdpfiaegimnlaaJk
import Derived.Test.YtkdpfiaegimnlaaJg
import Derived.Test.YtkdpfiaegimnlaaB1
import Derived.Test.YtkdpfiaegimnlaaJn
import Derived.BigRegion
namespace Go.Proofs.Ytkdpfiaegimnlaa
set_option maxRecDepth 100000
open Go.RowKit Go.WideShapes Go.Deep

theorem RdI.subJ {w : World} {b off : Nat} {zs : List Int} (h : Ints w (some ⟨b, off, none⟩) zs) (i n : Nat) (hi : i + n ≤ zs.length) : Ints w (some ⟨b, off + i, none⟩) ((zs.drop i).take n) := h.sub i n hi
theorem idx_none {zs : List Int} {z : Int} {k : Nat} (hk : k < zs.length) (h : z ∉ zs.take k) (hz : zs.getD k 0 ≠ z) : z ∉ zs.take (k + 1) := by
  rw [List.take_add_one, List.mem_append]
  rintro (h1 | h1)
  · exact h h1
  · simp [List.getElem?_eq_getElem hk] at h1
    exact hz (by simp [List.getD, List.getElem?_eq_getElem hk, h1])
theorem idx_some {zs : List Int} {z : Int} {k : Nat} (hk : k < zs.length) (h : z ∉ zs.take k) (hz : zs.getD k 0 = z) : zs.idxOf z = k := by
  have e : zs = zs.take k ++ z :: zs.drop (k + 1) := by
    conv => lhs; rw [← List.take_append_drop k zs, List.drop_eq_getElem_cons hk]
    simp [List.getD, List.getElem?_eq_getElem hk] at hz
    rw [hz]
  rw [e, List.idxOf_append, if_neg h]
  simp; omega
theorem Two.swap {w : World} {lo g n cap m : Nat} {p : Value} {ps L : List Int} {x z : Int} (h : Two w lo p (.slice (some ⟨g, 0, none⟩) n cap) ps L) (hL : L.length = n) (hm : m + 1 < n) (g0 : L[m]? = some x) (g1 : L[m + 1]? = some z) :
    w.cell? ⟨g, m, none⟩ = some (.int .i64 x) ∧ w.cell? ⟨g, m + 1, none⟩ = some (.int .i64 z) ∧ w.frozen? ⟨g, m, none⟩ = false ∧ w.frozen? ⟨g, m + 1, none⟩ = false ∧
    (w.setCell ⟨g, m, none⟩ (.int .i64 z)).cell? ⟨g, m + 1, none⟩ = some (.int .i64 z) ∧ (w.setCell ⟨g, m, none⟩ (.int .i64 z)).frozen? ⟨g, m + 1, none⟩ = false ∧
    Two ((w.setCell ⟨g, m, none⟩ (.int .i64 z)).setCell ⟨g, m + 1, none⟩ (.int .i64 x)) lo p (.slice (some ⟨g, 0, none⟩) n cap) ps ((L.set m z).set (m + 1) x) ∧
    Below lo w ((w.setCell ⟨g, m, none⟩ (.int .i64 z)).setCell ⟨g, m + 1, none⟩ (.int .i64 x)) := by
  subst hL
  have ho := h.two.own
  have hge := (h.two.ge g rfl).1
  have h1 := (ho.stored m (.int .i64 z)).1
  have h2 := (h1.stored (m + 1) (.int .i64 x)).1
  rw [set2_map] at h2
  have e3 := h1.cellAt (m + 1) (by omega)
  rw [List.getElem?_set_ne (by omega), List.getElem?_map, g1] at e3
  refine ⟨(ho.cellAt m (by omega)).trans (by rw [List.getElem?_map, g0]; rfl), (ho.cellAt (m + 1) (by omega)).trans (by rw [List.getElem?_map, g1]; rfl), ho.frozenAt m, ho.frozenAt (m + 1), e3, h1.frozenAt (m + 1), ⟨⟨ownsRow_keep h.one.own fun k hk => ?_, h.one.wf⟩, ⟨by rw [List.length_set, List.length_set]; exact h2, fun y hy => ?_⟩, h.ne⟩, ((Below.refl lo w).setCell (by simpa using hge) _).setCell (by simpa using hge) _⟩
  · have hne : k ≠ g := by rintro rfl; exact h.ne _ hk rfl
    exact (Below.heap_setCell _ _ _ _ (by simpa using hne)).trans (Below.heap_setCell _ _ _ _ (by simpa using hne))
  · have hzm : z ∈ L := List.mem_of_getElem? g1
    have hxm : x ∈ L := List.mem_of_getElem? g0
    rcases List.mem_or_eq_of_mem_set hy with hy | rfl
    · rcases List.mem_or_eq_of_mem_set hy with hy | rfl
      · exact h.two.wf y hy
      · exact h.two.wf y hzm
    · exact h.two.wf y hxm
theorem Two.same {w w' : World} {lo : Nat} {v u : Value} {xs ys : List Int} (h : Two w lo v u xs ys) (hh : w'.heap = w.heap) : Two w' lo v u xs ys :=
  ⟨⟨ownsRow_keep h.one.own fun k _ => by rw [hh], h.one.wf⟩, ⟨ownsRow_keep h.two.own fun k _ => by rw [hh], h.two.wf⟩, h.ne⟩
theorem below_same {lo : Nat} {a w w' : World} (h : Below lo a w) (hh : w'.heap = w.heap) (h1 : w'.os = w.os) (h2 : w'.tape = w.tape) (h3 : w'.output = w.output) : Below lo a w' := ⟨h1.trans h.os, h2.trans h.tape, h3.trans h.output, by rw [hh]; exact h.size, fun k hk => by rw [hh]; exact h.block k hk⟩
theorem flip_list {dn a b : List Int} {x z : Int} {m : Nat} (hm : (dn ++ a).length = m) : ((dn ++ ((a ++ [x]) ++ z :: b)))[m]? = some x ∧ ((dn ++ ((a ++ [x]) ++ z :: b)))[m + 1]? = some z ∧ (((dn ++ ((a ++ [x]) ++ z :: b)).set m z).set (m + 1) x) = dn ++ (a ++ z :: (x :: b)) := by
  have e : dn ++ ((a ++ [x]) ++ z :: b) = (dn ++ a) ++ (x :: z :: b) := by simp
  rw [e]
  refine ⟨?_, ?_, ?_⟩
  · rw [List.getElem?_append_right (by omega), hm, Nat.sub_self]; rfl
  · rw [List.getElem?_append_right (by omega), hm, show m + 1 - m = 1 from by omega]; rfl
  · rw [List.set_append_right _ _ (by omega), hm, Nat.sub_self, List.set_cons_zero, List.set_append_right _ _ (by omega), hm, show m + 1 - m = 1 from by omega]; simp
theorem swapsR_len (n : Nat) : ∀ j, (swapsR n j).length ≤ j * (3 * n + 1) := by
  intro j
  induction j with
  | zero => simp [swapsR]
  | succ j ih => rw [swapsR, List.length_append, underR_len, Nat.add_mul, Nat.one_mul]; omega
theorem orderR_len : ∀ (zs s : List Int), s.length ≤ 5 → zs.length ≤ 5 → (orderR s zs).length ≤ zs.length * 80 := by
  intro zs
  induction zs with
  | nil => intro s _ _; simp [orderR]
  | cons z zs ih =>
    intro s hs hz
    rw [orderR, List.length_append, List.length_cons, Nat.add_mul, Nat.one_mul]
    have h1 := swapsR_len s.length (s.idxOf z)
    have h2 : s.idxOf z ≤ s.length := List.idxOf_le_length
    have h3 : s.idxOf z * (3 * s.length + 1) ≤ 5 * 16 := Nat.mul_le_mul (by omega) (by omega)
    have h4 := ih (s.erase z) (Nat.le_trans (List.length_erase_le) hs) (by simp at hz; omega)
    omega

theorem forR_len (n : Nat) (zs : List Int) (hn : n ≤ 5) (hl : zs.length ≤ 5) (ha : allB n zs = true) : (oftenR n zs n).length ≤ 500 ∧ (orderR (sortR zs n) zs).length ≤ 400 := by
  refine ⟨Nat.le_trans (oftenR_len n zs hn hl n) (by omega), ?_⟩
  have h1 := (sortR_perm ha).length_eq
  have h2 := orderR_len zs (sortR zs n) (by omega) hl
  have h3 : zs.length * 80 ≤ 5 * 80 := Nat.mul_le_mul hl (Nat.le_refl _)
  omega
theorem shuffleForR_bad {many : Int} {zs : List Int} {y0 : List Int} {y1 : Bool} (h : shuffleForR many zs = (y0, y1)) (hn : ¬ (0 ≤ many ∧ many ≤ 5 ∧ zs.length ≤ 5 ∧ allB many zs = true ∧ (forR many.toNat zs).length ≤ 60)) : [] = y0 ∧ false = y1 := by
  rw [shuffleForR, if_neg hn] at h; cases h; exact ⟨rfl, rfl⟩
theorem shuffleForR_len' (m : Int) (l : List Int) : szI (shuffleForR m l).1 ≤ 1000000 := by
  have := shuffleForR_len m l
  unfold szI; omega
end Go.Proofs.Ytkdpfiaegimnlaa
