/- The draws of chapter 9: dictionaries, and both a dictionary and a program with its names. -/
import Derived.Test.YtaehaalaeikloaaYo
namespace Go.Proofs.Ytaehaalaeikloaa
set_option maxRecDepth 100000
open Go.RowKit Go.WideShapes

theorem make_rows {w w1 : World} {n : Nat} (h : w1.ownsRow w.heap.size 23 1 (.slice (some ⟨w.heap.size, 0, none⟩) n n) n (List.replicate n (.slice none 0 0))) : OwnS w1 w.heap.size w1.heap.size (.slice (some ⟨w.heap.size, 0, none⟩) n n) (List.replicate n []) := by
  refine ⟨List.replicate n (.slice none 0 0), by simp, by simpa using h, fun g hg => (h.lt g hg).2, fun j u zs hu hz => ?_, fun i j u u' g _ hu _ he => ?_⟩
  · have h1 := List.mem_of_getElem? hu
    have h2 := List.mem_of_getElem? hz
    rw [List.eq_of_mem_replicate h1, List.eq_of_mem_replicate h2]
    exact nilOwn _ _ _
  · rw [List.eq_of_mem_replicate (List.mem_of_getElem? hu)] at he; simp [Value.ownBlock] at he
set_option maxHeartbeats 2000000 in
theorem dict_any (n : Int) (w0 : World) (g p : Nat) (bs : List Int) (w : World) (hn : 1 ≤ n ∧ n ≤ 1000000) (h : RS w0 w g bs p) (hp : p ≤ 300000000000) :
    Calls Try.prog 138 #[.pointer (some ⟨g, 0, none⟩), .int .i64 n] w (StackPost w0 g p bs w 7 5000) := by
  have hgw := h.rdr.lt
  have hs0 : w0.heap.size ≤ w.heap.size := h.size
  have B0 : Below w.heap.size w (w.alloc (.cells #[] 23)) := (Below.refl _ _).alloc (Nat.le_refl _) _
  have L0 := litS_nil w
  have S0 := Lib.hid (And.intro (h.below B0 h.size) (And.intro L0 (Within.of_below (lo := g) (hi := g + 1) B0))); clear h B0 L0
  go_enter Try.func138, Try.ntmps138
  go_wp2_with fail
  refine (pick w0 g p 4 bs _ S0.out.1 (by omega) (by omega)).mono ?_
  rintro e w1 ⟨x, rfl, hx0, hx1, hr1, hg1⟩
  have hz1 : w.heap.size + 1 ≤ w1.heap.size := by have := hg1.size; simpa using this
  have S1 := Lib.hid (And.intro ((S0.out.2.1.apart hg1 (by omega)).widen hz1) (And.intro hr1 (S0.out.2.2.trans hg1))); clear hr1 hg1 S0
  obtain ⟨j0, rfl⟩ := Int.eq_ofNat_of_zero_le hx0
  go_wp2
  go_loopw [5, 6] (fun v k wr => ∃ (j p' : Nat) (zss : List (List Int)), k = .int .i64 j ∧ j ≤ 3 ∧ w.heap.size + 1 ≤ wr.heap.size ∧ zss.length + j ≤ 3 ∧ p' + j * 1000 ≤ p + 3001 ∧ OwnS wr w.heap.size wr.heap.size v zss ∧ RS w0 wr g bs p' ∧ Within g (g + 1) w wr ∧ (∀ zs ∈ zss, zs.length ≤ 200)) (fun _ k _ => (intOf k).toNat)
  case atStart => exact ⟨j0, p + 1, [], rfl, by omega, hz1, by simp; omega, by omega, S1.out.1, S1.out.2.1, S1.out.2.2, by simp⟩
  case round =>
    clear S1 hz1 hx0 hx1
    obtain ⟨j, p', zss, rfl, hj, hsz, hlen, hpc, q1, q2, q3, q4⟩ := hrel
    obtain ⟨A5, c5, rfl, _⟩ := q1.rd
    have X := Lib.hid (And.intro q1 (And.intro q2 (And.intro q3 q4))); clear q1 q2 q3 q4
    rcases j with _ | j
    · have hl3 : zss.length ≤ 3 := by omega
      clear hlen hj
      go_wp2_with fail
      refine (odd w0 g p' n bs _ X.out.2.1 hn (by omega)).mono ?_
      rintro e w2 ⟨b, rfl, hr2, hg2⟩
      have hz2 : wr.heap.size ≤ w2.heap.size := hg2.size
      have Y := Lib.hid (And.intro ((X.out.1.apart hg2 (by omega)).widen hz2) (And.intro hr2 (And.intro (X.out.2.2.1.trans hg2) X.out.2.2.2))); clear hr2 hg2 X
      rcases b with _ | _
      · go_wp2
        go_ret
        exact ⟨_, zss, p' + 1, rfl, Y.out.1, by omega, Y.out.2.2.2, Y.out.2.1, by omega, Y.out.2.2.1⟩
      · go_wp2_with fail
        refine (pick w0 g (p' + 1) 3 bs _ Y.out.2.1 (by omega) (by omega)).mono ?_
        rintro e w3 ⟨x, rfl, hx0, hx1, hr3, hg3⟩
        have hz3 : w2.heap.size ≤ w3.heap.size := hg3.size
        have Z := Lib.hid (And.intro ((Y.out.1.apart hg3 (by omega)).widen hz3) (And.intro hr3 (And.intro (Y.out.2.2.1.trans hg3) Y.out.2.2.2))); clear hr3 hg3 Y
        have hcases : x = 0 ∨ x = 1 ∨ x = 2 := by omega
        clear hx0 hx1
        have hwz : w.heap.size ≤ w3.heap.size := by omega
        have h0z : w0.heap.size ≤ w3.heap.size := by omega
        rcases hcases with rfl | rfl | rfl
        · have hl3I : (zss.length : Int) ≤ 3 := by omega
          obtain ⟨y, HY⟩ : ∃ y : Int, Hid (1101 + (zss.length : Int) = y) := ⟨_, Lib.hid rfl⟩
          have hy : 1101 ≤ y ∧ y ≤ 1104 := by rw [← HY.out]; omega
          have V := Lib.hid (lit_facts (zs := [y]) Z.out.1 (by simp) (by intro z hz; simp only [List.mem_cons, List.not_mem_nil, or_false] at hz; omega))
          simp only [List.map_nil, List.map_cons, List.length_nil, List.length_cons, Nat.zero_add, ← HY.out] at V
          go_wp2_with (at_builtin; refine wpList_append_S rfl _ _ _ rfl Try.underlying51 rowInfo w.heap.size w3.heap.size _ zss rfl V.out.1 hwz _ 1 _ [1101 + (zss.length : Int)] rfl V.out.2.2.1 (by simp; omega) V.out.2.1 (by omega) ?_)
          intro v4 w4 ho4 hb4
          have T := Lib.hid (And.intro ho4 (And.intro ((Z.out.2.1.below V.out.2.2.2 (by omega)).below hb4 (by omega)) ((Z.out.2.2.1.then_below V.out.2.2.2 (by omega)).then_below hb4 (by omega)))); clear ho4 hb4
          go_wp2
          go_ret
          exact ⟨_, zss ++ [[1101 + (zss.length : Int)]], p' + 1 + 1, rfl, T.out.1, by simp; omega, lens_snoc Z.out.2.2.2 (by simp), T.out.2.1, by omega, T.out.2.2⟩
        · have V := Lib.hid (lit_facts (zs := [1012]) Z.out.1 (by simp) (by intro z hz; simp only [List.mem_cons, List.not_mem_nil, or_false] at hz; omega))
          simp only [List.map_nil, List.map_cons, List.length_nil, List.length_cons, Nat.zero_add] at V
          go_wp2_with (at_builtin; refine wpList_append_S rfl _ _ _ rfl Try.underlying51 rowInfo w.heap.size w3.heap.size _ zss rfl V.out.1 hwz _ 1 _ [1012] rfl V.out.2.2.1 (by simp; omega) V.out.2.1 (by omega) ?_)
          intro v4 w4 ho4 hb4
          have T := Lib.hid (And.intro ho4 (And.intro ((Z.out.2.1.below V.out.2.2.2 (by omega)).below hb4 (by omega)) ((Z.out.2.2.1.then_below V.out.2.2.2 (by omega)).then_below hb4 (by omega)))); clear ho4 hb4
          go_wp2
          go_ret
          exact ⟨_, zss ++ [[1012]], p' + 1 + 1, rfl, T.out.1, by simp; omega, lens_snoc Z.out.2.2.2 (by simp), T.out.2.1, by omega, T.out.2.2⟩
        · obtain ⟨i0, hi0, hz0', hz1', hz2'⟩ := info_parts rowInfo
          go_wp2_with (at_make; refine wpList_make_full _ rfl _ _ _ rfl w3.heap.size 23 i0 (.slice none 0 0) 1 Try.underlying51 hi0 hz0' hz1' _ _ _ _ 7 rfl rfl rfl rfl (by rw [hz2']; omega) (by unfold maxLen; omega) (by simp) ?_)
          intro w4 hown4 hg4
          rw [toList_madeCells_one] at hown4
          have hb4 : Below w3.heap.size w3 w4 := below_of_only hg4 (Nat.le_refl _) (by simp)
          have hmk := make_rows hown4
          have T := Lib.hid (And.intro (hmk.mono hwz) (And.intro (Z.out.2.1.below hb4 (by omega)) (Z.out.2.2.1.then_below hb4 (by omega)))); clear hmk hown4 hg4 hb4
          go_wp2
          go_ret
          exact ⟨_, List.replicate 7 [], p' + 1 + 1, rfl, T.out.1, by simp, fun zs hz => by rw [List.eq_of_mem_replicate hz]; simp, T.out.2.1, by omega, T.out.2.2⟩
    · have hpb : p' ≤ p + 3001 := by omega
      rw [Nat.succ_mul] at hpc
      have hjp : (0 : Int) < ((j + 1 : Nat) : Int) := by omega
      go_wp2_with fail
      refine (named_any zss.length 3 w0 g p' bs _ (by omega) (by omega) X.out.2.1 (by omega)).mono ?_
      rintro e w2 ⟨u, zs, p2, rfl, hou, hyl, hr2, hp2, hg2⟩
      have hz2 : wr.heap.size ≤ w2.heap.size := hg2.size
      obtain ⟨Au, cu, rfl, _⟩ := hou.rd
      have hbl : Below w2.heap.size w2 (w2.alloc (.cells #[.slice Au zs.length cu] 23)) := (Below.refl _ _).alloc (Nat.le_refl _) _
      have hou2 : OwnI (w2.alloc (.cells #[.slice Au zs.length cu] 23)) wr.heap.size (w2.alloc (.cells #[.slice Au zs.length cu] 23)).heap.size (.slice Au zs.length cu) zs := by
        have h1 := hou.belowB hbl (Nat.le_refl _)
        exact ⟨h1.own, fun q hq => by have := h1.lt q hq; simp; omega⟩
      have V := Lib.hid (And.intro (((X.out.1.apart hg2 (by omega))).belowB hbl hz2) (And.intro hou2 (And.intro (lit_row w2 (.slice Au zs.length cu)) (And.intro (hr2.below hbl (by omega)) (And.intro ((X.out.2.2.1.trans hg2).then_below hbl (by omega)) X.out.2.2.2))))); clear hou hou2 hr2 hg2 hbl X
      go_wp2_with (at_builtin; refine wpList_append_S rfl _ _ _ rfl Try.underlying51 rowInfo w.heap.size wr.heap.size _ zss rfl V.out.1 (by omega) w2.heap.size 1 _ zs rfl V.out.2.2.1 (by simp; omega) V.out.2.1 (by omega) ?_)
      intro v4 w4 ho4 hb4
      have hs4 := hb4.size
      have T := Lib.hid (And.intro ho4 (And.intro (V.out.2.2.2.1.below hb4 (by omega)) (And.intro (V.out.2.2.2.2.1.then_below hb4 (by omega)) (lens_snoc (ys := zs) V.out.2.2.2.2.2 (by omega))))); clear ho4 hb4 V
      have hsz4 : w.heap.size + 1 ≤ w4.heap.size := by simp at hs4; omega
      go_wp2
      go_roundw
      case rel => exact ⟨j, p2, zss ++ [zs], by first | rfl | go_num, by omega, hsz4, by simp; omega, by omega, T.out⟩
      case measure => simp [intOf]
end Go.Proofs.Ytaehaalaeikloaa
