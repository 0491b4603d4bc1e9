/- The draw of shuffles: l20Shuffle at 1, 3, 6 and 2, 5 parts. Only that something comes, in memory of its own, not too long. -/
import Derived.Test.YtkdpfiaegimnlaaBe
import Derived.IntWalk
namespace Go.Proofs.Ytkdpfiaegimnlaa
set_option maxRecDepth 100000
open Go.RowKit Go.WideShapes

theorem oddN (w0 : World) (g p : Nat) (n : Int) (bs : List Int) (w : World) (h : RS w0 w g bs p) (hn : 0 ≤ n ∧ n ≤ 1000) (hp : p ≤ 1000000000000) :
    Calls Try.prog 97 #[.pointer (some ⟨g, 0, none⟩), .int .i64 n] w fun e w' => ∃ (b : Bool) (p' : Nat), e = .returned (.bool b) ∧ RS w0 w' g bs p' ∧ p' ≤ p + 1 ∧ Within g (g + 1) w w' := by
  by_cases h0 : n = 0
  · subst h0
    have X := Lib.hid (And.intro h (Within.of_below (lo := g) (hi := g + 1) (Below.refl _ w))); clear h
    go_enter Try.func97, Try.ntmps97
    go_wp2
    go_ret
    exact ⟨_, p, rfl, X.out.1, by omega, X.out.2⟩
  · refine (odd w0 g p n bs w h (by omega) hp).mono ?_
    rintro e w' ⟨b, rfl, hr, hg⟩
    exact ⟨b, p + 1, rfl, hr, Nat.le_refl _, hg⟩

set_option maxHeartbeats 20000000 in
theorem shuf1 : ∀ (n : Int) (w0 : World) (g pp : Nat) (bs : List Int) (w : World), 0 ≤ n ∧ n ≤ 1000 → RS w0 w g bs pp → pp ≤ 700000000000 → Calls Try.prog 76 #[.pointer (some ⟨g, 0, none⟩), .int .i64 1, .int .i64 n] w (PartPost w0 g pp bs w 5 4) := by
  intro n w0 g pp bs w hn h hp
  have hgw := h.rdr.lt
  have H := Lib.hid h; clear h
  have L0 := Lib.hid (lits_own w [] (by simp) (by simp))
  have B0 : Below w.heap.size w (w.alloc (.cells #[] 3)) := (Below.refl _ _).alloc (Nat.le_refl _) _
  have H0 := Lib.hid (H.out.below B0 H.out.size)
  have hs0 : w0.heap.size ≤ w.heap.size := H.out.size
  have G0 : Hid (Within g (g + 1) w (w.alloc (.cells #[] 3))) := Lib.hid (Within.of_below B0)
  clear B0 H
  go_enter Try.func76, Try.ntmps76
  go_wp2_with fail
  refine (pick w0 g pp 2 bs _ H0.out (by omega) (by omega)).mono ?_
  rintro e w1 ⟨x, rfl, hx0, hx1, hr1, hg1⟩
  have hsz1 : w.heap.size + 1 ≤ w1.heap.size := by have := hg1.size; simpa using this
  have L1 := Lib.hid (L0.out.apart hg1 (by omega))
  have H1 := Lib.hid hr1
  have G1 := Lib.hid (G0.out.trans hg1)
  clear hr1 hg1 L0 H0 G0
  obtain ⟨j0, rfl⟩ := Int.eq_ofNat_of_zero_le hx0
  go_wp2
  go_loopw [7, 8] (fun v k wr => ∃ (j p' : Nat) (zs : List Int), k = .int .i64 j ∧ j ≤ 1 ∧ w.heap.size + 1 ≤ wr.heap.size ∧ OwnI wr w.heap.size wr.heap.size v zs ∧ zs.length + j * 1 ≤ 1 ∧ RS w0 wr g bs p' ∧ p' + j * 1 ≤ pp + 2 ∧ Within g (g + 1) w wr) (fun _ k _ => (intOf k).toNat)
  case atStart => exact ⟨j0, pp + 1, [], rfl, by omega, hsz1, ⟨L1.out.own, fun g hg => by have := L1.out.lt g hg; omega⟩, by simp; omega, H1.out, by omega, G1.out⟩
  case round =>
    clear L1 H1 G1 hsz1 hx0 hx1
    obtain ⟨j, p', zs, rfl, hj, hsz, hown, hlen, hrs, hpc, hgw2⟩ := hrel
    obtain ⟨Av, cv, rfl, _⟩ := hown.rd
    have X := Lib.hid (And.intro hrs (And.intro hgw2 hown)); clear hown hrs hgw2
    rcases j with _ | j
    · have hzl : zs.length ≤ 1 := by omega
      have hpl : p' ≤ pp + 2 := by omega
      clear hlen hpc hj
      go_wp2_with fail
      refine (oddN w0 g p' n bs _ X.out.1 hn (by omega)).mono ?_
      rintro e wo ⟨b, po, rfl, hro, hpo, hgo⟩
      have hzo : wr.heap.size ≤ wo.heap.size := hgo.size
      have Y := Lib.hid (And.intro hro (And.intro (X.out.2.1.trans hgo) (X.out.2.2.apart hgo (by omega)))); clear hro hgo X
      rcases b with _ | _
      · go_wp2
        go_ret
        exact ⟨_, zs, po, rfl, Y.out.2.2.widen hzo, by omega, Y.out.1, by omega, Y.out.2.1⟩
      · go_wp2_with fail
        refine (pick w0 g po 3 bs _ Y.out.1 (by omega) (by omega)).mono ?_
        rintro e wp ⟨y9, rfl, hy0, hy1, hrp, hgp⟩
        have hzp : wo.heap.size ≤ wp.heap.size := hgp.size
        have Z := Lib.hid (And.intro hrp (And.intro (Y.out.2.1.trans hgp) (Y.out.2.2.apart hgp (by omega)))); clear hrp hgp Y
        have hcases : y9 = 0 ∨ y9 = 1 ∨ y9 = 2 := by omega
        clear hy0 hy1
        rcases hcases with rfl | rfl | rfl
        · skip
          have hb2 : Below (wp.heap.size) wp (wp.alloc (.cells #[.int .i64 (1)] 3)) := (Below.refl _ _).alloc (by simp) _
          have ho2 := lits_own wp [1] (by simp) (by intro z hz; simp only [List.mem_cons, List.not_mem_nil, or_false] at hz; apply wf_near; omega)
          have S2 : Hid (RS w0 (wp.alloc (.cells #[.int .i64 (1)] 3)) g bs (po+1) ∧ Within g (g + 1) w (wp.alloc (.cells #[.int .i64 (1)] 3)) ∧ OwnI (wp.alloc (.cells #[.int .i64 (1)] 3)) (w.heap.size) (wr.heap.size) (.slice Av zs.length cv) (zs) ∧ OwnI (wp.alloc (.cells #[.int .i64 (1)] 3)) (wp.heap.size) (wp.heap.size + 1) (.slice (some ⟨wp.heap.size, 0, none⟩) 1 1) ([1])) := Lib.hid ⟨(Z.out.1).below hb2 (by omega), (Z.out.2.1).then_below hb2 (by omega), (Z.out.2.2).belowB hb2 (by omega), (by simpa using ho2)⟩
          clear Z
          clear hb2 ho2
          go_wp2_with (at_builtin; (refine wpList_append_V rfl _ _ _ rfl Try.underlying25 intInfo (w.heap.size) (wr.heap.size) (.slice Av zs.length cv) (zs) rfl (S2.out.2.2.1) (by first | omega | (simp <;> omega)) (.slice (some ⟨wp.heap.size, 0, none⟩) 1 1) ([1]) rfl (S2.out.2.2.2).rd (by first | omega | (simp <;> omega)) ?_))
          intro c w_3 ho3 hb3
          have hz3 : wp.heap.size + 1 ≤ w_3.heap.size := by have := hb3.size; simpa using this
          have S3 : Hid (RS w0 w_3 g bs (po+1) ∧ Within g (g + 1) w w_3 ∧ OwnI w_3 (w.heap.size) (w_3.heap.size) c ((zs) ++ ([1]))) := Lib.hid ⟨(S2.out.1).below hb3 (by omega), (S2.out.2.1).then_below hb3 (by omega), (by simpa using ho3)⟩
          clear S2
          clear ho3 hb3
          go_wp2
          go_ret
          exact ⟨_, _, po + 1, rfl, S3.out.2.2, by first | omega | (simp; omega), S3.out.1, by omega, S3.out.2.1⟩
        · skip
          have hb2 : Below (wp.heap.size) wp (wp.alloc (.cells #[.int .i64 (1012), .int .i64 (1001), .int .i64 (1013)] 3)) := (Below.refl _ _).alloc (by simp) _
          have ho2 := lits_own wp [1012, 1001, 1013] (by simp) (by intro z hz; simp only [List.mem_cons, List.not_mem_nil, or_false] at hz; apply wf_near; omega)
          have S2 : Hid (RS w0 (wp.alloc (.cells #[.int .i64 (1012), .int .i64 (1001), .int .i64 (1013)] 3)) g bs (po+1) ∧ Within g (g + 1) w (wp.alloc (.cells #[.int .i64 (1012), .int .i64 (1001), .int .i64 (1013)] 3)) ∧ OwnI (wp.alloc (.cells #[.int .i64 (1012), .int .i64 (1001), .int .i64 (1013)] 3)) (w.heap.size) (wr.heap.size) (.slice Av zs.length cv) (zs) ∧ OwnI (wp.alloc (.cells #[.int .i64 (1012), .int .i64 (1001), .int .i64 (1013)] 3)) (wp.heap.size) (wp.heap.size + 1) (.slice (some ⟨wp.heap.size, 0, none⟩) 3 3) ([1012, 1001, 1013])) := Lib.hid ⟨(Z.out.1).below hb2 (by omega), (Z.out.2.1).then_below hb2 (by omega), (Z.out.2.2).belowB hb2 (by omega), (by simpa using ho2)⟩
          clear Z
          clear hb2 ho2
          go_wp2_with (at_builtin; (refine wpList_append_V rfl _ _ _ rfl Try.underlying25 intInfo (w.heap.size) (wr.heap.size) (.slice Av zs.length cv) (zs) rfl (S2.out.2.2.1) (by first | omega | (simp <;> omega)) (.slice (some ⟨wp.heap.size, 0, none⟩) 3 3) ([1012, 1001, 1013]) rfl (S2.out.2.2.2).rd (by first | omega | (simp <;> omega)) ?_))
          intro c w_3 ho3 hb3
          have hz3 : wp.heap.size + 1 ≤ w_3.heap.size := by have := hb3.size; simpa using this
          have S3 : Hid (RS w0 w_3 g bs (po+1) ∧ Within g (g + 1) w w_3 ∧ OwnI w_3 (w.heap.size) (w_3.heap.size) c ((zs) ++ ([1012, 1001, 1013]))) := Lib.hid ⟨(S2.out.1).below hb3 (by omega), (S2.out.2.1).then_below hb3 (by omega), (by simpa using ho3)⟩
          clear S2
          clear ho3 hb3
          go_wp2
          go_ret
          exact ⟨_, _, po + 1, rfl, S3.out.2.2, by first | omega | (simp; omega), S3.out.1, by omega, S3.out.2.1⟩
        · skip
          have hb2 : Below (wp.heap.size) wp (wp.alloc (.cells #[.int .i64 (1012), .int .i64 (1), .int .i64 (1013), .int .i64 (1004)] 3)) := (Below.refl _ _).alloc (by simp) _
          have ho2 := lits_own wp [1012, 1, 1013, 1004] (by simp) (by intro z hz; simp only [List.mem_cons, List.not_mem_nil, or_false] at hz; apply wf_near; omega)
          have S2 : Hid (RS w0 (wp.alloc (.cells #[.int .i64 (1012), .int .i64 (1), .int .i64 (1013), .int .i64 (1004)] 3)) g bs (po+1) ∧ Within g (g + 1) w (wp.alloc (.cells #[.int .i64 (1012), .int .i64 (1), .int .i64 (1013), .int .i64 (1004)] 3)) ∧ OwnI (wp.alloc (.cells #[.int .i64 (1012), .int .i64 (1), .int .i64 (1013), .int .i64 (1004)] 3)) (w.heap.size) (wr.heap.size) (.slice Av zs.length cv) (zs) ∧ OwnI (wp.alloc (.cells #[.int .i64 (1012), .int .i64 (1), .int .i64 (1013), .int .i64 (1004)] 3)) (wp.heap.size) (wp.heap.size + 1) (.slice (some ⟨wp.heap.size, 0, none⟩) 4 4) ([1012, 1, 1013, 1004])) := Lib.hid ⟨(Z.out.1).below hb2 (by omega), (Z.out.2.1).then_below hb2 (by omega), (Z.out.2.2).belowB hb2 (by omega), (by simpa using ho2)⟩
          clear Z
          clear hb2 ho2
          go_wp2_with (at_builtin; (refine wpList_append_V rfl _ _ _ rfl Try.underlying25 intInfo (w.heap.size) (wr.heap.size) (.slice Av zs.length cv) (zs) rfl (S2.out.2.2.1) (by first | omega | (simp <;> omega)) (.slice (some ⟨wp.heap.size, 0, none⟩) 4 4) ([1012, 1, 1013, 1004]) rfl (S2.out.2.2.2).rd (by first | omega | (simp <;> omega)) ?_))
          intro c w_3 ho3 hb3
          have hz3 : wp.heap.size + 1 ≤ w_3.heap.size := by have := hb3.size; simpa using this
          have S3 : Hid (RS w0 w_3 g bs (po+1) ∧ Within g (g + 1) w w_3 ∧ OwnI w_3 (w.heap.size) (w_3.heap.size) c ((zs) ++ ([1012, 1, 1013, 1004]))) := Lib.hid ⟨(S2.out.1).below hb3 (by omega), (S2.out.2.1).then_below hb3 (by omega), (by simpa using ho3)⟩
          clear S2
          clear ho3 hb3
          go_wp2
          go_ret
          exact ⟨_, _, po + 1, rfl, S3.out.2.2, by first | omega | (simp; omega), S3.out.1, by omega, S3.out.2.1⟩
    · have hjp : (0 : Int) < ((j + 1 : Nat) : Int) := by omega
      have hlen3 : zs.length + j * 1 + 1 ≤ 1 := by omega
      have hpc3 : p' + j * 1 + 1 ≤ pp + 2 := by omega
      have hpb : p' ≤ 700000001000 := by omega
      clear hlen hpc
      skip
      go_wp2_with fail
      refine (pick w0 g (p') (3) bs _ (X.out.1) (by omega) (by omega)).mono ?_
      rintro e w_2 ⟨y, rfl, hy0, hy1, hr2, hg2⟩
      have hz2 : wr.heap.size ≤ w_2.heap.size := by have := hg2.size; simpa using this
      have S2 : Hid (RS w0 w_2 g bs (p' + 1) ∧ Within g (g + 1) w w_2 ∧ OwnI w_2 (w.heap.size) (wr.heap.size) (.slice Av zs.length cv) (zs)) := Lib.hid ⟨hr2, (X.out.2.1).trans hg2, (X.out.2.2).apart hg2 (by omega)⟩
      clear X
      clear hr2 hg2
      have hb3 : Below (w_2.heap.size) w_2 (w_2.alloc (.cells #[.int .i64 (1001+y)] 3)) := (Below.refl _ _).alloc (by simp) _
      have ho3 := lits_own w_2 [1001+y] (by simp) (by intro z hz; simp only [List.mem_cons, List.not_mem_nil, or_false] at hz; apply wf_near; omega)
      have S3 : Hid (RS w0 (w_2.alloc (.cells #[.int .i64 (1001+y)] 3)) g bs (p' + 1) ∧ Within g (g + 1) w (w_2.alloc (.cells #[.int .i64 (1001+y)] 3)) ∧ OwnI (w_2.alloc (.cells #[.int .i64 (1001+y)] 3)) (w.heap.size) (wr.heap.size) (.slice Av zs.length cv) (zs) ∧ OwnI (w_2.alloc (.cells #[.int .i64 (1001+y)] 3)) (w_2.heap.size) (w_2.heap.size + 1) (.slice (some ⟨w_2.heap.size, 0, none⟩) 1 1) ([1001+y])) := Lib.hid ⟨(S2.out.1).below hb3 (by omega), (S2.out.2.1).then_below hb3 (by omega), (S2.out.2.2).belowB hb3 (by omega), (by simpa using ho3)⟩
      clear S2
      clear hb3 ho3
      go_wp2_with (at_builtin; (refine wpList_append_V rfl _ _ _ rfl Try.underlying25 intInfo (w.heap.size) (wr.heap.size) (.slice Av zs.length cv) (zs) rfl (S3.out.2.2.1) (by first | omega | (simp <;> omega)) (.slice (some ⟨w_2.heap.size, 0, none⟩) 1 1) ([1001+y]) rfl (S3.out.2.2.2).rd (by first | omega | (simp <;> omega)) ?_))
      intro c w_4 ho4 hb4
      have hz4 : w_2.heap.size + 1 ≤ w_4.heap.size := by have := hb4.size; simpa using this
      have S4 : Hid (RS w0 w_4 g bs (p' + 1) ∧ Within g (g + 1) w w_4 ∧ OwnI w_4 (w.heap.size) (w_4.heap.size) c ((zs) ++ ([1001+y]))) := Lib.hid ⟨(S3.out.1).below hb4 (by omega), (S3.out.2.1).then_below hb4 (by omega), (by simpa using ho4)⟩
      clear S3
      clear ho4 hb4
      go_wp2
      go_roundw
      case rel => exact ⟨j, p' + 1, ((zs) ++ ([1001+y])), by first | rfl | go_num, by omega, by omega, S4.out.2.2, by first | omega | (simp; omega), S4.out.1, by omega, S4.out.2.1⟩
      case measure => simp [intOf]

set_option maxHeartbeats 20000000 in
theorem shuf3 (HG : ∀ (n : Int) (w0 : World) (g pp : Nat) (bs : List Int) (w : World), 0 ≤ n ∧ n ≤ 1000 → RS w0 w g bs pp → pp ≤ 700000000000 → Calls Try.prog 76 #[.pointer (some ⟨g, 0, none⟩), .int .i64 1, .int .i64 n] w (PartPost w0 g pp bs w 5 4)) : ∀ (n : Int) (w0 : World) (g pp : Nat) (bs : List Int) (w : World), 0 ≤ n ∧ n ≤ 1000 → RS w0 w g bs pp → pp ≤ 600000000000 → Calls Try.prog 76 #[.pointer (some ⟨g, 0, none⟩), .int .i64 3, .int .i64 n] w (PartPost w0 g pp bs w 28 21) := by
  intro n w0 g pp bs w hn h hp
  have hgw := h.rdr.lt
  have HGh := Lib.hid HG; clear HG
  have H := Lib.hid h; clear h
  have L0 := Lib.hid (lits_own w [] (by simp) (by simp))
  have B0 : Below w.heap.size w (w.alloc (.cells #[] 3)) := (Below.refl _ _).alloc (Nat.le_refl _) _
  have H0 := Lib.hid (H.out.below B0 H.out.size)
  have hs0 : w0.heap.size ≤ w.heap.size := H.out.size
  have G0 : Hid (Within g (g + 1) w (w.alloc (.cells #[] 3))) := Lib.hid (Within.of_below B0)
  clear B0 H
  go_enter Try.func76, Try.ntmps76
  go_wp2_with fail
  refine (pick w0 g pp 4 bs _ H0.out (by omega) (by omega)).mono ?_
  rintro e w1 ⟨x, rfl, hx0, hx1, hr1, hg1⟩
  have hsz1 : w.heap.size + 1 ≤ w1.heap.size := by have := hg1.size; simpa using this
  have L1 := Lib.hid (L0.out.apart hg1 (by omega))
  have H1 := Lib.hid hr1
  have G1 := Lib.hid (G0.out.trans hg1)
  clear hr1 hg1 L0 H0 G0
  obtain ⟨j0, rfl⟩ := Int.eq_ofNat_of_zero_le hx0
  go_wp2
  go_loopw [7, 8] (fun v k wr => ∃ (j p' : Nat) (zs : List Int), k = .int .i64 j ∧ j ≤ 3 ∧ w.heap.size + 1 ≤ wr.heap.size ∧ OwnI wr w.heap.size wr.heap.size v zs ∧ zs.length + j * 8 ≤ 24 ∧ RS w0 wr g bs p' ∧ p' + j * 6 ≤ pp + 19 ∧ Within g (g + 1) w wr) (fun _ k _ => (intOf k).toNat)
  case atStart => exact ⟨j0, pp + 1, [], rfl, by omega, hsz1, ⟨L1.out.own, fun g hg => by have := L1.out.lt g hg; omega⟩, by simp; omega, H1.out, by omega, G1.out⟩
  case round =>
    clear L1 H1 G1 hsz1 hx0 hx1
    obtain ⟨j, p', zs, rfl, hj, hsz, hown, hlen, hrs, hpc, hgw2⟩ := hrel
    obtain ⟨Av, cv, rfl, _⟩ := hown.rd
    have X := Lib.hid (And.intro hrs (And.intro hgw2 hown)); clear hown hrs hgw2
    rcases j with _ | j
    · have hzl : zs.length ≤ 24 := by omega
      have hpl : p' ≤ pp + 19 := by omega
      clear hlen hpc hj
      go_wp2_with fail
      refine (oddN w0 g p' n bs _ X.out.1 hn (by omega)).mono ?_
      rintro e wo ⟨b, po, rfl, hro, hpo, hgo⟩
      have hzo : wr.heap.size ≤ wo.heap.size := hgo.size
      have Y := Lib.hid (And.intro hro (And.intro (X.out.2.1.trans hgo) (X.out.2.2.apart hgo (by omega)))); clear hro hgo X
      rcases b with _ | _
      · go_wp2
        go_ret
        exact ⟨_, zs, po, rfl, Y.out.2.2.widen hzo, by omega, Y.out.1, by omega, Y.out.2.1⟩
      · go_wp2_with fail
        refine (pick w0 g po 3 bs _ Y.out.1 (by omega) (by omega)).mono ?_
        rintro e wp ⟨y9, rfl, hy0, hy1, hrp, hgp⟩
        have hzp : wo.heap.size ≤ wp.heap.size := hgp.size
        have Z := Lib.hid (And.intro hrp (And.intro (Y.out.2.1.trans hgp) (Y.out.2.2.apart hgp (by omega)))); clear hrp hgp Y
        have hcases : y9 = 0 ∨ y9 = 1 ∨ y9 = 2 := by omega
        clear hy0 hy1
        rcases hcases with rfl | rfl | rfl
        · skip
          have hb2 : Below (wp.heap.size) wp (wp.alloc (.cells #[.int .i64 (1)] 3)) := (Below.refl _ _).alloc (by simp) _
          have ho2 := lits_own wp [1] (by simp) (by intro z hz; simp only [List.mem_cons, List.not_mem_nil, or_false] at hz; apply wf_near; omega)
          have S2 : Hid (RS w0 (wp.alloc (.cells #[.int .i64 (1)] 3)) g bs (po+1) ∧ Within g (g + 1) w (wp.alloc (.cells #[.int .i64 (1)] 3)) ∧ OwnI (wp.alloc (.cells #[.int .i64 (1)] 3)) (w.heap.size) (wr.heap.size) (.slice Av zs.length cv) (zs) ∧ OwnI (wp.alloc (.cells #[.int .i64 (1)] 3)) (wp.heap.size) (wp.heap.size + 1) (.slice (some ⟨wp.heap.size, 0, none⟩) 1 1) ([1])) := Lib.hid ⟨(Z.out.1).below hb2 (by omega), (Z.out.2.1).then_below hb2 (by omega), (Z.out.2.2).belowB hb2 (by omega), (by simpa using ho2)⟩
          clear Z
          clear hb2 ho2
          go_wp2_with (at_builtin; (refine wpList_append_V rfl _ _ _ rfl Try.underlying25 intInfo (w.heap.size) (wr.heap.size) (.slice Av zs.length cv) (zs) rfl (S2.out.2.2.1) (by first | omega | (simp <;> omega)) (.slice (some ⟨wp.heap.size, 0, none⟩) 1 1) ([1]) rfl (S2.out.2.2.2).rd (by first | omega | (simp <;> omega)) ?_))
          intro c w_3 ho3 hb3
          have hz3 : wp.heap.size + 1 ≤ w_3.heap.size := by have := hb3.size; simpa using this
          have S3 : Hid (RS w0 w_3 g bs (po+1) ∧ Within g (g + 1) w w_3 ∧ OwnI w_3 (w.heap.size) (w_3.heap.size) c ((zs) ++ ([1]))) := Lib.hid ⟨(S2.out.1).below hb3 (by omega), (S2.out.2.1).then_below hb3 (by omega), (by simpa using ho3)⟩
          clear S2
          clear ho3 hb3
          go_wp2
          go_ret
          exact ⟨_, _, po + 1, rfl, S3.out.2.2, by first | omega | (simp; omega), S3.out.1, by omega, S3.out.2.1⟩
        · skip
          have hb2 : Below (wp.heap.size) wp (wp.alloc (.cells #[.int .i64 (1012), .int .i64 (1001), .int .i64 (1013)] 3)) := (Below.refl _ _).alloc (by simp) _
          have ho2 := lits_own wp [1012, 1001, 1013] (by simp) (by intro z hz; simp only [List.mem_cons, List.not_mem_nil, or_false] at hz; apply wf_near; omega)
          have S2 : Hid (RS w0 (wp.alloc (.cells #[.int .i64 (1012), .int .i64 (1001), .int .i64 (1013)] 3)) g bs (po+1) ∧ Within g (g + 1) w (wp.alloc (.cells #[.int .i64 (1012), .int .i64 (1001), .int .i64 (1013)] 3)) ∧ OwnI (wp.alloc (.cells #[.int .i64 (1012), .int .i64 (1001), .int .i64 (1013)] 3)) (w.heap.size) (wr.heap.size) (.slice Av zs.length cv) (zs) ∧ OwnI (wp.alloc (.cells #[.int .i64 (1012), .int .i64 (1001), .int .i64 (1013)] 3)) (wp.heap.size) (wp.heap.size + 1) (.slice (some ⟨wp.heap.size, 0, none⟩) 3 3) ([1012, 1001, 1013])) := Lib.hid ⟨(Z.out.1).below hb2 (by omega), (Z.out.2.1).then_below hb2 (by omega), (Z.out.2.2).belowB hb2 (by omega), (by simpa using ho2)⟩
          clear Z
          clear hb2 ho2
          go_wp2_with (at_builtin; (refine wpList_append_V rfl _ _ _ rfl Try.underlying25 intInfo (w.heap.size) (wr.heap.size) (.slice Av zs.length cv) (zs) rfl (S2.out.2.2.1) (by first | omega | (simp <;> omega)) (.slice (some ⟨wp.heap.size, 0, none⟩) 3 3) ([1012, 1001, 1013]) rfl (S2.out.2.2.2).rd (by first | omega | (simp <;> omega)) ?_))
          intro c w_3 ho3 hb3
          have hz3 : wp.heap.size + 1 ≤ w_3.heap.size := by have := hb3.size; simpa using this
          have S3 : Hid (RS w0 w_3 g bs (po+1) ∧ Within g (g + 1) w w_3 ∧ OwnI w_3 (w.heap.size) (w_3.heap.size) c ((zs) ++ ([1012, 1001, 1013]))) := Lib.hid ⟨(S2.out.1).below hb3 (by omega), (S2.out.2.1).then_below hb3 (by omega), (by simpa using ho3)⟩
          clear S2
          clear ho3 hb3
          go_wp2
          go_ret
          exact ⟨_, _, po + 1, rfl, S3.out.2.2, by first | omega | (simp; omega), S3.out.1, by omega, S3.out.2.1⟩
        · skip
          have hb2 : Below (wp.heap.size) wp (wp.alloc (.cells #[.int .i64 (1012), .int .i64 (1), .int .i64 (1013), .int .i64 (1004)] 3)) := (Below.refl _ _).alloc (by simp) _
          have ho2 := lits_own wp [1012, 1, 1013, 1004] (by simp) (by intro z hz; simp only [List.mem_cons, List.not_mem_nil, or_false] at hz; apply wf_near; omega)
          have S2 : Hid (RS w0 (wp.alloc (.cells #[.int .i64 (1012), .int .i64 (1), .int .i64 (1013), .int .i64 (1004)] 3)) g bs (po+1) ∧ Within g (g + 1) w (wp.alloc (.cells #[.int .i64 (1012), .int .i64 (1), .int .i64 (1013), .int .i64 (1004)] 3)) ∧ OwnI (wp.alloc (.cells #[.int .i64 (1012), .int .i64 (1), .int .i64 (1013), .int .i64 (1004)] 3)) (w.heap.size) (wr.heap.size) (.slice Av zs.length cv) (zs) ∧ OwnI (wp.alloc (.cells #[.int .i64 (1012), .int .i64 (1), .int .i64 (1013), .int .i64 (1004)] 3)) (wp.heap.size) (wp.heap.size + 1) (.slice (some ⟨wp.heap.size, 0, none⟩) 4 4) ([1012, 1, 1013, 1004])) := Lib.hid ⟨(Z.out.1).below hb2 (by omega), (Z.out.2.1).then_below hb2 (by omega), (Z.out.2.2).belowB hb2 (by omega), (by simpa using ho2)⟩
          clear Z
          clear hb2 ho2
          go_wp2_with (at_builtin; (refine wpList_append_V rfl _ _ _ rfl Try.underlying25 intInfo (w.heap.size) (wr.heap.size) (.slice Av zs.length cv) (zs) rfl (S2.out.2.2.1) (by first | omega | (simp <;> omega)) (.slice (some ⟨wp.heap.size, 0, none⟩) 4 4) ([1012, 1, 1013, 1004]) rfl (S2.out.2.2.2).rd (by first | omega | (simp <;> omega)) ?_))
          intro c w_3 ho3 hb3
          have hz3 : wp.heap.size + 1 ≤ w_3.heap.size := by have := hb3.size; simpa using this
          have S3 : Hid (RS w0 w_3 g bs (po+1) ∧ Within g (g + 1) w w_3 ∧ OwnI w_3 (w.heap.size) (w_3.heap.size) c ((zs) ++ ([1012, 1, 1013, 1004]))) := Lib.hid ⟨(S2.out.1).below hb3 (by omega), (S2.out.2.1).then_below hb3 (by omega), (by simpa using ho3)⟩
          clear S2
          clear ho3 hb3
          go_wp2
          go_ret
          exact ⟨_, _, po + 1, rfl, S3.out.2.2, by first | omega | (simp; omega), S3.out.1, by omega, S3.out.2.1⟩
    · have hjp : (0 : Int) < ((j + 1 : Nat) : Int) := by omega
      have hlen3 : zs.length + j * 8 + 8 ≤ 24 := by omega
      have hpc3 : p' + j * 6 + 6 ≤ pp + 19 := by omega
      have hpb : p' ≤ 600000001000 := by omega
      clear hlen hpc
      go_wp2_with fail
      refine (pick w0 g p' 4 bs _ X.out.1 (by omega) (by omega)).mono ?_
      rintro e wp ⟨y9, rfl, hy0, hy1, hrp, hgp⟩
      have hzp : wr.heap.size ≤ wp.heap.size := hgp.size
      have Y := Lib.hid (And.intro hrp (And.intro (X.out.2.1.trans hgp) (X.out.2.2.apart hgp (by omega)))); clear hrp hgp X
      by_cases hy : y9 = 0
      · subst hy
        have hb2 : Below (wp.heap.size) wp (wp.alloc (.cells #[.int .i64 (1012)] 3)) := (Below.refl _ _).alloc (by simp) _
        have ho2 := lits_own wp [1012] (by simp) (by intro z hz; simp only [List.mem_cons, List.not_mem_nil, or_false] at hz; apply wf_near; omega)
        have S2 : Hid (RS w0 (wp.alloc (.cells #[.int .i64 (1012)] 3)) g bs (p'+1) ∧ Within g (g + 1) w (wp.alloc (.cells #[.int .i64 (1012)] 3)) ∧ OwnI (wp.alloc (.cells #[.int .i64 (1012)] 3)) (w.heap.size) (wr.heap.size) (.slice Av zs.length cv) (zs) ∧ OwnI (wp.alloc (.cells #[.int .i64 (1012)] 3)) (wp.heap.size) (wp.heap.size + 1) (.slice (some ⟨wp.heap.size, 0, none⟩) 1 1) ([1012])) := Lib.hid ⟨(Y.out.1).below hb2 (by omega), (Y.out.2.1).then_below hb2 (by omega), (Y.out.2.2).belowB hb2 (by omega), (by simpa using ho2)⟩
        clear Y
        clear hb2 ho2
        go_wp2_with (at_builtin; (refine wpList_append_W rfl _ _ _ rfl Try.underlying25 intInfo (w.heap.size) (wr.heap.size) (.slice Av zs.length cv) (zs) rfl (S2.out.2.2.1) (by first | omega | (simp <;> omega)) (.slice (some ⟨wp.heap.size, 0, none⟩) 1 1) ([1012]) rfl (S2.out.2.2.2).rd (by first | omega | (simp <;> omega)) ?_))
        intro d w_3 ho3 hb3 hw3
        have hz3 : wp.heap.size + 1 ≤ w_3.heap.size := by have := hb3.size; simpa using this
        have S3 : Hid (RS w0 w_3 g bs (p'+1) ∧ Within g (g + 1) w w_3 ∧ OwnI w_3 (w.heap.size) (w_3.heap.size) d ((zs) ++ ([1012]))) := Lib.hid ⟨(S2.out.1).below hb3 (by omega), (S2.out.2.1).then_below hb3 (by omega), (by simpa using ho3)⟩
        clear S2
        clear ho3 hb3 hw3
        go_wp2_with fail
        refine (HGh.out 0 w0 g ((p'+1)) bs _ (by omega) (S3.out.1) (by omega)).mono ?_
        rintro e w_4 ⟨b, zb, p4, rfl, ho4, hl4, hr4, hp4, hg4⟩
        have hz4 : w_3.heap.size ≤ w_4.heap.size := by have := hg4.size; simpa using this
        have S4 : Hid (RS w0 w_4 g bs (p4) ∧ Within g (g + 1) w w_4 ∧ OwnI w_4 (w.heap.size) (w_3.heap.size) d ((zs) ++ ([1012])) ∧ OwnI w_4 (w_3.heap.size) (w_4.heap.size) b (zb)) := Lib.hid ⟨hr4, (S3.out.2.1).trans hg4, (S3.out.2.2).apart hg4 (by omega), (by simpa using ho4)⟩
        clear S3
        clear ho4 hr4 hg4
        go_wp2_with (at_builtin; (refine wpList_append_V rfl _ _ _ rfl Try.underlying25 intInfo (w.heap.size) (w_3.heap.size) d ((zs) ++ ([1012])) rfl (S4.out.2.2.1) (by first | omega | (simp <;> omega)) b (zb) rfl (S4.out.2.2.2).rd (by first | omega | (simp <;> omega)) ?_))
        intro f w_5 ho5 hb5
        have hz5 : w_4.heap.size ≤ w_5.heap.size := by have := hb5.size; simpa using this
        have S5 : Hid (RS w0 w_5 g bs (p4) ∧ Within g (g + 1) w w_5 ∧ OwnI w_5 (w.heap.size) (w_5.heap.size) f (((zs) ++ ([1012])) ++ (zb))) := Lib.hid ⟨(S4.out.1).below hb5 (by omega), (S4.out.2.1).then_below hb5 (by omega), (by simpa using ho5)⟩
        clear S4
        clear ho5 hb5
        have hb6 : Below (w_5.heap.size) w_5 (w_5.alloc (.cells #[.int .i64 (1013), .int .i64 (1004)] 3)) := (Below.refl _ _).alloc (by simp) _
        have ho6 := lits_own w_5 [1013, 1004] (by simp) (by intro z hz; simp only [List.mem_cons, List.not_mem_nil, or_false] at hz; apply wf_near; omega)
        have S6 : Hid (RS w0 (w_5.alloc (.cells #[.int .i64 (1013), .int .i64 (1004)] 3)) g bs (p4) ∧ Within g (g + 1) w (w_5.alloc (.cells #[.int .i64 (1013), .int .i64 (1004)] 3)) ∧ OwnI (w_5.alloc (.cells #[.int .i64 (1013), .int .i64 (1004)] 3)) (w.heap.size) (w_5.heap.size) f (((zs) ++ ([1012])) ++ (zb)) ∧ OwnI (w_5.alloc (.cells #[.int .i64 (1013), .int .i64 (1004)] 3)) (w_5.heap.size) (w_5.heap.size + 1) (.slice (some ⟨w_5.heap.size, 0, none⟩) 2 2) ([1013, 1004])) := Lib.hid ⟨(S5.out.1).below hb6 (by omega), (S5.out.2.1).then_below hb6 (by omega), (S5.out.2.2).belowB hb6 (by omega), (by simpa using ho6)⟩
        clear S5
        clear hb6 ho6
        go_wp2_with (at_builtin; (refine wpList_append_V rfl _ _ _ rfl Try.underlying25 intInfo (w.heap.size) (w_5.heap.size) f (((zs) ++ ([1012])) ++ (zb)) rfl (S6.out.2.2.1) (by first | omega | (simp <;> omega)) (.slice (some ⟨w_5.heap.size, 0, none⟩) 2 2) ([1013, 1004]) rfl (S6.out.2.2.2).rd (by first | omega | (simp <;> omega)) ?_))
        intro c w_7 ho7 hb7
        have hz7 : w_5.heap.size + 1 ≤ w_7.heap.size := by have := hb7.size; simpa using this
        have S7 : Hid (RS w0 w_7 g bs (p4) ∧ Within g (g + 1) w w_7 ∧ OwnI w_7 (w.heap.size) (w_7.heap.size) c ((((zs) ++ ([1012])) ++ (zb)) ++ ([1013, 1004]))) := Lib.hid ⟨(S6.out.1).below hb7 (by omega), (S6.out.2.1).then_below hb7 (by omega), (by simpa using ho7)⟩
        clear S6
        clear ho7 hb7
        go_wp2
        go_roundw
        case rel => exact ⟨j, p4, (((((zs) ++ ([1012]))) ++ (zb)) ++ ([1013, 1004])), by first | rfl | go_num, by omega, by omega, S7.out.2.2, by first | omega | (simp; omega), S7.out.1, by omega, S7.out.2.1⟩
        case measure => simp [intOf]
      · have hyb : (y9 == 0) = false := by simpa using hy
        go_wp2_with fail
        refine (pick w0 g (p'+1) (3) bs _ (Y.out.1) (by omega) (by omega)).mono ?_
        rintro e w_2 ⟨y, rfl, hy0, hy1, hr2, hg2⟩
        have hz2 : wp.heap.size ≤ w_2.heap.size := by have := hg2.size; simpa using this
        have S2 : Hid (RS w0 w_2 g bs (p'+1 + 1) ∧ Within g (g + 1) w w_2 ∧ OwnI w_2 (w.heap.size) (wr.heap.size) (.slice Av zs.length cv) (zs)) := Lib.hid ⟨hr2, (Y.out.2.1).trans hg2, (Y.out.2.2).apart hg2 (by omega)⟩
        clear Y
        clear hr2 hg2
        have hb3 : Below (w_2.heap.size) w_2 (w_2.alloc (.cells #[.int .i64 (1001+y)] 3)) := (Below.refl _ _).alloc (by simp) _
        have ho3 := lits_own w_2 [1001+y] (by simp) (by intro z hz; simp only [List.mem_cons, List.not_mem_nil, or_false] at hz; apply wf_near; omega)
        have S3 : Hid (RS w0 (w_2.alloc (.cells #[.int .i64 (1001+y)] 3)) g bs (p'+1 + 1) ∧ Within g (g + 1) w (w_2.alloc (.cells #[.int .i64 (1001+y)] 3)) ∧ OwnI (w_2.alloc (.cells #[.int .i64 (1001+y)] 3)) (w.heap.size) (wr.heap.size) (.slice Av zs.length cv) (zs) ∧ OwnI (w_2.alloc (.cells #[.int .i64 (1001+y)] 3)) (w_2.heap.size) (w_2.heap.size + 1) (.slice (some ⟨w_2.heap.size, 0, none⟩) 1 1) ([1001+y])) := Lib.hid ⟨(S2.out.1).below hb3 (by omega), (S2.out.2.1).then_below hb3 (by omega), (S2.out.2.2).belowB hb3 (by omega), (by simpa using ho3)⟩
        clear S2
        clear hb3 ho3
        go_wp2_with (at_builtin; (refine wpList_append_V rfl _ _ _ rfl Try.underlying25 intInfo (w.heap.size) (wr.heap.size) (.slice Av zs.length cv) (zs) rfl (S3.out.2.2.1) (by first | omega | (simp <;> omega)) (.slice (some ⟨w_2.heap.size, 0, none⟩) 1 1) ([1001+y]) rfl (S3.out.2.2.2).rd (by first | omega | (simp <;> omega)) ?_))
        intro c w_4 ho4 hb4
        have hz4 : w_2.heap.size + 1 ≤ w_4.heap.size := by have := hb4.size; simpa using this
        have S4 : Hid (RS w0 w_4 g bs (p'+1 + 1) ∧ Within g (g + 1) w w_4 ∧ OwnI w_4 (w.heap.size) (w_4.heap.size) c ((zs) ++ ([1001+y]))) := Lib.hid ⟨(S3.out.1).below hb4 (by omega), (S3.out.2.1).then_below hb4 (by omega), (by simpa using ho4)⟩
        clear S3
        clear ho4 hb4
        go_wp2
        go_roundw
        case rel => exact ⟨j, p'+1 + 1, ((zs) ++ ([1001+y])), by first | rfl | go_num, by omega, by omega, S4.out.2.2, by first | omega | (simp; omega), S4.out.1, by omega, S4.out.2.1⟩
        case measure => simp [intOf]

set_option maxHeartbeats 20000000 in
theorem shuf2 (HG : ∀ (n : Int) (w0 : World) (g pp : Nat) (bs : List Int) (w : World), 0 ≤ n ∧ n ≤ 1000 → RS w0 w g bs pp → pp ≤ 700000000000 → Calls Try.prog 76 #[.pointer (some ⟨g, 0, none⟩), .int .i64 1, .int .i64 n] w (PartPost w0 g pp bs w 5 4)) : ∀ (n : Int) (w0 : World) (g pp : Nat) (bs : List Int) (w : World), 0 ≤ n ∧ n ≤ 1000 → RS w0 w g bs pp → pp ≤ 600000000000 → Calls Try.prog 76 #[.pointer (some ⟨g, 0, none⟩), .int .i64 2, .int .i64 n] w (PartPost w0 g pp bs w 20 15) := by
  intro n w0 g pp bs w hn h hp
  have hgw := h.rdr.lt
  have HGh := Lib.hid HG; clear HG
  have H := Lib.hid h; clear h
  have L0 := Lib.hid (lits_own w [] (by simp) (by simp))
  have B0 : Below w.heap.size w (w.alloc (.cells #[] 3)) := (Below.refl _ _).alloc (Nat.le_refl _) _
  have H0 := Lib.hid (H.out.below B0 H.out.size)
  have hs0 : w0.heap.size ≤ w.heap.size := H.out.size
  have G0 : Hid (Within g (g + 1) w (w.alloc (.cells #[] 3))) := Lib.hid (Within.of_below B0)
  clear B0 H
  go_enter Try.func76, Try.ntmps76
  go_wp2_with fail
  refine (pick w0 g pp 3 bs _ H0.out (by omega) (by omega)).mono ?_
  rintro e w1 ⟨x, rfl, hx0, hx1, hr1, hg1⟩
  have hsz1 : w.heap.size + 1 ≤ w1.heap.size := by have := hg1.size; simpa using this
  have L1 := Lib.hid (L0.out.apart hg1 (by omega))
  have H1 := Lib.hid hr1
  have G1 := Lib.hid (G0.out.trans hg1)
  clear hr1 hg1 L0 H0 G0
  obtain ⟨j0, rfl⟩ := Int.eq_ofNat_of_zero_le hx0
  go_wp2
  go_loopw [7, 8] (fun v k wr => ∃ (j p' : Nat) (zs : List Int), k = .int .i64 j ∧ j ≤ 2 ∧ w.heap.size + 1 ≤ wr.heap.size ∧ OwnI wr w.heap.size wr.heap.size v zs ∧ zs.length + j * 8 ≤ 16 ∧ RS w0 wr g bs p' ∧ p' + j * 6 ≤ pp + 13 ∧ Within g (g + 1) w wr) (fun _ k _ => (intOf k).toNat)
  case atStart => exact ⟨j0, pp + 1, [], rfl, by omega, hsz1, ⟨L1.out.own, fun g hg => by have := L1.out.lt g hg; omega⟩, by simp; omega, H1.out, by omega, G1.out⟩
  case round =>
    clear L1 H1 G1 hsz1 hx0 hx1
    obtain ⟨j, p', zs, rfl, hj, hsz, hown, hlen, hrs, hpc, hgw2⟩ := hrel
    obtain ⟨Av, cv, rfl, _⟩ := hown.rd
    have X := Lib.hid (And.intro hrs (And.intro hgw2 hown)); clear hown hrs hgw2
    rcases j with _ | j
    · have hzl : zs.length ≤ 16 := by omega
      have hpl : p' ≤ pp + 13 := by omega
      clear hlen hpc hj
      go_wp2_with fail
      refine (oddN w0 g p' n bs _ X.out.1 hn (by omega)).mono ?_
      rintro e wo ⟨b, po, rfl, hro, hpo, hgo⟩
      have hzo : wr.heap.size ≤ wo.heap.size := hgo.size
      have Y := Lib.hid (And.intro hro (And.intro (X.out.2.1.trans hgo) (X.out.2.2.apart hgo (by omega)))); clear hro hgo X
      rcases b with _ | _
      · go_wp2
        go_ret
        exact ⟨_, zs, po, rfl, Y.out.2.2.widen hzo, by omega, Y.out.1, by omega, Y.out.2.1⟩
      · go_wp2_with fail
        refine (pick w0 g po 3 bs _ Y.out.1 (by omega) (by omega)).mono ?_
        rintro e wp ⟨y9, rfl, hy0, hy1, hrp, hgp⟩
        have hzp : wo.heap.size ≤ wp.heap.size := hgp.size
        have Z := Lib.hid (And.intro hrp (And.intro (Y.out.2.1.trans hgp) (Y.out.2.2.apart hgp (by omega)))); clear hrp hgp Y
        have hcases : y9 = 0 ∨ y9 = 1 ∨ y9 = 2 := by omega
        clear hy0 hy1
        rcases hcases with rfl | rfl | rfl
        · skip
          have hb2 : Below (wp.heap.size) wp (wp.alloc (.cells #[.int .i64 (1)] 3)) := (Below.refl _ _).alloc (by simp) _
          have ho2 := lits_own wp [1] (by simp) (by intro z hz; simp only [List.mem_cons, List.not_mem_nil, or_false] at hz; apply wf_near; omega)
          have S2 : Hid (RS w0 (wp.alloc (.cells #[.int .i64 (1)] 3)) g bs (po+1) ∧ Within g (g + 1) w (wp.alloc (.cells #[.int .i64 (1)] 3)) ∧ OwnI (wp.alloc (.cells #[.int .i64 (1)] 3)) (w.heap.size) (wr.heap.size) (.slice Av zs.length cv) (zs) ∧ OwnI (wp.alloc (.cells #[.int .i64 (1)] 3)) (wp.heap.size) (wp.heap.size + 1) (.slice (some ⟨wp.heap.size, 0, none⟩) 1 1) ([1])) := Lib.hid ⟨(Z.out.1).below hb2 (by omega), (Z.out.2.1).then_below hb2 (by omega), (Z.out.2.2).belowB hb2 (by omega), (by simpa using ho2)⟩
          clear Z
          clear hb2 ho2
          go_wp2_with (at_builtin; (refine wpList_append_V rfl _ _ _ rfl Try.underlying25 intInfo (w.heap.size) (wr.heap.size) (.slice Av zs.length cv) (zs) rfl (S2.out.2.2.1) (by first | omega | (simp <;> omega)) (.slice (some ⟨wp.heap.size, 0, none⟩) 1 1) ([1]) rfl (S2.out.2.2.2).rd (by first | omega | (simp <;> omega)) ?_))
          intro c w_3 ho3 hb3
          have hz3 : wp.heap.size + 1 ≤ w_3.heap.size := by have := hb3.size; simpa using this
          have S3 : Hid (RS w0 w_3 g bs (po+1) ∧ Within g (g + 1) w w_3 ∧ OwnI w_3 (w.heap.size) (w_3.heap.size) c ((zs) ++ ([1]))) := Lib.hid ⟨(S2.out.1).below hb3 (by omega), (S2.out.2.1).then_below hb3 (by omega), (by simpa using ho3)⟩
          clear S2
          clear ho3 hb3
          go_wp2
          go_ret
          exact ⟨_, _, po + 1, rfl, S3.out.2.2, by first | omega | (simp; omega), S3.out.1, by omega, S3.out.2.1⟩
        · skip
          have hb2 : Below (wp.heap.size) wp (wp.alloc (.cells #[.int .i64 (1012), .int .i64 (1001), .int .i64 (1013)] 3)) := (Below.refl _ _).alloc (by simp) _
          have ho2 := lits_own wp [1012, 1001, 1013] (by simp) (by intro z hz; simp only [List.mem_cons, List.not_mem_nil, or_false] at hz; apply wf_near; omega)
          have S2 : Hid (RS w0 (wp.alloc (.cells #[.int .i64 (1012), .int .i64 (1001), .int .i64 (1013)] 3)) g bs (po+1) ∧ Within g (g + 1) w (wp.alloc (.cells #[.int .i64 (1012), .int .i64 (1001), .int .i64 (1013)] 3)) ∧ OwnI (wp.alloc (.cells #[.int .i64 (1012), .int .i64 (1001), .int .i64 (1013)] 3)) (w.heap.size) (wr.heap.size) (.slice Av zs.length cv) (zs) ∧ OwnI (wp.alloc (.cells #[.int .i64 (1012), .int .i64 (1001), .int .i64 (1013)] 3)) (wp.heap.size) (wp.heap.size + 1) (.slice (some ⟨wp.heap.size, 0, none⟩) 3 3) ([1012, 1001, 1013])) := Lib.hid ⟨(Z.out.1).below hb2 (by omega), (Z.out.2.1).then_below hb2 (by omega), (Z.out.2.2).belowB hb2 (by omega), (by simpa using ho2)⟩
          clear Z
          clear hb2 ho2
          go_wp2_with (at_builtin; (refine wpList_append_V rfl _ _ _ rfl Try.underlying25 intInfo (w.heap.size) (wr.heap.size) (.slice Av zs.length cv) (zs) rfl (S2.out.2.2.1) (by first | omega | (simp <;> omega)) (.slice (some ⟨wp.heap.size, 0, none⟩) 3 3) ([1012, 1001, 1013]) rfl (S2.out.2.2.2).rd (by first | omega | (simp <;> omega)) ?_))
          intro c w_3 ho3 hb3
          have hz3 : wp.heap.size + 1 ≤ w_3.heap.size := by have := hb3.size; simpa using this
          have S3 : Hid (RS w0 w_3 g bs (po+1) ∧ Within g (g + 1) w w_3 ∧ OwnI w_3 (w.heap.size) (w_3.heap.size) c ((zs) ++ ([1012, 1001, 1013]))) := Lib.hid ⟨(S2.out.1).below hb3 (by omega), (S2.out.2.1).then_below hb3 (by omega), (by simpa using ho3)⟩
          clear S2
          clear ho3 hb3
          go_wp2
          go_ret
          exact ⟨_, _, po + 1, rfl, S3.out.2.2, by first | omega | (simp; omega), S3.out.1, by omega, S3.out.2.1⟩
        · skip
          have hb2 : Below (wp.heap.size) wp (wp.alloc (.cells #[.int .i64 (1012), .int .i64 (1), .int .i64 (1013), .int .i64 (1004)] 3)) := (Below.refl _ _).alloc (by simp) _
          have ho2 := lits_own wp [1012, 1, 1013, 1004] (by simp) (by intro z hz; simp only [List.mem_cons, List.not_mem_nil, or_false] at hz; apply wf_near; omega)
          have S2 : Hid (RS w0 (wp.alloc (.cells #[.int .i64 (1012), .int .i64 (1), .int .i64 (1013), .int .i64 (1004)] 3)) g bs (po+1) ∧ Within g (g + 1) w (wp.alloc (.cells #[.int .i64 (1012), .int .i64 (1), .int .i64 (1013), .int .i64 (1004)] 3)) ∧ OwnI (wp.alloc (.cells #[.int .i64 (1012), .int .i64 (1), .int .i64 (1013), .int .i64 (1004)] 3)) (w.heap.size) (wr.heap.size) (.slice Av zs.length cv) (zs) ∧ OwnI (wp.alloc (.cells #[.int .i64 (1012), .int .i64 (1), .int .i64 (1013), .int .i64 (1004)] 3)) (wp.heap.size) (wp.heap.size + 1) (.slice (some ⟨wp.heap.size, 0, none⟩) 4 4) ([1012, 1, 1013, 1004])) := Lib.hid ⟨(Z.out.1).below hb2 (by omega), (Z.out.2.1).then_below hb2 (by omega), (Z.out.2.2).belowB hb2 (by omega), (by simpa using ho2)⟩
          clear Z
          clear hb2 ho2
          go_wp2_with (at_builtin; (refine wpList_append_V rfl _ _ _ rfl Try.underlying25 intInfo (w.heap.size) (wr.heap.size) (.slice Av zs.length cv) (zs) rfl (S2.out.2.2.1) (by first | omega | (simp <;> omega)) (.slice (some ⟨wp.heap.size, 0, none⟩) 4 4) ([1012, 1, 1013, 1004]) rfl (S2.out.2.2.2).rd (by first | omega | (simp <;> omega)) ?_))
          intro c w_3 ho3 hb3
          have hz3 : wp.heap.size + 1 ≤ w_3.heap.size := by have := hb3.size; simpa using this
          have S3 : Hid (RS w0 w_3 g bs (po+1) ∧ Within g (g + 1) w w_3 ∧ OwnI w_3 (w.heap.size) (w_3.heap.size) c ((zs) ++ ([1012, 1, 1013, 1004]))) := Lib.hid ⟨(S2.out.1).below hb3 (by omega), (S2.out.2.1).then_below hb3 (by omega), (by simpa using ho3)⟩
          clear S2
          clear ho3 hb3
          go_wp2
          go_ret
          exact ⟨_, _, po + 1, rfl, S3.out.2.2, by first | omega | (simp; omega), S3.out.1, by omega, S3.out.2.1⟩
    · have hjp : (0 : Int) < ((j + 1 : Nat) : Int) := by omega
      have hlen3 : zs.length + j * 8 + 8 ≤ 16 := by omega
      have hpc3 : p' + j * 6 + 6 ≤ pp + 13 := by omega
      have hpb : p' ≤ 600000001000 := by omega
      clear hlen hpc
      go_wp2_with fail
      refine (pick w0 g p' 4 bs _ X.out.1 (by omega) (by omega)).mono ?_
      rintro e wp ⟨y9, rfl, hy0, hy1, hrp, hgp⟩
      have hzp : wr.heap.size ≤ wp.heap.size := hgp.size
      have Y := Lib.hid (And.intro hrp (And.intro (X.out.2.1.trans hgp) (X.out.2.2.apart hgp (by omega)))); clear hrp hgp X
      by_cases hy : y9 = 0
      · subst hy
        have hb2 : Below (wp.heap.size) wp (wp.alloc (.cells #[.int .i64 (1012)] 3)) := (Below.refl _ _).alloc (by simp) _
        have ho2 := lits_own wp [1012] (by simp) (by intro z hz; simp only [List.mem_cons, List.not_mem_nil, or_false] at hz; apply wf_near; omega)
        have S2 : Hid (RS w0 (wp.alloc (.cells #[.int .i64 (1012)] 3)) g bs (p'+1) ∧ Within g (g + 1) w (wp.alloc (.cells #[.int .i64 (1012)] 3)) ∧ OwnI (wp.alloc (.cells #[.int .i64 (1012)] 3)) (w.heap.size) (wr.heap.size) (.slice Av zs.length cv) (zs) ∧ OwnI (wp.alloc (.cells #[.int .i64 (1012)] 3)) (wp.heap.size) (wp.heap.size + 1) (.slice (some ⟨wp.heap.size, 0, none⟩) 1 1) ([1012])) := Lib.hid ⟨(Y.out.1).below hb2 (by omega), (Y.out.2.1).then_below hb2 (by omega), (Y.out.2.2).belowB hb2 (by omega), (by simpa using ho2)⟩
        clear Y
        clear hb2 ho2
        go_wp2_with (at_builtin; (refine wpList_append_W rfl _ _ _ rfl Try.underlying25 intInfo (w.heap.size) (wr.heap.size) (.slice Av zs.length cv) (zs) rfl (S2.out.2.2.1) (by first | omega | (simp <;> omega)) (.slice (some ⟨wp.heap.size, 0, none⟩) 1 1) ([1012]) rfl (S2.out.2.2.2).rd (by first | omega | (simp <;> omega)) ?_))
        intro d w_3 ho3 hb3 hw3
        have hz3 : wp.heap.size + 1 ≤ w_3.heap.size := by have := hb3.size; simpa using this
        have S3 : Hid (RS w0 w_3 g bs (p'+1) ∧ Within g (g + 1) w w_3 ∧ OwnI w_3 (w.heap.size) (w_3.heap.size) d ((zs) ++ ([1012]))) := Lib.hid ⟨(S2.out.1).below hb3 (by omega), (S2.out.2.1).then_below hb3 (by omega), (by simpa using ho3)⟩
        clear S2
        clear ho3 hb3 hw3
        go_wp2_with fail
        refine (HGh.out 0 w0 g ((p'+1)) bs _ (by omega) (S3.out.1) (by omega)).mono ?_
        rintro e w_4 ⟨b, zb, p4, rfl, ho4, hl4, hr4, hp4, hg4⟩
        have hz4 : w_3.heap.size ≤ w_4.heap.size := by have := hg4.size; simpa using this
        have S4 : Hid (RS w0 w_4 g bs (p4) ∧ Within g (g + 1) w w_4 ∧ OwnI w_4 (w.heap.size) (w_3.heap.size) d ((zs) ++ ([1012])) ∧ OwnI w_4 (w_3.heap.size) (w_4.heap.size) b (zb)) := Lib.hid ⟨hr4, (S3.out.2.1).trans hg4, (S3.out.2.2).apart hg4 (by omega), (by simpa using ho4)⟩
        clear S3
        clear ho4 hr4 hg4
        go_wp2_with (at_builtin; (refine wpList_append_V rfl _ _ _ rfl Try.underlying25 intInfo (w.heap.size) (w_3.heap.size) d ((zs) ++ ([1012])) rfl (S4.out.2.2.1) (by first | omega | (simp <;> omega)) b (zb) rfl (S4.out.2.2.2).rd (by first | omega | (simp <;> omega)) ?_))
        intro f w_5 ho5 hb5
        have hz5 : w_4.heap.size ≤ w_5.heap.size := by have := hb5.size; simpa using this
        have S5 : Hid (RS w0 w_5 g bs (p4) ∧ Within g (g + 1) w w_5 ∧ OwnI w_5 (w.heap.size) (w_5.heap.size) f (((zs) ++ ([1012])) ++ (zb))) := Lib.hid ⟨(S4.out.1).below hb5 (by omega), (S4.out.2.1).then_below hb5 (by omega), (by simpa using ho5)⟩
        clear S4
        clear ho5 hb5
        have hb6 : Below (w_5.heap.size) w_5 (w_5.alloc (.cells #[.int .i64 (1013), .int .i64 (1004)] 3)) := (Below.refl _ _).alloc (by simp) _
        have ho6 := lits_own w_5 [1013, 1004] (by simp) (by intro z hz; simp only [List.mem_cons, List.not_mem_nil, or_false] at hz; apply wf_near; omega)
        have S6 : Hid (RS w0 (w_5.alloc (.cells #[.int .i64 (1013), .int .i64 (1004)] 3)) g bs (p4) ∧ Within g (g + 1) w (w_5.alloc (.cells #[.int .i64 (1013), .int .i64 (1004)] 3)) ∧ OwnI (w_5.alloc (.cells #[.int .i64 (1013), .int .i64 (1004)] 3)) (w.heap.size) (w_5.heap.size) f (((zs) ++ ([1012])) ++ (zb)) ∧ OwnI (w_5.alloc (.cells #[.int .i64 (1013), .int .i64 (1004)] 3)) (w_5.heap.size) (w_5.heap.size + 1) (.slice (some ⟨w_5.heap.size, 0, none⟩) 2 2) ([1013, 1004])) := Lib.hid ⟨(S5.out.1).below hb6 (by omega), (S5.out.2.1).then_below hb6 (by omega), (S5.out.2.2).belowB hb6 (by omega), (by simpa using ho6)⟩
        clear S5
        clear hb6 ho6
        go_wp2_with (at_builtin; (refine wpList_append_V rfl _ _ _ rfl Try.underlying25 intInfo (w.heap.size) (w_5.heap.size) f (((zs) ++ ([1012])) ++ (zb)) rfl (S6.out.2.2.1) (by first | omega | (simp <;> omega)) (.slice (some ⟨w_5.heap.size, 0, none⟩) 2 2) ([1013, 1004]) rfl (S6.out.2.2.2).rd (by first | omega | (simp <;> omega)) ?_))
        intro c w_7 ho7 hb7
        have hz7 : w_5.heap.size + 1 ≤ w_7.heap.size := by have := hb7.size; simpa using this
        have S7 : Hid (RS w0 w_7 g bs (p4) ∧ Within g (g + 1) w w_7 ∧ OwnI w_7 (w.heap.size) (w_7.heap.size) c ((((zs) ++ ([1012])) ++ (zb)) ++ ([1013, 1004]))) := Lib.hid ⟨(S6.out.1).below hb7 (by omega), (S6.out.2.1).then_below hb7 (by omega), (by simpa using ho7)⟩
        clear S6
        clear ho7 hb7
        go_wp2
        go_roundw
        case rel => exact ⟨j, p4, (((((zs) ++ ([1012]))) ++ (zb)) ++ ([1013, 1004])), by first | rfl | go_num, by omega, by omega, S7.out.2.2, by first | omega | (simp; omega), S7.out.1, by omega, S7.out.2.1⟩
        case measure => simp [intOf]
      · have hyb : (y9 == 0) = false := by simpa using hy
        go_wp2_with fail
        refine (pick w0 g (p'+1) (3) bs _ (Y.out.1) (by omega) (by omega)).mono ?_
        rintro e w_2 ⟨y, rfl, hy0, hy1, hr2, hg2⟩
        have hz2 : wp.heap.size ≤ w_2.heap.size := by have := hg2.size; simpa using this
        have S2 : Hid (RS w0 w_2 g bs (p'+1 + 1) ∧ Within g (g + 1) w w_2 ∧ OwnI w_2 (w.heap.size) (wr.heap.size) (.slice Av zs.length cv) (zs)) := Lib.hid ⟨hr2, (Y.out.2.1).trans hg2, (Y.out.2.2).apart hg2 (by omega)⟩
        clear Y
        clear hr2 hg2
        have hb3 : Below (w_2.heap.size) w_2 (w_2.alloc (.cells #[.int .i64 (1001+y)] 3)) := (Below.refl _ _).alloc (by simp) _
        have ho3 := lits_own w_2 [1001+y] (by simp) (by intro z hz; simp only [List.mem_cons, List.not_mem_nil, or_false] at hz; apply wf_near; omega)
        have S3 : Hid (RS w0 (w_2.alloc (.cells #[.int .i64 (1001+y)] 3)) g bs (p'+1 + 1) ∧ Within g (g + 1) w (w_2.alloc (.cells #[.int .i64 (1001+y)] 3)) ∧ OwnI (w_2.alloc (.cells #[.int .i64 (1001+y)] 3)) (w.heap.size) (wr.heap.size) (.slice Av zs.length cv) (zs) ∧ OwnI (w_2.alloc (.cells #[.int .i64 (1001+y)] 3)) (w_2.heap.size) (w_2.heap.size + 1) (.slice (some ⟨w_2.heap.size, 0, none⟩) 1 1) ([1001+y])) := Lib.hid ⟨(S2.out.1).below hb3 (by omega), (S2.out.2.1).then_below hb3 (by omega), (S2.out.2.2).belowB hb3 (by omega), (by simpa using ho3)⟩
        clear S2
        clear hb3 ho3
        go_wp2_with (at_builtin; (refine wpList_append_V rfl _ _ _ rfl Try.underlying25 intInfo (w.heap.size) (wr.heap.size) (.slice Av zs.length cv) (zs) rfl (S3.out.2.2.1) (by first | omega | (simp <;> omega)) (.slice (some ⟨w_2.heap.size, 0, none⟩) 1 1) ([1001+y]) rfl (S3.out.2.2.2).rd (by first | omega | (simp <;> omega)) ?_))
        intro c w_4 ho4 hb4
        have hz4 : w_2.heap.size + 1 ≤ w_4.heap.size := by have := hb4.size; simpa using this
        have S4 : Hid (RS w0 w_4 g bs (p'+1 + 1) ∧ Within g (g + 1) w w_4 ∧ OwnI w_4 (w.heap.size) (w_4.heap.size) c ((zs) ++ ([1001+y]))) := Lib.hid ⟨(S3.out.1).below hb4 (by omega), (S3.out.2.1).then_below hb4 (by omega), (by simpa using ho4)⟩
        clear S3
        clear ho4 hb4
        go_wp2
        go_roundw
        case rel => exact ⟨j, p'+1 + 1, ((zs) ++ ([1001+y])), by first | rfl | go_num, by omega, by omega, S4.out.2.2, by first | omega | (simp; omega), S4.out.1, by omega, S4.out.2.1⟩
        case measure => simp [intOf]

set_option maxHeartbeats 20000000 in
theorem shuf6 (HG : ∀ (n : Int) (w0 : World) (g pp : Nat) (bs : List Int) (w : World), 0 ≤ n ∧ n ≤ 1000 → RS w0 w g bs pp → pp ≤ 600000000000 → Calls Try.prog 76 #[.pointer (some ⟨g, 0, none⟩), .int .i64 3, .int .i64 n] w (PartPost w0 g pp bs w 28 21)) : ∀ (n : Int) (w0 : World) (g pp : Nat) (bs : List Int) (w : World), 0 ≤ n ∧ n ≤ 1000 → RS w0 w g bs pp → pp ≤ 500000000000 → Calls Try.prog 76 #[.pointer (some ⟨g, 0, none⟩), .int .i64 6, .int .i64 n] w (PartPost w0 g pp bs w 190 141) := by
  intro n w0 g pp bs w hn h hp
  have hgw := h.rdr.lt
  have HGh := Lib.hid HG; clear HG
  have H := Lib.hid h; clear h
  have L0 := Lib.hid (lits_own w [] (by simp) (by simp))
  have B0 : Below w.heap.size w (w.alloc (.cells #[] 3)) := (Below.refl _ _).alloc (Nat.le_refl _) _
  have H0 := Lib.hid (H.out.below B0 H.out.size)
  have hs0 : w0.heap.size ≤ w.heap.size := H.out.size
  have G0 : Hid (Within g (g + 1) w (w.alloc (.cells #[] 3))) := Lib.hid (Within.of_below B0)
  clear B0 H
  go_enter Try.func76, Try.ntmps76
  go_wp2_with fail
  refine (pick w0 g pp 7 bs _ H0.out (by omega) (by omega)).mono ?_
  rintro e w1 ⟨x, rfl, hx0, hx1, hr1, hg1⟩
  have hsz1 : w.heap.size + 1 ≤ w1.heap.size := by have := hg1.size; simpa using this
  have L1 := Lib.hid (L0.out.apart hg1 (by omega))
  have H1 := Lib.hid hr1
  have G1 := Lib.hid (G0.out.trans hg1)
  clear hr1 hg1 L0 H0 G0
  obtain ⟨j0, rfl⟩ := Int.eq_ofNat_of_zero_le hx0
  go_wp2
  go_loopw [7, 8] (fun v k wr => ∃ (j p' : Nat) (zs : List Int), k = .int .i64 j ∧ j ≤ 6 ∧ w.heap.size + 1 ≤ wr.heap.size ∧ OwnI wr w.heap.size wr.heap.size v zs ∧ zs.length + j * 31 ≤ 186 ∧ RS w0 wr g bs p' ∧ p' + j * 23 ≤ pp + 139 ∧ Within g (g + 1) w wr) (fun _ k _ => (intOf k).toNat)
  case atStart => exact ⟨j0, pp + 1, [], rfl, by omega, hsz1, ⟨L1.out.own, fun g hg => by have := L1.out.lt g hg; omega⟩, by simp; omega, H1.out, by omega, G1.out⟩
  case round =>
    clear L1 H1 G1 hsz1 hx0 hx1
    obtain ⟨j, p', zs, rfl, hj, hsz, hown, hlen, hrs, hpc, hgw2⟩ := hrel
    obtain ⟨Av, cv, rfl, _⟩ := hown.rd
    have X := Lib.hid (And.intro hrs (And.intro hgw2 hown)); clear hown hrs hgw2
    rcases j with _ | j
    · have hzl : zs.length ≤ 186 := by omega
      have hpl : p' ≤ pp + 139 := by omega
      clear hlen hpc hj
      go_wp2_with fail
      refine (oddN w0 g p' n bs _ X.out.1 hn (by omega)).mono ?_
      rintro e wo ⟨b, po, rfl, hro, hpo, hgo⟩
      have hzo : wr.heap.size ≤ wo.heap.size := hgo.size
      have Y := Lib.hid (And.intro hro (And.intro (X.out.2.1.trans hgo) (X.out.2.2.apart hgo (by omega)))); clear hro hgo X
      rcases b with _ | _
      · go_wp2
        go_ret
        exact ⟨_, zs, po, rfl, Y.out.2.2.widen hzo, by omega, Y.out.1, by omega, Y.out.2.1⟩
      · go_wp2_with fail
        refine (pick w0 g po 3 bs _ Y.out.1 (by omega) (by omega)).mono ?_
        rintro e wp ⟨y9, rfl, hy0, hy1, hrp, hgp⟩
        have hzp : wo.heap.size ≤ wp.heap.size := hgp.size
        have Z := Lib.hid (And.intro hrp (And.intro (Y.out.2.1.trans hgp) (Y.out.2.2.apart hgp (by omega)))); clear hrp hgp Y
        have hcases : y9 = 0 ∨ y9 = 1 ∨ y9 = 2 := by omega
        clear hy0 hy1
        rcases hcases with rfl | rfl | rfl
        · skip
          have hb2 : Below (wp.heap.size) wp (wp.alloc (.cells #[.int .i64 (1)] 3)) := (Below.refl _ _).alloc (by simp) _
          have ho2 := lits_own wp [1] (by simp) (by intro z hz; simp only [List.mem_cons, List.not_mem_nil, or_false] at hz; apply wf_near; omega)
          have S2 : Hid (RS w0 (wp.alloc (.cells #[.int .i64 (1)] 3)) g bs (po+1) ∧ Within g (g + 1) w (wp.alloc (.cells #[.int .i64 (1)] 3)) ∧ OwnI (wp.alloc (.cells #[.int .i64 (1)] 3)) (w.heap.size) (wr.heap.size) (.slice Av zs.length cv) (zs) ∧ OwnI (wp.alloc (.cells #[.int .i64 (1)] 3)) (wp.heap.size) (wp.heap.size + 1) (.slice (some ⟨wp.heap.size, 0, none⟩) 1 1) ([1])) := Lib.hid ⟨(Z.out.1).below hb2 (by omega), (Z.out.2.1).then_below hb2 (by omega), (Z.out.2.2).belowB hb2 (by omega), (by simpa using ho2)⟩
          clear Z
          clear hb2 ho2
          go_wp2_with (at_builtin; (refine wpList_append_V rfl _ _ _ rfl Try.underlying25 intInfo (w.heap.size) (wr.heap.size) (.slice Av zs.length cv) (zs) rfl (S2.out.2.2.1) (by first | omega | (simp <;> omega)) (.slice (some ⟨wp.heap.size, 0, none⟩) 1 1) ([1]) rfl (S2.out.2.2.2).rd (by first | omega | (simp <;> omega)) ?_))
          intro c w_3 ho3 hb3
          have hz3 : wp.heap.size + 1 ≤ w_3.heap.size := by have := hb3.size; simpa using this
          have S3 : Hid (RS w0 w_3 g bs (po+1) ∧ Within g (g + 1) w w_3 ∧ OwnI w_3 (w.heap.size) (w_3.heap.size) c ((zs) ++ ([1]))) := Lib.hid ⟨(S2.out.1).below hb3 (by omega), (S2.out.2.1).then_below hb3 (by omega), (by simpa using ho3)⟩
          clear S2
          clear ho3 hb3
          go_wp2
          go_ret
          exact ⟨_, _, po + 1, rfl, S3.out.2.2, by first | omega | (simp; omega), S3.out.1, by omega, S3.out.2.1⟩
        · skip
          have hb2 : Below (wp.heap.size) wp (wp.alloc (.cells #[.int .i64 (1012), .int .i64 (1001), .int .i64 (1013)] 3)) := (Below.refl _ _).alloc (by simp) _
          have ho2 := lits_own wp [1012, 1001, 1013] (by simp) (by intro z hz; simp only [List.mem_cons, List.not_mem_nil, or_false] at hz; apply wf_near; omega)
          have S2 : Hid (RS w0 (wp.alloc (.cells #[.int .i64 (1012), .int .i64 (1001), .int .i64 (1013)] 3)) g bs (po+1) ∧ Within g (g + 1) w (wp.alloc (.cells #[.int .i64 (1012), .int .i64 (1001), .int .i64 (1013)] 3)) ∧ OwnI (wp.alloc (.cells #[.int .i64 (1012), .int .i64 (1001), .int .i64 (1013)] 3)) (w.heap.size) (wr.heap.size) (.slice Av zs.length cv) (zs) ∧ OwnI (wp.alloc (.cells #[.int .i64 (1012), .int .i64 (1001), .int .i64 (1013)] 3)) (wp.heap.size) (wp.heap.size + 1) (.slice (some ⟨wp.heap.size, 0, none⟩) 3 3) ([1012, 1001, 1013])) := Lib.hid ⟨(Z.out.1).below hb2 (by omega), (Z.out.2.1).then_below hb2 (by omega), (Z.out.2.2).belowB hb2 (by omega), (by simpa using ho2)⟩
          clear Z
          clear hb2 ho2
          go_wp2_with (at_builtin; (refine wpList_append_V rfl _ _ _ rfl Try.underlying25 intInfo (w.heap.size) (wr.heap.size) (.slice Av zs.length cv) (zs) rfl (S2.out.2.2.1) (by first | omega | (simp <;> omega)) (.slice (some ⟨wp.heap.size, 0, none⟩) 3 3) ([1012, 1001, 1013]) rfl (S2.out.2.2.2).rd (by first | omega | (simp <;> omega)) ?_))
          intro c w_3 ho3 hb3
          have hz3 : wp.heap.size + 1 ≤ w_3.heap.size := by have := hb3.size; simpa using this
          have S3 : Hid (RS w0 w_3 g bs (po+1) ∧ Within g (g + 1) w w_3 ∧ OwnI w_3 (w.heap.size) (w_3.heap.size) c ((zs) ++ ([1012, 1001, 1013]))) := Lib.hid ⟨(S2.out.1).below hb3 (by omega), (S2.out.2.1).then_below hb3 (by omega), (by simpa using ho3)⟩
          clear S2
          clear ho3 hb3
          go_wp2
          go_ret
          exact ⟨_, _, po + 1, rfl, S3.out.2.2, by first | omega | (simp; omega), S3.out.1, by omega, S3.out.2.1⟩
        · skip
          have hb2 : Below (wp.heap.size) wp (wp.alloc (.cells #[.int .i64 (1012), .int .i64 (1), .int .i64 (1013), .int .i64 (1004)] 3)) := (Below.refl _ _).alloc (by simp) _
          have ho2 := lits_own wp [1012, 1, 1013, 1004] (by simp) (by intro z hz; simp only [List.mem_cons, List.not_mem_nil, or_false] at hz; apply wf_near; omega)
          have S2 : Hid (RS w0 (wp.alloc (.cells #[.int .i64 (1012), .int .i64 (1), .int .i64 (1013), .int .i64 (1004)] 3)) g bs (po+1) ∧ Within g (g + 1) w (wp.alloc (.cells #[.int .i64 (1012), .int .i64 (1), .int .i64 (1013), .int .i64 (1004)] 3)) ∧ OwnI (wp.alloc (.cells #[.int .i64 (1012), .int .i64 (1), .int .i64 (1013), .int .i64 (1004)] 3)) (w.heap.size) (wr.heap.size) (.slice Av zs.length cv) (zs) ∧ OwnI (wp.alloc (.cells #[.int .i64 (1012), .int .i64 (1), .int .i64 (1013), .int .i64 (1004)] 3)) (wp.heap.size) (wp.heap.size + 1) (.slice (some ⟨wp.heap.size, 0, none⟩) 4 4) ([1012, 1, 1013, 1004])) := Lib.hid ⟨(Z.out.1).below hb2 (by omega), (Z.out.2.1).then_below hb2 (by omega), (Z.out.2.2).belowB hb2 (by omega), (by simpa using ho2)⟩
          clear Z
          clear hb2 ho2
          go_wp2_with (at_builtin; (refine wpList_append_V rfl _ _ _ rfl Try.underlying25 intInfo (w.heap.size) (wr.heap.size) (.slice Av zs.length cv) (zs) rfl (S2.out.2.2.1) (by first | omega | (simp <;> omega)) (.slice (some ⟨wp.heap.size, 0, none⟩) 4 4) ([1012, 1, 1013, 1004]) rfl (S2.out.2.2.2).rd (by first | omega | (simp <;> omega)) ?_))
          intro c w_3 ho3 hb3
          have hz3 : wp.heap.size + 1 ≤ w_3.heap.size := by have := hb3.size; simpa using this
          have S3 : Hid (RS w0 w_3 g bs (po+1) ∧ Within g (g + 1) w w_3 ∧ OwnI w_3 (w.heap.size) (w_3.heap.size) c ((zs) ++ ([1012, 1, 1013, 1004]))) := Lib.hid ⟨(S2.out.1).below hb3 (by omega), (S2.out.2.1).then_below hb3 (by omega), (by simpa using ho3)⟩
          clear S2
          clear ho3 hb3
          go_wp2
          go_ret
          exact ⟨_, _, po + 1, rfl, S3.out.2.2, by first | omega | (simp; omega), S3.out.1, by omega, S3.out.2.1⟩
    · have hjp : (0 : Int) < ((j + 1 : Nat) : Int) := by omega
      have hlen3 : zs.length + j * 31 + 31 ≤ 186 := by omega
      have hpc3 : p' + j * 23 + 23 ≤ pp + 139 := by omega
      have hpb : p' ≤ 500000001000 := by omega
      clear hlen hpc
      go_wp2_with fail
      refine (pick w0 g p' 4 bs _ X.out.1 (by omega) (by omega)).mono ?_
      rintro e wp ⟨y9, rfl, hy0, hy1, hrp, hgp⟩
      have hzp : wr.heap.size ≤ wp.heap.size := hgp.size
      have Y := Lib.hid (And.intro hrp (And.intro (X.out.2.1.trans hgp) (X.out.2.2.apart hgp (by omega)))); clear hrp hgp X
      by_cases hy : y9 = 0
      · subst hy
        have hb2 : Below (wp.heap.size) wp (wp.alloc (.cells #[.int .i64 (1012)] 3)) := (Below.refl _ _).alloc (by simp) _
        have ho2 := lits_own wp [1012] (by simp) (by intro z hz; simp only [List.mem_cons, List.not_mem_nil, or_false] at hz; apply wf_near; omega)
        have S2 : Hid (RS w0 (wp.alloc (.cells #[.int .i64 (1012)] 3)) g bs (p'+1) ∧ Within g (g + 1) w (wp.alloc (.cells #[.int .i64 (1012)] 3)) ∧ OwnI (wp.alloc (.cells #[.int .i64 (1012)] 3)) (w.heap.size) (wr.heap.size) (.slice Av zs.length cv) (zs) ∧ OwnI (wp.alloc (.cells #[.int .i64 (1012)] 3)) (wp.heap.size) (wp.heap.size + 1) (.slice (some ⟨wp.heap.size, 0, none⟩) 1 1) ([1012])) := Lib.hid ⟨(Y.out.1).below hb2 (by omega), (Y.out.2.1).then_below hb2 (by omega), (Y.out.2.2).belowB hb2 (by omega), (by simpa using ho2)⟩
        clear Y
        clear hb2 ho2
        go_wp2_with (at_builtin; (refine wpList_append_W rfl _ _ _ rfl Try.underlying25 intInfo (w.heap.size) (wr.heap.size) (.slice Av zs.length cv) (zs) rfl (S2.out.2.2.1) (by first | omega | (simp <;> omega)) (.slice (some ⟨wp.heap.size, 0, none⟩) 1 1) ([1012]) rfl (S2.out.2.2.2).rd (by first | omega | (simp <;> omega)) ?_))
        intro d w_3 ho3 hb3 hw3
        have hz3 : wp.heap.size + 1 ≤ w_3.heap.size := by have := hb3.size; simpa using this
        have S3 : Hid (RS w0 w_3 g bs (p'+1) ∧ Within g (g + 1) w w_3 ∧ OwnI w_3 (w.heap.size) (w_3.heap.size) d ((zs) ++ ([1012]))) := Lib.hid ⟨(S2.out.1).below hb3 (by omega), (S2.out.2.1).then_below hb3 (by omega), (by simpa using ho3)⟩
        clear S2
        clear ho3 hb3 hw3
        go_wp2_with fail
        refine (HGh.out 0 w0 g ((p'+1)) bs _ (by omega) (S3.out.1) (by omega)).mono ?_
        rintro e w_4 ⟨b, zb, p4, rfl, ho4, hl4, hr4, hp4, hg4⟩
        have hz4 : w_3.heap.size ≤ w_4.heap.size := by have := hg4.size; simpa using this
        have S4 : Hid (RS w0 w_4 g bs (p4) ∧ Within g (g + 1) w w_4 ∧ OwnI w_4 (w.heap.size) (w_3.heap.size) d ((zs) ++ ([1012])) ∧ OwnI w_4 (w_3.heap.size) (w_4.heap.size) b (zb)) := Lib.hid ⟨hr4, (S3.out.2.1).trans hg4, (S3.out.2.2).apart hg4 (by omega), (by simpa using ho4)⟩
        clear S3
        clear ho4 hr4 hg4
        go_wp2_with (at_builtin; (refine wpList_append_V rfl _ _ _ rfl Try.underlying25 intInfo (w.heap.size) (w_3.heap.size) d ((zs) ++ ([1012])) rfl (S4.out.2.2.1) (by first | omega | (simp <;> omega)) b (zb) rfl (S4.out.2.2.2).rd (by first | omega | (simp <;> omega)) ?_))
        intro f w_5 ho5 hb5
        have hz5 : w_4.heap.size ≤ w_5.heap.size := by have := hb5.size; simpa using this
        have S5 : Hid (RS w0 w_5 g bs (p4) ∧ Within g (g + 1) w w_5 ∧ OwnI w_5 (w.heap.size) (w_5.heap.size) f (((zs) ++ ([1012])) ++ (zb))) := Lib.hid ⟨(S4.out.1).below hb5 (by omega), (S4.out.2.1).then_below hb5 (by omega), (by simpa using ho5)⟩
        clear S4
        clear ho5 hb5
        have hb6 : Below (w_5.heap.size) w_5 (w_5.alloc (.cells #[.int .i64 (1013), .int .i64 (1004)] 3)) := (Below.refl _ _).alloc (by simp) _
        have ho6 := lits_own w_5 [1013, 1004] (by simp) (by intro z hz; simp only [List.mem_cons, List.not_mem_nil, or_false] at hz; apply wf_near; omega)
        have S6 : Hid (RS w0 (w_5.alloc (.cells #[.int .i64 (1013), .int .i64 (1004)] 3)) g bs (p4) ∧ Within g (g + 1) w (w_5.alloc (.cells #[.int .i64 (1013), .int .i64 (1004)] 3)) ∧ OwnI (w_5.alloc (.cells #[.int .i64 (1013), .int .i64 (1004)] 3)) (w.heap.size) (w_5.heap.size) f (((zs) ++ ([1012])) ++ (zb)) ∧ OwnI (w_5.alloc (.cells #[.int .i64 (1013), .int .i64 (1004)] 3)) (w_5.heap.size) (w_5.heap.size + 1) (.slice (some ⟨w_5.heap.size, 0, none⟩) 2 2) ([1013, 1004])) := Lib.hid ⟨(S5.out.1).below hb6 (by omega), (S5.out.2.1).then_below hb6 (by omega), (S5.out.2.2).belowB hb6 (by omega), (by simpa using ho6)⟩
        clear S5
        clear hb6 ho6
        go_wp2_with (at_builtin; (refine wpList_append_V rfl _ _ _ rfl Try.underlying25 intInfo (w.heap.size) (w_5.heap.size) f (((zs) ++ ([1012])) ++ (zb)) rfl (S6.out.2.2.1) (by first | omega | (simp <;> omega)) (.slice (some ⟨w_5.heap.size, 0, none⟩) 2 2) ([1013, 1004]) rfl (S6.out.2.2.2).rd (by first | omega | (simp <;> omega)) ?_))
        intro c w_7 ho7 hb7
        have hz7 : w_5.heap.size + 1 ≤ w_7.heap.size := by have := hb7.size; simpa using this
        have S7 : Hid (RS w0 w_7 g bs (p4) ∧ Within g (g + 1) w w_7 ∧ OwnI w_7 (w.heap.size) (w_7.heap.size) c ((((zs) ++ ([1012])) ++ (zb)) ++ ([1013, 1004]))) := Lib.hid ⟨(S6.out.1).below hb7 (by omega), (S6.out.2.1).then_below hb7 (by omega), (by simpa using ho7)⟩
        clear S6
        clear ho7 hb7
        go_wp2
        go_roundw
        case rel => exact ⟨j, p4, (((((zs) ++ ([1012]))) ++ (zb)) ++ ([1013, 1004])), by first | rfl | go_num, by omega, by omega, S7.out.2.2, by first | omega | (simp; omega), S7.out.1, by omega, S7.out.2.1⟩
        case measure => simp [intOf]
      · have hyb : (y9 == 0) = false := by simpa using hy
        go_wp2_with fail
        refine (pick w0 g (p'+1) (3) bs _ (Y.out.1) (by omega) (by omega)).mono ?_
        rintro e w_2 ⟨y, rfl, hy0, hy1, hr2, hg2⟩
        have hz2 : wp.heap.size ≤ w_2.heap.size := by have := hg2.size; simpa using this
        have S2 : Hid (RS w0 w_2 g bs (p'+1 + 1) ∧ Within g (g + 1) w w_2 ∧ OwnI w_2 (w.heap.size) (wr.heap.size) (.slice Av zs.length cv) (zs)) := Lib.hid ⟨hr2, (Y.out.2.1).trans hg2, (Y.out.2.2).apart hg2 (by omega)⟩
        clear Y
        clear hr2 hg2
        have hb3 : Below (w_2.heap.size) w_2 (w_2.alloc (.cells #[.int .i64 (1001+y)] 3)) := (Below.refl _ _).alloc (by simp) _
        have ho3 := lits_own w_2 [1001+y] (by simp) (by intro z hz; simp only [List.mem_cons, List.not_mem_nil, or_false] at hz; apply wf_near; omega)
        have S3 : Hid (RS w0 (w_2.alloc (.cells #[.int .i64 (1001+y)] 3)) g bs (p'+1 + 1) ∧ Within g (g + 1) w (w_2.alloc (.cells #[.int .i64 (1001+y)] 3)) ∧ OwnI (w_2.alloc (.cells #[.int .i64 (1001+y)] 3)) (w.heap.size) (wr.heap.size) (.slice Av zs.length cv) (zs) ∧ OwnI (w_2.alloc (.cells #[.int .i64 (1001+y)] 3)) (w_2.heap.size) (w_2.heap.size + 1) (.slice (some ⟨w_2.heap.size, 0, none⟩) 1 1) ([1001+y])) := Lib.hid ⟨(S2.out.1).below hb3 (by omega), (S2.out.2.1).then_below hb3 (by omega), (S2.out.2.2).belowB hb3 (by omega), (by simpa using ho3)⟩
        clear S2
        clear hb3 ho3
        go_wp2_with (at_builtin; (refine wpList_append_V rfl _ _ _ rfl Try.underlying25 intInfo (w.heap.size) (wr.heap.size) (.slice Av zs.length cv) (zs) rfl (S3.out.2.2.1) (by first | omega | (simp <;> omega)) (.slice (some ⟨w_2.heap.size, 0, none⟩) 1 1) ([1001+y]) rfl (S3.out.2.2.2).rd (by first | omega | (simp <;> omega)) ?_))
        intro c w_4 ho4 hb4
        have hz4 : w_2.heap.size + 1 ≤ w_4.heap.size := by have := hb4.size; simpa using this
        have S4 : Hid (RS w0 w_4 g bs (p'+1 + 1) ∧ Within g (g + 1) w w_4 ∧ OwnI w_4 (w.heap.size) (w_4.heap.size) c ((zs) ++ ([1001+y]))) := Lib.hid ⟨(S3.out.1).below hb4 (by omega), (S3.out.2.1).then_below hb4 (by omega), (by simpa using ho4)⟩
        clear S3
        clear ho4 hb4
        go_wp2
        go_roundw
        case rel => exact ⟨j, p'+1 + 1, ((zs) ++ ([1001+y])), by first | rfl | go_num, by omega, by omega, S4.out.2.2, by first | omega | (simp; omega), S4.out.1, by omega, S4.out.2.1⟩
        case measure => simp [intOf]

set_option maxHeartbeats 20000000 in
theorem shuf5 (HG : ∀ (n : Int) (w0 : World) (g pp : Nat) (bs : List Int) (w : World), 0 ≤ n ∧ n ≤ 1000 → RS w0 w g bs pp → pp ≤ 600000000000 → Calls Try.prog 76 #[.pointer (some ⟨g, 0, none⟩), .int .i64 2, .int .i64 n] w (PartPost w0 g pp bs w 20 15)) : ∀ (n : Int) (w0 : World) (g pp : Nat) (bs : List Int) (w : World), 0 ≤ n ∧ n ≤ 1000 → RS w0 w g bs pp → pp ≤ 500000000000 → Calls Try.prog 76 #[.pointer (some ⟨g, 0, none⟩), .int .i64 5, .int .i64 n] w (PartPost w0 g pp bs w 119 88) := by
  intro n w0 g pp bs w hn h hp
  have hgw := h.rdr.lt
  have HGh := Lib.hid HG; clear HG
  have H := Lib.hid h; clear h
  have L0 := Lib.hid (lits_own w [] (by simp) (by simp))
  have B0 : Below w.heap.size w (w.alloc (.cells #[] 3)) := (Below.refl _ _).alloc (Nat.le_refl _) _
  have H0 := Lib.hid (H.out.below B0 H.out.size)
  have hs0 : w0.heap.size ≤ w.heap.size := H.out.size
  have G0 : Hid (Within g (g + 1) w (w.alloc (.cells #[] 3))) := Lib.hid (Within.of_below B0)
  clear B0 H
  go_enter Try.func76, Try.ntmps76
  go_wp2_with fail
  refine (pick w0 g pp 6 bs _ H0.out (by omega) (by omega)).mono ?_
  rintro e w1 ⟨x, rfl, hx0, hx1, hr1, hg1⟩
  have hsz1 : w.heap.size + 1 ≤ w1.heap.size := by have := hg1.size; simpa using this
  have L1 := Lib.hid (L0.out.apart hg1 (by omega))
  have H1 := Lib.hid hr1
  have G1 := Lib.hid (G0.out.trans hg1)
  clear hr1 hg1 L0 H0 G0
  obtain ⟨j0, rfl⟩ := Int.eq_ofNat_of_zero_le hx0
  go_wp2
  go_loopw [7, 8] (fun v k wr => ∃ (j p' : Nat) (zs : List Int), k = .int .i64 j ∧ j ≤ 5 ∧ w.heap.size + 1 ≤ wr.heap.size ∧ OwnI wr w.heap.size wr.heap.size v zs ∧ zs.length + j * 23 ≤ 115 ∧ RS w0 wr g bs p' ∧ p' + j * 17 ≤ pp + 86 ∧ Within g (g + 1) w wr) (fun _ k _ => (intOf k).toNat)
  case atStart => exact ⟨j0, pp + 1, [], rfl, by omega, hsz1, ⟨L1.out.own, fun g hg => by have := L1.out.lt g hg; omega⟩, by simp; omega, H1.out, by omega, G1.out⟩
  case round =>
    clear L1 H1 G1 hsz1 hx0 hx1
    obtain ⟨j, p', zs, rfl, hj, hsz, hown, hlen, hrs, hpc, hgw2⟩ := hrel
    obtain ⟨Av, cv, rfl, _⟩ := hown.rd
    have X := Lib.hid (And.intro hrs (And.intro hgw2 hown)); clear hown hrs hgw2
    rcases j with _ | j
    · have hzl : zs.length ≤ 115 := by omega
      have hpl : p' ≤ pp + 86 := by omega
      clear hlen hpc hj
      go_wp2_with fail
      refine (oddN w0 g p' n bs _ X.out.1 hn (by omega)).mono ?_
      rintro e wo ⟨b, po, rfl, hro, hpo, hgo⟩
      have hzo : wr.heap.size ≤ wo.heap.size := hgo.size
      have Y := Lib.hid (And.intro hro (And.intro (X.out.2.1.trans hgo) (X.out.2.2.apart hgo (by omega)))); clear hro hgo X
      rcases b with _ | _
      · go_wp2
        go_ret
        exact ⟨_, zs, po, rfl, Y.out.2.2.widen hzo, by omega, Y.out.1, by omega, Y.out.2.1⟩
      · go_wp2_with fail
        refine (pick w0 g po 3 bs _ Y.out.1 (by omega) (by omega)).mono ?_
        rintro e wp ⟨y9, rfl, hy0, hy1, hrp, hgp⟩
        have hzp : wo.heap.size ≤ wp.heap.size := hgp.size
        have Z := Lib.hid (And.intro hrp (And.intro (Y.out.2.1.trans hgp) (Y.out.2.2.apart hgp (by omega)))); clear hrp hgp Y
        have hcases : y9 = 0 ∨ y9 = 1 ∨ y9 = 2 := by omega
        clear hy0 hy1
        rcases hcases with rfl | rfl | rfl
        · skip
          have hb2 : Below (wp.heap.size) wp (wp.alloc (.cells #[.int .i64 (1)] 3)) := (Below.refl _ _).alloc (by simp) _
          have ho2 := lits_own wp [1] (by simp) (by intro z hz; simp only [List.mem_cons, List.not_mem_nil, or_false] at hz; apply wf_near; omega)
          have S2 : Hid (RS w0 (wp.alloc (.cells #[.int .i64 (1)] 3)) g bs (po+1) ∧ Within g (g + 1) w (wp.alloc (.cells #[.int .i64 (1)] 3)) ∧ OwnI (wp.alloc (.cells #[.int .i64 (1)] 3)) (w.heap.size) (wr.heap.size) (.slice Av zs.length cv) (zs) ∧ OwnI (wp.alloc (.cells #[.int .i64 (1)] 3)) (wp.heap.size) (wp.heap.size + 1) (.slice (some ⟨wp.heap.size, 0, none⟩) 1 1) ([1])) := Lib.hid ⟨(Z.out.1).below hb2 (by omega), (Z.out.2.1).then_below hb2 (by omega), (Z.out.2.2).belowB hb2 (by omega), (by simpa using ho2)⟩
          clear Z
          clear hb2 ho2
          go_wp2_with (at_builtin; (refine wpList_append_V rfl _ _ _ rfl Try.underlying25 intInfo (w.heap.size) (wr.heap.size) (.slice Av zs.length cv) (zs) rfl (S2.out.2.2.1) (by first | omega | (simp <;> omega)) (.slice (some ⟨wp.heap.size, 0, none⟩) 1 1) ([1]) rfl (S2.out.2.2.2).rd (by first | omega | (simp <;> omega)) ?_))
          intro c w_3 ho3 hb3
          have hz3 : wp.heap.size + 1 ≤ w_3.heap.size := by have := hb3.size; simpa using this
          have S3 : Hid (RS w0 w_3 g bs (po+1) ∧ Within g (g + 1) w w_3 ∧ OwnI w_3 (w.heap.size) (w_3.heap.size) c ((zs) ++ ([1]))) := Lib.hid ⟨(S2.out.1).below hb3 (by omega), (S2.out.2.1).then_below hb3 (by omega), (by simpa using ho3)⟩
          clear S2
          clear ho3 hb3
          go_wp2
          go_ret
          exact ⟨_, _, po + 1, rfl, S3.out.2.2, by first | omega | (simp; omega), S3.out.1, by omega, S3.out.2.1⟩
        · skip
          have hb2 : Below (wp.heap.size) wp (wp.alloc (.cells #[.int .i64 (1012), .int .i64 (1001), .int .i64 (1013)] 3)) := (Below.refl _ _).alloc (by simp) _
          have ho2 := lits_own wp [1012, 1001, 1013] (by simp) (by intro z hz; simp only [List.mem_cons, List.not_mem_nil, or_false] at hz; apply wf_near; omega)
          have S2 : Hid (RS w0 (wp.alloc (.cells #[.int .i64 (1012), .int .i64 (1001), .int .i64 (1013)] 3)) g bs (po+1) ∧ Within g (g + 1) w (wp.alloc (.cells #[.int .i64 (1012), .int .i64 (1001), .int .i64 (1013)] 3)) ∧ OwnI (wp.alloc (.cells #[.int .i64 (1012), .int .i64 (1001), .int .i64 (1013)] 3)) (w.heap.size) (wr.heap.size) (.slice Av zs.length cv) (zs) ∧ OwnI (wp.alloc (.cells #[.int .i64 (1012), .int .i64 (1001), .int .i64 (1013)] 3)) (wp.heap.size) (wp.heap.size + 1) (.slice (some ⟨wp.heap.size, 0, none⟩) 3 3) ([1012, 1001, 1013])) := Lib.hid ⟨(Z.out.1).below hb2 (by omega), (Z.out.2.1).then_below hb2 (by omega), (Z.out.2.2).belowB hb2 (by omega), (by simpa using ho2)⟩
          clear Z
          clear hb2 ho2
          go_wp2_with (at_builtin; (refine wpList_append_V rfl _ _ _ rfl Try.underlying25 intInfo (w.heap.size) (wr.heap.size) (.slice Av zs.length cv) (zs) rfl (S2.out.2.2.1) (by first | omega | (simp <;> omega)) (.slice (some ⟨wp.heap.size, 0, none⟩) 3 3) ([1012, 1001, 1013]) rfl (S2.out.2.2.2).rd (by first | omega | (simp <;> omega)) ?_))
          intro c w_3 ho3 hb3
          have hz3 : wp.heap.size + 1 ≤ w_3.heap.size := by have := hb3.size; simpa using this
          have S3 : Hid (RS w0 w_3 g bs (po+1) ∧ Within g (g + 1) w w_3 ∧ OwnI w_3 (w.heap.size) (w_3.heap.size) c ((zs) ++ ([1012, 1001, 1013]))) := Lib.hid ⟨(S2.out.1).below hb3 (by omega), (S2.out.2.1).then_below hb3 (by omega), (by simpa using ho3)⟩
          clear S2
          clear ho3 hb3
          go_wp2
          go_ret
          exact ⟨_, _, po + 1, rfl, S3.out.2.2, by first | omega | (simp; omega), S3.out.1, by omega, S3.out.2.1⟩
        · skip
          have hb2 : Below (wp.heap.size) wp (wp.alloc (.cells #[.int .i64 (1012), .int .i64 (1), .int .i64 (1013), .int .i64 (1004)] 3)) := (Below.refl _ _).alloc (by simp) _
          have ho2 := lits_own wp [1012, 1, 1013, 1004] (by simp) (by intro z hz; simp only [List.mem_cons, List.not_mem_nil, or_false] at hz; apply wf_near; omega)
          have S2 : Hid (RS w0 (wp.alloc (.cells #[.int .i64 (1012), .int .i64 (1), .int .i64 (1013), .int .i64 (1004)] 3)) g bs (po+1) ∧ Within g (g + 1) w (wp.alloc (.cells #[.int .i64 (1012), .int .i64 (1), .int .i64 (1013), .int .i64 (1004)] 3)) ∧ OwnI (wp.alloc (.cells #[.int .i64 (1012), .int .i64 (1), .int .i64 (1013), .int .i64 (1004)] 3)) (w.heap.size) (wr.heap.size) (.slice Av zs.length cv) (zs) ∧ OwnI (wp.alloc (.cells #[.int .i64 (1012), .int .i64 (1), .int .i64 (1013), .int .i64 (1004)] 3)) (wp.heap.size) (wp.heap.size + 1) (.slice (some ⟨wp.heap.size, 0, none⟩) 4 4) ([1012, 1, 1013, 1004])) := Lib.hid ⟨(Z.out.1).below hb2 (by omega), (Z.out.2.1).then_below hb2 (by omega), (Z.out.2.2).belowB hb2 (by omega), (by simpa using ho2)⟩
          clear Z
          clear hb2 ho2
          go_wp2_with (at_builtin; (refine wpList_append_V rfl _ _ _ rfl Try.underlying25 intInfo (w.heap.size) (wr.heap.size) (.slice Av zs.length cv) (zs) rfl (S2.out.2.2.1) (by first | omega | (simp <;> omega)) (.slice (some ⟨wp.heap.size, 0, none⟩) 4 4) ([1012, 1, 1013, 1004]) rfl (S2.out.2.2.2).rd (by first | omega | (simp <;> omega)) ?_))
          intro c w_3 ho3 hb3
          have hz3 : wp.heap.size + 1 ≤ w_3.heap.size := by have := hb3.size; simpa using this
          have S3 : Hid (RS w0 w_3 g bs (po+1) ∧ Within g (g + 1) w w_3 ∧ OwnI w_3 (w.heap.size) (w_3.heap.size) c ((zs) ++ ([1012, 1, 1013, 1004]))) := Lib.hid ⟨(S2.out.1).below hb3 (by omega), (S2.out.2.1).then_below hb3 (by omega), (by simpa using ho3)⟩
          clear S2
          clear ho3 hb3
          go_wp2
          go_ret
          exact ⟨_, _, po + 1, rfl, S3.out.2.2, by first | omega | (simp; omega), S3.out.1, by omega, S3.out.2.1⟩
    · have hjp : (0 : Int) < ((j + 1 : Nat) : Int) := by omega
      have hlen3 : zs.length + j * 23 + 23 ≤ 115 := by omega
      have hpc3 : p' + j * 17 + 17 ≤ pp + 86 := by omega
      have hpb : p' ≤ 500000001000 := by omega
      clear hlen hpc
      go_wp2_with fail
      refine (pick w0 g p' 4 bs _ X.out.1 (by omega) (by omega)).mono ?_
      rintro e wp ⟨y9, rfl, hy0, hy1, hrp, hgp⟩
      have hzp : wr.heap.size ≤ wp.heap.size := hgp.size
      have Y := Lib.hid (And.intro hrp (And.intro (X.out.2.1.trans hgp) (X.out.2.2.apart hgp (by omega)))); clear hrp hgp X
      by_cases hy : y9 = 0
      · subst hy
        have hb2 : Below (wp.heap.size) wp (wp.alloc (.cells #[.int .i64 (1012)] 3)) := (Below.refl _ _).alloc (by simp) _
        have ho2 := lits_own wp [1012] (by simp) (by intro z hz; simp only [List.mem_cons, List.not_mem_nil, or_false] at hz; apply wf_near; omega)
        have S2 : Hid (RS w0 (wp.alloc (.cells #[.int .i64 (1012)] 3)) g bs (p'+1) ∧ Within g (g + 1) w (wp.alloc (.cells #[.int .i64 (1012)] 3)) ∧ OwnI (wp.alloc (.cells #[.int .i64 (1012)] 3)) (w.heap.size) (wr.heap.size) (.slice Av zs.length cv) (zs) ∧ OwnI (wp.alloc (.cells #[.int .i64 (1012)] 3)) (wp.heap.size) (wp.heap.size + 1) (.slice (some ⟨wp.heap.size, 0, none⟩) 1 1) ([1012])) := Lib.hid ⟨(Y.out.1).below hb2 (by omega), (Y.out.2.1).then_below hb2 (by omega), (Y.out.2.2).belowB hb2 (by omega), (by simpa using ho2)⟩
        clear Y
        clear hb2 ho2
        go_wp2_with (at_builtin; (refine wpList_append_W rfl _ _ _ rfl Try.underlying25 intInfo (w.heap.size) (wr.heap.size) (.slice Av zs.length cv) (zs) rfl (S2.out.2.2.1) (by first | omega | (simp <;> omega)) (.slice (some ⟨wp.heap.size, 0, none⟩) 1 1) ([1012]) rfl (S2.out.2.2.2).rd (by first | omega | (simp <;> omega)) ?_))
        intro d w_3 ho3 hb3 hw3
        have hz3 : wp.heap.size + 1 ≤ w_3.heap.size := by have := hb3.size; simpa using this
        have S3 : Hid (RS w0 w_3 g bs (p'+1) ∧ Within g (g + 1) w w_3 ∧ OwnI w_3 (w.heap.size) (w_3.heap.size) d ((zs) ++ ([1012]))) := Lib.hid ⟨(S2.out.1).below hb3 (by omega), (S2.out.2.1).then_below hb3 (by omega), (by simpa using ho3)⟩
        clear S2
        clear ho3 hb3 hw3
        go_wp2_with fail
        refine (HGh.out 0 w0 g ((p'+1)) bs _ (by omega) (S3.out.1) (by omega)).mono ?_
        rintro e w_4 ⟨b, zb, p4, rfl, ho4, hl4, hr4, hp4, hg4⟩
        have hz4 : w_3.heap.size ≤ w_4.heap.size := by have := hg4.size; simpa using this
        have S4 : Hid (RS w0 w_4 g bs (p4) ∧ Within g (g + 1) w w_4 ∧ OwnI w_4 (w.heap.size) (w_3.heap.size) d ((zs) ++ ([1012])) ∧ OwnI w_4 (w_3.heap.size) (w_4.heap.size) b (zb)) := Lib.hid ⟨hr4, (S3.out.2.1).trans hg4, (S3.out.2.2).apart hg4 (by omega), (by simpa using ho4)⟩
        clear S3
        clear ho4 hr4 hg4
        go_wp2_with (at_builtin; (refine wpList_append_V rfl _ _ _ rfl Try.underlying25 intInfo (w.heap.size) (w_3.heap.size) d ((zs) ++ ([1012])) rfl (S4.out.2.2.1) (by first | omega | (simp <;> omega)) b (zb) rfl (S4.out.2.2.2).rd (by first | omega | (simp <;> omega)) ?_))
        intro f w_5 ho5 hb5
        have hz5 : w_4.heap.size ≤ w_5.heap.size := by have := hb5.size; simpa using this
        have S5 : Hid (RS w0 w_5 g bs (p4) ∧ Within g (g + 1) w w_5 ∧ OwnI w_5 (w.heap.size) (w_5.heap.size) f (((zs) ++ ([1012])) ++ (zb))) := Lib.hid ⟨(S4.out.1).below hb5 (by omega), (S4.out.2.1).then_below hb5 (by omega), (by simpa using ho5)⟩
        clear S4
        clear ho5 hb5
        have hb6 : Below (w_5.heap.size) w_5 (w_5.alloc (.cells #[.int .i64 (1013), .int .i64 (1004)] 3)) := (Below.refl _ _).alloc (by simp) _
        have ho6 := lits_own w_5 [1013, 1004] (by simp) (by intro z hz; simp only [List.mem_cons, List.not_mem_nil, or_false] at hz; apply wf_near; omega)
        have S6 : Hid (RS w0 (w_5.alloc (.cells #[.int .i64 (1013), .int .i64 (1004)] 3)) g bs (p4) ∧ Within g (g + 1) w (w_5.alloc (.cells #[.int .i64 (1013), .int .i64 (1004)] 3)) ∧ OwnI (w_5.alloc (.cells #[.int .i64 (1013), .int .i64 (1004)] 3)) (w.heap.size) (w_5.heap.size) f (((zs) ++ ([1012])) ++ (zb)) ∧ OwnI (w_5.alloc (.cells #[.int .i64 (1013), .int .i64 (1004)] 3)) (w_5.heap.size) (w_5.heap.size + 1) (.slice (some ⟨w_5.heap.size, 0, none⟩) 2 2) ([1013, 1004])) := Lib.hid ⟨(S5.out.1).below hb6 (by omega), (S5.out.2.1).then_below hb6 (by omega), (S5.out.2.2).belowB hb6 (by omega), (by simpa using ho6)⟩
        clear S5
        clear hb6 ho6
        go_wp2_with (at_builtin; (refine wpList_append_V rfl _ _ _ rfl Try.underlying25 intInfo (w.heap.size) (w_5.heap.size) f (((zs) ++ ([1012])) ++ (zb)) rfl (S6.out.2.2.1) (by first | omega | (simp <;> omega)) (.slice (some ⟨w_5.heap.size, 0, none⟩) 2 2) ([1013, 1004]) rfl (S6.out.2.2.2).rd (by first | omega | (simp <;> omega)) ?_))
        intro c w_7 ho7 hb7
        have hz7 : w_5.heap.size + 1 ≤ w_7.heap.size := by have := hb7.size; simpa using this
        have S7 : Hid (RS w0 w_7 g bs (p4) ∧ Within g (g + 1) w w_7 ∧ OwnI w_7 (w.heap.size) (w_7.heap.size) c ((((zs) ++ ([1012])) ++ (zb)) ++ ([1013, 1004]))) := Lib.hid ⟨(S6.out.1).below hb7 (by omega), (S6.out.2.1).then_below hb7 (by omega), (by simpa using ho7)⟩
        clear S6
        clear ho7 hb7
        go_wp2
        go_roundw
        case rel => exact ⟨j, p4, (((((zs) ++ ([1012]))) ++ (zb)) ++ ([1013, 1004])), by first | rfl | go_num, by omega, by omega, S7.out.2.2, by first | omega | (simp; omega), S7.out.1, by omega, S7.out.2.1⟩
        case measure => simp [intOf]
      · have hyb : (y9 == 0) = false := by simpa using hy
        go_wp2_with fail
        refine (pick w0 g (p'+1) (3) bs _ (Y.out.1) (by omega) (by omega)).mono ?_
        rintro e w_2 ⟨y, rfl, hy0, hy1, hr2, hg2⟩
        have hz2 : wp.heap.size ≤ w_2.heap.size := by have := hg2.size; simpa using this
        have S2 : Hid (RS w0 w_2 g bs (p'+1 + 1) ∧ Within g (g + 1) w w_2 ∧ OwnI w_2 (w.heap.size) (wr.heap.size) (.slice Av zs.length cv) (zs)) := Lib.hid ⟨hr2, (Y.out.2.1).trans hg2, (Y.out.2.2).apart hg2 (by omega)⟩
        clear Y
        clear hr2 hg2
        have hb3 : Below (w_2.heap.size) w_2 (w_2.alloc (.cells #[.int .i64 (1001+y)] 3)) := (Below.refl _ _).alloc (by simp) _
        have ho3 := lits_own w_2 [1001+y] (by simp) (by intro z hz; simp only [List.mem_cons, List.not_mem_nil, or_false] at hz; apply wf_near; omega)
        have S3 : Hid (RS w0 (w_2.alloc (.cells #[.int .i64 (1001+y)] 3)) g bs (p'+1 + 1) ∧ Within g (g + 1) w (w_2.alloc (.cells #[.int .i64 (1001+y)] 3)) ∧ OwnI (w_2.alloc (.cells #[.int .i64 (1001+y)] 3)) (w.heap.size) (wr.heap.size) (.slice Av zs.length cv) (zs) ∧ OwnI (w_2.alloc (.cells #[.int .i64 (1001+y)] 3)) (w_2.heap.size) (w_2.heap.size + 1) (.slice (some ⟨w_2.heap.size, 0, none⟩) 1 1) ([1001+y])) := Lib.hid ⟨(S2.out.1).below hb3 (by omega), (S2.out.2.1).then_below hb3 (by omega), (S2.out.2.2).belowB hb3 (by omega), (by simpa using ho3)⟩
        clear S2
        clear hb3 ho3
        go_wp2_with (at_builtin; (refine wpList_append_V rfl _ _ _ rfl Try.underlying25 intInfo (w.heap.size) (wr.heap.size) (.slice Av zs.length cv) (zs) rfl (S3.out.2.2.1) (by first | omega | (simp <;> omega)) (.slice (some ⟨w_2.heap.size, 0, none⟩) 1 1) ([1001+y]) rfl (S3.out.2.2.2).rd (by first | omega | (simp <;> omega)) ?_))
        intro c w_4 ho4 hb4
        have hz4 : w_2.heap.size + 1 ≤ w_4.heap.size := by have := hb4.size; simpa using this
        have S4 : Hid (RS w0 w_4 g bs (p'+1 + 1) ∧ Within g (g + 1) w w_4 ∧ OwnI w_4 (w.heap.size) (w_4.heap.size) c ((zs) ++ ([1001+y]))) := Lib.hid ⟨(S3.out.1).below hb4 (by omega), (S3.out.2.1).then_below hb4 (by omega), (by simpa using ho4)⟩
        clear S3
        clear ho4 hb4
        go_wp2
        go_roundw
        case rel => exact ⟨j, p'+1 + 1, ((zs) ++ ([1001+y])), by first | rfl | go_num, by omega, by omega, S4.out.2.2, by first | omega | (simp; omega), S4.out.1, by omega, S4.out.2.1⟩
        case measure => simp [intOf]

theorem shufA : ∀ (n : Int) (w0 : World) (g pp : Nat) (bs : List Int) (w : World), 0 ≤ n ∧ n ≤ 1000 → RS w0 w g bs pp → pp ≤ 500000000000 → Calls Try.prog 76 #[.pointer (some ⟨g, 0, none⟩), .int .i64 6, .int .i64 n] w (PartPost w0 g pp bs w 190 141) := shuf6 (shuf3 shuf1)
theorem shufC : ∀ (n : Int) (w0 : World) (g pp : Nat) (bs : List Int) (w : World), 0 ≤ n ∧ n ≤ 1000 → RS w0 w g bs pp → pp ≤ 500000000000 → Calls Try.prog 76 #[.pointer (some ⟨g, 0, none⟩), .int .i64 5, .int .i64 n] w (PartPost w0 g pp bs w 119 88) := shuf5 (shuf2 shuf1)
end Go.Proofs.Ytkdpfiaegimnlaa
