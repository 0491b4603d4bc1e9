/- l20Good at 3 parts. -/
import Derived.Test.YtenaeiedoiepdaaBe
import Derived.IntWalk
namespace Go.Proofs.Ytenaeiedoiepdaa
set_option maxRecDepth 100000
open Go.RowKit Go.WideShapes

set_option maxHeartbeats 20000000 in
theorem good3 (w0 : World) (HG : ∀ (w0 : World) (g pp : Nat) (bs : List Int) (w : World) (h0 b9 : Int), 0 ≤ b9 ∧ b9 ≤ 2000 → -b9 ≤ h0 ∧ h0 ≤ b9 → RS w0 w g bs pp → pp ≤ 700000000000 → Calls Try.prog 59 #[.pointer (some ⟨g, 0, none⟩), .int .i64 h0, .int .i64 1] w (GoodPost w0 g pp bs w 6 7 (b9 + 1))) (g pp : Nat) (bs : List Int) (w : World) (h0 b9 : Int) (hb : 0 ≤ b9 ∧ b9 ≤ 1900) (hh : -b9 ≤ h0 ∧ h0 ≤ b9) (h : RS w0 w g bs pp) (hp : pp ≤ 600000000000) :
    Calls Try.prog 59 #[.pointer (some ⟨g, 0, none⟩), .int .i64 h0, .int .i64 3] w (GoodPost w0 g pp bs w 27 25 (b9 + 9)) := by
  have hgw := h.rdr.lt
  have HGh := Lib.hid HG; clear HG
  have H := Lib.hid h; clear h
  have L0 := Lib.hid (lits_own w [] (by simp) (by simp))
  have B0 : Below w.heap.size w (w.alloc (.cells #[] 3)) := (Below.refl _ _).alloc (Nat.le_refl _) _
  have H0 := Lib.hid (H.out.below B0 H.out.size)
  have hs0 : w0.heap.size ≤ w.heap.size := H.out.size
  have G0 : Hid (Within g (g + 1) w (w.alloc (.cells #[] 3))) := Lib.hid (Within.of_below B0)
  clear B0 H
  go_enter Try.func59, Try.ntmps59
  go_wp2_with fail
  refine (pick w0 g pp 4 bs _ H0.out (by omega) (by omega)).mono ?_
  rintro e w1 ⟨x, rfl, hx0, hx1, hr1, hg1⟩
  have hsz1 : w.heap.size + 1 ≤ w1.heap.size := by have := hg1.size; simpa using this
  have L1 := Lib.hid (L0.out.apart hg1 (by omega))
  have H1 := Lib.hid hr1
  have G1 := Lib.hid (G0.out.trans hg1)
  clear hr1 hg1 L0 H0 G0
  obtain ⟨j0, rfl⟩ := Int.eq_ofNat_of_zero_le hx0
  go_wp2
  go_loopw [1, 8, 9] (fun hv v k wr => ∃ (j p' : Nat) (zs : List Int) (h : Int), hv = .int .i64 h ∧ k = .int .i64 j ∧ j ≤ 3 ∧ w.heap.size + 1 ≤ wr.heap.size ∧ h + j * 3 ≤ b9 + 9 ∧ -h + j * 3 ≤ b9 + 9 ∧ OwnI wr w.heap.size wr.heap.size v zs ∧ zs.length + j * 9 ≤ 27 ∧ RS w0 wr g bs p' ∧ p' + j * 8 ≤ pp + 25 ∧ Within g (g + 1) w wr) (fun _ _ k _ => (intOf k).toNat)
  case atStart => exact ⟨j0, pp + 1, [], h0, rfl, rfl, by omega, hsz1, by omega, by omega, ⟨L1.out.own, fun g hg => by have := L1.out.lt g hg; omega⟩, by simp; omega, H1.out, by omega, G1.out⟩
  case round =>
    clear L1 H1 G1 hsz1 hx0 hx1
    obtain ⟨j, p', zs, h, rfl, rfl, hj, hsz, hh1, hh2, hown, hlen, hrs, hpc, hgw2⟩ := hrel
    obtain ⟨Av, cv, rfl, _⟩ := hown.rd
    have X := Lib.hid (And.intro hrs (And.intro hgw2 hown)); clear hown hrs hgw2
    rcases j with _ | j
    · go_wp2
      go_ret2
      exact ⟨_, zs, p', h, rfl, X.out.2.2, by omega, X.out.1, by omega, X.out.2.1, by omega, by omega⟩
    · have hjp : (0 : Int) < ((j + 1 : Nat) : Int) := by omega
      have hjj : ((j + 1 : Nat) : Int) = (j : Int) + 1 := by omega
      have hh3 : h + j * 3 + 3 ≤ b9 + 9 := by omega
      have hh4 : -h + j * 3 + 3 ≤ b9 + 9 := by omega
      have hlen3 : zs.length + j * 9 + 9 ≤ 27 := by omega
      have hpc3 : p' + j * 8 + 8 ≤ pp + 25 := by omega
      have hpb : p' ≤ 600000001000 := by omega
      clear hjj hh1 hh2 hlen hpc
      go_wp2_with fail
      refine (pick w0 g p' 9 bs _ X.out.1 (by omega) (by omega)).mono ?_
      rintro e wp ⟨y9, rfl, hy0, hy1, hrp, hgp⟩
      have hzp : wr.heap.size ≤ wp.heap.size := hgp.size
      have Y := Lib.hid (And.intro hrp (And.intro (X.out.2.1.trans hgp) (X.out.2.2.apart hgp (by omega)))); clear hrp hgp X
      have hcases : y9 = 0 ∨ y9 = 1 ∨ y9 = 2 ∨ y9 = 3 ∨ y9 = 4 ∨ y9 = 5 ∨ y9 = 6 ∨ y9 = 7 ∨ y9 = 8 := by omega
      clear hy0 hy1
      rcases hcases with rfl | rfl | rfl | rfl | rfl | rfl | rfl | rfl | rfl
      · by_cases hhv : 1 ≤ h
        · have hhi : (1 : Int) ≤ h := hhv
          have hb2 : Below (wp.heap.size) wp (wp.alloc (.cells #[.int .i64 (1001)] 3)) := (Below.refl _ _).alloc (by simp) _
          have ho2 := lits_own wp [1001] (by simp) (by intro z hz; simp only [List.mem_cons, List.not_mem_nil, or_false] at hz; apply wf_near; omega)
          have S2 : Hid (RS w0 (wp.alloc (.cells #[.int .i64 (1001)] 3)) g bs (p'+1) ∧ Within g (g + 1) w (wp.alloc (.cells #[.int .i64 (1001)] 3)) ∧ OwnI (wp.alloc (.cells #[.int .i64 (1001)] 3)) (w.heap.size) (wr.heap.size) (.slice Av zs.length cv) (zs) ∧ OwnI (wp.alloc (.cells #[.int .i64 (1001)] 3)) (wp.heap.size) (wp.heap.size + 1) (.slice (some ⟨wp.heap.size, 0, none⟩) 1 1) ([1001])) := Lib.hid ⟨(Y.out.1).below hb2 (by omega), (Y.out.2.1).then_below hb2 (by omega), (Y.out.2.2).belowB hb2 (by omega), (by simpa using ho2)⟩
          clear Y
          clear hb2 ho2
          go_wp2_with (at_builtin; (refine wpList_append_V rfl _ _ _ rfl Try.underlying23 intInfo (w.heap.size) (wr.heap.size) (.slice Av zs.length cv) (zs) rfl (S2.out.2.2.1) (by first | omega | (simp <;> omega)) (.slice (some ⟨wp.heap.size, 0, none⟩) 1 1) ([1001]) rfl (S2.out.2.2.2).rd (by first | omega | (simp <;> omega)) ?_))
          intro c w_3 ho3 hb3
          have hz3 : wp.heap.size + 1 ≤ w_3.heap.size := by have := hb3.size; simpa using this
          have S3 : Hid (RS w0 w_3 g bs (p'+1) ∧ Within g (g + 1) w w_3 ∧ OwnI w_3 (w.heap.size) (w_3.heap.size) c ((zs) ++ ([1001]))) := Lib.hid ⟨(S2.out.1).below hb3 (by omega), (S2.out.2.1).then_below hb3 (by omega), (by simpa using ho3)⟩
          clear S2
          clear ho3 hb3
          go_wp2
          go_roundw
          case rel => exact ⟨j, p' + 1, ((zs) ++ ([1001])), h + 1, by first | rfl | go_num, by first | rfl | go_num, by omega, by omega, by omega, by omega, S3.out.2.2, by first | omega | (simp; omega), S3.out.1, by omega, S3.out.2.1⟩
          case measure => simp [intOf]
        · go_wp2
          go_roundw
          case rel => exact ⟨j, p' + 1, zs, h, by first | rfl | go_num, by first | rfl | go_num, by omega, by omega, by omega, by omega, (Y.out.2.2.widen hzp), by first | omega | (simp; omega), Y.out.1, by omega, Y.out.2.1⟩
          case measure => simp [intOf]
      · by_cases hhv : 1 ≤ h
        · have hhi : (1 : Int) ≤ h := hhv
          have hb2 : Below (wp.heap.size) wp (wp.alloc (.cells #[.int .i64 (1002)] 3)) := (Below.refl _ _).alloc (by simp) _
          have ho2 := lits_own wp [1002] (by simp) (by intro z hz; simp only [List.mem_cons, List.not_mem_nil, or_false] at hz; apply wf_near; omega)
          have S2 : Hid (RS w0 (wp.alloc (.cells #[.int .i64 (1002)] 3)) g bs (p'+1) ∧ Within g (g + 1) w (wp.alloc (.cells #[.int .i64 (1002)] 3)) ∧ OwnI (wp.alloc (.cells #[.int .i64 (1002)] 3)) (w.heap.size) (wr.heap.size) (.slice Av zs.length cv) (zs) ∧ OwnI (wp.alloc (.cells #[.int .i64 (1002)] 3)) (wp.heap.size) (wp.heap.size + 1) (.slice (some ⟨wp.heap.size, 0, none⟩) 1 1) ([1002])) := Lib.hid ⟨(Y.out.1).below hb2 (by omega), (Y.out.2.1).then_below hb2 (by omega), (Y.out.2.2).belowB hb2 (by omega), (by simpa using ho2)⟩
          clear Y
          clear hb2 ho2
          go_wp2_with (at_builtin; (refine wpList_append_V rfl _ _ _ rfl Try.underlying23 intInfo (w.heap.size) (wr.heap.size) (.slice Av zs.length cv) (zs) rfl (S2.out.2.2.1) (by first | omega | (simp <;> omega)) (.slice (some ⟨wp.heap.size, 0, none⟩) 1 1) ([1002]) rfl (S2.out.2.2.2).rd (by first | omega | (simp <;> omega)) ?_))
          intro c w_3 ho3 hb3
          have hz3 : wp.heap.size + 1 ≤ w_3.heap.size := by have := hb3.size; simpa using this
          have S3 : Hid (RS w0 w_3 g bs (p'+1) ∧ Within g (g + 1) w w_3 ∧ OwnI w_3 (w.heap.size) (w_3.heap.size) c ((zs) ++ ([1002]))) := Lib.hid ⟨(S2.out.1).below hb3 (by omega), (S2.out.2.1).then_below hb3 (by omega), (by simpa using ho3)⟩
          clear S2
          clear ho3 hb3
          go_wp2
          go_roundw
          case rel => exact ⟨j, p' + 1, ((zs) ++ ([1002])), h - 1, by first | rfl | go_num, by first | rfl | go_num, by omega, by omega, by omega, by omega, S3.out.2.2, by first | omega | (simp; omega), S3.out.1, by omega, S3.out.2.1⟩
          case measure => simp [intOf]
        · go_wp2
          go_roundw
          case rel => exact ⟨j, p' + 1, zs, h, by first | rfl | go_num, by first | rfl | go_num, by omega, by omega, by omega, by omega, (Y.out.2.2.widen hzp), by first | omega | (simp; omega), Y.out.1, by omega, Y.out.2.1⟩
          case measure => simp [intOf]
      · by_cases hhv : 2 ≤ h
        · have hhi : (2 : Int) ≤ h := hhv
          have hb2 : Below (wp.heap.size) wp (wp.alloc (.cells #[.int .i64 (1003)] 3)) := (Below.refl _ _).alloc (by simp) _
          have ho2 := lits_own wp [1003] (by simp) (by intro z hz; simp only [List.mem_cons, List.not_mem_nil, or_false] at hz; apply wf_near; omega)
          have S2 : Hid (RS w0 (wp.alloc (.cells #[.int .i64 (1003)] 3)) g bs (p'+1) ∧ Within g (g + 1) w (wp.alloc (.cells #[.int .i64 (1003)] 3)) ∧ OwnI (wp.alloc (.cells #[.int .i64 (1003)] 3)) (w.heap.size) (wr.heap.size) (.slice Av zs.length cv) (zs) ∧ OwnI (wp.alloc (.cells #[.int .i64 (1003)] 3)) (wp.heap.size) (wp.heap.size + 1) (.slice (some ⟨wp.heap.size, 0, none⟩) 1 1) ([1003])) := Lib.hid ⟨(Y.out.1).below hb2 (by omega), (Y.out.2.1).then_below hb2 (by omega), (Y.out.2.2).belowB hb2 (by omega), (by simpa using ho2)⟩
          clear Y
          clear hb2 ho2
          go_wp2_with (at_builtin; (refine wpList_append_V rfl _ _ _ rfl Try.underlying23 intInfo (w.heap.size) (wr.heap.size) (.slice Av zs.length cv) (zs) rfl (S2.out.2.2.1) (by first | omega | (simp <;> omega)) (.slice (some ⟨wp.heap.size, 0, none⟩) 1 1) ([1003]) rfl (S2.out.2.2.2).rd (by first | omega | (simp <;> omega)) ?_))
          intro c w_3 ho3 hb3
          have hz3 : wp.heap.size + 1 ≤ w_3.heap.size := by have := hb3.size; simpa using this
          have S3 : Hid (RS w0 w_3 g bs (p'+1) ∧ Within g (g + 1) w w_3 ∧ OwnI w_3 (w.heap.size) (w_3.heap.size) c ((zs) ++ ([1003]))) := Lib.hid ⟨(S2.out.1).below hb3 (by omega), (S2.out.2.1).then_below hb3 (by omega), (by simpa using ho3)⟩
          clear S2
          clear ho3 hb3
          go_wp2
          go_roundw
          case rel => exact ⟨j, p' + 1, ((zs) ++ ([1003])), h, by first | rfl | go_num, by first | rfl | go_num, by omega, by omega, by omega, by omega, S3.out.2.2, by first | omega | (simp; omega), S3.out.1, by omega, S3.out.2.1⟩
          case measure => simp [intOf]
        · go_wp2
          go_roundw
          case rel => exact ⟨j, p' + 1, zs, h, by first | rfl | go_num, by first | rfl | go_num, by omega, by omega, by omega, by omega, (Y.out.2.2.widen hzp), by first | omega | (simp; omega), Y.out.1, by omega, Y.out.2.1⟩
          case measure => simp [intOf]
      · by_cases hhv : 2 ≤ h
        · have hhi : (2 : Int) ≤ h := hhv
          go_wp2_with fail
          refine (pick w0 g (p'+1) (4) bs _ (Y.out.1) (by omega) (by omega)).mono ?_
          rintro e w_2 ⟨y, rfl, hy0, hy1, hr2, hg2⟩
          have hz2 : wp.heap.size ≤ w_2.heap.size := by have := hg2.size; simpa using this
          have S2 : Hid (RS w0 w_2 g bs (p'+1 + 1) ∧ Within g (g + 1) w w_2 ∧ OwnI w_2 (w.heap.size) (wr.heap.size) (.slice Av zs.length cv) (zs)) := Lib.hid ⟨hr2, (Y.out.2.1).trans hg2, (Y.out.2.2).apart hg2 (by omega)⟩
          clear Y
          clear hr2 hg2
          have hb3 : Below (w_2.heap.size) w_2 (w_2.alloc (.cells #[.int .i64 (1006+y)] 3)) := (Below.refl _ _).alloc (by simp) _
          have ho3 := lits_own w_2 [1006+y] (by simp) (by intro z hz; simp only [List.mem_cons, List.not_mem_nil, or_false] at hz; apply wf_near; omega)
          have S3 : Hid (RS w0 (w_2.alloc (.cells #[.int .i64 (1006+y)] 3)) g bs (p'+1 + 1) ∧ Within g (g + 1) w (w_2.alloc (.cells #[.int .i64 (1006+y)] 3)) ∧ OwnI (w_2.alloc (.cells #[.int .i64 (1006+y)] 3)) (w.heap.size) (wr.heap.size) (.slice Av zs.length cv) (zs) ∧ OwnI (w_2.alloc (.cells #[.int .i64 (1006+y)] 3)) (w_2.heap.size) (w_2.heap.size + 1) (.slice (some ⟨w_2.heap.size, 0, none⟩) 1 1) ([1006+y])) := Lib.hid ⟨(S2.out.1).below hb3 (by omega), (S2.out.2.1).then_below hb3 (by omega), (S2.out.2.2).belowB hb3 (by omega), (by simpa using ho3)⟩
          clear S2
          clear hb3 ho3
          go_wp2_with (at_builtin; (refine wpList_append_V rfl _ _ _ rfl Try.underlying23 intInfo (w.heap.size) (wr.heap.size) (.slice Av zs.length cv) (zs) rfl (S3.out.2.2.1) (by first | omega | (simp <;> omega)) (.slice (some ⟨w_2.heap.size, 0, none⟩) 1 1) ([1006+y]) rfl (S3.out.2.2.2).rd (by first | omega | (simp <;> omega)) ?_))
          intro c w_4 ho4 hb4
          have hz4 : w_2.heap.size + 1 ≤ w_4.heap.size := by have := hb4.size; simpa using this
          have S4 : Hid (RS w0 w_4 g bs (p'+1 + 1) ∧ Within g (g + 1) w w_4 ∧ OwnI w_4 (w.heap.size) (w_4.heap.size) c ((zs) ++ ([1006+y]))) := Lib.hid ⟨(S3.out.1).below hb4 (by omega), (S3.out.2.1).then_below hb4 (by omega), (by simpa using ho4)⟩
          clear S3
          clear ho4 hb4
          go_wp2
          go_roundw
          case rel => exact ⟨j, p' + 1 + 1, ((zs) ++ ([1006+y])), h - 1, by first | rfl | go_num, by first | rfl | go_num, by omega, by omega, by omega, by omega, S4.out.2.2, by first | omega | (simp; omega), S4.out.1, by omega, S4.out.2.1⟩
          case measure => simp [intOf]
        · go_wp2
          go_roundw
          case rel => exact ⟨j, p' + 1, zs, h, by first | rfl | go_num, by first | rfl | go_num, by omega, by omega, by omega, by omega, (Y.out.2.2.widen hzp), by first | omega | (simp; omega), Y.out.1, by omega, Y.out.2.1⟩
          case measure => simp [intOf]
      · by_cases hhv : 2 ≤ h
        · have hhi : (2 : Int) ≤ h := hhv
          go_wp2_with fail
          refine (pick w0 g (p'+1) (4) bs _ (Y.out.1) (by omega) (by omega)).mono ?_
          rintro e w_2 ⟨y, rfl, hy0, hy1, hr2, hg2⟩
          have hz2 : wp.heap.size ≤ w_2.heap.size := by have := hg2.size; simpa using this
          have S2 : Hid (RS w0 w_2 g bs (p'+1 + 1) ∧ Within g (g + 1) w w_2 ∧ OwnI w_2 (w.heap.size) (wr.heap.size) (.slice Av zs.length cv) (zs)) := Lib.hid ⟨hr2, (Y.out.2.1).trans hg2, (Y.out.2.2).apart hg2 (by omega)⟩
          clear Y
          clear hr2 hg2
          have hb3 : Below (w_2.heap.size) w_2 (w_2.alloc (.cells #[.int .i64 (1006+y)] 3)) := (Below.refl _ _).alloc (by simp) _
          have ho3 := lits_own w_2 [1006+y] (by simp) (by intro z hz; simp only [List.mem_cons, List.not_mem_nil, or_false] at hz; apply wf_near; omega)
          have S3 : Hid (RS w0 (w_2.alloc (.cells #[.int .i64 (1006+y)] 3)) g bs (p'+1 + 1) ∧ Within g (g + 1) w (w_2.alloc (.cells #[.int .i64 (1006+y)] 3)) ∧ OwnI (w_2.alloc (.cells #[.int .i64 (1006+y)] 3)) (w.heap.size) (wr.heap.size) (.slice Av zs.length cv) (zs) ∧ OwnI (w_2.alloc (.cells #[.int .i64 (1006+y)] 3)) (w_2.heap.size) (w_2.heap.size + 1) (.slice (some ⟨w_2.heap.size, 0, none⟩) 1 1) ([1006+y])) := Lib.hid ⟨(S2.out.1).below hb3 (by omega), (S2.out.2.1).then_below hb3 (by omega), (S2.out.2.2).belowB hb3 (by omega), (by simpa using ho3)⟩
          clear S2
          clear hb3 ho3
          go_wp2_with (at_builtin; (refine wpList_append_V rfl _ _ _ rfl Try.underlying23 intInfo (w.heap.size) (wr.heap.size) (.slice Av zs.length cv) (zs) rfl (S3.out.2.2.1) (by first | omega | (simp <;> omega)) (.slice (some ⟨w_2.heap.size, 0, none⟩) 1 1) ([1006+y]) rfl (S3.out.2.2.2).rd (by first | omega | (simp <;> omega)) ?_))
          intro c w_4 ho4 hb4
          have hz4 : w_2.heap.size + 1 ≤ w_4.heap.size := by have := hb4.size; simpa using this
          have S4 : Hid (RS w0 w_4 g bs (p'+1 + 1) ∧ Within g (g + 1) w w_4 ∧ OwnI w_4 (w.heap.size) (w_4.heap.size) c ((zs) ++ ([1006+y]))) := Lib.hid ⟨(S3.out.1).below hb4 (by omega), (S3.out.2.1).then_below hb4 (by omega), (by simpa using ho4)⟩
          clear S3
          clear ho4 hb4
          go_wp2
          go_roundw
          case rel => exact ⟨j, p' + 1 + 1, ((zs) ++ ([1006+y])), h - 1, by first | rfl | go_num, by first | rfl | go_num, by omega, by omega, by omega, by omega, S4.out.2.2, by first | omega | (simp; omega), S4.out.1, by omega, S4.out.2.1⟩
          case measure => simp [intOf]
        · go_wp2
          go_roundw
          case rel => exact ⟨j, p' + 1, zs, h, by first | rfl | go_num, by first | rfl | go_num, by omega, by omega, by omega, by omega, (Y.out.2.2.widen hzp), by first | omega | (simp; omega), Y.out.1, by omega, Y.out.2.1⟩
          case measure => simp [intOf]
      · by_cases hhv : 1 ≤ h
        · have hhi : (1 : Int) ≤ h := hhv
          go_wp2_with fail
          refine (HGh.out w0 g (p'+1) bs _ ((h-1)) ((b9+9-(j:Int)*3-3+1)) (by omega) (by omega) (Y.out.1) (by omega)).mono ?_
          rintro e w_2 ⟨b, zb, p2, x, rfl, ho2, hl2, hr2, hp2, hg2, hx2, hy2⟩
          have hz2 : wp.heap.size ≤ w_2.heap.size := by have := hg2.size; simpa using this
          have S2 : Hid (RS w0 w_2 g bs (p2) ∧ Within g (g + 1) w w_2 ∧ OwnI w_2 (w.heap.size) (wr.heap.size) (.slice Av zs.length cv) (zs) ∧ OwnI w_2 (wp.heap.size) (w_2.heap.size) b (zb)) := Lib.hid ⟨hr2, (Y.out.2.1).trans hg2, (Y.out.2.2).apart hg2 (by omega), (by simpa using ho2)⟩
          clear Y
          clear ho2 hr2 hg2
          have hb3 : Below (w_2.heap.size) w_2 (w_2.alloc (.cells #[.int .i64 (1012)] 3)) := (Below.refl _ _).alloc (by simp) _
          have ho3 := lits_own w_2 [1012] (by simp) (by intro z hz; simp only [List.mem_cons, List.not_mem_nil, or_false] at hz; apply wf_near; omega)
          have S3 : Hid (RS w0 (w_2.alloc (.cells #[.int .i64 (1012)] 3)) g bs (p2) ∧ Within g (g + 1) w (w_2.alloc (.cells #[.int .i64 (1012)] 3)) ∧ OwnI (w_2.alloc (.cells #[.int .i64 (1012)] 3)) (w.heap.size) (wr.heap.size) (.slice Av zs.length cv) (zs) ∧ OwnI (w_2.alloc (.cells #[.int .i64 (1012)] 3)) (wp.heap.size) (w_2.heap.size) b (zb) ∧ OwnI (w_2.alloc (.cells #[.int .i64 (1012)] 3)) (w_2.heap.size) (w_2.heap.size + 1) (.slice (some ⟨w_2.heap.size, 0, none⟩) 1 1) ([1012])) := Lib.hid ⟨(S2.out.1).below hb3 (by omega), (S2.out.2.1).then_below hb3 (by omega), (S2.out.2.2.1).belowB hb3 (by omega), (S2.out.2.2.2).belowB hb3 (by omega), (by simpa using ho3)⟩
          clear S2
          clear hb3 ho3
          go_wp2_with (at_builtin; (refine wpList_append_W rfl _ _ _ rfl Try.underlying23 intInfo (w.heap.size) (wr.heap.size) (.slice Av zs.length cv) (zs) rfl (S3.out.2.2.1) (by first | omega | (simp <;> omega)) (.slice (some ⟨w_2.heap.size, 0, none⟩) 1 1) ([1012]) rfl (S3.out.2.2.2.2).rd (by first | omega | (simp <;> omega)) ?_))
          intro d w_4 ho4 hb4 hw4
          have hz4 : w_2.heap.size + 1 ≤ w_4.heap.size := by have := hb4.size; simpa using this
          have S4 : Hid (RS w0 w_4 g bs (p2) ∧ Within g (g + 1) w w_4 ∧ OwnI w_4 (wp.heap.size) (w_2.heap.size) b (zb) ∧ OwnI w_4 (w.heap.size) (w_4.heap.size) d ((zs) ++ ([1012]))) := Lib.hid ⟨(S3.out.1).below hb4 (by omega), (S3.out.2.1).then_below hb4 (by omega), (S3.out.2.2.2.1).apart hw4 (by omega), (by simpa using ho4)⟩
          clear S3
          clear ho4 hb4 hw4
          go_wp2_with (at_builtin; (refine wpList_append_V rfl _ _ _ rfl Try.underlying23 intInfo (w.heap.size) (w_4.heap.size) d ((zs) ++ ([1012])) rfl (S4.out.2.2.2) (by first | omega | (simp <;> omega)) b (zb) rfl (S4.out.2.2.1).rd (by first | omega | (simp <;> omega)) ?_))
          intro f w_5 ho5 hb5
          have hz5 : w_4.heap.size ≤ w_5.heap.size := by have := hb5.size; simpa using this
          have S5 : Hid (RS w0 w_5 g bs (p2) ∧ Within g (g + 1) w w_5 ∧ OwnI w_5 (w.heap.size) (w_5.heap.size) f (((zs) ++ ([1012])) ++ (zb))) := Lib.hid ⟨(S4.out.1).below hb5 (by omega), (S4.out.2.1).then_below hb5 (by omega), (by simpa using ho5)⟩
          clear S4
          clear ho5 hb5
          have hb6 : Below (w_5.heap.size) w_5 (w_5.alloc (.cells #[.int .i64 (1013), .int .i64 (1004)] 3)) := (Below.refl _ _).alloc (by simp) _
          have ho6 := lits_own w_5 [1013, 1004] (by simp) (by intro z hz; simp only [List.mem_cons, List.not_mem_nil, or_false] at hz; apply wf_near; omega)
          have S6 : Hid (RS w0 (w_5.alloc (.cells #[.int .i64 (1013), .int .i64 (1004)] 3)) g bs (p2) ∧ Within g (g + 1) w (w_5.alloc (.cells #[.int .i64 (1013), .int .i64 (1004)] 3)) ∧ OwnI (w_5.alloc (.cells #[.int .i64 (1013), .int .i64 (1004)] 3)) (w.heap.size) (w_5.heap.size) f (((zs) ++ ([1012])) ++ (zb)) ∧ OwnI (w_5.alloc (.cells #[.int .i64 (1013), .int .i64 (1004)] 3)) (w_5.heap.size) (w_5.heap.size + 1) (.slice (some ⟨w_5.heap.size, 0, none⟩) 2 2) ([1013, 1004])) := Lib.hid ⟨(S5.out.1).below hb6 (by omega), (S5.out.2.1).then_below hb6 (by omega), (S5.out.2.2).belowB hb6 (by omega), (by simpa using ho6)⟩
          clear S5
          clear hb6 ho6
          go_wp2_with (at_builtin; (refine wpList_append_V rfl _ _ _ rfl Try.underlying23 intInfo (w.heap.size) (w_5.heap.size) f (((zs) ++ ([1012])) ++ (zb)) rfl (S6.out.2.2.1) (by first | omega | (simp <;> omega)) (.slice (some ⟨w_5.heap.size, 0, none⟩) 2 2) ([1013, 1004]) rfl (S6.out.2.2.2).rd (by first | omega | (simp <;> omega)) ?_))
          intro c w_7 ho7 hb7
          have hz7 : w_5.heap.size + 1 ≤ w_7.heap.size := by have := hb7.size; simpa using this
          have S7 : Hid (RS w0 w_7 g bs (p2) ∧ Within g (g + 1) w w_7 ∧ OwnI w_7 (w.heap.size) (w_7.heap.size) c ((((zs) ++ ([1012])) ++ (zb)) ++ ([1013, 1004]))) := Lib.hid ⟨(S6.out.1).below hb7 (by omega), (S6.out.2.1).then_below hb7 (by omega), (by simpa using ho7)⟩
          clear S6
          clear ho7 hb7
          go_wp2
          go_roundw
          case rel => exact ⟨j, p2, ((((((zs) ++ ([1012]))) ++ (zb))) ++ ([1013, 1004])), x + 1, by first | rfl | go_num, by first | rfl | go_num, by omega, by omega, by omega, by omega, S7.out.2.2, by first | omega | (simp; omega), S7.out.1, by omega, S7.out.2.1⟩
          case measure => simp [intOf]
        · go_wp2
          go_roundw
          case rel => exact ⟨j, p' + 1, zs, h, by first | rfl | go_num, by first | rfl | go_num, by omega, by omega, by omega, by omega, (Y.out.2.2.widen hzp), by first | omega | (simp; omega), Y.out.1, by omega, Y.out.2.1⟩
          case measure => simp [intOf]
      · skip
        go_wp2_with fail
        refine (HGh.out w0 g (p'+1) bs _ (h) ((b9+9-(j:Int)*3-3)) (by omega) (by omega) (Y.out.1) (by omega)).mono ?_
        rintro e w_2 ⟨b, zb, p2, x, rfl, ho2, hl2, hr2, hp2, hg2, hx2, hy2⟩
        have hz2 : wp.heap.size ≤ w_2.heap.size := by have := hg2.size; simpa using this
        have S2 : Hid (RS w0 w_2 g bs (p2) ∧ Within g (g + 1) w w_2 ∧ OwnI w_2 (w.heap.size) (wr.heap.size) (.slice Av zs.length cv) (zs) ∧ OwnI w_2 (wp.heap.size) (w_2.heap.size) b (zb)) := Lib.hid ⟨hr2, (Y.out.2.1).trans hg2, (Y.out.2.2).apart hg2 (by omega), (by simpa using ho2)⟩
        clear Y
        clear ho2 hr2 hg2
        have hb3 : Below (w_2.heap.size) w_2 (w_2.alloc (.cells #[.int .i64 (1012)] 3)) := (Below.refl _ _).alloc (by simp) _
        have ho3 := lits_own w_2 [1012] (by simp) (by intro z hz; simp only [List.mem_cons, List.not_mem_nil, or_false] at hz; apply wf_near; omega)
        have S3 : Hid (RS w0 (w_2.alloc (.cells #[.int .i64 (1012)] 3)) g bs (p2) ∧ Within g (g + 1) w (w_2.alloc (.cells #[.int .i64 (1012)] 3)) ∧ OwnI (w_2.alloc (.cells #[.int .i64 (1012)] 3)) (w.heap.size) (wr.heap.size) (.slice Av zs.length cv) (zs) ∧ OwnI (w_2.alloc (.cells #[.int .i64 (1012)] 3)) (wp.heap.size) (w_2.heap.size) b (zb) ∧ OwnI (w_2.alloc (.cells #[.int .i64 (1012)] 3)) (w_2.heap.size) (w_2.heap.size + 1) (.slice (some ⟨w_2.heap.size, 0, none⟩) 1 1) ([1012])) := Lib.hid ⟨(S2.out.1).below hb3 (by omega), (S2.out.2.1).then_below hb3 (by omega), (S2.out.2.2.1).belowB hb3 (by omega), (S2.out.2.2.2).belowB hb3 (by omega), (by simpa using ho3)⟩
        clear S2
        clear hb3 ho3
        go_wp2_with (at_builtin; (refine wpList_append_W rfl _ _ _ rfl Try.underlying23 intInfo (w.heap.size) (wr.heap.size) (.slice Av zs.length cv) (zs) rfl (S3.out.2.2.1) (by first | omega | (simp <;> omega)) (.slice (some ⟨w_2.heap.size, 0, none⟩) 1 1) ([1012]) rfl (S3.out.2.2.2.2).rd (by first | omega | (simp <;> omega)) ?_))
        intro d w_4 ho4 hb4 hw4
        have hz4 : w_2.heap.size + 1 ≤ w_4.heap.size := by have := hb4.size; simpa using this
        have S4 : Hid (RS w0 w_4 g bs (p2) ∧ Within g (g + 1) w w_4 ∧ OwnI w_4 (wp.heap.size) (w_2.heap.size) b (zb) ∧ OwnI w_4 (w.heap.size) (w_4.heap.size) d ((zs) ++ ([1012]))) := Lib.hid ⟨(S3.out.1).below hb4 (by omega), (S3.out.2.1).then_below hb4 (by omega), (S3.out.2.2.2.1).apart hw4 (by omega), (by simpa using ho4)⟩
        clear S3
        clear ho4 hb4 hw4
        go_wp2_with (at_builtin; (refine wpList_append_V rfl _ _ _ rfl Try.underlying23 intInfo (w.heap.size) (w_4.heap.size) d ((zs) ++ ([1012])) rfl (S4.out.2.2.2) (by first | omega | (simp <;> omega)) b (zb) rfl (S4.out.2.2.1).rd (by first | omega | (simp <;> omega)) ?_))
        intro f w_5 ho5 hb5
        have hz5 : w_4.heap.size ≤ w_5.heap.size := by have := hb5.size; simpa using this
        have S5 : Hid (RS w0 w_5 g bs (p2) ∧ Within g (g + 1) w w_5 ∧ OwnI w_5 (w.heap.size) (w_5.heap.size) f (((zs) ++ ([1012])) ++ (zb))) := Lib.hid ⟨(S4.out.1).below hb5 (by omega), (S4.out.2.1).then_below hb5 (by omega), (by simpa using ho5)⟩
        clear S4
        clear ho5 hb5
        have hb6 : Below (w_5.heap.size) w_5 (w_5.alloc (.cells #[.int .i64 (1013), .int .i64 (1005)] 3)) := (Below.refl _ _).alloc (by simp) _
        have ho6 := lits_own w_5 [1013, 1005] (by simp) (by intro z hz; simp only [List.mem_cons, List.not_mem_nil, or_false] at hz; apply wf_near; omega)
        have S6 : Hid (RS w0 (w_5.alloc (.cells #[.int .i64 (1013), .int .i64 (1005)] 3)) g bs (p2) ∧ Within g (g + 1) w (w_5.alloc (.cells #[.int .i64 (1013), .int .i64 (1005)] 3)) ∧ OwnI (w_5.alloc (.cells #[.int .i64 (1013), .int .i64 (1005)] 3)) (w.heap.size) (w_5.heap.size) f (((zs) ++ ([1012])) ++ (zb)) ∧ OwnI (w_5.alloc (.cells #[.int .i64 (1013), .int .i64 (1005)] 3)) (w_5.heap.size) (w_5.heap.size + 1) (.slice (some ⟨w_5.heap.size, 0, none⟩) 2 2) ([1013, 1005])) := Lib.hid ⟨(S5.out.1).below hb6 (by omega), (S5.out.2.1).then_below hb6 (by omega), (S5.out.2.2).belowB hb6 (by omega), (by simpa using ho6)⟩
        clear S5
        clear hb6 ho6
        go_wp2_with (at_builtin; (refine wpList_append_V rfl _ _ _ rfl Try.underlying23 intInfo (w.heap.size) (w_5.heap.size) f (((zs) ++ ([1012])) ++ (zb)) rfl (S6.out.2.2.1) (by first | omega | (simp <;> omega)) (.slice (some ⟨w_5.heap.size, 0, none⟩) 2 2) ([1013, 1005]) rfl (S6.out.2.2.2).rd (by first | omega | (simp <;> omega)) ?_))
        intro c w_7 ho7 hb7
        have hz7 : w_5.heap.size + 1 ≤ w_7.heap.size := by have := hb7.size; simpa using this
        have S7 : Hid (RS w0 w_7 g bs (p2) ∧ Within g (g + 1) w w_7 ∧ OwnI w_7 (w.heap.size) (w_7.heap.size) c ((((zs) ++ ([1012])) ++ (zb)) ++ ([1013, 1005]))) := Lib.hid ⟨(S6.out.1).below hb7 (by omega), (S6.out.2.1).then_below hb7 (by omega), (by simpa using ho7)⟩
        clear S6
        clear ho7 hb7
        go_wp2
        go_roundw
        case rel => exact ⟨j, p2, ((((((zs) ++ ([1012]))) ++ (zb))) ++ ([1013, 1005])), x, by first | rfl | go_num, by first | rfl | go_num, by omega, by omega, by omega, by omega, S7.out.2.2, by first | omega | (simp; omega), S7.out.1, by omega, S7.out.2.1⟩
        case measure => simp [intOf]
      · by_cases hhv : 2 ≤ h
        · have hhi : (2 : Int) ≤ h := hhv
          go_wp2_with fail
          refine (pick w0 g (p'+1) (4) bs _ (Y.out.1) (by omega) (by omega)).mono ?_
          rintro e w_2 ⟨y, rfl, hy0, hy1, hr2, hg2⟩
          have hz2 : wp.heap.size ≤ w_2.heap.size := by have := hg2.size; simpa using this
          have S2 : Hid (RS w0 w_2 g bs (p'+1 + 1) ∧ Within g (g + 1) w w_2 ∧ OwnI w_2 (w.heap.size) (wr.heap.size) (.slice Av zs.length cv) (zs)) := Lib.hid ⟨hr2, (Y.out.2.1).trans hg2, (Y.out.2.2).apart hg2 (by omega)⟩
          clear Y
          clear hr2 hg2
          go_wp2_with fail
          refine (pick w0 g (p'+1 + 1) (3) bs _ (S2.out.1) (by omega) (by omega)).mono ?_
          rintro e w_3 ⟨z, rfl, hz0, hz1, hr3, hg3⟩
          have hz3 : w_2.heap.size ≤ w_3.heap.size := by have := hg3.size; simpa using this
          have S3 : Hid (RS w0 w_3 g bs (p'+1 + 1 + 1) ∧ Within g (g + 1) w w_3 ∧ OwnI w_3 (w.heap.size) (wr.heap.size) (.slice Av zs.length cv) (zs)) := Lib.hid ⟨hr3, (S2.out.2.1).trans hg3, (S2.out.2.2).apart hg3 (by omega)⟩
          clear S2
          clear hr3 hg3
          have hb4 : Below (w_3.heap.size) w_3 (w_3.alloc (.cells #[.int .i64 (y), .int .i64 (1012), .int .i64 (1001), .int .i64 (1006+z), .int .i64 (1013), .int .i64 (1011)] 3)) := (Below.refl _ _).alloc (by simp) _
          have ho4 := lits_own w_3 [y, 1012, 1001, 1006+z, 1013, 1011] (by simp) (by intro z hz; simp only [List.mem_cons, List.not_mem_nil, or_false] at hz; apply wf_near; omega)
          have S4 : Hid (RS w0 (w_3.alloc (.cells #[.int .i64 (y), .int .i64 (1012), .int .i64 (1001), .int .i64 (1006+z), .int .i64 (1013), .int .i64 (1011)] 3)) g bs (p'+1 + 1 + 1) ∧ Within g (g + 1) w (w_3.alloc (.cells #[.int .i64 (y), .int .i64 (1012), .int .i64 (1001), .int .i64 (1006+z), .int .i64 (1013), .int .i64 (1011)] 3)) ∧ OwnI (w_3.alloc (.cells #[.int .i64 (y), .int .i64 (1012), .int .i64 (1001), .int .i64 (1006+z), .int .i64 (1013), .int .i64 (1011)] 3)) (w.heap.size) (wr.heap.size) (.slice Av zs.length cv) (zs) ∧ OwnI (w_3.alloc (.cells #[.int .i64 (y), .int .i64 (1012), .int .i64 (1001), .int .i64 (1006+z), .int .i64 (1013), .int .i64 (1011)] 3)) (w_3.heap.size) (w_3.heap.size + 1) (.slice (some ⟨w_3.heap.size, 0, none⟩) 6 6) ([y, 1012, 1001, 1006+z, 1013, 1011])) := Lib.hid ⟨(S3.out.1).below hb4 (by omega), (S3.out.2.1).then_below hb4 (by omega), (S3.out.2.2).belowB hb4 (by omega), (by simpa using ho4)⟩
          clear S3
          clear hb4 ho4
          go_wp2_with (at_builtin; (refine wpList_append_V rfl _ _ _ rfl Try.underlying23 intInfo (w.heap.size) (wr.heap.size) (.slice Av zs.length cv) (zs) rfl (S4.out.2.2.1) (by first | omega | (simp <;> omega)) (.slice (some ⟨w_3.heap.size, 0, none⟩) 6 6) ([y, 1012, 1001, 1006+z, 1013, 1011]) rfl (S4.out.2.2.2).rd (by first | omega | (simp <;> omega)) ?_))
          intro c w_5 ho5 hb5
          have hz5 : w_3.heap.size + 1 ≤ w_5.heap.size := by have := hb5.size; simpa using this
          have S5 : Hid (RS w0 w_5 g bs (p'+1 + 1 + 1) ∧ Within g (g + 1) w w_5 ∧ OwnI w_5 (w.heap.size) (w_5.heap.size) c ((zs) ++ ([y, 1012, 1001, 1006+z, 1013, 1011]))) := Lib.hid ⟨(S4.out.1).below hb5 (by omega), (S4.out.2.1).then_below hb5 (by omega), (by simpa using ho5)⟩
          clear S4
          clear ho5 hb5
          go_wp2
          go_roundw
          case rel => exact ⟨j, p' + 1 + 1 + 1, ((zs) ++ ([y, 1012, 1001, 1006+z, 1013, 1011])), h, by first | rfl | go_num, by first | rfl | go_num, by omega, by omega, by omega, by omega, S5.out.2.2, by first | omega | (simp; omega), S5.out.1, by omega, S5.out.2.1⟩
          case measure => simp [intOf]
        · go_wp2
          go_roundw
          case rel => exact ⟨j, p' + 1, zs, h, by first | rfl | go_num, by first | rfl | go_num, by omega, by omega, by omega, by omega, (Y.out.2.2.widen hzp), by first | omega | (simp; omega), Y.out.1, by omega, Y.out.2.1⟩
          case measure => simp [intOf]
      · skip
        go_wp2_with fail
        refine (num w0 g (p'+1) bs _ (Y.out.1) (by omega)).mono ?_
        rintro e w_2 ⟨y, rfl, hy0, hy1, hr2, hg2⟩
        have hz2 : wp.heap.size ≤ w_2.heap.size := by have := hg2.size; simpa using this
        have S2 : Hid (RS w0 w_2 g bs (p'+1 + 4) ∧ Within g (g + 1) w w_2 ∧ OwnI w_2 (w.heap.size) (wr.heap.size) (.slice Av zs.length cv) (zs)) := Lib.hid ⟨hr2, (Y.out.2.1).trans hg2, (Y.out.2.2).apart hg2 (by omega)⟩
        clear Y
        clear hr2 hg2
        have hb3 : Below (w_2.heap.size) w_2 (w_2.alloc (.cells #[.int .i64 (y)] 3)) := (Below.refl _ _).alloc (by simp) _
        have ho3 := lits_own w_2 [y] (by simp) (by intro z hz; simp only [List.mem_cons, List.not_mem_nil, or_false] at hz; apply wf_near; omega)
        have S3 : Hid (RS w0 (w_2.alloc (.cells #[.int .i64 (y)] 3)) g bs (p'+1 + 4) ∧ Within g (g + 1) w (w_2.alloc (.cells #[.int .i64 (y)] 3)) ∧ OwnI (w_2.alloc (.cells #[.int .i64 (y)] 3)) (w.heap.size) (wr.heap.size) (.slice Av zs.length cv) (zs) ∧ OwnI (w_2.alloc (.cells #[.int .i64 (y)] 3)) (w_2.heap.size) (w_2.heap.size + 1) (.slice (some ⟨w_2.heap.size, 0, none⟩) 1 1) ([y])) := Lib.hid ⟨(S2.out.1).below hb3 (by omega), (S2.out.2.1).then_below hb3 (by omega), (S2.out.2.2).belowB hb3 (by omega), (by simpa using ho3)⟩
        clear S2
        clear hb3 ho3
        go_wp2_with (at_builtin; (refine wpList_append_V rfl _ _ _ rfl Try.underlying23 intInfo (w.heap.size) (wr.heap.size) (.slice Av zs.length cv) (zs) rfl (S3.out.2.2.1) (by first | omega | (simp <;> omega)) (.slice (some ⟨w_2.heap.size, 0, none⟩) 1 1) ([y]) rfl (S3.out.2.2.2).rd (by first | omega | (simp <;> omega)) ?_))
        intro c w_4 ho4 hb4
        have hz4 : w_2.heap.size + 1 ≤ w_4.heap.size := by have := hb4.size; simpa using this
        have S4 : Hid (RS w0 w_4 g bs (p'+1 + 4) ∧ Within g (g + 1) w w_4 ∧ OwnI w_4 (w.heap.size) (w_4.heap.size) c ((zs) ++ ([y]))) := Lib.hid ⟨(S3.out.1).below hb4 (by omega), (S3.out.2.1).then_below hb4 (by omega), (by simpa using ho4)⟩
        clear S3
        clear ho4 hb4
        go_wp2
        go_roundw
        case rel => exact ⟨j, p' + 1 + 4, ((zs) ++ ([y])), h + 1, by first | rfl | go_num, by first | rfl | go_num, by omega, by omega, by omega, by omega, S4.out.2.2, by first | omega | (simp; omega), S4.out.1, by omega, S4.out.2.1⟩
        case measure => simp [intOf]
end Go.Proofs.Ytenaeiedoiepdaa
