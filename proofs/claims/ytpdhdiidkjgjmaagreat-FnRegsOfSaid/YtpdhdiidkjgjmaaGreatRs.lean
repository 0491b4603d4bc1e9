/- The draw of straight programs: l20Straight. -/
import Derived.Test.YtpdhdiidkjgjmaaGreatI
import Derived.Test.YtpdhdiidkjgjmaaGreatJh
import Derived.Test.YtpdhdiidkjgjmaaGreatJd
import Derived.IntWalk
namespace Go.Proofs.YtpdhdiidkjgjmaaGreat
set_option maxRecDepth 100000
open Go.RowKit Go.WideShapes

def StrPost (w0 : World) (g p : Nat) (bs : List Int) (N : Nat) (w : World) (e : Ending) (w' : World) : Prop :=
  ∃ (v : Value) (zs : List Int) (p' : Nat), e = .returned v ∧ OwnI w' w.heap.size w'.heap.size v zs ∧ zs.length ≤ N + 1 ∧ RS w0 w' g bs p' ∧ p' ≤ p + 200 ∧ Within g (g + 1) w w'
set_option maxHeartbeats 4000000 in
theorem straight_any (w0 : World) (g p N : Nat) (n : Int) (bs : List Int) (w : World) (h : RS w0 w g bs p) (hp : p ≤ 500000000000) (hN : N ≤ 20) (hn : 0 ≤ n ∧ n ≤ 1000) :
    Calls Tryz.prog 20 #[.pointer (some ⟨g, 0, none⟩), .int .i64 N, .int .i64 n] w (StrPost w0 g p bs N w) := by
  have hgw := h.rdr.lt
  have H := Lib.hid h; clear h
  have hs0 : w0.heap.size ≤ w.heap.size := H.out.size
  have B0 : Below w.heap.size w (w.alloc (.cells #[] 3)) := (Below.refl _ _).alloc (Nat.le_refl _) _
  have L0 := (nilLit w).1
  have X0 := Lib.hid (And.intro (H.out.below B0 (by omega)) (And.intro (Within.of_below (lo := g) (hi := g + 1) B0) L0)); clear B0 L0 H
  have hNI : (N : Int) ≤ 20 := by omega
  have hz0 : w.heap.size + 1 ≤ (w.alloc (.cells #[] 3)).heap.size := by simp
  go_enter Tryz.func20, Tryz.ntmps20
  go_wp2_with fail
  refine (pick w0 g p ((N : Int) + 1) bs _ X0.out.1 (by omega) (by omega)).mono ?_
  rintro e w1 ⟨x, rfl, hx0, hx1, hr1, hg1⟩
  have hz1 : w.heap.size + 1 ≤ w1.heap.size := by have := hg1.size; omega
  obtain ⟨j0, rfl⟩ := Int.eq_ofNat_of_zero_le hx0
  have X1 := Lib.hid (And.intro hr1 (And.intro (X0.out.2.1.trans hg1) (show OwnI w1 w.heap.size w1.heap.size _ [] from by
    have h := X0.out.2.2
    have h2 := h.apart (lo' := g) (hi' := g + 1) hg1 (.inr (by omega))
    exact ⟨h2.own, fun k hk => by have := h.lt k hk; have := hg1.size; omega⟩))); clear hr1 hg1 X0 hz0
  go_wp2
  go_loopw [7, 8] (fun v kv wr => ∃ (j p' : Nat) (zs : List Int), kv = .int .i64 j ∧ j ≤ N ∧ w.heap.size + 1 ≤ wr.heap.size ∧ OwnI wr w.heap.size wr.heap.size v zs ∧ zs.length + j ≤ N ∧ RS w0 wr g bs p' ∧ p' + 7 * j ≤ p + 1 + 7 * N ∧ Within g (g + 1) w wr) (fun _ kv _ => (intOf kv).toNat)
  case atStart => exact ⟨j0, p + 1, [], rfl, by omega, hz1, X1.out.2.2, by simp; omega, X1.out.1, by omega, X1.out.2.1⟩
  case round =>
    clear X1 hz1 hx0 hx1
    obtain ⟨j, p', zs, rfl, hj, hsz, hown, hlen, hrs, hpc, hgw2⟩ := hrel
    have X := Lib.hid (And.intro hrs (And.intro hgw2 hown)); clear hown hrs hgw2
    obtain ⟨Av, cv, rfl, _⟩ := X.out.2.2.rd
    have hzl : zs.length ≤ 20 := by omega
    have hpl : p' ≤ p + 150 := by omega
    rcases j with _ | j
    · have hpl2 : p' ≤ p + 150 := hpl
      go_wp2_with fail
      refine (oddN w0 g p' n bs _ X.out.1 hn (by omega)).mono ?_
      rintro e wo ⟨b, po, rfl, hro, hpo, hgo⟩
      have hzo : wr.heap.size ≤ wo.heap.size := hgo.size
      have hpo2 : po ≤ p + 151 := by omega
      have Y := Lib.hid (And.intro hro (And.intro (X.out.2.1.trans hgo) (X.out.2.2.apart hgo (.inr (by omega))))); clear hro hgo X
      clear hpo hpl hpc
      rcases b with _ | _
      · go_wp2
        go_ret
        exact ⟨_, zs, po, rfl, Y.out.2.2.widen hzo, by omega, Y.out.1, by omega, Y.out.2.1⟩
      · skip
        have hb2 : Below (wo.heap.size) wo (wo.alloc (.cells #[.int .i64 (1005), .int .i64 (1010), .int .i64 (1013)] 3)) := (Below.refl _ _).alloc (by simp) _
        have ho2 := lits_own wo [1005, 1010, 1013] (by simp) (by intro z hz; simp only [List.mem_cons, List.not_mem_nil, or_false] at hz; apply wf_near; omega)
        have S2 : Hid (RS w0 (wo.alloc (.cells #[.int .i64 (1005), .int .i64 (1010), .int .i64 (1013)] 3)) g bs (po) ∧ Within g (g + 1) w (wo.alloc (.cells #[.int .i64 (1005), .int .i64 (1010), .int .i64 (1013)] 3)) ∧ OwnI (wo.alloc (.cells #[.int .i64 (1005), .int .i64 (1010), .int .i64 (1013)] 3)) (w.heap.size) (wr.heap.size) (.slice Av zs.length cv) (zs) ∧ OwnI (wo.alloc (.cells #[.int .i64 (1005), .int .i64 (1010), .int .i64 (1013)] 3)) (wo.heap.size) (wo.heap.size + 1) (.slice (some ⟨wo.heap.size, 0, none⟩) 3 3) ([1005, 1010, 1013])) := Lib.hid ⟨(Y.out.1).below hb2 (by omega), (Y.out.2.1).then_below hb2 (by omega), (Y.out.2.2).belowB hb2 (by omega), (by simpa using ho2)⟩
        clear Y
        clear hb2 ho2
        go_wp2_with fail
        refine (pick w0 g (po) (3) bs _ (S2.out.1) (by omega) (by omega)).mono ?_
        rintro e w_3 ⟨y, rfl, hy0, hy1, hr3, hg3⟩
        have hz3 : wo.heap.size + 1 ≤ w_3.heap.size := by have := hg3.size; simpa using this
        have S3 : Hid (RS w0 w_3 g bs (po + 1) ∧ Within g (g + 1) w w_3 ∧ OwnI w_3 (w.heap.size) (wr.heap.size) (.slice Av zs.length cv) (zs) ∧ OwnI w_3 (wo.heap.size) (wo.heap.size + 1) (.slice (some ⟨wo.heap.size, 0, none⟩) 3 3) ([1005, 1010, 1013])) := Lib.hid ⟨hr3, (S2.out.2.1).trans hg3, (S2.out.2.2.1).apart hg3 (by omega), (S2.out.2.2.2).apart hg3 (by omega)⟩
        clear S2
        clear hr3 hg3
        obtain ⟨q, rfl⟩ := Int.eq_ofNat_of_zero_le hy0
        obtain ⟨z, hz, hz0, hz1⟩ : ∃ z : Int, w_3.cell? ⟨wo.heap.size, q, none⟩ = some (.int .i64 z) ∧ 0 ≤ z ∧ z ≤ 1013 := by
          rw [(S3.out.2.2.2).own.own.cellAt q (by simp; omega)]
          rcases q with _ | _ | _ | q
          · exact ⟨1005, rfl, by omega, by omega⟩
          · exact ⟨1010, rfl, by omega, by omega⟩
          · exact ⟨1013, rfl, by omega, by omega⟩
          · omega
        have hb4 : Below (w_3.heap.size) w_3 (w_3.alloc (.cells #[.int .i64 (z)] 3)) := (Below.refl _ _).alloc (by simp) _
        have ho4 := lits_own w_3 [z] (by simp) (by intro z hz; simp only [List.mem_cons, List.not_mem_nil, or_false] at hz; apply wf_near; omega)
        have S4 : Hid (RS w0 (w_3.alloc (.cells #[.int .i64 (z)] 3)) g bs (po+1) ∧ Within g (g + 1) w (w_3.alloc (.cells #[.int .i64 (z)] 3)) ∧ OwnI (w_3.alloc (.cells #[.int .i64 (z)] 3)) (w.heap.size) (wr.heap.size) (.slice Av zs.length cv) (zs) ∧ OwnI (w_3.alloc (.cells #[.int .i64 (z)] 3)) (wo.heap.size) (wo.heap.size + 1) (.slice (some ⟨wo.heap.size, 0, none⟩) 3 3) ([1005, 1010, 1013]) ∧ OwnI (w_3.alloc (.cells #[.int .i64 (z)] 3)) (w_3.heap.size) (w_3.heap.size + 1) (.slice (some ⟨w_3.heap.size, 0, none⟩) 1 1) ([z])) := Lib.hid ⟨(S3.out.1).below hb4 (by omega), (S3.out.2.1).then_below hb4 (by omega), (S3.out.2.2.1).belowB hb4 (by omega), (S3.out.2.2.2).belowB hb4 (by omega), (by simpa using ho4)⟩
        clear S3
        clear hb4 ho4
        go_wp2_with (at_builtin; (refine wpList_append_V rfl _ _ _ rfl Tryz.underlying23 intInfo (w.heap.size) (wr.heap.size) (.slice Av zs.length cv) (zs) rfl (S4.out.2.2.1) (by first | omega | (simp <;> omega)) (.slice (some ⟨w_3.heap.size, 0, none⟩) 1 1) ([z]) rfl (S4.out.2.2.2.2).rd (by first | omega | (simp <;> omega)) ?_))
        intro f w_5 ho5 hb5
        have hz5 : w_3.heap.size + 1 ≤ w_5.heap.size := by have := hb5.size; simpa using this
        have S5 : Hid (RS w0 w_5 g bs (po+1) ∧ Within g (g + 1) w w_5 ∧ OwnI w_5 (w.heap.size) (w_5.heap.size) f ((zs) ++ ([z]))) := Lib.hid ⟨(S4.out.1).below hb5 (by omega), (S4.out.2.1).then_below hb5 (by omega), (by simpa using ho5)⟩
        clear S4
        clear ho5 hb5
        go_wp2
        go_ret
        exact ⟨f, zs ++ [z], po + 1, rfl, S5.out.2.2, by simp; omega, S5.out.1, by omega, S5.out.2.1⟩
    · have hjI : (0 : Int) < ((j + 1 : Nat) : Int) := by omega
      go_wp2_with fail
      refine (num w0 g (p') bs _ (X.out.1) (by omega)).mono ?_
      rintro e w_2 ⟨a, rfl, ha0, ha1, hr2, hg2⟩
      have hz2 : wr.heap.size ≤ w_2.heap.size := by have := hg2.size; simpa using this
      have S2 : Hid (RS w0 w_2 g bs (p' + 4) ∧ Within g (g + 1) w w_2 ∧ OwnI w_2 (w.heap.size) (wr.heap.size) (.slice Av zs.length cv) (zs)) := Lib.hid ⟨hr2, (X.out.2.1).trans hg2, (X.out.2.2).apart hg2 (by omega)⟩
      clear X
      clear hr2 hg2
      go_wp2_with fail
      refine (pick w0 g (p' + 4) (4) bs _ (S2.out.1) (by omega) (by omega)).mono ?_
      rintro e w_3 ⟨b, rfl, hb0, hb1, hr3, hg3⟩
      have hz3 : w_2.heap.size ≤ w_3.heap.size := by have := hg3.size; simpa using this
      have S3 : Hid (RS w0 w_3 g bs (p' + 4 + 1) ∧ Within g (g + 1) w w_3 ∧ OwnI w_3 (w.heap.size) (wr.heap.size) (.slice Av zs.length cv) (zs)) := Lib.hid ⟨hr3, (S2.out.2.1).trans hg3, (S2.out.2.2).apart hg3 (by omega)⟩
      clear S2
      clear hr3 hg3
      go_wp2_with fail
      refine (pick w0 g (p' + 4 + 1) (3) bs _ (S3.out.1) (by omega) (by omega)).mono ?_
      rintro e w_4 ⟨c, rfl, hc0, hc1, hr4, hg4⟩
      have hz4 : w_3.heap.size ≤ w_4.heap.size := by have := hg4.size; simpa using this
      have S4 : Hid (RS w0 w_4 g bs (p' + 4 + 1 + 1) ∧ Within g (g + 1) w w_4 ∧ OwnI w_4 (w.heap.size) (wr.heap.size) (.slice Av zs.length cv) (zs)) := Lib.hid ⟨hr4, (S3.out.2.1).trans hg4, (S3.out.2.2).apart hg4 (by omega)⟩
      clear S3
      clear hr4 hg4
      have hb5 : Below (w_4.heap.size) w_4 (w_4.alloc (.cells #[.int .i64 (a), .int .i64 (1001), .int .i64 (1002), .int .i64 (1003), .int .i64 ((1006+b)), .int .i64 ((1006+c)), .int .i64 (1001)] 3)) := (Below.refl _ _).alloc (by simp) _
      have ho5 := lits_own w_4 [a, 1001, 1002, 1003, (1006+b), (1006+c), 1001] (by simp) (by intro z hz; simp only [List.mem_cons, List.not_mem_nil, or_false] at hz; apply wf_near; omega)
      have S5 : Hid (RS w0 (w_4.alloc (.cells #[.int .i64 (a), .int .i64 (1001), .int .i64 (1002), .int .i64 (1003), .int .i64 ((1006+b)), .int .i64 ((1006+c)), .int .i64 (1001)] 3)) g bs (p' + 4 + 1 + 1) ∧ Within g (g + 1) w (w_4.alloc (.cells #[.int .i64 (a), .int .i64 (1001), .int .i64 (1002), .int .i64 (1003), .int .i64 ((1006+b)), .int .i64 ((1006+c)), .int .i64 (1001)] 3)) ∧ OwnI (w_4.alloc (.cells #[.int .i64 (a), .int .i64 (1001), .int .i64 (1002), .int .i64 (1003), .int .i64 ((1006+b)), .int .i64 ((1006+c)), .int .i64 (1001)] 3)) (w.heap.size) (wr.heap.size) (.slice Av zs.length cv) (zs) ∧ OwnI (w_4.alloc (.cells #[.int .i64 (a), .int .i64 (1001), .int .i64 (1002), .int .i64 (1003), .int .i64 ((1006+b)), .int .i64 ((1006+c)), .int .i64 (1001)] 3)) (w_4.heap.size) (w_4.heap.size + 1) (.slice (some ⟨w_4.heap.size, 0, none⟩) 7 7) ([a, 1001, 1002, 1003, (1006+b), (1006+c), 1001])) := Lib.hid ⟨(S4.out.1).below hb5 (by omega), (S4.out.2.1).then_below hb5 (by omega), (S4.out.2.2).belowB hb5 (by omega), (by simpa using ho5)⟩
      clear S4
      clear hb5 ho5
      go_wp2_with fail
      refine (pick w0 g (p' + 4 + 1 + 1) (7) bs _ (S5.out.1) (by omega) (by omega)).mono ?_
      rintro e w_6 ⟨y, rfl, hy0, hy1, hr6, hg6⟩
      have hz6 : w_4.heap.size + 1 ≤ w_6.heap.size := by have := hg6.size; simpa using this
      have S6 : Hid (RS w0 w_6 g bs (p' + 4 + 1 + 1 + 1) ∧ Within g (g + 1) w w_6 ∧ OwnI w_6 (w.heap.size) (wr.heap.size) (.slice Av zs.length cv) (zs) ∧ OwnI w_6 (w_4.heap.size) (w_4.heap.size + 1) (.slice (some ⟨w_4.heap.size, 0, none⟩) 7 7) ([a, 1001, 1002, 1003, (1006+b), (1006+c), 1001])) := Lib.hid ⟨hr6, (S5.out.2.1).trans hg6, (S5.out.2.2.1).apart hg6 (by omega), (S5.out.2.2.2).apart hg6 (by omega)⟩
      clear S5
      clear hr6 hg6
      obtain ⟨q, rfl⟩ := Int.eq_ofNat_of_zero_le hy0
      obtain ⟨z, hz, hz0, hz1⟩ : ∃ z : Int, w_6.cell? ⟨w_4.heap.size, q, none⟩ = some (.int .i64 z) ∧ 0 ≤ z ∧ z ≤ 1013 := by
        rw [(S6.out.2.2.2).own.own.cellAt q (by simp; omega)]
        rcases q with _ | _ | _ | _ | _ | _ | _ | q
        · exact ⟨a, rfl, by omega, by omega⟩
        · exact ⟨1001, rfl, by omega, by omega⟩
        · exact ⟨1002, rfl, by omega, by omega⟩
        · exact ⟨1003, rfl, by omega, by omega⟩
        · exact ⟨1006 + b, rfl, by omega, by omega⟩
        · exact ⟨1006 + c, rfl, by omega, by omega⟩
        · exact ⟨1001, rfl, by omega, by omega⟩
        · omega
      have hb7 : Below (w_6.heap.size) w_6 (w_6.alloc (.cells #[.int .i64 (z)] 3)) := (Below.refl _ _).alloc (by simp) _
      have ho7 := lits_own w_6 [z] (by simp) (by intro z hz; simp only [List.mem_cons, List.not_mem_nil, or_false] at hz; apply wf_near; omega)
      have S7 : Hid (RS w0 (w_6.alloc (.cells #[.int .i64 (z)] 3)) g bs (p'+4+1+1+1) ∧ Within g (g + 1) w (w_6.alloc (.cells #[.int .i64 (z)] 3)) ∧ OwnI (w_6.alloc (.cells #[.int .i64 (z)] 3)) (w.heap.size) (wr.heap.size) (.slice Av zs.length cv) (zs) ∧ OwnI (w_6.alloc (.cells #[.int .i64 (z)] 3)) (w_4.heap.size) (w_4.heap.size + 1) (.slice (some ⟨w_4.heap.size, 0, none⟩) 7 7) ([a, 1001, 1002, 1003, 1006+b, 1006+c, 1001]) ∧ OwnI (w_6.alloc (.cells #[.int .i64 (z)] 3)) (w_6.heap.size) (w_6.heap.size + 1) (.slice (some ⟨w_6.heap.size, 0, none⟩) 1 1) ([z])) := Lib.hid ⟨(S6.out.1).below hb7 (by omega), (S6.out.2.1).then_below hb7 (by omega), (S6.out.2.2.1).belowB hb7 (by omega), (S6.out.2.2.2).belowB hb7 (by omega), (by simpa using ho7)⟩
      clear S6
      clear hb7 ho7
      go_wp2_with (at_builtin; (refine wpList_append_V rfl _ _ _ rfl Tryz.underlying23 intInfo (w.heap.size) (wr.heap.size) (.slice Av zs.length cv) (zs) rfl (S7.out.2.2.1) (by first | omega | (simp <;> omega)) (.slice (some ⟨w_6.heap.size, 0, none⟩) 1 1) ([z]) rfl (S7.out.2.2.2.2).rd (by first | omega | (simp <;> omega)) ?_))
      intro f w_8 ho8 hb8
      have hz8 : w_6.heap.size + 1 ≤ w_8.heap.size := by have := hb8.size; simpa using this
      have S8 : Hid (RS w0 w_8 g bs (p'+4+1+1+1) ∧ Within g (g + 1) w w_8 ∧ OwnI w_8 (w.heap.size) (w_8.heap.size) f ((zs) ++ ([z]))) := Lib.hid ⟨(S7.out.1).below hb8 (by omega), (S7.out.2.1).then_below hb8 (by omega), (by simpa using ho8)⟩
      clear S7
      clear ho8 hb8
      have hfz : w.heap.size + 1 ≤ w_8.heap.size := by omega
      go_wp2
      go_roundw
      case rel => exact ⟨j, p' + 4 + 1 + 1 + 1, zs ++ [z], by first | rfl | go_num, by omega, hfz, S8.out.2.2, by simp; omega, S8.out.1, by omega, S8.out.2.1⟩
      case measure => simp [intOf]
end Go.Proofs.YtpdhdiidkjgjmaaGreat
