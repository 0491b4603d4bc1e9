/- The draw of rows of places: l20Places, DrawShuffleFor. -/
import Derived.Test.YtjbfpbajbjnifaaI
import Derived.Test.YtjbfpbajbjnifaaJh
import Derived.Test.YtjbfpbajbjnifaaJd
import Derived.IntWalk
namespace Go.Proofs.Ytjbfpbajbjnifaa
set_option maxRecDepth 100000
open Go.RowKit Go.WideShapes

/-- What l20Places gives. -/
def PlPost (w0 : World) (g p : Nat) (bs : List Int) (w : World) (e : Ending) (w' : World) : Prop :=
  ∃ (m : Nat) (v : Value) (zs : List Int) (p' : Nat), e = .returned (.tuple #[.int .i64 m, v]) ∧ m ≤ 4 ∧ OwnI w' w.heap.size w'.heap.size v zs ∧ zs.length ≤ 5 ∧ (∀ z ∈ zs, -1 ≤ z ∧ z ≤ 9) ∧ RS w0 w' g bs p' ∧ p' ≤ p + 20 ∧ Within g (g + 1) w w'
set_option maxHeartbeats 4000000 in
theorem places_any (w0 : World) (g p : Nat) (bs : List Int) (w : World) (h : RS w0 w g bs p) (hp : p ≤ 500000000000) :
    Calls Try.prog 79 #[.pointer (some ⟨g, 0, none⟩)] w (PlPost w0 g p bs w) := by
  have hgw := h.rdr.lt
  have H := Lib.hid h; clear h
  have hs0 : w0.heap.size ≤ w.heap.size := H.out.size
  go_enter Try.func79, Try.ntmps79
  go_wp2_with fail
  refine (pick w0 g p 5 bs _ H.out (by omega) (by omega)).mono ?_
  rintro e w1 ⟨x, rfl, hx0, hx1, hr1, hg1⟩
  have hz1 : w.heap.size ≤ w1.heap.size := hg1.size
  obtain ⟨m, rfl⟩ := Int.eq_ofNat_of_zero_le hx0
  have hm4 : m ≤ 4 := by omega
  have B0 : Below w1.heap.size w1 (w1.alloc (.cells #[] 3)) := (Below.refl _ _).alloc (Nat.le_refl _) _
  have L0 := (nilLit w1).1
  have X1 := Lib.hid (And.intro (hr1.below B0 (by omega)) (And.intro (hg1.then_below B0 hz1) (show OwnI (w1.alloc (.cells #[] 3)) w.heap.size (w1.alloc (.cells #[] 3)).heap.size (.slice (some ⟨w1.heap.size, 0, none⟩) 0 0) [] from ⟨L0.own.mono hz1, L0.lt⟩))); clear hr1 hg1 B0 L0 hx0 hx1 H
  have hz2 : w.heap.size + 1 ≤ (w1.alloc (.cells #[] 3)).heap.size := by simp; omega
  go_wp2_with fail
  refine (pick w0 g (p + 1) 5 bs _ X1.out.1 (by omega) (by omega)).mono ?_
  rintro e w2 ⟨y, rfl, hy0, hy1, hr2, hg2⟩
  have hz3 : w.heap.size + 1 ≤ w2.heap.size := by have := hg2.size; omega
  obtain ⟨j0, rfl⟩ := Int.eq_ofNat_of_zero_le hy0
  have X2 := Lib.hid (And.intro hr2 (And.intro (X1.out.2.1.trans hg2) (show OwnI w2 w.heap.size w2.heap.size _ [] from by
    have h := X1.out.2.2
    have h2 := h.apart (lo' := g) (hi' := g + 1) hg2 (.inr (by omega))
    exact ⟨h2.own, fun k hk => by have := h.lt k hk; have := hg2.size; omega⟩))); clear hr2 hg2 X1 hz2
  go_wp2
  go_loopw [5, 6] (fun v kv wr => ∃ (j p' : Nat) (zs : List Int), kv = .int .i64 j ∧ j ≤ 4 ∧ w.heap.size + 1 ≤ wr.heap.size ∧ OwnI wr w.heap.size wr.heap.size v zs ∧ zs.length + j ≤ 4 ∧ (∀ z ∈ zs, -1 ≤ z ∧ z ≤ 9) ∧ RS w0 wr g bs p' ∧ p' + j ≤ p + 10 ∧ Within g (g + 1) w wr) (fun _ kv _ => (intOf kv).toNat)
  case atStart => exact ⟨j0, p + 1 + 1, [], rfl, by omega, hz3, X2.out.2.2, by simp; omega, by simp, X2.out.1, by omega, X2.out.2.1⟩
  case round =>
    clear X2 hz3 hy0 hy1
    obtain ⟨j, p', zs, rfl, hj, hsz, hown, hlen, hzs, hrs, hpc, hgw2⟩ := hrel
    have X := Lib.hid (And.intro hrs (And.intro hgw2 (And.intro hown hzs))); clear hown hrs hgw2 hzs
    obtain ⟨Av, cv, hvv, _⟩ := X.out.2.2.1.rd
    by_cases hgo : 0 < j ∧ 0 < m
    · obtain ⟨hj0, hm0⟩ := hgo
      obtain ⟨j, rfl⟩ : ∃ j', j = j' + 1 := ⟨j - 1, by omega⟩
      have hjI : (0 : Int) < ((j + 1 : Nat) : Int) := by omega
      have hmI : (0 : Int) < (m : Int) := by omega
      clear hvv
      go_wp2_with fail
      refine (pick w0 g p' (m : Int) bs _ X.out.1 (by omega) (by omega)).mono ?_
      rintro e w3 ⟨x, rfl, hx0, hx1, hr3, hg3⟩
      have hz4 : w.heap.size + 1 ≤ w3.heap.size := by have := hg3.size; omega
      have hz5 : wr.heap.size ≤ w3.heap.size := hg3.size
      have Y := Lib.hid (And.intro hr3 (And.intro (X.out.2.1.trans hg3) (And.intro (X.out.2.2.1.apart hg3 (.inr (by omega))) X.out.2.2.2))); clear hr3 hg3 X
      have HX := Lib.hid (And.intro hx0 hx1); clear hx0 hx1
      go_wp2_with (at_builtin; refine wpList_append_z rfl _ _ _ rfl Try.underlying23 intInfo x rfl (wf_near _ (by have := HX.out; omega)) w.heap.size wr.heap.size _ zs rfl Y.out.2.2.1 (by omega) rfl (by omega) ?_)
      intro v4 w4 ho4 hb4 hw4
      have hz6 : w.heap.size + 1 ≤ w4.heap.size := by have := hb4.size; omega
      have Z := Lib.hid (And.intro ho4 (And.intro (show ∀ z ∈ zs ++ [x], -1 ≤ z ∧ z ≤ 9 from fun z hz => by
        rcases List.mem_append.1 hz with h | h
        · exact Y.out.2.2.2 z h
        · have : z = x := by simpa using h
          have := HX.out; omega) (And.intro (Y.out.1.below hb4 hs0) (Y.out.2.1.then_below hb4 (Nat.le_refl _))))); clear ho4 hb4 hw4 Y
      go_wp2
      go_roundw
      case rel => exact ⟨j, p' + 1, zs ++ [x], by first | rfl | go_num, by omega, hz6, Z.out.1, by simp; omega, Z.out.2.1, Z.out.2.2.1, by omega, Z.out.2.2.2⟩
      case measure => simp [intOf]
    · rcases Nat.lt_or_ge 0 j with h1 | h1
      · have h2 : ¬ (0 : Int) < (m : Int) := fun h => hgo ⟨h1, by omega⟩
        have h1I : (0 : Int) < (j : Int) := by omega
        clear hgo h1
        obtain ⟨Av, cv, rfl, _⟩ := X.out.2.2.1.rd
        have HZ := Lib.hid X.out.2.2.2
        have X' := Lib.hid (And.intro X.out.1 (And.intro X.out.2.1 X.out.2.2.1)); clear X hvv
        have hzl : zs.length ≤ 4 := by omega
        have hpl : p' ≤ p + 10 := by omega
        have hmI : -1000 ≤ (m : Int) ∧ (m : Int) ≤ 1000 := by omega
        clear hlen hpc hj
        go_wp2_with fail
        refine (oddN w0 g p' 12 bs _ X'.out.1 (by omega) (by omega)).mono ?_
        rintro e wo ⟨b, po, rfl, hro, hpo, hgo⟩
        have hzo : wr.heap.size ≤ wo.heap.size := hgo.size
        have hpo2 : po ≤ p + 11 := by omega
        have Y := Lib.hid (And.intro hro (And.intro (X'.out.2.1.trans hgo) (X'.out.2.2.apart hgo (by omega)))); clear hro hgo X'
        clear hpo hpl
        rcases b with _ | _
        · go_wp2
          go_ret2
          exact ⟨m, _, zs, po, rfl, hm4, Y.out.2.2.widen hzo, by omega, HZ.out, Y.out.1, by omega, Y.out.2.1⟩
        · skip
          have hb2 : Below (wo.heap.size) wo (wo.alloc (.cells #[.int .i64 (-1), .int .i64 ((m:Int)), .int .i64 (9)] 3)) := (Below.refl _ _).alloc (by simp) _
          have ho2 := lits_own wo [-1, (m:Int), 9] (by simp) (by intro z hz; simp only [List.mem_cons, List.not_mem_nil, or_false] at hz; apply wf_near; omega)
          have S2 : Hid (RS w0 (wo.alloc (.cells #[.int .i64 (-1), .int .i64 ((m:Int)), .int .i64 (9)] 3)) g bs (po) ∧ Within g (g + 1) w (wo.alloc (.cells #[.int .i64 (-1), .int .i64 ((m:Int)), .int .i64 (9)] 3)) ∧ OwnI (wo.alloc (.cells #[.int .i64 (-1), .int .i64 ((m:Int)), .int .i64 (9)] 3)) (w.heap.size) (wr.heap.size) (.slice Av zs.length cv) (zs) ∧ OwnI (wo.alloc (.cells #[.int .i64 (-1), .int .i64 ((m:Int)), .int .i64 (9)] 3)) (wo.heap.size) (wo.heap.size + 1) (.slice (some ⟨wo.heap.size, 0, none⟩) 3 3) ([-1, (m:Int), 9])) := Lib.hid ⟨(Y.out.1).below hb2 (by omega), (Y.out.2.1).then_below hb2 (by omega), (Y.out.2.2).belowB hb2 (by omega), (by simpa using ho2)⟩
          clear Y
          clear hb2 ho2
          go_wp2_with fail
          refine (pick w0 g (po) (3) bs _ (S2.out.1) (by omega) (by omega)).mono ?_
          rintro e w_3 ⟨y, rfl, hy0, hy1, hr3, hg3⟩
          have hz3 : wo.heap.size + 1 ≤ w_3.heap.size := by have := hg3.size; simpa using this
          have S3 : Hid (RS w0 w_3 g bs (po + 1) ∧ Within g (g + 1) w w_3 ∧ OwnI w_3 (w.heap.size) (wr.heap.size) (.slice Av zs.length cv) (zs) ∧ OwnI w_3 (wo.heap.size) (wo.heap.size + 1) (.slice (some ⟨wo.heap.size, 0, none⟩) 3 3) ([-1, (m:Int), 9])) := Lib.hid ⟨hr3, (S2.out.2.1).trans hg3, (S2.out.2.2.1).apart hg3 (by omega), (S2.out.2.2.2).apart hg3 (by omega)⟩
          clear S2
          clear hr3 hg3
          obtain ⟨q, rfl⟩ := Int.eq_ofNat_of_zero_le hy0
          obtain ⟨z, hz, hz0, hz1⟩ : ∃ z : Int, w_3.cell? ⟨wo.heap.size, q, none⟩ = some (.int .i64 z) ∧ -1 ≤ z ∧ z ≤ 9 := by
            rw [(S3.out.2.2.2).own.own.cellAt q (by simp; omega)]
            rcases q with _ | _ | _ | q
            · exact ⟨-1, rfl, by omega, by omega⟩
            · exact ⟨m, rfl, by omega, by omega⟩
            · exact ⟨9, rfl, by omega, by omega⟩
            · omega
          have hb4 : Below (w_3.heap.size) w_3 (w_3.alloc (.cells #[.int .i64 (z)] 3)) := (Below.refl _ _).alloc (by simp) _
          have ho4 := lits_own w_3 [z] (by simp) (by intro z hz; simp only [List.mem_cons, List.not_mem_nil, or_false] at hz; apply wf_near; omega)
          have S4 : Hid (RS w0 (w_3.alloc (.cells #[.int .i64 (z)] 3)) g bs (po+1) ∧ Within g (g + 1) w (w_3.alloc (.cells #[.int .i64 (z)] 3)) ∧ OwnI (w_3.alloc (.cells #[.int .i64 (z)] 3)) (w.heap.size) (wr.heap.size) (.slice Av zs.length cv) (zs) ∧ OwnI (w_3.alloc (.cells #[.int .i64 (z)] 3)) (wo.heap.size) (wo.heap.size + 1) (.slice (some ⟨wo.heap.size, 0, none⟩) 3 3) ([-1, (m:Int), 9]) ∧ OwnI (w_3.alloc (.cells #[.int .i64 (z)] 3)) (w_3.heap.size) (w_3.heap.size + 1) (.slice (some ⟨w_3.heap.size, 0, none⟩) 1 1) ([z])) := Lib.hid ⟨(S3.out.1).below hb4 (by omega), (S3.out.2.1).then_below hb4 (by omega), (S3.out.2.2.1).belowB hb4 (by omega), (S3.out.2.2.2).belowB hb4 (by omega), (by simpa using ho4)⟩
          clear S3
          clear hb4 ho4
          go_wp2_with (at_builtin; (refine wpList_append_V rfl _ _ _ rfl Try.underlying23 intInfo (w.heap.size) (wr.heap.size) (.slice Av zs.length cv) (zs) rfl (S4.out.2.2.1) (by first | omega | (simp <;> omega)) (.slice (some ⟨w_3.heap.size, 0, none⟩) 1 1) ([z]) rfl (S4.out.2.2.2.2).rd (by first | omega | (simp <;> omega)) ?_))
          intro f w_5 ho5 hb5
          have hz5 : w_3.heap.size + 1 ≤ w_5.heap.size := by have := hb5.size; simpa using this
          have S5 : Hid (RS w0 w_5 g bs (po+1) ∧ Within g (g + 1) w w_5 ∧ OwnI w_5 (w.heap.size) (w_5.heap.size) f ((zs) ++ ([z]))) := Lib.hid ⟨(S4.out.1).below hb5 (by omega), (S4.out.2.1).then_below hb5 (by omega), (by simpa using ho5)⟩
          clear S4
          clear ho5 hb5
          go_wp2
          go_ret2
          exact ⟨m, f, zs ++ [z], po + 1, rfl, hm4, S5.out.2.2, by simp; omega, fun y hy => by
            rcases List.mem_append.1 hy with h | h
            · exact HZ.out y h
            · have : y = z := by simpa using h
              omega, S5.out.1, by omega, S5.out.2.1⟩
      · have h2 : ¬ (0 : Int) < (j : Int) := by omega
        clear hgo h1
        obtain ⟨Av, cv, rfl, _⟩ := X.out.2.2.1.rd
        have HZ := Lib.hid X.out.2.2.2
        have X' := Lib.hid (And.intro X.out.1 (And.intro X.out.2.1 X.out.2.2.1)); clear X hvv
        have hzl : zs.length ≤ 4 := by omega
        have hpl : p' ≤ p + 10 := by omega
        have hmI : -1000 ≤ (m : Int) ∧ (m : Int) ≤ 1000 := by omega
        clear hlen hpc hj
        go_wp2_with fail
        refine (oddN w0 g p' 12 bs _ X'.out.1 (by omega) (by omega)).mono ?_
        rintro e wo ⟨b, po, rfl, hro, hpo, hgo⟩
        have hzo : wr.heap.size ≤ wo.heap.size := hgo.size
        have hpo2 : po ≤ p + 11 := by omega
        have Y := Lib.hid (And.intro hro (And.intro (X'.out.2.1.trans hgo) (X'.out.2.2.apart hgo (by omega)))); clear hro hgo X'
        clear hpo hpl
        rcases b with _ | _
        · go_wp2
          go_ret2
          exact ⟨m, _, zs, po, rfl, hm4, Y.out.2.2.widen hzo, by omega, HZ.out, Y.out.1, by omega, Y.out.2.1⟩
        · skip
          have hb2 : Below (wo.heap.size) wo (wo.alloc (.cells #[.int .i64 (-1), .int .i64 ((m:Int)), .int .i64 (9)] 3)) := (Below.refl _ _).alloc (by simp) _
          have ho2 := lits_own wo [-1, (m:Int), 9] (by simp) (by intro z hz; simp only [List.mem_cons, List.not_mem_nil, or_false] at hz; apply wf_near; omega)
          have S2 : Hid (RS w0 (wo.alloc (.cells #[.int .i64 (-1), .int .i64 ((m:Int)), .int .i64 (9)] 3)) g bs (po) ∧ Within g (g + 1) w (wo.alloc (.cells #[.int .i64 (-1), .int .i64 ((m:Int)), .int .i64 (9)] 3)) ∧ OwnI (wo.alloc (.cells #[.int .i64 (-1), .int .i64 ((m:Int)), .int .i64 (9)] 3)) (w.heap.size) (wr.heap.size) (.slice Av zs.length cv) (zs) ∧ OwnI (wo.alloc (.cells #[.int .i64 (-1), .int .i64 ((m:Int)), .int .i64 (9)] 3)) (wo.heap.size) (wo.heap.size + 1) (.slice (some ⟨wo.heap.size, 0, none⟩) 3 3) ([-1, (m:Int), 9])) := Lib.hid ⟨(Y.out.1).below hb2 (by omega), (Y.out.2.1).then_below hb2 (by omega), (Y.out.2.2).belowB hb2 (by omega), (by simpa using ho2)⟩
          clear Y
          clear hb2 ho2
          go_wp2_with fail
          refine (pick w0 g (po) (3) bs _ (S2.out.1) (by omega) (by omega)).mono ?_
          rintro e w_3 ⟨y, rfl, hy0, hy1, hr3, hg3⟩
          have hz3 : wo.heap.size + 1 ≤ w_3.heap.size := by have := hg3.size; simpa using this
          have S3 : Hid (RS w0 w_3 g bs (po + 1) ∧ Within g (g + 1) w w_3 ∧ OwnI w_3 (w.heap.size) (wr.heap.size) (.slice Av zs.length cv) (zs) ∧ OwnI w_3 (wo.heap.size) (wo.heap.size + 1) (.slice (some ⟨wo.heap.size, 0, none⟩) 3 3) ([-1, (m:Int), 9])) := Lib.hid ⟨hr3, (S2.out.2.1).trans hg3, (S2.out.2.2.1).apart hg3 (by omega), (S2.out.2.2.2).apart hg3 (by omega)⟩
          clear S2
          clear hr3 hg3
          obtain ⟨q, rfl⟩ := Int.eq_ofNat_of_zero_le hy0
          obtain ⟨z, hz, hz0, hz1⟩ : ∃ z : Int, w_3.cell? ⟨wo.heap.size, q, none⟩ = some (.int .i64 z) ∧ -1 ≤ z ∧ z ≤ 9 := by
            rw [(S3.out.2.2.2).own.own.cellAt q (by simp; omega)]
            rcases q with _ | _ | _ | q
            · exact ⟨-1, rfl, by omega, by omega⟩
            · exact ⟨m, rfl, by omega, by omega⟩
            · exact ⟨9, rfl, by omega, by omega⟩
            · omega
          have hb4 : Below (w_3.heap.size) w_3 (w_3.alloc (.cells #[.int .i64 (z)] 3)) := (Below.refl _ _).alloc (by simp) _
          have ho4 := lits_own w_3 [z] (by simp) (by intro z hz; simp only [List.mem_cons, List.not_mem_nil, or_false] at hz; apply wf_near; omega)
          have S4 : Hid (RS w0 (w_3.alloc (.cells #[.int .i64 (z)] 3)) g bs (po+1) ∧ Within g (g + 1) w (w_3.alloc (.cells #[.int .i64 (z)] 3)) ∧ OwnI (w_3.alloc (.cells #[.int .i64 (z)] 3)) (w.heap.size) (wr.heap.size) (.slice Av zs.length cv) (zs) ∧ OwnI (w_3.alloc (.cells #[.int .i64 (z)] 3)) (wo.heap.size) (wo.heap.size + 1) (.slice (some ⟨wo.heap.size, 0, none⟩) 3 3) ([-1, (m:Int), 9]) ∧ OwnI (w_3.alloc (.cells #[.int .i64 (z)] 3)) (w_3.heap.size) (w_3.heap.size + 1) (.slice (some ⟨w_3.heap.size, 0, none⟩) 1 1) ([z])) := Lib.hid ⟨(S3.out.1).below hb4 (by omega), (S3.out.2.1).then_below hb4 (by omega), (S3.out.2.2.1).belowB hb4 (by omega), (S3.out.2.2.2).belowB hb4 (by omega), (by simpa using ho4)⟩
          clear S3
          clear hb4 ho4
          go_wp2_with (at_builtin; (refine wpList_append_V rfl _ _ _ rfl Try.underlying23 intInfo (w.heap.size) (wr.heap.size) (.slice Av zs.length cv) (zs) rfl (S4.out.2.2.1) (by first | omega | (simp <;> omega)) (.slice (some ⟨w_3.heap.size, 0, none⟩) 1 1) ([z]) rfl (S4.out.2.2.2.2).rd (by first | omega | (simp <;> omega)) ?_))
          intro f w_5 ho5 hb5
          have hz5 : w_3.heap.size + 1 ≤ w_5.heap.size := by have := hb5.size; simpa using this
          have S5 : Hid (RS w0 w_5 g bs (po+1) ∧ Within g (g + 1) w w_5 ∧ OwnI w_5 (w.heap.size) (w_5.heap.size) f ((zs) ++ ([z]))) := Lib.hid ⟨(S4.out.1).below hb5 (by omega), (S4.out.2.1).then_below hb5 (by omega), (by simpa using ho5)⟩
          clear S4
          clear ho5 hb5
          go_wp2
          go_ret2
          exact ⟨m, f, zs ++ [z], po + 1, rfl, hm4, S5.out.2.2, by simp; omega, fun y hy => by
            rcases List.mem_append.1 hy with h | h
            · exact HZ.out y h
            · have : y = z := by simpa using h
              omega, S5.out.1, by omega, S5.out.2.1⟩
def DrawnMI (w : World) (e : Ending) (w' : World) : Prop :=
  ∃ (m : Nat) (v : Value) (zs : List Int), e = .returned (.tuple #[.int .i64 m, v]) ∧ m ≤ 4 ∧ OwnI w' w.heap.size w'.heap.size v zs ∧ zs.length ≤ 5 ∧ Below w.heap.size w w'
theorem DrawShuffleFor_any (v : Value) (zs : List Int) (w : World) (h : RdC w v zs) : Calls Try.prog 34 #[v] w (DrawnMI w) := by
  have H := Lib.hid h; clear h
  go_enter Try.func34, Try.ntmps34
  go_wp2_with fail
  refine (l20Open_any v zs _ H.out).mono ?_
  rintro e w1 ⟨g, bs, rfl, hr, hg, hb⟩
  have X := Lib.hid (And.intro hr hb); clear hr hb
  have hs := X.out.2.size
  go_wp2_with fail
  refine (places_any w1 g 0 bs _ (RS.refl X.out.1) (by omega)).mono ?_
  rintro e w2 ⟨m, u, ys, p2, rfl, hm4, ho, hl, hzb, hr2, hp2, hg2⟩
  have Y := Lib.hid (And.intro ho (below_of_within X.out.2 hg hg2)); clear ho hr2 hg2 hzb
  go_wp2_with fail
  go_ret2
  exact ⟨m, u, ys, rfl, hm4, ⟨Y.out.1.own.mono hs, Y.out.1.lt⟩, hl, Y.out.2⟩
end Go.Proofs.Ytjbfpbajbjnifaa
