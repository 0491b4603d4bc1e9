/- The draws of chapter 9's laws. -/
import Derived.Test.YtaehaalaeikloaaYp
namespace Go.Proofs.Ytaehaalaeikloaa
set_option maxRecDepth 100000
open Go.RowKit Go.WideShapes

def DictPost9 (w0 : World) (g p : Nat) (bs : List Int) (w : World) (e : Ending) (w' : World) : Prop :=
  ∃ u zss v zs m p', e = .returned (.tuple #[u, v]) ∧ OwnS w' w.heap.size m u zss ∧ (zss.length ≤ 7 ∧ ∀ zs ∈ zss, zs.length ≤ 200) ∧ OwnI w' m w'.heap.size v zs ∧ zs.length ≤ 21 ∧ w.heap.size ≤ m ∧ m ≤ w'.heap.size ∧ RS w0 w' g bs p' ∧ p' ≤ p + 9000 ∧ Within g (g + 1) w w'
set_option maxHeartbeats 2000000 in
theorem uses_any (w0 : World) (g p : Nat) (bs : List Int) (w : World) (h : RS w0 w g bs p) (hp : p ≤ 200000000000) :
    Calls Try.prog 96 #[.pointer (some ⟨g, 0, none⟩)] w (DictPost9 w0 g p bs w) := by
  have hgw := h.rdr.lt
  have hs0 : w0.heap.size ≤ w.heap.size := h.size
  have S0 := Lib.hid h; clear h
  go_enter Try.func96, Try.ntmps96
  go_wp2_with fail
  refine (dict_any 12 w0 g p bs _ (by omega) S0.out (by omega)).mono ?_
  rintro e w1 ⟨u, zss, p1, rfl, ho1, hl7, hl200, hr1, hp1, hg1⟩
  have hz1 : w.heap.size ≤ w1.heap.size := hg1.size
  obtain ⟨Au, cu, rfl, _⟩ := ho1.rd
  have S1 := Lib.hid (And.intro ho1 (And.intro hl200 (And.intro hr1 hg1))); clear ho1 hl200 hr1 hg1 S0
  go_wp2_with fail
  refine (named_any zss.length 6 w0 g p1 bs _ (by omega) (by omega) S1.out.2.2.1 (by omega)).mono ?_
  rintro e w2 ⟨v, zs, p2, rfl, ho2, hl20, hr2, hp2, hg2⟩
  have hz2 : w1.heap.size ≤ w2.heap.size := hg2.size
  have S2 := Lib.hid (And.intro (S1.out.1.apart hg2 (by omega)) (And.intro ho2 (And.intro S1.out.2.1 (And.intro hr2 (S1.out.2.2.2.trans hg2))))); clear ho2 hr2 hg2 S1
  go_wp2_with fail
  refine (odd w0 g p2 14 bs _ S2.out.2.2.2.1 (by omega) (by omega)).mono ?_
  rintro e w3 ⟨b, rfl, hr3, hg3⟩
  have hz3 : w2.heap.size ≤ w3.heap.size := hg3.size
  have S3 := Lib.hid (And.intro (S2.out.1.apart hg3 (by omega)) (And.intro (S2.out.2.1.apart hg3 (by omega)) (And.intro S2.out.2.2.1 (And.intro hr3 (S2.out.2.2.2.2.trans hg3))))); clear hr3 hg3 S2
  rcases b with _ | _
  · go_wp2
    go_ret2
    exact ⟨_, zss, v, zs, w1.heap.size, p2 + 1, rfl, S3.out.1, ⟨hl7, S3.out.2.2.1⟩, S3.out.2.1.widen hz3, by omega, hz1, by omega, S3.out.2.2.2.1, by omega, S3.out.2.2.2.2⟩
  · have hl7I : (zss.length : Int) ≤ 7 := by omega
    obtain ⟨y, HY⟩ : ∃ y : Int, Hid (1101 + (zss.length : Int) = y) := ⟨_, Lib.hid rfl⟩
    have hy : 1101 ≤ y ∧ y ≤ 1108 := by rw [← HY.out]; omega
    have hbl : Below w3.heap.size w3 (w3.alloc (.cells #[.int .i64 1013, .int .i64 (1101 + (zss.length : Int)), .int .i64 1000] 3)) := (Below.refl _ _).alloc (Nat.le_refl _) _
    have bp := Blk.new w3 #[.int .i64 1013, .int .i64 (1101 + (zss.length : Int)), .int .i64 1000] 3
    have hsl : (w3.alloc (.cells #[.int .i64 1013, .int .i64 (1101 + (zss.length : Int)), .int .i64 1000] 3)).heap.size = w3.heap.size + 1 := by simp
    have S4 := Lib.hid (And.intro (S3.out.1.belowB hbl (by omega)) (And.intro (S3.out.2.1.belowB hbl (by omega)) (And.intro S3.out.2.2.1 (And.intro (S3.out.2.2.2.1.below hbl (by omega)) (And.intro (S3.out.2.2.2.2.then_below hbl (by omega)) bp))))); clear hbl bp S3
    generalize hW : w3.alloc (.cells #[.int .i64 1013, .int .i64 (1101 + (zss.length : Int)), .int .i64 1000] 3) = W at S4 hsl
    have HW := Lib.hid hW; clear hW
    have hsl1 : W.heap.size ≤ w3.heap.size + 1 := Nat.le_of_eq hsl
    have hsl2 : w3.heap.size + 1 ≤ W.heap.size := Nat.le_of_eq hsl.symm
    clear hsl
    go_wp2_with fail
    rw [HW.out]
    refine (pick w0 g (p2 + 1) 3 bs _ S4.out.2.2.2.1 (by omega) (by omega)).mono ?_
    rintro e w4 ⟨x, rfl, hx0, hx1, hr4, hg4⟩
    have hz4 : W.heap.size ≤ w4.heap.size := hg4.size
    have bk4 : Blk w4 w3.heap.size #[.int .i64 1013, .int .i64 (1101 + (zss.length : Int)), .int .i64 1000] 3 := by
      have := S4.out.2.2.2.2.2
      unfold Blk at this ⊢
      rw [hg4.block w3.heap.size (by omega) (by omega)]; exact this
    have c0 := bk4.cell 0
    have c1 := bk4.cell 1
    have c2 := bk4.cell 2
    simp only [List.getElem?_toArray, List.getElem?_cons_zero, List.getElem?_cons_succ] at c0 c1 c2
    have S5 := Lib.hid (And.intro (S4.out.1.apart hg4 (by omega)) (And.intro (S4.out.2.1.apart hg4 (by omega)) (And.intro S4.out.2.2.1 (And.intro hr4 (S4.out.2.2.2.2.1.trans hg4))))); clear hr4 hg4 S4 bk4
    have hcases : x = 0 ∨ x = 1 ∨ x = 2 := by omega
    clear hx0 hx1
    rcases hcases with rfl | rfl | rfl
    · clear c1 c2
      go_wp2_with (at_builtin; refine wpList_append_z rfl _ _ _ rfl Try.underlying23 intInfo 1013 rfl (wf_near _ (by omega)) w1.heap.size w2.heap.size _ zs rfl S5.out.2.1 (by omega) rfl (by omega) ?_)
      intro v5 w5 ho5 hb5 _
      have hz5 : w1.heap.size ≤ w5.heap.size := by have := hb5.size; omega
      have T := Lib.hid (And.intro (S5.out.1.belowB hb5 (Nat.le_refl _)) (And.intro ho5 (And.intro (S5.out.2.2.2.1.below hb5 (by omega)) (S5.out.2.2.2.2.then_below hb5 (by omega))))); clear ho5 hb5
      go_wp2
      go_ret2
      exact ⟨_, zss, v5, zs ++ [1013], w1.heap.size, p2 + 1 + 1, rfl, T.out.1, ⟨hl7, S5.out.2.2.1⟩, T.out.2.1, by rw [List.length_append]; simp; omega, hz1, hz5, T.out.2.2.1, by omega, T.out.2.2.2⟩
    · clear c0 c2
      go_wp2_with (at_builtin; refine wpList_append_z rfl _ _ _ rfl Try.underlying23 intInfo (1101 + (zss.length : Int)) rfl (wf_near _ (by omega)) w1.heap.size w2.heap.size _ zs rfl S5.out.2.1 (by omega) rfl (by omega) ?_)
      intro v5 w5 ho5 hb5 _
      have hz5 : w1.heap.size ≤ w5.heap.size := by have := hb5.size; omega
      have T := Lib.hid (And.intro (S5.out.1.belowB hb5 (Nat.le_refl _)) (And.intro ho5 (And.intro (S5.out.2.2.2.1.below hb5 (by omega)) (S5.out.2.2.2.2.then_below hb5 (by omega))))); clear ho5 hb5
      go_wp2
      go_ret2
      exact ⟨_, zss, v5, zs ++ [(1101 + (zss.length : Int))], w1.heap.size, p2 + 1 + 1, rfl, T.out.1, ⟨hl7, S5.out.2.2.1⟩, T.out.2.1, by rw [List.length_append]; simp; omega, hz1, hz5, T.out.2.2.1, by omega, T.out.2.2.2⟩
    · clear c0 c1
      go_wp2_with (at_builtin; refine wpList_append_z rfl _ _ _ rfl Try.underlying23 intInfo 1000 rfl (wf_near _ (by omega)) w1.heap.size w2.heap.size _ zs rfl S5.out.2.1 (by omega) rfl (by omega) ?_)
      intro v5 w5 ho5 hb5 _
      have hz5 : w1.heap.size ≤ w5.heap.size := by have := hb5.size; omega
      have T := Lib.hid (And.intro (S5.out.1.belowB hb5 (Nat.le_refl _)) (And.intro ho5 (And.intro (S5.out.2.2.2.1.below hb5 (by omega)) (S5.out.2.2.2.2.then_below hb5 (by omega))))); clear ho5 hb5
      go_wp2
      go_ret2
      exact ⟨_, zss, v5, zs ++ [1000], w1.heap.size, p2 + 1 + 1, rfl, T.out.1, ⟨hl7, S5.out.2.2.1⟩, T.out.2.1, by rw [List.length_append]; simp; omega, hz1, hz5, T.out.2.2.1, by omega, T.out.2.2.2⟩
def DrawnDU (w : World) (e : Ending) (w' : World) : Prop :=
  ∃ u zss v zs m, e = .returned (.tuple #[u, v]) ∧ OwnS w' w.heap.size m u zss ∧ (zss.length ≤ 7 ∧ ∀ zs ∈ zss, zs.length ≤ 200) ∧ OwnI w' m w'.heap.size v zs ∧ zs.length ≤ 21 ∧ w.heap.size ≤ m ∧ m ≤ w'.heap.size ∧ Below w.heap.size w w'
theorem DrawGiveName_any (v : Value) (zs : List Int) (w : World) (h : RdC w v zs) : Calls Try.prog 39 #[v] w (DrawnDU w) := by
  have H := Lib.hid h; clear h
  go_enter Try.func39, Try.ntmps39
  go_wp2_with fail
  refine (l20Open_any v zs _ H.out).mono ?_
  rintro e w1 ⟨g, bs, rfl, hr, hg, hb⟩
  have X := Lib.hid (And.intro hr hb); clear hr hb
  have hs := X.out.2.size
  go_wp2_with fail
  refine (uses_any w1 g 0 bs _ (RS.refl X.out.1) (by omega)).mono ?_
  rintro e w2 ⟨u, zss, q, ys, m, p2, rfl, ho, hl, hq, hy, hm1, hm2, hr2, hp2, hg2⟩
  have Y := Lib.hid (And.intro (ho.mono hs) (And.intro hl (And.intro hq (below_of_within X.out.2 hg hg2)))); clear ho hl hq hr2 hg2
  go_wp2_with fail
  go_ret2
  exact ⟨u, zss, q, ys, m, rfl, Y.out.1, Y.out.2.1, Y.out.2.2.1, hy, by omega, hm2, Y.out.2.2.2⟩
theorem DrawPutBack_any (v : Value) (zs : List Int) (w : World) (h : RdC w v zs) : Calls Try.prog 46 #[v] w (DrawnDU w) := by
  have H := Lib.hid h; clear h
  go_enter Try.func46, Try.ntmps46
  go_wp2_with fail
  refine (l20Open_any v zs _ H.out).mono ?_
  rintro e w1 ⟨g, bs, rfl, hr, hg, hb⟩
  have X := Lib.hid (And.intro hr hb); clear hr hb
  have hs := X.out.2.size
  go_wp2_with fail
  refine (uses_any w1 g 0 bs _ (RS.refl X.out.1) (by omega)).mono ?_
  rintro e w2 ⟨u, zss, q, ys, m, p2, rfl, ho, hl, hq, hy, hm1, hm2, hr2, hp2, hg2⟩
  have Y := Lib.hid (And.intro (ho.mono hs) (And.intro hl (And.intro hq (below_of_within X.out.2 hg hg2)))); clear ho hl hq hr2 hg2
  go_wp2_with fail
  go_ret2
  exact ⟨u, zss, q, ys, m, rfl, Y.out.1, Y.out.2.1, Y.out.2.2.1, hy, by omega, hm2, Y.out.2.2.2⟩
end Go.Proofs.Ytaehaalaeikloaa
