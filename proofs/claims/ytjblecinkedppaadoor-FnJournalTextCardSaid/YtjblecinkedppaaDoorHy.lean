/- The draws of a bench, of a deed, of a deed's text. -/
import Derived.Test.YtjblecinkedppaaDoorHx
import Derived.Test.YtjblecinkedppaaDoorBx
import Derived.Test.YtjblecinkedppaaDoorBm
import Derived.Test.YtjblecinkedppaaDoorI
namespace Go.Proofs.YtjblecinkedppaaDoor
set_option maxRecDepth 100000
open Go.RowKit Go.WideShapes

def DrawnBV (w : World) (e : Ending) (w' : World) : Prop := ∃ (vn vp : Value) (n : List Int) (ps : List (List UInt8)), e = .returned (.agg #[vn, vp]) ∧ RdI w' vn n ∧ RdT w' vp ps ∧ n.length ≤ 61 ∧ ps.length ≤ 21 ∧ (∀ t ∈ ps, t.length ≤ 400) ∧ Below w.heap.size w w'
theorem setTwo {w X : World} {h : Nat} (hb : Below h w X) (a b : Value) : Below h w ((X.setCell ⟨h, 0, none⟩ a).setCell ⟨h, 1, none⟩ b) := (hb.setCell (p := ⟨h, 0, none⟩) (Nat.le_refl _) _).setCell (p := ⟨h, 1, none⟩) (Nat.le_refl _) _
theorem DrawBenchValid_any (v : Value) (zs : List Int) (w : World) (h : RdC w v zs) : Calls Tryd.prog 7 #[v] w (DrawnBV w) := by
  obtain ⟨W, hW⟩ : ∃ W, w.alloc (.cells #[.slice none 0 0, .slice none 0 0] 26) = W := ⟨_, rfl⟩
  have hbW : Below w.heap.size w W := by rw [← hW]; exact (Below.refl _ _).alloc (Nat.le_refl _) _
  have hz : W.heap.size = w.heap.size + 1 := by rw [← hW]; simp
  have kR : Blk W w.heap.size #[.slice none 0 0, .slice none 0 0] 26 := by rw [← hW]; exact Blk.new w _ _
  have H := Lib.hid (And.intro ((RdBC.below h hbW).rd hbW.size) (And.intro hbW kR)); clear h hbW kR
  go_enter Tryd.func7, Tryd.ntmps7
  go_wp2_with fail
  try rw [hW]
  refine (l20Open_any v zs W H.out.1).mono ?_
  rintro e w1 ⟨g, bs, rfl, hr, hg, hb⟩
  have hgl := hr.lt
  have hz1 := hb.size
  have X := Lib.hid (And.intro hr hb); clear hr hb
  go_wp2_with fail
  refine (bench 2 w1 g 0 bs w1 (by omega) (RS.refl X.out.1) (by omega)).mono ?_
  rintro e w2 ⟨vn, vp, n, ps, p', rfl, hn, hp, hl1, hl2, hl3, _, _, hw⟩
  have hz2 := hw.size
  have hbb := below_of_within X.out.2 hg hw
  obtain ⟨A, c, rfl, _⟩ := hn.ints
  obtain ⟨B, d, rfl, _⟩ := hp.rd
  have Y := Lib.hid (And.intro (H.out.2.2.below hbb (by omega)) (And.intro (H.out.2.1.trans (hbb.mono (by omega))) (And.intro hn (And.intro hp hl3)))); clear hbb hn hp hl3 hw X H
  obtain ⟨r0, r1, _, _⟩ := blkPair9 Y.out.1
  go_wp2
  obtain ⟨q0, q1, _, _⟩ := blkPair9 ((Y.out.1.set 0 (.slice A n.length c)).set 1 (.slice B ps.length d))
  refine bodyPost_ret (v := .agg #[.slice A n.length c, .slice B ps.length d]) (by simp [results, Tryd.results7, go_sem, q0, q1]) rfl ?_
  exact ⟨_, _, n, ps, rfl, ((Y.out.2.2.1.far9 (by omega) 0 _).far9 (by omega) 1 _).ints, ((Y.out.2.2.2.1.far9 (by omega) 0 _).far9 (by omega) 1 _).rd, hl1, hl2, Y.out.2.2.2.2, setTwo Y.out.2.1 _ _⟩

def DrawnDT (w : World) (e : Ending) (w' : World) : Prop := ∃ (k : Int) (S : ByteArray), e = .returned (.agg #[.int .i64 k, .string S]) ∧ 0 ≤ k ∧ k ≤ 5 ∧ S.size ≤ 402 ∧ Below w.heap.size w w'
theorem DrawDeedText_any (v : Value) (zs : List Int) (w : World) (h : RdC w v zs) : Calls Tryd.prog 11 #[v] w (DrawnDT w) := by
  obtain ⟨W, hW⟩ : ∃ W, w.alloc (.cells #[.int .i64 0, .string ⟨#[]⟩] 32) = W := ⟨_, rfl⟩
  have hbW : Below w.heap.size w W := by rw [← hW]; exact (Below.refl _ _).alloc (Nat.le_refl _) _
  have hz : W.heap.size = w.heap.size + 1 := by rw [← hW]; simp
  have kR : Blk W w.heap.size #[.int .i64 0, .string ⟨#[]⟩] 32 := by rw [← hW]; exact Blk.new w _ _
  have H := Lib.hid (And.intro ((RdBC.below h hbW).rd hbW.size) (And.intro hbW kR)); clear h hbW kR
  go_enter Tryd.func11, Tryd.ntmps11
  go_wp2_with fail
  try rw [hW]
  refine (l20Open_any v zs W H.out.1).mono ?_
  rintro e w1 ⟨g, bs, rfl, hr, hg, hb⟩
  have hgl := hr.lt
  have hz1 := hb.size
  have X := Lib.hid (And.intro hr hb); clear hr hb
  go_wp2_with fail
  refine (bench 0 w1 g 0 bs w1 (by omega) (RS.refl X.out.1) (by omega)).mono ?_
  rintro e w2 ⟨vn, vp, n, ps, p', rfl, hn, hp, hl1, hl2, hl3, hr2, hp2, hw⟩
  have hz2 := hw.size
  have Y := Lib.hid (And.intro hr2 (And.intro hw hn.within)); clear hr2 hw hn hp hl3
  go_wp2_with fail
  refine (deed w1 g p' bs vn vp n w2 Y.out.1 (by omega) w1.heap.size w2.heap.size Y.out.2.2 hgl (Nat.le_refl _) (by omega)).mono ?_
  rintro e w3 ⟨k, S, p3, rfl, hk0, hk1, hS, _, _, hw3⟩
  have hz3 := hw3.size
  have hbb := below_of_within X.out.2 hg (Y.out.2.1.trans hw3)
  have Z := Lib.hid (And.intro (H.out.2.2.below hbb (by omega)) (H.out.2.1.trans (hbb.mono (by omega)))); clear hbb hw3 Y X H
  obtain ⟨r0, r1, _, _⟩ := blkQ Z.out.1
  go_wp2
  obtain ⟨q0, q1, _, _⟩ := blkQ ((Z.out.1.set 0 (.int .i64 k)).set 1 (.string S))
  refine bodyPost_ret (v := .agg #[.int .i64 k, .string S]) (by simp [results, Tryd.results11, go_sem, q0, q1]) rfl ?_
  exact ⟨k, S, rfl, hk0, hk1, hS, setTwo Z.out.2 _ _⟩

def lits6d : List (List UInt8) := [[], [48], [32], [10], [93], [98, 97, 99, 107]]
theorem lits6d_len : ∀ t ∈ lits6d, t.length ≤ 4 := by decide
def SpPost (w : World) (g L : Nat) (e : Ending) (w' : World) : Prop := ∃ (T : ByteArray), e = .returned (.string T) ∧ T.size ≤ L ∧ Within g (g + 1) w w'
set_option maxHeartbeats 2000000 in
theorem spoil (S : ByteArray) (w0 : World) (g p : Nat) (bs : List Int) (w : World) (hS : S.size ≤ 40000) (h : RS w0 w g bs p) (hp : p ≤ 500000000000) :
    Calls Tryd.prog 34 #[.pointer (some ⟨g, 0, none⟩), .string S] w (SpPost w g (S.size + 5)) := by
  have hgw := h.rdr.lt
  have hs0 : w0.heap.size ≤ w.heap.size := h.size
  have X4 := Lib.hid h; clear h
  by_cases h0 : S.size = 0
  · have h0I : ((S.size : Int) == 0) = true := by rw [h0]; rfl
    have h0e : (S.size : Int) = 0 := by omega
    go_enter Tryd.func34, Tryd.ntmps34
    go_wp2
    go_ret
    have h1z : (⟨#[10]⟩ : ByteArray).size = 1 := rfl
    exact ⟨⟨#[10]⟩, rfl, by omega, Within.of_below (Below.refl _ _)⟩
  have hSI : (1 : Int) ≤ S.size ∧ (S.size : Int) ≤ 1000000 := by omega
  have h0I : ((S.size : Int) == 0) = false := beq_eq_false_iff_ne.2 (by omega)
  go_enter Tryd.func34, Tryd.ntmps34
  go_wp2_with fail
  refine (pick w0 g p S.size bs _ X4.out hSI (by omega)).mono ?_
  rintro e w5 ⟨k, rfl, hk0, hk1, hr, hw⟩
  have hs5 := hw.size
  have X5 := Lib.hid (And.intro hr hw); clear hr hw X4 hSI
  obtain ⟨k, rfl⟩ := Int.eq_ofNat_of_zero_le hk0
  obtain ⟨A, B, hA, hB, hsl1, hsl2⟩ := spoil_parts S k (by omega) (by omega)
  have hw1 : IntKind.i64.wrap ((k : Int) + 1) = (k : Int) + 1 := IntWalk.i64_in _ (by omega)
  clear hk0 hk1
  have RA := Lib.hid (X5.out.1.below (((Below.refl w5.heap.size w5).alloc (Nat.le_refl _) (.cells #[.string ⟨#[]⟩, .string ⟨#[48]⟩, .string ⟨#[32]⟩, .string ⟨#[10]⟩, .string ⟨#[93]⟩, .string ⟨#[98, 97, 99, 107]⟩] 9)).drew) (by omega))
  have RD := Lib.hid (X5.out.1.below ((Below.refl w5.heap.size w5).drew) (by omega))
  have BW := Lib.hid X5.out.2
  have hg5 := X5.out.1.rdr.lt
  have SN := Lib.hid (fun j hj => spoil_new lits6d 9 (j := j) hj lits6d_len)
  have SA := Lib.hid (fun w6 j hw hj => spoil_after (ss := lits6d) (T := 9) (w5 := w5) (w6 := w6) (g := g) (j := j) hw hg5 hj lits6d_len)
  clear X5
  go_wp2
  go_region_with (first
    | (go_at_call 33; refine (pick w0 g (p + 1) 6 bs _ RA.out (by omega) (by omega)).mono ?_; rintro e w6 ⟨y, rfl, hy0, hy1, _, hw⟩
       obtain ⟨j, rfl⟩ := Int.eq_ofNat_of_zero_le hy0
       obtain ⟨t, htl, hc⟩ := SA.out w6 j hw (show j < 6 by omega)
       obtain ⟨C, D, hD, ha1, ha2⟩ := add_three A B t (by omega)
       have HD : D.size ≤ S.size + 5 := by omega
       have HB := Lib.hid (BW.out.trans ((Within.of_below (((Below.refl w5.heap.size w5).alloc (Nat.le_refl _) _).drew)).trans hw))
       clear hw hD)
    | (go_at_call 33; refine (pick w0 g (p + 1) 6 bs _ RD.out (by omega) (by omega)).mono ?_; rintro e w6 ⟨y, rfl, hy0, hy1, _, hw⟩
       obtain ⟨j, rfl⟩ := Int.eq_ofNat_of_zero_le hy0
       obtain ⟨t, htl, hc⟩ := SN.out j (show j < 6 by omega)
       replace hc : ∀ W : World, (W.alloc (.cells #[.string ⟨#[]⟩, .string ⟨#[48]⟩, .string ⟨#[32]⟩, .string ⟨#[10]⟩, .string ⟨#[93]⟩, .string ⟨#[98, 97, 99, 107]⟩] 9)).cell? ⟨W.heap.size, j, none⟩ = some (.string ⟨t.toArray⟩) := hc
       obtain ⟨C, D, hD, ha1, ha2⟩ := add_three A B t (by omega)
       have HD : D.size ≤ S.size + 5 := by omega
       have HB := Lib.hid (BW.out.trans ((Within.of_below ((Below.refl w5.heap.size w5).drew)).trans hw))
       clear hw hD)
    | fail)
  all_goals go_wp2
  all_goals go_ret
  all_goals refine ⟨D, rfl, HD, ?_⟩
  all_goals first
    | exact HB.out
    | exact HB.out.trans (Within.of_below ((Below.refl _ _).alloc (Nat.le_refl _) _))

def DrawnRDd (w : World) (e : Ending) (w' : World) : Prop := ∃ (S : ByteArray), e = .returned (.string S) ∧ S.size ≤ 500 ∧ Below w.heap.size w w'
theorem DrawReadDeed_any (v : Value) (zs : List Int) (w : World) (h : RdC w v zs) : Calls Tryd.prog 15 #[v] w (DrawnRDd w) := by
  have H := Lib.hid h; clear h
  go_enter Tryd.func15, Tryd.ntmps15
  go_wp2_with fail
  refine (l20Open_any v zs w H.out).mono ?_
  rintro e w1 ⟨g, bs, rfl, hr, hg, hb⟩
  have hgl := hr.lt
  have hz1 := hb.size
  have X := Lib.hid (And.intro hr hb); clear hr hb
  go_wp2_with fail
  refine (bench 0 w1 g 0 bs w1 (by omega) (RS.refl X.out.1) (by omega)).mono ?_
  rintro e w2 ⟨vn, vp, n, ps, p', rfl, hn, hp, hl1, hl2, hl3, hr2, hp2, hw⟩
  have hz2 := hw.size
  have Y := Lib.hid (And.intro hr2 (And.intro hw hn.within)); clear hr2 hw hn hp hl3
  go_wp2_with fail
  refine (deed w1 g p' bs vn vp n w2 Y.out.1 (by omega) w1.heap.size w2.heap.size Y.out.2.2 hgl (Nat.le_refl _) (by omega)).mono ?_
  rintro e w3 ⟨k, S, p3, rfl, hk0, hk1, hS, hr3, hp3, hw3⟩
  have hz3 := hw3.size
  have Z := Lib.hid (And.intro hr3 (Y.out.2.1.trans hw3)); clear hr3 hw3 Y
  go_wp2_with fail
  refine (DeedText_S k S w3 (by omega)).mono ?_
  rintro e w4 ⟨rfl, hb4⟩
  have hz4 := hb4.size
  have hdl := deedT_len k (bytesOf S)
  obtain ⟨T, hT⟩ : ∃ T : ByteArray, (⟨(deedT k (bytesOf S)).toArray⟩ : ByteArray) = T := ⟨_, rfl⟩
  have hTl : T.size ≤ 403 := by rw [← hT]; simpa [ByteArray.size] using hdl
  have U := Lib.hid (And.intro (Z.out.1.below hb4 (by omega)) (Z.out.2.trans (Within.of_below hb4))); clear hb4 Z
  go_wp2_with fail
  try rw [hT]
  refine (pick w1 g p3 3 bs w4 U.out.1 (by omega) (by omega)).mono ?_
  rintro e w5 ⟨x, rfl, hx0, hx1, hr5, hg5⟩
  have V := Lib.hid (And.intro hr5 (U.out.2.trans hg5)); clear hr5 hg5 U
  by_cases hx : x = 0
  · subst hx
    go_wp2_with fail
    try rw [hT]
    refine (spoil T w1 g (p3 + 1) bs w5 (by omega) V.out.1 (by omega)).mono ?_
    rintro e w6 ⟨T2, rfl, hT2, hw6⟩
    have Q := Lib.hid (below_of_within X.out.2 hg (V.out.2.trans hw6)); clear hw6 V
    go_wp2
    go_ret
    exact ⟨T2, rfl, by omega, Q.out⟩
  · have hxb : (x == 0) = false := by simpa using hx
    have Q := Lib.hid (below_of_within X.out.2 hg V.out.2); clear V
    go_wp2
    try rw [hT]
    go_ret
    exact ⟨T, rfl, by omega, Q.out⟩
end Go.Proofs.YtjblecinkedppaaDoor
