/- The draws of moves: l20Moved, DrawProofRun, DrawProofOk. -/
import Derived.Test.YtkdpfiaegimnlaaDoorKm
namespace Go.Proofs.YtkdpfiaegimnlaaDoor
set_option maxRecDepth 100000
open Go.RowKit Go.WideShapes Go.Deep

theorem OwnP.cap {T : TypeId} {w : World} {lo hi n c : Nat} {A : Option Addr} {ms : List (Int × Int)} (h : OwnP T w lo hi (.slice A n c) ms) : ms.length ≤ c := by
  rcases h.own.2 with ⟨e, h0⟩ | ⟨g, cap, cur, e, hb, hh, h1, _⟩
  · omega
  · cases e; exact h1
def MovedPost (w0 : World) (g p : Nat) (bs : List Int) (w : World) (e : Ending) (w' : World) : Prop := ∃ v zp A c ms p' m, e = .returned (.tuple #[v, .slice A ms.length c]) ∧ OwnI w' w.heap.size m v zp ∧ zp.length ≤ 61 ∧ w.heap.size ≤ m ∧ m ≤ w'.heap.size ∧ OwnM w' m w'.heap.size (.slice A ms.length c) ms ∧ ms.length ≤ 101 ∧ RS w0 w' g bs p' ∧ p' ≤ p + 15000 ∧ Within g (g + 1) w w'
set_option maxHeartbeats 8000000 in
theorem moved (w0 : World) (g p : Nat) (bs : List Int) (w : World) (h : RS w0 w g bs p) (hp : p ≤ 200000000000) :
    Calls Tryd.prog 20 #[.pointer (some ⟨g, 0, none⟩)] w (MovedPost w0 g p bs w) := by
  have hgw := h.rdr.lt
  have hs0 : w0.heap.size ≤ w.heap.size := h.size
  have H := Lib.hid h; clear h
  go_enter Tryd.func20, Tryd.ntmps20
  go_wp2_with fail
  refine (known w0 g p bs _ H.out (by omega)).mono ?_
  rintro e w1 ⟨v, zp, p1, rfl, ho, hl, hr, hpp, hg1⟩
  have hz1 := hg1.size
  obtain ⟨Av, cv, rfl, _⟩ := ho.rd
  have hb0 : Below w1.heap.size w1 (w1.alloc (.cells #[] 62)) := (Below.refl _ _).alloc (Nat.le_refl _) _
  have S1 := Lib.hid (And.intro (hr.below hb0 (by omega)) (And.intro (hg1.then_below hb0 hz1) (And.intro (ho.below hb0) (OwnP.empty 62 w1)))); clear hr hg1 ho hb0
  go_wp2_with fail
  refine (pick w0 g p1 6 bs _ S1.out.1 (by omega) (by omega)).mono ?_
  rintro e w2 ⟨x, rfl, hx0, hx1, hr, hg2⟩
  have hz2 : w1.heap.size + 1 ≤ w2.heap.size := by have := hg2.size; simpa using this
  obtain ⟨kx, rfl⟩ := Int.eq_ofNat_of_zero_le hx0
  have S2 := Lib.hid (And.intro hr (And.intro (S1.out.2.1.trans hg2) (And.intro (S1.out.2.2.1.apart hg2 (by omega)) (S1.out.2.2.2.apart hg2 (by omega))))); clear hr hg2 S1
  go_wp2
  go_loopw [5, 6, 7] (fun u n i wr => ∃ (k p' : Nat) (ms : List (Int × Int)) (zn : List Int), k ≤ 5 ∧ i = .int .i64 k ∧ w1.heap.size + 1 ≤ wr.heap.size ∧ RS w0 wr g bs p' ∧ p' + 42 * k ≤ p1 + 1 + 210 ∧ Within g (g + 1) w wr ∧ OwnI wr w.heap.size w1.heap.size (.slice Av zp.length cv) zp ∧ OwnM wr w1.heap.size wr.heap.size u ms ∧ ms.length + k ≤ 5 ∧ RdG (g + 1) wr n zn ∧ zn.length ≤ 61) (fun _ _ i _ => (intOf i).toNat)
  case atStart => exact ⟨kx, p1 + 1, [], zp, by omega, rfl, hz2, S2.out.1, by omega, S2.out.2.1, S2.out.2.2.1, OwnP.mono S2.out.2.2.2 (Nat.le_refl _) (by omega), by simp; omega, S2.out.2.2.1.rdG.weak (by omega), hl⟩
  case round =>
    clear S2
    obtain ⟨k, p', ms, zn, hk, rfl, hsz, q1, hpk, q2, q3, q4, hmk, q5, hzn⟩ := hrel
    have X := Lib.hid (And.intro q1 (And.intro q2 (And.intro q3 (And.intro q4 q5)))); clear q1 q2 q3 q4 q5
    rcases k with _ | k
    · have hI : ¬ (0 : Int) < ((0 : Nat) : Int) := by omega
      go_wp2_with fail
      refine (odd w0 g p' 9 bs _ X.out.1 (by omega) (by omega)).mono ?_
      rintro e w3 ⟨b, rfl, hr, hg3⟩
      have hz3 := hg3.size
      have Y := Lib.hid (And.intro hr (And.intro (X.out.2.1.trans hg3) (And.intro (X.out.2.2.1.apart hg3 (by omega)) (X.out.2.2.2.1.apart hg3 (by omega))))); clear hr hg3 X
      rcases b with _ | _
      · skip
        go_wp2_with fail
        refine (odd w0 g ((p' + 1)) 60 bs _ Y.out.1 (by omega) (by omega)).mono ?_
        rintro e w6 ⟨b2, rfl, hr, hg6⟩
        have hz6 := hg6.size
        have F := Lib.hid (And.intro hr (And.intro (Y.out.2.1.trans hg6) (And.intro (Y.out.2.2.1.apart hg6 (by omega)) (Y.out.2.2.2.apart hg6 (by omega))))); clear hr hg6
        rcases b2 with _ | _
        · obtain ⟨Au, cu, rfl, _⟩ := F.out.2.2.2.rd
          go_wp2
          go_ret2
          exact ⟨_, zp, Au, cu, ms, p' + 1 + 1, w1.heap.size, rfl, F.out.2.2.1, hl, hz1, by omega, OwnP.mono F.out.2.2.2 (Nat.le_refl _) (by omega), by omega, F.out.1, by omega, F.out.2.1⟩
        · obtain ⟨i0, hi0, hj0, hj1, hj2⟩ := info_parts moveInfo
          go_wp2_with (at_make; refine wpList_make_full _ rfl _ _ _ rfl w6.heap.size 62 i0 (.agg #[.int .i64 0, .int .i64 0]) 2 Tryd.underlying24 hi0 hj0 hj1 _ _ _ _ 101 rfl rfl rfl rfl ?c1 ?c2 ?c3 ?_)
          case c1 => rw [hj2]; omega
          case c2 => unfold maxLen; omega
          case c3 => simp
          intro w7 hown1 hgr1
          have hz101 := zeros_flatP 101
          rw [show 101 * 2 = 202 from rfl] at hz101
          rw [hz101] at hown1
          have hb7 : Below w6.heap.size w6 w7 := below_of_only hgr1 (Nat.le_refl _) (by simp)
          have hz7 := hb7.size
          have hl7 : (List.replicate 101 ((0 : Int), (0 : Int))).length = 101 := List.length_replicate
          have ho7 : OwnM w7 w6.heap.size w7.heap.size (.slice (some ⟨w6.heap.size, 0, none⟩) 101 101) (List.replicate 101 ((0 : Int), (0 : Int))) := ⟨by rw [hl7]; exact hown1, fun g' e => (hown1.lt g' e).2⟩
          have G := Lib.hid (And.intro (F.out.1.below hb7 (by omega)) (And.intro (F.out.2.1.then_below hb7 (by omega)) (And.intro (F.out.2.2.1.belowB hb7 (by omega)) (OwnP.mono ho7 (show w1.heap.size ≤ w6.heap.size by omega) (Nat.le_refl _))))); clear hb7 hown1 hgr1 ho7 F
          go_wp2
          go_ret2
          exact ⟨.slice Av zp.length cv, zp, some ⟨w6.heap.size, 0, none⟩, 101, List.replicate 101 ((0 : Int), (0 : Int)), p' + 1 + 1, w1.heap.size, by rw [hl7]; rfl, G.out.2.2.1, hl, hz1, by omega, by rw [hl7]; exact G.out.2.2.2, by rw [hl7]; omega, G.out.1, by omega, G.out.2.1⟩
      · go_wp2_with fail
        refine (pick w0 g (p' + 1) 9 bs _ Y.out.1 (by omega) (by omega)).mono ?_
        rintro e w4 ⟨y, rfl, hy0, hy1, hr, hg4⟩
        have hz4 := hg4.size
        have Z := Lib.hid (And.intro hr (And.intro (Y.out.2.1.trans hg4) (And.intro (Y.out.2.2.1.apart hg4 (by omega)) (Y.out.2.2.2.apart hg4 (by omega))))); clear hr hg4 Y
        go_wp2_with fail
        refine (pick w0 g (p' + 1 + 1) 5 bs _ Z.out.1 (by omega) (by omega)).mono ?_
        rintro e w5 ⟨t, rfl, ht0, ht1, hr, hg5⟩
        have hz5 := hg5.size
        have hrz := hr.size
        have hbl : Below w5.heap.size w5 (w5.alloc (.cells #[.int .i64 y, .int .i64 t] 62)) := (Below.refl _ _).alloc (Nat.le_refl _) _
        obtain ⟨l0, l1, _, _⟩ := (Blk.new w5 #[.int .i64 y, .int .i64 t] 62).two
        have L := Lib.hid (And.intro ((Z.out.2.2.2.apart hg5 (by omega)).below hbl) (And.intro l0 (And.intro l1 (And.intro (hr.below hbl hrz) (And.intro ((Z.out.2.1.trans hg5).then_below hbl (by omega)) ((Z.out.2.2.1.apart hg5 (by omega)).below hbl))))))
        clear hbl l0 l1 hr hg5 Z
        go_wp2_with (at_builtin; go_loud (refine wpList_append_P rfl _ _ _ rfl 62 Tryd.underlying24 moveInfo w1.heap.size _ _ ms rfl L.out.1 (by simp; omega) w5.heap.size y t rfl L.out.2.1 L.out.2.2.1 (by omega) ?_))
        intro um w5b hom hb5 hg5 _
        have hz5b : w5.heap.size + 1 ≤ w5b.heap.size := by have := hg5.size; simpa using this
        obtain ⟨m2, hm2, hm2l⟩ : ∃ m2, ms ++ [(y, t)] = m2 ∧ m2.length ≤ 6 := ⟨_, rfl, by simp; omega⟩
        rw [hm2] at hom
        have W5 := Lib.hid (And.intro (L.out.2.2.2.1.below hb5 (by omega)) (And.intro (L.out.2.2.2.2.1.then_below hb5 (by omega)) (And.intro (L.out.2.2.2.2.2.belowB hb5 (Nat.le_refl _)) hom))); clear hom hb5 hg5 hm2 L
        go_wp2_with fail
        refine (odd w0 g ((p' + 1 + 1 + 1)) 60 bs _ W5.out.1 (by omega) (by omega)).mono ?_
        rintro e w6 ⟨b2, rfl, hr, hg6⟩
        have hz6 := hg6.size
        have F := Lib.hid (And.intro hr (And.intro (W5.out.2.1.trans hg6) (And.intro (W5.out.2.2.1.apart hg6 (by omega)) (W5.out.2.2.2.apart hg6 (by omega))))); clear hr hg6
        rcases b2 with _ | _
        · obtain ⟨Au, cu, rfl, _⟩ := F.out.2.2.2.rd
          go_wp2
          go_ret2
          exact ⟨_, zp, Au, cu, m2, p' + 1 + 1 + 1 + 1, w1.heap.size, rfl, F.out.2.2.1, hl, hz1, by omega, OwnP.mono F.out.2.2.2 (Nat.le_refl _) (by omega), by omega, F.out.1, by omega, F.out.2.1⟩
        · obtain ⟨i0, hi0, hj0, hj1, hj2⟩ := info_parts moveInfo
          go_wp2_with (at_make; refine wpList_make_full _ rfl _ _ _ rfl w6.heap.size 62 i0 (.agg #[.int .i64 0, .int .i64 0]) 2 Tryd.underlying24 hi0 hj0 hj1 _ _ _ _ 101 rfl rfl rfl rfl ?c1 ?c2 ?c3 ?_)
          case c1 => rw [hj2]; omega
          case c2 => unfold maxLen; omega
          case c3 => simp
          intro w7 hown1 hgr1
          have hz101 := zeros_flatP 101
          rw [show 101 * 2 = 202 from rfl] at hz101
          rw [hz101] at hown1
          have hb7 : Below w6.heap.size w6 w7 := below_of_only hgr1 (Nat.le_refl _) (by simp)
          have hz7 := hb7.size
          have hl7 : (List.replicate 101 ((0 : Int), (0 : Int))).length = 101 := List.length_replicate
          have ho7 : OwnM w7 w6.heap.size w7.heap.size (.slice (some ⟨w6.heap.size, 0, none⟩) 101 101) (List.replicate 101 ((0 : Int), (0 : Int))) := ⟨by rw [hl7]; exact hown1, fun g' e => (hown1.lt g' e).2⟩
          have G := Lib.hid (And.intro (F.out.1.below hb7 (by omega)) (And.intro (F.out.2.1.then_below hb7 (by omega)) (And.intro (F.out.2.2.1.belowB hb7 (by omega)) (OwnP.mono ho7 (show w1.heap.size ≤ w6.heap.size by omega) (Nat.le_refl _))))); clear hb7 hown1 hgr1 ho7 F
          go_wp2
          go_ret2
          exact ⟨.slice Av zp.length cv, zp, some ⟨w6.heap.size, 0, none⟩, 101, List.replicate 101 ((0 : Int), (0 : Int)), p' + 1 + 1 + 1 + 1, w1.heap.size, by rw [hl7]; rfl, G.out.2.2.1, hl, hz1, by omega, by rw [hl7]; exact G.out.2.2.2, by rw [hl7]; omega, G.out.1, by omega, G.out.2.1⟩
    · have hI : (0 : Int) < ((k + 1 : Nat) : Int) := by omega
      have m1 : ((k + 1 : Nat) : Int) - 1 = (k : Int) := by omega
      obtain ⟨An, nn, cn, rfl⟩ := rd_form X.out.2.2.2.2.1
      go_wp2_with fail
      refine (can w0 g p' (g + 1) bs _ zn _ X.out.1 (by omega) (Nat.le_refl _) X.out.2.2.2.2 hzn).mono ?_
      rintro e w3 ⟨z1, z2, p3, rfl, hr, hp3, hg3⟩
      have hz3 := hg3.size
      have hba : Below w3.heap.size w3 (w3.alloc (.cells #[.int .i64 z1, .int .i64 z2] 62)) := (Below.refl _ _).alloc (Nat.le_refl _) _
      have hrs := hr.size
      have Y := Lib.hid (And.intro (hr.below hba hrs) (And.intro ((X.out.2.1.trans hg3).then_below hba (by omega)) (And.intro ((X.out.2.2.1.apart hg3 (by omega)).below hba) (And.intro ((X.out.2.2.2.1.apart hg3 (by omega)).below hba) ((X.out.2.2.2.2.within hg3 (Nat.le_refl _)).below hba))))); clear hr hg3 hba X
      have bk := Blk.new w3 #[.int .i64 z1, .int .i64 z2] 62
      rcases hm : moveDoR zn z1 z2 with ⟨q, ok⟩
      have HMD := Lib.hid hm; clear hm
      go_wp2_with fail
      refine (MoveDo_S _ zn z1 z2 _ Y.out.2.2.2.2.1 (by omega) q ok HMD.out).mono ?_
      rintro e w4 ⟨un, rfl, hon, hb4⟩
      have hz4 : w3.heap.size + 1 ≤ w4.heap.size := by have := hb4.size; simpa using this
      obtain ⟨m0, m2, _, _⟩ := (bk.below hb4 (by simp)).two
      have V := Lib.hid (And.intro (Y.out.1.below hb4 (by simp; omega)) (And.intro (Y.out.2.1.then_below hb4 (by simp; omega)) (And.intro (Y.out.2.2.1.below hb4) (And.intro (Y.out.2.2.2.1.below hb4) (And.intro (Y.out.2.2.2.2.below hb4) hon))))); clear hb4 hon bk Y
      rcases ok with _ | _
      · go_wp2
        go_roundw
        case rel => exact ⟨k, p3, ms, zn, by omega, by go_num, by omega, V.out.1, by omega, V.out.2.1, V.out.2.2.1, OwnP.mono V.out.2.2.2.1 (Nat.le_refl _) (by omega), by omega, V.out.2.2.2.2.1, hzn⟩
        case measure => simp [intOf]
      · have hql : q.length ≤ 61 := by have := validB_len (moveDoR_ok HMD.out).2; omega
        have hbl : Below w4.heap.size w4 (w4.alloc (.cells #[.int .i64 z1, .int .i64 z2] 62)) := (Below.refl _ _).alloc (Nat.le_refl _) _
        obtain ⟨l0, l1, _, _⟩ := (Blk.new w4 #[.int .i64 z1, .int .i64 z2] 62).two
        have L := Lib.hid (And.intro (V.out.2.2.2.1.below hbl) (And.intro l0 (And.intro l1 (And.intro (V.out.2.2.2.2.2.below hbl) (And.intro (V.out.1.below hbl (by omega)) (And.intro (V.out.2.1.then_below hbl (by omega)) (V.out.2.2.1.below hbl)))))))
        clear hbl l0 l1
        go_wp2_with (at_builtin; go_loud (refine wpList_append_P rfl _ _ _ rfl 62 Tryd.underlying24 moveInfo w1.heap.size _ _ ms rfl L.out.1 (by simp; omega) w4.heap.size z1 z2 rfl L.out.2.1 L.out.2.2.1 (by omega) ?_))
        intro um w5 hom hb5 hg5 _
        have hz5 : w4.heap.size + 1 ≤ w5.heap.size := by have := hg5.size; simpa using this
        have hne : un.ownBlock = none ∨ un.ownBlock ≠ u5.ownBlock := by
          rcases e : un.ownBlock with _ | g'
          · exact .inl rfl
          · refine .inr fun e2 => ?_
            have h1 := V.out.2.2.2.1.lt g' e2.symm
            have h2 := (L.out.2.2.2.1.own.ge g' e).1
            simp at h2
            omega
        have hun : RdG (g + 1) w5 un q := ⟨(L.out.2.2.2.1.own.only hg5 hne).ints, fun k hk => by have := (L.out.2.2.2.1.own.ge k hk).1; simp at this; omega⟩
        have W5 := Lib.hid (And.intro (L.out.2.2.2.2.1.below hb5 (by omega)) (And.intro (L.out.2.2.2.2.2.1.then_below hb5 (by omega)) (And.intro (L.out.2.2.2.2.2.2.belowB hb5 (Nat.le_refl _)) (And.intro hom hun)))); clear hun hom hb5 hg5 hne L
        go_wp2
        go_roundw
        case rel => exact ⟨k, p3, ms ++ [(z1, z2)], q, by omega, by go_num, by omega, W5.out.1, by omega, W5.out.2.1, W5.out.2.2.1, W5.out.2.2.2.1, by simp; omega, W5.out.2.2.2.2, hql⟩
        case measure => simp [intOf]
def DrawnMv (w : World) (e : Ending) (w' : World) : Prop := ∃ v zp A c ms m, e = .returned (.tuple #[v, .slice A ms.length c]) ∧ OwnI w' w.heap.size m v zp ∧ zp.length ≤ 61 ∧ w.heap.size ≤ m ∧ m ≤ w'.heap.size ∧ OwnM w' m w'.heap.size (.slice A ms.length c) ms ∧ ms.length ≤ 101 ∧ Below w.heap.size w w'
end Go.Proofs.YtkdpfiaegimnlaaDoor
