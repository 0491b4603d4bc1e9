/- The draw of deeds: l20Deeds. Written by deeds9.py. -/
import Derived.Test.YtjblecinkedppaaGreatDoorHy
import Derived.Test.YtjblecinkedppaaGreatDoorBj
namespace Go.Proofs.YtjblecinkedppaaGreatDoor
set_option maxRecDepth 100000
open Go.RowKit Go.WideShapes Go.Deep

theorem OwnD.blk {w : World} {lo hi : Nat} {v : Value} {ds : Deeds} (h : OwnD w lo hi v ds) {k : Nat} (hk : v.ownBlock = some k) : lo ≤ k ∧ k < w.heap.size ∧ ∃ cur, w.heap[k]? = some (.cells cur 28 (0, 0)) := by
  rcases h.own.2 with ⟨rfl, _⟩ | ⟨g, cap, cur, rfl, hb, hh, _⟩
  · simp [Value.ownBlock] at hk
  · have e : g = k := by simpa [Value.ownBlock] using hk
    subst e
    exact ⟨hb, (h.own.lt g rfl).2, cur, hh⟩
theorem OwnD.neB {w : World} {lo hi g : Nat} {v : Value} {ds : Deeds} {cs : Array Value} {T : TypeId} (h : OwnD w lo hi v ds) (hB : Blk w g cs T) (hT : T ≠ 28) : v.ownBlock ≠ some g := by
  intro e
  obtain ⟨_, _, cur, hc⟩ := h.blk e
  exact hT (blk_type hB hc)
theorem BnAt.grownD {w w' : World} {lo g lo2 hi : Nat} {vn vp u : Value} {n : List Int} {ps : List (List UInt8)} {ds : Deeds} (h : BnAt w lo g vn vp n ps) (hg : w.grownBy w' u.ownBlock) (hu : OwnD w lo2 hi u ds) : BnAt w' lo g vn vp n ps := by
  have h1 : vn.ownBlock = none ∨ vn.ownBlock ≠ u.ownBlock := by
    rcases he : vn.ownBlock with _ | k
    · exact .inl rfl
    · refine .inr fun e => ?_
      obtain ⟨_, _, cur, hc⟩ := hu.blk e.symm
      exact ownsRow_ne h.now.own (show Blk w k cur 28 from hc) (by decide) he
  refine ⟨h.ge, (hg.block g h.lt (fun e => hu.neB h.blk (by decide) e.symm)).trans h.blk, h.now.only hg h1, (OwnW.keep h.past fun k hk => hg.block k (OwnW.blk h.past k hk).2.2.1 (fun e => ?_)).mono (Nat.le_refl _) hg.size⟩
  obtain ⟨_, _, _, cur, hc⟩ := OwnW.blk h.past k hk
  exact hu.neB (show Blk w k cur 9 from hc) (by decide) e.symm
theorem OwnD.setB {w : World} {lo hi g : Nat} {v : Value} {ds : Deeds} {cs : Array Value} (h : OwnD w lo hi v ds) (hB : Blk w g cs 26) (k : Nat) (u : Value) : OwnD (w.setCell ⟨g, k, none⟩ u) lo hi v ds := by
  refine ⟨⟨h.own.1, ?_⟩, h.lt⟩
  rcases h.own.2 with h0 | ⟨b, cap, cur, rfl, hb, hh, h1⟩
  · exact .inl h0
  · refine .inr ⟨b, cap, cur, rfl, hb, ?_, h1⟩
    exact (heap_setCell_other w _ b u (fun e => by have e' : b = g := e; exact h.neB hB (by decide) (by rw [e']; rfl))).trans hh
def DeedsPost (w0 : World) (g p : Nat) (bs : List Int) (w : World) (e : Ending) (w' : World) : Prop :=
  ∃ (u : Value) (ds : Deeds) (p' : Nat), e = .returned u ∧ OwnD w' w.heap.size w'.heap.size u ds ∧ ds.length ≤ 6 ∧ (∀ d ∈ ds, d.2.length ≤ 402) ∧ RS w0 w' g bs p' ∧ p' ≤ p + 80000 ∧ Within g (g + 1) w w'
set_option maxHeartbeats 8000000 in
theorem deeds (w0 : World) (g p : Nat) (bs : List Int) (vn vp : Value) (n : List Int) (ps : List (List UInt8)) (w : World) (lo : Nat) (h : RS w0 w g bs p) (hp : p ≤ 200000500000) (hn : Own w lo vn n) (hq : OwnWT w lo w.heap.size vp ps) (hgl : g < lo) (hl1 : n.length ≤ 61) (hl2 : ps.length ≤ 21) (hl3 : ∀ t ∈ ps, t.length ≤ 400) (hlo : lo ≤ w.heap.size) :
    Calls Tryz.prog 45 #[.pointer (some ⟨g, 0, none⟩), .agg #[vn, vp]] w (DeedsPost w0 g p bs w) := by
  have hgw := h.rdr.lt
  have hs0 : w0.heap.size ≤ w.heap.size := h.size
  obtain ⟨A, c, rfl, _⟩ := id hn.ints
  obtain ⟨B, d, rfl, _⟩ := id hq.rd
  have b1 : Below w.heap.size w (w.alloc (.cells #[.slice A n.length c, .slice B ps.length d] 26)) := (Below.refl _ _).alloc (Nat.le_refl _) _
  have k3 := Blk.new w #[.slice A n.length c, .slice B ps.length d] 26
  have o1 := OwnD.lits (w.alloc (.cells #[.slice A n.length c, .slice B ps.length d] 26)) [] (by simp)
  have b2 : Below (w.heap.size + 1) (w.alloc (.cells #[.slice A n.length c, .slice B ps.length d] 26)) ((w.alloc (.cells #[.slice A n.length c, .slice B ps.length d] 26)).alloc (.cells #[] 28)) := (Below.refl _ _).alloc (by simp) _
  obtain ⟨V, hV⟩ : ∃ V, ((w.alloc (.cells #[.slice A n.length c, .slice B ps.length d] 26)).alloc (.cells #[] 28)).alloc (.cells #[.slice A n.length c, .slice B ps.length d] 26) = V := ⟨_, rfl⟩
  have b3 : Below (w.heap.size + 2) ((w.alloc (.cells #[.slice A n.length c, .slice B ps.length d] 26)).alloc (.cells #[] 28)) V := by rw [← hV]; exact (Below.refl _ _).alloc (by simp) _
  have k6 : Blk V (w.heap.size + 2) #[.slice A n.length c, .slice B ps.length d] 26 := by rw [← hV]; exact Blk.newH _ _ _ _ (by simp)
  have hzV : V.heap.size = w.heap.size + 3 := by rw [← hV]; simp
  have oV : OwnD V w.heap.size V.heap.size (.slice (some ⟨w.heap.size + 1, 0, none⟩) 0 0) [] := by
    have o2 : OwnD ((w.alloc (.cells #[.slice A n.length c, .slice B ps.length d] 26)).alloc (.cells #[] 28)) (w.heap.size + 1) (w.heap.size + 1 + 1) (.slice (some ⟨w.heap.size + 1, 0, none⟩) 0 0) [] := by
      simp only [World.size_alloc] at o1
      exact o1
    have o3 := o2.belowB b3 (by omega)
    exact ⟨⟨o3.own.1, by
      rcases o3.own.2 with h0 | ⟨b, cap, cur, e, hb, hr⟩
      · exact .inl h0
      · exact .inr ⟨b, cap, cur, e, by omega, hr⟩⟩, fun k hk => by have := o3.lt k hk; omega⟩
  have hbV : Below w.heap.size w V := (b1.trans (b2.mono (by omega))).trans (b3.mono (by omega))
  have hbn0 : BnAt V lo (w.heap.size + 2) (.slice A n.length c) (.slice B ps.length d) n ps := ⟨by omega, k6, hn.below hbV, (OwnW.below hq hbV).mono (Nat.le_refl _) hbV.size⟩
  obtain ⟨z0, z1, _, _⟩ := blkPair9 k3
  have z0' := (b2.cell (p := ⟨w.heap.size, 0, none⟩) (Nat.lt_succ_self _)).trans z0
  have z1' := (b2.cell (p := ⟨w.heap.size, 1, none⟩) (Nat.lt_succ_self _)).trans z1
  have S0 := Lib.hid (And.intro (h.below hbV hs0) (And.intro hbn0 (And.intro oV (Within.of_below (lo := g) (hi := g + 1) hbV)))); clear h b1 k3 o1 b2 b3 k6 oV hbV hbn0 hn hq
  have HPL0 := Lib.hid hl3; clear hl3
  go_enter Tryz.func45, Tryz.ntmps45
  go_wp2_with fail
  try rw [hV]
  refine (pick w0 g p 7 bs V S0.out.1 (by omega) (by omega)).mono ?_
  rintro e w3 ⟨x, rfl, hx0, hx1, hr3, hg3⟩
  obtain ⟨jx, rfl⟩ := Int.eq_ofNat_of_zero_le hx0
  have hjx : jx ≤ 6 := by omega
  have hz3 := hg3.size
  have S3 := Lib.hid (And.intro (S0.out.2.1.thru hg3 hgl) (And.intro (S0.out.2.2.1.apart hg3 (.inr (by omega))) (And.intro hr3 (S0.out.2.2.2.trans hg3)))); clear S0 hr3 hg3 hx0 hx1 z0 z1 z0' z1' hV
  go_wp2
  go_loopw [5, 7] (fun v k wr => ∃ (j p' : Nat) (ds : Deeds) (b : Bench9), k = .int .i64 j ∧ j ≤ 6 ∧ ds.length + j ≤ 6 ∧ p' + 13000 * j ≤ p + 1 + 78000 ∧ (∀ d ∈ ds, d.2.length ≤ 402) ∧ b.1.length ≤ 61 ∧ b.2.length ≤ 21 ∧ (∀ t ∈ b.2, t.length ≤ 400) ∧ Bn wr lo (w.heap.size + 2) b ∧ OwnD wr w.heap.size wr.heap.size v ds ∧ RS w0 wr g bs p' ∧ Within g (g + 1) w wr) (fun _ k _ => (intOf k).toNat)
  case atStart => exact ⟨jx, p + 1, [], (n, ps), rfl, hjx, by simpa using hjx, by omega, by simp, hl1, hl2, HPL0.out, ⟨_, _, S3.out.1⟩, ⟨S3.out.2.1.own, fun k hk => by have := S3.out.2.1.lt k hk; omega⟩, S3.out.2.2.1, S3.out.2.2.2⟩
  case round =>
    clear S3 HPL0 hjx
    obtain ⟨j, p', ds, ⟨bn, bp⟩, rfl, hj, hdl, hpc, hdm, hb1, hb2, hb3, ⟨v0, v1, hbn⟩, hod, hrs, hw⟩ := hrel
    dsimp only at hbn hb1 hb2 hb3
    have hzr : w.heap.size ≤ wr.heap.size := hw.size
    obtain ⟨B0, k0, rfl, _⟩ := hbn.now.ints
    obtain ⟨B1, k1, rfl, _⟩ := hbn.past.rd
    obtain ⟨Ad, cd, rfl, _⟩ := hod.rd
    obtain ⟨e0, e1, f0, f1⟩ := hbn.cells
    have hlr := hbn.lt
    have HM := Lib.hid hdm; have HPL := Lib.hid hb3; clear hdm
    have hpl8 := Lib.hid (show ∀ t ∈ bp, t.length ≤ 100000000 from fun t ht => by have := hb3 t ht; omega); clear hb3
    have K := Lib.hid (And.intro hbn (And.intro hod (And.intro hrs hw))); clear hbn hod hrs hw
    rcases j with _ | j
    · go_wp2
      go_ret
      exact ⟨_, ds, p', rfl, K.out.2.1, by omega, HM.out, K.out.2.2.1, by omega, K.out.2.2.2⟩
    · have hjp : (0 : Int) < ((j + 1 : Nat) : Int) := by omega
      have hp3 : p' ≤ 200000600000 := by omega
      have hdl2 : ds.length ≤ 5 := by omega
      have hdl3 : ds.length + 1 + j ≤ 6 := by omega
      have hpc2 : p' + 13000 + 13000 * j ≤ p + 1 + 78000 := by omega
      clear hpc hdl
      go_wp2_with fail
      refine (deed w0 g p' bs _ _ bn wr K.out.2.2.1 (by omega) lo wr.heap.size K.out.1.now.within hgl (Nat.le_refl _) (by omega)).mono ?_
      rintro e wd ⟨dk, dS, p2, rfl, hdk0, hdk1, hSz, hr2, hp2, hg2⟩
      have hzd : wr.heap.size ≤ wd.heap.size := hg2.size
      obtain ⟨U, hU⟩ : ∃ U, wd.alloc (.cells #[.int .i64 dk, .string dS] 28) = U := ⟨_, rfl⟩
      have hbU : Below wd.heap.size wd U := by rw [← hU]; exact (Below.refl _ _).alloc (Nat.le_refl _) _
      have kU : Blk U wd.heap.size #[.int .i64 dk, .string dS] 28 := by rw [← hU]; exact Blk.new wd _ _
      have hod2 : OwnD wd w.heap.size wd.heap.size (.slice Ad ds.length cd) ds := ⟨(K.out.2.1.apart hg2 (.inr (by omega))).own, fun k hk => by have := K.out.2.1.lt k hk; omega⟩
      have Y := Lib.hid (And.intro ((K.out.1.thru hg2 hgl).step hbU) (And.intro (show OwnD U w.heap.size U.heap.size _ ds from ⟨(hod2.below hbU).own, fun k hk => by have := hod2.lt k hk; have := hbU.size; omega⟩) (And.intro (hr2.below hbU (by omega)) (And.intro ((K.out.2.2.2.trans hg2).trans (Within.of_below hbU)) kU)))); clear hr2 hg2 hbU kU hod2 K e0 e1 f0 f1
      have hzU := Y.out.2.2.2.2.lt
      obtain ⟨e0, e1, _, _⟩ := Y.out.1.cells
      obtain ⟨t0, t1, _, _⟩ := blkQ Y.out.2.2.2.2
      rcases hdo : benchDoR bn bp dk (bytesOf dS) with ⟨⟨n9, ps9⟩, ok⟩
      have hl9 := benchDoR_len hdo
      have hn9 := hl9.1; have hp9 := hl9.2.1
      have HP := Lib.hid hl9.2.2; clear hl9
      have HB := BenchDo_S (.slice B0 bn.length k0) (.slice B1 bp.length k1) bn bp dk dS U Y.out.1.rd0 Y.out.1.past.rd (by omega) (by omega) hpl8.out (by omega)
      rw [hdo] at HB
      have HBH := Lib.hid HB; clear HB hdo
      go_wp2_with fail
      try rw [hU]
      refine HBH.out.mono ?_
      rintro e w5 ⟨u0, u1, rfl, ho0, ho1, hb5⟩
      dsimp only at ho0 ho1
      obtain ⟨A5, c5, rfl, _⟩ := id ho0.ints
      obtain ⟨A6, c6, rfl, _⟩ := id ho1.rd
      have hz5 := hb5.size
      obtain ⟨X, hX⟩ : ∃ X, w5.alloc (.cells #[.slice A5 n9.length c5, .slice A6 ps9.length c6] 26) = X := ⟨_, rfl⟩
      have hbX : Below w5.heap.size w5 X := by rw [← hX]; exact (Below.refl _ _).alloc (Nat.le_refl _) _
      have kX : Blk X w5.heap.size #[.slice A5 n9.length c5, .slice A6 ps9.length c6] 26 := by rw [← hX]; exact Blk.new w5 _ _
      have hbUX : Below U.heap.size U X := hb5.trans (hbX.mono hz5)
      have hzX := kX.lt
      have oX : OwnD X w.heap.size X.heap.size (.slice Ad ds.length cd) ds := ⟨(Y.out.2.1.below hbUX).own, fun k hk => by have := Y.out.2.1.lt k hk; omega⟩
      have Z := Lib.hid (And.intro (Y.out.1.step hbUX) (And.intro oX (And.intro (Y.out.2.2.1.below hbUX (by omega)) (And.intro (Y.out.2.2.2.1.trans (Within.of_below hbUX)) (Y.out.2.2.2.2.below hbUX hzU)))))
      have Q := Lib.hid (And.intro kX (And.intro ((ho0.below hbX).mono (show lo ≤ U.heap.size by omega)) ((OwnW.below ho1 hbX).mono (show lo ≤ U.heap.size by omega) hbX.size))); clear hbX kX hbUX oX ho0 ho1 hb5 Y e0 e1 t0 t1
      obtain ⟨e0, e1, f0, f1⟩ := Z.out.1.cells
      obtain ⟨x0, x1, _, _⟩ := blkPair9 Q.out.1
      have HX := Lib.hid hX; clear hX
      rcases ok with _ | _
      · clear Q x0 x1
        obtain ⟨t0, t1, _, _⟩ := blkQ Z.out.2.2.2.2
        have hX := HX.out
        obtain ⟨t0, t1, _, _⟩ := blkQ Z.out.2.2.2.2
        have hba : Below X.heap.size X (X.alloc (.cells #[.int .i64 dk, .string dS] 28)) := (Below.refl _ _).alloc (Nat.le_refl _) _
        have kL := Lib.hid (Blk.new X #[.int .i64 dk, .string dS] 28)
        have L := Lib.hid (And.intro (Z.out.1.step hba) (And.intro (Z.out.2.1.below hba) (And.intro (Z.out.2.2.1.below hba (by omega)) (Z.out.2.2.2.1.trans (Within.of_below hba))))); clear hba Z
        have hzL : X.heap.size ≤ (X.alloc (.cells #[.int .i64 dk, .string dS] 28)).heap.size := by simp
        obtain ⟨qs, hqs⟩ : ∃ qs, ds ++ [(dk, bytesOf dS)] = qs := ⟨_, rfl⟩
        have hql : qs.length = ds.length + 1 := by rw [← hqs]; simp
        have hqm : ∀ d ∈ qs, d.2.length ≤ 402 := by
          intro d hd
          rw [← hqs] at hd
          rcases List.mem_append.1 hd with h | h
          · exact HM.out d h
          · simp only [List.mem_cons, List.not_mem_nil, or_false] at h; subst h; simpa using hSz
        have HQ := Lib.hid hqs; have HQM := Lib.hid hqm; have HQL := Lib.hid hql; clear hqs hqm hql
        go_wp2_with (at_builtin; go_loud (refine wpList_append_D rfl _ _ _ rfl Tryz.underlying45 deedInfo w.heap.size _ _ ds rfl L.out.2.1 (by simp; omega) X.heap.size dk (.string dS) (bytesOf dS) rfl (kL.out.cell 0) (kL.out.cell 1) (by rw [ba_eta]) (by omega) ?_))
        intro v6 w6 ho6 hb6 hg6 _
        rw [HQ.out] at ho6
        obtain ⟨A6, c6, rfl, _⟩ := ho6.rd
        have R := Lib.hid (And.intro (L.out.1.grownD hg6 L.out.2.1) (And.intro ho6 (And.intro (L.out.2.2.1.below hb6 hs0) (L.out.2.2.2.then_below hb6 (Nat.le_refl _))))); clear L ho6 hb6 hg6 kL t0 t1
        go_wp2
        go_roundw
        case rel => exact ⟨j, p2, qs, (bn, bp), by first | rfl | go_num, by omega, by have := HQL.out; omega, by omega, HQM.out, (show bn.length ≤ 61 by omega), (show bp.length ≤ 21 by omega), HPL.out, ⟨_, _, R.out.1⟩, R.out.2.1, R.out.2.2.1, R.out.2.2.2⟩
        case measure => simp [intOf]
      · have hgq : w5.heap.size ≠ w.heap.size + 2 := by omega
        have bR : Below w.heap.size X ((X.setCell ⟨w.heap.size + 2, 0, none⟩ (.slice A5 n9.length c5)).setCell ⟨w.heap.size + 2, 1, none⟩ (.slice A6 ps9.length c6)) := ((Below.refl _ _).setCell (p := ⟨w.heap.size + 2, 0, none⟩) (show w.heap.size ≤ w.heap.size + 2 by omega) _).setCell (p := ⟨w.heap.size + 2, 1, none⟩) (show w.heap.size ≤ w.heap.size + 2 by omega) _
        obtain ⟨Y, hY⟩ : ∃ Y, (X.setCell ⟨w.heap.size + 2, 0, none⟩ (.slice A5 n9.length c5)).setCell ⟨w.heap.size + 2, 1, none⟩ (.slice A6 ps9.length c6) = Y := ⟨_, rfl⟩
        have bn1 := Z.out.1.set0 Q.out.2.1
        have hdq : wd.heap.size ≠ w.heap.size + 2 := by omega
        have P := Lib.hid (And.intro (show BnAt Y lo (w.heap.size + 2) (.slice A5 n9.length c5) (.slice A6 ps9.length c6) n9 ps9 by rw [← hY]; exact bn1.set1 ((OwnWT.farG Q.out.2.2 Z.out.1.blk 0 _).mono (Nat.le_refl _) (by simp [World.setCell]))) (And.intro (show OwnD Y w.heap.size Y.heap.size (.slice Ad ds.length cd) ds by rw [← hY]; exact ⟨((Z.out.2.1.setB Z.out.1.blk 0 _).setB bn1.blk 1 _).own, fun k hk => by have := Z.out.2.1.lt k hk; simp [World.setCell]; omega⟩) (And.intro (show RS w0 Y g bs p2 by rw [← hY]; exact Z.out.2.2.1.below bR (by omega)) (And.intro (show Within g (g + 1) w Y by rw [← hY]; exact Z.out.2.2.2.1.then_below bR (Nat.le_refl _)) (show Blk Y wd.heap.size #[.int .i64 dk, .string dS] 28 by rw [← hY]; exact (Z.out.2.2.2.2.other (g' := w.heap.size + 2) (by omega) 0 _).other (g' := w.heap.size + 2) (by omega) 1 _)))))
        obtain ⟨t0, t1, _, _⟩ := blkQ P.out.2.2.2.2
        have hzY : X.heap.size ≤ Y.heap.size := by rw [← hY]; simp [World.setCell]
        have hX := HX.out
        clear bn1 bR Q Z
        obtain ⟨t0, t1, _, _⟩ := blkQ P.out.2.2.2.2
        have hba : Below Y.heap.size Y (Y.alloc (.cells #[.int .i64 dk, .string dS] 28)) := (Below.refl _ _).alloc (Nat.le_refl _) _
        have kL := Lib.hid (Blk.new Y #[.int .i64 dk, .string dS] 28)
        have L := Lib.hid (And.intro (P.out.1.step hba) (And.intro (P.out.2.1.below hba) (And.intro (P.out.2.2.1.below hba (by omega)) (P.out.2.2.2.1.trans (Within.of_below hba))))); clear hba P
        have hzL : Y.heap.size ≤ (Y.alloc (.cells #[.int .i64 dk, .string dS] 28)).heap.size := by simp
        obtain ⟨qs, hqs⟩ : ∃ qs, ds ++ [(dk, bytesOf dS)] = qs := ⟨_, rfl⟩
        have hql : qs.length = ds.length + 1 := by rw [← hqs]; simp
        have hqm : ∀ d ∈ qs, d.2.length ≤ 402 := by
          intro d hd
          rw [← hqs] at hd
          rcases List.mem_append.1 hd with h | h
          · exact HM.out d h
          · simp only [List.mem_cons, List.not_mem_nil, or_false] at h; subst h; simpa using hSz
        have HQ := Lib.hid hqs; have HQM := Lib.hid hqm; have HQL := Lib.hid hql; clear hqs hqm hql
        go_wp2_with (at_builtin; go_loud (refine wpList_append_D rfl _ _ _ rfl Tryz.underlying45 deedInfo w.heap.size _ _ ds rfl L.out.2.1 (by simp; omega) Y.heap.size dk (.string dS) (bytesOf dS) rfl (kL.out.cell 0) (kL.out.cell 1) (by rw [ba_eta]) (by omega) ?_))
        intro v6 w6 ho6 hb6 hg6 _
        rw [HQ.out] at ho6
        obtain ⟨A6, c6, rfl, _⟩ := ho6.rd
        have R := Lib.hid (And.intro (L.out.1.grownD hg6 L.out.2.1) (And.intro ho6 (And.intro (L.out.2.2.1.below hb6 hs0) (L.out.2.2.2.then_below hb6 (Nat.le_refl _))))); clear L ho6 hb6 hg6 kL t0 t1
        go_wp2
        go_roundw
        case rel => exact ⟨j, p2, qs, (n9, ps9), by first | rfl | go_num, by omega, by have := HQL.out; omega, by omega, HQM.out, (show n9.length ≤ 61 by omega), (show ps9.length ≤ 21 by omega), HP.out, ⟨_, _, R.out.1⟩, R.out.2.1, R.out.2.2.1, R.out.2.2.2⟩
        case measure => simp [intOf]
end Go.Proofs.YtjblecinkedppaaGreatDoor
