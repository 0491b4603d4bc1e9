/- The draw of a bench: l20Bench. Written by bench9.py. -/
import Derived.Test.YtjblecinkedppaaGreatDoorHq
import Derived.Test.YtjblecinkedppaaGreatDoorBl
import Derived.Test.YtjblecinkedppaaGreatDoorAq
import Derived.Test.YtjblecinkedppaaGreatDoorB6
namespace Go.Proofs.YtjblecinkedppaaGreatDoor
set_option maxRecDepth 100000
open Go.RowKit Go.WideShapes Go.Deep

theorem BnAt.thru {w w' : World} {lo gb g : Nat} {vn vp : Value} {n : List Int} {ps : List (List UInt8)} (h : BnAt w lo gb vn vp n ps) (hw : Within g (g + 1) w w') (hg : g < lo) : BnAt w' lo gb vn vp n ps :=
  ⟨h.ge, Blk.thru h.blk hw (Nat.lt_of_lt_of_le hg h.ge), (h.now.within.apart hw (.inr hg)).own, (OwnW.keep h.past fun k hk => hw.block k (OwnW.blk h.past k hk).2.2.1 (by have := (OwnW.blk h.past k hk).1; omega)).mono (Nat.le_refl _) hw.size⟩
theorem Blk.belowC {X Y : World} {L B : Nat} {cs : Array Value} {T : TypeId} {G : Prop} (h : Blk X L cs T) (hb : Below B X Y) (hB : L < B) (k : Blk Y L cs T → G) : G := k (h.below hb hB)
theorem BnAt.grow0 {w w' : World} {lo g : Nat} {vn vp : Value} {n : List Int} {ps : List (List UInt8)} (h : BnAt w lo g vn vp n ps) (hg : w.grownBy w' vn.ownBlock) {v : Value} {x : List Int} (ho : Own w' lo v x) : BnAt (w'.setCell ⟨g, 0, none⟩ v) lo g v vp x ps ∧ Below lo w (w'.setCell ⟨g, 0, none⟩ v) ∧ Blk w' g #[vn, vp] 26 := by
  have hb : Below lo w w' := below_of_only hg h.low fun k hk => (h.now.ge k hk).1
  have hB : Blk w' g #[vn, vp] 26 := (hg.block g h.lt (fun e => h.ne0 h.now e.symm)).trans h.blk
  have hp : OwnWT w' lo w'.heap.size vp ps := (OwnW.keep h.past fun k hk => hg.block k (OwnW.blk h.past k hk).2.2.1 (fun e => by
    rcases h.now.neT h.past with h0 | h0
    · rw [h0] at e; cases e
    · exact h0 (by rw [hk]; exact e.symm))).mono (Nat.le_refl _) hg.size
  refine ⟨⟨h.ge, hB.set 0 v, ⟨ownsRow_keep ho.own fun k hk => heap_setCell_other w' _ k v (fun e => ownsRow_ne ho.own hB (by decide) (by rw [hk]; exact congrArg some e)), ho.wf⟩,
    (OwnW.keep hp fun k hk => heap_setCell_other w' _ k v (fun e => OwnWT.ne hp hB (by rw [hk]; exact congrArg some e))).mono (Nat.le_refl _) (by simp [World.setCell])⟩, hb.setCell h.ge _, hB⟩
theorem wpList_append_Ng {P : Program} {w : World} {ops : Array Oper} {rest : List Oper} {o : Oper} {a : Act} {Q : Exit → Act → World → Prop} (hgd : o.guard = none) (s x : Operand) (t : TypeId)
    (ho : o.op = .call { callee := .builtin .append, args := #[s, x], argTypes := #[t, t] })
    (ht : P.underlying t = some (.slice 3)) (hinfo : (P.info? 3).map (fun i => (i.zero, i.size, i.bytes)) = some (some (.int .i64 0), 1, 8))
    (lo : Nat) (v : Value) (zs : List Int) (hs : a.eval s = v) (hown : Own w lo v zs) (hlo : lo ≤ w.heap.size)
    (u : Value) (ys : List Int) (hx : a.eval x = u) (hr : RdI w u ys) (hlen : zs.length + ys.length ≤ 1000000000)
    (h : ∀ v' w', Own w' lo v' (zs ++ ys) → w.grownBy w' v.ownBlock → wpList P ops Q rest (a.put o.dst v') w') : wpList P ops Q (o :: rest) a w := by
  obtain ⟨A, c, rfl, hi', _⟩ := hr
  refine wpList_plain hgd fun _ hK => wp_append_ints s x t ho lo 3 .i64 8 ht hinfo (Nat.le_refl _) v zs hs hown.own w.heap.size A ys c hx hi' hlen hlo ?_
  intro v' w' h1 h2 _
  refine hK _ _ (h v' w' ⟨h1, fun z hz => ?_⟩ h2)
  rcases List.mem_append.1 hz with h | h
  · exact hown.wf z h
  · exact hi'.wf z h
theorem benchDo_valid {n n' : List Int} {ps ps' : List (List UInt8)} {k : Int} {s : List UInt8} {ok : Bool} (h : benchB n ps = true) (hd : benchDoR n ps k s = ((n', ps'), ok)) : benchB n' ps' = true := by
  rw [benchDoR, if_pos h] at hd
  have := doR_ok (k := k) (s := s) h
  rw [hd] at this
  exact this
theorem benchDo_at {w : World} {lo g : Nat} {vn vp : Value} {n n' : List Int} {ps ps' : List (List UInt8)} {k : Int} {S : ByteArray} {ok : Bool} (h : BnAt w lo g vn vp n ps) (hn : n.length ≤ 60) (hp : ps.length ≤ 20) (hl : ∀ t ∈ ps, t.length ≤ 100000000) (hS : S.size ≤ 100000000) (hd : benchDoR n ps k (bytesOf S) = ((n', ps'), ok)) :
    ∀ X, Below w.heap.size w X → Calls Tryz.prog 7 #[.agg #[vn, vp], .agg #[.int .i64 k, .string S]] X (BdPost X (n', ps') (.bool ok)) := fun X hX => by
  have h2 := BenchDo_S vn vp n ps k S X (h.step hX).rd0 (h.step hX).past.rd (by omega) (by omega) hl hS
  rw [hd] at h2
  exact h2
/-- A new bench, with what its texts lie in. -/
theorem BenchNew_T (v0 : Value) (x0 : List (List Int)) (w : World) (h0 : RdS w v0 x0) (hn : x0.length ≤ 1048576) (hl : szS x0 ≤ 1048576) (y0 : List Int) (y1 : Bool) (hR : stackProgR x0 = (y0, y1)) :
    Calls Tryz.prog 47 #[v0] w fun e w' => ∃ u A, e = .returned (.agg #[u, .slice A 0 0]) ∧ OwnI w' w.heap.size w'.heap.size u y0 ∧ OwnWT w' w.heap.size w'.heap.size (.slice A 0 0) [] ∧ Below w.heap.size w w' := by
  have hal : Below w.heap.size w (w.alloc (.cells #[.slice none 0 0, .slice none 0 0] 26)) := (Below.refl _ _).alloc (Nat.le_refl _) _
  have hbk := Blk.new w #[.slice none 0 0, .slice none 0 0] 26
  have S0 := Lib.hid (And.intro (RdS.step h0 hal) (And.intro hal hbk)); clear hal hbk h0
  have hno : y1 = false → y0 = [] := by
    intro e; subst e
    unfold stackProgR at hR
    split at hR
    · cases hR
    · cases hR; rfl
  have HR := Lib.hid hR; clear hR
  rcases y1 with _ | _
  · obtain rfl := hno rfl
    clear hno
    go_enter Tryz.func47, Tryz.ntmps47
    go_wp2_with fail
    refine (StackProg_O v0 x0 _ S0.out.1 hn hl _ _ HR.out).mono ?_
    rintro e w2 ⟨u, rfl, ho, hb⟩
    have hB := S0.out.2.2.below hb (by simp)
    obtain ⟨b0, b1, f0, f1⟩ := blkPair9 hB
    have K := Lib.hid (And.intro (S0.out.2.1.trans (hb.mono (by simp))) hB); clear ho hb hB S0
    go_wp2
    obtain ⟨c0, c1, _, _⟩ := blkPair9 ((K.out.2.set 0 (.slice none 0 0)).set 1 (.slice none 0 0))
    refine bodyPost_ret (v := .agg #[.slice none 0 0, .slice none 0 0]) (by simp [results, Tryz.results47, go_sem, c0, c1]) rfl ?_
    exact ⟨_, none, rfl, ⟨⟨World.ownsRow_nil _ _ _ _, fun _ h => absurd h (by simp)⟩, by simp [Value.ownBlock]⟩, .inl ⟨rfl, rfl⟩, (K.out.1.setCell (Nat.le_refl _) _).setCell (Nat.le_refl _) _⟩
  · clear hno
    go_enter Tryz.func47, Tryz.ntmps47
    go_wp2_with fail
    refine (StackProg_O v0 x0 _ S0.out.1 hn hl _ _ HR.out).mono ?_
    rintro e w2 ⟨u, rfl, ho, hb⟩
    have hz2 := hb.size
    rw [World.size_alloc] at hz2
    obtain ⟨B, d, rfl, _⟩ := ho.rd
    have hba : Below w2.heap.size w2 (w2.alloc (.cells #[] 9)) := (Below.refl _ _).alloc (Nat.le_refl _) _
    have hB := (S0.out.2.2.below hb (by simp)).below hba (by omega)
    have hT0 : OwnWT (w2.alloc (.cells #[] 9)) w2.heap.size (w2.alloc (.cells #[] 9)).heap.size (.slice (some ⟨w2.heap.size, 0, none⟩) 0 0) [] := .inr ⟨w2.heap.size, 0, 0, #[], by simp [strVals], Nat.le_refl _, by simp, Blk.new w2 #[] 9, by simp [strVals], by simp, by simp, by simp [strVals]⟩
    obtain ⟨b0, b1, f0, f1⟩ := blkPair9 hB
    have K := Lib.hid (And.intro (ho.below hba) (And.intro ((S0.out.2.1.trans (hb.mono (by simp))).trans (hba.mono (by omega))) (And.intro hB hT0))); clear ho hb hB S0 hba hT0
    go_wp2
    obtain ⟨c0, c1, _, _⟩ := blkPair9 ((K.out.2.2.1.set 0 (.slice B y0.length d)).set 1 (.slice (some ⟨w2.heap.size, 0, none⟩) 0 0))
    refine bodyPost_ret (v := .agg #[.slice B y0.length d, .slice (some ⟨w2.heap.size, 0, none⟩) 0 0]) (by simp [results, Tryz.results47, go_sem, c0, c1]) rfl ?_
    refine ⟨_, _, rfl, ?_, ((K.out.2.2.2.far9 (by omega) 0 _).far9 (by omega) 1 _).mono (by omega) (by simp [World.setCell]), (K.out.2.1.setCell (Nat.le_refl _) _).setCell (Nat.le_refl _) _⟩
    have h := (K.out.1.apart (within_setCell _ w.heap.size 0 (.slice B y0.length d)) (.inr (by simp))).apart (within_setCell _ w.heap.size 1 (.slice (some ⟨w2.heap.size, 0, none⟩) 0 0)) (.inr (by simp))
    rw [World.size_alloc] at h
    exact ⟨h.own.mono (by omega), fun k hk => by have := h.lt k hk; simp [World.setCell]; omega⟩

def BenchPost (w0 : World) (g p : Nat) (bs : List Int) (w : World) (e : Ending) (w' : World) : Prop :=
  ∃ (vn vp : Value) (n : List Int) (ps : List (List UInt8)) (p' : Nat), e = .returned (.agg #[vn, vp]) ∧ Own w' w.heap.size vn n ∧ OwnWT w' w.heap.size w'.heap.size vp ps ∧ n.length ≤ 61 ∧ ps.length ≤ 21 ∧ (∀ t ∈ ps, t.length ≤ 400) ∧ RS w0 w' g bs p' ∧ p' ≤ p + 120000 ∧ Within g (g + 1) w w'
theorem bench_bounds {n : List Int} {ps : List (List UInt8)} (h : benchB n ps = true) : n.length ≤ 60 ∧ ps.length ≤ 20 ∧ ∀ t ∈ ps, t.length ≤ 400 :=
  ⟨(bsB_valid (benchB_parts h).1).2, (benchB_parts h).2.1, fun t ht => tsB_len ((benchB_parts h).2.2 t ht)⟩
theorem bench_ret {w0 w X : World} {lo gb g p p' : Nat} {bs : List Int} {vn vp : Value} {n : List Int} {ps : List (List UInt8)} (h : BnAt X lo gb vn vp n ps) (hlo : w.heap.size < lo) (hr : RS w0 X g bs p') (hp : p' ≤ p + 120000) (hw : Within g (g + 1) w X) (hs0 : w0.heap.size ≤ w.heap.size) (h1 : n.length ≤ 61) (h2 : ps.length ≤ 21) (h3 : ∀ t ∈ ps, t.length ≤ 400) :
    BenchPost w0 g p bs w (.returned (.agg #[vn, vp])) ((X.setCell ⟨w.heap.size, 0, none⟩ vn).setCell ⟨w.heap.size, 1, none⟩ vp) := by
  have hb : Below w.heap.size X ((X.setCell ⟨w.heap.size, 0, none⟩ vn).setCell ⟨w.heap.size, 1, none⟩ vp) := ((Below.refl w.heap.size X).setCell (p := ⟨w.heap.size, 0, none⟩) (Nat.le_refl _) _).setCell (p := ⟨w.heap.size, 1, none⟩) (Nat.le_refl _) _
  exact ⟨vn, vp, n, ps, p', rfl, ((h.now.far9 hlo 0 _).far9 hlo 1 _).mono (by omega), ((h.past.far9 hlo 0 _).far9 hlo 1 _).mono (by omega) (by simp [World.setCell]), h1, h2, h3, hr.below hb hs0, hp, hw.then_below hb (Nat.le_refl _)⟩
set_option maxHeartbeats 8000000 in
theorem bench (m : Int) (w0 : World) (g p : Nat) (bs : List Int) (w : World) (hm : 0 ≤ m ∧ m ≤ 1000000) (h : RS w0 w g bs p) (hp : p ≤ 200000000000) :
    Calls Tryz.prog 21 #[.pointer (some ⟨g, 0, none⟩), .int .i64 m] w (BenchPost w0 g p bs w) := by
  have hgw := h.rdr.lt
  have hs0 : w0.heap.size ≤ w.heap.size := h.size
  obtain ⟨W, hW⟩ : ∃ W, w.alloc (.cells #[.slice none 0 0, .slice none 0 0] 26) = W := ⟨_, rfl⟩
  have hbW : Below w.heap.size w W := by rw [← hW]; exact (Below.refl _ _).alloc (Nat.le_refl _) _
  have hz : w.heap.size < W.heap.size := by rw [← hW]; simp
  have kR : Blk W w.heap.size #[.slice none 0 0, .slice none 0 0] 26 := by rw [← hW]; exact Blk.new w _ _
  have S0 := Lib.hid (And.intro (h.below hbW hs0) (And.intro kR (Within.of_below (lo := g) (hi := g + 1) hbW))); clear h hbW kR
  go_enter Tryz.func21, Tryz.ntmps21
  go_wp2_with fail
  try rw [hW]
  refine (stack 4 0 w0 g p bs W (by omega) (by omega) S0.out.1 (by omega)).mono ?_
  rintro e w1 ⟨v, zss, p1, rfl, ho, hl, hy, hr1, hp1, hg1⟩
  have hz1 : W.heap.size ≤ w1.heap.size := hg1.size
  have hsz := szS_200 hy
  rcases hst : stackProgR zss with ⟨zp, told⟩
  have HST := Lib.hid hst; clear hst
  have hvz : benchB zp [] = true := by
    rcases told with _ | _
    · have : zp = [] := by
        have h := HST.out
        unfold stackProgR at h
        split at h
        · cases h
        · cases h; rfl
      subst this
      decide
    · exact benchB_mk (bsB_stack HST.out) (by simp) (by simp)
  have HVZ := Lib.hid hvz; clear hvz
  have S1 := Lib.hid (And.intro hr1 (And.intro hg1 ho.rd)); clear hr1 hg1 ho hy
  go_wp2_with fail
  refine (BenchNew_T v zss w1 S1.out.2.2 (by omega) (by omega) zp told HST.out).mono ?_
  rintro e w2 ⟨u, A, rfl, ho2, ht2, hb2⟩
  have hz2 := hb2.size
  obtain ⟨B, d, rfl, _⟩ := ho2.rd
  obtain ⟨V, hV⟩ : ∃ V, w2.alloc (.cells #[.slice B zp.length d, .slice A 0 0] 26) = V := ⟨_, rfl⟩
  have hbV : Below w2.heap.size w2 V := by rw [← hV]; exact (Below.refl _ _).alloc (Nat.le_refl _) _
  have kV : Blk V w2.heap.size #[.slice B zp.length d, .slice A 0 0] 26 := by rw [← hV]; exact Blk.new w2 _ _
  have hbn0 : BnAt V W.heap.size w2.heap.size (.slice B zp.length d) (.slice A 0 0) zp [] := ⟨by omega, kV, (ho2.own.below hbV).mono (by omega), (OwnW.below ht2 hbV).mono (by omega) hbV.size⟩
  have hb1V : Below w1.heap.size w1 V := hb2.trans (hbV.mono hz2)
  have hzV := hbV.size
  have S2 := Lib.hid (And.intro (S1.out.1.below hb1V (by omega)) (And.intro (S1.out.2.1.trans (Within.of_below hb1V)) hbn0)); clear S1 ho2 ht2 hb2 hbV kV hbn0 hb1V
  go_wp2_with fail
  try rw [hV]
  refine (pick w0 g p1 6 bs V S2.out.1 (by omega) (by omega)).mono ?_
  rintro e w3 ⟨x, rfl, hx0, hx1, hr3, hg3⟩
  obtain ⟨jx, rfl⟩ := Int.eq_ofNat_of_zero_le hx0
  have hjx : jx ≤ 5 := by omega
  have hgW : g < W.heap.size := by omega
  have S3 := Lib.hid (And.intro hr3 (And.intro (S2.out.2.1.trans hg3) (S2.out.2.2.thru hg3 hgW))); clear S2 hr3 hg3 hx0 hx1
  go_wp2
  go_loopw [6] (fun k wr => ∃ (j p' : Nat) (b : Bench9), k = .int .i64 j ∧ j ≤ 5 ∧ p' + 13001 * j ≤ p1 + 1 + 65005 ∧ benchB b.1 b.2 = true ∧ Bn wr W.heap.size w2.heap.size b ∧ RS w0 wr g bs p' ∧ Within g (g + 1) W wr) (fun k _ => (intOf k).toNat)
  case atStart => exact ⟨jx, p1 + 1, (zp, []), rfl, hjx, by omega, HVZ.out, ⟨_, _, S3.out.2.2⟩, S3.out.1, S3.out.2.1⟩
  case round =>
    clear S3 HVZ HST hzV hV hjx
    obtain ⟨j, p', ⟨bn, bp⟩, rfl, hj, hpc, hvb, ⟨v0, v1, hbn⟩, hrs, hw⟩ := hrel
    dsimp only at hbn hvb
    have hzr : W.heap.size ≤ wr.heap.size := hw.size
    obtain ⟨B0, k0, rfl, _⟩ := hbn.now.ints
    obtain ⟨B1, k1, rfl, _⟩ := hbn.past.rd
    obtain ⟨e0, e1, f0, f1⟩ := hbn.cells
    have hlr := hbn.lt
    obtain ⟨hn60, hp20, hpl⟩ := bench_bounds hvb
    have hpl8 : ∀ t ∈ bp, t.length ≤ 100000000 := fun t ht => by have := hpl t ht; omega
    rcases j with _ | j
    · have HPL := Lib.hid hpl
      have X := Lib.hid (And.intro hbn (And.intro hrs hw)); clear hbn hrs hw hpl hpl8 hvb e0 e1 f0 f1
      go_wp2_with fail
      refine (odd0 w0 g p' m bs wr X.out.2.1 hm (by omega)).mono ?_
      rintro e w4 ⟨b, p4, rfl, hr4, hp4, hg4⟩
      have hz4 : wr.heap.size ≤ w4.heap.size := hg4.size
      have Y := Lib.hid (And.intro (X.out.1.thru hg4 hgW) (And.intro hr4 (X.out.2.2.trans hg4))); clear hr4 hg4 X
      rcases b with _ | _
      · skip
        obtain ⟨e0, e1, f0, f1⟩ := Y.out.1.cells
        have hR := Lib.hid (Blk.thru S0.out.2.1 Y.out.2.2 hgw)
        obtain ⟨r0, r1, s0, s1⟩ := blkPair9 hR.out
        go_wp2_with fail
        obtain ⟨q0, q1, _, _⟩ := blkPair9 ((hR.out.set 0 (.slice B0 bn.length k0)).set 1 (.slice B1 bp.length k1))
        refine bodyPost_ret (v := .agg #[(.slice B0 bn.length k0), (.slice B1 bp.length k1)]) (by simp [results, Tryz.results21, go_sem, q0, q1]) rfl ?_
        exact bench_ret Y.out.1 hz Y.out.2.1 (by omega) (S0.out.2.2.trans Y.out.2.2) hs0 (by omega) (by omega) HPL.out
      · go_wp2_with fail
        refine (pick w0 g p4 3 bs w4 Y.out.2.1 (by omega) (by omega)).mono ?_
        rintro e w5 ⟨x, rfl, hx0, hx1, hr5, hg5⟩
        have hz5 : w4.heap.size ≤ w5.heap.size := hg5.size
        have Z := Lib.hid (And.intro (Y.out.1.thru hg5 hgW) (And.intro hr5 (Y.out.2.2.trans hg5))); clear hr5 hg5 Y
        obtain ⟨a0, a1, _, _⟩ := Z.out.1.cells
        have hcases : x = 0 ∨ x = 1 ∨ x = 2 := by omega
        clear hx0 hx1
        rcases hcases with rfl | rfl | rfl
        · skip
          obtain ⟨qs, hqs⟩ : ∃ qs, bn ++ [1001] = qs := ⟨_, rfl⟩
          have hql : qs.length ≤ 61 := by rw [← hqs]; simp; omega
          have HQ := Lib.hid hqs; clear hqs
          have hbl : Below w5.heap.size w5 (w5.alloc (.cells #[.int .i64 1001] 3)) := (Below.refl _ _).alloc (Nat.le_refl _) _
          have ho2 := lits_own w5 [1001] (by simp) (by intro z hz; simp only [List.mem_cons, List.not_mem_nil, or_false] at hz; apply wf_near; omega)
          have L := Lib.hid (And.intro (Z.out.1.step hbl) (And.intro (Z.out.2.1.below hbl (by omega)) (And.intro (Z.out.2.2.trans (Within.of_below hbl)) ho2.rd))); clear hbl ho2 Z
          obtain ⟨e0, e1, f0, f1⟩ := L.out.1.cells
          go_wp2_with (at_builtin; refine wpList_append_Ng rfl _ _ _ rfl Tryz.underlying23 intInfo W.heap.size (.slice B0 bn.length k0) bn rfl L.out.1.now L.out.1.low (.slice (some ⟨w5.heap.size, 0, none⟩) 1 1) [1001] rfl L.out.2.2.2 (by simp; omega) ?_)
          intro v6 w6 ho6 hg6
          rw [HQ.out] at ho6
          obtain ⟨A6, c6, rfl, _⟩ := ho6.ints
          have P6 := L.out.1.grow0 hg6 ho6
          obtain ⟨n0, n1, nf0, nf1⟩ := blkPair9 P6.2.2
          have R := Lib.hid (And.intro P6.1 (And.intro (L.out.2.1.below P6.2.1 (by omega)) (L.out.2.2.1.then_below P6.2.1 (Nat.le_refl _)))); clear P6 L ho6 hg6 e0 e1 f0 f1
          obtain ⟨e0, e1, f0, f1⟩ := R.out.1.cells
          have hR := Lib.hid (Blk.thru S0.out.2.1 R.out.2.2 hgw)
          obtain ⟨r0, r1, s0, s1⟩ := blkPair9 hR.out
          go_wp2_with fail
          obtain ⟨q0, q1, _, _⟩ := blkPair9 ((hR.out.set 0 (.slice A6 qs.length c6)).set 1 (.slice B1 bp.length k1))
          refine bodyPost_ret (v := .agg #[(.slice A6 qs.length c6), (.slice B1 bp.length k1)]) (by simp [results, Tryz.results21, go_sem, q0, q1]) rfl ?_
          exact bench_ret R.out.1 hz R.out.2.1 (by omega) (S0.out.2.2.trans R.out.2.2) hs0 (by omega) (by omega) HPL.out
        · skip
          obtain ⟨qs, hqs⟩ : ∃ qs, bp ++ [[100, 117, 112]] = qs := ⟨_, rfl⟩
          have hql : qs.length ≤ 21 := by rw [← hqs]; simp; omega
          have hqm : ∀ t ∈ qs, t.length ≤ 400 := by
            intro t ht
            rw [← hqs] at ht
            rcases List.mem_append.1 ht with h | h
            · exact HPL.out t h
            · simp only [List.mem_cons, List.not_mem_nil, or_false] at h; subst h; simp
          have HQ := Lib.hid hqs; clear hqs
          have HQM := Lib.hid hqm; clear hqm
          have hbl : Below w5.heap.size w5 (w5.alloc (.cells #[.string ⟨#[100, 117, 112]⟩] 9)) := (Below.refl _ _).alloc (Nat.le_refl _) _
          have hbk := Lib.hid (Blk.new w5 #[.string ⟨#[100, 117, 112]⟩] 9)
          have L := Lib.hid (And.intro (Z.out.1.step hbl) (And.intro (Z.out.2.1.below hbl (by omega)) (Z.out.2.2.trans (Within.of_below hbl)))); clear hbl Z
          obtain ⟨e0, e1, f0, f1⟩ := L.out.1.cells
          go_wp2_with (at_builtin; refine wpList_append_strW rfl _ _ _ rfl Tryz.underlying24 strInfo W.heap.size _ (.slice B1 bp.length k1) bp rfl L.out.1.past L.out.1.low w5.heap.size (.string ⟨#[100, 117, 112]⟩) [100, 117, 112] rfl (hbk.out.cell 0) rfl (by omega) ?_)
          intro v6 w6 ho6 hg6 _
          rw [HQ.out] at ho6
          obtain ⟨A6, c6, rfl, _⟩ := ho6.rd
          have P6 := L.out.1.grow hg6 ho6
          obtain ⟨n0, n1, nf0, nf1⟩ := blkPair9 P6.2.2.2
          have R := Lib.hid (And.intro P6.1 (And.intro (L.out.2.1.below P6.2.1 (by omega)) (L.out.2.2.then_below P6.2.1 (Nat.le_refl _)))); clear P6 L ho6 hg6 e0 e1 f0 f1
          obtain ⟨e0, e1, f0, f1⟩ := R.out.1.cells
          have hR := Lib.hid (Blk.thru S0.out.2.1 R.out.2.2 hgw)
          obtain ⟨r0, r1, s0, s1⟩ := blkPair9 hR.out
          go_wp2_with fail
          obtain ⟨q0, q1, _, _⟩ := blkPair9 ((hR.out.set 0 (.slice B0 bn.length k0)).set 1 (.slice A6 qs.length c6))
          refine bodyPost_ret (v := .agg #[(.slice B0 bn.length k0), (.slice A6 qs.length c6)]) (by simp [results, Tryz.results21, go_sem, q0, q1]) rfl ?_
          exact bench_ret R.out.1 hz R.out.2.1 (by omega) (S0.out.2.2.trans R.out.2.2) hs0 (by omega) (by omega) HQM.out
        · skip
          obtain ⟨qs, hqs⟩ : ∃ qs, bn ++ [1012] = qs := ⟨_, rfl⟩
          have hql : qs.length ≤ 61 := by rw [← hqs]; simp; omega
          have HQ := Lib.hid hqs; clear hqs
          have hbl : Below w5.heap.size w5 (w5.alloc (.cells #[.int .i64 1012] 3)) := (Below.refl _ _).alloc (Nat.le_refl _) _
          have ho2 := lits_own w5 [1012] (by simp) (by intro z hz; simp only [List.mem_cons, List.not_mem_nil, or_false] at hz; apply wf_near; omega)
          have L := Lib.hid (And.intro (Z.out.1.step hbl) (And.intro (Z.out.2.1.below hbl (by omega)) (And.intro (Z.out.2.2.trans (Within.of_below hbl)) ho2.rd))); clear hbl ho2 Z
          obtain ⟨e0, e1, f0, f1⟩ := L.out.1.cells
          go_wp2_with (at_builtin; refine wpList_append_Ng rfl _ _ _ rfl Tryz.underlying23 intInfo W.heap.size (.slice B0 bn.length k0) bn rfl L.out.1.now L.out.1.low (.slice (some ⟨w5.heap.size, 0, none⟩) 1 1) [1012] rfl L.out.2.2.2 (by simp; omega) ?_)
          intro v6 w6 ho6 hg6
          rw [HQ.out] at ho6
          obtain ⟨A6, c6, rfl, _⟩ := ho6.ints
          have P6 := L.out.1.grow0 hg6 ho6
          obtain ⟨n0, n1, nf0, nf1⟩ := blkPair9 P6.2.2
          have R := Lib.hid (And.intro P6.1 (And.intro (L.out.2.1.below P6.2.1 (by omega)) (L.out.2.2.1.then_below P6.2.1 (Nat.le_refl _)))); clear P6 L ho6 hg6 e0 e1 f0 f1
          obtain ⟨e0, e1, f0, f1⟩ := R.out.1.cells
          have hR := Lib.hid (Blk.thru S0.out.2.1 R.out.2.2 hgw)
          obtain ⟨r0, r1, s0, s1⟩ := blkPair9 hR.out
          go_wp2_with fail
          obtain ⟨q0, q1, _, _⟩ := blkPair9 ((hR.out.set 0 (.slice A6 qs.length c6)).set 1 (.slice B1 bp.length k1))
          refine bodyPost_ret (v := .agg #[(.slice A6 qs.length c6), (.slice B1 bp.length k1)]) (by simp [results, Tryz.results21, go_sem, q0, q1]) rfl ?_
          exact bench_ret R.out.1 hz R.out.2.1 (by omega) (S0.out.2.2.trans R.out.2.2) hs0 (by omega) (by omega) HPL.out
    · have hjp : (0 : Int) < ((j + 1 : Nat) : Int) := by omega
      have hp3 : p' ≤ 200000100000 := by omega
      have bD : Below wr.heap.size wr wr.drew := (Below.refl _ _).drew
      have HD : Hid (∀ X, Below wr.heap.size wr X → Calls Tryz.prog 22 #[.pointer (some ⟨g, 0, none⟩), .agg #[.slice B0 bn.length k0, .slice B1 bp.length k1]] X (DeedPost w0 g p' bs X)) := Lib.hid (by
        have hr' := hrs
        have hn' := hbn.now.within
        exact fun X hX => deed w0 g p' bs _ _ bn X (hr'.below hX (by omega)) (by omega) W.heap.size wr.heap.size (hn'.belowB hX (Nat.le_refl _)) hgW hX.size (by omega))
      have K := Lib.hid (And.intro hbn (And.intro hw (And.intro bD (And.intro hpl8 hvb))))
      clear hbn hw bD hpl hpl8 hvb hrs
      have hz13 : p' + 13000 + 13001 * j ≤ p1 + 1 + 65005 := by omega
      clear hpc
      go_wp2
      go_region_held3 (fun w' => w'.cell? ⟨w2.heap.size, 0, none⟩ = some (.slice B0 bn.length k0) ∧ w'.cell? ⟨w2.heap.size, 1, none⟩ = some (.slice B1 bp.length k1)) (repeat' (first | with_reducible exact e0 | with_reducible exact e1 | with_reducible exact l0 | with_reducible exact l1 | with_reducible exact m0 | with_reducible exact m1 | apply And.intro | rw [World.cell?_drew] | rw [World.cell?_alloc_lt _ _ _ (by first | omega | (simp; omega))] | rw [World.cell?_setCell_far _ _ _ _ (by first | omega | (simp; omega))])) (first
        | (go_at_call 7; refine (HB.out _ (by (repeat (first | with_reducible exact Below.refl _ _ | with_reducible exact K.out.2.2.1 | with_reducible refine Below.drew ?_ | with_reducible refine below_allocH ?_ (by first | exact Nat.le_refl _ | omega | (simp; done) | (simp; omega)) _ _)))).mono ?_; rintro e w3 ⟨u0, u1, rfl, ho0, ho1, hb3⟩; obtain ⟨A5, c5, rfl, _⟩ := ho0.ints; obtain ⟨A6, c6, rfl, _⟩ := ho1.rd; have hs3 := hb3.size; have b3 : Below wd.heap.size wd w3 := wayB (by (repeat (first | with_reducible exact Below.refl _ _ | with_reducible exact K.out.2.2.1 | with_reducible refine Below.drew ?_ | with_reducible refine below_allocH ?_ (by first | exact Nat.le_refl _ | omega | (simp; done) | (simp; omega)) _ _))) hb3; have hbn3 := XD.out.1.step b3; obtain ⟨m0, m1, _, _⟩ := hbn3.cells; have hz3 := b3.size; have X3 := Lib.hid (And.intro (ownB (W := wd) (by (repeat (first | with_reducible exact Below.refl _ _ | with_reducible exact K.out.2.2.1 | with_reducible refine Below.drew ?_ | with_reducible refine below_allocH ?_ (by first | exact Nat.le_refl _ | omega | (simp; done) | (simp; omega)) _ _))) ho0) (And.intro (ownTB (W := wd) (by (repeat (first | with_reducible exact Below.refl _ _ | with_reducible exact K.out.2.2.1 | with_reducible refine Below.drew ?_ | with_reducible refine below_allocH ?_ (by first | exact Nat.le_refl _ | omega | (simp; done) | (simp; omega)) _ _))) ho1) (And.intro hbn3 b3))); first | (have hB9 := BD.out.below b3 (by omega); have o9 : Own w3 (wr.heap.size + 1) (.slice A5 bn'.length c5) bn' := X3.out.1.mono (by omega); have t9 : OwnWT w3 (wr.heap.size + 1) w3.heap.size (.slice A6 bp'.length c6) bp' := OwnW.mono X3.out.2.1 (by omega) (Nat.le_refl _); obtain ⟨x0, x1, y0, y1⟩ := blk_pair hB9; have X9 := Lib.hid (And.intro hB9 (And.intro o9 t9)); clear ho0 ho1 hb3 b3 hbn3 hB9 o9 t9) | (refine Blk.belowC (L := wd.heap.size) (cs := #[.slice none 0 0, .slice none 0 0]) (T := 26) ?_ hb3 ?_ ?_; (focus ((repeat (first | with_reducible refine Blk.drewH ?_ | (refine Blk.newH _ _ _ _ ?_; first | rfl | omega | (simp; done) | (simp; omega)) | with_reducible refine Blk.keepH ?_)); done)); (focus ((first | omega | (simp; done) | (simp; omega)); done)); intro hB8; have o9 : Own w3 (wd.heap.size + 1) (.slice A5 bn'.length c5) bn' := ho0.mono (by first | exact Nat.le_refl _ | omega | (simp; done) | (simp; omega)); have t9 : OwnWT w3 (wd.heap.size + 1) w3.heap.size (.slice A6 bp'.length c6) bp' := OwnW.mono ho1 (by first | exact Nat.le_refl _ | omega | (simp; done) | (simp; omega)) (Nat.le_refl _); obtain ⟨x0, x1, y0, y1⟩ := blk_pair hB8; have X8 := Lib.hid (And.intro hB8 (And.intro o9 t9)); clear ho0 ho1 hb3 b3 hbn3 hB8 o9 t9) | clear ho0 ho1 hb3 b3 hbn3)
        | (go_at_call 22; refine (HD.out _ (by (repeat (first | with_reducible exact Below.refl _ _ | with_reducible exact K.out.2.2.1 | with_reducible refine Below.drew ?_ | with_reducible refine below_allocH ?_ (by first | exact Nat.le_refl _ | omega | (simp; done) | (simp; omega)) _ _)))).mono ?_; rintro e wd ⟨dk, dS, p2, rfl, hdk0, hdk1, hSz, hr2, hp2, hg2⟩; have gd : Within g (g + 1) wr wd := (Within.of_below (by (repeat (first | with_reducible exact Below.refl _ _ | with_reducible exact K.out.2.2.1 | with_reducible refine Below.drew ?_ | with_reducible refine below_allocH ?_ (by first | exact Nat.le_refl _ | omega | (simp; done) | (simp; omega)) _ _)))).trans hg2; have hbd := K.out.1.thru gd hgW; obtain ⟨l0, l1, _, _⟩ := hbd.cells; have hzd := gd.size; rcases hdo : benchDoR bn bp dk (bytesOf dS) with ⟨⟨bn', bp'⟩, ok⟩; have hvk := benchDo_valid K.out.2.2.2.2 hdo; have bDd : Below wd.heap.size wd wd.drew := (Below.refl _ _).drew; have XD := Lib.hid (And.intro hbd (And.intro hr2 (And.intro (K.out.2.1.trans gd) (And.intro hvk gd)))); have HB : Hid (∀ X, Below wd.heap.size wd X → Calls Tryz.prog 7 #[.agg #[.slice B0 bn.length k0, .slice B1 bp.length k1], .agg #[.int .i64 dk, .string dS]] X (BdPost X (bn', bp') (.bool ok))) := Lib.hid (benchDo_at hbd hn60 hp20 K.out.2.2.2.1 (by omega) hdo); first | (refine Blk.thruC (L := wr.heap.size) (cs := #[.slice none 0 0, .slice none 0 0]) (T := 26) ?_ hg2 ?_ ?_; (focus ((repeat (first | with_reducible refine Blk.drewH ?_ | (refine Blk.newH _ _ _ _ ?_; first | rfl | omega | (simp; done) | (simp; omega)) | with_reducible refine Blk.keepH ?_)); done)); (focus (omega; done)); intro BD; have ltD := BD.out.lt; clear hr2 gd hbd hvk hg2 hdo bDd) | clear hr2 gd hbd hvk hg2 hdo bDd)
        | fail)
      all_goals first
        | (have _t := X9.out.1; obtain ⟨Y, hY⟩ : ∃ Y, ((w3.setCell ⟨wr.heap.size, 0, none⟩ (.slice A5 bn'.length c5)).setCell ⟨wr.heap.size, 1, none⟩ (.slice A6 bp'.length c6)) = Y := ⟨_, rfl⟩
           have bB : Below wr.heap.size w3 Y := by rw [← hY]; exact ((Below.refl wr.heap.size w3).setCell (p := ⟨wr.heap.size, 0, none⟩) (Nat.le_refl _) _).setCell (p := ⟨wr.heap.size, 1, none⟩) (Nat.le_refl _) _
           have bz : w3.heap.size ≤ Y.heap.size := bB.size
           have WY : Within g (g + 1) wr Y := (XD.out.2.2.2.2.trans (Within.of_below X3.out.2.2.2)).then_below bB (Nat.le_refl _)
           have FQ : Hid (BnAt Y W.heap.size w2.heap.size (.slice B0 bn.length k0) (.slice B1 bp.length k1) bn bp ∧ Own Y W.heap.size (.slice A5 bn'.length c5) bn' ∧ OwnWT Y W.heap.size Y.heap.size (.slice A6 bp'.length c6) bp' ∧ Blk Y wr.heap.size #[.slice A5 bn'.length c5, .slice A6 bp'.length c6] 26 ∧ RS w0 Y g bs p2 ∧ Within g (g + 1) W Y ∧ W.heap.size ≤ Y.heap.size) := Lib.hid (by
             refine ⟨K.out.1.thru WY hgW, ?_, ?_, ?_, (XD.out.2.1.below X3.out.2.2.2 (by omega)).below bB (by omega), K.out.2.1.trans WY, by omega⟩
             · rw [← hY]; exact ((X9.out.2.1.far9 (by omega) 0 _).far9 (by omega) 1 _).mono (by omega)
             · have hh : OwnWT ((w3.setCell ⟨wr.heap.size, 0, none⟩ (.slice A5 bn'.length c5)).setCell ⟨wr.heap.size, 1, none⟩ (.slice A6 bp'.length c6)) W.heap.size ((w3.setCell ⟨wr.heap.size, 0, none⟩ (.slice A5 bn'.length c5)).setCell ⟨wr.heap.size, 1, none⟩ (.slice A6 bp'.length c6)).heap.size (.slice A6 bp'.length c6) bp' := ((X9.out.2.2.far9 (by omega) 0 _).far9 (by omega) 1 _).mono (by omega) (by simp [World.setCell])
               rw [hY] at hh; exact hh
             · rw [← hY]; exact (X9.out.1.set 0 _).set 1 _)
           rw [hY]
           clear hY bB WY bz x0 x1 y0 y1 X9 X3 m0 m1 l0 l1
           obtain ⟨g9, hg9⟩ : ∃ g9, wr.heap.size = g9 := ⟨_, rfl⟩
           have hgq : g9 ≠ w2.heap.size := by omega
           rw [hg9] at FQ ⊢)
        | (have _t := X8.out.1; obtain ⟨Y, hY⟩ : ∃ Y, ((w3.setCell ⟨wd.heap.size, 0, none⟩ (.slice A5 bn'.length c5)).setCell ⟨wd.heap.size, 1, none⟩ (.slice A6 bp'.length c6)) = Y := ⟨_, rfl⟩
           have bB : Below wd.heap.size w3 Y := by rw [← hY]; exact ((Below.refl wd.heap.size w3).setCell (p := ⟨wd.heap.size, 0, none⟩) (Nat.le_refl _) _).setCell (p := ⟨wd.heap.size, 1, none⟩) (Nat.le_refl _) _
           have bz : w3.heap.size ≤ Y.heap.size := bB.size
           have WY : Within g (g + 1) wr Y := (XD.out.2.2.2.2.trans (Within.of_below X3.out.2.2.2)).then_below bB (by omega)
           have FQ : Hid (BnAt Y W.heap.size w2.heap.size (.slice B0 bn.length k0) (.slice B1 bp.length k1) bn bp ∧ Own Y W.heap.size (.slice A5 bn'.length c5) bn' ∧ OwnWT Y W.heap.size Y.heap.size (.slice A6 bp'.length c6) bp' ∧ Blk Y wd.heap.size #[.slice A5 bn'.length c5, .slice A6 bp'.length c6] 26 ∧ RS w0 Y g bs p2 ∧ Within g (g + 1) W Y ∧ W.heap.size ≤ Y.heap.size) := Lib.hid (by
             refine ⟨K.out.1.thru WY hgW, ?_, ?_, ?_, (XD.out.2.1.below X3.out.2.2.2 (by omega)).below bB (by omega), K.out.2.1.trans WY, by omega⟩
             · rw [← hY]; exact ((X8.out.2.1.far9 (by omega) 0 _).far9 (by omega) 1 _).mono (by omega)
             · have hh : OwnWT ((w3.setCell ⟨wd.heap.size, 0, none⟩ (.slice A5 bn'.length c5)).setCell ⟨wd.heap.size, 1, none⟩ (.slice A6 bp'.length c6)) W.heap.size ((w3.setCell ⟨wd.heap.size, 0, none⟩ (.slice A5 bn'.length c5)).setCell ⟨wd.heap.size, 1, none⟩ (.slice A6 bp'.length c6)).heap.size (.slice A6 bp'.length c6) bp' := ((X8.out.2.2.far9 (by omega) 0 _).far9 (by omega) 1 _).mono (by omega) (by simp [World.setCell])
               rw [hY] at hh; exact hh
             · rw [← hY]; exact (X8.out.1.set 0 _).set 1 _)
           rw [hY]
           clear hY bB WY bz x0 x1 y0 y1 X8 X3 m0 m1 l0 l1
           obtain ⟨g9, hg9⟩ : ∃ g9, wd.heap.size = g9 := ⟨_, rfl⟩
           have hgq : g9 ≠ w2.heap.size := by omega
           rw [hg9] at FQ ⊢)
        | (obtain ⟨Y, hY⟩ : ∃ Y, (w3.alloc (.cells #[.slice A5 bn'.length c5, .slice A6 bp'.length c6] 26)) = Y := ⟨_, rfl⟩
           have bA : Below w3.heap.size w3 Y := by rw [← hY]; exact (Below.refl _ _).alloc (Nat.le_refl _) _
           have bz : w3.heap.size ≤ Y.heap.size := bA.size
           have WY : Within g (g + 1) wr Y := (XD.out.2.2.2.2.trans (Within.of_below X3.out.2.2.2)).trans (Within.of_below bA)
           have FQ : Hid (BnAt Y W.heap.size w2.heap.size (.slice B0 bn.length k0) (.slice B1 bp.length k1) bn bp ∧ Own Y W.heap.size (.slice A5 bn'.length c5) bn' ∧ OwnWT Y W.heap.size Y.heap.size (.slice A6 bp'.length c6) bp' ∧ Blk Y w3.heap.size #[.slice A5 bn'.length c5, .slice A6 bp'.length c6] 26 ∧ RS w0 Y g bs p2 ∧ Within g (g + 1) W Y ∧ W.heap.size ≤ Y.heap.size) := Lib.hid
             ⟨K.out.1.thru WY hgW, (X3.out.1.below bA).mono (by omega), (OwnW.below X3.out.2.1 bA).mono (by omega) bA.size, by rw [← hY]; exact Blk.new w3 _ _, (XD.out.2.1.below X3.out.2.2.2 (by omega)).below bA (by omega), K.out.2.1.trans WY, by omega⟩
           rw [hY]
           clear hY bA WY bz X3 m0 m1 l0 l1
           obtain ⟨g9, hg9⟩ : ∃ g9, w3.heap.size = g9 := ⟨_, rfl⟩
           have hgq : g9 ≠ w2.heap.size := by omega
           rw [hg9] at FQ ⊢)
      all_goals (
        clear hg9 e0 e1 f0 f1
        obtain ⟨g0, g1, h0', h1'⟩ := FQ.out.1.cells
        obtain ⟨z0, z1, _, _⟩ := blk_pair FQ.out.2.2.2.1
        have hgq : g9 ≠ w2.heap.size := by omega
        have hW2 : W.heap.size ≤ w2.heap.size := by omega
        have bR : Below W.heap.size Y ((Y.setCell ⟨w2.heap.size, 0, none⟩ (.slice A5 bn'.length c5)).setCell ⟨w2.heap.size, 1, none⟩ (.slice A6 bp'.length c6)) := ((Below.refl _ _).setCell (p := ⟨w2.heap.size, 0, none⟩) hW2 _).setCell (p := ⟨w2.heap.size, 1, none⟩) hW2 _
        have FR := Lib.hid (And.intro (FQ.out.1.set0 FQ.out.2.1) (And.intro (((FQ.out.1.set0 FQ.out.2.1).set1 ((OwnWT.farG FQ.out.2.2.1 FQ.out.1.blk 0 _).mono (Nat.le_refl _) (by simp [World.setCell])))) (And.intro (FQ.out.2.2.2.2.1.below bR (by omega)) (And.intro (FQ.out.2.2.2.2.2.1.then_below bR (Nat.le_refl _)) (FQ.out.2.2.2.1.other (g' := w2.heap.size) (by omega) 0 (.slice A5 bn'.length c5)))))); clear bR
        obtain ⟨g2, g3, h2', h3'⟩ := FR.out.1.cells
        obtain ⟨z2, z3, _, _⟩ := blk_pair FR.out.2.2.2.2
        rcases ok with _ | _
        · go_wp2
          go_roundw
          case rel => exact ⟨j, p2, (bn, bp), by go_num, by omega, by omega, K.out.2.2.2.2, ⟨_, _, FQ.out.1⟩, FQ.out.2.2.2.2.1, FQ.out.2.2.2.2.2.1⟩
          case measure => simp [intOf]
        · go_wp2
          go_roundw
          case rel => exact ⟨j, p2, (bn', bp'), by go_num, by omega, by omega, XD.out.2.2.2.1, ⟨_, _, FR.out.2.1⟩, FR.out.2.2.1, FR.out.2.2.2.1⟩
          case measure => simp [intOf])
end Go.Proofs.YtjblecinkedppaaGreatDoor
