/- The model's l3Match at a letter. Written by match.py. -/
import Derived.Test.YtceekfoacgoalaaQi
import Derived.Test.YtceekfoacgoalaaTz
namespace Go.Proofs.Ytceekfoacgoalaa
set_option maxRecDepth 100000
open Go.RowKit Go.WideShapes Go.Deep

def MatP (S T : Ty) (σ : Sbt) (w : World) (e : Ending) (w' : World) : Prop := ∃ u y, e = .returned (.tuple #[u, .bool y]) ∧ Below w.heap.size w w' ∧ (y = false → covT S T σ = none) ∧ (y = true → ∃ τ zss, covT S T σ = some τ ∧ Rep τ zss ∧ zss.length ≤ 2000 ∧ RdS w' u zss)
theorem form_some {w : World} {lo n c : Nat} {A : Option Addr} {vs : List Value} (h : w.ownsRow lo 23 1 (.slice A n c) n vs) (hn : 0 < n) : ∃ g, A = some ⟨g, 0, none⟩ := by
  rcases h.2 with ⟨_, h0⟩ | ⟨g, cap, cur, he, _⟩
  · omega
  · cases he; exact ⟨g, rfl⟩
theorem rows_apart {w w1 : World} {A : Option Addr} {c : Nat} {zss : List (List Int)} (h : RdS w (.slice A zss.length c) zss) (hb : Below w.heap.size w w1) : 0 < zss.length → ∃ b off, A = some ⟨b, off, none⟩ ∧ ∀ (j : Nat) ys, zss[j]? = some ys → ∃ q, w1.cell? ⟨b, off + j, none⟩ = some q ∧ Apart 0 w1 (some w.heap.size) q ys := fun h0 => by
  obtain ⟨A', c', e, _, hi⟩ := h
  cases e
  obtain ⟨b, off, rfl, hlt, hc⟩ := hi h0
  refine ⟨b, off, rfl, fun j ys hj => ?_⟩
  obtain ⟨q, hq, hr⟩ := hc j ys hj
  exact ⟨q, (hb.cell hlt).trans hq, RdBI.apart_old hr (RdI.step hr hb) (Nat.le_refl _)⟩
theorem ownQ_form {w : World} {lo hi : Nat} {v : Value} {zss : List (List Int)} (h : OwnQ w lo hi v zss) : ∃ A c, v = .slice A zss.length c := by
  obtain ⟨vs, _, h2, _⟩ := h; exact ownsRow_form h2
theorem nil_apart (w : World) (g : Nat) (row : Option Nat) : Apart 0 w row (.slice (some ⟨g, 0, none⟩) 0 0) [] := ⟨⟨⟨_, 0, rfl, IntsK.nil _ _ _ _, Nat.le_refl _⟩, fun _ _ => Nat.zero_le _⟩, .inl rfl, rfl⟩
set_option maxHeartbeats 4000000 in
theorem match_any (n : Nat) (T : Ty) (u va vb : Value) (σ : Sbt) (zss : List (List Int)) (w : World) (hn : n ≤ 999) (_lT : T.nums.length ≤ 150) (hT : T.ok false) (hσ : σ.ok) (hrep : Rep σ zss) (hlz : zss.length ≤ 2000) (hu : RdS w u zss) (ha : RdI w va [1, (n : Int)]) (hb : RdI w vb T.nums) :
    Calls Try.prog 37 #[u, va, vb, .bool false] w (MatP (.any n) T σ w) := by
  obtain ⟨A, c, rfl, hi, hcl⟩ := ha
  obtain ⟨d, off, rfl, hbd, hcc⟩ := hi.at_ (by simp)
  have c0 : w.cell? ⟨d, off, none⟩ = some (.int .i64 1) := hcc 0 (by simp)
  have c1 : w.cell? ⟨d, off + 1, none⟩ = some (.int .i64 n) := hcc 1 (by simp)
  clear hi hcc hcl
  show Calls Try.prog 37 #[u, .slice (some ⟨d, off, none⟩) 2 c, vb, .bool false] w _
  obtain ⟨l0, hl0⟩ : ∃ l : Nat, 2 * n = l := ⟨_, rfl⟩
  have hw0 : IntKind.i64.wrap (2 * (n : Int)) = (l0 : Int) := by rw [IntWalk.i64_in _ (by omega)]; omega
  obtain ⟨L, hLl⟩ : ∃ L : Nat, l0 = L := ⟨_, rfl⟩
  subst hLl
  have hLn : 2 * n = l0 := hl0
  obtain ⟨L, hLe⟩ : ∃ L : Nat, L = l0 := ⟨_, rfl⟩
  rw [← hLe] at hw0 hLn
  clear hl0 hLe
  have hL : L ≤ 1999 := by omega
  have hget : zss.getD L [] = rowOf (σ (1, n)) := by rw [← hLn]; exact (hrep n).1
  have hcov : covT (.any n) T σ = match σ (1, n) with | none => some (σ.set (1, n) T) | some v => if eqTy v T = true then some σ else none := rfl
  have HB := Lib.hid (And.intro hu hb)
  obtain ⟨U, cu, rfl, _, hat⟩ := id hu
  obtain ⟨B, cb, rfl, _⟩ := id hb
  rcases hs : σ (1, n) with _ | V
  · rw [hs] at hget hcov
    have hset : Rep (σ.set (1, n) T) ((padTo zss L).set L T.nums) := by rw [← hLn]; exact hrep.set1 n T
    have HC := Lib.hid (And.intro hcov hset); clear hcov hset hrep hσ hs
    have key : (¬ L < zss.length) ∨ (L < zss.length ∧ ∃ b o A' c', U = some ⟨b, o, none⟩ ∧ w.cell? ⟨b, o + L, none⟩ = some (.slice A' 0 c')) := by
      by_cases h : L < zss.length
      · refine .inr ⟨h, ?_⟩
        obtain ⟨b, o, rfl, hlt, hc⟩ := hat (by omega)
        have hz : zss[L]? = some [] := by rw [List.getElem?_eq_getElem h]; simp [List.getD, List.getElem?_eq_getElem h, rowOf] at hget; rw [hget]
        obtain ⟨q, hq, A', c', rfl, _⟩ := hc L [] hz
        exact ⟨b, o, A', c', rfl, hq⟩
      · exact .inl h
    clear hget hat hu hb
    have hal : Below w.heap.size w (w.alloc (.cells #[] 23)) := (Below.refl _ _).alloc (Nat.le_refl _) _
    have HA := Lib.hid (And.intro (OwnQ.nil _ w.heap.size (Blk.new w #[] 23)) (rows_apart HB.out.1 hal)); clear hal
    have bne : (0 : Int) < 0 ↔ False := by simp
    rcases key with hlt | ⟨hlt, b, o, A', c', rfl, hcell⟩
    · have hltI : ¬ (L : Int) < (zss.length : Int) := by omega
      go_enter Try.func37, Try.ntmps37
      go_wp2_with (at_builtin; refine wpList_append_rowsQ rfl _ _ _ rfl Try.underlying62 rowInfo w.heap.size (w.heap.size + 1) _ [] rfl (by simp) HA.out.1 _ cu zss rfl (by simp; omega) HA.out.2 ?_)
      intro v1 w1 ho1 hb1
      try rw [List.nil_append] at ho1
      have X1 := Lib.hid (And.intro ho1 hb1); clear ho1 hb1
      go_wp2
      go_loopw [11] (fun v wr => ∃ j : Nat, OwnQ wr w.heap.size wr.heap.size v (zss ++ List.replicate j []) ∧ Below w.heap.size w wr ∧ (j = 0 ∨ zss.length + j ≤ L + 1)) (fun v _ => L + 2 - lenV v)
      case atStart => exact ⟨0, by simpa using X1.out.1, (by have h2 := (Below.refl w.heap.size w).alloc (Nat.le_refl _) (.cells #[] 23); exact h2.trans X1.out.2), .inl rfl⟩
      case round =>
        obtain ⟨j, ho, hbw, hj⟩ := hrel
        obtain ⟨M, hM⟩ : ∃ M, (zss ++ List.replicate j ([] : List Int)).length = M := ⟨_, rfl⟩
        have hMj : M = zss.length + j := by rw [← hM]; simp
        obtain ⟨A9, c9, rfl⟩ := ownQ_form ho
        rw [hM] at ho ⊢
        have hwr := hbw.size
        by_cases hc : M ≤ L
        · have hcI : (M : Int) ≤ (L : Int) := by omega
          have hb2 : Below wr.heap.size wr ((wr.alloc (.cells #[] 3)).alloc (.cells #[.slice (some ⟨wr.heap.size, 0, none⟩) 0 0] 23)) := ((Below.refl _ _).alloc (Nat.le_refl _) _).alloc (by simp) _
          have k2 : ((wr.alloc (.cells #[] 3)).alloc (.cells #[.slice (some ⟨wr.heap.size, 0, none⟩) 0 0] 23)).cell? ⟨wr.heap.size + 1, 0, none⟩ = some (.slice (some ⟨wr.heap.size, 0, none⟩) 0 0) := by
            have h := (Blk.new (wr.alloc (.cells #[] 3)) #[.slice (some ⟨wr.heap.size, 0, none⟩) 0 0] 23).cell 0
            rw [World.size_alloc] at h
            exact h
          have Y := Lib.hid (And.intro (ho.below hb2) (And.intro (hbw.trans (hb2.mono hwr)) (show 0 < ([[]] : List (List Int)).length → ∃ b off, (some ⟨wr.heap.size + 1, 0, none⟩ : Option Addr) = some ⟨b, off, none⟩ ∧ ∀ (i : Nat) ys, ([[]] : List (List Int))[i]? = some ys → ∃ q, ((wr.alloc (.cells #[] 3)).alloc (.cells #[.slice (some ⟨wr.heap.size, 0, none⟩) 0 0] 23)).cell? ⟨b, off + i, none⟩ = some q ∧ Apart 0 ((wr.alloc (.cells #[] 3)).alloc (.cells #[.slice (some ⟨wr.heap.size, 0, none⟩) 0 0] 23)) (Value.slice A9 M c9).ownBlock q ys from
            fun _ => ⟨_, 0, rfl, fun i ys hi => by
              rcases i with _ | i
              · simp at hi; subst hi; exact ⟨_, k2, nil_apart _ _ _⟩
              · simp at hi⟩)))
          have HM := Lib.hid (And.intro hM (And.intro hMj hj)); clear hb2 k2 ho hbw hM hMj hj
          go_wp2_with (at_builtin; refine wpList_append_rowsQ rfl _ _ _ rfl Try.underlying62 rowInfo w.heap.size wr.heap.size (.slice A9 M c9) (zss ++ List.replicate j []) rfl (by simp; omega) Y.out.1 _ 1 [[]] rfl (by rw [HM.out.1]; simp; omega) Y.out.2.2 ?_)
          intro v2 w2 ho2 hb2
          try rw [List.append_assoc] at ho2
          rw [show List.replicate j ([] : List Int) ++ [[]] = List.replicate (j + 1) [] from (List.replicate_succ' ..).symm] at ho2
          have hlen2 : lenV v2 = M + 1 := by
            obtain ⟨vs, _, h2, _⟩ := id ho2
            obtain ⟨A8, c8, h⟩ := ownsRow_form h2
            rw [h]
            have := HM.out.2.1
            simp [lenV]; omega
          have V := Lib.hid (And.intro ho2 (Y.out.2.1.trans hb2)); clear ho2 hb2 Y
          have hjj : zss.length + (j + 1) ≤ L + 1 := by have := HM.out.2.1; omega
          go_wp2
          go_roundw
          case rel => exact ⟨j + 1, V.out.1, V.out.2, .inr hjj⟩
          case measure => rw [hlen2]; simp [lenV]; omega
        · have hcI : ¬ (M : Int) ≤ (L : Int) := by omega
          have hLM : (L : Int) < (M : Int) := by omega
          have hL0 : (0 : Int) ≤ (L : Int) := by omega
          have hpad : zss ++ List.replicate j [] = padTo zss L := by
            unfold padTo
            rw [show L + 1 - zss.length = j by omega]
          obtain ⟨vs, h1, h2, h3, h4⟩ := id ho
          rw [hM] at h2
          obtain ⟨g, rfl⟩ := form_some h2 (by omega)
          have hgl := (h2.lt g rfl).1
          obtain ⟨x, hx⟩ : ∃ x, wr.cell? ⟨g, L, none⟩ = some x := ⟨vs[L]'(by omega), by rw [h2.cellAt L (by omega)]; exact List.getElem?_eq_getElem (by omega)⟩
          have hfr := h2.frozenAt L
          rw [← hM] at ho
          have hset := OwnQ.set ho (RdBI.apart_old (show RdBI w w.heap.size _ T.nums from HB.out.2) (HB.out.2.step hbw) hgl) (k := L) (zs := T.nums) (by rw [hM]; omega)
          rw [List.length_set, hM, hpad] at hset
          have hfin : ((padTo zss L).set L T.nums).length ≤ 2000 := by rw [List.length_set, padTo_len]; omega
          have V := Lib.hid (And.intro hset.1 (hbw.trans hset.2)); clear hset ho hbw h1 h2 h3 h4 hM hMj hj hpad
          go_wp2
          go_ret2
          refine ⟨_, true, rfl, V.out.2, fun h => (by cases h), fun _ => ⟨_, _, HC.out.1, HC.out.2, hfin, ?_⟩⟩
          have hr := V.out.1.rd (by omega)
          exact hr
    · have hltI : (L : Int) < (zss.length : Int) := by omega
      have hL0I : (0 : Int) ≤ (L : Int) := by omega
      clear bne
      go_enter Try.func37, Try.ntmps37
      go_wp2_with (at_builtin; refine wpList_append_rowsQ rfl _ _ _ rfl Try.underlying62 rowInfo w.heap.size (w.heap.size + 1) _ [] rfl (by simp) HA.out.1 _ cu zss rfl (by simp; omega) HA.out.2 ?_)
      intro v1 w1 ho1 hb1
      try rw [List.nil_append] at ho1
      have X1 := Lib.hid (And.intro ho1 hb1); clear ho1 hb1
      go_wp2
      go_loopw [11] (fun v wr => ∃ j : Nat, OwnQ wr w.heap.size wr.heap.size v (zss ++ List.replicate j []) ∧ Below w.heap.size w wr ∧ (j = 0 ∨ zss.length + j ≤ L + 1)) (fun v _ => L + 2 - lenV v)
      case atStart => exact ⟨0, by simpa using X1.out.1, (by have h2 := (Below.refl w.heap.size w).alloc (Nat.le_refl _) (.cells #[] 23); exact h2.trans X1.out.2), .inl rfl⟩
      case round =>
        obtain ⟨j, ho, hbw, hj⟩ := hrel
        obtain ⟨M, hM⟩ : ∃ M, (zss ++ List.replicate j ([] : List Int)).length = M := ⟨_, rfl⟩
        have hMj : M = zss.length + j := by rw [← hM]; simp
        obtain ⟨A9, c9, rfl⟩ := ownQ_form ho
        rw [hM] at ho ⊢
        have hwr := hbw.size
        by_cases hc : M ≤ L
        · have hcI : (M : Int) ≤ (L : Int) := by omega
          have hb2 : Below wr.heap.size wr ((wr.alloc (.cells #[] 3)).alloc (.cells #[.slice (some ⟨wr.heap.size, 0, none⟩) 0 0] 23)) := ((Below.refl _ _).alloc (Nat.le_refl _) _).alloc (by simp) _
          have k2 : ((wr.alloc (.cells #[] 3)).alloc (.cells #[.slice (some ⟨wr.heap.size, 0, none⟩) 0 0] 23)).cell? ⟨wr.heap.size + 1, 0, none⟩ = some (.slice (some ⟨wr.heap.size, 0, none⟩) 0 0) := by
            have h := (Blk.new (wr.alloc (.cells #[] 3)) #[.slice (some ⟨wr.heap.size, 0, none⟩) 0 0] 23).cell 0
            rw [World.size_alloc] at h
            exact h
          have Y := Lib.hid (And.intro (ho.below hb2) (And.intro (hbw.trans (hb2.mono hwr)) (show 0 < ([[]] : List (List Int)).length → ∃ b off, (some ⟨wr.heap.size + 1, 0, none⟩ : Option Addr) = some ⟨b, off, none⟩ ∧ ∀ (i : Nat) ys, ([[]] : List (List Int))[i]? = some ys → ∃ q, ((wr.alloc (.cells #[] 3)).alloc (.cells #[.slice (some ⟨wr.heap.size, 0, none⟩) 0 0] 23)).cell? ⟨b, off + i, none⟩ = some q ∧ Apart 0 ((wr.alloc (.cells #[] 3)).alloc (.cells #[.slice (some ⟨wr.heap.size, 0, none⟩) 0 0] 23)) (Value.slice A9 M c9).ownBlock q ys from
            fun _ => ⟨_, 0, rfl, fun i ys hi => by
              rcases i with _ | i
              · simp at hi; subst hi; exact ⟨_, k2, nil_apart _ _ _⟩
              · simp at hi⟩)))
          have HM := Lib.hid (And.intro hM (And.intro hMj hj)); clear hb2 k2 ho hbw hM hMj hj
          go_wp2_with (at_builtin; refine wpList_append_rowsQ rfl _ _ _ rfl Try.underlying62 rowInfo w.heap.size wr.heap.size (.slice A9 M c9) (zss ++ List.replicate j []) rfl (by simp; omega) Y.out.1 _ 1 [[]] rfl (by rw [HM.out.1]; simp; omega) Y.out.2.2 ?_)
          intro v2 w2 ho2 hb2
          try rw [List.append_assoc] at ho2
          rw [show List.replicate j ([] : List Int) ++ [[]] = List.replicate (j + 1) [] from (List.replicate_succ' ..).symm] at ho2
          have hlen2 : lenV v2 = M + 1 := by
            obtain ⟨vs, _, h2, _⟩ := id ho2
            obtain ⟨A8, c8, h⟩ := ownsRow_form h2
            rw [h]
            have := HM.out.2.1
            simp [lenV]; omega
          have V := Lib.hid (And.intro ho2 (Y.out.2.1.trans hb2)); clear ho2 hb2 Y
          have hjj : zss.length + (j + 1) ≤ L + 1 := by have := HM.out.2.1; omega
          go_wp2
          go_roundw
          case rel => exact ⟨j + 1, V.out.1, V.out.2, .inr hjj⟩
          case measure => rw [hlen2]; simp [lenV]; omega
        · have hcI : ¬ (M : Int) ≤ (L : Int) := by omega
          have hLM : (L : Int) < (M : Int) := by omega
          have hL0 : (0 : Int) ≤ (L : Int) := by omega
          have hpad : zss ++ List.replicate j [] = padTo zss L := by
            unfold padTo
            rw [show L + 1 - zss.length = j by omega]
          obtain ⟨vs, h1, h2, h3, h4⟩ := id ho
          rw [hM] at h2
          obtain ⟨g, rfl⟩ := form_some h2 (by omega)
          have hgl := (h2.lt g rfl).1
          obtain ⟨x, hx⟩ : ∃ x, wr.cell? ⟨g, L, none⟩ = some x := ⟨vs[L]'(by omega), by rw [h2.cellAt L (by omega)]; exact List.getElem?_eq_getElem (by omega)⟩
          have hfr := h2.frozenAt L
          rw [← hM] at ho
          have hset := OwnQ.set ho (RdBI.apart_old (show RdBI w w.heap.size _ T.nums from HB.out.2) (HB.out.2.step hbw) hgl) (k := L) (zs := T.nums) (by rw [hM]; omega)
          rw [List.length_set, hM, hpad] at hset
          have hfin : ((padTo zss L).set L T.nums).length ≤ 2000 := by rw [List.length_set, padTo_len]; omega
          have V := Lib.hid (And.intro hset.1 (hbw.trans hset.2)); clear hset ho hbw h1 h2 h3 h4 hM hMj hj hpad
          go_wp2
          go_ret2
          refine ⟨_, true, rfl, V.out.2, fun h => (by cases h), fun _ => ⟨_, _, HC.out.1, HC.out.2, hfin, ?_⟩⟩
          have hr := V.out.1.rd (by omega)
          exact hr
  · rw [hs] at hget hcov
    dsimp only at hcov
    have hVn : V.nums ≠ [] := by have := nums_pos V; intro h; rw [h] at this; simp at this
    have hlt : L < zss.length := by
      rcases Nat.lt_or_ge L zss.length with h | h
      · exact h
      · simp [List.getD, List.getElem?_eq_none h, rowOf] at hget; exact absurd hget hVn
    obtain ⟨b, o, rfl, hblt, hc⟩ := hat (by omega)
    have hz : zss[L]? = some V.nums := by rw [List.getElem?_eq_getElem hlt]; simp [List.getD, List.getElem?_eq_getElem hlt, rowOf] at hget; rw [hget]
    obtain ⟨q, hq, hqr⟩ := hc L _ hz
    have hVo : V.ok false := ((hσ n V).1 hs).1
    have hdec : decide (V.nums = T.nums) = eqTy V T := (eqTy_nums hVo hT).symm
    have HQ := Lib.hid (And.intro hqr (And.intro hdec (And.intro hcov hrep)))
    obtain ⟨Aq, cq, rfl, _⟩ := id hqr
    have hVl : 0 < V.nums.length := nums_pos V
    have hVI : (0 : Int) < (V.nums.length : Int) := by omega
    have hltI : (L : Int) < (zss.length : Int) := by omega
    clear hget hcov hz hc hat hu hb hqr hdec hrep hσ hs hVo
    go_enter Try.func37, Try.ntmps37
    go_wp2_with fail
    refine (l1Same_any _ _ V.nums T.nums _ HQ.out.1 HB.out.2).mono ?_
    rw [HQ.out.2.1]
    rintro e w1 ⟨rfl, hb1⟩
    have Z := Lib.hid (And.intro hb1 (RdS.step HB.out.1 hb1)); clear hb1
    go_wp2
    go_ret2
    refine ⟨_, _, rfl, Z.out.1, fun h => ?_, fun h => ?_⟩
    · rw [HQ.out.2.2.1, h]; rfl
    · exact ⟨σ, zss, by rw [HQ.out.2.2.1, h]; rfl, HQ.out.2.2.2, hlz, Z.out.2⟩
set_option maxHeartbeats 4000000 in
theorem match_rest (n : Nat) (T : Ty) (u va vb : Value) (σ : Sbt) (zss : List (List Int)) (w : World) (hn : n ≤ 999) (_lT : T.nums.length ≤ 150) (hT : T.ok true) (hσ : σ.ok) (hrep : Rep σ zss) (hlz : zss.length ≤ 2000) (hu : RdS w u zss) (ha : RdI w va [3, (n : Int)]) (hb : RdI w vb T.nums) :
    Calls Try.prog 37 #[u, va, vb, .bool true] w (MatP (.rest n) T σ w) := by
  obtain ⟨A, c, rfl, hi, hcl⟩ := ha
  obtain ⟨d, off, rfl, hbd, hcc⟩ := hi.at_ (by simp)
  have c0 : w.cell? ⟨d, off, none⟩ = some (.int .i64 3) := hcc 0 (by simp)
  have c1 : w.cell? ⟨d, off + 1, none⟩ = some (.int .i64 n) := hcc 1 (by simp)
  clear hi hcc hcl
  show Calls Try.prog 37 #[u, .slice (some ⟨d, off, none⟩) 2 c, vb, .bool true] w _
  obtain ⟨l0, hl0⟩ : ∃ l : Nat, 2 * n = l := ⟨_, rfl⟩
  have hw0 : IntKind.i64.wrap (2 * (n : Int)) = (l0 : Int) := by rw [IntWalk.i64_in _ (by omega)]; omega
  obtain ⟨L, hLn⟩ : ∃ L : Nat, 2 * n + 1 = L := ⟨_, rfl⟩
  have hw1 : IntKind.i64.wrap ((l0 : Int) + 1) = (L : Int) := by rw [IntWalk.i64_in _ (by omega)]; omega
  have hl00 : l0 ≤ 1998 := by omega
  clear hl0
  have hL : L ≤ 1999 := by omega
  have hget : zss.getD L [] = rowOf (σ (3, n)) := by rw [← hLn]; exact (hrep n).2
  have hcov : covT (.rest n) T σ = match σ (3, n) with | none => some (σ.set (3, n) T) | some v => if eqTy v T = true then some σ else none := rfl
  have HB := Lib.hid (And.intro hu hb)
  obtain ⟨U, cu, rfl, _, hat⟩ := id hu
  obtain ⟨B, cb, rfl, _⟩ := id hb
  rcases hs : σ (3, n) with _ | V
  · rw [hs] at hget hcov
    have hset : Rep (σ.set (3, n) T) ((padTo zss L).set L T.nums) := by rw [← hLn]; exact hrep.set3 n T
    have HC := Lib.hid (And.intro hcov hset); clear hcov hset hrep hσ hs
    have key : (¬ L < zss.length) ∨ (L < zss.length ∧ ∃ b o A' c', U = some ⟨b, o, none⟩ ∧ w.cell? ⟨b, o + L, none⟩ = some (.slice A' 0 c')) := by
      by_cases h : L < zss.length
      · refine .inr ⟨h, ?_⟩
        obtain ⟨b, o, rfl, hlt, hc⟩ := hat (by omega)
        have hz : zss[L]? = some [] := by rw [List.getElem?_eq_getElem h]; simp [List.getD, List.getElem?_eq_getElem h, rowOf] at hget; rw [hget]
        obtain ⟨q, hq, A', c', rfl, _⟩ := hc L [] hz
        exact ⟨b, o, A', c', rfl, hq⟩
      · exact .inl h
    clear hget hat hu hb
    have hal : Below w.heap.size w (w.alloc (.cells #[] 23)) := (Below.refl _ _).alloc (Nat.le_refl _) _
    have HA := Lib.hid (And.intro (OwnQ.nil _ w.heap.size (Blk.new w #[] 23)) (rows_apart HB.out.1 hal)); clear hal
    have bne : (0 : Int) < 0 ↔ False := by simp
    rcases key with hlt | ⟨hlt, b, o, A', c', rfl, hcell⟩
    · have hltI : ¬ (L : Int) < (zss.length : Int) := by omega
      go_enter Try.func37, Try.ntmps37
      go_wp2_with (at_builtin; refine wpList_append_rowsQ rfl _ _ _ rfl Try.underlying62 rowInfo w.heap.size (w.heap.size + 1) _ [] rfl (by simp) HA.out.1 _ cu zss rfl (by simp; omega) HA.out.2 ?_)
      intro v1 w1 ho1 hb1
      try rw [List.nil_append] at ho1
      have X1 := Lib.hid (And.intro ho1 hb1); clear ho1 hb1
      go_wp2
      go_loopw [11] (fun v wr => ∃ j : Nat, OwnQ wr w.heap.size wr.heap.size v (zss ++ List.replicate j []) ∧ Below w.heap.size w wr ∧ (j = 0 ∨ zss.length + j ≤ L + 1)) (fun v _ => L + 2 - lenV v)
      case atStart => exact ⟨0, by simpa using X1.out.1, (by have h2 := (Below.refl w.heap.size w).alloc (Nat.le_refl _) (.cells #[] 23); exact h2.trans X1.out.2), .inl rfl⟩
      case round =>
        obtain ⟨j, ho, hbw, hj⟩ := hrel
        obtain ⟨M, hM⟩ : ∃ M, (zss ++ List.replicate j ([] : List Int)).length = M := ⟨_, rfl⟩
        have hMj : M = zss.length + j := by rw [← hM]; simp
        obtain ⟨A9, c9, rfl⟩ := ownQ_form ho
        rw [hM] at ho ⊢
        have hwr := hbw.size
        by_cases hc : M ≤ L
        · have hcI : (M : Int) ≤ (L : Int) := by omega
          have hb2 : Below wr.heap.size wr ((wr.alloc (.cells #[] 3)).alloc (.cells #[.slice (some ⟨wr.heap.size, 0, none⟩) 0 0] 23)) := ((Below.refl _ _).alloc (Nat.le_refl _) _).alloc (by simp) _
          have k2 : ((wr.alloc (.cells #[] 3)).alloc (.cells #[.slice (some ⟨wr.heap.size, 0, none⟩) 0 0] 23)).cell? ⟨wr.heap.size + 1, 0, none⟩ = some (.slice (some ⟨wr.heap.size, 0, none⟩) 0 0) := by
            have h := (Blk.new (wr.alloc (.cells #[] 3)) #[.slice (some ⟨wr.heap.size, 0, none⟩) 0 0] 23).cell 0
            rw [World.size_alloc] at h
            exact h
          have Y := Lib.hid (And.intro (ho.below hb2) (And.intro (hbw.trans (hb2.mono hwr)) (show 0 < ([[]] : List (List Int)).length → ∃ b off, (some ⟨wr.heap.size + 1, 0, none⟩ : Option Addr) = some ⟨b, off, none⟩ ∧ ∀ (i : Nat) ys, ([[]] : List (List Int))[i]? = some ys → ∃ q, ((wr.alloc (.cells #[] 3)).alloc (.cells #[.slice (some ⟨wr.heap.size, 0, none⟩) 0 0] 23)).cell? ⟨b, off + i, none⟩ = some q ∧ Apart 0 ((wr.alloc (.cells #[] 3)).alloc (.cells #[.slice (some ⟨wr.heap.size, 0, none⟩) 0 0] 23)) (Value.slice A9 M c9).ownBlock q ys from
            fun _ => ⟨_, 0, rfl, fun i ys hi => by
              rcases i with _ | i
              · simp at hi; subst hi; exact ⟨_, k2, nil_apart _ _ _⟩
              · simp at hi⟩)))
          have HM := Lib.hid (And.intro hM (And.intro hMj hj)); clear hb2 k2 ho hbw hM hMj hj
          go_wp2_with (at_builtin; refine wpList_append_rowsQ rfl _ _ _ rfl Try.underlying62 rowInfo w.heap.size wr.heap.size (.slice A9 M c9) (zss ++ List.replicate j []) rfl (by simp; omega) Y.out.1 _ 1 [[]] rfl (by rw [HM.out.1]; simp; omega) Y.out.2.2 ?_)
          intro v2 w2 ho2 hb2
          try rw [List.append_assoc] at ho2
          rw [show List.replicate j ([] : List Int) ++ [[]] = List.replicate (j + 1) [] from (List.replicate_succ' ..).symm] at ho2
          have hlen2 : lenV v2 = M + 1 := by
            obtain ⟨vs, _, h2, _⟩ := id ho2
            obtain ⟨A8, c8, h⟩ := ownsRow_form h2
            rw [h]
            have := HM.out.2.1
            simp [lenV]; omega
          have V := Lib.hid (And.intro ho2 (Y.out.2.1.trans hb2)); clear ho2 hb2 Y
          have hjj : zss.length + (j + 1) ≤ L + 1 := by have := HM.out.2.1; omega
          go_wp2
          go_roundw
          case rel => exact ⟨j + 1, V.out.1, V.out.2, .inr hjj⟩
          case measure => rw [hlen2]; simp [lenV]; omega
        · have hcI : ¬ (M : Int) ≤ (L : Int) := by omega
          have hLM : (L : Int) < (M : Int) := by omega
          have hL0 : (0 : Int) ≤ (L : Int) := by omega
          have hpad : zss ++ List.replicate j [] = padTo zss L := by
            unfold padTo
            rw [show L + 1 - zss.length = j by omega]
          obtain ⟨vs, h1, h2, h3, h4⟩ := id ho
          rw [hM] at h2
          obtain ⟨g, rfl⟩ := form_some h2 (by omega)
          have hgl := (h2.lt g rfl).1
          obtain ⟨x, hx⟩ : ∃ x, wr.cell? ⟨g, L, none⟩ = some x := ⟨vs[L]'(by omega), by rw [h2.cellAt L (by omega)]; exact List.getElem?_eq_getElem (by omega)⟩
          have hfr := h2.frozenAt L
          rw [← hM] at ho
          have hset := OwnQ.set ho (RdBI.apart_old (show RdBI w w.heap.size _ T.nums from HB.out.2) (HB.out.2.step hbw) hgl) (k := L) (zs := T.nums) (by rw [hM]; omega)
          rw [List.length_set, hM, hpad] at hset
          have hfin : ((padTo zss L).set L T.nums).length ≤ 2000 := by rw [List.length_set, padTo_len]; omega
          have V := Lib.hid (And.intro hset.1 (hbw.trans hset.2)); clear hset ho hbw h1 h2 h3 h4 hM hMj hj hpad
          go_wp2
          go_ret2
          refine ⟨_, true, rfl, V.out.2, fun h => (by cases h), fun _ => ⟨_, _, HC.out.1, HC.out.2, hfin, ?_⟩⟩
          have hr := V.out.1.rd (by omega)
          exact hr
    · have hltI : (L : Int) < (zss.length : Int) := by omega
      have hL0I : (0 : Int) ≤ (L : Int) := by omega
      clear bne
      go_enter Try.func37, Try.ntmps37
      go_wp2_with (at_builtin; refine wpList_append_rowsQ rfl _ _ _ rfl Try.underlying62 rowInfo w.heap.size (w.heap.size + 1) _ [] rfl (by simp) HA.out.1 _ cu zss rfl (by simp; omega) HA.out.2 ?_)
      intro v1 w1 ho1 hb1
      try rw [List.nil_append] at ho1
      have X1 := Lib.hid (And.intro ho1 hb1); clear ho1 hb1
      go_wp2
      go_loopw [11] (fun v wr => ∃ j : Nat, OwnQ wr w.heap.size wr.heap.size v (zss ++ List.replicate j []) ∧ Below w.heap.size w wr ∧ (j = 0 ∨ zss.length + j ≤ L + 1)) (fun v _ => L + 2 - lenV v)
      case atStart => exact ⟨0, by simpa using X1.out.1, (by have h2 := (Below.refl w.heap.size w).alloc (Nat.le_refl _) (.cells #[] 23); exact h2.trans X1.out.2), .inl rfl⟩
      case round =>
        obtain ⟨j, ho, hbw, hj⟩ := hrel
        obtain ⟨M, hM⟩ : ∃ M, (zss ++ List.replicate j ([] : List Int)).length = M := ⟨_, rfl⟩
        have hMj : M = zss.length + j := by rw [← hM]; simp
        obtain ⟨A9, c9, rfl⟩ := ownQ_form ho
        rw [hM] at ho ⊢
        have hwr := hbw.size
        by_cases hc : M ≤ L
        · have hcI : (M : Int) ≤ (L : Int) := by omega
          have hb2 : Below wr.heap.size wr ((wr.alloc (.cells #[] 3)).alloc (.cells #[.slice (some ⟨wr.heap.size, 0, none⟩) 0 0] 23)) := ((Below.refl _ _).alloc (Nat.le_refl _) _).alloc (by simp) _
          have k2 : ((wr.alloc (.cells #[] 3)).alloc (.cells #[.slice (some ⟨wr.heap.size, 0, none⟩) 0 0] 23)).cell? ⟨wr.heap.size + 1, 0, none⟩ = some (.slice (some ⟨wr.heap.size, 0, none⟩) 0 0) := by
            have h := (Blk.new (wr.alloc (.cells #[] 3)) #[.slice (some ⟨wr.heap.size, 0, none⟩) 0 0] 23).cell 0
            rw [World.size_alloc] at h
            exact h
          have Y := Lib.hid (And.intro (ho.below hb2) (And.intro (hbw.trans (hb2.mono hwr)) (show 0 < ([[]] : List (List Int)).length → ∃ b off, (some ⟨wr.heap.size + 1, 0, none⟩ : Option Addr) = some ⟨b, off, none⟩ ∧ ∀ (i : Nat) ys, ([[]] : List (List Int))[i]? = some ys → ∃ q, ((wr.alloc (.cells #[] 3)).alloc (.cells #[.slice (some ⟨wr.heap.size, 0, none⟩) 0 0] 23)).cell? ⟨b, off + i, none⟩ = some q ∧ Apart 0 ((wr.alloc (.cells #[] 3)).alloc (.cells #[.slice (some ⟨wr.heap.size, 0, none⟩) 0 0] 23)) (Value.slice A9 M c9).ownBlock q ys from
            fun _ => ⟨_, 0, rfl, fun i ys hi => by
              rcases i with _ | i
              · simp at hi; subst hi; exact ⟨_, k2, nil_apart _ _ _⟩
              · simp at hi⟩)))
          have HM := Lib.hid (And.intro hM (And.intro hMj hj)); clear hb2 k2 ho hbw hM hMj hj
          go_wp2_with (at_builtin; refine wpList_append_rowsQ rfl _ _ _ rfl Try.underlying62 rowInfo w.heap.size wr.heap.size (.slice A9 M c9) (zss ++ List.replicate j []) rfl (by simp; omega) Y.out.1 _ 1 [[]] rfl (by rw [HM.out.1]; simp; omega) Y.out.2.2 ?_)
          intro v2 w2 ho2 hb2
          try rw [List.append_assoc] at ho2
          rw [show List.replicate j ([] : List Int) ++ [[]] = List.replicate (j + 1) [] from (List.replicate_succ' ..).symm] at ho2
          have hlen2 : lenV v2 = M + 1 := by
            obtain ⟨vs, _, h2, _⟩ := id ho2
            obtain ⟨A8, c8, h⟩ := ownsRow_form h2
            rw [h]
            have := HM.out.2.1
            simp [lenV]; omega
          have V := Lib.hid (And.intro ho2 (Y.out.2.1.trans hb2)); clear ho2 hb2 Y
          have hjj : zss.length + (j + 1) ≤ L + 1 := by have := HM.out.2.1; omega
          go_wp2
          go_roundw
          case rel => exact ⟨j + 1, V.out.1, V.out.2, .inr hjj⟩
          case measure => rw [hlen2]; simp [lenV]; omega
        · have hcI : ¬ (M : Int) ≤ (L : Int) := by omega
          have hLM : (L : Int) < (M : Int) := by omega
          have hL0 : (0 : Int) ≤ (L : Int) := by omega
          have hpad : zss ++ List.replicate j [] = padTo zss L := by
            unfold padTo
            rw [show L + 1 - zss.length = j by omega]
          obtain ⟨vs, h1, h2, h3, h4⟩ := id ho
          rw [hM] at h2
          obtain ⟨g, rfl⟩ := form_some h2 (by omega)
          have hgl := (h2.lt g rfl).1
          obtain ⟨x, hx⟩ : ∃ x, wr.cell? ⟨g, L, none⟩ = some x := ⟨vs[L]'(by omega), by rw [h2.cellAt L (by omega)]; exact List.getElem?_eq_getElem (by omega)⟩
          have hfr := h2.frozenAt L
          rw [← hM] at ho
          have hset := OwnQ.set ho (RdBI.apart_old (show RdBI w w.heap.size _ T.nums from HB.out.2) (HB.out.2.step hbw) hgl) (k := L) (zs := T.nums) (by rw [hM]; omega)
          rw [List.length_set, hM, hpad] at hset
          have hfin : ((padTo zss L).set L T.nums).length ≤ 2000 := by rw [List.length_set, padTo_len]; omega
          have V := Lib.hid (And.intro hset.1 (hbw.trans hset.2)); clear hset ho hbw h1 h2 h3 h4 hM hMj hj hpad
          go_wp2
          go_ret2
          refine ⟨_, true, rfl, V.out.2, fun h => (by cases h), fun _ => ⟨_, _, HC.out.1, HC.out.2, hfin, ?_⟩⟩
          have hr := V.out.1.rd (by omega)
          exact hr
  · rw [hs] at hget hcov
    dsimp only at hcov
    have hVn : V.nums ≠ [] := by have := nums_pos V; intro h; rw [h] at this; simp at this
    have hlt : L < zss.length := by
      rcases Nat.lt_or_ge L zss.length with h | h
      · exact h
      · simp [List.getD, List.getElem?_eq_none h, rowOf] at hget; exact absurd hget hVn
    obtain ⟨b, o, rfl, hblt, hc⟩ := hat (by omega)
    have hz : zss[L]? = some V.nums := by rw [List.getElem?_eq_getElem hlt]; simp [List.getD, List.getElem?_eq_getElem hlt, rowOf] at hget; rw [hget]
    obtain ⟨q, hq, hqr⟩ := hc L _ hz
    have hVo : V.ok true := ((hσ n V).2 hs).1
    have hdec : decide (V.nums = T.nums) = eqTy V T := (eqTy_nums hVo hT).symm
    have HQ := Lib.hid (And.intro hqr (And.intro hdec (And.intro hcov hrep)))
    obtain ⟨Aq, cq, rfl, _⟩ := id hqr
    have hVl : 0 < V.nums.length := nums_pos V
    have hVI : (0 : Int) < (V.nums.length : Int) := by omega
    have hltI : (L : Int) < (zss.length : Int) := by omega
    clear hget hcov hz hc hat hu hb hqr hdec hrep hσ hs hVo
    go_enter Try.func37, Try.ntmps37
    go_wp2_with fail
    refine (l1Same_any _ _ V.nums T.nums _ HQ.out.1 HB.out.2).mono ?_
    rw [HQ.out.2.1]
    rintro e w1 ⟨rfl, hb1⟩
    have Z := Lib.hid (And.intro hb1 (RdS.step HB.out.1 hb1)); clear hb1
    go_wp2
    go_ret2
    refine ⟨_, _, rfl, Z.out.1, fun h => ?_, fun h => ?_⟩
    · rw [HQ.out.2.2.1, h]; rfl
    · exact ⟨σ, zss, by rw [HQ.out.2.2.1, h]; rfl, HQ.out.2.2.2, hlz, Z.out.2⟩
end Go.Proofs.Ytceekfoacgoalaa
