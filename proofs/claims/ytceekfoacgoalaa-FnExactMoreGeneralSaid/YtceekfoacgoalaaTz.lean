/- The model's l3Tidy and EffectOk. -/
import Derived.Test.YtceekfoacgoalaaTy
import Derived.Test.YtceekfoacgoalaaB5
import Derived.Test.YtceekfoacgoalaaBq
namespace Go.Proofs.Ytceekfoacgoalaa
set_option maxRecDepth 100000
open Go.RowKit Go.WideShapes Go.Deep

theorem wholeR_some {zs : List Int} {ls l : List (Int × Int)} (h : wholeR zs ls = some l) : zs.length ≤ 150 ∧ eat zs.length true zs = some [] ∧ l = lets zs.length true zs ls := by
  unfold wholeR at h
  split at h
  · rename_i hc; cases h; exact ⟨hc.1, hc.2, rfl⟩
  · cases h
theorem wholeR_of_row {zs : List Int} (h : rowB zs = true) (ls : List (Int × Int)) : wholeR zs ls = some (lets zs.length true zs ls) := by
  unfold rowB at h
  rcases h3 : wholeR zs [] with _ | l
  · rw [h3] at h; cases h
  · obtain ⟨h1, h2, _⟩ := wholeR_some h3
    unfold wholeR; rw [if_pos ⟨h1, h2⟩]
theorem letters_row (v ov : Value) (zs : List Int) (ls l : List (Int × Int)) (w : World) (hv : RdI w v zs) (ho : RdI w ov (ls.map code)) (hk : ∀ x ∈ ls, x.1 = 1 ∨ x.1 = 3) (hw : wholeR zs ls = some l) (hl : ls.length ≤ 900000) :
    Calls Try.prog 51 #[v, ov, .int .i64 0, .bool true] w fun e w' => ∃ u, e = .returned u ∧ RdI w' u (l.map code) ∧ Below w.heap.size w w' := by
  obtain ⟨h1, h2, h3⟩ := wholeR_some hw
  have h := l3Letters_any zs.length true v ov zs [] ls 0 w hv ho hk (by omega) (by simpa using h2) (by simp; omega)
  refine (show Calls Try.prog 51 #[v, ov, .int .i64 0, .bool true] w (LetPost zs.length true zs 0 ls w) from h).mono ?_
  rintro e w' ⟨u, rfl, hu, hb⟩
  exact ⟨u, rfl, by rw [h3]; simpa using hu, hb⟩
theorem named_row (v ov : Value) (zs : List Int) (L : List (Int × Int)) (w : World) (hv : RdI w v zs) (ho : RdI w ov (L.map code)) (hL : ∀ x ∈ L, (x.1 = 1 ∨ x.1 = 3) ∧ 0 ≤ x.2 ∧ x.2 ≤ 999) (hl : zs.length ≤ 150) (hll : L.length ≤ 1000000) (he : eat zs.length true zs = some []) (hocc : ∀ x ∈ occ zs.length true zs, x ∈ L) :
    Calls Try.prog 52 #[v, ov, .int .i64 0, .bool true] w (NamPost (nam zs.length true zs L) w) := by
  have h := l3Named_any zs.length true v ov zs [] L 0 w hv ho hL (by omega) hll (by simpa using he) (by simpa using hocc)
  simpa using h

def TidyPost (N0 N1 : List Int) (w : World) (e : Ending) (w' : World) : Prop := ∃ u0 u1, e = .returned (.agg #[u0, u1]) ∧ RdI w' u0 N0 ∧ RdI w' u1 N1 ∧ Below w.heap.size w w'
set_option maxHeartbeats 4000000 in
theorem l3Tidy_any (v0 v1 : Value) (a b : List Int) (la lb : List (Int × Int)) (w : World) (h0 : RdI w v0 a) (h1 : RdI w v1 b) (ha : wholeR a [] = some la) (hb : wholeR b la = some lb) :
    Calls Try.prog 31 #[.agg #[v0, v1]] w (TidyPost (nam a.length true a lb) (nam b.length true b lb) w) := by
  obtain ⟨a1, a2, a3⟩ := wholeR_some ha
  obtain ⟨b1, b2, b3⟩ := wholeR_some hb
  have hka : ∀ x ∈ la, x.1 = 1 ∨ x.1 = 3 := wholeR_kinds (by simp) ha
  have hlal : la.length ≤ 150 := by have := lets_len a2 []; rw [← a3] at this; simp at this; omega
  have hlbl : lb.length ≤ 300 := by have := lets_len b2 la; rw [← b3] at this; simp at this; omega
  have hmem : ∀ x, x ∈ lb ↔ x ∈ occ a.length true a ∨ x ∈ occ b.length true b := by
    intro x
    rw [b3, lets_mem b2, a3, lets_mem a2]; simp
  have hLB : ∀ x ∈ lb, (x.1 = 1 ∨ x.1 = 3) ∧ 0 ≤ x.2 ∧ x.2 ≤ 999 := by
    intro x hx
    rcases (hmem x).1 hx with h | h
    · exact occ_bd a2 x h
    · exact occ_bd b2 x h
  have hoa : ∀ x ∈ occ a.length true a, x ∈ lb := fun x h => (hmem x).2 (.inl h)
  have hob : ∀ x ∈ occ b.length true b, x ∈ lb := fun x h => (hmem x).2 (.inr h)
  have HW := Lib.hid (And.intro ha (And.intro hb (And.intro hka (And.intro hLB (And.intro hoa (And.intro hob (And.intro a2 b2)))))))
  obtain ⟨N0, hN0⟩ : ∃ N, nam a.length true a lb = N := ⟨_, rfl⟩
  obtain ⟨N1, hN1⟩ : ∃ N, nam b.length true b lb = N := ⟨_, rfl⟩
  have HN := Lib.hid (And.intro hN0 hN1)
  rw [hN0, hN1]
  clear ha hb hka hLB hoa hob a2 b2 a3 b3 hmem hN0 hN1
  have hb0 : Below w.heap.size w ((w.alloc (.cells #[v0, v1] 25)).alloc (.cells #[.slice none 0 0, .slice none 0 0] 25)) := ((Below.refl _ _).alloc (Nat.le_refl _) _).alloc (by simp) _
  have bp0 := Blk.new w #[v0, v1] 25
  have ba : Below (w.heap.size + 1) (w.alloc (.cells #[v0, v1] 25)) ((w.alloc (.cells #[v0, v1] 25)).alloc (.cells #[.slice none 0 0, .slice none 0 0] 25)) := (Below.refl _ _).alloc (by simp) _
  have bp := bp0.below ba (by omega)
  have br := Blk.new (w.alloc (.cells #[v0, v1] 25)) #[.slice none 0 0, .slice none 0 0] 25
  rw [World.size_alloc] at br
  have HAt := Lib.hid (And.intro h0.at_ h1.at_)
  obtain ⟨A0, c0, rfl, _⟩ := h0
  obtain ⟨A1, c1, rfl, _⟩ := h1
  go_enter Try.func31, Try.ntmps31
  go_wp2
  generalize hG : ((w.alloc (.cells #[.slice A0 a.length c0, .slice A1 b.length c1] 25)).alloc (.cells #[.slice none 0 0, .slice none 0 0] 25)) = W at *
  have hWs : w.heap.size + 2 ≤ W.heap.size := by rw [← hG]; simp
  clear hG bp0 ba
  have c00 := bp.cell 0
  have c01 := bp.cell 1
  simp only [List.getElem?_toArray, List.getElem?_cons_zero, List.getElem?_cons_succ] at c00 c01
  have AL : ∀ W2 : World, Below W.heap.size W W2 → RdI W2 (.slice A0 a.length c0) a ∧ RdI W2 (.slice A1 b.length c1) b ∧ W2.cell? ⟨w.heap.size, 0, none⟩ = some (.slice A0 a.length c0) ∧ W2.cell? ⟨w.heap.size, 1, none⟩ = some (.slice A1 b.length c1) ∧ Blk W2 (w.heap.size + 1) #[.slice none 0 0, .slice none 0 0] 25 ∧ Below w.heap.size w W2 := by
    intro W2 h
    have hz := h.size
    have hbw := hb0.trans (h.mono (by omega))
    have b2 := bp.below h (by omega)
    have d0 := b2.cell 0
    have d1 := b2.cell 1
    simp only [List.getElem?_toArray, List.getElem?_cons_zero, List.getElem?_cons_succ] at d0 d1
    exact ⟨(HAt.out.1.below hbw).rd (by omega), (HAt.out.2.below hbw).rd (by omega), d0, d1, br.below h (by omega), hbw⟩
  have HA := Lib.hid AL; clear AL bp br hb0
  have L0 : OwnI (W.alloc (.cells #[] 3)) W.heap.size (W.heap.size + 1) (.slice (some ⟨W.heap.size, 0, none⟩) 0 0) [] := by simpa using lits_own W [] (by simp) (by simp)
  have RL : RdI (W.alloc (.cells #[] 3)).drew (.slice (some ⟨W.heap.size, 0, none⟩) 0 0) (([] : List (Int × Int)).map code) := L0.rd.step ((Below.refl _ _).drew)
  have RLIT := Lib.hid RL; clear L0 RL
  go_region_held3 (fun w' => w'.cell? ⟨w.heap.size, 0, none⟩ = some (.slice A0 a.length c0) ∧ w'.cell? ⟨w.heap.size, 1, none⟩ = some (.slice A1 b.length c1)) (repeat' (first | exact c00 | exact c01 | exact x0 | exact x1 | exact y0 | exact y1 | apply And.intro | rw [World.cell?_drew] | rw [World.cell?_alloc_lt _ _ _ (by first | omega | (simp; omega))])) (first
    | (go_at_call 51; refine (letters_row _ _ b la lb _ (HA.out wX X1.out.1).2.1 X1.out.2 HW.out.2.2.1 HW.out.2.1 (by omega)).mono ?_; rintro e wY ⟨uY, rfl, huY, hbY⟩; have Y1 := Lib.hid (And.intro (X1.out.1.trans (hbY.mono X1.out.1.size)) huY); have y0 := (HA.out wY Y1.out.1).2.2.1; have y1 := (HA.out wY Y1.out.1).2.2.2.1; clear hbY huY)
    | (go_at_call 51; refine (letters_row _ _ a [] la _ ?_ ?_ (by simp) HW.out.1 (by simp)).mono ?_; (· exact (HA.out _ ((((Below.refl W.heap.size W).alloc (Nat.le_refl _) (.cells #[] 3))).drew)).1); (· exact RLIT.out); rintro e wX ⟨uX, rfl, huX, hbX⟩; have X1 := Lib.hid (And.intro ((((Below.refl W.heap.size W).alloc (Nat.le_refl _) (.cells #[] 3)).drew).trans (hbX.mono (by show W.heap.size ≤ (W.alloc (.cells #[] 3)).heap.size; simp))) huX); have x0 := (HA.out wX X1.out.1).2.2.1; have x1 := (HA.out wX X1.out.1).2.2.2.1; clear hbX huX)
    | fail)
  obtain ⟨AL0, cL0, rfl, _⟩ := Y1.out.2
  rw [List.length_map] at Y1 ⊢
  generalize hnl : lb.length = nl at *
  have HNL := Lib.hid hnl; clear hnl
  have z0 := (HA.out wY Y1.out.1).2.2.1
  have z1 := (HA.out wY Y1.out.1).2.2.2.1
  have bD : Below W.heap.size W wY.drew := Y1.out.1.trans (((Below.refl wY.heap.size wY).drew).mono Y1.out.1.size)
  have hzY : W.heap.size ≤ wY.heap.size := Y1.out.1.size
  have RD := Lib.hid (And.intro bD (Y1.out.2.step ((Below.refl _ _).drew))); clear bD x0 x1 y0 y1 c00 c01
  go_wp2
  go_region_held3 (fun w' => w'.cell? ⟨w.heap.size, 0, none⟩ = some (.slice A0 a.length c0) ∧ w'.cell? ⟨w.heap.size, 1, none⟩ = some (.slice A1 b.length c1)) (repeat' (first | with_reducible exact z0 | with_reducible exact z1 | with_reducible exact p0 | with_reducible exact p1 | with_reducible exact q0 | with_reducible exact q1 | with_reducible exact r0 | with_reducible exact r1 | apply And.intro | rw [World.cell?_drew])) (first
    | (go_at_call 52; refine (named_row _ _ b lb _ (HA.out wP P1.out.1).2.1 P1.out.2.1 HW.out.2.2.2.1 b1 (by rw [HNL.out]; omega) HW.out.2.2.2.2.2.2.2 HW.out.2.2.2.2.2.1).mono ?_; rw [HN.out.2]; rintro e wQ ⟨uQ, rfl, huQ, hbQ⟩; obtain ⟨AQ, cQ, rfl, _⟩ := huQ.rd; have bQ : Below W.heap.size W wQ := P1.out.1.trans (hbQ.mono P1.out.1.size); have Q1 := Lib.hid (And.intro bQ (And.intro (P1.out.2.2.below hbQ) huQ)); have q0 := (HA.out wQ bQ).2.2.1; have q1 := (HA.out wQ bQ).2.2.2.1; have hrb := (HA.out wQ bQ).2.2.2.2.1; have k0 := hrb.cell 0; have k1 := hrb.cell 1; have f0 := hrb.free 0; have f1 := hrb.free 1; simp only [List.getElem?_toArray, List.getElem?_cons_zero, List.getElem?_cons_succ] at k0 k1; have hzQ := bQ.size; have FB := Lib.hid hrb; have r0 := ((((Below.refl (w.heap.size + 1) wQ).setCell (p := ⟨w.heap.size + 1, 0, none⟩) (Nat.le_refl _) (.slice AP N0.length cP)).setCell (p := ⟨w.heap.size + 1, 1, none⟩) (Nat.le_refl _) (.slice AQ N1.length cQ)).cell (p := ⟨w.heap.size, 0, none⟩) (Nat.lt_succ_self _)).trans q0; have r1 := ((((Below.refl (w.heap.size + 1) wQ).setCell (p := ⟨w.heap.size + 1, 0, none⟩) (Nat.le_refl _) (.slice AP N0.length cP)).setCell (p := ⟨w.heap.size + 1, 1, none⟩) (Nat.le_refl _) (.slice AQ N1.length cQ)).cell (p := ⟨w.heap.size, 1, none⟩) (Nat.lt_succ_self _)).trans q1; clear huQ hbQ bQ hrb)
    | (go_at_call 52; refine (named_row _ _ a lb _ (HA.out _ RD.out.1).1 RD.out.2 HW.out.2.2.2.1 a1 (by rw [HNL.out]; omega) HW.out.2.2.2.2.2.2.1 HW.out.2.2.2.2.1).mono ?_; rw [HN.out.1]; rintro e wP ⟨uP, rfl, huP, hbP⟩; obtain ⟨AP, cP, rfl, _⟩ := huP.rd; have bP : Below W.heap.size W wP := RD.out.1.trans (hbP.mono RD.out.1.size); have hzP : wY.heap.size ≤ wP.heap.size := hbP.size; have P1 := Lib.hid (And.intro bP (And.intro (RD.out.2.step hbP) huP)); have p0 := (HA.out wP bP).2.2.1; have p1 := (HA.out wP bP).2.2.2.1; clear huP hbP bP)
    | fail)
  have e0 := ((FB.out.set 0 (.slice AP N0.length cP)).set 1 (.slice AQ N1.length cQ)).cell 0
  have e1 := ((FB.out.set 0 (.slice AP N0.length cP)).set 1 (.slice AQ N1.length cQ)).cell 1
  simp only [List.setIfInBounds_toArray, List.set_cons_zero, List.set_cons_succ, List.getElem?_toArray, List.getElem?_cons_zero, List.getElem?_cons_succ] at e0 e1
  have Z := Lib.hid (And.intro ((Q1.out.2.1.apart (within_setCell wQ (w.heap.size + 1) 0 (.slice AP N0.length cP)) (.inr (by show w.heap.size + 1 + 1 ≤ wY.heap.size; omega))).apart (within_setCell _ (w.heap.size + 1) 1 (.slice AQ N1.length cQ)) (.inr (by show w.heap.size + 1 + 1 ≤ wY.heap.size; omega))).rd (And.intro ((Q1.out.2.2.apart (within_setCell wQ (w.heap.size + 1) 0 (.slice AP N0.length cP)) (.inr (by omega))).apart (within_setCell _ (w.heap.size + 1) 1 (.slice AQ N1.length cQ)) (.inr (by omega))).rd (show Below w.heap.size w ((wQ.setCell ⟨w.heap.size + 1, 0, none⟩ (.slice AP N0.length cP)).setCell ⟨w.heap.size + 1, 1, none⟩ (.slice AQ N1.length cQ)) from ((HA.out wQ Q1.out.1).2.2.2.2.2.setCell (by simp) _).setCell (by simp) _)))
  clear k0 k1 q0 q1 r0 r1 p0 p1
  go_wp2
  refine bodyPost_ret (v := .agg #[.slice AP N0.length cP, .slice AQ N1.length cQ]) (by simp [results, Try.results31, go_sem, e0, e1]) rfl ?_
  exact ⟨_, _, rfl, Z.out⟩

theorem effB_no {a b : List Int} (h : rowB a = false ∨ rowB b = false) : effB a b = false := by
  unfold effB effL
  rcases h3 : wholeR a [] with _ | la
  · simp
  · rcases h with h | h
    · unfold rowB at h; rw [h3] at h; cases h
    · simp only [Option.bind_some]
      rcases h4 : wholeR b la with _ | lb
      · rfl
      · obtain ⟨h5, h6, _⟩ := wholeR_some h4
        unfold rowB wholeR at h; rw [if_pos ⟨h5, h6⟩] at h; cases h
theorem effB_yes {a b : List Int} (ha : rowB a = true) (hb : rowB b = true) : ∃ la lb, wholeR a [] = some la ∧ wholeR b la = some lb ∧ effB a b = nameB 0 0 lb := by
  refine ⟨_, _, wholeR_of_row ha [], wholeR_of_row hb _, ?_⟩
  unfold effB effL
  rw [wholeR_of_row ha []]
  simp only [Option.bind_some]
  rw [wholeR_of_row hb]
set_option maxHeartbeats 4000000 in
theorem EffectOk_S (v0 v1 : Value) (a b : List Int) (w : World) (h0 : RdI w v0 a) (h1 : RdI w v1 b) (hl0 : a.length ≤ 1048576) (hl1 : b.length ≤ 1048576) (y : Bool) (hy : effB a b = y) :
    Calls Try.prog 9 #[.agg #[v0, v1]] w fun e w' => e = .returned (.bool y) ∧ Below w.heap.size w w' := by
  have hb0 : Below w.heap.size w (w.alloc (.cells #[v0, v1] 25)) := (Below.refl _ _).alloc (Nat.le_refl _) _
  have bp := Blk.new w #[v0, v1] 25
  have H := Lib.hid (And.intro (h0.step hb0) (And.intro (h1.step hb0) (And.intro hb0 bp)))
  have HAt := Lib.hid (And.intro h0.at_ h1.at_)
  obtain ⟨A0, c0, rfl, _⟩ := h0
  obtain ⟨A1, c1, rfl, _⟩ := h1
  clear hb0 bp
  have HY := Lib.hid hy; clear hy
  rcases ha : rowB a with _ | _ <;> have Ha := Lib.hid ha <;> clear ha
  · obtain rfl : false = y := by rw [← HY.out, effB_no (.inl Ha.out)]
    go_enter Try.func9, Try.ntmps9
    go_wp2_with fail
    refine (RowOk_S _ a _ H.out.1 hl0 false Ha.out).mono ?_
    rintro e w1 ⟨rfl, hb⟩
    have X := Lib.hid (H.out.2.2.1.trans (hb.mono (by simp))); clear hb
    go_wp2
    go_ret
    exact ⟨rfl, X.out⟩
  go_enter Try.func9, Try.ntmps9
  go_wp2_with fail
  refine (RowOk_S _ a _ H.out.1 hl0 true Ha.out).mono ?_
  rintro e w1 ⟨rfl, hb⟩
  have hz1 : w.heap.size + 1 ≤ w1.heap.size := by have := hb.size; simpa using this
  have b1 := H.out.2.2.2.below hb (by simp)
  have c10 := b1.cell 0
  have c11 := b1.cell 1
  simp only [List.getElem?_toArray, List.getElem?_cons_zero, List.getElem?_cons_succ] at c10 c11
  have S1 := Lib.hid (And.intro (H.out.1.step hb) (And.intro (H.out.2.1.step hb) (And.intro (H.out.2.2.1.trans (hb.mono (by simp))) b1))); clear hb b1 H
  rcases hbb : rowB b with _ | _ <;> have Hb := Lib.hid hbb <;> clear hbb
  · obtain rfl : false = y := by rw [← HY.out, effB_no (.inr Hb.out)]
    go_wp2_with fail
    refine (RowOk_S _ b _ S1.out.2.1 hl1 false Hb.out).mono ?_
    rintro e w2 ⟨rfl, hb⟩
    have X := Lib.hid (S1.out.2.2.1.trans (hb.mono (by omega))); clear hb
    go_wp2
    go_ret
    exact ⟨rfl, X.out⟩
  obtain ⟨la, lb, hla, hlb, heq⟩ := effB_yes Ha.out Hb.out
  rw [← tidy_iff hla hlb] at heq
  have HE := Lib.hid (And.intro hla (And.intro hlb heq)); clear hla hlb heq
  obtain ⟨N0, hN0⟩ : ∃ N, nam a.length true a lb = N := ⟨_, rfl⟩
  obtain ⟨N1, hN1⟩ : ∃ N, nam b.length true b lb = N := ⟨_, rfl⟩
  have HN := Lib.hid (And.intro hN0 hN1); clear hN0 hN1
  go_wp2_with fail
  refine (RowOk_S _ b _ S1.out.2.1 hl1 true Hb.out).mono ?_
  rintro e w2 ⟨rfl, hb⟩
  have hz2 := hb.size
  have b2 := S1.out.2.2.2.below hb (by omega)
  have c20 := b2.cell 0
  have c21 := b2.cell 1
  simp only [List.getElem?_toArray, List.getElem?_cons_zero, List.getElem?_cons_succ] at c20 c21
  have S2 := Lib.hid (And.intro (S1.out.1.step hb) (And.intro (S1.out.2.1.step hb) (And.intro (S1.out.2.2.1.trans (hb.mono (by omega))) b2))); clear hb b2 S1 c10 c11
  go_wp2_with fail
  refine (l3Tidy_any _ _ a b la lb _ S2.out.1 S2.out.2.1 HE.out.1 HE.out.2.1).mono ?_
  rw [HN.out.1, HN.out.2]
  rintro e w3 ⟨u0, u1, rfl, hu0, hu1, hb⟩
  have hz3 := hb.size
  obtain ⟨U0, k0, rfl, _⟩ := id hu0
  obtain ⟨U1, k1, rfl, _⟩ := id hu1
  have hba : Below w3.heap.size w3 (w3.alloc (.cells #[.slice U0 N0.length k0, .slice U1 N1.length k1] 25)) := (Below.refl _ _).alloc (Nat.le_refl _) _
  have b3 := (S2.out.2.2.2.below hb (by omega)).below hba (by omega)
  have c30 := b3.cell 0
  have c31 := b3.cell 1
  simp only [List.getElem?_toArray, List.getElem?_cons_zero, List.getElem?_cons_succ] at c30 c31
  have bn := Blk.new w3 #[.slice U0 N0.length k0, .slice U1 N1.length k1] 25
  have S3 := Lib.hid (And.intro ((S2.out.1.step hb).step hba) (And.intro ((S2.out.2.1.step hb).step hba) (And.intro (S2.out.2.2.1.trans ((hb.trans (hba.mono hz3)).mono (by omega))) (And.intro b3 (And.intro (hu0.step hba) (And.intro (hu1.step hba) bn)))))); clear hb hba b3 bn hu0 hu1 S2 c20 c21
  by_cases d0 : N0 = a
  · have D0 := Lib.hid d0; clear d0
    by_cases d1 : N1 = b
    · have D1 := Lib.hid d1; clear d1
      obtain rfl : true = y := by rw [← HY.out, HE.out.2.2, HN.out.1, HN.out.2, decide_eq_true D0.out, decide_eq_true D1.out]; rfl
      go_wp2_with fail
      refine (l1Same_any _ _ N0 a _ S3.out.2.2.2.2.1 S3.out.1).mono ?_
      rw [decide_eq_true D0.out]
      rintro e w4 ⟨rfl, hb⟩
      have hz4 : w3.heap.size + 1 ≤ w4.heap.size := by have := hb.size; simpa using this
      have b4 := S3.out.2.2.2.1.below hb (by simp; omega)
      have n4 := S3.out.2.2.2.2.2.2.below hb (by simp)
      have c41 := b4.cell 1
      have m41 := n4.cell 1
      simp only [List.getElem?_toArray, List.getElem?_cons_zero, List.getElem?_cons_succ] at c41 m41
      have S4 := Lib.hid (And.intro (S3.out.2.1.step hb) (And.intro (S3.out.2.2.2.2.2.1.step hb) (S3.out.2.2.1.trans (hb.mono (by simp; omega))))); clear hb b4 n4
      go_wp2_with fail
      refine (l1Same_any _ _ N1 b _ S4.out.2.1 S4.out.1).mono ?_
      rw [decide_eq_true D1.out]
      rintro e w5 ⟨rfl, hb⟩
      have X := Lib.hid (S4.out.2.2.trans (hb.mono (by omega))); clear hb
      go_wp2
      go_ret
      exact ⟨rfl, X.out⟩
    · have D1 := Lib.hid d1; clear d1
      obtain rfl : false = y := by rw [← HY.out, HE.out.2.2, HN.out.1, HN.out.2, decide_eq_true D0.out, decide_eq_false D1.out]; rfl
      go_wp2_with fail
      refine (l1Same_any _ _ N0 a _ S3.out.2.2.2.2.1 S3.out.1).mono ?_
      rw [decide_eq_true D0.out]
      rintro e w4 ⟨rfl, hb⟩
      have hz4 : w3.heap.size + 1 ≤ w4.heap.size := by have := hb.size; simpa using this
      have b4 := S3.out.2.2.2.1.below hb (by simp; omega)
      have n4 := S3.out.2.2.2.2.2.2.below hb (by simp)
      have c41 := b4.cell 1
      have m41 := n4.cell 1
      simp only [List.getElem?_toArray, List.getElem?_cons_zero, List.getElem?_cons_succ] at c41 m41
      have S4 := Lib.hid (And.intro (S3.out.2.1.step hb) (And.intro (S3.out.2.2.2.2.2.1.step hb) (S3.out.2.2.1.trans (hb.mono (by simp; omega))))); clear hb b4 n4
      go_wp2_with fail
      refine (l1Same_any _ _ N1 b _ S4.out.2.1 S4.out.1).mono ?_
      rw [decide_eq_false D1.out]
      rintro e w5 ⟨rfl, hb⟩
      have X := Lib.hid (S4.out.2.2.trans (hb.mono (by omega))); clear hb
      go_wp2
      go_ret
      exact ⟨rfl, X.out⟩
  · have D0 := Lib.hid d0; clear d0
    obtain rfl : false = y := by rw [← HY.out, HE.out.2.2, HN.out.1, HN.out.2, decide_eq_false D0.out]; rfl
    go_wp2_with fail
    refine (l1Same_any _ _ N0 a _ S3.out.2.2.2.2.1 S3.out.1).mono ?_
    rw [decide_eq_false D0.out]
    rintro e w4 ⟨rfl, hb⟩
    have X := Lib.hid (S3.out.2.2.1.trans (hb.mono (by simp; omega))); clear hb
    go_wp2
    go_ret
    exact ⟨rfl, X.out⟩
end Go.Proofs.Ytceekfoacgoalaa
