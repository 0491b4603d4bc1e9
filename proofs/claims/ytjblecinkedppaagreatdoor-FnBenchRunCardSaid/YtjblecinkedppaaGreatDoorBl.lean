/- Several texts in one. -/
import Derived.Test.YtjblecinkedppaaGreatDoorBk
import Derived.Test.YtjblecinkedppaaGreatDoorSy
import Derived.Test.YtjblecinkedppaaGreatDoorBj
import Derived.Deep.RegionHeld3
/- The model's BenchDo: programs done. -/
namespace Go.Proofs.YtjblecinkedppaaGreatDoor
set_option maxRecDepth 100000
open Go.RowKit Go.WideShapes Go.Deep

theorem leftBy_four (n : List Int) (s : List UInt8) {p : List Int} {ok : Bool} {y0 : List (List Int)} {y1 : Int} {y2 : Bool} {x : List Int} {c : Bool} (h1 : readProgP s = (p, ok)) (h2 : runOfR p (progStackR n).1 = (y0, y1, y2)) (h3 : stackProgR y0 = (x, c)) : leftByR n s = if (ok && (y2 && c)) = true then (x, true) else ((leftByR n s).1, false) := by
  have e : leftByR n s = if ok = true then (if y2 = true then (x, c) else ([], false)) else ([], false) := by
    unfold leftByR; rw [h1]; dsimp only; rw [h2]; dsimp only; rw [h3]
  rcases ok with _ | _ <;> rcases y2 with _ | _ <;> rcases c with _ | _ <;> simp [e]
set_option maxHeartbeats 4000000 in
theorem BenchDo_Sdo (vn vp : Value) (n : List Int) (ps : List (List UInt8)) (k : Int) (S : ByteArray) (w : World) (h0 : RdI w vn n) (h1 : RdT w vp ps) (hl0 : n.length ≤ 1048576) (hl1 : ps.length ≤ 1048576) (hl2 : ∀ t ∈ ps, t.length ≤ 100000000) (hS : S.size ≤ 100000000) (hv : benchB n ps = true) (hk : k = 0) :
    Calls Tryz.prog 7 #[.agg #[vn, vp], .agg #[.int .i64 k, .string S]] w (BdPost w (benchDoR n ps k (bytesOf S)).1 (.bool (benchDoR n ps k (bytesOf S)).2)) := by
  obtain ⟨W, hW⟩ : ∃ W, ((w.alloc (.cells #[vn, vp] 26)).alloc (.cells #[.int .i64 k, .string S] 28)).alloc (.cells #[.slice none 0 0, .slice none 0 0] 26) = W := ⟨_, rfl⟩
  have hbW : Below w.heap.size w W := by rw [← hW]; exact (((Below.refl _ _).alloc (Nat.le_refl _) _).alloc (by simp) _).alloc (by simp; omega) _
  have hz : W.heap.size = w.heap.size + 3 := by rw [← hW]; simp
  have hB0 : Blk W w.heap.size #[vn, vp] 26 := by rw [← hW]; exact ((Blk.new w _ _).below ((Below.refl (w.heap.size + 1) _).alloc (by simp) _) (by omega)).below ((Below.refl (w.heap.size + 1) _).alloc (by simp) _) (by omega)
  have hB1 : Blk W (w.heap.size + 1) #[.int .i64 k, .string S] 28 := by
    have h3 := Blk.new (w.alloc (.cells #[vn, vp] 26)) #[.int .i64 k, .string S] 28
    rw [World.size_alloc] at h3
    rw [← hW]; exact h3.below ((Below.refl (w.heap.size + 2) _).alloc (by simp) _) (by omega)
  have hB2 : Blk W (w.heap.size + 2) #[.slice none 0 0, .slice none 0 0] 26 := by
    have h3 := Blk.new ((w.alloc (.cells #[vn, vp] 26)).alloc (.cells #[.int .i64 k, .string S] 28)) #[.slice none 0 0, .slice none 0 0] 26
    simp only [World.size_alloc] at h3
    rw [← hW]; exact h3
  obtain ⟨A0, c0, rfl, _⟩ := id h0
  obtain ⟨A1, c1, rfl, _⟩ := id h1
  obtain ⟨b0, b1, _, _⟩ := blk_pair hB0
  have S0 := Lib.hid (And.intro (h0.step hbW) (And.intro (RdT.step h1 hbW) (And.intro hbW (And.intro hB0 (And.intro hB1 hB2))))); clear h0 h1 hbW hB0 hB1 hB2
  have HL := Lib.hid hl2; clear hl2
  obtain ⟨hn, hp, hm⟩ := benchB_parts hv
  have hmz : ∀ t ∈ ps, t.length ≤ 400 := fun t h => tsB_len (hm t h)
  have HM := Lib.hid (And.intro hmz hn); clear hmz hm hn
  have HV := Lib.hid hv
  subst hk
  rcases hP : readProgP (bytesOf S) with ⟨p, ok⟩
  rcases hK : progStackR n with ⟨st, ks⟩
  rcases hR : runOfR p (progStackR n).1 with ⟨y0, y1, y2⟩
  rcases hQ : stackProgR y0 with ⟨x, c⟩
  have hpl : p.length ≤ 60 := by
    unfold readProgP at hP
    rcases hr : readProgR (bytesOf S) with _ | q
    · rw [hr] at hP; cases hP; simp
    · rw [hr] at hP; cases hP; exact validB_len (prog_read hr).1
  have hst : stackB st = true := by
    have := HM.out.2
    unfold bsB at this
    unfold progStackR at this hK
    split at hK
    · rename_i h; cases hK; exact h.2
    · cases hK; rfl
  have hss := stackB_small hst
  have hys := stackB_small (runOfR_stack hR)
  have H4 := Lib.hid (leftBy_four n (bytesOf S) hP hR hQ)
  have HD := Lib.hid (show benchDoR n ps 0 (bytesOf S) = if (leftByR n (bytesOf S)).2 = true then goOnR n ps (leftByR n (bytesOf S)).1 else ((n, ps), false) by rw [benchDoR, if_pos hv, doR, if_pos rfl])
  rw [hK] at hR
  have HP := Lib.hid hP
  have HK := Lib.hid hK
  have HRR := Lib.hid hR
  have HQQ := Lib.hid hQ
  clear hv hP hK hR hQ hst
  obtain ⟨go, HGO⟩ : ∃ go, Hid ((ok && (y2 && c)) = go) := ⟨_, Lib.hid rfl⟩
  go_enter Tryz.func7, Tryz.ntmps7
  go_wp2_with fail
  try rw [hW]
  refine (BenchValid_S _ _ n ps W S0.out.1 S0.out.2.1 hl0 hl1 HL.out).mono ?_
  rw [HV.out]
  rintro e w1 ⟨rfl, hb⟩
  have hz1 := hb.size
  have hA := S0.out.2.2.2.1.below hb (by omega)
  have X := Lib.hid (And.intro (S0.out.1.step hb) (And.intro (RdT.step S0.out.2.1 hb) (And.intro (S0.out.2.2.1.trans (hb.mono (by omega))) (And.intro hA (And.intro (S0.out.2.2.2.2.1.below hb (by omega)) (S0.out.2.2.2.2.2.below hb (by omega)))))))
  obtain ⟨a0, a1, _, _⟩ := blk_pair hA
  clear hb hA b0 b1 S0
  go_wp2_with fail
  refine (l10Copy_any _ _ n ps w1 X.out.1 X.out.2.1 hl0 hl1).mono ?_
  rintro e w2 ⟨u0, u1, rfl, ho0, ho1, hb⟩
  have hz2 := hb.size
  obtain ⟨A7, c7, rfl, _⟩ := ho0.ints
  obtain ⟨A8, c8, rfl, _⟩ := ho1.rd
  obtain ⟨U, hU⟩ : ∃ U, (w2.alloc (.cells #[.slice A7 n.length c7, .slice A8 ps.length c8] 26)).alloc (.cells #[] 3) = U := ⟨_, rfl⟩
  have hbU : Below w2.heap.size w2 U := by rw [← hU]; exact ((Below.refl _ _).alloc (Nat.le_refl _) _).alloc (by simp) _
  have hBU : Blk U w2.heap.size #[.slice A7 n.length c7, .slice A8 ps.length c8] 26 := by rw [← hU]; exact (Blk.new w2 _ _).keepH
  have hzU : w2.heap.size < U.heap.size := hBU.lt
  have hBn : BnAt U w1.heap.size w2.heap.size (.slice A7 n.length c7) (.slice A8 ps.length c8) n ps := ⟨hz2, hBU, ho0.below hbU, (OwnW.below ho1 hbU).mono (Nat.le_refl _) hbU.size⟩
  have hb2U : Below w1.heap.size w1 U := hb.trans (hbU.mono hz2)
  have Y := Lib.hid (And.intro hBn (And.intro (X.out.2.2.1.trans (hb2U.mono (by omega))) (And.intro (X.out.1.step hb2U) (And.intro (RdT.step X.out.2.1 hb2U) (And.intro (X.out.2.2.2.1.below hb2U (by omega)) (And.intro (X.out.2.2.2.2.1.below hb2U (by omega)) (X.out.2.2.2.2.2.below hb2U (by omega)))))))); clear ho0 ho1 hb hbU hBU hBn hb2U X a0 a1
  obtain ⟨p0, p1, _, _⟩ := blk_pair Y.out.2.2.2.2.1
  obtain ⟨d0, d1, _, _⟩ := blk_pair Y.out.2.2.2.2.2.1
  obtain ⟨r0, r1, s0, s1⟩ := blk_pair Y.out.2.2.2.2.2.2
  obtain ⟨e0, e1, f0, f1⟩ := Y.out.1.cells
  go_wp2_with fail
  refine (ReadProg_S S _ hS p ok HP.out).mono ?_
  rintro e w3 ⟨up, rfl, ho, hb⟩
  have hz3 := hb.size
  obtain ⟨Ap, cp, rfl, _⟩ := ho.rd
  have Y3 := Lib.hid (And.intro (Y.out.1.step hb) (And.intro (Y.out.2.1.trans (hb.mono (by omega))) (And.intro (Y.out.2.2.1.step hb) (And.intro (Y.out.2.2.2.2.1.below hb (by omega)) (And.intro (Y.out.2.2.2.2.2.2.below hb (by omega)) ho)))))
  clear hb ho Y p0 p1 d0 d1 r0 r1 s0 s1 e0 e1 f0 f1
  obtain ⟨p0, p1, _, _⟩ := blk_pair Y3.out.2.2.2.1
  go_wp2_with fail
  refine (ProgStack_S _ n _ Y3.out.2.2.1 (by omega) st ks HK.out).mono ?_
  rintro e w4 ⟨us, rfl, hrs, hb⟩
  have hz4 := hb.size
  have Y4 := Lib.hid (And.intro (Y3.out.1.step hb) (And.intro (Y3.out.2.1.trans (hb.mono (by omega))) (And.intro (Y3.out.2.2.1.step hb) (And.intro (Y3.out.2.2.2.1.below hb (by omega)) (And.intro (Y3.out.2.2.2.2.1.below hb (by omega)) (And.intro (Y3.out.2.2.2.2.2.below hb) hrs))))))
  clear hb hrs Y3 p0 p1
  go_wp2_with fail
  refine (RunOf_S _ p us st _ Y4.out.2.2.2.2.2.1.rd (by omega) Y4.out.2.2.2.2.2.2 hss.1 hss.2.1 y0 y1 y2 HRR.out).mono ?_
  rintro e w5 ⟨ul, rfl, hrl, hb⟩
  have hz5 := hb.size
  have Y5 := Lib.hid (And.intro (Y4.out.1.step hb) (And.intro (Y4.out.2.1.trans (hb.mono (by omega))) (And.intro (Y4.out.2.2.1.step hb) (And.intro (Y4.out.2.2.2.1.below hb (by omega)) (And.intro (Y4.out.2.2.2.2.1.below hb (by omega)) hrl)))))
  clear hb hrl Y4
  go_wp2_with fail
  refine (StackProg_O ul y0 _ Y5.out.2.2.2.2.2 hys.1 hys.2.1 x c HQQ.out).mono ?_
  rintro e M ⟨um, rfl, ho, hb⟩
  have hz6 := hb.size
  obtain ⟨Am, cm, rfl, _⟩ := ho.rd
  have T0 := Lib.hid (And.intro (Y5.out.1.step hb) (And.intro (Y5.out.2.1.trans (hb.mono (by omega))) (And.intro (Y5.out.2.2.1.step hb) (And.intro (Y5.out.2.2.2.1.below hb (by omega)) (And.intro (Y5.out.2.2.2.2.1.below hb (by omega)) (ho.own.mono (show w1.heap.size ≤ w5.heap.size by omega)))))))
  clear hb ho Y5
  rcases go with _ | _
  · have HR := Lib.hid (show benchDoR n ps 0 (bytesOf S) = ((n, ps), false) by rw [HD.out, H4.out, if_neg (by rw [HGO.out]; simp)])
    have HT := Lib.hid (And.intro T0.out.1 (And.intro T0.out.2.1 T0.out.2.2.2.2.1))
    obtain ⟨r0, r1, s0, s1⟩ := blk_pair HT.out.2.2
    obtain ⟨e0, e1, f0, f1⟩ := HT.out.1.cells
    have hMl := HT.out.1.low
    have hMg := HT.out.1.lt
    rcases ok with _ | _
    · go_wp2
      all_goals (
        obtain ⟨q0, q1, _, _⟩ := blk_pair ((HT.out.2.2).set 0 (.slice A7 n.length c7) |>.set 1 (.slice A8 ps.length c8))
        refine bodyPost_ret (v := .tuple #[.agg #[.slice A7 n.length c7, .slice A8 ps.length c8], .bool false]) (by simp [results, Tryz.results7, go_sem, q0, q1]) rfl ?_
        rw [HR.out]
        exact ⟨_, _, rfl, (((HT.out.1).now.far9 (by omega) 0 _).far9 (by omega) 1 _).mono (by omega), (((HT.out.1).past.far9 (by omega) 0 _).far9 (by omega) 1 _).mono (by omega) (by simp [World.setCell]), ((HT.out.2.1).setCell (by simp; omega) _).setCell (by simp; omega) _⟩)
    · rcases y2 with _ | _
      · go_wp2
        all_goals (
          obtain ⟨q0, q1, _, _⟩ := blk_pair ((HT.out.2.2).set 0 (.slice A7 n.length c7) |>.set 1 (.slice A8 ps.length c8))
          refine bodyPost_ret (v := .tuple #[.agg #[.slice A7 n.length c7, .slice A8 ps.length c8], .bool false]) (by simp [results, Tryz.results7, go_sem, q0, q1]) rfl ?_
          rw [HR.out]
          exact ⟨_, _, rfl, (((HT.out.1).now.far9 (by omega) 0 _).far9 (by omega) 1 _).mono (by omega), (((HT.out.1).past.far9 (by omega) 0 _).far9 (by omega) 1 _).mono (by omega) (by simp [World.setCell]), ((HT.out.2.1).setCell (by simp; omega) _).setCell (by simp; omega) _⟩)
      · have hcf : c = false := by have := HGO.out; simpa using this
        subst hcf
        go_wp2
        all_goals (
          obtain ⟨q0, q1, _, _⟩ := blk_pair ((HT.out.2.2).set 0 (.slice A7 n.length c7) |>.set 1 (.slice A8 ps.length c8))
          refine bodyPost_ret (v := .tuple #[.agg #[.slice A7 n.length c7, .slice A8 ps.length c8], .bool false]) (by simp [results, Tryz.results7, go_sem, q0, q1]) rfl ?_
          rw [HR.out]
          exact ⟨_, _, rfl, (((HT.out.1).now.far9 (by omega) 0 _).far9 (by omega) 1 _).mono (by omega), (((HT.out.1).past.far9 (by omega) 0 _).far9 (by omega) 1 _).mono (by omega) (by simp [World.setCell]), ((HT.out.2.1).setCell (by simp; omega) _).setCell (by simp; omega) _⟩)
  · have hall : ok = true ∧ y2 = true ∧ c = true := by have := HGO.out; simpa using this
    obtain ⟨rfl, rfl, rfl⟩ := hall
    have HG := Lib.hid (show benchDoR n ps 0 (bytesOf S) = goOnR n ps x by rw [HD.out, H4.out]; simp)
    obtain ⟨p0, p1, _, _⟩ := blk_pair T0.out.2.2.2.1
    obtain ⟨r0, r1, s0, s1⟩ := blk_pair T0.out.2.2.2.2.1
    obtain ⟨e0, e1, f0, f1⟩ := T0.out.1.cells
    have hMl := T0.out.1.low
    have hMg := T0.out.1.lt
    by_cases he : x = n
    · have HR := Lib.hid (show benchDoR n ps 0 (bytesOf S) = ((n, ps), false) by rw [HG.out, goOnR, if_pos he])
      have HE := Lib.hid (decide_eq_true he); clear he
      go_wp2_with fail
      refine (l1Same_any _ _ cm c0 x n M T0.out.2.2.2.2.2.within.rd.at9 T0.out.2.2.1.at9).mono ?_
      rw [HE.out]
      rintro e w' ⟨rfl, nq, rfl⟩
      have hb := below_drewN (Below.refl M.heap.size M) nq
      have hBR := T0.out.2.2.2.2.1.below hb (by omega)
      have T1 := Lib.hid (And.intro (T0.out.1.step hb) (And.intro (T0.out.2.1.trans (hb.mono (by omega))) hBR)); clear hb
      obtain ⟨V, hV⟩ : ∃ V, M.drewN nq = V := ⟨_, rfl⟩
      rw [hV] at T1 ⊢
      clear p0 p1 r0 r1 s0 s1 e0 e1 f0 f1 hBR hV
      obtain ⟨e0, e1, f0, f1⟩ := T1.out.1.cells
      obtain ⟨r0, r1, s0, s1⟩ := blk_pair T1.out.2.2
      go_wp2
      all_goals (
        obtain ⟨q0, q1, _, _⟩ := blk_pair ((T1.out.2.2).set 0 (.slice A7 n.length c7) |>.set 1 (.slice A8 ps.length c8))
        refine bodyPost_ret (v := .tuple #[.agg #[.slice A7 n.length c7, .slice A8 ps.length c8], .bool false]) (by simp [results, Tryz.results7, go_sem, q0, q1]) rfl ?_
        rw [HR.out]
        exact ⟨_, _, rfl, (((T1.out.1).now.far9 (by omega) 0 _).far9 (by omega) 1 _).mono (by omega), (((T1.out.1).past.far9 (by omega) 0 _).far9 (by omega) 1 _).mono (by omega) (by simp [World.setCell]), ((T1.out.2.1).setCell (by simp; omega) _).setCell (by simp; omega) _⟩)
    · obtain ⟨t, HT⟩ : ∃ t, Hid (progT n = t) := ⟨_, Lib.hid rfl⟩
      obtain ⟨qs, hqs⟩ : ∃ qs, ps ++ [t] = qs := ⟨_, rfl⟩
      have hql : qs.length = ps.length + 1 := by rw [← hqs]; simp
      have HQ := Lib.hid (And.intro hqs hql)
      have hqI : 1 ≤ qs.length ∧ qs.length ≤ 21 := by omega
      have hps : ps.length ≤ 1000000000 := by omega
      clear hqs hql
      obtain ⟨B9, hT⟩ : ∃ B9 : ByteArray, (⟨t.toArray⟩ : ByteArray) = B9 := ⟨_, rfl⟩
      have HT2 := Lib.hid hT; clear hT
      have HR := Lib.hid (show benchDoR n ps 0 (bytesOf S) = ((x, pastR ps t), true) by rw [HG.out, goOnR, if_neg he, HT.out])
      have HE := Lib.hid (decide_eq_false he); clear he
      go_wp2_with fail
      refine (l1Same_any _ _ cm c0 x n M T0.out.2.2.2.2.2.within.rd.at9 T0.out.2.2.1.at9).mono ?_
      rw [HE.out]
      rintro e w' ⟨rfl, nq, rfl⟩
      have hb := below_drewN (Below.refl M.heap.size M) nq
      have hzd : (M.drewN nq).heap.size = M.heap.size := Nat.le_antisymm (by simp) hb.size
      have T1 := Lib.hid (And.intro (T0.out.1.step hb) (And.intro (T0.out.2.1.trans (hb.mono (by omega))) (And.intro (T0.out.2.2.1.step hb) (And.intro (T0.out.2.2.2.1.below hb (by omega)) (And.intro (T0.out.2.2.2.2.1.below hb (by omega)) (T0.out.2.2.2.2.2.below hb)))))); clear hb
      obtain ⟨V, hV⟩ : ∃ V, M.drewN nq = V := ⟨_, rfl⟩
      rw [hV] at T1 hzd ⊢
      clear p0 p1 r0 r1 s0 s1 e0 e1 f0 f1 hV T0
      obtain ⟨p0, p1, _, _⟩ := blk_pair T1.out.2.2.2.1
      obtain ⟨e0, e1, f0, f1⟩ := T1.out.1.cells
      have bD : Below V.heap.size V V.drew := (Below.refl _ _).drew
      have BD := Lib.hid bD
      have hPT : Calls Tryz.prog 31 #[.slice A0 n.length c0] V.drew fun e w' => e = .returned (.string B9) ∧ Below V.drew.heap.size V.drew w' := by
        refine (ProgText_S _ n _ (T1.out.2.2.1.step bD)).mono ?_
        rintro e w' ⟨rfl, hb⟩
        exact ⟨by rw [HT.out, HT2.out], hb⟩
      have HPT := Lib.hid hPT; clear hPT bD
      have HARM : Hid (∀ w3, Below V.drew.heap.size V.drew w3 → V.heap.size ≤ w3.heap.size ∧ (w3.cell? ⟨w2.heap.size, 0, none⟩ = some (.slice A7 n.length c7) ∧ w3.cell? ⟨w2.heap.size, 1, none⟩ = some (.slice A8 ps.length c8)) ∧ BnAt (w3.alloc (.cells #[.string B9] 9)) w1.heap.size w2.heap.size (.slice A7 n.length c7) (.slice A8 ps.length c8) n ps ∧ Own (w3.alloc (.cells #[.string B9] 9)) w1.heap.size (.slice Am x.length cm) x ∧ Below w.heap.size w (w3.alloc (.cells #[.string B9] 9)) ∧ Blk (w3.alloc (.cells #[.string B9] 9)) (w.heap.size + 2) #[.slice none 0 0, .slice none 0 0] 26 ∧ (w3.alloc (.cells #[.string B9] 9)).cell? ⟨w3.heap.size, 0, none⟩ = some (.string B9)) := Lib.hid fun w3 hb3 => by
        have hs3 : V.heap.size ≤ w3.heap.size := hb3.size
        have bb3 : Below V.heap.size V w3 := BD.out.trans hb3
        have bb4 : Below V.heap.size V (w3.alloc (.cells #[.string B9] 9)) := bb3.alloc (by omega) _
        have kk := (T1.out.1.step bb3).cells
        exact ⟨hs3, ⟨kk.1, kk.2.1⟩, T1.out.1.step bb4, T1.out.2.2.2.2.2.below bb4, T1.out.2.1.trans (bb4.mono (by omega)), T1.out.2.2.2.2.1.below bb4 (by omega), (Blk.new w3 #[.string B9] 9).cell 0⟩
      go_wp2
      go_region_law (first
        | (go_simp; go_at_call 31; refine HPT.out.mono ?_; rintro e w3 ⟨rfl, hb3⟩; obtain ⟨hs3, ⟨k0, k1⟩, Z⟩ := HARM.out w3 hb3; obtain ⟨l0, l1, _, _⟩ := Z.1.cells; have ZZ := Lib.hid Z; clear Z hb3)
        | (refine step_append_strW rfl _ _ _ rfl Tryz.underlying24 strInfo w1.heap.size _ (.slice A8 ps.length c8) ps rfl ZZ.out.1.past (ZZ.out.1.low) w3.heap.size (.string B9) t rfl ZZ.out.2.2.2.2 (by rw [HT2.out]) hps ?_; rw [HQ.out.1]; intro v5 w5 ho5 hg5; obtain ⟨A5, c5, rfl, hc5, _⟩ := ho5.rd; have P5 := ZZ.out.1.grow hg5 ho5; have X5 := P5.2.2.1 _ _ ZZ.out.2.1; obtain ⟨n0, n1, nf0, nf1⟩ := blk_pair P5.2.2.2; have V5 := Lib.hid (And.intro P5.1 (And.intro X5 (And.intro (ZZ.out.2.2.1.trans (P5.2.1.mono (by omega))) (ZZ.out.2.2.2.1.below P5.2.1 (by omega))))); clear ho5 hg5 P5 X5)
        | fail)
      all_goals (
        obtain ⟨m0, m1, mf0, mf1⟩ := V5.out.1.cells
        obtain ⟨r0, r1, s0, s1⟩ := blk_pair V5.out.2.2.2
        by_cases h20 : (20 : Int) < qs.length
        · have hP := Lib.hid (show pastR ps t = qs.drop 1 by rw [pastR, HQ.out.1, if_pos (by omega)])
          obtain ⟨gb, off, rfl, hcl, htl⟩ := OwnWT.tail9 V5.out.1.past hqI.1
          have hc2 : 2 ≤ c5 := by omega
          have hc1 : ¬ c5 = 1 := by omega
          have h6 := (V5.out.1.set1 htl).set0 (V5.out.1.own V5.out.2.1 1 _)
          have hB6 := (((V5.out.2.2.2).other (g' := w2.heap.size) (by omega) 1 (.slice (some ⟨gb, off + 1, none⟩) (qs.length - 1) (c5 - 1))).other (g' := w2.heap.size) (by omega) 0 (.slice Am x.length cm))
          have FIN := Lib.hid (And.intro h6 (And.intro (show Below w.heap.size w _ from ((V5.out.2.2.1).setCell (p := ⟨w2.heap.size, 1, none⟩) (by simp; omega) (.slice (some ⟨gb, off + 1, none⟩) (qs.length - 1) (c5 - 1))).setCell (p := ⟨w2.heap.size, 0, none⟩) (by simp; omega) (.slice Am x.length cm)) hB6)); clear h6 hB6
          obtain ⟨h0', h1', _, _⟩ := FIN.out.1.cells
          obtain ⟨r2, r3, s2, s3⟩ := blk_pair FIN.out.2.2
          go_wp2
          obtain ⟨q0, q1, _, _⟩ := blk_pair ((FIN.out.2.2).set 0 (.slice Am x.length cm) |>.set 1 (.slice (some ⟨gb, off + 1, none⟩) (qs.length - 1) (c5 - 1)))
          refine bodyPost_ret (v := .tuple #[.agg #[.slice Am x.length cm, .slice (some ⟨gb, off + 1, none⟩) (qs.length - 1) (c5 - 1)], .bool true]) (by simp [results, Tryz.results7, go_sem, q0, q1]) rfl ?_
          rw [HR.out, hP.out]
          exact ⟨_, _, rfl, ((FIN.out.1.now.far9 (by omega) 0 _).far9 (by omega) 1 _).mono (by omega), ((FIN.out.1.past.far9 (by omega) 0 _).far9 (by omega) 1 _).mono (by omega) (by simp [World.setCell]), ((FIN.out.2.1).setCell (by simp; omega) _).setCell (by simp; omega) _⟩
        · have hP := Lib.hid (show pastR ps t = qs by rw [pastR, HQ.out.1, if_neg (by omega)])
          have h6 := V5.out.1.set0 V5.out.2.1
          have hB6 := ((V5.out.2.2.2).other (g' := w2.heap.size) (by omega) 0 (.slice Am x.length cm))
          have FIN := Lib.hid (And.intro h6 (And.intro (show Below w.heap.size w _ from (V5.out.2.2.1).setCell (p := ⟨w2.heap.size, 0, none⟩) (by simp; omega) (.slice Am x.length cm)) hB6)); clear h6 hB6
          obtain ⟨h0', h1', _, _⟩ := FIN.out.1.cells
          obtain ⟨r2, r3, s2, s3⟩ := blk_pair FIN.out.2.2
          go_wp2
          obtain ⟨q0, q1, _, _⟩ := blk_pair ((FIN.out.2.2).set 0 (.slice Am x.length cm) |>.set 1 (.slice A5 qs.length c5))
          refine bodyPost_ret (v := .tuple #[.agg #[.slice Am x.length cm, .slice A5 qs.length c5], .bool true]) (by simp [results, Tryz.results7, go_sem, q0, q1]) rfl ?_
          rw [HR.out, hP.out]
          exact ⟨_, _, rfl, ((FIN.out.1.now.far9 (by omega) 0 _).far9 (by omega) 1 _).mono (by omega), ((FIN.out.1.past.far9 (by omega) 0 _).far9 (by omega) 1 _).mono (by omega) (by simp [World.setCell]), ((FIN.out.2.1).setCell (by simp; omega) _).setCell (by simp; omega) _⟩)
end Go.Proofs.YtjblecinkedppaaGreatDoor

/- The model's BenchDo. -/
namespace Go.Proofs.YtjblecinkedppaaGreatDoor
set_option maxRecDepth 100000
open Go.RowKit Go.WideShapes Go.Deep

theorem BenchDo_S (vn vp : Value) (n : List Int) (ps : List (List UInt8)) (k : Int) (S : ByteArray) (w : World) (h0 : RdI w vn n) (h1 : RdT w vp ps) (hl0 : n.length ≤ 1048576) (hl1 : ps.length ≤ 1048576) (hl2 : ∀ t ∈ ps, t.length ≤ 100000000) (hS : S.size ≤ 100000000) :
    Calls Tryz.prog 7 #[.agg #[vn, vp], .agg #[.int .i64 k, .string S]] w (BdPost w (benchDoR n ps k (bytesOf S)).1 (.bool (benchDoR n ps k (bytesOf S)).2)) := by
  rcases hv : benchB n ps with _ | _
  · exact BenchDo_Sno vn vp n ps k S w h0 h1 hl0 hl1 hl2 hS hv
  · by_cases hk : k = 0
    · exact BenchDo_Sdo vn vp n ps k S w h0 h1 hl0 hl1 hl2 hS hv hk
    · by_cases hs : bytesOf S = []
      · by_cases hk1 : k = 1
        · exact BenchDo_Sclear vn vp n ps k S w h0 h1 hl0 hl1 hl2 hS hv hk1 hs
        · by_cases hk2 : k = 2
          · by_cases hne : ps = []
            · exact BenchDo_Sdef vn vp n ps k S w h0 h1 hl0 hl1 hl2 hS hv hk (.inr (.inr ⟨hk2, hne⟩))
            · exact BenchDo_Sback vn vp n ps k S w h0 h1 hl0 hl1 hl2 hS hv hk2 hs hne
          · exact BenchDo_Sdef vn vp n ps k S w h0 h1 hl0 hl1 hl2 hS hv hk (.inr (.inl ⟨hk1, hk2⟩))
      · exact BenchDo_Sdef vn vp n ps k S w h0 h1 hl0 hl1 hl2 hS hv hk (.inl hs)
end Go.Proofs.YtjblecinkedppaaGreatDoor

/- The model's BenchRun. -/
namespace Go.Proofs.YtjblecinkedppaaGreatDoor
set_option maxRecDepth 100000
open Go.RowKit Go.WideShapes Go.Deep

/-- A bench in a block: its parts read only. -/
theorem BnAt.rd0 {w : World} {lo g : Nat} {vn vp : Value} {n : List Int} {ps : List (List UInt8)} (h : BnAt w lo g vn vp n ps) : RdI w vn n := h.now.ints
theorem OwnWT.farG {w : World} {lo hi g : Nat} {v : Value} {x : List (List UInt8)} {cs : Array Value} (h : OwnWT w lo hi v x) (hB : Blk w g cs 26) (k : Nat) (u : Value) : OwnWT (w.setCell ⟨g, k, none⟩ u) lo hi v x :=
  OwnW.keep h fun j hj => heap_setCell_other w _ j u (fun e => OwnWT.ne h hB (by rw [hj]; exact congrArg some e))
theorem wayB {W X Y : World} (hX : Below W.heap.size W X) (h : Below X.heap.size X Y) : Below W.heap.size W Y := hX.trans (h.mono hX.size)
theorem ownB {W X Y : World} {v : Value} {z : List Int} (hX : Below W.heap.size W X) (h : Own Y X.heap.size v z) : Own Y W.heap.size v z := h.mono hX.size
theorem ownTB {W X Y : World} {hi : Nat} {v : Value} {z : List (List UInt8)} (hX : Below W.heap.size W X) (h : OwnWT Y X.heap.size hi v z) : OwnWT Y W.heap.size hi v z := OwnW.mono h hX.size (Nat.le_refl _)
set_option maxHeartbeats 4000000 in
theorem BenchRun_S (vn vp vd : Value) (n : List Int) (ps : List (List UInt8)) (ds : Deeds) (w : World) (h0 : RdI w vn n) (h1 : RdT w vp ps) (h2 : RdD w vd ds) (hl0 : n.length ≤ 1048576) (hl1 : ps.length ≤ 1048576) (hl2 : ∀ t ∈ ps, t.length ≤ 100000000) (hld : ds.length ≤ 1048576) (hS : ∀ d ∈ ds, d.2.length ≤ 100000000) :
    Calls Tryz.prog 17 #[.agg #[vn, vp], vd] w (BdPost w (benchRunR n ps ds).1 (.int .i64 (benchRunR n ps ds).2)) := by
  obtain ⟨W, hW⟩ : ∃ W, (w.alloc (.cells #[vn, vp] 26)).alloc (.cells #[.slice none 0 0, .slice none 0 0] 26) = W := ⟨_, rfl⟩
  have hbW : Below w.heap.size w W := by rw [← hW]; exact ((Below.refl _ _).alloc (Nat.le_refl _) _).alloc (by simp) _
  have hz : W.heap.size = w.heap.size + 2 := by rw [← hW]; simp
  have hB0 : Blk W w.heap.size #[vn, vp] 26 := by rw [← hW]; exact (Blk.new w _ _).below ((Below.refl (w.heap.size + 1) _).alloc (by simp) _) (by omega)
  have hB2 : Blk W (w.heap.size + 1) #[.slice none 0 0, .slice none 0 0] 26 := by
    have h3 := Blk.new (w.alloc (.cells #[vn, vp] 26)) #[.slice none 0 0, .slice none 0 0] 26
    rw [World.size_alloc] at h3
    rw [← hW]; exact h3
  obtain ⟨A0, c0, rfl, _⟩ := id h0
  obtain ⟨A1, c1, rfl, _⟩ := id h1
  obtain ⟨A2, c2, rfl, hdl, hdr⟩ := id h2
  obtain ⟨b0, b1, _, _⟩ := blk_pair hB0
  have S0 := Lib.hid (And.intro (h0.step hbW) (And.intro (RdT.step h1 hbW) (And.intro hbW (And.intro hB0 (And.intro hB2 (RdBD.below (h2 : RdBD w w.heap.size _ ds) hbW)))))); clear h0 h1 h2 hbW hB0 hB2 hdr
  have HL := Lib.hid hl2; clear hl2
  have HS := Lib.hid hS; clear hS
  by_cases hv : benchB n ps = true ∧ ds.length ≤ 40
  case neg =>
    have HR := Lib.hid (show benchRunR n ps ds = (([], []), 0) by rw [benchRunR, if_neg hv])
    rcases hv2 : benchB n ps with _ | _
    · have HV := Lib.hid hv2; clear hv hv2
      go_enter Tryz.func17, Tryz.ntmps17
      go_wp2_with fail
      try rw [hW]
      refine (BenchValid_S _ _ n ps W S0.out.1 S0.out.2.1 hl0 hl1 HL.out).mono ?_
      rw [HV.out]
      rintro e w1 ⟨rfl, hb⟩
      have hR := S0.out.2.2.2.2.1.below hb (by omega)
      have X := Lib.hid (And.intro (S0.out.2.2.1.trans (hb.mono (by omega))) hR)
      obtain ⟨r0, r1, s0, s1⟩ := blk_pair hR
      clear hb hR b0 b1
      go_wp2
      obtain ⟨q0, q1, _, _⟩ := blk_pair ((X.out.2.set 0 (.slice none 0 0)).set 1 (.slice none 0 0))
      refine bodyPost_ret (v := .tuple #[.agg #[.slice none 0 0, .slice none 0 0], .int .i64 0]) (by simp [results, Tryz.results17, go_sem, q0, q1]) rfl ?_
      rw [HR.out]
      exact ⟨_, _, rfl, Own.nil _ _, .inl ⟨rfl, rfl⟩, (X.out.1.setCell (by simp) _).setCell (by simp) _⟩
    · have HV := Lib.hid hv2
      have h40 : (40 : Int) < ds.length := by
        have : ¬ ds.length ≤ 40 := fun h => hv ⟨hv2, h⟩
        omega
      clear hv hv2
      go_enter Tryz.func17, Tryz.ntmps17
      go_wp2_with fail
      try rw [hW]
      refine (BenchValid_S _ _ n ps W S0.out.1 S0.out.2.1 hl0 hl1 HL.out).mono ?_
      rw [HV.out]
      rintro e w1 ⟨rfl, hb⟩
      have hR := S0.out.2.2.2.2.1.below hb (by omega)
      have X := Lib.hid (And.intro (S0.out.2.2.1.trans (hb.mono (by omega))) hR)
      obtain ⟨r0, r1, s0, s1⟩ := blk_pair hR
      clear hb hR b0 b1
      go_wp2
      obtain ⟨q0, q1, _, _⟩ := blk_pair ((X.out.2.set 0 (.slice none 0 0)).set 1 (.slice none 0 0))
      refine bodyPost_ret (v := .tuple #[.agg #[.slice none 0 0, .slice none 0 0], .int .i64 0]) (by simp [results, Tryz.results17, go_sem, q0, q1]) rfl ?_
      rw [HR.out]
      exact ⟨_, _, rfl, Own.nil _ _, .inl ⟨rfl, rfl⟩, (X.out.1.setCell (by simp) _).setCell (by simp) _⟩
  case pos =>
    have HV := Lib.hid hv.1
    have h40 : (ds.length : Int) ≤ 40 := by have := hv.2; omega
    have HR := Lib.hid (show benchRunR n ps ds = ((deedsR n ps 0 ds).1, ((deedsR n ps 0 ds).2 : Int)) by rw [benchRunR, if_pos hv])
    clear hv
    go_enter Tryz.func17, Tryz.ntmps17
    go_wp2_with fail
    try rw [hW]
    refine (BenchValid_S _ _ n ps W S0.out.1 S0.out.2.1 hl0 hl1 HL.out).mono ?_
    rw [HV.out]
    rintro e w1 ⟨rfl, hb⟩
    have hz1 := hb.size
    have hA := S0.out.2.2.2.1.below hb (by omega)
    have X := Lib.hid (And.intro (S0.out.1.step hb) (And.intro (RdT.step S0.out.2.1 hb) (And.intro (S0.out.2.2.1.trans (hb.mono (by omega))) (And.intro (S0.out.2.2.2.2.1.below hb (by omega)) (RdBD.below S0.out.2.2.2.2.2 (hb.mono (by omega)))))))
    obtain ⟨a0, a1, _, _⟩ := blk_pair hA
    clear hb hA b0 b1 S0
    go_wp2_with fail
    refine (l10Copy_any _ _ n ps w1 X.out.1 X.out.2.1 hl0 hl1).mono ?_
    rintro e w2 ⟨u0, u1, rfl, ho0, ho1, hb⟩
    have hz2 := hb.size
    obtain ⟨A7, c7, rfl, _⟩ := ho0.ints
    obtain ⟨A8, c8, rfl, _⟩ := ho1.rd
    obtain ⟨V, hV⟩ : ∃ V, w2.alloc (.cells #[.slice A7 n.length c7, .slice A8 ps.length c8] 26) = V := ⟨_, rfl⟩
    have hbV : Below w2.heap.size w2 V := by rw [← hV]; exact (Below.refl _ _).alloc (Nat.le_refl _) _
    have hBV : Blk V w2.heap.size #[.slice A7 n.length c7, .slice A8 ps.length c8] 26 := by rw [← hV]; exact Blk.new w2 _ _
    have hzV := hBV.lt
    have hBn : BnAt V w1.heap.size w2.heap.size (.slice A7 n.length c7) (.slice A8 ps.length c8) n ps := ⟨hz2, hBV, ho0.below hbV, (OwnW.below ho1 hbV).mono (Nat.le_refl _) hbV.size⟩
    have hb2V : Below w1.heap.size w1 V := hb.trans (hbV.mono hz2)
    have Y := Lib.hid (And.intro hBn (And.intro (X.out.2.2.1.trans (hb2V.mono (by omega))) (And.intro (X.out.2.2.2.1.below hb2V (by omega)) (RdBD.below X.out.2.2.2.2 (hb2V.mono (by omega)))))); clear ho0 ho1 hb hbV hBV hBn hb2V X a0 a1
    go_wp2
    try rw [hV]
    go_loopw [7, 8] (fun cv i wr => ∃ (j : Nat) (b : Bench9) (c : Nat), j ≤ ds.length ∧ i = .int .i64 j ∧ cv = .int .i64 c ∧ c ≤ j ∧ deedsR n ps 0 (ds.take j) = (b, c) ∧ benchB b.1 b.2 = true ∧ Bn wr w1.heap.size w2.heap.size b ∧ Below w1.heap.size V wr) (fun _ i _ => ds.length - (intOf i).toNat)
    case atStart => exact ⟨0, (n, ps), 0, Nat.zero_le _, rfl, rfl, Nat.le_refl _, by simp [deedsR], HV.out, ⟨_, _, Y.out.1⟩, Below.refl _ _⟩
    case round =>
      obtain ⟨j, b, c, hj, rfl, rfl, hcj, hds, hvb, ⟨v0, v1, hbn⟩, hbk⟩ := hrel
      obtain ⟨bn, bp⟩ := b
      dsimp only at hbn hvb
      have hzk := hbk.size
      obtain ⟨B0, k0, rfl, _⟩ := hbn.now.ints
      obtain ⟨B1, k1, rfl, _⟩ := hbn.past.rd
      obtain ⟨e0, e1, f0, f1⟩ := hbn.cells
      by_cases hlt : j < ds.length
      · obtain ⟨A', c', he, _, hr1⟩ := Y.out.2.2.2
        cases he
        obtain ⟨bb, off, rfl, hbb, hc⟩ := hr1 (by omega)
        obtain ⟨d, hd⟩ : ∃ d, ds[j]? = some d := ⟨_, List.getElem?_eq_getElem hlt⟩
        obtain ⟨q0, q1⟩ := hc j d hd
        have q0 := (hbk.cell (p := ⟨bb, off + j * 2, none⟩) (show bb < w1.heap.size by omega)).trans q0
        have q1 := (hbk.cell (p := ⟨bb, off + j * 2 + 1, none⟩) (show bb < w1.heap.size by omega)).trans q1
        have hSm := HS.out d (List.mem_of_getElem? hd)
        have hsn := deedsR_snoc (ds.take j) d (n := n) (ps := ps) (c := 0)
        rw [show ds.take j ++ [d] = ds.take (j + 1) by rw [List.take_add_one, hd]; rfl, hds] at hsn
        obtain ⟨d1, d2⟩ := d
        dsimp only at q0 q1 hSm hsn
        obtain ⟨D, hD⟩ : ∃ D : ByteArray, (⟨d2.toArray⟩ : ByteArray) = D := ⟨_, rfl⟩
        have hDs : D.size ≤ 100000000 := by rw [← hD]; simp [ByteArray.size]; omega
        have hDb : bytesOf D = d2 := by rw [← hD, bytes_mk]
        rw [hD] at q1
        rw [← hDb] at hsn
        rcases hdo : doR bn bp d1 (bytesOf D) with ⟨⟨bn', bp'⟩, ok⟩
        rw [hdo] at hsn
        have hvb' := doR_ok (k := d1) (s := bytesOf D) hvb
        rw [hdo] at hvb'
        have hbd : benchDoR bn bp d1 (bytesOf D) = ((bn', bp'), ok) := by rw [benchDoR, if_pos hvb, hdo]
        have hno : ok = false → (bn', bp') = (bn, bp) := fun e => by
          subst e
          have := doR_no (n := bn) (ps := bp) (k := d1) (s := bytesOf D) (by rw [hdo])
          rw [hdo] at this; exact this
        have hbp := benchB_parts hvb
        have hbpl : ∀ t ∈ bp, t.length ≤ 100000000 := fun t ht => by have := tsB_len (hbp.2.2 t ht); omega
        have hbn60 := (bsB_valid hbp.1).2
        have hbp20 := hbp.2.1
        have bD : Below wr.heap.size wr wr.drew := (Below.refl _ _).drew
        have K := Lib.hid (And.intro hbn (And.intro hbk (And.intro bD (And.intro hbd (And.intro hvb' (And.intro hno hbpl))))))
        have HSN := Lib.hid hsn
        have hltI : (j : Int) < ds.length := by omega
        have hcI : (c : Int) ≤ j := by omega
        clear hbn hdo hvb hvb' hsn hds hbk hD hDb hd hc hr1 bD hbd hno hbp hbpl
        have HC : Hid (∀ X, Below wr.heap.size wr X → Calls Tryz.prog 7 #[.agg #[.slice B0 bn.length k0, .slice B1 bp.length k1], .agg #[.int .i64 d1, .string D]] X (BdPost X (bn', bp') (.bool ok))) := Lib.hid fun X hX => by
          have h := BenchDo_S (.slice B0 bn.length k0) (.slice B1 bp.length k1) bn bp d1 D X (K.out.1.step hX).rd0 (K.out.1.step hX).past.rd (by omega) (by omega) K.out.2.2.2.2.2.2 hDs
          rw [K.out.2.2.2.1] at h
          exact h
        go_wp2
        go_region_held3 (fun w' => w'.cell? ⟨w2.heap.size, 0, none⟩ = some (.slice B0 bn.length k0) ∧ w'.cell? ⟨w2.heap.size, 1, none⟩ = some (.slice B1 bp.length k1) ∧ w'.cell? ⟨bb, off + j * 2, none⟩ = some (.int .i64 d1) ∧ w'.cell? ⟨bb, off + j * 2 + 1, none⟩ = some (.string D)) (repeat' (first | with_reducible exact e0 | with_reducible exact e1 | with_reducible exact q0 | with_reducible exact q1 | with_reducible exact l0 | with_reducible exact l1 | with_reducible exact l2 | with_reducible exact l3 | apply And.intro | rw [World.cell?_drew] | rw [World.cell?_alloc_lt _ _ _ (by first | omega | (simp; omega))] | rw [World.cell?_setCell_far _ _ _ _ (by first | omega | (simp; omega))])) (first
          | (go_at_call 7; refine (HC.out _ (by (repeat (first | with_reducible exact Below.refl _ _ | with_reducible exact K.out.2.2.1 | with_reducible refine Below.drew ?_ | with_reducible refine below_allocH ?_ (by first | exact Nat.le_refl _ | omega | (simp; done) | (simp; omega)) _ _)))).mono ?_; rintro e w3 ⟨u0, u1, rfl, ho0, ho1, hb3⟩; obtain ⟨A5, c5, rfl, _⟩ := ho0.ints; obtain ⟨A6, c6, rfl, _⟩ := ho1.rd; have hs3 := hb3.size; have b3 : Below wr.heap.size wr w3 := wayB (by (repeat (first | with_reducible exact Below.refl _ _ | with_reducible exact K.out.2.2.1 | with_reducible refine Below.drew ?_ | with_reducible refine below_allocH ?_ (by first | exact Nat.le_refl _ | omega | (simp; done) | (simp; omega)) _ _))) hb3; have hbn3 := K.out.1.step b3; obtain ⟨l0, l1, m0, m1⟩ := hbn3.cells; have l2 := (b3.cell (p := ⟨bb, off + j * 2, none⟩) (show bb < wr.heap.size by omega)).trans q0; have l3 := (b3.cell (p := ⟨bb, off + j * 2 + 1, none⟩) (show bb < wr.heap.size by omega)).trans q1; have hz3 := b3.size; have X3 := Lib.hid (And.intro (ownB (W := wr) (by (repeat (first | with_reducible exact Below.refl _ _ | with_reducible exact K.out.2.2.1 | with_reducible refine Below.drew ?_ | with_reducible refine below_allocH ?_ (by first | exact Nat.le_refl _ | omega | (simp; done) | (simp; omega)) _ _))) ho0) (And.intro (ownTB (W := wr) (by (repeat (first | with_reducible exact Below.refl _ _ | with_reducible exact K.out.2.2.1 | with_reducible refine Below.drew ?_ | with_reducible refine below_allocH ?_ (by first | exact Nat.le_refl _ | omega | (simp; done) | (simp; omega)) _ _))) ho1) (And.intro hbn3 b3))); first | (have hB9 : Blk w3 wr.heap.size #[.slice none 0 0, .slice none 0 0] 26 := Blk.below (by (repeat (first | with_reducible refine Blk.drewH ?_ | (refine Blk.newH _ _ _ _ ?_; first | rfl | omega | (simp; done) | (simp; omega)) | with_reducible refine Blk.keepH ?_))) hb3 (by first | omega | (simp; done) | (simp; omega)); have o9 : Own w3 (wr.heap.size + 1) (.slice A5 bn'.length c5) bn' := ho0.mono (by first | omega | exact Nat.le_refl _ | (simp; done) | (simp; omega)); have t9 : OwnWT w3 (wr.heap.size + 1) w3.heap.size (.slice A6 bp'.length c6) bp' := OwnW.mono ho1 (by first | omega | exact Nat.le_refl _ | (simp; done) | (simp; omega)) (Nat.le_refl _); obtain ⟨x0, x1, y0, y1⟩ := blk_pair hB9; have X9 := Lib.hid (And.intro hB9 (And.intro o9 t9)); clear ho0 ho1 hb3 b3 hbn3 hB9 o9 t9) | clear ho0 ho1 hb3 b3 hbn3)
          | fail)
        all_goals first
          | (have _t := x0
             have bB : Below wr.heap.size wr ((w3.setCell ⟨wr.heap.size, 0, none⟩ (.slice A5 bn'.length c5)).setCell ⟨wr.heap.size, 1, none⟩ (.slice A6 bp'.length c6)) := (X3.out.2.2.2.setCell (Nat.le_refl _) _).setCell (Nat.le_refl _) _
             obtain ⟨Y, hY⟩ : ∃ Y, ((w3.setCell ⟨wr.heap.size, 0, none⟩ (.slice A5 bn'.length c5)).setCell ⟨wr.heap.size, 1, none⟩ (.slice A6 bp'.length c6)) = Y := ⟨_, rfl⟩
             have FQ : Hid (BnAt Y w1.heap.size w2.heap.size (.slice B0 bn.length k0) (.slice B1 bp.length k1) bn bp ∧ Own Y w1.heap.size (.slice A5 bn'.length c5) bn' ∧ OwnWT Y w1.heap.size Y.heap.size (.slice A6 bp'.length c6) bp' ∧ Blk Y wr.heap.size #[.slice A5 bn'.length c5, .slice A6 bp'.length c6] 26 ∧ Below w1.heap.size V Y) := Lib.hid (by
               rw [← hY]
               exact ⟨K.out.1.step bB, ((X9.out.2.1.far9 (by omega) 0 _).far9 (by omega) 1 _).mono (by omega), ((X9.out.2.2.far9 (by omega) 0 _).far9 (by omega) 1 _).mono (by omega) (by simp [World.setCell]), (X9.out.1.set 0 _).set 1 _, K.out.2.1.trans (bB.mono (by omega))⟩)
             rw [hY]
             clear hY bB x0 x1 y0 y1 l0 l1 l2 l3 X9 X3 m0 m1
             obtain ⟨g9, hg9⟩ : ∃ g9, wr.heap.size = g9 := ⟨_, rfl⟩
             have hgq : g9 ≠ w2.heap.size := by omega
             rw [hg9] at FQ ⊢)
          | (have bA : Below w3.heap.size w3 (w3.alloc (.cells #[.slice A5 bn'.length c5, .slice A6 bp'.length c6] 26)) := (Below.refl _ _).alloc (Nat.le_refl _) _
             obtain ⟨Y, hY⟩ : ∃ Y, (w3.alloc (.cells #[.slice A5 bn'.length c5, .slice A6 bp'.length c6] 26)) = Y := ⟨_, rfl⟩
             have FQ : Hid (BnAt Y w1.heap.size w2.heap.size (.slice B0 bn.length k0) (.slice B1 bp.length k1) bn bp ∧ Own Y w1.heap.size (.slice A5 bn'.length c5) bn' ∧ OwnWT Y w1.heap.size Y.heap.size (.slice A6 bp'.length c6) bp' ∧ Blk Y w3.heap.size #[.slice A5 bn'.length c5, .slice A6 bp'.length c6] 26 ∧ Below w1.heap.size V Y) := Lib.hid (by
               rw [← hY]
               exact ⟨X3.out.2.2.1.step bA, (X3.out.1.below bA).mono (by omega), (OwnW.below X3.out.2.1 bA).mono (by omega) bA.size, Blk.new w3 _ _, (K.out.2.1.trans (X3.out.2.2.2.mono (by omega))).trans (bA.mono (by omega))⟩)
             rw [hY]
             clear hY bA l0 l1 l2 l3 X3 m0 m1
             obtain ⟨g9, hg9⟩ : ∃ g9, w3.heap.size = g9 := ⟨_, rfl⟩
             have hgq : g9 ≠ w2.heap.size := by omega
             rw [hg9] at FQ ⊢)
        all_goals (
          clear hg9 e0 e1 q0 q1 f0 f1
          obtain ⟨g0, g1, h0', h1'⟩ := FQ.out.1.cells
          obtain ⟨z0, z1, _, _⟩ := blk_pair FQ.out.2.2.2.1
          have hgq : g9 ≠ w2.heap.size := by omega
          have FR := Lib.hid (And.intro (FQ.out.1.set0 FQ.out.2.1) (And.intro (((FQ.out.1.set0 FQ.out.2.1).set1 ((OwnWT.farG FQ.out.2.2.1 FQ.out.1.blk 0 _).mono (Nat.le_refl _) (by simp [World.setCell])))) (And.intro (show Below w1.heap.size V ((Y.setCell ⟨w2.heap.size, 0, none⟩ (.slice A5 bn'.length c5)).setCell ⟨w2.heap.size, 1, none⟩ (.slice A6 bp'.length c6)) from (FQ.out.2.2.2.2.setCell (p := ⟨w2.heap.size, 0, none⟩) hz2 _).setCell (p := ⟨w2.heap.size, 1, none⟩) hz2 _) (FQ.out.2.2.2.1.other (g' := w2.heap.size) (by omega) 0 (.slice A5 bn'.length c5)))))
          obtain ⟨g2, g3, h2', h3'⟩ := FR.out.1.cells
          obtain ⟨z2, z3, _, _⟩ := blk_pair FR.out.2.2.2
          rcases ok with _ | _
          · have HN := Lib.hid (K.out.2.2.2.2.2.1 rfl)
            go_wp2
            go_roundw
            case rel => exact ⟨j + 1, (bn', bp'), c, by omega, by go_num, rfl, by omega, by rw [HSN.out]; rfl, K.out.2.2.2.2.1, by rw [HN.out]; exact ⟨_, _, FQ.out.1⟩, FQ.out.2.2.2.2⟩
            case measure => simp [intOf]; omega
          · go_wp2
            go_roundw
            case rel => exact ⟨j + 1, (bn', bp'), c + 1, by omega, by go_num, by go_num, by omega, by rw [HSN.out]; rfl, K.out.2.2.2.2.1, ⟨_, _, FR.out.2.1⟩, FR.out.2.2.1⟩
            case measure => simp [intOf]; omega)
      · obtain rfl : j = ds.length := by omega
        rw [List.take_length] at hds
        have HD := Lib.hid (show benchRunR n ps ds = ((bn, bp), (c : Int)) by rw [HR.out, hds])
        have hR := Y.out.2.2.1.below hbk (by omega)
        obtain ⟨r0, r1, s0, s1⟩ := blk_pair hR
        have Z := Lib.hid (And.intro hbn (And.intro (Y.out.2.1.trans (hbk.mono (by omega))) hR)); clear hbn hR Y hds hvb
        go_wp2
        obtain ⟨q0, q1, _, _⟩ := blk_pair ((Z.out.2.2.set 0 (.slice B0 bn.length k0)).set 1 (.slice B1 bp.length k1))
        refine bodyPost_ret (v := .tuple #[.agg #[.slice B0 bn.length k0, .slice B1 bp.length k1], .int .i64 c]) (by simp [results, Tryz.results17, go_sem, q0, q1]) rfl ?_
        rw [HD.out]
        exact ⟨_, _, rfl, ((Z.out.1.now.far9 (by omega) 0 _).far9 (by omega) 1 _).mono (by omega), ((Z.out.1.past.far9 (by omega) 0 _).far9 (by omega) 1 _).mono (by omega) (by simp [World.setCell]), (Z.out.2.1.setCell (by simp) _).setCell (by simp) _⟩
end Go.Proofs.YtjblecinkedppaaGreatDoor
