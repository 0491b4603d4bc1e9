/- FnBenchDo: of every code: BenchDo is its model at the drawn bench and deed; what is refused leaves the bench, or the bench is not valid; what is done can be taken back; what is left is what the run of the program leaves; the bench stays valid. For every input; the listed variables hold what the program lays. Written by fnbd.py. -/
import Derived.Test.YtjblecinkedppaaGreatDoorHz
import Derived.Test.YtjblecinkedppaaGreatDoorBo
import Derived.Test.YtjblecinkedppaaGreatDoorNl
import Derived.Test.YtjblecinkedppaaGreatDoorBb
import Derived.Test.YtjblecinkedppaaGreatDoorF1
import Derived.Test.YtjblecinkedppaaGreatDoorF2
import Derived.Test.YtjblecinkedppaaGreatDoorF3
import Derived.BigQuiet
import Derived.Deep.RegionHeld3
import Derived.Test.YtjblecinkedppaaGreatDoorTie
import Derived.Test.YtjblecinkedppaaGreatDoorCards
import Derived.SevenTiedAt
namespace Go.Proofs.YtjblecinkedppaaGreatDoor
set_option maxRecDepth 100000
open Go.RowKit Go.WideShapes Go.ChangeShapes Go.Maps Go.Deep

theorem BdPost.size {w w' : World} {b : Bench9} {ok : Value} {e : Ending} (h : BdPost w b ok e w') : w.heap.size ≤ w'.heap.size := by obtain ⟨_, _, _, _, _, hb⟩ := h; exact hb.size
theorem benchDo_none {n n' : List Int} {ps ps' : List (List UInt8)} {k : Int} {s : List UInt8} {ok : Bool} (hv : benchB n ps = false) (h : benchDoR n ps k s = ((n', ps'), ok)) : n' = [] ∧ ps' = [] ∧ ok = false := by
  rw [benchDoR, hv, if_neg (by simp)] at h
  cases h; exact ⟨rfl, rfl, rfl⟩
theorem benchDo_some {n n' : List Int} {ps ps' : List (List UInt8)} {k : Int} {s : List UInt8} {ok : Bool} (hv : benchB n ps = true) (h : benchDoR n ps k s = ((n', ps'), ok)) : doR n ps k s = ((n', ps'), ok) := by
  rw [benchDoR, if_pos hv] at h; exact h
theorem doR_same {n n' : List Int} {ps ps' : List (List UInt8)} {k : Int} {s : List UInt8} (h : doR n ps k s = ((n', ps'), false)) : n = n' ∧ ps = ps' := by
  have h1 := doR_no (n := n) (ps := ps) (k := k) (s := s) (by rw [h])
  rw [h] at h1
  cases h1; exact ⟨rfl, rfl⟩
theorem benchDo_back {n n' n9 : List Int} {ps ps' ps9 : List (List UInt8)} {k : Int} {s : List UInt8} {can : Bool} (hv : benchB n ps = true) (h : doR n ps k s = ((n', ps'), true)) (hk : k ≠ 2) (hp : ps.length < 20) (hb : benchDoR n' ps' 2 (bytesOf ⟨#[]⟩) = ((n9, ps9), can)) : n = n9 ∧ ps = ps9 ∧ can = true := by
  have h1 := do_back (s := s) hv hk hp (by rw [h])
  have h2 := doR_ok (k := k) (s := s) hv
  rw [h] at h1 h2
  rw [benchDoR, if_pos h2] at hb
  have h3 : doR n' ps' 2 [] = ((n9, ps9), can) := hb
  rw [h1] at h3
  cases h3; exact ⟨rfl, rfl, rfl⟩
theorem doR_left {n n' : List Int} {ps ps' : List (List UInt8)} {s : List UInt8} (h : doR n ps 0 s = ((n', ps'), true)) : ∃ p left c, readProgP s = (p, true) ∧ runOfR p (progStackR n).1 = (left, c, true) ∧ progStackR n' = (left, true) := by
  obtain ⟨p, left, c, h1, h2, h3⟩ := do_left (n := n) (ps := ps) (s := s) (by rw [h])
  rw [h] at h3
  exact ⟨p, left, c, h1, h2, h3⟩
theorem readP_words {t : List UInt8} {p : List Int} (h : readProgP t = (p, true)) : p.length ≤ 60 := by
  unfold readProgP at h
  rcases hr : readProgR t with _ | q
  · rw [hr] at h; cases h
  · rw [hr] at h; cases h
    exact validB_len (prog_read hr).1
theorem sameTexts0 (v u : Value) (ps : List (List UInt8)) (w : World) (h0 : RdT w v []) (h1 : RdT w u ps) (hne : ps ≠ []) :
    Calls Tryz.prog 33 #[v, u] w fun e w' => e = .returned (.bool false) ∧ Below w.heap.size w w' := by
  obtain ⟨A, c, rfl, _, hm, hr0⟩ := h0
  obtain ⟨B, d, rfl, _, hm1, hr1⟩ := h1
  clear hr0 hr1
  have hp : 0 < ps.length := List.length_pos_iff.2 hne
  have hb : ((0 : Int) == (ps.length : Int)) = false := beq_eq_false_iff_ne.2 (by omega)
  have hb2 : ¬ (0 : Int) = (ps.length : Int) := by omega
  go_enter Tryz.func33, Tryz.ntmps33
  go_wp2
  go_ret
  exact ⟨rfl, Below.refl _ _⟩
theorem sameBench0 (v0 v1 u0 u1 : Value) (n : List Int) (ps : List (List UInt8)) (w : World) (h0 : RdI w v0 []) (h1 : RdT w v1 []) (h2 : RdI w u0 n) (h3 : RdT w u1 ps) :
    Calls Tryz.prog 8 #[.agg #[v0, v1], .agg #[u0, u1]] w fun e w' => ∃ r : Bool, e = .returned (.bool r) ∧ Below w.heap.size w w' := by
  obtain ⟨W, hW⟩ : ∃ W, (w.alloc (.cells #[v0, v1] 26)).alloc (.cells #[u0, u1] 26) = W := ⟨_, rfl⟩
  have hb : Below w.heap.size w W := by rw [← hW]; exact ((Below.refl _ _).alloc (Nat.le_refl _) _).alloc (by simp) _
  have k1 : Blk W w.heap.size #[v0, v1] 26 := by rw [← hW]; exact Blk.keepH (Blk.new w _ _)
  have k2 : Blk W (w.heap.size + 1) #[u0, u1] 26 := by rw [← hW]; exact Blk.newH _ _ _ _ (by simp)
  have S := Lib.hid (And.intro (h0.step hb) (And.intro (RdT.step h1 hb) (And.intro (h2.step hb) (And.intro (RdT.step h3 hb) (And.intro hb (And.intro k1 k2))))))
  obtain ⟨A0, c0, rfl, _⟩ := id h0
  obtain ⟨A1, c1, rfl, _⟩ := id h1
  obtain ⟨A2, c2, rfl, _⟩ := id h2
  obtain ⟨A3, c3, rfl, _⟩ := id h3
  have hz := hb.size
  have z1 := k1.lt; have z2 := k2.lt
  clear h0 h1 h2 h3 hb k1 k2
  obtain ⟨g0, g1, _, _⟩ := blkPair9 S.out.2.2.2.2.2.1
  obtain ⟨e0, e1, _, _⟩ := blkPair9 S.out.2.2.2.2.2.2
  simp only [List.length_nil] at hW g0 g1
  go_enter Tryz.func8, Tryz.ntmps8
  go_wp2_with fail
  try rw [hW]
  refine (smI _ _ [] n W S.out.1 S.out.2.2.1 (decide ([] = n)) rfl).mono ?_
  rintro e w2 ⟨rfl, hb⟩
  have hz2 := hb.size
  have g1' := (hb.cell (p := ⟨w.heap.size, 1, none⟩) (show w.heap.size < W.heap.size by omega)).trans g1
  have e1' := (hb.cell (p := ⟨w.heap.size + 1, 1, none⟩) (show w.heap.size + 1 < W.heap.size by omega)).trans e1
  have T := Lib.hid (And.intro (RdT.step S.out.2.1 hb) (And.intro (RdT.step S.out.2.2.2.1 hb) (S.out.2.2.2.2.1.trans (hb.mono (by omega))))); clear hb S g0 g1 e0 e1
  obtain ⟨r, hr⟩ : ∃ r, decide ([] = n) = r := ⟨_, rfl⟩
  rw [hr]
  clear hr
  rcases r with _ | _
  · go_wp2
    go_ret
    exact ⟨false, rfl, T.out.2.2⟩
  · by_cases hps : ps = []
    · subst hps
      go_wp2_with fail
      refine (sameTexts9 _ _ [] _ T.out.1 T.out.2.1).mono ?_
      rintro e w3 ⟨rfl, hb⟩
      have U := Lib.hid (T.out.2.2.trans (hb.mono (by omega))); clear hb T
      go_wp2
      go_ret
      exact ⟨true, rfl, U.out⟩
    · go_wp2_with fail
      refine (sameTexts0 _ _ ps _ T.out.1 T.out.2.1 hps).mono ?_
      rintro e w3 ⟨rfl, hb⟩
      have U := Lib.hid (T.out.2.2.trans (hb.mono (by omega))); clear hb T
      go_wp2
      go_ret
      exact ⟨false, rfl, U.out⟩
set_option maxHeartbeats 8000000 in
theorem fnBenchDo_any (A0 : Option Addr) (c0 : Nat) (x0 : List Int) (w0 : World) (h0 : RdC w0 (.slice A0 x0.length c0) x0) (ht : StrTab w0 0 opNames) (hp : Pow w0) :
    Calls Tryz.prog 3 #[.slice A0 x0.length c0] w0 fun e w' => e = .returned (.bool true) ∧ Below w0.heap.size w0 w' := by
  have hm := h0.len_le
  have HH := Lib.hid h0; clear h0
  have HT : Hid (∀ X, Below w0.heap.size w0 X → Tabs X) := Lib.hid fun X hX => ⟨ht.below hX ht.lt, hp.below hX⟩
  clear ht hp
  by_cases hl : x0.length ≤ 1048576
  case neg =>
    go_enter Tryz.func3, Tryz.ntmps3
    go_wp2
    go_ret
    exact ⟨rfl, Below.refl _ _⟩
  go_enter Tryz.func3, Tryz.ntmps3
  go_wp2_with fail
  refine (DrawBenchDo_any _ x0 _ HH.out).mono ?_
  rintro e w1 ⟨vn, vp, n, ps, k, S, rfl, hn, hp, hl1, hl2, hl3, hk0, hk1, hS, hb⟩
  have hz1 := hb.size
  obtain ⟨A, c, rfl, _⟩ := id hn
  obtain ⟨B, d, rfl, _⟩ := id hp
  obtain ⟨VW, hVW⟩ : ∃ V, (w1.alloc (.cells #[.slice A n.length c, .slice B ps.length d] 26)).alloc (.cells #[.int .i64 k, .string S] 28) = V := ⟨_, rfl⟩
  have hbW : Below w1.heap.size w1 VW := by rw [← hVW]; exact ((Below.refl _ _).alloc (Nat.le_refl _) _).alloc (by simp) _
  have T0 : Hid (Bst w0 VW w1.heap.size (w1.heap.size + 1) (.slice A n.length c) (.slice B ps.length d) n ps k S) := Lib.hid ⟨hb.trans (hbW.mono hz1), hn.step hbW, RdT.step hp hbW, by rw [← hVW]; exact Blk.keepH (Blk.new w1 _ _), by rw [← hVW]; exact Blk.newH _ _ _ _ (by simp)⟩
  clear hb hbW hn hp HH
  rcases hdo : benchDoR n ps k (bytesOf S) with ⟨⟨n', ps'⟩, ok⟩
  have hlen := benchDoR_len hdo
  have hn60 := hlen.1; have hp20 := hlen.2.1
  have HL2 := Lib.hid (show ∀ t ∈ ps', t.length ≤ 100000000 from fun t ht => by have := hlen.2.2 t ht; omega)
  have HL1 := Lib.hid (show ∀ t ∈ ps, t.length ≤ 100000000 from fun t ht => by have := hl3 t ht; omega)
  have HDO := Lib.hid hdo; clear hdo hlen hl3
  have HI : Hid (∀ X, Bst w0 X w1.heap.size (w1.heap.size + 1) (.slice A n.length c) (.slice B ps.length d) n ps k S → Calls Tryz.prog 6 #[.agg #[.slice A n.length c, .slice B ps.length d], .agg #[.int .i64 k, .string S]] X (BdPost X (n', ps') (.bool ok))) := Lib.hid fun X h => by
    have h2 := BenchDo_I _ _ n ps k S X h.rn h.rp (by omega) (by omega) HL1.out (by omega) (HT.out _ h.bl)
    rw [HDO.out] at h2; exact h2
  have HS : Hid (∀ X, Bst w0 X w1.heap.size (w1.heap.size + 1) (.slice A n.length c) (.slice B ps.length d) n ps k S → Calls Tryz.prog 7 #[.agg #[.slice A n.length c, .slice B ps.length d], .agg #[.int .i64 k, .string S]] X (BdPost X (n', ps') (.bool ok))) := Lib.hid fun X h => by
    have h2 := BenchDo_S _ _ n ps k S X h.rn h.rp (by omega) (by omega) HL1.out (by omega)
    rw [HDO.out] at h2; exact h2
  obtain ⟨Ta0, Ta1, _, _⟩ := blkPair9 T0.out.k3
  obtain ⟨Td0, Td1, _, _⟩ := blkQ T0.out.k4
  go_wp2_with fail
  try rw [hVW]
  refine (HI.out _ T0.out).mono ?_
  rintro e w2 h
  have hzw2 := BdPost.size h
  obtain ⟨xA, xB, xc, xd, rfl, hb, hx⟩ := bdLaid h
  obtain ⟨Vx, hVx⟩ : ∃ V, w2.alloc (.cells #[.slice xA n'.length xc, .slice xB ps'.length xd] 26) = V := ⟨_, rfl⟩
  rw [hVx] at hb hx
  clear Ta0 Ta1 Td0 Td1
  have T1 := Lib.hid (T0.out.step hb)
  clear T0 hb
  have x1 := Lib.hid hx; clear hx
  obtain ⟨Ta0, Ta1, _, _⟩ := blkPair9 T1.out.k3
  obtain ⟨Td0, Td1, _, _⟩ := blkQ T1.out.k4
  obtain ⟨xx0, xx1, _, _⟩ := blkPair9 x1.out.k5
  go_wp2_with fail
  try rw [hVx]
  refine (HS.out _ T1.out).mono ?_
  rintro e w3 h
  have hzw3 := BdPost.size h
  obtain ⟨yA, yB, yc, yd, rfl, hb, hx⟩ := bdLaid h
  obtain ⟨Vy, hVy⟩ : ∃ V, w3.alloc (.cells #[.slice yA n'.length yc, .slice yB ps'.length yd] 26) = V := ⟨_, rfl⟩
  rw [hVy] at hb hx
  clear Ta0 Ta1 Td0 Td1 xx0 xx1
  have T2 := Lib.hid (T1.out.step hb)
  have x2 := Lib.hid (x1.out.step hb)
  clear T1 x1 hb
  have y2 := Lib.hid hx; clear hx
  obtain ⟨Ta0, Ta1, _, _⟩ := blkPair9 T2.out.k3
  obtain ⟨Td0, Td1, _, _⟩ := blkQ T2.out.k4
  obtain ⟨xx0, xx1, _, _⟩ := blkPair9 x2.out.k5
  obtain ⟨yx0, yx1, _, _⟩ := blkPair9 y2.out.k5
  go_wp2_with fail
  try rw [hVy]
  refine (sameBench9 _ _ _ _ n' ps' Vy x2.out.rn x2.out.rp y2.out.rn y2.out.rp).mono ?_
  rintro e w4 ⟨rfl, hb⟩
  clear Ta0 Ta1 Td0 Td1 xx0 xx1 yx0 yx1
  have T3 := Lib.hid (T2.out.step hb)
  have x3 := Lib.hid (x2.out.step hb)
  clear T2 x2 y2 hb
  obtain ⟨Ta0, Ta1, _, _⟩ := blkPair9 T3.out.k3
  obtain ⟨Td0, Td1, _, _⟩ := blkQ T3.out.k4
  obtain ⟨xx0, xx1, _, _⟩ := blkPair9 x3.out.k5
  rcases hv : benchB n ps with _ | _
  · obtain ⟨rfl, rfl, rfl⟩ := benchDo_none hv HDO.out
    have HV := Lib.hid hv; clear hv
    go_wp2_with fail
    refine (sameBench0 _ _ _ _ n ps w4 x3.out.rn x3.out.rp T3.out.rn T3.out.rp).mono ?_
    rintro e w5 ⟨r, rfl, hb⟩
    clear Ta0 Ta1 Td0 Td1 xx0 xx1
    have T4 := Lib.hid (T3.out.step hb)
    clear T3 x3 hb
    obtain ⟨Ta0, Ta1, _, _⟩ := blkPair9 T4.out.k3
    obtain ⟨Td0, Td1, _, _⟩ := blkQ T4.out.k4
    rcases r with _ | _
    · skip
      go_wp2_with fail
      refine (BenchValid_I _ _ n ps w5 T4.out.rn T4.out.rp (by omega) (by omega) HL1.out (HT.out _ T4.out.bl).1).mono ?_
      rw [HV.out]
      rintro e w6 ⟨rfl, hb⟩
      clear Ta0 Ta1 Td0 Td1
      have T5 := Lib.hid (T4.out.step hb)
      clear T4 hb
      go_wp2_with fail
      refine (alive_any _).mono ?_
      rintro e wz ⟨rfl, hb⟩
      have T6 := Lib.hid (T5.out.step hb)
      clear T5 hb
      go_wp2
      go_ret
      exact ⟨rfl, T6.out.bl⟩
    · skip
      go_wp2_with fail
      refine (alive_any _).mono ?_
      rintro e wz ⟨rfl, hb⟩
      clear Ta0 Ta1 Td0 Td1
      have T5 := Lib.hid (T4.out.step hb)
      clear T4 hb
      go_wp2
      go_ret
      exact ⟨rfl, T5.out.bl⟩
  · have hdd := benchDo_some hv HDO.out
    have HV := Lib.hid hv; have HDD := Lib.hid hdd; clear hv hdd
    rcases ok with _ | _
    · obtain ⟨rfl, rfl⟩ := doR_same HDD.out
      go_wp2_with fail
      refine (sameBench9 _ _ _ _ n ps w4 x3.out.rn x3.out.rp T3.out.rn T3.out.rp).mono ?_
      rintro e w5 ⟨rfl, hb⟩
      clear Ta0 Ta1 Td0 Td1 xx0 xx1
      have T4 := Lib.hid (T3.out.step hb)
      clear T3 x3 hb
      obtain ⟨Ta0, Ta1, _, _⟩ := blkPair9 T4.out.k3
      obtain ⟨Td0, Td1, _, _⟩ := blkQ T4.out.k4
      go_wp2_with fail
      refine (alive_any _).mono ?_
      rintro e wz ⟨rfl, hb⟩
      clear Ta0 Ta1 Td0 Td1
      have T5 := Lib.hid (T4.out.step hb)
      clear T4 hb
      go_wp2
      go_ret
      exact ⟨rfl, T5.out.bl⟩
    · have HV2 := Lib.hid (benchDo_valid HV.out HDO.out)
      rcases hdb : benchDoR n' ps' 2 (bytesOf ⟨#[]⟩) with ⟨⟨n9, ps9⟩, can⟩
      have hlen9 := benchDoR_len hdb
      have HDB := Lib.hid hdb; clear hdb
      have HI2 : Hid (∀ X, Xst X w2.heap.size (.slice xA n'.length xc) (.slice xB ps'.length xd) n' ps' → Below w0.heap.size w0 X → Calls Tryz.prog 6 #[.agg #[.slice xA n'.length xc, .slice xB ps'.length xd], .agg #[.int .i64 2, .string ⟨#[]⟩]] X (BdPost X (n9, ps9) (.bool can))) := Lib.hid fun X h hX => by
        have h2 := BenchDo_I _ _ n' ps' 2 ⟨#[]⟩ X h.rn h.rp (by omega) (by omega) HL2.out (by simp [ByteArray.size]) (HT.out _ hX)
        rw [HDB.out] at h2; exact h2
      go_wp2_with fail
      refine (HI2.out _ x3.out T3.out.bl).mono ?_
      rintro e w5 h
      have hzw5 := BdPost.size h
      obtain ⟨qA, qB, qc, qd, rfl, hb, hx⟩ := bdLaid h
      obtain ⟨Vq, hVq⟩ : ∃ V, w5.alloc (.cells #[.slice qA n9.length qc, .slice qB ps9.length qd] 26) = V := ⟨_, rfl⟩
      rw [hVq] at hb hx
      clear Ta0 Ta1 Td0 Td1 xx0 xx1
      have T4 := Lib.hid (T3.out.step hb)
      have x4 := Lib.hid (x3.out.step hb)
      clear T3 x3 hb
      have q4 := Lib.hid hx; clear hx
      obtain ⟨Ta0, Ta1, _, _⟩ := blkPair9 T4.out.k3
      obtain ⟨Td0, Td1, _, _⟩ := blkQ T4.out.k4
      obtain ⟨xx0, xx1, _, _⟩ := blkPair9 x4.out.k5
      obtain ⟨qx0, qx1, _, _⟩ := blkPair9 q4.out.k5
      by_cases hk2 : k = 2
      · subst hk2
        go_wp2_with fail
        try rw [hVq]
        refine (BenchValid_I _ _ n' ps' Vq x4.out.rn x4.out.rp (by omega) (by omega) HL2.out (HT.out _ T4.out.bl).1).mono ?_
        rw [HV2.out]
        rintro e wf ⟨rfl, hb⟩
        clear Ta0 Ta1 Td0 Td1 xx0 xx1 qx0 qx1
        have T5 := Lib.hid (T4.out.step hb)
        have x5 := Lib.hid (x4.out.step hb)
        have q5 := Lib.hid (q4.out.step hb)
        clear T4 x4 q4 hb
        go_wp2
        go_ret
        exact ⟨rfl, T5.out.bl⟩
      · have hk2b : (k == 2) = false := beq_eq_false_iff_ne.2 hk2
        by_cases hl20 : (ps.length : Int) < 20
        · obtain ⟨rfl, rfl, rfl⟩ := benchDo_back HV.out HDD.out hk2 (by omega) HDB.out
          go_wp2_with fail
          try rw [hVq]
          refine (sameBench9 _ _ _ _ n ps Vq q4.out.rn q4.out.rp T4.out.rn T4.out.rp).mono ?_
          rintro e w6 ⟨rfl, hb⟩
          clear Ta0 Ta1 Td0 Td1 xx0 xx1 qx0 qx1
          have T5 := Lib.hid (T4.out.step hb)
          have x5 := Lib.hid (x4.out.step hb)
          clear T4 x4 q4 hb
          obtain ⟨Ta0, Ta1, _, _⟩ := blkPair9 T5.out.k3
          obtain ⟨Td0, Td1, _, _⟩ := blkQ T5.out.k4
          obtain ⟨xx0, xx1, _, _⟩ := blkPair9 x5.out.k5
          by_cases hk00 : k = 0
          · subst hk00
            obtain ⟨rp, lf, lc, h1, h2, h3⟩ := doR_left HDD.out
            have hrp := readP_words h1
            have HRP := Lib.hid h1; clear h1
            rcases hps : progStackR n with ⟨sk, skb⟩
            rw [hps] at h2
            have HPS := Lib.hid hps; have HRO := Lib.hid h2; have HPN := Lib.hid h3; clear hps h2 h3
            go_wp2_with fail
            refine (ReadProg_I S w6 (by omega) rp true HRP.out (HT.out _ T5.out.bl).1).mono ?_
            rintro e wr ⟨ur, rfl, ho, hb⟩
            obtain ⟨rA, rc, rfl, _⟩ := id ho.rd
            clear Ta0 Ta1 Td0 Td1 xx0 xx1
            have T6 := Lib.hid (T5.out.step hb)
            have x6 := Lib.hid (x5.out.step hb)
            clear T5 x5 hb
            have R6 := Lib.hid ho.rd; clear ho
            obtain ⟨Ta0, Ta1, _, _⟩ := blkPair9 T6.out.k3
            obtain ⟨Td0, Td1, _, _⟩ := blkQ T6.out.k4
            obtain ⟨xx0, xx1, _, _⟩ := blkPair9 x6.out.k5
            go_wp2_with fail
            refine (ProgStack_I _ n wr T6.out.rn (by omega) sk skb HPS.out).mono ?_
            rintro e ws ⟨us, rfl, ho, hb⟩
            obtain ⟨sA, sc, rfl, _⟩ := id ho.rd
            clear Ta0 Ta1 Td0 Td1 xx0 xx1
            have T7 := Lib.hid (T6.out.step hb)
            have x7 := Lib.hid (x6.out.step hb)
            have R7 := Lib.hid (RdI.step R6.out hb)
            clear T6 x6 R6 hb
            have K7 := Lib.hid ho.rd; clear ho
            obtain ⟨Ta0, Ta1, _, _⟩ := blkPair9 T7.out.k3
            obtain ⟨Td0, Td1, _, _⟩ := blkQ T7.out.k4
            obtain ⟨xx0, xx1, _, _⟩ := blkPair9 x7.out.k5
            go_wp2_with fail
            refine (RunOf_I _ rp _ sk ws R7.out (by omega) K7.out lf lc true HRO.out).mono ?_
            rintro e wu ⟨uu, rfl, ho, hb⟩
            obtain ⟨uA, uc, rfl, _⟩ := id ho.rd
            clear Ta0 Ta1 Td0 Td1 xx0 xx1
            have T8 := Lib.hid (T7.out.step hb)
            have x8 := Lib.hid (x7.out.step hb)
            clear T7 x7 R7 K7 hb
            have L8 := Lib.hid ho.rd; clear ho
            obtain ⟨Ta0, Ta1, _, _⟩ := blkPair9 T8.out.k3
            obtain ⟨Td0, Td1, _, _⟩ := blkQ T8.out.k4
            obtain ⟨xx0, xx1, _, _⟩ := blkPair9 x8.out.k5
            go_wp2_with fail
            refine (ProgStack_I _ n' wu x8.out.rn (by omega) lf true HPN.out).mono ?_
            rintro e wn ⟨un, rfl, ho, hb⟩
            obtain ⟨nA, nc, rfl, _⟩ := id ho.rd
            clear Ta0 Ta1 Td0 Td1 xx0 xx1
            have T9 := Lib.hid (T8.out.step hb)
            have x9 := Lib.hid (x8.out.step hb)
            have L9 := Lib.hid (RdS.step L8.out hb)
            clear T8 x8 L8 hb
            have N9 := Lib.hid ho.rd; clear ho
            obtain ⟨Ta0, Ta1, _, _⟩ := blkPair9 T9.out.k3
            obtain ⟨Td0, Td1, _, _⟩ := blkQ T9.out.k4
            obtain ⟨xx0, xx1, _, _⟩ := blkPair9 x9.out.k5
            go_wp2_with fail
            refine (smS _ _ lf lf wn N9.out L9.out true (by simp)).mono ?_
            rintro e wm ⟨rfl, hb⟩
            clear Ta0 Ta1 Td0 Td1 xx0 xx1
            have T10 := Lib.hid (T9.out.step hb)
            have x10 := Lib.hid (x9.out.step hb)
            clear T9 x9 L9 N9 hb
            obtain ⟨Ta0, Ta1, _, _⟩ := blkPair9 T10.out.k3
            obtain ⟨Td0, Td1, _, _⟩ := blkQ T10.out.k4
            obtain ⟨xx0, xx1, _, _⟩ := blkPair9 x10.out.k5
            go_wp2_with fail
            refine (BenchValid_I _ _ n' ps' wm x10.out.rn x10.out.rp (by omega) (by omega) HL2.out (HT.out _ T10.out.bl).1).mono ?_
            rw [HV2.out]
            rintro e wf ⟨rfl, hb⟩
            clear Ta0 Ta1 Td0 Td1 xx0 xx1
            have T11 := Lib.hid (T10.out.step hb)
            have x11 := Lib.hid (x10.out.step hb)
            clear T10 x10 hb
            go_wp2
            go_ret
            exact ⟨rfl, T11.out.bl⟩
          · have hk0b : (k == 0) = false := beq_eq_false_iff_ne.2 hk00
            go_wp2_with fail
            refine (BenchValid_I _ _ n' ps' w6 x5.out.rn x5.out.rp (by omega) (by omega) HL2.out (HT.out _ T5.out.bl).1).mono ?_
            rw [HV2.out]
            rintro e wf ⟨rfl, hb⟩
            clear Ta0 Ta1 Td0 Td1 xx0 xx1
            have T6 := Lib.hid (T5.out.step hb)
            have x6 := Lib.hid (x5.out.step hb)
            clear T5 x5 hb
            go_wp2
            go_ret
            exact ⟨rfl, T6.out.bl⟩
        · skip
          by_cases hk00 : k = 0
          · subst hk00
            obtain ⟨rp, lf, lc, h1, h2, h3⟩ := doR_left HDD.out
            have hrp := readP_words h1
            have HRP := Lib.hid h1; clear h1
            rcases hps : progStackR n with ⟨sk, skb⟩
            rw [hps] at h2
            have HPS := Lib.hid hps; have HRO := Lib.hid h2; have HPN := Lib.hid h3; clear hps h2 h3
            go_wp2_with fail
            try rw [hVq]
            refine (ReadProg_I S Vq (by omega) rp true HRP.out (HT.out _ T4.out.bl).1).mono ?_
            rintro e wr ⟨ur, rfl, ho, hb⟩
            obtain ⟨rA, rc, rfl, _⟩ := id ho.rd
            clear Ta0 Ta1 Td0 Td1 xx0 xx1 qx0 qx1
            have T5 := Lib.hid (T4.out.step hb)
            have x5 := Lib.hid (x4.out.step hb)
            have q5 := Lib.hid (q4.out.step hb)
            clear T4 x4 q4 hb
            have R5 := Lib.hid ho.rd; clear ho
            obtain ⟨Ta0, Ta1, _, _⟩ := blkPair9 T5.out.k3
            obtain ⟨Td0, Td1, _, _⟩ := blkQ T5.out.k4
            obtain ⟨xx0, xx1, _, _⟩ := blkPair9 x5.out.k5
            obtain ⟨qx0, qx1, _, _⟩ := blkPair9 q5.out.k5
            go_wp2_with fail
            refine (ProgStack_I _ n wr T5.out.rn (by omega) sk skb HPS.out).mono ?_
            rintro e ws ⟨us, rfl, ho, hb⟩
            obtain ⟨sA, sc, rfl, _⟩ := id ho.rd
            clear Ta0 Ta1 Td0 Td1 xx0 xx1 qx0 qx1
            have T6 := Lib.hid (T5.out.step hb)
            have x6 := Lib.hid (x5.out.step hb)
            have q6 := Lib.hid (q5.out.step hb)
            have R6 := Lib.hid (RdI.step R5.out hb)
            clear T5 x5 q5 R5 hb
            have K6 := Lib.hid ho.rd; clear ho
            obtain ⟨Ta0, Ta1, _, _⟩ := blkPair9 T6.out.k3
            obtain ⟨Td0, Td1, _, _⟩ := blkQ T6.out.k4
            obtain ⟨xx0, xx1, _, _⟩ := blkPair9 x6.out.k5
            obtain ⟨qx0, qx1, _, _⟩ := blkPair9 q6.out.k5
            go_wp2_with fail
            refine (RunOf_I _ rp _ sk ws R6.out (by omega) K6.out lf lc true HRO.out).mono ?_
            rintro e wu ⟨uu, rfl, ho, hb⟩
            obtain ⟨uA, uc, rfl, _⟩ := id ho.rd
            clear Ta0 Ta1 Td0 Td1 xx0 xx1 qx0 qx1
            have T7 := Lib.hid (T6.out.step hb)
            have x7 := Lib.hid (x6.out.step hb)
            have q7 := Lib.hid (q6.out.step hb)
            clear T6 x6 q6 R6 K6 hb
            have L7 := Lib.hid ho.rd; clear ho
            obtain ⟨Ta0, Ta1, _, _⟩ := blkPair9 T7.out.k3
            obtain ⟨Td0, Td1, _, _⟩ := blkQ T7.out.k4
            obtain ⟨xx0, xx1, _, _⟩ := blkPair9 x7.out.k5
            obtain ⟨qx0, qx1, _, _⟩ := blkPair9 q7.out.k5
            go_wp2_with fail
            refine (ProgStack_I _ n' wu x7.out.rn (by omega) lf true HPN.out).mono ?_
            rintro e wn ⟨un, rfl, ho, hb⟩
            obtain ⟨nA, nc, rfl, _⟩ := id ho.rd
            clear Ta0 Ta1 Td0 Td1 xx0 xx1 qx0 qx1
            have T8 := Lib.hid (T7.out.step hb)
            have x8 := Lib.hid (x7.out.step hb)
            have q8 := Lib.hid (q7.out.step hb)
            have L8 := Lib.hid (RdS.step L7.out hb)
            clear T7 x7 q7 L7 hb
            have N8 := Lib.hid ho.rd; clear ho
            obtain ⟨Ta0, Ta1, _, _⟩ := blkPair9 T8.out.k3
            obtain ⟨Td0, Td1, _, _⟩ := blkQ T8.out.k4
            obtain ⟨xx0, xx1, _, _⟩ := blkPair9 x8.out.k5
            obtain ⟨qx0, qx1, _, _⟩ := blkPair9 q8.out.k5
            go_wp2_with fail
            refine (smS _ _ lf lf wn N8.out L8.out true (by simp)).mono ?_
            rintro e wm ⟨rfl, hb⟩
            clear Ta0 Ta1 Td0 Td1 xx0 xx1 qx0 qx1
            have T9 := Lib.hid (T8.out.step hb)
            have x9 := Lib.hid (x8.out.step hb)
            have q9 := Lib.hid (q8.out.step hb)
            clear T8 x8 q8 L8 N8 hb
            obtain ⟨Ta0, Ta1, _, _⟩ := blkPair9 T9.out.k3
            obtain ⟨Td0, Td1, _, _⟩ := blkQ T9.out.k4
            obtain ⟨xx0, xx1, _, _⟩ := blkPair9 x9.out.k5
            obtain ⟨qx0, qx1, _, _⟩ := blkPair9 q9.out.k5
            go_wp2_with fail
            refine (BenchValid_I _ _ n' ps' wm x9.out.rn x9.out.rp (by omega) (by omega) HL2.out (HT.out _ T9.out.bl).1).mono ?_
            rw [HV2.out]
            rintro e wf ⟨rfl, hb⟩
            clear Ta0 Ta1 Td0 Td1 xx0 xx1 qx0 qx1
            have T10 := Lib.hid (T9.out.step hb)
            have x10 := Lib.hid (x9.out.step hb)
            have q10 := Lib.hid (q9.out.step hb)
            clear T9 x9 q9 hb
            go_wp2
            go_ret
            exact ⟨rfl, T10.out.bl⟩
          · have hk0b : (k == 0) = false := beq_eq_false_iff_ne.2 hk00
            go_wp2_with fail
            try rw [hVq]
            refine (BenchValid_I _ _ n' ps' Vq x4.out.rn x4.out.rp (by omega) (by omega) HL2.out (HT.out _ T4.out.bl).1).mono ?_
            rw [HV2.out]
            rintro e wf ⟨rfl, hb⟩
            clear Ta0 Ta1 Td0 Td1 xx0 xx1 qx0 qx1
            have T5 := Lib.hid (T4.out.step hb)
            have x5 := Lib.hid (x4.out.step hb)
            have q5 := Lib.hid (q4.out.step hb)
            clear T4 x4 q4 hb
            go_wp2
            go_ret
            exact ⟨rfl, T5.out.bl⟩

theorem fnBenchDo_walk : LawWalkL 3 Tryz.f3 Rows.fnBenchDoRow.laid := by
  intro H enc W base args ds ps hval hA hL _
  rw [Tryz.params3] at hA hval
  obtain ⟨v0, d0, rfl, rfl, h0⟩ := trodAll_one hA
  obtain ⟨A0, c0, zs0, rfl, hi0, hc0⟩ := ints_of_trod Tryz.underlying22 Tryz.underlying5 cells_byte (hval 0 _ _ rfl rfl) h0
  exact fnBenchDo_any A0 c0 zs0 W (RdC.mk hi0 hc0) (strTab_of_laid lv_opTexts_named lv_opTexts_type Tryz.underlying92 Tryz.underlying9 (by kernel_rfl) (by kernel_rfl) (ss := opNames) (List.mem_of_getElem? (i := 3) (by kernel_rfl)) (by decide) hL) (tabIs_of_mem lv_uint64pow10_named lv_uint64pow10_type Tryz.underlying146 Tryz.underlying140 (by kernel_rfl) (by kernel_rfl) (List.mem_of_getElem? (i := 2) (by kernel_rfl)) hL)

noncomputable def fnBenchDo_world (os : Os) : World := laidAt (laidAt (laidAt (laidAt (World.holding Tryz.prog os ⟨#[], #[], []⟩) 3 Rows.laid_math_bits_deBruijn32tab) 4 Rows.laid_math_bits_deBruijn64tab) 2 Rows.laid_internal_strconv_uint64pow10) 0 Rows.laid_loop_example_stackwords_impl_opTexts
theorem fnBenchDo_met (os : Os) : laidMet Tryz.prog Rows.fnBenchDoRow.laid ((fnBenchDo_world os).forCall (fun _ _ => 0) ⟨#[], #[.slice none 0 0], []⟩).memory :=
  laidMet_of_run' 8 (by kernel_rfl) (by kernel_rfl)
theorem fnBenchDo_reads (os : Os) {H : Type} (enc : TypeId × Value → H) : ∃ places, DataW.whole enc Tryz.prog ((fnBenchDo_world os).forCall (fun _ _ => 0) ⟨#[], #[.slice none 0 0], []⟩).memory Tryz.f3.params.toList Rows.fnBenchDoSpec.vars false #[.slice none 0 0].toList 8 = some ([.nil], [strData opNames], places) := by
  have h : (DataW.whole enc Tryz.prog ((fnBenchDo_world os).forCall (fun _ _ => 0) ⟨#[], #[.slice none 0 0], []⟩).memory Tryz.f3.params.toList Rows.fnBenchDoSpec.vars false #[.slice none 0 0].toList 8).map (fun x => (x.1, x.2.1)) = some ([.nil], [strData opNames]) := by kernel_rfl
  obtain ⟨⟨a, b, c⟩, h1, h2⟩ := Option.map_eq_some_iff.1 h
  simp only [Prod.mk.injEq] at h2
  obtain ⟨rfl, rfl⟩ := h2
  exact ⟨c, h1⟩

set_option maxRecDepth 100000 in
theorem fnBenchDo_lifted (os : Os) (started : os.Started) (H : Type) (enc : TypeId × Value → H) (F : Stop.Interp) :
    ReturnsInHanded {} Tryz.checked os 3 .any ((OpenSpec.ofChange Rows.fnBenchDoSpec).preRow enc Tryz.prog Tryz.f3 Rows.fnBenchDoRow.domain false Rows.fnBenchDoRow.laid) (((OpenSpec.ofChange Rows.fnBenchDoSpec).at F).post enc Tryz.prog Tryz.f3 false true false false) := by
  obtain ⟨places, hx⟩ := fnBenchDo_reads os enc
  refine returnsInHanded_of_row (C := Tryz.checked) (s := OpenSpec.ofChange Rows.fnBenchDoSpec) own started (by kernel_rfl) Tryz.func3
    (witness_row_at (enc := enc) (C := Tryz.checked) false (fnBenchDo_world os) #[.slice none 0 0] rfl (by kernel_rfl) (by kernel_rfl) (by kernel_rfl)
      (OpenSpec.preRow_of_cond 8 hx (by kernel_rfl) (fun k hk => by cases hk) (by kernel_rfl) (fnBenchDo_met os))) ?_
  intro W base args ds gs before hval hW _ _ _ hL hsh _
  have hA := hW
  obtain ⟨p, q, hA, hV, _⟩ := hA
  refine (fnBenchDo_walk H enc W base args ds p hval hA hL hsh).mono fun e W' ⟨he, hb⟩ => ⟨_, he, ?_⟩
  obtain ⟨g, t, cs, fuel, d, p', rfl, _⟩ := trodVars_one hV
  have hd := (trodAll_length hA).2
  match ds, hd with
  | [d0], _ =>
    refine post_lawV (s := Rows.fnBenchDoSpec) laidOut hW (by kernel_rfl) ?_ rfl Tryz.underlying4 ⟨rfl, rfl, rfl⟩ hb
    intro n hn g t hg ht
    have hn2 : n ∈ ["loop.example/stackwords/impl.opTexts"] := hn
    simp only [List.mem_cons, List.not_mem_nil, or_false] at hn2
    rcases hn2 with rfl
    · obtain rfl := Option.some.inj (lv_opTexts_named.symm.trans hg)
      obtain rfl := Option.some.inj (lv_opTexts_type.symm.trans ht)
      exact lv_opTexts_readable

theorem fnBenchDo_said : Rows.FnBenchDoSaid :=
  OpenClaim.holds_of_cond 3 Tryz.f3 rfl rfl rfl rfl rfl rfl rfl ⟨rfl, rfl, rfl, rfl, rfl⟩ rfl rfl rfl rfl rfl (by kernel_rfl) Tryz.func3 (by unfold joinedFacts; rw [pf_enter, pf_lifts, pf_make]; kernel_rfl)
    (of_decide_eq_true (by kernel_rfl)) (by unfold Func.isWrapper; first | (rw [if_pos (by decide +kernel)]; kernel_rfl) | (rw [if_neg (by decide +kernel)]; exact ⟨rfl, rfl⟩))
    (fun os started H enc _ F => by rw [OpenClaim.pre_eq_preRow]; exact fnBenchDo_lifted os started H enc F)

theorem fnBenchDo_plain (f : FuncId) (fn : Func) (hf : Tryz.pinned.checked.prog.funcNamed "loop.example/stackwords/laws.FnBenchDo" = some f) (hfn : Tryz.pinned.checked.prog.funcs[f]? = some fn) :
    false = Tryz.pinned.checked.prog.looks [] ∧ ∀ (j : Nat) t, fn.params[j]? = some t → Tryz.pinned.checked.prog.wantsStandIn t = false := by
  obtain rfl : f = 3 := Option.some.inj ((show Tryz.prog.funcNamed "loop.example/stackwords/laws.FnBenchDo" = some 3 by kernel_rfl).symm.trans hf) |>.symm
  obtain rfl : fn = Tryz.f3 := (Option.some.inj (Tryz.func3.symm.trans hfn)).symm
  refine ⟨by kernel_rfl, fun j t ht => ?_⟩
  rw [Tryz.params3] at ht
  have hm := Array.mem_of_getElem? ht
  simp only [List.mem_toArray, List.mem_cons, List.not_mem_nil, or_false] at hm
  rcases hm with rfl
  · exact (show Tryz.prog.wantsStandIn 22 = false by kernel_rfl)

/-- FnBenchDo: the card, as it is given. -/
theorem fnBenchDo_card : Rows.FnBenchDoCardSaid :=
  Claim7.holds_tied_plain_at .later [] _ _ _ _ fnBenchDo_said (fun _ h => by cases h) (by kernel_rfl) (fun _ h => by cases h) fnBenchDo_row_tie rfl ⟨rfl, rfl⟩ (by kernel_rfl) rfl fnBenchDo_plain (by kernel_rfl)

end Go.Proofs.YtjblecinkedppaaGreatDoor
