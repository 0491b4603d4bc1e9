/- Several texts in one. -/
import Derived.Test.YtjblecinkedppaaGreatDoorI
import Derived.Test.YtjblecinkedppaaGreatDoorBo
/- Drawn programs are programs: their words are words, and their brackets fit (written by tools/fit.py out of XH). -/
namespace Go.Proofs.YtjblecinkedppaaGreatDoor
set_option maxRecDepth 100000
open Go.RowKit Go.WideShapes

/-- Words whose brackets fit by themselves. -/
def Fit (zs : List Int) : Prop := zs.all isWordB = true ∧ ∀ (o : Int) (r : List Int), 0 ≤ o → fitsFrom o (zs ++ r) = fitsFrom o r
theorem Fit.nil : Fit [] := ⟨rfl, fun _ _ _ => rfl⟩
theorem Fit.app {a b : List Int} (ha : Fit a) (hb : Fit b) : Fit (a ++ b) :=
  ⟨by rw [List.all_append, ha.1, hb.1]; rfl, fun o r h => by rw [List.append_assoc, ha.2 o _ h, hb.2 o r h]⟩
theorem Fit.one {z : Int} (hw : isWordB z = true) (h1 : z ≠ 1012) (h2 : z ≠ 1013) : Fit [z] := by
  refine ⟨by simp [hw], fun o r h => ?_⟩
  have hb : brk z = 0 := by rw [brk, if_neg h1, if_neg h2]
  show fitsFrom o (z :: r) = _
  rw [fitsFrom, hb, if_neg (by omega), Int.add_zero]
theorem Fit.quote {a : List Int} (ha : Fit a) : Fit ([1012] ++ a ++ [1013]) := by
  refine ⟨by rw [List.all_append, List.all_append, ha.1]; decide, fun o r h => ?_⟩
  rw [List.append_assoc, List.append_assoc]
  show fitsFrom o (1012 :: (a ++ (1013 :: r))) = _
  have hb : brk 1012 = 1 := by decide
  have hb2 : brk 1013 = -1 := by decide
  rw [fitsFrom, hb, if_neg (by omega), ha.2 _ _ (by omega), fitsFrom, hb2, if_neg (by omega), show o + 1 + -1 = o by omega]
theorem Fit.num {z : Int} (h : 0 ≤ z ∧ z ≤ 999) : Fit [z] := Fit.one (by simp [isWordB, isNumB]; omega) (by omega) (by omega)
theorem Fit.op {z : Int} (h : 1001 ≤ z ∧ z ≤ 1011) : Fit [z] := Fit.one (by simp [isWordB, isNumB]; omega) (by omega) (by omega)
theorem Fit.c5 {b : List Int} {x : Int} (hb : Fit b) (h : 0 ≤ x ∧ x ≤ 6) : Fit (([1012] ++ b) ++ [1013, 1004 + x]) := by
  have := hb.quote.app (Fit.op (z := 1004 + x) (by omega))
  simpa using this
theorem Fit.c6 {b : List Int} (hb : Fit b) : Fit (([1012] ++ b) ++ [1013]) := hb.quote
theorem Fit.c7 {b q : List Int} {x : Int} (hb : Fit b) (hq : Fit q) (h : 0 ≤ x ∧ x ≤ 999) : Fit (((([x, 1012] ++ b) ++ [1013, 1012]) ++ q) ++ [1013, 1010]) := by
  have := ((((Fit.num h).app hb.quote).app hq.quote).app (Fit.op (z := 1010) (by omega)))
  simpa using this
theorem Fit.c8 {b : List Int} {x : Int} (hb : Fit b) (h : 0 ≤ x ∧ x ≤ 999) : Fit (([x, 1012] ++ b) ++ [1013, 1011]) := by
  have := (((Fit.num h).app hb.quote).app (Fit.op (z := 1011) (by omega)))
  simpa using this
theorem Fit.valid {a : List Int} (ha : Fit a) (hl : a.length ≤ 60) : validB a = true := by
  have h := ha.2 0 [] (by omega)
  rw [List.append_nil] at h
  simp [validB, hl, ha.1, h, fitsFrom]

def PartOkF (d : Int) (L C M : Nat) : Prop := ∀ (w0 : World) (g p : Nat) (bs : List Int) (w : World), RS w0 w g bs p → p ≤ M →
  Calls Tryz.prog 108 #[.pointer (some ⟨g, 0, none⟩), .int .i64 d] w fun e w' => ∃ v zs p', e = .returned v ∧ OwnI w' w.heap.size w'.heap.size v zs ∧ zs.length ≤ L ∧ RS w0 w' g bs p' ∧ p' ≤ p + C ∧ Within g (g + 1) w w' ∧ Fit zs
def WordsOkF (d : Int) (L C M : Nat) : Prop := ∀ (n : Int) (w0 : World) (g p : Nat) (bs : List Int) (w : World), 0 ≤ n ∧ n ≤ 7 → RS w0 w g bs p → p ≤ M →
  Calls Tryz.prog 77 #[.pointer (some ⟨g, 0, none⟩), .int .i64 n, .int .i64 d] w fun e w' => ∃ v zs p', e = .returned v ∧ OwnI w' w.heap.size w'.heap.size v zs ∧ zs.length ≤ 7 * L ∧ RS w0 w' g bs p' ∧ p' ≤ p + (1 + 7 * C) ∧ Within g (g + 1) w w' ∧ Fit zs

theorem words_stepF (d : Int) (L C M : Nat) (hL : L ≤ 1000) (hC : C ≤ 100000) (hM : M ≤ 700000000000) (hP : PartOkF d L C (M + (1 + 7 * C))) : WordsOkF d L C M := by
  intro n w0 g p bs w hn h hp
  have hgw := h.rdr.lt
  have H := Lib.hid h; clear h
  have HP := Lib.hid hP; clear hP
  have L0 := Lib.hid (lits_own w [] (by simp) (by simp))
  have B0 : Below w.heap.size w (w.alloc (.cells #[] 3)) := (Below.refl _ _).alloc (Nat.le_refl _) _
  have H0 := Lib.hid (H.out.below B0 H.out.size)
  have hs0 : w0.heap.size ≤ w.heap.size := H.out.size
  have G0 : Hid (Within g (g + 1) w (w.alloc (.cells #[] 3))) := Lib.hid (Within.of_below B0)
  clear B0 H
  go_enter Tryz.func77, Tryz.ntmps77
  go_wp2_with fail
  refine (pick w0 g p (n + 1) bs _ H0.out (by omega) (by omega)).mono ?_
  rintro e w1 ⟨x, rfl, hx0, hx1, hr1, hg1⟩
  have hsz1 : w.heap.size + 1 ≤ w1.heap.size := by have := hg1.size; simpa using this
  have L1 := Lib.hid (L0.out.apart hg1 (by omega))
  have H1 := Lib.hid hr1
  have G1 := Lib.hid (G0.out.trans hg1)
  clear hr1 hg1 L0 H0 G0
  obtain ⟨j0, rfl⟩ := Int.eq_ofNat_of_zero_le hx0
  go_wp2
  go_loopw [7, 8] (fun v k wr => ∃ (j p' : Nat) (zs : List Int), k = .int .i64 j ∧ j ≤ 7 ∧ w.heap.size + 1 ≤ wr.heap.size ∧ OwnI wr w.heap.size wr.heap.size v zs ∧ zs.length + j * L ≤ 7 * L ∧ RS w0 wr g bs p' ∧ p' + j * C ≤ p + (1 + 7 * C) ∧ Within g (g + 1) w wr ∧ Fit zs) (fun _ k _ => (intOf k).toNat)
  case atStart => exact ⟨j0, p + 1, [], rfl, by omega, hsz1, ⟨L1.out.own, fun g hg => by have := L1.out.lt g hg; omega⟩, by have := Nat.mul_le_mul_right L (show j0 ≤ 7 by omega); simp; omega, H1.out, by have := Nat.mul_le_mul_right C (show j0 ≤ 7 by omega); omega, G1.out, Fit.nil⟩
  case round =>
    clear L1 H1 G1 hsz1 hx0 hx1
    obtain ⟨j, p', zs, rfl, hj, hsz, hown, hlen, hrs, hpc, hgw2, hfz⟩ := hrel
    have X := Lib.hid (And.intro hown (And.intro hrs hgw2)); clear hown hrs hgw2
    rcases j with _ | j
    · go_wp2
      go_ret
      exact ⟨_, zs, p', rfl, X.out.1, by omega, X.out.2.1, by omega, X.out.2.2, hfz⟩
    · rw [Nat.succ_mul] at hlen hpc
      have hjp : (0 : Int) < ((j + 1 : Nat) : Int) := by omega
      have hpb : p' ≤ M + (1 + 7 * C) := by omega
      go_wp2_with fail
      refine (HP.out w0 g p' bs _ X.out.2.1 hpb).mono ?_
      rintro e w2 ⟨u, ys, p2, rfl, hou, hyl, hrs2, hp2, hg2, hfy⟩
      have hs2 := hg2.size
      have Y := Lib.hid (And.intro (X.out.1.apart hg2 (by omega)) (And.intro hou.rd (And.intro hrs2 (X.out.2.2.trans hg2))))
      clear hou hrs2 hg2 X
      go_wp2_with (at_builtin; refine wpList_append_V rfl _ _ _ rfl Tryz.underlying23 intInfo w.heap.size _ _ zs rfl Y.out.1 (by omega) u ys rfl Y.out.2.1 (by omega) ?_)
      intro v3 w3 hown3 hb3
      have hs3 := hb3.size
      have Z := Lib.hid (And.intro hown3 (And.intro (Y.out.2.2.1.below hb3 hs0) (Y.out.2.2.2.then_below hb3 (Nat.le_refl _))))
      clear hown3 hb3 Y
      go_wp2
      go_roundw
      case rel => exact ⟨j, p2, zs ++ ys, by first | rfl | go_num, by omega, by omega, Z.out.1, by simp; omega, Z.out.2.1, by omega, Z.out.2.2, hfz.app hfy⟩
      case measure => simp [intOf]

def PartPostF (w0 : World) (g p : Nat) (bs : List Int) (w : World) (L C : Nat) (e : Ending) (w' : World) : Prop :=
  ∃ v zs p', e = .returned v ∧ OwnI w' w.heap.size w'.heap.size v zs ∧ zs.length ≤ L ∧ RS w0 w' g bs p' ∧ p' ≤ p + C ∧ Within g (g + 1) w w' ∧ Fit zs
theorem part_litF (w0 w w1 : World) (g p p1 L C : Nat) (bs zs : List Int) (hr : RS w0 w1 g bs p1) (hg : Within g (g + 1) w w1) (h0 : w0.heap.size ≤ w.heap.size) (hz : ∀ z ∈ zs, -1000000 ≤ z ∧ z ≤ 1000000) (hl : zs.length ≤ L ∧ L ≤ 1000) (hp : p1 ≤ p + C) (hf : Fit zs) :
    PartPostF w0 g p bs w L C (.returned (.slice (some ⟨w1.heap.size, 0, none⟩) zs.length zs.length)) (w1.alloc (.cells (zs.map (Value.int .i64)).toArray 3)) := by
  have hb : Below w1.heap.size w1 (w1.alloc (.cells (zs.map (Value.int .i64)).toArray 3)) := (Below.refl _ _).alloc (Nat.le_refl _) _
  have ho := lits_own w1 zs (by omega) (fun z h => wf_near z (hz z h))
  have hs := hg.size
  refine ⟨_, zs, p1, rfl, ⟨ho.own.mono hs, fun g hg => by have := ho.lt g hg; simpa using this⟩, hl.1, hr.below hb (by omega), hp, hg.then_below hb hs, hf⟩

theorem part_stepF (d : Int) (L C M : Nat) (hd : 1 ≤ d ∧ d ≤ 5) (hL : L ≤ 30) (hC : C ≤ 10000) (hM : M ≤ 700000000000) (hW : WordsOkF (d - 1) L C (M + (20 + 14 * C))) : PartOkF d (6 + 14 * L) (20 + 14 * C) M := by
  intro w0 g p bs w h hp
  have hgw := h.rdr.lt
  show Calls _ _ _ _ (PartPostF w0 g p bs w (6 + 14 * L) (20 + 14 * C))
  have H := Lib.hid h; clear h
  have HW := Lib.hid hW; clear hW
  have hs0 : w0.heap.size ≤ w.heap.size := H.out.size
  go_enter Tryz.func108, Tryz.ntmps108
  go_wp2_with fail
  refine (pick w0 g p 9 bs _ H.out (by omega) (by omega)).mono ?_
  rintro e w1 ⟨x, rfl, hx0, hx1, hr1, hg1⟩
  have hs1 := hg1.size
  have X1 := Lib.hid (And.intro hr1 hg1); clear hr1 hg1 H
  have hcases : x = 0 ∨ x = 1 ∨ x = 2 ∨ x = 3 ∨ x = 4 ∨ x = 5 ∨ x = 6 ∨ x = 7 ∨ x = 8 := by omega
  clear hx0 hx1
  rcases hcases with rfl | rfl | rfl | rfl | rfl | rfl | rfl | rfl | rfl
  · skip
    go_wp2_with fail
    refine (num w0 g (p+1) bs _ (X1.out.1) (by omega)).mono ?_
    rintro e w_2 ⟨x, rfl, hx0, hx1, hr2, hg2⟩
    have hz2 : w1.heap.size ≤ w_2.heap.size := by have := hg2.size; simpa using this
    have S2 : Hid (RS w0 w_2 g bs (p+1 + 4) ∧ Within g (g + 1) w w_2) := Lib.hid ⟨hr2, (X1.out.2).trans hg2⟩
    clear hr2 hg2
    go_wp2
    go_ret
    exact part_litF w0 w _ g p _ _ _ bs [x] S2.out.1 S2.out.2 hs0 (by intro z hz; simp only [List.mem_cons, List.not_mem_nil, or_false] at hz; omega) ⟨by simp; omega, by omega⟩ (by omega) (Fit.one (by simp [isWordB, isNumB]; omega) (by omega) (by omega))
  · skip
    go_wp2_with fail
    refine (num w0 g (p+1) bs _ (X1.out.1) (by omega)).mono ?_
    rintro e w_2 ⟨x, rfl, hx0, hx1, hr2, hg2⟩
    have hz2 : w1.heap.size ≤ w_2.heap.size := by have := hg2.size; simpa using this
    have S2 : Hid (RS w0 w_2 g bs (p+1 + 4) ∧ Within g (g + 1) w w_2) := Lib.hid ⟨hr2, (X1.out.2).trans hg2⟩
    clear hr2 hg2
    go_wp2
    go_ret
    exact part_litF w0 w _ g p _ _ _ bs [x] S2.out.1 S2.out.2 hs0 (by intro z hz; simp only [List.mem_cons, List.not_mem_nil, or_false] at hz; omega) ⟨by simp; omega, by omega⟩ (by omega) (Fit.one (by simp [isWordB, isNumB]; omega) (by omega) (by omega))
  · skip
    go_wp2_with fail
    refine (pick w0 g (p+1) (4) bs _ (X1.out.1) (by omega) (by omega)).mono ?_
    rintro e w_2 ⟨x, rfl, hx0, hx1, hr2, hg2⟩
    have hz2 : w1.heap.size ≤ w_2.heap.size := by have := hg2.size; simpa using this
    have S2 : Hid (RS w0 w_2 g bs (p+1 + 1) ∧ Within g (g + 1) w w_2) := Lib.hid ⟨hr2, (X1.out.2).trans hg2⟩
    clear hr2 hg2
    go_wp2
    go_ret
    exact part_litF w0 w _ g p _ _ _ bs [1006 + x] S2.out.1 S2.out.2 hs0 (by intro z hz; simp only [List.mem_cons, List.not_mem_nil, or_false] at hz; omega) ⟨by simp; omega, by omega⟩ (by omega) (Fit.one (by simp [isWordB, isNumB]; omega) (by omega) (by omega))
  · skip
    go_wp2_with fail
    refine (pick w0 g (p+1) (3) bs _ (X1.out.1) (by omega) (by omega)).mono ?_
    rintro e w_2 ⟨x, rfl, hx0, hx1, hr2, hg2⟩
    have hz2 : w1.heap.size ≤ w_2.heap.size := by have := hg2.size; simpa using this
    have S2 : Hid (RS w0 w_2 g bs (p+1 + 1) ∧ Within g (g + 1) w w_2) := Lib.hid ⟨hr2, (X1.out.2).trans hg2⟩
    clear hr2 hg2
    go_wp2
    go_ret
    exact part_litF w0 w _ g p _ _ _ bs [1001 + x] S2.out.1 S2.out.2 hs0 (by intro z hz; simp only [List.mem_cons, List.not_mem_nil, or_false] at hz; omega) ⟨by simp; omega, by omega⟩ (by omega) (Fit.one (by simp [isWordB, isNumB]; omega) (by omega) (by omega))
  · skip
    go_wp2_with fail
    refine (pick w0 g (p+1) (3) bs _ (X1.out.1) (by omega) (by omega)).mono ?_
    rintro e w_2 ⟨x, rfl, hx0, hx1, hr2, hg2⟩
    have hz2 : w1.heap.size ≤ w_2.heap.size := by have := hg2.size; simpa using this
    have S2 : Hid (RS w0 w_2 g bs (p+1 + 1) ∧ Within g (g + 1) w w_2) := Lib.hid ⟨hr2, (X1.out.2).trans hg2⟩
    clear hr2 hg2
    go_wp2
    go_ret
    exact part_litF w0 w _ g p _ _ _ bs [1001 + x] S2.out.1 S2.out.2 hs0 (by intro z hz; simp only [List.mem_cons, List.not_mem_nil, or_false] at hz; omega) ⟨by simp; omega, by omega⟩ (by omega) (Fit.one (by simp [isWordB, isNumB]; omega) (by omega) (by omega))
  · skip
    have hb2 : Below (w1.heap.size) w1 (w1.alloc (.cells #[.int .i64 (1012)] 3)) := (Below.refl _ _).alloc (by simp) _
    have ho2 := lits_own w1 [1012] (by simp) (by intro z hz; simp only [List.mem_cons, List.not_mem_nil, or_false] at hz; apply wf_near; omega)
    have S2 : Hid (RS w0 (w1.alloc (.cells #[.int .i64 (1012)] 3)) g bs (p+1) ∧ Within g (g + 1) w (w1.alloc (.cells #[.int .i64 (1012)] 3)) ∧ OwnI (w1.alloc (.cells #[.int .i64 (1012)] 3)) (w1.heap.size) (w1.heap.size + 1) (.slice (some ⟨w1.heap.size, 0, none⟩) 1 1) ([1012])) := Lib.hid ⟨(X1.out.1).below hb2 (by omega), (X1.out.2).then_below hb2 (by omega), (by simpa using ho2)⟩
    clear hb2 ho2
    go_wp2_with fail
    refine (HW.out 3 w0 g (p+1) bs _ (by omega) (S2.out.1) (by omega)).mono ?_
    rintro e w_3 ⟨b, zb, p3, rfl, ho3, hl3, hr3, hp3, hg3, hf_b⟩
    have hz3 : w1.heap.size + 1 ≤ w_3.heap.size := by have := hg3.size; simpa using this
    have S3 : Hid (RS w0 w_3 g bs (p3) ∧ Within g (g + 1) w w_3 ∧ OwnI w_3 (w1.heap.size) (w1.heap.size + 1) (.slice (some ⟨w1.heap.size, 0, none⟩) 1 1) ([1012]) ∧ OwnI w_3 (w1.heap.size + 1) (w_3.heap.size) b (zb)) := Lib.hid ⟨hr3, (S2.out.2.1).trans hg3, (S2.out.2.2).apart hg3 (by omega), (by simpa using ho3)⟩
    clear S2
    clear ho3 hr3 hg3
    go_wp2_with (at_builtin; (refine wpList_append_V rfl _ _ _ rfl Tryz.underlying23 intInfo (w1.heap.size) (w1.heap.size + 1) (.slice (some ⟨w1.heap.size, 0, none⟩) 1 1) ([1012]) rfl (S3.out.2.2.1) (by first | omega | (simp <;> omega)) b (zb) rfl (S3.out.2.2.2).rd (by first | omega | (simp <;> omega)) ?_))
    intro c w_4 ho4 hb4
    have hz4 : w_3.heap.size ≤ w_4.heap.size := by have := hb4.size; simpa using this
    have S4 : Hid (RS w0 w_4 g bs (p3) ∧ Within g (g + 1) w w_4 ∧ OwnI w_4 (w1.heap.size) (w_4.heap.size) c (([1012]) ++ (zb))) := Lib.hid ⟨(S3.out.1).below hb4 (by omega), (S3.out.2.1).then_below hb4 (by omega), (by simpa using ho4)⟩
    clear S3
    clear ho4 hb4
    go_wp2_with fail
    refine (pick w0 g (p3) (2) bs _ (S4.out.1) (by omega) (by omega)).mono ?_
    rintro e w_5 ⟨x, rfl, hx0, hx1, hr5, hg5⟩
    have hz5 : w_4.heap.size ≤ w_5.heap.size := by have := hg5.size; simpa using this
    have S5 : Hid (RS w0 w_5 g bs (p3 + 1) ∧ Within g (g + 1) w w_5 ∧ OwnI w_5 (w1.heap.size) (w_4.heap.size) c (([1012]) ++ (zb))) := Lib.hid ⟨hr5, (S4.out.2.1).trans hg5, (S4.out.2.2).apart hg5 (by omega)⟩
    clear S4
    clear hr5 hg5
    have hb6 : Below (w_5.heap.size) w_5 (w_5.alloc (.cells #[.int .i64 (1013), .int .i64 (1004+x)] 3)) := (Below.refl _ _).alloc (by simp) _
    have ho6 := lits_own w_5 [1013, 1004+x] (by simp) (by intro z hz; simp only [List.mem_cons, List.not_mem_nil, or_false] at hz; apply wf_near; omega)
    have S6 : Hid (RS w0 (w_5.alloc (.cells #[.int .i64 (1013), .int .i64 (1004+x)] 3)) g bs (p3 + 1) ∧ Within g (g + 1) w (w_5.alloc (.cells #[.int .i64 (1013), .int .i64 (1004+x)] 3)) ∧ OwnI (w_5.alloc (.cells #[.int .i64 (1013), .int .i64 (1004+x)] 3)) (w1.heap.size) (w_4.heap.size) c (([1012]) ++ (zb)) ∧ OwnI (w_5.alloc (.cells #[.int .i64 (1013), .int .i64 (1004+x)] 3)) (w_5.heap.size) (w_5.heap.size + 1) (.slice (some ⟨w_5.heap.size, 0, none⟩) 2 2) ([1013, 1004+x])) := Lib.hid ⟨(S5.out.1).below hb6 (by omega), (S5.out.2.1).then_below hb6 (by omega), (S5.out.2.2).belowB hb6 (by omega), (by simpa using ho6)⟩
    clear S5
    clear hb6 ho6
    go_wp2_with (at_builtin; (refine wpList_append_V rfl _ _ _ rfl Tryz.underlying23 intInfo (w1.heap.size) (w_4.heap.size) c (([1012]) ++ (zb)) rfl (S6.out.2.2.1) (by first | omega | (simp <;> omega)) (.slice (some ⟨w_5.heap.size, 0, none⟩) 2 2) ([1013, 1004+x]) rfl (S6.out.2.2.2).rd (by first | omega | (simp <;> omega)) ?_))
    intro f w_7 ho7 hb7
    have hz7 : w_5.heap.size + 1 ≤ w_7.heap.size := by have := hb7.size; simpa using this
    have S7 : Hid (RS w0 w_7 g bs (p3 + 1) ∧ Within g (g + 1) w w_7 ∧ OwnI w_7 (w1.heap.size) (w_7.heap.size) f ((([1012]) ++ (zb)) ++ ([1013, 1004+x]))) := Lib.hid ⟨(S6.out.1).below hb7 (by omega), (S6.out.2.1).then_below hb7 (by omega), (by simpa using ho7)⟩
    clear S6
    clear ho7 hb7
    go_wp2_with fail
    go_ret
    exact ⟨f, _, _, rfl, ⟨(S7.out.2.2).own.mono (by omega), fun q hq => by have := (S7.out.2.2).lt q hq; first | omega | (simp; omega)⟩, by first | omega | (simp; done) | (simp; omega), S7.out.1, by omega, S7.out.2.1, (Fit.c5 hf_b (by omega))⟩
  · skip
    have hb2 : Below (w1.heap.size) w1 (w1.alloc (.cells #[.int .i64 (1012)] 3)) := (Below.refl _ _).alloc (by simp) _
    have ho2 := lits_own w1 [1012] (by simp) (by intro z hz; simp only [List.mem_cons, List.not_mem_nil, or_false] at hz; apply wf_near; omega)
    have S2 : Hid (RS w0 (w1.alloc (.cells #[.int .i64 (1012)] 3)) g bs (p+1) ∧ Within g (g + 1) w (w1.alloc (.cells #[.int .i64 (1012)] 3)) ∧ OwnI (w1.alloc (.cells #[.int .i64 (1012)] 3)) (w1.heap.size) (w1.heap.size + 1) (.slice (some ⟨w1.heap.size, 0, none⟩) 1 1) ([1012])) := Lib.hid ⟨(X1.out.1).below hb2 (by omega), (X1.out.2).then_below hb2 (by omega), (by simpa using ho2)⟩
    clear hb2 ho2
    go_wp2_with fail
    refine (HW.out 3 w0 g (p+1) bs _ (by omega) (S2.out.1) (by omega)).mono ?_
    rintro e w_3 ⟨b, zb, p3, rfl, ho3, hl3, hr3, hp3, hg3, hf_b⟩
    have hz3 : w1.heap.size + 1 ≤ w_3.heap.size := by have := hg3.size; simpa using this
    have S3 : Hid (RS w0 w_3 g bs (p3) ∧ Within g (g + 1) w w_3 ∧ OwnI w_3 (w1.heap.size) (w1.heap.size + 1) (.slice (some ⟨w1.heap.size, 0, none⟩) 1 1) ([1012]) ∧ OwnI w_3 (w1.heap.size + 1) (w_3.heap.size) b (zb)) := Lib.hid ⟨hr3, (S2.out.2.1).trans hg3, (S2.out.2.2).apart hg3 (by omega), (by simpa using ho3)⟩
    clear S2
    clear ho3 hr3 hg3
    go_wp2_with (at_builtin; (refine wpList_append_V rfl _ _ _ rfl Tryz.underlying23 intInfo (w1.heap.size) (w1.heap.size + 1) (.slice (some ⟨w1.heap.size, 0, none⟩) 1 1) ([1012]) rfl (S3.out.2.2.1) (by first | omega | (simp <;> omega)) b (zb) rfl (S3.out.2.2.2).rd (by first | omega | (simp <;> omega)) ?_))
    intro c w_4 ho4 hb4
    have hz4 : w_3.heap.size ≤ w_4.heap.size := by have := hb4.size; simpa using this
    have S4 : Hid (RS w0 w_4 g bs (p3) ∧ Within g (g + 1) w w_4 ∧ OwnI w_4 (w1.heap.size) (w_4.heap.size) c (([1012]) ++ (zb))) := Lib.hid ⟨(S3.out.1).below hb4 (by omega), (S3.out.2.1).then_below hb4 (by omega), (by simpa using ho4)⟩
    clear S3
    clear ho4 hb4
    have hb5 : Below (w_4.heap.size) w_4 (w_4.alloc (.cells #[.int .i64 (1013)] 3)) := (Below.refl _ _).alloc (by simp) _
    have ho5 := lits_own w_4 [1013] (by simp) (by intro z hz; simp only [List.mem_cons, List.not_mem_nil, or_false] at hz; apply wf_near; omega)
    have S5 : Hid (RS w0 (w_4.alloc (.cells #[.int .i64 (1013)] 3)) g bs (p3) ∧ Within g (g + 1) w (w_4.alloc (.cells #[.int .i64 (1013)] 3)) ∧ OwnI (w_4.alloc (.cells #[.int .i64 (1013)] 3)) (w1.heap.size) (w_4.heap.size) c (([1012]) ++ (zb)) ∧ OwnI (w_4.alloc (.cells #[.int .i64 (1013)] 3)) (w_4.heap.size) (w_4.heap.size + 1) (.slice (some ⟨w_4.heap.size, 0, none⟩) 1 1) ([1013])) := Lib.hid ⟨(S4.out.1).below hb5 (by omega), (S4.out.2.1).then_below hb5 (by omega), (S4.out.2.2).belowB hb5 (by omega), (by simpa using ho5)⟩
    clear S4
    clear hb5 ho5
    go_wp2_with (at_builtin; (refine wpList_append_V rfl _ _ _ rfl Tryz.underlying23 intInfo (w1.heap.size) (w_4.heap.size) c (([1012]) ++ (zb)) rfl (S5.out.2.2.1) (by first | omega | (simp <;> omega)) (.slice (some ⟨w_4.heap.size, 0, none⟩) 1 1) ([1013]) rfl (S5.out.2.2.2).rd (by first | omega | (simp <;> omega)) ?_))
    intro f w_6 ho6 hb6
    have hz6 : w_4.heap.size + 1 ≤ w_6.heap.size := by have := hb6.size; simpa using this
    have S6 : Hid (RS w0 w_6 g bs (p3) ∧ Within g (g + 1) w w_6 ∧ OwnI w_6 (w1.heap.size) (w_6.heap.size) f ((([1012]) ++ (zb)) ++ ([1013]))) := Lib.hid ⟨(S5.out.1).below hb6 (by omega), (S5.out.2.1).then_below hb6 (by omega), (by simpa using ho6)⟩
    clear S5
    clear ho6 hb6
    go_wp2_with fail
    go_ret
    exact ⟨f, _, _, rfl, ⟨(S6.out.2.2).own.mono (by omega), fun q hq => by have := (S6.out.2.2).lt q hq; first | omega | (simp; omega)⟩, by first | omega | (simp; done) | (simp; omega), S6.out.1, by omega, S6.out.2.1, (Fit.c6 hf_b)⟩
  · skip
    go_wp2_with fail
    refine (num w0 g (p+1) bs _ (X1.out.1) (by omega)).mono ?_
    rintro e w_2 ⟨x, rfl, hx0, hx1, hr2, hg2⟩
    have hz2 : w1.heap.size ≤ w_2.heap.size := by have := hg2.size; simpa using this
    have S2 : Hid (RS w0 w_2 g bs (p+1 + 4) ∧ Within g (g + 1) w w_2) := Lib.hid ⟨hr2, (X1.out.2).trans hg2⟩
    clear hr2 hg2
    have hb3 : Below (w_2.heap.size) w_2 (w_2.alloc (.cells #[.int .i64 (x), .int .i64 (1012)] 3)) := (Below.refl _ _).alloc (by simp) _
    have ho3 := lits_own w_2 [x, 1012] (by simp) (by intro z hz; simp only [List.mem_cons, List.not_mem_nil, or_false] at hz; apply wf_near; omega)
    have S3 : Hid (RS w0 (w_2.alloc (.cells #[.int .i64 (x), .int .i64 (1012)] 3)) g bs (p+1 + 4) ∧ Within g (g + 1) w (w_2.alloc (.cells #[.int .i64 (x), .int .i64 (1012)] 3)) ∧ OwnI (w_2.alloc (.cells #[.int .i64 (x), .int .i64 (1012)] 3)) (w_2.heap.size) (w_2.heap.size + 1) (.slice (some ⟨w_2.heap.size, 0, none⟩) 2 2) ([x, 1012])) := Lib.hid ⟨(S2.out.1).below hb3 (by omega), (S2.out.2).then_below hb3 (by omega), (by simpa using ho3)⟩
    clear S2
    clear hb3 ho3
    go_wp2_with fail
    refine (HW.out 2 w0 g (p+1 + 4) bs _ (by omega) (S3.out.1) (by omega)).mono ?_
    rintro e w_4 ⟨b, zb, p4, rfl, ho4, hl4, hr4, hp4, hg4, hf_b⟩
    have hz4 : w_2.heap.size + 1 ≤ w_4.heap.size := by have := hg4.size; simpa using this
    have S4 : Hid (RS w0 w_4 g bs (p4) ∧ Within g (g + 1) w w_4 ∧ OwnI w_4 (w_2.heap.size) (w_2.heap.size + 1) (.slice (some ⟨w_2.heap.size, 0, none⟩) 2 2) ([x, 1012]) ∧ OwnI w_4 (w_2.heap.size + 1) (w_4.heap.size) b (zb)) := Lib.hid ⟨hr4, (S3.out.2.1).trans hg4, (S3.out.2.2).apart hg4 (by omega), (by simpa using ho4)⟩
    clear S3
    clear ho4 hr4 hg4
    go_wp2_with (at_builtin; (refine wpList_append_V rfl _ _ _ rfl Tryz.underlying23 intInfo (w_2.heap.size) (w_2.heap.size + 1) (.slice (some ⟨w_2.heap.size, 0, none⟩) 2 2) ([x, 1012]) rfl (S4.out.2.2.1) (by first | omega | (simp <;> omega)) b (zb) rfl (S4.out.2.2.2).rd (by first | omega | (simp <;> omega)) ?_))
    intro c w_5 ho5 hb5
    have hz5 : w_4.heap.size ≤ w_5.heap.size := by have := hb5.size; simpa using this
    have S5 : Hid (RS w0 w_5 g bs (p4) ∧ Within g (g + 1) w w_5 ∧ OwnI w_5 (w_2.heap.size) (w_5.heap.size) c (([x, 1012]) ++ (zb))) := Lib.hid ⟨(S4.out.1).below hb5 (by omega), (S4.out.2.1).then_below hb5 (by omega), (by simpa using ho5)⟩
    clear S4
    clear ho5 hb5
    have hb6 : Below (w_5.heap.size) w_5 (w_5.alloc (.cells #[.int .i64 (1013), .int .i64 (1012)] 3)) := (Below.refl _ _).alloc (by simp) _
    have ho6 := lits_own w_5 [1013, 1012] (by simp) (by intro z hz; simp only [List.mem_cons, List.not_mem_nil, or_false] at hz; apply wf_near; omega)
    have S6 : Hid (RS w0 (w_5.alloc (.cells #[.int .i64 (1013), .int .i64 (1012)] 3)) g bs (p4) ∧ Within g (g + 1) w (w_5.alloc (.cells #[.int .i64 (1013), .int .i64 (1012)] 3)) ∧ OwnI (w_5.alloc (.cells #[.int .i64 (1013), .int .i64 (1012)] 3)) (w_2.heap.size) (w_5.heap.size) c (([x, 1012]) ++ (zb)) ∧ OwnI (w_5.alloc (.cells #[.int .i64 (1013), .int .i64 (1012)] 3)) (w_5.heap.size) (w_5.heap.size + 1) (.slice (some ⟨w_5.heap.size, 0, none⟩) 2 2) ([1013, 1012])) := Lib.hid ⟨(S5.out.1).below hb6 (by omega), (S5.out.2.1).then_below hb6 (by omega), (S5.out.2.2).belowB hb6 (by omega), (by simpa using ho6)⟩
    clear S5
    clear hb6 ho6
    go_wp2_with (at_builtin; (refine wpList_append_V rfl _ _ _ rfl Tryz.underlying23 intInfo (w_2.heap.size) (w_5.heap.size) c (([x, 1012]) ++ (zb)) rfl (S6.out.2.2.1) (by first | omega | (simp <;> omega)) (.slice (some ⟨w_5.heap.size, 0, none⟩) 2 2) ([1013, 1012]) rfl (S6.out.2.2.2).rd (by first | omega | (simp <;> omega)) ?_))
    intro f w_7 ho7 hb7
    have hz7 : w_5.heap.size + 1 ≤ w_7.heap.size := by have := hb7.size; simpa using this
    have S7 : Hid (RS w0 w_7 g bs (p4) ∧ Within g (g + 1) w w_7 ∧ OwnI w_7 (w_2.heap.size) (w_7.heap.size) f ((([x, 1012]) ++ (zb)) ++ ([1013, 1012]))) := Lib.hid ⟨(S6.out.1).below hb7 (by omega), (S6.out.2.1).then_below hb7 (by omega), (by simpa using ho7)⟩
    clear S6
    clear ho7 hb7
    go_wp2_with fail
    refine (HW.out 2 w0 g (p4) bs _ (by omega) (S7.out.1) (by omega)).mono ?_
    rintro e w_8 ⟨q, zq, p8, rfl, ho8, hl8, hr8, hp8, hg8, hf_q⟩
    have hz8 : w_7.heap.size ≤ w_8.heap.size := by have := hg8.size; simpa using this
    have S8 : Hid (RS w0 w_8 g bs (p8) ∧ Within g (g + 1) w w_8 ∧ OwnI w_8 (w_2.heap.size) (w_7.heap.size) f ((([x, 1012]) ++ (zb)) ++ ([1013, 1012])) ∧ OwnI w_8 (w_7.heap.size) (w_8.heap.size) q (zq)) := Lib.hid ⟨hr8, (S7.out.2.1).trans hg8, (S7.out.2.2).apart hg8 (by omega), (by simpa using ho8)⟩
    clear S7
    clear ho8 hr8 hg8
    go_wp2_with (at_builtin; (refine wpList_append_V rfl _ _ _ rfl Tryz.underlying23 intInfo (w_2.heap.size) (w_7.heap.size) f ((([x, 1012]) ++ (zb)) ++ ([1013, 1012])) rfl (S8.out.2.2.1) (by first | omega | (simp <;> omega)) q (zq) rfl (S8.out.2.2.2).rd (by first | omega | (simp <;> omega)) ?_))
    intro r w_9 ho9 hb9
    have hz9 : w_8.heap.size ≤ w_9.heap.size := by have := hb9.size; simpa using this
    have S9 : Hid (RS w0 w_9 g bs (p8) ∧ Within g (g + 1) w w_9 ∧ OwnI w_9 (w_2.heap.size) (w_9.heap.size) r (((([x, 1012]) ++ (zb)) ++ ([1013, 1012])) ++ (zq))) := Lib.hid ⟨(S8.out.1).below hb9 (by omega), (S8.out.2.1).then_below hb9 (by omega), (by simpa using ho9)⟩
    clear S8
    clear ho9 hb9
    have hb10 : Below (w_9.heap.size) w_9 (w_9.alloc (.cells #[.int .i64 (1013), .int .i64 (1010)] 3)) := (Below.refl _ _).alloc (by simp) _
    have ho10 := lits_own w_9 [1013, 1010] (by simp) (by intro z hz; simp only [List.mem_cons, List.not_mem_nil, or_false] at hz; apply wf_near; omega)
    have S10 : Hid (RS w0 (w_9.alloc (.cells #[.int .i64 (1013), .int .i64 (1010)] 3)) g bs (p8) ∧ Within g (g + 1) w (w_9.alloc (.cells #[.int .i64 (1013), .int .i64 (1010)] 3)) ∧ OwnI (w_9.alloc (.cells #[.int .i64 (1013), .int .i64 (1010)] 3)) (w_2.heap.size) (w_9.heap.size) r (((([x, 1012]) ++ (zb)) ++ ([1013, 1012])) ++ (zq)) ∧ OwnI (w_9.alloc (.cells #[.int .i64 (1013), .int .i64 (1010)] 3)) (w_9.heap.size) (w_9.heap.size + 1) (.slice (some ⟨w_9.heap.size, 0, none⟩) 2 2) ([1013, 1010])) := Lib.hid ⟨(S9.out.1).below hb10 (by omega), (S9.out.2.1).then_below hb10 (by omega), (S9.out.2.2).belowB hb10 (by omega), (by simpa using ho10)⟩
    clear S9
    clear hb10 ho10
    go_wp2_with (at_builtin; (refine wpList_append_V rfl _ _ _ rfl Tryz.underlying23 intInfo (w_2.heap.size) (w_9.heap.size) r (((([x, 1012]) ++ (zb)) ++ ([1013, 1012])) ++ (zq)) rfl (S10.out.2.2.1) (by first | omega | (simp <;> omega)) (.slice (some ⟨w_9.heap.size, 0, none⟩) 2 2) ([1013, 1010]) rfl (S10.out.2.2.2).rd (by first | omega | (simp <;> omega)) ?_))
    intro t w_11 ho11 hb11
    have hz11 : w_9.heap.size + 1 ≤ w_11.heap.size := by have := hb11.size; simpa using this
    have S11 : Hid (RS w0 w_11 g bs (p8) ∧ Within g (g + 1) w w_11 ∧ OwnI w_11 (w_2.heap.size) (w_11.heap.size) t ((((([x, 1012]) ++ (zb)) ++ ([1013, 1012])) ++ (zq)) ++ ([1013, 1010]))) := Lib.hid ⟨(S10.out.1).below hb11 (by omega), (S10.out.2.1).then_below hb11 (by omega), (by simpa using ho11)⟩
    clear S10
    clear ho11 hb11
    go_wp2_with fail
    go_ret
    exact ⟨t, _, _, rfl, ⟨(S11.out.2.2).own.mono (by omega), fun q hq => by have := (S11.out.2.2).lt q hq; first | omega | (simp; omega)⟩, by first | omega | (simp; done) | (simp; omega), S11.out.1, by omega, S11.out.2.1, (Fit.c7 hf_b hf_q (by omega))⟩
  · skip
    go_wp2_with fail
    refine (pick w0 g (p+1) (5) bs _ (X1.out.1) (by omega) (by omega)).mono ?_
    rintro e w_2 ⟨x, rfl, hx0, hx1, hr2, hg2⟩
    have hz2 : w1.heap.size ≤ w_2.heap.size := by have := hg2.size; simpa using this
    have S2 : Hid (RS w0 w_2 g bs (p+1 + 1) ∧ Within g (g + 1) w w_2) := Lib.hid ⟨hr2, (X1.out.2).trans hg2⟩
    clear hr2 hg2
    have hb3 : Below (w_2.heap.size) w_2 (w_2.alloc (.cells #[.int .i64 (x), .int .i64 (1012)] 3)) := (Below.refl _ _).alloc (by simp) _
    have ho3 := lits_own w_2 [x, 1012] (by simp) (by intro z hz; simp only [List.mem_cons, List.not_mem_nil, or_false] at hz; apply wf_near; omega)
    have S3 : Hid (RS w0 (w_2.alloc (.cells #[.int .i64 (x), .int .i64 (1012)] 3)) g bs (p+1 + 1) ∧ Within g (g + 1) w (w_2.alloc (.cells #[.int .i64 (x), .int .i64 (1012)] 3)) ∧ OwnI (w_2.alloc (.cells #[.int .i64 (x), .int .i64 (1012)] 3)) (w_2.heap.size) (w_2.heap.size + 1) (.slice (some ⟨w_2.heap.size, 0, none⟩) 2 2) ([x, 1012])) := Lib.hid ⟨(S2.out.1).below hb3 (by omega), (S2.out.2).then_below hb3 (by omega), (by simpa using ho3)⟩
    clear S2
    clear hb3 ho3
    go_wp2_with fail
    refine (HW.out 2 w0 g (p+1 + 1) bs _ (by omega) (S3.out.1) (by omega)).mono ?_
    rintro e w_4 ⟨b, zb, p4, rfl, ho4, hl4, hr4, hp4, hg4, hf_b⟩
    have hz4 : w_2.heap.size + 1 ≤ w_4.heap.size := by have := hg4.size; simpa using this
    have S4 : Hid (RS w0 w_4 g bs (p4) ∧ Within g (g + 1) w w_4 ∧ OwnI w_4 (w_2.heap.size) (w_2.heap.size + 1) (.slice (some ⟨w_2.heap.size, 0, none⟩) 2 2) ([x, 1012]) ∧ OwnI w_4 (w_2.heap.size + 1) (w_4.heap.size) b (zb)) := Lib.hid ⟨hr4, (S3.out.2.1).trans hg4, (S3.out.2.2).apart hg4 (by omega), (by simpa using ho4)⟩
    clear S3
    clear ho4 hr4 hg4
    go_wp2_with (at_builtin; (refine wpList_append_V rfl _ _ _ rfl Tryz.underlying23 intInfo (w_2.heap.size) (w_2.heap.size + 1) (.slice (some ⟨w_2.heap.size, 0, none⟩) 2 2) ([x, 1012]) rfl (S4.out.2.2.1) (by first | omega | (simp <;> omega)) b (zb) rfl (S4.out.2.2.2).rd (by first | omega | (simp <;> omega)) ?_))
    intro c w_5 ho5 hb5
    have hz5 : w_4.heap.size ≤ w_5.heap.size := by have := hb5.size; simpa using this
    have S5 : Hid (RS w0 w_5 g bs (p4) ∧ Within g (g + 1) w w_5 ∧ OwnI w_5 (w_2.heap.size) (w_5.heap.size) c (([x, 1012]) ++ (zb))) := Lib.hid ⟨(S4.out.1).below hb5 (by omega), (S4.out.2.1).then_below hb5 (by omega), (by simpa using ho5)⟩
    clear S4
    clear ho5 hb5
    have hb6 : Below (w_5.heap.size) w_5 (w_5.alloc (.cells #[.int .i64 (1013), .int .i64 (1011)] 3)) := (Below.refl _ _).alloc (by simp) _
    have ho6 := lits_own w_5 [1013, 1011] (by simp) (by intro z hz; simp only [List.mem_cons, List.not_mem_nil, or_false] at hz; apply wf_near; omega)
    have S6 : Hid (RS w0 (w_5.alloc (.cells #[.int .i64 (1013), .int .i64 (1011)] 3)) g bs (p4) ∧ Within g (g + 1) w (w_5.alloc (.cells #[.int .i64 (1013), .int .i64 (1011)] 3)) ∧ OwnI (w_5.alloc (.cells #[.int .i64 (1013), .int .i64 (1011)] 3)) (w_2.heap.size) (w_5.heap.size) c (([x, 1012]) ++ (zb)) ∧ OwnI (w_5.alloc (.cells #[.int .i64 (1013), .int .i64 (1011)] 3)) (w_5.heap.size) (w_5.heap.size + 1) (.slice (some ⟨w_5.heap.size, 0, none⟩) 2 2) ([1013, 1011])) := Lib.hid ⟨(S5.out.1).below hb6 (by omega), (S5.out.2.1).then_below hb6 (by omega), (S5.out.2.2).belowB hb6 (by omega), (by simpa using ho6)⟩
    clear S5
    clear hb6 ho6
    go_wp2_with (at_builtin; (refine wpList_append_V rfl _ _ _ rfl Tryz.underlying23 intInfo (w_2.heap.size) (w_5.heap.size) c (([x, 1012]) ++ (zb)) rfl (S6.out.2.2.1) (by first | omega | (simp <;> omega)) (.slice (some ⟨w_5.heap.size, 0, none⟩) 2 2) ([1013, 1011]) rfl (S6.out.2.2.2).rd (by first | omega | (simp <;> omega)) ?_))
    intro f w_7 ho7 hb7
    have hz7 : w_5.heap.size + 1 ≤ w_7.heap.size := by have := hb7.size; simpa using this
    have S7 : Hid (RS w0 w_7 g bs (p4) ∧ Within g (g + 1) w w_7 ∧ OwnI w_7 (w_2.heap.size) (w_7.heap.size) f ((([x, 1012]) ++ (zb)) ++ ([1013, 1011]))) := Lib.hid ⟨(S6.out.1).below hb7 (by omega), (S6.out.2.1).then_below hb7 (by omega), (by simpa using ho7)⟩
    clear S6
    clear ho7 hb7
    go_wp2_with fail
    go_ret
    exact ⟨f, _, _, rfl, ⟨(S7.out.2.2).own.mono (by omega), fun q hq => by have := (S7.out.2.2).lt q hq; first | omega | (simp; omega)⟩, by first | omega | (simp; done) | (simp; omega), S7.out.1, by omega, S7.out.2.1, (Fit.c8 hf_b (by omega))⟩

theorem part_zeroF (M : Nat) (hM : M ≤ 800000000000) : PartOkF 0 1 6 M := by
  intro w0 g p bs w h hp
  have hgw := h.rdr.lt
  show Calls _ _ _ _ (PartPostF w0 g p bs w 1 6)
  have H := Lib.hid h; clear h
  have hs0 : w0.heap.size ≤ w.heap.size := H.out.size
  go_enter Tryz.func108, Tryz.ntmps108
  go_wp2_with fail
  refine (pick w0 g p 9 bs _ H.out (by omega) (by omega)).mono ?_
  rintro e w1 ⟨x, rfl, hx0, hx1, hr1, hg1⟩
  have hs1 := hg1.size
  have X1 := Lib.hid (And.intro hr1 hg1); clear hr1 hg1 H
  have hcases : x = 0 ∨ x = 1 ∨ x = 2 ∨ x = 3 ∨ x = 4 ∨ x = 5 ∨ x = 6 ∨ x = 7 ∨ x = 8 := by omega
  clear hx0 hx1
  rcases hcases with rfl | rfl | rfl | rfl | rfl | rfl | rfl | rfl | rfl
  · skip
    go_wp2_with fail
    refine (num w0 g (p+1) bs _ (X1.out.1) (by omega)).mono ?_
    rintro e w_2 ⟨x, rfl, hx0, hx1, hr2, hg2⟩
    have hz2 : w1.heap.size ≤ w_2.heap.size := by have := hg2.size; simpa using this
    have S2 : Hid (RS w0 w_2 g bs (p+1 + 4) ∧ Within g (g + 1) w w_2) := Lib.hid ⟨hr2, (X1.out.2).trans hg2⟩
    clear hr2 hg2
    go_wp2
    go_ret
    exact part_litF w0 w _ g p _ _ _ bs [x] S2.out.1 S2.out.2 hs0 (by intro z hz; simp only [List.mem_cons, List.not_mem_nil, or_false] at hz; omega) ⟨by simp, by omega⟩ (by omega) (Fit.one (by simp [isWordB, isNumB]; omega) (by omega) (by omega))
  · skip
    go_wp2_with fail
    refine (num w0 g (p+1) bs _ (X1.out.1) (by omega)).mono ?_
    rintro e w_2 ⟨x, rfl, hx0, hx1, hr2, hg2⟩
    have hz2 : w1.heap.size ≤ w_2.heap.size := by have := hg2.size; simpa using this
    have S2 : Hid (RS w0 w_2 g bs (p+1 + 4) ∧ Within g (g + 1) w w_2) := Lib.hid ⟨hr2, (X1.out.2).trans hg2⟩
    clear hr2 hg2
    go_wp2
    go_ret
    exact part_litF w0 w _ g p _ _ _ bs [x] S2.out.1 S2.out.2 hs0 (by intro z hz; simp only [List.mem_cons, List.not_mem_nil, or_false] at hz; omega) ⟨by simp, by omega⟩ (by omega) (Fit.one (by simp [isWordB, isNumB]; omega) (by omega) (by omega))
  · skip
    go_wp2_with fail
    refine (pick w0 g (p+1) (4) bs _ (X1.out.1) (by omega) (by omega)).mono ?_
    rintro e w_2 ⟨x, rfl, hx0, hx1, hr2, hg2⟩
    have hz2 : w1.heap.size ≤ w_2.heap.size := by have := hg2.size; simpa using this
    have S2 : Hid (RS w0 w_2 g bs (p+1 + 1) ∧ Within g (g + 1) w w_2) := Lib.hid ⟨hr2, (X1.out.2).trans hg2⟩
    clear hr2 hg2
    go_wp2
    go_ret
    exact part_litF w0 w _ g p _ _ _ bs [1006 + x] S2.out.1 S2.out.2 hs0 (by intro z hz; simp only [List.mem_cons, List.not_mem_nil, or_false] at hz; omega) ⟨by simp, by omega⟩ (by omega) (Fit.one (by simp [isWordB, isNumB]; omega) (by omega) (by omega))
  · skip
    go_wp2_with fail
    refine (pick w0 g (p+1) (3) bs _ (X1.out.1) (by omega) (by omega)).mono ?_
    rintro e w_2 ⟨x, rfl, hx0, hx1, hr2, hg2⟩
    have hz2 : w1.heap.size ≤ w_2.heap.size := by have := hg2.size; simpa using this
    have S2 : Hid (RS w0 w_2 g bs (p+1 + 1) ∧ Within g (g + 1) w w_2) := Lib.hid ⟨hr2, (X1.out.2).trans hg2⟩
    clear hr2 hg2
    go_wp2
    go_ret
    exact part_litF w0 w _ g p _ _ _ bs [1001 + x] S2.out.1 S2.out.2 hs0 (by intro z hz; simp only [List.mem_cons, List.not_mem_nil, or_false] at hz; omega) ⟨by simp, by omega⟩ (by omega) (Fit.one (by simp [isWordB, isNumB]; omega) (by omega) (by omega))
  · skip
    go_wp2_with fail
    refine (pick w0 g (p+1) (3) bs _ (X1.out.1) (by omega) (by omega)).mono ?_
    rintro e w_2 ⟨x, rfl, hx0, hx1, hr2, hg2⟩
    have hz2 : w1.heap.size ≤ w_2.heap.size := by have := hg2.size; simpa using this
    have S2 : Hid (RS w0 w_2 g bs (p+1 + 1) ∧ Within g (g + 1) w w_2) := Lib.hid ⟨hr2, (X1.out.2).trans hg2⟩
    clear hr2 hg2
    go_wp2
    go_ret
    exact part_litF w0 w _ g p _ _ _ bs [1001 + x] S2.out.1 S2.out.2 hs0 (by intro z hz; simp only [List.mem_cons, List.not_mem_nil, or_false] at hz; omega) ⟨by simp, by omega⟩ (by omega) (Fit.one (by simp [isWordB, isNumB]; omega) (by omega) (by omega))
  · skip
    go_wp2
    go_ret
    exact part_litF w0 w _ g p _ _ _ bs [1001] X1.out.1 X1.out.2 hs0 (by intro z hz; simp only [List.mem_cons, List.not_mem_nil, or_false] at hz; omega) ⟨by simp, by omega⟩ (by omega) (Fit.one (by decide) (by omega) (by omega))
  · skip
    go_wp2
    go_ret
    exact part_litF w0 w _ g p _ _ _ bs [1001] X1.out.1 X1.out.2 hs0 (by intro z hz; simp only [List.mem_cons, List.not_mem_nil, or_false] at hz; omega) ⟨by simp, by omega⟩ (by omega) (Fit.one (by decide) (by omega) (by omega))
  · skip
    go_wp2
    go_ret
    exact part_litF w0 w _ g p _ _ _ bs [1001] X1.out.1 X1.out.2 hs0 (by intro z hz; simp only [List.mem_cons, List.not_mem_nil, or_false] at hz; omega) ⟨by simp, by omega⟩ (by omega) (Fit.one (by decide) (by omega) (by omega))
  · skip
    go_wp2
    go_ret
    exact part_litF w0 w _ g p _ _ _ bs [1001] X1.out.1 X1.out.2 hs0 (by intro z hz; simp only [List.mem_cons, List.not_mem_nil, or_false] at hz; omega) ⟨by simp, by omega⟩ (by omega) (Fit.one (by decide) (by omega) (by omega))

theorem words0F (M : Nat) (hM : M ≤ 690000000000) : WordsOkF 0 1 6 M := words_stepF 0 1 6 M (by omega) (by omega) (by omega) (part_zeroF _ (by omega))
theorem part1F (M : Nat) (hM : M ≤ 680000000000) : PartOkF 1 20 104 M := part_stepF 1 1 6 M (by omega) (by omega) (by omega) (by omega) (words0F _ (by omega))
theorem words1F (M : Nat) (hM : M ≤ 670000000000) : WordsOkF 1 20 104 M := words_stepF 1 20 104 M (by omega) (by omega) (by omega) (part1F _ (by omega))
theorem part2F (M : Nat) (hM : M ≤ 660000000000) : PartOkF 2 286 1476 M := part_stepF 2 20 104 M (by omega) (by omega) (by omega) (by omega) (words1F _ (by omega))
theorem words2F (M : Nat) (hM : M ≤ 600000000000) : WordsOkF 2 286 1476 M := words_stepF 2 286 1476 M (by omega) (by omega) (by omega) (part2F _ (by omega))

/-- A program that is drawn, and not spoiled. -/
theorem oddz (w : World) (v : Value) :
    Calls Tryz.prog 44 #[v, .int .i64 0] w fun e w' => e = .returned (.bool false) ∧ w = w' := by
  go_enter Tryz.func44, Tryz.ntmps44
  go_wp2
  go_ret
  exact ⟨rfl, rfl⟩
theorem prog0 (n : Int) (w0 : World) (g p : Nat) (bs : List Int) (w : World) (hn : 0 ≤ n ∧ n ≤ 7) (h : RS w0 w g bs p) (hp : p ≤ 500000000000) :
    Calls Tryz.prog 52 #[.pointer (some ⟨g, 0, none⟩), .int .i64 n, .int .i64 0] w fun e w' => ∃ v zs p', e = .returned v ∧ OwnI w' w.heap.size w'.heap.size v zs ∧ zs.length ≤ 26 ∧ RS w0 w' g bs p' ∧ p' ≤ p + 12000 ∧ Within g (g + 1) w w' ∧ Fit zs := by
  have hgw := h.rdr.lt
  show Calls _ _ _ _ (PartPostF w0 g p bs w 26 12000)
  have hs0 : w0.heap.size ≤ w.heap.size := h.size
  have H := Lib.hid (And.intro h (Within.of_below (lo := g) (hi := g + 1) (Below.refl w.heap.size w))); clear h
  go_enter Tryz.func52, Tryz.ntmps52
  go_wp2_with fail
  refine (words2F 600000000000 (Nat.le_refl _) n w0 g (p) bs _ hn (H.out.1) (by omega)).mono ?_
  rintro e w_2 ⟨b, zb, p2, rfl, ho2, hl2, hr2, hp2, hg2, hf_b⟩
  have hz2 : w.heap.size ≤ w_2.heap.size := by have := hg2.size; simpa using this
  have S2 : Hid (RS w0 w_2 g bs (p2) ∧ Within g (g + 1) w w_2 ∧ OwnI w_2 (w.heap.size) (w_2.heap.size) b (zb)) := Lib.hid ⟨hr2, (H.out.2).trans hg2, (by simpa using ho2)⟩
  clear ho2 hr2 hg2
  obtain ⟨A, c, rfl, _⟩ := (S2.out.2.2).own.ints
  by_cases hl : (26 : Int) < zb.length
  · go_wp2_with fail
    have hb3 : Below (w_2.heap.size) w_2 (w_2.alloc (.cells #[.int .i64 (3), .int .i64 (4), .int .i64 (1006), .int .i64 (1001)] 3)) := (Below.refl _ _).alloc (by simp) _
    have ho3 := lits_own w_2 [3, 4, 1006, 1001] (by simp) (by intro z hz; simp only [List.mem_cons, List.not_mem_nil, or_false] at hz; apply wf_near; omega)
    have S3 : Hid (RS w0 (w_2.alloc (.cells #[.int .i64 (3), .int .i64 (4), .int .i64 (1006), .int .i64 (1001)] 3)) g bs (p2) ∧ Within g (g + 1) w (w_2.alloc (.cells #[.int .i64 (3), .int .i64 (4), .int .i64 (1006), .int .i64 (1001)] 3)) ∧ OwnI (w_2.alloc (.cells #[.int .i64 (3), .int .i64 (4), .int .i64 (1006), .int .i64 (1001)] 3)) (w.heap.size) (w_2.heap.size) (.slice A zb.length c) (zb) ∧ OwnI (w_2.alloc (.cells #[.int .i64 (3), .int .i64 (4), .int .i64 (1006), .int .i64 (1001)] 3)) (w_2.heap.size) (w_2.heap.size + 1) (.slice (some ⟨w_2.heap.size, 0, none⟩) 4 4) ([3, 4, 1006, 1001])) := Lib.hid ⟨(S2.out.1).below hb3 (by omega), (S2.out.2.1).then_below hb3 (by omega), (S2.out.2.2).belowB hb3 (by omega), (by simpa using ho3)⟩
    clear S2
    clear hb3 ho3
    have S3x := Lib.hid (And.intro S3.out.1 (And.intro S3.out.2.1 S3.out.2.2.2))
    clear S3
    refine (oddz _ _).mono ?_
    rintro e w' ⟨rfl, rfl⟩
    go_wp2
    go_ret
    exact ⟨_, [3, 4, 1006, 1001], _, rfl, ⟨(S3x.out.2.2).own.mono (by omega), fun q hq => by have := (S3x.out.2.2).lt q hq; simp; omega⟩, by simp, S3x.out.1, by omega, S3x.out.2.1, ((Fit.num (z := 3) (by omega)).app ((Fit.num (z := 4) (by omega)).app ((Fit.op (z := 1006) (by omega)).app (Fit.op (z := 1001) (by omega)))))⟩
  · have hl' : zb.length ≤ 26 := by omega
    clear hl
    go_wp2_with fail
    refine (oddz _ _).mono ?_
    rintro e w' ⟨rfl, rfl⟩
    go_wp2
    go_ret
    exact ⟨_, zb, _, rfl, S2.out.2.2, hl', S2.out.1, by omega, S2.out.2.1, hf_b⟩
end Go.Proofs.YtjblecinkedppaaGreatDoor

/- The draws of words, texts of words, programs and texts of programs. -/
namespace Go.Proofs.YtjblecinkedppaaGreatDoor
set_option maxRecDepth 100000
open Go.RowKit Go.WideShapes

theorem add_ba (x y : ByteArray) (h : x.size + y.size ≤ 100000) : ∃ z : ByteArray, z.size = x.size + y.size ∧ ∀ W, (Op.stringOp .add x y).run Tryz.prog W = .ok (.string z) W :=
  ⟨x ++ y, by simp [ByteArray.size_append], fun W => run_string_add_sum W _ _ (by omega)⟩
theorem str_at {W : World} {g : Nat} {ss : List (List UInt8)} {T : TypeId} (h : W.heap[g]? = some (.cells (strVals ss).toArray T (0, 0))) {j : Nat} {t : List UInt8} (ht : ss[j]? = some t) : W.cell? ⟨g, j, none⟩ = some (.string ⟨t.toArray⟩) := by
  rw [cell_of_row _ _ _ _ _ _ h]; simp [strVals, ht]
theorem str_new (W : World) {ss : List (List UInt8)} {T : TypeId} {j : Nat} {t : List UInt8} (ht : ss[j]? = some t) : (W.alloc (.cells (strVals ss).toArray T)).cell? ⟨W.heap.size, j, none⟩ = some (.string ⟨t.toArray⟩) := str_at (heap_alloc_new W _) ht
/-- A byte of a text spoiled: the pieces, whatever is put between them. -/
theorem spoil_parts (S : ByteArray) (k : Nat) (hk : k < S.size) (hS : S.size ≤ 50000) : ∃ A B : ByteArray, A.size = k ∧ B.size + (k + 1) = S.size ∧
    (∀ W, (Instr.slice 9 (.string S) none (some (.int .i64 k)) none).run Tryz.prog W = .ok (.string A) W) ∧ (∀ W, (Instr.slice 9 (.string S) (some (.int .i64 ((k : Int) + 1))) none none).run Tryz.prog W = .ok (.string B) W) :=
  ⟨S.extract 0 k, S.extract (k + 1) S.size, by rw [ByteArray.size_extract]; omega, by rw [ByteArray.size_extract]; omega, fun W => by
    rw [run_slice_string_to_if W 9 S .i64 k Tryz.underlying9, if_pos ⟨by omega, by omega⟩, Int.toNat_natCast], fun W => by
    rw [run_slice_string_from_if W 9 S .i64 ((k : Int) + 1) Tryz.underlying9, if_pos ⟨by omega, by omega⟩, show ((k : Int) + 1).toNat = k + 1 by omega]⟩
def SpoilPost (w : World) (L : Nat) (e : Ending) (w' : World) : Prop := ∃ T : ByteArray, e = .returned (.string T) ∧ T.size ≤ L ∧ Below w.heap.size w w'

theorem mk_size (l : List UInt8) : (⟨l.toArray⟩ : ByteArray).size = l.length := by simp [ByteArray.size]
theorem below_drewA {w W : World} (h : Below w.heap.size w W) (o : Obj) : Below w.heap.size w (W.alloc o).drew := (h.alloc h.size o).drew
theorem below_drewB {w W : World} (h : Below w.heap.size w W) (o : Obj) : Below w.heap.size w (W.drew.alloc o) := h.drew.alloc h.size o
theorem spoil_after {ss : List (List UInt8)} {T : TypeId} {w5 w6 : World} {g j L : Nat} (hw : Within g (g + 1) (w5.alloc (.cells (strVals ss).toArray T)).drew w6) (hg : g < w5.heap.size) (hj : j < ss.length) (hL : ∀ t ∈ ss, t.length ≤ L) :
    ∃ t : List UInt8, t.length ≤ L ∧ w6.cell? ⟨w5.heap.size, j, none⟩ = some (.string ⟨t.toArray⟩) :=
  ⟨ss[j], hL _ (List.getElem_mem hj), str_at ((hw.block w5.heap.size (show w5.heap.size < (w5.heap.push _).size by rw [Array.size_push]; omega) (by omega)).trans (heap_alloc_new w5 _)) (List.getElem?_eq_getElem hj)⟩
theorem spoil_new (ss : List (List UInt8)) (T : TypeId) {j L : Nat} (hj : j < ss.length) (hL : ∀ t ∈ ss, t.length ≤ L) :
    ∃ t : List UInt8, t.length ≤ L ∧ ∀ W : World, (W.alloc (.cells (strVals ss).toArray T)).cell? ⟨W.heap.size, j, none⟩ = some (.string ⟨t.toArray⟩) :=
  ⟨ss[j], hL _ (List.getElem_mem hj), fun W => str_new W (List.getElem?_eq_getElem hj)⟩
theorem add_three (A B : ByteArray) (t : List UInt8) (h : A.size + t.length + B.size ≤ 100000) : ∃ C D : ByteArray, D.size = A.size + t.length + B.size ∧ (∀ W, (Op.stringOp .add A ⟨t.toArray⟩).run Tryz.prog W = .ok (.string C) W) ∧ (∀ W, (Op.stringOp .add C B).run Tryz.prog W = .ok (.string D) W) := by
  obtain ⟨C, hC, h1⟩ := add_ba A ⟨t.toArray⟩ (by rw [mk_size t]; omega)
  rw [mk_size t] at hC
  obtain ⟨D, hD, h2⟩ := add_ba C B (by omega)
  exact ⟨C, D, by omega, h1, h2⟩
def lits6 : List (List UInt8) := [[], [48], [91], [93], [32], [32, 32]]
theorem lits6_len : ∀ t ∈ lits6, t.length ≤ 2 := by decide

def lits4 : List (List UInt8) := [[], [48], [112], [32]]
theorem lits4_len : ∀ t ∈ lits4, t.length ≤ 2 := by decide

end Go.Proofs.YtjblecinkedppaaGreatDoor
