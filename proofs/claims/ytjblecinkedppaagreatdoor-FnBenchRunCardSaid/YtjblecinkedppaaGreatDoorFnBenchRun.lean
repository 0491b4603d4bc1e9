/- FnBenchRun: of every code: BenchRun is its model at the drawn bench and deeds; what is not valid, or too long, gives no bench and nothing done; the bench stays valid; deeds done in two parts lead to the same bench, and as many are done. For every input; the listed variables hold what the program lays. Written by fnbr.py. -/
import Derived.Test.YtjblecinkedppaaGreatDoorIb
import Derived.Test.YtjblecinkedppaaGreatDoorNl
import Derived.Test.YtjblecinkedppaaGreatDoorBb
import Derived.Test.YtjblecinkedppaaGreatDoorF1
import Derived.Test.YtjblecinkedppaaGreatDoorF2
import Derived.Test.YtjblecinkedppaaGreatDoorF3
import Derived.BigQuiet
import Derived.Deep.RegionHeld3
import Derived.Deep.DeepCutAuto
import Derived.Test.YtjblecinkedppaaGreatDoorTie
import Derived.Test.YtjblecinkedppaaGreatDoorCards
import Derived.SevenTiedAt
namespace Go.Proofs.YtjblecinkedppaaGreatDoor
set_option maxRecDepth 100000
open Go.RowKit Go.WideShapes Go.ChangeShapes Go.Maps Go.Deep

theorem BdPost.size {w w' : World} {b : Bench9} {ok : Value} {e : Ending} (h : BdPost w b ok e w') : w.heap.size ≤ w'.heap.size := by obtain ⟨_, _, _, _, _, hb⟩ := h; exact hb.size
structure Lst (w0 X : World) (b3 : Nat) (vn vp : Value) (n : List Int) (ps : List (List UInt8)) (A : Option Addr) (c : Nat) (ds : Deeds) : Prop where
  bl : Below w0.heap.size w0 X
  rn : RdI X vn n
  rp : RdT X vp ps
  k3 : Blk X b3 #[vn, vp] 26
  rd : RdD X (.slice A ds.length c) ds
theorem Lst.step {w0 X Y : World} {b3 : Nat} {vn vp : Value} {n : List Int} {ps : List (List UInt8)} {A : Option Addr} {c : Nat} {ds : Deeds} (h : Lst w0 X b3 vn vp n ps A c ds) (hb : Below X.heap.size X Y) : Lst w0 Y b3 vn vp n ps A c ds :=
  ⟨h.bl.trans (hb.mono h.bl.size), h.rn.step hb, RdT.step h.rp hb, h.k3.below hb h.k3.lt, RdD.step h.rd hb⟩
theorem benchRunR_len9 {n : List Int} {ps : List (List UInt8)} {ds : Deeds} {n' : List Int} {ps' : List (List UInt8)} {c : Int} (h : benchRunR n ps ds = ((n', ps'), c)) : n'.length ≤ 60 ∧ ps'.length ≤ 20 ∧ ∀ t ∈ ps', t.length ≤ 400 := by
  unfold benchRunR at h
  split at h
  · rename_i h0
    have h1 := (deedsR_ok ds (c := 0) h0.1).1
    injection h with h _
    rw [h] at h1
    exact bench_bounds h1
  · injection h with h _
    injection h with h1 h2
    subst h1; subst h2
    simp
theorem benchRun_none {n n' : List Int} {ps ps' : List (List UInt8)} {ds : Deeds} {c : Int} (hv : ¬ (benchB n ps = true ∧ ds.length ≤ 40)) (h : benchRunR n ps ds = ((n', ps'), c)) : n' = [] ∧ ps' = [] ∧ c = 0 := by
  rw [benchRunR, if_neg hv] at h
  cases h; exact ⟨rfl, rfl, rfl⟩
theorem benchRun_split {n n' na nr : List Int} {ps ps' pa pr : List (List UInt8)} {ds : Deeds} {m : Nat} {c ca cr : Int} (hv : benchB n ps = true) (hl : ds.length ≤ 40) (h : benchRunR n ps ds = ((n', ps'), c)) (ha : benchRunR n ps (ds.take m) = ((na, pa), ca)) (hr : benchRunR na pa (ds.drop m) = ((nr, pr), cr)) :
    (n' = nr ∧ ps' = pr ∧ ca + cr = c ∧ (0 ≤ ca ∧ ca ≤ 40) ∧ (0 ≤ cr ∧ cr ≤ 40)) ∧ benchB na pa = true ∧ benchB n' ps' = true := by
  have htl : (ds.take m).length ≤ 40 := by rw [List.length_take]; omega
  have hdl : (ds.drop m).length ≤ 40 := by rw [List.length_drop]; omega
  rw [benchRunR, if_pos ⟨hv, hl⟩] at h
  rw [benchRunR, if_pos ⟨hv, htl⟩] at ha
  have k1 := deedsR_ok (ds.take m) (c := 0) hv
  have hx := (deedsR_ok ds (c := 0) hv).1
  injection ha with ha1 ha2
  injection h with h1 h2
  rw [ha1] at k1
  rw [h1] at hx
  rw [benchRunR, if_pos ⟨k1.1, hdl⟩] at hr
  injection hr with hr1 hr2
  have k2 := deedsR_ok (ds.drop m) (c := 0) k1.1
  have happ := deedsR_app (ds.take m) (ds.drop m) (n := n) (ps := ps) (c := 0)
  rw [List.take_append_drop, ha1, deedsR_from (ds.drop m)] at happ
  dsimp only at happ
  rw [happ] at h1 h2
  dsimp only at h1 h2
  rw [hr1] at h1
  cases h1
  refine ⟨⟨rfl, rfl, ?_, ⟨?_, ?_⟩, ?_, ?_⟩, k1.1, hx⟩
  · rw [← h2, ← ha2, ← hr2]; omega
  · omega
  · have := k1.2; omega
  · omega
  · have k2' : (deedsR na pa 0 (ds.drop m)).2 ≤ 0 + (ds.drop m).length := k2.2
    have hr2' : ((deedsR na pa 0 (ds.drop m)).2 : Int) = cr := hr2
    omega
set_option maxHeartbeats 8000000 in
theorem fnBenchRun_any (A0 : Option Addr) (c0 : Nat) (x0 : List Int) (w0 : World) (h0 : RdC w0 (.slice A0 x0.length c0) x0) (ht : StrTab w0 0 opNames) (hp : Pow w0) :
    Calls Tryz.prog 4 #[.slice A0 x0.length c0] w0 fun e w' => e = .returned (.bool true) ∧ Below w0.heap.size w0 w' := by
  have hm := h0.len_le
  have HH := Lib.hid h0; clear h0
  have HT : Hid (∀ X, Below w0.heap.size w0 X → Tabs X) := Lib.hid fun X hX => ⟨ht.below hX ht.lt, hp.below hX⟩
  clear ht hp
  by_cases hl : x0.length ≤ 1048576
  case neg =>
    go_enter Tryz.func4, Tryz.ntmps4
    go_wp2
    go_ret
    exact ⟨rfl, Below.refl _ _⟩
  go_enter Tryz.func4, Tryz.ntmps4
  go_wp2_with fail
  refine (DrawBenchRun_any _ x0 _ HH.out).mono ?_
  rintro e w1 ⟨vn, vp, n, ps, AL, cl, ds, rfl, hn, hp, hl1, hl2, hl3, hd, hcl, hdl, hdm, hb⟩
  have hz1 := hb.size
  obtain ⟨A, c, rfl, _⟩ := id hn
  obtain ⟨B, d, rfl, _⟩ := id hp
  obtain ⟨VW, hVW⟩ : ∃ V, w1.alloc (.cells #[.slice A n.length c, .slice B ps.length d] 26) = V := ⟨_, rfl⟩
  have hbW : Below w1.heap.size w1 VW := by rw [← hVW]; exact (Below.refl _ _).alloc (Nat.le_refl _) _
  have T0 : Hid (Lst w0 VW w1.heap.size (.slice A n.length c) (.slice B ps.length d) n ps AL cl ds) := Lib.hid ⟨hb.trans (hbW.mono hz1), hn.step hbW, RdT.step hp hbW, by rw [← hVW]; exact Blk.new w1 _ _, RdD.step hd hbW⟩
  clear hb hbW hn hp hd HH
  rcases hdo : benchRunR n ps ds with ⟨⟨n', ps'⟩, c9⟩
  have hlen := benchRunR_len9 hdo
  have hn60 := hlen.1; have hp20 := hlen.2.1
  have HL2 := Lib.hid (show ∀ t ∈ ps', t.length ≤ 100000000 from fun t ht => by have := hlen.2.2 t ht; omega)
  have HL1 := Lib.hid (show ∀ t ∈ ps, t.length ≤ 100000000 from fun t ht => by have := hl3 t ht; omega)
  have HLD := Lib.hid (show ∀ d ∈ ds, d.2.length ≤ 100000000 from fun d hd => by have := hdm d hd; omega)
  have HDO := Lib.hid hdo; clear hdo hlen hl3 hdm
  have HI : Hid (∀ X, Lst w0 X w1.heap.size (.slice A n.length c) (.slice B ps.length d) n ps AL cl ds → Calls Tryz.prog 16 #[.agg #[.slice A n.length c, .slice B ps.length d], .slice AL ds.length cl] X (BdPost X (n', ps') (.int .i64 c9))) := Lib.hid fun X h => by
    have h2 := BenchRun_I _ _ _ n ps ds X h.rn h.rp h.rd (by omega) (by omega) HL1.out (by omega) HLD.out (HT.out _ h.bl)
    rw [HDO.out] at h2; exact h2
  have HS : Hid (∀ X, Lst w0 X w1.heap.size (.slice A n.length c) (.slice B ps.length d) n ps AL cl ds → Calls Tryz.prog 17 #[.agg #[.slice A n.length c, .slice B ps.length d], .slice AL ds.length cl] X (BdPost X (n', ps') (.int .i64 c9))) := Lib.hid fun X h => by
    have h2 := BenchRun_S _ _ _ n ps ds X h.rn h.rp h.rd (by omega) (by omega) HL1.out (by omega) HLD.out
    rw [HDO.out] at h2; exact h2
  obtain ⟨Ta0, Ta1, _, _⟩ := blkPair9 T0.out.k3
  go_wp2_with fail
  try rw [hVW]
  refine (HI.out _ T0.out).mono ?_
  rintro e w2 h
  have hzw2 := BdPost.size h
  obtain ⟨xA, xB, xc, xd, rfl, hb, hx⟩ := bdLaid h
  obtain ⟨Vx, hVx⟩ : ∃ V, w2.alloc (.cells #[.slice xA n'.length xc, .slice xB ps'.length xd] 26) = V := ⟨_, rfl⟩
  rw [hVx] at hb hx
  clear Ta0 Ta1
  have T1 := Lib.hid (T0.out.step hb)
  clear T0 hb
  have x1 := Lib.hid hx; clear hx
  obtain ⟨Ta0, Ta1, _, _⟩ := blkPair9 T1.out.k3
  obtain ⟨xx0, xx1, _, _⟩ := blkPair9 x1.out.k5
  go_wp2_with fail
  try rw [hVx]
  refine (HS.out _ T1.out).mono ?_
  rintro e w3 h
  have hzw3 := BdPost.size h
  obtain ⟨yA, yB, yc, yd, rfl, hb, hx⟩ := bdLaid h
  obtain ⟨Vy, hVy⟩ : ∃ V, w3.alloc (.cells #[.slice yA n'.length yc, .slice yB ps'.length yd] 26) = V := ⟨_, rfl⟩
  rw [hVy] at hb hx
  clear Ta0 Ta1 xx0 xx1
  have T2 := Lib.hid (T1.out.step hb)
  have x2 := Lib.hid (x1.out.step hb)
  clear T1 x1 hb
  have y2 := Lib.hid hx; clear hx
  obtain ⟨Ta0, Ta1, _, _⟩ := blkPair9 T2.out.k3
  obtain ⟨xx0, xx1, _, _⟩ := blkPair9 x2.out.k5
  obtain ⟨yx0, yx1, _, _⟩ := blkPair9 y2.out.k5
  go_wp2_with fail
  try rw [hVy]
  refine (sameBench9 _ _ _ _ n' ps' Vy x2.out.rn x2.out.rp y2.out.rn y2.out.rp).mono ?_
  rintro e w4 ⟨rfl, hb⟩
  clear Ta0 Ta1 xx0 xx1 yx0 yx1
  have T3 := Lib.hid (T2.out.step hb)
  have x3 := Lib.hid (x2.out.step hb)
  clear T2 x2 y2 hb
  obtain ⟨Ta0, Ta1, _, _⟩ := blkPair9 T3.out.k3
  obtain ⟨xx0, xx1, _, _⟩ := blkPair9 x3.out.k5
  rcases hv : benchB n ps with _ | _
  · obtain ⟨rfl, rfl, rfl⟩ := benchRun_none (fun h => by rw [hv] at h; cases h.1) HDO.out
    have HV := Lib.hid hv; clear hv
    go_wp2_with fail
    refine (BenchValid_S _ _ n ps w4 T3.out.rn T3.out.rp (by omega) (by omega) HL1.out).mono ?_
    rw [HV.out]
    rintro e w5 ⟨rfl, hb⟩
    clear Ta0 Ta1 xx0 xx1
    have T4 := Lib.hid (T3.out.step hb)
    have x4 := Lib.hid (x3.out.step hb)
    clear T3 x3 hb
    obtain ⟨Ta0, Ta1, _, _⟩ := blkPair9 T4.out.k3
    obtain ⟨xx0, xx1, _, _⟩ := blkPair9 x4.out.k5
    go_wp2_with fail
    refine (noBench9 _ _ _ _ w5 x4.out.rn).mono ?_
    rintro e wq ⟨rfl, hb⟩
    clear Ta0 Ta1 xx0 xx1
    have T5 := Lib.hid (T4.out.step hb)
    have x5 := Lib.hid (x4.out.step hb)
    clear T4 x4 hb
    go_wp2_with fail
    refine (alive_any _).mono ?_
    rintro e wz ⟨rfl, hb⟩
    have T6 := Lib.hid (T5.out.step hb)
    have x6 := Lib.hid (x5.out.step hb)
    clear T5 x5 hb
    go_wp2
    go_ret
    exact ⟨rfl, T6.out.bl⟩
  · have HV := Lib.hid hv; clear hv
    by_cases h40 : ds.length ≤ 40
    case neg =>
      obtain ⟨rfl, rfl, rfl⟩ := benchRun_none (fun h => h40 h.2) HDO.out
      have h40I : (40 : Int) < (ds.length : Int) := by omega
      go_wp2_with fail
      refine (BenchValid_S _ _ n ps w4 T3.out.rn T3.out.rp (by omega) (by omega) HL1.out).mono ?_
      rw [HV.out]
      rintro e w5 ⟨rfl, hb⟩
      clear Ta0 Ta1 xx0 xx1
      have T4 := Lib.hid (T3.out.step hb)
      have x4 := Lib.hid (x3.out.step hb)
      clear T3 x3 hb
      obtain ⟨Ta0, Ta1, _, _⟩ := blkPair9 T4.out.k3
      obtain ⟨xx0, xx1, _, _⟩ := blkPair9 x4.out.k5
      go_wp2_with fail
      refine (noBench9 _ _ _ _ w5 x4.out.rn).mono ?_
      rintro e wq ⟨rfl, hb⟩
      clear Ta0 Ta1 xx0 xx1
      have T5 := Lib.hid (T4.out.step hb)
      have x5 := Lib.hid (x4.out.step hb)
      clear T4 x4 hb
      go_wp2_with fail
      refine (alive_any _).mono ?_
      rintro e wz ⟨rfl, hb⟩
      have T6 := Lib.hid (T5.out.step hb)
      have x6 := Lib.hid (x5.out.step hb)
      clear T5 x5 hb
      go_wp2
      go_ret
      exact ⟨rfl, T6.out.bl⟩
    have h40I : ¬ (40 : Int) < (ds.length : Int) := by omega
    go_wp2_with fail
    refine (BenchValid_S _ _ n ps w4 T3.out.rn T3.out.rp (by omega) (by omega) HL1.out).mono ?_
    rw [HV.out]
    rintro e w5 ⟨rfl, hb⟩
    clear Ta0 Ta1 xx0 xx1
    have T4 := Lib.hid (T3.out.step hb)
    have x4 := Lib.hid (x3.out.step hb)
    clear T3 x3 hb
    obtain ⟨Ta0, Ta1, _, _⟩ := blkPair9 T4.out.k3
    obtain ⟨xx0, xx1, _, _⟩ := blkPair9 x4.out.k5
    obtain ⟨m, hq2, hml⟩ : ∃ m : Nat, (ds.length : Int).tdiv 2 = (m : Int) ∧ m ≤ ds.length := ⟨ds.length / 2, by rw [Int.tdiv_eq_ediv_of_nonneg (by omega)]; omega, by omega⟩
    have hwm : IntKind.i64.wrap (m : Int) = (m : Int) := IntWalk.i64_in _ (by omega)
    rcases hda : benchRunR n ps (ds.take m) with ⟨⟨na, pa⟩, ca⟩
    rcases hdc : benchRunR na pa (ds.drop m) with ⟨⟨nr, pr⟩, cr⟩
    obtain ⟨hsplit, hva, hvx⟩ := benchRun_split HV.out h40 HDO.out hda hdc
    have hla := benchRunR_len9 hda
    have hna := hla.1; have hpa := hla.2.1
    have HLA := Lib.hid (show ∀ t ∈ pa, t.length ≤ 100000000 from fun t ht => by have := hla.2.2 t ht; omega); clear hla
    have HDA := Lib.hid hda; have HDC := Lib.hid hdc; have HSP := Lib.hid hsplit; have HVX := Lib.hid hvx; clear hda hdc hsplit hvx hva
    have hmc : m ≤ cl := by omega
    obtain ⟨va, hva⟩ : ∃ v, sliced AL 0 m cl 2 = v := ⟨_, rfl⟩
    obtain ⟨vr, hvr⟩ : ∃ v, sliced AL m ds.length cl 2 = v := ⟨_, rfl⟩
    have hsl1 : ∀ W, (Instr.slice 45 (.slice AL ds.length cl) none (some (.int .i64 (m : Int))) none).run Tryz.prog W = .ok va W := fun W => by rw [← hva]; exact slice_front _ _ _ _ hmc W
    have hsl2 : ∀ W, (Instr.slice 45 (.slice AL ds.length cl) (some (.int .i64 (m : Int))) none none).run Tryz.prog W = .ok vr W := fun W => by rw [← hvr]; exact slice_back _ _ _ _ hml W
    have HVA := Lib.hid hva; have HVR := Lib.hid hvr; clear hva hvr
    have htl : (ds.take m).length ≤ 1048576 := by rw [List.length_take]; omega
    have hdl : (ds.drop m).length ≤ 1048576 := by rw [List.length_drop]; omega
    have HTM := Lib.hid (show ∀ d ∈ ds.take m, d.2.length ≤ 100000000 from fun d hd => HLD.out d (List.mem_of_mem_take hd)); have HDM := Lib.hid (show ∀ d ∈ ds.drop m, d.2.length ≤ 100000000 from fun d hd => HLD.out d (List.mem_of_mem_drop hd))
    have HTL := Lib.hid htl; have HDL := Lib.hid hdl; clear htl hdl
    have bDa : Below w5.heap.size w5 w5.drew := (Below.refl _ _).drew
    have HRa : Hid (∀ X, Below w5.heap.size w5 X → Calls Tryz.prog 16 #[.agg #[.slice A n.length c, .slice B ps.length d], va] X (BdPost X (na, pa) (.int .i64 ca))) := Lib.hid fun X hX => by
      have h2 := BenchRun_I _ _ va n ps (ds.take m) X (T4.out.rn.step hX) (RdT.step T4.out.rp hX) (by rw [← HVA.out]; exact deeds_front (RdD.step T4.out.rd hX) m hml) (by omega) (by omega) HL1.out HTL.out HTM.out (HT.out _ (T4.out.bl.trans (hX.mono T4.out.bl.size))); rw [HDA.out] at h2; exact h2
    have q0 := Ta0; have q1 := Ta1
    have hlB := T4.out.k3.lt
    go_upto_region 11 with fail
    go_cut [10, 11] (fun qa qb wx => ∃ (g9 : Nat) (xA xB : Option Addr) (xc xd : Nat), qa = .pointer (some ⟨g9, 0, none⟩) ∧ qb = .int .i64 ca ∧ Xst wx g9 (.slice xA na.length xc) (.slice xB pa.length xd) na pa ∧ Below w5.heap.size w5 wx)
    case first =>
      go_region_held3 (fun w' => w'.cell? ⟨w1.heap.size, 0, none⟩ = some (.slice A n.length c) ∧ w'.cell? ⟨w1.heap.size, 1, none⟩ = some (.slice B ps.length d)) (repeat' (first | with_reducible exact q0 | with_reducible exact q1 | with_reducible exact l0 | with_reducible exact l1 | apply And.intro | rw [World.cell?_drew] | rw [World.cell?_alloc_lt _ _ _ (by first | omega | (simp; omega))] | rw [World.cell?_setCell_far _ _ _ _ (by first | omega | (simp; omega))])) (first
        | (go_at_call 16; refine (HRa.out _ (by (repeat (first | with_reducible exact Below.refl _ _ | with_reducible exact bDa | with_reducible refine Below.drew ?_ | with_reducible refine below_allocH ?_ (by first | exact Nat.le_refl _ | omega | (simp; done) | (simp; omega)) _ _)))).mono ?_; rintro e wd ⟨u0, u1, rfl, ho0, ho1, hbd⟩; dsimp only at ho0 ho1; obtain ⟨A5, c5, rfl, _⟩ := id ho0.ints; obtain ⟨A6, c6, rfl, _⟩ := id ho1.rd; have hsd := hbd.size; have b3 : Below w5.heap.size w5 wd := wayB (by (repeat (first | with_reducible exact Below.refl _ _ | with_reducible exact bDa | with_reducible refine Below.drew ?_ | with_reducible refine below_allocH ?_ (by first | exact Nat.le_refl _ | omega | (simp; done) | (simp; omega)) _ _))) hbd; have l0 := (b3.cell (p := ⟨w1.heap.size, 0, none⟩) hlB).trans q0; have l1 := (b3.cell (p := ⟨w1.heap.size, 1, none⟩) hlB).trans q1; have hz3 := b3.size; first | (refine Blk.belowC (L := w5.heap.size) (cs := #[.slice none 0 0, .slice none 0 0]) (T := 26) ?_ hbd ?_ ?_; (focus ((repeat (first | with_reducible refine Blk.drewH ?_ | (refine Blk.newH _ _ _ _ ?_; first | rfl | omega | (simp; done) | (simp; omega)) | with_reducible refine Blk.keepH ?_)); done)); (focus ((first | omega | (simp; done) | (simp; omega)); done)); intro hB9; have o9 : Own wd (w5.heap.size + 1) (.slice A5 na.length c5) na := ho0.mono (by first | exact Nat.le_refl _ | omega | (simp; done) | (simp; omega)); have t9 : OwnWT wd (w5.heap.size + 1) wd.heap.size (.slice A6 pa.length c6) pa := OwnW.mono ho1 (by first | exact Nat.le_refl _ | omega | (simp; done) | (simp; omega)) (Nat.le_refl _); obtain ⟨z0, z1, z2, z3⟩ := blkPair9 hB9; have X9 := Lib.hid (And.intro hB9 (And.intro o9 (And.intro t9 b3))); clear ho0 ho1 hbd b3 hB9 o9 t9) | (have X3 := Lib.hid (And.intro ho0 (And.intro ho1 b3)); clear ho0 ho1 hbd b3))
        | fail)
      all_goals (go_wp2_with fail; go_meet)
      all_goals first
        | (have hX3 := X3.out; exact ⟨wd.heap.size, _, _, _, _, rfl, rfl, ⟨RdI.step hX3.1.ints ((Below.refl _ _).alloc (Nat.le_refl _) _), RdT.step hX3.2.1.rd ((Below.refl _ _).alloc (Nat.le_refl _) _), Blk.new wd _ _⟩, hX3.2.2.alloc (by omega) _⟩)
        | (have hX9 := X9.out; exact ⟨w5.heap.size, _, _, _, _, rfl, rfl, ⟨((hX9.2.1.far9 (Nat.lt_succ_self _) 0 _).far9 (Nat.lt_succ_self _) 1 _).ints, ((hX9.2.2.1.far9 (Nat.lt_succ_self _) 0 _).far9 (Nat.lt_succ_self _) 1 _).rd, (hX9.1.set 0 _).set 1 _⟩, (hX9.2.2.2.setCell (p := ⟨w5.heap.size, 0, none⟩) (Nat.le_refl _) _).setCell (p := ⟨w5.heap.size, 1, none⟩) (Nat.le_refl _) _⟩)
    case rest =>
      obtain ⟨ga, aA, aB, ac, ad, rfl, rfl, hx, hb⟩ := hcut
      obtain ⟨Wa, hwc⟩ : ∃ w, w = wc := ⟨_, rfl⟩
      subst hwc
      clear q0 q1 hlB bDa HRa
      clear Ta0 Ta1 xx0 xx1
      have T5 := Lib.hid (T4.out.step hb)
      have x5 := Lib.hid (x4.out.step hb)
      clear T4 x4 hb
      have a5 := Lib.hid hx; clear hx
      obtain ⟨Ta0, Ta1, _, _⟩ := blkPair9 T5.out.k3
      obtain ⟨xx0, xx1, _, _⟩ := blkPair9 x5.out.k5
      obtain ⟨ax0, ax1, _, _⟩ := blkPair9 a5.out.k5
      have bDr : Below Wa.heap.size Wa Wa.drew := (Below.refl _ _).drew
      have HRr : Hid (∀ X, Below Wa.heap.size Wa X → Calls Tryz.prog 16 #[.agg #[.slice aA na.length ac, .slice aB pa.length ad], vr] X (BdPost X (nr, pr) (.int .i64 cr))) := Lib.hid fun X hX => by
        have h2 := BenchRun_I _ _ vr na pa (ds.drop m) X (RdI.step a5.out.rn hX) (RdT.step a5.out.rp hX) (by rw [← HVR.out]; exact deeds_back (RdD.step T5.out.rd hX) m hml hcl) (by omega) (by omega) HLA.out HDL.out HDM.out (HT.out _ (T5.out.bl.trans (hX.mono T5.out.bl.size))); rw [HDC.out] at h2; exact h2
      have q0 := ax0; have q1 := ax1
      have hlB := a5.out.k5.lt
      go_upto_region 12 with fail
      go_cut [12, 13] (fun qa qb wx => ∃ (g9 : Nat) (xA xB : Option Addr) (xc xd : Nat), qa = .pointer (some ⟨g9, 0, none⟩) ∧ qb = .int .i64 cr ∧ Xst wx g9 (.slice xA nr.length xc) (.slice xB pr.length xd) nr pr ∧ Below Wa.heap.size Wa wx)
      case first =>
        go_region_held3 (fun w' => w'.cell? ⟨ga, 0, none⟩ = some (.slice aA na.length ac) ∧ w'.cell? ⟨ga, 1, none⟩ = some (.slice aB pa.length ad)) (repeat' (first | with_reducible exact q0 | with_reducible exact q1 | with_reducible exact l0 | with_reducible exact l1 | apply And.intro | rw [World.cell?_drew] | rw [World.cell?_alloc_lt _ _ _ (by first | omega | (simp; omega))] | rw [World.cell?_setCell_far _ _ _ _ (by first | omega | (simp; omega))])) (first
          | (go_at_call 16; refine (HRr.out _ (by (repeat (first | with_reducible exact Below.refl _ _ | with_reducible exact bDr | with_reducible refine Below.drew ?_ | with_reducible refine below_allocH ?_ (by first | exact Nat.le_refl _ | omega | (simp; done) | (simp; omega)) _ _)))).mono ?_; rintro e wd ⟨u0, u1, rfl, ho0, ho1, hbd⟩; dsimp only at ho0 ho1; obtain ⟨A5, c5, rfl, _⟩ := id ho0.ints; obtain ⟨A6, c6, rfl, _⟩ := id ho1.rd; have hsd := hbd.size; have b3 : Below Wa.heap.size Wa wd := wayB (by (repeat (first | with_reducible exact Below.refl _ _ | with_reducible exact bDr | with_reducible refine Below.drew ?_ | with_reducible refine below_allocH ?_ (by first | exact Nat.le_refl _ | omega | (simp; done) | (simp; omega)) _ _))) hbd; have l0 := (b3.cell (p := ⟨ga, 0, none⟩) hlB).trans q0; have l1 := (b3.cell (p := ⟨ga, 1, none⟩) hlB).trans q1; have hz3 := b3.size; first | (refine Blk.belowC (L := Wa.heap.size) (cs := #[.slice none 0 0, .slice none 0 0]) (T := 26) ?_ hbd ?_ ?_; (focus ((repeat (first | with_reducible refine Blk.drewH ?_ | (refine Blk.newH _ _ _ _ ?_; first | rfl | omega | (simp; done) | (simp; omega)) | with_reducible refine Blk.keepH ?_)); done)); (focus ((first | omega | (simp; done) | (simp; omega)); done)); intro hB9; have o9 : Own wd (Wa.heap.size + 1) (.slice A5 nr.length c5) nr := ho0.mono (by first | exact Nat.le_refl _ | omega | (simp; done) | (simp; omega)); have t9 : OwnWT wd (Wa.heap.size + 1) wd.heap.size (.slice A6 pr.length c6) pr := OwnW.mono ho1 (by first | exact Nat.le_refl _ | omega | (simp; done) | (simp; omega)) (Nat.le_refl _); obtain ⟨z0, z1, z2, z3⟩ := blkPair9 hB9; have X9 := Lib.hid (And.intro hB9 (And.intro o9 (And.intro t9 b3))); clear ho0 ho1 hbd b3 hB9 o9 t9) | (have X3 := Lib.hid (And.intro ho0 (And.intro ho1 b3)); clear ho0 ho1 hbd b3))
          | fail)
        all_goals (go_wp2_with fail; go_meet)
        all_goals first
          | (have hX3 := X3.out; exact ⟨wd.heap.size, _, _, _, _, rfl, rfl, ⟨RdI.step hX3.1.ints ((Below.refl _ _).alloc (Nat.le_refl _) _), RdT.step hX3.2.1.rd ((Below.refl _ _).alloc (Nat.le_refl _) _), Blk.new wd _ _⟩, hX3.2.2.alloc (by omega) _⟩)
          | (have hX9 := X9.out; exact ⟨Wa.heap.size, _, _, _, _, rfl, rfl, ⟨((hX9.2.1.far9 (Nat.lt_succ_self _) 0 _).far9 (Nat.lt_succ_self _) 1 _).ints, ((hX9.2.2.1.far9 (Nat.lt_succ_self _) 0 _).far9 (Nat.lt_succ_self _) 1 _).rd, (hX9.1.set 0 _).set 1 _⟩, (hX9.2.2.2.setCell (p := ⟨Wa.heap.size, 0, none⟩) (Nat.le_refl _) _).setCell (p := ⟨Wa.heap.size, 1, none⟩) (Nat.le_refl _) _⟩)
      case rest =>
        obtain ⟨gr, rA, rB, rc, rd, rfl, rfl, hx, hb⟩ := hcut
        obtain ⟨Wr, hwc⟩ : ∃ w, w = wc := ⟨_, rfl⟩
        subst hwc
        clear q0 q1 hlB bDr HRr
        clear Ta0 Ta1 xx0 xx1 ax0 ax1
        have T6 := Lib.hid (T5.out.step hb)
        have x6 := Lib.hid (x5.out.step hb)
        have a6 := Lib.hid (a5.out.step hb)
        clear T5 x5 a5 hb
        have r6 := Lib.hid hx; clear hx
        obtain ⟨Ta0, Ta1, _, _⟩ := blkPair9 T6.out.k3
        obtain ⟨xx0, xx1, _, _⟩ := blkPair9 x6.out.k5
        obtain ⟨ax0, ax1, _, _⟩ := blkPair9 a6.out.k5
        obtain ⟨rx0, rx1, _, _⟩ := blkPair9 r6.out.k5
        obtain ⟨rfl, rfl, hsum, hca, hcr⟩ := HSP.out
        have hwc : IntKind.i64.wrap (ca + cr) = ca + cr := IntWalk.i64_in _ (by omega)
        go_wp2_with fail
        refine (BenchValid_I _ _ n' ps' Wr x6.out.rn x6.out.rp (by omega) (by omega) HL2.out (HT.out _ T6.out.bl).1).mono ?_
        rw [HVX.out]
        rintro e wf ⟨rfl, hb⟩
        clear Ta0 Ta1 xx0 xx1 ax0 ax1 rx0 rx1
        have T7 := Lib.hid (T6.out.step hb)
        have x7 := Lib.hid (x6.out.step hb)
        have a7 := Lib.hid (a6.out.step hb)
        have r7 := Lib.hid (r6.out.step hb)
        clear T6 x6 a6 r6 hb
        obtain ⟨Ta0, Ta1, _, _⟩ := blkPair9 T7.out.k3
        obtain ⟨xx0, xx1, _, _⟩ := blkPair9 x7.out.k5
        obtain ⟨ax0, ax1, _, _⟩ := blkPair9 a7.out.k5
        obtain ⟨rx0, rx1, _, _⟩ := blkPair9 r7.out.k5
        go_wp2_with fail
        refine (sameBench9 _ _ _ _ n' ps' wf r7.out.rn r7.out.rp x7.out.rn x7.out.rp).mono ?_
        rintro e wh ⟨rfl, hb⟩
        clear Ta0 Ta1 xx0 xx1 ax0 ax1 rx0 rx1
        have T8 := Lib.hid (T7.out.step hb)
        have x8 := Lib.hid (x7.out.step hb)
        have a8 := Lib.hid (a7.out.step hb)
        have r8 := Lib.hid (r7.out.step hb)
        clear T7 x7 a7 r7 hb
        obtain ⟨Ta0, Ta1, _, _⟩ := blkPair9 T8.out.k3
        obtain ⟨xx0, xx1, _, _⟩ := blkPair9 x8.out.k5
        obtain ⟨ax0, ax1, _, _⟩ := blkPair9 a8.out.k5
        obtain ⟨rx0, rx1, _, _⟩ := blkPair9 r8.out.k5
        have hceq : (ca + cr == c9) = true := by rw [hsum]; simp
        subst hsum
        go_wp2
        go_ret
        exact ⟨rfl, T8.out.bl⟩

theorem fnBenchRun_walk : LawWalkL 4 Tryz.f4 Rows.fnBenchRunRow.laid := by
  intro H enc W base args ds ps hval hA hL _
  rw [Tryz.params4] at hA hval
  obtain ⟨v0, d0, rfl, rfl, h0⟩ := trodAll_one hA
  obtain ⟨A0, c0, zs0, rfl, hi0, hc0⟩ := ints_of_trod Tryz.underlying22 Tryz.underlying5 cells_byte (hval 0 _ _ rfl rfl) h0
  exact fnBenchRun_any A0 c0 zs0 W (RdC.mk hi0 hc0) (strTab_of_laid lv_opTexts_named lv_opTexts_type Tryz.underlying92 Tryz.underlying9 (by kernel_rfl) (by kernel_rfl) (ss := opNames) (List.mem_of_getElem? (i := 3) (by kernel_rfl)) (by decide) hL) (tabIs_of_mem lv_uint64pow10_named lv_uint64pow10_type Tryz.underlying146 Tryz.underlying140 (by kernel_rfl) (by kernel_rfl) (List.mem_of_getElem? (i := 2) (by kernel_rfl)) hL)

noncomputable def fnBenchRun_world (os : Os) : World := laidAt (laidAt (laidAt (laidAt (World.holding Tryz.prog os ⟨#[], #[], []⟩) 3 Rows.laid_math_bits_deBruijn32tab) 4 Rows.laid_math_bits_deBruijn64tab) 2 Rows.laid_internal_strconv_uint64pow10) 0 Rows.laid_loop_example_stackwords_impl_opTexts
theorem fnBenchRun_met (os : Os) : laidMet Tryz.prog Rows.fnBenchRunRow.laid ((fnBenchRun_world os).forCall (fun _ _ => 0) ⟨#[], #[.slice none 0 0], []⟩).memory :=
  laidMet_of_run' 8 (by kernel_rfl) (by kernel_rfl)
theorem fnBenchRun_reads (os : Os) {H : Type} (enc : TypeId × Value → H) : ∃ places, DataW.whole enc Tryz.prog ((fnBenchRun_world os).forCall (fun _ _ => 0) ⟨#[], #[.slice none 0 0], []⟩).memory Tryz.f4.params.toList Rows.fnBenchRunSpec.vars false #[.slice none 0 0].toList 8 = some ([.nil], [strData opNames], places) := by
  have h : (DataW.whole enc Tryz.prog ((fnBenchRun_world os).forCall (fun _ _ => 0) ⟨#[], #[.slice none 0 0], []⟩).memory Tryz.f4.params.toList Rows.fnBenchRunSpec.vars false #[.slice none 0 0].toList 8).map (fun x => (x.1, x.2.1)) = some ([.nil], [strData opNames]) := by kernel_rfl
  obtain ⟨⟨a, b, c⟩, h1, h2⟩ := Option.map_eq_some_iff.1 h
  simp only [Prod.mk.injEq] at h2
  obtain ⟨rfl, rfl⟩ := h2
  exact ⟨c, h1⟩

set_option maxRecDepth 100000 in
theorem fnBenchRun_lifted (os : Os) (started : os.Started) (H : Type) (enc : TypeId × Value → H) (F : Stop.Interp) :
    ReturnsInHanded {} Tryz.checked os 4 .any ((OpenSpec.ofChange Rows.fnBenchRunSpec).preRow enc Tryz.prog Tryz.f4 Rows.fnBenchRunRow.domain false Rows.fnBenchRunRow.laid) (((OpenSpec.ofChange Rows.fnBenchRunSpec).at F).post enc Tryz.prog Tryz.f4 false true false false) := by
  obtain ⟨places, hx⟩ := fnBenchRun_reads os enc
  refine returnsInHanded_of_row (C := Tryz.checked) (s := OpenSpec.ofChange Rows.fnBenchRunSpec) own started (by kernel_rfl) Tryz.func4
    (witness_row_at (enc := enc) (C := Tryz.checked) false (fnBenchRun_world os) #[.slice none 0 0] rfl (by kernel_rfl) (by kernel_rfl) (by kernel_rfl)
      (OpenSpec.preRow_of_cond 8 hx (by kernel_rfl) (fun k hk => by cases hk) (by kernel_rfl) (fnBenchRun_met os))) ?_
  intro W base args ds gs before hval hW _ _ _ hL hsh _
  have hA := hW
  obtain ⟨p, q, hA, hV, _⟩ := hA
  refine (fnBenchRun_walk H enc W base args ds p hval hA hL hsh).mono fun e W' ⟨he, hb⟩ => ⟨_, he, ?_⟩
  obtain ⟨g, t, cs, fuel, d, p', rfl, _⟩ := trodVars_one hV
  have hd := (trodAll_length hA).2
  match ds, hd with
  | [d0], _ =>
    refine post_lawV (s := Rows.fnBenchRunSpec) laidOut hW (by kernel_rfl) ?_ rfl Tryz.underlying4 ⟨rfl, rfl, rfl⟩ hb
    intro n hn g t hg ht
    have hn2 : n ∈ ["loop.example/stackwords/impl.opTexts"] := hn
    simp only [List.mem_cons, List.not_mem_nil, or_false] at hn2
    rcases hn2 with rfl
    · obtain rfl := Option.some.inj (lv_opTexts_named.symm.trans hg)
      obtain rfl := Option.some.inj (lv_opTexts_type.symm.trans ht)
      exact lv_opTexts_readable

theorem fnBenchRun_said : Rows.FnBenchRunSaid :=
  OpenClaim.holds_of_cond 4 Tryz.f4 rfl rfl rfl rfl rfl rfl rfl ⟨rfl, rfl, rfl, rfl, rfl⟩ rfl rfl rfl rfl rfl (by kernel_rfl) Tryz.func4 (by unfold joinedFacts; rw [pf_enter, pf_lifts, pf_make]; kernel_rfl)
    (of_decide_eq_true (by kernel_rfl)) (by unfold Func.isWrapper; first | (rw [if_pos (by decide +kernel)]; kernel_rfl) | (rw [if_neg (by decide +kernel)]; exact ⟨rfl, rfl⟩))
    (fun os started H enc _ F => by rw [OpenClaim.pre_eq_preRow]; exact fnBenchRun_lifted os started H enc F)

theorem fnBenchRun_plain (f : FuncId) (fn : Func) (hf : Tryz.pinned.checked.prog.funcNamed "loop.example/stackwords/laws.FnBenchRun" = some f) (hfn : Tryz.pinned.checked.prog.funcs[f]? = some fn) :
    false = Tryz.pinned.checked.prog.looks [] ∧ ∀ (j : Nat) t, fn.params[j]? = some t → Tryz.pinned.checked.prog.wantsStandIn t = false := by
  obtain rfl : f = 4 := Option.some.inj ((show Tryz.prog.funcNamed "loop.example/stackwords/laws.FnBenchRun" = some 4 by kernel_rfl).symm.trans hf) |>.symm
  obtain rfl : fn = Tryz.f4 := (Option.some.inj (Tryz.func4.symm.trans hfn)).symm
  refine ⟨by kernel_rfl, fun j t ht => ?_⟩
  rw [Tryz.params4] at ht
  have hm := Array.mem_of_getElem? ht
  simp only [List.mem_toArray, List.mem_cons, List.not_mem_nil, or_false] at hm
  rcases hm with rfl
  · exact (show Tryz.prog.wantsStandIn 22 = false by kernel_rfl)

/-- FnBenchRun: the card, as it is given. -/
theorem fnBenchRun_card : Rows.FnBenchRunCardSaid :=
  Claim7.holds_tied_plain_at .later [] _ _ _ _ fnBenchRun_said (fun _ h => by cases h) (by kernel_rfl) (fun _ h => by cases h) fnBenchRun_row_tie rfl ⟨rfl, rfl⟩ (by kernel_rfl) rfl fnBenchRun_plain (by kernel_rfl)

end Go.Proofs.YtjblecinkedppaaGreatDoor
