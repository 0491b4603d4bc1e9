/- FnBenchNew: of every code: BenchNew is its model at the drawn stack; what is no stack gives no bench; else the bench is valid and its program leaves the stack. For every input; the listed variables hold what the program's text lays. -/
import Derived.Test.YtkiedpdhehehfaaDoorI
import Derived.Test.YtkiedpdhehehfaaDoorAq
import Derived.Test.YtkiedpdhehehfaaDoorBm
import Derived.Test.YtkiedpdhehehfaaDoorB6
import Derived.Test.YtkiedpdhehehfaaDoorB8
import Derived.Test.YtkiedpdhehehfaaDoorB5
import Derived.Test.YtkiedpdhehehfaaDoorNl
import Derived.Test.YtkiedpdhehehfaaDoorBb
import Derived.Test.YtkiedpdhehehfaaDoorF1
import Derived.Test.YtkiedpdhehehfaaDoorF2
import Derived.Test.YtkiedpdhehehfaaDoorF3
import Derived.BigQuiet
import Derived.Deep.RegionHeld3
import Derived.Test.YtkiedpdhehehfaaDoorTie
import Derived.Test.YtkiedpdhehehfaaDoorCards
import Derived.SevenTiedAt
namespace Go.Proofs.YtkiedpdhehehfaaDoor
set_option maxRecDepth 100000
open Go.RowKit Go.WideShapes Go.ChangeShapes Go.Maps Go.Deep

theorem RdT.nil9 (w : World) (A : Option Addr) (c : Nat) : RdT w (.slice A 0 c) [] := ⟨A, c, rfl, Nat.zero_le _, by simp, fun h => absurd h (by simp)⟩
theorem RdI.nil9 (w : World) : RdI w (.slice none 0 0) [] := (⟨⟨World.ownsRow_nil _ _ _ _, fun _ h => absurd h (by simp)⟩, by simp [Value.ownBlock]⟩ : OwnI w w.heap.size w.heap.size (.slice none 0 0) []).rd
set_option maxHeartbeats 2000000 in
theorem sameTexts9 (v u : Value) (ss : List (List UInt8)) (w : World) (h0 : RdT w v ss) (h1 : RdT w u ss) :
    Calls Tryd.prog 30 #[v, u] w fun e w' => e = .returned (.bool true) ∧ Below w.heap.size w w' := by
  obtain ⟨A, c, rfl, _, hm, hr0⟩ := h0
  obtain ⟨B, d, rfl, _, _, hr1⟩ := h1
  have H0 := Lib.hid hr0; have H1 := Lib.hid hr1; clear hr0 hr1
  go_enter Tryd.func30, Tryd.ntmps30
  go_wp2
  go_loopw [5] (fun kv wr => ∃ k : Nat, k ≤ ss.length ∧ kv = .int .i64 k ∧ Below w.heap.size w wr) (fun kv _ => ss.length - (intOf kv).toNat)
  case atStart => exact ⟨0, Nat.zero_le _, by first | rfl | simp, Below.refl _ _⟩
  case round =>
    obtain ⟨k, hk, rfl, hbl⟩ := hrel
    by_cases hlt : k < ss.length
    · obtain ⟨b1, o1, rfl, hb1, hc1⟩ := H0.out (by omega)
      obtain ⟨b2, o2, rfl, hb2, hc2⟩ := H1.out (by omega)
      obtain ⟨s, hs⟩ : ∃ s, ss[k]? = some s := ⟨ss[k], List.getElem?_eq_getElem hlt⟩
      have x0 := (hbl.cell (p := ⟨b1, o1 + k, none⟩) hb1).trans (hc1 k s hs)
      have y0 := (hbl.cell (p := ⟨b2, o2 + k, none⟩) hb2).trans (hc2 k s hs)
      have hltI : (k : Int) < ss.length := by omega
      have V := Lib.hid hbl; clear hbl hs hc1 hc2
      go_wp2
      go_quiet (fail)
      go_wp2
      go_roundw
      case rel => exact ⟨k + 1, by omega, by go_num, below_drewN V.out _⟩
      case measure => simp [intOf]; omega
    · have hltI : ¬ (k : Int) < ss.length := by omega
      have V := Lib.hid hbl; clear hbl
      go_wp2
      go_ret
      exact ⟨rfl, V.out⟩
theorem sameBench9 (v0 v1 u0 u1 : Value) (n : List Int) (ps : List (List UInt8)) (w : World) (h0 : RdI w v0 n) (h1 : RdT w v1 ps) (h2 : RdI w u0 n) (h3 : RdT w u1 ps) :
    Calls Tryd.prog 12 #[.agg #[v0, v1], .agg #[u0, u1]] w fun e w' => e = .returned (.bool true) ∧ Below w.heap.size w w' := by
  obtain ⟨W, hW⟩ : ∃ W, (w.alloc (.cells #[v0, v1] 36)).alloc (.cells #[u0, u1] 36) = W := ⟨_, rfl⟩
  have hb : Below w.heap.size w W := by rw [← hW]; exact ((Below.refl _ _).alloc (Nat.le_refl _) _).alloc (by simp) _
  have hz : W.heap.size = w.heap.size + 2 := by rw [← hW]; simp
  have k2 : Blk W (w.heap.size + 1) #[u0, u1] 36 := by
    have := Blk.new (w.alloc (.cells #[v0, v1] 36)) #[u0, u1] 36
    rw [World.size_alloc, hW] at this
    exact this
  have k1 : Blk W w.heap.size #[v0, v1] 36 := by rw [← hW]; exact (Blk.new w #[v0, v1] 36).below ((Below.refl (w.heap.size + 1) _).alloc (by simp) _) (by omega)
  have S := Lib.hid (And.intro (h0.step hb) (And.intro (RdT.step h1 hb) (And.intro (h2.step hb) (And.intro (RdT.step h3 hb) (And.intro hb (And.intro k1 k2))))))
  obtain ⟨A0, c0, rfl, _⟩ := id h0
  obtain ⟨A1, c1, rfl, _⟩ := id h1
  obtain ⟨A2, c2, rfl, _⟩ := id h2
  obtain ⟨A3, c3, rfl, _⟩ := id h3
  clear h0 h1 h2 h3 hb k1 k2
  obtain ⟨g0, g1, _, _⟩ := blkPair9 S.out.2.2.2.2.2.1
  obtain ⟨e0, e1, _, _⟩ := blkPair9 S.out.2.2.2.2.2.2
  go_enter Tryd.func12, Tryd.ntmps12
  go_wp2_with fail
  try rw [hW]
  refine (smI _ _ n n _ S.out.1 S.out.2.2.1 true (by simp)).mono ?_
  rintro e w2 ⟨rfl, hb⟩
  have hz2 := hb.size
  have g1' := (hb.cell (p := ⟨w.heap.size, 1, none⟩) (show w.heap.size < W.heap.size by omega)).trans g1
  have e1' := (hb.cell (p := ⟨w.heap.size + 1, 1, none⟩) (show w.heap.size + 1 < W.heap.size by omega)).trans e1
  have T := Lib.hid (And.intro (RdT.step S.out.2.1 hb) (And.intro (RdT.step S.out.2.2.2.1 hb) (S.out.2.2.2.2.1.trans (hb.mono (by omega))))); clear hb S g0 g1 e0 e1
  go_wp2_with fail
  refine (sameTexts9 _ _ ps _ T.out.1 T.out.2.1).mono ?_
  rintro e w3 ⟨rfl, hb⟩
  have U := Lib.hid (T.out.2.2.trans (hb.mono (by omega))); clear hb T
  go_wp2
  go_ret
  exact ⟨rfl, U.out⟩
theorem noBench9 (A A' : Option Addr) (c c' : Nat) (w : World) (h0 : RdI w (.slice A 0 c) []) :
    Calls Tryd.prog 15 #[.agg #[.slice A 0 c, .slice A' 0 c']] w fun e w' => e = .returned (.bool true) ∧ Below w.heap.size w w' := by
  have hb : Below w.heap.size w (w.alloc (.cells #[.slice A 0 c, .slice A' 0 c'] 36)) := (Below.refl _ _).alloc (Nat.le_refl _) _
  have S := Lib.hid (And.intro (h0.step hb) hb); clear h0 hb
  go_enter Tryd.func15, Tryd.ntmps15
  go_wp2_with fail
  refine (sameBench9 _ _ _ _ [] [] _ S.out.1 (RdT.nil9 _ _ _) (RdI.nil9 _) (RdT.nil9 _ _ _)).mono ?_
  rintro e w2 ⟨rfl, hb⟩
  have T := Lib.hid (S.out.2.trans (hb.mono (by simp))); clear hb S
  go_wp2
  go_ret
  exact ⟨rfl, T.out⟩
def DrawnBN (w : World) (e : Ending) (w' : World) : Prop := ∃ v zss, e = .returned v ∧ RdS w' v zss ∧ zss.length ≤ 21 ∧ (∀ zs ∈ zss, zs.length ≤ 200) ∧ Below w.heap.size w w'
theorem DrawBenchNew_any (v : Value) (zs : List Int) (w : World) (h : RdC w v zs) : Calls Tryd.prog 10 #[v] w (DrawnBN w) := by
  have H := Lib.hid h; clear h
  go_enter Tryd.func10, Tryd.ntmps10
  go_wp2_with fail
  refine (l20Open_any v zs _ H.out).mono ?_
  rintro e w1 ⟨g, bs, rfl, hr, hg, hb⟩
  have hs := hb.size
  have X := Lib.hid (And.intro hr hb); clear hr hb H
  go_wp2_with fail
  refine (stack 5 6 w1 g 0 bs _ (by omega) (by omega) (RS.refl X.out.1) (by omega)).mono ?_
  rintro e w2 ⟨u, zss, p2, rfl, ho, hl, hl2, hr2, hp2, hg2⟩
  have Y := Lib.hid (And.intro (below_of_within X.out.2 hg hg2) (OwnS.rd ho)); clear ho hr2 hg2 X
  go_wp2
  go_ret
  exact ⟨u, zss, rfl, Y.out.2, hl, hl2, Y.out.1⟩

set_option maxHeartbeats 4000000 in
theorem fnBenchNew_any (A0 : Option Addr) (c0 : Nat) (x0 : List Int) (w0 : World) (h0 : RdC w0 (.slice A0 x0.length c0) x0) (ht : StrTab w0 0 opNames) :
    Calls Tryd.prog 4 #[.slice A0 x0.length c0] w0 fun e w' => e = .returned (.bool true) ∧ Below w0.heap.size w0 w' := by
  have hm := h0.len_le
  have HH := Lib.hid h0; clear h0
  have HT := Lib.hid ht; clear ht
  by_cases hl : x0.length ≤ 1048576
  case neg =>
    go_enter Tryd.func4, Tryd.ntmps4
    go_wp2
    go_ret
    exact ⟨rfl, Below.refl _ _⟩
  go_enter Tryd.func4, Tryd.ntmps4
  go_wp2_with fail
  refine (DrawBenchNew_any _ x0 _ HH.out).mono ?_
  rintro e w1 ⟨v, zss, rfl, hs, hln, hz2, hb⟩
  have hz1 := hb.size
  have hsz := szS_200 hz2
  have S1 := Lib.hid (And.intro hb hs); clear hs hb HH hz2
  rcases hR : stackProgR zss with ⟨zp, told⟩
  have HR := Lib.hid hR; clear hR
  go_wp2_with fail
  refine (BenchNew_I v zss _ S1.out.2 (by omega) (by omega) zp told HR.out).mono ?_
  rintro e w2 ⟨u, rfl, ho, hb⟩
  have hz2 := hb.size
  obtain ⟨Au, cu, rfl, _⟩ := ho.rd
  have hba : Below w2.heap.size w2 (w2.alloc (.cells #[.slice Au zp.length cu, .slice none 0 0] 36)) := (Below.refl _ _).alloc (Nat.le_refl _) _
  have S2 := Lib.hid (And.intro ((S1.out.1.trans (hb.mono hz1)).trans (hba.mono (by omega))) (And.intro ((RdS.step S1.out.2 hb).step hba) (And.intro (ho.rd.step hba) (Blk.new w2 #[.slice Au zp.length cu, .slice none 0 0] 36)))); clear ho hb hba S1
  obtain ⟨g0, g1, _, _⟩ := blkPair9 S2.out.2.2.2
  have HBN : Hid (∀ X, Below (w2.heap.size + 1) (w2.alloc (.cells #[.slice Au zp.length cu, .slice none 0 0] 36)) X → Calls Tryd.prog 13 #[v] X fun e w' => ∃ Ax cx A, e = .returned (.agg #[.slice Ax zp.length cx, .slice A 0 0]) ∧ RdI w' (.slice Ax zp.length cx) zp ∧ Below (w2.heap.size + 1) (w2.alloc (.cells #[.slice Au zp.length cu, .slice none 0 0] 36)) w') := Lib.hid fun X hX => by
    have hzX : w2.heap.size + 1 ≤ X.heap.size := by have := hX.size; simpa using this
    refine (BenchNew_S v zss _ (RdS.step S2.out.2.1 (hX.mono (by simp))) (by omega) (by omega) zp told HR.out).mono ?_
    rintro e w' ⟨x, A, rfl, hx, hb⟩
    obtain ⟨Ax, cx, rfl, _⟩ := hx.rd
    exact ⟨Ax, cx, A, rfl, hx.rd, hX.trans (hb.mono hzX)⟩
  go_wp2_with fail
  go_region_held3 (fun w' => w'.cell? ⟨w2.heap.size, 0, none⟩ = some (.slice Au zp.length cu) ∧ w'.cell? ⟨w2.heap.size, 1, none⟩ = some (.slice none 0 0)) (repeat' (first | with_reducible assumption | apply And.intro | rw [World.cell?_drew])) (first
    | (go_at_call 13; refine (HBN.out _ (by first | exact Below.refl _ _ | exact (Below.refl _ _).drew)).mono ?_; rintro e w3 ⟨Ax, cx, A, rfl, hx, hb3⟩; have hz3 : w2.heap.size + 1 ≤ w3.heap.size := (by have := hb3.size; simpa using this); obtain ⟨r0, r1, _, _⟩ := blkPair9 (S2.out.2.2.2.below hb3 (by omega)); have S3 := Lib.hid (And.intro hx hb3); clear hx hb3)
    | (go_at_call 12; refine (sameBench9 _ _ _ _ zp [] _ ?_ (RdT.nil9 _ _ _) ?_ (RdT.nil9 _ _ _)).mono ?_; (first | exact RdI.step (S2.out.2.2.1.step (S3.out.2.mono (by simp))) (Below.refl _ _) | exact RdI.step (S2.out.2.2.1.step (S3.out.2.mono (by simp))) (Below.refl _ _).drew); (first | exact S3.out.1.step (Below.refl _ _) | exact S3.out.1.step (Below.refl _ _).drew); rintro e w4 ⟨rfl, hb4⟩; have hb40 : Below w3.heap.size w3 w4 := (by first | exact hb4 | exact (Below.refl _ _).drew.trans hb4); have hz4 := hb40.size; obtain ⟨t0, t1, _, _⟩ := blkPair9 ((S2.out.2.2.2.below S3.out.2 (by omega)).below hb40 (by omega)))
    | fail)
  have B4 : Below (w2.heap.size + 1) (w2.alloc (.cells #[.slice Au zp.length cu, .slice none 0 0] 36)) w4 := S3.out.2.trans (hb40.mono hz3)
  have S4 := Lib.hid (And.intro (S2.out.1.trans (B4.mono (by omega))) (And.intro (RdS.step S2.out.2.1 (B4.mono (by simp))) (And.intro (S2.out.2.2.1.step (B4.mono (by simp))) (S2.out.2.2.2.below B4 (by omega))))); clear B4 hb4 hb40 S3 S2 g0 g1 r0 r1
  clear HBN
  have HTT : Hid (∀ X, Below w0.heap.size w0 X → StrTab X 0 opNames) := Lib.hid fun X hX => HT.out.below hX HT.out.lt
  go_wp2_with fail
  refine (StackProg_I v zss _ S4.out.2.1 (by omega) (by omega) zp told HR.out).mono ?_
  rintro e w5 ⟨u5, rfl, _, hb⟩
  have hz5 := hb.size
  have S5 := Lib.hid (And.intro (S4.out.1.trans (hb.mono (by omega))) (And.intro (RdS.step S4.out.2.1 hb) (And.intro (S4.out.2.2.1.step hb) (S4.out.2.2.2.below hb (by omega))))); clear hb S4 t0 t1
  obtain ⟨t0, t1, _, _⟩ := blkPair9 S5.out.2.2.2
  rcases told with _ | _
  · have hno : zp = [] := by
      have h := HR.out
      unfold stackProgR at h
      split at h
      · cases h
      · cases h; rfl
    subst hno
    go_wp2_with fail
    refine (noBench9 _ _ _ _ _ S5.out.2.2.1).mono ?_
    rintro e w6 ⟨rfl, hb⟩
    have S6 := Lib.hid (S5.out.1.trans (hb.mono (by omega))); clear hb S5 t0 t1
    go_wp2_with fail
    refine (alive_any _).mono ?_
    rintro e w7 ⟨rfl, hb⟩
    have hz6 := S6.out.size
    have S7 := Lib.hid (S6.out.trans (hb.mono (by omega))); clear hb S6
    go_wp2
    go_ret
    exact ⟨rfl, S7.out⟩
  · have hbk := stackProg_back HR.out
    have hbv : benchB zp [] = true := by
      unfold benchB bsB
      rw [hbk.2.2.2.1]
      simp
    have HBV := Lib.hid hbv; clear hbv
    have hp60 := hbk.2.2.2.2
    have HPS := Lib.hid hbk.2.2.2.1; clear hbk
    go_wp2_with fail
    refine (ProgStack_I _ zp _ S5.out.2.2.1 (by omega) zss true HPS.out).mono ?_
    rintro e w6 ⟨u6, rfl, ho6, hb⟩
    have hz6 := hb.size
    have S6 := Lib.hid (And.intro (S5.out.1.trans (hb.mono (by omega))) (And.intro (RdS.step S5.out.2.1 hb) (And.intro (S5.out.2.2.1.step hb) (And.intro (S5.out.2.2.2.below hb (by omega)) (OwnS.rd ho6))))); clear hb S5 t0 t1 ho6
    obtain ⟨t0, t1, _, _⟩ := blkPair9 S6.out.2.2.2.1
    go_wp2_with fail
    refine (BenchValid_I _ _ zp [] _ S6.out.2.2.1 (RdT.nil9 _ _ _) (by omega) (by simp) (by simp) (HTT.out _ S6.out.1)).mono ?_
    rw [HBV.out]
    rintro e w7 ⟨rfl, hb⟩
    have hz7 := hb.size
    have S7 := Lib.hid (And.intro (S6.out.1.trans (hb.mono (by omega))) (And.intro (RdS.step S6.out.2.1 hb) (And.intro (S6.out.2.2.2.1.below hb (by omega)) (RdS.step S6.out.2.2.2.2 hb)))); clear hb S6 t0 t1
    go_wp2_with fail
    refine (smS _ _ zss zss _ S7.out.2.2.2 S7.out.2.1 true (by simp)).mono ?_
    rintro e w8 ⟨rfl, hb⟩
    obtain ⟨t0, t1, _, _⟩ := blkPair9 (S7.out.2.2.1.below hb (by omega))
    have S8 := Lib.hid (S7.out.1.trans (hb.mono (by omega))); clear hb S7
    go_wp2
    go_ret
    exact ⟨rfl, S8.out⟩

theorem fnBenchNew_walk : LawWalkL 4 Tryd.f4 Rows.fnBenchNewRow.laid := by
  intro H enc W base args ds ps hval hA hL _
  rw [Tryd.params4] at hA hval
  obtain ⟨v0, d0, rfl, rfl, h0⟩ := trodAll_one hA
  obtain ⟨A0, c0, zs0, rfl, hi0, hc0⟩ := ints_of_trod Tryd.underlying31 Tryd.underlying5 cells_byte (hval 0 _ _ rfl rfl) h0
  exact fnBenchNew_any A0 c0 zs0 W (RdC.mk hi0 hc0) (strTab_of_laid lv_opTexts_named lv_opTexts_type Tryd.underlying99 Tryd.underlying9 (by kernel_rfl) (by kernel_rfl) (ss := opNames) (List.mem_of_getElem? (i := 0) (by kernel_rfl)) (by decide) hL)

noncomputable def fnBenchNew_world (os : Os) : World := laidAt (World.holding Tryd.prog os ⟨#[], #[], []⟩) 0 Rows.laid_loop_example_stackwords_impl_opTexts
theorem fnBenchNew_met (os : Os) : laidMet Tryd.prog Rows.fnBenchNewRow.laid ((fnBenchNew_world os).forCall (fun _ _ => 0) ⟨#[], #[.slice none 0 0], []⟩).memory :=
  laidMet_of_run' 8 (by kernel_rfl) (by kernel_rfl)
theorem fnBenchNew_reads (os : Os) {H : Type} (enc : TypeId × Value → H) : ∃ places, DataW.whole enc Tryd.prog ((fnBenchNew_world os).forCall (fun _ _ => 0) ⟨#[], #[.slice none 0 0], []⟩).memory Tryd.f4.params.toList Rows.fnBenchNewSpec.vars false #[.slice none 0 0].toList 8 = some ([.nil], [strData opNames], places) := by
  have h : (DataW.whole enc Tryd.prog ((fnBenchNew_world os).forCall (fun _ _ => 0) ⟨#[], #[.slice none 0 0], []⟩).memory Tryd.f4.params.toList Rows.fnBenchNewSpec.vars false #[.slice none 0 0].toList 8).map (fun x => (x.1, x.2.1)) = some ([.nil], [strData opNames]) := by kernel_rfl
  obtain ⟨⟨a, b, c⟩, h1, h2⟩ := Option.map_eq_some_iff.1 h
  simp only [Prod.mk.injEq] at h2
  obtain ⟨rfl, rfl⟩ := h2
  exact ⟨c, h1⟩

set_option maxRecDepth 100000 in
theorem fnBenchNew_lifted (os : Os) (started : os.Started) (H : Type) (enc : TypeId × Value → H) (F : Stop.Interp) :
    ReturnsInHanded {} Tryd.checked os 4 .any ((OpenSpec.ofChange Rows.fnBenchNewSpec).preRow enc Tryd.prog Tryd.f4 Rows.fnBenchNewRow.domain false Rows.fnBenchNewRow.laid) (((OpenSpec.ofChange Rows.fnBenchNewSpec).at F).post enc Tryd.prog Tryd.f4 false true false false) := by
  obtain ⟨places, hx⟩ := fnBenchNew_reads os enc
  refine returnsInHanded_of_row (C := Tryd.checked) (s := OpenSpec.ofChange Rows.fnBenchNewSpec) own started (by kernel_rfl) Tryd.func4
    (witness_row_at (enc := enc) (C := Tryd.checked) false (fnBenchNew_world os) #[.slice none 0 0] rfl (by kernel_rfl) (by kernel_rfl) (by kernel_rfl)
      (OpenSpec.preRow_of_cond 8 hx (by kernel_rfl) (fun k hk => by cases hk) (by kernel_rfl) (fnBenchNew_met os))) ?_
  intro W base args ds gs before hval hW _ _ _ hL hsh _
  have hA := hW
  obtain ⟨p, q, hA, hV, _⟩ := hA
  refine (fnBenchNew_walk H enc W base args ds p hval hA hL hsh).mono fun e W' ⟨he, hb⟩ => ⟨_, he, ?_⟩
  obtain ⟨g, t, cs, fuel, d, p', rfl, _⟩ := trodVars_one hV
  have hd := (trodAll_length hA).2
  match ds, hd with
  | [d0], _ =>
    refine post_lawV (s := Rows.fnBenchNewSpec) laidOut hW (by kernel_rfl) ?_ rfl Tryd.underlying4 ⟨rfl, rfl, rfl⟩ hb
    intro n hn g t hg ht
    have hn2 : n ∈ ["loop.example/stackwords/impl.opTexts"] := hn
    simp only [List.mem_cons, List.not_mem_nil, or_false] at hn2
    rcases hn2 with rfl
    · obtain rfl := Option.some.inj (lv_opTexts_named.symm.trans hg)
      obtain rfl := Option.some.inj (lv_opTexts_type.symm.trans ht)
      exact lv_opTexts_readable

theorem fnBenchNew_said : Rows.FnBenchNewSaid :=
  OpenClaim.holds_of_cond 4 Tryd.f4 rfl rfl rfl rfl rfl rfl rfl ⟨rfl, rfl, rfl, rfl, rfl⟩ rfl rfl rfl rfl rfl (by kernel_rfl) Tryd.func4 (by unfold joinedFacts; rw [pf_enter, pf_lifts, pf_make]; kernel_rfl)
    (of_decide_eq_true (by kernel_rfl)) (by unfold Func.isWrapper; first | (rw [if_pos (by decide +kernel)]; kernel_rfl) | (rw [if_neg (by decide +kernel)]; exact ⟨rfl, rfl⟩))
    (fun os started H enc _ F => by rw [OpenClaim.pre_eq_preRow]; exact fnBenchNew_lifted os started H enc F)

theorem fnBenchNew_plain (f : FuncId) (fn : Func) (hf : Tryd.pinned.checked.prog.funcNamed "loop.example/stackwords/laws.FnBenchNew" = some f) (hfn : Tryd.pinned.checked.prog.funcs[f]? = some fn) :
    false = Tryd.pinned.checked.prog.looks [] ∧ ∀ (j : Nat) t, fn.params[j]? = some t → Tryd.pinned.checked.prog.wantsStandIn t = false := by
  obtain rfl : f = 4 := Option.some.inj ((show Tryd.prog.funcNamed "loop.example/stackwords/laws.FnBenchNew" = some 4 by kernel_rfl).symm.trans hf) |>.symm
  obtain rfl : fn = Tryd.f4 := (Option.some.inj (Tryd.func4.symm.trans hfn)).symm
  refine ⟨by kernel_rfl, fun j t ht => ?_⟩
  rw [Tryd.params4] at ht
  have hm := Array.mem_of_getElem? ht
  simp only [List.mem_toArray, List.mem_cons, List.not_mem_nil, or_false] at hm
  rcases hm with rfl
  · exact (show Tryd.prog.wantsStandIn 31 = false by kernel_rfl)

/-- FnBenchNew: the card, as it is given. -/
theorem fnBenchNew_card : Rows.FnBenchNewCardSaid :=
  Claim7.holds_tied_plain_at .later [] _ _ _ _ fnBenchNew_said (fun _ h => by cases h) (by kernel_rfl) (fun _ h => by cases h) fnBenchNew_row_tie rfl ⟨rfl, rfl⟩ (by kernel_rfl) rfl fnBenchNew_plain (by kernel_rfl)

end Go.Proofs.YtkiedpdhehehfaaDoor
