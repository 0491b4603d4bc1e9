/- The draws of words, texts of words, programs and texts of programs. -/
import Derived.Test.YtaobijmjlkdphaaDoorNo
import Derived.Test.YtaobijmjlkdphaaDoorNj
namespace Go.Proofs.YtaobijmjlkdphaaDoor
set_option maxRecDepth 100000
open Go.RowKit Go.WideShapes

theorem add_ba (x y : ByteArray) (h : x.size + y.size ≤ 100000) : ∃ z : ByteArray, z.size = x.size + y.size ∧ ∀ W, (Op.stringOp .add x y).run Tryd.prog W = .ok (.string z) W :=
  ⟨x ++ y, by simp [ByteArray.size_append], fun W => run_string_add_sum W _ _ (by omega)⟩
theorem DrawProgText_any (v : Value) (zs : List Int) (w : World) (h : RdC w v zs) : Calls Tryd.prog 27 #[v] w (DrawnI w) := by
  have H := Lib.hid h; clear h
  go_enter Tryd.func27, Tryd.ntmps27
  go_wp2_with fail
  refine (l20Open_any v zs _ H.out).mono ?_
  rintro e w1 ⟨g, bs, rfl, hr, hg, hb⟩
  have X := Lib.hid (And.intro hr hb); clear hr hb
  have hs := X.out.2.size
  go_wp2_with fail
  refine (prog 7 9 w1 g 0 bs _ (by omega) (by omega) (RS.refl X.out.1) (by omega)).mono ?_
  rintro e w2 ⟨u, ys, p2, rfl, ho, hl, hr2, hp2, hg2⟩
  have Y := Lib.hid (And.intro ho (below_of_within X.out.2 hg hg2)); clear ho hr2 hg2
  go_wp2_with fail
  go_ret
  exact ⟨u, ys, rfl, ⟨Y.out.1.own.mono hs, Y.out.1.lt⟩, hl, Y.out.2⟩

theorem DrawWordText_any (v : Value) (zs : List Int) (w : World) (h : RdC w v zs) :
    Calls Tryd.prog 24 #[v] w fun e w' => ∃ z : Int, e = .returned (.int .i64 z) ∧ -1 ≤ z ∧ z ≤ 1014 ∧ Below w.heap.size w w' := by
  have H := Lib.hid h; clear h
  go_enter Tryd.func24, Tryd.ntmps24
  go_wp2_with fail
  refine (l20Open_any v zs _ H.out).mono ?_
  rintro e w1 ⟨g, bs, rfl, hr, hg, hb⟩
  have X := Lib.hid (And.intro (RS.refl hr) hb)
  have hg1 := hr.lt
  clear hr hb
  have hs := X.out.2.size
  go_wp2_with fail
  refine (num w1 g 0 bs _ X.out.1 (by omega)).mono ?_
  rintro e w2 ⟨x1, rfl, h10, h11, hr, hw⟩
  have X2 := Lib.hid (And.intro hr (below_of_within X.out.2 hg hw)); clear hr hw X
  have hs2 := X2.out.2.size
  go_wp2_with fail
  refine (pick w1 g (0 + 4) 13 bs _ X2.out.1 (by omega) (by omega)).mono ?_
  rintro e w3 ⟨x2, rfl, h20, h21, hr, hw⟩
  have X3 := Lib.hid (And.intro hr (below_of_within X2.out.2 hg hw)); clear hr hw X2
  have hs3 := X3.out.2.size
  go_wp2_with fail
  refine (pick w1 g (0 + 4 + 1) 13 bs _ X3.out.1 (by omega) (by omega)).mono ?_
  rintro e w4 ⟨x3, rfl, h30, h31, hr, hw⟩
  have X4 := Lib.hid (And.intro hr (below_of_within X3.out.2 hg hw)); clear hr hw X3
  have hs4 := X4.out.2.size
  have hgs := X4.out.1.rdr.lt
  go_wp2_with fail
  have hbl : Below w4.heap.size w4 (w4.alloc (.cells #[.int .i64 x1, .int .i64 (1001 + x2), .int .i64 (1001 + x3), .int .i64 (-1), .int .i64 1000, .int .i64 1014] 3)) := (Below.refl _ _).alloc (Nat.le_refl _) _
  have H4' := Lib.hid (And.intro (X4.out.1.below hbl X4.out.1.size) (X4.out.2.trans (hbl.mono hs4)))
  clear X4 hbl
  refine (pick w1 g (0 + 4 + 1 + 1) 6 bs _ H4'.out.1 (by omega) (by omega)).mono ?_
  rintro e w5 ⟨x5, rfl, h50, h51, hr5, hg5⟩
  have hblk : w5.heap[w4.heap.size]? = some (.cells #[.int .i64 x1, .int .i64 (1001 + x2), .int .i64 (1001 + x3), .int .i64 (-1), .int .i64 1000, .int .i64 1014] 3 (0, 0)) := (hg5.block _ (by simp) (by omega)).trans (heap_alloc_new w4 _)
  obtain ⟨k, rfl⟩ := Int.eq_ofNat_of_zero_le h50
  obtain ⟨z, hz, hz0, hz1⟩ : ∃ z : Int, w5.cell? ⟨w4.heap.size, k, none⟩ = some (.int .i64 z) ∧ -1 ≤ z ∧ z ≤ 1014 := by
    rw [cell_of_row _ _ _ _ _ _ hblk]
    rcases k with _ | _ | _ | _ | _ | _ | k
    · exact ⟨x1, rfl, by omega, by omega⟩
    · exact ⟨1001 + x2, rfl, by omega, by omega⟩
    · exact ⟨1001 + x3, rfl, by omega, by omega⟩
    · exact ⟨-1, rfl, by omega, by omega⟩
    · exact ⟨1000, rfl, by omega, by omega⟩
    · exact ⟨1014, rfl, by omega, by omega⟩
    · omega
  have B := Lib.hid (below_of_within H4'.out.2 hg hg5); clear hr5 hg5 H4' hblk
  go_wp2
  go_ret
  exact ⟨_, rfl, hz0, hz1, B.out⟩

theorem str_at {W : World} {g : Nat} {ss : List (List UInt8)} {T : TypeId} (h : W.heap[g]? = some (.cells (strVals ss).toArray T (0, 0))) {j : Nat} {t : List UInt8} (ht : ss[j]? = some t) : W.cell? ⟨g, j, none⟩ = some (.string ⟨t.toArray⟩) := by
  rw [cell_of_row _ _ _ _ _ _ h]; simp [strVals, ht]
theorem str_new (W : World) {ss : List (List UInt8)} {T : TypeId} {j : Nat} {t : List UInt8} (ht : ss[j]? = some t) : (W.alloc (.cells (strVals ss).toArray T)).cell? ⟨W.heap.size, j, none⟩ = some (.string ⟨t.toArray⟩) := str_at (heap_alloc_new W _) ht
/-- A byte of a text spoiled: the pieces, whatever is put between them. -/
theorem spoil_parts (S : ByteArray) (k : Nat) (hk : k < S.size) (hS : S.size ≤ 50000) : ∃ A B : ByteArray, A.size = k ∧ B.size + (k + 1) = S.size ∧
    (∀ W, (Instr.slice 9 (.string S) none (some (.int .i64 k)) none).run Tryd.prog W = .ok (.string A) W) ∧ (∀ W, (Instr.slice 9 (.string S) (some (.int .i64 ((k : Int) + 1))) none none).run Tryd.prog W = .ok (.string B) W) :=
  ⟨S.extract 0 k, S.extract (k + 1) S.size, by rw [ByteArray.size_extract]; omega, by rw [ByteArray.size_extract]; omega, fun W => by
    rw [run_slice_string_to_if W 9 S .i64 k Tryd.underlying9, if_pos ⟨by omega, by omega⟩, Int.toNat_natCast], fun W => by
    rw [run_slice_string_from_if W 9 S .i64 ((k : Int) + 1) Tryd.underlying9, if_pos ⟨by omega, by omega⟩, show ((k : Int) + 1).toNat = k + 1 by omega]⟩
def SpoilPost (w : World) (L : Nat) (e : Ending) (w' : World) : Prop := ∃ T : ByteArray, e = .returned (.string T) ∧ T.size ≤ L ∧ Below w.heap.size w w'

theorem mk_size (l : List UInt8) : (⟨l.toArray⟩ : ByteArray).size = l.length := by simp [ByteArray.size]
theorem below_drewA {w W : World} (h : Below w.heap.size w W) (o : Obj) : Below w.heap.size w (W.alloc o).drew := (h.alloc h.size o).drew
theorem below_drewB {w W : World} (h : Below w.heap.size w W) (o : Obj) : Below w.heap.size w (W.drew.alloc o) := h.drew.alloc h.size o
theorem spoil_after {ss : List (List UInt8)} {T : TypeId} {w5 w6 : World} {g j L : Nat} (hw : Within g (g + 1) (w5.alloc (.cells (strVals ss).toArray T)).drew w6) (hg : g < w5.heap.size) (hj : j < ss.length) (hL : ∀ t ∈ ss, t.length ≤ L) :
    ∃ t : List UInt8, t.length ≤ L ∧ w6.cell? ⟨w5.heap.size, j, none⟩ = some (.string ⟨t.toArray⟩) :=
  ⟨ss[j], hL _ (List.getElem_mem hj), str_at ((hw.block w5.heap.size (show w5.heap.size < (w5.heap.push _).size by rw [Array.size_push]; omega) (by omega)).trans (heap_alloc_new w5 _)) (List.getElem?_eq_getElem hj)⟩
theorem spoil_new (ss : List (List UInt8)) (T : TypeId) {j L : Nat} (hj : j < ss.length) (hL : ∀ t ∈ ss, t.length ≤ L) :
    ∃ t : List UInt8, t.length ≤ L ∧ ∀ W : World, (W.alloc (.cells (strVals ss).toArray T)).cell? ⟨W.heap.size, j, none⟩ = some (.string ⟨t.toArray⟩) :=
  ⟨ss[j], hL _ (List.getElem_mem hj), fun W => str_new W (List.getElem?_eq_getElem hj)⟩
theorem add_three (A B : ByteArray) (t : List UInt8) (h : A.size + t.length + B.size ≤ 100000) : ∃ C D : ByteArray, D.size = A.size + t.length + B.size ∧ (∀ W, (Op.stringOp .add A ⟨t.toArray⟩).run Tryd.prog W = .ok (.string C) W) ∧ (∀ W, (Op.stringOp .add C B).run Tryd.prog W = .ok (.string D) W) := by
  obtain ⟨C, hC, h1⟩ := add_ba A ⟨t.toArray⟩ (by rw [mk_size t]; omega)
  rw [mk_size t] at hC
  obtain ⟨D, hD, h2⟩ := add_ba C B (by omega)
  exact ⟨C, D, by omega, h1, h2⟩
def lits6 : List (List UInt8) := [[], [48], [91], [93], [32], [32, 32]]
theorem lits6_len : ∀ t ∈ lits6, t.length ≤ 2 := by decide

set_option maxHeartbeats 2000000 in
theorem DrawReadProg_any (v : Value) (zs : List Int) (w : World) (h : RdC w v zs) :
    Calls Tryd.prog 30 #[v] w (SpoilPost w 500) := by
  have H := Lib.hid h; clear h
  go_enter Tryd.func30, Tryd.ntmps30
  go_wp2_with fail
  refine (l20Open_any v zs _ H.out).mono ?_
  rintro e w1 ⟨g, bs, rfl, hr, hg, hb⟩
  have X := Lib.hid (And.intro (RS.refl hr) hb)
  have hg1 := hr.lt
  clear hr hb
  have hs := X.out.2.size
  go_wp2_with fail
  refine (prog0 6 w1 g 0 bs _ (by omega) X.out.1 (by omega)).mono ?_
  rintro e w2 ⟨u, ys, p2, rfl, ho, hl, hr, hp2, hw, hf⟩
  have hs2 := hw.size
  have X2 := Lib.hid (And.intro hr (And.intro (below_of_within X.out.2 hg hw) ho)); clear hr hw ho X
  go_wp2_with fail
  refine (ProgText_S u ys _ X2.out.2.2.rd).mono ?_
  rintro e w3 ⟨rfl, hb⟩
  have hs3 := hb.size
  have X3 := Lib.hid (And.intro (X2.out.1.below hb (by omega)) (X2.out.2.1.trans (hb.mono (by omega)))); clear hb X2
  have hv := hf.valid (by omega)
  obtain ⟨S, hS⟩ : ∃ S : ByteArray, (⟨(progT ys).toArray⟩ : ByteArray) = S := ⟨_, rfl⟩
  have hSl : S.size ≤ 400 ∧ 0 < S.size := by
    have h1 := progT_len ys
    have h2 := List.length_pos_iff.2 (progT_ne hv)
    rw [← hS]; simp [ByteArray.size]; omega
  obtain ⟨hSl, hSp⟩ := hSl
  rw [hS]
  clear hS hv hf
  go_wp2_with fail
  refine (pick w1 g p2 3 bs _ X3.out.1 (by omega) (by omega)).mono ?_
  rintro e w4 ⟨x, rfl, hx0, hx1, hr, hw⟩
  have hs4 := hw.size
  have X4 := Lib.hid (And.intro hr (below_of_within X3.out.2 hg hw)); clear hr hw X3
  by_cases hx : x = 0
  · subst hx
    have hSI : (1 : Int) ≤ S.size ∧ (S.size : Int) ≤ 1000000 := by omega
    go_wp2_with fail
    refine (pick w1 g (p2 + 1) S.size bs _ X4.out.1 hSI (by omega)).mono ?_
    rintro e w5 ⟨k, rfl, hk0, hk1, hr, hw⟩
    have hs5 := hw.size
    have X5 := Lib.hid (And.intro hr (below_of_within X4.out.2 hg hw)); clear hr hw X4 hSI
    obtain ⟨k, rfl⟩ := Int.eq_ofNat_of_zero_le hk0
    obtain ⟨A, B, hA, hB, hsl1, hsl2⟩ := spoil_parts S k (by omega) (by omega)
    have hw1 : IntKind.i64.wrap ((k : Int) + 1) = (k : Int) + 1 := IntWalk.i64_in _ (by omega)
    clear hk0 hk1 hx0 hx1
    have RA := Lib.hid (X5.out.1.below (((Below.refl w5.heap.size w5).alloc (Nat.le_refl _) (.cells #[.string ⟨#[]⟩, .string ⟨#[48]⟩, .string ⟨#[91]⟩, .string ⟨#[93]⟩, .string ⟨#[32]⟩, .string ⟨#[32, 32]⟩] 9)).drew) (by omega))
    have RD := Lib.hid (X5.out.1.below ((Below.refl w5.heap.size w5).drew) (by omega))
    have BW := Lib.hid X5.out.2
    have hg5 := X5.out.1.rdr.lt
    have SN := Lib.hid (fun j hj => spoil_new lits6 9 (j := j) hj lits6_len)
    have SA := Lib.hid (fun w6 j hw hj => spoil_after (ss := lits6) (T := 9) (w5 := w5) (w6 := w6) (g := g) (j := j) hw hg5 hj lits6_len)
    clear X5
    go_wp2
    go_region_with (first
      | (go_at_call 51; refine (pick w1 g (p2 + 1 + 1) 6 bs _ RA.out (by omega) (by omega)).mono ?_; rintro e w6 ⟨y, rfl, hy0, hy1, _, hw⟩
         obtain ⟨j, rfl⟩ := Int.eq_ofNat_of_zero_le hy0
         obtain ⟨t, htl, hc⟩ := SA.out w6 j hw (show j < 6 by omega)
         obtain ⟨C, D, hD, ha1, ha2⟩ := add_three A B t (by omega)
         have HD : D.size ≤ 500 := by omega
         have HB := Lib.hid (below_of_within (below_drewA BW.out _) hg hw)
         clear hw hD)
      | (go_at_call 51; refine (pick w1 g (p2 + 1 + 1) 6 bs _ RD.out (by omega) (by omega)).mono ?_; rintro e w6 ⟨y, rfl, hy0, hy1, _, hw⟩
         obtain ⟨j, rfl⟩ := Int.eq_ofNat_of_zero_le hy0
         obtain ⟨t, htl, hc⟩ := SN.out j (show j < 6 by omega)
         replace hc : ∀ W : World, (W.alloc (.cells #[.string ⟨#[]⟩, .string ⟨#[48]⟩, .string ⟨#[91]⟩, .string ⟨#[93]⟩, .string ⟨#[32]⟩, .string ⟨#[32, 32]⟩] 9)).cell? ⟨W.heap.size, j, none⟩ = some (.string ⟨t.toArray⟩) := hc
         obtain ⟨C, D, hD, ha1, ha2⟩ := add_three A B t (by omega)
         have HD : D.size ≤ 500 := by omega
         have HB := Lib.hid (below_of_within BW.out.drew hg hw)
         clear hw hD)
      | fail)
    all_goals go_wp2
    all_goals go_ret
    all_goals refine ⟨D, rfl, HD, ?_⟩
    all_goals first
      | exact HB.out
      | exact HB.out.alloc HB.out.size _
      | exact below_drewA HB.out _
      | (trace_state; fail)
  · have hxb : (x == 0) = false := by simpa using hx
    clear hx hx0 hx1
    go_wp2
    go_ret
    exact ⟨S, rfl, by omega, X4.out.2⟩
def lits4 : List (List UInt8) := [[], [48], [112], [32]]
theorem lits4_len : ∀ t ∈ lits4, t.length ≤ 2 := by decide

set_option maxHeartbeats 2000000 in
theorem DrawReadWord_any (v : Value) (zs : List Int) (w : World) (h : RdC w v zs) :
    Calls Tryd.prog 26 #[v] w (SpoilPost w 100) := by
  have H := Lib.hid h; clear h
  go_enter Tryd.func26, Tryd.ntmps26
  go_wp2_with fail
  refine (l20Open_any v zs _ H.out).mono ?_
  rintro e w1 ⟨g, bs, rfl, hr, hg, hb⟩
  have X := Lib.hid (And.intro (RS.refl hr) hb)
  have hg1 := hr.lt
  clear hr hb
  have hs := X.out.2.size
  go_wp2_with fail
  refine (num w1 g 0 bs _ X.out.1 (by omega)).mono ?_
  rintro e w2 ⟨x1, rfl, h10, h11, hr, hw⟩
  have X2 := Lib.hid (And.intro hr (below_of_within X.out.2 hg hw)); clear hr hw X
  have hs2 := X2.out.2.size
  go_wp2_with fail
  refine (pick w1 g (0 + 4) 13 bs _ X2.out.1 (by omega) (by omega)).mono ?_
  rintro e w2b ⟨x2, rfl, h20, h21, hr, hw⟩
  have Xb := Lib.hid (And.intro hr (below_of_within X2.out.2 hg hw)); clear hr hw X2
  have hs2b := Xb.out.2.size
  have hgs := Xb.out.1.rdr.lt
  go_wp2_with fail
  have hbl : Below w2b.heap.size w2b (w2b.alloc (.cells #[.int .i64 x1, .int .i64 (1001 + x2)] 3)) := (Below.refl _ _).alloc (Nat.le_refl _) _
  have H4' := Lib.hid (And.intro (Xb.out.1.below hbl Xb.out.1.size) (Xb.out.2.trans (hbl.mono hs2b)))
  clear Xb hbl
  refine (pick w1 g (0 + 4 + 1) 2 bs _ H4'.out.1 (by omega) (by omega)).mono ?_
  rintro e w2c ⟨x5, rfl, h50, h51, hr5, hg5⟩
  have hblk : w2c.heap[w2b.heap.size]? = some (.cells #[.int .i64 x1, .int .i64 (1001 + x2)] 3 (0, 0)) := (hg5.block _ (by simp) (by omega)).trans (heap_alloc_new w2b _)
  obtain ⟨k, rfl⟩ := Int.eq_ofNat_of_zero_le h50
  obtain ⟨z, hz, hzw⟩ : ∃ z : Int, w2c.cell? ⟨w2b.heap.size, k, none⟩ = some (.int .i64 z) ∧ isWordB z = true := by
    rw [cell_of_row _ _ _ _ _ _ hblk]
    rcases k with _ | _ | k
    · exact ⟨x1, rfl, isWordB_iff.2 (by omega)⟩
    · exact ⟨1001 + x2, rfl, isWordB_iff.2 (by omega)⟩
    · omega
  have X2 := Lib.hid (And.intro hr5 (below_of_within H4'.out.2 hg hg5)); clear hr5 hg5 H4' hblk
  have hs2c := X2.out.2.size
  have hs2d := X2.out.1.size
  have HZ := Lib.hid hzw; clear hzw
  go_wp2_with fail
  refine (WordText_S z _).mono ?_
  rintro e w3 ⟨rfl, hb⟩
  have hs3 := hb.size
  have X3 := Lib.hid (And.intro (X2.out.1.below hb (by omega)) (X2.out.2.trans (hb.mono (by omega)))); clear hb X2 hz
  obtain ⟨S, hS⟩ : ∃ S : ByteArray, (⟨(wordT z).toArray⟩ : ByteArray) = S := ⟨_, rfl⟩
  have hSl : S.size ≤ 5 ∧ 0 < S.size := by
    have h1 := wordT_facts HZ.out
    have h2 := List.length_pos_iff.2 h1.2.1
    rw [← hS, mk_size]; exact ⟨h1.2.2.2, h2⟩
  obtain ⟨hSl, hSp⟩ := hSl
  rw [hS]
  clear hS h10 h11 h20 h21 h51
  go_wp2_with fail
  refine (pick w1 g (0 + 4 + 1 + 1) 3 bs _ X3.out.1 (by omega) (by omega)).mono ?_
  rintro e w4 ⟨x, rfl, hx0, hx1, hr, hw⟩
  have hs4 := hw.size
  have X4 := Lib.hid (And.intro hr (below_of_within X3.out.2 hg hw)); clear hr hw X3
  by_cases hx : x = 0
  · subst hx
    have hSI : (1 : Int) ≤ S.size ∧ (S.size : Int) ≤ 1000000 := by omega
    go_wp2_with fail
    refine (pick w1 g (0 + 4 + 1 + 1 + 1) S.size bs _ X4.out.1 hSI (by omega)).mono ?_
    rintro e w5 ⟨k, rfl, hk0, hk1, hr, hw⟩
    have hs5 := hw.size
    have X5 := Lib.hid (And.intro hr (below_of_within X4.out.2 hg hw)); clear hr hw X4 hSI
    obtain ⟨k, rfl⟩ := Int.eq_ofNat_of_zero_le hk0
    obtain ⟨A, B, hA, hB, hsl1, hsl2⟩ := spoil_parts S k (by omega) (by omega)
    have hw1 : IntKind.i64.wrap ((k : Int) + 1) = (k : Int) + 1 := IntWalk.i64_in _ (by omega)
    clear hk0 hk1 hx0 hx1
    have RA := Lib.hid (X5.out.1.below (((Below.refl w5.heap.size w5).alloc (Nat.le_refl _) (.cells #[.string ⟨#[]⟩, .string ⟨#[48]⟩, .string ⟨#[112]⟩, .string ⟨#[32]⟩] 9)).drew) (by omega))
    have RD := Lib.hid (X5.out.1.below ((Below.refl w5.heap.size w5).drew) (by omega))
    have BW := Lib.hid X5.out.2
    have hg5 := X5.out.1.rdr.lt
    have SN := Lib.hid (fun j hj => spoil_new lits4 9 (j := j) hj lits4_len)
    have SA := Lib.hid (fun w6 j hw hj => spoil_after (ss := lits4) (T := 9) (w5 := w5) (w6 := w6) (g := g) (j := j) hw hg5 hj lits4_len)
    clear X5
    go_wp2
    go_region_with (first
      | (go_at_call 51; refine (pick w1 g (0 + 4 + 1 + 1 + 1 + 1) 4 bs _ RA.out (by omega) (by omega)).mono ?_; rintro e w6 ⟨y, rfl, hy0, hy1, _, hw⟩
         obtain ⟨j, rfl⟩ := Int.eq_ofNat_of_zero_le hy0
         obtain ⟨t, htl, hc⟩ := SA.out w6 j hw (show j < 4 by omega)
         obtain ⟨C, D, hD, ha1, ha2⟩ := add_three A B t (by omega)
         have HD : D.size ≤ 100 := by omega
         have HB := Lib.hid (below_of_within (below_drewA BW.out _) hg hw)
         clear hw hD)
      | (go_at_call 51; refine (pick w1 g (0 + 4 + 1 + 1 + 1 + 1) 4 bs _ RD.out (by omega) (by omega)).mono ?_; rintro e w6 ⟨y, rfl, hy0, hy1, _, hw⟩
         obtain ⟨j, rfl⟩ := Int.eq_ofNat_of_zero_le hy0
         obtain ⟨t, htl, hc⟩ := SN.out j (show j < 4 by omega)
         replace hc : ∀ W : World, (W.alloc (.cells #[.string ⟨#[]⟩, .string ⟨#[48]⟩, .string ⟨#[112]⟩, .string ⟨#[32]⟩] 9)).cell? ⟨W.heap.size, j, none⟩ = some (.string ⟨t.toArray⟩) := hc
         obtain ⟨C, D, hD, ha1, ha2⟩ := add_three A B t (by omega)
         have HD : D.size ≤ 100 := by omega
         have HB := Lib.hid (below_of_within BW.out.drew hg hw)
         clear hw hD)
      | fail)
    all_goals go_wp2
    all_goals go_ret
    all_goals refine ⟨D, rfl, HD, ?_⟩
    all_goals first
      | exact HB.out
      | exact HB.out.alloc HB.out.size _
      | exact below_drewA HB.out _
      | (trace_state; fail)
  · have hxb : (x == 0) = false := by simpa using hx
    clear hx hx0 hx1
    go_wp2
    go_ret
    exact ⟨S, rfl, by omega, X4.out.2⟩
end Go.Proofs.YtaobijmjlkdphaaDoor
