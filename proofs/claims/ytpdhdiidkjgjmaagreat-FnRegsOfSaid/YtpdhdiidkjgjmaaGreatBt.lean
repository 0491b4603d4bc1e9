/- Several texts in one. -/
import Derived.Test.YtpdhdiidkjgjmaaGreatHt
import Derived.Test.YtpdhdiidkjgjmaaGreatB6
import Derived.Test.YtpdhdiidkjgjmaaGreatKa
import Derived.Test.YtpdhdiidkjgjmaaGreatRs
import Derived.Test.YtpdhdiidkjgjmaaGreatRq
import Derived.Test.YtpdhdiidkjgjmaaGreatB5
import Derived.BigQuiet
import Derived.Deep.QuietTactic
/- What the laws of the registers call: numbers, sameRegs; what they draw. -/
namespace Go.Proofs.YtpdhdiidkjgjmaaGreat
set_option maxRecDepth 100000
open Go.RowKit Go.WideShapes Go.ChangeShapes Go.Maps Go.Deep

theorem OwnVs.only9 {w w' : World} {lo hi hi' : Nat} {v : Value} {vs : List Value} {zss : List (List Int)} (h : OwnVs w lo hi v vs zss) {r : Option Nat} (hg : w.grownBy w' r) (h0 : v.ownBlock = none ∨ v.ownBlock ≠ r) (h1 : ∀ u ∈ vs, u.ownBlock = none ∨ u.ownBlock ≠ r) (hh : hi ≤ hi') : OwnVs w' lo hi' v vs zss :=
  ⟨h.len, h.row.kept hg h0, fun g e => Nat.lt_of_lt_of_le (h.lt g e) hh, fun j u zs hu hz => ⟨(h.inner j u zs hu hz).own.only hg (h1 u (List.mem_of_getElem? hu)), fun g e => Nat.lt_of_lt_of_le ((h.inner j u zs hu hz).lt g e) hh⟩, h.apart⟩
theorem OwnVs.in9 {w : World} {lo hi : Nat} {v : Value} {vs : List Value} {zss : List (List Int)} (h : OwnVs w lo hi v vs zss) {u : Value} (hu : u ∈ vs) {g : Nat} (e : u.ownBlock = some g) : g < hi := by
  obtain ⟨j, hj⟩ := List.getElem?_of_mem hu
  obtain ⟨hj', _⟩ := List.getElem?_eq_some_iff.1 hj
  exact (h.inner j u _ hj (List.getElem?_eq_getElem (by rw [← h.len]; exact hj'))).lt g e
/-- A row and rows that grow side by side. -/
structure Nu (w : World) (lo : Nat) (v : Value) (zs : List Int) (u : Value) (zss : List (List Int)) : Prop where
  row : Own w lo v zs
  st : ∃ us, OwnVs w lo w.heap.size u us zss ∧ ∀ g, v.ownBlock = some g → u.ownBlock ≠ some g ∧ ∀ x ∈ us, x.ownBlock ≠ some g
theorem Nu.row9 {w wL w' : World} {lo : Nat} {v v' u : Value} {zs zs' : List Int} {zss : List (List Int)} (h : Nu w lo v zs u zss) (hb : Below w.heap.size w wL) (hg : wL.grownBy w' v.ownBlock) (ho : Own w' lo v' zs') (hv : v'.ownBlock = v.ownBlock ∨ v'.ownBlock = some wL.heap.size) : Nu w' lo v' zs' u zss := by
  obtain ⟨us, hu, hap⟩ := h.st
  have hz := hb.size
  have hz2 := hg.size
  refine ⟨ho, us, (hu.below hb).only9 hg ?_ ?_ (by omega), ?_⟩
  · rcases e : v.ownBlock with _ | g
    · rcases e2 : u.ownBlock with _ | k
      · exact .inl rfl
      · exact .inr (by simp)
    · exact .inr (hap g e).1
  · intro x hx
    rcases e : v.ownBlock with _ | g
    · rcases e2 : x.ownBlock with _ | k
      · exact .inl rfl
      · exact .inr (by simp)
    · exact .inr ((hap g e).2 x hx)
  · intro g e
    rcases hv with hv | hv
    · exact hap g (by rw [← hv]; exact e)
    · have hgl : g = wL.heap.size := by rw [hv] at e; injection e with e; exact e.symm
      refine ⟨fun e2 => ?_, fun x hx e2 => ?_⟩
      · have := hu.lt g e2; omega
      · have := hu.in9 hx e2; omega
theorem Nu.st9 {w wL w' : World} {lo a : Nat} {v u u' x : Value} {zs ys : List Int} {zss : List (List Int)} {us : List Value} (hlo : lo ≤ w.heap.size) (hr : Own w lo v zs) (hu : OwnVs w lo w.heap.size u us zss) (hap : ∀ g, v.ownBlock = some g → u.ownBlock ≠ some g ∧ ∀ x ∈ us, x.ownBlock ≠ some g) (hb : Below w.heap.size w wL) (hx : OwnI wL w.heap.size a x ys)
    (hrow : w'.ownsRow lo 23 1 u' (zss.length + 1) (us ++ [x])) (hg : wL.grownBy w' u.ownBlock) (hv : u'.ownBlock = u.ownBlock ∨ u'.ownBlock = some wL.heap.size) : Nu w' lo v zs u' (zss ++ [ys]) := by
  have hz := hb.size
  have hlt : ∀ g, v.ownBlock = some g → g < w.heap.size := fun g e => (hr.ge g e).2
  refine ⟨(hr.below hb).only hg ?_, us ++ [x], (hu.below hb).snoc2 hx hlo (fun k hk hne => hg.block k hk hne) hrow, fun g e => ⟨?_, fun y hy => ?_⟩⟩
  · rcases e : v.ownBlock with _ | g
    · exact .inl rfl
    · exact .inr fun e2 => (hap g e).1 e2.symm
  · have h1 := hlt g e
    rcases hv with hv | hv
    · rw [hv]; exact (hap g e).1
    · rw [hv]; intro e2; injection e2 with e2; omega
  · have h1 := hlt g e
    rcases List.mem_append.1 hy with h2 | h2
    · exact (hap g e).2 y h2
    · simp only [List.mem_singleton] at h2
      subst h2
      intro e2
      have := (hx.own.ge g e2).1
      omega
def NumsPost (w : World) (T : Nat) (e : Ending) (w' : World) : Prop := ∃ u v zs, e = .returned (.tuple #[u, v]) ∧ zs.length = T ∧ RdI w' u zs ∧ RdS w' v (zs.map fun z => [z]) ∧ Below w.heap.size w w'
set_option maxHeartbeats 4000000 in
theorem numbers_any (T : Nat) (n : Int) (w : World) (hT : T ≤ 120) (hn : 0 ≤ n ∧ n ≤ 1048576) :
    Calls Tryz.prog 10 #[.int .i64 T, .int .i64 n] w (NumsPost w T) := by
  have hTI : (T : Int) ≤ 120 := by omega
  have b1 : Below w.heap.size w (w.alloc (.cells #[] 3)) := (Below.refl _ _).alloc (Nat.le_refl _) _
  have b2 : Below (w.heap.size + 1) (w.alloc (.cells #[] 3)) ((w.alloc (.cells #[] 3)).alloc (.cells #[] 23)) := (Below.refl _ _).alloc (by simp) _
  have N0 : Nu ((w.alloc (.cells #[] 3)).alloc (.cells #[] 23)) w.heap.size (.slice (some ⟨w.heap.size, 0, none⟩) 0 0) [] (.slice (some ⟨w.heap.size + 1, 0, none⟩) 0 0) [] := by
    have h1 := (nilLit w).1
    have h2 := OwnS.mono (lo := w.heap.size) (litS_nil (w.alloc (.cells #[] 3))) (by simp)
    simp only [World.size_alloc] at h2
    obtain ⟨us, hu⟩ := h2
    have hl := hu.len
    simp only [List.length_nil, List.length_eq_zero_iff] at hl
    subst hl
    refine ⟨(h1.belowB b2 (by simp)).own, [], by simpa using hu, fun g e => ⟨fun e2 => ?_, by simp⟩⟩
    simp [Value.ownBlock] at e e2
    omega
  have S0 := Lib.hid (And.intro N0 (b1.trans (b2.mono (by omega)))); clear N0 b1 b2
  have hz0 : w.heap.size + 2 ≤ ((w.alloc (.cells #[] 3)).alloc (.cells #[] 23)).heap.size := by simp
  go_enter Tryz.func10, Tryz.ntmps10
  go_wp2
  go_loopw [6, 7, 8] (fun v u kv wr => ∃ (k : Nat) (zs : List Int), kv = .int .i64 k ∧ k ≤ T ∧ zs.length = k ∧ w.heap.size + 2 ≤ wr.heap.size ∧ Nu wr w.heap.size v zs u (zs.map fun z => [z]) ∧ Below w.heap.size w wr) (fun _ _ kv _ => T - (intOf kv).toNat)
  case atStart => exact ⟨0, [], rfl, Nat.zero_le _, rfl, hz0, S0.out.1, S0.out.2⟩
  case round =>
    clear S0 hz0
    obtain ⟨k, zs, rfl, hk, hzk, hsz, q1, q2⟩ := hrel
    obtain ⟨us, hus, hap⟩ := q1.st
    have HK := Lib.hid hzk
    have X := Lib.hid (And.intro q1 (And.intro q2 (And.intro hus hap))); clear q1 q2 hus hap
    by_cases hlt : k < T
    · have hltI : (k : Int) < (T : Int) := by omega
      obtain ⟨s, hs, hs0, hs1⟩ : ∃ s : Int, (k : Int) * (k : Int) = s ∧ 0 ≤ s ∧ s ≤ 14400 := ⟨_, rfl, Int.mul_nonneg (by omega) (by omega), by have := Int.mul_le_mul (show (k : Int) ≤ 120 by omega) (show (k : Int) ≤ 120 by omega) (by omega) (by omega); omega⟩
      have hw1 : IntKind.i64.wrap s = s := IntWalk.i64_in _ (by omega)
      have hw2 : IntKind.i64.wrap (s * 37) = s * 37 := IntWalk.i64_in _ (by omega)
      have hw3 : IntKind.i64.wrap (n * 11) = n * 11 := IntWalk.i64_in _ (by omega)
      have hw4 : IntKind.i64.wrap (s * 37 + n * 11) = s * 37 + n * 11 := IntWalk.i64_in _ (by omega)
      have hw5 : IntKind.i64.wrap (s * 37 + n * 11 + (k : Int)) = s * 37 + n * 11 + (k : Int) := IntWalk.i64_in _ (by omega)
      obtain ⟨t, ht, ht0, ht1⟩ : ∃ t : Int, (s * 37 + n * 11 + (k : Int)).tmod 1000 = t ∧ 0 ≤ t ∧ t ≤ 999 := ⟨_, rfl, by rw [Int.tmod_eq_emod_of_nonneg (by omega)]; omega, by rw [Int.tmod_eq_emod_of_nonneg (by omega)]; omega⟩
      have hw6 : IntKind.i64.wrap t = t := IntWalk.i64_in _ (by omega)
      have hl := lits_own wr [t] (by simp) (by intro z hz; simp only [List.mem_singleton] at hz; subst hz; exact wf_near _ (by omega))
      have hbl : Below wr.heap.size wr (wr.alloc (.cells #[.int .i64 t] 3)) := (Below.refl _ _).alloc (Nat.le_refl _) _
      have hlr : RdI (wr.alloc (.cells #[.int .i64 t] 3)) (.slice (some ⟨wr.heap.size, 0, none⟩) 1 1) [t] := by simpa using hl.rd
      have V := Lib.hid (And.intro hbl (And.intro hlr (X.out.1.row.below hbl))); clear hbl hlr hl
      go_wp2_with (at_builtin; refine wpList_append_K rfl _ _ _ rfl Tryz.underlying23 intInfo w.heap.size _ zs rfl V.out.2.2 (by simp; omega) _ [t] rfl V.out.2.1 (by simp; omega) ?_)
      intro v4 w4 ho4 hg4 hv4
      have hz4 : wr.heap.size + 1 ≤ w4.heap.size := by have := hg4.size; simpa using this
      have hN := X.out.1.row9 V.out.1 hg4 ho4 (by rw [World.size_alloc]; exact hv4)
      have hb4 : Below w.heap.size w w4 := (X.out.2.1.trans (V.out.1.mono (by omega))).trans (below_of_only hg4 (by simp; omega) (fun g e => (X.out.1.row.ge g e).1))
      obtain ⟨us4, hus4, hap4⟩ := hN.st
      obtain ⟨A4, c4, rfl, hi4⟩ := ho4.ints
      obtain ⟨b4, o4, rfl, hbb, hcc⟩ := hi4.1.at_ (by simp)
      have hcell := hcc k (by simp; omega)
      rw [show (zs ++ [t]).getD k 0 = t by simp [List.getD, ← HK.out]] at hcell
      have hl5 := lit_facts (zs := [t]) (show OwnS w4 w.heap.size w4.heap.size _ _ from ⟨us4, hus4⟩) (by simp) (by intro z hz; simp only [List.mem_singleton] at hz; omega)
      simp only [List.map_nil, List.map_cons, List.length_nil, List.length_cons, Nat.zero_add] at hl5
      obtain ⟨_, hl6, hl7, hl8⟩ := hl5
      have hrow4 := (hus4.below hl8).row
      have hlen4 : (zs ++ [t]).length = k + 1 := by simp; omega
      have Y := Lib.hid (And.intro ho4 (And.intro hus4 (And.intro hap4 (And.intro hb4 (And.intro hl6 (And.intro hl7 (And.intro hl8 hrow4))))))); clear ho4 hus4 hap4 hb4 hl6 hl7 hl8 hrow4 hg4 hN V hi4 hcc
      rw [hlen4] at *
      go_wp2_with (at_builtin; refine wpList_append_one rfl _ _ _ rfl w.heap.size 23 (.slice none 0 0) 24 Tryz.underlying34 rowInfo (by omega) rfl _ (zs.map fun z => [z]).length us4 rfl Y.out.2.2.2.2.2.2.2 _ 1 (.slice (some ⟨w4.heap.size, 0, none⟩) 1 1) rfl Y.out.2.2.2.2.2.1 rfl (by simp; omega) (by simp; omega) ?_)
      intro v5 w5 hrow5 hg5 hv5
      have hrow5 : w5.ownsRow w.heap.size 23 1 v5 ((zs.map fun z => [z]).length + 1) (us4 ++ [.slice (some ⟨w4.heap.size, 0, none⟩) 1 1]) := by rw [List.length_map, HK.out]; exact hrow5
      have hz5 : w4.heap.size + 2 ≤ w5.heap.size := by have := hg5.size; simpa using this
      have hN5 := Nu.st9 (by omega) Y.out.1 Y.out.2.1 Y.out.2.2.1 Y.out.2.2.2.2.2.2.1 Y.out.2.2.2.2.1 hrow5 hg5 (by simpa using hv5)
      have hb5 : Below w.heap.size w w5 := (Y.out.2.2.2.1.trans (Y.out.2.2.2.2.2.2.1.mono (by omega))).trans (below_of_only hg5 (by simp; omega) (fun g e => (Y.out.2.1.row.lt g e).1))
      have T5 := Lib.hid (And.intro hN5 hb5); clear hN5 hb5 hg5 hv5 hrow5 Y X
      go_wp2
      go_roundw
      case rel => exact ⟨k + 1, zs ++ [t], by first | rfl | go_num, by omega, by simp; omega, by omega, by simpa using T5.out.1, T5.out.2⟩
      case measure => simp [intOf]; omega
    · obtain rfl : k = T := by omega
      have F := Lib.hid (And.intro X.out.1.row.within.rd (And.intro (OwnS.rd ⟨us, X.out.2.2.1⟩) X.out.2.1)); clear X
      go_wp2
      go_ret2
      exact ⟨_, _, zs, rfl, HK.out, F.out.1, F.out.2.1, F.out.2.2⟩

set_option maxHeartbeats 4000000 in
theorem sameRegs9 (t : Int) (u0 u1 v0 v1 : Value) (ms : List (Int × Int × Int)) (row : List Int) (w : World) (h0 : Rd3 w u0 ms) (h1 : RdI w u1 row) (h2 : Rd3 w v0 ms) (h3 : RdI w v1 row) (hl : ms.length ≤ 1000) :
    Calls Tryz.prog 8 #[.agg #[.int .i64 t, u0, u1], .agg #[.int .i64 t, v0, v1]] w fun e w' => e = .returned (.bool true) ∧ Below w.heap.size w w' := by
  have hb1 : Below w.heap.size w (w.alloc (.cells #[.int .i64 t, u0, u1] 27)) := (Below.refl _ _).alloc (Nat.le_refl _) _
  have k1 := Blk.new w #[.int .i64 t, u0, u1] 27
  obtain ⟨W, hW⟩ : ∃ W, (w.alloc (.cells #[.int .i64 t, u0, u1] 27)).alloc (.cells #[.int .i64 t, v0, v1] 27) = W := ⟨_, rfl⟩
  have hb2 : Below (w.heap.size + 1) (w.alloc (.cells #[.int .i64 t, u0, u1] 27)) W := by rw [← hW]; exact (Below.refl _ _).alloc (by simp) _
  have k2 : Blk W (w.heap.size + 1) #[.int .i64 t, v0, v1] 27 := by
    have := Blk.new (w.alloc (.cells #[.int .i64 t, u0, u1] 27)) #[.int .i64 t, v0, v1] 27
    rw [World.size_alloc, hW] at this
    exact this
  have hb := hb1.trans (hb2.mono (by omega))
  have k1 := k1.below hb2 (by omega)
  have hzW : W.heap.size = w.heap.size + 2 := by rw [← hW]; simp
  have a0 := Rd3.step h0 hb
  have a2 := Rd3.step h2 hb
  have S := Lib.hid (And.intro (h1.step hb) (And.intro (h3.step hb) (And.intro hb (And.intro k1 k2))))
  obtain ⟨A0, c0, rfl, hm0, hr0⟩ := a0
  obtain ⟨A2, c2, rfl, hm2, hr2⟩ := a2
  have Hr0 := Lib.hid hr0
  have Hr2 := Lib.hid hr2
  obtain ⟨A1, c1, rfl, _⟩ := id h1
  obtain ⟨A3, c3, rfl, _⟩ := id h3
  clear h0 h1 h2 h3 hb1 hb2 hb k1 k2 hr0 hr2
  obtain ⟨g0, g1, g2, _, _, _⟩ := blkThree S.out.2.2.2.1
  obtain ⟨e0, e1, e2, _, _, _⟩ := blkThree S.out.2.2.2.2
  go_enter Tryz.func8, Tryz.ntmps8
  go_wp2
  try rw [hW]
  go_loopw [5] (fun kv wr => ∃ k : Nat, k ≤ ms.length ∧ kv = .int .i64 k ∧ Below W.heap.size W wr) (fun kv _ => ms.length - (intOf kv).toNat)
  case atStart => exact ⟨0, Nat.zero_le _, by first | rfl | simp, Below.refl _ _⟩
  case round =>
    obtain ⟨k, hk, rfl, hbl⟩ := hrel
    have g1' := (hbl.cell (p := ⟨w.heap.size, 1, none⟩) (show w.heap.size < W.heap.size by omega)).trans g1
    have g2' := (hbl.cell (p := ⟨w.heap.size, 2, none⟩) (show w.heap.size < W.heap.size by omega)).trans g2
    have e1' := (hbl.cell (p := ⟨w.heap.size + 1, 1, none⟩) (show w.heap.size + 1 < W.heap.size by omega)).trans e1
    have e2' := (hbl.cell (p := ⟨w.heap.size + 1, 2, none⟩) (show w.heap.size + 1 < W.heap.size by omega)).trans e2
    clear g0 g1 g2 e0 e1 e2
    by_cases hlt : k < ms.length
    · obtain ⟨b1, o1, rfl, hb1, hc1⟩ := Hr0.out (by omega)
      obtain ⟨b2, o2, rfl, hb2, hc2⟩ := Hr2.out (by omega)
      obtain ⟨m, hm⟩ : ∃ m, ms[k]? = some m := ⟨ms[k], List.getElem?_eq_getElem hlt⟩
      obtain ⟨t0, t1, t2⟩ := hc1 k m hm
      obtain ⟨r0, r1, r2⟩ := hc2 k m hm
      have x0 := (hbl.cell (p := ⟨b1, o1 + k * 3, none⟩) hb1).trans t0
      have x1 := (hbl.cell (p := ⟨b1, o1 + k * 3 + 1, none⟩) hb1).trans t1
      have x2 := (hbl.cell (p := ⟨b1, o1 + k * 3 + 2, none⟩) hb1).trans t2
      have y0 := (hbl.cell (p := ⟨b2, o2 + k * 3, none⟩) hb2).trans r0
      have y1 := (hbl.cell (p := ⟨b2, o2 + k * 3 + 1, none⟩) hb2).trans r1
      have y2 := (hbl.cell (p := ⟨b2, o2 + k * 3 + 2, none⟩) hb2).trans r2
      clear t0 t1 t2 r0 r1 r2 hc1 hc2
      have hltI : (k : Int) < ms.length := by omega
      have V := Lib.hid hbl; clear hbl hm
      go_wp2
      go_quiet (fail)
      go_wp2
      go_roundw
      case rel => exact ⟨k + 1, by omega, by go_num, below_drewN V.out _⟩
      case measure => simp [intOf]; omega
    · have hltI : ¬ (k : Int) < ms.length := by omega
      have hz := hbl.size
      have V := Lib.hid (And.intro (S.out.1.step hbl) (And.intro (S.out.2.1.step hbl) (S.out.2.2.1.trans (hbl.mono (by omega))))); clear hbl
      go_wp2_with fail
      refine (smI _ _ row row _ V.out.1 V.out.2.1 true (by simp)).mono ?_
      rintro e w7 ⟨rfl, hb⟩
      have U := Lib.hid (V.out.2.2.trans (hb.mono (by omega))); clear hb V
      go_wp2
      go_ret
      exact ⟨rfl, U.out⟩
end Go.Proofs.YtpdhdiidkjgjmaaGreat

/- The draws of FnRegsOf and FnSameRegs. -/
namespace Go.Proofs.YtpdhdiidkjgjmaaGreat
set_option maxRecDepth 100000
open Go.RowKit Go.WideShapes Go.Deep

def DrawnSt (w : World) (e : Ending) (w' : World) : Prop := ∃ u za, e = .returned u ∧ OwnI w' w.heap.size w'.heap.size u za ∧ za.length ≤ 11 ∧ Below w.heap.size w w'
theorem DrawRegsOf_any (v : Value) (zs : List Int) (w : World) (h : RdC w v zs) : Calls Tryz.prog 5 #[v] w (DrawnSt w) := by
  have H := Lib.hid h; clear h
  go_enter Tryz.func5, Tryz.ntmps5
  go_wp2_with fail
  refine (l20Open_any v zs _ H.out).mono ?_
  rintro e w1 ⟨g, bs, rfl, hr, hg, hb⟩
  have hs := hb.size
  have X := Lib.hid (And.intro hr hb); clear hr hb H
  go_wp2_with fail
  refine (straight_any w1 g 0 10 9 bs _ (RS.refl X.out.1) (by omega) (by omega) (by omega)).mono ?_
  rintro e w2 ⟨u, za, p2, rfl, ho, hl, hr2, hp2, hg2⟩
  have Y := Lib.hid (And.intro (below_of_within X.out.2 hg hg2) ho); clear ho hr2 hg2 X
  go_wp2
  go_ret
  exact ⟨u, za, rfl, ⟨Y.out.2.own.mono hs, Y.out.2.lt⟩, hl, Y.out.1⟩
def DrawnPP (w : World) (e : Ending) (w' : World) : Prop :=
  ∃ u za v zb, e = .returned (.tuple #[u, v]) ∧ RdI w' u za ∧ RdI w' v zb ∧ za.length ≤ 11 ∧ zb.length ≤ 11 ∧ Below w.heap.size w w'
set_option maxHeartbeats 4000000 in
theorem DrawSameRegs_any (v : Value) (zs : List Int) (w : World) (h : RdC w v zs) : Calls Tryz.prog 15 #[v] w (DrawnPP w) := by
  have H := Lib.hid h; clear h
  go_enter Tryz.func15, Tryz.ntmps15
  go_wp2_with fail
  refine (l20Open_any v zs _ H.out).mono ?_
  rintro e w0 ⟨g, bs, rfl, hr, hg, hb⟩
  have hs := hb.size
  have hgw := hr.lt
  have X := Lib.hid (And.intro hr hb); clear hr hb H
  go_wp2_with fail
  refine (straight_any w0 g 0 6 12 bs _ (RS.refl X.out.1) (by omega) (by omega) (by omega)).mono ?_
  rintro e w2 ⟨u, za, p2, rfl, ho, hl, hr2, hp2, hg2⟩
  have hz2 : w0.heap.size ≤ w2.heap.size := hg2.size
  have Y := Lib.hid (And.intro hr2 (And.intro hg2 ho)); clear ho hr2 hg2
  obtain ⟨Au, cu, rfl, _⟩ := Y.out.2.2.rd
  go_wp2_with fail
  refine (pick w0 g p2 3 bs _ Y.out.1 (by omega) (by omega)).mono ?_
  rintro e w3 ⟨x, rfl, hx0, hx1, hr3, hg3⟩
  have hz3 : w2.heap.size ≤ w3.heap.size := hg3.size
  have Z := Lib.hid (And.intro hr3 (And.intro (Y.out.2.1.trans hg3) (Y.out.2.2.apart hg3 (.inr (by omega))))); clear hr3 hg3 Y
  rcases (show x = 0 ∨ x = 1 ∨ x = 2 by omega) with rfl | rfl | rfl
  · skip
    have hb4 : Below (w3.heap.size) w3 (w3.alloc (.cells #[] 3)) := (Below.refl _ _).alloc (by simp) _
    have ho4 := lits_own w3 [] (by simp) (by simp)
    have S4 : Hid (RS w0 (w3.alloc (.cells #[] 3)) g bs (p2+1) ∧ Within g (g + 1) w0 (w3.alloc (.cells #[] 3)) ∧ OwnI (w3.alloc (.cells #[] 3)) (w0.heap.size) (w2.heap.size) (.slice Au za.length cu) (za) ∧ OwnI (w3.alloc (.cells #[] 3)) (w3.heap.size) (w3.heap.size + 1) (.slice (some ⟨w3.heap.size, 0, none⟩) 0 0) ([])) := Lib.hid ⟨(Z.out.1).below hb4 (by omega), (Z.out.2.1).then_below hb4 (by omega), (Z.out.2.2).belowB hb4 (by omega), (by simpa using ho4)⟩
    clear Z
    clear hb4 ho4
    go_wp2_with (at_builtin; (refine wpList_append_V rfl _ _ _ rfl Tryz.underlying23 intInfo (w3.heap.size) (w3.heap.size + 1) (.slice (some ⟨w3.heap.size, 0, none⟩) 0 0) ([]) rfl (S4.out.2.2.2) (by first | omega | (simp <;> omega)) (.slice Au za.length cu) (za) rfl (S4.out.2.2.1).rd (by first | omega | (simp <;> omega)) ?_))
    intro c w_5 ho5 hb5
    have hz5 : w3.heap.size + 1 ≤ w_5.heap.size := by have := hb5.size; simpa using this
    have S5 : Hid (RS w0 w_5 g bs (p2+1) ∧ Within g (g + 1) w0 w_5 ∧ OwnI w_5 (w0.heap.size) (w2.heap.size) (.slice Au za.length cu) (za) ∧ OwnI w_5 (w3.heap.size) (w_5.heap.size) c (([]) ++ (za))) := Lib.hid ⟨(S4.out.1).below hb5 (by omega), (S4.out.2.1).then_below hb5 (by omega), (S4.out.2.2.1).belowB hb5 (by omega), (by simpa using ho5)⟩
    clear S4
    clear ho5 hb5
    have hb6 : Below (w_5.heap.size) w_5 (w_5.alloc (.cells #[.int .i64 (1), .int .i64 (1002)] 3)) := (Below.refl _ _).alloc (by simp) _
    have ho6 := lits_own w_5 [1, 1002] (by simp) (by intro z hz; simp only [List.mem_cons, List.not_mem_nil, or_false] at hz; apply wf_near; omega)
    have S6 : Hid (RS w0 (w_5.alloc (.cells #[.int .i64 (1), .int .i64 (1002)] 3)) g bs (p2+1) ∧ Within g (g + 1) w0 (w_5.alloc (.cells #[.int .i64 (1), .int .i64 (1002)] 3)) ∧ OwnI (w_5.alloc (.cells #[.int .i64 (1), .int .i64 (1002)] 3)) (w0.heap.size) (w2.heap.size) (.slice Au za.length cu) (za) ∧ OwnI (w_5.alloc (.cells #[.int .i64 (1), .int .i64 (1002)] 3)) (w3.heap.size) (w_5.heap.size) c (([]) ++ (za)) ∧ OwnI (w_5.alloc (.cells #[.int .i64 (1), .int .i64 (1002)] 3)) (w_5.heap.size) (w_5.heap.size + 1) (.slice (some ⟨w_5.heap.size, 0, none⟩) 2 2) ([1, 1002])) := Lib.hid ⟨(S5.out.1).below hb6 (by omega), (S5.out.2.1).then_below hb6 (by omega), (S5.out.2.2.1).belowB hb6 (by omega), (S5.out.2.2.2).belowB hb6 (by omega), (by simpa using ho6)⟩
    clear S5
    clear hb6 ho6
    go_wp2_with (at_builtin; (refine wpList_append_V rfl _ _ _ rfl Tryz.underlying23 intInfo (w3.heap.size) (w_5.heap.size) c (([]) ++ (za)) rfl (S6.out.2.2.2.1) (by first | omega | (simp <;> omega)) (.slice (some ⟨w_5.heap.size, 0, none⟩) 2 2) ([1, 1002]) rfl (S6.out.2.2.2.2).rd (by first | omega | (simp <;> omega)) ?_))
    intro f w_7 ho7 hb7
    have hz7 : w_5.heap.size + 1 ≤ w_7.heap.size := by have := hb7.size; simpa using this
    have S7 : Hid (RS w0 w_7 g bs (p2+1) ∧ Within g (g + 1) w0 w_7 ∧ OwnI w_7 (w0.heap.size) (w2.heap.size) (.slice Au za.length cu) (za) ∧ OwnI w_7 (w3.heap.size) (w_7.heap.size) f ((([]) ++ (za)) ++ ([1, 1002]))) := Lib.hid ⟨(S6.out.1).below hb7 (by omega), (S6.out.2.1).then_below hb7 (by omega), (S6.out.2.2.1).belowB hb7 (by omega), (by simpa using ho7)⟩
    clear S6
    clear ho7 hb7
    go_wp2
    go_ret2
    exact ⟨_, za, _, _, rfl, (S7.out.2.2.1).rd, (S7.out.2.2.2).rd, by omega, by simp; omega, below_of_within X.out.2 hg S7.out.2.1⟩
  · rcases hR : regsOfR za with ⟨T, ms, row, ok⟩
    have HR := Lib.hid hR; clear hR
    go_wp2_with fail
    refine (RegsOf_S _ za _ Z.out.2.2.rd (by omega) T ms row ok HR.out).mono ?_
    rintro e w4 ⟨u0, u1, rfl, ho, hi, _, hb4⟩
    have hz4 : w3.heap.size ≤ w4.heap.size := hb4.size
    obtain ⟨h3, h1⟩ := rg_forms ho hi
    obtain ⟨Aa, ca, rfl, _⟩ := id h3
    obtain ⟨Ab, cb, rfl, _⟩ := id h1
    have hba : Below w4.heap.size w4 (w4.alloc (.cells #[.int .i64 T, .slice Aa ms.length ca, .slice Ab row.length cb] 27)) := (Below.refl _ _).alloc (Nat.le_refl _) _
    have V := Lib.hid (And.intro ((Z.out.1.below hb4 (by omega)).below hba (by omega)) (And.intro ((Z.out.2.1.then_below hb4 (by omega)).then_below hba (by omega)) ((Z.out.2.2.belowB hb4 (by omega)).belowB hba (by omega)))); clear ho hi h3 h1 hb4 hba Z
    have Hno : Hid (∀ (wx : World), RS w0 wx g bs (p2 + 1) → Within g (g + 1) w0 wx → OwnI wx w0.heap.size w2.heap.size (.slice Au za.length cu) za → w2.heap.size ≤ wx.heap.size → Calls Tryz.prog 20 #[.pointer (some ⟨g, 0, none⟩), .int .i64 6, .int .i64 12] wx fun e w' => ∃ v zb, e = .returned v ∧ RdI w' (.slice Au za.length cu) za ∧ RdI w' v zb ∧ zb.length ≤ 11 ∧ Below w.heap.size w w') := Lib.hid fun wx q1 q2 q3 q4 => by
      refine (straight_any w0 g (p2 + 1) 6 12 bs _ q1 (by omega) (by omega) (by omega)).mono ?_
      rintro e w6 ⟨v, zb, p6, rfl, ho6, hl6, hr6, hp6, hg6⟩
      exact ⟨v, zb, rfl, (q3.apart hg6 (.inr (by omega))).rd, ho6.rd, by omega, below_of_within X.out.2 hg (q2.trans hg6)⟩
    have hzV : w2.heap.size ≤ (w4.alloc (.cells #[.int .i64 T, .slice Aa ms.length ca, .slice Ab row.length cb] 27)).heap.size := by simp; omega
    rcases ok with _ | _
    · go_wp2_with fail
      refine (Hno.out _ V.out.1 V.out.2.1 V.out.2.2 hzV).mono ?_
      rintro e w6 ⟨v, zb, rfl, h6, h7, h8, h9⟩
      have U := Lib.hid (And.intro h6 (And.intro h7 h9)); clear h6 h7 h9 V
      go_wp2
      go_ret2
      exact ⟨_, za, _, zb, rfl, U.out.1, U.out.2.1, by omega, h8, U.out.2.2⟩
    · by_cases hrl : 0 < (row.length : Int)
      · skip
        have hb5 : Below ((w4.heap.size + 1)) (w4.alloc (.cells #[.int .i64 T, .slice Aa ms.length ca, .slice Ab row.length cb] 27)) ((w4.alloc (.cells #[.int .i64 T, .slice Aa ms.length ca, .slice Ab row.length cb] 27)).alloc (.cells #[] 3)) := (Below.refl _ _).alloc (by simp) _
        have ho5 := lits_own (w4.alloc (.cells #[.int .i64 T, .slice Aa ms.length ca, .slice Ab row.length cb] 27)) [] (by simp) (by simp)
        have S5 : Hid (RS w0 ((w4.alloc (.cells #[.int .i64 T, .slice Aa ms.length ca, .slice Ab row.length cb] 27)).alloc (.cells #[] 3)) g bs (p2+1) ∧ Within g (g + 1) w0 ((w4.alloc (.cells #[.int .i64 T, .slice Aa ms.length ca, .slice Ab row.length cb] 27)).alloc (.cells #[] 3)) ∧ OwnI ((w4.alloc (.cells #[.int .i64 T, .slice Aa ms.length ca, .slice Ab row.length cb] 27)).alloc (.cells #[] 3)) (w0.heap.size) (w2.heap.size) (.slice Au za.length cu) (za) ∧ OwnI ((w4.alloc (.cells #[.int .i64 T, .slice Aa ms.length ca, .slice Ab row.length cb] 27)).alloc (.cells #[] 3)) ((w4.heap.size + 1)) ((w4.heap.size + 1) + 1) (.slice (some ⟨(w4.heap.size + 1), 0, none⟩) 0 0) ([])) := Lib.hid ⟨(V.out.1).below hb5 (by omega), (V.out.2.1).then_below hb5 (by omega), (V.out.2.2).belowB hb5 (by omega), (by simpa using ho5)⟩
        clear V
        clear hb5 ho5
        go_wp2_with (at_builtin; (refine wpList_append_V rfl _ _ _ rfl Tryz.underlying23 intInfo ((w4.heap.size + 1)) ((w4.heap.size + 1) + 1) (.slice (some ⟨(w4.heap.size + 1), 0, none⟩) 0 0) ([]) rfl (S5.out.2.2.2) (by first | omega | (simp <;> omega)) (.slice Au za.length cu) (za) rfl (S5.out.2.2.1).rd (by first | omega | (simp <;> omega)) ?_))
        intro c w_6 ho6 hb6
        have hz6 : (w4.heap.size + 1) + 1 ≤ w_6.heap.size := by have := hb6.size; simpa using this
        have S6 : Hid (RS w0 w_6 g bs (p2+1) ∧ Within g (g + 1) w0 w_6 ∧ OwnI w_6 (w0.heap.size) (w2.heap.size) (.slice Au za.length cu) (za) ∧ OwnI w_6 ((w4.heap.size + 1)) (w_6.heap.size) c (([]) ++ (za))) := Lib.hid ⟨(S5.out.1).below hb6 (by omega), (S5.out.2.1).then_below hb6 (by omega), (S5.out.2.2.1).belowB hb6 (by omega), (by simpa using ho6)⟩
        clear S5
        clear ho6 hb6
        have hb7 : Below (w_6.heap.size) w_6 (w_6.alloc (.cells #[.int .i64 (1001), .int .i64 (1002)] 3)) := (Below.refl _ _).alloc (by simp) _
        have ho7 := lits_own w_6 [1001, 1002] (by simp) (by intro z hz; simp only [List.mem_cons, List.not_mem_nil, or_false] at hz; apply wf_near; omega)
        have S7 : Hid (RS w0 (w_6.alloc (.cells #[.int .i64 (1001), .int .i64 (1002)] 3)) g bs (p2+1) ∧ Within g (g + 1) w0 (w_6.alloc (.cells #[.int .i64 (1001), .int .i64 (1002)] 3)) ∧ OwnI (w_6.alloc (.cells #[.int .i64 (1001), .int .i64 (1002)] 3)) (w0.heap.size) (w2.heap.size) (.slice Au za.length cu) (za) ∧ OwnI (w_6.alloc (.cells #[.int .i64 (1001), .int .i64 (1002)] 3)) ((w4.heap.size + 1)) (w_6.heap.size) c (([]) ++ (za)) ∧ OwnI (w_6.alloc (.cells #[.int .i64 (1001), .int .i64 (1002)] 3)) (w_6.heap.size) (w_6.heap.size + 1) (.slice (some ⟨w_6.heap.size, 0, none⟩) 2 2) ([1001, 1002])) := Lib.hid ⟨(S6.out.1).below hb7 (by omega), (S6.out.2.1).then_below hb7 (by omega), (S6.out.2.2.1).belowB hb7 (by omega), (S6.out.2.2.2).belowB hb7 (by omega), (by simpa using ho7)⟩
        clear S6
        clear hb7 ho7
        go_wp2_with (at_builtin; (refine wpList_append_V rfl _ _ _ rfl Tryz.underlying23 intInfo ((w4.heap.size + 1)) (w_6.heap.size) c (([]) ++ (za)) rfl (S7.out.2.2.2.1) (by first | omega | (simp <;> omega)) (.slice (some ⟨w_6.heap.size, 0, none⟩) 2 2) ([1001, 1002]) rfl (S7.out.2.2.2.2).rd (by first | omega | (simp <;> omega)) ?_))
        intro f w_8 ho8 hb8
        have hz8 : w_6.heap.size + 1 ≤ w_8.heap.size := by have := hb8.size; simpa using this
        have S8 : Hid (RS w0 w_8 g bs (p2+1) ∧ Within g (g + 1) w0 w_8 ∧ OwnI w_8 (w0.heap.size) (w2.heap.size) (.slice Au za.length cu) (za) ∧ OwnI w_8 ((w4.heap.size + 1)) (w_8.heap.size) f ((([]) ++ (za)) ++ ([1001, 1002]))) := Lib.hid ⟨(S7.out.1).below hb8 (by omega), (S7.out.2.1).then_below hb8 (by omega), (S7.out.2.2.1).belowB hb8 (by omega), (by simpa using ho8)⟩
        clear S7
        clear ho8 hb8
        go_wp2
        go_ret2
        exact ⟨_, za, _, _, rfl, (S8.out.2.2.1).rd, (S8.out.2.2.2).rd, by omega, by simp; omega, below_of_within X.out.2 hg S8.out.2.1⟩
      · go_wp2_with fail
        refine (Hno.out _ V.out.1 V.out.2.1 V.out.2.2 hzV).mono ?_
        rintro e w6 ⟨v, zb, rfl, h6, h7, h8, h9⟩
        have U := Lib.hid (And.intro h6 (And.intro h7 h9)); clear h6 h7 h9 V
        go_wp2
        go_ret2
        exact ⟨_, za, _, zb, rfl, U.out.1, U.out.2.1, by omega, h8, U.out.2.2⟩
  · go_wp2_with fail
    refine (straight_any w0 g (p2 + 1) 6 12 bs _ Z.out.1 (by omega) (by omega) (by omega)).mono ?_
    rintro e w6 ⟨v, zb, p6, rfl, ho6, hl6, hr6, hp6, hg6⟩
    have U := Lib.hid (And.intro (Z.out.2.2.apart hg6 (.inr (by omega))).rd (And.intro ho6.rd (below_of_within X.out.2 hg (Z.out.2.1.trans hg6)))); clear ho6 hr6 hg6 Z
    go_wp2
    go_ret2
    exact ⟨_, za, _, zb, rfl, U.out.1, U.out.2.1, by omega, by omega, U.out.2.2⟩
end Go.Proofs.YtpdhdiidkjgjmaaGreat
