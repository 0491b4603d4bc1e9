/- Chapter 9: whether a row is a program with names, the program's (slices.DeleteFunc of a clone, with a closure that captures a number). -/
import Derived.Test.YtaehaalaeikloaaYc
import Derived.Test.YtaehaalaeikloaaYw
namespace Go.Proofs.Ytaehaalaeikloaa
set_option maxRecDepth 100000
open Go.RowKit Go.WideShapes

theorem isName_any (z : Int) (n : Nat) (w : World) (hn : n ≤ 1000000) :
    Calls Try.prog 147 #[.int .i64 z, .int .i64 n] w fun e w' => e = .returned (.bool (nmB n z)) ∧ w = w' := by
  go_enter Try.func147, Try.ntmps147
  by_cases h : 1101 ≤ z
  · by_cases h2 : z < 1101 + (n : Int)
    all_goals
      go_wp2
      go_ret
      exact ⟨ret_bool (by simp [nmB, h, h2]), rfl⟩
  · go_wp2
    go_ret
    exact ⟨ret_bool (by simp [nmB]; omega), rfl⟩
theorem delName_any (z : Int) (n g : Nat) (w : World) (hn : n ≤ 1000000) (hc : w.cell? ⟨g, 0, none⟩ = some (.int .i64 n)) (y : Bool) (hy : nmB n z = y) :
    Calls Try.prog 146 #[.int .i64 z, .pointer (some ⟨g, 0, none⟩)] w fun e w' => e = .returned (.bool y) ∧ w = w' := by
  have HY := Lib.hid hy; clear hy
  go_enter Try.func146, Try.ntmps146
  go_wp2_with fail
  refine (isName_any z n _ hn).mono ?_
  rw [HY.out]
  rintro e w' ⟨rfl, rfl⟩
  go_wp2
  go_ret
  exact ⟨rfl, rfl⟩
theorem kept_none {n : Nat} {zs : List Int} (h : ∀ j, j < zs.length → nmB n (zs.getD j 0) = false) : keptR n zs = zs := by
  unfold keptR
  rw [List.filter_eq_self]
  intro z hz
  obtain ⟨j, hj, rfl⟩ := List.mem_iff_getElem.1 hz
  have := h j hj
  simp only [List.getD, List.getElem?_eq_getElem hj, Option.getD_some] at this
  simp [this]
theorem indexName_any (A : Option Addr) (c : Nat) (zs : List Int) (n g : Nat) (w : World) (hn : n ≤ 1000000) (hcell : w.cell? ⟨g, 0, none⟩ = some (.int .i64 n)) (h : RdI w (.slice A zs.length c) zs) (hm : zs.length ≤ 1000000) :
    Calls Try.prog 133 #[.slice A zs.length c, .func (.func 146) #[] #[.pointer (some ⟨g, 0, none⟩)]] w fun e w' => (∃ x : Int, e = .returned (.int .i64 x) ∧ ((x = -1 ∧ ∀ j, j < zs.length → nmB n (zs.getD j 0) = false) ∨ ∃ k : Nat, x = k ∧ k < zs.length ∧ (∀ j, j < k → nmB n (zs.getD j 0) = false) ∧ nmB n (zs.getD k 0) = true)) ∧ w = w' := by
  obtain ⟨_, _, ei, hi, _⟩ := h
  cases ei
  have HI := Lib.hid hi; clear hi
  have HC := Lib.hid hcell; clear hcell
  go_enter Try.func133, Try.ntmps133
  go_wp2
  go_loop [8] (fun i => ∃ k : Nat, k ≤ zs.length ∧ i = .int .i64 k ∧ ∀ j, j < k → nmB n (zs.getD j 0) = false) (fun i => zs.length - (intOf i).toNat)
  case atStart => exact ⟨0, Nat.zero_le _, rfl, fun j hj => by omega⟩
  case round =>
    obtain ⟨k, hk, rfl, hno⟩ := hrel
    have HN := Lib.hid hno; clear hno
    by_cases hlt : k < zs.length
    · obtain ⟨b, off, rfl, hb, hcc⟩ := HI.out.at_ (by omega)
      have hcell := hcc k hlt
      have hkI : (k : Int) < zs.length := by omega
      obtain ⟨z, HZ⟩ : ∃ z, Hid (zs.getD k 0 = z) := ⟨_, Lib.hid rfl⟩
      rw [HZ.out] at hcell
      clear hcc
      rcases hy : nmB n z with _ | _ <;> have HY := Lib.hid hy <;> clear hy
      · have hno2 : ∀ j, j < k + 1 → nmB n (zs.getD j 0) = false := fun j hj => by
          by_cases e : j = k
          · rw [e, HZ.out]; exact HY.out
          · exact HN.out j (by omega)
        have HN2 := Lib.hid hno2; clear hno2
        go_wp2_with fail
        refine (delName_any z n g _ hn HC.out false HY.out).mono ?_
        rintro e w' ⟨rfl, rfl⟩
        go_wp2
        go_round
        case rel => exact ⟨k + 1, by omega, by go_num, HN2.out⟩
        case measure => simp [intOf]; omega
      · go_wp2_with fail
        refine (delName_any z n g _ hn HC.out true HY.out).mono ?_
        rintro e w' ⟨rfl, rfl⟩
        go_wp2
        go_ret
        exact ⟨⟨_, rfl, .inr ⟨k, rfl, hlt, HN.out, by rw [HZ.out]; exact HY.out⟩⟩, rfl⟩
    · have hall : ∀ j, j < zs.length → nmB n (zs.getD j 0) = false := fun j hj => HN.out j (by omega)
      have HA := Lib.hid hall; clear hall
      go_wp2
      go_ret
      exact ⟨⟨_, rfl, .inl ⟨rfl, HA.out⟩⟩, rfl⟩
theorem OwnI.puts {lo hi g cap : Nat} : ∀ (m o : Nat) (zs : List Int) (w : World), OwnI w lo hi (.slice (some ⟨g, 0, none⟩) zs.length cap) zs →
    ∃ ys, ys.length = zs.length ∧ ys.take o = zs.take o ∧ OwnI (w.setCells g o (List.replicate m (.int .i64 0))) lo hi (.slice (some ⟨g, 0, none⟩) ys.length cap) ys ∧ Within lo hi w (w.setCells g o (List.replicate m (.int .i64 0))) := by
  intro m
  induction m with
  | zero => intro o zs w h; exact ⟨zs, rfl, rfl, h, Within.of_below (Below.refl _ _)⟩
  | succ m ih =>
    intro o zs w h
    obtain ⟨h1, h2⟩ := h.put9 o 0 (wf_near 0 (by omega))
    obtain ⟨ys, y1, y2, y3, y4⟩ := ih (o + 1) _ _ h1
    rw [List.replicate_succ, World.setCells]
    refine ⟨ys, by rw [y1, List.length_set], ?_, y3, h2.trans y4⟩
    have := congrArg (List.take o) y2
    rw [List.take_take, List.take_take, Nat.min_eq_left (by omega), List.take_set_of_le (by omega)] at this
    exact this
def DelAt (n : Nat) (zs : List Int) (lo hi g cap : Nat) (w : World) (k i : Nat) (wr : World) : Prop :=
  ∃ ys, ys.length = zs.length ∧ ys.take i = keptR n (zs.take k) ∧ i = (keptR n (zs.take k)).length ∧ ys.drop k = zs.drop k ∧ OwnI wr lo hi (.slice (some ⟨g, 0, none⟩) ys.length cap) ys ∧ Within lo hi w wr
theorem kept_take {n : Nat} {zs : List Int} {k : Nat} (hk : k < zs.length) : keptR n (zs.take (k + 1)) = keptR n (zs.take k) ++ if nmB n (zs.getD k 0) = true then [] else [zs.getD k 0] := by
  unfold keptR
  rw [List.take_add_one, List.filter_append]
  simp only [List.getElem?_eq_getElem hk, List.getD, Option.getD_some, Option.toList_some]
  rcases h : nmB n zs[k] with _ | _ <;> simp [h]
theorem drop_more {xs ys : List Int} {k : Nat} (h : xs.drop k = ys.drop k) : xs.drop (k + 1) = ys.drop (k + 1) := by
  have := congrArg (List.drop 1) h
  rwa [List.drop_drop, List.drop_drop] at this
theorem get_of_drop {xs ys : List Int} {k : Nat} (h : xs.drop k = ys.drop k) : xs.getD k 0 = ys.getD k 0 := by
  have := congrArg (fun l => l[0]?) h
  simp only [List.getElem?_drop, Nat.add_zero] at this
  simp [List.getD, this]
theorem DelAt.start {n : Nat} {zs : List Int} {lo hi g cap : Nat} {w : World} {k : Nat} (h : OwnI w lo hi (.slice (some ⟨g, 0, none⟩) zs.length cap) zs) (hk : k < zs.length) (h1 : ∀ j, j < k → nmB n (zs.getD j 0) = false) (h2 : nmB n (zs.getD k 0) = true) :
    DelAt n zs lo hi g cap w (k + 1) k w := by
  have hz : keptR n (zs.take k) = zs.take k := kept_none fun j hj => by
    rw [List.length_take] at hj
    have := h1 j (by omega)
    simp only [List.getD, List.getElem?_take, if_pos (show j < k by omega)] at this ⊢
    exact this
  have hl : (keptR n (zs.take (k + 1))).length = k := by
    rw [kept_take hk, h2, hz]; simp; omega
  exact ⟨zs, rfl, by rw [kept_take hk, h2, hz]; simp, hl.symm, rfl, h, Within.of_below (Below.refl _ _)⟩
set_option maxHeartbeats 1000000 in
theorem deleteNames_any (g cap lo hi n gc : Nat) (zs : List Int) (w : World) (hn : n ≤ 1000000) (hcell : w.cell? ⟨gc, 0, none⟩ = some (.int .i64 n)) (hgc : gc < lo) (h : OwnI w lo hi (.slice (some ⟨g, 0, none⟩) zs.length cap) zs) (hm : zs.length ≤ 1000) :
    Calls Try.prog 145 #[.slice (some ⟨g, 0, none⟩) zs.length cap, .func (.func 146) #[] #[.pointer (some ⟨gc, 0, none⟩)]] w fun e w' => ∃ u, e = .returned u ∧ RdI w' u (keptR n zs) ∧ Within lo hi w w' := by
  have hhi := h.lt g rfl
  have hgw := (h.own.own.lt g rfl)
  have hcp : zs.length ≤ cap := by
    obtain ⟨_, _, e, _, hc⟩ := h.rd
    cases e; exact hc
  have H := Lib.hid h; clear h
  have HC := Lib.hid hcell; clear hcell
  go_enter Try.func145, Try.ntmps145
  go_wp2_with fail
  refine (indexName_any _ cap zs n gc _ hn HC.out H.out.rd (by omega)).mono ?_
  rintro e w1 ⟨⟨x, rfl, hx⟩, rfl⟩
  rcases hx with ⟨rfl, hno⟩ | ⟨k0, rfl, hk0, hno, hyes⟩
  · have hke := kept_none hno
    have HK := Lib.hid hke; clear hke hno
    go_wp2
    go_ret
    exact ⟨_, rfl, by rw [HK.out]; exact H.out.rd, Within.of_below (Below.refl _ _)⟩
  have hst := DelAt.start H.out hk0 hno hyes
  have HS := Lib.hid hst; clear hst hno hyes
  have hz0 : ((k0 : Int) == -1) = false := by simp
  go_wp2
  go_loopw [5, 6] (fun i j wr => ∃ k m : Nat, k ≤ zs.length ∧ m < k ∧ i = .int .i64 m ∧ j = .int .i64 k ∧ DelAt n zs lo hi g cap w k m wr) (fun _ j _ => zs.length - (intOf j).toNat)
  case atStart => exact ⟨k0 + 1, k0, by omega, by omega, rfl, by go_num, HS.out⟩
  case round =>
    clear HS hz0
    obtain ⟨k, m, hk, hmk, rfl, rfl, hd⟩ := hrel
    have HD := Lib.hid hd; clear hd
    obtain ⟨ys, hyl, ht, hml, hdr, hown, hwi⟩ := HD.out
    have hgc' : wr.cell? ⟨gc, 0, none⟩ = some (.int .i64 n) := by
      have h1 := lt_of_cell HC.out
      have := hwi.block gc h1 (by omega)
      rw [← HC.out]
      unfold World.cell?
      simp only [this]
    by_cases hlt : k < zs.length
    · have hkI : (k : Int) < zs.length := by omega
      have hmI : (m : Int) < zs.length := by omega
      have hge := get_of_drop hdr
      obtain ⟨ck, fk⟩ := hown.cellAt9 k (by omega)
      obtain ⟨cm, fm⟩ := hown.cellAt9 m (by omega)
      have hwk : InK .i64 (ys.getD k 0) := hown.own.wf _ (by rw [List.getD, List.getElem?_eq_getElem (by omega)]; exact List.getElem_mem _)
      have hkt := kept_take (n := n) hlt
      obtain ⟨o1, w1⟩ := hown.put9 m (ys.getD k 0) hwk
      rw [hge] at ck o1 w1
      have hdr1 := drop_more hdr
      rcases hy : nmB n (zs.getD k 0) with _ | _ <;> have HY := Lib.hid hy <;> clear hy
      · rw [HY.out] at hkt
        have hnew : DelAt n zs lo hi g cap w (k + 1) (m + 1) (wr.setCell ⟨g, m, none⟩ (.int .i64 (zs.getD k 0))) := by
          refine ⟨ys.set m (zs.getD k 0), by rw [List.length_set]; exact hyl, ?_, ?_, ?_, o1, hwi.trans w1⟩
          · rw [hkt, List.take_add_one, List.take_set_of_le (Nat.le_refl _), ht, List.getElem?_set_self (by omega)]
            rfl
          · rw [hkt, List.length_append, ← hml]; rfl
          · rw [List.drop_set_of_lt (by omega)]; exact hdr1
        have HN := Lib.hid hnew; clear hnew o1 w1 hwk hkt hdr1 hown hwi hge ht hml hdr HD
        generalize zs.getD k 0 = z at *
        generalize ys.getD m 0 = zm at *
        go_wp2_with fail
        refine (delName_any z n gc _ hn hgc' false HY.out).mono ?_
        rintro e w' ⟨rfl, rfl⟩
        go_wp2
        go_roundw
        case rel => exact ⟨k + 1, m + 1, by omega, by omega, by go_num, by go_num, HN.out⟩
        case measure => simp [intOf]; omega
      · rw [HY.out] at hkt
        have hnew : DelAt n zs lo hi g cap w (k + 1) m wr := by
          refine ⟨ys, hyl, ?_, ?_, hdr1, hown, hwi⟩
          · rw [hkt, ht]; simp
          · rw [hkt, hml]; simp
        have HN := Lib.hid hnew; clear hnew o1 w1 hwk hkt hdr1 hown hwi hge ht hml hdr HD
        generalize zs.getD k 0 = z at *
        go_wp2_with fail
        refine (delName_any z n gc _ hn hgc' true HY.out).mono ?_
        rintro e w' ⟨rfl, rfl⟩
        go_wp2
        go_roundw
        case rel => exact ⟨k + 1, m, by omega, by omega, rfl, by go_num, HN.out⟩
        case measure => simp [intOf]; omega
    · have hke : k = zs.length := by omega
      subst hke
      rw [List.take_length] at ht hml
      have hmI : (m : Int) ≤ zs.length := by omega
      have hmc : m ≤ cap := by omega
      obtain ⟨qs, q1, q2, q3, q4⟩ := OwnI.puts (zs.length - m) m ys wr hown
      have hcl : ∀ ty, (Builtin.clear_ #[23] ty #[.slice (some ⟨g, 0 + m, none⟩) (zs.length - m) (cap - m)]).run Try.prog wr = .ok (.tuple #[]) (wr.setCells g (0 + m) (List.replicate (zs.length - m) (.int .i64 0))) :=
        fun ty => Lib.run_clear_slice wr _ _ ty _ Try.underlying23 (fun w => by rfl) rfl rfl g (0 + m) _ _ (by omega) (fun j hj => by rw [Nat.zero_add, (hown.cellAt9 (m + j) (by omega)).1]; rfl) (fun j hj => by rw [Nat.zero_add]; exact hown.own.own.frozenAt (m + j))
      simp only [Nat.zero_add] at hcl
      have hfin : RdI (wr.setCells g m (List.replicate (zs.length - m) (.int .i64 0))) (.slice (some ⟨g, 0, none⟩) m cap) (keptR n zs) := by
        have := q3.taken9 (n := m) (by omega)
        rwa [q2, ht] at this
      have HF := Lib.hid (And.intro hfin (hwi.trans q4)); clear hfin q1 q2 q3 q4 hwi hown ht hml hdr HD hgc'
      go_wp2
      go_ret
      exact ⟨_, rfl, HF.out.1, HF.out.2⟩
theorem RdI.nilForm {w : World} {A : Option Addr} {zs : List Int} {c : Nat} (h : RdI w (.slice A zs.length c) zs) (hA : A = none) : zs = [] := by
  obtain ⟨_, _, e, hi, _⟩ := h
  cases e
  subst hA
  rcases zs with _ | ⟨z, zs⟩
  · rfl
  · obtain ⟨b, off, e, _⟩ := hi.at_ (by simp); cases e
theorem deleteNil_any (n gc : Nat) (w : World) (hn : n ≤ 1000000) (hcell : w.cell? ⟨gc, 0, none⟩ = some (.int .i64 n)) :
    Calls Try.prog 145 #[.slice none 0 0, .func (.func 146) #[] #[.pointer (some ⟨gc, 0, none⟩)]] w fun e w' => e = .returned (.slice none 0 0) ∧ w = w' := by
  go_enter Try.func145, Try.ntmps145
  go_wp2_with fail
  refine (indexName_any none 0 [] n gc _ hn hcell (nilOwn w w.heap.size w.heap.size).rd (by simp)).mono ?_
  rintro e w1 ⟨⟨x, rfl, hx⟩, rfl⟩
  rcases hx with ⟨rfl, hno⟩ | ⟨k0, rfl, hk0, hno, hyes⟩
  · clear hno
    go_wp2
    go_ret
    exact ⟨rfl, rfl⟩
  · simp at hk0
set_option maxHeartbeats 1000000 in
theorem usesFirst_any (n : Nat) (v : Value) (zs : List Int) (w : World) (hn : n ≤ 1000000) (h : RdI w v zs) (y : Bool) (hy : usesB n zs = y) :
    Calls Try.prog 106 #[.int .i64 n, v] w fun e w' => e = .returned (.bool y) ∧ Below w.heap.size w w' := by
  have hb0 : Below w.heap.size w (w.alloc (.cells #[.int .i64 n] 3)) := (Below.refl _ _).alloc (Nat.le_refl _) _
  have bp := Blk.new w #[.int .i64 n] 3
  have hm := h.len_le
  have H := Lib.hid (And.intro (h.step hb0) (And.intro hb0 bp))
  obtain ⟨A, c, rfl, _⟩ := h
  clear hb0 bp
  have HY := Lib.hid hy; clear hy
  by_cases hl : 60 < zs.length
  · have hlI : (60 : Int) < zs.length := by omega
    obtain rfl : false = y := by rw [← HY.out, uses_kept, if_neg (by omega)]
    go_enter Try.func106, Try.ntmps106
    go_wp2
    go_ret
    exact ⟨rfl, H.out.2.1⟩
  have hlI : ¬ (60 : Int) < zs.length := by omega
  have hv : validB (keptR n zs) = y := by rw [← HY.out, uses_kept, if_pos (by omega)]
  have HV := Lib.hid hv; clear hv HY
  go_enter Try.func106, Try.ntmps106
  go_wp2_with fail
  refine (clone9 _ zs _ H.out.1 (by omega)).mono ?_
  rintro e w1 ⟨u, rfl, ho, hb⟩
  have hz1 : w.heap.size + 1 ≤ w1.heap.size := by have := hb.size; simpa using this
  have hcell := (H.out.2.2.below hb (by simp)).cell 0
  simp only [List.getElem?_toArray, List.getElem?_cons_zero] at hcell
  have ho' : OwnI w1 (w.heap.size + 1) w1.heap.size u zs := by simpa using ho
  have X := Lib.hid (And.intro ho' (And.intro (H.out.2.1.trans (hb.mono (by simp))) hcell)); clear ho hb ho' hcell H
  obtain ⟨U, cu, rfl, _⟩ := X.out.1.rd
  rcases X.out.1.own.own.2 with ⟨e0, h0⟩ | ⟨g, cap, cur, e0, hgb, -⟩
  · have hz : zs = [] := List.eq_nil_of_length_eq_zero h0
    subst hz
    obtain ⟨rfl, rfl⟩ : U = none ∧ cu = 0 := by cases e0; exact ⟨rfl, rfl⟩
    clear e0
    go_wp2_with fail
    refine (deleteNil_any n w.heap.size _ hn X.out.2.2).mono ?_
    rintro e w2 ⟨rfl, rfl⟩
    go_wp2_with fail
    refine (ProgValid_any none 0 [] _ (IntsK.nil _ _ _ _)).mono ?_
    rw [show validB [] = y from HV.out]
    rintro e w3 ⟨rfl, rfl⟩
    go_wp2
    go_ret
    exact ⟨rfl, X.out.2.1⟩
  · obtain ⟨rfl, rfl⟩ : U = some ⟨g, 0, none⟩ ∧ cu = cap := by cases e0; exact ⟨rfl, rfl⟩
    clear e0
    go_wp2_with fail
    refine (deleteNames_any g cu (w.heap.size + 1) w1.heap.size n w.heap.size zs _ hn X.out.2.2 (by omega) X.out.1 (by omega)).mono ?_
    rintro e w2 ⟨u2, rfl, hr, hwi⟩
    have hz2 := hwi.size
    have Y := Lib.hid (And.intro hr (X.out.2.1.trans (hwi.below (by omega) (by omega)))); clear hr hwi
    obtain ⟨A2, c2, rfl, hi2, _⟩ := Y.out.1
    have HI2 := Lib.hid hi2; clear hi2
    go_wp2_with fail
    refine (ProgValid_any A2 c2 (keptR n zs) _ HI2.out).mono ?_
    rw [HV.out]
    rintro e w3 ⟨rfl, rfl⟩
    go_wp2
    go_ret
    exact ⟨rfl, Y.out.2⟩
set_option maxHeartbeats 1000000 in
theorem DictValid_I (v0 : Value) (x0 : List (List Int)) (w : World) (h0 : RdS w v0 x0) (_ : x0.length ≤ 1048576) (_ : szS x0 ≤ 1048576) (y0 : Bool) (hR : dictB x0 = y0) :
    Calls Try.prog 105 #[v0] w fun e w' => e = .returned (.bool y0) ∧ Below w.heap.size w w' := by
  have H := Lib.hid h0
  obtain ⟨A, c, rfl, _⟩ := h0
  have HR := Lib.hid hR; clear hR
  by_cases hl : 6 < x0.length
  · have hlI : (6 : Int) < x0.length := by omega
    obtain rfl : false = y0 := by rw [← HR.out, dictB, decide_eq_false (by omega)]; rfl
    go_enter Try.func105, Try.ntmps105
    go_wp2
    go_ret
    exact ⟨rfl, Below.refl _ _⟩
  have hlI : ¬ (6 : Int) < x0.length := by omega
  have hd : dictFrom 0 x0 = y0 := by rw [← HR.out, dictB, decide_eq_true (by omega)]; rfl
  have HD := Lib.hid hd; clear hd HR
  go_enter Try.func105, Try.ntmps105
  go_wp2
  go_loopw [10] (fun i wr => ∃ k : Nat, k ≤ x0.length ∧ i = .int .i64 k ∧ Below w.heap.size w wr ∧ dictFrom k (x0.drop k) = y0) (fun i _ => x0.length - (intOf i).toNat)
  case atStart => exact ⟨0, Nat.zero_le _, rfl, Below.refl _ _, by rw [List.drop_zero]; exact HD.out⟩
  case round =>
    clear HD
    obtain ⟨k, hk, rfl, hb, hd⟩ := hrel
    have HB := Lib.hid hb; clear hb
    by_cases hlt : k < x0.length
    · have hkI : (k : Int) < x0.length := by omega
      rw [dict_drop hlt] at hd
      have hx : x0[k]? = some x0[k] := List.getElem?_eq_getElem hlt
      obtain ⟨b, off, q, rfl, hbq, hcell, hq⟩ := H.out.get hx
      replace hcell := (HB.out.cell (p := ⟨b, off + k, none⟩) hbq).trans hcell
      have hq' := (hq.below HB.out).rd HB.out.size
      have HD := Lib.hid (And.intro hd hq'); clear hd hq hq' hx
      generalize x0[k] = x at *
      rcases hu : usesB k x with _ | _ <;> have HU := Lib.hid hu <;> clear hu
      · obtain rfl : false = y0 := by rw [← HD.out.1, HU.out]; rfl
        go_wp2_with fail
        refine (usesFirst_any k q x _ (by omega) HD.out.2 false HU.out).mono ?_
        rintro e w' ⟨rfl, hb2⟩
        have HB2 := Lib.hid (HB.out.trans (hb2.mono HB.out.size)); clear hb2
        go_wp2
        go_ret
        exact ⟨rfl, HB2.out⟩
      · have hn : dictFrom (k + 1) (x0.drop (k + 1)) = y0 := by rw [← HD.out.1, HU.out]; rfl
        have HN := Lib.hid hn; clear hn
        go_wp2_with fail
        refine (usesFirst_any k q x _ (by omega) HD.out.2 true HU.out).mono ?_
        rintro e w' ⟨rfl, hb2⟩
        have HB2 := Lib.hid (HB.out.trans (hb2.mono HB.out.size)); clear hb2
        go_wp2
        go_roundw
        case rel => exact ⟨k + 1, by omega, by go_num, HB2.out, HN.out⟩
        case measure => simp [intOf]; omega
    · rw [List.drop_eq_nil_of_le (by omega)] at hd
      obtain rfl : true = y0 := hd
      go_wp2
      go_ret
      exact ⟨rfl, HB.out⟩
set_option maxHeartbeats 1000000 in
theorem UsesOk_I (v0 : Value) (x0 : List (List Int)) (v1 : Value) (x1 : List Int) (w : World) (h0 : RdS w v0 x0) (hl0 : x0.length ≤ 1048576) (hls0 : szS x0 ≤ 1048576) (h1 : RdI w v1 x1) (_ : x1.length ≤ 1048576) (y0 : Bool) (hR : usesOkB x0 x1 = y0) :
    Calls Try.prog 45 #[v0, v1] w fun e w' => e = .returned (.bool y0) ∧ Below w.heap.size w w' := by
  have H := Lib.hid (And.intro h0 h1); clear h1
  obtain ⟨A, c, rfl, _⟩ := h0
  have HR := Lib.hid hR; clear hR
  rcases hd : dictB x0 with _ | _ <;> have HD := Lib.hid hd <;> clear hd
  · obtain rfl : false = y0 := by rw [← HR.out, usesOkB, HD.out]; rfl
    go_enter Try.func45, Try.ntmps45
    go_wp2_with fail
    refine (DictValid_I _ x0 _ H.out.1 hl0 hls0 false HD.out).mono ?_
    rintro e w1 ⟨rfl, hb⟩
    have HB := Lib.hid hb; clear hb
    go_wp2
    go_ret
    exact ⟨rfl, HB.out⟩
  · have hu : usesB x0.length x1 = y0 := by rw [← HR.out, usesOkB, HD.out]; rfl
    have HU := Lib.hid hu; clear hu
    have hln := (dictB_parts HD.out).1
    go_enter Try.func45, Try.ntmps45
    go_wp2_with fail
    refine (DictValid_I _ x0 _ H.out.1 hl0 hls0 true HD.out).mono ?_
    rintro e w1 ⟨rfl, hb⟩
    have HB := Lib.hid hb; clear hb
    go_wp2_with fail
    refine (usesFirst_any x0.length v1 x1 _ (by omega) (H.out.2.step HB.out) y0 HU.out).mono ?_
    rintro e w2 ⟨rfl, hb⟩
    have HB2 := Lib.hid (below_after HB.out hb); clear hb
    go_wp2
    go_ret
    exact ⟨rfl, HB2.out⟩
end Go.Proofs.Ytaehaalaeikloaa
