/- Chapter 9: a program with every name replaced, and MeansOf, the program's. -/
import Derived.Test.YtaehaalaeikloaaYl
import Derived.Test.YtaehaalaeikloaaYd
namespace Go.Proofs.Ytaehaalaeikloaa
set_option maxRecDepth 100000
open Go.RowKit Go.WideShapes Go.Maps

def rowQ (d : List (List Int)) (p : List Int) (i : Nat) : List Int := if i < d.length then d.getD i [] else p
theorem rowQ_get {d : List (List Int)} {p : List Int} {i : Nat} (h : i < d.length) : d[i]? = some (rowQ d p i) := by
  rw [rowQ, if_pos h, List.getElem?_eq_getElem h]; simp [List.getD, List.getElem?_eq_getElem h]
theorem rowQ_last (d : List (List Int)) (p : List Int) : rowQ d p d.length = p := by rw [rowQ, if_neg (by omega)]
theorem rowQ_uses {d : List (List Int)} {p : List Int} (h : usesOkB d p = true) {i : Nat} (hi : i ≤ d.length) : usesB i (rowQ d p i) = true := by
  simp only [usesOkB, Bool.and_eq_true] at h
  by_cases hl : i < d.length
  · have := dict_get (dictB_parts h.1).2 (rowQ_get (p := p) hl)
    rwa [Nat.zero_add] at this
  · have : i = d.length := by omega
    subst this
    rw [rowQ_last]; exact h.2
/-- The map's rows at S: each reads as what stands there, and is what it should be; that of the program is of the call's own, if it is short. -/
structure NamesAt (d : List (List Int)) (p : List Int) (w : World) (g N : Nat) (S : Nat → Prop) (st : Nat → Nat) (f : Int → Value) (cur : Nat → List Int) (wr : World) : Prop where
  map : MapAt wr g N f
  rd : ∀ i, S i → i ≤ d.length → RdI wr (f (1101 + (i : Int))) (cur i)
  sim : ∀ i, S i → i ≤ d.length → SimAt (flatsR d) (st i) i (rowQ d p i) (cur i)
  own : nwR (cur d.length) ≤ 60 → OwnI wr g wr.heap.size (f (1101 + (d.length : Int))) (cur d.length)
  below : Below w.heap.size w wr
theorem nm_ik (i : Nat) (h : i ≤ 100) : InK .i64 (1101 + (i : Int)) := wf_near _ (by omega)
section
variable {d : List (List Int)} {p : List Int} {w wr w' : World} {g N : Nat} {S S' : Nat → Prop} {st st' : Nat → Nat} {f : Int → Value} {cur : Nat → List Int}
theorem NamesAt.step (h : NamesAt d p w g N S st f cur wr) (hg : w.heap.size ≤ g) (hb : Below wr.heap.size wr w') : NamesAt d p w g N S st f cur w' :=
  ⟨h.map.below hb, fun i h1 h2 => (h.rd i h1 h2).step hb, h.sim, fun hs => ((h.own hs).below hb).widen hb.size, h.below.trans (hb.mono (by have := h.map.lt; omega))⟩
theorem NamesAt.weak (h : NamesAt d p w g N S st f cur wr) (hS : ∀ i, S' i → i ≤ d.length → S i ∧ st' i = st i) : NamesAt d p w g N S' st' f cur wr :=
  ⟨h.map, fun i h1 h2 => h.rd i (hS i h1 h2).1 h2, fun i h1 h2 => by rw [(hS i h1 h2).2]; exact h.sim i (hS i h1 h2).1 h2, h.own, h.below⟩
theorem NamesAt.put (h : NamesAt d p w g N S st f cur wr) (hg : w.heap.size ≤ g) (k : Nat) (u : Value) (c : List Int)
    (hu : RdI wr u c) (hc : SimAt (flatsR d) (st' k) k (rowQ d p k) c) (ho : k = d.length → nwR c ≤ 60 → OwnI wr g wr.heap.size u c) (hst : ∀ i, S' i → i ≤ d.length → i ≠ k → S i ∧ st' i = st i)
    (hm : MapAt w' g (N + 1) (fun y => if y = 1101 + (k : Int) then u else f y)) (hw : wr.grownBy w' (some g)) :
    NamesAt d p w g (N + 1) S' st' (fun y => if y = 1101 + (k : Int) then u else f y) (fun i => if i = k then c else cur i) w' := by
  refine ⟨hm, fun i h1 h2 => ?_, fun i h1 h2 => ?_, fun hs => ?_, below_map h.below hw (by have := h.map.lt; omega) hg⟩
  · by_cases e : i = k
    · subst e; rw [if_pos rfl, if_pos rfl]; exact hu.off_map h.map hw
    · rw [if_neg (by omega), if_neg e]; exact (h.rd i (hst i h1 h2 e).1 h2).off_map h.map hw
  · by_cases e : i = k
    · subst e; rw [if_pos rfl]; exact hc
    · rw [if_neg e, (hst i h1 h2 e).2]; exact h.sim i (hst i h1 h2 e).1 h2
  · have hsz := hw.size
    by_cases e : d.length = k
    · subst e
      rw [if_pos rfl] at hs
      rw [if_pos rfl, if_pos rfl]
      exact ((ho rfl hs).off_map h.map hw).widen hsz
    · rw [if_neg e] at hs
      rw [if_neg (by omega), if_neg e]
      exact ((h.own hs).off_map h.map hw).widen hsz
theorem NamesAt.drop (h : NamesAt d p w g N S st f cur wr) (hg : w.heap.size ≤ g) (lo : Nat) (hlo : lo < d.length) (hst : ∀ i, S' i → i ≤ d.length → S i ∧ i ≠ lo ∧ st' i = st i)
    (hm : MapAt w' g N (fun y => if y = 1101 + (lo : Int) then .slice none 0 0 else f y)) (hw : wr.grownBy w' (some g)) :
    NamesAt d p w g N S' st' (fun y => if y = 1101 + (lo : Int) then .slice none 0 0 else f y) cur w' := by
  refine ⟨hm, fun i h1 h2 => ?_, fun i h1 h2 => ?_, fun hs => ?_, below_map h.below hw (by have := h.map.lt; omega) hg⟩
  · obtain ⟨a, b, _⟩ := hst i h1 h2
    rw [if_neg (by omega)]; exact (h.rd i a h2).off_map h.map hw
  · obtain ⟨a, _, b⟩ := hst i h1 h2
    rw [b]; exact h.sim i a h2
  · rw [if_neg (by omega)]
    exact ((h.own hs).off_map h.map hw).widen hw.size
end
def MeantAt (d : List (List Int)) (p : List Int) (w : World) (e : Ending) (w' : World) : Prop :=
  ∃ u cur, e = .returned u ∧ RdI w' u cur ∧ ((cur = flatR d p ∧ cur.length ≤ 60 ∧ OwnI w' w.heap.size w'.heap.size u cur) ∨ (60 < cur.length ∧ 60 < (flatR d p).length)) ∧ Below w.heap.size w w'
set_option maxHeartbeats 2000000 in
theorem withoutNames_any (v0 : Value) (x0 : List (List Int)) (v1 : Value) (x1 : List Int) (w : World) (h0 : RdS w v0 x0) (h1 : RdI w v1 x1) (hu : usesOkB x0 x1 = true) :
    Calls Try.prog 103 #[v0, v1] w (MeantAt x0 x1 w) := by
  have hq := fun i hi => rowQ_uses (p := x1) hu (i := i) hi
  have hu2 := hu
  simp only [usesOkB, Bool.and_eq_true] at hu2
  have hn6 := (dictB_parts hu2.1).1
  have hl60 := uses_len hu2.2
  have HQ := Lib.hid (And.intro hq (And.intro (dictB_parts hu2.1).2 hu2.2)); clear hq hu2 hu
  have H := Lib.hid (And.intro h0 h1)
  obtain ⟨A, c, rfl, _⟩ := h0
  clear h1
  have hmm := @run_makeMap Try.prog
  have hma := MapAt.made w
  have hba : Below w.heap.size w (w.alloc (.map #[] 0)) := (Below.refl _ _).alloc (Nat.le_refl _) _
  have hsza : (w.alloc (.map #[] 0)).heap.size = w.heap.size + 1 := by simp
  have M0 := Lib.hid (And.intro hma (And.intro hba (And.intro hsza (H.out.2.step hba)))); clear hma hba hsza
  go_enter Try.func103, Try.ntmps103
  go_wp2_with fail
  refine (clone9 _ x1 _ M0.out.2.2.2 (by omega)).mono ?_
  rintro e w1 ⟨u1, rfl, ho1, hb1⟩
  have hgg : w.heap.size < w1.heap.size := by have := hb1.size; have := M0.out.2.2.1; omega
  have ho1' : OwnI w1 w.heap.size w1.heap.size u1 x1 := ⟨ho1.own.mono (by have := M0.out.2.2.1; omega), ho1.lt⟩
  have M1 := Lib.hid (And.intro (M0.out.1.below hb1) (And.intro ho1' (M0.out.2.1.trans (hb1.mono (by have := M0.out.2.2.1; omega))))); clear ho1 ho1' hb1 M0
  have hn6I : (x0.length : Int) ≤ 6 := by omega
  go_wp2_with (refine wpList_put_at rfl _ _ _ (Or.inr rfl) w.heap.size 0 _ (1101 + (x0.length : Int)) u1 rfl rfl rfl (nm_ik _ (by omega)) M1.out.1 (by omega) ?_)
  intro w2 hm2 hg2
  have hN2 : NamesAt x0 x1 w w.heap.size 1 (fun i => i < 0 ∨ i = x0.length) (fun _ => 0) (fun y => if y = 1101 + (x0.length : Int) then u1 else .slice none 0 0) (rowQ x0 x1) w2 := by
    have ho := (M1.out.2.1.off_map M1.out.1 hg2).widen hg2.size
    refine ⟨hm2, fun i h1 h2 => ?_, fun i h1 h2 => SimAt.start (HQ.out.1 i h2), fun _ => ?_, below_map M1.out.2.2 hg2 (by omega) (Nat.le_refl _)⟩
    · have : i = x0.length := by omega
      subst this
      rw [if_pos rfl, rowQ_last]; exact ho.rd
    · rw [if_pos rfl, rowQ_last]; exact ho
  have M2 := Lib.hid hN2; clear hN2 hm2 hg2 M1 hgg
  generalize (fun y => if y = 1101 + (x0.length : Int) then u1 else Value.slice none 0 0) = f0 at *
  go_wp2
  go_loopw [21] (fun i wr => ∃ (k : Nat) (f : Int → Value) (cur : Nat → List Int), k ≤ x0.length ∧ i = .int .i64 k ∧ NamesAt x0 x1 w w.heap.size (1 + k) (fun i => i < k ∨ i = x0.length) (fun _ => 0) f cur wr) (fun i _ => x0.length - (intOf i).toNat)
  case atStart => exact ⟨0, f0, _, Nat.zero_le _, rfl, M2.out⟩
  case round =>
    clear M2
    obtain ⟨k, f, cur, hk, rfl, hna⟩ := hrel
    have M := Lib.hid hna; clear hna
    by_cases hlt : k < x0.length
    · have hkI : (k : Int) < x0.length := by omega
      have hx := rowQ_get (p := x1) hlt
      obtain ⟨b, off, q, rfl, hbq, hcell, hq⟩ := H.out.1.get hx
      replace hcell := (M.out.below.cell (p := ⟨b, off + k, none⟩) hbq).trans hcell
      have hqr := (hq.below M.out.below).rd M.out.below.size
      have R := Lib.hid (And.intro hqr (HQ.out.1 k (by omega))); clear hq hqr hx
      go_wp2_with (at_mapUpdate; refine wpList_put_at rfl _ _ _ (Or.inl rfl) w.heap.size (1 + k) f (1101 + (k : Int)) q rfl rfl rfl (nm_ik k (by omega)) M.out.map (by omega) ?_)
      intro w3 hm3 hg3
      have hnew := M.out.put (S' := fun i => i < k + 1 ∨ i = x0.length) (st' := fun _ => 0) (Nat.le_refl _) k q (rowQ x0 x1 k) R.out.1 (SimAt.start R.out.2) (fun e => by omega) (fun i h1 h2 h3 => ⟨by omega, rfl⟩) hm3 hg3
      have M3 := Lib.hid hnew; clear hnew hm3 hg3 M R
      go_wp2
      go_roundw
      case rel => exact ⟨k + 1, _, _, by omega, by go_num, M3.out⟩
      case measure => simp [intOf]; omega
    · obtain rfl : k = x0.length := by omega
      have hnew : NamesAt x0 x1 w w.heap.size (1 + x0.length) (fun i => 0 ≤ i) (fun _ => 0) f cur wr := M.out.weak fun i h1 h2 => ⟨by omega, rfl⟩
      have M3 := Lib.hid hnew; clear hnew M
      obtain ⟨zw, HZW⟩ : ∃ z, Hid (1101 + (x0.length : Int) = z) := ⟨_, Lib.hid rfl⟩
      rw [HZW.out]
      have hzw1 : 1101 ≤ zw := by have := HZW.out; omega
      have hzw2 : zw ≤ 1107 := by have := HZW.out; omega
      have HW := Lib.hid (flats_words HQ.out.2.1)
      go_wp2
      go_loopw [9] (fun i wr => ∃ (j : Nat) (f : Int → Value) (cur : Nat → List Int) (N : Nat), j ≤ x0.length ∧ N ≤ 10 + 10 * j ∧ i = .int .i64 (1101 + (j : Int)) ∧ NamesAt x0 x1 w w.heap.size N (fun i => j ≤ i) (fun _ => j) f cur wr) (fun i _ => 1107 - (intOf i).toNat)
      case atStart => exact ⟨0, f, cur, _, Nat.zero_le _, by omega, rfl, M3.out⟩
      case round =>
        clear M3
        obtain ⟨j, f, cur, N, hj, hN, rfl, hna⟩ := hrel
        have M := Lib.hid hna; clear hna
        obtain ⟨zj, HZJ⟩ : ∃ z, Hid (1101 + (j : Int) = z) := ⟨_, Lib.hid rfl⟩
        rw [HZJ.out]
        have hzj1 : 1101 ≤ zj := by have := HZJ.out; omega
        have hzj2 : zj ≤ 1107 := by have := HZJ.out; omega
        by_cases hlt : j < x0.length
        · have hzlt : zj < zw := by have := HZJ.out; have := HZW.out; omega
          have hstart : NamesAt x0 x1 w w.heap.size N (fun i => j ≤ i) (fun i => if j < i ∧ i < j + 1 then j + 1 else j) f cur wr := M.out.weak fun i h1 h2 => ⟨h1, by rw [if_neg (by omega)]⟩
          have M1 := Lib.hid hstart; clear hstart M
          go_wp2
          go_loopw [10] (fun i wr => ∃ (i0 : Nat) (f : Int → Value) (cur : Nat → List Int) (N : Nat), j + 1 ≤ i0 ∧ i0 ≤ x0.length + 1 ∧ N ≤ 10 + 10 * j + i0 ∧ i = .int .i64 (1101 + (i0 : Int)) ∧ NamesAt x0 x1 w w.heap.size N (fun i => j ≤ i) (fun i => if j < i ∧ i < i0 then j + 1 else j) f cur wr) (fun i _ => 1109 - (intOf i).toNat)
          case atStart => exact ⟨j + 1, f, cur, N, Nat.le_refl _, by omega, by omega, congrArg (Value.int .i64) (by have := HZJ.out; omega), M1.out⟩
          case round =>
            clear M1
            obtain ⟨i0, f, cur, N, hi1, hi2, hN, rfl, hna⟩ := hrel
            have M := Lib.hid hna; clear hna
            obtain ⟨zi, HZI⟩ : ∃ z, Hid (1101 + (i0 : Int) = z) := ⟨_, Lib.hid rfl⟩
            rw [HZI.out]
            have hzi1 : 1101 ≤ zi := by have := HZI.out; omega
            have hzi2 : zi ≤ 1108 := by have := HZI.out; omega
            by_cases hil : i0 ≤ x0.length
            · have hzle : zi ≤ zw := by have := HZI.out; have := HZW.out; omega
              have r1 := M.out.rd j (Nat.le_refl _) (by omega)
              have r2 := M.out.rd i0 (by omega) hil
              have s1 := M.out.sim j (Nat.le_refl _) (by omega)
              have s2 := M.out.sim i0 (by omega) hil
              rw [if_neg (by omega)] at s1 s2
              have sn := SimAt.next HW.out s1 (part_row HQ.out.2.1 (rowQ_get hlt)) s2
              have l1 := s1.len
              have l2 := s2.len
              rw [HZJ.out] at r1 sn
              rw [HZI.out] at r2
              have hpl : (pbR zj (cur j) (cur i0)).length ≤ 1000000000 := by
                have h1 := pb_len zj (cur j) (cur i0) 121 l1 (by omega)
                have h2 : 121 * (cur i0).length ≤ 121 * 121 := Nat.mul_le_mul_left _ l2
                omega
              have R := Lib.hid (And.intro r1 (And.intro r2 sn)); clear r1 r2 s1 s2 sn
              go_wp2_with (first
                | (at_lookup; refine wpList_look_at rfl _ _ rfl w.heap.size N f zj rfl rfl (wf_near zj (by omega)) M.out.map ?_)
                | (at_lookup; refine wpList_look_at rfl _ _ rfl w.heap.size N f zi rfl rfl (wf_near zi (by omega)) M.out.map ?_)
                | fail)
              refine (putFor_any zj _ _ (cur j) (cur i0) _ R.out.1 R.out.2.1 (by omega) (by omega)).mono ?_
              rintro e w3 ⟨u, rfl, ho, hb⟩
              have hz3 := hb.size
              have hwg : w.heap.size ≤ wr.heap.size := M.out.below.size
              have M3 := Lib.hid (And.intro (M.out.step (Nat.le_refl _) hb) ho); clear ho hb
              go_wp2_with fail
              refine (cutLong_any u _ _ M3.out.2.rd hpl).mono ?_
              rintro e w4 ⟨⟨u2, rfl, hr2, hsame⟩, rfl⟩
              have hown2 : i0 = x0.length → nwR (cutR 0 (pbR zj (cur j) (cur i0))) ≤ 60 → OwnI w3 w.heap.size w3.heap.size u2 (cutR 0 (pbR zj (cur j) (cur i0))) := fun _ hs => by
                have hle : nwR (pbR zj (cur j) (cur i0)) ≤ 60 := by
                  rcases Nat.lt_or_ge 60 (nwR (pbR zj (cur j) (cur i0))) with h | h
                  · have := cut_long (pbR zj (cur j) (cur i0)) 0 (by omega) (by omega); omega
                  · exact h
                rw [hsame hle, cut_same _ 0 (by omega)]
                exact ⟨M3.out.2.own.mono hwg, M3.out.2.lt⟩
              have R2 := Lib.hid (And.intro hr2 (And.intro hown2 R.out.2.2)); clear hr2 hown2 hsame R
              go_wp2_with (at_mapUpdate; refine wpList_put_at rfl _ _ _ (Or.inl rfl) w.heap.size N f zi u2 rfl rfl rfl (wf_near zi (by omega)) M3.out.1.map (by omega) ?_)
              intro w5 hm5 hg5
              rw [← HZI.out] at hm5
              have hnew := M3.out.1.put (S' := fun i => j ≤ i) (st' := fun i => if j < i ∧ i < i0 + 1 then j + 1 else j) (Nat.le_refl _) i0 u2 _ R2.out.1 (by rw [if_pos (by omega)]; exact R2.out.2.2) R2.out.2.1 (fun i h1 h2 h3 => ⟨h1, by
                by_cases h4 : j < i ∧ i < i0
                · rw [if_pos h4, if_pos (by omega)]
                · rw [if_neg h4, if_neg (by omega)]⟩) hm5 hg5
              have M5 := Lib.hid hnew; clear hnew hm5 hg5 M3 R2 M
              go_wp2
              go_roundw
              case rel => exact ⟨i0 + 1, _, _, N + 1, by omega, by omega, by omega, congrArg (Value.int .i64) (by have := HZI.out; omega), M5.out⟩
              case measure => simp [intOf]; omega
            · have hzle : ¬ zi ≤ zw := by have := HZI.out; have := HZW.out; omega
              have hie : i0 = x0.length + 1 := by omega
              have hend : NamesAt x0 x1 w w.heap.size N (fun i => j ≤ i) (fun i => if j < i then j + 1 else j) f cur wr := M.out.weak fun i h1 h2 => ⟨h1, by
                by_cases h4 : j < i
                · rw [if_pos h4, if_pos (by omega)]
                · rw [if_neg h4, if_neg (by omega)]⟩
              have M3 := Lib.hid hend; clear hend M hie
              go_wp2_with (at_delete; refine wpList_del_at rfl _ _ rfl w.heap.size N f zj rfl rfl (wf_near zj (by omega)) M3.out.map ?_)
              intro w5 hm5 hg5
              rw [← HZJ.out] at hm5
              have hnew := M3.out.drop (S' := fun i => j + 1 ≤ i) (st' := fun _ => j + 1) (Nat.le_refl _) j hlt (fun i h1 h2 => ⟨by omega, by omega, by rw [if_pos (by omega)]⟩) hm5 hg5
              have M5 := Lib.hid hnew; clear hnew hm5 hg5 M3
              go_wp2
              go_roundw
              case rel => exact ⟨j + 1, _, _, N, by omega, by omega, congrArg (Value.int .i64) (by have := HZJ.out; omega), M5.out⟩
              case measure => simp [intOf]; omega
        · obtain rfl : j = x0.length := by omega
          have hzle : ¬ zj < zw := by have := HZJ.out; have := HZW.out; omega
          have r1 := M.out.rd x0.length (Nat.le_refl _) (Nat.le_refl _)
          have s1 := M.out.sim x0.length (Nat.le_refl _) (Nat.le_refl _)
          rw [rowQ_last] at s1
          have o1 := M.out.own
          have hdone := s1.done HQ.out.2.2
          rw [HZW.out] at r1 o1
          have hfin : MeantAt x0 x1 w (.returned (f zw)) wr := by
            refine ⟨f zw, cur x0.length, rfl, r1, ?_, M.out.below⟩
            rcases hdone with ⟨h1, h2⟩ | h1
            · have := nw_le (cur x0.length)
              exact .inl ⟨h1, h2, o1 (by omega)⟩
            · exact .inr h1
          have F := Lib.hid hfin; clear hfin hdone r1 s1 o1
          go_wp2_with (at_lookup; refine wpList_look_at rfl _ _ rfl w.heap.size N f zw rfl rfl (wf_near zw (by omega)) M.out.map ?_)
          go_wp2
          go_ret
          exact F.out
end Go.Proofs.Ytaehaalaeikloaa
