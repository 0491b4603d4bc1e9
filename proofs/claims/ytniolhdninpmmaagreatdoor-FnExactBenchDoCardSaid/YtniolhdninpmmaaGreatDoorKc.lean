/- Rows of words cloned by the program: cloneRows. -/
import Derived.Test.YtniolhdninpmmaaGreatDoorYw
import Derived.Test.YtniolhdninpmmaaGreatDoorB4
namespace Go.Proofs.YtniolhdninpmmaaGreatDoor
set_option maxRecDepth 100000
open Go.RowKit Go.WideShapes

set_option maxHeartbeats 1000000 in
theorem cloneRows_any (v : Value) (zss : List (List Int)) (w : World) (h : RdS w v zss) (hl2 : zss.length ≤ 100000) (hv2 : ∀ v ∈ zss, v.length ≤ 1000000) :
    Calls Tryz.prog 98 #[v] w fun e w' => ∃ u, e = .returned u ∧ OwnS w' w.heap.size w'.heap.size u zss ∧ Below w.heap.size w w' := by
  obtain ⟨A, c, rfl, hm, hr⟩ := h
  have Hr := Lib.hid hr; clear hr
  have Hl := Lib.hid hv2; clear hv2
  obtain ⟨i0, hi0, hz0, hz1, hz2⟩ := info_parts rowInfo
  go_enter Tryz.func98, Tryz.ntmps98
  go_wp2_with (at_make; refine wpList_make_full _ rfl _ _ _ rfl w.heap.size 22 i0 (.slice none 0 0) 1 Tryz.underlying55 hi0 hz0 hz1 _ _ _ _ zss.length rfl rfl rfl rfl ?c1 ?c2 ?c3 ?_)
  case c1 => rw [hz2]; omega
  case c2 => unfold maxLen; omega
  case c3 => simp
  intro w1 hown1 hg1
  rw [toList_madeCells_one] at hown1
  have hb1 : Below w.heap.size w w1 := below_of_only hg1 (Nat.le_refl _) (by simp)
  have hlt1 : w.heap.size < w1.heap.size := (hown1.lt w.heap.size rfl).2
  have hs0 := OwnVs.nils hown1
  have hs1 : ∃ vs, OwnVs w1 w.heap.size w1.heap.size (.slice (some ⟨w.heap.size, 0, none⟩) (zss.take 0 ++ List.replicate (zss.length - 0) ([] : List Int)).length zss.length) vs (zss.take 0 ++ List.replicate (zss.length - 0) ([] : List Int)) := ⟨_, by simpa using hs0⟩
  have Hs1 := Lib.hid hs1
  clear hown1 hg1 hs0 hs1
  generalize hG : w.heap.size = G at *
  have HG := Lib.hid hG; clear hG
  go_wp2
  go_loopw [11] (fun i wr => ∃ k : Nat, k ≤ zss.length ∧ i = .int .i64 k ∧ G < wr.heap.size ∧ Below G w wr ∧ ∃ vs, OwnVs wr G wr.heap.size (.slice (some ⟨G, 0, none⟩) (zss.take k ++ List.replicate (zss.length - k) ([] : List Int)).length zss.length) vs (zss.take k ++ List.replicate (zss.length - k) ([] : List Int))) (fun i _ => zss.length - (intOf i).toNat)
  case atStart => exact ⟨0, Nat.zero_le _, rfl, hlt1, hb1, Hs1.out⟩
  case round =>
    clear hb1 Hs1 hlt1
    obtain ⟨k, hk, rfl, hgk, hbk, vs, hownk⟩ := hrel
    have Hown := Lib.hid hownk; clear hownk
    by_cases hlt : k < zss.length
    · obtain ⟨b, off, rfl, hb, hc⟩ := Hr.out (by omega)
      have hz : zss[k]? = some zss[k] := List.getElem?_eq_getElem hlt
      obtain ⟨u, hcell, hu⟩ := hc k _ hz
      have hlz := Hl.out _ (List.getElem_mem hlt)
      have hrdu := (hu.below hbk).rd (by omega)
      replace hcell := (hbk.cell (p := ⟨b, off + k, none⟩) (by omega)).trans hcell
      have Hf := Lib.hid (fillS_set zss k hlt)
      have Hfl := Lib.hid (fillS_len zss k hk)
      clear hc hz hu
      generalize zss[k] = zs at *
      have HU := Lib.hid hrdu; clear hrdu
      have hltI : (k : Int) < zss.length := by omega
      go_wp2_with fail
      refine (clone9 u zs _ HU.out (by omega)).mono ?_
      rintro e w2 ⟨q, rfl, hq, hb2⟩
      have hs2 := hb2.size
      obtain ⟨A', c', rfl, _⟩ := hq.rd
      have hset := Hown.out.set hb2 hq (by omega) (k := k) (by rw [Hfl.out]; exact hlt)
      rw [Hf.out] at hset
      obtain ⟨⟨x, hold⟩, hfr⟩ : (∃ x, w2.cell? ⟨G, k, none⟩ = some x) ∧ w2.frozen? ⟨G, k, none⟩ = false := by
        have hrow : w2.ownsRow G 22 1 _ _ vs := Hown.out.row.kept (row := none) (only_of_below hb2 none) (.inr (by simp [Value.ownBlock]))
        refine ⟨?_, hrow.frozenAt k⟩
        rw [hrow.cellAt k (by rw [Hfl.out]; omega)]
        exact ⟨_, List.getElem?_eq_getElem (by rw [Hown.out.len, Hfl.out]; exact hlt)⟩
      have hex : ∃ vs', OwnVs _ G _ _ vs' (zss.take (k + 1) ++ List.replicate (zss.length - (k + 1)) ([] : List Int)) := ⟨_, hset⟩
      have X := Lib.hid (And.intro (Nat.lt_of_lt_of_le hgk (Nat.le_trans hs2 (Nat.le_of_eq (by simp [World.setCell] : w2.heap.size = (w2.setCell ⟨G, k, none⟩ (.slice A' zs.length c')).heap.size)))) (And.intro ((hbk.trans (hb2.mono (by omega))).setCell (p := ⟨G, k, none⟩) (Nat.le_refl _) (.slice A' zs.length c')) hex))
      clear hset hex hb2 hq
      go_wp2
      go_roundw
      case rel => exact ⟨k + 1, by omega, by go_num, X.out⟩
      case measure => simp [intOf]; omega
    · have hke : zss.take k ++ List.replicate (zss.length - k) ([] : List Int) = zss := by
        rw [List.take_of_length_le (by omega), show zss.length - k = 0 from by omega]; simp
      have Hke := Lib.hid hke; clear hke
      go_wp2
      go_ret
      refine ⟨_, rfl, ⟨vs, ?_⟩, by rw [HG.out]; exact hbk⟩
      have hfin := Hown.out
      rw [Hke.out] at hfin
      rw [HG.out]
      exact hfin
end Go.Proofs.YtniolhdninpmmaaGreatDoor
