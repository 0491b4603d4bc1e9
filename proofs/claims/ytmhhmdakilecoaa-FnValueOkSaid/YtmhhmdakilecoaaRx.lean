/- The program's runner: made out of a rest and values; its values and its words given out. -/
import Derived.Test.YtmhhmdakilecoaaRs
namespace Go.Proofs.Ytmhhmdakilecoaa
set_option maxRecDepth 100000
open Go.RowKit Go.WideShapes

def NewPost (r : List Int) (s : List (List Int)) (w : World) (e : Ending) (w' : World) : Prop := ∃ g, e = .returned (.pointer (some ⟨g, 0, none⟩)) ∧ Run w' w.heap.size g r s.reverse ∧ Below w.heap.size w w'
theorem newRunner_any (v0 v1 : Value) (r : List Int) (s : List (List Int)) (w : World) (h0 : RdI w v0 r) (h1 : RdS w v1 s) (hl : r.length ≤ 500000000) (hs : s.length ≤ 1000) :
    Calls Try.prog 76 #[v0, v1] w (NewPost r s w) := by
  have hb : Below w.heap.size w (w.alloc (.cells #[.slice none 0 0, .slice none 0 0] 80)) := (Below.refl _ _).alloc (Nat.le_refl _) _
  have hrun : Run (w.alloc (.cells #[.slice none 0 0, .slice none 0 0] 80)) w.heap.size w.heap.size [] [] :=
    ⟨_, _, [], Blk.new w _ _, Nat.le_refl _, World.ownsRow_nil _ _ _ _, by simp, rfl, World.ownsRow_nil _ _ _ _, by simp⟩
  have hv0 : Val (w.alloc (.cells #[.slice none 0 0, .slice none 0 0] 80)) w.heap.size v0 r := hrun.below_val (h0.at_.below hb)
  have H := Lib.hid (And.intro hrun (And.intro hv0 hb)); clear hrun hv0 hb h0
  obtain ⟨A, c, rfl, hm, hr⟩ := h1
  have Hr := Lib.hid hr; clear hr
  go_enter Try.func76, Try.ntmps76
  go_wp2_with fail
  refine (ahead_any w.heap.size w.heap.size [] [] v0 r _ H.out.1 H.out.2.1 (by simp; omega)).mono ?_
  rw [List.append_nil]
  rintro e w1 ⟨rfl, q1, q2⟩
  have X := Lib.hid (And.intro q1 (H.out.2.2.trans q2.below)); clear q1 q2 H
  go_wp2
  go_loopw [15] (fun i wr => ∃ k : Nat, k ≤ s.length ∧ i = .int .i64 k ∧ Run wr w.heap.size w.heap.size r (s.take k).reverse ∧ Below w.heap.size w wr) (fun i _ => s.length - (intOf i).toNat)
  case atStart => exact ⟨0, Nat.zero_le _, rfl, by simpa using X.out.1, X.out.2⟩
  case round =>
    clear X
    obtain ⟨k, hk, rfl, hrk, hbk⟩ := hrel
    have X := Lib.hid (And.intro hrk hbk); clear hrk hbk
    by_cases hlt : k < s.length
    · obtain ⟨b, off, rfl, hb, hc⟩ := Hr.out (by omega)
      have hz : s[k]? = some s[k] := List.getElem?_eq_getElem hlt
      have ht : (s.take (k + 1)).reverse = s[k] :: (s.take k).reverse := by rw [List.take_add_one, hz]; simp only [Option.toList_some, List.reverse_append, List.reverse_cons, List.reverse_nil, List.nil_append, List.cons_append]
      obtain ⟨u, hcell, hu⟩ := hc k _ hz
      replace hcell := (X.out.2.cell (p := ⟨b, off + k, none⟩) hb).trans hcell
      have hval := X.out.1.below_val (hu.below X.out.2)
      have Y := Lib.hid (And.intro hval ht); clear hval ht hu hc hz
      generalize s[k] = zs at *
      have hltr := X.out.1.lt
      have hltI : (k : Int) < s.length := by omega
      have hkl : (s.take k).reverse.length ≤ 1000 := by simp; omega
      have Hkl := Lib.hid hkl; clear hkl
      go_wp2_with fail
      refine (pushV w.heap.size w.heap.size r (s.take k).reverse u zs _ X.out.1 Y.out.1 Hkl.out).mono ?_
      rintro e w2 ⟨rfl, q1, q2, _⟩
      rw [← Y.out.2] at q1
      have Z := Lib.hid (And.intro q1 (X.out.2.trans q2.below)); clear q1 q2
      go_wp2
      go_roundw
      case rel => exact ⟨k + 1, by omega, by go_num, Z.out⟩
      case measure => simp [intOf]; omega
    · have hall : s.take k = s := List.take_of_length_le (by omega)
      rw [hall] at X
      clear hall
      go_wp2
      go_ret
      exact ⟨_, rfl, X.out⟩

theorem RunAt.rdS {w : World} {lo g : Nat} {vr vs : Value} {us : List Value} {rest : List Int} {st : List (List Int)} (h : RunAt w lo g vr vs us rest st) : RdS w vs st.reverse := by
  rcases hq : h.vals.2 with ⟨rfl, h0⟩ | ⟨g2, cap, cur, rfl, hb, hh, h1, h2, h3⟩
  · exact ⟨none, 0, by simp [h0], by simp [h0], fun h1 => by simp [h0] at h1⟩
  · refine ⟨_, cap, by rw [List.length_reverse], ?_, fun h4 => ⟨g2, 0, rfl, (h.vals.lt g2 rfl).2, fun j zs hj => ?_⟩⟩
    · rw [List.length_reverse]; unfold maxLen at h2; omega
    · have hjl : j < st.length := by
        rcases Nat.lt_or_ge j st.length with h' | h'
        · exact h'
        · rw [List.getElem?_eq_none (by simpa using h')] at hj; cases hj
      have hu : us[j]? = some (us[j]'(by rw [h.len]; exact hjl)) := List.getElem?_eq_getElem _
      refine ⟨_, ?_, (h.inner j _ zs hu hj).1⟩
      rw [Nat.zero_add, h.vals.cellAt j (by omega), hu]

theorem stackValues_any (lo g : Nat) (rest : List Int) (st : List (List Int)) (w : World) (h : Run w lo g rest st) (hl : st.length ≤ 20) (hv : ∀ v ∈ st, valueB v = true) :
    Calls Try.prog 78 #[.pointer (some ⟨g, 0, none⟩)] w fun e w' => ∃ u, e = .returned u ∧ OwnS w' w.heap.size w'.heap.size u st.reverse ∧ Below w.heap.size w w' := by
  obtain ⟨vr, vs, us, h⟩ := h
  have hg := h.blk.lt
  have hrd := h.rdS
  have c1 := h.blk.cell 1
  simp only [List.getElem?_toArray, List.getElem?_cons_zero, List.getElem?_cons_succ] at c1
  clear h
  have hv2 : ∀ v ∈ st.reverse, 1 ≤ v.length ∧ v.length ≤ 60 := fun v hv' => valueB_len (hv v (by simpa using hv'))
  have hl2 : st.reverse.length ≤ 20 := by simpa using hl
  generalize st.reverse = zss at *
  obtain ⟨A, c, rfl, hm, hr⟩ := hrd
  have Hr := Lib.hid hr; clear hr
  have Hl := Lib.hid hv2; clear hv2 hv
  obtain ⟨i0, hi0, hz0, hz1, hz2⟩ := info_parts rowInfo
  go_enter Try.func78, Try.ntmps78
  go_wp2_with (at_make; refine wpList_make_full _ rfl _ _ _ rfl w.heap.size 23 i0 (.slice none 0 0) 1 Try.underlying29 hi0 hz0 hz1 _ _ _ _ zss.length rfl rfl rfl rfl ?c1 ?c2 ?c3 ?_)
  case c1 => rw [hz2]; omega
  case c2 => unfold maxLen; omega
  case c3 => simp
  intro w1 hown1 hg1
  rw [toList_madeCells_one] at hown1
  have hb1 : Below w.heap.size w w1 := below_of_only hg1 (Nat.le_refl _) (by simp)
  have hlt1 : w.heap.size < w1.heap.size := (hown1.lt w.heap.size rfl).2
  have hs0 := OwnVs.nils hown1
  have hs1 : ∃ vs, OwnVs w1 w.heap.size w1.heap.size (.slice (some ⟨w.heap.size, 0, none⟩) (zss.take 0 ++ List.replicate (zss.length - 0) ([] : List Int)).length zss.length) vs (zss.take 0 ++ List.replicate (zss.length - 0) ([] : List Int)) := ⟨_, by simpa using hs0⟩
  have c2 := (hb1.cell (p := ⟨g, 1, none⟩) hg).trans c1
  have Hs1 := Lib.hid hs1
  clear hown1 hg1 hs0 hs1 c1
  generalize hG : w.heap.size = G at *
  have HG := Lib.hid hG; clear hG
  go_wp2
  go_loopw [19] (fun i wr => ∃ k : Nat, k ≤ zss.length ∧ i = .int .i64 k ∧ G < wr.heap.size ∧ Below G w wr ∧ ∃ vs, OwnVs wr G wr.heap.size (.slice (some ⟨G, 0, none⟩) (zss.take k ++ List.replicate (zss.length - k) ([] : List Int)).length zss.length) vs (zss.take k ++ List.replicate (zss.length - k) ([] : List Int))) (fun i _ => zss.length - (intOf i).toNat)
  case atStart => exact ⟨0, Nat.zero_le _, rfl, hlt1, hb1, Hs1.out⟩
  case round =>
    clear hb1 Hs1 hlt1 c2
    obtain ⟨k, hk, rfl, hgk, hbk, vs, hownk⟩ := hrel
    have Hown := Lib.hid hownk; clear hownk
    by_cases hlt : k < zss.length
    · obtain ⟨b, off, rfl, hb, hc⟩ := Hr.out (by omega)
      have hz : zss[k]? = some zss[k] := List.getElem?_eq_getElem hlt
      obtain ⟨u, hcell, hu⟩ := hc k _ hz
      have hlz := Hl.out _ (List.getElem_mem hlt)
      have hrdu := (hu.below hbk).rd (by omega)
      replace hcell := (hbk.cell (p := ⟨b, off + k, none⟩) (by omega)).trans hcell
      have Hf := Lib.hid (fillS_set zss k hlt)
      have Hfl := Lib.hid (fillS_len zss k hk)
      clear hc hz hu
      generalize zss[k] = zs at *
      obtain ⟨Au, cu, rfl, hiu, _⟩ := hrdu
      obtain ⟨bu, ou, rfl, _, _⟩ := hiu.at_ (by omega)
      have HU := Lib.hid hiu; clear hiu
      have hltI : (k : Int) < zss.length := by omega
      go_wp2_with fail
      refine (Clone_any bu ou cu zs _ HU.out (by omega)).mono ?_
      rintro e w2 ⟨q, rfl, hq, hb2⟩
      have hs2 := hb2.size
      obtain ⟨A', c', rfl, _⟩ := hq.rd
      have hset := Hown.out.set hb2 hq (by omega) (k := k) (by rw [Hfl.out]; exact hlt)
      rw [Hf.out] at hset
      obtain ⟨⟨x, hold⟩, hfr⟩ : (∃ x, w2.cell? ⟨G, k, none⟩ = some x) ∧ w2.frozen? ⟨G, k, none⟩ = false := by
        have hrow : w2.ownsRow G 23 1 _ _ vs := Hown.out.row.kept (row := none) (only_of_below hb2 none) (.inr (by simp [Value.ownBlock]))
        refine ⟨?_, hrow.frozenAt k⟩
        rw [hrow.cellAt k (by rw [Hfl.out]; omega)]
        exact ⟨_, List.getElem?_eq_getElem (by rw [Hown.out.len, Hfl.out]; exact hlt)⟩
      have hex : ∃ vs', OwnVs _ G _ _ vs' (zss.take (k + 1) ++ List.replicate (zss.length - (k + 1)) ([] : List Int)) := ⟨_, hset⟩
      have X := Lib.hid (And.intro (Nat.lt_of_lt_of_le hgk (Nat.le_trans hs2 (Nat.le_of_eq (by simp [World.setCell] : w2.heap.size = (w2.setCell ⟨G, k, none⟩ (.slice A' zs.length c')).heap.size)))) (And.intro ((hbk.trans (hb2.mono (by omega))).setCell (p := ⟨G, k, none⟩) (Nat.le_refl _) (.slice A' zs.length c')) hex))
      clear hset hex hb2 hq
      go_wp2
      go_roundw
      case rel => exact ⟨k + 1, by omega, by go_num, X.out⟩
      case measure => simp [intOf]; omega
    · have hke : zss.take k ++ List.replicate (zss.length - k) ([] : List Int) = zss := by
        rw [List.take_of_length_le (by omega), show zss.length - k = 0 from by omega]; simp
      have Hke := Lib.hid hke; clear hke
      go_wp2
      go_ret
      refine ⟨_, rfl, ⟨vs, ?_⟩, by rw [HG.out]; exact hbk⟩
      have hfin := Hown.out
      rw [Hke.out] at hfin
      rw [HG.out]
      exact hfin
end Go.Proofs.Ytmhhmdakilecoaa
