/- Chapter 9: rows of words cloned; PutBack, the program's and the model's. -/
import Derived.Test.YtaehaalaeikloaaYk
import Derived.Test.YtaehaalaeikloaaYn
import Derived.Test.YtaehaalaeikloaaB4
import Derived.Test.YtaehaalaeikloaaYu
import Derived.Test.YtaehaalaeikloaaSa
namespace Go.Proofs.Ytaehaalaeikloaa
set_option maxRecDepth 100000
open Go.RowKit Go.WideShapes

set_option maxHeartbeats 1000000 in
theorem cloneRows_any (v : Value) (zss : List (List Int)) (w : World) (h : RdS w v zss) (hl2 : zss.length ≤ 100000) (hv2 : ∀ v ∈ zss, v.length ≤ 1000000) :
    Calls Try.prog 99 #[v] w fun e w' => ∃ u, e = .returned u ∧ OwnS w' w.heap.size w'.heap.size u zss ∧ Below w.heap.size w w' := by
  obtain ⟨A, c, rfl, hm, hr⟩ := h
  have Hr := Lib.hid hr; clear hr
  have Hl := Lib.hid hv2; clear hv2
  obtain ⟨i0, hi0, hz0, hz1, hz2⟩ := info_parts rowInfo
  go_enter Try.func99, Try.ntmps99
  go_wp2_with (at_make; refine wpList_make_full _ rfl _ _ _ rfl w.heap.size 23 i0 (.slice none 0 0) 1 Try.underlying51 hi0 hz0 hz1 _ _ _ _ zss.length rfl rfl rfl rfl ?c1 ?c2 ?c3 ?_)
  case c1 => rw [hz2]; omega
  case c2 => unfold maxLen; omega
  case c3 => simp
  intro w1 hown1 hg1
  rw [toList_madeCells_one] at hown1
  have hb1 : Below w.heap.size w w1 := below_of_only hg1 (Nat.le_refl _) (by simp)
  have hlt1 : w.heap.size < w1.heap.size := (hown1.lt w.heap.size rfl).2
  have hs0 := OwnVs.nils hown1
  have hs1 : ∃ vs, OwnVs w1 w.heap.size w1.heap.size (.slice (some ⟨w.heap.size, 0, none⟩) (zss.take 0 ++ List.replicate (zss.length - 0) ([] : List Int)).length zss.length) vs (zss.take 0 ++ List.replicate (zss.length - 0) ([] : List Int)) := ⟨_, by simpa using hs0⟩
  have Hs1 := Lib.hid hs1
  clear hown1 hg1 hs0 hs1
  generalize hG : w.heap.size = G at *
  have HG := Lib.hid hG; clear hG
  go_wp2
  go_loopw [11] (fun i wr => ∃ k : Nat, k ≤ zss.length ∧ i = .int .i64 k ∧ G < wr.heap.size ∧ Below G w wr ∧ ∃ vs, OwnVs wr G wr.heap.size (.slice (some ⟨G, 0, none⟩) (zss.take k ++ List.replicate (zss.length - k) ([] : List Int)).length zss.length) vs (zss.take k ++ List.replicate (zss.length - k) ([] : List Int))) (fun i _ => zss.length - (intOf i).toNat)
  case atStart => exact ⟨0, Nat.zero_le _, rfl, hlt1, hb1, Hs1.out⟩
  case round =>
    clear hb1 Hs1 hlt1
    obtain ⟨k, hk, rfl, hgk, hbk, vs, hownk⟩ := hrel
    have Hown := Lib.hid hownk; clear hownk
    by_cases hlt : k < zss.length
    · obtain ⟨b, off, rfl, hb, hc⟩ := Hr.out (by omega)
      have hz : zss[k]? = some zss[k] := List.getElem?_eq_getElem hlt
      obtain ⟨u, hcell, hu⟩ := hc k _ hz
      have hlz := Hl.out _ (List.getElem_mem hlt)
      have hrdu := (hu.below hbk).rd (by omega)
      replace hcell := (hbk.cell (p := ⟨b, off + k, none⟩) (by omega)).trans hcell
      have Hf := Lib.hid (fillS_set zss k hlt)
      have Hfl := Lib.hid (fillS_len zss k hk)
      clear hc hz hu
      generalize zss[k] = zs at *
      have HU := Lib.hid hrdu; clear hrdu
      have hltI : (k : Int) < zss.length := by omega
      go_wp2_with fail
      refine (clone9 u zs _ HU.out (by omega)).mono ?_
      rintro e w2 ⟨q, rfl, hq, hb2⟩
      have hs2 := hb2.size
      obtain ⟨A', c', rfl, _⟩ := hq.rd
      have hset := Hown.out.set hb2 hq (by omega) (k := k) (by rw [Hfl.out]; exact hlt)
      rw [Hf.out] at hset
      obtain ⟨⟨x, hold⟩, hfr⟩ : (∃ x, w2.cell? ⟨G, k, none⟩ = some x) ∧ w2.frozen? ⟨G, k, none⟩ = false := by
        have hrow : w2.ownsRow G 23 1 _ _ vs := Hown.out.row.kept (row := none) (only_of_below hb2 none) (.inr (by simp [Value.ownBlock]))
        refine ⟨?_, hrow.frozenAt k⟩
        rw [hrow.cellAt k (by rw [Hfl.out]; omega)]
        exact ⟨_, List.getElem?_eq_getElem (by rw [Hown.out.len, Hfl.out]; exact hlt)⟩
      have hex : ∃ vs', OwnVs _ G _ _ vs' (zss.take (k + 1) ++ List.replicate (zss.length - (k + 1)) ([] : List Int)) := ⟨_, hset⟩
      have X := Lib.hid (And.intro (Nat.lt_of_lt_of_le hgk (Nat.le_trans hs2 (Nat.le_of_eq (by simp [World.setCell] : w2.heap.size = (w2.setCell ⟨G, k, none⟩ (.slice A' zs.length c')).heap.size)))) (And.intro ((hbk.trans (hb2.mono (by omega))).setCell (p := ⟨G, k, none⟩) (Nat.le_refl _) (.slice A' zs.length c')) hex))
      clear hset hex hb2 hq
      go_wp2
      go_roundw
      case rel => exact ⟨k + 1, by omega, by go_num, X.out⟩
      case measure => simp [intOf]; omega
    · have hke : zss.take k ++ List.replicate (zss.length - k) ([] : List Int) = zss := by
        rw [List.take_of_length_le (by omega), show zss.length - k = 0 from by omega]; simp
      have Hke := Lib.hid hke; clear hke
      go_wp2
      go_ret
      refine ⟨_, rfl, ⟨vs, ?_⟩, by rw [HG.out]; exact hbk⟩
      have hfin := Hown.out
      rw [Hke.out] at hfin
      rw [HG.out]
      exact hfin
theorem RdS.takeP {w : World} {A : Option Addr} {c : Nat} {zss : List (List Int)} (h : RdS w (.slice A zss.length c) zss) (n : Nat) (hn : n ≤ zss.length) : RdS w (.slice A n c) (zss.take n) := by
  obtain ⟨A', c', he, hr⟩ := h
  cases he
  have hl : (zss.take n).length = n := by simp; omega
  refine ⟨A, c, by rw [hl], ⟨by have := hr.len; omega, fun h0 => ?_⟩⟩
  obtain ⟨b, off, rfl, hb, hc⟩ := hr.at_ (by omega)
  refine ⟨b, off, rfl, hb, fun j zs hj => hc j zs ?_⟩
  rw [List.getElem?_take] at hj
  by_cases hjn : j < n
  · rwa [if_pos hjn] at hj
  · rw [if_neg hjn] at hj; cases hj
theorem putBack_parts {d : List (List Int)} {p : List Int} (hu : usesOkB d p = true) (h1 : 1 ≤ d.length) : ∃ m q, d.length = m + 1 ∧ d[m]? = some q ∧ usesB m q = true ∧ usesB (m + 1) p = true ∧
    putBackR d p = (if (pbR (1101 + (m : Int)) q p).length ≤ 60 then (d.take m, pbR (1101 + (m : Int)) q p, true) else ([], [], false)) ∧ (∀ r ∈ d.take m, r.length ≤ 60) ∧ m ≤ 5 ∧ q.length ≤ 60 ∧ p.length ≤ 60 := by
  have hu2 := hu
  simp only [usesOkB, Bool.and_eq_true] at hu2
  obtain ⟨m, hm⟩ : ∃ m, d.length = m + 1 := ⟨d.length - 1, by omega⟩
  have hq : d[m]? = some (d[m]'(by omega)) := List.getElem?_eq_getElem (by omega)
  have hdp := dictB_parts hu2.1
  have hqu := dict_get hdp.2 hq
  rw [Nat.zero_add] at hqu
  rw [hm] at hu2
  refine ⟨m, _, hm, hq, hqu, hu2.2, ?_, fun r hr => ?_, by omega, uses_len hqu, uses_len hu2.2⟩
  · unfold putBackR
    have e : d.length - 1 = m := by omega
    have e2 : d.getD m [] = d[m]'(by omega) := by simp [List.getD, hq]
    rw [e, e2]
    by_cases hl : (pbR (1101 + (m : Int)) (d[m]'(by omega)) p).length ≤ 60
    · rw [if_pos ⟨hu, h1, hl⟩, if_pos hl]
    · rw [if_neg (fun h => hl h.2.2), if_neg hl]
  · obtain ⟨j, hj, rfl⟩ := List.mem_iff_getElem.1 (List.mem_of_mem_take hr)
    have := dict_get hdp.2 (List.getElem?_eq_getElem hj)
    exact uses_len this
theorem putBack_no {d : List (List Int)} {p : List Int} (h : usesOkB d p = false ∨ d.length = 0) : putBackR d p = ([], [], false) := by
  unfold putBackR
  rw [if_neg]
  rintro ⟨h1, h2, _⟩
  rcases h with h | h
  · rw [h] at h1; cases h1
  · omega
def BackPost (w : World) (y0 : List (List Int)) (y1 : List Int) (y2 : Bool) (e : Ending) (w' : World) : Prop :=
  ∃ u v, e = .returned (.tuple #[u, v, .bool y2]) ∧ Own2 w' w.heap.size w'.heap.size u y0 v y1 ∧ Below w.heap.size w w'
set_option maxHeartbeats 1000000 in
theorem PutBack_I (v0 : Value) (x0 : List (List Int)) (v1 : Value) (x1 : List Int) (w : World) (h0 : RdS w v0 x0) (hl0 : x0.length ≤ 1048576) (hls0 : szS x0 ≤ 1048576) (h1 : RdI w v1 x1) (hl1 : x1.length ≤ 1048576) (y0 : List (List Int)) (y1 : List Int) (y2 : Bool) (hR : putBackR x0 x1 = (y0, y1, y2)) (hcap : CapV v0) :
    Calls Try.prog 44 #[v0, v1] w (BackPost w y0 y1 y2) := by
  have H := Lib.hid (And.intro h0 h1); clear h1
  obtain ⟨A, c, rfl, hat⟩ := h0
  have HR := Lib.hid hR; clear hR
  by_cases hn0 : x0.length = 0
  · obtain ⟨rfl, rfl, rfl⟩ : [] = y0 ∧ [] = y1 ∧ false = y2 := by have := HR.out; rw [putBack_no (.inr hn0)] at this; cases this; exact ⟨rfl, rfl, rfl⟩
    have hn0I : (x0.length : Int) - 1 < 0 := by omega
    have hfin : BackPost w [] [] false (.returned (.tuple #[.slice none 0 0, .slice none 0 0, .bool false])) w := ⟨_, _, rfl, own2_nil _ _ _ (Nat.le_refl _), Below.refl _ _⟩
    have F := Lib.hid hfin; clear hfin hn0
    go_enter Try.func44, Try.ntmps44
    go_wp2
    go_ret3
    exact F.out
  have hn1 : 1 ≤ x0.length := by omega
  clear hn0
  rcases hd : usesOkB x0 x1 with _ | _ <;> have HD := Lib.hid hd <;> clear hd
  · obtain ⟨rfl, rfl, rfl⟩ : [] = y0 ∧ [] = y1 ∧ false = y2 := by have := HR.out; rw [putBack_no (.inl HD.out)] at this; cases this; exact ⟨rfl, rfl, rfl⟩
    have hn0I : ¬ (x0.length : Int) - 1 < 0 := by omega
    go_enter Try.func44, Try.ntmps44
    go_wp2_with fail
    refine (UsesOk_I _ x0 _ x1 _ H.out.1 hl0 hls0 H.out.2 hl1 false HD.out).mono ?_
    rintro e w1 ⟨rfl, hb⟩
    have hfin : BackPost w [] [] false (.returned (.tuple #[.slice none 0 0, .slice none 0 0, .bool false])) w1 := ⟨_, _, rfl, own2_nil _ _ _ hb.size, hb⟩
    have F := Lib.hid hfin; clear hfin hb
    go_wp2
    go_ret3
    exact F.out
  obtain ⟨m, q, hm, hq, hqu, hpu, hpb, hrl, hm5, hq60, hp60⟩ := putBack_parts HD.out hn1
  have hmI : (x0.length : Int) - 1 = (m : Int) := by omega
  have hm1 : m + 1 ≤ x0.length := Nat.le_of_eq hm.symm
  have hm2 : x0.length ≤ m + 1 := Nat.le_of_eq hm
  have hmc : m ≤ c := by have : x0.length ≤ c := hcap; omega
  have HQ := Lib.hid (And.intro hq (And.intro hpb hrl)); clear hq hpb hrl hm hqu hpu hcap
  have hn0I : ¬ (m : Int) < 0 := by omega
  obtain ⟨b, off, uq, rfl, hbq, hcell, hqr⟩ := H.out.1.get HQ.out.1
  obtain ⟨z, HZ⟩ : ∃ z, Hid (1101 + (m : Int) = z) := ⟨_, Lib.hid rfl⟩
  have hzb : 1101 ≤ z ∧ z ≤ 1106 := by rw [← HZ.out]; omega
  have HQR := Lib.hid (And.intro hqr hcell); clear hqr hcell
  go_enter Try.func44, Try.ntmps44
  go_wp2_with fail
  refine (UsesOk_I _ x0 _ x1 _ H.out.1 hl0 hls0 H.out.2 hl1 true HD.out).mono ?_
  rintro e w1 ⟨rfl, hb⟩
  have hz1 := hb.size
  have hcell1 := (hb.cell (p := ⟨b, off + m, none⟩) hbq).trans HQR.out.2
  have S1 := Lib.hid (And.intro hb (And.intro ((HQR.out.1.below hb).rd hz1) (H.out.2.step hb))); clear hb
  go_wp2_with fail
  rw [HZ.out]
  refine (putFor_any z uq _ q x1 _ S1.out.2.1 S1.out.2.2 (by omega) (by omega)).mono ?_
  rintro e w2 ⟨u, rfl, ho, hb⟩
  have hz2 := hb.size
  rw [← HZ.out] at ho
  have hpb := HQ.out.2.1
  obtain ⟨ps, HP⟩ : ∃ ps, Hid (pbR (1101 + (m : Int)) q x1 = ps) := ⟨_, Lib.hid rfl⟩
  rw [HP.out] at ho hpb
  have hlm := ho.own.len_le
  obtain ⟨U, cu, rfl, _⟩ := ho.rd
  have S2 := Lib.hid (And.intro ho (below_after S1.out.1 hb)); clear ho hb
  rw [HR.out] at hpb
  by_cases hl60 : ps.length ≤ 60
  · rw [if_pos hl60] at hpb
    obtain ⟨rfl, rfl, rfl⟩ : x0.take m = y0 ∧ ps = y1 ∧ true = y2 := by cases hpb; exact ⟨rfl, rfl, rfl⟩
    have hlI : ¬ (60 : Int) < ps.length := by omega
    clear hpb
    have hrd : RdS w2 (.slice (some ⟨b, off, none⟩) x0.length c) x0 := RdS.step H.out.1 S2.out.2
    have S3 := Lib.hid (RdS.takeP hrd m (by omega)); clear hrd
    go_wp2_with fail
    refine (cloneRows_any _ (x0.take m) _ S3.out (by rw [List.length_take]; omega) (fun r hr => by have := HQ.out.2.2 r hr; omega)).mono ?_
    rintro e w3 ⟨uo, rfl, ho3, hb3⟩
    have hz3 := hb3.size
    have hfin : BackPost w (x0.take m) ps true (.returned (.tuple #[uo, .slice U ps.length cu, .bool true])) w3 :=
      ⟨_, _, rfl, ⟨w1.heap.size, w2.heap.size, hz1, hz2, hz3, ho3.behind (by omega) (Nat.le_refl _), S2.out.1.below hb3⟩, below_after S2.out.2 hb3⟩
    have F := Lib.hid hfin; clear hfin ho3 hb3
    go_wp2
    go_ret3
    exact F.out
  · rw [if_neg hl60] at hpb
    obtain ⟨rfl, rfl, rfl⟩ : [] = y0 ∧ [] = y1 ∧ false = y2 := by cases hpb; exact ⟨rfl, rfl, rfl⟩
    have hlI : (60 : Int) < ps.length := by omega
    clear hpb
    have hfin : BackPost w [] [] false (.returned (.tuple #[.slice none 0 0, .slice none 0 0, .bool false])) w2 := ⟨_, _, rfl, own2_nil _ _ _ (by omega), S2.out.2⟩
    have F := Lib.hid hfin; clear hfin
    go_wp2
    go_ret3
    exact F.out
theorem own2_lits {w w1 : World} (h : Below w.heap.size w w1) : Own2 ((w1.alloc (.cells #[] 23)).alloc (.cells #[] 3)) w.heap.size ((w1.alloc (.cells #[] 23)).alloc (.cells #[] 3)).heap.size (.slice (some ⟨w1.heap.size, 0, none⟩) 0 0) [] (.slice (some ⟨w1.heap.size + 1, 0, none⟩) 0 0) [] ∧ Below w.heap.size w ((w1.alloc (.cells #[] 23)).alloc (.cells #[] 3)) := by
  have hz := h.size
  have h1 := litS_nil w1
  have h2 := nilLit (w1.alloc (.cells #[] 23))
  have hs : (w1.alloc (.cells #[] 23)).heap.size = w1.heap.size + 1 := by simp
  have hs2 : ((w1.alloc (.cells #[] 23)).alloc (.cells #[] 3)).heap.size = w1.heap.size + 1 + 1 := by simp
  have hb : Below w1.heap.size w1 ((w1.alloc (.cells #[] 23)).alloc (.cells #[] 3)) := ((Below.refl _ _).alloc (Nat.le_refl _) _).alloc (by simp) _
  rw [hs] at h2
  refine ⟨⟨w1.heap.size + 1, w1.heap.size + 1 + 1, by omega, by omega, by omega, ?_, ⟨h2.1.own, fun q hq => by have := h2.1.lt q hq; omega⟩⟩, h.trans (hb.mono hz)⟩
  obtain ⟨vs, h1⟩ := OwnS.below h1 (w' := (w1.alloc (.cells #[] 23)).alloc (.cells #[] 3)) ((Below.refl _ _).alloc (Nat.le_refl _) _)
  have hv : vs = [] := List.eq_nil_of_length_eq_zero (by rw [h1.len]; rfl)
  subst hv
  refine ⟨[], ⟨rfl, ?_, fun g hg => by have := h1.lt g hg; omega, fun j u zs hu => by simp at hu, fun i j u u' g _ hu => by simp at hu⟩, fun g hg => by have := h1.lt g hg; omega, fun j u hu => by simp at hu⟩
  rcases h1.row.2 with ⟨e, _⟩ | ⟨g, cap, cur, e, hbg, hh⟩
  · cases e
  · exact ⟨h1.row.1, .inr ⟨g, cap, cur, e, by omega, hh⟩⟩
set_option maxHeartbeats 1000000 in
theorem PutBack_S (v0 : Value) (x0 : List (List Int)) (v1 : Value) (x1 : List Int) (w : World) (h0 : RdS w v0 x0) (hl0 : x0.length ≤ 1048576) (hls0 : szS x0 ≤ 1048576) (h1 : RdI w v1 x1) (hl1 : x1.length ≤ 1048576) (y0 : List (List Int)) (y1 : List Int) (y2 : Bool) (hR : putBackR x0 x1 = (y0, y1, y2)) (hcap : CapV v0) :
    Calls Try.prog 47 #[v0, v1] w (BackPost w y0 y1 y2) := by
  have H := Lib.hid (And.intro h0 h1)
  obtain ⟨A, c, rfl, hat⟩ := h0
  obtain ⟨A1, c1, rfl, hi1, _⟩ := h1
  have HJ := Lib.hid hi1; clear hi1
  have HR := Lib.hid hR; clear hR
  rcases hd : usesOkB x0 x1 with _ | _ <;> have HD := Lib.hid hd <;> clear hd
  · obtain ⟨rfl, rfl, rfl⟩ : [] = y0 ∧ [] = y1 ∧ false = y2 := by have := HR.out; rw [putBack_no (.inl HD.out)] at this; cases this; exact ⟨rfl, rfl, rfl⟩
    go_enter Try.func47, Try.ntmps47
    go_wp2_with fail
    refine (UsesOk_S _ x0 _ x1 _ H.out.1 hl0 hls0 H.out.2 hl1 false HD.out).mono ?_
    rintro e w1 ⟨rfl, hb⟩
    have F := Lib.hid (own2_lits hb); clear hb
    go_wp2
    go_ret3
    exact ⟨_, _, rfl, F.out⟩
  by_cases hn0 : x0.length = 0
  · obtain ⟨rfl, rfl, rfl⟩ : [] = y0 ∧ [] = y1 ∧ false = y2 := by have := HR.out; rw [putBack_no (.inr hn0)] at this; cases this; exact ⟨rfl, rfl, rfl⟩
    have hn0I : ((x0.length : Int) == 0) = true := by simp [hn0]
    clear hn0
    go_enter Try.func47, Try.ntmps47
    go_wp2_with fail
    refine (UsesOk_S _ x0 _ x1 _ H.out.1 hl0 hls0 H.out.2 hl1 true HD.out).mono ?_
    rintro e w1 ⟨rfl, hb⟩
    have F := Lib.hid (own2_lits hb); clear hb
    go_wp2
    go_ret3
    exact ⟨_, _, rfl, F.out⟩
  have hn1 : 1 ≤ x0.length := by omega
  have hn0I : ((x0.length : Int) == 0) = false := by rw [beq_eq_false_iff_ne]; omega
  clear hn0
  obtain ⟨m, q, hm, hq, hqu, hpu, hpb, hrl, hm5, hq60, hp60⟩ := putBack_parts HD.out hn1
  have hmI : (x0.length : Int) - 1 = (m : Int) := by omega
  have hm1 : m + 1 ≤ x0.length := Nat.le_of_eq hm.symm
  have hm2 : x0.length ≤ m + 1 := Nat.le_of_eq hm
  have hmc : m ≤ c := by have : x0.length ≤ c := hcap; omega
  have hpf := put_fits hqu hpu
  have HQ := Lib.hid (And.intro hq (And.intro hpb (And.intro hrl hpf))); clear hq hpb hrl hm hqu hpu hcap hpf
  obtain ⟨b, off, uq, rfl, hbq, hcell, hqr⟩ := H.out.1.get HQ.out.1
  obtain ⟨z, HZ⟩ : ∃ z, Hid (1101 + (m : Int) = z) := ⟨_, Lib.hid rfl⟩
  have hzb : 1101 ≤ z ∧ z ≤ 1106 := by rw [← HZ.out]; omega
  have HQR := Lib.hid (And.intro hqr hcell); clear hqr hcell
  go_enter Try.func47, Try.ntmps47
  go_wp2_with fail
  refine (UsesOk_S _ x0 _ x1 _ H.out.1 hl0 hls0 H.out.2 hl1 true HD.out).mono ?_
  rintro e w1 ⟨rfl, hb⟩
  have hz1 := hb.size
  have L1 := nilLit w1
  have hzl : (w1.alloc (.cells #[] 3)).heap.size = w1.heap.size + 1 := by simp
  have S1 := Lib.hid (And.intro (hb.trans (L1.2.mono hz1)) L1.1); clear hb L1
  have hmI2 : (m : Int) < x0.length := by omega
  go_wp2
  go_loopw [8, 9] (fun o i wr => ∃ k : Nat, k ≤ x1.length ∧ i = .int .i64 k ∧ w1.heap.size + 1 ≤ wr.heap.size ∧ Below w.heap.size w wr ∧ OwnI wr w1.heap.size wr.heap.size o (pbR z q (x1.take k))) (fun _ i _ => x1.length - (intOf i).toNat)
  case atStart => exact ⟨0, Nat.zero_le _, rfl, by omega, S1.out.1, S1.out.2⟩
  case round =>
    clear S1 hzl
    obtain ⟨k, hk, rfl, hsz, hbk, hown⟩ := hrel
    have X := Lib.hid (And.intro hbk hown); clear hbk hown
    by_cases hlt : k < x1.length
    · have hkI : (k : Int) < x1.length := by omega
      obtain ⟨b1, off1, rfl, hb1, hcc⟩ := HJ.out.at_ (by omega)
      have hcell := (X.out.1.cell (p := ⟨b1, off1 + k, none⟩) hb1).trans (hcc k hlt)
      have hcellq := (X.out.1.cell (p := ⟨b, off + m, none⟩) hbq).trans HQR.out.2
      have hqr := (HQR.out.1.below X.out.1).rd X.out.1.size
      have hwf := HJ.out.wf (x1.getD k 0) (by simp [List.getD, List.getElem?_eq_getElem hlt])
      have hpt := pb_take (nm := z) (W := q) hlt
      have hpl : (pbR z q (x1.take k)).length ≤ 900000000 := by
        have h1 := pb_len z q (x1.take k) 10000 (by omega) (by omega)
        have h2 : (x1.take k).length ≤ 10000 := by rw [List.length_take]; omega
        have h3 : 10000 * (x1.take k).length ≤ 10000 * 10000 := Nat.mul_le_mul_left _ h2
        omega
      have HPT := Lib.hid (And.intro hpt hqr); clear hpt hcc hqr
      have HW := Lib.hid hwf; clear hwf
      generalize x1.getD k 0 = y at *
      by_cases he : y = z
      · have hpt := HPT.out.1
        rw [if_pos he] at hpt
        have HP := Lib.hid hpt; clear hpt
        have heq : (y == 1101 + (m : Int)) = true := by rw [HZ.out]; simpa using he
        clear he
        go_wp2_with (at_builtin; refine wpList_append_V rfl _ _ _ rfl Try.underlying23 intInfo w1.heap.size wr.heap.size _ (pbR z q (x1.take k)) rfl X.out.2 (by omega) _ q rfl HPT.out.2 (by omega) ?_)
        intro v2 w2 ho2 hb2
        have hz2 : w1.heap.size + 1 ≤ w2.heap.size := by have := hb2.size; omega
        have ho3 : OwnI w2 w1.heap.size w2.heap.size v2 (pbR z q (x1.take (k + 1))) := by rw [HP.out]; exact ho2
        have Y := Lib.hid (And.intro (X.out.1.trans (hb2.mono hz1)) ho3); clear ho2 hb2 ho3 X
        go_wp2
        go_roundw
        case rel => exact ⟨k + 1, by omega, by go_num, hz2, Y.out.1, Y.out.2⟩
        case measure => simp [intOf]; omega
      · have hpt := HPT.out.1
        rw [if_neg he] at hpt
        have HP := Lib.hid hpt; clear hpt
        have heq : (y == 1101 + (m : Int)) = false := by rw [HZ.out]; simpa using he
        clear he
        go_wp2_with (at_builtin; refine wpList_append_z rfl _ _ _ rfl Try.underlying23 intInfo y rfl HW.out w1.heap.size wr.heap.size _ _ rfl X.out.2 (by omega) rfl hpl ?_)
        intro v2 w2 ho2 hb2 _
        have hz2 : w1.heap.size + 1 ≤ w2.heap.size := by have := hb2.size; omega
        have ho3 : OwnI w2 w1.heap.size w2.heap.size v2 (pbR z q (x1.take (k + 1))) := by rw [HP.out]; exact ho2
        have Y := Lib.hid (And.intro (X.out.1.trans (hb2.mono hz1)) ho3); clear ho2 hb2 ho3 X
        go_wp2
        go_roundw
        case rel => exact ⟨k + 1, by omega, by go_num, hz2, Y.out.1, Y.out.2⟩
        case measure => simp [intOf]; omega
    · have hke : x1.take k = x1 := List.take_of_length_le (by omega)
      have hown := X.out.2
      rw [hke, ← HZ.out] at hown
      have hpb := HQ.out.2.1
      have hpf := HQ.out.2.2.2
      obtain ⟨ps, HP⟩ : ∃ ps, Hid (pbR (1101 + (m : Int)) q x1 = ps) := ⟨_, Lib.hid rfl⟩
      rw [HP.out] at hown hpb hpf
      have hpsl : ps.length ≤ 1048576 := by
        have h1 := pb_len (1101 + (m : Int)) q x1 60 hq60 (by omega)
        rw [HP.out] at h1
        have h3 : 60 * x1.length ≤ 60 * 60 := Nat.mul_le_mul_left _ hp60
        omega
      have S2 := Lib.hid (And.intro hown X.out.1); clear hown hke
      rw [HR.out] at hpb
      by_cases hl60 : ps.length ≤ 60
      · rw [if_pos hl60] at hpb
        rw [decide_eq_true hl60] at hpf
        obtain ⟨rfl, rfl, rfl⟩ : x0.take m = y0 ∧ ps = y1 ∧ true = y2 := by cases hpb; exact ⟨rfl, rfl, rfl⟩
        clear hpb
        have HPF := Lib.hid hpf; clear hpf
        go_wp2_with fail
        refine (l9Named_any _ ps m _ (by omega) S2.out.1.rd hpsl true HPF.out).mono ?_
        rintro e w2 ⟨rfl, hb2⟩
        have hz2 : wr.heap.size ≤ w2.heap.size := hb2.size
        have hbw : Below w.heap.size w w2 := S2.out.2.trans (hb2.mono (by omega))
        have hrd : RdS w2 (.slice (some ⟨b, off, none⟩) x0.length c) x0 := RdS.step H.out.1 hbw
        have S3 := Lib.hid (And.intro (RdS.takeP hrd m (by omega)) (And.intro (S2.out.1.below hb2) hbw)); clear hrd hb2 hbw
        go_wp2_with fail
        refine (l2Copy_any _ (x0.take m) _ S3.out.1 (by rw [List.length_take]; omega) (fun r hr => by have := HQ.out.2.2.1 r hr; omega)).mono ?_
        rintro e w3 ⟨uo, rfl, ho3, hb3⟩
        have hz3 : w2.heap.size ≤ w3.heap.size := hb3.size
        have hfin : ∀ o, OwnI w2 w1.heap.size wr.heap.size o ps → BackPost w (x0.take m) ps true (.returned (.tuple #[uo, o, .bool true])) w3 := fun o ho =>
          ⟨_, _, rfl, ⟨w1.heap.size, wr.heap.size, hz1, by omega, by omega, ho3.behind (by omega) (by omega), ho.below hb3⟩, S3.out.2.2.trans (hb3.mono (by omega))⟩
        have F := Lib.hid (hfin _ S3.out.2.1); clear hfin ho3 hb3
        go_wp2
        go_ret3
        exact F.out
      · rw [if_neg hl60] at hpb
        rw [decide_eq_false hl60] at hpf
        obtain ⟨rfl, rfl, rfl⟩ : [] = y0 ∧ [] = y1 ∧ false = y2 := by cases hpb; exact ⟨rfl, rfl, rfl⟩
        clear hpb
        have HPF := Lib.hid hpf; clear hpf
        go_wp2_with fail
        refine (l9Named_any _ ps m _ (by omega) S2.out.1.rd hpsl false HPF.out).mono ?_
        rintro e w2 ⟨rfl, hb2⟩
        have hbw : Below w.heap.size w w2 := S2.out.2.trans (hb2.mono (by omega))
        have F := Lib.hid (own2_lits hbw); clear hb2 hbw
        go_wp2
        go_ret3
        exact ⟨_, _, rfl, F.out⟩
end Go.Proofs.Ytaehaalaeikloaa
