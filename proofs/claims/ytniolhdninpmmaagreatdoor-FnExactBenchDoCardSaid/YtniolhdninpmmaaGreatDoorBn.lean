/- Several texts in one. -/
import Derived.Test.YtniolhdninpmmaaGreatDoorBp
import Derived.Test.YtniolhdninpmmaaGreatDoorNd
import Derived.Test.YtniolhdninpmmaaGreatDoorBm
import Derived.Test.YtniolhdninpmmaaGreatDoorB5
import Derived.Deep.Fields
import Derived.Test.YtniolhdninpmmaaGreatDoorBo
import Derived.Test.YtniolhdninpmmaaGreatDoorBl
import Derived.Test.YtniolhdninpmmaaGreatDoorBj
import Derived.Test.YtniolhdninpmmaaGreatDoorI
import Derived.Deep.RegionWith
/- The laws' helpers on rows of strings: lengths, copies, comparisons. -/
namespace Go.Proofs.YtniolhdninpmmaaGreatDoor
set_option maxRecDepth 100000
open Go.RowKit Go.WideShapes

def szT : List (List UInt8) → Nat
  | [] => 0
  | s :: r => s.length + szT r
def leftX (n : Int) (ss : List (List UInt8)) : Int := if n - (ss.length : Int) < 0 then -1 else if n - (ss.length : Int) - (szT ss : Int) < 0 then -1 else n - (ss.length : Int) - (szT ss : Int)
theorem leftX_ok {n : Int} {ss : List (List UInt8)} (h : ¬ leftX n ss < 0) : (ss.length : Int) ≤ n ∧ (szT ss : Int) ≤ n ∧ leftX n ss = n - (ss.length : Int) - (szT ss : Int) := by
  unfold leftX at h ⊢
  split at h
  · omega
  · rename_i h1
    split at h
    · omega
    · rename_i h2
      rw [if_neg h1, if_neg h2]; omega
theorem szT_mem {ss : List (List UInt8)} {s : List UInt8} (h : s ∈ ss) : s.length ≤ szT ss := by
  induction ss with
  | nil => cases h
  | cons a r ih =>
    rw [szT]
    rcases List.mem_cons.1 h with rfl | h
    · omega
    · have := ih h; omega
theorem szT_app (a b : List (List UInt8)) : szT (a ++ b) = szT a + szT b := by
  induction a with
  | nil => simp [szT]
  | cons s r ih => rw [List.cons_append, szT, szT, ih]; omega
theorem szT_take_succ {ss : List (List UInt8)} {k : Nat} {s : List UInt8} (h : ss[k]? = some s) : szT (ss.take (k + 1)) = szT (ss.take k) + s.length := by
  rw [List.take_add_one, h, szT_app]; simp [szT]
theorem szT_take_le (ss : List (List UInt8)) (k : Nat) : szT (ss.take k) ≤ szT ss := by
  have := szT_app (ss.take k) (ss.drop k)
  rw [List.take_append_drop] at this; omega

theorem szX_any (v : Value) (ss : List (List UInt8)) (n : Int) (w : World) (h : RdT w v ss) (hn : 0 ≤ n ∧ n ≤ 1048576) (hwf : ∀ s ∈ ss, s.length ≤ 9223372036854775807) :
    Calls Tryz.prog 34 #[v, .int .i64 n] w fun e w' => e = .returned (.int .i64 (leftX n ss)) ∧ w = w' := by
  obtain ⟨A, c, rfl, _, hm, hr⟩ := h
  have Hr := Lib.hid hr; clear hr
  have HW := Lib.hid hwf; clear hwf
  by_cases h0 : n - (ss.length : Int) < 0
  · go_enter Tryz.func34, Tryz.ntmps34
    go_wp2
    go_ret
    exact ⟨ret_i64 (by rw [leftX, if_pos h0]), rfl⟩
  · have Hq : Hid (leftX n ss = if n - (ss.length : Int) - (szT ss : Int) < 0 then -1 else n - (ss.length : Int) - (szT ss : Int)) := Lib.hid (by rw [leftX, if_neg h0])
    go_enter Tryz.func34, Tryz.ntmps34
    go_wp2
    go_loop [1, 5] (fun a i => ∃ k : Nat, k ≤ ss.length ∧ i = .int .i64 k ∧ a = .int .i64 (n - (ss.length : Int) - (szT (ss.take k) : Int)) ∧ 0 ≤ n - (ss.length : Int) - (szT (ss.take k) : Int)) (fun _ i => ss.length - (intOf i).toNat)
    case atStart => exact ⟨0, Nat.zero_le _, rfl, by simp [szT], by simp [szT]; omega⟩
    case round =>
      obtain ⟨k, hk, rfl, rfl, hq⟩ := hrel
      by_cases hlt : k < ss.length
      · obtain ⟨b, off, rfl, hb, hc⟩ := Hr.out (by omega)
        obtain ⟨s, hs⟩ : ∃ s, ss[k]? = some s := ⟨_, List.getElem?_eq_getElem hlt⟩
        have hcell := hc k s hs
        have Hs := Lib.hid (szT_take_succ hs)
        have Hle := Lib.hid (szT_take_le ss (k + 1))
        obtain ⟨S, hS⟩ : ∃ S : ByteArray, (⟨s.toArray⟩ : ByteArray) = S := ⟨_, rfl⟩
        have HSz : Hid (S.size = s.length) := Lib.hid (by rw [← hS]; simp [ByteArray.size])
        have hSm : S.size ≤ 9223372036854775807 := by rw [HSz.out]; exact HW.out s (List.mem_of_getElem? hs)
        rw [hS] at hcell
        clear hc hs hS
        have hltI : (k : Int) < ss.length := by omega
        obtain ⟨t, HT⟩ : ∃ t, Hid (szT (ss.take k) = t) := ⟨_, Lib.hid rfl⟩
        rw [HT.out] at hq ⊢
        by_cases h1 : n - (ss.length : Int) - (t : Int) - (S.size : Int) < 0
        · go_wp2
          go_ret
          exact ⟨ret_i64 (by rw [Hq.out, if_pos (by have h2 := Hle.out; have h3 := HSz.out; rw [Hs.out, HT.out] at h2; omega)]), rfl⟩
        · go_wp2
          go_round
          case rel => exact ⟨k + 1, by omega, by go_num, by rw [Hs.out, HT.out, ← HSz.out]; go_num, by rw [Hs.out, HT.out, ← HSz.out]; omega⟩
          case measure => simp [intOf]; omega
      · have hall : ss.take k = ss := List.take_of_length_le (by omega)
        rw [hall] at hq ⊢
        go_wp2
        go_ret
        exact ⟨ret_i64 (by rw [Hq.out, if_neg (by omega)]), rfl⟩

/-- What has been copied, and what is still empty. -/
def fillT (ss : List (List UInt8)) (k : Nat) : List (List UInt8) := ss.take k ++ List.replicate (ss.length - k) []
theorem fillT_len (ss : List (List UInt8)) (k : Nat) (hk : k ≤ ss.length) : (fillT ss k).length = ss.length := by simp [fillT]; omega
theorem strVals_set9 (ss : List (List UInt8)) (k : Nat) (z : List UInt8) : (strVals ss).set k (.string ⟨z.toArray⟩) = strVals (ss.set k z) := by simp [strVals, List.map_set]
theorem fillT_set {ss : List (List UInt8)} {k : Nat} {s : List UInt8} (h : ss[k]? = some s) : (fillT ss k).set k s = fillT ss (k + 1) := by
  have hk : k < ss.length := by
    rcases Nat.lt_or_ge k ss.length with h1 | h1
    · exact h1
    · rw [List.getElem?_eq_none h1] at h; cases h
  have hl : (ss.take k).length = k := by rw [List.length_take]; omega
  have hrep : List.replicate (ss.length - k) ([] : List UInt8) = [] :: List.replicate (ss.length - (k + 1)) [] := by
    rw [show ss.length - k = (ss.length - (k + 1)) + 1 from by omega, List.replicate_succ]
  rw [fillT, fillT, hrep, List.set_append_right _ _ (by omega), hl, Nat.sub_self, List.set_cons_zero, List.take_add_one, h]
  simp only [Option.toList_some, List.append_assoc, List.cons_append, List.nil_append]
theorem fillT_get {ss : List (List UInt8)} {k : Nat} (h : k < ss.length) : (strVals (fillT ss k))[k]? = some (.string ⟨#[]⟩) := by
  have hl : (ss.take k).length = k := by rw [List.length_take]; omega
  rw [strVals, List.getElem?_map, fillT, List.getElem?_append_right (by omega), hl, Nat.sub_self, List.getElem?_replicate, if_pos (by omega)]
  rfl

theorem toX (v : Value) (ss : List (List UInt8)) (w : World) (h : RdT w v ss) (hl : ss.length ≤ 1048576) :
    Calls Tryz.prog 43 #[v] w fun e w' => ∃ u, e = .returned u ∧ OwnT w' w.heap.size w'.heap.size u ss ∧ Below w.heap.size w w' := by
  obtain ⟨A, c, rfl, _, hm, hr⟩ := h
  obtain ⟨i0, hi0, hz0, hz1, hz2⟩ := info_parts strInfo
  have Hr := Lib.hid hr; clear hr
  go_enter Tryz.func43, Tryz.ntmps43
  go_wp2_with (at_make; refine wpList_make_full _ rfl _ _ _ rfl w.heap.size 9 i0 (.string ⟨#[]⟩) 1 Tryz.underlying23 hi0 hz0 hz1 _ _ _ _ ss.length rfl rfl rfl rfl ?c1 ?c2 ?c3 ?_)
  case c1 => rw [hz2]; omega
  case c2 => unfold maxLen; omega
  case c3 => simp
  intro w1 hown1 hg1
  rw [toList_madeCells_one] at hown1
  have hb1 : Below w.heap.size w w1 := below_of_only hg1 (Nat.le_refl _) (by simp)
  have hstart : w1.ownsRow w.heap.size 9 1 (.slice (some ⟨w.heap.size, 0, none⟩) ss.length ss.length) ss.length (strVals (fillT ss 0)) := by
    have e : strVals (fillT ss 0) = List.replicate ss.length (.string ⟨#[]⟩) := by simp [strVals, fillT]
    rw [e]; exact hown1
  have hlt1 : w.heap.size < w1.heap.size := (hown1.lt w.heap.size rfl).2
  clear hown1 hg1
  generalize hG : w.heap.size = g at *
  have HG := Lib.hid hG; clear hG
  go_wp2
  go_loopw [4] (fun i wr => ∃ k : Nat, k ≤ ss.length ∧ i = .int .i64 k ∧ Below g w wr ∧ g < wr.heap.size ∧ wr.ownsRow g 9 1 (.slice (some ⟨g, 0, none⟩) ss.length ss.length) ss.length (strVals (fillT ss k))) (fun i _ => ss.length - (intOf i).toNat)
  case atStart => exact ⟨0, Nat.zero_le _, rfl, hb1, hlt1, hstart⟩
  case round =>
    clear hb1 hstart hlt1
    obtain ⟨k, hk, rfl, hbk, hgs, hownk⟩ := hrel
    by_cases hlt : k < ss.length
    · obtain ⟨b, off, rfl, hb, hc⟩ := Hr.out (by omega)
      obtain ⟨s, hs⟩ : ∃ s, ss[k]? = some s := ⟨_, List.getElem?_eq_getElem hlt⟩
      have hcell := (hbk.cell (p := ⟨b, off + k, none⟩) hb).trans (hc k s hs)
      have hold := (hownk.cellAt k (by omega)).trans (fillT_get hlt)
      have hfr := hownk.frozenAt k
      have hst := hownk.stored k (.string ⟨s.toArray⟩)
      rw [strVals_set9, fillT_set hs] at hst
      obtain ⟨S, hS⟩ : ∃ S : ByteArray, (⟨s.toArray⟩ : ByteArray) = S := ⟨_, rfl⟩
      rw [hS] at hcell hst
      have hsz : g < (wr.setCell ⟨g, k, none⟩ (.string S)).heap.size := Nat.lt_of_lt_of_le hgs hst.2.size
      have Hst := Lib.hid (And.intro hsz hst.1); clear hst hc hownk hs hS hsz
      have hgb : g ≠ b := by omega
      go_wp2
      go_roundw
      case rel => exact ⟨k + 1, by omega, by go_num, hbk.setCell (Nat.le_refl _) _, Hst.out⟩
      case measure => simp [intOf]; omega
    · have hke : k = ss.length := by omega
      go_wp2
      go_ret
      subst hke
      have e : fillT ss ss.length = ss := by simp [fillT]
      rw [e] at hownk
      refine ⟨_, rfl, ⟨by rw [HG.out]; exact hownk, fun q hq => (hownk.lt q hq).2⟩, by rw [HG.out]; exact hbk⟩

theorem take_succ_eqT {xs ys : List (List UInt8)} {k : Nat} {x y : List UInt8} (hx : xs[k]? = some x) (hy : ys[k]? = some y) (h : xs.take k = ys.take k) (he : x = y) : xs.take (k + 1) = ys.take (k + 1) := by
  rw [List.take_add_one, List.take_add_one, h, hx, hy, he]
theorem str_eq9 (s t : List UInt8) : (s == t) = decide (s = t) := by rw [Bool.eq_iff_iff, beq_iff_eq, decide_eq_true_iff]

theorem eqX (v u : Value) (xs ys : List (List UInt8)) (w : World) (hx : RdT w v xs) (hy : RdT w u ys) (b : Bool) (hb : decide (xs = ys) = b) :
    Calls Tryz.prog 47 #[v, u] w fun e w' => e = .returned (.bool b) ∧ Below w.heap.size w w' := by
  obtain ⟨A, c, rfl, _, hmx, hrx⟩ := hx
  obtain ⟨B, d, rfl, _, hmy, hry⟩ := hy
  have Hrx := Lib.hid hrx; clear hrx
  have Hry := Lib.hid hry; clear hry
  have HB := Lib.hid hb; clear hb
  by_cases hlen : xs.length = ys.length
  · rw [← hlen]
    have Hlen := Lib.hid hlen
    have h1 : ys.length ≤ xs.length := by omega
    have h2 : xs.length ≤ ys.length := by omega
    clear hlen
    go_enter Tryz.func47, Tryz.ntmps47
    go_wp2
    go_loopw [5] (fun i wr => ∃ k n : Nat, k ≤ xs.length ∧ i = .int .i64 k ∧ wr = w.drewN n ∧ xs.take k = ys.take k) (fun i _ => xs.length - (intOf i).toNat)
    case atStart => exact ⟨0, 0, Nat.zero_le _, rfl, rfl, rfl⟩
    case round =>
      obtain ⟨k, n, hk, rfl, rfl, ht⟩ := hrel
      have Ht := Lib.hid ht; clear ht
      by_cases hlt : k < xs.length
      · obtain ⟨b1, off, rfl, hb1, hc⟩ := Hrx.out (by omega)
        obtain ⟨b2, off', rfl, hb2, hc'⟩ := Hry.out (by omega)
        obtain ⟨x, hx⟩ : ∃ x, xs[k]? = some x := ⟨_, List.getElem?_eq_getElem hlt⟩
        obtain ⟨y, hy⟩ : ∃ y, ys[k]? = some y := ⟨_, List.getElem?_eq_getElem (by omega)⟩
        have hcell := hc k x hx
        have hcell' := hc' k y hy
        have hlt' : (k : Int) < xs.length := by omega
        have hlt2 : (k : Int) < ys.length := by omega
        have Hs := Lib.hid (take_succ_eqT hx hy Ht.out)
        have Hn : Hid (x ≠ y → xs ≠ ys) := Lib.hid (fun hne e => hne (by rw [e, hy] at hx; injection hx with hx; exact hx.symm))
        obtain ⟨S, hS⟩ : ∃ S : ByteArray, (⟨x.toArray⟩ : ByteArray) = S := ⟨_, rfl⟩
        obtain ⟨T, hT⟩ : ∃ T : ByteArray, (⟨y.toArray⟩ : ByteArray) = T := ⟨_, rfl⟩
        have hST : (S.toList == T.toList) = decide (x = y) := by rw [Go.ByteArray.toList_eq, Go.ByteArray.toList_eq, ← hS, ← hT, str_eq9]
        rw [hS] at hcell
        rw [hT] at hcell'
        clear hc hc' hx hy hS hT
        by_cases he : x = y
        · rw [decide_eq_true he] at hST
          have hs := Lib.hid (Hs.out he)
          clear he
          go_wp2
          go_quiet (fail)
          go_wp2
          go_roundw
          case rel => exact ⟨k + 1, _, by omega, by go_num, rfl, hs.out⟩
          case measure => simp [intOf]; omega
        · rw [decide_eq_false he] at hST
          have hf := Lib.hid (Hn.out he)
          clear he
          go_wp2
          go_quiet (fail)
          go_wp2
          go_ret
          exact ⟨ret_bool (by rw [← HB.out]; simp [hf.out]), below_drewN (below_drewN (Below.refl _ _) _) _⟩
      · have hfin : xs = ys := by
          have := Ht.out
          rwa [List.take_of_length_le (by omega), List.take_of_length_le (by omega)] at this
        have Hf := Lib.hid hfin; clear hfin
        go_wp2
        go_ret
        exact ⟨ret_bool (by rw [← HB.out]; simp [Hf.out]), below_drewN (Below.refl _ _) n⟩
  · have hne : ¬ xs = ys := fun e => hlen (by rw [e])
    have hb : ((xs.length : Int) != (ys.length : Int)) = true := by rw [bne_iff_ne]; omega
    have Hne := Lib.hid hne; clear hne
    clear hlen
    go_enter Tryz.func47, Tryz.ntmps47
    go_wp2
    go_ret
    exact ⟨ret_bool (by rw [← HB.out]; simp [Hne.out]), Below.refl _ _⟩
end Go.Proofs.YtniolhdninpmmaaGreatDoor

/- Benches of the laws: weighed, copied, compared; what the reader gives of one. -/
namespace Go.Proofs.YtniolhdninpmmaaGreatDoor
set_option maxRecDepth 100000
open Go.RowKit Go.WideShapes Go.Joins

def leftB (n : Int) (r : List Int) (ps : List (List UInt8)) : Int := if n - (r.length : Int) < 0 then -1 else leftX (n - (r.length : Int)) ps
theorem leftB_ok {r : List Int} {ps : List (List UInt8)} (hq : ¬ leftB 1048576 r ps < 0) : r.length ≤ 1048576 ∧ ps.length ≤ 1048576 ∧ ∀ t ∈ ps, t.length ≤ 1048576 := by
  unfold leftB at hq
  split at hq
  · omega
  · obtain ⟨h1, h2, _⟩ := leftX_ok hq
    refine ⟨by omega, by omega, fun t ht => ?_⟩
    have := szT_mem ht
    omega
theorem szB_any (v0 v1 : Value) (r : List Int) (ps : List (List UInt8)) (w : World) (h0 : RdI w v0 r) (h1 : RdT w v1 ps) (hwf : ∀ s ∈ ps, s.length ≤ 9223372036854775807) :
    Calls Tryz.prog 7 #[.agg #[v0, v1], .int .i64 1048576] w fun e w' => e = .returned (.int .i64 (leftB 1048576 r ps)) ∧ Below w.heap.size w w' := by
  have hb : Below w.heap.size w (w.alloc (.cells #[v0, v1] 25)) := (Below.refl _ _).alloc (Nat.le_refl _) _
  have H0 := Lib.hid (RdI.step h0 hb)
  have H1 := Lib.hid (RdT.step h1 hb)
  have HB := Lib.hid hb
  have HW := Lib.hid hwf; clear hwf
  obtain ⟨A0, c0, rfl, _⟩ := h0
  obtain ⟨A1, c1, rfl, _⟩ := h1
  clear hb
  by_cases hq : (1048576 : Int) - (r.length : Int) < 0
  · have HQ : Hid (leftB 1048576 r ps = -1) := Lib.hid (by rw [leftB, if_pos hq])
    go_enter Tryz.func7, Tryz.ntmps7
    go_wp2_with fail
    refine (szI_any _ r 1048576 _ H0.out (by omega)).mono ?_
    rw [if_pos (by omega)]
    rintro e w' ⟨rfl, rfl⟩
    go_wp2
    go_ret
    exact ⟨ret_i64 HQ.out.symm, HB.out⟩
  · have HQ : Hid (leftB 1048576 r ps = leftX (1048576 - (r.length : Int)) ps) := Lib.hid (by rw [leftB, if_neg hq])
    obtain ⟨q, hQ2⟩ : ∃ q, leftX (1048576 - (r.length : Int)) ps = q := ⟨_, rfl⟩
    rw [hQ2] at HQ
    by_cases hq2 : q < 0
    · have hq3 : q = -1 := by
        rw [← hQ2] at hq2 ⊢
        unfold leftX at hq2 ⊢
        split
        · rfl
        · rename_i h1
          rw [if_neg h1] at hq2
          split
          · rfl
          · rename_i h2
            rw [if_neg h2] at hq2; omega
      subst hq3
      have H2 := Lib.hid hQ2; clear hQ2
      go_enter Tryz.func7, Tryz.ntmps7
      go_wp2_with fail
      refine (szI_any _ r 1048576 _ H0.out (by omega)).mono ?_
      rw [if_neg (by omega)]
      rintro e w' ⟨rfl, rfl⟩
      go_wp2_with fail
      refine (szX_any _ ps _ _ H1.out (by omega) HW.out).mono ?_
      rw [H2.out]
      rintro e w' ⟨rfl, rfl⟩
      go_wp2
      go_ret
      exact ⟨ret_i64 HQ.out.symm, HB.out⟩
    · have H2 := Lib.hid hQ2; clear hQ2
      go_enter Tryz.func7, Tryz.ntmps7
      go_wp2_with fail
      refine (szI_any _ r 1048576 _ H0.out (by omega)).mono ?_
      rw [if_neg (by omega)]
      rintro e w' ⟨rfl, rfl⟩
      go_wp2_with fail
      refine (szX_any _ ps _ _ H1.out (by omega) HW.out).mono ?_
      rw [H2.out]
      rintro e w' ⟨rfl, rfl⟩
      go_wp2
      go_ret
      exact ⟨ret_i64 HQ.out.symm, HB.out⟩

def ToB (w : World) (r : List Int) (s : List (List UInt8)) (e : Ending) (w' : World) : Prop := ∃ u0 u1 m, e = .returned (.agg #[u0, u1]) ∧ w.heap.size ≤ m ∧ m ≤ w'.heap.size ∧ OwnI w' w.heap.size m u0 r ∧ OwnT w' m w'.heap.size u1 s ∧ Below w.heap.size w w'
theorem toB (v0 v1 : Value) (r : List Int) (s : List (List UInt8)) (w : World) (h0 : RdI w v0 r) (h1 : RdT w v1 s) (hl : r.length ≤ 1048576) (hs : s.length ≤ 1048576) :
    Calls Tryz.prog 10 #[.agg #[v0, v1]] w (ToB w r s) := by
  have hb : Below w.heap.size w (((w.alloc (.cells #[v0, v1] 25)).alloc (.cells #[.slice none 0 0, .slice none 0 0] 30)).alloc (.cells #[.slice none 0 0, .slice none 0 0] 30)) := (((Below.refl _ _).alloc (Nat.le_refl _) _).alloc (by simp) _).alloc (by simp; omega) _
  have H0 := Lib.hid (RdI.step h0 hb)
  have h1' := h1
  have HB := Lib.hid hb
  obtain ⟨A0, c0, rfl, _⟩ := h0
  obtain ⟨A1, c1, rfl, _⟩ := h1
  clear hb
  have bz0 : Blk (((w.alloc (.cells #[.slice A0 r.length c0, .slice A1 s.length c1] 25)).alloc (.cells #[.slice none 0 0, .slice none 0 0] 30)).alloc (.cells #[.slice none 0 0, .slice none 0 0] 30)) w.heap.size #[.slice A0 r.length c0, .slice A1 s.length c1] 25 :=
    ((Blk.new w _ _).below ((Below.refl (w.heap.size + 1) _).alloc (by simp) _) (by omega)).below ((Below.refl (w.heap.size + 1) _).alloc (by simp) _) (by omega)
  have HZ := Lib.hid bz0; clear bz0
  go_enter Tryz.func10, Tryz.ntmps10
  go_wp2_with fail
  refine (toI _ r _ H0.out hl).mono ?_
  rintro e w1 ⟨u, rfl, ho, hb⟩
  obtain ⟨hc1, hf1⟩ := bcell hb
  have hz1 : w.heap.size + 3 ≤ w1.heap.size := by have := hb.size; simp at this; omega
  obtain ⟨B0, d0, rfl, _⟩ := ho.rd
  have hw2 : Below w.heap.size w (w1.setCell ⟨w.heap.size + 1 + 1, 0, none⟩ (.slice B0 r.length d0)) := (HB.out.trans (hb.mono (by simp; omega))).setCell (by simp; omega) _
  have hs2 := RdT.step h1' hw2
  have ho2 := ho.apart (within_setCell w1 (w.heap.size + 1 + 1) 0 (.slice B0 r.length d0)) (by simp)
  have b0 : Blk (w1.setCell ⟨w.heap.size + 1 + 1, 0, none⟩ (.slice B0 r.length d0)) w.heap.size #[.slice A0 r.length c0, .slice A1 s.length c1] 25 := (HZ.out.below hb (by simp; omega)).other (by omega) _ _
  have b2 : Blk (w1.setCell ⟨w.heap.size + 1 + 1, 0, none⟩ (.slice B0 r.length d0)) (w.heap.size + 1 + 1) #[.slice B0 r.length d0, .slice none 0 0] 30 := by
    have h3 := Blk.new ((w.alloc (.cells #[.slice A0 r.length c0, .slice A1 s.length c1] 25)).alloc (.cells #[.slice none 0 0, .slice none 0 0] 30)) #[.slice none 0 0, .slice none 0 0] 30
    simp only [World.size_alloc] at h3
    exact (h3.below hb (by simp)).set 0 _
  have b1 : Blk (w1.setCell ⟨w.heap.size + 1 + 1, 0, none⟩ (.slice B0 r.length d0)) (w.heap.size + 1) #[.slice none 0 0, .slice none 0 0] 30 := by
    have h3 := Blk.new (w.alloc (.cells #[.slice A0 r.length c0, .slice A1 s.length c1] 25)) #[.slice none 0 0, .slice none 0 0] 30
    simp only [World.size_alloc] at h3
    exact ((h3.below ((Below.refl _ _).alloc (Nat.le_refl _) _) (by simp)).below hb (by simp <;> omega)).other (by omega) _ _
  have X := Lib.hid (And.intro ho2 (And.intro hw2 (And.intro hs2 (And.intro b1 b2)))); clear ho ho2 hb hw2 hs2 h1' H0 HB b0 b1 b2 HZ
  go_wp2_with fail
  refine (toX _ s _ X.out.2.2.1 hs).mono ?_
  rintro e w3 ⟨u1, rfl, hp, hb⟩
  have hz3 : w1.heap.size ≤ w3.heap.size := by have := hb.size; simpa [World.setCell] using this
  obtain ⟨B1, d1, rfl, _⟩ := hp.rd
  have b1 := X.out.2.2.2.1.below hb (by simp [World.setCell] <;> omega)
  have b2 := X.out.2.2.2.2.below hb (by simp [World.setCell] <;> omega)
  have c10 := b1.cell 0
  have c11 := b1.cell 1
  have c20 := b2.cell 0
  have c21 := b2.cell 1
  have f10 := b1.free 0
  have f11 := b1.free 1
  have f20 := b2.free 0
  have f21 := b2.free 1
  simp only [List.getElem?_toArray, List.getElem?_cons_zero, List.getElem?_cons_succ] at c10 c11 c20 c21
  have Y := Lib.hid (And.intro (X.out.1.below hb) (And.intro hp (And.intro (X.out.2.1.trans (hb.mono (by simp [World.setCell]; omega))) (And.intro b1 b2)))); clear hp hb X b1 b2 hc1 hf1
  go_wp2
  have e0 := (((Y.out.2.2.2.1.other (g' := w.heap.size + 1 + 1) (by omega) 1 (.slice B1 s.length d1)).set 0 (.slice B0 r.length d0))).cell 0
  have e1 := ((((Y.out.2.2.2.1.other (g' := w.heap.size + 1 + 1) (by omega) 1 (.slice B1 s.length d1)).set 0 (.slice B0 r.length d0))).set 1 (.slice B1 s.length d1)).cell 1
  simp only [List.setIfInBounds_toArray, List.set_cons_zero, List.set_cons_succ, List.getElem?_toArray, List.getElem?_cons_zero, List.getElem?_cons_succ] at e0 e1
  refine bodyPost_ret (v := .agg #[.slice B0 r.length d0, .slice B1 s.length d1]) (by simp [results, Tryz.results10, go_sem, e0, e1]) rfl ?_
  have y0 := Y.out.1
  have y1 := Y.out.2.1
  have y2 := Y.out.2.2.1
  clear Y e0 e1 c10 c11 c20 c21 f10 f11 f20 f21
  simp only [World.size_alloc] at y0
  have hz : (w1.setCell ⟨w.heap.size + 1 + 1, 0, none⟩ (.slice B0 r.length d0)).heap.size = w1.heap.size := by simp [World.setCell]
  rw [hz] at y1
  refine ⟨_, _, w1.heap.size, rfl, by omega, by simp [World.setCell]; omega, ?_, ?_, ?_⟩
  · have h := ((y0.apart (within_setCell _ (w.heap.size + 1 + 1) 1 (.slice B1 s.length d1)) (.inr (by omega))).apart (within_setCell _ (w.heap.size + 1) 0 (.slice B0 r.length d0)) (.inr (by omega))).apart (within_setCell _ (w.heap.size + 1) 1 (.slice B1 s.length d1)) (.inr (by omega))
    exact ⟨h.own.mono (by omega), h.lt⟩
  · have h := ((y1.apart (within_setCell _ (w.heap.size + 1 + 1) 1 (.slice B1 s.length d1)) (.inr (by omega))).apart (within_setCell _ (w.heap.size + 1) 0 (.slice B0 r.length d0)) (.inr (by omega))).apart (within_setCell _ (w.heap.size + 1) 1 (.slice B1 s.length d1)) (.inr (by omega))
    exact h.widen (by simp [World.setCell])
  · exact ((y2.setCell (by simp; omega) _).setCell (by simp) _).setCell (by simp) _

theorem eqB_any (v0 v1 u0 u1 : Value) (r r' : List Int) (s s' : List (List UInt8)) (w : World) (h0 : RdI w v0 r) (h1 : RdT w v1 s) (k0 : RdI w u0 r') (k1 : RdT w u1 s') (hr : r = r') (hs : s = s') :
    Calls Tryz.prog 13 #[.agg #[v0, v1], .agg #[u0, u1]] w fun e w' => e = .returned (.bool true) ∧ Below w.heap.size w w' := by
  subst hr hs
  have hb : Below w.heap.size w ((w.alloc (.cells #[v0, v1] 30)).alloc (.cells #[u0, u1] 30)) := ((Below.refl _ _).alloc (Nat.le_refl _) _).alloc (by simp) _
  have H := Lib.hid (And.intro (RdI.step h0 hb) (And.intro (RdT.step h1 hb) (And.intro (RdI.step k0 hb) (And.intro (RdT.step k1 hb) hb))))
  obtain ⟨A0, c0, rfl, _⟩ := h0
  obtain ⟨A1, c1, rfl, _⟩ := h1
  obtain ⟨B0, d0, rfl, _⟩ := k0
  obtain ⟨B1, d1, rfl, _⟩ := k1
  clear hb
  go_enter Tryz.func13, Tryz.ntmps13
  go_wp2_with fail
  refine (eqI _ _ r r _ H.out.1 H.out.2.2.1 true (decide_eq_true rfl)).mono ?_
  rintro e w1 ⟨rfl, hb⟩
  have hs1 := hb.size
  simp only [World.size_alloc] at hs1
  have bk := (Blk.new (w.alloc (.cells #[.slice A0 r.length c0, .slice A1 s.length c1] 30)) #[.slice B0 r.length d0, .slice B1 s.length d1] 30).below hb (by simp)
  have ck := ((Blk.new w #[.slice A0 r.length c0, .slice A1 s.length c1] 30).below ((Below.refl (w.heap.size + 1) _).alloc (by simp) (.cells #[.slice B0 r.length d0, .slice B1 s.length d1] 30)) (by omega)).below hb (by simp; omega)
  rw [World.size_alloc] at bk
  obtain ⟨b0, b1, _, _⟩ := blk_pair bk
  obtain ⟨e0, e1, _, _⟩ := blk_pair ck
  have K := Lib.hid (And.intro (RdT.step H.out.2.1 hb) (And.intro (RdT.step H.out.2.2.2.1 hb) (H.out.2.2.2.2.trans (hb.mono (by simp; omega))))); clear hb H bk ck
  go_wp2_with fail
  refine (eqX _ _ s s _ K.out.1 K.out.2.1 true (decide_eq_true rfl)).mono ?_
  rintro e w2 ⟨rfl, hb⟩
  have K2 := Lib.hid (K.out.2.2.trans (hb.mono (by omega))); clear hb K
  go_wp2
  go_ret
  exact ⟨rfl, K2.out⟩

theorem texts_of_fuel {H : Type} {enc : TypeId × Value → H} {W : World} {t : TypeId} {fuel : Nat} {v : Value} {x : DataW H × List MemPlace} {base : Nat} (ht : Tryz.prog.underlying t = some (.slice 9))
    (h : DataW.trod enc Tryz.prog W base (fun _ => true) true fuel t [v] = some x) :
    ∃ A c ss, v = .slice A ss.length c ∧ RdT W (.slice A ss.length c) ss ∧ ∀ s ∈ ss, s.length ≤ 9223372036854775807 := by
  rcases Go.ChangeShapes.open_strings ht Tryz.underlying9 (by kernel_rfl) h with ⟨hcs, _⟩ | ⟨a, len, cap, ss, hcs, _, hl, hm, hz, _, hc, hsz⟩
  · obtain rfl : v = .slice none 0 0 := by simpa using hcs
    exact ⟨none, 0, [], rfl, ⟨none, 0, rfl, by simp, by simp, fun h => by simp at h⟩, by simp⟩
  · obtain rfl : v = .slice (some a) len cap := by simpa using hcs
    simp only [if_true] at hz
    have hlen : ((ss.take len).map bytesOf).length = len := by simp; omega
    refine ⟨some a, cap, (ss.take len).map bytesOf, by rw [hlen], ⟨some a, cap, by rw [hlen], by rw [hlen]; exact hl, by rw [hlen]; unfold maxLen at hm; omega, fun hp => ?_⟩, ?_⟩
    · rw [hlen] at hp
      have h0 := hc 0 (by omega)
      have h3 := spot_of_cell h0
      obtain ⟨b, off, sp⟩ := a
      obtain rfl : sp = none := by simpa [Addr.add] using h3
      refine ⟨b, off, rfl, lt_of_cell (by simpa [Addr.add] using h0), fun j s hj => ?_⟩
      have hjl : j < len := by
        have := (List.getElem?_eq_some_iff.1 hj).1
        rwa [hlen] at this
      rw [List.getElem?_map, List.getElem?_take_of_lt hjl] at hj
      have hcj := hc j (by omega)
      rw [add_plain] at hcj
      rw [hcj, List.getD_eq_getElem?_getD]
      rcases hs : ss[j]? with _ | S
      · rw [hs] at hj; simp at hj
      · rw [hs] at hj
        simp at hj
        subst hj
        rw [Option.getD_some, ba_eta]
    · intro s hs
      obtain ⟨S, hS, rfl⟩ := List.mem_map.1 hs
      have := hsz S (List.mem_of_mem_take hS)
      rw [bytes_len]; unfold maxLen at this; omega
theorem bench_of_trod {H : Type} {enc : TypeId × Value → H} {W : World} {v : Value} {d : DataW H} {ps : List MemPlace} {base : Nat}
    (hval : Value.okWide Tryz.prog W .any base 25 v) (h : DataW.Trod enc Tryz.prog W 0 (fun _ => true) true 25 v d ps) :
    ∃ A0 c0 r A1 c1 s, v = .agg #[.slice A0 r.length c0, .slice A1 s.length c1] ∧ RdI W (.slice A0 r.length c0) r ∧ RdT W (.slice A1 s.length c1) s ∧ ∀ t ∈ s, t.length ≤ 9223372036854775807 := by
  obtain ⟨v0, v1, y0, y1, n, rfl, _, _, h0, h1⟩ := open_agg2 Tryz.underlying25 (by kernel_rfl) (by kernel_rfl) hval h
  obtain ⟨A0, c0, r, rfl, hr⟩ := ints_of_fuel Tryz.underlying22 Tryz.underlying3 cells_int' h0
  obtain ⟨A1, c1, s, rfl, hs, hz⟩ := texts_of_fuel Tryz.underlying23 h1
  exact ⟨A0, c0, r, A1, c1, s, rfl, hr, hs, hz⟩
end Go.Proofs.YtniolhdninpmmaaGreatDoor

/- The marks of rows of strings: markText, markStringS, heldStringS. -/
namespace Go.Proofs.YtniolhdninpmmaaGreatDoor
set_option maxRecDepth 100000
open Go.RowKit Go.WideShapes
open Lib (decDigits)

/-- The mark k as a text. -/
def mtx (k : Nat) : List UInt8 := 109 :: decDigits k
def mtxs (k : Nat) : Nat → List (List UInt8)
  | 0 => []
  | n + 1 => mtx k :: mtxs (k + 1) n
theorem mtxs_len (k n : Nat) : (mtxs k n).length = n := by
  induction n generalizing k with
  | zero => rfl
  | succ n ih => simp [mtxs, ih]
theorem mtxs_get (k n j : Nat) (h : j < n) : (mtxs k n)[j]? = some (mtx (k + j)) := by
  induction n generalizing k j with
  | zero => omega
  | succ n ih =>
    rcases j with _ | j
    · simp [mtxs]
    · simp only [mtxs, List.getElem?_cons_succ]; rw [ih (k + 1) j (by omega)]; congr 2; omega
theorem mtxs_set (ss : List (List UInt8)) (a k : Nat) (h : k < ss.length) : (mtxs a k ++ ss.drop k).set k (mtx (a + k)) = mtxs a (k + 1) ++ ss.drop (k + 1) := by
  have hm : mtxs a (k + 1) = mtxs a k ++ [mtx (a + k)] := by
    apply List.ext_getElem?
    intro j
    by_cases hj : j < k
    · rw [mtxs_get a (k + 1) j (by omega), List.getElem?_append_left (by rw [mtxs_len]; omega), mtxs_get a k j hj]
    · by_cases hj2 : j = k
      · subst hj2; rw [mtxs_get a (j + 1) j (by omega), List.getElem?_append_right (by rw [mtxs_len]; omega), mtxs_len]; simp
      · rw [List.getElem?_eq_none (by rw [mtxs_len]; omega), List.getElem?_eq_none (by simp [mtxs_len]; omega)]
  rw [List.set_append_right _ _ (by rw [mtxs_len]; omega), mtxs_len, Nat.sub_self, List.drop_eq_getElem_cons h, List.set_cons_zero, hm, List.append_assoc]
  rfl
theorem dec_len99 {n : Nat} (h : n ≤ 9999999) : (decDigits n).length ≤ 7 := by
  have h1 : ∀ m, m ≤ 99 → (decDigits m).length ≤ 2 := fun m hm => by
    by_cases h1 : m < 10
    · rw [dec1 h1]; simp
    · rw [decS h1, dec1 (by omega)]; simp
  by_cases h2 : n ≤ 99999
  · have := dec_len9 h2; omega
  · have h3 := dec_len9 (n := n / 10 / 10) (by omega)
    rw [decS (by omega), decS (by omega)]
    simp; omega

set_option maxHeartbeats 1000000 in
theorem markText_any (k : Nat) (w : World) (h1 : 1 ≤ k) (h2 : k ≤ 9999999) :
    Calls Tryz.prog 53 #[.int .i64 k] w fun e w' => e = .returned (.string ⟨(mtx k).toArray⟩) ∧ Below w.heap.size w w' := by
  have hkI : (0 : Int) < k := by omega
  have hlen := dec_len99 h2
  go_enter Tryz.func53, Tryz.ntmps53
  go_wp2
  go_loopw [0, 3] (fun a o wr => ∃ (m : Nat) (X : ByteArray), m ≤ k ∧ a = .int .i64 m ∧ o = .string X ∧ decDigits k = (if m = 0 then [] else decDigits m) ++ bytesOf X ∧ Below w.heap.size w wr) (fun a _ _ => (intOf a).toNat)
  case atStart => exact ⟨k, ⟨#[]⟩, Nat.le_refl _, rfl, rfl, by rw [if_neg (by omega)]; simp [bytesOf], Below.refl _ _⟩
  case round =>
    obtain ⟨m, X, hmk, rfl, rfl, hd, hb⟩ := hrel
    have hXl : X.size ≤ 7 := by
      have := congrArg List.length hd
      rw [List.length_append, bytes_len] at this; omega
    by_cases hm0 : m = 0
    · subst hm0
      rw [if_pos rfl, List.nil_append] at hd
      obtain ⟨S, hS⟩ : ∃ S : ByteArray, (⟨(mtx k).toArray⟩ : ByteArray) = S := ⟨_, rfl⟩
      have hadd : ∀ W, (Op.stringOp .add ⟨#[109]⟩ X).run Tryz.prog W = .ok (.string S) W := fun W => by
        have hsz : (⟨#[109]⟩ : ByteArray).size = 1 := rfl
        rw [run_string_add_sum W _ _ (by rw [hsz]; omega), ← hS]
        congr 2
        apply ByteArray.ext
        rw [ByteArray.data_append, mtx, hd]
        simp [bytesOf]
      have HS := Lib.hid hS
      have HB := Lib.hid hb
      clear hS hb hd
      go_wp2
      go_ret
      exact ⟨by rw [HS.out]; rfl, HB.out⟩
    · have hmI : (0 : Int) < m := by omega
      obtain ⟨c, hc1, hc2⟩ : ∃ c : UInt8, decDigits m = (if m / 10 = 0 then [] else decDigits (m / 10)) ++ [c] ∧ 48 + ((m : Int) % 10) = c.toNat := by
        by_cases h10 : m < 10
        · obtain ⟨c, e1, e2⟩ := dec_one h10
          refine ⟨c, by rw [if_pos (by omega), e1]; rfl, ?_⟩
          rw [← e2]; omega
        · obtain ⟨c, e1, e2⟩ := dec_more h10
          exact ⟨c, by rw [if_neg (by omega)]; exact e1, e2⟩
      obtain ⟨r, hr⟩ : ∃ r : Int, r = (m : Int) % 10 := ⟨_, rfl⟩
      rw [← hr] at hc2
      obtain ⟨q, hq⟩ : ∃ q : Nat, q = m / 10 := ⟨_, rfl⟩
      rw [← hq] at hc1
      have hw : IntKind.u8.wrap (48 + r) = 48 + r := IntWalk.u8_in _ (by omega)
      have hq1 : (m : Int).tdiv 10 = (q : Int) := by rw [Int.tdiv_eq_ediv_of_nonneg (by omega)]; omega
      have hr1 : (m : Int).tmod 10 = r := by rw [Int.tmod_eq_emod_of_nonneg (by omega)]; omega
      have hwq : IntKind.i64.wrap (q : Int) = q := IntWalk.i64_in _ (by omega)
      have hwr : IntKind.i64.wrap (48 + r) = 48 + r := IntWalk.i64_in _ (by omega)
      have HC := Lib.hid (fun W g => run_one_byte W g c (48 + r) hc2)
      have hca := fun (W : World) => HC.out (W.alloc (.cells #[.int .u8 (48 + r)] 5)) W.heap.size (by simp)
      have hcd := fun (W : World) => HC.out (W.alloc (.cells #[.int .u8 (48 + r)] 5)).drew W.heap.size (by simp)
      obtain ⟨Y, hY⟩ : ∃ Y : ByteArray, (⟨([c] ++ bytesOf X).toArray⟩ : ByteArray) = Y := ⟨_, rfl⟩
      have hYb : bytesOf Y = [c] ++ bytesOf X := by rw [← hY, bytes_mk]
      have hadd : ∀ W, (Op.stringOp .add ⟨#[c]⟩ X).run Tryz.prog W = .ok (.string Y) W := fun W => by
        have hsz : (⟨#[c]⟩ : ByteArray).size = 1 := rfl
        rw [run_string_add_sum W _ _ (by rw [hsz]; omega), ← hY]
        congr 2
      have HR := Lib.hid (show decDigits k = (if q = 0 then [] else decDigits q) ++ bytesOf Y by
        rw [hd, if_neg hm0, hc1, hYb]; simp)
      have hqm : q < m := by omega
      have HB := Lib.hid hb
      clear hb hd hc1 hc2 hr hq hY hYb hm0
      go_wp2
      go_roundw
      case rel => exact ⟨q, Y, by omega, by go_num, rfl, HR.out, HB.out.alloc HB.out.size _⟩
      case measure => simp [intOf]; omega
end Go.Proofs.YtniolhdninpmmaaGreatDoor

/- Benches of the laws: marked, and found again. -/
namespace Go.Proofs.YtniolhdninpmmaaGreatDoor
set_option maxRecDepth 100000
open Go.RowKit Go.WideShapes

theorem strVals_setH {ss : List (List UInt8)} {k : Nat} {t : List UInt8} : (strVals ss).set k (.string ⟨t.toArray⟩) = strVals (ss.set k t) := by
  simp [strVals, List.map_set]
set_option maxHeartbeats 2000000 in
theorem markT9 (v : Value) (ss : List (List UInt8)) (a lo hi : Nat) (w : World) (ha : 1 ≤ a ∧ a + ss.length ≤ 9999999) (h : OwnWT w lo hi v ss) :
    Calls Tryz.prog 49 #[v, .int .i64 a] w fun e w' => e = .returned (.int .i64 ((a + ss.length : Nat) : Int)) ∧ OwnWT w' lo hi v (mtxs a ss.length) ∧ Within lo hi w w' := by
  have hbk := h.blk
  obtain ⟨A, cap, rfl, hlc, _, hcs⟩ := OwnW.cell h
  rw [strVals_len] at hcs hlc
  by_cases h0 : ss = []
  · subst h0
    clear hcs hlc hbk
    have H := Lib.hid h; clear h
    have e0 : (strVals []).length = 0 := rfl
    rw [e0] at H ⊢
    go_enter Tryz.func49, Tryz.ntmps49
    go_wp2
    go_loop [1, 5] (fun a' i => i = .int .i64 0 ∧ a' = .int .i64 (a : Int)) (fun _ _ => 0)
    case atStart => exact ⟨rfl, rfl⟩
    case round =>
      obtain ⟨rfl, rfl⟩ := hrel
      go_wp2
      go_ret
      exact ⟨ret_i64 (by simp), H.out, Within.of_below (Below.refl _ _)⟩
  · have hpos : 0 < ss.length := List.length_pos_iff.2 h0
    obtain ⟨g, off, rfl, hlo, hhi, hgs, _⟩ := hcs hpos
    have hstart : OwnWT w lo hi (.slice (some ⟨g, off, none⟩) ss.length cap) (mtxs a 0 ++ ss.drop 0) := by
      rw [strVals_len] at h
      simpa [mtxs] using h
    have e0 := strVals_len ss
    rw [e0]
    clear h hcs h0 hbk
    go_enter Tryz.func49, Tryz.ntmps49
    go_wp2
    go_loopw [1, 5] (fun a' i wr => ∃ k : Nat, k ≤ ss.length ∧ i = .int .i64 k ∧ a' = .int .i64 ((a + k : Nat) : Int) ∧ Within lo hi w wr ∧ OwnWT wr lo hi (.slice (some ⟨g, off, none⟩) ss.length cap) (mtxs a k ++ ss.drop k)) (fun _ i _ => ss.length - (intOf i).toNat)
    case atStart => exact ⟨0, Nat.zero_le _, rfl, rfl, Within.of_below (Below.refl _ _), hstart⟩
    case round =>
      clear hstart
      obtain ⟨k, hk, rfl, rfl, hwk, hownk⟩ := hrel
      by_cases hltk : k < ss.length
      · have hltI : (k : Int) < ss.length := by omega
        have hfl : (mtxs a k ++ ss.drop k).length = ss.length := by simp [mtxs_len]; omega
        have hset := mtxs_set ss a k hltk
        obtain ⟨q, hq⟩ : ∃ q : Nat, q = a + k := ⟨_, rfl⟩
        rw [← hq] at hset ⊢
        have hqb : 1 ≤ q ∧ q ≤ 9999999 := by omega
        obtain ⟨q1, hq1⟩ : ∃ q1 : Nat, q1 = q + 1 := ⟨_, rfl⟩
        have hq1b : q1 ≤ 10000000 := by omega
        have m1 : IntKind.i64.wrap ((q : Int) + 1) = (q1 : Int) := by rw [IntWalk.i64_in _ (by omega)]; omega
        have Q := Lib.hid (And.intro hq hq1); clear hq1
        clear hq
        have HO := Lib.hid (And.intro hownk hwk); clear hwk hownk
        have HS := Lib.hid (And.intro hset hfl); clear hset hfl
        go_wp2_with fail
        refine (markText_any q _ hqb.1 hqb.2).mono ?_
        rintro e w2 ⟨rfl, hb2⟩
        have hz2 := hb2.size
        have hown2 := OwnW.below HO.out.1 hb2
        obtain ⟨A', cap', he, _, _, hc2⟩ := OwnW.cell hown2
        rw [strVals_len, HS.out.2] at he hc2
        cases he
        obtain ⟨g', off', he, _, _, _, hcc⟩ := hc2 hpos
        cases he
        obtain ⟨hold0, hfr⟩ := hcc k hltk
        obtain ⟨u, hold⟩ : ∃ u, w2.cell? ⟨g, off + k, none⟩ = some u := ⟨_, hold0.trans (List.getElem?_eq_getElem (by rw [strVals_len, HS.out.2]; exact hltk))⟩
        have hst := OwnW.stored hown2 (g := g) (off := off) rfl k (by rw [strVals_len, HS.out.2]; exact hltk) (.string ⟨(mtx q).toArray⟩)
        rw [strVals_setH, HS.out.1] at hst
        have Z := Lib.hid (And.intro ((HO.out.2.trans (Within.of_below hb2)).trans (Within.of_only hst.2 fun g' e => by cases e; exact ⟨hlo, hhi⟩)) hst.1); clear hst hown2 hb2 HO hc2 hcc hold0
        go_wp2
        go_roundw
        case rel => exact ⟨k + 1, by omega, by go_num, by have h9 := Q.out; go_num, Z.out.1, Z.out.2⟩
        case measure => simp [intOf]; omega
      · obtain rfl : k = ss.length := by omega
        rw [List.drop_length, List.append_nil] at hownk
        have Z := Lib.hid (And.intro hownk hwk); clear hownk hwk
        go_wp2
        go_ret
        exact ⟨rfl, Z.out.1, Z.out.2⟩
set_option maxHeartbeats 2000000 in
theorem heldT9 (v : Value) (n a : Nat) (w : World) (ha : 1 ≤ a ∧ a + n ≤ 9999999) (h : RdT w v (mtxs a n)) :
    Calls Tryz.prog 51 #[v, .int .i64 a] w fun e w' => e = .returned (.int .i64 ((a + n : Nat) : Int)) ∧ Below w.heap.size w w' := by
  obtain ⟨A, c, rfl, _, _, hr⟩ := h
  rw [mtxs_len] at hr ⊢
  have Hr := Lib.hid hr; clear hr
  go_enter Tryz.func51, Tryz.ntmps51
  go_wp2
  go_loopw [1, 5] (fun a' i wr => ∃ k : Nat, k ≤ n ∧ i = .int .i64 k ∧ a' = .int .i64 ((a + k : Nat) : Int) ∧ Below w.heap.size w wr) (fun _ i _ => n - (intOf i).toNat)
  case atStart => exact ⟨0, Nat.zero_le _, rfl, rfl, Below.refl _ _⟩
  case round =>
    obtain ⟨k, hk, rfl, rfl, hbk⟩ := hrel
    have hzk := hbk.size
    by_cases hlt : k < n
    · have hltI : (k : Int) < n := by omega
      obtain ⟨b, off, rfl, hb, hc⟩ := Hr.out (by omega)
      have d0 := hc k _ (mtxs_get a n k hlt)
      clear hc
      obtain ⟨q, hq⟩ : ∃ q : Nat, q = a + k := ⟨_, rfl⟩
      rw [← hq] at d0 ⊢
      have hqb : 1 ≤ q ∧ q ≤ 9999999 := by omega
      obtain ⟨q1, hq1⟩ : ∃ q1 : Nat, q1 = q + 1 := ⟨_, rfl⟩
      have hq1b : q1 ≤ 10000000 := by omega
      have m1 : IntKind.i64.wrap ((q : Int) + 1) = (q1 : Int) := by rw [IntWalk.i64_in _ (by omega)]; omega
      have Q := Lib.hid (And.intro hq hq1); clear hq1
      clear hq
      obtain ⟨T, hT⟩ : ∃ T : ByteArray, (⟨(mtx q).toArray⟩ : ByteArray) = T := ⟨_, rfl⟩
      rw [hT] at d0
      have HT := Lib.hid hT; clear hT
      have e0 := (hbk.cell (p := ⟨b, off + k, none⟩) hb).trans d0
      clear d0
      have hse : (T.toList == T.toList) = true := by simp
      have hd : Below wr.heap.size wr wr.drew := (Below.refl _ _).drew
      have HD := Lib.hid (And.intro hd hbk); clear hbk hd
      go_wp2_with fail
      go_region_with (go_at_call 53; refine (markText_any q _ hqb.1 hqb.2).mono ?_; rw [HT.out]; rintro e w2 ⟨rfl, hb2⟩; have e2 := (((HD.out.1.trans hb2).cell (p := ⟨b, off + k, none⟩) (Nat.lt_of_lt_of_le hb hzk)).trans e0))
      all_goals
        have Z := Lib.hid (HD.out.2.trans ((HD.out.1.trans hb2).mono hzk)); clear hb2 HD
        go_wp2
        go_roundw
        case rel => exact ⟨k + 1, by omega, by go_num, by have h9 := Q.out; go_num, Z.out⟩
        case measure => simp [intOf]; omega
    · obtain rfl : k = n := by omega
      have Z := Lib.hid hbk; clear hbk
      go_wp2
      go_ret
      exact ⟨rfl, Z.out⟩
theorem Within.monoH {lo hi lo' hi' : Nat} {w w' : World} (h : Within lo hi w w') (h1 : lo' ≤ lo) (h2 : hi ≤ hi') : Within lo' hi' w w' := ⟨h.os, h.tape, h.output, h.size, fun k hk hn => h.block k hk (by omega)⟩
theorem OwnWT.apart {w w' : World} {lo hi lo' hi' : Nat} {v : Value} {ss : List (List UInt8)} (h : OwnWT w lo hi v ss) (hw : Within lo' hi' w w') (hd : hi ≤ lo' ∨ hi' ≤ lo) : OwnWT w' lo hi v ss :=
  OwnW.keep h fun g hg => hw.block g (OwnW.blk h g hg).2.2.1 (by have := (OwnW.blk h g hg).1; have := (OwnW.blk h g hg).2.1; omega)
set_option maxHeartbeats 1000000 in
theorem markBench9 (v0 v1 : Value) (r : List Int) (s : List (List UInt8)) (lo hi a0 b0 a1 b1 : Nat) (w : World) (hl : r.length ≤ 1048576) (hn : s.length ≤ 1048576) (h0 : OwnI w a0 b0 v0 r) (h1 : OwnWT w a1 b1 v1 s) (hd : b0 ≤ a1 ∨ b1 ≤ a0) (l0 : lo ≤ a0) (l1 : lo ≤ a1) (u0 : b0 ≤ hi) (u1 : b1 ≤ hi) (hh : hi ≤ w.heap.size) :
    Calls Tryz.prog 14 #[.agg #[v0, v1], .int .i64 1] w fun e w' => e = .returned (.int .i64 ((1 + r.length + s.length : Nat) : Int)) ∧ OwnI w' a0 b0 v0 (mkI 1 r) ∧ OwnWT w' a1 b1 v1 (mtxs (1 + r.length) s.length) ∧ Within lo hi w w' := by
  obtain ⟨m, hm0⟩ : ∃ m, 1 + r.length = m := ⟨_, rfl⟩
  have hm : 1 ≤ m ∧ m + s.length ≤ 9999999 := by omega
  have hcast : (1 : Int) + (r.length : Int) = ((m : Nat) : Int) := by omega
  have HC := Lib.hid hcast; clear hcast
  rw [hm0]
  clear hm0
  obtain ⟨m2, hm2⟩ : ∃ m2, m + s.length = m2 := ⟨_, rfl⟩
  rw [hm2]
  have HM2 := Lib.hid hm2; clear hm2
  have hb : Below w.heap.size w (w.alloc (.cells #[v0, v1] 30)) := (Below.refl _ _).alloc (Nat.le_refl _) _
  have hbk := Blk.new w #[v0, v1] 30
  have H := Lib.hid (And.intro (h0.below hb) (And.intro (OwnW.below h1 hb) (And.intro hb hbk)))
  obtain ⟨A0, c0, rfl, _⟩ := h0.rd
  obtain ⟨A1, c1, rfl, _⟩ := h1.rd
  clear h0 h1 hb hbk
  obtain ⟨p0, p1, _, _⟩ := blk_pair H.out.2.2.2
  go_enter Tryz.func14, Tryz.ntmps14
  go_wp2_with fail
  refine (markI _ r 1 a0 b0 _ (by omega) (by unfold szI; omega) H.out.1).mono ?_
  rw [HC.out]
  rintro e w1 ⟨rfl, ho, hw⟩
  have hB := (hw.block w.heap.size (by simp) (by omega)).trans H.out.2.2.2
  obtain ⟨q0, q1, _, _⟩ := blk_pair (show Blk w1 w.heap.size _ 30 from hB)
  have X := Lib.hid (And.intro ((Within.of_below (lo := lo) (hi := hi) H.out.2.2.1).trans (hw.monoH l0 u0)) (And.intro (OwnWT.apart H.out.2.1 hw (by omega)) ho)); clear hw ho hB p0 p1
  go_wp2_with fail
  refine (markT9 _ s m a1 b1 _ hm X.out.2.1).mono ?_
  rw [HM2.out]
  rintro e w2 ⟨rfl, ho, hw⟩
  have Y := Lib.hid (And.intro (X.out.1.trans (hw.monoH l1 u1)) (And.intro (X.out.2.2.apart hw (by omega)) ho)); clear hw ho X
  go_wp2
  go_ret
  exact ⟨rfl, Y.out.2.1, Y.out.2.2, Y.out.1⟩
set_option maxHeartbeats 1000000 in
theorem heldBench9 (v0 v1 : Value) (r : List Int) (s : List (List UInt8)) (w : World) (hl : r.length ≤ 1048576) (hn : s.length ≤ 1048576) (h0 : RdI w v0 (mkI 1 r)) (h1 : RdT w v1 (mtxs (1 + r.length) s.length)) :
    Calls Tryz.prog 15 #[.agg #[v0, v1], .int .i64 1] w fun e w' => e = .returned (.int .i64 ((1 + r.length + s.length : Nat) : Int)) ∧ Below w.heap.size w w' := by
  obtain ⟨m, hm0⟩ : ∃ m, 1 + r.length = m := ⟨_, rfl⟩
  have hm : 1 ≤ m ∧ m + s.length ≤ 9999999 := by omega
  have hcast : (1 : Int) + (r.length : Int) = ((m : Nat) : Int) := by omega
  have HC := Lib.hid hcast; clear hcast
  rw [hm0] at h1 ⊢
  clear hm0
  obtain ⟨m2, hm2⟩ : ∃ m2, m + s.length = m2 := ⟨_, rfl⟩
  rw [hm2]
  have HM2 := Lib.hid hm2; clear hm2
  have hpos : ¬ ((m : Nat) : Int) < 0 := by omega
  have hpos2 : ¬ ((m2 : Nat) : Int) < 0 := by omega
  have hb : Below w.heap.size w (w.alloc (.cells #[v0, v1] 30)) := (Below.refl _ _).alloc (Nat.le_refl _) _
  have hbk := Blk.new w #[v0, v1] 30
  have H := Lib.hid (And.intro (h0.step hb) (And.intro (RdT.step h1 hb) (And.intro hb hbk)))
  obtain ⟨A0, c0, rfl, _⟩ := h0
  obtain ⟨A1, c1, rfl, _⟩ := h1
  clear hb hbk
  obtain ⟨p0, p1, _, _⟩ := blk_pair H.out.2.2.2
  go_enter Tryz.func15, Tryz.ntmps15
  go_wp2_with fail
  refine (heldI _ r 1 _ (by omega) (by unfold szI; omega) H.out.1).mono ?_
  rw [HC.out]
  rintro e w1 ⟨rfl, hb⟩
  obtain ⟨q0, q1, _, _⟩ := blk_pair (H.out.2.2.2.below hb (by simp))
  have X := Lib.hid (And.intro (H.out.2.2.1.trans (hb.mono (by simp))) (RdT.step H.out.2.1 hb)); clear hb p0 p1
  have hsz := X.out.1.size
  go_wp2_with fail
  refine (heldT9 _ s.length m _ hm X.out.2).mono ?_
  rw [HM2.out]
  rintro e w2 ⟨rfl, hb⟩
  have Y := Lib.hid (X.out.1.trans (hb.mono hsz)); clear hb X
  go_wp2
  go_ret
  exact ⟨rfl, Y.out⟩
end Go.Proofs.YtniolhdninpmmaaGreatDoor

/- Rows of deeds in the laws: compared, marked, found again. -/
namespace Go.Proofs.YtniolhdninpmmaaGreatDoor
set_option maxRecDepth 100000
open Go.RowKit Go.WideShapes Go.Deep

theorem eqDd_any (k : Int) (D : ByteArray) (w : World) :
    Calls Tryz.prog 52 #[.agg #[.int .i64 k, .string D], .agg #[.int .i64 k, .string D]] w fun e w' => e = .returned (.bool true) ∧ Below w.heap.size w w' := by
  have hb : Below w.heap.size w ((w.alloc (.cells #[.int .i64 k, .string D] 34)).alloc (.cells #[.int .i64 k, .string D] 34)) := ((Below.refl _ _).alloc (Nat.le_refl _) _).alloc (by simp) _
  have HB := Lib.hid hb; clear hb
  have hse : (D.toList == D.toList) = true := by simp
  go_enter Tryz.func52, Tryz.ntmps52
  go_wp2
  go_ret
  exact ⟨rfl, HB.out⟩

set_option maxHeartbeats 1000000 in
theorem eqDS (v u : Value) (xs : Deeds) (w : World) (hx : RdD w v xs) (hy : RdD w u xs) :
    Calls Tryz.prog 20 #[v, u] w fun e w' => e = .returned (.bool true) ∧ Below w.heap.size w w' := by
  have H := Lib.hid (And.intro hx hy)
  obtain ⟨A, c, rfl, hm, _⟩ := hx
  obtain ⟨A', c', rfl, hm', _⟩ := hy
  have hI : ((xs.length : Int) != xs.length) = false := by simp
  go_enter Tryz.func20, Tryz.ntmps20
  go_wp2
  go_loopw [5] (fun i wr => ∃ k : Nat, k ≤ xs.length ∧ i = .int .i64 k ∧ w.heap.size ≤ wr.heap.size ∧ Below w.heap.size w wr) (fun i _ => xs.length - (intOf i).toNat)
  case atStart => exact ⟨0, Nat.zero_le _, rfl, Nat.le_refl _, Below.refl _ _⟩
  case round =>
    obtain ⟨k, hk, rfl, hsz, hbk⟩ := hrel
    have X := Lib.hid hbk; clear hbk
    by_cases hlt : k < xs.length
    · obtain ⟨A2, c2, e2, _, hr⟩ := H.out.1
      cases e2
      obtain ⟨p, po, rfl, hp, hpc⟩ := hr (by omega)
      obtain ⟨A3, c3, e3, _, hr'⟩ := H.out.2
      cases e3
      obtain ⟨q, qo, rfl, hq, hqc⟩ := hr' (by omega)
      have hz : xs[k]? = some xs[k] := List.getElem?_eq_getElem hlt
      obtain ⟨d0, d1⟩ := hpc k _ hz
      obtain ⟨f0, f1⟩ := hqc k _ hz
      clear hz hpc hqc
      generalize xs[k] = x at *
      obtain ⟨x1, x2⟩ := x
      have hd : Below wr.heap.size wr wr.drew := (Below.refl _ _).drew
      have HD := Lib.hid hd
      have e0 := (X.out.cell (p := ⟨p, po + k * 2, none⟩) hp).trans d0
      have e1 := (X.out.cell (p := ⟨p, po + k * 2 + 1, none⟩) hp).trans d1
      have g0 := (X.out.cell (p := ⟨q, qo + k * 2, none⟩) hq).trans f0
      have g1 := (X.out.cell (p := ⟨q, qo + k * 2 + 1, none⟩) hq).trans f1
      dsimp only at e0 e1 g0 g1
      obtain ⟨D, hD⟩ : ∃ D : ByteArray, (⟨x2.toArray⟩ : ByteArray) = D := ⟨_, rfl⟩
      rw [hD] at e1 g1
      clear d0 d1 f0 f1 hD
      have hltI : (k : Int) < xs.length := by omega
      go_wp2_with fail
      go_region_with (go_at_call 52; refine (eqDd_any x1 D _).mono ?_; rintro e w2 ⟨rfl, hb2⟩)
      all_goals
        have hz2 : wr.heap.size ≤ w2.heap.size := hb2.size
        have Z := Lib.hid (X.out.trans ((HD.out.trans hb2).mono (by omega))); clear hb2 X hd
        go_wp2
        go_roundw
        case rel => exact ⟨k + 1, by omega, by go_num, by omega, Z.out⟩
        case measure => simp [intOf]; omega
    · go_wp2
      go_ret
      exact ⟨rfl, X.out⟩

/-- n deeds of marks: (a, m(a+1)), (a + 2, m(a+3)), .. -/
def mkD (a : Nat) : Nat → Deeds
  | 0 => []
  | n + 1 => ((a : Int), mtx (a + 1)) :: mkD (a + 2) n
theorem mkD_len (a n : Nat) : (mkD a n).length = n := by
  induction n generalizing a with
  | zero => rfl
  | succ n ih => simp [mkD, ih]
theorem mkD_get (a n k : Nat) (h : k < n) : (mkD a n)[k]? = some (((a + 2 * k : Nat) : Int), mtx (a + 2 * k + 1)) := by
  induction n generalizing a k with
  | zero => omega
  | succ n ih =>
    rcases k with _ | k
    · simp [mkD]
    · simp only [mkD, List.getElem?_cons_succ]
      rw [ih (a + 2) k (by omega), show a + 2 + 2 * k = a + 2 * (k + 1) by omega]
theorem mkD_snoc (a k : Nat) : mkD a (k + 1) = mkD a k ++ [(((a + 2 * k : Nat) : Int), mtx (a + 2 * k + 1))] := by
  apply List.ext_getElem?
  intro j
  by_cases hj : j < k
  · rw [mkD_get a (k + 1) j (by omega), List.getElem?_append_left (by rw [mkD_len]; omega), mkD_get a k j hj]
  · by_cases hj2 : j = k
    · subst hj2; rw [mkD_get a (j + 1) j (by omega), List.getElem?_append_right (by rw [mkD_len]; omega), mkD_len]; simp
    · rw [List.getElem?_eq_none (by rw [mkD_len]; omega), List.getElem?_eq_none (by simp [mkD_len]; omega)]
theorem mkD_set (ds : Deeds) (a k : Nat) (h : k < ds.length) : (mkD a k ++ ds.drop k).set k (((a + 2 * k : Nat) : Int), mtx (a + 2 * k + 1)) = mkD a (k + 1) ++ ds.drop (k + 1) := by
  rw [List.set_append_right _ _ (by rw [mkD_len]; omega), mkD_len, Nat.sub_self, List.drop_eq_getElem_cons h, List.set_cons_zero, mkD_snoc, List.append_assoc]
  rfl
theorem flatD_set {ds : Deeds} {k : Nat} {z : Int} {s : List UInt8} (h : k < ds.length) : ((flatD ds).set (k * 2) (.int .i64 z)).set (k * 2 + 1) (.string ⟨s.toArray⟩) = flatD (ds.set k (z, s)) := by
  induction ds generalizing k with
  | nil => simp at h
  | cons m ds ih =>
    rcases k with _ | k
    · simp [flatD_cons]
    · have := ih (k := k) (by simpa using h)
      rw [show (k + 1) * 2 = k * 2 + 1 + 1 from by omega]
      simpa [flatD_cons] using this

set_option maxHeartbeats 2000000 in
theorem markD (v : Value) (ds : Deeds) (lo hi : Nat) (w : World) (hl : ds.length ≤ 1048576) (h : OwnD w lo hi v ds) :
    Calls Tryz.prog 21 #[v, .int .i64 1] w fun e w' => e = .returned (.int .i64 (1 + 2 * (ds.length : Int))) ∧ OwnD w' lo hi v (mkD 1 ds.length) ∧ Within lo hi w w' := by
  have hlt := h.lt
  rcases h.own.2 with ⟨rfl, h0⟩ | ⟨g, cap, cur, rfl, hb, hh, h1, h2, _⟩
  · have hz : ds = [] := List.eq_nil_of_length_eq_zero h0
    subst hz
    go_enter Tryz.func21, Tryz.ntmps21
    go_wp2
    go_loop [1, 5] (fun a' i => i = .int .i64 0 ∧ a' = .int .i64 1) (fun _ _ => 0)
    case atStart => exact ⟨rfl, rfl⟩
    case round =>
      obtain ⟨rfl, rfl⟩ := hrel
      go_wp2
      go_ret
      exact ⟨ret_i64 (by simp), OwnD.nil _ _ _, Within.of_below (Below.refl _ _)⟩
  · have hgb := h.own.lt g rfl
    have hgi := hlt g rfl
    have hstart : w.ownsRow lo 34 2 (.slice (some ⟨g, 0, none⟩) ds.length cap) ds.length (flatD (mkD 1 0 ++ ds.drop 0)) := by simpa [mkD] using h.own
    clear h hh
    go_enter Tryz.func21, Tryz.ntmps21
    go_wp2
    go_loopw [1, 5] (fun a' i wr => ∃ k : Nat, k ≤ ds.length ∧ i = .int .i64 k ∧ a' = .int .i64 ((1 + 2 * k : Nat) : Int) ∧ Within lo hi w wr ∧ wr.ownsRow lo 34 2 (.slice (some ⟨g, 0, none⟩) ds.length cap) ds.length (flatD (mkD 1 k ++ ds.drop k))) (fun _ i _ => ds.length - (intOf i).toNat)
    case atStart => exact ⟨0, Nat.zero_le _, rfl, rfl, Within.of_below (Below.refl _ _), hstart⟩
    case round =>
      clear hstart
      obtain ⟨k, hk, rfl, rfl, hwk, hownk⟩ := hrel
      by_cases hltk : k < ds.length
      · have hltI : (k : Int) < ds.length := by omega
        have hfl : (flatD (mkD 1 k ++ ds.drop k)).length = ds.length * 2 := by rw [flatD_length]; simp [mkD_len]; omega
        have hst := hownk.stored (k * 2) (.int .i64 ((1 + 2 * k : Nat) : Int))
        have hfr := hownk.frozenAt (k * 2)
        obtain ⟨u, hold⟩ : ∃ u, wr.cell? ⟨g, k * 2, none⟩ = some u := by
          rw [hownk.cellAt (k * 2) (by omega)]
          exact ⟨_, List.getElem?_eq_getElem (by rw [hfl]; omega)⟩
        obtain ⟨q, hq⟩ : ∃ q : Nat, q = 1 + 2 * k := ⟨_, rfl⟩
        have hset := flatD_set (ds := mkD 1 k ++ ds.drop k) (k := k) (z := ((1 + 2 * k : Nat) : Int)) (s := mtx (1 + 2 * k + 1)) (by simp [mkD_len]; omega)
        rw [mkD_set ds 1 k hltk] at hset
        rw [← hq] at hst hset ⊢
        obtain ⟨q1, hq1⟩ : ∃ q1 : Nat, q1 = q + 1 := ⟨_, rfl⟩
        rw [← hq1] at hset
        have hq1b : 1 ≤ q1 ∧ q1 ≤ 9999999 := by omega
        have m1 : IntKind.i64.wrap ((q : Int) + 1) = (q1 : Int) := by rw [IntWalk.i64_in _ (by omega)]; omega
        have Q := Lib.hid (And.intro hq hq1); clear hq1
        clear hq
        have HS := Lib.hid hset; clear hset
        have Hst := Lib.hid (And.intro hst hwk); clear hst hwk hownk
        go_wp2_with fail
        refine (markText_any q1 _ hq1b.1 hq1b.2).mono ?_
        rintro e w2 ⟨rfl, hb2⟩
        have hz2 := hb2.size
        have hown2 := Hst.out.1.1.kept (row := none) (only_of_below hb2 none) (.inr (by simp [Value.ownBlock]))
        have hfr2 := hown2.frozenAt (k * 2 + 1)
        obtain ⟨u2, hold2⟩ : ∃ u, w2.cell? ⟨g, k * 2 + 1, none⟩ = some u := by
          rw [hown2.cellAt (k * 2 + 1) (by omega)]
          exact ⟨_, List.getElem?_eq_getElem (by rw [List.length_set, hfl]; omega)⟩
        have hst2 := hown2.stored (k * 2 + 1) (.string ⟨(mtx q1).toArray⟩)
        rw [HS.out] at hst2
        have Z := Lib.hid (And.intro (((Hst.out.2.trans (Within.of_only Hst.out.1.2 fun g' e => by cases e; exact ⟨hgb.1, hgi⟩)).trans (Within.of_below hb2)).trans (Within.of_only hst2.2 fun g' e => by cases e; exact ⟨hgb.1, hgi⟩)) hst2.1); clear hst2 hown2 hb2 Hst
        go_wp2
        go_roundw
        case rel => exact ⟨k + 1, by omega, by go_num, by have h9 := Q.out; go_num, Z.out.1, Z.out.2⟩
        case measure => simp [intOf]; omega
      · obtain rfl : k = ds.length := by omega
        rw [List.drop_length, List.append_nil] at hownk
        have Z := Lib.hid (And.intro hownk hwk); clear hownk hwk
        go_wp2
        go_ret
        exact ⟨ret_i64 (by omega), ⟨by rw [mkD_len]; exact Z.out.1, hlt⟩, Z.out.2⟩

end Go.Proofs.YtniolhdninpmmaaGreatDoor

/- The laws' helpers on rows of deeds: weighed, copied; what the reader gives of one. -/
namespace Go.Proofs.YtniolhdninpmmaaGreatDoor
set_option maxRecDepth 100000
open Go.RowKit Go.WideShapes Go.ChangeShapes Go.Deep

def texts9 (ds : Deeds) : List (List UInt8) := ds.map (·.2)
theorem texts9_len (ds : Deeds) : (texts9 ds).length = ds.length := by simp [texts9]
theorem szDn_any (n k : Int) (S : ByteArray) (w : World) (h : S.size ≤ 9223372036854775807) (hn : 0 ≤ n ∧ n ≤ 1048576) :
    Calls Tryz.prog 8 #[.agg #[.int .i64 k, .string S], .int .i64 n] w fun e w' => e = .returned (.int .i64 (if n - S.size < 0 then -1 else n - S.size)) ∧ Below w.heap.size w w' := by
  have hb : Below w.heap.size w (w.alloc (.cells #[.int .i64 k, .string S] 27)) := (Below.refl _ _).alloc (Nat.le_refl _) _
  have HB := Lib.hid hb; clear hb
  by_cases hq : n - S.size < 0
  · rw [if_pos hq]
    go_enter Tryz.func8, Tryz.ntmps8
    go_wp2
    go_ret
    exact ⟨rfl, HB.out⟩
  · rw [if_neg hq]
    go_enter Tryz.func8, Tryz.ntmps8
    go_wp2
    go_ret
    exact ⟨rfl, HB.out⟩

set_option maxHeartbeats 1000000 in
theorem szDS_any (v : Value) (ds : Deeds) (n : Int) (w : World) (h : RdD w v ds) (hn : 0 ≤ n ∧ n ≤ 1048576) (hwf : ∀ d ∈ ds, d.2.length ≤ 9223372036854775807) :
    Calls Tryz.prog 16 #[v, .int .i64 n] w fun e w' => e = .returned (.int .i64 (leftX n (texts9 ds))) ∧ Below w.heap.size w w' := by
  obtain ⟨A, c, rfl, hm, hr⟩ := h
  have Hr := Lib.hid hr; clear hr
  have HW := Lib.hid hwf; clear hwf
  by_cases h0 : n - (ds.length : Int) < 0
  · go_enter Tryz.func16, Tryz.ntmps16
    go_wp2
    go_ret
    exact ⟨ret_i64 (by rw [leftX, texts9_len, if_pos h0]), Below.refl _ _⟩
  · have Hq : Hid (leftX n (texts9 ds) = if n - (ds.length : Int) - (szT (texts9 ds) : Int) < 0 then -1 else n - (ds.length : Int) - (szT (texts9 ds) : Int)) := Lib.hid (by rw [leftX, texts9_len, if_neg h0])
    go_enter Tryz.func16, Tryz.ntmps16
    go_wp2
    go_loopw [1, 5] (fun a i wr => ∃ k : Nat, k ≤ ds.length ∧ i = .int .i64 k ∧ a = .int .i64 (n - (ds.length : Int) - (szT ((texts9 ds).take k) : Int)) ∧ 0 ≤ n - (ds.length : Int) - (szT ((texts9 ds).take k) : Int) ∧ Below w.heap.size w wr) (fun _ i _ => ds.length - (intOf i).toNat)
    case atStart => exact ⟨0, Nat.zero_le _, rfl, by simp [szT], by simp [szT]; omega, Below.refl _ _⟩
    case round =>
      obtain ⟨k, hk, rfl, rfl, hq, hbk⟩ := hrel
      have hzk := hbk.size
      by_cases hlt : k < ds.length
      · obtain ⟨b, off, rfl, hb, hc⟩ := Hr.out (by omega)
        obtain ⟨d, hd⟩ : ∃ d, ds[k]? = some d := ⟨_, List.getElem?_eq_getElem hlt⟩
        obtain ⟨q0, q1⟩ := hc k d hd
        have q0 := (hbk.cell (p := ⟨b, off + k * 2, none⟩) hb).trans q0
        have q1 := (hbk.cell (p := ⟨b, off + k * 2 + 1, none⟩) hb).trans q1
        have hts : (texts9 ds)[k]? = some d.2 := by simp [texts9, hd]
        have Hs := Lib.hid (szT_take_succ hts)
        have Hle := Lib.hid (szT_take_le (texts9 ds) (k + 1))
        have hSm := HW.out d (List.mem_of_getElem? hd)
        obtain ⟨d1, d2⟩ := d
        dsimp only at q0 q1 hSm Hs
        obtain ⟨S, hS⟩ : ∃ S : ByteArray, (⟨d2.toArray⟩ : ByteArray) = S := ⟨_, rfl⟩
        have HSz : Hid (S.size = d2.length) := Lib.hid (by rw [← hS]; simp [ByteArray.size])
        have hSm2 : S.size ≤ 9223372036854775807 := by rw [HSz.out]; exact hSm
        rw [hS] at q1
        have X := Lib.hid hbk
        clear hc hd hS hts hbk
        have hltI : (k : Int) < ds.length := by omega
        obtain ⟨t, HT⟩ : ∃ t, Hid (n - (ds.length : Int) - (szT ((texts9 ds).take k) : Int) = t) := ⟨_, Lib.hid rfl⟩
        have ht2 : t ≤ 1048576 := by rw [← HT.out]; omega
        rw [HT.out] at hq ⊢
        by_cases h1 : t - (S.size : Int) < 0
        · go_wp2_with fail
          refine (szDn_any t d1 S _ hSm2 ⟨hq, ht2⟩).mono ?_
          rw [if_pos (by omega)]
          rintro e w2 ⟨rfl, hb2⟩
          have Z := Lib.hid (X.out.trans (hb2.mono hzk)); clear hb2
          go_wp2
          go_ret
          exact ⟨ret_i64 (by rw [Hq.out, if_pos (by have h2 := Hle.out; have h3 := HSz.out; have h4 := HT.out; rw [Hs.out] at h2; omega)]), Z.out⟩
        · go_wp2_with fail
          refine (szDn_any t d1 S _ hSm2 ⟨hq, ht2⟩).mono ?_
          rw [if_neg (by omega)]
          rintro e w2 ⟨rfl, hb2⟩
          have Z := Lib.hid (X.out.trans (hb2.mono hzk)); clear hb2
          have hnn : ¬ t - (S.size : Int) < 0 := by omega
          go_wp2
          go_roundw
          case rel => exact ⟨k + 1, by omega, by go_num, by have h3 := HSz.out; have h4 := HT.out; rw [Hs.out, ← h3]; congr 1; omega, by have h3 := HSz.out; have h4 := HT.out; rw [Hs.out, ← h3]; omega, Z.out⟩
          case measure => simp [intOf]; omega
      · have hall : (texts9 ds).take k = texts9 ds := List.take_of_length_le (by rw [texts9_len]; omega)
        rw [hall] at hq ⊢
        have X := Lib.hid hbk; clear hbk
        go_wp2
        go_ret
        exact ⟨ret_i64 (by rw [Hq.out, if_neg (by omega)]), X.out⟩

theorem flatD_rep (n : Nat) : flatD (List.replicate n ((0 : Int), ([] : List UInt8))) = (madeCells #[.int .i64 0, .string ⟨#[]⟩] (n * 2)).toList := by
  apply List.ext_getElem
  · rw [flatD_length]; simp [madeCells]
  intro i h1 h2
  rw [flatD_length, List.length_replicate] at h1
  have hg := flatD_get (ds := List.replicate n ((0 : Int), ([] : List UInt8))) (k := i / 2) (d := (0, [])) (by rw [List.getElem?_replicate, if_pos (by omega)])
  rcases Nat.mod_two_eq_zero_or_one i with h | h
  · have e := hg.1
    rw [show i / 2 * 2 = i by omega, List.getElem?_eq_getElem (by rw [flatD_length]; simp; omega)] at e
    rw [Option.some.inj e]
    simp [madeCells, h]
  · have e := hg.2
    rw [show i / 2 * 2 + 1 = i by omega, List.getElem?_eq_getElem (by rw [flatD_length]; simp; omega)] at e
    rw [Option.some.inj e]
    simp [madeCells, h]
def fillD (ds : Deeds) (k : Nat) : Deeds := ds.take k ++ List.replicate (ds.length - k) ((0 : Int), ([] : List UInt8))
theorem fillD_len (ds : Deeds) (k : Nat) (h : k ≤ ds.length) : (fillD ds k).length = ds.length := by simp [fillD]; omega
theorem fillD_next {ds : Deeds} {k : Nat} {z : Int × List UInt8} (h : ds[k]? = some z) : (fillD ds k).set k z = fillD ds (k + 1) := by
  obtain ⟨hk, _⟩ := List.getElem?_eq_some_iff.1 h
  have hl : (ds.take k).length = k := by rw [List.length_take]; omega
  unfold fillD
  rw [show ds.length - k = (ds.length - (k + 1)) + 1 from by omega, List.replicate_succ, List.set_append_right _ _ (by omega), hl, Nat.sub_self, List.set_cons_zero, List.take_add_one, h]
  simp

set_option maxHeartbeats 1000000 in
theorem toDS (v : Value) (ds : Deeds) (w : World) (h : RdD w v ds) (hl : ds.length ≤ 1048576) :
    Calls Tryz.prog 18 #[v] w fun e w' => ∃ u, e = .returned u ∧ OwnD w' w.heap.size w'.heap.size u ds ∧ Below w.heap.size w w' := by
  obtain ⟨i0, hi0, hz0, hz1, hz2⟩ := info_parts deedInfo
  have H := Lib.hid h
  obtain ⟨A, c, rfl, hm, _⟩ := h
  go_enter Tryz.func18, Tryz.ntmps18
  go_wp2_with (at_make; refine wpList_make_full _ rfl _ _ _ rfl w.heap.size 34 i0 (.agg #[.int .i64 0, .string ⟨#[]⟩]) 2 Tryz.underlying43 hi0 hz0 hz1 _ _ _ _ ds.length rfl rfl rfl rfl ?c1 ?c2 ?c3 ?_)
  case c1 => rw [hz2]; omega
  case c2 => unfold maxLen; omega
  case c3 => simp
  intro w1 hown1 hg1
  have hb1 : Below w.heap.size w w1 := below_of_only hg1 (Nat.le_refl _) (by simp)
  have hlt1 : w.heap.size < w1.heap.size := (hown1.lt w.heap.size rfl).2
  have hstart : w1.ownsRow w.heap.size 34 2 (.slice (some ⟨w.heap.size, 0, none⟩) ds.length ds.length) ds.length (flatD (fillD ds 0)) := by
    have e : fillD ds 0 = List.replicate ds.length ((0 : Int), ([] : List UInt8)) := by simp [fillD]
    rw [e, flatD_rep]; exact hown1
  clear hown1 hg1
  generalize hG : w.heap.size = g at *
  have HG := Lib.hid hG; clear hG
  go_wp2
  go_loopw [4] (fun i wr => ∃ k : Nat, k ≤ ds.length ∧ i = .int .i64 k ∧ g < wr.heap.size ∧ Below g w wr ∧ wr.ownsRow g 34 2 (.slice (some ⟨g, 0, none⟩) ds.length ds.length) ds.length (flatD (fillD ds k))) (fun i _ => ds.length - (intOf i).toNat)
  case atStart => exact ⟨0, Nat.zero_le _, rfl, hlt1, hb1, hstart⟩
  case round =>
    clear hb1 hstart hlt1
    obtain ⟨k, hk, rfl, hsz, hbk, hownk⟩ := hrel
    by_cases hlt : k < ds.length
    · obtain ⟨A2, c2, e2, _, hr⟩ := H.out
      cases e2
      obtain ⟨b, off, rfl, hbb, hcc⟩ := hr (by omega)
      rw [HG.out] at hbb
      have hz : ds[k]? = some ds[k] := List.getElem?_eq_getElem hlt
      obtain ⟨d0, d1⟩ := hcc k _ hz
      have hfn := fillD_next hz
      have hfl := fillD_len ds k hk
      have hffl := flatD_length (fillD ds k)
      generalize ds[k] = m at *
      obtain ⟨z1, z2⟩ := m
      have e0 := (hbk.cell (p := ⟨b, off + k * 2, none⟩) hbb).trans d0
      have e1 := (hbk.cell (p := ⟨b, off + k * 2 + 1, none⟩) hbb).trans d1
      dsimp only at e0 e1
      obtain ⟨D, hD⟩ : ∃ D : ByteArray, (⟨z2.toArray⟩ : ByteArray) = D := ⟨_, rfl⟩
      have hset := flatD_set (ds := fillD ds k) (k := k) (z := z1) (s := z2) (by omega)
      rw [hfn, hD] at hset
      rw [hD] at e1
      have X := Lib.hid (And.intro hbk (And.intro hownk (And.intro hset (show (flatD (fillD ds k)).length = ds.length * 2 by omega)))); clear hbk hownk hfn d0 d1 hcc hz H hset hfl hffl hD
      have hltI : (k : Int) < ds.length := by omega
      go_wp2_with fail
      refine (toD_any z1 D _).mono ?_
      rintro e w2 ⟨rfl, hb2⟩
      have hz2 := hb2.size
      have hown2 := X.out.2.1.kept (row := none) (only_of_below hb2 none) (.inr (by simp [Value.ownBlock]))
      obtain ⟨y0, c0⟩ : ∃ y, w2.cell? ⟨g, k * 2, none⟩ = some y := ⟨_, (hown2.cellAt (k * 2) (by omega)).trans (List.getElem?_eq_getElem (by rw [X.out.2.2.2]; omega))⟩
      obtain ⟨y1, c1⟩ : ∃ y, w2.cell? ⟨g, k * 2 + 1, none⟩ = some y := ⟨_, (hown2.cellAt (k * 2 + 1) (by omega)).trans (List.getElem?_eq_getElem (by rw [X.out.2.2.2]; omega))⟩
      have f0 := hown2.frozenAt (k * 2)
      have f1 := hown2.frozenAt (k * 2 + 1)
      have hst := ((hown2.stored (k * 2) (.int .i64 z1)).1.stored (k * 2 + 1) (.string D)).1
      rw [X.out.2.2.1] at hst
      have Y := Lib.hid (And.intro (show Below g w ((w2.setCell ⟨g, k * 2, none⟩ (.int .i64 z1)).setCell ⟨g, k * 2 + 1, none⟩ (.string D)) from ((X.out.1.trans (hb2.mono (by omega))).setCell (Nat.le_refl g) _).setCell (Nat.le_refl g) _) hst)
      clear hst hown2 hb2 X
      go_wp2
      go_roundw
      case rel => exact ⟨k + 1, by omega, by go_num, by simp; omega, Y.out⟩
      case measure => simp [intOf]; omega
    · have hke : k = ds.length := by omega
      go_wp2
      go_ret
      refine ⟨_, rfl, ?_, by rw [HG.out]; exact hbk⟩
      rw [HG.out]
      subst hke
      have e : fillD ds ds.length = ds := by simp [fillD]
      rw [e] at hownk
      refine ⟨hownk, fun q hq => ?_⟩
      simp [Value.ownBlock] at hq; omega
theorem list_of_each9 {α : Type} {Q : Nat → α → Prop} : ∀ n : Nat, (∀ i, i < n → ∃ x, Q i x) → ∃ xs : List α, xs.length = n ∧ ∀ (i : Nat) x, xs[i]? = some x → Q i x := by
  intro n
  induction n with
  | zero => intro _; exact ⟨[], rfl, fun i x h => by simp at h⟩
  | succ n ih =>
    intro h
    obtain ⟨xs, hl, hq⟩ := ih fun i hi => h i (by omega)
    obtain ⟨x, hx⟩ := h n (by omega)
    refine ⟨xs ++ [x], by simp [hl], fun i y hy => ?_⟩
    by_cases hi : i < n
    · rw [List.getElem?_append_left (by omega)] at hy; exact hq i y hy
    · by_cases he : i = n
      · subst he
        rw [List.getElem?_append_right (by omega), hl, Nat.sub_self] at hy
        simp at hy; subst hy; exact hx
      · rw [List.getElem?_eq_none (by simp; omega)] at hy; cases hy
theorem deeds_of_fuel {H : Type} {enc : TypeId × Value → H} {P : Program} {W : World} {t e : TypeId} {f0 f1 : Field} {fuel base : Nat} {v : Value} {x : DataW H × List MemPlace}
    (ht : P.underlying t = some (.slice e)) (he : P.underlying e = some (.struct #[f0, f1])) (h0 : P.underlying f0.type = some (.int .i64)) (h1 : P.underlying f1.type = some .string)
    (hone : oneCellFields P #[f0, f1] = true) (hC : P.cellsOf e = 2)
    (hf : DataW.trod enc P W base (fun _ => true) true fuel t [v] = some x) : ∃ A c ds, v = .slice A ds.length c ∧ RdD W v ds ∧ ∀ d ∈ ds, d.2.length ≤ 9223372036854775807 := by
  rcases open_slice ht hf with ⟨hcs, _⟩ | ⟨a, len, cap, m, n, D, Pl, hcs, _, hl, hm, hmm, _, hi⟩
  · obtain rfl : v = .slice none 0 0 := by simpa using hcs
    exact ⟨none, 0, [], rfl, ⟨none, 0, rfl, by simp, fun h => by simp at h⟩, by simp⟩
  · obtain rfl : v = .slice (some a) len cap := by simpa using hcs
    have hml : len ≤ m := by rw [hmm]; simp; exact hl
    have each : ∀ i, i < len → ∃ z : Int × List UInt8, W.cell? (a.add (i * 2)) = some (.int .i64 z.1) ∧ W.cell? (a.add (i * 2 + 1)) = some (.string ⟨z.2.toArray⟩) ∧ z.2.length ≤ 9223372036854775807 := by
      intro i hil
      obtain ⟨cs', hc, ht'⟩ := hi i (by omega)
      rw [hC] at hc
      obtain ⟨ys, n', _, _, _, hyl, hfs⟩ := DataW.trod_struct he ht'
      obtain ⟨_, hcl, hat⟩ := World.cells?_some hc
      match cs', hcl, ys, hyl with
      | [c0, c1], _, [y0, y1], _ =>
        obtain ⟨o0, k0⟩ := hone_of hone 0 f0 rfl
        obtain ⟨o1, k1⟩ := hone_of hone 1 f1 rfl
        have g0 := hfs 0 f0 rfl
        have g1 := hfs 1 f1 rfl
        rw [o0, k0] at g0
        rw [o1, k1] at g1
        have a0 := hat 0 (by omega)
        have a1 := hat 1 (by omega)
        have g0' : DataW.trod enc P W base (fun _ => true) true n' f0.type [c0] = some y0 := g0
        have g1' : DataW.trod enc P W base (fun _ => true) true n' f1.type [c1] = some y1 := g1
        obtain ⟨z0, hz0, _⟩ := DataW.trod_int h0 g0'
        obtain ⟨S, hz1, _, hzz⟩ := DataW.trod_string h1 g1'
        obtain rfl : c0 = .int .i64 z0 := by simpa using hz0
        obtain rfl : c1 = .string S := by simpa using hz1
        refine ⟨(z0, bytesOf S), ?_, ?_, ?_⟩
        · rw [Go.Deep.add_add, Nat.add_zero] at a0; simpa using a0
        · rw [Go.Deep.add_add] at a1; rw [ba_eta]; simpa using a1
        · rw [bytes_len]; unfold maxLen at hzz; exact hzz
    obtain ⟨ds, hlen, hms⟩ := list_of_each9 len each
    refine ⟨some a, cap, ds, by rw [hlen], ⟨some a, cap, by rw [hlen], by rw [hlen]; unfold maxLen at hm; omega, fun hp => ?_⟩, fun d hd => ?_⟩
    · rw [hlen] at hp
      obtain ⟨z, hz0, _⟩ := each 0 hp
      have h3 := spot_of_cell hz0
      simp only [Addr.add, Nat.zero_mul, Nat.add_zero] at h3
      obtain ⟨b, off, sp⟩ := a
      obtain rfl : sp = none := by simpa using congrArg Addr.spot h3
      refine ⟨b, off, rfl, lt_of_cell (by simpa [Addr.add] using hz0), fun j z' hj => ?_⟩
      have h9 := hms j z' hj
      rw [add_plain, add_plain] at h9
      exact ⟨h9.1, h9.2.1⟩
    · obtain ⟨j, hj, e⟩ := List.getElem_of_mem hd
      exact (hms j d (by rw [List.getElem?_eq_getElem hj, e])).2.2
theorem deeds_of_trod {H : Type} {enc : TypeId × Value → H} {W : World} {v : Value} {d : DataW H} {ps : List MemPlace} {base : Nat}
    (hval : Value.okWide Tryz.prog W .any base 39 v) (h : DataW.Trod enc Tryz.prog W 0 (fun _ => true) true 39 v d ps) : ∃ A c ds, v = .slice A ds.length c ∧ (RdD W (.slice A ds.length c) ds ∧ ∀ d ∈ ds, d.2.length ≤ 9223372036854775807) := by
  obtain ⟨a0, len, cap, rfl⟩ := okWide_slice Tryz.underlying39 hval
  obtain ⟨fuel, hf⟩ := h
  obtain ⟨A, c, ds, hv, hds, hz⟩ := deeds_of_fuel Tryz.underlying39 Tryz.underlying27 Tryz.underlying3 Tryz.underlying9 (by kernel_rfl) (by kernel_rfl) (by simpa [Value.cells] using hf)
  exact ⟨A, c, ds, hv, by rw [← hv]; exact hds, hz⟩
end Go.Proofs.YtniolhdninpmmaaGreatDoor

/- What the exact laws of benches want: weights, marks of deeds from a number on, a bench's marks in one interval. -/
namespace Go.Proofs.YtniolhdninpmmaaGreatDoor
set_option maxRecDepth 100000
open Go.RowKit Go.WideShapes Go.ChangeShapes Go.Deep

theorem leftB_le (r : List Int) (ps : List (List UInt8)) : leftB 1048576 r ps ≤ 1048576 := by
  unfold leftB leftX
  split
  · omega
  · split
    · omega
    · split <;> omega
theorem leftX_okD {n : Int} {ds : Deeds} (hn : 0 ≤ n ∧ n ≤ 1048576) (h : ¬ leftX n (texts9 ds) < 0) : ds.length ≤ 1048576 ∧ (∀ d ∈ ds, d.2.length ≤ 1048576) ∧ True := by
  obtain ⟨h1, h2, _⟩ := leftX_ok h
  rw [texts9_len] at h1
  refine ⟨by omega, fun d hd => ?_, trivial⟩
  have := szT_mem (show d.2 ∈ texts9 ds from List.mem_map_of_mem hd)
  omega
theorem benchRunR_len {n : List Int} {ps : List (List UInt8)} {ds : Deeds} {n' : List Int} {ps' : List (List UInt8)} {c : Int} (h : benchRunR n ps ds = ((n', ps'), c)) : n'.length ≤ 60 ∧ ps'.length ≤ 20 ∧ ∀ t ∈ ps', t.length ≤ 400 := by
  unfold benchRunR at h
  split at h
  · rename_i h0
    have h1 := (deedsR_ok ds (c := 0) h0.1).1
    injection h with h _
    rw [h] at h1
    obtain ⟨h2, h3, h4⟩ := benchB_parts h1
    exact ⟨(bsB_valid h2).2, h3, fun t ht => tsB_len (h4 t ht)⟩
  · cases h; simp
theorem ownI_oneH {w : World} {L H : Nat} {v : Value} {zs : List Int} (h : OwnI w L H v zs) (hLH : L ≤ H) : ∃ a b, L ≤ a ∧ a ≤ b ∧ b ≤ H ∧ OwnI w a b v zs ∧ (v.ownBlock = none ∧ a = b ∨ v.ownBlock = some a ∧ b = a + 1) := by
  rcases h.own.own.2 with ⟨rfl, h0⟩ | ⟨g, cap, cur, rfl, hb, hh, h1⟩
  · exact ⟨L, L, Nat.le_refl _, Nat.le_refl _, hLH, ⟨⟨⟨h.own.own.1, .inl ⟨rfl, h0⟩⟩, h.own.wf⟩, by simp [Value.ownBlock]⟩, .inl ⟨rfl, rfl⟩⟩
  · have hg := h.lt g rfl
    exact ⟨g, g + 1, hb, by omega, by omega, ⟨⟨⟨h.own.own.1, .inr ⟨g, cap, cur, rfl, Nat.le_refl _, hh, h1⟩⟩, h.own.wf⟩, fun k hk => by simp [Value.ownBlock] at hk; omega⟩, .inr ⟨rfl, rfl⟩⟩
theorem ownT_oneH {w : World} {L H : Nat} {v : Value} {ss : List (List UInt8)} (h : OwnWT w L H v ss) (hLH : L ≤ H) : ∃ a b, L ≤ a ∧ a ≤ b ∧ b ≤ H ∧ OwnWT w a b v ss ∧ (v.ownBlock = none ∧ a = b ∨ v.ownBlock = some a ∧ b = a + 1) := by
  rcases h with ⟨rfl, h0⟩ | ⟨g, off, cap, cur, rfl, h1, h2, h3⟩
  · exact ⟨L, L, Nat.le_refl _, Nat.le_refl _, hLH, .inl ⟨rfl, h0⟩, .inl ⟨rfl, rfl⟩⟩
  · exact ⟨g, g + 1, h1, by omega, by omega, .inr ⟨g, off, cap, cur, rfl, Nat.le_refl _, by omega, h3⟩, .inr ⟨rfl, rfl⟩⟩
theorem markBenchLH (v0 v1 : Value) (r : List Int) (s : List (List UInt8)) (L H : Nat) (w : World) (hl : r.length ≤ 1048576) (hn : s.length ≤ 1048576) (h0 : OwnI w L H v0 r) (h1 : OwnWT w L H v1 s) (hLH : L ≤ H) (hh : H ≤ w.heap.size) :
    Calls Tryz.prog 14 #[.agg #[v0, v1], .int .i64 1] w fun e w' => e = .returned (.int .i64 ((1 + r.length + s.length : Nat) : Int)) ∧ OwnI w' L H v0 (mkI 1 r) ∧ OwnWT w' L H v1 (mtxs (1 + r.length) s.length) ∧ Within L H w w' := by
  have hne : v0.ownBlock = none ∨ v0.ownBlock ≠ v1.ownBlock := h0.own.neT h1
  obtain ⟨a0, b0, k1, k2, k3, h0', k4⟩ := ownI_oneH h0 hLH
  obtain ⟨a1, b1, j1, j2, j3, h1', j4⟩ := ownT_oneH h1 hLH
  have hd : b0 ≤ a1 ∨ b1 ≤ a0 := by
    rcases k4 with ⟨_, k4⟩ | ⟨k4, k5⟩
    · rcases j4 with ⟨_, j4⟩ | ⟨_, j4⟩ <;> omega
    · rcases j4 with ⟨_, j4⟩ | ⟨j4, j5⟩
      · omega
      · rcases hne with hne | hne
        · rw [k4] at hne; cases hne
        · rw [k4, j4] at hne
          simp only [ne_eq, Option.some.injEq] at hne
          omega
  refine (markBench9 v0 v1 r s L H a0 b0 a1 b1 w hl hn h0' h1' hd k1 j1 k3 j3 hh).mono ?_
  rintro e w' ⟨rfl, m0, m1, hw⟩
  exact ⟨rfl, ⟨m0.own.mono k1, fun g hg => by have := m0.lt g hg; omega⟩, m1.mono j1 j3, hw⟩
set_option maxHeartbeats 2000000 in
theorem markDn (v : Value) (ds : Deeds) (n9 lo hi : Nat) (w : World) (hl : ds.length ≤ 1048576) (hn9 : 1 ≤ n9 ∧ n9 ≤ 2097153) (h : OwnD w lo hi v ds) :
    Calls Tryz.prog 21 #[v, .int .i64 (n9 : Nat)] w fun e w' => e = .returned (.int .i64 ((n9 + 2 * ds.length : Nat) : Int)) ∧ OwnD w' lo hi v (mkD n9 ds.length) ∧ Within lo hi w w' := by
  have hlt := h.lt
  rcases h.own.2 with ⟨rfl, h0⟩ | ⟨g, cap, cur, rfl, hb, hh, h1, h2, _⟩
  · have hz : ds = [] := List.eq_nil_of_length_eq_zero h0
    subst hz
    go_enter Tryz.func21, Tryz.ntmps21
    go_wp2
    go_loop [1, 5] (fun a' i => i = .int .i64 0 ∧ a' = .int .i64 (n9 : Nat)) (fun _ _ => 0)
    case atStart => exact ⟨rfl, rfl⟩
    case round =>
      obtain ⟨rfl, rfl⟩ := hrel
      go_wp2
      go_ret
      exact ⟨ret_i64 (by simp), OwnD.nil _ _ _, Within.of_below (Below.refl _ _)⟩
  · have hgb := h.own.lt g rfl
    have hgi := hlt g rfl
    have hstart : w.ownsRow lo 34 2 (.slice (some ⟨g, 0, none⟩) ds.length cap) ds.length (flatD (mkD n9 0 ++ ds.drop 0)) := by simpa [mkD] using h.own
    clear h hh
    go_enter Tryz.func21, Tryz.ntmps21
    go_wp2
    go_loopw [1, 5] (fun a' i wr => ∃ k : Nat, k ≤ ds.length ∧ i = .int .i64 k ∧ a' = .int .i64 ((n9 + 2 * k : Nat) : Int) ∧ Within lo hi w wr ∧ wr.ownsRow lo 34 2 (.slice (some ⟨g, 0, none⟩) ds.length cap) ds.length (flatD (mkD n9 k ++ ds.drop k))) (fun _ i _ => ds.length - (intOf i).toNat)
    case atStart => exact ⟨0, Nat.zero_le _, rfl, rfl, Within.of_below (Below.refl _ _), hstart⟩
    case round =>
      clear hstart
      obtain ⟨k, hk, rfl, rfl, hwk, hownk⟩ := hrel
      by_cases hltk : k < ds.length
      · have hltI : (k : Int) < ds.length := by omega
        have hfl : (flatD (mkD n9 k ++ ds.drop k)).length = ds.length * 2 := by rw [flatD_length]; simp [mkD_len]; omega
        have hst := hownk.stored (k * 2) (.int .i64 ((n9 + 2 * k : Nat) : Int))
        have hfr := hownk.frozenAt (k * 2)
        obtain ⟨u, hold⟩ : ∃ u, wr.cell? ⟨g, k * 2, none⟩ = some u := by
          rw [hownk.cellAt (k * 2) (by omega)]
          exact ⟨_, List.getElem?_eq_getElem (by rw [hfl]; omega)⟩
        obtain ⟨q, hq⟩ : ∃ q : Nat, q = n9 + 2 * k := ⟨_, rfl⟩
        have hset := flatD_set (ds := mkD n9 k ++ ds.drop k) (k := k) (z := ((n9 + 2 * k : Nat) : Int)) (s := mtx (n9 + 2 * k + 1)) (by simp [mkD_len]; omega)
        rw [mkD_set ds n9 k hltk] at hset
        rw [← hq] at hst hset ⊢
        obtain ⟨q1, hq1⟩ : ∃ q1 : Nat, q1 = q + 1 := ⟨_, rfl⟩
        rw [← hq1] at hset
        have hq1b : 1 ≤ q1 ∧ q1 ≤ 9999999 := by omega
        have m1 : IntKind.i64.wrap ((q : Int) + 1) = (q1 : Int) := by rw [IntWalk.i64_in _ (by omega)]; omega
        have Q := Lib.hid (And.intro hq hq1); clear hq1
        clear hq
        have HS := Lib.hid hset; clear hset
        have Hst := Lib.hid (And.intro hst hwk); clear hst hwk hownk
        go_wp2_with fail
        refine (markText_any q1 _ hq1b.1 hq1b.2).mono ?_
        rintro e w2 ⟨rfl, hb2⟩
        have hz2 := hb2.size
        have hown2 := Hst.out.1.1.kept (row := none) (only_of_below hb2 none) (.inr (by simp [Value.ownBlock]))
        have hfr2 := hown2.frozenAt (k * 2 + 1)
        obtain ⟨u2, hold2⟩ : ∃ u, w2.cell? ⟨g, k * 2 + 1, none⟩ = some u := by
          rw [hown2.cellAt (k * 2 + 1) (by omega)]
          exact ⟨_, List.getElem?_eq_getElem (by rw [List.length_set, hfl]; omega)⟩
        have hst2 := hown2.stored (k * 2 + 1) (.string ⟨(mtx q1).toArray⟩)
        rw [HS.out] at hst2
        have Z := Lib.hid (And.intro (((Hst.out.2.trans (Within.of_only Hst.out.1.2 fun g' e => by cases e; exact ⟨hgb.1, hgi⟩)).trans (Within.of_below hb2)).trans (Within.of_only hst2.2 fun g' e => by cases e; exact ⟨hgb.1, hgi⟩)) hst2.1); clear hst2 hown2 hb2 Hst
        go_wp2
        go_roundw
        case rel => exact ⟨k + 1, by omega, by go_num, by have h9 := Q.out; go_num, Z.out.1, Z.out.2⟩
        case measure => simp [intOf]; omega
      · obtain rfl : k = ds.length := by omega
        rw [List.drop_length, List.append_nil] at hownk
        have Z := Lib.hid (And.intro hownk hwk); clear hownk hwk
        go_wp2
        go_ret
        exact ⟨rfl, ⟨by rw [mkD_len]; exact Z.out.1, hlt⟩, Z.out.2⟩

end Go.Proofs.YtniolhdninpmmaaGreatDoor
