/- The laws' helpers on rows of strings: lengths, copies, comparisons. -/
import Derived.Test.YtdabbjlefpgkmaaDoorNb
import Derived.Test.YtdabbjlefpgkmaaDoorNd
namespace Go.Proofs.YtdabbjlefpgkmaaDoor
set_option maxRecDepth 100000
open Go.RowKit Go.WideShapes

def szT : List (List UInt8) → Nat
  | [] => 0
  | s :: r => s.length + szT r
def leftX (n : Int) (ss : List (List UInt8)) : Int := if n - (ss.length : Int) < 0 then -1 else if n - (ss.length : Int) - (szT ss : Int) < 0 then -1 else n - (ss.length : Int) - (szT ss : Int)
theorem leftX_ok {n : Int} {ss : List (List UInt8)} (h : ¬ leftX n ss < 0) : (ss.length : Int) ≤ n ∧ (szT ss : Int) ≤ n ∧ leftX n ss = n - (ss.length : Int) - (szT ss : Int) := by
  unfold leftX at h ⊢
  split at h
  · omega
  · rename_i h1
    split at h
    · omega
    · rename_i h2
      rw [if_neg h1, if_neg h2]; omega
theorem szT_mem {ss : List (List UInt8)} {s : List UInt8} (h : s ∈ ss) : s.length ≤ szT ss := by
  induction ss with
  | nil => cases h
  | cons a r ih =>
    rw [szT]
    rcases List.mem_cons.1 h with rfl | h
    · omega
    · have := ih h; omega
theorem szT_app (a b : List (List UInt8)) : szT (a ++ b) = szT a + szT b := by
  induction a with
  | nil => simp [szT]
  | cons s r ih => rw [List.cons_append, szT, szT, ih]; omega
theorem szT_take_succ {ss : List (List UInt8)} {k : Nat} {s : List UInt8} (h : ss[k]? = some s) : szT (ss.take (k + 1)) = szT (ss.take k) + s.length := by
  rw [List.take_add_one, h, szT_app]; simp [szT]
theorem szT_take_le (ss : List (List UInt8)) (k : Nat) : szT (ss.take k) ≤ szT ss := by
  have := szT_app (ss.take k) (ss.drop k)
  rw [List.take_append_drop] at this; omega

theorem szX_any (v : Value) (ss : List (List UInt8)) (n : Int) (w : World) (h : RdT w v ss) (hn : 0 ≤ n ∧ n ≤ 1048576) (hwf : ∀ s ∈ ss, s.length ≤ 9223372036854775807) :
    Calls Tryd.prog 38 #[v, .int .i64 n] w fun e w' => e = .returned (.int .i64 (leftX n ss)) ∧ w = w' := by
  obtain ⟨A, c, rfl, _, hm, hr⟩ := h
  have Hr := Lib.hid hr; clear hr
  have HW := Lib.hid hwf; clear hwf
  by_cases h0 : n - (ss.length : Int) < 0
  · go_enter Tryd.func38, Tryd.ntmps38
    go_wp2
    go_ret
    exact ⟨ret_i64 (by rw [leftX, if_pos h0]), rfl⟩
  · have Hq : Hid (leftX n ss = if n - (ss.length : Int) - (szT ss : Int) < 0 then -1 else n - (ss.length : Int) - (szT ss : Int)) := Lib.hid (by rw [leftX, if_neg h0])
    go_enter Tryd.func38, Tryd.ntmps38
    go_wp2
    go_loop [1, 5] (fun a i => ∃ k : Nat, k ≤ ss.length ∧ i = .int .i64 k ∧ a = .int .i64 (n - (ss.length : Int) - (szT (ss.take k) : Int)) ∧ 0 ≤ n - (ss.length : Int) - (szT (ss.take k) : Int)) (fun _ i => ss.length - (intOf i).toNat)
    case atStart => exact ⟨0, Nat.zero_le _, rfl, by simp [szT], by simp [szT]; omega⟩
    case round =>
      obtain ⟨k, hk, rfl, rfl, hq⟩ := hrel
      by_cases hlt : k < ss.length
      · obtain ⟨b, off, rfl, hb, hc⟩ := Hr.out (by omega)
        obtain ⟨s, hs⟩ : ∃ s, ss[k]? = some s := ⟨_, List.getElem?_eq_getElem hlt⟩
        have hcell := hc k s hs
        have Hs := Lib.hid (szT_take_succ hs)
        have Hle := Lib.hid (szT_take_le ss (k + 1))
        obtain ⟨S, hS⟩ : ∃ S : ByteArray, (⟨s.toArray⟩ : ByteArray) = S := ⟨_, rfl⟩
        have HSz : Hid (S.size = s.length) := Lib.hid (by rw [← hS]; simp [ByteArray.size])
        have hSm : S.size ≤ 9223372036854775807 := by rw [HSz.out]; exact HW.out s (List.mem_of_getElem? hs)
        rw [hS] at hcell
        clear hc hs hS
        have hltI : (k : Int) < ss.length := by omega
        obtain ⟨t, HT⟩ : ∃ t, Hid (szT (ss.take k) = t) := ⟨_, Lib.hid rfl⟩
        rw [HT.out] at hq ⊢
        by_cases h1 : n - (ss.length : Int) - (t : Int) - (S.size : Int) < 0
        · go_wp2
          go_ret
          exact ⟨ret_i64 (by rw [Hq.out, if_pos (by have h2 := Hle.out; have h3 := HSz.out; rw [Hs.out, HT.out] at h2; omega)]), rfl⟩
        · go_wp2
          go_round
          case rel => exact ⟨k + 1, by omega, by go_num, by rw [Hs.out, HT.out, ← HSz.out]; go_num, by rw [Hs.out, HT.out, ← HSz.out]; omega⟩
          case measure => simp [intOf]; omega
      · have hall : ss.take k = ss := List.take_of_length_le (by omega)
        rw [hall] at hq ⊢
        go_wp2
        go_ret
        exact ⟨ret_i64 (by rw [Hq.out, if_neg (by omega)]), rfl⟩

/-- What has been copied, and what is still empty. -/
def fillT (ss : List (List UInt8)) (k : Nat) : List (List UInt8) := ss.take k ++ List.replicate (ss.length - k) []
theorem fillT_len (ss : List (List UInt8)) (k : Nat) (hk : k ≤ ss.length) : (fillT ss k).length = ss.length := by simp [fillT]; omega
theorem strVals_set9 (ss : List (List UInt8)) (k : Nat) (z : List UInt8) : (strVals ss).set k (.string ⟨z.toArray⟩) = strVals (ss.set k z) := by simp [strVals, List.map_set]
theorem fillT_set {ss : List (List UInt8)} {k : Nat} {s : List UInt8} (h : ss[k]? = some s) : (fillT ss k).set k s = fillT ss (k + 1) := by
  have hk : k < ss.length := by
    rcases Nat.lt_or_ge k ss.length with h1 | h1
    · exact h1
    · rw [List.getElem?_eq_none h1] at h; cases h
  have hl : (ss.take k).length = k := by rw [List.length_take]; omega
  have hrep : List.replicate (ss.length - k) ([] : List UInt8) = [] :: List.replicate (ss.length - (k + 1)) [] := by
    rw [show ss.length - k = (ss.length - (k + 1)) + 1 from by omega, List.replicate_succ]
  rw [fillT, fillT, hrep, List.set_append_right _ _ (by omega), hl, Nat.sub_self, List.set_cons_zero, List.take_add_one, h]
  simp only [Option.toList_some, List.append_assoc, List.cons_append, List.nil_append]
theorem fillT_get {ss : List (List UInt8)} {k : Nat} (h : k < ss.length) : (strVals (fillT ss k))[k]? = some (.string ⟨#[]⟩) := by
  have hl : (ss.take k).length = k := by rw [List.length_take]; omega
  rw [strVals, List.getElem?_map, fillT, List.getElem?_append_right (by omega), hl, Nat.sub_self, List.getElem?_replicate, if_pos (by omega)]
  rfl

theorem toX (v : Value) (ss : List (List UInt8)) (w : World) (h : RdT w v ss) (hl : ss.length ≤ 1048576) :
    Calls Tryd.prog 42 #[v] w fun e w' => ∃ u, e = .returned u ∧ OwnT w' w.heap.size w'.heap.size u ss ∧ Below w.heap.size w w' := by
  obtain ⟨A, c, rfl, _, hm, hr⟩ := h
  obtain ⟨i0, hi0, hz0, hz1, hz2⟩ := info_parts strInfo
  have Hr := Lib.hid hr; clear hr
  go_enter Tryd.func42, Tryd.ntmps42
  go_wp2_with (at_make; refine wpList_make_full _ rfl _ _ _ rfl w.heap.size 9 i0 (.string ⟨#[]⟩) 1 Tryd.underlying23 hi0 hz0 hz1 _ _ _ _ ss.length rfl rfl rfl rfl ?c1 ?c2 ?c3 ?_)
  case c1 => rw [hz2]; omega
  case c2 => unfold maxLen; omega
  case c3 => simp
  intro w1 hown1 hg1
  rw [toList_madeCells_one] at hown1
  have hb1 : Below w.heap.size w w1 := below_of_only hg1 (Nat.le_refl _) (by simp)
  have hstart : w1.ownsRow w.heap.size 9 1 (.slice (some ⟨w.heap.size, 0, none⟩) ss.length ss.length) ss.length (strVals (fillT ss 0)) := by
    have e : strVals (fillT ss 0) = List.replicate ss.length (.string ⟨#[]⟩) := by simp [strVals, fillT]
    rw [e]; exact hown1
  have hlt1 : w.heap.size < w1.heap.size := (hown1.lt w.heap.size rfl).2
  clear hown1 hg1
  generalize hG : w.heap.size = g at *
  have HG := Lib.hid hG; clear hG
  go_wp2
  go_loopw [4] (fun i wr => ∃ k : Nat, k ≤ ss.length ∧ i = .int .i64 k ∧ Below g w wr ∧ g < wr.heap.size ∧ wr.ownsRow g 9 1 (.slice (some ⟨g, 0, none⟩) ss.length ss.length) ss.length (strVals (fillT ss k))) (fun i _ => ss.length - (intOf i).toNat)
  case atStart => exact ⟨0, Nat.zero_le _, rfl, hb1, hlt1, hstart⟩
  case round =>
    clear hb1 hstart hlt1
    obtain ⟨k, hk, rfl, hbk, hgs, hownk⟩ := hrel
    by_cases hlt : k < ss.length
    · obtain ⟨b, off, rfl, hb, hc⟩ := Hr.out (by omega)
      obtain ⟨s, hs⟩ : ∃ s, ss[k]? = some s := ⟨_, List.getElem?_eq_getElem hlt⟩
      have hcell := (hbk.cell (p := ⟨b, off + k, none⟩) hb).trans (hc k s hs)
      have hold := (hownk.cellAt k (by omega)).trans (fillT_get hlt)
      have hfr := hownk.frozenAt k
      have hst := hownk.stored k (.string ⟨s.toArray⟩)
      rw [strVals_set9, fillT_set hs] at hst
      obtain ⟨S, hS⟩ : ∃ S : ByteArray, (⟨s.toArray⟩ : ByteArray) = S := ⟨_, rfl⟩
      rw [hS] at hcell hst
      have hsz : g < (wr.setCell ⟨g, k, none⟩ (.string S)).heap.size := Nat.lt_of_lt_of_le hgs hst.2.size
      have Hst := Lib.hid (And.intro hsz hst.1); clear hst hc hownk hs hS hsz
      have hgb : g ≠ b := by omega
      go_wp2
      go_roundw
      case rel => exact ⟨k + 1, by omega, by go_num, hbk.setCell (Nat.le_refl _) _, Hst.out⟩
      case measure => simp [intOf]; omega
    · have hke : k = ss.length := by omega
      go_wp2
      go_ret
      subst hke
      have e : fillT ss ss.length = ss := by simp [fillT]
      rw [e] at hownk
      refine ⟨_, rfl, ⟨by rw [HG.out]; exact hownk, fun q hq => (hownk.lt q hq).2⟩, by rw [HG.out]; exact hbk⟩

theorem take_succ_eqT {xs ys : List (List UInt8)} {k : Nat} {x y : List UInt8} (hx : xs[k]? = some x) (hy : ys[k]? = some y) (h : xs.take k = ys.take k) (he : x = y) : xs.take (k + 1) = ys.take (k + 1) := by
  rw [List.take_add_one, List.take_add_one, h, hx, hy, he]
theorem str_eq9 (s t : List UInt8) : (s == t) = decide (s = t) := by rw [Bool.eq_iff_iff, beq_iff_eq, decide_eq_true_iff]

theorem eqX (v u : Value) (xs ys : List (List UInt8)) (w : World) (hx : RdT w v xs) (hy : RdT w u ys) (b : Bool) (hb : decide (xs = ys) = b) :
    Calls Tryd.prog 46 #[v, u] w fun e w' => e = .returned (.bool b) ∧ Below w.heap.size w w' := by
  obtain ⟨A, c, rfl, _, hmx, hrx⟩ := hx
  obtain ⟨B, d, rfl, _, hmy, hry⟩ := hy
  have Hrx := Lib.hid hrx; clear hrx
  have Hry := Lib.hid hry; clear hry
  have HB := Lib.hid hb; clear hb
  by_cases hlen : xs.length = ys.length
  · rw [← hlen]
    have Hlen := Lib.hid hlen
    have h1 : ys.length ≤ xs.length := by omega
    have h2 : xs.length ≤ ys.length := by omega
    clear hlen
    go_enter Tryd.func46, Tryd.ntmps46
    go_wp2
    go_loopw [5] (fun i wr => ∃ k n : Nat, k ≤ xs.length ∧ i = .int .i64 k ∧ wr = w.drewN n ∧ xs.take k = ys.take k) (fun i _ => xs.length - (intOf i).toNat)
    case atStart => exact ⟨0, 0, Nat.zero_le _, rfl, rfl, rfl⟩
    case round =>
      obtain ⟨k, n, hk, rfl, rfl, ht⟩ := hrel
      have Ht := Lib.hid ht; clear ht
      by_cases hlt : k < xs.length
      · obtain ⟨b1, off, rfl, hb1, hc⟩ := Hrx.out (by omega)
        obtain ⟨b2, off', rfl, hb2, hc'⟩ := Hry.out (by omega)
        obtain ⟨x, hx⟩ : ∃ x, xs[k]? = some x := ⟨_, List.getElem?_eq_getElem hlt⟩
        obtain ⟨y, hy⟩ : ∃ y, ys[k]? = some y := ⟨_, List.getElem?_eq_getElem (by omega)⟩
        have hcell := hc k x hx
        have hcell' := hc' k y hy
        have hlt' : (k : Int) < xs.length := by omega
        have hlt2 : (k : Int) < ys.length := by omega
        have Hs := Lib.hid (take_succ_eqT hx hy Ht.out)
        have Hn : Hid (x ≠ y → xs ≠ ys) := Lib.hid (fun hne e => hne (by rw [e, hy] at hx; injection hx with hx; exact hx.symm))
        obtain ⟨S, hS⟩ : ∃ S : ByteArray, (⟨x.toArray⟩ : ByteArray) = S := ⟨_, rfl⟩
        obtain ⟨T, hT⟩ : ∃ T : ByteArray, (⟨y.toArray⟩ : ByteArray) = T := ⟨_, rfl⟩
        have hST : (S.toList == T.toList) = decide (x = y) := by rw [Go.ByteArray.toList_eq, Go.ByteArray.toList_eq, ← hS, ← hT, str_eq9]
        rw [hS] at hcell
        rw [hT] at hcell'
        clear hc hc' hx hy hS hT
        by_cases he : x = y
        · rw [decide_eq_true he] at hST
          have hs := Lib.hid (Hs.out he)
          clear he
          go_wp2
          go_quiet (fail)
          go_wp2
          go_roundw
          case rel => exact ⟨k + 1, _, by omega, by go_num, rfl, hs.out⟩
          case measure => simp [intOf]; omega
        · rw [decide_eq_false he] at hST
          have hf := Lib.hid (Hn.out he)
          clear he
          go_wp2
          go_quiet (fail)
          go_wp2
          go_ret
          exact ⟨ret_bool (by rw [← HB.out]; simp [hf.out]), below_drewN (below_drewN (Below.refl _ _) _) _⟩
      · have hfin : xs = ys := by
          have := Ht.out
          rwa [List.take_of_length_le (by omega), List.take_of_length_le (by omega)] at this
        have Hf := Lib.hid hfin; clear hfin
        go_wp2
        go_ret
        exact ⟨ret_bool (by rw [← HB.out]; simp [Hf.out]), below_drewN (Below.refl _ _) n⟩
  · have hne : ¬ xs = ys := fun e => hlen (by rw [e])
    have hb : ((xs.length : Int) != (ys.length : Int)) = true := by rw [bne_iff_ne]; omega
    have Hne := Lib.hid hne; clear hne
    clear hlen
    go_enter Tryd.func46, Tryd.ntmps46
    go_wp2
    go_ret
    exact ⟨ret_bool (by rw [← HB.out]; simp [Hne.out]), Below.refl _ _⟩
end Go.Proofs.YtdabbjlefpgkmaaDoor
