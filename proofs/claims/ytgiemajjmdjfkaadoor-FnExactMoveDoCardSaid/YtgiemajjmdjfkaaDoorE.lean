/- Contracts of the helpers of the exact laws: copies, comparisons, marks. -/
import Derived.Test.YtgiemajjmdjfkaaDoorW
namespace Go.Proofs.YtgiemajjmdjfkaaDoor
set_option maxRecDepth 100000
open Go.RowKit

theorem set_map (zs : List Int) (k : Nat) (x : Int) : (zs.map (Value.int .i64)).set k (.int .i64 x) = (zs.set k x).map (Value.int .i64) := by
  rw [List.map_set]

theorem fill_get (zs : List Int) (k : Nat) (h : k < zs.length) : ((zs.take k ++ List.replicate (zs.length - k) 0).map (Value.int .i64))[k]? = some (.int .i64 0) := by
  have hl : (zs.take k).length = k := by rw [List.length_take]; omega
  rw [List.getElem?_map, List.getElem?_append_right (by omega), hl, Nat.sub_self, List.getElem?_replicate, if_pos (by omega)]
  rfl
theorem fill_set (zs : List Int) (k : Nat) (h : k < zs.length) : ((zs.take k ++ List.replicate (zs.length - k) 0).map (Value.int .i64)).set k (.int .i64 (zs.getD k 0)) = (zs.take (k + 1) ++ List.replicate (zs.length - (k + 1)) 0).map (Value.int .i64) := by
  have hl : (zs.take k).length = k := by rw [List.length_take]; omega
  have hrep : List.replicate (zs.length - k) (0 : Int) = 0 :: List.replicate (zs.length - (k + 1)) 0 := by
    rw [show zs.length - k = (zs.length - (k + 1)) + 1 from by omega, List.replicate_succ]
  rw [set_map, hrep, List.set_append_right _ _ (by omega), hl, Nat.sub_self, List.set_cons_zero, List.take_add_one, List.getElem?_eq_getElem h]
  simp only [List.getD, List.getElem?_eq_getElem h, Option.getD_some, Option.toList_some, List.append_assoc, List.cons_append, List.nil_append]

theorem toIntS_any (A : Option Addr) (c : Nat) (zs : List Int) (w : World) (h : Ints w A zs) (hl : zs.length ≤ 1048576) :
    Calls Tryd.prog 42 #[.slice A zs.length c] w fun e w' => ∃ v, e = .returned v ∧ Own w' w.heap.size v zs ∧ Below w.heap.size w w' := by
  obtain ⟨i0, hi0, hz0, hz1, hz2⟩ := info_parts intInfo
  have hwf := h.wf
  obtain ⟨-, -, hr⟩ := h
  have Hr := Lib.hid hr; clear hr
  have Hwf := Lib.hid hwf; clear hwf
  go_enter Tryd.func42, Tryd.ntmps42
  go_wp2_with (at_make; refine wpList_make_full _ rfl _ _ _ rfl w.heap.size 3 i0 (.int .i64 0) 1 Tryd.underlying23 hi0 hz0 hz1 _ _ _ _ zs.length rfl rfl rfl rfl ?c1 ?c2 ?c3 ?_)
  case c1 => rw [hz2]; omega
  case c2 => unfold maxLen; omega
  case c3 => simp
  intro w1 hown1 hg1
  rw [toList_madeCells_one] at hown1
  have hb1 : Below w.heap.size w w1 := below_of_only hg1 (Nat.le_refl _) (by simp)
  have hstart : w1.ownsRow w.heap.size 3 1 (.slice (some ⟨w.heap.size, 0, none⟩) zs.length zs.length) zs.length ((zs.take 0 ++ List.replicate (zs.length - 0) 0).map (Value.int .i64)) := by simpa using hown1
  have hlt1 : w.heap.size < w1.heap.size := (hown1.lt w.heap.size rfl).2
  clear hown1 hg1
  generalize hG : w.heap.size = g at *
  have HG := Lib.hid hG; clear hG
  go_wp2
  go_loopw [4] (fun i wr => ∃ k : Nat, k ≤ zs.length ∧ i = .int .i64 k ∧ Below g w wr ∧ wr.ownsRow g 3 1 (.slice (some ⟨g, 0, none⟩) zs.length zs.length) zs.length ((zs.take k ++ List.replicate (zs.length - k) 0).map (Value.int .i64))) (fun i _ => zs.length - (intOf i).toNat)
  case atStart => exact ⟨0, Nat.zero_le _, rfl, hb1, hstart⟩
  case round =>
    clear hb1 hstart hlt1
    obtain ⟨k, hk, rfl, hbk, hownk⟩ := hrel
    by_cases hlt : k < zs.length
    · obtain ⟨b, off, rfl, hb, hc⟩ := Hr.out (by omega)
      have hcell := (hbk.cell (p := ⟨b, off + k, none⟩) hb).trans (hc k hlt)
      have hold := (hownk.cellAt k (by omega)).trans (fill_get zs k hlt)
      have hfr := hownk.frozenAt k
      have hst := (hownk.stored k (.int .i64 (zs.getD k 0))).1
      rw [fill_set zs k hlt] at hst
      clear hc hownk
      have Hst := Lib.hid hst; clear hst
      have hgb : g ≠ b := by omega
      generalize zs.getD k 0 = z at *
      go_wp2
      go_roundw
      case rel => exact ⟨k + 1, by omega, by go_num, hbk.setCell (Nat.le_refl _) _, Hst.out⟩
      case measure => simp [intOf]; omega
    · have hke : k = zs.length := by omega
      go_wp2
      go_ret
      refine ⟨_, rfl, ⟨?_, Hwf.out⟩, by rw [HG.out]; exact hbk⟩
      rw [HG.out]
      subst hke
      simpa using hownk
theorem take_succ_eq {xs ys : List Int} {k : Nat} (hk : k < xs.length) (hl : xs.length = ys.length) (h : xs.take k = ys.take k) (he : xs.getD k 0 = ys.getD k 0) : xs.take (k + 1) = ys.take (k + 1) := by
  rw [List.take_add_one, List.take_add_one, h]
  simp only [List.getD, List.getElem?_eq_getElem hk, List.getElem?_eq_getElem (hl ▸ hk), Option.getD_some] at he ⊢
  rw [he]
theorem ne_of_getD {xs ys : List Int} {k : Nat} (he : xs.getD k 0 ≠ ys.getD k 0) : xs ≠ ys := fun e => he (by rw [e])

theorem eqIntS_any (A B : Option Addr) (c d : Nat) (xs ys : List Int) (w : World) (hx : Ints w A xs) (hy : Ints w B ys) :
    Calls Tryd.prog 44 #[.slice A xs.length c, .slice B ys.length d] w fun e w' => e = .returned (.bool (decide (xs = ys))) ∧ ∃ n, w' = w.drewN n := by
  obtain ⟨hmx, -, hrx⟩ := hx
  obtain ⟨hmy, -, hry⟩ := hy
  have Hrx := Lib.hid hrx; clear hrx
  have Hry := Lib.hid hry; clear hry
  by_cases hlen : xs.length = ys.length
  · rw [← hlen]
    have Hlen := Lib.hid hlen
    have h1 : ys.length ≤ xs.length := by omega
    have h2 : xs.length ≤ ys.length := by omega
    clear hlen
    go_enter Tryd.func44, Tryd.ntmps44
    go_wp2
    go_loopw [5] (fun i wr => ∃ k n : Nat, k ≤ xs.length ∧ i = .int .i64 k ∧ wr = w.drewN n ∧ xs.take k = ys.take k) (fun i _ => xs.length - (intOf i).toNat)
    case atStart => exact ⟨0, 0, Nat.zero_le _, rfl, rfl, rfl⟩
    case round =>
      obtain ⟨k, n, hk, rfl, rfl, ht⟩ := hrel
      have Ht := Lib.hid ht; clear ht
      by_cases hlt : k < xs.length
      · obtain ⟨b, off, rfl, hb, hc⟩ := Hrx.out (by omega)
        obtain ⟨b', off', rfl, hb', hc'⟩ := Hry.out (by omega)
        have hcell := hc k hlt
        have hcell' := hc' k (by omega)
        clear hc hc'
        have hlt' : (k : Int) < xs.length := by omega
        have hlt2 : (k : Int) < ys.length := by omega
        have hsucc := take_succ_eq hlt Hlen.out Ht.out
        have hne : xs.getD k 0 ≠ ys.getD k 0 → xs ≠ ys := ne_of_getD
        have Hs := Lib.hid hsucc; clear hsucc
        have Hn := Lib.hid hne; clear hne
        generalize xs.getD k 0 = x at *
        generalize ys.getD k 0 = y at *
        go_wp2
        go_quiet (fail)
        go_wp2
        · have hxy : (x != y) = true := by assumption
          have hf : ¬ xs = ys := Hn.out (by simpa using hxy)
          go_ret
          exact ⟨ret_bool (by simp [hf]), _, World.drewN_drewN _ _ _⟩
        · have hxy : (x != y) = false := by assumption
          have he : x = y := by simpa using hxy
          have hs := Hs.out he
          go_roundw
          case rel => exact ⟨k + 1, _, by omega, by go_num, rfl, hs⟩
          case measure => simp [intOf]; omega
      · have hfin : xs = ys := by
          have := Ht.out
          rwa [List.take_of_length_le (by omega), List.take_of_length_le (by omega)] at this
        have Hf := Lib.hid hfin; clear hfin
        go_wp2
        go_ret
        exact ⟨ret_bool (by simp [Hf.out]), n, rfl⟩
  · have hne : ¬ xs = ys := fun e => hlen (by rw [e])
    have hb : ((xs.length : Int) != (ys.length : Int)) = true := by rw [bne_iff_ne]; omega
    have Hne := Lib.hid hne; clear hne
    clear hlen
    go_enter Tryd.func44, Tryd.ntmps44
    go_wp2
    go_ret
    exact ⟨ret_bool (by simp [Hne.out]), 0, rfl⟩

/-- The marks: k, k + 1, .. -/
def marks (k : Int) : Nat → List Int
  | 0 => []
  | n + 1 => k :: marks (k + 1) n
theorem marks_length (k : Int) (n : Nat) : (marks k n).length = n := by
  induction n generalizing k with
  | zero => rfl
  | succ n ih => simp [marks, ih]
theorem marks_getElem? (k : Int) (n j : Nat) (h : j < n) : (marks k n)[j]? = some (k + j) := by
  induction n generalizing k j with
  | zero => omega
  | succ n ih =>
    rcases j with _ | j
    · simp [marks]
    · simp only [marks, List.getElem?_cons_succ]; rw [ih (k + 1) j (by omega)]; congr 1; omega
theorem marks_set (zs : List Int) (a : Int) (k : Nat) (h : k < zs.length) : ((marks a k ++ zs.drop k).map (Value.int .i64)).set k (.int .i64 (a + k)) = (marks a (k + 1) ++ zs.drop (k + 1)).map (Value.int .i64) := by
  have hm : marks a (k + 1) = marks a k ++ [a + k] := by
    apply List.ext_getElem?
    intro j
    by_cases hj : j < k
    · rw [marks_getElem? a (k + 1) j (by omega), List.getElem?_append_left (by rw [marks_length]; omega), marks_getElem? a k j hj]
    · by_cases hj2 : j = k
      · subst hj2; rw [marks_getElem? a (j + 1) j (by omega), List.getElem?_append_right (by rw [marks_length]; omega), marks_length]; simp
      · rw [List.getElem?_eq_none (by rw [marks_length]; omega), List.getElem?_eq_none (by simp [marks_length]; omega)]
  rw [set_map, List.set_append_right _ _ (by rw [marks_length]; omega), marks_length, Nat.sub_self, List.drop_eq_getElem_cons h, List.set_cons_zero, hm, List.append_assoc]
  rfl

/-- markIntS writes the marks over a row of the call's own. -/
theorem markIntS_any (base g cap : Nat) (zs : List Int) (a : Int) (w : World) (ha : 0 ≤ a ∧ a ≤ 1000000000) (hl : zs.length ≤ 1000000000)
    (h : w.ownsRow base 3 1 (.slice (some ⟨g, 0, none⟩) zs.length cap) zs.length (zs.map (Value.int .i64))) :
    Calls Tryd.prog 45 #[.slice (some ⟨g, 0, none⟩) zs.length cap, .int .i64 a] w fun e w' => e = .returned (.int .i64 (a + zs.length)) ∧
      w'.ownsRow base 3 1 (.slice (some ⟨g, 0, none⟩) zs.length cap) zs.length ((marks a zs.length).map (Value.int .i64)) ∧ w.grownBy w' (some g) := by
  have hstart : w.ownsRow base 3 1 (.slice (some ⟨g, 0, none⟩) zs.length cap) zs.length ((marks a 0 ++ zs.drop 0).map (Value.int .i64)) := by simpa [marks] using h
  have hg := (h.lt g rfl).2
  clear h
  go_enter Tryd.func45, Tryd.ntmps45
  go_wp2
  go_loopw [1, 5] (fun a' i wr => ∃ k : Nat, k ≤ zs.length ∧ i = .int .i64 k ∧ a' = .int .i64 (a + k) ∧ w.grownBy wr (some g) ∧ wr.ownsRow base 3 1 (.slice (some ⟨g, 0, none⟩) zs.length cap) zs.length ((marks a k ++ zs.drop k).map (Value.int .i64))) (fun _ i _ => zs.length - (intOf i).toNat)
  case atStart => exact ⟨0, Nat.zero_le _, rfl, by simp, World.grownBy.refl _ _, hstart⟩
  case round =>
    clear hstart
    obtain ⟨k, hk, rfl, rfl, hbk, hownk⟩ := hrel
    by_cases hlt : k < zs.length
    · have hlt' : (k : Int) < zs.length := by omega
      have hst := hownk.stored k (.int .i64 (a + k))
      rw [marks_set zs a k hlt] at hst
      have hfr := hownk.frozenAt k
      obtain ⟨u, hold⟩ : ∃ u, wr.cell? ⟨g, k, none⟩ = some u := by
        rw [hownk.cellAt k (by omega)]
        exact ⟨_, List.getElem?_eq_getElem (by simp [marks_length]; omega)⟩
      clear hownk
      have Hst := Lib.hid hst; clear hst
      go_wp2
      go_roundw
      case rel => exact ⟨k + 1, by omega, by go_num, by go_num, World.grownBy.trans hbk Hst.out.2, Hst.out.1⟩
      case measure => simp [intOf]; omega
    · have hke : k = zs.length := by omega
      have hfin := hownk
      rw [hke, List.drop_length, List.append_nil] at hfin
      have Hke := Lib.hid hke; clear hke
      go_wp2
      go_ret
      exact ⟨ret_i64 (by rw [Hke.out]), hfin, hbk⟩

theorem marks_wf (a : Int) (n : Nat) (ha : 0 ≤ a ∧ a ≤ 1000000000) (hn : n ≤ 1000000000) : ∀ z ∈ marks a n, InK .i64 z := by
  intro z hz
  obtain ⟨j, hj, rfl⟩ := List.getElem_of_mem hz
  have := marks_getElem? a n j (by rwa [marks_length] at hj)
  rw [List.getElem?_eq_getElem hj] at this
  injection this with this
  rw [this, InK]
  rw [marks_length] at hj
  exact WalkArith.wf_i64 (by omega)

/-- heldIntS finds the marks again. -/
theorem heldIntS_any (A : Option Addr) (c n : Nat) (a : Int) (w : World) (ha : 0 ≤ a ∧ a ≤ 1000000000) (hl : n ≤ 1000000000) (h : Ints w A (marks a n)) :
    Calls Tryd.prog 46 #[.slice A n c, .int .i64 a] w fun e w' => e = .returned (.int .i64 (a + n)) ∧ w = w' := by
  obtain ⟨-, -, hr⟩ := h
  rw [marks_length] at hr
  have Hr := Lib.hid hr; clear hr
  go_enter Tryd.func46, Tryd.ntmps46
  go_wp2
  go_loop [1, 5] (fun a' i => ∃ k : Nat, k ≤ n ∧ i = .int .i64 k ∧ a' = .int .i64 (a + k)) (fun _ i => n - (intOf i).toNat)
  case atStart => exact ⟨0, Nat.zero_le _, rfl, by simp⟩
  case round =>
    obtain ⟨k, hk, rfl, rfl⟩ := hrel
    by_cases hlt : k < n
    · obtain ⟨b, off, rfl, hb, hc⟩ := Hr.out (by omega)
      have hcell := hc k hlt
      have hm : (marks a n).getD k 0 = a + k := by simp [List.getD, marks_getElem? a n k hlt]
      rw [hm] at hcell
      clear hm hc
      have hne : ((a + (k : Int)) != (a + (k : Int))) = false := by simp
      go_wp2
      go_round
      case rel => exact ⟨k + 1, by omega, by go_num, by go_num⟩
      case measure => simp [intOf]; omega
    · have hke : k = n := by omega
      have Hke := Lib.hid hke; clear hke
      go_wp2
      go_ret
      exact ⟨ret_i64 (by rw [Hke.out]), rfl⟩

/-- A row of the call's own, marked: nil, or as above. -/
theorem mark_own (base : Nat) (zs : List Int) (v : Value) (a : Int) (w : World) (ha : 0 ≤ a ∧ a ≤ 1000000000) (hl : zs.length ≤ 1000000000) (h : Own w base v zs) :
    Calls Tryd.prog 45 #[v, .int .i64 a] w fun e w' => e = .returned (.int .i64 (a + zs.length)) ∧
      Own w' base v (marks a zs.length) ∧ w.grownBy w' v.ownBlock := by
  rcases h.own.2 with ⟨rfl, h0⟩ | ⟨g, cap, cur, rfl, hb, hh, h1, h2, _⟩
  · have hz : zs = [] := List.eq_nil_of_length_eq_zero h0
    subst hz
    go_enter Tryd.func45, Tryd.ntmps45
    go_wp2
    go_loop [1, 5] (fun a' i => i = .int .i64 0 ∧ a' = .int .i64 a) (fun _ _ => 0)
    case atStart => exact ⟨rfl, rfl⟩
    case round =>
      obtain ⟨rfl, rfl⟩ := hrel
      go_wp2
      go_ret
      exact ⟨ret_i64 (by simp), (⟨World.ownsRow_nil _ _ _ _, by simp⟩ : Own _ _ _ []), World.grownBy.refl _ _⟩
  · refine (markIntS_any base g cap zs a w ha hl h.own).mono ?_
    rintro e w' ⟨rfl, hown, hg⟩
    exact ⟨rfl, ⟨by rw [marks_length]; exact hown, marks_wf a _ ha hl⟩, hg⟩

end Go.Proofs.YtgiemajjmdjfkaaDoor
