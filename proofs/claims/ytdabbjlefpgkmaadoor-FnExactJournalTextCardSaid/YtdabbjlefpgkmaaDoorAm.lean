/- Rows of deeds in the laws: compared, marked, found again. -/
import Derived.Test.YtdabbjlefpgkmaaDoorAl
import Derived.Test.YtdabbjlefpgkmaaDoorAb
import Derived.Test.YtdabbjlefpgkmaaDoorI
import Derived.Deep.RegionWith
namespace Go.Proofs.YtdabbjlefpgkmaaDoor
set_option maxRecDepth 100000
open Go.RowKit Go.WideShapes Go.Deep

theorem eqDd_any (k : Int) (D : ByteArray) (w : World) :
    Calls Tryd.prog 22 #[.agg #[.int .i64 k, .string D], .agg #[.int .i64 k, .string D]] w fun e w' => e = .returned (.bool true) ∧ Below w.heap.size w w' := by
  have hb : Below w.heap.size w ((w.alloc (.cells #[.int .i64 k, .string D] 36)).alloc (.cells #[.int .i64 k, .string D] 36)) := ((Below.refl _ _).alloc (Nat.le_refl _) _).alloc (by simp) _
  have HB := Lib.hid hb; clear hb
  have hse : (D.toList == D.toList) = true := by simp
  go_enter Tryd.func22, Tryd.ntmps22
  go_wp2
  go_ret
  exact ⟨rfl, HB.out⟩

set_option maxHeartbeats 1000000 in
theorem eqDS (v u : Value) (xs : Deeds) (w : World) (hx : RdD w v xs) (hy : RdD w u xs) :
    Calls Tryd.prog 27 #[v, u] w fun e w' => e = .returned (.bool true) ∧ Below w.heap.size w w' := by
  have H := Lib.hid (And.intro hx hy)
  obtain ⟨A, c, rfl, hm, _⟩ := hx
  obtain ⟨A', c', rfl, hm', _⟩ := hy
  have hI : ((xs.length : Int) != xs.length) = false := by simp
  go_enter Tryd.func27, Tryd.ntmps27
  go_wp2
  go_loopw [5] (fun i wr => ∃ k : Nat, k ≤ xs.length ∧ i = .int .i64 k ∧ w.heap.size ≤ wr.heap.size ∧ Below w.heap.size w wr) (fun i _ => xs.length - (intOf i).toNat)
  case atStart => exact ⟨0, Nat.zero_le _, rfl, Nat.le_refl _, Below.refl _ _⟩
  case round =>
    obtain ⟨k, hk, rfl, hsz, hbk⟩ := hrel
    have X := Lib.hid hbk; clear hbk
    by_cases hlt : k < xs.length
    · obtain ⟨A2, c2, e2, _, hr⟩ := H.out.1
      cases e2
      obtain ⟨p, po, rfl, hp, hpc⟩ := hr (by omega)
      obtain ⟨A3, c3, e3, _, hr'⟩ := H.out.2
      cases e3
      obtain ⟨q, qo, rfl, hq, hqc⟩ := hr' (by omega)
      have hz : xs[k]? = some xs[k] := List.getElem?_eq_getElem hlt
      obtain ⟨d0, d1⟩ := hpc k _ hz
      obtain ⟨f0, f1⟩ := hqc k _ hz
      clear hz hpc hqc
      generalize xs[k] = x at *
      obtain ⟨x1, x2⟩ := x
      have hd : Below wr.heap.size wr wr.drew := (Below.refl _ _).drew
      have HD := Lib.hid hd
      have e0 := (X.out.cell (p := ⟨p, po + k * 2, none⟩) hp).trans d0
      have e1 := (X.out.cell (p := ⟨p, po + k * 2 + 1, none⟩) hp).trans d1
      have g0 := (X.out.cell (p := ⟨q, qo + k * 2, none⟩) hq).trans f0
      have g1 := (X.out.cell (p := ⟨q, qo + k * 2 + 1, none⟩) hq).trans f1
      dsimp only at e0 e1 g0 g1
      obtain ⟨D, hD⟩ : ∃ D : ByteArray, (⟨x2.toArray⟩ : ByteArray) = D := ⟨_, rfl⟩
      rw [hD] at e1 g1
      clear d0 d1 f0 f1 hD
      have hltI : (k : Int) < xs.length := by omega
      go_wp2_with fail
      go_region_with (go_at_call 22; refine (eqDd_any x1 D _).mono ?_; rintro e w2 ⟨rfl, hb2⟩)
      all_goals
        have hz2 : wr.heap.size ≤ w2.heap.size := hb2.size
        have Z := Lib.hid (X.out.trans ((HD.out.trans hb2).mono (by omega))); clear hb2 X hd
        go_wp2
        go_roundw
        case rel => exact ⟨k + 1, by omega, by go_num, by omega, Z.out⟩
        case measure => simp [intOf]; omega
    · go_wp2
      go_ret
      exact ⟨rfl, X.out⟩

/-- n deeds of marks: (a, m(a+1)), (a + 2, m(a+3)), .. -/
def mkD (a : Nat) : Nat → Deeds
  | 0 => []
  | n + 1 => ((a : Int), mtx (a + 1)) :: mkD (a + 2) n
theorem mkD_len (a n : Nat) : (mkD a n).length = n := by
  induction n generalizing a with
  | zero => rfl
  | succ n ih => simp [mkD, ih]
theorem mkD_get (a n k : Nat) (h : k < n) : (mkD a n)[k]? = some (((a + 2 * k : Nat) : Int), mtx (a + 2 * k + 1)) := by
  induction n generalizing a k with
  | zero => omega
  | succ n ih =>
    rcases k with _ | k
    · simp [mkD]
    · simp only [mkD, List.getElem?_cons_succ]
      rw [ih (a + 2) k (by omega), show a + 2 + 2 * k = a + 2 * (k + 1) by omega]
theorem mkD_snoc (a k : Nat) : mkD a (k + 1) = mkD a k ++ [(((a + 2 * k : Nat) : Int), mtx (a + 2 * k + 1))] := by
  apply List.ext_getElem?
  intro j
  by_cases hj : j < k
  · rw [mkD_get a (k + 1) j (by omega), List.getElem?_append_left (by rw [mkD_len]; omega), mkD_get a k j hj]
  · by_cases hj2 : j = k
    · subst hj2; rw [mkD_get a (j + 1) j (by omega), List.getElem?_append_right (by rw [mkD_len]; omega), mkD_len]; simp
    · rw [List.getElem?_eq_none (by rw [mkD_len]; omega), List.getElem?_eq_none (by simp [mkD_len]; omega)]
theorem mkD_set (ds : Deeds) (a k : Nat) (h : k < ds.length) : (mkD a k ++ ds.drop k).set k (((a + 2 * k : Nat) : Int), mtx (a + 2 * k + 1)) = mkD a (k + 1) ++ ds.drop (k + 1) := by
  rw [List.set_append_right _ _ (by rw [mkD_len]; omega), mkD_len, Nat.sub_self, List.drop_eq_getElem_cons h, List.set_cons_zero, mkD_snoc, List.append_assoc]
  rfl
theorem flatD_set {ds : Deeds} {k : Nat} {z : Int} {s : List UInt8} (h : k < ds.length) : ((flatD ds).set (k * 2) (.int .i64 z)).set (k * 2 + 1) (.string ⟨s.toArray⟩) = flatD (ds.set k (z, s)) := by
  induction ds generalizing k with
  | nil => simp at h
  | cons m ds ih =>
    rcases k with _ | k
    · simp [flatD_cons]
    · have := ih (k := k) (by simpa using h)
      rw [show (k + 1) * 2 = k * 2 + 1 + 1 from by omega]
      simpa [flatD_cons] using this

set_option maxHeartbeats 2000000 in
theorem markD (v : Value) (ds : Deeds) (lo hi : Nat) (w : World) (hl : ds.length ≤ 1048576) (h : OwnD w lo hi v ds) :
    Calls Tryd.prog 30 #[v, .int .i64 1] w fun e w' => e = .returned (.int .i64 (1 + 2 * (ds.length : Int))) ∧ OwnD w' lo hi v (mkD 1 ds.length) ∧ Within lo hi w w' := by
  have hlt := h.lt
  rcases h.own.2 with ⟨rfl, h0⟩ | ⟨g, cap, cur, rfl, hb, hh, h1, h2, _⟩
  · have hz : ds = [] := List.eq_nil_of_length_eq_zero h0
    subst hz
    go_enter Tryd.func30, Tryd.ntmps30
    go_wp2
    go_loop [1, 5] (fun a' i => i = .int .i64 0 ∧ a' = .int .i64 1) (fun _ _ => 0)
    case atStart => exact ⟨rfl, rfl⟩
    case round =>
      obtain ⟨rfl, rfl⟩ := hrel
      go_wp2
      go_ret
      exact ⟨ret_i64 (by simp), OwnD.nil _ _ _, Within.of_below (Below.refl _ _)⟩
  · have hgb := h.own.lt g rfl
    have hgi := hlt g rfl
    have hstart : w.ownsRow lo 36 2 (.slice (some ⟨g, 0, none⟩) ds.length cap) ds.length (flatD (mkD 1 0 ++ ds.drop 0)) := by simpa [mkD] using h.own
    clear h hh
    go_enter Tryd.func30, Tryd.ntmps30
    go_wp2
    go_loopw [1, 5] (fun a' i wr => ∃ k : Nat, k ≤ ds.length ∧ i = .int .i64 k ∧ a' = .int .i64 ((1 + 2 * k : Nat) : Int) ∧ Within lo hi w wr ∧ wr.ownsRow lo 36 2 (.slice (some ⟨g, 0, none⟩) ds.length cap) ds.length (flatD (mkD 1 k ++ ds.drop k))) (fun _ i _ => ds.length - (intOf i).toNat)
    case atStart => exact ⟨0, Nat.zero_le _, rfl, rfl, Within.of_below (Below.refl _ _), hstart⟩
    case round =>
      clear hstart
      obtain ⟨k, hk, rfl, rfl, hwk, hownk⟩ := hrel
      by_cases hltk : k < ds.length
      · have hltI : (k : Int) < ds.length := by omega
        have hfl : (flatD (mkD 1 k ++ ds.drop k)).length = ds.length * 2 := by rw [flatD_length]; simp [mkD_len]; omega
        have hst := hownk.stored (k * 2) (.int .i64 ((1 + 2 * k : Nat) : Int))
        have hfr := hownk.frozenAt (k * 2)
        obtain ⟨u, hold⟩ : ∃ u, wr.cell? ⟨g, k * 2, none⟩ = some u := by
          rw [hownk.cellAt (k * 2) (by omega)]
          exact ⟨_, List.getElem?_eq_getElem (by rw [hfl]; omega)⟩
        obtain ⟨q, hq⟩ : ∃ q : Nat, q = 1 + 2 * k := ⟨_, rfl⟩
        have hset := flatD_set (ds := mkD 1 k ++ ds.drop k) (k := k) (z := ((1 + 2 * k : Nat) : Int)) (s := mtx (1 + 2 * k + 1)) (by simp [mkD_len]; omega)
        rw [mkD_set ds 1 k hltk] at hset
        rw [← hq] at hst hset ⊢
        obtain ⟨q1, hq1⟩ : ∃ q1 : Nat, q1 = q + 1 := ⟨_, rfl⟩
        rw [← hq1] at hset
        have hq1b : 1 ≤ q1 ∧ q1 ≤ 9999999 := by omega
        have m1 : IntKind.i64.wrap ((q : Int) + 1) = (q1 : Int) := by rw [IntWalk.i64_in _ (by omega)]; omega
        have Q := Lib.hid (And.intro hq hq1); clear hq1
        clear hq
        have HS := Lib.hid hset; clear hset
        have Hst := Lib.hid (And.intro hst hwk); clear hst hwk hownk
        go_wp2_with fail
        refine (markText_any q1 _ hq1b.1 hq1b.2).mono ?_
        rintro e w2 ⟨rfl, hb2⟩
        have hz2 := hb2.size
        have hown2 := Hst.out.1.1.kept (row := none) (only_of_below hb2 none) (.inr (by simp [Value.ownBlock]))
        have hfr2 := hown2.frozenAt (k * 2 + 1)
        obtain ⟨u2, hold2⟩ : ∃ u, w2.cell? ⟨g, k * 2 + 1, none⟩ = some u := by
          rw [hown2.cellAt (k * 2 + 1) (by omega)]
          exact ⟨_, List.getElem?_eq_getElem (by rw [List.length_set, hfl]; omega)⟩
        have hst2 := hown2.stored (k * 2 + 1) (.string ⟨(mtx q1).toArray⟩)
        rw [HS.out] at hst2
        have Z := Lib.hid (And.intro (((Hst.out.2.trans (Within.of_only Hst.out.1.2 fun g' e => by cases e; exact ⟨hgb.1, hgi⟩)).trans (Within.of_below hb2)).trans (Within.of_only hst2.2 fun g' e => by cases e; exact ⟨hgb.1, hgi⟩)) hst2.1); clear hst2 hown2 hb2 Hst
        go_wp2
        go_roundw
        case rel => exact ⟨k + 1, by omega, by go_num, by have h9 := Q.out; go_num, Z.out.1, Z.out.2⟩
        case measure => simp [intOf]; omega
      · obtain rfl : k = ds.length := by omega
        rw [List.drop_length, List.append_nil] at hownk
        have Z := Lib.hid (And.intro hownk hwk); clear hownk hwk
        go_wp2
        go_ret
        exact ⟨ret_i64 (by omega), ⟨by rw [mkD_len]; exact Z.out.1, hlt⟩, Z.out.2⟩

set_option maxHeartbeats 2000000 in
theorem heldD (v : Value) (n : Nat) (w : World) (hl : n ≤ 1048576) (h : RdD w v (mkD 1 n)) :
    Calls Tryd.prog 31 #[v, .int .i64 1] w fun e w' => e = .returned (.int .i64 (1 + 2 * (n : Int))) ∧ Below w.heap.size w w' := by
  obtain ⟨A, c, rfl, _, hr⟩ := h
  rw [mkD_len] at hr ⊢
  have Hr := Lib.hid hr; clear hr
  go_enter Tryd.func31, Tryd.ntmps31
  go_wp2
  go_loopw [1, 5] (fun a' i wr => ∃ k : Nat, k ≤ n ∧ i = .int .i64 k ∧ a' = .int .i64 ((1 + 2 * k : Nat) : Int) ∧ Below w.heap.size w wr) (fun _ i _ => n - (intOf i).toNat)
  case atStart => exact ⟨0, Nat.zero_le _, rfl, rfl, Below.refl _ _⟩
  case round =>
    obtain ⟨k, hk, rfl, rfl, hbk⟩ := hrel
    have hzk := hbk.size
    by_cases hlt : k < n
    · have hltI : (k : Int) < n := by omega
      obtain ⟨b, off, rfl, hb, hc⟩ := Hr.out (by omega)
      obtain ⟨d0, d1⟩ := hc k _ (mkD_get 1 n k hlt)
      clear hc
      dsimp only at d0 d1
      obtain ⟨q, hq⟩ : ∃ q : Nat, q = 1 + 2 * k := ⟨_, rfl⟩
      rw [← hq] at d0 d1 ⊢
      obtain ⟨q1, hq1⟩ : ∃ q1 : Nat, q1 = q + 1 := ⟨_, rfl⟩
      rw [← hq1] at d1
      have hq1b : 1 ≤ q1 ∧ q1 ≤ 9999999 := by omega
      have m1 : IntKind.i64.wrap ((q : Int) + 1) = (q1 : Int) := by rw [IntWalk.i64_in _ (by omega)]; omega
      have Q := Lib.hid (And.intro hq hq1); clear hq1
      clear hq
      obtain ⟨T, hT⟩ : ∃ T : ByteArray, (⟨(mtx q1).toArray⟩ : ByteArray) = T := ⟨_, rfl⟩
      rw [hT] at d1
      have HT := Lib.hid hT; clear hT
      have e0 := (hbk.cell (p := ⟨b, off + k * 2, none⟩) hb).trans d0
      have e1 := (hbk.cell (p := ⟨b, off + k * 2 + 1, none⟩) hb).trans d1
      clear d0 d1
      have hne : (((q : Nat) : Int) != ((q : Nat) : Int)) = false := by simp
      have hse : (T.toList == T.toList) = true := by simp
      have hd : Below wr.heap.size wr wr.drew := (Below.refl _ _).drew
      have HD := Lib.hid (And.intro hd hbk); clear hbk hd
      go_wp2_with fail
      go_region_with (go_at_call 54; refine (markText_any q1 _ hq1b.1 hq1b.2).mono ?_; rw [HT.out]; rintro e w2 ⟨rfl, hb2⟩; have e2 := (((HD.out.1.trans hb2).cell (p := ⟨b, off + k * 2 + 1, none⟩) (Nat.lt_of_lt_of_le hb hzk)).trans e1))
      all_goals
        have Z := Lib.hid (HD.out.2.trans ((HD.out.1.trans hb2).mono hzk)); clear hb2 HD
        go_wp2
        go_roundw
        case rel => exact ⟨k + 1, by omega, by go_num, by have h9 := Q.out; go_num, Z.out⟩
        case measure => simp [intOf]; omega
    · obtain rfl : k = n := by omega
      have Z := Lib.hid hbk; clear hbk
      go_wp2
      go_ret
      exact ⟨ret_i64 (by omega), Z.out⟩
end Go.Proofs.YtdabbjlefpgkmaaDoor
