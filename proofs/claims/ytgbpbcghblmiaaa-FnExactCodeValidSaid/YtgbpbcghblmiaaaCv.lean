/- Chapter 6: CodeValid, the program's and the model's. -/
import Derived.Test.YtgbpbcghblmiaaaIw
import Derived.Test.YtgbpbcghblmiaaaSl
import Derived.Deep.RegionWith
import Derived.Deep.QuietTactic
import Derived.BigQuiet
namespace Go.Proofs.Ytgbpbcghblmiaaa
set_option maxRecDepth 100000
open Go.RowKit Go.WideShapes Go.Deep

def insOkR (n : Int) (m : Int × Int) : Bool :=
  if m.1 = 0 then isNumB m.2 else if m.1 = 1 then decide (1 ≤ m.2) && decide (m.2 < n) else if m.1 = 2 then decide (1001 ≤ m.2) && decide (m.2 ≤ 1011) else if m.1 = 3 then decide (m.2 = 0) else false
/-- The places behind the ends of blocks. -/
def endsR : Nat → List (Int × Int) → List Int
  | _, [] => []
  | k, m :: ms => (if m.1 = 3 then [((k + 1 : Nat) : Int)] else []) ++ endsR (k + 1) ms
def endsB (ms : List (Int × Int)) : Bool := match ms.getLast? with
  | none => false
  | some m => decide (m.1 = 3)
def codeB (ms : List (Int × Int)) (fr : List Int) : Bool :=
  decide (fr.length ≤ 60) && decide (ms.length ≤ 120) && endsB ms && ms.all (insOkR fr.length) && decide (fr = 0 :: endsR 0 ms.dropLast)

theorem endsR_append (k : Nat) (a b : List (Int × Int)) : endsR k (a ++ b) = endsR k a ++ endsR (k + a.length) b := by
  induction a generalizing k with
  | nil => simp [endsR]
  | cons m a ih => rw [List.cons_append, endsR, endsR, ih, List.append_assoc, List.length_cons, show k + 1 + a.length = k + (a.length + 1) from by omega]
theorem endsR_take {ms : List (Int × Int)} {k : Nat} {m : Int × Int} (h : ms[k]? = some m) : endsR 0 (ms.take (k + 1)) = endsR 0 (ms.take k) ++ (if m.1 = 3 then [((k + 1 : Nat) : Int)] else []) := by
  have hk : k < ms.length := by
    rcases Nat.lt_or_ge k ms.length with h1 | h1
    · exact h1
    · rw [List.getElem?_eq_none h1] at h; cases h
  rw [List.take_add_one, h, Option.toList_some, endsR_append, List.length_take, Nat.zero_add, Nat.min_eq_left (by omega)]
  simp [endsR]
theorem endsR_len (k : Nat) (ms : List (Int × Int)) : (endsR k ms).length ≤ ms.length := by
  induction ms generalizing k with
  | nil => simp [endsR]
  | cons m ms ih =>
    rw [endsR, List.length_append, List.length_cons]
    have := ih (k + 1)
    split <;> simp <;> omega
theorem endsR_le {k : Nat} {ms : List (Int × Int)} {z : Int} (h : z ∈ endsR k ms) : (k : Int) + 1 ≤ z ∧ z ≤ (k : Int) + ms.length := by
  induction ms generalizing k with
  | nil => simp [endsR] at h
  | cons m ms ih =>
    rw [endsR, List.mem_append] at h
    rw [List.length_cons]
    rcases h with h | h
    · split at h
      · simp at h; omega
      · simp at h
    · have := ih h; omega

theorem isNumC (n : Int) (w : World) : Calls Try.prog 49 #[.int .i64 n] w fun e w' => e = .returned (.bool (isNumB n)) ∧ w = w' := isNum_any n w
theorem insOk_any (k a n : Int) (w : World) (y : Bool) (hy : insOkR n (k, a) = y) :
    Calls Try.prog 32 #[.agg #[.int .i64 k, .int .i64 a], .int .i64 n] w fun e w' => e = .returned (.bool y) ∧ Below w.heap.size w w' := by
  have hb : Below w.heap.size w (w.alloc (.cells #[.int .i64 k, .int .i64 a] 51)) := (Below.refl _ _).alloc (Nat.le_refl _) _
  have HB := Lib.hid hb; clear hb
  have HY := Lib.hid hy; clear hy
  by_cases k0 : k = 0
  · subst k0
    have hr := Lib.hid (show isNumB a = y by have := HY.out; simpa [insOkR] using this)
    go_enter Try.func32, Try.ntmps32
    go_wp2_with fail
    refine (isNum_any a _).mono ?_
    rw [hr.out]
    rintro e w' ⟨rfl, rfl⟩
    go_wp2
    go_ret
    exact ⟨rfl, HB.out⟩
  have b0 : (k == 0) = false := by simpa using k0
  by_cases k1 : k = 1
  · subst k1
    have hr := Lib.hid (show (decide (1 ≤ a) && decide (a < n)) = y by have := HY.out; simpa [insOkR] using this)
    clear k0 b0
    by_cases h1 : 1 ≤ a
    · by_cases h2 : a < n
      · have HZ : Hid (true = y) := Lib.hid (by rw [← hr.out]; simp [h1, h2])
        go_enter Try.func32, Try.ntmps32
        go_wp2
        go_ret
        exact ⟨ret_bool HZ.out, HB.out⟩
      · have HZ : Hid (false = y) := Lib.hid (by rw [← hr.out]; simp [h2])
        go_enter Try.func32, Try.ntmps32
        go_wp2
        go_ret
        exact ⟨ret_bool HZ.out, HB.out⟩
    · have HZ : Hid (false = y) := Lib.hid (by rw [← hr.out]; simp [h1])
      go_enter Try.func32, Try.ntmps32
      go_wp2
      go_ret
      exact ⟨ret_bool HZ.out, HB.out⟩
  have b1 : (k == 1) = false := by simpa using k1
  by_cases k2 : k = 2
  · subst k2
    have hr := Lib.hid (show (decide (1001 ≤ a) && decide (a ≤ 1011)) = y by have := HY.out; simpa [insOkR] using this)
    clear k0 b0 k1 b1
    by_cases h1 : 1001 ≤ a
    · by_cases h2 : a ≤ 1011
      · have HZ : Hid (true = y) := Lib.hid (by rw [← hr.out]; simp [h1, h2])
        go_enter Try.func32, Try.ntmps32
        go_wp2
        go_ret
        exact ⟨ret_bool HZ.out, HB.out⟩
      · have HZ : Hid (false = y) := Lib.hid (by rw [← hr.out]; simp [h2])
        go_enter Try.func32, Try.ntmps32
        go_wp2
        go_ret
        exact ⟨ret_bool HZ.out, HB.out⟩
    · have HZ : Hid (false = y) := Lib.hid (by rw [← hr.out]; simp [h1])
      go_enter Try.func32, Try.ntmps32
      go_wp2
      go_ret
      exact ⟨ret_bool HZ.out, HB.out⟩
  have b2 : (k == 2) = false := by simpa using k2
  by_cases k3 : k = 3
  · subst k3
    have hr := Lib.hid (show decide (a = 0) = y by have := HY.out; simpa [insOkR] using this)
    clear k0 b0 k1 b1 k2 b2
    have hq : (a == 0) = y := by rw [← hr.out]; by_cases h : a = 0 <;> simp [h]
    go_enter Try.func32, Try.ntmps32
    go_wp2
    go_ret
    exact ⟨rfl, HB.out⟩
  have b3 : (k == 3) = false := by simpa using k3
  have HZ : Hid (false = y) := Lib.hid (by rw [← HY.out]; simp [insOkR, k0, k1, k2, k3])
  go_enter Try.func32, Try.ntmps32
  go_wp2
  go_ret
  exact ⟨ret_bool HZ.out, HB.out⟩
theorem endsBlock_any (A : Option Addr) (c : Nat) (ms : List (Int × Int)) (w : World) (h : RdM w (.slice A ms.length c) ms) (y : Bool) (hy : endsB ms = y) :
    Calls Try.prog 31 #[.slice A ms.length c] w fun e w' => e = .returned (.bool y) ∧ w = w' := by
  have hl := h.len_le
  obtain ⟨A', c', e, _, hr⟩ := h
  cases e
  by_cases h0 : 0 < ms.length
  · obtain ⟨b, off, rfl, hb, hc⟩ := hr h0
    obtain ⟨m, hm⟩ : ∃ m, ms[ms.length - 1]? = some m := ⟨_, List.getElem?_eq_getElem (by omega)⟩
    obtain ⟨d0, _⟩ := hc _ m hm
    have hy2 : decide (m.1 = 3) = y := by rw [← hy]; unfold endsB; rw [List.getLast?_eq_getElem?, hm]
    clear hc hr hy hm
    obtain ⟨k, a⟩ := m
    dsimp only at d0 hy2
    obtain ⟨n, hn⟩ : ∃ n, ms.length = n + 1 := ⟨ms.length - 1, by omega⟩
    rw [hn] at d0 hl ⊢
    rw [Nat.add_sub_cancel] at d0
    clear h0 hn
    have hI : (0 : Int) < ((n + 1 : Nat) : Int) := by omega
    have hq : (k == 3) = y := by rw [← hy2]; by_cases h : k = 3 <;> simp [h]
    clear hy2
    go_enter Try.func31, Try.ntmps31
    go_wp2
    go_ret
    exact ⟨rfl, rfl⟩
  · have hz : ms = [] := List.eq_nil_of_length_eq_zero (by omega)
    subst hz
    obtain rfl : false = y := hy
    go_enter Try.func31, Try.ntmps31
    go_wp2
    go_ret
    exact ⟨rfl, rfl⟩

theorem take_take_dropLast (ms : List (Int × Int)) (k : Nat) (h : k ≤ ms.length - 1) : ms.dropLast.take k = ms.take k := by
  rw [List.dropLast_eq_take, List.take_take, Nat.min_eq_left h]
theorem beginsOf_any (A : Option Addr) (c : Nat) (ms : List (Int × Int)) (w : World) (h : RdM w (.slice A ms.length c) ms) (hcap : ms.length ≤ c) (h0 : 0 < ms.length) (hl : ms.length ≤ 120) :
    Calls Try.prog 34 #[.slice A ms.length c] w fun e w' => ∃ u, e = .returned u ∧ OwnI w' w.heap.size w'.heap.size u (0 :: endsR 0 ms.dropLast) ∧ Below w.heap.size w w' := by
  have H := Lib.hid h
  obtain ⟨A', c', e, _, hr⟩ := h
  cases e
  obtain ⟨n, hn⟩ : ∃ n, ms.length = n + 1 := ⟨ms.length - 1, by omega⟩
  have HN := Lib.hid hn
  have hb0 : Below w.heap.size w (w.alloc (.cells #[.int .i64 0] 3)) := (Below.refl _ _).alloc (Nat.le_refl _) _
  have ho0 := lits_own w [0] (by simp) (by intro z hz; simp only [List.mem_cons, List.not_mem_nil, or_false] at hz; subst hz; exact wf_near _ (by omega))
  have S0 := Lib.hid (And.intro hb0 (show OwnI (w.alloc (.cells #[.int .i64 0] 3)) w.heap.size (w.alloc (.cells #[.int .i64 0] 3)).heap.size (.slice (some ⟨w.heap.size, 0, none⟩) 1 1) [0] by simpa using ho0)); clear hb0 ho0
  obtain ⟨b, off, rfl, hb, hc⟩ := hr h0
  have HC := Lib.hid (And.intro hb hc); clear hc hr
  rw [hn] at hcap hl ⊢
  clear hn h0
  have m0 : ((n + 1 : Nat) : Int) - 1 = (n : Int) := by omega
  go_enter Try.func34, Try.ntmps34
  go_wp2
  go_loopw [3, 13] (fun v i wr => ∃ k : Nat, k ≤ n ∧ i = .int .i64 k ∧ w.heap.size + 1 ≤ wr.heap.size ∧ Below w.heap.size w wr ∧ OwnI wr w.heap.size wr.heap.size v (0 :: endsR 0 (ms.take k))) (fun _ i _ => n - (intOf i).toNat)
  case atStart => exact ⟨0, Nat.zero_le _, rfl, by simp, S0.out.1, by simpa [endsR] using S0.out.2⟩
  case round =>
    clear S0
    obtain ⟨k, hk, rfl, hsz, hbk, hown⟩ := hrel
    by_cases hlt : k < n
    · have hltI : (k : Int) < (n : Int) := by omega
      obtain ⟨m, hm⟩ : ∃ m, ms[k]? = some m := ⟨_, List.getElem?_eq_getElem (by have := HN.out; omega)⟩
      obtain ⟨d0, d1⟩ := HC.out.2 k m hm
      have hbb := HC.out.1
      have hel := endsR_take hm
      have hln := endsR_len 0 (ms.take k)
      rw [List.length_take] at hln
      obtain ⟨z, a⟩ := m
      dsimp only at d0 d1 hel
      have e0 := (hbk.cell (p := ⟨b, off + k * 2, none⟩) hbb).trans d0
      have e1 := (hbk.cell (p := ⟨b, off + k * 2 + 1, none⟩) hbb).trans d1
      obtain ⟨E, hE⟩ : ∃ E, 0 :: endsR 0 (ms.take k) = E := ⟨_, rfl⟩
      have hEl : E.length ≤ 200 := by rw [← hE, List.length_cons]; omega
      rw [hE] at hown
      have hba : Below wr.heap.size wr (wr.alloc (.cells #[.int .i64 z, .int .i64 a] 51)) := (Below.refl _ _).alloc (Nat.le_refl _) _
      have X := Lib.hid (And.intro (hbk.trans (hba.mono (by omega))) (And.intro (hown.below hba) (And.intro hel hE))); clear hbk hown hel hE hba d0 d1
      by_cases h3 : z = 3
      · subst h3
        have hlit := lits_own (wr.alloc (.cells #[.int .i64 3, .int .i64 a] 51)) [((k : Int) + 1)] (by simp) (by intro z hz; simp only [List.mem_cons, List.not_mem_nil, or_false] at hz; subst hz; exact wf_near _ (by omega))
        have hbl : Below (wr.heap.size + 1) (wr.alloc (.cells #[.int .i64 3, .int .i64 a] 51)) ((wr.alloc (.cells #[.int .i64 3, .int .i64 a] 51)).alloc (.cells #[.int .i64 ((k : Int) + 1)] 3)) := (Below.refl _ _).alloc (by simp) _
        have Y := Lib.hid (And.intro (X.out.1.trans (hbl.mono (by omega))) (And.intro (X.out.2.1.belowB hbl (by omega)) (show OwnI ((wr.alloc (.cells #[.int .i64 3, .int .i64 a] 51)).alloc (.cells #[.int .i64 ((k : Int) + 1)] 3)) (wr.heap.size + 1) (wr.heap.size + 1 + 1) (.slice (some ⟨wr.heap.size + 1, 0, none⟩) 1 1) [((k : Int) + 1)] by simpa using hlit))); clear hlit hbl
        have m1 : IntKind.i64.wrap ((k : Int) + 1) = (k : Int) + 1 := IntWalk.i64_in _ (by omega)
        go_wp2_with (at_builtin; go_loud (refine wpList_append_V rfl _ _ _ rfl Try.underlying23 intInfo w.heap.size wr.heap.size _ E rfl Y.out.2.1 (by simp; omega) _ [((k : Int) + 1)] rfl Y.out.2.2.rd (by simp; omega) ?_))
        intro v w1 ho hb1
        have hz1 : wr.heap.size + 1 + 1 ≤ w1.heap.size := by have := hb1.size; simpa using this
        have Z := Lib.hid (And.intro (Y.out.1.trans hb1) ho); clear hb1 ho
        go_wp2
        go_roundw
        case rel => exact ⟨k + 1, by omega, by go_num, by omega, Z.out.1, by rw [X.out.2.2.1, ← List.cons_append, X.out.2.2.2]; simpa using Z.out.2⟩
        case measure => simp [intOf]; omega
      · have b3 : (z == 3) = false := by simpa using h3
        have N3 := Lib.hid h3; clear h3
        go_wp2
        go_roundw
        case rel => exact ⟨k + 1, by omega, by go_num, by simp; omega, X.out.1, by rw [X.out.2.2.1, if_neg N3.out, List.append_nil, X.out.2.2.2]; exact ⟨X.out.2.1.own, fun g hg => by have := X.out.2.1.lt g hg; simp; omega⟩⟩
        case measure => simp [intOf]; omega
    · obtain rfl : k = n := by omega
      have hfin : ms.dropLast = ms.take k := by rw [List.dropLast_eq_take, HN.out]; rfl
      have X := Lib.hid (And.intro hbk (And.intro hown hfin)); clear hbk hown hfin
      go_wp2
      go_ret
      exact ⟨_, rfl, by rw [X.out.2.2]; exact X.out.2.1, X.out.1⟩
end Go.Proofs.Ytgbpbcghblmiaaa
