/- WordEffect: what it answers; the program's. -/
import Derived.Test.YtkiedpdhehehfaaRr
namespace Go.Proofs.Ytkiedpdhehehfaa
set_option maxRecDepth 100000
open Go.RowKit Go.WideShapes

/-- A row and a type more. -/
def putW (row t : List Int) : List Int := 4 :: (row ++ t)
def putsW (row : List Int) (ts : List (List Int)) : List Int := ts.foldl putW row
def progW : List Int := [2, 3, 0, 3, 1]
def wordR (w : Int) : List Int × List Int × Bool :=
  if 0 ≤ w ∧ w ≤ 999 then ([3, 0], putsW [3, 0] [[0]], true)
  else if w = 1001 then (putsW [3, 0] [[1, 0]], putsW [3, 0] [[1, 0], [1, 0]], true)
  else if w = 1002 then (putsW [3, 0] [[1, 0]], [3, 0], true)
  else if w = 1003 then (putsW [3, 0] [[1, 0], [1, 1]], putsW [3, 0] [[1, 1], [1, 0]], true)
  else if w = 1004 then (putsW [3, 0] [[1, 0], progW], putsW [3, 1] [[1, 0]], true)
  else if w = 1005 then (putsW [3, 0] [progW], [3, 1], true)
  else if 1006 ≤ w ∧ w ≤ 1009 then (putsW [3, 0] [[0], [0]], putsW [3, 0] [[0]], true)
  else if w = 1010 then (putsW [3, 0] [[0], progW, progW], [3, 1], true)
  else if w = 1011 then (putsW [3, 0] [[0], [2, 3, 0, 3, 0]], [3, 0], true)
  else ([], [], false)

theorem rowLetter_any (n : Int) (w : World) (hn : 0 ≤ n ∧ n ≤ 1000) :
    Calls Try.prog 174 #[.int .i64 n] w fun e w' => ∃ u, e = .returned u ∧ OwnI w' w.heap.size w'.heap.size u [3, n] ∧ Below w.heap.size w w' := by
  have ho := lits_own w [3, n] (by simp) (by intro q hq; simp only [List.mem_cons, List.not_mem_nil, or_false] at hq; exact wf_near _ (by omega))
  have hb : Below w.heap.size w (w.alloc (.cells #[.int .i64 3, .int .i64 n] 3)) := (Below.refl _ _).alloc (Nat.le_refl _) _
  have X := Lib.hid (And.intro ho hb); clear ho hb
  go_enter Try.func174, Try.ntmps174
  go_wp2
  go_ret
  exact ⟨_, rfl, ⟨X.out.1.own, fun k hk => by simpa using X.out.1.lt k hk⟩, X.out.2⟩
theorem typeLetter_any (n : Int) (w : World) (hn : 0 ≤ n ∧ n ≤ 1000) :
    Calls Try.prog 175 #[.int .i64 n] w fun e w' => ∃ u, e = .returned u ∧ OwnI w' w.heap.size w'.heap.size u [1, n] ∧ Below w.heap.size w w' := by
  have ho := lits_own w [1, n] (by simp) (by intro q hq; simp only [List.mem_cons, List.not_mem_nil, or_false] at hq; exact wf_near _ (by omega))
  have hb : Below w.heap.size w (w.alloc (.cells #[.int .i64 1, .int .i64 n] 3)) := (Below.refl _ _).alloc (Nat.le_refl _) _
  have X := Lib.hid (And.intro ho hb); clear ho hb
  go_enter Try.func175, Try.ntmps175
  go_wp2
  go_ret
  exact ⟨_, rfl, ⟨X.out.1.own, fun k hk => by simpa using X.out.1.lt k hk⟩, X.out.2⟩
/-- A literal of a row of one, and then two rows. -/
theorem three_rows (w : World) (k : Int) (hk : -1000 ≤ k ∧ k ≤ 1000) (A0 A1 : Option Addr) (c0 c1 : Nat) (a b : List Int) (h0 : RdI w (.slice A0 a.length c0) a) (h1 : RdI w (.slice A1 b.length c1) b) :
    RdS ((w.alloc (.cells #[.int .i64 k] 3)).alloc (.cells #[.slice (some ⟨w.heap.size, 0, none⟩) 1 1, .slice A0 a.length c0, .slice A1 b.length c1] 22)) (.slice (some ⟨w.heap.size + 1, 0, none⟩) 3 3) [[k], a, b] ∧
    Below w.heap.size w ((w.alloc (.cells #[.int .i64 k] 3)).alloc (.cells #[.slice (some ⟨w.heap.size, 0, none⟩) 1 1, .slice A0 a.length c0, .slice A1 b.length c1] 22)) := by
  have hb1 : Below w.heap.size w (w.alloc (.cells #[.int .i64 k] 3)) := (Below.refl _ _).alloc (Nat.le_refl _) _
  have l1 : RdI (w.alloc (.cells #[.int .i64 k] 3)) (.slice (some ⟨w.heap.size, 0, none⟩) 1 1) [k] := by
    have := (lits_own w [k] (by simp) (by intro q hq; simp only [List.mem_cons, List.not_mem_nil, or_false] at hq; subst hq; exact wf_near _ (by omega))).rd
    simpa using this
  have hrd := rdS_lit (w.alloc (.cells #[.int .i64 k] 3)) [.slice (some ⟨w.heap.size, 0, none⟩) 1 1, .slice A0 a.length c0, .slice A1 b.length c1] [[k], a, b] rfl (by simp) (by
    intro j u zs hu hz
    rcases j with _ | _ | _ | j
    · simp at hu hz; subst hu; subst hz; exact l1
    · simp at hu hz; subst hu; subst hz; exact h0.step hb1
    · simp at hu hz; subst hu; subst hz; exact h1.step hb1
    · simp at hu)
  simp only [World.size_alloc, List.length_cons, List.length_nil] at hrd
  exact ⟨hrd, hb1.alloc (by simp) _⟩
theorem progType_any (v0 v1 : Value) (a b : List Int) (w : World) (h0 : RdI w v0 a) (h1 : RdI w v1 b) (hl : a.length + b.length ≤ 100000) :
    Calls Try.prog 176 #[v0, v1] w fun e w' => ∃ u, e = .returned u ∧ OwnI w' w.heap.size w'.heap.size u (2 :: (a ++ b)) ∧ Below w.heap.size w w' := by
  have h0' := h0
  have h1' := h1
  obtain ⟨A0, c0, rfl, _⟩ := h0
  obtain ⟨A1, c1, rfl, _⟩ := h1
  obtain ⟨k1, k2⟩ := three_rows w 2 (by omega) A0 A1 c0 c1 a b h0' h1'
  have V := Lib.hid (And.intro k1 k2); clear k1 k2 h0' h1'
  have hfl : ([[2], a, b] : List (List Int)).flatten = 2 :: (a ++ b) := by simp
  have Hfl := Lib.hid hfl; clear hfl
  go_enter Try.func176, Try.ntmps176
  go_wp2_with fail
  refine (concatS _ [[2], a, b] _ V.out.1 (by simp) (by rw [Hfl.out]; simp; omega)).mono ?_
  rw [Hfl.out]
  rintro e w4 ⟨q, rfl, ho, hb⟩
  have X := Lib.hid (And.intro ((ho.mono (show w.heap.size ≤ _ by simp; omega)).within) (V.out.2.trans (hb.mono (by simp; omega)))); clear ho hb V
  go_wp2
  go_ret
  exact ⟨_, rfl, X.out⟩

def WRow (w : World) (row : List Int) (ts : List (List Int)) (v k : Value) (wr : World) : Prop := ∃ (j : Nat), k = .int .i64 j ∧ j ≤ ts.length ∧ RdI wr v (putsW row (ts.take j)) ∧ (1 ≤ j → OwnI wr w.heap.size wr.heap.size v (putsW row (ts.take j))) ∧ Below w.heap.size w wr
theorem putsW_len (row : List Int) (ts : List (List Int)) (h : ∀ t ∈ ts, t.length ≤ 100) : (putsW row ts).length ≤ row.length + 101 * ts.length := by
  induction ts generalizing row with
  | nil => simp [putsW]
  | cons t r ih =>
    have := ih (putW row t) (fun q hq => h q (by simp [hq]))
    have h1 := h t (by simp)
    simp only [putsW, List.foldl_cons] at this ⊢
    simp only [putW, List.length_cons, List.length_append] at this ⊢
    omega
theorem withValues_any (v tv : Value) (row : List Int) (ts : List (List Int)) (w : World) (h0 : RdI w v row) (h1 : RdS w tv ts) (hn : 1 ≤ ts.length ∧ ts.length ≤ 10) (hr : row.length ≤ 1000) (ht : ∀ t ∈ ts, t.length ≤ 100) :
    Calls Try.prog 177 #[v, tv] w fun e w' => ∃ u, e = .returned u ∧ OwnI w' w.heap.size w'.heap.size u (putsW row ts) ∧ Below w.heap.size w w' := by
  obtain ⟨A, c, rfl, hm, hrr⟩ := h1
  have Hr := Lib.hid hrr; clear hrr
  have Hlen := Lib.hid (fun j => putsW_len row (ts.take j) (fun q hq => ht q (List.mem_of_mem_take hq)))
  have hst : WRow w row ts v (.int .i64 ((0 : Nat) : Int)) w := ⟨0, rfl, Nat.zero_le _, by simpa [putsW] using h0, fun h => by omega, Below.refl _ _⟩
  have Hst := Lib.hid hst; clear hst h0
  go_enter Try.func177, Try.ntmps177
  go_wp2
  go_loopw [0, 9] (fun v k wr => WRow w row ts v k wr) (fun _ k _ => ts.length - (intOf k).toNat)
  case atStart => exact Hst.out
  case round =>
    clear Hst
    obtain ⟨j, rfl, hj, hrd, hown, hbw⟩ := hrel
    have hsw := hbw.size
    by_cases hlt : j < ts.length
    · obtain ⟨b, off, rfl, hb, hc⟩ := Hr.out (by omega)
      have hz : ts[j]? = some ts[j] := List.getElem?_eq_getElem hlt
      have htl : ts[j].length ≤ 100 := ht _ (List.getElem_mem hlt)
      have hsucc : putsW row (ts.take (j + 1)) = 4 :: (putsW row (ts.take j) ++ ts[j]) := by
        rw [List.take_add_one, hz, putsW, List.foldl_append]; rfl
      have hlp : (putsW row (ts.take j)).length ≤ 3000 := by have h1 := Hlen.out j; rw [List.length_take] at h1; omega
      obtain ⟨u, hcell, hu⟩ := hc j _ hz
      replace hcell := (hbw.cell (p := ⟨b, off + j, none⟩) hb).trans hcell
      have hrdu := (hu.below hbw).rd (by omega)
      have Hs := Lib.hid hsucc; clear hsucc hc hz hu hown
      generalize putsW row (ts.take j) = rw0 at *
      generalize ts[j] = t0 at *
      have hrd' := hrd
      have hrdu' := hrdu
      obtain ⟨A0, c0, rfl, _⟩ := hrd
      obtain ⟨A1, c1, rfl, _⟩ := hrdu
      obtain ⟨k1, k2⟩ := three_rows wr 4 (by omega) A0 A1 c0 c1 rw0 t0 hrd' hrdu'
      have V := Lib.hid (And.intro k1 (And.intro k2 (hbw.trans (k2.mono hsw)))); clear k1 k2 hrd' hrdu' hbw
      have hfl : ([[4], rw0, t0] : List (List Int)).flatten = 4 :: (rw0 ++ t0) := by simp
      have Hfl := Lib.hid hfl; clear hfl
      have hltI : (j : Int) < ts.length := by omega
      go_wp2_with fail
      refine (concatS _ [[4], rw0, t0] _ V.out.1 (by simp) (by rw [Hfl.out]; simp; omega)).mono ?_
      rw [Hfl.out, ← Hs.out]
      rintro e w4 ⟨q, rfl, ho, hb4⟩
      have hz4 := hb4.size
      have X := Lib.hid (And.intro ((ho.mono (show w.heap.size ≤ _ by simp; omega)).within) (V.out.2.2.trans (hb4.mono (by simp; omega)))); clear ho hb4 V
      go_wp2
      go_roundw
      case rel => exact ⟨j + 1, by go_num, by omega, X.out.1.rd, fun _ => X.out.1, X.out.2⟩
      case measure => simp [intOf]; omega
    · have hall : ts.take j = ts := List.take_of_length_le (by omega)
      rw [hall] at hown
      have X := Lib.hid (And.intro (hown (by omega)) hbw); clear hown hbw hrd
      go_wp2
      go_ret
      exact ⟨_, rfl, X.out⟩
end Go.Proofs.Ytkiedpdhehehfaa
