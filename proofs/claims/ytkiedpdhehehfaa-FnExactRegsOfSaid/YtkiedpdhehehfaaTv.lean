/- The model's l3Named at a letter, and at the type of numbers. -/
import Derived.Test.YtkiedpdhehehfaaTq
import Derived.Test.YtkiedpdhehehfaaTn
import Derived.BigQuiet
namespace Go.Proofs.Ytkiedpdhehehfaa
set_option maxRecDepth 100000
open Go.RowKit Go.WideShapes

def NamRel (L : List (Int × Int)) (kn : Int × Int) (w : World) (nv kv : Value) (wr : World) : Prop := ∃ (j : Nat) (m : Int), kv = .int .i64 j ∧ nv = .int .i64 m ∧ 0 ≤ m ∧ m ≤ j ∧ j < L.length ∧ kn ∈ L.drop j ∧ rank L kn = m + rank (L.drop j) kn ∧ Below w.heap.size w wr
def NamPost (zs : List Int) (w : World) (e : Ending) (w' : World) : Prop := ∃ u, e = .returned u ∧ OwnI w' w.heap.size w'.heap.size u zs ∧ Below w.heap.size w w'
theorem drop_split {L : List (Int × Int)} {j : Nat} (h : j < L.length) : L.drop j = L[j] :: L.drop (j + 1) := List.drop_eq_getElem_cons h
set_option maxHeartbeats 2000000 in
theorem named_lett (b : Bool) (z : Int) (hz : (b = false ∧ z = 1) ∨ (b = true ∧ z = 3)) (v ov : Value) (zs : List Int) (L : List (Int × Int)) (k : Nat) (w : World) (hv : RdI w v zs) (ho : RdI w ov (L.map code)) (hL : ∀ x ∈ L, (x.1 = 1 ∨ x.1 = 3) ∧ 0 ≤ x.2 ∧ x.2 ≤ 999) (hl : zs.length ≤ 1000000) (hll : L.length ≤ 1000000) (hk : lettAt zs k) (hzz : zs.getD k 0 = z) (hm : (z, zs.getD (k + 1) 0) ∈ L) :
    Calls Try.prog 170 #[v, ov, .int .i64 k, .bool b] w (NamPost [z, rank L (z, zs.getD (k + 1) 0)] w) := by
  obtain ⟨hk1, hy0, hy1⟩ := hk
  have HV := Lib.hid (And.intro hv.at_ ho.at_)
  obtain ⟨A, c, rfl, hi, _⟩ := hv
  obtain ⟨b0, off, rfl, hb0, hcc⟩ := hi.at_ (by omega)
  have hc0 := hcc k (by omega)
  have hc1 := hcc (k + 1) hk1
  rw [hzz] at hc0
  clear hi hcc hzz
  generalize zs.getD (k + 1) 0 = y at *
  obtain ⟨cs, hcs⟩ : ∃ cs, L.map code = cs := ⟨_, rfl⟩
  have hcl : cs.length = L.length := by rw [← hcs, List.length_map]
  have hcg : ∀ (j : Nat) x, L[j]? = some x → cs.getD j 0 = code x := fun j x h => by rw [← hcs]; simp [List.getD, h]
  rw [hcs] at ho HV
  have HC := Lib.hid (And.intro hcl hcg); clear hcl hcg hcs
  obtain ⟨Ao, co, rfl, hio, _⟩ := ho
  have HIo := Lib.hid hio; clear hio
  have hcl2 : (cs.length : Int) ≤ 1000000 := by have := HC.out.1; omega
  have hkI : (k : Int) < zs.length := by omega
  have hk1I : (k : Int) + 1 < zs.length := by omega
  have hpos : 0 < L.length := List.length_pos_of_mem hm
  have hst : NamRel L (z, y) w (.int .i64 0) (.int .i64 ((0 : Nat) : Int)) w := ⟨0, 0, rfl, rfl, by omega, by omega, hpos, by simpa using hm, by simp, Below.refl _ _⟩
  have Hst := Lib.hid (And.intro hst hL); clear hst hL hm
  rcases hz with ⟨rfl, rfl⟩ | ⟨rfl, rfl⟩
  · go_enter Try.func170, Try.ntmps170
    go_wp2
    go_loopw [10, 11] (fun nv kv wr => NamRel L (1, y) w nv kv wr) (fun _ kv _ => L.length - (intOf kv).toNat)
    case atStart => exact Hst.out.1
    case round =>
      obtain ⟨j, m, rfl, rfl, hm0, hm1, hj, hmem, hrk, hbw⟩ := hrel
      have hsw := hbw.size
      obtain ⟨x, hx⟩ : ∃ x, L[j] = x := ⟨_, rfl⟩
      have hgx : L[j]? = some x := by rw [List.getElem?_eq_getElem hj, hx]
      have hxL := Hst.out.2 x (List.mem_of_getElem? hgx)
      have hcx := HC.out.2 j x hgx
      have hjc : j < cs.length := by rw [HC.out.1]; exact hj
      obtain ⟨p, o, rfl, hpb, hpc⟩ := HIo.out.at_ (by omega)
      have hcell := (hbw.cell (p := ⟨p, o + j, none⟩) hpb).trans (hpc j hjc)
      rw [hcx] at hcell
      have hc0' := (hbw.cell (p := ⟨b0, off + k, none⟩) hb0).trans hc0
      have hc1' := (hbw.cell (p := ⟨b0, off + (k + 1), none⟩) hb0).trans hc1
      have hjI : (j : Int) < cs.length := by omega
      rw [drop_split hj, hx] at hmem hrk
      have hdn := fun nq => below_drewN hbw nq
      have K := Lib.hid (And.intro hmem (And.intro hrk hdn)); clear hmem hrk hdn hgx hcx hpc
      by_cases he : x = (1, y)
      · subst he
        have hcd : code (1, y) = 2 * y := by simp [code]
        rw [hcd] at hcell
        have hbe : ((2 * y : Int) != 2 * y) = false := by simp
        have hfin : rank L (1, y) = m := by rw [K.out.2.1, rank, if_pos rfl]; omega
        have R := Lib.hid hfin; clear hfin hxL hcd
        go_wp2
        go_quiet (fail)
        go_wp2
        have ho := lits_own (wr.drewN nq) [1, m] (by simp) (by intro q hq; simp only [List.mem_cons, List.not_mem_nil, or_false] at hq; rcases hq with rfl | rfl <;> exact wf_near _ (by omega))
        have hb2 := (K.out.2.2 nq).alloc (by have := (K.out.2.2 nq).size; exact this) (.cells #[.int .i64 1, .int .i64 m] 3)
        go_ret
        exact ⟨_, rfl, ⟨by rw [R.out]; exact ho.own.mono (by have := (K.out.2.2 nq).size; exact this), fun q hq => by simpa using ho.lt q hq⟩, hb2⟩
      · have hxk := hxL.1
        have hne : code x ≠ 2 * y := fun e => he (code_inj hxk (by simp) (by rw [e]; simp [code]))
        have hbe : (code x != 2 * y) = true := by simpa using hne
        have hmem2 : (1, y) ∈ L.drop (j + 1) := by
          rcases List.mem_cons.1 K.out.1 with h | h
          · exact absurd h.symm he
          · exact h
        have hj2 : j + 1 < L.length := by
          rcases Nat.lt_or_ge (j + 1) L.length with h | h
          · exact h
          · rw [List.drop_eq_nil_of_le h] at hmem2; cases hmem2
        have hr2 : rank L (1, y) = m + ((if x.1 = 1 then 1 else 0) + rank (L.drop (j + 1)) (1, y)) := by rw [K.out.2.1, rank, if_neg he]
        obtain ⟨xk, xn⟩ := x
        dsimp only at hxk hr2 hxL
        have R := Lib.hid (And.intro hmem2 hr2); clear hmem2 hr2 he hne
        rcases hxk with rfl | rfl
        · have hcd : code (1, xn) = 2 * xn := by simp [code]
          rw [hcd] at hcell hbe
          obtain ⟨-, hx0, hx1⟩ := hxL
          have h20 : (2 * xn).tmod 2 = 0 := by rw [Int.tmod_eq_emod_of_nonneg (by omega)]; omega
          clear hcd
          go_wp2
          go_quiet (fail)
          go_wp2
          have V := Lib.hid (And.intro R.out.1 (And.intro R.out.2 (K.out.2.2 nq)))
          go_roundw
          case rel => exact ⟨j + 1, m + 1, by first | rfl | go_num, by first | rfl | go_num, by omega, by omega, by omega, V.out.1, by rw [V.out.2.1]; simp; omega, V.out.2.2⟩
          case measure => simp [intOf]; omega
        · have hcd : code (3, xn) = 2 * xn + 1 := by simp [code]
          rw [hcd] at hcell hbe
          obtain ⟨-, hx0, hx1⟩ := hxL
          have h21 : (2 * xn + 1).tmod 2 = 1 := by rw [Int.tmod_eq_emod_of_nonneg (by omega)]; omega
          clear hcd
          go_wp2
          go_quiet (fail)
          go_wp2
          have V := Lib.hid (And.intro R.out.1 (And.intro R.out.2 (K.out.2.2 nq)))
          go_roundw
          case rel => exact ⟨j + 1, m, by first | rfl | go_num, by first | rfl | go_num, by omega, by omega, by omega, V.out.1, by rw [V.out.2.1]; simp, V.out.2.2⟩
          case measure => simp [intOf]; omega
  · go_enter Try.func170, Try.ntmps170
    go_wp2
    go_loopw [10, 11] (fun nv kv wr => NamRel L (3, y) w nv kv wr) (fun _ kv _ => L.length - (intOf kv).toNat)
    case atStart => exact Hst.out.1
    case round =>
      obtain ⟨j, m, rfl, rfl, hm0, hm1, hj, hmem, hrk, hbw⟩ := hrel
      have hsw := hbw.size
      obtain ⟨x, hx⟩ : ∃ x, L[j] = x := ⟨_, rfl⟩
      have hgx : L[j]? = some x := by rw [List.getElem?_eq_getElem hj, hx]
      have hxL := Hst.out.2 x (List.mem_of_getElem? hgx)
      have hcx := HC.out.2 j x hgx
      have hjc : j < cs.length := by rw [HC.out.1]; exact hj
      obtain ⟨p, o, rfl, hpb, hpc⟩ := HIo.out.at_ (by omega)
      have hcell := (hbw.cell (p := ⟨p, o + j, none⟩) hpb).trans (hpc j hjc)
      rw [hcx] at hcell
      have hc0' := (hbw.cell (p := ⟨b0, off + k, none⟩) hb0).trans hc0
      have hc1' := (hbw.cell (p := ⟨b0, off + (k + 1), none⟩) hb0).trans hc1
      have hjI : (j : Int) < cs.length := by omega
      rw [drop_split hj, hx] at hmem hrk
      have hdn := fun nq => below_drewN hbw nq
      have K := Lib.hid (And.intro hmem (And.intro hrk hdn)); clear hmem hrk hdn hgx hcx hpc
      by_cases he : x = (3, y)
      · subst he
        have hcd : code (3, y) = 2 * y + 1 := by simp [code]
        rw [hcd] at hcell
        have hbe : ((2 * y + 1 : Int) != 2 * y + 1) = false := by simp
        have hfin : rank L (3, y) = m := by rw [K.out.2.1, rank, if_pos rfl]; omega
        have R := Lib.hid hfin; clear hfin hxL hcd
        go_wp2
        go_quiet (fail)
        go_wp2
        have ho := lits_own (wr.drewN nq) [3, m] (by simp) (by intro q hq; simp only [List.mem_cons, List.not_mem_nil, or_false] at hq; rcases hq with rfl | rfl <;> exact wf_near _ (by omega))
        have hb2 := (K.out.2.2 nq).alloc (by have := (K.out.2.2 nq).size; exact this) (.cells #[.int .i64 3, .int .i64 m] 3)
        go_ret
        exact ⟨_, rfl, ⟨by rw [R.out]; exact ho.own.mono (by have := (K.out.2.2 nq).size; exact this), fun q hq => by simpa using ho.lt q hq⟩, hb2⟩
      · have hxk := hxL.1
        have hne : code x ≠ 2 * y + 1 := fun e => he (code_inj hxk (by simp) (by rw [e]; simp [code]))
        have hbe : (code x != 2 * y + 1) = true := by simpa using hne
        have hmem2 : (3, y) ∈ L.drop (j + 1) := by
          rcases List.mem_cons.1 K.out.1 with h | h
          · exact absurd h.symm he
          · exact h
        have hj2 : j + 1 < L.length := by
          rcases Nat.lt_or_ge (j + 1) L.length with h | h
          · exact h
          · rw [List.drop_eq_nil_of_le h] at hmem2; cases hmem2
        have hr2 : rank L (3, y) = m + ((if x.1 = 3 then 1 else 0) + rank (L.drop (j + 1)) (3, y)) := by rw [K.out.2.1, rank, if_neg he]
        obtain ⟨xk, xn⟩ := x
        dsimp only at hxk hr2 hxL
        have R := Lib.hid (And.intro hmem2 hr2); clear hmem2 hr2 he hne
        rcases hxk with rfl | rfl
        · have hcd : code (1, xn) = 2 * xn := by simp [code]
          rw [hcd] at hcell hbe
          obtain ⟨-, hx0, hx1⟩ := hxL
          have h20 : (2 * xn).tmod 2 = 0 := by rw [Int.tmod_eq_emod_of_nonneg (by omega)]; omega
          clear hcd
          go_wp2
          go_quiet (fail)
          go_wp2
          have V := Lib.hid (And.intro R.out.1 (And.intro R.out.2 (K.out.2.2 nq)))
          go_roundw
          case rel => exact ⟨j + 1, m, by first | rfl | go_num, by first | rfl | go_num, by omega, by omega, by omega, V.out.1, by rw [V.out.2.1]; simp, V.out.2.2⟩
          case measure => simp [intOf]; omega
        · have hcd : code (3, xn) = 2 * xn + 1 := by simp [code]
          rw [hcd] at hcell hbe
          obtain ⟨-, hx0, hx1⟩ := hxL
          have h21 : (2 * xn + 1).tmod 2 = 1 := by rw [Int.tmod_eq_emod_of_nonneg (by omega)]; omega
          clear hcd
          go_wp2
          go_quiet (fail)
          go_wp2
          have V := Lib.hid (And.intro R.out.1 (And.intro R.out.2 (K.out.2.2 nq)))
          go_roundw
          case rel => exact ⟨j + 1, m + 1, by first | rfl | go_num, by first | rfl | go_num, by omega, by omega, by omega, V.out.1, by rw [V.out.2.1]; simp; omega, V.out.2.2⟩
          case measure => simp [intOf]; omega
end Go.Proofs.Ytkiedpdhehehfaa
