/- Chapter 7: each value as often as its place is in a row (the program). -/
import Derived.Test.YtjbfpbajbjnifaaJf
import Derived.Test.YtjbfpbajbjnifaaJt
namespace Go.Proofs.Ytjbfpbajbjnifaa
set_option maxRecDepth 100000
open Go.RowKit Go.WideShapes

/-- How often each number below n is in a row. -/
def cntL (n : Nat) (l : List Int) : List Int := (List.range n).map fun j : Nat => ((l.count (j : Int) : Nat) : Int)
theorem cntL_len (n : Nat) (l : List Int) : (cntL n l).length = n := by simp [cntL]
theorem cntL_get (n : Nat) (l : List Int) (j : Nat) (h : j < n) : (cntL n l)[j]? = some ((l.count (j : Int) : Nat) : Int) := by
  simp [cntL, List.getElem?_map, List.getElem?_range h]
theorem cntL_nil (n : Nat) : cntL n [] = List.replicate n 0 := by
  apply List.ext_getElem
  · simp [cntL]
  · intro i h1 h2; simp [cntL]
theorem cntL_snoc (n : Nat) (l : List Int) (j : Nat) : cntL n (l ++ [(j : Int)]) = (cntL n l).set j (((l.count (j : Int) : Nat) : Int) + 1) := by
  apply List.ext_getElem
  · simp [cntL]
  · intro i h1 h2
    rw [List.getElem_set]
    simp only [cntL, List.getElem_map, List.getElem_range, List.count_append]
    by_cases hij : j = i
    · subst hij; simp
    · rw [if_neg hij, List.count_singleton]
      have : ((j : Int) == (i : Int)) = false := by rw [beq_eq_false_iff_ne]; omega
      rw [this]; simp
theorem count_take_succ {l : List Int} {k : Nat} (hk : k < l.length) : l.take (k + 1) = l.take k ++ [l.getD k 0] := by
  rw [List.take_add_one]; simp [List.getD, List.getElem?_eq_getElem hk]
theorem oftenR_succ (many : Nat) (places : List Int) (j : Nat) : oftenR many places (j + 1) = oftenR many places j ++ oftenAt many places j := by simp [oftenR, List.range_succ]
def upsR (many : Nat) (k m : Nat) : List Int := (List.replicate m (underR (many - 1 - k) 1001)).flatten
theorem upsR_succ (many k m : Nat) : upsR many k (m + 1) = upsR many k m ++ underR (many - 1 - k) 1001 := by
  unfold upsR; rw [List.replicate_succ', List.flatten_append]; simp
theorem upsR_len (many k m : Nat) : (upsR many k m).length = m * (3 * (many - 1 - k) + 1) := by
  induction m with
  | zero => simp [upsR]
  | succ m ih => rw [upsR_succ, List.length_append, ih, underR_len, Nat.add_mul, Nat.one_mul]
theorem oftenAt_len (many : Nat) (places : List Int) (k : Nat) (hm : many ≤ 5) (hp : places.length ≤ 5) : (oftenAt many places k).length ≤ 100 := by
  unfold oftenAt
  split
  · rw [underR_len]; omega
  · have h1 := upsR_len many k (places.count (k : Int) - 1)
    unfold upsR at h1
    rw [h1]
    have h2 : places.count (k : Int) ≤ places.length := List.count_le_length
    exact Nat.le_trans (Nat.mul_le_mul (show _ ≤ 5 by omega) (show _ ≤ 13 by omega)) (by omega)
theorem oftenR_len (many : Nat) (places : List Int) (hm : many ≤ 5) (hp : places.length ≤ 5) (j : Nat) : (oftenR many places j).length ≤ 100 * j := by
  induction j with
  | zero => simp [oftenR]
  | succ j ih => rw [oftenR_succ, List.length_append]; have := oftenAt_len many places j hm hp; omega

set_option maxHeartbeats 4000000 in
theorem asOften_any (n : Nat) (v : Value) (zs : List Int) (w : World) (h : RdI w v zs) (hn : n ≤ 5) (hl : zs.length ≤ 5) (ha : allB n zs = true) : Calls Try.prog 82 #[.int .i64 n, v] w (Gives w (oftenR n zs n)) := by
  obtain ⟨A, c, rfl, hi, hc⟩ := h
  have HI := Lib.hid hi; clear hi
  have Ha := Lib.hid ha; clear ha
  obtain ⟨i0, hi0, hz0, hz1, hz2⟩ := info_parts intInfo
  go_enter Try.func82, Try.ntmps82
  go_wp2_with (at_make; refine wpList_make_full _ rfl _ _ _ rfl w.heap.size 3 i0 (.int .i64 0) 1 Try.underlying23 hi0 hz0 hz1 _ _ _ _ n rfl rfl rfl rfl (by rw [hz2]; omega) (by unfold maxLen; omega) (by simp) ?_)
  intro w1 hown1 hg1
  rw [toList_madeCells_one] at hown1
  have hb1 : Below w.heap.size w w1 := below_of_only hg1 (Nat.le_refl _) (by simp)
  have hstart : w1.ownsRow w.heap.size 3 1 (.slice (some ⟨w.heap.size, 0, none⟩) n n) n ((cntL n (zs.take 0)).map (Value.int .i64)) := by rw [List.take_zero, cntL_nil]; simpa using hown1
  have hlt1 : w.heap.size < w1.heap.size := (hown1.lt w.heap.size rfl).2
  clear hown1 hg1
  generalize hG : w.heap.size = g at *
  have HG := Lib.hid hG; clear hG
  go_wp2
  go_loopw [16] (fun i wr => ∃ k : Nat, k ≤ zs.length ∧ i = .int .i64 k ∧ g < wr.heap.size ∧ Below g w wr ∧ wr.ownsRow g 3 1 (.slice (some ⟨g, 0, none⟩) n n) n ((cntL n (zs.take k)).map (Value.int .i64))) (fun i _ => zs.length - (intOf i).toNat)
  case atStart => exact ⟨0, Nat.zero_le _, rfl, hlt1, hb1, hstart⟩
  case round =>
    clear hb1 hstart hlt1 w1
    obtain ⟨k, hk, rfl, hsz, hbk, hownk⟩ := hrel
    by_cases hlt : k < zs.length
    · obtain ⟨n1, hn1, hnl⟩ := allB_get Ha.out k hlt
      have hnl' : n1 < n := by omega
      obtain ⟨b, off, rfl, hb, hcc⟩ := HI.out.at_ (by omega)
      rw [HG.out] at hb
      have hcell := (hbk.cell (p := ⟨b, off + k, none⟩) hb).trans (hcc k hlt)
      rw [hn1] at hcell
      have hcv : ((zs.take k).count (n1 : Int)) ≤ 5 := Nat.le_trans List.count_le_length (by simp; omega)
      have hold : wr.cell? ⟨g, n1, none⟩ = some (.int .i64 (((zs.take k).count (n1 : Int) : Nat) : Int)) := (hownk.cellAt n1 (by omega)).trans (by rw [List.getElem?_map, cntL_get n _ n1 hnl']; rfl)
      have hfr := hownk.frozenAt n1
      have hst := (hownk.stored n1 (.int .i64 ((((zs.take k).count (n1 : Int) : Nat) : Int) + 1))).1
      rw [set_map, ← cntL_snoc n (zs.take k) n1, show zs.take k ++ [(n1 : Int)] = zs.take (k + 1) from by rw [count_take_succ hlt, hn1]] at hst
      clear hcc hownk
      have Hst := Lib.hid hst; clear hst hn1
      have hgb : g ≠ b := by omega
      generalize (zs.take k).count (n1 : Int) = cv at *
      go_wp2
      go_roundw
      case rel => exact ⟨k + 1, by omega, by go_num, by simpa using hsz, hbk.setCell (Nat.le_refl _) _, Hst.out⟩
      case measure => simp [intOf]; omega
    · obtain rfl : k = zs.length := by omega
      rw [List.take_length] at hownk
      generalize hw1 : wr = w1 at *
      clear hw1
      have W1 := Lib.hid (And.intro hbk hownk); clear hbk hownk
      have N0 := Lib.hid (And.intro (nilOwn w1 w1.heap.size w1.heap.size) (Below.refl w1.heap.size w1))
      go_wp2
      go_loopw [8, 29] (fun q i wr => ∃ j : Nat, j ≤ n ∧ i = .int .i64 j ∧ w1.heap.size ≤ wr.heap.size ∧ OwnI wr w1.heap.size wr.heap.size q (oftenR n zs j) ∧ Below w1.heap.size w1 wr) (fun _ i _ => n - (intOf i).toNat)
      case atStart => exact ⟨0, Nat.zero_le _, rfl, Nat.le_refl _, N0.out⟩
      case round =>
        clear N0
        obtain ⟨j, hj, rfl, hszj, hownj, hbj⟩ := hrel
        by_cases hjn : j < n
        · have hcl : wr.cell? ⟨g, j, none⟩ = some (.int .i64 ((zs.count (j : Int) : Nat) : Int)) := (hbj.cell (p := ⟨g, j, none⟩) hsz).trans ((W1.out.2.cellAt j (by omega)).trans (by rw [List.getElem?_map, cntL_get n _ j hjn]; rfl))
          have hjnI : (j : Int) < n := by omega
          obtain ⟨ab, hab⟩ : ∃ ab, ab = n - 1 - j := ⟨_, rfl⟩
          have habI : (n : Int) - 1 - (j : Int) = (ab : Int) := by omega
          have hab4 : ab ≤ 4 := by omega
          have hc5 : zs.count (j : Int) ≤ 5 := Nat.le_trans List.count_le_length hl
          have X := Lib.hid (And.intro hownj hbj); clear hownj hbj
          have hol := oftenR_len n zs hn hl j
          have HOL := Lib.hid (show (oftenR n zs j).length ≤ 500 by omega); clear hol
          have hsucc := oftenR_succ n zs j
          unfold oftenAt at hsucc
          rw [← hab] at hsucc
          have HAB := Lib.hid hab.symm; clear hab
          generalize zs.count (j : Int) = c at *
          by_cases hc0 : c = 0
          · subst hc0
            rw [if_pos rfl] at hsucc
            have HSU := Lib.hid hsucc; clear hsucc
            obtain ⟨c, hcz⟩ : ∃ c : Nat, c = 0 := ⟨0, rfl⟩
            go_wp2_with fail
            refine (under_any ab 1002 _ (wf_small _ (by omega)) (by omega)).mono ?_
            rintro e w2 ⟨u2, rfl, ho2, hb2⟩
            have hz2 := hb2.size
            have Y := Lib.hid (And.intro (X.out.1.below hb2) (And.intro ho2.rd (X.out.2.trans (hb2.mono hszj)))); clear ho2 hb2 X
            have HUL := Lib.hid (show (underR ab 1002).length ≤ 100 by rw [underR_len]; omega)
            generalize hod : oftenR n zs j = od at *
            generalize underR ab 1002 = up at *
            go_wp2_with (at_builtin; refine wpList_append_V rfl _ _ _ rfl Try.underlying23 intInfo w1.heap.size _ _ od rfl Y.out.1 (by omega) _ up rfl Y.out.2.1 (by have := HOL.out; have := HUL.out; omega) ?_)
            intro v3 w3 ho3 hb3
            have hzq : w1.heap.size ≤ w3.heap.size := (Y.out.2.2.trans hb3).size
            have hbase : od ++ up = oftenR n zs (j + 1) := HSU.out.symm
            rw [hbase] at ho3
            have Z := Lib.hid (And.intro ho3 (Y.out.2.2.trans hb3)); clear ho3 hb3 hbase hod
            go_wp2
            go_loopw [8, 46] (fun q i wq => i = .int .i64 0 ∧ w1.heap.size ≤ wq.heap.size ∧ OwnI wq w1.heap.size wq.heap.size q (oftenR n zs (j + 1)) ∧ Below w1.heap.size w1 wq) (fun _ _ _ => 0)
            case atStart => exact ⟨rfl, hzq, Z.out⟩
            case round =>
              clear Z hzq
              obtain ⟨rfl, hszq, hownq, hbq⟩ := hrel
              have V := Lib.hid (And.intro hownq hbq); clear hownq hbq
              go_wp2
              go_roundw
              case rel => exact ⟨j + 1, by omega, by go_num, hszq, V.out⟩
              case measure => simp [intOf]; omega
          · rw [if_neg hc0] at hsucc
            have hcb : ((c : Int) == 0) = false := by rw [beq_eq_false_iff_ne]; omega
            obtain ⟨base, hbase⟩ : ∃ base, base = oftenR n zs j := ⟨_, rfl⟩
            have HFIN := Lib.hid (show base ++ upsR n j (c - 1) = oftenR n zs (j + 1) by rw [hsucc, hbase, upsR, HAB.out])
            have HBL := Lib.hid (show base.length ≤ 500 by rw [hbase]; exact HOL.out)
            rw [← hbase] at X
            have hzq := hszj
            have Z := Lib.hid (And.intro (show OwnI wr w1.heap.size wr.heap.size _ base from X.out.1) X.out.2)
            clear hsucc hbase X HOL hszj
            go_wp2
            go_loopw [8, 46] (fun q i wq => ∃ m : Nat, m ≤ c - 1 ∧ i = .int .i64 m ∧ w1.heap.size ≤ wq.heap.size ∧ OwnI wq w1.heap.size wq.heap.size q (base ++ upsR n j m) ∧ Below w1.heap.size w1 wq) (fun _ i _ => (c - 1) - (intOf i).toNat)
            case atStart => exact ⟨0, Nat.zero_le _, rfl, hzq, by simpa [upsR] using Z.out.1, Z.out.2⟩
            case round =>
              clear Z hzq
              obtain ⟨m, hm, rfl, hszq, hownq, hbq⟩ := hrel
              have V := Lib.hid (And.intro hownq hbq); clear hownq hbq
              by_cases hmc : m < c - 1
              · have hmcI : (m : Int) < (c : Int) - 1 := by omega
                go_wp2_with fail
                refine (under_any ab 1001 _ (wf_small _ (by omega)) (by omega)).mono ?_
                rintro e w4 ⟨u4, rfl, ho4, hb4⟩
                have hz4 := hb4.size
                have V2 := Lib.hid (And.intro (V.out.1.below hb4) (And.intro ho4.rd (V.out.2.trans (hb4.mono hszq)))); clear ho4 hb4
                have hlu := upsR_len n j m
                have hmul : m * (3 * (n - 1 - j) + 1) ≤ 5 * 13 := Nat.mul_le_mul (by omega) (by omega)
                have HLU := Lib.hid (show (base ++ upsR n j m).length ≤ 2000 by rw [List.length_append]; have := HBL.out; omega); clear hlu hmul
                have HUL := Lib.hid (show (underR ab 1001).length ≤ 100 by rw [underR_len]; omega)
                have HUP := Lib.hid (show base ++ upsR n j m ++ underR ab 1001 = base ++ upsR n j (m + 1) by rw [upsR_succ, HAB.out, List.append_assoc])
                generalize base ++ upsR n j m = us at *
                generalize underR ab 1001 = up at *
                go_wp2_with (at_builtin; refine wpList_append_V rfl _ _ _ rfl Try.underlying23 intInfo w1.heap.size _ _ us rfl V2.out.1 (by omega) _ up rfl V2.out.2.1 (by have := HLU.out; have := HUL.out; omega) ?_)
                intro v5 w5 ho5 hb5
                rw [HUP.out] at ho5
                have hz5 : w1.heap.size ≤ w5.heap.size := (V2.out.2.2.trans hb5).size
                have V3 := Lib.hid (And.intro ho5 (V2.out.2.2.trans hb5)); clear ho5 hb5
                go_wp2
                go_roundw
                case rel => exact ⟨m + 1, by omega, by go_num, hz5, V3.out⟩
                case measure => simp [intOf]; omega
              · have hmcI : ¬ (m : Int) < (c : Int) - 1 := by omega
                obtain rfl : m = c - 1 := by omega
                have hfin := V.out.1
                rw [HFIN.out] at hfin
                have V2 := Lib.hid (And.intro hfin V.out.2); clear hfin V
                go_wp2
                go_roundw
                case rel => exact ⟨j + 1, by omega, by go_num, hszq, V2.out⟩
                case measure => simp [intOf]; omega
        · obtain rfl : j = n := by omega
          go_wp2
          go_ret
          have hz2 : g ≤ w1.heap.size := Nat.le_of_lt hsz
          exact ⟨_, rfl, by rw [HG.out]; exact ⟨hownj.own.mono hz2, hownj.lt⟩, by rw [HG.out]; exact W1.out.1.trans (hbj.mono hz2)⟩
end Go.Proofs.Ytjbfpbajbjnifaa
