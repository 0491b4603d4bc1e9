/- Several texts in one. -/
import Derived.Test.YtceekfoacgoalaaBq
import Derived.BigQuiet
/- The model's letters: l1Same; l3Letters. -/
namespace Go.Proofs.Ytceekfoacgoalaa
set_option maxRecDepth 100000
open Go.RowKit Go.WideShapes

def SameRel (a b : List Int) (w : World) (k : Value) (wr : World) : Prop := ∃ j : Nat, k = .int .i64 j ∧ j ≤ a.length ∧ j ≤ b.length ∧ a.take j = b.take j ∧ Below w.heap.size w wr
theorem take_next {a b : List Int} {j : Nat} (ha : j < a.length) (hb : j < b.length) (h : a.take j = b.take j) (he : a.getD j 0 = b.getD j 0) : a.take (j + 1) = b.take (j + 1) := by
  rw [List.take_add_one, List.take_add_one, h]
  simp only [List.getD, List.getElem?_eq_getElem ha, List.getElem?_eq_getElem hb, Option.getD_some] at he
  rw [List.getElem?_eq_getElem ha, List.getElem?_eq_getElem hb, he]
set_option maxHeartbeats 1000000 in
theorem l1Same_any (u v : Value) (a b : List Int) (w : World) (h0 : RdI w u a) (h1 : RdI w v b) :
    Calls Try.prog 32 #[u, v] w fun e w' => e = .returned (.bool (decide (a = b))) ∧ Below w.heap.size w w' := by
  have hm0 := h0.len_le
  have hm1 := h1.len_le
  have HH := Lib.hid (And.intro h0.at_ h1.at_)
  obtain ⟨A0, c0, rfl, _⟩ := h0
  obtain ⟨A1, c1, rfl, _⟩ := h1
  have hst : SameRel a b w (.int .i64 ((0 : Nat) : Int)) w := ⟨0, rfl, Nat.zero_le _, Nat.zero_le _, by simp, Below.refl _ _⟩
  have Hst := Lib.hid hst; clear hst
  go_enter Try.func32, Try.ntmps32
  go_wp2
  go_loopw [5] (fun k wr => SameRel a b w k wr) (fun k _ => a.length - (intOf k).toNat)
  case atStart => exact Hst.out
  case round =>
    clear Hst
    obtain ⟨j, rfl, hja, hjb, ht, hbw⟩ := hrel
    have hsw := hbw.size
    by_cases hlt : j < a.length
    · by_cases hlt2 : j < b.length
      · obtain ⟨A, c, e, hi, _⟩ := (HH.out.1.below hbw).rd (by omega)
        obtain ⟨B, d, e', hi', _⟩ := (HH.out.2.below hbw).rd (by omega)
        cases e; cases e'
        obtain ⟨p, o, rfl, _, hc⟩ := hi.at_ (by omega)
        obtain ⟨p', o', rfl, _, hc'⟩ := hi'.at_ (by omega)
        have z0 := hc j hlt
        have z1 := hc' j hlt2
        have i0 : (j : Int) < a.length := by omega
        have i1 : (j : Int) < b.length := by omega
        have hne : a.getD j 0 ≠ b.getD j 0 → a ≠ b := fun h e => h (by rw [e])
        have hnx := fun he => take_next hlt hlt2 ht he
        have K := Lib.hid (And.intro hne (And.intro hnx hbw)); clear hne hnx hbw ht hc hc' hi hi'
        generalize a.getD j 0 = x at *
        generalize b.getD j 0 = y at *
        go_wp2
        go_quiet (fail)
        go_wp2
        · have hxy : (x != y) = true := by assumption
          have hf : ¬ a = b := K.out.1 (by simpa using hxy)
          go_ret
          exact ⟨ret_bool (by simp [hf]), below_drewN K.out.2.2 _⟩
        · have hxy : (x != y) = false := by assumption
          have he : x = y := by simpa using hxy
          have V := Lib.hid (And.intro (K.out.2.1 he) (below_drewN K.out.2.2 nq))
          go_roundw
          case rel => exact ⟨j + 1, by go_num, by omega, by omega, V.out⟩
          case measure => simp [intOf]; omega
      · have hf : ¬ a = b := fun e => by rw [e] at hlt; exact hlt2 hlt
        have i0 : (j : Int) < a.length := by omega
        have i1 : ¬ ((j : Int) < b.length) := by omega
        have hlb : ((a.length : Int) == (b.length : Int)) = false := by rw [beq_eq_false_iff_ne]; omega
        have K := Lib.hid (And.intro hf hbw); clear hf hbw ht
        go_wp2
        go_ret
        exact ⟨ret_bool (by simp [K.out.1]), K.out.2⟩
    · have hta : a.take j = a := List.take_of_length_le (by omega)
      have i0 : ¬ ((j : Int) < a.length) := by omega
      by_cases hl2 : a.length = b.length
      · have he : a = b := by rw [hta, List.take_of_length_le (by omega)] at ht; exact ht
        have hlb : ((a.length : Int) == (b.length : Int)) = true := by rw [beq_iff_eq]; omega
        have K := Lib.hid (And.intro he hbw); clear he hbw ht hta hl2
        go_wp2
        go_ret
        exact ⟨ret_bool (by simp [K.out.1]), K.out.2⟩
      · have hf : ¬ a = b := fun e => hl2 (by rw [e])
        have hlb : ((a.length : Int) == (b.length : Int)) = false := by rw [beq_eq_false_iff_ne]; omega
        have K := Lib.hid (And.intro hf hbw); clear hf hbw ht hta hl2
        go_wp2
        go_ret
        exact ⟨ret_bool (by simp [K.out.1]), K.out.2⟩

theorem rdI_take {w : World} {b off c L : Nat} {zs : List Int} (h : RdI w (.slice (some ⟨b, off, none⟩) L c) zs) (e : Nat) (he : e ≤ zs.length) : RdI w (.slice (some ⟨b, off, none⟩) e c) (zs.take e) := by
  obtain ⟨A, c', eq, hi, hc⟩ := h
  cases eq
  have h1 := hi.sub 0 e (by omega)
  rw [List.drop_zero, Nat.add_zero] at h1
  exact ⟨_, c, by rw [List.length_take, Nat.min_eq_left he], h1, by rw [List.length_take]; omega⟩
def LetPost (n : Nat) (b : Bool) (zs : List Int) (k : Nat) (ls : List (Int × Int)) (w : World) (e : Ending) (w' : World) : Prop := ∃ u, e = .returned u ∧ RdI w' u ((lets n b (zs.drop k) ls).map code) ∧ Below w.heap.size w w'
set_option maxHeartbeats 2000000 in
theorem l3Letters_any (n : Nat) : ∀ (b : Bool) (v ov : Value) (zs r : List Int) (ls : List (Int × Int)) (k : Nat) (w : World), RdI w v zs → RdI w ov (ls.map code) → (∀ x ∈ ls, x.1 = 1 ∨ x.1 = 3) → zs.length ≤ 1000000 → eat n b (zs.drop k) = some r → ls.length + (zs.drop k).length ≤ 1000000 →
    Calls Try.prog 51 #[v, ov, .int .i64 k, .bool b] w (LetPost n b zs k ls w) := by
  induction n with
  | zero => intro b v ov zs r ls k w _ _ _ _ h; cases h
  | succ n ih =>
    intro b v ov zs r ls k w hv hov hkd hl heat hll
    obtain ⟨e1, hk, e3, e4, e5⟩ := end_ok heat
    have cE := l3End_any zs.length v b k zs w hv (by omega) (by omega) (by omega)
    rw [e1] at cE
    have HEnd := Lib.hid cE; clear cE e1 e4
    have HV := Lib.hid hv
    obtain ⟨A, c, rfl, hi, hcl⟩ := hv
    obtain ⟨b0, off, rfl, hb0, hcc⟩ := hi.at_ (by omega)
    have hc0 := hcc k hk
    obtain ⟨z, hz⟩ : ∃ z, zs.getD k 0 = z := ⟨_, rfl⟩
    rw [hz] at hc0
    have hkI : (k : Int) < zs.length := by omega
    rw [List.length_drop] at hll
    clear hi
    rcases b with _ | _
    · by_cases h0 : z = 0
      · subst h0
        have hlets : lets (n + 1) false (zs.drop k) ls = ls := by rw [lets, getD_drop zs k hk, hz]; simp
        obtain ⟨cs, hcs⟩ : ∃ cs, ls.map code = cs := ⟨_, rfl⟩
        rw [hcs] at hov
        have HL := Lib.hid (And.intro hlets (And.intro hcs hov)); clear hlets hz heat hcc ih hcs
        obtain ⟨Ao, co, rfl, _⟩ := hov
        go_enter Try.func51, Try.ntmps51
        go_wp2_with fail
        refine (HEnd.out).mono ?_
        rintro e w' ⟨rfl, rfl⟩
        go_wp2
        go_ret
        exact ⟨_, rfl, by rw [HL.out.1, HL.out.2.1]; exact HL.out.2.2, Below.refl _ _⟩
      by_cases h1 : z = 1
      · subst h1
        clear h0 ih
        have hy : lettAt zs k := by
          by_cases hL : lettAt zs k
          · exact hL
          · exfalso
            have h1 := ((endAt_next n hk hz).2.1 rfl).2 hL
            rw [endAt, heat] at h1
            simp only [endOf] at h1
            omega
        obtain ⟨hy1, hy2, hy3⟩ := hy
        have hlets : lets (n + 1) false (zs.drop k) ls = addL ls (1, zs.getD (k + 1) 0) := by
          rw [lets, getD_drop zs k hk, hz, getD_drop1 zs k hy1]; simp
        have hcm := code_mem (x := (1, zs.getD (k + 1) 0)) (by simp) hkd
        have hcd : code (1, zs.getD (k + 1) 0) = 2 * zs.getD (k + 1) 0 := by simp [code]
        have hc1 := hcc (k + 1) hy1
        have hk1I : (k : Int) + 1 < zs.length := by omega
        generalize zs.getD (k + 1) 0 = y at *
        have hmap : (addL ls (1, y)).map code = if 2 * y ∈ ls.map code then ls.map code else ls.map code ++ [2 * y] := by
          rw [← hcd]
          unfold addL
          by_cases hm : ((1, y) : Int × Int) ∈ ls
          · rw [if_pos hm, if_pos (hcm.2 hm)]
          · rw [if_neg hm, if_neg (fun h => hm (hcm.1 h))]; simp
        rw [← hlets] at hmap
        have HM := Lib.hid hmap; clear hmap hlets hcm hcd heat hz hcc hkd
        generalize hcs : ls.map code = cs at *
        have hcl : cs.length ≤ 1000000 := by rw [← hcs, List.length_map]; omega
        have HO := Lib.hid hov
        obtain ⟨Ao, co, rfl, hio, _⟩ := hov
        have HI := Lib.hid hio; clear hio hcs
        go_enter Try.func51, Try.ntmps51
        go_wp2_with fail
        refine (HEnd.out).mono ?_
        rintro e w' ⟨rfl, rfl⟩
        go_wp2
        go_loop [11] (fun i => ∃ j : Nat, j ≤ cs.length ∧ i = .int .i64 j ∧ 2 * y ∉ cs.take j) (fun i => cs.length - (intOf i).toNat)
        case atStart => exact ⟨0, Nat.zero_le _, rfl, by simp⟩
        case round =>
          obtain ⟨j, hj, rfl, hno⟩ := hrel
          by_cases hlt : j < cs.length
          · obtain ⟨p, o, rfl, _, hpc⟩ := HI.out.at_ (by omega)
            have hcell := hpc j hlt
            have hjI : (j : Int) < cs.length := by omega
            have hg : cs[j]? = some (cs.getD j 0) := by simp [List.getD, List.getElem?_eq_getElem hlt]
            have hmem : cs.getD j 0 ∈ cs := List.mem_of_getElem? hg
            have htk : cs.take (j + 1) = cs.take j ++ [cs.getD j 0] := by rw [List.take_add_one, hg]; rfl
            clear hpc hg
            generalize cs.getD j 0 = x at *
            by_cases he : x = 2 * y
            · have heb : (x == 2 * y) = true := by simpa using he
              have hfin : (lets (n + 1) false (zs.drop k) ls).map code = cs := by rw [HM.out, if_pos (by rw [← he]; exact hmem)]
              have R := Lib.hid hfin; clear hfin hmem htk hno he
              go_wp2
              go_ret
              exact ⟨_, rfl, by rw [R.out]; exact HO.out, Below.refl _ _⟩
            · have heb : (x == 2 * y) = false := by simpa using he
              have R : Hid (2 * y ∉ cs.take (j + 1)) := Lib.hid (by rw [htk]; simp only [List.mem_append, List.mem_singleton, not_or]; exact ⟨hno, fun e => he e.symm⟩)
              clear hmem htk hno he
              go_wp2
              go_round
              case rel => exact ⟨j + 1, by omega, by go_num, R.out⟩
              case measure => simp [intOf]; omega
          · have hno2 : 2 * y ∉ cs := by rw [List.take_of_length_le (by omega)] at hno; exact hno
            have hfin : (lets (n + 1) false (zs.drop k) ls).map code = cs ++ [2 * y] := by rw [HM.out, if_neg hno2]
            have R := Lib.hid hfin; clear hfin hno hno2
            have hjI : ¬ ((j : Int) < cs.length) := by omega
            have hb1 : Below w.heap.size w (w.alloc (.cells #[] 3)) := (Below.refl _ _).alloc (Nat.le_refl _) _
            have L0 : OwnI (w.alloc (.cells #[] 3)) w.heap.size (w.heap.size + 1) (.slice (some ⟨w.heap.size, 0, none⟩) 0 0) [] := by simpa using lits_own w [] (by simp) (by simp)
            have Y := Lib.hid (And.intro L0 (And.intro (HO.out.step hb1) hb1)); clear L0 hb1
            go_wp2_with (at_builtin; refine wpList_append_V rfl _ _ _ rfl Try.underlying23 intInfo w.heap.size (w.heap.size + 1) _ [] rfl Y.out.1 (by simp) _ cs rfl Y.out.2.1 (by simp; omega) ?_)
            intro v2 w2 ho2 hb2
            replace ho2 : OwnI w2 w.heap.size w2.heap.size v2 cs := ho2
            have hs2 : w.heap.size + 1 ≤ w2.heap.size := by have := hb2.size; rw [World.size_alloc] at this; exact this
            have hal2 : Below w2.heap.size w2 (w2.alloc (.cells #[.int .i64 (2 * y)] 3)) := (Below.refl _ _).alloc (Nat.le_refl _) _
            have hl2 := (lits_own w2 [2 * y] (by simp) (by intro q hq; simp only [List.mem_cons, List.not_mem_nil, or_false] at hq; subst hq; exact wf_near _ (by omega))).rd
            obtain ⟨A2, c2, rfl, _⟩ := ho2.rd
            have Z := Lib.hid (And.intro (ho2.below hal2) (And.intro hl2 ((Y.out.2.2.trans (hb2.mono (by omega))).trans (hal2.mono (by omega))))); clear ho2 hb2 hl2 hal2 Y
            go_wp2_with (at_builtin; refine wpList_append_V rfl _ _ _ rfl Try.underlying23 intInfo w.heap.size w2.heap.size _ cs rfl Z.out.1 (by simp; omega) _ [2 * y] rfl Z.out.2.1 (by simp; omega) ?_)
            intro v3 w3 ho3 hb3
            have hs3 := hb3.size
            obtain ⟨A3, c3, rfl, _⟩ := ho3.rd
            have U := Lib.hid (And.intro ho3.rd (Z.out.2.2.trans (hb3.mono (by omega)))); clear ho3 hb3 Z
            generalize cs ++ [2 * y] = cs3 at *
            go_wp2
            go_ret
            exact ⟨_, rfl, by rw [R.out]; exact U.out.1, U.out.2⟩
      by_cases h2 : z = 2
      · clear h0 h1
        have g1 : (z == 1) = false := by simp [h2]
        have g2 : (z == 2) = true := by simp [h2]
        have g3 : (z == 3) = false := by simp [h2]
        have hz2 : zs.getD k 0 = 2 := hz.trans h2
        clear h2 hz
        obtain ⟨r1, hr1, hr2⟩ : ∃ r1, eat n true (zs.drop (k + 1)) = some r1 ∧ eat n true r1 = some r := by
          rw [eat, getD_drop zs k hk, hz2, List.tail_drop] at heat
          simp at heat
          rcases h3 : eat n true (zs.drop (k + 1)) with _ | r1
          · rw [h3] at heat; cases heat
          · rw [h3] at heat; exact ⟨r1, rfl, heat⟩
        have hlets : lets (n + 1) false (zs.drop k) ls = lets n true r1 (lets n true (zs.drop (k + 1)) ls) := by
          rw [lets, getD_drop zs k hk, hz2, List.tail_drop, hr1]; simp
        obtain ⟨m1, m2, m3, m4, m5⟩ := end_ok hr1
        have hl1 := lets_len hr1 ls
        have hll := lets_len hr2 (lets n true (zs.drop (k + 1)) ls)
        have hkd1 := lets_kinds n true (zs.drop (k + 1)) ls hkd
        have hrl := eat_len hr2
        obtain ⟨p, hp, _, hpe, hpl⟩ := eat_pre hr2
        have hplen : p.length + r.length = r1.length := by rw [hp, List.length_append]
        rw [List.length_drop] at hl1
        have hsub : (zs.take (zs.length - r.length)).drop (zs.length - r1.length) = p := by
          rw [List.drop_take, m4, hp, show zs.length - r.length - (zs.length - (p ++ r).length) = p.length by rw [List.length_append] at *; omega]
          simp
        have hE2 : eat n true ((zs.take (zs.length - r.length)).drop (zs.length - r1.length)) = some [] := by
          rw [hsub]; have := hpe []; rw [List.append_nil] at this; exact this
        have hL2 : lets n true ((zs.take (zs.length - r.length)).drop (zs.length - r1.length)) (lets n true (zs.drop (k + 1)) ls) = lets (n + 1) false (zs.drop k) ls := by
          rw [hsub, hlets]; have := hpl [] (lets n true (zs.drop (k + 1)) ls); rw [List.append_nil] at this; exact this
        have c1 := l3End_any zs.length (.slice (some ⟨b0, off, none⟩) zs.length c) true (k + 1) zs w HV.out (by omega) (by omega) (by omega)
        rw [m1, show ((k + 1 : Nat) : Int) = (k : Int) + 1 by omega] at c1
        have c2 := ih true (.slice (some ⟨b0, off, none⟩) zs.length c) ov zs r1 ls (k + 1) w HV.out hov hkd hl hr1 (by rw [List.length_drop]; omega)
        rw [show ((k + 1 : Nat) : Int) = (k : Int) + 1 by omega] at c2
        have C := Lib.hid (And.intro c1 c2)
        have D := Lib.hid (And.intro hE2 (And.intro hL2 hkd1)); clear c1 c2 hE2 hL2 hkd1 hlets hsub hp hpe hpl hr1 hr2 heat
        obtain ⟨m, hm⟩ : ∃ m, zs.length - r1.length = m := ⟨_, rfl⟩
        obtain ⟨en, hen⟩ : ∃ en, zs.length - r.length = en := ⟨_, rfl⟩
        rw [hm] at C D m4
        rw [hen] at D HEnd
        have q1 : m ≤ en := by omega
        have q2 : en ≤ zs.length := by omega
        have q3 : (lets n true (zs.drop (k + 1)) ls).length + (en - m) ≤ 1000000 := by omega
        clear hm hen m1 m3 m4 hplen hl1 hll hz2 hcc
        obtain ⟨cs0, hcs0⟩ : ∃ cs0, ls.map code = cs0 := ⟨_, rfl⟩
        have hov' : RdI w ov cs0 := by rw [← hcs0]; exact hov
        clear hov hcs0
        obtain ⟨Ao, co, rfl, _⟩ := hov'
        go_enter Try.func51, Try.ntmps51
        go_wp2_with fail
        refine (HEnd.out).mono ?_
        rintro e w' ⟨rfl, rfl⟩
        go_wp2_with fail
        refine (C.out.1).mono ?_
        rintro e w' ⟨rfl, rfl⟩
        go_wp2_with fail
        refine (C.out.2).mono ?_
        rintro e w1 ⟨u1, rfl, hu1, hb1⟩
        obtain ⟨cs1, hcs1⟩ : ∃ cs1, (lets n true (zs.drop (k + 1)) ls).map code = cs1 := ⟨_, rfl⟩
        have hu1' := hu1
        rw [hcs1] at hu1
        have hs1 := hb1.size
        have HU := Lib.hid (And.intro hu1 hb1)
        obtain ⟨Au, cu, rfl, _⟩ := hu1
        have hcell1 := (hb1.cell (p := ⟨b0, off + k, none⟩) hb0).trans hc0
        have hcE : (en : Int) ≤ c := by omega
        have hd : Below w1.heap.size w1 w1.drew := (Below.refl _ _).drew
        have F := Lib.hid (ih true (.slice (some ⟨b0, off, none⟩) en c) (.slice Au cs1.length cu) (zs.take en) [] (lets n true (zs.drop (k + 1)) ls) m w1.drew (rdI_take ((HV.out.step hb1).step hd) en q2) (by rw [hcs1]; exact HU.out.1.step hd) D.out.2.2 (by rw [List.length_take]; omega) D.out.1 (by rw [List.length_drop, List.length_take]; omega)); clear hb1 ih hu1' hcs1
        go_wp2
        go_region_with (go_at_call 51; refine (F.out).mono ?_; rintro e w2 ⟨u2, rfl, hu2, hb2⟩; obtain ⟨cs2, hcs2⟩ : ∃ cs2, (lets (n + 1) false (zs.drop k) ls).map code = cs2 := ⟨_, rfl⟩; rw [D.out.2.1, hcs2] at hu2; obtain ⟨A2, c2, rfl, _⟩ := id hu2)
        all_goals go_wp2
        all_goals go_ret
        all_goals exact ⟨_, rfl, by rw [hcs2]; exact hu2, (HU.out.2.trans (hd.mono hs1)).trans (hb2.mono hs1)⟩
      exfalso
      rw [eat, getD_drop zs k hk, hz, if_neg h0, if_neg h1, if_neg h2] at heat
      cases heat
    · by_cases h3 : z = 3
      · subst h3
        clear ih
        have hy : lettAt zs k := by
          by_cases hL : lettAt zs k
          · exact hL
          · exfalso
            have h1 := ((endAt_next n hk hz).2.2.2.2.1 rfl).2 hL
            rw [endAt, heat] at h1
            simp only [endOf] at h1
            omega
        obtain ⟨hy1, hy2, hy3⟩ := hy
        have hlets : lets (n + 1) true (zs.drop k) ls = addL ls (3, zs.getD (k + 1) 0) := by
          rw [lets, getD_drop zs k hk, hz, getD_drop1 zs k hy1]; simp
        have hcm := code_mem (x := (3, zs.getD (k + 1) 0)) (by simp) hkd
        have hcd : code (3, zs.getD (k + 1) 0) = 2 * zs.getD (k + 1) 0 + 1 := by simp [code]
        have hc1 := hcc (k + 1) hy1
        have hk1I : (k : Int) + 1 < zs.length := by omega
        generalize zs.getD (k + 1) 0 = y at *
        have hmap : (addL ls (3, y)).map code = if 2 * y + 1 ∈ ls.map code then ls.map code else ls.map code ++ [2 * y + 1] := by
          rw [← hcd]
          unfold addL
          by_cases hm : ((3, y) : Int × Int) ∈ ls
          · rw [if_pos hm, if_pos (hcm.2 hm)]
          · rw [if_neg hm, if_neg (fun h => hm (hcm.1 h))]; simp
        rw [← hlets] at hmap
        have HM := Lib.hid hmap; clear hmap hlets hcm hcd heat hz hcc hkd
        generalize hcs : ls.map code = cs at *
        have hcl : cs.length ≤ 1000000 := by rw [← hcs, List.length_map]; omega
        have HO := Lib.hid hov
        obtain ⟨Ao, co, rfl, hio, _⟩ := hov
        have HI := Lib.hid hio; clear hio hcs
        go_enter Try.func51, Try.ntmps51
        go_wp2_with fail
        refine (HEnd.out).mono ?_
        rintro e w' ⟨rfl, rfl⟩
        go_wp2
        go_loop [11] (fun i => ∃ j : Nat, j ≤ cs.length ∧ i = .int .i64 j ∧ 2 * y + 1 ∉ cs.take j) (fun i => cs.length - (intOf i).toNat)
        case atStart => exact ⟨0, Nat.zero_le _, rfl, by simp⟩
        case round =>
          obtain ⟨j, hj, rfl, hno⟩ := hrel
          by_cases hlt : j < cs.length
          · obtain ⟨p, o, rfl, _, hpc⟩ := HI.out.at_ (by omega)
            have hcell := hpc j hlt
            have hjI : (j : Int) < cs.length := by omega
            have hg : cs[j]? = some (cs.getD j 0) := by simp [List.getD, List.getElem?_eq_getElem hlt]
            have hmem : cs.getD j 0 ∈ cs := List.mem_of_getElem? hg
            have htk : cs.take (j + 1) = cs.take j ++ [cs.getD j 0] := by rw [List.take_add_one, hg]; rfl
            clear hpc hg
            generalize cs.getD j 0 = x at *
            by_cases he : x = 2 * y + 1
            · have heb : (x == 2 * y + 1) = true := by simpa using he
              have hfin : (lets (n + 1) true (zs.drop k) ls).map code = cs := by rw [HM.out, if_pos (by rw [← he]; exact hmem)]
              have R := Lib.hid hfin; clear hfin hmem htk hno he
              go_wp2
              go_ret
              exact ⟨_, rfl, by rw [R.out]; exact HO.out, Below.refl _ _⟩
            · have heb : (x == 2 * y + 1) = false := by simpa using he
              have R : Hid (2 * y + 1 ∉ cs.take (j + 1)) := Lib.hid (by rw [htk]; simp only [List.mem_append, List.mem_singleton, not_or]; exact ⟨hno, fun e => he e.symm⟩)
              clear hmem htk hno he
              go_wp2
              go_round
              case rel => exact ⟨j + 1, by omega, by go_num, R.out⟩
              case measure => simp [intOf]; omega
          · have hno2 : 2 * y + 1 ∉ cs := by rw [List.take_of_length_le (by omega)] at hno; exact hno
            have hfin : (lets (n + 1) true (zs.drop k) ls).map code = cs ++ [2 * y + 1] := by rw [HM.out, if_neg hno2]
            have R := Lib.hid hfin; clear hfin hno hno2
            have hjI : ¬ ((j : Int) < cs.length) := by omega
            have hb1 : Below w.heap.size w (w.alloc (.cells #[] 3)) := (Below.refl _ _).alloc (Nat.le_refl _) _
            have L0 : OwnI (w.alloc (.cells #[] 3)) w.heap.size (w.heap.size + 1) (.slice (some ⟨w.heap.size, 0, none⟩) 0 0) [] := by simpa using lits_own w [] (by simp) (by simp)
            have Y := Lib.hid (And.intro L0 (And.intro (HO.out.step hb1) hb1)); clear L0 hb1
            go_wp2_with (at_builtin; refine wpList_append_V rfl _ _ _ rfl Try.underlying23 intInfo w.heap.size (w.heap.size + 1) _ [] rfl Y.out.1 (by simp) _ cs rfl Y.out.2.1 (by simp; omega) ?_)
            intro v2 w2 ho2 hb2
            replace ho2 : OwnI w2 w.heap.size w2.heap.size v2 cs := ho2
            have hs2 : w.heap.size + 1 ≤ w2.heap.size := by have := hb2.size; rw [World.size_alloc] at this; exact this
            have hal2 : Below w2.heap.size w2 (w2.alloc (.cells #[.int .i64 (2 * y + 1)] 3)) := (Below.refl _ _).alloc (Nat.le_refl _) _
            have hl2 := (lits_own w2 [2 * y + 1] (by simp) (by intro q hq; simp only [List.mem_cons, List.not_mem_nil, or_false] at hq; subst hq; exact wf_near _ (by omega))).rd
            obtain ⟨A2, c2, rfl, _⟩ := ho2.rd
            have Z := Lib.hid (And.intro (ho2.below hal2) (And.intro hl2 ((Y.out.2.2.trans (hb2.mono (by omega))).trans (hal2.mono (by omega))))); clear ho2 hb2 hl2 hal2 Y
            go_wp2_with (at_builtin; refine wpList_append_V rfl _ _ _ rfl Try.underlying23 intInfo w.heap.size w2.heap.size _ cs rfl Z.out.1 (by simp; omega) _ [2 * y + 1] rfl Z.out.2.1 (by simp; omega) ?_)
            intro v3 w3 ho3 hb3
            have hs3 := hb3.size
            obtain ⟨A3, c3, rfl, _⟩ := ho3.rd
            have U := Lib.hid (And.intro ho3.rd (Z.out.2.2.trans (hb3.mono (by omega)))); clear ho3 hb3 Z
            generalize cs ++ [2 * y + 1] = cs3 at *
            go_wp2
            go_ret
            exact ⟨_, rfl, by rw [R.out]; exact U.out.1, U.out.2⟩
      by_cases h4 : z = 4
      · clear h3
        have g1 : (z == 1) = false := by simp [h4]
        have g2 : (z == 2) = false := by simp [h4]
        have g3 : (z == 3) = false := by simp [h4]
        have g4 : (z == 4) = true := by simp [h4]
        have hz2 : zs.getD k 0 = 4 := hz.trans h4
        clear h4 hz
        obtain ⟨r1, hr1, hr2⟩ : ∃ r1, eat n true (zs.drop (k + 1)) = some r1 ∧ eat n false r1 = some r := by
          rw [eat, getD_drop zs k hk, hz2, List.tail_drop] at heat
          simp at heat
          rcases h3 : eat n true (zs.drop (k + 1)) with _ | r1
          · rw [h3] at heat; cases heat
          · rw [h3] at heat; exact ⟨r1, rfl, heat⟩
        have hlets : lets (n + 1) true (zs.drop k) ls = lets n false r1 (lets n true (zs.drop (k + 1)) ls) := by
          rw [lets, getD_drop zs k hk, hz2, List.tail_drop, hr1]; simp
        obtain ⟨m1, m2, m3, m4, m5⟩ := end_ok hr1
        have hl1 := lets_len hr1 ls
        have hll := lets_len hr2 (lets n true (zs.drop (k + 1)) ls)
        have hkd1 := lets_kinds n true (zs.drop (k + 1)) ls hkd
        have hrl := eat_len hr2
        obtain ⟨p, hp, _, hpe, hpl⟩ := eat_pre hr2
        have hplen : p.length + r.length = r1.length := by rw [hp, List.length_append]
        rw [List.length_drop] at hl1
        have hsub : (zs.take (zs.length - r.length)).drop (zs.length - r1.length) = p := by
          rw [List.drop_take, m4, hp, show zs.length - r.length - (zs.length - (p ++ r).length) = p.length by rw [List.length_append] at *; omega]
          simp
        have hE2 : eat n false ((zs.take (zs.length - r.length)).drop (zs.length - r1.length)) = some [] := by
          rw [hsub]; have := hpe []; rw [List.append_nil] at this; exact this
        have hL2 : lets n false ((zs.take (zs.length - r.length)).drop (zs.length - r1.length)) (lets n true (zs.drop (k + 1)) ls) = lets (n + 1) true (zs.drop k) ls := by
          rw [hsub, hlets]; have := hpl [] (lets n true (zs.drop (k + 1)) ls); rw [List.append_nil] at this; exact this
        have c1 := l3End_any zs.length (.slice (some ⟨b0, off, none⟩) zs.length c) true (k + 1) zs w HV.out (by omega) (by omega) (by omega)
        rw [m1, show ((k + 1 : Nat) : Int) = (k : Int) + 1 by omega] at c1
        have c2 := ih true (.slice (some ⟨b0, off, none⟩) zs.length c) ov zs r1 ls (k + 1) w HV.out hov hkd hl hr1 (by rw [List.length_drop]; omega)
        rw [show ((k + 1 : Nat) : Int) = (k : Int) + 1 by omega] at c2
        have C := Lib.hid (And.intro c1 c2)
        have D := Lib.hid (And.intro hE2 (And.intro hL2 hkd1)); clear c1 c2 hE2 hL2 hkd1 hlets hsub hp hpe hpl hr1 hr2 heat
        obtain ⟨m, hm⟩ : ∃ m, zs.length - r1.length = m := ⟨_, rfl⟩
        obtain ⟨en, hen⟩ : ∃ en, zs.length - r.length = en := ⟨_, rfl⟩
        rw [hm] at C D m4
        rw [hen] at D HEnd
        have q1 : m ≤ en := by omega
        have q2 : en ≤ zs.length := by omega
        have q3 : (lets n true (zs.drop (k + 1)) ls).length + (en - m) ≤ 1000000 := by omega
        clear hm hen m1 m3 m4 hplen hl1 hll hz2 hcc
        obtain ⟨cs0, hcs0⟩ : ∃ cs0, ls.map code = cs0 := ⟨_, rfl⟩
        have hov' : RdI w ov cs0 := by rw [← hcs0]; exact hov
        clear hov hcs0
        obtain ⟨Ao, co, rfl, _⟩ := hov'
        go_enter Try.func51, Try.ntmps51
        go_wp2_with fail
        refine (HEnd.out).mono ?_
        rintro e w' ⟨rfl, rfl⟩
        go_wp2_with fail
        refine (C.out.1).mono ?_
        rintro e w' ⟨rfl, rfl⟩
        go_wp2_with fail
        refine (C.out.2).mono ?_
        rintro e w1 ⟨u1, rfl, hu1, hb1⟩
        obtain ⟨cs1, hcs1⟩ : ∃ cs1, (lets n true (zs.drop (k + 1)) ls).map code = cs1 := ⟨_, rfl⟩
        have hu1' := hu1
        rw [hcs1] at hu1
        have hs1 := hb1.size
        have HU := Lib.hid (And.intro hu1 hb1)
        obtain ⟨Au, cu, rfl, _⟩ := hu1
        have hcell1 := (hb1.cell (p := ⟨b0, off + k, none⟩) hb0).trans hc0
        have hcE : (en : Int) ≤ c := by omega
        have hd : Below w1.heap.size w1 w1.drew := (Below.refl _ _).drew
        have F := Lib.hid (ih false (.slice (some ⟨b0, off, none⟩) en c) (.slice Au cs1.length cu) (zs.take en) [] (lets n true (zs.drop (k + 1)) ls) m w1.drew (rdI_take ((HV.out.step hb1).step hd) en q2) (by rw [hcs1]; exact HU.out.1.step hd) D.out.2.2 (by rw [List.length_take]; omega) D.out.1 (by rw [List.length_drop, List.length_take]; omega)); clear hb1 ih hu1' hcs1
        go_wp2
        go_region_with (go_at_call 51; refine (F.out).mono ?_; rintro e w2 ⟨u2, rfl, hu2, hb2⟩; obtain ⟨cs2, hcs2⟩ : ∃ cs2, (lets (n + 1) true (zs.drop k) ls).map code = cs2 := ⟨_, rfl⟩; rw [D.out.2.1, hcs2] at hu2; obtain ⟨A2, c2, rfl, _⟩ := id hu2)
        all_goals go_wp2
        all_goals go_ret
        all_goals exact ⟨_, rfl, by rw [hcs2]; exact hu2, (HU.out.2.trans (hd.mono hs1)).trans (hb2.mono hs1)⟩
      exfalso
      rw [eat, getD_drop zs k hk, hz, if_neg h3, if_neg h4] at heat
      cases heat
end Go.Proofs.Ytceekfoacgoalaa

/- Letters named in order: what the model's tidy rows come to (pure). -/
namespace Go.Proofs.Ytceekfoacgoalaa
set_option maxRecDepth 100000
open Go.RowKit Go.WideShapes

/-- The place of a letter among those of its kind. -/
def rank : List (Int × Int) → Int × Int → Int
  | [], _ => 0
  | x :: r, kn => if x = kn then 0 else (if x.1 = kn.1 then 1 else 0) + rank r kn
/-- The row with its letters called by their places. -/
def nam : Nat → Bool → List Int → List (Int × Int) → List Int
  | 0, _, _, _ => []
  | n + 1, true, zs, L => if zs.headD (-1) = 3 then [3, rank L (3, zs.tail.headD (-1))] else 4 :: (nam n true zs.tail L ++ nam n false ((eat n true zs.tail).getD []) L)
  | n + 1, false, zs, L => if zs.headD (-1) = 0 then [0] else if zs.headD (-1) = 1 then [1, rank L (1, zs.tail.headD (-1))] else 2 :: (nam n true zs.tail L ++ nam n true ((eat n true zs.tail).getD []) L)
/-- The letters that stand there. -/
def occ : Nat → Bool → List Int → List (Int × Int)
  | 0, _, _ => []
  | n + 1, true, zs => if zs.headD (-1) = 3 then [(3, zs.tail.headD (-1))] else occ n true zs.tail ++ occ n false ((eat n true zs.tail).getD [])
  | n + 1, false, zs => if zs.headD (-1) = 0 then [] else if zs.headD (-1) = 1 then [(1, zs.tail.headD (-1))] else occ n true zs.tail ++ occ n true ((eat n true zs.tail).getD [])

theorem nam_f (n : Nat) (z : Int) (xs : List Int) (L : List (Int × Int)) : nam (n + 1) false (z :: xs) L = if z = 0 then [0] else if z = 1 then [1, rank L (1, xs.headD (-1))] else 2 :: (nam n true xs L ++ nam n true ((eat n true xs).getD []) L) := rfl
theorem nam_t (n : Nat) (z : Int) (xs : List Int) (L : List (Int × Int)) : nam (n + 1) true (z :: xs) L = if z = 3 then [3, rank L (3, xs.headD (-1))] else 4 :: (nam n true xs L ++ nam n false ((eat n true xs).getD []) L) := rfl
theorem occ_f (n : Nat) (z : Int) (xs : List Int) : occ (n + 1) false (z :: xs) = if z = 0 then [] else if z = 1 then [(1, xs.headD (-1))] else occ n true xs ++ occ n true ((eat n true xs).getD []) := rfl
theorem occ_t (n : Nat) (z : Int) (xs : List Int) : occ (n + 1) true (z :: xs) = if z = 3 then [(3, xs.headD (-1))] else occ n true xs ++ occ n false ((eat n true xs).getD []) := rfl
theorem two_iff {A B t r r1 : List Int} {P Q : Prop} (hA : A.length + r1.length = t.length) (h1 : A ++ r1 = t ↔ P) (h2 : B ++ r = r1 ↔ Q) (_ : B.length + r.length = r1.length) (ht : ∃ p, t = p ++ r1) : (A ++ B) ++ r = t ↔ P ∧ Q := by
  obtain ⟨p, rfl⟩ := ht
  rw [← h1, ← h2, List.append_assoc]
  rw [List.length_append] at hA
  constructor
  · intro h
    have := List.append_inj h (by omega)
    exact ⟨by rw [this.1], this.2⟩
  · rintro ⟨h3, h4⟩
    rw [h4]; exact h3
theorem nam_iff {n : Nat} {b : Bool} {zs r : List Int} (h : eat n b zs = some r) (L : List (Int × Int)) : (nam n b zs L ++ r = zs ↔ ∀ kn ∈ occ n b zs, rank L kn = kn.2) ∧ (nam n b zs L).length + r.length = zs.length := by
  induction n generalizing b zs r with
  | zero => cases h
  | succ n ih =>
    rcases zs with _ | ⟨z, xs⟩
    · exfalso; have := eat_len h; simp at this
    have two : ∀ b2 (q : Int), (eat n true xs).bind (eat n b2) = some r → z = q → ((q :: (nam n true xs L ++ nam n b2 ((eat n true xs).getD []) L)) ++ r = z :: xs ↔ ∀ kn ∈ occ n true xs ++ occ n b2 ((eat n true xs).getD []), rank L kn = kn.2) ∧ (q :: (nam n true xs L ++ nam n b2 ((eat n true xs).getD []) L)).length + r.length = (z :: xs).length := by
      rintro b2 q hr rfl
      rcases h3 : eat n true xs with _ | r1
      · rw [h3] at hr; cases hr
      · rw [h3] at hr
        obtain ⟨i1, i2⟩ := ih h3
        obtain ⟨j1, j2⟩ := ih hr
        obtain ⟨p, hp, _⟩ := eat_pre h3
        simp only [Option.getD_some]
        have hh := two_iff i2 i1 j1 j2 ⟨p, hp⟩
        refine ⟨?_, by simp only [List.length_cons, List.length_append]; omega⟩
        rw [List.cons_append, List.cons.injEq]
        simp only [true_and]
        rw [hh]
        simp only [List.mem_append]
        constructor
        · rintro ⟨k1, k2⟩ kn (hk | hk)
          · exact k1 kn hk
          · exact k2 kn hk
        · exact fun k => ⟨fun kn hk => k kn (.inl hk), fun kn hk => k kn (.inr hk)⟩
    have lett : ∀ q : Int, (0 ≤ xs.headD (-1) ∧ xs.headD (-1) ≤ 999) → some xs.tail = some r → z = q → ([q, rank L (q, xs.headD (-1))] ++ r = z :: xs ↔ ∀ kn ∈ [(q, xs.headD (-1))], rank L kn = kn.2) ∧ ([q, rank L (q, xs.headD (-1))] : List Int).length + r.length = (z :: xs).length := by
      rintro q hc hr rfl
      rcases xs with _ | ⟨y, xs⟩
      · simp at hc
      · cases hr
        simp only [List.headD_cons, List.tail_cons, List.mem_singleton, forall_eq]
        refine ⟨?_, by simp; omega⟩
        simp
    rcases b with _ | _
    · rw [eat_f] at h
      rw [nam_f, occ_f]
      by_cases e : z = 0
      · rw [if_pos e] at h
        cases h
        rw [if_pos e, if_pos e, e]
        simp
        omega
      rw [if_neg e] at h
      rw [if_neg e, if_neg e]
      by_cases e : z = 1
      · rw [if_pos e] at h
        rw [if_pos e, if_pos e]
        by_cases hc : 0 ≤ xs.headD (-1) ∧ xs.headD (-1) ≤ 999
        · rw [if_pos hc] at h; exact lett 1 hc h e
        · rw [if_neg hc] at h; cases h
      rw [if_neg e] at h
      rw [if_neg e, if_neg e]
      by_cases e : z = 2
      · rw [if_pos e] at h; exact two true 2 h e
      · rw [if_neg e] at h; cases h
    · rw [eat_t] at h
      rw [nam_t, occ_t]
      by_cases e : z = 3
      · rw [if_pos e] at h
        rw [if_pos e, if_pos e]
        by_cases hc : 0 ≤ xs.headD (-1) ∧ xs.headD (-1) ≤ 999
        · rw [if_pos hc] at h; exact lett 3 hc h e
        · rw [if_neg hc] at h; cases h
      rw [if_neg e] at h
      rw [if_neg e, if_neg e]
      by_cases e : z = 4
      · rw [if_pos e] at h; exact two false 4 h e
      · rw [if_neg e] at h; cases h
theorem addL_mem {ls : List (Int × Int)} {kn x : Int × Int} : x ∈ addL ls kn ↔ x ∈ ls ∨ x = kn := by
  unfold addL
  split
  · rename_i h
    exact ⟨.inl, fun h2 => h2.elim id (fun e => by rw [e]; exact h)⟩
  · simp
theorem lets_mem {n : Nat} {b : Bool} {zs r : List Int} (h : eat n b zs = some r) {ls : List (Int × Int)} {x : Int × Int} : x ∈ lets n b zs ls ↔ x ∈ ls ∨ x ∈ occ n b zs := by
  induction n generalizing b zs r ls with
  | zero => cases h
  | succ n ih =>
    have two : ∀ b2, (eat n true zs.tail).bind (eat n b2) = some r → (x ∈ lets n b2 ((eat n true zs.tail).getD []) (lets n true zs.tail ls) ↔ x ∈ ls ∨ x ∈ occ n true zs.tail ++ occ n b2 ((eat n true zs.tail).getD [])) := fun b2 hr => by
      rcases h3 : eat n true zs.tail with _ | r1
      · rw [h3] at hr; cases hr
      · rw [h3] at hr
        simp only [Option.getD_some]
        rw [ih hr, ih h3, List.mem_append, or_assoc]
    rcases b with _ | _
    · rw [eat] at h
      rw [lets, occ]
      split at h
      · rename_i e; rw [if_pos e, if_pos e]; simp
      rename_i e0
      rw [if_neg e0, if_neg e0]
      split at h
      · rename_i e; rw [if_pos e, if_pos e, addL_mem]; simp
      rename_i e1
      rw [if_neg e1, if_neg e1]
      split at h
      · exact two _ h
      · cases h
    · rw [eat] at h
      rw [lets, occ]
      split at h
      · rename_i e; rw [if_pos e, if_pos e, addL_mem]; simp
      rename_i e0
      rw [if_neg e0, if_neg e0]
      split at h
      · exact two _ h
      · cases h
theorem addL_nodup {ls : List (Int × Int)} {kn : Int × Int} (h : ls.Nodup) : (addL ls kn).Nodup := by
  unfold addL
  split
  · exact h
  · rename_i hn
    rw [List.nodup_append]
    exact ⟨h, by simp, fun a ha b hb e => by simp at hb; subst hb; exact hn (by rw [← e]; exact ha)⟩
theorem lets_nodup (n : Nat) (b : Bool) (zs : List Int) (ls : List (Int × Int)) (h : ls.Nodup) : (lets n b zs ls).Nodup := by
  induction n generalizing b zs ls with
  | zero => exact h
  | succ n ih =>
    rcases b with _ | _
    · rw [lets]
      split
      · exact h
      split
      · exact addL_nodup h
      · exact ih _ _ _ (ih _ _ _ h)
    · rw [lets]
      split
      · exact addL_nodup h
      · exact ih _ _ _ (ih _ _ _ h)
/-- Named in order is: each by its place. -/
theorem nameB_rank (l : List (Int × Int)) (a b : Int) (hn : l.Nodup) (hk : ∀ x ∈ l, x.1 = 1 ∨ x.1 = 3) : nameB a b l = true ↔ ∀ x ∈ l, rank l x + (if x.1 = 1 then a else b) = x.2 := by
  induction l generalizing a b with
  | nil => simp [nameB]
  | cons x r ih =>
    obtain ⟨k, m⟩ := x
    rw [List.nodup_cons] at hn
    have hr := fun a b => ih a b hn.2 (fun y hy => hk y (by simp [hy]))
    have hne : ∀ y ∈ r, (k, m) ≠ y := fun y hy e => hn.1 (by rw [e]; exact hy)
    have hkx := hk (k, m) (by simp)
    have htail : ∀ (a' b' : Int), (∀ y ∈ r, (if k = y.1 then 1 else 0) + (if y.1 = 1 then a else b) = (if y.1 = 1 then a' else b')) → ((∀ y ∈ r, rank ((k, m) :: r) y + (if y.1 = 1 then a else b) = y.2) ↔ (∀ y ∈ r, rank r y + (if y.1 = 1 then a' else b') = y.2)) := fun a' b' h => by
      constructor
      · intro h2 y hy
        have := h2 y hy
        rw [rank, if_neg (hne y hy)] at this
        have := h y hy
        omega
      · intro h2 y hy
        have := h2 y hy
        rw [rank, if_neg (hne y hy)]
        have := h y hy
        omega
    have h0 : rank ((k, m) :: r) (k, m) = 0 := by rw [rank, if_pos rfl]
    simp only [List.mem_cons, forall_eq_or_imp, h0]
    rw [nameB]
    rcases hkx with rfl | rfl
    · rw [if_pos rfl, if_pos rfl, Bool.and_eq_true, beq_iff_eq, hr, htail (a + 1) b (fun y hy => by
        rcases hk y (by simp [hy]) with e | e <;> rw [e] <;> simp <;> omega)]
      simp only [Int.zero_add]
      exact ⟨fun h => ⟨h.1.symm, h.2⟩, fun h => ⟨h.1.symm, h.2⟩⟩
    · rw [if_neg (by decide), if_neg (by decide), Bool.and_eq_true, beq_iff_eq, hr, htail a (b + 1) (fun y hy => by
        rcases hk y (by simp [hy]) with e | e <;> rw [e] <;> simp <;> omega)]
      simp only [Int.zero_add]
      exact ⟨fun h => ⟨h.1.symm, h.2⟩, fun h => ⟨h.1.symm, h.2⟩⟩
/-- The tidy rows are the rows exactly if the letters are named in order. -/
theorem tidy_iff {a b : List Int} {la lb : List (Int × Int)} (ha : wholeR a [] = some la) (hb : wholeR b la = some lb) : (decide (nam a.length true a lb = a) && decide (nam b.length true b lb = b)) = nameB 0 0 lb := by
  unfold wholeR at ha hb
  split at ha
  · rename_i h1
    split at hb
    · rename_i h2
      cases ha
      cases hb
      have hn := lets_nodup b.length true b _ (lets_nodup a.length true a [] (by simp))
      have hk := lets_kinds b.length true b _ (lets_kinds a.length true a [] (by simp))
      have e1 := (nam_iff h1.2 (lets b.length true b (lets a.length true a []))).1
      have e2 := (nam_iff h2.2 (lets b.length true b (lets a.length true a []))).1
      have hm := fun x => lets_mem (x := x) h2.2 (ls := lets a.length true a [])
      have hm2 := fun x => lets_mem (x := x) h1.2 (ls := [])
      rw [List.append_nil] at e1 e2
      rw [Bool.eq_iff_iff, Bool.and_eq_true, decide_eq_true_eq, decide_eq_true_eq, e1, e2, nameB_rank _ 0 0 hn hk]
      have h00 : ∀ x : Int × Int, (if x.1 = 1 then (0 : Int) else 0) = 0 := fun x => by split <;> rfl
      simp only [h00, Int.add_zero]
      constructor
      · rintro ⟨k1, k2⟩ x hx
        rcases (hm x).1 hx with h | h
        · rcases (hm2 x).1 h with h | h
          · cases h
          · exact k1 x h
        · exact k2 x h
      · exact fun k => ⟨fun x hx => k x ((hm x).2 (.inl ((hm2 x).2 (.inr hx)))), fun x hx => k x ((hm x).2 (.inr hx))⟩
    · cases hb
  · cases ha
end Go.Proofs.Ytceekfoacgoalaa

/- The model's l3Named at a letter, and at the type of numbers. -/
namespace Go.Proofs.Ytceekfoacgoalaa
set_option maxRecDepth 100000
open Go.RowKit Go.WideShapes

def NamRel (L : List (Int × Int)) (kn : Int × Int) (w : World) (nv kv : Value) (wr : World) : Prop := ∃ (j : Nat) (m : Int), kv = .int .i64 j ∧ nv = .int .i64 m ∧ 0 ≤ m ∧ m ≤ j ∧ j < L.length ∧ kn ∈ L.drop j ∧ rank L kn = m + rank (L.drop j) kn ∧ Below w.heap.size w wr
def NamPost (zs : List Int) (w : World) (e : Ending) (w' : World) : Prop := ∃ u, e = .returned u ∧ OwnI w' w.heap.size w'.heap.size u zs ∧ Below w.heap.size w w'
theorem drop_split {L : List (Int × Int)} {j : Nat} (h : j < L.length) : L.drop j = L[j] :: L.drop (j + 1) := List.drop_eq_getElem_cons h
set_option maxHeartbeats 2000000 in
theorem named_lett (b : Bool) (z : Int) (hz : (b = false ∧ z = 1) ∨ (b = true ∧ z = 3)) (v ov : Value) (zs : List Int) (L : List (Int × Int)) (k : Nat) (w : World) (hv : RdI w v zs) (ho : RdI w ov (L.map code)) (hL : ∀ x ∈ L, (x.1 = 1 ∨ x.1 = 3) ∧ 0 ≤ x.2 ∧ x.2 ≤ 999) (hl : zs.length ≤ 1000000) (hll : L.length ≤ 1000000) (hk : lettAt zs k) (hzz : zs.getD k 0 = z) (hm : (z, zs.getD (k + 1) 0) ∈ L) :
    Calls Try.prog 52 #[v, ov, .int .i64 k, .bool b] w (NamPost [z, rank L (z, zs.getD (k + 1) 0)] w) := by
  obtain ⟨hk1, hy0, hy1⟩ := hk
  have HV := Lib.hid (And.intro hv.at_ ho.at_)
  obtain ⟨A, c, rfl, hi, _⟩ := hv
  obtain ⟨b0, off, rfl, hb0, hcc⟩ := hi.at_ (by omega)
  have hc0 := hcc k (by omega)
  have hc1 := hcc (k + 1) hk1
  rw [hzz] at hc0
  clear hi hcc hzz
  generalize zs.getD (k + 1) 0 = y at *
  obtain ⟨cs, hcs⟩ : ∃ cs, L.map code = cs := ⟨_, rfl⟩
  have hcl : cs.length = L.length := by rw [← hcs, List.length_map]
  have hcg : ∀ (j : Nat) x, L[j]? = some x → cs.getD j 0 = code x := fun j x h => by rw [← hcs]; simp [List.getD, h]
  rw [hcs] at ho HV
  have HC := Lib.hid (And.intro hcl hcg); clear hcl hcg hcs
  obtain ⟨Ao, co, rfl, hio, _⟩ := ho
  have HIo := Lib.hid hio; clear hio
  have hcl2 : (cs.length : Int) ≤ 1000000 := by have := HC.out.1; omega
  have hkI : (k : Int) < zs.length := by omega
  have hk1I : (k : Int) + 1 < zs.length := by omega
  have hpos : 0 < L.length := List.length_pos_of_mem hm
  have hst : NamRel L (z, y) w (.int .i64 0) (.int .i64 ((0 : Nat) : Int)) w := ⟨0, 0, rfl, rfl, by omega, by omega, hpos, by simpa using hm, by simp, Below.refl _ _⟩
  have Hst := Lib.hid (And.intro hst hL); clear hst hL hm
  rcases hz with ⟨rfl, rfl⟩ | ⟨rfl, rfl⟩
  · go_enter Try.func52, Try.ntmps52
    go_wp2
    go_loopw [10, 11] (fun nv kv wr => NamRel L (1, y) w nv kv wr) (fun _ kv _ => L.length - (intOf kv).toNat)
    case atStart => exact Hst.out.1
    case round =>
      obtain ⟨j, m, rfl, rfl, hm0, hm1, hj, hmem, hrk, hbw⟩ := hrel
      have hsw := hbw.size
      obtain ⟨x, hx⟩ : ∃ x, L[j] = x := ⟨_, rfl⟩
      have hgx : L[j]? = some x := by rw [List.getElem?_eq_getElem hj, hx]
      have hxL := Hst.out.2 x (List.mem_of_getElem? hgx)
      have hcx := HC.out.2 j x hgx
      have hjc : j < cs.length := by rw [HC.out.1]; exact hj
      obtain ⟨p, o, rfl, hpb, hpc⟩ := HIo.out.at_ (by omega)
      have hcell := (hbw.cell (p := ⟨p, o + j, none⟩) hpb).trans (hpc j hjc)
      rw [hcx] at hcell
      have hc0' := (hbw.cell (p := ⟨b0, off + k, none⟩) hb0).trans hc0
      have hc1' := (hbw.cell (p := ⟨b0, off + (k + 1), none⟩) hb0).trans hc1
      have hjI : (j : Int) < cs.length := by omega
      rw [drop_split hj, hx] at hmem hrk
      have hdn := fun nq => below_drewN hbw nq
      have K := Lib.hid (And.intro hmem (And.intro hrk hdn)); clear hmem hrk hdn hgx hcx hpc
      by_cases he : x = (1, y)
      · subst he
        have hcd : code (1, y) = 2 * y := by simp [code]
        rw [hcd] at hcell
        have hbe : ((2 * y : Int) != 2 * y) = false := by simp
        have hfin : rank L (1, y) = m := by rw [K.out.2.1, rank, if_pos rfl]; omega
        have R := Lib.hid hfin; clear hfin hxL hcd
        go_wp2
        go_quiet (fail)
        go_wp2
        have ho := lits_own (wr.drewN nq) [1, m] (by simp) (by intro q hq; simp only [List.mem_cons, List.not_mem_nil, or_false] at hq; rcases hq with rfl | rfl <;> exact wf_near _ (by omega))
        have hb2 := (K.out.2.2 nq).alloc (by have := (K.out.2.2 nq).size; exact this) (.cells #[.int .i64 1, .int .i64 m] 3)
        go_ret
        exact ⟨_, rfl, ⟨by rw [R.out]; exact ho.own.mono (by have := (K.out.2.2 nq).size; exact this), fun q hq => by simpa using ho.lt q hq⟩, hb2⟩
      · have hxk := hxL.1
        have hne : code x ≠ 2 * y := fun e => he (code_inj hxk (by simp) (by rw [e]; simp [code]))
        have hbe : (code x != 2 * y) = true := by simpa using hne
        have hmem2 : (1, y) ∈ L.drop (j + 1) := by
          rcases List.mem_cons.1 K.out.1 with h | h
          · exact absurd h.symm he
          · exact h
        have hj2 : j + 1 < L.length := by
          rcases Nat.lt_or_ge (j + 1) L.length with h | h
          · exact h
          · rw [List.drop_eq_nil_of_le h] at hmem2; cases hmem2
        have hr2 : rank L (1, y) = m + ((if x.1 = 1 then 1 else 0) + rank (L.drop (j + 1)) (1, y)) := by rw [K.out.2.1, rank, if_neg he]
        obtain ⟨xk, xn⟩ := x
        dsimp only at hxk hr2 hxL
        have R := Lib.hid (And.intro hmem2 hr2); clear hmem2 hr2 he hne
        rcases hxk with rfl | rfl
        · have hcd : code (1, xn) = 2 * xn := by simp [code]
          rw [hcd] at hcell hbe
          obtain ⟨-, hx0, hx1⟩ := hxL
          have h20 : (2 * xn).tmod 2 = 0 := by rw [Int.tmod_eq_emod_of_nonneg (by omega)]; omega
          clear hcd
          go_wp2
          go_quiet (fail)
          go_wp2
          have V := Lib.hid (And.intro R.out.1 (And.intro R.out.2 (K.out.2.2 nq)))
          go_roundw
          case rel => exact ⟨j + 1, m + 1, by first | rfl | go_num, by first | rfl | go_num, by omega, by omega, by omega, V.out.1, by rw [V.out.2.1]; simp; omega, V.out.2.2⟩
          case measure => simp [intOf]; omega
        · have hcd : code (3, xn) = 2 * xn + 1 := by simp [code]
          rw [hcd] at hcell hbe
          obtain ⟨-, hx0, hx1⟩ := hxL
          have h21 : (2 * xn + 1).tmod 2 = 1 := by rw [Int.tmod_eq_emod_of_nonneg (by omega)]; omega
          clear hcd
          go_wp2
          go_quiet (fail)
          go_wp2
          have V := Lib.hid (And.intro R.out.1 (And.intro R.out.2 (K.out.2.2 nq)))
          go_roundw
          case rel => exact ⟨j + 1, m, by first | rfl | go_num, by first | rfl | go_num, by omega, by omega, by omega, V.out.1, by rw [V.out.2.1]; simp, V.out.2.2⟩
          case measure => simp [intOf]; omega
  · go_enter Try.func52, Try.ntmps52
    go_wp2
    go_loopw [10, 11] (fun nv kv wr => NamRel L (3, y) w nv kv wr) (fun _ kv _ => L.length - (intOf kv).toNat)
    case atStart => exact Hst.out.1
    case round =>
      obtain ⟨j, m, rfl, rfl, hm0, hm1, hj, hmem, hrk, hbw⟩ := hrel
      have hsw := hbw.size
      obtain ⟨x, hx⟩ : ∃ x, L[j] = x := ⟨_, rfl⟩
      have hgx : L[j]? = some x := by rw [List.getElem?_eq_getElem hj, hx]
      have hxL := Hst.out.2 x (List.mem_of_getElem? hgx)
      have hcx := HC.out.2 j x hgx
      have hjc : j < cs.length := by rw [HC.out.1]; exact hj
      obtain ⟨p, o, rfl, hpb, hpc⟩ := HIo.out.at_ (by omega)
      have hcell := (hbw.cell (p := ⟨p, o + j, none⟩) hpb).trans (hpc j hjc)
      rw [hcx] at hcell
      have hc0' := (hbw.cell (p := ⟨b0, off + k, none⟩) hb0).trans hc0
      have hc1' := (hbw.cell (p := ⟨b0, off + (k + 1), none⟩) hb0).trans hc1
      have hjI : (j : Int) < cs.length := by omega
      rw [drop_split hj, hx] at hmem hrk
      have hdn := fun nq => below_drewN hbw nq
      have K := Lib.hid (And.intro hmem (And.intro hrk hdn)); clear hmem hrk hdn hgx hcx hpc
      by_cases he : x = (3, y)
      · subst he
        have hcd : code (3, y) = 2 * y + 1 := by simp [code]
        rw [hcd] at hcell
        have hbe : ((2 * y + 1 : Int) != 2 * y + 1) = false := by simp
        have hfin : rank L (3, y) = m := by rw [K.out.2.1, rank, if_pos rfl]; omega
        have R := Lib.hid hfin; clear hfin hxL hcd
        go_wp2
        go_quiet (fail)
        go_wp2
        have ho := lits_own (wr.drewN nq) [3, m] (by simp) (by intro q hq; simp only [List.mem_cons, List.not_mem_nil, or_false] at hq; rcases hq with rfl | rfl <;> exact wf_near _ (by omega))
        have hb2 := (K.out.2.2 nq).alloc (by have := (K.out.2.2 nq).size; exact this) (.cells #[.int .i64 3, .int .i64 m] 3)
        go_ret
        exact ⟨_, rfl, ⟨by rw [R.out]; exact ho.own.mono (by have := (K.out.2.2 nq).size; exact this), fun q hq => by simpa using ho.lt q hq⟩, hb2⟩
      · have hxk := hxL.1
        have hne : code x ≠ 2 * y + 1 := fun e => he (code_inj hxk (by simp) (by rw [e]; simp [code]))
        have hbe : (code x != 2 * y + 1) = true := by simpa using hne
        have hmem2 : (3, y) ∈ L.drop (j + 1) := by
          rcases List.mem_cons.1 K.out.1 with h | h
          · exact absurd h.symm he
          · exact h
        have hj2 : j + 1 < L.length := by
          rcases Nat.lt_or_ge (j + 1) L.length with h | h
          · exact h
          · rw [List.drop_eq_nil_of_le h] at hmem2; cases hmem2
        have hr2 : rank L (3, y) = m + ((if x.1 = 3 then 1 else 0) + rank (L.drop (j + 1)) (3, y)) := by rw [K.out.2.1, rank, if_neg he]
        obtain ⟨xk, xn⟩ := x
        dsimp only at hxk hr2 hxL
        have R := Lib.hid (And.intro hmem2 hr2); clear hmem2 hr2 he hne
        rcases hxk with rfl | rfl
        · have hcd : code (1, xn) = 2 * xn := by simp [code]
          rw [hcd] at hcell hbe
          obtain ⟨-, hx0, hx1⟩ := hxL
          have h20 : (2 * xn).tmod 2 = 0 := by rw [Int.tmod_eq_emod_of_nonneg (by omega)]; omega
          clear hcd
          go_wp2
          go_quiet (fail)
          go_wp2
          have V := Lib.hid (And.intro R.out.1 (And.intro R.out.2 (K.out.2.2 nq)))
          go_roundw
          case rel => exact ⟨j + 1, m, by first | rfl | go_num, by first | rfl | go_num, by omega, by omega, by omega, V.out.1, by rw [V.out.2.1]; simp, V.out.2.2⟩
          case measure => simp [intOf]; omega
        · have hcd : code (3, xn) = 2 * xn + 1 := by simp [code]
          rw [hcd] at hcell hbe
          obtain ⟨-, hx0, hx1⟩ := hxL
          have h21 : (2 * xn + 1).tmod 2 = 1 := by rw [Int.tmod_eq_emod_of_nonneg (by omega)]; omega
          clear hcd
          go_wp2
          go_quiet (fail)
          go_wp2
          have V := Lib.hid (And.intro R.out.1 (And.intro R.out.2 (K.out.2.2 nq)))
          go_roundw
          case rel => exact ⟨j + 1, m + 1, by first | rfl | go_num, by first | rfl | go_num, by omega, by omega, by omega, V.out.1, by rw [V.out.2.1]; simp; omega, V.out.2.2⟩
          case measure => simp [intOf]; omega
end Go.Proofs.Ytceekfoacgoalaa
