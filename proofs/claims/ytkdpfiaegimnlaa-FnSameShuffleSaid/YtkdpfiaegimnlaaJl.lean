/- Chapter 7, the model: the program for a row of places. -/
import Derived.Test.YtkdpfiaegimnlaaJi
namespace Go.Proofs.Ytkdpfiaegimnlaa
set_option maxRecDepth 100000
open Go.RowKit Go.WideShapes Go.Deep

theorem count_take_ne {l : List Int} {k : Nat} {x : Int} (hk : k < l.length) (h : l.getD k 0 ≠ x) : (l.take (k + 1)).count x = (l.take k).count x := by
  rw [count_take_succ hk, List.count_append, List.count_singleton]
  have : (l.getD k 0 == x) = false := by rw [beq_eq_false_iff_ne]; exact h
  rw [this]; simp
theorem count_take_eq {l : List Int} {k : Nat} {x : Int} (hk : k < l.length) (h : l.getD k 0 = x) : (l.take (k + 1)).count x = (l.take k).count x + 1 := by
  rw [count_take_succ hk, List.count_append, List.count_singleton, h]; simp

/-- Three rows of the call's own, in blocks of their own. -/
structure Tri (w : World) (lo : Nat) (v u q : Value) (xs ys zs : List Int) : Prop where
  a : Two w lo v u xs ys
  b : Two w lo v q xs zs
  c : Two w lo u q ys zs
theorem Tri.below {w w' : World} {lo : Nat} {v u q : Value} {xs ys zs : List Int} (h : Tri w lo v u q xs ys zs) (hb : Below w.heap.size w w') : Tri w' lo v u q xs ys zs := ⟨h.a.below hb, h.b.below hb, h.c.below hb⟩
theorem Tri.same {w w' : World} {lo : Nat} {v u q : Value} {xs ys zs : List Int} (h : Tri w lo v u q xs ys zs) (hh : w'.heap = w.heap) : Tri w' lo v u q xs ys zs := ⟨h.a.same hh, h.b.same hh, h.c.same hh⟩
theorem wpList_append_3 {P : Program} {w : World} {ops : Array Oper} {rest : List Oper} {o : Oper} {a : Act} {Q : Exit → Act → World → Prop} (hgd : o.guard = none) (s x : Operand) (t : TypeId)
    (ho : o.op = .call { callee := .builtin .append, args := #[s, x], argTypes := #[t, t] })
    (ht : P.underlying t = some (.slice 3)) (hinfo : (P.info? 3).map (fun i => (i.zero, i.size, i.bytes)) = some (some (.int .i64 0), 1, 8))
    (lo : Nat) (v v2 v3 : Value) (zs qs rs : List Int) (hs : a.eval s = v) (hown : Tri w lo v v2 v3 zs qs rs) (hlo : lo ≤ w.heap.size)
    (u : Value) (ys : List Int) (hx : a.eval x = u) (hr : RdI w u ys) (hlen : zs.length + ys.length ≤ 1000000000)
    (h : ∀ v' w', Tri w' lo v' v2 v3 (zs ++ ys) qs rs → Below lo w w' → wpList P ops Q rest (a.put o.dst v') w') : wpList P ops Q (o :: rest) a w := by
  obtain ⟨A, c, rfl, hi', _⟩ := hr
  refine wpList_plain hgd fun _ hK => wp_append_ints s x t ho lo 3 .i64 8 ht hinfo (Nat.le_refl _) v zs hs hown.a.one.own w.heap.size A ys c hx hi' hlen hlo ?_
  intro v' w' h1 h2 h3
  have hv : Own w' lo v' (zs ++ ys) := ⟨h1, fun z hz => by
    rcases List.mem_append.1 hz with h | h
    · exact hown.a.one.wf z h
    · exact hi'.wf z h⟩
  have keep : ∀ (p : Value) (ps : List Int), Two w lo v p zs ps → Own w' lo p ps ∧ (∀ k, v'.ownBlock = some k → p.ownBlock ≠ some k) := fun p ps hp =>
    ⟨⟨ownsRow_keep hp.two.own fun k hk => h2.block k (hp.two.own.lt k hk).2 (fun e => hp.ne k e.symm hk), hp.two.wf⟩, fun k hk hu => by
      rcases h3 with h3 | h3
      · rw [h3] at hk; exact hp.ne k hk hu
      · rw [h3] at hk
        have := (hp.two.own.lt k hu).2
        simp at hk; omega⟩
  obtain ⟨k1, k2⟩ := keep v2 qs hown.a
  obtain ⟨k3, k4⟩ := keep v3 rs hown.b
  exact hK _ _ (h v' w' ⟨⟨hv, k1, k2⟩, ⟨hv, k3, k4⟩, ⟨k1, k3, hown.c.ne⟩⟩ (below_of_only h2 hlo (fun k hk => (hown.a.one.ge k hk).1)))
theorem Tri.swap {w : World} {lo g n cap m : Nat} {p q : Value} {ps L qs : List Int} {x z : Int} (h : Tri w lo p (.slice (some ⟨g, 0, none⟩) n cap) q ps L qs) (hL : L.length = n) (hm : m + 1 < n) (g0 : L[m]? = some x) (g1 : L[m + 1]? = some z) :
    w.cell? ⟨g, m, none⟩ = some (.int .i64 x) ∧ w.cell? ⟨g, m + 1, none⟩ = some (.int .i64 z) ∧ w.frozen? ⟨g, m + 1, none⟩ = false ∧
    (w.setCell ⟨g, m + 1, none⟩ (.int .i64 x)).cell? ⟨g, m, none⟩ = some (.int .i64 x) ∧ (w.setCell ⟨g, m + 1, none⟩ (.int .i64 x)).frozen? ⟨g, m, none⟩ = false ∧
    Tri ((w.setCell ⟨g, m + 1, none⟩ (.int .i64 x)).setCell ⟨g, m, none⟩ (.int .i64 z)) lo p (.slice (some ⟨g, 0, none⟩) n cap) q ps ((L.set m z).set (m + 1) x) qs ∧
    Below lo w ((w.setCell ⟨g, m + 1, none⟩ (.int .i64 x)).setCell ⟨g, m, none⟩ (.int .i64 z)) ∧ w.frozen? ⟨g, m, none⟩ = false := by
  subst hL
  have ho := h.a.two.own
  have hge := (h.a.two.ge g rfl).1
  have h1 := (ho.stored (m + 1) (.int .i64 x)).1
  have h2 := (h1.stored m (.int .i64 z)).1
  rw [set2_map, List.set_comm _ _ (by omega)] at h2
  have e3 := h1.cellAt m (by omega)
  rw [List.getElem?_set_ne (by omega), List.getElem?_map, g0] at e3
  have hkeep : ∀ k, k ≠ g → ((w.setCell ⟨g, m + 1, none⟩ (.int .i64 x)).setCell ⟨g, m, none⟩ (.int .i64 z)).heap[k]? = w.heap[k]? := fun k hne => (Below.heap_setCell _ _ _ _ (by simpa using hne)).trans (Below.heap_setCell _ _ _ _ (by simpa using hne))
  have hp : Own ((w.setCell ⟨g, m + 1, none⟩ (.int .i64 x)).setCell ⟨g, m, none⟩ (.int .i64 z)) lo p ps := ⟨ownsRow_keep h.a.one.own fun k hk => hkeep k (by rintro rfl; exact h.a.ne _ hk rfl), h.a.one.wf⟩
  have hq : Own ((w.setCell ⟨g, m + 1, none⟩ (.int .i64 x)).setCell ⟨g, m, none⟩ (.int .i64 z)) lo q qs := ⟨ownsRow_keep h.b.two.own fun k hk => hkeep k (by rintro rfl; exact h.c.ne _ rfl hk), h.b.two.wf⟩
  have hr : Own ((w.setCell ⟨g, m + 1, none⟩ (.int .i64 x)).setCell ⟨g, m, none⟩ (.int .i64 z)) lo (.slice (some ⟨g, 0, none⟩) L.length cap) ((L.set m z).set (m + 1) x) := ⟨by rw [List.length_set, List.length_set]; exact h2, fun y hy => by
    have hzm : z ∈ L := List.mem_of_getElem? g1
    have hxm : x ∈ L := List.mem_of_getElem? g0
    rcases List.mem_or_eq_of_mem_set hy with hy | rfl
    · rcases List.mem_or_eq_of_mem_set hy with hy | rfl
      · exact h.a.two.wf y hy
      · exact h.a.two.wf y hzm
    · exact h.a.two.wf y hxm⟩
  exact ⟨(ho.cellAt m (by omega)).trans (by rw [List.getElem?_map, g0]; rfl), (ho.cellAt (m + 1) (by omega)).trans (by rw [List.getElem?_map, g1]; rfl), ho.frozenAt (m + 1), e3, h1.frozenAt m, ⟨⟨hp, hr, h.a.ne⟩, ⟨hp, hq, h.b.ne⟩, ⟨hr, hq, h.c.ne⟩⟩, ((Below.refl lo w).setCell (by simpa using hge) _).setCell (by simpa using hge) _, ho.frozenAt m⟩

set_option maxHeartbeats 16000000 in
/-- The first half: the program that leaves each value as often as its place is in the row, and these places in order. -/
theorem l7Program_any (n : Nat) (v : Value) (zs : List Int) (w : World) (h : RdI w v zs) (hn : n ≤ 5) (hl : zs.length ≤ 5) (ha : allB n zs = true) :
    Calls Try.prog 119 #[.int .i64 n, v] w (Gives w (oftenR n zs n ++ orderR (sortR zs n) zs)) := by
  obtain ⟨A, c0, rfl, hi, hc⟩ := h
  have HI := Lib.hid hi; clear hi
  have Ha := Lib.hid ha; clear ha
  have ha1 := (nilLit w).1
  have hbA : Below (w.alloc (.cells #[] 3)).heap.size (w.alloc (.cells #[] 3)) ((w.alloc (.cells #[] 3)).alloc (.cells #[] 3)) := (Below.refl _ _).alloc (Nat.le_refl _) _
  have ha2 := (nilLit (w.alloc (.cells #[] 3))).1
  have S0 := Lib.hid (And.intro (show Two ((w.alloc (.cells #[] 3)).alloc (.cells #[] 3)) w.heap.size (.slice (some ⟨w.heap.size, 0, none⟩) 0 0) (.slice (some ⟨w.heap.size + 1, 0, none⟩) 0 0) [] [] from ⟨(ha1.below hbA).own, by have := ha2.own.mono (B := w.heap.size) (by simp); simpa using this, fun k hk => by simp [Value.ownBlock] at hk ⊢; omega⟩) (((Below.refl w.heap.size w).alloc (Nat.le_refl _) (.cells #[] 3)).trans (hbA.mono (by simp)))); clear ha1 ha2 hbA
  have hnI : (n : Int) ≤ 5 := by omega
  go_enter Try.func119, Try.ntmps119
  go_wp2
  go_loopw [5, 6, 7] (fun q r i wr => ∃ k : Nat, k ≤ n ∧ i = .int .i64 k ∧ w.heap.size ≤ wr.heap.size ∧ Two wr w.heap.size q r (oftenR n zs k) (sortR zs k) ∧ Below w.heap.size w wr) (fun _ _ i _ => n - (intOf i).toNat)
  case atStart => exact ⟨0, Nat.zero_le _, rfl, by simp; omega, S0.out⟩
  case round =>
    clear S0
    obtain ⟨k, hk, rfl, hsz, htwo, hbk⟩ := hrel
    have X := Lib.hid (And.intro htwo hbk); clear htwo hbk
    by_cases hlt : k < n
    · have hltI : (k : Int) < n := by omega
      go_wp2
      go_loopw [8, 9] (fun tv jv wq => ∃ (j : Nat), j ≤ zs.length ∧ jv = .int .i64 j ∧ tv = .int .i64 (((zs.take j).count (k : Int) : Nat) : Int) ∧ wq = wr) (fun _ jv _ => zs.length - (intOf jv).toNat)
      case atStart => exact ⟨0, Nat.zero_le _, rfl, by simp, rfl⟩
      case round =>
        obtain ⟨j, hj, rfl, rfl, hw⟩ := hrel
        subst hw
        by_cases hjl : j < zs.length
        · obtain ⟨b, off, rfl, hb, hcc⟩ := HI.out.at_ (by omega)
          have hcell := (X.out.2.cell (p := ⟨b, off + j, none⟩) hb).trans (hcc j hjl)
          have hjI : (j : Int) < zs.length := by omega
          have HN := Lib.hid (count_take_ne (x := (k : Int)) hjl)
          have HE := Lib.hid (count_take_eq (x := (k : Int)) hjl)
          have hcv : (zs.take j).count (k : Int) ≤ 5 := Nat.le_trans List.count_le_length (by simp; omega)
          clear hcc
          generalize zs.getD j 0 = y at *
          generalize (zs.take j).count (k : Int) = cv at *
          by_cases hy : y = (k : Int)
          · have he := HE.out hy
            have hyb : (y == (k : Int)) = true := by rw [hy]; simp
            have HE2 := Lib.hid he; clear he hy HN HE
            go_wp2
            go_roundw
            case rel => exact ⟨j + 1, by omega, by go_num, by rw [HE2.out]; go_num, by first | trivial | rfl⟩
            case measure => simp [intOf]; omega
          · have he := HN.out hy
            have hyb : (y == (k : Int)) = false := by rw [beq_eq_false_iff_ne]; exact hy
            have HE2 := Lib.hid he; clear he hy HN HE
            go_wp2
            go_roundw
            case rel => exact ⟨j + 1, by omega, by go_num, by rw [HE2.out], by first | trivial | rfl⟩
            case measure => simp [intOf]; omega
        · obtain rfl : j = zs.length := by omega
          rw [List.take_length]
          have hc5 : zs.count (k : Int) ≤ 5 := Nat.le_trans List.count_le_length hl
          have hss := sortR_succ zs k
          obtain ⟨ab, hab⟩ : ∃ ab, ab = n - 1 - k := ⟨_, rfl⟩
          have habI : (n : Int) - 1 - (k : Int) = (ab : Int) := by omega
          have hab4 : ab ≤ 4 := by omega
          have hol := oftenR_len n zs hn hl k
          have HOL := Lib.hid (show (oftenR n zs k).length ≤ 500 by omega); clear hol
          have hsl : (sortR zs k).length ≤ 5 := by
            have h1 : (sortR zs n).length = zs.length := (sortR_perm Ha.out).length_eq
            have h2 : ∀ d, (sortR zs k).length ≤ (sortR zs (k + d)).length := by
              intro d
              induction d with
              | zero => exact Nat.le_refl _
              | succ d ih => rw [← Nat.add_assoc, sortR_succ, List.length_append]; omega
            have := h2 (n - k)
            rw [show k + (n - k) = n from by omega] at this
            omega
          have HSL := Lib.hid hsl; clear hsl
          have hsucc := oftenR_succ n zs k
          unfold oftenAt at hsucc
          rw [← hab] at hsucc
          have HAB := Lib.hid hab.symm; clear hab
          generalize zs.count (k : Int) = c at *
          have HSS := Lib.hid hss; clear hss
          by_cases hc0 : c = 0
          · rw [if_pos hc0] at hsucc
            have hcb : ((c : Int) == 0) = true := by rw [hc0]; rfl
            have hcle : c ≤ 0 := by omega
            obtain ⟨base, hbase⟩ : ∃ base, base = oftenR n zs k ++ underR ab 1002 := ⟨_, rfl⟩
            have HFIN := Lib.hid (show base ++ upsR n k (c - 1) = oftenR n zs (k + 1) by rw [hsucc, hbase, hc0]; simp [upsR])
            have HBL := Lib.hid (show base.length ≤ 600 by rw [hbase, List.length_append, underR_len]; have := HOL.out; omega)
            have hzw := X.out.2.size
            have hba := (Below.refl wr.heap.size wr).alloc (Nat.le_refl _) (.cells #[.int .i64 1002] 3)
            have hl1 : RdI (wr.alloc (.cells #[.int .i64 1002] 3)) (.slice (some ⟨wr.heap.size, 0, none⟩) 1 1) [1002] := by simpa using (lits_own wr [1002] (by simp) (by intro z hz; simp at hz; subst hz; exact wf_small _ (by omega))).rd
            have V1 := Lib.hid (And.intro (X.out.1.below hba) (And.intro hl1 (X.out.2.trans (hba.mono hzw)))); clear hba hl1 hc0 hsucc
            go_wp2_with fail
            refine (l7Dips_any ab 1002 _ _ V1.out.2.1 (by omega)).mono ?_
            rintro e w4 ⟨u4, rfl, ho4, hb4⟩
            have hz4 : wr.heap.size + 1 ≤ w4.heap.size := by have := hb4.size; simpa using this
            have V2 := Lib.hid (And.intro (V1.out.1.below hb4) (And.intro ho4.rd (V1.out.2.2.trans (hb4.mono (by simp; omega))))); clear ho4 hb4 V1
            have HUL := Lib.hid (show (underR ab 1002).length ≤ 100 by rw [underR_len]; omega)
            have HBS := Lib.hid hbase; clear hbase
            generalize oftenR n zs k = od at *
            generalize underR ab 1002 = up at *
            go_wp2_with (at_builtin; refine wpList_append_T rfl _ _ _ rfl Try.underlying25 intInfo w.heap.size _ _ od (sortR zs k) rfl V2.out.1 (by omega) _ up rfl V2.out.2.1 (by have := HOL.out; have := HUL.out; omega) ?_)
            first | (intro v3 w3 ho3 hb3) | (go_simp; go_wp2_with (at_builtin; refine wpList_append_T rfl _ _ _ rfl Try.underlying25 intInfo w.heap.size _ _ od (sortR zs k) rfl V2.out.1 (by omega) _ up rfl V2.out.2.1 (by have := HOL.out; have := HUL.out; omega) ?_); intro v3 w3 ho3 hb3)
            rw [← HBS.out] at ho3
            have hzq : w.heap.size ≤ w3.heap.size := (V2.out.2.2.trans hb3).size
            have Z := Lib.hid (And.intro ho3 (V2.out.2.2.trans hb3)); clear ho3 hb3 V2 X
            go_wp2
            go_loopw [5, 11] (fun q jv wq => ∃ m : Nat, m ≤ c - 1 ∧ jv = .int .i64 ((m + 1 : Nat) : Int) ∧ w.heap.size ≤ wq.heap.size ∧ Two wq w.heap.size q u6 (base ++ upsR n k m) (sortR zs k) ∧ Below w.heap.size w wq) (fun _ jv _ => c - (intOf jv).toNat)
            case atStart => exact ⟨0, Nat.zero_le _, rfl, hzq, by simpa [upsR] using Z.out.1, Z.out.2⟩
            case round =>
              clear Z hzq
              obtain ⟨m, hm, rfl, hszq, htq, hbq⟩ := hrel
              have V := Lib.hid (And.intro htq hbq); clear htq hbq
              by_cases hmc : m < c - 1
              · omega
              · have hmcI : ¬ (m : Int) + 1 < (c : Int) := by omega
                obtain rfl : m = c - 1 := by omega
                have hfin := V.out.1
                rw [HFIN.out] at hfin
                have V2 := Lib.hid (And.intro hfin V.out.2); clear hfin V
                go_wp2
                go_loopw [6, 12] (fun r jv wq => ∃ m : Nat, m ≤ c ∧ jv = .int .i64 m ∧ w.heap.size ≤ wq.heap.size ∧ Two wq w.heap.size u5 r (oftenR n zs (k + 1)) (sortR zs k ++ List.replicate m (k : Int)) ∧ Below w.heap.size w wq) (fun _ jv _ => c - (intOf jv).toNat)
                case atStart => exact ⟨0, Nat.zero_le _, rfl, hszq, by simpa using V2.out.1, V2.out.2⟩
                case round =>
                  clear V2 hszq
                  obtain ⟨m, hm, rfl, hszq, htq, hbq⟩ := hrel
                  have V := Lib.hid (And.intro htq hbq); clear htq hbq
                  by_cases hmc : m < c
                  · omega
                  · have hmcI : ¬ (m : Int) < (c : Int) := by omega
                    obtain rfl : m = c := by omega
                    have hfin := V.out.1
                    rw [← HSS.out] at hfin
                    have V2 := Lib.hid (And.intro hfin V.out.2); clear hfin V
                    go_wp2
                    go_roundw
                    case rel => exact ⟨k + 1, by omega, by go_num, hszq, V2.out⟩
                    case measure => simp [intOf]; omega
          · rw [if_neg hc0] at hsucc
            have hcb : ((c : Int) == 0) = false := by rw [beq_eq_false_iff_ne]; omega
            obtain ⟨base, hbase⟩ : ∃ base, base = oftenR n zs k := ⟨_, rfl⟩
            have HFIN := Lib.hid (show base ++ upsR n k (c - 1) = oftenR n zs (k + 1) by rw [hsucc, hbase, upsR, HAB.out])
            have HBL := Lib.hid (show base.length ≤ 600 by rw [hbase]; have := HOL.out; omega)
            rw [← hbase] at X
            have hzq := X.out.2.size
            have Z := Lib.hid X.out
            clear hsucc hbase X
            go_wp2
            go_loopw [5, 11] (fun q jv wq => ∃ m : Nat, m ≤ c - 1 ∧ jv = .int .i64 ((m + 1 : Nat) : Int) ∧ w.heap.size ≤ wq.heap.size ∧ Two wq w.heap.size q u6 (base ++ upsR n k m) (sortR zs k) ∧ Below w.heap.size w wq) (fun _ jv _ => c - (intOf jv).toNat)
            case atStart => exact ⟨0, Nat.zero_le _, rfl, hzq, by simpa [upsR] using Z.out.1, Z.out.2⟩
            case round =>
              clear Z hzq
              obtain ⟨m, hm, rfl, hszq, htq, hbq⟩ := hrel
              have V := Lib.hid (And.intro htq hbq); clear htq hbq
              by_cases hmc : m < c - 1
              · have hmcI : (m : Int) + 1 < (c : Int) := by omega
                have hba : Below wr.heap.size wr (wr.alloc (.cells #[.int .i64 1001] 3)) := (Below.refl _ _).alloc (Nat.le_refl _) _
                have hl1 : RdI (wr.alloc (.cells #[.int .i64 1001] 3)) (.slice (some ⟨wr.heap.size, 0, none⟩) 1 1) [1001] := by simpa using (lits_own wr [1001] (by simp) (by intro z hz; simp at hz; subst hz; exact wf_small _ (by omega))).rd
                have V1 := Lib.hid (And.intro (V.out.1.below hba) (And.intro hl1 (V.out.2.trans (hba.mono hszq)))); clear hba hl1
                go_wp2_with fail
                try (go_simp; go_wp2_with fail)
                refine (l7Dips_any ab 1001 _ _ V1.out.2.1 (by omega)).mono ?_
                rintro e w4 ⟨u4, rfl, ho4, hb4⟩
                have hz4 : wr.heap.size + 1 ≤ w4.heap.size := by have := hb4.size; simpa using this
                have V2 := Lib.hid (And.intro (V1.out.1.below hb4) (And.intro ho4.rd (V1.out.2.2.trans (hb4.mono (by simp; omega))))); clear ho4 hb4 V1
                have hlu := upsR_len n k m
                have hmul : m * (3 * (n - 1 - k) + 1) ≤ 5 * 13 := Nat.mul_le_mul (by omega) (by omega)
                have HLU := Lib.hid (show (base ++ upsR n k m).length ≤ 2000 by rw [List.length_append]; have := HBL.out; omega); clear hlu hmul
                have HUL := Lib.hid (show (underR ab 1001).length ≤ 100 by rw [underR_len]; omega)
                have HUP := Lib.hid (show base ++ upsR n k m ++ underR ab 1001 = base ++ upsR n k (m + 1) by rw [upsR_succ, HAB.out, List.append_assoc])
                generalize base ++ upsR n k m = us at *
                generalize underR ab 1001 = up at *
                go_wp2_with (at_builtin; refine wpList_append_T rfl _ _ _ rfl Try.underlying25 intInfo w.heap.size _ _ us (sortR zs k) rfl V2.out.1 (by omega) _ up rfl V2.out.2.1 (by have := HLU.out; have := HUL.out; omega) ?_)
                first | (intro v5 w5 ho5 hb5) | (go_simp; go_wp2_with (at_builtin; refine wpList_append_T rfl _ _ _ rfl Try.underlying25 intInfo w.heap.size _ _ us (sortR zs k) rfl V2.out.1 (by omega) _ up rfl V2.out.2.1 (by have := HLU.out; have := HUL.out; omega) ?_); intro v5 w5 ho5 hb5)
                rw [HUP.out] at ho5
                have hz5 : w.heap.size ≤ w5.heap.size := (V2.out.2.2.trans hb5).size
                have V3 := Lib.hid (And.intro ho5 (V2.out.2.2.trans hb5)); clear ho5 hb5
                go_wp2
                go_roundw
                case rel => exact ⟨m + 1, by omega, by go_num, hz5, V3.out⟩
                case measure => simp [intOf]; omega
              · have hmcI : ¬ (m : Int) + 1 < (c : Int) := by omega
                obtain rfl : m = c - 1 := by omega
                have hfin := V.out.1
                rw [HFIN.out] at hfin
                have V2 := Lib.hid (And.intro hfin V.out.2); clear hfin V
                go_wp2
                go_loopw [6, 12] (fun r jv wq => ∃ m : Nat, m ≤ c ∧ jv = .int .i64 m ∧ w.heap.size ≤ wq.heap.size ∧ Two wq w.heap.size u5 r (oftenR n zs (k + 1)) (sortR zs k ++ List.replicate m (k : Int)) ∧ Below w.heap.size w wq) (fun _ jv _ => c - (intOf jv).toNat)
                case atStart => exact ⟨0, Nat.zero_le _, rfl, hszq, by simpa using V2.out.1, V2.out.2⟩
                case round =>
                  clear V2 hszq
                  obtain ⟨m, hm, rfl, hszq, htq, hbq⟩ := hrel
                  have V := Lib.hid (And.intro htq hbq); clear htq hbq
                  by_cases hmc : m < c
                  · have hmcI : (m : Int) < (c : Int) := by omega
                    have hba : Below wr.heap.size wr (wr.alloc (.cells #[.int .i64 (k : Int)] 3)) := (Below.refl _ _).alloc (Nat.le_refl _) _
                    have hl1 : RdI (wr.alloc (.cells #[.int .i64 (k : Int)] 3)) (.slice (some ⟨wr.heap.size, 0, none⟩) 1 1) [(k : Int)] := by simpa using (lits_own wr [(k : Int)] (by simp) (by intro z hz; simp at hz; subst hz; exact wf_small _ (by omega))).rd
                    have V1 := Lib.hid (And.intro (V.out.1.below hba).turn (And.intro hl1 (V.out.2.trans (hba.mono hszq)))); clear hba hl1
                    have HRL := Lib.hid (show (sortR zs k ++ List.replicate m (k : Int)).length ≤ 2000 by rw [List.length_append, List.length_replicate]; have := HSL.out; omega)
                    have HRP := Lib.hid (show sortR zs k ++ List.replicate m (k : Int) ++ [(k : Int)] = sortR zs k ++ List.replicate (m + 1) (k : Int) by rw [List.append_assoc, ← List.replicate_succ'])
                    generalize sortR zs k ++ List.replicate m (k : Int) = rr at *
                    go_wp2_with (at_builtin; refine wpList_append_T rfl _ _ _ rfl Try.underlying25 intInfo w.heap.size _ _ rr (oftenR n zs (k + 1)) rfl V1.out.1 (by simp; omega) _ [(k : Int)] rfl V1.out.2.1 (by have := HRL.out; simp; omega) ?_)
                    first | (intro v5 w5 ho5 hb5) | (go_simp; go_wp2_with (at_builtin; refine wpList_append_T rfl _ _ _ rfl Try.underlying25 intInfo w.heap.size _ _ rr (oftenR n zs (k + 1)) rfl V1.out.1 (by simp; omega) _ [(k : Int)] rfl V1.out.2.1 (by have := HRL.out; simp; omega) ?_); intro v5 w5 ho5 hb5)
                    rw [HRP.out] at ho5
                    have hz5 : w.heap.size ≤ w5.heap.size := (V1.out.2.2.trans hb5).size
                    have V3 := Lib.hid (And.intro ho5.turn (V1.out.2.2.trans hb5)); clear ho5 hb5
                    go_wp2
                    go_roundw
                    case rel => exact ⟨m + 1, by omega, by go_num, hz5, V3.out⟩
                    case measure => simp [intOf]; omega
                  · have hmcI : ¬ (m : Int) < (c : Int) := by omega
                    obtain rfl : m = c := by omega
                    have hfin := V.out.1
                    rw [← HSS.out] at hfin
                    have V2 := Lib.hid (And.intro hfin V.out.2); clear hfin V
                    go_wp2
                    go_roundw
                    case rel => exact ⟨k + 1, by omega, by go_num, hszq, V2.out⟩
                    case measure => simp [intOf]; omega
    · obtain rfl : k = n := by omega
      have hws := X.out.2.size
      have hsl : (sortR zs k).length = zs.length := (sortR_perm Ha.out).length_eq
      have L0 := nilLit wr
      have hzr : RdI (wr.alloc (.cells #[] 3)) (.slice A zs.length c0) zs := (RdI.mk HI.out hc).step (X.out.2.trans (L0.2.mono hws) |>.mono (Nat.le_refl _))
      have V0 := Lib.hid (And.intro L0.1 (And.intro (X.out.1.below L0.2) (And.intro hzr (X.out.2.trans (L0.2.mono hws))))); clear L0 hzr
      go_wp2_with (at_builtin; refine wpList_append_V rfl _ _ _ rfl Try.underlying25 intInfo wr.heap.size (wr.alloc (.cells #[] 3)).heap.size _ [] rfl V0.out.1 (by simp) _ zs rfl V0.out.2.2.1 (by simp; omega) ?_)
      intro v3 w3 ho3 hb3
      have hz3 : w.heap.size ≤ w3.heap.size := (V0.out.2.2.2.trans (hb3.mono hws)).size
      have hT : Two w3 w.heap.size _ _ (oftenR k zs k) (sortR zs k) := (X.out.1.below ((Below.refl wr.heap.size wr).alloc (Nat.le_refl _) (.cells #[] 3) |>.trans hb3))
      have hwant : Own w3 w.heap.size v3 zs := ho3.own.mono hws
      have hlt2 : ∀ (p : Value) (ps : List Int), Own wr w.heap.size p ps → ∀ q, p.ownBlock = some q → v3.ownBlock ≠ some q := fun p ps hp q hq hv => by
        have h1 := (hp.own.lt q hq).2
        have h2 := (ho3.own.ge q hv).1
        omega
      have hTri : Tri w3 w.heap.size _ _ v3 (oftenR k zs k) (sortR zs k) zs := ⟨hT, ⟨hT.one, hwant, hlt2 _ _ X.out.1.one⟩, ⟨hT.two, hwant, hlt2 _ _ X.out.1.two⟩⟩
      have hform : ∃ Ar cr, u6 = .slice Ar zs.length cr ∧ zs.length ≤ cr ∧ (0 < zs.length → ∃ g, Ar = some ⟨g, 0, none⟩) := by
        have ho := hT.two.own
        rw [hsl] at ho
        rcases ho.2 with ⟨rfl, h0⟩ | ⟨g', cap, cur, rfl, _, _, h1, _⟩
        · exact ⟨none, 0, by rw [h0], by omega, fun h => by omega⟩
        · exact ⟨_, _, rfl, h1, fun _ => ⟨g', rfl⟩⟩
      obtain ⟨Ar, cr, rfl, hcr, hAr⟩ := hform
      obtain ⟨Aw, cw, rfl, hwi, _⟩ := hwant.ints
      have hwl : zs.length ≤ 9223372036854775807 := hwi.len
      obtain ⟨tot, htot⟩ : ∃ tot, tot = oftenR k zs k ++ orderR (sortR zs k) zs := ⟨_, rfl⟩
      have HT := Lib.hid htot
      have hpl0 := (forR_len k zs hn hl Ha.out)
      have HTL := Lib.hid (show tot.length ≤ 1000 by rw [htot, List.length_append]; omega); clear hpl0
      have HAR := Lib.hid hAr; clear hAr
      have V1 := Lib.hid (And.intro hTri (And.intro (V0.out.2.2.2.trans (hb3.mono hws)) (sortR_perm Ha.out))); clear hTri hT hwant hlt2 hb3 ho3 V0 X hwi htot
      go_wp2
      go_loopw [5, 14] (fun q iv wr => ∃ (j : Nat) (ps dn s : List Int), j ≤ zs.length ∧ iv = .int .i64 j ∧ w.heap.size ≤ wr.heap.size ∧ Tri wr w.heap.size q (.slice Ar zs.length cr) (.slice Aw zs.length cw) ps (dn ++ s) zs ∧ dn.length = j ∧ s.Perm (zs.drop j) ∧ ps ++ orderR s (zs.drop j) = tot ∧ Below w.heap.size w wr) (fun _ iv _ => zs.length - (intOf iv).toNat)
      case atStart => exact ⟨0, oftenR k zs k, [], sortR zs k, Nat.zero_le _, rfl, hz3, V1.out.1, rfl, by simpa using V1.out.2.2, by simpa using HT.out.symm, V1.out.2.1⟩
      case round =>
        clear V1 hz3
        obtain ⟨j, ps, dn, s, hj, rfl, hsz, htri, hdn, hpm, hord, hbk⟩ := hrel
        have hsl2 : s.length + j = zs.length := by
          have := hpm.length_eq
          rw [List.length_drop] at this; omega
        by_cases hlt : j < zs.length
        · have hltI : (j : Int) < zs.length := by omega
          obtain ⟨g, rfl⟩ := HAR.out (by omega)
          have hdrop : zs.drop j = zs.getD j 0 :: zs.drop (j + 1) := by
            rw [List.drop_eq_getElem_cons hlt]; simp [List.getD, List.getElem?_eq_getElem hlt]
          have hwc : ∃ b off, Aw = some ⟨b, off, none⟩ ∧ ∀ i, i < zs.length → wr.cell? ⟨b, off + i, none⟩ = some (.int .i64 (zs.getD i 0)) := by
            obtain ⟨A', c', e', h1, _⟩ := htri.b.two.ints
            rw [Value.slice.injEq] at e'
            obtain ⟨rfl, _, rfl⟩ := e'
            obtain ⟨b, off, e2, _, h2⟩ := h1.at_ (by omega)
            exact ⟨b, off, e2, h2⟩
          obtain ⟨bw, ow, rfl, hwc⟩ := hwc
          have hcw := hwc j hlt
          rw [hdrop] at hpm hord
          clear hwc hdrop
          generalize zs.getD j 0 = z at *
          have hzs : z ∈ s := hpm.mem_iff.2 (by simp)
          obtain ⟨a, bq, hza, hse, her⟩ := List.exists_erase_eq hzs
          have hidx : s.idxOf z = a.length := by rw [hse, List.idxOf_append, if_neg hza]; simp
          have hpe : (s.erase z).Perm (zs.drop (j + 1)) := by
            have h2 := hpm.erase z
            rw [List.erase_cons_head] at h2
            exact h2
          rw [orderR, hidx] at hord
          have hal : a.length ≤ 5 := by
            have : s.length = a.length + 1 + bq.length := by rw [hse]; simp; omega
            omega
          have hsl3 : s.length = a.length + 1 + bq.length := by rw [hse]; simp; omega
          have hcells : ∀ i, i ≤ a.length → ∃ y, wr.cell? ⟨g, j + i, none⟩ = some (.int .i64 y) ∧ (i < a.length → y ≠ z) ∧ (i = a.length → y = z) := by
            intro i hi
            have ho := htri.a.two.own
            have hLl : (dn ++ s).length = zs.length := by rw [List.length_append]; omega
            rw [hLl] at ho
            have hc1 := ho.cellAt (j + i) (by omega)
            rw [List.getElem?_map, List.getElem?_append_right (by omega), hdn, show j + i - j = i from by omega] at hc1
            by_cases hia : i < a.length
            · have hy : s[i]? = some (a[i]'hia) := by
                rw [hse, List.getElem?_append_left hia, List.getElem?_eq_getElem hia]
              rw [hy] at hc1
              exact ⟨a[i]'hia, hc1, fun _ e => hza (e ▸ List.getElem_mem hia), fun e => by omega⟩
            · have hy : s[i]? = some z := by
                rw [hse, List.getElem?_append_right (by omega), show i - a.length = 0 from by omega]; rfl
              rw [hy] at hc1
              exact ⟨z, hc1, fun h => absurd h hia, fun _ => rfl⟩
          have X := Lib.hid (And.intro htri (And.intro hbk (And.intro hord (And.intro hpe (And.intro her (And.intro hse hdn)))))); clear htri hbk hord hpe hpm
          have HCL := Lib.hid hcells; clear hcells
          go_wp2
          go_loopw [15] (fun av wq => ∃ (i nq : Nat), i ≤ a.length ∧ av = .int .i64 ((j + i : Nat) : Int) ∧ wq = wr.drewN nq) (fun av _ => j + a.length - (intOf av).toNat)
          case atStart => exact ⟨0, 0, Nat.zero_le _, by go_num, rfl⟩
          case round =>
            obtain ⟨i, n0, hi, rfl, hw⟩ := hrel
            subst hw
            obtain ⟨y, hcy, hne, heq⟩ := HCL.out i hi
            obtain ⟨f, hf0⟩ : ∃ f, f = j + i := ⟨_, rfl⟩
            rw [← hf0] at hcy ⊢
            have hf1 : f ≤ j + i := by omega
            have hf2 : j + i ≤ f := by omega
            clear hf0
            have hfI : (f : Int) < zs.length := by omega
            have hfN : f < zs.length := by omega
            by_cases hia : i < a.length
            · have hyz : (y != z) = true := by rw [bne_iff_ne]; exact hne hia
              have HC := Lib.hid hcy
              clear hne heq
              go_wp2
              go_quiet (fail)
              go_wp2
              go_roundw
              case rel => exact ⟨i + 1, _, by omega, by go_num, rfl⟩
              case measure => simp [intOf]; omega
            · obtain rfl : i = a.length := by omega
              have hyz : (y != z) = false := by rw [heq rfl]; simp
              clear hne heq
              go_wp2
              go_quiet (fail)
              have T1 := Lib.hid (And.intro (X.out.1.same (w' := (wr.drewN n0).drewN nq) rfl) (below_same (w' := (wr.drewN n0).drewN nq) X.out.2.1 rfl rfl rfl rfl))
              have hszd : w.heap.size ≤ ((wr.drewN n0).drewN nq).heap.size := hsz
              generalize (wr.drewN n0).drewN nq = wd at *
              clear hcy hcw HCL
              go_wp2
              go_loopw [5, 15] (fun q fv wq => ∃ (f m : Nat) (pc a1 b1 : List Int), fv = .int .i64 f ∧ f ≤ j + m ∧ j + m ≤ f ∧ m ≤ a.length ∧ w.heap.size ≤ wq.heap.size ∧ Tri wq w.heap.size q (.slice (some ⟨g, 0, none⟩) zs.length cr) (.slice (some ⟨bw, ow, none⟩) zs.length cw) pc (dn ++ (a1 ++ z :: b1)) zs ∧ a1.length = m ∧ a1 ++ b1 = a ++ bq ∧ pc ++ (swapsR s.length m ++ orderR (s.erase z) (zs.drop (j + 1))) = tot ∧ Below w.heap.size w wq) (fun _ fv _ => (intOf fv).toNat)
              case atStart => exact ⟨f, a.length, ps, a, bq, rfl, hf1, hf2, Nat.le_refl _, hszd, by rw [← X.out.2.2.2.2.2.1]; exact T1.out.1, rfl, rfl, X.out.2.2.1, T1.out.2⟩
              case round =>
                clear T1 hszd hf1 hf2 hfI hfN hyz
                obtain ⟨f, m, pc, a1, b1, rfl, hf1, hf2, hma, hszq, htri, hal1, hab, hord, hbq⟩ := hrel
                rcases m with _ | m
                · obtain rfl := List.eq_nil_of_length_eq_zero hal1
                  obtain rfl : f = j := by omega
                  have hbe : b1 = s.erase z := by rw [X.out.2.2.2.2.1]; simpa using hab
                  have hrel2 := htri
                  rw [List.nil_append, show dn ++ z :: b1 = (dn ++ [z]) ++ b1 from by simp] at hrel2
                  have Y := Lib.hid (And.intro hrel2 (And.intro (show (dn ++ [z]).length = f + 1 by rw [List.length_append, X.out.2.2.2.2.2.2]; rfl) (And.intro (show b1.Perm (zs.drop (f + 1)) by rw [hbe]; exact X.out.2.2.2.1) (And.intro (show pc ++ orderR b1 (zs.drop (f + 1)) = tot by rw [hbe]; simpa [swapsR] using hord) hbq)))); clear hrel2 htri hord hbq hbe hab
                  go_wp2
                  go_roundw
                  case rel => exact ⟨f + 1, pc, dn ++ [z], b1, by omega, by go_num, hszq, Y.out⟩
                  case measure => simp [intOf]; omega
                · obtain ⟨f, rfl⟩ : ∃ f', f = f' + 1 := ⟨f - 1, by omega⟩
                  rcases List.eq_nil_or_concat a1 with rfl | ⟨a2, x, rfl⟩
                  · simp at hal1
                  rw [List.concat_eq_append] at *
                  have hal2 : a2.length = m := by simpa using hal1
                  obtain ⟨ab, hab0⟩ : ∃ ab, ab = s.length - 1 - (m + 1) := ⟨_, rfl⟩
                  have habI : (zs.length : Int) - 1 - ((f : Int) + 1) = (ab : Int) := by omega
                  have hab5 : ab ≤ 5 := by omega
                  have hfk : (j : Int) < (f : Int) + 1 := by omega
                  obtain ⟨L0, L1, L2⟩ := flip_list (dn := dn) (a := a2) (b := b1) (x := x) (z := z) (m := f) (by rw [List.length_append, X.out.2.2.2.2.2.2, hal2]; omega)
                  have hord2 : (pc ++ underR ab 1003) ++ (swapsR s.length m ++ orderR (s.erase z) (zs.drop (j + 1))) = tot := by
                    rw [← hord, swapsR, hab0]; simp
                  have hLl : (dn ++ ((a2 ++ [x]) ++ z :: b1)).length = zs.length := by
                    have := congrArg List.length hab
                    simp at this
                    have h3 := X.out.2.2.2.2.2.2
                    simp; omega
                  have hpl : pc.length ≤ 1000 := by
                    have h1 := congrArg List.length hord
                    rw [List.length_append] at h1
                    have := HTL.out
                    omega
                  have hf1n : f + 1 < zs.length := by omega
                  obtain ⟨d0, d1, d2, d3, d4, tw, bl, d5⟩ := htri.swap hLl hf1n L0 L1
                  rw [L2] at tw
                  have hzs2 : ((wr.setCell ⟨g, f + 1, none⟩ (.int .i64 x)).setCell ⟨g, f, none⟩ (.int .i64 z)).heap.size = wr.heap.size := by simp [World.setCell]
                  have W5 := Lib.hid (And.intro tw (And.intro (hbq.trans bl) (And.intro hord2 (And.intro hal2 (show a2 ++ x :: b1 = a ++ bq by simpa using hab))))); clear tw bl htri hbq hord2 hord hal2 hab L0 L1 L2 hLl hal1 hab0
                  have hi1 : (f : Int) + 1 < zs.length := by omega
                  have hi2 : (0 : Int) ≤ (f : Int) + 1 := by omega
                  have hi3 : (f : Int) < zs.length := by omega
                  have hi4 : f < zs.length := by omega
                  have hi5 : (0 : Int) ≤ (f : Int) := by omega
                  have hwf : IntKind.i64.wrap (f : Int) = (f : Int) := by rw [IntKind.wrap_i64]; omega
                  have hwf1 : IntKind.i64.wrap ((f : Int) + 1 - 1) = (f : Int) := by rw [IntKind.wrap_i64]; omega
                  go_wp2_with fail
                  clear d0 d1 d2 d3 d4 d5
                  have hzw2 : w.heap.size ≤ ((wr.setCell ⟨g, f + 1, none⟩ (.int .i64 x)).setCell ⟨g, f, none⟩ (.int .i64 z)).heap.size := by omega
                  have hba := (Below.refl ((wr.setCell ⟨g, f + 1, none⟩ (.int .i64 x)).setCell ⟨g, f, none⟩ (.int .i64 z)).heap.size ((wr.setCell ⟨g, f + 1, none⟩ (.int .i64 x)).setCell ⟨g, f, none⟩ (.int .i64 z))).alloc (Nat.le_refl _) (.cells #[.int .i64 1003] 3)
                  have hl1 : RdI (((wr.setCell ⟨g, f + 1, none⟩ (.int .i64 x)).setCell ⟨g, f, none⟩ (.int .i64 z)).alloc (.cells #[.int .i64 1003] 3)) (.slice (some ⟨wr.heap.size, 0, none⟩) 1 1) [1003] := by
                    have h := (lits_own ((wr.setCell ⟨g, f + 1, none⟩ (.int .i64 x)).setCell ⟨g, f, none⟩ (.int .i64 z)) [1003] (by simp) (by intro z hz; simp at hz; subst hz; exact wf_small _ (by omega))).rd
                    rw [hzs2] at h
                    exact h
                  have V1 := Lib.hid (And.intro (W5.out.1.below hba) (And.intro hl1 (W5.out.2.1.trans (hba.mono hzw2)))); clear hba hl1
                  refine (l7Dips_any ab 1003 _ _ V1.out.2.1 (by omega)).mono ?_
                  rintro e w4 ⟨u4, rfl, ho4, hb4⟩
                  have hz4 : ((wr.setCell ⟨g, f + 1, none⟩ (.int .i64 x)).setCell ⟨g, f, none⟩ (.int .i64 z)).heap.size + 1 ≤ w4.heap.size := by have := hb4.size; simpa using this
                  have V2 := Lib.hid (And.intro (V1.out.1.below hb4) (And.intro ho4.rd (V1.out.2.2.trans (hb4.mono (by simp; omega))))); clear ho4 hb4 V1
                  have HUL := Lib.hid (show (underR ab 1003).length ≤ 100 by rw [underR_len]; omega)
                  generalize underR ab 1003 = up at *
                  generalize hLL : dn ++ (a2 ++ z :: x :: b1) = LL at *
                  have HLL := Lib.hid hLL; clear hLL
                  go_wp2_with (at_builtin; refine wpList_append_3 rfl _ _ _ rfl Try.underlying25 intInfo w.heap.size _ _ _ pc LL zs rfl V2.out.1 (by omega) _ up rfl V2.out.2.1 (by have := HUL.out; omega) ?_)
                  intro v5 w5 ho5 hb5
                  have hz5 : w.heap.size ≤ w5.heap.size := (V2.out.2.2.trans hb5).size
                  rw [← HLL.out] at ho5
                  have V3 := Lib.hid (And.intro ho5 (V2.out.2.2.trans hb5)); clear ho5 hb5 V2
                  go_wp2
                  go_roundw
                  case rel => exact ⟨f, m, pc ++ up, a2, x :: b1, by go_num, by omega, by omega, by omega, hz5, V3.out.1, W5.out.2.2.2.1, W5.out.2.2.2.2, W5.out.2.2.1, V3.out.2⟩
                  case measure => simp [intOf] <;> omega
        · obtain rfl : j = zs.length := by omega
          rw [List.drop_length, orderR, List.append_nil] at hord
          have Y := Lib.hid (And.intro htri.a.out1 hbk); clear htri hpm hbk
          rw [hord, HT.out] at Y
          go_wp2
          go_ret
          exact ⟨_, rfl, Y.out⟩
end Go.Proofs.Ytkdpfiaegimnlaa
