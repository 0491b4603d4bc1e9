/- Chapter 7: values put in the order of a row (the program), and ShuffleFor of the program. -/
import Derived.Test.YtjbfpbajbjnifaaJk
import Derived.Test.YtjbfpbajbjnifaaJg
import Derived.Test.YtjbfpbajbjnifaaB1
import Derived.Test.YtjbfpbajbjnifaaJn
import Derived.BigRegion
namespace Go.Proofs.Ytjbfpbajbjnifaa
set_option maxRecDepth 100000
open Go.RowKit Go.WideShapes Go.Deep

theorem RdI.subJ {w : World} {b off : Nat} {zs : List Int} (h : Ints w (some ⟨b, off, none⟩) zs) (i n : Nat) (hi : i + n ≤ zs.length) : Ints w (some ⟨b, off + i, none⟩) ((zs.drop i).take n) := h.sub i n hi
theorem idx_none {zs : List Int} {z : Int} {k : Nat} (hk : k < zs.length) (h : z ∉ zs.take k) (hz : zs.getD k 0 ≠ z) : z ∉ zs.take (k + 1) := by
  rw [List.take_add_one, List.mem_append]
  rintro (h1 | h1)
  · exact h h1
  · simp [List.getElem?_eq_getElem hk] at h1
    exact hz (by simp [List.getD, List.getElem?_eq_getElem hk, h1])
theorem idx_some {zs : List Int} {z : Int} {k : Nat} (hk : k < zs.length) (h : z ∉ zs.take k) (hz : zs.getD k 0 = z) : zs.idxOf z = k := by
  have e : zs = zs.take k ++ z :: zs.drop (k + 1) := by
    conv => lhs; rw [← List.take_append_drop k zs, List.drop_eq_getElem_cons hk]
    simp [List.getD, List.getElem?_eq_getElem hk] at hz
    rw [hz]
  rw [e, List.idxOf_append, if_neg h]
  simp; omega
theorem index_any (A : Option Addr) (c : Nat) (zs : List Int) (z : Int) (w : World) (h : Ints w A zs) (hz : z ∈ zs) :
    Calls Try.prog 119 #[.slice A zs.length c, .int .i64 z] w fun e w' => e = .returned (.int .i64 (zs.idxOf z)) ∧ w = w' := by
  have hm := h.len
  have Hz := Lib.hid hz; clear hz
  obtain ⟨-, -, hr⟩ := h
  have Hr := Lib.hid hr; clear hr
  go_enter Try.func119, Try.ntmps119
  go_wp2
  go_loop [8] (fun i => ∃ k : Nat, k ≤ zs.length ∧ i = .int .i64 k ∧ z ∉ zs.take k) (fun i => zs.length - (intOf i).toNat)
  case atStart => exact ⟨0, Nat.zero_le _, rfl, by simp⟩
  case round =>
    obtain ⟨k, hk, rfl, hall⟩ := hrel
    by_cases hlt : k < zs.length
    · obtain ⟨bb, off, rfl, hb, hc⟩ := Hr.out (by omega)
      have hcell := hc k hlt
      have hltI : (k : Int) < zs.length := by omega
      clear hc
      have HN := Lib.hid (idx_none (z := z) hlt hall)
      have HY := Lib.hid (idx_some (z := z) hlt hall); clear hall
      generalize zs.getD k 0 = y at *
      by_cases hyz : y = z
      · subst hyz
        have e := HY.out rfl
        have HE := Lib.hid e; clear e
        go_wp2
        go_ret
        exact ⟨ret_i64 (by rw [HE.out]), rfl⟩
      · have hb1 : (z == y) = false := by rw [beq_eq_false_iff_ne]; exact fun e => hyz e.symm
        have HE := Lib.hid (HN.out hyz)
        go_wp2
        go_round
        case rel => exact ⟨k + 1, by omega, by go_num, HE.out⟩
        case measure => simp [intOf]; omega
    · rw [List.take_of_length_le (by omega)] at hall
      exact absurd Hz.out hall

theorem Two.swap {w : World} {lo g n cap m : Nat} {p : Value} {ps L : List Int} {x z : Int} (h : Two w lo p (.slice (some ⟨g, 0, none⟩) n cap) ps L) (hL : L.length = n) (hm : m + 1 < n) (g0 : L[m]? = some x) (g1 : L[m + 1]? = some z) :
    w.cell? ⟨g, m, none⟩ = some (.int .i64 x) ∧ w.cell? ⟨g, m + 1, none⟩ = some (.int .i64 z) ∧ w.frozen? ⟨g, m, none⟩ = false ∧ w.frozen? ⟨g, m + 1, none⟩ = false ∧
    (w.setCell ⟨g, m, none⟩ (.int .i64 z)).cell? ⟨g, m + 1, none⟩ = some (.int .i64 z) ∧ (w.setCell ⟨g, m, none⟩ (.int .i64 z)).frozen? ⟨g, m + 1, none⟩ = false ∧
    Two ((w.setCell ⟨g, m, none⟩ (.int .i64 z)).setCell ⟨g, m + 1, none⟩ (.int .i64 x)) lo p (.slice (some ⟨g, 0, none⟩) n cap) ps ((L.set m z).set (m + 1) x) ∧
    Below lo w ((w.setCell ⟨g, m, none⟩ (.int .i64 z)).setCell ⟨g, m + 1, none⟩ (.int .i64 x)) := by
  subst hL
  have ho := h.two.own
  have hge := (h.two.ge g rfl).1
  have h1 := (ho.stored m (.int .i64 z)).1
  have h2 := (h1.stored (m + 1) (.int .i64 x)).1
  rw [set2_map] at h2
  have e3 := h1.cellAt (m + 1) (by omega)
  rw [List.getElem?_set_ne (by omega), List.getElem?_map, g1] at e3
  refine ⟨(ho.cellAt m (by omega)).trans (by rw [List.getElem?_map, g0]; rfl), (ho.cellAt (m + 1) (by omega)).trans (by rw [List.getElem?_map, g1]; rfl), ho.frozenAt m, ho.frozenAt (m + 1), e3, h1.frozenAt (m + 1), ⟨⟨ownsRow_keep h.one.own fun k hk => ?_, h.one.wf⟩, ⟨by rw [List.length_set, List.length_set]; exact h2, fun y hy => ?_⟩, h.ne⟩, ((Below.refl lo w).setCell (by simpa using hge) _).setCell (by simpa using hge) _⟩
  · have hne : k ≠ g := by rintro rfl; exact h.ne _ hk rfl
    exact (Below.heap_setCell _ _ _ _ (by simpa using hne)).trans (Below.heap_setCell _ _ _ _ (by simpa using hne))
  · have hzm : z ∈ L := List.mem_of_getElem? g1
    have hxm : x ∈ L := List.mem_of_getElem? g0
    rcases List.mem_or_eq_of_mem_set hy with hy | rfl
    · rcases List.mem_or_eq_of_mem_set hy with hy | rfl
      · exact h.two.wf y hy
      · exact h.two.wf y hzm
    · exact h.two.wf y hxm
theorem Two.same {w w' : World} {lo : Nat} {v u : Value} {xs ys : List Int} (h : Two w lo v u xs ys) (hh : w'.heap = w.heap) : Two w' lo v u xs ys :=
  ⟨⟨ownsRow_keep h.one.own fun k _ => by rw [hh], h.one.wf⟩, ⟨ownsRow_keep h.two.own fun k _ => by rw [hh], h.two.wf⟩, h.ne⟩
theorem below_same {lo : Nat} {a w w' : World} (h : Below lo a w) (hh : w'.heap = w.heap) (h1 : w'.os = w.os) (h2 : w'.tape = w.tape) (h3 : w'.output = w.output) : Below lo a w' := ⟨h1.trans h.os, h2.trans h.tape, h3.trans h.output, by rw [hh]; exact h.size, fun k hk => by rw [hh]; exact h.block k hk⟩
theorem flip_list {dn a b : List Int} {x z : Int} {m : Nat} (hm : (dn ++ a).length = m) : ((dn ++ ((a ++ [x]) ++ z :: b)))[m]? = some x ∧ ((dn ++ ((a ++ [x]) ++ z :: b)))[m + 1]? = some z ∧ (((dn ++ ((a ++ [x]) ++ z :: b)).set m z).set (m + 1) x) = dn ++ (a ++ z :: (x :: b)) := by
  have e : dn ++ ((a ++ [x]) ++ z :: b) = (dn ++ a) ++ (x :: z :: b) := by simp
  rw [e]
  refine ⟨?_, ?_, ?_⟩
  · rw [List.getElem?_append_right (by omega), hm, Nat.sub_self]; rfl
  · rw [List.getElem?_append_right (by omega), hm, show m + 1 - m = 1 from by omega]; rfl
  · rw [List.set_append_right _ _ (by omega), hm, Nat.sub_self, List.set_cons_zero, List.set_append_right _ _ (by omega), hm, show m + 1 - m = 1 from by omega]; simp
theorem swapsR_len (n : Nat) : ∀ j, (swapsR n j).length ≤ j * (3 * n + 1) := by
  intro j
  induction j with
  | zero => simp [swapsR]
  | succ j ih => rw [swapsR, List.length_append, underR_len, Nat.add_mul, Nat.one_mul]; omega
theorem orderR_len : ∀ (zs s : List Int), s.length ≤ 5 → zs.length ≤ 5 → (orderR s zs).length ≤ zs.length * 80 := by
  intro zs
  induction zs with
  | nil => intro s _ _; simp [orderR]
  | cons z zs ih =>
    intro s hs hz
    rw [orderR, List.length_append, List.length_cons, Nat.add_mul, Nat.one_mul]
    have h1 := swapsR_len s.length (s.idxOf z)
    have h2 : s.idxOf z ≤ s.length := List.idxOf_le_length
    have h3 : s.idxOf z * (3 * s.length + 1) ≤ 5 * 16 := Nat.mul_le_mul (by omega) (by omega)
    have h4 := ih (s.erase z) (Nat.le_trans (List.length_erase_le) hs) (by simp at hz; omega)
    omega

set_option maxHeartbeats 8000000 in
theorem inOrder_any (n : Nat) (v : Value) (zs : List Int) (w : World) (h : RdI w v zs) (hl : zs.length ≤ 5) (ha : allB n zs = true) : Calls Try.prog 83 #[v] w (Gives w (orderR (sortR zs n) zs)) := by
  obtain ⟨A, c, rfl, hi, hc⟩ := h
  obtain ⟨qs, hqs⟩ := i64s hi.wf
  have hql : qs.length = zs.length := by rw [hqs]; simp
  have HI := Lib.hid hi
  have hV := Values_any A c qs w (hqs ▸ hi)
  rw [hql] at hV
  have HV := Lib.hid hV; clear hV hi
  have HQ := Lib.hid (And.intro hqs hql); clear hqs
  have Ha := Lib.hid ha; clear ha
  go_enter Try.func83, Try.ntmps83
  go_wp2_with fail
  refine HV.out.mono ?_
  rintro e w1 ⟨rfl, hr1, hs1, hb1⟩
  rw [← hs1] at hr1
  have X1 := Lib.hid (And.intro hr1 hb1); clear hr1 hb1
  go_wp2_with fail
  refine (Sorted_any A c qs (by omega) w.heap.size _ X1.out.1).mono ?_
  rintro e w2 ⟨v2, ys, rfl, hpm, hso, hown, hb2⟩
  rw [← HQ.out.1] at hpm
  have hys : ys = sortR zs n := sorted_unique (hpm.trans (sortR_perm Ha.out).symm) hso (sortR_sorted zs n).1
  have hz12 : w.heap.size ≤ w1.heap.size := by omega
  have hyl : ys.length = zs.length := hpm.length_eq
  have HYS := Lib.hid hys
  have hz2 : w.heap.size ≤ w2.heap.size := by have := hb2.size; omega
  have X2 := Lib.hid (And.intro (show Two w2 w.heap.size (.slice none 0 0) v2 [] ys from ⟨Own.nil _ _, hown.mono hz12, fun k hk => by simp [Value.ownBlock] at hk⟩) (And.intro hpm (X1.out.2.trans (hb2.mono hz12)))); clear hown hpm hb2 hys hso X1 HV hs1
  have hform : zs.length = 0 ∨ ∃ g cap, v2 = .slice (some ⟨g, 0, none⟩) zs.length cap ∧ zs.length ≤ cap ∧ cap ≤ 9223372036854775807 := by
    rcases hz0 : zs.length with _ | m
    · exact .inl rfl
    · right
      have ho := X2.out.1.two.own
      rw [hyl, hz0] at ho
      obtain ⟨g, cap, rfl⟩ := ownsRow_succ ho
      have := ownsRow_cap ho
      exact ⟨g, cap, rfl, this.1, this.2⟩
  have HF := Lib.hid hform; clear hform
  have HYL := Lib.hid hyl; clear hyl
  go_wp2
  go_loopw [4, 13] (fun q i wr => ∃ (k : Nat) (ps dn s : List Int), k ≤ zs.length ∧ i = .int .i64 k ∧ w.heap.size ≤ wr.heap.size ∧ Two wr w.heap.size q v2 ps (dn ++ s) ∧ dn.length = k ∧ s.Perm (zs.drop k) ∧ ps ++ orderR s (zs.drop k) = orderR ys zs ∧ Below w.heap.size w wr) (fun _ i _ => zs.length - (intOf i).toNat)
  case atStart => exact ⟨0, [], [], ys, Nat.zero_le _, rfl, hz2, X2.out.1, rfl, by simpa using X2.out.2.1, by simp, X2.out.2.2⟩
  case round =>
    clear X2 hz2
    obtain ⟨k, ps, dn, s, hk, rfl, hsz, htwo, hdn, hpm, hord, hbk⟩ := hrel
    have hsl : s.length + k = zs.length := by
      have := hpm.length_eq
      rw [List.length_drop] at this; omega
    by_cases hlt : k < zs.length
    · have hltI : (k : Int) < zs.length := by omega
      obtain ⟨g, cap, rfl, hcp, hcp2⟩ := HF.out.resolve_left (by omega)
      obtain ⟨b, off, rfl, hb, hcc⟩ := HI.out.at_ (by omega)
      have hcell := (hbk.cell (p := ⟨b, off + k, none⟩) hb).trans (hcc k hlt)
      have hdrop : zs.drop k = zs.getD k 0 :: zs.drop (k + 1) := by
        rw [List.drop_eq_getElem_cons hlt]; simp [List.getD, List.getElem?_eq_getElem hlt]
      rw [hdrop] at hpm hord
      clear hcc hdrop
      generalize zs.getD k 0 = z at *
      have hzs : z ∈ s := hpm.mem_iff.2 (by simp)
      obtain ⟨a, bq, hza, hse, her⟩ := List.exists_erase_eq hzs
      have hidx : s.idxOf z = a.length := by rw [hse, List.idxOf_append, if_neg hza]; simp
      have hpe : (s.erase z).Perm (zs.drop (k + 1)) := by
        have h2 := hpm.erase z
        rw [List.erase_cons_head] at h2
        exact h2
      rw [orderR, hidx] at hord
      have hsl2 : s.length = a.length + 1 + bq.length := by rw [hse]; simp; omega
      have hint : Ints wr (some ⟨g, k, none⟩) s := by
        obtain ⟨A', c', e', h1, _⟩ := htwo.two.ints
        rw [Value.slice.injEq] at e'
        obtain ⟨rfl, _, rfl⟩ := e'
        have h2 := RdI.subJ h1 k s.length (by rw [List.length_append]; omega)
        rw [Nat.zero_add, List.drop_left' hdn, List.take_length] at h2
        exact h2
      have IDX : Calls Try.prog 119 #[.slice (some ⟨g, k, none⟩) (zs.length - k) (cap - k), .int .i64 z] wr fun e w' => e = .returned (.int .i64 ((a.length : Nat) : Int)) ∧ wr = w' := by
        rw [← hidx, ← show s.length = zs.length - k from by omega]
        exact index_any _ _ s z wr hint hzs
      have HIX := Lib.hid IDX; clear IDX hint
      have hck : ¬ cap = k := by omega
      have hk60 : (k : Int) ≤ 5 := by omega
      have hal : a.length ≤ 5 := by omega
      have hwi : IntKind.i64.wrap ((k : Int) + ((a.length : Nat) : Int)) = (k : Int) + ((a.length : Nat) : Int) := by rw [IntKind.wrap_i64]; omega
      have X := Lib.hid (And.intro htwo (And.intro hbk (And.intro hord (And.intro hpe (And.intro her (And.intro hse hdn)))))); clear htwo hbk hord hpe hpm
      go_wp2_with (go_at_call 119; refine HIX.out.mono ?_; rintro e w' ⟨rfl, rfl⟩)
      go_loopw [4, 7] (fun q fv wq => ∃ (f j : Nat) (pc a1 b1 : List Int), fv = .int .i64 f ∧ f ≤ k + j ∧ k + j ≤ f ∧ j ≤ a.length ∧ w.heap.size ≤ wq.heap.size ∧ Two wq w.heap.size q (.slice (some ⟨g, 0, none⟩) zs.length cap) pc (dn ++ (a1 ++ z :: b1)) ∧ a1.length = j ∧ a1 ++ b1 = a ++ bq ∧ pc ++ (swapsR s.length j ++ orderR (s.erase z) (zs.drop (k + 1))) = orderR ys zs ∧ Below w.heap.size w wq) (fun _ fv _ => (intOf fv).toNat)
      case atStart => exact ⟨k + a.length, a.length, ps, a, bq, by go_num, Nat.le_refl _, Nat.le_refl _, Nat.le_refl _, hsz, by rw [← X.out.2.2.2.2.2.1]; exact X.out.1, rfl, rfl, X.out.2.2.1, X.out.2.1⟩
      case round =>
        clear hsz
        obtain ⟨f, j, pc, a1, b1, rfl, hf1, hf2, hja, hszq, htwo, hal1, hab, hord, hbq⟩ := hrel
        rcases j with _ | m
        · obtain rfl := List.eq_nil_of_length_eq_zero hal1
          have hfk : (f : Int) = (k : Int) := by omega
          obtain rfl : f = k := by omega
          have hbe : b1 = s.erase z := by rw [X.out.2.2.2.2.1]; simpa using hab
          have hrel2 := htwo
          rw [List.nil_append, show dn ++ z :: b1 = (dn ++ [z]) ++ b1 from by simp] at hrel2
          have Y := Lib.hid (And.intro hrel2 (And.intro (show (dn ++ [z]).length = f + 1 by rw [List.length_append, X.out.2.2.2.2.2.2]; rfl) (And.intro (show b1.Perm (zs.drop (f + 1)) by rw [hbe]; exact X.out.2.2.2.1) (And.intro (show pc ++ orderR b1 (zs.drop (f + 1)) = orderR ys zs by rw [hbe]; simpa [swapsR] using hord) hbq)))); clear hrel2 htwo hord hbq hbe hab
          go_wp2
          go_roundw
          case rel => exact ⟨f + 1, pc, dn ++ [z], b1, by omega, by go_num, hszq, Y.out⟩
          case measure => simp [intOf]; omega
        · obtain ⟨f, rfl⟩ : ∃ f', f = f' + 1 := ⟨f - 1, by omega⟩
          rcases List.eq_nil_or_concat a1 with rfl | ⟨a2, x, rfl⟩
          · simp at hal1
          rw [List.concat_eq_append] at *
          have hal2 : a2.length = m := by simpa using hal1
          obtain ⟨ab, hab0⟩ : ∃ ab, ab = s.length - 1 - (m + 1) := ⟨_, rfl⟩
          have habI : (zs.length : Int) - 1 - ((f : Int) + 1) = (ab : Int) := by omega
          have hab5 : ab ≤ 5 := by omega
          have hfk : (k : Int) < (f : Int) + 1 := by omega
          obtain ⟨L0, L1, L2⟩ := flip_list (dn := dn) (a := a2) (b := b1) (x := x) (z := z) (m := f) (by rw [List.length_append, X.out.2.2.2.2.2.2, hal2]; omega)
          have hord2 : (pc ++ underR ab 1003) ++ (swapsR s.length m ++ orderR (s.erase z) (zs.drop (k + 1))) = orderR ys zs := by
            rw [← hord, swapsR, hab0]; simp
          have hLl : (dn ++ ((a2 ++ [x]) ++ z :: b1)).length = zs.length := by
            have := congrArg List.length hab
            simp at this
            have h3 := X.out.2.2.2.2.2.2
            simp; omega
          have hpl : pc.length ≤ 400 := by
            have h1 := congrArg List.length hord
            rw [List.length_append] at h1
            have h2 := orderR_len zs ys (by rw [HYL.out]; exact hl) hl
            have h3 : zs.length * 80 ≤ 5 * 80 := Nat.mul_le_mul hl (Nat.le_refl _)
            omega
          have Y := Lib.hid (And.intro htwo (And.intro hbq (And.intro hord2 (And.intro hLl (And.intro L0 (And.intro L1 (And.intro L2 (And.intro hab hal2)))))))); clear htwo hbq hord2 hLl L0 L1 L2 hab hal1 hord hal2 hab0
          go_wp2_with fail
          refine (under_any ab 1003 _ (wf_small _ (by omega)) (by omega)).mono ?_
          rintro e w4 ⟨u4, rfl, ho4, hb4⟩
          have hz4 := hb4.size
          have V := Lib.hid (And.intro (Y.out.1.below hb4) (And.intro ho4.rd (Y.out.2.1.trans (hb4.mono hszq)))); clear ho4 hb4
          have HUL := Lib.hid (show (underR ab 1003).length ≤ 100 by rw [underR_len]; omega)
          generalize underR ab 1003 = up at *
          generalize hLL : dn ++ ((a2 ++ [x]) ++ z :: b1) = LL at *
          go_wp2_with (at_builtin; refine wpList_append_T rfl _ _ _ rfl Try.underlying23 intInfo w.heap.size _ _ pc LL rfl V.out.1 (by omega) _ up rfl V.out.2.1 (by have := HUL.out; omega) ?_)
          intro v5 w5 ho5 hb5
          have hz5 : w.heap.size ≤ w5.heap.size := by have := hb5.size; omega
          have hf1n : f + 1 < zs.length := by omega
          obtain ⟨c0, c1, f0, f1, c2, f2, tw, bl⟩ := ho5.swap Y.out.2.2.2.1 hf1n Y.out.2.2.2.2.1 Y.out.2.2.2.2.2.1
          rw [Y.out.2.2.2.2.2.2.1] at tw
          have d0 : w5.drew.cell? ⟨g, f, none⟩ = some (.int .i64 x) := c0
          have d1 : w5.drew.cell? ⟨g, f + 1, none⟩ = some (.int .i64 z) := c1
          have d2 : w5.drew.frozen? ⟨g, f, none⟩ = false := f0
          have d3 : w5.drew.frozen? ⟨g, f + 1, none⟩ = false := f1
          have d4 : (w5.drew.setCell ⟨g, f, none⟩ (.int .i64 z)).cell? ⟨g, f + 1, none⟩ = some (.int .i64 z) := c2
          have d5 : (w5.drew.setCell ⟨g, f, none⟩ (.int .i64 z)).frozen? ⟨g, f + 1, none⟩ = false := f2
          have W5 := Lib.hid (And.intro tw (V.out.2.2.trans (hb5.trans bl))); clear tw bl ho5 hb5
          have hi1 : (f : Int) + 1 < zs.length := by omega
          have hi2 : (0 : Int) ≤ (f : Int) + 1 := by omega
          have hi3 : (f : Int) < zs.length := by omega
          have hi4 : f < zs.length := by omega
          have hi5 : (0 : Int) ≤ (f : Int) := by omega
          have hwf : IntKind.i64.wrap (f : Int) = (f : Int) := by rw [IntKind.wrap_i64]; omega
          have hwf1 : IntKind.i64.wrap ((f : Int) + 1 - 1) = (f : Int) := by rw [IntKind.wrap_i64]; omega
          go_wp2
          go_region
          all_goals
            have Z : Hid (Two ((w5.drew.setCell ⟨g, f, none⟩ (.int .i64 z)).setCell ⟨g, f + 1, none⟩ (.int .i64 x)) w.heap.size v5 (.slice (some ⟨g, 0, none⟩) zs.length cap) (pc ++ up) (dn ++ (a2 ++ z :: x :: b1)) ∧ Below w.heap.size w ((w5.drew.setCell ⟨g, f, none⟩ (.int .i64 z)).setCell ⟨g, f + 1, none⟩ (.int .i64 x))) := Lib.hid ⟨W5.out.1.same rfl, below_same W5.out.2 rfl rfl rfl rfl⟩
            have hzf : w.heap.size ≤ ((w5.drew.setCell ⟨g, f, none⟩ (.int .i64 z)).setCell ⟨g, f + 1, none⟩ (.int .i64 x)).heap.size := by simpa [World.setCell] using hz5
            have Zl := Lib.hid (And.intro Y.out.2.2.2.2.2.2.2.2 (And.intro (show a2 ++ x :: b1 = a ++ bq by have := Y.out.2.2.2.2.2.2.2.1; simpa using this) Y.out.2.2.1))
            go_wp2
            go_roundw
            case rel => exact ⟨f, m, pc ++ up, a2, x :: b1, by go_num, by omega, by omega, by omega, hzf, Z.out.1, Zl.out.1, Zl.out.2.1, Zl.out.2.2, Z.out.2⟩
            case measure => simp [intOf] <;> omega
    · obtain rfl : k = zs.length := by omega
      rw [List.drop_length, orderR, List.append_nil] at hord
      have Y := Lib.hid (And.intro htwo.out1 hbk); clear htwo hpm hbk
      rw [hord, HYS.out] at Y
      go_wp2
      go_ret
      exact ⟨_, rfl, Y.out⟩

theorem forR_len (n : Nat) (zs : List Int) (hn : n ≤ 5) (hl : zs.length ≤ 5) (ha : allB n zs = true) : (oftenR n zs n).length ≤ 500 ∧ (orderR (sortR zs n) zs).length ≤ 400 := by
  refine ⟨Nat.le_trans (oftenR_len n zs hn hl n) (by omega), ?_⟩
  have h1 := (sortR_perm ha).length_eq
  have h2 := orderR_len zs (sortR zs n) (by omega) hl
  have h3 : zs.length * 80 ≤ 5 * 80 := Nat.mul_le_mul hl (Nat.le_refl _)
  omega
theorem shuffleForR_bad {many : Int} {zs : List Int} {y0 : List Int} {y1 : Bool} (h : shuffleForR many zs = (y0, y1)) (hn : ¬ (0 ≤ many ∧ many ≤ 5 ∧ zs.length ≤ 5 ∧ allB many zs = true ∧ (forR many.toNat zs).length ≤ 60)) : [] = y0 ∧ false = y1 := by
  rw [shuffleForR, if_neg hn] at h; cases h; exact ⟨rfl, rfl⟩
set_option maxHeartbeats 16000000 in
theorem ShuffleFor_I (x0 : Int) (v1 : Value) (x1 : List Int) (w : World) (_ : InK .i64 x0) (h1 : RdI w v1 x1) (_ : x1.length ≤ 1048576) (y0 : List Int) (y1 : Bool) (hR : shuffleForR x0 x1 = (y0, y1)) :
    Calls Try.prog 35 #[.int .i64 x0, v1] w (PairI w y0 y1) := by
  have H := Lib.hid h1
  obtain ⟨A, c, rfl, hi, hc⟩ := h1
  have HI := Lib.hid hi; clear hi
  have HR := Lib.hid hR; clear hR
  have HB := Lib.hid (nilOwn w w.heap.size w.heap.size)
  by_cases q0 : x0 < 0
  · obtain ⟨rfl, rfl⟩ := shuffleForR_bad HR.out (by omega)
    go_enter Try.func35, Try.ntmps35
    go_wp2
    go_ret2
    exact ⟨_, rfl, HB.out, Below.refl _ _⟩
  by_cases q1 : 5 < x0
  · obtain ⟨rfl, rfl⟩ := shuffleForR_bad HR.out (by omega)
    go_enter Try.func35, Try.ntmps35
    go_wp2
    go_ret2
    exact ⟨_, rfl, HB.out, Below.refl _ _⟩
  by_cases q2 : 5 < x1.length
  · obtain ⟨rfl, rfl⟩ := shuffleForR_bad HR.out (by omega)
    have q2I : (5 : Int) < x1.length := by omega
    go_enter Try.func35, Try.ntmps35
    go_wp2
    go_ret2
    exact ⟨_, rfl, HB.out, Below.refl _ _⟩
  have q2I : ¬ (5 : Int) < x1.length := by omega
  rcases ha : allB x0 x1 with _ | _ <;> have Ha := Lib.hid ha <;> clear ha
  · obtain ⟨rfl, rfl⟩ := shuffleForR_bad HR.out (by rw [Ha.out]; simp)
    go_enter Try.func35, Try.ntmps35
    go_wp2_with (go_at_call 80; refine (allBelow_any _ A c x1 _ HI.out).mono ?_; rw [Ha.out]; rintro e w' ⟨rfl, rfl⟩)
    go_ret2
    exact ⟨_, rfl, HB.out, Below.refl _ _⟩
  obtain ⟨n, rfl⟩ : ∃ n : Nat, x0 = n := ⟨x0.toNat, by omega⟩
  have hn5 : n ≤ 5 := by omega
  have hl5 : x1.length ≤ 5 := by omega
  obtain ⟨hl1, hl2⟩ := forR_len n x1 hn5 hl5 Ha.out
  have HR2 := Lib.hid (show (if (oftenR n x1 n ++ orderR (sortR x1 n) x1).length ≤ 60 then (oftenR n x1 n ++ orderR (sortR x1 n) x1, true) else ([], false)) = (y0, y1) by
    have := HR.out
    rw [shuffleForR, Int.toNat_natCast, forR] at this
    by_cases h6 : (oftenR n x1 n ++ orderR (sortR x1 n) x1).length ≤ 60
    · rw [if_pos ⟨by omega, by omega, hl5, Ha.out, h6⟩] at this; rw [if_pos h6]; exact this
    · rw [if_neg (fun h => h6 h.2.2.2.2)] at this; rw [if_neg h6]; exact this)
  have HO := Lib.hid (fun w h => asOften_any n (.slice A x1.length c) x1 w h hn5 hl5 Ha.out)
  have HN := Lib.hid (fun w h => inOrder_any n (.slice A x1.length c) x1 w h hl5 Ha.out)
  clear HR HB
  generalize oftenR n x1 n = os at *
  generalize orderR (sortR x1 n) x1 = rs at *
  obtain ⟨fs, hfs⟩ : ∃ fs, fs = os ++ rs := ⟨_, rfl⟩
  rw [← hfs] at HR2
  have hol : fs.length ≤ 1000 := by rw [hfs, List.length_append]; omega
  have HFS := Lib.hid hfs; clear hfs
  go_enter Try.func35, Try.ntmps35
  go_wp2_with (go_at_call 80; refine (allBelow_any _ A c x1 _ HI.out).mono ?_; rw [Ha.out]; rintro e w' ⟨rfl, rfl⟩)
  refine (HO.out _ H.out).mono ?_
  rintro e w1 ⟨u1, rfl, ho1, hb1⟩
  have X1 := Lib.hid (And.intro ho1 (And.intro hb1 (H.out.step hb1))); clear ho1 hb1
  go_wp2_with fail
  refine (HN.out _ X1.out.2.2).mono ?_
  rintro e w2 ⟨u2, rfl, ho2, hb2⟩
  obtain ⟨A1, c1, rfl, hi1, _⟩ := (X1.out.1.below hb2).rd
  obtain ⟨A2, c2, rfl, hi2, _⟩ := ho2.rd
  have hz2 : w.heap.size ≤ w2.heap.size := by have h1 := X1.out.2.1.size; have h2 := hb2.size; omega
  have X2 := Lib.hid (And.intro hi1 (And.intro hi2 (X1.out.2.1.trans (hb2.mono X1.out.2.1.size)))); clear hi1 hi2 ho2 hb2
  have S1 := Lib.hid (slrow_lit w2 23 [(A1, c1, os), (A2, c2, rs)] (by
    intro s hs
    simp only [List.mem_cons, List.not_mem_nil, or_false] at hs
    rcases hs with rfl | rfl
    · exact X2.out.1
    · exact X2.out.2.1))
  go_wp2_with (go_at_call 81; refine (concat_any w2.heap.size 0 2 [(A1, c1, os), (A2, c2, rs)] _ (by simp) S1.out (by simp) (by simp [flat]; omega)).mono ?_; rintro e w3 ⟨u3, rfl, ho3, hb3⟩)
  rw [show flat [(A1, c1, os), (A2, c2, rs)] = fs from by rw [HFS.out]; simp [flat]] at ho3
  have hb4 : Below w.heap.size w w3 := (X2.out.2.2.trans (((Below.refl w2.heap.size w2).alloc (Nat.le_refl _) _).mono hz2)).trans (hb3.mono (by simp; omega))
  have ho4 := (ho3.mono (B := w.heap.size) (by simp; omega)).within
  obtain ⟨A3, c3, rfl, _⟩ := ho4.rd
  have X3 := Lib.hid (And.intro ho4 (And.intro hb4 (nilOwn w3 w.heap.size w3.heap.size))); clear ho3 ho4 hb3 hb4
  by_cases h60 : fs.length ≤ 60
  · have hgI : ¬ (60 : Int) < fs.length := by omega
    have hr := HR2.out
    rw [if_pos h60] at hr
    cases hr
    go_wp2
    go_ret2
    exact ⟨_, rfl, X3.out.1, X3.out.2.1⟩
  · have hr := HR2.out
    rw [if_neg h60] at hr
    obtain ⟨rfl, rfl⟩ : [] = y0 ∧ false = y1 := by cases hr; exact ⟨rfl, rfl⟩
    have hfI : (fs.length : Int) ≤ 9223372036854775807 := by omega
    have hgI : (60 : Int) < fs.length := by omega
    clear hr
    go_wp2
    go_simp
    go_wp2
    go_ret2
    exact ⟨_, rfl, X3.out.2.2, X3.out.2.1⟩
theorem shuffleForR_len' (m : Int) (l : List Int) : szI (shuffleForR m l).1 ≤ 1000000 := by
  have := shuffleForR_len m l
  unfold szI; omega
end Go.Proofs.Ytjbfpbajbjnifaa
