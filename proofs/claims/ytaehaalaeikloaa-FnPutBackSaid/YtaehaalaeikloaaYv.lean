/- Chapter 9: GiveName, the program's and the model's. -/
import Derived.Test.YtaehaalaeikloaaYs
import Derived.Test.YtaehaalaeikloaaYi
import Derived.Test.YtaehaalaeikloaaB6
namespace Go.Proofs.Ytaehaalaeikloaa
set_option maxRecDepth 100000
open Go.RowKit Go.WideShapes

theorem rep_len {ws : List Int} (hw : 1 ≤ ws.length) (nm : Int) : ∀ (n : Nat) (p : List Int), p.length ≤ n → (repR ws nm p).length ≤ p.length := by
  intro n
  induction n with
  | zero => intro p h; rw [List.eq_nil_of_length_eq_zero (Nat.le_zero.1 h)]; simp [rep_nil]
  | succ n ih =>
    intro p h
    rcases p with _ | ⟨z, r⟩
    · simp [rep_nil]
    · rcases h0 : bgB ws (z :: r) with _ | _
      · rw [rep_miss nm h0]; have := ih r (by simpa using h); simp; omega
      · rw [rep_hit hw nm h0]
        have := ih ((z :: r).drop ws.length) (by rw [List.length_drop]; simp at h ⊢; omega)
        rw [List.length_drop] at this
        simp at this ⊢; omega
theorem OwnVs.snocB {w1 w2 : World} {a b lo hi : Nat} {v v' u : Value} {vs : List Value} {zss : List (List Int)} {zs : List Int} (h : OwnVs w1 lo hi v vs zss) (hu : OwnI w1 a b u zs) (hab : a ≤ b) (hbl : b ≤ lo)
    (hg : ∀ k, k < w1.heap.size → some k ≠ v.ownBlock → w2.heap[k]? = w1.heap[k]?)
    (hrow : w2.ownsRow lo 23 1 v' (zss.length + 1) (vs ++ [u])) : OwnSH w2 a w2.heap.size b lo v' (zss ++ [zs]) := by
  have hin : ∀ q lo' hi' ys, OwnI w1 lo' hi' q ys → (∀ g, q.ownBlock = some g → some g ≠ v.ownBlock) → OwnI w2 lo' hi' q ys := by
    intro q lo' hi' ys hq hne
    refine ⟨⟨⟨hq.own.own.1, ?_⟩, hq.own.wf⟩, hq.lt⟩
    rcases hq.own.own.2 with h0 | ⟨g, cap, cur, rfl, hb', hh, h1⟩
    · exact .inl h0
    · exact .inr ⟨g, cap, cur, rfl, hb', (hg g (hq.own.own.lt g rfl).2 (hne g rfl)).trans hh, h1⟩
  have hvge : ∀ g, v.ownBlock = some g → lo ≤ g := fun g hg' => (h.row.lt g hg').1
  have hget : ∀ (i : Nat) q, (vs ++ [u])[i]? = some q → (i < vs.length ∧ vs[i]? = some q) ∨ (i = vs.length ∧ q = u) := by
    intro i q hq
    by_cases hi : i < vs.length
    · rw [List.getElem?_append_left hi] at hq; exact .inl ⟨hi, hq⟩
    · have hil : i = vs.length := by
        rcases Nat.lt_or_ge i (vs.length + 1) with h' | h'
        · omega
        · rw [List.getElem?_eq_none (by simp; omega)] at hq; cases hq
      subst hil
      rw [List.getElem?_append_right (by omega)] at hq
      simp at hq
      exact .inr ⟨rfl, hq.symm⟩
  have hzget : ∀ (i : Nat), i < vs.length → ∃ ys, zss[i]? = some ys := fun i hi => ⟨_, List.getElem?_eq_getElem (by rw [← h.len]; exact hi)⟩
  have huv : ∀ g, u.ownBlock = some g → some g ≠ v.ownBlock := fun g hgu e => by
    have h1 := hvge g e.symm
    have h2 := hu.lt g hgu
    omega
  have hold : ∀ (j : Nat) q ys, vs[j]? = some q → zss[j]? = some ys → OwnI w2 lo hi q ys := fun j q ys hq hy =>
    hin q _ _ ys (h.inner j q ys hq hy) fun g hgq e => by
      rcases h.inner_ne hq hy with h4 | h4
      · rw [h4] at e; cases e
      · exact h4 (by rw [hgq, e])
  refine ⟨vs ++ [u], ⟨by simp [h.len], ?_, fun g hg' => (hrow.lt g hg').2, ?_, ?_⟩, fun g hg' => .inr (hrow.lt g hg').1, ?_⟩
  · rw [List.length_append]
    refine ⟨hrow.1, ?_⟩
    rcases hrow.2 with h0 | ⟨g, cap, cur, e, hb, hh⟩
    · exact .inl h0
    · exact .inr ⟨g, cap, cur, e, by omega, hh⟩
  · intro j q ys hq hy
    rcases hget j q hq with ⟨hj, hq'⟩ | ⟨hj, rfl⟩
    · rw [List.getElem?_append_left (by rw [← h.len]; exact hj)] at hy
      have h3 := hold j q ys hq' hy
      exact ⟨h3.own.mono (by omega), fun g hg' => (h3.own.ge g hg').2⟩
    · subst hj
      rw [List.getElem?_append_right (by rw [h.len]; omega)] at hy
      simp [h.len] at hy
      subst hy
      have h3 := hin q a b zs hu huv
      exact ⟨h3.own, fun g hg' => (h3.own.ge g hg').2⟩
  · intro i j q q' g hij hq hq' e e'
    rcases hget i q hq with ⟨hi, hqi⟩ | ⟨hi, rfl⟩ <;> rcases hget j q' hq' with ⟨hj, hqj⟩ | ⟨hj, rfl⟩
    · exact h.apart i j q q' g hij hqi hqj e e'
    · obtain ⟨ys, hy⟩ := hzget i hi
      have h1 := ((h.inner i q ys hqi hy).own.ge g e).1
      have h2 := hu.lt g e'
      omega
    · obtain ⟨ys, hy⟩ := hzget j hj
      have h1 := ((h.inner j q' ys hqj hy).own.ge g e').1
      have h2 := hu.lt g e
      omega
    · omega
  · intro j q hq g e
    rcases hget j q hq with ⟨hj, hqj⟩ | ⟨hj, rfl⟩
    · obtain ⟨ys, hy⟩ := hzget j hj
      exact .inr ((h.inner j q ys hqj hy).own.ge g e).1
    · exact .inl (hu.lt g e)
/-- append(s, x) of rows: s of the call's own, x laid before. -/
theorem wpList_append_SB {P : Program} {w : World} {ops : Array Oper} {rest : List Oper} {o : Oper} {a : Act} {Q : Exit → Act → World → Prop} (hgd : o.guard = none) (s x : Operand) (t : TypeId)
    (ho : o.op = .call { callee := .builtin .append, args := #[s, x], argTypes := #[t, t] })
    (ht : P.underlying t = some (.slice 23)) (hinfo : (P.info? 23).map (fun i => (i.zero, i.size, i.bytes)) = some (some (.slice none 0 0), 1, 24))
    (a0 b0 lo hi : Nat) (v : Value) (zss : List (List Int)) (hs : a.eval s = v) (hown : OwnS w lo hi v zss) (hlo : lo ≤ hi) (hab : a0 ≤ b0) (hbl : b0 ≤ lo)
    (g c : Nat) (u : Value) (zs : List Int) (hx : a.eval x = .slice (some ⟨g, 0, none⟩) 1 c) (hcell : w.cell? ⟨g, 0, none⟩ = some u) (hg : hi ≤ w.heap.size) (hu : OwnI w a0 b0 u zs) (hlen : zss.length ≤ 1000000)
    (h : ∀ v' w', OwnSH w' a0 w'.heap.size b0 lo v' (zss ++ [zs]) → Below lo w w' → wpList P ops Q rest (a.put o.dst v') w') : wpList P ops Q (o :: rest) a w := by
  obtain ⟨vs, hvs⟩ := hown
  obtain ⟨A, cu, rfl, _⟩ := hu.rd
  refine wpList_append_one hgd s x t ho lo 23 (.slice none 0 0) 24 ht hinfo (by omega) rfl v zss.length vs hs hvs.row g c (.slice A zs.length cu) hx hcell rfl (by omega) (by omega) ?_
  intro v' w' hrow hgr _
  exact h v' w' (hvs.snocB hu hab hbl (fun k hk hne => hgr.block k hk hne) hrow) (below_of_only hgr (by omega) (fun k hk => (hvs.row.lt k hk).1))
theorem OwnS.ahead {w : World} {lo hi hi' m n : Nat} {v : Value} {zss : List (List Int)} (h : OwnS w lo hi v zss) (hm : hi ≤ m) (hh : hi ≤ hi') : OwnSH w lo hi' m n v zss := by
  obtain ⟨vs, h⟩ := h
  refine ⟨vs, ⟨h.len, h.row, fun g hg => Nat.lt_of_lt_of_le (h.lt g hg) hh, fun j u zs hu hz => (h.inner j u zs hu hz).widen hh, h.apart⟩, fun g hg => .inl (Nat.lt_of_lt_of_le (h.lt g hg) hm), fun j u hu g hg => ?_⟩
  have hj : j < zss.length := by
    rw [← h.len]
    rcases Nat.lt_or_ge j vs.length with h' | h'
    · exact h'
    · rw [List.getElem?_eq_none h'] at hu; cases hu
  exact .inl (Nat.lt_of_lt_of_le ((h.inner j u _ hu (List.getElem?_eq_getElem hj)).lt g hg) hm)
set_option maxHeartbeats 1000000 in
theorem nameFor_any (nm : Int) (B : Option Addr) (d : Nat) (v : Value) (ws zs : List Int) (w : World) (hnm : InK .i64 nm) (hw : 1 ≤ ws.length) (h0 : RdI w (.slice B ws.length d) ws) (h1 : RdI w v zs) (hl1 : zs.length ≤ 100000) :
    Calls Try.prog 98 #[.slice B ws.length d, .int .i64 nm, v] w fun e w' => ∃ u, e = .returned u ∧ OwnI w' w.heap.size w'.heap.size u (repR ws nm zs) ∧ Below w.heap.size w w' := by
  have H := Lib.hid (And.intro h0 h1); clear h0
  obtain ⟨A1, c1, rfl, _⟩ := h1
  have hrl := rep_len hw nm zs.length zs (Nat.le_refl _)
  go_enter Try.func98, Try.ntmps98
  go_wp2
  go_loopw [2, 7] (fun pv q wr => ∃ (A : Option Addr) (c : Nat) (rs done : List Int), pv = .slice A rs.length c ∧ rs.length ≤ zs.length ∧ w.heap.size ≤ wr.heap.size ∧ Below w.heap.size w wr ∧ RdI w (.slice A rs.length c) rs ∧ OwnI wr w.heap.size wr.heap.size q done ∧ done ++ repR ws nm rs = repR ws nm zs) (fun pv _ _ => lenV pv)
  case atStart => exact ⟨A1, c1, zs, [], rfl, Nat.le_refl _, Nat.le_refl _, Below.refl _ _, H.out.2, nilOwn _ _ _, rfl⟩
  case round =>
    obtain ⟨A, c, rs, done, rfl, hrs, hsz, hbk, hrd, hown, heq⟩ := hrel
    have hdl : done.length ≤ zs.length := by have := congrArg List.length heq; rw [List.length_append] at this; omega
    have X := Lib.hid (And.intro hbk (And.intro hrd hown)); clear hbk hrd hown
    by_cases hlt : 0 < rs.length
    · have hltI : (0 : Int) < rs.length := by omega
      have hrw : RdI wr (.slice A rs.length c) rs := RdI.step X.out.2.1 X.out.1
      obtain ⟨b, off, rfl, hb, hc⟩ := hrw.some9 (by omega)
      have R := Lib.hid (And.intro hrw (H.out.1.step X.out.1)); clear hrw
      rcases hbg : bgB ws rs with _ | _
      · rcases rs with _ | ⟨z, r⟩
        · simp at hlt
        rw [rep_miss nm hbg] at heq
        have hwf := R.out.1.wf z (by simp)
        have hcell : wr.cell? ⟨b, off, none⟩ = some (.int .i64 z) := by
          obtain ⟨_, _, e, hi, _⟩ := R.out.1
          cases e
          obtain ⟨b', off', e, _, hcc⟩ := hi.at_ (by simp)
          cases e
          have := hcc 0 (by simp)
          simpa using this
        have hrd1 : RdI w (.slice (some ⟨b, off + 1, none⟩) r.length (c - 1)) r := by
          have := RdI.from9 X.out.2.1 1 (by simp)
          simpa using this
        have hnil1 : r = [] → RdI w (.slice (some ⟨b, off, none⟩) r.length (c - 1)) r := fun e => by subst e; exact ⟨_, _, rfl, IntsK.nil _ _ _ _, Nat.zero_le _⟩
        have HB := Lib.hid (And.intro hbg (And.intro heq (And.intro hwf (And.intro hrd1 hnil1)))); clear hbg heq hwf hrd1 hnil1
        rw [List.length_cons] at hc hrs hlt hltI
        have hrlen : (z :: r).length = r.length + 1 := List.length_cons
        have HRL := Lib.hid hrlen; clear hrlen
        go_wp2_with fail
        refine (beginsWith_any _ B c d (z :: r) ws wr hw R.out.1 R.out.2 false HB.out.1).mono ?_
        rintro e w2 ⟨rfl, hq2⟩
        have hb2 : Below wr.heap.size wr w2 := quiet_below hq2
        have hz2 : wr.heap.size ≤ w2.heap.size := hb2.size
        have hcell2 := (hb2.cell (p := ⟨b, off, none⟩) hb).trans hcell
        have Y := Lib.hid (And.intro (X.out.1.trans (hb2.mono hsz)) (X.out.2.2.below hb2 |>.widen hz2)); clear hb2 hq2 hcell
        rw [HRL.out]
        go_wp2_with (at_builtin; refine wpList_append_z rfl _ _ _ rfl Try.underlying23 intInfo z rfl HB.out.2.2.1 w.heap.size w2.heap.size _ done rfl Y.out.2 (by omega) rfl (by omega) ?_)
        intro v3 w3 ho3 hb3 _
        have hz3 : w.heap.size ≤ w3.heap.size := by have := hb3.size; omega
        have heq2 : (done ++ [z]) ++ repR ws nm r = repR ws nm zs := by rw [← HB.out.2.1]; simp
        have Z := Lib.hid (And.intro (Y.out.1.trans hb3) (And.intro ho3 heq2)); clear ho3 hb3 heq2
        by_cases hc1 : c = 1
        · have hr0 : r = [] := List.eq_nil_of_length_eq_zero (by omega)
          subst hr0
          subst hc1
          go_wp2
          go_roundw
          case rel => exact ⟨some ⟨b, off, none⟩, 0, [], done ++ [z], rfl, by simp, hz3, Z.out.1, HB.out.2.2.2.2 rfl, Z.out.2⟩
          case measure => simp [lenV]
        · have hc2 : 1 < c := by omega
          go_wp2
          go_roundw
          case rel => exact ⟨some ⟨b, off + 1, none⟩, c - 1, r, done ++ [z], by first | rfl | simp, by omega, hz3, Z.out.1, HB.out.2.2.2.1, Z.out.2⟩
          case measure => simp [lenV]
      · have hbl := bg_len hbg
        rw [rep_hit hw nm hbg] at heq
        have hrd1 : RdI w (.slice (some ⟨b, off + ws.length, none⟩) (rs.length - ws.length) (c - ws.length)) (rs.drop ws.length) := RdI.from9 X.out.2.1 ws.length hbl
        have hdln : (rs.drop ws.length).length = rs.length - ws.length := List.length_drop
        rw [← hdln] at hrd1
        have hnil1 : rs.length = ws.length → RdI w (.slice (some ⟨b, off, none⟩) (rs.drop ws.length).length 0) (rs.drop ws.length) := fun e => by
          rw [List.drop_eq_nil_of_le (by omega)]
          exact ⟨_, _, rfl, IntsK.nil _ _ _ _, Nat.zero_le _⟩
        have HB := Lib.hid (And.intro hbg (And.intro heq (And.intro hdln (And.intro hrd1 hnil1)))); clear hbg heq hdln hrd1 hnil1
        have hblI : (ws.length : Int) ≤ rs.length := by omega
        go_wp2_with fail
        refine (beginsWith_any _ B c d rs ws wr hw R.out.1 R.out.2 true HB.out.1).mono ?_
        rintro e w2 ⟨rfl, hq2⟩
        have hb2 : Below wr.heap.size wr w2 := quiet_below hq2
        have hz2 : wr.heap.size ≤ w2.heap.size := hb2.size
        have Y := Lib.hid (And.intro (X.out.1.trans (hb2.mono hsz)) (X.out.2.2.below hb2 |>.widen hz2)); clear hb2 hq2
        go_wp2_with (at_builtin; refine wpList_append_z rfl _ _ _ rfl Try.underlying23 intInfo nm rfl hnm w.heap.size w2.heap.size _ done rfl Y.out.2 (by omega) rfl (by omega) ?_)
        intro v3 w3 ho3 hb3 _
        have hz3 : w.heap.size ≤ w3.heap.size := by have := hb3.size; omega
        have heq2 : (done ++ [nm]) ++ repR ws nm (rs.drop ws.length) = repR ws nm zs := by rw [← HB.out.2.1]; simp
        have Z := Lib.hid (And.intro (Y.out.1.trans hb3) (And.intro ho3 heq2)); clear ho3 hb3 heq2
        by_cases hc1 : c = ws.length
        · have hr0 : rs.length = ws.length := by omega
          have HR0 := Lib.hid hr0; clear hr0
          subst hc1
          go_wp2
          go_roundw
          case rel => exact ⟨some ⟨b, off, none⟩, 0, rs.drop ws.length, done ++ [nm], by (have h9 : rs.length - ws.length = 0 := by have := HR0.out; omega); rw [HB.out.2.2.1, h9], by rw [HB.out.2.2.1]; omega, hz3, Z.out.1, HB.out.2.2.2.2 HR0.out, Z.out.2⟩
          case measure => simp [lenV]; omega
        · have hc2 : ws.length < c := by omega
          go_wp2
          go_roundw
          case rel => exact ⟨some ⟨b, off + ws.length, none⟩, c - ws.length, rs.drop ws.length, done ++ [nm], by rw [HB.out.2.2.1], by rw [HB.out.2.2.1]; omega, hz3, Z.out.1, HB.out.2.2.2.1, Z.out.2⟩
          case measure => simp [lenV]; omega
    · have hr0 : rs = [] := List.eq_nil_of_length_eq_zero (by omega)
      subst hr0
      rw [rep_nil, List.append_nil] at heq
      subst heq
      go_wp2
      go_ret
      exact ⟨_, rfl, X.out.2.2, X.out.1⟩
set_option maxHeartbeats 1000000 in
theorem l9Replace_any (nm : Int) (B : Option Addr) (d : Nat) (v : Value) (ws zs : List Int) (w : World) (hnm : InK .i64 nm) (hw : 1 ≤ ws.length) (hwl : ws.length ≤ 1000000) (h0 : RdI w (.slice B ws.length d) ws) (h1 : RdI w v zs) (hl1 : zs.length ≤ 100000) :
    Calls Try.prog 102 #[v, .slice B ws.length d, .int .i64 nm] w fun e w' => ∃ u, e = .returned u ∧ OwnI w' w.heap.size w'.heap.size u (repR ws nm zs) ∧ Below w.heap.size w w' := by
  have H := Lib.hid (And.intro h0 h1); clear h0
  obtain ⟨A1, c1, rfl, hi1, _⟩ := h1
  have HJ := Lib.hid hi1; clear hi1
  have hrl := rep_len hw nm zs.length zs (Nat.le_refl _)
  have L0 := Lib.hid (nilLit w)
  go_enter Try.func102, Try.ntmps102
  go_wp2
  go_loopw [7, 8] (fun q i wr => ∃ (k : Nat) (done : List Int), k ≤ zs.length ∧ i = .int .i64 k ∧ w.heap.size ≤ wr.heap.size ∧ Below w.heap.size w wr ∧ OwnI wr w.heap.size wr.heap.size q done ∧ done ++ repR ws nm (zs.drop k) = repR ws nm zs) (fun _ i _ => zs.length - (intOf i).toNat)
  case atStart => exact ⟨0, [], Nat.zero_le _, rfl, by simp, L0.out.2, L0.out.1, rfl⟩
  case round =>
    clear L0
    obtain ⟨k, done, hk, rfl, hsz, hbk, hown, heq⟩ := hrel
    have hdl : done.length ≤ zs.length := by have := congrArg List.length heq; rw [List.length_append] at this; omega
    have X := Lib.hid (And.intro hbk hown); clear hbk hown
    by_cases hlt : k < zs.length
    · have hkI : (k : Int) < zs.length := by omega
      obtain ⟨b, off, rfl, hb, hcc⟩ := HJ.out.at_ (by omega)
      have hcell := (X.out.1.cell (p := ⟨b, off + k, none⟩) hb).trans (hcc k hlt)
      have hwf := HJ.out.wf (zs.getD k 0) (by simp [List.getD, List.getElem?_eq_getElem hlt])
      have R := Lib.hid (And.intro (H.out.1.step X.out.1) (H.out.2.step X.out.1))
      have hdc : zs.drop k = zs.getD k 0 :: zs.drop (k + 1) := by rw [List.drop_eq_getElem_cons hlt]; simp [List.getD, List.getElem?_eq_getElem hlt]
      clear hcc
      rcases hbg : bgB ws (zs.drop k) with _ | _
      · have hmiss : repR ws nm (zs.drop k) = zs.getD k 0 :: repR ws nm (zs.drop (k + 1)) := by rw [hdc] at hbg ⊢; exact rep_miss nm hbg
        rw [hmiss] at heq
        have heq2 : (done ++ [zs.getD k 0]) ++ repR ws nm (zs.drop (k + 1)) = repR ws nm zs := by rw [← heq]; simp
        have HB := Lib.hid (And.intro hbg (And.intro heq2 hwf)); clear hbg heq heq2 hwf hmiss hdc
        generalize zs.getD k 0 = z at *
        go_wp2_with fail
        refine (l9At_any _ B c1 d k zs ws wr hw (by omega) hk (by omega) R.out.2 R.out.1 false HB.out.1).mono ?_
        rintro e w2 ⟨rfl, hq2⟩
        have hb2 : Below wr.heap.size wr w2 := quiet_below hq2
        have hz2 : wr.heap.size ≤ w2.heap.size := hb2.size
        have hcell2 := (hb2.cell (p := ⟨b, off + k, none⟩) (by show b < _; omega)).trans hcell
        have Y := Lib.hid (And.intro (X.out.1.trans (hb2.mono hsz)) (X.out.2.below hb2 |>.widen hz2)); clear hb2 hq2 hcell
        go_wp2_with (at_builtin; refine wpList_append_z rfl _ _ _ rfl Try.underlying23 intInfo z rfl HB.out.2.2 w.heap.size w2.heap.size _ done rfl Y.out.2 (by omega) rfl (by omega) ?_)
        intro v3 w3 ho3 hb3 _
        have hz3 : w.heap.size ≤ w3.heap.size := by have := hb3.size; omega
        have Z := Lib.hid (And.intro (Y.out.1.trans hb3) ho3); clear ho3 hb3
        go_wp2
        go_roundw
        case rel => exact ⟨k + 1, done ++ [z], by omega, by go_num, hz3, Z.out.1, Z.out.2, HB.out.2.1⟩
        case measure => simp [intOf]; omega
      · have hbl := bg_len hbg
        rw [List.length_drop] at hbl
        rw [rep_hit hw nm hbg, List.drop_drop] at heq
        have heq2 : (done ++ [nm]) ++ repR ws nm (zs.drop (k + ws.length)) = repR ws nm zs := by rw [← heq]; simp
        have HB := Lib.hid (And.intro hbg heq2); clear hbg heq heq2 hwf hdc
        go_wp2_with fail
        refine (l9At_any _ B c1 d k zs ws wr hw (by omega) hk (by omega) R.out.2 R.out.1 true HB.out.1).mono ?_
        rintro e w2 ⟨rfl, hq2⟩
        have hb2 : Below wr.heap.size wr w2 := quiet_below hq2
        have hz2 : wr.heap.size ≤ w2.heap.size := hb2.size
        have Y := Lib.hid (And.intro (X.out.1.trans (hb2.mono hsz)) (X.out.2.below hb2 |>.widen hz2)); clear hb2 hq2 hcell
        go_wp2_with (at_builtin; refine wpList_append_z rfl _ _ _ rfl Try.underlying23 intInfo nm rfl hnm w.heap.size w2.heap.size _ done rfl Y.out.2 (by omega) rfl (by omega) ?_)
        intro v3 w3 ho3 hb3 _
        have hz3 : w.heap.size ≤ w3.heap.size := by have := hb3.size; omega
        have Z := Lib.hid (And.intro (Y.out.1.trans hb3) ho3); clear ho3 hb3
        go_wp2
        go_roundw
        case rel => exact ⟨k + ws.length, done ++ [nm], by omega, by go_num, hz3, Z.out.1, Z.out.2, HB.out.2⟩
        case measure => simp [intOf]; omega
    · rw [List.drop_eq_nil_of_le (by omega), rep_nil, List.append_nil] at heq
      subst heq
      go_wp2
      go_ret
      exact ⟨_, rfl, X.out.2, X.out.1⟩
theorem give_no {d : List (List Int)} {p y : List Int} (h : twiceR d p = (y, false)) : giveR d p = ([], [], false) := by
  unfold giveR; rw [h]; simp
theorem give_yes {d : List (List Int)} {p y : List Int} (h : twiceR d p = (y, true)) : giveR d p = if d.length < 6 then (d ++ [y], repR y (1101 + (d.length : Int)) p, true) else ([], [], false) := by
  unfold giveR; rw [h]; simp
theorem twice_lens {d : List (List Int)} {p y : List Int} (h : twiceR d p = (y, true)) : usesOkB d p = true ∧ 2 ≤ y.length ∧ y.length ≤ 60 ∧ p.length ≤ 60 ∧ d.length ≤ 6 ∧ ∀ r ∈ d, r.length ≤ 60 := by
  obtain ⟨hu, m, a, he, hm, ht⟩ := twice_some (d := d) (p := p) (by rw [h])
  rw [h] at he
  dsimp only at he
  have hu2 := hu
  simp only [usesOkB, Bool.and_eq_true] at hu2
  have hp := uses_len hu2.2
  have hd := dictB_parts hu2.1
  simp only [twI, Bool.and_eq_true, decide_eq_true_eq] at ht
  have hl := wds_len (p := p) (m := m) (a := a) (by omega)
  rw [← he] at hl
  refine ⟨hu, by omega, by omega, hp, hd.1, fun r hr => ?_⟩
  obtain ⟨j, hj, rfl⟩ := List.mem_iff_getElem.1 hr
  exact uses_len (dict_get hd.2 (List.getElem?_eq_getElem hj))
theorem twice_nil {d : List (List Int)} {p y : List Int} (h : twiceR d p = (y, false)) : y = [] := by
  unfold twiceR at h
  split at h
  · rcases ht : twiceAtR p with _ | ⟨m, a⟩
    · rw [ht] at h; cases h; rfl
    · rw [ht] at h; cases h
  · cases h; rfl
set_option maxHeartbeats 1000000 in
theorem GiveName_I (v0 : Value) (x0 : List (List Int)) (v1 : Value) (x1 : List Int) (w : World) (h0 : RdS w v0 x0) (hl0 : x0.length ≤ 1048576) (hls0 : szS x0 ≤ 1048576) (h1 : RdI w v1 x1) (hl1 : x1.length ≤ 1048576) (y0 : List (List Int)) (y1 : List Int) (y2 : Bool) (hR : giveR x0 x1 = (y0, y1, y2)) :
    Calls Try.prog 40 #[v0, v1] w (BackPost w y0 y1 y2) := by
  have H := Lib.hid (And.intro h0 h1); clear h1
  obtain ⟨A, c, rfl, hat⟩ := h0
  have HR := Lib.hid hR; clear hR
  rcases hT : twiceR x0 x1 with ⟨z0, z1⟩
  have HT := Lib.hid hT; clear hT
  rcases z1 with _ | _
  · obtain ⟨rfl, rfl, rfl⟩ : [] = y0 ∧ [] = y1 ∧ false = y2 := by have := HR.out; rw [give_no HT.out] at this; cases this; exact ⟨rfl, rfl, rfl⟩
    go_enter Try.func40, Try.ntmps40
    go_wp2_with fail
    refine (TwiceOf_I _ x0 _ x1 _ H.out.1 hl0 hls0 H.out.2 hl1 z0 false HT.out).mono ?_
    rintro e w1 ⟨u, rfl, ho, hb⟩
    have hfin : BackPost w [] [] false (.returned (.tuple #[.slice none 0 0, .slice none 0 0, .bool false])) w1 := ⟨_, _, rfl, own2_nil _ _ _ hb.size, hb⟩
    have F := Lib.hid hfin; clear hfin hb ho
    go_wp2
    go_ret3
    exact F.out
  obtain ⟨hud, hz2, hz60, hp60, hd6, hr60⟩ := twice_lens HT.out
  have hg := give_yes HT.out
  rw [HR.out] at hg
  have HG := Lib.hid (And.intro hg hr60); clear hg hr60 hud
  go_enter Try.func40, Try.ntmps40
  go_wp2_with fail
  refine (TwiceOf_I _ x0 _ x1 _ H.out.1 hl0 hls0 H.out.2 hl1 z0 true HT.out).mono ?_
  rintro e w1 ⟨u, rfl, ho, hb⟩
  have hz1 := hb.size
  obtain ⟨U, cu, rfl, _⟩ := ho.rd
  have S1 := Lib.hid (And.intro ho (And.intro hb (H.out.2.step hb))); clear ho hb
  by_cases h6 : x0.length < 6
  · have hg := HG.out.1
    rw [if_pos h6] at hg
    obtain ⟨rfl, rfl, rfl⟩ : x0 ++ [z0] = y0 ∧ repR z0 (1101 + (x0.length : Int)) x1 = y1 ∧ true = y2 := by cases hg; exact ⟨rfl, rfl, rfl⟩
    have h6I : ((x0.length : Int) == 6) = false := by rw [beq_eq_false_iff_ne]; omega
    have h6J : (x0.length : Int) ≤ 6 := by omega
    clear hg
    go_wp2_with fail
    refine (nameFor_any (1101 + (x0.length : Int)) U cu _ z0 x1 _ (wf_near _ (by omega)) (by omega) S1.out.1.rd S1.out.2.2 (by omega)).mono ?_
    rintro e w2 ⟨q, rfl, ho, hb⟩
    have hz3 := hb.size
    have S2 := Lib.hid (And.intro (S1.out.1.below hb) (And.intro ho (And.intro (below_after S1.out.2.1 hb) (RdS.step H.out.1 (below_after S1.out.2.1 hb))))); clear ho hb
    go_wp2_with fail
    refine (cloneRows_any _ x0 _ S2.out.2.2.2 (by omega) (fun r hr => by have := HG.out.2 r hr; omega)).mono ?_
    rintro e w3 ⟨t, rfl, ho3, hb3⟩
    have hz4 := hb3.size
    have hbl : Below w3.heap.size w3 (w3.alloc (.cells #[.slice U z0.length cu] 23)) := (Below.refl _ _).alloc (Nat.le_refl _) _
    have S3 := Lib.hid (And.intro (ho3.belowB hbl (Nat.le_refl _)) (And.intro ((S2.out.1.below hb3).belowB hbl (by omega)) (And.intro ((S2.out.2.1.below hb3).belowB hbl (by omega)) (And.intro ((below_after S2.out.2.2.1 hb3).trans (hbl.mono (by omega))) (lit_row w3 (.slice U z0.length cu)))))); clear ho3 hb3 hbl
    have hzl : (w3.alloc (.cells #[.slice U z0.length cu] 23)).heap.size = w3.heap.size + 1 := by simp
    go_wp2_with (at_builtin; refine wpList_append_SB rfl _ _ _ rfl Try.underlying51 rowInfo w.heap.size w1.heap.size w2.heap.size w3.heap.size _ x0 rfl S3.out.1 hz4 hz1 hz3 w3.heap.size 1 _ z0 rfl S3.out.2.2.2.2 (by omega) S3.out.2.1 (by omega) ?_)
    intro v5 w5 ho5 hb5
    have hz5 : w2.heap.size ≤ w5.heap.size := by have := hb5.size; omega
    have hfin : BackPost w (x0 ++ [z0]) (repR z0 (1101 + (x0.length : Int)) x1) true (.returned (.tuple #[v5, q, .bool true])) w5 :=
      ⟨_, _, rfl, ⟨w1.heap.size, w2.heap.size, hz1, hz3, hz5, ho5, S3.out.2.2.1.belowB hb5 (Nat.le_refl _)⟩, S3.out.2.2.2.1.trans (hb5.mono (by omega))⟩
    have F := Lib.hid hfin; clear hfin ho5 hb5
    go_wp2
    go_ret3
    exact F.out
  · have hg := HG.out.1
    rw [if_neg h6] at hg
    obtain ⟨rfl, rfl, rfl⟩ : [] = y0 ∧ [] = y1 ∧ false = y2 := by cases hg; exact ⟨rfl, rfl, rfl⟩
    have h6I : ((x0.length : Int) == 6) = true := by rw [beq_iff_eq]; omega
    clear hg
    have hfin : BackPost w [] [] false (.returned (.tuple #[.slice none 0 0, .slice none 0 0, .bool false])) w1 := ⟨_, _, rfl, own2_nil _ _ _ hz1, S1.out.2.1⟩
    have F := Lib.hid hfin; clear hfin
    go_wp2
    go_ret3
    exact F.out
set_option maxHeartbeats 1000000 in
theorem GiveName_S (v0 : Value) (x0 : List (List Int)) (v1 : Value) (x1 : List Int) (w : World) (h0 : RdS w v0 x0) (hl0 : x0.length ≤ 1048576) (hls0 : szS x0 ≤ 1048576) (h1 : RdI w v1 x1) (hl1 : x1.length ≤ 1048576) (y0 : List (List Int)) (y1 : List Int) (y2 : Bool) (hR : giveR x0 x1 = (y0, y1, y2)) :
    Calls Try.prog 41 #[v0, v1] w (BackPost w y0 y1 y2) := by
  have H := Lib.hid (And.intro h0 h1); clear h1
  obtain ⟨A, c, rfl, hat⟩ := h0
  have HR := Lib.hid hR; clear hR
  rcases hT : twiceR x0 x1 with ⟨z0, z1⟩
  have HT := Lib.hid hT; clear hT
  rcases z1 with _ | _
  · obtain ⟨rfl, rfl, rfl⟩ : [] = y0 ∧ [] = y1 ∧ false = y2 := by have := HR.out; rw [give_no HT.out] at this; cases this; exact ⟨rfl, rfl, rfl⟩
    go_enter Try.func41, Try.ntmps41
    go_wp2_with fail
    refine (TwiceOf_S _ x0 _ x1 _ H.out.1 hl0 hls0 H.out.2 hl1 z0 false HT.out).mono ?_
    rintro e w1 ⟨u, rfl, ho, hb⟩
    have F := Lib.hid (own2_lits hb); clear hb ho
    go_wp2
    go_ret3
    exact ⟨_, _, rfl, F.out⟩
  obtain ⟨hud, hz2, hz60, hp60, hd6, hr60⟩ := twice_lens HT.out
  have hg := give_yes HT.out
  rw [HR.out] at hg
  have HG := Lib.hid (And.intro hg hr60); clear hg hr60 hud
  go_enter Try.func41, Try.ntmps41
  go_wp2_with fail
  refine (TwiceOf_S _ x0 _ x1 _ H.out.1 hl0 hls0 H.out.2 hl1 z0 true HT.out).mono ?_
  rintro e w1 ⟨u, rfl, ho, hb⟩
  have hz1 := hb.size
  obtain ⟨U, cu, rfl, _⟩ := ho.rd
  have S1 := Lib.hid (And.intro ho (And.intro hb (And.intro (H.out.2.step hb) (RdS.step H.out.1 hb)))); clear ho hb
  by_cases h6 : x0.length < 6
  · have hg := HG.out.1
    rw [if_pos h6] at hg
    obtain ⟨rfl, rfl, rfl⟩ : x0 ++ [z0] = y0 ∧ repR z0 (1101 + (x0.length : Int)) x1 = y1 ∧ true = y2 := by cases hg; exact ⟨rfl, rfl, rfl⟩
    have h6I : ¬ (6 : Int) ≤ (x0.length : Int) := by omega
    have h6J : (x0.length : Int) ≤ 6 := by omega
    clear hg
    go_wp2_with fail
    refine (l2Copy_any _ x0 _ S1.out.2.2.2 (by omega) (fun r hr => by have := HG.out.2 r hr; omega)).mono ?_
    rintro e w3 ⟨t, rfl, ho3, hb3⟩
    have hz4 := hb3.size
    have hbl : Below w3.heap.size w3 (w3.alloc (.cells #[.slice U z0.length cu] 23)) := (Below.refl _ _).alloc (Nat.le_refl _) _
    have S3 := Lib.hid (And.intro (ho3.belowB hbl (Nat.le_refl _)) (And.intro ((S1.out.1.below hb3).belowB hbl (by omega)) (And.intro ((S1.out.2.2.1.step hb3).step hbl) (And.intro ((below_after S1.out.2.1 hb3).trans (hbl.mono (by omega))) (lit_row w3 (.slice U z0.length cu)))))); clear ho3 hb3 hbl
    have hzl : (w3.alloc (.cells #[.slice U z0.length cu] 23)).heap.size = w3.heap.size + 1 := by simp
    go_wp2_with (at_builtin; refine wpList_append_SB rfl _ _ _ rfl Try.underlying51 rowInfo w.heap.size w1.heap.size w1.heap.size w3.heap.size _ x0 rfl S3.out.1 hz4 hz1 (Nat.le_refl _) w3.heap.size 1 _ z0 rfl S3.out.2.2.2.2 (by omega) S3.out.2.1 (by omega) ?_)
    intro v5 w5 ho5 hb5
    have hz5 : w1.heap.size ≤ w5.heap.size := by have := hb5.size; omega
    have S5 := Lib.hid (And.intro ho5.own (And.intro (S3.out.2.1.belowB hb5 (Nat.le_refl _)) (S3.out.2.2.2.1.trans (hb5.mono (by omega))))); clear ho5 hb5
    have hx1 : RdI w5 v1 x1 := RdI.step H.out.2 S5.out.2.2
    go_wp2_with fail
    refine (l9Replace_any (1101 + (x0.length : Int)) U cu _ z0 x1 _ (wf_near _ (by omega)) (by omega) (by omega) S5.out.2.1.rd hx1 (by omega)).mono ?_
    rintro e w6 ⟨q, rfl, ho6, hb6⟩
    have hz6 := hb6.size
    have hfin : BackPost w (x0 ++ [z0]) (repR z0 (1101 + (x0.length : Int)) x1) true (.returned (.tuple #[v5, q, .bool true])) w6 :=
      ⟨_, _, rfl, ⟨w5.heap.size, w6.heap.size, by omega, hz6, Nat.le_refl _, (S5.out.1.below hb6).ahead (Nat.le_refl _) hz6, ho6⟩, S5.out.2.2.trans (hb6.mono (by omega))⟩
    have F := Lib.hid hfin; clear hfin ho6 hb6 hx1
    go_wp2
    go_ret3
    exact F.out
  · have hg := HG.out.1
    rw [if_neg h6] at hg
    obtain ⟨rfl, rfl, rfl⟩ : [] = y0 ∧ [] = y1 ∧ false = y2 := by cases hg; exact ⟨rfl, rfl, rfl⟩
    have h6I : (6 : Int) ≤ (x0.length : Int) := by omega
    clear hg
    have F := Lib.hid (own2_lits S1.out.2.1)
    go_wp2
    go_ret3
    exact ⟨_, _, rfl, F.out⟩
theorem szS_rows : ∀ (l : List (List Int)), (∀ zs ∈ l, zs.length ≤ 60) → szS l ≤ 60 * l.length := by
  intro l
  induction l with
  | nil => intro _; simp [szS]
  | cons z r ih =>
    intro h
    have a1 := h z List.mem_cons_self
    have a2 := ih (fun zs hz => h zs (List.mem_cons_of_mem _ hz))
    rw [szS, List.length_cons]; omega
theorem giveR_szS (d : List (List Int)) (p : List Int) : szS (giveR d p).1 ≤ 1000000 := by
  rcases hT : twiceR d p with ⟨y, b⟩
  rcases b with _ | _
  · rw [give_no hT]; simp [szS]
  · obtain ⟨_, _, hy, _, hd, hr⟩ := twice_lens hT
    rw [give_yes hT]
    split
    · have := szS_rows (d ++ [y]) (fun zs hz => by
        rcases List.mem_append.1 hz with h | h
        · exact hr zs h
        · simp at h; subst h; exact hy)
      rw [List.length_append] at this
      simp at this
      show szS (d ++ [y]) ≤ _
      omega
    · simp [szS]
theorem giveR_szI (d : List (List Int)) (p : List Int) : szI (giveR d p).2.1 ≤ 1000000 := by
  rcases hT : twiceR d p with ⟨y, b⟩
  rcases b with _ | _
  · rw [give_no hT]; simp [szI]
  · obtain ⟨_, h2, hy, hp, hd, hr⟩ := twice_lens hT
    rw [give_yes hT]
    split
    · have := rep_len (ws := y) (by omega) (1101 + (d.length : Int)) p.length p (Nat.le_refl _)
      show (repR y (1101 + (d.length : Int)) p).length ≤ _
      omega
    · simp [szI]
end Go.Proofs.Ytaehaalaeikloaa
