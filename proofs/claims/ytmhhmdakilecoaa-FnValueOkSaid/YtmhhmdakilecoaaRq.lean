/- The program's runner: the contract of quoted. -/
import Derived.Test.YtmhhmdakilecoaaRp
import Derived.Test.YtmhhmdakilecoaaDa
namespace Go.Proofs.Ytmhhmdakilecoaa
set_option maxRecDepth 100000
open Go.RowKit Go.WideShapes

theorem apt_hi {w w' : World} {g k hi : Nat} (h : Apt w g k) (hb : Below hi w w') (hk : k < hi) (hg : g < hi) : Apt w' g k ∧ w'.heap[k]? = w.heap[k]? := by
  obtain ⟨h1, h2, h3⟩ := h
  exact ⟨⟨h1.of_eq (hb.block k hk), h2, fun vr vs hblk => h3 vr vs ((hb.block g hg).symm.trans hblk)⟩, hb.block k hk⟩
theorem Keeps.hi {w0 w w' : World} {lo g : Nat} (h : Keeps lo g w0 w) (hb : Below w0.heap.size w w') (hg : g < w0.heap.size) (hlo : lo ≤ w0.heap.size) : Keeps lo g w0 w' :=
  ⟨h.below.trans (hb.mono hlo), fun k hk => by
    obtain ⟨h1, h2⟩ := h.apt k hk
    obtain ⟨h3, h4⟩ := apt_hi h1 hb hk.1.lt hg
    exact ⟨h3, h4.trans h2⟩⟩
theorem RunAt.hi {w w' : World} {lo g hi : Nat} {vr vs : Value} {us : List Value} {rest : List Int} {st : List (List Int)} (h : RunAt w lo g vr vs us rest st) (hb : Below hi w w') (hg : g < hi) (h1 : ∀ k, vr.ownBlock = some k → k < hi) (h2 : ∀ k, vs.ownBlock = some k → k < hi)
    (h3 : ∀ (j : Nat) u zs, us[j]? = some u → st.reverse[j]? = some zs → zs = [] ∨ ∃ k, u.ownBlock = some k ∧ k < hi) : RunAt w' lo g vr vs us rest st := by
  refine ⟨h.blk.below hb hg, h.ge, ownsRow_keep h.words fun k hk => hb.block k (h1 k hk), h.wf, h.len, ownsRow_keep h.vals fun k hk => hb.block k (h2 k hk), fun j u zs hu hz => ?_⟩
  obtain ⟨v1, v2⟩ := h.inner j u zs hu hz
  rcases v2 with h0 | ⟨k, hk, ha⟩
  · exact ⟨v1.kept hb.size (.inl h0), .inl h0⟩
  · rcases h3 j u zs hu hz with h0 | ⟨k', hk', hlt⟩
    · exact ⟨v1.kept hb.size (.inl h0), .inl h0⟩
    · obtain rfl : k = k' := by rw [hk] at hk'; exact Option.some.inj hk'
      obtain ⟨h4, h5⟩ := apt_hi ha hb hlt hg
      exact ⟨v1.kept hb.size (.inr ⟨k, hk, h5⟩), .inr ⟨k, hk, h4⟩⟩

def QRel (lo g : Nat) (rest : List Int) (n : Nat) (st : List (List Int)) (w : World) (vr vs : Value) (us : List Value) (v o : Value) (wr : World) : Prop := ∃ (k : Nat) (x : Int) (vr' : Value) (A : Option Addr) (c : Nat), k ≤ n ∧ v = .slice A (k + 1) c ∧ o = .int .i64 x ∧ x ≤ k + 1 ∧ ((1 ≤ x ∧ ∃ m, cutAt x (rest.drop k) = some m ∧ k + m = n) ∨ (x = 0 ∧ k = n)) ∧ w.heap.size ≤ wr.heap.size ∧
    RunAt wr lo g vr' vs us (rest.drop k) st ∧ vr'.ownBlock = vr.ownBlock ∧ Keeps lo g w wr ∧ OwnI wr w.heap.size wr.heap.size v (1012 :: rest.take k)
def QuotedPost (lo g : Nat) (rest : List Int) (n : Nat) (st : List (List Int)) (w : World) (e : Ending) (w' : World) : Prop := ∃ u, e = .returned u ∧ Val w' g u (1012 :: rest.take n) ∧ Run w' lo g (rest.drop n) st ∧ Keeps lo g w w'
theorem quoted_any (lo g : Nat) (rest : List Int) (n : Nat) (st : List (List Int)) (w : World) (h : Run w lo g rest st) (hc : cutAt 1 rest = some n) (hn : n ≤ rest.length) (hl : rest.length ≤ 700000000) :
    Calls Try.prog 104 #[.pointer (some ⟨g, 0, none⟩)] w (QuotedPost lo g rest n st w) := by
  have hlt := h.lt
  have hlo := h.lo
  obtain ⟨vr, vs, us, h⟩ := h
  have f1 : ∀ k, vr.ownBlock = some k → k < w.heap.size := fun k hk => (h.words.lt k hk).2
  have f2 : ∀ k, vs.ownBlock = some k → k < w.heap.size := fun k hk => (h.vals.lt k hk).2
  have f3 : ∀ (j : Nat) u zs, us[j]? = some u → st.reverse[j]? = some zs → zs = [] ∨ ∃ k, u.ownBlock = some k ∧ k < w.heap.size := fun j u zs hu hz => (h.inner j u zs hu hz).1.own_lt
  have hb0 : Below w.heap.size w (w.alloc (.cells #[.int .i64 1012] 3)) := (Below.refl _ _).alloc (Nat.le_refl _) _
  have h1 := h.hi hb0 hlt f1 f2 f3
  have k1 := (Keeps.refl lo g w).hi hb0 hlt hlo
  have o1 := lits_own w [1012] (by simp) (by intro q hq; simp only [List.mem_cons, List.not_mem_nil, or_false] at hq; subst hq; exact wf_near _ (by omega))
  have o1' : OwnI (w.alloc (.cells #[.int .i64 1012] 3)) w.heap.size (w.alloc (.cells #[.int .i64 1012] 3)).heap.size (.slice (some ⟨w.heap.size, 0, none⟩) 1 1) [1012] := by simpa using o1
  have F := Lib.hid (And.intro f1 (And.intro f2 f3))
  have S0 := Lib.hid (And.intro h1 (And.intro k1 o1'))
  have Hc := Lib.hid hc
  clear h hb0 h1 k1 o1 o1' f1 f2 f3 hc
  go_enter Try.func104, Try.ntmps104
  go_wp2
  go_loopw [3, 4] (fun v o wr => QRel lo g rest n st w vr vs us v o wr) (fun v _ _ => n + 2 - lenV v)
  case atStart => exact ⟨0, 1, vr, _, _, by omega, rfl, rfl, by omega, .inl ⟨by omega, n, by simpa using Hc.out, by omega⟩, by simp, by simpa using S0.out.1, rfl, S0.out.2.1, by simpa using S0.out.2.2⟩
  case round =>
    clear S0 Hc
    obtain ⟨k, x, vr', A, c, hk, rfl, rfl, hx, hcut, hsz, hrun, hvr, hkeep, hown⟩ := hrel
    have X := Lib.hid (And.intro hrun (And.intro hvr (And.intro hkeep hown))); clear hrun hvr hkeep hown
    rcases hcut with ⟨hx1, m, hm, hkm⟩ | ⟨rfl, rfl⟩
    · have hkm1 : k + m ≤ n := by omega
      have hkm2 : n ≤ k + m := by omega
      clear hkm
      have hkl : k < rest.length := by
        rcases Nat.lt_or_ge k rest.length with h1 | h1
        · exact h1
        · rw [List.drop_eq_nil_of_le h1] at hm; simp [cutAt] at hm
      have hdr := List.drop_eq_getElem_cons hkl
      rw [cutAt_drop x rest k hkl] at hm
      have hts : 1012 :: rest.take (k + 1) = (1012 :: rest.take k) ++ [rest[k]] := by
        rw [List.take_add_one, List.getElem?_eq_getElem hkl]; rfl
      have hgd : rest.getD k 0 = rest[k] := by simp [List.getD, List.getElem?_eq_getElem hkl]
      rw [hgd] at hm
      have hbd := brk_bd rest[k]
      have hdl : (rest.drop (k + 1)).length ≤ 900000000 := by simp; omega
      generalize rest[k] = z at *
      have Hts := Lib.hid hts; have Hm := Lib.hid hm; clear hts hm hgd
      have hr1 := X.out.1
      rw [hdr] at hr1
      have Hr1 := Lib.hid hr1; clear hr1 hdr
      have hltr := X.out.1.blk.lt
      go_wp2_with fail
      refine (popN_at lo g vr' vs us z (rest.drop (k + 1)) st _ Hr1.out hdl).mono ?_
      rintro e w1 ⟨rfl, hz, ⟨vr2, r1, r2⟩, r3, r4, r5⟩
      have hz5 : wr.heap.size ≤ w1.heap.size := by omega
      have hz6 : w1.heap.size ≤ wr.heap.size := by omega
      have ho1 := X.out.2.2.2.apart r4 (by omega)
      have Y := Lib.hid (And.intro r1 (And.intro (r2.trans X.out.2.1) (And.intro (X.out.2.2.1.trans r3) (And.intro ho1 hz)))); clear r1 r2 r3 r4 r5 ho1 hz Hr1
      have hbl : Below w1.heap.size w1 (w1.alloc (.cells #[.int .i64 z] 3)) := (Below.refl _ _).alloc (Nat.le_refl _) _
      have hlit : RdI (w1.alloc (.cells #[.int .i64 z] 3)) (.slice (some ⟨w1.heap.size, 0, none⟩) 1 1) [z] := by
        have := (lits_own w1 [z] (by simp) (by intro q hq; simp only [List.mem_cons, List.not_mem_nil, or_false] at hq; subst hq; exact Y.out.2.2.2.2)).rd
        simpa using this
      have ho2 : OwnI (w1.alloc (.cells #[.int .i64 z] 3)) w.heap.size wr.heap.size (.slice A (k + 1) c) (1012 :: rest.take k) := Y.out.2.2.2.1.belowB hbl (by omega)
      have L := Lib.hid (And.intro hlit ho2); clear hlit ho2
      have hlk : (1012 :: rest.take k).length + ([z] : List Int).length ≤ 1000000000 := by simp; omega
      have Hlk := Lib.hid hlk; clear hlk
      go_wp2_with (at_builtin; refine wpList_append_V rfl _ _ _ rfl Try.underlying23 intInfo w.heap.size wr.heap.size _ (1012 :: rest.take k) rfl L.out.2 (by simp; omega) _ [z] rfl L.out.1 Hlk.out ?_)
      intro v3 w3 hown3 hb3
      have hs3 := hb3.size
      rw [List.cons_append] at Hts
      rw [← Hts.out] at hown3
      obtain ⟨A3, c3, hv3, _⟩ := hown3.rd
      have hlen3 : (1012 :: rest.take (k + 1)).length = k + 1 + 1 := by simp; omega
      rw [hlen3] at hv3
      subst hv3
      have hbw : Below w.heap.size w1 w3 := (hbl.mono (by omega)).trans hb3
      have Z := Lib.hid (And.intro (Y.out.1.hi hbw hlt (fun q hq => F.out.1 q (by rw [← Y.out.2.1]; exact hq)) F.out.2.1 F.out.2.2) (And.intro Y.out.2.1 (And.intro (Y.out.2.2.1.hi hbw hlt hlo) hown3)))
      clear hown3 hb3 hbw hbl L Y X hlen3
      have hsz3 : w.heap.size ≤ w3.heap.size := by simp at hs3; omega
      go_wp2_with fail
      refine (bracketChange_any z _).mono ?_
      rintro e w' ⟨rfl, rfl⟩
      by_cases h0 : x + brk z = 0
      · have hm1 := Hm.out
        rw [if_pos h0] at hm1
        injection hm1 with hm1
        have hm2 : m ≤ 1 := by omega
        have hm3 : 1 ≤ m := by omega
        clear hm1
        have H0 := Lib.hid h0; clear h0
        go_wp2
        go_roundw
        case rel => exact ⟨k + 1, x + brk z, vr2, A3, c3, by omega, rfl, rfl, by omega, .inr ⟨H0.out, by omega⟩, hsz3, Z.out⟩
        case measure => simp [lenV]; omega
      · have hm1 := Hm.out
        rw [if_neg h0] at hm1
        obtain ⟨m', hm', hmm⟩ := Option.map_eq_some_iff.1 hm1
        have Hm' := Lib.hid hm'
        have hmm1 : m' + 1 ≤ m := by omega
        have hmm2 : m ≤ m' + 1 := by omega
        clear hm1 hm' hmm
        have hmp : 1 ≤ x + brk z := by omega
        go_wp2
        go_roundw
        case rel => exact ⟨k + 1, x + brk z, vr2, A3, c3, by omega, rfl, rfl, by omega, .inl ⟨hmp, m', Hm'.out, by omega⟩, hsz3, Z.out⟩
        case measure => simp [lenV]; omega
    · have hval : Val wr g (.slice A (k + 1) c) (1012 :: rest.take k) := by
        refine ⟨X.out.2.2.2.rd, ?_⟩
        rcases X.out.2.2.2.rd.own_c with h0 | ⟨q, hq, hcq⟩
        · cases h0
        · refine .inr ⟨q, hq, X.out.1.apt hcq ?_ ?_ ?_⟩
          · have := (X.out.2.2.2.own.ge q hq).1; omega
          · intro e'; have h1 := F.out.1 q (by rw [← X.out.2.1]; exact e'); have := (X.out.2.2.2.own.ge q hq).1; omega
          · intro e'; have h1 := F.out.2.1 q e'; have := (X.out.2.2.2.own.ge q hq).1; omega
      have HV := Lib.hid hval; clear hval
      go_wp2
      go_ret
      exact ⟨_, rfl, HV.out, ⟨vr', vs, us, X.out.1⟩, X.out.2.2.1⟩
end Go.Proofs.Ytmhhmdakilecoaa
