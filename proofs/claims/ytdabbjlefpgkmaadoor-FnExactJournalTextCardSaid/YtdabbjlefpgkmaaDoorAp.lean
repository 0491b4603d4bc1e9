/- The laws' helpers on rows of deeds: weighed, copied; what the reader gives of one. -/
import Derived.Test.YtdabbjlefpgkmaaDoorAo
namespace Go.Proofs.YtdabbjlefpgkmaaDoor
set_option maxRecDepth 100000
open Go.RowKit Go.WideShapes Go.ChangeShapes Go.Deep

def texts9 (ds : Deeds) : List (List UInt8) := ds.map (·.2)
theorem texts9_len (ds : Deeds) : (texts9 ds).length = ds.length := by simp [texts9]
theorem szDn_any (n k : Int) (S : ByteArray) (w : World) (h : S.size ≤ 9223372036854775807) (hn : 0 ≤ n ∧ n ≤ 1048576) :
    Calls Tryd.prog 16 #[.agg #[.int .i64 k, .string S], .int .i64 n] w fun e w' => e = .returned (.int .i64 (if n - S.size < 0 then -1 else n - S.size)) ∧ Below w.heap.size w w' := by
  have hb : Below w.heap.size w (w.alloc (.cells #[.int .i64 k, .string S] 33)) := (Below.refl _ _).alloc (Nat.le_refl _) _
  have HB := Lib.hid hb; clear hb
  by_cases hq : n - S.size < 0
  · rw [if_pos hq]
    go_enter Tryd.func16, Tryd.ntmps16
    go_wp2
    go_ret
    exact ⟨rfl, HB.out⟩
  · rw [if_neg hq]
    go_enter Tryd.func16, Tryd.ntmps16
    go_wp2
    go_ret
    exact ⟨rfl, HB.out⟩

set_option maxHeartbeats 1000000 in
theorem szDS_any (v : Value) (ds : Deeds) (n : Int) (w : World) (h : RdD w v ds) (hn : 0 ≤ n ∧ n ≤ 1048576) (hwf : ∀ d ∈ ds, d.2.length ≤ 9223372036854775807) :
    Calls Tryd.prog 23 #[v, .int .i64 n] w fun e w' => e = .returned (.int .i64 (leftX n (texts9 ds))) ∧ Below w.heap.size w w' := by
  obtain ⟨A, c, rfl, hm, hr⟩ := h
  have Hr := Lib.hid hr; clear hr
  have HW := Lib.hid hwf; clear hwf
  by_cases h0 : n - (ds.length : Int) < 0
  · go_enter Tryd.func23, Tryd.ntmps23
    go_wp2
    go_ret
    exact ⟨ret_i64 (by rw [leftX, texts9_len, if_pos h0]), Below.refl _ _⟩
  · have Hq : Hid (leftX n (texts9 ds) = if n - (ds.length : Int) - (szT (texts9 ds) : Int) < 0 then -1 else n - (ds.length : Int) - (szT (texts9 ds) : Int)) := Lib.hid (by rw [leftX, texts9_len, if_neg h0])
    go_enter Tryd.func23, Tryd.ntmps23
    go_wp2
    go_loopw [1, 5] (fun a i wr => ∃ k : Nat, k ≤ ds.length ∧ i = .int .i64 k ∧ a = .int .i64 (n - (ds.length : Int) - (szT ((texts9 ds).take k) : Int)) ∧ 0 ≤ n - (ds.length : Int) - (szT ((texts9 ds).take k) : Int) ∧ Below w.heap.size w wr) (fun _ i _ => ds.length - (intOf i).toNat)
    case atStart => exact ⟨0, Nat.zero_le _, rfl, by simp [szT], by simp [szT]; omega, Below.refl _ _⟩
    case round =>
      obtain ⟨k, hk, rfl, rfl, hq, hbk⟩ := hrel
      have hzk := hbk.size
      by_cases hlt : k < ds.length
      · obtain ⟨b, off, rfl, hb, hc⟩ := Hr.out (by omega)
        obtain ⟨d, hd⟩ : ∃ d, ds[k]? = some d := ⟨_, List.getElem?_eq_getElem hlt⟩
        obtain ⟨q0, q1⟩ := hc k d hd
        have q0 := (hbk.cell (p := ⟨b, off + k * 2, none⟩) hb).trans q0
        have q1 := (hbk.cell (p := ⟨b, off + k * 2 + 1, none⟩) hb).trans q1
        have hts : (texts9 ds)[k]? = some d.2 := by simp [texts9, hd]
        have Hs := Lib.hid (szT_take_succ hts)
        have Hle := Lib.hid (szT_take_le (texts9 ds) (k + 1))
        have hSm := HW.out d (List.mem_of_getElem? hd)
        obtain ⟨d1, d2⟩ := d
        dsimp only at q0 q1 hSm Hs
        obtain ⟨S, hS⟩ : ∃ S : ByteArray, (⟨d2.toArray⟩ : ByteArray) = S := ⟨_, rfl⟩
        have HSz : Hid (S.size = d2.length) := Lib.hid (by rw [← hS]; simp [ByteArray.size])
        have hSm2 : S.size ≤ 9223372036854775807 := by rw [HSz.out]; exact hSm
        rw [hS] at q1
        have X := Lib.hid hbk
        clear hc hd hS hts hbk
        have hltI : (k : Int) < ds.length := by omega
        obtain ⟨t, HT⟩ : ∃ t, Hid (n - (ds.length : Int) - (szT ((texts9 ds).take k) : Int) = t) := ⟨_, Lib.hid rfl⟩
        have ht2 : t ≤ 1048576 := by rw [← HT.out]; omega
        rw [HT.out] at hq ⊢
        by_cases h1 : t - (S.size : Int) < 0
        · go_wp2_with fail
          refine (szDn_any t d1 S _ hSm2 ⟨hq, ht2⟩).mono ?_
          rw [if_pos (by omega)]
          rintro e w2 ⟨rfl, hb2⟩
          have Z := Lib.hid (X.out.trans (hb2.mono hzk)); clear hb2
          go_wp2
          go_ret
          exact ⟨ret_i64 (by rw [Hq.out, if_pos (by have h2 := Hle.out; have h3 := HSz.out; have h4 := HT.out; rw [Hs.out] at h2; omega)]), Z.out⟩
        · go_wp2_with fail
          refine (szDn_any t d1 S _ hSm2 ⟨hq, ht2⟩).mono ?_
          rw [if_neg (by omega)]
          rintro e w2 ⟨rfl, hb2⟩
          have Z := Lib.hid (X.out.trans (hb2.mono hzk)); clear hb2
          have hnn : ¬ t - (S.size : Int) < 0 := by omega
          go_wp2
          go_roundw
          case rel => exact ⟨k + 1, by omega, by go_num, by have h3 := HSz.out; have h4 := HT.out; rw [Hs.out, ← h3]; congr 1; omega, by have h3 := HSz.out; have h4 := HT.out; rw [Hs.out, ← h3]; omega, Z.out⟩
          case measure => simp [intOf]; omega
      · have hall : (texts9 ds).take k = texts9 ds := List.take_of_length_le (by rw [texts9_len]; omega)
        rw [hall] at hq ⊢
        have X := Lib.hid hbk; clear hbk
        go_wp2
        go_ret
        exact ⟨ret_i64 (by rw [Hq.out, if_neg (by omega)]), X.out⟩

theorem flatD_rep (n : Nat) : flatD (List.replicate n ((0 : Int), ([] : List UInt8))) = (madeCells #[.int .i64 0, .string ⟨#[]⟩] (n * 2)).toList := by
  apply List.ext_getElem
  · rw [flatD_length]; simp [madeCells]
  intro i h1 h2
  rw [flatD_length, List.length_replicate] at h1
  have hg := flatD_get (ds := List.replicate n ((0 : Int), ([] : List UInt8))) (k := i / 2) (d := (0, [])) (by rw [List.getElem?_replicate, if_pos (by omega)])
  rcases Nat.mod_two_eq_zero_or_one i with h | h
  · have e := hg.1
    rw [show i / 2 * 2 = i by omega, List.getElem?_eq_getElem (by rw [flatD_length]; simp; omega)] at e
    rw [Option.some.inj e]
    simp [madeCells, h]
  · have e := hg.2
    rw [show i / 2 * 2 + 1 = i by omega, List.getElem?_eq_getElem (by rw [flatD_length]; simp; omega)] at e
    rw [Option.some.inj e]
    simp [madeCells, h]
def fillD (ds : Deeds) (k : Nat) : Deeds := ds.take k ++ List.replicate (ds.length - k) ((0 : Int), ([] : List UInt8))
theorem fillD_len (ds : Deeds) (k : Nat) (h : k ≤ ds.length) : (fillD ds k).length = ds.length := by simp [fillD]; omega
theorem fillD_next {ds : Deeds} {k : Nat} {z : Int × List UInt8} (h : ds[k]? = some z) : (fillD ds k).set k z = fillD ds (k + 1) := by
  obtain ⟨hk, _⟩ := List.getElem?_eq_some_iff.1 h
  have hl : (ds.take k).length = k := by rw [List.length_take]; omega
  unfold fillD
  rw [show ds.length - k = (ds.length - (k + 1)) + 1 from by omega, List.replicate_succ, List.set_append_right _ _ (by omega), hl, Nat.sub_self, List.set_cons_zero, List.take_add_one, h]
  simp

set_option maxHeartbeats 1000000 in
theorem toDS (v : Value) (ds : Deeds) (w : World) (h : RdD w v ds) (hl : ds.length ≤ 1048576) :
    Calls Tryd.prog 25 #[v] w fun e w' => ∃ u, e = .returned u ∧ OwnD w' w.heap.size w'.heap.size u ds ∧ Below w.heap.size w w' := by
  obtain ⟨i0, hi0, hz0, hz1, hz2⟩ := info_parts deedInfo
  have H := Lib.hid h
  obtain ⟨A, c, rfl, hm, _⟩ := h
  go_enter Tryd.func25, Tryd.ntmps25
  go_wp2_with (at_make; refine wpList_make_full _ rfl _ _ _ rfl w.heap.size 36 i0 (.agg #[.int .i64 0, .string ⟨#[]⟩]) 2 Tryd.underlying46 hi0 hz0 hz1 _ _ _ _ ds.length rfl rfl rfl rfl ?c1 ?c2 ?c3 ?_)
  case c1 => rw [hz2]; omega
  case c2 => unfold maxLen; omega
  case c3 => simp
  intro w1 hown1 hg1
  have hb1 : Below w.heap.size w w1 := below_of_only hg1 (Nat.le_refl _) (by simp)
  have hlt1 : w.heap.size < w1.heap.size := (hown1.lt w.heap.size rfl).2
  have hstart : w1.ownsRow w.heap.size 36 2 (.slice (some ⟨w.heap.size, 0, none⟩) ds.length ds.length) ds.length (flatD (fillD ds 0)) := by
    have e : fillD ds 0 = List.replicate ds.length ((0 : Int), ([] : List UInt8)) := by simp [fillD]
    rw [e, flatD_rep]; exact hown1
  clear hown1 hg1
  generalize hG : w.heap.size = g at *
  have HG := Lib.hid hG; clear hG
  go_wp2
  go_loopw [4] (fun i wr => ∃ k : Nat, k ≤ ds.length ∧ i = .int .i64 k ∧ g < wr.heap.size ∧ Below g w wr ∧ wr.ownsRow g 36 2 (.slice (some ⟨g, 0, none⟩) ds.length ds.length) ds.length (flatD (fillD ds k))) (fun i _ => ds.length - (intOf i).toNat)
  case atStart => exact ⟨0, Nat.zero_le _, rfl, hlt1, hb1, hstart⟩
  case round =>
    clear hb1 hstart hlt1
    obtain ⟨k, hk, rfl, hsz, hbk, hownk⟩ := hrel
    by_cases hlt : k < ds.length
    · obtain ⟨A2, c2, e2, _, hr⟩ := H.out
      cases e2
      obtain ⟨b, off, rfl, hbb, hcc⟩ := hr (by omega)
      rw [HG.out] at hbb
      have hz : ds[k]? = some ds[k] := List.getElem?_eq_getElem hlt
      obtain ⟨d0, d1⟩ := hcc k _ hz
      have hfn := fillD_next hz
      have hfl := fillD_len ds k hk
      have hffl := flatD_length (fillD ds k)
      generalize ds[k] = m at *
      obtain ⟨z1, z2⟩ := m
      have e0 := (hbk.cell (p := ⟨b, off + k * 2, none⟩) hbb).trans d0
      have e1 := (hbk.cell (p := ⟨b, off + k * 2 + 1, none⟩) hbb).trans d1
      dsimp only at e0 e1
      obtain ⟨D, hD⟩ : ∃ D : ByteArray, (⟨z2.toArray⟩ : ByteArray) = D := ⟨_, rfl⟩
      have hset := flatD_set (ds := fillD ds k) (k := k) (z := z1) (s := z2) (by omega)
      rw [hfn, hD] at hset
      rw [hD] at e1
      have X := Lib.hid (And.intro hbk (And.intro hownk (And.intro hset (show (flatD (fillD ds k)).length = ds.length * 2 by omega)))); clear hbk hownk hfn d0 d1 hcc hz H hset hfl hffl hD
      have hltI : (k : Int) < ds.length := by omega
      go_wp2_with fail
      refine (toD_any z1 D _).mono ?_
      rintro e w2 ⟨rfl, hb2⟩
      have hz2 := hb2.size
      have hown2 := X.out.2.1.kept (row := none) (only_of_below hb2 none) (.inr (by simp [Value.ownBlock]))
      obtain ⟨y0, c0⟩ : ∃ y, w2.cell? ⟨g, k * 2, none⟩ = some y := ⟨_, (hown2.cellAt (k * 2) (by omega)).trans (List.getElem?_eq_getElem (by rw [X.out.2.2.2]; omega))⟩
      obtain ⟨y1, c1⟩ : ∃ y, w2.cell? ⟨g, k * 2 + 1, none⟩ = some y := ⟨_, (hown2.cellAt (k * 2 + 1) (by omega)).trans (List.getElem?_eq_getElem (by rw [X.out.2.2.2]; omega))⟩
      have f0 := hown2.frozenAt (k * 2)
      have f1 := hown2.frozenAt (k * 2 + 1)
      have hst := ((hown2.stored (k * 2) (.int .i64 z1)).1.stored (k * 2 + 1) (.string D)).1
      rw [X.out.2.2.1] at hst
      have Y := Lib.hid (And.intro (show Below g w ((w2.setCell ⟨g, k * 2, none⟩ (.int .i64 z1)).setCell ⟨g, k * 2 + 1, none⟩ (.string D)) from ((X.out.1.trans (hb2.mono (by omega))).setCell (Nat.le_refl g) _).setCell (Nat.le_refl g) _) hst)
      clear hst hown2 hb2 X
      go_wp2
      go_roundw
      case rel => exact ⟨k + 1, by omega, by go_num, by simp; omega, Y.out⟩
      case measure => simp [intOf]; omega
    · have hke : k = ds.length := by omega
      go_wp2
      go_ret
      refine ⟨_, rfl, ?_, by rw [HG.out]; exact hbk⟩
      rw [HG.out]
      subst hke
      have e : fillD ds ds.length = ds := by simp [fillD]
      rw [e] at hownk
      refine ⟨hownk, fun q hq => ?_⟩
      simp [Value.ownBlock] at hq; omega
theorem list_of_each9 {α : Type} {Q : Nat → α → Prop} : ∀ n : Nat, (∀ i, i < n → ∃ x, Q i x) → ∃ xs : List α, xs.length = n ∧ ∀ (i : Nat) x, xs[i]? = some x → Q i x := by
  intro n
  induction n with
  | zero => intro _; exact ⟨[], rfl, fun i x h => by simp at h⟩
  | succ n ih =>
    intro h
    obtain ⟨xs, hl, hq⟩ := ih fun i hi => h i (by omega)
    obtain ⟨x, hx⟩ := h n (by omega)
    refine ⟨xs ++ [x], by simp [hl], fun i y hy => ?_⟩
    by_cases hi : i < n
    · rw [List.getElem?_append_left (by omega)] at hy; exact hq i y hy
    · by_cases he : i = n
      · subst he
        rw [List.getElem?_append_right (by omega), hl, Nat.sub_self] at hy
        simp at hy; subst hy; exact hx
      · rw [List.getElem?_eq_none (by simp; omega)] at hy; cases hy
theorem deeds_of_fuel {H : Type} {enc : TypeId × Value → H} {P : Program} {W : World} {t e : TypeId} {f0 f1 : Field} {fuel base : Nat} {v : Value} {x : DataW H × List MemPlace}
    (ht : P.underlying t = some (.slice e)) (he : P.underlying e = some (.struct #[f0, f1])) (h0 : P.underlying f0.type = some (.int .i64)) (h1 : P.underlying f1.type = some .string)
    (hone : oneCellFields P #[f0, f1] = true) (hC : P.cellsOf e = 2)
    (hf : DataW.trod enc P W base (fun _ => true) true fuel t [v] = some x) : ∃ A c ds, v = .slice A ds.length c ∧ RdD W v ds ∧ ∀ d ∈ ds, d.2.length ≤ 9223372036854775807 := by
  rcases open_slice ht hf with ⟨hcs, _⟩ | ⟨a, len, cap, m, n, D, Pl, hcs, _, hl, hm, hmm, _, hi⟩
  · obtain rfl : v = .slice none 0 0 := by simpa using hcs
    exact ⟨none, 0, [], rfl, ⟨none, 0, rfl, by simp, fun h => by simp at h⟩, by simp⟩
  · obtain rfl : v = .slice (some a) len cap := by simpa using hcs
    have hml : len ≤ m := by rw [hmm]; simp; exact hl
    have each : ∀ i, i < len → ∃ z : Int × List UInt8, W.cell? (a.add (i * 2)) = some (.int .i64 z.1) ∧ W.cell? (a.add (i * 2 + 1)) = some (.string ⟨z.2.toArray⟩) ∧ z.2.length ≤ 9223372036854775807 := by
      intro i hil
      obtain ⟨cs', hc, ht'⟩ := hi i (by omega)
      rw [hC] at hc
      obtain ⟨ys, n', _, _, _, hyl, hfs⟩ := DataW.trod_struct he ht'
      obtain ⟨_, hcl, hat⟩ := World.cells?_some hc
      match cs', hcl, ys, hyl with
      | [c0, c1], _, [y0, y1], _ =>
        obtain ⟨o0, k0⟩ := hone_of hone 0 f0 rfl
        obtain ⟨o1, k1⟩ := hone_of hone 1 f1 rfl
        have g0 := hfs 0 f0 rfl
        have g1 := hfs 1 f1 rfl
        rw [o0, k0] at g0
        rw [o1, k1] at g1
        have a0 := hat 0 (by omega)
        have a1 := hat 1 (by omega)
        have g0' : DataW.trod enc P W base (fun _ => true) true n' f0.type [c0] = some y0 := g0
        have g1' : DataW.trod enc P W base (fun _ => true) true n' f1.type [c1] = some y1 := g1
        obtain ⟨z0, hz0, _⟩ := DataW.trod_int h0 g0'
        obtain ⟨S, hz1, _, hzz⟩ := DataW.trod_string h1 g1'
        obtain rfl : c0 = .int .i64 z0 := by simpa using hz0
        obtain rfl : c1 = .string S := by simpa using hz1
        refine ⟨(z0, bytesOf S), ?_, ?_, ?_⟩
        · rw [Go.Deep.add_add, Nat.add_zero] at a0; simpa using a0
        · rw [Go.Deep.add_add] at a1; rw [ba_eta]; simpa using a1
        · rw [bytes_len]; unfold maxLen at hzz; exact hzz
    obtain ⟨ds, hlen, hms⟩ := list_of_each9 len each
    refine ⟨some a, cap, ds, by rw [hlen], ⟨some a, cap, by rw [hlen], by rw [hlen]; unfold maxLen at hm; omega, fun hp => ?_⟩, fun d hd => ?_⟩
    · rw [hlen] at hp
      obtain ⟨z, hz0, _⟩ := each 0 hp
      have h3 := spot_of_cell hz0
      simp only [Addr.add, Nat.zero_mul, Nat.add_zero] at h3
      obtain ⟨b, off, sp⟩ := a
      obtain rfl : sp = none := by simpa using congrArg Addr.spot h3
      refine ⟨b, off, rfl, lt_of_cell (by simpa [Addr.add] using hz0), fun j z' hj => ?_⟩
      have h9 := hms j z' hj
      rw [add_plain, add_plain] at h9
      exact ⟨h9.1, h9.2.1⟩
    · obtain ⟨j, hj, e⟩ := List.getElem_of_mem hd
      exact (hms j d (by rw [List.getElem?_eq_getElem hj, e])).2.2
theorem deeds_of_trod {H : Type} {enc : TypeId × Value → H} {W : World} {v : Value} {d : DataW H} {ps : List MemPlace} {base : Nat}
    (hval : Value.okWide Tryd.prog W .any base 43 v) (h : DataW.Trod enc Tryd.prog W 0 (fun _ => true) true 43 v d ps) : ∃ A c ds, v = .slice A ds.length c ∧ (RdD W (.slice A ds.length c) ds ∧ ∀ d ∈ ds, d.2.length ≤ 9223372036854775807) := by
  obtain ⟨a0, len, cap, rfl⟩ := okWide_slice Tryd.underlying43 hval
  obtain ⟨fuel, hf⟩ := h
  obtain ⟨A, c, ds, hv, hds, hz⟩ := deeds_of_fuel Tryd.underlying43 Tryd.underlying33 Tryd.underlying3 Tryd.underlying9 (by kernel_rfl) (by kernel_rfl) (by simpa [Value.cells] using hf)
  exact ⟨A, c, ds, hv, by rw [← hv]; exact hds, hz⟩
end Go.Proofs.YtdabbjlefpgkmaaDoor
