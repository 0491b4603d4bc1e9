/- Terms in memory: what the reader makes of rows and types; take, letter, madeOf. -/
import Derived.Test.YtceekfoacgoalaaBq
import Derived.Test.YtceekfoacgoalaaIl
namespace Go.Proofs.Ytceekfoacgoalaa
set_option maxRecDepth 100000
open Go.RowKit Go.WideShapes

/-- A letter's term as it was made. -/
def LtB (w : World) (b : Nat) (kn : Int × Int) : Prop := Blk w b #[.int .i64 kn.1, .int .i64 kn.2, .slice none 0 0, .pointer none, .int .i64 0] 86
/-- A row or type in memory: A tells of its blocks that they are kept, M the letters' terms. -/
def Sk (w : World) (A : Nat → Prop) (M : Int × Int → Nat → Prop) : Ty → Option Addr → Prop
  | .num, p => ∃ b, p = some ⟨b, 0, none⟩ ∧ A b ∧ LtB w b (0, 0)
  | .any n, p => ∃ b, p = some ⟨b, 0, none⟩ ∧ M (1, n) b
  | .rest n, p => ∃ b, p = some ⟨b, 0, none⟩ ∧ M (3, n) b
  | .prog S T, p => ∃ b g q r, p = some ⟨b, 0, none⟩ ∧ A b ∧ A g ∧ Blk w b #[.int .i64 2, .int .i64 0, .slice (some ⟨g, 0, none⟩) 2 2, .pointer none, .int .i64 0] 86 ∧ Blk w g #[.pointer q, .pointer r] 49 ∧ Sk w A M S q ∧ Sk w A M T r
  | .put S T, p => ∃ b g q r, p = some ⟨b, 0, none⟩ ∧ A b ∧ A g ∧ Blk w b #[.int .i64 4, .int .i64 0, .slice (some ⟨g, 0, none⟩) 2 2, .pointer none, .int .i64 0] 86 ∧ Blk w g #[.pointer q, .pointer r] 49 ∧ Sk w A M S q ∧ Sk w A M T r
theorem Sk.keep {w w' : World} {A A' : Nat → Prop} {M M' : Int × Int → Nat → Prop} {T : Ty} {p : Option Addr} (h : Sk w A M T p) (hk : ∀ k, A k → k < w.heap.size → w'.heap[k]? = w.heap[k]? ∧ A' k) (hm : ∀ kn b, M kn b → M' kn b) : Sk w' A' M' T p := by
  induction T generalizing p with
  | num => obtain ⟨b, e, h1, h2⟩ := h; exact ⟨b, e, (hk b h1 h2.lt).2, (hk b h1 h2.lt).1.trans h2⟩
  | any n => obtain ⟨b, e, h1⟩ := h; exact ⟨b, e, hm _ _ h1⟩
  | rest n => obtain ⟨b, e, h1⟩ := h; exact ⟨b, e, hm _ _ h1⟩
  | prog S T ihs iht => obtain ⟨b, g, q, r, e, h1, h2, h3, h4, h5, h6⟩ := h; exact ⟨b, g, q, r, e, (hk b h1 h3.lt).2, (hk g h2 h4.lt).2, (hk b h1 h3.lt).1.trans h3, (hk g h2 h4.lt).1.trans h4, ihs h5, iht h6⟩
  | put S T ihs iht => obtain ⟨b, g, q, r, e, h1, h2, h3, h4, h5, h6⟩ := h; exact ⟨b, g, q, r, e, (hk b h1 h3.lt).2, (hk g h2 h4.lt).2, (hk b h1 h3.lt).1.trans h3, (hk g h2 h4.lt).1.trans h4, ihs h5, iht h6⟩
/-- The letters' terms: the j-th letter lies where the j-th pointer says. -/
def Lm (us : List Value) (ls : List (Int × Int)) (kn : Int × Int) (b : Nat) : Prop := ∃ j : Nat, ls[j]? = some kn ∧ us[j]? = some (.pointer (some ⟨b, 0, none⟩))
/-- Blocks that the reader does not change. -/
def Av (g : Nat) (lv : Value) (k : Nat) : Prop := k ≠ g ∧ some k ≠ lv.ownBlock
/-- What a step of the reader keeps. -/
structure Mov (lo g : Nat) (w w' : World) (lv lv' : Value) (us us' : List Value) (ls ls' : List (Int × Int)) : Prop where
  low : Below lo w w'
  keep : ∀ k, k < w.heap.size → Av g lv k → w'.heap[k]? = w.heap[k]?
  own : ∀ k, k < w.heap.size → some k ≠ lv.ownBlock → some k ≠ lv'.ownBlock
  pu : ∃ e, us' = us ++ e
  pl : ∃ e, ls' = ls ++ e
theorem Mov.trans {lo g : Nat} {w w' w2 : World} {lv lv' lv2 : Value} {us us' us2 : List Value} {ls ls' ls2 : List (Int × Int)} (h : Mov lo g w w' lv lv' us us' ls ls') (h2 : Mov lo g w' w2 lv' lv2 us' us2 ls' ls2) : Mov lo g w w2 lv lv2 us us2 ls ls2 := by
  have hs := h.low.size
  refine ⟨h.low.trans h2.low, fun k hk ha => ?_, fun k hk ha => h2.own k (by omega) (h.own k hk ha), ?_, ?_⟩
  · exact (h2.keep k (by omega) ⟨ha.1, h.own k hk ha.2⟩).trans (h.keep k hk ha)
  · obtain ⟨e, h3⟩ := h.pu; obtain ⟨f, h4⟩ := h2.pu; exact ⟨e ++ f, by rw [h4, h3, List.append_assoc]⟩
  · obtain ⟨e, h3⟩ := h.pl; obtain ⟨f, h4⟩ := h2.pl; exact ⟨e ++ f, by rw [h4, h3, List.append_assoc]⟩
theorem Mov.of_below {lo g : Nat} {w w' : World} (lv : Value) (us : List Value) (ls : List (Int × Int)) (hb : Below w.heap.size w w') (hl : lo ≤ w.heap.size) : Mov lo g w w' lv lv us us ls ls :=
  ⟨hb.mono hl, fun k hk _ => hb.block k hk, fun _ _ h => h, ⟨[], by simp⟩, ⟨[], by simp⟩⟩
theorem Lm.mono {us us' : List Value} {ls ls' : List (Int × Int)} (hu : ∃ e, us' = us ++ e) (hl : ∃ e, ls' = ls ++ e) {kn : Int × Int} {b : Nat} (h : Lm us ls kn b) : Lm us' ls' kn b := by
  obtain ⟨j, h1, h2⟩ := h
  obtain ⟨e, rfl⟩ := hu
  obtain ⟨f, rfl⟩ := hl
  have l1 := (List.getElem?_eq_some_iff.1 h1).1
  have l2 := (List.getElem?_eq_some_iff.1 h2).1
  exact ⟨j, by rw [List.getElem?_append_left l1]; exact h1, by rw [List.getElem?_append_left l2]; exact h2⟩
theorem Sk.mov {lo g : Nat} {w w' : World} {lv lv' : Value} {us us' : List Value} {ls ls' : List (Int × Int)} {T : Ty} {p : Option Addr} (h : Sk w (Av g lv) (Lm us ls) T p) (hm : Mov lo g w w' lv lv' us us' ls ls') : Sk w' (Av g lv') (Lm us' ls') T p :=
  h.keep (fun k ha hk => ⟨hm.keep k hk ha, ha.1, hm.own k hk ha.2⟩) fun _ _ => Lm.mono hm.pu hm.pl
/-- The reader and its letters' terms. -/
structure RTy (w : World) (lo g : Nat) (rv lv : Value) (us : List Value) (rest : List Int) (ls : List (Int × Int)) : Prop where
  rd : TRd w lo g rv lv us rest ls
  lb : ∀ kn b, Lm us ls kn b → lo ≤ b ∧ LtB w b kn
theorem blk_kind {w : World} {b g : Nat} {cs ds : Array Value} {T U : TypeId} (h : Blk w b cs T) (h2 : Blk w g ds U) (hT : T ≠ U) : b ≠ g := by
  rintro rfl
  unfold Blk at h h2
  rw [h] at h2
  injection h2 with h2
  injection h2 with _ h5
  exact hT h5
theorem RTy.av {w : World} {lo g : Nat} {rv lv : Value} {us : List Value} {rest : List Int} {ls : List (Int × Int)} (h : RTy w lo g rv lv us rest ls) {b : Nat} {cs : Array Value} (hb : Blk w b cs 86) : Av g lv b :=
  ⟨blk_kind hb h.rd.blk (by decide), fun e => ownsRow_ne h.rd.row hb (by decide) e.symm⟩
theorem RTy.step {w w' : World} {lo g : Nat} {rv lv : Value} {us : List Value} {rest : List Int} {ls : List (Int × Int)} (h : RTy w lo g rv lv us rest ls) (hb : Below w.heap.size w w') : RTy w' lo g rv lv us rest ls := by
  have hlt := h.rd.blk.lt
  have hge := h.rd.ge
  exact ⟨h.rd.keep (fun k hk _ => hb.block k hk) (h.rd.blk.below hb hlt) (h.rd.rd.below (hb.mono (by omega))), fun kn b hm => ⟨(h.lb kn b hm).1, (h.lb kn b hm).2.below hb (h.lb kn b hm).2.lt⟩⟩
def TakeTy (lo g : Nat) (lv : Value) (us : List Value) (z : Int) (r : List Int) (ls : List (Int × Int)) (w : World) (e : Ending) (w' : World) : Prop := e = .returned (.int .i64 z) ∧ ∃ rv', RTy w' lo g rv' lv us r ls ∧ Mov lo g w w' lv lv us us ls ls
theorem take_ty (lo g : Nat) (rv lv : Value) (us : List Value) (z : Int) (r : List Int) (ls : List (Int × Int)) (w : World) (h0 : RTy w lo g rv lv us (z :: r) ls) :
    Calls Try.prog 67 #[.pointer (some ⟨g, 0, none⟩)] w (TakeTy lo g lv us z r ls w) := by
  have h := h0.rd
  have hlt := h.blk.lt
  have hge := h.ge
  have hrd := h.rd
  have c0 := h.blk.cell 0
  have f0 := h.blk.free 0
  simp only [List.getElem?_toArray, List.getElem?_cons_zero] at c0
  have hrd2 := hrd
  obtain ⟨A, c, rfl, hi, hc⟩ := hrd
  have hm := hi.len
  obtain ⟨b, off, rfl, hb, hcc⟩ := hi.at_ (by simp)
  have hcell := hcc 0 (by simp)
  simp only [Nat.add_zero, List.getD_cons_zero] at hcell
  have hpos : (0 : Int) < ((z :: r).length : Int) := by rw [List.length_cons]; omega
  have hposb : (((z :: r).length : Int) == 0) = false := by rw [beq_eq_false_iff_ne]; omega
  have h1 : 1 ≤ (z :: r).length := by rw [List.length_cons]; omega
  have HX : Hid (∀ o n d, (o = off + 1 ∨ r = []) → n = r.length → r.length ≤ d → ∃ rv', RTy (w.setCell ⟨g, 0, none⟩ (.slice (some ⟨b, o, none⟩) n d)) lo g rv' lv us r ls ∧ Mov lo g w (w.setCell ⟨g, 0, none⟩ (.slice (some ⟨b, o, none⟩) n d)) lv lv us us ls ls) := Lib.hid fun o n d ho hn hd => by
    have hB : Below lo w (w.setCell ⟨g, 0, none⟩ (.slice (some ⟨b, o, none⟩) n d)) := (Below.refl lo w).setCell (by simpa using hge) _
    have hk : ∀ k, k ≠ g → (w.setCell ⟨g, 0, none⟩ (.slice (some ⟨b, o, none⟩) n d)).heap[k]? = w.heap[k]? := fun k hne => Below.heap_setCell _ _ _ _ (by simpa using hne)
    refine ⟨_, ⟨h.keep (fun k _ hne => hk k hne) (h.blk.set 0 _) ((rdB_tail hrd2 ho hn hd).below hB), fun kn q hq => ⟨(h0.lb kn q hq).1, (hk q (h0.av (h0.lb kn q hq).2).1).trans (h0.lb kn q hq).2⟩⟩, hB, fun k _ ha => hk k ha.1, fun _ _ ha => ha, ⟨[], by simp⟩, ⟨[], by simp⟩⟩
  have hl : (z :: r).length = r.length + 1 := rfl
  clear h hi hcc hrd2 h0
  generalize hL : (z :: r).length = L at *
  rcases Nat.lt_or_ge c 2 with hc2 | hc2
  · have hc1 : c = 1 := by omega
    have hL1 : L = 1 := by omega
    subst hc1
    subst hL1
    have hr0 : r = [] := List.eq_nil_of_length_eq_zero (by omega)
    clear hL hl
    go_enter Try.func67, Try.ntmps67
    go_wp2
    go_ret
    exact ⟨rfl, HX.out _ _ _ (.inr hr0) (by rw [hr0]; rfl) (by rw [hr0]; simp)⟩
  · go_enter Try.func67, Try.ntmps67
    go_wp2
    go_ret
    exact ⟨rfl, HX.out _ _ _ (.inl rfl) (by omega) (by omega)⟩
/-- madeOf of parts that are all there. -/
theorem madeOf_ty (kind : Int) (A : Option Addr) (n c : Nat) (ps : List (Option Addr)) (w : World) (hv : n = ps.length) (h : Ptrs w (.slice A n c) ps) (hl : ps.length ≤ 1000) (hno : none ∉ ps) :
    Calls Try.prog 70 #[.int .i64 kind, .slice A n c] w fun e w' => ∃ W, e = .returned (.pointer (some ⟨W.heap.size, 0, none⟩)) ∧ Below w.heap.size w W ∧ w' = W.alloc (.cells #[.int .i64 kind, .int .i64 0, .slice A n c, .pointer none, .int .i64 0] 86) := by
  subst hv
  have H := Lib.hid h
  have HN := Lib.hid hno; clear hno h
  go_enter Try.func70, Try.ntmps70
  go_wp2_with fail
  refine (contains_ptr _ ps _ H.out hl).mono ?_
  rintro e w' ⟨b, rfl, h1, h2, rfl⟩
  obtain rfl := h2 HN.out
  clear h1 h2
  go_wp2
  go_ret
  exact ⟨_, rfl, Below.refl _ _, rfl⟩
def LetTy (kind : Int) (lo g : Nat) (n : Int) (lv : Value) (us : List Value) (r : List Int) (ls : List (Int × Int)) (w : World) (e : Ending) (w' : World) : Prop :=
  ∃ b rv' lv' us', e = .returned (.pointer (some ⟨b, 0, none⟩)) ∧ RTy w' lo g rv' lv' us' r (addL ls (kind, n)) ∧ Mov lo g w w' lv lv' us us' ls (addL ls (kind, n)) ∧ Lm us' (addL ls (kind, n)) (kind, n) b
set_option maxHeartbeats 2000000 in
theorem letter_ty (kind : Int) (lo g : Nat) (rv lv : Value) (us : List Value) (n : Int) (r : List Int) (ls : List (Int × Int)) (w : World) (h : RTy w lo g rv lv us (n :: r) ls) (hl : ls.length ≤ 1000000) (hn : 0 ≤ n ∧ n ≤ 999) :
    Calls Try.prog 68 #[.pointer (some ⟨g, 0, none⟩), .int .i64 kind] w (LetTy kind lo g n lv us r ls w) := by
  have H := Lib.hid h; clear h
  go_enter Try.func68, Try.ntmps68
  go_wp2_with fail
  refine (take_ty lo g rv lv us n r ls _ H.out).mono ?_
  rintro e w1 ⟨rfl, rv1, q1, q2⟩
  clear H
  have hlt := q1.rd.blk.lt
  have hge := q1.rd.ge
  obtain ⟨hn0, hn1⟩ := hn
  obtain ⟨A, c, rfl⟩ := ownsRow_form q1.rd.row
  have c1 := q1.rd.blk.cell 1
  simp only [List.getElem?_toArray, List.getElem?_cons_zero, List.getElem?_cons_succ] at c1
  have HR := Lib.hid (And.intro q1 q2)
  have HT := Lib.hid q1.rd; clear q1 q2
  go_wp2
  go_loop [22] (fun i => ∃ k : Nat, k ≤ ls.length ∧ i = .int .i64 k ∧ (kind, n) ∉ ls.take k) (fun i => ls.length - (intOf i).toNat)
  case atStart => exact ⟨0, Nat.zero_le _, rfl, by simp⟩
  case round =>
    obtain ⟨k, hk, rfl, hno⟩ := hrel
    by_cases hlt : k < ls.length
    · obtain ⟨⟨kn1, kn2⟩, hkn⟩ : ∃ kn, ls[k]? = some kn := ⟨ls[k], List.getElem?_eq_getElem hlt⟩
      have htk : ls.take (k + 1) = ls.take k ++ [(kn1, kn2)] := by rw [List.take_add_one, hkn]; rfl
      have hmem : (kn1, kn2) ∈ ls := List.mem_of_getElem? hkn
      have hul : us.length = ls.length := HT.out.len
      obtain ⟨u, hu⟩ : ∃ u, us[k]? = some u := ⟨us[k]'(by omega), List.getElem?_eq_getElem (by omega)⟩
      obtain ⟨b, rfl, hlb, c2, c3, c4, hblk⟩ := HT.out.term k u _ hu hkn
      obtain ⟨gl, rfl⟩ : ∃ gl, A = some ⟨gl, 0, none⟩ := by
        rcases HT.out.row.2 with ⟨_, h1⟩ | ⟨gl, cap, cur, he, _⟩
        · omega
        · cases he; exact ⟨gl, rfl⟩
      have hrow := HT.out.row
      have hcell : w1.cell? ⟨gl, k, none⟩ = some (.pointer (some ⟨b, 0, none⟩)) := by
        rw [hrow.cellAt k (by omega)]; exact hu
      have t0 := hblk.cell 0
      have t1 := hblk.cell 1
      simp only [List.getElem?_toArray, List.getElem?_cons_zero, List.getElem?_cons_succ] at t0 t1
      have hltI : (k : Int) < ls.length := by omega
      have HU := Lib.hid (And.intro hu hkn)
      clear hu hkn hblk hul hrow
      by_cases e1 : kn1 = kind
      · subst e1
        have b1 : (kn1 == kn1) = true := by simp
        by_cases e2 : kn2 = n
        · subst e2
          have b2 : (kn2 == kn2) = true := by simp
          have ha : ls = addL ls (kn1, kn2) := by rw [addL, if_pos hmem]
          have K := Lib.hid ha; clear ha hmem htk hno
          go_wp2
          go_ret
          refine ⟨b, rv1, .slice (some ⟨gl, 0, none⟩) ls.length c, us, rfl, ?_⟩
          rw [← K.out]
          exact ⟨HR.out.1, HR.out.2, k, HU.out.2, HU.out.1⟩
        · have b2 : (kn2 == n) = false := by simpa using e2
          have K : Hid ((kn1, n) ∉ ls.take (k + 1)) := Lib.hid (by rw [htk]; simp only [List.mem_append, List.mem_singleton, not_or]; exact ⟨hno, fun e => e2 (by cases e; rfl)⟩)
          clear hmem htk hno e2
          go_wp2
          go_round
          case rel => exact ⟨k + 1, by omega, by go_num, K.out⟩
          case measure => simp [intOf]; omega
      · have b1 : (kn1 == kind) = false := by simpa using e1
        have K : Hid ((kind, n) ∉ ls.take (k + 1)) := Lib.hid (by rw [htk]; simp only [List.mem_append, List.mem_singleton, not_or]; exact ⟨hno, fun e => e1 (by cases e; rfl)⟩)
        clear hmem htk hno e1
        go_wp2
        go_round
        case rel => exact ⟨k + 1, by omega, by go_num, K.out⟩
        case measure => simp [intOf]; omega
    · have hno2 : (kind, n) ∉ ls := by rw [List.take_of_length_le (by omega)] at hno; exact hno
      have ha : ls ++ [(kind, n)] = addL ls (kind, n) := by rw [addL, if_neg hno2]
      have HA := Lib.hid ha; clear hno hno2 ha
      have hkl : ¬ ((k : Int) < ls.length) := by omega
      have hrowB : Hid (((w1.alloc (.cells #[.int .i64 kind, .int .i64 n, .slice none 0 0, .pointer none, .int .i64 0] 86)).alloc (.cells #[.pointer (some ⟨w1.heap.size, 0, none⟩)] 49)).ownsRow lo 49 1 (.slice A ls.length c) ls.length us) := Lib.hid ((HT.out.row.alloc _).alloc _)
      have Hn : Hid (((w1.alloc (.cells #[.int .i64 kind, .int .i64 n, .slice none 0 0, .pointer none, .int .i64 0] 86)).alloc (.cells #[.pointer (some ⟨w1.heap.size, 0, none⟩)] 49)).cell? ⟨w1.heap.size + 1, 0, none⟩ = some (.pointer (some ⟨w1.heap.size, 0, none⟩))) := Lib.hid (by have h := (Blk.new (w1.alloc (.cells #[.int .i64 kind, .int .i64 n, .slice none 0 0, .pointer none, .int .i64 0] 86)) #[.pointer (some ⟨w1.heap.size, 0, none⟩)] 49).cell 0; rw [World.size_alloc] at h; exact h)
      go_wp2_with (at_builtin; refine wpList_append_one rfl (.tmp 50) (.tmp 52) _ rfl lo 49 _ 8 Try.underlying50 ptrInfo (by omega) rfl _ ls.length us rfl hrowB.out (w1.heap.size + 1) 1 (.pointer (some ⟨w1.heap.size, 0, none⟩)) rfl Hn.out rfl (by omega) (by simp; omega) ?_)
      intro v2 w2 hrow2 hg2 hown
      obtain ⟨g2, cap2, rfl⟩ := ownsRow_succ hrow2
      have hvne := ownsRow_ne HT.out.row HT.out.blk (by decide)
      have hsz2 : w1.heap.size + 1 + 1 ≤ w2.heap.size := by have := hg2.size; simpa using this
      have hbk : ∀ q, q < w1.heap.size → some q ≠ (Value.slice A ls.length c).ownBlock → w2.heap[q]? = w1.heap[q]? := fun q hq hne => (hg2.block q (by simp; omega) hne).trans ((Below.heap_alloc _ _ _ (by simp; omega)).trans (Below.heap_alloc _ _ _ hq))
      have hblk2 : Blk w2 g #[rv1, .slice A ls.length c] 59 := (hbk g HT.out.blk.lt (fun e => hvne e.symm)).trans HT.out.blk
      have c2 := hblk2.cell 1
      have f2 := hblk2.free 1
      simp only [List.getElem?_toArray, List.getElem?_cons_zero, List.getElem?_cons_succ] at c2
      have hT0 : LtB w2 w1.heap.size (kind, n) := by
        have h1 := (Blk.new w1 #[.int .i64 kind, .int .i64 n, .slice none 0 0, .pointer none, .int .i64 0] 86).below ((Below.refl (w1.heap.size + 1) _).alloc (by simp) (.cells #[.pointer (some ⟨w1.heap.size, 0, none⟩)] 49)) (by omega)
        refine (hg2.block _ (by simp; omega) (fun e => ?_)).trans h1
        have := (HT.out.row.lt _ e.symm).2
        omega
      have hown2 : ∀ k, k < w1.heap.size → some k ≠ (Value.slice A ls.length c).ownBlock → some k ≠ (Value.slice (some ⟨g2, 0, none⟩) (ls.length + 1) cap2).ownBlock := fun k hk hne e => by
        rcases hown with h1 | h1
        · exact hne (e.trans h1)
        · have := Option.some.inj (e.trans h1)
          omega
      have X : Hid (∃ rv', RTy (w2.setCell ⟨g, 1, none⟩ (.slice (some ⟨g2, 0, none⟩) (ls.length + 1) cap2)) lo g rv' (.slice (some ⟨g2, 0, none⟩) (ls.length + 1) cap2) (us ++ [.pointer (some ⟨w1.heap.size, 0, none⟩)]) r (addL ls (kind, n)) ∧ Mov lo g w (w2.setCell ⟨g, 1, none⟩ (.slice (some ⟨g2, 0, none⟩) (ls.length + 1) cap2)) (.slice A ls.length c) (.slice (some ⟨g2, 0, none⟩) (ls.length + 1) cap2) us (us ++ [.pointer (some ⟨w1.heap.size, 0, none⟩)]) ls (addL ls (kind, n)) ∧ Lm (us ++ [.pointer (some ⟨w1.heap.size, 0, none⟩)]) (addL ls (kind, n)) (kind, n) w1.heap.size) := Lib.hid (by
        have hB1 : Below lo w1 w2 := ((((Below.refl lo w1).alloc (by omega) _).alloc (by simp; omega) _).grown hg2 (by simp; omega) (fun q hq => (HT.out.row.lt q hq).1))
        have hB : Below lo w1 (w2.setCell ⟨g, 1, none⟩ (.slice (some ⟨g2, 0, none⟩) (ls.length + 1) cap2)) := hB1.setCell (by simpa using hge) _
        have hkS : ∀ k, k < w1.heap.size → Av g (.slice A ls.length c) k → (w2.setCell ⟨g, 1, none⟩ (.slice (some ⟨g2, 0, none⟩) (ls.length + 1) cap2)).heap[k]? = w1.heap[k]? := fun k hk ha => (Below.heap_setCell _ _ _ _ (by simpa using ha.1)).trans (hbk k hk ha.2)
        have hT1 : LtB (w2.setCell ⟨g, 1, none⟩ (.slice (some ⟨g2, 0, none⟩) (ls.length + 1) cap2)) w1.heap.size (kind, n) := (Below.heap_setCell _ _ _ _ (by simp only; omega)).trans hT0
        have hlast : Lm (us ++ [.pointer (some ⟨w1.heap.size, 0, none⟩)]) (ls ++ [(kind, n)]) (kind, n) w1.heap.size := ⟨ls.length, by simp, by rw [← HT.out.len]; simp⟩
        have hlb : ∀ kn b, Lm (us ++ [.pointer (some ⟨w1.heap.size, 0, none⟩)]) (ls ++ [(kind, n)]) kn b → lo ≤ b ∧ LtB (w2.setCell ⟨g, 1, none⟩ (.slice (some ⟨g2, 0, none⟩) (ls.length + 1) cap2)) b kn := fun kn b ⟨j, hz, hu⟩ => by
          by_cases hj : j < us.length
          · rw [List.getElem?_append_left hj] at hu
            rw [List.getElem?_append_left (by rw [← HT.out.len]; exact hj)] at hz
            obtain ⟨a1, a2⟩ := HR.out.1.lb kn b ⟨j, hz, hu⟩
            exact ⟨a1, (hkS b a2.lt (HR.out.1.av a2)).trans a2⟩
          · have hjl : j = us.length := by
              rcases Nat.lt_or_ge j (us.length + 1) with h' | h'
              · omega
              · rw [List.getElem?_eq_none (by simp; omega)] at hu; cases hu
            subst hjl
            rw [List.getElem?_append_right (by omega)] at hu
            rw [List.getElem?_append_right (by rw [HT.out.len]; omega)] at hz
            simp at hu
            simp [HT.out.len] at hz
            subst hu; subst hz
            exact ⟨by omega, hT1⟩
        rw [← HA.out]
        refine ⟨rv1, ⟨⟨hblk2.set 1 _, hge, HT.out.rd.below hB, ?_, by simp [HT.out.len], fun j u kn hu hz => ?_⟩, hlb⟩, HR.out.2.trans ⟨hB, hkS, hown2, ⟨_, rfl⟩, ⟨_, rfl⟩⟩, hlast⟩
        · have hrow3 : w2.ownsRow lo 49 1 (.slice (some ⟨g2, 0, none⟩) (ls.length + 1) cap2) (ls ++ [(kind, n)]).length (us ++ [.pointer (some ⟨w1.heap.size, 0, none⟩)]) := by simpa using hrow2
          refine ownsRow_keep hrow3 fun q hq => Below.heap_setCell _ _ _ _ ?_
          have h2 := ownsRow_ne hrow2 hblk2 (by decide)
          simp only
          exact fun e => h2 (by rw [hq, e])
        · have hju : j < us.length + 1 := by have := (List.getElem?_eq_some_iff.1 hu).1; simpa using this
          obtain ⟨b, rfl⟩ : ∃ b, u = .pointer (some ⟨b, 0, none⟩) := by
            by_cases hj : j < us.length
            · rw [List.getElem?_append_left hj] at hu
              rw [List.getElem?_append_left (by rw [← HT.out.len]; exact hj)] at hz
              obtain ⟨b, h1, _⟩ := HT.out.term j u kn hu hz
              exact ⟨b, h1⟩
            · have hjl : j = us.length := by omega
              subst hjl
              rw [List.getElem?_append_right (by omega)] at hu
              simp at hu
              exact ⟨_, hu.symm⟩
          obtain ⟨a1, a2⟩ := hlb kn b ⟨j, hz, hu⟩
          exact ⟨b, rfl, a1, _, _, _, a2⟩)
      clear hrow2 hg2 hown hbk hblk2 hvne hT0 hown2
      go_wp2
      go_ret
      obtain ⟨rv', x1, x2, x3⟩ := X.out
      exact ⟨_, rv', _, _, rfl, x1, x2, x3⟩
end Go.Proofs.Ytceekfoacgoalaa
