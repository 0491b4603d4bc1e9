/- The reader of rows and types: what it is, and what it keeps; take, letter, madeOf. -/
import Derived.Test.YtkiedpdhehehfaaB7
namespace Go.Proofs.Ytkiedpdhehehfaa
set_option maxRecDepth 100000
open Go.RowKit Go.WideShapes

theorem ptrInfo : (Try.prog.info? 117).map (fun i => (i.zero, i.size, i.bytes)) = some (some (.pointer none), 1, 8) := by kernel_rfl
/-- A term that is a letter, or was made: of its own memory. -/
def Term (w : World) (lo b : Nat) (kn : Int × Int) : Prop := lo ≤ b ∧ ∃ c2 c3 c4, Blk w b #[.int .i64 kn.1, .int .i64 kn.2, c2, c3, c4] 164
structure TRd (w : World) (lo g : Nat) (rv lv : Value) (us : List Value) (rest : List Int) (ls : List (Int × Int)) : Prop where
  blk : Blk w g #[rv, lv] 133
  ge : lo ≤ g
  rd : RdBI w lo rv rest
  row : w.ownsRow lo 117 1 lv ls.length us
  len : us.length = ls.length
  term : ∀ (j : Nat) u kn, us[j]? = some u → ls[j]? = some kn → ∃ b, u = .pointer (some ⟨b, 0, none⟩) ∧ Term w lo b kn
/-- The reader behind g: what it is still to read, and the letters that it has read. -/
def TReader (w : World) (lo g : Nat) (rest : List Int) (ls : List (Int × Int)) : Prop := ∃ rv lv us, TRd w lo g rv lv us rest ls
theorem TReader.lt {w : World} {lo g : Nat} {rest : List Int} {ls : List (Int × Int)} (h : TReader w lo g rest ls) : g < w.heap.size := by
  obtain ⟨rv, lv, us, h⟩ := h; exact h.blk.lt
theorem TReader.ge {w : World} {lo g : Nat} {rest : List Int} {ls : List (Int × Int)} (h : TReader w lo g rest ls) : lo ≤ g := by
  obtain ⟨rv, lv, us, h⟩ := h; exact h.ge
/-- Whatever happens but to the reader's own blocks. -/
theorem TRd.keep {w w' : World} {lo g : Nat} {rv lv rv' : Value} {us : List Value} {rest rest' : List Int} {ls : List (Int × Int)} (h : TRd w lo g rv lv us rest ls) (hk : ∀ k, k < w.heap.size → k ≠ g → w'.heap[k]? = w.heap[k]?) (hg : Blk w' g #[rv', lv] 133) (hr : RdBI w' lo rv' rest') : TRd w' lo g rv' lv us rest' ls := by
  refine ⟨hg, h.ge, hr, ownsRow_keep h.row fun k hk' => hk k (h.row.lt k hk').2 (fun e => ?_), h.len, fun j u kn hu hz => ?_⟩
  · exact ownsRow_ne h.row h.blk (by decide) (by rw [hk', e])
  · obtain ⟨b, h1, h2, c2, c3, c4, h3⟩ := h.term j u kn hu hz
    refine ⟨b, h1, h2, c2, c3, c4, (hk b h3.lt (fun e => ?_)).trans h3⟩
    subst e
    have h4 := h.blk
    unfold Blk at h3 h4
    rw [h3] at h4
    injection h4 with h4
    injection h4 with _ h5
    exact absurd h5 (by decide)
theorem TReader.step {w w' : World} {lo g : Nat} {rest : List Int} {ls : List (Int × Int)} (h : TReader w lo g rest ls) (hb : Below w.heap.size w w') : TReader w' lo g rest ls := by
  have hlt := h.lt
  have hge := h.ge
  obtain ⟨rv, lv, us, h⟩ := h
  exact ⟨rv, lv, us, h.keep (fun k hk _ => hb.block k hk) (h.blk.below hb hlt) (h.rd.below (hb.mono (by omega)))⟩

theorem rdB_tail {w : World} {B b off c : Nat} {z : Int} {r : List Int} (h : RdBI w B (.slice (some ⟨b, off, none⟩) (z :: r).length c) (z :: r)) {o n d : Nat} (ho : o = off + 1 ∨ r = []) (hn : n = r.length) (hd : r.length ≤ d) : RdBI w B (.slice (some ⟨b, o, none⟩) n d) r := by
  subst hn
  obtain ⟨A, c', e, hi, hc⟩ := h
  cases e
  refine ⟨_, d, rfl, ⟨by have := hi.len; simp at this; omega, fun y hy => hi.wf y (by simp [hy]), fun h0 => ?_⟩, hd⟩
  obtain ⟨b', off', e, hb, hcc⟩ := hi.at_ (by simp)
  cases e
  have ho' : o = off + 1 := by
    rcases ho with h1 | h1
    · exact h1
    · subst h1; simp at h0
  subst ho'
  refine ⟨_, _, rfl, hb, fun j hj => ?_⟩
  have := hcc (j + 1) (by simp; omega)
  rw [show off + 1 + j = off + (j + 1) by omega, this]
  simp [List.getD]

def TakePost (lo g : Nat) (rest : List Int) (ls : List (Int × Int)) (w : World) (e : Ending) (w' : World) : Prop := e = .returned (.int .i64 (rest.headD (-1))) ∧ TReader w' lo g rest.tail ls ∧ Below lo w w'
theorem take_any (lo g : Nat) (rest : List Int) (ls : List (Int × Int)) (w : World) (h : TReader w lo g rest ls) :
    Calls Try.prog 190 #[.pointer (some ⟨g, 0, none⟩)] w (TakePost lo g rest ls w) := by
  have hlt := h.lt
  have hge := h.ge
  have HR := Lib.hid h
  obtain ⟨rv, lv, us, h⟩ := h
  have hrd := h.rd
  have c0 := h.blk.cell 0
  have f0 := h.blk.free 0
  simp only [List.getElem?_toArray, List.getElem?_cons_zero] at c0
  rcases rest with _ | ⟨z, r⟩
  · obtain ⟨A, c, rfl, _⟩ := hrd
    rw [List.length_nil] at c0
    clear h
    go_enter Try.func190, Try.ntmps190
    go_wp2
    go_ret
    exact ⟨rfl, HR.out, Below.refl _ _⟩
  · have hrd2 := hrd
    obtain ⟨A, c, rfl, hi, hc⟩ := hrd
    have hm := hi.len
    obtain ⟨b, off, rfl, hb, hcc⟩ := hi.at_ (by simp)
    have hcell := hcc 0 (by simp)
    simp only [Nat.add_zero, List.getD_cons_zero] at hcell
    have hpos : (0 : Int) < ((z :: r).length : Int) := by rw [List.length_cons]; omega
    have hposb : (((z :: r).length : Int) == 0) = false := by rw [beq_eq_false_iff_ne]; omega
    have h1 : 1 ≤ (z :: r).length := by rw [List.length_cons]; omega
    have HX : Hid (∀ o n d, (o = off + 1 ∨ r = []) → n = r.length → r.length ≤ d → TReader (w.setCell ⟨g, 0, none⟩ (.slice (some ⟨b, o, none⟩) n d)) lo g r ls ∧ Below lo w (w.setCell ⟨g, 0, none⟩ (.slice (some ⟨b, o, none⟩) n d))) := Lib.hid fun o n d ho hn hd => by
      have hB : Below lo w (w.setCell ⟨g, 0, none⟩ (.slice (some ⟨b, o, none⟩) n d)) := (Below.refl lo w).setCell (by simpa using hge) _
      exact ⟨⟨_, lv, us, h.keep (fun k _ hne => Below.heap_setCell _ _ _ _ (by simpa using hne)) (h.blk.set 0 _) ((rdB_tail hrd2 ho hn hd).below hB)⟩, hB⟩
    have hl : (z :: r).length = r.length + 1 := rfl
    clear h hi hcc hrd2 HR
    generalize hL : (z :: r).length = L at *
    rcases Nat.lt_or_ge c 2 with hc2 | hc2
    · have hc1 : c = 1 := by omega
      have hL1 : L = 1 := by omega
      subst hc1
      subst hL1
      have hr0 : r = [] := List.eq_nil_of_length_eq_zero (by omega)
      clear hL hl
      go_enter Try.func190, Try.ntmps190
      go_wp2
      go_ret
      exact ⟨rfl, HX.out _ _ _ (.inr hr0) (by rw [hr0]; rfl) (by rw [hr0]; simp)⟩
    · go_enter Try.func190, Try.ntmps190
      go_wp2
      go_ret
      exact ⟨rfl, HX.out _ _ _ (.inl rfl) (by omega) (by omega)⟩

/-- A slice of pointers. -/
def Ptrs (w : World) (v : Value) (ps : List (Option Addr)) : Prop := ∃ A c, v = .slice A ps.length c ∧ (0 < ps.length → ∃ b off, A = some ⟨b, off, none⟩ ∧ ∀ (j : Nat) p, ps[j]? = some p → w.cell? ⟨b, off + j, none⟩ = some (.pointer p))
theorem eql_nil_ptr (w : World) (t te : TypeId) (a : Addr) (h : Try.prog.underlying t = some (.pointer te)) : (binOp .eql t (.pointer none) (.pointer (some a))).run Try.prog w = .ok (.bool false) w := by
  have h2 : ∀ d : Nat, (Op.equalIn (d + 1) t (.pointer none) (.pointer (some a))).run Try.prog w = .ok false w := fun d => by simp [Op.equalIn, run_underlying h]
  simp only [binOp]
  simp [Op.equal, Op.maxDepth, h2 9999]
theorem index_ptr (v : Value) (ps : List (Option Addr)) (w : World) (h : Ptrs w v ps) (hl : ps.length ≤ 1000) :
    Calls Try.prog 202 #[v, .pointer none] w fun e w' => ∃ i : Int, e = .returned (.int .i64 i) ∧ (none ∈ ps → 0 ≤ i) ∧ (none ∉ ps → i = -1) ∧ w = w' := by
  obtain ⟨A, c, rfl, hc⟩ := h
  have Hc := Lib.hid hc; clear hc
  have heq := fun (W : World) (a : Addr) => eql_nil_ptr W 117 164 a Try.underlying117
  go_enter Try.func202, Try.ntmps202
  go_wp2
  go_loop [8] (fun i => ∃ k : Nat, k ≤ ps.length ∧ i = .int .i64 k ∧ none ∉ ps.take k) (fun i => ps.length - (intOf i).toNat)
  case atStart => exact ⟨0, Nat.zero_le _, rfl, by simp⟩
  case round =>
    obtain ⟨k, hk, rfl, hno⟩ := hrel
    by_cases hlt : k < ps.length
    · obtain ⟨b, off, rfl, hcell⟩ := Hc.out (by omega)
      have hp : ps[k]? = some ps[k] := List.getElem?_eq_getElem hlt
      have hc := hcell k _ hp
      have htk : ps.take (k + 1) = ps.take k ++ [ps[k]] := by rw [List.take_add_one, hp]; rfl
      have hltI : (k : Int) < ps.length := by omega
      have hmem : ps[k] ∈ ps := List.getElem_mem hlt
      clear hcell hp
      generalize ps[k] = p at *
      have K := Lib.hid (And.intro hno (And.intro htk hmem)); clear hno htk hmem
      rcases p with _ | a
      · go_wp2
        go_ret
        exact ⟨_, rfl, fun _ => by omega, fun h => absurd K.out.2.2 h, rfl⟩
      · go_wp2
        go_round
        case rel => exact ⟨k + 1, by omega, by go_num, by rw [K.out.2.1]; simpa using K.out.1⟩
        case measure => simp [intOf]; omega
    · have hno2 : none ∉ ps := by rw [List.take_of_length_le (by omega)] at hno; exact hno
      have K := Lib.hid hno2; clear hno hno2
      go_wp2
      go_ret
      exact ⟨_, rfl, fun h => absurd h K.out, fun _ => rfl, rfl⟩
theorem contains_ptr (v : Value) (ps : List (Option Addr)) (w : World) (h : Ptrs w v ps) (hl : ps.length ≤ 1000) :
    Calls Try.prog 201 #[v, .pointer none] w fun e w' => ∃ b : Bool, e = .returned (.bool b) ∧ (none ∈ ps → b = true) ∧ (none ∉ ps → b = false) ∧ w = w' := by
  have H := Lib.hid h; clear h
  go_enter Try.func201, Try.ntmps201
  go_wp2_with fail
  refine (index_ptr v ps _ H.out hl).mono ?_
  rintro e w' ⟨i, rfl, h1, h2, rfl⟩
  have K := Lib.hid (And.intro h1 h2); clear h1 h2
  go_wp2
  go_ret
  exact ⟨_, rfl, fun h => by simpa using K.out.1 h, fun h => by rw [K.out.2 h]; rfl, rfl⟩
theorem madeOf_any (kind : Int) (v : Value) (ps : List (Option Addr)) (w : World) (h : Ptrs w v ps) (hl : ps.length ≤ 1000) :
    Calls Try.prog 193 #[.int .i64 kind, v] w fun e w' => ∃ q, e = .returned (.pointer q) ∧ (none ∈ ps → q = none) ∧ (none ∉ ps → q ≠ none) ∧ Below w.heap.size w w' := by
  have H := Lib.hid h
  obtain ⟨A, c, rfl, _⟩ := h
  go_enter Try.func193, Try.ntmps193
  go_wp2_with fail
  refine (contains_ptr _ ps _ H.out hl).mono ?_
  rintro e w' ⟨b, rfl, h1, h2, rfl⟩
  rcases b with _ | _
  · have hb : Below w.heap.size w (w.alloc (.cells #[.int .i64 kind, .int .i64 0, .slice A ps.length c, .pointer none, .int .i64 0] 164)) := (Below.refl _ _).alloc (Nat.le_refl _) _
    have hno : none ∉ ps := fun h => by have := h1 h; cases this
    have K := Lib.hid (And.intro hb hno); clear h1 h2 hb hno
    go_wp2
    go_ret
    exact ⟨_, rfl, fun h => absurd h K.out.2, fun _ => by simp, K.out.1⟩
  · have hno : ¬ none ∉ ps := fun h => by have := h2 h; cases this
    have K := Lib.hid hno; clear h1 h2 hno
    go_wp2
    go_ret
    exact ⟨_, rfl, fun _ => rfl, fun h => absurd h K.out, Below.refl _ _⟩

/-- A letter is read once. -/
def addL (ls : List (Int × Int)) (kn : Int × Int) : List (Int × Int) := if kn ∈ ls then ls else ls ++ [kn]
def LetterPost (kind : Int) (lo g : Nat) (n : Int) (r : List Int) (ls : List (Int × Int)) (w : World) (e : Ending) (w' : World) : Prop :=
  ∃ p ls', e = .returned (.pointer p) ∧ TReader w' lo g r ls' ∧ Below lo w w' ∧ (0 ≤ n ∧ n ≤ 999 → p ≠ none ∧ ls' = addL ls (kind, n)) ∧ (¬ (0 ≤ n ∧ n ≤ 999) → p = none ∧ ls' = ls)
set_option maxHeartbeats 1000000 in
theorem letter_any (kind : Int) (lo g : Nat) (rest : List Int) (n : Int) (r : List Int) (ls : List (Int × Int)) (w : World) (h : TReader w lo g rest ls) (hl : ls.length ≤ 1000000) (hn : rest.headD (-1) = n) (hr : rest.tail = r) :
    Calls Try.prog 191 #[.pointer (some ⟨g, 0, none⟩), .int .i64 kind] w (LetterPost kind lo g n r ls w) := by
  have H := Lib.hid h; clear h
  go_enter Try.func191, Try.ntmps191
  go_wp2_with fail
  refine (take_any lo g rest ls _ H.out).mono ?_
  rintro e w1 ⟨rfl, q1, q2⟩
  rw [hr] at q1
  rw [hn]
  clear hn hr H
  have hlt := q1.lt
  have hge := q1.ge
  by_cases hn : 0 ≤ n ∧ n ≤ 999
  · obtain ⟨hn0, hn1⟩ := hn
    have HQ := Lib.hid (And.intro q1 q2)
    obtain ⟨rv, lv, us, h⟩ := q1
    obtain ⟨A, c, rfl⟩ := ownsRow_form h.row
    have c1 := h.blk.cell 1
    simp only [List.getElem?_toArray, List.getElem?_cons_zero, List.getElem?_cons_succ] at c1
    have HT := Lib.hid h; clear h q2
    go_wp2
    go_loop [22] (fun i => ∃ k : Nat, k ≤ ls.length ∧ i = .int .i64 k ∧ (kind, n) ∉ ls.take k) (fun i => ls.length - (intOf i).toNat)
    case atStart => exact ⟨0, Nat.zero_le _, rfl, by simp⟩
    case round =>
      obtain ⟨k, hk, rfl, hno⟩ := hrel
      by_cases hlt : k < ls.length
      · obtain ⟨⟨kn1, kn2⟩, hkn⟩ : ∃ kn, ls[k]? = some kn := ⟨ls[k], List.getElem?_eq_getElem hlt⟩
        have htk : ls.take (k + 1) = ls.take k ++ [(kn1, kn2)] := by rw [List.take_add_one, hkn]; rfl
        have hmem : (kn1, kn2) ∈ ls := List.mem_of_getElem? hkn
        have hul : us.length = ls.length := HT.out.len
        obtain ⟨u, hu⟩ : ∃ u, us[k]? = some u := ⟨us[k]'(by omega), List.getElem?_eq_getElem (by omega)⟩
        obtain ⟨b, rfl, hlb, c2, c3, c4, hblk⟩ := HT.out.term k u _ hu hkn
        obtain ⟨gl, rfl⟩ : ∃ gl, A = some ⟨gl, 0, none⟩ := by
          rcases HT.out.row.2 with ⟨_, h1⟩ | ⟨gl, cap, cur, he, _⟩
          · omega
          · cases he; exact ⟨gl, rfl⟩
        have hrow := HT.out.row
        have hcell : w1.cell? ⟨gl, k, none⟩ = some (.pointer (some ⟨b, 0, none⟩)) := by
          rw [hrow.cellAt k (by omega)]; exact hu
        have t0 := hblk.cell 0
        have t1 := hblk.cell 1
        simp only [List.getElem?_toArray, List.getElem?_cons_zero, List.getElem?_cons_succ] at t0 t1
        have hltI : (k : Int) < ls.length := by omega
        clear hu hkn hblk hul hrow
        by_cases e1 : kn1 = kind
        · subst e1
          have b1 : (kn1 == kn1) = true := by simp
          by_cases e2 : kn2 = n
          · subst e2
            have b2 : (kn2 == kn2) = true := by simp
            have ha : ls = addL ls (kn1, kn2) := by rw [addL, if_pos hmem]
            have K := Lib.hid ha; clear ha hmem htk hno
            go_wp2
            go_ret
            exact ⟨_, _, rfl, HQ.out.1, HQ.out.2, fun _ => ⟨by simp, K.out⟩, fun h => absurd ⟨hn0, hn1⟩ h⟩
          · have b2 : (kn2 == n) = false := by simpa using e2
            have K : Hid ((kn1, n) ∉ ls.take (k + 1)) := Lib.hid (by rw [htk]; simp only [List.mem_append, List.mem_singleton, not_or]; exact ⟨hno, fun e => e2 (by cases e; rfl)⟩)
            clear hmem htk hno e2
            go_wp2
            go_round
            case rel => exact ⟨k + 1, by omega, by go_num, K.out⟩
            case measure => simp [intOf]; omega
        · have b1 : (kn1 == kind) = false := by simpa using e1
          have K : Hid ((kind, n) ∉ ls.take (k + 1)) := Lib.hid (by rw [htk]; simp only [List.mem_append, List.mem_singleton, not_or]; exact ⟨hno, fun e => e1 (by cases e; rfl)⟩)
          clear hmem htk hno e1
          go_wp2
          go_round
          case rel => exact ⟨k + 1, by omega, by go_num, K.out⟩
          case measure => simp [intOf]; omega
      · have hno2 : (kind, n) ∉ ls := by rw [List.take_of_length_le (by omega)] at hno; exact hno
        have ha : ls ++ [(kind, n)] = addL ls (kind, n) := by rw [addL, if_neg hno2]
        have HA := Lib.hid ha; clear hno hno2 ha
        have hkl : ¬ ((k : Int) < ls.length) := by omega
        have hrowB : Hid (((w1.alloc (.cells #[.int .i64 kind, .int .i64 n, .slice none 0 0, .pointer none, .int .i64 0] 164)).alloc (.cells #[.pointer (some ⟨w1.heap.size, 0, none⟩)] 117)).ownsRow lo 117 1 (.slice A ls.length c) ls.length us) := Lib.hid ((HT.out.row.alloc _).alloc _)
        have Hn : Hid (((w1.alloc (.cells #[.int .i64 kind, .int .i64 n, .slice none 0 0, .pointer none, .int .i64 0] 164)).alloc (.cells #[.pointer (some ⟨w1.heap.size, 0, none⟩)] 117)).cell? ⟨w1.heap.size + 1, 0, none⟩ = some (.pointer (some ⟨w1.heap.size, 0, none⟩))) := Lib.hid (by have h := (Blk.new (w1.alloc (.cells #[.int .i64 kind, .int .i64 n, .slice none 0 0, .pointer none, .int .i64 0] 164)) #[.pointer (some ⟨w1.heap.size, 0, none⟩)] 117).cell 0; rw [World.size_alloc] at h; exact h)
        go_wp2_with (at_builtin; refine wpList_append_one rfl (.tmp 50) (.tmp 52) _ rfl lo 117 _ 8 Try.underlying118 ptrInfo (by omega) rfl _ ls.length us rfl hrowB.out (w1.heap.size + 1) 1 (.pointer (some ⟨w1.heap.size, 0, none⟩)) rfl Hn.out rfl (by omega) (by simp; omega) ?_)
        intro v2 w2 hrow2 hg2 hown
        obtain ⟨g2, cap2, rfl⟩ := ownsRow_succ hrow2
        have hvne := ownsRow_ne HT.out.row HT.out.blk (by decide)
        have hsz2 : w1.heap.size + 1 + 1 ≤ w2.heap.size := by have := hg2.size; simpa using this
        have hbk : ∀ q, q < w1.heap.size → some q ≠ (Value.slice A ls.length c).ownBlock → w2.heap[q]? = w1.heap[q]? := fun q hq hne => (hg2.block q (by simp; omega) hne).trans ((Below.heap_alloc _ _ _ (by simp; omega)).trans (Below.heap_alloc _ _ _ hq))
        have hblk2 : Blk w2 g #[rv, .slice A ls.length c] 133 := (hbk g HT.out.blk.lt (fun e => hvne e.symm)).trans HT.out.blk
        have c2 := hblk2.cell 1
        have f2 := hblk2.free 1
        simp only [List.getElem?_toArray, List.getElem?_cons_zero, List.getElem?_cons_succ] at c2
        have hT0 : Blk w2 w1.heap.size #[.int .i64 kind, .int .i64 n, .slice none 0 0, .pointer none, .int .i64 0] 164 := by
          have h1 := (Blk.new w1 #[.int .i64 kind, .int .i64 n, .slice none 0 0, .pointer none, .int .i64 0] 164).below ((Below.refl (w1.heap.size + 1) _).alloc (by simp) (.cells #[.pointer (some ⟨w1.heap.size, 0, none⟩)] 117)) (by omega)
          refine (hg2.block _ (by simp; omega) (fun e => ?_)).trans h1
          have := (HT.out.row.lt _ e.symm).2
          omega
        have X : Hid (TReader (w2.setCell ⟨g, 1, none⟩ (.slice (some ⟨g2, 0, none⟩) (ls.length + 1) cap2)) lo g r (addL ls (kind, n)) ∧ Below lo w (w2.setCell ⟨g, 1, none⟩ (.slice (some ⟨g2, 0, none⟩) (ls.length + 1) cap2))) := Lib.hid (by
          have hB1 : Below lo w1 w2 := ((((Below.refl lo w1).alloc (by omega) _).alloc (by simp; omega) _).grown hg2 (by simp; omega) (fun q hq => (HT.out.row.lt q hq).1))
          have hB : Below lo w1 (w2.setCell ⟨g, 1, none⟩ (.slice (some ⟨g2, 0, none⟩) (ls.length + 1) cap2)) := hB1.setCell (by simpa using hge) _
          refine ⟨?_, HQ.out.2.trans hB⟩
          rw [← HA.out]
          refine ⟨rv, _, us ++ [.pointer (some ⟨w1.heap.size, 0, none⟩)], hblk2.set 1 _, hge, HT.out.rd.below hB, ?_, by simp [HT.out.len], fun j u kn hu hz => ?_⟩
          · refine ownsRow_keep (by simpa using hrow2) fun q hq => Below.heap_setCell _ _ _ _ ?_
            have h2 := ownsRow_ne hrow2 hblk2 (by decide)
            simp only
            exact fun e => h2 (by rw [hq, e])
          · by_cases hj : j < us.length
            · rw [List.getElem?_append_left hj] at hu
              rw [List.getElem?_append_left (by rw [← HT.out.len]; exact hj)] at hz
              obtain ⟨b, h1, h2, d2, d3, d4, h3⟩ := HT.out.term j u kn hu hz
              refine ⟨b, h1, h2, d2, d3, d4, ((Below.heap_setCell _ _ _ _ ?_).trans (hbk b h3.lt (fun e => ?_))).trans h3⟩
              · simp only
                rintro rfl
                have h4 := HT.out.blk
                unfold Blk at h3 h4
                rw [h3] at h4
                injection h4 with h4
                injection h4 with _ h5
                exact absurd h5 (by decide)
              · exact ownsRow_ne HT.out.row h3 (by decide) e.symm
            · have hjl : j = us.length := by
                rcases Nat.lt_or_ge j (us.length + 1) with h' | h'
                · omega
                · rw [List.getElem?_eq_none (by simp; omega)] at hu; cases hu
              subst hjl
              rw [List.getElem?_append_right (by omega)] at hu
              rw [List.getElem?_append_right (by rw [HT.out.len]; omega)] at hz
              simp at hu
              simp [HT.out.len] at hz
              subst hu; subst hz
              refine ⟨w1.heap.size, rfl, by omega, _, _, _, (Below.heap_setCell _ _ _ _ ?_).trans hT0⟩
              simp only
              omega)
        clear hrow2 hg2 hown hbk hblk2 hvne hT0
        go_wp2
        go_ret
        exact ⟨_, _, rfl, X.out.1, X.out.2, fun _ => ⟨by simp, rfl⟩, fun h => absurd ⟨hn0, hn1⟩ h⟩
  · have K := Lib.hid (And.intro q1 q2); clear q1 q2
    by_cases hn0 : n < 0
    · go_wp2
      go_ret
      exact ⟨_, _, rfl, K.out.1, K.out.2, fun h => by omega, fun _ => ⟨rfl, rfl⟩⟩
    · have hn1 : 999 < n := by omega
      go_wp2
      go_ret
      exact ⟨_, _, rfl, K.out.1, K.out.2, fun h => by omega, fun _ => ⟨rfl, rfl⟩⟩

/-- What is left behind the row (true), or the type, that begins here. -/
def eat : Nat → Bool → List Int → Option (List Int)
  | 0, _, _ => none
  | n + 1, true, zs => if zs.headD (-1) = 3 then (if 0 ≤ zs.tail.headD (-1) ∧ zs.tail.headD (-1) ≤ 999 then some zs.tail.tail else none)
    else if zs.headD (-1) = 4 then (eat n true zs.tail).bind (eat n false) else none
  | n + 1, false, zs => if zs.headD (-1) = 0 then some zs.tail
    else if zs.headD (-1) = 1 then (if 0 ≤ zs.tail.headD (-1) ∧ zs.tail.headD (-1) ≤ 999 then some zs.tail.tail else none)
    else if zs.headD (-1) = 2 then (eat n true zs.tail).bind (eat n true) else none
/-- The letters read there, behind those of before. -/
def lets : Nat → Bool → List Int → List (Int × Int) → List (Int × Int)
  | 0, _, _, ls => ls
  | n + 1, true, zs, ls => if zs.headD (-1) = 3 then addL ls (3, zs.tail.headD (-1)) else lets n false ((eat n true zs.tail).getD []) (lets n true zs.tail ls)
  | n + 1, false, zs, ls => if zs.headD (-1) = 0 then ls else if zs.headD (-1) = 1 then addL ls (1, zs.tail.headD (-1)) else lets n true ((eat n true zs.tail).getD []) (lets n true zs.tail ls)
theorem eat_len {n : Nat} {b : Bool} {zs r : List Int} (h : eat n b zs = some r) : r.length < zs.length := by
  induction n generalizing b zs r with
  | zero => cases h
  | succ n ih =>
    have hne : ∀ {x : Int}, zs.headD (-1) = x → x ≠ -1 → zs.tail.length < zs.length := fun hx h1 => by
      rcases zs with _ | ⟨z, zs⟩
      · exact absurd hx.symm (by simpa using h1)
      · simp
    rcases b with _ | _
    · rw [eat] at h
      split at h
      · rename_i e; cases h; exact hne e (by decide)
      split at h
      · rename_i e
        split at h
        · cases h; have := hne e (by decide); rw [List.length_tail]; omega
        · cases h
      split at h
      · rename_i e
        rcases h1 : eat n true zs.tail with _ | r1
        · rw [h1] at h; cases h
        · rw [h1] at h
          have := ih h1; have := ih h; have := hne e (by decide); omega
      · cases h
    · rw [eat] at h
      split at h
      · rename_i e
        split at h
        · cases h; have := hne e (by decide); rw [List.length_tail]; omega
        · cases h
      split at h
      · rename_i e
        rcases h1 : eat n true zs.tail with _ | r1
        · rw [h1] at h; cases h
        · rw [h1] at h
          have := ih h1; have := ih h; have := hne e (by decide); omega
      · cases h

def RowPost (n : Nat) (b : Bool) (lo g : Nat) (rest : List Int) (ls : List (Int × Int)) (w : World) (e : Ending) (w' : World) : Prop :=
  ∃ p rest' ls', e = .returned (.pointer p) ∧ TReader w' lo g rest' ls' ∧ Below lo w w' ∧ rest'.length ≤ rest.length ∧ ls'.length + rest'.length ≤ ls.length + rest.length ∧ (eat n b rest = none → p = none) ∧ (∀ r, eat n b rest = some r → p ≠ none ∧ rest' = r ∧ ls' = lets n b rest ls)
theorem tail_lt {r : List Int} (h : 0 ≤ r.headD (-1)) : r.tail.length + 1 ≤ r.length := by
  rcases r with _ | ⟨y, r⟩
  · simp at h
  · simp
theorem comb {n : Nat} {b b2 : Bool} {rest r rest1 rest2 : List Int} {ls ls1 ls2 : List (Int × Int)} {p1 p2 q : Option Addr}
    (hE : eat (n + 1) b rest = (eat n true r).bind (eat n b2)) (hL : lets (n + 1) b rest ls = lets n b2 ((eat n true r).getD []) (lets n true r ls))
    (h1 : (eat n true r = none → p1 = none) ∧ (∀ x, eat n true r = some x → p1 ≠ none ∧ rest1 = x ∧ ls1 = lets n true r ls))
    (h2 : (eat n b2 rest1 = none → p2 = none) ∧ (∀ x, eat n b2 rest1 = some x → p2 ≠ none ∧ rest2 = x ∧ ls2 = lets n b2 rest1 ls1))
    (hq : (none ∈ [p1, p2] → q = none) ∧ (none ∉ [p1, p2] → q ≠ none)) :
    (eat (n + 1) b rest = none → q = none) ∧ (∀ x, eat (n + 1) b rest = some x → q ≠ none ∧ rest2 = x ∧ ls2 = lets (n + 1) b rest ls) := by
  rw [hE, hL]
  rcases he : eat n true r with _ | r1
  · refine ⟨fun _ => hq.1 (by simp [h1.1 he]), fun x hx => by cases hx⟩
  · obtain ⟨k1, rfl, rfl⟩ := h1.2 _ he
    simp only [Option.bind_some, Option.getD_some]
    refine ⟨fun hn => hq.1 (by simp [h2.1 hn]), fun x hx => ?_⟩
    obtain ⟨k2, rfl, rfl⟩ := h2.2 _ hx
    exact ⟨hq.2 (by simp only [List.mem_cons, List.not_mem_nil, or_false, not_or]; exact ⟨fun e => k1 e.symm, fun e => k2 e.symm⟩), rfl, rfl⟩
theorem ptrs_two (w : World) (p1 p2 : Option Addr) : Ptrs (w.alloc (.cells #[.pointer p1, .pointer p2] 117)) (.slice (some ⟨w.heap.size, 0, none⟩) 2 2) [p1, p2] := by
  have h := Blk.new w #[.pointer p1, .pointer p2] 117
  refine ⟨_, 2, rfl, fun _ => ⟨w.heap.size, 0, rfl, fun j p hj => ?_⟩⟩
  rw [Nat.zero_add, h.cell j]
  rcases j with _ | _ | j
  · simp at hj ⊢; exact hj
  · simp at hj ⊢; exact hj
  · simp at hj

set_option maxHeartbeats 4000000 in
theorem row_val (lo g n : Nat) :
    (∀ rest ls w, rest.length ≤ n → TReader w lo g rest ls → ls.length + rest.length ≤ 1000000 → Calls Try.prog 168 #[.pointer (some ⟨g, 0, none⟩)] w (RowPost n true lo g rest ls w)) ∧
    (∀ rest ls w, rest.length ≤ n → TReader w lo g rest ls → ls.length + rest.length ≤ 1000000 → Calls Try.prog 192 #[.pointer (some ⟨g, 0, none⟩)] w (RowPost n false lo g rest ls w)) := by
  induction n with
  | zero =>
    constructor
    all_goals
      intro rest ls w hn h hl
      obtain rfl : rest = [] := List.eq_nil_of_length_eq_zero (by omega)
      have H := Lib.hid h; clear h
    · go_enter Try.func168, Try.ntmps168
      go_wp2_with fail
      refine (take_any lo g [] ls _ H.out).mono ?_
      rintro e w1 ⟨rfl, q1, q2⟩
      have K := Lib.hid (And.intro q1 q2); clear q1 q2
      simp only [List.headD_nil]
      go_wp2
      go_ret
      exact ⟨none, [], ls, rfl, K.out.1, K.out.2, by simp, by simp, fun _ => rfl, fun r h => by cases h⟩
    · go_enter Try.func192, Try.ntmps192
      go_wp2_with fail
      refine (take_any lo g [] ls _ H.out).mono ?_
      rintro e w1 ⟨rfl, q1, q2⟩
      have K := Lib.hid (And.intro q1 q2); clear q1 q2
      simp only [List.headD_nil]
      go_wp2
      go_ret
      exact ⟨none, [], ls, rfl, K.out.1, K.out.2, by simp, by simp, fun _ => rfl, fun r h => by cases h⟩
  | succ n ih =>
    have ih1 := Lib.hid ih.1
    have ih2 := Lib.hid ih.2
    clear ih
    constructor
    · intro rest ls w hn h hl
      have H := Lib.hid h; clear h
      obtain ⟨z, hz⟩ : ∃ z, rest.headD (-1) = z := ⟨_, rfl⟩
      obtain ⟨r, hr⟩ : ∃ r, rest.tail = r := ⟨_, rfl⟩
      have hE : eat (n + 1) true rest = if z = 3 then (if 0 ≤ r.headD (-1) ∧ r.headD (-1) ≤ 999 then some r.tail else none) else if z = 4 then (eat n true r).bind (eat n false) else none := by rw [eat, hz, hr]
      have hL : lets (n + 1) true rest ls = if z = 3 then addL ls (3, r.headD (-1)) else lets n false ((eat n true r).getD []) (lets n true r ls) := by rw [lets, hz, hr]
      have hrl : r.length ≤ n := by rw [← hr, List.length_tail]; omega
      have hrl2 : r.length ≤ rest.length := by rw [← hr, List.length_tail]; omega
      have HE := Lib.hid (And.intro hE hL); clear hE hL
      go_enter Try.func168, Try.ntmps168
      go_wp2_with fail
      refine (take_any lo g rest ls _ H.out).mono ?_
      rintro e w1 ⟨e1, q1, q2⟩
      rw [hz] at e1
      rw [hr] at q1
      subst e1
      have hlt1 := q1.lt
      have X := Lib.hid (And.intro q1 q2); clear q1 q2 H hz hr
      by_cases h3 : z = 3
      · have hb : (z == 3) = true := by rw [h3]; rfl
        subst h3
        go_wp2_with fail
        refine (letter_any 3 lo g r _ r.tail ls _ X.out.1 (by omega) rfl rfl).mono ?_
        rintro e w2 ⟨p, ls', rfl, k1, k2, k3, k4⟩
        have hE : eat (n + 1) true rest = if 0 ≤ r.headD (-1) ∧ r.headD (-1) ≤ 999 then some r.tail else none := by rw [HE.out.1]; simp
        have hL : lets (n + 1) true rest ls = addL ls (3, r.headD (-1)) := by rw [HE.out.2]; simp
        have hadd : ∀ kn, (addL ls kn).length ≤ ls.length + 1 := fun kn => by unfold addL; split <;> simp
        have hfin : r.tail.length ≤ rest.length ∧ ls'.length + r.tail.length ≤ ls.length + rest.length ∧ (eat (n + 1) true rest = none → p = none) ∧ (∀ x, eat (n + 1) true rest = some x → p ≠ none ∧ r.tail = x ∧ ls' = lets (n + 1) true rest ls) := by
          have h1 : r.tail.length ≤ r.length := by rw [List.length_tail]; omega
          by_cases hc : 0 ≤ r.headD (-1) ∧ r.headD (-1) ≤ 999
          · obtain ⟨k5, k6⟩ := k3 hc
            rw [hE, if_pos hc, hL]
            have hr1 : r.tail.length + 1 ≤ r.length := tail_lt hc.1
            have := hadd (3, r.headD (-1))
            rw [← k6] at this
            exact ⟨by omega, by omega, fun h => (by cases h), fun x hx => (by cases hx; exact ⟨k5, rfl, k6⟩)⟩
          · obtain ⟨k5, k6⟩ := k4 hc
            rw [hE, if_neg hc]
            exact ⟨by omega, by rw [k6]; omega, fun _ => k5, fun x hx => by cases hx⟩
        have V := Lib.hid (And.intro k1 (And.intro (X.out.2.trans k2) hfin)); clear k1 k2 k3 k4 hE hL hadd hfin
        go_wp2
        go_ret
        exact ⟨_, _, _, rfl, V.out⟩
      have hb3 : (z == 3) = false := by simpa using h3
      by_cases h4 : z = 4
      · have hb : (z == 4) = true := by rw [h4]; rfl
        subst h4
        have hE : eat (n + 1) true rest = (eat n true r).bind (eat n false) := by rw [HE.out.1]; simp
        have hL : lets (n + 1) true rest ls = lets n false ((eat n true r).getD []) (lets n true r ls) := by rw [HE.out.2]; simp
        have HEL := Lib.hid (And.intro hE hL); clear hE hL HE
        go_wp2_with fail
        refine (ih1.out r ls _ hrl X.out.1 (by omega)).mono ?_
        rintro e w2 ⟨p1, r1, ls1, rfl, k1, k2, k3, k4, k5, k6⟩
        have hlt2 := k1.lt
        have Y := Lib.hid (And.intro k1 (And.intro (X.out.2.trans k2) (And.intro k5 k6))); clear k1 k2 k5 k6 X
        go_wp2_with fail
        refine (ih2.out r1 ls1 _ (by omega) Y.out.1 (by omega)).mono ?_
        rintro e w3 ⟨p2, r2, ls2, rfl, k1, k2, k5, k6, k7, k8⟩
        have hlt3 := k1.lt
        have hge3 := k1.ge
        have hal : Below w3.heap.size w3 (w3.alloc (.cells #[.pointer p1, .pointer p2] 117)) := (Below.refl _ _).alloc (Nat.le_refl _) _
        have V := Lib.hid (And.intro (k1.step hal) (And.intro (Y.out.2.1.trans (k2.trans (hal.mono (by omega)))) (And.intro (And.intro k7 k8) (And.intro Y.out.2.2 (ptrs_two w3 p1 p2))))); clear k1 k2 k7 k8 hal Y
        go_wp2_with fail
        refine (madeOf_any 4 _ [p1, p2] _ V.out.2.2.2.2 (by simp)).mono ?_
        rintro e w4 ⟨q, rfl, m1, m2, m3⟩
        have hfin := comb HEL.out.1 HEL.out.2 V.out.2.2.2.1 V.out.2.2.1 ⟨m1, m2⟩
        have U := Lib.hid (And.intro (V.out.1.step m3) (And.intro (V.out.2.1.trans (m3.mono (by simp; omega))) hfin)); clear m1 m2 m3 hfin V
        go_wp2
        go_ret
        exact ⟨_, _, _, rfl, U.out.1, U.out.2.1, by omega, by omega, U.out.2.2⟩
      have hb4 : (z == 4) = false := by simpa using h4
      have hE : eat (n + 1) true rest = none := by rw [HE.out.1]; simp [*]
      have V := Lib.hid (And.intro X.out.1 (And.intro X.out.2 hE)); clear hE X HE ih1 ih2
      go_wp2
      go_ret
      exact ⟨none, r, ls, rfl, V.out.1, V.out.2.1, by omega, by omega, fun _ => rfl, fun x hx => by rw [V.out.2.2] at hx; cases hx⟩
    · intro rest ls w hn h hl
      have H := Lib.hid h; clear h
      obtain ⟨z, hz⟩ : ∃ z, rest.headD (-1) = z := ⟨_, rfl⟩
      obtain ⟨r, hr⟩ : ∃ r, rest.tail = r := ⟨_, rfl⟩
      have hE : eat (n + 1) false rest = if z = 0 then some r else if z = 1 then (if 0 ≤ r.headD (-1) ∧ r.headD (-1) ≤ 999 then some r.tail else none) else if z = 2 then (eat n true r).bind (eat n true) else none := by rw [eat, hz, hr]
      have hL : lets (n + 1) false rest ls = if z = 0 then ls else if z = 1 then addL ls (1, r.headD (-1)) else lets n true ((eat n true r).getD []) (lets n true r ls) := by rw [lets, hz, hr]
      have hrl : r.length ≤ n := by rw [← hr, List.length_tail]; omega
      have hrl2 : r.length ≤ rest.length := by rw [← hr, List.length_tail]; omega
      have HE := Lib.hid (And.intro hE hL); clear hE hL
      go_enter Try.func192, Try.ntmps192
      go_wp2_with fail
      refine (take_any lo g rest ls _ H.out).mono ?_
      rintro e w1 ⟨e1, q1, q2⟩
      rw [hz] at e1
      rw [hr] at q1
      subst e1
      have hlt1 := q1.lt
      have X := Lib.hid (And.intro q1 q2); clear q1 q2 H hz hr
      by_cases h0 : z = 0
      · have hb : (z == 0) = true := by rw [h0]; rfl
        subst h0
        have hE : eat (n + 1) false rest = some r := by rw [HE.out.1]; simp
        have hL : lets (n + 1) false rest ls = ls := by rw [HE.out.2]; simp
        have HEL := Lib.hid (And.intro hE hL); clear hE hL HE
        go_wp2_with fail
        refine (madeOf_any 0 _ [] _ ⟨none, 0, rfl, fun h => by simp at h⟩ (by simp)).mono ?_
        rintro e w4 ⟨q, rfl, m1, m2, m3⟩
        have hge1 := X.out.1.ge
        have U := Lib.hid (And.intro (X.out.1.step m3) (And.intro (X.out.2.trans (m3.mono (by omega))) (m2 (by simp)))); clear m1 m2 m3 X
        go_wp2
        go_ret
        exact ⟨_, _, _, rfl, U.out.1, U.out.2.1, by omega, by omega, fun h => (by rw [HEL.out.1] at h; cases h), fun x hx => (by rw [HEL.out.1] at hx; cases hx; exact ⟨U.out.2.2, rfl, HEL.out.2.symm⟩)⟩
      have hb0 : (z == 0) = false := by simpa using h0
      by_cases h1 : z = 1
      · have hb : (z == 1) = true := by rw [h1]; rfl
        subst h1
        go_wp2_with fail
        refine (letter_any 1 lo g r _ r.tail ls _ X.out.1 (by omega) rfl rfl).mono ?_
        rintro e w2 ⟨p, ls', rfl, k1, k2, k3, k4⟩
        have hE : eat (n + 1) false rest = if 0 ≤ r.headD (-1) ∧ r.headD (-1) ≤ 999 then some r.tail else none := by rw [HE.out.1]; simp
        have hL : lets (n + 1) false rest ls = addL ls (1, r.headD (-1)) := by rw [HE.out.2]; simp
        have hadd : ∀ kn, (addL ls kn).length ≤ ls.length + 1 := fun kn => by unfold addL; split <;> simp
        have hfin : r.tail.length ≤ rest.length ∧ ls'.length + r.tail.length ≤ ls.length + rest.length ∧ (eat (n + 1) false rest = none → p = none) ∧ (∀ x, eat (n + 1) false rest = some x → p ≠ none ∧ r.tail = x ∧ ls' = lets (n + 1) false rest ls) := by
          have h1 : r.tail.length ≤ r.length := by rw [List.length_tail]; omega
          by_cases hc : 0 ≤ r.headD (-1) ∧ r.headD (-1) ≤ 999
          · obtain ⟨k5, k6⟩ := k3 hc
            rw [hE, if_pos hc, hL]
            have hr1 : r.tail.length + 1 ≤ r.length := tail_lt hc.1
            have := hadd (1, r.headD (-1))
            rw [← k6] at this
            exact ⟨by omega, by omega, fun h => (by cases h), fun x hx => (by cases hx; exact ⟨k5, rfl, k6⟩)⟩
          · obtain ⟨k5, k6⟩ := k4 hc
            rw [hE, if_neg hc]
            exact ⟨by omega, by rw [k6]; omega, fun _ => k5, fun x hx => by cases hx⟩
        have V := Lib.hid (And.intro k1 (And.intro (X.out.2.trans k2) hfin)); clear k1 k2 k3 k4 hE hL hadd hfin
        go_wp2
        go_ret
        exact ⟨_, _, _, rfl, V.out⟩
      have hb1 : (z == 1) = false := by simpa using h1
      by_cases h2 : z = 2
      · have hb : (z == 2) = true := by rw [h2]; rfl
        subst h2
        have hE : eat (n + 1) false rest = (eat n true r).bind (eat n true) := by rw [HE.out.1]; simp
        have hL : lets (n + 1) false rest ls = lets n true ((eat n true r).getD []) (lets n true r ls) := by rw [HE.out.2]; simp
        have HEL := Lib.hid (And.intro hE hL); clear hE hL HE
        go_wp2_with fail
        refine (ih1.out r ls _ hrl X.out.1 (by omega)).mono ?_
        rintro e w2 ⟨p1, r1, ls1, rfl, k1, k2, k3, k4, k5, k6⟩
        have hlt2 := k1.lt
        have Y := Lib.hid (And.intro k1 (And.intro (X.out.2.trans k2) (And.intro k5 k6))); clear k1 k2 k5 k6 X
        go_wp2_with fail
        refine (ih1.out r1 ls1 _ (by omega) Y.out.1 (by omega)).mono ?_
        rintro e w3 ⟨p2, r2, ls2, rfl, k1, k2, k5, k6, k7, k8⟩
        have hlt3 := k1.lt
        have hge3 := k1.ge
        have hal : Below w3.heap.size w3 (w3.alloc (.cells #[.pointer p1, .pointer p2] 117)) := (Below.refl _ _).alloc (Nat.le_refl _) _
        have V := Lib.hid (And.intro (k1.step hal) (And.intro (Y.out.2.1.trans (k2.trans (hal.mono (by omega)))) (And.intro (And.intro k7 k8) (And.intro Y.out.2.2 (ptrs_two w3 p1 p2))))); clear k1 k2 k7 k8 hal Y
        go_wp2_with fail
        refine (madeOf_any 2 _ [p1, p2] _ V.out.2.2.2.2 (by simp)).mono ?_
        rintro e w4 ⟨q, rfl, m1, m2, m3⟩
        have hfin := comb HEL.out.1 HEL.out.2 V.out.2.2.2.1 V.out.2.2.1 ⟨m1, m2⟩
        have U := Lib.hid (And.intro (V.out.1.step m3) (And.intro (V.out.2.1.trans (m3.mono (by simp; omega))) hfin)); clear m1 m2 m3 hfin V
        go_wp2
        go_ret
        exact ⟨_, _, _, rfl, U.out.1, U.out.2.1, by omega, by omega, U.out.2.2⟩
      have hb2 : (z == 2) = false := by simpa using h2
      have hE : eat (n + 1) false rest = none := by rw [HE.out.1]; simp [*]
      have V := Lib.hid (And.intro X.out.1 (And.intro X.out.2 hE)); clear hE X HE ih1 ih2
      go_wp2
      go_ret
      exact ⟨none, r, ls, rfl, V.out.1, V.out.2.1, by omega, by omega, fun _ => rfl, fun x hx => by rw [V.out.2.2] at hx; cases hx⟩

/-- The letters of a whole row, behind those of before; nothing if the numbers are no row. -/
def wholeR (zs : List Int) (ls : List (Int × Int)) : Option (List (Int × Int)) := if zs.length ≤ 150 ∧ eat zs.length true zs = some [] then some (lets zs.length true zs ls) else none
def WholePost (lo g : Nat) (zs : List Int) (ls : List (Int × Int)) (w : World) (e : Ending) (w' : World) : Prop :=
  ∃ p rest' ls', e = .returned (.pointer p) ∧ TReader w' lo g rest' ls' ∧ Below lo w w' ∧ ls'.length ≤ ls.length + 150 ∧ (wholeR zs ls = none → p = none) ∧ (∀ l, wholeR zs ls = some l → p ≠ none ∧ ls' = l)
theorem whole_any (lo g : Nat) (v : Value) (zs rest : List Int) (ls : List (Int × Int)) (w : World) (h : TReader w lo g rest ls) (hv : RdBI w lo v zs) (hl : ls.length ≤ 900000) :
    Calls Try.prog 113 #[.pointer (some ⟨g, 0, none⟩), v] w (WholePost lo g zs ls w) := by
  have hlt := h.lt
  have hge := h.ge
  have hlen := (hv.rd (by omega)).len_le
  by_cases h150 : zs.length ≤ 150
  · have hR : Hid (wholeR zs ls = if eat zs.length true zs = some [] then some (lets zs.length true zs ls) else none) := Lib.hid (by
      rw [wholeR]
      by_cases he : eat zs.length true zs = some []
      · rw [if_pos ⟨h150, he⟩, if_pos he]
      · rw [if_neg (fun h => he h.2), if_neg he])
    obtain ⟨rv, lv, us, h⟩ := h
    have hvB := hv
    obtain ⟨A, c, rfl, _⟩ := hv
    have c0 := h.blk.cell 0
    have f0 := h.blk.free 0
    simp only [List.getElem?_toArray, List.getElem?_cons_zero] at c0
    have hB : Below lo w (w.setCell ⟨g, 0, none⟩ (.slice A zs.length c)) := (Below.refl lo w).setCell (by simpa using hge) _
    have X : Hid (TReader (w.setCell ⟨g, 0, none⟩ (.slice A zs.length c)) lo g zs ls ∧ Below lo w (w.setCell ⟨g, 0, none⟩ (.slice A zs.length c))) := Lib.hid ⟨⟨_, lv, us, h.keep (fun k _ hne => Below.heap_setCell _ _ _ _ (by simpa using hne)) (h.blk.set 0 _) (hvB.below hB)⟩, hB⟩
    clear h hvB hB
    have h150b : ¬ ((150 : Int) < zs.length) := by omega
    go_enter Try.func113, Try.ntmps113
    go_wp2_with fail
    refine ((row_val lo g zs.length).1 zs ls _ (Nat.le_refl _) X.out.1 (by omega)).mono ?_
    rintro e w1 ⟨p, rest', ls', rfl, q1, q2, q3, q4, q5, q6⟩
    have hlt1 := q1.lt
    have HQ := Lib.hid (And.intro q1 (And.intro (X.out.2.trans q2) (And.intro q5 q6)))
    obtain ⟨rv1, lv1, us1, h1⟩ := q1
    obtain ⟨A1, k1, hrv, _⟩ := h1.rd
    have c1 := h1.blk.cell 0
    simp only [List.getElem?_toArray, List.getElem?_cons_zero] at c1
    rw [hrv] at c1
    clear h1 hrv q2 q5 q6 X c0 f0
    by_cases hr0 : rest' = []
    · subst hr0
      have hfin : (wholeR zs ls = none → p = none) ∧ (∀ l, wholeR zs ls = some l → p ≠ none ∧ ls' = l) := by
        rw [hR.out]
        by_cases he : eat zs.length true zs = some []
        · rw [if_pos he]
          obtain ⟨k2, _, k3⟩ := HQ.out.2.2.2 _ he
          exact ⟨fun h => (by cases h), fun l hl => (by cases hl; exact ⟨k2, k3⟩)⟩
        · rw [if_neg he]
          refine ⟨fun _ => ?_, fun l hl => (by cases hl)⟩
          rcases he2 : eat zs.length true zs with _ | r
          · exact HQ.out.2.2.1 he2
          · obtain ⟨_, k3, _⟩ := HQ.out.2.2.2 _ he2
            rw [he2, k3] at he
            exact absurd rfl he
      have K := Lib.hid hfin; clear hfin
      rw [List.length_nil] at c1 q4
      go_wp2
      go_ret
      exact ⟨_, _, _, rfl, HQ.out.1, HQ.out.2.1, by omega, K.out⟩
    · have hpos : (0 : Int) < rest'.length := by
        rcases rest' with _ | ⟨y, r⟩
        · exact absurd rfl hr0
        · rw [List.length_cons]; omega
      have hfin : wholeR zs ls = none := by
        rw [hR.out]
        by_cases he : eat zs.length true zs = some []
        · obtain ⟨_, k2, _⟩ := HQ.out.2.2.2 _ he
          exact absurd k2 hr0
        · rw [if_neg he]
      have K := Lib.hid hfin; clear hfin hr0
      go_wp2
      go_ret
      exact ⟨_, _, _, rfl, HQ.out.1, HQ.out.2.1, by omega, fun _ => rfl, fun l hl => by rw [K.out] at hl; cases hl⟩
  · have hR : wholeR zs ls = none := by rw [wholeR, if_neg (fun h => h150 h.1)]
    have K := Lib.hid (And.intro h hR)
    obtain ⟨A, c, rfl, _⟩ := hv
    have hb : (150 : Int) < zs.length := by omega
    clear h hR h150
    go_enter Try.func113, Try.ntmps113
    go_wp2
    go_ret
    exact ⟨none, rest, ls, rfl, K.out.1, Below.refl _ _, by omega, fun _ => rfl, fun l hl => by rw [K.out.2] at hl; cases hl⟩

def rowB (zs : List Int) : Bool := (wholeR zs []).isSome
theorem reader_new (w : World) : TReader (w.alloc (.cells #[.slice none 0 0, .slice none 0 0] 133)) w.heap.size w.heap.size [] [] :=
  ⟨_, _, [], Blk.new w _ _, Nat.le_refl _, ⟨none, 0, rfl, IntsK.nil _ _ _ _, Nat.le_refl _⟩, World.ownsRow_nil _ _ _ _, rfl, by simp⟩
theorem RowOk_I (v0 : Value) (x0 : List Int) (w : World) (h0 : RdI w v0 x0) (_ : x0.length ≤ 1048576) (y0 : Bool) (hR : rowB x0 = y0) :
    Calls Try.prog 52 #[v0] w fun e w' => e = .returned (.bool y0) ∧ Below w.heap.size w w' := by
  have hb : Below w.heap.size w (w.alloc (.cells #[.slice none 0 0, .slice none 0 0] 133)) := (Below.refl _ _).alloc (Nat.le_refl _) _
  have H := Lib.hid (And.intro (reader_new w) (And.intro ((RdI.at_ h0).below hb) hb)); clear hb h0
  have HR := Lib.hid hR; clear hR
  go_enter Try.func52, Try.ntmps52
  go_wp2_with fail
  refine (whole_any _ _ v0 x0 [] [] _ H.out.1 H.out.2.1 (by simp)).mono ?_
  rintro e w1 ⟨p, rest', ls', rfl, _, q2, _, q3, q4⟩
  have X := Lib.hid (H.out.2.2.trans q2); clear q2
  rcases p with _ | a
  · have hy : y0 = false := by
      rw [← HR.out, rowB]
      rcases h : wholeR x0 [] with _ | l
      · rfl
      · exact absurd rfl (q4 l h).1
    subst hy
    clear q3 q4
    go_wp2
    go_ret
    exact ⟨rfl, X.out⟩
  · have hy : y0 = true := by
      rw [← HR.out, rowB]
      rcases h : wholeR x0 [] with _ | l
      · cases q3 h
      · rfl
    subst hy
    clear q3 q4
    go_wp2
    go_ret
    exact ⟨rfl, X.out⟩
end Go.Proofs.Ytkiedpdhehehfaa
