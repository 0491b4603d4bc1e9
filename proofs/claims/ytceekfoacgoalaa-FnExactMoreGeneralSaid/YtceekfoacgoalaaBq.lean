/- Several texts in one. -/
import Derived.Test.YtceekfoacgoalaaB7
import Derived.Test.YtceekfoacgoalaaB1
import Derived.Test.YtceekfoacgoalaaB5
import Derived.BigQuiet
import Derived.Deep.RegionWith
/- The reader of rows and types: what it is, and what it keeps; take, letter, madeOf. -/
namespace Go.Proofs.Ytceekfoacgoalaa
set_option maxRecDepth 100000
open Go.RowKit Go.WideShapes

theorem ptrInfo : (Try.prog.info? 49).map (fun i => (i.zero, i.size, i.bytes)) = some (some (.pointer none), 1, 8) := by kernel_rfl
/-- A term that is a letter, or was made: of its own memory. -/
def Term (w : World) (lo b : Nat) (kn : Int × Int) : Prop := lo ≤ b ∧ ∃ c2 c3 c4, Blk w b #[.int .i64 kn.1, .int .i64 kn.2, c2, c3, c4] 86
structure TRd (w : World) (lo g : Nat) (rv lv : Value) (us : List Value) (rest : List Int) (ls : List (Int × Int)) : Prop where
  blk : Blk w g #[rv, lv] 59
  ge : lo ≤ g
  rd : RdBI w lo rv rest
  row : w.ownsRow lo 49 1 lv ls.length us
  len : us.length = ls.length
  term : ∀ (j : Nat) u kn, us[j]? = some u → ls[j]? = some kn → ∃ b, u = .pointer (some ⟨b, 0, none⟩) ∧ Term w lo b kn
/-- The reader behind g: what it is still to read, and the letters that it has read. -/
def TReader (w : World) (lo g : Nat) (rest : List Int) (ls : List (Int × Int)) : Prop := ∃ rv lv us, TRd w lo g rv lv us rest ls
theorem TReader.lt {w : World} {lo g : Nat} {rest : List Int} {ls : List (Int × Int)} (h : TReader w lo g rest ls) : g < w.heap.size := by
  obtain ⟨rv, lv, us, h⟩ := h; exact h.blk.lt
theorem TReader.ge {w : World} {lo g : Nat} {rest : List Int} {ls : List (Int × Int)} (h : TReader w lo g rest ls) : lo ≤ g := by
  obtain ⟨rv, lv, us, h⟩ := h; exact h.ge
/-- Whatever happens but to the reader's own blocks. -/
theorem TRd.keep {w w' : World} {lo g : Nat} {rv lv rv' : Value} {us : List Value} {rest rest' : List Int} {ls : List (Int × Int)} (h : TRd w lo g rv lv us rest ls) (hk : ∀ k, k < w.heap.size → k ≠ g → w'.heap[k]? = w.heap[k]?) (hg : Blk w' g #[rv', lv] 59) (hr : RdBI w' lo rv' rest') : TRd w' lo g rv' lv us rest' ls := by
  refine ⟨hg, h.ge, hr, ownsRow_keep h.row fun k hk' => hk k (h.row.lt k hk').2 (fun e => ?_), h.len, fun j u kn hu hz => ?_⟩
  · exact ownsRow_ne h.row h.blk (by decide) (by rw [hk', e])
  · obtain ⟨b, h1, h2, c2, c3, c4, h3⟩ := h.term j u kn hu hz
    refine ⟨b, h1, h2, c2, c3, c4, (hk b h3.lt (fun e => ?_)).trans h3⟩
    subst e
    have h4 := h.blk
    unfold Blk at h3 h4
    rw [h3] at h4
    injection h4 with h4
    injection h4 with _ h5
    exact absurd h5 (by decide)
theorem TReader.step {w w' : World} {lo g : Nat} {rest : List Int} {ls : List (Int × Int)} (h : TReader w lo g rest ls) (hb : Below w.heap.size w w') : TReader w' lo g rest ls := by
  have hlt := h.lt
  have hge := h.ge
  obtain ⟨rv, lv, us, h⟩ := h
  exact ⟨rv, lv, us, h.keep (fun k hk _ => hb.block k hk) (h.blk.below hb hlt) (h.rd.below (hb.mono (by omega)))⟩

theorem rdB_tail {w : World} {B b off c : Nat} {z : Int} {r : List Int} (h : RdBI w B (.slice (some ⟨b, off, none⟩) (z :: r).length c) (z :: r)) {o n d : Nat} (ho : o = off + 1 ∨ r = []) (hn : n = r.length) (hd : r.length ≤ d) : RdBI w B (.slice (some ⟨b, o, none⟩) n d) r := by
  subst hn
  obtain ⟨A, c', e, hi, hc⟩ := h
  cases e
  refine ⟨_, d, rfl, ⟨by have := hi.len; simp at this; omega, fun y hy => hi.wf y (by simp [hy]), fun h0 => ?_⟩, hd⟩
  obtain ⟨b', off', e, hb, hcc⟩ := hi.at_ (by simp)
  cases e
  have ho' : o = off + 1 := by
    rcases ho with h1 | h1
    · exact h1
    · subst h1; simp at h0
  subst ho'
  refine ⟨_, _, rfl, hb, fun j hj => ?_⟩
  have := hcc (j + 1) (by simp; omega)
  rw [show off + 1 + j = off + (j + 1) by omega, this]
  simp [List.getD]

def TakePost (lo g : Nat) (rest : List Int) (ls : List (Int × Int)) (w : World) (e : Ending) (w' : World) : Prop := e = .returned (.int .i64 (rest.headD (-1))) ∧ TReader w' lo g rest.tail ls ∧ Below lo w w'
theorem take_any (lo g : Nat) (rest : List Int) (ls : List (Int × Int)) (w : World) (h : TReader w lo g rest ls) :
    Calls Try.prog 67 #[.pointer (some ⟨g, 0, none⟩)] w (TakePost lo g rest ls w) := by
  have hlt := h.lt
  have hge := h.ge
  have HR := Lib.hid h
  obtain ⟨rv, lv, us, h⟩ := h
  have hrd := h.rd
  have c0 := h.blk.cell 0
  have f0 := h.blk.free 0
  simp only [List.getElem?_toArray, List.getElem?_cons_zero] at c0
  rcases rest with _ | ⟨z, r⟩
  · obtain ⟨A, c, rfl, _⟩ := hrd
    rw [List.length_nil] at c0
    clear h
    go_enter Try.func67, Try.ntmps67
    go_wp2
    go_ret
    exact ⟨rfl, HR.out, Below.refl _ _⟩
  · have hrd2 := hrd
    obtain ⟨A, c, rfl, hi, hc⟩ := hrd
    have hm := hi.len
    obtain ⟨b, off, rfl, hb, hcc⟩ := hi.at_ (by simp)
    have hcell := hcc 0 (by simp)
    simp only [Nat.add_zero, List.getD_cons_zero] at hcell
    have hpos : (0 : Int) < ((z :: r).length : Int) := by rw [List.length_cons]; omega
    have hposb : (((z :: r).length : Int) == 0) = false := by rw [beq_eq_false_iff_ne]; omega
    have h1 : 1 ≤ (z :: r).length := by rw [List.length_cons]; omega
    have HX : Hid (∀ o n d, (o = off + 1 ∨ r = []) → n = r.length → r.length ≤ d → TReader (w.setCell ⟨g, 0, none⟩ (.slice (some ⟨b, o, none⟩) n d)) lo g r ls ∧ Below lo w (w.setCell ⟨g, 0, none⟩ (.slice (some ⟨b, o, none⟩) n d))) := Lib.hid fun o n d ho hn hd => by
      have hB : Below lo w (w.setCell ⟨g, 0, none⟩ (.slice (some ⟨b, o, none⟩) n d)) := (Below.refl lo w).setCell (by simpa using hge) _
      exact ⟨⟨_, lv, us, h.keep (fun k _ hne => Below.heap_setCell _ _ _ _ (by simpa using hne)) (h.blk.set 0 _) ((rdB_tail hrd2 ho hn hd).below hB)⟩, hB⟩
    have hl : (z :: r).length = r.length + 1 := rfl
    clear h hi hcc hrd2 HR
    generalize hL : (z :: r).length = L at *
    rcases Nat.lt_or_ge c 2 with hc2 | hc2
    · have hc1 : c = 1 := by omega
      have hL1 : L = 1 := by omega
      subst hc1
      subst hL1
      have hr0 : r = [] := List.eq_nil_of_length_eq_zero (by omega)
      clear hL hl
      go_enter Try.func67, Try.ntmps67
      go_wp2
      go_ret
      exact ⟨rfl, HX.out _ _ _ (.inr hr0) (by rw [hr0]; rfl) (by rw [hr0]; simp)⟩
    · go_enter Try.func67, Try.ntmps67
      go_wp2
      go_ret
      exact ⟨rfl, HX.out _ _ _ (.inl rfl) (by omega) (by omega)⟩

/-- A slice of pointers. -/
def Ptrs (w : World) (v : Value) (ps : List (Option Addr)) : Prop := ∃ A c, v = .slice A ps.length c ∧ (0 < ps.length → ∃ b off, A = some ⟨b, off, none⟩ ∧ ∀ (j : Nat) p, ps[j]? = some p → w.cell? ⟨b, off + j, none⟩ = some (.pointer p))
theorem eql_nil_ptr (w : World) (t te : TypeId) (a : Addr) (h : Try.prog.underlying t = some (.pointer te)) : (binOp .eql t (.pointer none) (.pointer (some a))).run Try.prog w = .ok (.bool false) w := by
  have h2 : ∀ d : Nat, (Op.equalIn (d + 1) t (.pointer none) (.pointer (some a))).run Try.prog w = .ok false w := fun d => by simp [Op.equalIn, run_underlying h]
  simp only [binOp]
  simp [Op.equal, Op.maxDepth, h2 9999]
theorem index_ptr (v : Value) (ps : List (Option Addr)) (w : World) (h : Ptrs w v ps) (hl : ps.length ≤ 1000) :
    Calls Try.prog 72 #[v, .pointer none] w fun e w' => ∃ i : Int, e = .returned (.int .i64 i) ∧ (none ∈ ps → 0 ≤ i) ∧ (none ∉ ps → i = -1) ∧ w = w' := by
  obtain ⟨A, c, rfl, hc⟩ := h
  have Hc := Lib.hid hc; clear hc
  have heq := fun (W : World) (a : Addr) => eql_nil_ptr W 49 86 a Try.underlying49
  go_enter Try.func72, Try.ntmps72
  go_wp2
  go_loop [8] (fun i => ∃ k : Nat, k ≤ ps.length ∧ i = .int .i64 k ∧ none ∉ ps.take k) (fun i => ps.length - (intOf i).toNat)
  case atStart => exact ⟨0, Nat.zero_le _, rfl, by simp⟩
  case round =>
    obtain ⟨k, hk, rfl, hno⟩ := hrel
    by_cases hlt : k < ps.length
    · obtain ⟨b, off, rfl, hcell⟩ := Hc.out (by omega)
      have hp : ps[k]? = some ps[k] := List.getElem?_eq_getElem hlt
      have hc := hcell k _ hp
      have htk : ps.take (k + 1) = ps.take k ++ [ps[k]] := by rw [List.take_add_one, hp]; rfl
      have hltI : (k : Int) < ps.length := by omega
      have hmem : ps[k] ∈ ps := List.getElem_mem hlt
      clear hcell hp
      generalize ps[k] = p at *
      have K := Lib.hid (And.intro hno (And.intro htk hmem)); clear hno htk hmem
      rcases p with _ | a
      · go_wp2
        go_ret
        exact ⟨_, rfl, fun _ => by omega, fun h => absurd K.out.2.2 h, rfl⟩
      · go_wp2
        go_round
        case rel => exact ⟨k + 1, by omega, by go_num, by rw [K.out.2.1]; simpa using K.out.1⟩
        case measure => simp [intOf]; omega
    · have hno2 : none ∉ ps := by rw [List.take_of_length_le (by omega)] at hno; exact hno
      have K := Lib.hid hno2; clear hno hno2
      go_wp2
      go_ret
      exact ⟨_, rfl, fun h => absurd h K.out, fun _ => rfl, rfl⟩
theorem contains_ptr (v : Value) (ps : List (Option Addr)) (w : World) (h : Ptrs w v ps) (hl : ps.length ≤ 1000) :
    Calls Try.prog 74 #[v, .pointer none] w fun e w' => ∃ b : Bool, e = .returned (.bool b) ∧ (none ∈ ps → b = true) ∧ (none ∉ ps → b = false) ∧ w = w' := by
  have H := Lib.hid h; clear h
  go_enter Try.func74, Try.ntmps74
  go_wp2_with fail
  refine (index_ptr v ps _ H.out hl).mono ?_
  rintro e w' ⟨i, rfl, h1, h2, rfl⟩
  have K := Lib.hid (And.intro h1 h2); clear h1 h2
  go_wp2
  go_ret
  exact ⟨_, rfl, fun h => by simpa using K.out.1 h, fun h => by rw [K.out.2 h]; rfl, rfl⟩
theorem madeOf_any (kind : Int) (v : Value) (ps : List (Option Addr)) (w : World) (h : Ptrs w v ps) (hl : ps.length ≤ 1000) :
    Calls Try.prog 70 #[.int .i64 kind, v] w fun e w' => ∃ q, e = .returned (.pointer q) ∧ (none ∈ ps → q = none) ∧ (none ∉ ps → q ≠ none) ∧ Below w.heap.size w w' := by
  have H := Lib.hid h
  obtain ⟨A, c, rfl, _⟩ := h
  go_enter Try.func70, Try.ntmps70
  go_wp2_with fail
  refine (contains_ptr _ ps _ H.out hl).mono ?_
  rintro e w' ⟨b, rfl, h1, h2, rfl⟩
  rcases b with _ | _
  · have hb : Below w.heap.size w (w.alloc (.cells #[.int .i64 kind, .int .i64 0, .slice A ps.length c, .pointer none, .int .i64 0] 86)) := (Below.refl _ _).alloc (Nat.le_refl _) _
    have hno : none ∉ ps := fun h => by have := h1 h; cases this
    have K := Lib.hid (And.intro hb hno); clear h1 h2 hb hno
    go_wp2
    go_ret
    exact ⟨_, rfl, fun h => absurd h K.out.2, fun _ => by simp, K.out.1⟩
  · have hno : ¬ none ∉ ps := fun h => by have := h2 h; cases this
    have K := Lib.hid hno; clear h1 h2 hno
    go_wp2
    go_ret
    exact ⟨_, rfl, fun _ => rfl, fun h => absurd h K.out, Below.refl _ _⟩

/-- A letter is read once. -/
def addL (ls : List (Int × Int)) (kn : Int × Int) : List (Int × Int) := if kn ∈ ls then ls else ls ++ [kn]
def LetterPost (kind : Int) (lo g : Nat) (n : Int) (r : List Int) (ls : List (Int × Int)) (w : World) (e : Ending) (w' : World) : Prop :=
  ∃ p ls', e = .returned (.pointer p) ∧ TReader w' lo g r ls' ∧ Below lo w w' ∧ (0 ≤ n ∧ n ≤ 999 → p ≠ none ∧ ls' = addL ls (kind, n)) ∧ (¬ (0 ≤ n ∧ n ≤ 999) → p = none ∧ ls' = ls)
set_option maxHeartbeats 1000000 in
theorem letter_any (kind : Int) (lo g : Nat) (rest : List Int) (n : Int) (r : List Int) (ls : List (Int × Int)) (w : World) (h : TReader w lo g rest ls) (hl : ls.length ≤ 1000000) (hn : rest.headD (-1) = n) (hr : rest.tail = r) :
    Calls Try.prog 68 #[.pointer (some ⟨g, 0, none⟩), .int .i64 kind] w (LetterPost kind lo g n r ls w) := by
  have H := Lib.hid h; clear h
  go_enter Try.func68, Try.ntmps68
  go_wp2_with fail
  refine (take_any lo g rest ls _ H.out).mono ?_
  rintro e w1 ⟨rfl, q1, q2⟩
  rw [hr] at q1
  rw [hn]
  clear hn hr H
  have hlt := q1.lt
  have hge := q1.ge
  by_cases hn : 0 ≤ n ∧ n ≤ 999
  · obtain ⟨hn0, hn1⟩ := hn
    have HQ := Lib.hid (And.intro q1 q2)
    obtain ⟨rv, lv, us, h⟩ := q1
    obtain ⟨A, c, rfl⟩ := ownsRow_form h.row
    have c1 := h.blk.cell 1
    simp only [List.getElem?_toArray, List.getElem?_cons_zero, List.getElem?_cons_succ] at c1
    have HT := Lib.hid h; clear h q2
    go_wp2
    go_loop [22] (fun i => ∃ k : Nat, k ≤ ls.length ∧ i = .int .i64 k ∧ (kind, n) ∉ ls.take k) (fun i => ls.length - (intOf i).toNat)
    case atStart => exact ⟨0, Nat.zero_le _, rfl, by simp⟩
    case round =>
      obtain ⟨k, hk, rfl, hno⟩ := hrel
      by_cases hlt : k < ls.length
      · obtain ⟨⟨kn1, kn2⟩, hkn⟩ : ∃ kn, ls[k]? = some kn := ⟨ls[k], List.getElem?_eq_getElem hlt⟩
        have htk : ls.take (k + 1) = ls.take k ++ [(kn1, kn2)] := by rw [List.take_add_one, hkn]; rfl
        have hmem : (kn1, kn2) ∈ ls := List.mem_of_getElem? hkn
        have hul : us.length = ls.length := HT.out.len
        obtain ⟨u, hu⟩ : ∃ u, us[k]? = some u := ⟨us[k]'(by omega), List.getElem?_eq_getElem (by omega)⟩
        obtain ⟨b, rfl, hlb, c2, c3, c4, hblk⟩ := HT.out.term k u _ hu hkn
        obtain ⟨gl, rfl⟩ : ∃ gl, A = some ⟨gl, 0, none⟩ := by
          rcases HT.out.row.2 with ⟨_, h1⟩ | ⟨gl, cap, cur, he, _⟩
          · omega
          · cases he; exact ⟨gl, rfl⟩
        have hrow := HT.out.row
        have hcell : w1.cell? ⟨gl, k, none⟩ = some (.pointer (some ⟨b, 0, none⟩)) := by
          rw [hrow.cellAt k (by omega)]; exact hu
        have t0 := hblk.cell 0
        have t1 := hblk.cell 1
        simp only [List.getElem?_toArray, List.getElem?_cons_zero, List.getElem?_cons_succ] at t0 t1
        have hltI : (k : Int) < ls.length := by omega
        clear hu hkn hblk hul hrow
        by_cases e1 : kn1 = kind
        · subst e1
          have b1 : (kn1 == kn1) = true := by simp
          by_cases e2 : kn2 = n
          · subst e2
            have b2 : (kn2 == kn2) = true := by simp
            have ha : ls = addL ls (kn1, kn2) := by rw [addL, if_pos hmem]
            have K := Lib.hid ha; clear ha hmem htk hno
            go_wp2
            go_ret
            exact ⟨_, _, rfl, HQ.out.1, HQ.out.2, fun _ => ⟨by simp, K.out⟩, fun h => absurd ⟨hn0, hn1⟩ h⟩
          · have b2 : (kn2 == n) = false := by simpa using e2
            have K : Hid ((kn1, n) ∉ ls.take (k + 1)) := Lib.hid (by rw [htk]; simp only [List.mem_append, List.mem_singleton, not_or]; exact ⟨hno, fun e => e2 (by cases e; rfl)⟩)
            clear hmem htk hno e2
            go_wp2
            go_round
            case rel => exact ⟨k + 1, by omega, by go_num, K.out⟩
            case measure => simp [intOf]; omega
        · have b1 : (kn1 == kind) = false := by simpa using e1
          have K : Hid ((kind, n) ∉ ls.take (k + 1)) := Lib.hid (by rw [htk]; simp only [List.mem_append, List.mem_singleton, not_or]; exact ⟨hno, fun e => e1 (by cases e; rfl)⟩)
          clear hmem htk hno e1
          go_wp2
          go_round
          case rel => exact ⟨k + 1, by omega, by go_num, K.out⟩
          case measure => simp [intOf]; omega
      · have hno2 : (kind, n) ∉ ls := by rw [List.take_of_length_le (by omega)] at hno; exact hno
        have ha : ls ++ [(kind, n)] = addL ls (kind, n) := by rw [addL, if_neg hno2]
        have HA := Lib.hid ha; clear hno hno2 ha
        have hkl : ¬ ((k : Int) < ls.length) := by omega
        have hrowB : Hid (((w1.alloc (.cells #[.int .i64 kind, .int .i64 n, .slice none 0 0, .pointer none, .int .i64 0] 86)).alloc (.cells #[.pointer (some ⟨w1.heap.size, 0, none⟩)] 49)).ownsRow lo 49 1 (.slice A ls.length c) ls.length us) := Lib.hid ((HT.out.row.alloc _).alloc _)
        have Hn : Hid (((w1.alloc (.cells #[.int .i64 kind, .int .i64 n, .slice none 0 0, .pointer none, .int .i64 0] 86)).alloc (.cells #[.pointer (some ⟨w1.heap.size, 0, none⟩)] 49)).cell? ⟨w1.heap.size + 1, 0, none⟩ = some (.pointer (some ⟨w1.heap.size, 0, none⟩))) := Lib.hid (by have h := (Blk.new (w1.alloc (.cells #[.int .i64 kind, .int .i64 n, .slice none 0 0, .pointer none, .int .i64 0] 86)) #[.pointer (some ⟨w1.heap.size, 0, none⟩)] 49).cell 0; rw [World.size_alloc] at h; exact h)
        go_wp2_with (at_builtin; refine wpList_append_one rfl (.tmp 50) (.tmp 52) _ rfl lo 49 _ 8 Try.underlying50 ptrInfo (by omega) rfl _ ls.length us rfl hrowB.out (w1.heap.size + 1) 1 (.pointer (some ⟨w1.heap.size, 0, none⟩)) rfl Hn.out rfl (by omega) (by simp; omega) ?_)
        intro v2 w2 hrow2 hg2 hown
        obtain ⟨g2, cap2, rfl⟩ := ownsRow_succ hrow2
        have hvne := ownsRow_ne HT.out.row HT.out.blk (by decide)
        have hsz2 : w1.heap.size + 1 + 1 ≤ w2.heap.size := by have := hg2.size; simpa using this
        have hbk : ∀ q, q < w1.heap.size → some q ≠ (Value.slice A ls.length c).ownBlock → w2.heap[q]? = w1.heap[q]? := fun q hq hne => (hg2.block q (by simp; omega) hne).trans ((Below.heap_alloc _ _ _ (by simp; omega)).trans (Below.heap_alloc _ _ _ hq))
        have hblk2 : Blk w2 g #[rv, .slice A ls.length c] 59 := (hbk g HT.out.blk.lt (fun e => hvne e.symm)).trans HT.out.blk
        have c2 := hblk2.cell 1
        have f2 := hblk2.free 1
        simp only [List.getElem?_toArray, List.getElem?_cons_zero, List.getElem?_cons_succ] at c2
        have hT0 : Blk w2 w1.heap.size #[.int .i64 kind, .int .i64 n, .slice none 0 0, .pointer none, .int .i64 0] 86 := by
          have h1 := (Blk.new w1 #[.int .i64 kind, .int .i64 n, .slice none 0 0, .pointer none, .int .i64 0] 86).below ((Below.refl (w1.heap.size + 1) _).alloc (by simp) (.cells #[.pointer (some ⟨w1.heap.size, 0, none⟩)] 49)) (by omega)
          refine (hg2.block _ (by simp; omega) (fun e => ?_)).trans h1
          have := (HT.out.row.lt _ e.symm).2
          omega
        have X : Hid (TReader (w2.setCell ⟨g, 1, none⟩ (.slice (some ⟨g2, 0, none⟩) (ls.length + 1) cap2)) lo g r (addL ls (kind, n)) ∧ Below lo w (w2.setCell ⟨g, 1, none⟩ (.slice (some ⟨g2, 0, none⟩) (ls.length + 1) cap2))) := Lib.hid (by
          have hB1 : Below lo w1 w2 := ((((Below.refl lo w1).alloc (by omega) _).alloc (by simp; omega) _).grown hg2 (by simp; omega) (fun q hq => (HT.out.row.lt q hq).1))
          have hB : Below lo w1 (w2.setCell ⟨g, 1, none⟩ (.slice (some ⟨g2, 0, none⟩) (ls.length + 1) cap2)) := hB1.setCell (by simpa using hge) _
          refine ⟨?_, HQ.out.2.trans hB⟩
          rw [← HA.out]
          refine ⟨rv, _, us ++ [.pointer (some ⟨w1.heap.size, 0, none⟩)], hblk2.set 1 _, hge, HT.out.rd.below hB, ?_, by simp [HT.out.len], fun j u kn hu hz => ?_⟩
          · refine ownsRow_keep (by simpa using hrow2) fun q hq => Below.heap_setCell _ _ _ _ ?_
            have h2 := ownsRow_ne hrow2 hblk2 (by decide)
            simp only
            exact fun e => h2 (by rw [hq, e])
          · by_cases hj : j < us.length
            · rw [List.getElem?_append_left hj] at hu
              rw [List.getElem?_append_left (by rw [← HT.out.len]; exact hj)] at hz
              obtain ⟨b, h1, h2, d2, d3, d4, h3⟩ := HT.out.term j u kn hu hz
              refine ⟨b, h1, h2, d2, d3, d4, ((Below.heap_setCell _ _ _ _ ?_).trans (hbk b h3.lt (fun e => ?_))).trans h3⟩
              · simp only
                rintro rfl
                have h4 := HT.out.blk
                unfold Blk at h3 h4
                rw [h3] at h4
                injection h4 with h4
                injection h4 with _ h5
                exact absurd h5 (by decide)
              · exact ownsRow_ne HT.out.row h3 (by decide) e.symm
            · have hjl : j = us.length := by
                rcases Nat.lt_or_ge j (us.length + 1) with h' | h'
                · omega
                · rw [List.getElem?_eq_none (by simp; omega)] at hu; cases hu
              subst hjl
              rw [List.getElem?_append_right (by omega)] at hu
              rw [List.getElem?_append_right (by rw [HT.out.len]; omega)] at hz
              simp at hu
              simp [HT.out.len] at hz
              subst hu; subst hz
              refine ⟨w1.heap.size, rfl, by omega, _, _, _, (Below.heap_setCell _ _ _ _ ?_).trans hT0⟩
              simp only
              omega)
        clear hrow2 hg2 hown hbk hblk2 hvne hT0
        go_wp2
        go_ret
        exact ⟨_, _, rfl, X.out.1, X.out.2, fun _ => ⟨by simp, rfl⟩, fun h => absurd ⟨hn0, hn1⟩ h⟩
  · have K := Lib.hid (And.intro q1 q2); clear q1 q2
    by_cases hn0 : n < 0
    · go_wp2
      go_ret
      exact ⟨_, _, rfl, K.out.1, K.out.2, fun h => by omega, fun _ => ⟨rfl, rfl⟩⟩
    · have hn1 : 999 < n := by omega
      go_wp2
      go_ret
      exact ⟨_, _, rfl, K.out.1, K.out.2, fun h => by omega, fun _ => ⟨rfl, rfl⟩⟩

/-- What is left behind the row (true), or the type, that begins here. -/
def eat : Nat → Bool → List Int → Option (List Int)
  | 0, _, _ => none
  | n + 1, true, zs => if zs.headD (-1) = 3 then (if 0 ≤ zs.tail.headD (-1) ∧ zs.tail.headD (-1) ≤ 999 then some zs.tail.tail else none)
    else if zs.headD (-1) = 4 then (eat n true zs.tail).bind (eat n false) else none
  | n + 1, false, zs => if zs.headD (-1) = 0 then some zs.tail
    else if zs.headD (-1) = 1 then (if 0 ≤ zs.tail.headD (-1) ∧ zs.tail.headD (-1) ≤ 999 then some zs.tail.tail else none)
    else if zs.headD (-1) = 2 then (eat n true zs.tail).bind (eat n true) else none
/-- The letters read there, behind those of before. -/
def lets : Nat → Bool → List Int → List (Int × Int) → List (Int × Int)
  | 0, _, _, ls => ls
  | n + 1, true, zs, ls => if zs.headD (-1) = 3 then addL ls (3, zs.tail.headD (-1)) else lets n false ((eat n true zs.tail).getD []) (lets n true zs.tail ls)
  | n + 1, false, zs, ls => if zs.headD (-1) = 0 then ls else if zs.headD (-1) = 1 then addL ls (1, zs.tail.headD (-1)) else lets n true ((eat n true zs.tail).getD []) (lets n true zs.tail ls)
theorem eat_len {n : Nat} {b : Bool} {zs r : List Int} (h : eat n b zs = some r) : r.length < zs.length := by
  induction n generalizing b zs r with
  | zero => cases h
  | succ n ih =>
    have hne : ∀ {x : Int}, zs.headD (-1) = x → x ≠ -1 → zs.tail.length < zs.length := fun hx h1 => by
      rcases zs with _ | ⟨z, zs⟩
      · exact absurd hx.symm (by simpa using h1)
      · simp
    rcases b with _ | _
    · rw [eat] at h
      split at h
      · rename_i e; cases h; exact hne e (by decide)
      split at h
      · rename_i e
        split at h
        · cases h; have := hne e (by decide); rw [List.length_tail]; omega
        · cases h
      split at h
      · rename_i e
        rcases h1 : eat n true zs.tail with _ | r1
        · rw [h1] at h; cases h
        · rw [h1] at h
          have := ih h1; have := ih h; have := hne e (by decide); omega
      · cases h
    · rw [eat] at h
      split at h
      · rename_i e
        split at h
        · cases h; have := hne e (by decide); rw [List.length_tail]; omega
        · cases h
      split at h
      · rename_i e
        rcases h1 : eat n true zs.tail with _ | r1
        · rw [h1] at h; cases h
        · rw [h1] at h
          have := ih h1; have := ih h; have := hne e (by decide); omega
      · cases h

def RowPost (n : Nat) (b : Bool) (lo g : Nat) (rest : List Int) (ls : List (Int × Int)) (w : World) (e : Ending) (w' : World) : Prop :=
  ∃ p rest' ls', e = .returned (.pointer p) ∧ TReader w' lo g rest' ls' ∧ Below lo w w' ∧ rest'.length ≤ rest.length ∧ ls'.length + rest'.length ≤ ls.length + rest.length ∧ (eat n b rest = none → p = none) ∧ (∀ r, eat n b rest = some r → p ≠ none ∧ rest' = r ∧ ls' = lets n b rest ls)
theorem tail_lt {r : List Int} (h : 0 ≤ r.headD (-1)) : r.tail.length + 1 ≤ r.length := by
  rcases r with _ | ⟨y, r⟩
  · simp at h
  · simp
theorem comb {n : Nat} {b b2 : Bool} {rest r rest1 rest2 : List Int} {ls ls1 ls2 : List (Int × Int)} {p1 p2 q : Option Addr}
    (hE : eat (n + 1) b rest = (eat n true r).bind (eat n b2)) (hL : lets (n + 1) b rest ls = lets n b2 ((eat n true r).getD []) (lets n true r ls))
    (h1 : (eat n true r = none → p1 = none) ∧ (∀ x, eat n true r = some x → p1 ≠ none ∧ rest1 = x ∧ ls1 = lets n true r ls))
    (h2 : (eat n b2 rest1 = none → p2 = none) ∧ (∀ x, eat n b2 rest1 = some x → p2 ≠ none ∧ rest2 = x ∧ ls2 = lets n b2 rest1 ls1))
    (hq : (none ∈ [p1, p2] → q = none) ∧ (none ∉ [p1, p2] → q ≠ none)) :
    (eat (n + 1) b rest = none → q = none) ∧ (∀ x, eat (n + 1) b rest = some x → q ≠ none ∧ rest2 = x ∧ ls2 = lets (n + 1) b rest ls) := by
  rw [hE, hL]
  rcases he : eat n true r with _ | r1
  · refine ⟨fun _ => hq.1 (by simp [h1.1 he]), fun x hx => by cases hx⟩
  · obtain ⟨k1, rfl, rfl⟩ := h1.2 _ he
    simp only [Option.bind_some, Option.getD_some]
    refine ⟨fun hn => hq.1 (by simp [h2.1 hn]), fun x hx => ?_⟩
    obtain ⟨k2, rfl, rfl⟩ := h2.2 _ hx
    exact ⟨hq.2 (by simp only [List.mem_cons, List.not_mem_nil, or_false, not_or]; exact ⟨fun e => k1 e.symm, fun e => k2 e.symm⟩), rfl, rfl⟩
theorem ptrs_two (w : World) (p1 p2 : Option Addr) : Ptrs (w.alloc (.cells #[.pointer p1, .pointer p2] 49)) (.slice (some ⟨w.heap.size, 0, none⟩) 2 2) [p1, p2] := by
  have h := Blk.new w #[.pointer p1, .pointer p2] 49
  refine ⟨_, 2, rfl, fun _ => ⟨w.heap.size, 0, rfl, fun j p hj => ?_⟩⟩
  rw [Nat.zero_add, h.cell j]
  rcases j with _ | _ | j
  · simp at hj ⊢; exact hj
  · simp at hj ⊢; exact hj
  · simp at hj

set_option maxHeartbeats 4000000 in
theorem row_val (lo g n : Nat) :
    (∀ rest ls w, rest.length ≤ n → TReader w lo g rest ls → ls.length + rest.length ≤ 1000000 → Calls Try.prog 57 #[.pointer (some ⟨g, 0, none⟩)] w (RowPost n true lo g rest ls w)) ∧
    (∀ rest ls w, rest.length ≤ n → TReader w lo g rest ls → ls.length + rest.length ≤ 1000000 → Calls Try.prog 69 #[.pointer (some ⟨g, 0, none⟩)] w (RowPost n false lo g rest ls w)) := by
  induction n with
  | zero =>
    constructor
    all_goals
      intro rest ls w hn h hl
      obtain rfl : rest = [] := List.eq_nil_of_length_eq_zero (by omega)
      have H := Lib.hid h; clear h
    · go_enter Try.func57, Try.ntmps57
      go_wp2_with fail
      refine (take_any lo g [] ls _ H.out).mono ?_
      rintro e w1 ⟨rfl, q1, q2⟩
      have K := Lib.hid (And.intro q1 q2); clear q1 q2
      simp only [List.headD_nil]
      go_wp2
      go_ret
      exact ⟨none, [], ls, rfl, K.out.1, K.out.2, by simp, by simp, fun _ => rfl, fun r h => by cases h⟩
    · go_enter Try.func69, Try.ntmps69
      go_wp2_with fail
      refine (take_any lo g [] ls _ H.out).mono ?_
      rintro e w1 ⟨rfl, q1, q2⟩
      have K := Lib.hid (And.intro q1 q2); clear q1 q2
      simp only [List.headD_nil]
      go_wp2
      go_ret
      exact ⟨none, [], ls, rfl, K.out.1, K.out.2, by simp, by simp, fun _ => rfl, fun r h => by cases h⟩
  | succ n ih =>
    have ih1 := Lib.hid ih.1
    have ih2 := Lib.hid ih.2
    clear ih
    constructor
    · intro rest ls w hn h hl
      have H := Lib.hid h; clear h
      obtain ⟨z, hz⟩ : ∃ z, rest.headD (-1) = z := ⟨_, rfl⟩
      obtain ⟨r, hr⟩ : ∃ r, rest.tail = r := ⟨_, rfl⟩
      have hE : eat (n + 1) true rest = if z = 3 then (if 0 ≤ r.headD (-1) ∧ r.headD (-1) ≤ 999 then some r.tail else none) else if z = 4 then (eat n true r).bind (eat n false) else none := by rw [eat, hz, hr]
      have hL : lets (n + 1) true rest ls = if z = 3 then addL ls (3, r.headD (-1)) else lets n false ((eat n true r).getD []) (lets n true r ls) := by rw [lets, hz, hr]
      have hrl : r.length ≤ n := by rw [← hr, List.length_tail]; omega
      have hrl2 : r.length ≤ rest.length := by rw [← hr, List.length_tail]; omega
      have HE := Lib.hid (And.intro hE hL); clear hE hL
      go_enter Try.func57, Try.ntmps57
      go_wp2_with fail
      refine (take_any lo g rest ls _ H.out).mono ?_
      rintro e w1 ⟨e1, q1, q2⟩
      rw [hz] at e1
      rw [hr] at q1
      subst e1
      have hlt1 := q1.lt
      have X := Lib.hid (And.intro q1 q2); clear q1 q2 H hz hr
      by_cases h3 : z = 3
      · have hb : (z == 3) = true := by rw [h3]; rfl
        subst h3
        go_wp2_with fail
        refine (letter_any 3 lo g r _ r.tail ls _ X.out.1 (by omega) rfl rfl).mono ?_
        rintro e w2 ⟨p, ls', rfl, k1, k2, k3, k4⟩
        have hE : eat (n + 1) true rest = if 0 ≤ r.headD (-1) ∧ r.headD (-1) ≤ 999 then some r.tail else none := by rw [HE.out.1]; simp
        have hL : lets (n + 1) true rest ls = addL ls (3, r.headD (-1)) := by rw [HE.out.2]; simp
        have hadd : ∀ kn, (addL ls kn).length ≤ ls.length + 1 := fun kn => by unfold addL; split <;> simp
        have hfin : r.tail.length ≤ rest.length ∧ ls'.length + r.tail.length ≤ ls.length + rest.length ∧ (eat (n + 1) true rest = none → p = none) ∧ (∀ x, eat (n + 1) true rest = some x → p ≠ none ∧ r.tail = x ∧ ls' = lets (n + 1) true rest ls) := by
          have h1 : r.tail.length ≤ r.length := by rw [List.length_tail]; omega
          by_cases hc : 0 ≤ r.headD (-1) ∧ r.headD (-1) ≤ 999
          · obtain ⟨k5, k6⟩ := k3 hc
            rw [hE, if_pos hc, hL]
            have hr1 : r.tail.length + 1 ≤ r.length := tail_lt hc.1
            have := hadd (3, r.headD (-1))
            rw [← k6] at this
            exact ⟨by omega, by omega, fun h => (by cases h), fun x hx => (by cases hx; exact ⟨k5, rfl, k6⟩)⟩
          · obtain ⟨k5, k6⟩ := k4 hc
            rw [hE, if_neg hc]
            exact ⟨by omega, by rw [k6]; omega, fun _ => k5, fun x hx => by cases hx⟩
        have V := Lib.hid (And.intro k1 (And.intro (X.out.2.trans k2) hfin)); clear k1 k2 k3 k4 hE hL hadd hfin
        go_wp2
        go_ret
        exact ⟨_, _, _, rfl, V.out⟩
      have hb3 : (z == 3) = false := by simpa using h3
      by_cases h4 : z = 4
      · have hb : (z == 4) = true := by rw [h4]; rfl
        subst h4
        have hE : eat (n + 1) true rest = (eat n true r).bind (eat n false) := by rw [HE.out.1]; simp
        have hL : lets (n + 1) true rest ls = lets n false ((eat n true r).getD []) (lets n true r ls) := by rw [HE.out.2]; simp
        have HEL := Lib.hid (And.intro hE hL); clear hE hL HE
        go_wp2_with fail
        refine (ih1.out r ls _ hrl X.out.1 (by omega)).mono ?_
        rintro e w2 ⟨p1, r1, ls1, rfl, k1, k2, k3, k4, k5, k6⟩
        have hlt2 := k1.lt
        have Y := Lib.hid (And.intro k1 (And.intro (X.out.2.trans k2) (And.intro k5 k6))); clear k1 k2 k5 k6 X
        go_wp2_with fail
        refine (ih2.out r1 ls1 _ (by omega) Y.out.1 (by omega)).mono ?_
        rintro e w3 ⟨p2, r2, ls2, rfl, k1, k2, k5, k6, k7, k8⟩
        have hlt3 := k1.lt
        have hge3 := k1.ge
        have hal : Below w3.heap.size w3 (w3.alloc (.cells #[.pointer p1, .pointer p2] 49)) := (Below.refl _ _).alloc (Nat.le_refl _) _
        have V := Lib.hid (And.intro (k1.step hal) (And.intro (Y.out.2.1.trans (k2.trans (hal.mono (by omega)))) (And.intro (And.intro k7 k8) (And.intro Y.out.2.2 (ptrs_two w3 p1 p2))))); clear k1 k2 k7 k8 hal Y
        go_wp2_with fail
        refine (madeOf_any 4 _ [p1, p2] _ V.out.2.2.2.2 (by simp)).mono ?_
        rintro e w4 ⟨q, rfl, m1, m2, m3⟩
        have hfin := comb HEL.out.1 HEL.out.2 V.out.2.2.2.1 V.out.2.2.1 ⟨m1, m2⟩
        have U := Lib.hid (And.intro (V.out.1.step m3) (And.intro (V.out.2.1.trans (m3.mono (by simp; omega))) hfin)); clear m1 m2 m3 hfin V
        go_wp2
        go_ret
        exact ⟨_, _, _, rfl, U.out.1, U.out.2.1, by omega, by omega, U.out.2.2⟩
      have hb4 : (z == 4) = false := by simpa using h4
      have hE : eat (n + 1) true rest = none := by rw [HE.out.1]; simp [*]
      have V := Lib.hid (And.intro X.out.1 (And.intro X.out.2 hE)); clear hE X HE ih1 ih2
      go_wp2
      go_ret
      exact ⟨none, r, ls, rfl, V.out.1, V.out.2.1, by omega, by omega, fun _ => rfl, fun x hx => by rw [V.out.2.2] at hx; cases hx⟩
    · intro rest ls w hn h hl
      have H := Lib.hid h; clear h
      obtain ⟨z, hz⟩ : ∃ z, rest.headD (-1) = z := ⟨_, rfl⟩
      obtain ⟨r, hr⟩ : ∃ r, rest.tail = r := ⟨_, rfl⟩
      have hE : eat (n + 1) false rest = if z = 0 then some r else if z = 1 then (if 0 ≤ r.headD (-1) ∧ r.headD (-1) ≤ 999 then some r.tail else none) else if z = 2 then (eat n true r).bind (eat n true) else none := by rw [eat, hz, hr]
      have hL : lets (n + 1) false rest ls = if z = 0 then ls else if z = 1 then addL ls (1, r.headD (-1)) else lets n true ((eat n true r).getD []) (lets n true r ls) := by rw [lets, hz, hr]
      have hrl : r.length ≤ n := by rw [← hr, List.length_tail]; omega
      have hrl2 : r.length ≤ rest.length := by rw [← hr, List.length_tail]; omega
      have HE := Lib.hid (And.intro hE hL); clear hE hL
      go_enter Try.func69, Try.ntmps69
      go_wp2_with fail
      refine (take_any lo g rest ls _ H.out).mono ?_
      rintro e w1 ⟨e1, q1, q2⟩
      rw [hz] at e1
      rw [hr] at q1
      subst e1
      have hlt1 := q1.lt
      have X := Lib.hid (And.intro q1 q2); clear q1 q2 H hz hr
      by_cases h0 : z = 0
      · have hb : (z == 0) = true := by rw [h0]; rfl
        subst h0
        have hE : eat (n + 1) false rest = some r := by rw [HE.out.1]; simp
        have hL : lets (n + 1) false rest ls = ls := by rw [HE.out.2]; simp
        have HEL := Lib.hid (And.intro hE hL); clear hE hL HE
        go_wp2_with fail
        refine (madeOf_any 0 _ [] _ ⟨none, 0, rfl, fun h => by simp at h⟩ (by simp)).mono ?_
        rintro e w4 ⟨q, rfl, m1, m2, m3⟩
        have hge1 := X.out.1.ge
        have U := Lib.hid (And.intro (X.out.1.step m3) (And.intro (X.out.2.trans (m3.mono (by omega))) (m2 (by simp)))); clear m1 m2 m3 X
        go_wp2
        go_ret
        exact ⟨_, _, _, rfl, U.out.1, U.out.2.1, by omega, by omega, fun h => (by rw [HEL.out.1] at h; cases h), fun x hx => (by rw [HEL.out.1] at hx; cases hx; exact ⟨U.out.2.2, rfl, HEL.out.2.symm⟩)⟩
      have hb0 : (z == 0) = false := by simpa using h0
      by_cases h1 : z = 1
      · have hb : (z == 1) = true := by rw [h1]; rfl
        subst h1
        go_wp2_with fail
        refine (letter_any 1 lo g r _ r.tail ls _ X.out.1 (by omega) rfl rfl).mono ?_
        rintro e w2 ⟨p, ls', rfl, k1, k2, k3, k4⟩
        have hE : eat (n + 1) false rest = if 0 ≤ r.headD (-1) ∧ r.headD (-1) ≤ 999 then some r.tail else none := by rw [HE.out.1]; simp
        have hL : lets (n + 1) false rest ls = addL ls (1, r.headD (-1)) := by rw [HE.out.2]; simp
        have hadd : ∀ kn, (addL ls kn).length ≤ ls.length + 1 := fun kn => by unfold addL; split <;> simp
        have hfin : r.tail.length ≤ rest.length ∧ ls'.length + r.tail.length ≤ ls.length + rest.length ∧ (eat (n + 1) false rest = none → p = none) ∧ (∀ x, eat (n + 1) false rest = some x → p ≠ none ∧ r.tail = x ∧ ls' = lets (n + 1) false rest ls) := by
          have h1 : r.tail.length ≤ r.length := by rw [List.length_tail]; omega
          by_cases hc : 0 ≤ r.headD (-1) ∧ r.headD (-1) ≤ 999
          · obtain ⟨k5, k6⟩ := k3 hc
            rw [hE, if_pos hc, hL]
            have hr1 : r.tail.length + 1 ≤ r.length := tail_lt hc.1
            have := hadd (1, r.headD (-1))
            rw [← k6] at this
            exact ⟨by omega, by omega, fun h => (by cases h), fun x hx => (by cases hx; exact ⟨k5, rfl, k6⟩)⟩
          · obtain ⟨k5, k6⟩ := k4 hc
            rw [hE, if_neg hc]
            exact ⟨by omega, by rw [k6]; omega, fun _ => k5, fun x hx => by cases hx⟩
        have V := Lib.hid (And.intro k1 (And.intro (X.out.2.trans k2) hfin)); clear k1 k2 k3 k4 hE hL hadd hfin
        go_wp2
        go_ret
        exact ⟨_, _, _, rfl, V.out⟩
      have hb1 : (z == 1) = false := by simpa using h1
      by_cases h2 : z = 2
      · have hb : (z == 2) = true := by rw [h2]; rfl
        subst h2
        have hE : eat (n + 1) false rest = (eat n true r).bind (eat n true) := by rw [HE.out.1]; simp
        have hL : lets (n + 1) false rest ls = lets n true ((eat n true r).getD []) (lets n true r ls) := by rw [HE.out.2]; simp
        have HEL := Lib.hid (And.intro hE hL); clear hE hL HE
        go_wp2_with fail
        refine (ih1.out r ls _ hrl X.out.1 (by omega)).mono ?_
        rintro e w2 ⟨p1, r1, ls1, rfl, k1, k2, k3, k4, k5, k6⟩
        have hlt2 := k1.lt
        have Y := Lib.hid (And.intro k1 (And.intro (X.out.2.trans k2) (And.intro k5 k6))); clear k1 k2 k5 k6 X
        go_wp2_with fail
        refine (ih1.out r1 ls1 _ (by omega) Y.out.1 (by omega)).mono ?_
        rintro e w3 ⟨p2, r2, ls2, rfl, k1, k2, k5, k6, k7, k8⟩
        have hlt3 := k1.lt
        have hge3 := k1.ge
        have hal : Below w3.heap.size w3 (w3.alloc (.cells #[.pointer p1, .pointer p2] 49)) := (Below.refl _ _).alloc (Nat.le_refl _) _
        have V := Lib.hid (And.intro (k1.step hal) (And.intro (Y.out.2.1.trans (k2.trans (hal.mono (by omega)))) (And.intro (And.intro k7 k8) (And.intro Y.out.2.2 (ptrs_two w3 p1 p2))))); clear k1 k2 k7 k8 hal Y
        go_wp2_with fail
        refine (madeOf_any 2 _ [p1, p2] _ V.out.2.2.2.2 (by simp)).mono ?_
        rintro e w4 ⟨q, rfl, m1, m2, m3⟩
        have hfin := comb HEL.out.1 HEL.out.2 V.out.2.2.2.1 V.out.2.2.1 ⟨m1, m2⟩
        have U := Lib.hid (And.intro (V.out.1.step m3) (And.intro (V.out.2.1.trans (m3.mono (by simp; omega))) hfin)); clear m1 m2 m3 hfin V
        go_wp2
        go_ret
        exact ⟨_, _, _, rfl, U.out.1, U.out.2.1, by omega, by omega, U.out.2.2⟩
      have hb2 : (z == 2) = false := by simpa using h2
      have hE : eat (n + 1) false rest = none := by rw [HE.out.1]; simp [*]
      have V := Lib.hid (And.intro X.out.1 (And.intro X.out.2 hE)); clear hE X HE ih1 ih2
      go_wp2
      go_ret
      exact ⟨none, r, ls, rfl, V.out.1, V.out.2.1, by omega, by omega, fun _ => rfl, fun x hx => by rw [V.out.2.2] at hx; cases hx⟩

/-- The letters of a whole row, behind those of before; nothing if the numbers are no row. -/
def wholeR (zs : List Int) (ls : List (Int × Int)) : Option (List (Int × Int)) := if zs.length ≤ 150 ∧ eat zs.length true zs = some [] then some (lets zs.length true zs ls) else none
def WholePost (lo g : Nat) (zs : List Int) (ls : List (Int × Int)) (w : World) (e : Ending) (w' : World) : Prop :=
  ∃ p rest' ls', e = .returned (.pointer p) ∧ TReader w' lo g rest' ls' ∧ Below lo w w' ∧ ls'.length ≤ ls.length + 150 ∧ (wholeR zs ls = none → p = none) ∧ (∀ l, wholeR zs ls = some l → p ≠ none ∧ ls' = l)
theorem whole_any (lo g : Nat) (v : Value) (zs rest : List Int) (ls : List (Int × Int)) (w : World) (h : TReader w lo g rest ls) (hv : RdBI w lo v zs) (hl : ls.length ≤ 900000) :
    Calls Try.prog 35 #[.pointer (some ⟨g, 0, none⟩), v] w (WholePost lo g zs ls w) := by
  have hlt := h.lt
  have hge := h.ge
  have hlen := (hv.rd (by omega)).len_le
  by_cases h150 : zs.length ≤ 150
  · have hR : Hid (wholeR zs ls = if eat zs.length true zs = some [] then some (lets zs.length true zs ls) else none) := Lib.hid (by
      rw [wholeR]
      by_cases he : eat zs.length true zs = some []
      · rw [if_pos ⟨h150, he⟩, if_pos he]
      · rw [if_neg (fun h => he h.2), if_neg he])
    obtain ⟨rv, lv, us, h⟩ := h
    have hvB := hv
    obtain ⟨A, c, rfl, _⟩ := hv
    have c0 := h.blk.cell 0
    have f0 := h.blk.free 0
    simp only [List.getElem?_toArray, List.getElem?_cons_zero] at c0
    have hB : Below lo w (w.setCell ⟨g, 0, none⟩ (.slice A zs.length c)) := (Below.refl lo w).setCell (by simpa using hge) _
    have X : Hid (TReader (w.setCell ⟨g, 0, none⟩ (.slice A zs.length c)) lo g zs ls ∧ Below lo w (w.setCell ⟨g, 0, none⟩ (.slice A zs.length c))) := Lib.hid ⟨⟨_, lv, us, h.keep (fun k _ hne => Below.heap_setCell _ _ _ _ (by simpa using hne)) (h.blk.set 0 _) (hvB.below hB)⟩, hB⟩
    clear h hvB hB
    have h150b : ¬ ((150 : Int) < zs.length) := by omega
    go_enter Try.func35, Try.ntmps35
    go_wp2_with fail
    refine ((row_val lo g zs.length).1 zs ls _ (Nat.le_refl _) X.out.1 (by omega)).mono ?_
    rintro e w1 ⟨p, rest', ls', rfl, q1, q2, q3, q4, q5, q6⟩
    have hlt1 := q1.lt
    have HQ := Lib.hid (And.intro q1 (And.intro (X.out.2.trans q2) (And.intro q5 q6)))
    obtain ⟨rv1, lv1, us1, h1⟩ := q1
    obtain ⟨A1, k1, hrv, _⟩ := h1.rd
    have c1 := h1.blk.cell 0
    simp only [List.getElem?_toArray, List.getElem?_cons_zero] at c1
    rw [hrv] at c1
    clear h1 hrv q2 q5 q6 X c0 f0
    by_cases hr0 : rest' = []
    · subst hr0
      have hfin : (wholeR zs ls = none → p = none) ∧ (∀ l, wholeR zs ls = some l → p ≠ none ∧ ls' = l) := by
        rw [hR.out]
        by_cases he : eat zs.length true zs = some []
        · rw [if_pos he]
          obtain ⟨k2, _, k3⟩ := HQ.out.2.2.2 _ he
          exact ⟨fun h => (by cases h), fun l hl => (by cases hl; exact ⟨k2, k3⟩)⟩
        · rw [if_neg he]
          refine ⟨fun _ => ?_, fun l hl => (by cases hl)⟩
          rcases he2 : eat zs.length true zs with _ | r
          · exact HQ.out.2.2.1 he2
          · obtain ⟨_, k3, _⟩ := HQ.out.2.2.2 _ he2
            rw [he2, k3] at he
            exact absurd rfl he
      have K := Lib.hid hfin; clear hfin
      rw [List.length_nil] at c1 q4
      go_wp2
      go_ret
      exact ⟨_, _, _, rfl, HQ.out.1, HQ.out.2.1, by omega, K.out⟩
    · have hpos : (0 : Int) < rest'.length := by
        rcases rest' with _ | ⟨y, r⟩
        · exact absurd rfl hr0
        · rw [List.length_cons]; omega
      have hfin : wholeR zs ls = none := by
        rw [hR.out]
        by_cases he : eat zs.length true zs = some []
        · obtain ⟨_, k2, _⟩ := HQ.out.2.2.2 _ he
          exact absurd k2 hr0
        · rw [if_neg he]
      have K := Lib.hid hfin; clear hfin hr0
      go_wp2
      go_ret
      exact ⟨_, _, _, rfl, HQ.out.1, HQ.out.2.1, by omega, fun _ => rfl, fun l hl => by rw [K.out] at hl; cases hl⟩
  · have hR : wholeR zs ls = none := by rw [wholeR, if_neg (fun h => h150 h.1)]
    have K := Lib.hid (And.intro h hR)
    obtain ⟨A, c, rfl, _⟩ := hv
    have hb : (150 : Int) < zs.length := by omega
    clear h hR h150
    go_enter Try.func35, Try.ntmps35
    go_wp2
    go_ret
    exact ⟨none, rest, ls, rfl, K.out.1, Below.refl _ _, by omega, fun _ => rfl, fun l hl => by rw [K.out.2] at hl; cases hl⟩

def rowB (zs : List Int) : Bool := (wholeR zs []).isSome
theorem reader_new (w : World) : TReader (w.alloc (.cells #[.slice none 0 0, .slice none 0 0] 59)) w.heap.size w.heap.size [] [] :=
  ⟨_, _, [], Blk.new w _ _, Nat.le_refl _, ⟨none, 0, rfl, IntsK.nil _ _ _ _, Nat.le_refl _⟩, World.ownsRow_nil _ _ _ _, rfl, by simp⟩
theorem RowOk_I (v0 : Value) (x0 : List Int) (w : World) (h0 : RdI w v0 x0) (_ : x0.length ≤ 1048576) (y0 : Bool) (hR : rowB x0 = y0) :
    Calls Try.prog 15 #[v0] w fun e w' => e = .returned (.bool y0) ∧ Below w.heap.size w w' := by
  have hb : Below w.heap.size w (w.alloc (.cells #[.slice none 0 0, .slice none 0 0] 59)) := (Below.refl _ _).alloc (Nat.le_refl _) _
  have H := Lib.hid (And.intro (reader_new w) (And.intro ((RdI.at_ h0).below hb) hb)); clear hb h0
  have HR := Lib.hid hR; clear hR
  go_enter Try.func15, Try.ntmps15
  go_wp2_with fail
  refine (whole_any _ _ v0 x0 [] [] _ H.out.1 H.out.2.1 (by simp)).mono ?_
  rintro e w1 ⟨p, rest', ls', rfl, _, q2, _, q3, q4⟩
  have X := Lib.hid (H.out.2.2.trans q2); clear q2
  rcases p with _ | a
  · have hy : y0 = false := by
      rw [← HR.out, rowB]
      rcases h : wholeR x0 [] with _ | l
      · rfl
      · exact absurd rfl (q4 l h).1
    subst hy
    clear q3 q4
    go_wp2
    go_ret
    exact ⟨rfl, X.out⟩
  · have hy : y0 = true := by
      rw [← HR.out, rowB]
      rcases h : wholeR x0 [] with _ | l
      · cases q3 h
      · rfl
    subst hy
    clear q3 q4
    go_wp2
    go_ret
    exact ⟨rfl, X.out⟩
end Go.Proofs.Ytceekfoacgoalaa

/- The model's rows and types: where they end; RowOk. -/
namespace Go.Proofs.Ytceekfoacgoalaa
set_option maxRecDepth 100000
open Go.RowKit Go.WideShapes

theorem eat_suffix {n : Nat} {b : Bool} {zs r : List Int} (h : eat n b zs = some r) : ∃ m, r = zs.drop m ∧ m ≤ zs.length := by
  induction n generalizing b zs r with
  | zero => cases h
  | succ n ih =>
    have hne : ∀ {x : Int}, zs.headD (-1) = x → x ≠ -1 → 1 ≤ zs.length := fun hx h1 => by
      rcases zs with _ | ⟨z, zs⟩
      · exact absurd hx.symm (by simpa using h1)
      · simp
    have ht : zs.tail = zs.drop 1 := List.drop_one.symm
    have two : ∀ b2, 1 ≤ zs.length → (eat n true zs.tail).bind (eat n b2) = some r → ∃ m, r = zs.drop m ∧ m ≤ zs.length := fun b2 h1 h => by
      rcases h2 : eat n true zs.tail with _ | r1
      · rw [h2] at h; cases h
      · rw [h2] at h
        obtain ⟨m1, rfl, k1⟩ := ih h2
        obtain ⟨m2, rfl, k2⟩ := ih h
        rw [ht, List.length_drop] at k1
        rw [ht, List.drop_drop, List.length_drop] at k2
        exact ⟨1 + m1 + m2, by rw [ht, List.drop_drop, List.drop_drop, Nat.add_assoc], by omega⟩
    have lett : 0 ≤ zs.tail.headD (-1) → 2 ≤ zs.length := fun h0 => by
      rcases zs with _ | ⟨z, _ | ⟨y, zs⟩⟩
      · simp at h0
      · simp at h0
      · simp
    rcases b with _ | _
    · rw [eat] at h
      split at h
      · rename_i e; cases h; exact ⟨1, ht, hne e (by decide)⟩
      split at h
      · rename_i e
        split at h
        · rename_i hc; cases h; exact ⟨2, by rw [ht, List.tail_drop], lett hc.1⟩
        · cases h
      split at h
      · rename_i e; exact two _ (hne e (by decide)) h
      · cases h
    · rw [eat] at h
      split at h
      · rename_i e
        split at h
        · rename_i hc; cases h; exact ⟨2, by rw [ht, List.tail_drop], lett hc.1⟩
        · cases h
      split at h
      · rename_i e; exact two _ (hne e (by decide)) h
      · cases h

/-- Where a row, or a type, ends. -/
def endOf (L : Nat) : Option (List Int) → Int
  | some r => ((L - r.length : Nat) : Int)
  | none => -1
def endAt (n : Nat) (b : Bool) (zs : List Int) (k : Nat) : Int := endOf zs.length (eat n b (zs.drop k))
theorem endOf_bd (L : Nat) (o : Option (List Int)) : -1 ≤ endOf L o ∧ endOf L o ≤ L := by rcases o with _ | r <;> simp only [endOf] <;> omega
theorem endAt_two {n : Nat} {b2 : Bool} {zs : List Int} {k : Nat} : endOf zs.length ((eat n true (zs.drop (k + 1))).bind (eat n b2)) = (if endAt n true zs (k + 1) < 0 then -1 else endAt n b2 zs (endAt n true zs (k + 1)).toNat) := by
  unfold endAt
  rcases h : eat n true (zs.drop (k + 1)) with _ | r
  · simp [endOf]
  · obtain ⟨m, hr, hm⟩ := eat_suffix h
    rw [List.length_drop] at hm
    have hl : r.length = zs.length - (k + 1) - m := by rw [hr, List.length_drop, List.length_drop]
    have hd : zs.drop (zs.length - r.length) = r := by
      by_cases hk : k + 1 ≤ zs.length
      · rw [hl, show zs.length - (zs.length - (k + 1) - m) = k + 1 + m by omega, hr, List.drop_drop]
      · have h0 : r = [] := List.eq_nil_of_length_eq_zero (by omega)
        rw [h0]; simp
    simp only [Option.bind_some]
    rw [if_neg (by simp only [endOf]; omega), endOf, Int.toNat_natCast, hd]

theorem getD_drop (zs : List Int) (k : Nat) (h : k < zs.length) : (zs.drop k).headD (-1) = zs.getD k 0 := by
  rw [List.drop_eq_getElem_cons h]; simp [List.getD, List.getElem?_eq_getElem h]
theorem getD_drop1 (zs : List Int) (k : Nat) (h : k + 1 < zs.length) : (zs.drop k).tail.headD (-1) = zs.getD (k + 1) 0 := by
  rw [List.tail_drop, getD_drop zs (k + 1) h]

/-- A letter's number stands behind k. -/
def lettAt (zs : List Int) (k : Nat) : Prop := k + 1 < zs.length ∧ 0 ≤ zs.getD (k + 1) 0 ∧ zs.getD (k + 1) 0 ≤ 999
theorem lettAt_iff (zs : List Int) (k : Nat) : (0 ≤ (zs.drop (k + 1)).headD (-1) ∧ (zs.drop (k + 1)).headD (-1) ≤ 999) ↔ lettAt zs k := by
  unfold lettAt
  by_cases h : k + 1 < zs.length
  · rw [getD_drop zs (k + 1) h]; simp [h]
  · rw [List.drop_eq_nil_of_le (by omega)]; simp; omega
theorem endAt_lett {zs : List Int} {k : Nat} (o : Option (List Int)) (h : o = if 0 ≤ (zs.drop (k + 1)).headD (-1) ∧ (zs.drop (k + 1)).headD (-1) ≤ 999 then some (zs.drop (k + 1 + 1)) else none) :
    (lettAt zs k → endOf zs.length o = (k : Int) + 2) ∧ (¬ lettAt zs k → endOf zs.length o = -1) := by
  subst h
  refine ⟨fun h => ?_, fun h => ?_⟩
  · rw [if_pos ((lettAt_iff zs k).2 h)]
    have := h.1
    simp only [endOf, List.length_drop]; omega
  · rw [if_neg (fun h2 => h ((lettAt_iff zs k).1 h2))]; rfl
/-- What the end is, by the number that begins. -/
theorem endAt_next (n : Nat) {zs : List Int} {k : Nat} {z : Int} (hlt : k < zs.length) (hz : zs.getD k 0 = z) :
    (z = 0 → endAt (n + 1) false zs k = (k : Int) + 1) ∧ (z = 1 → (lettAt zs k → endAt (n + 1) false zs k = (k : Int) + 2) ∧ (¬ lettAt zs k → endAt (n + 1) false zs k = -1)) ∧ (z = 2 → endAt (n + 1) false zs k = if endAt n true zs (k + 1) < 0 then -1 else endAt n true zs (endAt n true zs (k + 1)).toNat) ∧ (z ≠ 0 → z ≠ 1 → z ≠ 2 → endAt (n + 1) false zs k = -1) ∧
    (z = 3 → (lettAt zs k → endAt (n + 1) true zs k = (k : Int) + 2) ∧ (¬ lettAt zs k → endAt (n + 1) true zs k = -1)) ∧ (z = 4 → endAt (n + 1) true zs k = if endAt n true zs (k + 1) < 0 then -1 else endAt n false zs (endAt n true zs (k + 1)).toNat) ∧ (z ≠ 3 → z ≠ 4 → endAt (n + 1) true zs k = -1) := by
  have h1 := getD_drop zs k hlt
  rw [hz] at h1
  have hF : eat (n + 1) false (zs.drop k) = if z = 0 then some (zs.drop (k + 1)) else if z = 1 then (if 0 ≤ (zs.drop (k + 1)).headD (-1) ∧ (zs.drop (k + 1)).headD (-1) ≤ 999 then some (zs.drop (k + 1 + 1)) else none) else if z = 2 then (eat n true (zs.drop (k + 1))).bind (eat n true) else none := by rw [eat, h1, List.tail_drop, List.tail_drop]
  have hT : eat (n + 1) true (zs.drop k) = if z = 3 then (if 0 ≤ (zs.drop (k + 1)).headD (-1) ∧ (zs.drop (k + 1)).headD (-1) ≤ 999 then some (zs.drop (k + 1 + 1)) else none) else if z = 4 then (eat n true (zs.drop (k + 1))).bind (eat n false) else none := by rw [eat, h1, List.tail_drop, List.tail_drop]
  refine ⟨fun e => ?_, fun e => ?_, fun e => ?_, fun e1 e2 e3 => ?_, fun e => ?_, fun e => ?_, fun e1 e2 => ?_⟩
  · rw [endAt, hF, if_pos e]; simp only [endOf, List.length_drop]; omega
  · exact endAt_lett (eat (n + 1) false (zs.drop k)) (by rw [hF, if_neg (by omega), if_pos e])
  · rw [← endAt_two, endAt, hF, if_neg (by omega), if_neg (by omega), if_pos e]
  · rw [endAt, hF, if_neg e1, if_neg e2, if_neg e3]; rfl
  · exact endAt_lett (eat (n + 1) true (zs.drop k)) (by rw [hT, if_pos e])
  · rw [← endAt_two, endAt, hT, if_neg (by omega), if_pos e]
  · rw [endAt, hT, if_neg e1, if_neg e2]; rfl

theorem l3End_neg (v : Value) (b : Bool) (x : Int) (zs : List Int) (w : World) (h : RdI w v zs) (hx : x < 0 ∨ zs.length ≤ x) (_ : zs.length ≤ 4000000) (hx2 : -1 ≤ x ∧ x ≤ 4000000) :
    Calls Try.prog 50 #[v, .int .i64 x, .bool b] w fun e w' => e = .returned (.int .i64 (-1)) ∧ w = w' := by
  obtain ⟨A, c, rfl, _⟩ := h
  by_cases h0 : x < 0
  · go_enter Try.func50, Try.ntmps50
    go_wp2
    go_ret
    exact ⟨rfl, rfl⟩
  · have h1 : (zs.length : Int) ≤ x := by omega
    have h2 : ¬ (x < (zs.length : Int)) := by omega
    go_enter Try.func50, Try.ntmps50
    go_wp2
    go_ret
    exact ⟨rfl, rfl⟩

set_option maxHeartbeats 8000000 in
theorem l3End_any (n : Nat) (v : Value) (b : Bool) (k : Nat) (zs : List Int) (w : World) (h : RdI w v zs) (hl : zs.length ≤ 4000000) (hk : k ≤ 4000000) (hn : zs.length ≤ k + n) :
    Calls Try.prog 50 #[v, .int .i64 k, .bool b] w fun e w' => e = .returned (.int .i64 (endAt n b zs k)) ∧ w = w' := by
  induction n generalizing b k with
  | zero =>
    refine (l3End_neg v b k zs w h (.inr (by omega)) hl (by omega)).mono ?_
    rintro e w' ⟨rfl, rfl⟩
    exact ⟨rfl, rfl⟩
  | succ n ih =>
    by_cases hlt : k < zs.length
    · have hmid : ∀ b2 x y, x = endAt n true zs (k + 1) → y = (if x < 0 then -1 else endAt n b2 zs x.toNat) → Calls Try.prog 50 #[v, .int .i64 x, .bool b2] w fun e w' => e = .returned (.int .i64 y) ∧ w = w' := fun b2 x y hx hy => by
        subst hy
        by_cases h0 : x < 0
        · rw [if_pos h0]
          have : x = -1 := by have := endOf_bd zs.length (eat n true (zs.drop (k + 1))); unfold endAt at hx; omega
          subst this
          exact l3End_neg v b2 (-1) zs w h (.inl (by omega)) hl (by omega)
        · rw [if_neg h0]
          obtain ⟨m, rfl⟩ : ∃ m : Nat, x = m := ⟨x.toNat, by omega⟩
          rw [Int.toNat_natCast]
          have hm : m ≤ zs.length := by have := endOf_bd zs.length (eat n true (zs.drop (k + 1))); unfold endAt at hx; omega
          by_cases hkm : k + 1 ≤ m
          · exact ih b2 m (by omega) (by omega)
          · exfalso
            unfold endAt at hx
            rcases he : eat n true (zs.drop (k + 1)) with _ | r
            · rw [he] at hx; simp only [endOf] at hx; omega
            · rw [he] at hx
              have := eat_len he
              rw [List.length_drop] at this
              simp only [endOf] at hx
              omega
      have hfst := ih true (k + 1) (by omega) (by omega)
      rw [show ((k + 1 : Nat) : Int) = (k : Int) + 1 by omega] at hfst
      have H2 := Lib.hid (And.intro hfst hmid); clear hmid hfst ih
      have hm := h.len_le
      obtain ⟨A, c, rfl, hi, _⟩ := h
      obtain ⟨b0, off, rfl, hb, hcc⟩ := hi.at_ (by omega)
      have hc0 := hcc k hlt
      obtain ⟨z, hz⟩ : ∃ z, zs.getD k 0 = z := ⟨_, rfl⟩
      have EN := Lib.hid (endAt_next n hlt hz)
      rw [hz] at hc0
      clear hz hi
      have hltI : (k : Int) < zs.length := by omega
      rcases b with _ | _
      · by_cases e0 : z = 0
        · subst e0
          have HE := Lib.hid (EN.out.1 rfl); clear EN hcc H2
          go_enter Try.func50, Try.ntmps50
          go_wp2
          go_ret
          exact ⟨ret_i64 (by rw [HE.out]), rfl⟩
        have b0 : (z == 0) = false := by simpa using e0
        by_cases e1 : z = 1
        · subst e1
          by_cases hL : lettAt zs k
          · have hE := (EN.out.2.1 rfl).1 hL
            obtain ⟨g1, g2, g3⟩ := hL
            have hc1 := hcc (k + 1) g1
            have g1I : (k : Int) + 1 < zs.length := by omega
            have hd : (decide (0 ≤ zs.getD (k + 1) 0) && decide (zs.getD (k + 1) 0 ≤ 999)) = true := by rw [Bool.and_eq_true, decide_eq_true_eq, decide_eq_true_eq]; exact ⟨g2, g3⟩
            have Hd := Lib.hid (And.intro hd hE); clear hd hE hcc EN H2
            generalize zs.getD (k + 1) 0 = y at *
            go_enter Try.func50, Try.ntmps50
            go_wp2_with (go_at_call 64; refine (l1In_any _ 0 999 _).mono ?_; rw [Hd.out.1]; rintro e w' ⟨rfl, rfl⟩)
            go_ret
            exact ⟨ret_i64 (by rw [Hd.out.2]), rfl⟩
          · have hE := (EN.out.2.1 rfl).2 hL
            by_cases g1 : k + 1 < zs.length
            · have hc1 := hcc (k + 1) g1
              have g1I : (k : Int) + 1 < zs.length := by omega
              have hd : (decide (0 ≤ zs.getD (k + 1) 0) && decide (zs.getD (k + 1) 0 ≤ 999)) = false := by
                rcases hh : (decide (0 ≤ zs.getD (k + 1) 0) && decide (zs.getD (k + 1) 0 ≤ 999)) with _ | _
                · rfl
                · simp only [Bool.and_eq_true, decide_eq_true_eq] at hh; exact absurd ⟨g1, hh.1, hh.2⟩ hL
              have Hd := Lib.hid (And.intro hd hE); clear hd hE hcc hL EN H2
              generalize zs.getD (k + 1) 0 = y at *
              go_enter Try.func50, Try.ntmps50
              go_wp2_with (go_at_call 64; refine (l1In_any _ 0 999 _).mono ?_; rw [Hd.out.1]; rintro e w' ⟨rfl, rfl⟩)
              go_ret
              exact ⟨ret_i64 (by rw [Hd.out.2]), rfl⟩
            · have g1I : ¬ ((k : Int) + 1 < zs.length) := by omega
              have Hd := Lib.hid hE; clear hE hcc hL g1 EN H2
              go_enter Try.func50, Try.ntmps50
              go_wp2
              go_ret
              exact ⟨ret_i64 (by rw [Hd.out]), rfl⟩
        have b1 : (z == 1) = false := by simpa using e1
        by_cases e2 : z = 2
        · subst e2
          have HE := Lib.hid (EN.out.2.2.1 rfl); clear EN hcc
          go_enter Try.func50, Try.ntmps50
          go_wp2_with fail
          refine (H2.out.1).mono ?_
          rintro e w' ⟨rfl, rfl⟩
          have H3 := Lib.hid (H2.out.2 true _ _ rfl rfl)
          generalize endAt n true zs (k + 1) = x at *
          generalize (if x < 0 then -1 else endAt n true zs x.toNat) = y at *
          clear H2
          go_wp2_with fail
          refine (H3.out).mono ?_
          rintro e w' ⟨rfl, rfl⟩
          go_wp2
          go_ret
          exact ⟨ret_i64 (by rw [HE.out]), rfl⟩
        have b2 : (z == 2) = false := by simpa using e2
        have HE := Lib.hid (EN.out.2.2.2.1 e0 e1 e2); clear EN hcc H2
        go_enter Try.func50, Try.ntmps50
        go_wp2
        go_ret
        exact ⟨ret_i64 (by rw [HE.out]), rfl⟩
      · by_cases e3 : z = 3
        · subst e3
          by_cases hL : lettAt zs k
          · have hE := (EN.out.2.2.2.2.1 rfl).1 hL
            obtain ⟨g1, g2, g3⟩ := hL
            have hc1 := hcc (k + 1) g1
            have g1I : (k : Int) + 1 < zs.length := by omega
            have hd : (decide (0 ≤ zs.getD (k + 1) 0) && decide (zs.getD (k + 1) 0 ≤ 999)) = true := by rw [Bool.and_eq_true, decide_eq_true_eq, decide_eq_true_eq]; exact ⟨g2, g3⟩
            have Hd := Lib.hid (And.intro hd hE); clear hd hE hcc EN H2
            generalize zs.getD (k + 1) 0 = y at *
            go_enter Try.func50, Try.ntmps50
            go_wp2_with (go_at_call 64; refine (l1In_any _ 0 999 _).mono ?_; rw [Hd.out.1]; rintro e w' ⟨rfl, rfl⟩)
            go_ret
            exact ⟨ret_i64 (by rw [Hd.out.2]), rfl⟩
          · have hE := (EN.out.2.2.2.2.1 rfl).2 hL
            by_cases g1 : k + 1 < zs.length
            · have hc1 := hcc (k + 1) g1
              have g1I : (k : Int) + 1 < zs.length := by omega
              have hd : (decide (0 ≤ zs.getD (k + 1) 0) && decide (zs.getD (k + 1) 0 ≤ 999)) = false := by
                rcases hh : (decide (0 ≤ zs.getD (k + 1) 0) && decide (zs.getD (k + 1) 0 ≤ 999)) with _ | _
                · rfl
                · simp only [Bool.and_eq_true, decide_eq_true_eq] at hh; exact absurd ⟨g1, hh.1, hh.2⟩ hL
              have Hd := Lib.hid (And.intro hd hE); clear hd hE hcc hL EN H2
              generalize zs.getD (k + 1) 0 = y at *
              go_enter Try.func50, Try.ntmps50
              go_wp2_with (go_at_call 64; refine (l1In_any _ 0 999 _).mono ?_; rw [Hd.out.1]; rintro e w' ⟨rfl, rfl⟩)
              go_ret
              exact ⟨ret_i64 (by rw [Hd.out.2]), rfl⟩
            · have g1I : ¬ ((k : Int) + 1 < zs.length) := by omega
              have Hd := Lib.hid hE; clear hE hcc hL g1 EN H2
              go_enter Try.func50, Try.ntmps50
              go_wp2
              go_ret
              exact ⟨ret_i64 (by rw [Hd.out]), rfl⟩
        have b3 : (z == 3) = false := by simpa using e3
        by_cases e4 : z = 4
        · subst e4
          have HE := Lib.hid (EN.out.2.2.2.2.2.1 rfl); clear EN hcc
          go_enter Try.func50, Try.ntmps50
          go_wp2_with fail
          refine (H2.out.1).mono ?_
          rintro e w' ⟨rfl, rfl⟩
          have H3 := Lib.hid (H2.out.2 false _ _ rfl rfl)
          generalize endAt n true zs (k + 1) = x at *
          generalize (if x < 0 then -1 else endAt n false zs x.toNat) = y at *
          clear H2
          go_wp2_with fail
          refine (H3.out).mono ?_
          rintro e w' ⟨rfl, rfl⟩
          go_wp2
          go_ret
          exact ⟨ret_i64 (by rw [HE.out]), rfl⟩
        have b4 : (z == 4) = false := by simpa using e4
        have HE := Lib.hid (EN.out.2.2.2.2.2.2 e3 e4); clear EN hcc H2
        go_enter Try.func50, Try.ntmps50
        go_wp2
        go_ret
        exact ⟨ret_i64 (by rw [HE.out]), rfl⟩
    · refine (l3End_neg v b k zs w h (.inr (by omega)) hl (by omega)).mono ?_
      rintro e w' ⟨rfl, rfl⟩
      refine ⟨?_, rfl⟩
      rw [endAt, List.drop_eq_nil_of_le (by omega)]
      rcases b with _ | _ <;> rfl

theorem eat_fuel {n m : Nat} {b : Bool} {zs : List Int} (hn : zs.length ≤ n) (hm : zs.length ≤ m) : eat n b zs = eat m b zs := by
  induction n generalizing m b zs with
  | zero =>
    obtain rfl : zs = [] := List.eq_nil_of_length_eq_zero (by omega)
    rcases m with _ | m
    · rfl
    · rcases b with _ | _ <;> rfl
  | succ n ih =>
    rcases m with _ | m
    · obtain rfl : zs = [] := List.eq_nil_of_length_eq_zero (by omega)
      rcases b with _ | _ <;> rfl
    · have h1 : eat n true zs.tail = eat m true zs.tail := ih (by rw [List.length_tail]; omega) (by rw [List.length_tail]; omega)
      have h2 : ∀ b2, (eat n true zs.tail).bind (eat n b2) = (eat m true zs.tail).bind (eat m b2) := fun b2 => by
        rw [h1]
        rcases h3 : eat m true zs.tail with _ | r
        · rfl
        · have := eat_len h3
          rw [List.length_tail] at this
          exact ih (by omega) (by omega)
      rcases b with _ | _
      · rw [eat, eat, h2]
      · rw [eat, eat, h2]
theorem rowB_end (zs : List Int) : rowB zs = (decide (zs.length ≤ 150) && decide (endAt zs.length true zs 0 = zs.length)) := by
  unfold rowB wholeR endAt
  rw [List.drop_zero]
  by_cases h : zs.length ≤ 150
  · rcases he : eat zs.length true zs with _ | r
    · simp [endOf]
    · have := eat_len he
      rcases r with _ | ⟨y, r⟩
      · simp [h, endOf]
      · simp only [Option.some.injEq, reduceCtorEq, and_false, if_false, Option.isSome_none]
        symm
        rw [Bool.and_eq_false_iff]
        right
        rw [decide_eq_false_iff_not]
        simp only [endOf, List.length_cons] at this ⊢
        omega
  · simp [h]
theorem RowOk_S (v0 : Value) (x0 : List Int) (w : World) (h0 : RdI w v0 x0) (hl0 : x0.length ≤ 1048576) (y0 : Bool) (hR : rowB x0 = y0) :
    Calls Try.prog 30 #[v0] w fun e w' => e = .returned (.bool y0) ∧ Below w.heap.size w w' := by
  have H := Lib.hid h0
  have hm := h0.len_le
  obtain ⟨A, c, rfl, _⟩ := h0
  rw [rowB_end] at hR
  by_cases h : x0.length ≤ 150
  · have hI : (x0.length : Int) ≤ 150 := by omega
    have HE := l3End_any x0.length _ true 0 x0 w H.out (by omega) (by omega) (by omega)
    have Hq := Lib.hid HE; clear HE
    generalize endAt x0.length true x0 0 = x at *
    have HR : Hid ((x == (x0.length : Int)) = y0) := Lib.hid (by
      rw [← hR, decide_eq_true h, Bool.true_and]
      exact Bool.eq_iff_iff.2 (by simp))
    clear hR
    go_enter Try.func30, Try.ntmps30
    go_wp2_with fail
    refine (Hq.out).mono ?_
    rintro e w' ⟨rfl, rfl⟩
    go_wp2
    go_ret
    exact ⟨ret_bool HR.out, Below.refl _ _⟩
  · have hI : ¬ ((x0.length : Int) ≤ 150) := by omega
    have hy : y0 = false := by rw [← hR, decide_eq_false h, Bool.false_and]
    subst hy
    clear hR h
    go_enter Try.func30, Try.ntmps30
    go_wp2
    go_ret
    exact ⟨rfl, Below.refl _ _⟩
end Go.Proofs.Ytceekfoacgoalaa

/- The program's EffectOk: the letters named in order. -/
namespace Go.Proofs.Ytceekfoacgoalaa
set_option maxRecDepth 100000
open Go.RowKit Go.WideShapes

/-- The letters have the numbers from a on (kind 1), and from b on (kind 3), in order. -/
def nameB : Int → Int → List (Int × Int) → Bool
  | _, _, [] => true
  | a, b, (k, n) :: r => if k = 1 then (n == a) && nameB (a + 1) b r else (n == b) && nameB a (b + 1) r
theorem nameB_drop {a b : Int} {ls : List (Int × Int)} {j : Nat} {k n : Int} (h : ls[j]? = some (k, n)) : nameB a b (ls.drop j) = if k = 1 then (n == a) && nameB (a + 1) b (ls.drop (j + 1)) else (n == b) && nameB a (b + 1) (ls.drop (j + 1)) := by
  obtain ⟨hj, e⟩ := List.getElem?_eq_some_iff.1 h
  rw [List.drop_eq_getElem_cons hj, e, nameB]
def NRel (w : World) (ls : List (Int × Int)) (k : Value) (wr : World) : Prop := ∃ (j : Nat) (a b : Int), k = .int .i64 j ∧ j ≤ ls.length ∧ Blk wr w.heap.size #[.int .i64 0, .int .i64 a, .int .i64 0, .int .i64 b, .int .i64 0] 90 ∧ Below w.heap.size w wr ∧ nameB 0 0 ls = nameB a b (ls.drop j) ∧ 0 ≤ a ∧ a ≤ j ∧ 0 ≤ b ∧ b ≤ j
set_option maxHeartbeats 2000000 in
theorem named_any (lo g : Nat) (rv lv : Value) (us : List Value) (rest : List Int) (ls : List (Int × Int)) (w : World) (h : TRd w lo g rv lv us rest ls) (hk : ∀ kn ∈ ls, kn.1 = 1 ∨ kn.1 = 3) (hl : ls.length ≤ 1000000) :
    Calls Try.prog 49 #[lv] w fun e w' => e = .returned (.bool (nameB 0 0 ls)) ∧ Below w.heap.size w w' := by
  obtain ⟨A, c, rfl⟩ := ownsRow_form h.row
  have hal : Below w.heap.size w (w.alloc (.cells #[.int .i64 0, .int .i64 0, .int .i64 0, .int .i64 0, .int .i64 0] 90)) := (Below.refl _ _).alloc (Nat.le_refl _) _
  have hst : NRel w ls (.int .i64 ((0 : Nat) : Int)) (w.alloc (.cells #[.int .i64 0, .int .i64 0, .int .i64 0, .int .i64 0, .int .i64 0] 90)) := ⟨0, 0, 0, rfl, Nat.zero_le _, Blk.new _ _ _, hal, by simp, by omega, by omega, by omega, by omega⟩
  have Hst := Lib.hid hst; clear hst hal
  have HT := Lib.hid (And.intro h hk); clear h hk
  go_enter Try.func49, Try.ntmps49
  go_wp2
  go_loopw [8] (fun k wr => NRel w ls k wr) (fun k _ => ls.length - (intOf k).toNat)
  case atStart => exact Hst.out
  case round =>
    clear Hst
    obtain ⟨j, a, b, rfl, hj, hB, hbw, hnm, ha0, ha1, hb0, hb1⟩ := hrel
    have hsw := hbw.size
    by_cases hlt : j < ls.length
    · obtain ⟨⟨k1, n1⟩, hkn⟩ : ∃ kn, ls[j]? = some kn := ⟨ls[j], List.getElem?_eq_getElem hlt⟩
      have hkd := HT.out.2 _ (List.mem_of_getElem? hkn)
      have hul : us.length = ls.length := HT.out.1.len
      obtain ⟨u, hu⟩ : ∃ u, us[j]? = some u := ⟨us[j]'(by omega), List.getElem?_eq_getElem (by omega)⟩
      obtain ⟨b1, rfl, hlb, d2, d3, d4, hblk⟩ := HT.out.1.term j u _ hu hkn
      have hbl := hblk.lt
      have hrow := HT.out.1.row
      obtain ⟨gl, rfl⟩ : ∃ gl, A = some ⟨gl, 0, none⟩ := by
        rcases hrow.2 with ⟨_, h1⟩ | ⟨gl, cap, cur, he, _⟩
        · omega
        · cases he; exact ⟨gl, rfl⟩
      have hgl := (hrow.lt gl rfl).2
      have hcell : wr.cell? ⟨gl, j, none⟩ = some (.pointer (some ⟨b1, 0, none⟩)) := by
        rw [hbw.cell (p := ⟨gl, j, none⟩) hgl, hrow.cellAt j (by omega)]; exact hu
      have hblk2 := hblk.below hbw hbl
      have t0 := hblk2.cell 0
      have t1 := hblk2.cell 1
      simp only [List.getElem?_toArray, List.getElem?_cons_zero, List.getElem?_cons_succ] at t0 t1
      have z1 := hB.cell 1
      have z3 := hB.cell 3
      have f1 := hB.free 1
      have f3 := hB.free 3
      simp only [List.getElem?_toArray, List.getElem?_cons_zero, List.getElem?_cons_succ] at z1 z3
      have hltI : (j : Int) < ls.length := by omega
      rw [nameB_drop hkn] at hnm
      have hd : Below wr.heap.size wr wr.drew := (Below.refl _ _).drew
      have hBl := hB.lt
      have X := Lib.hid (And.intro hnm (And.intro hB hbw)); clear hnm hB hbw hu hkn hblk hblk2 hul hrow
      rcases hkd with h1 | h1
      · dsimp only at h1
        subst h1
        by_cases he : n1 = a
        · have heb : (n1 != a) = false := by simp [he]
          have heb2 : (n1 == a) = true := by simp [he]
          have hnm2 : nameB 0 0 ls = nameB (a + 1) b (ls.drop (j + 1)) := by rw [X.out.1, if_pos rfl, heb2]; rfl
          have Y := Lib.hid hnm2; clear hnm2 heb2
          go_wp2
          go_quiet (fail)
          go_wp2
          have hdn : Below wr.heap.size wr (wr.drewN nq) := below_drewN (Below.refl _ _) nq
          have hB2 := (X.out.2.1.below hdn (by omega)).set 1 (.int .i64 (a + 1))
          have hb2 := (X.out.2.2.trans (hdn.mono hsw)).setCell (p := ⟨w.heap.size, 1, none⟩) (Nat.le_refl _) (.int .i64 (a + 1))
          have V := Lib.hid (And.intro hB2 hb2); clear hdn hB2 hb2 X
          go_roundw
          case rel => exact ⟨j + 1, (a + 1), b, by first | rfl | go_num, by omega, V.out.1, V.out.2, Y.out, by omega, by omega, by omega, by omega⟩
          case measure => simp [intOf]; omega
        · have heb : (n1 != a) = true := by simp [he]
          have hnm2 : nameB 0 0 ls = false := by
            have h2 : (n1 == a) = false := by simp [he]
            rw [X.out.1, if_pos rfl, h2]; rfl
          have Y := Lib.hid (And.intro hnm2 X.out.2.2); clear hnm2 X
          go_wp2
          go_quiet (fail)
          go_wp2
          go_ret
          exact ⟨ret_bool Y.out.1.symm, below_drewN Y.out.2 _⟩
      · dsimp only at h1
        subst h1
        by_cases he : n1 = b
        · have heb : (n1 != b) = false := by simp [he]
          have heb2 : (n1 == b) = true := by simp [he]
          have hnm2 : nameB 0 0 ls = nameB a (b + 1) (ls.drop (j + 1)) := by rw [X.out.1, if_neg (by decide), heb2]; rfl
          have Y := Lib.hid hnm2; clear hnm2 heb2
          go_wp2
          go_quiet (fail)
          go_wp2
          have hdn : Below wr.heap.size wr (wr.drewN nq) := below_drewN (Below.refl _ _) nq
          have hB2 := (X.out.2.1.below hdn (by omega)).set 3 (.int .i64 (b + 1))
          have hb2 := (X.out.2.2.trans (hdn.mono hsw)).setCell (p := ⟨w.heap.size, 3, none⟩) (Nat.le_refl _) (.int .i64 (b + 1))
          have V := Lib.hid (And.intro hB2 hb2); clear hdn hB2 hb2 X
          go_roundw
          case rel => exact ⟨j + 1, a, (b + 1), by first | rfl | go_num, by omega, V.out.1, V.out.2, Y.out, by omega, by omega, by omega, by omega⟩
          case measure => simp [intOf]; omega
        · have heb : (n1 != b) = true := by simp [he]
          have hnm2 : nameB 0 0 ls = false := by
            have h2 : (n1 == b) = false := by simp [he]
            rw [X.out.1, if_neg (by decide), h2]; rfl
          have Y := Lib.hid (And.intro hnm2 X.out.2.2); clear hnm2 X
          go_wp2
          go_quiet (fail)
          go_wp2
          go_ret
          exact ⟨ret_bool Y.out.1.symm, below_drewN Y.out.2 _⟩
    · have hnm2 : nameB 0 0 ls = true := by rw [hnm, List.drop_eq_nil_of_le (by omega)]; rfl
      have Y := Lib.hid (And.intro hnm2 hbw); clear hnm hnm2 hbw hB
      go_wp2
      go_ret
      exact ⟨ret_bool Y.out.1.symm, Y.out.2⟩

theorem addL_kinds {ls : List (Int × Int)} {kn : Int × Int} (h : ∀ x ∈ ls, x.1 = 1 ∨ x.1 = 3) (hk : kn.1 = 1 ∨ kn.1 = 3) : ∀ x ∈ addL ls kn, x.1 = 1 ∨ x.1 = 3 := by
  unfold addL
  split
  · exact h
  · intro x hx
    rcases List.mem_append.1 hx with h1 | h1
    · exact h x h1
    · simp at h1; rw [h1]; exact hk
theorem lets_kinds (n : Nat) (b : Bool) (zs : List Int) (ls : List (Int × Int)) (h : ∀ x ∈ ls, x.1 = 1 ∨ x.1 = 3) : ∀ x ∈ lets n b zs ls, x.1 = 1 ∨ x.1 = 3 := by
  induction n generalizing b zs ls with
  | zero => exact h
  | succ n ih =>
    rcases b with _ | _
    · rw [lets]
      split
      · exact h
      split
      · exact addL_kinds h (.inl rfl)
      · exact ih _ _ _ (ih _ _ _ h)
    · rw [lets]
      split
      · exact addL_kinds h (.inr rfl)
      · exact ih _ _ _ (ih _ _ _ h)
theorem wholeR_kinds {zs : List Int} {ls l : List (Int × Int)} (h : ∀ x ∈ ls, x.1 = 1 ∨ x.1 = 3) (hw : wholeR zs ls = some l) : ∀ x ∈ l, x.1 = 1 ∨ x.1 = 3 := by
  unfold wholeR at hw
  split at hw
  · cases hw; exact lets_kinds _ _ _ _ h
  · cases hw

/-- What the two rows of an effect name, one behind the other. -/
def effL (a b : List Int) : Option (List (Int × Int)) := (wholeR a []).bind (wholeR b)
def effB (a b : List Int) : Bool := match effL a b with
  | some l => nameB 0 0 l
  | none => false
def ReadPost (w : World) (a b : List Int) (e : Ending) (w' : World) : Prop := ∃ p q A n c, e = .returned (.tuple #[.agg #[.pointer p, .pointer q, .slice A n c], .bool (effB a b)]) ∧ Below w.heap.size w w'
theorem blk_three {w : World} {g : Nat} {a b c : Value} {T : TypeId} (h : Blk w g #[a, b, c] T) : w.cell? ⟨g, 0, none⟩ = some a ∧ w.cell? ⟨g, 1, none⟩ = some b ∧ w.cell? ⟨g, 2, none⟩ = some c ∧ w.frozen? ⟨g, 0, none⟩ = false ∧ w.frozen? ⟨g, 1, none⟩ = false ∧ w.frozen? ⟨g, 2, none⟩ = false :=
  ⟨h.cell 0, h.cell 1, h.cell 2, h.free 0, h.free 1, h.free 2⟩
theorem blk_three_out {w : World} {g : Nat} {a b c x y z : Value} {T : TypeId} (h : Blk w g #[a, b, c] T) : (((w.setCell ⟨g, 0, none⟩ x).setCell ⟨g, 1, none⟩ y).setCell ⟨g, 2, none⟩ z).cell? ⟨g, 0, none⟩ = some x ∧ (((w.setCell ⟨g, 0, none⟩ x).setCell ⟨g, 1, none⟩ y).setCell ⟨g, 2, none⟩ z).cell? ⟨g, 1, none⟩ = some y ∧ (((w.setCell ⟨g, 0, none⟩ x).setCell ⟨g, 1, none⟩ y).setCell ⟨g, 2, none⟩ z).cell? ⟨g, 2, none⟩ = some z :=
  ⟨(((h.set 0 x).set 1 y).set 2 z).cell 0, (((h.set 0 x).set 1 y).set 2 z).cell 1, (((h.set 0 x).set 1 y).set 2 z).cell 2⟩
theorem blk_two2 {w : World} {g : Nat} {a b : Value} {T : TypeId} (h : Blk w g #[a, b] T) : w.cell? ⟨g, 0, none⟩ = some a ∧ w.cell? ⟨g, 1, none⟩ = some b := ⟨h.cell 0, h.cell 1⟩
set_option maxHeartbeats 2000000 in
theorem readEffect_any (v0 v1 : Value) (a b : List Int) (w : World) (h0 : RdI w v0 a) (h1 : RdI w v1 b) :
    Calls Try.prog 29 #[.agg #[v0, v1]] w (ReadPost w a b) := by
  have b0 : Below w.heap.size w (w.alloc (.cells #[v0, v1] 25)) := (Below.refl _ _).alloc (Nat.le_refl _) _
  have b1 : Below w.heap.size w ((w.alloc (.cells #[v0, v1] 25)).alloc (.cells #[.pointer none, .pointer none, .slice none 0 0] 52)) := b0.alloc (by simp) _
  have b2 : Below w.heap.size w (((w.alloc (.cells #[v0, v1] 25)).alloc (.cells #[.pointer none, .pointer none, .slice none 0 0] 52)).alloc (.cells #[.slice none 0 0, .slice none 0 0] 59)) := b1.alloc (by simp; omega) _
  have hr := reader_new ((w.alloc (.cells #[v0, v1] 25)).alloc (.cells #[.pointer none, .pointer none, .slice none 0 0] 52))
  have k1 := Blk.new w #[v0, v1] 25
  have k2 := Blk.new (w.alloc (.cells #[v0, v1] 25)) #[.pointer none, .pointer none, .slice none 0 0] 52
  simp only [World.size_alloc] at hr k2
  have l1 : Below (w.heap.size + 1) (w.alloc (.cells #[v0, v1] 25)) ((w.alloc (.cells #[v0, v1] 25)).alloc (.cells #[.pointer none, .pointer none, .slice none 0 0] 52)) := (Below.refl _ _).alloc (by simp) _
  have l2 : Below (w.heap.size + 1 + 1) ((w.alloc (.cells #[v0, v1] 25)).alloc (.cells #[.pointer none, .pointer none, .slice none 0 0] 52)) (((w.alloc (.cells #[v0, v1] 25)).alloc (.cells #[.pointer none, .pointer none, .slice none 0 0] 52)).alloc (.cells #[.slice none 0 0, .slice none 0 0] 59)) := (Below.refl _ _).alloc (by simp) _
  have hR0 : RdBI (((w.alloc (.cells #[v0, v1] 25)).alloc (.cells #[.pointer none, .pointer none, .slice none 0 0] 52)).alloc (.cells #[.slice none 0 0, .slice none 0 0] 59)) (w.heap.size + 1 + 1) v0 a := by
    obtain ⟨A, c, e, hi, hc⟩ := (RdI.at_ h0).below b2
    exact ⟨A, c, e, hi.mono (by omega), hc⟩
  have hR1 : RdBI (((w.alloc (.cells #[v0, v1] 25)).alloc (.cells #[.pointer none, .pointer none, .slice none 0 0] 52)).alloc (.cells #[.slice none 0 0, .slice none 0 0] 59)) (w.heap.size + 1 + 1) v1 b := by
    obtain ⟨A, c, e, hi, hc⟩ := (RdI.at_ h1).below b2
    exact ⟨A, c, e, hi.mono (by omega), hc⟩
  have S0 := Lib.hid (And.intro hr (And.intro hR0 (And.intro hR1 (And.intro b2 (And.intro ((k1.below l1 (by omega)).below l2 (by omega)) (k2.below l2 (by omega))))))); clear hr hR0 hR1 b0 b1 b2 k1 k2 l1 l2
  obtain ⟨A0, c0, rfl, _⟩ := h0
  obtain ⟨A1, c1, rfl, _⟩ := h1
  go_enter Try.func29, Try.ntmps29
  go_wp2_with fail
  refine (whole_any _ _ _ a [] [] _ S0.out.1 S0.out.2.1 (by simp)).mono ?_
  rintro e w1 ⟨p, r1, ls1, rfl, q1, q2, q3, q4, q5⟩
  have hs1 : w.heap.size + 1 + 1 + 1 ≤ w1.heap.size := by have := q2.size; simpa using this
  have hlt1 := q1.lt
  have kE := S0.out.2.2.2.2.1.below q2 (by omega)
  obtain ⟨x0, x1⟩ := blk_two2 kE
  have S1 := Lib.hid (And.intro q1 (And.intro (S0.out.2.2.1.below q2) (And.intro (S0.out.2.2.2.1.trans (q2.mono (by omega))) (And.intro (S0.out.2.2.2.2.2.below q2 (by omega)) (And.intro q4 q5))))); clear q1 q2 q4 q5 kE S0
  rw [List.length_nil] at q3
  go_wp2_with fail
  refine (whole_any _ _ _ b r1 ls1 _ S1.out.1 S1.out.2.1 (by omega)).mono ?_
  rintro e w2 ⟨q, r2, ls2, rfl, q1, q2, q6, q4, q5⟩
  have hs2 := q2.size
  have hlt2 := q1.lt
  obtain ⟨rv, lv, us, ht⟩ := q1
  obtain ⟨AL, cL, rfl⟩ := ownsRow_form ht.row
  have z1 := ht.blk.cell 1
  simp only [List.getElem?_toArray, List.getElem?_cons_zero, List.getElem?_cons_succ] at z1
  have S2 := Lib.hid (And.intro ht (And.intro (S1.out.2.2.1.trans (q2.mono (by omega))) (And.intro (S1.out.2.2.2.1.below q2 (by omega)) (And.intro S1.out.2.2.2.2 (And.intro q4 q5))))); clear ht q2 q4 q5 S1 x0 x1
  rcases p with _ | pa
  · have hw : wholeR a [] = none := by
      rcases h : wholeR a [] with _ | l
      · rfl
      · exact absurd rfl (S2.out.2.2.2.1.2 l h).1
    obtain ⟨m0, m1, m2, g0, g1, g2⟩ := blk_three S2.out.2.2.1
    obtain ⟨e0, e1, e2⟩ := blk_three_out S2.out.2.2.1 (x := .pointer none) (y := .pointer none) (z := .slice none 0 0)
    have hE : effB a b = false := by rw [effB, effL, hw]; rfl
    have R := Lib.hid (And.intro hE (((S2.out.2.1.setCell (p := ⟨w.heap.size + 1, 0, none⟩) (by simp) (.pointer none)).setCell (p := ⟨w.heap.size + 1, 1, none⟩) (by simp) (.pointer none)).setCell (p := ⟨w.heap.size + 1, 2, none⟩) (by simp) (.slice none 0 0))); clear hE
    go_wp2
    refine bodyPost_ret (v := .tuple #[.agg #[.pointer none, .pointer none, .slice none 0 0], .bool false]) (by simp [results, Try.results29, go_sem, e0, e1, e2]) rfl ?_
    exact ⟨none, none, none, 0, 0, by rw [R.out.1], R.out.2⟩
  obtain ⟨l1, hw1⟩ : ∃ l, wholeR a [] = some l := by
    rcases h : wholeR a [] with _ | l
    · cases S2.out.2.2.2.1.1 h
    · exact ⟨l, rfl⟩
  obtain ⟨_, rfl⟩ := S2.out.2.2.2.1.2 _ hw1
  rcases q with _ | qa
  · have hw : wholeR b ls1 = none := by
      rcases h : wholeR b ls1 with _ | l
      · rfl
      · exact absurd rfl (S2.out.2.2.2.2.2 l h).1
    obtain ⟨m0, m1, m2, g0, g1, g2⟩ := blk_three S2.out.2.2.1
    obtain ⟨e0, e1, e2⟩ := blk_three_out S2.out.2.2.1 (x := .pointer none) (y := .pointer none) (z := .slice none 0 0)
    have hE : effB a b = false := by rw [effB, effL, hw1]; simp only [Option.bind_some]; rw [hw]
    have R := Lib.hid (And.intro hE (((S2.out.2.1.setCell (p := ⟨w.heap.size + 1, 0, none⟩) (by simp) (.pointer none)).setCell (p := ⟨w.heap.size + 1, 1, none⟩) (by simp) (.pointer none)).setCell (p := ⟨w.heap.size + 1, 2, none⟩) (by simp) (.slice none 0 0))); clear hE
    go_wp2
    refine bodyPost_ret (v := .tuple #[.agg #[.pointer none, .pointer none, .slice none 0 0], .bool false]) (by simp [results, Try.results29, go_sem, e0, e1, e2]) rfl ?_
    exact ⟨none, none, none, 0, 0, by rw [R.out.1], R.out.2⟩
  obtain ⟨l2, hw2⟩ : ∃ l, wholeR b ls1 = some l := by
    rcases h : wholeR b ls1 with _ | l
    · cases S2.out.2.2.2.2.1 h
    · exact ⟨l, rfl⟩
  obtain ⟨_, rfl⟩ := S2.out.2.2.2.2.2 _ hw2
  have hk := wholeR_kinds (wholeR_kinds (by simp) hw1) hw2
  have hE : effB a b = nameB 0 0 ls2 := by rw [effB, effL, hw1]; simp only [Option.bind_some]; rw [hw2]
  have HK := Lib.hid (And.intro hk hE); clear hk hE hw1 hw2
  go_wp2_with fail
  refine (named_any _ _ _ _ us r2 ls2 _ S2.out.1 HK.out.1 (by omega)).mono ?_
  rintro e w3 ⟨rfl, hb⟩
  have hs3 := hb.size
  have kR := S2.out.2.2.1.below hb (by omega)
  have kB := S2.out.2.1.trans (hb.mono (by omega))
  have kz : w3.cell? ⟨w.heap.size + 1 + 1, 1, none⟩ = some (.slice AL ls2.length cL) := (hb.cell (p := ⟨w.heap.size + 1 + 1, 1, none⟩) (by omega)).trans z1
  obtain ⟨m0, m1, m2, g0, g1, g2⟩ := blk_three kR
  rcases hn : nameB 0 0 ls2 with _ | _
  · obtain ⟨e0, e1, e2⟩ := blk_three_out kR (x := .pointer none) (y := .pointer none) (z := .slice none 0 0)
    have R := Lib.hid (And.intro (HK.out.2.trans hn) (((kB.setCell (p := ⟨w.heap.size + 1, 0, none⟩) (by simp) (.pointer none)).setCell (p := ⟨w.heap.size + 1, 1, none⟩) (by simp) (.pointer none)).setCell (p := ⟨w.heap.size + 1, 2, none⟩) (by simp) (.slice none 0 0))); clear S2 hb kR kB hn HK
    go_wp2
    refine bodyPost_ret (v := .tuple #[.agg #[.pointer none, .pointer none, .slice none 0 0], .bool false]) (by simp [results, Try.results29, go_sem, e0, e1, e2]) rfl ?_
    exact ⟨none, none, none, 0, 0, by rw [R.out.1], R.out.2⟩
  · obtain ⟨e0, e1, e2⟩ := blk_three_out kR (x := .pointer (some pa)) (y := .pointer (some qa)) (z := .slice AL ls2.length cL)
    have R := Lib.hid (And.intro (HK.out.2.trans hn) (((kB.setCell (p := ⟨w.heap.size + 1, 0, none⟩) (by simp) (.pointer (some pa))).setCell (p := ⟨w.heap.size + 1, 1, none⟩) (by simp) (.pointer (some qa))).setCell (p := ⟨w.heap.size + 1, 2, none⟩) (by simp) (.slice AL ls2.length cL))); clear S2 hb kR kB hn HK
    go_wp2
    refine bodyPost_ret (v := .tuple #[.agg #[.pointer (some pa), .pointer (some qa), .slice AL ls2.length cL], .bool true]) (by simp [results, Try.results29, go_sem, e0, e1, e2]) rfl ?_
    exact ⟨some pa, some qa, AL, ls2.length, cL, by rw [R.out.1], R.out.2⟩

/-- EffectOk, the program's. -/
theorem EffectOk_I (v0 v1 : Value) (a b : List Int) (w : World) (h0 : RdI w v0 a) (h1 : RdI w v1 b) :
    Calls Try.prog 8 #[.agg #[v0, v1]] w fun e w' => e = .returned (.bool (effB a b)) ∧ Below w.heap.size w w' := by
  have hal : Below w.heap.size w (w.alloc (.cells #[v0, v1] 25)) := (Below.refl _ _).alloc (Nat.le_refl _) _
  have S0 := Lib.hid (And.intro (h0.step hal) (And.intro (h1.step hal) hal)); clear hal
  obtain ⟨A0, c0, rfl, _⟩ := h0
  obtain ⟨A1, c1, rfl, _⟩ := h1
  go_enter Try.func8, Try.ntmps8
  go_wp2_with fail
  refine (readEffect_any _ _ a b _ S0.out.1 S0.out.2.1).mono ?_
  rintro e w1 ⟨p, q, A, n, c, rfl, hb⟩
  have hs1 : w.heap.size + 1 ≤ w1.heap.size := by have := hb.size; simpa using this
  have X := Lib.hid ((S0.out.2.2.trans (hb.mono (by simp))).alloc (by omega) (.cells #[.pointer p, .pointer q, .slice A n c] 52)); clear hb S0
  go_wp2
  go_ret
  exact ⟨rfl, X.out⟩
end Go.Proofs.Ytceekfoacgoalaa

/- The model's letters: what is eaten is a beginning; l1Same; l3Letters. -/
namespace Go.Proofs.Ytceekfoacgoalaa
set_option maxRecDepth 100000
open Go.RowKit Go.WideShapes

theorem eat_f (n : Nat) (z : Int) (xs : List Int) : eat (n + 1) false (z :: xs) = if z = 0 then some xs else if z = 1 then (if 0 ≤ xs.headD (-1) ∧ xs.headD (-1) ≤ 999 then some xs.tail else none) else if z = 2 then (eat n true xs).bind (eat n true) else none := rfl
theorem eat_t (n : Nat) (z : Int) (xs : List Int) : eat (n + 1) true (z :: xs) = if z = 3 then (if 0 ≤ xs.headD (-1) ∧ xs.headD (-1) ≤ 999 then some xs.tail else none) else if z = 4 then (eat n true xs).bind (eat n false) else none := rfl
theorem eat_pre {n : Nat} {b : Bool} {xs r : List Int} (h : eat n b xs = some r) : ∃ p, xs = p ++ r ∧ p ≠ [] ∧ (∀ s, eat n b (p ++ s) = some s) ∧ (∀ s ls, lets n b (p ++ s) ls = lets n b xs ls) := by
  induction n generalizing b xs r with
  | zero => cases h
  | succ n ih =>
    rcases xs with _ | ⟨z, xs⟩
    · exfalso; have := eat_len h; simp at this
    have lett : ∀ b2 (q : Int), (∀ y s, 0 ≤ y ∧ y ≤ 999 → eat (n + 1) b2 (q :: y :: s) = some s) → (∀ y s ls, lets (n + 1) b2 (q :: y :: s) ls = addL ls ((if b2 = true then 3 else 1), y)) → z = q → b = b2 → (0 ≤ xs.headD (-1) ∧ xs.headD (-1) ≤ 999) → some xs.tail = some r → ∃ p, z :: xs = p ++ r ∧ p ≠ [] ∧ (∀ s, eat (n + 1) b (p ++ s) = some s) ∧ (∀ s ls, lets (n + 1) b (p ++ s) ls = lets (n + 1) b (z :: xs) ls) := by
      rintro b2 q h1 h2 rfl rfl hc hr
      rcases xs with _ | ⟨y, xs⟩
      · simp at hc
      · cases hr
        refine ⟨[z, y], rfl, by simp, fun s => h1 y s (by simpa using hc), fun s ls => ?_⟩
        rw [show [z, y] ++ s = z :: y :: s from rfl, h2, h2]
    have two : ∀ b1 b2 (q : Int), (∀ s, eat (n + 1) b1 (q :: s) = (eat n true s).bind (eat n b2)) → (∀ s ls, lets (n + 1) b1 (q :: s) ls = lets n b2 ((eat n true s).getD []) (lets n true s ls)) → z = q → b = b1 → (eat n true xs).bind (eat n b2) = some r → ∃ p, z :: xs = p ++ r ∧ p ≠ [] ∧ (∀ s, eat (n + 1) b (p ++ s) = some s) ∧ (∀ s ls, lets (n + 1) b (p ++ s) ls = lets (n + 1) b (z :: xs) ls) := by
      rintro b1 b2 q h1 h2 rfl rfl hr
      rcases h3 : eat n true xs with _ | r1
      · rw [h3] at hr; cases hr
      · rw [h3] at hr
        obtain ⟨p1, e1, _, f1, g1⟩ := ih h3
        obtain ⟨p2, e2, _, f2, g2⟩ := ih hr
        refine ⟨z :: (p1 ++ p2), by rw [e1, e2]; simp, by simp, fun s => ?_, fun s ls => ?_⟩
        · rw [List.cons_append, h1, List.append_assoc, f1]; exact f2 s
        · rw [List.cons_append, h2, h2, List.append_assoc, f1, h3, g1]
          simp only [Option.getD_some]
          rw [g2]
    rcases b with _ | _
    · rw [eat_f] at h
      by_cases e : z = 0
      · rw [if_pos e] at h
        cases h
        subst e
        exact ⟨[0], rfl, by simp, fun s => by simp [eat], fun s ls => by simp [lets]⟩
      rw [if_neg e] at h
      by_cases e : z = 1
      · rw [if_pos e] at h
        by_cases hc : 0 ≤ xs.headD (-1) ∧ xs.headD (-1) ≤ 999
        · rw [if_pos hc] at h
          exact lett false 1 (fun y s hy => by simp [eat, hy]) (fun y s ls => by simp [lets]) e rfl hc h
        · rw [if_neg hc] at h; cases h
      rw [if_neg e] at h
      by_cases e : z = 2
      · rw [if_pos e] at h
        exact two false true 2 (fun s => by simp [eat]) (fun s ls => by simp [lets]) e rfl h
      · rw [if_neg e] at h; cases h
    · rw [eat_t] at h
      by_cases e : z = 3
      · rw [if_pos e] at h
        by_cases hc : 0 ≤ xs.headD (-1) ∧ xs.headD (-1) ≤ 999
        · rw [if_pos hc] at h
          exact lett true 3 (fun y s hy => by simp [eat, hy]) (fun y s ls => by simp [lets]) e rfl hc h
        · rw [if_neg hc] at h; cases h
      rw [if_neg e] at h
      by_cases e : z = 4
      · rw [if_pos e] at h
        exact two true false 4 (fun s => by simp [eat]) (fun s ls => by simp [lets]) e rfl h
      · rw [if_neg e] at h; cases h
theorem eat_mono {n m : Nat} {b : Bool} {xs r : List Int} (h : eat n b xs = some r) (hm : n ≤ m) : eat m b xs = some r := by
  induction n generalizing m b xs r with
  | zero => cases h
  | succ n ih =>
    obtain ⟨m, rfl⟩ : ∃ q, m = q + 1 := ⟨m - 1, by omega⟩
    have h2 : ∀ b2, (eat n true xs.tail).bind (eat n b2) = some r → (eat m true xs.tail).bind (eat m b2) = some r := fun b2 hr => by
      rcases h3 : eat n true xs.tail with _ | r1
      · rw [h3] at hr; cases hr
      · rw [h3] at hr
        rw [ih h3 (by omega)]; exact ih hr (by omega)
    rcases b with _ | _
    · rw [eat] at h ⊢
      split at h
      · rename_i e; rw [if_pos e]; exact h
      rename_i e0
      rw [if_neg e0]
      split at h
      · rename_i e; rw [if_pos e]; exact h
      rename_i e1
      rw [if_neg e1]
      split at h
      · rename_i e; rw [if_pos e]; exact h2 _ h
      · cases h
    · rw [eat] at h ⊢
      split at h
      · rename_i e; rw [if_pos e]; exact h
      rename_i e0
      rw [if_neg e0]
      split at h
      · rename_i e; rw [if_pos e]; exact h2 _ h
      · cases h
theorem addL_len (ls : List (Int × Int)) (kn : Int × Int) : (addL ls kn).length ≤ ls.length + 1 := by unfold addL; split <;> simp
theorem lets_len {n : Nat} {b : Bool} {xs r : List Int} (h : eat n b xs = some r) (ls : List (Int × Int)) : (lets n b xs ls).length + r.length ≤ ls.length + xs.length := by
  induction n generalizing b xs r ls with
  | zero => cases h
  | succ n ih =>
    have hl := eat_len h
    have two : ∀ b2, (eat n true xs.tail).bind (eat n b2) = some r → (lets n b2 ((eat n true xs.tail).getD []) (lets n true xs.tail ls)).length + r.length ≤ ls.length + xs.length := fun b2 hr => by
      rcases h3 : eat n true xs.tail with _ | r1
      · rw [h3] at hr; cases hr
      · rw [h3] at hr
        have i1 := ih h3 ls
        have i2 := ih hr (lets n true xs.tail ls)
        simp only [Option.getD_some]
        rw [List.length_tail] at i1
        omega
    have hadd := fun kn => addL_len ls kn
    rcases b with _ | _
    · rw [eat] at h
      rw [lets]
      split at h
      · rename_i e; rw [if_pos e]; omega
      rename_i e0
      rw [if_neg e0]
      split at h
      · rename_i e; rw [if_pos e]; have := hadd (1, xs.tail.headD (-1)); omega
      rename_i e1
      rw [if_neg e1]
      split at h
      · exact two _ h
      · cases h
    · rw [eat] at h
      rw [lets]
      split at h
      · rename_i e; rw [if_pos e]; have := hadd (3, xs.tail.headD (-1)); omega
      rename_i e0
      rw [if_neg e0]
      split at h
      · exact two _ h
      · cases h

/-- A letter as the model has it. -/
def code (kn : Int × Int) : Int := 2 * kn.2 + (if kn.1 = 3 then 1 else 0)
theorem code_inj {x y : Int × Int} (hx : x.1 = 1 ∨ x.1 = 3) (hy : y.1 = 1 ∨ y.1 = 3) (h : code x = code y) : x = y := by
  obtain ⟨a, b⟩ := x
  obtain ⟨c, d⟩ := y
  simp only [code] at h hx hy
  rcases hx with rfl | rfl <;> rcases hy with rfl | rfl <;> simp at h ⊢ <;> omega
theorem code_mem {x : Int × Int} {ls : List (Int × Int)} (hx : x.1 = 1 ∨ x.1 = 3) (hl : ∀ y ∈ ls, y.1 = 1 ∨ y.1 = 3) : code x ∈ ls.map code ↔ x ∈ ls := by
  constructor
  · intro h
    obtain ⟨y, hy, e⟩ := List.mem_map.1 h
    rw [← code_inj (hl y hy) hx e]; exact hy
  · exact fun h => List.mem_map.2 ⟨x, h, rfl⟩
/-- Where a row, or a type, ends that begins at k. -/
theorem end_ok {n : Nat} {b : Bool} {zs r : List Int} {k : Nat} (h : eat n b (zs.drop k) = some r) : endAt zs.length b zs k = ((zs.length - r.length : Nat) : Int) ∧ k < zs.length ∧ r.length ≤ zs.length ∧ zs.drop (zs.length - r.length) = r ∧ k ≤ zs.length - r.length := by
  have hl := eat_len h
  rw [List.length_drop] at hl
  have h1 : eat zs.length b (zs.drop k) = some r := by
    rcases Nat.le_total n zs.length with hn | hn
    · exact eat_mono h hn
    · rw [← eat_fuel (n := n) (by rw [List.length_drop]; omega) (by rw [List.length_drop]; omega)]; exact h
  obtain ⟨m, hr, hm⟩ := eat_suffix h
  rw [List.length_drop] at hm
  have hrl : r.length = zs.length - k - m := by rw [hr, List.length_drop, List.length_drop]
  refine ⟨by rw [endAt, h1, endOf], by omega, by omega, ?_, by omega⟩
  rw [hrl, show zs.length - (zs.length - k - m) = k + m by omega, hr, List.drop_drop]
end Go.Proofs.Ytceekfoacgoalaa
