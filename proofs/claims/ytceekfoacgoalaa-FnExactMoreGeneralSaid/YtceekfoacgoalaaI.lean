/- The draws of chapter 1's laws; alive; the comparison of the laws. -/
import Derived.Test.YtceekfoacgoalaaB3
import Derived.Test.YtceekfoacgoalaaB2
namespace Go.Proofs.Ytceekfoacgoalaa
set_option maxRecDepth 100000
open Go.RowKit Go.WideShapes

/-- A code: a slice of bytes. -/
def RdBC (w : World) (B : Nat) (v : Value) (zs : List Int) : Prop := ∃ A c, v = .slice A zs.length c ∧ IntsK .u8 w B A zs ∧ zs.length ≤ c
abbrev RdC (w : World) (v : Value) (zs : List Int) : Prop := RdBC w w.heap.size v zs
theorem RdC.mk {w : World} {A : Option Addr} {c : Nat} {zs : List Int} (h : IntsK .u8 w w.heap.size A zs) (hc : zs.length ≤ c) : RdC w (.slice A zs.length c) zs := ⟨A, c, rfl, h, hc⟩
theorem RdBC.below {w w' : World} {B : Nat} {v : Value} {zs : List Int} (h : RdBC w B v zs) (hb : Below B w w') : RdBC w' B v zs := by
  obtain ⟨A, c, rfl, hi, hc⟩ := h; exact ⟨A, c, rfl, hi.below hb, hc⟩
theorem RdBC.rd {w : World} {B : Nat} {v : Value} {zs : List Int} (h : RdBC w B v zs) (hB : B ≤ w.heap.size) : RdC w v zs := by
  obtain ⟨A, c, rfl, hi, hc⟩ := h; exact ⟨A, c, rfl, hi.mono hB, hc⟩
theorem RdBC.len_le {w : World} {B : Nat} {v : Value} {zs : List Int} (h : RdBC w B v zs) : zs.length ≤ 9223372036854775807 := by
  obtain ⟨A, c, rfl, hi, hc⟩ := h; exact hi.len

def Opened (w : World) (e : Ending) (w' : World) : Prop := ∃ g bs, e = .returned (.pointer (some ⟨g, 0, none⟩)) ∧ Rdr w' g bs 0 ∧ w.heap.size ≤ g ∧ Below w.heap.size w w'
theorem l20Open_any (v : Value) (zs : List Int) (w : World) (h : RdC w v zs) :
    Calls Try.prog 25 #[v] w (Opened w) := by
  obtain ⟨A, c, rfl, hi, hc⟩ := h
  have hm := hi.len
  have hi2 : ∀ n, n ≤ zs.length → IntsK .u8 w w.heap.size A (zs.take n) := fun n hn => ⟨by simp; omega, fun z hz => hi.wf z (List.mem_of_mem_take hz), fun h0 => by
    obtain ⟨b, off, rfl, hb, hcc⟩ := hi.at_ (by simp at h0; omega)
    refine ⟨b, off, rfl, hb, fun j hj => ?_⟩
    rw [hcc j (by simp at hj; omega)]
    simp only [List.getD, List.getElem?_take]
    rw [if_pos (by simp at hj; omega)]⟩
  have HI := Lib.hid hi; clear hi
  have HI2 := Lib.hid hi2; clear hi2
  have key : ∀ (bs : List Int) (n : Nat), n = bs.length → IntsK .u8 w w.heap.size A bs → Rdr (w.alloc (.cells #[.slice A n c, .int .i64 0] 77)) w.heap.size bs 0 := by
    rintro bs n rfl h
    exact ⟨A, c, heap_alloc_new w _, h.alloc (Nat.le_refl _) _⟩
  have Hkey := Lib.hid key; clear key
  by_cases hl : (2000 : Int) < zs.length
  · go_enter Try.func25, Try.ntmps25
    go_wp2
    go_ret
    exact ⟨w.heap.size, zs.take 2000, rfl, Hkey.out (zs.take 2000) 2000 (by simp; omega) (HI2.out 2000 (by omega)), Nat.le_refl _, (Below.refl _ _).alloc (Nat.le_refl _) _⟩
  · go_enter Try.func25, Try.ntmps25
    go_wp2
    go_ret
    exact ⟨w.heap.size, zs, rfl, Hkey.out zs zs.length rfl HI.out, Nat.le_refl _, (Below.refl _ _).alloc (Nat.le_refl _) _⟩

theorem below_of_within {w w1 w2 : World} {g : Nat} (h : Below w.heap.size w w1) (hg : w.heap.size ≤ g) (k : Within g (g + 1) w1 w2) : Below w.heap.size w w2 := h.trans (k.below hg h.size)

/-- A drawn program. -/
def DrawnI (w : World) (e : Ending) (w' : World) : Prop := ∃ v zs, e = .returned v ∧ OwnI w' w.heap.size w'.heap.size v zs ∧ zs.length ≤ 61 ∧ Below w.heap.size w w'

/-- Two drawn programs. -/
def DrawnII (w : World) (e : Ending) (w' : World) : Prop := ∃ v zs u ys m, e = .returned (.tuple #[v, u]) ∧ OwnI w' w.heap.size m v zs ∧ zs.length ≤ 61 ∧ OwnI w' m w'.heap.size u ys ∧ ys.length ≤ 61 ∧ w.heap.size ≤ m ∧ m ≤ w'.heap.size ∧ Below w.heap.size w w'

/- The comparisons of the laws: as those of the exact laws. -/
theorem sameInts_any (A B : Option Addr) (c d : Nat) (xs ys : List Int) (w : World) (hx : Ints w A xs) (hy : Ints w B ys) :
    Calls Try.prog 47 #[.slice A xs.length c, .slice B ys.length d] w fun e w' => e = .returned (.bool (decide (xs = ys))) ∧ ∃ n, w' = w.drewN n := by
  obtain ⟨hmx, -, hrx⟩ := hx
  obtain ⟨hmy, -, hry⟩ := hy
  have Hrx := Lib.hid hrx; clear hrx
  have Hry := Lib.hid hry; clear hry
  by_cases hlen : xs.length = ys.length
  · rw [← hlen]
    have Hlen := Lib.hid hlen
    have h1 : ys.length ≤ xs.length := by omega
    have h2 : xs.length ≤ ys.length := by omega
    clear hlen
    go_enter Try.func47, Try.ntmps47
    go_wp2
    go_loopw [5] (fun i wr => ∃ k n : Nat, k ≤ xs.length ∧ i = .int .i64 k ∧ wr = w.drewN n ∧ xs.take k = ys.take k) (fun i _ => xs.length - (intOf i).toNat)
    case atStart => exact ⟨0, 0, Nat.zero_le _, rfl, rfl, rfl⟩
    case round =>
      obtain ⟨k, n, hk, rfl, rfl, ht⟩ := hrel
      have Ht := Lib.hid ht; clear ht
      by_cases hlt : k < xs.length
      · obtain ⟨b, off, rfl, hb, hc⟩ := Hrx.out (by omega)
        obtain ⟨b', off', rfl, hb', hc'⟩ := Hry.out (by omega)
        have hcell := hc k hlt
        have hcell' := hc' k (by omega)
        clear hc hc'
        have hlt' : (k : Int) < xs.length := by omega
        have hlt2 : (k : Int) < ys.length := by omega
        have hsucc := take_succ_eq hlt Hlen.out Ht.out
        have hne : xs.getD k 0 ≠ ys.getD k 0 → xs ≠ ys := ne_of_getD
        have Hs := Lib.hid hsucc; clear hsucc
        have Hn := Lib.hid hne; clear hne
        generalize xs.getD k 0 = x at *
        generalize ys.getD k 0 = y at *
        go_wp2
        go_quiet (fail)
        go_wp2
        · have hxy : (x != y) = true := by assumption
          have hf : ¬ xs = ys := Hn.out (by simpa using hxy)
          go_ret
          exact ⟨ret_bool (by simp [hf]), _, World.drewN_drewN _ _ _⟩
        · have hxy : (x != y) = false := by assumption
          have he : x = y := by simpa using hxy
          have hs := Hs.out he
          go_roundw
          case rel => exact ⟨k + 1, _, by omega, by go_num, rfl, hs⟩
          case measure => simp [intOf]; omega
      · have hfin : xs = ys := by
          have := Ht.out
          rwa [List.take_of_length_le (by omega), List.take_of_length_le (by omega)] at this
        have Hf := Lib.hid hfin; clear hfin
        go_wp2
        go_ret
        exact ⟨ret_bool (by simp [Hf.out]), n, rfl⟩
  · have hne : ¬ xs = ys := fun e => hlen (by rw [e])
    have hb : ((xs.length : Int) != (ys.length : Int)) = true := by rw [bne_iff_ne]; omega
    have Hne := Lib.hid hne; clear hne
    clear hlen
    go_enter Try.func47, Try.ntmps47
    go_wp2
    go_ret
    exact ⟨ret_bool (by simp [Hne.out]), 0, rfl⟩

theorem smI (v u : Value) (xs ys : List Int) (w : World) (hx : RdI w v xs) (hy : RdI w u ys) (b : Bool) (hb : decide (xs = ys) = b) :
    Calls Try.prog 47 #[v, u] w fun e w' => e = .returned (.bool b) ∧ Below w.heap.size w w' := by
  obtain ⟨A, c, rfl, hi, _⟩ := hx
  obtain ⟨A', c', rfl, hi', _⟩ := hy
  refine (sameInts_any A A' c c' xs ys w hi hi').mono ?_
  rintro e w' ⟨rfl, n, rfl⟩
  exact ⟨by rw [hb], below_drewN (Below.refl _ _) n⟩
theorem smIQ (v u : Value) (xs ys : List Int) (w : World) (hx : RdI w v xs) (hy : RdI w u ys) (b : Bool) (hb : decide (xs = ys) = b) :
    Calls Try.prog 47 #[v, u] w fun e w' => e = .returned (.bool b) ∧ ∃ n, w' = w.drewN n := by
  subst hb
  obtain ⟨A, c, rfl, hi, _⟩ := hx
  obtain ⟨A', c', rfl, hi', _⟩ := hy
  exact sameInts_any A A' c c' xs ys w hi hi'

theorem alive_any (w : World) : Calls Try.prog 11 #[] w fun e w' => e = .returned (.bool true) ∧ Below w.heap.size w w' := by
  have v0 : validB [] = true := rfl
  have v1 : validB [1013] = false := rfl
  have V0 := Lib.hid v0; clear v0
  have V1 := Lib.hid v1; clear v1
  have ho := lits_own w [1013] (by simp) (by intro z hz; simp only [List.mem_cons, List.not_mem_nil, or_false] at hz; apply wf_near; omega)
  have HO := Lib.hid ho; clear ho
  go_enter Try.func11, Try.ntmps11
  go_wp2_with fail
  refine (ProgValid_any none 0 [] _ (IntsK.nil _ _ _ _)).mono ?_
  rw [V0.out]
  rintro e w' ⟨rfl, rfl⟩
  go_wp2_with fail
  refine (ProgValid_I _ [1013] _ HO.out.rd (by simp) false V1.out).mono ?_
  rintro e w1 ⟨rfl, hb⟩
  have HB := Lib.hid (((Below.refl w.heap.size w).alloc (Nat.le_refl _) _).trans (hb.mono (by simp))); clear hb
  go_wp2
  go_ret
  exact ⟨rfl, HB.out⟩
end Go.Proofs.Ytceekfoacgoalaa
