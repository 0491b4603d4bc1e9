/- Several texts in one. -/
import Derived.Test.YtenaeiedoiepdaaRn
import Derived.RangeFuncNested
import Derived.RangeFuncBound
import Derived.RangeFuncCalls
import Derived.RangeFuncLeaves
import Derived.RangeFuncBox
import Derived.Shelf.Abstract
import Derived.Shelf.RegionOpen
import Derived.OwnWalkIn
import Derived.TacticsInMore
import Derived.LoopNIn
import Derived.LoopIn
import Derived.Test.YtenaeiedoiepdaaB3
/- The program's runner: 'for _, w := range slices.Backward(words)': words put ahead of the rest. -/
namespace Go.Proofs.Ytenaeiedoiepdaa
set_option maxRecDepth 100000
open Go.RowKit Go.WideShapes Go.Shelf
attribute [local go_sem] Oper.semAt_some

abbrev I64 := { z : Int // InK .i64 z }
def d64 : I64 := ⟨0, wf_small 0 (by omega)⟩
/-- What has come when k rounds are over: the last element, the one before it, .. -/
def bk (zs : List I64) (k : Nat) : List (Nat × I64) := (List.range k).map fun j => (zs.length - 1 - j, zs.getD (zs.length - 1 - j) d64)
theorem bk_succ (zs : List I64) (k : Nat) : bk zs (k + 1) = bk zs k ++ [(zs.length - 1 - k, zs.getD (zs.length - 1 - k) d64)] := by simp [bk, List.range_succ]
theorem bk_length (zs : List I64) (k : Nat) : (bk zs k).length = k := by simp [bk]
/-- The words that have come, in the order in which they are done. -/
def came (pre : List (Nat × I64)) : List Int := (pre.map (·.2.1)).reverse
theorem came_snoc (pre : List (Nat × I64)) (x : Nat × I64) : came (pre ++ [x]) = x.2.1 :: came pre := by simp [came]
theorem came_bk (zs : List I64) (k : Nat) (hk : k ≤ zs.length) : came (bk zs k) = (zs.drop (zs.length - k)).map (·.1) := by
  induction k with
  | zero => simp [came, bk]
  | succ k ih =>
    rw [bk_succ, came_snoc, ih (by omega)]
    have h1 : zs.length - (k + 1) < zs.length := by omega
    rw [List.drop_eq_getElem_cons h1, show zs.length - (k + 1) + 1 = zs.length - k from by omega, List.map_cons]
    congr 1
    simp only [List.getD, show zs.length - 1 - k = zs.length - (k + 1) from by omega, List.getElem?_eq_getElem h1, Option.getD_some]
theorem came_all (zs : List I64) : came (bk zs zs.length) = zs.map (·.1) := by rw [came_bk zs _ (Nat.le_refl _)]; simp

set_option maxHeartbeats 2000000 in
/-- slices.Backward's closure, for every body that keeps what it reads. -/
theorem back1_in (F : Fence) (n : Nat) (hF : F.fn 74) (hro : F.round = none) (hn : 1 ≤ n) (l Bs : Nat) (A : Option Addr) (cap : Nat) (zs : List I64) (hlen : zs.length ≤ 1000000000) (J Jx : List (Nat × I64) → World → Prop) (R : World → Prop)
    (hR : ∀ W, R W → W.cell? ⟨Bs, 0, none⟩ = some (.slice A zs.length cap) ∧ (0 < zs.length → ∃ b off, A = some ⟨b, off, none⟩ ∧ ∀ j, j < zs.length → W.cell? ⟨b, off + j, none⟩ = some (.int .i64 (zs.getD j d64).1)))
    (hY : ∀ pre x W, J pre W → pre.length < zs.length → YieldAt F (n - 1) Try.prog l #[.int .i64 ((x.1 : Nat) : Int), .int .i64 x.2.1] W fun e W' =>
      (e = .returned (.bool true) ∧ J (pre ++ [x]) W' ∧ (R W → R W')) ∨ (e = .returned (.bool false) ∧ Jx (pre ++ [x]) W'))
    (W : World) (hW : R W) (h0 : J [] W) :
    CallsIn F n Try.prog 74 #[.func (.yield l) #[] #[], .pointer (some ⟨Bs, 0, none⟩)] W fun e W' => (∃ v, e = .returned v) ∧
      ((∃ ys, ys = bk zs zs.length ∧ J ys W') ∨ (∃ pre, (∃ k, k ≤ zs.length ∧ pre = bk zs k) ∧ Jx pre W')) := by
  refine callsIn_of_wp Try.func74 rfl hF ?_ hro
  simp only [Try.ntmps74, List.size_toArray, List.length_cons, List.length_nil, Nat.reduceAdd, Nat.reduceSub, Array.replicate_succ, Array.replicate_zero, List.push_toArray, List.append_toArray, List.nil_append, List.cons_append]
  have hbs := (hR W hW).1
  have HR := Lib.hid hR; clear hR
  by_cases hz : zs.length = 0
  · rw [hz] at hbs
    have hzz : bk zs zs.length = [] := by rw [hz]; rfl
    have Hzz := Lib.hid hzz; clear hzz
    clear hlen
    gi_wp2
    gi_loopw [3] (fun i wr => i = .int .i64 (-1) ∧ J [] wr) (fun _ _ => 0)
    case atStart => exact ⟨rfl, h0⟩
    case round =>
      obtain ⟨rfl, hJs⟩ := hrel
      gi_wp2
      go_end0
      exact ⟨⟨_, rfl⟩, .inl ⟨_, Hzz.out.symm, hJs⟩⟩
  · obtain ⟨m0, hm0⟩ : ∃ m0, zs.length = m0 + 1 := ⟨zs.length - 1, by omega⟩
    rw [hm0] at hbs
    have hm1 : m0 + 1 ≤ zs.length := by omega
    have hm2 : zs.length ≤ m0 + 1 := by omega
    have hm9 : m0 + 1 ≤ 1000000000 := by omega
    clear hz hlen
    have Hm0 := Lib.hid hm0; clear hm0
    gi_wp2
    gi_loopw [3] (fun i wr => ∃ k : Nat, k ≤ zs.length ∧ J (bk zs k) wr ∧ R wr ∧ ((∃ m : Nat, i = .int .i64 m ∧ m + 1 + k ≤ zs.length ∧ zs.length ≤ m + 1 + k) ∨ (i = .int .i64 (-1) ∧ zs.length ≤ k)))
      (fun i _ => (intOf i + 1).toNat)
    case atStart => exact ⟨0, Nat.zero_le _, h0, hW, .inl ⟨m0, by first | rfl | go_num, by omega, by omega⟩⟩
    case round =>
      clear hbs h0 hW
      obtain ⟨k, hk, hJs, hRs, ⟨m, rfl, hm3, hm4⟩ | ⟨rfl, hm3⟩⟩ := hrel
      · obtain ⟨hb1, hc1⟩ := HR.out wr hRs
        obtain ⟨b, off, hA, hc1⟩ := hc1 (by omega)
        rw [Hm0.out, hA] at hb1
        clear hA
        have hc2 := hc1 m (by omega)
        have Hbk := Lib.hid (bk_succ zs k)
        have hidx : zs.length - 1 - k = m := by omega
        rw [hidx] at Hbk
        clear hidx hc1
        have hlm : m < m0 + 1 := by omega
        obtain ⟨fn, tmps, assign, body, hy, hRd⟩ := hY _ (m, zs.getD m d64) wr hJs (by rw [bk_length]; omega)
        dsimp only at hy
        generalize zs.getD m d64 = x at *
        gi_wp2
        refine hRd.mono ?_
        rintro e W3 (⟨rfl, hJ3, hk3⟩ | ⟨rfl, hJx3⟩)
        · rw [← Hbk.out] at hJ3
          gi_wp2
          go_roundw
          case rel =>
            refine ⟨k + 1, by omega, hJ3, hk3 hRs, ?_⟩
            rcases m with _ | m
            · exact .inr ⟨by first | rfl | go_num, by omega⟩
            · exact .inl ⟨m, by first | rfl | go_num, by omega, by omega⟩
          case measure => simp [intOf] <;> omega
        · rw [← Hbk.out] at hJx3
          gi_wp2
          refine bodyPost_ret (results_none rfl _ _ _) rfl ?_
          exact ⟨⟨_, rfl⟩, .inr ⟨_, ⟨k + 1, by omega, rfl⟩, hJx3⟩⟩
      · have hke : k = zs.length := by omega
        rw [hke] at hJs
        clear hke
        gi_wp2
        go_end0
        exact ⟨⟨_, rfl⟩, .inl ⟨_, rfl, hJs⟩⟩

/-- slices.Backward: the slice is boxed; the function value captures the box. -/
theorem back_in (F : Fence) (n : Nat) (hF : F.fn 61) (hro : F.round = none) (a : Option Addr) (len cap : Nat) (w : World) :
    CallsIn F n Try.prog 61 #[.slice a len cap] w fun e w' => e = .returned (.func (.func 74) #[] #[.pointer (some ⟨w.heap.size, 0, none⟩)]) ∧ w' = w.alloc (.cells #[.slice a len cap] 23) := by
  refine callsIn_of_wp Try.func61 rfl hF ?_ hro
  simp only [Try.ntmps61, List.size_toArray, List.length_cons, List.length_nil, Nat.reduceAdd, Nat.reduceSub, Array.replicate_succ, Array.replicate_zero, List.push_toArray, List.append_toArray, List.nil_append, List.cons_append]
  gi_wp2
  go_ret
  exact ⟨rfl, rfl⟩

/-- What is read between the rounds: the box, and the words. -/
def Reads (g Bs : Nat) (A : Option Addr) (cap : Nat) (zs : List I64) (W : World) : Prop := (Apt W g Bs ∧ W.cell? ⟨Bs, 0, none⟩ = some (.slice A zs.length cap)) ∧ Val W g (.slice A zs.length cap) (zs.map (·.1))
theorem Reads.keep {lo g Bs cap : Nat} {A : Option Addr} {zs : List I64} {W W' : World} (h : Reads g Bs A cap zs W) (k : Keeps lo g W W') : Reads g Bs A cap zs W' := by
  obtain ⟨⟨h1, h2⟩, h3⟩ := h
  obtain ⟨k1, k2⟩ := k.apt Bs h1
  exact ⟨⟨k1, (World.cell?_of_block (w := W) (a := ⟨Bs, 0, none⟩) k2).trans h2⟩, k.val h3⟩

theorem apt_turn {w w' : World} {g k l : Nat} {o : Obj} (h : Apt w g k) (hg : w.grownBy w' (some l)) (hl : w.heap[l]? = some o) (ho : o.isCells = false) (hne : g ≠ l) (hlt : g < w.heap.size) : Apt w' g k ∧ w'.heap[k]? = w.heap[k]? := by
  obtain ⟨h1, h2, h3⟩ := h
  have hkl : k ≠ l := by
    rintro rfl
    obtain ⟨cs, T, f, hc⟩ := h1
    rw [hc] at hl; cases hl
    simp [Obj.isCells] at ho
  have hs := hg.block k h1.lt (by simpa using hkl)
  exact ⟨⟨h1.of_eq hs, h2, fun vr vs fl hb => h3 vr vs fl ((hg.block g hlt (by simpa using hne)).symm.trans hb)⟩, hs⟩
theorem Reads.turn {g Bs cap l : Nat} {A : Option Addr} {zs : List I64} {W W' : World} {o : Obj} (h : Reads g Bs A cap zs W) (hg : W.grownBy W' (some l)) (hl : W.heap[l]? = some o) (ho : o.isCells = false) (hne : g ≠ l) (hlt : g < W.heap.size) : Reads g Bs A cap zs W' := by
  obtain ⟨⟨h1, h2⟩, h3, h4⟩ := h
  obtain ⟨k1, k2⟩ := apt_turn h1 hg hl ho hne hlt
  refine ⟨⟨k1, (World.cell?_of_block (w := W) (a := ⟨Bs, 0, none⟩) k2).trans h2⟩, ?_⟩
  rcases h4 with h0 | ⟨k, hk, ha⟩
  · exact ⟨h3.kept hg.size (.inl h0), .inl h0⟩
  · obtain ⟨q1, q2⟩ := apt_turn ha hg hl ho hne hlt
    exact ⟨h3.kept hg.size (.inr ⟨k, hk, q2⟩), .inr ⟨k, hk, q1⟩⟩
theorem Reads.cells {g Bs cap : Nat} {A : Option Addr} {zs : List I64} {W : World} (h : Reads g Bs A cap zs W) : W.cell? ⟨Bs, 0, none⟩ = some (.slice A zs.length cap) ∧ (0 < zs.length → ∃ b off, A = some ⟨b, off, none⟩ ∧ ∀ j, j < zs.length → W.cell? ⟨b, off + j, none⟩ = some (.int .i64 (zs.getD j d64).1)) := by
  obtain ⟨⟨h1, h2⟩, h3, h4⟩ := h
  refine ⟨h2, fun h0 => ?_⟩
  obtain ⟨A', c', he, hi, _⟩ := h3
  rw [List.length_map] at he
  cases he
  obtain ⟨b, off, rfl, _, hc⟩ := hi.at_ (by simpa using h0)
  refine ⟨b, off, rfl, fun j hj => ?_⟩
  rw [hc j (by simpa using hj)]
  simp [List.getD, List.getElem?_eq_getElem hj]

theorem back_stops (F : Fence) (n : Nat) (hF : F.fn 74) (hro : F.round = none) (hn : 1 ≤ n) (g Bs : Nat) (A : Option Addr) (cap : Nat) (zs : List I64) (hlen : zs.length ≤ 1000000000) (w : World) (hg : g < w.heap.size) (hr : Reads g Bs A cap zs w) :
    SeqStopsK F n Try.prog 74 #[.pointer (some ⟨Bs, 0, none⟩)] (fun x : Nat × I64 => #[Value.int .i64 ((x.1 : Nat) : Int), Value.int .i64 x.2.1]) (fun W W' => Reads g Bs A cap zs W → Reads g Bs A cap zs W') (fun ys => ys = bk zs zs.length)
      (fun pre => ∃ k, k ≤ zs.length ∧ pre = bk zs k) zs.length w := fun l J Jx W hW _ _ hY h0 =>
  back1_in F n hF hro hn l Bs A cap zs hlen J Jx (Reads g Bs A cap zs) (fun _ h => h.cells) hY W (hr.keep (lo := 0) (keeps_step hg (Nat.zero_le _) hW)) h0

set_option maxHeartbeats 2000000 in
theorem ahead_any (lo g : Nat) (rest : List Int) (st : List (List Int)) (u : Value) (ws : List Int) (w : World) (h : Run w lo g rest st) (hv : Val w g u ws) (hl : rest.length + ws.length ≤ 800000000) :
    Calls Try.prog 28 #[.pointer (some ⟨g, 0, none⟩), u] w fun e w' => e = .returned (.tuple #[]) ∧ Run w' lo g (ws ++ rest) st ∧ Keeps lo g w w' := by
  have hlt := h.lt
  have hlo := h.lo
  obtain ⟨A, cap, rfl, hi, hcap⟩ := hv.1
  obtain ⟨zs, rfl⟩ : ∃ zs : List I64, ws = zs.map (·.1) := by
    have : ∀ l : List Int, (∀ z ∈ l, InK .i64 z) → ∃ zs : List I64, l = zs.map (·.1) := by
      intro l
      induction l with
      | nil => intro _; exact ⟨[], rfl⟩
      | cons a r ih =>
        intro hw
        obtain ⟨q, rfl⟩ := ih (fun z hz => hw z (by simp [hz]))
        exact ⟨⟨a, hw a (by simp)⟩ :: q, rfl⟩
    exact this ws hi.wf
  rw [List.length_map] at hl hcap hv ⊢
  have hb2 : Below w.heap.size w ((w.alloc (.cells #[.pointer (some ⟨g, 0, none⟩)] 38)).alloc (.cells #[.slice A zs.length cap] 23)) := ((Below.refl _ _).alloc (Nat.le_refl _) _).alloc (by simp) _
  obtain ⟨h2, k2⟩ := h.step hb2
  have hc0 : ((w.alloc (.cells #[.pointer (some ⟨g, 0, none⟩)] 38)).alloc (.cells #[.slice A zs.length cap] 23)).cell? ⟨w.heap.size, 0, none⟩ = some (.pointer (some ⟨g, 0, none⟩)) :=
    ((Blk.new w #[.pointer (some ⟨g, 0, none⟩)] 38).below ((Below.refl (w.heap.size + 1) _).alloc (by simp) _) (by omega)).cell 0
  have hc1 : ((w.alloc (.cells #[.pointer (some ⟨g, 0, none⟩)] 38)).alloc (.cells #[.slice A zs.length cap] 23)).cell? ⟨w.heap.size + 1, 0, none⟩ = some (.slice A zs.length cap) := cell_new2 _ _ _ _ 0 _ rfl
  have a0 := h.apt_new hb2 (k := w.heap.size) (Nat.le_refl _) (isC_of_cell hc0)
  have a1 := h.apt_new hb2 (k := w.heap.size + 1) (by omega) (isC_of_cell hc1)
  have hrd : Reads g (w.heap.size + 1) A cap zs ((w.alloc (.cells #[.pointer (some ⟨g, 0, none⟩)] 38)).alloc (.cells #[.slice A zs.length cap] 23)) := ⟨⟨a1, hc1⟩, k2.val hv⟩
  have hs2 : ((w.alloc (.cells #[.pointer (some ⟨g, 0, none⟩)] 38)).alloc (.cells #[.slice A zs.length cap] 23)).heap.size = w.heap.size + 2 := by simp
  have H := Lib.hid (And.intro h2 (And.intro k2 (And.intro hrd (And.intro hc0 (And.intro a0 hs2))))); clear h hv hi h2 k2 hrd hc0 hc1 a0 a1 hb2 hs2
  refine (callsIn_wide (n := 10)).1 ?_
  have hro : Fence.wide.round = none := rfl
  refine callsIn_of_wp_marks Try.func28 rfl trivial ?_ hro
  simp only [Try.ntmps28, List.size_toArray, List.length_cons, List.length_nil, Nat.reduceAdd, Nat.reduceSub, Array.replicate_succ, Array.replicate_zero, List.push_toArray, List.append_toArray, List.nil_append, List.cons_append]
  gi_wp2_with (refine ⟨trivial, ?_⟩; gi_at_call 61; refine (back_in _ _ trivial hro _ _ _ _).mono ?_; rintro e w' ⟨rfl, rfl⟩)
  generalize hW2 : (w.alloc (.cells #[.pointer (some ⟨g, 0, none⟩)] 38)).alloc (.cells #[.slice A zs.length cap] 23) = w2 at *
  have HW2 := Lib.hid hW2; clear hW2
  have hg2 : g < w2.heap.size := by rw [H.out.2.2.2.2.2]; omega
  refine wpIn_rangeFunc_ownG hro (by omega) (gf := 74) (lb := #[.pointer (some ⟨w.heap.size + 1, 0, none⟩)]) rfl trivial (enters_of Try.func74 (by kernel_rfl) rfl)
    (back_stops Fence.wide (10 - 1) trivial hro (by omega) g (w.heap.size + 1) A cap zs (by omega) w2 hg2 H.out.2.2.1) (fun h k r => k (h r)) (fun W l o o' hl ho hc _ hr => hr.turn (grownBy_putObj' W l o') ho hc (by omega) (by have := (Array.getElem?_eq_some_iff.1 ho).1; omega)) (Below.refl _ _) (fun _ => rfl)
    (fun pre W => Run W lo g (came pre ++ rest) st ∧ Keeps lo g w2 W)
    (fun _ _ _ => False)
    (fun s B C row hs hg hr => by
      obtain ⟨q1, q2⟩ := hs.1.turn hg (fun r e => ⟨by have := (hr r e).1; rw [H.out.2.2.2.2.2] at this; omega, (hr r e).2⟩)
      exact ⟨q1, hs.2.trans q2⟩)
    (fun _ _ _ _ _ hs _ _ => hs)
    ⟨by simpa [came] using H.out.1, Keeps.refl _ _ _⟩
    (fun x => { tmps := #[.pointer (some ⟨g, 0, none⟩), .slice A zs.length cap, .pointer (some ⟨w.heap.size, 0, none⟩), undef, undef, .int .i64 x.2.1, .slice A zs.length cap, .func (.func 74) #[] #[.pointer (some ⟨w.heap.size + 1, 0, none⟩)], .int .i64 ((x.1 : Nat) : Int), .int .i64 x.2.1, undef, undef, undef, undef, undef], defers := [] }) ?assign ?body ?done ?stop
  case assign =>
    intro l x W K hK
    gi_wp2
    exact hK
  case body =>
    rintro l pre x W ⟨h1, h2⟩ hpl
    have hc0 : W.cell? ⟨w.heap.size, 0, none⟩ = some (.pointer (some ⟨g, 0, none⟩)) := (World.cell?_of_block (w := w2) (a := ⟨w.heap.size, 0, none⟩) (h2.apt _ H.out.2.2.2.2.1).2).trans H.out.2.2.2.1
    have hcl : (came pre ++ rest).length ≤ 900000000 := by simp [came]; omega
    have X := Lib.hid (And.intro h1 h2); clear h1 h2
    gi_wp2_with (refine ⟨trivial, ?_⟩; gi_at_call 62; refine (CallsIn.inRound l (callsIn_wide.2 (pushN lo g (came pre ++ rest) st x.2.1 W X.out.1 x.2.2 hcl))).mono ?_; rintro e W' ⟨rfl, q1, q2, q3⟩)
    exact ⟨q3.from _, fun r => r.keep q2, by rw [came_snoc]; exact q1, X.out.2.trans q2⟩
  case done =>
    rintro D ys W hD rfl ⟨h1, h2⟩ hK
    obtain ⟨q1, q2⟩ := h1.turn (grownBy_putObj' W D (.deferred none)) (fun r e => by cases e; exact ⟨by rw [H.out.2.2.2.2.2] at hD; omega, _, hK, rfl⟩)
    rw [came_all] at q1
    gi_wp2
    refine ⟨by simp, .inl ⟨_, _, rfl, run_takeDeferred hK, ?_⟩⟩
    exact ⟨_, results_none rfl _ _ _, rfl, q1, H.out.2.1.trans (h2.trans q2)⟩
  case stop =>
    rintro D c pre W _ _ h _
    exact h.elim
end Go.Proofs.Ytenaeiedoiepdaa

/- The program's runner: contracts of put, takeNum, takeProg, dup, swap, reckon, call, choose, dip. -/
namespace Go.Proofs.Ytenaeiedoiepdaa
set_option maxRecDepth 100000
open Go.RowKit Go.WideShapes

/-- What a step comes to: whether it can be done; and then what is left; if it can't, whether this is because of too many values (F). -/
def Did (lo g : Nat) (w : World) (o : Option (List Int × List (List Int))) (F : Bool) (e : Ending) (w' : World) : Prop :=
  ∃ b, e = .returned (.bool b) ∧ Keeps lo g w w' ∧ (o = none → b = false ∧ w'.cell? ⟨g, 2, none⟩ = some (.bool F)) ∧ (∀ x, o = some x → b = true ∧ Run w' lo g x.1 x.2)
theorem Did.no {lo g : Nat} {w w' : World} {r : List Int} {s : List (List Int)} (h : Keeps lo g w w') (hr : Run w' lo g r s) : Did lo g w none false (.returned (.bool false)) w' := ⟨_, rfl, h, fun _ => ⟨rfl, hr.flag.1⟩, fun x hx => by cases hx⟩
theorem Did.full {lo g : Nat} {w : World} {r : List Int} {s : List (List Int)} (hr : Run w lo g r s) : Did lo g w none true (.returned (.bool false)) (w.setCell ⟨g, 2, none⟩ (.bool true)) := ⟨_, rfl, hr.mark.1, fun _ => ⟨rfl, hr.mark.2⟩, fun x hx => by cases hx⟩
theorem Did.yes {lo g : Nat} {w w' : World} {F : Bool} {x : List Int × List (List Int)} (h : Keeps lo g w w') (hr : Run w' lo g x.1 x.2) : Did lo g w (some x) F (.returned (.bool true)) w' := ⟨_, rfl, h, (fun h => by cases h), fun y hy => by cases hy; exact ⟨rfl, hr⟩⟩
theorem Did.after {lo g : Nat} {a w w' : World} {o : Option (List Int × List (List Int))} {F : Bool} {e : Ending} (h : Keeps lo g a w) (d : Did lo g w o F e w') : Did lo g a o F e w' := by
  obtain ⟨b, he, hk, h1, h2⟩ := d
  exact ⟨b, he, h.trans hk, h1, h2⟩
theorem Did.as {lo g : Nat} {w w' : World} {o : Option (List Int × List (List Int))} {F F' : Bool} {e : Ending} (d : Did lo g w o F e w') (h : o = none → F = F') : Did lo g w o F' e w' := by
  obtain ⟨b, he, hk, h1, h2⟩ := d
  exact ⟨b, he, hk, fun h0 => by rw [← h h0]; exact h1 h0, h2⟩

theorem ownsRow_form {w : World} {lo n : Nat} {e : TypeId} {v : Value} {xs : List Value} (h : w.ownsRow lo e 1 v n xs) : ∃ A c, v = .slice A n c := by
  rcases h.2 with ⟨rfl, h0⟩ | ⟨g', cap, cur, rfl, _⟩
  · exact ⟨none, 0, by rw [h0]⟩
  · exact ⟨_, _, rfl⟩
theorem Run.cells {w : World} {lo g : Nat} {rest : List Int} {st : List (List Int)} (h : Run w lo g rest st) : ∃ A c A' c', w.cell? ⟨g, 0, none⟩ = some (.slice A rest.length c) ∧ w.cell? ⟨g, 1, none⟩ = some (.slice A' st.length c') := by
  obtain ⟨vr, vs, us, h⟩ := h
  obtain ⟨A, c, rfl⟩ := ownsRow_form h.words
  obtain ⟨A', c', rfl⟩ := ownsRow_form h.vals
  exact ⟨A, c, A', c', by simpa using h.blk.cell 0, by simpa using h.blk.cell 1⟩

def putR (zs rest : List Int) (st : List (List Int)) : Option (List Int × List (List Int)) := if zs.length ≤ 60 ∧ st.length < 20 then some (rest, zs :: st) else none
theorem put_any (lo g : Nat) (rest : List Int) (st : List (List Int)) (u : Value) (zs : List Int) (w : World) (h : Run w lo g rest st) (hv : Val w g u zs) (hl : st.length ≤ 20) :
    Calls Try.prog 32 #[.pointer (some ⟨g, 0, none⟩), u] w (Did lo g w (putR zs rest st) true) := by
  have hlt := h.lt
  have H := Lib.hid (And.intro h hv)
  obtain ⟨_, _, A', c', _, hc⟩ := h.cells
  obtain ⟨cf, ff⟩ := h.flag
  have hm := hv.1.len_le
  obtain ⟨A, c, rfl, _⟩ := hv.1
  clear h hv
  by_cases h60 : zs.length ≤ 60
  · by_cases h20 : st.length < 20
    · have hb : ((st.length : Int) == 20) = false := by simp; omega
      have hR : putR zs rest st = some (rest, zs :: st) := by rw [putR, if_pos ⟨h60, h20⟩]
      rw [hR]
      go_enter Try.func32, Try.ntmps32
      go_wp2_with fail
      refine (pushV lo g rest st _ zs _ H.out.1 H.out.2 (by omega)).mono ?_
      rintro e w' ⟨rfl, q1, q2, _⟩
      have X := Lib.hid (And.intro q1 q2); clear q1 q2
      go_wp2
      go_ret
      exact Did.yes X.out.2 X.out.1
    · have hb : ((st.length : Int) == 20) = true := by simp; omega
      have hR : putR zs rest st = none := by rw [putR, if_neg (fun h => h20 h.2)]
      rw [hR]
      go_enter Try.func32, Try.ntmps32
      go_wp2
      go_ret
      exact Did.full H.out.1
  · have hR : putR zs rest st = none := by rw [putR, if_neg (fun h => h60 h.1)]
    rw [hR]
    go_enter Try.func32, Try.ntmps32
    go_wp2
    go_ret
    exact Did.full H.out.1

def numR : List (List Int) → Int × Bool
  | [] => (0, false)
  | a :: _ => if 1 < a.length then (0, false) else (a.getD 0 0, true)
theorem takeNum_any (lo g : Nat) (rest : List Int) (st : List (List Int)) (w : World) (h : Run w lo g rest st) (hl : st.length ≤ 20) (hv : ∀ v ∈ st, valueB v = true) :
    Calls Try.prog 65 #[.pointer (some ⟨g, 0, none⟩)] w fun e w' => e = .returned (.tuple #[.int .i64 (numR st).1, .bool (numR st).2]) ∧ Run w' lo g rest st.tail ∧ Keeps lo g w w' := by
  have hlt := h.lt
  rcases st with _ | ⟨a, s1⟩
  · have H := Lib.hid h; clear h
    go_enter Try.func65, Try.ntmps65
    go_wp2_with fail
    refine (popV_none lo g rest _ H.out).mono ?_
    rintro e w' ⟨rfl, rfl⟩
    go_wp2
    go_ret2
    exact ⟨rfl, H.out, Keeps.refl _ _ _⟩
  · have va := hv a (by simp)
    have hq := valueB_isQ va
    have hla := valueB_len va
    have H := Lib.hid h; clear h hv
    have Hva := Lib.hid va; clear va
    rw [List.length_cons] at hl
    by_cases h1 : 1 < a.length
    · rw [decide_eq_true h1] at hq
      have Hq := Lib.hid hq; clear hq
      have HR : Hid (numR (a :: s1) = (0, false)) := Lib.hid (by rw [numR, if_pos h1])
      rw [HR.out]
      go_enter Try.func65, Try.ntmps65
      go_wp2_with fail
      refine (popV lo g rest a s1 _ H.out (by omega)).mono ?_
      rintro e w1 ⟨u, rfl, q1, q2, q3⟩
      have X := Lib.hid (And.intro q1 (And.intro q2 q3)); clear q1 q2 q3
      go_wp2_with (go_at_call 75; refine (isQuoted_any _ a _ X.out.1.1).mono ?_; rw [Hq.out]; rintro e w' ⟨rfl, rfl⟩)
      go_ret2
      exact ⟨rfl, X.out.2⟩
    · rw [decide_eq_false h1] at hq
      have Hq := Lib.hid hq; clear hq
      obtain ⟨z, hz⟩ : ∃ z, a.getD 0 0 = z := ⟨_, rfl⟩
      have Hz := Lib.hid hz
      have HR : Hid (numR (a :: s1) = (z, true)) := Lib.hid (by rw [numR, if_neg h1, hz])
      clear hz
      rw [HR.out]
      go_enter Try.func65, Try.ntmps65
      go_wp2_with fail
      refine (popV lo g rest a s1 _ H.out (by omega)).mono ?_
      rintro e w1 ⟨u, rfl, q1, q2, q3⟩
      have hrd := q1.1
      obtain ⟨A, c, rfl, hi, _⟩ := hrd
      obtain ⟨b, off, rfl, _, hc⟩ := hi.at_ (by omega)
      have hc0 := hc 0 (by omega)
      rw [Nat.add_zero, Hz.out] at hc0
      have X := Lib.hid (And.intro q1 (And.intro q2 q3)); clear q1 q2 q3 hc hi
      have h0 : 0 < a.length := by omega
      go_wp2_with (go_at_call 75; refine (isQuoted_any _ a _ X.out.1.1).mono ?_; rw [Hq.out]; rintro e w' ⟨rfl, rfl⟩)
      go_ret2
      exact ⟨rfl, X.out.2⟩

def TakeP (lo g : Nat) (rest : List Int) (st : List (List Int)) (w : World) (e : Ending) (w' : World) : Prop :=
  ∃ u b, e = .returned (.tuple #[u, .bool b]) ∧ Run w' lo g rest st.tail ∧ Keeps lo g w w' ∧ (st = [] → b = false) ∧ ∀ a s1, st = a :: s1 → b = decide (1 < a.length) ∧ Val w' g u a
theorem takeProg_any (lo g : Nat) (rest : List Int) (st : List (List Int)) (w : World) (h : Run w lo g rest st) (hl : st.length ≤ 20) (hv : ∀ v ∈ st, valueB v = true) :
    Calls Try.prog 63 #[.pointer (some ⟨g, 0, none⟩)] w (TakeP lo g rest st w) := by
  have hlt := h.lt
  rcases st with _ | ⟨a, s1⟩
  · have H := Lib.hid h; clear h
    go_enter Try.func63, Try.ntmps63
    go_wp2_with fail
    refine (popV_none lo g rest _ H.out).mono ?_
    rintro e w' ⟨rfl, rfl⟩
    go_wp2
    go_ret2
    exact ⟨_, _, rfl, H.out, Keeps.refl _ _ _, (fun _ => rfl), (fun a s1 h => by cases h)⟩
  · have va := hv a (by simp)
    have hq := valueB_isQ va
    have H := Lib.hid h; clear h hv
    have Hva := Lib.hid va; clear va
    rw [List.length_cons] at hl
    have Hq := Lib.hid hq; clear hq
    go_enter Try.func63, Try.ntmps63
    go_wp2_with fail
    refine (popV lo g rest a s1 _ H.out (by omega)).mono ?_
    rintro e w1 ⟨u, rfl, q1, q2, q3⟩
    have X := Lib.hid (And.intro q1 (And.intro q2 q3)); clear q1 q2 q3
    go_wp2_with (go_at_call 75; refine (isQuoted_any _ a _ X.out.1.1).mono ?_; rw [Hq.out]; rintro e w' ⟨rfl, rfl⟩)
    go_ret2
    exact ⟨_, _, rfl, X.out.2.1, X.out.2.2, (fun h => by cases h), fun a' s1' h => by cases h; exact ⟨rfl, X.out.1⟩⟩

def dupR (rest : List Int) : List (List Int) → Option (List Int × List (List Int))
  | [] => none
  | a :: s1 => if s1.length + 2 ≤ 20 then some (rest, a :: a :: s1) else none
theorem dup_any (lo g : Nat) (rest : List Int) (st : List (List Int)) (w : World) (h : Run w lo g rest st) (hl : st.length ≤ 20) (hv : ∀ v ∈ st, valueB v = true) :
    Calls Try.prog 34 #[.pointer (some ⟨g, 0, none⟩)] w (Did lo g w (dupR rest st) (!st.isEmpty)) := by
  have hlt := h.lt
  rcases st with _ | ⟨a, s1⟩
  · have H := Lib.hid h; clear h
    go_enter Try.func34, Try.ntmps34
    go_wp2_with fail
    refine (popV_none lo g rest _ H.out).mono ?_
    rintro e w' ⟨rfl, rfl⟩
    go_wp2
    go_ret
    exact Did.no (Keeps.refl _ _ _) H.out
  · have hla := (valueB_len (hv a (by simp))).2
    have H := Lib.hid h; clear h hv
    rw [List.length_cons] at hl
    have HP : Hid (putR a rest s1 = some (rest, a :: s1)) := Lib.hid (by rw [putR, if_pos ⟨hla, by omega⟩])
    have HQ : Hid (putR a rest (a :: s1) = dupR rest (a :: s1)) := Lib.hid (by
      rw [putR, dupR]
      by_cases h2 : s1.length + 2 ≤ 20
      · rw [if_pos h2, if_pos ⟨hla, by rw [List.length_cons]; omega⟩]
      · rw [if_neg h2, if_neg (fun h => h2 (by have := h.2; rw [List.length_cons] at this; omega))])
    go_enter Try.func34, Try.ntmps34
    go_wp2_with fail
    refine (popV lo g rest a s1 _ H.out (by omega)).mono ?_
    rintro e w1 ⟨u, rfl, q1, q2, q3⟩
    have X := Lib.hid (And.intro q1 (And.intro q2 q3)); clear q1 q2 q3
    go_wp2_with fail
    refine (put_any lo g rest s1 u a _ X.out.2.1 X.out.1 (by omega)).mono ?_
    rw [HP.out]
    rintro e w2 ⟨b, rfl, k2, _, hy⟩
    obtain ⟨rfl, r2⟩ := hy _ rfl
    have Y := Lib.hid (And.intro r2 (And.intro (k2.val X.out.1) (X.out.2.2.trans k2))); clear r2 k2 hy
    go_wp2_with fail
    refine (put_any lo g rest (a :: s1) u a _ Y.out.1 Y.out.2.1 (by rw [List.length_cons]; omega)).mono ?_
    rw [HQ.out]
    rintro e w3 hd
    have Z := Lib.hid (hd.after Y.out.2.2); clear hd
    obtain ⟨b, rfl, _⟩ := Z.out
    go_wp2
    go_ret
    exact Z.out

def swapR (rest : List Int) : List (List Int) → Option (List Int × List (List Int))
  | a :: b :: s2 => some (rest, b :: a :: s2)
  | _ => none
theorem swap_any (lo g : Nat) (rest : List Int) (st : List (List Int)) (w : World) (h : Run w lo g rest st) (hl : st.length ≤ 20) (hv : ∀ v ∈ st, valueB v = true) :
    Calls Try.prog 36 #[.pointer (some ⟨g, 0, none⟩)] w (Did lo g w (swapR rest st) false) := by
  have hlt := h.lt
  rcases st with _ | ⟨a, _ | ⟨b, s2⟩⟩
  · have H := Lib.hid h; clear h
    go_enter Try.func36, Try.ntmps36
    go_wp2_with fail
    refine (popV_none lo g rest _ H.out).mono ?_
    rintro e w' ⟨rfl, rfl⟩
    go_wp2_with fail
    refine (popV_none lo g rest _ H.out).mono ?_
    rintro e w' ⟨rfl, rfl⟩
    go_wp2
    go_ret
    exact Did.no (Keeps.refl _ _ _) H.out
  · have H := Lib.hid h; clear h hv
    go_enter Try.func36, Try.ntmps36
    go_wp2_with fail
    refine (popV lo g rest a [] _ H.out (by simp)).mono ?_
    rintro e w1 ⟨u, rfl, q1, q2, q3⟩
    have X := Lib.hid (And.intro q1 (And.intro q2 q3)); clear q1 q2 q3
    have hlt1 := X.out.2.1.lt
    go_wp2_with fail
    refine (popV_none lo g rest _ X.out.2.1).mono ?_
    rintro e w' ⟨rfl, rfl⟩
    go_wp2
    go_ret
    exact Did.no X.out.2.2 X.out.2.1
  · have hla := (valueB_len (hv a (by simp))).2
    have hlb := (valueB_len (hv b (by simp))).2
    have H := Lib.hid h; clear h hv
    rw [List.length_cons, List.length_cons] at hl
    have HP : Hid (putR a rest s2 = some (rest, a :: s2)) := Lib.hid (by rw [putR, if_pos ⟨hla, by omega⟩])
    have HQ : Hid (putR b rest (a :: s2) = swapR rest (a :: b :: s2)) := Lib.hid (by rw [putR, if_pos ⟨hlb, by rw [List.length_cons]; omega⟩]; rfl)
    go_enter Try.func36, Try.ntmps36
    go_wp2_with fail
    refine (popV lo g rest a (b :: s2) _ H.out (by rw [List.length_cons]; omega)).mono ?_
    rintro e w1 ⟨u, rfl, q1, q2, q3⟩
    have X := Lib.hid (And.intro q1 (And.intro q2 q3)); clear q1 q2 q3
    have hlt1 := X.out.2.1.lt
    go_wp2_with fail
    refine (popV lo g rest b s2 _ X.out.2.1 (by omega)).mono ?_
    rintro e w2 ⟨v, rfl, q1, q2, q3⟩
    have Y := Lib.hid (And.intro (q3.val X.out.1) (And.intro q1 (And.intro q2 (X.out.2.2.trans q3)))); clear q1 q2 q3
    have hlt2 := Y.out.2.2.1.lt
    go_wp2_with fail
    refine (put_any lo g rest s2 u a _ Y.out.2.2.1 Y.out.1 (by omega)).mono ?_
    rw [HP.out]
    rintro e w3 ⟨t, rfl, k2, _, hy⟩
    obtain ⟨rfl, r2⟩ := hy _ rfl
    have Z := Lib.hid (And.intro r2 (And.intro (k2.val Y.out.2.1) (Y.out.2.2.2.trans k2))); clear r2 k2 hy
    go_wp2_with fail
    refine (put_any lo g rest (a :: s2) v b _ Z.out.1 Z.out.2.1 (by rw [List.length_cons]; omega)).mono ?_
    rw [HQ.out]
    rintro e w4 hd
    have V := Lib.hid (hd.after Z.out.2.2); clear hd
    obtain ⟨t, rfl, _⟩ := V.out
    go_wp2
    go_ret
    exact V.out.as (fun h => by cases h)
end Go.Proofs.Ytenaeiedoiepdaa
