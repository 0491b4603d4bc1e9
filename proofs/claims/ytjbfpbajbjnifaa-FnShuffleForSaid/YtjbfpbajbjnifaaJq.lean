/- slices.Values, slices.AppendSeq, slices.Collect at a row of integers that is read. -/
import Derived.Test.YtjbfpbajbjnifaaB7
import Derived.OwnWalkIn
import Derived.RangeFuncGives
namespace Go.Proofs.Ytjbfpbajbjnifaa
set_option maxRecDepth 100000
open Go.RowKit Go.WideShapes Go.Shelf
attribute [local go_sem] Oper.semAt_some

theorem i64s {ws : List Int} (h : ∀ z ∈ ws, InK .i64 z) : ∃ zs : List I64, ws = zs.map (·.1) := by
  induction ws with
  | nil => exact ⟨[], rfl⟩
  | cons a r ih =>
    obtain ⟨q, rfl⟩ := ih (fun z hz => h z (by simp [hz]))
    exact ⟨⟨a, h a (by simp)⟩ :: q, rfl⟩
theorem takeD_succ (zs : List I64) (k : Nat) (h : k < zs.length) : zs.take (k + 1) = zs.take k ++ [zs.getD k d64] := by
  rw [List.take_add_one]; simp [List.getD, List.getElem?_eq_getElem h]

set_option maxHeartbeats 2000000 in
/-- slices.Values' closure, for every body that keeps what it reads. -/
theorem vals1_in (F : Fence) (n : Nat) (hF : F.fn 154) (hro : F.round = none) (hn : 1 ≤ n) (l Bs : Nat) (A : Option Addr) (cap : Nat) (zs : List I64) (hlen : zs.length ≤ 1000000000) (J Jx : List I64 → World → Prop) (R : World → Prop)
    (hR : ∀ W, R W → W.cell? ⟨Bs, 0, none⟩ = some (.slice A zs.length cap) ∧ (0 < zs.length → ∃ b off, A = some ⟨b, off, none⟩ ∧ ∀ j, j < zs.length → W.cell? ⟨b, off + j, none⟩ = some (.int .i64 (zs.getD j d64).1)))
    (hY : ∀ pre x W, J pre W → pre.length < zs.length → YieldAt F (n - 1) Try.prog l #[.int .i64 x.1] W fun e W' =>
      (e = .returned (.bool true) ∧ J (pre ++ [x]) W' ∧ (R W → R W')) ∨ (e = .returned (.bool false) ∧ Jx (pre ++ [x]) W'))
    (W : World) (hW : R W) (h0 : J [] W) :
    CallsIn F n Try.prog 154 #[.func (.yield l) #[] #[], .pointer (some ⟨Bs, 0, none⟩)] W fun e W' => (∃ v, e = .returned v) ∧
      ((∃ ys, ys = zs ∧ J ys W') ∨ (∃ pre, (∃ k, k ≤ zs.length ∧ pre = zs.take k) ∧ Jx pre W')) := by
  refine callsIn_of_wp Try.func154 rfl hF ?_ hro
  simp only [Try.ntmps154, List.size_toArray, List.length_cons, List.length_nil, Nat.reduceAdd, Nat.reduceSub, Array.replicate_succ, Array.replicate_zero, List.push_toArray, List.append_toArray, List.nil_append, List.cons_append]
  have hbs := (hR W hW).1
  have HR := Lib.hid hR; clear hR
  gi_wp2
  gi_loopw [7] (fun i wr => ∃ k : Nat, k ≤ zs.length ∧ i = .int .i64 k ∧ J (zs.take k) wr ∧ R wr) (fun i _ => zs.length - (intOf i).toNat)
  case atStart => exact ⟨0, Nat.zero_le _, rfl, h0, hW⟩
  case round =>
    clear hbs h0 hW
    obtain ⟨k, hk, rfl, hJs, hRs⟩ := hrel
    by_cases hlt : k < zs.length
    · obtain ⟨hb1, hc1⟩ := HR.out wr hRs
      obtain ⟨b, off, rfl, hc3⟩ := hc1 (by omega)
      have hc2 := hc3 k hlt
      have Hbk := Lib.hid (takeD_succ zs k hlt)
      clear hc1 hc3
      have hltI : (k : Int) < zs.length := by omega
      obtain ⟨fn, tmps, assign, body, hy, hRd⟩ := hY _ (zs.getD k d64) wr hJs (by simp; omega)
      generalize zs.getD k d64 = x at *
      gi_wp2
      refine hRd.mono ?_
      rintro e W3 (⟨rfl, hJ3, hk3⟩ | ⟨rfl, hJx3⟩)
      · rw [← Hbk.out] at hJ3
        gi_wp2
        go_roundw
        case rel => exact ⟨k + 1, by omega, by go_num, hJ3, hk3 hRs⟩
        case measure => simp [intOf]; omega
      · rw [← Hbk.out] at hJx3
        gi_wp2
        refine bodyPost_ret (results_none rfl _ _ _) rfl ?_
        exact ⟨⟨_, rfl⟩, .inr ⟨_, ⟨k + 1, by omega, rfl⟩, hJx3⟩⟩
    · have hltI : ¬ (k : Int) < zs.length := by omega
      rw [List.take_of_length_le (by omega)] at hJs
      gi_wp2
      go_end0
      first | exact ⟨⟨_, rfl⟩, .inl ⟨_, rfl, hJs⟩⟩ | exact ⟨⟨_, rfl⟩, .inl hJs⟩
theorem vals_in (F : Fence) (n : Nat) (hF : F.fn 118) (hro : F.round = none) (a : Option Addr) (len cap : Nat) (w : World) :
    CallsIn F n Try.prog 118 #[.slice a len cap] w fun e w' => e = .returned (.func (.func 154) #[] #[.pointer (some ⟨w.heap.size, 0, none⟩)]) ∧ w' = w.alloc (.cells #[.slice a len cap] 23) := by
  refine callsIn_of_wp Try.func118 rfl hF ?_ hro
  simp only [Try.ntmps118, List.size_toArray, List.length_cons, List.length_nil, Nat.reduceAdd, Nat.reduceSub, Array.replicate_succ, Array.replicate_zero, List.push_toArray, List.append_toArray, List.nil_append, List.cons_append]
  gi_wp2
  go_ret
  exact ⟨rfl, rfl⟩

/-- What is read between the rounds: the box, and the row. -/
def RdV (lo Bs : Nat) (A : Option Addr) (cap : Nat) (zs : List I64) (W : World) : Prop := lo ≤ W.heap.size ∧ Bs < lo ∧ W.cell? ⟨Bs, 0, none⟩ = some (.slice A zs.length cap) ∧ (0 < zs.length → ∃ b off, A = some ⟨b, off, none⟩ ∧ b < lo ∧ ∀ j, j < zs.length → W.cell? ⟨b, off + j, none⟩ = some (.int .i64 (zs.getD j d64).1))
theorem RdV.keep {lo Bs cap : Nat} {A : Option Addr} {zs : List I64} {W W' : World} (h : RdV lo Bs A cap zs W) (k : Below lo W W') : RdV lo Bs A cap zs W' := by
  obtain ⟨h0, h1, h2, h3⟩ := h
  refine ⟨Nat.le_trans h0 k.size, h1, (k.cell (p := ⟨Bs, 0, none⟩) h1).trans h2, fun hp => ?_⟩
  obtain ⟨b, off, rfl, hb, hc⟩ := h3 hp
  exact ⟨b, off, rfl, hb, fun j hj => (k.cell (p := ⟨b, off + j, none⟩) hb).trans (hc j hj)⟩
theorem RdV.cells {lo Bs cap : Nat} {A : Option Addr} {zs : List I64} {W : World} (h : RdV lo Bs A cap zs W) : W.cell? ⟨Bs, 0, none⟩ = some (.slice A zs.length cap) ∧ (0 < zs.length → ∃ b off, A = some ⟨b, off, none⟩ ∧ ∀ j, j < zs.length → W.cell? ⟨b, off + j, none⟩ = some (.int .i64 (zs.getD j d64).1)) := by
  obtain ⟨h0, h1, h2, h3⟩ := h
  refine ⟨h2, fun hp => ?_⟩
  obtain ⟨b, off, rfl, _, hc⟩ := h3 hp
  exact ⟨b, off, rfl, hc⟩
theorem vals_stops (F : Fence) (n : Nat) (hF : F.fn 154) (hro : F.round = none) (hn : 1 ≤ n) (lo Bs : Nat) (A : Option Addr) (cap : Nat) (zs : List I64) (hlen : zs.length ≤ 1000000000) (w : World) (hlo : lo ≤ w.heap.size) (hr : RdV lo Bs A cap zs w) :
    SeqStopsK F n Try.prog 154 #[.pointer (some ⟨Bs, 0, none⟩)] (fun x : I64 => #[Value.int .i64 x.1]) (Below lo) (fun ys => ys = zs)
      (fun pre => ∃ k, k ≤ zs.length ∧ pre = zs.take k) zs.length w := fun l J Jx W hW _ _ hY h0 =>
  vals1_in F n hF hro hn l Bs A cap zs hlen J Jx (RdV lo Bs A cap zs) (fun _ h => h.cells) (fun pre x W1 hj hl => (hY pre x W1 hj hl).mono fun e W' h => by
    rcases h with ⟨h1, h2, h3⟩ | h
    · exact .inl ⟨h1, h2, fun r => r.keep h3⟩
    · exact .inr h) W (hr.keep (hW.mono hlo)) h0

/-- Between two rounds of AppendSeq: the box holds a row of the call's own. -/
def Apd (w : World) (lo : Nat) (pre : List I64) (W : World) : Prop := ∃ v, Blk W lo #[v] 23 ∧ W.ownsRow lo 3 1 v pre.length (pre.map fun x => Value.int .i64 x.1) ∧ Below lo w W
theorem Apd.turn {w W W' : World} {lo : Nat} {pre : List I64} {row : Option Nat} (h : Apd w lo pre W) (hlo : lo ≤ w.heap.size) (hg : W.grownBy W' row) (hr : ∀ r, row = some r → lo ≤ r ∧ ∃ o : Obj, W.heap[r]? = some o ∧ o.isCells = false) : Apd w lo pre W' := by
  obtain ⟨v, hb, ho, hB⟩ := h
  have hsame : ∀ k, IsC W k → W'.heap[k]? = W.heap[k]? := fun k hk => hg.block k hk.lt (fun e => by
    obtain ⟨_, o, ho, hc⟩ := hr k e.symm
    obtain ⟨cs, T, f, hk⟩ := hk
    rw [hk] at ho; cases ho
    simp [Obj.isCells] at hc)
  refine ⟨v, (hsame _ ⟨_, _, _, hb⟩).trans hb, ownsRow_keep ho fun k hk => ?_, hB.grown hg (Nat.le_trans hlo hB.size) (fun k e => (hr k e).1)⟩
  rcases ho.2 with ⟨rfl, _⟩ | ⟨g', cap, cur, rfl, _, hh, _⟩
  · simp [Value.ownBlock] at hk
  · have : g' = k := by simpa [Value.ownBlock] using hk
    subst this
    exact hsame _ ⟨_, _, _, hh⟩

set_option maxHeartbeats 4000000 in
theorem appendSeq_in (Bv : Nat) (A : Option Addr) (cap : Nat) (zs : List I64) (hlen : zs.length ≤ 100000) (w : World) (hr : RdV w.heap.size Bv A cap zs w) :
    Calls Try.prog 164 #[.slice none 0 0, .func (.func 154) #[] #[.pointer (some ⟨Bv, 0, none⟩)]] w fun e w' => ∃ v, e = .returned v ∧ w'.ownsRow w.heap.size 3 1 v zs.length (zs.map fun x => Value.int .i64 x.1) ∧ Below w.heap.size w w' := by
  obtain ⟨i0, hi0, hz0, hz1, hz2⟩ := info_parts intInfo
  refine (callsIn_wide (n := 10)).1 ?_
  have hro : Fence.wide.round = none := rfl
  refine callsIn_of_wp_marks Try.func164 rfl trivial ?_ hro
  simp only [Try.ntmps164, List.size_toArray, List.length_cons, List.length_nil, Nat.reduceAdd, Nat.reduceSub, Array.replicate_succ, Array.replicate_zero, List.push_toArray, List.append_toArray, List.nil_append, List.cons_append]
  have h0 : Apd w w.heap.size [] (w.alloc (.cells #[.slice none 0 0] 23)) := ⟨_, Blk.new w _ _, World.ownsRow_nil _ _ _ _, (Below.refl _ _).alloc (Nat.le_refl _) _⟩
  have hr2 := hr.keep ((Below.refl w.heap.size w).alloc (Nat.le_refl _) (.cells #[.slice none 0 0] 23))
  have hs2 : (w.alloc (.cells #[.slice none 0 0] 23)).heap.size = w.heap.size + 1 := by simp
  have H := Lib.hid (And.intro h0 (And.intro hr2 hs2)); clear h0 hr2 hs2 hr
  gi_wp2
  generalize hW2 : w.alloc (.cells #[.slice none 0 0] 23) = w2 at *
  have HW2 := Lib.hid hW2; clear hW2
  have hlo2 : w.heap.size ≤ w2.heap.size := by rw [H.out.2.2]; omega
  refine wpIn_rangeFunc_ownG hro (by omega) (gf := 154) (lb := #[.pointer (some ⟨Bv, 0, none⟩)]) rfl trivial (enters_of Try.func154 (by kernel_rfl) rfl)
    (vals_stops Fence.wide (10 - 1) trivial hro (by omega) w.heap.size Bv A cap zs (by omega) w2 hlo2 H.out.2.1) (fun h k => h.trans k)
    (fun W l o o' hl ho hc _ => (Below.refl w.heap.size W).grown (grownBy_putObj' W l o') (by have := (Array.getElem?_eq_some_iff.1 ho).1; omega) (fun k e => by cases e; omega)) (Below.refl _ _) (fun _ => rfl)
    (fun pre W => Apd w w.heap.size pre W)
    (fun _ _ _ => False)
    (fun s B C row hs hg hr => hs.turn (Nat.le_refl _) hg (fun r e => ⟨by have := (hr r e).1; omega, (hr r e).2⟩))
    (fun _ _ _ _ _ hs _ _ => hs)
    H.out.1
    (fun x => { tmps := #[.slice none 0 0, .func (.func 154) #[] #[.pointer (some ⟨Bv, 0, none⟩)], .pointer (some ⟨w.heap.size, 0, none⟩), undef, .slice none 0 0, .int .i64 x.1, .func (.func 154) #[] #[.pointer (some ⟨Bv, 0, none⟩)], .int .i64 x.1, undef, undef, undef, undef, undef], defers := [] }) ?assign ?body ?done ?stop
  case assign =>
    intro l x W K hK
    gi_wp2
    exact hK
  case body =>
    rintro l pre x W ⟨v, hb, ho, hB⟩ hpl
    have c1 : W.cell? ⟨w.heap.size, 0, none⟩ = some v := hb.cell 0
    have hgl := hb.lt
    have X := Lib.hid (And.intro hb (And.intro ho hB)); clear hb ho hB
    have Hn : Hid ((W.alloc (.cells #[.int .i64 x.1] 3)).cell? ⟨W.heap.size, 0, none⟩ = some (.int .i64 x.1)) := Lib.hid ((Blk.new W _ _).cell 0)
    have hlW : w.heap.size ≤ W.heap.size := Nat.le_of_lt hgl
    have Hc : Hid (∀ j u, [Value.int .i64 x.1][j]? = some u → (W.alloc (.cells #[.int .i64 x.1] 3)).cell? ((⟨W.heap.size, 0, none⟩ : Addr).add j) = some u) := Lib.hid (by
      intro j u hu
      rcases j with _ | j
      · simp at hu; subst hu; rw [add_plain]; exact Hn.out
      · simp at hu)
    gi_wp2_with (gi_at_builtin; refine wpListIn_append_own _ rfl _ _ 23 rfl w.heap.size 3 i0 (.int .i64 0) 1 8 Try.underlying23 hi0 hz0 hz1 hz2 rfl (by decide) v pre.length _ rfl (X.out.2.1.alloc _) ⟨W.heap.size, 0, none⟩ 1 1 [.int .i64 x.1] rfl rfl Hc.out (by simp [Value.oneCell']) (by unfold maxLen; omega) (by omega) (by simp; omega) ?_; intro v2 w3 hrow2 hg2 hn2
                 obtain ⟨g2, cap2, rfl⟩ := ownsRow_succ hrow2
                 have hvne := ownsRow_ne X.out.2.1 X.out.1 (by decide)
                 have hsz2 : W.heap.size + 1 ≤ w3.heap.size := by have := hg2.size; simpa using this
                 have hbk : ∀ k, k < W.heap.size → some k ≠ v.ownBlock → w3.heap[k]? = W.heap[k]? := fun k hk hne => (hg2.block k (by simp; omega) hne).trans (Below.heap_alloc _ _ _ hk)
                 have hblk2 : Blk w3 w.heap.size #[v] 23 := (hbk _ hgl (fun e => hvne e.symm)).trans X.out.1
                 have c2 : w3.cell? ⟨w.heap.size, 0, none⟩ = some v := hblk2.cell 0
                 have f2 := hblk2.free 0)
    have hk3 : ∀ k, k < W.heap.size → k ≠ w.heap.size → some k ≠ v.ownBlock → (w3.setCell ⟨w.heap.size, 0, none⟩ (.slice (some ⟨g2, 0, none⟩) (pre.length + 1) cap2)).heap[k]? = W.heap[k]? := fun k hk hne hne2 => (Below.heap_setCell _ _ _ _ (by simpa using hne)).trans (hbk k hk hne2)
    have hs3 : (w3.setCell ⟨w.heap.size, 0, none⟩ (.slice (some ⟨g2, 0, none⟩) (pre.length + 1) cap2)).heap.size = w3.heap.size := by simp [World.setCell]
    have hB : Below w.heap.size W (w3.setCell ⟨w.heap.size, 0, none⟩ (.slice (some ⟨g2, 0, none⟩) (pre.length + 1) cap2)) := (((Below.refl w.heap.size W).alloc hlW _).grown hg2 (by simp; omega) (fun k hk => (X.out.2.1.lt k hk).1)).setCell (Nat.le_refl _) _
    have hnb : Blk (w3.setCell ⟨w.heap.size, 0, none⟩ (.slice (some ⟨g2, 0, none⟩) (pre.length + 1) cap2)) w.heap.size #[.slice (some ⟨g2, 0, none⟩) (pre.length + 1) cap2] 23 := hblk2.set 0 _
    refine ⟨(others_gen (by rw [hs3]; omega) X.out.1 X.out.2.1 hk3).from _, hB, _, hnb, ?_, X.out.2.2.trans hB⟩
    rw [List.length_append, List.map_append]
    refine ownsRow_keep (by simpa using hrow2) fun k hk => Below.heap_setCell _ _ _ _ ?_
    have h2 := ownsRow_ne hrow2 hblk2 (by decide)
    simp only
    exact fun e => h2 (by rw [hk, e])
  case done =>
    rintro D ys W hD rfl hI hK
    have h1 := hI.turn (Nat.le_refl _) (grownBy_putObj' W D (.deferred none)) (fun r e => by cases e; exact ⟨by omega, _, hK, rfl⟩)
    obtain ⟨v, hb, ho, hB⟩ := hI
    have c1 : W.cell? ⟨w.heap.size, 0, none⟩ = some v := hb.cell 0
    obtain ⟨v', hb', ho', hB'⟩ := h1
    have e : v' = v := by
      have hne : D ≠ w.heap.size := by
        rintro rfl
        unfold Blk at hb
        rw [hb] at hK; cases hK
      have h3 : (W.putObj D (.deferred none)).heap[w.heap.size]? = W.heap[w.heap.size]? := World.putObj_heap_other (Ne.symm hne)
      unfold Blk at hb hb'
      rw [h3, hb] at hb'
      injection hb' with h4
      injection h4 with h5 _ _
      simpa using h5.symm
    subst e
    have X := Lib.hid (And.intro ho' hB'); clear hb hb' ho ho' hB hB'
    gi_wp2
    refine ⟨by simp, .inl ⟨_, _, rfl, run_takeDeferred hK, ?_⟩⟩
    refine ⟨_, results_tmp rfl _ _ _, v', rfl, ?_⟩
    exact X.out
  case stop =>
    rintro D c pre W _ _ h _
    exact h.elim
end Go.Proofs.Ytjbfpbajbjnifaa
