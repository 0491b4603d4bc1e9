/- The draws of chapter 9: programs with names, dictionaries, both. Only that something comes, in memory of its own, not too long. -/
import Derived.Test.YtaehaalaeikloaaB6
import Derived.Test.YtaehaalaeikloaaYe
import Derived.Test.YtaehaalaeikloaaYg
namespace Go.Proofs.Ytaehaalaeikloaa
set_option maxRecDepth 100000
open Go.RowKit Go.WideShapes

def lim9 : Nat → Nat
  | 0 => 2540
  | 1 => 1260
  | 2 => 620
  | 3 => 300
  | 4 => 140
  | 5 => 60
  | 6 => 20
  | _ => 0
theorem lim9_step {j : Nat} (h : j ≤ 5) : lim9 (j + 1) + 20 ≤ lim9 j ∧ 2 * lim9 (j + 1) ≤ lim9 j := by
  rcases j with _ | _ | _ | _ | _ | _ | j
  all_goals first | (simp [lim9]; done) | omega
theorem lim9_le (j : Nat) : lim9 j ≤ 2540 := by unfold lim9; split <;> omega
def NmPost (w0 : World) (g p : Nat) (bs : List Int) (w : World) (e : Ending) (w' : World) : Prop :=
  ∃ v zs p', e = .returned v ∧ OwnI w' w.heap.size w'.heap.size v zs ∧ zs.length ≤ 20 ∧ RS w0 w' g bs p' ∧ p' ≤ p + 1000 ∧ Within g (g + 1) w w'
def NmLoop (w0 : World) (g p : Nat) (bs : List Int) (w : World) (v k : Value) (wr : World) : Prop :=
  ∃ (j p' : Nat) (zs : List Int) (A : Option Addr) (c : Nat), v = .slice A zs.length c ∧ k = .int .i64 j ∧ j ≤ 6 ∧ w.heap.size + 1 ≤ wr.heap.size ∧ zs.length ≤ lim9 j ∧ p' + j * 120 ≤ p + 800 ∧ OwnI wr w.heap.size wr.heap.size (.slice A zs.length c) zs ∧ RS w0 wr g bs p' ∧ Within g (g + 1) w wr
theorem NmLoop.mk {w0 w wr : World} {g p : Nat} {bs : List Int} (j p' : Nat) {v : Value} {zs : List Int} (hj : j ≤ 6) (hs : w.heap.size + 1 ≤ wr.heap.size) (hl : zs.length ≤ lim9 j) (hp : p' + j * 120 ≤ p + 800) (ho : OwnI wr w.heap.size wr.heap.size v zs) (hr : RS w0 wr g bs p') (hw : Within g (g + 1) w wr) {k : Value} (hk : k = .int .i64 j) : NmLoop w0 g p bs w v k wr := by
  obtain ⟨A, c, rfl, _⟩ := ho.rd
  exact ⟨j, p', zs, A, c, rfl, hk, hj, hs, hl, hp, ho, hr, hw⟩
set_option maxHeartbeats 2000000 in
theorem named_any (n parts : Nat) (w0 : World) (g p : Nat) (bs : List Int) (w : World) (hn : n ≤ 7) (hpa : parts ≤ 6) (h : RS w0 w g bs p) (hp : p ≤ 400000000000) :
    Calls Try.prog 139 #[.pointer (some ⟨g, 0, none⟩), .int .i64 n, .int .i64 parts] w (NmPost w0 g p bs w) := by
  have hgw := h.rdr.lt
  have hs0 : w0.heap.size ≤ w.heap.size := h.size
  have B0 : Below w.heap.size w (w.alloc (.cells #[] 3)) := (Below.refl _ _).alloc (Nat.le_refl _) _
  have L0 := (nilLit w).1
  have S0 := Lib.hid (And.intro (h.below B0 h.size) (And.intro L0 (Within.of_below (lo := g) (hi := g + 1) B0))); clear h B0 L0
  go_enter Try.func139, Try.ntmps139
  go_wp2_with fail
  refine (pick w0 g p (parts + 1) bs _ S0.out.1 (by omega) (by omega)).mono ?_
  rintro e w1 ⟨x, rfl, hx0, hx1, hr1, hg1⟩
  have hz1 : w.heap.size + 1 ≤ w1.heap.size := by have := hg1.size; simpa using this
  obtain ⟨j0, rfl⟩ := Int.eq_ofNat_of_zero_le hx0
  have hst : NmLoop w0 g p bs w (.slice (some ⟨w.heap.size, 0, none⟩) 0 0) (.int .i64 j0) w1 :=
    NmLoop.mk (zs := []) j0 (p + 1) (by omega) hz1 (by simp) (by omega) ((S0.out.2.1.apart hg1 (by omega)).widen (by have := hg1.size; omega)) hr1 (S0.out.2.2.trans hg1) rfl
  have S1 := Lib.hid hst; clear hr1 hg1 S0 hst
  go_wp2
  go_loopw [7, 8] (fun v k wr => NmLoop w0 g p bs w v k wr) (fun _ k _ => (intOf k).toNat)
  case atStart => exact S1.out
  case round =>
    clear S1 hz1 hx0 hx1
    obtain ⟨j, p', zs, A, c, rfl, rfl, hj, hsz, hlen, hpc, q1, q2, q3⟩ := hrel
    have X := Lib.hid (And.intro q1 (And.intro q2 q3)); clear q1 q2 q3
    have hle := lim9_le j
    have hm := X.out.1.own.len_le
    rcases j with _ | j
    · by_cases h20 : 20 < zs.length
      · have h20I : (20 : Int) < zs.length := by omega
        have hb4 : Below wr.heap.size wr (wr.alloc (.cells (([1001, 1008, 1001, 1008] : List Int).map (Value.int .i64)).toArray 3)) := (Below.refl _ _).alloc (Nat.le_refl _) _
        have hl4 := lits_own wr [1001, 1008, 1001, 1008] (by simp) (by intro z hz; simp only [List.mem_cons, List.not_mem_nil, or_false] at hz; apply wf_near; omega)
        have hfin : NmPost w0 g p bs w (.returned (.slice (some ⟨wr.heap.size, 0, none⟩) 4 4)) (wr.alloc (.cells (([1001, 1008, 1001, 1008] : List Int).map (Value.int .i64)).toArray 3)) :=
          ⟨_, [1001, 1008, 1001, 1008], p', rfl, ⟨hl4.own.mono (by omega), fun q hq => by have := hl4.lt q hq; simp; omega⟩, by simp, X.out.2.1.below hb4 (by omega), by omega, X.out.2.2.then_below hb4 (by omega)⟩
        simp only [List.map_cons, List.map_nil] at hfin
        have F := Lib.hid hfin; clear hfin hb4 hl4
        go_wp2
        go_ret
        exact F.out
      · have h20I : ¬ (20 : Int) < zs.length := by omega
        go_wp2
        go_ret
        exact ⟨_, zs, p', rfl, X.out.1, by omega, X.out.2.1, by omega, X.out.2.2⟩
    · rw [Nat.succ_mul] at hpc
      have hjp : (0 : Int) < ((j + 1 : Nat) : Int) := by omega
      have hls := lim9_step (j := j) (by omega)
      by_cases hn0 : 0 < n
      · have hn0I : (0 : Int) < n := by omega
        go_wp2_with fail
        refine (pick w0 g p' 3 bs _ X.out.2.1 (by omega) (by omega)).mono ?_
        rintro e w11 ⟨x11, rfl, hx0, hx1, hr, hg⟩
        have hz11 : wr.heap.size ≤ w11.heap.size := hg.size
        have X11 := Lib.hid (And.intro ((X.out.1.apart hg (by omega)).widen hz11) (And.intro hr (X.out.2.2.trans hg))); clear hr hg X
        by_cases hx3 : x11 = 0
        · subst hx3
          clear hx0 hx1
          go_wp2_with fail
          refine (pick w0 g (p' + 1) n bs _ X11.out.2.1 (by omega) (by omega)).mono ?_
          rintro e w12 ⟨x12, rfl, hx0, hx1, hr, hg⟩
          have hz12 : w11.heap.size ≤ w12.heap.size := hg.size
          have X12 := Lib.hid (And.intro ((X11.out.1.apart hg (by omega)).widen hz12) (And.intro hr (X11.out.2.2.trans hg))); clear hr hg X11
          go_wp2_with (at_builtin; refine wpList_append_z rfl _ _ _ rfl Try.underlying23 intInfo (1101 + x12) rfl (wf_near _ (by omega)) w.heap.size w12.heap.size _ zs rfl X12.out.1 (by omega) rfl (by omega) ?_)
          intro v12' w12' ho hb _
          have hz12' : w.heap.size + 1 ≤ w12'.heap.size := by have := hb.size; omega
          have hlz12 : (zs ++ [1101 + x12]).length ≤ lim9 j := by rw [List.length_append]; simp; omega
          have Z12 := Lib.hid (And.intro ho (And.intro (X12.out.2.1.below hb (by omega)) (X12.out.2.2.then_below hb (by omega)))); clear ho hb X12
          go_wp2
          go_roundw
          case rel => exact NmLoop.mk j (p' + 1 + 1) (by omega) (by omega) hlz12 (by omega) Z12.out.1 Z12.out.2.1 Z12.out.2.2 (by first | rfl | go_num)
          case measure => simp [intOf]
        · have hx3b : (x11 == 0) = false := by simpa using hx3
          clear hx3
          go_wp2_with fail
          refine (pick w0 g (p' + 1) 4 bs _ X11.out.2.1 (by omega) (by omega)).mono ?_
          rintro e w13 ⟨x13, rfl, hx0, hx1, hr, hg⟩
          have hz13 : w11.heap.size ≤ w13.heap.size := hg.size
          have X13 := Lib.hid (And.intro ((X11.out.1.apart hg (by omega)).widen hz13) (And.intro hr (X11.out.2.2.trans hg))); clear hr hg X11
          by_cases hx4 : x13 = 0
          · subst hx4
            clear hx0 hx1
            by_cases hl1 : 1 < zs.length
            · have hl1I : (1 : Int) < zs.length := by omega
              go_wp2_with fail
              refine (pick w0 g ((p' + 1) + 1) zs.length bs _ X13.out.2.1 (by omega) (by omega)).mono ?_
              rintro e w14 ⟨y14, rfl, hy0, hy1, hr, hg⟩
              have hz14 : w13.heap.size ≤ w14.heap.size := hg.size
              obtain ⟨a14, rfl⟩ := Int.eq_ofNat_of_zero_le hy0
              have Y14 := Lib.hid (And.intro ((X13.out.1.apart hg (by omega)).widen hz14) (And.intro hr (X13.out.2.2.trans hg))); clear hr hg X13
              obtain ⟨b14, off14, rfl, _, hc14⟩ := Y14.out.1.rd.some9 (by omega)
              have hal14 : a14 < zs.length := by omega
              have e114 : ¬ c = a14 := by omega
              have e214 : a14 < c := by omega
              have hrd14 := Y14.out.1.rd.from9 a14 (by omega)
              have L14 := nilLit w14
              have V14 := Lib.hid (And.intro L14.1 (And.intro (hrd14.step L14.2) (And.intro (Y14.out.1.below L14.2) (And.intro (Y14.out.2.1.below L14.2 (by omega)) (Y14.out.2.2.then_below L14.2 (by omega)))))); clear hrd14 L14 Y14
              have hs14 : (w14.alloc (.cells #[] 3)).heap.size = w14.heap.size + 1 := by simp
              have hdl14 : (zs.drop a14).length = zs.length - a14 := List.length_drop
              obtain ⟨ws14, HWS14⟩ : ∃ ws, Hid (zs.drop a14 = ws) := ⟨_, Lib.hid rfl⟩
              rw [HWS14.out] at V14 hdl14
              have hdb14 : ws14.length ≤ zs.length := by omega
              have HDL14 := Lib.hid hdl14; clear hdl14
              go_wp2_with (at_builtin; refine wpList_append_V rfl _ _ _ rfl Try.underlying23 intInfo w14.heap.size (w14.alloc (.cells #[] 3)).heap.size (.slice (some ⟨w14.heap.size, 0, none⟩) 0 0) [] rfl V14.out.1 (by simp) (.slice (some ⟨b14, off14 + a14, none⟩) (zs.length - a14) (c - a14)) ws14 rfl V14.out.2.1 (by simp; omega) ?_)
              intro v14' w14' ho hb
              have hz14' : w14.heap.size ≤ w14'.heap.size := by have := hb.size; omega
              have ho' : OwnI w14' w14.heap.size w14'.heap.size v14' ws14 := by simpa using ho
              have Z14 := Lib.hid (And.intro ho' (And.intro (V14.out.2.2.1.belowB hb (Nat.le_refl _)) (And.intro (V14.out.2.2.2.1.below hb (by omega)) (V14.out.2.2.2.2.then_below hb (by omega))))); clear ho ho' hb V14
              rcases hub : usesB n ws14 with _ | _ <;> have HUB14 := Lib.hid hub <;> clear hub
              · go_wp2_with fail
                refine (l9Named_any _ ws14 n _ (by omega) Z14.out.1.rd (by omega) false HUB14.out).mono ?_
                rintro e x14 ⟨rfl, hb⟩
                have hx14 : w14'.heap.size ≤ x14.heap.size := hb.size
                have U14 := Lib.hid (And.intro (Z14.out.1.below hb) (And.intro (Z14.out.2.1.below hb) (And.intro (Z14.out.2.2.1.below hb (by omega)) (Z14.out.2.2.2.then_below hb (by omega))))); clear hb Z14
                have hfo14 : OwnI x14 w.heap.size x14.heap.size (.slice (some ⟨b14, off14, none⟩) zs.length c) zs := U14.out.2.1.widen (by omega)
                have HFO14 := Lib.hid hfo14; clear hfo14
                go_wp2
                go_roundw
                case rel => exact NmLoop.mk j (((p' + 1) + 1) + 1) (by omega) (by omega) (by omega) (by omega) HFO14.out U14.out.2.2.1 U14.out.2.2.2 (by first | rfl | go_num)
                case measure => simp [intOf]
              · go_wp2_with fail
                refine (l9Named_any _ ws14 n _ (by omega) Z14.out.1.rd (by omega) true HUB14.out).mono ?_
                rintro e x14 ⟨rfl, hb⟩
                have hx14 : w14'.heap.size ≤ x14.heap.size := hb.size
                have U14 := Lib.hid (And.intro (Z14.out.1.below hb) (And.intro (Z14.out.2.1.below hb) (And.intro (Z14.out.2.2.1.below hb (by omega)) (Z14.out.2.2.2.then_below hb (by omega))))); clear hb Z14
                go_wp2_with (at_builtin; refine wpList_append_V rfl _ _ _ rfl Try.underlying23 intInfo w.heap.size w14.heap.size _ zs rfl U14.out.2.1 (by omega) _ ws14 rfl U14.out.1.rd (by omega) ?_)
                intro v14'' w14'' ho hb
                have hz14'' : w.heap.size + 1 ≤ w14''.heap.size := by have := hb.size; omega
                have hlz14 : (zs ++ ws14).length ≤ lim9 j := by rw [List.length_append]; omega
                have T14 := Lib.hid (And.intro ho (And.intro (U14.out.2.2.1.below hb (by omega)) (U14.out.2.2.2.then_below hb (by omega)))); clear ho hb U14
                go_wp2
                go_roundw
                case rel => exact NmLoop.mk j (((p' + 1) + 1) + 1) (by omega) (by omega) hlz14 (by omega) T14.out.1 T14.out.2.1 T14.out.2.2 (by first | rfl | go_num)
                case measure => simp [intOf]
            · have hl1I : ¬ (1 : Int) < zs.length := by omega
              go_wp2_with fail
              refine (part1 680000000000 (by omega) w0 g ((p' + 1) + 1) bs _ X13.out.2.1 (by omega)).mono ?_
              rintro e w15 ⟨u15, ys15, p15, rfl, ho, hl15, hr, hp15, hg⟩
              have hz15 : w13.heap.size ≤ w15.heap.size := hg.size
              have Y15 := Lib.hid (And.intro (X13.out.1.apart hg (by omega)) (And.intro ho (And.intro hr (X13.out.2.2.trans hg)))); clear hr hg ho X13
              go_wp2_with (at_builtin; refine wpList_append_V rfl _ _ _ rfl Try.underlying23 intInfo w.heap.size w13.heap.size _ zs rfl Y15.out.1 (by omega) _ ys15 rfl Y15.out.2.1.rd (by omega) ?_)
              intro v15' w15' ho hb
              have hz15' : w.heap.size + 1 ≤ w15'.heap.size := by have := hb.size; omega
              have hlz15 : (zs ++ ys15).length ≤ lim9 j := by rw [List.length_append]; omega
              have Z15 := Lib.hid (And.intro ho (And.intro (Y15.out.2.2.1.below hb (by omega)) (Y15.out.2.2.2.then_below hb (by omega)))); clear ho hb Y15
              go_wp2
              go_roundw
              case rel => exact NmLoop.mk j p15 (by omega) (by omega) hlz15 (by omega) Z15.out.1 Z15.out.2.1 Z15.out.2.2 (by first | rfl | go_num)
              case measure => simp [intOf]
          · have hx4b : (x13 == 0) = false := by simpa using hx4
            clear hx4
            go_wp2_with fail
            refine (part1 680000000000 (by omega) w0 g ((p' + 1) + 1) bs _ X13.out.2.1 (by omega)).mono ?_
            rintro e w16 ⟨u16, ys16, p16, rfl, ho, hl16, hr, hp16, hg⟩
            have hz16 : w13.heap.size ≤ w16.heap.size := hg.size
            have Y16 := Lib.hid (And.intro (X13.out.1.apart hg (by omega)) (And.intro ho (And.intro hr (X13.out.2.2.trans hg)))); clear hr hg ho X13
            go_wp2_with (at_builtin; refine wpList_append_V rfl _ _ _ rfl Try.underlying23 intInfo w.heap.size w13.heap.size _ zs rfl Y16.out.1 (by omega) _ ys16 rfl Y16.out.2.1.rd (by omega) ?_)
            intro v16' w16' ho hb
            have hz16' : w.heap.size + 1 ≤ w16'.heap.size := by have := hb.size; omega
            have hlz16 : (zs ++ ys16).length ≤ lim9 j := by rw [List.length_append]; omega
            have Z16 := Lib.hid (And.intro ho (And.intro (Y16.out.2.2.1.below hb (by omega)) (Y16.out.2.2.2.then_below hb (by omega)))); clear ho hb Y16
            go_wp2
            go_roundw
            case rel => exact NmLoop.mk j p16 (by omega) (by omega) hlz16 (by omega) Z16.out.1 Z16.out.2.1 Z16.out.2.2 (by first | rfl | go_num)
            case measure => simp [intOf]
      · have hn0I : ¬ (0 : Int) < n := by omega
        go_wp2_with fail
        refine (pick w0 g p' 4 bs _ X.out.2.1 (by omega) (by omega)).mono ?_
        rintro e w17 ⟨x17, rfl, hx0, hx1, hr, hg⟩
        have hz17 : wr.heap.size ≤ w17.heap.size := hg.size
        have X17 := Lib.hid (And.intro ((X.out.1.apart hg (by omega)).widen hz17) (And.intro hr (X.out.2.2.trans hg))); clear hr hg X
        by_cases hx4 : x17 = 0
        · subst hx4
          clear hx0 hx1
          by_cases hl1 : 1 < zs.length
          · have hl1I : (1 : Int) < zs.length := by omega
            go_wp2_with fail
            refine (pick w0 g (p' + 1) zs.length bs _ X17.out.2.1 (by omega) (by omega)).mono ?_
            rintro e w18 ⟨y18, rfl, hy0, hy1, hr, hg⟩
            have hz18 : w17.heap.size ≤ w18.heap.size := hg.size
            obtain ⟨a18, rfl⟩ := Int.eq_ofNat_of_zero_le hy0
            have Y18 := Lib.hid (And.intro ((X17.out.1.apart hg (by omega)).widen hz18) (And.intro hr (X17.out.2.2.trans hg))); clear hr hg X17
            obtain ⟨b18, off18, rfl, _, hc18⟩ := Y18.out.1.rd.some9 (by omega)
            have hal18 : a18 < zs.length := by omega
            have e118 : ¬ c = a18 := by omega
            have e218 : a18 < c := by omega
            have hrd18 := Y18.out.1.rd.from9 a18 (by omega)
            have L18 := nilLit w18
            have V18 := Lib.hid (And.intro L18.1 (And.intro (hrd18.step L18.2) (And.intro (Y18.out.1.below L18.2) (And.intro (Y18.out.2.1.below L18.2 (by omega)) (Y18.out.2.2.then_below L18.2 (by omega)))))); clear hrd18 L18 Y18
            have hs18 : (w18.alloc (.cells #[] 3)).heap.size = w18.heap.size + 1 := by simp
            have hdl18 : (zs.drop a18).length = zs.length - a18 := List.length_drop
            obtain ⟨ws18, HWS18⟩ : ∃ ws, Hid (zs.drop a18 = ws) := ⟨_, Lib.hid rfl⟩
            rw [HWS18.out] at V18 hdl18
            have hdb18 : ws18.length ≤ zs.length := by omega
            have HDL18 := Lib.hid hdl18; clear hdl18
            go_wp2_with (at_builtin; refine wpList_append_V rfl _ _ _ rfl Try.underlying23 intInfo w18.heap.size (w18.alloc (.cells #[] 3)).heap.size (.slice (some ⟨w18.heap.size, 0, none⟩) 0 0) [] rfl V18.out.1 (by simp) (.slice (some ⟨b18, off18 + a18, none⟩) (zs.length - a18) (c - a18)) ws18 rfl V18.out.2.1 (by simp; omega) ?_)
            intro v18' w18' ho hb
            have hz18' : w18.heap.size ≤ w18'.heap.size := by have := hb.size; omega
            have ho' : OwnI w18' w18.heap.size w18'.heap.size v18' ws18 := by simpa using ho
            have Z18 := Lib.hid (And.intro ho' (And.intro (V18.out.2.2.1.belowB hb (Nat.le_refl _)) (And.intro (V18.out.2.2.2.1.below hb (by omega)) (V18.out.2.2.2.2.then_below hb (by omega))))); clear ho ho' hb V18
            rcases hub : usesB n ws18 with _ | _ <;> have HUB18 := Lib.hid hub <;> clear hub
            · go_wp2_with fail
              refine (l9Named_any _ ws18 n _ (by omega) Z18.out.1.rd (by omega) false HUB18.out).mono ?_
              rintro e x18 ⟨rfl, hb⟩
              have hx18 : w18'.heap.size ≤ x18.heap.size := hb.size
              have U18 := Lib.hid (And.intro (Z18.out.1.below hb) (And.intro (Z18.out.2.1.below hb) (And.intro (Z18.out.2.2.1.below hb (by omega)) (Z18.out.2.2.2.then_below hb (by omega))))); clear hb Z18
              have hfo18 : OwnI x18 w.heap.size x18.heap.size (.slice (some ⟨b18, off18, none⟩) zs.length c) zs := U18.out.2.1.widen (by omega)
              have HFO18 := Lib.hid hfo18; clear hfo18
              go_wp2
              go_roundw
              case rel => exact NmLoop.mk j ((p' + 1) + 1) (by omega) (by omega) (by omega) (by omega) HFO18.out U18.out.2.2.1 U18.out.2.2.2 (by first | rfl | go_num)
              case measure => simp [intOf]
            · go_wp2_with fail
              refine (l9Named_any _ ws18 n _ (by omega) Z18.out.1.rd (by omega) true HUB18.out).mono ?_
              rintro e x18 ⟨rfl, hb⟩
              have hx18 : w18'.heap.size ≤ x18.heap.size := hb.size
              have U18 := Lib.hid (And.intro (Z18.out.1.below hb) (And.intro (Z18.out.2.1.below hb) (And.intro (Z18.out.2.2.1.below hb (by omega)) (Z18.out.2.2.2.then_below hb (by omega))))); clear hb Z18
              go_wp2_with (at_builtin; refine wpList_append_V rfl _ _ _ rfl Try.underlying23 intInfo w.heap.size w18.heap.size _ zs rfl U18.out.2.1 (by omega) _ ws18 rfl U18.out.1.rd (by omega) ?_)
              intro v18'' w18'' ho hb
              have hz18'' : w.heap.size + 1 ≤ w18''.heap.size := by have := hb.size; omega
              have hlz18 : (zs ++ ws18).length ≤ lim9 j := by rw [List.length_append]; omega
              have T18 := Lib.hid (And.intro ho (And.intro (U18.out.2.2.1.below hb (by omega)) (U18.out.2.2.2.then_below hb (by omega)))); clear ho hb U18
              go_wp2
              go_roundw
              case rel => exact NmLoop.mk j ((p' + 1) + 1) (by omega) (by omega) hlz18 (by omega) T18.out.1 T18.out.2.1 T18.out.2.2 (by first | rfl | go_num)
              case measure => simp [intOf]
          · have hl1I : ¬ (1 : Int) < zs.length := by omega
            go_wp2_with fail
            refine (part1 680000000000 (by omega) w0 g (p' + 1) bs _ X17.out.2.1 (by omega)).mono ?_
            rintro e w19 ⟨u19, ys19, p19, rfl, ho, hl19, hr, hp19, hg⟩
            have hz19 : w17.heap.size ≤ w19.heap.size := hg.size
            have Y19 := Lib.hid (And.intro (X17.out.1.apart hg (by omega)) (And.intro ho (And.intro hr (X17.out.2.2.trans hg)))); clear hr hg ho X17
            go_wp2_with (at_builtin; refine wpList_append_V rfl _ _ _ rfl Try.underlying23 intInfo w.heap.size w17.heap.size _ zs rfl Y19.out.1 (by omega) _ ys19 rfl Y19.out.2.1.rd (by omega) ?_)
            intro v19' w19' ho hb
            have hz19' : w.heap.size + 1 ≤ w19'.heap.size := by have := hb.size; omega
            have hlz19 : (zs ++ ys19).length ≤ lim9 j := by rw [List.length_append]; omega
            have Z19 := Lib.hid (And.intro ho (And.intro (Y19.out.2.2.1.below hb (by omega)) (Y19.out.2.2.2.then_below hb (by omega)))); clear ho hb Y19
            go_wp2
            go_roundw
            case rel => exact NmLoop.mk j p19 (by omega) (by omega) hlz19 (by omega) Z19.out.1 Z19.out.2.1 Z19.out.2.2 (by first | rfl | go_num)
            case measure => simp [intOf]
        · have hx4b : (x17 == 0) = false := by simpa using hx4
          clear hx4
          go_wp2_with fail
          refine (part1 680000000000 (by omega) w0 g (p' + 1) bs _ X17.out.2.1 (by omega)).mono ?_
          rintro e w20 ⟨u20, ys20, p20, rfl, ho, hl20, hr, hp20, hg⟩
          have hz20 : w17.heap.size ≤ w20.heap.size := hg.size
          have Y20 := Lib.hid (And.intro (X17.out.1.apart hg (by omega)) (And.intro ho (And.intro hr (X17.out.2.2.trans hg)))); clear hr hg ho X17
          go_wp2_with (at_builtin; refine wpList_append_V rfl _ _ _ rfl Try.underlying23 intInfo w.heap.size w17.heap.size _ zs rfl Y20.out.1 (by omega) _ ys20 rfl Y20.out.2.1.rd (by omega) ?_)
          intro v20' w20' ho hb
          have hz20' : w.heap.size + 1 ≤ w20'.heap.size := by have := hb.size; omega
          have hlz20 : (zs ++ ys20).length ≤ lim9 j := by rw [List.length_append]; omega
          have Z20 := Lib.hid (And.intro ho (And.intro (Y20.out.2.2.1.below hb (by omega)) (Y20.out.2.2.2.then_below hb (by omega)))); clear ho hb Y20
          go_wp2
          go_roundw
          case rel => exact NmLoop.mk j p20 (by omega) (by omega) hlz20 (by omega) Z20.out.1 Z20.out.2.1 Z20.out.2.2 (by first | rfl | go_num)
          case measure => simp [intOf]
end Go.Proofs.Ytaehaalaeikloaa
