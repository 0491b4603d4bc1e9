/- Chapter 7, the model: what a shuffle leaves of a row. -/
import Derived.Test.YtkdpfiaegimnlaaJn
import Derived.Test.YtkdpfiaegimnlaaB8
namespace Go.Proofs.Ytkdpfiaegimnlaa
set_option maxRecDepth 100000
open Go.RowKit Go.WideShapes Go.Deep

/-- The end of a row of the call's own. -/
theorem OwnI.top {w : World} {lo hi : Nat} {q : Value} {x : Int} {t : List Int} (h : OwnI w lo hi q (x :: t).reverse) : ∃ g cap, q = .slice (some ⟨g, 0, none⟩) (t.length + 1) cap ∧ lo ≤ g ∧ g < hi ∧ g < w.heap.size ∧ t.length + 1 ≤ cap ∧ cap ≤ 9223372036854775807 ∧
    w.cell? ⟨g, t.length, none⟩ = some (.int .i64 x) ∧ InK .i64 x ∧ OwnI w lo hi (.slice (some ⟨g, 0, none⟩) t.length cap) t.reverse := by
  have ho := h.own.own
  have hlen : (x :: t).reverse.length = t.length + 1 := by simp
  rw [hlen] at ho
  obtain ⟨g, cap, rfl⟩ := ownsRow_succ ho
  have hcap := ownsRow_cap ho
  have hcell := ho.cellAt t.length (by omega)
  have hu : ((x :: t).reverse.map (Value.int .i64))[t.length]? = some (.int .i64 x) := by
    rw [List.reverse_cons, List.map_append, List.getElem?_append_right (by simp)]; simp
  rw [hu] at hcell
  have hlt := h.lt g rfl
  have hge := h.own.ge g rfl
  refine ⟨g, cap, rfl, hge.1, hlt, hge.2, hcap.1, hcap.2, hcell, h.own.wf x (by simp), ⟨⟨?_, fun z hz => h.own.wf z (by simp at hz; simp [hz])⟩, fun k hk => h.lt k hk⟩⟩
  have htk : ((x :: t).reverse.map (Value.int .i64)).take t.length = t.reverse.map (Value.int .i64) := by
    rw [List.reverse_cons, List.map_append, List.take_append_of_le_length (by simp), List.take_of_length_le (by simp)]
  have h3 := ownsRow_take ho t.length (by omega)
  rw [htk] at h3
  rw [List.length_reverse]
  exact h3
/-- The two last ones exchanged. -/
theorem OwnI.flip {w : World} {lo hi g cap : Nat} {x y : Int} {t : List Int} (h : OwnI w lo hi (.slice (some ⟨g, 0, none⟩) (t.length + 2) cap) (x :: y :: t).reverse) :
    w.cell? ⟨g, t.length, none⟩ = some (.int .i64 y) ∧ (∀ j, w.frozen? ⟨g, j, none⟩ = false) ∧
    (w.setCell ⟨g, t.length + 1, none⟩ (.int .i64 y)).cell? ⟨g, t.length, none⟩ = some (.int .i64 y) ∧ (∀ j, (w.setCell ⟨g, t.length + 1, none⟩ (.int .i64 y)).frozen? ⟨g, j, none⟩ = false) ∧
    OwnI ((w.setCell ⟨g, t.length + 1, none⟩ (.int .i64 y)).setCell ⟨g, t.length, none⟩ (.int .i64 x)) lo hi (.slice (some ⟨g, 0, none⟩) (t.length + 2) cap) (y :: x :: t).reverse ∧
    Below lo w ((w.setCell ⟨g, t.length + 1, none⟩ (.int .i64 y)).setCell ⟨g, t.length, none⟩ (.int .i64 x)) ∧
    ((w.setCell ⟨g, t.length + 1, none⟩ (.int .i64 y)).setCell ⟨g, t.length, none⟩ (.int .i64 x)).heap.size = w.heap.size := by
  have ho := h.own.own
  have hlen : (x :: y :: t).reverse.length = t.length + 2 := by simp
  rw [hlen] at ho
  have hge := (h.own.ge g rfl).1
  have e0 : (x :: y :: t).reverse.map (Value.int .i64) = t.reverse.map (Value.int .i64) ++ [.int .i64 y, .int .i64 x] := by simp
  rw [e0] at ho
  have h1 := (ho.stored (t.length + 1) (.int .i64 y)).1
  have e1 : (t.reverse.map (Value.int .i64) ++ [Value.int .i64 y, .int .i64 x]).set (t.length + 1) (.int .i64 y) = t.reverse.map (Value.int .i64) ++ [.int .i64 y, .int .i64 y] := by
    rw [List.set_append_right _ _ (by simp)]; simp
  rw [e1] at h1
  have h2 := (h1.stored t.length (.int .i64 x)).1
  have e2 : (t.reverse.map (Value.int .i64) ++ [Value.int .i64 y, .int .i64 y]).set t.length (.int .i64 x) = t.reverse.map (Value.int .i64) ++ [.int .i64 x, .int .i64 y] := by
    rw [List.set_append_right _ _ (by simp)]; simp
  rw [e2] at h2
  have g0 : (t.reverse.map (Value.int .i64) ++ [Value.int .i64 y, .int .i64 x])[t.length]? = some (.int .i64 y) := by
    rw [List.getElem?_append_right (by simp)]; simp
  have g1 : (t.reverse.map (Value.int .i64) ++ [Value.int .i64 y, .int .i64 y])[t.length]? = some (.int .i64 y) := by
    rw [List.getElem?_append_right (by simp)]; simp
  refine ⟨(ho.cellAt t.length (by omega)).trans g0, fun j => ho.frozenAt j, (h1.cellAt t.length (by omega)).trans g1, fun j => h1.frozenAt j, ⟨⟨?_, fun z hz => h.own.wf z (by simp at hz ⊢; rcases hz with h | h | h <;> simp [h])⟩, fun k hk => h.lt k hk⟩, ((Below.refl lo w).setCell (by simpa using hge) _).setCell (by simpa using hge) _, by simp [World.setCell]⟩
  rw [show (y :: x :: t).reverse.length = t.length + 2 from by simp, show (y :: x :: t).reverse.map (Value.int .i64) = t.reverse.map (Value.int .i64) ++ [.int .i64 x, .int .i64 y] from by simp]
  exact h2

theorem cutAt_quote {m : List Int} (hf : fitsFrom 0 m = true) : cutAt 0 (1012 :: (m ++ [1013])) = some (m.length + 2) := by
  have hb : brk 1012 = 1 := rfl
  rw [cutAt, hb, if_neg (by omega), cutAt_wrap (Int.le_refl 0) hf]; rfl
def rowPair (p t : List Int) : List Int × Bool := match rowT p t with | some t' => (t'.reverse, true) | none => ([], false)
theorem rowPair_word {z : Int} {r t : List Int} : (z = 1001 → rowPair (z :: r) t = match t with | x :: q => rowPair r (x :: x :: q) | [] => ([], false)) ∧ (z = 1002 → rowPair (z :: r) t = match t with | _ :: q => rowPair r q | [] => ([], false)) ∧
    (z = 1003 → rowPair (z :: r) t = match t with | x :: y :: q => rowPair r (y :: x :: q) | _ => ([], false)) := by
  refine ⟨?_, ?_, ?_⟩
  · rintro rfl; rcases t with _ | ⟨x, q⟩ <;> simp [rowPair, rowT, mvRun, mvStep]
  · rintro rfl; rcases t with _ | ⟨x, q⟩ <;> simp [rowPair, rowT, mvRun, mvStep]
  · rintro rfl; rcases t with _ | ⟨x, _ | ⟨y, q⟩⟩ <;> simp [rowPair, rowT, mvRun, mvStep]

theorem rowPair_open {inner : List Int} (hi1 : fitsFrom 0 inner = true) (hi2 : shufFrom 1002 inner = true) (r tk : List Int) : rowPair (1012 :: (inner ++ 1013 :: 1004 :: r)) tk = match tk with | x :: t0 => (match rowT inner t0 with | some t1 => rowPair r (x :: t1) | none => ([], false)) | [] => ([], false) := by
  rw [rowPair, rowT_open hi1 hi2]
  rcases tk with _ | ⟨x, t0⟩
  · rfl
  · dsimp only
    rcases rowT inner t0 with _ | t1 <;> rfl
set_option maxHeartbeats 4000000 in
theorem l7Row_any (N : Nat) : ∀ (v : Value) (p : List Int) (v1 : Value) (t : List Int) (w : World) (y0 : List Int) (y1 : Bool), p.length < N → p.length ≤ 1000 → t.length + p.length ≤ 1000 → RdI w v p → RdI w v1 t.reverse → fitsFrom 0 p = true → shufFrom 1002 p = true → rowPair p t = (y0, y1) →
    Calls Try.prog 82 #[v, v1] w (PairI w y0 y1) := by
  induction N with
  | zero => intro v p v1 t w y0 y1 hN; omega
  | succ N ih =>
    intro v p v1 t w y0 y1 hN hp ht h h1 hf hs hR
    have IH := Lib.hid ih; clear ih
    obtain ⟨A, c, rfl, hi, hc⟩ := h
    have HI := Lib.hid hi; clear hi
    have Hf := Lib.hid (And.intro hf (And.intro hs hR)); clear hf hs hR
    have L0 := Lib.hid (nilLit w)
    have HS := Lib.hid (h1.step L0.out.2); clear h1
    go_enter Try.func82, Try.ntmps82
    go_wp2_with (at_builtin; refine wpList_append_V rfl _ _ _ rfl Try.underlying25 intInfo w.heap.size (w.alloc (.cells #[] 3)).heap.size _ [] rfl L0.out.1 (by simp) _ t.reverse rfl HS.out (by simp; omega) ?_)
    intro v1 w1 hown hb1
    have hz1 : w.heap.size ≤ w1.heap.size := by have := (L0.out.2.trans hb1).size; exact this
    have S1 := Lib.hid (And.intro hown (L0.out.2.trans hb1)); clear hown hb1 L0 HS
    go_wp2
    go_loopw [6, 7] (fun q i wr => ∃ (k : Nat) (tk : List Int), k ≤ p.length ∧ i = .int .i64 k ∧ tk.length ≤ t.length + k ∧ w.heap.size ≤ wr.heap.size ∧ OwnI wr w.heap.size wr.heap.size q tk.reverse ∧ Below w.heap.size w wr ∧ fitsFrom 0 (p.drop k) = true ∧ shufFrom 1002 (p.drop k) = true ∧ rowPair (p.drop k) tk = (y0, y1)) (fun _ i _ => p.length - (intOf i).toNat)
    case atStart => exact ⟨0, t, Nat.zero_le _, rfl, by omega, hz1, S1.out.1, S1.out.2, by simpa using Hf.out⟩
    case round =>
      clear S1 hz1 Hf
      obtain ⟨k, tk, hk, rfl, htk, hsz, hown, hbk, hfk, hsk, hrk⟩ := hrel
      by_cases hlt : k < p.length
      · have hz0 : p.drop k = p.getD k 0 :: p.drop (k + 1) := by
          rw [List.drop_eq_getElem_cons hlt]; simp [List.getD, List.getElem?_eq_getElem hlt]
        obtain ⟨bb, off, rfl, hb, hcc⟩ := HI.out.at_ (by omega)
        have hcell := (hbk.cell (p := ⟨bb, off + k, none⟩) hb).trans (hcc k hlt)
        clear hcc
        rcases shuf_cases hfk hsk with h0 | ⟨z, r, he, hz, hfr, hsr⟩ | ⟨inner, r, he, hi1, hi2, hfr, hsr⟩
        · rw [h0] at hz0; cases hz0
        · rw [he] at hz0 hrk
          injection hz0 with hz1 hz2
          rw [← hz1] at hcell
          rw [hz2] at hfr hsr
          obtain ⟨r1, r2, r3⟩ := rowPair_word (z := z) (r := r) (t := tk)
          rw [hz2] at r1 r2 r3 hrk
          have D := Lib.hid (And.intro hbk (And.intro hfr hsr)); clear hbk hfr hsr he hfk hsk hz1 hz2
          rcases hz with rfl | rfl | rfl
          · have hrr := hrk.symm.trans (r1 rfl)
            clear r1 r2 r3 hrk
            rcases tk with _ | ⟨x, q0⟩
            · cases hrr
              obtain ⟨Aq, cq, rfl, _⟩ := hown.rd
              have N := Lib.hid (nilOut D.out.1); clear hown
              go_wp2
              go_ret2
              exact ⟨_, rfl, N.out⟩
            · obtain ⟨g, cap, rfl, hg0, hg1, hg2, hcp, hcp2, hcl, hwx, _⟩ := hown.top
              have HO := Lib.hid (And.intro hown (And.intro hwx hrr)); clear hown hwx hrr
              have hql : q0.length ≤ 100000 := by simp at htk; omega
              have hI1 : (1 : Int) ≤ (q0.length : Int) + 1 := by omega
              go_wp2_with (at_builtin; refine wpList_append_z rfl _ _ _ rfl Try.underlying25 intInfo x rfl HO.out.2.1 w.heap.size wr.heap.size _ (x :: q0).reverse rfl HO.out.1 hsz rfl (by simp; omega) ?_)
              intro v2 w2 ho2 hb2 _
              have hz2 : w.heap.size ≤ w2.heap.size := by have := hb2.size; omega
              have Y := Lib.hid (And.intro ho2 (D.out.1.trans hb2)); clear ho2 hb2
              go_wp2
              go_roundw
              case rel => exact ⟨k + 1, x :: x :: q0, by omega, by go_num, by simp at htk ⊢; omega, hz2, by simpa using Y.out.1, Y.out.2, D.out.2.1, D.out.2.2, HO.out.2.2.symm⟩
              case measure => simp [intOf]; omega
          · have hrr := hrk.symm.trans (r2 rfl)
            clear r1 r2 r3 hrk
            rcases tk with _ | ⟨x, q0⟩
            · cases hrr
              obtain ⟨Aq, cq, rfl, _⟩ := hown.rd
              have N := Lib.hid (nilOut D.out.1); clear hown
              go_wp2
              go_ret2
              exact ⟨_, rfl, N.out⟩
            · obtain ⟨g, cap, rfl, hg0, hg1, hg2, hcp, hcp2, hcl, hwx, hq⟩ := hown.top
              have HO := Lib.hid (And.intro hq hrr); clear hown hwx hrr hq
              have hql : q0.length ≤ 100000 := by simp at htk; omega
              have hI1 : (1 : Int) ≤ (q0.length : Int) + 1 := by omega
              go_wp2
              go_roundw
              case rel => exact ⟨k + 1, q0, by omega, by go_num, by simp at htk ⊢; omega, hsz, HO.out.1, D.out.1, D.out.2.1, D.out.2.2, HO.out.2.symm⟩
              case measure => simp [intOf]; omega
          · have hrr := hrk.symm.trans (r3 rfl)
            clear r1 r2 r3 hrk
            rcases tk with _ | ⟨x, _ | ⟨y, q0⟩⟩
            · cases hrr
              obtain ⟨Aq, cq, rfl, _⟩ := hown.rd
              have N := Lib.hid (nilOut D.out.1); clear hown
              go_wp2
              go_ret2
              exact ⟨_, rfl, N.out⟩
            · cases hrr
              obtain ⟨Aq, cq, rfl, _⟩ := hown.rd
              have N := Lib.hid (nilOut D.out.1); clear hown
              go_wp2
              go_ret2
              exact ⟨_, rfl, N.out⟩
            · obtain ⟨g, cap, rfl, hg0, hg1, hg2, hcp, hcp2, hcl, hwx, _⟩ := hown.top
              simp only [List.length_cons] at hcl hcp hown
              obtain ⟨f1, f2, f3, f4, f5, f6, f7⟩ := hown.flip
              have fz0 := f2 (q0.length + 1)
              have fz1 := f4 q0.length
              have hql : q0.length ≤ 100000 := by simp at htk; omega
              have hI1 : (2 : Int) ≤ (q0.length : Int) + 1 + 1 := by omega
              have HO := Lib.hid (And.intro f5 (And.intro f6 (And.intro f7 hrr))); clear hown hwx hrr f5 f6 f7 f2 f4
              go_wp2
              go_roundw
              case rel => exact ⟨k + 1, y :: x :: q0, by omega, by go_num, by simp at htk ⊢; omega, by rw [HO.out.2.2.1]; exact hsz, by rw [HO.out.2.2.1]; exact HO.out.1, D.out.1.trans HO.out.2.1, D.out.2.1, D.out.2.2, HO.out.2.2.2.symm⟩
              case measure => simp [intOf]; omega
        · rw [he] at hz0
          injection hz0 with hz1 hz2
          rw [← hz1] at hcell
          have hlen : k + (inner.length + 3 + r.length) = p.length := by
            have := congrArg List.length he
            simp at this; omega
          obtain ⟨e0, he0⟩ : ∃ e0, e0 + 1 = k + (inner.length + 2) := ⟨k + (inner.length + 1), by omega⟩
          have hcut : cutAt 0 (p.drop k) = some (inner.length + 2) := by
            rw [he]
            have := cutAt_append (cutAt_quote hi1) (1004 :: r)
            simpa using this
          have hdr : p.drop (e0 + 2) = r := by
            have h1 := congrArg (List.drop (inner.length + 3)) he
            rw [List.drop_drop, show k + (inner.length + 3) = e0 + 2 from by omega] at h1
            rw [h1, List.drop_succ_cons, show inner.length + 2 = (inner ++ [1013, 1004]).length from by simp, show inner ++ 1013 :: 1004 :: r = (inner ++ [1013, 1004]) ++ r from by simp, List.drop_left]
          have hin : (p.drop (k + 1)).take (e0 - (k + 1)) = inner := by
            rw [← hz2, show e0 - (k + 1) = inner.length from by omega]; simp
          have hsub := RdI.sub HI.out (k + 1) (e0 - (k + 1)) (c - (k + 1)) (by omega) (by omega)
          rw [hin] at hsub
          have hrr := (he ▸ hrk : rowPair (1012 :: (inner ++ 1013 :: 1004 :: r)) tk = (y0, y1)).symm.trans (rowPair_open hi1 hi2 r tk)
          have HD := Lib.hid (And.intro hdr (And.intro hsub (And.intro hi1 hi2)))
          have hfr' : fitsFrom 0 (p.drop (e0 + 2)) = true ∧ shufFrom 1002 (p.drop (e0 + 2)) = true := by rw [hdr]; exact ⟨hfr, hsr⟩
          have D := Lib.hid (And.intro hbk hfr')
          have L1 := Lib.hid (l1End_any (some ⟨bb, off, none⟩) c k (inner.length + 2) e0 p wr ((HI.out.below hbk).mono hsz) (by omega) hcut (by omega) (by omega))
          have hke : k + 1 ≤ e0 := by omega
          have hez : e0 + 2 ≤ p.length := by omega
          have hinl : inner.length < N ∧ inner.length ≤ 1000 := by omega
          have hck : ¬ c = k + 1 := by omega
          have he1 : k + (inner.length + 2) ≤ e0 + 1 := by omega
          clear hbk hfr hsr he hfk hsk hz1 hz2 hcut hdr hin hsub hrk hlen he0 hfr' hi1 hi2
          rcases tk with _ | ⟨x, t0⟩
          · cases hrr
            obtain ⟨Aq, cq, rfl, _⟩ := hown.rd
            have N := Lib.hid (nilOut D.out.1); clear hown
            go_wp2
            go_ret2
            exact ⟨_, rfl, N.out⟩
          · obtain ⟨g, cap, rfl, hg0, hg1, hg2, hcp, hcp2, hcl, hwx, hq⟩ := hown.top
            have hdw : Below wr.heap.size wr wr.drew := (Below.refl _ _).drew
            have HO := Lib.hid (And.intro (hq.rd.step hdw) (And.intro hwx (And.intro (hq.below hdw) (HD.out.2.1.step ((D.out.1.trans (hdw.mono hsz)).mono (Nat.le_refl _)))))); clear hown hwx hq
            have htk2 : t0.length + 1 ≤ t.length + k := by simpa using htk
            have hql : t0.length ≤ 2000 := by omega
            have hq0 : t0.length + inner.length ≤ 1000 := by omega
            have hI1 : (1 : Int) ≤ (t0.length : Int) + 1 := by omega
            have HRR := Lib.hid hrr; clear hrr hdw
            have hwk : IntKind.i64.wrap ((k : Int) + 1) = (k : Int) + 1 := by rw [IntKind.wrap_i64]; omega
            have hke2 : (k : Int) + 1 ≤ e0 := by omega
            have hk0 : (0 : Int) ≤ (k : Int) + 1 := by omega
            have hwt : IntKind.i64.wrap ((t0.length : Int) + 1 - 1) = (t0.length : Int) := by rw [IntKind.wrap_i64]; omega
            have hwt2 : IntKind.i64.wrap (t0.length : Int) = (t0.length : Int) := by rw [IntKind.wrap_i64]; omega
            have hcpI : (t0.length : Int) ≤ (cap : Int) := by omega
            rcases hri : rowT inner t0 with _ | t1
            · have hrr := HRR.out
              dsimp only at hrr
              rw [hri] at hrr
              cases hrr
              have HP := Lib.hid (show rowPair inner t0 = ([], false) from by rw [rowPair, hri]); clear hri
              go_wp2_with (go_at_call 89; refine L1.out.mono ?_; rintro e w' ⟨rfl, rfl⟩)
              go_region_with (go_at_call 82; refine (IH.out _ inner _ t0 _ [] false hinl.1 hinl.2 hq0 HO.out.2.2.2 HO.out.1 HD.out.2.2.1 HD.out.2.2.2 HP.out).mono ?_; rintro e w2 ⟨u2, rfl, _, hb2⟩)
              all_goals
                have N := Lib.hid (nilOut (D.out.1.trans (((Below.refl wr.heap.size wr).drew.trans hb2).mono hsz)))
                go_wp2
                go_ret2
                exact ⟨_, rfl, N.out⟩
            · have hrr := HRR.out
              dsimp only at hrr
              rw [hri] at hrr
              dsimp only at hrr
              have ht1 := rowT_len hri
              have HP := Lib.hid (show rowPair inner t0 = (t1.reverse, true) from by rw [rowPair, hri])
              have HR2 := Lib.hid hrr; clear hri hrr HRR
              go_wp2_with (go_at_call 89; refine L1.out.mono ?_; rintro e w' ⟨rfl, rfl⟩)
              go_region_with (go_at_call 82; refine (IH.out _ inner _ t0 _ t1.reverse true hinl.1 hinl.2 hq0 HO.out.2.2.2 HO.out.1 HD.out.2.2.1 HD.out.2.2.2 HP.out).mono ?_; rintro e w2 ⟨u2, rfl, ho2, hb2⟩)
              all_goals
                have hz2 : wr.heap.size ≤ w2.heap.size := hb2.size
                have hbt : Below w.heap.size w w2 := D.out.1.trans (((Below.refl wr.heap.size wr).drew.trans hb2).mono hsz)
                have ho3 : OwnI w2 w.heap.size w2.heap.size u2 t1.reverse := ⟨ho2.own.mono hsz, ho2.lt⟩
                have Y := Lib.hid (And.intro ho3 hbt); clear ho2 ho3 hbt hb2
                go_wp2_with (at_builtin; refine wpList_append_z rfl _ _ _ rfl Try.underlying25 intInfo x rfl HO.out.2.1 w.heap.size w2.heap.size _ t1.reverse rfl Y.out.1 (by omega) rfl (by simp; omega) ?_)
                intro v3 w3 ho3 hb3 _
                have hz3 : w.heap.size ≤ w3.heap.size := by have := hb3.size; omega
                have Z := Lib.hid (And.intro ho3 (Y.out.2.trans hb3)); clear ho3 hb3
                go_wp2
                go_roundw
                case rel => exact ⟨e0 + 2, x :: t1, by omega, by go_num, by simp at htk ⊢; omega, hz3, by rw [List.reverse_cons]; exact Z.out.1, Z.out.2, D.out.2.1, D.out.2.2, by rw [HD.out.1]; exact HR2.out.symm⟩
                case measure => simp [intOf]; omega
      · obtain rfl : k = p.length := by omega
        rw [List.drop_length, rowPair, rowT_nil] at hrk
        cases hrk
        have Y := Lib.hid (And.intro hown hbk); clear hown hbk
        go_wp2
        go_ret2
        exact ⟨_, rfl, Y.out⟩
end Go.Proofs.Ytkdpfiaegimnlaa
