/- Contracts of ProgParts: slices.Clone, the program's; the parts. -/
import Derived.Test.YtmhhmdakilecoaaR
import Derived.Test.YtmhhmdakilecoaaDp
import Derived.WalkSpells
namespace Go.Proofs.Ytmhhmdakilecoaa
set_option maxRecDepth 100000
open Go.RowKit Go.WideShapes

theorem rowInfo : (Try.prog.info? 23).map (fun i => (i.zero, i.size, i.bytes)) = some (some (.slice none 0 0), 1, 24) := by kernel_rfl

theorem IntsK.sub {k : IntKind} {w : World} {B b off : Nat} {zs : List Int} (h : IntsK k w B (some ⟨b, off, none⟩) zs) (i n : Nat) (hi : i + n ≤ zs.length) : IntsK k w B (some ⟨b, off + i, none⟩) ((zs.drop i).take n) := by
  refine ⟨by have := h.len; simp; omega, fun z hz => h.wf z (List.mem_of_mem_drop (List.mem_of_mem_take hz)), fun h0 => ?_⟩
  have hl : ((zs.drop i).take n).length = n := by simp; omega
  obtain ⟨b', off', he, hb, hc⟩ := h.at_ (by omega)
  cases he
  refine ⟨b, off + i, rfl, hb, fun j hj => ?_⟩
  rw [Nat.add_assoc, hc (i + j) (by omega)]
  simp only [List.getD, List.getElem?_take, List.getElem?_drop]
  rw [if_pos (by omega)]

theorem Clone_any (b off c : Nat) (zs : List Int) (w : World) (h : Ints w (some ⟨b, off, none⟩) zs) (hl : zs.length ≤ 1000000) :
    Calls Try.prog 113 #[.slice (some ⟨b, off, none⟩) zs.length c] w fun e w' => ∃ v, e = .returned v ∧ OwnI w' w.heap.size w'.heap.size v zs ∧ Below w.heap.size w w' := by
  have hm := h.len
  have H := Lib.hid h; clear h
  have L0 := lit_own w [] (by simp)
  simp only [List.map_nil, List.length_nil] at L0
  have hnil := fun (W : World) (a : Option Addr) (n c : Nat) => Lib.run_eql_slice_nil (P := Try.prog) W 23 3 a n c 0 0 Try.underlying23
  go_enter Try.func113, Try.ntmps113
  go_wp2_with (at_builtin; refine wpList_append_ints rfl (.tmp 5) (.tmp 6) _ rfl w.heap.size 3 .i64 8 Try.underlying23 intInfo (Nat.le_refl _) _ [] rfl L0 (w.heap.size + 1) _ zs c rfl ((H.out.alloc (Nat.le_refl _) _).mono (by omega)) (by simp; omega) (by simp) ?_)
  intro v1 w1 hown1 hg1 _
  have hb1 : Below w.heap.size w w1 := ((Below.refl w.heap.size w).alloc (Nat.le_refl _) _).grown hg1 (by simp) (by intro k hk; simp [Value.ownBlock] at hk; omega)
  have ho1 : Own w1 w.heap.size v1 zs := ⟨by simpa using hown1, H.out.wf⟩
  have X := Lib.hid (And.intro ho1 hb1)
  clear hown1 hg1 hb1 ho1 L0
  go_wp2
  go_ret
  exact ⟨_, rfl, X.out.1.within, X.out.2⟩

theorem Clone_n (b off c n : Nat) (zs : List Int) (w : World) (h : Ints w (some ⟨b, off, none⟩) zs) (hn : zs.length = n) (hl : n ≤ 1000000) :
    Calls Try.prog 113 #[.slice (some ⟨b, off, none⟩) n c] w fun e w' => ∃ v, e = .returned v ∧ OwnI w' w.heap.size w'.heap.size v zs ∧ Below w.heap.size w w' := by
  subst hn; exact Clone_any b off c zs w h hl

/-- The parts, from o brackets open, cur the words of the part that is begun. -/
def partsFrom : Int → List Int → List Int → List (List Int)
  | _, _, [] => []
  | o, cur, z :: zs => if o + brk z = 0 then (cur ++ [z]) :: partsFrom 0 [] zs else partsFrom (o + brk z) (cur ++ [z]) zs
theorem partsFrom_drop (o : Int) (cur zs : List Int) (k : Nat) (h : k < zs.length) :
    partsFrom o cur (zs.drop k) = if o + brk (zs.getD k 0) = 0 then (cur ++ [zs.getD k 0]) :: partsFrom 0 [] (zs.drop (k + 1)) else partsFrom (o + brk (zs.getD k 0)) (cur ++ [zs.getD k 0]) (zs.drop (k + 1)) := by
  rw [List.drop_eq_getElem_cons h, partsFrom]; simp [List.getD, List.getElem?_eq_getElem h]
def partsR (p : List Int) : List (List Int) := if validB p = true then partsFrom 0 [] p else []
theorem cut_snoc (zs : List Int) (i k : Nat) (hi : i ≤ k) (hk : k < zs.length) : (zs.drop i).take (k - i) ++ [zs.getD k 0] = (zs.drop i).take (k + 1 - i) := by
  rw [show k + 1 - i = (k - i) + 1 from by omega, List.take_add_one, List.getElem?_drop, show i + (k - i) = k from by omega]
  simp [List.getD, List.getElem?_eq_getElem hk]

theorem OwnVs.snoc {w w1 w2 : World} {lo : Nat} {v v' u : Value} {vs : List Value} {zss : List (List Int)} {zs : List Int} (h : OwnVs w lo w.heap.size v vs zss) (hb : Below w.heap.size w w1) (hu : OwnI w1 w.heap.size w1.heap.size u zs) (hlo : lo ≤ w.heap.size)
    (hg : ∀ k, k < w1.heap.size → some k ≠ v.ownBlock → w2.heap[k]? = w1.heap[k]?) (hsz : w1.heap.size ≤ w2.heap.size)
    (hrow : w2.ownsRow lo 23 1 v' (zss.length + 1) (vs ++ [u])) : OwnVs w2 lo w2.heap.size v' (vs ++ [u]) (zss ++ [zs]) := by
  have hin : ∀ q lo' hi' ys, OwnI w1 lo' hi' q ys → (q.ownBlock = none ∨ q.ownBlock ≠ v.ownBlock) → OwnI w2 lo' hi' q ys := by
    intro q lo' hi' ys hq hne
    refine ⟨⟨⟨hq.own.own.1, ?_⟩, hq.own.wf⟩, hq.lt⟩
    rcases hq.own.own.2 with h0 | ⟨g, cap, cur, rfl, hb', hh, h1⟩
    · exact .inl h0
    · refine .inr ⟨g, cap, cur, rfl, hb', (hg g (hq.own.own.lt g rfl).2 ?_).trans hh, h1⟩
      rcases hne with h | h
      · simp [Value.ownBlock] at h
      · exact h
  refine ⟨by simp [h.len], by rw [List.length_append]; exact hrow, fun g hg' => (hrow.lt g hg').2, ?_, ?_⟩
  · intro j q ys hq hy
    by_cases hj : j < vs.length
    · rw [List.getElem?_append_left hj] at hq
      rw [List.getElem?_append_left (by rw [← h.len]; exact hj)] at hy
      have h1 := h.inner j q ys hq hy
      have h2 : OwnI w1 lo w.heap.size q ys := h1.below hb
      have h3 := hin q _ _ ys h2 (by
        rcases e : q.ownBlock with _ | g
        · exact .inl rfl
        · right
          rcases h.inner_ne hq hy with h4 | h4
          · rw [h4]; simp
          · rw [← e]; exact fun e' => h4 e'.symm)
      exact ⟨h3.own, fun g hg' => by have := h3.lt g hg'; have := hb.size; omega⟩
    · have hjl : j = vs.length := by
        rcases Nat.lt_or_ge j (vs.length + 1) with h' | h'
        · omega
        · rw [List.getElem?_eq_none (by simp; omega)] at hq; cases hq
      subst hjl
      rw [List.getElem?_append_right (by omega)] at hq
      rw [List.getElem?_append_right (by rw [h.len]; omega)] at hy
      simp at hq
      simp [h.len] at hy
      subst hq; subst hy
      have h3 := hin u _ _ zs hu (by
        rcases e : u.ownBlock with _ | g
        · exact .inl rfl
        · right
          intro e'
          have h5 := h.lt g e'.symm
          have h6 := (hu.own.ge g e).1
          omega)
      exact ⟨h3.own.mono hlo, fun g hg' => by have := h3.lt g hg'; omega⟩
  · intro i j q q' g hij hq hq' e e'
    have hget : ∀ (i : Nat) q, (vs ++ [u])[i]? = some q → (i < vs.length ∧ vs[i]? = some q) ∨ (i = vs.length ∧ q = u) := by
      intro i q hq
      by_cases hi : i < vs.length
      · rw [List.getElem?_append_left hi] at hq; exact .inl ⟨hi, hq⟩
      · have hil : i = vs.length := by
          rcases Nat.lt_or_ge i (vs.length + 1) with h' | h'
          · omega
          · rw [List.getElem?_eq_none (by simp; omega)] at hq; cases hq
        subst hil
        rw [List.getElem?_append_right (by omega)] at hq
        simp at hq
        exact .inr ⟨rfl, hq.symm⟩
    have hold : ∀ (i : Nat) q, i < vs.length → vs[i]? = some q → q.ownBlock = some g → g < w.heap.size := by
      intro i q hi hq e
      have hz : zss[i]? = some (zss[i]'(by rw [← h.len]; exact hi)) := List.getElem?_eq_getElem _
      exact (h.inner i q _ hq hz).lt g e
    rcases hget i q hq with ⟨hi, h1⟩ | ⟨hi, rfl⟩ <;> rcases hget j q' hq' with ⟨hj, h2⟩ | ⟨hj, rfl⟩
    · exact h.apart i j q q' g hij h1 h2 e e'
    · have h5 := hold i q hi h1 e
      have h6 := (hu.own.ge g e').1
      omega
    · have h5 := hold j q' hj h2 e'
      have h6 := (hu.own.ge g e).1
      omega
    · omega

theorem ProgParts_any (A : Option Addr) (c : Nat) (zs : List Int) (w : World) (h : Ints w A zs) (hcap : zs.length ≤ c) :
    Calls Try.prog 82 #[.slice A zs.length c] w fun e w' => ∃ v, e = .returned v ∧ OwnS w' w.heap.size w'.heap.size v (partsR zs) ∧ Below w.heap.size w w' := by
  have hm := h.len
  have H := Lib.hid h; clear h
  rcases hv : validB zs with _ | _ <;> have Hv := Lib.hid hv <;> clear hv
  · have HR : Hid (partsR zs = []) := Lib.hid (by rw [partsR, if_neg (by simp [Hv.out])])
    rw [HR.out]
    go_enter Try.func82, Try.ntmps82
    go_wp2_with (go_at_call 70; refine (ProgValid_any A c zs _ H.out).mono ?_; rw [Hv.out]; rintro e w' ⟨rfl, rfl⟩)
    go_ret
    exact ⟨_, rfl, ⟨[], rfl, World.ownsRow_nil _ _ _ _, by simp [Value.ownBlock], by simp, by simp⟩, Below.refl _ _⟩
  · have hl := validB_len Hv.out
    have HR : Hid (partsR zs = partsFrom 0 [] zs) := Lib.hid (by rw [partsR, if_pos Hv.out])
    rw [HR.out]
    go_enter Try.func82, Try.ntmps82
    go_wp2_with (go_at_call 70; refine (ProgValid_any A c zs _ H.out).mono ?_; rw [Hv.out]; rintro e w' ⟨rfl, rfl⟩)
    go_loopw [3, 4, 5, 13] (fun v o b i wr => ∃ (k s : Nat) (x : Int) (vs : List Value) (zss : List (List Int)), s ≤ k ∧ k ≤ zs.length ∧ i = .int .i64 k ∧ b = .int .i64 s ∧ o = .int .i64 x ∧ -k ≤ x ∧ x ≤ k ∧ zss.length ≤ k ∧
      Below w.heap.size w wr ∧ OwnVs wr w.heap.size wr.heap.size v vs zss ∧ partsFrom 0 [] zs = zss ++ partsFrom x ((zs.drop s).take (k - s)) (zs.drop k)) (fun _ _ _ i _ => zs.length - (intOf i).toNat)
    case atStart => exact ⟨0, 0, 0, [], [], Nat.le_refl _, Nat.zero_le _, rfl, rfl, rfl, by omega, by omega, by simp, Below.refl _ _, ⟨rfl, World.ownsRow_nil _ _ _ _, by simp [Value.ownBlock], by simp, by simp⟩, by simp⟩
    case round =>
      obtain ⟨k, s, x, vs, zss, hsk, hk, rfl, rfl, rfl, hx0, hxk, hzl, hbw, hown, hall⟩ := hrel
      have hsz := hbw.size
      have Hbw := Lib.hid hbw; clear hbw
      have Hown := Lib.hid hown; clear hown
      by_cases hlt : k < zs.length
      · rw [partsFrom_drop x _ zs k hlt, cut_snoc zs s k hsk hlt] at hall
        obtain ⟨b, off, rfl, hb, hc⟩ := H.out.at_ (by omega)
        have hcell := (Hbw.out.cell (p := ⟨b, off + k, none⟩) hb).trans (hc k hlt)
        clear hc
        have hbd := brk_bd (zs.getD k 0)
        generalize zs.getD k 0 = z at *
        have Hall := Lib.hid hall; clear hall
        by_cases h0 : x + brk z = 0
        · have h0b : ((x + brk z) == 0) = true := by simpa using h0
          have H0 := Lib.hid h0; clear h0
          have HI := Lib.hid (((H.out.below Hbw.out).mono Hbw.out.size).sub s (k + 1 - s) (by omega))
          have HIl : Hid (((zs.drop s).take (k + 1 - s)).length = k + 1 - s) := Lib.hid (by simp; omega)
          generalize (zs.drop s).take (k + 1 - s) = part at *
          go_wp2_with (go_at_call 114; refine (bracketChange_any _ _).mono ?_; rintro e w' ⟨rfl, rfl⟩)
          refine (Clone_n b (off + s) (c - s) (k + 1 - s) part _ HI.out HIl.out (by omega)).mono ?_
          rintro e w1 ⟨u, rfl, hou, hb1⟩
          have hsz1 := hb1.size
          have Hou := Lib.hid hou; clear hou
          have Hb1 := Lib.hid hb1; clear hb1
          obtain ⟨A', c', rfl, _⟩ := Hou.out.own.ints
          have Hrow : Hid (w1.ownsRow w.heap.size 23 1 _ zss.length vs) := Lib.hid (Hown.out.row.kept (row := none) (only_of_below Hb1.out none) (by
            rcases e : Value.ownBlock _ with _ | g
            · exact .inl rfl
            · exact .inr (by simp)))
          have Hcn : Hid ((w1.alloc (.cells #[.slice A' part.length c'] 23)).cell? ⟨w1.heap.size, 0, none⟩ = some (.slice A' part.length c')) := Lib.hid (by rw [cell_of_row _ _ _ _ _ _ (heap_alloc_new w1 _)]; rfl)
          go_wp2_with (at_builtin; (refine wpList_append_one rfl (.tmp 24) (.tmp 31) _ rfl w.heap.size 23 _ 24 Try.underlying29 rowInfo (by omega) rfl _ zss.length vs rfl (Hrow.out.alloc _) w1.heap.size 1 (.slice A' part.length c') rfl Hcn.out rfl (by omega) (by simp; omega) ?_))
          intro v2 w2 hrow2 hg2 _
          have hb2 : Below w.heap.size w w2 := ((Hbw.out.trans (Hb1.out.mono hsz)).alloc (by omega) _).grown hg2 (by simp; omega) (fun g hg => (Hown.out.row.lt g hg).1)
          have hsz2 : w1.heap.size ≤ w2.heap.size := by have := hg2.size; simp at this; omega
          have hvs := Hown.out.snoc Hb1.out Hou.out hsz (fun q hq hne => (hg2.block q (by simp; omega) hne).trans (Below.heap_alloc w1 _ q hq)) hsz2 hrow2
          have X := Lib.hid (And.intro hb2 hvs)
          clear hb2 hvs hrow2 hg2 Hrow Hcn Hou Hb1 hsz2
          go_wp2
          go_roundw
          case rel => exact ⟨k + 1, k + 1, 0, _, zss ++ [part], Nat.le_refl _, by omega, by go_num, by go_num, by rw [H0.out], by omega, by omega, by simp; omega, X.out.1, X.out.2, by rw [Hall.out, if_pos H0.out, List.append_assoc]; simp⟩
          case measure => simp [intOf]; omega
        · have h0b : ((x + brk z) == 0) = false := by simpa using h0
          have H0 := Lib.hid h0; clear h0
          go_wp2_with (go_at_call 114; refine (bracketChange_any _ _).mono ?_; rintro e w' ⟨rfl, rfl⟩)
          go_roundw
          case rel => exact ⟨k + 1, s, x + brk z, vs, zss, by omega, by omega, by go_num, rfl, rfl, by omega, by omega, by omega, Hbw.out, Hown.out, by rw [Hall.out, if_neg H0.out]⟩
          case measure => simp [intOf]; omega
      · have Hall := Lib.hid hall; clear hall
        go_wp2
        go_ret
        refine ⟨_, rfl, ⟨vs, ?_⟩, Hbw.out⟩
        have hd : zs.drop k = [] := List.drop_eq_nil_of_le (by omega)
        rw [Hall.out, hd, partsFrom, List.append_nil]
        exact Hown.out
end Go.Proofs.Ytmhhmdakilecoaa
