/- Several texts in one. -/
import Derived.Test.YtjblecinkedppaaGreatDoorB2
import Derived.WalkSpells
/- Contracts of ProgParts: slices.Clone, the program's; the parts. Contracts of the model's l1End and ProgParts. -/
namespace Go.Proofs.YtjblecinkedppaaGreatDoor
set_option maxRecDepth 100000
open Go.RowKit Go.WideShapes

theorem rowInfo : (Tryz.prog.info? 23).map (fun i => (i.zero, i.size, i.bytes)) = some (some (.slice none 0 0), 1, 24) := by kernel_rfl

theorem IntsK.sub {k : IntKind} {w : World} {B b off : Nat} {zs : List Int} (h : IntsK k w B (some ⟨b, off, none⟩) zs) (i n : Nat) (hi : i + n ≤ zs.length) : IntsK k w B (some ⟨b, off + i, none⟩) ((zs.drop i).take n) := by
  refine ⟨by have := h.len; simp; omega, fun z hz => h.wf z (List.mem_of_mem_drop (List.mem_of_mem_take hz)), fun h0 => ?_⟩
  have hl : ((zs.drop i).take n).length = n := by simp; omega
  obtain ⟨b', off', he, hb, hc⟩ := h.at_ (by omega)
  cases he
  refine ⟨b, off + i, rfl, hb, fun j hj => ?_⟩
  rw [Nat.add_assoc, hc (i + j) (by omega)]
  simp only [List.getD, List.getElem?_take, List.getElem?_drop]
  rw [if_pos (by omega)]

theorem Clone_any (b off c : Nat) (zs : List Int) (w : World) (h : Ints w (some ⟨b, off, none⟩) zs) (hl : zs.length ≤ 1000000) :
    Calls Tryz.prog 53 #[.slice (some ⟨b, off, none⟩) zs.length c] w fun e w' => ∃ v, e = .returned v ∧ OwnI w' w.heap.size w'.heap.size v zs ∧ Below w.heap.size w w' := by
  have hm := h.len
  have H := Lib.hid h; clear h
  have L0 := lit_own w [] (by simp)
  simp only [List.map_nil, List.length_nil] at L0
  have hnil := fun (W : World) (a : Option Addr) (n c : Nat) => Lib.run_eql_slice_nil (P := Tryz.prog) W 23 3 a n c 0 0 Tryz.underlying23
  go_enter Tryz.func53, Tryz.ntmps53
  go_wp2_with (at_builtin; refine wpList_append_ints rfl (.tmp 5) (.tmp 6) _ rfl w.heap.size 3 .i64 8 Tryz.underlying23 intInfo (Nat.le_refl _) _ [] rfl L0 (w.heap.size + 1) _ zs c rfl ((H.out.alloc (Nat.le_refl _) _).mono (by omega)) (by simp; omega) (by simp) ?_)
  intro v1 w1 hown1 hg1 _
  have hb1 : Below w.heap.size w w1 := ((Below.refl w.heap.size w).alloc (Nat.le_refl _) _).grown hg1 (by simp) (by intro k hk; simp [Value.ownBlock] at hk; omega)
  have ho1 : Own w1 w.heap.size v1 zs := ⟨by simpa using hown1, H.out.wf⟩
  have X := Lib.hid (And.intro ho1 hb1)
  clear hown1 hg1 hb1 ho1 L0
  go_wp2
  go_ret
  exact ⟨_, rfl, X.out.1.within, X.out.2⟩

theorem Clone_n (b off c n : Nat) (zs : List Int) (w : World) (h : Ints w (some ⟨b, off, none⟩) zs) (hn : zs.length = n) (hl : n ≤ 1000000) :
    Calls Tryz.prog 53 #[.slice (some ⟨b, off, none⟩) n c] w fun e w' => ∃ v, e = .returned v ∧ OwnI w' w.heap.size w'.heap.size v zs ∧ Below w.heap.size w w' := by
  subst hn; exact Clone_any b off c zs w h hl

/-- The parts, from o brackets open, cur the words of the part that is begun. -/
def partsFrom : Int → List Int → List Int → List (List Int)
  | _, _, [] => []
  | o, cur, z :: zs => if o + brk z = 0 then (cur ++ [z]) :: partsFrom 0 [] zs else partsFrom (o + brk z) (cur ++ [z]) zs
theorem partsFrom_drop (o : Int) (cur zs : List Int) (k : Nat) (h : k < zs.length) :
    partsFrom o cur (zs.drop k) = if o + brk (zs.getD k 0) = 0 then (cur ++ [zs.getD k 0]) :: partsFrom 0 [] (zs.drop (k + 1)) else partsFrom (o + brk (zs.getD k 0)) (cur ++ [zs.getD k 0]) (zs.drop (k + 1)) := by
  rw [List.drop_eq_getElem_cons h, partsFrom]; simp [List.getD, List.getElem?_eq_getElem h]
def partsR (p : List Int) : List (List Int) := if validB p = true then partsFrom 0 [] p else []
theorem cut_snoc (zs : List Int) (i k : Nat) (hi : i ≤ k) (hk : k < zs.length) : (zs.drop i).take (k - i) ++ [zs.getD k 0] = (zs.drop i).take (k + 1 - i) := by
  rw [show k + 1 - i = (k - i) + 1 from by omega, List.take_add_one, List.getElem?_drop, show i + (k - i) = k from by omega]
  simp [List.getD, List.getElem?_eq_getElem hk]

theorem OwnVs.snoc {w w1 w2 : World} {lo : Nat} {v v' u : Value} {vs : List Value} {zss : List (List Int)} {zs : List Int} (h : OwnVs w lo w.heap.size v vs zss) (hb : Below w.heap.size w w1) (hu : OwnI w1 w.heap.size w1.heap.size u zs) (hlo : lo ≤ w.heap.size)
    (hg : ∀ k, k < w1.heap.size → some k ≠ v.ownBlock → w2.heap[k]? = w1.heap[k]?) (hsz : w1.heap.size ≤ w2.heap.size)
    (hrow : w2.ownsRow lo 23 1 v' (zss.length + 1) (vs ++ [u])) : OwnVs w2 lo w2.heap.size v' (vs ++ [u]) (zss ++ [zs]) := by
  have hin : ∀ q lo' hi' ys, OwnI w1 lo' hi' q ys → (q.ownBlock = none ∨ q.ownBlock ≠ v.ownBlock) → OwnI w2 lo' hi' q ys := by
    intro q lo' hi' ys hq hne
    refine ⟨⟨⟨hq.own.own.1, ?_⟩, hq.own.wf⟩, hq.lt⟩
    rcases hq.own.own.2 with h0 | ⟨g, cap, cur, rfl, hb', hh, h1⟩
    · exact .inl h0
    · refine .inr ⟨g, cap, cur, rfl, hb', (hg g (hq.own.own.lt g rfl).2 ?_).trans hh, h1⟩
      rcases hne with h | h
      · simp [Value.ownBlock] at h
      · exact h
  refine ⟨by simp [h.len], by rw [List.length_append]; exact hrow, fun g hg' => (hrow.lt g hg').2, ?_, ?_⟩
  · intro j q ys hq hy
    by_cases hj : j < vs.length
    · rw [List.getElem?_append_left hj] at hq
      rw [List.getElem?_append_left (by rw [← h.len]; exact hj)] at hy
      have h1 := h.inner j q ys hq hy
      have h2 : OwnI w1 lo w.heap.size q ys := h1.below hb
      have h3 := hin q _ _ ys h2 (by
        rcases e : q.ownBlock with _ | g
        · exact .inl rfl
        · right
          rcases h.inner_ne hq hy with h4 | h4
          · rw [h4]; simp
          · rw [← e]; exact fun e' => h4 e'.symm)
      exact ⟨h3.own, fun g hg' => by have := h3.lt g hg'; have := hb.size; omega⟩
    · have hjl : j = vs.length := by
        rcases Nat.lt_or_ge j (vs.length + 1) with h' | h'
        · omega
        · rw [List.getElem?_eq_none (by simp; omega)] at hq; cases hq
      subst hjl
      rw [List.getElem?_append_right (by omega)] at hq
      rw [List.getElem?_append_right (by rw [h.len]; omega)] at hy
      simp at hq
      simp [h.len] at hy
      subst hq; subst hy
      have h3 := hin u _ _ zs hu (by
        rcases e : u.ownBlock with _ | g
        · exact .inl rfl
        · right
          intro e'
          have h5 := h.lt g e'.symm
          have h6 := (hu.own.ge g e).1
          omega)
      exact ⟨h3.own.mono hlo, fun g hg' => by have := h3.lt g hg'; omega⟩
  · intro i j q q' g hij hq hq' e e'
    have hget : ∀ (i : Nat) q, (vs ++ [u])[i]? = some q → (i < vs.length ∧ vs[i]? = some q) ∨ (i = vs.length ∧ q = u) := by
      intro i q hq
      by_cases hi : i < vs.length
      · rw [List.getElem?_append_left hi] at hq; exact .inl ⟨hi, hq⟩
      · have hil : i = vs.length := by
          rcases Nat.lt_or_ge i (vs.length + 1) with h' | h'
          · omega
          · rw [List.getElem?_eq_none (by simp; omega)] at hq; cases hq
        subst hil
        rw [List.getElem?_append_right (by omega)] at hq
        simp at hq
        exact .inr ⟨rfl, hq.symm⟩
    have hold : ∀ (i : Nat) q, i < vs.length → vs[i]? = some q → q.ownBlock = some g → g < w.heap.size := by
      intro i q hi hq e
      have hz : zss[i]? = some (zss[i]'(by rw [← h.len]; exact hi)) := List.getElem?_eq_getElem _
      exact (h.inner i q _ hq hz).lt g e
    rcases hget i q hq with ⟨hi, h1⟩ | ⟨hi, rfl⟩ <;> rcases hget j q' hq' with ⟨hj, h2⟩ | ⟨hj, rfl⟩
    · exact h.apart i j q q' g hij h1 h2 e e'
    · have h5 := hold i q hi h1 e
      have h6 := (hu.own.ge g e').1
      omega
    · have h5 := hold j q' hj h2 e'
      have h6 := (hu.own.ge g e).1
      omega
    · omega

theorem ProgParts_any (A : Option Addr) (c : Nat) (zs : List Int) (w : World) (h : Ints w A zs) (hcap : zs.length ≤ c) :
    Calls Tryz.prog 39 #[.slice A zs.length c] w fun e w' => ∃ v, e = .returned v ∧ OwnS w' w.heap.size w'.heap.size v (partsR zs) ∧ Below w.heap.size w w' := by
  have hm := h.len
  have H := Lib.hid h; clear h
  rcases hv : validB zs with _ | _ <;> have Hv := Lib.hid hv <;> clear hv
  · have HR : Hid (partsR zs = []) := Lib.hid (by rw [partsR, if_neg (by simp [Hv.out])])
    rw [HR.out]
    go_enter Tryz.func39, Tryz.ntmps39
    go_wp2_with (go_at_call 36; refine (ProgValid_any A c zs _ H.out).mono ?_; rw [Hv.out]; rintro e w' ⟨rfl, rfl⟩)
    go_ret
    exact ⟨_, rfl, ⟨[], rfl, World.ownsRow_nil _ _ _ _, by simp [Value.ownBlock], by simp, by simp⟩, Below.refl _ _⟩
  · have hl := validB_len Hv.out
    have HR : Hid (partsR zs = partsFrom 0 [] zs) := Lib.hid (by rw [partsR, if_pos Hv.out])
    rw [HR.out]
    go_enter Tryz.func39, Tryz.ntmps39
    go_wp2_with (go_at_call 36; refine (ProgValid_any A c zs _ H.out).mono ?_; rw [Hv.out]; rintro e w' ⟨rfl, rfl⟩)
    go_loopw [3, 4, 5, 13] (fun v o b i wr => ∃ (k s : Nat) (x : Int) (vs : List Value) (zss : List (List Int)), s ≤ k ∧ k ≤ zs.length ∧ i = .int .i64 k ∧ b = .int .i64 s ∧ o = .int .i64 x ∧ -k ≤ x ∧ x ≤ k ∧ zss.length ≤ k ∧
      Below w.heap.size w wr ∧ OwnVs wr w.heap.size wr.heap.size v vs zss ∧ partsFrom 0 [] zs = zss ++ partsFrom x ((zs.drop s).take (k - s)) (zs.drop k)) (fun _ _ _ i _ => zs.length - (intOf i).toNat)
    case atStart => exact ⟨0, 0, 0, [], [], Nat.le_refl _, Nat.zero_le _, rfl, rfl, rfl, by omega, by omega, by simp, Below.refl _ _, ⟨rfl, World.ownsRow_nil _ _ _ _, by simp [Value.ownBlock], by simp, by simp⟩, by simp⟩
    case round =>
      obtain ⟨k, s, x, vs, zss, hsk, hk, rfl, rfl, rfl, hx0, hxk, hzl, hbw, hown, hall⟩ := hrel
      have hsz := hbw.size
      have Hbw := Lib.hid hbw; clear hbw
      have Hown := Lib.hid hown; clear hown
      by_cases hlt : k < zs.length
      · rw [partsFrom_drop x _ zs k hlt, cut_snoc zs s k hsk hlt] at hall
        obtain ⟨b, off, rfl, hb, hc⟩ := H.out.at_ (by omega)
        have hcell := (Hbw.out.cell (p := ⟨b, off + k, none⟩) hb).trans (hc k hlt)
        clear hc
        have hbd := brk_bd (zs.getD k 0)
        generalize zs.getD k 0 = z at *
        have Hall := Lib.hid hall; clear hall
        by_cases h0 : x + brk z = 0
        · have h0b : ((x + brk z) == 0) = true := by simpa using h0
          have H0 := Lib.hid h0; clear h0
          have HI := Lib.hid (((H.out.below Hbw.out).mono Hbw.out.size).sub s (k + 1 - s) (by omega))
          have HIl : Hid (((zs.drop s).take (k + 1 - s)).length = k + 1 - s) := Lib.hid (by simp; omega)
          generalize (zs.drop s).take (k + 1 - s) = part at *
          go_wp2_with (go_at_call 68; refine (bracketChange_any _ _).mono ?_; rintro e w' ⟨rfl, rfl⟩)
          refine (Clone_n b (off + s) (c - s) (k + 1 - s) part _ HI.out HIl.out (by omega)).mono ?_
          rintro e w1 ⟨u, rfl, hou, hb1⟩
          have hsz1 := hb1.size
          have Hou := Lib.hid hou; clear hou
          have Hb1 := Lib.hid hb1; clear hb1
          obtain ⟨A', c', rfl, _⟩ := Hou.out.own.ints
          have Hrow : Hid (w1.ownsRow w.heap.size 23 1 _ zss.length vs) := Lib.hid (Hown.out.row.kept (row := none) (only_of_below Hb1.out none) (by
            rcases e : Value.ownBlock _ with _ | g
            · exact .inl rfl
            · exact .inr (by simp)))
          have Hcn : Hid ((w1.alloc (.cells #[.slice A' part.length c'] 23)).cell? ⟨w1.heap.size, 0, none⟩ = some (.slice A' part.length c')) := Lib.hid (by rw [cell_of_row _ _ _ _ _ _ (heap_alloc_new w1 _)]; rfl)
          go_wp2_with (at_builtin; (refine wpList_append_one rfl (.tmp 24) (.tmp 31) _ rfl w.heap.size 23 _ 24 Tryz.underlying38 rowInfo (by omega) rfl _ zss.length vs rfl (Hrow.out.alloc _) w1.heap.size 1 (.slice A' part.length c') rfl Hcn.out rfl (by omega) (by simp; omega) ?_))
          intro v2 w2 hrow2 hg2 _
          have hb2 : Below w.heap.size w w2 := ((Hbw.out.trans (Hb1.out.mono hsz)).alloc (by omega) _).grown hg2 (by simp; omega) (fun g hg => (Hown.out.row.lt g hg).1)
          have hsz2 : w1.heap.size ≤ w2.heap.size := by have := hg2.size; simp at this; omega
          have hvs := Hown.out.snoc Hb1.out Hou.out hsz (fun q hq hne => (hg2.block q (by simp; omega) hne).trans (Below.heap_alloc w1 _ q hq)) hsz2 hrow2
          have X := Lib.hid (And.intro hb2 hvs)
          clear hb2 hvs hrow2 hg2 Hrow Hcn Hou Hb1 hsz2
          go_wp2
          go_roundw
          case rel => exact ⟨k + 1, k + 1, 0, _, zss ++ [part], Nat.le_refl _, by omega, by go_num, by go_num, by rw [H0.out], by omega, by omega, by simp; omega, X.out.1, X.out.2, by rw [Hall.out, if_pos H0.out, List.append_assoc]; simp⟩
          case measure => simp [intOf]; omega
        · have h0b : ((x + brk z) == 0) = false := by simpa using h0
          have H0 := Lib.hid h0; clear h0
          go_wp2_with (go_at_call 68; refine (bracketChange_any _ _).mono ?_; rintro e w' ⟨rfl, rfl⟩)
          go_roundw
          case rel => exact ⟨k + 1, s, x + brk z, vs, zss, by omega, by omega, by go_num, rfl, rfl, by omega, by omega, by omega, Hbw.out, Hown.out, by rw [Hall.out, if_neg H0.out]⟩
          case measure => simp [intOf]; omega
      · have Hall := Lib.hid hall; clear hall
        go_wp2
        go_ret
        refine ⟨_, rfl, ⟨vs, ?_⟩, Hbw.out⟩
        have hd : zs.drop k = [] := List.drop_eq_nil_of_le (by omega)
        rw [Hall.out, hd, partsFrom, List.append_nil]
        exact Hown.out
end Go.Proofs.YtjblecinkedppaaGreatDoor
namespace Go.Proofs.YtjblecinkedppaaGreatDoor
set_option maxRecDepth 100000
open Go.RowKit Go.WideShapes

/-- From o brackets open: after how many words none is open. -/
def cutAt : Int → List Int → Option Nat
  | _, [] => none
  | o, z :: r => if o + brk z = 0 then some 1 else (cutAt (o + brk z) r).map (· + 1)
theorem cutAt_fits {o : Int} {l : List Int} (h : fitsFrom o l = true) (hl : l ≠ []) : ∃ n, cutAt o l = some n ∧ 1 ≤ n ∧ n ≤ l.length ∧ fitsFrom 0 (l.drop n) = true := by
  induction l generalizing o with
  | nil => exact absurd rfl hl
  | cons z r ih =>
    rw [fitsFrom] at h
    by_cases hn : o + brk z < 0
    · simp [hn] at h
    · rw [if_neg hn] at h
      by_cases h0 : o + brk z = 0
      · exact ⟨1, by rw [cutAt, if_pos h0], by omega, by simp, by rw [h0] at h; simpa using h⟩
      · have hr : r ≠ [] := by
          intro e; subst e
          simp [fitsFrom] at h
          exact h0 h
        obtain ⟨n, h1, h2, h3, h4⟩ := ih h hr
        exact ⟨n + 1, by rw [cutAt, if_neg h0, h1]; rfl, by omega, by simp; omega, by simpa using h4⟩
theorem partsFrom_cut {o : Int} {l cur : List Int} {n : Nat} (h : cutAt o l = some n) : partsFrom o cur l = (cur ++ l.take n) :: partsFrom 0 [] (l.drop n) := by
  induction l generalizing o cur n with
  | nil => simp [cutAt] at h
  | cons z r ih =>
    rw [cutAt] at h
    rw [partsFrom]
    by_cases h0 : o + brk z = 0
    · rw [if_pos h0] at h ⊢
      injection h with h; subst h
      simp
    · rw [if_neg h0] at h ⊢
      rcases h1 : cutAt (o + brk z) r with _ | m
      · rw [h1] at h; simp at h
      · rw [h1] at h
        simp at h; subst h
        rw [ih h1]; simp
theorem cutAt_one {l : List Int} {z : Int} {r : List Int} (hl : l = z :: r) (h : fitsFrom 0 l = true) (hz : z ≠ 1012) : cutAt 0 l = some 1 := by
  subst hl
  rw [fitsFrom] at h
  have hb : brk z = 0 := by
    rcases brk_cases z with ⟨h1, _⟩ | ⟨_, h2⟩ | ⟨_, _, h3⟩
    · exact absurd h1 hz
    · rw [h2] at h; simp at h
    · exact h3
  rw [cutAt, if_pos (by omega)]
theorem cutAt_drop (o : Int) (zs : List Int) (k : Nat) (h : k < zs.length) : cutAt o (zs.drop k) = if o + brk (zs.getD k 0) = 0 then some 1 else (cutAt (o + brk (zs.getD k 0)) (zs.drop (k + 1))).map (· + 1) := by
  rw [List.drop_eq_getElem_cons h, cutAt]; simp [List.getD, List.getElem?_eq_getElem h]

theorem l1End_any (A : Option Addr) (c s n e0 : Nat) (zs : List Int) (w : World) (h : Ints w A zs) (hl : zs.length ≤ 2000000) (hc : cutAt 0 (zs.drop s) = some n) (hn : 1 ≤ n ∧ s + n ≤ zs.length) (he : e0 + 1 = s + n) :
    Calls Tryz.prog 76 #[.slice A zs.length c, .int .i64 s] w fun e w' => e = .returned (.int .i64 e0) ∧ w = w' := by
  obtain ⟨hm, -, hr⟩ := h
  have Hr := Lib.hid hr; clear hr
  have Hc := Lib.hid hc; clear hc
  have he1 : e0 + 1 ≤ s + n := by omega
  have he2 : s + n ≤ e0 + 1 := by omega
  clear he
  go_enter Tryz.func76, Tryz.ntmps76
  go_wp2
  go_loop [5, 6] (fun o i => ∃ (k m : Nat) (x : Int), s ≤ k ∧ k < s + n ∧ i = .int .i64 k ∧ o = .int .i64 x ∧ -(k - s : Int) ≤ x ∧ x ≤ k - s ∧ cutAt x (zs.drop k) = some m ∧ k + m ≤ s + n ∧ s + n ≤ k + m) (fun _ i => zs.length - (intOf i).toNat)
  case atStart => exact ⟨s, n, 0, by omega, by omega, rfl, rfl, by omega, by omega, Hc.out, by omega, by omega⟩
  case round =>
    clear Hc
    obtain ⟨k, m, x, hsk, hkn, rfl, rfl, hx0, hx1, hcut, hm1, hm2⟩ := hrel
    have hlt : k < zs.length := by omega
    rw [cutAt_drop x zs k hlt] at hcut
    obtain ⟨b, off, rfl, hb, hcc⟩ := Hr.out (by omega)
    have hcell := hcc k hlt
    clear hcc
    have hbd := brk_bd (zs.getD k 0)
    generalize zs.getD k 0 = z at *
    have Hcut := Lib.hid hcut; clear hcut
    have hltI : (k : Int) < zs.length := by omega
    have hfin : x + brk z = 0 → k = e0 := by
      intro h0
      have h1 := Hcut.out
      rw [if_pos h0] at h1; injection h1 with h1
      omega
    have hnext : x + brk z ≠ 0 → ∃ m', cutAt (x + brk z) (zs.drop (k + 1)) = some m' ∧ m' + 1 = m := by
      intro h0
      have h1 := Hcut.out
      rw [if_neg h0] at h1
      rcases h2 : cutAt (x + brk z) (zs.drop (k + 1)) with _ | m'
      · rw [h2] at h1; simp at h1
      · rw [h2] at h1; simp at h1; exact ⟨m', rfl, h1⟩
    have Hfin := Lib.hid hfin; clear hfin
    have Hnext := Lib.hid hnext; clear hnext
    have hpos : ∀ m' : Nat, cutAt (x + brk z) (zs.drop (k + 1)) = some m' → 1 ≤ m' := by
      intro m' h1
      rcases hd : zs.drop (k + 1) with _ | ⟨y, r⟩
      · rw [hd] at h1; simp [cutAt] at h1
      · rw [hd, cutAt] at h1
        split at h1
        · injection h1 with h1; omega
        · rcases h2 : cutAt (x + brk z + brk y) r with _ | q
          · rw [h2] at h1; simp at h1
          · rw [h2] at h1; simp at h1; omega
    have Hpos := Lib.hid hpos; clear hpos
    have Hcs := Lib.hid (brk_cases z)
    clear hbd
    go_wp2
    · have hbz : x + brk z = x + 1 := by rw [show z = 1012 from by simpa using ‹(z == 1012) = true›]; rfl
      have h0 : x + 1 = 0 := by simpa using ‹(x + 1 == 0) = true›
      have hke := Hfin.out (hbz.trans h0)
      go_ret
      exact ⟨ret_i64 (by rw [hke]), rfl⟩
    · have hbz : x + brk z = x + 1 := by rw [show z = 1012 from by simpa using ‹(z == 1012) = true›]; rfl
      have h0 : x + 1 ≠ 0 := by simpa using ‹(x + 1 == 0) = false›
      obtain ⟨m', h1, h2⟩ := Hnext.out (by rw [hbz]; exact h0)
      have h3 := Hpos.out m' h1
      rw [hbz] at h1
      have H1 := Lib.hid h1; clear h1 hbz
      have H0 := Lib.hid h0; clear h0
      have h2' : m' + 1 ≤ m := by omega
      have h2'' : m ≤ m' + 1 := by omega
      clear h2
      go_round
      case rel => exact ⟨k + 1, m', x + 1, by omega, by omega, by go_num, rfl, by omega, by omega, H1.out, by omega, by omega⟩
      case measure => simp [intOf]; omega
    · have hbz : x + brk z = x - 1 := by rw [show z = 1013 from by simpa using ‹(z == 1013) = true›]; rfl
      have h0 : x - 1 = 0 := by simpa using ‹(x - 1 == 0) = true›
      have hke := Hfin.out (hbz.trans h0)
      go_ret
      exact ⟨ret_i64 (by rw [hke]), rfl⟩
    · have hbz : x + brk z = x - 1 := by rw [show z = 1013 from by simpa using ‹(z == 1013) = true›]; rfl
      have h0 : x - 1 ≠ 0 := by simpa using ‹(x - 1 == 0) = false›
      obtain ⟨m', h1, h2⟩ := Hnext.out (by rw [hbz]; exact h0)
      have h3 := Hpos.out m' h1
      rw [hbz] at h1
      have H1 := Lib.hid h1; clear h1 hbz
      have H0 := Lib.hid h0; clear h0
      have h2' : m' + 1 ≤ m := by omega
      have h2'' : m ≤ m' + 1 := by omega
      clear h2
      go_round
      case rel => exact ⟨k + 1, m', x - 1, by omega, by omega, by go_num, rfl, by omega, by omega, H1.out, by omega, by omega⟩
      case measure => simp [intOf]; omega
    · have hbz : x + brk z = x := by 
        have h1 : z ≠ 1012 := by simpa using ‹(z == 1012) = false›
        have h2 : z ≠ 1013 := by simpa using ‹(z == 1013) = false›
        simp [brk, h1, h2]
      have h0 : x = 0 := by simpa using ‹(x == 0) = true›
      have hke := Hfin.out (hbz.trans h0)
      go_ret
      exact ⟨ret_i64 (by rw [hke]), rfl⟩
    · have hbz : x + brk z = x := by 
        have h1 : z ≠ 1012 := by simpa using ‹(z == 1012) = false›
        have h2 : z ≠ 1013 := by simpa using ‹(z == 1013) = false›
        simp [brk, h1, h2]
      have h0 : x ≠ 0 := by simpa using ‹(x == 0) = false›
      obtain ⟨m', h1, h2⟩ := Hnext.out (by rw [hbz]; exact h0)
      have h3 := Hpos.out m' h1
      rw [hbz] at h1
      have H1 := Lib.hid h1; clear h1 hbz
      have H0 := Lib.hid h0; clear h0
      have h2' : m' + 1 ≤ m := by omega
      have h2'' : m ≤ m' + 1 := by omega
      clear h2
      go_round
      case rel => exact ⟨k + 1, m', x, by omega, by omega, by go_num, rfl, by omega, by omega, H1.out, by omega, by omega⟩
      case measure => simp [intOf]; omega

theorem wpList_append_intsN {P : Program} {w : World} {ops : Array Oper} {rest : List Oper} {o : Oper} {a : Act} {Q : Exit → Act → World → Prop} (hgd : o.guard = none) (s x : Operand) (t : TypeId)
    (ho : o.op = .call { callee := .builtin .append, args := #[s, x], argTypes := #[t, t] })
    (base : Nat) (e : TypeId) (k : IntKind) (by_ : Nat) (ht : P.underlying t = some (.slice e)) (hinfo : (P.info? e).map (fun i => (i.zero, i.size, i.bytes)) = some (some (.int k 0), 1, by_)) (hby : by_ ≤ 8)
    (v : Value) (zs : List Int) (hs : a.eval s = v) (hown : w.ownsRow base e 1 v zs.length (zs.map (Value.int k)))
    (B : Nat) (A : Option Addr) (ys : List Int) (m c : Nat) (hm : ys.length = m) (hx : a.eval x = .slice A m c) (hr : IntsK k w B A ys) (hlen : zs.length + m ≤ 1000000000) (hbase : base ≤ w.heap.size)
    (h : ∀ v' w', w'.ownsRow base e 1 v' (zs ++ ys).length ((zs ++ ys).map (Value.int k)) → w.grownBy w' v.ownBlock → (v'.ownBlock = v.ownBlock ∨ v'.ownBlock = some w.heap.size) → wpList P ops Q rest (a.put o.dst v') w') :
    wpList P ops Q (o :: rest) a w := by
  subst hm
  exact wpList_append_ints hgd s x t ho base e k by_ ht hinfo hby v zs hs hown B A ys c hx hr hlen hbase h

theorem specParts_any (A : Option Addr) (c : Nat) (zs : List Int) (w : World) (h : Ints w A zs) (hcap : zs.length ≤ c) :
    Calls Tryz.prog 51 #[.slice A zs.length c] w fun e w' => ∃ v, e = .returned v ∧ OwnS w' w.heap.size w'.heap.size v (partsR zs) ∧ Below w.heap.size w w' := by
  have hm := h.len
  have H := Lib.hid h; clear h
  have E0 : ∀ W : World, OwnVs (W.alloc (.cells #[] 23)) W.heap.size (W.alloc (.cells #[] 23)).heap.size (.slice (some ⟨W.heap.size, 0, none⟩) 0 0) [] [] := fun W => by
    have h := World.ownsRow_lit (base := W.heap.size) (e := 23) (size := 1) W #[] 0 (Nat.le_refl _) (by unfold maxLen; omega) (by simp)
    exact ⟨rfl, h, fun g hg => by simp [Value.ownBlock] at hg; simp; omega, by simp, by simp⟩
  have HE := Lib.hid (E0 w); clear E0
  rcases hv : validB zs with _ | _ <;> have Hv := Lib.hid hv <;> clear hv
  · have HR : Hid (partsR zs = []) := Lib.hid (by rw [partsR, if_neg (by simp [Hv.out])])
    rw [HR.out]
    by_cases hz : zs.length = 0
    · have hzl : ¬ (0 : Int) < zs.length := by omega
      have Hz := Lib.hid hz; clear hz
      go_enter Tryz.func51, Tryz.ntmps51
      go_wp2
      go_loopw [3, 4] (fun v i wr => v = .slice (some ⟨w.heap.size, 0, none⟩) 0 0 ∧ i = .int .i64 0 ∧ wr = w.alloc (.cells #[] 23)) (fun _ _ _ => 0)
      case atStart => exact ⟨rfl, rfl, rfl⟩
      case round =>
        obtain ⟨rfl, rfl, rfl⟩ := hrel
        go_wp2
        go_ret
        exact ⟨_, rfl, ⟨[], HE.out⟩, (Below.refl _ _).alloc (Nat.le_refl _) _⟩
    · have hzl : (0 : Int) < zs.length := by omega
      go_enter Tryz.func51, Tryz.ntmps51
      go_wp2
      go_loopw [3, 4] (fun v i wr => v = .slice (some ⟨w.heap.size, 0, none⟩) 0 0 ∧ i = .int .i64 0 ∧ wr = w.alloc (.cells #[] 23)) (fun _ _ _ => 0)
      case atStart => exact ⟨rfl, rfl, rfl⟩
      case round =>
        obtain ⟨rfl, rfl, rfl⟩ := hrel
        go_wp2_with (go_at_call 60; refine (specValid_any A c zs _ (H.out.step ((Below.refl _ _).alloc (Nat.le_refl _) _))).mono ?_; rw [Hv.out]; rintro e w' ⟨rfl, rfl⟩)
        go_ret
        exact ⟨_, rfl, ⟨[], HE.out⟩, (Below.refl _ _).alloc (Nat.le_refl _) _⟩
  · have hl := validB_len Hv.out
    have HR : Hid (partsR zs = partsFrom 0 [] zs) := Lib.hid (by rw [partsR, if_pos Hv.out])
    rw [HR.out]
    have Hf : Hid (fitsFrom 0 zs = true) := Lib.hid (by have := Hv.out; simp [validB] at this; exact this.2)
    go_enter Tryz.func51, Tryz.ntmps51
    go_wp2
    go_loopw [3, 4] (fun v i wr => ∃ (s : Nat) (vs : List Value) (zss : List (List Int)), s ≤ zs.length ∧ i = .int .i64 s ∧ zss.length ≤ s ∧ w.heap.size ≤ wr.heap.size ∧
      Below w.heap.size w wr ∧ OwnVs wr w.heap.size wr.heap.size v vs zss ∧ fitsFrom 0 (zs.drop s) = true ∧ partsFrom 0 [] zs = zss ++ partsFrom 0 [] (zs.drop s)) (fun _ i _ => zs.length - (intOf i).toNat)
    case atStart => exact ⟨0, [], [], Nat.zero_le _, rfl, by simp, by simp, (Below.refl _ _).alloc (Nat.le_refl _) _, HE.out, Hf.out, by simp⟩
    case round =>
      clear HE Hf
      obtain ⟨s, vs, zss, hs, rfl, hzl, hsz, hbw, hown, hfit, hall⟩ := hrel
      have Hbw := Lib.hid hbw; clear hbw
      have Hown := Lib.hid hown; clear hown
      by_cases hlt : s < zs.length
      · obtain ⟨n, hcut, hn1, hn2, hfit'⟩ := cutAt_fits hfit (by intro e; have := congrArg List.length e; simp at this; omega)
        rw [List.length_drop] at hn2
        rw [List.drop_drop] at hfit'
        rw [partsFrom_cut hcut, List.drop_drop, List.nil_append] at hall
        obtain ⟨b, off, rfl, hb, hc⟩ := H.out.at_ (by omega)
        have hcell := (Hbw.out.cell (p := ⟨b, off + s, none⟩) hb).trans (hc s hlt)
        clear hc
        obtain ⟨e0, he0⟩ : ∃ e0, e0 + 1 = s + n := ⟨s + n - 1, by omega⟩
        have hone : zs.getD s 0 ≠ 1012 → n = 1 := by
          intro hz
          have h1 := cutAt_one (List.drop_eq_getElem_cons hlt) hfit (by simpa [List.getD, List.getElem?_eq_getElem hlt] using hz)
          rw [h1] at hcut; injection hcut with h; exact h.symm
        have Hone := Lib.hid hone; clear hone
        generalize zs.getD s 0 = z at *
        have Hall := Lib.hid hall; clear hall
        have Hfit' := Lib.hid hfit'; clear hfit' hfit
        have Hcut := Lib.hid hcut; clear hcut
        have HH := Lib.hid (IntsK.mono (H.out.below Hbw.out) Hbw.out.size)
        have HI := Lib.hid (HH.out.sub s n (by omega))
        have HIl : Hid (((zs.drop s).take n).length = n) := Lib.hid (by simp; omega)
        have hsub : n ≤ e0 + 1 - s := by omega
        have hsub' : e0 + 1 - s ≤ n := by omega
        have he1 : e0 + 1 ≤ s + n := by omega
        have he2 : s + n ≤ e0 + 1 := by omega
        have He0 := Lib.hid he0; clear he0
        have L0 := Lib.hid (lit_own wr [] (by simp))
        generalize (zs.drop s).take n = part at *
        have hltI : (s : Int) < zs.length := by omega
        by_cases hz : z = 1012
        · have hzb : (z == 1012) = true := by simpa using hz
          clear hz Hone
          go_wp2_with (first
            | (go_at_call 60; refine (specValid_any _ c zs _ HH.out).mono ?_; rw [Hv.out]; rintro e w' ⟨rfl, rfl⟩)
            | (go_at_call 76; refine (l1End_any _ c s n e0 zs _ HH.out (by omega) Hcut.out (by omega) He0.out).mono ?_; rintro e w' ⟨rfl, rfl⟩)
            | (at_builtin; refine wpList_append_intsN rfl (.tmp 25) (.tmp 30) _ rfl wr.heap.size 3 .i64 8 Tryz.underlying23 intInfo (Nat.le_refl _) _ [] rfl L0.out (wr.heap.size + 1) _ part (e0 + 1 - s) _ (HIl.out.trans (by omega)) rfl ((HI.out.alloc (Nat.le_refl _) _).mono (by omega)) (by simp; omega) (by simp) ?_))
          intro v1 w1 hown1 hg1 _
          have hb1 : Below wr.heap.size wr w1 := ((Below.refl wr.heap.size wr).alloc (Nat.le_refl _) _).grown hg1 (by simp) (by intro k hk; simp [Value.ownBlock] at hk; omega)
          have ho1 : OwnI w1 wr.heap.size w1.heap.size v1 part := (⟨by simpa using hown1, HI.out.wf⟩ : Own w1 wr.heap.size v1 part).within
          have Hb1 := Lib.hid hb1
          have hsz1 := hb1.size
          have Hou := Lib.hid ho1
          clear hown1 hg1 hb1 ho1
          obtain ⟨A', c', rfl, _⟩ := Hou.out.own.ints
          have Hrow : Hid (w1.ownsRow w.heap.size 23 1 _ zss.length vs) := Lib.hid (Hown.out.row.kept (row := none) (only_of_below Hb1.out none) (by
            rcases e : Value.ownBlock _ with _ | g
            · exact .inl rfl
            · exact .inr (by simp)))
          have Hcn : Hid ((w1.alloc (.cells #[.slice A' part.length c'] 23)).cell? ⟨w1.heap.size, 0, none⟩ = some (.slice A' part.length c')) := Lib.hid (by rw [cell_of_row _ _ _ _ _ _ (heap_alloc_new w1 _)]; rfl)
          go_wp2_with (at_builtin; refine wpList_append_one rfl (.tmp 24) (.tmp 32) _ rfl w.heap.size 23 _ 24 Tryz.underlying38 rowInfo (by omega) rfl _ zss.length vs rfl (Hrow.out.alloc _) w1.heap.size 1 (.slice A' part.length c') rfl Hcn.out rfl (by omega) (by simp; omega) ?_)
          intro v2 w2 hrow2 hg2 _
          have hb2 : Below w.heap.size w w2 := ((Hbw.out.trans (Hb1.out.mono hsz)).alloc (by omega) _).grown hg2 (by simp; omega) (fun g hg => (Hown.out.row.lt g hg).1)
          have hsz2 : w1.heap.size ≤ w2.heap.size := by have := hg2.size; simp at this; omega
          have hvs := Hown.out.snoc Hb1.out Hou.out hsz (fun q hq hne => (hg2.block q (by simp; omega) hne).trans (Below.heap_alloc w1 _ q hq)) hsz2 hrow2
          have X := Lib.hid (And.intro hb2 hvs)
          clear hb2 hvs hrow2 hg2 Hrow Hcn Hou Hb1
          go_wp2
          go_roundw
          case rel => exact ⟨s + n, _, zss ++ [part], by omega, by rw [← He0.out]; go_num, by simp; omega, by omega, X.out.1, X.out.2, Hfit'.out, by rw [Hall.out, List.append_assoc]; rfl⟩
          case measure => simp [intOf]; omega
        · have hzb : (z == 1012) = false := by simpa using hz
          obtain rfl : n = 1 := Hone.out hz
          obtain rfl : e0 = s := by omega
          clear hz Hone
          go_wp2_with (first
            | (go_at_call 60; refine (specValid_any _ c zs _ HH.out).mono ?_; rw [Hv.out]; rintro e w' ⟨rfl, rfl⟩)
            | (at_builtin; refine wpList_append_intsN rfl (.tmp 25) (.tmp 30) _ rfl wr.heap.size 3 .i64 8 Tryz.underlying23 intInfo (Nat.le_refl _) _ [] rfl L0.out (wr.heap.size + 1) _ part 1 _ HIl.out rfl ((HI.out.alloc (Nat.le_refl _) _).mono (by omega)) (by simp) (by simp) ?_))
          intro v1 w1 hown1 hg1 _
          have hb1 : Below wr.heap.size wr w1 := ((Below.refl wr.heap.size wr).alloc (Nat.le_refl _) _).grown hg1 (by simp) (by intro k hk; simp [Value.ownBlock] at hk; omega)
          have ho1 : OwnI w1 wr.heap.size w1.heap.size v1 part := (⟨by simpa using hown1, HI.out.wf⟩ : Own w1 wr.heap.size v1 part).within
          have Hb1 := Lib.hid hb1
          have hsz1 := hb1.size
          have Hou := Lib.hid ho1
          clear hown1 hg1 hb1 ho1
          obtain ⟨A', c', rfl, _⟩ := Hou.out.own.ints
          have Hrow : Hid (w1.ownsRow w.heap.size 23 1 _ zss.length vs) := Lib.hid (Hown.out.row.kept (row := none) (only_of_below Hb1.out none) (by
            rcases e : Value.ownBlock _ with _ | g
            · exact .inl rfl
            · exact .inr (by simp)))
          have Hcn : Hid ((w1.alloc (.cells #[.slice A' part.length c'] 23)).cell? ⟨w1.heap.size, 0, none⟩ = some (.slice A' part.length c')) := Lib.hid (by rw [cell_of_row _ _ _ _ _ _ (heap_alloc_new w1 _)]; rfl)
          go_wp2_with (at_builtin; refine wpList_append_one rfl (.tmp 24) (.tmp 32) _ rfl w.heap.size 23 _ 24 Tryz.underlying38 rowInfo (by omega) rfl _ zss.length vs rfl (Hrow.out.alloc _) w1.heap.size 1 (.slice A' part.length c') rfl Hcn.out rfl (by omega) (by simp; omega) ?_)
          intro v2 w2 hrow2 hg2 _
          have hb2 : Below w.heap.size w w2 := ((Hbw.out.trans (Hb1.out.mono hsz)).alloc (by omega) _).grown hg2 (by simp; omega) (fun g hg => (Hown.out.row.lt g hg).1)
          have hsz2 : w1.heap.size ≤ w2.heap.size := by have := hg2.size; simp at this; omega
          have hvs := Hown.out.snoc Hb1.out Hou.out hsz (fun q hq hne => (hg2.block q (by simp; omega) hne).trans (Below.heap_alloc w1 _ q hq)) hsz2 hrow2
          have X := Lib.hid (And.intro hb2 hvs)
          clear hb2 hvs hrow2 hg2 Hrow Hcn Hou Hb1
          go_wp2
          go_roundw
          case rel => exact ⟨e0 + 1, _, zss ++ [part], by omega, by go_num, by simp; omega, by omega, X.out.1, X.out.2, Hfit'.out, by rw [Hall.out, List.append_assoc]; rfl⟩
          case measure => simp [intOf]; omega
      · have Hall := Lib.hid hall; clear hall hfit
        have hltI : ¬ (s : Int) < zs.length := by omega
        go_wp2
        go_ret
        refine ⟨_, rfl, ⟨vs, ?_⟩, Hbw.out⟩
        have hd : zs.drop s = [] := List.drop_eq_nil_of_le (by omega)
        rw [Hall.out, hd, partsFrom, List.append_nil]
        exact Hown.out

theorem partsFrom_sz (o : Int) (cur zs : List Int) : szS (partsFrom o cur zs) ≤ cur.length + zs.length := by
  induction zs generalizing o cur with
  | nil => simp [partsFrom, szS]
  | cons z r ih =>
    rw [partsFrom]
    split
    · rw [szS]; have := ih 0 []; simp at this ⊢; omega
    · have := ih (o + brk z) (cur ++ [z]); simp at this ⊢; omega
theorem partsR_len (p : List Int) : szS (partsR p) ≤ 1000000 := by
  unfold partsR
  split
  · rename_i h
    have h1 := validB_len h
    have h2 := partsFrom_sz 0 [] p
    simp at h2; omega
  · simp [szS]
theorem ProgParts_I (v0 : Value) (x0 : List Int) (w : World) (h0 : RdI w v0 x0) (_ : x0.length ≤ 1048576) (y0 : List (List Int)) (hR : partsR x0 = y0) :
    Calls Tryz.prog 39 #[v0] w fun e w' => ∃ u, e = .returned u ∧ OwnS w' w.heap.size w'.heap.size u y0 ∧ Below w.heap.size w w' := by
  obtain ⟨A, c, rfl, hi0, hc⟩ := h0
  refine (ProgParts_any A c x0 w hi0 hc).mono ?_
  rw [hR]
  rintro e w' ⟨u, rfl, ho, hb⟩
  exact ⟨u, rfl, ho, hb⟩
theorem ProgParts_S (v0 : Value) (x0 : List Int) (w : World) (h0 : RdI w v0 x0) (_ : x0.length ≤ 1048576) (y0 : List (List Int)) (hR : partsR x0 = y0) :
    Calls Tryz.prog 51 #[v0] w fun e w' => ∃ u, e = .returned u ∧ OwnS w' w.heap.size w'.heap.size u y0 ∧ Below w.heap.size w w' := by
  obtain ⟨A, c, rfl, hi0, hc⟩ := h0
  refine (specParts_any A c x0 w hi0 hc).mono ?_
  rw [hR]
  rintro e w' ⟨u, rfl, ho, hb⟩
  exact ⟨u, rfl, ho, hb⟩
end Go.Proofs.YtjblecinkedppaaGreatDoor

/- Parts of programs: pure facts. -/
namespace Go.Proofs.YtjblecinkedppaaGreatDoor
set_option maxRecDepth 100000
open Go.RowKit Go.WideShapes

theorem cutAt_take {o : Int} {l : List Int} {n : Nat} (h : cutAt o l = some n) : cutAt o (l.take n) = some n ∧ (fitsFrom o l = true → fitsFrom o (l.take n) = true) := by
  induction l generalizing o n with
  | nil => simp [cutAt] at h
  | cons z r ih =>
    rw [cutAt] at h
    by_cases h0 : o + brk z = 0
    · rw [if_pos h0] at h
      injection h with h; subst h
      simp [cutAt, h0, fitsFrom]
    · rw [if_neg h0] at h
      rcases h1 : cutAt (o + brk z) r with _ | m
      · rw [h1] at h; simp at h
      · rw [h1] at h
        simp at h; subst h
        obtain ⟨h2, h3⟩ := ih h1
        refine ⟨by rw [List.take_succ_cons, cutAt, if_neg h0, h2]; rfl, fun hf => ?_⟩
        rw [fitsFrom] at hf
        rw [List.take_succ_cons, fitsFrom]
        by_cases hn : o + brk z < 0
        · simp [hn] at hf
        · rw [if_neg hn] at hf ⊢; exact h3 hf
theorem parts_all (N : Nat) : ∀ l : List Int, l.length ≤ N → fitsFrom 0 l = true →
    (∀ q ∈ partsFrom 0 [] l, fitsFrom 0 q = true ∧ cutAt 0 q = some q.length ∧ q.length ≤ l.length ∧ ∀ z ∈ q, z ∈ l) ∧ (partsFrom 0 [] l).flatten = l := by
  induction N with
  | zero =>
    intro l hl _
    have : l = [] := List.eq_nil_of_length_eq_zero (by omega)
    subst this; simp [partsFrom]
  | succ N ih =>
    intro l hl hf
    by_cases hn : l = []
    · subst hn; simp [partsFrom]
    · obtain ⟨n, hc, h1, h2, h3⟩ := cutAt_fits hf hn
      rw [partsFrom_cut hc]
      obtain ⟨i1, i2⟩ := ih (l.drop n) (by simp; omega) h3
      obtain ⟨t1, t2⟩ := cutAt_take hc
      have hlen : (l.take n).length = n := by simp; omega
      refine ⟨?_, ?_⟩
      · intro q hq
        rw [List.nil_append, List.mem_cons] at hq
        rcases hq with rfl | hq
        · exact ⟨t2 hf, by rw [hlen]; exact t1, by omega, fun z hz => List.mem_of_mem_take hz⟩
        · obtain ⟨j1, j2, j3, j4⟩ := i1 q hq
          exact ⟨j1, j2, by simp at j3; omega, fun z hz => List.mem_of_mem_drop (j4 z hz)⟩
      · rw [List.nil_append, List.flatten_cons, i2, List.take_append_drop]
theorem parts_ok {p : List Int} (hp : validB p = true) : (∀ q ∈ partsR p, validB q = true ∧ partsR q = [q] ∧ q.length ≤ 60) ∧ (partsR p).flatten = p := by
  have hl := validB_len hp
  have hp' := hp
  simp only [validB, Bool.and_eq_true, decide_eq_true_eq] at hp
  obtain ⟨h1, h2⟩ := parts_all p.length p (Nat.le_refl _) hp.2
  rw [partsR, if_pos hp']
  refine ⟨fun q hq => ?_, h2⟩
  obtain ⟨j1, j2, j3, j4⟩ := h1 q hq
  have hv : validB q = true := by
    simp only [validB, Bool.and_eq_true, decide_eq_true_eq]
    exact ⟨⟨by omega, List.all_eq_true.2 fun z hz => List.all_eq_true.1 hp.1.2 z (j4 z hz)⟩, j1⟩
  refine ⟨hv, ?_, by omega⟩
  rw [partsR, if_pos hv, partsFrom_cut j2]
  simp [partsFrom]
theorem partsR_bad {p : List Int} (hp : validB p = false) : partsR p = [] := by rw [partsR, if_neg (by simp [hp])]
theorem partsR_count {p : List Int} : (partsR p).length ≤ 60 := by
  unfold partsR
  split
  · rename_i h
    have hl := validB_len h
    have : ∀ (l : List Int) (o : Int) (cur : List Int), (partsFrom o cur l).length ≤ l.length := by
      intro l
      induction l with
      | nil => simp [partsFrom]
      | cons z r ih =>
        intro o cur
        rw [partsFrom]; split
        · have := ih 0 []; simp; omega
        · have := ih (o + brk z) (cur ++ [z]); simp; omega
    have := this p 0 []
    omega
  · simp
theorem flatten_take_succ (zss : List (List Int)) (k : Nat) (s : List Int) (h : zss[k]? = some s) : (zss.take (k + 1)).flatten = (zss.take k).flatten ++ s := by
  rw [List.take_add_one, h]; simp
theorem flatten_take_le (zss : List (List Int)) (k : Nat) : (zss.take k).flatten.length ≤ zss.flatten.length := by
  conv => rhs; rw [← List.take_append_drop k zss]
  rw [List.flatten_append, List.length_append]; omega
end Go.Proofs.YtjblecinkedppaaGreatDoor
