/- Several texts in one. -/
import Derived.Test.YtjblecinkedppaaGreatDoorBo
import Derived.Test.YtjblecinkedppaaGreatDoorB5
import Derived.Test.YtjblecinkedppaaGreatDoorBp
import Derived.Maps.AppendAt
/- Benches: what the functions give, plain facts. -/
namespace Go.Proofs.YtjblecinkedppaaGreatDoor
set_option maxRecDepth 100000
open Go.RowKit Go.WideShapes

theorem blk_pair {w : World} {g : Nat} {a b : Value} {T : TypeId} (h : Blk w g #[a, b] T) : w.cell? ⟨g, 0, none⟩ = some a ∧ w.cell? ⟨g, 1, none⟩ = some b ∧ w.frozen? ⟨g, 0, none⟩ = false ∧ w.frozen? ⟨g, 1, none⟩ = false :=
  ⟨h.cell 0, h.cell 1, h.free 0, h.free 1⟩
/-- A program is that of a stack. -/
def bsB (p : List Int) : Bool := (progStackR p).2
/-- A text is that of the program of a stack. -/
def tsB (t : List UInt8) : Bool := match readProgR t with
  | some p => bsB p
  | none => false
def benchB (n : List Int) (ps : List (List UInt8)) : Bool := bsB n && decide (ps.length ≤ 20) && ps.all tsB
theorem bsB_valid {p : List Int} (h : bsB p = true) : validB p = true ∧ p.length ≤ 60 := by
  unfold bsB progStackR at h
  split at h
  · rename_i h1; exact ⟨h1.1, validB_len h1.1⟩
  · cases h
theorem benchB_parts {n : List Int} {ps : List (List UInt8)} (h : benchB n ps = true) : bsB n = true ∧ ps.length ≤ 20 ∧ ∀ t ∈ ps, tsB t = true := by
  simp only [benchB, Bool.and_eq_true, decide_eq_true_eq, List.all_eq_true] at h
  exact ⟨h.1.1, h.1.2, h.2⟩
theorem tsB_text {t : List UInt8} (h : tsB t = true) : ∃ p, readProgR t = some p ∧ bsB p = true ∧ progT p = t := by
  unfold tsB at h
  split at h
  · rename_i p hp; exact ⟨p, hp, h, (prog_read hp).2⟩
  · cases h
theorem tsB_len {t : List UInt8} (h : tsB t = true) : t.length ≤ 400 := by
  obtain ⟨p, _, _, e⟩ := tsB_text h
  rw [← e]; exact progT_len p
end Go.Proofs.YtjblecinkedppaaGreatDoor

/- A part of a row of the call's own, from a place on: read, stored into, appended to, shortened at both ends. -/
namespace Go.Proofs.YtjblecinkedppaaGreatDoor
set_option maxRecDepth 100000
open Go.RowKit Go.WideShapes

section
variable {P : Program} (w : World)
theorem run_append_roomW (t ty e : TypeId) (i : TypeInfo) (ht : P.underlying t = some (.slice e)) (hi : P.info? e = some i)
    (g off sLen sCap : Nat) (cur : Array Value) (hg : w.heap[g]? = some (.cells cur e (0, 0)))
    (a : Addr) (m c : Nat) (news : List Value) (hl : news.length = m * i.size) (hnews : ∀ j u, news[j]? = some u → w.cell? (a.add j) = some u) (h1 : ∀ u ∈ news, u.oneCell' = true)
    (hroom : sLen + m ≤ sCap) (hfit : off + sLen * i.size + news.length ≤ cur.size) :
    (Builtin.append_ #[t, t] ty #[.slice (some ⟨g, off, none⟩) sLen sCap, .slice (some a) m c]).run P w =
      .ok (.slice (some ⟨g, off, none⟩) (sLen + m) sCap) (w.setRow g (cur.toList.take (off + sLen * i.size) ++ news ++ cur.toList.drop (off + sLen * i.size + news.length)).toArray) := by
  have hf := run_firstCells_some (P := P) w i.size m a m c news hl hnews
  have hst := run_storeCells_at P g (off + sLen * i.size) e news 0 cur w hg (by simpa using hfit) h1
  simp only [Nat.add_zero] at hst
  simp [Builtin.append_, run_underlying ht, sizeOf, typeInfo, hi, Builtin.lenOf, hroom, hf, Addr.add_lit, hst]
end

/-- A part of a row of one-cell elements of the call's own: from a place on, with some room behind it. -/
def OwnW (w : World) (lo hi : Nat) (e : TypeId) (v : Value) (xs : List Value) : Prop :=
  (v = .slice none 0 0 ∧ xs = []) ∨
  ∃ g off cap cur, v = .slice (some ⟨g, off, none⟩) xs.length cap ∧ lo ≤ g ∧ g < hi ∧ w.heap[g]? = some (.cells cur e (0, 0)) ∧ xs.length ≤ cap ∧ cap ≤ maxLen ∧ off + cap ≤ cur.size ∧ (cur.toList.drop off).take xs.length = xs

section
variable {w w' : World} {lo hi : Nat} {e : TypeId} {v : Value} {xs : List Value}
theorem OwnW.of_row (h : w.ownsRow lo e 1 v xs.length xs) (hlt : ∀ g, v.ownBlock = some g → g < hi) : OwnW w lo hi e v xs := by
  rcases h.2 with ⟨rfl, h0⟩ | ⟨g, cap, cur, rfl, hb, hh, h1, h2, h3, h4⟩
  · exact .inl ⟨rfl, List.eq_nil_of_length_eq_zero h0⟩
  · refine .inr ⟨g, 0, cap, cur, rfl, hb, hlt g rfl, hh, h1, h2, by omega, ?_⟩
    rw [List.drop_zero]; simpa using h4
theorem OwnW.blk (h : OwnW w lo hi e v xs) : ∀ g, v.ownBlock = some g → lo ≤ g ∧ g < hi ∧ g < w.heap.size ∧ ∃ cur, w.heap[g]? = some (.cells cur e (0, 0)) := by
  intro g hg
  rcases h with ⟨rfl, _⟩ | ⟨g', off, cap, cur, rfl, h1, h2, h3, _⟩
  · simp [Value.ownBlock] at hg
  · simp only [Value.ownBlock, Option.some.injEq] at hg
    subst hg
    exact ⟨h1, h2, (Array.getElem?_eq_some_iff.1 h3).1, _, h3⟩
theorem OwnW.keep (h : OwnW w lo hi e v xs) (hk : ∀ g, v.ownBlock = some g → w'.heap[g]? = w.heap[g]?) : OwnW w' lo hi e v xs := by
  rcases h with h0 | ⟨g, off, cap, cur, rfl, h1, h2, h3, h4⟩
  · exact .inl h0
  · exact .inr ⟨g, off, cap, cur, rfl, h1, h2, (hk g rfl).trans h3, h4⟩
theorem OwnW.below (h : OwnW w lo hi e v xs) (hb : Below w.heap.size w w') : OwnW w' lo hi e v xs := h.keep fun g hg => hb.block g (h.blk g hg).2.2.1
theorem OwnW.cell (h : OwnW w lo hi e v xs) : ∃ A cap, v = .slice A xs.length cap ∧ xs.length ≤ cap ∧ cap ≤ maxLen ∧ (0 < xs.length → ∃ g off, A = some ⟨g, off, none⟩ ∧ lo ≤ g ∧ g < hi ∧ g < w.heap.size ∧ ∀ j, j < xs.length → w.cell? ⟨g, off + j, none⟩ = xs[j]? ∧ w.frozen? ⟨g, off + j, none⟩ = false) := by
  rcases h with ⟨rfl, rfl⟩ | ⟨g, off, cap, cur, rfl, h1, h2, h3, h4, h5, h6, h7⟩
  · exact ⟨none, 0, rfl, by simp, by simp, by simp⟩
  · refine ⟨_, cap, rfl, h4, h5, fun _ => ⟨g, off, rfl, h1, h2, (Array.getElem?_eq_some_iff.1 h3).1, fun j hj => ⟨?_, ?_⟩⟩⟩
    · rw [cell_of_row w g (off + j) cur e (0, 0) h3]
      conv => rhs; rw [← h7]
      rw [List.getElem?_take_of_lt hj, List.getElem?_drop]
      simp
    · simp [World.frozen?, h3]
/-- A store into it. -/
theorem OwnW.stored (h : OwnW w lo hi e v xs) {g off : Nat} {n cap : Nat} (hv : v = .slice (some ⟨g, off, none⟩) n cap) (k : Nat) (hk : k < xs.length) (x : Value) :
    OwnW (w.setCell ⟨g, off + k, none⟩ x) lo hi e v (xs.set k x) ∧ w.grownBy (w.setCell ⟨g, off + k, none⟩ x) (some g) := by
  rcases h with ⟨rfl, rfl⟩ | ⟨g', off', cap', cur, rfl, h1, h2, h3, h4, h5, h6, h7⟩
  · simp at hk
  · injection hv with e1 e2 e3
    injection e1 with e1
    injection e1 with e1 e4
    subst e1 e4 e2 e3
    have hs := heap_setCell_same w g' (off' + k) cur e x h3
    have hsz : off' + k < cur.size := by omega
    refine ⟨.inr ⟨g', off', cap', _, ?_, h1, h2, hs, by rw [List.length_set]; exact h4, h5, by simpa using h6, ?_⟩, ⟨rfl, rfl, rfl, by simp, fun i _ hne => heap_setCell_other w _ i x (fun e => hne (by rw [e]))⟩⟩
    · rw [List.length_set]
    · rw [List.length_set]
      conv => rhs; rw [← h7]
      apply List.ext_getElem?
      intro j
      by_cases hj : j < xs.length
      · rw [List.getElem?_take_of_lt hj, List.getElem?_drop, List.getElem?_set]
        simp only [Array.getElem?_toList, Array.getElem?_setIfInBounds]
        by_cases hjk : k = j
        · subst hjk
          rw [if_pos rfl, if_pos rfl, if_pos hsz, if_pos]
          simp [List.length_take, List.length_drop]; omega
        · rw [if_neg (by omega), if_neg hjk, List.getElem?_take_of_lt hj, List.getElem?_drop, Array.getElem?_toList]
      · rw [List.getElem?_eq_none (by simp [List.length_take, List.length_drop]; omega), List.getElem?_eq_none (by simp [List.length_take, List.length_drop]; omega)]
/-- Without its first element. -/
theorem OwnW.tail {A : Option Addr} {x : Value} {xs : List Value} {cap : Nat} (h : OwnW w lo hi e (.slice A (x :: xs).length cap) (x :: xs)) : ∃ g off, A = some ⟨g, off, none⟩ ∧ (x :: xs).length ≤ cap ∧ OwnW w lo hi e (.slice (some ⟨g, off + 1, none⟩) xs.length (cap - 1)) xs := by
  rcases h with ⟨h0, h1⟩ | ⟨g, off, cap', cur, hv, h1, h2, h3, h4, h5, h6, h7⟩
  · cases h1
  · injection hv with e1 e2 e3
    subst e1 e3
    refine ⟨g, off, rfl, h4, .inr ⟨g, off + 1, cap - 1, cur, rfl, h1, h2, h3, by simp at h4; omega, by omega, by simp at h4; omega, ?_⟩⟩
    have := congrArg (List.drop 1) h7
    rw [List.drop_take, List.drop_drop] at this
    simpa using this
/-- Its first elements. -/
theorem OwnW.front {A : Option Addr} {xs : List Value} {n cap : Nat} (h : OwnW w lo hi e (.slice A n cap) xs) (k : Nat) (hk : k ≤ xs.length) : OwnW w lo hi e (.slice A k cap) (xs.take k) := by
  rcases h with ⟨h0, rfl⟩ | ⟨g, off, cap', cur, hv, h1, h2, h3, h4, h5, h6, h7⟩
  · cases h0
    have : k = 0 := by simpa using hk
    subst this
    exact .inl ⟨rfl, rfl⟩
  · injection hv with e1 e2 e3
    subst e1 e3
    have hl : (xs.take k).length = k := by rw [List.length_take]; omega
    refine .inr ⟨g, off, cap, cur, by rw [hl], h1, h2, h3, by omega, h5, h6, ?_⟩
    rw [hl]
    conv => rhs; rw [← h7]
    rw [List.take_take, Nat.min_eq_left hk]
theorem OwnW.mono {lo' hi' : Nat} (h : OwnW w lo hi e v xs) (h1 : lo' ≤ lo) (h2 : hi ≤ hi') : OwnW w lo' hi' e v xs := by
  rcases h with h0 | ⟨g, off, cap, cur, rfl, k1, k2, k3⟩
  · exact .inl h0
  · exact .inr ⟨g, off, cap, cur, rfl, by omega, by omega, k3⟩
end
section
variable {P : Program} (w : World)
theorem run_append_ownW (lo hi : Nat) (t ty e : TypeId) (i : TypeInfo) (z : Value) (bytes : Nat) (ht : P.underlying t = some (.slice e)) (hi0 : P.info? e = some i) (hz : i.zero = some z)
    (hsize : i.size = 1) (hby : i.bytes = bytes) (hzs : z.cells.size = 1)
    (v : Value) (xs : List Value) (hown : OwnW w lo hi e v xs)
    (b c : Nat) (x : Value) (hx : w.cell? ⟨b, 0, none⟩ = some x) (h1 : x.oneCell' = true)
    (h63 : xs.length + 1 ≤ maxLen) (hbytes : (xs.length + 1) * bytes ≤ 140737488355328) (hlo : lo ≤ w.heap.size) :
    ∃ v' w', (Builtin.append_ #[t, t] ty #[v, .slice (some ⟨b, 0, none⟩) 1 c]).run P w = .ok v' w' ∧ OwnW w' lo w'.heap.size e v' (xs ++ [x]) ∧ w.grownBy w' v.ownBlock ∧ (v'.ownBlock = v.ownBlock ∨ v'.ownBlock = some w.heap.size) := by
  have hnews : ∀ j u, ([x] : List Value)[j]? = some u → w.cell? ((⟨b, 0, none⟩ : Addr).add j) = some u := by
    intro j u hu
    rcases j with _ | j
    · simp at hu; subst hu
      simpa [Addr.add] using hx
    · simp at hu
  have h1' : ∀ u ∈ ([x] : List Value), u.oneCell' = true := by intro u hu; simp at hu; subst hu; exact h1
  rcases hown with ⟨rfl, rfl⟩ | ⟨g, off, cap, cur, rfl, k1, k2, k3, k4, k5, k6, k7⟩
  · obtain ⟨v', w', hr, ho, hg, _, hat⟩ := run_append_own_at (P := P) w lo t ty e i z 1 bytes ht hi0 hz hsize hby hzs (by omega) (.slice none 0 0) 0 [] (World.ownsRow_nil _ _ _ _) ⟨b, 0, none⟩ 1 c [x] rfl hnews h1' h63 hbytes hlo
    refine ⟨v', w', hr, OwnW.of_row (by simpa using ho) (fun q hq => (ho.lt q hq).2), hg, hat⟩
  · by_cases hroom : xs.length + 1 ≤ cap
    · have hr := run_append_roomW (P := P) w t ty e i ht hi0 g off xs.length cap cur k3 ⟨b, 0, none⟩ 1 c [x] (by rw [hsize]; rfl) hnews h1' hroom (by rw [hsize]; simp; omega)
      rw [hsize] at hr
      simp only [Nat.mul_one, List.length_singleton] at hr
      refine ⟨_, _, hr, .inr ⟨g, off, cap, _, by simp, k1, ?_, setRow_heap w g cur _ e _ k3, by simp; omega, k5, ?_, ?_⟩, ⟨rfl, rfl, rfl, by simp, fun k _ hk => setRow_other w g k _ (fun e => hk (by simp [Value.ownBlock, e]))⟩, Or.inl rfl⟩
      · have := (Array.getElem?_eq_some_iff.1 k3).1; simp; omega
      · simp; omega
      · have hl : (cur.toList.take (off + xs.length)).length = off + xs.length := by simp; omega
        simp only [List.length_append, List.length_singleton]
        rw [List.append_assoc, List.drop_append_of_le_length (by rw [hl]; omega), List.drop_take, show off + xs.length - off = xs.length by omega, k7, List.take_append, List.take_of_length_le (by omega), show xs.length + 1 - xs.length = 1 by omega]
        simp
    · have holds : ∀ j u, xs[j]? = some u → w.cell? ((⟨g, off, none⟩ : Addr).add j) = some u := by
        intro j u hu
        have hj : j < xs.length := (List.getElem?_eq_some_iff.1 hu).1
        have hadd : (⟨g, off, none⟩ : Addr).add j = ⟨g, off + j, none⟩ := by unfold Addr.add; split <;> simp_all
        rw [hadd, cell_of_row w g (off + j) cur e (0, 0) k3, ← hu]
        conv => rhs; rw [← k7]
        rw [List.getElem?_take_of_lt hj, List.getElem?_drop]
        simp
      have hr := run_append_grow (P := P) w t ty e i z ht hi0 hz ⟨g, off, none⟩ xs.length cap xs (by rw [hsize]; simp) holds ⟨b, 0, none⟩ 1 c [x] (by rw [hsize]; rfl) hnews (by omega) (by unfold maxLen at h63; omega) (growslice_fits (by omega) (by rw [hby]; exact hbytes))
      have hge := grownCap_ge w (xs.length + 1) cap e
      have hcm : grownCap w (xs.length + 1) cap e ≤ maxLen := grownCap_le_maxLen w (xs.length + 1) cap e h63
      refine ⟨_, _, hr, .inr ⟨w.heap.size, 0, _, _, by simp, hlo, by simp, heap_alloc_new w.drew _, by simpa using hge, hcm, ?_, ?_⟩, ⟨rfl, rfl, rfl, by simp, fun k hk _ => (((Below.refl w.heap.size w).drew).alloc (Nat.le_refl _) _).block k hk⟩, Or.inr rfl⟩
      · simp only [Array.size_append, List.size_toArray, size_zeroCells, hzs]
        simp; omega
      · rw [Array.toList_append, Array.toList_append, List.drop_zero]
        exact List.take_left
end

/-- A part of a row of strings of the call's own. -/
abbrev OwnWT (w : World) (lo hi : Nat) (v : Value) (ss : List (List UInt8)) : Prop := OwnW w lo hi 9 v (strVals ss)
theorem strVals_len (ss : List (List UInt8)) : (strVals ss).length = ss.length := by simp [strVals]
theorem OwnT.win {w : World} {lo hi : Nat} {v : Value} {ss : List (List UInt8)} (h : OwnT w lo hi v ss) : OwnWT w lo hi v ss :=
  OwnW.of_row (by rw [strVals_len]; exact h.own) h.lt
theorem OwnWT.rd {w : World} {lo hi : Nat} {v : Value} {ss : List (List UInt8)} (h : OwnWT w lo hi v ss) : RdT w v ss := by
  obtain ⟨A, cap, rfl, h1, h2, h3⟩ := OwnW.cell h
  rw [strVals_len] at *
  refine ⟨A, cap, rfl, h1, by unfold maxLen at h2; omega, fun h0 => ?_⟩
  obtain ⟨g, off, rfl, _, _, hg, hc⟩ := h3 h0
  refine ⟨g, off, rfl, hg, fun j s hj => ?_⟩
  have hjl : j < ss.length := (List.getElem?_eq_some_iff.1 hj).1
  rw [(hc j hjl).1, strVals_get hj]
/-- append(s, x) of a string to such a part. -/
theorem wpList_append_strW {P : Program} {w : World} {ops : Array Oper} {rest : List Oper} {o : Oper} {a : Act} {Q : Exit → Act → World → Prop} (hgd : o.guard = none) (s x : Operand) (t : TypeId)
    (ho : o.op = .call { callee := .builtin .append, args := #[s, x], argTypes := #[t, t] })
    (ht : P.underlying t = some (.slice 9)) (hinfo : (P.info? 9).map (fun i => (i.zero, i.size, i.bytes)) = some (some (.string ⟨#[]⟩), 1, 16))
    (lo hi : Nat) (v : Value) (ss : List (List UInt8)) (hs : a.eval s = v) (hown : OwnWT w lo hi v ss) (hlo : lo ≤ w.heap.size)
    (b : Nat) (u : Value) (z : List UInt8) (hx : a.eval x = .slice (some ⟨b, 0, none⟩) 1 1) (h0 : w.cell? ⟨b, 0, none⟩ = some u) (hu : u = .string ⟨z.toArray⟩) (hlen : ss.length ≤ 1000000000)
    (h : ∀ v' w', OwnWT w' lo w'.heap.size v' (ss ++ [z]) → w.grownBy w' v.ownBlock → (v'.ownBlock = v.ownBlock ∨ v'.ownBlock = some w.heap.size) → wpList P ops Q rest (a.put o.dst v') w') : wpList P ops Q (o :: rest) a w := by
  obtain ⟨i, hi1, hz, hsz, hby⟩ := info_parts hinfo
  refine wpList_plain hgd fun K hK => ?_
  obtain ⟨v', w', hr, h2, h3, h4⟩ := run_append_ownW (P := P) w lo hi t o.type 9 i (.string ⟨#[]⟩) 16 ht hi1 hz hsz hby rfl v (strVals ss) hown b 1 (.string ⟨z.toArray⟩) (by rw [← hu]; exact h0) rfl (by rw [strVals_len]; unfold maxLen; omega) (by rw [strVals_len]; omega) hlo
  unfold Oper.wp execOp
  simp only [ho, resolve, invoke, builtin, Sem.run_bind, Sem.run_pure, Result.andThen_ok, List.map_toArray, List.map_cons, List.map_nil, hs, hx, hr]
  exact hK _ _ (h v' w' (by
    have e : strVals (ss ++ [z]) = strVals ss ++ [.string ⟨z.toArray⟩] := by simp [strVals]
    unfold OwnWT; rw [e]; exact h2) h3 h4)
end Go.Proofs.YtjblecinkedppaaGreatDoor

/- Benches: whether they are valid, by the program and by the model. -/
namespace Go.Proofs.YtjblecinkedppaaGreatDoor
set_option maxRecDepth 100000
open Go.RowKit Go.WideShapes

theorem isStackProg_any (v : Value) (p : List Int) (w : World) (h : RdI w v p) (hl : p.length ≤ 1048576) :
    Calls Tryz.prog 34 #[v] w fun e w' => e = .returned (.bool (bsB p)) ∧ Below w.heap.size w w' := by
  have H := Lib.hid h; clear h
  rcases hR : progStackR p with ⟨y, b⟩
  have HB := Lib.hid (show bsB p = b by unfold bsB; rw [hR])
  have HR := Lib.hid hR; clear hR
  go_enter Tryz.func34, Tryz.ntmps34
  go_wp2_with fail
  refine (ProgStack_I v p _ H.out hl y b HR.out).mono ?_
  rintro e w1 ⟨u, rfl, ho, hb⟩
  have B := Lib.hid hb; clear hb ho
  go_wp2
  go_ret
  rw [HB.out]
  exact ⟨rfl, B.out⟩

theorem isStackText_any (S : ByteArray) (w : World) (h0 : S.size ≤ 100000000) (ht : StrTab w 0 opNames) :
    Calls Tryz.prog 35 #[.string S] w fun e w' => e = .returned (.bool (tsB (bytesOf S))) ∧ Below w.heap.size w w' := by
  have HT := Lib.hid ht; clear ht
  rcases hr : readProgR (bytesOf S) with _ | p
  · have HR := Lib.hid (show readProgP (bytesOf S) = ([], false) by unfold readProgP; rw [hr])
    have HB := Lib.hid (show tsB (bytesOf S) = false by unfold tsB; rw [hr]); clear hr
    go_enter Tryz.func35, Tryz.ntmps35
    go_wp2_with fail
    refine (ReadProg_I S _ h0 _ _ HR.out HT.out).mono ?_
    rintro e w1 ⟨u, rfl, ho, hb⟩
    have B := Lib.hid hb; clear hb ho
    go_wp2
    go_ret
    rw [HB.out]
    exact ⟨rfl, B.out⟩
  · have HR := Lib.hid (show readProgP (bytesOf S) = (p, true) by unfold readProgP; rw [hr])
    have HB := Lib.hid (show tsB (bytesOf S) = bsB p by unfold tsB; rw [hr])
    have hl := validB_len (prog_read hr).1
    clear hr
    go_enter Tryz.func35, Tryz.ntmps35
    go_wp2_with fail
    refine (ReadProg_I S _ h0 _ _ HR.out HT.out).mono ?_
    rintro e w1 ⟨u, rfl, ho, hb⟩
    have B := Lib.hid (And.intro hb ho); clear hb ho
    go_wp2_with fail
    refine (isStackProg_any u p _ B.out.2.rd (by omega)).mono ?_
    rintro e w2 ⟨rfl, hb⟩
    have B2 := Lib.hid (B.out.1.trans (hb.mono B.out.1.size)); clear hb B
    go_wp2
    go_ret
    rw [HB.out]
    exact ⟨rfl, B2.out⟩

theorem ts_take_succ {ps : List (List UInt8)} {k : Nat} {s : List UInt8} (h : ps[k]? = some s) : (ps.take (k + 1)).all tsB = ((ps.take k).all tsB && tsB s) := by
  rw [List.take_add_one, h, List.all_append]; simp
theorem ts_no {ps : List (List UInt8)} {k : Nat} {s : List UInt8} (h : ps[k]? = some s) (hs : tsB s = false) : ps.all tsB = false := by
  rw [List.all_eq_false]; exact ⟨s, List.mem_of_getElem? h, by simp [hs]⟩

theorem benchB_all {n : List Int} {ps : List (List UInt8)} (h : bsB n = true) (hl : ps.length ≤ 20) : benchB n ps = ps.all tsB := by
  simp [benchB, h, hl]
theorem BenchValid_I (vn vp : Value) (n : List Int) (ps : List (List UInt8)) (w : World) (h0 : RdI w vn n) (h1 : RdT w vp ps) (hl0 : n.length ≤ 1048576) (hl1 : ps.length ≤ 1048576) (hl2 : ∀ t ∈ ps, t.length ≤ 100000000) (ht : StrTab w 0 opNames) :
    Calls Tryz.prog 9 #[.agg #[vn, vp]] w fun e w' => e = .returned (.bool (benchB n ps)) ∧ Below w.heap.size w w' := by
  have hal : Below w.heap.size w (w.alloc (.cells #[vn, vp] 26)) := (Below.refl _ _).alloc (Nat.le_refl _) _
  have hbk := Blk.new w #[vn, vp] 26
  have hgl := ht.lt
  have S0 := Lib.hid (And.intro (h0.step hal) (And.intro (RdT.step h1 hal) (And.intro hal (And.intro hbk (ht.below hal hgl))))); clear hal ht
  have HL := Lib.hid hl2; clear hl2
  obtain ⟨A0, c0, rfl, _⟩ := h0
  obtain ⟨A1, c1, rfl, _, _, hr⟩ := h1
  obtain ⟨b00, b01, _, _⟩ := blk_pair hbk
  clear hbk
  rcases hb0 : bsB n with _ | _
  · have HB : Hid (benchB n ps = false) := Lib.hid (by simp [benchB, hb0])
    have H0 := Lib.hid hb0; clear hb0
    go_enter Tryz.func9, Tryz.ntmps9
    go_wp2_with fail
    refine (isStackProg_any _ n _ S0.out.1 hl0).mono ?_
    rw [H0.out]
    rintro e w1 ⟨rfl, hb⟩
    have B := Lib.hid (S0.out.2.2.1.trans (hb.mono (by simp))); clear hb S0
    go_wp2
    go_ret
    rw [HB.out]
    exact ⟨rfl, B.out⟩
  · have H0 := Lib.hid hb0
    by_cases h20 : (20 : Int) < ps.length
    · have HB : Hid (benchB n ps = false) := Lib.hid (by simp [benchB, hb0]; intro _; omega)
      clear hb0
      go_enter Tryz.func9, Tryz.ntmps9
      go_wp2_with fail
      refine (isStackProg_any _ n _ S0.out.1 hl0).mono ?_
      rw [H0.out]
      rintro e w1 ⟨rfl, hb⟩
      have hB := S0.out.2.2.2.1.below hb (by simp)
      obtain ⟨b10, b11, _, _⟩ := blk_pair hB
      have B := Lib.hid (S0.out.2.2.1.trans (hb.mono (by simp))); clear hb S0 hB
      go_wp2
      go_ret
      rw [HB.out]
      exact ⟨rfl, B.out⟩
    · have HB : Hid (benchB n ps = ps.all tsB) := Lib.hid (benchB_all hb0 (by omega))
      clear hb0
      go_enter Tryz.func9, Tryz.ntmps9
      go_wp2_with fail
      refine (isStackProg_any _ n _ S0.out.1 hl0).mono ?_
      rw [H0.out]
      rintro e w1 ⟨rfl, hb⟩
      have hz1 := hb.size
      have hz2 : w.heap.size + 1 ≤ w1.heap.size := by simpa using hz1
      have hB := S0.out.2.2.2.1.below hb (by simp)
      obtain ⟨b10, b11, _, _⟩ := blk_pair hB
      have B := Lib.hid (And.intro (RdT.step S0.out.2.1 hb) (And.intro (S0.out.2.2.1.trans (hb.mono (by simp))) (S0.out.2.2.2.2.below hb (by rw [World.size_alloc]; omega)))); clear hb hB b00 b01 S0
      go_wp2
      clear b10 b11
      go_loopw [18] (fun i wr => ∃ k : Nat, k ≤ ps.length ∧ i = .int .i64 k ∧ (ps.take k).all tsB = true ∧ Below w1.heap.size w1 wr) (fun i _ => ps.length - (intOf i).toNat)
      case atStart => exact ⟨0, Nat.zero_le _, rfl, rfl, Below.refl _ _⟩
      case round =>
        obtain ⟨k, hk, rfl, hall, hbk⟩ := hrel
        have hzk := hbk.size
        by_cases hlt : k < ps.length
        · obtain ⟨s, hs⟩ : ∃ s, ps[k]? = some s := ⟨_, List.getElem?_eq_getElem hlt⟩
          obtain ⟨A', c', he, _, _, hr1⟩ := B.out.1
          cases he
          obtain ⟨b, off, rfl, hbb, hc⟩ := hr1 (by omega)
          have hcell := (hbk.cell (p := ⟨b, off + k, none⟩) hbb).trans (hc k s hs)
          have hsl := HL.out s (List.mem_of_getElem? hs)
          obtain ⟨S, hS⟩ : ∃ S : ByteArray, (⟨s.toArray⟩ : ByteArray) = S := ⟨_, rfl⟩
          have hSz : S.size ≤ 100000000 := by rw [← hS]; simp [ByteArray.size]; omega
          have HSb : Hid (bytesOf S = s) := Lib.hid (by rw [← hS, bytes_mk])
          rw [hS] at hcell
          have hsucc := Lib.hid (ts_take_succ hs)
          have hno := Lib.hid (ts_no hs)
          have X := Lib.hid (And.intro hall (And.intro hbk (B.out.2.2.below hbk (by have := B.out.2.1.size; omega))))
          have hltI : (k : Int) < ps.length := by omega
          clear hc hr1 hs hS hall hbk
          rcases htb : tsB s with _ | _
          · have HN := Lib.hid htb; clear htb
            go_wp2_with fail
            refine (isStackText_any S _ hSz X.out.2.2).mono ?_
            rw [HSb.out, HN.out]
            rintro e w2 ⟨rfl, hb⟩
            have B2 := Lib.hid (B.out.2.1.trans ((X.out.2.1.trans (hb.mono hzk)).mono (by have := B.out.2.1.size; omega))); clear hb
            go_wp2
            go_ret
            rw [HB.out, hno.out HN.out]
            exact ⟨rfl, B2.out⟩
          · have HN := Lib.hid htb; clear htb
            go_wp2_with fail
            refine (isStackText_any S _ hSz X.out.2.2).mono ?_
            rw [HSb.out, HN.out]
            rintro e w2 ⟨rfl, hb⟩
            have B2 := Lib.hid (And.intro (show (ps.take (k + 1)).all tsB = true by rw [hsucc.out, X.out.1, HN.out]; rfl) (X.out.2.1.trans (hb.mono hzk))); clear hb
            go_wp2
            go_roundw
            case rel => exact ⟨k + 1, by omega, by go_num, B2.out⟩
            case measure => simp [intOf]; omega
        · obtain rfl : k = ps.length := by omega
          rw [List.take_of_length_le (Nat.le_refl _)] at hall
          have X := Lib.hid (And.intro hall (B.out.2.1.trans (hbk.mono (by have := B.out.2.1.size; omega))))
          clear hall hbk
          go_wp2
          go_ret
          rw [HB.out, X.out.1]
          exact ⟨rfl, X.out.2⟩

theorem l10Stack_any (S : ByteArray) (w : World) (h0 : S.size ≤ 100000000) :
    Calls Tryz.prog 46 #[.string S] w fun e w' => e = .returned (.bool (tsB (bytesOf S))) ∧ Below w.heap.size w w' := by
  rcases hR : readProgP (bytesOf S) with ⟨p, b⟩
  have hl := readProgP_valid (bytesOf S)
  rw [hR] at hl
  have hl2 := validB_len hl
  rcases hP : progStackR p with ⟨q, c⟩
  have HB := Lib.hid (show tsB (bytesOf S) = (b && c) by
    unfold tsB
    unfold readProgP at hR
    rcases hr : readProgR (bytesOf S) with _ | p'
    · rw [hr] at hR; cases hR; rfl
    · rw [hr] at hR; cases hR
      show bsB p = _
      unfold bsB; rw [hP]; rfl)
  have HR := Lib.hid hR
  have HP := Lib.hid hP
  clear hR hP hl
  rcases b with _ | _
  all_goals
    go_enter Tryz.func46, Tryz.ntmps46
    go_wp2_with fail
    refine (ReadProg_S S _ h0 _ _ HR.out).mono ?_
    rintro e w1 ⟨u, rfl, ho, hb⟩
    have B := Lib.hid (And.intro hb ho); clear hb ho
    go_wp2_with fail
    refine (ProgStack_S u p _ B.out.2.rd (by omega) q c HP.out).mono ?_
    rintro e w2 ⟨u2, rfl, _, hb⟩
    have B2 := Lib.hid (B.out.1.trans (hb.mono B.out.1.size)); clear hb B
    go_wp2
    go_ret
    rw [HB.out]
    exact ⟨rfl, B2.out⟩

theorem BenchValid_S (vn vp : Value) (n : List Int) (ps : List (List UInt8)) (w : World) (h0 : RdI w vn n) (h1 : RdT w vp ps) (hl0 : n.length ≤ 1048576) (hl1 : ps.length ≤ 1048576) (hl2 : ∀ t ∈ ps, t.length ≤ 100000000) :
    Calls Tryz.prog 18 #[.agg #[vn, vp]] w fun e w' => e = .returned (.bool (benchB n ps)) ∧ Below w.heap.size w w' := by
  have hal : Below w.heap.size w (w.alloc (.cells #[vn, vp] 26)) := (Below.refl _ _).alloc (Nat.le_refl _) _
  have hbk := Blk.new w #[vn, vp] 26
  have S0 := Lib.hid (And.intro (h0.step hal) (And.intro (RdT.step h1 hal) (And.intro hal hbk))); clear hal hbk
  have HL := Lib.hid hl2; clear hl2
  obtain ⟨A0, c0, rfl, _⟩ := h0
  obtain ⟨A1, c1, rfl, _, _, _⟩ := h1
  rcases hP : progStackR n with ⟨q, c⟩
  have HP := Lib.hid hP
  have HBs := Lib.hid (show bsB n = c by unfold bsB; rw [hP]); clear hP
  obtain ⟨b00, b01, _, _⟩ := blk_pair S0.out.2.2.2
  go_enter Tryz.func18, Tryz.ntmps18
  go_wp2
  clear b00 b01
  go_loopw [3] (fun i wr => ∃ k : Nat, k ≤ ps.length ∧ i = .int .i64 k ∧ (ps.take k).all tsB = true ∧ Below (w.heap.size + 1) (w.alloc (.cells #[.slice A0 n.length c0, .slice A1 ps.length c1] 26)) wr) (fun i _ => ps.length - (intOf i).toNat)
  case atStart => exact ⟨0, Nat.zero_le _, rfl, rfl, Below.refl _ _⟩
  case round =>
    obtain ⟨k, hk, rfl, hall, hbk⟩ := hrel
    have hzk : w.heap.size + 1 ≤ wr.heap.size := by have := hbk.size; simpa using this
    have hB := Blk.below (B := w.heap.size + 1) S0.out.2.2.2 hbk (by omega)
    obtain ⟨b10, b11, _, _⟩ := blk_pair hB
    clear hB
    by_cases hlt : k < ps.length
    · obtain ⟨s, hs⟩ : ∃ s, ps[k]? = some s := ⟨_, List.getElem?_eq_getElem hlt⟩
      obtain ⟨A', c', he, _, _, hr1⟩ := S0.out.2.1
      cases he
      obtain ⟨b, off, rfl, hbb, hc⟩ := hr1 (by omega)
      rw [World.size_alloc] at hbb
      have hcell := (hbk.cell (p := ⟨b, off + k, none⟩) hbb).trans (hc k s hs)
      have hsl := HL.out s (List.mem_of_getElem? hs)
      obtain ⟨S, hS⟩ : ∃ S : ByteArray, (⟨s.toArray⟩ : ByteArray) = S := ⟨_, rfl⟩
      have hSz : S.size ≤ 100000000 := by rw [← hS]; simp [ByteArray.size]; omega
      have HSb : Hid (bytesOf S = s) := Lib.hid (by rw [← hS, bytes_mk])
      rw [hS] at hcell
      have hsucc := Lib.hid (ts_take_succ hs)
      have hno := Lib.hid (ts_no hs)
      have X := Lib.hid (And.intro hall hbk)
      have hltI : (k : Int) < ps.length := by omega
      clear hc hr1 hs hS hall hbk
      rcases htb : tsB s with _ | _
      · have HN := Lib.hid htb; clear htb
        go_wp2_with fail
        refine (l10Stack_any S _ hSz).mono ?_
        rw [HSb.out, HN.out]
        rintro e w2 ⟨rfl, hb⟩
        have B2 := Lib.hid (S0.out.2.2.1.trans ((X.out.2.trans (hb.mono hzk)).mono (by omega))); clear hb
        have HB := Lib.hid (show benchB n ps = false by simp [benchB, hno.out HN.out])
        go_wp2
        go_ret
        rw [HB.out]
        exact ⟨rfl, B2.out⟩
      · have HN := Lib.hid htb; clear htb
        go_wp2_with fail
        refine (l10Stack_any S _ hSz).mono ?_
        rw [HSb.out, HN.out]
        rintro e w2 ⟨rfl, hb⟩
        have B2 := Lib.hid (And.intro (show (ps.take (k + 1)).all tsB = true by rw [hsucc.out, X.out.1, HN.out]; rfl) (X.out.2.trans (hb.mono hzk))); clear hb
        go_wp2
        go_roundw
        case rel => exact ⟨k + 1, by omega, by go_num, B2.out⟩
        case measure => simp [intOf]; omega
    · obtain rfl : k = ps.length := by omega
      rw [List.take_of_length_le (Nat.le_refl _)] at hall
      have X := Lib.hid (And.intro hall hbk)
      clear hall
      have HI := Lib.hid (RdBI.rd (RdBI.below (RdI.at_ S0.out.1) (by rw [World.size_alloc]; exact hbk)) (by rw [World.size_alloc]; omega))
      clear hbk
      go_wp2_with fail
      refine (ProgStack_S _ n _ HI.out (by omega) q c HP.out).mono ?_
      rintro e w2 ⟨u2, rfl, _, hb⟩
      have hz2 := hb.size
      have hB := (Blk.below (B := w.heap.size + 1) S0.out.2.2.2 X.out.2 (by omega)).below hb (by omega)
      obtain ⟨b20, b21, _, _⟩ := blk_pair hB
      have B2 := Lib.hid (S0.out.2.2.1.trans ((X.out.2.trans (hb.mono hzk)).mono (by omega))); clear hb hB
      rcases c with _ | _
      · have HB := Lib.hid (show benchB n ps = false by simp [benchB, HBs.out])
        go_wp2
        go_ret
        rw [HB.out]
        exact ⟨rfl, B2.out⟩
      · by_cases h20 : ps.length ≤ 20
        · have HB := Lib.hid (show benchB n ps = true by rw [benchB_all HBs.out h20]; exact X.out.1)
          have h20b : (decide ((ps.length : Int) ≤ 20)) = true := by simp; omega
          go_wp2
          go_ret
          rw [HB.out]
          exact ⟨by first | rfl | (simp; omega), B2.out⟩
        · have HB := Lib.hid (show benchB n ps = false by simp [benchB]; intro _ h; omega)
          have h20b : (decide ((ps.length : Int) ≤ 20)) = false := by simp; omega
          go_wp2
          go_ret
          rw [HB.out]
          exact ⟨by first | rfl | (simp; omega), B2.out⟩
end Go.Proofs.YtjblecinkedppaaGreatDoor

/- Deeds: their texts, by the program and by the model; laws' copies. -/
namespace Go.Proofs.YtjblecinkedppaaGreatDoor
set_option maxRecDepth 100000
open Go.RowKit Go.WideShapes Go.Joins

def doL : List UInt8 := [100, 111, 32]
def clearL : List UInt8 := [99, 108, 101, 97, 114]
def backL : List UInt8 := [98, 97, 99, 107]
/-- The text of a deed. -/
def deedT (k : Int) (t : List UInt8) : List UInt8 := if k = 0 then (if (readProgP t).2 = true then doL ++ t else []) else if t ≠ [] then [] else if k = 1 then clearL else if k = 2 then backL else []
theorem readP_len {t : List UInt8} (h : (readProgP t).2 = true) : t.length ≤ 400 := by
  unfold readProgP at h
  rcases hr : readProgR t with _ | p
  · rw [hr] at h; cases h
  · rw [← (prog_read hr).2]; exact progT_len p
theorem deedT_len (k : Int) (t : List UInt8) : (deedT k t).length ≤ 403 := by
  unfold deedT
  split
  · split
    · rename_i h; have := readP_len h; simp [doL]; omega
    · simp
  · split
    · simp
    · split
      · simp [clearL]
      · split <;> simp [backL]
theorem add_do (S : ByteArray) (h : S.size ≤ 1000) (W : World) : (Op.stringOp .add ⟨#[100, 111, 32]⟩ S).run Tryz.prog W = .ok (.string ⟨(doL ++ bytesOf S).toArray⟩) W := by
  have e : (⟨(doL ++ bytesOf S).toArray⟩ : ByteArray) = ⟨#[100, 111, 32]⟩ ++ S := by
    rw [← ba_eta (⟨#[100, 111, 32]⟩ ++ S)]
    congr 2
  have hz : (⟨#[100, 111, 32]⟩ : ByteArray).size = 3 := rfl
  rw [run_string_add_sum W _ _ (by omega), e]
theorem ba_ne {S : ByteArray} (h : bytesOf S ≠ []) : (S.toList == []) = false := by
  rw [str_eq]; simpa using h
theorem ba_nil {S : ByteArray} (h : bytesOf S = []) : S = ⟨#[]⟩ := by
  rw [← ba_eta S, h]

def dealt (k : Int) (S : ByteArray) (w : World) : World := w.alloc (.cells #[.int .i64 k, .string S] 28)
theorem dealt_below (k : Int) (S : ByteArray) (w : World) : Below w.heap.size w (w.alloc (.cells #[.int .i64 k, .string S] 28)) := (Below.refl _ _).alloc (Nat.le_refl _) _

end Go.Proofs.YtjblecinkedppaaGreatDoor
