/- A part of a row of the call's own, from a place on: read, stored into, appended to, shortened at both ends. -/
import Derived.Test.YtdabbjlefpgkmaaDoorNb
import Derived.Maps.AppendAt
namespace Go.Proofs.YtdabbjlefpgkmaaDoor
set_option maxRecDepth 100000
open Go.RowKit Go.WideShapes

section
variable {P : Program} (w : World)
theorem run_append_roomW (t ty e : TypeId) (i : TypeInfo) (ht : P.underlying t = some (.slice e)) (hi : P.info? e = some i)
    (g off sLen sCap : Nat) (cur : Array Value) (hg : w.heap[g]? = some (.cells cur e (0, 0)))
    (a : Addr) (m c : Nat) (news : List Value) (hl : news.length = m * i.size) (hnews : ∀ j u, news[j]? = some u → w.cell? (a.add j) = some u) (h1 : ∀ u ∈ news, u.oneCell' = true)
    (hroom : sLen + m ≤ sCap) (hfit : off + sLen * i.size + news.length ≤ cur.size) :
    (Builtin.append_ #[t, t] ty #[.slice (some ⟨g, off, none⟩) sLen sCap, .slice (some a) m c]).run P w =
      .ok (.slice (some ⟨g, off, none⟩) (sLen + m) sCap) (w.setRow g (cur.toList.take (off + sLen * i.size) ++ news ++ cur.toList.drop (off + sLen * i.size + news.length)).toArray) := by
  have hf := run_firstCells_some (P := P) w i.size m a m c news hl hnews
  have hst := run_storeCells_at P g (off + sLen * i.size) e news 0 cur w hg (by simpa using hfit) h1
  simp only [Nat.add_zero] at hst
  simp [Builtin.append_, run_underlying ht, sizeOf, typeInfo, hi, Builtin.lenOf, hroom, hf, Addr.add_lit, hst]
end

/-- A part of a row of one-cell elements of the call's own: from a place on, with some room behind it. -/
def OwnW (w : World) (lo hi : Nat) (e : TypeId) (v : Value) (xs : List Value) : Prop :=
  (v = .slice none 0 0 ∧ xs = []) ∨
  ∃ g off cap cur, v = .slice (some ⟨g, off, none⟩) xs.length cap ∧ lo ≤ g ∧ g < hi ∧ w.heap[g]? = some (.cells cur e (0, 0)) ∧ xs.length ≤ cap ∧ cap ≤ maxLen ∧ off + cap ≤ cur.size ∧ (cur.toList.drop off).take xs.length = xs

section
variable {w w' : World} {lo hi : Nat} {e : TypeId} {v : Value} {xs : List Value}
theorem OwnW.of_row (h : w.ownsRow lo e 1 v xs.length xs) (hlt : ∀ g, v.ownBlock = some g → g < hi) : OwnW w lo hi e v xs := by
  rcases h.2 with ⟨rfl, h0⟩ | ⟨g, cap, cur, rfl, hb, hh, h1, h2, h3, h4⟩
  · exact .inl ⟨rfl, List.eq_nil_of_length_eq_zero h0⟩
  · refine .inr ⟨g, 0, cap, cur, rfl, hb, hlt g rfl, hh, h1, h2, by omega, ?_⟩
    rw [List.drop_zero]; simpa using h4
theorem OwnW.blk (h : OwnW w lo hi e v xs) : ∀ g, v.ownBlock = some g → lo ≤ g ∧ g < hi ∧ g < w.heap.size ∧ ∃ cur, w.heap[g]? = some (.cells cur e (0, 0)) := by
  intro g hg
  rcases h with ⟨rfl, _⟩ | ⟨g', off, cap, cur, rfl, h1, h2, h3, _⟩
  · simp [Value.ownBlock] at hg
  · simp only [Value.ownBlock, Option.some.injEq] at hg
    subst hg
    exact ⟨h1, h2, (Array.getElem?_eq_some_iff.1 h3).1, _, h3⟩
theorem OwnW.keep (h : OwnW w lo hi e v xs) (hk : ∀ g, v.ownBlock = some g → w'.heap[g]? = w.heap[g]?) : OwnW w' lo hi e v xs := by
  rcases h with h0 | ⟨g, off, cap, cur, rfl, h1, h2, h3, h4⟩
  · exact .inl h0
  · exact .inr ⟨g, off, cap, cur, rfl, h1, h2, (hk g rfl).trans h3, h4⟩
theorem OwnW.below (h : OwnW w lo hi e v xs) (hb : Below w.heap.size w w') : OwnW w' lo hi e v xs := h.keep fun g hg => hb.block g (h.blk g hg).2.2.1
theorem OwnW.cell (h : OwnW w lo hi e v xs) : ∃ A cap, v = .slice A xs.length cap ∧ xs.length ≤ cap ∧ cap ≤ maxLen ∧ (0 < xs.length → ∃ g off, A = some ⟨g, off, none⟩ ∧ lo ≤ g ∧ g < hi ∧ g < w.heap.size ∧ ∀ j, j < xs.length → w.cell? ⟨g, off + j, none⟩ = xs[j]? ∧ w.frozen? ⟨g, off + j, none⟩ = false) := by
  rcases h with ⟨rfl, rfl⟩ | ⟨g, off, cap, cur, rfl, h1, h2, h3, h4, h5, h6, h7⟩
  · exact ⟨none, 0, rfl, by simp, by simp, by simp⟩
  · refine ⟨_, cap, rfl, h4, h5, fun _ => ⟨g, off, rfl, h1, h2, (Array.getElem?_eq_some_iff.1 h3).1, fun j hj => ⟨?_, ?_⟩⟩⟩
    · rw [cell_of_row w g (off + j) cur e (0, 0) h3]
      conv => rhs; rw [← h7]
      rw [List.getElem?_take_of_lt hj, List.getElem?_drop]
      simp
    · simp [World.frozen?, h3]
/-- A store into it. -/
theorem OwnW.stored (h : OwnW w lo hi e v xs) {g off : Nat} {n cap : Nat} (hv : v = .slice (some ⟨g, off, none⟩) n cap) (k : Nat) (hk : k < xs.length) (x : Value) :
    OwnW (w.setCell ⟨g, off + k, none⟩ x) lo hi e v (xs.set k x) ∧ w.grownBy (w.setCell ⟨g, off + k, none⟩ x) (some g) := by
  rcases h with ⟨rfl, rfl⟩ | ⟨g', off', cap', cur, rfl, h1, h2, h3, h4, h5, h6, h7⟩
  · simp at hk
  · injection hv with e1 e2 e3
    injection e1 with e1
    injection e1 with e1 e4
    subst e1 e4 e2 e3
    have hs := heap_setCell_same w g' (off' + k) cur e x h3
    have hsz : off' + k < cur.size := by omega
    refine ⟨.inr ⟨g', off', cap', _, ?_, h1, h2, hs, by rw [List.length_set]; exact h4, h5, by simpa using h6, ?_⟩, ⟨rfl, rfl, rfl, by simp, fun i _ hne => heap_setCell_other w _ i x (fun e => hne (by rw [e]))⟩⟩
    · rw [List.length_set]
    · rw [List.length_set]
      conv => rhs; rw [← h7]
      apply List.ext_getElem?
      intro j
      by_cases hj : j < xs.length
      · rw [List.getElem?_take_of_lt hj, List.getElem?_drop, List.getElem?_set]
        simp only [Array.getElem?_toList, Array.getElem?_setIfInBounds]
        by_cases hjk : k = j
        · subst hjk
          rw [if_pos rfl, if_pos rfl, if_pos hsz, if_pos]
          simp [List.length_take, List.length_drop]; omega
        · rw [if_neg (by omega), if_neg hjk, List.getElem?_take_of_lt hj, List.getElem?_drop, Array.getElem?_toList]
      · rw [List.getElem?_eq_none (by simp [List.length_take, List.length_drop]; omega), List.getElem?_eq_none (by simp [List.length_take, List.length_drop]; omega)]
/-- Without its first element. -/
theorem OwnW.tail {A : Option Addr} {x : Value} {xs : List Value} {cap : Nat} (h : OwnW w lo hi e (.slice A (x :: xs).length cap) (x :: xs)) : ∃ g off, A = some ⟨g, off, none⟩ ∧ (x :: xs).length ≤ cap ∧ OwnW w lo hi e (.slice (some ⟨g, off + 1, none⟩) xs.length (cap - 1)) xs := by
  rcases h with ⟨h0, h1⟩ | ⟨g, off, cap', cur, hv, h1, h2, h3, h4, h5, h6, h7⟩
  · cases h1
  · injection hv with e1 e2 e3
    subst e1 e3
    refine ⟨g, off, rfl, h4, .inr ⟨g, off + 1, cap - 1, cur, rfl, h1, h2, h3, by simp at h4; omega, by omega, by simp at h4; omega, ?_⟩⟩
    have := congrArg (List.drop 1) h7
    rw [List.drop_take, List.drop_drop] at this
    simpa using this
/-- Its first elements. -/
theorem OwnW.front {A : Option Addr} {xs : List Value} {n cap : Nat} (h : OwnW w lo hi e (.slice A n cap) xs) (k : Nat) (hk : k ≤ xs.length) : OwnW w lo hi e (.slice A k cap) (xs.take k) := by
  rcases h with ⟨h0, rfl⟩ | ⟨g, off, cap', cur, hv, h1, h2, h3, h4, h5, h6, h7⟩
  · cases h0
    have : k = 0 := by simpa using hk
    subst this
    exact .inl ⟨rfl, rfl⟩
  · injection hv with e1 e2 e3
    subst e1 e3
    have hl : (xs.take k).length = k := by rw [List.length_take]; omega
    refine .inr ⟨g, off, cap, cur, by rw [hl], h1, h2, h3, by omega, h5, h6, ?_⟩
    rw [hl]
    conv => rhs; rw [← h7]
    rw [List.take_take, Nat.min_eq_left hk]
theorem OwnW.mono {lo' hi' : Nat} (h : OwnW w lo hi e v xs) (h1 : lo' ≤ lo) (h2 : hi ≤ hi') : OwnW w lo' hi' e v xs := by
  rcases h with h0 | ⟨g, off, cap, cur, rfl, k1, k2, k3⟩
  · exact .inl h0
  · exact .inr ⟨g, off, cap, cur, rfl, by omega, by omega, k3⟩
end
section
variable {P : Program} (w : World)
theorem run_append_ownW (lo hi : Nat) (t ty e : TypeId) (i : TypeInfo) (z : Value) (bytes : Nat) (ht : P.underlying t = some (.slice e)) (hi0 : P.info? e = some i) (hz : i.zero = some z)
    (hsize : i.size = 1) (hby : i.bytes = bytes) (hzs : z.cells.size = 1)
    (v : Value) (xs : List Value) (hown : OwnW w lo hi e v xs)
    (b c : Nat) (x : Value) (hx : w.cell? ⟨b, 0, none⟩ = some x) (h1 : x.oneCell' = true)
    (h63 : xs.length + 1 ≤ maxLen) (hbytes : (xs.length + 1) * bytes ≤ 140737488355328) (hlo : lo ≤ w.heap.size) :
    ∃ v' w', (Builtin.append_ #[t, t] ty #[v, .slice (some ⟨b, 0, none⟩) 1 c]).run P w = .ok v' w' ∧ OwnW w' lo w'.heap.size e v' (xs ++ [x]) ∧ w.grownBy w' v.ownBlock ∧ (v'.ownBlock = v.ownBlock ∨ v'.ownBlock = some w.heap.size) := by
  have hnews : ∀ j u, ([x] : List Value)[j]? = some u → w.cell? ((⟨b, 0, none⟩ : Addr).add j) = some u := by
    intro j u hu
    rcases j with _ | j
    · simp at hu; subst hu
      simpa [Addr.add] using hx
    · simp at hu
  have h1' : ∀ u ∈ ([x] : List Value), u.oneCell' = true := by intro u hu; simp at hu; subst hu; exact h1
  rcases hown with ⟨rfl, rfl⟩ | ⟨g, off, cap, cur, rfl, k1, k2, k3, k4, k5, k6, k7⟩
  · obtain ⟨v', w', hr, ho, hg, _, hat⟩ := run_append_own_at (P := P) w lo t ty e i z 1 bytes ht hi0 hz hsize hby hzs (by omega) (.slice none 0 0) 0 [] (World.ownsRow_nil _ _ _ _) ⟨b, 0, none⟩ 1 c [x] rfl hnews h1' h63 hbytes hlo
    refine ⟨v', w', hr, OwnW.of_row (by simpa using ho) (fun q hq => (ho.lt q hq).2), hg, hat⟩
  · by_cases hroom : xs.length + 1 ≤ cap
    · have hr := run_append_roomW (P := P) w t ty e i ht hi0 g off xs.length cap cur k3 ⟨b, 0, none⟩ 1 c [x] (by rw [hsize]; rfl) hnews h1' hroom (by rw [hsize]; simp; omega)
      rw [hsize] at hr
      simp only [Nat.mul_one, List.length_singleton] at hr
      refine ⟨_, _, hr, .inr ⟨g, off, cap, _, by simp, k1, ?_, setRow_heap w g cur _ e _ k3, by simp; omega, k5, ?_, ?_⟩, ⟨rfl, rfl, rfl, by simp, fun k _ hk => setRow_other w g k _ (fun e => hk (by simp [Value.ownBlock, e]))⟩, Or.inl rfl⟩
      · have := (Array.getElem?_eq_some_iff.1 k3).1; simp; omega
      · simp; omega
      · have hl : (cur.toList.take (off + xs.length)).length = off + xs.length := by simp; omega
        simp only [List.length_append, List.length_singleton]
        rw [List.append_assoc, List.drop_append_of_le_length (by rw [hl]; omega), List.drop_take, show off + xs.length - off = xs.length by omega, k7, List.take_append, List.take_of_length_le (by omega), show xs.length + 1 - xs.length = 1 by omega]
        simp
    · have holds : ∀ j u, xs[j]? = some u → w.cell? ((⟨g, off, none⟩ : Addr).add j) = some u := by
        intro j u hu
        have hj : j < xs.length := (List.getElem?_eq_some_iff.1 hu).1
        have hadd : (⟨g, off, none⟩ : Addr).add j = ⟨g, off + j, none⟩ := by unfold Addr.add; split <;> simp_all
        rw [hadd, cell_of_row w g (off + j) cur e (0, 0) k3, ← hu]
        conv => rhs; rw [← k7]
        rw [List.getElem?_take_of_lt hj, List.getElem?_drop]
        simp
      have hr := run_append_grow (P := P) w t ty e i z ht hi0 hz ⟨g, off, none⟩ xs.length cap xs (by rw [hsize]; simp) holds ⟨b, 0, none⟩ 1 c [x] (by rw [hsize]; rfl) hnews (by omega) (by unfold maxLen at h63; omega) (growslice_fits (by omega) (by rw [hby]; exact hbytes))
      have hge := grownCap_ge w (xs.length + 1) cap e
      have hcm : grownCap w (xs.length + 1) cap e ≤ maxLen := grownCap_le_maxLen w (xs.length + 1) cap e h63
      refine ⟨_, _, hr, .inr ⟨w.heap.size, 0, _, _, by simp, hlo, by simp, heap_alloc_new w.drew _, by simpa using hge, hcm, ?_, ?_⟩, ⟨rfl, rfl, rfl, by simp, fun k hk _ => (((Below.refl w.heap.size w).drew).alloc (Nat.le_refl _) _).block k hk⟩, Or.inr rfl⟩
      · simp only [Array.size_append, List.size_toArray, size_zeroCells, hzs]
        simp; omega
      · rw [Array.toList_append, Array.toList_append, List.drop_zero]
        exact List.take_left
end

/-- A part of a row of strings of the call's own. -/
abbrev OwnWT (w : World) (lo hi : Nat) (v : Value) (ss : List (List UInt8)) : Prop := OwnW w lo hi 9 v (strVals ss)
theorem strVals_len (ss : List (List UInt8)) : (strVals ss).length = ss.length := by simp [strVals]
theorem OwnT.win {w : World} {lo hi : Nat} {v : Value} {ss : List (List UInt8)} (h : OwnT w lo hi v ss) : OwnWT w lo hi v ss :=
  OwnW.of_row (by rw [strVals_len]; exact h.own) h.lt
theorem OwnWT.rd {w : World} {lo hi : Nat} {v : Value} {ss : List (List UInt8)} (h : OwnWT w lo hi v ss) : RdT w v ss := by
  obtain ⟨A, cap, rfl, h1, h2, h3⟩ := OwnW.cell h
  rw [strVals_len] at *
  refine ⟨A, cap, rfl, h1, by unfold maxLen at h2; omega, fun h0 => ?_⟩
  obtain ⟨g, off, rfl, _, _, hg, hc⟩ := h3 h0
  refine ⟨g, off, rfl, hg, fun j s hj => ?_⟩
  have hjl : j < ss.length := (List.getElem?_eq_some_iff.1 hj).1
  rw [(hc j hjl).1, strVals_get hj]
/-- append(s, x) of a string to such a part. -/
theorem wpList_append_strW {P : Program} {w : World} {ops : Array Oper} {rest : List Oper} {o : Oper} {a : Act} {Q : Exit → Act → World → Prop} (hgd : o.guard = none) (s x : Operand) (t : TypeId)
    (ho : o.op = .call { callee := .builtin .append, args := #[s, x], argTypes := #[t, t] })
    (ht : P.underlying t = some (.slice 9)) (hinfo : (P.info? 9).map (fun i => (i.zero, i.size, i.bytes)) = some (some (.string ⟨#[]⟩), 1, 16))
    (lo hi : Nat) (v : Value) (ss : List (List UInt8)) (hs : a.eval s = v) (hown : OwnWT w lo hi v ss) (hlo : lo ≤ w.heap.size)
    (b : Nat) (u : Value) (z : List UInt8) (hx : a.eval x = .slice (some ⟨b, 0, none⟩) 1 1) (h0 : w.cell? ⟨b, 0, none⟩ = some u) (hu : u = .string ⟨z.toArray⟩) (hlen : ss.length ≤ 1000000000)
    (h : ∀ v' w', OwnWT w' lo w'.heap.size v' (ss ++ [z]) → w.grownBy w' v.ownBlock → (v'.ownBlock = v.ownBlock ∨ v'.ownBlock = some w.heap.size) → wpList P ops Q rest (a.put o.dst v') w') : wpList P ops Q (o :: rest) a w := by
  obtain ⟨i, hi1, hz, hsz, hby⟩ := info_parts hinfo
  refine wpList_plain hgd fun K hK => ?_
  obtain ⟨v', w', hr, h2, h3, h4⟩ := run_append_ownW (P := P) w lo hi t o.type 9 i (.string ⟨#[]⟩) 16 ht hi1 hz hsz hby rfl v (strVals ss) hown b 1 (.string ⟨z.toArray⟩) (by rw [← hu]; exact h0) rfl (by rw [strVals_len]; unfold maxLen; omega) (by rw [strVals_len]; omega) hlo
  unfold Oper.wp execOp
  simp only [ho, resolve, invoke, builtin, Sem.run_bind, Sem.run_pure, Result.andThen_ok, List.map_toArray, List.map_cons, List.map_nil, hs, hx, hr]
  exact hK _ _ (h v' w' (by
    have e : strVals (ss ++ [z]) = strVals ss ++ [.string ⟨z.toArray⟩] := by simp [strVals]
    unfold OwnWT; rw [e]; exact h2) h3 h4)
end Go.Proofs.YtdabbjlefpgkmaaDoor
