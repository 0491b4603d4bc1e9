/- The model's l3Named, l3Tidy, EffectOk. -/
import Derived.Test.YtceekfoacgoalaaTx
import Derived.Test.YtceekfoacgoalaaBq
namespace Go.Proofs.Ytceekfoacgoalaa
set_option maxRecDepth 100000
open Go.RowKit Go.WideShapes Go.Deep

theorem occ_bd {n : Nat} {b : Bool} {zs r : List Int} (h : eat n b zs = some r) : ∀ x ∈ occ n b zs, (x.1 = 1 ∨ x.1 = 3) ∧ 0 ≤ x.2 ∧ x.2 ≤ 999 := by
  induction n generalizing b zs r with
  | zero => cases h
  | succ n ih =>
    have two : ∀ b2, (eat n true zs.tail).bind (eat n b2) = some r → ∀ x ∈ occ n true zs.tail ++ occ n b2 ((eat n true zs.tail).getD []), (x.1 = 1 ∨ x.1 = 3) ∧ 0 ≤ x.2 ∧ x.2 ≤ 999 := fun b2 hr x hx => by
      rcases h3 : eat n true zs.tail with _ | r1
      · rw [h3] at hr; cases hr
      · rw [h3] at hr hx
        rcases List.mem_append.1 hx with h4 | h4
        · exact ih h3 x h4
        · exact ih (b := b2) (zs := r1) hr x h4
    intro x hx
    rcases b with _ | _
    · rw [eat] at h
      rw [occ] at hx
      split at h
      · rename_i e; rw [if_pos e] at hx; cases hx
      rename_i e0
      rw [if_neg e0] at hx
      split at h
      · rename_i e; rw [if_pos e] at hx
        split at h
        · rename_i hb; rw [List.mem_singleton] at hx; subst hx; exact ⟨.inl rfl, hb⟩
        · cases h
      rename_i e1
      rw [if_neg e1] at hx
      split at h
      · exact two _ h x hx
      · cases h
    · rw [eat] at h
      rw [occ] at hx
      split at h
      · rename_i e; rw [if_pos e] at hx
        split at h
        · rename_i hb; rw [List.mem_singleton] at hx; subst hx; exact ⟨.inr rfl, hb⟩
        · cases h
      rename_i e0
      rw [if_neg e0] at hx
      split at h
      · exact two _ h x hx
      · cases h
theorem named_num (v ov : Value) (zs cs : List Int) (k : Nat) (w : World) (hv : RdI w v zs) (ho : RdI w ov cs) (hk : k < zs.length) (hzz : zs.getD k 0 = 0) :
    Calls Try.prog 52 #[v, ov, .int .i64 k, .bool false] w (NamPost [0] w) := by
  obtain ⟨A, c, rfl, hi, _⟩ := hv
  obtain ⟨b0, off, rfl, hb0, hcc⟩ := hi.at_ (by omega)
  have hc0 := hcc k hk
  rw [hzz] at hc0
  clear hi hcc hzz
  obtain ⟨Ao, co, rfl, _⟩ := ho
  have hkI : (k : Int) < zs.length := by omega
  have hl0 := lits_own w [0] (by simp) (by intro q hq; simp only [List.mem_cons, List.not_mem_nil, or_false] at hq; subst hq; exact wf_near _ (by omega))
  have L := Lib.hid (And.intro hl0 ((Below.refl w.heap.size w).alloc (Nat.le_refl _) (.cells #[.int .i64 0] 3))); clear hl0
  go_enter Try.func52, Try.ntmps52
  go_wp2
  go_ret
  exact ⟨_, rfl, by simpa using L.out.1, L.out.2⟩
theorem l3Named_any (n : Nat) : ∀ (b : Bool) (v ov : Value) (zs r : List Int) (L : List (Int × Int)) (k : Nat) (w : World), RdI w v zs → RdI w ov (L.map code) → (∀ x ∈ L, (x.1 = 1 ∨ x.1 = 3) ∧ 0 ≤ x.2 ∧ x.2 ≤ 999) → zs.length ≤ 1000000 → L.length ≤ 1000000 → eat n b (zs.drop k) = some r → (∀ x ∈ occ n b (zs.drop k), x ∈ L) →
    Calls Try.prog 52 #[v, ov, .int .i64 k, .bool b] w (NamPost (nam n b (zs.drop k) L) w) := by
  induction n with
  | zero => intro b v ov zs r L k w _ _ _ _ _ h; cases h
  | succ n ih =>
    intro b v ov zs r L k w hv ho hL hl hll heat hocc
    obtain ⟨_, hk, _, _, _⟩ := end_ok heat
    obtain ⟨z, hz⟩ : ∃ z, zs.getD k 0 = z := ⟨_, rfl⟩
    have hd : zs.drop k = z :: zs.drop (k + 1) := by
      rw [List.drop_eq_getElem_cons hk]
      congr 1
      rw [← hz]; simp [List.getD, List.getElem?_eq_getElem hk]
    have two : ∀ (b2 : Bool), (eat n true (zs.drop (k + 1))).bind (eat n b2) = some r → (∀ x ∈ occ n true (zs.drop (k + 1)) ++ occ n b2 ((eat n true (zs.drop (k + 1))).getD []), x ∈ L) → ∃ (m : Nat) (r1 : List Int), eat n true (zs.drop (k + 1)) = some r1 ∧ k + 1 < zs.length ∧
        (Calls Try.prog 50 #[v, .int .i64 ((k : Int) + 1), .bool true] w fun e w' => e = .returned (.int .i64 (m : Int)) ∧ w = w') ∧
        (∀ W, RdI W v zs → RdI W ov (L.map code) → Calls Try.prog 52 #[v, ov, .int .i64 ((k : Int) + 1), .bool true] W (NamPost (nam n true (zs.drop (k + 1)) L) W)) ∧
        (∀ W, RdI W v zs → RdI W ov (L.map code) → Calls Try.prog 52 #[v, ov, .int .i64 (m : Int), .bool b2] W (NamPost (nam n b2 r1 L) W)) ∧
        (nam n true (zs.drop (k + 1)) L).length ≤ 1000000 ∧ (nam n b2 r1 L).length ≤ 1000000 := by
      intro b2 hb2 ho2
      rcases h3 : eat n true (zs.drop (k + 1)) with _ | r1
      · rw [h3] at hb2; cases hb2
      · rw [h3] at hb2 ho2
        simp only [Option.bind_some, Option.getD_some] at hb2 ho2
        obtain ⟨f1, f2, f3, f4, f5⟩ := end_ok h3
        have cE := l3End_any zs.length v true (k + 1) zs w hv (by omega) (by omega) (by omega)
        rw [f1] at cE
        have l1 := (nam_iff h3 L).2
        have l2 := (nam_iff hb2 L).2
        rw [List.length_drop] at l1
        refine ⟨zs.length - r1.length, r1, rfl, f2, by simpa using cE, fun W hv' ho' => ?_, fun W hv' ho' => ?_, by omega, by omega⟩
        · have h := ih true v ov zs r1 L (k + 1) W hv' ho' hL hl hll h3 (fun x hx => ho2 x (List.mem_append_left _ hx))
          simpa using h
        · have h := ih b2 v ov zs r L (zs.length - r1.length) W hv' ho' hL hl hll (by rw [f4]; exact hb2) (fun x hx => ho2 x (List.mem_append_right _ (by rw [f4] at hx; exact hx)))
          rw [f4] at h
          exact h
    rcases b with _ | _
    · by_cases h0 : z = 0
      · subst h0
        rw [hd, nam_f, if_pos rfl]
        exact named_num v ov zs _ k w hv ho hk hz
      by_cases h1 : z = 1
      · subst h1
        have hy : lettAt zs k := by
          by_cases hL : lettAt zs k
          · exact hL
          · exfalso
            have h1 := ((endAt_next n hk hz).2.1 rfl).2 hL
            rw [endAt, heat] at h1
            simp only [endOf] at h1
            omega
        have hm : ((1 : Int), zs.getD (k + 1) 0) ∈ L := hocc _ (by rw [hd, occ_f, if_neg (by omega), if_pos rfl, getD_drop _ _ hy.1]; simp)
        have h := named_lett false 1 (.inl ⟨rfl, rfl⟩) v ov zs L k w hv ho hL hl hll hy hz hm
        rw [hd, nam_f, if_neg (by omega), if_pos rfl, getD_drop _ _ hy.1]
        exact h
      have heat2 := heat
      rw [hd, eat_f, if_neg h0, if_neg h1] at heat2
      by_cases h2 : z = 2
      · subst h2
        rw [if_pos rfl] at heat2
        obtain ⟨m, r1, g1, g2, g3, g4, g5, g6, g7⟩ := two true heat2 (by intro x hx; exact hocc x (by rw [hd, occ_f, if_neg (by omega), if_neg (by omega)]; exact hx))
        rw [hd, nam_f, if_neg (by omega), if_neg (by omega), g1]
        exact named_prog v ov zs _ _ _ k m w hv ho hl g2 hz g3 g4 g5 ⟨g6, g7⟩
      · rw [if_neg h2] at heat2; cases heat2
    · by_cases h1 : z = 3
      · subst h1
        have hy : lettAt zs k := by
          have heat2 := heat
          rw [hd, eat_t, if_pos rfl] at heat2
          split at heat2
          · rename_i h
            exact (lettAt_iff zs k).1 h
          · cases heat2
        have hm : ((3 : Int), zs.getD (k + 1) 0) ∈ L := hocc _ (by rw [hd, occ_t, if_pos rfl, getD_drop _ _ hy.1]; simp)
        have h := named_lett true 3 (.inr ⟨rfl, rfl⟩) v ov zs L k w hv ho hL hl hll hy hz hm
        rw [hd, nam_t, if_pos rfl, getD_drop _ _ hy.1]
        exact h
      have heat2 := heat
      rw [hd, eat_t, if_neg h1] at heat2
      by_cases h2 : z = 4
      · subst h2
        rw [if_pos rfl] at heat2
        obtain ⟨m, r1, g1, g2, g3, g4, g5, g6, g7⟩ := two false heat2 (by intro x hx; exact hocc x (by rw [hd, occ_t, if_neg (by omega)]; exact hx))
        rw [hd, nam_t, if_neg (by omega), g1]
        exact named_put v ov zs _ _ _ k m w hv ho hl g2 hz g3 g4 g5 ⟨g6, g7⟩
      · rw [if_neg h2] at heat2; cases heat2
end Go.Proofs.Ytceekfoacgoalaa
