/- The model's l3Match at every two rows or types; MoreGeneral of the model. -/
import Derived.Test.YtceekfoacgoalaaQj
import Derived.Test.YtceekfoacgoalaaQh
import Derived.Deep.RegionHeld3
import Derived.BigQuiet
namespace Go.Proofs.Ytceekfoacgoalaa
set_option maxRecDepth 100000
open Go.RowKit Go.WideShapes Go.Deep

set_option maxHeartbeats 1000000 in
theorem match_head (z z' : Int) (r1 r2 : List Int) (u va vb : Value) (b : Bool) (w : World) (hz : ¬ (z = 1 ∨ z = 3)) (h : z ≠ z' ∨ z = 0) (ha : RdI w va (z :: r1)) (hb : RdI w vb (z' :: r2)) :
    Calls Try.prog 37 #[u, va, vb, .bool b] w fun e w' => e = .returned (.tuple #[u, .bool (z == z')]) ∧ Below w.heap.size w w' := by
  obtain ⟨A, c, rfl, hi, _⟩ := ha
  obtain ⟨d, off, rfl, hbd, hcc⟩ := hi.at_ (by simp)
  have c0 : w.cell? ⟨d, off, none⟩ = some (.int .i64 z) := hcc 0 (by simp)
  obtain ⟨B, cb, rfl, hj, _⟩ := hb
  obtain ⟨d2, off2, rfl, hbd2, hcc2⟩ := hj.at_ (by simp)
  have d0 : w.cell? ⟨d2, off2, none⟩ = some (.int .i64 z') := hcc2 0 (by simp)
  clear hi hcc hj hcc2
  obtain ⟨n, hn⟩ : ∃ n, (z :: r1).length = n := ⟨_, rfl⟩
  obtain ⟨m, hm⟩ : ∃ m, (z' :: r2).length = m := ⟨_, rfl⟩
  have hn0 : 0 < n := by rw [← hn]; simp
  have hm0 : 0 < m := by rw [← hm]; simp
  rw [hn, hm]
  clear hn hm
  have hnI : (0 : Int) < (n : Int) := by omega
  have hmI : (0 : Int) < (m : Int) := by omega
  have h1 : (z == 1) = false := by simp; omega
  have h3 : (z == 3) = false := by simp; omega
  by_cases he : z = z'
  · subst he
    have hz0 : z = 0 := by rcases h with h | h <;> first | exact absurd rfl h | exact h
    subst hz0
    clear h hz h1 h3
    go_enter Try.func37, Try.ntmps37
    go_wp2
    go_quiet (fail)
    go_wp2
    go_quiet (fail)
    go_wp2
    go_ret2
    exact ⟨rfl, by first | exact below_drewN (below_drewN (Below.refl _ _) _) _ | exact below_drewN (Below.refl _ _) _⟩
  · have hzz : (z != z') = true := by simpa using he
    have hzz2 : (z == z') = false := by simpa using he
    rw [hzz2]
    clear h he hz
    go_enter Try.func37, Try.ntmps37
    go_wp2
    go_quiet (fail)
    go_wp2
    go_quiet (fail)
    go_wp2
    go_ret2
    exact ⟨rfl, by first | exact below_drewN (below_drewN (Below.refl _ _) _) _ | exact below_drewN (Below.refl _ _) _⟩
theorem MatP.below {S T : Ty} {σ : Sbt} {w X : World} {e : Ending} {w' : World} (hb : Below w.heap.size w X) (h : MatP S T σ X e w') : MatP S T σ w e w' := by
  obtain ⟨u, y, h1, h2, h3⟩ := h
  exact ⟨u, y, h1, hb.trans (h2.mono hb.size), h3⟩
set_option maxHeartbeats 4000000 in
theorem match_two (z : Int) (y2 b : Bool) (S1 S2 T1 T2 S T : Ty) (u va vb : Value) (σ : Sbt) (w : World) (hz : ¬ (z = 1 ∨ z = 3)) (hz0 : z ≠ 0) (hy2 : (z == 2) = y2)
    (hcov : covT S T σ = (covT S1 T1 σ).bind (covT S2 T2)) (h1 : S1.ok true) (h2 : T1.ok true)
    (l1 : S1.nums.length + S2.nums.length ≤ 149) (l2 : T1.nums.length + T2.nums.length ≤ 149) (ha : RdI w va (z :: (S1.nums ++ S2.nums))) (hb : RdI w vb (z :: (T1.nums ++ T2.nums)))
    (H1 : ∀ X va vb, Below w.heap.size w X → RdI X va S1.nums → RdI X vb T1.nums → Calls Try.prog 37 #[u, va, vb, .bool true] X (MatP S1 T1 σ X))
    (H2 : ∀ X u va vb τ zss, Below w.heap.size w X → covT S1 T1 σ = some τ → Rep τ zss → zss.length ≤ 2000 → RdS X u zss → RdI X va S2.nums → RdI X vb T2.nums → Calls Try.prog 37 #[u, va, vb, .bool y2] X (MatP S2 T2 τ X)) :
    Calls Try.prog 37 #[u, va, vb, .bool b] w (MatP S T σ w) := by
  have ha9 := ha
  have hb9 := hb
  obtain ⟨A, c, rfl, hi, hca⟩ := ha
  obtain ⟨d, off, rfl, hbd, hcc⟩ := hi.at_ (by simp)
  have c0 : w.cell? ⟨d, off, none⟩ = some (.int .i64 z) := hcc 0 (by simp)
  obtain ⟨B, cb, rfl, hj, hcb⟩ := hb
  obtain ⟨d2, off2, rfl, hbd2, hcc2⟩ := hj.at_ (by simp)
  have d0 : w.cell? ⟨d2, off2, none⟩ = some (.int .i64 z) := hcc2 0 (by simp)
  have s1 := nums_pos S1
  have s2 := nums_pos S2
  have t1 := nums_pos T1
  have t2 := nums_pos T2
  obtain ⟨pa1, pa2⟩ := ints_part ha9 (List.length_pos_iff.1 s1) (List.length_pos_iff.1 s2)
  obtain ⟨pb1, pb2⟩ := ints_part hb9 (List.length_pos_iff.1 t1) (List.length_pos_iff.1 t2)
  have ea := end_two (T := S2) z h1
  have eb := end_two (T := T2) z h2
  have fa : ∀ X, Below w.heap.size w X → Calls Try.prog 50 #[.slice (some ⟨d, off, none⟩) (z :: (S1.nums ++ S2.nums)).length c, .int .i64 1, .bool true] X fun e w' => e = .returned (.int .i64 ((1 + S1.nums.length : Nat) : Int)) ∧ X = w' := fun X hX => by
    have h := l3End_any (z :: (S1.nums ++ S2.nums)).length _ true 1 _ X (ha9.step hX) (by simp; omega) (by omega) (by omega)
    rw [ea] at h; exact h
  have fb : ∀ X, Below w.heap.size w X → Calls Try.prog 50 #[.slice (some ⟨d2, off2, none⟩) (z :: (T1.nums ++ T2.nums)).length cb, .int .i64 1, .bool true] X fun e w' => e = .returned (.int .i64 ((1 + T1.nums.length : Nat) : Int)) ∧ X = w' := fun X hX => by
    have h := l3End_any (z :: (T1.nums ++ T2.nums)).length _ true 1 _ X (hb9.step hX) (by simp; omega) (by omega) (by omega)
    rw [eb] at h; exact h
  obtain ⟨n, hn⟩ : ∃ n, (z :: (S1.nums ++ S2.nums)).length = n := ⟨_, rfl⟩
  obtain ⟨m, hm⟩ : ∃ m, (z :: (T1.nums ++ T2.nums)).length = m := ⟨_, rfl⟩
  obtain ⟨i, hi1⟩ : ∃ i, 1 + S1.nums.length = i := ⟨_, rfl⟩
  obtain ⟨j, hj1⟩ : ∃ j, 1 + T1.nums.length = j := ⟨_, rfl⟩
  have hn9 : n = i + S2.nums.length := by rw [← hn, ← hi1]; simp; omega
  have hm9 : m = j + T2.nums.length := by rw [← hm, ← hj1]; simp; omega
  obtain ⟨va1, hva1⟩ : ∃ v, sliced (some ⟨d, off, none⟩) 1 i c 1 = v := ⟨_, rfl⟩
  obtain ⟨va2, hva2⟩ : ∃ v, sliced (some ⟨d, off, none⟩) i n c 1 = v := ⟨_, rfl⟩
  obtain ⟨vb1, hvb1⟩ : ∃ v, sliced (some ⟨d2, off2, none⟩) 1 j cb 1 = v := ⟨_, rfl⟩
  obtain ⟨vb2, hvb2⟩ : ∃ v, sliced (some ⟨d2, off2, none⟩) j m cb 1 = v := ⟨_, rfl⟩
  rw [hi1, hva1] at pa1
  rw [hi1, hn, hva2] at pa2
  rw [hj1, hvb1] at pb1
  rw [hj1, hm, hvb2] at pb2
  rw [hi1, hn] at fa
  rw [hj1, hm] at fb
  rw [hn] at hca
  rw [hm] at hcb
  rw [hn, hm]
  have q1 : ∀ W, (Instr.slice 23 (.slice (some ⟨d, off, none⟩) n c) (some (.int .i64 1)) (some (.int .i64 (i : Int))) none).run Try.prog W = .ok va1 W := fun W => by rw [← hva1]; exact cut_mid _ _ _ _ (by omega) (by omega) W
  have q2 : ∀ W, (Instr.slice 23 (.slice (some ⟨d, off, none⟩) n c) (some (.int .i64 (i : Int))) none none).run Try.prog W = .ok va2 W := fun W => by rw [← hva2]; exact cut_from _ _ _ _ (by omega) W
  have q3 : ∀ W, (Instr.slice 23 (.slice (some ⟨d2, off2, none⟩) m cb) (some (.int .i64 1)) (some (.int .i64 (j : Int))) none).run Try.prog W = .ok vb1 W := fun W => by rw [← hvb1]; exact cut_mid _ _ _ _ (by omega) (by omega) W
  have q4 : ∀ W, (Instr.slice 23 (.slice (some ⟨d2, off2, none⟩) m cb) (some (.int .i64 (j : Int))) none none).run Try.prog W = .ok vb2 W := fun W => by rw [← hvb2]; exact cut_from _ _ _ _ (by omega) W
  have hnN : 0 < n := by omega
  have hmN : 0 < m := by omega
  have hn0 : (0 : Int) < (n : Int) := by omega
  have hm0 : (0 : Int) < (m : Int) := by omega
  have e1 : (z == 1) = false := by simp; omega
  have e3 : (z == 3) = false := by simp; omega
  have e0 : (z == 0) = false := by simpa using hz0
  have ezz : (z != z) = false := by simp
  have HF := Lib.hid (And.intro fa fb)
  have HP := Lib.hid (And.intro (And.intro pa1 pa2) (And.intro pb1 pb2))
  have HC := Lib.hid (And.intro hcov hy2)
  have HH1 := Lib.hid H1; have HH2 := Lib.hid H2
  have hyb := hy2
  clear hcov hy2 H1 H2 pa1 pa2 pb1 pb2 fa fb ea eb ha9 hb9 hi hj hcc hcc2 hn hm hi1 hj1 hn9 hm9 hva1 hva2 hvb1 hvb2 hz hz0 s1 s2 t1 t2 l1 l2
  go_enter Try.func37, Try.ntmps37
  go_wp2
  go_quiet (fail)
  go_wp2_with fail
  refine (HF.out.1 _ (below_drewN (Below.refl _ _) _)).mono ?_
  rintro e w1 ⟨rfl, he⟩
  have hb1 : Below w.heap.size w w1 := by rw [← he]; exact below_drewN (Below.refl _ _) _
  clear he
  go_wp2_with fail
  refine (HF.out.2 _ hb1).mono ?_
  rintro e w2 ⟨rfl, he⟩
  have hb2 : Below w.heap.size w w2 := by rw [← he]; exact hb1
  clear he hb1 HF
  have B2 := Lib.hid hb2
  have a0 := (hb2.cell (p := ⟨d, off, none⟩) hbd).trans c0
  clear hb2
  have bD : Below w.heap.size w w2.drew := B2.out.drew
  go_wp2
  go_region_held3 (fun w' => w'.cell? ⟨d, off, none⟩ = some (.int .i64 z)) (repeat' (first | with_reducible exact a0 | with_reducible exact l0 | apply And.intro | rw [World.cell?_drew])) (first
    | (go_at_call 37; refine (HH1.out _ _ _ (by first | exact bD | exact B2.out) (HP.out.1.1.step (by first | exact bD | exact B2.out)) (HP.out.2.1.step (by first | exact bD | exact B2.out))).mono ?_; rintro e w3 ⟨u1, y1, rfl, hb3, hq0, hq1⟩; have b3 : Below w.heap.size w w3 := (by first | exact bD.trans (hb3.mono bD.size) | exact B2.out.trans (hb3.mono B2.out.size)); have l0 := (b3.cell (p := ⟨d, off, none⟩) hbd).trans c0; have B3 := Lib.hid (And.intro b3 (And.intro hq0 hq1)); clear hb3 hq0 hq1 b3)
    | fail)
  rcases y1 with _ | _
  · go_wp2
    go_ret2
    refine ⟨_, false, rfl, B3.out.1, fun _ => ?_, fun h => (by cases h)⟩
    have h9 : covT S1 T1 σ = none := by first | exact B3.out.2.1 rfl | exact B3.out.2.1 trivial | exact (B3.out.2.1 (by simp))
    rw [HC.out.1, h9]
    rfl
  obtain ⟨τ, zss', hτ, hrep, hl, hu⟩ : ∃ τ zss, covT S1 T1 σ = some τ ∧ Rep τ zss ∧ zss.length ≤ 2000 ∧ RdS w3 u1 zss := by first | exact B3.out.2.2 rfl | exact B3.out.2.2 trivial | exact (B3.out.2.2 (by simp))
  have HT := Lib.hid (And.intro hτ (And.intro hrep hu)); clear hτ hrep hu
  have bD3 : Below w3.heap.size w3 w3.drew := (Below.refl _ _).drew
  have hbd3 : d < w3.heap.size := by have := B3.out.1.size; omega
  clear a0 bD
  go_wp2
  go_region_held3 (fun w' => w'.cell? ⟨d, off, none⟩ = some (.int .i64 z)) (repeat' (first | with_reducible exact l0 | with_reducible exact m0 | apply And.intro | rw [World.cell?_drew])) (first
    | (go_at_call 37; refine (HH2.out _ _ _ _ τ zss' (by first | exact B3.out.1.drew | exact B3.out.1) HT.out.1 HT.out.2.1 hl (HT.out.2.2.step (by first | exact bD3 | exact Below.refl _ _)) (HP.out.1.2.step (by first | exact B3.out.1.drew | exact B3.out.1)) (HP.out.2.2.step (by first | exact B3.out.1.drew | exact B3.out.1))).mono ?_; rintro e w4 ⟨u2, y3, rfl, hb4, hq0, hq1⟩; have b4 : Below w3.heap.size w3 w4 := (by first | exact bD3.trans hb4 | exact hb4); have m0 := (b4.cell (p := ⟨d, off, none⟩) hbd3).trans l0; have B4 := Lib.hid (And.intro (B3.out.1.trans (b4.mono B3.out.1.size)) (And.intro hq0 hq1)); clear hb4 hq0 hq1 b4)
    | fail)
  go_wp2
  go_ret2
  refine ⟨_, _, rfl, B4.out.1, fun h => ?_, fun h => ?_⟩
  · rw [HC.out.1, HT.out.1]; exact B4.out.2.1 h
  · obtain ⟨ρ, zss2, k1, k2⟩ := B4.out.2.2 h
    exact ⟨ρ, zss2, by rw [HC.out.1, HT.out.1]; exact k1, k2⟩
theorem match_ty (S : Ty) : ∀ (T : Ty) (b : Bool) (u va vb : Value) (σ : Sbt) (zss : List (List Int)) (w : World), S.ok b → T.ok b → S.nums.length ≤ 150 → T.nums.length ≤ 150 → σ.ok → Rep σ zss → zss.length ≤ 2000 → RdS w u zss → RdI w va S.nums → RdI w vb T.nums →
    Calls Try.prog 37 #[u, va, vb, .bool b] w (MatP S T σ w) := by
  have head : ∀ (z z' : Int) (r1 r2 : List Int) (S T : Ty) (b : Bool) (u va vb : Value) (σ : Sbt) (zss : List (List Int)) (w : World), (z ≠ z' ∧ covT S T σ = none ∨ z = 0 ∧ z' = 0 ∧ covT S T σ = some σ) → ¬ (z = 1 ∨ z = 3) → Rep σ zss → zss.length ≤ 2000 → RdS w u zss → RdI w va (z :: r1) → RdI w vb (z' :: r2) →
      Calls Try.prog 37 #[u, va, vb, .bool b] w (MatP S T σ w) := by
    intro z z' r1 r2 S T b u va vb σ zss w h hz hrep hl hu ha hb
    refine (match_head z z' r1 r2 u va vb b w hz (by rcases h with h | h; exact .inl h.1; exact .inr h.1) ha hb).mono ?_
    rintro e w' ⟨rfl, hb⟩
    refine ⟨u, _, rfl, hb, fun h1 => ?_, fun h1 => ?_⟩
    · rcases h with ⟨_, h⟩ | ⟨rfl, rfl, _⟩
      · exact h
      · simp at h1
    · rcases h with ⟨h, _⟩ | ⟨_, _, h⟩
      · exact absurd (by simpa using h1) h
      · exact ⟨σ, zss, h, hrep, hl, hu.step hb⟩
  induction S with
  | num =>
    intro T b u va vb σ zss w hS hT lS lT hσ hrep hl hu ha hb
    cases b with
    | true => cases hS
    | false =>
    cases T with
    | num => exact head 0 0 [] [] _ _ _ u va vb σ zss w (.inr ⟨rfl, rfl, rfl⟩) (by decide) hrep hl hu ha hb
    | any m => exact head 0 1 [] [m] _ _ _ u va vb σ zss w (.inl ⟨by decide, rfl⟩) (by decide) hrep hl hu ha hb
    | prog C D => exact head 0 2 [] _ _ _ _ u va vb σ zss w (.inl ⟨by decide, rfl⟩) (by decide) hrep hl hu ha hb
    | rest m => cases hT
    | put C D => cases hT
  | any n =>
    intro T b u va vb σ zss w hS hT lS lT hσ hrep hl hu ha hb
    cases b with
    | true => cases hS
    | false =>
    obtain ⟨k, rfl⟩ := Int.eq_ofNat_of_zero_le (show 0 ≤ n from hS.1)
    have hk : k ≤ 999 := by have : (k : Int) ≤ 999 := hS.2; omega
    exact match_any k T u va vb σ zss w hk lT hT hσ hrep hl hu ha hb
  | rest n =>
    intro T b u va vb σ zss w hS hT lS lT hσ hrep hl hu ha hb
    cases b with
    | false => cases hS
    | true =>
    obtain ⟨k, rfl⟩ := Int.eq_ofNat_of_zero_le (show 0 ≤ n from hS.1)
    have hk : k ≤ 999 := by have : (k : Int) ≤ 999 := hS.2; omega
    exact match_rest k T u va vb σ zss w hk lT hT hσ hrep hl hu ha hb
  | prog A B ihA ihB =>
    intro T b u va vb σ zss w hS hT lS lT hσ hrep hl hu ha hb
    cases b with
    | true => cases hS
    | false =>
    cases T with
    | num => exact head 2 0 _ [] _ _ _ u va vb σ zss w (.inl ⟨by decide, rfl⟩) (by decide) hrep hl hu ha hb
    | any m => exact head 2 1 _ [m] _ _ _ u va vb σ zss w (.inl ⟨by decide, rfl⟩) (by decide) hrep hl hu ha hb
    | rest m => cases hT
    | put C D => cases hT
    | prog C D =>
      have l1 : A.nums.length + B.nums.length ≤ 149 := by simp [Ty.nums] at lS; omega
      have l2 : C.nums.length + D.nums.length ≤ 149 := by simp [Ty.nums] at lT; omega
      refine match_two 2 true false A B C D _ _ u va vb σ w (by decide) (by decide) (by decide) rfl hS.1 hT.1 l1 l2 ha hb (fun X va vb hX h1 h2 => ihA C true u va vb σ zss X hS.1 hT.1 (by omega) (by omega) hσ hrep hl (hu.step hX) h1 h2) ?_
      intro X u va vb τ zss' hX hτ hr hl' hu' h1 h2
      exact ihB D true u va vb τ zss' X hS.2 hT.2 (by omega) (by omega) (covT_ok hS.1 hT.1 (by omega) hσ hτ) hr hl' hu' h1 h2
  | put A B ihA ihB =>
    intro T b u va vb σ zss w hS hT lS lT hσ hrep hl hu ha hb
    cases b with
    | false => cases hS
    | true =>
    cases T with
    | num => cases hT
    | any m => cases hT
    | prog C D => cases hT
    | rest m => exact head 4 3 _ [m] _ _ _ u va vb σ zss w (.inl ⟨by decide, rfl⟩) (by decide) hrep hl hu ha hb
    | put C D =>
      have l1 : A.nums.length + B.nums.length ≤ 149 := by simp [Ty.nums] at lS; omega
      have l2 : C.nums.length + D.nums.length ≤ 149 := by simp [Ty.nums] at lT; omega
      refine match_two 4 false true A B C D _ _ u va vb σ w (by decide) (by decide) (by decide) rfl hS.1 hT.1 l1 l2 ha hb (fun X va vb hX h1 h2 => ihA C true u va vb σ zss X hS.1 hT.1 (by omega) (by omega) hσ hrep hl (hu.step hX) h1 h2) ?_
      intro X u va vb τ zss' hX hτ hr hl' hu' h1 h2
      exact ihB D false u va vb τ zss' X hS.2 hT.2 (by omega) (by omega) (covT_ok hS.1 hT.1 (by omega) hσ hτ) hr hl' hu' h1 h2
end Go.Proofs.Ytceekfoacgoalaa
