/- Chapter 5, the program's: moveAt, MoveDo, MovesAt. -/
import Derived.Test.YtkdpfiaegimnlaaDoorVi
import Derived.Deep.RegionWith
import Derived.Deep.RegionLaw
import Derived.IntWalk
namespace Go.Proofs.YtkdpfiaegimnlaaDoor
set_option maxRecDepth 100000
open Go.RowKit Go.WideShapes

def takesL : List Int := [1, 1, 2, 1, 2, 2, 3, 2, 2]
theorem takesL_get {k : Nat} (h : k ≤ 8) : takesL[k]? = some ((takesR k : Nat) : Int) := by
  rcases k with _ | _ | _ | _ | _ | _ | _ | _ | _ | k
  all_goals first | rfl | omega
theorem ruleR_le (o low : Int) : ruleR o low ≤ 8 := by
  unfold ruleR
  repeat' split
  all_goals omega
def move3R (ps : List (List Int)) (at_ : Int) : List Int × Int × Bool :=
  match moveR ps at_ with
  | none => ([], 0, false)
  | some x => (x.1, ((x.2 : Nat) : Int), true)
def MvPost (w : World) (y : List Int) (k : Int) (b : Bool) (e : Ending) (w' : World) : Prop := ∃ u, e = .returned (.tuple #[u, .int .i64 k, .bool b]) ∧ OwnI w' w.heap.size w'.heap.size u y ∧ Below w.heap.size w w'
theorem move3R_out {ps : List (List Int)} {at_ : Int} (h : at_ < 0 ∨ (ps.length : Int) ≤ at_) : move3R ps at_ = ([], 0, false) := by
  unfold move3R moveR; rw [if_pos h]
theorem move3R_in {ps : List (List Int)} {a m : Nat} {op low : Int} (ha : a < ps.length) (hm : manyR (ps.drop a) = m) (hop : (ps.getD (a + m) []).getD 0 0 = op) (hlow : (ps.getD a []).getD 0 0 = low) : move3R ps a =
    if m = 0 ∨ a + m = ps.length then ([], 0, false) else
    if m = takesR (ruleR op low) then
      if (ahead2 ((ps.drop a).take m) op).2 = true then
        if ((ps.take a).flatten ++ (ahead2 ((ps.drop a).take m) op).1 ++ (ps.drop (a + m + 1)).flatten).length ≤ 60 then ((ps.take a).flatten ++ (ahead2 ((ps.drop a).take m) op).1 ++ (ps.drop (a + m + 1)).flatten, ((ruleR op low : Nat) : Int), true) else ([], 0, false)
      else ([], 0, false)
    else ([], 0, false) := by
  unfold move3R moveR
  rw [if_neg (by omega), Int.toNat_natCast]
  unfold useR
  rw [hm]
  have e1 : (ps.drop a).getD m [] = ps.getD (a + m) [] := by simp [List.getD, List.getElem?_drop]
  have e2 : (ps.drop a).getD 0 [] = ps.getD a [] := by simp [List.getD, List.getElem?_drop]
  rw [e1, e2, hop, hlow]
  by_cases h1 : m = 0 ∨ a + m = ps.length
  · rw [if_pos h1, if_pos (by simp; omega)]
  · rw [if_neg h1, if_neg (by simp; omega)]
    unfold useAt
    by_cases h2 : m = takesR (ruleR op low)
    · rw [if_pos h2, if_pos h2]
      unfold ahead2
      rcases aheadR ((ps.drop a).take m) op with _ | x
      · simp
      · simp only [Option.map_some, List.drop_drop, if_true]
        rw [show a + (m + 1) = a + m + 1 from by omega]
        generalize (ps.take a).flatten ++ x ++ (ps.drop (a + m + 1)).flatten = q
        by_cases hq : q.length ≤ 60 <;> simp [hq]
    · rw [if_neg h2, if_neg h2]
theorem concatF (v : Value) (zss : List (List Int)) (f : List Int) (w : World) (h : RdS w v zss) (hf : zss.flatten = f) (hn : zss.length ≤ 1000000) (hl : f.length ≤ 1000000000) :
    Calls Tryd.prog 65 #[v] w fun e w' => ∃ v, e = .returned v ∧ Own w' w.heap.size v f ∧ Below w.heap.size w w' := by
  subst hf; exact concatS v zss w h hn hl
theorem lit3 {w : World} {u0 u1 u2 : Value} {z0 z1 z2 : List Int} (h0 : RdI w u0 z0) (h1 : RdI w u1 z1) (h2 : RdI w u2 z2) : ∀ (j : Nat) u zs, [u0, u1, u2][j]? = some u → [z0, z1, z2][j]? = some zs → RdI w u zs := by
  intro j u zs hu hz
  rcases j with _ | _ | _ | j
  · simp at hu hz; subst hu; subst hz; exact h0
  · simp at hu hz; subst hu; subst hz; exact h1
  · simp at hu hz; subst hu; subst hz; exact h2
  · simp at hu
theorem hdC {w w4 wA wB wC : World} {o : Obj} {q : Value} {zs : List Int} (hbw : Below w.heap.size w w4) (hA : w4.heap.size ≤ wA.heap.size) (hB : wA.heap.size ≤ wB.heap.size) (hbA : Below w4.drew.heap.size w4.drew wA) (hbB : Below wA.heap.size wA wB) (ho : Own wC (wB.alloc o).heap.size q zs) (hbC : Below (wB.alloc o).heap.size (wB.alloc o) wC) : OwnI wC w.heap.size wC.heap.size q zs ∧ Below w.heap.size w wC := by
  have h4 := hbw.size
  have e : (wB.alloc o).heap.size = wB.heap.size + 1 := World.size_alloc _ _
  rw [e] at ho hbC
  refine ⟨⟨ho.mono (by omega), fun k hk => (ho.ge k hk).2⟩, ?_⟩
  exact (((hbw.drew).trans (hbA.mono h4)).trans (hbB.mono (by omega))).trans (((Below.refl _ _).alloc (Nat.le_refl _) o).trans (hbC.mono (by omega)) |>.mono (by omega))
set_option maxHeartbeats 4000000 in
theorem moveAt_any (v : Value) (ps : List (List Int)) (at_ : Int) (lo hi : Nat) (w : World) (h : OwnS w lo hi v ps) (hp : ∀ q ∈ ps, isPart q) (hl : ps.length ≤ 60) (hq : ∀ q ∈ ps, q.length ≤ 60) (ht : IntTab w 0 takesL)
    (y : List Int) (k : Int) (b : Bool) (hR : move3R ps at_ = (y, k, b)) :
    Calls Tryd.prog 47 #[v, .int .i64 at_] w (MvPost w y k b) := by
  have hrd := h.rd
  obtain ⟨A, c, rfl, _⟩ := id hrd
  obtain ⟨hc1, hc2⟩ := h.cap2
  have HT := Lib.hid ht; clear ht
  have HP := Lib.hid (And.intro hp hq); clear hp hq h
  have HR := Lib.hid hR; clear hR
  have H := Lib.hid hrd; clear hrd
  by_cases h0 : at_ < 0
  · rw [move3R_out (.inl h0)] at HR
    obtain ⟨rfl, rfl, rfl⟩ : [] = y ∧ 0 = k ∧ false = b := by have := HR.out; cases this; exact ⟨rfl, rfl, rfl⟩
    go_enter Tryd.func47, Tryd.ntmps47
    go_wp2
    go_ret3
    exact ⟨_, rfl, OwnI.nil _ _ _, Below.refl _ _⟩
  by_cases h1 : (ps.length : Int) ≤ at_
  · rw [move3R_out (.inr h1)] at HR
    obtain ⟨rfl, rfl, rfl⟩ : [] = y ∧ 0 = k ∧ false = b := by have := HR.out; cases this; exact ⟨rfl, rfl, rfl⟩
    go_enter Tryd.func47, Tryd.ntmps47
    go_wp2
    go_ret3
    exact ⟨_, rfl, OwnI.nil _ _ _, Below.refl _ _⟩
  obtain ⟨a, rfl⟩ : ∃ a : Nat, at_ = a := ⟨at_.toNat, by omega⟩
  have ha : a < ps.length := by omega
  have haI : (a : Int) < ps.length := by omega
  obtain ⟨bb, off, u1, rfl, hbb, hcell1, hu1⟩ := RdBS.get H.out (List.getElem?_eq_getElem ha)
  clear h0 h1
  have hd := RdBS.part H.out a (ps.length - a) (by omega) (c' := c - a) rfl
  rw [List.take_of_length_le (by simp)] at hd
  have HD := Lib.hid hd; clear hd
  go_enter Tryd.func47, Tryd.ntmps47
  go_wp2_with fail
  refine (valuesFirst_any _ (ps.drop a) _ HD.out).mono ?_
  rintro e w' ⟨rfl, rfl⟩
  have hmle : manyR (ps.drop a) ≤ ps.length - a := by have := manyR_le (ps.drop a); rw [List.length_drop] at this; exact this
  have HM := Lib.hid (manyR_take (ps.drop a))
  have HN := Lib.hid (@manyR_next (ps.drop a))
  have HI := Lib.hid (@move3R_in ps a (manyR (ps.drop a)) _ _ ha rfl rfl rfl)
  rw [HI.out] at HR
  clear HI
  generalize manyR (ps.drop a) = m at *
  by_cases hm0 : m = 0
  · subst hm0
    obtain ⟨rfl, rfl, rfl⟩ : [] = y ∧ 0 = k ∧ false = b := by have := HR.out; rw [if_pos (.inl rfl)] at this; cases this; exact ⟨rfl, rfl, rfl⟩
    clear HM HN HD HR
    go_wp2
    go_ret3
    exact ⟨_, rfl, OwnI.nil _ _ _, Below.refl _ _⟩
  have hmI : ((m : Int) == 0) = false := by simp; omega
  by_cases hml : a + m = ps.length
  · obtain ⟨rfl, rfl, rfl⟩ : [] = y ∧ 0 = k ∧ false = b := by have := HR.out; rw [if_pos (.inr hml)] at this; cases this; exact ⟨rfl, rfl, rfl⟩
    have hmlI : ((a : Int) + m == ps.length) = true := by simp; omega
    clear HM HN HD HR hml
    go_wp2
    go_ret3
    exact ⟨_, rfl, OwnI.nil _ _ _, Below.refl _ _⟩
  have hmlI : ((a : Int) + m == ps.length) = false := by simp; omega
  have hlt : a + m < ps.length := by omega
  have hz2 : ps[a + m]? = some (ps.getD (a + m) []) := by rw [List.getD, List.getElem?_eq_getElem hlt]; rfl
  have hnv : valueB (ps.getD (a + m) []) = false := by
    have := HN.out (by simp; omega)
    rw [← this]; simp [List.getD, List.getElem?_drop]
  obtain ⟨o, ho, ho1, ho2⟩ := op_of_part (HP.out.1 _ (List.mem_of_getElem? hz2)) hnv
  rw [ho] at hz2
  have hlow : ps.getD a [] = ps[a] := by simp [List.getD, List.getElem?_eq_getElem ha]
  rw [ho, hlow] at HR
  have hq1 := HP.out.1 _ (List.getElem_mem ha)
  have hq1l : 1 ≤ (ps[a]).length := by
    rcases hq1 with h | ⟨o', h, _⟩
    · exact (valueB_len h).1
    · rw [h]; simp
  obtain ⟨b2, off2, u2, e2, _, hcell2, hu2⟩ := RdBS.get H.out hz2
  cases e2
  obtain ⟨A2, c2, rfl, hi2, _⟩ := hu2
  obtain ⟨b3, off3, rfl, hb3, hc3⟩ := hi2.at_ (by simp)
  have c3 := hc3 0 (by simp)
  simp only [Nat.add_zero, List.getD_cons_zero] at c3
  have HV := Lib.hid (RdBS.part H.out a m (by omega) (c' := c - a) rfl)
  generalize ps[a] = q1 at *
  have HU1 := Lib.hid (hu1.rd (Nat.le_refl _))
  obtain ⟨A1, c1, rfl, _⟩ := hu1
  have c3' := c3
  simp only [List.length_cons, List.length_nil] at hcell2
  clear hi2 hc3 HN hz2 hnv hlow hq1 ho
  go_wp2_with fail
  go_region
  go_wp2_with fail
  have hdr : Below w.heap.size w w.drew := (Below.refl _ _).drew
  refine (ruleFor_any o _ q1 _ (HU1.out.step hdr) hq1l _ rfl).mono ?_
  rintro e w' ⟨rfl, rfl⟩
  simp only [List.getD_cons_zero] at HR
  have hwh := ruleR_le o (q1.getD 0 0)
  generalize ruleR o (q1.getD 0 0) = wh at *
  have c9 := (HT.out.step hdr).cell wh _ (takesL_get hwh)
  have htk := takesR_le wh
  generalize takesR wh = tk at *
  by_cases hmt : m = tk
  case neg =>
    obtain ⟨rfl, rfl, rfl⟩ : [] = y ∧ 0 = k ∧ false = b := by have := HR.out; rw [if_neg (by omega), if_neg hmt] at this; cases this; exact ⟨rfl, rfl, rfl⟩
    have hmtI : ((m : Int) != (tk : Int)) = true := by simp; omega
    have Hd := Lib.hid hdr
    clear hdr HR HV HU1 HT HP HM HD
    go_wp2
    go_ret3
    exact ⟨_, rfl, OwnI.nil _ _ _, Hd.out⟩
  subst hmt
  have hmtI : ((m : Int) != (m : Int)) = false := by simp
  have hst : stackB ((ps.drop a).take m) = true := stackB_mk (by simp; omega) (fun v hv => HM.out v hv)
  have HA := Lib.hid (And.intro (HV.out.below hdr) (And.intro hst (hdr)))
  clear hst hdr HV HM HU1
  rcases hah : ahead2 ((ps.drop a).take m) o with ⟨x, bx⟩
  have Hah := Lib.hid hah
  rw [hah] at HR
  clear hah
  go_wp2_with fail
  refine (doneAhead_any _ ((ps.drop a).take m) o _ HA.out.1 HA.out.2.1 ho1 ho2 x bx Hah.out).mono ?_
  rintro e w4 ⟨u4, rfl, o4, hb4⟩
  have hz4 : w.heap.size ≤ w4.heap.size := hb4.size
  have hxl : x.length ≤ 1400 := by
    have := Hah.out
    unfold ahead2 at this
    rcases hq : aheadR ((ps.drop a).take m) o with _ | x'
    · rw [hq] at this; cases this; simp
    · rw [hq] at this; cases this
      exact (ahead_ok (stackB_all HA.out.2.1).2 (by simp; omega) ho1 ho2 hq).2
  have X := Lib.hid (And.intro o4 (HA.out.2.2.trans hb4)); clear o4 hb4 HA
  rcases bx with _ | _
  · obtain ⟨rfl, rfl, rfl⟩ : [] = y ∧ 0 = k ∧ false = b := by have := HR.out; rw [if_neg (by omega)] at this; simpa using this
    clear HR HT HP HD Hah hxl
    go_wp2
    go_ret3
    exact ⟨_, rfl, OwnI.nil _ _ _, X.out.2⟩
  have hR2 : (if ((ps.take a).flatten ++ x ++ (ps.drop (a + m + 1)).flatten).length ≤ 60 then ((ps.take a).flatten ++ x ++ (ps.drop (a + m + 1)).flatten, ((wh : Nat) : Int), true) else ([], 0, false)) = (y, k, b) := by
    have := HR.out; rw [if_neg (by omega), if_pos trivial, if_pos rfl] at this; exact this
  have HR2 := Lib.hid hR2
  clear hR2 HR Hah
  obtain ⟨Ax, cx, rfl, _⟩ := X.out.1.rd
  have hflp : ∀ i n, ((ps.drop i).take n).flatten.length ≤ 3600 := by
    intro i n
    have key : ∀ l : List (List Int), (∀ q ∈ l, q.length ≤ 60) → l.flatten.length ≤ 60 * l.length := by
      intro l
      induction l with
      | nil => simp
      | cons q r ih =>
        intro hq
        have h1 := ih (fun v hv => hq v (by simp [hv]))
        have h2 := hq q (by simp)
        rw [List.flatten_cons, List.length_append, List.length_cons]; omega
    have h1 := key ((ps.drop i).take n) (fun q hq => HP.out.2 q (List.mem_of_mem_drop (List.mem_of_mem_take hq)))
    have h2 : ((ps.drop i).take n).length ≤ 60 := by simp; omega
    omega
  have hbw := X.out.2
  have hF1 : RdBS w4 w4.heap.size (.slice (some ⟨bb, off, none⟩) a c) (ps.take a) := by
    have h1 := RdBS.part H.out 0 a (by omega) (c' := c) rfl
    simp only [Nat.add_zero, List.drop_zero] at h1
    exact (h1.below hbw).mono hz4
  have hf1 : (ps.take a).flatten.length ≤ 3600 := by have := hflp 0 a; simpa using this
  have hf2 : (ps.drop (a + m + 1)).flatten.length ≤ 3600 := by
    have := hflp (a + m + 1) ps.length; rw [List.take_of_length_le (by simp)] at this; exact this
  have hl1 : (ps.take a).length ≤ 60 := by simp; omega
  have hl2 : (ps.drop (a + m + 1)).length ≤ 60 := by simp; omega
  have hmI2 : (a : Int) + m + 1 ≤ ps.length := by omega
  have hF2 : ∀ off', (off' = off + (a + m + 1) ∨ ps.length = a + m + 1) → RdBS w4 w4.heap.size (.slice (some ⟨bb, off', none⟩) (ps.length - (a + m + 1)) (c - (a + m + 1))) (ps.drop (a + m + 1)) := by
    intro off' h'
    by_cases he : ps.length = a + m + 1
    · rw [List.drop_of_length_le (by omega)]
      refine ⟨_, _, by rw [show ps.length - (a + m + 1) = ([] : List (List Int)).length from by simp; omega], by simp, fun h => by simp at h⟩
    · have h1 := RdBS.part H.out (a + m + 1) (ps.length - (a + m + 1)) (by omega) (c' := c - (a + m + 1)) rfl
      rw [List.take_of_length_le (by simp)] at h1
      rcases h' with rfl | h'
      · exact (h1.below hbw).mono hz4
      · exact absurd h' he
  have hF3 : ps.length = a + m + 1 → ∀ A' c', RdBS w4 w4.heap.size (.slice A' (ps.length - (a + m + 1)) c') (ps.drop (a + m + 1)) := by
    intro he A' c'
    rw [List.drop_of_length_le (by omega)]
    exact ⟨_, _, by rw [show ps.length - (a + m + 1) = ([] : List (List Int)).length from by simp; omega], by simp, fun h => by simp at h⟩
  have F := Lib.hid (And.intro hF1 (And.intro hF2 hF3)); clear hF1 hF2 hF3 hflp
  generalize hfa : ps.take a = pa at *
  generalize hfb : ps.drop (a + m + 1) = pb at *
  generalize hga : pa.flatten = fa at *
  generalize hgb : pb.flatten = fb at *
  have G := Lib.hid (And.intro hga hgb); clear hga hgb hfa hfb
  clear HP HT HD H
  go_wp2_with fail
  have hd4 : Below w4.heap.size w4 w4.drew := (Below.refl _ _).drew
  have f1 := fun W (h : Below w4.heap.size w4.drew W) => ((F.out.1.below hd4).below h).mono h.size
  have f2 := fun W off' h' (h : Below w4.heap.size w4.drew W) => (((F.out.2.1 off' h').below hd4).below h).mono h.size
  have f3 := fun W h' A' c' (h : Below w4.heap.size w4.drew W) => (((F.out.2.2 h' A' c').below hd4).below h).mono h.size
  have l1 : (a : Int) ≤ (c : Int) := by omega
  have l2 : (0 : Int) ≤ (a : Int) + (m : Int) + 1 := by omega
  have l3 : (a : Int) + (m : Int) + 1 ≤ (c : Int) := by omega
  have l4 : ((a : Int) + (m : Int) + 1).toNat = a + m + 1 := by omega
  have m1 : IntKind.i64.wrap ((a : Int) + (m : Int) + 1) = (a : Int) + (m : Int) + 1 := IntWalk.i64_in _ (by omega)
  have zA : (a : Int).toNat = a := by omega
  have hX0 := X.out.1.below hd4
  have Hfl : Hid (([fa, x, fb] : List (List Int)).flatten = fa ++ x ++ fb) := Lib.hid (by simp)
  have hfl3 : (fa ++ x ++ fb).length ≤ 1000000000 := by rw [List.length_append, List.length_append]; omega
  generalize fa ++ x ++ fb = fo at *
  rcases Nat.lt_or_ge (a + m + 1) c with l5 | l5
  rotate_left
  · have hpl : Hid (ps.length = a + m + 1) := Lib.hid (by omega)
    go_region_law (first
      | (go_simp; go_at_call 65; have o1 := hoA.within.below hbB; have o2 := hoB.within; have o0 := (hX0.below hbA).below hbB; have hrd := rdS_lit wB [.slice AA fa.length cA, .slice Ax x.length cx, .slice AB fb.length cB] [fa, x, fb] rfl (by simp) (lit3 o1.rd o0.rd o2.rd); simp only [List.length_cons, List.length_nil, Nat.zero_add, Nat.reduceAdd] at hrd; refine (concatF _ [fa, x, fb] _ _ hrd Hfl.out (by simp) hfl3).mono ?_; rintro e wC ⟨qC, rfl, hoC, hbC⟩; have T := Lib.hid (hdC hbw hzA hzB hbA hbB hoC hbC); clear hoC hbC)
      | (go_simp; go_at_call 65; have hX := f3 _ hpl.out (if c = a + m + 1 then some ⟨bb, off, none⟩ else some ⟨bb, off + (a + m + 1), none⟩) 0 hbA; refine (concatF _ pb fb _ hX G.out.2 (by omega) (by omega)).mono ?_; rintro e wB ⟨qB, rfl, hoB, hbB⟩; have hzB : wA.heap.size ≤ wB.heap.size := hbB.size; obtain ⟨AB, cB, rfl, _⟩ := id hoB.within.rd)
      | (go_simp; go_at_call 65; refine (concatF _ pa fa _ (f1 _ (Below.refl _ _)) G.out.1 (by omega) (by omega)).mono ?_; rintro e wA ⟨qA, rfl, hoA, hbA⟩; have hzA : w4.heap.size ≤ wA.heap.size := hbA.size; obtain ⟨AA, cA, rfl, _⟩ := id hoA.within.rd)
      )
    all_goals
      generalize (if c = a + m + 1 then (some ⟨bb, off, none⟩ : Option Addr) else some ⟨bb, off + (a + m + 1), none⟩) = AX at *
      clear l5 hpl hbA hbB hX0 f1 f2 f3 hd4 hbw l1 l2 l3 l4 m1 zA hzA hzB Hfl hfl3 G F X
      obtain ⟨AC, cC, rfl, _⟩ := id T.out.1.rd
      by_cases hfo : fo.length ≤ 60
      · obtain ⟨rfl, rfl, rfl⟩ : fo = y ∧ (wh : Int) = k ∧ true = b := by have := HR2.out; rw [if_pos hfo] at this; cases this; exact ⟨rfl, rfl, rfl⟩
        go_wp2
        go_ret3
        exact ⟨_, rfl, T.out⟩
      · obtain ⟨rfl, rfl, rfl⟩ : [] = y ∧ 0 = k ∧ false = b := by have := HR2.out; rw [if_neg hfo] at this; cases this; exact ⟨rfl, rfl, rfl⟩
        go_wp2
        go_ret3
        exact ⟨_, rfl, OwnI.nil _ _ _, T.out.2⟩
  · have hcc : ¬ c = a + m + 1 := by omega
    go_region_law (first
      | (go_simp; go_at_call 65; have o1 := hoA.within.below hbB; have o2 := hoB.within; have o0 := (hX0.below hbA).below hbB; have hrd := rdS_lit wB [.slice AA fa.length cA, .slice Ax x.length cx, .slice AB fb.length cB] [fa, x, fb] rfl (by simp) (lit3 o1.rd o0.rd o2.rd); simp only [List.length_cons, List.length_nil, Nat.zero_add, Nat.reduceAdd] at hrd; refine (concatF _ [fa, x, fb] _ _ hrd Hfl.out (by simp) hfl3).mono ?_; rintro e wC ⟨qC, rfl, hoC, hbC⟩; have T := Lib.hid (hdC hbw hzA hzB hbA hbB hoC hbC); clear hoC hbC)
      | (go_simp; go_at_call 65; have hX := f2 _ _ (.inl rfl) hbA; refine (concatF _ pb fb _ hX G.out.2 (by omega) (by omega)).mono ?_; rintro e wB ⟨qB, rfl, hoB, hbB⟩; have hzB : wA.heap.size ≤ wB.heap.size := hbB.size; obtain ⟨AB, cB, rfl, _⟩ := id hoB.within.rd)
      | (go_simp; go_at_call 65; refine (concatF _ pa fa _ (f1 _ (Below.refl _ _)) G.out.1 (by omega) (by omega)).mono ?_; rintro e wA ⟨qA, rfl, hoA, hbA⟩; have hzA : w4.heap.size ≤ wA.heap.size := hbA.size; obtain ⟨AA, cA, rfl, _⟩ := id hoA.within.rd)
      )
    all_goals
      clear hbA hbB hX0 f1 f2 f3 hd4 hbw l1 l2 l3 l4 m1 zA hzA hzB Hfl hfl3 G F X
      obtain ⟨AC, cC, rfl, _⟩ := id T.out.1.rd
      by_cases hfo : fo.length ≤ 60
      · obtain ⟨rfl, rfl, rfl⟩ : fo = y ∧ (wh : Int) = k ∧ true = b := by have := HR2.out; rw [if_pos hfo] at this; cases this; exact ⟨rfl, rfl, rfl⟩
        go_wp2
        go_ret3
        exact ⟨_, rfl, T.out⟩
      · obtain ⟨rfl, rfl, rfl⟩ : [] = y ∧ 0 = k ∧ false = b := by have := HR2.out; rw [if_neg hfo] at this; cases this; exact ⟨rfl, rfl, rfl⟩
        go_wp2
        go_ret3
        exact ⟨_, rfl, OwnI.nil _ _ _, T.out.2⟩
end Go.Proofs.YtkdpfiaegimnlaaDoor
