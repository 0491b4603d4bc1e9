/- A deed read from a text, by the model. -/
import Derived.Test.YtjblecinkedppaaDoorAh
namespace Go.Proofs.YtjblecinkedppaaDoor
set_option maxRecDepth 100000
open Go.RowKit Go.WideShapes Go.Deep

set_option maxHeartbeats 1000000 in
theorem ReadDeed_Snil (w : World) :
    Calls Tryd.prog 16 #[.string ⟨#[]⟩] w fun e w' => e = .returned (.tuple #[deedV ((0, []) : Int × List UInt8), .bool false]) ∧ Below w.heap.size w w' := by
  have hal : Below w.heap.size w ((w.alloc (.cells #[.int .i64 0, .string ⟨#[]⟩] 32)).alloc (.cells #[.int .i64 1, .string ⟨#[]⟩, .int .i64 2, .string ⟨#[]⟩] 32)) := ((Below.refl _ _).alloc (Nat.le_refl _) _).alloc (by simp) _
  have hB := (Blk.new w #[.int .i64 0, .string ⟨#[]⟩] 32).below ((Below.refl (w.heap.size + 1) _).alloc (by simp) (.cells #[.int .i64 1, .string ⟨#[]⟩, .int .i64 2, .string ⟨#[]⟩] 32)) (by omega)
  have S0 := Lib.hid (And.intro hal hB); clear hal hB
  go_enter Tryd.func16, Tryd.ntmps16
  go_wp2
  go_loopw [5] (fun i wr => wr = ((w.alloc (.cells #[.int .i64 0, .string ⟨#[]⟩] 32)).alloc (.cells #[.int .i64 1, .string ⟨#[]⟩, .int .i64 2, .string ⟨#[]⟩] 32)) ∧ ∃ k : Nat, k ≤ 2 ∧ i = .int .i64 k) (fun i _ => 2 - (intOf i).toNat)
  case atStart => exact ⟨rfl, 0, by omega, rfl⟩
  case round =>
    obtain ⟨rfl, k, hk, rfl⟩ := hrel
    by_cases hlt : k < 2
    · have hltI : (k : Int) < 2 := by omega
      go_wp2
      go_roundw
      case rel => exact ⟨trivial, k + 1, by omega, by go_num⟩
      case measure => simp [intOf]; omega
    · obtain rfl : k = 2 := by omega
      go_wp2
      obtain ⟨c0, c1, _, _⟩ := blk_pair S0.out.2
      refine bodyPost_ret (v := .tuple #[.agg #[.int .i64 0, .string ⟨#[]⟩], .bool false]) (by simp [results, Tryd.results16, go_sem, c0, c1]) rfl ?_
      exact ⟨rfl, S0.out.1⟩

theorem deed_missed {t : List UInt8} {n : Nat} (hn : (deedsOf t).length = n) (h : ∀ j < n, ∀ d, (deedsOf t)[j]? = some d → deedT d.1 d.2 ≠ t) : deedR t = ((0, []), false) :=
  deedR_miss fun d hd => by
    obtain ⟨j, hj, e⟩ := List.getElem_of_mem hd
    exact h j (by omega) d (by rw [List.getElem?_eq_getElem hj, e])
set_option maxHeartbeats 2000000 in
theorem ReadDeed_S (S : ByteArray) (w : World) (h0 : S.size ≤ 100000000) :
    Calls Tryd.prog 16 #[.string S] w fun e w' => e = .returned (.tuple #[deedV (deedR (bytesOf S)).1, .bool (deedR (bytesOf S)).2]) ∧ Below w.heap.size w w' := by
  by_cases hne : bytesOf S = []
  · obtain rfl := ba_nil hne
    exact ReadDeed_Snil w
  have hse := ba_ne hne
  have hsl : (bytesOf S).length = S.size := bytes_len S
  have hal : Below w.heap.size w ((w.alloc (.cells #[.int .i64 0, .string ⟨#[]⟩] 32)).alloc (.cells #[.int .i64 1, .string ⟨#[]⟩, .int .i64 2, .string ⟨#[]⟩] 32)) := ((Below.refl _ _).alloc (Nat.le_refl _) _).alloc (by simp) _
  have hB := (Blk.new w #[.int .i64 0, .string ⟨#[]⟩] 32).below ((Below.refl (w.heap.size + 1) _).alloc (by simp) (.cells #[.int .i64 1, .string ⟨#[]⟩, .int .i64 2, .string ⟨#[]⟩] 32)) (by omega)
  have hL : OwnD ((w.alloc (.cells #[.int .i64 0, .string ⟨#[]⟩] 32)).alloc (.cells #[.int .i64 1, .string ⟨#[]⟩, .int .i64 2, .string ⟨#[]⟩] 32)) (w.heap.size + 1) (w.heap.size + 2) (.slice (some ⟨w.heap.size + 1, 0, none⟩) 2 2) [(1, []), (2, [])] := by
    have h := OwnD.lits (w.alloc (.cells #[.int .i64 0, .string ⟨#[]⟩] 32)) [(1, []), (2, [])] (by simp)
    rw [World.size_alloc] at h
    exact h
  have S0 := Lib.hid (And.intro hal (And.intro hB hL)); clear hal hB hL
  by_cases h3 : (3 : Int) < S.size
  · obtain ⟨R, hRx⟩ : ∃ R : ByteArray, S.extract 3 S.size = R := ⟨_, rfl⟩
    have hRb : bytesOf R = (bytesOf S).drop 3 := by
      rw [← hRx, bytes_extract, List.take_of_length_le]
      rw [List.length_drop]; omega
    have hds : deedsOf (bytesOf S) = [(1, []), (2, [])] ++ [(0, bytesOf R)] := by
      rw [deedsOf, if_pos (by omega), hRb]
    have HR := Lib.hid hRb; clear hRb
    have HDS := Lib.hid hds; clear hds
    have hba : Below (w.heap.size + 2) ((w.alloc (.cells #[.int .i64 0, .string ⟨#[]⟩] 32)).alloc (.cells #[.int .i64 1, .string ⟨#[]⟩, .int .i64 2, .string ⟨#[]⟩] 32)) (((w.alloc (.cells #[.int .i64 0, .string ⟨#[]⟩] 32)).alloc (.cells #[.int .i64 1, .string ⟨#[]⟩, .int .i64 2, .string ⟨#[]⟩] 32)).alloc (.cells #[.int .i64 0, .string R] 32)) := (Below.refl _ _).alloc (by simp) _
    have hnb := Blk.new ((w.alloc (.cells #[.int .i64 0, .string ⟨#[]⟩] 32)).alloc (.cells #[.int .i64 1, .string ⟨#[]⟩, .int .i64 2, .string ⟨#[]⟩] 32)) #[.int .i64 0, .string R] 32
    rw [World.size_alloc, World.size_alloc] at hnb
    have L0 := Lib.hid (And.intro (OwnD.belowB S0.out.2.2 hba (Nat.le_refl _)) (And.intro (blk_pair hnb).1 (And.intro (blk_pair hnb).2.1 (And.intro (S0.out.1.trans (hba.mono (by omega))) (S0.out.2.1.below hba (by omega)))))); clear hba hnb
    go_enter Tryd.func16, Tryd.ntmps16
    go_wp2_with (at_builtin; go_loud (refine wpList_append_D rfl _ _ _ rfl Tryd.underlying38 deedInfo (w.heap.size + 1) (w.heap.size + 2) _ [(1, []), (2, [])] rfl L0.out.1 (by simp) (w.heap.size + 2) 0 (.string R) (bytesOf R) rfl L0.out.2.1 L0.out.2.2.1 (by rw [ba_eta]) (by simp) ?_))
    intro v' wz hom hb5 hg5 _
    have hz5 := hg5.size
    simp only [World.size_alloc] at hz5
    obtain ⟨A, c, hv, _⟩ := hom.rd
    have hv' : v' = .slice A 3 c := hv
    subst hv'
    have L : Hid (Below w.heap.size w wz ∧ w.heap.size < wz.heap.size ∧ Blk wz w.heap.size #[.int .i64 0, .string ⟨#[]⟩] 32 ∧ RdBD wz wz.heap.size (.slice A 3 c) (deedsOf (bytesOf S)) ∧ (deedsOf (bytesOf S)).length = 3) := Lib.hid ⟨L0.out.2.2.2.1.trans (hb5.mono (by omega)), by omega, L0.out.2.2.2.2.below hb5 (by omega), by rw [HDS.out]; exact hom.rd, by rw [HDS.out]; rfl⟩
    clear S0 L0 hom hb5 hg5 hv
    go_wp2
    go_loopw [5] (fun i wr => ∃ k : Nat, k ≤ 3 ∧ i = .int .i64 k ∧ (∀ j < k, ∀ d, (deedsOf (bytesOf S))[j]? = some d → deedT d.1 d.2 ≠ bytesOf S) ∧ Below (wz).heap.size (wz) wr) (fun i _ => 3 - (intOf i).toNat)
    case atStart => exact ⟨0, by omega, rfl, fun j hj => absurd hj (by omega), Below.refl _ _⟩
    case round =>
      obtain ⟨k, hk, rfl, hall, hbk⟩ := hrel
      have hzk := hbk.size
      have hBk := L.out.2.2.1.below hbk L.out.2.1
      obtain ⟨r0, r1, f0, f1⟩ := blk_pair hBk
      by_cases hlt : k < 3
      · obtain ⟨d, hd⟩ : ∃ d, (deedsOf (bytesOf S))[k]? = some d := ⟨_, List.getElem?_eq_getElem (by rw [L.out.2.2.2.2]; exact hlt)⟩
        have hds := deedsOf_mem (List.mem_of_getElem? hd)
        obtain ⟨A, c, he, _, hr⟩ := L.out.2.2.2.1
        rw [L.out.2.2.2.2] at he hr
        cases he
        obtain ⟨b, off, he2, hbb, hc⟩ := hr (by omega)
        cases he2
        obtain ⟨q0, q1⟩ := hc k d hd
        have q0 := (hbk.cell (p := ⟨_, _ + k * 2, none⟩) hbb).trans q0
        have q1 := (hbk.cell (p := ⟨_, _ + k * 2 + 1, none⟩) hbb).trans q1
        obtain ⟨d1, d2⟩ := d
        dsimp only at q0 q1 hds
        try simp only [Nat.zero_add] at q0 q1
        obtain ⟨D, hD⟩ : ∃ D : ByteArray, (⟨d2.toArray⟩ : ByteArray) = D := ⟨_, rfl⟩
        have hDz : D.size ≤ 100000000 := by rw [← hD]; simp [ByteArray.size]; omega
        have hDb : bytesOf D = d2 := by rw [← hD, bytes_mk]
        rw [hD] at q1
        obtain ⟨T, hT⟩ : ∃ T : ByteArray, (⟨(deedT d1 (bytesOf D)).toArray⟩ : ByteArray) = T := ⟨_, rfl⟩
        have hTb : bytesOf T = deedT d1 d2 := by rw [← hT, bytes_mk, hDb]
        have HT := Lib.hid hT
        have X := Lib.hid (And.intro hall (And.intro hbk (And.intro hBk (And.intro hd hD))))
        have hltI : (k : Int) < 3 := by omega
        clear hall hbk hBk hd hD hT hr hc hds
        by_cases heq : deedT d1 d2 = bytesOf S
        · have hTS : (T.toList == S.toList) = true := by rw [Go.ByteArray.toList_eq, Go.ByteArray.toList_eq, beq_iff_eq]; exact hTb.trans heq
          have HE := Lib.hid (deedR_hit X.out.2.2.2.1 hne heq)
          clear heq hDb hTb
          go_wp2_with fail
          refine (DeedText_S d1 D _ hDz).mono ?_
          rw [HT.out]
          rintro e w2 ⟨rfl, hb⟩
          have hB2 := X.out.2.2.1.below hb (by have := L.out.2.1; omega)
          obtain ⟨s0, s1, e0, e1⟩ := blk_pair hB2
          have p0 := (hb.cell (Nat.lt_of_lt_of_le hbb hzk)).trans q0
          have p1 := (hb.cell (Nat.lt_of_lt_of_le hbb hzk)).trans q1
          have K := Lib.hid (And.intro (L.out.1.trans ((X.out.2.1.trans (hb.mono hzk)).mono (by have := L.out.2.1; omega))) hB2); clear hb hB2 q0 q1 r0 r1 f0 f1
          go_wp2
          obtain ⟨c0, c1, _, _⟩ := blk_pair ((K.out.2.set 0 (.int .i64 d1)).set 1 (.string D))
          refine bodyPost_ret (v := .tuple #[.agg #[.int .i64 d1, .string D], .bool true]) (by simp [results, Tryd.results16, go_sem, c0, c1]) rfl ?_
          rw [HE.out, ← X.out.2.2.2.2]
          exact ⟨rfl, (K.out.1.setCell (Nat.le_refl _) _).setCell (Nat.le_refl _) _⟩
        · have hTS : (T.toList == S.toList) = false := by
            rw [Go.ByteArray.toList_eq, Go.ByteArray.toList_eq, beq_eq_false_iff_ne]
            intro e9; exact heq (hTb.symm.trans e9)
          have HE := Lib.hid heq
          clear heq hDb hTb
          go_wp2_with fail
          refine (DeedText_S d1 D _ hDz).mono ?_
          rw [HT.out]
          rintro e w2 ⟨rfl, hb⟩
          have K := Lib.hid (And.intro (show ∀ j < k + 1, ∀ d, (deedsOf (bytesOf S))[j]? = some d → deedT d.1 d.2 ≠ bytesOf S from fun j hj d hd => by
            by_cases hjk : j = k
            · subst hjk
              rw [X.out.2.2.2.1] at hd
              cases hd
              exact HE.out
            · exact X.out.1 j (by omega) d hd) (X.out.2.1.trans (hb.mono hzk))); clear hb
          go_wp2
          go_roundw
          case rel => exact ⟨k + 1, by omega, by go_num, K.out⟩
          case measure => simp [intOf]; omega
      · obtain rfl : k = 3 := by omega
        have HE := Lib.hid (deed_missed L.out.2.2.2.2 hall)
        have K := Lib.hid (And.intro (L.out.1.trans (hbk.mono (by have := L.out.2.1; omega))) hBk)
        clear hall hbk hBk
        go_wp2
        obtain ⟨c0, c1, _, _⟩ := blk_pair ((K.out.2.set 0 (.int .i64 0)).set 1 (.string ⟨#[]⟩))
        refine bodyPost_ret (v := .tuple #[.agg #[.int .i64 0, .string ⟨#[]⟩], .bool false]) (by simp [results, Tryd.results16, go_sem, c0, c1]) rfl ?_
        rw [HE.out]
        exact ⟨rfl, (K.out.1.setCell (Nat.le_refl _) _).setCell (Nat.le_refl _) _⟩
  · have hds : deedsOf (bytesOf S) = [(1, []), (2, [])] := by
      rw [deedsOf, if_neg (by omega)]; rfl
    have HDS := Lib.hid hds; clear hds
    go_enter Tryd.func16, Tryd.ntmps16
    go_wp2
    generalize hwz : ((w.alloc (.cells #[.int .i64 0, .string ⟨#[]⟩] 32)).alloc (.cells #[.int .i64 1, .string ⟨#[]⟩, .int .i64 2, .string ⟨#[]⟩] 32)) = wz at *
    have L : Hid (Below w.heap.size w wz ∧ w.heap.size < wz.heap.size ∧ Blk wz w.heap.size #[.int .i64 0, .string ⟨#[]⟩] 32 ∧ RdBD wz wz.heap.size (.slice (some ⟨w.heap.size + 1, 0, none⟩) 2 2) (deedsOf (bytesOf S)) ∧ (deedsOf (bytesOf S)).length = 2) := Lib.hid ⟨S0.out.1, by rw [← hwz]; simp; omega, S0.out.2.1, by rw [HDS.out]; exact OwnD.rd S0.out.2.2, by rw [HDS.out]; rfl⟩
    clear S0 hwz
    go_loopw [5] (fun i wr => ∃ k : Nat, k ≤ 2 ∧ i = .int .i64 k ∧ (∀ j < k, ∀ d, (deedsOf (bytesOf S))[j]? = some d → deedT d.1 d.2 ≠ bytesOf S) ∧ Below (wz).heap.size (wz) wr) (fun i _ => 2 - (intOf i).toNat)
    case atStart => exact ⟨0, by omega, rfl, fun j hj => absurd hj (by omega), Below.refl _ _⟩
    case round =>
      obtain ⟨k, hk, rfl, hall, hbk⟩ := hrel
      have hzk := hbk.size
      have hBk := L.out.2.2.1.below hbk L.out.2.1
      obtain ⟨r0, r1, f0, f1⟩ := blk_pair hBk
      by_cases hlt : k < 2
      · obtain ⟨d, hd⟩ : ∃ d, (deedsOf (bytesOf S))[k]? = some d := ⟨_, List.getElem?_eq_getElem (by rw [L.out.2.2.2.2]; exact hlt)⟩
        have hds := deedsOf_mem (List.mem_of_getElem? hd)
        obtain ⟨A, c, he, _, hr⟩ := L.out.2.2.2.1
        rw [L.out.2.2.2.2] at he hr
        cases he
        obtain ⟨b, off, he2, hbb, hc⟩ := hr (by omega)
        cases he2
        obtain ⟨q0, q1⟩ := hc k d hd
        have q0 := (hbk.cell (p := ⟨_, _ + k * 2, none⟩) hbb).trans q0
        have q1 := (hbk.cell (p := ⟨_, _ + k * 2 + 1, none⟩) hbb).trans q1
        obtain ⟨d1, d2⟩ := d
        dsimp only at q0 q1 hds
        try simp only [Nat.zero_add] at q0 q1
        obtain ⟨D, hD⟩ : ∃ D : ByteArray, (⟨d2.toArray⟩ : ByteArray) = D := ⟨_, rfl⟩
        have hDz : D.size ≤ 100000000 := by rw [← hD]; simp [ByteArray.size]; omega
        have hDb : bytesOf D = d2 := by rw [← hD, bytes_mk]
        rw [hD] at q1
        obtain ⟨T, hT⟩ : ∃ T : ByteArray, (⟨(deedT d1 (bytesOf D)).toArray⟩ : ByteArray) = T := ⟨_, rfl⟩
        have hTb : bytesOf T = deedT d1 d2 := by rw [← hT, bytes_mk, hDb]
        have HT := Lib.hid hT
        have X := Lib.hid (And.intro hall (And.intro hbk (And.intro hBk (And.intro hd hD))))
        have hltI : (k : Int) < 2 := by omega
        clear hall hbk hBk hd hD hT hr hc hds
        by_cases heq : deedT d1 d2 = bytesOf S
        · have hTS : (T.toList == S.toList) = true := by rw [Go.ByteArray.toList_eq, Go.ByteArray.toList_eq, beq_iff_eq]; exact hTb.trans heq
          have HE := Lib.hid (deedR_hit X.out.2.2.2.1 hne heq)
          clear heq hDb hTb
          go_wp2_with fail
          refine (DeedText_S d1 D _ hDz).mono ?_
          rw [HT.out]
          rintro e w2 ⟨rfl, hb⟩
          have hB2 := X.out.2.2.1.below hb (by have := L.out.2.1; omega)
          obtain ⟨s0, s1, e0, e1⟩ := blk_pair hB2
          have p0 := (hb.cell (Nat.lt_of_lt_of_le hbb hzk)).trans q0
          have p1 := (hb.cell (Nat.lt_of_lt_of_le hbb hzk)).trans q1
          have K := Lib.hid (And.intro (L.out.1.trans ((X.out.2.1.trans (hb.mono hzk)).mono (by have := L.out.2.1; omega))) hB2); clear hb hB2 q0 q1 r0 r1 f0 f1
          go_wp2
          obtain ⟨c0, c1, _, _⟩ := blk_pair ((K.out.2.set 0 (.int .i64 d1)).set 1 (.string D))
          refine bodyPost_ret (v := .tuple #[.agg #[.int .i64 d1, .string D], .bool true]) (by simp [results, Tryd.results16, go_sem, c0, c1]) rfl ?_
          rw [HE.out, ← X.out.2.2.2.2]
          exact ⟨rfl, (K.out.1.setCell (Nat.le_refl _) _).setCell (Nat.le_refl _) _⟩
        · have hTS : (T.toList == S.toList) = false := by
            rw [Go.ByteArray.toList_eq, Go.ByteArray.toList_eq, beq_eq_false_iff_ne]
            intro e9; exact heq (hTb.symm.trans e9)
          have HE := Lib.hid heq
          clear heq hDb hTb
          go_wp2_with fail
          refine (DeedText_S d1 D _ hDz).mono ?_
          rw [HT.out]
          rintro e w2 ⟨rfl, hb⟩
          have K := Lib.hid (And.intro (show ∀ j < k + 1, ∀ d, (deedsOf (bytesOf S))[j]? = some d → deedT d.1 d.2 ≠ bytesOf S from fun j hj d hd => by
            by_cases hjk : j = k
            · subst hjk
              rw [X.out.2.2.2.1] at hd
              cases hd
              exact HE.out
            · exact X.out.1 j (by omega) d hd) (X.out.2.1.trans (hb.mono hzk))); clear hb
          go_wp2
          go_roundw
          case rel => exact ⟨k + 1, by omega, by go_num, K.out⟩
          case measure => simp [intOf]; omega
      · obtain rfl : k = 2 := by omega
        have HE := Lib.hid (deed_missed L.out.2.2.2.2 hall)
        have K := Lib.hid (And.intro (L.out.1.trans (hbk.mono (by have := L.out.2.1; omega))) hBk)
        clear hall hbk hBk
        go_wp2
        obtain ⟨c0, c1, _, _⟩ := blk_pair ((K.out.2.set 0 (.int .i64 0)).set 1 (.string ⟨#[]⟩))
        refine bodyPost_ret (v := .tuple #[.agg #[.int .i64 0, .string ⟨#[]⟩], .bool false]) (by simp [results, Tryd.results16, go_sem, c0, c1]) rfl ?_
        rw [HE.out]
        exact ⟨rfl, (K.out.1.setCell (Nat.le_refl _) _).setCell (Nat.le_refl _) _⟩
end Go.Proofs.YtjblecinkedppaaDoor
