/- The deeds of a journal, by the program. -/
import Derived.Test.YtdabbjlefpgkmaaDoorAj
namespace Go.Proofs.YtdabbjlefpgkmaaDoor
set_option maxRecDepth 100000
open Go.RowKit Go.WideShapes Go.Deep

def RjPost (w : World) (t : List UInt8) (e : Ending) (w' : World) : Prop := ∃ v, e = .returned (.tuple #[v, .int .i64 ((jrn t).2 : Nat)]) ∧ OwnD w' w.heap.size w'.heap.size v (jrn t).1 ∧ Below w.heap.size w w'
set_option maxHeartbeats 2000000 in
theorem ReadJournal_I (S : ByteArray) (w : World) (h0 : S.size ≤ 100000000) (ht : StrTab w 0 opNames) (hm : MLen w) :
    Calls Tryd.prog 29 #[.string S] w (RjPost w (bytesOf S)) := by
  have hgl := ht.lt
  have hgm := hm.1
  have S0 := Lib.hid (And.intro ht hm); clear ht hm
  have hsl : (bytesOf S).length = S.size := bytes_len S
  go_enter Tryd.func29, Tryd.ntmps29
  go_wp2
  go_loopw [4, 5] (fun v i wr => ∃ (f : Nat) (ds : Deeds), i = .int .i64 f ∧ JrnAt (bytesOf S) f ds ∧ OwnD wr w.heap.size wr.heap.size v ds ∧ Below w.heap.size w wr) (fun _ i _ => S.size - (intOf i).toNat)
  case atStart => exact ⟨0, [], rfl, JrnAt.start _, OwnD.nil _ _ _, Below.refl _ _⟩
  case round =>
    obtain ⟨f, ds, rfl, hj, ho, hb⟩ := hrel
    have hf : f ≤ S.size := by have := hj.1; omega
    have hdl : ds.length ≤ 1000000000 := by have := hj.2.1; omega
    obtain ⟨T, hTx⟩ : ∃ T : ByteArray, S.extract f S.size = T := ⟨_, rfl⟩
    have hTb : bytesOf T = (bytesOf S).drop f := by
      rw [← hTx, bytes_extract, List.take_of_length_le]
      rw [List.length_drop]; omega
    have hTz : T.size ≤ 100000000 := by rw [← bytes_len T, hTb, List.length_drop]; omega
    have hz := hb.size
    obtain ⟨Av, cv, rfl, _⟩ := ho.rd
    rcases hl : lineR ((bytesOf S).drop f) with _ | ⟨l, r⟩
    · have hcut := cut_line (bytesOf T)
      rw [hTb, hl] at hcut
      simp only at hcut
      have C := Lib.hid (show (⟨(Lib.cut (bytesOf T) [10]).1.toArray⟩ : ByteArray) = T ∧ (⟨(Lib.cut (bytesOf T) [10]).2.1.toArray⟩ : ByteArray) = ⟨#[]⟩ ∧ (Lib.cut (bytesOf T) [10]).2.2 = false from by
        rw [hTb, hcut]; exact ⟨by rw [← hTb, ba_eta], rfl, rfl⟩)
      have HE := Lib.hid (hj.stop (jrn_none hl))
      rcases hR : deedR (bytesOf T) with ⟨⟨d1, d2⟩, b⟩
      obtain ⟨D, hD⟩ : ∃ D : ByteArray, (⟨d2.toArray⟩ : ByteArray) = D := ⟨_, rfl⟩
      have HS : Hid (deedV (deedR (bytesOf T)).1 = .agg #[.int .i64 d1, .string D] ∧ (deedR (bytesOf T)).2 = b) := Lib.hid (by rw [hR]; exact ⟨by rw [← hD]; rfl, rfl⟩)
      have X := Lib.hid (And.intro ho hb); clear ho hb hj hl hcut hR hD hTb
      go_wp2_with fail
      refine (cutNl T T ⟨#[]⟩ false _ (S0.out.2.below X.out.2 hgm) (by omega) C.out.1 C.out.2.1 C.out.2.2).mono ?_
      rintro e w1 ⟨rfl, hb⟩
      have hz1 := hb.size
      have X1 := Lib.hid (And.intro (X.out.1.below hb) (X.out.2.trans (hb.mono hz))); clear hb X
      go_wp2_with fail
      refine (ReadDeed_I T _ hTz (S0.out.1.below X1.out.2 hgl)).mono ?_
      rw [HS.out.1, HS.out.2]
      rintro e w2 ⟨rfl, hb⟩
      have hz2 := hb.size
      have hba : Below w2.heap.size w2 (w2.alloc (.cells #[.int .i64 d1, .string D] 36)) := (Below.refl _ _).alloc (Nat.le_refl _) _
      have X2 := Lib.hid (And.intro (show OwnD (w2.alloc (.cells #[.int .i64 d1, .string D] 36)) w.heap.size (w2.alloc (.cells #[.int .i64 d1, .string D] 36)).heap.size _ ds from OwnD.mono (OwnD.below (OwnD.below X1.out.1 hb) hba) (Nat.le_refl _) (by rw [World.size_alloc]; omega)) ((X1.out.2.trans (hb.mono (by omega))).trans (hba.mono (by omega)))); clear hb hba X1
      go_wp2
      go_ret2
      exact ⟨_, by rw [HE.out]; rfl, by rw [HE.out]; exact X2.out.1, X2.out.2⟩
    · have hcut := cut_line (bytesOf T)
      rw [hTb, hl] at hcut
      simp only at hcut
      obtain ⟨L, hL⟩ : ∃ L : ByteArray, (⟨l.toArray⟩ : ByteArray) = L := ⟨_, rfl⟩
      obtain ⟨R, hRr⟩ : ∃ R : ByteArray, (⟨r.toArray⟩ : ByteArray) = R := ⟨_, rfl⟩
      have C := Lib.hid (show (⟨(Lib.cut (bytesOf T) [10]).1.toArray⟩ : ByteArray) = L ∧ (⟨(Lib.cut (bytesOf T) [10]).2.1.toArray⟩ : ByteArray) = R ∧ (Lib.cut (bytesOf T) [10]).2.2 = true from by
        rw [hTb, hcut]; exact ⟨hL, hRr, rfl⟩)
      have hll := (lineR_len hl).1
      rw [List.length_drop] at hll
      have hLb : bytesOf L = l := by rw [← hL, bytes_mk]
      have hLz : L.size = l.length := by rw [← bytes_len L, hLb]
      rcases hR : deedR (bytesOf L) with ⟨⟨d1, d2⟩, b⟩
      obtain ⟨D, hD⟩ : ∃ D : ByteArray, (⟨d2.toArray⟩ : ByteArray) = D := ⟨_, rfl⟩
      have HS : Hid (deedV (deedR (bytesOf L)).1 = .agg #[.int .i64 d1, .string D] ∧ (deedR (bytesOf L)).2 = b) := Lib.hid (by rw [hR]; exact ⟨by rw [← hD]; rfl, rfl⟩)
      rw [hLb] at hR
      have hD' := Lib.hid hD
      rcases b with _ | _
      · have HE := Lib.hid (hj.stop (jrn_bad hl (by rw [hR])))
        have hLz2 : L.size ≤ 100000000 := by omega
        have X := Lib.hid (And.intro ho hb); clear ho hb hj hl hcut hR hD hTb hLb hL hRr
        go_wp2_with fail
        refine (cutNl T L R true _ (S0.out.2.below X.out.2 hgm) (by omega) C.out.1 C.out.2.1 C.out.2.2).mono ?_
        rintro e w1 ⟨rfl, hb⟩
        have hz1 := hb.size
        have X1 := Lib.hid (And.intro (X.out.1.below hb) (X.out.2.trans (hb.mono hz))); clear hb X
        go_wp2_with fail
        refine (ReadDeed_I L _ hLz2 (S0.out.1.below X1.out.2 hgl)).mono ?_
        rw [HS.out.1, HS.out.2]
        rintro e w2 ⟨rfl, hb⟩
        have hz2 := hb.size
        have hba : Below w2.heap.size w2 (w2.alloc (.cells #[.int .i64 d1, .string D] 36)) := (Below.refl _ _).alloc (Nat.le_refl _) _
        have X2 := Lib.hid (And.intro (show OwnD (w2.alloc (.cells #[.int .i64 d1, .string D] 36)) w.heap.size (w2.alloc (.cells #[.int .i64 d1, .string D] 36)).heap.size _ ds from OwnD.mono (OwnD.below (OwnD.below X1.out.1 hb) hba) (Nat.le_refl _) (by rw [World.size_alloc]; omega)) ((X1.out.2.trans (hb.mono (by omega))).trans (hba.mono (by omega)))); clear hb hba X1
        go_wp2
        go_ret2
        exact ⟨_, by rw [HE.out]; rfl, by rw [HE.out]; exact X2.out.1, X2.out.2⟩
      · have HE : Hid (JrnAt (bytesOf S) (f + (L.size + 1)) (ds ++ [(d1, d2)])) := Lib.hid (by
          have := hj.more hl (by rw [hR])
          rw [hR] at this
          rw [hLz]; exact this)
        have hLz2 : f + L.size + 1 ≤ S.size := by omega
        have X := Lib.hid (And.intro ho hb); clear ho hb hj hl hcut hR hD hTb hLb hL hRr
        go_wp2_with fail
        refine (cutNl T L R true _ (S0.out.2.below X.out.2 hgm) (by omega) C.out.1 C.out.2.1 C.out.2.2).mono ?_
        rintro e w1 ⟨rfl, hb⟩
        have hz1 := hb.size
        have X1 := Lib.hid (And.intro (X.out.1.below hb) (X.out.2.trans (hb.mono hz))); clear hb X
        go_wp2_with fail
        refine (ReadDeed_I L _ (by omega) (S0.out.1.below X1.out.2 hgl)).mono ?_
        rw [HS.out.1, HS.out.2]
        rintro e w2 ⟨rfl, hb⟩
        have hz2 := hb.size
        have hba : Below w2.heap.size w2 ((w2.alloc (.cells #[.int .i64 d1, .string D] 36)).alloc (.cells #[.int .i64 d1, .string D] 36)) := ((Below.refl _ _).alloc (Nat.le_refl _) _).alloc (by simp) _
        have hnb := Blk.new (w2.alloc (.cells #[.int .i64 d1, .string D] 36)) #[.int .i64 d1, .string D] 36
        rw [World.size_alloc] at hnb
        have X2 := Lib.hid (And.intro (OwnD.below (OwnD.below X1.out.1 hb) hba) (And.intro (blk_pair hnb).1 (And.intro (blk_pair hnb).2.1 ((X1.out.2.trans (hb.mono (by omega))).trans (hba.mono (by omega)))))); clear hb hba X1 hnb
        go_wp2_with (at_builtin; go_loud (refine wpList_append_D rfl _ _ _ rfl Tryd.underlying46 deedInfo w.heap.size _ _ ds rfl X2.out.1 (by simp; omega) (w2.heap.size + 1) d1 (.string D) d2 rfl X2.out.2.1 X2.out.2.2.1 (by rw [hD'.out]) hdl ?_))
        intro v' w5 hom hb5 hg5 _
        obtain ⟨A5, c5, rfl, _⟩ := hom.rd
        have X5 := Lib.hid (And.intro hom (X2.out.2.2.2.trans hb5)); clear hom hb5 hg5 X2
        go_wp2
        go_roundw
        case rel => exact ⟨f + (L.size + 1), ds ++ [(d1, d2)], by go_num, HE.out, X5.out.1, X5.out.2⟩
        case measure => simp [intOf]; omega
end Go.Proofs.YtdabbjlefpgkmaaDoor
