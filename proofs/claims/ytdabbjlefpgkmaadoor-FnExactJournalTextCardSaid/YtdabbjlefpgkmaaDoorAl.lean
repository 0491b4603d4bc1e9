/- The deeds of a journal, by the model. -/
import Derived.Test.YtdabbjlefpgkmaaDoorAk
namespace Go.Proofs.YtdabbjlefpgkmaaDoor
set_option maxRecDepth 100000
open Go.RowKit Go.WideShapes Go.Deep

theorem line_step {t : List UInt8} {k : Nat} {c : UInt8} (h : t[k]? = some c) : lineR (t.drop k) = if c = 10 then some ([], t.drop (k + 1)) else (lineR (t.drop (k + 1))).map fun x => (c :: x.1, x.2) := by
  obtain ⟨hk, e⟩ := List.getElem?_eq_some_iff.1 h
  rw [List.drop_eq_getElem_cons hk, e, lineR]
/-- No newline from f on up to k. -/
def NoNl (t : List UInt8) (f k : Nat) : Prop := lineR (t.drop f) = (lineR (t.drop k)).map fun x => ((t.drop f).take (k - f) ++ x.1, x.2)
theorem NoNl.start (t : List UInt8) (f : Nat) : NoNl t f f := by
  unfold NoNl
  rcases lineR (t.drop f) with _ | ⟨a, b⟩ <;> simp
theorem NoNl.next {t : List UInt8} {f k : Nat} {c : UInt8} (h : NoNl t f k) (hf : f ≤ k) (hc : t[k]? = some c) (hn : c ≠ 10) : NoNl t f (k + 1) := by
  unfold NoNl at *
  rw [h, line_step hc, if_neg hn, take_drop_snoc hf hc]
  rcases lineR (t.drop (k + 1)) with _ | ⟨a, b⟩ <;> simp
theorem NoNl.hit {t : List UInt8} {f k : Nat} (h : NoNl t f k) (hc : t[k]? = some 10) : lineR (t.drop f) = some ((t.drop f).take (k - f), t.drop (k + 1)) := by
  unfold NoNl at h
  rw [h, line_step hc, if_pos rfl]; simp
theorem NoNl.end_ {t : List UInt8} {f : Nat} (h : NoNl t f t.length) : lineR (t.drop f) = none := by
  unfold NoNl at h
  rw [h, List.drop_length]; rfl

set_option maxHeartbeats 2000000 in
theorem ReadJournal_S (S : ByteArray) (w : World) (h0 : S.size ≤ 100000000) :
    Calls Tryd.prog 28 #[.string S] w (RjPost w (bytesOf S)) := by
  have hsl : (bytesOf S).length = S.size := bytes_len S
  have hL := OwnD.lits w [] (by simp)
  have hL : OwnD (w.alloc (.cells #[] 36)) w.heap.size (w.alloc (.cells #[] 36)).heap.size (.slice (some ⟨w.heap.size, 0, none⟩) 0 0) [] := OwnD.mono hL (Nat.le_refl _) (by simp)
  have hal : Below w.heap.size w (w.alloc (.cells #[] 36)) := (Below.refl _ _).alloc (Nat.le_refl _) _
  have S0 := Lib.hid (And.intro hL hal); clear hL hal
  go_enter Tryd.func28, Tryd.ntmps28
  go_wp2
  go_loopw [4, 5, 6] (fun v i j wr => ∃ (f k : Nat) (ds : Deeds), k ≤ S.size ∧ f ≤ k ∧ i = .int .i64 f ∧ j = .int .i64 k ∧ JrnAt (bytesOf S) f ds ∧ NoNl (bytesOf S) f k ∧ OwnD wr w.heap.size wr.heap.size v ds ∧ Below w.heap.size w wr) (fun _ _ j _ => S.size - (intOf j).toNat)
  case atStart => exact ⟨0, 0, [], by omega, by omega, rfl, rfl, JrnAt.start _, NoNl.start _ _, S0.out.1, S0.out.2⟩
  case round =>
    clear S0
    obtain ⟨f, k, ds, hk, hfk, rfl, rfl, hj, hn, ho, hb⟩ := hrel
    have hdl : ds.length ≤ 1000000000 := by have := hj.2.1; omega
    have hz := hb.size
    obtain ⟨Av, cv, rfl, _⟩ := ho.rd
    by_cases hlt : k < S.size
    · have hltI : (k : Int) < S.size := by omega
      have hc := bytes_get S k hlt
      by_cases h10 : S[k]'hlt = 10
      · have hx : (((S[k]'hlt).toNat : Int) == 10) = true := by rw [h10]; rfl
        rw [h10] at hc
        have hl := hn.hit hc
        rw [← bytes_extract] at hl
        obtain ⟨L, hLx⟩ : ∃ L : ByteArray, S.extract f k = L := ⟨_, rfl⟩
        rw [hLx] at hl
        have hsx : ∀ W, (Instr.slice 9 (.string S) (some (.int .i64 f)) (some (.int .i64 k)) none).run Tryd.prog W = .ok (.string L) W := fun W => by
          rw [run_slice_string W 9 S .i64 .i64 f k Tryd.underlying9 (by omega) (by omega) (by omega), Int.toNat_natCast, Int.toNat_natCast, hLx]
        have hLz : L.size = k - f := by
          rw [← bytes_len L, ← hLx, bytes_extract, List.length_take, List.length_drop]; omega
        rcases hR : deedR (bytesOf L) with ⟨⟨d1, d2⟩, b⟩
        obtain ⟨D, hD⟩ : ∃ D : ByteArray, (⟨d2.toArray⟩ : ByteArray) = D := ⟨_, rfl⟩
        have HS : Hid (deedV (deedR (bytesOf L)).1 = .agg #[.int .i64 d1, .string D] ∧ (deedR (bytesOf L)).2 = b) := Lib.hid (by rw [hR]; exact ⟨by rw [← hD]; rfl, rfl⟩)
        have hD' := Lib.hid hD
        rcases b with _ | _
        · have HE := Lib.hid (hj.stop (jrn_bad hl (by rw [hR])))
          have X1 := Lib.hid (And.intro ho hb); clear ho hb hj hl hR hD hn hc hLx
          go_wp2_with fail
          refine (ReadDeed_S L _ (by omega)).mono ?_
          rw [HS.out.1, HS.out.2]
          rintro e w2 ⟨rfl, hb⟩
          have hz2 := hb.size
          have hba : Below w2.heap.size w2 (w2.alloc (.cells #[.int .i64 d1, .string D] 36)) := (Below.refl _ _).alloc (Nat.le_refl _) _
          have X2 := Lib.hid (And.intro (show OwnD (w2.alloc (.cells #[.int .i64 d1, .string D] 36)) w.heap.size (w2.alloc (.cells #[.int .i64 d1, .string D] 36)).heap.size _ ds from OwnD.mono (OwnD.below (OwnD.below X1.out.1 hb) hba) (Nat.le_refl _) (by rw [World.size_alloc]; omega)) ((X1.out.2.trans (hb.mono (by omega))).trans (hba.mono (by omega)))); clear hb hba X1
          go_wp2
          go_ret2
          exact ⟨_, by rw [HE.out]; rfl, by rw [HE.out]; exact X2.out.1, X2.out.2⟩
        · have HE : Hid (JrnAt (bytesOf S) (k + 1) (ds ++ [(d1, d2)])) := Lib.hid (by
            have := hj.more hl (by rw [hR])
            rw [hR, bytes_len, hLz, show f + (k - f + 1) = k + 1 by omega] at this
            exact this)
          have X1 := Lib.hid (And.intro ho hb); clear ho hb hj hl hR hD hn hc hLx
          go_wp2_with fail
          refine (ReadDeed_S L _ (by omega)).mono ?_
          rw [HS.out.1, HS.out.2]
          rintro e w2 ⟨rfl, hb⟩
          have hz2 := hb.size
          have hba : Below w2.heap.size w2 ((w2.alloc (.cells #[.int .i64 d1, .string D] 36)).alloc (.cells #[.int .i64 d1, .string D] 36)) := ((Below.refl _ _).alloc (Nat.le_refl _) _).alloc (by simp) _
          have hnb := Blk.new (w2.alloc (.cells #[.int .i64 d1, .string D] 36)) #[.int .i64 d1, .string D] 36
          rw [World.size_alloc] at hnb
          have X2 := Lib.hid (And.intro (OwnD.below (OwnD.below X1.out.1 hb) hba) (And.intro (blk_pair hnb).1 (And.intro (blk_pair hnb).2.1 ((X1.out.2.trans (hb.mono (by omega))).trans (hba.mono (by omega)))))); clear hb hba X1 hnb
          go_wp2_with (at_builtin; go_loud (refine wpList_append_D rfl _ _ _ rfl Tryd.underlying46 deedInfo w.heap.size _ _ ds rfl X2.out.1 (by simp; omega) (w2.heap.size + 1) d1 (.string D) d2 rfl X2.out.2.1 X2.out.2.2.1 (by rw [hD'.out]) hdl ?_))
          intro v' w5 hom hb5 hg5 _
          obtain ⟨A5, c5, rfl, _⟩ := hom.rd
          have X5 := Lib.hid (And.intro hom (X2.out.2.2.2.trans hb5)); clear hom hb5 hg5 X2
          go_wp2
          go_roundw
          case rel => exact ⟨k + 1, k + 1, ds ++ [(d1, d2)], by omega, by omega, by go_num, by go_num, HE.out, NoNl.start _ _, X5.out.1, X5.out.2⟩
          case measure => simp [intOf]; omega
      · have hx : (((S[k]'hlt).toNat : Int) == 10) = false := by
          rw [beq_eq_false_iff_ne]; intro e; exact h10 (UInt8.toNat_inj.1 (by exact_mod_cast e))
        have HJ := Lib.hid (And.intro hj (And.intro (hn.next hfk hc h10) (And.intro ho hb)))
        clear hj hn ho hb hc h10
        go_wp2
        go_roundw
        case rel => exact ⟨f, k + 1, ds, by omega, by omega, rfl, by go_num, HJ.out⟩
        case measure => simp [intOf]; omega
    · obtain rfl : k = S.size := by omega
      rw [← hsl] at hn
      have HE := Lib.hid (hj.stop (jrn_none hn.end_))
      have X := Lib.hid (And.intro ho hb); clear ho hb hj hn
      go_wp2
      go_ret2
      exact ⟨_, by rw [HE.out]; rfl, by rw [HE.out]; exact X.out.1, X.out.2⟩
end Go.Proofs.YtdabbjlefpgkmaaDoor
