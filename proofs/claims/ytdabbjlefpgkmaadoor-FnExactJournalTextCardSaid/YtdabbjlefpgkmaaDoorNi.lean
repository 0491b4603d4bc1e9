/- ReadProg of the program. -/
import Derived.Test.YtdabbjlefpgkmaaDoorNh
namespace Go.Proofs.YtdabbjlefpgkmaaDoor
set_option maxRecDepth 100000
open Go.RowKit Go.WideShapes

theorem sum_bytes (x : ByteArray) (l : List UInt8) : (x ++ ⟨l.toArray⟩ : ByteArray) = ⟨(bytesOf x ++ l).toArray⟩ := by
  apply ByteArray.ext
  simp [ByteArray.data_append, bytesOf]
set_option maxHeartbeats 2000000 in
theorem ReadProg_I (x0 : ByteArray) (w : World) (h0 : x0.size ≤ 100000000) (y0 : List Int) (y1 : Bool) (hR : readProgP (bytesOf x0) = (y0, y1)) (ht : StrTab w 0 opNames) :
    Calls Tryd.prog 48 #[.string x0] w (RpPost w y0 y1) := by
  have hse := str_eq x0 [45, 45]
  by_cases h2 : bytesOf x0 = [45, 45]
  · rw [decide_eq_true h2] at hse
    have hy : readProgP (bytesOf x0) = ([], true) := by rw [h2]; rfl
    rw [hy] at hR
    cases hR
    clear h2 hy
    go_enter Tryd.func48, Tryd.ntmps48
    go_wp2
    go_ret2
    exact ⟨_, rfl, nilOwn _ _ _, Below.refl _ _⟩
  · rw [decide_eq_false h2] at hse
    have hgl := ht.lt
    have HT := Lib.hid ht; clear ht
    obtain ⟨S, hS⟩ : ∃ S : ByteArray, (⟨(bytesOf x0 ++ [32]).toArray⟩ : ByteArray) = S := ⟨_, rfl⟩
    have hSb : bytesOf S = bytesOf x0 ++ [32] := by rw [← hS, bytes_mk]
    have hSz : S.size = x0.size + 1 := by rw [← bytes_len S, hSb]; simp
    have hadd : ∀ W, (Op.stringOp .add x0 ⟨#[32]⟩).run Tryd.prog W = .ok (.string S) W := fun W => by
      have hsz : (⟨#[32]⟩ : ByteArray).size = 1 := rfl
      rw [run_string_add_sum W _ _ (by rw [hsz]; omega), sum_bytes x0 [32], hS]
    have HS := Lib.hid (And.intro hSb hSz)
    have H2 := Lib.hid h2
    have HR := Lib.hid hR
    have hb0 : Below w.heap.size w (w.iter S 0) := below_iter w S 0
    have B0 := Lib.hid hb0
    clear hS hSb hSz h2 hR hb0
    go_enter Tryd.func48, Tryd.ntmps48
    go_wp2
    generalize hG : w.heap.size = G at *
    have HG := Lib.hid hG; clear hG
    go_loopw [4, 5] (fun v f wr => ∃ (i j : Nat) (out : List (List UInt8)) (p : List Int), f = .int .i64 i ∧ j ≤ S.size ∧ p.length ≤ 60 ∧ G + 1 ≤ wr.heap.size ∧ CutSt (bytesOf S) i j out ∧ readAll out = some p ∧ wr.heap[G]? = some (.stringIter S j) ∧ Own wr (G + 1) v p ∧ Below G w wr) (fun _ _ wr => S.size - wr.iterPos G)
    case atStart => exact ⟨0, 0, [], [], rfl, Nat.zero_le _, by simp, by simp [← HG.out, World.iter], CutSt.start _, rfl, by simp [← HG.out, World.iter_heap], Own.nil _ _, B0.out⟩
    case round =>
      clear B0
      obtain ⟨i, j, out, p, rfl, hj, hpl, hsz, hst, hp, hit, ho, hb⟩ := hrel
      obtain ⟨A, c, rfl, hin, hcp⟩ := ho.ints
      have hij := hst.le
      by_cases hlt : j < S.size
      · obtain ⟨r, wd, hd, h1, h3, hr, hcase⟩ := decode_facts S j hlt
        have hnx : ∀ ty, (Instr.next (.pointer (some ⟨G, 0, none⟩)) true ty).run Tryd.prog wr = .ok (.tuple #[.bool true, .int .i64 j, .int .i32 r]) (wr.iterAt G S (j + wd)) := fun ty => by rw [Lib.run_next_any_at wr G S j ty hit hlt, hd]
        have hgr := iterAt_grown wr G S (j + wd)
        have ho2 := ho.only hgr (.inr fun e => by have := (ho.ge G e).1; omega)
        have hit2 := Lib.iterAt_heap wr G S j (j + wd) hit
        have hb2 := Lib.below_iterAt hb (Nat.le_refl G) S (j + wd)
        have hs2 : G + 1 ≤ (wr.iterAt G S (j + wd)).heap.size := by rw [Lib.iterAt_size]; exact hsz
        rcases hcase with ⟨hc, rfl, rfl⟩ | ⟨hne, hall⟩
        · have hjx : j ≤ x0.size := by have := HS.out.2; omega
          have hst2 := hst.space hc
          have he : bytesOf (x0.extract i j) = ((bytesOf S).drop i).take (j - i) := by rw [bytes_extract, HS.out.1, CutSt.piece (by rw [bytes_len]; exact hjx)]
          have hsp := hst2
          rw [HS.out.1] at hsp
          obtain ⟨rr, hrr⟩ := hsp.words
          rw [← HS.out.1, ← he] at hrr
          rw [← he] at hst2
          have hTz : (x0.extract i j).size ≤ x0.size := by rw [ByteArray.size_extract]; omega
          obtain ⟨T, hT⟩ : ∃ T : ByteArray, x0.extract i j = T := ⟨_, rfl⟩
          rw [hT] at hst2 hrr hTz
          have hsl : ∀ W, (Instr.slice 9 (.string x0) (some (.int .i64 i)) (some (.int .i64 j)) none).run Tryd.prog W = .ok (.string T) W := fun W => by
            rw [run_slice_string W 9 x0 .i64 .i64 i j Tryd.underlying9 (by omega) (by omega) (by omega), Int.toNat_natCast, Int.toNat_natCast, hT]
          have HI00 := Lib.hid (show wr.iterPos G = j by simp [World.iterPos, hit])
          have X := Lib.hid (And.intro ho2 (And.intro hit2 (And.intro hb2 (And.intro hst2 (And.intro hp hrr)))))
          have hs2' := Lib.hid hs2
          clear ho2 hit2 hb2 hst2 hp hrr hsp he hT hgr hit ho hb hst hd hc hin hs2
          rcases hrw : readWordR (bytesOf T) with _ | z
          · have HN := Lib.hid hrw; clear hrw
            go_wp2_with fail
            refine (ReadWord_any T _ (by omega) (HT.out.below X.out.2.2.1 (by have := HG.out; omega))).mono ?_
            rw [HN.out]
            rintro e w3 ⟨rfl, hb3⟩
            have B := Lib.hid (X.out.2.2.1.trans (hb3.mono (by have := hs2'.out; omega))); clear hb3
            go_wp2
            go_ret2
            have hy := HR.out
            rw [read_bad H2.out X.out.2.2.2.2.2 X.out.2.2.2.2.1 (.inl HN.out)] at hy
            cases hy
            exact ⟨_, rfl, nilOwn _ _ _, by rw [HG.out]; exact B.out⟩
          · have HN := Lib.hid hrw
            have hwf := read_wf hrw
            clear hrw
            by_cases h60 : p.length = 60
            · have hx : ((p.length : Int) == 60) = true := by rw [beq_iff_eq]; omega
              have H60 := Lib.hid h60; clear h60
              go_wp2_with fail
              refine (ReadWord_any T _ (by omega) (HT.out.below X.out.2.2.1 (by have := HG.out; omega))).mono ?_
              rw [HN.out]
              rintro e w3 ⟨rfl, hb3⟩
              have B := Lib.hid (X.out.2.2.1.trans (hb3.mono (by have := hs2'.out; omega))); clear hb3
              go_wp2
              go_ret2
              have hy := HR.out
              rw [read_bad H2.out X.out.2.2.2.2.2 X.out.2.2.2.2.1 (.inr H60.out)] at hy
              cases hy
              exact ⟨_, rfl, nilOwn _ _ _, by rw [HG.out]; exact B.out⟩
            · have hx : ((p.length : Int) == 60) = false := by rw [beq_eq_false_iff_ne]; omega
              have hpl2 : p.length + 1 ≤ 60 := by omega
              clear h60
              go_wp2_with fail
              refine (ReadWord_any T _ (by omega) (HT.out.below X.out.2.2.1 (by have := HG.out; omega))).mono ?_
              rw [HN.out]
              rintro e w3 ⟨rfl, hb3⟩
              have hz3 := hb3.size
              have hz4 : G + 1 ≤ w3.heap.size := Nat.le_trans hs2'.out hz3
              have Y := Lib.hid (And.intro (X.out.1.below hb3) (And.intro ((hb3.block G (by have := hs2'.out; omega)).trans X.out.2.1) (X.out.2.2.1.trans (hb3.mono (by have := hs2'.out; omega))))); clear hb3
              go_wp2_with (at_builtin; refine wpList_append_Kz rfl _ _ _ rfl Tryd.underlying22 intInfo z rfl hwf (G + 1) _ p rfl Y.out.1 hz4 rfl (by omega) ?_)
              intro v5 w5 ho5 hg5
              have hb5 := below_of_only hg5 (by omega : G ≤ w3.heap.size) fun k hk => Nat.le_trans (Nat.le_succ G) (Y.out.1.ge k hk).1
              have hz5 : w3.heap.size ≤ w5.heap.size := hg5.size
              have hra : readAll (out ++ [bytesOf T]) = some (p ++ [z]) := by
                rw [readAll_app, X.out.2.2.2.2.1]
                simp only [Option.bind_some, readAll, HN.out]
                rfl
              have hit5 : w5.heap[G]? = some (.stringIter S (j + 1)) := (hg5.block G (by omega) (fun e => by have := (Y.out.1.ge G e.symm).1; omega)).trans Y.out.2.1
              have T5 := Lib.hid (And.intro X.out.2.2.2.1 (And.intro hra (And.intro hit5 (And.intro ho5 (Y.out.2.2.trans hb5)))))
              have HI := Lib.hid (show w5.iterPos G = j + 1 by simp [World.iterPos, hit5])
              have HI0 := Lib.hid HI00.out
              clear ho5 hg5 hb5 hra hit5
              go_wp2
              go_roundw
              case rel => exact ⟨j + 1, j + 1, _, p ++ [z], by go_num, by omega, by simp; omega, by omega, T5.out⟩
              case measure => rw [HI.out, HI0.out]; omega
        · have hx : ((r : Int) != 32) = true := by rw [bne_iff_ne]; omega
          have T5 := Lib.hid (And.intro (hst.many wd hall) (And.intro hp (And.intro hit2 (And.intro ho2 hb2))))
          have HI := Lib.hid (show (wr.iterAt G S (j + wd)).iterPos G = j + wd by simp [World.iterPos, hit2])
          have HI0 := Lib.hid (show wr.iterPos G = j by simp [World.iterPos, hit])
          have hs2' := Lib.hid hs2
          clear ho2 hit2 hb2 hp hgr hit ho hb hst hd hin hs2
          go_wp2
          go_roundw
          case rel => exact ⟨i, j + wd, out, p, rfl, by omega, hpl, hs2'.out, T5.out⟩
          case measure => rw [HI.out, HI0.out]; omega
      · obtain rfl : j = S.size := by omega
        have hnx : ∀ ty, (Instr.next (.pointer (some ⟨G, 0, none⟩)) true ty).run Tryd.prog wr = .ok (.tuple #[.bool false]) wr := fun ty => Lib.run_next_end_at wr G S S.size ty hit hlt
        have hcut : cutL 32 (bytesOf x0) = out := by
          have h3 := hst
          rw [HS.out.1, HS.out.2, ← bytes_len x0] at h3
          exact h3.ended
        rw [← hcut] at hp
        have hy := HR.out
        rw [read_good H2.out hp hpl] at hy
        have X := Lib.hid (And.intro (⟨ho.mono (by omega : G ≤ G + 1), fun g hg => (ho.ge g hg).2⟩ : OwnI wr G wr.heap.size (.slice A p.length c) p) (And.intro hb (And.intro hin hy)))
        clear ho hb hin hy hp hcut hst hit
        rcases hv : fitsFrom 0 p with _ | _
        · have HV := Lib.hid hv; clear hv
          go_wp2_with fail
          refine (bracketsFit_any A c p _ X.out.2.2.1).mono ?_
          rw [HV.out]
          rintro e w' ⟨rfl, rfl⟩
          go_wp2
          go_ret2
          have hy := X.out.2.2.2
          rw [HV.out] at hy
          cases hy
          exact ⟨_, rfl, nilOwn _ _ _, by rw [HG.out]; exact X.out.2.1⟩
        · have HV := Lib.hid hv; clear hv
          go_wp2_with fail
          refine (bracketsFit_any A c p _ X.out.2.2.1).mono ?_
          rw [HV.out]
          rintro e w' ⟨rfl, rfl⟩
          go_wp2
          go_ret2
          have hy := X.out.2.2.2
          rw [HV.out] at hy
          cases hy
          exact ⟨_, rfl, by rw [HG.out]; exact X.out.1, by rw [HG.out]; exact X.out.2.1⟩
end Go.Proofs.YtdabbjlefpgkmaaDoor
