/- Contracts of ReadWord: the program's (over its table) and the model's. -/
import Derived.Test.YtdabbjlefpgkmaaDoorNx
import Derived.Test.YtdabbjlefpgkmaaDoorTab
namespace Go.Proofs.YtdabbjlefpgkmaaDoor
set_option maxRecDepth 100000
open Go.RowKit Go.WideShapes

/-- The texts of the operations. -/
def opNames : List (List UInt8) := [[100, 117, 112], [100, 114, 111, 112], [115, 119, 97, 112], [100, 105, 112], [99, 97, 108, 108], [43], [45], [42], [60], [105, 102], [116, 105, 109, 101, 115], [91], [93]]
/-- The word of the first text from place k on. -/
def nameAt (l : List UInt8) : Nat → List (List UInt8) → Option Int
  | _, [] => none
  | k, t :: r => if l = t then some (1001 + (k : Int)) else nameAt l (k + 1) r
def readWordR (l : List UInt8) : Option Int := match digitsR l with
  | some n => some n
  | none => nameAt l 0 opNames
theorem nameAt_drop (l : List UInt8) (k : Nat) (t : List UInt8) (h : opNames[k]? = some t) : nameAt l k (opNames.drop k) = if l = t then some (1001 + (k : Int)) else nameAt l (k + 1) (opNames.drop (k + 1)) := by
  have hk : k < opNames.length := by
    rcases Nat.lt_or_ge k opNames.length with h1 | h1
    · exact h1
    · rw [List.getElem?_eq_none h1] at h; cases h
  rw [List.drop_eq_getElem_cons hk, nameAt]
  rw [List.getElem?_eq_getElem hk] at h
  injection h with h
  rw [h]
theorem names_nodigits : ∀ t ∈ opNames, digitsR t = none := by decide
theorem nameAt_mem {l : List UInt8} {n : Int} : ∀ {k : Nat} {ts : List (List UInt8)}, nameAt l k ts = some n → l ∈ ts := by
  intro k ts
  induction ts generalizing k with
  | nil => intro h; simp [nameAt] at h
  | cons t r ih =>
    intro h
    rw [nameAt] at h
    split at h
    · rename_i e; subst e; simp
    · simp [ih h]
theorem readWordR_names {l : List UInt8} : readWordR l = match nameAt l 0 opNames with
  | some n => some n
  | none => digitsR l := by
  unfold readWordR
  rcases hn : nameAt l 0 opNames with _ | n
  · rcases digitsR l with _ | m <;> rfl
  · rw [names_nodigits l (nameAt_mem hn)]
theorem str_eq (s : ByteArray) (t : List UInt8) : (s.toList == t) = decide (bytesOf s = t) := by
  rw [Go.ByteArray.toList_eq, Bool.eq_iff_iff, beq_iff_eq, decide_eq_true_iff]
theorem run_index_strs (P : Program) (w : World) (t e : TypeId) (n : Nat) (ss : List (List UInt8)) (k : Nat) (s : List UInt8) (ht : P.underlying t = some (.array n e)) (he : P.underlying e = some .string) (hsz : (P.info? e).map (·.size) = some 1) (hn : ss.length = n) (hk : ss[k]? = some s) :
    (Instr.index t (.agg (strVals ss).toArray) (.int .i64 k)).run P w = .ok (.string ⟨s.toArray⟩) w := by
  have hlt : k < n := by
    rcases Nat.lt_or_ge k ss.length with h1 | h1
    · omega
    · rw [List.getElem?_eq_none h1] at hk; cases hk
  obtain ⟨i0, hi0, hs0⟩ := Option.map_eq_some_iff.1 hsz
  have hb : (0 : Int) ≤ k ∧ (k : Int) < n := by omega
  have hna : (isAgg e).run P w = .ok false w := by simp [isAgg, run_underlying he]
  have hk' : (strVals ss)[k]? = some (.string ⟨s.toArray⟩) := by simp [strVals, hk]
  simp [Instr.index, asIntOf, run_underlying ht, sizeOf, typeInfo, hi0, hs0, hb, part, hna, hk']
  intro h
  omega

theorem optPair_some {d n : Int} : optPair d (some n) = (n, true) := rfl
theorem ReadWord_any (s : ByteArray) (w : World) (hm : s.size ≤ 9223372036854775807) (ht : StrTab w 0 opNames) :
    Calls Tryd.prog 69 #[.string s] w fun e w' => e = .returned (.tuple #[.int .i64 (optPair (-1) (readWordR (bytesOf s))).1, .bool (optPair (-1) (readWordR (bytesOf s))).2]) ∧ Below w.heap.size w w' := by
  have hgl := ht.lt
  have HT := Lib.hid ht; clear ht
  rcases hd : digitsR (bytesOf s) with _ | n
  · have HD := Lib.hid hd; clear hd
    have HR : Hid (readWordR (bytesOf s) = nameAt (bytesOf s) 0 opNames) := Lib.hid (by rw [readWordR, HD.out])
    go_enter Tryd.func69, Tryd.ntmps69
    go_wp2_with fail
    refine (readNum_any s _ hm).mono ?_
    rw [HD.out]
    rintro e w1 ⟨rfl, hb⟩
    have HB := Lib.hid hb; clear hb
    obtain ⟨T, hh⟩ := HT.out.below HB.out hgl
    have HH := Lib.hid hh; clear hh
    go_wp2_with (refine wpList_load_row rfl _ _ rfl 0 rfl T (strVals opNames).toArray (0, 0) _ HH.out Tryd.underlying112 rfl (by kernel_rfl) ?_)
    clear HH
    go_loop [16] (fun i => ∃ k : Nat, k ≤ 13 ∧ i = .int .i64 k ∧ nameAt (bytesOf s) 0 opNames = nameAt (bytesOf s) k (opNames.drop k)) (fun i => 13 - (intOf i).toNat)
    case atStart => exact ⟨0, by omega, rfl, rfl⟩
    case round =>
      obtain ⟨k, hk, rfl, hall⟩ := hrel
      by_cases hlt : k < 13
      · obtain ⟨t, htk⟩ : ∃ t, opNames[k]? = some t := ⟨_, List.getElem?_eq_getElem (show k < opNames.length from hlt)⟩
        rw [nameAt_drop _ k t htk] at hall
        have hidx := run_index_strs Tryd.prog w1 112 9 13 opNames k t Tryd.underlying112 Tryd.underlying9 (by kernel_rfl) rfl htk
        have Hall := Lib.hid hall; clear hall htk
        have hse := str_eq s t
        by_cases hst : bytesOf s = t
        · rw [decide_eq_true hst] at hse
          have Hst := Lib.hid hst; clear hst
          go_wp2
          go_ret2
          rw [HR.out, Hall.out, if_pos Hst.out]
          exact ⟨rfl, HB.out⟩
        · rw [decide_eq_false hst] at hse
          have Hst := Lib.hid hst; clear hst
          go_wp2
          go_round
          case rel => exact ⟨k + 1, by omega, by go_num, by rw [Hall.out, if_neg Hst.out]⟩
          case measure => simp [intOf]; omega
      · obtain rfl : k = 13 := by omega
        have Hall := Lib.hid hall; clear hall
        go_wp2
        go_ret2
        rw [HR.out, Hall.out]
        exact ⟨rfl, HB.out⟩
  · have HD := Lib.hid hd; clear hd
    have HR : Hid (readWordR (bytesOf s) = some n) := Lib.hid (by rw [readWordR, HD.out])
    go_enter Tryd.func69, Tryd.ntmps69
    go_wp2_with fail
    refine (readNum_any s _ hm).mono ?_
    rw [HD.out]
    rintro e w1 ⟨rfl, hb⟩
    have HB := Lib.hid hb; clear hb
    go_wp2
    go_ret2
    rw [HR.out]
    exact ⟨rfl, HB.out⟩

theorem str_eq' (s : ByteArray) (t : List UInt8) : (t == s.toList) = decide (bytesOf s = t) := by
  rw [Go.ByteArray.toList_eq, Bool.eq_iff_iff, beq_iff_eq, decide_eq_true_iff]
  exact eq_comm

def NamesPost (w : World) (e : Ending) (w' : World) : Prop := e = .returned (.slice (some ⟨w.heap.size, 0, none⟩) 13 13) ∧ StrTab w' w.heap.size opNames ∧ Below w.heap.size w w'
theorem l1Names_any (w : World) : Calls Tryd.prog 87 #[] w (NamesPost w) := by
  go_enter Tryd.func87, Tryd.ntmps87
  go_wp2
  go_ret
  exact ⟨rfl, ⟨_, heap_alloc_new w _⟩, (Below.refl _ _).alloc (Nat.le_refl _) _⟩

theorem specReadWord_any (s : ByteArray) (w : World) (hm : s.size ≤ 9223372036854775807) :
    Calls Tryd.prog 68 #[.string s] w fun e w' => e = .returned (.tuple #[.int .i64 (optPair (-1) (readWordR (bytesOf s))).1, .bool (optPair (-1) (readWordR (bytesOf s))).2]) ∧ Below w.heap.size w w' := by
  have HN := Lib.hid (readWordR_names (l := bytesOf s))
  go_enter Tryd.func68, Tryd.ntmps68
  go_wp2_with fail
  refine (l1Names_any _).mono ?_
  rintro e w1 ⟨rfl, ht, hb⟩
  have HB := Lib.hid hb; clear hb
  have HT := Lib.hid ht; clear ht
  go_wp2
  go_loop [5] (fun i => ∃ k : Nat, k ≤ 13 ∧ i = .int .i64 k ∧ nameAt (bytesOf s) 0 opNames = nameAt (bytesOf s) k (opNames.drop k)) (fun i => 13 - (intOf i).toNat)
  case atStart => exact ⟨0, by omega, rfl, rfl⟩
  case round =>
    obtain ⟨k, hk, rfl, hall⟩ := hrel
    by_cases hlt : k < 13
    · obtain ⟨t, htk⟩ : ∃ t, opNames[k]? = some t := ⟨_, List.getElem?_eq_getElem (show k < opNames.length from hlt)⟩
      rw [nameAt_drop _ k t htk] at hall
      have hcell : w1.cell? ⟨w.heap.size, k, none⟩ = some (.string ⟨t.toArray⟩) := by
        obtain ⟨T, hh⟩ := HT.out
        rw [cell_of_row _ _ _ _ _ _ hh]
        simp [strVals, htk]
      have Hall := Lib.hid hall; clear hall htk
      have hse := str_eq' s t
      by_cases hst : bytesOf s = t
      · rw [decide_eq_true hst] at hse
        have Hst := Lib.hid hst; clear hst
        go_wp2
        go_ret2
        rw [HN.out, Hall.out, if_pos Hst.out]
        exact ⟨rfl, HB.out⟩
      · rw [decide_eq_false hst] at hse
        have Hst := Lib.hid hst; clear hst
        go_wp2
        go_round
        case rel => exact ⟨k + 1, by omega, by go_num, by rw [Hall.out, if_neg Hst.out]⟩
        case measure => simp [intOf]; omega
    · obtain rfl : k = 13 := by omega
      have Hall : Hid (nameAt (bytesOf s) 0 opNames = none) := Lib.hid hall
      clear hall
      have hdb : (digitsR (bytesOf s)).getD (-1) = -1 ∧ digitsR (bytesOf s) = none ∨ ∃ n : Int, digitsR (bytesOf s) = some n ∧ 0 ≤ n := by
        rcases hd : digitsR (bytesOf s) with _ | n
        · exact .inl ⟨rfl, rfl⟩
        · rw [← readNum_digits, readNumR] at hd
          split at hd
          · cases hd
          · exact .inr ⟨n, rfl, (readFrom_le ⟨by omega, by omega⟩ hd).1⟩
      rcases hdb with ⟨_, hd⟩ | ⟨n, hd, hn⟩
      · have HD := Lib.hid hd; clear hd
        go_wp2_with fail
        refine (l1Digits_any s _ hm).mono ?_
        rw [HD.out]
        rintro e w' ⟨rfl, rfl⟩
        go_wp2
        go_ret2
        rw [HN.out, Hall.out, HD.out]
        exact ⟨rfl, HB.out⟩
      · have HD := Lib.hid hd; clear hd
        go_wp2_with fail
        refine (l1Digits_any s _ hm).mono ?_
        rw [HD.out]
        rintro e w' ⟨rfl, rfl⟩
        go_wp2_with fail
        refine (l1Digits_any s _ hm).mono ?_
        rw [HD.out]
        rintro e w' ⟨rfl, rfl⟩
        go_wp2
        go_ret2
        rw [HN.out, Hall.out, HD.out]
        exact ⟨rfl, HB.out⟩
end Go.Proofs.YtdabbjlefpgkmaaDoor
