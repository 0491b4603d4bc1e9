/- Chapter 9: MeansOf, the program's and the model's. -/
import Derived.Test.YtaehaalaeikloaaYm
import Derived.Test.YtaehaalaeikloaaYe
namespace Go.Proofs.Ytaehaalaeikloaa
set_option maxRecDepth 100000
open Go.RowKit Go.WideShapes

set_option maxHeartbeats 1000000 in
theorem MeansOf_I (v0 : Value) (x0 : List (List Int)) (v1 : Value) (x1 : List Int) (w : World) (h0 : RdS w v0 x0) (hl0 : x0.length ≤ 1048576) (hls0 : szS x0 ≤ 1048576) (h1 : RdI w v1 x1) (hl1 : x1.length ≤ 1048576) (y0 : List Int) (y1 : Bool) (hR : meansR x0 x1 = (y0, y1)) :
    Calls Try.prog 43 #[v0, v1] w fun e w' => ∃ u, e = .returned (.tuple #[u, .bool y1]) ∧ OwnI w' w.heap.size w'.heap.size u y0 ∧ Below w.heap.size w w' := by
  have H := Lib.hid (And.intro h0 h1); clear h1
  obtain ⟨A, c, rfl, _⟩ := h0
  have HR := Lib.hid hR; clear hR
  rcases hd : usesOkB x0 x1 with _ | _ <;> have HD := Lib.hid hd <;> clear hd
  · obtain ⟨rfl, rfl⟩ : [] = y0 ∧ false = y1 := by have := HR.out; rw [meansR, if_neg (by rw [HD.out]; simp)] at this; cases this; exact ⟨rfl, rfl⟩
    go_enter Try.func43, Try.ntmps43
    go_wp2_with fail
    refine (UsesOk_I _ x0 _ x1 _ H.out.1 hl0 hls0 H.out.2 hl1 false HD.out).mono ?_
    rintro e w1 ⟨rfl, hb⟩
    have HB := Lib.hid hb; clear hb
    go_wp2
    go_ret2
    exact ⟨_, rfl, nilOwn _ _ _, HB.out⟩
  go_enter Try.func43, Try.ntmps43
  go_wp2_with fail
  refine (UsesOk_I _ x0 _ x1 _ H.out.1 hl0 hls0 H.out.2 hl1 true HD.out).mono ?_
  rintro e w1 ⟨rfl, hb⟩
  have hz1 := hb.size
  have HB := Lib.hid (And.intro hb (And.intro (RdS.step H.out.1 hb) (H.out.2.step hb))); clear hb
  go_wp2_with fail
  refine (withoutNames_any _ x0 _ x1 _ HB.out.2.1 HB.out.2.2 HD.out).mono ?_
  rintro e w2 ⟨u, cur, rfl, hr, hcase, hb⟩
  have hz2 := hb.size
  have X := Lib.hid (And.intro hr (below_after HB.out.1 hb)); clear hb HB
  have hlm := hr.len_le
  obtain ⟨U, cu, rfl, _⟩ := hr
  rcases hcase with ⟨he, hl, ho⟩ | ⟨h6, hf⟩
  · subst he
    obtain ⟨rfl, rfl⟩ : flatR x0 x1 = y0 ∧ true = y1 := by have := HR.out; rw [meansR, if_pos ⟨HD.out, hl⟩] at this; cases this; exact ⟨rfl, rfl⟩
    have hlI : ¬ (60 : Int) < (flatR x0 x1).length := by omega
    have hfin : OwnI w2 w.heap.size w2.heap.size _ _ := ⟨ho.own.mono hz1, ho.lt⟩
    have HF := Lib.hid hfin; clear hfin ho
    go_wp2
    go_ret2
    exact ⟨_, rfl, HF.out, X.out.2⟩
  · obtain ⟨rfl, rfl⟩ : [] = y0 ∧ false = y1 := by have := HR.out; rw [meansR, if_neg (by omega)] at this; cases this; exact ⟨rfl, rfl⟩
    have hlI : (60 : Int) < cur.length := by omega
    clear hf
    go_wp2
    go_ret2
    exact ⟨_, rfl, nilOwn _ _ _, X.out.2⟩
theorem flat_take {d : List (List Int)} {p : List Int} {k : Nat} (hk : k < p.length) : flatR d (p.take (k + 1)) = flatR d (p.take k) ++ subR (flatsR d) (p.getD k 0) := by
  rw [take_snoc hk, flat_append]
  congr 1
  simp [flatR]
theorem flat_take_le9 (d : List (List Int)) (p : List Int) (k : Nat) : (flatR d (p.take k)).length ≤ (flatR d p).length := by
  conv => rhs; rw [← List.take_append_drop k p, flat_append]
  rw [List.length_append]; omega
def OutPost (d : List (List Int)) (p : List Int) (w : World) (e : Ending) (w' : World) : Prop :=
  ∃ u, e = .returned (.tuple #[u, .bool (decide ((flatR d p).length ≤ 60))]) ∧ OwnI w' w.heap.size w'.heap.size u (if (flatR d p).length ≤ 60 then flatR d p else []) ∧ Below w.heap.size w w'
theorem meansR_sz (d : List (List Int)) (p : List Int) : szI (meansR d p).1 ≤ 1000000 := by
  unfold meansR szI
  split
  · rename_i h; have := h.2; show (flatR d p).length ≤ 1000000; omega
  · simp
end Go.Proofs.Ytaehaalaeikloaa
