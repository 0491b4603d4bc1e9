/- Terms compared: equals of the program, at every two terms of one effect; covers of the program. -/
import Derived.Test.YtceekfoacgoalaaQc
namespace Go.Proofs.Ytceekfoacgoalaa
set_option maxRecDepth 100000
open Go.RowKit Go.WideShapes Go.Deep

theorem equals_ty (M : Int × Int → Nat → Prop) (S : Ty) : ∀ (T : Ty) (b : Bool) (p q : Option Addr) (w : World), S.ok b → T.ok b → Sk w (fun _ => True) M S p → Sk w (fun _ => True) M T q → (∀ kn d, M kn d → LtB w d kn) →
    Calls Try.prog 59 #[.pointer p, .pointer q] w fun e w' => e = .returned (.bool (eqTy S T)) ∧ Below w.heap.size w w' := by
  have two : ∀ (k : Int) (A B C D : Ty) (b b2 : Bool) (d e g h : Nat) (q0 q1 r0 r1 : Option Addr) (w : World), 
      (∀ (T : Ty) (b : Bool) (p q : Option Addr) (w : World), A.ok b → T.ok b → Sk w (fun _ => True) M A p → Sk w (fun _ => True) M T q → (∀ kn d, M kn d → LtB w d kn) → Calls Try.prog 59 #[.pointer p, .pointer q] w fun e w' => e = .returned (.bool (eqTy A T)) ∧ Below w.heap.size w w') →
      (∀ (T : Ty) (b : Bool) (p q : Option Addr) (w : World), B.ok b → T.ok b → Sk w (fun _ => True) M B p → Sk w (fun _ => True) M T q → (∀ kn d, M kn d → LtB w d kn) → Calls Try.prog 59 #[.pointer p, .pointer q] w fun e w' => e = .returned (.bool (eqTy B T)) ∧ Below w.heap.size w w') →
      A.ok b → B.ok b2 → C.ok b → D.ok b2 → Blk w d #[.int .i64 k, .int .i64 0, .slice (some ⟨g, 0, none⟩) 2 2, .pointer none, .int .i64 0] 86 → Blk w g #[.pointer q0, .pointer q1] 49 → Blk w e #[.int .i64 k, .int .i64 0, .slice (some ⟨h, 0, none⟩) 2 2, .pointer none, .int .i64 0] 86 → Blk w h #[.pointer r0, .pointer r1] 49 →
      Sk w (fun _ => True) M A q0 → Sk w (fun _ => True) M B q1 → Sk w (fun _ => True) M C r0 → Sk w (fun _ => True) M D r1 → (∀ kn d, M kn d → LtB w d kn) →
      Calls Try.prog 59 #[.pointer (some ⟨d, 0, none⟩), .pointer (some ⟨e, 0, none⟩)] w fun e w' => e = .returned (.bool (eqTy A C && eqTy B D)) ∧ Below w.heap.size w w' := by
    intro k A B C D b b2 d e g h q0 q1 r0 r1 w ihA ihB hA hB hC hD hd hg he hh sA sB sC sD hlt
    refine equals_yes d e k 0 _ _ 2 2 2 2 _ _ _ _ _ w hd he fun X hX => ?_
    have st : ∀ {T : Ty} {p : Option Addr} {Y Z : World}, Sk Y (fun _ => True) M T p → Below Y.heap.size Y Z → Sk Z (fun _ => True) M T p := fun hs hb => hs.keep (fun k _ hk => ⟨hb.block k hk, trivial⟩) fun _ _ h => h
    have lt : ∀ {Y Z : World}, (∀ kn d, M kn d → LtB Y d kn) → Below Y.heap.size Y Z → ∀ kn d, M kn d → LtB Z d kn := fun hl hb kn d hm => (hl kn d hm).below hb (hl kn d hm).lt
    refine (eqf_two_e g h q0 q1 r0 r1 X (fun Y => Below X.heap.size X Y ∧ eqTy A C = true) (fun y Y => y = (eqTy A C && eqTy B D) ∧ Below X.heap.size X Y) ?_ ?_ ?_).mono ?_
    · rintro Y (rfl | ⟨hY, _⟩)
      · exact ⟨hg.below hX hg.lt, hh.below hX hh.lt⟩
      · exact ⟨(hg.below hX hg.lt).below hY (hg.below hX hg.lt).lt, (hh.below hX hh.lt).below hY (hh.below hX hh.lt).lt⟩
    · refine (ihA C b q0 r0 X hA hC (st sA hX) (st sC hX) (lt hlt hX)).mono ?_
      rintro e' Y ⟨rfl, hb⟩
      exact ⟨_, rfl, fun h1 => ⟨by rw [h1]; rfl, hb⟩, fun h1 => ⟨hb, h1⟩⟩
    · rintro Y ⟨hY, h1⟩
      refine (ihB D b2 q1 r1 Y hB hD (st (st sB hX) hY) (st (st sD hX) hY) (lt (lt hlt hX) hY)).mono ?_
      rintro e' Z ⟨rfl, hb⟩
      exact ⟨_, rfl, by rw [h1]; rfl, hY.trans (hb.mono hY.size)⟩
    · rintro e' Z ⟨y, rfl, rfl, hb⟩
      exact ⟨rfl, hb⟩
  have nl : ∀ (k n : Int) (d e : Nat) (w : World), Blk w d #[.int .i64 k, .int .i64 n, .slice none 0 0, .pointer none, .int .i64 0] 86 → Blk w e #[.int .i64 k, .int .i64 n, .slice none 0 0, .pointer none, .int .i64 0] 86 → Calls Try.prog 59 #[.pointer (some ⟨d, 0, none⟩), .pointer (some ⟨e, 0, none⟩)] w fun e w' => e = .returned (.bool true) ∧ Below w.heap.size w w' := fun k n d e w hd he =>
    equals_yes d e k n _ _ 0 0 0 0 _ _ _ _ _ w hd he fun X _ => (eqf_nil_e X).mono (by rintro e' Y ⟨rfl, rfl⟩; exact ⟨rfl, Below.refl _ _⟩)
  induction S with
  | num =>
    intro T b p q w hS hT hp hq hlt
    cases b with
    | true => cases hS
    | false =>
    obtain ⟨d, rfl, _, hd⟩ := hp
    cases T with
    | num => obtain ⟨e, rfl, _, he⟩ := hq; exact nl 0 0 d e w hd he
    | any m => obtain ⟨e, rfl, he⟩ := hq; exact equals_no d e 0 1 0 m _ _ _ _ _ _ w hd (hlt _ _ he) (.inl (by decide))
    | prog C D => obtain ⟨e, h, r0, r1, rfl, _, _, he, hh, _⟩ := hq; exact equals_no d e 0 2 0 0 _ _ _ _ _ _ w hd he (.inl (by decide))
    | rest m => cases hT
    | put C D => cases hT
  | any n =>
    intro T b p q w hS hT hp hq hlt
    cases b with
    | true => cases hS
    | false =>
    obtain ⟨d, rfl, hd⟩ := hp
    have hd := hlt _ _ hd
    cases T with
    | num => obtain ⟨e, rfl, _, he⟩ := hq; exact equals_no d e 1 0 n 0 _ _ _ _ _ _ w hd he (.inl (by decide))
    | any m =>
      obtain ⟨e, rfl, he⟩ := hq
      have he := hlt _ _ he
      by_cases hnm : n = m
      · subst hnm
        have : eqTy (.any n) (.any n) = true := by simp [eqTy]
        rw [this]; exact nl 1 n d e w hd he
      · have : eqTy (.any n) (.any m) = false := by simp [eqTy, hnm]
        rw [this]; exact equals_no d e 1 1 n m _ _ _ _ _ _ w hd he (.inr hnm)
    | prog C D => obtain ⟨e, h, r0, r1, rfl, _, _, he, hh, _⟩ := hq; exact equals_no d e 1 2 n 0 _ _ _ _ _ _ w hd he (.inl (by decide))
    | rest m => cases hT
    | put C D => cases hT
  | rest n =>
    intro T b p q w hS hT hp hq hlt
    cases b with
    | false => cases hS
    | true =>
    obtain ⟨d, rfl, hd⟩ := hp
    have hd := hlt _ _ hd
    cases T with
    | num => cases hT
    | any m => cases hT
    | prog C D => cases hT
    | rest m =>
      obtain ⟨e, rfl, he⟩ := hq
      have he := hlt _ _ he
      by_cases hnm : n = m
      · subst hnm
        have : eqTy (.rest n) (.rest n) = true := by simp [eqTy]
        rw [this]; exact nl 3 n d e w hd he
      · have : eqTy (.rest n) (.rest m) = false := by simp [eqTy, hnm]
        rw [this]; exact equals_no d e 3 3 n m _ _ _ _ _ _ w hd he (.inr hnm)
    | put C D => obtain ⟨e, h, r0, r1, rfl, _, _, he, hh, _⟩ := hq; exact equals_no d e 3 4 n 0 _ _ _ _ _ _ w hd he (.inl (by decide))
  | prog A B ihA ihB =>
    intro T b p q w hS hT hp hq hlt
    cases b with
    | true => cases hS
    | false =>
    obtain ⟨d, g, q0, q1, rfl, _, _, hd, hg, sA, sB⟩ := hp
    cases T with
    | num => obtain ⟨e, rfl, _, he⟩ := hq; exact equals_no d e 2 0 0 0 _ _ _ _ _ _ w hd he (.inl (by decide))
    | any m => obtain ⟨e, rfl, he⟩ := hq; exact equals_no d e 2 1 0 m _ _ _ _ _ _ w hd (hlt _ _ he) (.inl (by decide))
    | prog C D => obtain ⟨e, h, r0, r1, rfl, _, _, he, hh, sC, sD⟩ := hq; exact two 2 A B C D true true d e g h q0 q1 r0 r1 w ihA ihB hS.1 hS.2 hT.1 hT.2 hd hg he hh sA sB sC sD hlt
    | rest m => cases hT
    | put C D => cases hT
  | put A B ihA ihB =>
    intro T b p q w hS hT hp hq hlt
    cases b with
    | false => cases hS
    | true =>
    obtain ⟨d, g, q0, q1, rfl, _, _, hd, hg, sA, sB⟩ := hp
    cases T with
    | num => cases hT
    | any m => cases hT
    | prog C D => cases hT
    | rest m => obtain ⟨e, rfl, he⟩ := hq; exact equals_no d e 4 3 0 m _ _ _ _ _ _ w hd (hlt _ _ he) (.inl (by decide))
    | put C D => obtain ⟨e, h, r0, r1, rfl, _, _, he, hh, sC, sD⟩ := hq; exact two 4 A B C D true false d e g h q0 q1 r0 r1 w ihA ihB hS.1 hS.2 hT.1 hT.2 hd hg he hh sA sB sC sD hlt
end Go.Proofs.Ytceekfoacgoalaa
