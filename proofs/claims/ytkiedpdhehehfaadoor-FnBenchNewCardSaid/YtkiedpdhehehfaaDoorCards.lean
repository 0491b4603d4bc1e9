/-
  DERIVED. GIVEN WITH THE SEED: THE CARDS: each row of YtkiedpdhehehfaaDoorRows.lean that lists a variable, with what it lists TIED to the program's text (the seventh form; the later family's looks); each row that meets fmt, with fmt's text TOLD by the authors' own Lean function (tested against real Go, not proved from fmt's source: count such statements apart). THE CARD IS WHAT COUNTS. Prove the row's statement (the work); the ties are given (YtkiedpdhehehfaaDoorTie.lean); close each card by the builder's one call (the guide's Derived/Test/ToyasCard.lean, 'card_holds'). Laid BY PROGRAM, IN A SANDBOX (cutbox-door.mjs). By AI agents, Wed Nov 11 2026. No macro, syntax, notation, axiom, sorry.
-/
import Derived.Test.YtkiedpdhehehfaaDoorRows
import GoSem.ClaimSeven
namespace Go.Proofs.YtkiedpdhehehfaaDoor
namespace Rows

/-- THE TIED CARD OF 'laws.FnExactEffectText'. -/
def fnExactEffectTextCard : Claim7 := { stood := { row := fnExactEffectTextRow, standIns := [], harness := (true, "bbf974c9ca5f3775d4d7f981fb01771d1ce056dcefce445d83bdbe15b5144d18"), looks := false }, kinds := [], alts := [], laidByText := true, laidKinds := [.data, .data, .data], laidTests := true, laidLooks := .later }
def FnExactEffectTextCardSaid : Prop := Claim7.holds Tryd.pinned (.plain (OpenSpec.ofChange fnExactEffectTextSpec)) fnExactEffectTextCard

/-- THE TIED CARD OF 'laws.FnBenchNew'. -/
def fnBenchNewCard : Claim7 := { stood := { row := fnBenchNewRow, standIns := [], harness := (true, "bbf974c9ca5f3775d4d7f981fb01771d1ce056dcefce445d83bdbe15b5144d18"), looks := false }, kinds := [], alts := [], laidByText := true, laidKinds := [.data], laidTests := true, laidLooks := .later }
def FnBenchNewCardSaid : Prop := Claim7.holds Tryd.pinned (.plain (OpenSpec.ofChange fnBenchNewSpec)) fnBenchNewCard

/-- THE SECOND FORM's CARD OF 'laws.FnExactEffectText'. -/
def fnExactEffectTextUptoCard : Claim7 := { stood := { row := fnExactEffectTextUptoRow, standIns := [], harness := (true, "bbf974c9ca5f3775d4d7f981fb01771d1ce056dcefce445d83bdbe15b5144d18"), looks := false }, kinds := [], alts := [], laidByText := true, laidKinds := [.data, .data, .data], laidTests := true, laidLooks := .later }
def FnExactEffectTextUptoCardSaid : Prop := Claim7.holds Tryd.pinned (.plain (OpenSpec.upto fnExactEffectTextSpec)) fnExactEffectTextUptoCard

/-- THE SECOND FORM's CARD OF 'laws.FnBenchNew'. -/
def fnBenchNewUptoCard : Claim7 := { stood := { row := fnBenchNewUptoRow, standIns := [], harness := (true, "bbf974c9ca5f3775d4d7f981fb01771d1ce056dcefce445d83bdbe15b5144d18"), looks := false }, kinds := [], alts := [], laidByText := true, laidKinds := [.data], laidTests := true, laidLooks := .later }
def FnBenchNewUptoCardSaid : Prop := Claim7.holds Tryd.pinned (.plain (OpenSpec.upto fnBenchNewSpec)) fnBenchNewUptoCard
end Rows
end Go.Proofs.YtkiedpdhehehfaaDoor
