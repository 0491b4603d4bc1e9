/-
  DERIVED. GIVEN WITH THE SEED: THE CARDS: each row of YtceekfoacgoalaaDoorRows.lean that lists a variable, with what it lists TIED to the program's text (the seventh form; the later family's looks); each row that meets fmt, with fmt's text TOLD by the authors' own Lean function (tested against real Go, not proved from fmt's source: count such statements apart). THE CARD IS WHAT COUNTS. Prove the row's statement (the work); the ties are given (YtceekfoacgoalaaDoorTie.lean); close each card by the builder's one call (the guide's Derived/Test/ToyasCard.lean, 'card_holds'). Laid BY PROGRAM, IN A SANDBOX (cutbox-door.mjs). By AI agents, Wed Nov 11 2026. No macro, syntax, notation, axiom, sorry.
-/
import Derived.Test.YtceekfoacgoalaaDoorRows
import GoSem.ClaimSeven
namespace Go.Proofs.YtceekfoacgoalaaDoor
namespace Rows

/-- THE TIED CARD OF 'laws.FnExactEffectText'. -/
def fnExactEffectTextCard : Claim7 := { stood := { row := fnExactEffectTextRow, standIns := [], harness := (true, "96e6650da5d6ce70e89ae935a4f05d9e404c6315618867049fd9538b0d1679ac"), looks := false }, kinds := [], alts := [], laidByText := true, laidKinds := [.data, .data, .data], laidTests := true, laidLooks := .later }
def FnExactEffectTextCardSaid : Prop := Claim7.holds Tryd.pinned (.plain (OpenSpec.ofChange fnExactEffectTextSpec)) fnExactEffectTextCard

/-- THE TIED CARD OF 'laws.FnEffectText'. -/
def fnEffectTextCard : Claim7 := { stood := { row := fnEffectTextRow, standIns := [], harness := (true, "96e6650da5d6ce70e89ae935a4f05d9e404c6315618867049fd9538b0d1679ac"), looks := false }, kinds := [], alts := [], laidByText := true, laidKinds := [.data, .data, .data], laidTests := true, laidLooks := .later }
def FnEffectTextCardSaid : Prop := Claim7.holds Tryd.pinned (.plain (OpenSpec.ofChange fnEffectTextSpec)) fnEffectTextCard

/-- THE SECOND FORM's CARD OF 'laws.FnExactEffectText'. -/
def fnExactEffectTextUptoCard : Claim7 := { stood := { row := fnExactEffectTextUptoRow, standIns := [], harness := (true, "96e6650da5d6ce70e89ae935a4f05d9e404c6315618867049fd9538b0d1679ac"), looks := false }, kinds := [], alts := [], laidByText := true, laidKinds := [.data, .data, .data], laidTests := true, laidLooks := .later }
def FnExactEffectTextUptoCardSaid : Prop := Claim7.holds Tryd.pinned (.plain (OpenSpec.upto fnExactEffectTextSpec)) fnExactEffectTextUptoCard

/-- THE SECOND FORM's CARD OF 'laws.FnEffectText'. -/
def fnEffectTextUptoCard : Claim7 := { stood := { row := fnEffectTextUptoRow, standIns := [], harness := (true, "96e6650da5d6ce70e89ae935a4f05d9e404c6315618867049fd9538b0d1679ac"), looks := false }, kinds := [], alts := [], laidByText := true, laidKinds := [.data, .data, .data], laidTests := true, laidLooks := .later }
def FnEffectTextUptoCardSaid : Prop := Claim7.holds Tryd.pinned (.plain (OpenSpec.upto fnEffectTextSpec)) fnEffectTextUptoCard
end Rows
end Go.Proofs.YtceekfoacgoalaaDoor
