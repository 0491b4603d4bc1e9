/-
  DERIVED. GIVEN WITH THE SEED: THE CARDS: each row of YtjblecinkedppaaGreatDoorRows.lean that lists a variable, with what it lists TIED to the program's text (the seventh form; the later family's looks); each row that meets fmt, with fmt's text TOLD by the authors' own Lean function (tested against real Go, not proved from fmt's source: count such statements apart). THE CARD IS WHAT COUNTS. Prove the row's statement (the work); the ties are given (YtjblecinkedppaaGreatDoorTie.lean); close each card by the builder's one call (the guide's Derived/Test/ToyasCard.lean, 'card_holds'). Laid BY PROGRAM, IN A SANDBOX (cutbox-door.mjs). By AI agents, Wed Nov 11 2026. No macro, syntax, notation, axiom, sorry.
-/
import Derived.Test.YtjblecinkedppaaGreatDoorRows
import GoSem.ClaimSeven
namespace Go.Proofs.YtjblecinkedppaaGreatDoor
namespace Rows

/-- THE TIED CARD OF 'laws.FnBenchDo'. -/
def fnBenchDoCard : Claim7 := { stood := { row := fnBenchDoRow, standIns := [], harness := (true, "08991d40b0c57c7eda57bf67d1a1306dc81a48b62be8acb49b17e32f72ac1616"), looks := false }, kinds := [], alts := [], laidByText := true, laidKinds := [.data, .data, .data, .data], laidTests := true, laidLooks := .later }
def FnBenchDoCardSaid : Prop := Claim7.holds Tryz.pinned (.plain (OpenSpec.ofChange fnBenchDoSpec)) fnBenchDoCard

/-- THE TIED CARD OF 'laws.FnBenchRun'. -/
def fnBenchRunCard : Claim7 := { stood := { row := fnBenchRunRow, standIns := [], harness := (true, "08991d40b0c57c7eda57bf67d1a1306dc81a48b62be8acb49b17e32f72ac1616"), looks := false }, kinds := [], alts := [], laidByText := true, laidKinds := [.data, .data, .data, .data], laidTests := true, laidLooks := .later }
def FnBenchRunCardSaid : Prop := Claim7.holds Tryz.pinned (.plain (OpenSpec.ofChange fnBenchRunSpec)) fnBenchRunCard

/-- THE SECOND FORM's CARD OF 'laws.FnBenchDo'. -/
def fnBenchDoUptoCard : Claim7 := { stood := { row := fnBenchDoUptoRow, standIns := [], harness := (true, "08991d40b0c57c7eda57bf67d1a1306dc81a48b62be8acb49b17e32f72ac1616"), looks := false }, kinds := [], alts := [], laidByText := true, laidKinds := [.data, .data, .data, .data], laidTests := true, laidLooks := .later }
def FnBenchDoUptoCardSaid : Prop := Claim7.holds Tryz.pinned (.plain (OpenSpec.upto fnBenchDoSpec)) fnBenchDoUptoCard

/-- THE SECOND FORM's CARD OF 'laws.FnBenchRun'. -/
def fnBenchRunUptoCard : Claim7 := { stood := { row := fnBenchRunUptoRow, standIns := [], harness := (true, "08991d40b0c57c7eda57bf67d1a1306dc81a48b62be8acb49b17e32f72ac1616"), looks := false }, kinds := [], alts := [], laidByText := true, laidKinds := [.data, .data, .data, .data], laidTests := true, laidLooks := .later }
def FnBenchRunUptoCardSaid : Prop := Claim7.holds Tryz.pinned (.plain (OpenSpec.upto fnBenchRunSpec)) fnBenchRunUptoCard
end Rows
end Go.Proofs.YtjblecinkedppaaGreatDoor
