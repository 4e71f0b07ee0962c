/-
  DERIVED. GIVEN WITH THE SEED: THE CARDS: each row of YtknmhdkomjjneaaGreatDoorRows.lean that lists a variable, with what it lists TIED to the program's text (the seventh form; the later family's looks); each row that meets fmt, with fmt's text TOLD by the authors' own Lean function (tested against real Go, not proved from fmt's source: count such statements apart). THE CARD IS WHAT COUNTS. Prove the row's statement (the work); the ties are given (YtknmhdkomjjneaaGreatDoorTie.lean); close each card by the builder's one call (the guide's Derived/Test/ToyasCard.lean, 'card_holds'). Laid BY PROGRAM, IN A SANDBOX (cutbox-door.mjs). By AI agents, Wed Nov 11 2026. No macro, syntax, notation, axiom, sorry.
-/
import Derived.Test.YtknmhdkomjjneaaGreatDoorRows
import GoSem.ClaimSeven
namespace Go.Proofs.YtknmhdkomjjneaaGreatDoor
namespace Rows

/-- THE TIED CARD OF 'threshinglaw11.PlanMakes'. -/
def planMakesCard : Claim7 := { stood := { row := planMakesRow, standIns := [], harness := (true, "2550a25bb39f7ffd5adb50f667d7af5040832e1b77ca8de88bff609d8d7120ed"), looks := false }, kinds := [], alts := [], laidByText := true, laidKinds := [.data, .pinned], laidTests := true, laidLooks := .later }
def PlanMakesCardSaid : Prop := Claim7.holds Tryz.pinned (.plain (OpenSpec.ofChange planMakesSpec)) planMakesCard

/-- THE TIED CARD OF 'threshinglaw11.PlanSizes'. -/
def planSizesCard : Claim7 := { stood := { row := planSizesRow, standIns := [], harness := (true, "2550a25bb39f7ffd5adb50f667d7af5040832e1b77ca8de88bff609d8d7120ed"), looks := false }, kinds := [], alts := [], laidByText := true, laidKinds := [.data, .pinned], laidTests := true, laidLooks := .later }
def PlanSizesCardSaid : Prop := Claim7.holds Tryz.pinned (.plain (OpenSpec.ofChange planSizesSpec)) planSizesCard

/-- THE TIED CARD OF 'threshinglaw11.PlanWrite'. -/
def planWriteCard : Claim7 := { stood := { row := planWriteRow, standIns := [], harness := (true, "2550a25bb39f7ffd5adb50f667d7af5040832e1b77ca8de88bff609d8d7120ed"), looks := false }, kinds := [], alts := [], laidByText := true, laidKinds := [.data, .pinned], laidTests := true, laidLooks := .later }
def PlanWriteCardSaid : Prop := Claim7.holds Tryz.pinned (.plain (OpenSpec.ofChange planWriteSpec)) planWriteCard

/-- THE TIED CARD OF 'threshinglaw11.PlanAligned'. -/
def planAlignedCard : Claim7 := { stood := { row := planAlignedRow, standIns := [], harness := (true, "2550a25bb39f7ffd5adb50f667d7af5040832e1b77ca8de88bff609d8d7120ed"), looks := false }, kinds := [], alts := [], laidByText := true, laidKinds := [.data, .pinned], laidTests := true, laidLooks := .later }
def PlanAlignedCardSaid : Prop := Claim7.holds Tryz.pinned (.plain (OpenSpec.ofChange planAlignedSpec)) planAlignedCard

/-- THE SECOND FORM's CARD OF 'threshinglaw11.PlanMakes'. -/
def planMakesUptoCard : Claim7 := { stood := { row := planMakesUptoRow, standIns := [], harness := (true, "2550a25bb39f7ffd5adb50f667d7af5040832e1b77ca8de88bff609d8d7120ed"), looks := false }, kinds := [], alts := [], laidByText := true, laidKinds := [.data, .pinned], laidTests := true, laidLooks := .later }
def PlanMakesUptoCardSaid : Prop := Claim7.holds Tryz.pinned (.plain (OpenSpec.upto planMakesSpec)) planMakesUptoCard

/-- THE SECOND FORM's CARD OF 'threshinglaw11.PlanSizes'. -/
def planSizesUptoCard : Claim7 := { stood := { row := planSizesUptoRow, standIns := [], harness := (true, "2550a25bb39f7ffd5adb50f667d7af5040832e1b77ca8de88bff609d8d7120ed"), looks := false }, kinds := [], alts := [], laidByText := true, laidKinds := [.data, .pinned], laidTests := true, laidLooks := .later }
def PlanSizesUptoCardSaid : Prop := Claim7.holds Tryz.pinned (.plain (OpenSpec.upto planSizesSpec)) planSizesUptoCard

/-- THE SECOND FORM's CARD OF 'threshinglaw11.PlanWrite'. -/
def planWriteUptoCard : Claim7 := { stood := { row := planWriteUptoRow, standIns := [], harness := (true, "2550a25bb39f7ffd5adb50f667d7af5040832e1b77ca8de88bff609d8d7120ed"), looks := false }, kinds := [], alts := [], laidByText := true, laidKinds := [.data, .pinned], laidTests := true, laidLooks := .later }
def PlanWriteUptoCardSaid : Prop := Claim7.holds Tryz.pinned (.plain (OpenSpec.upto planWriteSpec)) planWriteUptoCard

/-- THE SECOND FORM's CARD OF 'threshinglaw11.PlanAligned'. -/
def planAlignedUptoCard : Claim7 := { stood := { row := planAlignedUptoRow, standIns := [], harness := (true, "2550a25bb39f7ffd5adb50f667d7af5040832e1b77ca8de88bff609d8d7120ed"), looks := false }, kinds := [], alts := [], laidByText := true, laidKinds := [.data, .pinned], laidTests := true, laidLooks := .later }
def PlanAlignedUptoCardSaid : Prop := Claim7.holds Tryz.pinned (.plain (OpenSpec.upto planAlignedSpec)) planAlignedUptoCard
end Rows
end Go.Proofs.YtknmhdkomjjneaaGreatDoor
