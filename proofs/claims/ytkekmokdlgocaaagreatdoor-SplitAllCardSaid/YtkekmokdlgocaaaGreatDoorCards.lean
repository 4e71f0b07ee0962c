/-
  DERIVED. GIVEN WITH THE SEED: THE CARDS: each row of YtkekmokdlgocaaaGreatDoorRows.lean that lists a variable, with what it lists TIED to the program's text (the seventh form; the later family's looks); each row that meets fmt, with fmt's text TOLD by the authors' own Lean function (tested against real Go, not proved from fmt's source: count such statements apart). THE CARD IS WHAT COUNTS. Prove the row's statement (the work); the ties are given (YtkekmokdlgocaaaGreatDoorTie.lean); close each card by the builder's one call (the guide's Derived/Test/ToyasCard.lean, 'card_holds'). Laid BY PROGRAM, IN A SANDBOX (cutbox-door.mjs). By AI agents, Wed Nov 11 2026. No macro, syntax, notation, axiom, sorry.
-/
import Derived.Test.YtkekmokdlgocaaaGreatDoorRows
import GoSem.ClaimSeven
namespace Go.Proofs.YtkekmokdlgocaaaGreatDoor
namespace Rows

/-- THE TIED CARD OF 'threshinglaw12.SplitReads'. -/
def splitReadsCard : Claim7 := { stood := { row := splitReadsRow, standIns := [], harness := (true, "8aafbccc2e374b8642a6cc9aed4d394b7eeaeb0c0e2c1b5a0189f40989f904e4"), looks := false }, kinds := [], alts := [], laidByText := true, laidKinds := [.data, .pinned], laidTests := true, laidLooks := .later }
def SplitReadsCardSaid : Prop := Claim7.holds Tryz.pinned (.plain (OpenSpec.ofChange splitReadsSpec)) splitReadsCard

/-- THE TIED CARD OF 'threshinglaw12.SplitAll'. -/
def splitAllCard : Claim7 := { stood := { row := splitAllRow, standIns := [], harness := (true, "8aafbccc2e374b8642a6cc9aed4d394b7eeaeb0c0e2c1b5a0189f40989f904e4"), looks := false }, kinds := [], alts := [], laidByText := true, laidKinds := [.data, .pinned], laidTests := true, laidLooks := .later }
def SplitAllCardSaid : Prop := Claim7.holds Tryz.pinned (.plain (OpenSpec.ofChange splitAllSpec)) splitAllCard

/-- THE TIED CARD OF 'threshinglaw12.SplitWhole'. -/
def splitWholeCard : Claim7 := { stood := { row := splitWholeRow, standIns := [], harness := (true, "8aafbccc2e374b8642a6cc9aed4d394b7eeaeb0c0e2c1b5a0189f40989f904e4"), looks := false }, kinds := [], alts := [], laidByText := true, laidKinds := [.data, .pinned], laidTests := true, laidLooks := .later }
def SplitWholeCardSaid : Prop := Claim7.holds Tryz.pinned (.plain (OpenSpec.ofChange splitWholeSpec)) splitWholeCard

/-- THE TIED CARD OF 'threshinglaw12.SplitBeyond'. -/
def splitBeyondCard : Claim7 := { stood := { row := splitBeyondRow, standIns := [], harness := (true, "8aafbccc2e374b8642a6cc9aed4d394b7eeaeb0c0e2c1b5a0189f40989f904e4"), looks := false }, kinds := [], alts := [], laidByText := true, laidKinds := [.data, .pinned], laidTests := true, laidLooks := .later }
def SplitBeyondCardSaid : Prop := Claim7.holds Tryz.pinned (.plain (OpenSpec.ofChange splitBeyondSpec)) splitBeyondCard

/-- THE TIED CARD OF 'threshinglaw12.SplitFiner'. -/
def splitFinerCard : Claim7 := { stood := { row := splitFinerRow, standIns := [], harness := (true, "8aafbccc2e374b8642a6cc9aed4d394b7eeaeb0c0e2c1b5a0189f40989f904e4"), looks := false }, kinds := [], alts := [], laidByText := true, laidKinds := [.data, .pinned], laidTests := true, laidLooks := .later }
def SplitFinerCardSaid : Prop := Claim7.holds Tryz.pinned (.plain (OpenSpec.ofChange splitFinerSpec)) splitFinerCard

/-- THE SECOND FORM's CARD OF 'threshinglaw12.SplitReads'. -/
def splitReadsUptoCard : Claim7 := { stood := { row := splitReadsUptoRow, standIns := [], harness := (true, "8aafbccc2e374b8642a6cc9aed4d394b7eeaeb0c0e2c1b5a0189f40989f904e4"), looks := false }, kinds := [], alts := [], laidByText := true, laidKinds := [.data, .pinned], laidTests := true, laidLooks := .later }
def SplitReadsUptoCardSaid : Prop := Claim7.holds Tryz.pinned (.plain (OpenSpec.upto splitReadsSpec)) splitReadsUptoCard

/-- THE SECOND FORM's CARD OF 'threshinglaw12.SplitAll'. -/
def splitAllUptoCard : Claim7 := { stood := { row := splitAllUptoRow, standIns := [], harness := (true, "8aafbccc2e374b8642a6cc9aed4d394b7eeaeb0c0e2c1b5a0189f40989f904e4"), looks := false }, kinds := [], alts := [], laidByText := true, laidKinds := [.data, .pinned], laidTests := true, laidLooks := .later }
def SplitAllUptoCardSaid : Prop := Claim7.holds Tryz.pinned (.plain (OpenSpec.upto splitAllSpec)) splitAllUptoCard

/-- THE SECOND FORM's CARD OF 'threshinglaw12.SplitWhole'. -/
def splitWholeUptoCard : Claim7 := { stood := { row := splitWholeUptoRow, standIns := [], harness := (true, "8aafbccc2e374b8642a6cc9aed4d394b7eeaeb0c0e2c1b5a0189f40989f904e4"), looks := false }, kinds := [], alts := [], laidByText := true, laidKinds := [.data, .pinned], laidTests := true, laidLooks := .later }
def SplitWholeUptoCardSaid : Prop := Claim7.holds Tryz.pinned (.plain (OpenSpec.upto splitWholeSpec)) splitWholeUptoCard

/-- THE SECOND FORM's CARD OF 'threshinglaw12.SplitBeyond'. -/
def splitBeyondUptoCard : Claim7 := { stood := { row := splitBeyondUptoRow, standIns := [], harness := (true, "8aafbccc2e374b8642a6cc9aed4d394b7eeaeb0c0e2c1b5a0189f40989f904e4"), looks := false }, kinds := [], alts := [], laidByText := true, laidKinds := [.data, .pinned], laidTests := true, laidLooks := .later }
def SplitBeyondUptoCardSaid : Prop := Claim7.holds Tryz.pinned (.plain (OpenSpec.upto splitBeyondSpec)) splitBeyondUptoCard

/-- THE SECOND FORM's CARD OF 'threshinglaw12.SplitFiner'. -/
def splitFinerUptoCard : Claim7 := { stood := { row := splitFinerUptoRow, standIns := [], harness := (true, "8aafbccc2e374b8642a6cc9aed4d394b7eeaeb0c0e2c1b5a0189f40989f904e4"), looks := false }, kinds := [], alts := [], laidByText := true, laidKinds := [.data, .pinned], laidTests := true, laidLooks := .later }
def SplitFinerUptoCardSaid : Prop := Claim7.holds Tryz.pinned (.plain (OpenSpec.upto splitFinerSpec)) splitFinerUptoCard
end Rows
end Go.Proofs.YtkekmokdlgocaaaGreatDoor
