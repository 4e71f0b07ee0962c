/-
  DERIVED. GIVEN WITH THE SEED: THE CARDS: each row of YthkjhenaicbepaaDoorRows.lean that lists a variable, with what it lists TIED to the program's text (the seventh form; the later family's looks); each row that meets fmt, with fmt's text TOLD by the authors' own Lean function (tested against real Go, not proved from fmt's source: count such statements apart). THE CARD IS WHAT COUNTS. Prove the row's statement (the work); the ties are given (YthkjhenaicbepaaDoorTie.lean); close each card by the builder's one call (the guide's Derived/Test/ToyasCard.lean, 'card_holds'). Laid BY PROGRAM, IN A SANDBOX (cutbox-door.mjs). By AI agents, Wed Nov 11 2026. No macro, syntax, notation, axiom, sorry.
-/
import Derived.Test.YthkjhenaicbepaaDoorRows
import GoSem.ClaimSeven
namespace Go.Proofs.YthkjhenaicbepaaDoor
namespace Rows

/-- THE TIED CARD OF 'threshinglaw15.CheckStacks'. -/
def checkStacksCard : Claim7 := { stood := { row := checkStacksRow, standIns := [], harness := (true, "5ee909d2c99a3b97610ea520c0f10299f4021381bfaa3344042ce3e1cc678710"), looks := false }, kinds := [], alts := [], laidByText := true, laidKinds := [.data, .data, .data], laidTests := true, laidLooks := .later }
def CheckStacksCardSaid : Prop := Claim7.holds Tryd.pinned (.plain (OpenSpec.ofChange checkStacksSpec)) checkStacksCard

/-- THE TIED CARD OF 'threshinglaw15.CheckWants'. -/
def checkWantsCard : Claim7 := { stood := { row := checkWantsRow, standIns := [], harness := (true, "5ee909d2c99a3b97610ea520c0f10299f4021381bfaa3344042ce3e1cc678710"), looks := false }, kinds := [], alts := [], laidByText := true, laidKinds := [.data, .data, .data], laidTests := true, laidLooks := .later }
def CheckWantsCardSaid : Prop := Claim7.holds Tryd.pinned (.plain (OpenSpec.ofChange checkWantsSpec)) checkWantsCard

/-- THE TIED CARD OF 'threshinglaw15.CheckPieces'. -/
def checkPiecesCard : Claim7 := { stood := { row := checkPiecesRow, standIns := [], harness := (true, "5ee909d2c99a3b97610ea520c0f10299f4021381bfaa3344042ce3e1cc678710"), looks := false }, kinds := [], alts := [], laidByText := true, laidKinds := [.data, .data, .data], laidTests := true, laidLooks := .later }
def CheckPiecesCardSaid : Prop := Claim7.holds Tryd.pinned (.plain (OpenSpec.ofChange checkPiecesSpec)) checkPiecesCard

/-- THE SECOND FORM's CARD OF 'threshinglaw15.CheckStacks'. -/
def checkStacksUptoCard : Claim7 := { stood := { row := checkStacksUptoRow, standIns := [], harness := (true, "5ee909d2c99a3b97610ea520c0f10299f4021381bfaa3344042ce3e1cc678710"), looks := false }, kinds := [], alts := [], laidByText := true, laidKinds := [.data, .data, .data], laidTests := true, laidLooks := .later }
def CheckStacksUptoCardSaid : Prop := Claim7.holds Tryd.pinned (.plain (OpenSpec.upto checkStacksSpec)) checkStacksUptoCard

/-- THE SECOND FORM's CARD OF 'threshinglaw15.CheckWants'. -/
def checkWantsUptoCard : Claim7 := { stood := { row := checkWantsUptoRow, standIns := [], harness := (true, "5ee909d2c99a3b97610ea520c0f10299f4021381bfaa3344042ce3e1cc678710"), looks := false }, kinds := [], alts := [], laidByText := true, laidKinds := [.data, .data, .data], laidTests := true, laidLooks := .later }
def CheckWantsUptoCardSaid : Prop := Claim7.holds Tryd.pinned (.plain (OpenSpec.upto checkWantsSpec)) checkWantsUptoCard

/-- THE SECOND FORM's CARD OF 'threshinglaw15.CheckPieces'. -/
def checkPiecesUptoCard : Claim7 := { stood := { row := checkPiecesUptoRow, standIns := [], harness := (true, "5ee909d2c99a3b97610ea520c0f10299f4021381bfaa3344042ce3e1cc678710"), looks := false }, kinds := [], alts := [], laidByText := true, laidKinds := [.data, .data, .data], laidTests := true, laidLooks := .later }
def CheckPiecesUptoCardSaid : Prop := Claim7.holds Tryd.pinned (.plain (OpenSpec.upto checkPiecesSpec)) checkPiecesUptoCard
end Rows
end Go.Proofs.YthkjhenaicbepaaDoor
