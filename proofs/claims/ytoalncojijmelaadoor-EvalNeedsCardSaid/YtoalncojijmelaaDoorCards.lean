/-
  DERIVED. GIVEN WITH THE SEED: THE CARDS: each row of YtoalncojijmelaaDoorRows.lean that lists a variable, with what it lists TIED to the program's text (the seventh form; the later family's looks); each row that meets fmt, with fmt's text TOLD by the authors' own Lean function (tested against real Go, not proved from fmt's source: count such statements apart). THE CARD IS WHAT COUNTS. Prove the row's statement (the work); the ties are given (YtoalncojijmelaaDoorTie.lean); close each card by the builder's one call (the guide's Derived/Test/ToyasCard.lean, 'card_holds'). Laid BY PROGRAM, IN A SANDBOX (cutbox-door.mjs). By AI agents, Wed Nov 11 2026. No macro, syntax, notation, axiom, sorry.
-/
import Derived.Test.YtoalncojijmelaaDoorRows
import GoSem.ClaimSeven
namespace Go.Proofs.YtoalncojijmelaaDoor
namespace Rows

/-- THE TIED CARD OF 'threshinglaw16.EvalTotal'. -/
def evalTotalCard : Claim7 := { stood := { row := evalTotalRow, standIns := [], harness := (true, "9dadce496e3a0bfb3186cd8424c62cda68694882619f2a8cabdbfbb3eb261da2"), looks := false }, kinds := [], alts := [], laidByText := true, laidKinds := [.data, .data, .data], laidTests := true, laidLooks := .later }
def EvalTotalCardSaid : Prop := Claim7.holds Tryd.pinned (.plain (OpenSpec.ofChange evalTotalSpec)) evalTotalCard

/-- THE TIED CARD OF 'threshinglaw16.EvalNeeds'. -/
def evalNeedsCard : Claim7 := { stood := { row := evalNeedsRow, standIns := [], harness := (true, "9dadce496e3a0bfb3186cd8424c62cda68694882619f2a8cabdbfbb3eb261da2"), looks := false }, kinds := [], alts := [], laidByText := true, laidKinds := [.data, .data, .data], laidTests := true, laidLooks := .later }
def EvalNeedsCardSaid : Prop := Claim7.holds Tryd.pinned (.plain (OpenSpec.ofChange evalNeedsSpec)) evalNeedsCard

/-- THE SECOND FORM's CARD OF 'threshinglaw16.EvalTotal'. -/
def evalTotalUptoCard : Claim7 := { stood := { row := evalTotalUptoRow, standIns := [], harness := (true, "9dadce496e3a0bfb3186cd8424c62cda68694882619f2a8cabdbfbb3eb261da2"), looks := false }, kinds := [], alts := [], laidByText := true, laidKinds := [.data, .data, .data], laidTests := true, laidLooks := .later }
def EvalTotalUptoCardSaid : Prop := Claim7.holds Tryd.pinned (.plain (OpenSpec.upto evalTotalSpec)) evalTotalUptoCard

/-- THE SECOND FORM's CARD OF 'threshinglaw16.EvalNeeds'. -/
def evalNeedsUptoCard : Claim7 := { stood := { row := evalNeedsUptoRow, standIns := [], harness := (true, "9dadce496e3a0bfb3186cd8424c62cda68694882619f2a8cabdbfbb3eb261da2"), looks := false }, kinds := [], alts := [], laidByText := true, laidKinds := [.data, .data, .data], laidTests := true, laidLooks := .later }
def EvalNeedsUptoCardSaid : Prop := Claim7.holds Tryd.pinned (.plain (OpenSpec.upto evalNeedsSpec)) evalNeedsUptoCard
end Rows
end Go.Proofs.YtoalncojijmelaaDoor
