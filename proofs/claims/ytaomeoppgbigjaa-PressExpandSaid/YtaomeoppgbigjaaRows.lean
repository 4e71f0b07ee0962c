/-
  No cell of these rows narrows 'for every input' (looked for: loops, veiled, ifaces, maps, wideKeys, modest, calm, conditions, laid).
  DERIVED. THE GIVEN ROWS OF THIS SEAT. 5 by the template 'for every input the law returns true; each argument reads behind the call as it read before'; 0 by the template 'total and deterministic' (their statements: YtaomeoppgbigjaaTotals.lean).
  GIVEN WITH THE SEED: the statements are not yours to turn. If you find one false, say at which input.
  Laid BY PROGRAM, IN A SANDBOX (cutbox-rows.mjs): the forced cells as the released guide's own fill.sh prints them over the translation 6946d190e29439b5… (all of the seat's roots in one cut). By AI agents, Wed Nov 11 2026. No macro, syntax, notation, axiom, sorry.
-/
import Derived.Test.YtaomeoppgbigjaaChecked
import GoSem.Claim
import GoSem.ClaimJoined
import GoSem.ClaimMapViews
import Derived.JoinedTies
import Derived.KernelRfl
namespace Go.Proofs.Ytaomeoppgbigjaa
/- THE CELL 'sum', in the pinned program and in every row, IS THE sha256 OF THE DUMP (.gsa) THAT YtaomeoppgbigjaaProg.lean LOADS. Nothing in Lean hashes anything: it is a label: what it is worth is what the hold of that sum in a sandbox is worth. -/
noncomputable def Try.pinned : Pinned := { name := "ytaomeoppgbigjaa", sum := "6946d190e29439b5119a6027fbaf71b5163d026fade6aceb1d6052df53b592b6", checked := Try.checked }
namespace Rows
def none {H : Type} : Left H := { results := [], args := [] }

/-- 'threshinglaw03.PressTold': WHATEVER THE INPUT: true; the input reads as it did. -/
def pressToldSpec : ChangeSpec := { name := "pressTold", fn := fun _ => fun
  | [d] => { results := [.lit (.bool true)], args := [d] }
  | _ => none }
def pressToldRow : OpenClaim := { program := "ytaomeoppgbigjaa", sum := "6946d190e29439b5119a6027fbaf71b5163d026fade6aceb1d6052df53b592b6", func := "threshing/threshinglaw03.PressTold", spec := "pressTold", apart := false }
def PressToldSaid : Prop := pressToldRow.holds Try.pinned (OpenSpec.ofChange pressToldSpec)

/-- ITS FALSE NEIGHBOUR: 'it returns false'. Refute it at one input. -/
def pressToldWrong : ChangeSpec := { name := "pressTold", fn := fun _ => fun
  | [d] => { results := [.lit (.bool false)], args := [d] }
  | _ => none }
def PressToldWrongFalsely : Prop := pressToldRow.holds Try.pinned (OpenSpec.ofChange pressToldWrong)

/-- 'threshinglaw03.PressExpand': WHATEVER THE INPUT: true; the input reads as it did. -/
def pressExpandSpec : ChangeSpec := { name := "pressExpand", fn := fun _ => fun
  | [d1, d2] => { results := [.lit (.bool true)], args := [d1, d2] }
  | _ => none }
def pressExpandRow : OpenClaim := { program := "ytaomeoppgbigjaa", sum := "6946d190e29439b5119a6027fbaf71b5163d026fade6aceb1d6052df53b592b6", func := "threshing/threshinglaw03.PressExpand", spec := "pressExpand", apart := false }
def PressExpandSaid : Prop := pressExpandRow.holds Try.pinned (OpenSpec.ofChange pressExpandSpec)

/-- ITS FALSE NEIGHBOUR: 'it returns false'. Refute it at one input. -/
def pressExpandWrong : ChangeSpec := { name := "pressExpand", fn := fun _ => fun
  | [d1, d2] => { results := [.lit (.bool false)], args := [d1, d2] }
  | _ => none }
def PressExpandWrongFalsely : Prop := pressExpandRow.holds Try.pinned (OpenSpec.ofChange pressExpandWrong)

/-- 'threshinglaw03.PressBack': WHATEVER THE INPUT: true; the input reads as it did. -/
def pressBackSpec : ChangeSpec := { name := "pressBack", fn := fun _ => fun
  | [d1, d2] => { results := [.lit (.bool true)], args := [d1, d2] }
  | _ => none }
def pressBackRow : OpenClaim := { program := "ytaomeoppgbigjaa", sum := "6946d190e29439b5119a6027fbaf71b5163d026fade6aceb1d6052df53b592b6", func := "threshing/threshinglaw03.PressBack", spec := "pressBack", apart := false }
def PressBackSaid : Prop := pressBackRow.holds Try.pinned (OpenSpec.ofChange pressBackSpec)

/-- ITS FALSE NEIGHBOUR: 'it returns false'. Refute it at one input. -/
def pressBackWrong : ChangeSpec := { name := "pressBack", fn := fun _ => fun
  | [d1, d2] => { results := [.lit (.bool false)], args := [d1, d2] }
  | _ => none }
def PressBackWrongFalsely : Prop := pressBackRow.holds Try.pinned (OpenSpec.ofChange pressBackWrong)

/-- 'threshinglaw03.PressRuns': WHATEVER THE INPUT: true; the input reads as it did. -/
def pressRunsSpec : ChangeSpec := { name := "pressRuns", fn := fun _ => fun
  | [d1, d2, d3] => { results := [.lit (.bool true)], args := [d1, d2, d3] }
  | _ => none }
def pressRunsRow : OpenClaim := { program := "ytaomeoppgbigjaa", sum := "6946d190e29439b5119a6027fbaf71b5163d026fade6aceb1d6052df53b592b6", func := "threshing/threshinglaw03.PressRuns", spec := "pressRuns", apart := false }
def PressRunsSaid : Prop := pressRunsRow.holds Try.pinned (OpenSpec.ofChange pressRunsSpec)

/-- ITS FALSE NEIGHBOUR: 'it returns false'. Refute it at one input. -/
def pressRunsWrong : ChangeSpec := { name := "pressRuns", fn := fun _ => fun
  | [d1, d2, d3] => { results := [.lit (.bool false)], args := [d1, d2, d3] }
  | _ => none }
def PressRunsWrongFalsely : Prop := pressRunsRow.holds Try.pinned (OpenSpec.ofChange pressRunsWrong)

/-- 'threshinglaw03.PressMarks': WHATEVER THE INPUT: true; the input reads as it did. -/
def pressMarksSpec : ChangeSpec := { name := "pressMarks", fn := fun _ => fun
  | [d] => { results := [.lit (.bool true)], args := [d] }
  | _ => none }
def pressMarksRow : OpenClaim := { program := "ytaomeoppgbigjaa", sum := "6946d190e29439b5119a6027fbaf71b5163d026fade6aceb1d6052df53b592b6", func := "threshing/threshinglaw03.PressMarks", spec := "pressMarks", apart := false }
def PressMarksSaid : Prop := pressMarksRow.holds Try.pinned (OpenSpec.ofChange pressMarksSpec)

/-- ITS FALSE NEIGHBOUR: 'it returns false'. Refute it at one input. -/
def pressMarksWrong : ChangeSpec := { name := "pressMarks", fn := fun _ => fun
  | [d] => { results := [.lit (.bool false)], args := [d] }
  | _ => none }
def PressMarksWrongFalsely : Prop := pressMarksRow.holds Try.pinned (OpenSpec.ofChange pressMarksWrong)

/- THE SECOND FORM. 'bulk': how many values and letters a reading holds, each counted each time it is reached (what is shared counts as often as it is met; a slice's spare places count too). A statement '..UptoSaid' is the law's where the arguments, and the package variables that the reading takes, are together of bulk at most 1048576: NARROWER than '..Said'. Prove '..Said' where nothing that the law and all that it calls make is longer than what came in: it says more and counts as full. Else prove '..UptoSaid'. A law counts once. -/
mutual
def uptoBulk {H : Type} : DataW H → Nat
  | .lit (.string bytes) => bytes.length + 1
  | .lit _ => 1
  | .nil => 1
  | .ptr d => uptoBulk d + 1
  | .slice elems spare => uptoBulkAll elems + uptoBulkAll spare + 1
  | .agg parts => uptoBulkAll parts + 1
  | .iface _ d => uptoBulk d + 1
  | .map entries => uptoBulkEntries entries + 1
  | .held _ => 1
def uptoBulkAll {H : Type} : List (DataW H) → Nat
  | [] => 0
  | d :: r => uptoBulk d + uptoBulkAll r
def uptoBulkEntries {H : Type} : List (Lit × DataW H) → Nat
  | [] => 0
  | x :: r => uptoBulkEntry x + uptoBulkEntries r
def uptoBulkEntry {H : Type} : Lit × DataW H → Nat
  | (.string bytes, d) => bytes.length + uptoBulk d + 1
  | (_, d) => uptoBulk d + 1
 end
def uptoSmall : (H : Type) → List (DataW H) → Bool := fun _ ds => decide (uptoBulkAll ds ≤ 1048576)
def OpenSpec.upto (s : _root_.Go.ChangeSpec) : _root_.Go.OpenSpec := { _root_.Go.OpenSpec.ofChange s with cond := some uptoSmall }

/-- 'threshinglaw03.PressTold', WHERE WHAT IT READS IS OF BULK AT MOST 1048576: true; the input reads as it did. -/
def pressToldUptoRow : OpenClaim := { program := "ytaomeoppgbigjaa", sum := "6946d190e29439b5119a6027fbaf71b5163d026fade6aceb1d6052df53b592b6", func := "threshing/threshinglaw03.PressTold", spec := "pressTold", apart := false, narrowed := true }
def PressToldUptoSaid : Prop := pressToldUptoRow.holds Try.pinned (OpenSpec.upto pressToldSpec)

/-- 'threshinglaw03.PressExpand', WHERE WHAT IT READS IS OF BULK AT MOST 1048576: true; the input reads as it did. -/
def pressExpandUptoRow : OpenClaim := { program := "ytaomeoppgbigjaa", sum := "6946d190e29439b5119a6027fbaf71b5163d026fade6aceb1d6052df53b592b6", func := "threshing/threshinglaw03.PressExpand", spec := "pressExpand", apart := false, narrowed := true }
def PressExpandUptoSaid : Prop := pressExpandUptoRow.holds Try.pinned (OpenSpec.upto pressExpandSpec)

/-- 'threshinglaw03.PressBack', WHERE WHAT IT READS IS OF BULK AT MOST 1048576: true; the input reads as it did. -/
def pressBackUptoRow : OpenClaim := { program := "ytaomeoppgbigjaa", sum := "6946d190e29439b5119a6027fbaf71b5163d026fade6aceb1d6052df53b592b6", func := "threshing/threshinglaw03.PressBack", spec := "pressBack", apart := false, narrowed := true }
def PressBackUptoSaid : Prop := pressBackUptoRow.holds Try.pinned (OpenSpec.upto pressBackSpec)

/-- 'threshinglaw03.PressRuns', WHERE WHAT IT READS IS OF BULK AT MOST 1048576: true; the input reads as it did. -/
def pressRunsUptoRow : OpenClaim := { program := "ytaomeoppgbigjaa", sum := "6946d190e29439b5119a6027fbaf71b5163d026fade6aceb1d6052df53b592b6", func := "threshing/threshinglaw03.PressRuns", spec := "pressRuns", apart := false, narrowed := true }
def PressRunsUptoSaid : Prop := pressRunsUptoRow.holds Try.pinned (OpenSpec.upto pressRunsSpec)

/-- 'threshinglaw03.PressMarks', WHERE WHAT IT READS IS OF BULK AT MOST 1048576: true; the input reads as it did. -/
def pressMarksUptoRow : OpenClaim := { program := "ytaomeoppgbigjaa", sum := "6946d190e29439b5119a6027fbaf71b5163d026fade6aceb1d6052df53b592b6", func := "threshing/threshinglaw03.PressMarks", spec := "pressMarks", apart := false, narrowed := true }
def PressMarksUptoSaid : Prop := pressMarksUptoRow.holds Try.pinned (OpenSpec.upto pressMarksSpec)

end Rows
end Go.Proofs.Ytaomeoppgbigjaa
