/-
  No cell of these rows narrows 'for every input' (looked for: loops, veiled, ifaces, maps, wideKeys, modest, calm, conditions, laid).
  DERIVED. THE GIVEN ROWS OF THIS SEAT. 6 by the template 'for every input the law returns true; each argument reads behind the call as it read before'; 0 by the template 'total and deterministic' (their statements: YtknlegjlbkaghaaTotals.lean).
  GIVEN WITH THE SEED: the statements are not yours to turn. If you find one false, say at which input.
  Laid BY PROGRAM, IN A SANDBOX (cutbox-rows.mjs): the forced cells as the released guide's own fill.sh prints them over the translation 925b2edf4771aa25… (all of the seat's roots in one cut). By AI agents, Wed Nov 11 2026. No macro, syntax, notation, axiom, sorry.
-/
import Derived.Test.YtknlegjlbkaghaaChecked
import GoSem.Claim
import GoSem.ClaimJoined
import GoSem.ClaimMapViews
import Derived.JoinedTies
import Derived.KernelRfl
namespace Go.Proofs.Ytknlegjlbkaghaa
/- THE CELL 'sum', in the pinned program and in every row, IS THE sha256 OF THE DUMP (.gsa) THAT YtknlegjlbkaghaaProg.lean LOADS. Nothing in Lean hashes anything: it is a label: what it is worth is what the hold of that sum in a sandbox is worth. -/
noncomputable def Try.pinned : Pinned := { name := "ytknlegjlbkaghaa", sum := "925b2edf4771aa25d92e4c993c5db6042736111f8fb908d3fb14b7c013fd17bf", checked := Try.checked }
namespace Rows
def none {H : Type} : Left H := { results := [], args := [] }

/-- 'threshinglaw05.TextScan': WHATEVER THE INPUT: true; the input reads as it did. -/
def textScanSpec : ChangeSpec := { name := "textScan", fn := fun _ => fun
  | [d1, d2] => { results := [.lit (.bool true)], args := [d1, d2] }
  | _ => none }
def textScanRow : OpenClaim := { program := "ytknlegjlbkaghaa", sum := "925b2edf4771aa25d92e4c993c5db6042736111f8fb908d3fb14b7c013fd17bf", func := "threshing/threshinglaw05.TextScan", spec := "textScan", inPlace := ["internal/bytealg.IndexByte", "internal/bytealg.IndexByteString"], apart := false }
def TextScanSaid : Prop := textScanRow.holds Try.pinned (OpenSpec.ofChange textScanSpec)

/-- ITS FALSE NEIGHBOUR: 'it returns false'. Refute it at one input. -/
def textScanWrong : ChangeSpec := { name := "textScan", fn := fun _ => fun
  | [d1, d2] => { results := [.lit (.bool false)], args := [d1, d2] }
  | _ => none }
def TextScanWrongFalsely : Prop := textScanRow.holds Try.pinned (OpenSpec.ofChange textScanWrong)

/-- 'threshinglaw05.TextRead': WHATEVER THE INPUT: true; the input reads as it did. -/
def textReadSpec : ChangeSpec := { name := "textRead", fn := fun _ => fun
  | [d1, d2, d3] => { results := [.lit (.bool true)], args := [d1, d2, d3] }
  | _ => none }
def textReadRow : OpenClaim := { program := "ytknlegjlbkaghaa", sum := "925b2edf4771aa25d92e4c993c5db6042736111f8fb908d3fb14b7c013fd17bf", func := "threshing/threshinglaw05.TextRead", spec := "textRead", inPlace := ["internal/bytealg.IndexByte", "internal/bytealg.IndexByteString"], apart := false }
def TextReadSaid : Prop := textReadRow.holds Try.pinned (OpenSpec.ofChange textReadSpec)

/-- ITS FALSE NEIGHBOUR: 'it returns false'. Refute it at one input. -/
def textReadWrong : ChangeSpec := { name := "textRead", fn := fun _ => fun
  | [d1, d2, d3] => { results := [.lit (.bool false)], args := [d1, d2, d3] }
  | _ => none }
def TextReadWrongFalsely : Prop := textReadRow.holds Try.pinned (OpenSpec.ofChange textReadWrong)

/-- 'threshinglaw05.TextWrite': WHATEVER THE INPUT: true; the input reads as it did. -/
def textWriteSpec : ChangeSpec := { name := "textWrite", fn := fun _ => fun
  | [d] => { results := [.lit (.bool true)], args := [d] }
  | _ => none }
def textWriteRow : OpenClaim := { program := "ytknlegjlbkaghaa", sum := "925b2edf4771aa25d92e4c993c5db6042736111f8fb908d3fb14b7c013fd17bf", func := "threshing/threshinglaw05.TextWrite", spec := "textWrite", inPlace := ["internal/bytealg.IndexByte", "internal/bytealg.IndexByteString"], apart := false }
def TextWriteSaid : Prop := textWriteRow.holds Try.pinned (OpenSpec.ofChange textWriteSpec)

/-- ITS FALSE NEIGHBOUR: 'it returns false'. Refute it at one input. -/
def textWriteWrong : ChangeSpec := { name := "textWrite", fn := fun _ => fun
  | [d] => { results := [.lit (.bool false)], args := [d] }
  | _ => none }
def TextWriteWrongFalsely : Prop := textWriteRow.holds Try.pinned (OpenSpec.ofChange textWriteWrong)

/-- 'threshinglaw05.TextSplits': WHATEVER THE INPUT: true; the input reads as it did. -/
def textSplitsSpec : ChangeSpec := { name := "textSplits", fn := fun _ => fun
  | [d1, d2] => { results := [.lit (.bool true)], args := [d1, d2] }
  | _ => none }
def textSplitsRow : OpenClaim := { program := "ytknlegjlbkaghaa", sum := "925b2edf4771aa25d92e4c993c5db6042736111f8fb908d3fb14b7c013fd17bf", func := "threshing/threshinglaw05.TextSplits", spec := "textSplits", inPlace := ["internal/bytealg.IndexByte", "internal/bytealg.IndexByteString"], apart := false }
def TextSplitsSaid : Prop := textSplitsRow.holds Try.pinned (OpenSpec.ofChange textSplitsSpec)

/-- ITS FALSE NEIGHBOUR: 'it returns false'. Refute it at one input. -/
def textSplitsWrong : ChangeSpec := { name := "textSplits", fn := fun _ => fun
  | [d1, d2] => { results := [.lit (.bool false)], args := [d1, d2] }
  | _ => none }
def TextSplitsWrongFalsely : Prop := textSplitsRow.holds Try.pinned (OpenSpec.ofChange textSplitsWrong)

/-- 'threshinglaw05.TextBack': WHATEVER THE INPUT: true; the input reads as it did. -/
def textBackSpec : ChangeSpec := { name := "textBack", fn := fun _ => fun
  | [d1, d2] => { results := [.lit (.bool true)], args := [d1, d2] }
  | _ => none }
def textBackRow : OpenClaim := { program := "ytknlegjlbkaghaa", sum := "925b2edf4771aa25d92e4c993c5db6042736111f8fb908d3fb14b7c013fd17bf", func := "threshing/threshinglaw05.TextBack", spec := "textBack", inPlace := ["internal/bytealg.IndexByte", "internal/bytealg.IndexByteString"], apart := false }
def TextBackSaid : Prop := textBackRow.holds Try.pinned (OpenSpec.ofChange textBackSpec)

/-- ITS FALSE NEIGHBOUR: 'it returns false'. Refute it at one input. -/
def textBackWrong : ChangeSpec := { name := "textBack", fn := fun _ => fun
  | [d1, d2] => { results := [.lit (.bool false)], args := [d1, d2] }
  | _ => none }
def TextBackWrongFalsely : Prop := textBackRow.holds Try.pinned (OpenSpec.ofChange textBackWrong)

/-- 'threshinglaw05.TextPieces': WHATEVER THE INPUT: true; the input reads as it did. -/
def textPiecesSpec : ChangeSpec := { name := "textPieces", fn := fun _ => fun
  | [d] => { results := [.lit (.bool true)], args := [d] }
  | _ => none }
def textPiecesRow : OpenClaim := { program := "ytknlegjlbkaghaa", sum := "925b2edf4771aa25d92e4c993c5db6042736111f8fb908d3fb14b7c013fd17bf", func := "threshing/threshinglaw05.TextPieces", spec := "textPieces", inPlace := ["internal/bytealg.IndexByte", "internal/bytealg.IndexByteString"], apart := false }
def TextPiecesSaid : Prop := textPiecesRow.holds Try.pinned (OpenSpec.ofChange textPiecesSpec)

/-- ITS FALSE NEIGHBOUR: 'it returns false'. Refute it at one input. -/
def textPiecesWrong : ChangeSpec := { name := "textPieces", fn := fun _ => fun
  | [d] => { results := [.lit (.bool false)], args := [d] }
  | _ => none }
def TextPiecesWrongFalsely : Prop := textPiecesRow.holds Try.pinned (OpenSpec.ofChange textPiecesWrong)

/- THE SECOND FORM. 'bulk': how many values and letters a reading holds, each counted each time it is reached (what is shared counts as often as it is met; a slice's spare places count too). A statement '..UptoSaid' is the law's where the arguments, and the package variables that the reading takes, are together of bulk at most 1048576: NARROWER than '..Said'. Prove '..Said' where nothing that the law and all that it calls make is longer than what came in: it says more and counts as full. Else prove '..UptoSaid'. A law counts once. -/
mutual
def uptoBulk {H : Type} : DataW H → Nat
  | .lit (.string bytes) => bytes.length + 1
  | .lit _ => 1
  | .nil => 1
  | .ptr d => uptoBulk d + 1
  | .slice elems spare => uptoBulkAll elems + uptoBulkAll spare + 1
  | .agg parts => uptoBulkAll parts + 1
  | .iface _ d => uptoBulk d + 1
  | .map entries => uptoBulkEntries entries + 1
  | .held _ => 1
def uptoBulkAll {H : Type} : List (DataW H) → Nat
  | [] => 0
  | d :: r => uptoBulk d + uptoBulkAll r
def uptoBulkEntries {H : Type} : List (Lit × DataW H) → Nat
  | [] => 0
  | x :: r => uptoBulkEntry x + uptoBulkEntries r
def uptoBulkEntry {H : Type} : Lit × DataW H → Nat
  | (.string bytes, d) => bytes.length + uptoBulk d + 1
  | (_, d) => uptoBulk d + 1
 end
def uptoSmall : (H : Type) → List (DataW H) → Bool := fun _ ds => decide (uptoBulkAll ds ≤ 1048576)
def OpenSpec.upto (s : _root_.Go.ChangeSpec) : _root_.Go.OpenSpec := { _root_.Go.OpenSpec.ofChange s with cond := some uptoSmall }

/-- 'threshinglaw05.TextScan', WHERE WHAT IT READS IS OF BULK AT MOST 1048576: true; the input reads as it did. -/
def textScanUptoRow : OpenClaim := { program := "ytknlegjlbkaghaa", sum := "925b2edf4771aa25d92e4c993c5db6042736111f8fb908d3fb14b7c013fd17bf", func := "threshing/threshinglaw05.TextScan", spec := "textScan", inPlace := ["internal/bytealg.IndexByte", "internal/bytealg.IndexByteString"], apart := false, narrowed := true }
def TextScanUptoSaid : Prop := textScanUptoRow.holds Try.pinned (OpenSpec.upto textScanSpec)

/-- 'threshinglaw05.TextRead', WHERE WHAT IT READS IS OF BULK AT MOST 1048576: true; the input reads as it did. -/
def textReadUptoRow : OpenClaim := { program := "ytknlegjlbkaghaa", sum := "925b2edf4771aa25d92e4c993c5db6042736111f8fb908d3fb14b7c013fd17bf", func := "threshing/threshinglaw05.TextRead", spec := "textRead", inPlace := ["internal/bytealg.IndexByte", "internal/bytealg.IndexByteString"], apart := false, narrowed := true }
def TextReadUptoSaid : Prop := textReadUptoRow.holds Try.pinned (OpenSpec.upto textReadSpec)

/-- 'threshinglaw05.TextWrite', WHERE WHAT IT READS IS OF BULK AT MOST 1048576: true; the input reads as it did. -/
def textWriteUptoRow : OpenClaim := { program := "ytknlegjlbkaghaa", sum := "925b2edf4771aa25d92e4c993c5db6042736111f8fb908d3fb14b7c013fd17bf", func := "threshing/threshinglaw05.TextWrite", spec := "textWrite", inPlace := ["internal/bytealg.IndexByte", "internal/bytealg.IndexByteString"], apart := false, narrowed := true }
def TextWriteUptoSaid : Prop := textWriteUptoRow.holds Try.pinned (OpenSpec.upto textWriteSpec)

/-- 'threshinglaw05.TextSplits', WHERE WHAT IT READS IS OF BULK AT MOST 1048576: true; the input reads as it did. -/
def textSplitsUptoRow : OpenClaim := { program := "ytknlegjlbkaghaa", sum := "925b2edf4771aa25d92e4c993c5db6042736111f8fb908d3fb14b7c013fd17bf", func := "threshing/threshinglaw05.TextSplits", spec := "textSplits", inPlace := ["internal/bytealg.IndexByte", "internal/bytealg.IndexByteString"], apart := false, narrowed := true }
def TextSplitsUptoSaid : Prop := textSplitsUptoRow.holds Try.pinned (OpenSpec.upto textSplitsSpec)

/-- 'threshinglaw05.TextBack', WHERE WHAT IT READS IS OF BULK AT MOST 1048576: true; the input reads as it did. -/
def textBackUptoRow : OpenClaim := { program := "ytknlegjlbkaghaa", sum := "925b2edf4771aa25d92e4c993c5db6042736111f8fb908d3fb14b7c013fd17bf", func := "threshing/threshinglaw05.TextBack", spec := "textBack", inPlace := ["internal/bytealg.IndexByte", "internal/bytealg.IndexByteString"], apart := false, narrowed := true }
def TextBackUptoSaid : Prop := textBackUptoRow.holds Try.pinned (OpenSpec.upto textBackSpec)

/-- 'threshinglaw05.TextPieces', WHERE WHAT IT READS IS OF BULK AT MOST 1048576: true; the input reads as it did. -/
def textPiecesUptoRow : OpenClaim := { program := "ytknlegjlbkaghaa", sum := "925b2edf4771aa25d92e4c993c5db6042736111f8fb908d3fb14b7c013fd17bf", func := "threshing/threshinglaw05.TextPieces", spec := "textPieces", inPlace := ["internal/bytealg.IndexByte", "internal/bytealg.IndexByteString"], apart := false, narrowed := true }
def TextPiecesUptoSaid : Prop := textPiecesUptoRow.holds Try.pinned (OpenSpec.upto textPiecesSpec)

end Rows
end Go.Proofs.Ytknlegjlbkaghaa
