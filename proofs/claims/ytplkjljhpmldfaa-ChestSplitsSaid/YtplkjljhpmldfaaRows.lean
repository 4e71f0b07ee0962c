/-
  No cell of these rows narrows 'for every input' (looked for: loops, veiled, ifaces, maps, wideKeys, modest, calm, conditions, laid).
  DERIVED. THE GIVEN ROWS OF THIS SEAT. 5 by the template 'for every input the law returns true; each argument reads behind the call as it read before'; 0 by the template 'total and deterministic' (their statements: YtplkjljhpmldfaaTotals.lean).
  GIVEN WITH THE SEED: the statements are not yours to turn. If you find one false, say at which input.
  Laid BY PROGRAM, IN A SANDBOX (cutbox-rows.mjs): the forced cells as the released guide's own fill.sh prints them over the translation c523fcf7ab2ae83a… (all of the seat's roots in one cut). By AI agents, Wed Nov 11 2026. No macro, syntax, notation, axiom, sorry.
-/
import Derived.Test.YtplkjljhpmldfaaChecked
import GoSem.Claim
import GoSem.ClaimJoined
import GoSem.ClaimMapViews
import Derived.JoinedTies
import Derived.KernelRfl
namespace Go.Proofs.Ytplkjljhpmldfaa
/- THE CELL 'sum', in the pinned program and in every row, IS THE sha256 OF THE DUMP (.gsa) THAT YtplkjljhpmldfaaProg.lean LOADS. Nothing in Lean hashes anything: it is a label: what it is worth is what the hold of that sum in a sandbox is worth. -/
noncomputable def Try.pinned : Pinned := { name := "ytplkjljhpmldfaa", sum := "c523fcf7ab2ae83a591101c6330eb374973d25a17b7a0cf931ae660ed67dcc2d", checked := Try.checked }
namespace Rows
def none {H : Type} : Left H := { results := [], args := [] }

/-- 'threshinglaw08.ChestRead': WHATEVER THE INPUT: true; the input reads as it did. -/
def chestReadSpec : ChangeSpec := { name := "chestRead", fn := fun _ => fun
  | [d1, d2, d3] => { results := [.lit (.bool true)], args := [d1, d2, d3] }
  | _ => none }
def chestReadRow : OpenClaim := { program := "ytplkjljhpmldfaa", sum := "c523fcf7ab2ae83a591101c6330eb374973d25a17b7a0cf931ae660ed67dcc2d", func := "threshing/threshinglaw08.ChestRead", spec := "chestRead", unfollowed := true, recurses := true, apart := false }
def ChestReadSaid : Prop := chestReadRow.holds Try.pinned (OpenSpec.ofChange chestReadSpec)

/-- ITS FALSE NEIGHBOUR: 'it returns false'. Refute it at one input. -/
def chestReadWrong : ChangeSpec := { name := "chestRead", fn := fun _ => fun
  | [d1, d2, d3] => { results := [.lit (.bool false)], args := [d1, d2, d3] }
  | _ => none }
def ChestReadWrongFalsely : Prop := chestReadRow.holds Try.pinned (OpenSpec.ofChange chestReadWrong)

/-- 'threshinglaw08.ChestWrite': WHATEVER THE INPUT: true; the input reads as it did. -/
def chestWriteSpec : ChangeSpec := { name := "chestWrite", fn := fun _ => fun
  | [d] => { results := [.lit (.bool true)], args := [d] }
  | _ => none }
def chestWriteRow : OpenClaim := { program := "ytplkjljhpmldfaa", sum := "c523fcf7ab2ae83a591101c6330eb374973d25a17b7a0cf931ae660ed67dcc2d", func := "threshing/threshinglaw08.ChestWrite", spec := "chestWrite", unfollowed := true, recurses := true, apart := false }
def ChestWriteSaid : Prop := chestWriteRow.holds Try.pinned (OpenSpec.ofChange chestWriteSpec)

/-- ITS FALSE NEIGHBOUR: 'it returns false'. Refute it at one input. -/
def chestWriteWrong : ChangeSpec := { name := "chestWrite", fn := fun _ => fun
  | [d] => { results := [.lit (.bool false)], args := [d] }
  | _ => none }
def ChestWriteWrongFalsely : Prop := chestWriteRow.holds Try.pinned (OpenSpec.ofChange chestWriteWrong)

/-- 'threshinglaw08.ChestSplits': WHATEVER THE INPUT: true; the input reads as it did. -/
def chestSplitsSpec : ChangeSpec := { name := "chestSplits", fn := fun _ => fun
  | [d1, d2] => { results := [.lit (.bool true)], args := [d1, d2] }
  | _ => none }
def chestSplitsRow : OpenClaim := { program := "ytplkjljhpmldfaa", sum := "c523fcf7ab2ae83a591101c6330eb374973d25a17b7a0cf931ae660ed67dcc2d", func := "threshing/threshinglaw08.ChestSplits", spec := "chestSplits", unfollowed := true, recurses := true, apart := false }
def ChestSplitsSaid : Prop := chestSplitsRow.holds Try.pinned (OpenSpec.ofChange chestSplitsSpec)

/-- ITS FALSE NEIGHBOUR: 'it returns false'. Refute it at one input. -/
def chestSplitsWrong : ChangeSpec := { name := "chestSplits", fn := fun _ => fun
  | [d1, d2] => { results := [.lit (.bool false)], args := [d1, d2] }
  | _ => none }
def ChestSplitsWrongFalsely : Prop := chestSplitsRow.holds Try.pinned (OpenSpec.ofChange chestSplitsWrong)

/-- 'threshinglaw08.ChestBack': WHATEVER THE INPUT: true; the input reads as it did. -/
def chestBackSpec : ChangeSpec := { name := "chestBack", fn := fun _ => fun
  | [d] => { results := [.lit (.bool true)], args := [d] }
  | _ => none }
def chestBackRow : OpenClaim := { program := "ytplkjljhpmldfaa", sum := "c523fcf7ab2ae83a591101c6330eb374973d25a17b7a0cf931ae660ed67dcc2d", func := "threshing/threshinglaw08.ChestBack", spec := "chestBack", unfollowed := true, recurses := true, apart := false }
def ChestBackSaid : Prop := chestBackRow.holds Try.pinned (OpenSpec.ofChange chestBackSpec)

/-- ITS FALSE NEIGHBOUR: 'it returns false'. Refute it at one input. -/
def chestBackWrong : ChangeSpec := { name := "chestBack", fn := fun _ => fun
  | [d] => { results := [.lit (.bool false)], args := [d] }
  | _ => none }
def ChestBackWrongFalsely : Prop := chestBackRow.holds Try.pinned (OpenSpec.ofChange chestBackWrong)

/-- 'threshinglaw08.ChestSpoilt': WHATEVER THE INPUT: true; the input reads as it did. -/
def chestSpoiltSpec : ChangeSpec := { name := "chestSpoilt", fn := fun _ => fun
  | [d1, d2, d3] => { results := [.lit (.bool true)], args := [d1, d2, d3] }
  | _ => none }
def chestSpoiltRow : OpenClaim := { program := "ytplkjljhpmldfaa", sum := "c523fcf7ab2ae83a591101c6330eb374973d25a17b7a0cf931ae660ed67dcc2d", func := "threshing/threshinglaw08.ChestSpoilt", spec := "chestSpoilt", unfollowed := true, recurses := true, apart := false }
def ChestSpoiltSaid : Prop := chestSpoiltRow.holds Try.pinned (OpenSpec.ofChange chestSpoiltSpec)

/-- ITS FALSE NEIGHBOUR: 'it returns false'. Refute it at one input. -/
def chestSpoiltWrong : ChangeSpec := { name := "chestSpoilt", fn := fun _ => fun
  | [d1, d2, d3] => { results := [.lit (.bool false)], args := [d1, d2, d3] }
  | _ => none }
def ChestSpoiltWrongFalsely : Prop := chestSpoiltRow.holds Try.pinned (OpenSpec.ofChange chestSpoiltWrong)

/- THE SECOND FORM. 'bulk': how many values and letters a reading holds, each counted each time it is reached (what is shared counts as often as it is met; a slice's spare places count too). A statement '..UptoSaid' is the law's where the arguments, and the package variables that the reading takes, are together of bulk at most 1048576: NARROWER than '..Said'. Prove '..Said' where nothing that the law and all that it calls make is longer than what came in: it says more and counts as full. Else prove '..UptoSaid'. A law counts once. -/
mutual
def uptoBulk {H : Type} : DataW H → Nat
  | .lit (.string bytes) => bytes.length + 1
  | .lit _ => 1
  | .nil => 1
  | .ptr d => uptoBulk d + 1
  | .slice elems spare => uptoBulkAll elems + uptoBulkAll spare + 1
  | .agg parts => uptoBulkAll parts + 1
  | .iface _ d => uptoBulk d + 1
  | .map entries => uptoBulkEntries entries + 1
  | .held _ => 1
def uptoBulkAll {H : Type} : List (DataW H) → Nat
  | [] => 0
  | d :: r => uptoBulk d + uptoBulkAll r
def uptoBulkEntries {H : Type} : List (Lit × DataW H) → Nat
  | [] => 0
  | x :: r => uptoBulkEntry x + uptoBulkEntries r
def uptoBulkEntry {H : Type} : Lit × DataW H → Nat
  | (.string bytes, d) => bytes.length + uptoBulk d + 1
  | (_, d) => uptoBulk d + 1
 end
def uptoSmall : (H : Type) → List (DataW H) → Bool := fun _ ds => decide (uptoBulkAll ds ≤ 1048576)
def OpenSpec.upto (s : _root_.Go.ChangeSpec) : _root_.Go.OpenSpec := { _root_.Go.OpenSpec.ofChange s with cond := some uptoSmall }

/-- 'threshinglaw08.ChestRead', WHERE WHAT IT READS IS OF BULK AT MOST 1048576: true; the input reads as it did. -/
def chestReadUptoRow : OpenClaim := { program := "ytplkjljhpmldfaa", sum := "c523fcf7ab2ae83a591101c6330eb374973d25a17b7a0cf931ae660ed67dcc2d", func := "threshing/threshinglaw08.ChestRead", spec := "chestRead", unfollowed := true, recurses := true, apart := false, narrowed := true }
def ChestReadUptoSaid : Prop := chestReadUptoRow.holds Try.pinned (OpenSpec.upto chestReadSpec)

/-- 'threshinglaw08.ChestWrite', WHERE WHAT IT READS IS OF BULK AT MOST 1048576: true; the input reads as it did. -/
def chestWriteUptoRow : OpenClaim := { program := "ytplkjljhpmldfaa", sum := "c523fcf7ab2ae83a591101c6330eb374973d25a17b7a0cf931ae660ed67dcc2d", func := "threshing/threshinglaw08.ChestWrite", spec := "chestWrite", unfollowed := true, recurses := true, apart := false, narrowed := true }
def ChestWriteUptoSaid : Prop := chestWriteUptoRow.holds Try.pinned (OpenSpec.upto chestWriteSpec)

/-- 'threshinglaw08.ChestSplits', WHERE WHAT IT READS IS OF BULK AT MOST 1048576: true; the input reads as it did. -/
def chestSplitsUptoRow : OpenClaim := { program := "ytplkjljhpmldfaa", sum := "c523fcf7ab2ae83a591101c6330eb374973d25a17b7a0cf931ae660ed67dcc2d", func := "threshing/threshinglaw08.ChestSplits", spec := "chestSplits", unfollowed := true, recurses := true, apart := false, narrowed := true }
def ChestSplitsUptoSaid : Prop := chestSplitsUptoRow.holds Try.pinned (OpenSpec.upto chestSplitsSpec)

/-- 'threshinglaw08.ChestBack', WHERE WHAT IT READS IS OF BULK AT MOST 1048576: true; the input reads as it did. -/
def chestBackUptoRow : OpenClaim := { program := "ytplkjljhpmldfaa", sum := "c523fcf7ab2ae83a591101c6330eb374973d25a17b7a0cf931ae660ed67dcc2d", func := "threshing/threshinglaw08.ChestBack", spec := "chestBack", unfollowed := true, recurses := true, apart := false, narrowed := true }
def ChestBackUptoSaid : Prop := chestBackUptoRow.holds Try.pinned (OpenSpec.upto chestBackSpec)

/-- 'threshinglaw08.ChestSpoilt', WHERE WHAT IT READS IS OF BULK AT MOST 1048576: true; the input reads as it did. -/
def chestSpoiltUptoRow : OpenClaim := { program := "ytplkjljhpmldfaa", sum := "c523fcf7ab2ae83a591101c6330eb374973d25a17b7a0cf931ae660ed67dcc2d", func := "threshing/threshinglaw08.ChestSpoilt", spec := "chestSpoilt", unfollowed := true, recurses := true, apart := false, narrowed := true }
def ChestSpoiltUptoSaid : Prop := chestSpoiltUptoRow.holds Try.pinned (OpenSpec.upto chestSpoiltSpec)

end Rows
end Go.Proofs.Ytplkjljhpmldfaa
