/-
  Joined: K9.
-/
import Derived.Test.YtknmhdkomjjneaaGreatDoorJW14
import Derived.Test.YtknmhdkomjjneaaGreatDoorJW1
import Derived.Lib.BytesEntry
/-
  The document's Scan, All, Of, Read: what each call returns and leaves.
-/
namespace Go.Proofs.YtknmhdkomjjneaaGreatDoor.Csv
open Go.RowKit
def RetA (w : World) (L : List (List (List UInt8))) (e : Ending) (w' : World) : Prop :=
  ∃ A c, e = .returned (.slice A L.length c) ∧ RL w' w'.heap.size A L.length c L ∧ Below w.heap.size w w'
def AllRel (base n : Nat) (w : World) (L : Nat → List (List (List UInt8))) (o i : Value) (wr : World) : Prop :=
  ∃ A c vs, ∃ k : Nat, o = .slice A (L k).length c ∧ i = .int .i64 (k : Int) ∧ k ≤ n ∧ Oc 1 wr 78 base A (L k).length c vs ∧ RrsS wr (· < base) vs (L k) ∧ Below base w wr

end Go.Proofs.YtknmhdkomjjneaaGreatDoor.Csv
