/-
  The walk of ValueSums for the program's own functions.
-/
import Derived.Test.YtkkjgiejnblopaaDoorVF
namespace Go.Proofs.YtkkjgiejnblopaaDoor
open Go.RowKit Vl
theorem valueSums_walk (a b : Int) (w : World) (ha : I a) (hb : I b) (hG : Gl w) :
    Calls Tryd.prog 5 #[.int .i64 a, .int .i64 b] w fun e w' => e = .returned (.bool true) ∧ Below w.heap.size w w' := valueSums_walk' vls a b w ha hb hG
end Go.Proofs.YtkkjgiejnblopaaDoor
