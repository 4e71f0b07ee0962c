/-
  The walk of ValueOrder for the program's own functions.
-/
import Derived.Test.YtkkjgiejnblopaaDoorVJ
namespace Go.Proofs.YtkkjgiejnblopaaDoor
open Go.RowKit Vl
theorem valueOrder_walk (x y z : V) (w : World) (hx : I x.n) (hy : I y.n) (hz : I z.n) (hG : Gl w) :
    Calls Tryd.prog 7 #[ar9 x y z] w fun e w' => e = .returned (.bool true) ∧ Below w.heap.size w w' := valueOrder_walk' vls x y z hx hy hz w hG
end Go.Proofs.YtkkjgiejnblopaaDoor
