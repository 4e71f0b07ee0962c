/-
  The walk of ValueTotal for the program's own functions.
-/
import Derived.Test.YtkkjgiejnblopaaDoorVI
namespace Go.Proofs.YtkkjgiejnblopaaDoor
open Go.RowKit Vl
theorem valueTotal_walk (op : Int) (A : Option Addr) (n c : Nat) (l : List V) (w : World) (hop : I op) (hr : Rc 3 w w.heap.size A n c (vvs l)) (hn : n ≤ maxLen) (hI : ∀ v ∈ l, I v.n) (hG : Gl w) :
    Calls Tryd.prog 4 #[.int .i64 op, .slice A n c] w fun e w' => e = .returned (.bool true) ∧ Below w.heap.size w w' := valueTotal_walk' vls op hop A n c l w hr hn hI hG
end Go.Proofs.YtkkjgiejnblopaaDoor
