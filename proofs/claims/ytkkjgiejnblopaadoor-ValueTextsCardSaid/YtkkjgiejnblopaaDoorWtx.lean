/-
  The walk of ValueTexts for the program's own functions.
-/
import Derived.Test.YtkkjgiejnblopaaDoorVG
namespace Go.Proofs.YtkkjgiejnblopaaDoor
open Go.RowKit Vl
theorem valueTexts_walk (s t : ByteArray) (at_ : Int) (hs : s.size ≤ maxLen) (ht : t.size ≤ maxLen) (hat : I at_) (w : World) (hG : Gl w) :
    Calls Tryd.prog 6 #[.string s, .string t, .int .i64 at_] w fun e w' => e = .returned (.bool true) ∧ Below w.heap.size w w' := valueTexts_walk' vls s.data.toList t.data.toList at_ hs ht hat w hG
end Go.Proofs.YtkkjgiejnblopaaDoor
