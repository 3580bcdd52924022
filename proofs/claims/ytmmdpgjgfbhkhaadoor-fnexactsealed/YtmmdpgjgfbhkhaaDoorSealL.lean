/-
  Sealed and Unsealed: the program's answers are the model's; where the table of four halvings lies as the program's text lays it.
-/
import Derived.Test.YtmmdpgjgfbhkhaaDoorSumsL
import Derived.Test.YtmmdpgjgfbhkhaaDoorSeal
namespace Go.Proofs.YtmmdpgjgfbhkhaaDoor
open Go.RowKit

theorem lawSealed (t : ByteArray) (w : World) (hL : laidMetH Tryd.prog Rows.fnExactSealedRow.laid w) :
    Calls Tryd.prog 6 #[.string t] w fun e w' => e = .returned (.bool true) ∧ Below w.heap.size w w' := lawSealedT t w (tab4_laid hL)
theorem lawUnsealed (t : ByteArray) (w : World) (hL : laidMetH Tryd.prog Rows.fnExactUnsealedRow.laid w) :
    Calls Tryd.prog 7 #[.string t] w fun e w' => e = .returned (.bool true) ∧ Below w.heap.size w w' := lawUnsealedT t w (tab4_laid hL)

end Go.Proofs.YtmmdpgjgfbhkhaaDoor
