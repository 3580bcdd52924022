/-
  One byte that is turned: the law answers true; where the table of four halvings lies as the program's text lays it.
-/
import Derived.Test.YtmmdpgjgfbhkhaaDoorSumsL
import Derived.Test.YtmmdpgjgfbhkhaaDoorTurn
namespace Go.Proofs.YtmmdpgjgfbhkhaaDoor
open Go.RowKit

theorem lawTurned (v : Value) (n : Nat) (w : World) (hL : laidMetH Tryd.prog Rows.fnTurnedRow.laid w) (hv : Code8 w w.heap.size v n) :
    Calls Tryd.prog 3 #[v] w fun e w' => e = .returned (.bool true) ∧ Below w.heap.size w w' := lawTurnedT v n w hv (tab4_laid hL)

end Go.Proofs.YtmmdpgjgfbhkhaaDoor
