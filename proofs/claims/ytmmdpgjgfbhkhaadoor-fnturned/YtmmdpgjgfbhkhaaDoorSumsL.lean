/-
  SumMore and SumOf: the program's answers are the model's; where the table of four halvings lies as the program's text lays it.
-/
import Derived.Test.YtmmdpgjgfbhkhaaDoorRows
import Derived.Test.YtmmdpgjgfbhkhaaDoorSumsI
import Derived.LaidMore
import Derived.MakeChecks
import Derived.Stop.LaidErr
namespace Go.Proofs.YtmmdpgjgfbhkhaaDoor
open Go.RowKit

theorem tab4_data : (Rows.laid_loop_example_g00423_impl_fourHalvings : DataW Unit) = Lib.tabData .u32 (tab4.map fun n : Nat => (n : Int)) := by kernel_rfl

theorem tab4_laid {w : World} (hL : laidMetH Tryd.prog [("loop.example/g00423/impl.fourHalvings", Rows.laid_loop_example_g00423_impl_fourHalvings)] w) : Tab4 w := by
  rw [MakeChecks.laidMetH_plain _ _ _ (by kernel_rfl)] at hL
  rw [tab4_data] at hL
  exact Lib.tabIs_of_head (g := 0) (t := 47) (e := 29) (n := 16) (by kernel_rfl) (by kernel_rfl) Tryd.underlying47 Tryd.underlying29 (by kernel_rfl) (by kernel_rfl) hL

theorem lawSumMore (n : Int) (hn : (Lit.int .u32 n).wf = true) (t : ByteArray) (w : World) (hL : laidMetH Tryd.prog Rows.fnExactSumMoreRow.laid w) :
    Calls Tryd.prog 4 #[.int .u32 n, .string t] w fun e w' => e = .returned (.bool true) ∧ Below w.heap.size w w' := lawSumMoreT n t w hn (tab4_laid hL)
theorem lawSumOf (t : ByteArray) (w : World) (hL : laidMetH Tryd.prog Rows.fnExactSumOfRow.laid w) :
    Calls Tryd.prog 5 #[.string t] w fun e w' => e = .returned (.bool true) ∧ Below w.heap.size w w' := lawSumOfT t w (tab4_laid hL)

end Go.Proofs.YtmmdpgjgfbhkhaaDoor
