/-
  SignsOf: the program's answers are the model's; where the table of marks lies as the program's text lays it.
-/
import Derived.Test.YtbanmldmdoedkaaDoorRows
import Derived.Test.YtbanmldmdoedkaaDoorLawSgOf
import Derived.Test.YtbanmldmdoedkaaDoorSgLaid
import Derived.MakeChecks
namespace Go.Proofs.YtbanmldmdoedkaaDoor
open Go.RowKit

theorem marks_data : (Rows.laid_loop_example_g00423_impl_marks : DataW Unit) = textData marks3 := by kernel_rfl

theorem lawSignsOf (t : ByteArray) (w : World) (hL : laidMetH Tryd.prog Rows.fnExactSignsOfRow.laid w) :
    Calls Tryd.prog 3 #[.string t] w fun e w' => e = .returned (.bool true) ∧ Below w.heap.size w w' := by
  rw [MakeChecks.laidMetH_plain _ _ _ (by kernel_rfl)] at hL
  have h1 := Lib.laidMet.reads hL (n := "loop.example/g00423/impl.marks") (d := Rows.laid_loop_example_g00423_impl_marks) (.head _)
  rw [marks_data] at h1
  exact lawSignsOfT t w (marks_reads h1)

end Go.Proofs.YtbanmldmdoedkaaDoor
