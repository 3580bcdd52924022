/-
  Signs come back from their texts; where the table of marks and the powers of ten lie as their texts lay them.
-/
import Derived.Test.YtbanmldmdoedkaaDoorRows
import Derived.Test.YtbanmldmdoedkaaDoorLawSigns
import Derived.Test.YtbanmldmdoedkaaDoorSgLaid
import Derived.MakeChecks
namespace Go.Proofs.YtbanmldmdoedkaaDoor
open Go.RowKit

theorem marks_data2 : (Rows.laid_loop_example_g00423_impl_marks : DataW Unit) = textData marks3 := by kernel_rfl

theorem lawSigns (v : Value) (n : Nat) (w : World) (hL : laidMetH Tryd.prog Rows.fnSignsRow.laid w) (hv : Code8 w w.heap.size v n) :
    Calls Tryd.prog 4 #[v] w fun e w' => e = .returned (.bool true) ∧ Below w.heap.size w w' := by
  rw [MakeChecks.laidMetH_plain _ _ _ (by kernel_rfl)] at hL
  have h1 := Lib.laidMet.reads hL (n := "loop.example/g00423/impl.marks") (d := Rows.laid_loop_example_g00423_impl_marks) (.tail _ (.tail _ (.tail _ (.head _))))
  rw [marks_data2] at h1
  have h3 : laidMet Tryd.prog [("internal/strconv.uint64pow10", Rows.laid_internal_strconv_uint64pow10), ("loop.example/g00423/impl.marks", Rows.laid_loop_example_g00423_impl_marks)] w := hL.tail.tail
  rw [tab10_data] at h3
  exact lawSignsT v n w hv ⟨marks_reads h1, Lib.tabIs_of_head (g := 1) (t := 86) (e := 79) (n := 20) (by kernel_rfl) (by kernel_rfl) Tryd.underlying86 Tryd.underlying79 (by kernel_rfl) (by kernel_rfl) h3⟩

end Go.Proofs.YtbanmldmdoedkaaDoor
