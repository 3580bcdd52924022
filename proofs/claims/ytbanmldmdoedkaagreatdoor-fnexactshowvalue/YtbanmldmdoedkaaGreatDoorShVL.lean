/-
  The law of ShowValue; where the powers of ten lie as the library's text lays them.
-/
import Derived.Test.YtbanmldmdoedkaaGreatDoorRows
import Derived.Test.YtbanmldmdoedkaaGreatDoorLawShV
import Derived.MakeChecks
namespace Go.Proofs.YtbanmldmdoedkaaGreatDoor
open Go.RowKit

theorem lawShowValue (a0 a1 : Value) (p : Pg) (k : Int) (w : World) (hL : laidMetH Tryz.prog Rows.fnExactShowValueRow.laid w) (hp : RowPg w w.heap.size a0 a1 p ∧ okPg p) :
    Calls Tryz.prog 4 #[.agg #[a0, a1], .int .i64 k] w fun e w' => e = .returned (.bool true) ∧ Below w.heap.size w w' := by
  refine lawShowValueT a0 a1 p k w hp ?_
  rw [MakeChecks.laidMetH_plain _ _ _ (by kernel_rfl)] at hL
  have h3 : laidMet Tryz.prog [("internal/strconv.uint64pow10", Rows.laid_internal_strconv_uint64pow10)] w := hL.tail.tail
  rw [tab10_data] at h3
  exact Lib.tabIs_of_head (g := 2) (t := 224) (e := 213) (n := 20) (by kernel_rfl) (by kernel_rfl) Tryz.underlying224 Tryz.underlying213 (by kernel_rfl) (by kernel_rfl) h3

end Go.Proofs.YtbanmldmdoedkaaGreatDoor
