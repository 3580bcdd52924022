/-
  CopyType: the program's answer is the model's, at every number.
-/
import Derived.Test.YtjafneaaefpefaaKa
import Derived.Test.YtjafneaaefpefaaChecked
namespace Go.Proofs.Ytjafneaaefpefaa
open Go.RowKit

set_option maxHeartbeats 800000 in
theorem lawCopyType (a : Int) (w : World) :
    Calls Try.prog 3 #[.int .i64 a] w fun e w' => e = .returned (.bool true) ∧ Below w.heap.size w w' := by
  by_cases h1 : a = 1
  · subst h1
    go_enter Try.func3, Try.ntmps3
    go_wp2
    go_ret
    exact ⟨rfl, Below.refl _ _⟩
  by_cases h3 : a = 3
  · subst h3
    go_enter Try.func3, Try.ntmps3
    go_wp2
    go_ret
    exact ⟨rfl, Below.refl _ _⟩
  go_enter Try.func3, Try.ntmps3
  go_wp2
  go_ret
  exact ⟨rfl, Below.refl _ _⟩

end Go.Proofs.Ytjafneaaefpefaa
