/-
  strings.Clone: the same text, in new memory.
-/
import Derived.Test.YtbanmldmdoedkaaDoorChecked
import Derived.Test.YtbanmldmdoedkaaDoorKa
import Derived.Test.YtbanmldmdoedkaaDoorShelf
namespace Go.Proofs.YtbanmldmdoedkaaDoor
open Go.RowKit

theorem Clone_any (s : ByteArray) (w : World) (hlim : s.size ≤ 281474976710656) :
    Calls Tryd.prog 55 #[.string s] w fun e w' => e = .returned (.string s) ∧ Below w.heap.size w w' := by
  go_enter Tryd.func55, Tryd.ntmps55
  go_wp2_with (go_at_call 59; refine (Tryd.stringslite_Clone s _ hlim).mono ?_; rintro e w1 ⟨rfl, hb1⟩)
  go_ret
  exact ⟨rfl, hb1⟩

end Go.Proofs.YtbanmldmdoedkaaDoor
