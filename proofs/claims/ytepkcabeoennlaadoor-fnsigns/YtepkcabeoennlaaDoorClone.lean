/-
  strings.Clone: the same text, in new memory.
-/
import Derived.Test.YtepkcabeoennlaaDoorChecked
import Derived.Test.YtepkcabeoennlaaDoorKit
import Derived.Test.YtepkcabeoennlaaDoorShelf
namespace Go.Proofs.YtepkcabeoennlaaDoor
open Go.RowKit

theorem Clone_any (s : ByteArray) (w : World) (hlim : s.size ≤ 281474976710656) :
    Calls Tryd.prog 57 #[.string s] w fun e w' => e = .returned (.string s) ∧ Below w.heap.size w w' := by
  go_enter Tryd.func57, Tryd.ntmps57
  go_wp2_with (go_at_call 60; refine (Tryd.stringslite_Clone s _ hlim).mono ?_; rintro e w1 ⟨rfl, hb1⟩)
  go_ret
  exact ⟨rfl, hb1⟩

end Go.Proofs.YtepkcabeoennlaaDoor
