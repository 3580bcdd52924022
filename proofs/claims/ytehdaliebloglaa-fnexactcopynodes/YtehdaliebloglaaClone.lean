/-
  strings.Clone: the same text, in new memory.
-/
import Derived.Test.YtehdaliebloglaaChecked
import Derived.Test.YtehdaliebloglaaKit
import Derived.Test.YtehdaliebloglaaShelf
namespace Go.Proofs.Ytehdaliebloglaa
open Go.RowKit

theorem Clone_any (s : ByteArray) (w : World) (hlim : s.size ≤ 281474976710656) :
    Calls Try.prog 49 #[.string s] w fun e w' => e = .returned (.string s) ∧ Below w.heap.size w w' := by
  go_enter Try.func49, Try.ntmps49
  go_wp2_with (go_at_call 61; refine (Try.stringslite_Clone s _ hlim).mono ?_; rintro e w1 ⟨rfl, hb1⟩)
  go_ret
  exact ⟨rfl, hb1⟩

end Go.Proofs.Ytehdaliebloglaa
