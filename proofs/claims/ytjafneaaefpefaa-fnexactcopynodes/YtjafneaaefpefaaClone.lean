/-
  strings.Clone: the same text, in new memory.
-/
import Derived.Test.YtjafneaaefpefaaChecked
import Derived.Test.YtjafneaaefpefaaKa
import Derived.Test.YtjafneaaefpefaaShelf
namespace Go.Proofs.Ytjafneaaefpefaa
open Go.RowKit

theorem Clone_any (s : ByteArray) (w : World) (hlim : s.size ≤ 281474976710656) :
    Calls Try.prog 84 #[.string s] w fun e w' => e = .returned (.string s) ∧ Below w.heap.size w w' := by
  go_enter Try.func84, Try.ntmps84
  go_wp2_with (go_at_call 103; refine (Try.stringslite_Clone s _ hlim).mono ?_; rintro e w1 ⟨rfl, hb1⟩)
  go_ret
  exact ⟨rfl, hb1⟩

end Go.Proofs.Ytjafneaaefpefaa
