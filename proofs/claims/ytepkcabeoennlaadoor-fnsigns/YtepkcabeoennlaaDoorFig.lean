/-
  A figure of sixteen, in the model. No condition but that the number is one of 0 .. 15.
-/
import Derived.Test.YtepkcabeoennlaaDoorBase
import Derived.Test.YtepkcabeoennlaaDoorPlain1
namespace Go.Proofs.YtepkcabeoennlaaDoor
open Go.RowKit

theorem l01Figure_any (x : Int) (w : World) (h0 : 0 ≤ x) (h1 : x ≤ 15) :
    Calls Tryd.prog 54 #[.int .i64 x] w fun e w' => e = .returned (.int .u8 (figI x)) ∧ w' = w := by
  by_cases h : x < 10
  · go_enter Tryd.func54, Tryd.ntmps54
    go_wp2
    go_ret
    exact ⟨by rw [figI, if_pos h]; rfl, rfl⟩
  · go_enter Tryd.func54, Tryd.ntmps54
    go_wp2
    go_ret
    exact ⟨by rw [figI, if_neg (by omega), show (87 : Int) + x = 97 + x - 10 by omega]; rfl, rfl⟩

end Go.Proofs.YtepkcabeoennlaaDoor
