/-
  A figure of sixteen, in the model. No condition but that the number is one of 0 .. 15.
-/
import Derived.Test.YtancoijbcobafaaGreatDoorBase
import Derived.Test.YtancoijbcobafaaGreatDoorPlain1
namespace Go.Proofs.YtancoijbcobafaaGreatDoor
open Go.RowKit

theorem l01Figure_any (x : Int) (w : World) (h0 : 0 ≤ x) (h1 : x ≤ 15) :
    Calls Tryz.prog 69 #[.int .i64 x] w fun e w' => e = .returned (.int .u8 (figI x)) ∧ w' = w := by
  by_cases h : x < 10
  · go_enter Tryz.func69, Tryz.ntmps69
    go_wp2
    go_ret
    exact ⟨by rw [figI, if_pos h]; rfl, rfl⟩
  · go_enter Tryz.func69, Tryz.ntmps69
    go_wp2
    go_ret
    exact ⟨by rw [figI, if_neg (by omega), show (87 : Int) + x = 97 + x - 10 by omega]; rfl, rfl⟩

end Go.Proofs.YtancoijbcobafaaGreatDoor
