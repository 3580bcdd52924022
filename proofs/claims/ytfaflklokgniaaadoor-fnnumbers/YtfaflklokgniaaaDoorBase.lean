/-
  The table's rows for bytes. No condition.
-/
import Derived.Test.YtfaflklokgniaaaDoorChecked
import Derived.Test.YtfaflklokgniaaaDoorKit
namespace Go.Proofs.YtfaflklokgniaaaDoor

theorem Tryd.info8 : (Tryd.prog.info? 5).map (fun i => (i.zero, i.size, i.bytes)) = some (some (.int .u8 0), 1, 1) := by kernel_rfl

end Go.Proofs.YtfaflklokgniaaaDoor
