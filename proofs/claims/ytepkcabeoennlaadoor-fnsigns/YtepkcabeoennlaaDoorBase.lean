/-
  The table's rows for bytes. No condition.
-/
import Derived.Test.YtepkcabeoennlaaDoorChecked
import Derived.Test.YtepkcabeoennlaaDoorKit
namespace Go.Proofs.YtepkcabeoennlaaDoor

theorem Tryd.info8 : (Tryd.prog.info? 5).map (fun i => (i.zero, i.size, i.bytes)) = some (some (.int .u8 0), 1, 1) := by kernel_rfl

end Go.Proofs.YtepkcabeoennlaaDoor
