/-
  The table's rows for bytes. No condition.
-/
import Derived.Test.YtljphnjmeckpbaaGreatChecked
import Derived.Test.YtljphnjmeckpbaaGreatKit
namespace Go.Proofs.YtljphnjmeckpbaaGreat

theorem Tryz.info8 : (Tryz.prog.info? 5).map (fun i => (i.zero, i.size, i.bytes)) = some (some (.int .u8 0), 1, 1) := by kernel_rfl

end Go.Proofs.YtljphnjmeckpbaaGreat
