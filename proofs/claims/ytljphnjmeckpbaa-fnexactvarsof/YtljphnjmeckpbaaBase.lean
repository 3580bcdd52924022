/-
  The table's rows for bytes. No condition.
-/
import Derived.Test.YtljphnjmeckpbaaChecked
import Derived.Test.YtljphnjmeckpbaaKit
namespace Go.Proofs.Ytljphnjmeckpbaa

theorem Try.info8 : (Try.prog.info? 5).map (fun i => (i.zero, i.size, i.bytes)) = some (some (.int .u8 0), 1, 1) := by kernel_rfl

end Go.Proofs.Ytljphnjmeckpbaa
