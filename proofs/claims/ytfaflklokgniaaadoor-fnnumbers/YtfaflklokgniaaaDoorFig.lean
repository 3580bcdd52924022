/-
  A figure of sixteen, in the model. No condition but that the number is one of 0 .. 15.
-/
import Derived.Test.YtfaflklokgniaaaDoorBase
import Derived.Test.YtfaflklokgniaaaDoorPlain1
namespace Go.Proofs.YtfaflklokgniaaaDoor
open Go.RowKit

end Go.Proofs.YtfaflklokgniaaaDoor
