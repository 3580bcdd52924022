/-
  A figure of sixteen, in the model. No condition but that the number is one of 0 .. 15.
-/
import Derived.Test.YtehdaliebloglaaBase
import Derived.Test.YtehdaliebloglaaPlain1
namespace Go.Proofs.Ytehdaliebloglaa
open Go.RowKit

end Go.Proofs.Ytehdaliebloglaa
