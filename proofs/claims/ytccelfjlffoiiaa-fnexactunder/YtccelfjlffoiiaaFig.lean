/-
  A figure of sixteen, in the model. No condition but that the number is one of 0 .. 15.
-/
import Derived.Test.YtccelfjlffoiiaaBase
import Derived.Test.YtccelfjlffoiiaaPlain1
namespace Go.Proofs.Ytccelfjlffoiiaa
open Go.RowKit

end Go.Proofs.Ytccelfjlffoiiaa
