/-
  A figure of sixteen, in the model. No condition but that the number is one of 0 .. 15.
-/
import Derived.Test.YtljphnjmeckpbaaBase
import Derived.Test.YtljphnjmeckpbaaPlain1
namespace Go.Proofs.Ytljphnjmeckpbaa
open Go.RowKit

end Go.Proofs.Ytljphnjmeckpbaa
