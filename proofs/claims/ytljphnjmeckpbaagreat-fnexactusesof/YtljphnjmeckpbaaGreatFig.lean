/-
  A figure of sixteen, in the model. No condition but that the number is one of 0 .. 15.
-/
import Derived.Test.YtljphnjmeckpbaaGreatBase
import Derived.Test.YtljphnjmeckpbaaGreatPlain1
namespace Go.Proofs.YtljphnjmeckpbaaGreat
open Go.RowKit

end Go.Proofs.YtljphnjmeckpbaaGreat
