/-
  Rows of Cell that were marked, looked at again, as the laws do it. Written by mkmarkcell.py.
-/
import Derived.Test.YtabejilnpblogaaMarkCell
namespace Go.Proofs.Ytabejilnpblogaa
open Go.RowKit

end Go.Proofs.Ytabejilnpblogaa
