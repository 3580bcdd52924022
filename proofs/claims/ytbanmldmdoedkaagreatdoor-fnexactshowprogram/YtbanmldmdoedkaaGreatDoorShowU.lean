/-
  ShowStep, in the model: what it answers at every program, place and number of blanks.
-/
import Derived.Test.YtbanmldmdoedkaaGreatDoorShowT
namespace Go.Proofs.YtbanmldmdoedkaaGreatDoor
open Go.RowKit

/-- What ShowStep answers. -/
def showStp (ns : List Nd) (k i : Int) : List UInt8 := if deepOf ns k = 0 then [] else if isStm (ns.getD k.toNat nd0).kind = true then stepL ns k i else []

end Go.Proofs.YtbanmldmdoedkaaGreatDoor
