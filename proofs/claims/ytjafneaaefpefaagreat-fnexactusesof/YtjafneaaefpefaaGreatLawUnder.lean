/-
  The law of Under: at every program and every place it answers true.
-/
import Derived.Test.YtjafneaaefpefaaGreatPr
import Derived.Test.YtjafneaaefpefaaGreatMk
namespace Go.Proofs.YtjafneaaefpefaaGreat
open Go.RowKit

theorem OwnsI.at {w : World} {B : Nat} {v : Value} {xs : List Int} (h : OwnsI w B v xs) {H : Nat} (hH : w.heap.size ≤ H) : RowI w H v xs := RowI.up h.row hH
theorem OwnsI.rim {w w' : World} {B L H : Nat} {v : Value} {xs : List Int} (h : OwnsI w B v xs) (hr : Rim L H w w') (hd : ∀ g ∈ fpOf v, g < L ∨ H ≤ g) : OwnsI w' B v xs :=
  OwnsR.same h (fun g hg => hr.block g (OwnsR.lt h g hg).2 (hd g hg))
theorem OwnsI.keptBy {w w' : World} {B : Nat} {v u : Value} {xs : List Int} (h : OwnsI w B v xs) (hr : Kept [u] w w') (hd : ∀ g ∈ fpOf v, g ∉ fpOf u) : OwnsI w' B v xs :=
  OwnsR.same h (fun g hg => hr.block g (OwnsR.lt h g hg).2 (by rw [fps_one]; exact hd g hg))

end Go.Proofs.YtjafneaaefpefaaGreat
