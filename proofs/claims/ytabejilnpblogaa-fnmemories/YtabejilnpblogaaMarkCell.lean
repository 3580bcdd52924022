/-
  Rows of Cell marked, as the laws do it. Written by mkmarkcell.py.
-/
import Derived.Test.YtabejilnpblogaaRowCell
import Derived.Test.YtabejilnpblogaaMk
namespace Go.Proofs.Ytabejilnpblogaa
open Go.RowKit

theorem all_flatCe (v : Value) (ps : List Ce) : CeR.all v ps = [v] := by simp [RowTy.all, CeR, flat_nil]
def mkB (k : Nat) : Bool := decide (k % 3 = 0)
theorem mkB_cases (k : Nat) : (mkB k = true ∧ (k : Int) % 3 = 0) ∨ (mkB k = false ∧ ¬ (k : Int) % 3 = 0) := by
  unfold mkB
  by_cases h : k % 3 = 0
  · exact .inl ⟨by simp [h], by omega⟩
  · exact .inr ⟨by simp [h], by omega⟩
def mkCe (k : Nat) (_x : Ce) : Ce := ⟨mkB k, ((k + 1 : Nat) : Int)⟩
def lnCe (_x : Ce) : Nat := 0 + 2

end Go.Proofs.Ytabejilnpblogaa
