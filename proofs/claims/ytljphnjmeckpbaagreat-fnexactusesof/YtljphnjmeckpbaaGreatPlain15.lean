/-
  Chapter 4, plainly: where a function stands. No program, no world.
-/
import Derived.Test.YtljphnjmeckpbaaGreatPlain14
namespace Go.Proofs.YtljphnjmeckpbaaGreat

def sameB (a b : ByteArray) : Bool := a.toList == b.toList
/-- The place of the first function with a name, or -1. -/
def fnAt (fs : List Fc) (name : ByteArray) : Int :=
  match fs.findIdx? (fun f => sameB f.name name) with
  | some i => (i : Int)
  | none => -1
theorem fnAt_at {fs : List Fc} {name : ByteArray} {k : Nat} (hk : k < fs.length) (h0 : ∀ j, (hj : j < fs.length) → j < k → sameB fs[j].name name = false) (h1 : sameB fs[k].name name = true) : fnAt fs name = (k : Int) := by
  unfold fnAt
  have : fs.findIdx? (fun f => sameB f.name name) = some k := by
    rw [List.findIdx?_eq_some_iff_getElem]
    refine ⟨hk, h1, fun j hj => ?_⟩
    rw [h0 j (by omega) hj]
    decide
  rw [this]
theorem fnAt_none {fs : List Fc} {name : ByteArray} (h0 : ∀ j, (hj : j < fs.length) → sameB fs[j].name name = false) : fnAt fs name = -1 := by
  unfold fnAt
  have : fs.findIdx? (fun f => sameB f.name name) = none := by
    rw [List.findIdx?_eq_none_iff]
    intro x hx
    obtain ⟨j, hj, rfl⟩ := List.getElem_of_mem hx
    exact h0 j hj
  rw [this]

end Go.Proofs.YtljphnjmeckpbaaGreat
