/-
  A block that a call made, whatever came behind: what it holds. No program is named here.
-/
import Derived.Test.YtljphnjmeckpbaaGreatRows3
namespace Go.Proofs.YtljphnjmeckpbaaGreat
open Go.RowKit

theorem below_grown {w w' : World} (h : w.grownBy w' none) : Below w.heap.size w w' := ⟨h.os, h.tape, h.output, h.size, fun k hk => h.block k hk (by simp)⟩

structure Box (w : World) (o : Obj) (W : World) : Prop where
  b : Below (w.heap.size + 1) (w.alloc o) W
theorem Box.cell {w W : World} {cs : Array Value} {T : TypeId} {fr : Nat × Nat} (h : Box w (.cells cs T fr) W) (j : Nat) : W.cell? ⟨w.heap.size, j, none⟩ = cs[j]? :=
  (h.b.cell (p := ⟨w.heap.size, j, none⟩) (Nat.lt_succ_self _)).trans (cell_at (heap_alloc_new _ _) j)
theorem Box.lt {w W : World} {o : Obj} (h : Box w o W) : w.heap.size < W.heap.size := by have := h.b.size; simp at this; omega
theorem Box.below {w W : World} {o : Obj} (h : Box w o W) : Below w.heap.size w W := ((Below.refl _ _).alloc (Nat.le_refl _) _).trans (h.b.mono (by omega))
theorem Box.next {w W W' : World} {o : Obj} (h : Box w o W) (hb : Below W.heap.size W W') : Box w o W' := ⟨h.b.trans (hb.mono (by have := h.lt; omega))⟩
theorem Box.first (w : World) (o : Obj) : Box w o (w.alloc o) := ⟨Below.refl _ _⟩
theorem Box.alloc {w W : World} {o : Obj} (h : Box w o W) (o' : Obj) : Box w o (W.alloc o') := h.next ((Below.refl _ _).alloc (Nat.le_refl _) _)
theorem Box.drew {w W : World} {o : Obj} (h : Box w o W) : Box w o W.drew := ⟨h.b.drew⟩
theorem Box.setCell {w W : World} {o : Obj} (h : Box w o W) {g j : Nat} (hg : w.heap.size < g) (u : Value) : Box w o (W.setCell ⟨g, j, none⟩ u) := ⟨h.b.setCell (p := ⟨g, j, none⟩) hg u⟩
/-- A box that was there when another was made. -/
theorem Box.under {w w1 W : World} {o o' : Obj} (h : Box w o w1) (h' : Box w1 o' W) : Box w o W := h.next h'.below

end Go.Proofs.YtljphnjmeckpbaaGreat
