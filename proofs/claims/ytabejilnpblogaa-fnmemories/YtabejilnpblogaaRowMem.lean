/-
  What the laws' helpers answer of memories: held against each other, measured, copied. Written by mkmem.py.
-/
import Derived.Test.YtabejilnpblogaaRowCell
import Derived.Test.YtabejilnpblogaaRa
import Derived.Test.YtabejilnpblogaaKa
namespace Go.Proofs.Ytabejilnpblogaa
open Go.RowKit

/-- A memory that is read. -/
def RowMm (w : World) (B : Nat) (v0 v1 v2 : Value) (m : Mm) : Prop := CeR.Row w B v0 m.cells ∧ RowI w B v1 m.input ∧ RowI w B v2 m.out
theorem RowMm.keep {w w' : World} {B : Nat} {v0 v1 v2 : Value} {m : Mm} (h : RowMm w B v0 v1 v2 m) (hb : Below B w w') : RowMm w' B v0 v1 v2 m := ⟨h.1.keep hb, h.2.1.keep hb, h.2.2.keep hb⟩
theorem RowMm.up {w : World} {B B' : Nat} {v0 v1 v2 : Value} {m : Mm} (h : RowMm w B v0 v1 v2 m) (hB : B ≤ B') : RowMm w B' v0 v1 v2 m := ⟨h.1.up hB, h.2.1.up hB, h.2.2.up hB⟩
/-- A row of numbers that the call owns; it may begin behind its block's beginning. -/
def OffI (w : World) (B : Nat) (v : Value) (xs : List Int) : Prop :=
  OwnsI w B v xs ∨ (∃ g cap cap' ys, ys.length + xs.length ≤ cap' ∧ xs.length ≤ cap ∧ v = .slice (some ⟨g, ys.length, none⟩) xs.length cap ∧ OwnsI w B (.slice (some ⟨g, 0, none⟩) (ys ++ xs).length cap') (ys ++ xs)) ∨ (∃ a, v = .slice a 0 0 ∧ xs = [] ∧ ∀ g ∈ fpOf v, B ≤ g ∧ g < w.heap.size)
/-- A memory that the call owns, in blocks B .. H. -/
structure OwnMm (w : World) (B H : Nat) (v0 v1 v2 : Value) (m : Mm) : Prop where
  cells : CeR.Phys w B v0 m.cells
  input : OffI w B v1 m.input
  out : OwnsI w B v2 m.out
  nd : (fps [v0, v1, v2]).Nodup
  fp : ∀ g ∈ fps [v0, v1, v2], B ≤ g ∧ g < H

theorem le_szMm_cells (m : Mm) : szRow szCe m.cells ≤ szMm m := by unfold szMm; omega
theorem le_szMm_input (m : Mm) : m.input.length ≤ szMm m := by unfold szMm; omega
theorem le_szMm_out (m : Mm) : m.out.length ≤ szMm m := by unfold szMm; omega
theorem okMm_cells {m : Mm} (h : okMm m) : okRow okCe m.cells := h.1
theorem okMm_input {m : Mm} (h : okMm m) : m.input.length ≤ 9223372036854775807 := h.2.1
theorem okMm_out {m : Mm} (h : okMm m) : m.out.length ≤ 9223372036854775807 := h.2.2.1

/-- Three blocks made at w, as they stand at W. -/
structure Trio (w : World) (a b c : Array Value) (ta tb tc : TypeId) (W : World) : Prop where
  low : Below w.heap.size w W
  lt : w.heap.size + 2 < W.heap.size
  b0 : W.heap[w.heap.size]? = some (.cells a ta (0, 0))
  b1 : W.heap[w.heap.size + 1]? = some (.cells b tb (0, 0))
  b2 : W.heap[w.heap.size + 2]? = some (.cells c tc (0, 0))
theorem Trio.first (w : World) (a b c : Array Value) (ta tb tc : TypeId) : Trio w a b c ta tb tc (((w.alloc (.cells a ta (0, 0))).alloc (.cells b tb (0, 0))).alloc (.cells c tc (0, 0))) :=
  ⟨by go_grown, by simp, first_new w _ _ _, second_new w _ _ _, third_new w _ _ _⟩
theorem Trio.next {w W W' : World} {a b c : Array Value} {ta tb tc : TypeId} (h : Trio w a b c ta tb tc W) (hb : Below W.heap.size W W') : Trio w a b c ta tb tc W' :=
  ⟨h.low.trans (hb.mono (by have := h.lt; omega)), by have := h.lt; have := hb.size; omega, (hb.block _ (by have := h.lt; omega)).trans h.b0, (hb.block _ (by have := h.lt; omega)).trans h.b1, (hb.block _ (by have := h.lt; omega)).trans h.b2⟩
theorem heap_set {W : World} {g j : Nat} {u : Value} {cs : Array Value} {T : TypeId} {fr : Nat × Nat} (h : W.heap[g]? = some (.cells cs T fr)) : (W.setCell ⟨g, j, none⟩ u).heap[g]? = some (.cells (cs.setIfInBounds j u) T fr) := by
  simp [World.setCell, Array.getElem?_modify, h]
theorem Trio.set2 {w W : World} {a b c : Array Value} {ta tb tc : TypeId} (h : Trio w a b c ta tb tc W) (j : Nat) (u : Value) : Trio w a b (c.setIfInBounds j u) ta tb tc (W.setCell ⟨w.heap.size + 2, j, none⟩ u) :=
  ⟨h.low.setCell (p := ⟨w.heap.size + 2, j, none⟩) (by show _ ≤ _; simp) _, by have := h.lt; simpa using this, (kept_set (by omega)).trans h.b0, (kept_set (by omega)).trans h.b1, heap_set h.b2⟩
theorem Trio.set1 {w W : World} {a b c : Array Value} {ta tb tc : TypeId} (h : Trio w a b c ta tb tc W) (j : Nat) (u : Value) : Trio w a (b.setIfInBounds j u) c ta tb tc (W.setCell ⟨w.heap.size + 1, j, none⟩ u) :=
  ⟨h.low.setCell (p := ⟨w.heap.size + 1, j, none⟩) (by show _ ≤ _; simp) _, by have := h.lt; simpa using this, (kept_set (by omega)).trans h.b0, heap_set h.b1, (kept_set (by omega)).trans h.b2⟩

theorem fp_one (v : Value) : fpOf v = [] ∨ ∃ g, fpOf v = [g] := by
  unfold fpOf
  cases v.ownBlock
  · exact .inl rfl
  · exact .inr ⟨_, rfl⟩
theorem three_apart {v0 v1 v2 : Value} {a b : Nat} (h0 : ∀ g ∈ fpOf v0, g < a) (h1 : ∀ g ∈ fpOf v1, a ≤ g ∧ g < b) (h2 : ∀ g ∈ fpOf v2, b ≤ g) (_hab : a ≤ b) : (fps [v0, v1, v2]).Nodup := by
  rw [show fps [v0, v1, v2] = fpOf v0 ++ (fpOf v1 ++ fpOf v2) by simp [fps]]
  rcases fp_one v0 with e0 | ⟨x0, e0⟩ <;> rcases fp_one v1 with e1 | ⟨x1, e1⟩ <;> rcases fp_one v2 with e2 | ⟨x2, e2⟩ <;> rw [e0, e1, e2] <;> simp only [e0, e1, e2, List.mem_singleton, forall_eq, List.not_mem_nil, false_imp_iff, implies_true] at h0 h1 h2 <;> simp <;> omega

end Go.Proofs.Ytabejilnpblogaa
