/-
  The program's memory: changed, once for each closure. Written by mkimch.py.
-/
import Derived.Test.YtabejilnpblogaaImCl
import Derived.Test.YtabejilnpblogaaKpOf
import Derived.Test.YtabejilnpblogaaKpMem
namespace Go.Proofs.Ytabejilnpblogaa
open Go.RowKit

theorem spend_len (m : Mm) : (spendM m).cells.length ≤ m.cells.length + 1 := by
  unfold spendM
  split
  · split <;> simp
  · simp
theorem told_len (m : Mm) (k : Int) : (toldM m k).cells.length ≤ m.cells.length + 1 := by
  unfold toldM
  split <;> simp
theorem setM_len (m : Mm) (k : Int) (c : Ce) : (setM m k c).cells.length = m.cells.length := by unfold setM; simp
theorem freed_len (m : Mm) (t k : Int) : (freedM m t k).cells.length ≤ m.cells.length + 1 := by
  unfold freedM
  split
  · split
    · rw [setM_len]; omega
    · omega
  · omega
theorem written_len (m : Mm) (t k n : Int) : (writtenM m t k n).cells.length ≤ m.cells.length + 1 := by
  unfold writtenM
  split
  · split
    · rw [setM_len]; omega
    · simp
  · omega
theorem looked_len (m : Mm) (t k : Int) : (lookedM m t k).1.cells.length ≤ m.cells.length + 1 := by
  unfold lookedM
  split
  · split <;> simp
  · simp
theorem asked_len (m : Mm) : (askedM m).1.cells.length ≤ m.cells.length + 1 := by
  unfold askedM
  split
  · split <;> simp
  · simp
theorem summed_len (m : Mm) (a b : Int) : (summedM m a b).1.cells.length ≤ m.cells.length + 1 := by
  unfold summedM
  split
  · split <;> simp
  · simp
theorem pushM_len (m : Mm) (n : Int) : (pushM m n).cells.length = m.cells.length + 1 := by unfold pushM; simp
theorem fresh_len (m : Mm) (k : Int) : (freshM m k).1.cells.length ≤ m.cells.length + 1 := by
  unfold freshM
  split
  · simp [pushM_len]
  · simp
theorem moved_len (m : Mm) (t k : Int) : (movedM m t k).1.cells.length ≤ m.cells.length + 1 := by
  unfold movedM
  split
  · split
    · split
      · simp [pushM_len, setM_len]
      · simp
    · simp
  · simp
/-- A memory that is owned, in another world and by a lower bound. -/
theorem OwnMm.move {B B' H : Nat} {w w' : World} {v0 v1 v2 : Value} {m : Mm} (h : OwnMm w B H v0 v1 v2 m) (hB : B' ≤ B) (hs : ∀ g, B ≤ g → g < H → w'.heap[g]? = w.heap[g]?) : OwnMm w' B' H v0 v1 v2 m := by
  have hf : ∀ v ∈ [v0, v1, v2], ∀ g ∈ fpOf v, B ≤ g ∧ g < H := fun v hv g hg => h.fp g (mem_fps hv hg)
  have s0 : ∀ g ∈ fpOf v0, w'.heap[g]? = w.heap[g]? := fun g hg => hs g (hf v0 (by simp) g hg).1 (hf v0 (by simp) g hg).2
  have s1 : ∀ g ∈ fpOf v1, w'.heap[g]? = w.heap[g]? := fun g hg => hs g (hf v1 (by simp) g hg).1 (hf v1 (by simp) g hg).2
  have s2 : ∀ g ∈ fpOf v2, w'.heap[g]? = w.heap[g]? := fun g hg => hs g (hf v2 (by simp) g hg).1 (hf v2 (by simp) g hg).2
  refine ⟨⟨OwnsR.base (OwnsR.same h.cells.1 s0) (fun g hg => by have := (hf v0 (by simp) g hg).1; omega), fun _ _ => trivial⟩, ?_, OwnsR.base (OwnsR.same h.out s2) (fun g hg => by have := (hf v2 (by simp) g hg).1; omega), h.nd, fun g hg => by have := h.fp g hg; omega⟩
  have hi := h.input.same s1
  rcases hi with hi | ⟨g, cap, cap', ys, h1, h2, rfl, h3⟩ | ⟨a, rfl, he, h3⟩
  · exact .inl (OwnsR.base hi (fun g hg => by have := (hf v1 (by simp) g hg).1; omega))
  · exact .inr (.inl ⟨g, cap, cap', ys, h1, h2, rfl, OwnsR.base h3 (fun x hx => by have := (hf (.slice (some ⟨g, ys.length, none⟩) m.input.length cap) (by simp) x (by simpa [fpOf, Value.ownBlock] using hx)).1; omega)⟩)
  · exact .inr (.inr ⟨a, rfl, he, fun x hx => ⟨by have := (hf _ (by simp) x hx).1; omega, (h3 x hx).2⟩⟩)

end Go.Proofs.Ytabejilnpblogaa
