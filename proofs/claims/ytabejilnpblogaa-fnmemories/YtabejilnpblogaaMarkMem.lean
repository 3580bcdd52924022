/-
  Memories marked, and looked at again, as the laws do it: only blocks of the memory turn.
-/
import Derived.Test.YtabejilnpblogaaRowMem
import Derived.Test.YtabejilnpblogaaHeldCell
import Derived.Test.YtabejilnpblogaaMk
namespace Go.Proofs.Ytabejilnpblogaa
open Go.RowKit

/-- Marked so far, the rest as it was. -/
theorem tail_set {ys xs : List Int} {j : Nat} (y : Int) : (ys ++ xs).set (ys.length + j) y = ys ++ xs.set j y := by
  rw [List.set_append_right _ _ (by omega), Nat.add_sub_cancel_left]
theorem tail_get {ys xs : List Int} {j : Nat} (h : j < xs.length) (h' : ys.length + j < (ys ++ xs).length) : (ys ++ xs)[ys.length + j] = xs[j] := by
  rw [List.getElem_append_right (by omega)]
  congr 1
  omega

/-- The tail of a row that the call owns, read. -/
theorem tail_row {w : World} {B H g cap cap' N : Nat} {ys xs : List Int} (h : OwnsI w B (.slice (some ⟨g, 0, none⟩) N cap') (ys ++ xs)) (hN : N = (ys ++ xs).length) (hc : xs.length ≤ cap) (hg : g < H) : RowI w H (.slice (some ⟨g, ys.length, none⟩) xs.length cap) xs := by
  refine ⟨_, _, rfl, hc, .inr ⟨g, ys.length, rfl, hg, fun i hi j hj => ?_⟩⟩
  obtain rfl : j = 0 := by omega
  have := OwnsR.cell inC_len h hN (ys.length + i) 0 (by rw [List.length_append]; omega) (by omega)
  rw [tail_get hi] at this
  simpa using this
theorem OffI.row {w : World} {B H : Nat} {v : Value} {xs : List Int} (h : OffI w B v xs) (hH : ∀ g ∈ fpOf v, g < H) : RowI w H v xs := by
  rcases h with h | ⟨g, cap, cap', ys, _, hc, rfl, h⟩ | ⟨a, rfl, rfl, _⟩
  · exact OwnsR.read inC_len h hH
  · exact tail_row h rfl hc (hH g (by simp [fpOf, Value.ownBlock]))
  · exact ⟨a, 0, rfl, Nat.le_refl _, .inl rfl⟩
theorem OffI.same {w w' : World} {B : Nat} {v : Value} {xs : List Int} (h : OffI w B v xs) (hs : ∀ g ∈ fpOf v, w'.heap[g]? = w.heap[g]?) : OffI w' B v xs := by
  rcases h with h | ⟨g, cap, cap', ys, hc', hc, rfl, h⟩ | ⟨a, rfl, rfl, hf⟩
  · exact .inl (OwnsR.same h hs)
  · exact .inr (.inl ⟨g, cap, cap', ys, hc', hc, rfl, OwnsR.same h (fun x hx => hs x (by simpa [fpOf, Value.ownBlock] using hx))⟩)
  · refine .inr (.inr ⟨a, rfl, rfl, fun g hg => ⟨(hf g hg).1, ?_⟩⟩)
    have h1 := hs g hg
    have h2 := (hf g hg).2
    rcases Nat.lt_or_ge g w'.heap.size with h3 | h3
    · exact h3
    · rw [Array.getElem?_eq_none h3, Array.getElem?_eq_getElem h2] at h1
      cases h1
theorem OffI.lt {w : World} {B : Nat} {v : Value} {xs : List Int} (h : OffI w B v xs) : ∀ g ∈ fpOf v, B ≤ g ∧ g < w.heap.size := by
  rcases h with h | ⟨g, cap, cap', ys, hc', hc, rfl, h⟩ | ⟨a, rfl, rfl, hf⟩
  · exact OwnsR.lt h
  · intro x hx
    exact OwnsR.lt h x (by simpa [fpOf, Value.ownBlock] using hx)
  · exact hf
def mkMm (m : Mm) : Mm :=
  { m with cells := markL mkCe lnCe 1 m.cells, input := markL mkI lnI (1 + markN lnCe m.cells) m.input, out := markL mkI lnI (1 + markN lnCe m.cells + m.input.length) m.out }
def lnMm (m : Mm) : Nat := 1 + markN lnCe m.cells + m.input.length + m.out.length
theorem lnCe_len (xs : List Ce) : markN lnCe xs = 2 * xs.length := by
  induction xs with
  | nil => rfl
  | cons x xs ih => rw [markN, ih, lnCe, List.length_cons]; omega
theorem lnMm_le {m : Mm} {c : Nat} (h : szMm m ≤ c) : lnMm m ≤ 1 + 2 * c := by
  unfold lnMm
  unfold szMm at h
  rw [szRowCe_len] at h
  rw [lnCe_len]
  omega

end Go.Proofs.Ytabejilnpblogaa
