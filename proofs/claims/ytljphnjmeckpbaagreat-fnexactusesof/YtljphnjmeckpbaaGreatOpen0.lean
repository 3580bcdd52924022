/-
  Rows that came in, opened: where their cells lie, and that their numbers fit.
-/
import Derived.Test.YtljphnjmeckpbaaGreatRowInt
import Derived.Deep.Slices
import Derived.ChangeSame
namespace Go.Proofs.YtljphnjmeckpbaaGreat
open Go.RowKit

theorem Tryz.cellsInt : Tryz.prog.cellsOf 3 = 1 := by kernel_rfl
theorem Tryz.cellsStr : Tryz.prog.cellsOf 9 = 1 := by kernel_rfl
theorem Tryz.cellsInts : Tryz.prog.cellsOf 35 = 1 := by kernel_rfl
theorem add_plain (b off i : Nat) : (⟨b, off, none⟩ : Addr).add i = ⟨b, off + i, none⟩ := by unfold Addr.add; split <;> simp_all

/-- A row out of its cells. -/
theorem rowR_of {α : Type} {enc : α → List Value} {k : Nat} {W : World} {ad : Addr} {len cap : Nat} (f : Nat → α) (hcap : len ≤ cap) (hk : 0 < k) (henc : ∀ x, (enc x).length = k) (h : ∀ i, i < len → ∀ j, j < k → W.cell? (ad.add (i * k + j)) = (enc (f i))[j]?) :
    RowR enc k W W.heap.size (.slice (some ad) len cap) ((List.range len).map f) := by
  by_cases h0 : len = 0
  · subst h0
    exact ⟨some ad, cap, rfl, by simp, .inl rfl⟩
  · obtain ⟨b, off, spot⟩ := ad
    have hc := h 0 (by omega) 0 hk
    obtain ⟨u, hu⟩ : ∃ u, (enc (f 0))[0]? = some u := ⟨_, List.getElem?_eq_getElem (by rw [henc]; exact hk)⟩
    rw [hu, Nat.zero_mul] at hc
    have hspot : spot = none := by simpa [Addr.add] using World.cell?_spot hc
    subst hspot
    rw [add_plain] at hc
    refine ⟨some ⟨b, off, none⟩, cap, by simp, by simpa using hcap, .inr ⟨b, off, rfl, ?_, fun i hi j hj => ?_⟩⟩
    · rcases Nat.lt_or_ge b W.heap.size with h' | h'
      · exact h'
      · simp [World.cell?, Array.getElem?_eq_none h'] at hc
    · have := h i (by simpa using hi) j hj
      rw [add_plain] at this
      simpa [Nat.add_assoc] using this

theorem open_rowI {H : Type} {enc : TypeId × Value → H} {W : World} {fuel : Nat} {v : Value} {x : DataW H × List MemPlace}
    (h : DataW.trod enc Tryz.prog W 0 (fun _ => true) true fuel 35 [v] = some x) :
    ∃ xs : List Int, RowI W W.heap.size v xs ∧ xs.length ≤ 9223372036854775807 ∧ ∀ z ∈ xs, (Lit.int .i64 z).wf = true := by
  rcases Deep.open_slice Tryz.underlying35 h with ⟨h0, _⟩ | ⟨ad, len, cap, m, n, D, Pl, hcs, hb, hl, hm, hmm, _, hx⟩
  · simp at h0
    subst h0
    exact ⟨[], ⟨none, 0, rfl, Nat.le_refl _, .inl rfl⟩, by simp, by simp⟩
  · simp at hcs
    subst hcs
    simp at hmm
    subst hmm
    have each : ∀ i, i < len → ∃ q : Int, W.cell? (ad.add (i * 1 + 0)) = some (.int .i64 q) ∧ (Lit.int .i64 q).wf = true := by
      intro i hi
      obtain ⟨cs', h1, h2⟩ := hx i (by omega)
      rw [Tryz.cellsInt] at h1
      obtain ⟨_, hlen, hcell⟩ := World.cells?_some h1
      match cs', hlen with
      | [v0], _ =>
        obtain ⟨z0, e0, _, w0⟩ := DataW.trod_int Tryz.underlying3 h2
        simp at e0
        subst e0
        have c0 := hcell 0 (by omega)
        rw [Deep.add_add] at c0
        exact ⟨z0, by simpa using c0, w0⟩
    obtain ⟨f, hf⟩ := @Deep.choose_lt Int ⟨0⟩ _ _ each
    refine ⟨(List.range len).map f, rowR_of f hl (by omega) inC_len (fun i hi j hj => ?_), ?_, ?_⟩
    · obtain rfl : j = 0 := by omega
      exact (hf i hi).1
    · simp
      unfold maxLen at hm
      omega
    · intro s hs
      obtain ⟨i, hi, rfl⟩ := List.mem_map.mp hs
      exact (hf i (by simpa using hi)).2

end Go.Proofs.YtljphnjmeckpbaaGreat
