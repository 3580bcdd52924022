/-
  Figures of sixteen read back, plainly: pairs of figures, and the row that is filled figure by figure. No program, no world.
-/
import Derived.Test.YtbanmldmdoedkaaDoorPa
namespace Go.Proofs.YtbanmldmdoedkaaDoor

/-- What a byte is as a figure; below 0 where it is none. -/
def valI (c : Int) : Int := if 48 ≤ c ∧ c ≤ 57 then c - 48 else if 97 ≤ c ∧ c ≤ 102 then c - 87 else -1
theorem valI_in (c : Int) : -1 ≤ valI c ∧ valI c ≤ 15 := by
  unfold valI
  split
  · omega
  · split <;> omega
/-- The figure at place i of a text. -/
def figAt (t : ByteArray) (i : Nat) : Int := valI ((t.data.toList.getD i 0).toNat : Int)
theorem figAt_eq {t : ByteArray} {i : Nat} (h : i < t.size) : figAt t i = valI (t[i].toNat : Int) := by
  have hl : i < t.data.toList.length := by rw [Array.length_toList]; exact h
  unfold figAt
  rw [List.getD_eq_getElem?_getD, List.getElem?_eq_getElem hl, Option.getD_some]
  rfl
/-- The bytes that the first m pairs of figures make. -/
def pairs (t : ByteArray) (m : Nat) : List Int := (List.range m).map fun i => 16 * figAt t (2 * i) + figAt t (2 * i + 1)
theorem pairs_len (t : ByteArray) (m : Nat) : (pairs t m).length = m := by simp [pairs]
theorem pairs_succ (t : ByteArray) (m : Nat) : pairs t (m + 1) = pairs t m ++ [16 * figAt t (2 * m) + figAt t (2 * m + 1)] := by simp [pairs, List.range_succ]

/-- A place of the row behind k figures. -/
def rowVal (t : ByteArray) (k i : Nat) : Int := if 2 * i + 1 < k then 16 * figAt t (2 * i) + figAt t (2 * i + 1) else if 2 * i < k then figAt t (2 * i) else 0
/-- The row of m places behind k figures. -/
def rowOf (t : ByteArray) (m k : Nat) : List Int := (List.range m).map (rowVal t k)
theorem rowOf_len (t : ByteArray) (m k : Nat) : (rowOf t m k).length = m := by simp [rowOf]
theorem rowOf_start (t : ByteArray) (m : Nat) : rowOf t m 0 = List.replicate m 0 := by
  apply List.ext_getElem
  · simp [rowOf]
  · intro i h1 h2
    simp [rowOf, rowVal]
theorem rowOf_at {t : ByteArray} {m k i : Nat} (h : i < m) : (rowOf t m k)[i]? = some (rowVal t k i) := by
  simp [rowOf, h]
theorem rowOf_step {t : ByteArray} {m k : Nat} : (rowOf t m k).set (k / 2) (rowVal t k (k / 2) * 16 + figAt t k) = rowOf t m (k + 1) := by
  apply List.ext_getElem
  · simp [rowOf]
  · intro i h1 h2
    simp only [rowOf, List.length_map, List.length_range, List.length_set] at h1 h2
    rw [List.getElem_set]
    by_cases hi : k / 2 = i
    · rw [if_pos hi]
      simp only [rowOf, List.getElem_map, List.getElem_range]
      subst hi
      by_cases he : k % 2 = 0
      · have e1 : 2 * (k / 2) = k := by omega
        unfold rowVal
        rw [if_neg (by omega), if_neg (by omega), if_neg (by omega), if_pos (by omega), e1]
        omega
      · have e1 : 2 * (k / 2) + 1 = k := by omega
        unfold rowVal
        rw [if_neg (by omega), if_pos (by omega), if_pos (by omega), e1]
        omega
    · rw [if_neg hi]
      simp only [rowOf, List.getElem_map, List.getElem_range]
      unfold rowVal
      by_cases h3 : 2 * i + 1 < k
      · rw [if_pos h3, if_pos (by omega)]
      · rw [if_neg h3, if_neg (show ¬ 2 * i + 1 < k + 1 by omega)]
        by_cases h4 : 2 * i < k
        · rw [if_pos h4, if_pos (by omega)]
        · rw [if_neg h4, if_neg (by omega)]
theorem rowOf_end {t : ByteArray} {m : Nat} : rowOf t m (2 * m) = pairs t m := by
  apply List.ext_getElem
  · simp [rowOf, pairs]
  · intro i h1 h2
    simp only [rowOf, List.length_map, List.length_range] at h1
    simp only [rowOf, pairs, List.getElem_map, List.getElem_range]
    unfold rowVal
    rw [if_pos (by omega)]
/-- The figures below place k are all figures. -/
def Figs (t : ByteArray) (k : Nat) : Prop := ∀ i, i < k → 0 ≤ figAt t i
theorem figs_zero (t : ByteArray) : Figs t 0 := fun i h => by omega
theorem figs_succ {t : ByteArray} {k : Nat} (h : Figs t k) (h0 : 0 ≤ figAt t k) : Figs t (k + 1) := fun i hi => by
  by_cases e : i = k
  · rw [e]; exact h0
  · exact h i (by omega)
theorem rowVal_in {t : ByteArray} {k i : Nat} (h : Figs t k) (he : 2 * i + 1 ≥ k) : 0 ≤ rowVal t k i ∧ rowVal t k i ≤ 15 := by
  unfold rowVal
  rw [if_neg (by omega)]
  split
  · rename_i h1
    have := h (2 * i) h1
    have h2 := (valI_in ((t.data.toList.getD (2 * i) 0).toNat : Int)).2
    unfold figAt at this ⊢
    omega
  · omega

/-- What figures are read back as. -/
def uh (t : ByteArray) : ByteArray × Bool :=
  if ((List.range t.size).all fun i => decide (0 ≤ figAt t i)) = true then (strOfNums (pairs t (t.size / 2)), true) else (⟨#[]⟩, false)
theorem uh_bad {t : ByteArray} {i : Nat} (hi : i < t.size) (h : figAt t i < 0) : uh t = (⟨#[]⟩, false) := by
  unfold uh
  rw [if_neg]
  intro ha
  rw [List.all_eq_true] at ha
  have := ha i (List.mem_range.2 hi)
  simp at this
  omega
theorem uh_good {t : ByteArray} (h : Figs t t.size) : uh t = (strOfNums (pairs t (t.size / 2)), true) := by
  unfold uh
  rw [if_pos]
  rw [List.all_eq_true]
  intro i hi
  simp [h i (List.mem_range.1 hi)]

end Go.Proofs.YtbanmldmdoedkaaDoor
