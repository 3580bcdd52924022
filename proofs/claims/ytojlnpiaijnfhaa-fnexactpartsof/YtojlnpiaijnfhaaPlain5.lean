/-
  The parts of a line, plainly. No program, no world.
-/
import Derived.Test.YtojlnpiaijnfhaaPlain1
namespace Go.Proofs.Ytojlnpiaijnfhaa

/-- The byte at a place; 32 past the end. -/
def chAt (t : ByteArray) (k : Nat) : Nat := if h : k < t.size then t[k].toNat else 32
theorem chAt_in {t : ByteArray} {k : Nat} (h : k < t.size) : chAt t k = t[k].toNat := dif_pos h
theorem chAt_end {t : ByteArray} {k : Nat} (h : ¬ k < t.size) : chAt t k = 32 := dif_neg h
/-- Where the part at hand begins, and the parts so far, behind k bytes. -/
def poSt (t : ByteArray) : Nat → Nat × List ByteArray
  | 0 => (0, [])
  | k + 1 => if chAt t k = 32 then (k + 1, if (poSt t k).1 < k then (poSt t k).2 ++ [t.extract (poSt t k).1 k] else (poSt t k).2) else poSt t k
theorem poSt_word {t : ByteArray} {k : Nat} (h : chAt t k ≠ 32) : poSt t (k + 1) = poSt t k := by rw [poSt, if_neg h]
theorem poSt_part {t : ByteArray} {k : Nat} (h : chAt t k = 32) (h2 : (poSt t k).1 < k) : poSt t (k + 1) = (k + 1, (poSt t k).2 ++ [t.extract (poSt t k).1 k]) := by rw [poSt, if_pos h, if_pos h2]
theorem poSt_none {t : ByteArray} {k : Nat} (h : chAt t k = 32) (h2 : ¬ (poSt t k).1 < k) : poSt t (k + 1) = (k + 1, (poSt t k).2) := by rw [poSt, if_pos h, if_neg h2]
theorem poSt_len (t : ByteArray) : ∀ k, (poSt t k).1 ≤ k ∧ (poSt t k).2.length ≤ k
  | 0 => ⟨Nat.le_refl _, Nat.le_refl _⟩
  | k + 1 => by
    have ih := poSt_len t k
    by_cases h : chAt t k = 32
    · by_cases h2 : (poSt t k).1 < k
      · rw [poSt_part h h2]
        simp only [List.length_append, List.length_cons, List.length_nil]
        omega
      · rw [poSt_none h h2]
        simp only
        omega
    · rw [poSt_word h]
      omega
/-- Is a byte one that a line may hold? -/
def chOk (t : ByteArray) (k : Nat) : Bool := decide (32 ≤ chAt t k) && decide (chAt t k ≤ 126)
/-- The parts of a line, or nothing. -/
def poOut (t : ByteArray) : List ByteArray × Bool :=
  if t.size ≤ 600 ∧ ((List.range t.size).all (chOk t)) = true ∧ (poSt t (t.size + 1)).2.length ≤ 10 then ((poSt t (t.size + 1)).2, true) else ([], false)
theorem po_long {t : ByteArray} (h : 600 < t.size) : poOut t = ([], false) := by
  unfold poOut
  rw [if_neg (by omega)]
theorem po_bad {t : ByteArray} {k : Nat} (hk : k < t.size) (h : chOk t k = false) : poOut t = ([], false) := by
  unfold poOut
  rw [if_neg]
  intro hx
  have := List.all_eq_true.1 hx.2.1 k (List.mem_range.2 hk)
  rw [h] at this
  cases this
theorem po_many {t : ByteArray} (h : 10 < (poSt t (t.size + 1)).2.length) : poOut t = ([], false) := by
  unfold poOut
  rw [if_neg (by omega)]
/-- The bytes ahead of place k are ones that a line may hold. -/
def Oks (t : ByteArray) (k : Nat) : Prop := ∀ i, i < k → i < t.size → chOk t i = true
theorem oks_zero (t : ByteArray) : Oks t 0 := fun i h => by omega
theorem oks_succ {t : ByteArray} {k : Nat} (h : Oks t k) (hk : k < t.size → chOk t k = true) : Oks t (k + 1) := fun i hi hs => by
  by_cases e : i = k
  · rw [e]; exact hk (by omega)
  · exact h i (by omega) hs
theorem po_good {t : ByteArray} {k : Nat} (h1 : t.size ≤ 600) (h2 : Oks t k) (hk : t.size ≤ k) (h3 : (poSt t (t.size + 1)).2.length ≤ 10) : poOut t = ((poSt t (t.size + 1)).2, true) := by
  unfold poOut
  rw [if_pos]
  refine ⟨h1, ?_, h3⟩
  rw [List.all_eq_true]
  intro i hi
  have := List.mem_range.1 hi
  exact h2 i (by omega) this

end Go.Proofs.Ytojlnpiaijnfhaa
