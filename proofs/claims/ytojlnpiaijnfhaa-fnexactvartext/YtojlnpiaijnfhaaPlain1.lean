/-
  Chapter 1 in plain Lean: numbers as rows of bytes, figures. No program, no world.
-/
import Derived.Laws.BytesArg
namespace Go.Proofs.Ytojlnpiaijnfhaa

/-- The bytes of a number: seven bits each, the lowest first, 128 more on all but the last. -/
def varB (m : Nat) : List Int := if h : m < 128 then [(m : Int)] else ((m % 128 + 128 : Nat) : Int) :: varB (m / 128)
termination_by m
decreasing_by omega

theorem varB_small {m : Nat} (h : m < 128) : varB m = [(m : Int)] := by rw [varB, dif_pos h]
theorem varB_big {m : Nat} (h : ¬ m < 128) : varB m = ((m % 128 + 128 : Nat) : Int) :: varB (m / 128) := by rw [varB, dif_neg h]
theorem varB_len (m : Nat) : (varB m).length ≤ m + 1 := by
  induction m using Nat.strongRecOn with
  | _ m ih =>
    by_cases h : m < 128
    · rw [varB_small h]; simp
    · rw [varB_big h]
      have := ih (m / 128) (by omega)
      simp only [List.length_cons]
      omega

end Go.Proofs.Ytojlnpiaijnfhaa
