/-
  Chapter 3, plainly: the text of signs. No program, no world.
-/
import Derived.Test.YtepkcabeoennlaaDoorPlain9
namespace Go.Proofs.YtepkcabeoennlaaDoor

/-- No sign. -/
def sg0 : Sg := ⟨0, ⟨#[]⟩, 0⟩
/-- A sign's own text, in the model: of a number below 0 the figure 0. -/
def sgT (s : Sg) : List UInt8 := if s.kind = 2 then Lib.decDigits s.num.toNat else s.text.data.toList
/-- The first k signs' texts, with a blank between. -/
def textTo (ss : List Sg) : Nat → List UInt8
  | 0 => []
  | k + 1 => textTo ss k ++ ((if k = 0 then [] else [32]) ++ sgT (ss.getD k sg0))
def signText (ss : List Sg) : ByteArray := ⟨(textTo ss ss.length).toArray⟩
theorem textTo_le (ss : List Sg) {k n : Nat} (h : k ≤ n) : (textTo ss k).length ≤ (textTo ss n).length := by
  induction n with
  | zero =>
    have : k = 0 := by omega
    subst this
    exact Nat.le_refl _
  | succ n ih =>
    rcases Nat.lt_or_ge k (n + 1) with h1 | h1
    · have := ih (by omega)
      simp only [textTo, List.length_append]
      omega
    · have : k = n + 1 := by omega
      subst this
      exact Nat.le_refl _

end Go.Proofs.YtepkcabeoennlaaDoor
