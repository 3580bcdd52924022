/-
  Chapter 4, plainly: how deep nodes are. No program, no world.
-/
import Derived.Test.YtljphnjmeckpbaaGreatPlain16
namespace Go.Proofs.YtljphnjmeckpbaaGreat

/-- The deepest of the first n kids. -/
def mxTo (ds kids : List Int) : Nat → Int
  | 0 => 0
  | n + 1 => max (mxTo ds kids n) (ds.getD (kids.getD n 0).toNat 0)
/-- May node i have a depth: it is right, and the one ahead of it has one. -/
def goOn (ns : List Nd) (ds : List Int) (i : Nat) : Bool := nodeOk ns (i : Int) && (decide (i = 0) || decide (ds.getD (i - 1) 0 ≠ 0))
def deepNext (ns : List Nd) (ds : List Int) (i : Nat) : Int :=
  if goOn ns ds i = true then (if 10 < mxTo ds (ns.getD i nd0).kids (ns.getD i nd0).kids.length + 1 then 0 else mxTo ds (ns.getD i nd0).kids (ns.getD i nd0).kids.length + 1) else 0
/-- The depths of the first n nodes. -/
def deeps (ns : List Nd) : Nat → List Int
  | 0 => []
  | n + 1 => deeps ns n ++ [deepNext ns (deeps ns n) n]
def deepOf (ns : List Nd) (k : Int) : Int := if isIn k 0 ((ns.length : Int) - 1) = true then (deeps ns (k.toNat + 1)).getD k.toNat 0 else 0

theorem deeps_len (ns : List Nd) (n : Nat) : (deeps ns n).length = n := by
  induction n with
  | zero => rfl
  | succ n ih => simp [deeps, ih]
theorem deeps_last (ns : List Nd) (n : Nat) : (deeps ns (n + 1)).getD n 0 = deepNext ns (deeps ns n) n := by
  simp [deeps, List.getD, deeps_len]
theorem deeps_more (ns : List Nd) {i n : Nat} (h : i < n) : (deeps ns (n + 1)).getD i 0 = (deeps ns n).getD i 0 := by
  simp only [deeps, List.getD]
  rw [List.getElem?_append_left (by rw [deeps_len]; exact h)]
theorem deeps_pre (ns : List Nd) {i n m : Nat} (h : i < n) (hm : n ≤ m) : (deeps ns m).getD i 0 = (deeps ns n).getD i 0 := by
  induction m with
  | zero => omega
  | succ m ih =>
    rcases Nat.lt_or_ge n (m + 1) with h1 | h1
    · rw [deeps_more ns (by omega), ih (by omega)]
    · have : n = m + 1 := by omega
      rw [this]
theorem mxTo_nn (ds kids : List Int) : ∀ n, 0 ≤ mxTo ds kids n := by
  intro n
  induction n with
  | zero => exact Int.le_refl _
  | succ n ih => simp only [mxTo]; omega
theorem deeps_bound (ns : List Nd) (n i : Nat) : 0 ≤ (deeps ns n).getD i 0 ∧ (deeps ns n).getD i 0 ≤ 10 := by
  induction n generalizing i with
  | zero => simp [deeps]
  | succ n ih =>
    rcases Nat.lt_trichotomy i n with h | h | h
    · rw [deeps_more ns h]; exact ih i
    · subst h
      rw [deeps_last]
      have := mxTo_nn (deeps ns i) (ns.getD i nd0).kids (ns.getD i nd0).kids.length
      unfold deepNext
      split
      · split
        · omega
        · omega
      · omega
    · rw [List.getD, List.getElem?_eq_none (by rw [deeps_len]; omega)]
      simp
theorem mxTo_bound {ds : List Int} (h : ∀ i, 0 ≤ ds.getD i 0 ∧ ds.getD i 0 ≤ 10) (kids : List Int) : ∀ n, 0 ≤ mxTo ds kids n ∧ mxTo ds kids n ≤ 10 := by
  intro n
  induction n with
  | zero => exact ⟨Int.le_refl _, by simp [mxTo]⟩
  | succ n ih => have := h (kids.getD n 0).toNat; simp only [mxTo]; omega
/-- Behind a node without a depth none has one. -/
theorem deeps_zero (ns : List Nd) {i : Nat} (h0 : (deeps ns (i + 1)).getD i 0 = 0) : ∀ j, i ≤ j → (deeps ns (j + 1)).getD j 0 = 0 := by
  intro j hj
  induction j with
  | zero =>
    have : i = 0 := by omega
    subst this
    exact h0
  | succ j ih =>
    rcases Nat.lt_or_ge i (j + 1) with h1 | h1
    · rw [deeps_last]
      have h2 := ih (by omega)
      unfold deepNext goOn
      rw [if_neg]
      have h3 : (deeps ns (j + 1))[j]?.getD 0 = 0 := h2
      simp [h3]
    · have : i = j + 1 := by omega
      subst this
      exact h0
theorem deepOf_in {ns : List Nd} {m : Nat} (h : m < ns.length) : deepOf ns (m : Int) = (deeps ns (m + 1)).getD m 0 := by
  unfold deepOf
  rw [if_pos (by simp [isIn]; omega)]
  simp
theorem deepOf_out {ns : List Nd} {k : Int} (h : k < 0 ∨ (ns.length : Int) ≤ k) : deepOf ns k = 0 := by
  unfold deepOf
  rw [if_neg]
  simp [isIn]
  omega
theorem deepOf_zero {ns : List Nd} {t m : Nat} (h : m < ns.length) (ht : t ≤ m) (h0 : deepNext ns (deeps ns t) t = 0) : deepOf ns (m : Int) = 0 := by
  rw [deepOf_in h]
  exact deeps_zero ns (by rw [deeps_last]; exact h0) m ht
theorem kid_lt {ns : List Nd} {t : Nat} (h : nodeOk ns (t : Int) = true) {j : Nat} (hj : j < (ns.getD t nd0).kids.length) : 0 ≤ (ns.getD t nd0).kids.getD j 0 ∧ (ns.getD t nd0).kids.getD j 0 < (t : Int) := by
  unfold nodeOk at h
  simp only [Bool.and_eq_true, Int.toNat_natCast] at h
  have := kidsTo_at h.2 j hj
  unfold kidOk at this
  simp only [Bool.and_eq_true] at this
  have h1 := this.1.1
  simp [isIn] at h1
  simp only [List.getD]
  omega

end Go.Proofs.YtljphnjmeckpbaaGreat
