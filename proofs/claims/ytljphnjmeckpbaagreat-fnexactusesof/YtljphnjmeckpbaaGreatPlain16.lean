/-
  Chapter 4, plainly: a right node, part by part, is a right node. No program, no world.
-/
import Derived.Test.YtljphnjmeckpbaaGreatPlain13
namespace Go.Proofs.YtljphnjmeckpbaaGreat

def aheadOk (k : Int) (kids : List Int) (i : Nat) : Bool := isIn (kids.getD i 0) 0 (k - 1) && !((kids.take i).contains (kids.getD i 0))
/-- The first n kids are places ahead, no two the same. -/
def aheadTo (k : Int) (kids : List Int) : Nat → Bool
  | 0 => true
  | n + 1 => aheadTo k kids n && aheadOk k kids n
def kindsOf (ns : List Nd) (kids : List Int) : List Int := kids.map fun c => (ns.getD c.toNat nd0).kind
/-- The first n kids fit. -/
def fitsTo (kd : Int) (ks : List Int) : Nat → Bool
  | 0 => true
  | n + 1 => fitsTo kd ks n && fits kd (n : Int) (ks.getD n 0)
theorem kindsOf_len (ns : List Nd) (kids : List Int) : (kindsOf ns kids).length = kids.length := by simp [kindsOf]
theorem kindsOf_at (ns : List Nd) (kids : List Int) (i : Nat) (h : i < kids.length) : (kindsOf ns kids).getD i 0 = (ns.getD (kids.getD i 0).toNat nd0).kind := by
  simp [kindsOf, List.getD, h]
theorem kidsTo_split (ns : List Nd) (k : Int) (x : Nd) : ∀ n, n ≤ x.kids.length → kidsTo ns k x n = (aheadTo k x.kids n && fitsTo x.kind (kindsOf ns x.kids) n) := by
  intro n
  induction n with
  | zero => intro _; rfl
  | succ n ih =>
    intro h
    rw [kidsTo, aheadTo, fitsTo, ih (by omega), kidOk, aheadOk, kindsOf_at ns x.kids n (by omega)]
    generalize aheadTo k x.kids n = a
    generalize fitsTo x.kind (kindsOf ns x.kids) n = b
    generalize isIn (x.kids.getD n 0) 0 (k - 1) = c
    generalize fits x.kind (n : Int) (ns.getD (x.kids.getD n 0).toNat nd0).kind = d
    generalize (x.kids.take n).contains (x.kids.getD n 0) = e
    cases a <;> cases b <;> cases c <;> cases d <;> cases e <;> rfl
theorem fitsTo_all {kd : Int} {p : Int → Bool} (h : ∀ (i : Nat) x, fits kd (i : Int) x = p x) (ks : List Int) : ∀ n, n ≤ ks.length → fitsTo kd ks n = (ks.take n).all p := by
  intro n
  induction n with
  | zero => intro _; rfl
  | succ n ih =>
    intro hn
    rw [fitsTo, ih (by omega), h, List.take_succ_eq_append_getElem (by omega), List.all_append]
    simp [List.getD, show n < ks.length by omega]
theorem fitsTo_whole {kd : Int} {p : Int → Bool} (h : ∀ (i : Nat) x, fits kd (i : Int) x = p x) (ks : List Int) : fitsTo kd ks ks.length = ks.all p := by
  rw [fitsTo_all h ks _ (Nat.le_refl _), List.take_length]
theorem fits_val {kd : Int} (h : kd ≠ 20 ∧ kd ≠ 16 ∧ kd ≠ 17 ∧ kd ≠ 19) (i : Nat) (x : Int) : fits kd (i : Int) x = isVal x := by
  unfold fits
  rw [if_neg h.1, if_neg (by omega), if_neg h.2.2.2]
theorem fits_stm (i : Nat) (x : Int) : fits 20 (i : Int) x = isStm x := by simp [fits]

/-- What is asked of the head of a node beside its kind and its number of kids. -/
def headRest (kd nm : Int) (tx : ByteArray) : Bool := isIn nm 0 1000000000 && (decide (kd = 1) || decide (nm = 0)) && (isNamed kd == decide (0 < tx.size)) && (decide (tx.size = 0) || nameOk tx)
theorem headOk_parts (x : Nd) : headOk x = (isIn x.kind 1 20 && isIn (x.kids.length : Int) (kidsLow x.kind) (kidsHigh x.kind) && headRest x.kind x.num x.name) := by
  unfold headOk headRest
  simp only [Bool.and_assoc]
/-- A right node: what its part says, kids that are ahead, and what its part takes. -/
theorem nodeParts {ns : List Nd} {k : Int} {x : Nd} {says tk : Bool} (hk : isIn x.kind 1 20 = true) (hs : says = headRest x.kind x.num x.name) (ht : tk = (isIn (x.kids.length : Int) (kidsLow x.kind) (kidsHigh x.kind) && fitsTo x.kind (kindsOf ns x.kids) x.kids.length)) :
    (headOk x && kidsTo ns k x x.kids.length) = (says && ((decide (x.kids.length ≤ 12) && aheadTo k x.kids x.kids.length) && tk)) := by
  rw [headOk_parts, kidsTo_split ns k x _ (Nat.le_refl _), hk, hs, ht]
  have h12 : isIn (x.kids.length : Int) (kidsLow x.kind) (kidsHigh x.kind) = true → decide (x.kids.length ≤ 12) = true := by
    intro h
    simp only [isIn, Bool.and_eq_true, decide_eq_true_eq] at h
    have : kidsHigh x.kind ≤ 12 := by unfold kidsHigh; repeat' split <;> omega
    simp
    omega
  generalize isIn (x.kids.length : Int) (kidsLow x.kind) (kidsHigh x.kind) = a at h12 ⊢
  generalize decide (x.kids.length ≤ 12) = b at h12 ⊢
  generalize headRest x.kind x.num x.name = c
  generalize aheadTo k x.kids x.kids.length = d
  generalize fitsTo x.kind (kindsOf ns x.kids) x.kids.length = e
  cases a <;> cases b <;> cases c <;> cases d <;> cases e <;> simp_all

theorem aheadTo_false {k : Int} {ks : List Int} {i n : Nat} (hi : i < n) (h : aheadOk k ks i = false) : aheadTo k ks n = false := by
  induction n with
  | zero => omega
  | succ n ih =>
    rcases Nat.lt_or_ge i n with h1 | h1
    · simp [aheadTo, ih h1]
    · have : i = n := by omega
      subst this
      simp [aheadTo, h]
theorem aheadTo_at {k : Int} {ks : List Int} {n : Nat} (h : aheadTo k ks n = true) : ∀ i, i < n → aheadOk k ks i = true := by
  intro i hi
  cases hk : aheadOk k ks i
  · rw [aheadTo_false hi hk] at h; cases h
  · rfl
theorem nameOk_some {tx : ByteArray} (h : nameOk tx = true) : 0 < tx.size := by
  rcases Nat.eq_zero_or_pos tx.size with h0 | h0
  · exfalso
    obtain rfl : tx = ⟨#[]⟩ := by
      cases tx with | mk d => simp [ByteArray.size] at h0; simp [h0]
    revert h
    decide
  · exact h0

end Go.Proofs.YtljphnjmeckpbaaGreat
