/-
  Chapter 4, plainly: nodes, and which are right. No program, no world.
-/
import Derived.Test.YtljphnjmeckpbaaGreatPlain9
namespace Go.Proofs.YtljphnjmeckpbaaGreat

/-- A node. -/
structure Nd where
  kind : Int
  num : Int
  name : ByteArray
  kids : List Int
def nd0 : Nd := ⟨0, 0, ⟨#[]⟩, []⟩

def isIn (x lo hi : Int) : Bool := decide (lo ≤ x) && decide (x ≤ hi)
def isVal (k : Int) : Bool := isIn k 1 12
def isStm (k : Int) : Bool := isIn k 13 19
def isNamed (k : Int) : Bool := decide (k = 2 ∨ k = 3 ∨ k = 4 ∨ k = 5 ∨ k = 6 ∨ k = 12 ∨ k = 13 ∨ k = 14 ∨ k = 15)
/-- How many kids a node has at least and at most. -/
def kidsLow (k : Int) : Int := if k = 8 ∨ k = 13 ∨ k = 14 ∨ k = 15 ∨ k = 18 ∨ k = 19 then 1 else if k = 9 ∨ k = 10 ∨ k = 11 ∨ k = 17 then 2 else if k = 16 then 3 else 0
def kidsHigh (k : Int) : Int := if k = 8 ∨ k = 13 ∨ k = 14 ∨ k = 15 ∨ k = 18 ∨ k = 19 then 1 else if k = 9 ∨ k = 10 ∨ k = 11 ∨ k = 17 then 2 else if k = 12 ∨ k = 16 then 3 else if k = 20 then 12 else 0
/-- May a node of one kind be the kid at a place of one of another? -/
def fits (k at' kid : Int) : Bool := if k = 20 then isStm kid else if (k = 16 ∨ k = 17) ∧ 0 < at' then decide (kid = 20) else if k = 19 then decide (kid = 12) else isVal kid

/-- Is the kid at place i right: a node ahead, that fits there, and none of the kids ahead of it? -/
def kidOk (ns : List Nd) (k : Int) (x : Nd) (i : Nat) : Bool :=
  isIn (x.kids.getD i 0) 0 (k - 1) && fits x.kind (i : Int) (ns.getD (x.kids.getD i 0).toNat nd0).kind && !((x.kids.take i).contains (x.kids.getD i 0))
/-- The first n kids are right. -/
def kidsTo (ns : List Nd) (k : Int) (x : Nd) : Nat → Bool
  | 0 => true
  | n + 1 => kidsTo ns k x n && kidOk ns k x n
/-- A right node, but for its kids. -/
def headOk (x : Nd) : Bool :=
  isIn x.kind 1 20 && isIn (x.kids.length : Int) (kidsLow x.kind) (kidsHigh x.kind) && isIn x.num 0 1000000000 && (decide (x.kind = 1) || decide (x.num = 0)) && (isNamed x.kind == decide (0 < x.name.size)) && (decide (x.name.size = 0) || nameOk x.name)
def nodeOk (ns : List Nd) (k : Int) : Bool :=
  isIn k 0 ((ns.length : Int) - 1) && headOk (ns.getD k.toNat nd0) && kidsTo ns k (ns.getD k.toNat nd0) (ns.getD k.toNat nd0).kids.length

theorem kidsTo_false {ns : List Nd} {k : Int} {x : Nd} {i n : Nat} (hi : i < n) (h : kidOk ns k x i = false) : kidsTo ns k x n = false := by
  induction n with
  | zero => omega
  | succ n ih =>
    rcases Nat.lt_or_ge i n with h1 | h1
    · simp [kidsTo, ih h1]
    · have : i = n := by omega
      subst this
      simp [kidsTo, h]
theorem kidsTo_at {ns : List Nd} {k : Int} {x : Nd} {n : Nat} (h : kidsTo ns k x n = true) : ∀ i, i < n → kidOk ns k x i = true := by
  intro i hi
  cases hk : kidOk ns k x i
  · rw [kidsTo_false hi hk] at h; cases h
  · rfl

end Go.Proofs.YtljphnjmeckpbaaGreat
