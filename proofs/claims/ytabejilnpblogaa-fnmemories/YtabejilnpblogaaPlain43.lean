/-
  Chapter 9, plainly: a memory, and what is done to it. No program, no world.
-/
import Derived.Test.YtabejilnpblogaaPa
namespace Go.Proofs.Ytabejilnpblogaa

structure Ce where
  live : Bool
  num : Int
def szCe (_ : Ce) : Nat := 0
def okCe (_ : Ce) : Prop := True
theorem szRowCe_len (xs : List Ce) : szRow szCe xs = xs.length := by
  unfold szRow
  have : (xs.map szCe).sum = 0 := by
    induction xs with
    | nil => rfl
    | cons x xs ih => rw [List.map_cons, List.sum_cons, ih]; rfl
  omega
structure Mm where
  cells : List Ce
  input : List Int
  out : List Int
  fuel : Int
  bad : Int
def szMm (m : Mm) : Nat := szRow szCe m.cells + m.input.length + m.out.length
def okMm (m : Mm) : Prop := okRow okCe m.cells ∧ m.input.length ≤ 9223372036854775807 ∧ m.out.length ≤ 9223372036854775807 ∧ -9223372036854775808 ≤ m.fuel ∧ m.fuel ≤ 9223372036854775807

def ceAt (cs : List Ce) (k : Int) : Option Ce := if 0 ≤ k then cs[k.toNat]? else none
/-- The live cell at a place. -/
def liveM (m : Mm) (k : Int) : Option Ce := match ceAt m.cells k with
  | some c => if c.live = true then some c else none
  | none => none
def setM (m : Mm) (k : Int) (c : Ce) : Mm := { m with cells := m.cells.set k.toNat c }
def newM (input : List Int) (fuel : Int) : Mm := ⟨[], input, [], fuel, 0⟩
def spendM (m : Mm) : Mm := if m.bad = 0 then (if m.fuel ≤ 0 then { m with bad := 1 } else { m with fuel := m.fuel - 1 }) else m
/-- A new cell. -/
def pushM (m : Mm) (n : Int) : Mm := { m with cells := m.cells ++ [⟨true, n⟩] }
def freshM (m : Mm) (n : Int) : Mm × Int × Int := if m.bad = 0 then (pushM m n, 2, (m.cells.length : Int)) else (m, 0, 0)
def movedM (m : Mm) (t k : Int) : Mm × Int × Int :=
  if m.bad = 0 then
    if t = 2 then
      match liveM m k with
      | some c => (pushM (setM m k ⟨false, c.num⟩) c.num, 2, (m.cells.length : Int))
      | none => ({ m with bad := 5 }, 0, 0)
    else (m, t, k)
  else (m, 0, 0)
def freedM (m : Mm) (t k : Int) : Mm :=
  if m.bad = 0 ∧ t = 2 then
    match ceAt m.cells k with
    | some c => setM m k ⟨false, c.num⟩
    | none => m
  else m
/-- Whether a value leads to a live cell. -/
def leadM (m : Mm) (t k : Int) : Option Ce := if 2 ≤ t ∧ t ≤ 4 then liveM m k else none
def lookedM (m : Mm) (t k : Int) : Mm × Int :=
  if m.bad = 0 then
    match leadM m t k with
    | some c => (m, c.num)
    | none => ({ m with bad := 5 }, 0)
  else (m, 0)
def writtenM (m : Mm) (t k n : Int) : Mm :=
  if m.bad = 0 then
    match leadM m t k with
    | some _ => setM m k ⟨true, n⟩
    | none => { m with bad := 5 }
  else m
def askedM (m : Mm) : Mm × Int :=
  if m.bad = 0 then
    match m.input with
    | [] => ({ m with bad := 2 }, 0)
    | x :: xs => ({ m with input := xs }, x)
  else (m, 0)
def toldM (m : Mm) (n : Int) : Mm := if m.bad = 0 then { m with out := m.out ++ [n] } else m
def summedM (m : Mm) (a b : Int) : Mm × Int :=
  if m.bad = 0 then
    if (0 ≤ a ∧ a ≤ 1000000000) ∧ (0 ≤ b ∧ b ≤ 1000000000) ∧ a + b ≤ 1000000000 then (m, a + b) else ({ m with bad := 3 }, 0)
  else (m, 0)

end Go.Proofs.Ytabejilnpblogaa
