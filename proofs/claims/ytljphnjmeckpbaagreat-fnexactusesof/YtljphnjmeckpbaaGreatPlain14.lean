/-
  Chapter 4, plainly: params, functions, programs; how much a row holds. No program, no world.
-/
import Derived.Test.YtljphnjmeckpbaaGreatPlain13
namespace Go.Proofs.YtljphnjmeckpbaaGreat

structure Pm where
  name : ByteArray
  ty : Int
structure Fc where
  name : ByteArray
  params : List Pm
  res : Int
  body : Int
  ret : Int
structure Pg where
  nodes : List Nd
  fns : List Fc

section
variable {α : Type}
/-- How much the first k elements hold. -/
def szTo (f : α → Nat) (xs : List α) (k : Nat) : Nat := ((xs.take k).map f).sum
/-- How much a row holds. -/
def szRow (f : α → Nat) (xs : List α) : Nat := xs.length + (xs.map f).sum
theorem szTo_zero (f : α → Nat) (xs : List α) : szTo f xs 0 = 0 := rfl
theorem szTo_succ (f : α → Nat) (xs : List α) (k : Nat) (h : k < xs.length) : szTo f xs (k + 1) = szTo f xs k + f xs[k] := by
  unfold szTo
  rw [List.take_succ_eq_append_getElem h, List.map_append, List.sum_append]
  rfl
theorem szTo_all (f : α → Nat) (xs : List α) : szTo f xs xs.length = (xs.map f).sum := by simp [szTo]
theorem len_szRow (f : α → Nat) (xs : List α) : xs.length ≤ szRow f xs := Nat.le_add_right _ _
theorem mem_sum (f : α → Nat) : ∀ {xs : List α} {x : α}, x ∈ xs → f x ≤ (xs.map f).sum := by
  intro xs
  induction xs with
  | nil => intro x h; simp at h
  | cons y ys ih =>
    intro x h
    simp only [List.map_cons, List.sum_cons]
    rcases List.mem_cons.mp h with rfl | h
    · omega
    · have := ih h
      omega
theorem mem_szRow (f : α → Nat) {xs : List α} {x : α} (h : x ∈ xs) : f x ≤ szRow f xs := by
  have := mem_sum f h
  unfold szRow
  omega
/-- A row that came in: no longer than a machine holds. -/
def okRow (ok : α → Prop) (xs : List α) : Prop := xs.length ≤ 9223372036854775807 ∧ ∀ x ∈ xs, ok x
end

def szNd (x : Nd) : Nat := x.name.size + x.kids.length
def okNd (x : Nd) : Prop := x.name.size ≤ 9223372036854775807 ∧ x.kids.length ≤ 9223372036854775807
theorem okNd_name {x : Nd} (h : okNd x) : x.name.size ≤ 9223372036854775807 := h.1
theorem okNd_kids {x : Nd} (h : okNd x) : x.kids.length ≤ 9223372036854775807 := h.2
theorem le_szNd_name (x : Nd) : x.name.size ≤ szNd x := Nat.le_add_right _ _
theorem le_szNd_kids (x : Nd) : x.kids.length ≤ szNd x := Nat.le_add_left _ _
def szPm (x : Pm) : Nat := x.name.size
def okPm (x : Pm) : Prop := x.name.size ≤ 9223372036854775807
theorem okPm_name {x : Pm} (h : okPm x) : x.name.size ≤ 9223372036854775807 := h
theorem le_szPm_name (x : Pm) : x.name.size ≤ szPm x := Nat.le_refl _
def szFc (x : Fc) : Nat := x.name.size + szRow szPm x.params
def okFc (x : Fc) : Prop := x.name.size ≤ 9223372036854775807 ∧ okRow okPm x.params
theorem okFc_name {x : Fc} (h : okFc x) : x.name.size ≤ 9223372036854775807 := h.1
theorem okFc_params {x : Fc} (h : okFc x) : okRow okPm x.params := h.2
theorem le_szFc_name (x : Fc) : x.name.size ≤ szFc x := Nat.le_add_right _ _
theorem le_szFc_params (x : Fc) : szRow szPm x.params ≤ szFc x := Nat.le_add_left _ _
def szPg (p : Pg) : Nat := szRow szNd p.nodes + szRow szFc p.fns
def okPg (p : Pg) : Prop := okRow okNd p.nodes ∧ okRow okFc p.fns

end Go.Proofs.YtljphnjmeckpbaaGreat
