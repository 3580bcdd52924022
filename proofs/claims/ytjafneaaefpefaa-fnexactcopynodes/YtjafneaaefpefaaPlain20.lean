/-
  Chapter 4, plainly: nodes copied behind others, each behind its kids. No program, no world.
-/
import Derived.Test.YtjafneaaefpefaaPa
namespace Go.Proofs.Ytjafneaaefpefaa

/-- Kids copied one behind the other: what is there then, and their new places. -/
def packL (f : Int → List Nd → Option (List Nd × Int)) : List Int → List Nd → Option (List Nd × List Int)
  | [], to => some (to, [])
  | c :: cs, to => (f c to).bind fun r => (packL f cs r.1).bind fun s => some (s.1, r.2 :: s.2)
/-- A node copied, a way down having at most so many nodes. -/
def pack (ns : List Nd) : Nat → Int → List Nd → Option (List Nd × Int)
  | 0, _, _ => none
  | d + 1, k, to =>
    if isIn k 0 ((ns.length : Int) - 1) = true then
      (packL (pack ns d) (ns.getD k.toNat nd0).kids to).bind fun r =>
        if 300 ≤ r.1.length then none else some (r.1 ++ [⟨(ns.getD k.toNat nd0).kind, (ns.getD k.toNat nd0).num, (ns.getD k.toNat nd0).name, r.2⟩], (r.1.length : Int))
    else none
theorem packL_len {f : Int → List Nd → Option (List Nd × Int)} (hf : ∀ c to r, f c to = some r → to.length ≤ r.1.length) : ∀ (cs : List Int) (to : List Nd) (r : List Nd × List Int), packL f cs to = some r → to.length ≤ r.1.length ∧ r.2.length = cs.length := by
  intro cs
  induction cs with
  | nil => intro to r h; simp [packL] at h; subst h; exact ⟨Nat.le_refl _, rfl⟩
  | cons c cs ih =>
    intro to r h
    simp only [packL, Option.bind_eq_some_iff] at h
    obtain ⟨r1, h1, s, h2, h3⟩ := h
    cases h3
    have a := hf c to r1 h1
    have b := ih r1.1 s h2
    exact ⟨Nat.le_trans a b.1, by simp [b.2]⟩
/-- What is there stays ahead. -/
theorem pack_pre (ns : List Nd) : ∀ (d : Nat) (k : Int) (to : List Nd) (r : List Nd × Int), pack ns d k to = some r → to.length < r.1.length ∧ r.1.length ≤ 300 ∧ r.2 = (r.1.length : Int) - 1 := by
  intro d
  induction d with
  | zero => intro k to r h; simp [pack] at h
  | succ d ih =>
    intro k to r h
    simp only [pack] at h
    split at h
    · simp only [Option.bind_eq_some_iff] at h
      obtain ⟨s, h1, h2⟩ := h
      split at h2
      · cases h2
      · cases h2
        have := (packL_len (fun c to r hr => Nat.le_of_lt (ih c to r hr).1) _ _ _ h1).1
        simp
        omega
    · cases h
/-- One kid more. -/
theorem packL_snoc (f : Int → List Nd → Option (List Nd × Int)) : ∀ (cs : List Int) (c : Int) (to : List Nd), packL f (cs ++ [c]) to = (packL f cs to).bind fun r => (f c r.1).bind fun s => some (s.1, r.2 ++ [s.2]) := by
  intro cs
  induction cs with
  | nil => intro c to; simp [packL]
  | cons a cs ih =>
    intro c to
    simp only [List.cons_append, packL, ih]
    cases f a to with
    | none => rfl
    | some r =>
      simp only [Option.bind_some]
      cases packL f cs r.1 with
      | none => rfl
      | some s =>
        simp only [Option.bind_some]
        cases f c s.1 with
        | none => rfl
        | some u => rfl
/-- Where the first kids can't be copied, all can't. -/
theorem packL_take_none {f : Int → List Nd → Option (List Nd × Int)} {cs : List Int} {to : List Nd} {t : Nat} (h : packL f (cs.take t) to = none) : packL f cs to = none := by
  have : ∀ (xs ys : List Int) (to : List Nd), packL f xs to = none → packL f (xs ++ ys) to = none := by
    intro xs
    induction xs with
    | nil => intro ys to h; simp [packL] at h
    | cons x xs ih =>
      intro ys to h
      simp only [List.cons_append, packL] at h ⊢
      cases hx : f x to with
      | none => rfl
      | some r =>
        rw [hx] at h
        simp only [Option.bind_some] at h ⊢
        cases hp : packL f xs r.1 with
        | none => rw [ih ys r.1 hp]; rfl
        | some s => rw [hp] at h; simp at h
  have h2 := this (cs.take t) (cs.drop t) to h
  rwa [List.take_append_drop] at h2

end Go.Proofs.Ytjafneaaefpefaa
