/-
  Chapter 4, plainly: how much a copy of nodes holds. No program, no world.
-/
import Derived.Test.YtjafneaaefpefaaPlain20
namespace Go.Proofs.Ytjafneaaefpefaa

/-- A node that was copied off one of a row. -/
def OffRow (ns : List Nd) (q : Nd) : Prop := ∃ n ∈ ns, q.name = n.name ∧ q.kids.length = n.kids.length
theorem packL_from {ns : List Nd} {f : Int → List Nd → Option (List Nd × Int)} (hf : ∀ c tt r, f c tt = some r → ∃ qs, r.1 = tt ++ qs ∧ ∀ q ∈ qs, OffRow ns q) : ∀ (cs : List Int) (tt : List Nd) (r : List Nd × List Int), packL f cs tt = some r → ∃ qs, r.1 = tt ++ qs ∧ ∀ q ∈ qs, OffRow ns q := by
  intro cs
  induction cs with
  | nil => intro tt r h; simp [packL] at h; subst h; exact ⟨[], by simp, by simp⟩
  | cons c cs ih =>
    intro tt r h
    simp only [packL, Option.bind_eq_some_iff] at h
    obtain ⟨r1, h1, s, h2, h3⟩ := h
    cases h3
    obtain ⟨q1, e1, p1⟩ := hf c tt r1 h1
    obtain ⟨q2, e2, p2⟩ := ih r1.1 s h2
    refine ⟨q1 ++ q2, by rw [e2, e1, List.append_assoc], fun q hq => ?_⟩
    rcases List.mem_append.mp hq with h | h
    · exact p1 q h
    · exact p2 q h
theorem pack_from (ns : List Nd) : ∀ (d : Nat) (k : Int) (tt : List Nd) (r : List Nd × Int), pack ns d k tt = some r → ∃ qs, r.1 = tt ++ qs ∧ ∀ q ∈ qs, OffRow ns q := by
  intro d
  induction d with
  | zero => intro k tt r h; simp [pack] at h
  | succ d ih =>
    intro k tt r h
    simp only [pack] at h
    split at h
    · rename_i hin
      simp only [Option.bind_eq_some_iff] at h
      obtain ⟨s, h1, h2⟩ := h
      split at h2
      · cases h2
      · cases h2
        obtain ⟨qs, e1, p1⟩ := packL_from ih _ _ _ h1
        have hl := (packL_len (fun c tt r hr => Nat.le_of_lt (pack_pre ns d c tt r hr).1) _ _ _ h1).2
        have hk : k.toNat < ns.length := by simp [isIn] at hin; omega
        refine ⟨qs ++ [_], by simp only [e1, List.append_assoc]; rfl, fun q hq => ?_⟩
        rcases List.mem_append.mp hq with h | h
        · exact p1 q h
        · have : q = ⟨(ns.getD k.toNat nd0).kind, (ns.getD k.toNat nd0).num, (ns.getD k.toNat nd0).name, s.2⟩ := by simpa using h
          subst this
          refine ⟨ns[k.toNat], List.getElem_mem hk, ?_, ?_⟩
          · simp [List.getD, hk]
          · have h5 : ns.getD k.toNat nd0 = ns[k.toNat] := by simp [List.getD, hk]
            rw [h5] at hl
            exact hl
    · cases h

end Go.Proofs.Ytjafneaaefpefaa
