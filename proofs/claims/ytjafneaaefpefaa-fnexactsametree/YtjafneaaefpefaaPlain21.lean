/-
  Chapter 5, plainly: nodes that are the same with all below. No program, no world.
-/
import Derived.Test.YtjafneaaefpefaaPa
namespace Go.Proofs.Ytjafneaaefpefaa

/-- Node a of the one row and node b of the other are the same, with all below, but for places. -/
inductive SameNd (ns ms : List Nd) : Nat → Nat → Prop
  | mk {a b : Nat} (hk : (ns.getD a nd0).kind = (ms.getD b nd0).kind) (hn : (ns.getD a nd0).num = (ms.getD b nd0).num) (ht : sameB (ns.getD a nd0).name (ms.getD b nd0).name = true) (hl : (ns.getD a nd0).kids.length = (ms.getD b nd0).kids.length)
      (hs : ∀ i, i < (ns.getD a nd0).kids.length → SameNd ns ms ((ns.getD a nd0).kids.getD i 0).toNat ((ms.getD b nd0).kids.getD i 0).toNat) : SameNd ns ms a b
theorem sameNd_iff {ns ms : List Nd} {a b : Nat} : SameNd ns ms a b ↔ (ns.getD a nd0).kind = (ms.getD b nd0).kind ∧ (ns.getD a nd0).num = (ms.getD b nd0).num ∧ sameB (ns.getD a nd0).name (ms.getD b nd0).name = true ∧ (ns.getD a nd0).kids.length = (ms.getD b nd0).kids.length ∧ ∀ i, i < (ns.getD a nd0).kids.length → SameNd ns ms ((ns.getD a nd0).kids.getD i 0).toNat ((ms.getD b nd0).kids.getD i 0).toNat :=
  ⟨fun h => by cases h with | mk h1 h2 h3 h4 h5 => exact ⟨h1, h2, h3, h4, h5⟩, fun h => .mk h.1 h.2.1 h.2.2.1 h.2.2.2.1 h.2.2.2.2⟩
/-- What SameTree answers. -/
def SameTr (ns : List Nd) (a : Int) (ms : List Nd) (b : Int) : Prop := deepOf ns a ≠ 0 ∧ deepOf ms b ≠ 0 ∧ SameNd ns ms a.toNat b.toNat
theorem some_bool (P : Prop) : ∃ r : Bool, (r = true ↔ P) := by
  by_cases h : P
  · exact ⟨true, by simp [h]⟩
  · exact ⟨false, by simp [h]⟩

end Go.Proofs.Ytjafneaaefpefaa
