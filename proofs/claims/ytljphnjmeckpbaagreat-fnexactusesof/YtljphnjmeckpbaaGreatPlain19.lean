/-
  Chapter 4, plainly: what lies under a node. No program, no world.
-/
import Derived.Test.YtljphnjmeckpbaaGreatPlain18
namespace Go.Proofs.YtljphnjmeckpbaaGreat

/-- Node j is node k, or lies below it. -/
inductive Reach (ns : List Nd) (k : Nat) : Nat → Prop
  | self : Reach ns k k
  | step {i c : Nat} : Reach ns k i → (c : Int) ∈ (ns.getD i nd0).kids → Reach ns k c
theorem Reach.trans {ns : List Nd} {a b c : Nat} (h : Reach ns a b) (h2 : Reach ns b c) : Reach ns a c := by
  induction h2 with
  | self => exact h
  | step _ hc ih => exact .step ih hc
theorem reach_head {ns : List Nd} {k j : Nat} : Reach ns k j ↔ j = k ∨ ∃ c : Nat, (c : Int) ∈ (ns.getD k nd0).kids ∧ Reach ns c j := by
  constructor
  · intro h
    induction h with
    | self => exact .inl rfl
    | step hi hc ih =>
      rename_i i c
      rcases ih with rfl | ⟨c0, h0, h1⟩
      · exact .inr ⟨_, hc, .self⟩
      · exact .inr ⟨c0, h0, .step h1 hc⟩
  · rintro (rfl | ⟨c, hc, h⟩)
    · exact .self
    · exact (Reach.step .self hc).trans h
/-- Kids stand ahead, up to node m. -/
def Ahead (ns : List Nd) (m : Nat) : Prop := ∀ i, i ≤ m → ∀ c ∈ (ns.getD i nd0).kids, 0 ≤ c ∧ c < (i : Int)
theorem reach_le {ns : List Nd} {m k j : Nat} (H : Ahead ns m) (hk : k ≤ m) (h : Reach ns k j) : j ≤ k := by
  induction h with
  | self => exact Nat.le_refl _
  | step hi hc ih =>
    have := H _ (by omega) _ hc
    omega
/-- What is marked up to node k is marked with all below it. -/
def Shut (ns : List Nd) (bs : List Bool) (k : Nat) : Prop := ∀ i, i ≤ k → bs.getD i false = true → ∀ c : Nat, (c : Int) ∈ (ns.getD i nd0).kids → bs.getD c false = true
theorem shut_reach {ns : List Nd} {bs : List Bool} {m k j : Nat} (H : Ahead ns m) (hk : k ≤ m) (hs : Shut ns bs k) (h0 : bs.getD k false = true) (h : Reach ns k j) : bs.getD j false = true := by
  induction h with
  | self => exact h0
  | step hi hc ih => exact hs _ (reach_le H hk hi) ih _ hc

/-- The places of what is marked, ascending. -/
def picks (bs : List Bool) (t : Nat) : List Int := ((List.range t).filter fun j => bs.getD j false).map fun (j : Nat) => (j : Int)
theorem picks_yes {bs : List Bool} {t : Nat} (h : bs.getD t false = true) : picks bs (t + 1) = picks bs t ++ [(t : Int)] := by
  unfold picks
  rw [List.range_succ, List.filter_append, List.map_append]
  simp only [List.getD] at h ⊢
  simp [h]
theorem picks_no {bs : List Bool} {t : Nat} (h : bs.getD t false = false) : picks bs (t + 1) = picks bs t := by
  unfold picks
  rw [List.range_succ, List.filter_append, List.map_append]
  simp only [List.getD] at h ⊢
  simp [h]
theorem picks_len (bs : List Bool) (t : Nat) : (picks bs t).length ≤ t := by
  unfold picks
  rw [List.length_map]
  have := List.length_filter_le (fun j => bs.getD j false) (List.range t)
  simpa using this
/-- The ascending list of all that lies under node k. -/
def IsUnder (ns : List Nd) (k : Nat) (xs : List Int) : Prop := xs.Pairwise (· < ·) ∧ ∀ x, x ∈ xs ↔ ∃ j : Nat, x = (j : Int) ∧ Reach ns k j
theorem picks_under {ns : List Nd} {bs : List Bool} {k t : Nat} (h : ∀ j, bs.getD j false = true ↔ Reach ns k j) (ht : ∀ j, Reach ns k j → j < t) : IsUnder ns k (picks bs t) := by
  constructor
  · unfold picks
    rw [List.pairwise_map]
    exact (List.pairwise_lt_range.filter _).imp (fun hab => by omega)
  · intro x
    unfold picks
    rw [List.mem_map]
    constructor
    · rintro ⟨j, hj, rfl⟩
      rw [List.mem_filter] at hj
      exact ⟨j, rfl, (h j).mp hj.2⟩
    · rintro ⟨j, rfl, hj⟩
      exact ⟨j, by rw [List.mem_filter]; exact ⟨by simpa using ht j hj, (h j).mpr hj⟩, rfl⟩
theorem sorted_ext : ∀ {xs ys : List Int}, xs.Pairwise (· < ·) → ys.Pairwise (· < ·) → (∀ x, x ∈ xs ↔ x ∈ ys) → xs = ys := by
  intro xs
  induction xs with
  | nil =>
    intro ys _ _ h
    cases ys with
    | nil => rfl
    | cons y ys => exact absurd ((h y).mpr (List.mem_cons_self ..)) (by simp)
  | cons x xs ih =>
    intro ys hx hy h
    cases ys with
    | nil => exact absurd ((h x).mp (List.mem_cons_self ..)) (by simp)
    | cons y ys =>
      rw [List.pairwise_cons] at hx hy
      have hxy : x = y := by
        rcases List.mem_cons.mp ((h x).mp (List.mem_cons_self ..)) with e | h1
        · exact e
        · rcases List.mem_cons.mp ((h y).mpr (List.mem_cons_self ..)) with e | h2
          · exact e.symm
          · have := hy.1 x h1
            have := hx.1 y h2
            omega
      subst hxy
      congr 1
      refine ih hx.2 hy.2 (fun z => ?_)
      constructor
      · intro hz
        rcases List.mem_cons.mp ((h z).mp (List.mem_cons_of_mem _ hz)) with e | h1
        · subst e
          have := hx.1 z hz
          omega
        · exact h1
      · intro hz
        rcases List.mem_cons.mp ((h z).mpr (List.mem_cons_of_mem _ hz)) with e | h1
        · subst e
          have := hy.1 z hz
          omega
        · exact h1
theorem under_one {ns : List Nd} {k : Nat} {xs ys : List Int} (h1 : IsUnder ns k xs) (h2 : IsUnder ns k ys) : xs = ys :=
  sorted_ext h1.1 h2.1 (fun x => (h1.2 x).trans (h2.2 x).symm)

theorem ahead_of {ns : List Nd} {m : Nat} (hm : m < ns.length) (h : deepOf ns (m : Int) ≠ 0) : Ahead ns m := by
  intro i hi c hc
  have hil : i < ns.length := by omega
  have he : ns.getD i nd0 = ns[i] := by simp [List.getD, hil]
  rw [he] at hc
  exact kids_in hil (deep_nodes hm h i hi) c hc

theorem getB_set (bs : List Bool) (i j : Nat) (h : i < bs.length) (b : Bool) : (bs.set i b).getD j false = if i = j then b else bs.getD j false := by
  simp only [List.getD]
  rw [List.getElem?_set]
  by_cases e : i = j
  · subst e
    simp [h]
  · simp [e]

end Go.Proofs.YtljphnjmeckpbaaGreat
