/-
  Chapter 7, plainly: vars, and where a name stands. No program, no world.
-/
import Derived.Test.YtljphnjmeckpbaaGreatPlain19
namespace Go.Proofs.YtljphnjmeckpbaaGreat

structure Vr where
  name : ByteArray
  ty : Int
  node : Int
def szVr (x : Vr) : Nat := x.name.size
def okVr (x : Vr) : Prop := x.name.size ≤ 9223372036854775807
theorem okVr_name {x : Vr} (h : okVr x) : x.name.size ≤ 9223372036854775807 := h
theorem le_szVr_name (x : Vr) : x.name.size ≤ szVr x := Nat.le_refl _

/-- Whether node j is node k or lies below it, looked for f nodes deep. -/
def underB (ns : List Nd) : Nat → Nat → Nat → Bool
  | 0, _, _ => false
  | f + 1, k, j => decide (j = k) || (ns.getD k nd0).kids.any fun c => decide (0 ≤ c) && underB ns f c.toNat j
theorem underB_iff {ns : List Nd} {m : Nat} (H : Ahead ns m) : ∀ f k, k ≤ m → k < f → ∀ j, underB ns f k j = true ↔ Reach ns k j := by
  intro f
  induction f with
  | zero => intro k _ h; omega
  | succ f ih =>
    intro k hk hf j
    rw [reach_head]
    simp only [underB, Bool.or_eq_true, decide_eq_true_eq, List.any_eq_true, Bool.and_eq_true]
    constructor
    · rintro (h | ⟨c, hc, h0, h1⟩)
      · exact .inl h
      · have hb := H k hk c hc
        refine .inr ⟨c.toNat, ?_, (ih c.toNat (by omega) (by omega) j).mp h1⟩
        rw [Int.toNat_of_nonneg h0]
        exact hc
    · rintro (h | ⟨c, hc, h1⟩)
      · exact .inl h
      · have hb := H k hk c hc
        exact .inr ⟨c, hc, by omega, by rw [Int.toNat_natCast]; exact (ih c (by omega) (by omega) j).mpr h1⟩
/-- What lies under a node, ascending. -/
def underL (ns : List Nd) (k : Int) : List Int :=
  if deepOf ns k = 0 then [] else picks ((List.range (k.toNat + 1)).map (underB ns (k.toNat + 1) k.toNat)) (k.toNat + 1)
theorem deep_in7 {ns : List Nd} {k : Int} (h : deepOf ns k ≠ 0) : 0 ≤ k ∧ k < (ns.length : Int) := by
  refine Classical.byContradiction fun hn => h ?_
  exact deepOf_out (by omega)
theorem underL_ans (ns : List Nd) (k : Int) : (deepOf ns k = 0 ∧ underL ns k = []) ∨ (deepOf ns k ≠ 0 ∧ IsUnder ns k.toNat (underL ns k)) := by
  unfold underL
  by_cases h : deepOf ns k = 0
  · exact .inl ⟨h, by rw [if_pos h]⟩
  · refine .inr ⟨h, ?_⟩
    rw [if_neg h]
    have hk := deep_in7 h
    have hA : Ahead ns k.toNat := ahead_of (by omega) (by rw [Int.toNat_of_nonneg hk.1]; exact h)
    refine picks_under (fun j => ?_) (fun j hj => ?_)
    · by_cases hj : j < k.toNat + 1
      · rw [← underB_iff hA (k.toNat + 1) k.toNat (Nat.le_refl _) (by omega) j]
        simp [List.getD, hj]
      · constructor
        · intro h1
          simp [List.getD, hj] at h1
        · intro h1
          have := reach_le hA (Nat.le_refl _) h1
          omega
    · have := reach_le hA (Nat.le_refl _) hj
      omega
/-- Under a node stand nodes. -/
theorem underL_in {ns : List Nd} {k x : Int} (h : x ∈ underL ns k) : 0 ≤ x ∧ x ≤ k ∧ x < (ns.length : Int) ∧ deepOf ns k ≠ 0 := by
  rcases underL_ans ns k with ⟨_, h1⟩ | ⟨h0, h1⟩
  · rw [h1] at h
    simp at h
  · obtain ⟨j, rfl, hj⟩ := (h1.2 x).mp h
    have hk := deep_in7 h0
    have hA : Ahead ns k.toNat := ahead_of (by omega) (by rw [Int.toNat_of_nonneg hk.1]; exact h0)
    have := reach_le hA (Nat.le_refl _) hj
    exact ⟨by omega, by omega, by omega, h0⟩

def fc1 : Fc := ⟨ByteArray.empty, [], 0, 0, 0⟩
def parV (q : Pm) : Vr := ⟨q.name, q.ty, -1⟩
def letV (ns : List Nd) (k : Int) : Vr := ⟨(ns.getD k.toNat nd0).name, 0, k⟩
def lets (ns : List Nd) (xs : List Int) : List Vr := (xs.filter fun k => decide ((ns.getD k.toNat nd0).kind = 13)).map (letV ns)
/-- The vars of a function. -/
def varsIn (ns : List Nd) (f : Fc) : List Vr := f.params.map parV ++ lets ns (underL ns f.body)
def varsOf (p : Pg) (fn : Int) : List Vr := if isIn fn 0 ((p.fns.length : Int) - 1) = true then varsIn p.nodes (p.fns.getD fn.toNat fc1) else []
theorem lets_take (ns : List Nd) (xs : List Int) (i : Nat) (h : i < xs.length) : lets ns (xs.take (i + 1)) = lets ns (xs.take i) ++ (if (ns.getD xs[i].toNat nd0).kind = 13 then [letV ns xs[i]] else []) := by
  unfold lets
  rw [List.take_succ_eq_append_getElem h, List.filter_append, List.map_append]
  congr 1
  by_cases e : (ns.getD xs[i].toNat nd0).kind = 13
  · rw [if_pos e]
    show List.map (letV ns) (match decide ((ns.getD xs[i].toNat nd0).kind = 13) with | true => [xs[i]] | false => []) = _
    rw [decide_eq_true e]
    rfl
  · rw [if_neg e]
    show List.map (letV ns) (match decide ((ns.getD xs[i].toNat nd0).kind = 13) with | true => [xs[i]] | false => []) = _
    rw [decide_eq_false e]
    rfl
theorem lets_len (ns : List Nd) (xs : List Int) : (lets ns xs).length ≤ xs.length := by
  unfold lets
  rw [List.length_map]
  exact List.length_filter_le _ _

/-- The place of the first var with a name, or -1. -/
def varAt (vs : List Vr) (name : ByteArray) : Int :=
  match vs.findIdx? (fun f => sameB f.name name) with
  | some i => (i : Int)
  | none => -1
theorem varAt_at {vs : List Vr} {name : ByteArray} {k : Nat} (hk : k < vs.length) (h0 : ∀ j, (hj : j < vs.length) → j < k → sameB vs[j].name name = false) (h1 : sameB vs[k].name name = true) : varAt vs name = (k : Int) := by
  unfold varAt
  have : vs.findIdx? (fun f => sameB f.name name) = some k := by
    rw [List.findIdx?_eq_some_iff_getElem]
    refine ⟨hk, h1, fun j hj => ?_⟩
    rw [h0 j (by omega) hj]
    decide
  rw [this]
theorem varAt_none {vs : List Vr} {name : ByteArray} (h0 : ∀ j, (hj : j < vs.length) → sameB vs[j].name name = false) : varAt vs name = -1 := by
  unfold varAt
  have : vs.findIdx? (fun f => sameB f.name name) = none := by
    rw [List.findIdx?_eq_none_iff]
    intro x hx
    obtain ⟨j, hj, rfl⟩ := List.getElem_of_mem hx
    exact h0 j hj
  rw [this]
theorem varAt_bound (vs : List Vr) (name : ByteArray) : -1 ≤ varAt vs name ∧ varAt vs name < (vs.length : Int) := by
  unfold varAt
  cases h : vs.findIdx? (fun f => sameB f.name name) with
  | none => exact ⟨by simp, by simp; omega⟩
  | some i =>
    rw [List.findIdx?_eq_some_iff_getElem] at h
    obtain ⟨hi, _⟩ := h
    show -1 ≤ (i : Int) ∧ (i : Int) < (vs.length : Int)
    exact ⟨by omega, by omega⟩

end Go.Proofs.YtljphnjmeckpbaaGreat
