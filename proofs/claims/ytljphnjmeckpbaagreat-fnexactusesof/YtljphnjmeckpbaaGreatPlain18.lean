/-
  Chapter 4, plainly: how often numbers stand in a list; right functions; right programs. No program, no world.
-/
import Derived.Test.YtljphnjmeckpbaaGreatPlain17
import Derived.Test.YtljphnjmeckpbaaGreatPlain15
namespace Go.Proofs.YtljphnjmeckpbaaGreat

/-- How often each of 0 .. N - 1 stands in a list. -/
def cnt (l : List Int) (N : Nat) : List Int := (List.range N).map fun (j : Nat) => ((l.count (j : Int) : Nat) : Int)
theorem cnt_len (l : List Int) (N : Nat) : (cnt l N).length = N := by simp [cnt]
theorem cnt_at (l : List Int) (N j : Nat) (h : j < N) : (cnt l N)[j]'(by rw [cnt_len]; exact h) = ((l.count (j : Int) : Nat) : Int) := by simp [cnt]
theorem cnt_nil (N : Nat) : cnt [] N = List.replicate N 0 := by
  apply List.ext_getElem
  · simp [cnt]
  · intro i h1 h2
    simp [cnt]
theorem cnt_step (l : List Int) (N c : Nat) (h : c < N) (y : Int) (hy : (cnt l N)[c]'(by rw [cnt_len]; exact h) = y) : (cnt l N).set c (y + 1) = cnt (l ++ [(c : Int)]) N := by
  apply List.ext_getElem
  · simp [cnt]
  · intro i h1 h2
    have hi : i < N := by rw [cnt_len] at h2; exact h2
    rw [cnt_at _ _ _ hi, List.getElem_set]
    rw [cnt_at _ _ _ h] at hy
    by_cases e : c = i
    · subst e
      rw [if_pos rfl, ← hy]
      simp
    · rw [if_neg e, cnt_at _ _ _ hi]
      have : ¬ (c : Int) = (i : Int) := by omega
      simp [List.count_append, this]
theorem cnt_bound (l : List Int) (N c : Nat) (h : c < N) : 0 ≤ (cnt l N)[c]'(by rw [cnt_len]; exact h) ∧ (cnt l N)[c]'(by rw [cnt_len]; exact h) ≤ (l.length : Int) := by
  rw [cnt_at _ _ _ h]
  have := List.count_le_length (a := (c : Int)) (l := l)
  omega

def allKids (ns : List Nd) : List Int := ns.flatMap Nd.kids
theorem kids_le (ns : List Nd) : (allKids ns).length ≤ (ns.map szNd).sum := by
  induction ns with
  | nil => simp [allKids]
  | cons x xs ih =>
    unfold allKids at ih ⊢
    simp only [List.flatMap_cons, List.length_append, List.map_cons, List.sum_cons]
    have := le_szNd_kids x
    omega
theorem allKids_take (ns : List Nd) (t : Nat) (h : t < ns.length) : allKids (ns.take (t + 1)) = allKids (ns.take t) ++ ns[t].kids := by
  rw [List.take_succ_eq_append_getElem h]
  unfold allKids
  rw [List.flatMap_append, List.flatMap_cons, List.flatMap_nil, List.append_nil]
theorem pre_len (ns : List Nd) (t s : Nat) (h : t < ns.length) : (allKids (ns.take t) ++ ns[t].kids.take s).length ≤ szRow szNd ns := by
  have h1 := kids_le ns
  have h2 : allKids ns = allKids (ns.take t) ++ ns[t].kids ++ allKids (ns.drop (t + 1)) := by
    rw [← allKids_take ns t h]
    unfold allKids
    rw [← List.flatMap_append, List.take_append_drop]
  have h4 : (allKids ns).length = (allKids (ns.take t)).length + (ns[t].kids).length + (allKids (ns.drop (t + 1))).length := by rw [h2]; simp; omega
  have h6 : (ns[t].kids.take s).length ≤ ns[t].kids.length := (List.take_sublist _ _).length_le
  rw [List.length_append]
  unfold szRow
  omega

/-- A right param. -/
def pmOk (p : Pm) : Bool := nameOk p.name && isIn p.ty 1 4
/-- Body and Ret are what they should be. -/
def endsOkB (ns : List Nd) (f : Fc) : Bool :=
  isIn f.body 0 ((ns.length : Int) - 1) && decide ((ns.getD f.body.toNat nd0).kind = 20) &&
  (if f.res = 0 then decide (f.ret = -1) else if f.res = 1 ∨ f.res = 2 then isIn f.ret 0 ((ns.length : Int) - 1) && isVal (ns.getD f.ret.toNat nd0).kind else false)
def fnOk (ns : List Nd) (fs : List Fc) (i : Nat) (f : Fc) : Bool := nameOk f.name && decide (fnAt fs f.name = (i : Int)) && (decide (f.params.length ≤ 3) && f.params.all pmOk) && endsOkB ns f
/-- The first n functions are right. -/
def fnsTo (ns : List Nd) (fs : List Fc) : Nat → Bool
  | 0 => true
  | n + 1 => fnsTo ns fs n && fnOk ns fs n (fs.getD n ⟨ByteArray.empty, [], 0, 0, 0⟩)
def headsIn (f : Fc) : List Int := if 0 ≤ f.ret then [f.body, f.ret] else [f.body]
def heads (fs : List Fc) : List Int := fs.flatMap headsIn
/-- Each node hangs from one place. -/
def hangs (ns : List Nd) (fs : List Fc) : Bool := (List.range ns.length).all fun (j : Nat) => decide ((allKids ns).count (j : Int) + (heads fs).count (j : Int) = 1)
def programOk (p : Pg) : Bool :=
  isIn (p.nodes.length : Int) 1 300 && isIn (p.fns.length : Int) 1 8 && decide (deepOf p.nodes ((p.nodes.length : Int) - 1) ≠ 0) && fnsTo p.nodes p.fns p.fns.length && hangs p.nodes p.fns

theorem fnsTo_false {ns : List Nd} {fs : List Fc} {i n : Nat} (hi : i < n) (h : fnOk ns fs i (fs.getD i ⟨ByteArray.empty, [], 0, 0, 0⟩) = false) : fnsTo ns fs n = false := by
  induction n with
  | zero => omega
  | succ n ih =>
    rcases Nat.lt_or_ge i n with h1 | h1
    · simp [fnsTo, ih h1]
    · have : i = n := by omega
      subst this
      rw [fnsTo, h, Bool.and_false]
theorem fnsTo_at {ns : List Nd} {fs : List Fc} {n : Nat} (h : fnsTo ns fs n = true) : ∀ i, i < n → fnOk ns fs i (fs.getD i ⟨ByteArray.empty, [], 0, 0, 0⟩) = true := by
  intro i hi
  cases hk : fnOk ns fs i (fs.getD i ⟨ByteArray.empty, [], 0, 0, 0⟩)
  · rw [fnsTo_false hi hk] at h; cases h
  · rfl
theorem heads_take (fs : List Fc) (t : Nat) (h : t < fs.length) : heads (fs.take (t + 1)) = heads (fs.take t) ++ headsIn fs[t] := by
  rw [List.take_succ_eq_append_getElem h]
  unfold heads
  rw [List.flatMap_append, List.flatMap_cons, List.flatMap_nil, List.append_nil]

/-- Where all are right: every node is, and its kids are places ahead of it, each once. -/
theorem deep_nodes {ns : List Nd} {m : Nat} (hm : m < ns.length) (h : deepOf ns (m : Int) ≠ 0) : ∀ i, i ≤ m → nodeOk ns (i : Int) = true := by
  intro i hi
  cases hk : nodeOk ns (i : Int)
  · exact absurd (deepOf_zero (t := i) hm hi (by unfold deepNext goOn; rw [hk]; rfl)) h
  · rfl
theorem kids_in {ns : List Nd} {t : Nat} (ht : t < ns.length) (h : nodeOk ns (t : Int) = true) : ∀ c ∈ ns[t].kids, 0 ≤ c ∧ c < (t : Int) := by
  intro c hc
  obtain ⟨j, hj, rfl⟩ := List.getElem_of_mem hc
  have he : ns.getD t nd0 = ns[t] := by simp [List.getD, ht]
  have := kid_lt h (j := j) (by rw [he]; exact hj)
  rw [he] at this
  simpa [List.getD, hj] using this
theorem kids_once {ns : List Nd} {t : Nat} (ht : t < ns.length) (h : nodeOk ns (t : Int) = true) : ns[t].kids.Nodup := by
  have he : ns.getD t nd0 = ns[t] := by simp [List.getD, ht]
  unfold nodeOk at h
  simp only [Bool.and_eq_true, Int.toNat_natCast, he] at h
  have hk := kidsTo_at h.2
  rw [List.nodup_iff_pairwise_ne, List.pairwise_iff_getElem]
  intro i j hi hj hij e
  have h1 := hk j hj
  unfold kidOk at h1
  simp only [Bool.and_eq_true, Bool.not_eq_true'] at h1
  have h2 := h1.2
  have e2 : ns[t].kids.getD j 0 = ns[t].kids[j] := by simp [List.getD, hj]
  rw [e2, ← e, ← Bool.not_eq_true, List.contains_iff_mem] at h2
  apply h2
  have hl : i < (ns[t].kids.take j).length := by simp; omega
  rw [show ns[t].kids[i] = (ns[t].kids.take j)[i] by simp]
  exact List.getElem_mem hl
theorem count_kids {ns : List Nd} (h : ∀ t, (ht : t < ns.length) → ns[t].kids.Nodup) (c : Int) : (allKids ns).count c ≤ ns.length := by
  induction ns with
  | nil => simp [allKids]
  | cons x xs ih =>
    have h1 := ih (fun t ht => by have := h (t + 1) (by simpa using ht); simpa using this)
    have h2 : x.kids.Nodup := h 0 (by simp)
    have h3 : x.kids.count c ≤ 1 := List.nodup_iff_count.mp h2 c
    unfold allKids at h1 ⊢
    simp only [List.flatMap_cons, List.count_append, List.length_cons]
    omega

end Go.Proofs.YtljphnjmeckpbaaGreat
