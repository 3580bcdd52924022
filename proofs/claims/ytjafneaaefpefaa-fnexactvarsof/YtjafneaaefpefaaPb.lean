/-
  Chapter 4, plainly: in a right program what lies under a node is the node, and what lies under its kids, each once. No program, no world.
  Chapter 7, plainly: vars, and where a name stands. No program, no world.
  Chapter 7, plainly: the nodes under two, ascending; those that use a name. No program, no world.
  Chapter 7, plainly: whether the names of a program are right, as the model looks at them. No program, no world.
  Chapter 7, plainly: how the program goes through a function. No world.
  Chapter 7, plainly: the model and the program look at the names in the same way. No world.
  Chapter 7, plainly: the model and the program agree on a body. No world.
-/
import Derived.Test.YtjafneaaefpefaaPa
namespace Go.Proofs.Ytjafneaaefpefaa

theorem flat_two {α : Type} (f : α → List Int) (c : Int) : ∀ (l : List α) (i j : Nat) (hi : i < l.length) (hj : j < l.length), i < j → c ∈ f l[i] → c ∈ f l[j] → 2 ≤ (l.flatMap f).count c
  | [], _, _, hi, _, _, _, _ => by simp at hi
  | x :: l, 0, 0, _, _, h, _, _ => by omega
  | x :: l, 0, j + 1, _, hj, _, h1, h2 => by
    simp only [List.flatMap_cons, List.count_append]
    have a1 : 0 < (f x).count c := List.count_pos_iff.2 h1
    have hj' : j < l.length := by simpa using hj
    have a2 : 0 < (l.flatMap f).count c := List.count_pos_iff.2 (List.mem_flatMap.2 ⟨l[j], List.getElem_mem hj', h2⟩)
    omega
  | x :: l, i + 1, j + 1, hi, hj, h, h1, h2 => by
    simp only [List.flatMap_cons, List.count_append]
    have := flat_two f c l i j (by simpa using hi) (by simpa using hj) (by omega) h1 h2
    omega
/-- Each node has one parent at most. -/
theorem one_parent {p : Pg} (h : programOk p = true) {i j : Nat} (hi : i < p.nodes.length) (hj : j < p.nodes.length) {c : Nat} (hc : c < p.nodes.length) (h1 : (c : Int) ∈ (p.nodes.getD i nd0).kids) (h2 : (c : Int) ∈ (p.nodes.getD j nd0).kids) : i = j := by
  have hh : (allKids p.nodes).count (c : Int) ≤ 1 := by
    unfold programOk at h
    simp only [Bool.and_eq_true] at h
    have h3 := h.2
    unfold hangs at h3
    have h4 := List.all_eq_true.mp h3 c (by simp [hc])
    have h5 : (allKids p.nodes).count (c : Int) + (heads p.fns).count (c : Int) = 1 := by simpa using h4
    omega
  have e1 : p.nodes.getD i nd0 = p.nodes[i] := by simp [List.getD, hi]
  have e2 : p.nodes.getD j nd0 = p.nodes[j] := by simp [List.getD, hj]
  rw [e1] at h1
  rw [e2] at h2
  rcases Nat.lt_trichotomy i j with hlt | he | hgt
  · have := flat_two Nd.kids (c : Int) p.nodes i j hi hj hlt h1 h2
    unfold allKids at hh
    omega
  · exact he
  · have := flat_two Nd.kids (c : Int) p.nodes j i hj hi hgt h2 h1
    unfold allKids at hh
    omega
theorem prog_last {p : Pg} (h : programOk p = true) : 1 ≤ p.nodes.length ∧ p.nodes.length ≤ 300 ∧ deepOf p.nodes ((p.nodes.length - 1 : Nat) : Int) ≠ 0 := by
  unfold programOk at h
  simp only [Bool.and_eq_true, decide_eq_true_eq] at h
  have h1 : 1 ≤ (p.nodes.length : Int) ∧ (p.nodes.length : Int) ≤ 300 := by simpa [isIn] using h.1.1.1.1
  refine ⟨by omega, by omega, ?_⟩
  have h3 := h.1.1.2
  rwa [show ((p.nodes.length - 1 : Nat) : Int) = (p.nodes.length : Int) - 1 by omega]
theorem prog_ahead {p : Pg} (h : programOk p = true) : Ahead p.nodes (p.nodes.length - 1) := by
  obtain ⟨h1, _, h3⟩ := prog_last h
  exact ahead_of (by omega) h3
/-- Every node of a right program has a depth. -/
theorem prog_deep_all {p : Pg} (h : programOk p = true) {k : Nat} (hk : k < p.nodes.length) : 0 < deepOf p.nodes (k : Int) ∧ deepOf p.nodes (k : Int) ≤ 10 := by
  obtain ⟨h1, _, h3⟩ := prog_last h
  have hb := deeps_bound p.nodes (k + 1) k
  rw [deepOf_in hk]
  refine ⟨?_, hb.2⟩
  have hne : (deeps p.nodes (k + 1)).getD k 0 ≠ 0 := fun h0 => h3 (by
    rw [deepOf_in (show p.nodes.length - 1 < p.nodes.length by omega)]
    exact deeps_zero p.nodes h0 (p.nodes.length - 1) (by omega))
  omega
/-- Whoever reaches a node reaches it through its parent. -/
theorem reach_up {p : Pg} (h : programOk p = true) {a b k : Nat} (ha : a < p.nodes.length) (hr : Reach p.nodes a b) (hk : k < p.nodes.length) (hb : (b : Int) ∈ (p.nodes.getD k nd0).kids) : a = b ∨ Reach p.nodes a k := by
  have hA := prog_ahead h
  cases hr with
  | self => exact .inl rfl
  | step hi hc =>
    rename_i i
    have hil := reach_le hA (by omega) hi
    have hbl := hA i (by omega) _ hc
    have := one_parent h (show i < p.nodes.length by omega) hk (c := b) (by omega) hc hb
    subst this
    exact .inr hi
/-- Two that reach one node: one of them reaches the other. -/
theorem reach_two {p : Pg} (h : programOk p = true) {a b j : Nat} (ha : a < p.nodes.length) (hb : b < p.nodes.length) (h1 : Reach p.nodes a j) (h2 : Reach p.nodes b j) : Reach p.nodes a b ∨ Reach p.nodes b a := by
  induction h1 with
  | self => exact .inr h2
  | step hi hc ih =>
    rename_i i c
    have hA := prog_ahead h
    have hil := reach_le hA (by omega) hi
    rcases reach_up h hb h2 (show i < p.nodes.length by omega) hc with e | e
    · subst e
      exact .inl (.step hi hc)
    · exact ih e
/-- Under two kids of a node lies nothing in common. -/
theorem kids_apart {p : Pg} (h : programOk p = true) {k a b j : Nat} (hk : k < p.nodes.length) (ha : (a : Int) ∈ (p.nodes.getD k nd0).kids) (hb : (b : Int) ∈ (p.nodes.getD k nd0).kids) (hne : a ≠ b) (h1 : Reach p.nodes a j) (h2 : Reach p.nodes b j) : False := by
  have hA := prog_ahead h
  have la := hA k (by omega) _ ha
  have lb := hA k (by omega) _ hb
  rcases reach_two h (show a < p.nodes.length by omega) (show b < p.nodes.length by omega) h1 h2 with hr | hr
  · rcases reach_up h (by omega) hr hk hb with e | e
    · exact hne e
    · have := reach_le hA (by omega) e
      omega
  · rcases reach_up h (by omega) hr hk ha with e | e
    · exact hne e.symm
    · have := reach_le hA (by omega) e
      omega
theorem sorted_nodup {xs : List Int} (h : xs.Pairwise (· < ·)) : xs.Nodup := by
  rw [List.nodup_iff_pairwise_ne]
  exact h.imp (fun h e => by omega)
theorem nodup_len {xs ys : List Int} (h1 : xs.Nodup) (h2 : ys.Nodup) (h : ∀ x, x ∈ xs ↔ x ∈ ys) : xs.length = ys.length := by
  have := (List.perm_ext_iff_of_nodup h1 h2).2 h
  exact this.length_eq
/-- How many lie under the first n kids. -/
def undersTo (u : Int → List Int) (cs : List Int) : Nat → Nat
  | 0 => 0
  | n + 1 => undersTo u cs n + (u (cs.getD n 0)).length
/-- What lies under the first n kids, one behind the other. -/
def undersL (u : Int → List Int) (cs : List Int) : Nat → List Int
  | 0 => []
  | n + 1 => undersL u cs n ++ u (cs.getD n 0)
theorem undersL_len (u : Int → List Int) (cs : List Int) : ∀ n, (undersL u cs n).length = undersTo u cs n
  | 0 => rfl
  | n + 1 => by simp only [undersL, undersTo, List.length_append]; rw [undersL_len u cs n]
theorem undersL_mem {u : Int → List Int} {cs : List Int} {x : Int} : ∀ n, n ≤ cs.length → (x ∈ undersL u cs n ↔ ∃ j, j < n ∧ x ∈ u (cs.getD j 0))
  | 0, _ => by simp [undersL]
  | n + 1, h => by
    have ih := undersL_mem (u := u) (cs := cs) (x := x) n (by omega)
    simp only [undersL, List.mem_append, ih]
    constructor
    · rintro (⟨j, hj, hx⟩ | hx)
      · exact ⟨j, by omega, hx⟩
      · exact ⟨n, by omega, hx⟩
    · rintro ⟨j, hj, hx⟩
      rcases Nat.lt_or_ge j n with hl | hl
      · exact .inl ⟨j, hl, hx⟩
      · have : j = n := by omega
        subst this
        exact .inr hx
/-- Under a node lie the node, and what lies under its kids. -/
theorem under_sum {p : Pg} (h : programOk p = true) {k : Nat} (hk : k < p.nodes.length) {xs : List Int} (hx : IsUnder p.nodes k xs) (u : Int → List Int) (hu : ∀ c ∈ (p.nodes.getD k nd0).kids, IsUnder p.nodes c.toNat (u c)) :
    xs.length = 1 + undersTo u (p.nodes.getD k nd0).kids (p.nodes.getD k nd0).kids.length := by
  have hA := prog_ahead h
  obtain ⟨h1l, _, h3⟩ := prog_last h
  have hok := deep_nodes (show p.nodes.length - 1 < p.nodes.length by omega) h3 k (by omega)
  have hnd : (p.nodes.getD k nd0).kids.Nodup := by
    have := kids_once hk hok
    rwa [show p.nodes.getD k nd0 = p.nodes[k] by simp [List.getD, hk]]
  generalize hcs : (p.nodes.getD k nd0).kids = cs at hu hnd ⊢
  have hin : ∀ c ∈ cs, 0 ≤ c ∧ c < (k : Int) := fun c hc => hA k (by omega) c (by rw [hcs]; exact hc)
  have hun : ∀ n, n ≤ cs.length → (undersL u cs n).Nodup := by
    intro n
    induction n with
    | zero => intro _; simp [undersL]
    | succ n ih =>
      intro hn
      have hm : cs.getD n 0 ∈ cs := getD_mem (by omega)
      simp only [undersL]
      rw [List.nodup_append]
      refine ⟨ih (by omega), sorted_nodup (hu _ hm).1, ?_⟩
      intro a ha b hb e
      subst e
      obtain ⟨j, hj, hxj⟩ := (undersL_mem n (by omega)).1 ha
      have hmj : cs.getD j 0 ∈ cs := getD_mem (by omega)
      obtain ⟨t1, e1, r1⟩ := ((hu _ hmj).2 a).1 hxj
      obtain ⟨t2, e2, r2⟩ := ((hu _ hm).2 a).1 hb
      have ht : t1 = t2 := by omega
      subst ht
      have hne : cs.getD j 0 ≠ cs.getD n 0 := by
        rw [getD_at (show j < cs.length by omega), getD_at (show n < cs.length by omega)]
        intro e
        have := (List.nodup_iff_pairwise_ne.1 hnd)
        rw [List.pairwise_iff_getElem] at this
        exact this j n (by omega) (by omega) hj e
      have l1 := hin _ hmj
      have l2 := hin _ hm
      refine kids_apart h hk (a := (cs.getD j 0).toNat) (b := (cs.getD n 0).toNat) ?_ ?_ (by omega) r1 r2
      · rw [hcs, Int.toNat_of_nonneg l1.1]; exact hmj
      · rw [hcs, Int.toNat_of_nonneg l2.1]; exact hm
  have hall : ((k : Int) :: undersL u cs cs.length).Nodup := by
    rw [List.nodup_cons]
    refine ⟨fun hm => ?_, hun _ (Nat.le_refl _)⟩
    obtain ⟨j, hj, hxj⟩ := (undersL_mem _ (Nat.le_refl _)).1 hm
    have hmj : cs.getD j 0 ∈ cs := getD_mem hj
    obtain ⟨t1, e1, r1⟩ := ((hu _ hmj).2 _).1 hxj
    have l1 := hin _ hmj
    have := reach_le hA (by omega) r1
    omega
  have hlen := nodup_len (sorted_nodup hx.1) hall (fun x => by
    rw [hx.2 x, List.mem_cons, undersL_mem _ (Nat.le_refl _)]
    constructor
    · rintro ⟨j, rfl, hr⟩
      rcases reach_head.1 hr with e | ⟨c, hc, hr2⟩
      · exact .inl (by rw [e])
      · rw [hcs] at hc
        obtain ⟨i, hi, hic⟩ := List.getElem_of_mem hc
        have hg : cs.getD i 0 = (c : Int) := (getD_at hi).trans hic
        refine .inr ⟨i, hi, ?_⟩
        rw [hg]
        exact ((hu _ hc).2 _).2 ⟨j, rfl, by rw [Int.toNat_natCast]; exact hr2⟩
    · rintro (e | ⟨i, hi, hxi⟩)
      · exact ⟨k, e, .self⟩
      · have hmi : cs.getD i 0 ∈ cs := getD_mem hi
        obtain ⟨t, rfl, r⟩ := ((hu _ hmi).2 _).1 hxi
        have l1 := hin _ hmi
        exact ⟨t, rfl, reach_head.2 (.inr ⟨(cs.getD i 0).toNat, by rw [hcs, Int.toNat_of_nonneg l1.1]; exact hmi, r⟩)⟩)
  rw [hlen, List.length_cons, undersL_len]
  omega
/-- The last of what lies under a node is the node. -/
theorem under_last {p : Pg} (h : programOk p = true) {k : Nat} (hk : k < p.nodes.length) {xs : List Int} (hx : IsUnder p.nodes k xs) : 0 < xs.length ∧ xs.getD (xs.length - 1) 0 = (k : Int) := by
  have hA := prog_ahead h
  have hm : (k : Int) ∈ xs := (hx.2 _).2 ⟨k, rfl, .self⟩
  have hp : 0 < xs.length := List.length_pos_of_mem hm
  refine ⟨hp, ?_⟩
  rw [getD_at (show xs.length - 1 < xs.length by omega)]
  obtain ⟨i, hi, hik⟩ := List.getElem_of_mem hm
  have hle : ∀ x ∈ xs, x ≤ (k : Int) := fun x hx2 => by
    obtain ⟨j, rfl, r⟩ := (hx.2 x).1 hx2
    have := reach_le hA (by omega) r
    omega
  rcases Nat.lt_or_ge i (xs.length - 1) with hl | hl
  · have h1 := (List.pairwise_iff_getElem.1 hx.1) i (xs.length - 1) hi (by omega) hl
    have h2 := hle _ (List.getElem_mem (show xs.length - 1 < xs.length by omega))
    omega
  · have : i = xs.length - 1 := by omega
    subst this
    exact hik

end Go.Proofs.Ytjafneaaefpefaa

namespace Go.Proofs.Ytjafneaaefpefaa

structure Vr where
  name : ByteArray
  ty : Int
  node : Int
def szVr (x : Vr) : Nat := x.name.size
def okVr (x : Vr) : Prop := x.name.size ≤ 9223372036854775807
theorem okVr_name {x : Vr} (h : okVr x) : x.name.size ≤ 9223372036854775807 := h
theorem le_szVr_name (x : Vr) : x.name.size ≤ szVr x := Nat.le_refl _

/-- Whether node j is node k or lies below it, looked for f nodes deep. -/
def underB (ns : List Nd) : Nat → Nat → Nat → Bool
  | 0, _, _ => false
  | f + 1, k, j => decide (j = k) || (ns.getD k nd0).kids.any fun c => decide (0 ≤ c) && underB ns f c.toNat j
theorem underB_iff {ns : List Nd} {m : Nat} (H : Ahead ns m) : ∀ f k, k ≤ m → k < f → ∀ j, underB ns f k j = true ↔ Reach ns k j := by
  intro f
  induction f with
  | zero => intro k _ h; omega
  | succ f ih =>
    intro k hk hf j
    rw [reach_head]
    simp only [underB, Bool.or_eq_true, decide_eq_true_eq, List.any_eq_true, Bool.and_eq_true]
    constructor
    · rintro (h | ⟨c, hc, h0, h1⟩)
      · exact .inl h
      · have hb := H k hk c hc
        refine .inr ⟨c.toNat, ?_, (ih c.toNat (by omega) (by omega) j).mp h1⟩
        rw [Int.toNat_of_nonneg h0]
        exact hc
    · rintro (h | ⟨c, hc, h1⟩)
      · exact .inl h
      · have hb := H k hk c hc
        exact .inr ⟨c, hc, by omega, by rw [Int.toNat_natCast]; exact (ih c (by omega) (by omega) j).mpr h1⟩
/-- What lies under a node, ascending. -/
def underL (ns : List Nd) (k : Int) : List Int :=
  if deepOf ns k = 0 then [] else picks ((List.range (k.toNat + 1)).map (underB ns (k.toNat + 1) k.toNat)) (k.toNat + 1)
theorem deep_in7 {ns : List Nd} {k : Int} (h : deepOf ns k ≠ 0) : 0 ≤ k ∧ k < (ns.length : Int) := by
  refine Classical.byContradiction fun hn => h ?_
  exact deepOf_out (by omega)
theorem underL_ans (ns : List Nd) (k : Int) : (deepOf ns k = 0 ∧ underL ns k = []) ∨ (deepOf ns k ≠ 0 ∧ IsUnder ns k.toNat (underL ns k)) := by
  unfold underL
  by_cases h : deepOf ns k = 0
  · exact .inl ⟨h, by rw [if_pos h]⟩
  · refine .inr ⟨h, ?_⟩
    rw [if_neg h]
    have hk := deep_in7 h
    have hA : Ahead ns k.toNat := ahead_of (by omega) (by rw [Int.toNat_of_nonneg hk.1]; exact h)
    refine picks_under (fun j => ?_) (fun j hj => ?_)
    · by_cases hj : j < k.toNat + 1
      · rw [← underB_iff hA (k.toNat + 1) k.toNat (Nat.le_refl _) (by omega) j]
        simp [List.getD, hj]
      · constructor
        · intro h1
          simp [List.getD, hj] at h1
        · intro h1
          have := reach_le hA (Nat.le_refl _) h1
          omega
    · have := reach_le hA (Nat.le_refl _) hj
      omega
/-- Under a node stand nodes. -/
theorem underL_in {ns : List Nd} {k x : Int} (h : x ∈ underL ns k) : 0 ≤ x ∧ x ≤ k ∧ x < (ns.length : Int) ∧ deepOf ns k ≠ 0 := by
  rcases underL_ans ns k with ⟨_, h1⟩ | ⟨h0, h1⟩
  · rw [h1] at h
    simp at h
  · obtain ⟨j, rfl, hj⟩ := (h1.2 x).mp h
    have hk := deep_in7 h0
    have hA : Ahead ns k.toNat := ahead_of (by omega) (by rw [Int.toNat_of_nonneg hk.1]; exact h0)
    have := reach_le hA (Nat.le_refl _) hj
    exact ⟨by omega, by omega, by omega, h0⟩

def fc1 : Fc := ⟨ByteArray.empty, [], 0, 0, 0⟩
def parV (q : Pm) : Vr := ⟨q.name, q.ty, -1⟩
def letV (ns : List Nd) (k : Int) : Vr := ⟨(ns.getD k.toNat nd0).name, 0, k⟩
def lets (ns : List Nd) (xs : List Int) : List Vr := (xs.filter fun k => decide ((ns.getD k.toNat nd0).kind = 13)).map (letV ns)
/-- The vars of a function. -/
def varsIn (ns : List Nd) (f : Fc) : List Vr := f.params.map parV ++ lets ns (underL ns f.body)
def varsOf (p : Pg) (fn : Int) : List Vr := if isIn fn 0 ((p.fns.length : Int) - 1) = true then varsIn p.nodes (p.fns.getD fn.toNat fc1) else []
theorem lets_take (ns : List Nd) (xs : List Int) (i : Nat) (h : i < xs.length) : lets ns (xs.take (i + 1)) = lets ns (xs.take i) ++ (if (ns.getD xs[i].toNat nd0).kind = 13 then [letV ns xs[i]] else []) := by
  unfold lets
  rw [List.take_succ_eq_append_getElem h, List.filter_append, List.map_append]
  congr 1
  by_cases e : (ns.getD xs[i].toNat nd0).kind = 13
  · rw [if_pos e]
    show List.map (letV ns) (match decide ((ns.getD xs[i].toNat nd0).kind = 13) with | true => [xs[i]] | false => []) = _
    rw [decide_eq_true e]
    rfl
  · rw [if_neg e]
    show List.map (letV ns) (match decide ((ns.getD xs[i].toNat nd0).kind = 13) with | true => [xs[i]] | false => []) = _
    rw [decide_eq_false e]
    rfl
theorem lets_len (ns : List Nd) (xs : List Int) : (lets ns xs).length ≤ xs.length := by
  unfold lets
  rw [List.length_map]
  exact List.length_filter_le _ _

/-- The place of the first var with a name, or -1. -/
def varAt (vs : List Vr) (name : ByteArray) : Int :=
  match vs.findIdx? (fun f => sameB f.name name) with
  | some i => (i : Int)
  | none => -1
theorem varAt_at {vs : List Vr} {name : ByteArray} {k : Nat} (hk : k < vs.length) (h0 : ∀ j, (hj : j < vs.length) → j < k → sameB vs[j].name name = false) (h1 : sameB vs[k].name name = true) : varAt vs name = (k : Int) := by
  unfold varAt
  have : vs.findIdx? (fun f => sameB f.name name) = some k := by
    rw [List.findIdx?_eq_some_iff_getElem]
    refine ⟨hk, h1, fun j hj => ?_⟩
    rw [h0 j (by omega) hj]
    decide
  rw [this]
theorem varAt_none {vs : List Vr} {name : ByteArray} (h0 : ∀ j, (hj : j < vs.length) → sameB vs[j].name name = false) : varAt vs name = -1 := by
  unfold varAt
  have : vs.findIdx? (fun f => sameB f.name name) = none := by
    rw [List.findIdx?_eq_none_iff]
    intro x hx
    obtain ⟨j, hj, rfl⟩ := List.getElem_of_mem hx
    exact h0 j hj
  rw [this]
theorem varAt_bound (vs : List Vr) (name : ByteArray) : -1 ≤ varAt vs name ∧ varAt vs name < (vs.length : Int) := by
  unfold varAt
  cases h : vs.findIdx? (fun f => sameB f.name name) with
  | none => exact ⟨by simp, by simp; omega⟩
  | some i =>
    rw [List.findIdx?_eq_some_iff_getElem] at h
    obtain ⟨hi, _⟩ := h
    show -1 ≤ (i : Int) ∧ (i : Int) < (vs.length : Int)
    exact ⟨by omega, by omega⟩

end Go.Proofs.Ytjafneaaefpefaa

namespace Go.Proofs.Ytjafneaaefpefaa

/-- What lies in either of two rows, ascending, each once. -/
def AllIn (xs ys zs : List Int) : Prop := zs.Pairwise (· < ·) ∧ ∀ x, x ∈ zs ↔ x ∈ xs ∨ x ∈ ys
theorem allIn_one {xs ys zs us : List Int} (h1 : AllIn xs ys zs) (h2 : AllIn xs ys us) : zs = us :=
  sorted_ext h1.1 h2.1 (fun x => (h1.2 x).trans (h2.2 x).symm)
/-- A row, ascending, each once. -/
def upL : List Int → List Int
  | [] => []
  | x :: xs => (upL xs).filter (· < x) ++ x :: (upL xs).filter (x < ·)
theorem upL_mem : ∀ (xs : List Int) (x : Int), x ∈ upL xs ↔ x ∈ xs := by
  intro xs
  induction xs with
  | nil => intro x; rfl
  | cons y xs ih =>
    intro x
    simp only [upL, List.mem_append, List.mem_cons, List.mem_filter, ih, decide_eq_true_eq]
    constructor
    · rintro (⟨h, _⟩ | h | ⟨h, _⟩)
      · exact .inr h
      · exact .inl h
      · exact .inr h
    · rintro (h | h)
      · exact .inr (.inl h)
      · rcases Int.lt_trichotomy x y with h1 | h1 | h1
        · exact .inl ⟨h, h1⟩
        · exact .inr (.inl h1)
        · exact .inr (.inr ⟨h, h1⟩)
theorem upL_asc : ∀ xs : List Int, (upL xs).Pairwise (· < ·) := by
  intro xs
  induction xs with
  | nil => exact List.Pairwise.nil
  | cons y xs ih =>
    simp only [upL]
    rw [List.pairwise_append]
    refine ⟨ih.filter _, ?_, ?_⟩
    · rw [List.pairwise_cons]
      refine ⟨fun a ha => ?_, ih.filter _⟩
      have := (List.mem_filter.mp ha).2
      simpa using this
    · intro a ha b hb
      have h1 := (List.mem_filter.mp ha).2
      simp at h1
      rcases List.mem_cons.mp hb with rfl | hb
      · exact h1
      · have h2 := (List.mem_filter.mp hb).2
        simp at h2
        omega
def allL (xs ys : List Int) : List Int := upL (xs ++ ys)
theorem allL_in (xs ys : List Int) : AllIn xs ys (allL xs ys) := ⟨upL_asc _, fun x => by unfold allL; rw [upL_mem, List.mem_append]⟩
theorem underL_asc (ns : List Nd) (k : Int) : (underL ns k).Pairwise (· < ·) := by
  rcases underL_ans ns k with ⟨_, h⟩ | ⟨_, h⟩
  · rw [h]
    exact List.Pairwise.nil
  · exact h.1
theorem asc_at {xs : List Int} (h : xs.Pairwise (· < ·)) {i j : Nat} (hj : j < xs.length) (hi : i < j) : xs[i] < xs[j] :=
  List.pairwise_iff_getElem.mp h i j (by omega) hj hi

/-- Two ascending rows on the way to one. -/
structure Mrg (A B : List Int) (i k : Nat) (zs : List Int) : Prop where
  asc : zs.Pairwise (· < ·)
  sub : ∀ x ∈ zs, x ∈ A ∨ x ∈ B
  inA : ∀ j, (hj : j < A.length) → j < i → A[j] ∈ zs
  inB : ∀ j, (hj : j < B.length) → j < k → B[j] ∈ zs
  ltA : ∀ x ∈ zs, ∀ j, (hj : j < A.length) → i ≤ j → x < A[j]
  ltB : ∀ x ∈ zs, ∀ j, (hj : j < B.length) → k ≤ j → x < B[j]
  len : zs.length ≤ i + k
theorem Mrg.start (A B : List Int) : Mrg A B 0 0 [] := ⟨List.Pairwise.nil, by simp, by intros; omega, by intros; omega, by simp, by simp, by simp⟩
theorem Mrg.done {A B zs : List Int} {i k : Nat} (h : Mrg A B i k zs) (hi : A.length ≤ i) (hk : B.length ≤ k) : zs = allL A B := by
  refine allIn_one (xs := A) (ys := B) ⟨h.asc, fun x => ⟨h.sub x, ?_⟩⟩ (allL_in A B)
  rintro (hx | hx)
  · obtain ⟨j, hj, rfl⟩ := List.getElem_of_mem hx
    exact h.inA j hj (by omega)
  · obtain ⟨j, hj, rfl⟩ := List.getElem_of_mem hx
    exact h.inB j hj (by omega)
theorem mrg_snoc {zs : List Int} {y : Int} (h : zs.Pairwise (· < ·)) (hy : ∀ x ∈ zs, x < y) : (zs ++ [y]).Pairwise (· < ·) := by
  rw [List.pairwise_append]
  exact ⟨h, by simp, fun a ha b hb => by simp at hb; rw [hb]; exact hy a ha⟩
theorem Mrg.fromA {A B zs : List Int} {i k : Nat} (h : Mrg A B i k zs) (hA : A.Pairwise (· < ·)) (hB : B.Pairwise (· < ·)) (hi : i < A.length) (hk : ∀ hk : k < B.length, A[i] < B[k]) : Mrg A B (i + 1) k (zs ++ [A[i]]) := by
  refine ⟨mrg_snoc h.asc (fun x hx => h.ltA x hx i hi (Nat.le_refl _)), ?_, ?_, ?_, ?_, ?_, by have := h.len; simp; omega⟩
  · intro x hx
    rcases List.mem_append.mp hx with hx | hx
    · exact h.sub x hx
    · simp at hx
      rw [hx]
      exact .inl (List.getElem_mem hi)
  · intro j hj hji
    by_cases e : j = i
    · subst e
      simp
    · exact List.mem_append_left _ (h.inA j hj (by omega))
  · intro j hj hjk
    exact List.mem_append_left _ (h.inB j hj hjk)
  · intro x hx j hj hij
    rcases List.mem_append.mp hx with hx | hx
    · exact h.ltA x hx j hj (by omega)
    · simp at hx
      rw [hx]
      exact asc_at hA hj (by omega)
  · intro x hx j hj hkj
    rcases List.mem_append.mp hx with hx | hx
    · exact h.ltB x hx j hj hkj
    · simp at hx
      rw [hx]
      have h1 := hk (by omega)
      by_cases e : j = k
      · subst e
        exact h1
      · have := asc_at hB hj (show k < j by omega)
        omega
theorem Mrg.fromB {A B zs : List Int} {i k : Nat} (h : Mrg A B i k zs) (hA : A.Pairwise (· < ·)) (hB : B.Pairwise (· < ·)) (hk : k < B.length) (hi : ∀ hi : i < A.length, B[k] < A[i]) : Mrg A B i (k + 1) (zs ++ [B[k]]) := by
  refine ⟨mrg_snoc h.asc (fun x hx => h.ltB x hx k hk (Nat.le_refl _)), ?_, ?_, ?_, ?_, ?_, by have := h.len; simp; omega⟩
  · intro x hx
    rcases List.mem_append.mp hx with hx | hx
    · exact h.sub x hx
    · simp at hx
      rw [hx]
      exact .inr (List.getElem_mem hk)
  · intro j hj hji
    exact List.mem_append_left _ (h.inA j hj hji)
  · intro j hj hjk
    by_cases e : j = k
    · subst e
      simp
    · exact List.mem_append_left _ (h.inB j hj (by omega))
  · intro x hx j hj hij
    rcases List.mem_append.mp hx with hx | hx
    · exact h.ltA x hx j hj hij
    · simp at hx
      rw [hx]
      have h1 := hi (by omega)
      by_cases e : j = i
      · subst e
        exact h1
      · have := asc_at hA hj (show i < j by omega)
        omega
  · intro x hx j hj hkj
    rcases List.mem_append.mp hx with hx | hx
    · exact h.ltB x hx j hj (by omega)
    · simp at hx
      rw [hx]
      exact asc_at hB hj (by omega)
theorem Mrg.both {A B zs : List Int} {i k : Nat} (h : Mrg A B i k zs) (hA : A.Pairwise (· < ·)) (hB : B.Pairwise (· < ·)) (hi : i < A.length) (hk : k < B.length) (he : A[i] = B[k]) : Mrg A B (i + 1) (k + 1) (zs ++ [B[k]]) := by
  refine ⟨mrg_snoc h.asc (fun x hx => h.ltB x hx k hk (Nat.le_refl _)), ?_, ?_, ?_, ?_, ?_, by have := h.len; simp; omega⟩
  · intro x hx
    rcases List.mem_append.mp hx with hx | hx
    · exact h.sub x hx
    · simp at hx
      rw [hx]
      exact .inr (List.getElem_mem hk)
  · intro j hj hji
    by_cases e : j = i
    · subst e
      rw [he]
      simp
    · exact List.mem_append_left _ (h.inA j hj (by omega))
  · intro j hj hjk
    by_cases e : j = k
    · subst e
      simp
    · exact List.mem_append_left _ (h.inB j hj (by omega))
  · intro x hx j hj hij
    rcases List.mem_append.mp hx with hx | hx
    · exact h.ltA x hx j hj (by omega)
    · simp at hx
      rw [hx, ← he]
      exact asc_at hA hj (by omega)
  · intro x hx j hj hkj
    rcases List.mem_append.mp hx with hx | hx
    · exact h.ltB x hx j hj (by omega)
    · simp at hx
      rw [hx]
      exact asc_at hB hj (by omega)
theorem upL_len : ∀ xs : List Int, (upL xs).length ≤ xs.length := by
  intro xs
  induction xs with
  | nil => simp [upL]
  | cons x xs ih =>
    simp only [upL, List.length_append, List.length_cons]
    have h1 : ∀ ys : List Int, (ys.filter (· < x)).length + (ys.filter (x < ·)).length ≤ ys.length := by
      intro ys
      induction ys with
      | nil => simp
      | cons y ys ih2 =>
        simp only [List.filter_cons]
        by_cases a : y < x
        · have b : ¬ x < y := by omega
          simp [a, b]
          omega
        · by_cases b : x < y
          · simp [a, b]
            omega
          · simp [a, b]
            omega
    have := h1 (upL xs)
    omega
theorem allL_len (xs ys : List Int) : (allL xs ys).length ≤ xs.length + ys.length := by
  have := upL_len (xs ++ ys)
  rw [List.length_append] at this
  exact this

/-- The seven kinds that use a name. -/
def usesK (k : Int) : Bool := decide (k = 2) || decide (k = 3) || decide (k = 4) || decide (k = 5) || decide (k = 6) || decide (k = 14) || decide (k = 15)
def usesB (ns : List Nd) (name : ByteArray) (k : Int) : Bool := usesK (ns.getD k.toNat nd0).kind && sameB (ns.getD k.toNat nd0).name name
def usesF (ns : List Nd) (name : ByteArray) (zs : List Int) : List Int := zs.filter (usesB ns name)
def allOf (p : Pg) (fn : Int) : List Int := if isIn fn 0 ((p.fns.length : Int) - 1) = true then allL (underL p.nodes (p.fns.getD fn.toNat fc1).body) (underL p.nodes (p.fns.getD fn.toNat fc1).ret) else []
def usesOf (p : Pg) (fn : Int) (name : ByteArray) : List Int := usesF p.nodes name (allOf p fn)
theorem usesF_take (ns : List Nd) (name : ByteArray) (zs : List Int) (i : Nat) (h : i < zs.length) : usesF ns name (zs.take (i + 1)) = usesF ns name (zs.take i) ++ (if usesB ns name zs[i] = true then [zs[i]] else []) := by
  unfold usesF
  rw [List.take_succ_eq_append_getElem h, List.filter_append]
  congr 1
  cases hu : usesB ns name zs[i] <;> simp [List.filter, hu]
theorem allOf_in {p : Pg} {fn x : Int} (h : x ∈ allOf p fn) : 0 ≤ x ∧ x < (p.nodes.length : Int) := by
  unfold allOf at h
  split at h
  · rcases ((allL_in _ _).2 x).mp h with h | h
    · have := underL_in h
      exact ⟨this.1, this.2.2.1⟩
    · have := underL_in h
      exact ⟨this.1, this.2.2.1⟩
  · simp at h

end Go.Proofs.Ytjafneaaefpefaa

namespace Go.Proofs.Ytjafneaaefpefaa

def scHas (th : List ByteArray) (nm : ByteArray) : Bool := th.any fun s => sameB s nm
/-- A call of a function ahead, with as many values as it has params. -/
def scCall (p : Pg) (fn : Int) (nm : ByteArray) (n : Nat) : Bool :=
  decide (0 ≤ fnAt p.fns nm) && decide (fnAt p.fns nm < fn) && decide ((p.fns.getD (fnAt p.fns nm).toNat fc1).params.length = n)
/-- What is asked of a value's own name. -/
def scOwn (p : Pg) (fn : Int) (th : List ByteArray) (x : Nd) : Bool :=
  if x.kind = 2 ∨ x.kind = 3 ∨ x.kind = 4 ∨ x.kind = 5 ∨ x.kind = 6 then scHas th x.name else if x.kind = 12 then scCall p fn x.name x.kids.length else true
def scV (p : Pg) (fn : Int) (th : List ByteArray) : Nat → Nat → Bool
  | 0, _ => true
  | f + 1, k => ((p.nodes.getD k nd0).kids.all fun c => scV p fn th f c.toNat) && scOwn p fn th (p.nodes.getD k nd0)
theorem scAll_congr {α : Type} {f g : α → Bool} : ∀ {xs : List α}, (∀ x ∈ xs, f x = g x) → xs.all f = xs.all g := by
  intro xs
  induction xs with
  | nil => intro _; rfl
  | cons x xs ih =>
    intro h
    simp only [List.all_cons]
    rw [h x (by simp), ih (fun y hy => h y (by simp [hy]))]
theorem scV_eq {p : Pg} {fn : Int} {th : List ByteArray} {m : Nat} (H : Ahead p.nodes m) : ∀ k, k ≤ m → ∀ f g, k < f → k < g → scV p fn th f k = scV p fn th g k := by
  intro k
  induction k using Nat.strongRecOn with
  | _ k ih =>
    intro hk f g hf hg
    match f, g, hf, hg with
    | f + 1, g + 1, hf, hg =>
      simp only [scV]
      congr 1
      refine scAll_congr (fun c hc => ?_)
      have hb := H k hk c hc
      exact ih c.toNat (by omega) (by omega) f g (by omega) (by omega)
def scVal (p : Pg) (fn : Int) (th : List ByteArray) (k : Nat) : Bool := scV p fn th (k + 1) k
theorem scVal_eq {p : Pg} {fn : Int} {th : List ByteArray} {m : Nat} (H : Ahead p.nodes m) {k : Nat} (hk : k ≤ m) : scVal p fn th k = (((p.nodes.getD k nd0).kids.all fun c => scVal p fn th c.toNat) && scOwn p fn th (p.nodes.getD k nd0)) := by
  unfold scVal
  rw [scV]
  congr 1
  refine scAll_congr (fun c hc => ?_)
  have hb := H k hk c hc
  exact scV_eq H c.toNat (by omega) _ _ (by omega) (by omega)

/-- Statements, one behind the other: whether all is right, and what is in sight then. -/
def scFold (st : Nat → List ByteArray → Bool × List ByteArray) : List Int → List ByteArray → Bool × List ByteArray
  | [], th => (true, th)
  | c :: cs, th => ((st c.toNat th).1 && (scFold st cs (st c.toNat th).2).1, (scFold st cs (st c.toNat th).2).2)
def scBody (p : Pg) (fn : Int) (blk : Nat → List ByteArray → Bool × List ByteArray) (x : Nd) (th : List ByteArray) : Bool × List ByteArray :=
  if x.kind = 13 then (scVal p fn th (x.kids.getD 0 0).toNat, th ++ [x.name])
  else if x.kind = 14 ∨ x.kind = 15 then (scVal p fn th (x.kids.getD 0 0).toNat && scHas th x.name, th)
  else if x.kind = 16 ∨ x.kind = 17 then (scVal p fn th (x.kids.getD 0 0).toNat && (x.kids.drop 1).all (fun c => (blk c.toNat th).1), th)
  else (scVal p fn th (x.kids.getD 0 0).toNat, th)
def scSt (p : Pg) (fn : Int) : Nat → Nat → List ByteArray → Bool × List ByteArray
  | 0, _, th => (true, th)
  | f + 1, k, th => scBody p fn (fun b th => scFold (scSt p fn f) (p.nodes.getD b nd0).kids th) (p.nodes.getD k nd0) th
theorem scFold_congr {s t : Nat → List ByteArray → Bool × List ByteArray} : ∀ {cs : List Int}, (∀ c ∈ cs, ∀ th, s c.toNat th = t c.toNat th) → ∀ th, scFold s cs th = scFold t cs th := by
  intro cs
  induction cs with
  | nil => intro _ th; rfl
  | cons c cs ih =>
    intro h th
    simp only [scFold]
    rw [h c (by simp), ih (fun d hd => h d (by simp [hd]))]
theorem scBody_congr {p : Pg} {fn : Int} {b b' : Nat → List ByteArray → Bool × List ByteArray} {x : Nd} (h : ∀ c ∈ x.kids, ∀ th, b c.toNat th = b' c.toNat th) (th : List ByteArray) : scBody p fn b x th = scBody p fn b' x th := by
  unfold scBody
  have h1 : (x.kids.drop 1).all (fun c => (b c.toNat th).1) = (x.kids.drop 1).all (fun c => (b' c.toNat th).1) := scAll_congr (fun c hc => by rw [h c (List.mem_of_mem_drop hc)])
  rw [h1]
theorem scSt_eq {p : Pg} {fn : Int} {m : Nat} (H : Ahead p.nodes m) : ∀ k, k ≤ m → ∀ f g, k < f → k < g → ∀ th, scSt p fn f k th = scSt p fn g k th := by
  intro k
  induction k using Nat.strongRecOn with
  | _ k ih =>
    intro hk f g hf hg th
    match f, g, hf, hg with
    | f + 1, g + 1, hf, hg =>
      simp only [scSt]
      refine scBody_congr (fun c hc th => ?_) th
      have hb := H k hk c hc
      refine scFold_congr (fun e he th => ?_) th
      have hb2 := H c.toNat (by omega) e he
      exact ih e.toNat (by omega) (by omega) f g (by omega) (by omega) th
def scStep (p : Pg) (fn : Int) (k : Nat) (th : List ByteArray) : Bool × List ByteArray := scSt p fn (k + 1) k th
def scBlk (p : Pg) (fn : Int) (b : Nat) (th : List ByteArray) : Bool × List ByteArray := scFold (scStep p fn) (p.nodes.getD b nd0).kids th
theorem scStep_eq {p : Pg} {fn : Int} {m : Nat} (H : Ahead p.nodes m) {k : Nat} (hk : k ≤ m) (th : List ByteArray) : scStep p fn k th = scBody p fn (scBlk p fn) (p.nodes.getD k nd0) th := by
  unfold scStep
  simp only [scSt]
  refine scBody_congr (fun c hc th => ?_) th
  have hb := H k hk c hc
  unfold scBlk
  refine scFold_congr (fun e he th => ?_) th
  have hb2 := H c.toNat (by omega) e he
  exact scSt_eq H e.toNat (by omega) _ _ (by omega) (by omega) th
theorem scFold_snoc (st : Nat → List ByteArray → Bool × List ByteArray) : ∀ (cs : List Int) (c : Int) (th : List ByteArray), scFold st (cs ++ [c]) th = ((scFold st cs th).1 && (st c.toNat (scFold st cs th).2).1, (st c.toNat (scFold st cs th).2).2) := by
  intro cs
  induction cs with
  | nil => intro c th; simp [scFold]
  | cons d cs ih =>
    intro c th
    simp only [List.cons_append, scFold, ih, Bool.and_assoc]
/-- The vars of a function: each name once. -/
def onceB (vs : List Vr) : Bool := (List.range vs.length).all fun k => decide (varAt vs (vs.getD k ⟨ByteArray.empty, 0, 0⟩).name = (k : Int))
/-- A function's names are right. -/
def seenB (p : Pg) (fn : Nat) : Bool :=
  let f := p.fns.getD fn fc1
  let r := scBlk p (fn : Int) f.body.toNat (f.params.map Pm.name)
  r.1 && (decide (f.ret < 0) || scVal p (fn : Int) r.2 f.ret.toNat)
def namesTo (p : Pg) : Nat → Bool
  | 0 => true
  | n + 1 => namesTo p n && (onceB (varsOf p (n : Int)) && seenB p n)
def namesRight (p : Pg) : Bool := programOk p && namesTo p p.fns.length

end Go.Proofs.Ytjafneaaefpefaa

namespace Go.Proofs.Ytjafneaaefpefaa

/-- The names of these, taken out. -/
def letIn (p : Pg) (ks : List Int) (s : ByteArray) : Bool := ks.any fun c => decide ((p.nodes.getD c.toNat nd0).kind = 13) && sameB (p.nodes.getD c.toNat nd0).name s
def outOf (p : Pg) (ks : List Int) (S : List ByteArray) : List ByteArray := S.filter fun s => !letIn p ks s
def seeOk (p : Pg) (fn : Int) (x : Nd) (S : List ByteArray) : Bool := !(usesK x.kind && !scHas S x.name) && !(decide (x.kind = 12) && !scCall p fn x.name x.kids.length)
def seeEnd (p : Pg) (x : Nd) (S : List ByteArray) : List ByteArray := if x.kind = 13 then S ++ [x.name] else if x.kind = 20 then outOf p x.kids S else S
def seeL (st : Nat → List ByteArray → Bool × List ByteArray) : List Int → List ByteArray → Bool × List ByteArray
  | [], S => (true, S)
  | c :: cs, S => if (st c.toNat S).1 then seeL st cs (st c.toNat S).2 else (false, (st c.toNat S).2)
def seeX (p : Pg) (fn : Int) (st : Nat → List ByteArray → Bool × List ByteArray) (x : Nd) (S : List ByteArray) : Bool × List ByteArray :=
  if seeOk p fn x S then (if (seeL st x.kids S).1 then (true, seeEnd p x (seeL st x.kids S).2) else (false, (seeL st x.kids S).2)) else (false, S)
def seeF (p : Pg) (fn : Int) : Nat → Nat → List ByteArray → Bool × List ByteArray
  | 0, _, S => (true, S)
  | f + 1, k, S => seeX p fn (seeF p fn f) (p.nodes.getD k nd0) S
theorem seeL_congr {s t : Nat → List ByteArray → Bool × List ByteArray} : ∀ {cs : List Int}, (∀ c ∈ cs, ∀ S, s c.toNat S = t c.toNat S) → ∀ S, seeL s cs S = seeL t cs S := by
  intro cs
  induction cs with
  | nil => intro _ S; rfl
  | cons c cs ih =>
    intro h S
    simp only [seeL]
    rw [h c (by simp), ih (fun d hd => h d (by simp [hd]))]
theorem seeX_congr {p : Pg} {fn : Int} {s t : Nat → List ByteArray → Bool × List ByteArray} {x : Nd} (h : ∀ c ∈ x.kids, ∀ S, s c.toNat S = t c.toNat S) (S : List ByteArray) : seeX p fn s x S = seeX p fn t x S := by
  unfold seeX
  rw [seeL_congr h]
theorem seeF_eq {p : Pg} {fn : Int} {m : Nat} (H : Ahead p.nodes m) : ∀ k, k ≤ m → ∀ f g, k < f → k < g → ∀ S, seeF p fn f k S = seeF p fn g k S := by
  intro k
  induction k using Nat.strongRecOn with
  | _ k ih =>
    intro hk f g hf hg S
    match f, g, hf, hg with
    | f + 1, g + 1, hf, hg =>
      simp only [seeF]
      refine seeX_congr (fun c hc S => ?_) S
      have hb := H k hk c hc
      exact ih c.toNat (by omega) (by omega) f g (by omega) (by omega) S
def see (p : Pg) (fn : Int) (k : Nat) (S : List ByteArray) : Bool × List ByteArray := seeF p fn (k + 1) k S
theorem see_eq {p : Pg} {fn : Int} {m : Nat} (H : Ahead p.nodes m) {k : Nat} (hk : k ≤ m) (S : List ByteArray) : see p fn k S = seeX p fn (see p fn) (p.nodes.getD k nd0) S := by
  unfold see
  rw [seeF]
  refine seeX_congr (fun c hc S => ?_) S
  have hb := H k hk c hc
  exact seeF_eq H c.toNat (by omega) _ _ (by omega) (by omega) S
theorem seeL_append (st : Nat → List ByteArray → Bool × List ByteArray) : ∀ (as bs : List Int) (S : List ByteArray), seeL st (as ++ bs) S = if (seeL st as S).1 then seeL st bs (seeL st as S).2 else seeL st as S := by
  intro as
  induction as with
  | nil => intro bs S; simp [seeL]
  | cons a as ih =>
    intro bs S
    simp only [List.cons_append, seeL]
    by_cases h : (st a.toNat S).1 = true
    · simp [h, ih]
    · simp [h]
theorem seeL_one (st : Nat → List ByteArray → Bool × List ByteArray) (c : Int) (S : List ByteArray) : seeL st [c] S = st c.toNat S := by
  simp only [seeL]
  cases h : (st c.toNat S).1
  · simp [← h]
  · simp [← h]
/-- One more, all being well so far. -/
theorem seeL_next {st : Nat → List ByteArray → Bool × List ByteArray} {ks : List Int} {t : Nat} (ht : t < ks.length) {S : List ByteArray} (h : (seeL st (ks.take t) S).1 = true) : seeL st (ks.take (t + 1)) S = st ks[t].toNat (seeL st (ks.take t) S).2 := by
  rw [List.take_succ_eq_append_getElem ht, seeL_append, if_pos h, seeL_one]
/-- One that is not well ends it. -/
theorem seeL_stop {st : Nat → List ByteArray → Bool × List ByteArray} {ks : List Int} {t : Nat} (ht : t < ks.length) {S : List ByteArray} (h : (seeL st (ks.take t) S).1 = true) (h2 : (st ks[t].toNat (seeL st (ks.take t) S).2).1 = false) : seeL st ks S = (false, (st ks[t].toNat (seeL st (ks.take t) S).2).2) := by
  have h3 : ks = ks.take t ++ (ks[t] :: ks.drop (t + 1)) := by rw [← List.drop_eq_getElem_cons ht, List.take_append_drop]
  conv => lhs; rw [h3]
  rw [seeL_append, if_pos h]
  simp only [seeL]
  rw [if_neg (by simp [h2])]

structure AnyKids (x : Nd) : Prop where
  kind : 1 ≤ x.kind ∧ x.kind ≤ 20
  few : x.kids.length ≤ 12
  name : x.name.size ≤ 8
theorem anyKids {ns : List Nd} {k : Nat} (h : nodeOk ns (k : Int) = true) : AnyKids (ns.getD k nd0) := by
  unfold nodeOk at h
  simp only [Bool.and_eq_true, Int.toNat_natCast] at h
  have h2 := h.1.2
  unfold headOk at h2
  simp only [Bool.and_eq_true] at h2
  obtain ⟨⟨⟨⟨⟨a1, a2⟩, a3⟩, a4⟩, a5⟩, a6⟩ := h2
  generalize ns.getD k nd0 = x at a1 a2 a3 a4 a5 a6 ⊢
  refine ⟨by simpa [isIn] using a1, ?_, ?_⟩
  · simp only [isIn, Bool.and_eq_true, decide_eq_true_eq] at a2
    have : kidsHigh x.kind ≤ 12 := by unfold kidsHigh; repeat' split <;> omega
    omega
  · rcases Bool.or_eq_true _ _ ▸ a6 with e | e
    · have : x.name.size = 0 := by simpa using e
      omega
    · unfold nameOk at e
      simp only [Bool.and_eq_true, decide_eq_true_eq] at e
      exact e.1.1.1.2
/-- How many puts there are at most below a node. -/
theorem puts_kids {p : Pg} (h : programOk p = true) {k : Nat} (hk : k < p.nodes.length) : ∃ M : Nat, 1 ≤ M ∧ 13 ^ (deepOf p.nodes (k : Int)).toNat = 13 * M ∧ 13 * M ≤ 1000000000000 ∧ ∀ c ∈ (p.nodes.getD k nd0).kids, 13 ^ (deepOf p.nodes c).toNat ≤ M := by
  have hd := prog_deep_all h hk
  have hl := prog_last h
  obtain ⟨d, hd2⟩ : ∃ d : Nat, (deepOf p.nodes (k : Int)).toNat = d + 1 := ⟨(deepOf p.nodes (k : Int)).toNat - 1, by omega⟩
  rw [hd2]
  have hd9 : d ≤ 9 := by omega
  have hm : (13 : Nat) ^ d ≤ 13 ^ 9 := Nat.pow_le_pow_right (by omega) hd9
  have h9 : (13 : Nat) ^ 9 = 10604499373 := by decide
  refine ⟨13 ^ d, Nat.pow_pos (by omega), by rw [Nat.pow_succ, Nat.mul_comm], by omega, fun c hc => ?_⟩
  have h1 := deep_kid (m := p.nodes.length - 1) (by omega) hl.2.2 (k := k) (by omega) hc
  exact Nat.pow_le_pow_right (by omega) (by omega)

end Go.Proofs.Ytjafneaaefpefaa

namespace Go.Proofs.Ytjafneaaefpefaa

theorem ext_data2 {a b : ByteArray} (h : a.data.toList = b.data.toList) : a = b := by
  cases a; cases b
  simp only [ByteArray.mk.injEq]
  exact Array.toList_inj.1 h
theorem sameB_eq {a b : ByteArray} (h : sameB a b = true) : a = b := by
  unfold sameB at h
  rw [beq_iff_eq, ByteArray.toList_eq, ByteArray.toList_eq] at h
  exact ext_data2 h
theorem sameB_ne {a b : ByteArray} (h : a ≠ b) : sameB a b = false := by
  cases hs : sameB a b
  · rfl
  · exact absurd (sameB_eq hs) h
theorem scHas_filter2 (S : List ByteArray) (f : ByteArray → Bool) (q : ByteArray) : scHas (S.filter f) q = (scHas S q && f q) := by
  unfold scHas
  rw [List.any_filter]
  induction S with
  | nil => rfl
  | cons s S ih =>
    simp only [List.any_cons]
    rw [ih]
    cases h : sameB s q
    · simp
    · have := sameB_eq h
      subst this
      cases f s <;> simp
/-- The same names in sight. -/
def Eqv (S th : List ByteArray) : Prop := ∀ q, scHas S q = scHas th q
theorem scOwn_eqv {p : Pg} {fn : Int} {S th : List ByteArray} (h : Eqv S th) (x : Nd) : scOwn p fn S x = scOwn p fn th x := by
  unfold scOwn
  rw [h x.name]
theorem scV_eqv {p : Pg} {fn : Int} {S th : List ByteArray} (h : Eqv S th) : ∀ f k, scV p fn S f k = scV p fn th f k := by
  intro f
  induction f with
  | zero => intro k; rfl
  | succ f ih =>
    intro k
    simp only [scV]
    rw [scOwn_eqv h, scAll_congr (fun c _ => ih c.toNat)]
theorem scVal_eqv {p : Pg} {fn : Int} {S th : List ByteArray} (h : Eqv S th) (k : Nat) : scVal p fn S k = scVal p fn th k := scV_eqv h _ _
theorem seeL_vals {st : Nat → List ByteArray → Bool × List ByteArray} {f : Nat → Bool} {S : List ByteArray} : ∀ {cs : List Int}, (∀ c ∈ cs, st c.toNat S = (f c.toNat, S)) → seeL st cs S = (cs.all (fun c => f c.toNat), S) := by
  intro cs
  induction cs with
  | nil => intro _; rfl
  | cons c cs ih =>
    intro h
    have h1 := h c (by simp)
    simp only [seeL, h1, List.all_cons]
    cases hf : f c.toNat
    · simp
    · simpa using ih (fun d hd => h d (by simp [hd]))
theorem seeOk_val {p : Pg} {fn : Int} {x : Nd} (hv : isVal x.kind = true) (S : List ByteArray) : seeOk p fn x S = scOwn p fn S x := by
  have hk : 1 ≤ x.kind ∧ x.kind ≤ 12 := by simpa [isVal, isIn] using hv
  have hc : x.kind = 1 ∨ x.kind = 2 ∨ x.kind = 3 ∨ x.kind = 4 ∨ x.kind = 5 ∨ x.kind = 6 ∨ x.kind = 7 ∨ x.kind = 8 ∨ x.kind = 9 ∨ x.kind = 10 ∨ x.kind = 11 ∨ x.kind = 12 := by omega
  unfold seeOk scOwn usesK
  rcases hc with e | e | e | e | e | e | e | e | e | e | e | e <;> simp [e]
theorem see_val {p : Pg} {fn : Int} (h : programOk p = true) : ∀ k : Nat, k < p.nodes.length → isVal (p.nodes.getD k nd0).kind = true → ∀ S, see p fn k S = (scVal p fn S k, S) := by
  have hl := prog_last h
  have HA := prog_ahead h
  intro k
  induction k using Nat.strongRecOn with
  | _ k ih =>
    intro hk hv S
    have hok := deep_nodes (m := p.nodes.length - 1) (by omega) hl.2.2 k (by omega)
    have hkv := kid_val hok hv
    rw [see_eq HA (by omega), scVal_eq HA (by omega)]
    unfold seeX
    rw [seeL_vals (f := fun c => scVal p fn S c) (fun c hc => by
      have hb := HA k (by omega) c hc
      exact ih c.toNat (by omega) (by omega) (hkv c hc) S), seeOk_val hv]
    have hse : seeEnd p (p.nodes.getD k nd0) S = S := by
      have hk : 1 ≤ (p.nodes.getD k nd0).kind ∧ (p.nodes.getD k nd0).kind ≤ 12 := by simpa [isVal, isIn] using hv
      unfold seeEnd
      rw [if_neg (by omega), if_neg (by omega)]
    simp only [hse]
    generalize scOwn p fn S (p.nodes.getD k nd0) = a
    generalize ((p.nodes.getD k nd0).kids.all fun c => scVal p fn S c.toNat) = b
    cases a <;> cases b <;> rfl

/-- What is let below a node has a name that is not in sight. -/
def Good (p : Pg) (th : List ByteArray) (k : Nat) : Prop := ∀ j, Reach p.nodes k j → (p.nodes.getD j nd0).kind = 13 → scHas th (p.nodes.getD j nd0).name = false
/-- The same answer, and, where it is true, the same names in sight. -/
def Same (a b : Bool × List ByteArray) : Prop := a.1 = b.1 ∧ (a.1 = true → Eqv a.2 b.2)
theorem scHas_append (a b : List ByteArray) (q : ByteArray) : scHas (a ++ b) q = (scHas a q || scHas b q) := by
  unfold scHas
  rw [List.any_append]
theorem eqv_append {S th : List ByteArray} (h : Eqv S th) (x : ByteArray) : Eqv (S ++ [x]) (th ++ [x]) := fun q => by rw [scHas_append, scHas_append, h q]
theorem scBody_snd (p : Pg) (fn : Int) (blk : Nat → List ByteArray → Bool × List ByteArray) (x : Nd) (th : List ByteArray) : (scBody p fn blk x th).2 = if x.kind = 13 then th ++ [x.name] else th := by
  unfold scBody
  split
  · rfl
  · split
    · rfl
    · split <;> rfl
theorem scStep_snd (p : Pg) (fn : Int) (k : Nat) (th : List ByteArray) : (scStep p fn k th).2 = if (p.nodes.getD k nd0).kind = 13 then th ++ [(p.nodes.getD k nd0).name] else th := by
  unfold scStep
  simp only [scSt]
  exact scBody_snd _ _ _ _ _
theorem scFold_snd (p : Pg) (fn : Int) (q : ByteArray) : ∀ (cs : List Int) (th : List ByteArray), scHas (scFold (scStep p fn) cs th).2 q = (scHas th q || letIn p cs q) := by
  intro cs
  induction cs with
  | nil => intro th; simp [scFold, letIn]
  | cons c cs ih =>
    intro th
    simp only [scFold]
    rw [ih, scStep_snd]
    unfold letIn
    rw [List.any_cons]
    split
    · rename_i h
      rw [scHas_append]
      simp only [h, decide_true, Bool.true_and]
      rw [Bool.or_assoc]
      congr 1
      congr 1
      simp [scHas]
    · rename_i h
      simp only [h, decide_false, Bool.false_and, Bool.false_or]
/-- Behind a block the names ahead of it are in sight again. -/
theorem out_again {p : Pg} {fn : Int} {ks : List Int} {X th : List ByteArray} (h : Eqv X (scFold (scStep p fn) ks th).2) (hg : ∀ c ∈ ks, (p.nodes.getD c.toNat nd0).kind = 13 → scHas th (p.nodes.getD c.toNat nd0).name = false) : Eqv (outOf p ks X) th := by
  intro q
  unfold outOf
  rw [scHas_filter2, h q, scFold_snd]
  cases hl : letIn p ks q
  · simp
  · simp only [Bool.or_true, Bool.not_true, Bool.and_false]
    unfold letIn at hl
    rw [List.any_eq_true] at hl
    obtain ⟨c, hc, h1⟩ := hl
    simp only [Bool.and_eq_true, decide_eq_true_eq] at h1
    have h2 := hg c hc h1.1
    have h3 : (p.nodes.getD c.toNat nd0).name = q := sameB_eq h1.2
    rw [h3] at h2
    exact h2.symm
theorem seeL_fold {p : Pg} {fn : Int} : ∀ (cs : List Int) (S th : List ByteArray), Eqv S th → (∀ c ∈ cs, ∀ S th, Eqv S th → Good p th c.toNat → Same (see p fn c.toNat S) (scStep p fn c.toNat th)) →
    cs.Pairwise (fun c d => ∀ j, Reach p.nodes d.toNat j → (p.nodes.getD j nd0).kind = 13 → (p.nodes.getD c.toNat nd0).kind = 13 → (p.nodes.getD c.toNat nd0).name ≠ (p.nodes.getD j nd0).name) → (∀ c ∈ cs, Good p th c.toNat) →
    Same (seeL (see p fn) cs S) (scFold (scStep p fn) cs th) := by
  intro cs
  induction cs with
  | nil => intro S th h _ _ _; exact ⟨rfl, fun _ => h⟩
  | cons c cs ih =>
    intro S th h hc hp hg
    have h1 := hc c (by simp) S th h (hg c (by simp))
    simp only [seeL, scFold]
    cases hs : (see p fn c.toNat S).1
    · have h2 := h1.1
      rw [hs] at h2
      rw [if_neg (by simp)]
      exact ⟨by rw [← h2]; rfl, fun h => by cases h⟩
    · have h2 := h1.1
      rw [hs] at h2
      rw [if_pos rfl, ← h2, Bool.true_and]
      have hpp := List.pairwise_cons.mp hp
      refine ih _ _ (h1.2 hs) (fun d hd => hc d (by simp [hd])) hpp.2 (fun d hd j hj h13 => ?_)
      have h3 := hg d (by simp [hd]) j hj h13
      rw [scStep_snd]
      split
      · rename_i hk
        rw [scHas_append, h3]
        have h4 := hpp.1 d hd j hj h13 hk
        simp only [scHas, List.any_cons, List.any_nil, Bool.or_false, Bool.false_or]
        exact sameB_ne h4
      · exact h3
theorem seeL_blks {p : Pg} {fn : Int} {f : Nat → Bool} {th : List ByteArray} : ∀ (bs : List Int) (S : List ByteArray), Eqv S th → (∀ b ∈ bs, ∀ S, Eqv S th → (see p fn b.toNat S).1 = f b.toNat ∧ ((see p fn b.toNat S).1 = true → Eqv (see p fn b.toNat S).2 th)) →
    (seeL (see p fn) bs S).1 = bs.all (fun b => f b.toNat) ∧ ((seeL (see p fn) bs S).1 = true → Eqv (seeL (see p fn) bs S).2 th) := by
  intro bs
  induction bs with
  | nil => intro S h _; exact ⟨rfl, fun _ => h⟩
  | cons b bs ih =>
    intro S h hb
    have h1 := hb b (by simp) S h
    simp only [seeL, List.all_cons]
    cases hs : (see p fn b.toNat S).1
    · rw [if_neg (by simp), ← h1.1, hs]
      exact ⟨rfl, fun h => by cases h⟩
    · rw [if_pos rfl, ← h1.1, hs, Bool.true_and]
      exact ih _ (h1.2 hs) (fun d hd => hb d (by simp [hd]))

end Go.Proofs.Ytjafneaaefpefaa

namespace Go.Proofs.Ytjafneaaefpefaa

theorem see_body {p : Pg} {fn : Int} (h : programOk p = true) (b : Nat)
    (U : ∀ i j, Reach p.nodes b i → Reach p.nodes b j → (p.nodes.getD i nd0).kind = 13 → (p.nodes.getD j nd0).kind = 13 → (p.nodes.getD i nd0).name = (p.nodes.getD j nd0).name → i = j) : ∀ k : Nat, k < p.nodes.length → Reach p.nodes b k →
    (isStm (p.nodes.getD k nd0).kind = true → ∀ S th, Eqv S th → Good p th k → Same (see p fn k S) (scStep p fn k th)) ∧
    ((p.nodes.getD k nd0).kind = 20 → ∀ S th, Eqv S th → Good p th k → Same (seeL (see p fn) (p.nodes.getD k nd0).kids S) (scBlk p fn k th)) := by
  have hl := prog_last h
  have HA := prog_ahead h
  intro k
  induction k using Nat.strongRecOn with
  | _ k ih =>
    intro hk hr
    have hok := deep_nodes (m := p.nodes.length - 1) (by omega) hl.2.2 k (by omega)
    have hkid : ∀ c ∈ (p.nodes.getD k nd0).kids, 0 ≤ c ∧ c < (k : Int) ∧ ((c.toNat : Nat) : Int) = c ∧ Reach p.nodes k c.toNat := fun c hc => by
      have h2 := HA k (by omega) c hc
      have h3 : ((c.toNat : Nat) : Int) = c := by omega
      exact ⟨h2.1, h2.2, h3, .step .self (by rw [h3]; exact hc)⟩
    constructor
    · intro hv S th hE hG
      have hSK := stmKids hok hv
      rw [see_eq HA (by omega), scStep_eq HA (by omega)]
      generalize hx : p.nodes.getD k nd0 = x at hkid hSK ⊢
      obtain ⟨v, bs, hvb⟩ : ∃ v bs, x.kids = v :: bs := by
        cases hh : x.kids with
        | nil => have := hSK.some; rw [hh] at this; simp at this
        | cons v bs => exact ⟨v, bs, rfl⟩
      have hvk := hkid v (by rw [hvb]; simp)
      have hvv : isVal (p.nodes.getD v.toNat nd0).kind = true := by have := hSK.val; rw [hvb] at this; simpa using this
      have hsv := see_val (fn := fn) h v.toNat (by omega) hvv S
      rw [scVal_eqv hE] at hsv
      have hst := hSK.stm
      have hcase : x.kind = 13 ∨ x.kind = 14 ∨ x.kind = 15 ∨ (x.kind = 16 ∨ x.kind = 17) ∨ x.kind = 18 ∨ x.kind = 19 := by omega
      have hone : x.kind ≠ 16 → x.kind ≠ 17 → bs = [] := fun h1 h2 => by
        have := hSK.one h1 h2
        rw [hvb] at this
        exact List.eq_nil_of_length_eq_zero (by simpa using this)
      have hblk : ∀ c ∈ bs, (p.nodes.getD c.toNat nd0).kind = 20 := fun c hc => by
        obtain ⟨j, hj, hjc⟩ := List.getElem_of_mem hc
        have h1 := hSK.blk (j + 1) (by omega) (by rw [hvb]; simp; omega)
        rw [hvb] at h1
        simp only [List.getD_cons_succ] at h1
        rw [show bs.getD j 0 = c by simp [List.getD, hj, hjc]] at h1
        exact h1
      unfold seeX scBody
      rw [hvb]
      simp only [seeL, hsv, List.getD_cons_zero, List.drop_one, List.tail_cons]
      generalize hV : scVal p fn th v.toNat = V
      rcases hcase with e | e | e | e | e | e
      · have hb := hone (by omega) (by omega)
        subst hb
        have ho : seeOk p fn x S = true := by unfold seeOk usesK; simp [e]
        rw [if_pos ho, if_pos e]
        cases V
        · exact ⟨rfl, fun h => by cases h⟩
        · refine ⟨rfl, fun _ => ?_⟩
          simp only [seeL, if_true]
          unfold seeEnd
          rw [if_pos e]
          exact eqv_append hE _
      · have hb := hone (by omega) (by omega)
        subst hb
        have ho : seeOk p fn x S = scHas th x.name := by unfold seeOk usesK; simp [e, hE x.name]
        have hse : seeEnd p x S = S := by unfold seeEnd; rw [if_neg (by omega), if_neg (by omega)]
        rw [ho, if_neg (show ¬ x.kind = 13 by omega), if_pos (show x.kind = 14 ∨ x.kind = 15 by omega)]
        generalize scHas th x.name = W
        cases V <;> cases W <;> refine ⟨by simp [seeL], fun h => ?_⟩ <;> first | (simp [seeL] at h; done) | (simp only [seeL, if_true, hse]; exact hE)
      · have hb := hone (by omega) (by omega)
        subst hb
        have ho : seeOk p fn x S = scHas th x.name := by unfold seeOk usesK; simp [e, hE x.name]
        have hse : seeEnd p x S = S := by unfold seeEnd; rw [if_neg (by omega), if_neg (by omega)]
        rw [ho, if_neg (show ¬ x.kind = 13 by omega), if_pos (show x.kind = 14 ∨ x.kind = 15 by omega)]
        generalize scHas th x.name = W
        cases V <;> cases W <;> refine ⟨by simp [seeL], fun h => ?_⟩ <;> first | (simp [seeL] at h; done) | (simp only [seeL, if_true, hse]; exact hE)
      · have ho : seeOk p fn x S = true := by unfold seeOk usesK; rcases e with e | e <;> simp [e]
        rw [if_pos ho, if_neg (show ¬ x.kind = 13 by omega), if_neg (show ¬ (x.kind = 14 ∨ x.kind = 15) by omega), if_pos e]
        have hB := seeL_blks (p := p) (fn := fn) (f := fun c => (scBlk p fn c th).1) (th := th) bs S hE (fun c hc S' hE' => by
          have hck := hkid c (by rw [hvb]; simp [hc])
          have h20 := hblk c hc
          have hGc : Good p th c.toNat := fun j hj h13 => hG j (hck.2.2.2.trans hj) h13
          have h1 := (ih c.toNat (by omega) (by omega) (hr.trans hck.2.2.2)).2 h20 S' th hE' hGc
          rw [see_eq HA (by omega)]
          unfold seeX
          have ho : seeOk p fn (p.nodes.getD c.toNat nd0) S' = true := by unfold seeOk usesK; simp only [h20]; rfl
          rw [if_pos ho]
          cases hq : (seeL (see p fn) (p.nodes.getD c.toNat nd0).kids S').1
          · rw [if_neg (by simp)]
            have h2 := h1.1
            rw [hq] at h2
            exact ⟨h2, fun h => by cases h⟩
          · rw [if_pos rfl]
            have h2 := h1.1
            rw [hq] at h2
            refine ⟨h2, fun _ => ?_⟩
            unfold seeEnd
            rw [if_neg (by omega), if_pos h20]
            refine out_again (fn := fn) (h1.2 hq) (fun d hd h13 => hGc d.toNat (.step .self ?_) h13)
            have := HA c.toNat (by omega) d hd
            rw [show ((d.toNat : Nat) : Int) = d by omega]
            exact hd)
        cases V
        · exact ⟨rfl, fun h => by cases h⟩
        · simp only [if_true]
          cases hq : (seeL (see p fn) bs S).1
          · rw [if_neg (by simp)]
            have h2 := hB.1
            rw [hq] at h2
            exact ⟨by simpa using h2, fun h => by cases h⟩
          · rw [if_pos rfl]
            have h2 := hB.1
            rw [hq] at h2
            refine ⟨by simpa using h2, fun _ => ?_⟩
            unfold seeEnd
            rw [if_neg (by omega), if_neg (by omega)]
            exact hB.2 hq
      · have hb := hone (by omega) (by omega)
        subst hb
        have ho : seeOk p fn x S = true := by unfold seeOk usesK; simp [e]
        have hse : seeEnd p x S = S := by unfold seeEnd; rw [if_neg (by omega), if_neg (by omega)]
        rw [if_pos ho, if_neg (show ¬ x.kind = 13 by omega), if_neg (show ¬ (x.kind = 14 ∨ x.kind = 15) by omega), if_neg (show ¬ (x.kind = 16 ∨ x.kind = 17) by omega)]
        cases V <;> refine ⟨by simp [seeL], fun h => ?_⟩ <;> first | (simp [seeL] at h; done) | (simp only [seeL, if_true, hse]; exact hE)
      · have hb := hone (by omega) (by omega)
        subst hb
        have ho : seeOk p fn x S = true := by unfold seeOk usesK; simp [e]
        have hse : seeEnd p x S = S := by unfold seeEnd; rw [if_neg (by omega), if_neg (by omega)]
        rw [if_pos ho, if_neg (show ¬ x.kind = 13 by omega), if_neg (show ¬ (x.kind = 14 ∨ x.kind = 15) by omega), if_neg (show ¬ (x.kind = 16 ∨ x.kind = 17) by omega)]
        cases V <;> refine ⟨by simp [seeL], fun h => ?_⟩ <;> first | (simp [seeL] at h; done) | (simp only [seeL, if_true, hse]; exact hE)
    · intro h20 S th hE hG
      have hbk := blk_kids hok h20
      show Same _ (scFold (scStep p fn) (p.nodes.getD k nd0).kids th)
      refine seeL_fold _ S th hE (fun c hc S' th' hE' hG' => ?_) ?_ (fun c hc j hj h13 => hG j ((hkid c hc).2.2.2.trans hj) h13)
      · have hck := hkid c hc
        exact (ih c.toNat (by omega) (by omega) (hr.trans hck.2.2.2)).1 (hbk.2 c hc) S' th' hE' hG'
      · rw [List.pairwise_iff_getElem]
        intro i j hi hj hij u hu h13 hk13 hn
        have hci := hkid _ (List.getElem_mem hi)
        have hcj := hkid _ (List.getElem_mem hj)
        have he := U _ _ (hr.trans hci.2.2.2) ((hr.trans hcj.2.2.2).trans hu) hk13 h13 hn
        have hne : (p.nodes.getD k nd0).kids[i] ≠ (p.nodes.getD k nd0).kids[j] := by
          unfold nodeOk at hok
          simp only [Bool.and_eq_true, Int.toNat_natCast] at hok
          have h1 := kidsTo_at hok.2 j hj
          unfold kidOk at h1
          simp only [Bool.and_eq_true, Bool.not_eq_true'] at h1
          have h2 := h1.2
          intro e
          have h3 : (p.nodes.getD k nd0).kids.getD j 0 = (p.nodes.getD k nd0).kids[j] := getD_at hj
          rw [h3, ← e] at h2
          have h4 : (p.nodes.getD k nd0).kids[i] ∈ (p.nodes.getD k nd0).kids.take j := List.mem_take_iff_getElem.mpr ⟨i, by omega, rfl⟩
          simp at h2
          exact absurd h4 (by simpa using h2)
        refine kids_apart h hk (a := (p.nodes.getD k nd0).kids[i].toNat) (b := (p.nodes.getD k nd0).kids[j].toNat) (j := u) (by rw [hci.2.2.1]; exact List.getElem_mem hi) (by rw [hcj.2.2.1]; exact List.getElem_mem hj) (fun e => hne (by omega)) (by rw [he]; exact Reach.self) hu

end Go.Proofs.Ytjafneaaefpefaa
