/-
  Chapter 7, plainly: the nodes under two, ascending; those that use a name. No program, no world.
  VarsOf, in the model: params, then what is let under the Body.
  Under, in the program: what it answers at every program and every place.
  The nodes under the Body and the Ret of a function, ascending, in the model.
  UsesOf, in the model: which of the nodes under a function use a name.
  Rows of numbers of the call's own: stored over, sorted, without what comes twice, cut short: in the library's words and in these texts'.
  UsesOf's helpers, in the program and in the library: the test that it hands over, rows joined, elements struck.
  slices.DeleteFunc with UsesOf's test, slices.Grow of nothing, slices.Concat of two rows of numbers.
  slices.Grow of nothing, slices.Concat of two rows of numbers.
  strings.Clone: the same text, in new memory.
  VarsOf, in the program: params, then what is let under the Body, each with a name of its own.
  UsesOf, in the program: the nodes under the Body and the Ret, sorted, each once, without those that do not use the name.
  Rows of Node marked, as the laws do it. Written by mkmark.py.
  Rows of Param marked, as the laws do it. Written by mkmark.py.
  Rows of Fn marked, as the laws do it. Written by mkmark.py.
  Programs marked, as the laws do it: only blocks of the program turn.
  The law of Under: at every program and every place it answers true.
  The law of UsesOf: at every program, every place and every name it answers true.
  A program that came in, opened.
-/
import Derived.Test.YtljphnjmeckpbaaGreatPlain33
import Derived.Test.YtljphnjmeckpbaaGreatUnderS
import Derived.Test.YtljphnjmeckpbaaGreatRowVar
import Derived.Test.YtljphnjmeckpbaaGreatAppRA
import Derived.Test.YtljphnjmeckpbaaGreatShelf
import Derived.Lib.SortBridge
import Derived.Lib.SliceRun
import Derived.Test.YtljphnjmeckpbaaGreatCopyS0
import Derived.Lib.AppendZeros
import Derived.Laws.AppendOwnNone
import Derived.Test.YtljphnjmeckpbaaGreatChecked
import Derived.Test.YtljphnjmeckpbaaGreatKit
import Derived.Test.YtljphnjmeckpbaaGreatRowNode
import Derived.Test.YtljphnjmeckpbaaGreatMarkInt
import Derived.Test.YtljphnjmeckpbaaGreatRowParam
import Derived.Test.YtljphnjmeckpbaaGreatRowFn
import Derived.Test.YtljphnjmeckpbaaGreatRowProgram
import Derived.Test.YtljphnjmeckpbaaGreatBox
namespace Go.Proofs.YtljphnjmeckpbaaGreat

/-- What lies in either of two rows, ascending, each once. -/
def AllIn (xs ys zs : List Int) : Prop := zs.Pairwise (· < ·) ∧ ∀ x, x ∈ zs ↔ x ∈ xs ∨ x ∈ ys
theorem allIn_one {xs ys zs us : List Int} (h1 : AllIn xs ys zs) (h2 : AllIn xs ys us) : zs = us :=
  sorted_ext h1.1 h2.1 (fun x => (h1.2 x).trans (h2.2 x).symm)
/-- A row, ascending, each once. -/
def upL : List Int → List Int
  | [] => []
  | x :: xs => (upL xs).filter (· < x) ++ x :: (upL xs).filter (x < ·)
theorem upL_mem : ∀ (xs : List Int) (x : Int), x ∈ upL xs ↔ x ∈ xs := by
  intro xs
  induction xs with
  | nil => intro x; rfl
  | cons y xs ih =>
    intro x
    simp only [upL, List.mem_append, List.mem_cons, List.mem_filter, ih, decide_eq_true_eq]
    constructor
    · rintro (⟨h, _⟩ | h | ⟨h, _⟩)
      · exact .inr h
      · exact .inl h
      · exact .inr h
    · rintro (h | h)
      · exact .inr (.inl h)
      · rcases Int.lt_trichotomy x y with h1 | h1 | h1
        · exact .inl ⟨h, h1⟩
        · exact .inr (.inl h1)
        · exact .inr (.inr ⟨h, h1⟩)
theorem upL_asc : ∀ xs : List Int, (upL xs).Pairwise (· < ·) := by
  intro xs
  induction xs with
  | nil => exact List.Pairwise.nil
  | cons y xs ih =>
    simp only [upL]
    rw [List.pairwise_append]
    refine ⟨ih.filter _, ?_, ?_⟩
    · rw [List.pairwise_cons]
      refine ⟨fun a ha => ?_, ih.filter _⟩
      have := (List.mem_filter.mp ha).2
      simpa using this
    · intro a ha b hb
      have h1 := (List.mem_filter.mp ha).2
      simp at h1
      rcases List.mem_cons.mp hb with rfl | hb
      · exact h1
      · have h2 := (List.mem_filter.mp hb).2
        simp at h2
        omega
def allL (xs ys : List Int) : List Int := upL (xs ++ ys)
theorem allL_in (xs ys : List Int) : AllIn xs ys (allL xs ys) := ⟨upL_asc _, fun x => by unfold allL; rw [upL_mem, List.mem_append]⟩
theorem underL_asc (ns : List Nd) (k : Int) : (underL ns k).Pairwise (· < ·) := by
  rcases underL_ans ns k with ⟨_, h⟩ | ⟨_, h⟩
  · rw [h]
    exact List.Pairwise.nil
  · exact h.1
theorem asc_at {xs : List Int} (h : xs.Pairwise (· < ·)) {i j : Nat} (hj : j < xs.length) (hi : i < j) : xs[i] < xs[j] :=
  List.pairwise_iff_getElem.mp h i j (by omega) hj hi

/-- Two ascending rows on the way to one. -/
structure Mrg (A B : List Int) (i k : Nat) (zs : List Int) : Prop where
  asc : zs.Pairwise (· < ·)
  sub : ∀ x ∈ zs, x ∈ A ∨ x ∈ B
  inA : ∀ j, (hj : j < A.length) → j < i → A[j] ∈ zs
  inB : ∀ j, (hj : j < B.length) → j < k → B[j] ∈ zs
  ltA : ∀ x ∈ zs, ∀ j, (hj : j < A.length) → i ≤ j → x < A[j]
  ltB : ∀ x ∈ zs, ∀ j, (hj : j < B.length) → k ≤ j → x < B[j]
  len : zs.length ≤ i + k
theorem Mrg.start (A B : List Int) : Mrg A B 0 0 [] := ⟨List.Pairwise.nil, by simp, by intros; omega, by intros; omega, by simp, by simp, by simp⟩
theorem Mrg.done {A B zs : List Int} {i k : Nat} (h : Mrg A B i k zs) (hi : A.length ≤ i) (hk : B.length ≤ k) : zs = allL A B := by
  refine allIn_one (xs := A) (ys := B) ⟨h.asc, fun x => ⟨h.sub x, ?_⟩⟩ (allL_in A B)
  rintro (hx | hx)
  · obtain ⟨j, hj, rfl⟩ := List.getElem_of_mem hx
    exact h.inA j hj (by omega)
  · obtain ⟨j, hj, rfl⟩ := List.getElem_of_mem hx
    exact h.inB j hj (by omega)
theorem mrg_snoc {zs : List Int} {y : Int} (h : zs.Pairwise (· < ·)) (hy : ∀ x ∈ zs, x < y) : (zs ++ [y]).Pairwise (· < ·) := by
  rw [List.pairwise_append]
  exact ⟨h, by simp, fun a ha b hb => by simp at hb; rw [hb]; exact hy a ha⟩
theorem Mrg.fromA {A B zs : List Int} {i k : Nat} (h : Mrg A B i k zs) (hA : A.Pairwise (· < ·)) (hB : B.Pairwise (· < ·)) (hi : i < A.length) (hk : ∀ hk : k < B.length, A[i] < B[k]) : Mrg A B (i + 1) k (zs ++ [A[i]]) := by
  refine ⟨mrg_snoc h.asc (fun x hx => h.ltA x hx i hi (Nat.le_refl _)), ?_, ?_, ?_, ?_, ?_, by have := h.len; simp; omega⟩
  · intro x hx
    rcases List.mem_append.mp hx with hx | hx
    · exact h.sub x hx
    · simp at hx
      rw [hx]
      exact .inl (List.getElem_mem hi)
  · intro j hj hji
    by_cases e : j = i
    · subst e
      simp
    · exact List.mem_append_left _ (h.inA j hj (by omega))
  · intro j hj hjk
    exact List.mem_append_left _ (h.inB j hj hjk)
  · intro x hx j hj hij
    rcases List.mem_append.mp hx with hx | hx
    · exact h.ltA x hx j hj (by omega)
    · simp at hx
      rw [hx]
      exact asc_at hA hj (by omega)
  · intro x hx j hj hkj
    rcases List.mem_append.mp hx with hx | hx
    · exact h.ltB x hx j hj hkj
    · simp at hx
      rw [hx]
      have h1 := hk (by omega)
      by_cases e : j = k
      · subst e
        exact h1
      · have := asc_at hB hj (show k < j by omega)
        omega
theorem Mrg.fromB {A B zs : List Int} {i k : Nat} (h : Mrg A B i k zs) (hA : A.Pairwise (· < ·)) (hB : B.Pairwise (· < ·)) (hk : k < B.length) (hi : ∀ hi : i < A.length, B[k] < A[i]) : Mrg A B i (k + 1) (zs ++ [B[k]]) := by
  refine ⟨mrg_snoc h.asc (fun x hx => h.ltB x hx k hk (Nat.le_refl _)), ?_, ?_, ?_, ?_, ?_, by have := h.len; simp; omega⟩
  · intro x hx
    rcases List.mem_append.mp hx with hx | hx
    · exact h.sub x hx
    · simp at hx
      rw [hx]
      exact .inr (List.getElem_mem hk)
  · intro j hj hji
    exact List.mem_append_left _ (h.inA j hj hji)
  · intro j hj hjk
    by_cases e : j = k
    · subst e
      simp
    · exact List.mem_append_left _ (h.inB j hj (by omega))
  · intro x hx j hj hij
    rcases List.mem_append.mp hx with hx | hx
    · exact h.ltA x hx j hj hij
    · simp at hx
      rw [hx]
      have h1 := hi (by omega)
      by_cases e : j = i
      · subst e
        exact h1
      · have := asc_at hA hj (show i < j by omega)
        omega
  · intro x hx j hj hkj
    rcases List.mem_append.mp hx with hx | hx
    · exact h.ltB x hx j hj (by omega)
    · simp at hx
      rw [hx]
      exact asc_at hB hj (by omega)
theorem Mrg.both {A B zs : List Int} {i k : Nat} (h : Mrg A B i k zs) (hA : A.Pairwise (· < ·)) (hB : B.Pairwise (· < ·)) (hi : i < A.length) (hk : k < B.length) (he : A[i] = B[k]) : Mrg A B (i + 1) (k + 1) (zs ++ [B[k]]) := by
  refine ⟨mrg_snoc h.asc (fun x hx => h.ltB x hx k hk (Nat.le_refl _)), ?_, ?_, ?_, ?_, ?_, by have := h.len; simp; omega⟩
  · intro x hx
    rcases List.mem_append.mp hx with hx | hx
    · exact h.sub x hx
    · simp at hx
      rw [hx]
      exact .inr (List.getElem_mem hk)
  · intro j hj hji
    by_cases e : j = i
    · subst e
      rw [he]
      simp
    · exact List.mem_append_left _ (h.inA j hj (by omega))
  · intro j hj hjk
    by_cases e : j = k
    · subst e
      simp
    · exact List.mem_append_left _ (h.inB j hj (by omega))
  · intro x hx j hj hij
    rcases List.mem_append.mp hx with hx | hx
    · exact h.ltA x hx j hj (by omega)
    · simp at hx
      rw [hx, ← he]
      exact asc_at hA hj (by omega)
  · intro x hx j hj hkj
    rcases List.mem_append.mp hx with hx | hx
    · exact h.ltB x hx j hj (by omega)
    · simp at hx
      rw [hx]
      exact asc_at hB hj (by omega)
theorem upL_len : ∀ xs : List Int, (upL xs).length ≤ xs.length := by
  intro xs
  induction xs with
  | nil => simp [upL]
  | cons x xs ih =>
    simp only [upL, List.length_append, List.length_cons]
    have h1 : ∀ ys : List Int, (ys.filter (· < x)).length + (ys.filter (x < ·)).length ≤ ys.length := by
      intro ys
      induction ys with
      | nil => simp
      | cons y ys ih2 =>
        simp only [List.filter_cons]
        by_cases a : y < x
        · have b : ¬ x < y := by omega
          simp [a, b]
          omega
        · by_cases b : x < y
          · simp [a, b]
            omega
          · simp [a, b]
            omega
    have := h1 (upL xs)
    omega
theorem allL_len (xs ys : List Int) : (allL xs ys).length ≤ xs.length + ys.length := by
  have := upL_len (xs ++ ys)
  rw [List.length_append] at this
  exact this

/-- The seven kinds that use a name. -/
def usesK (k : Int) : Bool := decide (k = 2) || decide (k = 3) || decide (k = 4) || decide (k = 5) || decide (k = 6) || decide (k = 14) || decide (k = 15)
def usesB (ns : List Nd) (name : ByteArray) (k : Int) : Bool := usesK (ns.getD k.toNat nd0).kind && sameB (ns.getD k.toNat nd0).name name
def usesF (ns : List Nd) (name : ByteArray) (zs : List Int) : List Int := zs.filter (usesB ns name)
def allOf (p : Pg) (fn : Int) : List Int := if isIn fn 0 ((p.fns.length : Int) - 1) = true then allL (underL p.nodes (p.fns.getD fn.toNat fc1).body) (underL p.nodes (p.fns.getD fn.toNat fc1).ret) else []
def usesOf (p : Pg) (fn : Int) (name : ByteArray) : List Int := usesF p.nodes name (allOf p fn)
theorem usesF_take (ns : List Nd) (name : ByteArray) (zs : List Int) (i : Nat) (h : i < zs.length) : usesF ns name (zs.take (i + 1)) = usesF ns name (zs.take i) ++ (if usesB ns name zs[i] = true then [zs[i]] else []) := by
  unfold usesF
  rw [List.take_succ_eq_append_getElem h, List.filter_append]
  congr 1
  cases hu : usesB ns name zs[i] <;> simp [List.filter, hu]
theorem allOf_in {p : Pg} {fn x : Int} (h : x ∈ allOf p fn) : 0 ≤ x ∧ x < (p.nodes.length : Int) := by
  unfold allOf at h
  split at h
  · rcases ((allL_in _ _).2 x).mp h with h | h
    · have := underL_in h
      exact ⟨this.1, this.2.2.1⟩
    · have := underL_in h
      exact ⟨this.1, this.2.2.1⟩
  · simp at h

end Go.Proofs.YtljphnjmeckpbaaGreat

namespace Go.Proofs.YtljphnjmeckpbaaGreat
open Go.RowKit

/-- A row of vars that the call owns. -/
def OwnsV (w : World) (B : Nat) (v : Value) (xs : List Vr) : Prop := OwnsR vrC 3 w B 47 v xs
theorem cell_eq {w w' : World} {b : Nat} (h : w'.heap[b]? = w.heap[b]?) (j : Nat) : w'.cell? ⟨b, j, none⟩ = w.cell? ⟨b, j, none⟩ := by
  simp only [World.cell?, h]
theorem isIn_iff (x a b : Int) : isIn x a b = true ↔ a ≤ x ∧ x ≤ b := by simp [isIn]
theorem vrC_len (x : Vr) : (vrC x).length = 3 := rfl
theorem vrC_ones (x : Vr) : ∀ u ∈ vrC x, u.oneCell' = true := by
  intro u hu
  simp [vrC] at hu
  rcases hu with rfl | rfl | rfl <;> rfl
theorem owns_emptyV (w : World) : OwnsV (w.alloc (.cells #[] 47)) w.heap.size (.slice (some ⟨w.heap.size, 0, none⟩) 0 0) [] :=
  ⟨rfl, .inr ⟨w.heap.size, 0, #[], rfl, Nat.le_refl _, heap_alloc_new _ _, Nat.le_refl _, Nat.zero_le _, rfl, rfl⟩⟩
theorem underAns_L (ns : List Nd) (k : Int) : UnderAns ns k (underL ns k) := by
  rcases underL_ans ns k with h | h
  · exact .inl h
  · exact .inr h
theorem OwnsV.form {w : World} {B : Nat} {v : Value} {xs : List Vr} (h : OwnsV w B v xs) (hx : xs ≠ []) : ∃ g cap, v = .slice (some ⟨g, 0, none⟩) xs.length cap := by
  rcases OwnsR.form h with ⟨_, h0⟩ | ⟨g, cap, h1, _⟩
  · exact absurd h0 hx
  · exact ⟨g, cap, h1⟩

theorem OwnsI.blk {w : World} {B g n cap : Nat} {xs : List Int} (h : OwnsI w B (.slice (some ⟨g, 0, none⟩) n cap) xs) : ∃ cs : Array Value, w.heap[g]? = some (.cells cs 3 (0, 0)) := by
  obtain ⟨_, h2⟩ := h
  rcases h2 with ⟨h0, _⟩ | ⟨g', cap', cur, hv, _, hg', _⟩
  · cases h0
  · cases hv
    exact ⟨_, hg'⟩
theorem OwnsV.ne {w : World} {B g : Nat} {v : Value} {xs : List Vr} {cs : Array Value} {T : TypeId} {fr : Nat × Nat} (h : OwnsV w B v xs) (hg : w.heap[g]? = some (.cells cs T fr)) (hT : T ≠ 47) : some g ≠ v.ownBlock := by
  intro e
  obtain ⟨_, h2⟩ := h
  rcases h2 with ⟨rfl, _⟩ | ⟨g', cap, cur, rfl, _, hg', _⟩
  · simp [Value.ownBlock] at e
  · have : g = g' := by simpa [Value.ownBlock] using e
    subst this
    rw [hg] at hg'
    injection hg' with h1
    injection h1 with _ h2
    exact hT h2

/-- Where VarsOf stands: what it has gathered, and the blocks that it made ahead. -/
structure VSt (w : World) (g2 : Nat) (bo fo : Array Value) (Tb Tf : TypeId) (wr : World) (o : Value) (xs : List Vr) : Prop where
  own : OwnsV wr w.heap.size o xs
  bel : Below w.heap.size w wr
  box : wr.heap[w.heap.size]? = some (.cells bo Tb (0, 0))
  blk : wr.heap[g2]? = some (.cells fo Tf (0, 0))
  nb : Tb ≠ 47
  nf : Tf ≠ 47
theorem VSt.lt2 {w : World} {g2 : Nat} {bo fo : Array Value} {Tb Tf : TypeId} {wr : World} {o : Value} {xs : List Vr} (h : VSt w g2 bo fo Tb Tf wr o xs) : g2 < wr.heap.size := by
  rcases Nat.lt_or_ge g2 wr.heap.size with h' | h'
  · exact h'
  · have := h.blk
    simp [Array.getElem?_eq_none h'] at this
theorem VSt.lt {w : World} {g2 : Nat} {bo fo : Array Value} {Tb Tf : TypeId} {wr : World} {o : Value} {xs : List Vr} (h : VSt w g2 bo fo Tb Tf wr o xs) : w.heap.size < wr.heap.size := by
  rcases Nat.lt_or_ge w.heap.size wr.heap.size with h' | h'
  · exact h'
  · have := h.box
    simp [Array.getElem?_eq_none h'] at this
theorem VSt.below {w : World} {g2 : Nat} {bo fo : Array Value} {Tb Tf : TypeId} {wr wn : World} {o : Value} {xs : List Vr} (h : VSt w g2 bo fo Tb Tf wr o xs) (hb : Below wr.heap.size wr wn) : VSt w g2 bo fo Tb Tf wn o xs :=
  ⟨OwnsR.below h.own hb, h.bel.trans (hb.mono h.bel.size), (hb.block _ h.lt).trans h.box, (hb.block _ h.lt2).trans h.blk, h.nb, h.nf⟩
theorem VSt.grown {w : World} {g2 : Nat} {bo fo : Array Value} {Tb Tf : TypeId} {wr wn : World} {o o2 : Value} {xs ys : List Vr} (h : VSt w g2 bo fo Tb Tf wr o xs) (hg : wr.grownBy wn o.ownBlock) (ho : OwnsV wn w.heap.size o2 ys) : VSt w g2 bo fo Tb Tf wn o2 ys :=
  ⟨ho, h.bel.grown hg h.bel.size (fun k hk => (OwnsR.lt h.own k (by simp [fpOf, hk])).1), (hg.block _ h.lt (h.own.ne h.box h.nb)).trans h.box, (hg.block _ h.lt2 (h.own.ne h.blk h.nf)).trans h.blk, h.nb, h.nf⟩

set_option maxRecDepth 100000 in
set_option maxHeartbeats 6400000 in
theorem specVarsOf_any (v0 v1 : Value) (p : Pg) (fn : Int) (w : World) (hR : RowPg w w.heap.size v0 v1 p) (hl : szPg p ≤ 1048576) :
    Calls Tryz.prog 19 #[.agg #[v0, v1], .int .i64 fn] w fun e w' => (∃ g cap, e = .returned (.slice (some ⟨g, 0, none⟩) (varsOf p fn).length cap) ∧ OwnsV w' w.heap.size (.slice (some ⟨g, 0, none⟩) (varsOf p fn).length cap) (varsOf p fn) ∧ (varsOf p fn).length ≤ 2097152) ∧ Below w.heap.size w w' := by
  obtain ⟨na, nc, rfl⟩ := hR.1.len
  obtain ⟨fa, fcap, rfl⟩ := hR.2.len
  obtain ⟨N, HN⟩ : ∃ N, Hid (p.nodes.length = N) := ⟨_, (rfl : p.nodes.length = p.nodes.length)⟩
  obtain ⟨F, HF⟩ : ∃ N, Hid (p.fns.length = N) := ⟨_, (rfl : p.fns.length = p.fns.length)⟩
  have HV : Hid (RowPg w w.heap.size (.slice na N nc) (.slice fa F fcap) p) := by rw [← HN.out, ← HF.out]; exact hR
  have HL : Hid (szRow szNd p.nodes ≤ 1048576 ∧ szRow szFc p.fns ≤ 1048576) := ⟨Nat.le_trans (le_szPg_nodes p) hl, Nat.le_trans (le_szPg_fns p) hl⟩
  have hNl : N ≤ 1048576 := by have := len_szRow szNd p.nodes; have := HN.out; have := HL.out.1; omega
  have hFl : F ≤ 1048576 := by have := len_szRow szFc p.fns; have := HF.out; have := HL.out.2; omega
  rw [HN.out, HF.out]
  clear hR hl
  by_cases hin : 0 ≤ fn ∧ fn ≤ (F : Int) - 1
  rotate_left
  · have HE : Hid (varsOf p fn = []) := by
      show _ = _
      unfold varsOf
      rw [HF.out, if_neg]
      rw [isIn_iff]
      exact hin
    rw [HE.out]
    have cL : Hid (∀ W, Calls Tryz.prog 45 #[.int .i64 fn, .int .i64 0, .int .i64 ((F : Int) - 1)] W fun e w' => e = .returned (.bool false) ∧ w' = W) := fun W => l01In_no fn 0 ((F : Int) - 1) W (by omega)
    clear HV hin
    go_enter Tryz.func19, Tryz.ntmps19
    go_wp2_with fail
    go_at_call 45
    refine Calls.mono (cL.out _) ?_
    rintro e w1 ⟨rfl, rfl⟩
    have HO := owns_emptyV (w.alloc (.cells #[.slice na N nc, .slice fa F fcap] 31))
    go_wp2
    go_ret
    have hz : (w.alloc (.cells #[.slice na N nc, .slice fa F fcap] 31)).heap.size = w.heap.size + 1 := by simp
    rw [hz] at HO
    exact ⟨⟨_, _, rfl, owns_base HO (by omega), by simp⟩, by go_grown⟩
  obtain ⟨m, rfl⟩ : ∃ m : Nat, fn = (m : Int) := ⟨fn.toNat, by omega⟩
  have hmF : m < F := by omega
  have hmf : m < p.fns.length := by have := HF.out; omega
  have cL : Hid (∀ W, Calls Tryz.prog 45 #[.int .i64 (m : Int), .int .i64 0, .int .i64 ((F : Int) - 1)] W fun e w' => e = .returned (.bool true) ∧ w' = W) := fun W => l01In_yes (m : Int) 0 ((F : Int) - 1) W (by omega) (by omega)
  obtain ⟨b, off, pv, rfl, hb, c0, c1, c2, c3, c4, hP⟩ := FcR.at HV.out.2 m hmf
  have HE : Hid (varsOf p (m : Int) = varsIn p.nodes p.fns[m]) := by
    show _ = _
    unfold varsOf
    rw [HF.out, if_pos (by rw [isIn_iff]; omega)]
    simp [List.getD, hmf]
  have hqs : szFc p.fns[m] ≤ 1048576 := Nat.le_trans (mem_szRow szFc (List.getElem_mem hmf)) HL.out.2
  obtain ⟨q, hq⟩ : ∃ q, Hid (p.fns[m] = q) := ⟨_, (rfl : p.fns[m] = p.fns[m])⟩
  rw [hq.out] at c0 c2 c3 c4 hP HE hqs
  rw [HE.out]
  obtain ⟨fn, fp, fr, fb, ft⟩ := q
  obtain ⟨pa, pc, rfl⟩ := hP.len
  simp only at c0 c1 c2 c3 c4 hP
  have hK : fp.length ≤ 1048576 := by
    have h1 : szRow szPm fp ≤ szFc ⟨fn, fp, fr, fb, ft⟩ := le_szFc_params ⟨fn, fp, fr, fb, ft⟩
    have h2 := len_szRow szPm fp
    omega
  obtain ⟨K, HK⟩ : ∃ K, Hid (fp.length = K) := ⟨_, (rfl : fp.length = fp.length)⟩
  rw [HK.out] at c1 hP hK
  have HP : Hid (PmR.Row w w.heap.size (.slice pa K pc) fp) := hP
  have hkb : b < w.heap.size := hb
  have cU : Hid (∀ W, Below w.heap.size w W → Calls Tryz.prog 49 #[.agg #[.slice na N nc, .slice (some ⟨b, off, none⟩) F fcap], .int .i64 fb] W fun e w' => (∃ g cap, e = .returned (.slice (some ⟨g, 0, none⟩) (underL p.nodes fb).length cap) ∧ OwnsI w' W.heap.size (.slice (some ⟨g, 0, none⟩) (underL p.nodes fb).length cap) (underL p.nodes fb) ∧ (underL p.nodes fb).length ≤ 1048576) ∧ Below W.heap.size W w') := fun W hW => by
    refine (specUnder_any _ _ p.nodes fb W ((HV.out.1.keep hW).up hW.size) HL.out.1).mono ?_
    rintro e w' ⟨⟨g, cap, xs, he, ho, ha, hx⟩, hb⟩
    obtain rfl := underAns_one ha (underAns_L p.nodes fb)
    exact ⟨⟨g, cap, he, ho, hx⟩, hb⟩
  clear hb hqs hP
  go_enter Tryz.func19, Tryz.ntmps19
  go_wp2_with fail
  go_at_call 45
  refine Calls.mono (cL.out _) ?_
  rintro e w1 ⟨rfl, rfl⟩
  have H0 : Hid (VSt w (w.heap.size + 2) #[.slice na N nc, .slice (some ⟨b, off, none⟩) F fcap] #[.string fn, .slice pa K pc, .int .i64 fr, .int .i64 fb, .int .i64 ft] 31 54 (((w.alloc (.cells #[.slice na N nc, .slice (some ⟨b, off, none⟩) F fcap] 31)).alloc (.cells #[] 47)).alloc (.cells #[.string fn, .slice pa K pc, .int .i64 fr, .int .i64 fb, .int .i64 ft] 54)) (.slice (some ⟨w.heap.size + 1, 0, none⟩) 0 0) []) := by
    have HO := owns_emptyV (w.alloc (.cells #[.slice na N nc, .slice (some ⟨b, off, none⟩) F fcap] 31))
    have hz : (w.alloc (.cells #[.slice na N nc, .slice (some ⟨b, off, none⟩) F fcap] 31)).heap.size = w.heap.size + 1 := by simp
    rw [hz] at HO
    refine ⟨owns_base (OwnsR.below HO (by go_grown)) (by omega), by go_grown, ?_, ?_, by decide, by decide⟩
    · rw [Below.heap_alloc _ _ _ (by simp; omega), Below.heap_alloc _ _ _ (by simp)]
      exact heap_alloc_new _ _
    · exact third_new w _ _ _
  clear cL
  go_wp2_with fail
  go_loopw [5, 7] (fun o i wr => ∃ (t og oc : Nat), t ≤ K ∧ i = .int .i64 (t : Int) ∧ o = .slice (some ⟨og, 0, none⟩) t oc ∧ Hid (VSt w (w.heap.size + 2) #[.slice na N nc, .slice (some ⟨b, off, none⟩) F fcap] #[.string fn, .slice pa K pc, .int .i64 fr, .int .i64 fb, .int .i64 ft] 31 54 wr (.slice (some ⟨og, 0, none⟩) t oc) ((fp.take t).map parV))) (fun _ i _ => K - (intOf i).toNat)
  case atStart => exact ⟨0, _, _, Nat.zero_le _, rfl, rfl, H0.out⟩
  case round =>
    obtain ⟨t, og, oc, ht, rfl, rfl, HJ⟩ := hrel
    have f0 := cell_at HJ.out.blk 1
    simp at f0
    have hsz := HJ.out.bel.size
    by_cases hlt : t < K
    · have ht0 : (0 : Int) ≤ (t : Int) := by omega
      have ht1 : (t : Int) < (K : Int) := by omega
      have htp : t < fp.length := by have := HK.out; omega
      obtain ⟨pb, po, rfl, hpb, e0, e1⟩ := PmR.at HP.out t htp
      obtain ⟨x, hx⟩ : ∃ x, Hid (fp[t] = x) := ⟨_, (rfl : fp[t] = fp[t])⟩
      rw [hx.out] at e0 e1
      have d0 := (HJ.out.bel.cell (p := ⟨pb, po + t * 2, none⟩) hpb).trans e0
      have d1 := (HJ.out.bel.cell (p := ⟨pb, po + t * 2 + 1, none⟩) hpb).trans e1
      obtain ⟨xn, xt⟩ := x
      simp only at d0 d1
      have hpbr : pb < wr.heap.size := by omega
      have h2r := HJ.out.lt2
      have HNx : Hid ((fp.take (t + 1)).map parV = (fp.take t).map parV ++ [⟨xn, xt, -1⟩]) := by
        show _ = _
        rw [List.take_succ_eq_append_getElem htp, List.map_append, hx.out]
        rfl
      have hpl : ((fp.take t).map parV).length ≤ 10000000 := by
        rw [List.length_map, List.length_take]
        omega
      have hBA : Below wr.heap.size wr (wr.alloc (.cells #[.string xn, .int .i64 xt, .int .i64 (-1)] 47)).drew := by go_grown
      have HA : Hid (VSt w (w.heap.size + 2) #[.slice na N nc, .slice (some ⟨b, off, none⟩) F fcap] #[.string fn, .slice (some ⟨pb, po, none⟩) K pc, .int .i64 fr, .int .i64 fb, .int .i64 ft] 31 54 (wr.alloc (.cells #[.string xn, .int .i64 xt, .int .i64 (-1)] 47)).drew (.slice (some ⟨og, 0, none⟩) t oc) ((fp.take t).map parV)) := HJ.out.below hBA
      have hne2 : some (w.heap.size + 2) ≠ (Value.slice (some ⟨og, 0, none⟩) t oc).ownBlock := HJ.out.own.ne HJ.out.blk HJ.out.nf
      have hneb : some pb ≠ (Value.slice (some ⟨og, 0, none⟩) t oc).ownBlock := fun e => by have := (OwnsR.lt HJ.out.own pb (by simp [fpOf, ← e])).1; omega
      have hBs : w.heap.size ≤ (wr.alloc (.cells #[.string xn, .int .i64 xt, .int .i64 (-1)] 47)).drew.heap.size := HA.out.bel.size
      clear e0 e1
      go_wp2_with fail
      go_region_held3 (fun w' => w'.cell? ⟨w.heap.size + 2, 1, none⟩ = some (.slice (some ⟨pb, po, none⟩) K pc) ∧ w'.cell? ⟨pb, po + t * 2, none⟩ = some (.string xn) ∧ w'.cell? ⟨pb, po + t * 2 + 1, none⟩ = some (.int .i64 xt)) (first | exact ⟨u0, u1, u2⟩ | exact ⟨f0, d0, d1⟩ | go_keep) ((refine step_appendRA (enc := vrC) (k := 3) vrC_len rfl _ _ 43 rfl w.heap.size 47 _ 32 Tryz.underlying43 Tryz.infoVr rfl (by decide) HA.out.own ⟨xn, xt, -1⟩ (vrC_ones _) wr.heap.size (0, 0) (heap_alloc_new wr _) rfl rfl hpl (by omega) hBs ?_; intro v5 w5 hown5 hg5 hat5 hv5; obtain ⟨g5, cap5, rfl⟩ := hv5; have u0 := (cell_eq (hg5.block _ (Nat.lt_of_lt_of_le h2r hBA.size) hne2) 1).trans ((hBA.cell (p := ⟨w.heap.size + 2, 1, none⟩) h2r).trans f0); have u1 := (cell_eq (hg5.block _ (Nat.lt_of_lt_of_le hpbr hBA.size) hneb) (po + t * 2)).trans ((hBA.cell (p := ⟨pb, po + t * 2, none⟩) hpbr).trans d0); have u2 := (cell_eq (hg5.block _ (Nat.lt_of_lt_of_le hpbr hBA.size) hneb) (po + t * 2 + 1)).trans ((hBA.cell (p := ⟨pb, po + t * 2 + 1, none⟩) hpbr).trans d1)))
      have HF5 := HA.out.grown hg5 hown5
      have hXl : ((fp.take t).map parV).length = t := by
        rw [List.length_map, List.length_take]
        omega
      have HJ5 : Hid (VSt w (w.heap.size + 2) #[.slice na N nc, .slice (some ⟨b, off, none⟩) F fcap] #[.string fn, .slice (some ⟨pb, po, none⟩) K pc, .int .i64 fr, .int .i64 fb, .int .i64 ft] 31 54 w5 (.slice (some ⟨g5, 0, none⟩) (t + 1) cap5) ((fp.take (t + 1)).map parV)) := by
        rw [HNx.out]
        rw [hXl] at HF5
        exact HF5
      have HXl : Hid (((fp.take t).map parV).length = t) := hXl
      clear hown5 hg5 hat5 HF5 hXl u0 u1 u2 hne2 hneb hBs hBA HA HNx HJ f0 d0 d1
      go_wp2
      go_roundw
      case rel => exact ⟨t + 1, g5, cap5, by omega, by go_num, by first | rw [HXl.out] | (have := HK.out; simp; omega), HJ5⟩
      case measure => simp [intOf]; omega
    · have htK : t = K := by omega
      subst htK
      have H1 : Hid (VSt w (w.heap.size + 2) #[.slice na N nc, .slice (some ⟨b, off, none⟩) F fcap] #[.string fn, .slice pa t pc, .int .i64 fr, .int .i64 fb, .int .i64 ft] 31 54 wr (.slice (some ⟨og, 0, none⟩) t oc) (fp.map parV)) := by
        have h1 := HJ.out
        rw [List.take_of_length_le (by have := HK.out; omega)] at h1
        exact h1
      have f3 := cell_at HJ.out.blk 3
      have x0 := cell_at HJ.out.box 0
      have x1 := cell_at HJ.out.box 1
      simp at f3 x0 x1
      clear HJ H0
      go_wp2_with fail
      go_at_call 49
      refine Calls.mono (cU.out _ H1.out.bel) ?_
      rintro e w3 ⟨⟨gs, cs, rfl, hos, hxl⟩, hb3⟩
      have H3 : Hid (VSt w (w.heap.size + 2) #[.slice na N nc, .slice (some ⟨b, off, none⟩) F fcap] #[.string fn, .slice pa t pc, .int .i64 fr, .int .i64 fb, .int .i64 ft] 31 54 w3 (.slice (some ⟨og, 0, none⟩) t oc) (fp.map parV)) := H1.out.below hb3
      obtain ⟨xs, hxs⟩ : ∃ xs, Hid (underL p.nodes fb = xs) := ⟨_, (rfl : underL p.nodes fb = underL p.nodes fb)⟩
      rw [hxs.out] at hos hxl ⊢
      obtain ⟨X, HX⟩ : ∃ X, Hid (xs.length = X) := ⟨_, (rfl : xs.length = xs.length)⟩
      rw [HX.out] at hos hxl ⊢
      have HO3 : Hid (OwnsI w3 w.heap.size (.slice (some ⟨gs, 0, none⟩) X cs) xs) := owns_base hos H1.out.bel.size
      have HIn : Hid (∀ x ∈ xs, 0 ≤ x ∧ x < (p.nodes.length : Int)) := fun x hx => by
        rw [← hxs.out] at hx
        have := underL_in hx
        exact ⟨this.1, this.2.2.1⟩
      have HEnd : Hid (varsIn p.nodes ⟨fn, fp, fr, fb, ft⟩ = fp.map parV ++ lets p.nodes xs) := by
        show _ = _
        unfold varsIn
        rw [hxs.out]
      clear hos hb3 cU H1 f0 f3 x0 x1
      go_wp2_with fail
      go_loopw [5, 9] (fun o i wr => ∃ (s qg qc ql : Nat), s ≤ X ∧ i = .int .i64 (s : Int) ∧ o = .slice (some ⟨qg, 0, none⟩) ql qc ∧ ql ≤ 2097152 ∧ Hid (VSt w (w.heap.size + 2) #[.slice na N nc, .slice (some ⟨b, off, none⟩) F fcap] #[.string fn, .slice pa t pc, .int .i64 fr, .int .i64 fb, .int .i64 ft] 31 54 wr (.slice (some ⟨qg, 0, none⟩) ql qc) (fp.map parV ++ lets p.nodes (xs.take s)) ∧ OwnsI wr w.heap.size (.slice (some ⟨gs, 0, none⟩) X cs) xs ∧ ql = (fp.map parV ++ lets p.nodes (xs.take s)).length)) (fun _ i _ => X - (intOf i).toNat)
      case atStart => exact ⟨0, _, _, _, Nat.zero_le _, rfl, rfl, by omega, by simpa [lets] using H3.out, HO3.out, by simp [lets]; have := HK.out; omega⟩
      case round =>
        obtain ⟨s, qg, qc, ql, hs, rfl, rfl, hql, HQ⟩ := hrel
        have x0 := cell_at HQ.out.1.box 0
        simp at x0
        have hsz := HQ.out.1.bel.size
        by_cases hsl : s < X
        · have hs0 : (0 : Int) ≤ (s : Int) := by omega
          have hs1 : (s : Int) < (X : Int) := by omega
          have hsx : s < xs.length := by have := HX.out; omega
          obtain ⟨ib, io, hie, hib, e0⟩ := RowI.at (RowI.up HQ.out.2.1.row (Nat.le_refl _)) s hsx
          cases hie
          simp only [Nat.zero_add] at e0
          have hxj := HIn.out xs[s] (List.getElem_mem hsx)
          obtain ⟨j, hj⟩ : ∃ j : Nat, Hid (xs[s] = (j : Int)) := ⟨xs[s].toNat, (by show _ = _; omega)⟩
          rw [hj.out] at e0 hxj
          have hjN : j < N := by have := HN.out; omega
          have hjl : j < p.nodes.length := by have := HN.out; omega
          have hj0 : (0 : Int) ≤ (j : Int) := by omega
          have hj1 : (j : Int) < (N : Int) := by omega
          have hLT : Hid (lets p.nodes (xs.take (s + 1)) = lets p.nodes (xs.take s) ++ (if (p.nodes.getD j nd0).kind = 13 then [letV p.nodes (j : Int)] else [])) := by
            show _ = _
            rw [lets_take p.nodes xs s hsx, hj.out, Int.toNat_natCast]
          obtain ⟨nb, no, ka, kc, rfl, hnb, n0, n1, n2, n3, _⟩ := RowNd.at HV.out.1 j hjl
          have hgd : p.nodes.getD j nd0 = p.nodes[j] := by simp [List.getD, hjl]
          rw [hgd] at hLT
          have hlv : letV p.nodes (j : Int) = ⟨p.nodes[j].name, 0, (j : Int)⟩ := by
            unfold letV
            rw [Int.toNat_natCast, hgd]
          rw [hlv] at hLT
          obtain ⟨nx, hnx⟩ : ∃ nx, Hid (p.nodes[j].name = nx) := ⟨_, (rfl : p.nodes[j].name = p.nodes[j].name)⟩
          obtain ⟨kx, hkx⟩ : ∃ kx, Hid (p.nodes[j].kind = kx) := ⟨_, (rfl : p.nodes[j].kind = p.nodes[j].kind)⟩
          rw [hkx.out] at n0 hLT
          rw [hnx.out] at n2 hLT
          have d0 := (HQ.out.1.bel.cell (p := ⟨nb, no + j * 4, none⟩) hnb).trans n0
          have d2 := (HQ.out.1.bel.cell (p := ⟨nb, no + j * 4 + 2, none⟩) hnb).trans n2
          clear n0 n1 n2 n3 hgd hlv hxj
          by_cases hk : kx = 13
          · rw [if_pos hk] at hLT
            have HNx : Hid (fp.map parV ++ lets p.nodes (xs.take (s + 1)) = (fp.map parV ++ lets p.nodes (xs.take s)) ++ [⟨nx, 0, (j : Int)⟩]) := by
              show _ = _
              rw [hLT.out, List.append_assoc]
            go_wp2_with (go_quiet (fail))
            have hpl : (fp.map parV ++ lets p.nodes (xs.take s)).length ≤ 10000000 := by rw [← HQ.out.2.2]; omega
            have hBA : Below wr.heap.size wr ((wr.drewN (nq + 1)).alloc (.cells #[.string nx, .int .i64 0, .int .i64 (j : Int)] 47)) := (below_grown (grown_drewN wr (nq + 1))).alloc (Nat.le_refl _) _
            have HA : Hid (VSt w (w.heap.size + 2) #[.slice (some ⟨nb, no, none⟩) N nc, .slice (some ⟨b, off, none⟩) F fcap] #[.string fn, .slice pa t pc, .int .i64 fr, .int .i64 fb, .int .i64 ft] 31 54 ((wr.drewN (nq + 1)).alloc (.cells #[.string nx, .int .i64 0, .int .i64 (j : Int)] 47)) (.slice (some ⟨qg, 0, none⟩) ql qc) (fp.map parV ++ lets p.nodes (xs.take s))) := HQ.out.1.below hBA
            have HAo : Hid (OwnsR vrC 3 ((wr.drewN (nq + 1)).alloc (.cells #[.string nx, .int .i64 0, .int .i64 (j : Int)] 47)) w.heap.size 47 (.slice (some ⟨qg, 0, none⟩) ql qc) (fp.map parV ++ lets p.nodes (xs.take s))) := HA.out.own
            have HI2 : Hid (OwnsI ((wr.drewN (nq + 1)).alloc (.cells #[.string nx, .int .i64 0, .int .i64 (j : Int)] 47)) w.heap.size (.slice (some ⟨gs, 0, none⟩) X cs) xs) := OwnsR.below HQ.out.2.1 hBA
            have hne0 : some w.heap.size ≠ (Value.slice (some ⟨qg, 0, none⟩) ql qc).ownBlock := HQ.out.1.own.ne HQ.out.1.box HQ.out.1.nb
            have hneg : some gs ≠ (Value.slice (some ⟨qg, 0, none⟩) ql qc).ownBlock := by
              obtain ⟨cu, hcu⟩ := OwnsI.blk HQ.out.2.1
              exact HQ.out.1.own.ne hcu (by decide)
            have hnen : some nb ≠ (Value.slice (some ⟨qg, 0, none⟩) ql qc).ownBlock := fun e => by have := (OwnsR.lt HQ.out.1.own nb (by simp [fpOf, ← e])).1; omega
            have h0r : w.heap.size < wr.heap.size := HQ.out.1.lt
            have hgr : gs < wr.heap.size := hib
            have hnr : nb < wr.heap.size := by omega
            have hBs : w.heap.size ≤ ((wr.drewN (nq + 1)).alloc (.cells #[.string nx, .int .i64 0, .int .i64 (j : Int)] 47)).heap.size := HA.out.bel.size
            have hql2 : (fp.map parV ++ lets p.nodes (xs.take s)).length + 1 ≤ 2097152 := by
              have h1 := lets_len p.nodes (xs.take (s + 1))
              rw [hLT.out, List.length_append, List.length_singleton, List.length_take] at h1
              rw [List.length_append, List.length_map]
              have := HK.out
              omega
            clear hLT
            go_region_held3 (fun w' => w'.cell? ⟨w.heap.size, 0, none⟩ = some (.slice (some ⟨nb, no, none⟩) N nc) ∧ w'.cell? ⟨gs, s, none⟩ = some (.int .i64 (j : Int)) ∧ w'.cell? ⟨nb, no + j * 4 + 2, none⟩ = some (.string nx)) (first | exact ⟨u0, u1, u2⟩ | exact ⟨x0, e0, d2⟩ | go_keep) ((refine step_appendRA (enc := vrC) (k := 3) vrC_len rfl _ _ 43 rfl w.heap.size 47 _ 32 Tryz.underlying43 Tryz.infoVr rfl (by decide) HAo.out ⟨nx, 0, (j : Int)⟩ (vrC_ones _) wr.heap.size (0, 0) (heap_alloc_new (wr.drewN (nq + 1)) _) rfl rfl hpl (by omega) hBs ?_; intro v5 w5 hown5 hg5 hat5 hv5; obtain ⟨g5, cap5, rfl⟩ := hv5; have u0 := (cell_eq (hg5.block _ (Nat.lt_of_lt_of_le h0r hBA.size) hne0) 0).trans ((hBA.cell (p := ⟨w.heap.size, 0, none⟩) h0r).trans x0); have u1 := (cell_eq (hg5.block _ (Nat.lt_of_lt_of_le hgr hBA.size) hneg) s).trans ((hBA.cell (p := ⟨gs, s, none⟩) hgr).trans e0); have u2 := (cell_eq (hg5.block _ (Nat.lt_of_lt_of_le hnr hBA.size) hnen) (no + j * 4 + 2)).trans ((hBA.cell (p := ⟨nb, no + j * 4 + 2, none⟩) hnr).trans d2)))
            have HF5 := HA.out.grown hg5 hown5
            have HJ5 : Hid (VSt w (w.heap.size + 2) #[.slice (some ⟨nb, no, none⟩) N nc, .slice (some ⟨b, off, none⟩) F fcap] #[.string fn, .slice pa t pc, .int .i64 fr, .int .i64 fb, .int .i64 ft] 31 54 w5 (.slice (some ⟨g5, 0, none⟩) (ql + 1) cap5) (fp.map parV ++ lets p.nodes (xs.take (s + 1))) ∧ OwnsI w5 w.heap.size (.slice (some ⟨gs, 0, none⟩) X cs) xs ∧ ql + 1 = (fp.map parV ++ lets p.nodes (xs.take (s + 1))).length) := by
              rw [HNx.out]
              refine ⟨?_, OwnsR.kept HI2.out hg5 (.inr (fun e => hneg e)), ?_⟩
              · rw [← HQ.out.2.2] at HF5
                exact HF5
              · rw [List.length_append (bs := [_]), ← HQ.out.2.2]
                rfl
            have HQL : Hid ((fp.map parV ++ lets p.nodes (xs.take s)).length = ql) := HQ.out.2.2.symm
            clear hown5 hg5 hat5 HF5 u0 u1 u2 hne0 hneg hnen hBs hBA HA HNx HQ x0 e0 d0 d2 HI2 HAo
            go_wp2
            go_roundw
            case rel => exact ⟨s + 1, g5, cap5, ql + 1, by omega, by go_num, by first | rw [HQL.out] | (have := HQL.out; simp at this; simp; omega), by have := HQL.out; omega, HJ5⟩
            case measure => simp [intOf]; omega
          · rw [if_neg hk, List.append_nil] at hLT
            have HJ5 : Hid (VSt w (w.heap.size + 2) #[.slice (some ⟨nb, no, none⟩) N nc, .slice (some ⟨b, off, none⟩) F fcap] #[.string fn, .slice pa t pc, .int .i64 fr, .int .i64 fb, .int .i64 ft] 31 54 wr (.slice (some ⟨qg, 0, none⟩) ql qc) (fp.map parV ++ lets p.nodes (xs.take (s + 1))) ∧ OwnsI wr w.heap.size (.slice (some ⟨gs, 0, none⟩) X cs) xs ∧ ql = (fp.map parV ++ lets p.nodes (xs.take (s + 1))).length) := by
              rw [hLT.out]
              exact HQ.out
            clear HQ hLT
            go_wp2_with (go_quiet (fail))
            go_roundw
            case rel => exact ⟨s + 1, qg, qc, ql, by omega, by go_num, rfl, hql, HJ5.out.1.below (below_grown (grown_drewN wr nq)), OwnsR.below HJ5.out.2.1 (below_grown (grown_drewN wr nq)), HJ5.out.2.2⟩
            case measure => simp [intOf]; omega
        · have HZ : Hid (OwnsV wr w.heap.size (.slice (some ⟨qg, 0, none⟩) ql qc) (varsIn p.nodes ⟨fn, fp, fr, fb, ft⟩) ∧ Below w.heap.size w wr ∧ (varsIn p.nodes ⟨fn, fp, fr, fb, ft⟩).length = ql ∧ ql ≤ 2097152) := by
            have h1 := HQ.out
            rw [List.take_of_length_le (by have := HX.out; omega), ← HEnd.out] at h1
            exact ⟨h1.1.own, h1.1.bel, h1.2.2.symm, hql⟩
          clear HQ x0
          go_wp2
          go_ret
          refine ⟨⟨qg, qc, ?_, ?_, ?_⟩, HZ.out.2.1⟩
          · rw [HZ.out.2.2.1]
            rfl
          · rw [HZ.out.2.2.1]
            exact HZ.out.1
          · rw [HZ.out.2.2.1]
            exact HZ.out.2.2.2

end Go.Proofs.YtljphnjmeckpbaaGreat

namespace Go.Proofs.YtljphnjmeckpbaaGreat
open Go.RowKit

/-- What is known going back from node m to node t. -/
def Back (ns : List Nd) (m t : Nat) (bs : List Bool) : Prop := bs.length = m + 1 ∧ ∀ j, bs.getD j false = true ↔ j = m ∨ ∃ i, t ≤ i ∧ Reach ns m i ∧ (j : Int) ∈ (ns.getD i nd0).kids
theorem back_at {ns : List Nd} {m t : Nat} {bs : List Bool} (H : Ahead ns m) (h : Back ns m (t + 1) bs) : bs.getD t false = true ↔ Reach ns m t := by
  rw [h.2]
  constructor
  · rintro (rfl | ⟨i, _, hi, hc⟩)
    · exact .self
    · exact .step hi hc
  · intro hr
    cases hr with
    | self => exact .inl rfl
    | step hi hc =>
      have := H _ (reach_le H (Nat.le_refl _) hi) _ hc
      exact .inr ⟨_, by omega, hi, hc⟩
theorem back_no {ns : List Nd} {m t : Nat} {bs : List Bool} (H : Ahead ns m) (h : Back ns m (t + 1) bs) (hb : bs.getD t false = false) : Back ns m t bs := by
  refine ⟨h.1, fun j => ?_⟩
  rw [h.2]
  constructor
  · rintro (e | ⟨i, h1, h2, h3⟩)
    · exact .inl e
    · exact .inr ⟨i, by omega, h2, h3⟩
  · rintro (e | ⟨i, h1, h2, h3⟩)
    · exact .inl e
    · rcases Nat.lt_or_ge t i with h4 | h4
      · exact .inr ⟨i, h4, h2, h3⟩
      · have : i = t := by omega
        subst this
        have := (back_at H h).mpr h2
        rw [hb] at this
        cases this
theorem back_yes {ns : List Nd} {m t : Nat} {bs b2 : List Bool} (H : Ahead ns m) (h : Back ns m (t + 1) bs) (hb : bs.getD t false = true) (hl : b2.length = m + 1) (h2 : ∀ j, b2.getD j false = true ↔ bs.getD j false = true ∨ (j : Int) ∈ (ns.getD t nd0).kids) : Back ns m t b2 := by
  refine ⟨hl, fun j => ?_⟩
  rw [h2, h.2]
  constructor
  · rintro ((e | ⟨i, h1, h2, h3⟩) | h3)
    · exact .inl e
    · exact .inr ⟨i, by omega, h2, h3⟩
    · exact .inr ⟨t, Nat.le_refl _, (back_at H h).mp hb, h3⟩
  · rintro (e | ⟨i, h1, h2, h3⟩)
    · exact .inl (.inl e)
    · rcases Nat.lt_or_ge t i with h4 | h4
      · exact .inl (.inr ⟨i, h4, h2, h3⟩)
      · have : i = t := by omega
        subst this
        exact .inr h3
theorem back_end {ns : List Nd} {m : Nat} {bs : List Bool} (h : Back ns m 0 bs) (j : Nat) : bs.getD j false = true ↔ Reach ns m j := by
  rw [h.2]
  constructor
  · rintro (rfl | ⟨i, _, hi, hc⟩)
    · exact .self
    · exact .step hi hc
  · intro hr
    cases hr with
    | self => exact .inl rfl
    | step hi hc => exact .inr ⟨_, Nat.zero_le _, hi, hc⟩

set_option maxRecDepth 100000 in
set_option maxHeartbeats 6400000 in
theorem implUnder_any (v0 v1 : Value) (ns : List Nd) (k : Int) (w : World) (hR : NdR.Row w w.heap.size v0 ns) (hl : szRow szNd ns ≤ 1048576) :
    Calls Tryz.prog 35 #[.agg #[v0, v1], .int .i64 k] w fun e w' => (∃ v xs, e = .returned v ∧ OwnsI w' w.heap.size v xs ∧ UnderAns ns k xs ∧ xs.length ≤ 1048576) ∧ Below w.heap.size w w' := by
  obtain ⟨na, nc, rfl⟩ := hR.len
  obtain ⟨N, HN⟩ : ∃ N, Hid (ns.length = N) := ⟨_, (rfl : ns.length = ns.length)⟩
  have HV : Hid (NdR.Row w w.heap.size (.slice na N nc) ns) := by rw [← HN.out]; exact hR
  have HL : Hid (szRow szNd ns ≤ 1048576) := hl
  have hNl : N ≤ 1048576 := by have := len_szRow szNd ns; have := HN.out; omega
  rw [HN.out]
  obtain ⟨d, hd⟩ : ∃ d, Hid (deepOf ns k = d) := ⟨_, (rfl : deepOf ns k = deepOf ns k)⟩
  have cD : Hid (∀ W, Below w.heap.size w W → Calls Tryz.prog 55 #[.slice na N nc, .int .i64 k] W fun e w' => e = .returned (.int .i64 d) ∧ Below W.heap.size W w') := fun W hW => by
    rw [← hd.out]
    exact implDeepOf_any _ ns _ W ((HV.out.keep hW).up hW.size) HL.out
  clear hR hl
  go_enter Tryz.func35, Tryz.ntmps35
  go_wp2_with fail
  go_at_call 55
  refine Calls.mono (cD.out _ (by go_grown)) ?_
  rintro e w1 ⟨rfl, hb1⟩
  have B1 : Hid (Box w (.cells #[.slice na N nc, v1] 31) w1) := (Box.first _ _).next hb1
  clear hb1 cD
  by_cases hd0 : d = 0
  · have HE : Hid (UnderAns ns k []) := .inl ⟨by rw [hd.out]; exact hd0, rfl⟩
    subst hd0
    go_wp2
    go_ret
    exact ⟨⟨_, [], rfl, ownsR_nil _ _ _ _ _, HE.out, by simp⟩, B1.out.below⟩
  have hne : deepOf ns k ≠ 0 := by rw [hd.out]; exact hd0
  have hkb := deep_in hne
  rw [HN.out] at hkb
  obtain ⟨m, rfl⟩ : ∃ m : Nat, k = (m : Int) := ⟨k.toNat, by omega⟩
  have hm : m < N := by omega
  have hd1 : (d == 0) = false := by simpa using hd0
  have HAh : Hid (Ahead ns m) := ahead_of (by rw [HN.out]; exact hm) hne
  have HNE : Hid (deepOf ns (m : Int) ≠ 0) := hne
  have hm0 : (0 : Int) ≤ (m : Int) := by omega
  have hm1 : (m : Int) < ((m + 1 : Nat) : Int) := by omega
  have hlt1 := B1.out.lt
  obtain ⟨i0, hi, hz0, hz1, hz2⟩ := info_parts Tryz.infoBool
  clear hne hkb hd0
  go_wp2_with (at_make; refine wpList_make_full _ rfl _ _ 97 rfl (w.heap.size + 1) 4 i0 _ 1 Tryz.underlying97 hi hz0 hz1 _ _ _ _ (m + 1) rfl rfl (by omega) (by omega) (by rw [hz2]; omega) (by unfold maxLen; omega) (by omega) ?_; intro w2 hown2 hg2; have B2 : Hid (Box w (.cells #[.slice na N nc, v1] 31) w2) := B1.out.next (below_grown hg2); have S2 : Hid (OwnsB w2 (w.heap.size + 1) (.slice (some ⟨w1.heap.size, 0, none⟩) (m + 1) (m + 1)) (List.replicate (m + 1) false)) := (by show OwnsB _ _ _ _; unfold OwnsB OwnsR; rw [List.length_replicate, ← zero_bools]; exact hown2); have c0 := OwnsB.cellAt S2.out (by simp) m (by simp) false (by simp [List.getD]); have f0 := OwnsB.freeAt S2.out (by simp) m)
  have S3 : Hid (OwnsB (w2.setCell ⟨w1.heap.size, m, none⟩ (.bool true)) (w.heap.size + 1) (.slice (some ⟨w1.heap.size, 0, none⟩) (m + 1) (m + 1)) ((List.replicate (m + 1) false).set m true) ∧ Back ns m (m + 1) ((List.replicate (m + 1) false).set m true)) := by
    refine ⟨OwnsB.set S2.out (by simp) m (by simp) true, by simp, fun j => ?_⟩
    rw [getB_set _ _ _ (by simp)]
    by_cases e : m = j
    · subst e
      simp
    · rw [if_neg e]
      have h0 : (List.replicate (m + 1) false).getD j false = false := by simp only [List.getD]; rw [List.getElem?_replicate]; split <;> rfl
      rw [h0]
      constructor
      · intro h
        cases h
      · rintro (h | ⟨i, h1, h2, _⟩)
        · exact absurd h.symm e
        · have := reach_le HAh.out (Nat.le_refl _) h2
          omega
  have B3 : Hid (Box w (.cells #[.slice na N nc, v1] 31) (w2.setCell ⟨w1.heap.size, m, none⟩ (.bool true))) := B2.out.setCell hlt1 _
  clear hi hz0 hz1 hz2 hown2 hg2 B1 B2 S2 c0 f0
  go_loopw [6] (fun i wr => ∃ t : Nat, t ≤ m + 1 ∧ i = .int .i64 ((t : Int) - 1) ∧ Hid (∃ bs : List Bool, OwnsB wr (w.heap.size + 1) (.slice (some ⟨w1.heap.size, 0, none⟩) (m + 1) (m + 1)) bs ∧ Back ns m t bs) ∧ Hid (Box w (.cells #[.slice na N nc, v1] 31) wr)) (fun i _ => (intOf i + 1).toNat)
  case atStart => exact ⟨m + 1, Nat.le_refl _, by go_num, ⟨_, S3.out.1, S3.out.2⟩, B3⟩
  case round =>
    obtain ⟨t, ht, rfl, HJ, BX⟩ := hrel
    clear S3 B3
    obtain ⟨bs, ho, hbk⟩ := HJ.out
    rcases Nat.eq_zero_or_pos t with rfl | hpos
    rotate_left
    · obtain ⟨u, rfl⟩ : ∃ u : Nat, t = u + 1 := ⟨t - 1, by omega⟩
      have hu0 : (0 : Int) ≤ (u : Int) := by omega
      have hu1 : (u : Int) < ((m + 1 : Nat) : Int) := by omega
      have huN : u < ns.length := by rw [HN.out]; omega
      have hui : (((u + 1 : Nat)) : Int) - 1 = (u : Int) := by omega
      rw [hui]
      obtain ⟨x, hx⟩ : ∃ x, Hid (bs.getD u false = x) := ⟨_, (rfl : bs.getD u false = bs.getD u false)⟩
      have c0 := OwnsB.cellAt ho hbk.1.symm u (by rw [hbk.1]; omega) x hx.out
      have HBk : Hid (OwnsB wr (w.heap.size + 1) (.slice (some ⟨w1.heap.size, 0, none⟩) (m + 1) (m + 1)) bs ∧ Back ns m (u + 1) bs) := ⟨ho, hbk⟩
      clear ho hbk hui HJ
      cases x
      · have HJ1 : Hid (∃ bs : List Bool, OwnsB wr (w.heap.size + 1) (.slice (some ⟨w1.heap.size, 0, none⟩) (m + 1) (m + 1)) bs ∧ Back ns m u bs) := ⟨bs, HBk.out.1, back_no HAh.out HBk.out.2 hx.out⟩
        clear HBk
        go_wp2
        go_roundw
        case rel => exact ⟨u, by omega, by go_num, HJ1, BX⟩
        case measure => first | (simp [intOf]; done) | (simp [intOf]; omega)
      · obtain ⟨b, off, ka, kc, rfl, hbb, _, _, _, c3, hK⟩ := RowNd.at HV.out u huN
        obtain ⟨ks, hks⟩ : ∃ ks, Hid (ns[u].kids = ks) := ⟨_, (rfl : ns[u].kids = ns[u].kids)⟩
        rw [hks.out] at c3 hK
        have HKS : Hid ((ns.getD u nd0).kids = ks) := by show _ = _; rw [← hks.out]; simp [List.getD, huN]
        obtain ⟨K, HK⟩ : ∃ K, Hid (ks.length = K) := ⟨_, (rfl : ks.length = ks.length)⟩
        rw [HK.out] at c3 hK
        have HI : Hid (RowI w w.heap.size (.slice ka K kc) ks) := hK
        have hKl : K ≤ 1048576 := by
          have h1 := Nat.le_trans (Nat.le_trans (le_szNd_kids ns[u]) (mem_szRow szNd (List.getElem_mem huN))) HL.out
          rw [hks.out, HK.out] at h1
          exact h1
        have d3 := (BX.out.below.cell (p := ⟨b, off + u * 4 + 3, none⟩) hbb).trans c3
        have q0 := BX.out.cell 0
        simp at q0
        clear c3 hK
        go_wp2_with fail
        go_loopw [39] (fun j wj => ∃ s : Nat, s ≤ K ∧ j = .int .i64 (s : Int) ∧ Hid (∃ b2 : List Bool, OwnsB wj (w.heap.size + 1) (.slice (some ⟨w1.heap.size, 0, none⟩) (m + 1) (m + 1)) b2 ∧ b2.length = m + 1 ∧ ∀ j, b2.getD j false = true ↔ bs.getD j false = true ∨ (j : Int) ∈ ks.take s) ∧ Hid (Box w (.cells #[.slice (some ⟨b, off, none⟩) N nc, v1] 31) wj)) (fun j _ => K - (intOf j).toNat)
        case atStart => exact ⟨0, Nat.zero_le _, rfl, ⟨bs, HBk.out.1, HBk.out.2.1, fun j => by simp⟩, BX⟩
        case round =>
          obtain ⟨s, hs, rfl, HJ2, BX2⟩ := hrel
          clear d3 q0 c0
          obtain ⟨b2, ho2, hl2, hi2⟩ := HJ2.out
          by_cases hsl : s < K
          · have hs0 : (0 : Int) ≤ (s : Int) := by omega
            have hs1 : (s : Int) < (K : Int) := by omega
            have hskl : s < ks.length := by have := HK.out; omega
            obtain ⟨kb, ko, rfl, hkb, e0⟩ := HI.out.at s hskl
            obtain ⟨c, hc⟩ : ∃ c, Hid (ks[s] = c) := ⟨_, (rfl : ks[s] = ks[s])⟩
            have f1 := (BX2.out.below.cell (p := ⟨kb, ko + s, none⟩) hkb).trans e0
            rw [hc.out] at f1
            have hcb : 0 ≤ c ∧ c < (u : Int) := HAh.out u (by omega) c (by rw [HKS.out, ← hc.out]; exact List.getElem_mem hskl)
            obtain ⟨cn, rfl⟩ : ∃ cn : Nat, c = (cn : Int) := ⟨c.toNat, by omega⟩
            have hc0 : (0 : Int) ≤ (cn : Int) := by omega
            have hc1 : (cn : Int) < ((m + 1 : Nat) : Int) := by omega
            have hcm : cn < m + 1 := by omega
            obtain ⟨y, hy⟩ : ∃ y, Hid (b2.getD cn false = y) := ⟨_, (rfl : b2.getD cn false = b2.getD cn false)⟩
            have g1 := OwnsB.cellAt ho2 hl2.symm cn (by rw [hl2]; exact hcm) y hy.out
            have g2 := OwnsB.freeAt ho2 hl2.symm cn
            have S4 : Hid (∃ b3 : List Bool, OwnsB (wr.setCell ⟨w1.heap.size, cn, none⟩ (.bool true)) (w.heap.size + 1) (.slice (some ⟨w1.heap.size, 0, none⟩) (m + 1) (m + 1)) b3 ∧ b3.length = m + 1 ∧ ∀ j, b3.getD j false = true ↔ bs.getD j false = true ∨ (j : Int) ∈ ks.take (s + 1)) := by
              refine ⟨b2.set cn true, OwnsB.set ho2 hl2.symm cn (by rw [hl2]; exact hcm) true, by rw [List.length_set]; exact hl2, fun j => ?_⟩
              rw [getB_set _ _ _ (by rw [hl2]; exact hcm), List.take_succ_eq_append_getElem hskl, hc.out]
              by_cases e : cn = j
              · subst e
                simp
              · rw [if_neg e, hi2]
                have : ¬ (j : Int) = (cn : Int) := by omega
                simp [this]
            have BX4 : Hid (Box w (.cells #[.slice (some ⟨b, off, none⟩) N nc, v1] 31) (wr.setCell ⟨w1.heap.size, cn, none⟩ (.bool true))) := BX2.out.setCell hlt1 _
            clear e0 hcb ho2 hl2 hi2 HJ2 BX2
            go_wp2
            go_roundw
            case rel => exact ⟨s + 1, by omega, by go_num, S4, BX4⟩
            case measure => simp [intOf]; omega
          · have HsK : Hid (s = K) := (by omega : s = K)
            have HJ1 : Hid (∃ bs : List Bool, OwnsB wr (w.heap.size + 1) (.slice (some ⟨w1.heap.size, 0, none⟩) (m + 1) (m + 1)) bs ∧ Back ns m u bs) := ⟨b2, ho2, back_yes HAh.out HBk.out.2 hx.out hl2 (fun j => by rw [hi2, HsK.out, ← HK.out, List.take_length, HKS.out])⟩
            clear ho2 hl2 hi2 HJ2 HBk
            go_wp2
            go_roundw
            case rel => exact ⟨u, by omega, by go_num, HJ1, BX2⟩
            case measure => first | (simp [intOf]; done) | (simp [intOf]; omega)
    · have HBs : Hid (∀ j, bs.getD j false = true ↔ Reach ns m j) := fun j => back_end hbk j
      have HO3 : Hid (OwnsB wr (w.heap.size + 1) (.slice (some ⟨w1.heap.size, 0, none⟩) (m + 1) (m + 1)) bs ∧ bs.length = m + 1 ∧ Below w.heap.size w wr) := ⟨ho, hbk.1, BX.out.below⟩
      clear ho hbk HJ BX
      rw [show (((0 : Nat)) : Int) - 1 = -1 from rfl]
      go_wp2_with fail
      go_loopw [9, 49] (fun o i wj => ∃ (t : Nat), t ≤ m + 1 ∧ i = .int .i64 (t : Int) ∧ Hid (OwnsI wj w.heap.size o (picks bs t) ∧ Below w.heap.size w wj ∧ OwnsB wj (w.heap.size + 1) (.slice (some ⟨w1.heap.size, 0, none⟩) (m + 1) (m + 1)) bs)) (fun _ i _ => m + 1 - (intOf i).toNat)
      case atStart => exact ⟨0, Nat.zero_le _, rfl, ownsR_nil _ _ _ _ _, HO3.out.2.2, HO3.out.1⟩
      case round =>
        obtain ⟨t, ht, rfl, HJ⟩ := hrel
        have hlen : (picks bs t).length ≤ 1048576 := Nat.le_trans (picks_len bs t) (by omega)
        by_cases hlt : t < m + 1
        · have ht0 : (0 : Int) ≤ (t : Int) := by omega
          have ht1 : (t : Int) < ((m + 1 : Nat) : Int) := by omega
          obtain ⟨x, hx⟩ : ∃ x, Hid (bs.getD t false = x) := ⟨_, (rfl : bs.getD t false = bs.getD t false)⟩
          have c0 := OwnsB.cellAt HJ.out.2.2 HO3.out.2.1.symm t (by rw [HO3.out.2.1]; exact hlt) x hx.out
          obtain ⟨hown, hBw, hbs⟩ := HJ.out
          have HBS : Hid (OwnsB wr (w.heap.size + 1) (.slice (some ⟨w1.heap.size, 0, none⟩) (m + 1) (m + 1)) bs ∧ (Value.slice (some ⟨w1.heap.size, 0, none⟩) (m + 1) (m + 1)).ownBlock ≠ u9.ownBlock) := ⟨hbs, (types_apart hbs hown (by decide)).elim (fun e => by cases e) id⟩
          have hsz := hBw.size
          cases x
          · have HP : Hid (picks bs (t + 1) = picks bs t) := picks_no hx.out
            clear hown hBw hbs
            go_wp2
            go_roundw
            case rel => exact ⟨t + 1, by omega, by go_num, by rw [HP.out]; exact HJ⟩
            case measure => simp [intOf]; omega
          · have HP : Hid (picks bs (t + 1) = picks bs t ++ [(t : Int)]) := picks_yes hx.out
            clear hbs HJ
            go_wp2_with (at_builtin; go_must (refine appendR inC_len rfl _ _ 35 rfl w.heap.size 3 _ 8 Tryz.underlying35 Tryz.infoInt rfl (by decide) hown (t : Int) (inC_ones _) rfl (by first | rfl | (simp [Act.eval]; done)) (by omega) (by omega) hsz ?_); intro v4 w4 hown4 hb4 hs4 hg4)
            have HN4 : Hid (OwnsI w4 w.heap.size v4 (picks bs (t + 1)) ∧ Below w.heap.size w w4 ∧ OwnsB w4 (w.heap.size + 1) (.slice (some ⟨w1.heap.size, 0, none⟩) (m + 1) (m + 1)) bs) := by
              have hk := OwnsR.kept HBS.out.1 hg4 (.inr HBS.out.2)
              exact ⟨by rw [HP.out]; exact hown4, hb4 w hBw, hk⟩
            clear hown4 hb4 hs4 hg4 hown hBw HBS
            go_wp2
            go_roundw
            case rel => exact ⟨t + 1, by omega, by go_num, HN4⟩
            case measure => simp [intOf]; omega
        · have htm : Hid (t = m + 1) := (by omega : t = m + 1)
          have HE : Hid (UnderAns ns (m : Int) (picks bs t)) := by
            refine .inr ⟨HNE.out, ?_⟩
            rw [Int.toNat_natCast]
            exact picks_under HBs.out (fun j hj => by have := reach_le HAh.out (Nat.le_refl _) hj; have := htm.out; omega)
          go_wp2
          go_ret
          exact ⟨⟨_, picks bs t, rfl, HJ.out.1, HE.out, hlen⟩, HJ.out.2.1⟩

end Go.Proofs.YtljphnjmeckpbaaGreat

namespace Go.Proofs.YtljphnjmeckpbaaGreat
open Go.RowKit

set_option maxRecDepth 100000 in
set_option maxHeartbeats 6400000 in
theorem l07All_any (v0 v1 : Value) (p : Pg) (fn : Int) (w : World) (hR : RowPg w w.heap.size v0 v1 p) (hl : szPg p ≤ 1048576) :
    Calls Tryz.prog 31 #[.agg #[v0, v1], .int .i64 fn] w fun e w' => (∃ g cap, e = .returned (.slice (some ⟨g, 0, none⟩) (allOf p fn).length cap) ∧ OwnsI w' w.heap.size (.slice (some ⟨g, 0, none⟩) (allOf p fn).length cap) (allOf p fn) ∧ (allOf p fn).length ≤ 2097152) ∧ Below w.heap.size w w' := by
  obtain ⟨na, nc, rfl⟩ := hR.1.len
  obtain ⟨fa, fcap, rfl⟩ := hR.2.len
  obtain ⟨N, HN⟩ : ∃ N, Hid (p.nodes.length = N) := ⟨_, (rfl : p.nodes.length = p.nodes.length)⟩
  obtain ⟨F, HF⟩ : ∃ N, Hid (p.fns.length = N) := ⟨_, (rfl : p.fns.length = p.fns.length)⟩
  have HV : Hid (RowPg w w.heap.size (.slice na N nc) (.slice fa F fcap) p) := by rw [← HN.out, ← HF.out]; exact hR
  have HL : Hid (szRow szNd p.nodes ≤ 1048576 ∧ szRow szFc p.fns ≤ 1048576) := ⟨Nat.le_trans (le_szPg_nodes p) hl, Nat.le_trans (le_szPg_fns p) hl⟩
  have hFl : F ≤ 1048576 := by have := len_szRow szFc p.fns; have := HF.out; have := HL.out.2; omega
  rw [HN.out, HF.out]
  clear hR hl
  by_cases hin : 0 ≤ fn ∧ fn ≤ (F : Int) - 1
  rotate_left
  · have HE : Hid (allOf p fn = []) := by
      show _ = _
      unfold allOf
      rw [HF.out, if_neg]
      rw [isIn_iff]
      exact hin
    rw [HE.out]
    have cL : Hid (∀ W, Calls Tryz.prog 45 #[.int .i64 fn, .int .i64 0, .int .i64 ((F : Int) - 1)] W fun e w' => e = .returned (.bool false) ∧ w' = W) := fun W => l01In_no fn 0 ((F : Int) - 1) W (by omega)
    clear HV hin
    go_enter Tryz.func31, Tryz.ntmps31
    go_wp2_with fail
    go_at_call 45
    refine Calls.mono (cL.out _) ?_
    rintro e w1 ⟨rfl, rfl⟩
    have HO := (owns_empty (w.alloc (.cells #[.slice na N nc, .slice fa F fcap] 31))).out
    go_wp2
    go_ret
    have hz : (w.alloc (.cells #[.slice na N nc, .slice fa F fcap] 31)).heap.size = w.heap.size + 1 := by simp
    rw [hz] at HO
    exact ⟨⟨_, _, rfl, owns_base HO (by omega), by simp⟩, by go_grown⟩
  obtain ⟨m, rfl⟩ : ∃ m : Nat, fn = (m : Int) := ⟨fn.toNat, by omega⟩
  have hmF : m < F := by omega
  have hmf : m < p.fns.length := by have := HF.out; omega
  have hm0 : (0 : Int) ≤ (m : Int) := by omega
  have hm1 : (m : Int) < (F : Int) := by omega
  have cL : Hid (∀ W, Calls Tryz.prog 45 #[.int .i64 (m : Int), .int .i64 0, .int .i64 ((F : Int) - 1)] W fun e w' => e = .returned (.bool true) ∧ w' = W) := fun W => l01In_yes (m : Int) 0 ((F : Int) - 1) W (by omega) (by omega)
  obtain ⟨b, off, pv, rfl, hkb, c0, c1, c2, c3, c4, hP⟩ := FcR.at HV.out.2 m hmf
  have HE : Hid (allOf p (m : Int) = allL (underL p.nodes p.fns[m].body) (underL p.nodes p.fns[m].ret)) := by
    show _ = _
    unfold allOf
    rw [HF.out, if_pos (by rw [isIn_iff]; omega)]
    simp [List.getD, hmf]
  obtain ⟨q, hq⟩ : ∃ q, Hid (p.fns[m] = q) := ⟨_, (rfl : p.fns[m] = p.fns[m])⟩
  rw [hq.out] at c3 c4 HE
  rw [HE.out]
  obtain ⟨fb, hfb⟩ : ∃ z, Hid (q.body = z) := ⟨_, (rfl : q.body = q.body)⟩
  obtain ⟨ft, hft⟩ : ∃ z, Hid (q.ret = z) := ⟨_, (rfl : q.ret = q.ret)⟩
  rw [hfb.out] at c3 ⊢
  rw [hft.out] at c4 ⊢
  obtain ⟨A, hA⟩ : ∃ A, Hid (underL p.nodes fb = A) := ⟨_, (rfl : underL p.nodes fb = underL p.nodes fb)⟩
  obtain ⟨C, hC⟩ : ∃ A, Hid (underL p.nodes ft = A) := ⟨_, (rfl : underL p.nodes ft = underL p.nodes ft)⟩
  have cU : Hid (∀ W k xs, Below w.heap.size w W → underL p.nodes k = xs → Calls Tryz.prog 49 #[.agg #[.slice na N nc, .slice (some ⟨b, off, none⟩) F fcap], .int .i64 k] W fun e w' => (∃ g cap, e = .returned (.slice (some ⟨g, 0, none⟩) xs.length cap) ∧ OwnsI w' W.heap.size (.slice (some ⟨g, 0, none⟩) xs.length cap) xs ∧ xs.length ≤ 1048576) ∧ Below W.heap.size W w') := fun W k xs hW hx => by
    subst hx
    refine (specUnder_any _ _ p.nodes k W ((HV.out.1.keep hW).up hW.size) HL.out.1).mono ?_
    rintro e w' ⟨⟨g, cap, xs, he, ho, ha, hx⟩, hb⟩
    obtain rfl := underAns_one ha (underAns_L p.nodes k)
    exact ⟨⟨g, cap, he, ho, hx⟩, hb⟩
  have HAs : Hid (A.Pairwise (· < ·) ∧ C.Pairwise (· < ·)) := ⟨by rw [← hA.out]; exact underL_asc _ _, by rw [← hC.out]; exact underL_asc _ _⟩
  rw [hA.out, hC.out]
  obtain ⟨X, HX⟩ : ∃ X, Hid (A.length = X) := ⟨_, (rfl : A.length = A.length)⟩
  obtain ⟨Y, HY⟩ : ∃ X, Hid (C.length = X) := ⟨_, (rfl : C.length = C.length)⟩
  have cU1 := cU.out
  clear c0 c1 c2 hP hq hfb hft
  go_enter Tryz.func31, Tryz.ntmps31
  go_wp2_with fail
  go_at_call 45
  refine Calls.mono (cL.out _) ?_
  rintro e w1 ⟨rfl, rfl⟩
  clear cL cU1
  have hz1 : w.heap.size + 2 ≤ ((w.alloc (.cells #[.slice na N nc, .slice (some ⟨b, off, none⟩) F fcap] 31)).alloc (.cells #[] 3)).heap.size := by simp
  generalize hW1 : (w.alloc (.cells #[.slice na N nc, .slice (some ⟨b, off, none⟩) F fcap] 31)).alloc (.cells #[] 3) = W1 at hz1 ⊢
  have B1 : Hid (Box w (.cells #[.slice na N nc, .slice (some ⟨b, off, none⟩) F fcap] 31) W1) := by rw [← hW1]; exact (Box.first _ _).alloc _
  have O1 : Hid (OwnsI W1 w.heap.size (.slice (some ⟨w.heap.size + 1, 0, none⟩) 0 0) []) := by
    have HO := (owns_empty (w.alloc (.cells #[.slice na N nc, .slice (some ⟨b, off, none⟩) F fcap] 31))).out
    have hz : (w.alloc (.cells #[.slice na N nc, .slice (some ⟨b, off, none⟩) F fcap] 31)).heap.size = w.heap.size + 1 := by simp
    rw [hz, hW1] at HO
    exact owns_base HO (by omega)
  clear hW1
  have x0 := B1.out.cell 0
  have x1 := B1.out.cell 1
  simp at x0 x1
  have e3 := (B1.out.below.cell (p := ⟨b, off + m * 5 + 3, none⟩) hkb).trans c3
  have hwl := B1.out.lt
  have hbl : b < W1.heap.size := by omega
  clear c3
  go_wp2_with fail
  go_region_held3 (fun w' => (w'.cell? ⟨w.heap.size, 0, none⟩ = some (.slice na N nc) ∧ w'.cell? ⟨w.heap.size, 1, none⟩ = some (.slice (some ⟨b, off, none⟩) F fcap)) ∧ w'.cell? ⟨b, off + m * 5 + 3, none⟩ = some (.int .i64 fb)) (first | exact ⟨⟨x0, x1⟩, e3⟩ | exact ⟨⟨(hb3.cell (p := ⟨w.heap.size, 0, none⟩) hwl).trans x0, (hb3.cell (p := ⟨w.heap.size, 1, none⟩) hwl).trans x1⟩, (hb3.cell (p := ⟨b, off + m * 5 + 3, none⟩) hbl).trans e3⟩ | go_keep) ((go_at_call 49; refine Calls.mono (cU.out _ _ _ B1.out.below.drew hA.out) ?_; rintro e w3 ⟨⟨gs, cs, rfl, hos, hxl⟩, hb3⟩))
  rw [HX.out] at hos hxl ⊢
  have B3 : Hid (Box w (.cells #[.slice na N nc, .slice (some ⟨b, off, none⟩) F fcap] 31) w3) := B1.out.drew.next hb3
  have hg1 : w.heap.size + 2 ≤ gs ∧ gs < w3.heap.size := by
    have h1 := OwnsR.lt hos gs (by simp [fpOf, Value.ownBlock])
    have h2 : (W1.drew).heap.size = W1.heap.size := rfl
    omega
  have O3 : Hid (OwnsI w3 w.heap.size (.slice (some ⟨w.heap.size + 1, 0, none⟩) 0 0) [] ∧ OwnsI w3 w.heap.size (.slice (some ⟨gs, 0, none⟩) X cs) A) := ⟨OwnsR.below O1.out ((Below.refl _ _).drew.trans hb3), owns_base hos B1.out.below.drew.size⟩
  clear hos hb3 x0 x1 e3 hwl hbl O1 B1
  have x0 := B3.out.cell 0
  have x1 := B3.out.cell 1
  simp at x0 x1
  have e4 := (B3.out.below.cell (p := ⟨b, off + m * 5 + 4, none⟩) hkb).trans c4
  have hwl := B3.out.lt
  have hbl : b < w3.heap.size := by omega
  clear c4
  go_wp2_with fail
  go_region_held3 (fun w' => (w'.cell? ⟨w.heap.size, 0, none⟩ = some (.slice na N nc) ∧ w'.cell? ⟨w.heap.size, 1, none⟩ = some (.slice (some ⟨b, off, none⟩) F fcap)) ∧ w'.cell? ⟨b, off + m * 5 + 4, none⟩ = some (.int .i64 ft)) (first | exact ⟨⟨x0, x1⟩, e4⟩ | exact ⟨⟨(hb5.cell (p := ⟨w.heap.size, 0, none⟩) hwl).trans x0, (hb5.cell (p := ⟨w.heap.size, 1, none⟩) hwl).trans x1⟩, (hb5.cell (p := ⟨b, off + m * 5 + 4, none⟩) hbl).trans e4⟩ | go_keep) ((go_at_call 49; refine Calls.mono (cU.out _ _ _ B3.out.below.drew hC.out) ?_; rintro e w5 ⟨⟨hs, ct, rfl, hot, hyl⟩, hb5⟩))
  rw [HY.out] at hot hyl ⊢
  have B5 : Hid (Below w.heap.size w w5) := (B3.out.drew.next hb5).below
  have hg2 : w3.heap.size ≤ hs := by
    have h1 := (OwnsR.lt hot hs (by simp [fpOf, Value.ownBlock])).1
    have h2 : (w3.drew).heap.size = w3.heap.size := rfl
    omega
  have O5 : Hid (OwnsI w5 w.heap.size (.slice (some ⟨w.heap.size + 1, 0, none⟩) 0 0) [] ∧ OwnsI w5 w.heap.size (.slice (some ⟨gs, 0, none⟩) X cs) A ∧ OwnsI w5 w.heap.size (.slice (some ⟨hs, 0, none⟩) Y ct) C) := by
    have hd : Below w3.heap.size w3 w5 := (Below.refl _ _).drew.trans hb5
    exact ⟨OwnsR.below O3.out.1 hd, OwnsR.below O3.out.2 hd, owns_base hot B3.out.below.drew.size⟩
  clear hot hb5 x0 x1 e4 hwl hbl O3 B3 cU
  go_wp2_with fail
  go_loopw [5, 8, 9] (fun o si sk wr => ∃ (i k og oc L : Nat) (zs : List Int), si = .int .i64 (i : Int) ∧ sk = .int .i64 (k : Int) ∧ o = .slice (some ⟨og, 0, none⟩) L oc ∧ i ≤ X ∧ k ≤ Y ∧ og ≠ gs ∧ og ≠ hs ∧ Hid (Mrg A C i k zs ∧ OwnsI wr w.heap.size (.slice (some ⟨og, 0, none⟩) L oc) zs ∧ OwnsI wr w.heap.size (.slice (some ⟨gs, 0, none⟩) X cs) A ∧ OwnsI wr w.heap.size (.slice (some ⟨hs, 0, none⟩) Y ct) C ∧ Below w.heap.size w wr ∧ L = zs.length)) (fun _ si sk _ => (X - (intOf si).toNat) + (Y - (intOf sk).toNat))
  case atStart => exact ⟨0, 0, _, _, 0, [], rfl, rfl, rfl, Nat.zero_le _, Nat.zero_le _, by omega, by omega, Mrg.start _ _, O5.out.1, O5.out.2.1, O5.out.2.2, B5.out, rfl⟩
  case round =>
    obtain ⟨i, k, og, oc, L, zs, rfl, rfl, rfl, hiX, hkY, hog, hoh, HJ⟩ := hrel
    clear O5 B5
    have hi0 : (0 : Int) ≤ (i : Int) := by omega
    have hk0 : (0 : Int) ≤ (k : Int) := by omega
    have hsz : w.heap.size ≤ wr.heap.size := HJ.out.2.2.2.2.1.size
    have hLl : zs.length ≤ 10000000 := by have := HJ.out.1.len; omega
    have HM : ∀ (y : Int) (i' k' v4 : _) (w4 : World), i' ≤ X → k' ≤ Y → Mrg A C i' k' (zs ++ [y]) → OwnsI w4 w.heap.size v4 (zs ++ [y]) → (wr.grownBy w4 (some og)) → (v4.ownBlock = some og ∨ ∃ b, v4.ownBlock = some b ∧ wr.heap.size ≤ b) → (∃ g cap, v4 = .slice (some ⟨g, 0, none⟩) (zs.length + 1) cap) →
        ∃ g cap, v4 = .slice (some ⟨g, 0, none⟩) (zs.length + 1) cap ∧ g ≠ gs ∧ g ≠ hs ∧ Hid (Mrg A C i' k' (zs ++ [y]) ∧ OwnsI w4 w.heap.size (.slice (some ⟨g, 0, none⟩) (zs.length + 1) cap) (zs ++ [y]) ∧ OwnsI w4 w.heap.size (.slice (some ⟨gs, 0, none⟩) X cs) A ∧ OwnsI w4 w.heap.size (.slice (some ⟨hs, 0, none⟩) Y ct) C ∧ Below w.heap.size w w4 ∧ zs.length + 1 = (zs ++ [y]).length) := by
      rintro y i' k' v4 w4 h1 h2 h3 h4 h5 h6 ⟨g, cap, rfl⟩
      have hgl := (OwnsR.lt HJ.out.2.2.1 gs (by simp [fpOf, Value.ownBlock])).2
      have hhl := (OwnsR.lt HJ.out.2.2.2.1 hs (by simp [fpOf, Value.ownBlock])).2
      have hol := (OwnsR.lt HJ.out.2.1 og (by simp [fpOf, Value.ownBlock])).1
      have hne : g ≠ gs ∧ g ≠ hs := by
        rcases h6 with h6 | ⟨b', h6, h7⟩
        · have : g = og := by simpa [Value.ownBlock] using h6
          subst this
          exact ⟨hog, hoh⟩
        · have : g = b' := by simpa [Value.ownBlock] using h6
          subst this
          exact ⟨by omega, by omega⟩
      refine ⟨g, cap, rfl, hne.1, hne.2, h3, h4, OwnsR.kept HJ.out.2.2.1 h5 (.inr ?_), OwnsR.kept HJ.out.2.2.2.1 h5 (.inr ?_), ?_, by simp⟩
      · simp [Value.ownBlock]
        exact fun e => hog e.symm
      · simp [Value.ownBlock]
        exact fun e => hoh e.symm
      · exact HJ.out.2.2.2.2.1.grown h5 hsz (fun k hk => by have : k = og := by simpa using hk.symm
                                                            omega)
    have HMh : Hid (∀ (y : Int) (i' k' v4 : _) (w4 : World), i' ≤ X → k' ≤ Y → Mrg A C i' k' (zs ++ [y]) → OwnsI w4 w.heap.size v4 (zs ++ [y]) → (wr.grownBy w4 (some og)) → (v4.ownBlock = some og ∨ ∃ b, v4.ownBlock = some b ∧ wr.heap.size ≤ b) → (∃ g cap, v4 = .slice (some ⟨g, 0, none⟩) (zs.length + 1) cap) →
        ∃ g cap, v4 = .slice (some ⟨g, 0, none⟩) (zs.length + 1) cap ∧ g ≠ gs ∧ g ≠ hs ∧ Hid (Mrg A C i' k' (zs ++ [y]) ∧ OwnsI w4 w.heap.size (.slice (some ⟨g, 0, none⟩) (zs.length + 1) cap) (zs ++ [y]) ∧ OwnsI w4 w.heap.size (.slice (some ⟨gs, 0, none⟩) X cs) A ∧ OwnsI w4 w.heap.size (.slice (some ⟨hs, 0, none⟩) Y ct) C ∧ Below w.heap.size w w4 ∧ zs.length + 1 = (zs ++ [y]).length)) := HM
    clear HM
    by_cases hkl : k < Y
    · have hkc : k < C.length := by have := HY.out; omega
      have hk1 : (k : Int) < (Y : Int) := by omega
      have d2 : decide ((Y : Int) ≤ (k : Int)) = false := by simp; omega
      have d3 : ¬ (Y : Int) ≤ (k : Int) := by omega
      obtain ⟨ib, io, hie, hib, f0⟩ := RowI.at HJ.out.2.2.2.1.row k hkc
      cases hie
      simp only [Nat.zero_add] at f0
      obtain ⟨z, hz⟩ : ∃ z, Hid (C[k] = z) := ⟨_, (rfl : C[k] = C[k])⟩
      rw [hz.out] at f0
      by_cases hil : i < X
      · have hik : i < A.length := by have := HX.out; omega
        have hi1 : (i : Int) < (X : Int) := by omega
        have d1 : decide ((i : Int) < (X : Int)) = true := by simpa using hi1
        obtain ⟨ib, io, hie, hib, e0⟩ := RowI.at HJ.out.2.2.1.row i hik
        cases hie
        simp only [Nat.zero_add] at e0
        obtain ⟨y, hy⟩ : ∃ y, Hid (A[i] = y) := ⟨_, (rfl : A[i] = A[i])⟩
        rw [hy.out] at e0
        have hAi : A[i] = y := hy.out
        have hCk : C[k] = z := hz.out
        rcases Int.lt_trichotomy y z with hyz | hyz | hyz
        · have d4 : decide (y < z) = true := by simpa using hyz
          clear hAi hCk
          have HO : Hid (∀ q, OwnsI (wr.drewN q) w.heap.size (.slice (some ⟨og, 0, none⟩) L oc) zs) := fun q => OwnsR.below HJ.out.2.1 (below_grown (grown_drewN wr q))
          have HMr : Hid (Mrg A C (i + 1) k (zs ++ [y])) := by
            have h1 := HJ.out.1.fromA HAs.out.1 HAs.out.2 hik (fun _ => by rw [hy.out, hz.out]; exact hyz)
            rw [hy.out] at h1
            exact h1
          go_wp2_with (first | (go_quiet (fail)) | (at_builtin; go_must (refine appendRA inC_len rfl _ _ 35 rfl w.heap.size 3 _ 8 Tryz.underlying35 Tryz.infoInt rfl (by decide) (HO.out _) y (inC_ones _) rfl (by first | rfl | (simp [Act.eval]; done)) hLl (by omega) hsz ?_); intro v4 w4 hown4 hg4 hat4 hv4; obtain ⟨g4, cap4, rfl⟩ := hv4))
          have hgq : wr.grownBy w4 (some og) := ⟨hg4.os, hg4.tape, hg4.output, hg4.size, hg4.block⟩
          obtain ⟨g, cap, hv, hng, hnh, HN⟩ := HMh.out y (i + 1) k _ w4 (by omega) (by omega) HMr.out hown4 hgq hat4 ⟨_, _, rfl⟩
          cases hv
          have HLq : Hid (L = zs.length) := HJ.out.2.2.2.2.2
          clear hown4 hg4 hat4 hgq HO HJ HMh HMr e0 f0
          go_wp2
          go_roundw
          case rel => exact ⟨(i + 1), by omega, k, by omega, g4, cap4, zs.length + 1, ⟨rfl, rfl, rfl⟩, by omega, by omega, hng, hnh, zs ++ [y], HN⟩
          case measure => simp [intOf]; omega
        · subst hyz
          have d4 : decide (y < y) = false := by simp
          have d5 : (y == y) = true := by simp
          clear hAi hCk
          have HO : Hid (∀ q, OwnsI (wr.drewN q) w.heap.size (.slice (some ⟨og, 0, none⟩) L oc) zs) := fun q => OwnsR.below HJ.out.2.1 (below_grown (grown_drewN wr q))
          have HMr : Hid (Mrg A C (i + 1) (k + 1) (zs ++ [y])) := by
            have h1 := HJ.out.1.both HAs.out.1 HAs.out.2 hik hkc (by rw [hy.out, hz.out])
            rw [hz.out] at h1
            exact h1
          go_wp2_with (first | (go_quiet (fail)) | (at_builtin; go_must (refine appendRA inC_len rfl _ _ 35 rfl w.heap.size 3 _ 8 Tryz.underlying35 Tryz.infoInt rfl (by decide) (HO.out _) y (inC_ones _) rfl (by first | rfl | (simp [Act.eval]; done)) hLl (by omega) hsz ?_); intro v4 w4 hown4 hg4 hat4 hv4; obtain ⟨g4, cap4, rfl⟩ := hv4))
          have hgq : wr.grownBy w4 (some og) := ⟨hg4.os, hg4.tape, hg4.output, hg4.size, hg4.block⟩
          obtain ⟨g, cap, hv, hng, hnh, HN⟩ := HMh.out y (i + 1) (k + 1) _ w4 (by omega) (by omega) HMr.out hown4 hgq hat4 ⟨_, _, rfl⟩
          cases hv
          have HLq : Hid (L = zs.length) := HJ.out.2.2.2.2.2
          clear hown4 hg4 hat4 hgq HO HJ HMh HMr e0 f0
          go_wp2
          go_roundw
          case rel => exact ⟨(i + 1), by omega, (k + 1), by omega, g4, cap4, zs.length + 1, ⟨rfl, rfl, rfl⟩, by omega, by omega, hng, hnh, zs ++ [y], HN⟩
          case measure => simp [intOf]; omega
        · have d4 : decide (y < z) = false := by simp; omega
          have d5 : (y == z) = false := by simp; omega
          have d6 : ¬ y < z := by omega
          have d7 : ¬ y = z := by omega
          clear hAi hCk
          have HO : Hid (∀ q, OwnsI (wr.drewN q) w.heap.size (.slice (some ⟨og, 0, none⟩) L oc) zs) := fun q => OwnsR.below HJ.out.2.1 (below_grown (grown_drewN wr q))
          have HMr : Hid (Mrg A C i (k + 1) (zs ++ [z])) := by
            have h1 := HJ.out.1.fromB HAs.out.1 HAs.out.2 hkc (fun _ => by rw [hy.out, hz.out]; exact hyz)
            rw [hz.out] at h1
            exact h1
          go_wp2_with (first | (go_quiet (fail)) | (at_builtin; go_must (refine appendRA inC_len rfl _ _ 35 rfl w.heap.size 3 _ 8 Tryz.underlying35 Tryz.infoInt rfl (by decide) (HO.out _) z (inC_ones _) rfl (by first | rfl | (simp [Act.eval]; done)) hLl (by omega) hsz ?_); intro v4 w4 hown4 hg4 hat4 hv4; obtain ⟨g4, cap4, rfl⟩ := hv4))
          have hgq : wr.grownBy w4 (some og) := ⟨hg4.os, hg4.tape, hg4.output, hg4.size, hg4.block⟩
          obtain ⟨g, cap, hv, hng, hnh, HN⟩ := HMh.out z i (k + 1) _ w4 (by omega) (by omega) HMr.out hown4 hgq hat4 ⟨_, _, rfl⟩
          cases hv
          have HLq : Hid (L = zs.length) := HJ.out.2.2.2.2.2
          clear hown4 hg4 hat4 hgq HO HJ HMh HMr e0 f0
          go_wp2
          go_roundw
          case rel => exact ⟨i, by omega, (k + 1), by omega, g4, cap4, zs.length + 1, ⟨rfl, rfl, rfl⟩, by omega, by omega, hng, hnh, zs ++ [z], HN⟩
          case measure => simp [intOf]; omega
      · have hi1 : ¬ (i : Int) < (X : Int) := by omega
        have d1 : decide ((i : Int) < (X : Int)) = false := by simp; omega
        have HO : Hid (∀ q, OwnsI (wr.drewN q) w.heap.size (.slice (some ⟨og, 0, none⟩) L oc) zs) := fun q => OwnsR.below HJ.out.2.1 (below_grown (grown_drewN wr q))
        have HMr : Hid (Mrg A C i (k + 1) (zs ++ [z])) := by
          have h1 := HJ.out.1.fromB HAs.out.1 HAs.out.2 hkc (fun _ => by have := HX.out; omega)
          rw [hz.out] at h1
          exact h1
        go_wp2_with (first | (go_quiet (fail)) | (at_builtin; go_must (refine appendRA inC_len rfl _ _ 35 rfl w.heap.size 3 _ 8 Tryz.underlying35 Tryz.infoInt rfl (by decide) (HO.out _) z (inC_ones _) rfl (by first | rfl | (simp [Act.eval]; done)) hLl (by omega) hsz ?_); intro v4 w4 hown4 hg4 hat4 hv4; obtain ⟨g4, cap4, rfl⟩ := hv4))
        have hgq : wr.grownBy w4 (some og) := ⟨hg4.os, hg4.tape, hg4.output, hg4.size, hg4.block⟩
        obtain ⟨g, cap, hv, hng, hnh, HN⟩ := HMh.out z i (k + 1) _ w4 (by omega) (by omega) HMr.out hown4 hgq hat4 ⟨_, _, rfl⟩
        cases hv
        have HLq : Hid (L = zs.length) := HJ.out.2.2.2.2.2
        clear hown4 hg4 hat4 hgq HO HJ HMh HMr f0
        go_wp2
        go_roundw
        case rel => exact ⟨i, by omega, (k + 1), by omega, g4, cap4, zs.length + 1, ⟨rfl, rfl, rfl⟩, by omega, by omega, hng, hnh, zs ++ [z], HN⟩
        case measure => simp [intOf]; omega
    · by_cases hil : i < X
      · have hik : i < A.length := by have := HX.out; omega
        have hi1 : (i : Int) < (X : Int) := by omega
        have hk1 : ¬ (k : Int) < (Y : Int) := by omega
        obtain ⟨ib, io, hie, hib, e0⟩ := RowI.at HJ.out.2.2.1.row i hik
        cases hie
        simp only [Nat.zero_add] at e0
        obtain ⟨y, hy⟩ : ∃ y, Hid (A[i] = y) := ⟨_, (rfl : A[i] = A[i])⟩
        rw [hy.out] at e0
        have d1 : decide ((i : Int) < (X : Int)) = true := by simpa using hi1
        have d2 : decide ((Y : Int) ≤ (k : Int)) = true := by simp; omega
        have d3 : (Y : Int) ≤ (k : Int) := by omega
        have HO : Hid (∀ q, OwnsI (wr.drewN q) w.heap.size (.slice (some ⟨og, 0, none⟩) L oc) zs) := fun q => OwnsR.below HJ.out.2.1 (below_grown (grown_drewN wr q))
        have HMr : Hid (Mrg A C (i + 1) k (zs ++ [y])) := by
          have h1 := HJ.out.1.fromA HAs.out.1 HAs.out.2 hik (fun hk => by have := HY.out; omega)
          rw [hy.out] at h1
          exact h1
        go_wp2_with (first | (go_quiet (fail)) | (at_builtin; go_must (refine appendRA inC_len rfl _ _ 35 rfl w.heap.size 3 _ 8 Tryz.underlying35 Tryz.infoInt rfl (by decide) (HO.out _) y (inC_ones _) rfl (by first | rfl | (simp [Act.eval]; done)) hLl (by omega) hsz ?_); intro v4 w4 hown4 hg4 hat4 hv4; obtain ⟨g4, cap4, rfl⟩ := hv4))
        have hgq : wr.grownBy w4 (some og) := ⟨hg4.os, hg4.tape, hg4.output, hg4.size, hg4.block⟩
        obtain ⟨g, cap, hv, hng, hnh, HN⟩ := HMh.out y (i + 1) k _ w4 (by omega) (by omega) HMr.out hown4 hgq hat4 ⟨_, _, rfl⟩
        cases hv
        have HLq : Hid (L = zs.length) := HJ.out.2.2.2.2.2
        clear hown4 hg4 hat4 hgq HO HJ HMh HMr e0 
        go_wp2
        go_roundw
        case rel => exact ⟨(i + 1), by omega, k, by omega, g4, cap4, zs.length + 1, ⟨rfl, rfl, rfl⟩, by omega, by omega, hng, hnh, zs ++ [y], HN⟩
        case measure => simp [intOf]; omega
      · have HZ : Hid (zs = allL A C) := HJ.out.1.done (by have := HX.out; omega) (by have := HY.out; omega)
        have hi1 : ¬ (i : Int) < (X : Int) := by omega
        have hk1 : ¬ (k : Int) < (Y : Int) := by omega
        have HQ : Hid (OwnsI wr w.heap.size (.slice (some ⟨og, 0, none⟩) L oc) zs ∧ Below w.heap.size w wr ∧ L = zs.length ∧ zs.length ≤ 2097152) := ⟨HJ.out.2.1, HJ.out.2.2.2.2.1, HJ.out.2.2.2.2.2, by have := HJ.out.1.len; omega⟩
        clear HMh HJ
        go_wp2
        go_ret
        refine ⟨⟨og, oc, ?_, ?_, ?_⟩, HQ.out.2.1⟩
        · rw [← HZ.out, ← HQ.out.2.2.1]
          rfl
        · rw [← HZ.out, ← HQ.out.2.2.1]
          exact HQ.out.1
        · rw [← HZ.out]
          exact HQ.out.2.2.2

end Go.Proofs.YtljphnjmeckpbaaGreat

namespace Go.Proofs.YtljphnjmeckpbaaGreat
open Go.RowKit

theorem l07Uses_any (k : Int) (w : World) :
    Calls Tryz.prog 32 #[.int .i64 k] w fun e w' => e = .returned (.bool (usesK k)) ∧ w' = w := by
  by_cases h2 : k = 2
  · subst h2
    go_enter Tryz.func32, Tryz.ntmps32
    go_wp2
    go_ret
    exact ⟨rfl, rfl⟩
  by_cases h3 : k = 3
  · subst h3
    go_enter Tryz.func32, Tryz.ntmps32
    go_wp2
    go_ret
    exact ⟨rfl, rfl⟩
  by_cases h4 : k = 4
  · subst h4
    go_enter Tryz.func32, Tryz.ntmps32
    go_wp2
    go_ret
    exact ⟨rfl, rfl⟩
  by_cases h5 : k = 5
  · subst h5
    go_enter Tryz.func32, Tryz.ntmps32
    go_wp2
    go_ret
    exact ⟨rfl, rfl⟩
  by_cases h6 : k = 6
  · subst h6
    go_enter Tryz.func32, Tryz.ntmps32
    go_wp2
    go_ret
    exact ⟨rfl, rfl⟩
  by_cases h14 : k = 14
  · subst h14
    go_enter Tryz.func32, Tryz.ntmps32
    go_wp2
    go_ret
    exact ⟨rfl, rfl⟩
  by_cases h15 : k = 15
  · subst h15
    go_enter Tryz.func32, Tryz.ntmps32
    go_wp2
    go_ret
    exact ⟨rfl, rfl⟩
  have hE : Hid (usesK k = false) := by
    show _ = _
    simp [usesK, h2, h3, h4, h5, h6, h14, h15]
  rw [hE.out]
  go_enter Tryz.func32, Tryz.ntmps32
  go_wp2
  go_ret
  exact ⟨rfl, rfl⟩

theorem Box.grown {w wr wn : World} {o : Obj} {r : Option Nat} (h : Box w o wr) (hg : wr.grownBy wn r) (hr : ∀ k, r = some k → w.heap.size + 1 ≤ k) : Box w o wn :=
  ⟨h.b.grown hg (by have := h.lt; omega) hr⟩

set_option maxRecDepth 100000 in
set_option maxHeartbeats 6400000 in
theorem specUsesOf_any (v0 v1 : Value) (p : Pg) (fn : Int) (nm : ByteArray) (w : World) (hR : RowPg w w.heap.size v0 v1 p) (hl : szPg p ≤ 1048576) :
    Calls Tryz.prog 10 #[.agg #[v0, v1], .int .i64 fn, .string nm] w fun e w' => (∃ g cap, e = .returned (.slice (some ⟨g, 0, none⟩) (usesOf p fn nm).length cap) ∧ OwnsI w' w.heap.size (.slice (some ⟨g, 0, none⟩) (usesOf p fn nm).length cap) (usesOf p fn nm) ∧ (usesOf p fn nm).length ≤ 2097152) ∧ Below w.heap.size w w' := by
  obtain ⟨na, nc, rfl⟩ := hR.1.len
  obtain ⟨N, HN⟩ : ∃ N, Hid (p.nodes.length = N) := ⟨_, (rfl : p.nodes.length = p.nodes.length)⟩
  have HV : Hid (NdR.Row w w.heap.size (.slice na N nc) p.nodes ∧ RowPg w w.heap.size (.slice na N nc) v1 p) := by rw [← HN.out]; exact ⟨hR.1, hR⟩
  obtain ⟨zs, hzs⟩ : ∃ zs, Hid (allOf p fn = zs) := ⟨_, (rfl : allOf p fn = allOf p fn)⟩
  obtain ⟨X, HX⟩ : ∃ X, Hid (zs.length = X) := ⟨_, (rfl : zs.length = zs.length)⟩
  have cA : Hid (∀ W, Below w.heap.size w W → Calls Tryz.prog 31 #[.agg #[.slice na N nc, v1], .int .i64 fn] W fun e w' => (∃ g cap, e = .returned (.slice (some ⟨g, 0, none⟩) X cap) ∧ OwnsI w' W.heap.size (.slice (some ⟨g, 0, none⟩) X cap) zs ∧ X ≤ 2097152) ∧ Below W.heap.size W w') := fun W hW => by
    have h1 := l07All_any _ _ p fn W ((HV.out.2.keep hW).up hW.size) hl
    rw [hzs.out, HX.out] at h1
    exact h1
  have HIn : Hid (∀ x ∈ zs, 0 ≤ x ∧ x < (p.nodes.length : Int)) := fun x hx => by
    rw [← hzs.out] at hx
    exact allOf_in hx
  have HE : Hid (usesOf p fn nm = usesF p.nodes nm zs) := by
    show _ = _
    unfold usesOf
    rw [hzs.out]
  rw [HE.out, HN.out]
  clear hR hl
  go_enter Tryz.func10, Tryz.ntmps10
  go_wp2_with fail
  go_at_call 31
  refine Calls.mono (cA.out _ (by go_grown)) ?_
  rintro e w3 ⟨⟨gs, cs, rfl, hos, hxl⟩, hb3⟩
  have B3 : Hid (Box w (.cells #[.slice na N nc, v1] 31) w3) := ((Box.first _ _).alloc _).next hb3
  have hgs : w.heap.size + 2 ≤ gs := by
    have h1 := (OwnsR.lt hos gs (by simp [fpOf, Value.ownBlock])).1
    simp at h1
    omega
  have O3 : Hid (OwnsI w3 (w.heap.size + 1) (.slice (some ⟨w.heap.size + 1, 0, none⟩) 0 0) [] ∧ OwnsI w3 (w.heap.size + 1) (.slice (some ⟨gs, 0, none⟩) X cs) zs) := by
    have HO := OwnsR.below (owns_empty (w.alloc (.cells #[.slice na N nc, v1] 31))).out hb3
    have hz : (w.alloc (.cells #[.slice na N nc, v1] 31)).heap.size = w.heap.size + 1 := by simp
    rw [hz] at HO
    refine ⟨HO, owns_base hos ?_⟩
    simp
  clear hos hb3 cA
  go_wp2_with fail
  go_loopw [7, 9] (fun o i wr => ∃ (s og oc L : Nat), s ≤ X ∧ i = .int .i64 (s : Int) ∧ o = .slice (some ⟨og, 0, none⟩) L oc ∧ og ≠ gs ∧ Hid (Box w (.cells #[.slice na N nc, v1] 31) wr ∧ OwnsI wr (w.heap.size + 1) (.slice (some ⟨og, 0, none⟩) L oc) (usesF p.nodes nm (zs.take s)) ∧ OwnsI wr (w.heap.size + 1) (.slice (some ⟨gs, 0, none⟩) X cs) zs ∧ L = (usesF p.nodes nm (zs.take s)).length)) (fun _ i _ => X - (intOf i).toNat)
  case atStart => exact ⟨0, _, _, 0, Nat.zero_le _, rfl, rfl, by omega, B3.out, O3.out.1, O3.out.2, rfl⟩
  case round =>
    obtain ⟨s, og, oc, L, hs, rfl, rfl, hog, HQ⟩ := hrel
    clear B3 O3
    have x0 := HQ.out.1.cell 0
    simp at x0
    have hsz : w.heap.size + 1 ≤ wr.heap.size := HQ.out.1.lt
    by_cases hsl : s < X
    · have hs0 : (0 : Int) ≤ (s : Int) := by omega
      have hs1 : (s : Int) < (X : Int) := by omega
      have hsx : s < zs.length := by have := HX.out; omega
      obtain ⟨ib, io, hie, hib, e0⟩ := RowI.at HQ.out.2.2.1.row s hsx
      cases hie
      simp only [Nat.zero_add] at e0
      have hxj := HIn.out zs[s] (List.getElem_mem hsx)
      obtain ⟨j, hj⟩ : ∃ j : Nat, Hid (zs[s] = (j : Int)) := ⟨zs[s].toNat, (by show _ = _; omega)⟩
      rw [hj.out] at e0 hxj
      have hjN : j < N := by have := HN.out; omega
      have hjl : j < p.nodes.length := by have := HN.out; omega
      have hj0 : (0 : Int) ≤ (j : Int) := by omega
      have hj1 : (j : Int) < (N : Int) := by omega
      have hLT : Hid (usesF p.nodes nm (zs.take (s + 1)) = usesF p.nodes nm (zs.take s) ++ (if usesB p.nodes nm (j : Int) = true then [(j : Int)] else [])) := by
        show _ = _
        rw [usesF_take p.nodes nm zs s hsx, hj.out]
      obtain ⟨nb, no, ka, kc, rfl, hnb, n0, n1, n2, n3, _⟩ := RowNd.at HV.out.1 j hjl
      have hub : usesB p.nodes nm (j : Int) = (usesK p.nodes[j].kind && sameB p.nodes[j].name nm) := by
        unfold usesB
        rw [Int.toNat_natCast]
        simp [List.getD, hjl]
      rw [hub] at hLT
      obtain ⟨nx, hnx⟩ : ∃ nx, Hid (p.nodes[j].name = nx) := ⟨_, (rfl : p.nodes[j].name = p.nodes[j].name)⟩
      obtain ⟨kx, hkx⟩ : ∃ kx, Hid (p.nodes[j].kind = kx) := ⟨_, (rfl : p.nodes[j].kind = p.nodes[j].kind)⟩
      rw [hkx.out, hnx.out] at hLT
      rw [hkx.out] at n0
      rw [hnx.out] at n2
      have d0 := (HQ.out.1.below.cell (p := ⟨nb, no + j * 4, none⟩) hnb).trans n0
      have d2 := (HQ.out.1.below.cell (p := ⟨nb, no + j * 4 + 2, none⟩) hnb).trans n2
      clear n0 n1 n2 n3 hub hxj
      have cK : Hid (∀ W, Calls Tryz.prog 32 #[.int .i64 kx] W fun e w' => e = .returned (.bool (usesK kx)) ∧ w' = W) := fun W => l07Uses_any kx W
      cases hu : usesK kx
      · rw [hu] at hLT cK
        have HJ5 : Hid (∀ q, Box w (.cells #[.slice (some ⟨nb, no, none⟩) N nc, v1] 31) (wr.drewN q) ∧ OwnsI (wr.drewN q) (w.heap.size + 1) (.slice (some ⟨og, 0, none⟩) L oc) (usesF p.nodes nm (zs.take (s + 1))) ∧ OwnsI (wr.drewN q) (w.heap.size + 1) (.slice (some ⟨gs, 0, none⟩) X cs) zs ∧ L = (usesF p.nodes nm (zs.take (s + 1))).length) := fun q => by
          have h1 := hLT.out
          simp at h1
          rw [h1]
          exact ⟨HQ.out.1.grown (grown_drewN wr q) (by simp), OwnsR.below HQ.out.2.1 (below_grown (grown_drewN wr q)), OwnsR.below HQ.out.2.2.1 (below_grown (grown_drewN wr q)), HQ.out.2.2.2⟩
        clear HQ hLT
        go_wp2_with (first | (go_quiet ((go_at_call 32; refine Calls.quiet_of_same (cK.out _)))))
        go_roundw
        case rel => exact ⟨s + 1, og, oc, L, by omega, by go_num, rfl, hog, HJ5.out _⟩
        case measure => simp [intOf]; omega
      · cases hn : sameB nx nm
        · rw [hu, hn] at hLT
          rw [hu] at cK
          have HJ5 : Hid (∀ q, Box w (.cells #[.slice (some ⟨nb, no, none⟩) N nc, v1] 31) (wr.drewN q) ∧ OwnsI (wr.drewN q) (w.heap.size + 1) (.slice (some ⟨og, 0, none⟩) L oc) (usesF p.nodes nm (zs.take (s + 1))) ∧ OwnsI (wr.drewN q) (w.heap.size + 1) (.slice (some ⟨gs, 0, none⟩) X cs) zs ∧ L = (usesF p.nodes nm (zs.take (s + 1))).length) := fun q => by
            have h1 := hLT.out
            simp at h1
            rw [h1]
            exact ⟨HQ.out.1.grown (grown_drewN wr q) (by simp), OwnsR.below HQ.out.2.1 (below_grown (grown_drewN wr q)), OwnsR.below HQ.out.2.2.1 (below_grown (grown_drewN wr q)), HQ.out.2.2.2⟩
          clear HQ hLT
          unfold sameB at hn
          go_wp2_with (first | (go_quiet ((go_at_call 32; refine Calls.quiet_of_same (cK.out _)))))
          go_roundw
          case rel => exact ⟨s + 1, og, oc, L, by omega, by go_num, rfl, hog, HJ5.out _⟩
          case measure => simp [intOf]; omega
        · rw [hu, hn] at hLT
          rw [hu] at cK
          have HNx : Hid (usesF p.nodes nm (zs.take (s + 1)) = usesF p.nodes nm (zs.take s) ++ [(j : Int)]) := by
            have h1 := hLT.out
            simp at h1
            exact h1
          have hpl : (usesF p.nodes nm (zs.take s)).length ≤ 10000000 := by
            have h1 : (usesF p.nodes nm (zs.take s)).length ≤ (zs.take s).length := List.length_filter_le _ _
            rw [List.length_take] at h1
            omega
          have HO : Hid (∀ q, OwnsI (wr.drewN q) (w.heap.size + 1) (.slice (some ⟨og, 0, none⟩) L oc) (usesF p.nodes nm (zs.take s))) := fun q => OwnsR.below HQ.out.2.1 (below_grown (grown_drewN wr q))
          clear hLT
          unfold sameB at hn
          go_wp2_with (first | (go_quiet ((go_at_call 32; refine Calls.quiet_of_same (cK.out _)))) | (at_builtin; go_must (refine appendRA inC_len rfl _ _ 35 rfl (w.heap.size + 1) 3 _ 8 Tryz.underlying35 Tryz.infoInt rfl (by decide) (HO.out _) (j : Int) (inC_ones _) rfl (by first | rfl | (simp [Act.eval]; done)) hpl (by omega) hsz ?_); intro v5 w5 hown5 hg5 hat5 hv5; obtain ⟨g5, cap5, rfl⟩ := hv5))
          have hgq : wr.grownBy w5 (some og) := ⟨hg5.os, hg5.tape, hg5.output, hg5.size, hg5.block⟩
          have hol := (OwnsR.lt HQ.out.2.1 og (by simp [fpOf, Value.ownBlock])).1
          have hgl := (OwnsR.lt HQ.out.2.2.1 gs (by simp [fpOf, Value.ownBlock])).2
          have hng : g5 ≠ gs := by
            rcases hat5 with h6 | ⟨b', h6, h7⟩
            · have : g5 = og := by simpa [Value.ownBlock] using h6
              subst this
              exact hog
            · have : g5 = b' := by simpa [Value.ownBlock] using h6
              subst this
              have h8 : wr.heap.size ≤ g5 := h7
              omega
          have HJ5 : Hid (Box w (.cells #[.slice (some ⟨nb, no, none⟩) N nc, v1] 31) w5 ∧ OwnsI w5 (w.heap.size + 1) (.slice (some ⟨g5, 0, none⟩) ((usesF p.nodes nm (zs.take s)).length + 1) cap5) (usesF p.nodes nm (zs.take (s + 1))) ∧ OwnsI w5 (w.heap.size + 1) (.slice (some ⟨gs, 0, none⟩) X cs) zs ∧ (usesF p.nodes nm (zs.take s)).length + 1 = (usesF p.nodes nm (zs.take (s + 1))).length) := by
            rw [HNx.out]
            refine ⟨HQ.out.1.grown hgq (fun k hk => by have : k = og := by simpa using hk.symm
                                                       omega), hown5, OwnsR.kept HQ.out.2.2.1 hgq (.inr ?_), by simp⟩
            simp [Value.ownBlock]
            exact fun e => hog e.symm
          have HLq : Hid (L = (usesF p.nodes nm (zs.take s)).length) := HQ.out.2.2.2
          clear hown5 hg5 hat5 hgq HO HQ HNx e0 d0 d2 x0
          go_wp2
          go_roundw
          case rel => exact ⟨s + 1, g5, cap5, (usesF p.nodes nm (zs.take s)).length + 1, by omega, by go_num, rfl, hng, HJ5⟩
          case measure => simp [intOf]; omega
    · have HZ : Hid (OwnsI wr (w.heap.size + 1) (.slice (some ⟨og, 0, none⟩) L oc) (usesF p.nodes nm zs) ∧ Below w.heap.size w wr ∧ (usesF p.nodes nm zs).length = L ∧ L ≤ 2097152) := by
        have h1 := HQ.out
        rw [List.take_of_length_le (by have := HX.out; omega)] at h1
        refine ⟨h1.2.1, h1.1.below, h1.2.2.2.symm, ?_⟩
        have h2 : (usesF p.nodes nm zs).length ≤ zs.length := List.length_filter_le _ _
        have := HX.out
        have := h1.2.2.2
        omega
      clear HQ x0
      go_wp2
      go_ret
      refine ⟨⟨og, oc, ?_, ?_, ?_⟩, HZ.out.2.1⟩
      · rw [HZ.out.2.2.1]
        rfl
      · rw [HZ.out.2.2.1]
        exact owns_base HZ.out.1 (by omega)
      · rw [HZ.out.2.2.1]
        exact HZ.out.2.2.2

end Go.Proofs.YtljphnjmeckpbaaGreat

namespace Go.Proofs.YtljphnjmeckpbaaGreat
open Go.RowKit

def setAll : List Value → Nat → List Value → List Value
  | xs, _, [] => xs
  | xs, o, v :: vs => setAll (xs.set o v) (o + 1) vs
theorem setAll_past : ∀ (vs xs : List Value) (o : Nat), xs.length ≤ o → setAll xs o vs = xs := by
  intro vs
  induction vs with
  | nil => intro xs o _; rfl
  | cons v vs ih =>
    intro xs o h
    simp only [setAll]
    rw [List.set_eq_of_length_le h]
    exact ih xs (o + 1) (by omega)
theorem setAll_mid : ∀ (vs pre mid : List Value), mid.length = vs.length → setAll (pre ++ mid) pre.length vs = pre ++ vs := by
  intro vs
  induction vs with
  | nil =>
    intro pre mid h
    have hm : mid = [] := List.eq_nil_of_length_eq_zero (by simpa using h)
    subst hm
    rfl
  | cons v vs ih =>
    intro pre mid h
    match mid, h with
    | m :: ms, h =>
      simp only [setAll]
      have h1 : (pre ++ m :: ms).set pre.length v = (pre ++ [v]) ++ ms := by
        rw [List.set_append_right _ _ (Nat.le_refl _), Nat.sub_self, List.set_cons_zero, List.append_assoc]
        rfl
      have h2 := ih (pre ++ [v]) ms (by simpa using h)
      rw [h1, show pre.length + 1 = (pre ++ [v]).length by simp, h2, List.append_assoc]
      rfl
theorem setAll_all {vs xs : List Value} (h : xs.length = vs.length) : setAll xs 0 vs = vs := setAll_mid vs [] xs h
theorem owns_setCells {B g n cap : Nat} {e : TypeId} : ∀ (vs xs : List Value) (o : Nat) (w : World), w.ownsRow B e 1 (.slice (some ⟨g, 0, none⟩) n cap) n xs →
    (w.setCells g o vs).ownsRow B e 1 (.slice (some ⟨g, 0, none⟩) n cap) n (setAll xs o vs) ∧ w.grownBy (w.setCells g o vs) (some g) := by
  intro vs
  induction vs with
  | nil => intro xs o w h; exact ⟨h, World.grownBy.refl _ _⟩
  | cons v vs ih =>
    intro xs o w h
    have h1 := World.ownsRow.stored h o v
    have h2 := ih (xs.set o v) (o + 1) _ h1.1
    exact ⟨h2.1, grown_trans h1.2 h2.2 (.inr rfl) (.inr rfl)⟩
theorem inC_flat (xs : List Int) : xs.flatMap inC = xs.map (Value.int .i64) := by
  induction xs with
  | nil => rfl
  | cons x xs ih => simp [inC, ih]
/-- A row of one's own, cut short. -/
theorem OwnsI.cut {w : World} {B g n cap : Nat} {xs : List Int} (h : OwnsI w B (.slice (some ⟨g, 0, none⟩) n cap) xs) (m : Nat) (hm : m ≤ xs.length) : OwnsI w B (.slice (some ⟨g, 0, none⟩) m cap) (xs.take m) := by
  obtain ⟨hl, h2⟩ := h
  rcases h2 with ⟨h0, _⟩ | ⟨g', cap', cur, hv, hbg, hg, hnc, hcm, hcs, htake⟩
  · cases h0
  · cases hv
    have hml : (xs.take m).length = m := by rw [List.length_take]; omega
    refine ⟨flat_len inC_len _, .inr ⟨g, cap, cur, by rw [hml], hbg, hg, by rw [hml]; omega, hcm, hcs, ?_⟩⟩
    rw [hml, Nat.mul_one, inC_flat, List.map_take, ← inC_flat, ← htake, List.take_take, Nat.mul_one, Nat.min_eq_left hm]
theorem OwnsI.over {w : World} {B g n cap : Nat} {xs : List Int} (h : OwnsI w B (.slice (some ⟨g, 0, none⟩) n cap) xs) (ys : List Int) (hy : ys.length = xs.length) :
    OwnsI (w.setCells g 0 (ys.map (Value.int .i64))) B (.slice (some ⟨g, 0, none⟩) n cap) ys ∧ w.grownBy (w.setCells g 0 (ys.map (Value.int .i64))) (some g) := by
  have hn : n = xs.length := by
    rcases OwnsR.form h with ⟨h0, _⟩ | ⟨g', c', h0, _⟩
    · cases h0
    · cases h0
      rfl
  subst hn
  have h1 := owns_setCells (ys.map (Value.int .i64)) _ 0 w h
  refine ⟨?_, h1.2⟩
  have h2 := h1.1
  rw [setAll_all (by rw [flat_len inC_len, List.length_map, hy, Nat.mul_one])] at h2
  unfold OwnsI OwnsR
  rw [inC_flat, hy]
  exact h2
theorem OwnsI.past {w : World} {B g n cap : Nat} {xs : List Int} (h : OwnsI w B (.slice (some ⟨g, 0, none⟩) n cap) xs) (vs : List Value) (o : Nat) (ho : xs.length ≤ o) :
    OwnsI (w.setCells g o vs) B (.slice (some ⟨g, 0, none⟩) n cap) xs := by
  have hn : n = xs.length := by
    rcases OwnsR.form h with ⟨h0, _⟩ | ⟨g', c', h0, _⟩
    · cases h0
    · cases h0
      rfl
  subst hn
  have h1 := (owns_setCells vs _ o w h).1
  rw [setAll_past _ _ _ (by rw [flat_len inC_len]; omega)] at h1
  exact h1
theorem OwnsI.capLe {w : World} {B g n cap : Nat} {xs : List Int} (h : OwnsI w B (.slice (some ⟨g, 0, none⟩) n cap) xs) : n = xs.length ∧ n ≤ cap := by
  have h1 := OwnsR.capOf h
  rcases OwnsR.form h with ⟨h0, _⟩ | ⟨g', c', h0, _⟩
  · cases h0
  · cases h0
    exact ⟨rfl, h1⟩
theorem holds_owns {w : World} {B g n cap : Nat} {zs : List Int} (h : OwnsI w B (.slice (some ⟨g, 0, none⟩) n cap) zs) : Sort.Holds (Value.int .i64) w g 0 zs.toArray := by
  have hn := h.capLe.1
  subst hn
  intro j hj
  have hj' : j < zs.length := by simpa using hj
  refine ⟨?_, ?_⟩
  · have h1 := OwnsR.cell inC_len h rfl j 0 hj' (by omega)
    simp [inC] at h1
    rw [Nat.zero_add, h1]
    simp [hj']
  · exact World.ownsRow.frozenAt h (0 + j)
theorem grown_grow (w : World) (os : Array Obj) : w.grownBy (Sort.grow w os) none :=
  ⟨rfl, rfl, rfl, by simp [Sort.grow], fun k hk _ => Sort.heap_grow_old w os hk⟩
theorem le_trans_int : ∀ a b c : Int, decide (a ≤ b) = true → decide (b ≤ c) = true → decide (a ≤ c) = true := by
  intro a b c h1 h2
  simp at *
  omega
theorem le_total_int : ∀ a b : Int, (decide (a ≤ b) || decide (b ≤ a)) = true := by
  intro a b
  simp
  omega
/-- slices.Sort, of a row of one's own. -/
theorem sortI_any (B : Nat) (a : Option Addr) (n cap : Nat) (zs : List Int) (w : World) (h : OwnsI w B (.slice a n cap) zs) (hl : zs.length ≤ 4611686018427387903) :
    Calls Tryz.prog 36 #[.slice a n cap] w fun e w' => e = .returned (.tuple #[]) ∧ OwnsI w' B (.slice a n cap) (zs.mergeSort fun x y => decide (x ≤ y)) ∧ w.grownBy w' (Value.slice a n cap).ownBlock := by
  rcases OwnsR.form h with ⟨h0, h1⟩ | ⟨g, c, h0, hbg, hg⟩
  · cases h0
    subst h1
    refine (Tryz.slices_Sort_int_none none 0 w).mono ?_
    rintro e w' ⟨rfl, rfl⟩
    exact ⟨rfl, by simpa using h, World.grownBy.refl _ _⟩
  · cases h0
    have hH := holds_owns h
    refine (Tryz.slices_Sort_int g 0 cap zs w hH hg (by omega)).mono ?_
    rintro e w' ⟨rfl, q, os, rfl⟩
    have hlen : (zs.mergeSort fun x y => decide (x ≤ y)).length = zs.toArray.size := by rw [List.length_mergeSort]; simp
    rw [Lib.sorted_world (Value.int .i64) w g 0 q zs.toArray _ os hH hlen]
    have h2 := OwnsI.over (OwnsR.below h (below_grown (grown_drewN w q))) (zs.mergeSort fun x y => decide (x ≤ y)) (List.length_mergeSort _)
    refine ⟨rfl, OwnsR.kept h2.1 (grown_grow _ os) (.inr (by simp [Value.ownBlock])), ?_⟩
    exact grown_trans (grown_drewN w q) (grown_trans h2.2 (grown_grow _ os) (.inr rfl) (.inl rfl)) (.inl rfl) (.inr rfl)
/-- slices.Compact, of a row of one's own. -/
theorem compactI_any (B : Nat) (a : Option Addr) (n cap : Nat) (zs : List Int) (w : World) (h : OwnsI w B (.slice a n cap) zs) (hl : zs.length ≤ 9223372036854775807) :
    Calls Tryz.prog 37 #[.slice a n cap] w fun e w' => e = .returned (.slice a (Lib.compact zs).length cap) ∧ OwnsI w' B (.slice a (Lib.compact zs).length cap) (Lib.compact zs) ∧ w.grownBy w' (Value.slice a n cap).ownBlock := by
  rcases OwnsR.form h with ⟨h0, h1⟩ | ⟨g, c, h0, hbg, hg⟩
  · cases h0
    subst h1
    refine (Tryz.slices_Compact_int_empty none 0 w).mono ?_
    rintro e w' ⟨rfl, rfl⟩
    exact ⟨rfl, h, World.grownBy.refl _ _⟩
  · cases h0
    have hH := holds_owns h
    refine (Tryz.slices_Compact_int g 0 cap zs w hH hl h.capLe.2).mono ?_
    rintro e w' ⟨rfl, q, rfl⟩
    have hcl := Lib.compact_length_le zs
    have hlen : (Lib.compact zs ++ List.replicate (zs.length - (Lib.compact zs).length) (0 : Int)).length = zs.length := by
      rw [List.length_append, List.length_replicate]
      omega
    rw [Lib.putRow_eq_setCells (Value.int .i64) w g 0 zs.toArray _ q hH (by rw [hlen]; simp)]
    have h2 := OwnsI.over (OwnsR.below h (below_grown (grown_drewN w q))) _ hlen
    have h3 := OwnsI.cut h2.1 (Lib.compact zs).length (by rw [List.length_append]; omega)
    rw [List.take_left' rfl] at h3
    exact ⟨rfl, h3, grown_trans (grown_drewN w q) h2.2 (.inl rfl) (.inr rfl)⟩

theorem compact_mem_at (zs : List Int) (x : Int) : x ∈ Lib.compact zs ↔ ∃ j, j < zs.length ∧ Lib.keeps zs.toArray j = true ∧ zs.toArray[j]! = x := by
  unfold Lib.compact Lib.compactUpTo
  simp only [List.mem_map, List.mem_filter, List.mem_range]
  constructor
  · rintro ⟨j, ⟨h1, h2⟩, h3⟩
    exact ⟨j, h1, h2, h3⟩
  · rintro ⟨j, h1, h2, h3⟩
    exact ⟨j, ⟨h1, h2⟩, h3⟩
theorem arr_at (zs : List Int) (j : Nat) (h : j < zs.length) : zs.toArray[j]! = zs[j] := by simp [h]
theorem le_at {zs : List Int} (h : zs.Pairwise (· ≤ ·)) {i j : Nat} (hj : j < zs.length) (hi : i ≤ j) : zs[i] ≤ zs[j] := by
  rcases Nat.lt_or_ge i j with h1 | h1
  · exact List.pairwise_iff_getElem.mp h i j (by omega) hj h1
  · have : i = j := by omega
    subst this
    omega
theorem compact_asc {zs : List Int} (h : zs.Pairwise (· ≤ ·)) : (Lib.compact zs).Pairwise (· < ·) := by
  unfold Lib.compact Lib.compactUpTo
  rw [List.pairwise_map]
  have h1 : ((List.range zs.length).filter (Lib.keeps zs.toArray)).Pairwise (fun i j => i < j ∧ j < zs.length ∧ Lib.keeps zs.toArray j = true) := by
    have h2 : (List.range zs.length).Pairwise (· < ·) := List.pairwise_lt_range
    refine ((h2.filter (Lib.keeps zs.toArray)).imp_of_mem ?_)
    intro a b _ hb hab
    have hb' := List.mem_filter.mp hb
    exact ⟨hab, List.mem_range.mp hb'.1, hb'.2⟩
  refine h1.imp ?_
  rintro i j ⟨hij, hj, hk⟩
  rw [arr_at zs i (by omega), arr_at zs j hj]
  unfold Lib.keeps at hk
  simp only [decide_eq_true_eq] at hk
  rcases hk with hk | hk
  · omega
  · rw [arr_at zs j hj, arr_at zs (j - 1) (by omega)] at hk
    have h2 := le_at h (i := i) (j := j - 1) (by omega) (by omega)
    have h3 := le_at h (i := j - 1) (j := j) hj (by omega)
    omega
theorem compact_mem {zs : List Int} (x : Int) : x ∈ Lib.compact zs ↔ x ∈ zs := by
  rw [compact_mem_at]
  constructor
  · rintro ⟨j, hj, _, rfl⟩
    rw [arr_at zs j hj]
    exact List.getElem_mem hj
  · intro hx
    obtain ⟨j, hj, rfl⟩ := List.getElem_of_mem hx
    have key : ∀ m j, j ≤ m → (hj : j < zs.length) → ∃ i, i < zs.length ∧ Lib.keeps zs.toArray i = true ∧ zs.toArray[i]! = zs[j] := by
      intro m
      induction m with
      | zero =>
        intro j hjm hj
        have : j = 0 := by omega
        subst this
        exact ⟨0, hj, by simp [Lib.keeps], arr_at zs 0 hj⟩
      | succ m ih =>
        intro j hjm hj
        by_cases hk : Lib.keeps zs.toArray j = true
        · exact ⟨j, hj, hk, arr_at zs j hj⟩
        · unfold Lib.keeps at hk
          simp only [decide_eq_true_eq] at hk
          have h0 : j ≠ 0 := fun e => hk (.inl e)
          have h1 : zs.toArray[j]! = zs.toArray[j - 1]! := Classical.byContradiction fun e => hk (.inr e)
          obtain ⟨i, hi, hki, he⟩ := ih (j - 1) (by omega) (by omega)
          refine ⟨i, hi, hki, ?_⟩
          rw [he, ← arr_at zs (j - 1) (by omega), ← h1, arr_at zs j hj]
    exact key j j (Nat.le_refl _) hj
theorem compact_sort (xs ys : List Int) : Lib.compact ((xs ++ ys).mergeSort fun x y => decide (x ≤ y)) = allL xs ys := by
  refine allIn_one (xs := xs) (ys := ys) ⟨?_, fun x => ?_⟩ (allL_in xs ys)
  · refine compact_asc ?_
    have h1 := List.pairwise_mergeSort (le := fun x y : Int => decide (x ≤ y)) le_trans_int le_total_int (xs ++ ys)
    exact h1.imp (fun h => by simpa using h)
  · rw [compact_mem, List.mem_mergeSort, List.mem_append]

end Go.Proofs.YtljphnjmeckpbaaGreat

namespace Go.Proofs.YtljphnjmeckpbaaGreat
open Go.RowKit

theorem usesName_any (k : Int) (w : World) :
    Calls Tryz.prog 40 #[.int .i64 k] w fun e w' => e = .returned (.bool (usesK k)) ∧ w' = w := by
  by_cases h2 : k = 2
  · subst h2
    go_enter Tryz.func40, Tryz.ntmps40
    go_wp2
    go_ret
    exact ⟨rfl, rfl⟩
  by_cases h3 : k = 3
  · subst h3
    go_enter Tryz.func40, Tryz.ntmps40
    go_wp2
    go_ret
    exact ⟨rfl, rfl⟩
  by_cases h4 : k = 4
  · subst h4
    go_enter Tryz.func40, Tryz.ntmps40
    go_wp2
    go_ret
    exact ⟨rfl, rfl⟩
  by_cases h5 : k = 5
  · subst h5
    go_enter Tryz.func40, Tryz.ntmps40
    go_wp2
    go_ret
    exact ⟨rfl, rfl⟩
  by_cases h6 : k = 6
  · subst h6
    go_enter Tryz.func40, Tryz.ntmps40
    go_wp2
    go_ret
    exact ⟨rfl, rfl⟩
  by_cases h14 : k = 14
  · subst h14
    go_enter Tryz.func40, Tryz.ntmps40
    go_wp2
    go_ret
    exact ⟨rfl, rfl⟩
  by_cases h15 : k = 15
  · subst h15
    go_enter Tryz.func40, Tryz.ntmps40
    go_wp2
    go_ret
    exact ⟨rfl, rfl⟩
  have hE : Hid (usesK k = false) := by
    show _ = _
    simp [usesK, h2, h3, h4, h5, h6, h14, h15]
  rw [hE.out]
  go_enter Tryz.func40, Tryz.ntmps40
  go_wp2
  go_ret
  exact ⟨rfl, rfl⟩

/-- Where the test that UsesOf hands over finds what it reads: all of it below block U. -/
structure UsesAt (ns : List Nd) (nm : ByteArray) (bp bn : Nat) (na : Option Addr) (N nc U : Nat) (w : World) : Prop where
  p : w.cell? ⟨bp, 0, none⟩ = some (.slice na N nc)
  n : w.cell? ⟨bn, 0, none⟩ = some (.string nm)
  row : NdR.Row w U (.slice na N nc) ns
  lp : bp < U
  ln : bn < U
theorem UsesAt.keep {ns : List Nd} {nm : ByteArray} {bp bn : Nat} {na : Option Addr} {N nc U : Nat} {w w' : World} (h : UsesAt ns nm bp bn na N nc U w) (hb : Below U w w') : UsesAt ns nm bp bn na N nc U w' :=
  ⟨(hb.cell (p := ⟨bp, 0, none⟩) h.lp).trans h.p, (hb.cell (p := ⟨bn, 0, none⟩) h.ln).trans h.n, h.row.keep hb, h.lp, h.ln⟩

set_option maxRecDepth 100000 in
set_option maxHeartbeats 3200000 in
/-- The test: a node that does not use the name is struck. -/
theorem uses1_any (ns : List Nd) (nm : ByteArray) (bp bn : Nat) (na : Option Addr) (N nc U j : Nat) (w : World) (h : UsesAt ns nm bp bn na N nc U w) (hj : j < ns.length) :
    Calls Tryz.prog 39 #[.int .i64 (j : Int), .pointer (some ⟨bp, 0, none⟩), .pointer (some ⟨bn, 0, none⟩)] w fun e w' => e = .returned (.bool (!usesB ns nm (j : Int))) ∧ ∃ m, w' = w.drewN m := by
  obtain ⟨c0, cn, hR, _, _⟩ := h
  have hN : N = ns.length := by
    obtain ⟨a, c, e⟩ := hR.len
    cases e
    rfl
  have hj0 : (0 : Int) ≤ (j : Int) := by omega
  have hj1 : (j : Int) < (N : Int) := by omega
  obtain ⟨nb, no, ka, kc, rfl, hnb, n0, n1, n2, n3, _⟩ := RowNd.at hR j hj
  have hub : usesB ns nm (j : Int) = (usesK ns[j].kind && sameB ns[j].name nm) := by
    unfold usesB
    rw [Int.toNat_natCast]
    simp [List.getD, hj]
  rw [hub]
  obtain ⟨nx, hnx⟩ : ∃ nx, Hid (ns[j].name = nx) := ⟨_, (rfl : ns[j].name = ns[j].name)⟩
  obtain ⟨kx, hkx⟩ : ∃ kx, Hid (ns[j].kind = kx) := ⟨_, (rfl : ns[j].kind = ns[j].kind)⟩
  rw [hkx.out, hnx.out]
  rw [hkx.out] at n0
  rw [hnx.out] at n2
  clear n1 n3 hub hR hN
  have cK : Hid (∀ W, Calls Tryz.prog 40 #[.int .i64 kx] W fun e w' => e = .returned (.bool (usesK kx)) ∧ w' = W) := fun W => usesName_any kx W
  cases hu : usesK kx
  · rw [hu] at cK
    go_enter Tryz.func39, Tryz.ntmps39
    go_wp2_with (go_quiet ((go_at_call 40; refine Calls.quiet_of_same (cK.out _))))
    go_ret
    exact ⟨rfl, _, rfl⟩
  · rw [hu] at cK
    cases hn : sameB nx nm
    · unfold sameB at hn
      go_enter Tryz.func39, Tryz.ntmps39
      go_wp2_with (go_quiet ((go_at_call 40; refine Calls.quiet_of_same (cK.out _))))
      go_ret
      exact ⟨rfl, _, rfl⟩
    · unfold sameB at hn
      go_enter Tryz.func39, Tryz.ntmps39
      go_wp2_with (go_quiet ((go_at_call 40; refine Calls.quiet_of_same (cK.out _))))
      go_ret
      exact ⟨rfl, _, rfl⟩

set_option maxRecDepth 100000 in
set_option maxHeartbeats 3200000 in
/-- slices.IndexFunc with that test: the first element that is struck, or -1. -/
theorem indexI_any (ns : List Nd) (nm : ByteArray) (bp bn : Nat) (na : Option Addr) (N nc U : Nat) (a : Option Addr) (n cap : Nat) (zs : List Int) (w : World) (h : UsesAt ns nm bp bn na N nc U w) (hU : U ≤ w.heap.size)
    (hv : RowI w w.heap.size (.slice a n cap) zs) (hz : ∀ x ∈ zs, 0 ≤ x ∧ x < (ns.length : Int)) (hl : zs.length ≤ 4194304) :
    Calls Tryz.prog 69 #[.slice a n cap, .func (.func 39) #[] #[.pointer (some ⟨bp, 0, none⟩), .pointer (some ⟨bn, 0, none⟩)]] w fun e w' =>
      (∃ r : Int, e = .returned (.int .i64 r) ∧ ((r = -1 ∧ ∀ x ∈ zs, usesB ns nm x = true) ∨ ∃ i : Nat, r = (i : Int) ∧ ∃ hi : i < zs.length, usesB ns nm zs[i] = false ∧ ∀ j, (hj : j < zs.length) → j < i → usesB ns nm zs[j] = true)) ∧ Below w.heap.size w w' := by
  have hn := hv.cap.1
  obtain ⟨X, hX⟩ : ∃ X, X = n := ⟨_, rfl⟩
  subst hX
  have HX : Hid (zs.length = X) := hn
  have HV : Hid (RowI w w.heap.size (.slice a X cap) zs ∧ ∀ x ∈ zs, 0 ≤ x ∧ x < (ns.length : Int)) := ⟨hv, hz⟩
  have HU : Hid (UsesAt ns nm bp bn na N nc U w) := h
  rw [hn] at hl
  clear hv hz h hn
  go_enter Tryz.func69, Tryz.ntmps69
  go_wp2
  go_loopw [8] (fun i wr => ∃ k : Nat, k ≤ X ∧ i = .int .i64 (k : Int) ∧ Hid (∀ j, (hj : j < zs.length) → j < k → usesB ns nm zs[j] = true) ∧ Below w.heap.size w wr) (fun i _ => X - (intOf i).toNat)
  case atStart => exact ⟨0, Nat.zero_le _, rfl, fun j _ hj => by omega, Below.refl _ _⟩
  case round =>
    obtain ⟨k, hk, rfl, HK, hbw⟩ := hrel
    by_cases hlt : k < X
    · have hk1 : (k : Int) < (X : Int) := by omega
      have hk0 : (0 : Int) ≤ (k : Int) := by omega
      have hkl : k < zs.length := by have := HX.out; omega
      obtain ⟨b, off, rfl, hb, c0⟩ := RowI.at HV.out.1 k hkl
      have hxj := HV.out.2 zs[k] (List.getElem_mem hkl)
      obtain ⟨j, hj⟩ : ∃ j : Nat, Hid (zs[k] = (j : Int)) := ⟨zs[k].toNat, (by show _ = _; omega)⟩
      rw [hj.out] at c0 hxj
      have d0 := (hbw.cell (p := ⟨b, off + k, none⟩) (by show b < _; omega)).trans c0
      have hsz := hbw.size
      obtain ⟨r, hr⟩ : ∃ r, Hid (usesB ns nm (j : Int) = r) := ⟨_, (rfl : usesB ns nm (j : Int) = usesB ns nm (j : Int))⟩
      have cQ : Hid (Calls Tryz.prog 39 #[.int .i64 (j : Int), .pointer (some ⟨bp, 0, none⟩), .pointer (some ⟨bn, 0, none⟩)] wr fun e w' => e = .returned (.bool (!r)) ∧ ∃ m, w' = wr.drewN m) := by
        have := uses1_any ns nm bp bn na N nc U j wr (HU.out.keep (hbw.mono hU)) (by omega)
        rw [hr.out] at this
        exact this
      clear c0
      go_wp2_with fail
      go_at_call 39
      refine Calls.mono cQ.out ?_
      rintro e w1 ⟨rfl, q, rfl⟩
      have HB1 : Hid (Below w.heap.size w (wr.drewN q)) := hbw.trans ((below_grown (grown_drewN wr q)).mono hsz)
      generalize wr.drewN q = w1 at HB1 ⊢
      clear cQ d0 hbw
      cases r
      · have HF : Hid (∃ i : Nat, (k : Int) = (i : Int) ∧ ∃ hi : i < zs.length, usesB ns nm zs[i] = false ∧ ∀ j, (hj : j < zs.length) → j < i → usesB ns nm zs[j] = true) := ⟨k, rfl, hkl, by rw [hj.out]; exact hr.out, HK.out⟩
        go_wp2
        go_ret
        exact ⟨⟨_, rfl, .inr HF.out⟩, HB1.out⟩
      · have HK1 : Hid (∀ j, (hj : j < zs.length) → j < k + 1 → usesB ns nm zs[j] = true) := fun i hi hik => by
          by_cases e : i = k
          · subst e
            rw [hj.out]
            exact hr.out
          · exact HK.out i hi (by omega)
        go_wp2
        go_roundw
        case rel => exact ⟨k + 1, by omega, by go_num, HK1, HB1.out⟩
        case measure => simp [intOf]; omega
    · have HF : Hid (∀ x ∈ zs, usesB ns nm x = true) := fun x hx => by
        obtain ⟨i, hi, rfl⟩ := List.getElem_of_mem hx
        exact HK.out i hi (by have := HX.out; omega)
      go_wp2
      go_ret
      exact ⟨⟨_, rfl, .inl ⟨rfl, HF.out⟩⟩, hbw⟩

end Go.Proofs.YtljphnjmeckpbaaGreat

namespace Go.Proofs.YtljphnjmeckpbaaGreat
open Go.RowKit

/-- Where DeleteFunc stands: i elements kept of the first j, the row behind them as it was. -/
structure DelSt (ns : List Nd) (nm : ByteArray) (U g cap X : Nat) (zs : List Int) (w wr : World) (i j : Nat) (cur : List Int) : Prop where
  own : OwnsI wr U (.slice (some ⟨g, 0, none⟩) X cap) cur
  len : cur.length = X
  done : cur.take i = usesF ns nm (zs.take j)
  rest : ∀ t, j ≤ t → (ht : t < zs.length) → (hc : t < cur.length) → cur[t] = zs[t]
  grown : w.grownBy wr (some g)
theorem DelSt.draw {ns : List Nd} {nm : ByteArray} {U g cap X : Nat} {zs : List Int} {w wr : World} {i j : Nat} {cur : List Int} (h : DelSt ns nm U g cap X zs w wr i j cur) (q : Nat) : DelSt ns nm U g cap X zs w (wr.drewN q) i j cur :=
  ⟨OwnsR.below h.own (below_grown (grown_drewN wr q)), h.len, h.done, h.rest, grown_trans h.grown (grown_drewN wr q) (.inr rfl) (.inl rfl)⟩
theorem DelSt.skip {ns : List Nd} {nm : ByteArray} {U g cap X : Nat} {zs : List Int} {w wr : World} {i j : Nat} {cur : List Int} (h : DelSt ns nm U g cap X zs w wr i j cur) (hj : j < zs.length) (hx : usesB ns nm zs[j] = false) : DelSt ns nm U g cap X zs w wr i (j + 1) cur := by
  refine ⟨h.own, h.len, ?_, fun t ht => h.rest t (by omega), h.grown⟩
  rw [h.done, usesF_take ns nm zs j hj, hx]
  simp
theorem DelSt.keep {ns : List Nd} {nm : ByteArray} {U g cap X : Nat} {zs : List Int} {w wr : World} {i j : Nat} {cur : List Int} (h : DelSt ns nm U g cap X zs w wr i j cur) (hj : j < zs.length) (hi : i < cur.length) (hij : i < j) (hx : usesB ns nm zs[j] = true) :
    DelSt ns nm U g cap X zs w (wr.setCell ⟨g, i, none⟩ (.int .i64 zs[j])) (i + 1) (j + 1) (cur.set i zs[j]) := by
  have hs := OwnsR.stored inC_len h.own h.own.capLe.1 i 0 hi (by omega) zs[j] (.int .i64 zs[j]) rfl
  rw [Nat.mul_one, Nat.add_zero] at hs
  refine ⟨hs, by rw [List.length_set]; exact h.len, ?_, fun t ht htz htc => ?_, grown_trans h.grown (grown_setCell wr ⟨g, i, none⟩ _) (.inr rfl) (.inr rfl)⟩
  · rw [usesF_take ns nm zs j hj, hx, if_pos rfl, ← h.done]
    apply List.ext_getElem
    · simp
      omega
    · intro t h1 h2
      rw [List.getElem_take, List.getElem_set]
      have hl : (cur.take i).length = i := by rw [List.length_take]; omega
      by_cases e : i = t
      · subst e
        rw [if_pos rfl, List.getElem_append_right (by omega)]
        simp [hl]
      · rw [if_neg e, List.getElem_append_left (by simp at h1; omega), List.getElem_take]
  · rw [List.getElem_set, if_neg (by omega)]
    exact h.rest t (by omega) htz (by rw [List.length_set] at htc; exact htc)

set_option maxRecDepth 100000 in
set_option maxHeartbeats 3200000 in
theorem deleteI_any (ns : List Nd) (nm : ByteArray) (bp bn : Nat) (na : Option Addr) (N nc U : Nat) (a : Option Addr) (n cap : Nat) (zs : List Int) (w : World) (h : UsesAt ns nm bp bn na N nc U w) (hU : U ≤ w.heap.size)
    (hv : OwnsI w U (.slice a n cap) zs) (hz : ∀ x ∈ zs, 0 ≤ x ∧ x < (ns.length : Int)) (hl : zs.length ≤ 4194304) :
    Calls Tryz.prog 38 #[.slice a n cap, .func (.func 39) #[] #[.pointer (some ⟨bp, 0, none⟩), .pointer (some ⟨bn, 0, none⟩)]] w fun e w' =>
      (∃ b m c, e = .returned (.slice b m c) ∧ OwnsI w' U (.slice b m c) (usesF ns nm zs)) ∧ Below U w w' := by
  have hn := hv.row.cap.1
  obtain ⟨X, hX⟩ : ∃ X, X = n := ⟨_, rfl⟩
  subst hX
  have HX : Hid (zs.length = X) := hn
  have HV : Hid (OwnsI w U (.slice a X cap) zs ∧ ∀ x ∈ zs, 0 ≤ x ∧ x < (ns.length : Int)) := ⟨hv, hz⟩
  have HU : Hid (UsesAt ns nm bp bn na N nc U w) := h
  have cI : Hid (Calls Tryz.prog 69 #[.slice a X cap, .func (.func 39) #[] #[.pointer (some ⟨bp, 0, none⟩), .pointer (some ⟨bn, 0, none⟩)]] w fun e w' =>
      (∃ r : Int, e = .returned (.int .i64 r) ∧ ((r = -1 ∧ ∀ x ∈ zs, usesB ns nm x = true) ∨ ∃ i : Nat, r = (i : Int) ∧ ∃ hi : i < zs.length, usesB ns nm zs[i] = false ∧ ∀ j, (hj : j < zs.length) → j < i → usesB ns nm zs[j] = true)) ∧ Below w.heap.size w w') := indexI_any ns nm bp bn na N nc U a X cap zs w h hU hv.row hz hl
  rw [hn] at hl
  clear hv hz h hn
  go_enter Tryz.func38, Tryz.ntmps38
  go_wp2_with fail
  go_at_call 69
  refine Calls.mono cI.out ?_
  rintro e w1 ⟨⟨r, rfl, hr⟩, hb1⟩
  have HO : Hid (OwnsI w1 U (.slice a X cap) zs ∧ Below U w w1 ∧ UsesAt ns nm bp bn na N nc U w1 ∧ U ≤ w1.heap.size) := ⟨OwnsR.below HV.out.1 hb1, hb1.mono hU, HU.out.keep (hb1.mono hU), Nat.le_trans hU hb1.size⟩
  clear cI hb1
  rcases hr with ⟨rfl, hall⟩ | ⟨i, rfl, hi, hx, hbe⟩
  · have HF : Hid (usesF ns nm zs = zs) := List.filter_eq_self.mpr hall
    clear hall
    go_wp2
    go_ret
    exact ⟨⟨a, X, cap, rfl, by rw [HF.out]; exact HO.out.1⟩, HO.out.2.1⟩
  obtain ⟨g, hga⟩ : ∃ g, Hid (a = some ⟨g, 0, none⟩) := by
    rcases OwnsR.form HO.out.1 with ⟨h0, h1⟩ | ⟨g, c, h0, _, _⟩
    · rw [h1] at hi
      simp at hi
    · cases h0
      exact ⟨g, rfl⟩
  have hga2 := hga.out
  subst hga2
  have hiX : i < X := by have := HX.out; omega
  have HS : Hid (DelSt ns nm U g cap X zs w1 w1 i (i + 1) zs) := by
    refine ⟨HO.out.1, HX.out, ?_, fun t _ _ _ => rfl, World.grownBy.refl _ _⟩
    rw [usesF_take ns nm zs i hi, hx]
    simp
    unfold usesF
    symm
    rw [List.filter_eq_self]
    intro x hxm
    obtain ⟨t, ht, rfl⟩ := List.getElem_of_mem hxm
    rw [List.length_take] at ht
    rw [List.getElem_take]
    exact hbe t (by omega) (by omega)
  have hin : ¬ (i : Int) = -1 := by omega
  clear hx hbe hi
  go_wp2_with fail
  go_loopw [5, 6] (fun si sj wr => ∃ (i j : Nat) (cur : List Int), i < j ∧ j ≤ X ∧ si = .int .i64 (i : Int) ∧ sj = .int .i64 (j : Int) ∧ Hid (DelSt ns nm U g cap X zs w1 wr i j cur)) (fun _ sj _ => X - (intOf sj).toNat)
  case atStart => exact ⟨i, i + 1, zs, by omega, by omega, rfl, by go_num, HS.out⟩
  case round =>
    obtain ⟨i, j, cur, hij, hjX, rfl, rfl, HD⟩ := hrel
    have hgU : U ≤ g := (OwnsR.lt HD.out.own g (by simp [fpOf, Value.ownBlock])).1
    have hBU : Below U w1 wr := (Below.refl U w1).grown HD.out.grown HO.out.2.2.2 (fun k hk => by cases hk; exact hgU)
    have hj0 : (0 : Int) ≤ (j : Int) := by omega
    have hi0 : (0 : Int) ≤ (i : Int) := by omega
    have hi1 : (i : Int) < (X : Int) ∨ X ≤ i := by omega
    by_cases hlt : j < X
    · have hj1 : (j : Int) < (X : Int) := by omega
      have hiX2 : (i : Int) < (X : Int) := by omega
      have hjz : j < zs.length := by have := HX.out; omega
      have hjc : j < cur.length := by have := HD.out.len; omega
      obtain ⟨b, off, he, hb, c0⟩ := RowI.at HD.out.own.row j hjc
      cases he
      simp only [Nat.zero_add] at c0
      rw [HD.out.rest j (Nat.le_refl _) hjz hjc] at c0
      have hxj := HV.out.2 zs[j] (List.getElem_mem hjz)
      obtain ⟨x, hx⟩ : ∃ x : Nat, Hid (zs[j] = (x : Int)) := ⟨zs[j].toNat, (by show _ = _; omega)⟩
      rw [hx.out] at c0 hxj
      obtain ⟨r, hr⟩ : ∃ r, Hid (usesB ns nm (x : Int) = r) := ⟨_, (rfl : usesB ns nm (x : Int) = usesB ns nm (x : Int))⟩
      have cQ : Hid (Calls Tryz.prog 39 #[.int .i64 (x : Int), .pointer (some ⟨bp, 0, none⟩), .pointer (some ⟨bn, 0, none⟩)] wr fun e w' => e = .returned (.bool (!r)) ∧ ∃ m, w' = wr.drewN m) := by
        have := uses1_any ns nm bp bn na N nc U x wr (HO.out.2.2.1.keep hBU) (by omega)
        rw [hr.out] at this
        exact this
      go_wp2_with fail
      go_at_call 39
      refine Calls.mono cQ.out ?_
      rintro e w2 ⟨rfl, q, rfl⟩
      have HD2 : Hid (DelSt ns nm U g cap X zs w1 (wr.drewN q) i j cur) := HD.out.draw q
      generalize wr.drewN q = w2 at HD2 ⊢
      clear cQ c0 HD hBU
      cases r
      · have HD3 : Hid (DelSt ns nm U g cap X zs w1 w2 i (j + 1) cur) := HD2.out.skip hjz (by rw [hx.out]; exact hr.out)
        clear HD2
        go_wp2
        go_roundw
        case rel => first | exact ⟨i, j + 1, cur, by omega, by omega, rfl, by go_num, HD3⟩ | exact ⟨_, _, _, _, _, _, _, _, _, _, _, _, _, _, _, _, _, _, _, _, _, _, _, ⟨i, j + 1, cur, by omega, by omega, rfl, by go_num, HD3⟩, rfl⟩
        case measure => simp [intOf]; omega
      · have hic : i < cur.length := by have := HD2.out.len; omega
        have HD3 : Hid (DelSt ns nm U g cap X zs w1 (w2.setCell ⟨g, i, none⟩ (.int .i64 (x : Int))) (i + 1) (j + 1) (cur.set i (x : Int))) := by
          have h1 := HD2.out.keep hjz hic hij (by rw [hx.out]; exact hr.out)
          rw [hx.out] at h1
          exact h1
        obtain ⟨b, off, he, _, c1⟩ := RowI.at HD2.out.own.row i hic
        cases he
        simp only [Nat.zero_add] at c1
        have f1 : w2.frozen? ⟨g, i, none⟩ = false := World.ownsRow.frozenAt (by have h9 := HD2.out.own; rw [h9.capLe.1] at h9; exact h9) i
        obtain ⟨y, hy⟩ : ∃ y, Hid (cur[i] = y) := ⟨_, (rfl : cur[i] = cur[i])⟩
        rw [hy.out] at c1
        clear HD2
        go_wp2
        go_roundw
        case rel => first | exact ⟨i + 1, j + 1, cur.set i (x : Int), by omega, by omega, by go_num, by go_num, HD3⟩ | exact ⟨_, _, _, _, _, _, _, _, _, _, _, _, _, _, _, _, _, _, _, _, _, _, _, ⟨i + 1, j + 1, cur.set i (x : Int), by omega, by omega, by go_num, by go_num, HD3⟩, rfl⟩
        case measure => simp [intOf]; omega
    · have hjX2 : j = X := by omega
      subst hjX2
      have hiX2 : (i : Int) < (j : Int) := by omega
      have hiXl : (i : Int) ≤ (j : Int) := by omega
      have hown := HD.out.own
      have hcap := hown.capLe
      have hlen := HD.out.len
      have hicap : (i : Int) ≤ (cap : Int) := by omega
      have hjcap : (j : Int) ≤ (cap : Int) := by omega
      have hcl : ∀ ty, (Builtin.clear_ #[35] ty #[.slice (some ⟨g, i, none⟩) (j - i) (cap - i)]).run Tryz.prog wr = .ok (.tuple #[]) (wr.setCells g i (List.replicate (j - i) (.int .i64 0))) :=
        fun ty => Lib.run_clear_slice wr _ _ ty (.int .i64 0) Tryz.underlying35 Tryz.zeroValue3 rfl rfl g i _ _ (by omega) (fun t ht => by
          obtain ⟨b, off, he, _, c1⟩ := RowI.at hown.row (i + t) (by omega)
          cases he
          rw [Nat.zero_add] at c1
          rw [c1]
          rfl) (fun t ht => World.ownsRow.frozenAt (by have h9 := hown; rw [h9.capLe.1] at h9; exact h9) (i + t))
      have HZ : Hid (OwnsI (wr.setCells g i (List.replicate (j - i) (.int .i64 0))) U (.slice (some ⟨g, 0, none⟩) i cap) (usesF ns nm zs) ∧ Below U w (wr.setCells g i (List.replicate (j - i) (.int .i64 0)))) := by
        have h1 := OwnsI.cut hown i (by omega)
        rw [HD.out.done, List.take_of_length_le (by have := HX.out; omega)] at h1
        have hfl : (usesF ns nm zs).length = i := h1.capLe.1.symm
        refine ⟨OwnsI.past h1 _ _ (by omega), ?_⟩
        have h2 := (owns_setCells (List.replicate (j - i) (.int .i64 0)) _ i wr (by have h9 := hown; rw [h9.capLe.1] at h9; exact h9)).2
        have h3 : w1.grownBy (wr.setCells g i (List.replicate (j - i) (.int .i64 0))) (some g) := grown_trans HD.out.grown h2 (.inr rfl) (.inr rfl)
        exact HO.out.2.1.grown h3 HO.out.2.2.2 (fun k hk => by cases hk; exact hgU)
      clear HD hown hcap hlen hBU
      go_wp2
      go_ret
      exact ⟨⟨_, _, _, rfl, HZ.out.1⟩, HZ.out.2⟩

end Go.Proofs.YtljphnjmeckpbaaGreat

namespace Go.Proofs.YtljphnjmeckpbaaGreat
open Go.RowKit

set_option maxRecDepth 100000 in
set_option maxHeartbeats 3200000 in
/-- slices.Grow(nil, n): nothing, with room for n. -/
theorem growI_any (n : Nat) (w : World) (hl : n ≤ 4194304) :
    Calls Tryz.prog 66 #[.slice none 0 0, .int .i64 (n : Int)] w fun e w' => (∃ a cap, e = .returned (.slice a 0 cap) ∧ OwnsI w' w.heap.size (.slice a 0 cap) []) ∧ Below w.heap.size w w' := by
  by_cases h0 : n = 0
  · subst h0
    go_enter Tryz.func66, Tryz.ntmps66
    go_wp2
    go_ret
    exact ⟨⟨none, 0, rfl, ownsR_nil _ _ _ _ _⟩, Below.refl _ _⟩
  have hn0 : ¬ (n : Int) < 0 := by omega
  have hn1 : (0 : Int) < (n : Int) := by omega
  have hn2 : (n : Int) > 0 := by omega
  obtain ⟨i, hi, hz0, hz1, hz2⟩ := info_parts Tryz.infoInt
  have hr : ∀ ty, (Builtin.append_ #[35, 3] ty #[.slice none 0 0, .int .i64 (n : Int)]).run Tryz.prog w = .ok (.slice (some ⟨w.heap.size, 0, none⟩) n (grownCap w n 0 3)) (w.drew.alloc (.cells (Builtin.zeroCells (Value.int .i64 0).cells n ++ Builtin.zeroCells (Value.int .i64 0).cells (grownCap w n 0 3 - n)) 3)) := fun ty =>
    Lib.run_append_nil_zeros w _ _ ty _ i (.int .i64 0) .i64 .i64 Tryz.underlying35 Tryz.underlying3 hi hz0 n (by omega) (by omega) (by omega) (by rw [hz2]; omega)
  obtain ⟨C, hC⟩ : ∃ C, grownCap w n 0 3 = C := ⟨_, rfl⟩
  have hCn : n ≤ C ∧ C ≤ maxLen := by
    rw [← hC]
    exact ⟨grownCap_ge _ _ _ _, grownCap_le_maxLen _ _ _ _ (by unfold maxLen; omega)⟩
  rw [hC] at hr
  obtain ⟨W2, hW2⟩ : ∃ W2, w.drew.alloc (.cells (Builtin.zeroCells (Value.int .i64 0).cells n ++ Builtin.zeroCells (Value.int .i64 0).cells (C - n)) 3) = W2 := ⟨_, rfl⟩
  have HW : Hid (OwnsI W2 w.heap.size (.slice (some ⟨w.heap.size, 0, none⟩) 0 C) [] ∧ Below w.heap.size w W2) := by
    rw [← hW2]
    refine ⟨⟨rfl, .inr ⟨w.heap.size, C, _, rfl, Nat.le_refl _, heap_alloc_new _ _, Nat.zero_le _, hCn.2, ?_, rfl⟩⟩, by go_grown⟩
    have h1 : (Value.int .i64 0).cells.size = 1 := rfl
    simp [Builtin.zeroCells, h1]
    omega
  rw [hW2] at hr
  clear hi hz0 hz1 hz2 hW2
  have hC0 : (0 : Int) ≤ (C : Int) := by omega
  go_enter Tryz.func66, Tryz.ntmps66
  go_wp2_with (at_builtin; refine Lib.wpList_append_run _ rfl _ _ _ _ rfl _ _ rfl rfl _ _ (hr _) ?_)
  go_ret
  exact ⟨⟨_, _, rfl, HW.out.1⟩, HW.out.2⟩

/-- What stands ahead of place t of two rows. -/
def catTo (xs ys : List Int) : Nat → List Int
  | 0 => []
  | 1 => xs
  | _ => xs ++ ys

set_option maxRecDepth 100000 in
set_option maxHeartbeats 6400000 in
theorem concatI_any (pb cc : Nat) (a1 a2 : Option Addr) (n1 c1 n2 c2 : Nat) (xs ys : List Int) (w : World) (hpb : pb < w.heap.size)
    (h0 : w.cell? ⟨pb, 0, none⟩ = some (.slice a1 n1 c1)) (h1 : w.cell? ⟨pb, 1, none⟩ = some (.slice a2 n2 c2)) (hx : OwnsI w 0 (.slice a1 n1 c1) xs) (hy : OwnsI w 0 (.slice a2 n2 c2) ys) (hl1 : xs.length ≤ 1048576) (hl2 : ys.length ≤ 1048576) :
    Calls Tryz.prog 34 #[.slice (some ⟨pb, 0, none⟩) 2 cc] w fun e w' => (∃ a n c, e = .returned (.slice a n c) ∧ OwnsI w' w.heap.size (.slice a n c) (xs ++ ys)) ∧ Below w.heap.size w w' := by
  have hn1 := hx.row.cap.1
  have hn2 := hy.row.cap.1
  have HX : Hid (RowI w w.heap.size (.slice a1 n1 c1) xs ∧ RowI w w.heap.size (.slice a2 n2 c2) ys ∧ xs.length = n1 ∧ ys.length = n2) := ⟨hx.row, hy.row, hn1, hn2⟩
  have HZ1 : Hid (a1 = none → n1 = 0 ∧ c1 = 0 ∧ xs = []) := fun e => by
    rcases OwnsR.form hx with ⟨h2, h3⟩ | ⟨g, c, h2, _⟩
    · cases h2
      exact ⟨rfl, rfl, h3⟩
    · rw [e] at h2
      cases h2
  have HZ2 : Hid (a2 = none → n2 = 0 ∧ c2 = 0 ∧ ys = []) := fun e => by
    rcases OwnsR.form hy with ⟨h2, h3⟩ | ⟨g, c, h2, _⟩
    · cases h2
      exact ⟨rfl, rfl, h3⟩
    · rw [e] at h2
      cases h2
  have hl1' : n1 ≤ 1048576 := by omega
  have hl2' : n2 ≤ 1048576 := by omega
  have cG : Hid (∀ W, Calls Tryz.prog 66 #[.slice none 0 0, .int .i64 ((n1 : Int) + (n2 : Int))] W fun e w' => (∃ a cap, e = .returned (.slice a 0 cap) ∧ OwnsI w' W.heap.size (.slice a 0 cap) []) ∧ Below W.heap.size W w') := fun W => growI_any (n1 + n2) W (by omega)
  have HC : Hid (w.cell? ⟨pb, 0, none⟩ = some (.slice a1 n1 c1) ∧ w.cell? ⟨pb, 1, none⟩ = some (.slice a2 n2 c2)) := ⟨h0, h1⟩
  clear hx hy hn1 hn2 hl1 hl2
  go_enter Tryz.func34, Tryz.ntmps34
  go_wp2
  go_loopw [3, 11] (fun s i wr => ∃ t : Nat, t ≤ 2 ∧ i = .int .i64 (t : Int) ∧ s = .int .i64 (if t = 0 then 0 else if t = 1 then (n1 : Int) else (n1 : Int) + (n2 : Int)) ∧ Below w.heap.size w wr) (fun _ i _ => 2 - (intOf i).toNat)
  case atStart => exact ⟨0, by omega, rfl, rfl, Below.refl _ _⟩
  case round =>
    obtain ⟨t, ht, rfl, rfl, hbw⟩ := hrel
    have d0 := (hbw.cell (p := ⟨pb, 0, none⟩) hpb).trans HC.out.1
    have d1 := (hbw.cell (p := ⟨pb, 1, none⟩) hpb).trans HC.out.2
    have hs0 : ¬ (n1 : Int) < 0 := by omega
    have hs1 : ¬ (n1 : Int) + (n2 : Int) < 0 := by omega
    rcases (by omega : t = 0 ∨ t = 1 ∨ t = 2) with rfl | rfl | rfl
    · go_wp2
      go_roundw
      case rel => exact ⟨1, by omega, by go_num, by simp, hbw⟩
      case measure => simp [intOf]
    · go_wp2
      go_roundw
      case rel => exact ⟨2, by omega, by go_num, by simp, hbw⟩
      case measure => simp [intOf]
    have hsz0 := hbw.size
    have HBW : Hid (Below w.heap.size w wr) := hbw
    clear hbw d0 d1
    go_wp2_with fail
    go_at_call 66
    refine Calls.mono (cG.out _) ?_
    rintro e w2 ⟨⟨ga, gc, rfl, hog⟩, hb2⟩
    have HQ0 : Hid (OwnsI w2 w.heap.size (.slice ga 0 gc) [] ∧ Below w.heap.size w w2) := ⟨owns_base hog hsz0, HBW.out.trans (hb2.mono hsz0)⟩
    obtain ⟨i, hi, hz0, hz1, hz2⟩ := info_parts Tryz.infoInt
    clear hog hb2 HBW cG
    go_wp2_with fail
    go_loopw [6, 27] (fun o i wr => ∃ (t : Nat) (oa : Option Addr) (ol oc : Nat), t ≤ 2 ∧ i = .int .i64 (t : Int) ∧ o = .slice oa ol oc ∧ ol ≤ 2097152 ∧ Hid (OwnsI wr w.heap.size (.slice oa ol oc) (catTo xs ys t) ∧ Below w.heap.size w wr)) (fun _ i _ => 2 - (intOf i).toNat)
    case atStart => exact ⟨0, ga, 0, gc, by omega, rfl, rfl, by omega, HQ0.out⟩
    case round =>
      obtain ⟨t, oa, ol, oc, ht, rfl, rfl, hol, HQ⟩ := hrel
      clear HQ0
      have hsz : w.heap.size ≤ wr.heap.size := HQ.out.2.size
      rcases (by omega : t = 0 ∨ t = 1 ∨ t = 2) with rfl | rfl | rfl
      rotate_left
      rotate_left
      · have HZ : Hid (OwnsI wr w.heap.size (.slice oa ol oc) (xs ++ ys) ∧ Below w.heap.size w wr) := HQ.out
        clear HQ
        go_wp2
        go_ret
        exact ⟨⟨_, _, _, rfl, HZ.out.1⟩, HZ.out.2⟩
      · have e0 := (HQ.out.2.cell (p := ⟨pb, 0, none⟩) hpb).trans HC.out.1
        have HS0 : Hid (RowI wr w.heap.size (.slice a1 n1 c1) xs) := HX.out.1.keep HQ.out.2
        cases hc : a1 with
        | none =>
          obtain ⟨hz1, hz2, hz3⟩ := HZ1.out hc
          rw [hc, hz1, hz2] at e0
          have HQ2 : Hid (OwnsI wr w.heap.size (.slice oa ol oc) (catTo xs ys 1) ∧ Below w.heap.size w wr) := by
            have h9 := HQ.out
            simp only [catTo] at h9 ⊢
            rw [hz3]
            exact h9
          clear hz1 hz2 hz3 hc
          go_wp2_with (at_builtin; go_must (refine wpList_append_own_none rfl _ _ 35 rfl w.heap.size 3 _ 1 Tryz.underlying35 hi _ _ _ rfl HQ.out.1 rfl ?_))
          go_roundw
          case rel => first | exact ⟨1, oa, ol, oc, by omega, by go_num, rfl, hol, HQ2⟩ | ((repeat refine Exists.intro _ ?_); refine ⟨?_, rfl⟩; exact ⟨1, oa, ol, oc, by omega, by go_num, rfl, hol, HQ2⟩)
          case measure => simp [intOf]
        | some ad =>
          rw [hc] at e0
          have HS : Hid (RowI wr w.heap.size (.slice (some ad) n1 c1) xs) := by rw [← hc]; exact HS0.out
          have hln : (catTo xs ys 0).length + xs.length ≤ 10000000 := by
            have := HX.out.2.2.1
            have := HX.out.2.2.2
            simp only [catTo, List.length_nil]
            omega
          go_wp2_with (at_builtin; go_must (refine appendI rfl _ _ 35 rfl w.heap.size Tryz.underlying35 Tryz.infoInt HQ.out.1 xs w.heap.size ad n1 c1 HS.out rfl rfl hln hsz ?_); intro v4 w4 hown4 hg4 hn4; obtain ⟨qa, qc, rfl⟩ := RowR.len hown4.row)
          have HQ2 : Hid (OwnsI w4 w.heap.size (.slice qa (catTo xs ys 0 ++ xs).length qc) (catTo xs ys 1) ∧ Below w.heap.size w w4) := by
            have hb4 : Below w.heap.size w w4 := HQ.out.2.grown hg4 hsz (fun k hk => (OwnsR.lt HQ.out.1 k (by simp [fpOf, hk])).1)
            refine ⟨?_, hb4⟩
            have h9 := hown4
            simp only [catTo, List.nil_append] at h9 ⊢
            exact h9
          have hol2 : (catTo xs ys 0 ++ xs).length ≤ 2097152 := by
            have := HX.out.2.2.1
            have := HX.out.2.2.2
            simp only [catTo, List.length_append, List.length_nil]
            omega
          clear hown4 hg4 hn4
          rw [List.length_append] at HQ2 hol2
          go_wp2
          go_roundw
          case rel => first | exact ⟨1, qa, _, qc, by omega, by go_num, rfl, hol2, HQ2⟩ | (simp only [List.length_append]; exact ⟨1, qa, _, qc, by omega, by go_num, rfl, hol2, HQ2⟩)
          case measure => simp [intOf]
      · have e0 := (HQ.out.2.cell (p := ⟨pb, 1, none⟩) hpb).trans HC.out.2
        have HS0 : Hid (RowI wr w.heap.size (.slice a2 n2 c2) ys) := HX.out.2.1.keep HQ.out.2
        cases hc : a2 with
        | none =>
          obtain ⟨hz1, hz2, hz3⟩ := HZ2.out hc
          rw [hc, hz1, hz2] at e0
          have HQ2 : Hid (OwnsI wr w.heap.size (.slice oa ol oc) (catTo xs ys 2) ∧ Below w.heap.size w wr) := by
            have h9 := HQ.out
            simp only [catTo] at h9 ⊢
            rw [hz3]
            rw [List.append_nil]; exact h9
          clear hz1 hz2 hz3 hc
          go_wp2_with (at_builtin; go_must (refine wpList_append_own_none rfl _ _ 35 rfl w.heap.size 3 _ 1 Tryz.underlying35 hi _ _ _ rfl HQ.out.1 rfl ?_))
          go_roundw
          case rel => first | exact ⟨2, oa, ol, oc, by omega, by go_num, rfl, hol, HQ2⟩ | ((repeat refine Exists.intro _ ?_); refine ⟨?_, rfl⟩; exact ⟨2, oa, ol, oc, by omega, by go_num, rfl, hol, HQ2⟩)
          case measure => simp [intOf]
        | some ad =>
          rw [hc] at e0
          have HS : Hid (RowI wr w.heap.size (.slice (some ad) n2 c2) ys) := by rw [← hc]; exact HS0.out
          have hln : (catTo xs ys 1).length + ys.length ≤ 10000000 := by
            have := HX.out.2.2.1
            have := HX.out.2.2.2
            simp only [catTo]
            omega
          go_wp2_with (at_builtin; go_must (refine appendI rfl _ _ 35 rfl w.heap.size Tryz.underlying35 Tryz.infoInt HQ.out.1 ys w.heap.size ad n2 c2 HS.out rfl rfl hln hsz ?_); intro v4 w4 hown4 hg4 hn4; obtain ⟨qa, qc, rfl⟩ := RowR.len hown4.row)
          have HQ2 : Hid (OwnsI w4 w.heap.size (.slice qa (catTo xs ys 1 ++ ys).length qc) (catTo xs ys 2) ∧ Below w.heap.size w w4) := by
            have hb4 : Below w.heap.size w w4 := HQ.out.2.grown hg4 hsz (fun k hk => (OwnsR.lt HQ.out.1 k (by simp [fpOf, hk])).1)
            refine ⟨?_, hb4⟩
            have h9 := hown4
            simp only [catTo] at h9 ⊢
            exact h9
          have hol2 : (catTo xs ys 1 ++ ys).length ≤ 2097152 := by
            have := HX.out.2.2.1
            have := HX.out.2.2.2
            simp only [catTo, List.length_append]
            omega
          clear hown4 hg4 hn4
          rw [List.length_append] at HQ2 hol2
          go_wp2
          go_roundw
          case rel => first | exact ⟨2, qa, _, qc, by omega, by go_num, rfl, hol2, HQ2⟩ | (simp only [List.length_append]; exact ⟨2, qa, _, qc, by omega, by go_num, rfl, hol2, HQ2⟩)
          case measure => simp [intOf]

end Go.Proofs.YtljphnjmeckpbaaGreat

namespace Go.Proofs.YtljphnjmeckpbaaGreat
open Go.RowKit

theorem Clone_any (s : ByteArray) (w : World) (hlim : s.size ≤ 281474976710656) :
    Calls Tryz.prog 60 #[.string s] w fun e w' => e = .returned (.string s) ∧ Below w.heap.size w w' := by
  go_enter Tryz.func60, Tryz.ntmps60
  go_wp2_with (go_at_call 89; refine (Tryz.stringslite_Clone s _ hlim).mono ?_; rintro e w1 ⟨rfl, hb1⟩)
  go_ret
  exact ⟨rfl, hb1⟩

end Go.Proofs.YtljphnjmeckpbaaGreat

namespace Go.Proofs.YtljphnjmeckpbaaGreat
open Go.RowKit

theorem isFn_any (v0 : Value) (fa : Option Addr) (F fcap : Nat) (fn : Int) (w : World) :
    Calls Tryz.prog 33 #[.agg #[v0, .slice fa F fcap], .int .i64 fn] w fun e w' => e = .returned (.bool (isIn fn 0 ((F : Int) - 1))) ∧ Below w.heap.size w w' := by
  by_cases h0 : 0 ≤ fn
  · by_cases h1 : fn < (F : Int)
    · have hE : Hid (isIn fn 0 ((F : Int) - 1) = true) := by
        show _ = _
        rw [isIn_iff]
        omega
      rw [hE.out]
      have d0 : decide ((0 : Int) ≤ fn) = true := by simpa using h0
      go_enter Tryz.func33, Tryz.ntmps33
      go_wp2
      go_ret
      exact ⟨rfl, by go_grown⟩
    · have hE : Hid (isIn fn 0 ((F : Int) - 1) = false) := by
        show _ = _
        simp [isIn]
        omega
      rw [hE.out]
      have d0 : decide ((0 : Int) ≤ fn) = true := by simpa using h0
      go_enter Tryz.func33, Tryz.ntmps33
      go_wp2
      go_ret
      exact ⟨rfl, by go_grown⟩
  · have hE : Hid (isIn fn 0 ((F : Int) - 1) = false) := by
      show _ = _
      simp [isIn]
      omega
    rw [hE.out]
    have d0 : decide ((0 : Int) ≤ fn) = false := by simpa using h0
    go_enter Tryz.func33, Tryz.ntmps33
    go_wp2
    go_ret
    exact ⟨rfl, by go_grown⟩

set_option maxRecDepth 100000 in
set_option maxHeartbeats 6400000 in
theorem implVarsOf_any (v0 v1 : Value) (p : Pg) (fn : Int) (w : World) (hR : RowPg w w.heap.size v0 v1 p) (hl : szPg p ≤ 1048576) :
    Calls Tryz.prog 27 #[.agg #[v0, v1], .int .i64 fn] w fun e w' => (∃ a cap, e = .returned (.slice a (varsOf p fn).length cap) ∧ OwnsV w' w.heap.size (.slice a (varsOf p fn).length cap) (varsOf p fn)) ∧ Below w.heap.size w w' := by
  obtain ⟨na, nc, rfl⟩ := hR.1.len
  obtain ⟨fa, fcap, rfl⟩ := hR.2.len
  obtain ⟨N, HN⟩ : ∃ N, Hid (p.nodes.length = N) := ⟨_, (rfl : p.nodes.length = p.nodes.length)⟩
  obtain ⟨F, HF⟩ : ∃ N, Hid (p.fns.length = N) := ⟨_, (rfl : p.fns.length = p.fns.length)⟩
  have HV : Hid (RowPg w w.heap.size (.slice na N nc) (.slice fa F fcap) p) := by rw [← HN.out, ← HF.out]; exact hR
  have HL : Hid (szRow szNd p.nodes ≤ 1048576 ∧ szRow szFc p.fns ≤ 1048576) := ⟨Nat.le_trans (le_szPg_nodes p) hl, Nat.le_trans (le_szPg_fns p) hl⟩
  have hNl : N ≤ 1048576 := by have := len_szRow szNd p.nodes; have := HN.out; have := HL.out.1; omega
  have hFl : F ≤ 1048576 := by have := len_szRow szFc p.fns; have := HF.out; have := HL.out.2; omega
  rw [HN.out, HF.out]
  clear hR hl
  have cL0 : Hid (∀ W, Calls Tryz.prog 33 #[.agg #[.slice na N nc, .slice fa F fcap], .int .i64 fn] W fun e w' => e = .returned (.bool (isIn fn 0 ((F : Int) - 1))) ∧ Below W.heap.size W w') := fun W => isFn_any _ fa F fcap fn W
  by_cases hin : 0 ≤ fn ∧ fn ≤ (F : Int) - 1
  rotate_left
  · have hI : isIn fn 0 ((F : Int) - 1) = false := by
      cases hc : isIn fn 0 ((F : Int) - 1)
      · rfl
      · exact absurd ((isIn_iff _ _ _).mp hc) hin
    have HE : Hid (varsOf p fn = []) := by
      show _ = _
      unfold varsOf
      rw [HF.out, hI]
      rfl
    rw [HE.out]
    rw [hI] at cL0
    clear HV hin hI
    go_enter Tryz.func27, Tryz.ntmps27
    go_wp2_with fail
    go_at_call 33
    refine Calls.mono (cL0.out _) ?_
    rintro e w1 ⟨rfl, hb⟩
    have HB : Hid (Below w.heap.size w w1) := by
      refine Below.trans ?_ (hb.mono (by simp))
      go_grown
    clear hb
    go_wp2
    go_ret
    exact ⟨⟨none, 0, rfl, ownsR_nil _ _ _ _ _⟩, HB.out⟩
  obtain ⟨m, rfl⟩ : ∃ m : Nat, fn = (m : Int) := ⟨fn.toNat, by omega⟩
  have hI : isIn (m : Int) 0 ((F : Int) - 1) = true := (isIn_iff _ _ _).mpr hin
  rw [hI] at cL0
  have hmF : m < F := by omega
  have hmf : m < p.fns.length := by have := HF.out; omega
  have hm0 : (0 : Int) ≤ (m : Int) := by omega
  have hm1 : (m : Int) < (F : Int) := by omega
  obtain ⟨b, off, pv, rfl, hb, c0, c1, c2, c3, c4, hP⟩ := FcR.at HV.out.2 m hmf
  have HE : Hid (varsOf p (m : Int) = varsIn p.nodes p.fns[m]) := by
    show _ = _
    unfold varsOf
    rw [HF.out, hI, if_pos rfl]
    simp [List.getD, hmf]
  have hqs : szFc p.fns[m] ≤ 1048576 := Nat.le_trans (mem_szRow szFc (List.getElem_mem hmf)) HL.out.2
  obtain ⟨q, hq⟩ : ∃ q, Hid (p.fns[m] = q) := ⟨_, (rfl : p.fns[m] = p.fns[m])⟩
  rw [hq.out] at c0 c2 c3 c4 hP HE hqs
  rw [HE.out]
  obtain ⟨fn, fp, fr, fb, ft⟩ := q
  obtain ⟨pa, pc, rfl⟩ := hP.len
  simp only at c0 c1 c2 c3 c4 hP
  have hPs : szRow szPm fp ≤ 1048576 := Nat.le_trans (le_szFc_params ⟨fn, fp, fr, fb, ft⟩) hqs
  have HPs : Hid (szRow szPm fp ≤ 1048576) := hPs
  have hK : fp.length ≤ 1048576 := by
    have h2 := len_szRow szPm fp
    omega
  obtain ⟨K, HK⟩ : ∃ K, Hid (fp.length = K) := ⟨_, (rfl : fp.length = fp.length)⟩
  rw [HK.out] at c1 hP hK
  have HP : Hid (PmR.Row w w.heap.size (.slice pa K pc) fp) := hP
  have hkb : b < w.heap.size := hb
  obtain ⟨xs, hxs⟩ : ∃ xs, Hid (underL p.nodes fb = xs) := ⟨_, (rfl : underL p.nodes fb = underL p.nodes fb)⟩
  obtain ⟨X, HX⟩ : ∃ X, Hid (xs.length = X) := ⟨_, (rfl : xs.length = xs.length)⟩
  have cU : Hid (∀ W, Below w.heap.size w W → Calls Tryz.prog 35 #[.agg #[.slice na N nc, .slice (some ⟨b, off, none⟩) F fcap], .int .i64 fb] W fun e w' => (∃ g cap, e = .returned (.slice g X cap) ∧ OwnsI w' W.heap.size (.slice g X cap) xs ∧ X ≤ 1048576) ∧ Below W.heap.size W w') := fun W hW => by
    refine (implUnder_any _ _ p.nodes fb W ((HV.out.1.keep hW).up hW.size) HL.out.1).mono ?_
    rintro e w' ⟨⟨v, ys, he, ho, ha, hx⟩, hb⟩
    obtain rfl := underAns_one ha (underAns_L p.nodes fb)
    obtain ⟨a, cap, rfl⟩ := RowR.len ho.row
    rw [hxs.out] at ho hx he
    rw [HX.out] at ho hx he
    exact ⟨⟨a, cap, he, ho, hx⟩, hb⟩
  have HIn : Hid (∀ x ∈ xs, 0 ≤ x ∧ x < (p.nodes.length : Int)) := fun x hx => by
    rw [← hxs.out] at hx
    have := underL_in hx
    exact ⟨this.1, this.2.2.1⟩
  have HEnd : Hid (varsIn p.nodes ⟨fn, fp, fr, fb, ft⟩ = fp.map parV ++ lets p.nodes xs) := by
    show _ = _
    unfold varsIn
    rw [hxs.out]
  have HC3 : Hid (w.cell? ⟨b, off + m * 5 + 1, none⟩ = some (.slice pa K pc) ∧ w.cell? ⟨b, off + m * 5 + 3, none⟩ = some (.int .i64 fb)) := ⟨c1, c3⟩
  clear hb hqs hP hPs c0 c1 c2 c3 c4
  go_enter Tryz.func27, Tryz.ntmps27
  go_wp2_with fail
  go_at_call 33
  refine Calls.mono (cL0.out _) ?_
  rintro e w1 ⟨rfl, hb1⟩
  have B1 : Hid (Box w (.cells #[.slice na N nc, .slice (some ⟨b, off, none⟩) F fcap] 31) w1) := (Box.first _ _).next hb1
  have H0 : Hid (VSt w w.heap.size #[.slice na N nc, .slice (some ⟨b, off, none⟩) F fcap] #[.slice na N nc, .slice (some ⟨b, off, none⟩) F fcap] 31 31 w1 (.slice none 0 0) []) := by
    have h1 := (hb1.block w.heap.size (by simp)).trans (heap_alloc_new w (.cells #[.slice na N nc, .slice (some ⟨b, off, none⟩) F fcap] 31))
    exact ⟨ownsR_nil _ _ _ _ _, B1.out.below, h1, h1, by decide, by decide⟩
  have x1 := B1.out.cell 1
  have d1 := (B1.out.below.cell (p := ⟨b, off + m * 5 + 1, none⟩) hkb).trans HC3.out.1
  simp at x1
  clear hb1 cL0 B1
  go_wp2_with fail
  go_loopw [5, 22] (fun o i wr => ∃ (t : Nat) (oa : Option Addr) (oc : Nat), t ≤ K ∧ i = .int .i64 (t : Int) ∧ o = .slice oa t oc ∧ Hid (VSt w w.heap.size #[.slice na N nc, .slice (some ⟨b, off, none⟩) F fcap] #[.slice na N nc, .slice (some ⟨b, off, none⟩) F fcap] 31 31 wr (.slice oa t oc) ((fp.take t).map parV))) (fun _ i _ => K - (intOf i).toNat)
  case atStart => exact ⟨0, none, 0, Nat.zero_le _, rfl, rfl, H0.out⟩
  case round =>
    obtain ⟨t, oa, oc, ht, rfl, rfl, HJ⟩ := hrel
    clear H0 x1 d1
    have hsz := HJ.out.bel.size
    by_cases hlt : t < K
    · have ht0 : (0 : Int) ≤ (t : Int) := by omega
      have ht1 : (t : Int) < (K : Int) := by omega
      have htp : t < fp.length := by have := HK.out; omega
      obtain ⟨pb, po, rfl, hpb, e0, e1⟩ := PmR.at HP.out t htp
      have hnl : fp[t].name.size ≤ 281474976710656 := Nat.le_trans (Nat.le_trans (Nat.le_trans (le_szPm_name fp[t]) (mem_szRow szPm (List.getElem_mem htp))) HPs.out) (by omega)
      obtain ⟨x, hx⟩ : ∃ x, Hid (fp[t] = x) := ⟨_, (rfl : fp[t] = fp[t])⟩
      rw [hx.out] at e0 e1 hnl
      have d0 := (HJ.out.bel.cell (p := ⟨pb, po + t * 2, none⟩) hpb).trans e0
      have d1 := (HJ.out.bel.cell (p := ⟨pb, po + t * 2 + 1, none⟩) hpb).trans e1
      obtain ⟨xn, xt⟩ := x
      simp only at d0 d1 hnl
      have HNx : Hid ((fp.take (t + 1)).map parV = (fp.take t).map parV ++ [⟨xn, xt, -1⟩]) := by
        show _ = _
        rw [List.take_succ_eq_append_getElem htp, List.map_append, hx.out]
        rfl
      have hXl : ((fp.take t).map parV).length = t := by
        rw [List.length_map, List.length_take]
        omega
      have hpl : ((fp.take t).map parV).length ≤ 10000000 := by omega
      have HBn : Hid (Below wr.heap.size wr (wr.alloc (.cells #[.string xn, .int .i64 xt] 56))) := by show Below _ _ _; go_grown
      have HX1 : Hid (Box wr (.cells #[.string xn, .int .i64 xt] 56) (wr.alloc (.cells #[.string xn, .int .i64 xt] 56))) := Box.first _ _
      clear e0 e1
      go_wp2_with fail
      generalize hWn : wr.alloc (.cells #[.string xn, .int .i64 xt] 56) = Wn at HX1 HBn ⊢
      have x0 : Wn.cell? ⟨wr.heap.size, 0, none⟩ = some (.string xn) := HX1.out.cell 0
      have x1 : Wn.cell? ⟨wr.heap.size, 1, none⟩ = some (.int .i64 xt) := HX1.out.cell 1
      have hlw : wr.heap.size < Wn.heap.size := HX1.out.lt
      clear hWn d0 d1
      go_region_held3 (fun w' => w'.cell? ⟨wr.heap.size, 0, none⟩ = some (.string xn) ∧ w'.cell? ⟨wr.heap.size, 1, none⟩ = some (.int .i64 xt)) (first | exact ⟨u0, u1⟩ | exact ⟨r0, r1⟩ | exact ⟨x0, x1⟩ | go_keep) (first | (go_at_call 60; refine Calls.mono (Clone_any xn _ hnl) ?_; rintro e wC ⟨rfl, hbC⟩; have hbC1 : Below Wn.heap.size Wn wC := (Below.refl _ _).drew.trans hbC; have r0 := (hbC1.cell (p := ⟨wr.heap.size, 0, none⟩) hlw).trans x0; have r1 := (hbC1.cell (p := ⟨wr.heap.size, 1, none⟩) hlw).trans x1; have hlC : wr.heap.size < wC.heap.size := Nat.lt_of_lt_of_le hlw hbC1.size; have hBC : Below wr.heap.size wr wC := HBn.out.trans (hbC1.mono HBn.out.size)) | (refine step_appendRA (enc := vrC) (k := 3) vrC_len rfl _ _ 43 rfl w.heap.size 47 _ 32 Tryz.underlying43 Tryz.infoVr rfl (by decide) (OwnsR.below HJ.out.own (hBC.alloc hBC.size (.cells #[.string xn, .int .i64 xt, .int .i64 (-1)] 47))) ⟨xn, xt, -1⟩ (vrC_ones _) wC.heap.size (0, 0) (heap_alloc_new _ _) rfl rfl hpl (by omega) (by have := hBC.size; simp; omega) ?_; intro v5 w5 hown5 hg5 hat5 hv5; obtain ⟨g5, cap5, rfl⟩ := hv5; have h5b := fun (j : Nat) (hj : j < wC.heap.size) (hne : some j ≠ (Value.slice oa t oc).ownBlock) => (hg5.block j (by simp; omega) hne).trans (Below.heap_alloc wC (.cells #[.string xn, .int .i64 xt, .int .i64 (-1)] 47) j hj); have hneq : some wr.heap.size ≠ (Value.slice oa t oc).ownBlock := (fun e => by have := (OwnsR.lt HJ.out.own wr.heap.size (by simp [fpOf, ← e])).2; omega); have h5c := h5b wr.heap.size hlC hneq; have u0 : w5.cell? ⟨wr.heap.size, 0, none⟩ = some (.string xn) := (cell_eq h5c 0).trans r0; have u1 : w5.cell? ⟨wr.heap.size, 1, none⟩ = some (.int .i64 xt) := (cell_eq h5c 1).trans r1))
      have HJ5 : Hid (VSt w w.heap.size #[.slice na N nc, .slice (some ⟨b, off, none⟩) F fcap] #[.slice na N nc, .slice (some ⟨b, off, none⟩) F fcap] 31 31 w5 (.slice (some ⟨g5, 0, none⟩) (t + 1) cap5) ((fp.take (t + 1)).map parV)) := by
        have h5 := (HJ.out.below (hBC.alloc hBC.size (.cells #[.string xn, .int .i64 xt, .int .i64 (-1)] 47))).grown hg5 hown5
        rw [HNx.out]
        rw [hXl] at h5
        exact h5
      have HXl : Hid (((fp.take t).map parV).length = t) := hXl
      clear hown5 hg5 hat5 hXl u0 u1 r0 r1 x0 x1 hbC hbC1 hBC h5b h5c hneq HNx HJ HX1 HBn
      go_wp2
      go_roundw
      case rel => exact ⟨t + 1, some ⟨g5, 0, none⟩, cap5, by omega, by go_num, by first | rw [HXl.out] | (have := HK.out; simp; omega), HJ5⟩
      case measure => simp [intOf]; omega
    · have htK : t = K := by omega
      subst htK
      have H1 : Hid (VSt w w.heap.size #[.slice na N nc, .slice (some ⟨b, off, none⟩) F fcap] #[.slice na N nc, .slice (some ⟨b, off, none⟩) F fcap] 31 31 wr (.slice oa t oc) (fp.map parV)) := by
        have h1 := HJ.out
        rw [List.take_of_length_le (by have := HK.out; omega)] at h1
        exact h1
      have f3 := (HJ.out.bel.cell (p := ⟨b, off + m * 5 + 3, none⟩) hkb).trans HC3.out.2
      have x0 := cell_at HJ.out.box 0
      have x1 := cell_at HJ.out.box 1
      simp at x0 x1
      have hbr : b < wr.heap.size := by omega
      have hwr : w.heap.size < wr.heap.size := HJ.out.lt
      clear HJ HC3
      go_wp2_with fail
      go_region_held3 (fun w' => (w'.cell? ⟨w.heap.size, 0, none⟩ = some (.slice na N nc) ∧ w'.cell? ⟨w.heap.size, 1, none⟩ = some (.slice (some ⟨b, off, none⟩) F fcap)) ∧ w'.cell? ⟨b, off + m * 5 + 3, none⟩ = some (.int .i64 fb)) (first | exact ⟨⟨x0, x1⟩, f3⟩ | exact ⟨⟨(hb3.cell (p := ⟨w.heap.size, 0, none⟩) hwr).trans x0, (hb3.cell (p := ⟨w.heap.size, 1, none⟩) hwr).trans x1⟩, (hb3.cell (p := ⟨b, off + m * 5 + 3, none⟩) hbr).trans f3⟩ | go_keep) ((go_at_call 35; refine Calls.mono (cU.out _ H1.out.bel.drew) ?_; rintro e w3 ⟨⟨gs, cs, rfl, hos, hxl⟩, hb3⟩))
      have H3 : Hid (VSt w w.heap.size #[.slice na N nc, .slice (some ⟨b, off, none⟩) F fcap] #[.slice na N nc, .slice (some ⟨b, off, none⟩) F fcap] 31 31 w3 (.slice oa t oc) (fp.map parV)) := H1.out.below ((Below.refl _ _).drew.trans hb3)
      have HO3 : Hid (OwnsI w3 w.heap.size (.slice gs X cs) xs) := owns_base hos H1.out.bel.drew.size
      clear hos hb3 cU H1 f3 x0 x1
      go_wp2_with fail
      go_loopw [5, 45] (fun o i wr => ∃ (s ql : Nat) (qg : Option Addr) (qc : Nat), s ≤ X ∧ i = .int .i64 (s : Int) ∧ o = .slice qg ql qc ∧ ql ≤ 2097152 ∧ Hid (VSt w w.heap.size #[.slice na N nc, .slice (some ⟨b, off, none⟩) F fcap] #[.slice na N nc, .slice (some ⟨b, off, none⟩) F fcap] 31 31 wr (.slice qg ql qc) (fp.map parV ++ lets p.nodes (xs.take s)) ∧ OwnsI wr w.heap.size (.slice gs X cs) xs ∧ ql = (fp.map parV ++ lets p.nodes (xs.take s)).length)) (fun _ i _ => X - (intOf i).toNat)
      case atStart => exact ⟨0, _, _, _, Nat.zero_le _, rfl, rfl, by omega, by simpa [lets] using H3.out, HO3.out, by simp [lets]; have := HK.out; omega⟩
      case round =>
        obtain ⟨s, ql, qg, qc, hs, rfl, rfl, hql, HQ⟩ := hrel
        have x0 := cell_at HQ.out.1.box 0
        simp at x0
        have hsz := HQ.out.1.bel.size
        by_cases hsl : s < X
        · have hs0 : (0 : Int) ≤ (s : Int) := by omega
          have hs1 : (s : Int) < (X : Int) := by omega
          have hsx : s < xs.length := by have := HX.out; omega
          obtain ⟨ib, io, rfl, hib, e0⟩ := RowI.at (RowI.up HQ.out.2.1.row (Nat.le_refl _)) s hsx
          have hxj := HIn.out xs[s] (List.getElem_mem hsx)
          obtain ⟨j, hj⟩ : ∃ j : Nat, Hid (xs[s] = (j : Int)) := ⟨xs[s].toNat, (by show _ = _; omega)⟩
          rw [hj.out] at e0 hxj
          have hjN : j < N := by have := HN.out; omega
          have hjl : j < p.nodes.length := by have := HN.out; omega
          have hj0 : (0 : Int) ≤ (j : Int) := by omega
          have hj1 : (j : Int) < (N : Int) := by omega
          have hLT : Hid (lets p.nodes (xs.take (s + 1)) = lets p.nodes (xs.take s) ++ (if (p.nodes.getD j nd0).kind = 13 then [letV p.nodes (j : Int)] else [])) := by
            show _ = _
            rw [lets_take p.nodes xs s hsx, hj.out, Int.toNat_natCast]
          have hns : p.nodes[j].name.size ≤ 281474976710656 := Nat.le_trans (Nat.le_trans (Nat.le_trans (le_szNd_name p.nodes[j]) (mem_szRow szNd (List.getElem_mem hjl))) HL.out.1) (by omega)
          obtain ⟨nb, no, ka, kc, rfl, hnb, n0, n1, n2, n3, _⟩ := RowNd.at HV.out.1 j hjl
          have hgd : p.nodes.getD j nd0 = p.nodes[j] := by simp [List.getD, hjl]
          rw [hgd] at hLT
          have hlv : letV p.nodes (j : Int) = ⟨p.nodes[j].name, 0, (j : Int)⟩ := by
            unfold letV
            rw [Int.toNat_natCast, hgd]
          rw [hlv] at hLT
          obtain ⟨nx, hnx⟩ : ∃ nx, Hid (p.nodes[j].name = nx) := ⟨_, (rfl : p.nodes[j].name = p.nodes[j].name)⟩
          obtain ⟨kx, hkx⟩ : ∃ kx, Hid (p.nodes[j].kind = kx) := ⟨_, (rfl : p.nodes[j].kind = p.nodes[j].kind)⟩
          obtain ⟨mx, hmx⟩ : ∃ mx, Hid (p.nodes[j].num = mx) := ⟨_, (rfl : p.nodes[j].num = p.nodes[j].num)⟩
          obtain ⟨kn, hkn⟩ : ∃ kn, Hid (p.nodes[j].kids.length = kn) := ⟨_, (rfl : p.nodes[j].kids.length = p.nodes[j].kids.length)⟩
          rw [hkx.out] at n0 hLT
          rw [hmx.out] at n1
          rw [hnx.out] at n2 hLT hns
          rw [hkn.out] at n3
          have d0 := (HQ.out.1.bel.cell (p := ⟨nb, no + j * 4, none⟩) hnb).trans n0
          have d1 := (HQ.out.1.bel.cell (p := ⟨nb, no + j * 4 + 1, none⟩) hnb).trans n1
          have d2 := (HQ.out.1.bel.cell (p := ⟨nb, no + j * 4 + 2, none⟩) hnb).trans n2
          have d3 := (HQ.out.1.bel.cell (p := ⟨nb, no + j * 4 + 3, none⟩) hnb).trans n3
          clear n0 n1 n2 n3 hgd hlv hxj
          have HBn : Hid (Below wr.heap.size wr (wr.alloc (.cells #[.int .i64 kx, .int .i64 mx, .string nx, .slice ka kn kc] 67))) := by show Below _ _ _; go_grown
          by_cases hk : kx = 13
          · rw [if_pos hk] at hLT
            have HNx : Hid (fp.map parV ++ lets p.nodes (xs.take (s + 1)) = (fp.map parV ++ lets p.nodes (xs.take s)) ++ [⟨nx, 0, (j : Int)⟩]) := by
              show _ = _
              rw [hLT.out, List.append_assoc]
            have hpl : (fp.map parV ++ lets p.nodes (xs.take s)).length ≤ 10000000 := by rw [← HQ.out.2.2]; omega
            have hql2 : ql + 1 ≤ 2097152 := by
              have h1 := lets_len p.nodes (xs.take (s + 1))
              rw [hLT.out, List.length_append, List.length_singleton, List.length_take] at h1
              rw [HQ.out.2.2, List.length_append, List.length_map]
              have := HK.out
              omega
            clear hLT
            subst hk
            go_wp2_with fail
            go_at_call 60
            refine Calls.mono (Clone_any nx _ hns) ?_
            rintro e wC ⟨rfl, hbC⟩
            have hBC : Below wr.heap.size wr wC := HBn.out.trans (hbC.mono HBn.out.size)
            have HC : Hid (VSt w w.heap.size #[.slice (some ⟨nb, no, none⟩) N nc, .slice (some ⟨b, off, none⟩) F fcap] #[.slice (some ⟨nb, no, none⟩) N nc, .slice (some ⟨b, off, none⟩) F fcap] 31 31 wC (.slice qg ql qc) (fp.map parV ++ lets p.nodes (xs.take s)) ∧ OwnsI wC w.heap.size (.slice (some ⟨ib, io, none⟩) X cs) xs) := ⟨HQ.out.1.below hBC, OwnsR.below HQ.out.2.1 hBC⟩
            have HOw : Hid (OwnsR vrC 3 wC w.heap.size 47 (.slice qg ql qc) (fp.map parV ++ lets p.nodes (xs.take s))) := HC.out.1.own
            have hBs : w.heap.size ≤ wC.heap.size := HC.out.1.bel.size
            clear hbC d0 d1 d2 d3 x0 e0
            go_wp2_with (at_builtin; go_must (refine appendRA (enc := vrC) (k := 3) vrC_len rfl _ _ 43 rfl w.heap.size 47 _ 32 Tryz.underlying43 Tryz.infoVr rfl (by decide) HOw.out ⟨nx, 0, (j : Int)⟩ (vrC_ones _) rfl (by first | rfl | (simp [Act.eval]; done)) hpl (by omega) hBs ?_); intro v5 w5 hown5 hg5 hat5 hv5; obtain ⟨g5, cap5, rfl⟩ := hv5)
            have hneg : (Value.slice (some ⟨ib, io, none⟩) X cs).ownBlock ≠ (Value.slice qg ql qc).ownBlock := by
              rcases types_apart HC.out.2 HOw.out (by decide) with h1 | h1
              · rcases OwnsR.form HC.out.2 with ⟨h2, _⟩ | ⟨g, c, h2, _⟩
                · cases h2
                · rw [h2] at h1
                  cases h1
              · exact h1
            have HJ5 : Hid (VSt w w.heap.size #[.slice (some ⟨nb, no, none⟩) N nc, .slice (some ⟨b, off, none⟩) F fcap] #[.slice (some ⟨nb, no, none⟩) N nc, .slice (some ⟨b, off, none⟩) F fcap] 31 31 w5 (.slice (some ⟨g5, 0, none⟩) (ql + 1) cap5) (fp.map parV ++ lets p.nodes (xs.take (s + 1))) ∧ OwnsI w5 w.heap.size (.slice (some ⟨ib, io, none⟩) X cs) xs ∧ ql + 1 = (fp.map parV ++ lets p.nodes (xs.take (s + 1))).length) := by
              rw [HNx.out]
              have HF5 := HC.out.1.grown hg5 hown5
              refine ⟨?_, OwnsR.kept HC.out.2 hg5 (.inr hneg), ?_⟩
              · rw [← HQ.out.2.2] at HF5
                exact HF5
              · rw [List.length_append (bs := [_]), ← HQ.out.2.2]
                rfl
            have HQL : Hid ((fp.map parV ++ lets p.nodes (xs.take s)).length = ql) := HQ.out.2.2.symm
            clear hown5 hg5 hat5 hneg hBC HC HOw hBs HNx HQ HBn
            go_wp2
            go_roundw
            case rel => exact ⟨s + 1, ql + 1, some ⟨g5, 0, none⟩, cap5, by omega, by go_num, by first | rw [HQL.out] | (have := HQL.out; simp at this; simp; omega), hql2, HJ5⟩
            case measure => simp [intOf]; omega
          · rw [if_neg hk, List.append_nil] at hLT
            have HJ5 : Hid (VSt w w.heap.size #[.slice (some ⟨nb, no, none⟩) N nc, .slice (some ⟨b, off, none⟩) F fcap] #[.slice (some ⟨nb, no, none⟩) N nc, .slice (some ⟨b, off, none⟩) F fcap] 31 31 (wr.alloc (.cells #[.int .i64 kx, .int .i64 mx, .string nx, .slice ka kn kc] 67)) (.slice qg ql qc) (fp.map parV ++ lets p.nodes (xs.take (s + 1))) ∧ OwnsI (wr.alloc (.cells #[.int .i64 kx, .int .i64 mx, .string nx, .slice ka kn kc] 67)) w.heap.size (.slice (some ⟨ib, io, none⟩) X cs) xs ∧ ql = (fp.map parV ++ lets p.nodes (xs.take (s + 1))).length) := by
              rw [hLT.out]
              exact ⟨HQ.out.1.below HBn.out, OwnsR.below HQ.out.2.1 HBn.out, HQ.out.2.2⟩
            clear HQ hLT HBn
            go_wp2
            go_roundw
            case rel => exact ⟨s + 1, ql, qg, qc, by omega, by go_num, rfl, hql, HJ5⟩
            case measure => simp [intOf]; omega
        · have HZ : Hid (OwnsV wr w.heap.size (.slice qg ql qc) (varsIn p.nodes ⟨fn, fp, fr, fb, ft⟩) ∧ Below w.heap.size w wr ∧ (varsIn p.nodes ⟨fn, fp, fr, fb, ft⟩).length = ql) := by
            have h1 := HQ.out
            rw [List.take_of_length_le (by have := HX.out; omega), ← HEnd.out] at h1
            exact ⟨h1.1.own, h1.1.bel, h1.2.2.symm⟩
          clear HQ x0
          go_wp2
          go_ret
          refine ⟨⟨qg, qc, ?_, ?_⟩, HZ.out.2.1⟩
          · rw [HZ.out.2.2]
            rfl
          · rw [HZ.out.2.2]
            exact HZ.out.1

end Go.Proofs.YtljphnjmeckpbaaGreat

namespace Go.Proofs.YtljphnjmeckpbaaGreat
open Go.RowKit

theorem lt_alloc (w : World) (o : Obj) : w.heap.size < (w.alloc o).heap.size := by simp
theorem usesF_len (ns : List Nd) (nm : ByteArray) (zs : List Int) : (usesF ns nm zs).length ≤ zs.length := List.length_filter_le _ _

set_option maxRecDepth 100000 in
set_option maxHeartbeats 6400000 in
theorem implUsesOf_any (v0 v1 : Value) (p : Pg) (fn : Int) (nm : ByteArray) (w : World) (hR : RowPg w w.heap.size v0 v1 p) (hl : szPg p ≤ 1048576) :
    Calls Tryz.prog 11 #[.agg #[v0, v1], .int .i64 fn, .string nm] w fun e w' => (∃ a n cap, e = .returned (.slice a n cap) ∧ OwnsI w' w.heap.size (.slice a n cap) (usesOf p fn nm)) ∧ Below w.heap.size w w' := by
  obtain ⟨na, nc, rfl⟩ := hR.1.len
  obtain ⟨fa, fcap, rfl⟩ := hR.2.len
  obtain ⟨N, HN⟩ : ∃ N, Hid (p.nodes.length = N) := ⟨_, (rfl : p.nodes.length = p.nodes.length)⟩
  obtain ⟨F, HF⟩ : ∃ N, Hid (p.fns.length = N) := ⟨_, (rfl : p.fns.length = p.fns.length)⟩
  have HV : Hid (RowPg w w.heap.size (.slice na N nc) (.slice fa F fcap) p) := by rw [← HN.out, ← HF.out]; exact hR
  have HL : Hid (szRow szNd p.nodes ≤ 1048576 ∧ szRow szFc p.fns ≤ 1048576) := ⟨Nat.le_trans (le_szPg_nodes p) hl, Nat.le_trans (le_szPg_fns p) hl⟩
  have hFl : F ≤ 1048576 := by have := len_szRow szFc p.fns; have := HF.out; have := HL.out.2; omega
  rw [HN.out, HF.out]
  clear hR hl
  have cL0 : Hid (∀ W, Calls Tryz.prog 33 #[.agg #[.slice na N nc, .slice fa F fcap], .int .i64 fn] W fun e w' => e = .returned (.bool (isIn fn 0 ((F : Int) - 1))) ∧ Below W.heap.size W w') := fun W => isFn_any _ fa F fcap fn W
  by_cases hin : 0 ≤ fn ∧ fn ≤ (F : Int) - 1
  rotate_left
  · have hI : isIn fn 0 ((F : Int) - 1) = false := by
      cases hc : isIn fn 0 ((F : Int) - 1)
      · rfl
      · exact absurd ((isIn_iff _ _ _).mp hc) hin
    have HE : Hid (usesOf p fn nm = []) := by
      show _ = _
      unfold usesOf allOf
      rw [HF.out, hI]
      rfl
    rw [HE.out]
    rw [hI] at cL0
    clear HV hin hI
    go_enter Tryz.func11, Tryz.ntmps11
    go_wp2_with fail
    go_at_call 33
    refine Calls.mono (cL0.out _) ?_
    rintro e w1 ⟨rfl, hb⟩
    have HB : Hid (Below w.heap.size w w1) := by
      refine Below.trans ?_ (hb.mono (by simp; omega))
      go_grown
    clear hb
    go_wp2
    go_ret
    exact ⟨⟨none, 0, 0, rfl, ownsR_nil _ _ _ _ _⟩, HB.out⟩
  obtain ⟨m, rfl⟩ : ∃ m : Nat, fn = (m : Int) := ⟨fn.toNat, by omega⟩
  have hI : isIn (m : Int) 0 ((F : Int) - 1) = true := (isIn_iff _ _ _).mpr hin
  rw [hI] at cL0
  have hmF : m < F := by omega
  have hmf : m < p.fns.length := by have := HF.out; omega
  have hm0 : (0 : Int) ≤ (m : Int) := by omega
  have hm1 : (m : Int) < (F : Int) := by omega
  obtain ⟨b, off, pv, rfl, hkb, c0, c1, c2, c3, c4, hP⟩ := FcR.at HV.out.2 m hmf
  have HE : Hid (usesOf p (m : Int) nm = usesF p.nodes nm (allL (underL p.nodes p.fns[m].body) (underL p.nodes p.fns[m].ret))) := by
    show _ = _
    unfold usesOf allOf
    rw [HF.out, if_pos hI]
    simp [List.getD, hmf]
  obtain ⟨q, hq⟩ : ∃ q, Hid (p.fns[m] = q) := ⟨_, (rfl : p.fns[m] = p.fns[m])⟩
  rw [hq.out] at c3 c4 HE
  rw [HE.out]
  obtain ⟨fb, hfb⟩ : ∃ z, Hid (q.body = z) := ⟨_, (rfl : q.body = q.body)⟩
  obtain ⟨ft, hft⟩ : ∃ z, Hid (q.ret = z) := ⟨_, (rfl : q.ret = q.ret)⟩
  rw [hfb.out] at c3 ⊢
  rw [hft.out] at c4 ⊢
  obtain ⟨A, hA⟩ : ∃ A, Hid (underL p.nodes fb = A) := ⟨_, (rfl : underL p.nodes fb = underL p.nodes fb)⟩
  obtain ⟨C, hC⟩ : ∃ A, Hid (underL p.nodes ft = A) := ⟨_, (rfl : underL p.nodes ft = underL p.nodes ft)⟩
  have cU : Hid (∀ W k xs, Below w.heap.size w W → underL p.nodes k = xs → Calls Tryz.prog 35 #[.agg #[.slice na N nc, .slice (some ⟨b, off, none⟩) F fcap], .int .i64 k] W fun e w' => (∃ a cap, e = .returned (.slice a xs.length cap) ∧ OwnsI w' W.heap.size (.slice a xs.length cap) xs ∧ xs.length ≤ 1048576) ∧ Below W.heap.size W w') := fun W k xs hW hx => by
    subst hx
    refine (implUnder_any _ _ p.nodes k W ((HV.out.1.keep hW).up hW.size) HL.out.1).mono ?_
    rintro e w' ⟨⟨v, xs, he, ho, ha, hx⟩, hb⟩
    obtain rfl := underAns_one ha (underAns_L p.nodes k)
    obtain ⟨a, cap, rfl⟩ := RowR.len ho.row
    exact ⟨⟨a, cap, he, ho, hx⟩, hb⟩
  have HIn : Hid (∀ x ∈ allL A C, 0 ≤ x ∧ x < (p.nodes.length : Int)) := fun x hx => by
    rcases ((allL_in A C).2 x).mp hx with h | h
    · rw [← hA.out] at h
      have := underL_in h
      exact ⟨this.1, this.2.2.1⟩
    · rw [← hC.out] at h
      have := underL_in h
      exact ⟨this.1, this.2.2.1⟩
  rw [hA.out, hC.out]
  obtain ⟨X, HX⟩ : ∃ X, Hid (A.length = X) := ⟨_, (rfl : A.length = A.length)⟩
  obtain ⟨Y, HY⟩ : ∃ X, Hid (C.length = X) := ⟨_, (rfl : C.length = C.length)⟩
  have HC : Hid (w.cell? ⟨b, off + m * 5 + 3, none⟩ = some (.int .i64 fb) ∧ w.cell? ⟨b, off + m * 5 + 4, none⟩ = some (.int .i64 ft)) := ⟨c3, c4⟩
  clear c0 c1 c2 c3 c4 hP hq hfb hft hin hI
  go_enter Tryz.func11, Tryz.ntmps11
  go_wp2_with fail
  go_at_call 33
  refine Calls.mono (cL0.out _) ?_
  rintro e w1 ⟨rfl, hb1⟩
  have HU1 : Hid (Below w.heap.size w w1 ∧ w.heap.size + 2 ≤ w1.heap.size ∧ w1.cell? ⟨w.heap.size, 0, none⟩ = some (.slice na N nc) ∧ w1.cell? ⟨w.heap.size, 1, none⟩ = some (.slice (some ⟨b, off, none⟩) F fcap) ∧ w1.cell? ⟨w.heap.size + 1, 0, none⟩ = some (.string nm)) := by
    have hz := hb1.size
    simp at hz
    refine ⟨Below.trans (by go_grown) (hb1.mono (by simp; omega)), by omega, ?_, ?_, ?_⟩
    · exact (hb1.cell (p := ⟨w.heap.size, 0, none⟩) (by show _ < _; simp; omega)).trans (by simp)
    · exact (hb1.cell (p := ⟨w.heap.size, 1, none⟩) (by show _ < _; simp; omega)).trans (by simp)
    · exact (hb1.cell (p := ⟨w.heap.size + 1, 0, none⟩) (by show _ < _; simp)).trans (by simp)
  have x0 := HU1.out.2.2.1
  have x1 := HU1.out.2.2.2.1
  have e3 := (HU1.out.1.cell (p := ⟨b, off + m * 5 + 3, none⟩) hkb).trans HC.out.1
  have e4 := (HU1.out.1.cell (p := ⟨b, off + m * 5 + 4, none⟩) hkb).trans HC.out.2
  have hw1 := HU1.out.2.1
  have hwl : w.heap.size < w1.heap.size := by omega
  have hbl : b < w1.heap.size := by omega
  have cC : Hid (∀ W pb cc s1 s2 k1 k2, pb < W.heap.size → W.cell? ⟨pb, 0, none⟩ = some (.slice s1 X k1) → W.cell? ⟨pb, 1, none⟩ = some (.slice s2 Y k2) → OwnsI W 0 (.slice s1 X k1) A → OwnsI W 0 (.slice s2 Y k2) C → X ≤ 1048576 → Y ≤ 1048576 → Calls Tryz.prog 34 #[.slice (some ⟨pb, 0, none⟩) 2 cc] W fun e w' => (∃ a n c, e = .returned (.slice a n c) ∧ OwnsI w' W.heap.size (.slice a n c) (A ++ C)) ∧ Below W.heap.size W w') := fun W pb cc s1 s2 k1 k2 h1 h2 h3 h4 h5 h6 h7 =>
    concatI_any pb cc s1 s2 X k1 Y k2 A C W h1 h2 h3 h4 h5 (by rw [HX.out]; exact h6) (by rw [HY.out]; exact h7)
  have cUA : Hid (∀ W, Below w.heap.size w W → Calls Tryz.prog 35 #[.agg #[.slice na N nc, .slice (some ⟨b, off, none⟩) F fcap], .int .i64 fb] W fun e w' => (∃ a cap, e = .returned (.slice a X cap) ∧ OwnsI w' W.heap.size (.slice a X cap) A ∧ X ≤ 1048576) ∧ Below W.heap.size W w') := fun W hW => by
    have h1 := cU.out W fb A hW hA.out
    rw [HX.out] at h1
    exact h1
  have cUC : Hid (∀ W, Below w.heap.size w W → Calls Tryz.prog 35 #[.agg #[.slice na N nc, .slice (some ⟨b, off, none⟩) F fcap], .int .i64 ft] W fun e w' => (∃ a cap, e = .returned (.slice a Y cap) ∧ OwnsI w' W.heap.size (.slice a Y cap) C ∧ Y ≤ 1048576) ∧ Below W.heap.size W w') := fun W hW => by
    have h1 := cU.out W ft C hW hC.out
    rw [HY.out] at h1
    exact h1
  clear hb1 cL0 cU
  go_wp2_with fail
  go_region_held3 (fun w' => ((w'.cell? ⟨w.heap.size, 0, none⟩ = some (.slice na N nc) ∧ w'.cell? ⟨w.heap.size, 1, none⟩ = some (.slice (some ⟨b, off, none⟩) F fcap)) ∧ w'.cell? ⟨b, off + m * 5 + 3, none⟩ = some (.int .i64 fb)) ∧ w'.cell? ⟨b, off + m * 5 + 4, none⟩ = some (.int .i64 ft)) (first | exact ⟨⟨⟨z0, z1⟩, z3⟩, z4⟩ | exact ⟨⟨⟨t0, t1⟩, t3⟩, t4⟩ | exact ⟨⟨⟨y0, y1⟩, y3⟩, y4⟩ | exact ⟨⟨⟨x0, x1⟩, e3⟩, e4⟩ | go_keep) (first | (have _z := t0; go_at_call 34; refine Calls.mono (cC.out _ _ _ sa sc ca ct hpbz hd0 hd1 hoA hoC hxl hyl) ?_; rintro e w6 ⟨⟨ra, rn, rc, rfl, hor⟩, hb6⟩; have z0 := (hb6.cell (p := ⟨w.heap.size, 0, none⟩) hl50).trans q0; have z1 := (hb6.cell (p := ⟨w.heap.size, 1, none⟩) hl50).trans q1; have z3 := (hb6.cell (p := ⟨b, off + m * 5 + 3, none⟩) hl5b).trans q3; have z4 := (hb6.cell (p := ⟨b, off + m * 5 + 4, none⟩) hl5b).trans q4) | (have _z := y0; go_at_call 35; refine Calls.mono (cUC.out w3 HB3) ?_; rintro e w5 ⟨⟨sc, ct, rfl, hot, hyl⟩, hb5⟩; have hl30 : w.heap.size < w3.heap.size := Nat.lt_of_lt_of_le hwl hb3.size; have hl3b : b < w3.heap.size := Nat.lt_of_lt_of_le hbl hb3.size; have t0 := (hb5.cell (p := ⟨w.heap.size, 0, none⟩) hl30).trans y0; have t1 := (hb5.cell (p := ⟨w.heap.size, 1, none⟩) hl30).trans y1; have t3 := (hb5.cell (p := ⟨b, off + m * 5 + 3, none⟩) hl3b).trans y3; have t4 := (hb5.cell (p := ⟨b, off + m * 5 + 4, none⟩) hl3b).trans y4; have hn5 : Below w5.heap.size w5 (w5.alloc (.cells #[.slice sa X ca, .slice sc Y ct] 35)) := (Below.refl _ _).alloc (Nat.le_refl _) _; have hl50 : w.heap.size < (w5.alloc (.cells #[.slice sa X ca, .slice sc Y ct] 35)).heap.size := Nat.lt_of_lt_of_le (Nat.lt_of_lt_of_le hl30 hb5.size) hn5.size; have hl5b : b < (w5.alloc (.cells #[.slice sa X ca, .slice sc Y ct] 35)).heap.size := Nat.lt_of_lt_of_le (Nat.lt_of_lt_of_le hl3b hb5.size) hn5.size; have q0 := (hn5.cell (p := ⟨w.heap.size, 0, none⟩) (Nat.lt_of_lt_of_le hl30 hb5.size)).trans t0; have q1 := (hn5.cell (p := ⟨w.heap.size, 1, none⟩) (Nat.lt_of_lt_of_le hl30 hb5.size)).trans t1; have q3 := (hn5.cell (p := ⟨b, off + m * 5 + 3, none⟩) (Nat.lt_of_lt_of_le hl3b hb5.size)).trans t3; have q4 := (hn5.cell (p := ⟨b, off + m * 5 + 4, none⟩) (Nat.lt_of_lt_of_le hl3b hb5.size)).trans t4; have hpbz := lt_alloc w5 (.cells #[.slice sa X ca, .slice sc Y ct] 35); have hd0 := cell_at (heap_alloc_new w5 (.cells #[.slice sa X ca, .slice sc Y ct] 35)) 0; have hd1 := cell_at (heap_alloc_new w5 (.cells #[.slice sa X ca, .slice sc Y ct] 35)) 1; have hoA := owns_base (OwnsR.below (OwnsR.below hos hb5) hn5) (Nat.zero_le _); have hoC := owns_base (OwnsR.below hot hn5) (Nat.zero_le _)) | (go_at_call 35; refine Calls.mono (cUA.out _ HU1.out.1.drew) ?_; rintro e w3 ⟨⟨sa, ca, rfl, hos, hxl⟩, hb3⟩; have y0 := (hb3.cell (p := ⟨w.heap.size, 0, none⟩) hwl).trans x0; have y1 := (hb3.cell (p := ⟨w.heap.size, 1, none⟩) hwl).trans x1; have y3 := (hb3.cell (p := ⟨b, off + m * 5 + 3, none⟩) hbl).trans e3; have y4 := (hb3.cell (p := ⟨b, off + m * 5 + 4, none⟩) hbl).trans e4; have HB3 := HU1.out.1.drew.trans (hb3.mono (Nat.le_of_lt hwl))))
  have HD6 : Hid (Below w1.heap.size w1 w6) := by
    have h1 : Below w1.heap.size w1 w3 := (Below.refl _ _).drew.trans hb3
    have h2 : Below w1.heap.size w1 w5 := h1.trans (hb5.mono h1.size)
    have h3 := h2.alloc h2.size (.cells #[.slice sa X ca, .slice sc Y ct] 35)
    exact h3.trans (hb6.mono h3.size)
  have HO6 : Hid (OwnsI w6 (w.heap.size + 2) (.slice ra rn rc) (A ++ C)) := by
    refine owns_base hor ?_
    have h1 : Below w1.heap.size w1 w3 := (Below.refl _ _).drew.trans hb3
    have h2 := h1.size
    have h3 := hb5.size
    have h4 := hn5.size
    omega
  have HB6 : Hid (Below w.heap.size w w6 ∧ w.heap.size + 2 ≤ w6.heap.size) := ⟨HU1.out.1.trans (HD6.out.mono (by omega)), by have := HD6.out.size; omega⟩
  have HA6 : Hid (UsesAt p.nodes nm w.heap.size (w.heap.size + 1) na N nc (w.heap.size + 2) w6) :=
    ⟨(HD6.out.cell (p := ⟨w.heap.size, 0, none⟩) hwl).trans HU1.out.2.2.1, (HD6.out.cell (p := ⟨w.heap.size + 1, 0, none⟩) (by show _ < _; simp only; omega)).trans HU1.out.2.2.2.2, (HV.out.1.keep HB6.out.1).up (by omega), by omega, by omega⟩
  have hln : (A ++ C).length ≤ 2097152 := by
    have := HX.out
    have := HY.out
    rw [List.length_append]
    omega
  have cSort := sortI_any (w.heap.size + 2) ra rn rc (A ++ C) w6 HO6.out (by omega)
  have hln2 := List.length_mergeSort (le := fun x y : Int => decide (x ≤ y)) (A ++ C)
  have hcs := compact_sort A C
  obtain ⟨zs, hzs⟩ : ∃ zs, Hid (((A ++ C).mergeSort fun x y => decide (x ≤ y)) = zs) := ⟨_, (rfl : ((A ++ C).mergeSort fun x y => decide (x ≤ y)) = _)⟩
  rw [hzs.out] at cSort hln2 hcs
  have HCS : Hid (Lib.compact zs = allL A C ∧ zs.length ≤ 2097152) := ⟨hcs, by omega⟩
  have HS : Hid (Calls Tryz.prog 36 #[.slice ra rn rc] w6 fun e w' => e = .returned (.tuple #[]) ∧ OwnsI w' (w.heap.size + 2) (.slice ra rn rc) zs ∧ w6.grownBy w' (Value.slice ra rn rc).ownBlock) := cSort
  clear z0 z1 z3 z4 t0 t1 t3 t4 y0 y1 y3 y4 q0 q1 q3 q4 x0 x1 e3 e4 hb3 hb5 hb6 hos hot hor hoA hoC hd0 hd1 hpbz hn5 hl50 hl5b hl30 hl3b HB3 HD6 HU1 cC cUA cUC cSort hln2 hcs hzs
  go_wp2_with fail
  go_at_call 36
  refine Calls.mono HS.out ?_
  rintro e w7 ⟨rfl, ho7, hg7⟩
  have HB7 : Hid (Below (w.heap.size + 2) w6 w7) := (Below.refl _ _).grown hg7 HB6.out.2 (fun k hk => (OwnsR.lt HO6.out k (by simp [fpOf, hk])).1)
  have cCo := compactI_any (w.heap.size + 2) ra rn rc zs w7 ho7 (by have := HCS.out.2; omega)
  rw [HCS.out.1] at cCo
  have HO7 : Hid (OwnsI w7 (w.heap.size + 2) (.slice ra rn rc) zs) := ho7
  obtain ⟨L, hL⟩ : ∃ L, Hid ((allL A C).length = L) := ⟨_, (rfl : (allL A C).length = (allL A C).length)⟩
  rw [hL.out] at cCo
  have HCo : Hid (Calls Tryz.prog 37 #[.slice ra rn rc] w7 fun e w' => e = .returned (.slice ra L rc) ∧ OwnsI w' (w.heap.size + 2) (.slice ra L rc) (allL A C) ∧ w7.grownBy w' (Value.slice ra rn rc).ownBlock) := cCo
  clear ho7 hg7 HS cCo
  go_wp2_with fail
  go_at_call 37
  refine Calls.mono HCo.out ?_
  rintro e w8 ⟨rfl, ho8, hg8⟩
  have HB8 : Hid (Below (w.heap.size + 2) w6 w8) := HB7.out.trans ((Below.refl _ _).grown hg8 (Nat.le_trans HB6.out.2 HB7.out.size) (fun k hk => (OwnsR.lt HO7.out k (by simp [fpOf, hk])).1))
  have HDe : Hid (Calls Tryz.prog 38 #[.slice ra L rc, .func (.func 39) #[] #[.pointer (some ⟨w.heap.size, 0, none⟩), .pointer (some ⟨w.heap.size + 1, 0, none⟩)]] w8 fun e w' => (∃ b m c, e = .returned (.slice b m c) ∧ OwnsI w' (w.heap.size + 2) (.slice b m c) (usesF p.nodes nm (allL A C))) ∧ Below (w.heap.size + 2) w8 w') :=
    deleteI_any p.nodes nm w.heap.size (w.heap.size + 1) na N nc (w.heap.size + 2) ra L rc (allL A C) w8 (HA6.out.keep HB8.out) (Nat.le_trans HB6.out.2 HB8.out.size) ho8 HIn.out (by
      have h1 := allL_len A C
      rw [List.length_append] at hln
      omega)
  clear ho8 hg8 HCo HB7 HO7
  go_wp2_with fail
  go_at_call 38
  refine Calls.mono HDe.out ?_
  rintro e w9 ⟨⟨da, dn, dc, rfl, ho9⟩, hb9⟩
  have HZ : Hid (OwnsI w9 w.heap.size (.slice da dn dc) (usesF p.nodes nm (allL A C)) ∧ Below w.heap.size w w9) := ⟨owns_base ho9 (by omega), HB6.out.1.trans ((HB8.out.trans hb9).mono (by omega))⟩
  clear ho9 hb9 HDe HB8
  go_wp2
  go_ret
  exact ⟨⟨_, _, _, rfl, HZ.out.1⟩, HZ.out.2⟩

end Go.Proofs.YtljphnjmeckpbaaGreat

namespace Go.Proofs.YtljphnjmeckpbaaGreat
open Go.RowKit

def mkNd (k : Nat) (x : Nd) : Nd := ⟨((k : Nat) : Int), ((k + 1 : Nat) : Int), mkT (k + 2), markL mkI lnI (k + 3) x.kids⟩
def lnNd (x : Nd) : Nat := (0 + 3 + markN lnI x.kids)
def mkNdP (k : Nat) (p : Nd × Value) : Nd × Value := (mkNd k p.1, p.2)
def lnNdP (p : Nd × Value) : Nat := lnNd p.1

set_option maxRecDepth 100000 in
set_option maxHeartbeats 3200000 in
theorem markNodeS_some (B g cap k n : Nat) (ps : List (Nd × Value)) (w : World) (HN : Hid (n = ps.length)) (hb : k + markN lnNdP ps ≤ 1000000000) (hk0 : 0 < k) (hown : NdR.Phys w B (.slice (some ⟨g, 0, none⟩) n cap) ps) (hA : (fps (NdR.all (.slice (some ⟨g, 0, none⟩) n cap) ps)).Nodup) :
    Calls Tryz.prog 41 #[.slice (some ⟨g, 0, none⟩) n cap, .int .i64 (k : Int)] w fun e' w' => e' = .returned (.int .i64 ((k + markN lnNdP ps : Nat) : Int)) ∧ NdR.Phys w' B (.slice (some ⟨g, 0, none⟩) n cap) (markL mkNdP lnNdP k ps) ∧ Kept (NdR.all (.slice (some ⟨g, 0, none⟩) n cap) ps) w w' := by
  have hnl : n ≤ 1000000000 := by have h1 := len_markN lnNdP (fun p => by unfold lnNdP lnNd; omega) ps; have := HN.out; omega
  obtain ⟨VS, HVS⟩ : ∃ VS, Hid (NdR.all (.slice (some ⟨g, 0, none⟩) n cap) ps = VS) := ⟨_, (rfl : NdR.all (.slice (some ⟨g, 0, none⟩) n cap) ps = NdR.all (.slice (some ⟨g, 0, none⟩) n cap) ps)⟩
  have HO : Hid (MarkSt NdR w VS w B g n cap (markTo mkNdP lnNdP k ps 0)) := by
    rw [markTo_zero]
    exact ⟨hown, HVS.out, by rw [← HVS.out]; exact hA, HN.out, Kept.refl _ _⟩
  rw [HVS.out]
  clear hown hA
  go_enter Tryz.func41, Tryz.ntmps41
  go_wp2
  go_loopw [1, 5] (fun kk i wr => ∃ (j m : Nat), j ≤ n ∧ i = .int .i64 (j : Int) ∧ kk = .int .i64 (m : Int) ∧ Hid (m = k + markN lnNdP (ps.take j)) ∧ Hid (MarkSt NdR w VS wr B g n cap (markTo mkNdP lnNdP k ps j)))
    (fun _ i _ => n - (intOf i).toNat)
  case atStart => exact ⟨0, k, Nat.zero_le _, rfl, rfl, by show _ = _; simp [markN], HO⟩
  case round =>
    obtain ⟨j, m, hj, rfl, rfl, HM, H0⟩ := hrel
    clear HO
    by_cases hlt : j < n
    · have hj0 : (0 : Int) ≤ (j : Int) := by omega
      have hj1 : (j : Int) < (n : Int) := by omega
      have hjp : j < ps.length := by have := HN.out; omega
      have hm0 : 0 < m := by have := HM.out; omega
      obtain ⟨q, hq⟩ : ∃ q, Hid (ps[j] = q) := ⟨_, (rfl : ps[j] = ps[j])⟩
      have hmb : m + lnNdP q ≤ 1000000000 := by
        have h1 := markN_take lnNdP ps j hjp
        have h2 := markN_take_le lnNdP ps (j + 1)
        have := HM.out
        rw [hq.out] at h1
        omega
      have HNX : Hid (m + lnNdP q = k + markN lnNdP (ps.take (j + 1))) := by
        show _ = _
        rw [markN_take lnNdP ps j hjp, hq.out, HM.out, Nat.add_assoc]
      have HST : Hid (∀ y, y = mkNdP m q → (markTo mkNdP lnNdP k ps j).set j y = markTo mkNdP lnNdP k ps (j + 1)) := fun y hy => markTo_step mkNdP lnNdP k ps j hjp y (by rw [hy, hq.out, HM.out])
      have hCl : j < (markTo mkNdP lnNdP k ps j).length := by rw [markTo_len]; exact hjp
      have hC0 : (markTo mkNdP lnNdP k ps j).set j q = markTo mkNdP lnNdP k ps j := by
        have := markTo_at mkNdP lnNdP k ps j hjp
        rw [hq.out] at this
        rw [← this]
        exact List.set_getElem_self hCl
      obtain ⟨C, hC⟩ : ∃ C, Hid (markTo mkNdP lnNdP k ps j = C) := ⟨_, (rfl : markTo mkNdP lnNdP k ps j = markTo mkNdP lnNdP k ps j)⟩
      rw [hC.out] at H0 HST hCl hC0
      have hl : ∀ y, j < (C.set j y).length := fun y => by rw [List.length_set]; exact hCl
      have HLn : Hid (∀ y, j < (C.set j y).length) := hl
      have HAt : Hid (∀ y, (C.set j y)[j]'(HLn.out y) = y) := fun y => List.getElem_set_self _
      obtain ⟨⟨kind, num, name, kids⟩, v0⟩ := q
      have S0 : Hid (MarkSt NdR w VS wr B g n cap (C.set j ((⟨kind, num, name, kids⟩ : Nd), v0))) := by rw [hC0]; exact H0.out
      simp only [lnNdP, lnNd] at hmb
      clear H0 hC0 hl hCl
      have c0_0 : wr.cell? ⟨g, j * 4, none⟩ = some (.int .i64 kind) := by
        have := S0.out.cell j 0 (HLn.out _) (by decide)
        rw [HAt.out] at this
        exact this
      have fr0_0 : wr.frozen? ⟨g, j * 4, none⟩ = false := S0.out.free _
      have S1 : Hid (MarkSt NdR w VS (wr.setCell ⟨g, j * 4, none⟩ (.int .i64 ((m : Nat) : Int))) B g n cap (C.set j ((⟨((m : Nat) : Int), num, name, kids⟩ : Nd), v0))) := by
        have := S0.out.field j 0 (HLn.out _) (by decide) ((⟨((m : Nat) : Int), num, name, kids⟩ : Nd), v0) (.int .i64 ((m : Nat) : Int)) (by rw [HAt.out]; rfl) (by rw [HAt.out]; rfl) (fun W B h => by rw [HAt.out] at h; exact h)
        rw [List.set_set] at this
        exact this
      have c1_1 : wr.cell? ⟨g, j * 4 + 1, none⟩ = some (.int .i64 num) := by
        have := S0.out.cell j 1 (HLn.out _) (by decide)
        rw [HAt.out] at this
        exact this
      have fr1_1 : wr.frozen? ⟨g, j * 4 + 1, none⟩ = false := S0.out.free _
      have S2 : Hid (MarkSt NdR w VS ((wr.setCell ⟨g, j * 4, none⟩ (.int .i64 ((m : Nat) : Int))).setCell ⟨g, j * 4 + 1, none⟩ (.int .i64 ((m + 1 : Nat) : Int))) B g n cap (C.set j ((⟨((m : Nat) : Int), ((m + 1 : Nat) : Int), name, kids⟩ : Nd), v0))) := by
        have := S1.out.field j 1 (HLn.out _) (by decide) ((⟨((m : Nat) : Int), ((m + 1 : Nat) : Int), name, kids⟩ : Nd), v0) (.int .i64 ((m + 1 : Nat) : Int)) (by rw [HAt.out]; rfl) (by rw [HAt.out]; rfl) (fun W B h => by rw [HAt.out] at h; exact h)
        rw [List.set_set] at this
        exact this
      clear S1
      go_wp2_with fail
      clear c0_0 fr0_0 c1_1 fr1_1 S0
      go_at_call 70
      refine (markText_any (m + 2) _ (by omega) (by omega)).mono ?_
      rintro e' w1 ⟨rfl, hbc⟩
      obtain ⟨T0, HT0⟩ : ∃ T, Hid (mkT (m + 2) = T) := ⟨_, (rfl : mkT (m + 2) = mkT (m + 2))⟩
      rw [HT0.out]
      have S3 : Hid (MarkSt NdR w VS w1 B g n cap (C.set j ((⟨((m : Nat) : Int), ((m + 1 : Nat) : Int), name, kids⟩ : Nd), v0))) := S2.out.below hbc
      clear hbc S2
      have c3_2 : w1.cell? ⟨g, j * 4 + 2, none⟩ = some (.string name) := by
        have := S3.out.cell j 2 (HLn.out _) (by decide)
        rw [HAt.out] at this
        exact this
      have fr3_2 : w1.frozen? ⟨g, j * 4 + 2, none⟩ = false := S3.out.free _
      have S4 : Hid (MarkSt NdR w VS (w1.setCell ⟨g, j * 4 + 2, none⟩ (.string T0)) B g n cap (C.set j ((⟨((m : Nat) : Int), ((m + 1 : Nat) : Int), T0, kids⟩ : Nd), v0))) := by
        have := S3.out.field j 2 (HLn.out _) (by decide) ((⟨((m : Nat) : Int), ((m + 1 : Nat) : Int), T0, kids⟩ : Nd), v0) (.string T0) (by rw [HAt.out]; rfl) (by rw [HAt.out]; rfl) (fun W B h => by rw [HAt.out] at h; exact h)
        rw [List.set_set] at this
        exact this
      have c4_3 : w1.cell? ⟨g, j * 4 + 3, none⟩ = some (v0) := by
        have := S3.out.cell j 3 (HLn.out _) (by decide)
        rw [HAt.out] at this
        exact this
      go_wp2_with fail
      clear c3_2 fr3_2 c4_3 S3
      have hsub : OwnsI (w1.setCell ⟨g, j * 4 + 2, none⟩ (.string T0)) B v0 kids := by
        have := S4.out.phys.2 _ (List.getElem_mem (HLn.out _))
        rw [HAt.out] at this
        exact this
      go_at_call 14
      refine (markIntS_any B v0 (m + 3) kids _ (by first | omega | (rw [← lnI_len]; omega)) hsub).mono ?_
      rintro e' w2 ⟨rfl, hsub2, hk⟩
      obtain ⟨X3, HX3⟩ : ∃ X, Hid (markL mkI lnI (m + 3) kids = X) := ⟨_, (rfl : markL mkI lnI (m + 3) kids = _)⟩
      rw [HX3.out] at hsub2
      obtain ⟨m2, Hm2⟩ : ∃ x, Hid (m + 3 + kids.length = x) := ⟨_, (rfl : m + 3 + kids.length = _)⟩
      rw [Hm2.out]
      have hm2a : m2 + 0 ≤ 1000000000 := by rw [← Hm2.out]; first | omega | (rw [← lnI_len]; omega)
      have hm2b : 0 < m2 := by have := Hm2.out; omega
      have S5 : Hid (MarkSt NdR w VS w2 B g n cap (C.set j ((⟨((m : Nat) : Int), ((m + 1 : Nat) : Int), T0, X3⟩ : Nd), v0))) := by
        have := S4.out.inner j (HLn.out _) ((⟨((m : Nat) : Int), ((m + 1 : Nat) : Int), T0, X3⟩ : Nd), v0) (by rw [HAt.out]; rfl) (by rw [HAt.out]; rfl) (by rw [HAt.out]; exact hk) hsub2
        rw [List.set_set] at this
        exact this
      clear hsub hsub2 hk S4
      have HF : Hid (MarkSt NdR w VS w2 B g n cap (markTo mkNdP lnNdP k ps (j + 1))) := by
        have h1 := HST.out ((⟨((m : Nat) : Int), ((m + 1 : Nat) : Int), T0, X3⟩ : Nd), v0) (by
          simp only [mkNdP, mkNd]
          rw [← HT0.out, ← HX3.out]; try rw [← Hm2.out]
          try rw [lnI_len]
          try rfl)
        rw [← h1]
        exact S5.out
      have HE : Hid (m2 = k + markN lnNdP (ps.take (j + 1))) := by
        show _ = _
        rw [← HNX.out, ← Hm2.out]
        simp only [lnNdP, lnNd, lnI_len]
        try omega
      clear S5
      go_wp2
      go_roundw
      case rel => exact ⟨j + 1, m2, by omega, by go_num, by go_num, HE, HF⟩
      case measure => simp [intOf]; omega
    · have hjn : Hid (j = n) := (by omega : j = n)
      have HE : Hid (m = k + markN lnNdP ps) := by show _ = _; rw [HM.out, List.take_of_length_le (by have := HN.out; have := hjn.out; omega)]
      have HF : Hid (MarkSt NdR w VS wr B g n cap (markL mkNdP lnNdP k ps)) := by
        have := H0.out
        rw [markTo_all mkNdP lnNdP k ps j (by have := HN.out; have := hjn.out; omega)] at this
        exact this
      go_wp2
      go_ret
      exact ⟨by rw [← HE.out]; rfl, HF.out.phys, HF.out.kept⟩
theorem markNodeS_none (ao : Option Addr) (c : Nat) (k : Int) (w : World) :
    Calls Tryz.prog 41 #[.slice ao 0 c, .int .i64 k] w fun e w' => e = .returned (.int .i64 k) ∧ w' = w := by
  go_enter Tryz.func41, Tryz.ntmps41
  go_wp2
  refine wp_loop_rounds 1 ?_
  rw [rounds_succ]
  go_wp2
  go_ret
  exact ⟨rfl, rfl⟩
theorem markNodeS_any (B : Nat) (v : Value) (k : Nat) (ps : List (Nd × Value)) (w : World) (hb : k + markN lnNdP ps ≤ 1000000000) (hk0 : 0 < k) (hown : NdR.Phys w B v ps) (hA : (fps (NdR.all v ps)).Nodup) :
    Calls Tryz.prog 41 #[v, .int .i64 (k : Int)] w fun e' w' => e' = .returned (.int .i64 ((k + markN lnNdP ps : Nat) : Int)) ∧ NdR.Phys w' B v (markL mkNdP lnNdP k ps) ∧ Kept (NdR.all v ps) w w' := by
  rcases OwnsR.form hown.1 with ⟨rfl, rfl⟩ | ⟨g, cap, rfl, _, _⟩
  · refine (markNodeS_none none 0 k w).mono ?_
    rintro e' w' ⟨rfl, rfl⟩
    exact ⟨rfl, hown, Kept.refl _ _⟩
  · exact markNodeS_some B g cap k _ ps w rfl hb hk0 hown hA

end Go.Proofs.YtljphnjmeckpbaaGreat

namespace Go.Proofs.YtljphnjmeckpbaaGreat
open Go.RowKit

theorem all_flatPm (v : Value) (ps : List Pm) : PmR.all v ps = [v] := by simp [RowTy.all, PmR, flat_nil]
def mkPm (k : Nat) (_x : Pm) : Pm := ⟨mkT (k), ((k + 1 : Nat) : Int)⟩
def lnPm (_x : Pm) : Nat := 0 + 2

set_option maxRecDepth 100000 in
set_option maxHeartbeats 3200000 in
theorem markParamS_some (B g cap k n : Nat) (ps : List (Pm)) (w : World) (HN : Hid (n = ps.length)) (hb : k + markN lnPm ps ≤ 1000000000) (hk0 : 0 < k) (hown : PmR.Phys w B (.slice (some ⟨g, 0, none⟩) n cap) ps) (hA : (fps (PmR.all (.slice (some ⟨g, 0, none⟩) n cap) ps)).Nodup) :
    Calls Tryz.prog 71 #[.slice (some ⟨g, 0, none⟩) n cap, .int .i64 (k : Int)] w fun e' w' => e' = .returned (.int .i64 ((k + markN lnPm ps : Nat) : Int)) ∧ PmR.Phys w' B (.slice (some ⟨g, 0, none⟩) n cap) (markL mkPm lnPm k ps) ∧ Kept (PmR.all (.slice (some ⟨g, 0, none⟩) n cap) ps) w w' := by
  have hnl : n ≤ 1000000000 := by have h1 := len_markN lnPm (fun p => by unfold lnPm; omega) ps; have := HN.out; omega
  obtain ⟨VS, HVS⟩ : ∃ VS, Hid (PmR.all (.slice (some ⟨g, 0, none⟩) n cap) ps = VS) := ⟨_, (rfl : PmR.all (.slice (some ⟨g, 0, none⟩) n cap) ps = PmR.all (.slice (some ⟨g, 0, none⟩) n cap) ps)⟩
  have HO : Hid (MarkSt PmR w VS w B g n cap (markTo mkPm lnPm k ps 0)) := by
    rw [markTo_zero]
    exact ⟨hown, HVS.out, by rw [← HVS.out]; exact hA, HN.out, Kept.refl _ _⟩
  rw [HVS.out]
  clear hown hA
  go_enter Tryz.func71, Tryz.ntmps71
  go_wp2
  go_loopw [1, 5] (fun kk i wr => ∃ (j m : Nat), j ≤ n ∧ i = .int .i64 (j : Int) ∧ kk = .int .i64 (m : Int) ∧ Hid (m = k + markN lnPm (ps.take j)) ∧ Hid (MarkSt PmR w VS wr B g n cap (markTo mkPm lnPm k ps j)))
    (fun _ i _ => n - (intOf i).toNat)
  case atStart => exact ⟨0, k, Nat.zero_le _, rfl, rfl, by show _ = _; simp [markN], HO⟩
  case round =>
    obtain ⟨j, m, hj, rfl, rfl, HM, H0⟩ := hrel
    clear HO
    by_cases hlt : j < n
    · have hj0 : (0 : Int) ≤ (j : Int) := by omega
      have hj1 : (j : Int) < (n : Int) := by omega
      have hjp : j < ps.length := by have := HN.out; omega
      have hm0 : 0 < m := by have := HM.out; omega
      obtain ⟨q, hq⟩ : ∃ q, Hid (ps[j] = q) := ⟨_, (rfl : ps[j] = ps[j])⟩
      have hmb : m + lnPm q ≤ 1000000000 := by
        have h1 := markN_take lnPm ps j hjp
        have h2 := markN_take_le lnPm ps (j + 1)
        have := HM.out
        rw [hq.out] at h1
        omega
      have HNX : Hid (m + lnPm q = k + markN lnPm (ps.take (j + 1))) := by
        show _ = _
        rw [markN_take lnPm ps j hjp, hq.out, HM.out, Nat.add_assoc]
      have HST : Hid (∀ y, y = mkPm m q → (markTo mkPm lnPm k ps j).set j y = markTo mkPm lnPm k ps (j + 1)) := fun y hy => markTo_step mkPm lnPm k ps j hjp y (by rw [hy, hq.out, HM.out])
      have hCl : j < (markTo mkPm lnPm k ps j).length := by rw [markTo_len]; exact hjp
      have hC0 : (markTo mkPm lnPm k ps j).set j q = markTo mkPm lnPm k ps j := by
        have := markTo_at mkPm lnPm k ps j hjp
        rw [hq.out] at this
        rw [← this]
        exact List.set_getElem_self hCl
      obtain ⟨C, hC⟩ : ∃ C, Hid (markTo mkPm lnPm k ps j = C) := ⟨_, (rfl : markTo mkPm lnPm k ps j = markTo mkPm lnPm k ps j)⟩
      rw [hC.out] at H0 HST hCl hC0
      have hl : ∀ y, j < (C.set j y).length := fun y => by rw [List.length_set]; exact hCl
      have HLn : Hid (∀ y, j < (C.set j y).length) := hl
      have HAt : Hid (∀ y, (C.set j y)[j]'(HLn.out y) = y) := fun y => List.getElem_set_self _
      obtain ⟨name, ty⟩ := q
      have S0 : Hid (MarkSt PmR w VS wr B g n cap (C.set j (⟨name, ty⟩ : Pm))) := by rw [hC0]; exact H0.out
      simp only [lnPm] at hmb
      clear H0 hC0 hl hCl
      go_wp2_with fail
      go_at_call 70
      refine (markText_any (m) _ (by omega) (by omega)).mono ?_
      rintro e' w1 ⟨rfl, hbc⟩
      obtain ⟨T0, HT0⟩ : ∃ T, Hid (mkT (m) = T) := ⟨_, (rfl : mkT (m) = mkT (m))⟩
      rw [HT0.out]
      have S1 : Hid (MarkSt PmR w VS w1 B g n cap (C.set j (⟨name, ty⟩ : Pm))) := S0.out.below hbc
      clear hbc S0
      have c1_0 : w1.cell? ⟨g, j * 2, none⟩ = some (.string name) := by
        have := S1.out.cell j 0 (HLn.out _) (by decide)
        rw [HAt.out] at this
        exact this
      have fr1_0 : w1.frozen? ⟨g, j * 2, none⟩ = false := S1.out.free _
      have S2 : Hid (MarkSt PmR w VS (w1.setCell ⟨g, j * 2, none⟩ (.string T0)) B g n cap (C.set j (⟨T0, ty⟩ : Pm))) := by
        have := S1.out.field j 0 (HLn.out _) (by decide) (⟨T0, ty⟩ : Pm) (.string T0) (by rw [HAt.out]; rfl) (by rw [HAt.out]; rfl) (fun W B h => by rw [HAt.out] at h; exact h)
        rw [List.set_set] at this
        exact this
      have c2_1 : w1.cell? ⟨g, j * 2 + 1, none⟩ = some (.int .i64 ty) := by
        have := S1.out.cell j 1 (HLn.out _) (by decide)
        rw [HAt.out] at this
        exact this
      have fr2_1 : w1.frozen? ⟨g, j * 2 + 1, none⟩ = false := S1.out.free _
      have S3 : Hid (MarkSt PmR w VS ((w1.setCell ⟨g, j * 2, none⟩ (.string T0)).setCell ⟨g, j * 2 + 1, none⟩ (.int .i64 ((m + 1 : Nat) : Int))) B g n cap (C.set j (⟨T0, ((m + 1 : Nat) : Int)⟩ : Pm))) := by
        have := S2.out.field j 1 (HLn.out _) (by decide) (⟨T0, ((m + 1 : Nat) : Int)⟩ : Pm) (.int .i64 ((m + 1 : Nat) : Int)) (by rw [HAt.out]; rfl) (by rw [HAt.out]; rfl) (fun W B h => by rw [HAt.out] at h; exact h)
        rw [List.set_set] at this
        exact this
      clear S2
      have HF : Hid (MarkSt PmR w VS ((w1.setCell ⟨g, j * 2, none⟩ (.string T0)).setCell ⟨g, j * 2 + 1, none⟩ (.int .i64 ((m + 1 : Nat) : Int))) B g n cap (markTo mkPm lnPm k ps (j + 1))) := by
        have h1 := HST.out (⟨T0, ((m + 1 : Nat) : Int)⟩ : Pm) (by
          simp only [mkPm]
          rw [← HT0.out]
          try rw [lnI_len]
          try rfl)
        rw [← h1]
        exact S3.out
      have HE : Hid (m + 2 = k + markN lnPm (ps.take (j + 1))) := by
        show _ = _
        rw [← HNX.out]
        simp only [lnPm]
        try omega
      clear S3 S1
      go_wp2
      go_roundw
      case rel => exact ⟨j + 1, m + 2, by omega, by go_num, by go_num, HE, HF⟩
      case measure => simp [intOf]; omega
    · have hjn : Hid (j = n) := (by omega : j = n)
      have HE : Hid (m = k + markN lnPm ps) := by show _ = _; rw [HM.out, List.take_of_length_le (by have := HN.out; have := hjn.out; omega)]
      have HF : Hid (MarkSt PmR w VS wr B g n cap (markL mkPm lnPm k ps)) := by
        have := H0.out
        rw [markTo_all mkPm lnPm k ps j (by have := HN.out; have := hjn.out; omega)] at this
        exact this
      go_wp2
      go_ret
      exact ⟨by rw [← HE.out]; rfl, HF.out.phys, HF.out.kept⟩
theorem markParamS_none (ao : Option Addr) (c : Nat) (k : Int) (w : World) :
    Calls Tryz.prog 71 #[.slice ao 0 c, .int .i64 k] w fun e w' => e = .returned (.int .i64 k) ∧ w' = w := by
  go_enter Tryz.func71, Tryz.ntmps71
  go_wp2
  refine wp_loop_rounds 1 ?_
  rw [rounds_succ]
  go_wp2
  go_ret
  exact ⟨rfl, rfl⟩
theorem markParamS_any (B : Nat) (v : Value) (k : Nat) (ps : List (Pm)) (w : World) (hb : k + markN lnPm ps ≤ 1000000000) (hk0 : 0 < k) (hown : PmR.Phys w B v ps) (hA : (fps (PmR.all v ps)).Nodup) :
    Calls Tryz.prog 71 #[v, .int .i64 (k : Int)] w fun e' w' => e' = .returned (.int .i64 ((k + markN lnPm ps : Nat) : Int)) ∧ PmR.Phys w' B v (markL mkPm lnPm k ps) ∧ Kept (PmR.all v ps) w w' := by
  rcases OwnsR.form hown.1 with ⟨rfl, rfl⟩ | ⟨g, cap, rfl, _, _⟩
  · refine (markParamS_none none 0 k w).mono ?_
    rintro e' w' ⟨rfl, rfl⟩
    exact ⟨rfl, hown, Kept.refl _ _⟩
  · exact markParamS_some B g cap k _ ps w rfl hb hk0 hown hA

end Go.Proofs.YtljphnjmeckpbaaGreat

namespace Go.Proofs.YtljphnjmeckpbaaGreat
open Go.RowKit

def mkFc (k : Nat) (x : Fc) : Fc := ⟨mkT (k), markL mkPm lnPm (k + 1) x.params, (((k + 1 + markN lnPm x.params) : Nat) : Int), (((k + 1 + markN lnPm x.params) + 1 : Nat) : Int), (((k + 1 + markN lnPm x.params) + 2 : Nat) : Int)⟩
def lnFc (x : Fc) : Nat := (0 + 1 + markN lnPm x.params) + 3
def mkFcP (k : Nat) (p : Fc × Value) : Fc × Value := (mkFc k p.1, p.2)
def lnFcP (p : Fc × Value) : Nat := lnFc p.1

set_option maxRecDepth 100000 in
set_option maxHeartbeats 3200000 in
theorem markFnS_some (B g cap k n : Nat) (ps : List (Fc × Value)) (w : World) (HN : Hid (n = ps.length)) (hb : k + markN lnFcP ps ≤ 1000000000) (hk0 : 0 < k) (hown : FcR.Phys w B (.slice (some ⟨g, 0, none⟩) n cap) ps) (hA : (fps (FcR.all (.slice (some ⟨g, 0, none⟩) n cap) ps)).Nodup) :
    Calls Tryz.prog 42 #[.slice (some ⟨g, 0, none⟩) n cap, .int .i64 (k : Int)] w fun e' w' => e' = .returned (.int .i64 ((k + markN lnFcP ps : Nat) : Int)) ∧ FcR.Phys w' B (.slice (some ⟨g, 0, none⟩) n cap) (markL mkFcP lnFcP k ps) ∧ Kept (FcR.all (.slice (some ⟨g, 0, none⟩) n cap) ps) w w' := by
  have hnl : n ≤ 1000000000 := by have h1 := len_markN lnFcP (fun p => by unfold lnFcP lnFc; omega) ps; have := HN.out; omega
  obtain ⟨VS, HVS⟩ : ∃ VS, Hid (FcR.all (.slice (some ⟨g, 0, none⟩) n cap) ps = VS) := ⟨_, (rfl : FcR.all (.slice (some ⟨g, 0, none⟩) n cap) ps = FcR.all (.slice (some ⟨g, 0, none⟩) n cap) ps)⟩
  have HO : Hid (MarkSt FcR w VS w B g n cap (markTo mkFcP lnFcP k ps 0)) := by
    rw [markTo_zero]
    exact ⟨hown, HVS.out, by rw [← HVS.out]; exact hA, HN.out, Kept.refl _ _⟩
  rw [HVS.out]
  clear hown hA
  go_enter Tryz.func42, Tryz.ntmps42
  go_wp2
  go_loopw [1, 5] (fun kk i wr => ∃ (j m : Nat), j ≤ n ∧ i = .int .i64 (j : Int) ∧ kk = .int .i64 (m : Int) ∧ Hid (m = k + markN lnFcP (ps.take j)) ∧ Hid (MarkSt FcR w VS wr B g n cap (markTo mkFcP lnFcP k ps j)))
    (fun _ i _ => n - (intOf i).toNat)
  case atStart => exact ⟨0, k, Nat.zero_le _, rfl, rfl, by show _ = _; simp [markN], HO⟩
  case round =>
    obtain ⟨j, m, hj, rfl, rfl, HM, H0⟩ := hrel
    clear HO
    by_cases hlt : j < n
    · have hj0 : (0 : Int) ≤ (j : Int) := by omega
      have hj1 : (j : Int) < (n : Int) := by omega
      have hjp : j < ps.length := by have := HN.out; omega
      have hm0 : 0 < m := by have := HM.out; omega
      obtain ⟨q, hq⟩ : ∃ q, Hid (ps[j] = q) := ⟨_, (rfl : ps[j] = ps[j])⟩
      have hmb : m + lnFcP q ≤ 1000000000 := by
        have h1 := markN_take lnFcP ps j hjp
        have h2 := markN_take_le lnFcP ps (j + 1)
        have := HM.out
        rw [hq.out] at h1
        omega
      have HNX : Hid (m + lnFcP q = k + markN lnFcP (ps.take (j + 1))) := by
        show _ = _
        rw [markN_take lnFcP ps j hjp, hq.out, HM.out, Nat.add_assoc]
      have HST : Hid (∀ y, y = mkFcP m q → (markTo mkFcP lnFcP k ps j).set j y = markTo mkFcP lnFcP k ps (j + 1)) := fun y hy => markTo_step mkFcP lnFcP k ps j hjp y (by rw [hy, hq.out, HM.out])
      have hCl : j < (markTo mkFcP lnFcP k ps j).length := by rw [markTo_len]; exact hjp
      have hC0 : (markTo mkFcP lnFcP k ps j).set j q = markTo mkFcP lnFcP k ps j := by
        have := markTo_at mkFcP lnFcP k ps j hjp
        rw [hq.out] at this
        rw [← this]
        exact List.set_getElem_self hCl
      obtain ⟨C, hC⟩ : ∃ C, Hid (markTo mkFcP lnFcP k ps j = C) := ⟨_, (rfl : markTo mkFcP lnFcP k ps j = markTo mkFcP lnFcP k ps j)⟩
      rw [hC.out] at H0 HST hCl hC0
      have hl : ∀ y, j < (C.set j y).length := fun y => by rw [List.length_set]; exact hCl
      have HLn : Hid (∀ y, j < (C.set j y).length) := hl
      have HAt : Hid (∀ y, (C.set j y)[j]'(HLn.out y) = y) := fun y => List.getElem_set_self _
      obtain ⟨⟨name, params, res, body, ret⟩, v0⟩ := q
      have S0 : Hid (MarkSt FcR w VS wr B g n cap (C.set j ((⟨name, params, res, body, ret⟩ : Fc), v0))) := by rw [hC0]; exact H0.out
      simp only [lnFcP, lnFc] at hmb
      clear H0 hC0 hl hCl
      go_wp2_with fail
      go_at_call 70
      refine (markText_any (m) _ (by omega) (by omega)).mono ?_
      rintro e' w1 ⟨rfl, hbc⟩
      obtain ⟨T0, HT0⟩ : ∃ T, Hid (mkT (m) = T) := ⟨_, (rfl : mkT (m) = mkT (m))⟩
      rw [HT0.out]
      have S1 : Hid (MarkSt FcR w VS w1 B g n cap (C.set j ((⟨name, params, res, body, ret⟩ : Fc), v0))) := S0.out.below hbc
      clear hbc S0
      have c1_0 : w1.cell? ⟨g, j * 5, none⟩ = some (.string name) := by
        have := S1.out.cell j 0 (HLn.out _) (by decide)
        rw [HAt.out] at this
        exact this
      have fr1_0 : w1.frozen? ⟨g, j * 5, none⟩ = false := S1.out.free _
      have S2 : Hid (MarkSt FcR w VS (w1.setCell ⟨g, j * 5, none⟩ (.string T0)) B g n cap (C.set j ((⟨T0, params, res, body, ret⟩ : Fc), v0))) := by
        have := S1.out.field j 0 (HLn.out _) (by decide) ((⟨T0, params, res, body, ret⟩ : Fc), v0) (.string T0) (by rw [HAt.out]; rfl) (by rw [HAt.out]; rfl) (fun W B h => by rw [HAt.out] at h; exact h)
        rw [List.set_set] at this
        exact this
      have c2_1 : w1.cell? ⟨g, j * 5 + 1, none⟩ = some (v0) := by
        have := S1.out.cell j 1 (HLn.out _) (by decide)
        rw [HAt.out] at this
        exact this
      go_wp2_with fail
      clear c1_0 fr1_0 c2_1 S1
      have hsub : PmR.Phys (w1.setCell ⟨g, j * 5, none⟩ (.string T0)) B v0 params := by
        have := S2.out.phys.2 _ (List.getElem_mem (HLn.out _))
        rw [HAt.out] at this
        exact this
      go_at_call 71
      refine (markParamS_any B v0 (m + 1) params _ (by omega) (by omega) hsub (by rw [all_flatPm]; exact fp_nodup v0)).mono ?_
      rintro e' w2 ⟨rfl, hsub2, hk⟩
      obtain ⟨X1, HX1⟩ : ∃ X, Hid (markL mkPm lnPm (m + 1) params = X) := ⟨_, (rfl : markL mkPm lnPm (m + 1) params = _)⟩
      rw [HX1.out] at hsub2
      obtain ⟨m2, Hm2⟩ : ∃ x, Hid (m + 1 + markN lnPm params = x) := ⟨_, (rfl : m + 1 + markN lnPm params = _)⟩
      rw [Hm2.out]
      have hm2a : m2 + 3 ≤ 1000000000 := by rw [← Hm2.out]; omega
      have hm2b : 0 < m2 := by have := Hm2.out; omega
      have S3 : Hid (MarkSt FcR w VS w2 B g n cap (C.set j ((⟨T0, X1, res, body, ret⟩ : Fc), v0))) := by
        have := S2.out.inner j (HLn.out _) ((⟨T0, X1, res, body, ret⟩ : Fc), v0) (by rw [HAt.out]; rfl) (by rw [HAt.out]; rfl) (by rw [HAt.out]; exact (by rw [all_flatPm] at hk; exact hk)) hsub2
        rw [List.set_set] at this
        exact this
      clear hsub hsub2 hk S2
      have c3_2 : w2.cell? ⟨g, j * 5 + 2, none⟩ = some (.int .i64 res) := by
        have := S3.out.cell j 2 (HLn.out _) (by decide)
        rw [HAt.out] at this
        exact this
      have fr3_2 : w2.frozen? ⟨g, j * 5 + 2, none⟩ = false := S3.out.free _
      have S4 : Hid (MarkSt FcR w VS (w2.setCell ⟨g, j * 5 + 2, none⟩ (.int .i64 ((m2 : Nat) : Int))) B g n cap (C.set j ((⟨T0, X1, ((m2 : Nat) : Int), body, ret⟩ : Fc), v0))) := by
        have := S3.out.field j 2 (HLn.out _) (by decide) ((⟨T0, X1, ((m2 : Nat) : Int), body, ret⟩ : Fc), v0) (.int .i64 ((m2 : Nat) : Int)) (by rw [HAt.out]; rfl) (by rw [HAt.out]; rfl) (fun W B h => by rw [HAt.out] at h; exact h)
        rw [List.set_set] at this
        exact this
      have c4_3 : w2.cell? ⟨g, j * 5 + 3, none⟩ = some (.int .i64 body) := by
        have := S3.out.cell j 3 (HLn.out _) (by decide)
        rw [HAt.out] at this
        exact this
      have fr4_3 : w2.frozen? ⟨g, j * 5 + 3, none⟩ = false := S3.out.free _
      have S5 : Hid (MarkSt FcR w VS ((w2.setCell ⟨g, j * 5 + 2, none⟩ (.int .i64 ((m2 : Nat) : Int))).setCell ⟨g, j * 5 + 3, none⟩ (.int .i64 ((m2 + 1 : Nat) : Int))) B g n cap (C.set j ((⟨T0, X1, ((m2 : Nat) : Int), ((m2 + 1 : Nat) : Int), ret⟩ : Fc), v0))) := by
        have := S4.out.field j 3 (HLn.out _) (by decide) ((⟨T0, X1, ((m2 : Nat) : Int), ((m2 + 1 : Nat) : Int), ret⟩ : Fc), v0) (.int .i64 ((m2 + 1 : Nat) : Int)) (by rw [HAt.out]; rfl) (by rw [HAt.out]; rfl) (fun W B h => by rw [HAt.out] at h; exact h)
        rw [List.set_set] at this
        exact this
      clear S4
      have c5_4 : w2.cell? ⟨g, j * 5 + 4, none⟩ = some (.int .i64 ret) := by
        have := S3.out.cell j 4 (HLn.out _) (by decide)
        rw [HAt.out] at this
        exact this
      have fr5_4 : w2.frozen? ⟨g, j * 5 + 4, none⟩ = false := S3.out.free _
      have S6 : Hid (MarkSt FcR w VS (((w2.setCell ⟨g, j * 5 + 2, none⟩ (.int .i64 ((m2 : Nat) : Int))).setCell ⟨g, j * 5 + 3, none⟩ (.int .i64 ((m2 + 1 : Nat) : Int))).setCell ⟨g, j * 5 + 4, none⟩ (.int .i64 ((m2 + 2 : Nat) : Int))) B g n cap (C.set j ((⟨T0, X1, ((m2 : Nat) : Int), ((m2 + 1 : Nat) : Int), ((m2 + 2 : Nat) : Int)⟩ : Fc), v0))) := by
        have := S5.out.field j 4 (HLn.out _) (by decide) ((⟨T0, X1, ((m2 : Nat) : Int), ((m2 + 1 : Nat) : Int), ((m2 + 2 : Nat) : Int)⟩ : Fc), v0) (.int .i64 ((m2 + 2 : Nat) : Int)) (by rw [HAt.out]; rfl) (by rw [HAt.out]; rfl) (fun W B h => by rw [HAt.out] at h; exact h)
        rw [List.set_set] at this
        exact this
      clear S5
      have HF : Hid (MarkSt FcR w VS (((w2.setCell ⟨g, j * 5 + 2, none⟩ (.int .i64 ((m2 : Nat) : Int))).setCell ⟨g, j * 5 + 3, none⟩ (.int .i64 ((m2 + 1 : Nat) : Int))).setCell ⟨g, j * 5 + 4, none⟩ (.int .i64 ((m2 + 2 : Nat) : Int))) B g n cap (markTo mkFcP lnFcP k ps (j + 1))) := by
        have h1 := HST.out ((⟨T0, X1, ((m2 : Nat) : Int), ((m2 + 1 : Nat) : Int), ((m2 + 2 : Nat) : Int)⟩ : Fc), v0) (by
          simp only [mkFcP, mkFc]
          rw [← HT0.out, ← HX1.out]; try rw [← Hm2.out]
          try rw [lnI_len]
          try rfl)
        rw [← h1]
        exact S6.out
      have HE : Hid (m2 + 3 = k + markN lnFcP (ps.take (j + 1))) := by
        show _ = _
        rw [← HNX.out, ← Hm2.out]
        simp only [lnFcP, lnFc]
        try omega
      clear S6 S3
      go_wp2
      go_roundw
      case rel => exact ⟨j + 1, m2 + 3, by omega, by go_num, by go_num, HE, HF⟩
      case measure => simp [intOf]; omega
    · have hjn : Hid (j = n) := (by omega : j = n)
      have HE : Hid (m = k + markN lnFcP ps) := by show _ = _; rw [HM.out, List.take_of_length_le (by have := HN.out; have := hjn.out; omega)]
      have HF : Hid (MarkSt FcR w VS wr B g n cap (markL mkFcP lnFcP k ps)) := by
        have := H0.out
        rw [markTo_all mkFcP lnFcP k ps j (by have := HN.out; have := hjn.out; omega)] at this
        exact this
      go_wp2
      go_ret
      exact ⟨by rw [← HE.out]; rfl, HF.out.phys, HF.out.kept⟩
theorem markFnS_none (ao : Option Addr) (c : Nat) (k : Int) (w : World) :
    Calls Tryz.prog 42 #[.slice ao 0 c, .int .i64 k] w fun e w' => e = .returned (.int .i64 k) ∧ w' = w := by
  go_enter Tryz.func42, Tryz.ntmps42
  go_wp2
  refine wp_loop_rounds 1 ?_
  rw [rounds_succ]
  go_wp2
  go_ret
  exact ⟨rfl, rfl⟩
theorem markFnS_any (B : Nat) (v : Value) (k : Nat) (ps : List (Fc × Value)) (w : World) (hb : k + markN lnFcP ps ≤ 1000000000) (hk0 : 0 < k) (hown : FcR.Phys w B v ps) (hA : (fps (FcR.all v ps)).Nodup) :
    Calls Tryz.prog 42 #[v, .int .i64 (k : Int)] w fun e' w' => e' = .returned (.int .i64 ((k + markN lnFcP ps : Nat) : Int)) ∧ FcR.Phys w' B v (markL mkFcP lnFcP k ps) ∧ Kept (FcR.all v ps) w w' := by
  rcases OwnsR.form hown.1 with ⟨rfl, rfl⟩ | ⟨g, cap, rfl, _, _⟩
  · refine (markFnS_none none 0 k w).mono ?_
    rintro e' w' ⟨rfl, rfl⟩
    exact ⟨rfl, hown, Kept.refl _ _⟩
  · exact markFnS_some B g cap k _ ps w rfl hb hk0 hown hA

end Go.Proofs.YtljphnjmeckpbaaGreat

namespace Go.Proofs.YtljphnjmeckpbaaGreat
open Go.RowKit

/-- Only blocks B .. H may have turned; new ones may be there. -/
structure Rim (B H : Nat) (w w' : World) : Prop where
  os : w'.os = w.os
  tape : w'.tape = w.tape
  output : w'.output = w.output
  size : w.heap.size ≤ w'.heap.size
  block : ∀ g, g < w.heap.size → g < B ∨ H ≤ g → w'.heap[g]? = w.heap[g]?
theorem Rim.refl (B H : Nat) (w : World) : Rim B H w w := ⟨rfl, rfl, rfl, Nat.le_refl _, fun _ _ _ => rfl⟩
theorem Rim.trans {B H : Nat} {a b c : World} (h : Rim B H a b) (k : Rim B H b c) : Rim B H a c :=
  ⟨k.os.trans h.os, k.tape.trans h.tape, k.output.trans h.output, Nat.le_trans h.size k.size, fun g hg hn => (k.block g (Nat.lt_of_lt_of_le hg h.size) hn).trans (h.block g hg hn)⟩
theorem Rim.of_kept {vs : List Value} {B H : Nat} {w w' : World} (h : Kept vs w w') (hf : ∀ g ∈ fps vs, B ≤ g ∧ g < H) : Rim B H w w' :=
  ⟨h.os, h.tape, h.output, h.size, fun g hg hn => h.block g hg (fun hm => by have := hf g hm; omega)⟩
theorem Rim.of_below {B H : Nat} {w w' : World} (h : Below w.heap.size w w') : Rim B H w w' := ⟨h.os, h.tape, h.output, h.size, fun g hg _ => h.block g hg⟩
theorem Rim.below {B H : Nat} {w w' : World} (h : Rim B H w w') (hB : B ≤ w.heap.size) : Below B w w' := ⟨h.os, h.tape, h.output, h.size, fun g hg => h.block g (by omega) (.inl hg)⟩

theorem markN_sz {α : Type} (ln sz : α → Nat) (h : ∀ x, ln x ≤ 4 + 4 * sz x) : ∀ xs : List α, markN ln xs ≤ 4 * szRow sz xs := by
  intro xs
  induction xs with
  | nil => exact Nat.zero_le _
  | cons x xs ih =>
    have := h x
    unfold szRow at ih ⊢
    simp only [markN, List.length_cons, List.map_cons, List.sum_cons]
    omega
theorem lnNd_sz (ns : List Nd) : markN lnNd ns ≤ 4 * szRow szNd ns := markN_sz lnNd szNd (fun x => by unfold lnNd szNd; rw [lnI_len]; omega) ns
theorem lnPm_sz (ps : List Pm) : markN lnPm ps ≤ 4 * szRow szPm ps := markN_sz lnPm szPm (fun x => by unfold lnPm; omega) ps
theorem lnFc_sz (fs : List Fc) : markN lnFc fs ≤ 4 * szRow szFc fs := markN_sz lnFc szFc (fun x => by unfold lnFc szFc; have := lnPm_sz x.params; omega) fs
theorem lnNdP_map (ps : List (Nd × Value)) : markN lnNdP ps = markN lnNd (ps.map Prod.fst) := markN_map (ln' := lnNd) (log := Prod.fst) (fun _ => rfl) ps
theorem lnFcP_map (ps : List (Fc × Value)) : markN lnFcP ps = markN lnFc (ps.map Prod.fst) := markN_map (ln' := lnFc) (log := Prod.fst) (fun _ => rfl) ps

set_option maxRecDepth 100000 in
set_option maxHeartbeats 1600000 in
theorem markProgram_any (B H : Nat) (v0 v1 : Value) (p : Pg) (w : World) (hO : OwnPg w B H v0 v1 p) (hH : H ≤ w.heap.size) (hl : szPg p ≤ 1048576) :
    Calls Tryz.prog 13 #[.agg #[v0, v1], .int .i64 1] w fun e w' => (∃ r : Nat, e = .returned (.int .i64 (r : Int)) ∧ r ≤ 10000000 ∧ 0 < r) ∧ Rim B H w w' := by
  obtain ⟨M, hBM, hMH, hN, hF⟩ := hO
  obtain ⟨ps, hps, hpp, hpn, hpb⟩ := hN
  obtain ⟨fs, hfs, hfp, hfn, hfb⟩ := hF
  have hb1 : 1 + markN lnNdP ps + markN lnFcP fs ≤ 10000000 := by
    have h1 := lnNd_sz p.nodes
    have h2 := lnFc_sz p.fns
    have e1 : markN lnNdP ps = markN lnNd p.nodes := by rw [lnNdP_map, ← hps]; rfl
    have e2 : markN lnFcP fs = markN lnFc p.fns := by rw [lnFcP_map, ← hfs]; rfl
    rw [e1, e2]
    unfold szPg at hl
    omega
  have cN : Hid (∀ W, Below w.heap.size w W → Calls Tryz.prog 41 #[v0, .int .i64 ((1 : Nat) : Int)] W fun e' w' => e' = .returned (.int .i64 ((1 + markN lnNdP ps : Nat) : Int)) ∧ NdR.Phys w' B v0 (markL mkNdP lnNdP 1 ps) ∧ Kept (NdR.all v0 ps) W w') := fun W hW =>
    markNodeS_any B v0 1 ps W (by omega) (by omega) (hpp.below hW) hpn
  have cF : Hid (∀ W, FcR.Phys W M v1 fs → Calls Tryz.prog 42 #[v1, .int .i64 ((1 + markN lnNdP ps : Nat) : Int)] W fun e' w' => e' = .returned (.int .i64 ((1 + markN lnNdP ps + markN lnFcP fs : Nat) : Int)) ∧ FcR.Phys w' M v1 (markL mkFcP lnFcP (1 + markN lnNdP ps) fs) ∧ Kept (FcR.all v1 fs) W w') := fun W hW =>
    markFnS_any M v1 (1 + markN lnNdP ps) fs W (by omega) (by omega) hW hfn
  obtain ⟨k1, hk1⟩ : ∃ k, Hid (1 + markN lnNdP ps = k) := ⟨_, (rfl : 1 + markN lnNdP ps = _)⟩
  rw [hk1.out] at cN cF hb1
  obtain ⟨k2, hk2⟩ : ∃ k, Hid (k1 + markN lnFcP fs = k) := ⟨_, (rfl : k1 + markN lnFcP fs = _)⟩
  rw [hk2.out] at cF hb1
  have HP : Hid (FcR.Phys w M v1 fs ∧ (∀ g ∈ fps (NdR.all v0 ps), B ≤ g ∧ g < M) ∧ ∀ g ∈ fps (FcR.all v1 fs), M ≤ g ∧ g < H) := ⟨hfp, hpb, hfb⟩
  clear hpp hpn hpb hfp hfn hfb hps hfs
  go_enter Tryz.func13, Tryz.ntmps13
  go_wp2_with fail
  go_at_call 41
  refine Calls.mono (cN.out _ (by go_grown)) ?_
  rintro e w1 ⟨rfl, _, hk⟩
  have R1 : Hid (Rim B H w w1) := (Rim.of_below ((Below.refl _ _).alloc (Nat.le_refl _) _)).trans (Rim.of_kept hk (fun g hg => by have := HP.out.2.1 g hg; omega))
  have P1 : Hid (FcR.Phys w1 M v1 fs) := (HP.out.1.below ((Below.refl _ _).alloc (Nat.le_refl _) _)).kept hk (fun g hg hm => by have := HP.out.2.1 g hm; have := HP.out.2.2 g hg; omega)
  have q1 : w1.cell? ⟨w.heap.size, 1, none⟩ = some v1 := by
    have h0 := hk.block w.heap.size (by simp) (fun hm => by have := HP.out.2.1 _ hm; omega)
    exact cell_at (h0.trans (heap_alloc_new _ _)) 1
  clear hk cN
  go_wp2_with fail
  go_at_call 42
  refine Calls.mono (cF.out _ P1.out) ?_
  rintro e w2 ⟨rfl, _, hk⟩
  have R2 : Hid (Rim B H w w2) := R1.out.trans (Rim.of_kept hk (fun g hg => by have := HP.out.2.2 g hg; omega))
  clear hk cF q1
  go_wp2
  go_ret
  exact ⟨⟨_, rfl, hb1, by have := hk1.out; have := hk2.out; omega⟩, R2.out⟩

end Go.Proofs.YtljphnjmeckpbaaGreat

namespace Go.Proofs.YtljphnjmeckpbaaGreat
open Go.RowKit

theorem OwnsI.at {w : World} {B : Nat} {v : Value} {xs : List Int} (h : OwnsI w B v xs) {H : Nat} (hH : w.heap.size ≤ H) : RowI w H v xs := RowI.up h.row hH
theorem OwnsI.rim {w w' : World} {B L H : Nat} {v : Value} {xs : List Int} (h : OwnsI w B v xs) (hr : Rim L H w w') (hd : ∀ g ∈ fpOf v, g < L ∨ H ≤ g) : OwnsI w' B v xs :=
  OwnsR.same h (fun g hg => hr.block g (OwnsR.lt h g hg).2 (hd g hg))
theorem OwnsI.keptBy {w w' : World} {B : Nat} {v u : Value} {xs : List Int} (h : OwnsI w B v xs) (hr : Kept [u] w w') (hd : ∀ g ∈ fpOf v, g ∉ fpOf u) : OwnsI w' B v xs :=
  OwnsR.same h (fun g hg => hr.block g (OwnsR.lt h g hg).2 (by rw [fps_one]; exact hd g hg))

end Go.Proofs.YtljphnjmeckpbaaGreat

namespace Go.Proofs.YtljphnjmeckpbaaGreat
open Go.RowKit

theorem asc_ge {xs : List Int} (h : xs.Pairwise (· < ·)) (h0 : ∀ x ∈ xs, 0 ≤ x) : ∀ i, (hi : i < xs.length) → (i : Int) ≤ xs[i] := by
  intro i
  induction i with
  | zero => intro hi; exact h0 _ (List.getElem_mem hi)
  | succ i ih =>
    intro hi
    have h1 := ih (by omega)
    have h2 := asc_at h hi (show i < i + 1 by omega)
    omega
theorem asc_len {xs : List Int} {n : Nat} (h : xs.Pairwise (· < ·)) (h0 : ∀ x ∈ xs, 0 ≤ x ∧ x < (n : Int)) : xs.length ≤ n := by
  rcases Nat.eq_zero_or_pos xs.length with e | e
  · omega
  · have h1 := asc_ge h (fun x hx => (h0 x hx).1) (xs.length - 1) (by omega)
    have h2 := (h0 _ (List.getElem_mem (show xs.length - 1 < xs.length by omega))).2
    omega
theorem usesOf_len (p : Pg) (fn : Int) (nm : ByteArray) : (usesOf p fn nm).length ≤ p.nodes.length := by
  refine Nat.le_trans (usesF_len _ _ _) (asc_len ?_ (fun x hx => allOf_in hx))
  unfold allOf
  split
  · exact upL_asc _
  · exact List.Pairwise.nil

set_option maxRecDepth 100000 in
set_option maxHeartbeats 6400000 in
theorem lawUsesOf (a0 a1 : Value) (p : Pg) (k : Int) (nm : ByteArray) (w : World) (hp : RowPg w w.heap.size a0 a1 p ∧ okPg p) :
    Calls Tryz.prog 4 #[.agg #[a0, a1], .int .i64 k, .string nm] w fun e w' => e = .returned (.bool true) ∧ Below w.heap.size w w' := by
  by_cases hbig : (1048576 : Int) < (nm.size : Int)
  · go_enter Tryz.func4, Tryz.ntmps4
    go_wp2
    go_ret
    exact ⟨rfl, by go_grown⟩
  have cZ : Hid (∀ W, Below w.heap.size w W → Calls Tryz.prog 5 #[.agg #[a0, a1], .int .i64 1048576] W fun e w' => (∃ r : Int, e = .returned (.int .i64 r) ∧ (r = -1 ∨ (0 ≤ r ∧ r + (szPg p : Int) = 1048576))) ∧ Below W.heap.size W w') := fun W hW =>
    szProgram_sum w.heap.size p a0 a1 1048576 W hW.size (hp.1.keep hW) hp.2 (by omega) (by omega)
  have HP : Hid (RowPg w w.heap.size a0 a1 p) := hp.1
  clear hp
  go_enter Tryz.func4, Tryz.ntmps4
  go_wp2_with fail
  go_at_call 5
  refine Calls.mono (cZ.out _ (by go_grown)) ?_
  rintro e w1 ⟨⟨r, rfl, hr⟩, hb⟩
  have B1 : Hid (Box w (.cells #[a0, a1] 25) w1) := (Box.first _ _).next hb
  clear cZ hb
  rcases hr with rfl | ⟨hr0, hr1⟩
  · go_wp2
    go_ret
    exact ⟨rfl, B1.out.below⟩
  have hrn : ¬ r < 0 := by omega
  have hl : szPg p ≤ 1048576 := by omega
  have HL : Hid (szPg p ≤ 1048576 ∧ szRow szNd p.nodes ≤ 1048576) := ⟨hl, Nat.le_trans (le_szPg_nodes p) hl⟩
  obtain ⟨N0, H0⟩ : ∃ K, Hid (p.nodes.length = K) := ⟨_, (rfl : p.nodes.length = p.nodes.length)⟩
  obtain ⟨N1, H1⟩ : ∃ K, Hid (p.fns.length = K) := ⟨_, (rfl : p.fns.length = p.fns.length)⟩
  have cT : Hid (∀ W, Below w.heap.size w W → Calls Tryz.prog 7 #[.agg #[a0, a1]] W fun e w' => ∃ g c g' c', e = .returned (.agg #[.slice (some ⟨g, 0, none⟩) N0 c, .slice (some ⟨g', 0, none⟩) N1 c']) ∧ OwnPg w' W.heap.size w'.heap.size (.slice (some ⟨g, 0, none⟩) N0 c) (.slice (some ⟨g', 0, none⟩) N1 c') p ∧ Below W.heap.size W w') := fun W hW => by
    rw [← H0.out, ← H1.out]
    exact toProgram_any w.heap.size p a0 a1 W hW.size (HP.out.keep hW) hl
  obtain ⟨xs, hxs⟩ : ∃ xs, Hid (usesOf p k nm = xs) := ⟨_, (rfl : usesOf p k nm = usesOf p k nm)⟩
  have hxl0 : (usesOf p k nm).length ≤ 1048576 := Nat.le_trans (usesOf_len p k nm) (Nat.le_trans (len_szRow szNd p.nodes) HL.out.2)
  rw [hxs.out] at hxl0
  obtain ⟨X, HX⟩ : ∃ n, Hid (xs.length = n) := ⟨_, (rfl : xs.length = xs.length)⟩
  have hxl : X ≤ 1048576 := by rw [← HX.out]; exact hxl0
  have cS : Hid (∀ W v0 v1, RowPg W W.heap.size v0 v1 p → Calls Tryz.prog 10 #[.agg #[v0, v1], .int .i64 k, .string nm] W fun e w' => (∃ g cap, e = .returned (.slice (some ⟨g, 0, none⟩) X cap) ∧ OwnsI w' W.heap.size (.slice (some ⟨g, 0, none⟩) X cap) xs) ∧ Below W.heap.size W w') := fun W v0 v1 h => by
    have h1 := specUsesOf_any v0 v1 p k nm W h HL.out.1
    rw [hxs.out, HX.out] at h1
    refine h1.mono ?_
    rintro e w' ⟨⟨g, cap, he, ho, _⟩, hb⟩
    exact ⟨⟨g, cap, he, ho⟩, hb⟩
  have cI : Hid (∀ W v0 v1, RowPg W W.heap.size v0 v1 p → Calls Tryz.prog 11 #[.agg #[v0, v1], .int .i64 k, .string nm] W fun e w' => (∃ a cap, e = .returned (.slice a X cap) ∧ OwnsI w' W.heap.size (.slice a X cap) xs) ∧ Below W.heap.size W w') := fun W v0 v1 h => by
    have h1 := implUsesOf_any v0 v1 p k nm W h HL.out.1
    rw [hxs.out] at h1
    refine h1.mono ?_
    rintro e w' ⟨⟨a, n, cap, he, ho⟩, hb⟩
    have hn := ho.row.cap.1
    rw [HX.out] at hn
    subst hn
    exact ⟨⟨a, cap, he, ho⟩, hb⟩
  clear hl hr0 hr1
  have x0 := B1.out.cell 0
  have x1 := B1.out.cell 1
  simp at x0 x1
  go_wp2_with fail
  go_at_call 7
  refine Calls.mono (cT.out _ B1.out.below) ?_
  rintro e w2 ⟨g, c, g', c', rfl, ho, hb⟩
  have B2 : Hid (Box w (.cells #[a0, a1] 25) w2) := B1.out.next hb
  clear hb B1 x0 x1
  go_wp2_with fail
  go_at_call 10
  refine Calls.mono (cS.out _ _ _ ho.row) ?_
  rintro e w3 ⟨⟨gs, cs, rfl, hos⟩, hb⟩
  have B3 : Hid (Box w (.cells #[a0, a1] 25) w3) := B2.out.next hb
  have A3 : Hid (OwnsI w3 w2.heap.size (.slice (some ⟨gs, 0, none⟩) X cs) xs) := hos
  have hgs : gs < w3.heap.size := (OwnsR.lt hos gs (by simp [fpOf, Value.ownBlock])).2
  clear hb B2 ho cS hos
  have x0 := B3.out.cell 0
  have x1 := B3.out.cell 1
  simp at x0 x1
  go_wp2_with fail
  go_at_call 7
  refine Calls.mono (cT.out _ B3.out.below) ?_
  rintro e w4 ⟨g2, c2, g2', c2', rfl, ho, hb⟩
  have B4 : Hid (Box w (.cells #[a0, a1] 25) w4) := B3.out.next hb
  have A4 : Hid (OwnsI w4 w2.heap.size (.slice (some ⟨gs, 0, none⟩) X cs) xs) := OwnsR.below A3.out hb
  have P4 : Hid (OwnPg w4 w3.heap.size w4.heap.size (.slice (some ⟨g2, 0, none⟩) N0 c2) (.slice (some ⟨g2', 0, none⟩) N1 c2') p) := ho
  have hz4 : w3.heap.size ≤ w4.heap.size := hb.size
  have hw3 : w.heap.size < w3.heap.size := B3.out.lt
  clear hb B3 x0 x1 ho A3
  go_wp2_with fail
  go_at_call 11
  refine Calls.mono (cI.out _ _ _ ((P4.out.row.keep ((Below.refl _ _).alloc (Nat.le_refl _) _)).up (by simp))) ?_
  rintro e w5 ⟨⟨ga, gc, rfl, hog⟩, hb⟩
  have B5 : Hid (Box w (.cells #[a0, a1] 25) w5) := (B4.out.alloc _).next hb
  have X5 : Hid (Box w4 (.cells #[.slice (some ⟨g2, 0, none⟩) N0 c2, .slice (some ⟨g2', 0, none⟩) N1 c2'] 31) w5) := (Box.first _ _).next hb
  have A5 : Hid (OwnsI w5 w2.heap.size (.slice (some ⟨gs, 0, none⟩) X cs) xs ∧ OwnsI w5 (w4.heap.size + 1) (.slice ga X gc) xs) := ⟨OwnsR.below (World.ownsRow.alloc A4.out _) hb, owns_base hog (by simp)⟩
  have P5 : Hid (OwnPg w5 w3.heap.size w4.heap.size (.slice (some ⟨g2, 0, none⟩) N0 c2) (.slice (some ⟨g2', 0, none⟩) N1 c2') p) := P4.out.same (fun b _ h2 => (hb.block b (by simp; omega)).trans (Below.heap_alloc _ _ _ h2))
  clear hb B4 A4 P4 hog
  go_wp2_with fail
  go_at_call 12
  refine Calls.mono (eqIntS_same w5.heap.size _ _ xs w5 (Nat.le_refl _) A5.out.2.row A5.out.1.row (by rw [HX.out]; exact hxl)) ?_
  rintro e w6 ⟨rfl, hb⟩
  have B6 : Hid (Box w (.cells #[a0, a1] 25) w6) := B5.out.next hb
  have X6 : Hid (Box w4 (.cells #[.slice (some ⟨g2, 0, none⟩) N0 c2, .slice (some ⟨g2', 0, none⟩) N1 c2'] 31) w6) := X5.out.next hb
  have A6 : Hid (OwnsI w6 w2.heap.size (.slice (some ⟨gs, 0, none⟩) X cs) xs ∧ OwnsI w6 (w4.heap.size + 1) (.slice ga X gc) xs) := ⟨OwnsR.below A5.out.1 hb, OwnsR.below A5.out.2 hb⟩
  have P6 : Hid (OwnPg w6 w3.heap.size w4.heap.size (.slice (some ⟨g2, 0, none⟩) N0 c2) (.slice (some ⟨g2', 0, none⟩) N1 c2') p) := P5.out.same (fun b _ h2 => hb.block b (by have := X5.out.lt; omega))
  have hz6 : w4.heap.size < w6.heap.size := X6.out.lt
  clear hb B5 X5 A5 P5
  have y0 : w6.cell? ⟨w4.heap.size, 0, none⟩ = some (.slice (some ⟨g2, 0, none⟩) N0 c2) := X6.out.cell 0
  have y1 : w6.cell? ⟨w4.heap.size, 1, none⟩ = some (.slice (some ⟨g2', 0, none⟩) N1 c2') := X6.out.cell 1
  have x0 : w6.cell? ⟨w.heap.size, 0, none⟩ = some a0 := B6.out.cell 0
  have x1 : w6.cell? ⟨w.heap.size, 1, none⟩ = some a1 := B6.out.cell 1
  have hlt := B6.out.lt
  go_wp2_with fail
  go_region_held3 (fun w' => (w'.cell? ⟨w4.heap.size, 0, none⟩ = some (.slice (some ⟨g2, 0, none⟩) N0 c2) ∧ w'.cell? ⟨w4.heap.size, 1, none⟩ = some (.slice (some ⟨g2', 0, none⟩) N1 c2')) ∧ w'.cell? ⟨w.heap.size, 0, none⟩ = some a0 ∧ w'.cell? ⟨w.heap.size, 1, none⟩ = some a1) (first | exact ⟨⟨y0, y1⟩, x0, x1⟩ | exact ⟨⟨(hb7.cell (p := ⟨w4.heap.size, 0, none⟩) hz6).trans y0, (hb7.cell (p := ⟨w4.heap.size, 1, none⟩) hz6).trans y1⟩, (hb7.cell (p := ⟨w.heap.size, 0, none⟩) hlt).trans x0, (hb7.cell (p := ⟨w.heap.size, 1, none⟩) hlt).trans x1⟩ | exact ⟨⟨(hb8.cell (p := ⟨w4.heap.size, 0, none⟩) (Nat.lt_of_lt_of_le hz6 hb7.size)).trans ((hb7.cell (p := ⟨w4.heap.size, 0, none⟩) hz6).trans y0), (hb8.cell (p := ⟨w4.heap.size, 1, none⟩) (Nat.lt_of_lt_of_le hz6 hb7.size)).trans ((hb7.cell (p := ⟨w4.heap.size, 1, none⟩) hz6).trans y1)⟩, (hb8.cell (p := ⟨w.heap.size, 0, none⟩) (Nat.lt_of_lt_of_le hlt hb7.size)).trans ((hb7.cell (p := ⟨w.heap.size, 0, none⟩) hlt).trans x0), (hb8.cell (p := ⟨w.heap.size, 1, none⟩) (Nat.lt_of_lt_of_le hlt hb7.size)).trans ((hb7.cell (p := ⟨w.heap.size, 1, none⟩) hlt).trans x1)⟩) (first | (go_at_call 7; refine Calls.mono (cT.out _ B6.out.below.drew) ?_; rintro e w7 ⟨g3, c3, g3', c3', rfl, ho7, hb7⟩) | (go_at_call 9; refine Calls.mono (eqProgram_same w7.heap.size p _ _ _ _ w7 (Nat.le_refl _) ((P6.out.row.keep ((Below.refl _ _).drew.trans (hb7.mono (Nat.le_of_lt hz6)))).up (Nat.le_trans (Nat.le_of_lt hz6) hb7.size)) ho7.row HL.out.1) ?_; rintro e w8 ⟨rfl, hb8⟩))
  have HB8 : Hid (Below w6.heap.size w6 w8) := (Below.refl _ _).drew.trans (hb7.trans (hb8.mono hb7.size))
  clear hb7 hb8 ho7 y0 y1 x0 x1
  have B8 : Hid (Box w (.cells #[a0, a1] 25) w8) := B6.out.next HB8.out
  have X8 : Hid (Box w4 (.cells #[.slice (some ⟨g2, 0, none⟩) N0 c2, .slice (some ⟨g2', 0, none⟩) N1 c2'] 31) w8) := X6.out.next HB8.out
  have A8 : Hid (OwnsI w8 w2.heap.size (.slice (some ⟨gs, 0, none⟩) X cs) xs ∧ OwnsI w8 (w4.heap.size + 1) (.slice ga X gc) xs) := ⟨OwnsR.below A6.out.1 HB8.out, OwnsR.below A6.out.2 HB8.out⟩
  have P8 : Hid (OwnPg w8 w3.heap.size w4.heap.size (.slice (some ⟨g2, 0, none⟩) N0 c2) (.slice (some ⟨g2', 0, none⟩) N1 c2') p) := P6.out.same (fun b _ h2 => HB8.out.block b (by omega))
  have hz8 := X8.out.lt
  clear B6 X6 A6 P6 HB8
  have y0 := X8.out.cell 0
  have y1 := X8.out.cell 1
  simp at y0 y1
  go_wp2_with fail
  go_at_call 13
  refine Calls.mono (markProgram_any w3.heap.size w4.heap.size _ _ p w8 P8.out (by omega) HL.out.1) ?_
  rintro e w9 ⟨⟨km, rfl, _, _⟩, hrim⟩
  have B9 : Hid (Box w (.cells #[a0, a1] 25) w9) := ⟨B8.out.b.trans ((hrim.below (by omega)).mono (by omega))⟩
  have A9 : Hid (OwnsI w9 w2.heap.size (.slice (some ⟨gs, 0, none⟩) X cs) xs ∧ OwnsI w9 (w4.heap.size + 1) (.slice ga X gc) xs) :=
    ⟨OwnsI.rim A8.out.1 hrim (fun b hb => by have : b = gs := by simpa [fpOf, Value.ownBlock] using hb
                                             omega), OwnsI.rim A8.out.2 hrim (fun b hb => by have := (OwnsR.lt A8.out.2 b hb).1; omega)⟩
  clear hrim B8 X8 A8 P8 y0 y1
  have hkn : ¬ (km : Int) < 0 := by omega
  go_wp2_with fail
  go_at_call 12
  refine Calls.mono (eqIntS_same w9.heap.size _ _ xs w9 (Nat.le_refl _) A9.out.2.row A9.out.1.row (by rw [HX.out]; exact hxl)) ?_
  rintro e w10 ⟨rfl, hb⟩
  have B10 : Hid (Box w (.cells #[a0, a1] 25) w10) := B9.out.next hb
  have A10 : Hid (OwnsI w10 w2.heap.size (.slice (some ⟨gs, 0, none⟩) X cs) xs ∧ OwnsI w10 (w4.heap.size + 1) (.slice ga X gc) xs) := ⟨OwnsR.below A9.out.1 hb, OwnsR.below A9.out.2 hb⟩
  clear hb B9 A9
  go_wp2_with fail
  go_at_call 14
  refine Calls.mono (markIntS_any (w4.heap.size + 1) (.slice ga X gc) 1 xs w10 (by rw [HX.out]; omega) A10.out.2) ?_
  rintro e w11 ⟨rfl, hom, hk⟩
  have hvg : ∀ b ∈ fpOf (.slice ga X gc), w4.heap.size + 1 ≤ b := fun b hb => (OwnsR.lt A10.out.2 b hb).1
  have B11 : Hid (Box w (.cells #[a0, a1] 25) w11) := ⟨B10.out.b.trans (hk.below (by have := B10.out.lt; omega) (fun b hb => by rw [fps_one] at hb; have := hvg b hb; omega))⟩
  have A11 : Hid (OwnsI w11 w2.heap.size (.slice (some ⟨gs, 0, none⟩) X cs) xs ∧ OwnsI w11 (w4.heap.size + 1) (.slice ga X gc) (markL mkI lnI 1 xs)) :=
    ⟨OwnsI.keptBy A10.out.1 hk (fun b hb hm => by have : b = gs := by simpa [fpOf, Value.ownBlock] using hb
                                                  have := hvg b hm
                                                  omega), hom⟩
  obtain ⟨Y, hY⟩ : ∃ y : Nat, Hid (1 + X = y) := ⟨_, (rfl : 1 + X = 1 + X)⟩
  rw [HX.out, hY.out]
  have hYb : Y ≤ 1000000000 := by have := hY.out; omega
  clear hk hom B10 A10 hvg
  have cH : Hid (∀ W, OwnsI W (w4.heap.size + 1) (.slice ga X gc) (markL mkI lnI 1 xs) → Calls Tryz.prog 15 #[(.slice ga X gc), .int .i64 ((1 : Nat) : Int)] W fun e' w' => e' = .returned (.int .i64 (Y : Int)) ∧ Below W.heap.size W w') := fun W h => by
    have := heldIntS_any W.heap.size (.slice ga X gc) 1 xs W (Nat.le_refl _) (by rw [HX.out]; omega) h.row
    rw [HX.out, hY.out] at this
    exact this
  go_wp2_with fail
  go_at_call 15
  refine Calls.mono (cH.out _ A11.out.2) ?_
  rintro e w12 ⟨rfl, hb⟩
  have B12 : Hid (Box w (.cells #[a0, a1] 25) w12) := B11.out.next hb
  have A12 : Hid (OwnsI w12 w2.heap.size (.slice (some ⟨gs, 0, none⟩) X cs) xs ∧ OwnsI w12 (w4.heap.size + 1) (.slice ga X gc) (markL mkI lnI 1 xs)) := ⟨OwnsR.below A11.out.1 hb, OwnsR.below A11.out.2 hb⟩
  clear hb B11 A11
  have hYn : ¬ (Y : Int) < 0 := by omega
  have x0 := B12.out.cell 0
  have x1 := B12.out.cell 1
  simp at x0 x1
  go_wp2_with fail
  go_at_call 7
  refine Calls.mono (cT.out _ B12.out.below) ?_
  rintro e w13 ⟨g5, c5, g5', c5', rfl, ho, hb⟩
  have B13 : Hid (Box w (.cells #[a0, a1] 25) w13) := B12.out.next hb
  have A13 : Hid (OwnsI w13 w2.heap.size (.slice (some ⟨gs, 0, none⟩) X cs) xs ∧ OwnsI w13 (w4.heap.size + 1) (.slice ga X gc) (markL mkI lnI 1 xs)) := ⟨OwnsR.below A12.out.1 hb, OwnsR.below A12.out.2 hb⟩
  clear hb B12 A12 x0 x1 cT
  go_wp2_with fail
  go_at_call 11
  refine Calls.mono (cI.out _ _ _ ho.row) ?_
  rintro e w14 ⟨⟨ha, hc, rfl, hoh⟩, hb⟩
  have B14 : Hid (Box w (.cells #[a0, a1] 25) w14) := B13.out.next hb
  have A14 : Hid (OwnsI w14 w2.heap.size (.slice (some ⟨gs, 0, none⟩) X cs) xs ∧ OwnsI w14 (w4.heap.size + 1) (.slice ga X gc) (markL mkI lnI 1 xs) ∧ OwnsI w14 w13.heap.size (.slice ha X hc) xs) := ⟨OwnsR.below A13.out.1 hb, OwnsR.below A13.out.2 hb, hoh⟩
  clear hb B13 A13 ho hoh cI
  go_wp2_with fail
  go_at_call 12
  refine Calls.mono (eqIntS_same w14.heap.size _ _ xs w14 (Nat.le_refl _) A14.out.2.2.row A14.out.1.row (by rw [HX.out]; exact hxl)) ?_
  rintro e w15 ⟨rfl, hb⟩
  have B15 : Hid (Box w (.cells #[a0, a1] 25) w15) := B14.out.next hb
  have A15 : Hid (OwnsI w15 (w4.heap.size + 1) (.slice ga X gc) (markL mkI lnI 1 xs)) := OwnsR.below A14.out.2.1 hb
  clear hb B14 A14
  go_wp2_with fail
  go_at_call 15
  refine Calls.mono (cH.out _ A15.out) ?_
  rintro e w16 ⟨rfl, hb⟩
  have B16 : Hid (Box w (.cells #[a0, a1] 25) w16) := B15.out.next hb
  clear hb B15 A15
  go_wp2
  go_ret
  exact ⟨rfl, B16.out.below⟩

end Go.Proofs.YtljphnjmeckpbaaGreat

namespace Go.Proofs.YtljphnjmeckpbaaGreat
open Go.RowKit

theorem Tryz.structPg : ∃ f0 f1 : Field, Tryz.prog.underlying 25 = some (.struct #[f0, f1]) ∧ f0.offset = 0 ∧ f1.offset = 1 ∧ f0.type = 22 ∧ f1.type = 23 := ⟨_, _, Tryz.underlying25, rfl, rfl, rfl, rfl⟩
theorem Tryz.cellsPg : Tryz.prog.cellsOf 25 = 2 := by kernel_rfl
theorem open_pg {H : Type} {enc : TypeId × Value → H} {W : World} {fuel : Nat} {cs : Array Value} {x : DataW H × List MemPlace}
    (h : DataW.trod enc Tryz.prog W 0 (fun _ => true) true fuel 25 (Value.agg cs).cells.toList = some x) :
    ∃ v0 v1 p, cs = #[v0, v1] ∧ RowPg W W.heap.size v0 v1 p ∧ okPg p := by
  obtain ⟨f0, f1, hst, o0, o1, t0, t1⟩ := Tryz.structPg
  obtain ⟨xs, k, _, _, hlen, hxl, hf⟩ := DataW.trod_struct hst h
  rw [Tryz.cellsPg] at hlen
  have hxl' : xs.length = 2 := hxl
  obtain ⟨y0, y1, rfl⟩ := len_pm hxl'
  obtain ⟨v0, v1, hv⟩ := len_pm hlen
  have hcs : cs = #[v0, v1] := by
    have : cs.toList = [v0, v1] := hv
    rw [← this]
  subst hcs
  have g0 := hf 0 f0 rfl
  rw [o0, t0, Tryz.cellsNds, hv] at g0
  have g1 := hf 1 f1 rfl
  rw [o1, t1, Tryz.cellsFcs, hv] at g1
  simp at g0 g1
  obtain ⟨z0, r0, k0⟩ := open_nds g0
  obtain ⟨z1, r1, k1⟩ := open_fcs g1
  exact ⟨v0, v1, ⟨z0, z1⟩, rfl, ⟨r0, r1⟩, k0, k1⟩

end Go.Proofs.YtljphnjmeckpbaaGreat
