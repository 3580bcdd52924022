/-
  Rows of records: whole elements stored one behind the other, rows made of nothing, rows that are filled element by element. No program is named here.
-/
import Derived.Test.YtljphnjmeckpbaaGreatRows2
namespace Go.Proofs.YtljphnjmeckpbaaGreat
open Go.RowKit

/-- Cells stored one behind the other. -/
def putCells (w : World) (g : Nat) : Nat → List Value → World
  | _, [] => w
  | off, u :: us => putCells (w.setCell ⟨g, off, none⟩ u) g (off + 1) us
def setMany {γ : Type} : List γ → Nat → List γ → List γ
  | xs, _, [] => xs
  | xs, off, u :: us => setMany (xs.set off u) (off + 1) us
theorem setMany_len {γ : Type} : ∀ (us xs : List γ) (off : Nat), (setMany xs off us).length = xs.length := by
  intro us
  induction us with
  | nil => intro xs off; rfl
  | cons u us ih => intro xs off; rw [setMany, ih, List.length_set]
theorem setMany_app {γ : Type} : ∀ (us a b c : List γ), b.length = us.length → setMany (a ++ b ++ c) a.length us = a ++ us ++ c := by
  intro us
  induction us with
  | nil =>
    intro a b c h
    have : b = [] := List.eq_nil_of_length_eq_zero h
    subst this
    rfl
  | cons u us ih =>
    intro a b c h
    cases b with
    | nil => simp at h
    | cons b0 b =>
      rw [setMany, List.append_assoc, List.cons_append, List.set_append_right _ _ (Nat.le_refl _), Nat.sub_self, List.set_cons_zero]
      have := ih (a ++ [u]) b c (by simpa using h)
      simpa [List.append_assoc] using this
theorem flat_put {α : Type} {k : Nat} {enc : α → List Value} (henc : ∀ x, (enc x).length = k) (xs : List α) (i : Nat) (hi : i < xs.length) (y : α) : setMany (xs.flatMap enc) (i * k) (enc y) = (xs.set i y).flatMap enc := by
  have h1 : xs = xs.take i ++ xs[i] :: xs.drop (i + 1) := by rw [← List.drop_eq_getElem_cons hi, List.take_append_drop]
  have h2 : (xs.flatMap enc) = (xs.take i).flatMap enc ++ enc xs[i] ++ (xs.drop (i + 1)).flatMap enc := by
    conv => lhs; rw [h1]
    rw [List.flatMap_append, List.flatMap_cons, List.append_assoc]
  have h3 : ((xs.take i).flatMap enc).length = i * k := by rw [flat_len henc, List.length_take, Nat.min_eq_left (by omega)]
  rw [h2, ← h3, setMany_app _ _ _ _ (by rw [henc, henc])]
  have h4 : xs.set i y = xs.take i ++ y :: xs.drop (i + 1) := by
    conv => lhs; rw [h1]
    have hl : (xs.take i).length = i := by simp; omega
    rw [List.set_append_right _ _ (by omega), hl, Nat.sub_self, List.set_cons_zero]
  rw [h4]
  simp [List.append_assoc]

theorem putCells_owns {e : TypeId} {k : Nat} {B g cap n : Nat} : ∀ (us : List Value) (w : World) (off : Nat) (cs : List Value), w.ownsRow B e k (.slice (some ⟨g, 0, none⟩) n cap) n cs → (putCells w g off us).ownsRow B e k (.slice (some ⟨g, 0, none⟩) n cap) n (setMany cs off us) := by
  intro us
  induction us with
  | nil => intro w off cs h; exact h
  | cons u us ih => intro w off cs h; exact ih _ _ _ (World.ownsRow.stored h off u).1
theorem putCells_other {g b : Nat} (h : b ≠ g) : ∀ (us : List Value) (w : World) (off : Nat), (putCells w g off us).heap[b]? = w.heap[b]? := by
  intro us
  induction us with
  | nil => intro w off; rfl
  | cons u us ih => intro w off; rw [putCells, ih]; exact Below.heap_setCell _ _ _ _ h
theorem putCells_size {g : Nat} : ∀ (us : List Value) (w : World) (off : Nat), (putCells w g off us).heap.size = w.heap.size := by
  intro us
  induction us with
  | nil => intro w off; rfl
  | cons u us ih => intro w off; rw [putCells, ih]; simp [World.setCell]
theorem putCells_below {B g : Nat} (h : B ≤ g) : ∀ (us : List Value) (w0 w : World) (off : Nat), Below B w0 w → Below B w0 (putCells w g off us) := by
  intro us
  induction us with
  | nil => intro w0 w off hb; exact hb
  | cons u us ih => intro w0 w off hb; exact ih _ _ _ (hb.setCell (p := ⟨g, off, none⟩) h _)

section
variable {α β : Type} {k : Nat}
theorem OwnsR.put {enc : α → List Value} (henc : ∀ x, (enc x).length = k) {w : World} {B : Nat} {e : TypeId} {g cap n : Nat} {xs : List α} (h : OwnsR enc k w B e (.slice (some ⟨g, 0, none⟩) n cap) xs) (hn : n = xs.length) (i : Nat) (hi : i < xs.length) (y : α) :
    OwnsR enc k (putCells w g (i * k) (enc y)) B e (.slice (some ⟨g, 0, none⟩) n cap) (xs.set i y) := by
  subst hn
  have := putCells_owns (enc y) w (i * k) (xs.flatMap enc) h
  rw [flat_put henc xs i hi y] at this
  unfold OwnsR
  rw [List.length_set]
  exact this

theorem zero_cells {enc : α → List Value} (z : α) (zv : Value) (henc : ∀ x, (enc x).length = k) (hk : 0 < k) (hz : zv.cells = (enc z).toArray) (m : Nat) : (madeCells zv.cells (m * k)).toList = (List.replicate m z).flatMap enc := by
  apply List.ext_getElem?
  intro i
  have hl : ((List.replicate m z).flatMap enc).length = m * k := by rw [flat_len henc, List.length_replicate]
  have hl2 : (madeCells zv.cells (m * k)).toList.length = m * k := by rw [Array.length_toList, size_madeCells]
  have hs : zv.cells.size = k := by rw [hz]; simp [henc]
  by_cases hi : i < m * k
  · have hd : i / k < m := Nat.div_lt_of_lt_mul (by rw [Nat.mul_comm]; exact hi)
    have h2 := flat_at henc (List.replicate m z) (i / k) (i % k) (by simpa using hd) (Nat.mod_lt _ hk)
    rw [show i / k * k + i % k = i by rw [Nat.mul_comm]; exact Nat.div_add_mod i k] at h2
    rw [h2, List.getElem?_eq_getElem (by omega)]
    have hm : i % k < zv.cells.size := by rw [hs]; exact Nat.mod_lt _ hk
    have hm2 : i % k < (enc z).length := by rw [henc]; exact Nat.mod_lt _ hk
    simp only [List.getElem_replicate]
    rw [List.getElem?_eq_getElem hm2]
    have he : (enc z).length = k := henc z
    simp only [madeCells, hz, Array.getElem_toList, Array.getElem_map, Array.getElem_range, List.size_toArray, he]
    rw [getElem!_pos _ _ (by simpa using hm2)]
    simp
  · rw [List.getElem?_eq_none (by omega), List.getElem?_eq_none (by omega)]

/-- A row of N that is filled element by element: the first m are there, each with rows of its own. -/
def Made (R : RowTy α β) (w wr : World) (N : Nat) (z : α) (xs : List β) (m : Nat) : Prop :=
  ∃ qs : List α, qs.map R.log = xs.take m ∧ OwnsR R.enc R.k wr w.heap.size R.T (.slice (some ⟨w.heap.size, 0, none⟩) N N) (qs ++ List.replicate (N - m) z) ∧ (∀ p ∈ qs, R.sub wr w.heap.size p) ∧ (fps (qs.flatMap R.vals)).Nodup ∧ ∀ g ∈ fps (qs.flatMap R.vals), w.heap.size < g

theorem made_len {R : RowTy α β} {N : Nat} {xs : List β} {m : Nat} (hN : xs.length = N) (hm : m ≤ N) {qs : List α} (h : qs.map R.log = xs.take m) : qs.length = m := by
  have := congrArg List.length h
  simp at this
  omega
theorem Made.start {R : RowTy α β} {w w0 : World} {N : Nat} {z : α} (xs : List β) (h : OwnsR R.enc R.k w0 w.heap.size R.T (.slice (some ⟨w.heap.size, 0, none⟩) N N) (List.replicate N z)) : Made R w w0 N z xs 0 :=
  ⟨[], by simp, by simpa using h, by simp, by simp [fps], by simp [fps]⟩
/-- The place of the next element: its cells are there. -/
theorem Made.cells {R : RowTy α β} {w wr w1 : World} {N : Nat} {z : α} {xs : List β} {m : Nat} (h : Made R w wr N z xs m) (hN : xs.length = N) (hm : m < N) (hb : Below wr.heap.size wr w1) :
    (∀ j, j < R.k → w1.cell? ⟨w.heap.size, m * R.k + j, none⟩ = (R.enc z)[j]?) ∧ ∀ j, w1.frozen? ⟨w.heap.size, j, none⟩ = false := by
  obtain ⟨qs, hq, ho, _⟩ := h
  have hl : qs.length = m := made_len hN (by omega) hq
  have ho1 : OwnsR R.enc R.k w1 w.heap.size R.T (.slice (some ⟨w.heap.size, 0, none⟩) N N) (qs ++ List.replicate (N - m) z) := OwnsR.below ho hb
  have hll : N = (qs ++ List.replicate (N - m) z).length := by simp; omega
  refine ⟨fun j hj => ?_, fun j => OwnsR.free ho1 hll j⟩
  rw [OwnsR.cell R.len ho1 hll m j (by omega) hj]
  congr 2
  rw [List.getElem_append_right (by omega)]
  simp
theorem Made.lt {R : RowTy α β} {w wr : World} {N : Nat} {z : α} {xs : List β} {m : Nat} (h : Made R w wr N z xs m) : w.heap.size < wr.heap.size := by
  obtain ⟨qs, hq, ho, _⟩ := h
  exact (OwnsR.lt ho w.heap.size (by simp [fpOf, Value.ownBlock])).2
theorem Made.step {R : RowTy α β} {w wr w1 : World} {N : Nat} {z : α} {xs : List β} {m : Nat} (h : Made R w wr N z xs m) (hN : xs.length = N) (hm : m < N) (hb : Below wr.heap.size wr w1) (p : α) (hp : R.log p = xs[m]'(by omega)) (hs : R.sub w1 wr.heap.size p) (hn : (fps (R.vals p)).Nodup) :
    Made R w (putCells w1 w.heap.size (m * R.k) (R.enc p)) N z xs (m + 1) := by
  have hlt := h.lt
  obtain ⟨qs, hq, ho, hsub, hnd, hgt⟩ := h
  have hl : qs.length = m := made_len hN (by omega) hq
  have ho1 : OwnsR R.enc R.k w1 w.heap.size R.T (.slice (some ⟨w.heap.size, 0, none⟩) N N) (qs ++ List.replicate (N - m) z) := OwnsR.below ho hb
  have hll : N = (qs ++ List.replicate (N - m) z).length := by simp; omega
  have hset : (qs ++ List.replicate (N - m) z).set m p = (qs ++ [p]) ++ List.replicate (N - (m + 1)) z := by
    rw [List.set_append_right _ _ (by omega), hl, Nat.sub_self, show N - m = (N - (m + 1)) + 1 by omega, List.replicate_succ, List.set_cons_zero, List.append_assoc]
    rfl
  have hpv : ∀ g ∈ fps (R.vals p), wr.heap.size ≤ g := fun g hg => (R.sub_lt hs g hg).1
  refine ⟨qs ++ [p], ?_, ?_, ?_, ?_, ?_⟩
  · rw [List.map_append, hq, List.take_succ_eq_append_getElem (by omega), List.map_cons, List.map_nil, hp]
  · rw [← hset]
    exact OwnsR.put R.len ho1 hll m (by omega) p
  · intro q hq'
    rcases List.mem_append.mp hq' with h1 | h1
    · refine R.sub_same (hsub q h1) (fun g hg => ?_)
      have hg1 := R.sub_lt (hsub q h1) g hg
      have hg2 : w.heap.size < g := hgt g (by
        obtain ⟨u, hu, hgu⟩ := List.mem_flatMap.mp hg
        exact mem_fps (List.mem_flatMap.mpr ⟨q, h1, hu⟩) hgu)
      rw [putCells_other (by omega)]
      exact hb.block g hg1.2
    · have : q = p := by simpa using h1
      subst this
      refine R.sub_same (R.sub_base hs (fun g hg => by have := hpv g hg; omega)) (fun g hg => ?_)
      have := hpv g hg
      rw [putCells_other (by omega)]
  · rw [List.flatMap_append, fps_append, List.nodup_append]
    refine ⟨hnd, by simpa using hn, ?_⟩
    intro a ha b hb' e
    subst e
    have h1 : a ∈ fps (R.vals p) := by simpa using hb'
    obtain ⟨u, hu, hau⟩ := List.mem_flatMap.mp ha
    obtain ⟨q, hq1, hq2⟩ := List.mem_flatMap.mp hu
    have h2 := (R.sub_lt (hsub q hq1) a (mem_fps hq2 hau)).2
    have := hpv a h1
    omega
  · intro g hg
    rw [List.flatMap_append, fps_append] at hg
    rcases List.mem_append.mp hg with h1 | h1
    · exact hgt g h1
    · have := hpv g (by simpa using h1)
      omega
theorem Made.done {R : RowTy α β} {w wr : World} {N : Nat} {z : α} {xs : List β} (h : Made R w wr N z xs N) (hN : xs.length = N) : R.Own wr w.heap.size wr.heap.size (.slice (some ⟨w.heap.size, 0, none⟩) N N) xs := by
  obtain ⟨qs, hq, ho, hsub, hnd, hgt⟩ := h
  rw [Nat.sub_self, List.replicate_zero, List.append_nil] at ho
  rw [List.take_of_length_le (by omega)] at hq
  have hP : R.Phys wr w.heap.size (.slice (some ⟨w.heap.size, 0, none⟩) N N) qs := ⟨ho, hsub⟩
  refine ⟨qs, hq, hP, ?_, hP.lt⟩
  unfold RowTy.all
  rw [fps_cons, List.nodup_append]
  refine ⟨by simp [fpOf, Value.ownBlock], hnd, ?_⟩
  intro a ha b hb e
  subst e
  have h1 : a = w.heap.size := by simpa [fpOf, Value.ownBlock] using ha
  have h2 := hgt a hb
  omega
end

theorem flat_nil {α : Type} (ps : List α) : ps.flatMap (fun _ => ([] : List Value)) = [] := by
  induction ps with
  | nil => rfl
  | cons x xs ih => simp [ih]
theorem kept_set {w : World} {b c j : Nat} {u : Value} (h : b ≠ c) : (w.setCell ⟨c, j, none⟩ u).heap[b]? = w.heap[b]? := Below.heap_setCell _ _ _ _ h
theorem cell_at {w : World} {b : Nat} {cs : Array Value} {T : TypeId} {fr : Nat × Nat} (hb : w.heap[b]? = some (.cells cs T fr)) (j : Nat) : w.cell? ⟨b, j, none⟩ = cs[j]? := by
  simp [World.cell?, hb]
theorem free_at {w : World} {b : Nat} {cs : Array Value} {T : TypeId} (hb : w.heap[b]? = some (.cells cs T (0, 0))) (j : Nat) : w.frozen? ⟨b, j, none⟩ = false := by
  simp [World.frozen?, hb]
theorem third_new (w : World) (o1 o2 o3 : Obj) : (((w.alloc o1).alloc o2).alloc o3).heap[w.heap.size + 2]? = some o3 := by
  have h : ((w.alloc o1).alloc o2).heap.size = w.heap.size + 2 := by simp
  rw [← h]
  exact heap_alloc_new _ _
theorem second_new (w : World) (o1 o2 o3 : Obj) : (((w.alloc o1).alloc o2).alloc o3).heap[w.heap.size + 1]? = some o2 := by
  have h : (w.alloc o1).heap.size = w.heap.size + 1 := by simp
  rw [Below.heap_alloc _ _ _ (by simp), ← h]
  exact heap_alloc_new _ _
theorem first_new (w : World) (o1 o2 o3 : Obj) : (((w.alloc o1).alloc o2).alloc o3).heap[w.heap.size]? = some o1 := by
  rw [Below.heap_alloc _ _ _ (by simp; omega), Below.heap_alloc _ _ _ (by simp)]
  exact heap_alloc_new _ _

end Go.Proofs.YtljphnjmeckpbaaGreat
