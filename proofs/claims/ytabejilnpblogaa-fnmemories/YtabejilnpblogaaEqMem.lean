/-
  Memories held against each other, up to two millions. Written by mkeqmem.py.
-/
import Derived.Test.YtabejilnpblogaaMarkMem
import Derived.Test.YtabejilnpblogaaSpX
namespace Go.Proofs.Ytabejilnpblogaa
open Go.RowKit

theorem eqIntS_big (B : Nat) (va vb : Value) (xs : List Int) (w : World) (hB : B ≤ w.heap.size) (ha : RowI w B va xs) (hb : RowI w B vb xs) (hl : xs.length ≤ 2000000) :
    Calls Try.prog 81 #[va, vb] w fun e w' => e = .returned (.bool true) ∧ Below w.heap.size w w' := by
  obtain ⟨a, ca, rfl⟩ := ha.len
  obtain ⟨b, cb, rfl⟩ := hb.len
  obtain ⟨N, HN⟩ : ∃ N, Hid (xs.length = N) := ⟨_, (rfl : xs.length = xs.length)⟩
  have H : Hid (RowI w B (.slice a N ca) xs ∧ RowI w B (.slice b N cb) xs) := by rw [← HN.out]; exact ⟨ha, hb⟩
  rw [HN.out] at hl ⊢
  clear ha hb
  go_enter Try.func81, Try.ntmps81
  go_wp2
  go_loopw [5] (fun i wr => ∃ k : Nat, k ≤ N ∧ i = .int .i64 (k : Int) ∧ Below w.heap.size w wr) (fun i _ => N - (intOf i).toNat)
  case atStart => exact ⟨0, Nat.zero_le _, rfl, Below.refl _ _⟩
  case round =>
    obtain ⟨k, hk, rfl, hbw⟩ := hrel
    by_cases hlt : k < N
    · have hk1 : (k : Int) < (N : Int) := by omega
      have hk0 : (0 : Int) ≤ (k : Int) := by omega
      have hkl : k < xs.length := by have := HN.out; omega
      obtain ⟨ba, oa, rfl, hba, c0⟩ := H.out.1.at k hkl
      obtain ⟨bb, ob, rfl, hbb, e0⟩ := H.out.2.at k hkl
      obtain ⟨q, hq⟩ : ∃ q, Hid (xs[k] = q) := ⟨_, (rfl : xs[k] = xs[k])⟩
      have d0 := (hbw.cell (p := ⟨ba, oa + k, none⟩) (by show ba < _; omega)).trans c0
      have f0 := (hbw.cell (p := ⟨bb, ob + k, none⟩) (by show bb < _; omega)).trans e0
      rw [hq.out] at d0 f0
      clear c0 e0
      go_wp2_with fail
      go_quiet (fail)
      go_wp2
      go_roundw
      case rel => exact ⟨k + 1, by omega, by go_num, below_drawn hbw _⟩
      case measure => simp [intOf]; omega
    · go_wp2
      go_ret
      exact ⟨rfl, hbw⟩


theorem spend_sz (m : Mm) : szMm (spendM m) ≤ szMm m + 1 := by
  unfold spendM
  split
  · split <;> simp [szMm]
  · omega
theorem told_sz (m : Mm) (k : Int) : szMm (toldM m k) ≤ szMm m + 1 := by
  unfold toldM
  split
  · simp [szMm]; omega
  · omega
theorem setM_sz (m : Mm) (k : Int) (c : Ce) : szMm (setM m k c) = szMm m := by unfold setM szMm; simp [szRowCe_len]
theorem pushM_sz (m : Mm) (n : Int) : szMm (pushM m n) = szMm m + 1 := by unfold pushM szMm; simp [szRowCe_len]; omega
theorem freed_sz (m : Mm) (t k : Int) : szMm (freedM m t k) ≤ szMm m + 1 := by
  unfold freedM
  split
  · split
    · rw [setM_sz]; omega
    · omega
  · omega
theorem written_sz (m : Mm) (t k n : Int) : szMm (writtenM m t k n) ≤ szMm m + 1 := by
  unfold writtenM
  split
  · split
    · rw [setM_sz]; omega
    · simp [szMm]
  · omega
theorem looked_sz (m : Mm) (t k : Int) : szMm (lookedM m t k).1 ≤ szMm m + 1 := by
  unfold lookedM
  split
  · split <;> simp [szMm]
  · simp
theorem asked_sz (m : Mm) : szMm (askedM m).1 ≤ szMm m + 1 := by
  unfold askedM
  split
  · split
    · simp [szMm]
    · rename_i h
      simp [szMm, h]
      omega
  · simp
theorem summed_sz (m : Mm) (a b : Int) : szMm (summedM m a b).1 ≤ szMm m + 1 := by
  unfold summedM
  split
  · split <;> simp [szMm]
  · simp
theorem fresh_sz (m : Mm) (k : Int) : szMm (freshM m k).1 ≤ szMm m + 1 := by
  unfold freshM
  split
  · simp [pushM_sz]
  · simp
theorem moved_sz (m : Mm) (t k : Int) : szMm (movedM m t k).1 ≤ szMm m + 1 := by
  unfold movedM
  split
  · split
    · split
      · simp [pushM_sz, setM_sz]
      · simp [szMm]
    · simp
  · simp
/-- Blocks as they stand. -/
def Stay (L : List (Nat × Obj)) (W : World) : Prop := ∀ q ∈ L, W.heap[q.1]? = some q.2
theorem Stay.next {L : List (Nat × Obj)} {W W' : World} (h : Stay L W) (hb : Below W.heap.size W W') : Stay L W' := fun q hq => by
  have h1 := h q hq
  have h2 : q.1 < W.heap.size := by
    rcases Nat.lt_or_ge q.1 W.heap.size with h2 | h2
    · exact h2
    · rw [Array.getElem?_eq_none h2] at h1; cases h1
  exact (hb.block _ h2).trans h1
theorem Stay.rim {L : List (Nat × Obj)} {W W' : World} {B H : Nat} (h : Stay L W) (hb : Rim B H W W') (hd : ∀ q ∈ L, q.1 < B ∨ H ≤ q.1) : Stay L W' := fun q hq => by
  have h1 := h q hq
  have h2 : q.1 < W.heap.size := by
    rcases Nat.lt_or_ge q.1 W.heap.size with h2 | h2
    · exact h2
    · rw [Array.getElem?_eq_none h2] at h1; cases h1
  exact (hb.block _ h2 (hd q hq)).trans h1
theorem Stay.push {L : List (Nat × Obj)} {W : World} (h : Stay L W) (o : Obj) : Stay ((W.heap.size, o) :: L) (W.alloc o) := fun q hq => by
  rcases List.mem_cons.mp hq with rfl | hq
  · exact heap_alloc_new _ _
  · exact h.next ((Below.refl _ _).alloc (Nat.le_refl _) _) q hq
theorem OwnMm.row {w : World} {B H : Nat} {v0 v1 v2 : Value} {m : Mm} (h : OwnMm w B H v0 v1 v2 m) : RowMm w H v0 v1 v2 m :=
  ⟨CeR.read1 h.cells.1 (fun g hg => (h.fp g (mem_fps (by simp) hg)).2), h.input.row (fun g hg => (h.fp g (mem_fps (by simp) hg)).2), OwnsR.read inC_len h.out (fun g hg => (h.fp g (mem_fps (by simp) hg)).2)⟩
theorem OwnMm.nils {w : World} {B H : Nat} {v0 v1 v2 : Value} {m : Mm} (h : OwnMm w B H v0 v1 v2 m) : nilOk v0 ∧ nilOk v1 ∧ nilOk v2 := by
  refine ⟨OwnsR.nilOk h.cells.1, ?_, OwnsR.nilOk h.out⟩
  rcases h.input with h | ⟨_, _, _, _, _, _, rfl, _⟩ | ⟨a, rfl, _, _⟩
  · exact OwnsR.nilOk h
  · trivial
  · cases a
    · exact ⟨rfl, rfl⟩
    · trivial
theorem OwnMm.form {w : World} {B H : Nat} {v0 v1 v2 : Value} {m : Mm} (h : OwnMm w B H v0 v1 v2 m) : ∃ x0 n0 c0 x1 n1 c1 x2 n2 c2, v0 = .slice x0 n0 c0 ∧ v1 = .slice x1 n1 c1 ∧ v2 = .slice x2 n2 c2 := by
  obtain ⟨a, n, c, e0⟩ := form_slice h.cells.1
  obtain ⟨a2, n2, c2, e2⟩ := form_slice h.out
  rcases h.input with h | ⟨_, _, _, _, _, _, e1, _⟩ | ⟨a1, e1, _, _⟩
  · obtain ⟨a1, n1, c1, e1⟩ := form_slice h
    exact ⟨_, _, _, _, _, _, _, _, _, e0, e1, e2⟩
  · exact ⟨_, _, _, _, _, _, _, _, _, e0, e1, e2⟩
  · exact ⟨_, _, _, _, _, _, _, _, _, e0, e1, e2⟩

end Go.Proofs.Ytabejilnpblogaa
