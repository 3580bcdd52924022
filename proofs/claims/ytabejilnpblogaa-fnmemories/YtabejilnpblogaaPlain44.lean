/-
  Chapter 9, plainly: what is fresh is there; what was given away or freed is gone. No program, no world.
-/
import Derived.Test.YtabejilnpblogaaPlain43
namespace Go.Proofs.Ytabejilnpblogaa

theorem ceAt_nat (cs : List Ce) (k : Nat) : ceAt cs (k : Int) = cs[k]? := by
  unfold ceAt
  rw [if_pos (by omega), Int.toNat_natCast]
theorem liveM_at {m : Mm} {k : Nat} {c : Ce} (h : m.cells[k]? = some c) : liveM m (k : Int) = if c.live = true then some c else none := by
  unfold liveM
  rw [ceAt_nat, h]
theorem leadM_at {m : Mm} {t : Int} {k : Nat} {c : Ce} (h2 : 2 ≤ t) (h4 : t ≤ 4) (h : m.cells[k]? = some c) : leadM m t (k : Int) = if c.live = true then some c else none := by
  unfold leadM
  rw [if_pos ⟨h2, h4⟩, liveM_at h]
theorem looked_live {m : Mm} {t x : Int} {k : Nat} (hb : m.bad = 0) (h2 : 2 ≤ t) (h4 : t ≤ 4) (h : m.cells[k]? = some ⟨true, x⟩) : lookedM m t (k : Int) = (m, x) := by
  unfold lookedM
  rw [if_pos hb, leadM_at h2 h4 h]
  rfl
theorem looked_dead {m : Mm} {t x : Int} {k : Nat} (hb : m.bad = 0) (h2 : 2 ≤ t) (h4 : t ≤ 4) (h : m.cells[k]? = some ⟨false, x⟩) : lookedM m t (k : Int) = ({ m with bad := 5 }, 0) := by
  unfold lookedM
  rw [if_pos hb, leadM_at h2 h4 h]
  rfl
theorem moved_live {m : Mm} {x : Int} {k : Nat} (hb : m.bad = 0) (h : m.cells[k]? = some ⟨true, x⟩) : movedM m 2 (k : Int) = (pushM (setM m (k : Int) ⟨false, x⟩) x, 2, (m.cells.length : Int)) := by
  unfold movedM
  rw [if_pos hb, if_pos rfl, liveM_at h]
  rfl
theorem written_live {m : Mm} {t x n : Int} {k : Nat} (hb : m.bad = 0) (h2 : 2 ≤ t) (h4 : t ≤ 4) (h : m.cells[k]? = some ⟨true, x⟩) : writtenM m t (k : Int) n = setM m (k : Int) ⟨true, n⟩ := by
  unfold writtenM
  rw [if_pos hb, leadM_at h2 h4 h]
  rfl
theorem freed_at {m : Mm} {c : Ce} {k : Nat} (hb : m.bad = 0) (h : m.cells[k]? = some c) : freedM m 2 (k : Int) = setM m (k : Int) ⟨false, c.num⟩ := by
  unfold freedM
  rw [if_pos ⟨hb, rfl⟩, ceAt_nat, h]
theorem szMm_push (m : Mm) (n : Int) : szMm (pushM m n) = szMm m + 1 := by
  show szRow szCe (m.cells ++ [_]) + m.input.length + m.out.length = szRow szCe m.cells + m.input.length + m.out.length + 1
  rw [szRowCe_len, szRowCe_len, List.length_append, List.length_singleton]
  omega
theorem szMm_set (m : Mm) (k : Int) (c : Ce) : szMm (setM m k c) = szMm m := by
  unfold szMm setM
  rw [szRowCe_len, szRowCe_len, List.length_set]

/-- A memory with no Bad: fresh, looked at, given away, written and freed. -/
theorem mems (m : Mm) (n : Int) (hb : m.bad = 0) : ∃ (A C D E F G : Mm) (L L1 : Nat),
    freshM m n = (A, 2, (L : Int)) ∧ lookedM A 2 (L : Int) = (A, n) ∧ movedM A 2 (L : Int) = (C, 2, (L1 : Int)) ∧ lookedM C 2 (L1 : Int) = (C, n) ∧ lookedM C 2 (L : Int) = (D, 0) ∧ writtenM C 4 (L1 : Int) (n + 1) = E ∧ lookedM E 3 (L1 : Int) = (E, n + 1) ∧ freedM E 2 (L1 : Int) = F ∧ lookedM F 2 (L1 : Int) = (G, 0) ∧
    (C.bad = 0 ∧ D.bad = 5 ∧ F.bad = 0 ∧ G.bad = 5) ∧ C.cells.length = m.cells.length + 2 ∧ szMm A ≤ szMm m + 2 ∧ szMm C ≤ szMm m + 2 ∧ szMm E ≤ szMm m + 2 ∧ szMm F ≤ szMm m + 2 := by
  have hA : (pushM m n).cells[m.cells.length]? = some ⟨true, n⟩ := by
    show (m.cells ++ [_])[m.cells.length]? = _
    rw [List.getElem?_append_right (Nat.le_refl _), Nat.sub_self]
    rfl
  have hAl : (pushM m n).cells.length = m.cells.length + 1 := by
    show (m.cells ++ [_]).length = _
    rw [List.length_append]
    rfl
  obtain ⟨A, rfl⟩ : ∃ A, A = pushM m n := ⟨_, rfl⟩
  have hB : (setM (pushM m n) (m.cells.length : Int) ⟨false, n⟩).cells.length = m.cells.length + 1 := by
    show (List.set _ _ _).length = _
    rw [List.length_set, hAl]
  have hC0 : (pushM (setM (pushM m n) (m.cells.length : Int) ⟨false, n⟩) n).cells[m.cells.length]? = some ⟨false, n⟩ := by
    show (List.set _ _ _ ++ [_])[m.cells.length]? = _
    rw [List.getElem?_append_left (by rw [List.length_set, hAl]; omega), Int.toNat_natCast, List.getElem?_set_self (by rw [hAl]; omega)]
  have hC1 : (pushM (setM (pushM m n) (m.cells.length : Int) ⟨false, n⟩) n).cells[m.cells.length + 1]? = some ⟨true, n⟩ := by
    show (List.set _ _ _ ++ [_])[m.cells.length + 1]? = _
    rw [List.getElem?_append_right (by rw [List.length_set, hAl]; omega), List.length_set, hAl, Nat.sub_self]
    rfl
  have hCl : (pushM (setM (pushM m n) (m.cells.length : Int) ⟨false, n⟩) n).cells.length = m.cells.length + 2 := by
    show (_ ++ [_]).length = _
    rw [List.length_append, hB]
    rfl
  have hCs : szMm (pushM (setM (pushM m n) (m.cells.length : Int) ⟨false, n⟩) n) = szMm m + 2 := by
    rw [szMm_push, szMm_set, szMm_push]
  have hCb : (pushM (setM (pushM m n) (m.cells.length : Int) ⟨false, n⟩) n).bad = 0 := hb
  generalize hC : pushM (setM (pushM m n) (m.cells.length : Int) ⟨false, n⟩) n = C at hC0 hC1 hCl hCs hCb
  have hE1 : (setM C ((m.cells.length + 1 : Nat) : Int) ⟨true, n + 1⟩).cells[m.cells.length + 1]? = some ⟨true, n + 1⟩ := by
    show (List.set _ _ _)[m.cells.length + 1]? = _
    rw [Int.toNat_natCast, List.getElem?_set_self (by rw [hCl]; omega)]
  have hEb : (setM C ((m.cells.length + 1 : Nat) : Int) ⟨true, n + 1⟩).bad = 0 := hCb
  have hEs : szMm (setM C ((m.cells.length + 1 : Nat) : Int) ⟨true, n + 1⟩) = szMm m + 2 := by rw [szMm_set, hCs]
  have hEl : (setM C ((m.cells.length + 1 : Nat) : Int) ⟨true, n + 1⟩).cells.length = m.cells.length + 2 := by
    show (List.set _ _ _).length = _
    rw [List.length_set, hCl]
  generalize hE : setM C ((m.cells.length + 1 : Nat) : Int) ⟨true, n + 1⟩ = E at hE1 hEb hEs hEl
  have hF1 : (setM E ((m.cells.length + 1 : Nat) : Int) ⟨false, n + 1⟩).cells[m.cells.length + 1]? = some ⟨false, n + 1⟩ := by
    show (List.set _ _ _)[m.cells.length + 1]? = _
    rw [Int.toNat_natCast, List.getElem?_set_self (by rw [hEl]; omega)]
  have hFb : (setM E ((m.cells.length + 1 : Nat) : Int) ⟨false, n + 1⟩).bad = 0 := hEb
  have hFs : szMm (setM E ((m.cells.length + 1 : Nat) : Int) ⟨false, n + 1⟩) = szMm m + 2 := by rw [szMm_set, hEs]
  refine ⟨pushM m n, C, { C with bad := 5 }, E, setM E ((m.cells.length + 1 : Nat) : Int) ⟨false, n + 1⟩, { setM E ((m.cells.length + 1 : Nat) : Int) ⟨false, n + 1⟩ with bad := 5 }, m.cells.length, m.cells.length + 1, ?_, ?_, ?_, ?_, ?_, ?_, ?_, ?_, ?_, ⟨hCb, rfl, hFb, rfl⟩, hCl, ?_, ?_, ?_, ?_⟩
  · unfold freshM; rw [if_pos hb]
  · exact looked_live hb (by decide) (by decide) hA
  · rw [moved_live (m := pushM m n) hb hA, hC, hAl]
  · exact looked_live hCb (by decide) (by decide) hC1
  · exact looked_dead hCb (by decide) (by decide) hC0
  · rw [written_live hCb (by decide) (by decide) hC1, hE]
  · exact looked_live hEb (by decide) (by decide) hE1
  · exact freed_at hEb hE1
  · exact looked_dead hFb (by decide) (by decide) hF1
  · rw [szMm_push]; omega
  · omega
  · omega
  · omega

end Go.Proofs.Ytabejilnpblogaa
