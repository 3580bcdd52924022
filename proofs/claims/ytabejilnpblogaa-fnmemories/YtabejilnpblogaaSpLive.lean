/-
  The model's memory: whether a value leads to a live cell.
-/
import Derived.Test.YtabejilnpblogaaSpOps
namespace Go.Proofs.Ytabejilnpblogaa
open Go.RowKit

theorem lead_out {m : Mm} {t k : Int} (h : ¬ (2 ≤ t ∧ t ≤ 4)) : leadM m t k = none := by unfold leadM; rw [if_neg h]
theorem lead_off {m : Mm} {t k : Int} (h : ¬ (0 ≤ k ∧ k < (m.cells.length : Int))) : leadM m t k = none := by
  unfold leadM liveM ceAt
  split
  · by_cases h0 : 0 ≤ k
    · rw [if_pos h0, List.getElem?_eq_none (by omega)]
    · rw [if_neg h0]
  · rfl
theorem live_at {m : Mm} {k : Nat} (hk : k < m.cells.length) : liveM m (k : Int) = if (m.cells[k]).live = true then some m.cells[k] else none := by
  unfold liveM ceAt
  rw [if_pos (by omega), Int.toNat_natCast, List.getElem?_eq_getElem hk]
theorem lead_at {m : Mm} {t : Int} {k : Nat} (ht : 2 ≤ t ∧ t ≤ 4) (hk : k < m.cells.length) : leadM m t (k : Int) = if (m.cells[k]).live = true then some m.cells[k] else none := by
  unfold leadM
  rw [if_pos ht, live_at hk]

set_option maxRecDepth 100000 in
set_option maxHeartbeats 1600000 in
theorem l09Live_any (B : Nat) (m : Mm) (x0 : Option Addr) (n0 c0 : Nat) (v1 v2 : Value) (fu bd t k : Int) (W : World) (hB : B ≤ W.heap.size) (h : CeR.Row W B (.slice x0 n0 c0) m.cells) (hl : m.cells.length ≤ 2000000) :
    Calls Try.prog 89 #[.agg #[.slice x0 n0 c0, v1, v2, .int .i64 fu, .int .i64 bd], .agg #[.int .i64 t, .int .i64 k]] W fun e w' => e = .returned (.bool (leadM m t k).isSome) ∧ Below W.heap.size W w' := by
  have hn : m.cells.length = n0 := by
    obtain ⟨a, c, e⟩ := h.len
    cases e
    rfl
  have hn0 : n0 ≤ 2000000 := by omega
  by_cases ht : 2 ≤ t ∧ t ≤ 4
  · by_cases hk : 0 ≤ k ∧ k < (n0 : Int)
    · obtain ⟨j, rfl⟩ : ∃ j : Nat, k = (j : Int) := ⟨k.toNat, by omega⟩
      have hj : j < m.cells.length := by omega
      obtain ⟨b, off, rfl, hb, d0, d1⟩ := CeR.at h j hj
      rw [lead_at ht hj]
      obtain ⟨c, hc⟩ : ∃ c, Hid (m.cells[j] = c) := ⟨_, (rfl : m.cells[j] = m.cells[j])⟩
      rw [hc.out] at d0 d1 ⊢
      have hj0 : (0 : Int) ≤ (j : Int) := hk.1
      have hj1 : (j : Int) < (n0 : Int) := hk.2
      have hbW : b < W.heap.size := by omega
      obtain ⟨lv, nu⟩ := c
      simp only at d0 d1 ⊢
      have HA : Hid ((if lv = true then some (⟨lv, nu⟩ : Ce) else none).isSome = lv) := by show _ = _; cases lv <;> simp
      rw [HA.out]
      clear h hn hl HA hc
      go_enter Try.func89, Try.ntmps89
      go_wp2_with fail
      go_at_call 91
      refine (l01In_yes _ _ _ _ ht.1 ht.2).mono ?_
      rintro e w1 ⟨rfl, rfl⟩
      go_wp2_with fail
      go_at_call 91
      refine (l01In_yes _ _ _ _ hj0 (by omega)).mono ?_
      rintro e w1 ⟨rfl, rfl⟩
      go_wp2
      go_returns
      exact ⟨rfl, by go_grown⟩
    · rw [lead_off (by rw [hn]; exact hk)]
      clear h hn hl
      go_enter Try.func89, Try.ntmps89
      go_wp2_with fail
      go_at_call 91
      refine (l01In_yes _ _ _ _ ht.1 ht.2).mono ?_
      rintro e w1 ⟨rfl, rfl⟩
      go_wp2_with fail
      go_at_call 91
      refine (l01In_no _ _ _ _ (by omega)).mono ?_
      rintro e w1 ⟨rfl, rfl⟩
      go_wp2
      go_returns
      exact ⟨rfl, by go_grown⟩
  · rw [lead_out ht]
    clear h hn hl
    go_enter Try.func89, Try.ntmps89
    go_wp2_with fail
    go_at_call 91
    refine (l01In_no _ _ _ _ (by omega)).mono ?_
    rintro e w1 ⟨rfl, rfl⟩
    go_wp2
    go_returns
    exact ⟨rfl, by go_grown⟩

end Go.Proofs.Ytabejilnpblogaa
