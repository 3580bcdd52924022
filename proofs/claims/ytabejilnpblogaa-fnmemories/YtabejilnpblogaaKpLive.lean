/-
  The program's keeper of a memory: the live cell at a place.
-/
import Derived.Test.YtabejilnpblogaaKpOps
import Derived.Deep.QuietTactic
import Derived.BigQuiet
namespace Go.Proofs.Ytabejilnpblogaa
open Go.RowKit

/-- The pointer to the live cell at a place, else nil. -/
def ptV (ads : List (Nat × Nat)) (m : Mm) (k : Int) : Value := match liveM m k with
  | some _ => .pointer (some ⟨(ads.getD k.toNat (0, 0)).1, (ads.getD k.toNat (0, 0)).2, none⟩)
  | none => .pointer none
theorem live_off {m : Mm} {k : Int} (h : ¬ (0 ≤ k ∧ k < (m.cells.length : Int))) : liveM m k = none := by
  unfold liveM ceAt
  by_cases h0 : 0 ≤ k
  · rw [if_pos h0, List.getElem?_eq_none (by omega)]
  · rw [if_neg h0]
theorem live_some {m : Mm} {k : Int} {c : Ce} (h : liveM m k = some c) : ∃ j : Nat, k = (j : Int) ∧ ∃ hj : j < m.cells.length, m.cells[j] = c ∧ c.live = true :=
  lead_some (t := 2) (by unfold leadM; rw [if_pos (by omega)]; exact h)

set_option maxRecDepth 100000 in
set_option maxHeartbeats 1600000 in
theorem kpLive_any (K p : Nat) (x0 : Option Addr) (n0 c0 : Nat) (x1 : Option Addr) (n1 c1 : Nat) (x2 : Option Addr) (n2 c2 : Nat) (ads : List (Nat × Nat)) (m : Mm) (t k : Int) (W : World) (h : KpAt K W p (.slice x0 n0 c0) (.slice x1 n1 c1) (.slice x2 n2 c2) ads m) (hl : m.cells.length ≤ 2000000) :
    Calls Try.prog 87 #[.pointer (some ⟨p, 0, none⟩), .agg #[.int .i64 t, .int .i64 k]] W fun e w' => e = .returned (ptV ads m k) ∧ Below W.heap.size W w' := by
  have hn : n0 = m.cells.length := by
    rcases OwnsR.form h.ptrs with ⟨e, e'⟩ | ⟨g', c', e, _⟩
    · have h1 := h.len
      rw [e'] at h1
      injection e with _ e2 _
      rw [e2]
      exact h1
    · have h1 := h.len
      injection e with _ e2 _
      rw [e2, h1]
  have hlt := h.lt
  have HM : Hid (KpAt K W p (.slice x0 n0 c0) (.slice x1 n1 c1) (.slice x2 n2 c2) ads m) := h
  have B1 : Hid (Box W (.cells #[.int .i64 t, .int .i64 k] 31 (0, 0)) (W.alloc (.cells #[.int .i64 t, .int .i64 k] 31 (0, 0)))) := Box.first _ _
  have hn2 : n0 ≤ 2000000 := by omega
  by_cases hk : 0 ≤ k ∧ k < (n0 : Int)
  · obtain ⟨j, rfl⟩ : ∃ j : Nat, k = (j : Int) := ⟨k.toNat, by omega⟩
    have hj : j < m.cells.length := by omega
    have hja : j < ads.length := by rw [h.len]; exact hj
    obtain ⟨g, e⟩ : ∃ g, x0 = some ⟨g, 0, none⟩ := by
      rcases OwnsR.form h.ptrs with ⟨_, e'⟩ | ⟨g', c', e, _⟩
      · rw [e'] at hja; simp at hja
      · injection e with e1 _ _
        exact ⟨g', e1⟩
    subst e
    have hcl := h.cell j hja hj
    have hp := OwnsR.cell ptC_len h.ptrs (by rw [hn, h.len]) j 0 hja (by decide)
    simp only [Nat.mul_one, Nat.add_zero] at hp
    have hgW : g < W.heap.size := (OwnsR.lt h.ptrs g (by simp [fpOf, Value.ownBlock])).2
    have hfW := (h.far _ (List.getElem_mem hja)).1.2.1
    have hpt : ptV ads m (j : Int) = if (m.cells[j]).live = true then .pointer (some ⟨(ads[j]).1, (ads[j]).2, none⟩) else .pointer none := by
      unfold ptV
      rw [live_at hj, Int.toNat_natCast, show ads.getD j (0, 0) = ads[j] by simp [List.getD, hja]]
      cases (m.cells[j]).live <;> simp
    rw [hpt]
    obtain ⟨⟨cb, co⟩, hco⟩ : ∃ a, Hid (ads[j] = a) := ⟨_, (rfl : ads[j] = ads[j])⟩
    obtain ⟨⟨lv, nu⟩, hce⟩ : ∃ a, Hid (m.cells[j] = a) := ⟨_, (rfl : m.cells[j] = m.cells[j])⟩
    rw [hco.out] at hcl hfW ⊢
    have hp' : W.cell? ⟨g, j, none⟩ = some (.pointer (some ⟨cb, co, none⟩)) := by rw [hp, hco.out]; rfl
    rw [hce.out] at hcl ⊢
    simp only at hcl hfW ⊢
    have hb := B1.out.below
    have y0 : (W.alloc (.cells #[.int .i64 t, .int .i64 (j : Int)] 31 (0, 0))).cell? ⟨g, j, none⟩ = some (.pointer (some ⟨cb, co, none⟩)) := (hb.cell (p := ⟨g, j, none⟩) hgW).trans hp'
    have y1 : (W.alloc (.cells #[.int .i64 t, .int .i64 (j : Int)] 31 (0, 0))).cell? ⟨cb, co, none⟩ = some (.bool lv) := (hb.cell (p := ⟨cb, co, none⟩) hfW).trans hcl.1
    have u0 : (W.alloc (.cells #[.int .i64 t, .int .i64 (j : Int)] 31 (0, 0))).cell? ⟨p, 0, none⟩ = some (.slice (some ⟨g, 0, none⟩) n0 c0) := (hb.cell (p := ⟨p, 0, none⟩) hlt).trans (cell_at h.blk 0)
    have hj0 : (0 : Int) ≤ (j : Int) := hk.1
    have hj1 : (j : Int) < (n0 : Int) := hk.2
    have hg1 : decide ((j : Int) < 0) = false := by simp
    have hg2 : decide (n0 ≤ j) = false := by simp; omega
    have hg3 : ¬ n0 ≤ j := by omega
    clear h hn hl hk hj hja hcl hp hpt hb hp' hco hce
    cases lv with
    | true =>
      simp only [if_true]
      go_enter Try.func87, Try.ntmps87
      go_wp2_with fail
      go_quiet (fail)
      go_wp2_with fail
      go_quiet (fail)
      go_wp2
      go_returns
      exact ⟨rfl, by first | exact below_drewN B1.out.below _ | exact below_drewN (below_drewN B1.out.below _) _⟩
    | false =>
      simp only [Bool.false_eq_true, if_false]
      go_enter Try.func87, Try.ntmps87
      go_wp2_with fail
      go_quiet (fail)
      go_wp2
      go_returns
      exact ⟨rfl, by first | exact below_drewN B1.out.below _ | exact below_drewN (below_drewN B1.out.below _) _⟩
  · have hpt : ptV ads m k = .pointer none := by unfold ptV; rw [live_off (by rw [← hn]; exact hk)]
    rw [hpt]
    have u0 : (W.alloc (.cells #[.int .i64 t, .int .i64 k] 31 (0, 0))).cell? ⟨p, 0, none⟩ = some (.slice x0 n0 c0) := (B1.out.below.cell (p := ⟨p, 0, none⟩) hlt).trans (cell_at h.blk 0)
    by_cases h0 : k < 0
    · have hg1 : decide (k < 0) = true := by simp [h0]
      clear h hn hl hk hpt
      go_enter Try.func87, Try.ntmps87
      go_wp2_with fail
      go_quiet (fail)
      go_wp2
      go_returns
      exact ⟨rfl, by first | exact below_drewN B1.out.below _ | exact below_drewN (below_drewN B1.out.below _) _⟩
    · have hg1 : decide (k < 0) = false := by simp [h0]
      have h1 : (n0 : Int) ≤ k := by omega
      have hg2 : decide ((n0 : Int) ≤ k) = true := by simp [h1]
      clear h hn hl hk hpt
      go_enter Try.func87, Try.ntmps87
      go_wp2_with fail
      go_quiet (fail)
      go_wp2
      go_returns
      exact ⟨rfl, by first | exact below_drewN B1.out.below _ | exact below_drewN (below_drewN B1.out.below _) _⟩

end Go.Proofs.Ytabejilnpblogaa
