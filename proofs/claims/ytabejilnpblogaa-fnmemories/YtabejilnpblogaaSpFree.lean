/-
  The model's memory: a cell written, freed, given away; what is asked for, and sums. Written by mkspfree.py.
-/
import Derived.Test.YtabejilnpblogaaSpLook
namespace Go.Proofs.Ytabejilnpblogaa
open Go.RowKit


set_option maxRecDepth 100000 in
set_option maxHeartbeats 1600000 in
theorem l09Written_any (K p : Nat) (x0 : Option Addr) (n0 c0 : Nat) (x1 : Option Addr) (n1 c1 : Nat) (x2 : Option Addr) (n2 c2 : Nat) (m : Mm) (t k n : Int) (W : World) (h : MmAt K W p (.slice x0 n0 c0) (.slice x1 n1 c1) (.slice x2 n2 c2) m) (hl : szMm m ≤ 2000000) :
    SpDoes 73 #[.pointer (some ⟨p, 0, none⟩), .agg #[.int .i64 t, .int .i64 k], .int .i64 n] W K p (writtenM m t k n) (.tuple #[]) := by
  have HM : Hid (MmAt K W p (.slice x0 n0 c0) (.slice x1 n1 c1) (.slice x2 n2 c2) m) := h
  have u4 : W.cell? ⟨p, 4, none⟩ = some (.int .i64 m.bad) := cell_at h.blk 4
  have hlt := h.lt
  have hKW : K ≤ W.heap.size := by have := h.low; omega
  have hol : m.cells.length ≤ 2000000 := by unfold szMm at hl; rw [szRowCe_len] at hl; omega
  obtain ⟨fu, hfu⟩ : ∃ f, Hid (m.fuel = f) := ⟨_, (rfl : m.fuel = m.fuel)⟩
  obtain ⟨bd, hbd⟩ : ∃ f, Hid (m.bad = f) := ⟨_, (rfl : m.bad = m.bad)⟩
  have HSee : Hid (∀ w', Box W (.cells #[.int .i64 t, .int .i64 k] 31 (0, 0)) w' → (w'.cell? ⟨p, 0, none⟩ = some (.slice x0 n0 c0) ∧ w'.cell? ⟨p, 1, none⟩ = some (.slice x1 n1 c1) ∧ w'.cell? ⟨p, 2, none⟩ = some (.slice x2 n2 c2) ∧ w'.cell? ⟨p, 3, none⟩ = some (.int .i64 fu) ∧ w'.cell? ⟨p, 4, none⟩ = some (.int .i64 bd)) ∧ w'.cell? ⟨W.heap.size, 0, none⟩ = some (.int .i64 t) ∧ w'.cell? ⟨W.heap.size, 1, none⟩ = some (.int .i64 k)) := fun w' hw => by
    have := SpSee.of h hw
    rw [hfu.out, hbd.out] at this
    exact this
  have cL : Hid (∀ w', Box W (.cells #[.int .i64 t, .int .i64 k] 31 (0, 0)) w' → Calls Try.prog 89 #[.agg #[.slice x0 n0 c0, .slice x1 n1 c1, .slice x2 n2 c2, .int .i64 fu, .int .i64 bd], .agg #[.int .i64 t, .int .i64 k]] w' fun e w2 => e = .returned (.bool (leadM m t k).isSome) ∧ Below w'.heap.size w' w2) := fun w' hw =>
    l09Live_any w'.heap.size m x0 n0 c0 _ _ fu bd t k w' (Nat.le_refl _) (h.below hw.below).row.1 hol
  rw [hbd.out] at u4
  clear h hl
  unfold SpDoes
  by_cases hb : bd = 0
  · subst hb
    cases hr : leadM m t k with
    | none =>
      have HS : Hid (writtenM m t k n = { m with bad := 5 }) := by show _ = _; unfold writtenM; rw [if_pos hbd.out, hr]
      rw [HS.out]
      rw [hr] at cL
      simp only [Option.isSome_none] at cL
      clear hr
      go_enter Try.func73, Try.ntmps73
      have B1 : Hid (Box W (.cells #[.int .i64 t, .int .i64 k] 31 (0, 0)) (W.alloc (.cells #[.int .i64 t, .int .i64 k] 31 (0, 0)))) := Box.first _ _
      go_wp2_with fail
      generalize W.alloc (.cells #[.int .i64 t, .int .i64 k] 31 (0, 0)) = W1 at B1 ⊢
      have k1 := HSee.out _ B1.out
      have kd := HSee.out _ B1.out.drew
      go_region_held3 (fun w' => (w'.cell? ⟨p, 0, none⟩ = some (.slice x0 n0 c0) ∧ w'.cell? ⟨p, 1, none⟩ = some (.slice x1 n1 c1) ∧ w'.cell? ⟨p, 2, none⟩ = some (.slice x2 n2 c2) ∧ w'.cell? ⟨p, 3, none⟩ = some (.int .i64 fu) ∧ w'.cell? ⟨p, 4, none⟩ = some (.int .i64 0)) ∧ w'.cell? ⟨W.heap.size, 0, none⟩ = some (.int .i64 t) ∧ w'.cell? ⟨W.heap.size, 1, none⟩ = some (.int .i64 k)) (first | with_reducible exact kA | with_reducible exact kd | with_reducible exact k1) ((go_at_call 89; refine Calls.mono (cL.out _ B1.out.drew) ?_; rintro e wA ⟨rfl, hA⟩; have BA := B1.out.drew.next hA; have kA := HSee.out _ BA))
      have HW : Hid (MmAt K wA p (.slice x0 n0 c0) (.slice x1 n1 c1) (.slice x2 n2 c2) m) := HM.out.below BA.below
      have fr := free_at HW.out.blk 4
      have HF : Hid (MmAt K (wA.setCell ⟨p, 4, none⟩ (.int .i64 5)) p (.slice x0 n0 c0) (.slice x1 n1 c1) (.slice x2 n2 c2) { m with bad := 5 }) := HW.out.badTo 5
      have HBl : Hid (Below K W (wA.setCell ⟨p, 4, none⟩ (.int .i64 5))) := (BA.below.mono hKW).trans (HW.out.set_below 4 _)
      have a4 := kA.1.2.2.2.2
      clear cL HSee kA HW BA hA
      go_wp2
      go_returns
      exact ⟨rfl, ⟨_, _, _, _, _, _, _, _, _, HF.out⟩, HBl.out⟩
    | some c =>
      have HS : Hid (writtenM m t k n = setM m k ⟨true, n⟩) := by show _ = _; unfold writtenM; rw [if_pos hbd.out, hr]
      rw [HS.out]
      rw [hr] at cL
      simp only [Option.isSome_some] at cL
      obtain ⟨j, rfl, hj, hc, hlv⟩ := lead_some hr
      obtain ⟨g, cap, e, hKg, hgW⟩ : ∃ g cap, Value.slice x0 n0 c0 = .slice (some ⟨g, 0, none⟩) m.cells.length cap ∧ K ≤ g ∧ g < W.heap.size := by
        rcases HM.out.form with ⟨e, _⟩ | h
        · rw [e] at hj; simp at hj
        · exact h
      obtain ⟨rfl, hn, rfl⟩ : x0 = some ⟨g, 0, none⟩ ∧ n0 = m.cells.length ∧ c0 = cap := by simpa using e
      have hj0 : (0 : Int) ≤ (j : Int) := by omega
      have hj1 : (j : Int) < (n0 : Int) := by omega
      have hn2 : n0 ≤ 2000000 := by omega
      have HN : Hid (n0 = m.cells.length) := hn
      have HJ : Hid (∃ hj : j < m.cells.length, m.cells[j] = c) := ⟨hj, hc⟩
      obtain ⟨lv, nu⟩ := c
      simp only at hlv
      subst hlv
      clear hr e hn hj hc hol
      go_enter Try.func73, Try.ntmps73
      have B1 : Hid (Box W (.cells #[.int .i64 t, .int .i64 (j : Int)] 31 (0, 0)) (W.alloc (.cells #[.int .i64 t, .int .i64 (j : Int)] 31 (0, 0)))) := Box.first _ _
      go_wp2_with fail
      generalize W.alloc (.cells #[.int .i64 t, .int .i64 (j : Int)] 31 (0, 0)) = W1 at B1 ⊢
      have k1 := HSee.out _ B1.out
      have kd := HSee.out _ B1.out.drew
      go_region_held3 (fun w' => (w'.cell? ⟨p, 0, none⟩ = some (.slice (some ⟨g, 0, none⟩) n0 c0) ∧ w'.cell? ⟨p, 1, none⟩ = some (.slice x1 n1 c1) ∧ w'.cell? ⟨p, 2, none⟩ = some (.slice x2 n2 c2) ∧ w'.cell? ⟨p, 3, none⟩ = some (.int .i64 fu) ∧ w'.cell? ⟨p, 4, none⟩ = some (.int .i64 0)) ∧ w'.cell? ⟨W.heap.size, 0, none⟩ = some (.int .i64 t) ∧ w'.cell? ⟨W.heap.size, 1, none⟩ = some (.int .i64 (j : Int))) (first | with_reducible exact kA | with_reducible exact kd | with_reducible exact k1) ((go_at_call 89; refine Calls.mono (cL.out _ B1.out.drew) ?_; rintro e wA ⟨rfl, hA⟩; have BA := B1.out.drew.next hA; have kA := HSee.out _ BA))
      have HW : Hid (MmAt K wA p (.slice (some ⟨g, 0, none⟩) n0 c0) (.slice x1 n1 c1) (.slice x2 n2 c2) m) := HM.out.below BA.below
      have hcells : wA.cell? ⟨g, j * 2, none⟩ = some (.bool true) ∧ wA.cell? ⟨g, j * 2 + 1, none⟩ = some (.int .i64 nu) := by
        obtain ⟨hj, hc⟩ := HJ.out
        have h0 := OwnsR.cell CeR.len HW.out.cells HN.out j 0 hj (by decide)
        have h1 := OwnsR.cell CeR.len HW.out.cells HN.out j 1 hj (by decide)
        rw [hc] at h0 h1
        exact ⟨h0, h1⟩
      obtain ⟨y0, y1⟩ := hcells
      have a0 := kA.1.1
      have b1 := kA.2.2
      have HBl : Hid (Below K W wA) := BA.below.mono hKW
      have fr : wA.frozen? ⟨g, j * 2 + 1, none⟩ = false := OwnsR.free HW.out.cells HN.out _
      clear cL HSee kA BA hA HS
      go_wp2_with fail
      go_region
      have HF : Hid (MmAt K (wA.setCell ⟨g, j * 2 + 1, none⟩ (.int .i64 n)) p (.slice (some ⟨g, 0, none⟩) n0 c0) (.slice x1 n1 c1) (.slice x2 n2 c2) (setM m (j : Int) ⟨true, n⟩)) := by
        obtain ⟨hj, hc⟩ := HJ.out
        exact HW.out.cellTo j 1 hj (by decide) ⟨true, n⟩ (.int .i64 n) (by rw [hc]; rfl)
      have HB2 : Hid (Below K W (wA.setCell ⟨g, j * 2 + 1, none⟩ (.int .i64 n))) := HBl.out.setCell (p := ⟨g, j * 2 + 1, none⟩) hKg _
      go_returns
      exact ⟨rfl, ⟨_, _, _, _, _, _, _, _, _, HF.out.below (Below.refl _ _).drew⟩, HB2.out.drew⟩
  · have HS : Hid (writtenM m t k n = m) := by show _ = _; unfold writtenM; rw [if_neg (by rw [hbd.out]; exact hb)]
    rw [HS.out]
    go_enter Try.func73, Try.ntmps73
    go_wp2
    go_returns
    exact ⟨rfl, ⟨_, _, _, _, _, _, _, _, _, HM.out.below ((Below.refl _ _).alloc (Nat.le_refl _) _)⟩, (Below.refl _ _).alloc hKW _⟩

set_option maxRecDepth 100000 in
set_option maxHeartbeats 1600000 in
theorem l09Freed_any (K p : Nat) (x0 : Option Addr) (n0 c0 : Nat) (x1 : Option Addr) (n1 c1 : Nat) (x2 : Option Addr) (n2 c2 : Nat) (m : Mm) (t k : Int) (W : World) (h : MmAt K W p (.slice x0 n0 c0) (.slice x1 n1 c1) (.slice x2 n2 c2) m) (hl : szMm m ≤ 2000000) :
    SpDoes 72 #[.pointer (some ⟨p, 0, none⟩), .agg #[.int .i64 t, .int .i64 k]] W K p (freedM m t k) (.tuple #[]) := by
  have HM : Hid (MmAt K W p (.slice x0 n0 c0) (.slice x1 n1 c1) (.slice x2 n2 c2) m) := h
  have hlt := h.lt
  have hKW : K ≤ W.heap.size := by have := h.low; omega
  have hol : m.cells.length ≤ 2000000 := by unfold szMm at hl; rw [szRowCe_len] at hl; omega
  obtain ⟨bd, hbd⟩ : ∃ f, Hid (m.bad = f) := ⟨_, (rfl : m.bad = m.bad)⟩
  have B1 : Hid (Box W (.cells #[.int .i64 t, .int .i64 k] 31 (0, 0)) (W.alloc (.cells #[.int .i64 t, .int .i64 k] 31 (0, 0)))) := Box.first _ _
  have u0 : (W.alloc (.cells #[.int .i64 t, .int .i64 k] 31 (0, 0))).cell? ⟨p, 0, none⟩ = some (.slice x0 n0 c0) := (SpSee.of h B1.out).1.1
  have u4 : (W.alloc (.cells #[.int .i64 t, .int .i64 k] 31 (0, 0))).cell? ⟨p, 4, none⟩ = some (.int .i64 m.bad) := (SpSee.of h B1.out).1.2.2.2.2
  rw [hbd.out] at u4
  have hn : m.cells.length = n0 := by
    rcases h.form with ⟨e, e'⟩ | ⟨g, cap, e, _⟩
    · rw [e]; injection e' with _ e2 _; rw [e2]; rfl
    · injection e with _ e2 _; exact e2.symm
  clear h hl
  unfold SpDoes
  by_cases hb : bd = 0
  · subst hb
    by_cases ht : t = 2
    · subst ht
      by_cases hk : 0 ≤ k ∧ k < (n0 : Int)
      · obtain ⟨j, rfl⟩ : ∃ j : Nat, k = (j : Int) := ⟨k.toNat, by omega⟩
        have hj : j < m.cells.length := by omega
        have HS : Hid (freedM m 2 (j : Int) = setM m (j : Int) ⟨false, m.cells[j].num⟩) := by
          show _ = _
          unfold freedM ceAt
          rw [if_pos ⟨hbd.out, rfl⟩, if_pos (by omega), Int.toNat_natCast, List.getElem?_eq_getElem hj]
        rw [HS.out]
        obtain ⟨g, cap, e, hKg, hgW⟩ : ∃ g cap, Value.slice x0 n0 c0 = .slice (some ⟨g, 0, none⟩) m.cells.length cap ∧ K ≤ g ∧ g < W.heap.size := by
          rcases HM.out.form with ⟨e, _⟩ | h
          · rw [e] at hj; simp at hj
          · exact h
        obtain ⟨rfl, -, rfl⟩ : x0 = some ⟨g, 0, none⟩ ∧ n0 = m.cells.length ∧ c0 = cap := by simpa using e
        have hj0 : (0 : Int) ≤ (j : Int) := by omega
        have hj1 : (j : Int) < (n0 : Int) := by omega
        have HW : Hid (MmAt K (W.alloc (.cells #[.int .i64 2, .int .i64 (j : Int)] 31 (0, 0))) p (.slice (some ⟨g, 0, none⟩) n0 c0) (.slice x1 n1 c1) (.slice x2 n2 c2) m) := HM.out.below B1.out.below
        have HN : Hid (n0 = m.cells.length) := hn.symm
        have y0 : (W.alloc (.cells #[.int .i64 2, .int .i64 (j : Int)] 31 (0, 0))).cell? ⟨g, j * 2, none⟩ = some (.bool (m.cells[j]).live) := OwnsR.cell CeR.len HW.out.cells HN.out j 0 hj (by decide)
        have fr : (W.alloc (.cells #[.int .i64 2, .int .i64 (j : Int)] 31 (0, 0))).frozen? ⟨g, j * 2, none⟩ = false := OwnsR.free HW.out.cells HN.out _
        obtain ⟨c, hc⟩ : ∃ c, Hid (m.cells[j] = c) := ⟨_, (rfl : m.cells[j] = m.cells[j])⟩
        rw [hc.out] at y0 ⊢
        have HJ : Hid (∃ hj : j < m.cells.length, m.cells[j] = c) := ⟨hj, hc.out⟩
        obtain ⟨lv, nu⟩ := c
        simp only at y0 ⊢
        have hn2 : n0 ≤ 2000000 := by omega
        have hw : IntKind.i64.wrap ((n0 : Int) - 1) = (n0 : Int) - 1 := IntWalk.i64_in _ ⟨by omega, by omega⟩
        have cI : Hid (∀ W', Calls Try.prog 91 #[.int .i64 (j : Int), .int .i64 0, .int .i64 ((n0 : Int) - 1)] W' fun e w' => e = .returned (.bool true) ∧ w' = W') := fun W' => l01In_yes _ _ _ _ hj0 (by omega)
        clear hk e hn HS hc hj
        go_enter Try.func72, Try.ntmps72
        go_wp2_with fail
        go_quiet (first | (go_at_call 91; refine Calls.quiet_of_same (cI.out _)))
        clear hw cI
        go_wp2_with fail
        go_region
        have HF : Hid (MmAt K (((W.alloc (.cells #[.int .i64 2, .int .i64 (j : Int)] 31 (0, 0))).drewN (nq + 1)).setCell ⟨g, j * 2, none⟩ (.bool false)) p (.slice (some ⟨g, 0, none⟩) n0 c0) (.slice x1 n1 c1) (.slice x2 n2 c2) (setM m (j : Int) ⟨false, nu⟩)) := by
          obtain ⟨hj, hc⟩ := HJ.out
          exact (HM.out.below (below_drewN B1.out.below _)).cellTo j 0 hj (by decide) ⟨false, nu⟩ (.bool false) (by rw [hc]; rfl)
        have HB2 : Hid (Below K W (((W.alloc (.cells #[.int .i64 2, .int .i64 (j : Int)] 31 (0, 0))).drewN (nq + 1)).setCell ⟨g, j * 2, none⟩ (.bool false))) := (below_drewN (B1.out.below.mono hKW) _).setCell (p := ⟨g, j * 2, none⟩) hKg _
        go_returns
        exact ⟨rfl, ⟨_, _, _, _, _, _, _, _, _, HF.out⟩, HB2.out⟩
      · have HS : Hid (freedM m 2 k = m) := by
          show _ = _
          unfold freedM ceAt
          by_cases h0 : 0 ≤ k
          · rw [if_pos ⟨hbd.out, rfl⟩, if_pos h0, List.getElem?_eq_none (by omega)]
          · rw [if_pos ⟨hbd.out, rfl⟩, if_neg h0]
        rw [HS.out]
        have hn2 : n0 ≤ 2000000 := by omega
        have hw : IntKind.i64.wrap ((n0 : Int) - 1) = (n0 : Int) - 1 := IntWalk.i64_in _ ⟨by omega, by omega⟩
        have cI : Hid (∀ W', Calls Try.prog 91 #[.int .i64 k, .int .i64 0, .int .i64 ((n0 : Int) - 1)] W' fun e w' => e = .returned (.bool false) ∧ w' = W') := fun W' => l01In_no _ _ _ _ (by omega)
        clear hk HS hn
        go_enter Try.func72, Try.ntmps72
        go_wp2_with fail
        go_quiet (first | (go_at_call 91; refine Calls.quiet_of_same (cI.out _)))
        go_wp2
        go_returns
        exact ⟨rfl, ⟨_, _, _, _, _, _, _, _, _, HM.out.below (below_drewN B1.out.below _)⟩, below_drewN (B1.out.below.mono hKW) _⟩
    · have HS : Hid (freedM m t k = m) := by show _ = _; unfold freedM; rw [if_neg (fun h => ht h.2)]
      rw [HS.out]
      clear HS
      go_enter Try.func72, Try.ntmps72
      go_wp2_with fail
      go_quiet (fail)
      go_wp2
      go_returns
      exact ⟨rfl, ⟨_, _, _, _, _, _, _, _, _, HM.out.below (below_drewN B1.out.below _)⟩, below_drewN (B1.out.below.mono hKW) _⟩
  · have HS : Hid (freedM m t k = m) := by show _ = _; unfold freedM; rw [if_neg (fun h => hb (by rw [← hbd.out]; exact h.1))]
    rw [HS.out]
    clear HS
    have hb2 : (bd == 0) = false := by simp [hb]
    go_enter Try.func72, Try.ntmps72
    go_wp2_with fail
    go_quiet (fail)
    go_wp2
    go_returns
    exact ⟨rfl, ⟨_, _, _, _, _, _, _, _, _, HM.out.below (below_drewN B1.out.below _)⟩, below_drewN (B1.out.below.mono hKW) _⟩

end Go.Proofs.Ytabejilnpblogaa
