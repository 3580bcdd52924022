/-
  The model's memory: a cell given away. Written by mkspfree.py.
-/
import Derived.Test.YtabejilnpblogaaSpLook
namespace Go.Proofs.Ytabejilnpblogaa
open Go.RowKit


set_option maxRecDepth 100000 in
set_option maxHeartbeats 3200000 in
theorem l09Moved_any (K p : Nat) (x0 : Option Addr) (n0 c0 : Nat) (x1 : Option Addr) (n1 c1 : Nat) (x2 : Option Addr) (n2 c2 : Nat) (m : Mm) (t k : Int) (W : World) (h : MmAt K W p (.slice x0 n0 c0) (.slice x1 n1 c1) (.slice x2 n2 c2) m) (hl : szMm m ≤ 2000000) :
    SpDoes 60 #[.pointer (some ⟨p, 0, none⟩), .agg #[.int .i64 t, .int .i64 k]] W K p (movedM m t k).1 (.agg #[.int .i64 (movedM m t k).2.1, .int .i64 (movedM m t k).2.2]) := by
  have HM : Hid (MmAt K W p (.slice x0 n0 c0) (.slice x1 n1 c1) (.slice x2 n2 c2) m) := h
  have u4 : W.cell? ⟨p, 4, none⟩ = some (.int .i64 m.bad) := cell_at h.blk 4
  have hlt := h.lt
  have hKW : K ≤ W.heap.size := by have := h.low; omega
  have hol : m.cells.length ≤ 2000000 := by unfold szMm at hl; rw [szRowCe_len] at hl; omega
  obtain ⟨fu, hfu⟩ : ∃ f, Hid (m.fuel = f) := ⟨_, (rfl : m.fuel = m.fuel)⟩
  obtain ⟨bd, hbd⟩ : ∃ f, Hid (m.bad = f) := ⟨_, (rfl : m.bad = m.bad)⟩
  have HSee : Hid (∀ w', Box W (.cells #[.int .i64 t, .int .i64 k] 31 (0, 0)) w' → (w'.cell? ⟨p, 0, none⟩ = some (.slice x0 n0 c0) ∧ w'.cell? ⟨p, 1, none⟩ = some (.slice x1 n1 c1) ∧ w'.cell? ⟨p, 2, none⟩ = some (.slice x2 n2 c2) ∧ w'.cell? ⟨p, 3, none⟩ = some (.int .i64 fu) ∧ w'.cell? ⟨p, 4, none⟩ = some (.int .i64 bd)) ∧ w'.cell? ⟨W.heap.size, 0, none⟩ = some (.int .i64 t) ∧ w'.cell? ⟨W.heap.size, 1, none⟩ = some (.int .i64 k)) := fun w' hw => by
    have := SpSee.of h hw
    rw [hfu.out, hbd.out] at this
    exact this
  have cL : Hid (∀ w', Box W (.cells #[.int .i64 t, .int .i64 k] 31 (0, 0)) w' → Calls Try.prog 89 #[.agg #[.slice x0 n0 c0, .slice x1 n1 c1, .slice x2 n2 c2, .int .i64 fu, .int .i64 bd], .agg #[.int .i64 t, .int .i64 k]] w' fun e w2 => e = .returned (.bool (leadM m t k).isSome) ∧ Below w'.heap.size w' w2) := fun w' hw =>
    l09Live_any w'.heap.size m x0 n0 c0 _ _ fu bd t k w' (Nat.le_refl _) (h.below hw.below).row.1 hol
  rw [hbd.out] at u4
  have HL : Hid (szMm m ≤ 2000000) := hl
  have HX : Hid (W.heap.size + 1 ∉ fpOf (.slice x0 n0 c0) ∧ W.heap.size + 1 ∉ fpOf (.slice x1 n1 c1) ∧ W.heap.size + 1 ∉ fpOf (.slice x2 n2 c2)) := ⟨fun hm => by have := (OwnsR.lt h.cells _ hm).2; omega, fun hm => by have := (OwnsR.lt h.input _ hm).2; omega, fun hm => by have := (OwnsR.lt h.out _ hm).2; omega⟩
  clear h hl
  unfold SpDoes
  by_cases hb : bd = 0
  · subst hb
    by_cases ht : t = 2
    · subst ht
      have hle : leadM m 2 k = liveM m k := by unfold leadM; rw [if_pos (by omega)]
      cases hr : liveM m k with
      | none =>
        rw [hr] at hle
        have HS : Hid (movedM m 2 k = ({ m with bad := 5 }, 0, 0)) := by show _ = _; unfold movedM; rw [if_pos hbd.out, if_pos rfl, hr]
        rw [HS.out]
        rw [hle] at cL
        simp only [Option.isSome_none] at cL
        clear hr hle
        go_enter Try.func60, Try.ntmps60
        have B1 : Hid (Box W (.cells #[.int .i64 2, .int .i64 k] 31 (0, 0)) ((W.alloc (.cells #[.int .i64 2, .int .i64 k] 31 (0, 0))).alloc (.cells #[.int .i64 0, .int .i64 0] 31 (0, 0)))) := (Box.first _ _).alloc _
        have RB : Hid (((W.alloc (.cells #[.int .i64 2, .int .i64 k] 31 (0, 0))).alloc (.cells #[.int .i64 0, .int .i64 0] 31 (0, 0))).heap[W.heap.size + 1]? = some (.cells #[.int .i64 0, .int .i64 0] 31 (0, 0))) := by
          show _ = _
          have := heap_alloc_new (W.alloc (.cells #[.int .i64 2, .int .i64 k] 31 (0, 0))) (.cells #[.int .i64 0, .int .i64 0] 31 (0, 0))
          rw [show (W.alloc (.cells #[.int .i64 2, .int .i64 k] 31 (0, 0))).heap.size = W.heap.size + 1 by simp] at this
          exact this
        go_wp2_with fail
        generalize (W.alloc (.cells #[.int .i64 2, .int .i64 k] 31 (0, 0))).alloc (.cells #[.int .i64 0, .int .i64 0] 31 (0, 0)) = W1 at B1 RB ⊢
        have k1 := HSee.out _ B1.out
        have kd := HSee.out _ B1.out.drew
        have hW1 : W.heap.size + 1 < W1.heap.size := by
          rcases Nat.lt_or_ge (W.heap.size + 1) W1.heap.size with h | h
          · exact h
          · have := RB.out; rw [Array.getElem?_eq_none h] at this; cases this
        have HW1 : Hid (W.heap.size + 1 < W1.heap.size) := hW1
        clear hW1
        go_region_held3 (fun w' => (w'.cell? ⟨p, 0, none⟩ = some (.slice x0 n0 c0) ∧ w'.cell? ⟨p, 1, none⟩ = some (.slice x1 n1 c1) ∧ w'.cell? ⟨p, 2, none⟩ = some (.slice x2 n2 c2) ∧ w'.cell? ⟨p, 3, none⟩ = some (.int .i64 fu) ∧ w'.cell? ⟨p, 4, none⟩ = some (.int .i64 0)) ∧ w'.cell? ⟨W.heap.size, 0, none⟩ = some (.int .i64 2) ∧ w'.cell? ⟨W.heap.size, 1, none⟩ = some (.int .i64 k)) (first | with_reducible exact kA | with_reducible exact kd | with_reducible exact k1) ((go_at_call 89; refine Calls.mono (cL.out _ B1.out.drew) ?_; rintro e wA ⟨rfl, hA⟩; have BA := B1.out.drew.next hA; have kA := HSee.out _ BA; have RA : Hid (wA.heap[W.heap.size + 1]? = some (.cells #[.int .i64 0, .int .i64 0] 31 (0, 0)) ∧ W.heap.size + 1 < wA.heap.size) := ⟨(hA.block _ HW1.out).trans RB.out, Nat.lt_of_lt_of_le HW1.out hA.size⟩))
        have HW : Hid (MmAt K wA p (.slice x0 n0 c0) (.slice x1 n1 c1) (.slice x2 n2 c2) m) := HM.out.below BA.below
        have fr := free_at HW.out.blk 4
        have HF : Hid (MmAt K (wA.setCell ⟨p, 4, none⟩ (.int .i64 5)) p (.slice x0 n0 c0) (.slice x1 n1 c1) (.slice x2 n2 c2) { m with bad := 5 }) := HW.out.badTo 5
        have HBl : Hid (Below K W (wA.setCell ⟨p, 4, none⟩ (.int .i64 5))) := (BA.below.mono hKW).trans (HW.out.set_below 4 _)
        have a4 := kA.1.2.2.2.2
        have r0 := cell_at RA.out.1 0
        have r1 := cell_at RA.out.1 1
        have q0 := free_at RA.out.1 0
        have q1 := free_at RA.out.1 1
        simp at r0 r1
        have hne : ¬ W.heap.size + 1 = p := by omega
        clear cL HSee kA HW BA hA
        go_wp2
        obtain ⟨Z, hZ⟩ : ∃ Z, Z = (((wA.setCell ⟨p, 4, none⟩ (.int .i64 5)).setCell ⟨W.heap.size + 1, 0, none⟩ (.int .i64 0)).setCell ⟨W.heap.size + 1, 1, none⟩ (.int .i64 0)) := ⟨_, rfl⟩
        rw [← hZ]
        have h2 : Z.heap[W.heap.size + 1]? = some (.cells #[.int .i64 0, .int .i64 0] 31 (0, 0)) := by
          rw [hZ]
          exact heap_set (heap_set ((kept_set (by omega)).trans RA.out.1))
        have e0 := cell_at h2 0
        have e1 := cell_at h2 1
        simp at e0 e1
        have HZ : MmAt K Z p (.slice x0 n0 c0) (.slice x1 n1 c1) (.slice x2 n2 c2) { m with bad := 5 } := by
          rw [hZ]
          exact (HF.out.aside _ 0 _ (by omega) HX.out.1 HX.out.2.1 HX.out.2.2).aside _ 1 _ (by omega) HX.out.1 HX.out.2.1 HX.out.2.2
        have hZB : Below K W Z := by
          rw [hZ]
          exact (HBl.out.setCell (p := ⟨W.heap.size + 1, 0, none⟩) (by show K ≤ _; simp; omega) _).setCell (p := ⟨W.heap.size + 1, 1, none⟩) (by show K ≤ _; simp; omega) _
        refine bodyPost_ret (by simp [results, Try.results60, go_sem, e0, e1]; try rfl) rfl ?_
        exact ⟨rfl, ⟨_, _, _, _, _, _, _, _, _, HZ⟩, hZB⟩
      | some c =>
        rw [hr] at hle
        have HS : Hid (movedM m 2 k = (pushM (setM m k ⟨false, c.num⟩) c.num, 2, (m.cells.length : Int))) := by show _ = _; unfold movedM; rw [if_pos hbd.out, if_pos rfl, hr]
        rw [HS.out]
        rw [hle] at cL
        simp only [Option.isSome_some] at cL
        obtain ⟨j, rfl, hj, hc, hlv⟩ := lead_some hle
        obtain ⟨g, cap, e, hKg, hgW⟩ : ∃ g cap, Value.slice x0 n0 c0 = .slice (some ⟨g, 0, none⟩) m.cells.length cap ∧ K ≤ g ∧ g < W.heap.size := by
          rcases HM.out.form with ⟨e, _⟩ | h
          · rw [e] at hj; simp at hj
          · exact h
        obtain ⟨rfl, hn, rfl⟩ : x0 = some ⟨g, 0, none⟩ ∧ n0 = m.cells.length ∧ c0 = cap := by simpa using e
        have hj0 : (0 : Int) ≤ (j : Int) := by omega
        have hj1 : (j : Int) < (n0 : Int) := by omega
        have hn2 : n0 ≤ 2000000 := by omega
        have HN : Hid (n0 = m.cells.length) := hn
        have HJ : Hid (∃ hj : j < m.cells.length, m.cells[j] = c) := ⟨hj, hc⟩
        rw [← HN.out]
        obtain ⟨lv, nu⟩ := c
        simp only at hlv
        subst hlv
        have HFr : Hid (∀ Z, MmAt K Z p (.slice (some ⟨g, 0, none⟩) n0 c0) (.slice x1 n1 c1) (.slice x2 n2 c2) (setM m (j : Int) ⟨false, nu⟩) → Calls Try.prog 59 #[.pointer (some ⟨p, 0, none⟩), .int .i64 nu] Z fun e w' => (e = .returned (.agg #[.int .i64 2, .int .i64 (n0 : Int)]) ∧ (∃ y0 m0 d0, MmAt K w' p (.slice y0 m0 d0) (.slice x1 n1 c1) (.slice x2 n2 c2) (pushM (setM m (j : Int) ⟨false, nu⟩) nu) ∧ ∀ x ∈ fpOf (.slice y0 m0 d0), x ∈ fpOf (.slice (some ⟨g, 0, none⟩) n0 c0) ∨ Z.heap.size ≤ x) ∧ Below K Z w') ∧ (∀ x, x < Z.heap.size → x ≠ p → x ∉ fpOf (.slice (some ⟨g, 0, none⟩) n0 c0) → w'.heap[x]? = Z.heap[x]?) ∧ Z.heap.size ≤ w'.heap.size) := fun Z hZ => by
          have h1 := l09Fresh_any K p _ _ _ _ _ _ _ _ _ (setM m (j : Int) ⟨false, nu⟩) nu Z hZ (by
            unfold szMm setM
            rw [szRowCe_len, List.length_set]
            have := HL.out
            unfold szMm at this
            rw [szRowCe_len] at this
            exact this)
          have e1 : freshM (setM m (j : Int) ⟨false, nu⟩) nu = (pushM (setM m (j : Int) ⟨false, nu⟩) nu, 2, (n0 : Int)) := by
            unfold freshM
            rw [if_pos (show (setM m (j : Int) ⟨false, nu⟩).bad = 0 from hbd.out)]
            unfold setM
            simp only [List.length_set]
            rw [HN.out]
          rw [e1] at h1
          exact h1
        clear hr hle e hn hj hc hol HS
        go_enter Try.func60, Try.ntmps60
        have B1 : Hid (Box W (.cells #[.int .i64 2, .int .i64 (j : Int)] 31 (0, 0)) ((W.alloc (.cells #[.int .i64 2, .int .i64 (j : Int)] 31 (0, 0))).alloc (.cells #[.int .i64 0, .int .i64 0] 31 (0, 0)))) := (Box.first _ _).alloc _
        have RB : Hid (((W.alloc (.cells #[.int .i64 2, .int .i64 (j : Int)] 31 (0, 0))).alloc (.cells #[.int .i64 0, .int .i64 0] 31 (0, 0))).heap[W.heap.size + 1]? = some (.cells #[.int .i64 0, .int .i64 0] 31 (0, 0))) := by
          show _ = _
          have := heap_alloc_new (W.alloc (.cells #[.int .i64 2, .int .i64 (j : Int)] 31 (0, 0))) (.cells #[.int .i64 0, .int .i64 0] 31 (0, 0))
          rw [show (W.alloc (.cells #[.int .i64 2, .int .i64 (j : Int)] 31 (0, 0))).heap.size = W.heap.size + 1 by simp] at this
          exact this
        go_wp2_with fail
        generalize (W.alloc (.cells #[.int .i64 2, .int .i64 (j : Int)] 31 (0, 0))).alloc (.cells #[.int .i64 0, .int .i64 0] 31 (0, 0)) = W1 at B1 RB ⊢
        have k1 := HSee.out _ B1.out
        have kd := HSee.out _ B1.out.drew
        have hW1 : W.heap.size + 1 < W1.heap.size := by
          rcases Nat.lt_or_ge (W.heap.size + 1) W1.heap.size with h | h
          · exact h
          · have := RB.out; rw [Array.getElem?_eq_none h] at this; cases this
        have HW1 : Hid (W.heap.size + 1 < W1.heap.size) := hW1
        clear hW1
        go_region_held3 (fun w' => (w'.cell? ⟨p, 0, none⟩ = some (.slice (some ⟨g, 0, none⟩) n0 c0) ∧ w'.cell? ⟨p, 1, none⟩ = some (.slice x1 n1 c1) ∧ w'.cell? ⟨p, 2, none⟩ = some (.slice x2 n2 c2) ∧ w'.cell? ⟨p, 3, none⟩ = some (.int .i64 fu) ∧ w'.cell? ⟨p, 4, none⟩ = some (.int .i64 0)) ∧ w'.cell? ⟨W.heap.size, 0, none⟩ = some (.int .i64 2) ∧ w'.cell? ⟨W.heap.size, 1, none⟩ = some (.int .i64 (j : Int))) (first | with_reducible exact kA | with_reducible exact kd | with_reducible exact k1) ((go_at_call 89; refine Calls.mono (cL.out _ B1.out.drew) ?_; rintro e wA ⟨rfl, hA⟩; have BA := B1.out.drew.next hA; have kA := HSee.out _ BA; have RA : Hid (wA.heap[W.heap.size + 1]? = some (.cells #[.int .i64 0, .int .i64 0] 31 (0, 0)) ∧ W.heap.size + 1 < wA.heap.size) := ⟨(hA.block _ HW1.out).trans RB.out, Nat.lt_of_lt_of_le HW1.out hA.size⟩))
        have HW : Hid (MmAt K wA p (.slice (some ⟨g, 0, none⟩) n0 c0) (.slice x1 n1 c1) (.slice x2 n2 c2) m) := HM.out.below BA.below
        have hcells : wA.cell? ⟨g, j * 2, none⟩ = some (.bool true) ∧ wA.cell? ⟨g, j * 2 + 1, none⟩ = some (.int .i64 nu) := by
          obtain ⟨hj, hc⟩ := HJ.out
          have h0 := OwnsR.cell CeR.len HW.out.cells HN.out j 0 hj (by decide)
          have h1 := OwnsR.cell CeR.len HW.out.cells HN.out j 1 hj (by decide)
          rw [hc] at h0 h1
          exact ⟨h0, h1⟩
        obtain ⟨y0, y1⟩ := hcells
        have a0 := kA.1.1
        have b1 := kA.2.2
        have HBl : Hid (Below K W wA) := BA.below.mono hKW
        have fr : wA.frozen? ⟨g, j * 2, none⟩ = false := OwnsR.free HW.out.cells HN.out _
        clear cL HSee kA BA hA
        go_wp2_with fail
        go_quiet (fail)
        go_wp2_with fail
        go_region
        go_wp2_with fail
        have HF : Hid (MmAt K ((wA.drewN (nq + 1)).setCell ⟨g, j * 2, none⟩ (.bool false)) p (.slice (some ⟨g, 0, none⟩) n0 c0) (.slice x1 n1 c1) (.slice x2 n2 c2) (setM m (j : Int) ⟨false, nu⟩)) := by
          obtain ⟨hj, hc⟩ := HJ.out
          exact (HW.out.below (below_drewN (Below.refl _ _) _)).cellTo j 0 hj (by decide) ⟨false, nu⟩ (.bool false) (by rw [hc]; rfl)
        have HB2 : Hid (Below K W ((wA.drewN (nq + 1)).setCell ⟨g, j * 2, none⟩ (.bool false))) := (below_drewN HBl.out _).setCell (p := ⟨g, j * 2, none⟩) hKg _
        have RF : Hid (((wA.drewN (nq + 1)).setCell ⟨g, j * 2, none⟩ (.bool false)).heap[W.heap.size + 1]? = some (.cells #[.int .i64 0, .int .i64 0] 31 (0, 0)) ∧ W.heap.size + 1 < ((wA.drewN (nq + 1)).setCell ⟨g, j * 2, none⟩ (.bool false)).heap.size) := ⟨(kept_set (by omega)).trans RA.out.1, by simpa using RA.out.2⟩
        clear y0 y1 a0 b1 fr HW HBl RA HJ HN
        generalize (wA.drewN (nq + 1)).setCell ⟨g, j * 2, none⟩ (.bool false) = WX at HF HB2 RF ⊢
        go_at_call 59
        refine Calls.mono (HFr.out _ HF.out) ?_
        rintro e wB ⟨⟨rfl, hex, hbB⟩, hold, hsz⟩
        obtain ⟨z0, m0, d0, hM, hfp⟩ := hex
        have RG : Hid (wB.heap[W.heap.size + 1]? = some (.cells #[.int .i64 0, .int .i64 0] 31 (0, 0))) := (hold _ RF.out.2 (by omega) HX.out.1).trans RF.out.1
        have HM2 : Hid (MmAt K wB p (.slice z0 m0 d0) (.slice x1 n1 c1) (.slice x2 n2 c2) (pushM (setM m (j : Int) ⟨false, nu⟩) nu)) := hM
        have HB3 : Hid (Below K W wB) := HB2.out.trans hbB
        have r0 := cell_at RG.out 0
        have r1 := cell_at RG.out 1
        have q0 := free_at RG.out 0
        have q1 := free_at RG.out 1
        simp at r0 r1
        have HY : Hid (W.heap.size + 1 ∉ fpOf (.slice z0 m0 d0)) := fun hm => (hfp _ hm).elim (fun h1 => HX.out.1 h1) (fun h1 => by have := RF.out.2; omega)
        clear HFr hM hbB hold hsz HF HB2 RF hfp
        go_wp2
        obtain ⟨Z, hZ⟩ : ∃ Z, Z = ((wB.setCell ⟨W.heap.size + 1, 0, none⟩ (.int .i64 2)).setCell ⟨W.heap.size + 1, 1, none⟩ (.int .i64 (n0 : Int))) := ⟨_, rfl⟩
        rw [← hZ]
        have h2 : Z.heap[W.heap.size + 1]? = some (.cells #[.int .i64 2, .int .i64 (n0 : Int)] 31 (0, 0)) := by
          rw [hZ]
          exact heap_set (heap_set RG.out)
        have e0 := cell_at h2 0
        have e1 := cell_at h2 1
        simp at e0 e1
        have HZ : MmAt K Z p (.slice z0 m0 d0) (.slice x1 n1 c1) (.slice x2 n2 c2) (pushM (setM m (j : Int) ⟨false, nu⟩) nu) := by
          rw [hZ]
          exact (HM2.out.aside _ 0 _ (by omega) HY.out HX.out.2.1 HX.out.2.2).aside _ 1 _ (by omega) HY.out HX.out.2.1 HX.out.2.2
        have hZB : Below K W Z := by
          rw [hZ]
          exact (HB3.out.setCell (p := ⟨W.heap.size + 1, 0, none⟩) (by show K ≤ _; simp; omega) _).setCell (p := ⟨W.heap.size + 1, 1, none⟩) (by show K ≤ _; simp; omega) _
        refine bodyPost_ret (by simp [results, Try.results60, go_sem, e0, e1]; try rfl) rfl ?_
        exact ⟨rfl, ⟨_, _, _, _, _, _, _, _, _, HZ⟩, hZB⟩
    · have HS : Hid (movedM m t k = (m, t, k)) := by show _ = _; unfold movedM; rw [if_pos hbd.out, if_neg ht]
      rw [HS.out]
      clear HS cL HSee
      go_enter Try.func60, Try.ntmps60
      go_wp2
      go_returns
      exact ⟨rfl, ⟨_, _, _, _, _, _, _, _, _, HM.out.below (by go_grown)⟩, by go_grown⟩
  · have HS : Hid (movedM m t k = (m, 0, 0)) := by show _ = _; unfold movedM; rw [if_neg (by rw [hbd.out]; exact hb)]
    rw [HS.out]
    clear HS cL HSee
    go_enter Try.func60, Try.ntmps60
    go_wp2
    go_returns
    exact ⟨rfl, ⟨_, _, _, _, _, _, _, _, _, HM.out.below (by go_grown)⟩, by go_grown⟩

end Go.Proofs.Ytabejilnpblogaa
