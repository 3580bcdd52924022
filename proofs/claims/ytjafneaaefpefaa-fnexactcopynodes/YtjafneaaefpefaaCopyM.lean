/-
  CopyNodes, in the program: what it answers at every program, place and row of nodes.
-/
import Derived.Test.YtjafneaaefpefaaCopyN
import Derived.Test.YtjafneaaefpefaaAnew
import Derived.Test.YtjafneaaefpefaaPackJ
namespace Go.Proofs.Ytjafneaaefpefaa
open Go.RowKit

set_option maxRecDepth 100000 in
set_option maxHeartbeats 6400000 in
theorem implCopyNodes_any (v0 v1 u : Value) (ns ms : List Nd) (k : Int) (w : World) (hR : NdR.Row w w.heap.size v0 ns) (hS : NdR.Row w w.heap.size u ms) (hl : szRow szNd ns ≤ 1048576) (hl2 : szRow szNd ms ≤ 1048576) (xs : List Nd) (z : Int) (hz : Hid (copyAns ns ms k = (xs, z))) :
    Calls Try.prog 38 #[.agg #[v0, v1], .int .i64 k, u] w (CopyRes xs z w) := by
  obtain ⟨na, nc, rfl⟩ := hR.len
  obtain ⟨ma, mc, rfl⟩ := hS.len
  obtain ⟨N, HN⟩ : ∃ N, Hid (ns.length = N) := ⟨_, (rfl : ns.length = ns.length)⟩
  obtain ⟨M, HM⟩ : ∃ M, Hid (ms.length = M) := ⟨_, (rfl : ms.length = ms.length)⟩
  have HV : Hid (NdR.Row w w.heap.size (.slice na N nc) ns ∧ NdR.Row w w.heap.size (.slice ma M mc) ms) := by rw [← HN.out, ← HM.out]; exact ⟨hR, hS⟩
  have HL : Hid (szRow szNd ns ≤ 1048576 ∧ szRow szNd ms ≤ 1048576) := ⟨hl, hl2⟩
  have hNl : N ≤ 1048576 := by have := len_szRow szNd ns; have := HN.out; omega
  have hMl : M ≤ 1048576 := by have := len_szRow szNd ms; have := HM.out; omega
  rw [HN.out, HM.out]
  obtain ⟨d, hd⟩ : ∃ d, Hid (deepOf ns k = d) := ⟨_, (rfl : deepOf ns k = deepOf ns k)⟩
  have cD : Hid (∀ W, Below w.heap.size w W → Calls Try.prog 25 #[.slice na N nc, .int .i64 k] W fun e w' => e = .returned (.int .i64 d) ∧ Below W.heap.size W w') := fun W hW => by
    rw [← hd.out]
    exact implDeepOf_any _ ns _ W ((HV.out.1.keep hW).up hW.size) HL.out.1
  have cN : Hid (∀ W, Below w.heap.size w W → Calls Try.prog 78 #[.slice ma M mc] W fun e w' => ∃ a n c, e = .returned (.slice a n c) ∧ (∃ ps, ps.map Prod.fst = ms ∧ Grows W w' (.slice a n c) ps)) := fun W hW => by
    exact nodesAnew_any (.slice ma M mc) ms W ((HV.out.2.keep hW).up hW.size) HL.out.2
  clear hR hS hl hl2
  go_enter Try.func38, Try.ntmps38
  go_wp2_with fail
  go_at_call 25
  refine Calls.mono (cD.out _ (by go_grown)) ?_
  rintro e w1 ⟨rfl, hb1⟩
  have P1 : Hid (Box w (.cells #[.slice na N nc, v1] 39) w1) := (Box.first _ _).next hb1
  clear hb1 cD
  have HNO : Hid ((xs, z) = (ms, (-1 : Int)) → ∀ W W' a n c, Below w.heap.size w W → (∃ ps, ps.map Prod.fst = ms ∧ Grows W W' (.slice a n c) ps) → CopyRes xs z w (.returned (.tuple #[.slice a n c, .int .i64 (-1)])) W') := by
    rintro hc W W' a n c hW ⟨ps, hps, hg⟩
    cases hc
    refine ⟨_, _, _, rfl, ?_, hW.trans (hg.below.mono hW.size)⟩
    have h1 := hg.own
    rw [hps] at h1
    exact h1.wide hW.size (Nat.le_refl _)
  by_cases hdz : d = 0
  · have HC : Hid ((xs, z) = (ms, (-1 : Int))) := hz.out.symm.trans (copyAns_zero (by rw [hd.out]; exact hdz))
    subst hdz
    go_wp2_with fail
    go_at_call 78
    refine Calls.mono (cN.out _ P1.out.below) ?_
    rintro e w2 ⟨a, n, c, rfl, hg⟩
    have HF : Hid (CopyRes xs z w (.returned (.tuple #[.slice a n c, .int .i64 (-1)])) w2) := HNO.out HC.out _ _ _ _ _ P1.out.below hg
    clear hg HNO
    go_wp2
    go_ret2
    exact HF.out
  have hd1 : (d == 0) = false := by simpa using hdz
  have p0 := P1.out.cell 0
  simp at p0
  have hp1 : w.heap.size < w1.heap.size := P1.out.lt
  go_wp2_with fail
  have hA : Below w.heap.size w w1.drew := P1.out.below.drew
  have hB : Below w.heap.size w (w1.alloc (.cells #[.slice none 0 0, .slice none 0 0] 101)).drew := (P1.out.below.alloc (Nat.le_of_lt hp1) _).drew
  have hq1 : w1.heap.size < (w1.alloc (.cells #[.slice none 0 0, .slice none 0 0] 101)).drew.heap.size := by show w1.heap.size < (w1.alloc (.cells #[.slice none 0 0, .slice none 0 0] 101)).heap.size; simp
  have HA : Hid (∀ w2 v ps, Grows w1.drew w2 v ps → w2.cell? ⟨w.heap.size, 0, none⟩ = some (.slice na N nc) ∧ w.heap.size < w2.heap.size ∧ ¬ w.heap.size = w2.heap.size) := fun w2 v ps h => ⟨(h.below.cell (p := ⟨w.heap.size, 0, none⟩) hp1).trans p0, Nat.lt_of_lt_of_le hp1 h.below.size, Nat.ne_of_lt (Nat.lt_of_lt_of_le hp1 h.below.size)⟩
  have HB : Hid (∀ w2 v ps, Grows (w1.alloc (.cells #[.slice none 0 0, .slice none 0 0] 101)).drew w2 v ps → w2.cell? ⟨w.heap.size, 0, none⟩ = some (.slice na N nc) ∧ w2.cell? ⟨w1.heap.size, 0, none⟩ = some (.slice none 0 0) ∧ w2.cell? ⟨w1.heap.size, 1, none⟩ = some (.slice none 0 0) ∧ w2.frozen? ⟨w1.heap.size, 0, none⟩ = false ∧ w2.frozen? ⟨w1.heap.size, 1, none⟩ = false) := fun w2 v ps h => by
    have hX2 : w2.heap[w1.heap.size]? = some (.cells #[.slice none 0 0, .slice none 0 0] 101) := (h.below.block w1.heap.size hq1).trans (heap_alloc_new w1 (.cells #[.slice none 0 0, .slice none 0 0] 101))
    refine ⟨(h.below.cell (p := ⟨w.heap.size, 0, none⟩) (Nat.lt_trans hp1 hq1)).trans ((World.cell?_alloc_past (.cells #[.slice none 0 0, .slice none 0 0] 101) w.heap.size 0 hp1).trans p0), cell_at hX2 0, cell_at hX2 1, free_at hX2 0, free_at hX2 1⟩
  have hn1 : ¬ w.heap.size = w1.heap.size := by omega
  have hn2 : ¬ w1.heap.size = w.heap.size := by omega
  go_region_held3 (fun w' => w'.cell? ⟨w.heap.size, 0, none⟩ = some (.slice na N nc)) (first | exact p2 | exact p0 | go_keep | (rw [cell_eqA (kept_set hn1), cell_eqA (kept_set hn1)]; exact p2)) ((go_at_call 78; refine Calls.mono (cN.out _ ?_) ?_; (first | exact hA | exact hB); rintro e w2 ⟨a, n, c, rfl, ps, hps, hg⟩; (first | (have hh := HA.out _ _ _ hg; obtain ⟨p2, hl2, hl3⟩ := hh) | (have hh := HB.out _ _ _ hg; obtain ⟨p2, z0, z1, fz0, fz1⟩ := hh))))
  have HPI : Hid (PutIn w2.heap.size w1.heap.size (.cells #[.slice na N nc, .slice a n c] 101) (w2.alloc (.cells #[.slice na N nc, .slice a n c] 101)) (.slice a n c) ps) := by
    have hb : Below w2.heap.size w2 (w2.alloc (.cells #[.slice na N nc, .slice a n c] 101)) := by go_grown
    refine ⟨heap_alloc_new _ _, hg.below.size, fun hm => ?_, hg.phys.below hb, hg.nd⟩
    have := (hg.phys.lt _ hm).2
    omega
  have HB3 : Hid (Below w.heap.size w (w2.alloc (.cells #[.slice na N nc, .slice a n c] 101))) := by
    have h2 : Below w.heap.size w w2 := hA.trans (hg.below.mono hA.size)
    exact h2.alloc h2.size _
  have HPS : Hid (ps.map Prod.fst = ms) := hps
  clear hg hps hl2 hl3 p2
  generalize w2.alloc (.cells #[.slice na N nc, .slice a n c] 101) = W3 at HPI HB3 ⊢
  generalize w2.heap.size = x at HPI ⊢
  rotate_left
  have HPI : Hid (PutIn w1.heap.size w1.heap.size (.cells #[.slice na N nc, .slice a n c] 101) ((w2.setCell ⟨w1.heap.size, 0, none⟩ (.slice na N nc)).setCell ⟨w1.heap.size, 1, none⟩ (.slice a n c)) (.slice a n c) ps) := by
    have hX2 : w2.heap[w1.heap.size]? = some (.cells #[.slice none 0 0, .slice none 0 0] 101) := (hg.below.block w1.heap.size hq1).trans (heap_alloc_new w1 (.cells #[.slice none 0 0, .slice none 0 0] 101))
    have hX3 := Lib.heap_setCell_same (i := 0) hX2 (.slice na N nc)
    have hX4 := Lib.heap_setCell_same (i := 1) hX3 (.slice a n c)
    have hlo : ∀ g ∈ fps (NdR.all (.slice a n c) ps), w1.heap.size + 1 ≤ g := fun g hm => by
      have h1 : (w1.alloc (.cells #[.slice none 0 0, .slice none 0 0] 101)).drew.heap.size ≤ g := (hg.phys.lt g hm).1
      have h2 : (w1.alloc (.cells #[.slice none 0 0, .slice none 0 0] 101)).drew.heap.size = w1.heap.size + 1 := by show (w1.alloc (.cells #[.slice none 0 0, .slice none 0 0] 101)).heap.size = _; simp
      omega
    refine ⟨by simpa using hX4, Nat.le_refl _, fun hm => by have := hlo _ hm; omega, ?_, hg.nd⟩
    refine (hg.phys.same (fun g hm => ?_)).base (fun g hm => by have := hlo g hm; omega)
    have := hlo g hm
    rw [kept_set (by omega), kept_set (by omega)]
  have HB3 : Hid (Below w.heap.size w ((w2.setCell ⟨w1.heap.size, 0, none⟩ (.slice na N nc)).setCell ⟨w1.heap.size, 1, none⟩ (.slice a n c))) := by
    have h2 : Below w.heap.size w w2 := hB.trans (hg.below.mono hB.size)
    exact (h2.setCell (p := ⟨w1.heap.size, 0, none⟩) (Nat.le_of_lt hp1) _).setCell (p := ⟨w1.heap.size, 1, none⟩) (Nat.le_of_lt hp1) _
  have HPS : Hid (ps.map Prod.fst = ms) := hps
  clear hg hps z0 z1 fz0 fz1 p2
  generalize (w2.setCell ⟨w1.heap.size, 0, none⟩ (.slice na N nc)).setCell ⟨w1.heap.size, 1, none⟩ (.slice a n c) = W3 at HPI HB3 ⊢
  generalize hx0 : w1.heap.size = x at ⊢
  rw [hx0] at hn1 hn2 hp1
  replace HPI : Hid (PutIn x w1.heap.size (.cells #[.slice na N nc, .slice a n c] 101) W3 (.slice a n c) ps) := by rw [← hx0]; exact HPI
  rotate_left
  all_goals
    obtain ⟨T, HT⟩ : ∃ T : Nat, Hid (10 = T) := ⟨10, (rfl : 10 = 10)⟩
    have hnp : n = ps.length := by
      rcases OwnsR.form HPI.out.phys.1 with ⟨h0, h1⟩ | ⟨g0, c0, h0, _⟩
      · injection h0 with _ h2 _
        rw [h2, h1]; rfl
      · injection h0
    have hPL : ps.length = M := by have := congrArg List.length HPS.out; simp at this; rw [this, HM.out]
    have HPL : Hid (ps.length = M ∧ n = M) := ⟨hPL, by omega⟩
    have hw13 : w.heap.size ≤ w1.heap.size := P1.out.below.size
    have cP : Hid (Calls Try.prog 79 #[.pointer (some ⟨x, 0, none⟩), .int .i64 k, .int .i64 10] W3 (CopyPost ns x w1.heap.size N nc na T k W3 (.slice a n c) ps)) := by
      have h1 := copyPut_any ns x w1.heap.size N nc na HN (fun q hq => ⟨Nat.le_trans (Nat.le_trans (le_szNd_kids q) (mem_szRow szNd hq)) HL.out.1, Nat.le_trans (Nat.le_trans (le_szNd_name q) (mem_szRow szNd hq)) HL.out.1⟩) T (by have := HT.out; omega) k W3 a c ps (by have := HPI.out.lb; have := heap_in HPI.out.at_; omega) ((HV.out.1.keep HB3.out).up hw13) (by rw [← hnp]; exact HPI.out) (by omega)
      rw [← hnp, show (T : Int) = 10 by have := HT.out; omega] at h1
      exact h1
    clear p0 hA hB hq1 hnp hPL HA HB
    go_wp2_with fail
    go_at_call 79
    refine Calls.mono cP.out ?_
    rintro e w4 ⟨va, vc, ps', hI4, hT4, hl4, hP4⟩
    have B4 : Hid (Below w.heap.size w w4) := HB3.out.trans ((hT4.below HPI.out).mono hw13)
    rcases hP4 with ⟨⟨r1, r2⟩, hr, hrp, rfl⟩ | ⟨hno, rfl⟩
    · obtain ⟨L, HL4⟩ : ∃ n, Hid (ps'.length = n) := ⟨_, (rfl : ps'.length = ps'.length)⟩
      have g1 := cell_at hI4.at_ 1
      simp at g1
      rw [HL4.out] at g1
      have HF : Hid (CopyRes xs z w (.returned (.tuple #[.slice va L vc, .int .i64 r2])) w4) := by
        have h2 := hz.out.symm.trans (copyAns_some (by rw [hd.out]; exact hdz) (by rw [HT.out, ← HPS.out]; exact hr))
        cases h2
        refine ⟨va, L, vc, rfl, ?_, B4.out⟩
        have h1 := hI4.own (B0 := w.heap.size) hw13
        rw [HL4.out, hrp] at h1
        exact h1
      clear hI4 hT4 hl4 hr hrp cP HNO
      simp only
      go_wp2
      go_ret2
      exact HF.out
    · have HC : Hid ((xs, z) = (ms, (-1 : Int))) := hz.out.symm.trans (copyAns_none (by rw [HT.out, ← HPS.out]; exact hno))
      clear hI4 hT4 hl4 hno cP
      go_wp2_with fail
      go_at_call 78
      refine Calls.mono (cN.out _ B4.out) ?_
      rintro e w5 ⟨a5, n5, c5, rfl, hg⟩
      have HF : Hid (CopyRes xs z w (.returned (.tuple #[.slice a5 n5 c5, .int .i64 (-1)])) w5) := HNO.out HC.out _ _ _ _ _ B4.out hg
      clear hg HNO
      go_wp2
      go_ret2
      exact HF.out

end Go.Proofs.Ytjafneaaefpefaa
