/-
  The program's memory: Fresh. Written by mkimxx.py.
-/
import Derived.Test.YtabejilnpblogaaImChFresh
namespace Go.Proofs.Ytabejilnpblogaa
open Go.RowKit

set_option maxRecDepth 100000 in
set_option maxHeartbeats 3200000 in
theorem implFresh_any (B : Nat) (m : Mm) (s0 : Option Addr) (N0 k0 : Nat) (s1 : Option Addr) (N1 k1 : Nat) (s2 : Option Addr) (N2 k2 : Nat) (k : Int) (w : World) (hB : B ≤ w.heap.size) (ha : RowMm w B (.slice s0 N0 k0) (.slice s1 N1 k1) (.slice s2 N2 k2) m) (hn : nilOk (.slice s0 N0 k0) ∧ nilOk (.slice s1 N1 k1) ∧ nilOk (.slice s2 N2 k2)) (hl : szMm m ≤ 1048576) :
    Calls Try.prog 9 #[.agg #[.slice s0 N0 k0, .slice s1 N1 k1, .slice s2 N2 k2, .int .i64 m.fuel, .int .i64 m.bad], .int .i64 k] w fun e w' => ∃ a n c a1 n1 c1 a2 n2 c2, e = .returned (.tuple #[.agg #[.slice a n c, .slice a1 n1 c1, .slice a2 n2 c2, .int .i64 ((freshM m k).1).fuel, .int .i64 ((freshM m k).1).bad], .agg #[.int .i64 (freshM m k).2.1, .int .i64 (freshM m k).2.2]]) ∧ OwnMm w' w.heap.size w'.heap.size (.slice a n c) (.slice a1 n1 c1) (.slice a2 n2 c2) ((freshM m k).1) ∧ Below w.heap.size w w' := by
  obtain ⟨fu, hfu⟩ : ∃ f, Hid (m.fuel = f) := ⟨_, (rfl : m.fuel = m.fuel)⟩
  obtain ⟨bd, hbd⟩ : ∃ f, Hid (m.bad = f) := ⟨_, (rfl : m.bad = m.bad)⟩
  have L0 : Hid (Laid w [(.cells #[.slice s0 N0 k0, .slice s1 N1 k1, .slice s2 N2 k2, .int .i64 fu, .int .i64 bd] 27 (0, 0)), (.cells #[.int .i64 k] 3 (0, 0)), (.cells #[.slice none 0 0, .slice none 0 0, .slice none 0 0, .int .i64 0, .int .i64 0] 27 (0, 0)), (.cells #[.int .i64 0, .int .i64 0] 31 (0, 0)), (.cells #[.int .i64 0, .int .i64 0] 31 (0, 0))] (((((w.alloc (.cells #[.slice s0 N0 k0, .slice s1 N1 k1, .slice s2 N2 k2, .int .i64 fu, .int .i64 bd] 27 (0, 0))).alloc (.cells #[.int .i64 k] 3 (0, 0))).alloc (.cells #[.slice none 0 0, .slice none 0 0, .slice none 0 0, .int .i64 0, .int .i64 0] 27 (0, 0))).alloc (.cells #[.int .i64 0, .int .i64 0] 31 (0, 0))).alloc (.cells #[.int .i64 0, .int .i64 0] 31 (0, 0)))) := (allocs_laid [(.cells #[.slice s0 N0 k0, .slice s1 N1 k1, .slice s2 N2 k2, .int .i64 fu, .int .i64 bd] 27 (0, 0)), (.cells #[.int .i64 k] 3 (0, 0)), (.cells #[.slice none 0 0, .slice none 0 0, .slice none 0 0, .int .i64 0, .int .i64 0] 27 (0, 0)), (.cells #[.int .i64 0, .int .i64 0] 31 (0, 0)), (.cells #[.int .i64 0, .int .i64 0] 31 (0, 0))] w).1
  have hz0 : (((((w.alloc (.cells #[.slice s0 N0 k0, .slice s1 N1 k1, .slice s2 N2 k2, .int .i64 fu, .int .i64 bd] 27 (0, 0))).alloc (.cells #[.int .i64 k] 3 (0, 0))).alloc (.cells #[.slice none 0 0, .slice none 0 0, .slice none 0 0, .int .i64 0, .int .i64 0] 27 (0, 0))).alloc (.cells #[.int .i64 0, .int .i64 0] 31 (0, 0))).alloc (.cells #[.int .i64 0, .int .i64 0] 31 (0, 0))).heap.size = w.heap.size + 5 := (allocs_laid [(.cells #[.slice s0 N0 k0, .slice s1 N1 k1, .slice s2 N2 k2, .int .i64 fu, .int .i64 bd] 27 (0, 0)), (.cells #[.int .i64 k] 3 (0, 0)), (.cells #[.slice none 0 0, .slice none 0 0, .slice none 0 0, .int .i64 0, .int .i64 0] 27 (0, 0)), (.cells #[.int .i64 0, .int .i64 0] 31 (0, 0)), (.cells #[.int .i64 0, .int .i64 0] 31 (0, 0))] w).2
  have HZ0 : Hid ((((((w.alloc (.cells #[.slice s0 N0 k0, .slice s1 N1 k1, .slice s2 N2 k2, .int .i64 fu, .int .i64 bd] 27 (0, 0))).alloc (.cells #[.int .i64 k] 3 (0, 0))).alloc (.cells #[.slice none 0 0, .slice none 0 0, .slice none 0 0, .int .i64 0, .int .i64 0] 27 (0, 0))).alloc (.cells #[.int .i64 0, .int .i64 0] 31 (0, 0))).alloc (.cells #[.int .i64 0, .int .i64 0] 31 (0, 0))).heap.size = w.heap.size + 5) := hz0
  have cH := chFresh_any B m s0 N0 k0 s1 N1 k1 s2 N2 k2 k (w.heap.size + 1) (w.heap.size + 4) (((((w.alloc (.cells #[.slice s0 N0 k0, .slice s1 N1 k1, .slice s2 N2 k2, .int .i64 fu, .int .i64 bd] 27 (0, 0))).alloc (.cells #[.int .i64 k] 3 (0, 0))).alloc (.cells #[.slice none 0 0, .slice none 0 0, .slice none 0 0, .int .i64 0, .int .i64 0] 27 (0, 0))).alloc (.cells #[.int .i64 0, .int .i64 0] 31 (0, 0))).alloc (.cells #[.int .i64 0, .int .i64 0] 31 (0, 0))) (Nat.le_trans hB L0.out.low.size) (ha.keep (L0.out.low.mono hB)) hn hl (L0.out.at_ 1 _ rfl) (L0.out.at_ 4 _ rfl)
  obtain ⟨M, hM⟩ : ∃ M, Hid ((freshM m k).1 = M) := ⟨_, (rfl : (freshM m k).1 = (freshM m k).1)⟩
  rw [hM.out] at cH ⊢
  rw [hfu.out, hbd.out] at cH ⊢
  obtain ⟨r0, hr0⟩ : ∃ r, Hid ((freshM m k).2.1 = r) := ⟨_, (rfl : (freshM m k).2.1 = _)⟩
  rw [hr0.out] at cH ⊢
  obtain ⟨r1, hr1⟩ : ∃ r, Hid ((freshM m k).2.2 = r) := ⟨_, (rfl : (freshM m k).2.2 = _)⟩
  rw [hr1.out] at cH ⊢
  have CH : Hid _ := cH
  clear ha hn hl hz0 cH
  go_enter Try.func9, Try.ntmps9
  go_wp2_with fail
  go_at_call 44
  refine Calls.mono CH.out ?_
  rintro e wE ⟨a, n, c, a1, n1, c1, a2, n2, c2, rfl, hO, hr, hb⟩
  rw [HZ0.out] at hO hb
  have HO : Hid (OwnMm wE (w.heap.size + 5) wE.heap.size (.slice a n c) (.slice a1 n1 c1) (.slice a2 n2 c2) M) := hO
  have BE : Hid (Below w.heap.size w wE) := L0.out.low.trans ⟨hb.os, hb.tape, hb.output, hb.size, fun g hg => hb.block g (by omega) (by omega)⟩
  have hsE : w.heap.size + 5 ≤ wE.heap.size := by have h1 := hb.size; have h2 := HZ0.out; omega
  have HR0 : Hid (wE.heap[w.heap.size + 2]? = some (.cells #[.slice none 0 0, .slice none 0 0, .slice none 0 0, .int .i64 0, .int .i64 0] 27 (0, 0))) := (hb.block _ (by omega) (by omega)).trans (L0.out.at_ 2 _ rfl)
  have HB0 : Hid (wE.heap[w.heap.size]? = some (.cells #[.slice s0 N0 k0, .slice s1 N1 k1, .slice s2 N2 k2, .int .i64 fu, .int .i64 bd] 27 (0, 0))) := (hb.block _ (by omega) (by omega)).trans (L0.out.at_ 0 _ rfl)
  have HRR : Hid (wE.heap[w.heap.size + 4]? = some (.cells #[.int .i64 r0, .int .i64 r1] 31 (0, 0))) := hr
  have HV0 : Hid (wE.heap[w.heap.size + 3]? = some (.cells #[.int .i64 0, .int .i64 0] 31 (0, 0))) := (hb.block _ (by omega) (by omega)).trans (L0.out.at_ 3 _ rfl)
  clear hO hb CH L0 HZ0 hr
  have x0 := cell_at HB0.out 0
  have y0 := free_at HB0.out 0
  have x1 := cell_at HB0.out 1
  have y1 := free_at HB0.out 1
  have x2 := cell_at HB0.out 2
  have y2 := free_at HB0.out 2
  have x3 := cell_at HB0.out 3
  have y3 := free_at HB0.out 3
  have x4 := cell_at HB0.out 4
  have y4 := free_at HB0.out 4
  simp at x0 x1 x2 x3 x4
  have H6 : Hid ((((((wE.setCell ⟨w.heap.size, 0, none⟩ (.slice a n c)).setCell ⟨w.heap.size, 1, none⟩ (.slice a1 n1 c1)).setCell ⟨w.heap.size, 2, none⟩ (.slice a2 n2 c2)).setCell ⟨w.heap.size, 3, none⟩ (.int .i64 M.fuel)).setCell ⟨w.heap.size, 4, none⟩ (.int .i64 M.bad)).heap[w.heap.size]? = some (.cells #[.slice a n c, .slice a1 n1 c1, .slice a2 n2 c2, .int .i64 M.fuel, .int .i64 M.bad] 27 (0, 0)) ∧ (((((wE.setCell ⟨w.heap.size, 0, none⟩ (.slice a n c)).setCell ⟨w.heap.size, 1, none⟩ (.slice a1 n1 c1)).setCell ⟨w.heap.size, 2, none⟩ (.slice a2 n2 c2)).setCell ⟨w.heap.size, 3, none⟩ (.int .i64 M.fuel)).setCell ⟨w.heap.size, 4, none⟩ (.int .i64 M.bad)).heap[w.heap.size + 2]? = some (.cells #[.slice none 0 0, .slice none 0 0, .slice none 0 0, .int .i64 0, .int .i64 0] 27 (0, 0)) ∧ (((((wE.setCell ⟨w.heap.size, 0, none⟩ (.slice a n c)).setCell ⟨w.heap.size, 1, none⟩ (.slice a1 n1 c1)).setCell ⟨w.heap.size, 2, none⟩ (.slice a2 n2 c2)).setCell ⟨w.heap.size, 3, none⟩ (.int .i64 M.fuel)).setCell ⟨w.heap.size, 4, none⟩ (.int .i64 M.bad)).heap[w.heap.size + 4]? = some (.cells #[.int .i64 r0, .int .i64 r1] 31 (0, 0)) ∧ (((((wE.setCell ⟨w.heap.size, 0, none⟩ (.slice a n c)).setCell ⟨w.heap.size, 1, none⟩ (.slice a1 n1 c1)).setCell ⟨w.heap.size, 2, none⟩ (.slice a2 n2 c2)).setCell ⟨w.heap.size, 3, none⟩ (.int .i64 M.fuel)).setCell ⟨w.heap.size, 4, none⟩ (.int .i64 M.bad)).heap[w.heap.size + 3]? = some (.cells #[.int .i64 0, .int .i64 0] 31 (0, 0))) := ⟨(heap_set (heap_set (heap_set (heap_set (heap_set HB0.out))))), (by simp only [kept_set (show w.heap.size + 2 ≠ w.heap.size by omega)]; exact HR0.out), (by simp only [kept_set (show w.heap.size + 4 ≠ w.heap.size by omega)]; exact HRR.out), (by simp only [kept_set (show w.heap.size + 3 ≠ w.heap.size by omega)]; exact HV0.out)⟩
  have HO6 : Hid (OwnMm (((((wE.setCell ⟨w.heap.size, 0, none⟩ (.slice a n c)).setCell ⟨w.heap.size, 1, none⟩ (.slice a1 n1 c1)).setCell ⟨w.heap.size, 2, none⟩ (.slice a2 n2 c2)).setCell ⟨w.heap.size, 3, none⟩ (.int .i64 M.fuel)).setCell ⟨w.heap.size, 4, none⟩ (.int .i64 M.bad)) (w.heap.size + 5) (((((wE.setCell ⟨w.heap.size, 0, none⟩ (.slice a n c)).setCell ⟨w.heap.size, 1, none⟩ (.slice a1 n1 c1)).setCell ⟨w.heap.size, 2, none⟩ (.slice a2 n2 c2)).setCell ⟨w.heap.size, 3, none⟩ (.int .i64 M.fuel)).setCell ⟨w.heap.size, 4, none⟩ (.int .i64 M.bad)).heap.size (.slice a n c) (.slice a1 n1 c1) (.slice a2 n2 c2) M) := by
    have h3 : (((((wE.setCell ⟨w.heap.size, 0, none⟩ (.slice a n c)).setCell ⟨w.heap.size, 1, none⟩ (.slice a1 n1 c1)).setCell ⟨w.heap.size, 2, none⟩ (.slice a2 n2 c2)).setCell ⟨w.heap.size, 3, none⟩ (.int .i64 M.fuel)).setCell ⟨w.heap.size, 4, none⟩ (.int .i64 M.bad)).heap.size = wE.heap.size := by simp
    show OwnMm _ _ _ _ _ _ _
    rw [h3]
    exact HO.out.move (Nat.le_refl _) (fun g hg _ => by simp only [kept_set (show g ≠ w.heap.size by omega)])
  have B6 : Hid (Below w.heap.size w (((((wE.setCell ⟨w.heap.size, 0, none⟩ (.slice a n c)).setCell ⟨w.heap.size, 1, none⟩ (.slice a1 n1 c1)).setCell ⟨w.heap.size, 2, none⟩ (.slice a2 n2 c2)).setCell ⟨w.heap.size, 3, none⟩ (.int .i64 M.fuel)).setCell ⟨w.heap.size, 4, none⟩ (.int .i64 M.bad))) := (((((BE.out.setCell (p := ⟨w.heap.size, 0, none⟩) (Nat.le_refl _) (.slice a n c)).setCell (p := ⟨w.heap.size, 1, none⟩) (Nat.le_refl _) (.slice a1 n1 c1)).setCell (p := ⟨w.heap.size, 2, none⟩) (Nat.le_refl _) (.slice a2 n2 c2)).setCell (p := ⟨w.heap.size, 3, none⟩) (Nat.le_refl _) (.int .i64 M.fuel)).setCell (p := ⟨w.heap.size, 4, none⟩) (Nat.le_refl _) (.int .i64 M.bad))
  clear HB0 HRR HR0 HO BE HV0
  go_wp2_with fail
  clear x0 x1 x2 x3 x4 y0 y1 y2 y3 y4
  generalize (((((wE.setCell ⟨w.heap.size, 0, none⟩ (.slice a n c)).setCell ⟨w.heap.size, 1, none⟩ (.slice a1 n1 c1)).setCell ⟨w.heap.size, 2, none⟩ (.slice a2 n2 c2)).setCell ⟨w.heap.size, 3, none⟩ (.int .i64 M.fuel)).setCell ⟨w.heap.size, 4, none⟩ (.int .i64 M.bad)) = W6 at H6 HO6 B6 ⊢
  have x0 := cell_at H6.out.1 0
  have y0 := free_at H6.out.1 0
  have x1 := cell_at H6.out.1 1
  have y1 := free_at H6.out.1 1
  have x2 := cell_at H6.out.1 2
  have y2 := free_at H6.out.1 2
  have x3 := cell_at H6.out.1 3
  have y3 := free_at H6.out.1 3
  have x4 := cell_at H6.out.1 4
  have y4 := free_at H6.out.1 4
  have u0 := cell_at H6.out.2.1 0
  have v0 := free_at H6.out.2.1 0
  have u1 := cell_at H6.out.2.1 1
  have v1 := free_at H6.out.2.1 1
  have u2 := cell_at H6.out.2.1 2
  have v2 := free_at H6.out.2.1 2
  have u3 := cell_at H6.out.2.1 3
  have v3 := free_at H6.out.2.1 3
  have u4 := cell_at H6.out.2.1 4
  have v4 := free_at H6.out.2.1 4
  have s0 := cell_at H6.out.2.2.1 0
  have t_0 := free_at H6.out.2.2.1 0
  have s1 := cell_at H6.out.2.2.1 1
  have t_1 := free_at H6.out.2.2.1 1
  have z0 := cell_at H6.out.2.2.2 0
  have q0 := free_at H6.out.2.2.2 0
  have z1 := cell_at H6.out.2.2.2 1
  have q1 := free_at H6.out.2.2.2 1
  simp at x0 x1 x2 x3 x4 u0 u1 u2 u3 u4 s0 s1 z0 z1
  go_region
  obtain ⟨Z, hZ⟩ : ∃ Z, Z = (((((((W6.setCell ⟨w.heap.size + 2, 0, none⟩ (.slice a n c)).setCell ⟨w.heap.size + 2, 1, none⟩ (.slice a1 n1 c1)).setCell ⟨w.heap.size + 2, 2, none⟩ (.slice a2 n2 c2)).setCell ⟨w.heap.size + 2, 3, none⟩ (.int .i64 M.fuel)).setCell ⟨w.heap.size + 2, 4, none⟩ (.int .i64 M.bad)).setCell ⟨w.heap.size + 3, 0, none⟩ (.int .i64 r0)).setCell ⟨w.heap.size + 3, 1, none⟩ (.int .i64 r1)) := ⟨_, rfl⟩
  have HH : Hid (Z.heap[w.heap.size + 2]? = some (.cells #[.slice a n c, .slice a1 n1 c1, .slice a2 n2 c2, .int .i64 M.fuel, .int .i64 M.bad] 27 (0, 0)) ∧ Z.heap[w.heap.size + 3]? = some (.cells #[.int .i64 r0, .int .i64 r1] 31 (0, 0))) := by
    rw [hZ]
    exact ⟨((kept_set (by omega)).trans ((kept_set (by omega)).trans (heap_set (heap_set (heap_set (heap_set (heap_set H6.out.2.1))))))), (heap_set (heap_set ((kept_set (by omega)).trans ((kept_set (by omega)).trans ((kept_set (by omega)).trans ((kept_set (by omega)).trans ((kept_set (by omega)).trans H6.out.2.2.2)))))))⟩
  have hsz : Z.heap.size = W6.heap.size := by rw [hZ]; simp
  have HOZ : Hid (OwnMm Z w.heap.size Z.heap.size (.slice a n c) (.slice a1 n1 c1) (.slice a2 n2 c2) M) := by
    show OwnMm _ _ _ _ _ _ _
    rw [hsz]
    exact HO6.out.move (by omega) (fun g hg _ => by rw [hZ]; simp only [kept_set (show g ≠ w.heap.size + 2 by omega), kept_set (show g ≠ w.heap.size + 3 by omega)])
  have HBZ : Hid (Below w.heap.size w Z) := by
    show Below _ _ _
    rw [hZ]
    exact (((((((B6.out.setCell (p := ⟨w.heap.size + 2, 0, none⟩) (by show _ ≤ _; simp) (.slice a n c)).setCell (p := ⟨w.heap.size + 2, 1, none⟩) (by show _ ≤ _; simp) (.slice a1 n1 c1)).setCell (p := ⟨w.heap.size + 2, 2, none⟩) (by show _ ≤ _; simp) (.slice a2 n2 c2)).setCell (p := ⟨w.heap.size + 2, 3, none⟩) (by show _ ≤ _; simp) (.int .i64 M.fuel)).setCell (p := ⟨w.heap.size + 2, 4, none⟩) (by show _ ≤ _; simp) (.int .i64 M.bad)).setCell (p := ⟨w.heap.size + 3, 0, none⟩) (by show _ ≤ _; simp) (.int .i64 r0)).setCell (p := ⟨w.heap.size + 3, 1, none⟩) (by show _ ≤ _; simp) (.int .i64 r1))
  rw [← hZ]
  clear hZ hsz
  have e0 := cell_at HH.out.1 0
  have e1 := cell_at HH.out.1 1
  have e2 := cell_at HH.out.1 2
  have e3 := cell_at HH.out.1 3
  have e4 := cell_at HH.out.1 4
  have e5 := cell_at HH.out.2 0
  have e6 := cell_at HH.out.2 1
  simp at e0 e1 e2 e3 e4 e5 e6
  go_wp2
  refine bodyPost_ret (by simp [results, Try.results9, go_sem, e0, e1, e2, e3, e4, e5, e6, Result.andThen]; try rfl) rfl ?_
  exact ⟨_, _, _, _, _, _, _, _, _, rfl, HOZ.out.move (Nat.le_refl _) (fun _ _ _ => rfl), HBZ.out.drew⟩

end Go.Proofs.Ytabejilnpblogaa
