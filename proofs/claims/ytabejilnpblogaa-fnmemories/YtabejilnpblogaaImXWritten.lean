/-
  The program's memory: Written. Written by mkimxx.py.
-/
import Derived.Test.YtabejilnpblogaaImChWritten
namespace Go.Proofs.Ytabejilnpblogaa
open Go.RowKit

set_option maxRecDepth 100000 in
set_option maxHeartbeats 3200000 in
theorem implWritten_any (B : Nat) (m : Mm) (s0 : Option Addr) (N0 k0 : Nat) (s1 : Option Addr) (N1 k1 : Nat) (s2 : Option Addr) (N2 k2 : Nat) (t k nn : Int) (w : World) (hB : B ≤ w.heap.size) (ha : RowMm w B (.slice s0 N0 k0) (.slice s1 N1 k1) (.slice s2 N2 k2) m) (hn : nilOk (.slice s0 N0 k0) ∧ nilOk (.slice s1 N1 k1) ∧ nilOk (.slice s2 N2 k2)) (hl : szMm m ≤ 1048576) :
    Calls Try.prog 12 #[.agg #[.slice s0 N0 k0, .slice s1 N1 k1, .slice s2 N2 k2, .int .i64 m.fuel, .int .i64 m.bad], .agg #[.int .i64 t, .int .i64 k], .int .i64 nn] w fun e w' => ∃ a n c a1 n1 c1 a2 n2 c2, e = .returned (.agg #[.slice a n c, .slice a1 n1 c1, .slice a2 n2 c2, .int .i64 (writtenM m t k nn).fuel, .int .i64 (writtenM m t k nn).bad]) ∧ OwnMm w' w.heap.size w'.heap.size (.slice a n c) (.slice a1 n1 c1) (.slice a2 n2 c2) (writtenM m t k nn) ∧ Below w.heap.size w w' := by
  obtain ⟨fu, hfu⟩ : ∃ f, Hid (m.fuel = f) := ⟨_, (rfl : m.fuel = m.fuel)⟩
  obtain ⟨bd, hbd⟩ : ∃ f, Hid (m.bad = f) := ⟨_, (rfl : m.bad = m.bad)⟩
  have L0 : Hid (Laid w [(.cells #[.slice s0 N0 k0, .slice s1 N1 k1, .slice s2 N2 k2, .int .i64 fu, .int .i64 bd] 27 (0, 0)), (.cells #[.int .i64 t, .int .i64 k] 31 (0, 0)), (.cells #[.int .i64 nn] 3 (0, 0)), (.cells #[.slice none 0 0, .slice none 0 0, .slice none 0 0, .int .i64 0, .int .i64 0] 27 (0, 0))] ((((w.alloc (.cells #[.slice s0 N0 k0, .slice s1 N1 k1, .slice s2 N2 k2, .int .i64 fu, .int .i64 bd] 27 (0, 0))).alloc (.cells #[.int .i64 t, .int .i64 k] 31 (0, 0))).alloc (.cells #[.int .i64 nn] 3 (0, 0))).alloc (.cells #[.slice none 0 0, .slice none 0 0, .slice none 0 0, .int .i64 0, .int .i64 0] 27 (0, 0)))) := (allocs_laid [(.cells #[.slice s0 N0 k0, .slice s1 N1 k1, .slice s2 N2 k2, .int .i64 fu, .int .i64 bd] 27 (0, 0)), (.cells #[.int .i64 t, .int .i64 k] 31 (0, 0)), (.cells #[.int .i64 nn] 3 (0, 0)), (.cells #[.slice none 0 0, .slice none 0 0, .slice none 0 0, .int .i64 0, .int .i64 0] 27 (0, 0))] w).1
  have hz0 : ((((w.alloc (.cells #[.slice s0 N0 k0, .slice s1 N1 k1, .slice s2 N2 k2, .int .i64 fu, .int .i64 bd] 27 (0, 0))).alloc (.cells #[.int .i64 t, .int .i64 k] 31 (0, 0))).alloc (.cells #[.int .i64 nn] 3 (0, 0))).alloc (.cells #[.slice none 0 0, .slice none 0 0, .slice none 0 0, .int .i64 0, .int .i64 0] 27 (0, 0))).heap.size = w.heap.size + 4 := (allocs_laid [(.cells #[.slice s0 N0 k0, .slice s1 N1 k1, .slice s2 N2 k2, .int .i64 fu, .int .i64 bd] 27 (0, 0)), (.cells #[.int .i64 t, .int .i64 k] 31 (0, 0)), (.cells #[.int .i64 nn] 3 (0, 0)), (.cells #[.slice none 0 0, .slice none 0 0, .slice none 0 0, .int .i64 0, .int .i64 0] 27 (0, 0))] w).2
  have HZ0 : Hid (((((w.alloc (.cells #[.slice s0 N0 k0, .slice s1 N1 k1, .slice s2 N2 k2, .int .i64 fu, .int .i64 bd] 27 (0, 0))).alloc (.cells #[.int .i64 t, .int .i64 k] 31 (0, 0))).alloc (.cells #[.int .i64 nn] 3 (0, 0))).alloc (.cells #[.slice none 0 0, .slice none 0 0, .slice none 0 0, .int .i64 0, .int .i64 0] 27 (0, 0))).heap.size = w.heap.size + 4) := hz0
  have cH := chWritten_any B m s0 N0 k0 s1 N1 k1 s2 N2 k2 t k nn (w.heap.size + 1) (w.heap.size + 2)  ((((w.alloc (.cells #[.slice s0 N0 k0, .slice s1 N1 k1, .slice s2 N2 k2, .int .i64 fu, .int .i64 bd] 27 (0, 0))).alloc (.cells #[.int .i64 t, .int .i64 k] 31 (0, 0))).alloc (.cells #[.int .i64 nn] 3 (0, 0))).alloc (.cells #[.slice none 0 0, .slice none 0 0, .slice none 0 0, .int .i64 0, .int .i64 0] 27 (0, 0))) (Nat.le_trans hB L0.out.low.size) (ha.keep (L0.out.low.mono hB)) hn hl (L0.out.at_ 1 _ rfl) (L0.out.at_ 2 _ rfl)
  obtain ⟨M, hM⟩ : ∃ M, Hid (writtenM m t k nn = M) := ⟨_, (rfl : writtenM m t k nn = writtenM m t k nn)⟩
  rw [hM.out] at cH ⊢
  rw [hfu.out, hbd.out] at cH ⊢
  have CH : Hid _ := cH
  clear ha hn hl hz0 cH
  go_enter Try.func12, Try.ntmps12
  go_wp2_with fail
  go_at_call 44
  refine Calls.mono CH.out ?_
  rintro e wE ⟨a, n, c, a1, n1, c1, a2, n2, c2, rfl, hO, hb⟩
  rw [HZ0.out] at hO hb
  have HO : Hid (OwnMm wE (w.heap.size + 4) wE.heap.size (.slice a n c) (.slice a1 n1 c1) (.slice a2 n2 c2) M) := hO
  have BE : Hid (Below w.heap.size w wE) := L0.out.low.trans ⟨hb.os, hb.tape, hb.output, hb.size, fun g hg => hb.block g (by omega) (by omega)⟩
  have hsE : w.heap.size + 4 ≤ wE.heap.size := by have h1 := hb.size; have h2 := HZ0.out; omega
  have HR0 : Hid (wE.heap[w.heap.size + 3]? = some (.cells #[.slice none 0 0, .slice none 0 0, .slice none 0 0, .int .i64 0, .int .i64 0] 27 (0, 0))) := (hb.block _ (by omega) (by omega)).trans (L0.out.at_ 3 _ rfl)
  clear hO hb CH L0 HZ0
  have x0 := cell_at HR0.out 0
  have y0 := free_at HR0.out 0
  have x1 := cell_at HR0.out 1
  have y1 := free_at HR0.out 1
  have x2 := cell_at HR0.out 2
  have y2 := free_at HR0.out 2
  have x3 := cell_at HR0.out 3
  have y3 := free_at HR0.out 3
  have x4 := cell_at HR0.out 4
  have y4 := free_at HR0.out 4
  simp at x0 x1 x2 x3 x4
  go_wp2
  obtain ⟨Z, hZ⟩ : ∃ Z, Z = (((((wE.setCell ⟨w.heap.size + 3, 0, none⟩ (.slice a n c)).setCell ⟨w.heap.size + 3, 1, none⟩ (.slice a1 n1 c1)).setCell ⟨w.heap.size + 3, 2, none⟩ (.slice a2 n2 c2)).setCell ⟨w.heap.size + 3, 3, none⟩ (.int .i64 M.fuel)).setCell ⟨w.heap.size + 3, 4, none⟩ (.int .i64 M.bad)) := ⟨_, rfl⟩
  rw [← hZ]
  have h2 : Z.heap[w.heap.size + 3]? = some (.cells #[.slice a n c, .slice a1 n1 c1, .slice a2 n2 c2, .int .i64 M.fuel, .int .i64 M.bad] 27 (0, 0)) := by
    rw [hZ]
    exact (heap_set (heap_set (heap_set (heap_set (heap_set HR0.out)))))
  have e0 := cell_at h2 0
  have e1 := cell_at h2 1
  have e2 := cell_at h2 2
  have e3 := cell_at h2 3
  have e4 := cell_at h2 4
  simp at e0 e1 e2 e3 e4
  have hsz : Z.heap.size = wE.heap.size := by rw [hZ]; simp
  have hOZ : OwnMm Z w.heap.size Z.heap.size (.slice a n c) (.slice a1 n1 c1) (.slice a2 n2 c2) M := by
    rw [hsz]
    exact HO.out.move (by omega) (fun g hg _ => by rw [hZ]; simp only [kept_set (show g ≠ w.heap.size + 3 by omega)])
  have hbZ : Below w.heap.size w Z := by
    rw [hZ]
    exact (((((BE.out.setCell (p := ⟨w.heap.size + 3, 0, none⟩) (by show _ ≤ _; simp) (.slice a n c)).setCell (p := ⟨w.heap.size + 3, 1, none⟩) (by show _ ≤ _; simp) (.slice a1 n1 c1)).setCell (p := ⟨w.heap.size + 3, 2, none⟩) (by show _ ≤ _; simp) (.slice a2 n2 c2)).setCell (p := ⟨w.heap.size + 3, 3, none⟩) (by show _ ≤ _; simp) (.int .i64 M.fuel)).setCell (p := ⟨w.heap.size + 3, 4, none⟩) (by show _ ≤ _; simp) (.int .i64 M.bad))
  refine bodyPost_ret (by simp [results, Try.results12, go_sem, e0, e1, e2, e3, e4]; try rfl) rfl ?_
  exact ⟨_, _, _, _, _, _, _, _, _, rfl, hOZ, hbZ⟩

end Go.Proofs.Ytabejilnpblogaa
