/-
  The program's memory: changed, by the closure of Fresh. Written by mkimch.py.
-/
import Derived.Test.YtabejilnpblogaaImChH
namespace Go.Proofs.Ytabejilnpblogaa
open Go.RowKit

set_option maxRecDepth 100000 in
set_option maxHeartbeats 3200000 in
theorem chFresh_any (B : Nat) (m : Mm) (s0 : Option Addr) (N0 k0 : Nat) (s1 : Option Addr) (N1 k1 : Nat) (s2 : Option Addr) (N2 k2 : Nat) (k : Int) (bn rb : Nat) (w : World) (hB : B ≤ w.heap.size) (ha : RowMm w B (.slice s0 N0 k0) (.slice s1 N1 k1) (.slice s2 N2 k2) m) (hn : nilOk (.slice s0 N0 k0) ∧ nilOk (.slice s1 N1 k1) ∧ nilOk (.slice s2 N2 k2)) (hl : szMm m ≤ 1048576) (hbn : w.heap[bn]? = some (.cells #[.int .i64 k] 3 (0, 0))) (hrb : w.heap[rb]? = some (.cells #[.int .i64 0, .int .i64 0] 31 (0, 0))) :
    Calls Try.prog 44 #[.agg #[.slice s0 N0 k0, .slice s1 N1 k1, .slice s2 N2 k2, .int .i64 m.fuel, .int .i64 m.bad], .func (.func 45) #[] #[.pointer (some ⟨bn, 0, none⟩), .pointer (some ⟨rb, 0, none⟩)]] w fun e w' => ∃ a n c a1 n1 c1 a2 n2 c2, e = .returned (.agg #[.slice a n c, .slice a1 n1 c1, .slice a2 n2 c2, .int .i64 ((freshM m k).1).fuel, .int .i64 ((freshM m k).1).bad]) ∧ OwnMm w' w.heap.size w'.heap.size (.slice a n c) (.slice a1 n1 c1) (.slice a2 n2 c2) ((freshM m k).1) ∧ w'.heap[rb]? = some (.cells #[.int .i64 (freshM m k).2.1, .int .i64 (freshM m k).2.2] 31 (0, 0)) ∧ But w.heap.size rb w w' := by
  have lbn : bn < w.heap.size := by
    rcases Nat.lt_or_ge bn w.heap.size with h | h
    · exact h
    · have := hbn; rw [Array.getElem?_eq_none h] at this; cases this
  have lrb : rb < w.heap.size := by
    rcases Nat.lt_or_ge rb w.heap.size with h | h
    · exact h
    · have := hrb; rw [Array.getElem?_eq_none h] at this; cases this
  have cK : Hid (∀ W, Below w.heap.size w W → Calls Try.prog 84 #[.agg #[.slice s0 N0 k0, .slice s1 N1 k1, .slice s2 N2 k2, .int .i64 m.fuel, .int .i64 m.bad]] W fun e w' => ∃ p x0 n0 c0 x1 n1 c1 x2 n2 c2 ads, e = .returned (.pointer (some ⟨p, 0, none⟩)) ∧ KpAt W.heap.size w' p (.slice x0 n0 c0) (.slice x1 n1 c1) (.slice x2 n2 c2) ads m ∧ OwnsI w' W.heap.size (.slice x1 n1 c1) m.input ∧ Below W.heap.size W w') := fun W hW => keeperOf_any B m _ _ _ _ _ _ _ _ _ W (Nat.le_trans hB hW.size) (ha.keep (hW.mono hB)) hn hl
  have cC : Hid (m.bad = 0 → ∀ K p x0 n0 c0 x1 n1 c1 x2 n2 c2 ads W, KpAt K W p (.slice x0 n0 c0) (.slice x1 n1 c1) (.slice x2 n2 c2) ads m → OwnsI W K (.slice x1 n1 c1) m.input → w.heap.size ≤ K → Below w.heap.size w W → Calls Try.prog 45 #[.pointer (some ⟨p, 0, none⟩), .pointer (some ⟨bn, 0, none⟩), .pointer (some ⟨rb, 0, none⟩)] W fun e w' => e = .returned (.tuple #[]) ∧ (∃ x0 n0 c0 x1 n1 c1 x2 n2 c2 ads, KpAt K w' p (.slice x0 n0 c0) (.slice x1 n1 c1) (.slice x2 n2 c2) ads ((freshM m k).1)) ∧ w'.heap[rb]? = some (.cells #[.int .i64 (freshM m k).2.1, .int .i64 (freshM m k).2.2] 31 (0, 0)) ∧ But K rb W w') := fun hb K p _ _ _ _ _ _ _ _ _ ads W h hi hK hW =>
    clFresh_any K p _ _ _ _ _ _ _ _ _ ads m k bn rb W h hi hb (by omega) ((hW.block bn lbn).trans hbn) ((hW.block rb lrb).trans hrb) (by omega)
  have hbad : m.bad ≠ 0 → (freshM m k).1 = m ∧ (freshM m k).2.1 = 0 ∧ (freshM m k).2.2 = 0 := fun h => by
    unfold freshM
    rw [if_neg h]
    exact ⟨rfl, rfl, rfl⟩
  have hms0 : m.cells.length ≤ 1048576 := by unfold szMm at hl; rw [szRowCe_len] at hl; omega
  have hms : m.cells.length ≤ 2000000 := by omega
  have hMs : ((freshM m k).1).cells.length ≤ 2000000 := by
    have := fresh_len m k
    omega
  obtain ⟨fu, hfu⟩ : ∃ f, Hid (m.fuel = f) := ⟨_, (rfl : m.fuel = m.fuel)⟩
  obtain ⟨bd, hbd⟩ : ∃ f, Hid (m.bad = f) := ⟨_, (rfl : m.bad = m.bad)⟩
  have HBad : Hid (bd ≠ 0 → (freshM m k).1 = m ∧ (freshM m k).2.1 = 0 ∧ (freshM m k).2.2 = 0) := fun h => hbad (by rw [hbd.out]; exact h)
  obtain ⟨M, hM⟩ : ∃ M, Hid ((freshM m k).1 = M) := ⟨_, (rfl : (freshM m k).1 = (freshM m k).1)⟩
  rw [hM.out] at cC hMs HBad ⊢
  rw [hfu.out, hbd.out] at cK ⊢
  rw [hbd.out] at cC
  obtain ⟨r0, hr0⟩ : ∃ r, Hid ((freshM m k).2.1 = r) := ⟨_, (rfl : (freshM m k).2.1 = _)⟩
  rw [hr0.out] at cC HBad ⊢
  obtain ⟨r1, hr1⟩ : ∃ r, Hid ((freshM m k).2.2 = r) := ⟨_, (rfl : (freshM m k).2.2 = _)⟩
  rw [hr1.out] at cC HBad ⊢
  have HRb : Hid (w.heap[rb]? = some (.cells #[.int .i64 0, .int .i64 0] 31 (0, 0)) ∧ rb < w.heap.size) := ⟨hrb, lrb⟩
  have L0 : Hid (Laid w [(.cells #[.slice s0 N0 k0, .slice s1 N1 k1, .slice s2 N2 k2, .int .i64 fu, .int .i64 bd] 27 (0, 0)), (.cells #[.slice none 0 0, .slice none 0 0, .slice none 0 0, .int .i64 0, .int .i64 0] 27 (0, 0))] ((w.alloc (.cells #[.slice s0 N0 k0, .slice s1 N1 k1, .slice s2 N2 k2, .int .i64 fu, .int .i64 bd] 27 (0, 0))).alloc (.cells #[.slice none 0 0, .slice none 0 0, .slice none 0 0, .int .i64 0, .int .i64 0] 27 (0, 0)))) := (allocs_laid [(.cells #[.slice s0 N0 k0, .slice s1 N1 k1, .slice s2 N2 k2, .int .i64 fu, .int .i64 bd] 27 (0, 0)), (.cells #[.slice none 0 0, .slice none 0 0, .slice none 0 0, .int .i64 0, .int .i64 0] 27 (0, 0))] w).1
  have hz0 : ((w.alloc (.cells #[.slice s0 N0 k0, .slice s1 N1 k1, .slice s2 N2 k2, .int .i64 fu, .int .i64 bd] 27 (0, 0))).alloc (.cells #[.slice none 0 0, .slice none 0 0, .slice none 0 0, .int .i64 0, .int .i64 0] 27 (0, 0))).heap.size = w.heap.size + 2 := (allocs_laid [(.cells #[.slice s0 N0 k0, .slice s1 N1 k1, .slice s2 N2 k2, .int .i64 fu, .int .i64 bd] 27 (0, 0)), (.cells #[.slice none 0 0, .slice none 0 0, .slice none 0 0, .int .i64 0, .int .i64 0] 27 (0, 0))] w).2
  have HZ0 : Hid (((w.alloc (.cells #[.slice s0 N0 k0, .slice s1 N1 k1, .slice s2 N2 k2, .int .i64 fu, .int .i64 bd] 27 (0, 0))).alloc (.cells #[.slice none 0 0, .slice none 0 0, .slice none 0 0, .int .i64 0, .int .i64 0] 27 (0, 0))).heap.size = w.heap.size + 2) := hz0
  clear ha hn hl hbad hz0 hbn hrb
  go_enter Try.func44, Try.ntmps44
  go_wp2_with fail
  go_at_call 84
  refine Calls.mono (cK.out _ L0.out.low) ?_
  rintro e w1 ⟨p, x0, n0, c0, z1, m1, d1, z2, m2, d2, ads, rfl, hK, hI, hb⟩
  rw [HZ0.out] at hK hI
  have HK : Hid (KpAt (w.heap.size + 2) w1 p (.slice x0 n0 c0) (.slice z1 m1 d1) (.slice z2 m2 d2) ads m ∧ OwnsI w1 (w.heap.size + 2) (.slice z1 m1 d1) m.input) := ⟨hK, hI⟩
  have LA : Hid (Laid w [(.cells #[.slice s0 N0 k0, .slice s1 N1 k1, .slice s2 N2 k2, .int .i64 fu, .int .i64 bd] 27 (0, 0)), (.cells #[.slice none 0 0, .slice none 0 0, .slice none 0 0, .int .i64 0, .int .i64 0] 27 (0, 0))] w1) := L0.out.next hb
  have u4 : w1.cell? ⟨p, 4, none⟩ = some (.int .i64 bd) := by have := cell_at hK.blk 4; rw [← hbd.out]; exact this
  have hw1 : w.heap.size + 2 ≤ w1.heap.size := LA.out.size
  clear hK hI hb cK L0 HZ0
  by_cases hbz : bd = 0
  · subst hbz
    have cC2 := cC.out rfl _ _ _ _ _ _ _ _ _ _ _ _ _ HK.out.1 HK.out.2 (by omega) LA.out.low
    have cC3 : Hid _ := cC2
    clear cC cC2
    go_wp2_with fail
    go_at_call 45
    refine Calls.mono cC3.out ?_
    rintro e w2 ⟨rfl, ⟨x0, n0, c0, z1, m1, d1, z2, m2, d2, ads2, hK2⟩, hrb2, hB2⟩
    have BA : Hid (But w.heap.size rb w w2) := (But.of LA.out.low).trans (hB2.mono (by omega))
    have RB : Hid (w2.heap[w.heap.size + 1]? = some (.cells #[.slice none 0 0, .slice none 0 0, .slice none 0 0, .int .i64 0, .int .i64 0] 27 (0, 0)) ∧ w.heap.size + 2 ≤ w2.heap.size) := ⟨(hB2.block _ (by omega) (by have := HRb.out.2; omega)).trans (LA.out.at_ 1 _ rfl), Nat.le_trans hw1 hB2.size⟩
    have RR : Hid (w2.heap[rb]? = some (.cells #[.int .i64 r0, .int .i64 r1] 31 (0, 0))) := hrb2
    have cM := memory_any (w.heap.size + 2) p _ _ _ _ _ _ _ _ _ ads2 M w2 hK2 hMs
    have CM : Hid _ := cM
    clear hK2 hB2 cC3 LA HK u4 cM hrb2
    go_wp2_with fail
    go_at_call 85
    refine Calls.mono CM.out ?_
    rintro e wE ⟨a, n, c, rfl, hO, hb⟩
    have HO : Hid (OwnMm wE (w.heap.size + 2) wE.heap.size (.slice a n c) (.slice z1 m1 d1) (.slice z2 m2 d2) M) := hO
    have BE : Hid (But w.heap.size rb w wE) := BA.out.trans (But.of (hb.mono (by have := RB.out.2; omega)))
    have RE : Hid (wE.heap[w.heap.size + 1]? = some (.cells #[.slice none 0 0, .slice none 0 0, .slice none 0 0, .int .i64 0, .int .i64 0] 27 (0, 0)) ∧ w.heap.size + 2 ≤ wE.heap.size) := ⟨(hb.block _ (by have := RB.out.2; omega)).trans RB.out.1, Nat.le_trans RB.out.2 hb.size⟩
    have RRe : Hid (wE.heap[rb]? = some (.cells #[.int .i64 r0, .int .i64 r1] 31 (0, 0))) := (hb.block _ (by have := RB.out.2; have := HRb.out.2; omega)).trans RR.out
    clear hO hb CM BA RB RR
    have r0' := cell_at RE.out.1 0
    have q0' := free_at RE.out.1 0
    have r1' := cell_at RE.out.1 1
    have q1' := free_at RE.out.1 1
    have r2' := cell_at RE.out.1 2
    have q2' := free_at RE.out.1 2
    have r3' := cell_at RE.out.1 3
    have q3' := free_at RE.out.1 3
    have r4' := cell_at RE.out.1 4
    have q4' := free_at RE.out.1 4
    simp at r0' r1' r2' r3' r4'
    go_wp2
    obtain ⟨Z, hZ⟩ : ∃ Z, Z = (((((wE.setCell ⟨w.heap.size + 1, 0, none⟩ (.slice a n c)).setCell ⟨w.heap.size + 1, 1, none⟩ (.slice z1 m1 d1)).setCell ⟨w.heap.size + 1, 2, none⟩ (.slice z2 m2 d2)).setCell ⟨w.heap.size + 1, 3, none⟩ (.int .i64 M.fuel)).setCell ⟨w.heap.size + 1, 4, none⟩ (.int .i64 M.bad)) := ⟨_, rfl⟩
    rw [← hZ]
    have h2 : Z.heap[w.heap.size + 1]? = some (.cells #[.slice a n c, .slice z1 m1 d1, .slice z2 m2 d2, .int .i64 M.fuel, .int .i64 M.bad] 27 (0, 0)) := by
      rw [hZ]
      exact (heap_set (heap_set (heap_set (heap_set (heap_set RE.out.1)))))
    have e0 := cell_at h2 0
    have e1 := cell_at h2 1
    have e2 := cell_at h2 2
    have e3 := cell_at h2 3
    have e4 := cell_at h2 4
    simp at e0 e1 e2 e3 e4
    have hsz : Z.heap.size = wE.heap.size := by rw [hZ]; simp
    have hs : ∀ g, g ≠ w.heap.size + 1 → Z.heap[g]? = wE.heap[g]? := fun g hg => by rw [hZ]; simp only [kept_set hg]
    have hOZ : OwnMm Z w.heap.size Z.heap.size (.slice a n c) (.slice z1 m1 d1) (.slice z2 m2 d2) M := by
      rw [hsz]
      exact HO.out.move (by omega) (fun g hg _ => hs g (by omega))
    have hbZ : But w.heap.size rb w Z := ⟨by rw [hZ]; exact BE.out.os, by rw [hZ]; exact BE.out.tape, by rw [hZ]; exact BE.out.output, by rw [hsz]; exact BE.out.size, fun g hg hn => (hs g (by omega)).trans (BE.out.block g hg hn)⟩
    refine bodyPost_ret (by simp [results, Try.results44, go_sem, e0, e1, e2, e3, e4]; try rfl) rfl ?_
    exact ⟨_, _, _, _, _, _, _, _, _, rfl, hOZ, (hs rb (by have := HRb.out.2; omega)).trans RRe.out, hbZ⟩
  · obtain ⟨hMm, hz0, hz1⟩ := HBad.out hbz
    subst hMm
    have HZ0 : Hid (r0 = 0) := hz0
    clear hz0
    have HZ1 : Hid (r1 = 0) := hz1
    clear hz1
    have cM := memory_any (w.heap.size + 2) p _ _ _ _ _ _ _ _ _ ads M w1 HK.out.1 hms
    have CM : Hid _ := cM
    clear cM cC
    go_wp2_with fail
    go_at_call 85
    refine Calls.mono CM.out ?_
    rintro e wE ⟨a, n, c, rfl, hO, hb⟩
    have HO : Hid (OwnMm wE (w.heap.size + 2) wE.heap.size (.slice a n c) (.slice z1 m1 d1) (.slice z2 m2 d2) M) := hO
    have BE : Hid (But w.heap.size rb w wE) := (But.of LA.out.low).trans (But.of (hb.mono (by omega)))
    have RE : Hid (wE.heap[w.heap.size + 1]? = some (.cells #[.slice none 0 0, .slice none 0 0, .slice none 0 0, .int .i64 0, .int .i64 0] 27 (0, 0)) ∧ w.heap.size + 2 ≤ wE.heap.size) := ⟨(hb.block _ (by omega)).trans (LA.out.at_ 1 _ rfl), Nat.le_trans hw1 hb.size⟩
    have RRe : Hid (wE.heap[rb]? = some (.cells #[.int .i64 r0, .int .i64 r1] 31 (0, 0))) := by
      show _ = _
      rw [HZ0.out, HZ1.out]
      exact (hb.block _ (by have := HRb.out.2; omega)).trans ((LA.out.low.block _ HRb.out.2).trans HRb.out.1)
    clear hO hb CM LA HK
    have r0' := cell_at RE.out.1 0
    have q0' := free_at RE.out.1 0
    have r1' := cell_at RE.out.1 1
    have q1' := free_at RE.out.1 1
    have r2' := cell_at RE.out.1 2
    have q2' := free_at RE.out.1 2
    have r3' := cell_at RE.out.1 3
    have q3' := free_at RE.out.1 3
    have r4' := cell_at RE.out.1 4
    have q4' := free_at RE.out.1 4
    simp at r0' r1' r2' r3' r4'
    go_wp2
    obtain ⟨Z, hZ⟩ : ∃ Z, Z = (((((wE.setCell ⟨w.heap.size + 1, 0, none⟩ (.slice a n c)).setCell ⟨w.heap.size + 1, 1, none⟩ (.slice z1 m1 d1)).setCell ⟨w.heap.size + 1, 2, none⟩ (.slice z2 m2 d2)).setCell ⟨w.heap.size + 1, 3, none⟩ (.int .i64 M.fuel)).setCell ⟨w.heap.size + 1, 4, none⟩ (.int .i64 M.bad)) := ⟨_, rfl⟩
    rw [← hZ]
    have h2 : Z.heap[w.heap.size + 1]? = some (.cells #[.slice a n c, .slice z1 m1 d1, .slice z2 m2 d2, .int .i64 M.fuel, .int .i64 M.bad] 27 (0, 0)) := by
      rw [hZ]
      exact (heap_set (heap_set (heap_set (heap_set (heap_set RE.out.1)))))
    have e0 := cell_at h2 0
    have e1 := cell_at h2 1
    have e2 := cell_at h2 2
    have e3 := cell_at h2 3
    have e4 := cell_at h2 4
    simp at e0 e1 e2 e3 e4
    have hsz : Z.heap.size = wE.heap.size := by rw [hZ]; simp
    have hs : ∀ g, g ≠ w.heap.size + 1 → Z.heap[g]? = wE.heap[g]? := fun g hg => by rw [hZ]; simp only [kept_set hg]
    have hOZ : OwnMm Z w.heap.size Z.heap.size (.slice a n c) (.slice z1 m1 d1) (.slice z2 m2 d2) M := by
      rw [hsz]
      exact HO.out.move (by omega) (fun g hg _ => hs g (by omega))
    have hbZ : But w.heap.size rb w Z := ⟨by rw [hZ]; exact BE.out.os, by rw [hZ]; exact BE.out.tape, by rw [hZ]; exact BE.out.output, by rw [hsz]; exact BE.out.size, fun g hg hn => (hs g (by omega)).trans (BE.out.block g hg hn)⟩
    refine bodyPost_ret (by simp [results, Try.results44, go_sem, e0, e1, e2, e3, e4]; try rfl) rfl ?_
    exact ⟨_, _, _, _, _, _, _, _, _, rfl, hOZ, (hs rb (by have := HRb.out.2; omega)).trans RRe.out, hbZ⟩

end Go.Proofs.Ytabejilnpblogaa
