/-
  The model's memory: what is done to it, by value, and that the answer is the call's own. Written by mkspy.py.
-/
import Derived.Test.YtabejilnpblogaaEqMem
import Derived.Test.YtabejilnpblogaaImChH
namespace Go.Proofs.Ytabejilnpblogaa
open Go.RowKit

theorem MmAt.own {K p B : Nat} {W : World} {v0 v1 v2 : Value} {m : Mm} (h : MmAt K W p v0 v1 v2 m) (hB : B ≤ K) : OwnMm W B W.heap.size v0 v1 v2 m := by
  refine ⟨⟨OwnsR.base h.cells (fun g hg => by have := (OwnsR.lt h.cells g hg).1; omega), fun _ _ => trivial⟩, .inl (OwnsR.base h.input (fun g hg => by have := (OwnsR.lt h.input g hg).1; omega)), OwnsR.base h.out (fun g hg => by have := (OwnsR.lt h.out g hg).1; omega), (List.nodup_cons.mp h.nd).2, fun g hg => ?_⟩
  simp only [fps_cons, List.mem_append] at hg
  rcases hg with hg | hg | hg | hg
  · have := OwnsR.lt h.cells g hg; omega
  · have := OwnsR.lt h.input g hg; omega
  · have := OwnsR.lt h.out g hg; omega
  · simp [fps] at hg

set_option maxRecDepth 100000 in
set_option maxHeartbeats 3200000 in
theorem specFreed_own (B : Nat) (m : Mm) (a0 a1 a2 : Value) (t k : Int) (w : World) (hB : B ≤ w.heap.size) (ha : RowMm w B a0 a1 a2 m) (hn : nilOk a0 ∧ nilOk a1 ∧ nilOk a2) (hl : szMm m ≤ 2000000) :
    Calls Try.prog 30 #[.agg #[a0, a1, a2, .int .i64 m.fuel, .int .i64 m.bad], .agg #[.int .i64 t, .int .i64 k]] w fun e w' => ∃ x0 n0 c0 x1 n1 c1 x2 n2 c2, e = .returned (.agg #[.slice x0 n0 c0, .slice x1 n1 c1, .slice x2 n2 c2, .int .i64 (freedM m t k).fuel, .int .i64 (freedM m t k).bad]) ∧ OwnMm w' w.heap.size w'.heap.size (.slice x0 n0 c0) (.slice x1 n1 c1) (.slice x2 n2 c2) (freedM m t k) ∧ Below w.heap.size w w' := by
  have cC : Hid (∀ W, Below w.heap.size w W → Calls Try.prog 58 #[.agg #[a0, a1, a2, .int .i64 m.fuel, .int .i64 m.bad]] W fun e w' => ∃ x0 n0 c0 x1 n1 c1 x2 n2 c2, e = .returned (.agg #[.slice x0 n0 c0, .slice x1 n1 c1, .slice x2 n2 c2, .int .i64 m.fuel, .int .i64 m.bad]) ∧ (OwnsR ceC 2 w' W.heap.size 82 (.slice x0 n0 c0) m.cells ∧ OwnsI w' W.heap.size (.slice x1 n1 c1) m.input ∧ OwnsI w' W.heap.size (.slice x2 n2 c2) m.out ∧ (fps [.slice x0 n0 c0, .slice x1 n1 c1, .slice x2 n2 c2]).Nodup) ∧ Below W.heap.size W w') := fun W hW =>
    l09Copy_any B m a0 a1 a2 W (Nat.le_trans hB hW.size) (ha.keep (hW.mono hB)) hn hl
  have cX : Hid (∀ K p Z x0 n0 c0 x1 n1 c1 x2 n2 c2, MmAt K Z p (.slice x0 n0 c0) (.slice x1 n1 c1) (.slice x2 n2 c2) m → SpDoes 72 #[.pointer (some ⟨p, 0, none⟩), .agg #[.int .i64 t, .int .i64 k]] Z K p (freedM m t k) (.tuple #[])) := fun K p Z _ _ _ _ _ _ _ _ _ hZ => l09Freed_any K p _ _ _ _ _ _ _ _ _ m t k Z hZ hl
  obtain ⟨fu, hfu⟩ : ∃ f, Hid (m.fuel = f) := ⟨_, (rfl : m.fuel = m.fuel)⟩
  obtain ⟨bd, hbd⟩ : ∃ f, Hid (m.bad = f) := ⟨_, (rfl : m.bad = m.bad)⟩
  rw [hfu.out, hbd.out] at cC ⊢
  obtain ⟨M, hM⟩ : ∃ M, Hid ((freedM m t k) = M) := ⟨_, (rfl : (freedM m t k) = (freedM m t k))⟩
  rw [hM.out] at cX ⊢
  clear ha hn hl
  unfold SpDoes at cX
  have L0 : Hid (Laid w [(.cells #[a0, a1, a2, .int .i64 fu, .int .i64 bd] 27 (0, 0)), (.cells #[.int .i64 t, .int .i64 k] 31 (0, 0)), (.cells #[.slice none 0 0, .slice none 0 0, .slice none 0 0, .int .i64 0, .int .i64 0] 27 (0, 0))] (((w.alloc (.cells #[a0, a1, a2, .int .i64 fu, .int .i64 bd] 27 (0, 0))).alloc (.cells #[.int .i64 t, .int .i64 k] 31 (0, 0))).alloc (.cells #[.slice none 0 0, .slice none 0 0, .slice none 0 0, .int .i64 0, .int .i64 0] 27 (0, 0)))) := (allocs_laid [(.cells #[a0, a1, a2, .int .i64 fu, .int .i64 bd] 27 (0, 0)), (.cells #[.int .i64 t, .int .i64 k] 31 (0, 0)), (.cells #[.slice none 0 0, .slice none 0 0, .slice none 0 0, .int .i64 0, .int .i64 0] 27 (0, 0))] w).1
  have hz0 : (((w.alloc (.cells #[a0, a1, a2, .int .i64 fu, .int .i64 bd] 27 (0, 0))).alloc (.cells #[.int .i64 t, .int .i64 k] 31 (0, 0))).alloc (.cells #[.slice none 0 0, .slice none 0 0, .slice none 0 0, .int .i64 0, .int .i64 0] 27 (0, 0))).heap.size = w.heap.size + 3 := (allocs_laid [(.cells #[a0, a1, a2, .int .i64 fu, .int .i64 bd] 27 (0, 0)), (.cells #[.int .i64 t, .int .i64 k] 31 (0, 0)), (.cells #[.slice none 0 0, .slice none 0 0, .slice none 0 0, .int .i64 0, .int .i64 0] 27 (0, 0))] w).2
  have HZ0 : Hid _ := hz0
  clear hz0
  go_enter Try.func30, Try.ntmps30
  go_wp2_with fail
  go_at_call 58
  refine Calls.mono (cC.out _ L0.out.low) ?_
  rintro e w1 ⟨x0, n0, c0, x1, n1, c1, x2, n2, c2, rfl, ⟨o0, o1, o2, on⟩, hb⟩
  rw [HZ0.out] at o0 o1 o2
  have L1 : Hid (Laid w [(.cells #[a0, a1, a2, .int .i64 fu, .int .i64 bd] 27 (0, 0)), (.cells #[.int .i64 t, .int .i64 k] 31 (0, 0)), (.cells #[.slice none 0 0, .slice none 0 0, .slice none 0 0, .int .i64 0, .int .i64 0] 27 (0, 0))] w1) := L0.out.next hb
  have hz1 : w.heap.size + 3 ≤ w1.heap.size := L1.out.size
  have HP : Hid (MmAt (w.heap.size + 3) (w1.alloc (.cells #[.slice x0 n0 c0, .slice x1 n1 c1, .slice x2 n2 c2, .int .i64 fu, .int .i64 bd] 27 (0, 0))) w1.heap.size (.slice x0 n0 c0) (.slice x1 n1 c1) (.slice x2 n2 c2) m) := by
    have := MmAt.of_copy o0 o1 o2 on hz1
    rw [hfu.out, hbd.out] at this
    exact this
  have bt : w1.cell? ⟨w.heap.size + 1, 0, none⟩ = some (.int .i64 t) := cell_at (L1.out.at_ 1 _ rfl) 0
  have bk : w1.cell? ⟨w.heap.size + 1, 1, none⟩ = some (.int .i64 k) := cell_at (L1.out.at_ 1 _ rfl) 1
  have bl : w.heap.size + 1 < w1.heap.size := by omega
  clear hb o0 o1 o2 on L0 HZ0 cC
  go_wp2_with fail
  go_at_call 72
  refine Calls.mono (cX.out _ _ _ _ _ _ _ _ _ _ _ _ HP.out) ?_
  rintro e w2 ⟨rfl, ⟨y0, m0, d0, y1, m1, d1, y2, m2, d2, hM2⟩, hb⟩
  have L2 : Hid (Laid w [(.cells #[a0, a1, a2, .int .i64 fu, .int .i64 bd] 27 (0, 0)), (.cells #[.int .i64 t, .int .i64 k] 31 (0, 0)), (.cells #[.slice none 0 0, .slice none 0 0, .slice none 0 0, .int .i64 0, .int .i64 0] 27 (0, 0))] w2) := (L1.out.next ((Below.refl _ _).alloc (Nat.le_refl _) _)).keep hb (by simp)
  have HM2 : Hid (MmAt (w.heap.size + 3) w2 w1.heap.size (.slice y0 m0 d0) (.slice y1 m1 d1) (.slice y2 m2 d2) M) := hM2
  clear hb hM2 cX L1 bt bk bl
  have u0 := cell_at HM2.out.blk 0
  have u1 := cell_at HM2.out.blk 1
  have u2 := cell_at HM2.out.blk 2
  have u3 := cell_at HM2.out.blk 3
  have u4 := cell_at HM2.out.blk 4
  have hlt := HM2.out.lt
  have r0' := cell_at (L2.out.at_ 2 _ rfl) 0
  have q0' := free_at (L2.out.at_ 2 _ rfl) 0
  have r1' := cell_at (L2.out.at_ 2 _ rfl) 1
  have q1' := free_at (L2.out.at_ 2 _ rfl) 1
  have r2' := cell_at (L2.out.at_ 2 _ rfl) 2
  have q2' := free_at (L2.out.at_ 2 _ rfl) 2
  have r3' := cell_at (L2.out.at_ 2 _ rfl) 3
  have q3' := free_at (L2.out.at_ 2 _ rfl) 3
  have r4' := cell_at (L2.out.at_ 2 _ rfl) 4
  have q4' := free_at (L2.out.at_ 2 _ rfl) 4
  simp at u0 u1 u2 u3 u4 r0' r1' r2' r3' r4'
  have HX : Hid (w.heap.size + 2 ∉ fpOf (.slice y0 m0 d0) ∧ w.heap.size + 2 ∉ fpOf (.slice y1 m1 d1) ∧ w.heap.size + 2 ∉ fpOf (.slice y2 m2 d2)) := ⟨fun hm => by have := (OwnsR.lt HM2.out.cells _ hm).1; omega, fun hm => by have := (OwnsR.lt HM2.out.input _ hm).1; omega, fun hm => by have := (OwnsR.lt HM2.out.out _ hm).1; omega⟩
  go_wp2
  obtain ⟨Z, hZ⟩ : ∃ Z, Z = (((((w2.setCell ⟨w.heap.size + 2, 0, none⟩ (.slice y0 m0 d0)).setCell ⟨w.heap.size + 2, 1, none⟩ (.slice y1 m1 d1)).setCell ⟨w.heap.size + 2, 2, none⟩ (.slice y2 m2 d2)).setCell ⟨w.heap.size + 2, 3, none⟩ (.int .i64 M.fuel)).setCell ⟨w.heap.size + 2, 4, none⟩ (.int .i64 M.bad)) := ⟨_, rfl⟩
  rw [← hZ]
  have h2 : Z.heap[w.heap.size + 2]? = some (.cells #[.slice y0 m0 d0, .slice y1 m1 d1, .slice y2 m2 d2, .int .i64 M.fuel, .int .i64 M.bad] 27 (0, 0)) := by
    rw [hZ]
    exact (heap_set ((heap_set ((heap_set ((heap_set ((heap_set (L2.out.at_ 2 _ rfl))))))))))
  have e0 := cell_at h2 0
  have e1 := cell_at h2 1
  have e2 := cell_at h2 2
  have e3 := cell_at h2 3
  have e4 := cell_at h2 4
  simp at e0 e1 e2 e3 e4
  have HZ : OwnMm Z w.heap.size Z.heap.size (.slice y0 m0 d0) (.slice y1 m1 d1) (.slice y2 m2 d2) M := by
    rw [hZ]
    exact (((((HM2.out.aside (w.heap.size + 2) 0 (.slice y0 m0 d0) (by omega) HX.out.1 HX.out.2.1 HX.out.2.2).aside (w.heap.size + 2) 1 (.slice y1 m1 d1) (by omega) HX.out.1 HX.out.2.1 HX.out.2.2).aside (w.heap.size + 2) 2 (.slice y2 m2 d2) (by omega) HX.out.1 HX.out.2.1 HX.out.2.2).aside (w.heap.size + 2) 3 (.int .i64 M.fuel) (by omega) HX.out.1 HX.out.2.1 HX.out.2.2).aside (w.heap.size + 2) 4 (.int .i64 M.bad) (by omega) HX.out.1 HX.out.2.1 HX.out.2.2).own (by omega)
  have hZB : Below w.heap.size w Z := by
    rw [hZ]
    exact (((((L2.out.low.setCell (p := ⟨w.heap.size + 2, 0, none⟩) (by show _ ≤ _; simp) (.slice y0 m0 d0)).setCell (p := ⟨w.heap.size + 2, 1, none⟩) (by show _ ≤ _; simp) (.slice y1 m1 d1)).setCell (p := ⟨w.heap.size + 2, 2, none⟩) (by show _ ≤ _; simp) (.slice y2 m2 d2)).setCell (p := ⟨w.heap.size + 2, 3, none⟩) (by show _ ≤ _; simp) (.int .i64 M.fuel)).setCell (p := ⟨w.heap.size + 2, 4, none⟩) (by show _ ≤ _; simp) (.int .i64 M.bad))
  refine bodyPost_ret (by simp [results, Try.results30, go_sem, e0, e1, e2, e3, e4]; try rfl) rfl ?_
  exact ⟨_, _, _, _, _, _, _, _, _, rfl, HZ, hZB⟩

set_option maxRecDepth 100000 in
set_option maxHeartbeats 3200000 in
theorem specWritten_own (B : Nat) (m : Mm) (a0 a1 a2 : Value) (t k n : Int) (w : World) (hB : B ≤ w.heap.size) (ha : RowMm w B a0 a1 a2 m) (hn : nilOk a0 ∧ nilOk a1 ∧ nilOk a2) (hl : szMm m ≤ 2000000) :
    Calls Try.prog 31 #[.agg #[a0, a1, a2, .int .i64 m.fuel, .int .i64 m.bad], .agg #[.int .i64 t, .int .i64 k], .int .i64 n] w fun e w' => ∃ x0 n0 c0 x1 n1 c1 x2 n2 c2, e = .returned (.agg #[.slice x0 n0 c0, .slice x1 n1 c1, .slice x2 n2 c2, .int .i64 (writtenM m t k n).fuel, .int .i64 (writtenM m t k n).bad]) ∧ OwnMm w' w.heap.size w'.heap.size (.slice x0 n0 c0) (.slice x1 n1 c1) (.slice x2 n2 c2) (writtenM m t k n) ∧ Below w.heap.size w w' := by
  have cC : Hid (∀ W, Below w.heap.size w W → Calls Try.prog 58 #[.agg #[a0, a1, a2, .int .i64 m.fuel, .int .i64 m.bad]] W fun e w' => ∃ x0 n0 c0 x1 n1 c1 x2 n2 c2, e = .returned (.agg #[.slice x0 n0 c0, .slice x1 n1 c1, .slice x2 n2 c2, .int .i64 m.fuel, .int .i64 m.bad]) ∧ (OwnsR ceC 2 w' W.heap.size 82 (.slice x0 n0 c0) m.cells ∧ OwnsI w' W.heap.size (.slice x1 n1 c1) m.input ∧ OwnsI w' W.heap.size (.slice x2 n2 c2) m.out ∧ (fps [.slice x0 n0 c0, .slice x1 n1 c1, .slice x2 n2 c2]).Nodup) ∧ Below W.heap.size W w') := fun W hW =>
    l09Copy_any B m a0 a1 a2 W (Nat.le_trans hB hW.size) (ha.keep (hW.mono hB)) hn hl
  have cX : Hid (∀ K p Z x0 n0 c0 x1 n1 c1 x2 n2 c2, MmAt K Z p (.slice x0 n0 c0) (.slice x1 n1 c1) (.slice x2 n2 c2) m → SpDoes 73 #[.pointer (some ⟨p, 0, none⟩), .agg #[.int .i64 t, .int .i64 k], .int .i64 n] Z K p (writtenM m t k n) (.tuple #[])) := fun K p Z _ _ _ _ _ _ _ _ _ hZ => l09Written_any K p _ _ _ _ _ _ _ _ _ m t k n Z hZ hl
  obtain ⟨fu, hfu⟩ : ∃ f, Hid (m.fuel = f) := ⟨_, (rfl : m.fuel = m.fuel)⟩
  obtain ⟨bd, hbd⟩ : ∃ f, Hid (m.bad = f) := ⟨_, (rfl : m.bad = m.bad)⟩
  rw [hfu.out, hbd.out] at cC ⊢
  obtain ⟨M, hM⟩ : ∃ M, Hid ((writtenM m t k n) = M) := ⟨_, (rfl : (writtenM m t k n) = (writtenM m t k n))⟩
  rw [hM.out] at cX ⊢
  clear ha hn hl
  unfold SpDoes at cX
  have L0 : Hid (Laid w [(.cells #[a0, a1, a2, .int .i64 fu, .int .i64 bd] 27 (0, 0)), (.cells #[.int .i64 t, .int .i64 k] 31 (0, 0)), (.cells #[.slice none 0 0, .slice none 0 0, .slice none 0 0, .int .i64 0, .int .i64 0] 27 (0, 0))] (((w.alloc (.cells #[a0, a1, a2, .int .i64 fu, .int .i64 bd] 27 (0, 0))).alloc (.cells #[.int .i64 t, .int .i64 k] 31 (0, 0))).alloc (.cells #[.slice none 0 0, .slice none 0 0, .slice none 0 0, .int .i64 0, .int .i64 0] 27 (0, 0)))) := (allocs_laid [(.cells #[a0, a1, a2, .int .i64 fu, .int .i64 bd] 27 (0, 0)), (.cells #[.int .i64 t, .int .i64 k] 31 (0, 0)), (.cells #[.slice none 0 0, .slice none 0 0, .slice none 0 0, .int .i64 0, .int .i64 0] 27 (0, 0))] w).1
  have hz0 : (((w.alloc (.cells #[a0, a1, a2, .int .i64 fu, .int .i64 bd] 27 (0, 0))).alloc (.cells #[.int .i64 t, .int .i64 k] 31 (0, 0))).alloc (.cells #[.slice none 0 0, .slice none 0 0, .slice none 0 0, .int .i64 0, .int .i64 0] 27 (0, 0))).heap.size = w.heap.size + 3 := (allocs_laid [(.cells #[a0, a1, a2, .int .i64 fu, .int .i64 bd] 27 (0, 0)), (.cells #[.int .i64 t, .int .i64 k] 31 (0, 0)), (.cells #[.slice none 0 0, .slice none 0 0, .slice none 0 0, .int .i64 0, .int .i64 0] 27 (0, 0))] w).2
  have HZ0 : Hid _ := hz0
  clear hz0
  go_enter Try.func31, Try.ntmps31
  go_wp2_with fail
  go_at_call 58
  refine Calls.mono (cC.out _ L0.out.low) ?_
  rintro e w1 ⟨x0, n0, c0, x1, n1, c1, x2, n2, c2, rfl, ⟨o0, o1, o2, on⟩, hb⟩
  rw [HZ0.out] at o0 o1 o2
  have L1 : Hid (Laid w [(.cells #[a0, a1, a2, .int .i64 fu, .int .i64 bd] 27 (0, 0)), (.cells #[.int .i64 t, .int .i64 k] 31 (0, 0)), (.cells #[.slice none 0 0, .slice none 0 0, .slice none 0 0, .int .i64 0, .int .i64 0] 27 (0, 0))] w1) := L0.out.next hb
  have hz1 : w.heap.size + 3 ≤ w1.heap.size := L1.out.size
  have HP : Hid (MmAt (w.heap.size + 3) (w1.alloc (.cells #[.slice x0 n0 c0, .slice x1 n1 c1, .slice x2 n2 c2, .int .i64 fu, .int .i64 bd] 27 (0, 0))) w1.heap.size (.slice x0 n0 c0) (.slice x1 n1 c1) (.slice x2 n2 c2) m) := by
    have := MmAt.of_copy o0 o1 o2 on hz1
    rw [hfu.out, hbd.out] at this
    exact this
  have bt : w1.cell? ⟨w.heap.size + 1, 0, none⟩ = some (.int .i64 t) := cell_at (L1.out.at_ 1 _ rfl) 0
  have bk : w1.cell? ⟨w.heap.size + 1, 1, none⟩ = some (.int .i64 k) := cell_at (L1.out.at_ 1 _ rfl) 1
  have bl : w.heap.size + 1 < w1.heap.size := by omega
  clear hb o0 o1 o2 on L0 HZ0 cC
  go_wp2_with fail
  go_at_call 73
  refine Calls.mono (cX.out _ _ _ _ _ _ _ _ _ _ _ _ HP.out) ?_
  rintro e w2 ⟨rfl, ⟨y0, m0, d0, y1, m1, d1, y2, m2, d2, hM2⟩, hb⟩
  have L2 : Hid (Laid w [(.cells #[a0, a1, a2, .int .i64 fu, .int .i64 bd] 27 (0, 0)), (.cells #[.int .i64 t, .int .i64 k] 31 (0, 0)), (.cells #[.slice none 0 0, .slice none 0 0, .slice none 0 0, .int .i64 0, .int .i64 0] 27 (0, 0))] w2) := (L1.out.next ((Below.refl _ _).alloc (Nat.le_refl _) _)).keep hb (by simp)
  have HM2 : Hid (MmAt (w.heap.size + 3) w2 w1.heap.size (.slice y0 m0 d0) (.slice y1 m1 d1) (.slice y2 m2 d2) M) := hM2
  clear hb hM2 cX L1 bt bk bl
  have u0 := cell_at HM2.out.blk 0
  have u1 := cell_at HM2.out.blk 1
  have u2 := cell_at HM2.out.blk 2
  have u3 := cell_at HM2.out.blk 3
  have u4 := cell_at HM2.out.blk 4
  have hlt := HM2.out.lt
  have r0' := cell_at (L2.out.at_ 2 _ rfl) 0
  have q0' := free_at (L2.out.at_ 2 _ rfl) 0
  have r1' := cell_at (L2.out.at_ 2 _ rfl) 1
  have q1' := free_at (L2.out.at_ 2 _ rfl) 1
  have r2' := cell_at (L2.out.at_ 2 _ rfl) 2
  have q2' := free_at (L2.out.at_ 2 _ rfl) 2
  have r3' := cell_at (L2.out.at_ 2 _ rfl) 3
  have q3' := free_at (L2.out.at_ 2 _ rfl) 3
  have r4' := cell_at (L2.out.at_ 2 _ rfl) 4
  have q4' := free_at (L2.out.at_ 2 _ rfl) 4
  simp at u0 u1 u2 u3 u4 r0' r1' r2' r3' r4'
  have HX : Hid (w.heap.size + 2 ∉ fpOf (.slice y0 m0 d0) ∧ w.heap.size + 2 ∉ fpOf (.slice y1 m1 d1) ∧ w.heap.size + 2 ∉ fpOf (.slice y2 m2 d2)) := ⟨fun hm => by have := (OwnsR.lt HM2.out.cells _ hm).1; omega, fun hm => by have := (OwnsR.lt HM2.out.input _ hm).1; omega, fun hm => by have := (OwnsR.lt HM2.out.out _ hm).1; omega⟩
  go_wp2
  obtain ⟨Z, hZ⟩ : ∃ Z, Z = (((((w2.setCell ⟨w.heap.size + 2, 0, none⟩ (.slice y0 m0 d0)).setCell ⟨w.heap.size + 2, 1, none⟩ (.slice y1 m1 d1)).setCell ⟨w.heap.size + 2, 2, none⟩ (.slice y2 m2 d2)).setCell ⟨w.heap.size + 2, 3, none⟩ (.int .i64 M.fuel)).setCell ⟨w.heap.size + 2, 4, none⟩ (.int .i64 M.bad)) := ⟨_, rfl⟩
  rw [← hZ]
  have h2 : Z.heap[w.heap.size + 2]? = some (.cells #[.slice y0 m0 d0, .slice y1 m1 d1, .slice y2 m2 d2, .int .i64 M.fuel, .int .i64 M.bad] 27 (0, 0)) := by
    rw [hZ]
    exact (heap_set ((heap_set ((heap_set ((heap_set ((heap_set (L2.out.at_ 2 _ rfl))))))))))
  have e0 := cell_at h2 0
  have e1 := cell_at h2 1
  have e2 := cell_at h2 2
  have e3 := cell_at h2 3
  have e4 := cell_at h2 4
  simp at e0 e1 e2 e3 e4
  have HZ : OwnMm Z w.heap.size Z.heap.size (.slice y0 m0 d0) (.slice y1 m1 d1) (.slice y2 m2 d2) M := by
    rw [hZ]
    exact (((((HM2.out.aside (w.heap.size + 2) 0 (.slice y0 m0 d0) (by omega) HX.out.1 HX.out.2.1 HX.out.2.2).aside (w.heap.size + 2) 1 (.slice y1 m1 d1) (by omega) HX.out.1 HX.out.2.1 HX.out.2.2).aside (w.heap.size + 2) 2 (.slice y2 m2 d2) (by omega) HX.out.1 HX.out.2.1 HX.out.2.2).aside (w.heap.size + 2) 3 (.int .i64 M.fuel) (by omega) HX.out.1 HX.out.2.1 HX.out.2.2).aside (w.heap.size + 2) 4 (.int .i64 M.bad) (by omega) HX.out.1 HX.out.2.1 HX.out.2.2).own (by omega)
  have hZB : Below w.heap.size w Z := by
    rw [hZ]
    exact (((((L2.out.low.setCell (p := ⟨w.heap.size + 2, 0, none⟩) (by show _ ≤ _; simp) (.slice y0 m0 d0)).setCell (p := ⟨w.heap.size + 2, 1, none⟩) (by show _ ≤ _; simp) (.slice y1 m1 d1)).setCell (p := ⟨w.heap.size + 2, 2, none⟩) (by show _ ≤ _; simp) (.slice y2 m2 d2)).setCell (p := ⟨w.heap.size + 2, 3, none⟩) (by show _ ≤ _; simp) (.int .i64 M.fuel)).setCell (p := ⟨w.heap.size + 2, 4, none⟩) (by show _ ≤ _; simp) (.int .i64 M.bad))
  refine bodyPost_ret (by simp [results, Try.results31, go_sem, e0, e1, e2, e3, e4]; try rfl) rfl ?_
  exact ⟨_, _, _, _, _, _, _, _, _, rfl, HZ, hZB⟩

set_option maxRecDepth 100000 in
set_option maxHeartbeats 3200000 in
theorem specLooked_own (B : Nat) (m : Mm) (a0 a1 a2 : Value) (t k : Int) (w : World) (hB : B ≤ w.heap.size) (ha : RowMm w B a0 a1 a2 m) (hn : nilOk a0 ∧ nilOk a1 ∧ nilOk a2) (hl : szMm m ≤ 2000000) :
    Calls Try.prog 22 #[.agg #[a0, a1, a2, .int .i64 m.fuel, .int .i64 m.bad], .agg #[.int .i64 t, .int .i64 k]] w fun e w' => ∃ x0 n0 c0 x1 n1 c1 x2 n2 c2, e = .returned (.tuple #[.agg #[.slice x0 n0 c0, .slice x1 n1 c1, .slice x2 n2 c2, .int .i64 (lookedM m t k).1.fuel, .int .i64 (lookedM m t k).1.bad], .int .i64 (lookedM m t k).2]) ∧ OwnMm w' w.heap.size w'.heap.size (.slice x0 n0 c0) (.slice x1 n1 c1) (.slice x2 n2 c2) (lookedM m t k).1 ∧ Below w.heap.size w w' := by
  have cC : Hid (∀ W, Below w.heap.size w W → Calls Try.prog 58 #[.agg #[a0, a1, a2, .int .i64 m.fuel, .int .i64 m.bad]] W fun e w' => ∃ x0 n0 c0 x1 n1 c1 x2 n2 c2, e = .returned (.agg #[.slice x0 n0 c0, .slice x1 n1 c1, .slice x2 n2 c2, .int .i64 m.fuel, .int .i64 m.bad]) ∧ (OwnsR ceC 2 w' W.heap.size 82 (.slice x0 n0 c0) m.cells ∧ OwnsI w' W.heap.size (.slice x1 n1 c1) m.input ∧ OwnsI w' W.heap.size (.slice x2 n2 c2) m.out ∧ (fps [.slice x0 n0 c0, .slice x1 n1 c1, .slice x2 n2 c2]).Nodup) ∧ Below W.heap.size W w') := fun W hW =>
    l09Copy_any B m a0 a1 a2 W (Nat.le_trans hB hW.size) (ha.keep (hW.mono hB)) hn hl
  have cX : Hid (∀ K p Z x0 n0 c0 x1 n1 c1 x2 n2 c2, MmAt K Z p (.slice x0 n0 c0) (.slice x1 n1 c1) (.slice x2 n2 c2) m → SpDoes 61 #[.pointer (some ⟨p, 0, none⟩), .agg #[.int .i64 t, .int .i64 k]] Z K p (lookedM m t k).1 (.int .i64 (lookedM m t k).2)) := fun K p Z _ _ _ _ _ _ _ _ _ hZ => l09Looked_any K p _ _ _ _ _ _ _ _ _ m t k Z hZ hl
  obtain ⟨fu, hfu⟩ : ∃ f, Hid (m.fuel = f) := ⟨_, (rfl : m.fuel = m.fuel)⟩
  obtain ⟨bd, hbd⟩ : ∃ f, Hid (m.bad = f) := ⟨_, (rfl : m.bad = m.bad)⟩
  rw [hfu.out, hbd.out] at cC ⊢
  obtain ⟨M, hM⟩ : ∃ M, Hid ((lookedM m t k).1 = M) := ⟨_, (rfl : (lookedM m t k).1 = (lookedM m t k).1)⟩
  rw [hM.out] at cX ⊢
  clear ha hn hl
  unfold SpDoes at cX
  obtain ⟨r, hr⟩ : ∃ r, Hid ((lookedM m t k).2 = r) := ⟨_, (rfl : (lookedM m t k).2 = _)⟩
  rw [hr.out] at cX ⊢
  have L0 : Hid (Laid w [(.cells #[a0, a1, a2, .int .i64 fu, .int .i64 bd] 27 (0, 0)), (.cells #[.int .i64 t, .int .i64 k] 31 (0, 0)), (.cells #[.slice none 0 0, .slice none 0 0, .slice none 0 0, .int .i64 0, .int .i64 0] 27 (0, 0))] (((w.alloc (.cells #[a0, a1, a2, .int .i64 fu, .int .i64 bd] 27 (0, 0))).alloc (.cells #[.int .i64 t, .int .i64 k] 31 (0, 0))).alloc (.cells #[.slice none 0 0, .slice none 0 0, .slice none 0 0, .int .i64 0, .int .i64 0] 27 (0, 0)))) := (allocs_laid [(.cells #[a0, a1, a2, .int .i64 fu, .int .i64 bd] 27 (0, 0)), (.cells #[.int .i64 t, .int .i64 k] 31 (0, 0)), (.cells #[.slice none 0 0, .slice none 0 0, .slice none 0 0, .int .i64 0, .int .i64 0] 27 (0, 0))] w).1
  have hz0 : (((w.alloc (.cells #[a0, a1, a2, .int .i64 fu, .int .i64 bd] 27 (0, 0))).alloc (.cells #[.int .i64 t, .int .i64 k] 31 (0, 0))).alloc (.cells #[.slice none 0 0, .slice none 0 0, .slice none 0 0, .int .i64 0, .int .i64 0] 27 (0, 0))).heap.size = w.heap.size + 3 := (allocs_laid [(.cells #[a0, a1, a2, .int .i64 fu, .int .i64 bd] 27 (0, 0)), (.cells #[.int .i64 t, .int .i64 k] 31 (0, 0)), (.cells #[.slice none 0 0, .slice none 0 0, .slice none 0 0, .int .i64 0, .int .i64 0] 27 (0, 0))] w).2
  have HZ0 : Hid _ := hz0
  clear hz0
  go_enter Try.func22, Try.ntmps22
  go_wp2_with fail
  go_at_call 58
  refine Calls.mono (cC.out _ L0.out.low) ?_
  rintro e w1 ⟨x0, n0, c0, x1, n1, c1, x2, n2, c2, rfl, ⟨o0, o1, o2, on⟩, hb⟩
  rw [HZ0.out] at o0 o1 o2
  have L1 : Hid (Laid w [(.cells #[a0, a1, a2, .int .i64 fu, .int .i64 bd] 27 (0, 0)), (.cells #[.int .i64 t, .int .i64 k] 31 (0, 0)), (.cells #[.slice none 0 0, .slice none 0 0, .slice none 0 0, .int .i64 0, .int .i64 0] 27 (0, 0))] w1) := L0.out.next hb
  have hz1 : w.heap.size + 3 ≤ w1.heap.size := L1.out.size
  have HP : Hid (MmAt (w.heap.size + 3) (w1.alloc (.cells #[.slice x0 n0 c0, .slice x1 n1 c1, .slice x2 n2 c2, .int .i64 fu, .int .i64 bd] 27 (0, 0))) w1.heap.size (.slice x0 n0 c0) (.slice x1 n1 c1) (.slice x2 n2 c2) m) := by
    have := MmAt.of_copy o0 o1 o2 on hz1
    rw [hfu.out, hbd.out] at this
    exact this
  have bt : w1.cell? ⟨w.heap.size + 1, 0, none⟩ = some (.int .i64 t) := cell_at (L1.out.at_ 1 _ rfl) 0
  have bk : w1.cell? ⟨w.heap.size + 1, 1, none⟩ = some (.int .i64 k) := cell_at (L1.out.at_ 1 _ rfl) 1
  have bl : w.heap.size + 1 < w1.heap.size := by omega
  clear hb o0 o1 o2 on L0 HZ0 cC
  go_wp2_with fail
  go_at_call 61
  refine Calls.mono (cX.out _ _ _ _ _ _ _ _ _ _ _ _ HP.out) ?_
  rintro e w2 ⟨rfl, ⟨y0, m0, d0, y1, m1, d1, y2, m2, d2, hM2⟩, hb⟩
  have L2 : Hid (Laid w [(.cells #[a0, a1, a2, .int .i64 fu, .int .i64 bd] 27 (0, 0)), (.cells #[.int .i64 t, .int .i64 k] 31 (0, 0)), (.cells #[.slice none 0 0, .slice none 0 0, .slice none 0 0, .int .i64 0, .int .i64 0] 27 (0, 0))] w2) := (L1.out.next ((Below.refl _ _).alloc (Nat.le_refl _) _)).keep hb (by simp)
  have HM2 : Hid (MmAt (w.heap.size + 3) w2 w1.heap.size (.slice y0 m0 d0) (.slice y1 m1 d1) (.slice y2 m2 d2) M) := hM2
  clear hb hM2 cX L1 bt bk bl
  have u0 := cell_at HM2.out.blk 0
  have u1 := cell_at HM2.out.blk 1
  have u2 := cell_at HM2.out.blk 2
  have u3 := cell_at HM2.out.blk 3
  have u4 := cell_at HM2.out.blk 4
  have hlt := HM2.out.lt
  have r0' := cell_at (L2.out.at_ 2 _ rfl) 0
  have q0' := free_at (L2.out.at_ 2 _ rfl) 0
  have r1' := cell_at (L2.out.at_ 2 _ rfl) 1
  have q1' := free_at (L2.out.at_ 2 _ rfl) 1
  have r2' := cell_at (L2.out.at_ 2 _ rfl) 2
  have q2' := free_at (L2.out.at_ 2 _ rfl) 2
  have r3' := cell_at (L2.out.at_ 2 _ rfl) 3
  have q3' := free_at (L2.out.at_ 2 _ rfl) 3
  have r4' := cell_at (L2.out.at_ 2 _ rfl) 4
  have q4' := free_at (L2.out.at_ 2 _ rfl) 4
  simp at u0 u1 u2 u3 u4 r0' r1' r2' r3' r4'
  have HX : Hid (w.heap.size + 2 ∉ fpOf (.slice y0 m0 d0) ∧ w.heap.size + 2 ∉ fpOf (.slice y1 m1 d1) ∧ w.heap.size + 2 ∉ fpOf (.slice y2 m2 d2)) := ⟨fun hm => by have := (OwnsR.lt HM2.out.cells _ hm).1; omega, fun hm => by have := (OwnsR.lt HM2.out.input _ hm).1; omega, fun hm => by have := (OwnsR.lt HM2.out.out _ hm).1; omega⟩
  go_wp2
  obtain ⟨Z, hZ⟩ : ∃ Z, Z = (((((w2.setCell ⟨w.heap.size + 2, 0, none⟩ (.slice y0 m0 d0)).setCell ⟨w.heap.size + 2, 1, none⟩ (.slice y1 m1 d1)).setCell ⟨w.heap.size + 2, 2, none⟩ (.slice y2 m2 d2)).setCell ⟨w.heap.size + 2, 3, none⟩ (.int .i64 M.fuel)).setCell ⟨w.heap.size + 2, 4, none⟩ (.int .i64 M.bad)) := ⟨_, rfl⟩
  rw [← hZ]
  have h2 : Z.heap[w.heap.size + 2]? = some (.cells #[.slice y0 m0 d0, .slice y1 m1 d1, .slice y2 m2 d2, .int .i64 M.fuel, .int .i64 M.bad] 27 (0, 0)) := by
    rw [hZ]
    exact (heap_set ((heap_set ((heap_set ((heap_set ((heap_set (L2.out.at_ 2 _ rfl))))))))))
  have e0 := cell_at h2 0
  have e1 := cell_at h2 1
  have e2 := cell_at h2 2
  have e3 := cell_at h2 3
  have e4 := cell_at h2 4
  simp at e0 e1 e2 e3 e4
  have HZ : OwnMm Z w.heap.size Z.heap.size (.slice y0 m0 d0) (.slice y1 m1 d1) (.slice y2 m2 d2) M := by
    rw [hZ]
    exact (((((HM2.out.aside (w.heap.size + 2) 0 (.slice y0 m0 d0) (by omega) HX.out.1 HX.out.2.1 HX.out.2.2).aside (w.heap.size + 2) 1 (.slice y1 m1 d1) (by omega) HX.out.1 HX.out.2.1 HX.out.2.2).aside (w.heap.size + 2) 2 (.slice y2 m2 d2) (by omega) HX.out.1 HX.out.2.1 HX.out.2.2).aside (w.heap.size + 2) 3 (.int .i64 M.fuel) (by omega) HX.out.1 HX.out.2.1 HX.out.2.2).aside (w.heap.size + 2) 4 (.int .i64 M.bad) (by omega) HX.out.1 HX.out.2.1 HX.out.2.2).own (by omega)
  have hZB : Below w.heap.size w Z := by
    rw [hZ]
    exact (((((L2.out.low.setCell (p := ⟨w.heap.size + 2, 0, none⟩) (by show _ ≤ _; simp) (.slice y0 m0 d0)).setCell (p := ⟨w.heap.size + 2, 1, none⟩) (by show _ ≤ _; simp) (.slice y1 m1 d1)).setCell (p := ⟨w.heap.size + 2, 2, none⟩) (by show _ ≤ _; simp) (.slice y2 m2 d2)).setCell (p := ⟨w.heap.size + 2, 3, none⟩) (by show _ ≤ _; simp) (.int .i64 M.fuel)).setCell (p := ⟨w.heap.size + 2, 4, none⟩) (by show _ ≤ _; simp) (.int .i64 M.bad))
  refine bodyPost_ret (by simp [results, Try.results22, go_sem, e0, e1, e2, e3, e4, Result.andThen]; try rfl) rfl ?_
  exact ⟨_, _, _, _, _, _, _, _, _, rfl, HZ, hZB⟩

set_option maxRecDepth 100000 in
set_option maxHeartbeats 3200000 in
theorem specMoved_own (B : Nat) (m : Mm) (a0 a1 a2 : Value) (t k : Int) (w : World) (hB : B ≤ w.heap.size) (ha : RowMm w B a0 a1 a2 m) (hn : nilOk a0 ∧ nilOk a1 ∧ nilOk a2) (hl : szMm m ≤ 2000000) :
    Calls Try.prog 21 #[.agg #[a0, a1, a2, .int .i64 m.fuel, .int .i64 m.bad], .agg #[.int .i64 t, .int .i64 k]] w fun e w' => ∃ x0 n0 c0 x1 n1 c1 x2 n2 c2, e = .returned (.tuple #[.agg #[.slice x0 n0 c0, .slice x1 n1 c1, .slice x2 n2 c2, .int .i64 (movedM m t k).1.fuel, .int .i64 (movedM m t k).1.bad], .agg #[.int .i64 (movedM m t k).2.1, .int .i64 (movedM m t k).2.2]]) ∧ OwnMm w' w.heap.size w'.heap.size (.slice x0 n0 c0) (.slice x1 n1 c1) (.slice x2 n2 c2) (movedM m t k).1 ∧ Below w.heap.size w w' := by
  have cC : Hid (∀ W, Below w.heap.size w W → Calls Try.prog 58 #[.agg #[a0, a1, a2, .int .i64 m.fuel, .int .i64 m.bad]] W fun e w' => ∃ x0 n0 c0 x1 n1 c1 x2 n2 c2, e = .returned (.agg #[.slice x0 n0 c0, .slice x1 n1 c1, .slice x2 n2 c2, .int .i64 m.fuel, .int .i64 m.bad]) ∧ (OwnsR ceC 2 w' W.heap.size 82 (.slice x0 n0 c0) m.cells ∧ OwnsI w' W.heap.size (.slice x1 n1 c1) m.input ∧ OwnsI w' W.heap.size (.slice x2 n2 c2) m.out ∧ (fps [.slice x0 n0 c0, .slice x1 n1 c1, .slice x2 n2 c2]).Nodup) ∧ Below W.heap.size W w') := fun W hW =>
    l09Copy_any B m a0 a1 a2 W (Nat.le_trans hB hW.size) (ha.keep (hW.mono hB)) hn hl
  have cX : Hid (∀ K p Z x0 n0 c0 x1 n1 c1 x2 n2 c2, MmAt K Z p (.slice x0 n0 c0) (.slice x1 n1 c1) (.slice x2 n2 c2) m → SpDoes 60 #[.pointer (some ⟨p, 0, none⟩), .agg #[.int .i64 t, .int .i64 k]] Z K p (movedM m t k).1 (.agg #[.int .i64 (movedM m t k).2.1, .int .i64 (movedM m t k).2.2])) := fun K p Z _ _ _ _ _ _ _ _ _ hZ => l09Moved_any K p _ _ _ _ _ _ _ _ _ m t k Z hZ hl
  obtain ⟨fu, hfu⟩ : ∃ f, Hid (m.fuel = f) := ⟨_, (rfl : m.fuel = m.fuel)⟩
  obtain ⟨bd, hbd⟩ : ∃ f, Hid (m.bad = f) := ⟨_, (rfl : m.bad = m.bad)⟩
  rw [hfu.out, hbd.out] at cC ⊢
  obtain ⟨M, hM⟩ : ∃ M, Hid ((movedM m t k).1 = M) := ⟨_, (rfl : (movedM m t k).1 = (movedM m t k).1)⟩
  rw [hM.out] at cX ⊢
  clear ha hn hl
  unfold SpDoes at cX
  obtain ⟨r1, hr1⟩ : ∃ r, Hid ((movedM m t k).2.1 = r) := ⟨_, (rfl : (movedM m t k).2.1 = _)⟩
  obtain ⟨r2, hr2⟩ : ∃ r, Hid ((movedM m t k).2.2 = r) := ⟨_, (rfl : (movedM m t k).2.2 = _)⟩
  rw [hr1.out, hr2.out] at cX ⊢
  have L0 : Hid (Laid w [(.cells #[a0, a1, a2, .int .i64 fu, .int .i64 bd] 27 (0, 0)), (.cells #[.int .i64 t, .int .i64 k] 31 (0, 0)), (.cells #[.slice none 0 0, .slice none 0 0, .slice none 0 0, .int .i64 0, .int .i64 0] 27 (0, 0)), (.cells #[.int .i64 0, .int .i64 0] 31 (0, 0))] ((((w.alloc (.cells #[a0, a1, a2, .int .i64 fu, .int .i64 bd] 27 (0, 0))).alloc (.cells #[.int .i64 t, .int .i64 k] 31 (0, 0))).alloc (.cells #[.slice none 0 0, .slice none 0 0, .slice none 0 0, .int .i64 0, .int .i64 0] 27 (0, 0))).alloc (.cells #[.int .i64 0, .int .i64 0] 31 (0, 0)))) := (allocs_laid [(.cells #[a0, a1, a2, .int .i64 fu, .int .i64 bd] 27 (0, 0)), (.cells #[.int .i64 t, .int .i64 k] 31 (0, 0)), (.cells #[.slice none 0 0, .slice none 0 0, .slice none 0 0, .int .i64 0, .int .i64 0] 27 (0, 0)), (.cells #[.int .i64 0, .int .i64 0] 31 (0, 0))] w).1
  have hz0 : ((((w.alloc (.cells #[a0, a1, a2, .int .i64 fu, .int .i64 bd] 27 (0, 0))).alloc (.cells #[.int .i64 t, .int .i64 k] 31 (0, 0))).alloc (.cells #[.slice none 0 0, .slice none 0 0, .slice none 0 0, .int .i64 0, .int .i64 0] 27 (0, 0))).alloc (.cells #[.int .i64 0, .int .i64 0] 31 (0, 0))).heap.size = w.heap.size + 4 := (allocs_laid [(.cells #[a0, a1, a2, .int .i64 fu, .int .i64 bd] 27 (0, 0)), (.cells #[.int .i64 t, .int .i64 k] 31 (0, 0)), (.cells #[.slice none 0 0, .slice none 0 0, .slice none 0 0, .int .i64 0, .int .i64 0] 27 (0, 0)), (.cells #[.int .i64 0, .int .i64 0] 31 (0, 0))] w).2
  have HZ0 : Hid _ := hz0
  clear hz0
  go_enter Try.func21, Try.ntmps21
  go_wp2_with fail
  go_at_call 58
  refine Calls.mono (cC.out _ L0.out.low) ?_
  rintro e w1 ⟨x0, n0, c0, x1, n1, c1, x2, n2, c2, rfl, ⟨o0, o1, o2, on⟩, hb⟩
  rw [HZ0.out] at o0 o1 o2
  have L1 : Hid (Laid w [(.cells #[a0, a1, a2, .int .i64 fu, .int .i64 bd] 27 (0, 0)), (.cells #[.int .i64 t, .int .i64 k] 31 (0, 0)), (.cells #[.slice none 0 0, .slice none 0 0, .slice none 0 0, .int .i64 0, .int .i64 0] 27 (0, 0)), (.cells #[.int .i64 0, .int .i64 0] 31 (0, 0))] w1) := L0.out.next hb
  have hz1 : w.heap.size + 4 ≤ w1.heap.size := L1.out.size
  have HP : Hid (MmAt (w.heap.size + 4) (w1.alloc (.cells #[.slice x0 n0 c0, .slice x1 n1 c1, .slice x2 n2 c2, .int .i64 fu, .int .i64 bd] 27 (0, 0))) w1.heap.size (.slice x0 n0 c0) (.slice x1 n1 c1) (.slice x2 n2 c2) m) := by
    have := MmAt.of_copy o0 o1 o2 on hz1
    rw [hfu.out, hbd.out] at this
    exact this
  have bt : w1.cell? ⟨w.heap.size + 1, 0, none⟩ = some (.int .i64 t) := cell_at (L1.out.at_ 1 _ rfl) 0
  have bk : w1.cell? ⟨w.heap.size + 1, 1, none⟩ = some (.int .i64 k) := cell_at (L1.out.at_ 1 _ rfl) 1
  have bl : w.heap.size + 1 < w1.heap.size := by omega
  clear hb o0 o1 o2 on L0 HZ0 cC
  go_wp2_with fail
  go_at_call 60
  refine Calls.mono (cX.out _ _ _ _ _ _ _ _ _ _ _ _ HP.out) ?_
  rintro e w2 ⟨rfl, ⟨y0, m0, d0, y1, m1, d1, y2, m2, d2, hM2⟩, hb⟩
  have L2 : Hid (Laid w [(.cells #[a0, a1, a2, .int .i64 fu, .int .i64 bd] 27 (0, 0)), (.cells #[.int .i64 t, .int .i64 k] 31 (0, 0)), (.cells #[.slice none 0 0, .slice none 0 0, .slice none 0 0, .int .i64 0, .int .i64 0] 27 (0, 0)), (.cells #[.int .i64 0, .int .i64 0] 31 (0, 0))] w2) := (L1.out.next ((Below.refl _ _).alloc (Nat.le_refl _) _)).keep hb (by simp)
  have HM2 : Hid (MmAt (w.heap.size + 4) w2 w1.heap.size (.slice y0 m0 d0) (.slice y1 m1 d1) (.slice y2 m2 d2) M) := hM2
  clear hb hM2 cX L1 bt bk bl
  have V3 : Hid ((w2.alloc (.cells #[.int .i64 r1, .int .i64 r2] 31 (0, 0))).heap[w2.heap.size]? = some (.cells #[.int .i64 r1, .int .i64 r2] 31 (0, 0)) ∧ w2.heap.size < (w2.alloc (.cells #[.int .i64 r1, .int .i64 r2] 31 (0, 0))).heap.size) := ⟨heap_alloc_new _ _, by simp⟩
  have L3 : Hid (Laid w [(.cells #[a0, a1, a2, .int .i64 fu, .int .i64 bd] 27 (0, 0)), (.cells #[.int .i64 t, .int .i64 k] 31 (0, 0)), (.cells #[.slice none 0 0, .slice none 0 0, .slice none 0 0, .int .i64 0, .int .i64 0] 27 (0, 0)), (.cells #[.int .i64 0, .int .i64 0] 31 (0, 0))] (w2.alloc (.cells #[.int .i64 r1, .int .i64 r2] 31 (0, 0)))) := L2.out.next ((Below.refl _ _).alloc (Nat.le_refl _) _)
  have HM3 : Hid (MmAt (w.heap.size + 4) (w2.alloc (.cells #[.int .i64 r1, .int .i64 r2] 31 (0, 0))) w1.heap.size (.slice y0 m0 d0) (.slice y1 m1 d1) (.slice y2 m2 d2) M) := HM2.out.below ((Below.refl _ _).alloc (Nat.le_refl _) _)
  have hz2 : w1.heap.size < w2.heap.size := HM2.out.lt
  clear L2 HM2
  go_wp2_with fail
  generalize w2.alloc (.cells #[.int .i64 r1, .int .i64 r2] 31 (0, 0)) = W3 at V3 L3 HM3 ⊢
  have L2 : Hid _ := L3.out
  have HM2 : Hid _ := HM3.out
  clear L3 HM3
  have u0 := cell_at HM2.out.blk 0
  have u1 := cell_at HM2.out.blk 1
  have u2 := cell_at HM2.out.blk 2
  have u3 := cell_at HM2.out.blk 3
  have u4 := cell_at HM2.out.blk 4
  have hlt := HM2.out.lt
  have r0' := cell_at (L2.out.at_ 2 _ rfl) 0
  have q0' := free_at (L2.out.at_ 2 _ rfl) 0
  have r1' := cell_at (L2.out.at_ 2 _ rfl) 1
  have q1' := free_at (L2.out.at_ 2 _ rfl) 1
  have r2' := cell_at (L2.out.at_ 2 _ rfl) 2
  have q2' := free_at (L2.out.at_ 2 _ rfl) 2
  have r3' := cell_at (L2.out.at_ 2 _ rfl) 3
  have q3' := free_at (L2.out.at_ 2 _ rfl) 3
  have r4' := cell_at (L2.out.at_ 2 _ rfl) 4
  have q4' := free_at (L2.out.at_ 2 _ rfl) 4
  simp at u0 u1 u2 u3 u4 r0' r1' r2' r3' r4'
  have HX : Hid (w.heap.size + 2 ∉ fpOf (.slice y0 m0 d0) ∧ w.heap.size + 2 ∉ fpOf (.slice y1 m1 d1) ∧ w.heap.size + 2 ∉ fpOf (.slice y2 m2 d2)) := ⟨fun hm => by have := (OwnsR.lt HM2.out.cells _ hm).1; omega, fun hm => by have := (OwnsR.lt HM2.out.input _ hm).1; omega, fun hm => by have := (OwnsR.lt HM2.out.out _ hm).1; omega⟩
  have v0' := cell_at V3.out.1 0
  have v1' := cell_at V3.out.1 1
  have t0' := cell_at (L2.out.at_ 3 _ rfl) 0
  have z0' := free_at (L2.out.at_ 3 _ rfl) 0
  have t1' := cell_at (L2.out.at_ 3 _ rfl) 1
  have z1' := free_at (L2.out.at_ 3 _ rfl) 1
  have HY : Hid (w.heap.size + 3 ∉ fpOf (.slice y0 m0 d0) ∧ w.heap.size + 3 ∉ fpOf (.slice y1 m1 d1) ∧ w.heap.size + 3 ∉ fpOf (.slice y2 m2 d2)) := ⟨fun hm => by have := (OwnsR.lt HM2.out.cells _ hm).1; omega, fun hm => by have := (OwnsR.lt HM2.out.input _ hm).1; omega, fun hm => by have := (OwnsR.lt HM2.out.out _ hm).1; omega⟩
  simp at v0' v1' t0' t1'
  go_region
  obtain ⟨Z, hZ⟩ : ∃ Z, Z = (((((((W3.setCell ⟨w.heap.size + 2, 0, none⟩ (.slice y0 m0 d0)).setCell ⟨w.heap.size + 2, 1, none⟩ (.slice y1 m1 d1)).setCell ⟨w.heap.size + 2, 2, none⟩ (.slice y2 m2 d2)).setCell ⟨w.heap.size + 2, 3, none⟩ (.int .i64 M.fuel)).setCell ⟨w.heap.size + 2, 4, none⟩ (.int .i64 M.bad)).setCell ⟨w.heap.size + 3, 0, none⟩ (.int .i64 r1)).setCell ⟨w.heap.size + 3, 1, none⟩ (.int .i64 r2)) := ⟨_, rfl⟩
  have HH : Hid (Z.heap[w.heap.size + 2]? = some (.cells #[.slice y0 m0 d0, .slice y1 m1 d1, .slice y2 m2 d2, .int .i64 M.fuel, .int .i64 M.bad] 27 (0, 0)) ∧ Z.heap[w.heap.size + 3]? = some (.cells #[.int .i64 r1, .int .i64 r2] 31 (0, 0))) := by
    rw [hZ]
    exact ⟨((kept_set (by omega)).trans ((kept_set (by omega)).trans (heap_set ((heap_set ((heap_set ((heap_set ((heap_set (L2.out.at_ 2 _ rfl)))))))))))), (heap_set (heap_set ((kept_set (by omega)).trans ((kept_set (by omega)).trans ((kept_set (by omega)).trans ((kept_set (by omega)).trans ((kept_set (by omega)).trans (L2.out.at_ 3 _ rfl))))))))⟩
  have HZ : Hid (OwnMm Z w.heap.size Z.heap.size (.slice y0 m0 d0) (.slice y1 m1 d1) (.slice y2 m2 d2) M) := by
    show OwnMm _ _ _ _ _ _ _
    rw [hZ]
    exact (((((((HM2.out.aside (w.heap.size + 2) 0 (.slice y0 m0 d0) (by omega) HX.out.1 HX.out.2.1 HX.out.2.2).aside (w.heap.size + 2) 1 (.slice y1 m1 d1) (by omega) HX.out.1 HX.out.2.1 HX.out.2.2).aside (w.heap.size + 2) 2 (.slice y2 m2 d2) (by omega) HX.out.1 HX.out.2.1 HX.out.2.2).aside (w.heap.size + 2) 3 (.int .i64 M.fuel) (by omega) HX.out.1 HX.out.2.1 HX.out.2.2).aside (w.heap.size + 2) 4 (.int .i64 M.bad) (by omega) HX.out.1 HX.out.2.1 HX.out.2.2).aside (w.heap.size + 3) 0 (.int .i64 r1) (by omega) HY.out.1 HY.out.2.1 HY.out.2.2).aside (w.heap.size + 3) 1 (.int .i64 r2) (by omega) HY.out.1 HY.out.2.1 HY.out.2.2).own (by omega)
  have HZB : Hid (Below w.heap.size w Z) := by
    show Below _ _ _
    rw [hZ]
    exact (((((((L2.out.low.setCell (p := ⟨w.heap.size + 2, 0, none⟩) (by show _ ≤ _; simp) (.slice y0 m0 d0)).setCell (p := ⟨w.heap.size + 2, 1, none⟩) (by show _ ≤ _; simp) (.slice y1 m1 d1)).setCell (p := ⟨w.heap.size + 2, 2, none⟩) (by show _ ≤ _; simp) (.slice y2 m2 d2)).setCell (p := ⟨w.heap.size + 2, 3, none⟩) (by show _ ≤ _; simp) (.int .i64 M.fuel)).setCell (p := ⟨w.heap.size + 2, 4, none⟩) (by show _ ≤ _; simp) (.int .i64 M.bad)).setCell (p := ⟨w.heap.size + 3, 0, none⟩) (by show _ ≤ _; simp) (.int .i64 r1)).setCell (p := ⟨w.heap.size + 3, 1, none⟩) (by show _ ≤ _; simp) (.int .i64 r2))
  rw [← hZ]
  clear hZ
  have e0 := cell_at HH.out.1 0
  have e1 := cell_at HH.out.1 1
  have e2 := cell_at HH.out.1 2
  have e3 := cell_at HH.out.1 3
  have e4 := cell_at HH.out.1 4
  have e5 := cell_at HH.out.2 0
  have e6 := cell_at HH.out.2 1
  simp at e0 e1 e2 e3 e4 e5 e6
  go_wp2
  refine bodyPost_ret (by simp [results, Try.results21, go_sem, e0, e1, e2, e3, e4, e5, e6, Result.andThen]; try rfl) rfl ?_
  exact ⟨_, _, _, _, _, _, _, _, _, rfl, HZ.out.move (Nat.le_refl _) (fun _ _ _ => rfl), HZB.out.drew⟩

end Go.Proofs.Ytabejilnpblogaa
