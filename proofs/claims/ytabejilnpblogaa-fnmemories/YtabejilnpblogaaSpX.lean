/-
  The model's memory: what is done to it, by value. Written by mkspx.py.
-/
import Derived.Test.YtabejilnpblogaaSpAsk
import Derived.Test.YtabejilnpblogaaSpFree
namespace Go.Proofs.Ytabejilnpblogaa
open Go.RowKit

theorem MmAt.of_copy {K : Nat} {w1 : World} {v0 v1 v2 : Value} {m : Mm} (h0 : OwnsR ceC 2 w1 K 82 v0 m.cells) (h1 : OwnsI w1 K v1 m.input) (h2 : OwnsI w1 K v2 m.out) (hn : (fps [v0, v1, v2]).Nodup) (hK : K ≤ w1.heap.size) :
    MmAt K (w1.alloc (.cells #[v0, v1, v2, .int .i64 m.fuel, .int .i64 m.bad] 27 (0, 0))) w1.heap.size v0 v1 v2 m := by
  have hb : Below w1.heap.size w1 (w1.alloc (.cells #[v0, v1, v2, .int .i64 m.fuel, .int .i64 m.bad] 27 (0, 0))) := (Below.refl _ _).alloc (Nat.le_refl _) _
  refine ⟨heap_alloc_new _ _, OwnsR.below h0 hb, OwnsR.below h1 hb, OwnsR.below h2 hb, ?_, hK⟩
  rw [List.nodup_cons]
  refine ⟨fun hm => ?_, hn⟩
  simp only [fps_cons, List.mem_append] at hm
  rcases hm with hm | hm | hm | hm
  · have := (OwnsR.lt h0 _ hm).2; omega
  · have := (OwnsR.lt h1 _ hm).2; omega
  · have := (OwnsR.lt h2 _ hm).2; omega
  · simp [fps] at hm

/-- Blocks made one behind the other at w, as they stand at W. -/
def allocs (w : World) : List Obj → World
  | [] => w
  | o :: bs => allocs (w.alloc o) bs
structure Laid (w : World) (bs : List Obj) (W : World) : Prop where
  low : Below w.heap.size w W
  size : w.heap.size + bs.length ≤ W.heap.size
  at_ : ∀ i o, bs[i]? = some o → W.heap[w.heap.size + i]? = some o
theorem allocs_laid : ∀ (bs : List Obj) (w : World), Laid w bs (allocs w bs) ∧ (allocs w bs).heap.size = w.heap.size + bs.length := by
  intro bs
  induction bs with
  | nil => intro w; exact ⟨⟨Below.refl _ _, by simp [allocs], fun i o h => by simp at h⟩, by simp [allocs]⟩
  | cons b bs ih =>
    intro w
    obtain ⟨h, hz⟩ := ih (w.alloc b)
    have hz1 : (w.alloc b).heap.size = w.heap.size + 1 := by simp
    have hl : Below w.heap.size w (w.alloc b) := (Below.refl _ _).alloc (Nat.le_refl _) _
    have hz2 : (allocs w (b :: bs)).heap.size = w.heap.size + (b :: bs).length := by
      show (allocs (w.alloc b) bs).heap.size = _
      rw [hz, hz1, List.length_cons]
      omega
    refine ⟨⟨hl.trans (h.low.mono (by omega)), Nat.le_of_eq hz2.symm, fun i o ho => ?_⟩, hz2⟩
    show (allocs (w.alloc b) bs).heap[w.heap.size + i]? = some o
    cases i with
    | zero =>
      rw [List.getElem?_cons_zero] at ho
      cases ho
      exact (h.low.block w.heap.size (by omega)).trans (heap_alloc_new _ _)
    | succ i =>
      rw [List.getElem?_cons_succ] at ho
      have := h.at_ i o ho
      rw [hz1] at this
      rw [show w.heap.size + (i + 1) = w.heap.size + 1 + i by omega]
      exact this
theorem Laid.next {w W W' : World} {bs : List Obj} (h : Laid w bs W) (hb : Below W.heap.size W W') : Laid w bs W' :=
  ⟨h.low.trans (hb.mono (by have := h.size; omega)), by have := h.size; have := hb.size; omega, fun i o ho => by
    have hi : i < bs.length := (List.getElem?_eq_some_iff.mp ho).1
    exact (hb.block _ (by have := h.size; omega)).trans (h.at_ i o ho)⟩
theorem Laid.keep {w W W' : World} {bs : List Obj} {K : Nat} (h : Laid w bs W) (hb : Below K W W') (hK : w.heap.size + bs.length ≤ K) : Laid w bs W' :=
  ⟨h.low.trans (hb.mono (by omega)), by have := h.size; have := hb.size; omega, fun i o ho => by
    have hi : i < bs.length := (List.getElem?_eq_some_iff.mp ho).1
    exact (hb.block _ (by omega)).trans (h.at_ i o ho)⟩

set_option maxRecDepth 100000 in
set_option maxHeartbeats 3200000 in
theorem specSpend_any (B : Nat) (m : Mm) (a0 a1 a2 : Value) (w : World) (hB : B ≤ w.heap.size) (ha : RowMm w B a0 a1 a2 m) (hn : nilOk a0 ∧ nilOk a1 ∧ nilOk a2) (hl : szMm m ≤ 2000000) (hf : -9223372036854775808 ≤ m.fuel ∧ m.fuel ≤ 9223372036854775807) :
    Calls Try.prog 29 #[.agg #[a0, a1, a2, .int .i64 m.fuel, .int .i64 m.bad]] w fun e w' => ∃ x0 n0 c0 x1 n1 c1 x2 n2 c2, e = .returned (.agg #[.slice x0 n0 c0, .slice x1 n1 c1, .slice x2 n2 c2, .int .i64 (spendM m).fuel, .int .i64 (spendM m).bad]) ∧ RowMm w' w'.heap.size (.slice x0 n0 c0) (.slice x1 n1 c1) (.slice x2 n2 c2) (spendM m) ∧ Below w.heap.size w w' := by
  have cC : Hid (∀ W, Below w.heap.size w W → Calls Try.prog 58 #[.agg #[a0, a1, a2, .int .i64 m.fuel, .int .i64 m.bad]] W fun e w' => ∃ x0 n0 c0 x1 n1 c1 x2 n2 c2, e = .returned (.agg #[.slice x0 n0 c0, .slice x1 n1 c1, .slice x2 n2 c2, .int .i64 m.fuel, .int .i64 m.bad]) ∧ (OwnsR ceC 2 w' W.heap.size 82 (.slice x0 n0 c0) m.cells ∧ OwnsI w' W.heap.size (.slice x1 n1 c1) m.input ∧ OwnsI w' W.heap.size (.slice x2 n2 c2) m.out ∧ (fps [.slice x0 n0 c0, .slice x1 n1 c1, .slice x2 n2 c2]).Nodup) ∧ Below W.heap.size W w') := fun W hW =>
    l09Copy_any B m a0 a1 a2 W (Nat.le_trans hB hW.size) (ha.keep (hW.mono hB)) hn hl
  have cX : Hid (∀ K p Z x0 n0 c0 x1 n1 c1 x2 n2 c2, MmAt K Z p (.slice x0 n0 c0) (.slice x1 n1 c1) (.slice x2 n2 c2) m → SpDoes 71 #[.pointer (some ⟨p, 0, none⟩)] Z K p (spendM m) (.tuple #[])) := fun K p Z _ _ _ _ _ _ _ _ _ hZ => l09Spend_any K p _ _ _ _ _ _ _ _ _ m Z hZ ⟨hf.1, hf.2⟩
  obtain ⟨fu, hfu⟩ : ∃ f, Hid (m.fuel = f) := ⟨_, (rfl : m.fuel = m.fuel)⟩
  obtain ⟨bd, hbd⟩ : ∃ f, Hid (m.bad = f) := ⟨_, (rfl : m.bad = m.bad)⟩
  rw [hfu.out, hbd.out] at cC ⊢
  obtain ⟨M, hM⟩ : ∃ M, Hid ((spendM m) = M) := ⟨_, (rfl : (spendM m) = (spendM m))⟩
  rw [hM.out] at cX ⊢
  clear ha hn hl hf
  unfold SpDoes at cX
  have L0 : Hid (Laid w [(.cells #[a0, a1, a2, .int .i64 fu, .int .i64 bd] 27 (0, 0)), (.cells #[.slice none 0 0, .slice none 0 0, .slice none 0 0, .int .i64 0, .int .i64 0] 27 (0, 0))] ((w.alloc (.cells #[a0, a1, a2, .int .i64 fu, .int .i64 bd] 27 (0, 0))).alloc (.cells #[.slice none 0 0, .slice none 0 0, .slice none 0 0, .int .i64 0, .int .i64 0] 27 (0, 0)))) := (allocs_laid [(.cells #[a0, a1, a2, .int .i64 fu, .int .i64 bd] 27 (0, 0)), (.cells #[.slice none 0 0, .slice none 0 0, .slice none 0 0, .int .i64 0, .int .i64 0] 27 (0, 0))] w).1
  have hz0 : ((w.alloc (.cells #[a0, a1, a2, .int .i64 fu, .int .i64 bd] 27 (0, 0))).alloc (.cells #[.slice none 0 0, .slice none 0 0, .slice none 0 0, .int .i64 0, .int .i64 0] 27 (0, 0))).heap.size = w.heap.size + 2 := (allocs_laid [(.cells #[a0, a1, a2, .int .i64 fu, .int .i64 bd] 27 (0, 0)), (.cells #[.slice none 0 0, .slice none 0 0, .slice none 0 0, .int .i64 0, .int .i64 0] 27 (0, 0))] w).2
  have HZ0 : Hid _ := hz0
  clear hz0
  go_enter Try.func29, Try.ntmps29
  go_wp2_with fail
  go_at_call 58
  refine Calls.mono (cC.out _ L0.out.low) ?_
  rintro e w1 ⟨x0, n0, c0, x1, n1, c1, x2, n2, c2, rfl, ⟨o0, o1, o2, on⟩, hb⟩
  rw [HZ0.out] at o0 o1 o2
  have L1 : Hid (Laid w [(.cells #[a0, a1, a2, .int .i64 fu, .int .i64 bd] 27 (0, 0)), (.cells #[.slice none 0 0, .slice none 0 0, .slice none 0 0, .int .i64 0, .int .i64 0] 27 (0, 0))] w1) := L0.out.next hb
  have hz1 : w.heap.size + 2 ≤ w1.heap.size := L1.out.size
  have HP : Hid (MmAt (w.heap.size + 2) (w1.alloc (.cells #[.slice x0 n0 c0, .slice x1 n1 c1, .slice x2 n2 c2, .int .i64 fu, .int .i64 bd] 27 (0, 0))) w1.heap.size (.slice x0 n0 c0) (.slice x1 n1 c1) (.slice x2 n2 c2) m) := by
    have := MmAt.of_copy o0 o1 o2 on hz1
    rw [hfu.out, hbd.out] at this
    exact this
  clear hb o0 o1 o2 on L0 HZ0 cC
  go_wp2_with fail
  go_at_call 71
  refine Calls.mono (cX.out _ _ _ _ _ _ _ _ _ _ _ _ HP.out) ?_
  rintro e w2 ⟨rfl, ⟨y0, m0, d0, y1, m1, d1, y2, m2, d2, hM2⟩, hb⟩
  have L2 : Hid (Laid w [(.cells #[a0, a1, a2, .int .i64 fu, .int .i64 bd] 27 (0, 0)), (.cells #[.slice none 0 0, .slice none 0 0, .slice none 0 0, .int .i64 0, .int .i64 0] 27 (0, 0))] w2) := (L1.out.next ((Below.refl _ _).alloc (Nat.le_refl _) _)).keep hb (by simp)
  have HM2 : Hid (MmAt (w.heap.size + 2) w2 w1.heap.size (.slice y0 m0 d0) (.slice y1 m1 d1) (.slice y2 m2 d2) M) := hM2
  clear hb hM2 cX L1
  have u0 := cell_at HM2.out.blk 0
  have u1 := cell_at HM2.out.blk 1
  have u2 := cell_at HM2.out.blk 2
  have u3 := cell_at HM2.out.blk 3
  have u4 := cell_at HM2.out.blk 4
  have hlt := HM2.out.lt
  have r0' := cell_at (L2.out.at_ 1 _ rfl) 0
  have q0' := free_at (L2.out.at_ 1 _ rfl) 0
  have r1' := cell_at (L2.out.at_ 1 _ rfl) 1
  have q1' := free_at (L2.out.at_ 1 _ rfl) 1
  have r2' := cell_at (L2.out.at_ 1 _ rfl) 2
  have q2' := free_at (L2.out.at_ 1 _ rfl) 2
  have r3' := cell_at (L2.out.at_ 1 _ rfl) 3
  have q3' := free_at (L2.out.at_ 1 _ rfl) 3
  have r4' := cell_at (L2.out.at_ 1 _ rfl) 4
  have q4' := free_at (L2.out.at_ 1 _ rfl) 4
  simp at u0 u1 u2 u3 u4 r0' r1' r2' r3' r4'
  have HX : Hid (w.heap.size + 1 ∉ fpOf (.slice y0 m0 d0) ∧ w.heap.size + 1 ∉ fpOf (.slice y1 m1 d1) ∧ w.heap.size + 1 ∉ fpOf (.slice y2 m2 d2)) := ⟨fun hm => by have := (OwnsR.lt HM2.out.cells _ hm).1; omega, fun hm => by have := (OwnsR.lt HM2.out.input _ hm).1; omega, fun hm => by have := (OwnsR.lt HM2.out.out _ hm).1; omega⟩
  go_wp2
  obtain ⟨Z, hZ⟩ : ∃ Z, Z = (((((w2.setCell ⟨w.heap.size + 1, 0, none⟩ (.slice y0 m0 d0)).setCell ⟨w.heap.size + 1, 1, none⟩ (.slice y1 m1 d1)).setCell ⟨w.heap.size + 1, 2, none⟩ (.slice y2 m2 d2)).setCell ⟨w.heap.size + 1, 3, none⟩ (.int .i64 M.fuel)).setCell ⟨w.heap.size + 1, 4, none⟩ (.int .i64 M.bad)) := ⟨_, rfl⟩
  rw [← hZ]
  have h2 : Z.heap[w.heap.size + 1]? = some (.cells #[.slice y0 m0 d0, .slice y1 m1 d1, .slice y2 m2 d2, .int .i64 M.fuel, .int .i64 M.bad] 27 (0, 0)) := by
    rw [hZ]
    exact (heap_set ((heap_set ((heap_set ((heap_set ((heap_set (L2.out.at_ 1 _ rfl))))))))))
  have e0 := cell_at h2 0
  have e1 := cell_at h2 1
  have e2 := cell_at h2 2
  have e3 := cell_at h2 3
  have e4 := cell_at h2 4
  simp at e0 e1 e2 e3 e4
  have HZ : RowMm Z Z.heap.size (.slice y0 m0 d0) (.slice y1 m1 d1) (.slice y2 m2 d2) M := by
    rw [hZ]
    exact (((((HM2.out.aside (w.heap.size + 1) 0 (.slice y0 m0 d0) (by omega) HX.out.1 HX.out.2.1 HX.out.2.2).aside (w.heap.size + 1) 1 (.slice y1 m1 d1) (by omega) HX.out.1 HX.out.2.1 HX.out.2.2).aside (w.heap.size + 1) 2 (.slice y2 m2 d2) (by omega) HX.out.1 HX.out.2.1 HX.out.2.2).aside (w.heap.size + 1) 3 (.int .i64 M.fuel) (by omega) HX.out.1 HX.out.2.1 HX.out.2.2).aside (w.heap.size + 1) 4 (.int .i64 M.bad) (by omega) HX.out.1 HX.out.2.1 HX.out.2.2).row
  have hZB : Below w.heap.size w Z := by
    rw [hZ]
    exact (((((L2.out.low.setCell (p := ⟨w.heap.size + 1, 0, none⟩) (by show _ ≤ _; simp) (.slice y0 m0 d0)).setCell (p := ⟨w.heap.size + 1, 1, none⟩) (by show _ ≤ _; simp) (.slice y1 m1 d1)).setCell (p := ⟨w.heap.size + 1, 2, none⟩) (by show _ ≤ _; simp) (.slice y2 m2 d2)).setCell (p := ⟨w.heap.size + 1, 3, none⟩) (by show _ ≤ _; simp) (.int .i64 M.fuel)).setCell (p := ⟨w.heap.size + 1, 4, none⟩) (by show _ ≤ _; simp) (.int .i64 M.bad))
  refine bodyPost_ret (by simp [results, Try.results29, go_sem, e0, e1, e2, e3, e4]; try rfl) rfl ?_
  exact ⟨_, _, _, _, _, _, _, _, _, rfl, HZ, hZB⟩

set_option maxRecDepth 100000 in
set_option maxHeartbeats 3200000 in
theorem specTold_any (B : Nat) (m : Mm) (a0 a1 a2 : Value) (k : Int) (w : World) (hB : B ≤ w.heap.size) (ha : RowMm w B a0 a1 a2 m) (hn : nilOk a0 ∧ nilOk a1 ∧ nilOk a2) (hl : szMm m ≤ 2000000) :
    Calls Try.prog 33 #[.agg #[a0, a1, a2, .int .i64 m.fuel, .int .i64 m.bad], .int .i64 k] w fun e w' => ∃ x0 n0 c0 x1 n1 c1 x2 n2 c2, e = .returned (.agg #[.slice x0 n0 c0, .slice x1 n1 c1, .slice x2 n2 c2, .int .i64 (toldM m k).fuel, .int .i64 (toldM m k).bad]) ∧ RowMm w' w'.heap.size (.slice x0 n0 c0) (.slice x1 n1 c1) (.slice x2 n2 c2) (toldM m k) ∧ Below w.heap.size w w' := by
  have cC : Hid (∀ W, Below w.heap.size w W → Calls Try.prog 58 #[.agg #[a0, a1, a2, .int .i64 m.fuel, .int .i64 m.bad]] W fun e w' => ∃ x0 n0 c0 x1 n1 c1 x2 n2 c2, e = .returned (.agg #[.slice x0 n0 c0, .slice x1 n1 c1, .slice x2 n2 c2, .int .i64 m.fuel, .int .i64 m.bad]) ∧ (OwnsR ceC 2 w' W.heap.size 82 (.slice x0 n0 c0) m.cells ∧ OwnsI w' W.heap.size (.slice x1 n1 c1) m.input ∧ OwnsI w' W.heap.size (.slice x2 n2 c2) m.out ∧ (fps [.slice x0 n0 c0, .slice x1 n1 c1, .slice x2 n2 c2]).Nodup) ∧ Below W.heap.size W w') := fun W hW =>
    l09Copy_any B m a0 a1 a2 W (Nat.le_trans hB hW.size) (ha.keep (hW.mono hB)) hn hl
  have cX : Hid (∀ K p Z x0 n0 c0 x1 n1 c1 x2 n2 c2, MmAt K Z p (.slice x0 n0 c0) (.slice x1 n1 c1) (.slice x2 n2 c2) m → SpDoes 76 #[.pointer (some ⟨p, 0, none⟩), .int .i64 k] Z K p (toldM m k) (.tuple #[])) := fun K p Z _ _ _ _ _ _ _ _ _ hZ => l09Told_any K p _ _ _ _ _ _ _ _ _ m k Z hZ hl
  obtain ⟨fu, hfu⟩ : ∃ f, Hid (m.fuel = f) := ⟨_, (rfl : m.fuel = m.fuel)⟩
  obtain ⟨bd, hbd⟩ : ∃ f, Hid (m.bad = f) := ⟨_, (rfl : m.bad = m.bad)⟩
  rw [hfu.out, hbd.out] at cC ⊢
  obtain ⟨M, hM⟩ : ∃ M, Hid ((toldM m k) = M) := ⟨_, (rfl : (toldM m k) = (toldM m k))⟩
  rw [hM.out] at cX ⊢
  clear ha hn hl
  unfold SpDoes at cX
  have L0 : Hid (Laid w [(.cells #[a0, a1, a2, .int .i64 fu, .int .i64 bd] 27 (0, 0)), (.cells #[.slice none 0 0, .slice none 0 0, .slice none 0 0, .int .i64 0, .int .i64 0] 27 (0, 0))] ((w.alloc (.cells #[a0, a1, a2, .int .i64 fu, .int .i64 bd] 27 (0, 0))).alloc (.cells #[.slice none 0 0, .slice none 0 0, .slice none 0 0, .int .i64 0, .int .i64 0] 27 (0, 0)))) := (allocs_laid [(.cells #[a0, a1, a2, .int .i64 fu, .int .i64 bd] 27 (0, 0)), (.cells #[.slice none 0 0, .slice none 0 0, .slice none 0 0, .int .i64 0, .int .i64 0] 27 (0, 0))] w).1
  have hz0 : ((w.alloc (.cells #[a0, a1, a2, .int .i64 fu, .int .i64 bd] 27 (0, 0))).alloc (.cells #[.slice none 0 0, .slice none 0 0, .slice none 0 0, .int .i64 0, .int .i64 0] 27 (0, 0))).heap.size = w.heap.size + 2 := (allocs_laid [(.cells #[a0, a1, a2, .int .i64 fu, .int .i64 bd] 27 (0, 0)), (.cells #[.slice none 0 0, .slice none 0 0, .slice none 0 0, .int .i64 0, .int .i64 0] 27 (0, 0))] w).2
  have HZ0 : Hid _ := hz0
  clear hz0
  go_enter Try.func33, Try.ntmps33
  go_wp2_with fail
  go_at_call 58
  refine Calls.mono (cC.out _ L0.out.low) ?_
  rintro e w1 ⟨x0, n0, c0, x1, n1, c1, x2, n2, c2, rfl, ⟨o0, o1, o2, on⟩, hb⟩
  rw [HZ0.out] at o0 o1 o2
  have L1 : Hid (Laid w [(.cells #[a0, a1, a2, .int .i64 fu, .int .i64 bd] 27 (0, 0)), (.cells #[.slice none 0 0, .slice none 0 0, .slice none 0 0, .int .i64 0, .int .i64 0] 27 (0, 0))] w1) := L0.out.next hb
  have hz1 : w.heap.size + 2 ≤ w1.heap.size := L1.out.size
  have HP : Hid (MmAt (w.heap.size + 2) (w1.alloc (.cells #[.slice x0 n0 c0, .slice x1 n1 c1, .slice x2 n2 c2, .int .i64 fu, .int .i64 bd] 27 (0, 0))) w1.heap.size (.slice x0 n0 c0) (.slice x1 n1 c1) (.slice x2 n2 c2) m) := by
    have := MmAt.of_copy o0 o1 o2 on hz1
    rw [hfu.out, hbd.out] at this
    exact this
  clear hb o0 o1 o2 on L0 HZ0 cC
  go_wp2_with fail
  go_at_call 76
  refine Calls.mono (cX.out _ _ _ _ _ _ _ _ _ _ _ _ HP.out) ?_
  rintro e w2 ⟨rfl, ⟨y0, m0, d0, y1, m1, d1, y2, m2, d2, hM2⟩, hb⟩
  have L2 : Hid (Laid w [(.cells #[a0, a1, a2, .int .i64 fu, .int .i64 bd] 27 (0, 0)), (.cells #[.slice none 0 0, .slice none 0 0, .slice none 0 0, .int .i64 0, .int .i64 0] 27 (0, 0))] w2) := (L1.out.next ((Below.refl _ _).alloc (Nat.le_refl _) _)).keep hb (by simp)
  have HM2 : Hid (MmAt (w.heap.size + 2) w2 w1.heap.size (.slice y0 m0 d0) (.slice y1 m1 d1) (.slice y2 m2 d2) M) := hM2
  clear hb hM2 cX L1
  have u0 := cell_at HM2.out.blk 0
  have u1 := cell_at HM2.out.blk 1
  have u2 := cell_at HM2.out.blk 2
  have u3 := cell_at HM2.out.blk 3
  have u4 := cell_at HM2.out.blk 4
  have hlt := HM2.out.lt
  have r0' := cell_at (L2.out.at_ 1 _ rfl) 0
  have q0' := free_at (L2.out.at_ 1 _ rfl) 0
  have r1' := cell_at (L2.out.at_ 1 _ rfl) 1
  have q1' := free_at (L2.out.at_ 1 _ rfl) 1
  have r2' := cell_at (L2.out.at_ 1 _ rfl) 2
  have q2' := free_at (L2.out.at_ 1 _ rfl) 2
  have r3' := cell_at (L2.out.at_ 1 _ rfl) 3
  have q3' := free_at (L2.out.at_ 1 _ rfl) 3
  have r4' := cell_at (L2.out.at_ 1 _ rfl) 4
  have q4' := free_at (L2.out.at_ 1 _ rfl) 4
  simp at u0 u1 u2 u3 u4 r0' r1' r2' r3' r4'
  have HX : Hid (w.heap.size + 1 ∉ fpOf (.slice y0 m0 d0) ∧ w.heap.size + 1 ∉ fpOf (.slice y1 m1 d1) ∧ w.heap.size + 1 ∉ fpOf (.slice y2 m2 d2)) := ⟨fun hm => by have := (OwnsR.lt HM2.out.cells _ hm).1; omega, fun hm => by have := (OwnsR.lt HM2.out.input _ hm).1; omega, fun hm => by have := (OwnsR.lt HM2.out.out _ hm).1; omega⟩
  go_wp2
  obtain ⟨Z, hZ⟩ : ∃ Z, Z = (((((w2.setCell ⟨w.heap.size + 1, 0, none⟩ (.slice y0 m0 d0)).setCell ⟨w.heap.size + 1, 1, none⟩ (.slice y1 m1 d1)).setCell ⟨w.heap.size + 1, 2, none⟩ (.slice y2 m2 d2)).setCell ⟨w.heap.size + 1, 3, none⟩ (.int .i64 M.fuel)).setCell ⟨w.heap.size + 1, 4, none⟩ (.int .i64 M.bad)) := ⟨_, rfl⟩
  rw [← hZ]
  have h2 : Z.heap[w.heap.size + 1]? = some (.cells #[.slice y0 m0 d0, .slice y1 m1 d1, .slice y2 m2 d2, .int .i64 M.fuel, .int .i64 M.bad] 27 (0, 0)) := by
    rw [hZ]
    exact (heap_set ((heap_set ((heap_set ((heap_set ((heap_set (L2.out.at_ 1 _ rfl))))))))))
  have e0 := cell_at h2 0
  have e1 := cell_at h2 1
  have e2 := cell_at h2 2
  have e3 := cell_at h2 3
  have e4 := cell_at h2 4
  simp at e0 e1 e2 e3 e4
  have HZ : RowMm Z Z.heap.size (.slice y0 m0 d0) (.slice y1 m1 d1) (.slice y2 m2 d2) M := by
    rw [hZ]
    exact (((((HM2.out.aside (w.heap.size + 1) 0 (.slice y0 m0 d0) (by omega) HX.out.1 HX.out.2.1 HX.out.2.2).aside (w.heap.size + 1) 1 (.slice y1 m1 d1) (by omega) HX.out.1 HX.out.2.1 HX.out.2.2).aside (w.heap.size + 1) 2 (.slice y2 m2 d2) (by omega) HX.out.1 HX.out.2.1 HX.out.2.2).aside (w.heap.size + 1) 3 (.int .i64 M.fuel) (by omega) HX.out.1 HX.out.2.1 HX.out.2.2).aside (w.heap.size + 1) 4 (.int .i64 M.bad) (by omega) HX.out.1 HX.out.2.1 HX.out.2.2).row
  have hZB : Below w.heap.size w Z := by
    rw [hZ]
    exact (((((L2.out.low.setCell (p := ⟨w.heap.size + 1, 0, none⟩) (by show _ ≤ _; simp) (.slice y0 m0 d0)).setCell (p := ⟨w.heap.size + 1, 1, none⟩) (by show _ ≤ _; simp) (.slice y1 m1 d1)).setCell (p := ⟨w.heap.size + 1, 2, none⟩) (by show _ ≤ _; simp) (.slice y2 m2 d2)).setCell (p := ⟨w.heap.size + 1, 3, none⟩) (by show _ ≤ _; simp) (.int .i64 M.fuel)).setCell (p := ⟨w.heap.size + 1, 4, none⟩) (by show _ ≤ _; simp) (.int .i64 M.bad))
  refine bodyPost_ret (by simp [results, Try.results33, go_sem, e0, e1, e2, e3, e4]; try rfl) rfl ?_
  exact ⟨_, _, _, _, _, _, _, _, _, rfl, HZ, hZB⟩

set_option maxRecDepth 100000 in
set_option maxHeartbeats 3200000 in
theorem specFreed_any (B : Nat) (m : Mm) (a0 a1 a2 : Value) (t k : Int) (w : World) (hB : B ≤ w.heap.size) (ha : RowMm w B a0 a1 a2 m) (hn : nilOk a0 ∧ nilOk a1 ∧ nilOk a2) (hl : szMm m ≤ 2000000) :
    Calls Try.prog 30 #[.agg #[a0, a1, a2, .int .i64 m.fuel, .int .i64 m.bad], .agg #[.int .i64 t, .int .i64 k]] w fun e w' => ∃ x0 n0 c0 x1 n1 c1 x2 n2 c2, e = .returned (.agg #[.slice x0 n0 c0, .slice x1 n1 c1, .slice x2 n2 c2, .int .i64 (freedM m t k).fuel, .int .i64 (freedM m t k).bad]) ∧ RowMm w' w'.heap.size (.slice x0 n0 c0) (.slice x1 n1 c1) (.slice x2 n2 c2) (freedM m t k) ∧ Below w.heap.size w w' := by
  have cC : Hid (∀ W, Below w.heap.size w W → Calls Try.prog 58 #[.agg #[a0, a1, a2, .int .i64 m.fuel, .int .i64 m.bad]] W fun e w' => ∃ x0 n0 c0 x1 n1 c1 x2 n2 c2, e = .returned (.agg #[.slice x0 n0 c0, .slice x1 n1 c1, .slice x2 n2 c2, .int .i64 m.fuel, .int .i64 m.bad]) ∧ (OwnsR ceC 2 w' W.heap.size 82 (.slice x0 n0 c0) m.cells ∧ OwnsI w' W.heap.size (.slice x1 n1 c1) m.input ∧ OwnsI w' W.heap.size (.slice x2 n2 c2) m.out ∧ (fps [.slice x0 n0 c0, .slice x1 n1 c1, .slice x2 n2 c2]).Nodup) ∧ Below W.heap.size W w') := fun W hW =>
    l09Copy_any B m a0 a1 a2 W (Nat.le_trans hB hW.size) (ha.keep (hW.mono hB)) hn hl
  have cX : Hid (∀ K p Z x0 n0 c0 x1 n1 c1 x2 n2 c2, MmAt K Z p (.slice x0 n0 c0) (.slice x1 n1 c1) (.slice x2 n2 c2) m → SpDoes 72 #[.pointer (some ⟨p, 0, none⟩), .agg #[.int .i64 t, .int .i64 k]] Z K p (freedM m t k) (.tuple #[])) := fun K p Z _ _ _ _ _ _ _ _ _ hZ => l09Freed_any K p _ _ _ _ _ _ _ _ _ m t k Z hZ hl
  obtain ⟨fu, hfu⟩ : ∃ f, Hid (m.fuel = f) := ⟨_, (rfl : m.fuel = m.fuel)⟩
  obtain ⟨bd, hbd⟩ : ∃ f, Hid (m.bad = f) := ⟨_, (rfl : m.bad = m.bad)⟩
  rw [hfu.out, hbd.out] at cC ⊢
  obtain ⟨M, hM⟩ : ∃ M, Hid ((freedM m t k) = M) := ⟨_, (rfl : (freedM m t k) = (freedM m t k))⟩
  rw [hM.out] at cX ⊢
  clear ha hn hl
  unfold SpDoes at cX
  have L0 : Hid (Laid w [(.cells #[a0, a1, a2, .int .i64 fu, .int .i64 bd] 27 (0, 0)), (.cells #[.int .i64 t, .int .i64 k] 31 (0, 0)), (.cells #[.slice none 0 0, .slice none 0 0, .slice none 0 0, .int .i64 0, .int .i64 0] 27 (0, 0))] (((w.alloc (.cells #[a0, a1, a2, .int .i64 fu, .int .i64 bd] 27 (0, 0))).alloc (.cells #[.int .i64 t, .int .i64 k] 31 (0, 0))).alloc (.cells #[.slice none 0 0, .slice none 0 0, .slice none 0 0, .int .i64 0, .int .i64 0] 27 (0, 0)))) := (allocs_laid [(.cells #[a0, a1, a2, .int .i64 fu, .int .i64 bd] 27 (0, 0)), (.cells #[.int .i64 t, .int .i64 k] 31 (0, 0)), (.cells #[.slice none 0 0, .slice none 0 0, .slice none 0 0, .int .i64 0, .int .i64 0] 27 (0, 0))] w).1
  have hz0 : (((w.alloc (.cells #[a0, a1, a2, .int .i64 fu, .int .i64 bd] 27 (0, 0))).alloc (.cells #[.int .i64 t, .int .i64 k] 31 (0, 0))).alloc (.cells #[.slice none 0 0, .slice none 0 0, .slice none 0 0, .int .i64 0, .int .i64 0] 27 (0, 0))).heap.size = w.heap.size + 3 := (allocs_laid [(.cells #[a0, a1, a2, .int .i64 fu, .int .i64 bd] 27 (0, 0)), (.cells #[.int .i64 t, .int .i64 k] 31 (0, 0)), (.cells #[.slice none 0 0, .slice none 0 0, .slice none 0 0, .int .i64 0, .int .i64 0] 27 (0, 0))] w).2
  have HZ0 : Hid _ := hz0
  clear hz0
  go_enter Try.func30, Try.ntmps30
  go_wp2_with fail
  go_at_call 58
  refine Calls.mono (cC.out _ L0.out.low) ?_
  rintro e w1 ⟨x0, n0, c0, x1, n1, c1, x2, n2, c2, rfl, ⟨o0, o1, o2, on⟩, hb⟩
  rw [HZ0.out] at o0 o1 o2
  have L1 : Hid (Laid w [(.cells #[a0, a1, a2, .int .i64 fu, .int .i64 bd] 27 (0, 0)), (.cells #[.int .i64 t, .int .i64 k] 31 (0, 0)), (.cells #[.slice none 0 0, .slice none 0 0, .slice none 0 0, .int .i64 0, .int .i64 0] 27 (0, 0))] w1) := L0.out.next hb
  have hz1 : w.heap.size + 3 ≤ w1.heap.size := L1.out.size
  have HP : Hid (MmAt (w.heap.size + 3) (w1.alloc (.cells #[.slice x0 n0 c0, .slice x1 n1 c1, .slice x2 n2 c2, .int .i64 fu, .int .i64 bd] 27 (0, 0))) w1.heap.size (.slice x0 n0 c0) (.slice x1 n1 c1) (.slice x2 n2 c2) m) := by
    have := MmAt.of_copy o0 o1 o2 on hz1
    rw [hfu.out, hbd.out] at this
    exact this
  have bt : w1.cell? ⟨w.heap.size + 1, 0, none⟩ = some (.int .i64 t) := cell_at (L1.out.at_ 1 _ rfl) 0
  have bk : w1.cell? ⟨w.heap.size + 1, 1, none⟩ = some (.int .i64 k) := cell_at (L1.out.at_ 1 _ rfl) 1
  have bl : w.heap.size + 1 < w1.heap.size := by omega
  clear hb o0 o1 o2 on L0 HZ0 cC
  go_wp2_with fail
  go_at_call 72
  refine Calls.mono (cX.out _ _ _ _ _ _ _ _ _ _ _ _ HP.out) ?_
  rintro e w2 ⟨rfl, ⟨y0, m0, d0, y1, m1, d1, y2, m2, d2, hM2⟩, hb⟩
  have L2 : Hid (Laid w [(.cells #[a0, a1, a2, .int .i64 fu, .int .i64 bd] 27 (0, 0)), (.cells #[.int .i64 t, .int .i64 k] 31 (0, 0)), (.cells #[.slice none 0 0, .slice none 0 0, .slice none 0 0, .int .i64 0, .int .i64 0] 27 (0, 0))] w2) := (L1.out.next ((Below.refl _ _).alloc (Nat.le_refl _) _)).keep hb (by simp)
  have HM2 : Hid (MmAt (w.heap.size + 3) w2 w1.heap.size (.slice y0 m0 d0) (.slice y1 m1 d1) (.slice y2 m2 d2) M) := hM2
  clear hb hM2 cX L1 bt bk bl
  have u0 := cell_at HM2.out.blk 0
  have u1 := cell_at HM2.out.blk 1
  have u2 := cell_at HM2.out.blk 2
  have u3 := cell_at HM2.out.blk 3
  have u4 := cell_at HM2.out.blk 4
  have hlt := HM2.out.lt
  have r0' := cell_at (L2.out.at_ 2 _ rfl) 0
  have q0' := free_at (L2.out.at_ 2 _ rfl) 0
  have r1' := cell_at (L2.out.at_ 2 _ rfl) 1
  have q1' := free_at (L2.out.at_ 2 _ rfl) 1
  have r2' := cell_at (L2.out.at_ 2 _ rfl) 2
  have q2' := free_at (L2.out.at_ 2 _ rfl) 2
  have r3' := cell_at (L2.out.at_ 2 _ rfl) 3
  have q3' := free_at (L2.out.at_ 2 _ rfl) 3
  have r4' := cell_at (L2.out.at_ 2 _ rfl) 4
  have q4' := free_at (L2.out.at_ 2 _ rfl) 4
  simp at u0 u1 u2 u3 u4 r0' r1' r2' r3' r4'
  have HX : Hid (w.heap.size + 2 ∉ fpOf (.slice y0 m0 d0) ∧ w.heap.size + 2 ∉ fpOf (.slice y1 m1 d1) ∧ w.heap.size + 2 ∉ fpOf (.slice y2 m2 d2)) := ⟨fun hm => by have := (OwnsR.lt HM2.out.cells _ hm).1; omega, fun hm => by have := (OwnsR.lt HM2.out.input _ hm).1; omega, fun hm => by have := (OwnsR.lt HM2.out.out _ hm).1; omega⟩
  go_wp2
  obtain ⟨Z, hZ⟩ : ∃ Z, Z = (((((w2.setCell ⟨w.heap.size + 2, 0, none⟩ (.slice y0 m0 d0)).setCell ⟨w.heap.size + 2, 1, none⟩ (.slice y1 m1 d1)).setCell ⟨w.heap.size + 2, 2, none⟩ (.slice y2 m2 d2)).setCell ⟨w.heap.size + 2, 3, none⟩ (.int .i64 M.fuel)).setCell ⟨w.heap.size + 2, 4, none⟩ (.int .i64 M.bad)) := ⟨_, rfl⟩
  rw [← hZ]
  have h2 : Z.heap[w.heap.size + 2]? = some (.cells #[.slice y0 m0 d0, .slice y1 m1 d1, .slice y2 m2 d2, .int .i64 M.fuel, .int .i64 M.bad] 27 (0, 0)) := by
    rw [hZ]
    exact (heap_set ((heap_set ((heap_set ((heap_set ((heap_set (L2.out.at_ 2 _ rfl))))))))))
  have e0 := cell_at h2 0
  have e1 := cell_at h2 1
  have e2 := cell_at h2 2
  have e3 := cell_at h2 3
  have e4 := cell_at h2 4
  simp at e0 e1 e2 e3 e4
  have HZ : RowMm Z Z.heap.size (.slice y0 m0 d0) (.slice y1 m1 d1) (.slice y2 m2 d2) M := by
    rw [hZ]
    exact (((((HM2.out.aside (w.heap.size + 2) 0 (.slice y0 m0 d0) (by omega) HX.out.1 HX.out.2.1 HX.out.2.2).aside (w.heap.size + 2) 1 (.slice y1 m1 d1) (by omega) HX.out.1 HX.out.2.1 HX.out.2.2).aside (w.heap.size + 2) 2 (.slice y2 m2 d2) (by omega) HX.out.1 HX.out.2.1 HX.out.2.2).aside (w.heap.size + 2) 3 (.int .i64 M.fuel) (by omega) HX.out.1 HX.out.2.1 HX.out.2.2).aside (w.heap.size + 2) 4 (.int .i64 M.bad) (by omega) HX.out.1 HX.out.2.1 HX.out.2.2).row
  have hZB : Below w.heap.size w Z := by
    rw [hZ]
    exact (((((L2.out.low.setCell (p := ⟨w.heap.size + 2, 0, none⟩) (by show _ ≤ _; simp) (.slice y0 m0 d0)).setCell (p := ⟨w.heap.size + 2, 1, none⟩) (by show _ ≤ _; simp) (.slice y1 m1 d1)).setCell (p := ⟨w.heap.size + 2, 2, none⟩) (by show _ ≤ _; simp) (.slice y2 m2 d2)).setCell (p := ⟨w.heap.size + 2, 3, none⟩) (by show _ ≤ _; simp) (.int .i64 M.fuel)).setCell (p := ⟨w.heap.size + 2, 4, none⟩) (by show _ ≤ _; simp) (.int .i64 M.bad))
  refine bodyPost_ret (by simp [results, Try.results30, go_sem, e0, e1, e2, e3, e4]; try rfl) rfl ?_
  exact ⟨_, _, _, _, _, _, _, _, _, rfl, HZ, hZB⟩

set_option maxRecDepth 100000 in
set_option maxHeartbeats 3200000 in
theorem specWritten_any (B : Nat) (m : Mm) (a0 a1 a2 : Value) (t k n : Int) (w : World) (hB : B ≤ w.heap.size) (ha : RowMm w B a0 a1 a2 m) (hn : nilOk a0 ∧ nilOk a1 ∧ nilOk a2) (hl : szMm m ≤ 2000000) :
    Calls Try.prog 31 #[.agg #[a0, a1, a2, .int .i64 m.fuel, .int .i64 m.bad], .agg #[.int .i64 t, .int .i64 k], .int .i64 n] w fun e w' => ∃ x0 n0 c0 x1 n1 c1 x2 n2 c2, e = .returned (.agg #[.slice x0 n0 c0, .slice x1 n1 c1, .slice x2 n2 c2, .int .i64 (writtenM m t k n).fuel, .int .i64 (writtenM m t k n).bad]) ∧ RowMm w' w'.heap.size (.slice x0 n0 c0) (.slice x1 n1 c1) (.slice x2 n2 c2) (writtenM m t k n) ∧ Below w.heap.size w w' := by
  have cC : Hid (∀ W, Below w.heap.size w W → Calls Try.prog 58 #[.agg #[a0, a1, a2, .int .i64 m.fuel, .int .i64 m.bad]] W fun e w' => ∃ x0 n0 c0 x1 n1 c1 x2 n2 c2, e = .returned (.agg #[.slice x0 n0 c0, .slice x1 n1 c1, .slice x2 n2 c2, .int .i64 m.fuel, .int .i64 m.bad]) ∧ (OwnsR ceC 2 w' W.heap.size 82 (.slice x0 n0 c0) m.cells ∧ OwnsI w' W.heap.size (.slice x1 n1 c1) m.input ∧ OwnsI w' W.heap.size (.slice x2 n2 c2) m.out ∧ (fps [.slice x0 n0 c0, .slice x1 n1 c1, .slice x2 n2 c2]).Nodup) ∧ Below W.heap.size W w') := fun W hW =>
    l09Copy_any B m a0 a1 a2 W (Nat.le_trans hB hW.size) (ha.keep (hW.mono hB)) hn hl
  have cX : Hid (∀ K p Z x0 n0 c0 x1 n1 c1 x2 n2 c2, MmAt K Z p (.slice x0 n0 c0) (.slice x1 n1 c1) (.slice x2 n2 c2) m → SpDoes 73 #[.pointer (some ⟨p, 0, none⟩), .agg #[.int .i64 t, .int .i64 k], .int .i64 n] Z K p (writtenM m t k n) (.tuple #[])) := fun K p Z _ _ _ _ _ _ _ _ _ hZ => l09Written_any K p _ _ _ _ _ _ _ _ _ m t k n Z hZ hl
  obtain ⟨fu, hfu⟩ : ∃ f, Hid (m.fuel = f) := ⟨_, (rfl : m.fuel = m.fuel)⟩
  obtain ⟨bd, hbd⟩ : ∃ f, Hid (m.bad = f) := ⟨_, (rfl : m.bad = m.bad)⟩
  rw [hfu.out, hbd.out] at cC ⊢
  obtain ⟨M, hM⟩ : ∃ M, Hid ((writtenM m t k n) = M) := ⟨_, (rfl : (writtenM m t k n) = (writtenM m t k n))⟩
  rw [hM.out] at cX ⊢
  clear ha hn hl
  unfold SpDoes at cX
  have L0 : Hid (Laid w [(.cells #[a0, a1, a2, .int .i64 fu, .int .i64 bd] 27 (0, 0)), (.cells #[.int .i64 t, .int .i64 k] 31 (0, 0)), (.cells #[.slice none 0 0, .slice none 0 0, .slice none 0 0, .int .i64 0, .int .i64 0] 27 (0, 0))] (((w.alloc (.cells #[a0, a1, a2, .int .i64 fu, .int .i64 bd] 27 (0, 0))).alloc (.cells #[.int .i64 t, .int .i64 k] 31 (0, 0))).alloc (.cells #[.slice none 0 0, .slice none 0 0, .slice none 0 0, .int .i64 0, .int .i64 0] 27 (0, 0)))) := (allocs_laid [(.cells #[a0, a1, a2, .int .i64 fu, .int .i64 bd] 27 (0, 0)), (.cells #[.int .i64 t, .int .i64 k] 31 (0, 0)), (.cells #[.slice none 0 0, .slice none 0 0, .slice none 0 0, .int .i64 0, .int .i64 0] 27 (0, 0))] w).1
  have hz0 : (((w.alloc (.cells #[a0, a1, a2, .int .i64 fu, .int .i64 bd] 27 (0, 0))).alloc (.cells #[.int .i64 t, .int .i64 k] 31 (0, 0))).alloc (.cells #[.slice none 0 0, .slice none 0 0, .slice none 0 0, .int .i64 0, .int .i64 0] 27 (0, 0))).heap.size = w.heap.size + 3 := (allocs_laid [(.cells #[a0, a1, a2, .int .i64 fu, .int .i64 bd] 27 (0, 0)), (.cells #[.int .i64 t, .int .i64 k] 31 (0, 0)), (.cells #[.slice none 0 0, .slice none 0 0, .slice none 0 0, .int .i64 0, .int .i64 0] 27 (0, 0))] w).2
  have HZ0 : Hid _ := hz0
  clear hz0
  go_enter Try.func31, Try.ntmps31
  go_wp2_with fail
  go_at_call 58
  refine Calls.mono (cC.out _ L0.out.low) ?_
  rintro e w1 ⟨x0, n0, c0, x1, n1, c1, x2, n2, c2, rfl, ⟨o0, o1, o2, on⟩, hb⟩
  rw [HZ0.out] at o0 o1 o2
  have L1 : Hid (Laid w [(.cells #[a0, a1, a2, .int .i64 fu, .int .i64 bd] 27 (0, 0)), (.cells #[.int .i64 t, .int .i64 k] 31 (0, 0)), (.cells #[.slice none 0 0, .slice none 0 0, .slice none 0 0, .int .i64 0, .int .i64 0] 27 (0, 0))] w1) := L0.out.next hb
  have hz1 : w.heap.size + 3 ≤ w1.heap.size := L1.out.size
  have HP : Hid (MmAt (w.heap.size + 3) (w1.alloc (.cells #[.slice x0 n0 c0, .slice x1 n1 c1, .slice x2 n2 c2, .int .i64 fu, .int .i64 bd] 27 (0, 0))) w1.heap.size (.slice x0 n0 c0) (.slice x1 n1 c1) (.slice x2 n2 c2) m) := by
    have := MmAt.of_copy o0 o1 o2 on hz1
    rw [hfu.out, hbd.out] at this
    exact this
  have bt : w1.cell? ⟨w.heap.size + 1, 0, none⟩ = some (.int .i64 t) := cell_at (L1.out.at_ 1 _ rfl) 0
  have bk : w1.cell? ⟨w.heap.size + 1, 1, none⟩ = some (.int .i64 k) := cell_at (L1.out.at_ 1 _ rfl) 1
  have bl : w.heap.size + 1 < w1.heap.size := by omega
  clear hb o0 o1 o2 on L0 HZ0 cC
  go_wp2_with fail
  go_at_call 73
  refine Calls.mono (cX.out _ _ _ _ _ _ _ _ _ _ _ _ HP.out) ?_
  rintro e w2 ⟨rfl, ⟨y0, m0, d0, y1, m1, d1, y2, m2, d2, hM2⟩, hb⟩
  have L2 : Hid (Laid w [(.cells #[a0, a1, a2, .int .i64 fu, .int .i64 bd] 27 (0, 0)), (.cells #[.int .i64 t, .int .i64 k] 31 (0, 0)), (.cells #[.slice none 0 0, .slice none 0 0, .slice none 0 0, .int .i64 0, .int .i64 0] 27 (0, 0))] w2) := (L1.out.next ((Below.refl _ _).alloc (Nat.le_refl _) _)).keep hb (by simp)
  have HM2 : Hid (MmAt (w.heap.size + 3) w2 w1.heap.size (.slice y0 m0 d0) (.slice y1 m1 d1) (.slice y2 m2 d2) M) := hM2
  clear hb hM2 cX L1 bt bk bl
  have u0 := cell_at HM2.out.blk 0
  have u1 := cell_at HM2.out.blk 1
  have u2 := cell_at HM2.out.blk 2
  have u3 := cell_at HM2.out.blk 3
  have u4 := cell_at HM2.out.blk 4
  have hlt := HM2.out.lt
  have r0' := cell_at (L2.out.at_ 2 _ rfl) 0
  have q0' := free_at (L2.out.at_ 2 _ rfl) 0
  have r1' := cell_at (L2.out.at_ 2 _ rfl) 1
  have q1' := free_at (L2.out.at_ 2 _ rfl) 1
  have r2' := cell_at (L2.out.at_ 2 _ rfl) 2
  have q2' := free_at (L2.out.at_ 2 _ rfl) 2
  have r3' := cell_at (L2.out.at_ 2 _ rfl) 3
  have q3' := free_at (L2.out.at_ 2 _ rfl) 3
  have r4' := cell_at (L2.out.at_ 2 _ rfl) 4
  have q4' := free_at (L2.out.at_ 2 _ rfl) 4
  simp at u0 u1 u2 u3 u4 r0' r1' r2' r3' r4'
  have HX : Hid (w.heap.size + 2 ∉ fpOf (.slice y0 m0 d0) ∧ w.heap.size + 2 ∉ fpOf (.slice y1 m1 d1) ∧ w.heap.size + 2 ∉ fpOf (.slice y2 m2 d2)) := ⟨fun hm => by have := (OwnsR.lt HM2.out.cells _ hm).1; omega, fun hm => by have := (OwnsR.lt HM2.out.input _ hm).1; omega, fun hm => by have := (OwnsR.lt HM2.out.out _ hm).1; omega⟩
  go_wp2
  obtain ⟨Z, hZ⟩ : ∃ Z, Z = (((((w2.setCell ⟨w.heap.size + 2, 0, none⟩ (.slice y0 m0 d0)).setCell ⟨w.heap.size + 2, 1, none⟩ (.slice y1 m1 d1)).setCell ⟨w.heap.size + 2, 2, none⟩ (.slice y2 m2 d2)).setCell ⟨w.heap.size + 2, 3, none⟩ (.int .i64 M.fuel)).setCell ⟨w.heap.size + 2, 4, none⟩ (.int .i64 M.bad)) := ⟨_, rfl⟩
  rw [← hZ]
  have h2 : Z.heap[w.heap.size + 2]? = some (.cells #[.slice y0 m0 d0, .slice y1 m1 d1, .slice y2 m2 d2, .int .i64 M.fuel, .int .i64 M.bad] 27 (0, 0)) := by
    rw [hZ]
    exact (heap_set ((heap_set ((heap_set ((heap_set ((heap_set (L2.out.at_ 2 _ rfl))))))))))
  have e0 := cell_at h2 0
  have e1 := cell_at h2 1
  have e2 := cell_at h2 2
  have e3 := cell_at h2 3
  have e4 := cell_at h2 4
  simp at e0 e1 e2 e3 e4
  have HZ : RowMm Z Z.heap.size (.slice y0 m0 d0) (.slice y1 m1 d1) (.slice y2 m2 d2) M := by
    rw [hZ]
    exact (((((HM2.out.aside (w.heap.size + 2) 0 (.slice y0 m0 d0) (by omega) HX.out.1 HX.out.2.1 HX.out.2.2).aside (w.heap.size + 2) 1 (.slice y1 m1 d1) (by omega) HX.out.1 HX.out.2.1 HX.out.2.2).aside (w.heap.size + 2) 2 (.slice y2 m2 d2) (by omega) HX.out.1 HX.out.2.1 HX.out.2.2).aside (w.heap.size + 2) 3 (.int .i64 M.fuel) (by omega) HX.out.1 HX.out.2.1 HX.out.2.2).aside (w.heap.size + 2) 4 (.int .i64 M.bad) (by omega) HX.out.1 HX.out.2.1 HX.out.2.2).row
  have hZB : Below w.heap.size w Z := by
    rw [hZ]
    exact (((((L2.out.low.setCell (p := ⟨w.heap.size + 2, 0, none⟩) (by show _ ≤ _; simp) (.slice y0 m0 d0)).setCell (p := ⟨w.heap.size + 2, 1, none⟩) (by show _ ≤ _; simp) (.slice y1 m1 d1)).setCell (p := ⟨w.heap.size + 2, 2, none⟩) (by show _ ≤ _; simp) (.slice y2 m2 d2)).setCell (p := ⟨w.heap.size + 2, 3, none⟩) (by show _ ≤ _; simp) (.int .i64 M.fuel)).setCell (p := ⟨w.heap.size + 2, 4, none⟩) (by show _ ≤ _; simp) (.int .i64 M.bad))
  refine bodyPost_ret (by simp [results, Try.results31, go_sem, e0, e1, e2, e3, e4]; try rfl) rfl ?_
  exact ⟨_, _, _, _, _, _, _, _, _, rfl, HZ, hZB⟩

set_option maxRecDepth 100000 in
set_option maxHeartbeats 3200000 in
theorem specLooked_any (B : Nat) (m : Mm) (a0 a1 a2 : Value) (t k : Int) (w : World) (hB : B ≤ w.heap.size) (ha : RowMm w B a0 a1 a2 m) (hn : nilOk a0 ∧ nilOk a1 ∧ nilOk a2) (hl : szMm m ≤ 2000000) :
    Calls Try.prog 22 #[.agg #[a0, a1, a2, .int .i64 m.fuel, .int .i64 m.bad], .agg #[.int .i64 t, .int .i64 k]] w fun e w' => ∃ x0 n0 c0 x1 n1 c1 x2 n2 c2, e = .returned (.tuple #[.agg #[.slice x0 n0 c0, .slice x1 n1 c1, .slice x2 n2 c2, .int .i64 (lookedM m t k).1.fuel, .int .i64 (lookedM m t k).1.bad], .int .i64 (lookedM m t k).2]) ∧ RowMm w' w'.heap.size (.slice x0 n0 c0) (.slice x1 n1 c1) (.slice x2 n2 c2) (lookedM m t k).1 ∧ Below w.heap.size w w' := by
  have cC : Hid (∀ W, Below w.heap.size w W → Calls Try.prog 58 #[.agg #[a0, a1, a2, .int .i64 m.fuel, .int .i64 m.bad]] W fun e w' => ∃ x0 n0 c0 x1 n1 c1 x2 n2 c2, e = .returned (.agg #[.slice x0 n0 c0, .slice x1 n1 c1, .slice x2 n2 c2, .int .i64 m.fuel, .int .i64 m.bad]) ∧ (OwnsR ceC 2 w' W.heap.size 82 (.slice x0 n0 c0) m.cells ∧ OwnsI w' W.heap.size (.slice x1 n1 c1) m.input ∧ OwnsI w' W.heap.size (.slice x2 n2 c2) m.out ∧ (fps [.slice x0 n0 c0, .slice x1 n1 c1, .slice x2 n2 c2]).Nodup) ∧ Below W.heap.size W w') := fun W hW =>
    l09Copy_any B m a0 a1 a2 W (Nat.le_trans hB hW.size) (ha.keep (hW.mono hB)) hn hl
  have cX : Hid (∀ K p Z x0 n0 c0 x1 n1 c1 x2 n2 c2, MmAt K Z p (.slice x0 n0 c0) (.slice x1 n1 c1) (.slice x2 n2 c2) m → SpDoes 61 #[.pointer (some ⟨p, 0, none⟩), .agg #[.int .i64 t, .int .i64 k]] Z K p (lookedM m t k).1 (.int .i64 (lookedM m t k).2)) := fun K p Z _ _ _ _ _ _ _ _ _ hZ => l09Looked_any K p _ _ _ _ _ _ _ _ _ m t k Z hZ hl
  obtain ⟨fu, hfu⟩ : ∃ f, Hid (m.fuel = f) := ⟨_, (rfl : m.fuel = m.fuel)⟩
  obtain ⟨bd, hbd⟩ : ∃ f, Hid (m.bad = f) := ⟨_, (rfl : m.bad = m.bad)⟩
  rw [hfu.out, hbd.out] at cC ⊢
  obtain ⟨M, hM⟩ : ∃ M, Hid ((lookedM m t k).1 = M) := ⟨_, (rfl : (lookedM m t k).1 = (lookedM m t k).1)⟩
  rw [hM.out] at cX ⊢
  clear ha hn hl
  unfold SpDoes at cX
  obtain ⟨r, hr⟩ : ∃ r, Hid ((lookedM m t k).2 = r) := ⟨_, (rfl : (lookedM m t k).2 = _)⟩
  rw [hr.out] at cX ⊢
  have L0 : Hid (Laid w [(.cells #[a0, a1, a2, .int .i64 fu, .int .i64 bd] 27 (0, 0)), (.cells #[.int .i64 t, .int .i64 k] 31 (0, 0)), (.cells #[.slice none 0 0, .slice none 0 0, .slice none 0 0, .int .i64 0, .int .i64 0] 27 (0, 0))] (((w.alloc (.cells #[a0, a1, a2, .int .i64 fu, .int .i64 bd] 27 (0, 0))).alloc (.cells #[.int .i64 t, .int .i64 k] 31 (0, 0))).alloc (.cells #[.slice none 0 0, .slice none 0 0, .slice none 0 0, .int .i64 0, .int .i64 0] 27 (0, 0)))) := (allocs_laid [(.cells #[a0, a1, a2, .int .i64 fu, .int .i64 bd] 27 (0, 0)), (.cells #[.int .i64 t, .int .i64 k] 31 (0, 0)), (.cells #[.slice none 0 0, .slice none 0 0, .slice none 0 0, .int .i64 0, .int .i64 0] 27 (0, 0))] w).1
  have hz0 : (((w.alloc (.cells #[a0, a1, a2, .int .i64 fu, .int .i64 bd] 27 (0, 0))).alloc (.cells #[.int .i64 t, .int .i64 k] 31 (0, 0))).alloc (.cells #[.slice none 0 0, .slice none 0 0, .slice none 0 0, .int .i64 0, .int .i64 0] 27 (0, 0))).heap.size = w.heap.size + 3 := (allocs_laid [(.cells #[a0, a1, a2, .int .i64 fu, .int .i64 bd] 27 (0, 0)), (.cells #[.int .i64 t, .int .i64 k] 31 (0, 0)), (.cells #[.slice none 0 0, .slice none 0 0, .slice none 0 0, .int .i64 0, .int .i64 0] 27 (0, 0))] w).2
  have HZ0 : Hid _ := hz0
  clear hz0
  go_enter Try.func22, Try.ntmps22
  go_wp2_with fail
  go_at_call 58
  refine Calls.mono (cC.out _ L0.out.low) ?_
  rintro e w1 ⟨x0, n0, c0, x1, n1, c1, x2, n2, c2, rfl, ⟨o0, o1, o2, on⟩, hb⟩
  rw [HZ0.out] at o0 o1 o2
  have L1 : Hid (Laid w [(.cells #[a0, a1, a2, .int .i64 fu, .int .i64 bd] 27 (0, 0)), (.cells #[.int .i64 t, .int .i64 k] 31 (0, 0)), (.cells #[.slice none 0 0, .slice none 0 0, .slice none 0 0, .int .i64 0, .int .i64 0] 27 (0, 0))] w1) := L0.out.next hb
  have hz1 : w.heap.size + 3 ≤ w1.heap.size := L1.out.size
  have HP : Hid (MmAt (w.heap.size + 3) (w1.alloc (.cells #[.slice x0 n0 c0, .slice x1 n1 c1, .slice x2 n2 c2, .int .i64 fu, .int .i64 bd] 27 (0, 0))) w1.heap.size (.slice x0 n0 c0) (.slice x1 n1 c1) (.slice x2 n2 c2) m) := by
    have := MmAt.of_copy o0 o1 o2 on hz1
    rw [hfu.out, hbd.out] at this
    exact this
  have bt : w1.cell? ⟨w.heap.size + 1, 0, none⟩ = some (.int .i64 t) := cell_at (L1.out.at_ 1 _ rfl) 0
  have bk : w1.cell? ⟨w.heap.size + 1, 1, none⟩ = some (.int .i64 k) := cell_at (L1.out.at_ 1 _ rfl) 1
  have bl : w.heap.size + 1 < w1.heap.size := by omega
  clear hb o0 o1 o2 on L0 HZ0 cC
  go_wp2_with fail
  go_at_call 61
  refine Calls.mono (cX.out _ _ _ _ _ _ _ _ _ _ _ _ HP.out) ?_
  rintro e w2 ⟨rfl, ⟨y0, m0, d0, y1, m1, d1, y2, m2, d2, hM2⟩, hb⟩
  have L2 : Hid (Laid w [(.cells #[a0, a1, a2, .int .i64 fu, .int .i64 bd] 27 (0, 0)), (.cells #[.int .i64 t, .int .i64 k] 31 (0, 0)), (.cells #[.slice none 0 0, .slice none 0 0, .slice none 0 0, .int .i64 0, .int .i64 0] 27 (0, 0))] w2) := (L1.out.next ((Below.refl _ _).alloc (Nat.le_refl _) _)).keep hb (by simp)
  have HM2 : Hid (MmAt (w.heap.size + 3) w2 w1.heap.size (.slice y0 m0 d0) (.slice y1 m1 d1) (.slice y2 m2 d2) M) := hM2
  clear hb hM2 cX L1 bt bk bl
  have u0 := cell_at HM2.out.blk 0
  have u1 := cell_at HM2.out.blk 1
  have u2 := cell_at HM2.out.blk 2
  have u3 := cell_at HM2.out.blk 3
  have u4 := cell_at HM2.out.blk 4
  have hlt := HM2.out.lt
  have r0' := cell_at (L2.out.at_ 2 _ rfl) 0
  have q0' := free_at (L2.out.at_ 2 _ rfl) 0
  have r1' := cell_at (L2.out.at_ 2 _ rfl) 1
  have q1' := free_at (L2.out.at_ 2 _ rfl) 1
  have r2' := cell_at (L2.out.at_ 2 _ rfl) 2
  have q2' := free_at (L2.out.at_ 2 _ rfl) 2
  have r3' := cell_at (L2.out.at_ 2 _ rfl) 3
  have q3' := free_at (L2.out.at_ 2 _ rfl) 3
  have r4' := cell_at (L2.out.at_ 2 _ rfl) 4
  have q4' := free_at (L2.out.at_ 2 _ rfl) 4
  simp at u0 u1 u2 u3 u4 r0' r1' r2' r3' r4'
  have HX : Hid (w.heap.size + 2 ∉ fpOf (.slice y0 m0 d0) ∧ w.heap.size + 2 ∉ fpOf (.slice y1 m1 d1) ∧ w.heap.size + 2 ∉ fpOf (.slice y2 m2 d2)) := ⟨fun hm => by have := (OwnsR.lt HM2.out.cells _ hm).1; omega, fun hm => by have := (OwnsR.lt HM2.out.input _ hm).1; omega, fun hm => by have := (OwnsR.lt HM2.out.out _ hm).1; omega⟩
  go_wp2
  obtain ⟨Z, hZ⟩ : ∃ Z, Z = (((((w2.setCell ⟨w.heap.size + 2, 0, none⟩ (.slice y0 m0 d0)).setCell ⟨w.heap.size + 2, 1, none⟩ (.slice y1 m1 d1)).setCell ⟨w.heap.size + 2, 2, none⟩ (.slice y2 m2 d2)).setCell ⟨w.heap.size + 2, 3, none⟩ (.int .i64 M.fuel)).setCell ⟨w.heap.size + 2, 4, none⟩ (.int .i64 M.bad)) := ⟨_, rfl⟩
  rw [← hZ]
  have h2 : Z.heap[w.heap.size + 2]? = some (.cells #[.slice y0 m0 d0, .slice y1 m1 d1, .slice y2 m2 d2, .int .i64 M.fuel, .int .i64 M.bad] 27 (0, 0)) := by
    rw [hZ]
    exact (heap_set ((heap_set ((heap_set ((heap_set ((heap_set (L2.out.at_ 2 _ rfl))))))))))
  have e0 := cell_at h2 0
  have e1 := cell_at h2 1
  have e2 := cell_at h2 2
  have e3 := cell_at h2 3
  have e4 := cell_at h2 4
  simp at e0 e1 e2 e3 e4
  have HZ : RowMm Z Z.heap.size (.slice y0 m0 d0) (.slice y1 m1 d1) (.slice y2 m2 d2) M := by
    rw [hZ]
    exact (((((HM2.out.aside (w.heap.size + 2) 0 (.slice y0 m0 d0) (by omega) HX.out.1 HX.out.2.1 HX.out.2.2).aside (w.heap.size + 2) 1 (.slice y1 m1 d1) (by omega) HX.out.1 HX.out.2.1 HX.out.2.2).aside (w.heap.size + 2) 2 (.slice y2 m2 d2) (by omega) HX.out.1 HX.out.2.1 HX.out.2.2).aside (w.heap.size + 2) 3 (.int .i64 M.fuel) (by omega) HX.out.1 HX.out.2.1 HX.out.2.2).aside (w.heap.size + 2) 4 (.int .i64 M.bad) (by omega) HX.out.1 HX.out.2.1 HX.out.2.2).row
  have hZB : Below w.heap.size w Z := by
    rw [hZ]
    exact (((((L2.out.low.setCell (p := ⟨w.heap.size + 2, 0, none⟩) (by show _ ≤ _; simp) (.slice y0 m0 d0)).setCell (p := ⟨w.heap.size + 2, 1, none⟩) (by show _ ≤ _; simp) (.slice y1 m1 d1)).setCell (p := ⟨w.heap.size + 2, 2, none⟩) (by show _ ≤ _; simp) (.slice y2 m2 d2)).setCell (p := ⟨w.heap.size + 2, 3, none⟩) (by show _ ≤ _; simp) (.int .i64 M.fuel)).setCell (p := ⟨w.heap.size + 2, 4, none⟩) (by show _ ≤ _; simp) (.int .i64 M.bad))
  refine bodyPost_ret (by simp [results, Try.results22, go_sem, e0, e1, e2, e3, e4, Result.andThen]; try rfl) rfl ?_
  exact ⟨_, _, _, _, _, _, _, _, _, rfl, HZ, hZB⟩

set_option maxRecDepth 100000 in
set_option maxHeartbeats 3200000 in
theorem specAsked_any (B : Nat) (m : Mm) (a0 a1 a2 : Value) (w : World) (hB : B ≤ w.heap.size) (ha : RowMm w B a0 a1 a2 m) (hn : nilOk a0 ∧ nilOk a1 ∧ nilOk a2) (hl : szMm m ≤ 2000000) :
    Calls Try.prog 24 #[.agg #[a0, a1, a2, .int .i64 m.fuel, .int .i64 m.bad]] w fun e w' => ∃ x0 n0 c0 x1 n1 c1 x2 n2 c2, e = .returned (.tuple #[.agg #[.slice x0 n0 c0, .slice x1 n1 c1, .slice x2 n2 c2, .int .i64 (askedM m).1.fuel, .int .i64 (askedM m).1.bad], .int .i64 (askedM m).2]) ∧ RowMm w' w'.heap.size (.slice x0 n0 c0) (.slice x1 n1 c1) (.slice x2 n2 c2) (askedM m).1 ∧ Below w.heap.size w w' := by
  have cC : Hid (∀ W, Below w.heap.size w W → Calls Try.prog 58 #[.agg #[a0, a1, a2, .int .i64 m.fuel, .int .i64 m.bad]] W fun e w' => ∃ x0 n0 c0 x1 n1 c1 x2 n2 c2, e = .returned (.agg #[.slice x0 n0 c0, .slice x1 n1 c1, .slice x2 n2 c2, .int .i64 m.fuel, .int .i64 m.bad]) ∧ (OwnsR ceC 2 w' W.heap.size 82 (.slice x0 n0 c0) m.cells ∧ OwnsI w' W.heap.size (.slice x1 n1 c1) m.input ∧ OwnsI w' W.heap.size (.slice x2 n2 c2) m.out ∧ (fps [.slice x0 n0 c0, .slice x1 n1 c1, .slice x2 n2 c2]).Nodup) ∧ Below W.heap.size W w') := fun W hW =>
    l09Copy_any B m a0 a1 a2 W (Nat.le_trans hB hW.size) (ha.keep (hW.mono hB)) hn hl
  have cX : Hid (∀ K p Z x0 n0 c0 x1 n1 c1 x2 n2 c2, MmAt K Z p (.slice x0 n0 c0) (.slice x1 n1 c1) (.slice x2 n2 c2) m → SpDoes 64 #[.pointer (some ⟨p, 0, none⟩)] Z K p (askedM m).1 (.int .i64 (askedM m).2)) := fun K p Z _ _ _ _ _ _ _ _ _ hZ => l09Asked_any K p _ _ _ _ _ _ _ _ _ m Z hZ hl
  obtain ⟨fu, hfu⟩ : ∃ f, Hid (m.fuel = f) := ⟨_, (rfl : m.fuel = m.fuel)⟩
  obtain ⟨bd, hbd⟩ : ∃ f, Hid (m.bad = f) := ⟨_, (rfl : m.bad = m.bad)⟩
  rw [hfu.out, hbd.out] at cC ⊢
  obtain ⟨M, hM⟩ : ∃ M, Hid ((askedM m).1 = M) := ⟨_, (rfl : (askedM m).1 = (askedM m).1)⟩
  rw [hM.out] at cX ⊢
  clear ha hn hl
  unfold SpDoes at cX
  obtain ⟨r, hr⟩ : ∃ r, Hid ((askedM m).2 = r) := ⟨_, (rfl : (askedM m).2 = _)⟩
  rw [hr.out] at cX ⊢
  have L0 : Hid (Laid w [(.cells #[a0, a1, a2, .int .i64 fu, .int .i64 bd] 27 (0, 0)), (.cells #[.slice none 0 0, .slice none 0 0, .slice none 0 0, .int .i64 0, .int .i64 0] 27 (0, 0))] ((w.alloc (.cells #[a0, a1, a2, .int .i64 fu, .int .i64 bd] 27 (0, 0))).alloc (.cells #[.slice none 0 0, .slice none 0 0, .slice none 0 0, .int .i64 0, .int .i64 0] 27 (0, 0)))) := (allocs_laid [(.cells #[a0, a1, a2, .int .i64 fu, .int .i64 bd] 27 (0, 0)), (.cells #[.slice none 0 0, .slice none 0 0, .slice none 0 0, .int .i64 0, .int .i64 0] 27 (0, 0))] w).1
  have hz0 : ((w.alloc (.cells #[a0, a1, a2, .int .i64 fu, .int .i64 bd] 27 (0, 0))).alloc (.cells #[.slice none 0 0, .slice none 0 0, .slice none 0 0, .int .i64 0, .int .i64 0] 27 (0, 0))).heap.size = w.heap.size + 2 := (allocs_laid [(.cells #[a0, a1, a2, .int .i64 fu, .int .i64 bd] 27 (0, 0)), (.cells #[.slice none 0 0, .slice none 0 0, .slice none 0 0, .int .i64 0, .int .i64 0] 27 (0, 0))] w).2
  have HZ0 : Hid _ := hz0
  clear hz0
  go_enter Try.func24, Try.ntmps24
  go_wp2_with fail
  go_at_call 58
  refine Calls.mono (cC.out _ L0.out.low) ?_
  rintro e w1 ⟨x0, n0, c0, x1, n1, c1, x2, n2, c2, rfl, ⟨o0, o1, o2, on⟩, hb⟩
  rw [HZ0.out] at o0 o1 o2
  have L1 : Hid (Laid w [(.cells #[a0, a1, a2, .int .i64 fu, .int .i64 bd] 27 (0, 0)), (.cells #[.slice none 0 0, .slice none 0 0, .slice none 0 0, .int .i64 0, .int .i64 0] 27 (0, 0))] w1) := L0.out.next hb
  have hz1 : w.heap.size + 2 ≤ w1.heap.size := L1.out.size
  have HP : Hid (MmAt (w.heap.size + 2) (w1.alloc (.cells #[.slice x0 n0 c0, .slice x1 n1 c1, .slice x2 n2 c2, .int .i64 fu, .int .i64 bd] 27 (0, 0))) w1.heap.size (.slice x0 n0 c0) (.slice x1 n1 c1) (.slice x2 n2 c2) m) := by
    have := MmAt.of_copy o0 o1 o2 on hz1
    rw [hfu.out, hbd.out] at this
    exact this
  clear hb o0 o1 o2 on L0 HZ0 cC
  go_wp2_with fail
  go_at_call 64
  refine Calls.mono (cX.out _ _ _ _ _ _ _ _ _ _ _ _ HP.out) ?_
  rintro e w2 ⟨rfl, ⟨y0, m0, d0, y1, m1, d1, y2, m2, d2, hM2⟩, hb⟩
  have L2 : Hid (Laid w [(.cells #[a0, a1, a2, .int .i64 fu, .int .i64 bd] 27 (0, 0)), (.cells #[.slice none 0 0, .slice none 0 0, .slice none 0 0, .int .i64 0, .int .i64 0] 27 (0, 0))] w2) := (L1.out.next ((Below.refl _ _).alloc (Nat.le_refl _) _)).keep hb (by simp)
  have HM2 : Hid (MmAt (w.heap.size + 2) w2 w1.heap.size (.slice y0 m0 d0) (.slice y1 m1 d1) (.slice y2 m2 d2) M) := hM2
  clear hb hM2 cX L1
  have u0 := cell_at HM2.out.blk 0
  have u1 := cell_at HM2.out.blk 1
  have u2 := cell_at HM2.out.blk 2
  have u3 := cell_at HM2.out.blk 3
  have u4 := cell_at HM2.out.blk 4
  have hlt := HM2.out.lt
  have r0' := cell_at (L2.out.at_ 1 _ rfl) 0
  have q0' := free_at (L2.out.at_ 1 _ rfl) 0
  have r1' := cell_at (L2.out.at_ 1 _ rfl) 1
  have q1' := free_at (L2.out.at_ 1 _ rfl) 1
  have r2' := cell_at (L2.out.at_ 1 _ rfl) 2
  have q2' := free_at (L2.out.at_ 1 _ rfl) 2
  have r3' := cell_at (L2.out.at_ 1 _ rfl) 3
  have q3' := free_at (L2.out.at_ 1 _ rfl) 3
  have r4' := cell_at (L2.out.at_ 1 _ rfl) 4
  have q4' := free_at (L2.out.at_ 1 _ rfl) 4
  simp at u0 u1 u2 u3 u4 r0' r1' r2' r3' r4'
  have HX : Hid (w.heap.size + 1 ∉ fpOf (.slice y0 m0 d0) ∧ w.heap.size + 1 ∉ fpOf (.slice y1 m1 d1) ∧ w.heap.size + 1 ∉ fpOf (.slice y2 m2 d2)) := ⟨fun hm => by have := (OwnsR.lt HM2.out.cells _ hm).1; omega, fun hm => by have := (OwnsR.lt HM2.out.input _ hm).1; omega, fun hm => by have := (OwnsR.lt HM2.out.out _ hm).1; omega⟩
  go_wp2
  obtain ⟨Z, hZ⟩ : ∃ Z, Z = (((((w2.setCell ⟨w.heap.size + 1, 0, none⟩ (.slice y0 m0 d0)).setCell ⟨w.heap.size + 1, 1, none⟩ (.slice y1 m1 d1)).setCell ⟨w.heap.size + 1, 2, none⟩ (.slice y2 m2 d2)).setCell ⟨w.heap.size + 1, 3, none⟩ (.int .i64 M.fuel)).setCell ⟨w.heap.size + 1, 4, none⟩ (.int .i64 M.bad)) := ⟨_, rfl⟩
  rw [← hZ]
  have h2 : Z.heap[w.heap.size + 1]? = some (.cells #[.slice y0 m0 d0, .slice y1 m1 d1, .slice y2 m2 d2, .int .i64 M.fuel, .int .i64 M.bad] 27 (0, 0)) := by
    rw [hZ]
    exact (heap_set ((heap_set ((heap_set ((heap_set ((heap_set (L2.out.at_ 1 _ rfl))))))))))
  have e0 := cell_at h2 0
  have e1 := cell_at h2 1
  have e2 := cell_at h2 2
  have e3 := cell_at h2 3
  have e4 := cell_at h2 4
  simp at e0 e1 e2 e3 e4
  have HZ : RowMm Z Z.heap.size (.slice y0 m0 d0) (.slice y1 m1 d1) (.slice y2 m2 d2) M := by
    rw [hZ]
    exact (((((HM2.out.aside (w.heap.size + 1) 0 (.slice y0 m0 d0) (by omega) HX.out.1 HX.out.2.1 HX.out.2.2).aside (w.heap.size + 1) 1 (.slice y1 m1 d1) (by omega) HX.out.1 HX.out.2.1 HX.out.2.2).aside (w.heap.size + 1) 2 (.slice y2 m2 d2) (by omega) HX.out.1 HX.out.2.1 HX.out.2.2).aside (w.heap.size + 1) 3 (.int .i64 M.fuel) (by omega) HX.out.1 HX.out.2.1 HX.out.2.2).aside (w.heap.size + 1) 4 (.int .i64 M.bad) (by omega) HX.out.1 HX.out.2.1 HX.out.2.2).row
  have hZB : Below w.heap.size w Z := by
    rw [hZ]
    exact (((((L2.out.low.setCell (p := ⟨w.heap.size + 1, 0, none⟩) (by show _ ≤ _; simp) (.slice y0 m0 d0)).setCell (p := ⟨w.heap.size + 1, 1, none⟩) (by show _ ≤ _; simp) (.slice y1 m1 d1)).setCell (p := ⟨w.heap.size + 1, 2, none⟩) (by show _ ≤ _; simp) (.slice y2 m2 d2)).setCell (p := ⟨w.heap.size + 1, 3, none⟩) (by show _ ≤ _; simp) (.int .i64 M.fuel)).setCell (p := ⟨w.heap.size + 1, 4, none⟩) (by show _ ≤ _; simp) (.int .i64 M.bad))
  refine bodyPost_ret (by simp [results, Try.results24, go_sem, e0, e1, e2, e3, e4, Result.andThen]; try rfl) rfl ?_
  exact ⟨_, _, _, _, _, _, _, _, _, rfl, HZ, hZB⟩

set_option maxRecDepth 100000 in
set_option maxHeartbeats 3200000 in
theorem specSummed_any (B : Nat) (m : Mm) (a0 a1 a2 : Value) (a b : Int) (w : World) (hB : B ≤ w.heap.size) (ha : RowMm w B a0 a1 a2 m) (hn : nilOk a0 ∧ nilOk a1 ∧ nilOk a2) (hl : szMm m ≤ 2000000) :
    Calls Try.prog 26 #[.agg #[a0, a1, a2, .int .i64 m.fuel, .int .i64 m.bad], .int .i64 a, .int .i64 b] w fun e w' => ∃ x0 n0 c0 x1 n1 c1 x2 n2 c2, e = .returned (.tuple #[.agg #[.slice x0 n0 c0, .slice x1 n1 c1, .slice x2 n2 c2, .int .i64 (summedM m a b).1.fuel, .int .i64 (summedM m a b).1.bad], .int .i64 (summedM m a b).2]) ∧ RowMm w' w'.heap.size (.slice x0 n0 c0) (.slice x1 n1 c1) (.slice x2 n2 c2) (summedM m a b).1 ∧ Below w.heap.size w w' := by
  have cC : Hid (∀ W, Below w.heap.size w W → Calls Try.prog 58 #[.agg #[a0, a1, a2, .int .i64 m.fuel, .int .i64 m.bad]] W fun e w' => ∃ x0 n0 c0 x1 n1 c1 x2 n2 c2, e = .returned (.agg #[.slice x0 n0 c0, .slice x1 n1 c1, .slice x2 n2 c2, .int .i64 m.fuel, .int .i64 m.bad]) ∧ (OwnsR ceC 2 w' W.heap.size 82 (.slice x0 n0 c0) m.cells ∧ OwnsI w' W.heap.size (.slice x1 n1 c1) m.input ∧ OwnsI w' W.heap.size (.slice x2 n2 c2) m.out ∧ (fps [.slice x0 n0 c0, .slice x1 n1 c1, .slice x2 n2 c2]).Nodup) ∧ Below W.heap.size W w') := fun W hW =>
    l09Copy_any B m a0 a1 a2 W (Nat.le_trans hB hW.size) (ha.keep (hW.mono hB)) hn hl
  have cX : Hid (∀ K p Z x0 n0 c0 x1 n1 c1 x2 n2 c2, MmAt K Z p (.slice x0 n0 c0) (.slice x1 n1 c1) (.slice x2 n2 c2) m → SpDoes 67 #[.pointer (some ⟨p, 0, none⟩), .int .i64 a, .int .i64 b] Z K p (summedM m a b).1 (.int .i64 (summedM m a b).2)) := fun K p Z _ _ _ _ _ _ _ _ _ hZ => l09Summed_any K p _ _ _ _ _ _ _ _ _ m a b Z hZ
  obtain ⟨fu, hfu⟩ : ∃ f, Hid (m.fuel = f) := ⟨_, (rfl : m.fuel = m.fuel)⟩
  obtain ⟨bd, hbd⟩ : ∃ f, Hid (m.bad = f) := ⟨_, (rfl : m.bad = m.bad)⟩
  rw [hfu.out, hbd.out] at cC ⊢
  obtain ⟨M, hM⟩ : ∃ M, Hid ((summedM m a b).1 = M) := ⟨_, (rfl : (summedM m a b).1 = (summedM m a b).1)⟩
  rw [hM.out] at cX ⊢
  clear ha hn hl
  unfold SpDoes at cX
  obtain ⟨r, hr⟩ : ∃ r, Hid ((summedM m a b).2 = r) := ⟨_, (rfl : (summedM m a b).2 = _)⟩
  rw [hr.out] at cX ⊢
  have L0 : Hid (Laid w [(.cells #[a0, a1, a2, .int .i64 fu, .int .i64 bd] 27 (0, 0)), (.cells #[.slice none 0 0, .slice none 0 0, .slice none 0 0, .int .i64 0, .int .i64 0] 27 (0, 0))] ((w.alloc (.cells #[a0, a1, a2, .int .i64 fu, .int .i64 bd] 27 (0, 0))).alloc (.cells #[.slice none 0 0, .slice none 0 0, .slice none 0 0, .int .i64 0, .int .i64 0] 27 (0, 0)))) := (allocs_laid [(.cells #[a0, a1, a2, .int .i64 fu, .int .i64 bd] 27 (0, 0)), (.cells #[.slice none 0 0, .slice none 0 0, .slice none 0 0, .int .i64 0, .int .i64 0] 27 (0, 0))] w).1
  have hz0 : ((w.alloc (.cells #[a0, a1, a2, .int .i64 fu, .int .i64 bd] 27 (0, 0))).alloc (.cells #[.slice none 0 0, .slice none 0 0, .slice none 0 0, .int .i64 0, .int .i64 0] 27 (0, 0))).heap.size = w.heap.size + 2 := (allocs_laid [(.cells #[a0, a1, a2, .int .i64 fu, .int .i64 bd] 27 (0, 0)), (.cells #[.slice none 0 0, .slice none 0 0, .slice none 0 0, .int .i64 0, .int .i64 0] 27 (0, 0))] w).2
  have HZ0 : Hid _ := hz0
  clear hz0
  go_enter Try.func26, Try.ntmps26
  go_wp2_with fail
  go_at_call 58
  refine Calls.mono (cC.out _ L0.out.low) ?_
  rintro e w1 ⟨x0, n0, c0, x1, n1, c1, x2, n2, c2, rfl, ⟨o0, o1, o2, on⟩, hb⟩
  rw [HZ0.out] at o0 o1 o2
  have L1 : Hid (Laid w [(.cells #[a0, a1, a2, .int .i64 fu, .int .i64 bd] 27 (0, 0)), (.cells #[.slice none 0 0, .slice none 0 0, .slice none 0 0, .int .i64 0, .int .i64 0] 27 (0, 0))] w1) := L0.out.next hb
  have hz1 : w.heap.size + 2 ≤ w1.heap.size := L1.out.size
  have HP : Hid (MmAt (w.heap.size + 2) (w1.alloc (.cells #[.slice x0 n0 c0, .slice x1 n1 c1, .slice x2 n2 c2, .int .i64 fu, .int .i64 bd] 27 (0, 0))) w1.heap.size (.slice x0 n0 c0) (.slice x1 n1 c1) (.slice x2 n2 c2) m) := by
    have := MmAt.of_copy o0 o1 o2 on hz1
    rw [hfu.out, hbd.out] at this
    exact this
  clear hb o0 o1 o2 on L0 HZ0 cC
  go_wp2_with fail
  go_at_call 67
  refine Calls.mono (cX.out _ _ _ _ _ _ _ _ _ _ _ _ HP.out) ?_
  rintro e w2 ⟨rfl, ⟨y0, m0, d0, y1, m1, d1, y2, m2, d2, hM2⟩, hb⟩
  have L2 : Hid (Laid w [(.cells #[a0, a1, a2, .int .i64 fu, .int .i64 bd] 27 (0, 0)), (.cells #[.slice none 0 0, .slice none 0 0, .slice none 0 0, .int .i64 0, .int .i64 0] 27 (0, 0))] w2) := (L1.out.next ((Below.refl _ _).alloc (Nat.le_refl _) _)).keep hb (by simp)
  have HM2 : Hid (MmAt (w.heap.size + 2) w2 w1.heap.size (.slice y0 m0 d0) (.slice y1 m1 d1) (.slice y2 m2 d2) M) := hM2
  clear hb hM2 cX L1
  have u0 := cell_at HM2.out.blk 0
  have u1 := cell_at HM2.out.blk 1
  have u2 := cell_at HM2.out.blk 2
  have u3 := cell_at HM2.out.blk 3
  have u4 := cell_at HM2.out.blk 4
  have hlt := HM2.out.lt
  have r0' := cell_at (L2.out.at_ 1 _ rfl) 0
  have q0' := free_at (L2.out.at_ 1 _ rfl) 0
  have r1' := cell_at (L2.out.at_ 1 _ rfl) 1
  have q1' := free_at (L2.out.at_ 1 _ rfl) 1
  have r2' := cell_at (L2.out.at_ 1 _ rfl) 2
  have q2' := free_at (L2.out.at_ 1 _ rfl) 2
  have r3' := cell_at (L2.out.at_ 1 _ rfl) 3
  have q3' := free_at (L2.out.at_ 1 _ rfl) 3
  have r4' := cell_at (L2.out.at_ 1 _ rfl) 4
  have q4' := free_at (L2.out.at_ 1 _ rfl) 4
  simp at u0 u1 u2 u3 u4 r0' r1' r2' r3' r4'
  have HX : Hid (w.heap.size + 1 ∉ fpOf (.slice y0 m0 d0) ∧ w.heap.size + 1 ∉ fpOf (.slice y1 m1 d1) ∧ w.heap.size + 1 ∉ fpOf (.slice y2 m2 d2)) := ⟨fun hm => by have := (OwnsR.lt HM2.out.cells _ hm).1; omega, fun hm => by have := (OwnsR.lt HM2.out.input _ hm).1; omega, fun hm => by have := (OwnsR.lt HM2.out.out _ hm).1; omega⟩
  go_wp2
  obtain ⟨Z, hZ⟩ : ∃ Z, Z = (((((w2.setCell ⟨w.heap.size + 1, 0, none⟩ (.slice y0 m0 d0)).setCell ⟨w.heap.size + 1, 1, none⟩ (.slice y1 m1 d1)).setCell ⟨w.heap.size + 1, 2, none⟩ (.slice y2 m2 d2)).setCell ⟨w.heap.size + 1, 3, none⟩ (.int .i64 M.fuel)).setCell ⟨w.heap.size + 1, 4, none⟩ (.int .i64 M.bad)) := ⟨_, rfl⟩
  rw [← hZ]
  have h2 : Z.heap[w.heap.size + 1]? = some (.cells #[.slice y0 m0 d0, .slice y1 m1 d1, .slice y2 m2 d2, .int .i64 M.fuel, .int .i64 M.bad] 27 (0, 0)) := by
    rw [hZ]
    exact (heap_set ((heap_set ((heap_set ((heap_set ((heap_set (L2.out.at_ 1 _ rfl))))))))))
  have e0 := cell_at h2 0
  have e1 := cell_at h2 1
  have e2 := cell_at h2 2
  have e3 := cell_at h2 3
  have e4 := cell_at h2 4
  simp at e0 e1 e2 e3 e4
  have HZ : RowMm Z Z.heap.size (.slice y0 m0 d0) (.slice y1 m1 d1) (.slice y2 m2 d2) M := by
    rw [hZ]
    exact (((((HM2.out.aside (w.heap.size + 1) 0 (.slice y0 m0 d0) (by omega) HX.out.1 HX.out.2.1 HX.out.2.2).aside (w.heap.size + 1) 1 (.slice y1 m1 d1) (by omega) HX.out.1 HX.out.2.1 HX.out.2.2).aside (w.heap.size + 1) 2 (.slice y2 m2 d2) (by omega) HX.out.1 HX.out.2.1 HX.out.2.2).aside (w.heap.size + 1) 3 (.int .i64 M.fuel) (by omega) HX.out.1 HX.out.2.1 HX.out.2.2).aside (w.heap.size + 1) 4 (.int .i64 M.bad) (by omega) HX.out.1 HX.out.2.1 HX.out.2.2).row
  have hZB : Below w.heap.size w Z := by
    rw [hZ]
    exact (((((L2.out.low.setCell (p := ⟨w.heap.size + 1, 0, none⟩) (by show _ ≤ _; simp) (.slice y0 m0 d0)).setCell (p := ⟨w.heap.size + 1, 1, none⟩) (by show _ ≤ _; simp) (.slice y1 m1 d1)).setCell (p := ⟨w.heap.size + 1, 2, none⟩) (by show _ ≤ _; simp) (.slice y2 m2 d2)).setCell (p := ⟨w.heap.size + 1, 3, none⟩) (by show _ ≤ _; simp) (.int .i64 M.fuel)).setCell (p := ⟨w.heap.size + 1, 4, none⟩) (by show _ ≤ _; simp) (.int .i64 M.bad))
  refine bodyPost_ret (by simp [results, Try.results26, go_sem, e0, e1, e2, e3, e4, Result.andThen]; try rfl) rfl ?_
  exact ⟨_, _, _, _, _, _, _, _, _, rfl, HZ, hZB⟩

set_option maxRecDepth 100000 in
set_option maxHeartbeats 3200000 in
theorem specFresh_any (B : Nat) (m : Mm) (a0 a1 a2 : Value) (k : Int) (w : World) (hB : B ≤ w.heap.size) (ha : RowMm w B a0 a1 a2 m) (hn : nilOk a0 ∧ nilOk a1 ∧ nilOk a2) (hl : szMm m ≤ 2000000) :
    Calls Try.prog 20 #[.agg #[a0, a1, a2, .int .i64 m.fuel, .int .i64 m.bad], .int .i64 k] w fun e w' => ∃ x0 n0 c0 x1 n1 c1 x2 n2 c2, e = .returned (.tuple #[.agg #[.slice x0 n0 c0, .slice x1 n1 c1, .slice x2 n2 c2, .int .i64 (freshM m k).1.fuel, .int .i64 (freshM m k).1.bad], .agg #[.int .i64 (freshM m k).2.1, .int .i64 (freshM m k).2.2]]) ∧ RowMm w' w'.heap.size (.slice x0 n0 c0) (.slice x1 n1 c1) (.slice x2 n2 c2) (freshM m k).1 ∧ Below w.heap.size w w' := by
  have cC : Hid (∀ W, Below w.heap.size w W → Calls Try.prog 58 #[.agg #[a0, a1, a2, .int .i64 m.fuel, .int .i64 m.bad]] W fun e w' => ∃ x0 n0 c0 x1 n1 c1 x2 n2 c2, e = .returned (.agg #[.slice x0 n0 c0, .slice x1 n1 c1, .slice x2 n2 c2, .int .i64 m.fuel, .int .i64 m.bad]) ∧ (OwnsR ceC 2 w' W.heap.size 82 (.slice x0 n0 c0) m.cells ∧ OwnsI w' W.heap.size (.slice x1 n1 c1) m.input ∧ OwnsI w' W.heap.size (.slice x2 n2 c2) m.out ∧ (fps [.slice x0 n0 c0, .slice x1 n1 c1, .slice x2 n2 c2]).Nodup) ∧ Below W.heap.size W w') := fun W hW =>
    l09Copy_any B m a0 a1 a2 W (Nat.le_trans hB hW.size) (ha.keep (hW.mono hB)) hn hl
  have cX : Hid (∀ K p Z x0 n0 c0 x1 n1 c1 x2 n2 c2, MmAt K Z p (.slice x0 n0 c0) (.slice x1 n1 c1) (.slice x2 n2 c2) m → SpDoes 59 #[.pointer (some ⟨p, 0, none⟩), .int .i64 k] Z K p (freshM m k).1 (.agg #[.int .i64 (freshM m k).2.1, .int .i64 (freshM m k).2.2])) := fun K p Z _ _ _ _ _ _ _ _ _ hZ => (l09Fresh_any K p _ _ _ _ _ _ _ _ _ m k Z hZ hl).mono (fun e w2 h => ⟨h.1.1, (by obtain ⟨y0, m0, d0, h1, _⟩ := h.1.2.1; exact ⟨_, _, _, _, _, _, _, _, _, h1⟩), h.1.2.2⟩)
  obtain ⟨fu, hfu⟩ : ∃ f, Hid (m.fuel = f) := ⟨_, (rfl : m.fuel = m.fuel)⟩
  obtain ⟨bd, hbd⟩ : ∃ f, Hid (m.bad = f) := ⟨_, (rfl : m.bad = m.bad)⟩
  rw [hfu.out, hbd.out] at cC ⊢
  obtain ⟨M, hM⟩ : ∃ M, Hid ((freshM m k).1 = M) := ⟨_, (rfl : (freshM m k).1 = (freshM m k).1)⟩
  rw [hM.out] at cX ⊢
  clear ha hn hl
  unfold SpDoes at cX
  obtain ⟨r1, hr1⟩ : ∃ r, Hid ((freshM m k).2.1 = r) := ⟨_, (rfl : (freshM m k).2.1 = _)⟩
  obtain ⟨r2, hr2⟩ : ∃ r, Hid ((freshM m k).2.2 = r) := ⟨_, (rfl : (freshM m k).2.2 = _)⟩
  rw [hr1.out, hr2.out] at cX ⊢
  have L0 : Hid (Laid w [(.cells #[a0, a1, a2, .int .i64 fu, .int .i64 bd] 27 (0, 0)), (.cells #[.slice none 0 0, .slice none 0 0, .slice none 0 0, .int .i64 0, .int .i64 0] 27 (0, 0)), (.cells #[.int .i64 0, .int .i64 0] 31 (0, 0))] (((w.alloc (.cells #[a0, a1, a2, .int .i64 fu, .int .i64 bd] 27 (0, 0))).alloc (.cells #[.slice none 0 0, .slice none 0 0, .slice none 0 0, .int .i64 0, .int .i64 0] 27 (0, 0))).alloc (.cells #[.int .i64 0, .int .i64 0] 31 (0, 0)))) := (allocs_laid [(.cells #[a0, a1, a2, .int .i64 fu, .int .i64 bd] 27 (0, 0)), (.cells #[.slice none 0 0, .slice none 0 0, .slice none 0 0, .int .i64 0, .int .i64 0] 27 (0, 0)), (.cells #[.int .i64 0, .int .i64 0] 31 (0, 0))] w).1
  have hz0 : (((w.alloc (.cells #[a0, a1, a2, .int .i64 fu, .int .i64 bd] 27 (0, 0))).alloc (.cells #[.slice none 0 0, .slice none 0 0, .slice none 0 0, .int .i64 0, .int .i64 0] 27 (0, 0))).alloc (.cells #[.int .i64 0, .int .i64 0] 31 (0, 0))).heap.size = w.heap.size + 3 := (allocs_laid [(.cells #[a0, a1, a2, .int .i64 fu, .int .i64 bd] 27 (0, 0)), (.cells #[.slice none 0 0, .slice none 0 0, .slice none 0 0, .int .i64 0, .int .i64 0] 27 (0, 0)), (.cells #[.int .i64 0, .int .i64 0] 31 (0, 0))] w).2
  have HZ0 : Hid _ := hz0
  clear hz0
  go_enter Try.func20, Try.ntmps20
  go_wp2_with fail
  go_at_call 58
  refine Calls.mono (cC.out _ L0.out.low) ?_
  rintro e w1 ⟨x0, n0, c0, x1, n1, c1, x2, n2, c2, rfl, ⟨o0, o1, o2, on⟩, hb⟩
  rw [HZ0.out] at o0 o1 o2
  have L1 : Hid (Laid w [(.cells #[a0, a1, a2, .int .i64 fu, .int .i64 bd] 27 (0, 0)), (.cells #[.slice none 0 0, .slice none 0 0, .slice none 0 0, .int .i64 0, .int .i64 0] 27 (0, 0)), (.cells #[.int .i64 0, .int .i64 0] 31 (0, 0))] w1) := L0.out.next hb
  have hz1 : w.heap.size + 3 ≤ w1.heap.size := L1.out.size
  have HP : Hid (MmAt (w.heap.size + 3) (w1.alloc (.cells #[.slice x0 n0 c0, .slice x1 n1 c1, .slice x2 n2 c2, .int .i64 fu, .int .i64 bd] 27 (0, 0))) w1.heap.size (.slice x0 n0 c0) (.slice x1 n1 c1) (.slice x2 n2 c2) m) := by
    have := MmAt.of_copy o0 o1 o2 on hz1
    rw [hfu.out, hbd.out] at this
    exact this
  clear hb o0 o1 o2 on L0 HZ0 cC
  go_wp2_with fail
  go_at_call 59
  refine Calls.mono (cX.out _ _ _ _ _ _ _ _ _ _ _ _ HP.out) ?_
  rintro e w2 ⟨rfl, ⟨y0, m0, d0, y1, m1, d1, y2, m2, d2, hM2⟩, hb⟩
  have L2 : Hid (Laid w [(.cells #[a0, a1, a2, .int .i64 fu, .int .i64 bd] 27 (0, 0)), (.cells #[.slice none 0 0, .slice none 0 0, .slice none 0 0, .int .i64 0, .int .i64 0] 27 (0, 0)), (.cells #[.int .i64 0, .int .i64 0] 31 (0, 0))] w2) := (L1.out.next ((Below.refl _ _).alloc (Nat.le_refl _) _)).keep hb (by simp)
  have HM2 : Hid (MmAt (w.heap.size + 3) w2 w1.heap.size (.slice y0 m0 d0) (.slice y1 m1 d1) (.slice y2 m2 d2) M) := hM2
  clear hb hM2 cX L1
  have V3 : Hid ((w2.alloc (.cells #[.int .i64 r1, .int .i64 r2] 31 (0, 0))).heap[w2.heap.size]? = some (.cells #[.int .i64 r1, .int .i64 r2] 31 (0, 0)) ∧ w2.heap.size < (w2.alloc (.cells #[.int .i64 r1, .int .i64 r2] 31 (0, 0))).heap.size) := ⟨heap_alloc_new _ _, by simp⟩
  have L3 : Hid (Laid w [(.cells #[a0, a1, a2, .int .i64 fu, .int .i64 bd] 27 (0, 0)), (.cells #[.slice none 0 0, .slice none 0 0, .slice none 0 0, .int .i64 0, .int .i64 0] 27 (0, 0)), (.cells #[.int .i64 0, .int .i64 0] 31 (0, 0))] (w2.alloc (.cells #[.int .i64 r1, .int .i64 r2] 31 (0, 0)))) := L2.out.next ((Below.refl _ _).alloc (Nat.le_refl _) _)
  have HM3 : Hid (MmAt (w.heap.size + 3) (w2.alloc (.cells #[.int .i64 r1, .int .i64 r2] 31 (0, 0))) w1.heap.size (.slice y0 m0 d0) (.slice y1 m1 d1) (.slice y2 m2 d2) M) := HM2.out.below ((Below.refl _ _).alloc (Nat.le_refl _) _)
  have hz2 : w1.heap.size < w2.heap.size := HM2.out.lt
  clear L2 HM2
  go_wp2_with fail
  generalize w2.alloc (.cells #[.int .i64 r1, .int .i64 r2] 31 (0, 0)) = W3 at V3 L3 HM3 ⊢
  have L2 : Hid _ := L3.out
  have HM2 : Hid _ := HM3.out
  clear L3 HM3
  have u0 := cell_at HM2.out.blk 0
  have u1 := cell_at HM2.out.blk 1
  have u2 := cell_at HM2.out.blk 2
  have u3 := cell_at HM2.out.blk 3
  have u4 := cell_at HM2.out.blk 4
  have hlt := HM2.out.lt
  have r0' := cell_at (L2.out.at_ 1 _ rfl) 0
  have q0' := free_at (L2.out.at_ 1 _ rfl) 0
  have r1' := cell_at (L2.out.at_ 1 _ rfl) 1
  have q1' := free_at (L2.out.at_ 1 _ rfl) 1
  have r2' := cell_at (L2.out.at_ 1 _ rfl) 2
  have q2' := free_at (L2.out.at_ 1 _ rfl) 2
  have r3' := cell_at (L2.out.at_ 1 _ rfl) 3
  have q3' := free_at (L2.out.at_ 1 _ rfl) 3
  have r4' := cell_at (L2.out.at_ 1 _ rfl) 4
  have q4' := free_at (L2.out.at_ 1 _ rfl) 4
  simp at u0 u1 u2 u3 u4 r0' r1' r2' r3' r4'
  have HX : Hid (w.heap.size + 1 ∉ fpOf (.slice y0 m0 d0) ∧ w.heap.size + 1 ∉ fpOf (.slice y1 m1 d1) ∧ w.heap.size + 1 ∉ fpOf (.slice y2 m2 d2)) := ⟨fun hm => by have := (OwnsR.lt HM2.out.cells _ hm).1; omega, fun hm => by have := (OwnsR.lt HM2.out.input _ hm).1; omega, fun hm => by have := (OwnsR.lt HM2.out.out _ hm).1; omega⟩
  have v0' := cell_at V3.out.1 0
  have v1' := cell_at V3.out.1 1
  have t0' := cell_at (L2.out.at_ 2 _ rfl) 0
  have z0' := free_at (L2.out.at_ 2 _ rfl) 0
  have t1' := cell_at (L2.out.at_ 2 _ rfl) 1
  have z1' := free_at (L2.out.at_ 2 _ rfl) 1
  have HY : Hid (w.heap.size + 2 ∉ fpOf (.slice y0 m0 d0) ∧ w.heap.size + 2 ∉ fpOf (.slice y1 m1 d1) ∧ w.heap.size + 2 ∉ fpOf (.slice y2 m2 d2)) := ⟨fun hm => by have := (OwnsR.lt HM2.out.cells _ hm).1; omega, fun hm => by have := (OwnsR.lt HM2.out.input _ hm).1; omega, fun hm => by have := (OwnsR.lt HM2.out.out _ hm).1; omega⟩
  simp at v0' v1' t0' t1'
  go_region
  obtain ⟨Z, hZ⟩ : ∃ Z, Z = (((((((W3.setCell ⟨w.heap.size + 1, 0, none⟩ (.slice y0 m0 d0)).setCell ⟨w.heap.size + 1, 1, none⟩ (.slice y1 m1 d1)).setCell ⟨w.heap.size + 1, 2, none⟩ (.slice y2 m2 d2)).setCell ⟨w.heap.size + 1, 3, none⟩ (.int .i64 M.fuel)).setCell ⟨w.heap.size + 1, 4, none⟩ (.int .i64 M.bad)).setCell ⟨w.heap.size + 2, 0, none⟩ (.int .i64 r1)).setCell ⟨w.heap.size + 2, 1, none⟩ (.int .i64 r2)) := ⟨_, rfl⟩
  have HH : Hid (Z.heap[w.heap.size + 1]? = some (.cells #[.slice y0 m0 d0, .slice y1 m1 d1, .slice y2 m2 d2, .int .i64 M.fuel, .int .i64 M.bad] 27 (0, 0)) ∧ Z.heap[w.heap.size + 2]? = some (.cells #[.int .i64 r1, .int .i64 r2] 31 (0, 0))) := by
    rw [hZ]
    exact ⟨((kept_set (by omega)).trans ((kept_set (by omega)).trans (heap_set ((heap_set ((heap_set ((heap_set ((heap_set (L2.out.at_ 1 _ rfl)))))))))))), (heap_set (heap_set ((kept_set (by omega)).trans ((kept_set (by omega)).trans ((kept_set (by omega)).trans ((kept_set (by omega)).trans ((kept_set (by omega)).trans (L2.out.at_ 2 _ rfl))))))))⟩
  have HZ : Hid (RowMm Z Z.heap.size (.slice y0 m0 d0) (.slice y1 m1 d1) (.slice y2 m2 d2) M) := by
    show RowMm _ _ _ _ _ _
    rw [hZ]
    exact (((((((HM2.out.aside (w.heap.size + 1) 0 (.slice y0 m0 d0) (by omega) HX.out.1 HX.out.2.1 HX.out.2.2).aside (w.heap.size + 1) 1 (.slice y1 m1 d1) (by omega) HX.out.1 HX.out.2.1 HX.out.2.2).aside (w.heap.size + 1) 2 (.slice y2 m2 d2) (by omega) HX.out.1 HX.out.2.1 HX.out.2.2).aside (w.heap.size + 1) 3 (.int .i64 M.fuel) (by omega) HX.out.1 HX.out.2.1 HX.out.2.2).aside (w.heap.size + 1) 4 (.int .i64 M.bad) (by omega) HX.out.1 HX.out.2.1 HX.out.2.2).aside (w.heap.size + 2) 0 (.int .i64 r1) (by omega) HY.out.1 HY.out.2.1 HY.out.2.2).aside (w.heap.size + 2) 1 (.int .i64 r2) (by omega) HY.out.1 HY.out.2.1 HY.out.2.2).row
  have HZB : Hid (Below w.heap.size w Z) := by
    show Below _ _ _
    rw [hZ]
    exact (((((((L2.out.low.setCell (p := ⟨w.heap.size + 1, 0, none⟩) (by show _ ≤ _; simp) (.slice y0 m0 d0)).setCell (p := ⟨w.heap.size + 1, 1, none⟩) (by show _ ≤ _; simp) (.slice y1 m1 d1)).setCell (p := ⟨w.heap.size + 1, 2, none⟩) (by show _ ≤ _; simp) (.slice y2 m2 d2)).setCell (p := ⟨w.heap.size + 1, 3, none⟩) (by show _ ≤ _; simp) (.int .i64 M.fuel)).setCell (p := ⟨w.heap.size + 1, 4, none⟩) (by show _ ≤ _; simp) (.int .i64 M.bad)).setCell (p := ⟨w.heap.size + 2, 0, none⟩) (by show _ ≤ _; simp) (.int .i64 r1)).setCell (p := ⟨w.heap.size + 2, 1, none⟩) (by show _ ≤ _; simp) (.int .i64 r2))
  rw [← hZ]
  clear hZ
  have e0 := cell_at HH.out.1 0
  have e1 := cell_at HH.out.1 1
  have e2 := cell_at HH.out.1 2
  have e3 := cell_at HH.out.1 3
  have e4 := cell_at HH.out.1 4
  have e5 := cell_at HH.out.2 0
  have e6 := cell_at HH.out.2 1
  simp at e0 e1 e2 e3 e4 e5 e6
  go_wp2
  refine bodyPost_ret (by simp [results, Try.results20, go_sem, e0, e1, e2, e3, e4, e5, e6, Result.andThen]; try rfl) rfl ?_
  exact ⟨_, _, _, _, _, _, _, _, _, rfl, HZ.out.keep (Below.refl _ _).drew, HZB.out.drew⟩

set_option maxRecDepth 100000 in
set_option maxHeartbeats 3200000 in
theorem specMoved_any (B : Nat) (m : Mm) (a0 a1 a2 : Value) (t k : Int) (w : World) (hB : B ≤ w.heap.size) (ha : RowMm w B a0 a1 a2 m) (hn : nilOk a0 ∧ nilOk a1 ∧ nilOk a2) (hl : szMm m ≤ 2000000) :
    Calls Try.prog 21 #[.agg #[a0, a1, a2, .int .i64 m.fuel, .int .i64 m.bad], .agg #[.int .i64 t, .int .i64 k]] w fun e w' => ∃ x0 n0 c0 x1 n1 c1 x2 n2 c2, e = .returned (.tuple #[.agg #[.slice x0 n0 c0, .slice x1 n1 c1, .slice x2 n2 c2, .int .i64 (movedM m t k).1.fuel, .int .i64 (movedM m t k).1.bad], .agg #[.int .i64 (movedM m t k).2.1, .int .i64 (movedM m t k).2.2]]) ∧ RowMm w' w'.heap.size (.slice x0 n0 c0) (.slice x1 n1 c1) (.slice x2 n2 c2) (movedM m t k).1 ∧ Below w.heap.size w w' := by
  have cC : Hid (∀ W, Below w.heap.size w W → Calls Try.prog 58 #[.agg #[a0, a1, a2, .int .i64 m.fuel, .int .i64 m.bad]] W fun e w' => ∃ x0 n0 c0 x1 n1 c1 x2 n2 c2, e = .returned (.agg #[.slice x0 n0 c0, .slice x1 n1 c1, .slice x2 n2 c2, .int .i64 m.fuel, .int .i64 m.bad]) ∧ (OwnsR ceC 2 w' W.heap.size 82 (.slice x0 n0 c0) m.cells ∧ OwnsI w' W.heap.size (.slice x1 n1 c1) m.input ∧ OwnsI w' W.heap.size (.slice x2 n2 c2) m.out ∧ (fps [.slice x0 n0 c0, .slice x1 n1 c1, .slice x2 n2 c2]).Nodup) ∧ Below W.heap.size W w') := fun W hW =>
    l09Copy_any B m a0 a1 a2 W (Nat.le_trans hB hW.size) (ha.keep (hW.mono hB)) hn hl
  have cX : Hid (∀ K p Z x0 n0 c0 x1 n1 c1 x2 n2 c2, MmAt K Z p (.slice x0 n0 c0) (.slice x1 n1 c1) (.slice x2 n2 c2) m → SpDoes 60 #[.pointer (some ⟨p, 0, none⟩), .agg #[.int .i64 t, .int .i64 k]] Z K p (movedM m t k).1 (.agg #[.int .i64 (movedM m t k).2.1, .int .i64 (movedM m t k).2.2])) := fun K p Z _ _ _ _ _ _ _ _ _ hZ => l09Moved_any K p _ _ _ _ _ _ _ _ _ m t k Z hZ hl
  obtain ⟨fu, hfu⟩ : ∃ f, Hid (m.fuel = f) := ⟨_, (rfl : m.fuel = m.fuel)⟩
  obtain ⟨bd, hbd⟩ : ∃ f, Hid (m.bad = f) := ⟨_, (rfl : m.bad = m.bad)⟩
  rw [hfu.out, hbd.out] at cC ⊢
  obtain ⟨M, hM⟩ : ∃ M, Hid ((movedM m t k).1 = M) := ⟨_, (rfl : (movedM m t k).1 = (movedM m t k).1)⟩
  rw [hM.out] at cX ⊢
  clear ha hn hl
  unfold SpDoes at cX
  obtain ⟨r1, hr1⟩ : ∃ r, Hid ((movedM m t k).2.1 = r) := ⟨_, (rfl : (movedM m t k).2.1 = _)⟩
  obtain ⟨r2, hr2⟩ : ∃ r, Hid ((movedM m t k).2.2 = r) := ⟨_, (rfl : (movedM m t k).2.2 = _)⟩
  rw [hr1.out, hr2.out] at cX ⊢
  have L0 : Hid (Laid w [(.cells #[a0, a1, a2, .int .i64 fu, .int .i64 bd] 27 (0, 0)), (.cells #[.int .i64 t, .int .i64 k] 31 (0, 0)), (.cells #[.slice none 0 0, .slice none 0 0, .slice none 0 0, .int .i64 0, .int .i64 0] 27 (0, 0)), (.cells #[.int .i64 0, .int .i64 0] 31 (0, 0))] ((((w.alloc (.cells #[a0, a1, a2, .int .i64 fu, .int .i64 bd] 27 (0, 0))).alloc (.cells #[.int .i64 t, .int .i64 k] 31 (0, 0))).alloc (.cells #[.slice none 0 0, .slice none 0 0, .slice none 0 0, .int .i64 0, .int .i64 0] 27 (0, 0))).alloc (.cells #[.int .i64 0, .int .i64 0] 31 (0, 0)))) := (allocs_laid [(.cells #[a0, a1, a2, .int .i64 fu, .int .i64 bd] 27 (0, 0)), (.cells #[.int .i64 t, .int .i64 k] 31 (0, 0)), (.cells #[.slice none 0 0, .slice none 0 0, .slice none 0 0, .int .i64 0, .int .i64 0] 27 (0, 0)), (.cells #[.int .i64 0, .int .i64 0] 31 (0, 0))] w).1
  have hz0 : ((((w.alloc (.cells #[a0, a1, a2, .int .i64 fu, .int .i64 bd] 27 (0, 0))).alloc (.cells #[.int .i64 t, .int .i64 k] 31 (0, 0))).alloc (.cells #[.slice none 0 0, .slice none 0 0, .slice none 0 0, .int .i64 0, .int .i64 0] 27 (0, 0))).alloc (.cells #[.int .i64 0, .int .i64 0] 31 (0, 0))).heap.size = w.heap.size + 4 := (allocs_laid [(.cells #[a0, a1, a2, .int .i64 fu, .int .i64 bd] 27 (0, 0)), (.cells #[.int .i64 t, .int .i64 k] 31 (0, 0)), (.cells #[.slice none 0 0, .slice none 0 0, .slice none 0 0, .int .i64 0, .int .i64 0] 27 (0, 0)), (.cells #[.int .i64 0, .int .i64 0] 31 (0, 0))] w).2
  have HZ0 : Hid _ := hz0
  clear hz0
  go_enter Try.func21, Try.ntmps21
  go_wp2_with fail
  go_at_call 58
  refine Calls.mono (cC.out _ L0.out.low) ?_
  rintro e w1 ⟨x0, n0, c0, x1, n1, c1, x2, n2, c2, rfl, ⟨o0, o1, o2, on⟩, hb⟩
  rw [HZ0.out] at o0 o1 o2
  have L1 : Hid (Laid w [(.cells #[a0, a1, a2, .int .i64 fu, .int .i64 bd] 27 (0, 0)), (.cells #[.int .i64 t, .int .i64 k] 31 (0, 0)), (.cells #[.slice none 0 0, .slice none 0 0, .slice none 0 0, .int .i64 0, .int .i64 0] 27 (0, 0)), (.cells #[.int .i64 0, .int .i64 0] 31 (0, 0))] w1) := L0.out.next hb
  have hz1 : w.heap.size + 4 ≤ w1.heap.size := L1.out.size
  have HP : Hid (MmAt (w.heap.size + 4) (w1.alloc (.cells #[.slice x0 n0 c0, .slice x1 n1 c1, .slice x2 n2 c2, .int .i64 fu, .int .i64 bd] 27 (0, 0))) w1.heap.size (.slice x0 n0 c0) (.slice x1 n1 c1) (.slice x2 n2 c2) m) := by
    have := MmAt.of_copy o0 o1 o2 on hz1
    rw [hfu.out, hbd.out] at this
    exact this
  have bt : w1.cell? ⟨w.heap.size + 1, 0, none⟩ = some (.int .i64 t) := cell_at (L1.out.at_ 1 _ rfl) 0
  have bk : w1.cell? ⟨w.heap.size + 1, 1, none⟩ = some (.int .i64 k) := cell_at (L1.out.at_ 1 _ rfl) 1
  have bl : w.heap.size + 1 < w1.heap.size := by omega
  clear hb o0 o1 o2 on L0 HZ0 cC
  go_wp2_with fail
  go_at_call 60
  refine Calls.mono (cX.out _ _ _ _ _ _ _ _ _ _ _ _ HP.out) ?_
  rintro e w2 ⟨rfl, ⟨y0, m0, d0, y1, m1, d1, y2, m2, d2, hM2⟩, hb⟩
  have L2 : Hid (Laid w [(.cells #[a0, a1, a2, .int .i64 fu, .int .i64 bd] 27 (0, 0)), (.cells #[.int .i64 t, .int .i64 k] 31 (0, 0)), (.cells #[.slice none 0 0, .slice none 0 0, .slice none 0 0, .int .i64 0, .int .i64 0] 27 (0, 0)), (.cells #[.int .i64 0, .int .i64 0] 31 (0, 0))] w2) := (L1.out.next ((Below.refl _ _).alloc (Nat.le_refl _) _)).keep hb (by simp)
  have HM2 : Hid (MmAt (w.heap.size + 4) w2 w1.heap.size (.slice y0 m0 d0) (.slice y1 m1 d1) (.slice y2 m2 d2) M) := hM2
  clear hb hM2 cX L1 bt bk bl
  have V3 : Hid ((w2.alloc (.cells #[.int .i64 r1, .int .i64 r2] 31 (0, 0))).heap[w2.heap.size]? = some (.cells #[.int .i64 r1, .int .i64 r2] 31 (0, 0)) ∧ w2.heap.size < (w2.alloc (.cells #[.int .i64 r1, .int .i64 r2] 31 (0, 0))).heap.size) := ⟨heap_alloc_new _ _, by simp⟩
  have L3 : Hid (Laid w [(.cells #[a0, a1, a2, .int .i64 fu, .int .i64 bd] 27 (0, 0)), (.cells #[.int .i64 t, .int .i64 k] 31 (0, 0)), (.cells #[.slice none 0 0, .slice none 0 0, .slice none 0 0, .int .i64 0, .int .i64 0] 27 (0, 0)), (.cells #[.int .i64 0, .int .i64 0] 31 (0, 0))] (w2.alloc (.cells #[.int .i64 r1, .int .i64 r2] 31 (0, 0)))) := L2.out.next ((Below.refl _ _).alloc (Nat.le_refl _) _)
  have HM3 : Hid (MmAt (w.heap.size + 4) (w2.alloc (.cells #[.int .i64 r1, .int .i64 r2] 31 (0, 0))) w1.heap.size (.slice y0 m0 d0) (.slice y1 m1 d1) (.slice y2 m2 d2) M) := HM2.out.below ((Below.refl _ _).alloc (Nat.le_refl _) _)
  have hz2 : w1.heap.size < w2.heap.size := HM2.out.lt
  clear L2 HM2
  go_wp2_with fail
  generalize w2.alloc (.cells #[.int .i64 r1, .int .i64 r2] 31 (0, 0)) = W3 at V3 L3 HM3 ⊢
  have L2 : Hid _ := L3.out
  have HM2 : Hid _ := HM3.out
  clear L3 HM3
  have u0 := cell_at HM2.out.blk 0
  have u1 := cell_at HM2.out.blk 1
  have u2 := cell_at HM2.out.blk 2
  have u3 := cell_at HM2.out.blk 3
  have u4 := cell_at HM2.out.blk 4
  have hlt := HM2.out.lt
  have r0' := cell_at (L2.out.at_ 2 _ rfl) 0
  have q0' := free_at (L2.out.at_ 2 _ rfl) 0
  have r1' := cell_at (L2.out.at_ 2 _ rfl) 1
  have q1' := free_at (L2.out.at_ 2 _ rfl) 1
  have r2' := cell_at (L2.out.at_ 2 _ rfl) 2
  have q2' := free_at (L2.out.at_ 2 _ rfl) 2
  have r3' := cell_at (L2.out.at_ 2 _ rfl) 3
  have q3' := free_at (L2.out.at_ 2 _ rfl) 3
  have r4' := cell_at (L2.out.at_ 2 _ rfl) 4
  have q4' := free_at (L2.out.at_ 2 _ rfl) 4
  simp at u0 u1 u2 u3 u4 r0' r1' r2' r3' r4'
  have HX : Hid (w.heap.size + 2 ∉ fpOf (.slice y0 m0 d0) ∧ w.heap.size + 2 ∉ fpOf (.slice y1 m1 d1) ∧ w.heap.size + 2 ∉ fpOf (.slice y2 m2 d2)) := ⟨fun hm => by have := (OwnsR.lt HM2.out.cells _ hm).1; omega, fun hm => by have := (OwnsR.lt HM2.out.input _ hm).1; omega, fun hm => by have := (OwnsR.lt HM2.out.out _ hm).1; omega⟩
  have v0' := cell_at V3.out.1 0
  have v1' := cell_at V3.out.1 1
  have t0' := cell_at (L2.out.at_ 3 _ rfl) 0
  have z0' := free_at (L2.out.at_ 3 _ rfl) 0
  have t1' := cell_at (L2.out.at_ 3 _ rfl) 1
  have z1' := free_at (L2.out.at_ 3 _ rfl) 1
  have HY : Hid (w.heap.size + 3 ∉ fpOf (.slice y0 m0 d0) ∧ w.heap.size + 3 ∉ fpOf (.slice y1 m1 d1) ∧ w.heap.size + 3 ∉ fpOf (.slice y2 m2 d2)) := ⟨fun hm => by have := (OwnsR.lt HM2.out.cells _ hm).1; omega, fun hm => by have := (OwnsR.lt HM2.out.input _ hm).1; omega, fun hm => by have := (OwnsR.lt HM2.out.out _ hm).1; omega⟩
  simp at v0' v1' t0' t1'
  go_region
  obtain ⟨Z, hZ⟩ : ∃ Z, Z = (((((((W3.setCell ⟨w.heap.size + 2, 0, none⟩ (.slice y0 m0 d0)).setCell ⟨w.heap.size + 2, 1, none⟩ (.slice y1 m1 d1)).setCell ⟨w.heap.size + 2, 2, none⟩ (.slice y2 m2 d2)).setCell ⟨w.heap.size + 2, 3, none⟩ (.int .i64 M.fuel)).setCell ⟨w.heap.size + 2, 4, none⟩ (.int .i64 M.bad)).setCell ⟨w.heap.size + 3, 0, none⟩ (.int .i64 r1)).setCell ⟨w.heap.size + 3, 1, none⟩ (.int .i64 r2)) := ⟨_, rfl⟩
  have HH : Hid (Z.heap[w.heap.size + 2]? = some (.cells #[.slice y0 m0 d0, .slice y1 m1 d1, .slice y2 m2 d2, .int .i64 M.fuel, .int .i64 M.bad] 27 (0, 0)) ∧ Z.heap[w.heap.size + 3]? = some (.cells #[.int .i64 r1, .int .i64 r2] 31 (0, 0))) := by
    rw [hZ]
    exact ⟨((kept_set (by omega)).trans ((kept_set (by omega)).trans (heap_set ((heap_set ((heap_set ((heap_set ((heap_set (L2.out.at_ 2 _ rfl)))))))))))), (heap_set (heap_set ((kept_set (by omega)).trans ((kept_set (by omega)).trans ((kept_set (by omega)).trans ((kept_set (by omega)).trans ((kept_set (by omega)).trans (L2.out.at_ 3 _ rfl))))))))⟩
  have HZ : Hid (RowMm Z Z.heap.size (.slice y0 m0 d0) (.slice y1 m1 d1) (.slice y2 m2 d2) M) := by
    show RowMm _ _ _ _ _ _
    rw [hZ]
    exact (((((((HM2.out.aside (w.heap.size + 2) 0 (.slice y0 m0 d0) (by omega) HX.out.1 HX.out.2.1 HX.out.2.2).aside (w.heap.size + 2) 1 (.slice y1 m1 d1) (by omega) HX.out.1 HX.out.2.1 HX.out.2.2).aside (w.heap.size + 2) 2 (.slice y2 m2 d2) (by omega) HX.out.1 HX.out.2.1 HX.out.2.2).aside (w.heap.size + 2) 3 (.int .i64 M.fuel) (by omega) HX.out.1 HX.out.2.1 HX.out.2.2).aside (w.heap.size + 2) 4 (.int .i64 M.bad) (by omega) HX.out.1 HX.out.2.1 HX.out.2.2).aside (w.heap.size + 3) 0 (.int .i64 r1) (by omega) HY.out.1 HY.out.2.1 HY.out.2.2).aside (w.heap.size + 3) 1 (.int .i64 r2) (by omega) HY.out.1 HY.out.2.1 HY.out.2.2).row
  have HZB : Hid (Below w.heap.size w Z) := by
    show Below _ _ _
    rw [hZ]
    exact (((((((L2.out.low.setCell (p := ⟨w.heap.size + 2, 0, none⟩) (by show _ ≤ _; simp) (.slice y0 m0 d0)).setCell (p := ⟨w.heap.size + 2, 1, none⟩) (by show _ ≤ _; simp) (.slice y1 m1 d1)).setCell (p := ⟨w.heap.size + 2, 2, none⟩) (by show _ ≤ _; simp) (.slice y2 m2 d2)).setCell (p := ⟨w.heap.size + 2, 3, none⟩) (by show _ ≤ _; simp) (.int .i64 M.fuel)).setCell (p := ⟨w.heap.size + 2, 4, none⟩) (by show _ ≤ _; simp) (.int .i64 M.bad)).setCell (p := ⟨w.heap.size + 3, 0, none⟩) (by show _ ≤ _; simp) (.int .i64 r1)).setCell (p := ⟨w.heap.size + 3, 1, none⟩) (by show _ ≤ _; simp) (.int .i64 r2))
  rw [← hZ]
  clear hZ
  have e0 := cell_at HH.out.1 0
  have e1 := cell_at HH.out.1 1
  have e2 := cell_at HH.out.1 2
  have e3 := cell_at HH.out.1 3
  have e4 := cell_at HH.out.1 4
  have e5 := cell_at HH.out.2 0
  have e6 := cell_at HH.out.2 1
  simp at e0 e1 e2 e3 e4 e5 e6
  go_wp2
  refine bodyPost_ret (by simp [results, Try.results21, go_sem, e0, e1, e2, e3, e4, e5, e6, Result.andThen]; try rfl) rfl ?_
  exact ⟨_, _, _, _, _, _, _, _, _, rfl, HZ.out.keep (Below.refl _ _).drew, HZB.out.drew⟩

end Go.Proofs.Ytabejilnpblogaa
