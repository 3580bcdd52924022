/-
  What the laws' helpers answer of endings: held against each other, measured, copied. Written by mkend.py.
-/
import Derived.Test.YtabejilnpblogaaRa
import Derived.Test.YtabejilnpblogaaKa
namespace Go.Proofs.Ytabejilnpblogaa
open Go.RowKit

structure En where
  out : List Int
  stop : Int
def szEn (q : En) : Nat := q.out.length
def okEn (q : En) : Prop := q.out.length ≤ 9223372036854775807
theorem le_szEn_out (q : En) : q.out.length ≤ szEn q := Nat.le_refl _
theorem okEn_out {q : En} (h : okEn q) : q.out.length ≤ 9223372036854775807 := h

set_option maxRecDepth 100000 in
set_option maxHeartbeats 1600000 in
theorem eqEnding_same (B : Nat) (q : En) (a0 b0 : Value) (w : World) (hB : B ≤ w.heap.size) (ha0 : RowI w B a0 q.out) (hb0 : RowI w B b0 q.out) (hl : szEn q ≤ 1048576) :
    Calls Try.prog 39 #[.agg #[a0, .int .i64 q.stop], .agg #[b0, .int .i64 q.stop]] w fun e w' => e = .returned (.bool true) ∧ Below w.heap.size w w' := by
  have cE0 : Hid (∀ W, Below w.heap.size w W → Calls Try.prog 81 #[a0, b0] W fun e w' => e = .returned (.bool true) ∧ Below W.heap.size W w') := fun W hW =>
    eqIntS_same B _ _ q.out W (Nat.le_trans hB hW.size) (ha0.keep (hW.mono hB)) (hb0.keep (hW.mono hB)) (Nat.le_trans (le_szEn_out q) hl)
  obtain ⟨out, stop⟩ := q
  simp only
  clear hl ha0 hb0
  go_enter Try.func39, Try.ntmps39
  go_wp2_with fail
  go_at_call 81
  refine Calls.mono (cE0.out _ (by go_grown)) ?_
  rintro e w1 ⟨rfl, hb⟩
  have HB1 : Hid (Below w.heap.size w w1) := by
    have h0 : Below w.heap.size w ((w.alloc (.cells #[a0, .int .i64 stop] 55)).alloc (.cells #[b0, .int .i64 stop] 55)) := by go_grown
    exact h0.trans (hb.mono h0.size)
  have x1_1 : w1.cell? ⟨w.heap.size, 1, none⟩ = some (.int .i64 stop) := (hb.cell (p := ⟨w.heap.size, 1, none⟩) (by show _ < _; first | (simp; done) | (simp; omega))).trans (by simp)
  have y1_1 : w1.cell? ⟨w.heap.size + 1, 1, none⟩ = some (.int .i64 stop) := (hb.cell (p := ⟨w.heap.size + 1, 1, none⟩) (by show _ < _; first | (simp; done) | (simp; omega))).trans (by simp)
  have hs1 : ∀ x, x ≤ w.heap.size + 1 → x < w1.heap.size := fun x hx => by have := hb.size; simp at this; omega
  clear hb cE0
  have HS1 : Hid _ := hs1
  clear hs1
  go_wp2
  go_ret
  exact ⟨rfl, HB1.out⟩


set_option maxRecDepth 100000 in
set_option maxHeartbeats 1600000 in
theorem szEnding_sum (B : Nat) (q : En) (a0 : Value) (left : Int) (w : World) (hB : B ≤ w.heap.size) (ha0 : RowI w B a0 q.out) (hok : okEn q) (h0 : 0 ≤ left) (h1 : left ≤ 1048576) :
    Calls Try.prog 35 #[.agg #[a0, .int .i64 q.stop], .int .i64 left] w fun e w' => (∃ r : Int, e = .returned (.int .i64 r) ∧ (r = -1 ∨ (0 ≤ r ∧ r + (szEn q : Int) = left))) ∧ Below w.heap.size w w' := by
  have cS0 : Hid (∀ W l, 0 ≤ l → l ≤ 1048576 → Below w.heap.size w W → Calls Try.prog 78 #[a0, .int .i64 l] W fun e w' => (∃ r : Int, e = .returned (.int .i64 r) ∧ (r = -1 ∨ (0 ≤ r ∧ r + (List.length q.out : Int) = l))) ∧ Below W.heap.size W w') := fun W l hl0 hl1 hW =>
    szIntS_sum B _ q.out l W (Nat.le_trans hB hW.size) (ha0.keep (hW.mono hB)) (okEn_out hok) hl0 hl1
  have HZ : Hid ((szEn q : Int) = (List.length q.out : Int)) := by
    show (_ : Int) = _
    unfold szEn
    push_cast
    rfl
  obtain ⟨out, stop⟩ := q
  simp only at *
  obtain ⟨z0, hz0⟩ : ∃ z : Nat, Hid (List.length out = z) := ⟨_, (rfl : List.length out = List.length out)⟩
  rw [hz0.out] at cS0 HZ
  rw [HZ.out]
  clear HZ hok ha0 hz0
  go_enter Try.func35, Try.ntmps35
  go_wp2_with fail
  go_at_call 78
  refine Calls.mono (cS0.out _ left (by omega) (by omega) (by go_grown)) ?_
  rintro e w1 ⟨⟨r1, rfl, hr1⟩, hb⟩
  have HB1 : Hid (Below w.heap.size w w1) := by
    have h0 : Below w.heap.size w (w.alloc (.cells #[a0, .int .i64 stop] 52)) := by go_grown
    exact h0.trans (hb.mono h0.size)
  have hs1 : w.heap.size < w1.heap.size := by have := hb.size; simp at this; omega
  clear hb cS0
  rcases hr1 with rfl | ⟨hr1a, hr1b⟩
  · go_wp2
    go_ret
    exact ⟨⟨_, rfl, .inl rfl⟩, HB1.out⟩
  have hr1n : ¬ r1 < 0 := by omega
  go_wp2
  go_ret
  exact ⟨⟨_, rfl, .inr ⟨by omega, by omega⟩⟩, HB1.out⟩


/-- Three blocks made at w, as they stand at W. -/
structure Tri2 (w : World) (a b c : Array Value) (ta tb tc : TypeId) (W : World) : Prop where
  low : Below w.heap.size w W
  lt : w.heap.size + 2 < W.heap.size
  b0 : W.heap[w.heap.size]? = some (.cells a ta (0, 0))
  b1 : W.heap[w.heap.size + 1]? = some (.cells b tb (0, 0))
  b2 : W.heap[w.heap.size + 2]? = some (.cells c tc (0, 0))
theorem Tri2.first (w : World) (a b c : Array Value) (ta tb tc : TypeId) : Tri2 w a b c ta tb tc (((w.alloc (.cells a ta (0, 0))).alloc (.cells b tb (0, 0))).alloc (.cells c tc (0, 0))) :=
  ⟨by go_grown, by simp, first_new w _ _ _, second_new w _ _ _, third_new w _ _ _⟩
theorem Tri2.next {w W W' : World} {a b c : Array Value} {ta tb tc : TypeId} (h : Tri2 w a b c ta tb tc W) (hb : Below W.heap.size W W') : Tri2 w a b c ta tb tc W' :=
  ⟨h.low.trans (hb.mono (by have := h.lt; omega)), by have := h.lt; have := hb.size; omega, (hb.block _ (by have := h.lt; omega)).trans h.b0, (hb.block _ (by have := h.lt; omega)).trans h.b1, (hb.block _ (by have := h.lt; omega)).trans h.b2⟩
theorem heap_set2 {W : World} {g j : Nat} {u : Value} {cs : Array Value} {T : TypeId} {fr : Nat × Nat} (h : W.heap[g]? = some (.cells cs T fr)) : (W.setCell ⟨g, j, none⟩ u).heap[g]? = some (.cells (cs.setIfInBounds j u) T fr) := by
  simp [World.setCell, Array.getElem?_modify, h]
theorem Tri2.set2 {w W : World} {a b c : Array Value} {ta tb tc : TypeId} (h : Tri2 w a b c ta tb tc W) (j : Nat) (u : Value) : Tri2 w a b (c.setIfInBounds j u) ta tb tc (W.setCell ⟨w.heap.size + 2, j, none⟩ u) :=
  ⟨h.low.setCell (p := ⟨w.heap.size + 2, j, none⟩) (by show _ ≤ _; simp) _, by have := h.lt; simpa using this, (kept_set (by omega)).trans h.b0, (kept_set (by omega)).trans h.b1, heap_set2 h.b2⟩
theorem Tri2.set1 {w W : World} {a b c : Array Value} {ta tb tc : TypeId} (h : Tri2 w a b c ta tb tc W) (j : Nat) (u : Value) : Tri2 w a (b.setIfInBounds j u) c ta tb tc (W.setCell ⟨w.heap.size + 1, j, none⟩ u) :=
  ⟨h.low.setCell (p := ⟨w.heap.size + 1, j, none⟩) (by show _ ≤ _; simp) _, by have := h.lt; simpa using this, (kept_set (by omega)).trans h.b0, heap_set2 h.b1, (kept_set (by omega)).trans h.b2⟩

set_option maxRecDepth 100000 in
set_option maxHeartbeats 3200000 in
theorem toEnding_any (B : Nat) (q : En) (a0 : Value) (w : World) (hB : B ≤ w.heap.size) (ha : RowI w B a0 q.out) (hl : szEn q ≤ 1048576) :
    Calls Try.prog 37 #[.agg #[a0, .int .i64 q.stop]] w fun e w' => ∃ g c, e = .returned (.agg #[.slice (some ⟨g, 0, none⟩) q.out.length c, .int .i64 q.stop]) ∧ OwnsI w' w.heap.size (.slice (some ⟨g, 0, none⟩) q.out.length c) q.out ∧ Below w.heap.size w w' := by
  have cT0 : Hid (∀ W, Below w.heap.size w W → Calls Try.prog 79 #[a0] W fun e w' => ∃ g c, e = .returned (.slice (some ⟨g, 0, none⟩) q.out.length c) ∧ OwnsI w' W.heap.size (.slice (some ⟨g, 0, none⟩) q.out.length c) q.out ∧ Below W.heap.size W w') := fun W hW =>
    (toIntS_any B _ q.out W (Nat.le_trans hB hW.size) (ha.keep (hW.mono hB)) (Nat.le_trans (le_szEn_out q) hl))
  obtain ⟨out, stop⟩ := q
  simp only at cT0 ⊢
  obtain ⟨n0, hn0⟩ : ∃ n, Hid (out.length = n) := ⟨_, (rfl : out.length = out.length)⟩
  rw [hn0.out] at cT0 ⊢
  clear ha hl
  go_enter Try.func37, Try.ntmps37
  have T0 : Hid (Tri2 w #[a0, .int .i64 stop] #[.slice none 0 0, .int .i64 0] #[.slice none 0 0, .int .i64 0] 52 55 55 (((w.alloc (.cells #[a0, .int .i64 stop] 52 (0, 0))).alloc (.cells #[.slice none 0 0, .int .i64 0] 55 (0, 0))).alloc (.cells #[.slice none 0 0, .int .i64 0] 55 (0, 0)))) := Tri2.first _ _ _ _ _ _ _
  go_wp2_with fail
  go_at_call 79
  refine Calls.mono (cT0.out _ T0.out.low) ?_
  rintro e w1 ⟨g0, c0, rfl, ho, hb⟩
  have T5 : Hid (Tri2 w #[a0, .int .i64 stop] #[.slice none 0 0, .int .i64 0] #[.slice none 0 0, .int .i64 0] 52 55 55 w1) := T0.out.next hb
  have I5 : Hid (OwnsI w1 (w.heap.size + 3) (.slice (some ⟨g0, 0, none⟩) n0 c0) out) := OwnsR.base ho (fun g hg => by have := (OwnsR.lt ho g hg).1; simp at this; omega)
  clear ho hb cT0 T0
  obtain ⟨W, hW⟩ : ∃ W, W = ((((w1.setCell ⟨w.heap.size + 2, 0, none⟩ (.slice (some ⟨g0, 0, none⟩) n0 c0)).setCell ⟨w.heap.size + 2, 1, none⟩ (.int .i64 stop)).setCell ⟨w.heap.size + 1, 0, none⟩ (.slice (some ⟨g0, 0, none⟩) n0 c0)).setCell ⟨w.heap.size + 1, 1, none⟩ (.int .i64 stop)) := ⟨_, rfl⟩
  have T6 := (((T5.out.set2 0 (.slice (some ⟨g0, 0, none⟩) n0 c0)).set2 1 (.int .i64 stop)).set1 0 (.slice (some ⟨g0, 0, none⟩) n0 c0)).set1 1 (.int .i64 stop)
  rw [← hW] at T6
  have HE : Hid (W.heap[w.heap.size + 1]? = some (.cells #[.slice (some ⟨g0, 0, none⟩) n0 c0, .int .i64 stop] 55 (0, 0)) ∧ Below w.heap.size w W ∧ W.heap.size = w1.heap.size ∧ ∀ x, x ≠ w.heap.size + 1 → x ≠ w.heap.size + 2 → W.heap[x]? = w1.heap[x]?) := by
    refine ⟨by simpa using T6.b1, T6.low, by rw [hW]; simp, fun x h1 h2 => by rw [hW]; simp only [kept_set h1, kept_set h2]⟩
  have HW : Hid (W = _) := hW
  clear hW T6
  have x1 : w1.cell? ⟨w.heap.size, 1, none⟩ = some (.int .i64 stop) := cell_at T5.out.b0 1
  have q0 := cell_at T5.out.b2 0
  have q1 := cell_at T5.out.b2 1
  have r0 := cell_at T5.out.b1 0
  have r1 := cell_at T5.out.b1 1
  have p0 := free_at T5.out.b2 0
  have p1 := free_at T5.out.b2 1
  have s0 := free_at T5.out.b1 0
  have s1 := free_at T5.out.b1 1
  simp at q0 q1 r0 r1
  clear T5
  go_wp2
  rw [← HW.out]
  have e0 := cell_at HE.out.1 0
  have e1 := cell_at HE.out.1 1
  simp at e0 e1
  refine bodyPost_ret (by simp [results, Try.results37, go_sem, e0, e1]; try rfl) rfl ?_
  exact ⟨_, _, rfl, OwnsR.base (OwnsR.same I5.out (fun g hg => HE.out.2.2.2 g (by have := (OwnsR.lt I5.out g hg).1; omega) (by have := (OwnsR.lt I5.out g hg).1; omega))) (fun g hg => by have := (OwnsR.lt I5.out g hg).1; omega), HE.out.2.1⟩


end Go.Proofs.Ytabejilnpblogaa
