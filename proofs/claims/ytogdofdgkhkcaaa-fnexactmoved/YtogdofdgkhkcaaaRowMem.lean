/-
  What the laws' helpers answer of memories: held against each other, measured, copied. Written by mkmem.py.
-/
import Derived.Test.YtogdofdgkhkcaaaRowCell
import Derived.Test.YtogdofdgkhkcaaaRa
import Derived.Test.YtogdofdgkhkcaaaKa
namespace Go.Proofs.Ytogdofdgkhkcaaa
open Go.RowKit

/-- A memory that is read. -/
def RowMm (w : World) (B : Nat) (v0 v1 v2 : Value) (m : Mm) : Prop := CeR.Row w B v0 m.cells ∧ RowI w B v1 m.input ∧ RowI w B v2 m.out
theorem RowMm.keep {w w' : World} {B : Nat} {v0 v1 v2 : Value} {m : Mm} (h : RowMm w B v0 v1 v2 m) (hb : Below B w w') : RowMm w' B v0 v1 v2 m := ⟨h.1.keep hb, h.2.1.keep hb, h.2.2.keep hb⟩
theorem RowMm.up {w : World} {B B' : Nat} {v0 v1 v2 : Value} {m : Mm} (h : RowMm w B v0 v1 v2 m) (hB : B ≤ B') : RowMm w B' v0 v1 v2 m := ⟨h.1.up hB, h.2.1.up hB, h.2.2.up hB⟩
/-- A row of numbers that the call owns; it may begin behind its block's beginning. -/
def OffI (w : World) (B : Nat) (v : Value) (xs : List Int) : Prop :=
  OwnsI w B v xs ∨ (∃ g cap cap' ys, ys.length + xs.length ≤ cap' ∧ xs.length ≤ cap ∧ v = .slice (some ⟨g, ys.length, none⟩) xs.length cap ∧ OwnsI w B (.slice (some ⟨g, 0, none⟩) (ys ++ xs).length cap') (ys ++ xs)) ∨ (∃ a, v = .slice a 0 0 ∧ xs = [] ∧ ∀ g ∈ fpOf v, B ≤ g ∧ g < w.heap.size)
/-- A memory that the call owns, in blocks B .. H. -/
structure OwnMm (w : World) (B H : Nat) (v0 v1 v2 : Value) (m : Mm) : Prop where
  cells : CeR.Phys w B v0 m.cells
  input : OffI w B v1 m.input
  out : OwnsI w B v2 m.out
  nd : (fps [v0, v1, v2]).Nodup
  fp : ∀ g ∈ fps [v0, v1, v2], B ≤ g ∧ g < H

theorem le_szMm_cells (m : Mm) : szRow szCe m.cells ≤ szMm m := by unfold szMm; omega
theorem le_szMm_input (m : Mm) : m.input.length ≤ szMm m := by unfold szMm; omega
theorem le_szMm_out (m : Mm) : m.out.length ≤ szMm m := by unfold szMm; omega
theorem okMm_cells {m : Mm} (h : okMm m) : okRow okCe m.cells := h.1
theorem okMm_input {m : Mm} (h : okMm m) : m.input.length ≤ 9223372036854775807 := h.2.1
theorem okMm_out {m : Mm} (h : okMm m) : m.out.length ≤ 9223372036854775807 := h.2.2.1

set_option maxRecDepth 100000 in
set_option maxHeartbeats 1600000 in
theorem eqMemory_same (B : Nat) (q : Mm) (a0 b0 : Value) (a1 b1 : Value) (a2 b2 : Value) (w : World) (hB : B ≤ w.heap.size) (ha0 : CeR.Row w B a0 q.cells) (hb0 : CeR.Row w B b0 q.cells) (ha1 : RowI w B a1 q.input) (hb1 : RowI w B b1 q.input) (ha2 : RowI w B a2 q.out) (hb2 : RowI w B b2 q.out) (hl : szMm q ≤ 1048576) :
    Calls Try.prog 46 #[.agg #[a0, a1, a2, .int .i64 q.fuel, .int .i64 q.bad], .agg #[b0, b1, b2, .int .i64 q.fuel, .int .i64 q.bad]] w fun e w' => e = .returned (.bool true) ∧ Below w.heap.size w w' := by
  have cE0 : Hid (∀ W, Below w.heap.size w W → Calls Try.prog 93 #[a0, b0] W fun e w' => e = .returned (.bool true) ∧ Below W.heap.size W w') := fun W hW =>
    eqCellS_same B _ _ q.cells W (Nat.le_trans hB hW.size) (ha0.keep (hW.mono hB)) (hb0.keep (hW.mono hB)) (Nat.le_trans (le_szMm_cells q) hl)
  have cE1 : Hid (∀ W, Below w.heap.size w W → Calls Try.prog 47 #[a1, b1] W fun e w' => e = .returned (.bool true) ∧ Below W.heap.size W w') := fun W hW =>
    eqIntS_same B _ _ q.input W (Nat.le_trans hB hW.size) (ha1.keep (hW.mono hB)) (hb1.keep (hW.mono hB)) (Nat.le_trans (le_szMm_input q) hl)
  have cE2 : Hid (∀ W, Below w.heap.size w W → Calls Try.prog 47 #[a2, b2] W fun e w' => e = .returned (.bool true) ∧ Below W.heap.size W w') := fun W hW =>
    eqIntS_same B _ _ q.out W (Nat.le_trans hB hW.size) (ha2.keep (hW.mono hB)) (hb2.keep (hW.mono hB)) (Nat.le_trans (le_szMm_out q) hl)
  obtain ⟨cells, input, out, fuel, bad⟩ := q
  simp only
  clear hl ha0 hb0 ha1 hb1 ha2 hb2
  go_enter Try.func46, Try.ntmps46
  go_wp2_with fail
  go_at_call 93
  refine Calls.mono (cE0.out _ (by go_grown)) ?_
  rintro e w1 ⟨rfl, hb⟩
  have HB1 : Hid (Below w.heap.size w w1) := by
    have h0 : Below w.heap.size w ((w.alloc (.cells #[a0, a1, a2, .int .i64 fuel, .int .i64 bad] 27)).alloc (.cells #[b0, b1, b2, .int .i64 fuel, .int .i64 bad] 27)) := by go_grown
    exact h0.trans (hb.mono h0.size)
  have x1_1 : w1.cell? ⟨w.heap.size, 1, none⟩ = some (a1) := (hb.cell (p := ⟨w.heap.size, 1, none⟩) (by show _ < _; first | (simp; done) | (simp; omega))).trans (by simp)
  have y1_1 : w1.cell? ⟨w.heap.size + 1, 1, none⟩ = some (b1) := (hb.cell (p := ⟨w.heap.size + 1, 1, none⟩) (by show _ < _; first | (simp; done) | (simp; omega))).trans (by simp)
  have x1_2 : w1.cell? ⟨w.heap.size, 2, none⟩ = some (a2) := (hb.cell (p := ⟨w.heap.size, 2, none⟩) (by show _ < _; first | (simp; done) | (simp; omega))).trans (by simp)
  have y1_2 : w1.cell? ⟨w.heap.size + 1, 2, none⟩ = some (b2) := (hb.cell (p := ⟨w.heap.size + 1, 2, none⟩) (by show _ < _; first | (simp; done) | (simp; omega))).trans (by simp)
  have x1_3 : w1.cell? ⟨w.heap.size, 3, none⟩ = some (.int .i64 fuel) := (hb.cell (p := ⟨w.heap.size, 3, none⟩) (by show _ < _; first | (simp; done) | (simp; omega))).trans (by simp)
  have y1_3 : w1.cell? ⟨w.heap.size + 1, 3, none⟩ = some (.int .i64 fuel) := (hb.cell (p := ⟨w.heap.size + 1, 3, none⟩) (by show _ < _; first | (simp; done) | (simp; omega))).trans (by simp)
  have x1_4 : w1.cell? ⟨w.heap.size, 4, none⟩ = some (.int .i64 bad) := (hb.cell (p := ⟨w.heap.size, 4, none⟩) (by show _ < _; first | (simp; done) | (simp; omega))).trans (by simp)
  have y1_4 : w1.cell? ⟨w.heap.size + 1, 4, none⟩ = some (.int .i64 bad) := (hb.cell (p := ⟨w.heap.size + 1, 4, none⟩) (by show _ < _; first | (simp; done) | (simp; omega))).trans (by simp)
  have hs1 : ∀ x, x ≤ w.heap.size + 1 → x < w1.heap.size := fun x hx => by have := hb.size; simp at this; omega
  clear hb cE0
  go_wp2_with fail
  go_at_call 47
  refine Calls.mono (cE1.out _ HB1.out) ?_
  rintro e w2 ⟨rfl, hb⟩
  have HB2 : Hid (Below w.heap.size w w2) := HB1.out.trans (hb.mono HB1.out.size)
  have x2_2 : w2.cell? ⟨w.heap.size, 2, none⟩ = some (a2) := (hb.cell (p := ⟨w.heap.size, 2, none⟩) (hs1 _ (by first | omega | (dsimp only; omega)))).trans x1_2
  have y2_2 : w2.cell? ⟨w.heap.size + 1, 2, none⟩ = some (b2) := (hb.cell (p := ⟨w.heap.size + 1, 2, none⟩) (hs1 _ (by first | omega | (dsimp only; omega)))).trans y1_2
  have x2_3 : w2.cell? ⟨w.heap.size, 3, none⟩ = some (.int .i64 fuel) := (hb.cell (p := ⟨w.heap.size, 3, none⟩) (hs1 _ (by first | omega | (dsimp only; omega)))).trans x1_3
  have y2_3 : w2.cell? ⟨w.heap.size + 1, 3, none⟩ = some (.int .i64 fuel) := (hb.cell (p := ⟨w.heap.size + 1, 3, none⟩) (hs1 _ (by first | omega | (dsimp only; omega)))).trans y1_3
  have x2_4 : w2.cell? ⟨w.heap.size, 4, none⟩ = some (.int .i64 bad) := (hb.cell (p := ⟨w.heap.size, 4, none⟩) (hs1 _ (by first | omega | (dsimp only; omega)))).trans x1_4
  have y2_4 : w2.cell? ⟨w.heap.size + 1, 4, none⟩ = some (.int .i64 bad) := (hb.cell (p := ⟨w.heap.size + 1, 4, none⟩) (hs1 _ (by first | omega | (dsimp only; omega)))).trans y1_4
  have hs2 : ∀ x, x ≤ w.heap.size + 1 → x < w2.heap.size := fun x hx => Nat.lt_of_lt_of_le (hs1 x hx) hb.size
  clear hb cE1 hs1
  go_wp2_with fail
  go_at_call 47
  refine Calls.mono (cE2.out _ HB2.out) ?_
  rintro e w3 ⟨rfl, hb⟩
  have HB3 : Hid (Below w.heap.size w w3) := HB2.out.trans (hb.mono HB2.out.size)
  have x3_3 : w3.cell? ⟨w.heap.size, 3, none⟩ = some (.int .i64 fuel) := (hb.cell (p := ⟨w.heap.size, 3, none⟩) (hs2 _ (by first | omega | (dsimp only; omega)))).trans x2_3
  have y3_3 : w3.cell? ⟨w.heap.size + 1, 3, none⟩ = some (.int .i64 fuel) := (hb.cell (p := ⟨w.heap.size + 1, 3, none⟩) (hs2 _ (by first | omega | (dsimp only; omega)))).trans y2_3
  have x3_4 : w3.cell? ⟨w.heap.size, 4, none⟩ = some (.int .i64 bad) := (hb.cell (p := ⟨w.heap.size, 4, none⟩) (hs2 _ (by first | omega | (dsimp only; omega)))).trans x2_4
  have y3_4 : w3.cell? ⟨w.heap.size + 1, 4, none⟩ = some (.int .i64 bad) := (hb.cell (p := ⟨w.heap.size + 1, 4, none⟩) (hs2 _ (by first | omega | (dsimp only; omega)))).trans y2_4
  have hs3 : ∀ x, x ≤ w.heap.size + 1 → x < w3.heap.size := fun x hx => Nat.lt_of_lt_of_le (hs2 x hx) hb.size
  clear hb cE2 hs2
  have HS3 : Hid _ := hs3
  clear hs3
  go_wp2
  go_ret
  exact ⟨rfl, HB3.out⟩


set_option maxRecDepth 100000 in
set_option maxHeartbeats 1600000 in
theorem szMemory_sum (B : Nat) (q : Mm) (a0 : Value) (a1 : Value) (a2 : Value) (left : Int) (w : World) (hB : B ≤ w.heap.size) (ha0 : CeR.Row w B a0 q.cells) (ha1 : RowI w B a1 q.input) (ha2 : RowI w B a2 q.out) (hok : okMm q) (h0 : 0 ≤ left) (h1 : left ≤ 1048576) :
    Calls Try.prog 51 #[.agg #[a0, a1, a2, .int .i64 q.fuel, .int .i64 q.bad], .int .i64 left] w fun e w' => (∃ r : Int, e = .returned (.int .i64 r) ∧ (r = -1 ∨ (0 ≤ r ∧ r + (szMm q : Int) = left))) ∧ Below w.heap.size w w' := by
  have cS0 : Hid (∀ W l, 0 ≤ l → l ≤ 1048576 → Below w.heap.size w W → Calls Try.prog 97 #[a0, .int .i64 l] W fun e w' => (∃ r : Int, e = .returned (.int .i64 r) ∧ (r = -1 ∨ (0 ≤ r ∧ r + (szRow szCe q.cells : Int) = l))) ∧ Below W.heap.size W w') := fun W l hl0 hl1 hW =>
    szCellS_sum B _ q.cells l W (Nat.le_trans hB hW.size) (ha0.keep (hW.mono hB)) (okMm_cells hok) hl0 hl1
  have cS1 : Hid (∀ W l, 0 ≤ l → l ≤ 1048576 → Below w.heap.size w W → Calls Try.prog 98 #[a1, .int .i64 l] W fun e w' => (∃ r : Int, e = .returned (.int .i64 r) ∧ (r = -1 ∨ (0 ≤ r ∧ r + (List.length q.input : Int) = l))) ∧ Below W.heap.size W w') := fun W l hl0 hl1 hW =>
    szIntS_sum B _ q.input l W (Nat.le_trans hB hW.size) (ha1.keep (hW.mono hB)) (okMm_input hok) hl0 hl1
  have cS2 : Hid (∀ W l, 0 ≤ l → l ≤ 1048576 → Below w.heap.size w W → Calls Try.prog 98 #[a2, .int .i64 l] W fun e w' => (∃ r : Int, e = .returned (.int .i64 r) ∧ (r = -1 ∨ (0 ≤ r ∧ r + (List.length q.out : Int) = l))) ∧ Below W.heap.size W w') := fun W l hl0 hl1 hW =>
    szIntS_sum B _ q.out l W (Nat.le_trans hB hW.size) (ha2.keep (hW.mono hB)) (okMm_out hok) hl0 hl1
  have HZ : Hid ((szMm q : Int) = (szRow szCe q.cells : Int) + (List.length q.input : Int) + (List.length q.out : Int)) := by
    show (_ : Int) = _
    unfold szMm
    push_cast
    rfl
  obtain ⟨cells, input, out, fuel, bad⟩ := q
  simp only at *
  obtain ⟨z0, hz0⟩ : ∃ z : Nat, Hid (szRow szCe cells = z) := ⟨_, (rfl : szRow szCe cells = szRow szCe cells)⟩
  rw [hz0.out] at cS0 HZ
  obtain ⟨z1, hz1⟩ : ∃ z : Nat, Hid (List.length input = z) := ⟨_, (rfl : List.length input = List.length input)⟩
  rw [hz1.out] at cS1 HZ
  obtain ⟨z2, hz2⟩ : ∃ z : Nat, Hid (List.length out = z) := ⟨_, (rfl : List.length out = List.length out)⟩
  rw [hz2.out] at cS2 HZ
  rw [HZ.out]
  clear HZ hok ha0 hz0 ha1 hz1 ha2 hz2
  go_enter Try.func51, Try.ntmps51
  go_wp2_with fail
  go_at_call 97
  refine Calls.mono (cS0.out _ left (by omega) (by omega) (by go_grown)) ?_
  rintro e w1 ⟨⟨r1, rfl, hr1⟩, hb⟩
  have HB1 : Hid (Below w.heap.size w w1) := by
    have h0 : Below w.heap.size w (w.alloc (.cells #[a0, a1, a2, .int .i64 fuel, .int .i64 bad] 58)) := by go_grown
    exact h0.trans (hb.mono h0.size)
  have hs1 : w.heap.size < w1.heap.size := by have := hb.size; simp at this; omega
  have x1_1 : w1.cell? ⟨w.heap.size, 1, none⟩ = some (a1) := (hb.cell (p := ⟨w.heap.size, 1, none⟩) (by show _ < _; first | (simp; done) | (simp; omega))).trans (by simp)
  have x1_2 : w1.cell? ⟨w.heap.size, 2, none⟩ = some (a2) := (hb.cell (p := ⟨w.heap.size, 2, none⟩) (by show _ < _; first | (simp; done) | (simp; omega))).trans (by simp)
  clear hb cS0
  rcases hr1 with rfl | ⟨hr1a, hr1b⟩
  · go_wp2
    go_ret
    exact ⟨⟨_, rfl, .inl rfl⟩, HB1.out⟩
  have hr1n : ¬ r1 < 0 := by omega
  go_wp2_with fail
  go_at_call 98
  refine Calls.mono (cS1.out _ r1 (by omega) (by omega) (HB1.out)) ?_
  rintro e w2 ⟨⟨r2, rfl, hr2⟩, hb⟩
  have HB2 : Hid (Below w.heap.size w w2) := HB1.out.trans (hb.mono HB1.out.size)
  have hs2 : w.heap.size < w2.heap.size := Nat.lt_of_lt_of_le hs1 hb.size
  have x2_2 : w2.cell? ⟨w.heap.size, 2, none⟩ = some (a2) := (hb.cell (p := ⟨w.heap.size, 2, none⟩) hs1).trans x1_2
  clear hb cS1
  rcases hr2 with rfl | ⟨hr2a, hr2b⟩
  · go_wp2
    go_ret
    exact ⟨⟨_, rfl, .inl rfl⟩, HB2.out⟩
  have hr2n : ¬ r2 < 0 := by omega
  go_wp2_with fail
  go_at_call 98
  refine Calls.mono (cS2.out _ r2 (by omega) (by omega) (HB2.out)) ?_
  rintro e w3 ⟨⟨r3, rfl, hr3⟩, hb⟩
  have HB3 : Hid (Below w.heap.size w w3) := HB2.out.trans (hb.mono HB2.out.size)
  have hs3 : w.heap.size < w3.heap.size := Nat.lt_of_lt_of_le hs2 hb.size
  clear hb cS2
  rcases hr3 with rfl | ⟨hr3a, hr3b⟩
  · go_wp2
    go_ret
    exact ⟨⟨_, rfl, .inl rfl⟩, HB3.out⟩
  have hr3n : ¬ r3 < 0 := by omega
  go_wp2
  go_ret
  exact ⟨⟨_, rfl, .inr ⟨by omega, by omega⟩⟩, HB3.out⟩


/-- Three blocks made at w, as they stand at W. -/
structure Trio (w : World) (a b c : Array Value) (ta tb tc : TypeId) (W : World) : Prop where
  low : Below w.heap.size w W
  lt : w.heap.size + 2 < W.heap.size
  b0 : W.heap[w.heap.size]? = some (.cells a ta (0, 0))
  b1 : W.heap[w.heap.size + 1]? = some (.cells b tb (0, 0))
  b2 : W.heap[w.heap.size + 2]? = some (.cells c tc (0, 0))
theorem Trio.first (w : World) (a b c : Array Value) (ta tb tc : TypeId) : Trio w a b c ta tb tc (((w.alloc (.cells a ta (0, 0))).alloc (.cells b tb (0, 0))).alloc (.cells c tc (0, 0))) :=
  ⟨by go_grown, by simp, first_new w _ _ _, second_new w _ _ _, third_new w _ _ _⟩
theorem Trio.next {w W W' : World} {a b c : Array Value} {ta tb tc : TypeId} (h : Trio w a b c ta tb tc W) (hb : Below W.heap.size W W') : Trio w a b c ta tb tc W' :=
  ⟨h.low.trans (hb.mono (by have := h.lt; omega)), by have := h.lt; have := hb.size; omega, (hb.block _ (by have := h.lt; omega)).trans h.b0, (hb.block _ (by have := h.lt; omega)).trans h.b1, (hb.block _ (by have := h.lt; omega)).trans h.b2⟩
theorem heap_set {W : World} {g j : Nat} {u : Value} {cs : Array Value} {T : TypeId} {fr : Nat × Nat} (h : W.heap[g]? = some (.cells cs T fr)) : (W.setCell ⟨g, j, none⟩ u).heap[g]? = some (.cells (cs.setIfInBounds j u) T fr) := by
  simp [World.setCell, Array.getElem?_modify, h]
theorem Trio.set2 {w W : World} {a b c : Array Value} {ta tb tc : TypeId} (h : Trio w a b c ta tb tc W) (j : Nat) (u : Value) : Trio w a b (c.setIfInBounds j u) ta tb tc (W.setCell ⟨w.heap.size + 2, j, none⟩ u) :=
  ⟨h.low.setCell (p := ⟨w.heap.size + 2, j, none⟩) (by show _ ≤ _; simp) _, by have := h.lt; simpa using this, (kept_set (by omega)).trans h.b0, (kept_set (by omega)).trans h.b1, heap_set h.b2⟩
theorem Trio.set1 {w W : World} {a b c : Array Value} {ta tb tc : TypeId} (h : Trio w a b c ta tb tc W) (j : Nat) (u : Value) : Trio w a (b.setIfInBounds j u) c ta tb tc (W.setCell ⟨w.heap.size + 1, j, none⟩ u) :=
  ⟨h.low.setCell (p := ⟨w.heap.size + 1, j, none⟩) (by show _ ≤ _; simp) _, by have := h.lt; simpa using this, (kept_set (by omega)).trans h.b0, heap_set h.b1, (kept_set (by omega)).trans h.b2⟩

theorem fp_one (v : Value) : fpOf v = [] ∨ ∃ g, fpOf v = [g] := by
  unfold fpOf
  cases v.ownBlock
  · exact .inl rfl
  · exact .inr ⟨_, rfl⟩
theorem three_apart {v0 v1 v2 : Value} {a b : Nat} (h0 : ∀ g ∈ fpOf v0, g < a) (h1 : ∀ g ∈ fpOf v1, a ≤ g ∧ g < b) (h2 : ∀ g ∈ fpOf v2, b ≤ g) (_hab : a ≤ b) : (fps [v0, v1, v2]).Nodup := by
  rw [show fps [v0, v1, v2] = fpOf v0 ++ (fpOf v1 ++ fpOf v2) by simp [fps]]
  rcases fp_one v0 with e0 | ⟨x0, e0⟩ <;> rcases fp_one v1 with e1 | ⟨x1, e1⟩ <;> rcases fp_one v2 with e2 | ⟨x2, e2⟩ <;> rw [e0, e1, e2] <;> simp only [e0, e1, e2, List.mem_singleton, forall_eq, List.not_mem_nil, false_imp_iff, implies_true] at h0 h1 h2 <;> simp <;> omega

set_option maxRecDepth 100000 in
set_option maxHeartbeats 3200000 in
theorem toMemory_any (B : Nat) (m : Mm) (a0 a1 a2 : Value) (w : World) (hB : B ≤ w.heap.size) (ha : RowMm w B a0 a1 a2 m) (hl : szMm m ≤ 1048576) :
    Calls Try.prog 52 #[.agg #[a0, a1, a2, .int .i64 m.fuel, .int .i64 m.bad]] w fun e w' => ∃ v0 v1 v2, e = .returned (.agg #[v0, v1, v2, .int .i64 m.fuel, .int .i64 m.bad]) ∧ OwnMm w' w.heap.size w'.heap.size v0 v1 v2 m ∧ Below w.heap.size w w' := by
  have cT0 : Hid (∀ W, Below w.heap.size w W → Calls Try.prog 99 #[a0] W fun e w' => ∃ a n c, e = .returned (.slice a n c) ∧ CeR.Phys w' W.heap.size (.slice a n c) m.cells ∧ Below W.heap.size W w') := fun W hW =>
    (toCellS_any B _ m.cells W (Nat.le_trans hB hW.size) (ha.1.keep (hW.mono hB)) (Nat.le_trans (le_szMm_cells m) hl)).mono (by
      rintro e w' ⟨g, c, rfl, ⟨ps, hps, ho, _, _⟩, hb⟩
      obtain rfl : ps = m.cells := by rw [← hps]; exact (List.map_id _).symm
      exact ⟨_, _, _, rfl, ho, hb⟩)
  have cT1 : Hid (∀ W, Below w.heap.size w W → Calls Try.prog 45 #[a1] W fun e w' => ∃ a n c, e = .returned (.slice a n c) ∧ OwnsI w' W.heap.size (.slice a n c) m.input ∧ Below W.heap.size W w') := fun W hW =>
    (toIntS_any B _ m.input W (Nat.le_trans hB hW.size) (ha.2.1.keep (hW.mono hB)) (Nat.le_trans (le_szMm_input m) hl)).mono (by
      rintro e w' ⟨g, c, rfl, ho, hb⟩
      exact ⟨_, _, _, rfl, ho, hb⟩)
  have cT2 : Hid (∀ W, Below w.heap.size w W → Calls Try.prog 45 #[a2] W fun e w' => ∃ a n c, e = .returned (.slice a n c) ∧ OwnsI w' W.heap.size (.slice a n c) m.out ∧ Below W.heap.size W w') := fun W hW =>
    (toIntS_any B _ m.out W (Nat.le_trans hB hW.size) (ha.2.2.keep (hW.mono hB)) (Nat.le_trans (le_szMm_out m) hl)).mono (by
      rintro e w' ⟨g, c, rfl, ho, hb⟩
      exact ⟨_, _, _, rfl, ho, hb⟩)
  obtain ⟨cells, input, out, fuel, bad⟩ := m
  simp only at cT0 cT1 cT2 ⊢
  clear ha hl
  go_enter Try.func52, Try.ntmps52
  have T0 : Hid (Trio w #[a0, a1, a2, .int .i64 fuel, .int .i64 bad] #[.slice none 0 0, .slice none 0 0, .slice none 0 0, .int .i64 0, .int .i64 0] #[.slice none 0 0, .slice none 0 0, .slice none 0 0, .int .i64 0, .int .i64 0] 58 27 27 (((w.alloc (.cells #[a0, a1, a2, .int .i64 fuel, .int .i64 bad] 58 (0, 0))).alloc (.cells #[.slice none 0 0, .slice none 0 0, .slice none 0 0, .int .i64 0, .int .i64 0] 27 (0, 0))).alloc (.cells #[.slice none 0 0, .slice none 0 0, .slice none 0 0, .int .i64 0, .int .i64 0] 27 (0, 0)))) := Trio.first _ _ _ _ _ _ _
  go_wp2_with fail
  go_at_call 99
  refine Calls.mono (cT0.out _ T0.out.low) ?_
  rintro e w1 ⟨g0, n0, c0, rfl, ho, hb⟩
  have T1 : Hid (Trio w #[a0, a1, a2, .int .i64 fuel, .int .i64 bad] #[.slice none 0 0, .slice none 0 0, .slice none 0 0, .int .i64 0, .int .i64 0] #[.slice none 0 0, .slice none 0 0, .slice none 0 0, .int .i64 0, .int .i64 0] 58 27 27 w1) := T0.out.next hb
  have O1 : Hid (CeR.Phys w1 (w.heap.size + 3) (.slice g0 n0 c0) cells) := ho.base (fun g hg => by have := (ho.lt g hg).1; simp at this; omega)
  have z1 : w.heap.size + 3 ≤ w1.heap.size := by have := T1.out.lt; omega
  clear ho hb cT0 T0
  have c1 : w1.cell? ⟨w.heap.size, 1, none⟩ = some a1 := cell_at T1.out.b0 1
  have c2 : w1.cell? ⟨w.heap.size + 2, 0, none⟩ = some (.slice none 0 0) := cell_at T1.out.b2 0
  have f2 := free_at T1.out.b2 0
  go_wp2_with fail
  have T2 : Hid (Trio w #[a0, a1, a2, .int .i64 fuel, .int .i64 bad] #[.slice none 0 0, .slice none 0 0, .slice none 0 0, .int .i64 0, .int .i64 0] (Array.setIfInBounds #[.slice none 0 0, .slice none 0 0, .slice none 0 0, .int .i64 0, .int .i64 0] 0 (.slice g0 n0 c0)) 58 27 27 (w1.setCell ⟨w.heap.size + 2, 0, none⟩ (.slice g0 n0 c0))) := T1.out.set2 0 _
  have O2 : Hid (CeR.Phys (w1.setCell ⟨w.heap.size + 2, 0, none⟩ (.slice g0 n0 c0)) (w.heap.size + 3) (.slice g0 n0 c0) cells) := O1.out.same (fun g hg => kept_set (by have := (O1.out.lt g hg).1; omega))
  clear T1 O1 c1 c2 f2
  go_at_call 45
  refine Calls.mono (cT1.out _ T2.out.low) ?_
  rintro e w2 ⟨g1, n1, c1, rfl, ho, hb⟩
  have hzz : (w1.setCell ⟨w.heap.size + 2, 0, none⟩ (.slice g0 n0 c0)).heap.size = w1.heap.size := by simp
  rw [hzz] at ho
  have T3 : Hid (Trio w #[a0, a1, a2, .int .i64 fuel, .int .i64 bad] #[.slice none 0 0, .slice none 0 0, .slice none 0 0, .int .i64 0, .int .i64 0] (Array.setIfInBounds #[.slice none 0 0, .slice none 0 0, .slice none 0 0, .int .i64 0, .int .i64 0] 0 (.slice g0 n0 c0)) 58 27 27 w2) := T2.out.next hb
  have O3 : Hid (CeR.Phys w2 (w.heap.size + 3) (.slice g0 n0 c0) cells ∧ ∀ g ∈ fpOf (.slice g0 n0 c0), g < w1.heap.size) := ⟨O2.out.below hb, fun g hg => by have := (O2.out.lt g (RowTy.mem_head hg)).2; rw [hzz] at this; exact this⟩
  have I3 : Hid (OwnsI w2 w1.heap.size (.slice g1 n1 c1) input) := ho
  have z2 : w1.heap.size ≤ w2.heap.size := by have := hb.size; rw [hzz] at this; exact this
  clear ho hb cT1 T2 O2 hzz
  have c1' : w2.cell? ⟨w.heap.size, 2, none⟩ = some a2 := cell_at T3.out.b0 2
  have c2 : w2.cell? ⟨w.heap.size + 2, 1, none⟩ = some (.slice none 0 0) := cell_at T3.out.b2 1
  have f2 := free_at T3.out.b2 1
  go_wp2_with fail
  have T4 : Hid (Trio w #[a0, a1, a2, .int .i64 fuel, .int .i64 bad] #[.slice none 0 0, .slice none 0 0, .slice none 0 0, .int .i64 0, .int .i64 0] (Array.setIfInBounds (Array.setIfInBounds #[.slice none 0 0, .slice none 0 0, .slice none 0 0, .int .i64 0, .int .i64 0] 0 (.slice g0 n0 c0)) 1 (.slice g1 n1 c1)) 58 27 27 (w2.setCell ⟨w.heap.size + 2, 1, none⟩ (.slice g1 n1 c1))) := T3.out.set2 1 _
  have O4 : Hid (CeR.Phys (w2.setCell ⟨w.heap.size + 2, 1, none⟩ (.slice g1 n1 c1)) (w.heap.size + 3) (.slice g0 n0 c0) cells ∧ OwnsI (w2.setCell ⟨w.heap.size + 2, 1, none⟩ (.slice g1 n1 c1)) w1.heap.size (.slice g1 n1 c1) input) := ⟨O3.out.1.same (fun g hg => kept_set (by have := (O3.out.1.lt g hg).1; omega)), OwnsR.same I3.out (fun g hg => kept_set (by have := (OwnsR.lt I3.out g hg).1; omega))⟩
  have P4 : Hid (∀ g ∈ fpOf (.slice g0 n0 c0), g < w1.heap.size) := O3.out.2
  clear T3 O3 I3 c1' c2 f2
  go_at_call 45
  refine Calls.mono (cT2.out _ T4.out.low) ?_
  rintro e w3 ⟨g2, n2, c2, rfl, ho, hb⟩
  have hzz : (w2.setCell ⟨w.heap.size + 2, 1, none⟩ (.slice g1 n1 c1)).heap.size = w2.heap.size := by simp
  rw [hzz] at ho
  have T5 : Hid (Trio w #[a0, a1, a2, .int .i64 fuel, .int .i64 bad] #[.slice none 0 0, .slice none 0 0, .slice none 0 0, .int .i64 0, .int .i64 0] (Array.setIfInBounds (Array.setIfInBounds #[.slice none 0 0, .slice none 0 0, .slice none 0 0, .int .i64 0, .int .i64 0] 0 (.slice g0 n0 c0)) 1 (.slice g1 n1 c1)) 58 27 27 w3) := T4.out.next hb
  have O5 : Hid (CeR.Phys w3 (w.heap.size + 3) (.slice g0 n0 c0) cells ∧ OwnsI w3 w1.heap.size (.slice g1 n1 c1) input) := ⟨O4.out.1.below hb, O4.out.2.below hb⟩
  have P5 : Hid ((∀ g ∈ fpOf (.slice g0 n0 c0), g < w1.heap.size) ∧ ∀ g ∈ fpOf (.slice g1 n1 c1), g < w2.heap.size) := ⟨P4.out, fun g hg => by have := (OwnsR.lt O4.out.2 g hg).2; rw [hzz] at this; exact this⟩
  have I5 : Hid (OwnsI w3 w2.heap.size (.slice g2 n2 c2) out) := ho
  have z3 : w2.heap.size ≤ w3.heap.size := by have := hb.size; rw [hzz] at this; exact this
  clear ho hb cT2 T4 O4 P4 hzz
  obtain ⟨W, hW⟩ : ∃ W, W = (((((((((w3.setCell ⟨w.heap.size + 2, 2, none⟩ (.slice g2 n2 c2)).setCell ⟨w.heap.size + 2, 3, none⟩ (.int .i64 fuel)).setCell ⟨w.heap.size + 2, 4, none⟩ (.int .i64 bad)).setCell ⟨w.heap.size + 1, 0, none⟩ (.slice g0 n0 c0)).setCell ⟨w.heap.size + 1, 1, none⟩ (.slice g1 n1 c1)).setCell ⟨w.heap.size + 1, 2, none⟩ (.slice g2 n2 c2)).setCell ⟨w.heap.size + 1, 3, none⟩ (.int .i64 fuel)).setCell ⟨w.heap.size + 1, 4, none⟩ (.int .i64 bad))) := ⟨_, rfl⟩
  have T6 := (((((((T5.out.set2 2 (.slice g2 n2 c2)).set2 3 (.int .i64 fuel)).set2 4 (.int .i64 bad)).set1 0 (.slice g0 n0 c0)).set1 1 (.slice g1 n1 c1)).set1 2 (.slice g2 n2 c2)).set1 3 (.int .i64 fuel)).set1 4 (.int .i64 bad)
  rw [← hW] at T6
  have HE : Hid (W.heap[w.heap.size + 1]? = some (.cells #[.slice g0 n0 c0, .slice g1 n1 c1, .slice g2 n2 c2, .int .i64 fuel, .int .i64 bad] 27 (0, 0)) ∧ Below w.heap.size w W ∧ W.heap.size = w3.heap.size ∧ ∀ x, x ≠ w.heap.size + 1 → x ≠ w.heap.size + 2 → W.heap[x]? = w3.heap[x]?) := by
    refine ⟨by simpa using T6.b1, T6.low, by rw [hW]; simp, fun x h1 h2 => by rw [hW]; simp only [kept_set h1, kept_set h2]⟩
  have HW : Hid (W = _) := hW
  clear hW T6
  have x3 : w3.cell? ⟨w.heap.size, 3, none⟩ = some (.int .i64 fuel) := cell_at T5.out.b0 3
  have x4 : w3.cell? ⟨w.heap.size, 4, none⟩ = some (.int .i64 bad) := cell_at T5.out.b0 4
  have q0 := cell_at T5.out.b2 0
  have q1 := cell_at T5.out.b2 1
  have q2 := cell_at T5.out.b2 2
  have q3 := cell_at T5.out.b2 3
  have q4 := cell_at T5.out.b2 4
  have r0 := cell_at T5.out.b1 0
  have r1 := cell_at T5.out.b1 1
  have r2 := cell_at T5.out.b1 2
  have r3 := cell_at T5.out.b1 3
  have r4 := cell_at T5.out.b1 4
  have p2 := free_at T5.out.b2 2
  have p3 := free_at T5.out.b2 3
  have p4 := free_at T5.out.b2 4
  have s0 := free_at T5.out.b1 0
  have s1 := free_at T5.out.b1 1
  have s2 := free_at T5.out.b1 2
  have s3 := free_at T5.out.b1 3
  have s4 := free_at T5.out.b1 4
  simp at q0 q1 q2 q3 q4 r0 r1 r2 r3 r4
  clear T5
  go_wp2
  rw [← HW.out]
  have e0 := cell_at HE.out.1 0
  have e1 := cell_at HE.out.1 1
  have e2 := cell_at HE.out.1 2
  have e3 := cell_at HE.out.1 3
  have e4 := cell_at HE.out.1 4
  simp at e0 e1 e2 e3 e4
  refine bodyPost_ret (by simp [results, Try.results52, go_sem, e0, e1, e2, e3, e4]; try rfl) rfl ?_
  refine ⟨_, _, _, rfl, ⟨(O5.out.1.same (fun g hg => HE.out.2.2.2 g (by have := (O5.out.1.lt g hg).1; omega) (by have := (O5.out.1.lt g hg).1; omega))).base (fun g hg => by have := (O5.out.1.lt g hg).1; omega), .inl (OwnsR.base (OwnsR.same O5.out.2 (fun g hg => HE.out.2.2.2 g (by have := (OwnsR.lt O5.out.2 g hg).1; omega) (by have := (OwnsR.lt O5.out.2 g hg).1; omega))) (fun g hg => by have := (OwnsR.lt O5.out.2 g hg).1; omega)), OwnsR.base (OwnsR.same I5.out (fun g hg => HE.out.2.2.2 g (by have := (OwnsR.lt I5.out g hg).1; omega) (by have := (OwnsR.lt I5.out g hg).1; omega))) (fun g hg => by have := (OwnsR.lt I5.out g hg).1; omega), ?_, ?_⟩, HE.out.2.1⟩
  · exact three_apart (fun g hg => P5.out.1 g hg) (fun g hg => ⟨(OwnsR.lt O5.out.2 g hg).1, P5.out.2 g hg⟩) (fun g hg => (OwnsR.lt I5.out g hg).1) z2
  · intro g hg
    rw [HE.out.2.2.1]
    simp only [fps_cons, List.mem_append] at hg
    rcases hg with hg | hg | hg | hg
    · have := (O5.out.1.lt g (RowTy.mem_head hg)); omega
    · have := (OwnsR.lt O5.out.2 g hg); omega
    · have := (OwnsR.lt I5.out g hg); omega
    · simp [fps] at hg


end Go.Proofs.Ytogdofdgkhkcaaa
