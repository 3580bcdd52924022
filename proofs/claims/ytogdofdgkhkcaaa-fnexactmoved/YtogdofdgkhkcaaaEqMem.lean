/-
  Memories held against each other, up to two millions. Written by mkeqmem.py.
-/
import Derived.Test.YtogdofdgkhkcaaaMarkMem
import Derived.Test.YtogdofdgkhkcaaaSpX
namespace Go.Proofs.Ytogdofdgkhkcaaa
open Go.RowKit

theorem eqCell_big (B : Nat) (q : Ce) (w : World) (hB : B ≤ w.heap.size) (_hl : szCe q ≤ 2000000) :
    Calls Try.prog 109 #[.agg #[.bool q.live, .int .i64 q.num], .agg #[.bool q.live, .int .i64 q.num]] w fun e w' => e = .returned (.bool true) ∧ Below w.heap.size w w' := eqCell_same B q w hB (by unfold szCe; omega)
theorem eqIntS_big (B : Nat) (va vb : Value) (xs : List Int) (w : World) (hB : B ≤ w.heap.size) (ha : RowI w B va xs) (hb : RowI w B vb xs) (hl : xs.length ≤ 2000000) :
    Calls Try.prog 47 #[va, vb] w fun e w' => e = .returned (.bool true) ∧ Below w.heap.size w w' := by
  obtain ⟨a, ca, rfl⟩ := ha.len
  obtain ⟨b, cb, rfl⟩ := hb.len
  obtain ⟨N, HN⟩ : ∃ N, Hid (xs.length = N) := ⟨_, (rfl : xs.length = xs.length)⟩
  have H : Hid (RowI w B (.slice a N ca) xs ∧ RowI w B (.slice b N cb) xs) := by rw [← HN.out]; exact ⟨ha, hb⟩
  rw [HN.out] at hl ⊢
  clear ha hb
  go_enter Try.func47, Try.ntmps47
  go_wp2
  go_loopw [5] (fun i wr => ∃ k : Nat, k ≤ N ∧ i = .int .i64 (k : Int) ∧ Below w.heap.size w wr) (fun i _ => N - (intOf i).toNat)
  case atStart => exact ⟨0, Nat.zero_le _, rfl, Below.refl _ _⟩
  case round =>
    obtain ⟨k, hk, rfl, hbw⟩ := hrel
    by_cases hlt : k < N
    · have hk1 : (k : Int) < (N : Int) := by omega
      have hk0 : (0 : Int) ≤ (k : Int) := by omega
      have hkl : k < xs.length := by have := HN.out; omega
      obtain ⟨ba, oa, rfl, hba, c0⟩ := H.out.1.at k hkl
      obtain ⟨bb, ob, rfl, hbb, e0⟩ := H.out.2.at k hkl
      obtain ⟨q, hq⟩ : ∃ q, Hid (xs[k] = q) := ⟨_, (rfl : xs[k] = xs[k])⟩
      have d0 := (hbw.cell (p := ⟨ba, oa + k, none⟩) (by show ba < _; omega)).trans c0
      have f0 := (hbw.cell (p := ⟨bb, ob + k, none⟩) (by show bb < _; omega)).trans e0
      rw [hq.out] at d0 f0
      clear c0 e0
      go_wp2_with fail
      go_quiet (fail)
      go_wp2
      go_roundw
      case rel => exact ⟨k + 1, by omega, by go_num, below_drawn hbw _⟩
      case measure => simp [intOf]; omega
    · go_wp2
      go_ret
      exact ⟨rfl, hbw⟩


set_option maxRecDepth 100000 in
set_option maxHeartbeats 1600000 in
theorem eqCellS_big (B : Nat) (va vb : Value) (xs : List Ce) (w : World) (hB : B ≤ w.heap.size) (ha : CeR.Row w B va xs) (hb : CeR.Row w B vb xs) (hl : szRow szCe xs ≤ 2000000) :
    Calls Try.prog 93 #[va, vb] w fun e w' => e = .returned (.bool true) ∧ Below w.heap.size w w' := by
  obtain ⟨a, ca, rfl⟩ := ha.len
  obtain ⟨b, cb, rfl⟩ := hb.len
  obtain ⟨N, HN⟩ : ∃ N, Hid (xs.length = N) := ⟨_, (rfl : xs.length = xs.length)⟩
  have H : Hid (CeR.Row w B (.slice a N ca) xs ∧ CeR.Row w B (.slice b N cb) xs) := by rw [← HN.out]; exact ⟨ha, hb⟩
  have HS : Hid (szRow szCe xs ≤ 2000000) := hl
  have hN : N ≤ 2000000 := by have := len_szRow szCe xs; have := HN.out; omega
  rw [HN.out]
  clear ha hb hl
  go_enter Try.func93, Try.ntmps93
  go_wp2
  go_loopw [5] (fun i wr => ∃ k : Nat, k ≤ N ∧ i = .int .i64 (k : Int) ∧ Below w.heap.size w wr) (fun i _ => N - (intOf i).toNat)
  case atStart => exact ⟨0, Nat.zero_le _, rfl, Below.refl _ _⟩
  case round =>
    obtain ⟨k, hk, rfl, hbw⟩ := hrel
    by_cases hlt : k < N
    · have hk1 : (k : Int) < (N : Int) := by omega
      have hk0 : (0 : Int) ≤ (k : Int) := by omega
      have hkl : k < xs.length := by have := HN.out; omega
      obtain ⟨ba, oa, rfl, hba, c0, c1⟩ := CeR.at H.out.1 k hkl
      obtain ⟨bb, ob, rfl, hbb, e0, e1⟩ := CeR.at H.out.2 k hkl
      have hq : szCe xs[k] ≤ 2000000 := Nat.le_trans (mem_szRow szCe (List.getElem_mem hkl)) HS.out
      obtain ⟨q, hqe⟩ : ∃ q, Hid (xs[k] = q) := ⟨_, (rfl : xs[k] = xs[k])⟩
      rw [hqe.out] at c0 c1 e0 e1 hq
      have cQ : Hid (∀ W, Below w.heap.size w W → Calls Try.prog 109 #[.agg #[.bool q.live, .int .i64 q.num], .agg #[.bool q.live, .int .i64 q.num]] W fun e w' => e = .returned (.bool true) ∧ Below W.heap.size W w') := fun W hW =>
        eqCell_big B q W (Nat.le_trans hB hW.size) hq
      obtain ⟨live, num⟩ := q
      simp only at c0 c1 e0 e1 cQ
      clear hq
      have hba1 : ba < wr.heap.size := by have := hbw.size; omega
      have hbb1 : bb < wr.heap.size := by have := hbw.size; omega
      have d0 := (hbw.cell (p := ⟨ba, oa + k * 2, none⟩) (by show ba < _; omega)).trans c0
      have f0 := (hbw.cell (p := ⟨bb, ob + k * 2, none⟩) (by show bb < _; omega)).trans e0
      have d1 := (hbw.cell (p := ⟨ba, oa + k * 2 + 1, none⟩) (by show ba < _; omega)).trans c1
      have f1 := (hbw.cell (p := ⟨bb, ob + k * 2 + 1, none⟩) (by show bb < _; omega)).trans e1
      clear c0 c1 e0 e1
      go_wp2_with fail
      go_region_held3 (fun w' => (w'.cell? ⟨ba, oa + k * 2, none⟩ = some (.bool live) ∧ w'.cell? ⟨ba, oa + k * 2 + 1, none⟩ = some (.int .i64 num)) ∧ (w'.cell? ⟨bb, ob + k * 2, none⟩ = some (.bool live) ∧ w'.cell? ⟨bb, ob + k * 2 + 1, none⟩ = some (.int .i64 num))) (first | exact ⟨⟨d0, d1⟩, ⟨f0, f1⟩⟩ | exact ⟨⟨(hb1.cell (p := ⟨ba, oa + k * 2, none⟩) hba1).trans d0, (hb1.cell (p := ⟨ba, oa + k * 2 + 1, none⟩) hba1).trans d1⟩, ⟨(hb1.cell (p := ⟨bb, ob + k * 2, none⟩) hbb1).trans f0, (hb1.cell (p := ⟨bb, ob + k * 2 + 1, none⟩) hbb1).trans f1⟩⟩) ((go_at_call 109; refine Calls.mono (cQ.out _ hbw.drew) ?_; rintro e w1 ⟨rfl, hb1⟩))
      all_goals
        go_wp2
        go_roundw
        case rel => exact ⟨k + 1, by omega, by go_num, hbw.drew.trans (hb1.mono hbw.size)⟩
        case measure => simp [intOf]; omega
    · go_wp2
      go_ret
      exact ⟨rfl, hbw⟩

set_option maxRecDepth 100000 in
set_option maxHeartbeats 1600000 in
theorem eqMemory_big (B : Nat) (q : Mm) (a0 b0 : Value) (a1 b1 : Value) (a2 b2 : Value) (w : World) (hB : B ≤ w.heap.size) (ha0 : CeR.Row w B a0 q.cells) (hb0 : CeR.Row w B b0 q.cells) (ha1 : RowI w B a1 q.input) (hb1 : RowI w B b1 q.input) (ha2 : RowI w B a2 q.out) (hb2 : RowI w B b2 q.out) (hl : szMm q ≤ 2000000) :
    Calls Try.prog 46 #[.agg #[a0, a1, a2, .int .i64 q.fuel, .int .i64 q.bad], .agg #[b0, b1, b2, .int .i64 q.fuel, .int .i64 q.bad]] w fun e w' => e = .returned (.bool true) ∧ Below w.heap.size w w' := by
  have cE0 : Hid (∀ W, Below w.heap.size w W → Calls Try.prog 93 #[a0, b0] W fun e w' => e = .returned (.bool true) ∧ Below W.heap.size W w') := fun W hW =>
    eqCellS_big B _ _ q.cells W (Nat.le_trans hB hW.size) (ha0.keep (hW.mono hB)) (hb0.keep (hW.mono hB)) (Nat.le_trans (le_szMm_cells q) hl)
  have cE1 : Hid (∀ W, Below w.heap.size w W → Calls Try.prog 47 #[a1, b1] W fun e w' => e = .returned (.bool true) ∧ Below W.heap.size W w') := fun W hW =>
    eqIntS_big B _ _ q.input W (Nat.le_trans hB hW.size) (ha1.keep (hW.mono hB)) (hb1.keep (hW.mono hB)) (Nat.le_trans (le_szMm_input q) hl)
  have cE2 : Hid (∀ W, Below w.heap.size w W → Calls Try.prog 47 #[a2, b2] W fun e w' => e = .returned (.bool true) ∧ Below W.heap.size W w') := fun W hW =>
    eqIntS_big B _ _ q.out W (Nat.le_trans hB hW.size) (ha2.keep (hW.mono hB)) (hb2.keep (hW.mono hB)) (Nat.le_trans (le_szMm_out q) hl)
  obtain ⟨cells, input, out, fuel, bad⟩ := q
  simp only
  clear hl ha0 hb0 ha1 hb1 ha2 hb2
  go_enter Try.func46, Try.ntmps46
  go_wp2_with fail
  go_at_call 93
  refine Calls.mono (cE0.out _ (by go_grown)) ?_
  rintro e w1 ⟨rfl, hb⟩
  have HB1 : Hid (Below w.heap.size w w1) := by
    have h0 : Below w.heap.size w ((w.alloc (.cells #[a0, a1, a2, .int .i64 fuel, .int .i64 bad] 27)).alloc (.cells #[b0, b1, b2, .int .i64 fuel, .int .i64 bad] 27)) := by go_grown
    exact h0.trans (hb.mono h0.size)
  have x1_1 : w1.cell? ⟨w.heap.size, 1, none⟩ = some (a1) := (hb.cell (p := ⟨w.heap.size, 1, none⟩) (by show _ < _; first | (simp; done) | (simp; omega))).trans (by simp)
  have y1_1 : w1.cell? ⟨w.heap.size + 1, 1, none⟩ = some (b1) := (hb.cell (p := ⟨w.heap.size + 1, 1, none⟩) (by show _ < _; first | (simp; done) | (simp; omega))).trans (by simp)
  have x1_2 : w1.cell? ⟨w.heap.size, 2, none⟩ = some (a2) := (hb.cell (p := ⟨w.heap.size, 2, none⟩) (by show _ < _; first | (simp; done) | (simp; omega))).trans (by simp)
  have y1_2 : w1.cell? ⟨w.heap.size + 1, 2, none⟩ = some (b2) := (hb.cell (p := ⟨w.heap.size + 1, 2, none⟩) (by show _ < _; first | (simp; done) | (simp; omega))).trans (by simp)
  have x1_3 : w1.cell? ⟨w.heap.size, 3, none⟩ = some (.int .i64 fuel) := (hb.cell (p := ⟨w.heap.size, 3, none⟩) (by show _ < _; first | (simp; done) | (simp; omega))).trans (by simp)
  have y1_3 : w1.cell? ⟨w.heap.size + 1, 3, none⟩ = some (.int .i64 fuel) := (hb.cell (p := ⟨w.heap.size + 1, 3, none⟩) (by show _ < _; first | (simp; done) | (simp; omega))).trans (by simp)
  have x1_4 : w1.cell? ⟨w.heap.size, 4, none⟩ = some (.int .i64 bad) := (hb.cell (p := ⟨w.heap.size, 4, none⟩) (by show _ < _; first | (simp; done) | (simp; omega))).trans (by simp)
  have y1_4 : w1.cell? ⟨w.heap.size + 1, 4, none⟩ = some (.int .i64 bad) := (hb.cell (p := ⟨w.heap.size + 1, 4, none⟩) (by show _ < _; first | (simp; done) | (simp; omega))).trans (by simp)
  have hs1 : ∀ x, x ≤ w.heap.size + 1 → x < w1.heap.size := fun x hx => by have := hb.size; simp at this; omega
  clear hb cE0
  go_wp2_with fail
  go_at_call 47
  refine Calls.mono (cE1.out _ HB1.out) ?_
  rintro e w2 ⟨rfl, hb⟩
  have HB2 : Hid (Below w.heap.size w w2) := HB1.out.trans (hb.mono HB1.out.size)
  have x2_2 : w2.cell? ⟨w.heap.size, 2, none⟩ = some (a2) := (hb.cell (p := ⟨w.heap.size, 2, none⟩) (hs1 _ (by first | omega | (dsimp only; omega)))).trans x1_2
  have y2_2 : w2.cell? ⟨w.heap.size + 1, 2, none⟩ = some (b2) := (hb.cell (p := ⟨w.heap.size + 1, 2, none⟩) (hs1 _ (by first | omega | (dsimp only; omega)))).trans y1_2
  have x2_3 : w2.cell? ⟨w.heap.size, 3, none⟩ = some (.int .i64 fuel) := (hb.cell (p := ⟨w.heap.size, 3, none⟩) (hs1 _ (by first | omega | (dsimp only; omega)))).trans x1_3
  have y2_3 : w2.cell? ⟨w.heap.size + 1, 3, none⟩ = some (.int .i64 fuel) := (hb.cell (p := ⟨w.heap.size + 1, 3, none⟩) (hs1 _ (by first | omega | (dsimp only; omega)))).trans y1_3
  have x2_4 : w2.cell? ⟨w.heap.size, 4, none⟩ = some (.int .i64 bad) := (hb.cell (p := ⟨w.heap.size, 4, none⟩) (hs1 _ (by first | omega | (dsimp only; omega)))).trans x1_4
  have y2_4 : w2.cell? ⟨w.heap.size + 1, 4, none⟩ = some (.int .i64 bad) := (hb.cell (p := ⟨w.heap.size + 1, 4, none⟩) (hs1 _ (by first | omega | (dsimp only; omega)))).trans y1_4
  have hs2 : ∀ x, x ≤ w.heap.size + 1 → x < w2.heap.size := fun x hx => Nat.lt_of_lt_of_le (hs1 x hx) hb.size
  clear hb cE1 hs1
  go_wp2_with fail
  go_at_call 47
  refine Calls.mono (cE2.out _ HB2.out) ?_
  rintro e w3 ⟨rfl, hb⟩
  have HB3 : Hid (Below w.heap.size w w3) := HB2.out.trans (hb.mono HB2.out.size)
  have x3_3 : w3.cell? ⟨w.heap.size, 3, none⟩ = some (.int .i64 fuel) := (hb.cell (p := ⟨w.heap.size, 3, none⟩) (hs2 _ (by first | omega | (dsimp only; omega)))).trans x2_3
  have y3_3 : w3.cell? ⟨w.heap.size + 1, 3, none⟩ = some (.int .i64 fuel) := (hb.cell (p := ⟨w.heap.size + 1, 3, none⟩) (hs2 _ (by first | omega | (dsimp only; omega)))).trans y2_3
  have x3_4 : w3.cell? ⟨w.heap.size, 4, none⟩ = some (.int .i64 bad) := (hb.cell (p := ⟨w.heap.size, 4, none⟩) (hs2 _ (by first | omega | (dsimp only; omega)))).trans x2_4
  have y3_4 : w3.cell? ⟨w.heap.size + 1, 4, none⟩ = some (.int .i64 bad) := (hb.cell (p := ⟨w.heap.size + 1, 4, none⟩) (hs2 _ (by first | omega | (dsimp only; omega)))).trans y2_4
  have hs3 : ∀ x, x ≤ w.heap.size + 1 → x < w3.heap.size := fun x hx => Nat.lt_of_lt_of_le (hs2 x hx) hb.size
  clear hb cE2 hs2
  have HS3 : Hid _ := hs3
  clear hs3
  go_wp2
  go_ret
  exact ⟨rfl, HB3.out⟩

theorem eqValue_is (t k : Int) (w : World) : Calls Try.prog 53 #[.agg #[.int .i64 t, .int .i64 k], .agg #[.int .i64 t, .int .i64 k]] w fun e w' => e = .returned (.bool true) ∧ Below w.heap.size w w' := by
  go_enter Try.func53, Try.ntmps53
  go_wp2
  go_ret
  exact ⟨rfl, by go_grown⟩
theorem toValue_is (t k : Int) (w : World) : Calls Try.prog 54 #[.agg #[.int .i64 t, .int .i64 k]] w fun e w' => e = .returned (.agg #[.int .i64 t, .int .i64 k]) ∧ Below w.heap.size w w' := by
  go_enter Try.func54, Try.ntmps54
  go_wp2
  go_returns
  exact ⟨rfl, by go_grown⟩
theorem spend_sz (m : Mm) : szMm (spendM m) ≤ szMm m + 1 := by
  unfold spendM
  split
  · split <;> simp [szMm]
  · omega
theorem told_sz (m : Mm) (k : Int) : szMm (toldM m k) ≤ szMm m + 1 := by
  unfold toldM
  split
  · simp [szMm]; omega
  · omega
theorem setM_sz (m : Mm) (k : Int) (c : Ce) : szMm (setM m k c) = szMm m := by unfold setM szMm; simp [szRowCe_len]
theorem pushM_sz (m : Mm) (n : Int) : szMm (pushM m n) = szMm m + 1 := by unfold pushM szMm; simp [szRowCe_len]; omega
theorem freed_sz (m : Mm) (t k : Int) : szMm (freedM m t k) ≤ szMm m + 1 := by
  unfold freedM
  split
  · split
    · rw [setM_sz]; omega
    · omega
  · omega
theorem written_sz (m : Mm) (t k n : Int) : szMm (writtenM m t k n) ≤ szMm m + 1 := by
  unfold writtenM
  split
  · split
    · rw [setM_sz]; omega
    · simp [szMm]
  · omega
theorem looked_sz (m : Mm) (t k : Int) : szMm (lookedM m t k).1 ≤ szMm m + 1 := by
  unfold lookedM
  split
  · split <;> simp [szMm]
  · simp
theorem asked_sz (m : Mm) : szMm (askedM m).1 ≤ szMm m + 1 := by
  unfold askedM
  split
  · split
    · simp [szMm]
    · rename_i h
      simp [szMm, h]
      omega
  · simp
theorem summed_sz (m : Mm) (a b : Int) : szMm (summedM m a b).1 ≤ szMm m + 1 := by
  unfold summedM
  split
  · split <;> simp [szMm]
  · simp
theorem fresh_sz (m : Mm) (k : Int) : szMm (freshM m k).1 ≤ szMm m + 1 := by
  unfold freshM
  split
  · simp [pushM_sz]
  · simp
theorem moved_sz (m : Mm) (t k : Int) : szMm (movedM m t k).1 ≤ szMm m + 1 := by
  unfold movedM
  split
  · split
    · split
      · simp [pushM_sz, setM_sz]
      · simp [szMm]
    · simp
  · simp
/-- Blocks as they stand. -/
def Stay (L : List (Nat × Obj)) (W : World) : Prop := ∀ q ∈ L, W.heap[q.1]? = some q.2
theorem Stay.next {L : List (Nat × Obj)} {W W' : World} (h : Stay L W) (hb : Below W.heap.size W W') : Stay L W' := fun q hq => by
  have h1 := h q hq
  have h2 : q.1 < W.heap.size := by
    rcases Nat.lt_or_ge q.1 W.heap.size with h2 | h2
    · exact h2
    · rw [Array.getElem?_eq_none h2] at h1; cases h1
  exact (hb.block _ h2).trans h1
theorem Stay.rim {L : List (Nat × Obj)} {W W' : World} {B H : Nat} (h : Stay L W) (hb : Rim B H W W') (hd : ∀ q ∈ L, q.1 < B ∨ H ≤ q.1) : Stay L W' := fun q hq => by
  have h1 := h q hq
  have h2 : q.1 < W.heap.size := by
    rcases Nat.lt_or_ge q.1 W.heap.size with h2 | h2
    · exact h2
    · rw [Array.getElem?_eq_none h2] at h1; cases h1
  exact (hb.block _ h2 (hd q hq)).trans h1
theorem Stay.push {L : List (Nat × Obj)} {W : World} (h : Stay L W) (o : Obj) : Stay ((W.heap.size, o) :: L) (W.alloc o) := fun q hq => by
  rcases List.mem_cons.mp hq with rfl | hq
  · exact heap_alloc_new _ _
  · exact h.next ((Below.refl _ _).alloc (Nat.le_refl _) _) q hq
theorem OwnMm.row {w : World} {B H : Nat} {v0 v1 v2 : Value} {m : Mm} (h : OwnMm w B H v0 v1 v2 m) : RowMm w H v0 v1 v2 m :=
  ⟨CeR.read1 h.cells.1 (fun g hg => (h.fp g (mem_fps (by simp) hg)).2), h.input.row (fun g hg => (h.fp g (mem_fps (by simp) hg)).2), OwnsR.read inC_len h.out (fun g hg => (h.fp g (mem_fps (by simp) hg)).2)⟩
theorem OwnMm.nils {w : World} {B H : Nat} {v0 v1 v2 : Value} {m : Mm} (h : OwnMm w B H v0 v1 v2 m) : nilOk v0 ∧ nilOk v1 ∧ nilOk v2 := by
  refine ⟨OwnsR.nilOk h.cells.1, ?_, OwnsR.nilOk h.out⟩
  rcases h.input with h | ⟨_, _, _, _, _, _, rfl, _⟩ | ⟨a, rfl, _, _⟩
  · exact OwnsR.nilOk h
  · trivial
  · cases a
    · exact ⟨rfl, rfl⟩
    · trivial
theorem OwnMm.form {w : World} {B H : Nat} {v0 v1 v2 : Value} {m : Mm} (h : OwnMm w B H v0 v1 v2 m) : ∃ x0 n0 c0 x1 n1 c1 x2 n2 c2, v0 = .slice x0 n0 c0 ∧ v1 = .slice x1 n1 c1 ∧ v2 = .slice x2 n2 c2 := by
  obtain ⟨a, n, c, e0⟩ := form_slice h.cells.1
  obtain ⟨a2, n2, c2, e2⟩ := form_slice h.out
  rcases h.input with h | ⟨_, _, _, _, _, _, e1, _⟩ | ⟨a1, e1, _, _⟩
  · obtain ⟨a1, n1, c1, e1⟩ := form_slice h
    exact ⟨_, _, _, _, _, _, _, _, _, e0, e1, e2⟩
  · exact ⟨_, _, _, _, _, _, _, _, _, e0, e1, e2⟩
  · exact ⟨_, _, _, _, _, _, _, _, _, e0, e1, e2⟩

end Go.Proofs.Ytogdofdgkhkcaaa
