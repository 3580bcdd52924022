/-
  What the laws' helpers answer of programs: held against each other, measured, copied.
-/
import Derived.Test.YtljphnjmeckpbaaGreatRowNode
import Derived.Test.YtljphnjmeckpbaaGreatRowFn
namespace Go.Proofs.YtljphnjmeckpbaaGreat
open Go.RowKit

/-- A program that is read. -/
def RowPg (w : World) (B : Nat) (v0 v1 : Value) (p : Pg) : Prop := NdR.Row w B v0 p.nodes ∧ FcR.Row w B v1 p.fns
theorem RowPg.keep {w w' : World} {B : Nat} {v0 v1 : Value} {p : Pg} (h : RowPg w B v0 v1 p) (hb : Below B w w') : RowPg w' B v0 v1 p := ⟨h.1.keep hb, h.2.keep hb⟩
theorem RowPg.up {w : World} {B B' : Nat} {v0 v1 : Value} {p : Pg} (h : RowPg w B v0 v1 p) (hB : B ≤ B') : RowPg w B' v0 v1 p := ⟨h.1.up hB, h.2.up hB⟩
/-- A program that the call owns, in blocks B .. H. -/
def OwnPg (w : World) (B H : Nat) (v0 v1 : Value) (p : Pg) : Prop := ∃ M, B ≤ M ∧ M ≤ H ∧ NdR.Own w B M v0 p.nodes ∧ FcR.Own w M H v1 p.fns
theorem OwnPg.row {w : World} {B H : Nat} {v0 v1 : Value} {p : Pg} (h : OwnPg w B H v0 v1 p) : RowPg w H v0 v1 p := by
  obtain ⟨M, h1, h2, h3, h4⟩ := h
  exact ⟨h3.row.up h2, h4.row⟩
theorem OwnPg.same {w w' : World} {B H : Nat} {v0 v1 : Value} {p : Pg} (h : OwnPg w B H v0 v1 p) (hs : ∀ g, B ≤ g → g < H → w'.heap[g]? = w.heap[g]?) : OwnPg w' B H v0 v1 p := by
  obtain ⟨M, h1, h2, h3, h4⟩ := h
  exact ⟨M, h1, h2, h3.same (fun g a b => hs g a (by omega)), h4.same (fun g a b => hs g (by omega) b)⟩

theorem le_szPg_nodes (p : Pg) : szRow szNd p.nodes ≤ szPg p := Nat.le_add_right _ _
theorem le_szPg_fns (p : Pg) : szRow szFc p.fns ≤ szPg p := Nat.le_add_left _ _

set_option maxRecDepth 100000 in
set_option maxHeartbeats 1600000 in
theorem eqProgram_same (B : Nat) (p : Pg) (a0 a1 b0 b1 : Value) (w : World) (hB : B ≤ w.heap.size) (ha : RowPg w B a0 a1 p) (hb : RowPg w B b0 b1 p) (hl : szPg p ≤ 1048576) :
    Calls Tryz.prog 9 #[.agg #[a0, a1], .agg #[b0, b1]] w fun e w' => e = .returned (.bool true) ∧ Below w.heap.size w w' := by
  have cE0 : Hid (∀ W, Below w.heap.size w W → Calls Tryz.prog 29 #[a0, b0] W fun e w' => e = .returned (.bool true) ∧ Below W.heap.size W w') := fun W hW =>
    eqNodeS_same B _ _ p.nodes W (Nat.le_trans hB hW.size) (ha.1.keep (hW.mono hB)) (hb.1.keep (hW.mono hB)) (Nat.le_trans (le_szPg_nodes p) hl)
  have cE1 : Hid (∀ W, Below w.heap.size w W → Calls Tryz.prog 30 #[a1, b1] W fun e w' => e = .returned (.bool true) ∧ Below W.heap.size W w') := fun W hW =>
    eqFnS_same B _ _ p.fns W (Nat.le_trans hB hW.size) (ha.2.keep (hW.mono hB)) (hb.2.keep (hW.mono hB)) (Nat.le_trans (le_szPg_fns p) hl)
  clear ha hb hl
  go_enter Tryz.func9, Tryz.ntmps9
  go_wp2_with fail
  go_at_call 29
  refine Calls.mono (cE0.out _ (by go_grown)) ?_
  rintro e w1 ⟨rfl, hb⟩
  have HB1 : Hid (Below w.heap.size w w1) := by
    refine Below.trans ?_ (hb.mono ?_)
    · go_grown
    · simp; omega
  have x1 : w1.cell? ⟨w.heap.size, 1, none⟩ = some a1 := (hb.cell (p := ⟨w.heap.size, 1, none⟩) (by show _ < _; first | (simp; done) | (simp; omega))).trans (by simp)
  have y1 : w1.cell? ⟨w.heap.size + 1, 1, none⟩ = some b1 := (hb.cell (p := ⟨w.heap.size + 1, 1, none⟩) (by show _ < _; first | (simp; done) | (simp; omega))).trans (by simp)
  clear hb cE0
  go_wp2_with fail
  go_at_call 30
  refine Calls.mono (cE1.out _ HB1.out) ?_
  rintro e w2 ⟨rfl, hb⟩
  have HB2 : Hid (Below w.heap.size w w2) := HB1.out.trans (hb.mono HB1.out.size)
  clear hb cE1
  go_wp2
  go_ret
  exact ⟨rfl, HB2.out⟩

set_option maxRecDepth 100000 in
set_option maxHeartbeats 1600000 in
theorem szProgram_sum (B : Nat) (p : Pg) (a0 a1 : Value) (left : Int) (w : World) (hB : B ≤ w.heap.size) (ha : RowPg w B a0 a1 p) (hok : okPg p) (h0 : 0 ≤ left) (h1 : left ≤ 1048576) :
    Calls Tryz.prog 5 #[.agg #[a0, a1], .int .i64 left] w fun e w' => (∃ r : Int, e = .returned (.int .i64 r) ∧ (r = -1 ∨ (0 ≤ r ∧ r + (szPg p : Int) = left))) ∧ Below w.heap.size w w' := by
  have cS0 : Hid (∀ W l, 0 ≤ l → l ≤ 1048576 → Below w.heap.size w W → Calls Tryz.prog 16 #[a0, .int .i64 l] W fun e w' => (∃ r : Int, e = .returned (.int .i64 r) ∧ (r = -1 ∨ (0 ≤ r ∧ r + (szRow szNd p.nodes : Int) = l))) ∧ Below W.heap.size W w') := fun W l hl0 hl1 hW =>
    szNodeS_sum B _ p.nodes l W (Nat.le_trans hB hW.size) (ha.1.keep (hW.mono hB)) hok.1 hl0 hl1
  have cS1 : Hid (∀ W l, 0 ≤ l → l ≤ 1048576 → Below w.heap.size w W → Calls Tryz.prog 17 #[a1, .int .i64 l] W fun e w' => (∃ r : Int, e = .returned (.int .i64 r) ∧ (r = -1 ∨ (0 ≤ r ∧ r + (szRow szFc p.fns : Int) = l))) ∧ Below W.heap.size W w') := fun W l hl0 hl1 hW =>
    szFnS_sum B _ p.fns l W (Nat.le_trans hB hW.size) (ha.2.keep (hW.mono hB)) hok.2 hl0 hl1
  have HZ : Hid ((szPg p : Int) = (szRow szNd p.nodes : Int) + (szRow szFc p.fns : Int)) := by
    show (_ : Int) = _
    unfold szPg
    push_cast
    rfl
  obtain ⟨z0, hz0⟩ : ∃ z : Nat, Hid (szRow szNd p.nodes = z) := ⟨_, (rfl : szRow szNd p.nodes = szRow szNd p.nodes)⟩
  obtain ⟨z1, hz1⟩ : ∃ z : Nat, Hid (szRow szFc p.fns = z) := ⟨_, (rfl : szRow szFc p.fns = szRow szFc p.fns)⟩
  rw [hz0.out] at cS0 HZ
  rw [hz1.out] at cS1 HZ
  rw [HZ.out]
  clear HZ hok ha hz0 hz1
  go_enter Tryz.func5, Tryz.ntmps5
  go_wp2_with fail
  go_at_call 16
  refine Calls.mono (cS0.out _ left h0 h1 (by go_grown)) ?_
  rintro e w1 ⟨⟨r1, rfl, hr1⟩, hb⟩
  have HB1 : Hid (Below w.heap.size w w1) := by
    refine Below.trans ?_ (hb.mono ?_)
    · go_grown
    · simp
  have x1 : w1.cell? ⟨w.heap.size, 1, none⟩ = some a1 := (hb.cell (p := ⟨w.heap.size, 1, none⟩) (by show _ < _; first | (simp; done) | (simp; omega))).trans (by simp)
  clear hb cS0
  rcases hr1 with rfl | ⟨hr1a, hr1b⟩
  · go_wp2
    go_ret
    exact ⟨⟨_, rfl, .inl rfl⟩, HB1.out⟩
  have hr1n : ¬ r1 < 0 := by omega
  go_wp2_with fail
  go_at_call 17
  refine Calls.mono (cS1.out _ r1 hr1a (by omega) HB1.out) ?_
  rintro e w2 ⟨⟨r2, rfl, hr2⟩, hb⟩
  have HB2 : Hid (Below w.heap.size w w2) := HB1.out.trans (hb.mono HB1.out.size)
  clear hb cS1
  rcases hr2 with rfl | ⟨hr2a, hr2b⟩
  · go_wp2
    go_ret
    exact ⟨⟨_, rfl, .inl rfl⟩, HB2.out⟩
  have hr2n : ¬ r2 < 0 := by omega
  go_wp2
  go_ret
  exact ⟨⟨_, rfl, .inr ⟨by omega, by omega⟩⟩, HB2.out⟩

set_option maxRecDepth 100000 in
set_option maxHeartbeats 1600000 in
theorem toProgram_any (B : Nat) (p : Pg) (a0 a1 : Value) (w : World) (hB : B ≤ w.heap.size) (ha : RowPg w B a0 a1 p) (hl : szPg p ≤ 1048576) :
    Calls Tryz.prog 7 #[.agg #[a0, a1]] w fun e w' => ∃ g c g' c', e = .returned (.agg #[.slice (some ⟨g, 0, none⟩) p.nodes.length c, .slice (some ⟨g', 0, none⟩) p.fns.length c']) ∧ OwnPg w' w.heap.size w'.heap.size (.slice (some ⟨g, 0, none⟩) p.nodes.length c) (.slice (some ⟨g', 0, none⟩) p.fns.length c') p ∧ Below w.heap.size w w' := by
  have cT0 : Hid (∀ W, Below w.heap.size w W → Calls Tryz.prog 23 #[a0] W fun e w' => ∃ g cap, e = .returned (.slice (some ⟨g, 0, none⟩) p.nodes.length cap) ∧ NdR.Own w' W.heap.size w'.heap.size (.slice (some ⟨g, 0, none⟩) p.nodes.length cap) p.nodes ∧ Below W.heap.size W w') := fun W hW =>
    toNodeS_any B _ p.nodes W (Nat.le_trans hB hW.size) (ha.1.keep (hW.mono hB)) (Nat.le_trans (le_szPg_nodes p) hl)
  have cT1 : Hid (∀ W, Below w.heap.size w W → Calls Tryz.prog 24 #[a1] W fun e w' => ∃ g cap, e = .returned (.slice (some ⟨g, 0, none⟩) p.fns.length cap) ∧ FcR.Own w' W.heap.size w'.heap.size (.slice (some ⟨g, 0, none⟩) p.fns.length cap) p.fns ∧ Below W.heap.size W w') := fun W hW =>
    toFnS_any B _ p.fns W (Nat.le_trans hB hW.size) (ha.2.keep (hW.mono hB)) (Nat.le_trans (le_szPg_fns p) hl)
  obtain ⟨N0, H0⟩ : ∃ K, Hid (p.nodes.length = K) := ⟨_, (rfl : p.nodes.length = p.nodes.length)⟩
  obtain ⟨N1, H1⟩ : ∃ K, Hid (p.fns.length = K) := ⟨_, (rfl : p.fns.length = p.fns.length)⟩
  rw [H0.out] at cT0 ⊢
  rw [H1.out] at cT1 ⊢
  clear ha hl
  go_enter Tryz.func7, Tryz.ntmps7
  go_wp2_with fail
  go_at_call 23
  refine Calls.mono (cT0.out _ (by go_grown)) ?_
  rintro e w1 ⟨g, c, rfl, ho, hb1⟩
  have hO := (hb1.block (w.heap.size + 2) (by first | (simp; done) | (simp; omega))).trans (third_new w _ _ _)
  have hR := (hb1.block (w.heap.size + 1) (by first | (simp; done) | (simp; omega))).trans (second_new w _ _ _)
  have hA := (hb1.block w.heap.size (by first | (simp; done) | (simp; omega))).trans (first_new w _ _ _)
  have HO1 : Hid (NdR.Own w1 (w.heap.size + 3) w1.heap.size (.slice (some ⟨g, 0, none⟩) N0 c) p.nodes) := ho.wide (by simp) (Nat.le_refl _)
  have HB1 : Hid (Below w.heap.size w w1) := by
    refine Below.trans ?_ (hb1.mono ?_)
    · go_grown
    · simp; omega
  have hz1 : w.heap.size + 3 ≤ w1.heap.size := by have := hb1.size; simp at this; omega
  have a1' := cell_at hA 1
  have o0 := cell_at hO 0
  have p0 := free_at hO 0
  simp at a1' o0
  clear ho hb1 cT0
  have HO : Hid _ := hO
  have HR : Hid _ := hR
  clear hO hR hA
  go_wp2_with fail
  go_at_call 24
  refine Calls.mono (cT1.out _ (HB1.out.setCell (p := ⟨w.heap.size + 2, 0, none⟩) (by show _ ≤ _; simp) _)) ?_
  rintro e w2 ⟨g', c', rfl, ho, hb2⟩
  have hzz : (w1.setCell ⟨w.heap.size + 2, 0, none⟩ (.slice (some ⟨g, 0, none⟩) N0 c)).heap.size = w1.heap.size := by simp
  rw [hzz] at ho hb2
  have hO : w2.heap[w.heap.size + 2]? = some (.cells #[.slice (some ⟨g, 0, none⟩) N0 c, .slice none 0 0] 31 (0, 0)) := (hb2.block _ (by omega)).trans (by have := HO.out; simp [World.setCell, Array.getElem?_modify, this])
  have hR : w2.heap[w.heap.size + 1]? = some (.cells #[.slice none 0 0, .slice none 0 0] 31 (0, 0)) := (hb2.block _ (by omega)).trans ((kept_set (by omega)).trans HR.out)
  have HN1 : Hid (NdR.Own w2 (w.heap.size + 3) w1.heap.size (.slice (some ⟨g, 0, none⟩) N0 c) p.nodes) := HO1.out.same (fun x hx1 hx2 => (hb2.block x hx2).trans (kept_set (by omega)))
  have HN2 : Hid (FcR.Own w2 w1.heap.size w2.heap.size (.slice (some ⟨g', 0, none⟩) N1 c') p.fns) := ho
  have HB2 : Hid (Below w.heap.size w w2) := (HB1.out.setCell (p := ⟨w.heap.size + 2, 0, none⟩) (by show _ ≤ _; simp) _).trans (hb2.mono (by omega))
  have hz2 : w1.heap.size ≤ w2.heap.size := by have := hb2.size; simp at this; omega
  have q0 := cell_at hO 0
  have q1 := cell_at hO 1
  have p1 := free_at hO 1
  have r0 := cell_at hR 0
  have r1 := cell_at hR 1
  have f0 := free_at hR 0
  have f1 := free_at hR 1
  have HE : Hid (∀ u v0 v1, (((w2.setCell ⟨w.heap.size + 2, 1, none⟩ u).setCell ⟨w.heap.size + 1, 0, none⟩ v0).setCell ⟨w.heap.size + 1, 1, none⟩ v1).heap[w.heap.size + 1]? = some (.cells #[v0, v1] 31 (0, 0))) := fun u v0 v1 => by
    simp [World.setCell, Array.getElem?_modify, hR]
  have HN : Hid (∀ u v0 v1 x, x ≠ w.heap.size + 1 → x ≠ w.heap.size + 2 → (((w2.setCell ⟨w.heap.size + 2, 1, none⟩ u).setCell ⟨w.heap.size + 1, 0, none⟩ v0).setCell ⟨w.heap.size + 1, 1, none⟩ v1).heap[x]? = w2.heap[x]?) := fun u v0 v1 x h1 h2 => by
    simp only [kept_set h1, kept_set h2]
  simp at q0 q1 r0 r1
  clear ho hb2 hO hR cT1 HO HR HO1 HB1 o0 p0 a1' hzz
  go_wp2
  have e0 := fun u v0 v1 => cell_at (HE.out u v0 v1) 0
  have e1 := fun u v0 v1 => cell_at (HE.out u v0 v1) 1
  simp at e0 e1
  refine bodyPost_ret (by simp [results, Tryz.results7, go_sem, e0, e1]; try rfl) rfl ?_
  refine ⟨g, c, g', c', rfl, ⟨w1.heap.size, by omega, by simp; omega, ?_, ?_⟩, ?_⟩
  · exact (HN1.out.same (fun x hx1 hx2 => HN.out _ _ _ x (by omega) (by omega))).wide (by omega) (Nat.le_refl _)
  · exact (HN2.out.same (fun x hx1 hx2 => HN.out _ _ _ x (by omega) (by omega))).wide (Nat.le_refl _) (by simp)
  · have h1 := HB2.out
    go_grown

end Go.Proofs.YtljphnjmeckpbaaGreat
