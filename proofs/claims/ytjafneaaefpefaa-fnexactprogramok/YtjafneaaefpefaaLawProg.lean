/-
  The law of ProgramOk: at every program it answers true.
-/
import Derived.Test.YtjafneaaefpefaaPr
namespace Go.Proofs.Ytjafneaaefpefaa
open Go.RowKit

set_option maxRecDepth 100000 in
set_option maxHeartbeats 3200000 in
theorem lawProg (a0 a1 : Value) (p : Pg) (w : World) (hp : RowPg w w.heap.size a0 a1 p ∧ okPg p) :
    Calls Try.prog 8 #[.agg #[a0, a1]] w fun e w' => e = .returned (.bool true) ∧ Below w.heap.size w w' := by
  have cZ : Hid (∀ W, Below w.heap.size w W → Calls Try.prog 26 #[.agg #[a0, a1], .int .i64 1048576] W fun e w' => (∃ r : Int, e = .returned (.int .i64 r) ∧ (r = -1 ∨ (0 ≤ r ∧ r + (szPg p : Int) = 1048576))) ∧ Below W.heap.size W w') := fun W hW =>
    szProgram_sum w.heap.size p a0 a1 1048576 W hW.size (hp.1.keep hW) hp.2 (by omega) (by omega)
  have HP : Hid (RowPg w w.heap.size a0 a1 p) := hp.1
  clear hp
  go_enter Try.func8, Try.ntmps8
  go_wp2_with fail
  go_at_call 26
  refine Calls.mono (cZ.out _ (by go_grown)) ?_
  rintro e w1 ⟨⟨r, rfl, hr⟩, hb⟩
  have B1 : Hid (Boxed w 34 a0 a1 w1) := (Boxed.first w _ a0 a1).next hb
  clear cZ hb
  rcases hr with rfl | ⟨hr0, hr1⟩
  · go_wp2
    go_ret
    exact ⟨rfl, B1.out.below⟩
  have hrn : ¬ r < 0 := by omega
  have hl : szPg p ≤ 1048576 := by omega
  have hfl : p.fns.length ≤ 1048576 := Nat.le_trans (len_szRow szFc p.fns) (Nat.le_trans (le_szPg_fns p) hl)
  obtain ⟨N0, H0⟩ : ∃ K, Hid (p.nodes.length = K) := ⟨_, (rfl : p.nodes.length = p.nodes.length)⟩
  obtain ⟨N1, H1⟩ : ∃ K, Hid (p.fns.length = K) := ⟨_, (rfl : p.fns.length = p.fns.length)⟩
  have cT : Hid (∀ W, Below w.heap.size w W → Calls Try.prog 28 #[.agg #[a0, a1]] W fun e w' => ∃ g c g' c', e = .returned (.agg #[.slice (some ⟨g, 0, none⟩) N0 c, .slice (some ⟨g', 0, none⟩) N1 c']) ∧ OwnPg w' W.heap.size w'.heap.size (.slice (some ⟨g, 0, none⟩) N0 c) (.slice (some ⟨g', 0, none⟩) N1 c') p ∧ Below W.heap.size W w') := fun W hW => by
    rw [← H0.out, ← H1.out]
    exact toProgram_any w.heap.size p a0 a1 W hW.size (HP.out.keep hW) hl
  have HL : Hid (szPg p ≤ 1048576 ∧ p.fns.length ≤ 1048576) := ⟨hl, hfl⟩
  obtain ⟨z, hz⟩ : ∃ z, Hid (programOk p = z) := ⟨_, (rfl : programOk p = programOk p)⟩
  have cS : Hid (∀ W v0 v1, RowPg W W.heap.size v0 v1 p → Calls Try.prog 27 #[.agg #[v0, v1]] W fun e w' => e = .returned (.bool z) ∧ Below W.heap.size W w') := fun W v0 v1 h => by
    rw [← hz.out]
    exact specProgramOk_any v0 v1 p W h hl
  have cI : Hid (∀ W v0 v1, RowPg W W.heap.size v0 v1 p → Calls Try.prog 29 #[.agg #[v0, v1]] W fun e w' => e = .returned (.bool z) ∧ Below W.heap.size W w') := fun W v0 v1 h => by
    rw [← hz.out]
    exact implProgramOk_any v0 v1 p W h hl
  clear hl hfl hr0 hr1
  have x0 := B1.out.c0
  have x1 := B1.out.c1
  go_wp2_with fail
  go_at_call 28
  refine Calls.mono (cT.out _ B1.out.below) ?_
  rintro e w2 ⟨g, c, g', c', rfl, ho, hb⟩
  have B2 : Hid (Boxed w 34 a0 a1 w2) := B1.out.next hb
  clear hb B1 x0 x1
  go_wp2_with fail
  go_at_call 27
  refine Calls.mono (cS.out _ _ _ ho.row) ?_
  rintro e w3 ⟨rfl, hb⟩
  have B3 : Hid (Boxed w 34 a0 a1 w3) := B2.out.next hb
  clear hb B2 ho cS
  have x0 := B3.out.c0
  have x1 := B3.out.c1
  go_wp2_with fail
  go_at_call 28
  refine Calls.mono (cT.out _ B3.out.below) ?_
  rintro e w4 ⟨g2, c2, g2', c2', rfl, ho, hb⟩
  have B4 : Hid (Boxed w 34 a0 a1 w4) := B3.out.next hb
  clear hb B3 x0 x1
  have R4 : Hid (RowPg w4 w4.heap.size (.slice (some ⟨g2, 0, none⟩) N0 c2) (.slice (some ⟨g2', 0, none⟩) N1 c2') p) := ho.row
  clear ho
  go_wp2_with fail
  go_at_call 29
  refine Calls.mono (cI.out _ _ _ ((R4.out.keep ((Below.refl _ _).alloc (Nat.le_refl _) _)).up (by simp))) ?_
  rintro e w5 ⟨rfl, hb⟩
  have B5 : Hid (Boxed w 34 a0 a1 w5) := (B4.out.alloc _).next hb
  have hz5 : w4.heap.size < w5.heap.size := by have := hb.size; simp at this; omega
  have R5 : Hid (RowPg w5 w4.heap.size (.slice (some ⟨g2, 0, none⟩) N0 c2) (.slice (some ⟨g2', 0, none⟩) N1 c2') p) := R4.out.keep (((Below.refl _ _).alloc (Nat.le_refl _) _).trans (hb.mono (by simp)))
  have y0 : w5.cell? ⟨w4.heap.size, 0, none⟩ = some (.slice (some ⟨g2, 0, none⟩) N0 c2) := (hb.cell (p := ⟨w4.heap.size, 0, none⟩) (by show _ < _; simp)).trans (by simp)
  have y1 : w5.cell? ⟨w4.heap.size, 1, none⟩ = some (.slice (some ⟨g2', 0, none⟩) N1 c2') := (hb.cell (p := ⟨w4.heap.size, 1, none⟩) (by show _ < _; simp)).trans (by simp)
  have x0 := B5.out.c0
  have x1 := B5.out.c1
  have hlt := B5.out.lt
  clear hb B4 R4 cI
  have hzz : (z != z) = false := by simp
  go_wp2_with fail
  go_region_held3 (fun w' => (w'.cell? ⟨w4.heap.size, 0, none⟩ = some (.slice (some ⟨g2, 0, none⟩) N0 c2) ∧ w'.cell? ⟨w4.heap.size, 1, none⟩ = some (.slice (some ⟨g2', 0, none⟩) N1 c2')) ∧ w'.cell? ⟨w.heap.size, 0, none⟩ = some a0 ∧ w'.cell? ⟨w.heap.size, 1, none⟩ = some a1) (first | exact ⟨⟨y0, y1⟩, x0, x1⟩ | exact ⟨⟨(hb6.cell (p := ⟨w4.heap.size, 0, none⟩) hz5).trans y0, (hb6.cell (p := ⟨w4.heap.size, 1, none⟩) hz5).trans y1⟩, (hb6.cell (p := ⟨w.heap.size, 0, none⟩) hlt).trans x0, (hb6.cell (p := ⟨w.heap.size, 1, none⟩) hlt).trans x1⟩ | exact ⟨⟨(hb7.cell (p := ⟨w4.heap.size, 0, none⟩) (Nat.lt_of_lt_of_le hz5 hb6.size)).trans ((hb6.cell (p := ⟨w4.heap.size, 0, none⟩) hz5).trans y0), (hb7.cell (p := ⟨w4.heap.size, 1, none⟩) (Nat.lt_of_lt_of_le hz5 hb6.size)).trans ((hb6.cell (p := ⟨w4.heap.size, 1, none⟩) hz5).trans y1)⟩, (hb7.cell (p := ⟨w.heap.size, 0, none⟩) (Nat.lt_of_lt_of_le hlt hb6.size)).trans ((hb6.cell (p := ⟨w.heap.size, 0, none⟩) hlt).trans x0), (hb7.cell (p := ⟨w.heap.size, 1, none⟩) (Nat.lt_of_lt_of_le hlt hb6.size)).trans ((hb6.cell (p := ⟨w.heap.size, 1, none⟩) hlt).trans x1)⟩) (first | (go_at_call 28; refine Calls.mono (cT.out _ B5.out.below.drew) ?_; rintro e w6 ⟨g3, c3, g3', c3', rfl, ho6, hb6⟩) | (go_at_call 30; refine Calls.mono (eqProgram_same w6.heap.size p _ _ _ _ w6 (Nat.le_refl _) ((R5.out.keep ((Below.refl _ _).drew.trans (hb6.mono (Nat.le_of_lt hz5)))).up (Nat.le_trans (Nat.le_of_lt hz5) hb6.size)) ho6.row HL.out.1) ?_; rintro e w7 ⟨rfl, hb7⟩))
  go_wp2
  go_ret
  exact ⟨rfl, (B5.out.drew.next hb6).below.trans (hb7.mono (B5.out.drew.next hb6).below.size)⟩

end Go.Proofs.Ytjafneaaefpefaa
