/-
  The law of ShowProgram: at every argument it answers true.
-/
import Derived.Test.YtbanmldmdoedkaaGreatDoorShPI
import Derived.Test.YtbanmldmdoedkaaGreatDoorRa
namespace Go.Proofs.YtbanmldmdoedkaaGreatDoor
open Go.RowKit

set_option maxRecDepth 100000 in
set_option maxHeartbeats 3200000 in
theorem lawShowProgramT (a0 a1 : Value) (p : Pg) (w : World) (hp : RowPg w w.heap.size a0 a1 p ∧ okPg p) (hd : DoorS w) :
    Calls Tryz.prog 5 #[.agg #[a0, a1]] w fun e w' => e = .returned (.bool true) ∧ Below w.heap.size w w' := by
  have cZ : Hid (∀ W, Below w.heap.size w W → Calls Tryz.prog 19 #[.agg #[a0, a1], .int .i64 1048576] W fun e w' => (∃ r : Int, e = .returned (.int .i64 r) ∧ (r = -1 ∨ (0 ≤ r ∧ r + (szPg p : Int) = 1048576))) ∧ Below W.heap.size W w') := fun W hW =>
    szProgram_sum w.heap.size p a0 a1 1048576 W hW.size (hp.1.keep hW) hp.2 (by omega) (by omega)
  have HP : Hid (RowPg w w.heap.size a0 a1 p) := hp.1
  have HDO : Hid (DoorS w) := hd
  clear hd
  clear hp
  go_enter Tryz.func5, Tryz.ntmps5
  go_wp2_with fail
  go_at_call 19
  refine Calls.mono (cZ.out _ (by go_grown)) ?_
  rintro e w1 ⟨⟨r, rfl, hr⟩, hb⟩
  have B1 : Hid (Box w (.cells #[a0, a1] 43) w1) := (Box.first _ _).next hb
  clear cZ hb
  rcases hr with rfl | ⟨hr0, hr1⟩
  · go_wp2
    go_ret
    exact ⟨rfl, B1.out.below⟩
  have hrn : ¬ r < 0 := by omega
  have hl : szPg p ≤ 1048576 := by omega
  have HL : Hid (szPg p ≤ 1048576 ∧ szRow szNd p.nodes ≤ 1048576) := ⟨hl, Nat.le_trans (le_szPg_nodes p) hl⟩
  obtain ⟨N0, H0⟩ : ∃ K, Hid (p.nodes.length = K) := ⟨_, (rfl : p.nodes.length = p.nodes.length)⟩
  obtain ⟨N1, H1⟩ : ∃ K, Hid (p.fns.length = K) := ⟨_, (rfl : p.fns.length = p.fns.length)⟩
  have cT : Hid (∀ W, Below w.heap.size w W → Calls Tryz.prog 21 #[.agg #[a0, a1]] W fun e w' => ∃ g c g' c', e = .returned (.agg #[.slice (some ⟨g, 0, none⟩) N0 c, .slice (some ⟨g', 0, none⟩) N1 c']) ∧ OwnPg w' W.heap.size w'.heap.size (.slice (some ⟨g, 0, none⟩) N0 c) (.slice (some ⟨g', 0, none⟩) N1 c') p ∧ Below W.heap.size W w') := fun W hW => by
    rw [← H0.out, ← H1.out]
    exact toProgram_any w.heap.size p a0 a1 W hW.size (HP.out.keep hW) hl
  obtain ⟨⟨L, ok⟩, hL⟩ : ∃ r, Hid (showPrg p = r) := ⟨_, (rfl : showPrg p = showPrg p)⟩
  obtain ⟨T, hT⟩ : ∃ T, Hid (txt L = T) := ⟨_, (rfl : txt L = txt L)⟩
  have cS : Hid (∀ W v0 v1, RowPg W W.heap.size v0 v1 p → Calls Tryz.prog 8 #[.agg #[v0, v1]] W fun e w' => e = .returned (.tuple #[.string T, .bool ok]) ∧ Below W.heap.size W w') := fun W v0 v1 h => by rw [← hT.out]; exact specShowProgram_any v0 v1 p W h HL.out.1 L ok hL
  have cI : Hid (∀ W v0 v1, Below w.heap.size w W → RowPg W W.heap.size v0 v1 p → Calls Tryz.prog 24 #[.agg #[v0, v1]] W fun e w' => e = .returned (.tuple #[.string T, .bool ok]) ∧ Below W.heap.size W w') := fun W v0 v1 hW h => by rw [← hT.out]; exact implShowProgram_any v0 v1 p W h HL.out.1 L ok hL (HDO.out.below hW)
  clear hl hr0 hr1
  have x0 : w1.cell? ⟨w.heap.size, 0, none⟩ = some a0 := B1.out.cell 0
  have x1 : w1.cell? ⟨w.heap.size, 1, none⟩ = some a1 := B1.out.cell 1
  go_wp2_with fail
  go_at_call 21
  refine Calls.mono (cT.out _ B1.out.below) ?_
  rintro e w2 ⟨g, c, g', c', rfl, ho, hb⟩
  have B2 : Hid (Box w (.cells #[a0, a1] 43) w2) := B1.out.next hb
  clear hb B1 x0 x1
  go_wp2_with fail
  go_at_call 8
  refine Calls.mono (cS.out _ _ _ ho.row) ?_
  rintro e w3 ⟨rfl, hb⟩
  have B3 : Hid (Box w (.cells #[a0, a1] 43) w3) := B2.out.next hb
  clear hb B2 ho cS
  have x0 : w3.cell? ⟨w.heap.size, 0, none⟩ = some a0 := B3.out.cell 0
  have x1 : w3.cell? ⟨w.heap.size, 1, none⟩ = some a1 := B3.out.cell 1
  go_wp2_with fail
  go_at_call 21
  refine Calls.mono (cT.out _ B3.out.below) ?_
  rintro e w4 ⟨g2, c2, g2', c2', rfl, ho, hb⟩
  have B4 : Hid (Box w (.cells #[a0, a1] 43) w4) := B3.out.next hb
  have R4 : Hid (RowPg w4 w4.heap.size (.slice (some ⟨g2, 0, none⟩) N0 c2) (.slice (some ⟨g2', 0, none⟩) N1 c2') p) := ho.row
  clear hb B3 x0 x1 ho
  go_wp2_with fail
  go_at_call 24
  refine Calls.mono (cI.out _ _ _ (B4.out.alloc _).below ((R4.out.keep ((Below.refl _ _).alloc (Nat.le_refl _) _)).up (by simp))) ?_
  rintro e w5 ⟨rfl, hb⟩
  have B5 : Hid (Box w (.cells #[a0, a1] 43) w5) := (B4.out.alloc _).next hb
  have X5 : Hid (Box w4 (.cells #[.slice (some ⟨g2, 0, none⟩) N0 c2, .slice (some ⟨g2', 0, none⟩) N1 c2'] 27) w5) := (Box.first _ _).next hb
  have R5 : Hid (RowPg w5 w4.heap.size (.slice (some ⟨g2, 0, none⟩) N0 c2) (.slice (some ⟨g2', 0, none⟩) N1 c2') p) := R4.out.keep X5.out.below
  have hz5 : w4.heap.size ≤ w5.heap.size := Nat.le_of_lt X5.out.lt
  clear hb B4 R4 cI
  have z0 : w5.cell? ⟨w4.heap.size, 0, none⟩ = some (.slice (some ⟨g2, 0, none⟩) N0 c2) := X5.out.cell 0
  have z1 : w5.cell? ⟨w4.heap.size, 1, none⟩ = some (.slice (some ⟨g2', 0, none⟩) N1 c2') := X5.out.cell 1
  have x0 : w5.cell? ⟨w.heap.size, 0, none⟩ = some a0 := B5.out.cell 0
  have x1 : w5.cell? ⟨w.heap.size, 1, none⟩ = some a1 := B5.out.cell 1
  go_wp2_with fail
  go_region_held3 (fun w' => (w'.cell? ⟨w4.heap.size, 0, none⟩ = some (.slice (some ⟨g2, 0, none⟩) N0 c2) ∧ w'.cell? ⟨w4.heap.size, 1, none⟩ = some (.slice (some ⟨g2', 0, none⟩) N1 c2')) ∧ w'.cell? ⟨w.heap.size, 0, none⟩ = some a0 ∧ w'.cell? ⟨w.heap.size, 1, none⟩ = some a1) (first | exact ⟨⟨XB.cell 0, XB.cell 1⟩, DB.cell 0, DB.cell 1⟩ | exact ⟨⟨XA.cell 0, XA.cell 1⟩, DA.cell 0, DA.cell 1⟩ | exact ⟨⟨X5.out.drew.cell 0, X5.out.drew.cell 1⟩, B5.out.drew.cell 0, B5.out.drew.cell 1⟩) (first | (go_at_call 21; refine Calls.mono (cT.out _ B5.out.drew.below) ?_; rintro e wA ⟨gA, cA, gA', cA', rfl, hoA, hbA⟩; have DA := B5.out.drew.next hbA; have XA := X5.out.drew.next hbA) | (go_at_call 23; refine Calls.mono (eqProgram_same wA.heap.size p _ _ _ _ wA (Nat.le_refl _) ((R5.out.keep ((Below.refl _ _).drew.trans (hbA.mono hz5))).up (Nat.le_trans hz5 hbA.size)) hoA.row HL.out.1) ?_; rintro e wB ⟨rfl, hbB⟩; have DB := DA.next hbB; have XB := XA.next hbB))
  have HB : Hid (Below w.heap.size w wB) := DB.below
  clear DA DB XA XB hbA hbB hoA z0 z1 x0 x1
  go_wp2
  go_ret
  exact ⟨rfl, HB.out⟩

end Go.Proofs.YtbanmldmdoedkaaGreatDoor
