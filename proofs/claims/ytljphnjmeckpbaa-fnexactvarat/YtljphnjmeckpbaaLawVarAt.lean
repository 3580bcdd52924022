/-
  The law of VarAt: at every list of vars and every name it answers true.
-/
import Derived.Test.YtljphnjmeckpbaaVarAt
namespace Go.Proofs.Ytljphnjmeckpbaa
open Go.RowKit

set_option maxRecDepth 100000 in
set_option maxHeartbeats 3200000 in
theorem lawVarAt (a : Value) (xs : List Vr) (nm : ByteArray) (w : World) (hp : VrR.Row w w.heap.size a xs ∧ okRow okVr xs) :
    Calls Try.prog 4 #[a, .string nm] w fun e w' => e = .returned (.bool true) ∧ Below w.heap.size w w' := by
  by_cases hbig : (1048576 : Int) < (nm.size : Int)
  · go_enter Try.func4, Try.ntmps4
    go_wp2
    go_ret
    exact ⟨rfl, by go_grown⟩
  have cZ : Hid (Calls Try.prog 14 #[a, .int .i64 1048576] w fun e w' => (∃ r : Int, e = .returned (.int .i64 r) ∧ (r = -1 ∨ (0 ≤ r ∧ r + (szRow szVr xs : Int) = 1048576))) ∧ Below w.heap.size w w') :=
    szVarS_sum w.heap.size a xs 1048576 w (Nat.le_refl _) hp.1 hp.2 (by omega) (by omega)
  have HP : Hid (VrR.Row w w.heap.size a xs) := hp.1
  clear hp
  go_enter Try.func4, Try.ntmps4
  go_wp2_with fail
  go_at_call 14
  refine Calls.mono cZ.out ?_
  rintro e w1 ⟨⟨r, rfl, hr⟩, hb⟩
  have B1 : Hid (Below w.heap.size w w1) := hb
  clear cZ hb
  rcases hr with rfl | ⟨hr0, hr1⟩
  · go_wp2
    go_ret
    exact ⟨rfl, B1.out⟩
  have hrn : ¬ r < 0 := by omega
  have hl : szRow szVr xs ≤ 1048576 := by omega
  have HL : Hid (szRow szVr xs ≤ 1048576 ∧ xs.length ≤ 1048576) := ⟨hl, Nat.le_trans (len_szRow szVr xs) hl⟩
  obtain ⟨N0, H0⟩ : ∃ K, Hid (xs.length = K) := ⟨_, (rfl : xs.length = xs.length)⟩
  have cT : Hid (∀ W, Below w.heap.size w W → Calls Try.prog 16 #[a] W fun e w' => ∃ g c, e = .returned (.slice (some ⟨g, 0, none⟩) N0 c) ∧ VrR.Own w' W.heap.size w'.heap.size (.slice (some ⟨g, 0, none⟩) N0 c) xs ∧ Below W.heap.size W w') := fun W hW => by
    rw [← H0.out]
    exact toVarS_any w.heap.size a xs W hW.size (HP.out.keep hW) hl
  obtain ⟨z, hz⟩ : ∃ z, Hid (varAt xs nm = z) := ⟨_, (rfl : varAt xs nm = varAt xs nm)⟩
  have cS : Hid (∀ W v, VrR.Row W W.heap.size v xs → Calls Try.prog 15 #[v, .string nm] W fun e w' => e = .returned (.int .i64 z) ∧ Below W.heap.size W w') := fun W v h => by
    rw [← hz.out]
    exact specVarAt_any W.heap.size v xs nm W (Nat.le_refl _) h HL.out.2
  have cI : Hid (∀ W v, VrR.Row W W.heap.size v xs → Calls Try.prog 17 #[v, .string nm] W fun e w' => e = .returned (.int .i64 z) ∧ Below W.heap.size W w') := fun W v h => by
    rw [← hz.out]
    exact implVarAt_any W.heap.size v xs nm W (Nat.le_refl _) h HL.out.2
  clear hl hr0 hr1
  go_wp2_with fail
  go_at_call 16
  refine Calls.mono (cT.out _ B1.out) ?_
  rintro e w2 ⟨g, c, rfl, ho, hb⟩
  have B2 : Hid (Below w.heap.size w w2) := B1.out.trans (hb.mono B1.out.size)
  clear hb B1
  go_wp2_with fail
  go_at_call 15
  refine Calls.mono (cS.out _ _ ho.row) ?_
  rintro e w3 ⟨rfl, hb⟩
  have B3 : Hid (Below w.heap.size w w3) := B2.out.trans (hb.mono B2.out.size)
  clear hb B2 ho cS
  go_wp2_with fail
  go_at_call 16
  refine Calls.mono (cT.out _ B3.out) ?_
  rintro e w4 ⟨g2, c2, rfl, ho, hb⟩
  have B4 : Hid (Below w.heap.size w w4) := B3.out.trans (hb.mono B3.out.size)
  have R4 : Hid (VrR.Row w4 w4.heap.size (.slice (some ⟨g2, 0, none⟩) N0 c2) xs) := ho.row
  clear hb B3 ho
  go_wp2_with fail
  go_at_call 17
  refine Calls.mono (cI.out _ _ R4.out) ?_
  rintro e w5 ⟨rfl, hb⟩
  have B5 : Hid (Below w.heap.size w w5) := B4.out.trans (hb.mono B4.out.size)
  have R5 : Hid (VrR.Row w5 w5.heap.size (.slice (some ⟨g2, 0, none⟩) N0 c2) xs) := (R4.out.keep hb).up hb.size
  clear hb B4 R4 cI
  go_wp2_with fail
  go_at_call 16
  refine Calls.mono (cT.out _ B5.out) ?_
  rintro e w6 ⟨g3, c3, rfl, ho, hb⟩
  have B6 : Hid (Below w.heap.size w w6) := B5.out.trans (hb.mono B5.out.size)
  have R6 : Hid (VrR.Row w6 w6.heap.size (.slice (some ⟨g2, 0, none⟩) N0 c2) xs ∧ VrR.Row w6 w6.heap.size (.slice (some ⟨g3, 0, none⟩) N0 c3) xs) := ⟨(R5.out.keep hb).up hb.size, ho.row⟩
  clear hb B5 R5 ho cT
  go_wp2_with fail
  go_at_call 9
  refine Calls.mono (eqVarS_same w6.heap.size _ _ xs w6 (Nat.le_refl _) R6.out.1 R6.out.2 HL.out.1) ?_
  rintro e w7 ⟨rfl, hb⟩
  have B7 : Hid (Below w.heap.size w w7) := B6.out.trans (hb.mono B6.out.size)
  clear hb B6 R6
  go_wp2
  go_ret
  exact ⟨rfl, B7.out⟩

end Go.Proofs.Ytljphnjmeckpbaa
