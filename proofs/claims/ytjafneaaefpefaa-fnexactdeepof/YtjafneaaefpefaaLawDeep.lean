/-
  The law of DeepOf: at every row of nodes and every place it answers true.
-/
import Derived.Test.YtjafneaaefpefaaDe
namespace Go.Proofs.Ytjafneaaefpefaa
open Go.RowKit

set_option maxRecDepth 100000 in
set_option maxHeartbeats 3200000 in
theorem lawDeep (v : Value) (ns : List Nd) (k : Int) (w : World) (hv : NdR.Row w w.heap.size v ns ∧ okRow okNd ns) :
    Calls Try.prog 7 #[v, .int .i64 k] w fun e w' => e = .returned (.bool true) ∧ Below w.heap.size w w' := by
  have cZ : Hid (∀ W, Below w.heap.size w W → Calls Try.prog 19 #[v, .int .i64 1048576] W fun e w' => (∃ r : Int, e = .returned (.int .i64 r) ∧ (r = -1 ∨ (0 ≤ r ∧ r + (szRow szNd ns : Int) = 1048576))) ∧ Below W.heap.size W w') := fun W hW =>
    szNodeS_sum w.heap.size v ns 1048576 W hW.size (hv.1.keep hW) hv.2 (by omega) (by omega)
  have HV : Hid (NdR.Row w w.heap.size v ns) := hv.1
  obtain ⟨va, vc, rfl⟩ := hv.1.len
  obtain ⟨N, HN⟩ : ∃ N, Hid (ns.length = N) := ⟨_, (rfl : ns.length = ns.length)⟩
  rw [HN.out] at cZ HV ⊢
  clear hv
  go_enter Try.func7, Try.ntmps7
  go_wp2_with fail
  go_at_call 19
  refine Calls.mono (cZ.out _ (Below.refl _ _)) ?_
  rintro e w1 ⟨⟨r, rfl, hr⟩, hb1⟩
  have B1 : Hid (Below w.heap.size w w1) := hb1
  clear cZ hb1
  rcases hr with rfl | ⟨hr0, hr1⟩
  · go_wp2
    go_ret
    exact ⟨rfl, B1.out⟩
  have hrn : ¬ r < 0 := by omega
  have HL : Hid (szRow szNd ns ≤ 1048576) := by show _ ≤ _; omega
  have cT : Hid (∀ W, Below w.heap.size w W → Calls Try.prog 21 #[.slice va N vc] W fun e w' => ∃ g cap, e = .returned (.slice (some ⟨g, 0, none⟩) N cap) ∧ NdR.Own w' W.heap.size w'.heap.size (.slice (some ⟨g, 0, none⟩) N cap) ns ∧ Below W.heap.size W w') := fun W hW => by
    have := toNodeS_any w.heap.size _ ns W hW.size (HV.out.keep hW) HL.out
    rw [HN.out] at this
    exact this
  obtain ⟨z, hz⟩ : ∃ z, Hid (deepOf ns k = z) := ⟨_, (rfl : deepOf ns k = deepOf ns k)⟩
  have cS : Hid (∀ W u, NdR.Row W W.heap.size u ns → Calls Try.prog 24 #[u, .int .i64 k] W fun e w' => e = .returned (.int .i64 z) ∧ Below W.heap.size W w') := fun W u h => by
    rw [← hz.out]
    exact specDeepOf_any u ns k W h HL.out
  have cI : Hid (∀ W u, NdR.Row W W.heap.size u ns → Calls Try.prog 25 #[u, .int .i64 k] W fun e w' => e = .returned (.int .i64 z) ∧ Below W.heap.size W w') := fun W u h => by
    rw [← hz.out]
    exact implDeepOf_any u ns k W h HL.out
  clear hr0 hr1
  go_wp2_with fail
  go_at_call 21
  refine Calls.mono (cT.out _ B1.out) ?_
  rintro e w2 ⟨g, c, rfl, ho, hb⟩
  have B2 : Hid (Below w.heap.size w w2) := B1.out.trans (hb.mono B1.out.size)
  clear hb B1
  go_wp2_with fail
  go_at_call 24
  refine Calls.mono (cS.out _ _ ho.row) ?_
  rintro e w3 ⟨rfl, hb⟩
  have B3 : Hid (Below w.heap.size w w3) := B2.out.trans (hb.mono B2.out.size)
  clear hb B2 ho cS
  go_wp2_with fail
  go_at_call 21
  refine Calls.mono (cT.out _ B3.out) ?_
  rintro e w4 ⟨g2, c2, rfl, ho, hb⟩
  have B4 : Hid (Below w.heap.size w w4) := B3.out.trans (hb.mono B3.out.size)
  have R4 : Hid (NdR.Row w4 w4.heap.size (.slice (some ⟨g2, 0, none⟩) N c2) ns) := ho.row
  clear hb B3 ho
  go_wp2_with fail
  go_at_call 25
  refine Calls.mono (cI.out _ _ R4.out) ?_
  rintro e w5 ⟨rfl, hb⟩
  have B5 : Hid (Below w.heap.size w w5) := B4.out.trans (hb.mono B4.out.size)
  have R5 : Hid (NdR.Row w5 w5.heap.size (.slice (some ⟨g2, 0, none⟩) N c2) ns) := (R4.out.keep hb).up hb.size
  clear hb B4 R4 cI
  have hzz : (z != z) = false := by simp
  go_wp2_with fail
  go_at_call 21
  refine Calls.mono (cT.out _ B5.out) ?_
  rintro e w6 ⟨g3, c3, rfl, ho, hb⟩
  have B6 : Hid (Below w.heap.size w w6) := B5.out.trans (hb.mono B5.out.size)
  have R6 : Hid (NdR.Row w6 w6.heap.size (.slice (some ⟨g2, 0, none⟩) N c2) ns ∧ NdR.Row w6 w6.heap.size (.slice (some ⟨g3, 0, none⟩) N c3) ns) := ⟨(R5.out.keep hb).up hb.size, ho.row⟩
  clear hb B5 R5 ho cT
  go_wp2_with fail
  go_at_call 23
  refine Calls.mono (eqNodeS_same w6.heap.size _ _ ns w6 (Nat.le_refl _) R6.out.1 R6.out.2 HL.out) ?_
  rintro e w7 ⟨rfl, hb⟩
  have B7 : Hid (Below w.heap.size w w7) := B6.out.trans (hb.mono B6.out.size)
  clear hb
  go_wp2
  go_ret
  exact ⟨rfl, B7.out⟩

end Go.Proofs.Ytjafneaaefpefaa
