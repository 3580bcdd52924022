/-
  NodeOk in the program, at every place; the law of NodeOk.
-/
import Derived.Test.YtccelfjlffoiiaaImTree4
import Derived.Test.YtccelfjlffoiiaaTree2
import Derived.Test.YtccelfjlffoiiaaRowNode
namespace Go.Proofs.Ytccelfjlffoiiaa
open Go.RowKit

theorem implNodeOk_out (a : Option Addr) (N cap : Nat) (k : Int) (w : World) (h : k < 0 ∨ (N : Int) ≤ k) :
    Calls Try.prog 12 #[.slice a N cap, .int .i64 k] w fun e w' => e = .returned (.bool false) ∧ Below w.heap.size w w' := by
  have cB : Hid (∀ W, Calls Try.prog 40 #[.slice a N cap, .int .i64 k] W fun e w' => e = .returned (.bool false) ∧ w' = W) := fun W => by
    have := isPlace_any a N cap k W
    rw [isIn_off (by omega)] at this
    exact this
  go_enter Try.func12, Try.ntmps12
  go_wp2_with (go_at_call 40; refine Calls.mono (cB.out _) ?_; rintro e w1 ⟨rfl, h⟩; obtain rfl := h.symm)
  go_ret
  exact ⟨rfl, Below.refl _ _⟩

set_option maxRecDepth 100000 in
set_option maxHeartbeats 1600000 in
theorem implNodeOk_none (b off N cap m : Nat) (ns : List Nd) (q : Nd) (w : World) (hR : NdR.Row w w.heap.size (.slice (some ⟨b, off, none⟩) N cap) ns) (hN : Hid (ns.length = N)) (hm : m < N) (hq : Hid (ns[m]'(by rw [hN.out]; exact hm) = q)) (hcl : q.kind < 1 ∨ 20 < q.kind) :
    Calls Try.prog 12 #[.slice (some ⟨b, off, none⟩) N cap, .int .i64 (m : Int)] w fun e w' => e = .returned (.bool false) ∧ Below w.heap.size w w' := by
  have hml : m < ns.length := by rw [hN.out]; exact hm
  obtain ⟨b', off', ka, kc, e, hb, c0, c1, c2, c3, hK0⟩ := RowNd.at hR m hml
  cases e
  rw [hq.out] at c0 c1 c2 c3
  obtain ⟨kd, nm, tx, kids⟩ := q
  simp only at c0 c1 c2 c3 hcl
  obtain ⟨K, HK⟩ : ∃ K, Hid (kids.length = K) := ⟨_, (rfl : kids.length = kids.length)⟩
  rw [HK.out] at c3
  have cP : Hid (∀ W, Calls Try.prog 41 #[.agg #[.int .i64 kd, .int .i64 nm, .string tx, .slice ka K kc]] W fun e w' => e = .returned .nilIface ∧ Below W.heap.size W w') := fun W => partOf_none kd nm tx _ W hcl
  have cB : Hid (∀ W, Calls Try.prog 40 #[.slice (some ⟨b, off, none⟩) N cap, .int .i64 (m : Int)] W fun e w' => e = .returned (.bool true) ∧ w' = W) := fun W => by
    have := isPlace_any (some ⟨b, off, none⟩) N cap (m : Int) W
    rw [show isIn (m : Int) 0 ((N : Int) - 1) = true by simp [isIn]; omega] at this
    exact this
  have hm0 : (0 : Int) ≤ (m : Int) := by omega
  have hm1 : (m : Int) < (N : Int) := by omega
  clear hK0 hR hcl
  go_enter Try.func12, Try.ntmps12
  go_wp2_with (go_at_call 40; refine Calls.mono (cB.out _) ?_; rintro e w1 ⟨rfl, h⟩; obtain rfl := h.symm)
  go_at_call 41
  refine Calls.mono (cP.out _) ?_
  rintro e w1 ⟨rfl, hb1⟩
  clear cP cB c0 c1 c2 c3
  go_wp2
  go_ret
  exact ⟨rfl, hb1⟩

theorem implNodeOk_any (v : Value) (ns : List Nd) (k : Int) (w : World) (hR : NdR.Row w w.heap.size v ns) (hl : szRow szNd ns ≤ 1048576) :
    Calls Try.prog 12 #[v, .int .i64 k] w fun e w' => e = .returned (.bool (nodeOk ns k)) ∧ Below w.heap.size w w' := by
  obtain ⟨a, cap, rfl⟩ := hR.len
  by_cases h : k < 0 ∨ (ns.length : Int) ≤ k
  · have : nodeOk ns k = false := by
      unfold nodeOk
      rw [isIn_off (by omega)]
      rfl
    rw [this]
    exact implNodeOk_out a _ cap k w h
  · obtain ⟨m, rfl⟩ : ∃ m : Nat, k = (m : Int) := ⟨k.toNat, by omega⟩
    have hm : m < ns.length := by omega
    have hlen := len_szRow szNd ns
    obtain ⟨b, off, _, _, rfl, _⟩ := RowNd.at hR m hm
    have hz : szNd ns[m] ≤ 1048576 := Nat.le_trans (mem_szRow szNd (List.getElem_mem hm)) hl
    have hE : nodeOk ns (m : Int) = (headOk ns[m] && kidsTo ns (m : Int) ns[m] ns[m].kids.length) := by
      unfold nodeOk
      have e1 : ns.getD (m : Int).toNat nd0 = ns[m] := by simp [List.getD, hm]
      rw [e1, show isIn (m : Int) 0 ((ns.length : Int) - 1) = true by simp [isIn]; omega, Bool.true_and]
    by_cases h20 : ns[m].kind < 1 ∨ 20 < ns[m].kind
    · have : headOk ns[m] = false := by
        rw [headOk_parts, isIn_off h20]
        rfl
      rw [hE, this, Bool.false_and]
      exact implNodeOk_none b off _ cap m ns ns[m] w hR rfl hm rfl h20
    · rw [hE]
      have hc : (ns[m].kind = 1) ∨ (ns[m].kind = 2 ∨ ns[m].kind = 3 ∨ ns[m].kind = 4 ∨ ns[m].kind = 5 ∨ ns[m].kind = 6) ∨ (ns[m].kind = 7) ∨ (ns[m].kind = 8) ∨ (ns[m].kind = 9 ∨ ns[m].kind = 10 ∨ ns[m].kind = 11) ∨ (ns[m].kind = 12) ∨ (ns[m].kind = 13 ∨ ns[m].kind = 14 ∨ ns[m].kind = 15) ∨ (ns[m].kind = 16) ∨ (ns[m].kind = 17) ∨ (ns[m].kind = 18) ∨ (ns[m].kind = 19) ∨ (ns[m].kind = 20) := by omega
      rcases hc with h | h | h | h | h | h | h | h | h | h | h | h
      · exact implNodeOk_number b off _ cap m ns ns[m] w (by omega) hR rfl hm rfl hz h
      · exact implNodeOk_use b off _ cap m ns ns[m] w (by omega) hR rfl hm rfl hz h
      · exact implNodeOk_input b off _ cap m ns ns[m] w (by omega) hR rfl hm rfl hz h
      · exact implNodeOk_new b off _ cap m ns ns[m] w (by omega) hR rfl hm rfl hz h
      · exact implNodeOk_pair b off _ cap m ns ns[m] w (by omega) hR rfl hm rfl hz h
      · exact implNodeOk_call b off _ cap m ns ns[m] w (by omega) hR rfl hm rfl hz h
      · exact implNodeOk_hold b off _ cap m ns ns[m] w (by omega) hR rfl hm rfl hz h
      · exact implNodeOk_if b off _ cap m ns ns[m] w (by omega) hR rfl hm rfl hz h
      · exact implNodeOk_while b off _ cap m ns ns[m] w (by omega) hR rfl hm rfl hz h
      · exact implNodeOk_print b off _ cap m ns ns[m] w (by omega) hR rfl hm rfl hz h
      · exact implNodeOk_do b off _ cap m ns ns[m] w (by omega) hR rfl hm rfl hz h
      · exact implNodeOk_block b off _ cap m ns ns[m] w (by omega) hR rfl hm rfl hz h

theorem specNodeOk_sz (v : Value) (ns : List Nd) (k : Int) (w : World) (hR : NdR.Row w w.heap.size v ns) (hl : szRow szNd ns ≤ 1048576) :
    Calls Try.prog 10 #[v, .int .i64 k] w fun e w' => e = .returned (.bool (nodeOk ns k)) ∧ Below w.heap.size w w' :=
  specNodeOk_any w.heap.size v ns k w (Nat.le_refl _) hR (Nat.le_trans (len_szRow szNd ns) hl) (fun q hq => ⟨Nat.le_trans (Nat.le_trans (le_szNd_kids q) (mem_szRow szNd hq)) hl, Nat.le_trans (Nat.le_trans (le_szNd_name q) (mem_szRow szNd hq)) hl⟩)

set_option maxRecDepth 100000 in
set_option maxHeartbeats 3200000 in
theorem lawNode (v : Value) (ns : List Nd) (k : Int) (w : World) (hv : NdR.Row w w.heap.size v ns ∧ okRow okNd ns) :
    Calls Try.prog 3 #[v, .int .i64 k] w fun e w' => e = .returned (.bool true) ∧ Below w.heap.size w w' := by
  have cZ : Hid (∀ W, Below w.heap.size w W → Calls Try.prog 9 #[v, .int .i64 1048576] W fun e w' => (∃ r : Int, e = .returned (.int .i64 r) ∧ (r = -1 ∨ (0 ≤ r ∧ r + (szRow szNd ns : Int) = 1048576))) ∧ Below W.heap.size W w') := fun W hW =>
    szNodeS_sum w.heap.size v ns 1048576 W hW.size (hv.1.keep hW) hv.2 (by omega) (by omega)
  have HV : Hid (NdR.Row w w.heap.size v ns) := hv.1
  obtain ⟨va, vc, rfl⟩ := hv.1.len
  obtain ⟨N, HN⟩ : ∃ N, Hid (ns.length = N) := ⟨_, (rfl : ns.length = ns.length)⟩
  rw [HN.out] at cZ HV ⊢
  clear hv
  go_enter Try.func3, Try.ntmps3
  go_wp2_with fail
  go_at_call 9
  refine Calls.mono (cZ.out _ (Below.refl _ _)) ?_
  rintro e w1 ⟨⟨r, rfl, hr⟩, hb1⟩
  have B1 : Hid (Below w.heap.size w w1) := hb1
  clear cZ hb1
  rcases hr with rfl | ⟨hr0, hr1⟩
  · go_wp2
    go_ret
    exact ⟨rfl, B1.out⟩
  have hrn : ¬ r < 0 := by omega
  have HL : Hid (szRow szNd ns ≤ 1048576) := by show _ ≤ _; omega
  have cT : Hid (∀ W, Below w.heap.size w W → Calls Try.prog 11 #[.slice va N vc] W fun e w' => ∃ g cap, e = .returned (.slice (some ⟨g, 0, none⟩) N cap) ∧ NdR.Own w' W.heap.size w'.heap.size (.slice (some ⟨g, 0, none⟩) N cap) ns ∧ Below W.heap.size W w') := fun W hW => by
    have := toNodeS_any w.heap.size _ ns W hW.size (HV.out.keep hW) HL.out
    rw [HN.out] at this
    exact this
  obtain ⟨z, hz⟩ : ∃ z, Hid (nodeOk ns k = z) := ⟨_, (rfl : nodeOk ns k = nodeOk ns k)⟩
  have cS : Hid (∀ W u, NdR.Row W W.heap.size u ns → Calls Try.prog 10 #[u, .int .i64 k] W fun e w' => e = .returned (.bool z) ∧ Below W.heap.size W w') := fun W u h => by
    rw [← hz.out]
    exact specNodeOk_sz u ns k W h HL.out
  have cI : Hid (∀ W u, NdR.Row W W.heap.size u ns → Calls Try.prog 12 #[u, .int .i64 k] W fun e w' => e = .returned (.bool z) ∧ Below W.heap.size W w') := fun W u h => by
    rw [← hz.out]
    exact implNodeOk_any u ns k W h HL.out
  clear hr0 hr1
  go_wp2_with fail
  go_at_call 11
  refine Calls.mono (cT.out _ B1.out) ?_
  rintro e w2 ⟨g, c, rfl, ho, hb⟩
  have B2 : Hid (Below w.heap.size w w2) := B1.out.trans (hb.mono B1.out.size)
  clear hb B1
  go_wp2_with fail
  go_at_call 10
  refine Calls.mono (cS.out _ _ ho.row) ?_
  rintro e w3 ⟨rfl, hb⟩
  have B3 : Hid (Below w.heap.size w w3) := B2.out.trans (hb.mono B2.out.size)
  clear hb B2 ho cS
  go_wp2_with fail
  go_at_call 11
  refine Calls.mono (cT.out _ B3.out) ?_
  rintro e w4 ⟨g2, c2, rfl, ho, hb⟩
  have B4 : Hid (Below w.heap.size w w4) := B3.out.trans (hb.mono B3.out.size)
  have R4 : Hid (NdR.Row w4 w4.heap.size (.slice (some ⟨g2, 0, none⟩) N c2) ns) := ho.row
  clear hb B3 ho
  go_wp2_with fail
  go_at_call 12
  refine Calls.mono (cI.out _ _ R4.out) ?_
  rintro e w5 ⟨rfl, hb⟩
  have B5 : Hid (Below w.heap.size w w5) := B4.out.trans (hb.mono B4.out.size)
  have R5 : Hid (NdR.Row w5 w5.heap.size (.slice (some ⟨g2, 0, none⟩) N c2) ns) := (R4.out.keep hb).up hb.size
  clear hb B4 R4 cI
  have hzz : (z != z) = false := by simp
  go_wp2_with fail
  go_at_call 11
  refine Calls.mono (cT.out _ B5.out) ?_
  rintro e w6 ⟨g3, c3, rfl, ho, hb⟩
  have B6 : Hid (Below w.heap.size w w6) := B5.out.trans (hb.mono B5.out.size)
  have R6 : Hid (NdR.Row w6 w6.heap.size (.slice (some ⟨g2, 0, none⟩) N c2) ns ∧ NdR.Row w6 w6.heap.size (.slice (some ⟨g3, 0, none⟩) N c3) ns) := ⟨(R5.out.keep hb).up hb.size, ho.row⟩
  clear hb B5 R5 ho cT
  go_wp2_with fail
  go_at_call 13
  refine Calls.mono (eqNodeS_same w6.heap.size _ _ ns w6 (Nat.le_refl _) R6.out.1 R6.out.2 HL.out) ?_
  rintro e w7 ⟨rfl, hb⟩
  have B7 : Hid (Below w.heap.size w w7) := B6.out.trans (hb.mono B6.out.size)
  clear hb
  go_wp2
  go_ret
  exact ⟨rfl, B7.out⟩

end Go.Proofs.Ytccelfjlffoiiaa
