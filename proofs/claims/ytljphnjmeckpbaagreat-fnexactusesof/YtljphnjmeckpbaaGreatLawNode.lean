/-
  NodeOk in the program, at every place; the law of NodeOk.
-/
import Derived.Test.YtljphnjmeckpbaaGreatImTree4
import Derived.Test.YtljphnjmeckpbaaGreatTree2
import Derived.Test.YtljphnjmeckpbaaGreatRowNode
namespace Go.Proofs.YtljphnjmeckpbaaGreat
open Go.RowKit

theorem implNodeOk_out (a : Option Addr) (N cap : Nat) (k : Int) (w : World) (h : k < 0 ∨ (N : Int) ≤ k) :
    Calls Tryz.prog 82 #[.slice a N cap, .int .i64 k] w fun e w' => e = .returned (.bool false) ∧ Below w.heap.size w w' := by
  have cB : Hid (∀ W, Calls Tryz.prog 81 #[.slice a N cap, .int .i64 k] W fun e w' => e = .returned (.bool false) ∧ w' = W) := fun W => by
    have := isPlace_any a N cap k W
    rw [isIn_off (by omega)] at this
    exact this
  go_enter Tryz.func82, Tryz.ntmps82
  go_wp2_with (go_at_call 81; refine Calls.mono (cB.out _) ?_; rintro e w1 ⟨rfl, h⟩; obtain rfl := h.symm)
  go_ret
  exact ⟨rfl, Below.refl _ _⟩

set_option maxRecDepth 100000 in
set_option maxHeartbeats 1600000 in
theorem implNodeOk_none (b off N cap m : Nat) (ns : List Nd) (q : Nd) (w : World) (hR : NdR.Row w w.heap.size (.slice (some ⟨b, off, none⟩) N cap) ns) (hN : Hid (ns.length = N)) (hm : m < N) (hq : Hid (ns[m]'(by rw [hN.out]; exact hm) = q)) (hcl : q.kind < 1 ∨ 20 < q.kind) :
    Calls Tryz.prog 82 #[.slice (some ⟨b, off, none⟩) N cap, .int .i64 (m : Int)] w fun e w' => e = .returned (.bool false) ∧ Below w.heap.size w w' := by
  have hml : m < ns.length := by rw [hN.out]; exact hm
  obtain ⟨b', off', ka, kc, e, hb, c0, c1, c2, c3, hK0⟩ := RowNd.at hR m hml
  cases e
  rw [hq.out] at c0 c1 c2 c3
  obtain ⟨kd, nm, tx, kids⟩ := q
  simp only at c0 c1 c2 c3 hcl
  obtain ⟨K, HK⟩ : ∃ K, Hid (kids.length = K) := ⟨_, (rfl : kids.length = kids.length)⟩
  rw [HK.out] at c3
  have cP : Hid (∀ W, Calls Tryz.prog 113 #[.agg #[.int .i64 kd, .int .i64 nm, .string tx, .slice ka K kc]] W fun e w' => e = .returned .nilIface ∧ Below W.heap.size W w') := fun W => partOf_none kd nm tx _ W hcl
  have cB : Hid (∀ W, Calls Tryz.prog 81 #[.slice (some ⟨b, off, none⟩) N cap, .int .i64 (m : Int)] W fun e w' => e = .returned (.bool true) ∧ w' = W) := fun W => by
    have := isPlace_any (some ⟨b, off, none⟩) N cap (m : Int) W
    rw [show isIn (m : Int) 0 ((N : Int) - 1) = true by simp [isIn]; omega] at this
    exact this
  have hm0 : (0 : Int) ≤ (m : Int) := by omega
  have hm1 : (m : Int) < (N : Int) := by omega
  clear hK0 hR hcl
  go_enter Tryz.func82, Tryz.ntmps82
  go_wp2_with (go_at_call 81; refine Calls.mono (cB.out _) ?_; rintro e w1 ⟨rfl, h⟩; obtain rfl := h.symm)
  go_at_call 113
  refine Calls.mono (cP.out _) ?_
  rintro e w1 ⟨rfl, hb1⟩
  clear cP cB c0 c1 c2 c3
  go_wp2
  go_ret
  exact ⟨rfl, hb1⟩

theorem implNodeOk_any (v : Value) (ns : List Nd) (k : Int) (w : World) (hR : NdR.Row w w.heap.size v ns) (hl : szRow szNd ns ≤ 1048576) :
    Calls Tryz.prog 82 #[v, .int .i64 k] w fun e w' => e = .returned (.bool (nodeOk ns k)) ∧ Below w.heap.size w w' := by
  obtain ⟨a, cap, rfl⟩ := hR.len
  by_cases h : k < 0 ∨ (ns.length : Int) ≤ k
  · have : nodeOk ns k = false := by
      unfold nodeOk
      rw [isIn_off (by omega)]
      rfl
    rw [this]
    exact implNodeOk_out a _ cap k w h
  · obtain ⟨m, rfl⟩ : ∃ m : Nat, k = (m : Int) := ⟨k.toNat, by omega⟩
    have hm : m < ns.length := by omega
    have hlen := len_szRow szNd ns
    obtain ⟨b, off, _, _, rfl, _⟩ := RowNd.at hR m hm
    have hz : szNd ns[m] ≤ 1048576 := Nat.le_trans (mem_szRow szNd (List.getElem_mem hm)) hl
    have hE : nodeOk ns (m : Int) = (headOk ns[m] && kidsTo ns (m : Int) ns[m] ns[m].kids.length) := by
      unfold nodeOk
      have e1 : ns.getD (m : Int).toNat nd0 = ns[m] := by simp [List.getD, hm]
      rw [e1, show isIn (m : Int) 0 ((ns.length : Int) - 1) = true by simp [isIn]; omega, Bool.true_and]
    by_cases h20 : ns[m].kind < 1 ∨ 20 < ns[m].kind
    · have : headOk ns[m] = false := by
        rw [headOk_parts, isIn_off h20]
        rfl
      rw [hE, this, Bool.false_and]
      exact implNodeOk_none b off _ cap m ns ns[m] w hR rfl hm rfl h20
    · rw [hE]
      have hc : (ns[m].kind = 1) ∨ (ns[m].kind = 2 ∨ ns[m].kind = 3 ∨ ns[m].kind = 4 ∨ ns[m].kind = 5 ∨ ns[m].kind = 6) ∨ (ns[m].kind = 7) ∨ (ns[m].kind = 8) ∨ (ns[m].kind = 9 ∨ ns[m].kind = 10 ∨ ns[m].kind = 11) ∨ (ns[m].kind = 12) ∨ (ns[m].kind = 13 ∨ ns[m].kind = 14 ∨ ns[m].kind = 15) ∨ (ns[m].kind = 16) ∨ (ns[m].kind = 17) ∨ (ns[m].kind = 18) ∨ (ns[m].kind = 19) ∨ (ns[m].kind = 20) := by omega
      rcases hc with h | h | h | h | h | h | h | h | h | h | h | h
      · exact implNodeOk_number b off _ cap m ns ns[m] w (by omega) hR rfl hm rfl hz h
      · exact implNodeOk_use b off _ cap m ns ns[m] w (by omega) hR rfl hm rfl hz h
      · exact implNodeOk_input b off _ cap m ns ns[m] w (by omega) hR rfl hm rfl hz h
      · exact implNodeOk_new b off _ cap m ns ns[m] w (by omega) hR rfl hm rfl hz h
      · exact implNodeOk_pair b off _ cap m ns ns[m] w (by omega) hR rfl hm rfl hz h
      · exact implNodeOk_call b off _ cap m ns ns[m] w (by omega) hR rfl hm rfl hz h
      · exact implNodeOk_hold b off _ cap m ns ns[m] w (by omega) hR rfl hm rfl hz h
      · exact implNodeOk_if b off _ cap m ns ns[m] w (by omega) hR rfl hm rfl hz h
      · exact implNodeOk_while b off _ cap m ns ns[m] w (by omega) hR rfl hm rfl hz h
      · exact implNodeOk_print b off _ cap m ns ns[m] w (by omega) hR rfl hm rfl hz h
      · exact implNodeOk_do b off _ cap m ns ns[m] w (by omega) hR rfl hm rfl hz h
      · exact implNodeOk_block b off _ cap m ns ns[m] w (by omega) hR rfl hm rfl hz h

theorem specNodeOk_sz (v : Value) (ns : List Nd) (k : Int) (w : World) (hR : NdR.Row w w.heap.size v ns) (hl : szRow szNd ns ≤ 1048576) :
    Calls Tryz.prog 74 #[v, .int .i64 k] w fun e w' => e = .returned (.bool (nodeOk ns k)) ∧ Below w.heap.size w w' :=
  specNodeOk_any w.heap.size v ns k w (Nat.le_refl _) hR (Nat.le_trans (len_szRow szNd ns) hl) (fun q hq => ⟨Nat.le_trans (Nat.le_trans (le_szNd_kids q) (mem_szRow szNd hq)) hl, Nat.le_trans (Nat.le_trans (le_szNd_name q) (mem_szRow szNd hq)) hl⟩)

end Go.Proofs.YtljphnjmeckpbaaGreat
