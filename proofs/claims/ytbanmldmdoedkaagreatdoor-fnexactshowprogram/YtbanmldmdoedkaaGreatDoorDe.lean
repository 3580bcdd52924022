/-
  NodeOk in the program, at every place; the law of NodeOk.
  DeepOf, in the model: what it answers at every row of nodes and every place.
  DeepOf, in the model and in the program: what it answers at every row of nodes and every place.
  Under, in the model: nodes marked with all below them.
  Rows of nodes copied, in the model.
-/
import Derived.Test.YtbanmldmdoedkaaGreatDoorImTree4
import Derived.Test.YtbanmldmdoedkaaGreatDoorTr
import Derived.Test.YtbanmldmdoedkaaGreatDoorRa
import Derived.Test.YtbanmldmdoedkaaGreatDoorPa
import Derived.RegionTactic
import Derived.BigRegion
import Derived.Test.YtbanmldmdoedkaaGreatDoorKa
import Derived.Test.YtbanmldmdoedkaaGreatDoorMk
namespace Go.Proofs.YtbanmldmdoedkaaGreatDoor
open Go.RowKit

theorem implNodeOk_out (a : Option Addr) (N cap : Nat) (k : Int) (w : World) (h : k < 0 ∨ (N : Int) ≤ k) :
    Calls Tryz.prog 94 #[.slice a N cap, .int .i64 k] w fun e w' => e = .returned (.bool false) ∧ Below w.heap.size w w' := by
  have cB : Hid (∀ W, Calls Tryz.prog 93 #[.slice a N cap, .int .i64 k] W fun e w' => e = .returned (.bool false) ∧ w' = W) := fun W => by
    have := isPlace_any a N cap k W
    rw [isIn_off (by omega)] at this
    exact this
  go_enter Tryz.func94, Tryz.ntmps94
  go_wp2_with (go_at_call 93; refine Calls.mono (cB.out _) ?_; rintro e w1 ⟨rfl, h⟩; obtain rfl := h.symm)
  go_ret
  exact ⟨rfl, Below.refl _ _⟩

set_option maxRecDepth 100000 in
set_option maxHeartbeats 1600000 in
theorem implNodeOk_none (b off N cap m : Nat) (ns : List Nd) (q : Nd) (w : World) (hR : NdR.Row w w.heap.size (.slice (some ⟨b, off, none⟩) N cap) ns) (hN : Hid (ns.length = N)) (hm : m < N) (hq : Hid (ns[m]'(by rw [hN.out]; exact hm) = q)) (hcl : q.kind < 1 ∨ 20 < q.kind) :
    Calls Tryz.prog 94 #[.slice (some ⟨b, off, none⟩) N cap, .int .i64 (m : Int)] w fun e w' => e = .returned (.bool false) ∧ Below w.heap.size w w' := by
  have hml : m < ns.length := by rw [hN.out]; exact hm
  obtain ⟨b', off', ka, kc, e, hb, c0, c1, c2, c3, hK0⟩ := RowNd.at hR m hml
  cases e
  rw [hq.out] at c0 c1 c2 c3
  obtain ⟨kd, nm, tx, kids⟩ := q
  simp only at c0 c1 c2 c3 hcl
  obtain ⟨K, HK⟩ : ∃ K, Hid (kids.length = K) := ⟨_, (rfl : kids.length = kids.length)⟩
  rw [HK.out] at c3
  have cP : Hid (∀ W, Calls Tryz.prog 143 #[.agg #[.int .i64 kd, .int .i64 nm, .string tx, .slice ka K kc]] W fun e w' => e = .returned .nilIface ∧ Below W.heap.size W w') := fun W => partOf_none kd nm tx _ W hcl
  have cB : Hid (∀ W, Calls Tryz.prog 93 #[.slice (some ⟨b, off, none⟩) N cap, .int .i64 (m : Int)] W fun e w' => e = .returned (.bool true) ∧ w' = W) := fun W => by
    have := isPlace_any (some ⟨b, off, none⟩) N cap (m : Int) W
    rw [show isIn (m : Int) 0 ((N : Int) - 1) = true by simp [isIn]; omega] at this
    exact this
  have hm0 : (0 : Int) ≤ (m : Int) := by omega
  have hm1 : (m : Int) < (N : Int) := by omega
  clear hK0 hR hcl
  go_enter Tryz.func94, Tryz.ntmps94
  go_wp2_with (go_at_call 93; refine Calls.mono (cB.out _) ?_; rintro e w1 ⟨rfl, h⟩; obtain rfl := h.symm)
  go_at_call 143
  refine Calls.mono (cP.out _) ?_
  rintro e w1 ⟨rfl, hb1⟩
  clear cP cB c0 c1 c2 c3
  go_wp2
  go_ret
  exact ⟨rfl, hb1⟩

theorem implNodeOk_any (v : Value) (ns : List Nd) (k : Int) (w : World) (hR : NdR.Row w w.heap.size v ns) (hl : szRow szNd ns ≤ 1048576) :
    Calls Tryz.prog 94 #[v, .int .i64 k] w fun e w' => e = .returned (.bool (nodeOk ns k)) ∧ Below w.heap.size w w' := by
  obtain ⟨a, cap, rfl⟩ := hR.len
  by_cases h : k < 0 ∨ (ns.length : Int) ≤ k
  · have : nodeOk ns k = false := by
      unfold nodeOk
      rw [isIn_off (by omega)]
      rfl
    rw [this]
    exact implNodeOk_out a _ cap k w h
  · obtain ⟨m, rfl⟩ : ∃ m : Nat, k = (m : Int) := ⟨k.toNat, by omega⟩
    have hm : m < ns.length := by omega
    have hlen := len_szRow szNd ns
    obtain ⟨b, off, _, _, rfl, _⟩ := RowNd.at hR m hm
    have hz : szNd ns[m] ≤ 1048576 := Nat.le_trans (mem_szRow szNd (List.getElem_mem hm)) hl
    have hE : nodeOk ns (m : Int) = (headOk ns[m] && kidsTo ns (m : Int) ns[m] ns[m].kids.length) := by
      unfold nodeOk
      have e1 : ns.getD (m : Int).toNat nd0 = ns[m] := by simp [List.getD, hm]
      rw [e1, show isIn (m : Int) 0 ((ns.length : Int) - 1) = true by simp [isIn]; omega, Bool.true_and]
    by_cases h20 : ns[m].kind < 1 ∨ 20 < ns[m].kind
    · have : headOk ns[m] = false := by
        rw [headOk_parts, isIn_off h20]
        rfl
      rw [hE, this, Bool.false_and]
      exact implNodeOk_none b off _ cap m ns ns[m] w hR rfl hm rfl h20
    · rw [hE]
      have hc : (ns[m].kind = 1) ∨ (ns[m].kind = 2 ∨ ns[m].kind = 3 ∨ ns[m].kind = 4 ∨ ns[m].kind = 5 ∨ ns[m].kind = 6) ∨ (ns[m].kind = 7) ∨ (ns[m].kind = 8) ∨ (ns[m].kind = 9 ∨ ns[m].kind = 10 ∨ ns[m].kind = 11) ∨ (ns[m].kind = 12) ∨ (ns[m].kind = 13 ∨ ns[m].kind = 14 ∨ ns[m].kind = 15) ∨ (ns[m].kind = 16) ∨ (ns[m].kind = 17) ∨ (ns[m].kind = 18) ∨ (ns[m].kind = 19) ∨ (ns[m].kind = 20) := by omega
      rcases hc with h | h | h | h | h | h | h | h | h | h | h | h
      · exact implNodeOk_number b off _ cap m ns ns[m] w (by omega) hR rfl hm rfl hz h
      · exact implNodeOk_use b off _ cap m ns ns[m] w (by omega) hR rfl hm rfl hz h
      · exact implNodeOk_input b off _ cap m ns ns[m] w (by omega) hR rfl hm rfl hz h
      · exact implNodeOk_new b off _ cap m ns ns[m] w (by omega) hR rfl hm rfl hz h
      · exact implNodeOk_pair b off _ cap m ns ns[m] w (by omega) hR rfl hm rfl hz h
      · exact implNodeOk_call b off _ cap m ns ns[m] w (by omega) hR rfl hm rfl hz h
      · exact implNodeOk_hold b off _ cap m ns ns[m] w (by omega) hR rfl hm rfl hz h
      · exact implNodeOk_if b off _ cap m ns ns[m] w (by omega) hR rfl hm rfl hz h
      · exact implNodeOk_while b off _ cap m ns ns[m] w (by omega) hR rfl hm rfl hz h
      · exact implNodeOk_print b off _ cap m ns ns[m] w (by omega) hR rfl hm rfl hz h
      · exact implNodeOk_do b off _ cap m ns ns[m] w (by omega) hR rfl hm rfl hz h
      · exact implNodeOk_block b off _ cap m ns ns[m] w (by omega) hR rfl hm rfl hz h

theorem specNodeOk_sz (v : Value) (ns : List Nd) (k : Int) (w : World) (hR : NdR.Row w w.heap.size v ns) (hl : szRow szNd ns ≤ 1048576) :
    Calls Tryz.prog 109 #[v, .int .i64 k] w fun e w' => e = .returned (.bool (nodeOk ns k)) ∧ Below w.heap.size w w' :=
  specNodeOk_any w.heap.size v ns k w (Nat.le_refl _) hR (Nat.le_trans (len_szRow szNd ns) hl) (fun q hq => ⟨Nat.le_trans (Nat.le_trans (le_szNd_kids q) (mem_szRow szNd hq)) hl, Nat.le_trans (Nat.le_trans (le_szNd_name q) (mem_szRow szNd hq)) hl⟩)

end Go.Proofs.YtbanmldmdoedkaaGreatDoor

namespace Go.Proofs.YtbanmldmdoedkaaGreatDoor
open Go.RowKit

theorem RowI.le {w : World} {B : Nat} {v : Value} {xs : List Int} (h : OwnsI w B v xs) : ∃ a cap, v = .slice a xs.length cap ∧ (0 < xs.length → ∃ g, a = some ⟨g, 0, none⟩) := by
  rcases OwnsR.form h with ⟨rfl, rfl⟩ | ⟨g, cap, rfl, _, _⟩
  · exact ⟨none, 0, rfl, fun h => by simp at h⟩
  · exact ⟨some ⟨g, 0, none⟩, cap, rfl, fun _ => ⟨g, rfl⟩⟩
theorem getD_in {xs : List Int} {i : Nat} (h : i < xs.length) : xs.getD i 0 = xs[i] := by simp [List.getD, h]

theorem owns_empty (w : World) : Hid (OwnsI (w.alloc (.cells #[] 3)) w.heap.size (.slice (some ⟨w.heap.size, 0, none⟩) 0 0) []) := by
  show OwnsI _ _ _ _
  exact ⟨rfl, .inr ⟨w.heap.size, 0, #[], rfl, Nat.le_refl _, heap_alloc_new _ _, Nat.le_refl _, Nat.zero_le _, rfl, rfl⟩⟩

set_option maxRecDepth 100000 in
set_option maxHeartbeats 6400000 in
theorem l04Deeps_any (va : Option Addr) (N cap m : Nat) (ns : List Nd) (w : World) (hm : m < N) (hR : NdR.Row w w.heap.size (.slice va N cap) ns) (hN : Hid (ns.length = N)) (hl : szRow szNd ns ≤ 1048576) :
    Calls Tryz.prog 64 #[.slice va N cap, .int .i64 (m : Int)] w fun e w' => (∃ v, e = .returned v ∧ OwnsI w' w.heap.size v (deeps ns (m + 1))) ∧ Below w.heap.size w w' := by
  have hNl : N ≤ 1048576 := by have := len_szRow szNd ns; have := hN.out; omega
  have HR : Hid (NdR.Row w w.heap.size (.slice va N cap) ns) := hR
  have HL : Hid (szRow szNd ns ≤ 1048576) := hl
  clear hR hl
  go_enter Tryz.func64, Tryz.ntmps64
  go_wp2
  go_loopw [5, 6] (fun o i wr => ∃ t : Nat, t ≤ m + 1 ∧ i = .int .i64 (t : Int) ∧ Hid (OwnsI wr w.heap.size o (deeps ns t)) ∧ Below w.heap.size w wr) (fun _ i _ => m + 1 - (intOf i).toNat)
  case atStart => exact ⟨0, Nat.zero_le _, rfl, owns_empty w, by go_grown⟩
  case round =>
    obtain ⟨t, ht, rfl, HO, hbw⟩ := hrel
    obtain ⟨oa, oc, hu5, hg⟩ := RowI.le HO.out
    rw [deeps_len] at hu5 hg
    subst hu5
    by_cases hlt : t < m + 1
    · have ht1 : (t : Int) ≤ (m : Int) := by omega
      have ht2 : (t : Int) < (N : Int) := by omega
      have ht0 : (0 : Int) ≤ (t : Int) := by omega
      have htl : t < ns.length := by rw [hN.out]; omega
      obtain ⟨ok, hok⟩ : ∃ r, Hid (nodeOk ns (t : Int) = r) := ⟨_, (rfl : nodeOk ns (t : Int) = nodeOk ns (t : Int))⟩
      have cN : Hid (∀ W, Below w.heap.size w W → Calls Tryz.prog 109 #[.slice va N cap, .int .i64 (t : Int)] W fun e w' => e = .returned (.bool ok) ∧ Below W.heap.size W w') := fun W hW => by
        rw [← hok.out]
        exact specNodeOk_sz _ ns _ W ((HR.out.keep hW).up hW.size) HL.out
      have hlen : (deeps ns t).length ≤ 10000000 := by rw [deeps_len]; omega
      go_wp2_with fail
      go_at_call 109
      refine Calls.mono (cN.out _ hbw) ?_
      rintro e w1 ⟨rfl, hb1⟩
      have hown : OwnsI w1 w.heap.size (.slice oa t oc) (deeps ns t) := OwnsR.below HO.out hb1
      have hBw1 : Below w.heap.size w w1 := hbw.trans (hb1.mono hbw.size)
      have hsz := hBw1.size
      clear cN hb1 HO
      cases ok
      · have HD : Hid (deepNext ns (deeps ns t) t = 0) := by show _ = _; unfold deepNext goOn; rw [hok.out]; rfl
        go_wp2
        refine wp_loop_rounds 1 ?_
        rw [rounds_succ]
        go_wp2_with (at_builtin; go_must (refine appendR inC_len rfl _ _ 85 rfl w.heap.size 3 _ 8 Tryz.underlying85 Tryz.infoInt rfl (by decide) hown 0 (inC_ones _) rfl (by first | rfl | (simp [Act.eval]; done)) hlen (by omega) hsz ?_); intro v4 w4 hown4 hb4 hs4 hg4)
        have HO4 : Hid (OwnsI w4 w.heap.size v4 (deeps ns (t + 1))) := by
          show OwnsI _ _ _ _
          rw [deeps, HD.out]
          exact hown4
        have HB4 : Hid (Below w.heap.size w w4) := hb4 w hBw1
        clear hown4 hb4 hs4 hg4 hown hBw1
        go_wp2
        go_roundw
        case rel => exact ⟨t + 1, by omega, by go_num, HO4, HB4.out⟩
        case measure => simp [intOf]; omega
      rcases Nat.eq_zero_or_pos t with htz | htz
      · have HG : Hid (goOn ns (deeps ns t) t = true) := by show _ = _; unfold goOn; rw [hok.out]; simp [htz]
        have hnp : ¬ (0 : Int) < (t : Int) := by omega
        clear htz
        obtain ⟨b, off, ka, kc, rfl, hb, _, _, _, c3, hK⟩ := RowNd.at HR.out (t) htl
        obtain ⟨ks, hks⟩ : ∃ ks, Hid (ns[t].kids = ks) := ⟨_, (rfl : ns[t].kids = ns[t].kids)⟩
        rw [hks.out] at c3 hK
        have HKS : Hid ((ns.getD (t) nd0).kids = ks) := by show _ = _; rw [← hks.out]; simp [List.getD, htl]
        obtain ⟨K, HK⟩ : ∃ K, Hid (ks.length = K) := ⟨_, (rfl : ks.length = ks.length)⟩
        rw [HK.out] at c3 hK
        have HI : Hid (RowI w w.heap.size (.slice ka K kc) ks) := hK
        have hKl : K ≤ 1048576 := by
          have h1 := Nat.le_trans (Nat.le_trans (le_szNd_kids ns[t]) (mem_szRow szNd (List.getElem_mem htl))) HL.out
          rw [hks.out, HK.out] at h1
          exact h1
        have d3 := (hBw1.cell (p := ⟨b, off + (t) * 4 + 3, none⟩) hb).trans c3
        have HW : Hid (OwnsI w1 w.heap.size (.slice oa (t) oc) (deeps ns (t)) ∧ Below w.heap.size w w1) := ⟨hown, hBw1⟩
        clear c3 hK hown hBw1
        go_wp2_with fail
        go_loop [7, 8] (fun d j => ∃ (s : Nat) (D : Int), s ≤ K ∧ j = .int .i64 (s : Int) ∧ d = .int .i64 D ∧ 0 < D ∧ D ≤ 11 ∧ Hid (D = mxTo (deeps ns (t)) ks s + 1)) (fun _ j => K - (intOf j).toNat)
        case atStart => exact ⟨0, 1, Nat.zero_le _, rfl, rfl, by omega, by omega, rfl⟩
        case round =>
          obtain ⟨s, D, hs, rfl, rfl, hD0, hD1, HDm⟩ := hrel
          by_cases hsl : s < K
          · have hs0 : (0 : Int) ≤ (s : Int) := by omega
            have hs1 : (s : Int) < (K : Int) := by omega
            have hskl : s < ks.length := by have := HK.out; omega
            obtain ⟨kb, ko, rfl, hkb, e0⟩ := HI.out.at s hskl
            obtain ⟨c, hc⟩ : ∃ c, Hid (ks[s] = c) := ⟨_, (rfl : ks[s] = ks[s])⟩
            have f0 := (HW.out.2.cell (p := ⟨kb, ko + s, none⟩) hkb).trans e0
            rw [hc.out] at f0
            have hgd : Hid (ks.getD s 0 = c) := by show _ = _; rw [← hc.out]; simp [List.getD, hskl]
            have hcb : 0 ≤ c ∧ c < ((t : Nat) : Int) := by
              have := kid_lt hok.out (j := s) (by rw [HKS.out]; exact hskl)
              rw [HKS.out, hgd.out] at this
              exact this
            exfalso; omega
          · have HsK : Hid (s = K) := (by omega : s = K)
            have HDf : Hid (deepNext ns (deeps ns (t)) (t) = if 10 < D then 0 else D) := by
              show _ = _
              unfold deepNext
              rw [if_pos HG.out, HKS.out, HK.out, ← HsK.out, ← HDm.out]
            obtain ⟨hown, hBw1⟩ := HW.out
            by_cases hd10 : 10 < D
            · have HD : Hid (deepNext ns (deeps ns (t)) (t) = 0) := by show _ = _; rw [HDf.out, if_pos hd10]
              clear HDf
              go_wp2_with (at_builtin; go_must (refine appendR inC_len rfl _ _ 85 rfl w.heap.size 3 _ 8 Tryz.underlying85 Tryz.infoInt rfl (by decide) hown 0 (inC_ones _) rfl (by first | rfl | (simp [Act.eval]; done)) hlen (by omega) hsz ?_); intro v4 w4 hown4 hb4 hs4 hg4)
              have HO4 : Hid (OwnsI w4 w.heap.size v4 (deeps ns (t + 1))) := by
                show OwnsI _ _ _ _
                rw [deeps, HD.out]
                exact hown4
              have HB4 : Hid (Below w.heap.size w w4) := hb4 w hBw1
              clear hown4 hb4 hs4 hg4 hown hBw1
              go_wp2
              go_roundw
              case rel => exact ⟨t + 1, by omega, by go_num, HO4, HB4.out⟩
              case measure => simp [intOf]; omega
            · have HD : Hid (deepNext ns (deeps ns (t)) (t) = D) := by show _ = _; rw [HDf.out, if_neg hd10]
              clear HDf
              go_wp2_with (at_builtin; go_must (refine appendR inC_len rfl _ _ 85 rfl w.heap.size 3 _ 8 Tryz.underlying85 Tryz.infoInt rfl (by decide) hown D (inC_ones _) rfl (by first | rfl | (simp [Act.eval]; done)) hlen (by omega) hsz ?_); intro v4 w4 hown4 hb4 hs4 hg4)
              have HO4 : Hid (OwnsI w4 w.heap.size v4 (deeps ns (t + 1))) := by
                show OwnsI _ _ _ _
                rw [deeps, HD.out]
                exact hown4
              have HB4 : Hid (Below w.heap.size w w4) := hb4 w hBw1
              clear hown4 hb4 hs4 hg4 hown hBw1
              go_wp2
              go_roundw
              case rel => exact ⟨t + 1, by omega, by go_num, HO4, HB4.out⟩
              case measure => simp [intOf]; omega
      obtain ⟨tp, rfl⟩ : ∃ tp : Nat, t = tp + 1 := ⟨t - 1, by omega⟩
      obtain ⟨og, rfl⟩ := hg (by omega)
      obtain ⟨pv, hpv⟩ : ∃ p, Hid ((deeps ns (tp + 1)).getD tp 0 = p) := ⟨_, (rfl : (deeps ns (tp + 1)).getD tp 0 = (deeps ns (tp + 1)).getD tp 0)⟩
      have p0 : w1.cell? ⟨og, tp, none⟩ = some (.int .i64 pv) := by
        have := OwnsR.cell inC_len hown (deeps_len ns (tp + 1)).symm tp 0 (by rw [deeps_len]; omega) (by omega)
        rw [← hpv.out, getD_in (by rw [deeps_len]; omega)]
        simpa [inC] using this
      by_cases hp0 : pv = 0
      · have HD : Hid (deepNext ns (deeps ns (tp + 1)) (tp + 1) = 0) := by
          show _ = _
          unfold deepNext goOn
          rw [hok.out, Nat.add_sub_cancel, hpv.out, hp0]
          simp
        subst hp0
        go_wp2
        refine wp_loop_rounds 1 ?_
        rw [rounds_succ]
        go_wp2_with (at_builtin; go_must (refine appendR inC_len rfl _ _ 85 rfl w.heap.size 3 _ 8 Tryz.underlying85 Tryz.infoInt rfl (by decide) hown 0 (inC_ones _) rfl (by first | rfl | (simp [Act.eval]; done)) hlen (by omega) hsz ?_); intro v4 w4 hown4 hb4 hs4 hg4)
        have HO4 : Hid (OwnsI w4 w.heap.size v4 (deeps ns ((tp + 1) + 1))) := by
          show OwnsI _ _ _ _
          rw [deeps, HD.out]
          exact hown4
        have HB4 : Hid (Below w.heap.size w w4) := hb4 w hBw1
        clear hown4 hb4 hs4 hg4 hown hBw1
        go_wp2
        go_roundw
        case rel => exact ⟨(tp + 1) + 1, by omega, by go_num, HO4, HB4.out⟩
        case measure => simp [intOf]; omega
      have HG : Hid (goOn ns (deeps ns (tp + 1)) (tp + 1) = true) := by
        show _ = _
        unfold goOn
        rw [hok.out, Nat.add_sub_cancel, hpv.out]
        simp [hp0]
      have hpb : (pv == 0) = false := by simpa using hp0
      clear hp0
      obtain ⟨b, off, ka, kc, rfl, hb, _, _, _, c3, hK⟩ := RowNd.at HR.out (tp + 1) htl
      obtain ⟨ks, hks⟩ : ∃ ks, Hid (ns[tp + 1].kids = ks) := ⟨_, (rfl : ns[tp + 1].kids = ns[tp + 1].kids)⟩
      rw [hks.out] at c3 hK
      have HKS : Hid ((ns.getD (tp + 1) nd0).kids = ks) := by show _ = _; rw [← hks.out]; simp [List.getD, htl]
      obtain ⟨K, HK⟩ : ∃ K, Hid (ks.length = K) := ⟨_, (rfl : ks.length = ks.length)⟩
      rw [HK.out] at c3 hK
      have HI : Hid (RowI w w.heap.size (.slice ka K kc) ks) := hK
      have hKl : K ≤ 1048576 := by
        have h1 := Nat.le_trans (Nat.le_trans (le_szNd_kids ns[tp + 1]) (mem_szRow szNd (List.getElem_mem htl))) HL.out
        rw [hks.out, HK.out] at h1
        exact h1
      have d3 := (hBw1.cell (p := ⟨b, off + (tp + 1) * 4 + 3, none⟩) hb).trans c3
      have HW : Hid (OwnsI w1 w.heap.size (.slice (some ⟨og, 0, none⟩) (tp + 1) oc) (deeps ns (tp + 1)) ∧ Below w.heap.size w w1) := ⟨hown, hBw1⟩
      clear c3 hK hown hBw1
      go_wp2_with fail
      go_loop [7, 8] (fun d j => ∃ (s : Nat) (D : Int), s ≤ K ∧ j = .int .i64 (s : Int) ∧ d = .int .i64 D ∧ 0 < D ∧ D ≤ 11 ∧ Hid (D = mxTo (deeps ns (tp + 1)) ks s + 1)) (fun _ j => K - (intOf j).toNat)
      case atStart => exact ⟨0, 1, Nat.zero_le _, rfl, rfl, by omega, by omega, rfl⟩
      case round =>
        obtain ⟨s, D, hs, rfl, rfl, hD0, hD1, HDm⟩ := hrel
        by_cases hsl : s < K
        · have hs0 : (0 : Int) ≤ (s : Int) := by omega
          have hs1 : (s : Int) < (K : Int) := by omega
          have hskl : s < ks.length := by have := HK.out; omega
          obtain ⟨kb, ko, rfl, hkb, e0⟩ := HI.out.at s hskl
          obtain ⟨c, hc⟩ : ∃ c, Hid (ks[s] = c) := ⟨_, (rfl : ks[s] = ks[s])⟩
          have f0 := (HW.out.2.cell (p := ⟨kb, ko + s, none⟩) hkb).trans e0
          rw [hc.out] at f0
          have hgd : Hid (ks.getD s 0 = c) := by show _ = _; rw [← hc.out]; simp [List.getD, hskl]
          have hcb : 0 ≤ c ∧ c < ((tp + 1 : Nat) : Int) := by
            have := kid_lt hok.out (j := s) (by rw [HKS.out]; exact hskl)
            rw [HKS.out, hgd.out] at this
            exact this
          obtain ⟨cn, rfl⟩ : ∃ cn : Nat, c = (cn : Int) := ⟨c.toNat, by omega⟩
          have hc0 : (0 : Int) ≤ (cn : Int) := by omega
          have hc1 : (cn : Int) < ((tp + 1 : Nat) : Int) := hcb.2
          obtain ⟨x, hx⟩ : ∃ x, Hid ((deeps ns (tp + 1)).getD cn 0 = x) := ⟨_, (rfl : (deeps ns (tp + 1)).getD cn 0 = (deeps ns (tp + 1)).getD cn 0)⟩
          have g0 : w1.cell? ⟨og, cn, none⟩ = some (.int .i64 x) := by
            have := OwnsR.cell inC_len HW.out.1 (deeps_len ns (tp + 1)).symm cn 0 (by rw [deeps_len]; omega) (by omega)
            rw [← hx.out, getD_in (by rw [deeps_len]; omega)]
            simpa [inC] using this
          have hxb := deeps_bound ns (tp + 1) cn
          rw [hx.out] at hxb
          have HM : Hid (mxTo (deeps ns (tp + 1)) ks (s + 1) = max (mxTo (deeps ns (tp + 1)) ks s) x) := by show _ = _; rw [mxTo, hgd.out]; simp only [Int.toNat_natCast]; rw [hx.out]
          clear e0 hcb
          by_cases hxd : D < x + 1
          · have HN : Hid (x + 1 = mxTo (deeps ns (tp + 1)) ks (s + 1) + 1) := by show _ = _; rw [HM.out]; have := HDm.out; omega
            go_wp2
            go_round
            case rel => exact ⟨s + 1, x + 1, by omega, by go_num, rfl, by omega, by omega, HN⟩
            case measure => simp [intOf]; omega
          · have HN : Hid (D = mxTo (deeps ns (tp + 1)) ks (s + 1) + 1) := by show _ = _; rw [HM.out]; have := HDm.out; omega
            go_wp2
            go_round
            case rel => exact ⟨s + 1, D, by omega, by go_num, rfl, hD0, hD1, HN⟩
            case measure => simp [intOf]; omega

        · have HsK : Hid (s = K) := (by omega : s = K)
          have HDf : Hid (deepNext ns (deeps ns (tp + 1)) (tp + 1) = if 10 < D then 0 else D) := by
            show _ = _
            unfold deepNext
            rw [if_pos HG.out, HKS.out, HK.out, ← HsK.out, ← HDm.out]
          obtain ⟨hown, hBw1⟩ := HW.out
          by_cases hd10 : 10 < D
          · have HD : Hid (deepNext ns (deeps ns (tp + 1)) (tp + 1) = 0) := by show _ = _; rw [HDf.out, if_pos hd10]
            clear HDf
            go_wp2_with (at_builtin; go_must (refine appendR inC_len rfl _ _ 85 rfl w.heap.size 3 _ 8 Tryz.underlying85 Tryz.infoInt rfl (by decide) hown 0 (inC_ones _) rfl (by first | rfl | (simp [Act.eval]; done)) hlen (by omega) hsz ?_); intro v4 w4 hown4 hb4 hs4 hg4)
            have HO4 : Hid (OwnsI w4 w.heap.size v4 (deeps ns (tp + 1 + 1))) := by
              show OwnsI _ _ _ _
              rw [deeps, HD.out]
              exact hown4
            have HB4 : Hid (Below w.heap.size w w4) := hb4 w hBw1
            clear hown4 hb4 hs4 hg4 hown hBw1
            go_wp2
            go_roundw
            case rel => exact ⟨tp + 1 + 1, by omega, by go_num, HO4, HB4.out⟩
            case measure => simp [intOf]; omega
          · have HD : Hid (deepNext ns (deeps ns (tp + 1)) (tp + 1) = D) := by show _ = _; rw [HDf.out, if_neg hd10]
            clear HDf
            go_wp2_with (at_builtin; go_must (refine appendR inC_len rfl _ _ 85 rfl w.heap.size 3 _ 8 Tryz.underlying85 Tryz.infoInt rfl (by decide) hown D (inC_ones _) rfl (by first | rfl | (simp [Act.eval]; done)) hlen (by omega) hsz ?_); intro v4 w4 hown4 hb4 hs4 hg4)
            have HO4 : Hid (OwnsI w4 w.heap.size v4 (deeps ns (tp + 1 + 1))) := by
              show OwnsI _ _ _ _
              rw [deeps, HD.out]
              exact hown4
            have HB4 : Hid (Below w.heap.size w w4) := hb4 w hBw1
            clear hown4 hb4 hs4 hg4 hown hBw1
            go_wp2
            go_roundw
            case rel => exact ⟨tp + 1 + 1, by omega, by go_num, HO4, HB4.out⟩
            case measure => simp [intOf]; omega
    · have htm : Hid (t = m + 1) := (by omega : t = m + 1)
      have HF : Hid (OwnsI wr w.heap.size (.slice oa t oc) (deeps ns (m + 1))) := by
        have := HO.out
        rw [htm.out] at this ⊢
        exact this
      go_wp2
      go_ret
      exact ⟨⟨_, rfl, HF.out⟩, hbw⟩

end Go.Proofs.YtbanmldmdoedkaaGreatDoor

namespace Go.Proofs.YtbanmldmdoedkaaGreatDoor
open Go.RowKit

theorem OwnsI.set {w : World} {B g n cap : Nat} {xs : List Int} (h : OwnsI w B (.slice (some ⟨g, 0, none⟩) n cap) xs) (hn : n = xs.length) (i : Nat) (hi : i < xs.length) (y : Int) : OwnsI (w.setCell ⟨g, i, none⟩ (.int .i64 y)) B (.slice (some ⟨g, 0, none⟩) n cap) (xs.set i y) := by
  have := OwnsR.stored inC_len h hn i 0 hi (by omega) y (.int .i64 y) (by simp [inC])
  simp only [Nat.mul_one, Nat.add_zero] at this
  exact this
theorem OwnsI.cellAt {w : World} {B g n cap : Nat} {xs : List Int} (h : OwnsI w B (.slice (some ⟨g, 0, none⟩) n cap) xs) (hn : n = xs.length) (i : Nat) (hi : i < xs.length) (x : Int) (hx : xs[i] = x) : w.cell? ⟨g, i, none⟩ = some (.int .i64 x) := by
  have := OwnsR.cell inC_len h hn i 0 hi (by omega)
  rw [← hx]
  simpa [inC] using this
theorem OwnsI.freeAt {w : World} {B g n cap : Nat} {xs : List Int} (h : OwnsI w B (.slice (some ⟨g, 0, none⟩) n cap) xs) (hn : n = xs.length) (i : Nat) : w.frozen? ⟨g, i, none⟩ = false := OwnsR.free h hn i

/-- A row with one number in its midst. -/
def mid (D : List Int) (d : Int) (r : Nat) : List Int := D ++ d :: List.replicate r 0
theorem mid_len (D : List Int) (d : Int) (r : Nat) : (mid D d r).length = D.length + 1 + r := by simp [mid]; omega
theorem mid_at (D : List Int) (d : Int) (r t : Nat) (h : D.length = t) : (mid D d r)[t]'(by rw [mid_len]; omega) = d := by
  subst h
  simp [mid]
theorem mid_pre (D : List Int) (d : Int) (r i : Nat) (h : i < D.length) : (mid D d r)[i]'(by rw [mid_len]; omega) = D.getD i 0 := by
  simp only [mid, List.getD]
  rw [List.getElem_append_left h, List.getElem?_eq_getElem h]
  rfl
theorem mid_set (D : List Int) (d e : Int) (r t : Nat) (h : D.length = t) : (mid D d r).set t e = mid D e r := by
  subst h
  simp [mid]

theorem specDeepOf_any (v : Value) (ns : List Nd) (k : Int) (w : World) (hR : NdR.Row w w.heap.size v ns) (hl : szRow szNd ns ≤ 1048576) :
    Calls Tryz.prog 49 #[v, .int .i64 k] w fun e w' => e = .returned (.int .i64 (deepOf ns k)) ∧ Below w.heap.size w w' := by
  obtain ⟨a, cap, rfl⟩ := hR.len
  obtain ⟨N, HN⟩ : ∃ N, Hid (ns.length = N) := ⟨_, (rfl : ns.length = ns.length)⟩
  have HR : Hid (NdR.Row w w.heap.size (.slice a N cap) ns) := by rw [← HN.out]; exact hR
  have hNl : N ≤ 1048576 := by have := len_szRow szNd ns; have := HN.out; omega
  rw [HN.out]
  clear hR
  rcases isIn_cases k 0 ((N : Int) - 1) with ⟨_, h⟩ | ⟨i1, h0, h1⟩
  · have HE : Hid (deepOf ns k = 0) := deepOf_out (by rw [HN.out]; omega)
    go_enter Tryz.func49, Tryz.ntmps49
    go_wp2_with (go_at_call 63; refine (l01In_no _ _ _ _ h).mono ?_; rintro e w1 ⟨rfl, rfl⟩)
    go_ret
    exact ⟨by rw [HE.out]; rfl, Below.refl _ _⟩
  · obtain ⟨m, rfl⟩ : ∃ m : Nat, k = (m : Int) := ⟨k.toNat, by omega⟩
    have hm : m < N := by omega
    have cD : Hid (∀ W, Below w.heap.size w W → Calls Tryz.prog 64 #[.slice a N cap, .int .i64 (m : Int)] W fun e w' => (∃ v, e = .returned v ∧ OwnsI w' W.heap.size v (deeps ns (m + 1))) ∧ Below W.heap.size W w') := fun W hW =>
      l04Deeps_any a N cap m ns W hm ((HR.out.keep hW).up hW.size) HN hl
    obtain ⟨d, hd⟩ : ∃ d, Hid ((deeps ns (m + 1)).getD m 0 = d) := ⟨_, (rfl : (deeps ns (m + 1)).getD m 0 = (deeps ns (m + 1)).getD m 0)⟩
    have HE : Hid (deepOf ns (m : Int) = d) := by show _ = _; rw [← hd.out]; exact deepOf_in (by rw [HN.out]; exact hm)
    have hm0 : (0 : Int) ≤ (m : Int) := by omega
    clear i1
    go_enter Tryz.func49, Tryz.ntmps49
    go_wp2_with (go_at_call 63; refine (l01In_yes _ _ _ _ h0 h1).mono ?_; rintro e w1 ⟨rfl, rfl⟩)
    go_at_call 64
    refine Calls.mono (cD.out _ (Below.refl _ _)) ?_
    rintro e w1 ⟨⟨v, rfl, ho⟩, hb1⟩
    obtain ⟨oa, oc, rfl, hg⟩ := RowI.le ho
    rw [deeps_len] at ho hg ⊢
    obtain ⟨og, rfl⟩ := hg (by omega)
    have c0 := OwnsI.cellAt ho (deeps_len ns (m + 1)).symm m (by rw [deeps_len]; omega) d (by rw [← hd.out, getD_in (by rw [deeps_len]; omega)])
    have hmm : (m : Int) < ((m + 1 : Nat) : Int) := by omega
    clear cD ho hg
    go_wp2
    go_ret
    exact ⟨by rw [HE.out]; rfl, hb1⟩

set_option maxRecDepth 100000 in
set_option maxHeartbeats 6400000 in
theorem implDeepOf_in (va : Option Addr) (N cap m : Nat) (ns : List Nd) (w : World) (hm : m < N) (hR : NdR.Row w w.heap.size (.slice va N cap) ns) (hN : Hid (ns.length = N)) (hl : szRow szNd ns ≤ 1048576) :
    Calls Tryz.prog 47 #[.slice va N cap, .int .i64 (m : Int)] w fun e w' => e = .returned (.int .i64 (deepOf ns (m : Int))) ∧ Below w.heap.size w w' := by
  have hNl : N ≤ 1048576 := by have := len_szRow szNd ns; have := hN.out; omega
  have hml : m < ns.length := by rw [hN.out]; exact hm
  have HR : Hid (NdR.Row w w.heap.size (.slice va N cap) ns) := hR
  have HL : Hid (szRow szNd ns ≤ 1048576) := hl
  obtain ⟨z, hz⟩ : ∃ z, Hid (deepOf ns (m : Int) = z) := ⟨_, (rfl : deepOf ns (m : Int) = deepOf ns (m : Int))⟩
  rw [hz.out]
  have cB : Hid (∀ W, Calls Tryz.prog 93 #[.slice va N cap, .int .i64 (m : Int)] W fun e w' => e = .returned (.bool true) ∧ w' = W) := fun W => by
    have := isPlace_any va N cap (m : Int) W
    rw [isIn_yes (by omega) (by omega)] at this
    exact this
  clear hR hl
  obtain ⟨i0, hi, hz0, hz1, hz2⟩ := info_parts Tryz.infoInt
  go_enter Tryz.func47, Tryz.ntmps47
  go_wp2_with (first | (go_at_call 93; refine Calls.mono (cB.out _) ?_; rintro e w1 ⟨rfl, h⟩; obtain rfl := h.symm) | (at_make; refine wpList_make_full _ rfl _ _ 85 rfl w.heap.size 3 i0 _ 1 Tryz.underlying85 hi hz0 hz1 _ _ _ _ (m + 1) rfl rfl (by omega) (by omega) (by rw [hz2]; omega) (by unfold maxLen; omega) (Nat.le_refl _) ?_; intro w0 hown0 hg0))
  clear hi hz0 hz1 hz2 cB
  go_loopw [18] (fun i wr => ∃ t : Nat, t ≤ m + 1 ∧ i = .int .i64 (t : Int) ∧ Hid (OwnsI wr w.heap.size (.slice (some ⟨w.heap.size, 0, none⟩) (m + 1) (m + 1)) (deeps ns t ++ List.replicate (m + 1 - t) 0)) ∧ Hid (∀ i, i < t → (deeps ns t).getD i 0 ≠ 0) ∧ Below w.heap.size w wr) (fun i _ => m + 1 - (intOf i).toNat)
  case atStart =>
    refine ⟨0, Nat.zero_le _, rfl, ?_, fun i hi => by omega, (Below.refl _ _).grown hg0 (Nat.le_refl _) (fun k hk => by cases hk)⟩
    show OwnsI _ _ _ _
    unfold OwnsI OwnsR
    rw [deeps, List.nil_append, Nat.sub_zero, List.length_replicate, ← zero_ints]
    exact hown0
  case round =>
    obtain ⟨t, ht, rfl, HO, HZ, hbw⟩ := hrel
    clear hown0 hg0
    by_cases hlt : t < m + 1
    · have ht1 : (t : Int) ≤ (m : Int) := by omega
      have ht2 : (t : Int) < (N : Int) := by omega
      have ht0 : (0 : Int) ≤ (t : Int) := by omega
      have ht3 : (t : Int) < ((m + 1 : Nat) : Int) := by omega
      have htl : t < ns.length := by rw [hN.out]; omega
      obtain ⟨ok, hok⟩ : ∃ r, Hid (nodeOk ns (t : Int) = r) := ⟨_, (rfl : nodeOk ns (t : Int) = nodeOk ns (t : Int))⟩
      have cN : Hid (∀ W, Below w.heap.size w W → Calls Tryz.prog 94 #[.slice va N cap, .int .i64 (t : Int)] W fun e w' => e = .returned (.bool ok) ∧ Below W.heap.size W w') := fun W hW => by
        rw [← hok.out]
        exact implNodeOk_any _ ns _ W ((HR.out.keep hW).up hW.size) HL.out
      go_wp2_with fail
      go_at_call 94
      refine Calls.mono (cN.out _ hbw) ?_
      rintro e w1 ⟨rfl, hb1⟩
      have hBw1 : Below w.heap.size w w1 := hbw.trans (hb1.mono hbw.size)
      have HW : Hid (OwnsI w1 w.heap.size (.slice (some ⟨w.heap.size, 0, none⟩) (m + 1) (m + 1)) (mid (deeps ns t) 0 (m - t)) ∧ Below w.heap.size w w1) := by
        refine ⟨?_, hBw1⟩
        have := OwnsR.below HO.out hb1
        rw [show m + 1 - t = (m - t) + 1 by omega, List.replicate_succ] at this
        exact this
      clear cN hb1 HO
      cases ok
      · have HD : Hid (z = 0) := by
          show _ = _
          rw [← hz.out]
          exact deepOf_zero (t := t) hml (by omega) (by unfold deepNext goOn; rw [hok.out]; rfl)
        go_wp2
        go_ret
        exact ⟨by rw [HD.out]; rfl, hBw1⟩
      have HG : Hid (goOn ns (deeps ns t) t = true) := by
        show _ = _
        unfold goOn
        rw [hok.out, Bool.true_and, Bool.or_eq_true]
        by_cases h0 : t = 0
        · exact .inl (by simp [h0])
        · exact .inr (by have := HZ.out (t - 1) (by omega); simpa using this)
      obtain ⟨b, off, ka, kc, rfl, hb, _, _, _, c3, hK⟩ := RowNd.at HR.out t htl
      obtain ⟨ks, hks⟩ : ∃ ks, Hid (ns[t].kids = ks) := ⟨_, (rfl : ns[t].kids = ns[t].kids)⟩
      rw [hks.out] at c3 hK
      have HKS : Hid ((ns.getD t nd0).kids = ks) := by show _ = _; rw [← hks.out]; simp [List.getD, htl]
      obtain ⟨K, HK⟩ : ∃ K, Hid (ks.length = K) := ⟨_, (rfl : ks.length = ks.length)⟩
      rw [HK.out] at c3 hK
      have HI : Hid (RowI w w.heap.size (.slice ka K kc) ks) := hK
      have hKl : K ≤ 1048576 := by
        have h1 := Nat.le_trans (Nat.le_trans (le_szNd_kids ns[t]) (mem_szRow szNd (List.getElem_mem htl))) HL.out
        rw [hks.out, HK.out] at h1
        exact h1
      have d3 := (hBw1.cell (p := ⟨b, off + t * 4 + 3, none⟩) hb).trans c3
      clear c3 hK
      go_wp2_with fail
      go_loopw [31] (fun j wj => ∃ s : Nat, s ≤ K ∧ j = .int .i64 (s : Int) ∧ Hid (OwnsI wj w.heap.size (.slice (some ⟨w.heap.size, 0, none⟩) (m + 1) (m + 1)) (mid (deeps ns t) (mxTo (deeps ns t) ks s) (m - t)) ∧ Below w.heap.size w wj)) (fun j _ => K - (intOf j).toNat)
      case atStart => exact ⟨0, Nat.zero_le _, rfl, HW⟩
      case round =>
        obtain ⟨s, hs, rfl, HJ⟩ := hrel
        clear d3 HW hBw1
        have hml2 : ∀ d, m + 1 = (mid (deeps ns t) d (m - t)).length := fun d => by rw [mid_len, deeps_len]; omega
        by_cases hsl : s < K
        · have hs0 : (0 : Int) ≤ (s : Int) := by omega
          have hs1 : (s : Int) < (K : Int) := by omega
          have hskl : s < ks.length := by have := HK.out; omega
          obtain ⟨kb, ko, rfl, hkb, e0⟩ := HI.out.at s hskl
          obtain ⟨c, hc⟩ : ∃ c, Hid (ks[s] = c) := ⟨_, (rfl : ks[s] = ks[s])⟩
          have f0 := (HJ.out.2.cell (p := ⟨kb, ko + s, none⟩) hkb).trans e0
          rw [hc.out] at f0
          have hgd : Hid (ks.getD s 0 = c) := by show _ = _; rw [← hc.out]; simp [List.getD, hskl]
          have hcb : 0 ≤ c ∧ c < (t : Int) := by
            have := kid_lt hok.out (j := s) (by rw [HKS.out]; exact hskl)
            rw [HKS.out, hgd.out] at this
            exact this
          obtain ⟨cn, rfl⟩ : ∃ cn : Nat, c = (cn : Int) := ⟨c.toNat, by omega⟩
          have hc0 : (0 : Int) ≤ (cn : Int) := by omega
          have hc1 : (cn : Int) < ((m + 1 : Nat) : Int) := by omega
          have hcn : cn < t := by omega
          obtain ⟨x, hx⟩ : ∃ x, Hid ((deeps ns t).getD cn 0 = x) := ⟨_, (rfl : (deeps ns t).getD cn 0 = (deeps ns t).getD cn 0)⟩
          obtain ⟨y, hy⟩ : ∃ y, Hid (mxTo (deeps ns t) ks s = y) := ⟨_, (rfl : mxTo (deeps ns t) ks s = mxTo (deeps ns t) ks s)⟩
          have HM : Hid (mxTo (deeps ns t) ks (s + 1) = max y x) := by show _ = _; rw [mxTo, hgd.out, hy.out]; simp only [Int.toNat_natCast]; rw [hx.out]
          rw [hy.out] at HJ
          have g0 := OwnsI.cellAt HJ.out.1 (hml2 y) cn (by rw [← hml2]; omega) x (by rw [mid_pre _ _ _ _ (by rw [deeps_len]; exact hcn)]; exact hx.out)
          have g1 := OwnsI.cellAt HJ.out.1 (hml2 y) t (by rw [← hml2]; omega) y (mid_at _ _ _ _ (deeps_len ns t))
          have g2 := OwnsI.freeAt HJ.out.1 (hml2 y) t
          have SJ : Hid (∀ e, max y x = e → OwnsI (wr.setCell ⟨w.heap.size, t, none⟩ (.int .i64 e)) w.heap.size (.slice (some ⟨w.heap.size, 0, none⟩) (m + 1) (m + 1)) (mid (deeps ns t) (mxTo (deeps ns t) ks (s + 1)) (m - t))) := fun e he => by
            have := OwnsI.set HJ.out.1 (hml2 y) t (by rw [← hml2]; omega) e
            rw [mid_set _ _ _ _ _ (deeps_len ns t)] at this
            rw [HM.out, he]
            exact this
          clear e0 hcb hml2
          go_wp2_with fail
          go_region
          have hmx : max y x = (if y < x then x else y) := by split <;> omega
          have HR1 : Hid (OwnsI (wr.setCell ⟨w.heap.size, t, none⟩ (.int .i64 (if y < x then x else y))).drew w.heap.size (.slice (some ⟨w.heap.size, 0, none⟩) (m + 1) (m + 1)) (mid (deeps ns t) (mxTo (deeps ns t) ks (s + 1)) (m - t)) ∧ Below w.heap.size w (wr.setCell ⟨w.heap.size, t, none⟩ (.int .i64 (if y < x then x else y))).drew) := ⟨World.ownsRow.drew (SJ.out _ hmx), (HJ.out.2.setCell (p := ⟨w.heap.size, t, none⟩) (Nat.le_refl _) _).drew⟩
          clear hmx g0 g1 g2 f0
          go_wp2
          go_roundw
          case rel => exact ⟨s + 1, by omega, by go_num, HR1⟩
          case measure => simp [intOf]; omega
        · have HsK : Hid (s = K) := (by omega : s = K)
          obtain ⟨y, hy⟩ : ∃ y, Hid (mxTo (deeps ns t) ks K = y) := ⟨_, (rfl : mxTo (deeps ns t) ks K = mxTo (deeps ns t) ks K)⟩
          rw [HsK.out, hy.out] at HJ
          have hyb := mxTo_bound (fun i => deeps_bound ns t i) ks K
          rw [hy.out] at hyb
          have HDf : Hid (deepNext ns (deeps ns t) t = if 10 < y + 1 then 0 else y + 1) := by
            show _ = _
            unfold deepNext
            rw [if_pos HG.out, HKS.out, HK.out, hy.out]
          have g1 := OwnsI.cellAt HJ.out.1 (hml2 y) t (by rw [← hml2]; omega) y (mid_at _ _ _ _ (deeps_len ns t))
          have g2 := OwnsI.freeAt HJ.out.1 (hml2 y) t
          have SJ : Hid (OwnsI (wr.setCell ⟨w.heap.size, t, none⟩ (.int .i64 (y + 1))) w.heap.size (.slice (some ⟨w.heap.size, 0, none⟩) (m + 1) (m + 1)) (mid (deeps ns t) (y + 1) (m - t)) ∧ Below w.heap.size w (wr.setCell ⟨w.heap.size, t, none⟩ (.int .i64 (y + 1)))) := by
            have := OwnsI.set HJ.out.1 (hml2 y) t (by rw [← hml2]; omega) (y + 1)
            rw [mid_set _ _ _ _ _ (deeps_len ns t)] at this
            exact ⟨this, HJ.out.2.setCell (p := ⟨w.heap.size, t, none⟩) (Nat.le_refl _) _⟩
          clear hml2
          by_cases hd10 : 10 < y + 1
          · have HD : Hid (z = 0) := by
              show _ = _
              rw [← hz.out]
              exact deepOf_zero (t := t) hml (by omega) (by rw [HDf.out, if_pos hd10])
            go_wp2
            go_ret
            exact ⟨by rw [HD.out]; rfl, SJ.out.2⟩
          · have HDn : Hid (deepNext ns (deeps ns t) t = y + 1) := by show _ = _; rw [HDf.out, if_neg hd10]
            have HO1 : Hid (OwnsI (wr.setCell ⟨w.heap.size, t, none⟩ (.int .i64 (y + 1))) w.heap.size (.slice (some ⟨w.heap.size, 0, none⟩) (m + 1) (m + 1)) (deeps ns (t + 1) ++ List.replicate (m + 1 - (t + 1)) 0)) := by
              show OwnsI _ _ _ _
              rw [deeps, HDn.out, show m + 1 - (t + 1) = m - t by omega, List.append_assoc]
              exact SJ.out.1
            have HZ1 : Hid (∀ i, i < t + 1 → (deeps ns (t + 1)).getD i 0 ≠ 0) := fun i hi => by
              rcases Nat.lt_or_ge i t with h | h
              · rw [deeps_more ns h]
                exact HZ.out i h
              · have : i = t := by omega
                subst this
                rw [deeps_last, HDn.out]
                omega
            have HB1 : Hid (Below w.heap.size w (wr.setCell ⟨w.heap.size, t, none⟩ (.int .i64 (y + 1)))) := SJ.out.2
            clear HDf
            go_wp2
            go_roundw
            case rel => exact ⟨t + 1, by omega, by go_num, HO1, HZ1, HB1.out⟩
            case measure => simp [intOf]; omega
    · have htm : Hid (t = m + 1) := (by omega : t = m + 1)
      obtain ⟨d, hd⟩ : ∃ d, Hid ((deeps ns (m + 1)).getD m 0 = d) := ⟨_, (rfl : (deeps ns (m + 1)).getD m 0 = (deeps ns (m + 1)).getD m 0)⟩
      have HD : Hid (z = d) := by show _ = _; rw [← hz.out, deepOf_in hml]; exact hd.out
      have c0 : wr.cell? ⟨w.heap.size, m, none⟩ = some (.int .i64 d) := by
        have := HO.out
        rw [htm.out, Nat.sub_self, List.replicate_zero, List.append_nil] at this
        exact OwnsI.cellAt this (deeps_len ns (m + 1)).symm m (by rw [deeps_len]; omega) d (by rw [← hd.out, getD_in (by rw [deeps_len]; omega)])
      have hmm : (m : Int) < ((m + 1 : Nat) : Int) := by omega
      have hm0 : (0 : Int) ≤ (m : Int) := by omega
      go_wp2
      go_ret
      exact ⟨by rw [HD.out]; rfl, hbw⟩

theorem implDeepOf_any (v : Value) (ns : List Nd) (k : Int) (w : World) (hR : NdR.Row w w.heap.size v ns) (hl : szRow szNd ns ≤ 1048576) :
    Calls Tryz.prog 47 #[v, .int .i64 k] w fun e w' => e = .returned (.int .i64 (deepOf ns k)) ∧ Below w.heap.size w w' := by
  obtain ⟨a, cap, rfl⟩ := hR.len
  by_cases h : k < 0 ∨ (ns.length : Int) ≤ k
  · obtain ⟨N, HN⟩ : ∃ N, Hid (ns.length = N) := ⟨_, (rfl : ns.length = ns.length)⟩
    rw [HN.out] at h ⊢
    have HE : Hid (deepOf ns k = 0) := deepOf_out (by rw [HN.out]; exact h)
    have cB : Hid (∀ W, Calls Tryz.prog 93 #[.slice a N cap, .int .i64 k] W fun e w' => e = .returned (.bool false) ∧ w' = W) := fun W => by
      have := isPlace_any a N cap k W
      rw [isIn_off (by omega)] at this
      exact this
    clear hR hl
    go_enter Tryz.func47, Tryz.ntmps47
    go_wp2_with (go_at_call 93; refine Calls.mono (cB.out _) ?_; rintro e w1 ⟨rfl, h⟩; obtain rfl := h.symm)
    go_ret
    exact ⟨by rw [HE.out]; rfl, Below.refl _ _⟩
  · obtain ⟨m, rfl⟩ : ∃ m : Nat, k = (m : Int) := ⟨k.toNat, by omega⟩
    exact implDeepOf_in a _ cap m ns w (by omega) hR rfl hl

end Go.Proofs.YtbanmldmdoedkaaGreatDoor

namespace Go.Proofs.YtbanmldmdoedkaaGreatDoor
open Go.RowKit

def boC (b : Bool) : List Value := [.bool b]
theorem boC_len (b : Bool) : (boC b).length = 1 := rfl
/-- A row of flags that the call owns. -/
def OwnsB (w : World) (B : Nat) (v : Value) (bs : List Bool) : Prop := OwnsR boC 1 w B 4 v bs
theorem OwnsB.set {w : World} {B g n cap : Nat} {xs : List Bool} (h : OwnsB w B (.slice (some ⟨g, 0, none⟩) n cap) xs) (hn : n = xs.length) (i : Nat) (hi : i < xs.length) (y : Bool) : OwnsB (w.setCell ⟨g, i, none⟩ (.bool y)) B (.slice (some ⟨g, 0, none⟩) n cap) (xs.set i y) := by
  have := OwnsR.stored boC_len h hn i 0 hi (by omega) y (.bool y) (by simp [boC])
  simp only [Nat.mul_one, Nat.add_zero] at this
  exact this
theorem OwnsB.cellAt {w : World} {B g n cap : Nat} {xs : List Bool} (h : OwnsB w B (.slice (some ⟨g, 0, none⟩) n cap) xs) (hn : n = xs.length) (i : Nat) (hi : i < xs.length) (x : Bool) (hx : xs.getD i false = x) : w.cell? ⟨g, i, none⟩ = some (.bool x) := by
  have := OwnsR.cell boC_len h hn i 0 hi (by omega)
  have h2 : xs[i] = x := by rw [← hx]; simp [List.getD, hi]
  rw [← h2]
  simpa [boC] using this
theorem OwnsB.freeAt {w : World} {B g n cap : Nat} {xs : List Bool} (h : OwnsB w B (.slice (some ⟨g, 0, none⟩) n cap) xs) (hn : n = xs.length) (i : Nat) : w.frozen? ⟨g, i, none⟩ = false := OwnsR.free h hn i
theorem Tryz.infoBool : (Tryz.prog.info? 4).map (fun i => (i.zero, i.size, i.bytes)) = some (some (.bool false), 1, 1) := by kernel_rfl
theorem zero_bools (m : Nat) : (madeCells (Value.bool false).cells (m * 1)).toList = (List.replicate m false).flatMap boC := zero_cells (enc := boC) (k := 1) false (.bool false) boC_len (by decide) (by simp [Value.cells, boC]) m

theorem types_apart {k1 k2 : Nat} {w : World} {B1 B2 : Nat} {e1 e2 : TypeId} {v u : Value} {n1 n2 : Nat} {xs ys : List Value} (h1 : w.ownsRow B1 e1 k1 v n1 xs) (h2 : w.ownsRow B2 e2 k2 u n2 ys) (hne : e1 ≠ e2) : v.ownBlock = none ∨ v.ownBlock ≠ u.ownBlock := by
  rcases h1.2 with ⟨rfl, _⟩ | ⟨g, cap, cur, rfl, _, hg, _⟩
  · exact .inl rfl
  · rcases h2.2 with ⟨rfl, _⟩ | ⟨g2, cap2, cur2, rfl, _, hg2, _⟩
    · exact .inr (by simp [Value.ownBlock])
    · refine .inr (fun e => ?_)
      have : g = g2 := by simpa [Value.ownBlock] using e
      subst this
      rw [hg] at hg2
      injection hg2 with h
      injection h with _ h
      exact hne h
theorem below_of_grown {w w' : World} {g B : Nat} (h : w.grownBy w' (some g)) (hB : B ≤ g) (hw : B ≤ w.heap.size) : Below B w w' := ⟨h.os, h.tape, h.output, h.size, fun k hk => h.block k (by omega) (fun e => by cases e; omega)⟩

/-- What l04Mark leaves. -/
structure Marked (ns : List Nd) (k g N B : Nat) (bs : List Bool) (w w' : World) (bs' : List Bool) : Prop where
  own : OwnsB w' B (.slice (some ⟨g, 0, none⟩) N N) bs'
  len : bs'.length = N
  iff : ∀ j, bs'.getD j false = true ↔ bs.getD j false = true ∨ Reach ns k j
  grown : w.grownBy w' (some g)

/-- What Under answers: all that lies under the node, or nothing where it has no depth. -/
def UnderAns (ns : List Nd) (k : Int) (xs : List Int) : Prop := (deepOf ns k = 0 ∧ xs = []) ∨ (deepOf ns k ≠ 0 ∧ IsUnder ns k.toNat xs)
theorem underAns_one {ns : List Nd} {k : Int} {xs ys : List Int} (h1 : UnderAns ns k xs) (h2 : UnderAns ns k ys) : xs = ys := by
  rcases h1 with ⟨a, rfl⟩ | ⟨a, b⟩
  · rcases h2 with ⟨c, rfl⟩ | ⟨c, d⟩
    · rfl
    · exact absurd a c
  · rcases h2 with ⟨c, rfl⟩ | ⟨c, d⟩
    · exact absurd c a
    · exact under_one b d
theorem deep_in {ns : List Nd} {k : Int} (h : deepOf ns k ≠ 0) : 0 ≤ k ∧ k < (ns.length : Int) := by
  by_cases h1 : k < 0 ∨ (ns.length : Int) ≤ k
  · exact absurd (deepOf_out h1) h
  · omega

end Go.Proofs.YtbanmldmdoedkaaGreatDoor

namespace Go.Proofs.YtbanmldmdoedkaaGreatDoor
open Go.RowKit

/-- 'append(a, b...)' of rows of numbers, the first of which the call owns. -/
theorem appendI {P : Program} {w0 : World} {ops : Array Oper} {rest : List Oper} {o : Oper} {a : Act} {Q : Exit → Act → World → Prop}
    (hgd : o.guard = none) (s x : Operand) (t : TypeId) (ho : o.op = .call { callee := .builtin .append, args := #[s, x], argTypes := #[t, t] })
    (B : Nat) (ht : P.underlying t = some (.slice 3)) (hi : (P.info? 3).map (fun i => (i.zero, i.size, i.bytes)) = some (some (.int .i64 0), 1, 8))
    {v : Value} {xs : List Int} (hown : OwnsI w0 B v xs) (ys : List Int) (H : Nat) (ad : Addr) (m c : Nat) (hsrc : RowI w0 H (.slice (some ad) m c) ys) (hs : a.eval s = v) (hx : a.eval x = .slice (some ad) m c)
    (hlen : xs.length + ys.length ≤ 10000000) (hB : B ≤ w0.heap.size)
    (h : ∀ v' w', OwnsI w' B v' (xs ++ ys) → w0.grownBy w' v.ownBlock → (v' = .slice none 0 0 ↔ v = .slice none 0 0 ∧ m = 0) → wpList P ops Q rest (a.put o.dst v') w') :
    wpList P ops Q (o :: rest) a w0 := by
  obtain ⟨i, hi, hz0, hz1, hz2⟩ := info_parts hi
  have hm := hsrc.cap.1
  refine wpList_append_own _ hgd s x t ho B 3 i (.int .i64 0) 1 8 ht hi hz0 hz1 hz2 rfl (by decide) v xs.length (xs.flatMap inC) hs hown ad m c (ys.flatMap inC) hx (by rw [flat_len inC_len, hm]) ?_ ?_ (by unfold maxLen; omega) (by omega) hB ?_
  · intro j u hj
    have hjl : j < ys.length := by
      rcases Nat.lt_or_ge j ys.length with h1 | h1
      · exact h1
      · rw [List.getElem?_eq_none (by rw [flat_len inC_len]; omega)] at hj
        cases hj
    obtain ⟨b, off, e, _, hc⟩ := RowI.at hsrc j hjl
    cases e
    have h2 := flat_at inC_len ys j 0 hjl (by omega)
    rw [Nat.mul_one, Nat.add_zero] at h2
    rw [h2] at hj
    have hu : u = .int .i64 ys[j] := by simp [inC] at hj; exact hj.symm
    have ha : (⟨b, off, none⟩ : Addr).add j = ⟨b, off + j, none⟩ := by unfold Addr.add; split <;> simp_all
    rw [ha, hc, hu]
  · intro u hu
    obtain ⟨y, _, hy⟩ := List.mem_flatMap.mp hu
    simp [inC] at hy
    subst hy
    rfl
  intro v' w' h1 h2 h3
  refine h v' w' ?_ h2 h3
  unfold OwnsI OwnsR
  rw [List.flatMap_append, List.length_append, show xs.length + ys.length = xs.length + m by rw [hm]]
  exact h1

theorem form_some {w : World} {B : Nat} {v : Value} {xs : List Int} (h : OwnsI w B v xs) (hn : ¬ v = .slice none 0 0) : ∃ g cap, v = .slice (some ⟨g, 0, none⟩) xs.length cap := by
  rcases OwnsR.form h with ⟨h0, _⟩ | ⟨g4, cap4, h4, _⟩
  · exact absurd h0 hn
  · exact ⟨g4, cap4, h4⟩
theorem ndC_ones (q : Nd) (g n c : Nat) : ∀ u ∈ ndC (q, .slice (some ⟨g, 0, none⟩) n c), u.oneCell' = true := by
  intro u hu
  simp [ndC] at hu
  rcases hu with rfl | rfl | rfl | rfl <;> rfl
theorem ndC_ones0 (q : Nd) : ∀ u ∈ ndC (q, .slice none 0 0), u.oneCell' = true := by
  intro u hu
  simp [ndC] at hu
  rcases hu with rfl | rfl | rfl | rfl <;> rfl

/-- Rows of nodes lie apart from their kids: other types. -/
theorem nd_apart {w : World} {B : Nat} {v : Value} {ps : List (Nd × Value)} (h : NdR.Phys w B v ps) (hn : (fps (ps.flatMap NdR.vals)).Nodup) : (fps (NdR.all v ps)).Nodup := by
  unfold RowTy.all
  rw [fps_cons, List.nodup_append]
  refine ⟨by have := fp_nodup v; rw [fps_one] at this; exact this, hn, ?_⟩
  intro a ha b hb e
  subst e
  obtain ⟨u, hu, hau⟩ := List.mem_flatMap.mp hb
  obtain ⟨q, hq1, hq2⟩ := List.mem_flatMap.mp hu
  have hu2 : u = q.2 := by simpa [NdR] using hq2
  subst hu2
  have hs : OwnsI w B q.2 q.1.kids := h.2 q hq1
  rcases h.1.2 with ⟨rfl, _⟩ | ⟨g, cap, cur, rfl, _, hg, _⟩
  · simp [fpOf, Value.ownBlock] at ha
  · rcases hs.2 with ⟨e0, _⟩ | ⟨g2, cap2, cur2, e2, _, hg2, _⟩
    · rw [e0] at hau
      simp [fpOf, Value.ownBlock] at hau
    · rw [e2] at hau
      have h1 : a = g := by simpa [fpOf, Value.ownBlock] using ha
      have h2 : a = g2 := by simpa [fpOf, Value.ownBlock] using hau
      subst h1 h2
      rw [hg] at hg2
      injection hg2 with h3
      injection h3 with _ h4
      exact absurd h4 (by decide)

/-- A row of nodes that grows node by node. -/
structure Grows (w wr : World) (v : Value) (ps : List (Nd × Value)) : Prop where
  phys : NdR.Phys wr w.heap.size v ps
  nd : (fps (ps.flatMap NdR.vals)).Nodup
  below : Below w.heap.size w wr
theorem Grows.own {w wr : World} {v : Value} {ps : List (Nd × Value)} (h : Grows w wr v ps) : NdR.Own wr w.heap.size wr.heap.size v (ps.map Prod.fst) :=
  ⟨ps, rfl, h.phys, nd_apart h.phys h.nd, h.phys.lt⟩
/-- One more node, its kids in a row that was made since. -/
theorem Grows.more {w wr w1 w2 : World} {v v' : Value} {ps : List (Nd × Value)} {p : Nd × Value} (h : Grows w wr v ps) (hb : Below wr.heap.size wr w1) (hs : OwnsI w1 wr.heap.size p.2 p.1.kids) (ho : OwnsR ndC 4 w2 w.heap.size 87 v' (ps ++ [p])) (hg : w1.grownBy w2 v.ownBlock) (hB : Below w.heap.size w w2) : Grows w w2 v' (ps ++ [p]) := by
  have hv : ∀ q ∈ ps, ∀ g ∈ fps (NdR.vals q), w2.heap[g]? = wr.heap[g]? := fun q hq g hgq => by
    have hlt := (NdR.sub_lt (h.phys.2 q hq) g hgq).2
    have hq2 : g ∈ fpOf q.2 := by simpa [NdR, fps_one] using hgq
    have hne : some g ≠ v.ownBlock := by
      intro e
      have h1 : g ∈ fpOf v := by simp [fpOf, ← e]
      have := nd_apart h.phys h.nd
      unfold RowTy.all at this
      rw [fps_cons, List.nodup_append] at this
      refine this.2.2 g h1 g ?_ rfl
      obtain ⟨u, hu, hgu⟩ := List.mem_flatMap.mp hgq
      exact mem_fps (List.mem_flatMap.mpr ⟨q, hq, hu⟩) hgu
    rw [hg.block g (by have := hb.size; omega) hne]
    exact hb.block g hlt
  have hpn : ∀ g ∈ fpOf p.2, some g ≠ v.ownBlock ∧ wr.heap.size ≤ g ∧ g < w1.heap.size := fun g hgp => by
    have h1 := OwnsR.lt hs g hgp
    refine ⟨fun e => ?_, h1.1, h1.2⟩
    have h2 : g ∈ fpOf v := by simp [fpOf, ← e]
    have := (h.phys.1.lt g h2).2
    omega
  refine ⟨⟨ho, fun q hq => ?_⟩, ?_, hB⟩
  · rcases List.mem_append.mp hq with h1 | h1
    · exact NdR.sub_same (h.phys.2 q h1) (hv q h1)
    · have : q = p := by simpa using h1
      subst this
      have h2 : OwnsI w2 w.heap.size q.2 q.1.kids := OwnsR.same (OwnsR.base hs (fun g hgq => by have := (hpn g hgq).2.1; have := h.below.size; omega)) (fun g hgq => hg.block g (hpn g hgq).2.2 (hpn g hgq).1)
      exact h2
  · rw [List.flatMap_append, fps_append, List.nodup_append]
    refine ⟨h.nd, by have := fp_nodup p.2; simpa [NdR] using this, ?_⟩
    intro a ha b hb' e
    subst e
    obtain ⟨u, hu, hau⟩ := List.mem_flatMap.mp ha
    obtain ⟨q, hq1, hq2⟩ := List.mem_flatMap.mp hu
    have h1 := (NdR.sub_lt (h.phys.2 q hq1) a (mem_fps hq2 hau)).2
    have h2 : a ∈ fpOf p.2 := by simpa [NdR, fps_one] using hb'
    have := (hpn a h2).2.1
    omega

theorem owns_emptyN (w : World) : OwnsR ndC 4 (w.alloc (.cells #[] 87)) w.heap.size 87 (.slice (some ⟨w.heap.size, 0, none⟩) 0 0) [] :=
  ⟨rfl, .inr ⟨w.heap.size, 0, #[], rfl, Nat.le_refl _, heap_alloc_new _ _, Nat.le_refl _, Nat.zero_le _, rfl, rfl⟩⟩
theorem Tryz.infoNode : (Tryz.prog.info? 87).map (fun i => (i.zero, i.size, i.bytes)) = some (some (.agg #[.int .i64 0, .int .i64 0, .string ByteArray.empty, .slice none 0 0]), 4, 56) := by kernel_rfl

set_option maxRecDepth 100000 in
set_option maxHeartbeats 3200000 in
theorem l04Nodes_any (v : Value) (ns : List Nd) (w : World) (hR : NdR.Row w w.heap.size v ns) (hl : szRow szNd ns ≤ 1048576) :
    Calls Tryz.prog 90 #[v] w fun e w' => ∃ g cap, e = .returned (.slice (some ⟨g, 0, none⟩) ns.length cap) ∧ (∃ ps, ps.map Prod.fst = ns ∧ Grows w w' (.slice (some ⟨g, 0, none⟩) ns.length cap) ps) := by
  obtain ⟨a, cap, rfl⟩ := hR.len
  obtain ⟨N, HN⟩ : ∃ N, Hid (ns.length = N) := ⟨_, (rfl : ns.length = ns.length)⟩
  have H : Hid (NdR.Row w w.heap.size (.slice a N cap) ns) := by rw [← HN.out]; exact hR
  have HL : Hid (szRow szNd ns ≤ 1048576) := hl
  have hNl : N ≤ 1048576 := by have := len_szRow szNd ns; have := HN.out; omega
  rw [HN.out]
  clear hR hl
  go_enter Tryz.func90, Tryz.ntmps90
  go_wp2
  go_loopw [3, 4] (fun o i wr => ∃ t : Nat, t ≤ N ∧ i = .int .i64 (t : Int) ∧ (∃ og oc : Nat, o = .slice (some ⟨og, 0, none⟩) t oc) ∧ Hid (∃ ps, ps.map Prod.fst = ns.take t ∧ Grows w wr o ps)) (fun _ i _ => N - (intOf i).toNat)
  case atStart => exact ⟨0, Nat.zero_le _, rfl, ⟨_, _, rfl⟩, [], by simp, ⟨owns_emptyN w, by simp⟩, by simp [fps], by go_grown⟩
  case round =>
    obtain ⟨t, ht, rfl, ⟨og, oc, rfl⟩, HJ⟩ := hrel
    obtain ⟨ps, hps, hg⟩ := HJ.out
    by_cases hlt : t < N
    · have ht0 : (0 : Int) ≤ (t : Int) := by omega
      have ht1 : (t : Int) < (N : Int) := by omega
      have htl : t < ns.length := by have := HN.out; omega
      obtain ⟨b, off, ka, kc, rfl, hb, c0, c1, c2, c3, hK⟩ := RowNd.at H.out t htl
      have hq : szNd ns[t] ≤ 1048576 := Nat.le_trans (mem_szRow szNd (List.getElem_mem htl)) HL.out
      obtain ⟨q, hqe⟩ : ∃ q, Hid (ns[t] = q) := ⟨_, (rfl : ns[t] = ns[t])⟩
      have hnx : Hid (ns.take (t + 1) = ns.take t ++ [q]) := by show _ = _; rw [List.take_succ_eq_append_getElem htl, hqe.out]
      rw [hqe.out] at c0 c1 c2 c3 hK hq
      have hbw := hg.below
      have d0 := (hbw.cell (p := ⟨b, off + t * 4, none⟩) hb).trans c0
      have d1 := (hbw.cell (p := ⟨b, off + t * 4 + 1, none⟩) hb).trans c1
      have d2 := (hbw.cell (p := ⟨b, off + t * 4 + 2, none⟩) hb).trans c2
      have d3 := (hbw.cell (p := ⟨b, off + t * 4 + 3, none⟩) hb).trans c3
      have hkl : q.kids.length ≤ 1048576 := Nat.le_trans (le_szNd_kids q) hq
      have hsz := hbw.size
      have HG : Hid (Grows w wr (.slice (some ⟨og, 0, none⟩) t oc) ps ∧ ps.map Prod.fst = ns.take t) := ⟨hg, hps⟩
      obtain ⟨kd, nm, tx, ks⟩ := q
      simp only at d0 d1 d2 d3 hK hkl
      obtain ⟨K, HK⟩ : ∃ K, Hid (ks.length = K) := ⟨_, (rfl : ks.length = ks.length)⟩
      rw [HK.out] at d3 hK hkl
      have HI : Hid (RowI w w.heap.size (.slice ka K kc) ks) := hK
      clear c0 c1 c2 c3 hK hq hg hps HJ hbw
      have HOn : Hid (∀ W, Below wr.heap.size wr W → OwnsR ndC 4 W w.heap.size 87 (.slice (some ⟨og, 0, none⟩) t oc) ps) := fun W hW => OwnsR.below HG.out.1.phys.1 hW
      have hpl : ps.length ≤ 10000000 := by
        have h1 := congrArg List.length HG.out.2
        simp at h1
        omega
      cases ka with
      | none =>
        have HK0 : Hid (ks = []) := by
          rcases Nat.eq_zero_or_pos ks.length with e | e
          · exact List.eq_nil_of_length_eq_zero e
          · obtain ⟨_, _, e2, _⟩ := HI.out.at 0 e
            cases e2
        have hK0 : K = 0 := by rw [← HK.out, HK0.out]; rfl
        subst hK0
        go_wp2_with (at_builtin; (refine appendR (enc := ndC) (k := 4) (fun _ => rfl) rfl _ _ 24 rfl w.heap.size 87 _ 56 Tryz.underlying24 Tryz.infoNode rfl (by decide) (HOn.out ((wr.alloc (.cells #[.int .i64 kd, .int .i64 nm, .string tx, .slice (some ⟨wr.heap.size + 1, 0, none⟩) 0 0] 87)).alloc (.cells #[] 3)) (by go_grown)) (⟨kd, nm, tx, ks⟩, .slice (some ⟨wr.heap.size + 1, 0, none⟩) 0 0) (ndC_ones _ _ _ _) rfl (by first | rfl | (simp [Act.eval]; done)) hpl (by omega) (by go_size) ?_); intro v5 w5 hown5 hb5 hs5 hg5)
        have HN5 : Hid (Grows w w5 v5 (ps ++ [(⟨kd, nm, tx, ks⟩, .slice (some ⟨wr.heap.size + 1, 0, none⟩) 0 0)])) := by
          refine HG.out.1.more ?_ ?_ hown5 hg5 (hb5 w ?_)
          · go_grown
          · rw [HK0.out]
            have h0 := owns_empty (wr.alloc (.cells #[.int .i64 kd, .int .i64 nm, .string tx, .slice (some ⟨wr.heap.size + 1, 0, none⟩) 0 0] 87))
            have hsz2 : (wr.alloc (.cells #[.int .i64 kd, .int .i64 nm, .string tx, .slice (some ⟨wr.heap.size + 1, 0, none⟩) 0 0] 87)).heap.size = wr.heap.size + 1 := by simp
            rw [hsz2] at h0
            exact owns_base h0.out (by omega)
          · have h0 := HG.out.1.below
            go_grown
        have HV5 : Hid (∃ og oc : Nat, v5 = .slice (some ⟨og, 0, none⟩) (t + 1) oc) := by
          rcases OwnsR.form HN5.out.phys.1 with ⟨_, h0⟩ | ⟨g5, cap5, h5, _⟩
          · simp at h0
          · refine ⟨g5, cap5, h5.trans ?_⟩
            have h1 := congrArg List.length HG.out.2
            simp at h1
            rw [List.length_append, List.length_singleton, show ps.length = t by omega]
        have HJ5 : Hid (∃ ps, ps.map Prod.fst = ns.take (t + 1) ∧ Grows w w5 v5 ps) := ⟨_, by rw [List.map_append, HG.out.2, hnx.out]; rfl, HN5.out⟩
        clear hown5 hb5 hs5 hg5 HN5 HG HOn
        go_wp2
        go_roundw
        case rel => exact ⟨t + 1, by omega, by go_num, HV5.out, HJ5⟩
        case measure => simp [intOf]; omega
      | some ad =>
        have hX0 : (wr.alloc (.cells #[.int .i64 kd, .int .i64 nm, .string tx, .slice (some ad) K kc] 87)).heap.size = wr.heap.size + 1 := by simp
        have HE0 : Hid (OwnsI ((wr.alloc (.cells #[.int .i64 kd, .int .i64 nm, .string tx, .slice (some ad) K kc] 87)).alloc (.cells #[] 3)) (wr.heap.size + 1) (.slice (some ⟨wr.heap.size + 1, 0, none⟩) 0 0) []) := by
          have h0 := owns_empty (wr.alloc (.cells #[.int .i64 kd, .int .i64 nm, .string tx, .slice (some ad) K kc] 87))
          rw [hX0] at h0
          exact h0
        have HS0 : Hid (RowI ((wr.alloc (.cells #[.int .i64 kd, .int .i64 nm, .string tx, .slice (some ad) K kc] 87)).alloc (.cells #[] 3)) w.heap.size (.slice (some ad) K kc) ks) := HI.out.keep (by have h0 := HG.out.1.below; go_grown)
        have HX1 : Hid (((wr.alloc (.cells #[.int .i64 kd, .int .i64 nm, .string tx, .slice (some ad) K kc] 87)).alloc (.cells #[] 3)).heap[wr.heap.size]? = some (.cells #[.int .i64 kd, .int .i64 nm, .string tx, .slice (some ad) K kc] 87 (0, 0))) := (Below.heap_alloc _ _ _ (by simp)).trans (heap_alloc_new _ _)
        have hks : ks.length ≤ 1048576 := by have := HK.out; omega
        clear hX0
        go_wp2_with (first | (at_builtin; (refine appendI rfl _ _ 85 rfl (wr.heap.size + 1) Tryz.underlying85 Tryz.infoInt HE0.out ks w.heap.size ad K kc HS0.out rfl rfl (by simp; omega) (by simp) ?_); intro v4 w4 hown4 hg4 hn4; obtain ⟨g4, cap4, hv4⟩ := form_some hown4 (fun h0 => absurd (hn4.mp h0).1 (by simp)); rw [List.nil_append, HK.out] at hv4; subst hv4; have hX := (hg4.block wr.heap.size (by simp; omega) (by simp [Value.ownBlock])).trans HX1.out; have x0 := cell_at hX 0; have x1 := cell_at hX 1; have x2 := cell_at hX 2; have x3 := cell_at hX 3; have fr := free_at hX 3; simp at x0 x1 x2 x3; have hz4 : wr.heap.size + 1 < w4.heap.size := (by have := hg4.size; simp at this; omega); have HO4 : Hid (OwnsI w4 (wr.heap.size + 1) (.slice (some ⟨g4, 0, none⟩) K cap4) ks ∧ Below wr.heap.size wr w4) := ⟨hown4, (by have h1 : Below wr.heap.size wr ((wr.alloc (.cells #[.int .i64 kd, .int .i64 nm, .string tx, .slice (some ad) K kc] 87)).alloc (.cells #[] 3)) := (by go_grown); exact h1.trans ⟨hg4.os, hg4.tape, hg4.output, hg4.size, fun k hk => hg4.block k (by simp; omega) (by simp [Value.ownBlock]; omega)⟩)⟩; clear hown4 hg4 hn4 hX) | (at_builtin; (refine appendR (enc := ndC) (k := 4) (fun _ => rfl) rfl _ _ 24 rfl w.heap.size 87 _ 56 Tryz.underlying24 Tryz.infoNode rfl (by decide) (HOn.out (w4.setCell ⟨wr.heap.size, 3, none⟩ (.slice (some ⟨g4, 0, none⟩) K cap4)) (HO4.out.2.setCell (p := ⟨wr.heap.size, 3, none⟩) (Nat.le_refl _) _)) (⟨kd, nm, tx, ks⟩, .slice (some ⟨g4, 0, none⟩) K cap4) (ndC_ones _ _ _ _) rfl (by first | rfl | (simp [Act.eval]; done)) hpl (by omega) (by simp; omega) ?_); intro v5 w5 hown5 hb5 hs5 hg5))
        have HN5 : Hid (Grows w w5 v5 (ps ++ [(⟨kd, nm, tx, ks⟩, .slice (some ⟨g4, 0, none⟩) K cap4)])) := by
          refine HG.out.1.more (HO4.out.2.setCell (p := ⟨wr.heap.size, 3, none⟩) (Nat.le_refl _) _) ?_ hown5 hg5 (hb5 w ?_)
          · have h4 := (OwnsR.lt HO4.out.1 g4 (by simp [fpOf, Value.ownBlock])).1
            have h5 : OwnsI (w4.setCell ⟨wr.heap.size, 3, none⟩ (.slice (some ⟨g4, 0, none⟩) K cap4)) (wr.heap.size + 1) (.slice (some ⟨g4, 0, none⟩) K cap4) ks := OwnsR.same HO4.out.1 (fun g hg => by
              have : g = g4 := by simpa [fpOf, Value.ownBlock] using hg
              exact kept_set (by omega))
            exact owns_base h5 (by omega)
          · have h0 := HG.out.1.below
            exact (h0.trans (HO4.out.2.mono hsz)).setCell (p := ⟨wr.heap.size, 3, none⟩) hsz _
        have HV5 : Hid (∃ og oc : Nat, v5 = .slice (some ⟨og, 0, none⟩) (t + 1) oc) := by
          rcases OwnsR.form HN5.out.phys.1 with ⟨_, h0⟩ | ⟨g5, cap5, h5, _⟩
          · simp at h0
          · refine ⟨g5, cap5, h5.trans ?_⟩
            have h1 := congrArg List.length HG.out.2
            simp at h1
            rw [List.length_append, List.length_singleton, show ps.length = t by omega]
        have HJ5 : Hid (∃ ps, ps.map Prod.fst = ns.take (t + 1) ∧ Grows w w5 v5 ps) := ⟨_, by rw [List.map_append, HG.out.2, hnx.out]; rfl, HN5.out⟩
        clear hown5 hb5 hs5 hg5 HN5 HG HOn HO4 x0 x1 x2 x3 fr
        go_wp2
        go_roundw
        case rel => exact ⟨t + 1, by omega, by go_num, HV5.out, HJ5⟩
        case measure => simp [intOf]; omega
    · have htN : Hid (t = N) := (by omega : t = N)
      have HF : Hid (∃ ps, ps.map Prod.fst = ns ∧ Grows w wr (.slice (some ⟨og, 0, none⟩) t oc) ps) := ⟨ps, by rw [hps, htN.out, ← HN.out, List.take_length], hg⟩
      rw [htN.out] at HF ⊢
      clear hps hg HJ
      go_wp2
      go_ret
      exact ⟨og, oc, rfl, HF.out⟩

end Go.Proofs.YtbanmldmdoedkaaGreatDoor
