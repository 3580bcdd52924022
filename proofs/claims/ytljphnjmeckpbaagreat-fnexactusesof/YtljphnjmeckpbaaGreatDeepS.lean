/-
  DeepOf, in the model: what it answers at every row of nodes and every place.
-/
import Derived.Test.YtljphnjmeckpbaaGreatLawNode
import Derived.Test.YtljphnjmeckpbaaGreatPlain17
namespace Go.Proofs.YtljphnjmeckpbaaGreat
open Go.RowKit

theorem RowI.le {w : World} {B : Nat} {v : Value} {xs : List Int} (h : OwnsI w B v xs) : ∃ a cap, v = .slice a xs.length cap ∧ (0 < xs.length → ∃ g, a = some ⟨g, 0, none⟩) := by
  rcases OwnsR.form h with ⟨rfl, rfl⟩ | ⟨g, cap, rfl, _, _⟩
  · exact ⟨none, 0, rfl, fun h => by simp at h⟩
  · exact ⟨some ⟨g, 0, none⟩, cap, rfl, fun _ => ⟨g, rfl⟩⟩
theorem getD_in {xs : List Int} {i : Nat} (h : i < xs.length) : xs.getD i 0 = xs[i] := by simp [List.getD, h]

theorem owns_empty (w : World) : Hid (OwnsI (w.alloc (.cells #[] 3)) w.heap.size (.slice (some ⟨w.heap.size, 0, none⟩) 0 0) []) := by
  show OwnsI _ _ _ _
  exact ⟨rfl, .inr ⟨w.heap.size, 0, #[], rfl, Nat.le_refl _, heap_alloc_new _ _, Nat.le_refl _, Nat.zero_le _, rfl, rfl⟩⟩

set_option maxRecDepth 100000 in
set_option maxHeartbeats 6400000 in
theorem l04Deeps_any (va : Option Addr) (N cap m : Nat) (ns : List Nd) (w : World) (hm : m < N) (hR : NdR.Row w w.heap.size (.slice va N cap) ns) (hN : Hid (ns.length = N)) (hl : szRow szNd ns ≤ 1048576) :
    Calls Tryz.prog 46 #[.slice va N cap, .int .i64 (m : Int)] w fun e w' => (∃ v, e = .returned v ∧ OwnsI w' w.heap.size v (deeps ns (m + 1))) ∧ Below w.heap.size w w' := by
  have hNl : N ≤ 1048576 := by have := len_szRow szNd ns; have := hN.out; omega
  have HR : Hid (NdR.Row w w.heap.size (.slice va N cap) ns) := hR
  have HL : Hid (szRow szNd ns ≤ 1048576) := hl
  clear hR hl
  go_enter Tryz.func46, Tryz.ntmps46
  go_wp2
  go_loopw [5, 6] (fun o i wr => ∃ t : Nat, t ≤ m + 1 ∧ i = .int .i64 (t : Int) ∧ Hid (OwnsI wr w.heap.size o (deeps ns t)) ∧ Below w.heap.size w wr) (fun _ i _ => m + 1 - (intOf i).toNat)
  case atStart => exact ⟨0, Nat.zero_le _, rfl, owns_empty w, by go_grown⟩
  case round =>
    obtain ⟨t, ht, rfl, HO, hbw⟩ := hrel
    obtain ⟨oa, oc, hu5, hg⟩ := RowI.le HO.out
    rw [deeps_len] at hu5 hg
    subst hu5
    by_cases hlt : t < m + 1
    · have ht1 : (t : Int) ≤ (m : Int) := by omega
      have ht2 : (t : Int) < (N : Int) := by omega
      have ht0 : (0 : Int) ≤ (t : Int) := by omega
      have htl : t < ns.length := by rw [hN.out]; omega
      obtain ⟨ok, hok⟩ : ∃ r, Hid (nodeOk ns (t : Int) = r) := ⟨_, (rfl : nodeOk ns (t : Int) = nodeOk ns (t : Int))⟩
      have cN : Hid (∀ W, Below w.heap.size w W → Calls Tryz.prog 74 #[.slice va N cap, .int .i64 (t : Int)] W fun e w' => e = .returned (.bool ok) ∧ Below W.heap.size W w') := fun W hW => by
        rw [← hok.out]
        exact specNodeOk_sz _ ns _ W ((HR.out.keep hW).up hW.size) HL.out
      have hlen : (deeps ns t).length ≤ 10000000 := by rw [deeps_len]; omega
      go_wp2_with fail
      go_at_call 74
      refine Calls.mono (cN.out _ hbw) ?_
      rintro e w1 ⟨rfl, hb1⟩
      have hown : OwnsI w1 w.heap.size (.slice oa t oc) (deeps ns t) := OwnsR.below HO.out hb1
      have hBw1 : Below w.heap.size w w1 := hbw.trans (hb1.mono hbw.size)
      have hsz := hBw1.size
      clear cN hb1 HO
      cases ok
      · have HD : Hid (deepNext ns (deeps ns t) t = 0) := by show _ = _; unfold deepNext goOn; rw [hok.out]; rfl
        go_wp2
        refine wp_loop_rounds 1 ?_
        rw [rounds_succ]
        go_wp2_with (at_builtin; go_must (refine appendR inC_len rfl _ _ 35 rfl w.heap.size 3 _ 8 Tryz.underlying35 Tryz.infoInt rfl (by decide) hown 0 (inC_ones _) rfl (by first | rfl | (simp [Act.eval]; done)) hlen (by omega) hsz ?_); intro v4 w4 hown4 hb4 hs4 hg4)
        have HO4 : Hid (OwnsI w4 w.heap.size v4 (deeps ns (t + 1))) := by
          show OwnsI _ _ _ _
          rw [deeps, HD.out]
          exact hown4
        have HB4 : Hid (Below w.heap.size w w4) := hb4 w hBw1
        clear hown4 hb4 hs4 hg4 hown hBw1
        go_wp2
        go_roundw
        case rel => exact ⟨t + 1, by omega, by go_num, HO4, HB4.out⟩
        case measure => simp [intOf]; omega
      rcases Nat.eq_zero_or_pos t with htz | htz
      · have HG : Hid (goOn ns (deeps ns t) t = true) := by show _ = _; unfold goOn; rw [hok.out]; simp [htz]
        have hnp : ¬ (0 : Int) < (t : Int) := by omega
        clear htz
        obtain ⟨b, off, ka, kc, rfl, hb, _, _, _, c3, hK⟩ := RowNd.at HR.out (t) htl
        obtain ⟨ks, hks⟩ : ∃ ks, Hid (ns[t].kids = ks) := ⟨_, (rfl : ns[t].kids = ns[t].kids)⟩
        rw [hks.out] at c3 hK
        have HKS : Hid ((ns.getD (t) nd0).kids = ks) := by show _ = _; rw [← hks.out]; simp [List.getD, htl]
        obtain ⟨K, HK⟩ : ∃ K, Hid (ks.length = K) := ⟨_, (rfl : ks.length = ks.length)⟩
        rw [HK.out] at c3 hK
        have HI : Hid (RowI w w.heap.size (.slice ka K kc) ks) := hK
        have hKl : K ≤ 1048576 := by
          have h1 := Nat.le_trans (Nat.le_trans (le_szNd_kids ns[t]) (mem_szRow szNd (List.getElem_mem htl))) HL.out
          rw [hks.out, HK.out] at h1
          exact h1
        have d3 := (hBw1.cell (p := ⟨b, off + (t) * 4 + 3, none⟩) hb).trans c3
        have HW : Hid (OwnsI w1 w.heap.size (.slice oa (t) oc) (deeps ns (t)) ∧ Below w.heap.size w w1) := ⟨hown, hBw1⟩
        clear c3 hK hown hBw1
        go_wp2_with fail
        go_loop [7, 8] (fun d j => ∃ (s : Nat) (D : Int), s ≤ K ∧ j = .int .i64 (s : Int) ∧ d = .int .i64 D ∧ 0 < D ∧ D ≤ 11 ∧ Hid (D = mxTo (deeps ns (t)) ks s + 1)) (fun _ j => K - (intOf j).toNat)
        case atStart => exact ⟨0, 1, Nat.zero_le _, rfl, rfl, by omega, by omega, rfl⟩
        case round =>
          obtain ⟨s, D, hs, rfl, rfl, hD0, hD1, HDm⟩ := hrel
          by_cases hsl : s < K
          · have hs0 : (0 : Int) ≤ (s : Int) := by omega
            have hs1 : (s : Int) < (K : Int) := by omega
            have hskl : s < ks.length := by have := HK.out; omega
            obtain ⟨kb, ko, rfl, hkb, e0⟩ := HI.out.at s hskl
            obtain ⟨c, hc⟩ : ∃ c, Hid (ks[s] = c) := ⟨_, (rfl : ks[s] = ks[s])⟩
            have f0 := (HW.out.2.cell (p := ⟨kb, ko + s, none⟩) hkb).trans e0
            rw [hc.out] at f0
            have hgd : Hid (ks.getD s 0 = c) := by show _ = _; rw [← hc.out]; simp [List.getD, hskl]
            have hcb : 0 ≤ c ∧ c < ((t : Nat) : Int) := by
              have := kid_lt hok.out (j := s) (by rw [HKS.out]; exact hskl)
              rw [HKS.out, hgd.out] at this
              exact this
            exfalso; omega
          · have HsK : Hid (s = K) := (by omega : s = K)
            have HDf : Hid (deepNext ns (deeps ns (t)) (t) = if 10 < D then 0 else D) := by
              show _ = _
              unfold deepNext
              rw [if_pos HG.out, HKS.out, HK.out, ← HsK.out, ← HDm.out]
            obtain ⟨hown, hBw1⟩ := HW.out
            by_cases hd10 : 10 < D
            · have HD : Hid (deepNext ns (deeps ns (t)) (t) = 0) := by show _ = _; rw [HDf.out, if_pos hd10]
              clear HDf
              go_wp2_with (at_builtin; go_must (refine appendR inC_len rfl _ _ 35 rfl w.heap.size 3 _ 8 Tryz.underlying35 Tryz.infoInt rfl (by decide) hown 0 (inC_ones _) rfl (by first | rfl | (simp [Act.eval]; done)) hlen (by omega) hsz ?_); intro v4 w4 hown4 hb4 hs4 hg4)
              have HO4 : Hid (OwnsI w4 w.heap.size v4 (deeps ns (t + 1))) := by
                show OwnsI _ _ _ _
                rw [deeps, HD.out]
                exact hown4
              have HB4 : Hid (Below w.heap.size w w4) := hb4 w hBw1
              clear hown4 hb4 hs4 hg4 hown hBw1
              go_wp2
              go_roundw
              case rel => exact ⟨t + 1, by omega, by go_num, HO4, HB4.out⟩
              case measure => simp [intOf]; omega
            · have HD : Hid (deepNext ns (deeps ns (t)) (t) = D) := by show _ = _; rw [HDf.out, if_neg hd10]
              clear HDf
              go_wp2_with (at_builtin; go_must (refine appendR inC_len rfl _ _ 35 rfl w.heap.size 3 _ 8 Tryz.underlying35 Tryz.infoInt rfl (by decide) hown D (inC_ones _) rfl (by first | rfl | (simp [Act.eval]; done)) hlen (by omega) hsz ?_); intro v4 w4 hown4 hb4 hs4 hg4)
              have HO4 : Hid (OwnsI w4 w.heap.size v4 (deeps ns (t + 1))) := by
                show OwnsI _ _ _ _
                rw [deeps, HD.out]
                exact hown4
              have HB4 : Hid (Below w.heap.size w w4) := hb4 w hBw1
              clear hown4 hb4 hs4 hg4 hown hBw1
              go_wp2
              go_roundw
              case rel => exact ⟨t + 1, by omega, by go_num, HO4, HB4.out⟩
              case measure => simp [intOf]; omega
      obtain ⟨tp, rfl⟩ : ∃ tp : Nat, t = tp + 1 := ⟨t - 1, by omega⟩
      obtain ⟨og, rfl⟩ := hg (by omega)
      obtain ⟨pv, hpv⟩ : ∃ p, Hid ((deeps ns (tp + 1)).getD tp 0 = p) := ⟨_, (rfl : (deeps ns (tp + 1)).getD tp 0 = (deeps ns (tp + 1)).getD tp 0)⟩
      have p0 : w1.cell? ⟨og, tp, none⟩ = some (.int .i64 pv) := by
        have := OwnsR.cell inC_len hown (deeps_len ns (tp + 1)).symm tp 0 (by rw [deeps_len]; omega) (by omega)
        rw [← hpv.out, getD_in (by rw [deeps_len]; omega)]
        simpa [inC] using this
      by_cases hp0 : pv = 0
      · have HD : Hid (deepNext ns (deeps ns (tp + 1)) (tp + 1) = 0) := by
          show _ = _
          unfold deepNext goOn
          rw [hok.out, Nat.add_sub_cancel, hpv.out, hp0]
          simp
        subst hp0
        go_wp2
        refine wp_loop_rounds 1 ?_
        rw [rounds_succ]
        go_wp2_with (at_builtin; go_must (refine appendR inC_len rfl _ _ 35 rfl w.heap.size 3 _ 8 Tryz.underlying35 Tryz.infoInt rfl (by decide) hown 0 (inC_ones _) rfl (by first | rfl | (simp [Act.eval]; done)) hlen (by omega) hsz ?_); intro v4 w4 hown4 hb4 hs4 hg4)
        have HO4 : Hid (OwnsI w4 w.heap.size v4 (deeps ns ((tp + 1) + 1))) := by
          show OwnsI _ _ _ _
          rw [deeps, HD.out]
          exact hown4
        have HB4 : Hid (Below w.heap.size w w4) := hb4 w hBw1
        clear hown4 hb4 hs4 hg4 hown hBw1
        go_wp2
        go_roundw
        case rel => exact ⟨(tp + 1) + 1, by omega, by go_num, HO4, HB4.out⟩
        case measure => simp [intOf]; omega
      have HG : Hid (goOn ns (deeps ns (tp + 1)) (tp + 1) = true) := by
        show _ = _
        unfold goOn
        rw [hok.out, Nat.add_sub_cancel, hpv.out]
        simp [hp0]
      have hpb : (pv == 0) = false := by simpa using hp0
      clear hp0
      obtain ⟨b, off, ka, kc, rfl, hb, _, _, _, c3, hK⟩ := RowNd.at HR.out (tp + 1) htl
      obtain ⟨ks, hks⟩ : ∃ ks, Hid (ns[tp + 1].kids = ks) := ⟨_, (rfl : ns[tp + 1].kids = ns[tp + 1].kids)⟩
      rw [hks.out] at c3 hK
      have HKS : Hid ((ns.getD (tp + 1) nd0).kids = ks) := by show _ = _; rw [← hks.out]; simp [List.getD, htl]
      obtain ⟨K, HK⟩ : ∃ K, Hid (ks.length = K) := ⟨_, (rfl : ks.length = ks.length)⟩
      rw [HK.out] at c3 hK
      have HI : Hid (RowI w w.heap.size (.slice ka K kc) ks) := hK
      have hKl : K ≤ 1048576 := by
        have h1 := Nat.le_trans (Nat.le_trans (le_szNd_kids ns[tp + 1]) (mem_szRow szNd (List.getElem_mem htl))) HL.out
        rw [hks.out, HK.out] at h1
        exact h1
      have d3 := (hBw1.cell (p := ⟨b, off + (tp + 1) * 4 + 3, none⟩) hb).trans c3
      have HW : Hid (OwnsI w1 w.heap.size (.slice (some ⟨og, 0, none⟩) (tp + 1) oc) (deeps ns (tp + 1)) ∧ Below w.heap.size w w1) := ⟨hown, hBw1⟩
      clear c3 hK hown hBw1
      go_wp2_with fail
      go_loop [7, 8] (fun d j => ∃ (s : Nat) (D : Int), s ≤ K ∧ j = .int .i64 (s : Int) ∧ d = .int .i64 D ∧ 0 < D ∧ D ≤ 11 ∧ Hid (D = mxTo (deeps ns (tp + 1)) ks s + 1)) (fun _ j => K - (intOf j).toNat)
      case atStart => exact ⟨0, 1, Nat.zero_le _, rfl, rfl, by omega, by omega, rfl⟩
      case round =>
        obtain ⟨s, D, hs, rfl, rfl, hD0, hD1, HDm⟩ := hrel
        by_cases hsl : s < K
        · have hs0 : (0 : Int) ≤ (s : Int) := by omega
          have hs1 : (s : Int) < (K : Int) := by omega
          have hskl : s < ks.length := by have := HK.out; omega
          obtain ⟨kb, ko, rfl, hkb, e0⟩ := HI.out.at s hskl
          obtain ⟨c, hc⟩ : ∃ c, Hid (ks[s] = c) := ⟨_, (rfl : ks[s] = ks[s])⟩
          have f0 := (HW.out.2.cell (p := ⟨kb, ko + s, none⟩) hkb).trans e0
          rw [hc.out] at f0
          have hgd : Hid (ks.getD s 0 = c) := by show _ = _; rw [← hc.out]; simp [List.getD, hskl]
          have hcb : 0 ≤ c ∧ c < ((tp + 1 : Nat) : Int) := by
            have := kid_lt hok.out (j := s) (by rw [HKS.out]; exact hskl)
            rw [HKS.out, hgd.out] at this
            exact this
          obtain ⟨cn, rfl⟩ : ∃ cn : Nat, c = (cn : Int) := ⟨c.toNat, by omega⟩
          have hc0 : (0 : Int) ≤ (cn : Int) := by omega
          have hc1 : (cn : Int) < ((tp + 1 : Nat) : Int) := hcb.2
          obtain ⟨x, hx⟩ : ∃ x, Hid ((deeps ns (tp + 1)).getD cn 0 = x) := ⟨_, (rfl : (deeps ns (tp + 1)).getD cn 0 = (deeps ns (tp + 1)).getD cn 0)⟩
          have g0 : w1.cell? ⟨og, cn, none⟩ = some (.int .i64 x) := by
            have := OwnsR.cell inC_len HW.out.1 (deeps_len ns (tp + 1)).symm cn 0 (by rw [deeps_len]; omega) (by omega)
            rw [← hx.out, getD_in (by rw [deeps_len]; omega)]
            simpa [inC] using this
          have hxb := deeps_bound ns (tp + 1) cn
          rw [hx.out] at hxb
          have HM : Hid (mxTo (deeps ns (tp + 1)) ks (s + 1) = max (mxTo (deeps ns (tp + 1)) ks s) x) := by show _ = _; rw [mxTo, hgd.out]; simp only [Int.toNat_natCast]; rw [hx.out]
          clear e0 hcb
          by_cases hxd : D < x + 1
          · have HN : Hid (x + 1 = mxTo (deeps ns (tp + 1)) ks (s + 1) + 1) := by show _ = _; rw [HM.out]; have := HDm.out; omega
            go_wp2
            go_round
            case rel => exact ⟨s + 1, x + 1, by omega, by go_num, rfl, by omega, by omega, HN⟩
            case measure => simp [intOf]; omega
          · have HN : Hid (D = mxTo (deeps ns (tp + 1)) ks (s + 1) + 1) := by show _ = _; rw [HM.out]; have := HDm.out; omega
            go_wp2
            go_round
            case rel => exact ⟨s + 1, D, by omega, by go_num, rfl, hD0, hD1, HN⟩
            case measure => simp [intOf]; omega

        · have HsK : Hid (s = K) := (by omega : s = K)
          have HDf : Hid (deepNext ns (deeps ns (tp + 1)) (tp + 1) = if 10 < D then 0 else D) := by
            show _ = _
            unfold deepNext
            rw [if_pos HG.out, HKS.out, HK.out, ← HsK.out, ← HDm.out]
          obtain ⟨hown, hBw1⟩ := HW.out
          by_cases hd10 : 10 < D
          · have HD : Hid (deepNext ns (deeps ns (tp + 1)) (tp + 1) = 0) := by show _ = _; rw [HDf.out, if_pos hd10]
            clear HDf
            go_wp2_with (at_builtin; go_must (refine appendR inC_len rfl _ _ 35 rfl w.heap.size 3 _ 8 Tryz.underlying35 Tryz.infoInt rfl (by decide) hown 0 (inC_ones _) rfl (by first | rfl | (simp [Act.eval]; done)) hlen (by omega) hsz ?_); intro v4 w4 hown4 hb4 hs4 hg4)
            have HO4 : Hid (OwnsI w4 w.heap.size v4 (deeps ns (tp + 1 + 1))) := by
              show OwnsI _ _ _ _
              rw [deeps, HD.out]
              exact hown4
            have HB4 : Hid (Below w.heap.size w w4) := hb4 w hBw1
            clear hown4 hb4 hs4 hg4 hown hBw1
            go_wp2
            go_roundw
            case rel => exact ⟨tp + 1 + 1, by omega, by go_num, HO4, HB4.out⟩
            case measure => simp [intOf]; omega
          · have HD : Hid (deepNext ns (deeps ns (tp + 1)) (tp + 1) = D) := by show _ = _; rw [HDf.out, if_neg hd10]
            clear HDf
            go_wp2_with (at_builtin; go_must (refine appendR inC_len rfl _ _ 35 rfl w.heap.size 3 _ 8 Tryz.underlying35 Tryz.infoInt rfl (by decide) hown D (inC_ones _) rfl (by first | rfl | (simp [Act.eval]; done)) hlen (by omega) hsz ?_); intro v4 w4 hown4 hb4 hs4 hg4)
            have HO4 : Hid (OwnsI w4 w.heap.size v4 (deeps ns (tp + 1 + 1))) := by
              show OwnsI _ _ _ _
              rw [deeps, HD.out]
              exact hown4
            have HB4 : Hid (Below w.heap.size w w4) := hb4 w hBw1
            clear hown4 hb4 hs4 hg4 hown hBw1
            go_wp2
            go_roundw
            case rel => exact ⟨tp + 1 + 1, by omega, by go_num, HO4, HB4.out⟩
            case measure => simp [intOf]; omega
    · have htm : Hid (t = m + 1) := (by omega : t = m + 1)
      have HF : Hid (OwnsI wr w.heap.size (.slice oa t oc) (deeps ns (m + 1))) := by
        have := HO.out
        rw [htm.out] at this ⊢
        exact this
      go_wp2
      go_ret
      exact ⟨⟨_, rfl, HF.out⟩, hbw⟩

end Go.Proofs.YtljphnjmeckpbaaGreat
