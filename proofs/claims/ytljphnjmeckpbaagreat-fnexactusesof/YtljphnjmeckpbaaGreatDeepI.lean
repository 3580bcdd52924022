/-
  DeepOf, in the model and in the program: what it answers at every row of nodes and every place.
-/
import Derived.Test.YtljphnjmeckpbaaGreatDeepS
import Derived.RegionTactic
import Derived.BigRegion
namespace Go.Proofs.YtljphnjmeckpbaaGreat
open Go.RowKit

theorem OwnsI.set {w : World} {B g n cap : Nat} {xs : List Int} (h : OwnsI w B (.slice (some ⟨g, 0, none⟩) n cap) xs) (hn : n = xs.length) (i : Nat) (hi : i < xs.length) (y : Int) : OwnsI (w.setCell ⟨g, i, none⟩ (.int .i64 y)) B (.slice (some ⟨g, 0, none⟩) n cap) (xs.set i y) := by
  have := OwnsR.stored inC_len h hn i 0 hi (by omega) y (.int .i64 y) (by simp [inC])
  simp only [Nat.mul_one, Nat.add_zero] at this
  exact this
theorem OwnsI.cellAt {w : World} {B g n cap : Nat} {xs : List Int} (h : OwnsI w B (.slice (some ⟨g, 0, none⟩) n cap) xs) (hn : n = xs.length) (i : Nat) (hi : i < xs.length) (x : Int) (hx : xs[i] = x) : w.cell? ⟨g, i, none⟩ = some (.int .i64 x) := by
  have := OwnsR.cell inC_len h hn i 0 hi (by omega)
  rw [← hx]
  simpa [inC] using this
theorem OwnsI.freeAt {w : World} {B g n cap : Nat} {xs : List Int} (h : OwnsI w B (.slice (some ⟨g, 0, none⟩) n cap) xs) (hn : n = xs.length) (i : Nat) : w.frozen? ⟨g, i, none⟩ = false := OwnsR.free h hn i

/-- A row with one number in its midst. -/
def mid (D : List Int) (d : Int) (r : Nat) : List Int := D ++ d :: List.replicate r 0
theorem mid_len (D : List Int) (d : Int) (r : Nat) : (mid D d r).length = D.length + 1 + r := by simp [mid]; omega
theorem mid_at (D : List Int) (d : Int) (r t : Nat) (h : D.length = t) : (mid D d r)[t]'(by rw [mid_len]; omega) = d := by
  subst h
  simp [mid]
theorem mid_pre (D : List Int) (d : Int) (r i : Nat) (h : i < D.length) : (mid D d r)[i]'(by rw [mid_len]; omega) = D.getD i 0 := by
  simp only [mid, List.getD]
  rw [List.getElem_append_left h, List.getElem?_eq_getElem h]
  rfl
theorem mid_set (D : List Int) (d e : Int) (r t : Nat) (h : D.length = t) : (mid D d r).set t e = mid D e r := by
  subst h
  simp [mid]

theorem specDeepOf_any (v : Value) (ns : List Nd) (k : Int) (w : World) (hR : NdR.Row w w.heap.size v ns) (hl : szRow szNd ns ≤ 1048576) :
    Calls Tryz.prog 77 #[v, .int .i64 k] w fun e w' => e = .returned (.int .i64 (deepOf ns k)) ∧ Below w.heap.size w w' := by
  obtain ⟨a, cap, rfl⟩ := hR.len
  obtain ⟨N, HN⟩ : ∃ N, Hid (ns.length = N) := ⟨_, (rfl : ns.length = ns.length)⟩
  have HR : Hid (NdR.Row w w.heap.size (.slice a N cap) ns) := by rw [← HN.out]; exact hR
  have hNl : N ≤ 1048576 := by have := len_szRow szNd ns; have := HN.out; omega
  rw [HN.out]
  clear hR
  rcases isIn_cases k 0 ((N : Int) - 1) with ⟨_, h⟩ | ⟨i1, h0, h1⟩
  · have HE : Hid (deepOf ns k = 0) := deepOf_out (by rw [HN.out]; omega)
    go_enter Tryz.func77, Tryz.ntmps77
    go_wp2_with (go_at_call 45; refine (l01In_no _ _ _ _ h).mono ?_; rintro e w1 ⟨rfl, rfl⟩)
    go_ret
    exact ⟨by rw [HE.out]; rfl, Below.refl _ _⟩
  · obtain ⟨m, rfl⟩ : ∃ m : Nat, k = (m : Int) := ⟨k.toNat, by omega⟩
    have hm : m < N := by omega
    have cD : Hid (∀ W, Below w.heap.size w W → Calls Tryz.prog 46 #[.slice a N cap, .int .i64 (m : Int)] W fun e w' => (∃ v, e = .returned v ∧ OwnsI w' W.heap.size v (deeps ns (m + 1))) ∧ Below W.heap.size W w') := fun W hW =>
      l04Deeps_any a N cap m ns W hm ((HR.out.keep hW).up hW.size) HN hl
    obtain ⟨d, hd⟩ : ∃ d, Hid ((deeps ns (m + 1)).getD m 0 = d) := ⟨_, (rfl : (deeps ns (m + 1)).getD m 0 = (deeps ns (m + 1)).getD m 0)⟩
    have HE : Hid (deepOf ns (m : Int) = d) := by show _ = _; rw [← hd.out]; exact deepOf_in (by rw [HN.out]; exact hm)
    have hm0 : (0 : Int) ≤ (m : Int) := by omega
    clear i1
    go_enter Tryz.func77, Tryz.ntmps77
    go_wp2_with (go_at_call 45; refine (l01In_yes _ _ _ _ h0 h1).mono ?_; rintro e w1 ⟨rfl, rfl⟩)
    go_at_call 46
    refine Calls.mono (cD.out _ (Below.refl _ _)) ?_
    rintro e w1 ⟨⟨v, rfl, ho⟩, hb1⟩
    obtain ⟨oa, oc, rfl, hg⟩ := RowI.le ho
    rw [deeps_len] at ho hg ⊢
    obtain ⟨og, rfl⟩ := hg (by omega)
    have c0 := OwnsI.cellAt ho (deeps_len ns (m + 1)).symm m (by rw [deeps_len]; omega) d (by rw [← hd.out, getD_in (by rw [deeps_len]; omega)])
    have hmm : (m : Int) < ((m + 1 : Nat) : Int) := by omega
    clear cD ho hg
    go_wp2
    go_ret
    exact ⟨by rw [HE.out]; rfl, hb1⟩

set_option maxRecDepth 100000 in
set_option maxHeartbeats 6400000 in
theorem implDeepOf_in (va : Option Addr) (N cap m : Nat) (ns : List Nd) (w : World) (hm : m < N) (hR : NdR.Row w w.heap.size (.slice va N cap) ns) (hN : Hid (ns.length = N)) (hl : szRow szNd ns ≤ 1048576) :
    Calls Tryz.prog 55 #[.slice va N cap, .int .i64 (m : Int)] w fun e w' => e = .returned (.int .i64 (deepOf ns (m : Int))) ∧ Below w.heap.size w w' := by
  have hNl : N ≤ 1048576 := by have := len_szRow szNd ns; have := hN.out; omega
  have hml : m < ns.length := by rw [hN.out]; exact hm
  have HR : Hid (NdR.Row w w.heap.size (.slice va N cap) ns) := hR
  have HL : Hid (szRow szNd ns ≤ 1048576) := hl
  obtain ⟨z, hz⟩ : ∃ z, Hid (deepOf ns (m : Int) = z) := ⟨_, (rfl : deepOf ns (m : Int) = deepOf ns (m : Int))⟩
  rw [hz.out]
  have cB : Hid (∀ W, Calls Tryz.prog 81 #[.slice va N cap, .int .i64 (m : Int)] W fun e w' => e = .returned (.bool true) ∧ w' = W) := fun W => by
    have := isPlace_any va N cap (m : Int) W
    rw [isIn_yes (by omega) (by omega)] at this
    exact this
  clear hR hl
  obtain ⟨i0, hi, hz0, hz1, hz2⟩ := info_parts Tryz.infoInt
  go_enter Tryz.func55, Tryz.ntmps55
  go_wp2_with (first | (go_at_call 81; refine Calls.mono (cB.out _) ?_; rintro e w1 ⟨rfl, h⟩; obtain rfl := h.symm) | (at_make; refine wpList_make_full _ rfl _ _ 35 rfl w.heap.size 3 i0 _ 1 Tryz.underlying35 hi hz0 hz1 _ _ _ _ (m + 1) rfl rfl (by omega) (by omega) (by rw [hz2]; omega) (by unfold maxLen; omega) (Nat.le_refl _) ?_; intro w0 hown0 hg0))
  clear hi hz0 hz1 hz2 cB
  go_loopw [18] (fun i wr => ∃ t : Nat, t ≤ m + 1 ∧ i = .int .i64 (t : Int) ∧ Hid (OwnsI wr w.heap.size (.slice (some ⟨w.heap.size, 0, none⟩) (m + 1) (m + 1)) (deeps ns t ++ List.replicate (m + 1 - t) 0)) ∧ Hid (∀ i, i < t → (deeps ns t).getD i 0 ≠ 0) ∧ Below w.heap.size w wr) (fun i _ => m + 1 - (intOf i).toNat)
  case atStart =>
    refine ⟨0, Nat.zero_le _, rfl, ?_, fun i hi => by omega, (Below.refl _ _).grown hg0 (Nat.le_refl _) (fun k hk => by cases hk)⟩
    show OwnsI _ _ _ _
    unfold OwnsI OwnsR
    rw [deeps, List.nil_append, Nat.sub_zero, List.length_replicate, ← zero_ints]
    exact hown0
  case round =>
    obtain ⟨t, ht, rfl, HO, HZ, hbw⟩ := hrel
    clear hown0 hg0
    by_cases hlt : t < m + 1
    · have ht1 : (t : Int) ≤ (m : Int) := by omega
      have ht2 : (t : Int) < (N : Int) := by omega
      have ht0 : (0 : Int) ≤ (t : Int) := by omega
      have ht3 : (t : Int) < ((m + 1 : Nat) : Int) := by omega
      have htl : t < ns.length := by rw [hN.out]; omega
      obtain ⟨ok, hok⟩ : ∃ r, Hid (nodeOk ns (t : Int) = r) := ⟨_, (rfl : nodeOk ns (t : Int) = nodeOk ns (t : Int))⟩
      have cN : Hid (∀ W, Below w.heap.size w W → Calls Tryz.prog 82 #[.slice va N cap, .int .i64 (t : Int)] W fun e w' => e = .returned (.bool ok) ∧ Below W.heap.size W w') := fun W hW => by
        rw [← hok.out]
        exact implNodeOk_any _ ns _ W ((HR.out.keep hW).up hW.size) HL.out
      go_wp2_with fail
      go_at_call 82
      refine Calls.mono (cN.out _ hbw) ?_
      rintro e w1 ⟨rfl, hb1⟩
      have hBw1 : Below w.heap.size w w1 := hbw.trans (hb1.mono hbw.size)
      have HW : Hid (OwnsI w1 w.heap.size (.slice (some ⟨w.heap.size, 0, none⟩) (m + 1) (m + 1)) (mid (deeps ns t) 0 (m - t)) ∧ Below w.heap.size w w1) := by
        refine ⟨?_, hBw1⟩
        have := OwnsR.below HO.out hb1
        rw [show m + 1 - t = (m - t) + 1 by omega, List.replicate_succ] at this
        exact this
      clear cN hb1 HO
      cases ok
      · have HD : Hid (z = 0) := by
          show _ = _
          rw [← hz.out]
          exact deepOf_zero (t := t) hml (by omega) (by unfold deepNext goOn; rw [hok.out]; rfl)
        go_wp2
        go_ret
        exact ⟨by rw [HD.out]; rfl, hBw1⟩
      have HG : Hid (goOn ns (deeps ns t) t = true) := by
        show _ = _
        unfold goOn
        rw [hok.out, Bool.true_and, Bool.or_eq_true]
        by_cases h0 : t = 0
        · exact .inl (by simp [h0])
        · exact .inr (by have := HZ.out (t - 1) (by omega); simpa using this)
      obtain ⟨b, off, ka, kc, rfl, hb, _, _, _, c3, hK⟩ := RowNd.at HR.out t htl
      obtain ⟨ks, hks⟩ : ∃ ks, Hid (ns[t].kids = ks) := ⟨_, (rfl : ns[t].kids = ns[t].kids)⟩
      rw [hks.out] at c3 hK
      have HKS : Hid ((ns.getD t nd0).kids = ks) := by show _ = _; rw [← hks.out]; simp [List.getD, htl]
      obtain ⟨K, HK⟩ : ∃ K, Hid (ks.length = K) := ⟨_, (rfl : ks.length = ks.length)⟩
      rw [HK.out] at c3 hK
      have HI : Hid (RowI w w.heap.size (.slice ka K kc) ks) := hK
      have hKl : K ≤ 1048576 := by
        have h1 := Nat.le_trans (Nat.le_trans (le_szNd_kids ns[t]) (mem_szRow szNd (List.getElem_mem htl))) HL.out
        rw [hks.out, HK.out] at h1
        exact h1
      have d3 := (hBw1.cell (p := ⟨b, off + t * 4 + 3, none⟩) hb).trans c3
      clear c3 hK
      go_wp2_with fail
      go_loopw [31] (fun j wj => ∃ s : Nat, s ≤ K ∧ j = .int .i64 (s : Int) ∧ Hid (OwnsI wj w.heap.size (.slice (some ⟨w.heap.size, 0, none⟩) (m + 1) (m + 1)) (mid (deeps ns t) (mxTo (deeps ns t) ks s) (m - t)) ∧ Below w.heap.size w wj)) (fun j _ => K - (intOf j).toNat)
      case atStart => exact ⟨0, Nat.zero_le _, rfl, HW⟩
      case round =>
        obtain ⟨s, hs, rfl, HJ⟩ := hrel
        clear d3 HW hBw1
        have hml2 : ∀ d, m + 1 = (mid (deeps ns t) d (m - t)).length := fun d => by rw [mid_len, deeps_len]; omega
        by_cases hsl : s < K
        · have hs0 : (0 : Int) ≤ (s : Int) := by omega
          have hs1 : (s : Int) < (K : Int) := by omega
          have hskl : s < ks.length := by have := HK.out; omega
          obtain ⟨kb, ko, rfl, hkb, e0⟩ := HI.out.at s hskl
          obtain ⟨c, hc⟩ : ∃ c, Hid (ks[s] = c) := ⟨_, (rfl : ks[s] = ks[s])⟩
          have f0 := (HJ.out.2.cell (p := ⟨kb, ko + s, none⟩) hkb).trans e0
          rw [hc.out] at f0
          have hgd : Hid (ks.getD s 0 = c) := by show _ = _; rw [← hc.out]; simp [List.getD, hskl]
          have hcb : 0 ≤ c ∧ c < (t : Int) := by
            have := kid_lt hok.out (j := s) (by rw [HKS.out]; exact hskl)
            rw [HKS.out, hgd.out] at this
            exact this
          obtain ⟨cn, rfl⟩ : ∃ cn : Nat, c = (cn : Int) := ⟨c.toNat, by omega⟩
          have hc0 : (0 : Int) ≤ (cn : Int) := by omega
          have hc1 : (cn : Int) < ((m + 1 : Nat) : Int) := by omega
          have hcn : cn < t := by omega
          obtain ⟨x, hx⟩ : ∃ x, Hid ((deeps ns t).getD cn 0 = x) := ⟨_, (rfl : (deeps ns t).getD cn 0 = (deeps ns t).getD cn 0)⟩
          obtain ⟨y, hy⟩ : ∃ y, Hid (mxTo (deeps ns t) ks s = y) := ⟨_, (rfl : mxTo (deeps ns t) ks s = mxTo (deeps ns t) ks s)⟩
          have HM : Hid (mxTo (deeps ns t) ks (s + 1) = max y x) := by show _ = _; rw [mxTo, hgd.out, hy.out]; simp only [Int.toNat_natCast]; rw [hx.out]
          rw [hy.out] at HJ
          have g0 := OwnsI.cellAt HJ.out.1 (hml2 y) cn (by rw [← hml2]; omega) x (by rw [mid_pre _ _ _ _ (by rw [deeps_len]; exact hcn)]; exact hx.out)
          have g1 := OwnsI.cellAt HJ.out.1 (hml2 y) t (by rw [← hml2]; omega) y (mid_at _ _ _ _ (deeps_len ns t))
          have g2 := OwnsI.freeAt HJ.out.1 (hml2 y) t
          have SJ : Hid (∀ e, max y x = e → OwnsI (wr.setCell ⟨w.heap.size, t, none⟩ (.int .i64 e)) w.heap.size (.slice (some ⟨w.heap.size, 0, none⟩) (m + 1) (m + 1)) (mid (deeps ns t) (mxTo (deeps ns t) ks (s + 1)) (m - t))) := fun e he => by
            have := OwnsI.set HJ.out.1 (hml2 y) t (by rw [← hml2]; omega) e
            rw [mid_set _ _ _ _ _ (deeps_len ns t)] at this
            rw [HM.out, he]
            exact this
          clear e0 hcb hml2
          go_wp2_with fail
          go_region
          have hmx : max y x = (if y < x then x else y) := by split <;> omega
          have HR1 : Hid (OwnsI (wr.setCell ⟨w.heap.size, t, none⟩ (.int .i64 (if y < x then x else y))).drew w.heap.size (.slice (some ⟨w.heap.size, 0, none⟩) (m + 1) (m + 1)) (mid (deeps ns t) (mxTo (deeps ns t) ks (s + 1)) (m - t)) ∧ Below w.heap.size w (wr.setCell ⟨w.heap.size, t, none⟩ (.int .i64 (if y < x then x else y))).drew) := ⟨World.ownsRow.drew (SJ.out _ hmx), (HJ.out.2.setCell (p := ⟨w.heap.size, t, none⟩) (Nat.le_refl _) _).drew⟩
          clear hmx g0 g1 g2 f0
          go_wp2
          go_roundw
          case rel => exact ⟨s + 1, by omega, by go_num, HR1⟩
          case measure => simp [intOf]; omega
        · have HsK : Hid (s = K) := (by omega : s = K)
          obtain ⟨y, hy⟩ : ∃ y, Hid (mxTo (deeps ns t) ks K = y) := ⟨_, (rfl : mxTo (deeps ns t) ks K = mxTo (deeps ns t) ks K)⟩
          rw [HsK.out, hy.out] at HJ
          have hyb := mxTo_bound (fun i => deeps_bound ns t i) ks K
          rw [hy.out] at hyb
          have HDf : Hid (deepNext ns (deeps ns t) t = if 10 < y + 1 then 0 else y + 1) := by
            show _ = _
            unfold deepNext
            rw [if_pos HG.out, HKS.out, HK.out, hy.out]
          have g1 := OwnsI.cellAt HJ.out.1 (hml2 y) t (by rw [← hml2]; omega) y (mid_at _ _ _ _ (deeps_len ns t))
          have g2 := OwnsI.freeAt HJ.out.1 (hml2 y) t
          have SJ : Hid (OwnsI (wr.setCell ⟨w.heap.size, t, none⟩ (.int .i64 (y + 1))) w.heap.size (.slice (some ⟨w.heap.size, 0, none⟩) (m + 1) (m + 1)) (mid (deeps ns t) (y + 1) (m - t)) ∧ Below w.heap.size w (wr.setCell ⟨w.heap.size, t, none⟩ (.int .i64 (y + 1)))) := by
            have := OwnsI.set HJ.out.1 (hml2 y) t (by rw [← hml2]; omega) (y + 1)
            rw [mid_set _ _ _ _ _ (deeps_len ns t)] at this
            exact ⟨this, HJ.out.2.setCell (p := ⟨w.heap.size, t, none⟩) (Nat.le_refl _) _⟩
          clear hml2
          by_cases hd10 : 10 < y + 1
          · have HD : Hid (z = 0) := by
              show _ = _
              rw [← hz.out]
              exact deepOf_zero (t := t) hml (by omega) (by rw [HDf.out, if_pos hd10])
            go_wp2
            go_ret
            exact ⟨by rw [HD.out]; rfl, SJ.out.2⟩
          · have HDn : Hid (deepNext ns (deeps ns t) t = y + 1) := by show _ = _; rw [HDf.out, if_neg hd10]
            have HO1 : Hid (OwnsI (wr.setCell ⟨w.heap.size, t, none⟩ (.int .i64 (y + 1))) w.heap.size (.slice (some ⟨w.heap.size, 0, none⟩) (m + 1) (m + 1)) (deeps ns (t + 1) ++ List.replicate (m + 1 - (t + 1)) 0)) := by
              show OwnsI _ _ _ _
              rw [deeps, HDn.out, show m + 1 - (t + 1) = m - t by omega, List.append_assoc]
              exact SJ.out.1
            have HZ1 : Hid (∀ i, i < t + 1 → (deeps ns (t + 1)).getD i 0 ≠ 0) := fun i hi => by
              rcases Nat.lt_or_ge i t with h | h
              · rw [deeps_more ns h]
                exact HZ.out i h
              · have : i = t := by omega
                subst this
                rw [deeps_last, HDn.out]
                omega
            have HB1 : Hid (Below w.heap.size w (wr.setCell ⟨w.heap.size, t, none⟩ (.int .i64 (y + 1)))) := SJ.out.2
            clear HDf
            go_wp2
            go_roundw
            case rel => exact ⟨t + 1, by omega, by go_num, HO1, HZ1, HB1.out⟩
            case measure => simp [intOf]; omega
    · have htm : Hid (t = m + 1) := (by omega : t = m + 1)
      obtain ⟨d, hd⟩ : ∃ d, Hid ((deeps ns (m + 1)).getD m 0 = d) := ⟨_, (rfl : (deeps ns (m + 1)).getD m 0 = (deeps ns (m + 1)).getD m 0)⟩
      have HD : Hid (z = d) := by show _ = _; rw [← hz.out, deepOf_in hml]; exact hd.out
      have c0 : wr.cell? ⟨w.heap.size, m, none⟩ = some (.int .i64 d) := by
        have := HO.out
        rw [htm.out, Nat.sub_self, List.replicate_zero, List.append_nil] at this
        exact OwnsI.cellAt this (deeps_len ns (m + 1)).symm m (by rw [deeps_len]; omega) d (by rw [← hd.out, getD_in (by rw [deeps_len]; omega)])
      have hmm : (m : Int) < ((m + 1 : Nat) : Int) := by omega
      have hm0 : (0 : Int) ≤ (m : Int) := by omega
      go_wp2
      go_ret
      exact ⟨by rw [HD.out]; rfl, hbw⟩

theorem implDeepOf_any (v : Value) (ns : List Nd) (k : Int) (w : World) (hR : NdR.Row w w.heap.size v ns) (hl : szRow szNd ns ≤ 1048576) :
    Calls Tryz.prog 55 #[v, .int .i64 k] w fun e w' => e = .returned (.int .i64 (deepOf ns k)) ∧ Below w.heap.size w w' := by
  obtain ⟨a, cap, rfl⟩ := hR.len
  by_cases h : k < 0 ∨ (ns.length : Int) ≤ k
  · obtain ⟨N, HN⟩ : ∃ N, Hid (ns.length = N) := ⟨_, (rfl : ns.length = ns.length)⟩
    rw [HN.out] at h ⊢
    have HE : Hid (deepOf ns k = 0) := deepOf_out (by rw [HN.out]; exact h)
    have cB : Hid (∀ W, Calls Tryz.prog 81 #[.slice a N cap, .int .i64 k] W fun e w' => e = .returned (.bool false) ∧ w' = W) := fun W => by
      have := isPlace_any a N cap k W
      rw [isIn_off (by omega)] at this
      exact this
    clear hR hl
    go_enter Tryz.func55, Tryz.ntmps55
    go_wp2_with (go_at_call 81; refine Calls.mono (cB.out _) ?_; rintro e w1 ⟨rfl, h⟩; obtain rfl := h.symm)
    go_ret
    exact ⟨by rw [HE.out]; rfl, Below.refl _ _⟩
  · obtain ⟨m, rfl⟩ : ∃ m : Nat, k = (m : Int) := ⟨k.toNat, by omega⟩
    exact implDeepOf_in a _ cap m ns w (by omega) hR rfl hl

end Go.Proofs.YtljphnjmeckpbaaGreat
