/-
  Chapter 4, in the model: right functions.
-/
import Derived.Test.YtccelfjlffoiiaaImProg2
namespace Go.Proofs.Ytccelfjlffoiiaa
open Go.RowKit

theorem endsOkB_res {ns : List Nd} {f : Fc} (h : f.res < 0 ∨ 2 < f.res) : endsOkB ns f = false := by
  unfold endsOkB
  rw [if_neg (by omega), if_neg (by omega), Bool.and_false]

set_option maxRecDepth 100000 in
set_option maxHeartbeats 6400000 in
theorem l04Fn_any (na fa : Option Addr) (N nc F fc t : Nat) (ns : List Nd) (fs : List Fc) (w : World) (hR : RowPg w w.heap.size (.slice na N nc) (.slice fa F fc) ⟨ns, fs⟩) (HN : Hid (ns.length = N)) (HF : Hid (fs.length = F)) (hNl : N ≤ 1048576) (hFl : F ≤ 1048576) (hfl : szRow szFc fs ≤ 1048576) (hlt : t < F) (q : Fc) (hqe : Hid (fs[t]'(by rw [HF.out]; exact hlt) = q)) :
    Calls Try.prog 48 #[.agg #[.slice na N nc, .slice fa F fc], .int .i64 (t : Int)] w fun e w' => e = .returned (.bool (fnOk ns fs t q)) ∧ Below w.heap.size w w' := by
  have HV : Hid (RowPg w w.heap.size (.slice na N nc) (.slice fa F fc) ⟨ns, fs⟩) := hR
  have ht1 : (t : Int) < (F : Int) := by omega
  have ht0 : (0 : Int) ≤ (t : Int) := by omega
  have htl : t < fs.length := by have := HF.out; omega
  obtain ⟨b, off, pv, rfl, hb, c0, c1, c2, c3, c4, hp⟩ := FcR.at hR.2 t htl
  simp only at c0 c1 c2 c3 c4 hp
  have hsq : szFc q ≤ 1048576 := by rw [← hqe.out]; exact Nat.le_trans (mem_szRow szFc (List.getElem_mem htl)) hfl
  rw [hqe.out] at c0 c2 c3 c4 hp
  obtain ⟨pa, pc, hpv⟩ := hp.len
  obtain ⟨pl, hpl⟩ : ∃ n, Hid (q.params.length = n) := ⟨_, (rfl : q.params.length = q.params.length)⟩
  rw [hpl.out] at hpv
  subst hpv
  have hpll : pl ≤ 1048576 := by
    have h1 := Nat.le_trans (len_szRow szPm q.params) (Nat.le_trans (le_szFc_params q) hsq)
    rw [hpl.out] at h1
    exact h1
  obtain ⟨ok1, hok1⟩ : ∃ r, Hid (nameOk q.name = r) := ⟨_, (rfl : nameOk q.name = nameOk q.name)⟩
  obtain ⟨z2, hz2⟩ : ∃ r, Hid (fnAt fs q.name = r) := ⟨_, (rfl : fnAt fs q.name = fnAt fs q.name)⟩
  have cO : Hid (∀ W, Calls Try.prog 37 #[.string q.name] W fun e w' => e = .returned (.bool ok1) ∧ Below W.heap.size W w') := fun W => by rw [← hok1.out]; exact specNameOk_any q.name W (Nat.le_trans (le_szFc_name q) hsq)
  have cF : Hid (∀ W, Below w.heap.size w W → Calls Try.prog 21 #[.agg #[.slice na N nc, .slice (some ⟨b, off, none⟩) F fc], .string q.name] W fun e w' => e = .returned (.int .i64 z2) ∧ Below W.heap.size W w') := fun W hW => by
    rw [← hz2.out]
    exact specFnAt_any w.heap.size _ _ fs q.name W hW.size (HV.out.2.keep hW) (by have := HF.out; omega)
  have HPM : Hid (PmR.Row w w.heap.size (.slice pa pl pc) q.params ∧ szRow szPm q.params ≤ 1048576) := ⟨hp, Nat.le_trans (le_szFc_params q) hsq⟩
  obtain ⟨out, hout⟩ : ∃ r, Hid (fnOk ns fs t q = r) := ⟨_, (rfl : fnOk ns fs t q = fnOk ns fs t q)⟩
  rw [hout.out]
  have HO : Hid (out = (ok1 && decide (z2 = (t : Int)) && (decide (pl ≤ 3) && q.params.all pmOk) && endsOkB ns q)) := by show _ = _; rw [← hout.out, fnOk, hok1.out, hz2.out, hpl.out]
  have HRes : Hid (q.res < 0 ∨ 2 < q.res → out = false) := fun h => by rw [HO.out, endsOkB_res h, Bool.and_false]
  obtain ⟨fname, fpar, res, body, ret⟩ := q
  simp only at c0 c2 c3 c4 cO cF HO HRes HPM hpl
  clear hp hsq hR
  go_enter Try.func48, Try.ntmps48
  go_wp2_with fail
  go_at_call 37
  refine Calls.mono (cO.out _) ?_
  rintro e w1 ⟨rfl, hb1⟩
  have BP1 : Hid (Box w (.cells #[.slice na N nc, .slice (some ⟨b, off, none⟩) F fc] 37) w1) := ((Box.first _ _).alloc _).next hb1
  have BF1 : Hid (Box (w.alloc (.cells #[.slice na N nc, .slice (some ⟨b, off, none⟩) F fc] 37)) (.cells #[.string fname, .slice pa pl pc, .int .i64 res, .int .i64 body, .int .i64 ret] 76) w1) := (Box.first _ _).next hb1
  have hs1 : (w.alloc (.cells #[.slice na N nc, .slice (some ⟨b, off, none⟩) F fc] 37)).heap.size = w.heap.size + 1 := by simp
  have HFC : Hid (∀ W j, Box (w.alloc (.cells #[.slice na N nc, .slice (some ⟨b, off, none⟩) F fc] 37)) (.cells #[.string fname, .slice pa pl pc, .int .i64 res, .int .i64 body, .int .i64 ret] 76) W → W.cell? ⟨w.heap.size + 1, j, none⟩ = #[.string fname, .slice pa pl pc, .int .i64 res, .int .i64 body, .int .i64 ret][j]?) := fun W j h => by rw [← hs1]; exact h.cell j
  generalize hwA : w.alloc (.cells #[.slice na N nc, .slice (some ⟨b, off, none⟩) F fc] 37) = wA at BF1 HFC hs1
  clear hb1 cO c0 c1 c2 c3 c4 hwA hs1
  cases ok1
  · have HE : Hid (out = false) := by show _ = _; rw [HO.out]; rfl
    go_wp2
    go_ret
    exact ⟨by rw [HE.out]; rfl, BP1.out.below⟩
  have p0 := BP1.out.cell 0
  have p1 := BP1.out.cell 1
  have f0 := HFC.out _ 0 BF1.out
  simp at p0 p1 f0
  go_wp2_with fail
  go_at_call 21
  refine Calls.mono (cF.out _ BP1.out.below) ?_
  rintro e w2 ⟨rfl, hb2⟩
  have BP2 : Hid (Box w (.cells #[.slice na N nc, .slice (some ⟨b, off, none⟩) F fc] 37) w2) := BP1.out.next hb2
  have BF2 : Hid (Box wA (.cells #[.string fname, .slice pa pl pc, .int .i64 res, .int .i64 body, .int .i64 ret] 76) w2) := BF1.out.next hb2
  clear hb2 cF BP1 BF1 p0 p1 f0
  by_cases hz2t : z2 = (t : Int)
  rotate_left
  · have HE : Hid (out = false) := by show _ = _; rw [HO.out]; simp [hz2t]
    have e1 : (z2 != (t : Int)) = true := by simpa using hz2t
    clear hz2t
    go_wp2
    go_ret
    exact ⟨by rw [HE.out]; rfl, BP2.out.below⟩
  subst hz2t
  have f1 := HFC.out _ 1 BF2.out
  have f2 := HFC.out _ 2 BF2.out
  simp at f1 f2
  by_cases h3 : (3 : Int) < (pl : Int)
  · have HE : Hid (out = false) := by show _ = _; rw [HO.out, show decide (pl ≤ 3) = false by simp; omega]; simp
    go_wp2
    go_ret
    exact ⟨by rw [HE.out]; rfl, BP2.out.below⟩
  have HO2 : Hid (out = (fpar.all pmOk && endsOkB ns ⟨fname, fpar, res, body, ret⟩)) := by show _ = _; rw [HO.out, show decide (pl ≤ 3) = true by simp; omega]; simp
  rcases isIn_cases res 0 2 with ⟨_, hres⟩ | ⟨_, hres0, hres2⟩
  · have HE : Hid (out = false) := HRes.out hres
    go_wp2_with (go_at_call 34; refine (l01In_no _ _ _ _ hres).mono ?_; rintro e w1 ⟨rfl, rfl⟩)
    go_ret
    exact ⟨by rw [HE.out]; rfl, BP2.out.below⟩
  clear HRes HO
  go_wp2_with (go_at_call 34; refine (l01In_yes _ _ _ _ hres0 hres2).mono ?_; rintro e w1 ⟨rfl, rfl⟩)
  go_loopw [6] (fun i wr => ∃ k : Nat, k ≤ pl ∧ i = .int .i64 (k : Int) ∧ Hid (∀ j, (hj : j < fpar.length) → j < k → pmOk fpar[j] = true) ∧ Hid (Box w (.cells #[.slice na N nc, .slice (some ⟨b, off, none⟩) F fc] 37) wr ∧ Box wA (.cells #[.string fname, .slice pa pl pc, .int .i64 res, .int .i64 body, .int .i64 ret] 76) wr)) (fun i _ => pl - (intOf i).toNat)
  case atStart => exact ⟨0, Nat.zero_le _, rfl, fun j _ hj => by omega, ⟨BP2.out, BF2.out⟩⟩
  case round =>
    obtain ⟨k, hk, rfl, HK, BB⟩ := hrel
    clear f1 f2
    have f1 := HFC.out _ 1 BB.out.2
    simp at f1
    by_cases hkl : k < pl
    · have hk1 : (k : Int) < (pl : Int) := by omega
      have hk0 : (0 : Int) ≤ (k : Int) := by omega
      have hkp : k < fpar.length := by have := hpl.out; omega
      obtain ⟨pb, po, rfl, hpb, c0, c1⟩ := PmR.at HPM.out.1 k hkp
      have hqs : fpar[k].name.size ≤ 1048576 := Nat.le_trans (Nat.le_trans (le_szPm_name _) (mem_szRow szPm (List.getElem_mem hkp))) HPM.out.2
      obtain ⟨q, hqe'⟩ : ∃ q, Hid (fpar[k] = q) := ⟨_, (rfl : fpar[k] = fpar[k])⟩
      rw [hqe'.out] at c0 c1 hqs
      have hbw := BB.out.1.below
      have d0 := (hbw.cell (p := ⟨pb, po + k * 2, none⟩) hpb).trans c0
      obtain ⟨nm, ty⟩ := q
      simp only at d0 c1 hqs
      obtain ⟨ok, hok⟩ : ∃ r, Hid (nameOk nm = r) := ⟨_, (rfl : nameOk nm = nameOk nm)⟩
      have cN : Hid (∀ W, Calls Try.prog 37 #[.string nm] W fun e w' => e = .returned (.bool ok) ∧ Below W.heap.size W w') := fun W => by rw [← hok.out]; exact specNameOk_any nm W hqs
      have HP : Hid (pmOk ⟨nm, ty⟩ = (ok && isIn ty 1 4)) := by show _ = _; rw [pmOk, hok.out]
      clear c0 hbw
      go_wp2_with fail
      go_at_call 37
      refine Calls.mono (cN.out _) ?_
      rintro e w3 ⟨rfl, hb3⟩
      have BB3 : Hid (Box w (.cells #[.slice na N nc, .slice (some ⟨b, off, none⟩) F fc] 37) w3 ∧ Box wA (.cells #[.string fname, .slice (some ⟨pb, po, none⟩) pl pc, .int .i64 res, .int .i64 body, .int .i64 ret] 76) w3) := ⟨BB.out.1.next hb3, BB.out.2.next hb3⟩
      have d1 := (BB3.out.1.below.cell (p := ⟨pb, po + k * 2 + 1, none⟩) hpb).trans c1
      clear hb3 cN BB d0 c1 f1
      have f1 := HFC.out _ 1 BB3.out.2
      simp at f1
      cases ok
      · have HE : Hid (out = false) := by show _ = _; rw [HO2.out, pms_false hkp (by rw [hqe'.out, HP.out]; rfl)]; rfl
        go_wp2
        go_ret
        exact ⟨by rw [HE.out]; rfl, BB3.out.1.below⟩
      rcases isIn_cases ty 1 4 with ⟨hi, hty⟩ | ⟨hi, hty1, hty4⟩
      · have HE : Hid (out = false) := by show _ = _; rw [HO2.out, pms_false hkp (by rw [hqe'.out, HP.out, hi]; rfl)]; rfl
        go_wp2_with (go_at_call 34; refine (l01In_no _ _ _ _ hty).mono ?_; rintro e w1 ⟨rfl, rfl⟩)
        go_ret
        exact ⟨by rw [HE.out]; rfl, BB3.out.1.below⟩
      · have HK1 : Hid (∀ j, (hj : j < fpar.length) → j < k + 1 → pmOk fpar[j] = true) := fun j hj hjk => by
          by_cases e : j = k
          · subst e
            rw [hqe'.out, HP.out, hi]
            rfl
          · exact HK.out j hj (by omega)
        clear hi
        go_wp2_with (go_at_call 34; refine (l01In_yes _ _ _ _ hty1 hty4).mono ?_; rintro e w1 ⟨rfl, rfl⟩)
        go_roundw
        case rel => exact ⟨k + 1, by omega, by go_num, HK1, BB3⟩
        case measure => simp [intOf]; omega
    · have HA : Hid (fpar.all pmOk = true) := pms_true (fun j hj => HK.out j hj (by have := hpl.out; omega))
      have HO3 : Hid (out = endsOkB ns ⟨fname, fpar, res, body, ret⟩) := by show _ = _; rw [HO2.out, HA.out, Bool.true_and]
      have HZ := HO3.out
      unfold endsOkB at HZ
      simp only at HZ
      rw [HN.out] at HZ
      have f2 := HFC.out _ 2 BB.out.2
      have f3 := HFC.out _ 3 BB.out.2
      have f4 := HFC.out _ 4 BB.out.2
      have p0 := BB.out.1.cell 0
      simp at f2 f3 f4 p0
      have HBl : Hid (Below w.heap.size w wr) := BB.out.1.below
      rcases isIn_cases body 0 ((N : Int) - 1) with ⟨hi, h⟩ | ⟨hi, h0, h1⟩
      · rw [hi, Bool.false_and, Bool.false_and] at HZ
        subst HZ
        clear hi
        go_wp2_with (go_at_call 34; refine (l01In_no _ _ _ _ h).mono ?_; rintro e w1 ⟨rfl, rfl⟩)
        go_ret
        exact ⟨rfl, HBl.out⟩
      rw [hi, Bool.true_and] at HZ
      obtain ⟨bn, rfl⟩ : ∃ bn : Nat, body = (bn : Int) := ⟨body.toNat, by omega⟩
      have hbn : bn < ns.length := by rw [HN.out]; omega
      obtain ⟨b2, off2, _, _, rfl, _⟩ := RowNd.at HV.out.1 bn hbn
      obtain ⟨d, _, hd, hb2, c0⟩ := kind_at HV.out.1 bn hbn
      rw [Int.toNat_natCast, hd] at HZ
      have hb0 : (0 : Int) ≤ (bn : Int) := by omega
      have hb1 : (bn : Int) < (N : Int) := by omega
      have d0 := (HBl.out.cell (p := ⟨b2, off2 + bn * 4, none⟩) hb2).trans c0
      have cI : Hid (∀ W, Calls Try.prog 34 #[.int .i64 (bn : Int), .int .i64 0, .int .i64 ((N : Int) - 1)] W fun e w' => e = .returned (.bool true) ∧ w' = W) := fun W => l01In_yes _ _ _ W h0 h1
      clear c0 hi h0
      by_cases h20 : d = 20
      rotate_left
      · have e1 : (d != 20) = true := by simpa using h20
        have e2 : out = false := by rw [HZ]; simp [h20]
        subst e2
        clear HZ h20
        go_wp2_with (go_at_call 34; refine Calls.mono (cI.out _) ?_; rintro e w1 ⟨rfl, h⟩; obtain rfl := h.symm)
        go_ret
        exact ⟨rfl, HBl.out⟩
      subst h20
      simp only [decide_true, Bool.true_and] at HZ
      by_cases hr0 : res = 0
      · subst hr0
        simp only [if_true] at HZ
        by_cases hm1 : ret = -1
        · subst hm1
          simp only [decide_true] at HZ
          subst HZ
          go_wp2_with (go_at_call 34; refine Calls.mono (cI.out _) ?_; rintro e w1 ⟨rfl, h⟩; obtain rfl := h.symm)
          go_ret
          exact ⟨rfl, HBl.out⟩
        · have e1 : (ret == -1) = false := by simpa using hm1
          have e2 : out = false := by rw [HZ]; simpa using hm1
          subst e2
          clear HZ hm1
          go_wp2_with (go_at_call 34; refine Calls.mono (cI.out _) ?_; rintro e w1 ⟨rfl, h⟩; obtain rfl := h.symm)
          go_ret
          exact ⟨rfl, HBl.out⟩
      rw [if_neg hr0, if_pos (by omega)] at HZ
      have e0 : (res == 0) = false := by simpa using hr0
      clear hr0
      rcases isIn_cases ret 0 ((N : Int) - 1) with ⟨hri, hrr⟩ | ⟨hri, hq0, hq1⟩
      · rw [hri, Bool.false_and] at HZ
        subst HZ
        have cJ : Hid (∀ W, Calls Try.prog 34 #[.int .i64 ret, .int .i64 0, .int .i64 ((N : Int) - 1)] W fun e w' => e = .returned (.bool false) ∧ w' = W) := fun W => l01In_no _ _ _ W hrr
        clear hri hrr
        go_wp2_with (go_at_call 34; (first | (with_reducible refine Calls.mono (cI.out _) ?_) | (with_reducible refine Calls.mono (cJ.out _) ?_)); rintro e w1 ⟨rfl, h⟩; obtain rfl := h.symm)
        go_ret
        exact ⟨rfl, HBl.out⟩
      · rw [hri, Bool.true_and] at HZ
        obtain ⟨rn, rfl⟩ : ∃ rn : Nat, ret = (rn : Int) := ⟨ret.toNat, by omega⟩
        have hrn : rn < ns.length := by rw [HN.out]; omega
        obtain ⟨d2, _, hd2, hb3, c2⟩ := kind_at HV.out.1 rn hrn
        rw [Int.toNat_natCast, hd2] at HZ
        have hrb0 : (0 : Int) ≤ (rn : Int) := by omega
        have hrb1 : (rn : Int) < (N : Int) := by omega
        have d3 := (HBl.out.cell (p := ⟨b2, off2 + rn * 4, none⟩) hb3).trans c2
        have cJ : Hid (∀ W, Calls Try.prog 34 #[.int .i64 (rn : Int), .int .i64 0, .int .i64 ((N : Int) - 1)] W fun e w' => e = .returned (.bool true) ∧ w' = W) := fun W => l01In_yes _ _ _ W hq0 hq1
        have cV : Hid (∀ W, Calls Try.prog 66 #[.int .i64 d2] W fun e w' => e = .returned (.bool out) ∧ w' = W) := fun W => by rw [HZ]; exact l04Value_is d2 W
        clear HZ c2 hri hq0
        go_wp2_with (first | (go_at_call 34; (first | (with_reducible refine Calls.mono (cI.out _) ?_) | (with_reducible refine Calls.mono (cJ.out _) ?_)); rintro e w1 ⟨rfl, h⟩; obtain rfl := h.symm) | (go_at_call 66; refine Calls.mono (cV.out _) ?_; rintro e w1 ⟨rfl, h⟩; obtain rfl := h.symm))
        go_ret
        exact ⟨rfl, HBl.out⟩

end Go.Proofs.Ytccelfjlffoiiaa
