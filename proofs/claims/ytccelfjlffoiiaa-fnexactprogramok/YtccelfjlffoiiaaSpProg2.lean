/-
  ProgramOk, in the model: what it answers at every program.
-/
import Derived.Test.YtccelfjlffoiiaaSpProg
namespace Go.Proofs.Ytccelfjlffoiiaa
open Go.RowKit

/-- How often each node is a kid, and a thousand times how often a Body or a Ret. -/
def cm (l h : List Int) (N : Nat) : List Int := (List.range N).map fun (j : Nat) => ((l.count (j : Int) : Nat) : Int) + 1000 * ((h.count (j : Int) : Nat) : Int)
theorem cm_len (l h : List Int) (N : Nat) : (cm l h N).length = N := by simp [cm]
theorem cm_at (l h : List Int) (N j : Nat) (hj : j < N) : (cm l h N)[j]'(by rw [cm_len]; exact hj) = ((l.count (j : Int) : Nat) : Int) + 1000 * ((h.count (j : Int) : Nat) : Int) := by simp [cm]
theorem cm_nil (l : List Int) (N : Nat) : cm l [] N = cnt l N := by simp [cm, cnt]
theorem cm_step (l h : List Int) (N c : Nat) (hc : c < N) (y : Int) (hy : (cm l h N)[c]'(by rw [cm_len]; exact hc) = y) : (cm l h N).set c (y + 1000) = cm l (h ++ [(c : Int)]) N := by
  apply List.ext_getElem
  · simp [cm]
  · intro i h1 h2
    have hi : i < N := by rw [cm_len] at h2; exact h2
    rw [cm_at _ _ _ _ hi, List.getElem_set]
    rw [cm_at _ _ _ _ hc] at hy
    by_cases e : c = i
    · subst e
      rw [if_pos rfl, ← hy]
      simp
      omega
    · rw [if_neg e, cm_at _ _ _ _ hi]
      have : ¬ (c : Int) = (i : Int) := by omega
      simp [List.count_append, this]
theorem cm_bound (l h : List Int) (N c : Nat) (hc : c < N) (A B : Nat) (hl : l.length ≤ A) (hh : h.length ≤ B) (y : Int) (hy : (cm l h N)[c]'(by rw [cm_len]; exact hc) = y) : 0 ≤ y ∧ y ≤ (A : Int) + 1000 * (B : Int) := by
  rw [cm_at _ _ _ _ hc] at hy
  have h1 := List.count_le_length (a := (c : Int)) (l := l)
  have h2 := List.count_le_length (a := (c : Int)) (l := h)
  omega

set_option maxRecDepth 100000 in
set_option maxHeartbeats 12800000 in
theorem specProgramOk_any (v0 v1 : Value) (p : Pg) (w : World) (hR : RowPg w w.heap.size v0 v1 p) (hl : szPg p ≤ 1048576) :
    Calls Try.prog 17 #[.agg #[v0, v1]] w fun e w' => e = .returned (.bool (programOk p)) ∧ Below w.heap.size w w' := by
  obtain ⟨res, hres⟩ : ∃ r, Hid (programOk p = r) := ⟨_, (rfl : programOk p = programOk p)⟩
  rw [hres.out]
  obtain ⟨ns, fs⟩ := p
  have hfl : szRow szFc fs ≤ 1048576 := Nat.le_trans (le_szPg_fns ⟨ns, fs⟩) hl
  have hnl : szRow szNd ns ≤ 1048576 := Nat.le_trans (le_szPg_nodes ⟨ns, fs⟩) hl
  have HV : Hid (RowPg w w.heap.size v0 v1 ⟨ns, fs⟩) := hR
  obtain ⟨na, nc, rfl⟩ := hR.1.len
  obtain ⟨fa, fc, rfl⟩ := hR.2.len
  simp only at HV ⊢
  obtain ⟨N, HN⟩ : ∃ N, Hid (ns.length = N) := ⟨_, (rfl : ns.length = ns.length)⟩
  obtain ⟨F, HF⟩ : ∃ F, Hid (fs.length = F) := ⟨_, (rfl : fs.length = fs.length)⟩
  have HP : Hid (res = (isIn (N : Int) 1 300 && isIn (F : Int) 1 8 && decide (deepOf ns ((N : Int) - 1) ≠ 0) && fnsTo ns fs F && hangs ns fs)) := by
    show _ = _
    rw [← hres.out, programOk, HN.out, HF.out]
  rw [HN.out, HF.out] at HV ⊢
  have hNl : N ≤ 1048576 := by have := len_szRow szNd ns; have := HN.out; omega
  have hFl : F ≤ 1048576 := by have := len_szRow szFc fs; have := HF.out; omega
  have HL : Hid (szRow szNd ns ≤ 1048576 ∧ szRow szFc fs ≤ 1048576) := ⟨hnl, hfl⟩
  clear hR hl hfl hnl
  rcases isIn_cases (N : Int) 1 300 with ⟨hi, hN0⟩ | ⟨hi, hN1, hN3⟩
  · have HE : Hid (res = false) := by show _ = _; rw [HP.out, hi]; rfl
    clear hi
    go_enter Try.func17, Try.ntmps17
    go_wp2_with (go_at_call 34; refine (l01In_no _ _ _ _ hN0).mono ?_; rintro e w1 ⟨rfl, rfl⟩)
    go_ret
    exact ⟨by rw [HE.out]; rfl, by go_grown⟩
  have cI : Hid (∀ W, Calls Try.prog 34 #[.int .i64 (N : Int), .int .i64 1, .int .i64 300] W fun e w' => e = .returned (.bool true) ∧ w' = W) := fun W => l01In_yes _ _ _ W hN1 hN3
  rcases isIn_cases (F : Int) 1 8 with ⟨hi8, hF0⟩ | ⟨hi8, hF1, hF8⟩
  · have HE : Hid (res = false) := by show _ = _; rw [HP.out, hi8]; simp
    have cJ : Hid (∀ W, Calls Try.prog 34 #[.int .i64 (F : Int), .int .i64 1, .int .i64 8] W fun e w' => e = .returned (.bool false) ∧ w' = W) := fun W => l01In_no _ _ _ W hF0
    clear hi hi8
    go_enter Try.func17, Try.ntmps17
    go_wp2_with (go_at_call 34; (first | (with_reducible refine Calls.mono (cI.out _) ?_) | (with_reducible refine Calls.mono (cJ.out _) ?_)); rintro e w1 ⟨rfl, h⟩; obtain rfl := h.symm)
    go_ret
    exact ⟨by rw [HE.out]; rfl, by go_grown⟩
  have cJ : Hid (∀ W, Calls Try.prog 34 #[.int .i64 (F : Int), .int .i64 1, .int .i64 8] W fun e w' => e = .returned (.bool true) ∧ w' = W) := fun W => l01In_yes _ _ _ W hF1 hF8
  obtain ⟨m, HM⟩ : ∃ m : Nat, Hid (N = m + 1) := ⟨N - 1, (by omega : N = N - 1 + 1)⟩
  have HMi : Hid ((N : Int) - 1 = (m : Int)) := by show _ = _; have := HM.out; omega
  obtain ⟨d, hd⟩ : ∃ d, Hid (deepOf ns (m : Int) = d) := ⟨_, (rfl : deepOf ns (m : Int) = deepOf ns (m : Int))⟩
  have hml : m < ns.length := by rw [HN.out, HM.out]; omega
  have HDL : Hid ((deeps ns N).getD m 0 = d) := by show _ = _; rw [HM.out, ← hd.out]; exact (deepOf_in hml).symm
  have HP1 : Hid (res = (decide (d ≠ 0) && fnsTo ns fs F && hangs ns fs)) := by
    show _ = _
    rw [HP.out, hi, hi8, HMi.out, hd.out]
    rfl
  have cD : Hid (∀ W, Below w.heap.size w W → Calls Try.prog 45 #[.slice na N nc, .int .i64 ((N : Int) - 1)] W fun e w' => (∃ v, e = .returned v ∧ OwnsI w' W.heap.size v (deeps ns N)) ∧ Below W.heap.size W w') := fun W hW => by
    rw [HMi.out]
    have := l04Deeps_any na N nc m ns W (by have := HM.out; omega) ((HV.out.1.keep hW).up hW.size) HN HL.out.1
    rw [← HM.out] at this
    exact this
  clear hi hi8 HP
  go_enter Try.func17, Try.ntmps17
  go_wp2_with (go_at_call 34; (first | (with_reducible refine Calls.mono (cI.out _) ?_) | (with_reducible refine Calls.mono (cJ.out _) ?_)); rintro e w1 ⟨rfl, h⟩; obtain rfl := h.symm)
  go_at_call 45
  refine Calls.mono (cD.out _ (by go_grown)) ?_
  rintro e w1 ⟨⟨v, rfl, ho⟩, hb1⟩
  have B1 : Hid (Box w (.cells #[.slice na N nc, .slice fa F fc] 37) w1) := (Box.first _ _).next hb1
  obtain ⟨oa, oc, rfl, hg⟩ := RowI.le ho
  rw [deeps_len] at ho hg ⊢
  obtain ⟨og, rfl⟩ := hg (by omega)
  have c0 : w1.cell? ⟨og, N - 1, none⟩ = some (.int .i64 d) := OwnsI.cellAt ho (deeps_len ns N).symm (N - 1) (by rw [deeps_len]; omega) d (by rw [← getD_in (by rw [deeps_len]; omega), show N - 1 = m by have := HM.out; omega]; exact HDL.out)
  have hx0 : (0 : Int) ≤ (N : Int) - 1 := by omega
  have hx1 : (N : Int) - 1 < (N : Int) := by omega
  have hx2 : ((N : Int) - 1).toNat = N - 1 := by omega
  clear cD ho hg hb1 cI cJ
  by_cases hd0 : d = 0
  · have HE : Hid (res = false) := by show _ = _; rw [HP1.out, hd0]; rfl
    subst hd0
    go_wp2
    go_ret
    exact ⟨by rw [HE.out]; rfl, B1.out.below⟩
  have hd1 : (d == 0) = false := by simpa using hd0
  have HP2 : Hid (res = (fnsTo ns fs F && hangs ns fs)) := by show _ = _; rw [HP1.out]; simp [hd0]
  have hne : deepOf ns (m : Int) ≠ 0 := by rw [hd.out]; exact hd0
  have HKI : Hid (∀ t, (ht : t < ns.length) → nodeOk ns (t : Int) = true) := fun t ht => deep_nodes hml hne t (by have := HN.out; have := HM.out; omega)
  have cU : Hid (∀ W, Below w.heap.size w W → Calls Try.prog 47 #[.slice na N nc] W fun e w' => (∃ g, e = .returned (.slice (some ⟨g, 0, none⟩) N N) ∧ OwnsI w' W.heap.size (.slice (some ⟨g, 0, none⟩) N N) (cnt (allKids ns) N)) ∧ Below W.heap.size W w') := fun W hW =>
    l04Used_any na N nc ns W ((HV.out.1.keep hW).up hW.size) HN HL.out.1 (fun t ht c hc => by
      have h1 := kids_in ht (HKI.out t ht) c hc
      have := HN.out
      omega)
  have HKL : Hid ((allKids ns).length ≤ 1048576) := by
    show _ ≤ _
    have h1 := kids_le ns
    have h2 := HL.out.1
    unfold szRow at h2
    omega
  have HKC : Hid (∀ c : Int, (allKids ns).count c ≤ 300) := fun c => by
    have h1 := count_kids (fun t ht => kids_once ht (HKI.out t ht)) c
    have := HN.out
    omega
  have q0 := B1.out.cell 0
  simp at q0
  clear hne hd0 HP1
  go_wp2_with fail
  go_at_call 47
  refine Calls.mono (cU.out _ B1.out.below) ?_
  rintro e w2 ⟨⟨g, rfl, ho⟩, hb2⟩
  have B2 : Hid (Box w (.cells #[.slice na N nc, .slice fa F fc] 37) w2) := B1.out.next hb2
  have hgw : w.heap.size < g := by have := (OwnsR.lt ho g (by simp [fpOf, Value.ownBlock])).1; have := B1.out.lt; omega
  have O2 : Hid (OwnsI w2 (w.heap.size + 1) (.slice (some ⟨g, 0, none⟩) N N) (cm (allKids ns) [] N)) := by
    show OwnsI _ _ _ _
    rw [cm_nil]
    exact owns_base ho (by have := B1.out.lt; omega)
  clear hb2 cU B1 q0 ho c0 hx0 hx1 hx2
  go_wp2_with fail
  go_loopw [5] (fun i wr => ∃ t : Nat, t ≤ F ∧ i = .int .i64 (t : Int) ∧ Hid (fnsTo ns fs t = true) ∧ Hid (OwnsI wr (w.heap.size + 1) (.slice (some ⟨g, 0, none⟩) N N) (cm (allKids ns) (heads (fs.take t)) N)) ∧ Hid (Box w (.cells #[.slice na N nc, .slice fa F fc] 37) wr)) (fun i _ => F - (intOf i).toNat)
  case atStart => exact ⟨0, Nat.zero_le _, rfl, rfl, O2, B2⟩
  case round =>
    obtain ⟨t, ht, rfl, HT, HO, BX⟩ := hrel
    clear O2 B2
    have q0 := BX.out.cell 0
    have q1 := BX.out.cell 1
    simp at q0 q1
    by_cases hlt : t < F
    · have ht1 : (t : Int) < (F : Int) := by omega
      have ht0 : (0 : Int) ≤ (t : Int) := by omega
      have htl : t < fs.length := by have := HF.out; omega
      obtain ⟨q, hqe⟩ : ∃ q, Hid (fs[t] = q) := ⟨_, (rfl : fs[t] = fs[t])⟩
      obtain ⟨ok, hok⟩ : ∃ r, Hid (fnOk ns fs t q = r) := ⟨_, (rfl : fnOk ns fs t q = fnOk ns fs t q)⟩
      have HG : Hid (fs.getD t ⟨ByteArray.empty, [], 0, 0, 0⟩ = q) := by show _ = _; rw [← hqe.out]; simp [List.getD, htl]
      have cN : Hid (∀ W, Below w.heap.size w W → Calls Try.prog 48 #[.agg #[.slice na N nc, .slice fa F fc], .int .i64 (t : Int)] W fun e w' => e = .returned (.bool ok) ∧ Below W.heap.size W w') := fun W hW => by
        rw [← hok.out]
        exact l04Fn_any na fa N nc F fc t ns fs W ((HV.out.keep hW).up hW.size) HN HF hNl hFl HL.out.2 hlt q hqe
      go_wp2_with fail
      go_at_call 48
      refine Calls.mono (cN.out _ BX.out.below) ?_
      rintro e w3 ⟨rfl, hb3⟩
      have BX3 : Hid (Box w (.cells #[.slice na N nc, .slice fa F fc] 37) w3) := BX.out.next hb3
      have HO3 : Hid (OwnsI w3 (w.heap.size + 1) (.slice (some ⟨g, 0, none⟩) N N) (cm (allKids ns) (heads (fs.take t)) N)) := OwnsR.below HO.out hb3
      clear hb3 cN BX HO q0 q1
      cases ok
      · have HE : Hid (res = false) := by show _ = _; rw [HP2.out, fnsTo_false hlt (by rw [HG.out]; exact hok.out)]; rfl
        go_wp2
        go_ret
        exact ⟨by rw [HE.out]; rfl, BX3.out.below⟩
      have HT1 : Hid (fnsTo ns fs (t + 1) = true) := by show _ = _; rw [fnsTo, HT.out, HG.out, hok.out]; rfl
      have hnx : Hid (heads (fs.take (t + 1)) = heads (fs.take t) ++ headsIn fs[t]) := heads_take fs t htl
      have hcb : (0 ≤ q.body ∧ q.body < (N : Int)) ∧ q.ret < (N : Int) := by
        have h1 := hok.out
        unfold fnOk at h1
        simp only [Bool.and_eq_true] at h1
        have h2 := h1.2
        rw [← HN.out]
        unfold endsOkB at h2
        simp only [Bool.and_eq_true] at h2
        have hb := h2.1.1
        simp [isIn] at hb
        refine ⟨by omega, ?_⟩
        have hr := h2.2
        split at hr
        · simp at hr
          omega
        · split at hr
          · simp [isIn] at hr
            omega
          · cases hr
      have hln : (heads (fs.take t)).length ≤ 16 := by
        have h1 := heads_len (fs.take t)
        have h2 : (fs.take t).length ≤ t := List.length_take_le _ _
        omega
      obtain ⟨b, off, pv, rfl, hb, c0, c1, c2, c3, c4, hp⟩ := FcR.at HV.out.2 t htl
      rw [hqe.out] at c3 c4 hnx
      have d3 := (BX3.out.below.cell (p := ⟨b, off + t * 5 + 3, none⟩) hb).trans c3
      have d4 := (BX3.out.below.cell (p := ⟨b, off + t * 5 + 4, none⟩) hb).trans c4
      have C4 : Hid _ := c4
      obtain ⟨L, hL⟩ : ∃ L, Hid (heads (fs.take t) = L) := ⟨_, (rfl : heads (fs.take t) = heads (fs.take t))⟩
      rw [hL.out] at HO3 hnx hln
      obtain ⟨fname, fpar, rs, body, ret⟩ := q
      simp only at d3 d4 hcb hnx C4
      clear c0 c1 c2 c3 c4 hp
      obtain ⟨bn, rfl⟩ : ∃ bn : Nat, body = (bn : Int) := ⟨body.toNat, by omega⟩
      have hb0 : (0 : Int) ≤ (bn : Int) := by omega
      have hb1 : (bn : Int) < (N : Int) := hcb.1.2
      have hbn : bn < N := by omega
      have hr1 : ret < (N : Int) := hcb.2
      obtain ⟨y, hy⟩ : ∃ y, Hid ((cm (allKids ns) L N)[bn]'(by rw [cm_len]; exact hbn) = y) := ⟨_, (rfl : (cm (allKids ns) L N)[bn]'(by rw [cm_len]; exact hbn) = _)⟩
      have hyb := cm_bound (allKids ns) L N bn hbn 1048576 16 HKL.out hln y hy.out
      have hy0 := hyb.1
      have hy1 : y ≤ 1064576 := by omega
      have g1 := OwnsI.cellAt HO3.out (cm_len _ _ N).symm bn (by rw [cm_len]; exact hbn) y hy.out
      have g2 := OwnsI.freeAt HO3.out (cm_len _ _ N).symm bn
      have S1 : Hid (OwnsI ((w3.setCell ⟨g, bn, none⟩ (.int .i64 (y + 1000))).drew) (w.heap.size + 1) (.slice (some ⟨g, 0, none⟩) N N) (cm (allKids ns) (L ++ [(bn : Int)]) N)) := by
        have := OwnsI.set HO3.out (cm_len _ _ N).symm bn (by rw [cm_len]; exact hbn) (y + 1000)
        rw [cm_step _ _ N bn hbn y hy.out] at this
        exact World.ownsRow.drew this
      have SB1 : Hid (Box w (.cells #[.slice na N nc, .slice (some ⟨b, off, none⟩) F fc] 37) ((w3.setCell ⟨g, bn, none⟩ (.int .i64 (y + 1000))).drew)) := (BX3.out.setCell hgw _).drew
      have q1 := BX3.out.cell 1
      simp at q1
      clear hyb hcb
      go_wp2_with fail
      go_region
      generalize (w3.setCell ⟨g, bn, none⟩ (.int .i64 (y + 1000))).drew = w4 at S1 SB1 ⊢
      clear g1 g2 q1 d3 d4 BX3 HO3
      have d4 := (SB1.out.below.cell (p := ⟨b, off + t * 5 + 4, none⟩) hb).trans C4.out
      have q1 := SB1.out.cell 1
      simp at q1
      by_cases hr0 : ret < 0
      · have HN1 : Hid (heads (fs.take (t + 1)) = L ++ [(bn : Int)]) := by show _ = _; rw [hnx.out, headsIn, if_neg (by simp only; omega)]
        go_wp2
        go_roundw
        case rel =>
          refine ⟨t + 1, by omega, by go_num, HT1, ?_, SB1⟩
          show OwnsI _ _ _ _
          rw [HN1.out]
          exact S1.out
        case measure => simp [intOf]; omega
      · obtain ⟨rn, rfl⟩ : ∃ rn : Nat, ret = (rn : Int) := ⟨ret.toNat, by omega⟩
        have hr00 : (0 : Int) ≤ (rn : Int) := by omega
        have hrn : rn < N := by omega
        have HN1 : Hid (heads (fs.take (t + 1)) = L ++ [(bn : Int)] ++ [(rn : Int)]) := by show _ = _; rw [hnx.out, headsIn, if_pos (by simp only; omega), List.append_assoc]; rfl
        obtain ⟨x, hx⟩ : ∃ y, Hid ((cm (allKids ns) (L ++ [(bn : Int)]) N)[rn]'(by rw [cm_len]; exact hrn) = y) := ⟨_, (rfl : (cm (allKids ns) (L ++ [(bn : Int)]) N)[rn]'(by rw [cm_len]; exact hrn) = _)⟩
        have hxb := cm_bound (allKids ns) (L ++ [(bn : Int)]) N rn hrn 1048576 17 HKL.out (by simp; omega) x hx.out
        have hx0 := hxb.1
        have hx1 : x ≤ 1065576 := by omega
        have k1 := OwnsI.cellAt S1.out (cm_len _ _ N).symm rn (by rw [cm_len]; exact hrn) x hx.out
        have k2 := OwnsI.freeAt S1.out (cm_len _ _ N).symm rn
        have S2 : Hid (OwnsI ((w4.setCell ⟨g, rn, none⟩ (.int .i64 (x + 1000))).drew) (w.heap.size + 1) (.slice (some ⟨g, 0, none⟩) N N) (cm (allKids ns) (heads (fs.take (t + 1))) N)) := by
          have := OwnsI.set S1.out (cm_len _ _ N).symm rn (by rw [cm_len]; exact hrn) (x + 1000)
          rw [cm_step _ _ N rn hrn x hx.out] at this
          show OwnsI _ _ _ _
          rw [HN1.out]
          exact World.ownsRow.drew this
        have SB2 : Hid (Box w (.cells #[.slice na N nc, .slice (some ⟨b, off, none⟩) F fc] 37) ((w4.setCell ⟨g, rn, none⟩ (.int .i64 (x + 1000))).drew)) := (SB1.out.setCell hgw _).drew
        clear hxb S1 SB1
        go_wp2_with fail
        go_region
        generalize (w4.setCell ⟨g, rn, none⟩ (.int .i64 (x + 1000))).drew = w5 at S2 SB2 ⊢
        clear k1 k2 q1 d4
        go_wp2
        go_roundw
        case rel => exact ⟨t + 1, by omega, by go_num, HT1, S2, SB2⟩
        case measure => simp [intOf]; omega
    · have htF : Hid (t = F) := (by omega : t = F)
      have HP3 : Hid (res = hangs ns fs) := by show _ = _; rw [HP2.out, ← htF.out, HT.out, Bool.true_and]
      have HO2 : Hid (OwnsI wr (w.heap.size + 1) (.slice (some ⟨g, 0, none⟩) N N) (cm (allKids ns) (heads fs) N)) := by
        have := HO.out
        rw [htF.out, ← HF.out, List.take_length] at this
        exact this
      have HHL : Hid (∀ c : Int, (heads fs).count c ≤ 16) := fun c => by
        have h1 := heads_len fs
        have h2 := List.count_le_length (a := c) (l := heads fs)
        have := HF.out
        omega
      have HBw : Hid (Below w.heap.size w wr) := BX.out.below
      clear HT HO BX
      go_wp2_with fail
      go_loop [6] (fun i => ∃ t : Nat, t ≤ N ∧ i = .int .i64 (t : Int) ∧ Hid (∀ j, j < t → (allKids ns).count (j : Int) + (heads fs).count (j : Int) = 1)) (fun i => N - (intOf i).toNat)
      case atStart => exact ⟨0, Nat.zero_le _, rfl, fun j hj => by omega⟩
      case round =>
        obtain ⟨k, hk, rfl, HK⟩ := hrel
        clear q0 q1
        by_cases hkl : k < N
        · have hk1 : (k : Int) < (N : Int) := by omega
          have hk0 : (0 : Int) ≤ (k : Int) := by omega
          obtain ⟨x, hx⟩ : ∃ x : Nat, Hid ((allKids ns).count (k : Int) = x) := ⟨_, (rfl : (allKids ns).count (k : Int) = (allKids ns).count (k : Int))⟩
          obtain ⟨y, hy⟩ : ∃ y : Nat, Hid ((heads fs).count (k : Int) = y) := ⟨_, (rfl : (heads fs).count (k : Int) = (heads fs).count (k : Int))⟩
          have hxb : x ≤ 300 := by rw [← hx.out]; exact HKC.out _
          have hyb : y ≤ 16 := by rw [← hy.out]; exact HHL.out _
          obtain ⟨z, hz⟩ : ∃ z : Int, (x : Int) + 1000 * (y : Int) = z := ⟨_, rfl⟩
          have c0 := OwnsI.cellAt HO2.out (cm_len _ _ N).symm k (by rw [cm_len]; exact hkl) z (by rw [cm_at _ _ _ _ hkl, hx.out, hy.out]; exact hz)
          by_cases h1 : x + y = 1
          · have HK1 : Hid (∀ j, j < k + 1 → (allKids ns).count (j : Int) + (heads fs).count (j : Int) = 1) := fun j hj => by
              rcases Nat.lt_or_ge j k with h | h
              · exact HK.out j h
              · have : j = k := by omega
                subst this
                rw [hx.out, hy.out]
                exact h1
            by_cases hz1 : z = 1
            · subst hz1
              clear hz h1
              go_wp2
              go_round
              case rel => exact ⟨k + 1, by omega, by go_num, HK1⟩
              case measure => simp [intOf]; omega
            · have hz2 : z = 1000 := by omega
              subst hz2
              clear hz h1 hz1
              go_wp2
              go_round
              case rel => exact ⟨k + 1, by omega, by go_num, HK1⟩
              case measure => simp [intOf]; omega
          · have HE : Hid (res = false) := by show _ = _; rw [HP3.out]; exact hangs_false (j := k) (by rw [HN.out]; exact hkl) (by rw [hx.out, hy.out]; exact h1)
            have e1 : (z != 1) = true := by simp; omega
            have e2 : (z != 1000) = true := by simp; omega
            clear hz h1
            go_wp2
            go_ret
            exact ⟨by rw [HE.out]; rfl, HBw.out⟩
        · have HE : Hid (res = true) := by show _ = _; rw [HP3.out]; exact hangs_true (fun j hj => HK.out j (by have := HN.out; omega))
          go_wp2
          go_ret
          exact ⟨by rw [HE.out]; rfl, HBw.out⟩

end Go.Proofs.Ytccelfjlffoiiaa
