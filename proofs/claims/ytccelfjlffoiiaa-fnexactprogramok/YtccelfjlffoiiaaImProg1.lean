/-
  Chapter 4, in the program: right functions; whose Body or Ret a node is.
-/
import Derived.Test.YtccelfjlffoiiaaImProg0
import Derived.Test.YtccelfjlffoiiaaBox
import Derived.Test.YtccelfjlffoiiaaRowProgram
namespace Go.Proofs.Ytccelfjlffoiiaa
open Go.RowKit

theorem fnsOk_bad {fs : List Fc} (h : (fs.length : Int) < 1 ∨ 8 < (fs.length : Int)) (b : Bool) : (isIn (fs.length : Int) 1 8 && b) = false := by rw [isIn_off h]; rfl

set_option maxRecDepth 100000 in
set_option maxHeartbeats 3200000 in
theorem fnsOk_any (v0 v1 : Value) (p : Pg) (w : World) (hR : RowPg w w.heap.size v0 v1 p) (hl : szPg p ≤ 1048576) :
    Calls Try.prog 50 #[.agg #[v0, v1]] w fun e w' => e = .returned (.bool (isIn (p.fns.length : Int) 1 8 && fnsTo p.nodes p.fns p.fns.length)) ∧ Below w.heap.size w w' := by
  obtain ⟨ns, fs⟩ := p
  simp only
  have hfl : szRow szFc fs ≤ 1048576 := Nat.le_trans (le_szPg_fns ⟨ns, fs⟩) hl
  have hnl : szRow szNd ns ≤ 1048576 := Nat.le_trans (le_szPg_nodes ⟨ns, fs⟩) hl
  have HV : Hid (RowPg w w.heap.size v0 v1 ⟨ns, fs⟩) := hR
  obtain ⟨na, nc, rfl⟩ := hR.1.len
  obtain ⟨fa, fc, rfl⟩ := hR.2.len
  simp only at HV ⊢
  obtain ⟨N, HN⟩ : ∃ N, Hid (ns.length = N) := ⟨_, (rfl : ns.length = ns.length)⟩
  obtain ⟨F, HF⟩ : ∃ F, Hid (fs.length = F) := ⟨_, (rfl : fs.length = fs.length)⟩
  rw [HN.out, HF.out] at HV ⊢
  have hNl : N ≤ 1048576 := by have := len_szRow szNd ns; have := HN.out; omega
  have hFl : F ≤ 1048576 := by have := len_szRow szFc fs; have := HF.out; omega
  have HL : Hid (szRow szFc fs ≤ 1048576) := hfl
  clear hR hl hfl hnl
  by_cases h0 : F = 0
  · subst h0
    have HE : Hid (isIn ((0 : Nat) : Int) 1 8 = false) := rfl
    go_enter Try.func50, Try.ntmps50
    go_wp2
    go_ret
    exact ⟨by rw [HE.out]; rfl, by go_grown⟩
  have hF0 : ((F : Int) == 0) = false := by simp; omega
  by_cases h8 : (8 : Int) < (F : Int)
  · have HE : Hid (isIn (F : Int) 1 8 = false) := isIn_off (by omega)
    go_enter Try.func50, Try.ntmps50
    go_wp2
    go_ret
    exact ⟨by rw [HE.out]; rfl, by go_grown⟩
  have HE : Hid (isIn (F : Int) 1 8 = true) := isIn_yes (by omega) (by omega)
  rw [HE.out, Bool.true_and]
  clear h0
  go_enter Try.func50, Try.ntmps50
  go_wp2
  go_loopw [18] (fun i wr => ∃ t : Nat, t ≤ F ∧ i = .int .i64 (t : Int) ∧ Hid (fnsTo ns fs t = true) ∧ Hid (Box w (.cells #[.slice na N nc, .slice fa F fc] 37) wr)) (fun i _ => F - (intOf i).toNat)
  case atStart => exact ⟨0, Nat.zero_le _, rfl, rfl, Box.first _ _⟩
  case round =>
    obtain ⟨t, ht, rfl, HT, BX⟩ := hrel
    by_cases hlt : t < F
    · have ht1 : (t : Int) < (F : Int) := by omega
      have ht0 : (0 : Int) ≤ (t : Int) := by omega
      have htl : t < fs.length := by have := HF.out; omega
      obtain ⟨b, off, pv, rfl, hb, c0, c1, c2, c3, c4, hp⟩ := FcR.at HV.out.2 t htl
      have hsq : szFc fs[t] ≤ 1048576 := Nat.le_trans (mem_szRow szFc (List.getElem_mem htl)) HL.out
      obtain ⟨q, hqe⟩ : ∃ q, Hid (fs[t] = q) := ⟨_, (rfl : fs[t] = fs[t])⟩
      have HG : Hid (fs.getD t ⟨ByteArray.empty, [], 0, 0, 0⟩ = q) := by show _ = _; rw [← hqe.out]; simp [List.getD, htl]
      rw [hqe.out] at c0 c2 c3 c4 hp hsq
      obtain ⟨pa, pc, hpv⟩ := hp.len
      obtain ⟨pl, hpl⟩ : ∃ n, Hid (q.params.length = n) := ⟨_, (rfl : q.params.length = q.params.length)⟩
      rw [hpl.out] at hpv
      subst hpv
      have hbw := BX.out.below
      have d0 := (hbw.cell (p := ⟨b, off + t * 5, none⟩) hb).trans c0
      have d1 := (hbw.cell (p := ⟨b, off + t * 5 + 1, none⟩) hb).trans c1
      have d2 := (hbw.cell (p := ⟨b, off + t * 5 + 2, none⟩) hb).trans c2
      have d3 := (hbw.cell (p := ⟨b, off + t * 5 + 3, none⟩) hb).trans c3
      have d4 := (hbw.cell (p := ⟨b, off + t * 5 + 4, none⟩) hb).trans c4
      obtain ⟨ok1, hok1⟩ : ∃ r, Hid (nameOk q.name = r) := ⟨_, (rfl : nameOk q.name = nameOk q.name)⟩
      obtain ⟨z2, hz2⟩ : ∃ r, Hid (fnAt fs q.name = r) := ⟨_, (rfl : fnAt fs q.name = fnAt fs q.name)⟩
      obtain ⟨ok3, hok3⟩ : ∃ r, Hid ((decide (q.params.length ≤ 3) && q.params.all pmOk) = r) := ⟨_, (rfl : (decide (q.params.length ≤ 3) && q.params.all pmOk) = _)⟩
      obtain ⟨ok4, hok4⟩ : ∃ r, Hid (endsOkB ns q = r) := ⟨_, (rfl : endsOkB ns q = endsOkB ns q)⟩
      have HO : Hid (fnOk ns fs t q = (ok1 && decide (z2 = (t : Int)) && ok3 && ok4)) := by show _ = _; rw [fnOk, hok1.out, hz2.out, hok3.out, hok4.out]
      have cO : Hid (∀ W, Calls Try.prog 68 #[.string q.name] W fun e w' => e = .returned (.bool ok1) ∧ Below W.heap.size W w') := fun W => by rw [← hok1.out]; exact implNameOk_any q.name W (Nat.le_trans (Nat.le_trans (le_szFc_name q) hsq) (by unfold maxLen; omega))
      have cF : Hid (∀ W, Below w.heap.size w W → Calls Try.prog 22 #[.agg #[.slice na N nc, .slice (some ⟨b, off, none⟩) F fc], .string q.name] W fun e w' => e = .returned (.int .i64 z2) ∧ Below W.heap.size W w') := fun W hW => by
        rw [← hz2.out]
        exact implFnAt_any w.heap.size _ _ fs q.name W hW.size (HV.out.2.keep hW) (by have := HF.out; omega)
      have cP : Hid (∀ W, Below w.heap.size w W → Calls Try.prog 72 #[(.slice pa pl pc)] W fun e w' => e = .returned (.bool ok3) ∧ Below W.heap.size W w') := fun W hW => by
        rw [← hok3.out]
        exact paramsOk_any (.slice pa pl pc) q.params W ((hp.keep hW).up hW.size) (Nat.le_trans (le_szFc_params q) hsq)
      have cE : Hid (∀ W, Below w.heap.size w W → Calls Try.prog 73 #[.slice na N nc, .agg #[.string q.name, (.slice pa pl pc), .int .i64 q.res, .int .i64 q.body, .int .i64 q.ret]] W fun e w' => e = .returned (.bool ok4) ∧ Below W.heap.size W w') := fun W hW => by
        rw [← hok4.out]
        exact endsOk_any na N nc ns q (.slice pa pl pc) W ((HV.out.1.keep hW).up hW.size) HN
      obtain ⟨fname, fpar, res, body, ret⟩ := q
      simp only at d0 d1 d2 d3 d4 cO cF cE
      clear c0 c1 c2 c3 c4 hp hsq hbw
      go_wp2_with fail
      go_at_call 68
      refine Calls.mono (cO.out _) ?_
      rintro e w1 ⟨rfl, hb1⟩
      have BP : Hid (Box w (.cells #[.slice na N nc, .slice (some ⟨b, off, none⟩) F fc] 37) w1) := (BX.out.alloc _).next hb1
      have BF : Hid (Box wr (.cells #[.string fname, (.slice pa pl pc), .int .i64 res, .int .i64 body, .int .i64 ret] 76) w1) := (Box.first _ _).next hb1
      have hmono : w.heap.size < wr.heap.size := BX.out.lt
      clear hb1 BX cO d0 d1 d2 d3 d4
      cases ok1
      · have HF1 : Hid (fnsTo ns fs F = false) := fnsTo_false hlt (by rw [HG.out, HO.out]; rfl)
        go_wp2
        go_ret
        exact ⟨by rw [HF1.out]; rfl, BP.out.below⟩
      have p0 := BP.out.cell 0
      have p1 := BP.out.cell 1
      have f0 := BF.out.cell 0
      simp at p0 p1 f0
      go_wp2_with fail
      go_at_call 22
      refine Calls.mono (cF.out _ BP.out.below) ?_
      rintro e w2 ⟨rfl, hb2⟩
      have BP2 : Hid (Box w (.cells #[.slice na N nc, .slice (some ⟨b, off, none⟩) F fc] 37) w2) := BP.out.next hb2
      have BF2 : Hid (Box wr (.cells #[.string fname, (.slice pa pl pc), .int .i64 res, .int .i64 body, .int .i64 ret] 76) w2) := BF.out.next hb2
      clear hb2 BP BF cF p0 p1 f0
      by_cases hz2t : z2 = (t : Int)
      · have HO2 : Hid (fnOk ns fs t ⟨fname, fpar, res, body, ret⟩ = (ok3 && ok4)) := by show _ = _; rw [HO.out]; simp [hz2t]
        subst hz2t
        have f1 := BF2.out.cell 1
        simp at f1
        go_wp2_with fail
        go_at_call 72
        refine Calls.mono (cP.out _ BP2.out.below) ?_
        rintro e w3 ⟨rfl, hb3⟩
        have BP3 : Hid (Box w (.cells #[.slice na N nc, .slice (some ⟨b, off, none⟩) F fc] 37) w3) := BP2.out.next hb3
        have BF3 : Hid (Box wr (.cells #[.string fname, (.slice pa pl pc), .int .i64 res, .int .i64 body, .int .i64 ret] 76) w3) := BF2.out.next hb3
        clear hb3 BP2 BF2 cP f1
        cases ok3
        · have HF1 : Hid (fnsTo ns fs F = false) := fnsTo_false hlt (by rw [HG.out, HO2.out]; rfl)
          go_wp2
          go_ret
          exact ⟨by rw [HF1.out]; rfl, BP3.out.below⟩
        have p0 := BP3.out.cell 0
        have f0 := BF3.out.cell 0
        have f1 := BF3.out.cell 1
        have f2 := BF3.out.cell 2
        have f3 := BF3.out.cell 3
        have f4 := BF3.out.cell 4
        simp at p0 f0 f1 f2 f3 f4
        go_wp2_with fail
        go_at_call 73
        refine Calls.mono (cE.out _ BP3.out.below) ?_
        rintro e w4 ⟨rfl, hb4⟩
        have BP4 : Hid (Box w (.cells #[.slice na N nc, .slice (some ⟨b, off, none⟩) F fc] 37) w4) := BP3.out.next hb4
        clear hb4 BP3 BF3 cE p0 f0 f1 f2 f3 f4
        cases ok4
        · have HF1 : Hid (fnsTo ns fs F = false) := fnsTo_false hlt (by rw [HG.out, HO2.out]; rfl)
          go_wp2
          go_ret
          exact ⟨by rw [HF1.out]; rfl, BP4.out.below⟩
        · have HT1 : Hid (fnsTo ns fs (t + 1) = true) := by show _ = _; rw [fnsTo, HT.out, HG.out, HO2.out]; rfl
          go_wp2
          go_roundw
          case rel => exact ⟨t + 1, by omega, by go_num, HT1, BP4⟩
          case measure => simp [intOf]; omega
      · have HF1 : Hid (fnsTo ns fs F = false) := fnsTo_false hlt (by rw [HG.out, HO.out]; simp [hz2t])
        have e1 : (z2 != (t : Int)) = true := by simpa using hz2t
        clear hz2t
        go_wp2
        go_ret
        exact ⟨by rw [HF1.out]; rfl, BP2.out.below⟩
    · have htF : Hid (t = F) := (by omega : t = F)
      have HF1 : Hid (fnsTo ns fs F = true) := by show _ = _; rw [← htF.out]; exact HT.out
      go_wp2
      go_ret
      exact ⟨by rw [HF1.out]; rfl, BX.out.below⟩

end Go.Proofs.Ytccelfjlffoiiaa
