/-
  Chapter 4, in the program: whose Body or Ret a node is; right programs.
-/
import Derived.Test.YtccelfjlffoiiaaImProg1
namespace Go.Proofs.Ytccelfjlffoiiaa
open Go.RowKit

theorem below_grown {w w' : World} (h : w.grownBy w' none) : Below w.heap.size w w' := ⟨h.os, h.tape, h.output, h.size, fun k hk => h.block k hk (by simp)⟩
theorem heads_len (fs : List Fc) : (heads fs).length ≤ 2 * fs.length := by
  induction fs with
  | nil => simp [heads]
  | cons f fs ih =>
    unfold heads at ih ⊢
    rw [List.flatMap_cons, List.length_append, List.length_cons]
    have : (headsIn f).length ≤ 2 := by unfold headsIn; split <;> simp
    omega

set_option maxRecDepth 100000 in
set_option maxHeartbeats 3200000 in
theorem headsOf_any (na fa : Option Addr) (N nc F fc : Nat) (fs : List Fc) (w : World) (hR : FcR.Row w w.heap.size (.slice fa F fc) fs) (HF : Hid (fs.length = F)) (hNl : N ≤ 1048576) (hFl : F ≤ 1048576) (hk : ∀ t, (ht : t < fs.length) → (0 ≤ fs[t].body ∧ fs[t].body < (N : Int)) ∧ fs[t].ret < (N : Int)) :
    Calls Try.prog 52 #[.agg #[.slice na N nc, .slice fa F fc]] w fun e w' => (∃ g, e = .returned (.slice (some ⟨g, 0, none⟩) N N) ∧ OwnsI w' w.heap.size (.slice (some ⟨g, 0, none⟩) N N) (cnt (heads fs) N)) ∧ Below w.heap.size w w' := by
  have HV : Hid (FcR.Row w w.heap.size (.slice fa F fc) fs) := hR
  have HC : Hid (∀ t, (ht : t < fs.length) → (0 ≤ fs[t].body ∧ fs[t].body < (N : Int)) ∧ fs[t].ret < (N : Int)) := hk
  clear hR hk
  obtain ⟨i0, hi, hz0, hz1, hz2⟩ := info_parts Try.infoInt
  go_enter Try.func52, Try.ntmps52
  go_wp2_with (at_make; refine wpList_make_full _ rfl _ _ 43 rfl (w.heap.size + 1) 3 i0 _ 1 Try.underlying43 hi hz0 hz1 _ _ _ _ N rfl rfl (by omega) (by omega) (by rw [hz2]; omega) (by unfold maxLen; omega) (by simp) ?_; intro w0 hown0 hg0; have B0 : Hid (Box w (.cells #[.slice na N nc, .slice fa F fc] 37) w0) := (Box.first _ _).next (below_grown hg0); have q1 := B0.out.cell 1; simp at q1)
  clear hi hz0 hz1 hz2
  have hsz0 : (w.alloc (.cells #[.slice na N nc, .slice fa F fc] 37)).heap.size = w.heap.size + 1 := by simp
  rw [hsz0] at hown0
  have HW0 : Hid (OwnsI w0 (w.heap.size + 1) (.slice (some ⟨w.heap.size + 1, 0, none⟩) N N) (cnt (heads (fs.take 0)) N) ∧ Below w.heap.size w w0) := by
    refine ⟨?_, B0.out.below⟩
    unfold OwnsI OwnsR
    rw [List.take_zero, show heads [] = [] from rfl, cnt_nil, List.length_replicate, ← zero_ints]
    exact hown0
  clear hown0 hg0 hsz0 B0
  go_loopw [13] (fun i wr => ∃ t : Nat, t ≤ F ∧ i = .int .i64 (t : Int) ∧ Hid (OwnsI wr (w.heap.size + 1) (.slice (some ⟨w.heap.size + 1, 0, none⟩) N N) (cnt (heads (fs.take t)) N) ∧ Below w.heap.size w wr)) (fun i _ => F - (intOf i).toNat)
  case atStart => exact ⟨0, Nat.zero_le _, rfl, HW0⟩
  case round =>
    obtain ⟨t, ht, rfl, HJ⟩ := hrel
    clear HW0 q1
    by_cases hlt : t < F
    · have ht1 : (t : Int) < (F : Int) := by omega
      have ht0 : (0 : Int) ≤ (t : Int) := by omega
      have htl : t < fs.length := by have := HF.out; omega
      obtain ⟨b, off, pv, rfl, hb, c0, c1, c2, c3, c4, hp⟩ := FcR.at HV.out t htl
      have hnx : Hid (heads (fs.take (t + 1)) = heads (fs.take t) ++ headsIn fs[t]) := heads_take fs t htl
      have hcb := HC.out t htl
      have hln : (heads (fs.take t)).length ≤ 2097152 := by
        have := heads_len (fs.take t)
        have h2 : (fs.take t).length ≤ t := List.length_take_le _ _
        omega
      obtain ⟨q, hqe⟩ : ∃ q, Hid (fs[t] = q) := ⟨_, (rfl : fs[t] = fs[t])⟩
      rw [hqe.out] at c0 c2 c3 c4 hp hnx hcb
      obtain ⟨pa, pc, hpv⟩ := hp.len
      obtain ⟨pl, hpl⟩ : ∃ n, Hid (q.params.length = n) := ⟨_, (rfl : q.params.length = q.params.length)⟩
      rw [hpl.out] at hpv
      subst hpv
      have hbw := HJ.out.2
      have d0 := (hbw.cell (p := ⟨b, off + t * 5, none⟩) hb).trans c0
      have d1 := (hbw.cell (p := ⟨b, off + t * 5 + 1, none⟩) hb).trans c1
      have d2 := (hbw.cell (p := ⟨b, off + t * 5 + 2, none⟩) hb).trans c2
      have d3 := (hbw.cell (p := ⟨b, off + t * 5 + 3, none⟩) hb).trans c3
      have d4 := (hbw.cell (p := ⟨b, off + t * 5 + 4, none⟩) hb).trans c4
      have hsz := hbw.size
      obtain ⟨L, hL⟩ : ∃ L, Hid (heads (fs.take t) = L) := ⟨_, (rfl : heads (fs.take t) = heads (fs.take t))⟩
      rw [hL.out] at HJ hnx hln
      obtain ⟨fname, fpar, res, body, ret⟩ := q
      simp only at d0 d1 d2 d3 d4 hcb hnx
      clear c0 c1 c2 c3 c4 hp hbw
      obtain ⟨bn, rfl⟩ : ∃ bn : Nat, body = (bn : Int) := ⟨body.toNat, by omega⟩
      have hb0 : (0 : Int) ≤ (bn : Int) := by omega
      have hb1 : (bn : Int) < (N : Int) := hcb.1.2
      have hbn : bn < N := by omega
      have hr1 : ret < (N : Int) := hcb.2
      have hgl : w.heap.size + 1 < wr.heap.size := (OwnsR.lt HJ.out.1 (w.heap.size + 1) (by simp [fpOf, Value.ownBlock])).2
      obtain ⟨y, hy⟩ : ∃ y, Hid ((cnt L N)[bn]'(by rw [cnt_len]; exact hbn) = y) := ⟨_, (rfl : (cnt L N)[bn]'(by rw [cnt_len]; exact hbn) = _)⟩
      have hyb := cnt_bound L N bn hbn
      rw [hy.out] at hyb
      have hy0 := hyb.1
      have hy1 : y ≤ 2097152 := by omega
      have hw1 : ∀ o1, OwnsI (wr.alloc o1) (w.heap.size + 1) (.slice (some ⟨w.heap.size + 1, 0, none⟩) N N) (cnt L N) := fun o1 => World.ownsRow.alloc HJ.out.1 o1
      have g1 := fun o1 => OwnsI.cellAt (hw1 o1) (cnt_len _ N).symm bn (by rw [cnt_len]; exact hbn) y hy.out
      have g2 := fun o1 => OwnsI.freeAt (hw1 o1) (cnt_len _ N).symm bn
      have S1 : Hid (∀ o1, OwnsI ((wr.setCell ⟨w.heap.size + 1, bn, none⟩ (.int .i64 (y + 1))).alloc o1) (w.heap.size + 1) (.slice (some ⟨w.heap.size + 1, 0, none⟩) N N) (cnt (L ++ [(bn : Int)]) N)) := fun o1 => by
        have := OwnsI.set HJ.out.1 (cnt_len _ N).symm bn (by rw [cnt_len]; exact hbn) (y + 1)
        rw [cnt_step _ N bn hbn y hy.out] at this
        exact World.ownsRow.alloc this o1
      have SB1 : Hid (∀ o1, Below w.heap.size w ((wr.setCell ⟨w.heap.size + 1, bn, none⟩ (.int .i64 (y + 1))).alloc o1)) := fun o1 => (HJ.out.2.setCell (p := ⟨w.heap.size + 1, bn, none⟩) (by show _ ≤ _; simp) _).alloc (by simpa using hsz) o1
      clear hw1 hyb hcb
      by_cases hr0 : ret < 0
      · have HN1 : Hid (heads (fs.take (t + 1)) = L ++ [(bn : Int)]) := by show _ = _; rw [hnx.out, headsIn, if_neg (by simp only; omega)]
        go_wp2
        go_roundw
        case rel =>
          refine ⟨t + 1, by omega, by go_num, ?_⟩
          show _ ∧ _
          rw [HN1.out]
          exact ⟨S1.out _, SB1.out _⟩
        case measure => simp [intOf]; omega
      · obtain ⟨rn, rfl⟩ : ∃ rn : Nat, ret = (rn : Int) := ⟨ret.toNat, by omega⟩
        have hr00 : (0 : Int) ≤ (rn : Int) := by omega
        have hrn : rn < N := by omega
        have HN1 : Hid (heads (fs.take (t + 1)) = L ++ [(bn : Int)] ++ [(rn : Int)]) := by show _ = _; rw [hnx.out, headsIn, if_pos (by simp only; omega), List.append_assoc]; rfl
        obtain ⟨x, hx⟩ : ∃ y, Hid ((cnt (L ++ [(bn : Int)]) N)[rn]'(by rw [cnt_len]; exact hrn) = y) := ⟨_, (rfl : (cnt (L ++ [(bn : Int)]) N)[rn]'(by rw [cnt_len]; exact hrn) = _)⟩
        have hxb := cnt_bound (L ++ [(bn : Int)]) N rn hrn
        rw [hx.out, List.length_append] at hxb
        simp only [List.length_singleton] at hxb
        have hx0 := hxb.1
        have hx1 : x ≤ 2097153 := by omega
        have k1 := fun o1 => OwnsI.cellAt (S1.out o1) (cnt_len _ N).symm rn (by rw [cnt_len]; exact hrn) x hx.out
        have k2 := fun o1 => OwnsI.freeAt (S1.out o1) (cnt_len _ N).symm rn
        have S2 : Hid (∀ o1, OwnsI (((wr.setCell ⟨w.heap.size + 1, bn, none⟩ (.int .i64 (y + 1))).setCell ⟨w.heap.size + 1, rn, none⟩ (.int .i64 (x + 1))).alloc o1) (w.heap.size + 1) (.slice (some ⟨w.heap.size + 1, 0, none⟩) N N) (cnt (L ++ [(bn : Int)] ++ [(rn : Int)]) N)) := fun o1 => by
          have h0 := OwnsI.set HJ.out.1 (cnt_len _ N).symm bn (by rw [cnt_len]; exact hbn) (y + 1)
          rw [cnt_step _ N bn hbn y hy.out] at h0
          have := OwnsI.set h0 (cnt_len _ N).symm rn (by rw [cnt_len]; exact hrn) (x + 1)
          rw [cnt_step _ N rn hrn x hx.out] at this
          exact World.ownsRow.alloc this o1
        have SB2 : Hid (∀ o1, Below w.heap.size w (((wr.setCell ⟨w.heap.size + 1, bn, none⟩ (.int .i64 (y + 1))).setCell ⟨w.heap.size + 1, rn, none⟩ (.int .i64 (x + 1))).alloc o1)) := fun o1 => ((HJ.out.2.setCell (p := ⟨w.heap.size + 1, bn, none⟩) (by show _ ≤ _; simp) _).setCell (p := ⟨w.heap.size + 1, rn, none⟩) (by show _ ≤ _; simp) _).alloc (by simpa using hsz) o1
        clear hxb
        go_wp2
        go_roundw
        case rel =>
          refine ⟨t + 1, by omega, by go_num, ?_⟩
          show _ ∧ _
          rw [HN1.out]
          exact ⟨S2.out _, SB2.out _⟩
        case measure => simp [intOf]; omega
    · have htm : Hid (t = F) := (by omega : t = F)
      have HF2 : Hid (OwnsI wr w.heap.size (.slice (some ⟨w.heap.size + 1, 0, none⟩) N N) (cnt (heads fs) N) ∧ Below w.heap.size w wr) := by
        have := HJ.out
        rw [htm.out, ← HF.out, List.take_length] at this
        exact ⟨owns_base this.1 (by omega), this.2⟩
      go_wp2
      go_ret
      exact ⟨⟨_, rfl, HF2.out.1⟩, HF2.out.2⟩

theorem hangs_false {ns : List Nd} {fs : List Fc} {j : Nat} (hj : j < ns.length) (h : ¬ (allKids ns).count (j : Int) + (heads fs).count (j : Int) = 1) : hangs ns fs = false := by
  unfold hangs
  rw [← Bool.not_eq_true, List.all_eq_true]
  intro hh
  have := hh j (by simpa using hj)
  simp at this
  exact h this
theorem hangs_true {ns : List Nd} {fs : List Fc} (h : ∀ j, j < ns.length → (allKids ns).count (j : Int) + (heads fs).count (j : Int) = 1) : hangs ns fs = true := by
  unfold hangs
  rw [List.all_eq_true]
  intro j hj
  have := h j (by simpa using hj)
  simpa using this
/-- Where functions are right, Bodies and Rets are nodes. -/
theorem heads_in {ns : List Nd} {fs : List Fc} (h : fnsTo ns fs fs.length = true) (t : Nat) (ht : t < fs.length) : (0 ≤ fs[t].body ∧ fs[t].body < (ns.length : Int)) ∧ fs[t].ret < (ns.length : Int) := by
  have h1 := fnsTo_at h t ht
  have he : fs.getD t ⟨ByteArray.empty, [], 0, 0, 0⟩ = fs[t] := by simp [List.getD, ht]
  rw [he] at h1
  unfold fnOk at h1
  simp only [Bool.and_eq_true] at h1
  have h2 := h1.2
  unfold endsOkB at h2
  simp only [Bool.and_eq_true] at h2
  have hb := h2.1.1
  simp [isIn] at hb
  refine ⟨by omega, ?_⟩
  have hr := h2.2
  split at hr
  · simp at hr
    omega
  · split at hr
    · simp [isIn] at hr
      omega
    · cases hr

set_option maxRecDepth 100000 in
set_option maxHeartbeats 3200000 in
theorem implProgramOk_any (v0 v1 : Value) (p : Pg) (w : World) (hR : RowPg w w.heap.size v0 v1 p) (hl : szPg p ≤ 1048576) :
    Calls Try.prog 19 #[.agg #[v0, v1]] w fun e w' => e = .returned (.bool (programOk p)) ∧ Below w.heap.size w w' := by
  obtain ⟨res, hres⟩ : ∃ r, Hid (programOk p = r) := ⟨_, (rfl : programOk p = programOk p)⟩
  rw [hres.out]
  have cF : Hid (∀ W, Below w.heap.size w W → Calls Try.prog 50 #[.agg #[v0, v1]] W fun e w' => e = .returned (.bool (isIn (p.fns.length : Int) 1 8 && fnsTo p.nodes p.fns p.fns.length)) ∧ Below W.heap.size W w') := fun W hW => fnsOk_any v0 v1 p W ((hR.keep hW).up hW.size) hl
  obtain ⟨ns, fs⟩ := p
  simp only at cF
  have hfl : szRow szFc fs ≤ 1048576 := Nat.le_trans (le_szPg_fns ⟨ns, fs⟩) hl
  have hnl : szRow szNd ns ≤ 1048576 := Nat.le_trans (le_szPg_nodes ⟨ns, fs⟩) hl
  have HV : Hid (RowPg w w.heap.size v0 v1 ⟨ns, fs⟩) := hR
  obtain ⟨na, nc, rfl⟩ := hR.1.len
  obtain ⟨fa, fc, rfl⟩ := hR.2.len
  simp only at HV cF ⊢
  obtain ⟨N, HN⟩ : ∃ N, Hid (ns.length = N) := ⟨_, (rfl : ns.length = ns.length)⟩
  obtain ⟨F, HF⟩ : ∃ F, Hid (fs.length = F) := ⟨_, (rfl : fs.length = fs.length)⟩
  have HP : Hid (res = (isIn (N : Int) 1 300 && isIn (F : Int) 1 8 && decide (deepOf ns ((N : Int) - 1) ≠ 0) && fnsTo ns fs F && hangs ns fs)) := by
    show _ = _
    rw [← hres.out, programOk, HN.out, HF.out]
  rw [HN.out, HF.out] at HV cF ⊢
  have hNl : N ≤ 1048576 := by have := len_szRow szNd ns; have := HN.out; omega
  have hFl : F ≤ 1048576 := by have := len_szRow szFc fs; have := HF.out; omega
  have HL : Hid (szRow szNd ns ≤ 1048576) := hnl
  clear hR hl hfl hnl
  by_cases h300 : (300 : Int) < (N : Int)
  · have HE : Hid (res = false) := by show _ = _; rw [HP.out, isIn_off (by omega)]; rfl
    go_enter Try.func19, Try.ntmps19
    go_wp2
    go_ret
    exact ⟨by rw [HE.out]; rfl, by go_grown⟩
  obtain ⟨d, hd⟩ : ∃ d, Hid (deepOf ns ((N : Int) - 1) = d) := ⟨_, (rfl : deepOf ns ((N : Int) - 1) = deepOf ns ((N : Int) - 1))⟩
  have cD : Hid (∀ W, Below w.heap.size w W → Calls Try.prog 15 #[.slice na N nc, .int .i64 ((N : Int) - 1)] W fun e w' => e = .returned (.int .i64 d) ∧ Below W.heap.size W w') := fun W hW => by
    rw [← hd.out]
    exact implDeepOf_any _ ns _ W ((HV.out.1.keep hW).up hW.size) HL.out
  go_enter Try.func19, Try.ntmps19
  go_wp2_with fail
  go_at_call 15
  refine Calls.mono (cD.out _ (by go_grown)) ?_
  rintro e w1 ⟨rfl, hb1⟩
  have B1 : Hid (Box w (.cells #[.slice na N nc, .slice fa F fc] 37) w1) := (Box.first _ _).next hb1
  clear hb1 cD
  by_cases hd0 : d = 0
  · have HE : Hid (res = false) := by show _ = _; rw [HP.out, hd.out, hd0]; simp
    subst hd0
    go_wp2
    go_ret
    exact ⟨by rw [HE.out]; rfl, B1.out.below⟩
  have hN1 : 1 ≤ N := by
    rcases Nat.eq_zero_or_pos N with e | e
    · exfalso
      apply hd0
      rw [← hd.out]
      exact deepOf_out (by omega)
    · exact e
  have hd1 : (d == 0) = false := by simpa using hd0
  obtain ⟨fo, hfo⟩ : ∃ r, Hid ((isIn (F : Int) 1 8 && fnsTo ns fs F) = r) := ⟨_, (rfl : (isIn (F : Int) 1 8 && fnsTo ns fs F) = _)⟩
  rw [hfo.out] at cF
  have HP2 : Hid (res = (fo && hangs ns fs)) := by
    show _ = _
    rw [HP.out, hd.out, ← hfo.out, isIn_yes (by omega) (by omega)]
    simp [hd0]
  have q0 := B1.out.cell 0
  have q1 := B1.out.cell 1
  simp at q0 q1
  go_wp2_with fail
  go_at_call 50
  refine Calls.mono (cF.out _ B1.out.below) ?_
  rintro e w2 ⟨rfl, hb2⟩
  have B2 : Hid (Box w (.cells #[.slice na N nc, .slice fa F fc] 37) w2) := B1.out.next hb2
  clear hb2 cF B1 q0 q1
  cases fo
  · have HE : Hid (res = false) := by show _ = _; rw [HP2.out]; rfl
    go_wp2
    go_ret
    exact ⟨by rw [HE.out]; rfl, B2.out.below⟩
  rw [Bool.true_and] at HP2
  have hne : deepOf ns (((N - 1 : Nat)) : Int) ≠ 0 := by
    rw [show (((N - 1 : Nat)) : Int) = (N : Int) - 1 by omega, hd.out]
    exact hd0
  have HKI : Hid (∀ t, (ht : t < ns.length) → ∀ c ∈ ns[t].kids, 0 ≤ c ∧ c < (N : Int)) := fun t ht c hc => by
    have h1 := kids_in ht (deep_nodes (by rw [HN.out]; omega) hne t (by have := HN.out; omega)) c hc
    have := HN.out
    omega
  have HHI : Hid (∀ t, (ht : t < fs.length) → (0 ≤ fs[t].body ∧ fs[t].body < (N : Int)) ∧ fs[t].ret < (N : Int)) := fun t ht => by
    have h1 := hfo.out
    simp only [Bool.and_eq_true] at h1
    rw [← HN.out]
    exact heads_in (by rw [HF.out]; exact h1.2) t ht
  have cP : Hid (∀ W, Below w.heap.size w W → Calls Try.prog 51 #[.slice na N nc] W fun e w' => (∃ g, e = .returned (.slice (some ⟨g, 0, none⟩) N N) ∧ OwnsI w' W.heap.size (.slice (some ⟨g, 0, none⟩) N N) (cnt (allKids ns) N)) ∧ Below W.heap.size W w') := fun W hW =>
    parentsOf_any na N nc ns W ((HV.out.1.keep hW).up hW.size) HN HL.out HKI.out
  have cH : Hid (∀ W, Below w.heap.size w W → Calls Try.prog 52 #[.agg #[.slice na N nc, .slice fa F fc]] W fun e w' => (∃ g, e = .returned (.slice (some ⟨g, 0, none⟩) N N) ∧ OwnsI w' W.heap.size (.slice (some ⟨g, 0, none⟩) N N) (cnt (heads fs) N)) ∧ Below W.heap.size W w') := fun W hW =>
    headsOf_any na fa N nc F fc fs W ((HV.out.2.keep hW).up hW.size) HF hNl hFl HHI.out
  have HCB : Hid ((allKids ns).length ≤ 1048576 ∧ (heads fs).length ≤ 2097152) := by
    refine ⟨?_, ?_⟩
    · have h1 := kids_le ns
      have h2 := HL.out
      unfold szRow at h2
      omega
    · have := heads_len fs
      have := HF.out
      omega
  have q0 := B2.out.cell 0
  simp at q0
  clear hne hd0
  go_wp2_with fail
  go_at_call 51
  refine Calls.mono (cP.out _ B2.out.below) ?_
  rintro e w3 ⟨⟨g, rfl, ho⟩, hb3⟩
  have B3 : Hid (Box w (.cells #[.slice na N nc, .slice fa F fc] 37) w3) := B2.out.next hb3
  have O3 : Hid (OwnsI w3 w2.heap.size (.slice (some ⟨g, 0, none⟩) N N) (cnt (allKids ns) N)) := ho
  clear hb3 cP B2 q0 ho
  have q0 := B3.out.cell 0
  have q1 := B3.out.cell 1
  simp at q0 q1
  go_wp2_with fail
  go_at_call 52
  refine Calls.mono (cH.out _ B3.out.below) ?_
  rintro e w4 ⟨⟨g', rfl, ho⟩, hb4⟩
  have B4 : Hid (Box w (.cells #[.slice na N nc, .slice fa F fc] 37) w4) := B3.out.next hb4
  have O4 : Hid (OwnsI w4 w2.heap.size (.slice (some ⟨g, 0, none⟩) N N) (cnt (allKids ns) N) ∧ OwnsI w4 w3.heap.size (.slice (some ⟨g', 0, none⟩) N N) (cnt (heads fs) N)) := ⟨OwnsR.below O3.out hb4, ho⟩
  clear hb4 cH B3 q0 q1 ho O3
  have q0 := B4.out.cell 0
  simp at q0
  go_wp2_with fail
  go_loopw [33] (fun i wr => ∃ t : Nat, t ≤ N ∧ i = .int .i64 (t : Int) ∧ Hid (∀ j, j < t → (allKids ns).count (j : Int) + (heads fs).count (j : Int) = 1) ∧ Hid (Below w4.heap.size w4 wr)) (fun i _ => N - (intOf i).toNat)
  case atStart => exact ⟨0, Nat.zero_le _, rfl, fun j hj => by omega, Below.refl _ _⟩
  case round =>
    obtain ⟨t, ht, rfl, HT, HB⟩ := hrel
    have HBw : Hid (Below w.heap.size w wr) := B4.out.below.trans (HB.out.mono B4.out.below.size)
    by_cases hlt : t < N
    · have ht1 : (t : Int) < (N : Int) := by omega
      have ht0 : (0 : Int) ≤ (t : Int) := by omega
      obtain ⟨x, hx⟩ : ∃ x : Nat, Hid ((allKids ns).count (t : Int) = x) := ⟨_, (rfl : (allKids ns).count (t : Int) = (allKids ns).count (t : Int))⟩
      obtain ⟨y, hy⟩ : ∃ y : Nat, Hid ((heads fs).count (t : Int) = y) := ⟨_, (rfl : (heads fs).count (t : Int) = (heads fs).count (t : Int))⟩
      have hxb : x ≤ 1048576 := by rw [← hx.out]; exact Nat.le_trans List.count_le_length HCB.out.1
      have hyb : y ≤ 2097152 := by rw [← hy.out]; exact Nat.le_trans List.count_le_length HCB.out.2
      have c0 := OwnsI.cellAt (OwnsR.below O4.out.1 HB.out) (cnt_len _ N).symm t (by rw [cnt_len]; exact hlt) (x : Int) (by rw [cnt_at _ _ _ hlt, hx.out])
      have c1 := OwnsI.cellAt (OwnsR.below O4.out.2 HB.out) (cnt_len _ N).symm t (by rw [cnt_len]; exact hlt) (y : Int) (by rw [cnt_at _ _ _ hlt, hy.out])
      clear q0
      by_cases h1 : x + y = 1
      · have hs : (x : Int) + (y : Int) = 1 := by omega
        have hs2 : ((x : Int) + (y : Int) != 1) = false := by simp [hs]
        have HT1 : Hid (∀ j, j < t + 1 → (allKids ns).count (j : Int) + (heads fs).count (j : Int) = 1) := fun j hj => by
          rcases Nat.lt_or_ge j t with h | h
          · exact HT.out j h
          · have : j = t := by omega
            subst this
            rw [hx.out, hy.out]
            exact h1
        clear hs h1
        go_wp2_with fail
        go_quiet (fail)
        go_wp2
        go_roundw
        case rel => exact ⟨t + 1, by omega, by go_num, HT1, below_drewN HB.out _⟩
        case measure => simp [intOf]; omega
      · have HE : Hid (res = false) := by show _ = _; rw [HP2.out]; exact hangs_false (j := t) (by rw [HN.out]; exact hlt) (by rw [hx.out, hy.out]; exact h1)
        have hs2 : ((x : Int) + (y : Int) != 1) = true := by simp; omega
        clear h1
        go_wp2_with fail
        go_quiet (fail)
        go_wp2
        go_ret
        exact ⟨by rw [HE.out]; rfl, below_drewN HBw.out _⟩
    · have HE : Hid (res = true) := by show _ = _; rw [HP2.out]; exact hangs_true (fun j hj => HT.out j (by have := HN.out; omega))
      go_wp2
      go_ret
      exact ⟨by rw [HE.out]; rfl, HBw.out⟩

end Go.Proofs.Ytccelfjlffoiiaa
