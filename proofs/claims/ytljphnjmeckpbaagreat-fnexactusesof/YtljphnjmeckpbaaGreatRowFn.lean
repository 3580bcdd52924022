/-
  What the laws' helpers answer of rows of Fn: held against each other, measured, copied, marked. Written by mkrow.py.
-/
import Derived.Test.YtljphnjmeckpbaaGreatRowParam
import Derived.Test.YtljphnjmeckpbaaGreatOpen0
import Derived.Test.YtljphnjmeckpbaaGreatPlain14
import Derived.Test.YtljphnjmeckpbaaGreatRows3
import Derived.Handy
import Derived.BigQuiet
import Derived.Deep.QuietTactic
import Derived.Deep.RegionHeld3
namespace Go.Proofs.YtljphnjmeckpbaaGreat
open Go.RowKit

def fcC (p : Fc × Value) : List Value := [.string p.1.name, p.2, .int .i64 p.1.res, .int .i64 p.1.body, .int .i64 p.1.ret]
theorem all_oneFc {v : Value} {ps : List Pm} {g : Nat} (h : g ∈ fps (PmR.all v ps)) : g ∈ fps [v] := by
  simpa [RowTy.all, PmR, flat_nil] using h
theorem one_allFc {v : Value} {ps : List Pm} {g : Nat} (h : g ∈ fps [v]) : g ∈ fps (PmR.all v ps) := by
  simpa [RowTy.all, PmR, flat_nil] using h
/-- Rows of Fn. -/
def FcR : RowTy (Fc × Value) Fc where
  enc := fcC
  k := 5
  T := 54
  sub := fun w B p => PmR.Phys w B p.2 p.1.params
  rsub := fun w B p => PmR.Row w B p.2 p.1.params
  vals := fun p => [p.2]
  log := Prod.fst
  len := fun _ => rfl
  sub_same := fun h hs => h.same (fun g hg => hs g (all_oneFc hg))
  sub_base := fun h hs => h.base (fun g hg => hs g (all_oneFc hg))
  sub_lt := fun h g hg => h.lt g (one_allFc hg)
  sub_read := fun h hs => by have := h.read (fun g hg => hs g (all_oneFc hg)); rwa [show ∀ ps : List Pm, ps.map PmR.log = ps from List.map_id] at this
  rsub_keep := fun h hb => h.keep hb
  rsub_up := fun h hB => h.up hB
theorem FcR.at {w : World} {B : Nat} {a : Option Addr} {n cap : Nat} {xs : List Fc} (h : FcR.Row w B (.slice a n cap) xs) (i : Nat) (hi : i < xs.length) :
    ∃ b off v0, a = some ⟨b, off, none⟩ ∧ b < B ∧ w.cell? ⟨b, off + i * 5, none⟩ = some (.string xs[i].name) ∧ w.cell? ⟨b, off + i * 5 + 1, none⟩ = some (v0) ∧ w.cell? ⟨b, off + i * 5 + 2, none⟩ = some (.int .i64 xs[i].res) ∧ w.cell? ⟨b, off + i * 5 + 3, none⟩ = some (.int .i64 xs[i].body) ∧ w.cell? ⟨b, off + i * 5 + 4, none⟩ = some (.int .i64 xs[i].ret) ∧ PmR.Row w B v0 xs[i].params := by
  obtain ⟨b, off, p, ha, hb, hp, hk, hc⟩ := RowTy.Row.at h i hi
  obtain ⟨q, v0⟩ := p
  obtain rfl : q = xs[i] := hp
  exact ⟨b, off, v0, ha, hb, hc 0 (by decide), hc 1 (by decide), hc 2 (by decide), hc 3 (by decide), hc 4 (by decide), hk⟩

set_option maxRecDepth 100000 in
set_option maxHeartbeats 1600000 in
theorem eqFn_same (B : Nat) (q : Fc) (a0 b0 : Value) (w : World) (hB : B ≤ w.heap.size) (ha0 : PmR.Row w B a0 q.params) (hb0 : PmR.Row w B b0 q.params) (hl : szFc q ≤ 1048576) :
    Calls Tryz.prog 65 #[.agg #[.string q.name, a0, .int .i64 q.res, .int .i64 q.body, .int .i64 q.ret], .agg #[.string q.name, b0, .int .i64 q.res, .int .i64 q.body, .int .i64 q.ret]] w fun e w' => e = .returned (.bool true) ∧ Below w.heap.size w w' := by
  have cE0 : Hid (∀ W, Below w.heap.size w W → Calls Tryz.prog 93 #[a0, b0] W fun e w' => e = .returned (.bool true) ∧ Below W.heap.size W w') := fun W hW =>
    eqParamS_same B _ _ q.params W (Nat.le_trans hB hW.size) (ha0.keep (hW.mono hB)) (hb0.keep (hW.mono hB)) (Nat.le_trans (le_szFc_params q) hl)
  obtain ⟨name, params, res, body, ret⟩ := q
  simp only
  clear hl ha0 hb0
  go_enter Tryz.func65, Tryz.ntmps65
  go_wp2_with fail
  go_at_call 93
  refine Calls.mono (cE0.out _ (by go_grown)) ?_
  rintro e w1 ⟨rfl, hb⟩
  have HB1 : Hid (Below w.heap.size w w1) := by
    have h0 : Below w.heap.size w ((w.alloc (.cells #[.string name, a0, .int .i64 res, .int .i64 body, .int .i64 ret] 54)).alloc (.cells #[.string name, b0, .int .i64 res, .int .i64 body, .int .i64 ret] 54)) := by go_grown
    exact h0.trans (hb.mono h0.size)
  have x1_2 : w1.cell? ⟨w.heap.size, 2, none⟩ = some (.int .i64 res) := (hb.cell (p := ⟨w.heap.size, 2, none⟩) (by show _ < _; first | (simp; done) | (simp; omega))).trans (by simp)
  have y1_2 : w1.cell? ⟨w.heap.size + 1, 2, none⟩ = some (.int .i64 res) := (hb.cell (p := ⟨w.heap.size + 1, 2, none⟩) (by show _ < _; first | (simp; done) | (simp; omega))).trans (by simp)
  have x1_3 : w1.cell? ⟨w.heap.size, 3, none⟩ = some (.int .i64 body) := (hb.cell (p := ⟨w.heap.size, 3, none⟩) (by show _ < _; first | (simp; done) | (simp; omega))).trans (by simp)
  have y1_3 : w1.cell? ⟨w.heap.size + 1, 3, none⟩ = some (.int .i64 body) := (hb.cell (p := ⟨w.heap.size + 1, 3, none⟩) (by show _ < _; first | (simp; done) | (simp; omega))).trans (by simp)
  have x1_4 : w1.cell? ⟨w.heap.size, 4, none⟩ = some (.int .i64 ret) := (hb.cell (p := ⟨w.heap.size, 4, none⟩) (by show _ < _; first | (simp; done) | (simp; omega))).trans (by simp)
  have y1_4 : w1.cell? ⟨w.heap.size + 1, 4, none⟩ = some (.int .i64 ret) := (hb.cell (p := ⟨w.heap.size + 1, 4, none⟩) (by show _ < _; first | (simp; done) | (simp; omega))).trans (by simp)
  have hs1 : ∀ x, x ≤ w.heap.size + 1 → x < w1.heap.size := fun x hx => by have := hb.size; simp at this; omega
  clear hb cE0
  have HS1 : Hid _ := hs1
  clear hs1
  go_wp2
  go_ret
  exact ⟨rfl, HB1.out⟩

set_option maxRecDepth 100000 in
set_option maxHeartbeats 1600000 in
theorem eqFnS_same (B : Nat) (va vb : Value) (xs : List Fc) (w : World) (hB : B ≤ w.heap.size) (ha : FcR.Row w B va xs) (hb : FcR.Row w B vb xs) (hl : szRow szFc xs ≤ 1048576) :
    Calls Tryz.prog 30 #[va, vb] w fun e w' => e = .returned (.bool true) ∧ Below w.heap.size w w' := by
  obtain ⟨a, ca, rfl⟩ := ha.len
  obtain ⟨b, cb, rfl⟩ := hb.len
  obtain ⟨N, HN⟩ : ∃ N, Hid (xs.length = N) := ⟨_, (rfl : xs.length = xs.length)⟩
  have H : Hid (FcR.Row w B (.slice a N ca) xs ∧ FcR.Row w B (.slice b N cb) xs) := by rw [← HN.out]; exact ⟨ha, hb⟩
  have HS : Hid (szRow szFc xs ≤ 1048576) := hl
  have hN : N ≤ 1048576 := by have := len_szRow szFc xs; have := HN.out; omega
  rw [HN.out]
  clear ha hb hl
  go_enter Tryz.func30, Tryz.ntmps30
  go_wp2
  go_loopw [5] (fun i wr => ∃ k : Nat, k ≤ N ∧ i = .int .i64 (k : Int) ∧ Below w.heap.size w wr) (fun i _ => N - (intOf i).toNat)
  case atStart => exact ⟨0, Nat.zero_le _, rfl, Below.refl _ _⟩
  case round =>
    obtain ⟨k, hk, rfl, hbw⟩ := hrel
    by_cases hlt : k < N
    · have hk1 : (k : Int) < (N : Int) := by omega
      have hk0 : (0 : Int) ≤ (k : Int) := by omega
      have hkl : k < xs.length := by have := HN.out; omega
      obtain ⟨ba, oa, a0, rfl, hba, c0, c1, c2, c3, c4, ra0⟩ := FcR.at H.out.1 k hkl
      obtain ⟨bb, ob, b0, rfl, hbb, e0, e1, e2, e3, e4, rb0⟩ := FcR.at H.out.2 k hkl
      have hq : szFc xs[k] ≤ 1048576 := Nat.le_trans (mem_szRow szFc (List.getElem_mem hkl)) HS.out
      obtain ⟨q, hqe⟩ : ∃ q, Hid (xs[k] = q) := ⟨_, (rfl : xs[k] = xs[k])⟩
      rw [hqe.out] at c0 c2 c3 c4 e0 e2 e3 e4 ra0 rb0 hq
      have cQ : Hid (∀ W, Below w.heap.size w W → Calls Tryz.prog 65 #[.agg #[.string q.name, a0, .int .i64 q.res, .int .i64 q.body, .int .i64 q.ret], .agg #[.string q.name, b0, .int .i64 q.res, .int .i64 q.body, .int .i64 q.ret]] W fun e w' => e = .returned (.bool true) ∧ Below W.heap.size W w') := fun W hW =>
        eqFn_same B q _ _ W (Nat.le_trans hB hW.size) (ra0.keep (hW.mono hB)) (rb0.keep (hW.mono hB)) hq
      obtain ⟨name, params, res, body, ret⟩ := q
      simp only at c0 c2 c3 c4 e0 e2 e3 e4 cQ
      clear hq ra0 rb0
      have hba1 : ba < wr.heap.size := by have := hbw.size; omega
      have hbb1 : bb < wr.heap.size := by have := hbw.size; omega
      have d0 := (hbw.cell (p := ⟨ba, oa + k * 5, none⟩) (by show ba < _; omega)).trans c0
      have f0 := (hbw.cell (p := ⟨bb, ob + k * 5, none⟩) (by show bb < _; omega)).trans e0
      have d1 := (hbw.cell (p := ⟨ba, oa + k * 5 + 1, none⟩) (by show ba < _; omega)).trans c1
      have f1 := (hbw.cell (p := ⟨bb, ob + k * 5 + 1, none⟩) (by show bb < _; omega)).trans e1
      have d2 := (hbw.cell (p := ⟨ba, oa + k * 5 + 2, none⟩) (by show ba < _; omega)).trans c2
      have f2 := (hbw.cell (p := ⟨bb, ob + k * 5 + 2, none⟩) (by show bb < _; omega)).trans e2
      have d3 := (hbw.cell (p := ⟨ba, oa + k * 5 + 3, none⟩) (by show ba < _; omega)).trans c3
      have f3 := (hbw.cell (p := ⟨bb, ob + k * 5 + 3, none⟩) (by show bb < _; omega)).trans e3
      have d4 := (hbw.cell (p := ⟨ba, oa + k * 5 + 4, none⟩) (by show ba < _; omega)).trans c4
      have f4 := (hbw.cell (p := ⟨bb, ob + k * 5 + 4, none⟩) (by show bb < _; omega)).trans e4
      clear c0 c1 c2 c3 c4 e0 e1 e2 e3 e4
      go_wp2_with fail
      go_region_held3 (fun w' => (w'.cell? ⟨ba, oa + k * 5, none⟩ = some (.string name) ∧ w'.cell? ⟨ba, oa + k * 5 + 1, none⟩ = some (a0) ∧ w'.cell? ⟨ba, oa + k * 5 + 2, none⟩ = some (.int .i64 res) ∧ w'.cell? ⟨ba, oa + k * 5 + 3, none⟩ = some (.int .i64 body) ∧ w'.cell? ⟨ba, oa + k * 5 + 4, none⟩ = some (.int .i64 ret)) ∧ (w'.cell? ⟨bb, ob + k * 5, none⟩ = some (.string name) ∧ w'.cell? ⟨bb, ob + k * 5 + 1, none⟩ = some (b0) ∧ w'.cell? ⟨bb, ob + k * 5 + 2, none⟩ = some (.int .i64 res) ∧ w'.cell? ⟨bb, ob + k * 5 + 3, none⟩ = some (.int .i64 body) ∧ w'.cell? ⟨bb, ob + k * 5 + 4, none⟩ = some (.int .i64 ret))) (first | exact ⟨⟨d0, d1, d2, d3, d4⟩, ⟨f0, f1, f2, f3, f4⟩⟩ | exact ⟨⟨(hb1.cell (p := ⟨ba, oa + k * 5, none⟩) hba1).trans d0, (hb1.cell (p := ⟨ba, oa + k * 5 + 1, none⟩) hba1).trans d1, (hb1.cell (p := ⟨ba, oa + k * 5 + 2, none⟩) hba1).trans d2, (hb1.cell (p := ⟨ba, oa + k * 5 + 3, none⟩) hba1).trans d3, (hb1.cell (p := ⟨ba, oa + k * 5 + 4, none⟩) hba1).trans d4⟩, ⟨(hb1.cell (p := ⟨bb, ob + k * 5, none⟩) hbb1).trans f0, (hb1.cell (p := ⟨bb, ob + k * 5 + 1, none⟩) hbb1).trans f1, (hb1.cell (p := ⟨bb, ob + k * 5 + 2, none⟩) hbb1).trans f2, (hb1.cell (p := ⟨bb, ob + k * 5 + 3, none⟩) hbb1).trans f3, (hb1.cell (p := ⟨bb, ob + k * 5 + 4, none⟩) hbb1).trans f4⟩⟩) ((go_at_call 65; refine Calls.mono (cQ.out _ hbw.drew) ?_; rintro e w1 ⟨rfl, hb1⟩))
      all_goals
        go_wp2
        go_roundw
        case rel => exact ⟨k + 1, by omega, by go_num, hbw.drew.trans (hb1.mono hbw.size)⟩
        case measure => simp [intOf]; omega
    · go_wp2
      go_ret
      exact ⟨rfl, hbw⟩

set_option maxRecDepth 100000 in
set_option maxHeartbeats 1600000 in
theorem szFn_sum (B : Nat) (q : Fc) (a0 : Value) (left : Int) (w : World) (hB : B ≤ w.heap.size) (ha0 : PmR.Row w B a0 q.params) (hok : okFc q) (h0 : 0 ≤ left) (h1 : left ≤ 1048576) :
    Calls Tryz.prog 44 #[.agg #[.string q.name, a0, .int .i64 q.res, .int .i64 q.body, .int .i64 q.ret], .int .i64 left] w fun e w' => (∃ r : Int, e = .returned (.int .i64 r) ∧ (r = -1 ∨ (0 ≤ r ∧ r + (szFc q : Int) = left))) ∧ Below w.heap.size w w' := by
  have cS0 : Hid (∀ W l, 0 ≤ l → l ≤ 1048576 → Below w.heap.size w W → Calls Tryz.prog 73 #[a0, .int .i64 l] W fun e w' => (∃ r : Int, e = .returned (.int .i64 r) ∧ (r = -1 ∨ (0 ≤ r ∧ r + (szRow szPm q.params : Int) = l))) ∧ Below W.heap.size W w') := fun W l hl0 hl1 hW =>
    szParamS_sum B _ q.params l W (Nat.le_trans hB hW.size) (ha0.keep (hW.mono hB)) (okFc_params hok) hl0 hl1
  have hs_name : q.name.size ≤ 9223372036854775807 := okFc_name hok
  have HZ : Hid ((szFc q : Int) = (q.name.size : Int) + (szRow szPm q.params : Int)) := by
    show (_ : Int) = _
    unfold szFc
    push_cast
    rfl
  obtain ⟨name, params, res, body, ret⟩ := q
  simp only at *
  obtain ⟨z0, hz0⟩ : ∃ z : Nat, Hid (szRow szPm params = z) := ⟨_, (rfl : szRow szPm params = szRow szPm params)⟩
  rw [hz0.out] at cS0 HZ
  rw [HZ.out]
  clear HZ hok ha0 hz0
  go_enter Tryz.func44, Tryz.ntmps44
  by_cases h_name : left - (name.size : Int) < 0
  · go_wp2
    go_ret
    exact ⟨⟨_, rfl, .inl rfl⟩, by go_grown⟩
  go_wp2_with fail
  go_at_call 73
  refine Calls.mono (cS0.out _ (left - (name.size : Int)) (by omega) (by omega) (by go_grown)) ?_
  rintro e w1 ⟨⟨r1, rfl, hr1⟩, hb⟩
  have HB1 : Hid (Below w.heap.size w w1) := by
    have h0 : Below w.heap.size w (w.alloc (.cells #[.string name, a0, .int .i64 res, .int .i64 body, .int .i64 ret] 79)) := by go_grown
    exact h0.trans (hb.mono h0.size)
  have hs1 : w.heap.size < w1.heap.size := by have := hb.size; simp at this; omega
  clear hb cS0
  rcases hr1 with rfl | ⟨hr1a, hr1b⟩
  · go_wp2
    go_ret
    exact ⟨⟨_, rfl, .inl rfl⟩, HB1.out⟩
  have hr1n : ¬ r1 < 0 := by omega
  go_wp2
  go_ret
  exact ⟨⟨_, rfl, .inr ⟨by omega, by omega⟩⟩, HB1.out⟩

set_option maxRecDepth 100000 in
set_option maxHeartbeats 1600000 in
theorem szFnS_sum (B : Nat) (v : Value) (xs : List Fc) (left : Int) (w : World) (hB : B ≤ w.heap.size) (hv : FcR.Row w B v xs) (hok : okRow okFc xs) (h0 : 0 ≤ left) (h1 : left ≤ 1048576) :
    Calls Tryz.prog 17 #[v, .int .i64 left] w fun e w' => (∃ r : Int, e = .returned (.int .i64 r) ∧ (r = -1 ∨ (0 ≤ r ∧ r + (szRow szFc xs : Int) = left))) ∧ Below w.heap.size w w' := by
  obtain ⟨a, cap, rfl⟩ := hv.len
  obtain ⟨N, HN⟩ : ∃ N, Hid (xs.length = N) := ⟨_, (rfl : xs.length = xs.length)⟩
  have H : Hid (FcR.Row w B (.slice a N cap) xs) := by rw [← HN.out]; exact hv
  have HS : Hid (okRow okFc xs) := hok
  have hlen : N ≤ 9223372036854775807 := by rw [← HN.out]; exact hok.1
  rw [HN.out]
  clear hv hok
  by_cases hneg : left - (N : Int) < 0
  · go_enter Tryz.func17, Tryz.ntmps17
    go_wp2
    go_ret
    exact ⟨⟨_, rfl, .inl rfl⟩, Below.refl _ _⟩
  go_enter Tryz.func17, Tryz.ntmps17
  go_wp2
  go_loopw [1, 5] (fun l i wr => ∃ (k : Nat) (r : Int), k ≤ N ∧ i = .int .i64 (k : Int) ∧ l = .int .i64 r ∧ 0 ≤ r ∧ r ≤ 1048576 ∧ Hid (r + (N : Int) + (szTo szFc xs k : Int) = left) ∧ Below w.heap.size w wr) (fun _ i _ => N - (intOf i).toNat)
  case atStart => exact ⟨0, left - (N : Int), Nat.zero_le _, rfl, rfl, by omega, by omega, by show (_ : Int) = _; rw [szTo_zero]; omega, Below.refl _ _⟩
  case round =>
    obtain ⟨k, r, hk, rfl, rfl, hr0, hr1, HR, hbw⟩ := hrel
    by_cases hlt : k < N
    · have hk1 : (k : Int) < (N : Int) := by omega
      have hk0 : (0 : Int) ≤ (k : Int) := by omega
      have hkl : k < xs.length := by have := HN.out; omega
      obtain ⟨b, off, a0, rfl, hb, c0, c1, c2, c3, c4, ra0⟩ := FcR.at H.out k hkl
      have hq := HS.out.2 xs[k] (List.getElem_mem hkl)
      have HQ : Hid (szTo szFc xs (k + 1) = szTo szFc xs k + szFc xs[k]) := szTo_succ szFc xs k hkl
      obtain ⟨q, hqe⟩ : ∃ q, Hid (xs[k] = q) := ⟨_, (rfl : xs[k] = xs[k])⟩
      rw [hqe.out] at c0 c2 c3 c4 ra0 hq HQ
      have d0 := (hbw.cell (p := ⟨b, off + k * 5, none⟩) (by show b < _; omega)).trans c0
      have d1 := (hbw.cell (p := ⟨b, off + k * 5 + 1, none⟩) (by show b < _; omega)).trans c1
      have d2 := (hbw.cell (p := ⟨b, off + k * 5 + 2, none⟩) (by show b < _; omega)).trans c2
      have d3 := (hbw.cell (p := ⟨b, off + k * 5 + 3, none⟩) (by show b < _; omega)).trans c3
      have d4 := (hbw.cell (p := ⟨b, off + k * 5 + 4, none⟩) (by show b < _; omega)).trans c4
      have cQ : Hid (∀ W, Below w.heap.size w W → Calls Tryz.prog 44 #[.agg #[.string q.name, a0, .int .i64 q.res, .int .i64 q.body, .int .i64 q.ret], .int .i64 r] W fun e w' => (∃ r' : Int, e = .returned (.int .i64 r') ∧ (r' = -1 ∨ (0 ≤ r' ∧ r' + (szFc q : Int) = r))) ∧ Below W.heap.size W w') := fun W hW => szFn_sum B q _ r W (Nat.le_trans hB hW.size) (ra0.keep (hW.mono hB)) hq hr0 hr1
      clear c0 c1 c2 c3 c4 hq ra0
      go_wp2_with fail
      go_at_call 44
      refine Calls.mono (cQ.out _ hbw) ?_
      rintro e w1 ⟨⟨r', rfl, hr'⟩, hb1⟩
      clear cQ
      rcases hr' with rfl | ⟨hr0', hr2⟩
      · go_wp2
        go_ret
        exact ⟨⟨_, rfl, .inl rfl⟩, hbw.trans (hb1.mono hbw.size)⟩
      · have HR1 : Hid (r' + (N : Int) + (szTo szFc xs (k + 1) : Int) = left) := by
          show (_ : Int) = _
          rw [HQ.out]
          have := HR.out
          push_cast
          omega
        have hr3 : r' ≤ 1048576 := by omega
        have hrn : ¬ r' < 0 := by omega
        clear hr2
        go_wp2
        go_roundw
        case rel => exact ⟨k + 1, r', by omega, by go_num, rfl, hr0', hr3, HR1, hbw.trans (hb1.mono hbw.size)⟩
        case measure => simp [intOf]; omega
    · have hkN : Hid (k = N) := (by omega : k = N)
      have HF : Hid (r + (szRow szFc xs : Int) = left) := by
        show (_ : Int) = _
        have := HR.out
        rw [hkN.out, ← HN.out, szTo_all] at this
        unfold szRow
        push_cast
        omega
      go_wp2
      go_ret
      exact ⟨⟨_, rfl, .inr ⟨hr0, HF.out⟩⟩, hbw⟩

set_option maxRecDepth 100000 in
set_option maxHeartbeats 1600000 in
theorem toFn_any (B : Nat) (q : Fc) (a0 : Value) (w : World) (hB : B ≤ w.heap.size) (ha0 : PmR.Row w B a0 q.params) (hl : szFc q ≤ 1048576) :
    Calls Tryz.prog 54 #[.agg #[.string q.name, a0, .int .i64 q.res, .int .i64 q.body, .int .i64 q.ret]] w fun e w' => ∃ g cap, e = .returned (.agg #[.string q.name, (.slice (some ⟨g, 0, none⟩) q.params.length cap), .int .i64 q.res, .int .i64 q.body, .int .i64 q.ret]) ∧ PmR.Phys w' w.heap.size (.slice (some ⟨g, 0, none⟩) q.params.length cap) q.params ∧ Below w.heap.size w w' := by
  have cT : Hid (∀ W, Below w.heap.size w W → Calls Tryz.prog 80 #[a0] W fun e w' => ∃ g cap, e = .returned (.slice (some ⟨g, 0, none⟩) q.params.length cap) ∧ PmR.Phys w' W.heap.size (.slice (some ⟨g, 0, none⟩) q.params.length cap) q.params ∧ Below W.heap.size W w') := fun W hW => by
    refine (toParamS_any B _ q.params W (Nat.le_trans hB hW.size) (ha0.keep (hW.mono hB)) (Nat.le_trans (le_szFc_params q) hl)).mono ?_
    rintro e w1 ⟨g, cap, rfl, ho, hb⟩
    exact ⟨g, cap, rfl, PmR_phys ho, hb⟩
  obtain ⟨name, params, res, body, ret⟩ := q
  simp only at cT ⊢
  obtain ⟨K, HK⟩ : ∃ K, Hid (params.length = K) := ⟨_, (rfl : params.length = params.length)⟩
  rw [HK.out] at cT ⊢
  clear ha0 hl
  go_enter Tryz.func54, Tryz.ntmps54
  go_wp2_with fail
  go_at_call 80
  refine Calls.mono (cT.out _ (by go_grown)) ?_
  rintro e w1 ⟨g, cap, rfl, ho, hb1⟩
  have hO := (hb1.block (w.heap.size + 2) (by first | (simp; done) | (simp; omega))).trans (third_new w _ _ _)
  have hR := (hb1.block (w.heap.size + 1) (by first | (simp; done) | (simp; omega))).trans (second_new w _ _ _)
  have hA := (hb1.block w.heap.size (by first | (simp; done) | (simp; omega))).trans (first_new w _ _ _)
  have o0 := cell_at hO 0
  have r0 := cell_at hR 0
  have f0 := free_at hR 0
  have o1 := cell_at hO 1
  have r1 := cell_at hR 1
  have f1 := free_at hR 1
  have o2 := cell_at hO 2
  have r2 := cell_at hR 2
  have f2 := free_at hR 2
  have o3 := cell_at hO 3
  have r3 := cell_at hR 3
  have f3 := free_at hR 3
  have o4 := cell_at hO 4
  have r4 := cell_at hR 4
  have f4 := free_at hR 4
  have p1 := free_at hO 1
  have p2 := free_at hO 2
  have p3 := free_at hO 3
  have p4 := free_at hO 4
  have a2' := cell_at hA 2
  have a3' := cell_at hA 3
  have a4' := cell_at hA 4
  have HE : Hid (∀ u1 u2 u3 u4 v0 v1 v2 v3 v4, (((((((((w1.setCell ⟨w.heap.size + 2, 1, none⟩ u1).setCell ⟨w.heap.size + 2, 2, none⟩ u2).setCell ⟨w.heap.size + 2, 3, none⟩ u3).setCell ⟨w.heap.size + 2, 4, none⟩ u4).setCell ⟨w.heap.size + 1, 0, none⟩ v0).setCell ⟨w.heap.size + 1, 1, none⟩ v1).setCell ⟨w.heap.size + 1, 2, none⟩ v2).setCell ⟨w.heap.size + 1, 3, none⟩ v3).setCell ⟨w.heap.size + 1, 4, none⟩ v4).heap[w.heap.size + 1]? = some (.cells #[v0, v1, v2, v3, v4] 54 (0, 0))) := fun u1 u2 u3 u4 v0 v1 v2 v3 v4 => by
    simp [World.setCell, Array.getElem?_modify, hR]
  have HN : Hid (∀ u1 u2 u3 u4 v0 v1 v2 v3 v4 x, x ≠ w.heap.size + 1 → x ≠ w.heap.size + 2 → (((((((((w1.setCell ⟨w.heap.size + 2, 1, none⟩ u1).setCell ⟨w.heap.size + 2, 2, none⟩ u2).setCell ⟨w.heap.size + 2, 3, none⟩ u3).setCell ⟨w.heap.size + 2, 4, none⟩ u4).setCell ⟨w.heap.size + 1, 0, none⟩ v0).setCell ⟨w.heap.size + 1, 1, none⟩ v1).setCell ⟨w.heap.size + 1, 2, none⟩ v2).setCell ⟨w.heap.size + 1, 3, none⟩ v3).setCell ⟨w.heap.size + 1, 4, none⟩ v4).heap[x]? = w1.heap[x]?) := fun u1 u2 u3 u4 v0 v1 v2 v3 v4 x h1 h2 => by
    simp only [kept_set h1, kept_set h2]
  simp at o0 r0 o1 r1 o2 r2 o3 r3 o4 r4 a2' a3' a4'
  have HO : Hid (PmR.Phys w1 w.heap.size (.slice (some ⟨g, 0, none⟩) K cap) params ∧ w.heap.size + 3 ≤ g) := by
    have h3 := ho.1.lt g (by simp [fpOf, Value.ownBlock])
    simp at h3
    refine ⟨ho.base (fun b hb => ?_), by omega⟩
    have : b = g := by simpa [RowTy.all, fps, fpOf, Value.ownBlock, flat_nil, PmR] using hb
    omega
  have HB : Hid (Below w.heap.size w w1) := by
    refine Below.trans ?_ (hb1.mono ?_)
    · go_grown
    · simp; omega
  clear hb1 hO hR hA ho cT
  go_wp2
  have e0 := fun u1 u2 u3 u4 v0 v1 v2 v3 v4 => cell_at (HE.out u1 u2 u3 u4 v0 v1 v2 v3 v4) 0
  have e1 := fun u1 u2 u3 u4 v0 v1 v2 v3 v4 => cell_at (HE.out u1 u2 u3 u4 v0 v1 v2 v3 v4) 1
  have e2 := fun u1 u2 u3 u4 v0 v1 v2 v3 v4 => cell_at (HE.out u1 u2 u3 u4 v0 v1 v2 v3 v4) 2
  have e3 := fun u1 u2 u3 u4 v0 v1 v2 v3 v4 => cell_at (HE.out u1 u2 u3 u4 v0 v1 v2 v3 v4) 3
  have e4 := fun u1 u2 u3 u4 v0 v1 v2 v3 v4 => cell_at (HE.out u1 u2 u3 u4 v0 v1 v2 v3 v4) 4
  simp at e0 e1 e2 e3 e4
  refine bodyPost_ret (by simp [results, Tryz.results54, go_sem, e0, e1, e2, e3, e4]; try rfl) rfl ?_
  refine ⟨g, cap, rfl, HO.out.1.same (fun b hb => ?_), ?_⟩
  · have hg := HO.out.2
    have : b = g := by simpa [RowTy.all, fps, fpOf, Value.ownBlock, flat_nil, PmR] using hb
    subst this
    exact HN.out _ _ _ _ _ _ _ _ _ b (by omega) (by omega)
  · have h1 := HB.out
    go_grown

theorem Tryz.infoFc : (Tryz.prog.info? 54).map (fun i => (i.zero, i.size, i.bytes)) = some (some (.agg #[.string ByteArray.empty, .slice none 0 0, .int .i64 0, .int .i64 0, .int .i64 0]), 5, 64) := by kernel_rfl
def fcZ : Fc × Value := (⟨ByteArray.empty, [], 0, 0, 0⟩, .slice none 0 0)

set_option maxRecDepth 100000 in
set_option maxHeartbeats 1600000 in
theorem toFnS_any (B : Nat) (v : Value) (xs : List Fc) (w : World) (hB : B ≤ w.heap.size) (hv : FcR.Row w B v xs) (hl : szRow szFc xs ≤ 1048576) :
    Calls Tryz.prog 24 #[v] w fun e w' => ∃ g cap, e = .returned (.slice (some ⟨g, 0, none⟩) xs.length cap) ∧ FcR.Own w' w.heap.size w'.heap.size (.slice (some ⟨g, 0, none⟩) xs.length cap) xs ∧ Below w.heap.size w w' := by
  obtain ⟨a, cap, rfl⟩ := hv.len
  obtain ⟨N, HN⟩ : ∃ N, Hid (xs.length = N) := ⟨_, (rfl : xs.length = xs.length)⟩
  have H : Hid (FcR.Row w B (.slice a N cap) xs) := by rw [← HN.out]; exact hv
  have HS : Hid (szRow szFc xs ≤ 1048576) := hl
  have hN : N ≤ 1048576 := by have := len_szRow szFc xs; have := HN.out; omega
  rw [HN.out]
  clear hv hl
  obtain ⟨i0, hi, hz0, hz1, hz2⟩ := info_parts Tryz.infoFc
  go_enter Tryz.func24, Tryz.ntmps24
  go_wp2_with (at_make; refine wpList_make_full _ rfl _ _ 29 rfl w.heap.size 54 i0 _ 5 Tryz.underlying29 hi hz0 hz1 _ _ _ _ N rfl rfl (by omega) (by omega) (by rw [hz2]; omega) (by unfold maxLen; omega) (Nat.le_refl _) ?_; intro w0 hown0 hg0)
  clear hi hz0 hz1 hz2
  go_loopw [4] (fun i wr => ∃ k : Nat, k ≤ N ∧ i = .int .i64 (k : Int) ∧ Hid (Made FcR w wr N fcZ xs k) ∧ Below w.heap.size w wr) (fun i _ => N - (intOf i).toNat)
  case atStart =>
    refine ⟨0, Nat.zero_le _, rfl, ?_, (Below.refl _ _).grown hg0 (Nat.le_refl _) (fun k hk => by cases hk)⟩
    show Made _ _ _ _ _ _ _
    refine Made.start xs ?_
    unfold OwnsR
    have hzc := zero_cells (enc := FcR.enc) (k := FcR.k) fcZ (.agg #[.string ByteArray.empty, .slice none 0 0, .int .i64 0, .int .i64 0, .int .i64 0]) FcR.len (by decide) (by simp [Value.cells, FcR, fcC, fcZ]) N
    rw [List.length_replicate, ← hzc]
    exact hown0
  case round =>
    obtain ⟨k, hk, rfl, HM, hbw⟩ := hrel
    clear hown0 hg0
    by_cases hlt : k < N
    · have hk1 : (k : Int) < (N : Int) := by omega
      have hk0 : (0 : Int) ≤ (k : Int) := by omega
      have hkl : k < xs.length := by have := HN.out; omega
      obtain ⟨ba, oa, a0, rfl, hba, c0, c1, c2, c3, c4, ra0⟩ := FcR.at H.out k hkl
      have hq : szFc xs[k] ≤ 1048576 := Nat.le_trans (mem_szRow szFc (List.getElem_mem hkl)) HS.out
      obtain ⟨q, hqe⟩ : ∃ q, Hid (xs[k] = q) := ⟨_, (rfl : xs[k] = xs[k])⟩
      rw [hqe.out] at c0 c2 c3 c4 ra0 hq
      have d0 := (hbw.cell (p := ⟨ba, oa + k * 5, none⟩) (by show ba < _; omega)).trans c0
      have d1 := (hbw.cell (p := ⟨ba, oa + k * 5 + 1, none⟩) (by show ba < _; omega)).trans c1
      have d2 := (hbw.cell (p := ⟨ba, oa + k * 5 + 2, none⟩) (by show ba < _; omega)).trans c2
      have d3 := (hbw.cell (p := ⟨ba, oa + k * 5 + 3, none⟩) (by show ba < _; omega)).trans c3
      have d4 := (hbw.cell (p := ⟨ba, oa + k * 5 + 4, none⟩) (by show ba < _; omega)).trans c4
      have cT : Hid (∀ W, Below w.heap.size w W → Calls Tryz.prog 54 #[.agg #[.string q.name, a0, .int .i64 q.res, .int .i64 q.body, .int .i64 q.ret]] W fun e w' => ∃ g cap, e = .returned (.agg #[.string q.name, (.slice (some ⟨g, 0, none⟩) q.params.length cap), .int .i64 q.res, .int .i64 q.body, .int .i64 q.ret]) ∧ PmR.Phys w' W.heap.size (.slice (some ⟨g, 0, none⟩) q.params.length cap) q.params ∧ Below W.heap.size W w') := fun W hW =>
        toFn_any B q _ W (Nat.le_trans hB hW.size) (ra0.keep (hW.mono hB)) hq
      clear c0 c1 c2 c3 c4 hq ra0
      go_wp2_with fail
      go_at_call 54
      refine Calls.mono (cT.out _ hbw) ?_
      rintro e w1 ⟨g, gc, rfl, ho, hb1⟩
      have S : Hid (Made FcR w (putCells w1 w.heap.size (k * 5) (fcC (q, .slice (some ⟨g, 0, none⟩) q.params.length gc))) N fcZ xs (k + 1)) := Made.step HM.out HN.out hlt hb1 (q, .slice (some ⟨g, 0, none⟩) q.params.length gc) hqe.out.symm ho (by simp [FcR, fps, fpOf, Value.ownBlock])
      clear ho
      obtain ⟨hc, hf⟩ := Made.cells HM.out HN.out hlt hb1
      have z0 : w1.cell? ⟨w.heap.size, k * 5, none⟩ = some (.string ByteArray.empty) := hc 0 (by decide)
      have f0 : w1.frozen? ⟨w.heap.size, k * 5, none⟩ = false := hf _
      have z1 : w1.cell? ⟨w.heap.size, k * 5 + 1, none⟩ = some (.slice none 0 0) := hc 1 (by decide)
      have f1 : w1.frozen? ⟨w.heap.size, k * 5 + 1, none⟩ = false := hf _
      have z2 : w1.cell? ⟨w.heap.size, k * 5 + 2, none⟩ = some (.int .i64 0) := hc 2 (by decide)
      have f2 : w1.frozen? ⟨w.heap.size, k * 5 + 2, none⟩ = false := hf _
      have z3 : w1.cell? ⟨w.heap.size, k * 5 + 3, none⟩ = some (.int .i64 0) := hc 3 (by decide)
      have f3 : w1.frozen? ⟨w.heap.size, k * 5 + 3, none⟩ = false := hf _
      have z4 : w1.cell? ⟨w.heap.size, k * 5 + 4, none⟩ = some (.int .i64 0) := hc 4 (by decide)
      have f4 : w1.frozen? ⟨w.heap.size, k * 5 + 4, none⟩ = false := hf _
      have HB1 : Hid (Below w.heap.size w w1) := hbw.trans (hb1.mono hbw.size)
      clear hc hf hb1 HM cT d0 d1 d2 d3 d4
      go_wp2
      go_roundw
      case rel => exact ⟨k + 1, by omega, by go_num, S, putCells_below (Nat.le_refl _) (fcC (q, _)) _ _ _ HB1.out⟩
      case measure => simp [intOf]; omega
    · have hkN : Hid (k = N) := (by omega : k = N)
      have HF : Hid (FcR.Own wr w.heap.size wr.heap.size (.slice (some ⟨w.heap.size, 0, none⟩) N N) xs) := by
        have := HM.out
        rw [hkN.out] at this
        exact this.done HN.out
      go_wp2
      go_ret
      exact ⟨_, _, rfl, HF.out, hbw⟩

theorem Tryz.structFc : ∃ f0 f1 f2 f3 f4 : Field, Tryz.prog.underlying 79 = some (.struct #[f0, f1, f2, f3, f4]) ∧ f0.offset = 0 ∧ f1.offset = 1 ∧ f2.offset = 2 ∧ f3.offset = 3 ∧ f4.offset = 4 ∧ f0.type = 9 ∧ f1.type = 77 ∧ f2.type = 3 ∧ f3.type = 3 ∧ f4.type = 3 := ⟨_, _, _, _, _, Tryz.underlying79, rfl, rfl, rfl, rfl, rfl, rfl, rfl, rfl, rfl, rfl⟩
theorem Tryz.cellsFc : Tryz.prog.cellsOf 79 = 5 := by kernel_rfl
theorem Tryz.cellsFcs : Tryz.prog.cellsOf 23 = 1 := by kernel_rfl
theorem len_fc {γ : Type} {xs : List γ} (h : xs.length = 5) : ∃ x0 x1 x2 x3 x4, xs = [x0, x1, x2, x3, x4] := by
  match xs, h with
  | [x0, x1, x2, x3, x4], _ => exact ⟨_, _, _, _, _, rfl⟩

/-- One Fn out of its cells. -/
theorem open_fc1 {H : Type} {enc : TypeId × Value → H} {W : World} {fuel : Nat} {cs : List Value} {x : DataW H × List MemPlace}
    (h : DataW.trod enc Tryz.prog W 0 (fun _ => true) true fuel 79 cs = some x) :
    ∃ q : Fc × Value, cs = fcC q ∧ FcR.rsub W W.heap.size q ∧ okFc (FcR.log q) := by
  obtain ⟨f0, f1, f2, f3, f4, hst, o0, o1, o2, o3, o4, t0, t1, t2, t3, t4⟩ := Tryz.structFc
  obtain ⟨xs, k, _, _, hlen, hxl, hf⟩ := DataW.trod_struct hst h
  rw [Tryz.cellsFc] at hlen
  have hxl' : xs.length = 5 := hxl
  obtain ⟨y0, y1, y2, y3, y4, rfl⟩ := len_fc hxl'
  obtain ⟨v0, v1, v2, v3, v4, rfl⟩ := len_fc hlen
  have g0 := hf 0 f0 rfl
  rw [o0, t0, Tryz.cellsStr] at g0
  have g1 := hf 1 f1 rfl
  rw [o1, t1, Tryz.cellsPms] at g1
  have g2 := hf 2 f2 rfl
  rw [o2, t2, Tryz.cellsInt] at g2
  have g3 := hf 3 f3 rfl
  rw [o3, t3, Tryz.cellsInt] at g3
  have g4 := hf 4 f4 rfl
  rw [o4, t4, Tryz.cellsInt] at g4
  simp at g0 g1 g2 g3 g4
  obtain ⟨z0, e0, _, w0⟩ := DataW.trod_string Tryz.underlying9 g0
  simp at e0
  subst e0
  have w0' : z0.size ≤ 9223372036854775807 := Nat.le_trans w0 (by unfold maxLen; omega)
  obtain ⟨z1, hr1, hl1⟩ := open_pms g1
  obtain ⟨z2, e2, _, w2⟩ := DataW.trod_int Tryz.underlying3 g2
  simp at e2
  subst e2
  obtain ⟨z3, e3, _, w3⟩ := DataW.trod_int Tryz.underlying3 g3
  simp at e3
  subst e3
  obtain ⟨z4, e4, _, w4⟩ := DataW.trod_int Tryz.underlying3 g4
  simp at e4
  subst e4
  exact ⟨(⟨z0, z1, z2, z3, z4⟩, v1), rfl, hr1, ⟨w0', hl1⟩⟩

theorem open_fcs {H : Type} {enc : TypeId × Value → H} {W : World} {fuel : Nat} {v : Value} {x : DataW H × List MemPlace}
    (h : DataW.trod enc Tryz.prog W 0 (fun _ => true) true fuel 23 [v] = some x) :
    ∃ xs : List Fc, FcR.Row W W.heap.size v xs ∧ okRow okFc xs := by
  rcases Deep.open_slice Tryz.underlying23 h with ⟨h0, _⟩ | ⟨ad, len, cap, m, n, D, Pl, hcs, hb, hl, hm, hmm, _, hx⟩
  · simp at h0
    subst h0
    exact ⟨[], FcR.row_nil _ _ _ _, by simp [okRow]⟩
  · simp at hcs
    subst hcs
    simp at hmm
    subst hmm
    have each : ∀ i, i < len → ∃ q : Fc × Value, (∀ j, j < 5 → W.cell? (ad.add (i * 5 + j)) = (fcC q)[j]?) ∧ FcR.rsub W W.heap.size q ∧ okFc (FcR.log q) := by
      intro i hi
      obtain ⟨cs', h1, h2⟩ := hx i (by omega)
      rw [Tryz.cellsFc] at h1
      obtain ⟨_, hlen, hcell⟩ := World.cells?_some h1
      obtain ⟨q, rfl, hs, hk⟩ := open_fc1 h2
      refine ⟨q, fun j hj => ?_, hs, hk⟩
      have c := hcell j hj
      rw [Deep.add_add] at c
      exact c
    obtain ⟨f, hf⟩ := @Deep.choose_lt (Fc × Value) ⟨fcZ⟩ _ _ each
    refine ⟨((List.range len).map f).map FcR.log, ⟨_, rfl, rowR_of f hl (by decide) FcR.len (fun i hi j hj => (hf i hi).1 j hj), ?_⟩, ?_, ?_⟩
    · intro p hp
      obtain ⟨i, hi, rfl⟩ := List.mem_map.mp hp
      exact (hf i (by simpa using hi)).2.1
    · simp
      unfold maxLen at hm
      omega
    · intro x hx
      obtain ⟨p, hp, rfl⟩ := List.mem_map.mp hx
      obtain ⟨i, hi, rfl⟩ := List.mem_map.mp hp
      exact (hf i (by simpa using hi)).2.2

end Go.Proofs.YtljphnjmeckpbaaGreat
