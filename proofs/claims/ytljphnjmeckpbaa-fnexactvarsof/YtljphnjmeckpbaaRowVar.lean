/-
  What the laws' helpers answer of rows of Var: held against each other, measured, copied, marked. Written by mkrow.py.
-/
import Derived.Test.YtljphnjmeckpbaaOpen0
import Derived.Test.YtljphnjmeckpbaaPlain33
import Derived.Test.YtljphnjmeckpbaaRows3
import Derived.Handy
import Derived.BigQuiet
import Derived.Deep.QuietTactic
import Derived.Deep.RegionHeld3
namespace Go.Proofs.Ytljphnjmeckpbaa
open Go.RowKit

def vrC (p : Vr) : List Value := [.string p.name, .int .i64 p.ty, .int .i64 p.node]
/-- Rows of Var. -/
def VrR : RowTy (Vr) Vr where
  enc := vrC
  k := 3
  T := 53
  sub := fun w B p => True
  rsub := fun w B p => True
  vals := fun p => []
  log := id
  len := fun _ => rfl
  sub_same := fun _ _ => trivial
  sub_base := fun _ _ => trivial
  sub_lt := fun _ g hg => by simp [fps] at hg
  sub_read := fun _ _ => trivial
  rsub_keep := fun _ _ => trivial
  rsub_up := fun _ _ => trivial
theorem VrR.at {w : World} {B : Nat} {a : Option Addr} {n cap : Nat} {xs : List Vr} (h : VrR.Row w B (.slice a n cap) xs) (i : Nat) (hi : i < xs.length) :
    ∃ b off, a = some ⟨b, off, none⟩ ∧ b < B ∧ w.cell? ⟨b, off + i * 3, none⟩ = some (.string xs[i].name) ∧ w.cell? ⟨b, off + i * 3 + 1, none⟩ = some (.int .i64 xs[i].ty) ∧ w.cell? ⟨b, off + i * 3 + 2, none⟩ = some (.int .i64 xs[i].node) := by
  obtain ⟨b, off, p, ha, hb, hp, hk, hc⟩ := RowTy.Row.at h i hi
  obtain rfl : p = xs[i] := hp
  exact ⟨b, off, ha, hb, hc 0 (by decide), hc 1 (by decide), hc 2 (by decide)⟩

set_option maxRecDepth 100000 in
set_option maxHeartbeats 1600000 in
theorem eqVar_same (B : Nat) (q : Vr)  (w : World) (_hB : B ≤ w.heap.size)  (_hl : szVr q ≤ 1048576) :
    Calls Try.prog 27 #[.agg #[.string q.name, .int .i64 q.ty, .int .i64 q.node], .agg #[.string q.name, .int .i64 q.ty, .int .i64 q.node]] w fun e w' => e = .returned (.bool true) ∧ Below w.heap.size w w' := by
  obtain ⟨name, ty, node⟩ := q
  simp only
  go_enter Try.func27, Try.ntmps27
  go_wp2
  go_ret
  exact ⟨rfl, by go_grown⟩

set_option maxRecDepth 100000 in
set_option maxHeartbeats 1600000 in
theorem eqVarS_same (B : Nat) (va vb : Value) (xs : List Vr) (w : World) (hB : B ≤ w.heap.size) (ha : VrR.Row w B va xs) (hb : VrR.Row w B vb xs) (hl : szRow szVr xs ≤ 1048576) :
    Calls Try.prog 9 #[va, vb] w fun e w' => e = .returned (.bool true) ∧ Below w.heap.size w w' := by
  obtain ⟨a, ca, rfl⟩ := ha.len
  obtain ⟨b, cb, rfl⟩ := hb.len
  obtain ⟨N, HN⟩ : ∃ N, Hid (xs.length = N) := ⟨_, (rfl : xs.length = xs.length)⟩
  have H : Hid (VrR.Row w B (.slice a N ca) xs ∧ VrR.Row w B (.slice b N cb) xs) := by rw [← HN.out]; exact ⟨ha, hb⟩
  have HS : Hid (szRow szVr xs ≤ 1048576) := hl
  have hN : N ≤ 1048576 := by have := len_szRow szVr xs; have := HN.out; omega
  rw [HN.out]
  clear ha hb hl
  go_enter Try.func9, Try.ntmps9
  go_wp2
  go_loopw [5] (fun i wr => ∃ k : Nat, k ≤ N ∧ i = .int .i64 (k : Int) ∧ Below w.heap.size w wr) (fun i _ => N - (intOf i).toNat)
  case atStart => exact ⟨0, Nat.zero_le _, rfl, Below.refl _ _⟩
  case round =>
    obtain ⟨k, hk, rfl, hbw⟩ := hrel
    by_cases hlt : k < N
    · have hk1 : (k : Int) < (N : Int) := by omega
      have hk0 : (0 : Int) ≤ (k : Int) := by omega
      have hkl : k < xs.length := by have := HN.out; omega
      obtain ⟨ba, oa, rfl, hba, c0, c1, c2⟩ := VrR.at H.out.1 k hkl
      obtain ⟨bb, ob, rfl, hbb, e0, e1, e2⟩ := VrR.at H.out.2 k hkl
      have hq : szVr xs[k] ≤ 1048576 := Nat.le_trans (mem_szRow szVr (List.getElem_mem hkl)) HS.out
      obtain ⟨q, hqe⟩ : ∃ q, Hid (xs[k] = q) := ⟨_, (rfl : xs[k] = xs[k])⟩
      rw [hqe.out] at c0 c1 c2 e0 e1 e2 hq
      have cQ : Hid (∀ W, Below w.heap.size w W → Calls Try.prog 27 #[.agg #[.string q.name, .int .i64 q.ty, .int .i64 q.node], .agg #[.string q.name, .int .i64 q.ty, .int .i64 q.node]] W fun e w' => e = .returned (.bool true) ∧ Below W.heap.size W w') := fun W hW =>
        eqVar_same B q W (Nat.le_trans hB hW.size) hq
      obtain ⟨name, ty, node⟩ := q
      simp only at c0 c1 c2 e0 e1 e2 cQ
      clear hq
      have hba1 : ba < wr.heap.size := by have := hbw.size; omega
      have hbb1 : bb < wr.heap.size := by have := hbw.size; omega
      have d0 := (hbw.cell (p := ⟨ba, oa + k * 3, none⟩) (by show ba < _; omega)).trans c0
      have f0 := (hbw.cell (p := ⟨bb, ob + k * 3, none⟩) (by show bb < _; omega)).trans e0
      have d1 := (hbw.cell (p := ⟨ba, oa + k * 3 + 1, none⟩) (by show ba < _; omega)).trans c1
      have f1 := (hbw.cell (p := ⟨bb, ob + k * 3 + 1, none⟩) (by show bb < _; omega)).trans e1
      have d2 := (hbw.cell (p := ⟨ba, oa + k * 3 + 2, none⟩) (by show ba < _; omega)).trans c2
      have f2 := (hbw.cell (p := ⟨bb, ob + k * 3 + 2, none⟩) (by show bb < _; omega)).trans e2
      clear c0 c1 c2 e0 e1 e2
      go_wp2_with fail
      go_region_held3 (fun w' => (w'.cell? ⟨ba, oa + k * 3, none⟩ = some (.string name) ∧ w'.cell? ⟨ba, oa + k * 3 + 1, none⟩ = some (.int .i64 ty) ∧ w'.cell? ⟨ba, oa + k * 3 + 2, none⟩ = some (.int .i64 node)) ∧ (w'.cell? ⟨bb, ob + k * 3, none⟩ = some (.string name) ∧ w'.cell? ⟨bb, ob + k * 3 + 1, none⟩ = some (.int .i64 ty) ∧ w'.cell? ⟨bb, ob + k * 3 + 2, none⟩ = some (.int .i64 node))) (first | exact ⟨⟨d0, d1, d2⟩, ⟨f0, f1, f2⟩⟩ | exact ⟨⟨(hb1.cell (p := ⟨ba, oa + k * 3, none⟩) hba1).trans d0, (hb1.cell (p := ⟨ba, oa + k * 3 + 1, none⟩) hba1).trans d1, (hb1.cell (p := ⟨ba, oa + k * 3 + 2, none⟩) hba1).trans d2⟩, ⟨(hb1.cell (p := ⟨bb, ob + k * 3, none⟩) hbb1).trans f0, (hb1.cell (p := ⟨bb, ob + k * 3 + 1, none⟩) hbb1).trans f1, (hb1.cell (p := ⟨bb, ob + k * 3 + 2, none⟩) hbb1).trans f2⟩⟩) ((go_at_call 27; refine Calls.mono (cQ.out _ hbw.drew) ?_; rintro e w1 ⟨rfl, hb1⟩))
      all_goals
        go_wp2
        go_roundw
        case rel => exact ⟨k + 1, by omega, by go_num, hbw.drew.trans (hb1.mono hbw.size)⟩
        case measure => simp [intOf]; omega
    · go_wp2
      go_ret
      exact ⟨rfl, hbw⟩

set_option maxRecDepth 100000 in
set_option maxHeartbeats 1600000 in
theorem szVar_sum (B : Nat) (q : Vr)  (left : Int) (w : World) (_hB : B ≤ w.heap.size)  (hok : okVr q) (h0 : 0 ≤ left) (h1 : left ≤ 1048576) :
    Calls Try.prog 33 #[.agg #[.string q.name, .int .i64 q.ty, .int .i64 q.node], .int .i64 left] w fun e w' => (∃ r : Int, e = .returned (.int .i64 r) ∧ (r = -1 ∨ (0 ≤ r ∧ r + (szVr q : Int) = left))) ∧ Below w.heap.size w w' := by
  have hs_name : q.name.size ≤ 9223372036854775807 := okVr_name hok
  have HZ : Hid ((szVr q : Int) = (q.name.size : Int)) := by
    show (_ : Int) = _
    unfold szVr
    push_cast
    rfl
  obtain ⟨name, ty, node⟩ := q
  simp only at *
  rw [HZ.out]
  clear HZ hok
  go_enter Try.func33, Try.ntmps33
  by_cases h_name : left - (name.size : Int) < 0
  · go_wp2
    go_ret
    exact ⟨⟨_, rfl, .inl rfl⟩, by go_grown⟩
  go_wp2
  go_ret
  exact ⟨⟨_, rfl, .inr ⟨by omega, by omega⟩⟩, by go_grown⟩

set_option maxRecDepth 100000 in
set_option maxHeartbeats 1600000 in
theorem szVarS_sum (B : Nat) (v : Value) (xs : List Vr) (left : Int) (w : World) (hB : B ≤ w.heap.size) (hv : VrR.Row w B v xs) (hok : okRow okVr xs) (h0 : 0 ≤ left) (h1 : left ≤ 1048576) :
    Calls Try.prog 14 #[v, .int .i64 left] w fun e w' => (∃ r : Int, e = .returned (.int .i64 r) ∧ (r = -1 ∨ (0 ≤ r ∧ r + (szRow szVr xs : Int) = left))) ∧ Below w.heap.size w w' := by
  obtain ⟨a, cap, rfl⟩ := hv.len
  obtain ⟨N, HN⟩ : ∃ N, Hid (xs.length = N) := ⟨_, (rfl : xs.length = xs.length)⟩
  have H : Hid (VrR.Row w B (.slice a N cap) xs) := by rw [← HN.out]; exact hv
  have HS : Hid (okRow okVr xs) := hok
  have hlen : N ≤ 9223372036854775807 := by rw [← HN.out]; exact hok.1
  rw [HN.out]
  clear hv hok
  by_cases hneg : left - (N : Int) < 0
  · go_enter Try.func14, Try.ntmps14
    go_wp2
    go_ret
    exact ⟨⟨_, rfl, .inl rfl⟩, Below.refl _ _⟩
  go_enter Try.func14, Try.ntmps14
  go_wp2
  go_loopw [1, 5] (fun l i wr => ∃ (k : Nat) (r : Int), k ≤ N ∧ i = .int .i64 (k : Int) ∧ l = .int .i64 r ∧ 0 ≤ r ∧ r ≤ 1048576 ∧ Hid (r + (N : Int) + (szTo szVr xs k : Int) = left) ∧ Below w.heap.size w wr) (fun _ i _ => N - (intOf i).toNat)
  case atStart => exact ⟨0, left - (N : Int), Nat.zero_le _, rfl, rfl, by omega, by omega, by show (_ : Int) = _; rw [szTo_zero]; omega, Below.refl _ _⟩
  case round =>
    obtain ⟨k, r, hk, rfl, rfl, hr0, hr1, HR, hbw⟩ := hrel
    by_cases hlt : k < N
    · have hk1 : (k : Int) < (N : Int) := by omega
      have hk0 : (0 : Int) ≤ (k : Int) := by omega
      have hkl : k < xs.length := by have := HN.out; omega
      obtain ⟨b, off, rfl, hb, c0, c1, c2⟩ := VrR.at H.out k hkl
      have hq := HS.out.2 xs[k] (List.getElem_mem hkl)
      have HQ : Hid (szTo szVr xs (k + 1) = szTo szVr xs k + szVr xs[k]) := szTo_succ szVr xs k hkl
      obtain ⟨q, hqe⟩ : ∃ q, Hid (xs[k] = q) := ⟨_, (rfl : xs[k] = xs[k])⟩
      rw [hqe.out] at c0 c1 c2 hq HQ
      have d0 := (hbw.cell (p := ⟨b, off + k * 3, none⟩) (by show b < _; omega)).trans c0
      have d1 := (hbw.cell (p := ⟨b, off + k * 3 + 1, none⟩) (by show b < _; omega)).trans c1
      have d2 := (hbw.cell (p := ⟨b, off + k * 3 + 2, none⟩) (by show b < _; omega)).trans c2
      have cQ : Hid (∀ W, Below w.heap.size w W → Calls Try.prog 33 #[.agg #[.string q.name, .int .i64 q.ty, .int .i64 q.node], .int .i64 r] W fun e w' => (∃ r' : Int, e = .returned (.int .i64 r') ∧ (r' = -1 ∨ (0 ≤ r' ∧ r' + (szVr q : Int) = r))) ∧ Below W.heap.size W w') := fun W hW => szVar_sum B q r W (Nat.le_trans hB hW.size) hq hr0 hr1
      clear c0 c1 c2 hq
      go_wp2_with fail
      go_at_call 33
      refine Calls.mono (cQ.out _ hbw) ?_
      rintro e w1 ⟨⟨r', rfl, hr'⟩, hb1⟩
      clear cQ
      rcases hr' with rfl | ⟨hr0', hr2⟩
      · go_wp2
        go_ret
        exact ⟨⟨_, rfl, .inl rfl⟩, hbw.trans (hb1.mono hbw.size)⟩
      · have HR1 : Hid (r' + (N : Int) + (szTo szVr xs (k + 1) : Int) = left) := by
          show (_ : Int) = _
          rw [HQ.out]
          have := HR.out
          push_cast
          omega
        have hr3 : r' ≤ 1048576 := by omega
        have hrn : ¬ r' < 0 := by omega
        clear hr2
        go_wp2
        go_roundw
        case rel => exact ⟨k + 1, r', by omega, by go_num, rfl, hr0', hr3, HR1, hbw.trans (hb1.mono hbw.size)⟩
        case measure => simp [intOf]; omega
    · have hkN : Hid (k = N) := (by omega : k = N)
      have HF : Hid (r + (szRow szVr xs : Int) = left) := by
        show (_ : Int) = _
        have := HR.out
        rw [hkN.out, ← HN.out, szTo_all] at this
        unfold szRow
        push_cast
        omega
      go_wp2
      go_ret
      exact ⟨⟨_, rfl, .inr ⟨hr0, HF.out⟩⟩, hbw⟩

theorem toVar_any (q : Vr) (w : World) :
    Calls Try.prog 34 #[.agg #[.string q.name, .int .i64 q.ty, .int .i64 q.node]] w fun e w' => e = .returned (.agg #[.string q.name, .int .i64 q.ty, .int .i64 q.node]) ∧ Below w.heap.size w w' := by
  obtain ⟨name, ty, node⟩ := q
  simp only
  go_enter Try.func34, Try.ntmps34
  go_wp2
  go_returns
  exact ⟨rfl, by go_grown⟩

theorem VrR_phys {w : World} {B H : Nat} {v : Value} {xs : List Vr} (h : VrR.Own w B H v xs) : VrR.Phys w B v xs := by
  obtain ⟨ps, hl, hp, _⟩ := h
  obtain rfl : ps = xs := by rw [← hl]; exact (List.map_id ps).symm
  exact hp

theorem Try.infoVr : (Try.prog.info? 53).map (fun i => (i.zero, i.size, i.bytes)) = some (some (.agg #[.string ByteArray.empty, .int .i64 0, .int .i64 0]), 3, 32) := by kernel_rfl
def vrZ : Vr := ⟨ByteArray.empty, 0, 0⟩

set_option maxRecDepth 100000 in
set_option maxHeartbeats 1600000 in
theorem toVarS_any (B : Nat) (v : Value) (xs : List Vr) (w : World) (hB : B ≤ w.heap.size) (hv : VrR.Row w B v xs) (hl : szRow szVr xs ≤ 1048576) :
    Calls Try.prog 16 #[v] w fun e w' => ∃ g cap, e = .returned (.slice (some ⟨g, 0, none⟩) xs.length cap) ∧ VrR.Own w' w.heap.size w'.heap.size (.slice (some ⟨g, 0, none⟩) xs.length cap) xs ∧ Below w.heap.size w w' := by
  obtain ⟨a, cap, rfl⟩ := hv.len
  obtain ⟨N, HN⟩ : ∃ N, Hid (xs.length = N) := ⟨_, (rfl : xs.length = xs.length)⟩
  have H : Hid (VrR.Row w B (.slice a N cap) xs) := by rw [← HN.out]; exact hv
  have HS : Hid (szRow szVr xs ≤ 1048576) := hl
  have hN : N ≤ 1048576 := by have := len_szRow szVr xs; have := HN.out; omega
  rw [HN.out]
  clear hv hl
  obtain ⟨i0, hi, hz0, hz1, hz2⟩ := info_parts Try.infoVr
  go_enter Try.func16, Try.ntmps16
  go_wp2_with (at_make; refine wpList_make_full _ rfl _ _ 27 rfl w.heap.size 53 i0 _ 3 Try.underlying27 hi hz0 hz1 _ _ _ _ N rfl rfl (by omega) (by omega) (by rw [hz2]; omega) (by unfold maxLen; omega) (Nat.le_refl _) ?_; intro w0 hown0 hg0)
  clear hi hz0 hz1 hz2
  go_loopw [4] (fun i wr => ∃ k : Nat, k ≤ N ∧ i = .int .i64 (k : Int) ∧ Hid (Made VrR w wr N vrZ xs k) ∧ Below w.heap.size w wr) (fun i _ => N - (intOf i).toNat)
  case atStart =>
    refine ⟨0, Nat.zero_le _, rfl, ?_, (Below.refl _ _).grown hg0 (Nat.le_refl _) (fun k hk => by cases hk)⟩
    show Made _ _ _ _ _ _ _
    refine Made.start xs ?_
    unfold OwnsR
    have hzc := zero_cells (enc := VrR.enc) (k := VrR.k) vrZ (.agg #[.string ByteArray.empty, .int .i64 0, .int .i64 0]) VrR.len (by decide) (by simp [Value.cells, VrR, vrC, vrZ]) N
    rw [List.length_replicate, ← hzc]
    exact hown0
  case round =>
    obtain ⟨k, hk, rfl, HM, hbw⟩ := hrel
    clear hown0 hg0
    by_cases hlt : k < N
    · have hk1 : (k : Int) < (N : Int) := by omega
      have hk0 : (0 : Int) ≤ (k : Int) := by omega
      have hkl : k < xs.length := by have := HN.out; omega
      obtain ⟨ba, oa, rfl, hba, c0, c1, c2⟩ := VrR.at H.out k hkl
      have hq : szVr xs[k] ≤ 1048576 := Nat.le_trans (mem_szRow szVr (List.getElem_mem hkl)) HS.out
      obtain ⟨q, hqe⟩ : ∃ q, Hid (xs[k] = q) := ⟨_, (rfl : xs[k] = xs[k])⟩
      rw [hqe.out] at c0 c1 c2 hq
      have d0 := (hbw.cell (p := ⟨ba, oa + k * 3, none⟩) (by show ba < _; omega)).trans c0
      have d1 := (hbw.cell (p := ⟨ba, oa + k * 3 + 1, none⟩) (by show ba < _; omega)).trans c1
      have d2 := (hbw.cell (p := ⟨ba, oa + k * 3 + 2, none⟩) (by show ba < _; omega)).trans c2
      have cT : Hid (∀ W, Below w.heap.size w W → Calls Try.prog 34 #[.agg #[.string q.name, .int .i64 q.ty, .int .i64 q.node]] W fun e w' => e = .returned (.agg #[.string q.name, .int .i64 q.ty, .int .i64 q.node]) ∧ Below W.heap.size W w') := fun W _ => toVar_any q W
      clear c0 c1 c2 hq
      go_wp2_with fail
      go_at_call 34
      refine Calls.mono (cT.out _ hbw) ?_
      rintro e w1 ⟨rfl, hb1⟩
      have S : Hid (Made VrR w (putCells w1 w.heap.size (k * 3) (vrC q)) N vrZ xs (k + 1)) := Made.step HM.out HN.out hlt hb1 q hqe.out.symm trivial (by simp [VrR, fps])
      obtain ⟨hc, hf⟩ := Made.cells HM.out HN.out hlt hb1
      have z0 : w1.cell? ⟨w.heap.size, k * 3, none⟩ = some (.string ByteArray.empty) := hc 0 (by decide)
      have f0 : w1.frozen? ⟨w.heap.size, k * 3, none⟩ = false := hf _
      have z1 : w1.cell? ⟨w.heap.size, k * 3 + 1, none⟩ = some (.int .i64 0) := hc 1 (by decide)
      have f1 : w1.frozen? ⟨w.heap.size, k * 3 + 1, none⟩ = false := hf _
      have z2 : w1.cell? ⟨w.heap.size, k * 3 + 2, none⟩ = some (.int .i64 0) := hc 2 (by decide)
      have f2 : w1.frozen? ⟨w.heap.size, k * 3 + 2, none⟩ = false := hf _
      have HB1 : Hid (Below w.heap.size w w1) := hbw.trans (hb1.mono hbw.size)
      clear hc hf hb1 HM cT d0 d1 d2
      go_wp2
      go_roundw
      case rel => exact ⟨k + 1, by omega, by go_num, S, putCells_below (Nat.le_refl _) (vrC q) _ _ _ HB1.out⟩
      case measure => simp [intOf]; omega
    · have hkN : Hid (k = N) := (by omega : k = N)
      have HF : Hid (VrR.Own wr w.heap.size wr.heap.size (.slice (some ⟨w.heap.size, 0, none⟩) N N) xs) := by
        have := HM.out
        rw [hkN.out] at this
        exact this.done HN.out
      go_wp2
      go_ret
      exact ⟨_, _, rfl, HF.out, hbw⟩

theorem Try.structVr : ∃ f0 f1 f2 : Field, Try.prog.underlying 69 = some (.struct #[f0, f1, f2]) ∧ f0.offset = 0 ∧ f1.offset = 1 ∧ f2.offset = 2 ∧ f0.type = 9 ∧ f1.type = 3 ∧ f2.type = 3 := ⟨_, _, _, Try.underlying69, rfl, rfl, rfl, rfl, rfl, rfl⟩
theorem Try.cellsVr : Try.prog.cellsOf 69 = 3 := by kernel_rfl
theorem Try.cellsVrs : Try.prog.cellsOf 39 = 1 := by kernel_rfl
theorem len_vr {γ : Type} {xs : List γ} (h : xs.length = 3) : ∃ x0 x1 x2, xs = [x0, x1, x2] := by
  match xs, h with
  | [x0, x1, x2], _ => exact ⟨_, _, _, rfl⟩

/-- One Var out of its cells. -/
theorem open_vr1 {H : Type} {enc : TypeId × Value → H} {W : World} {fuel : Nat} {cs : List Value} {x : DataW H × List MemPlace}
    (h : DataW.trod enc Try.prog W 0 (fun _ => true) true fuel 69 cs = some x) :
    ∃ q : Vr, cs = vrC q ∧ VrR.rsub W W.heap.size q ∧ okVr (VrR.log q) := by
  obtain ⟨f0, f1, f2, hst, o0, o1, o2, t0, t1, t2⟩ := Try.structVr
  obtain ⟨xs, k, _, _, hlen, hxl, hf⟩ := DataW.trod_struct hst h
  rw [Try.cellsVr] at hlen
  have hxl' : xs.length = 3 := hxl
  obtain ⟨y0, y1, y2, rfl⟩ := len_vr hxl'
  obtain ⟨v0, v1, v2, rfl⟩ := len_vr hlen
  have g0 := hf 0 f0 rfl
  rw [o0, t0, Try.cellsStr] at g0
  have g1 := hf 1 f1 rfl
  rw [o1, t1, Try.cellsInt] at g1
  have g2 := hf 2 f2 rfl
  rw [o2, t2, Try.cellsInt] at g2
  simp at g0 g1 g2
  obtain ⟨z0, e0, _, w0⟩ := DataW.trod_string Try.underlying9 g0
  simp at e0
  subst e0
  have w0' : z0.size ≤ 9223372036854775807 := Nat.le_trans w0 (by unfold maxLen; omega)
  obtain ⟨z1, e1, _, w1⟩ := DataW.trod_int Try.underlying3 g1
  simp at e1
  subst e1
  obtain ⟨z2, e2, _, w2⟩ := DataW.trod_int Try.underlying3 g2
  simp at e2
  subst e2
  exact ⟨⟨z0, z1, z2⟩, rfl, trivial, w0'⟩

theorem open_vrs {H : Type} {enc : TypeId × Value → H} {W : World} {fuel : Nat} {v : Value} {x : DataW H × List MemPlace}
    (h : DataW.trod enc Try.prog W 0 (fun _ => true) true fuel 39 [v] = some x) :
    ∃ xs : List Vr, VrR.Row W W.heap.size v xs ∧ okRow okVr xs := by
  rcases Deep.open_slice Try.underlying39 h with ⟨h0, _⟩ | ⟨ad, len, cap, m, n, D, Pl, hcs, hb, hl, hm, hmm, _, hx⟩
  · simp at h0
    subst h0
    exact ⟨[], VrR.row_nil _ _ _ _, by simp [okRow]⟩
  · simp at hcs
    subst hcs
    simp at hmm
    subst hmm
    have each : ∀ i, i < len → ∃ q : Vr, (∀ j, j < 3 → W.cell? (ad.add (i * 3 + j)) = (vrC q)[j]?) ∧ VrR.rsub W W.heap.size q ∧ okVr (VrR.log q) := by
      intro i hi
      obtain ⟨cs', h1, h2⟩ := hx i (by omega)
      rw [Try.cellsVr] at h1
      obtain ⟨_, hlen, hcell⟩ := World.cells?_some h1
      obtain ⟨q, rfl, hs, hk⟩ := open_vr1 h2
      refine ⟨q, fun j hj => ?_, hs, hk⟩
      have c := hcell j hj
      rw [Deep.add_add] at c
      exact c
    obtain ⟨f, hf⟩ := @Deep.choose_lt (Vr) ⟨vrZ⟩ _ _ each
    refine ⟨((List.range len).map f).map VrR.log, ⟨_, rfl, rowR_of f hl (by decide) VrR.len (fun i hi j hj => (hf i hi).1 j hj), ?_⟩, ?_, ?_⟩
    · intro p hp
      obtain ⟨i, hi, rfl⟩ := List.mem_map.mp hp
      exact (hf i (by simpa using hi)).2.1
    · simp
      unfold maxLen at hm
      omega
    · intro x hx
      obtain ⟨p, hp, rfl⟩ := List.mem_map.mp hx
      obtain ⟨i, hi, rfl⟩ := List.mem_map.mp hp
      exact (hf i (by simpa using hi)).2.2

end Go.Proofs.Ytljphnjmeckpbaa
