/-
  What the laws' helpers answer of rows of Param: held against each other, measured, copied, marked. Written by mkrow.py.
-/
import Derived.Test.YtljphnjmeckpbaaGreatOpen0
import Derived.Test.YtljphnjmeckpbaaGreatPlain14
import Derived.Test.YtljphnjmeckpbaaGreatRows3
import Derived.Handy
import Derived.BigQuiet
import Derived.Deep.QuietTactic
import Derived.Deep.RegionHeld3
namespace Go.Proofs.YtljphnjmeckpbaaGreat
open Go.RowKit

def pmC (p : Pm) : List Value := [.string p.name, .int .i64 p.ty]
/-- Rows of Param. -/
def PmR : RowTy (Pm) Pm where
  enc := pmC
  k := 2
  T := 56
  sub := fun w B p => True
  rsub := fun w B p => True
  vals := fun p => []
  log := id
  len := fun _ => rfl
  sub_same := fun _ _ => trivial
  sub_base := fun _ _ => trivial
  sub_lt := fun _ g hg => by simp [fps] at hg
  sub_read := fun _ _ => trivial
  rsub_keep := fun _ _ => trivial
  rsub_up := fun _ _ => trivial
theorem PmR.at {w : World} {B : Nat} {a : Option Addr} {n cap : Nat} {xs : List Pm} (h : PmR.Row w B (.slice a n cap) xs) (i : Nat) (hi : i < xs.length) :
    ∃ b off, a = some ⟨b, off, none⟩ ∧ b < B ∧ w.cell? ⟨b, off + i * 2, none⟩ = some (.string xs[i].name) ∧ w.cell? ⟨b, off + i * 2 + 1, none⟩ = some (.int .i64 xs[i].ty) := by
  obtain ⟨b, off, p, ha, hb, hp, hk, hc⟩ := RowTy.Row.at h i hi
  obtain rfl : p = xs[i] := hp
  exact ⟨b, off, ha, hb, hc 0 (by decide), hc 1 (by decide)⟩

set_option maxRecDepth 100000 in
set_option maxHeartbeats 1600000 in
theorem eqParam_same (B : Nat) (q : Pm)  (w : World) (_hB : B ≤ w.heap.size)  (_hl : szPm q ≤ 1048576) :
    Calls Tryz.prog 119 #[.agg #[.string q.name, .int .i64 q.ty], .agg #[.string q.name, .int .i64 q.ty]] w fun e w' => e = .returned (.bool true) ∧ Below w.heap.size w w' := by
  obtain ⟨name, ty⟩ := q
  simp only
  go_enter Tryz.func119, Tryz.ntmps119
  go_wp2
  go_ret
  exact ⟨rfl, by go_grown⟩

set_option maxRecDepth 100000 in
set_option maxHeartbeats 1600000 in
theorem eqParamS_same (B : Nat) (va vb : Value) (xs : List Pm) (w : World) (hB : B ≤ w.heap.size) (ha : PmR.Row w B va xs) (hb : PmR.Row w B vb xs) (hl : szRow szPm xs ≤ 1048576) :
    Calls Tryz.prog 93 #[va, vb] w fun e w' => e = .returned (.bool true) ∧ Below w.heap.size w w' := by
  obtain ⟨a, ca, rfl⟩ := ha.len
  obtain ⟨b, cb, rfl⟩ := hb.len
  obtain ⟨N, HN⟩ : ∃ N, Hid (xs.length = N) := ⟨_, (rfl : xs.length = xs.length)⟩
  have H : Hid (PmR.Row w B (.slice a N ca) xs ∧ PmR.Row w B (.slice b N cb) xs) := by rw [← HN.out]; exact ⟨ha, hb⟩
  have HS : Hid (szRow szPm xs ≤ 1048576) := hl
  have hN : N ≤ 1048576 := by have := len_szRow szPm xs; have := HN.out; omega
  rw [HN.out]
  clear ha hb hl
  go_enter Tryz.func93, Tryz.ntmps93
  go_wp2
  go_loopw [5] (fun i wr => ∃ k : Nat, k ≤ N ∧ i = .int .i64 (k : Int) ∧ Below w.heap.size w wr) (fun i _ => N - (intOf i).toNat)
  case atStart => exact ⟨0, Nat.zero_le _, rfl, Below.refl _ _⟩
  case round =>
    obtain ⟨k, hk, rfl, hbw⟩ := hrel
    by_cases hlt : k < N
    · have hk1 : (k : Int) < (N : Int) := by omega
      have hk0 : (0 : Int) ≤ (k : Int) := by omega
      have hkl : k < xs.length := by have := HN.out; omega
      obtain ⟨ba, oa, rfl, hba, c0, c1⟩ := PmR.at H.out.1 k hkl
      obtain ⟨bb, ob, rfl, hbb, e0, e1⟩ := PmR.at H.out.2 k hkl
      have hq : szPm xs[k] ≤ 1048576 := Nat.le_trans (mem_szRow szPm (List.getElem_mem hkl)) HS.out
      obtain ⟨q, hqe⟩ : ∃ q, Hid (xs[k] = q) := ⟨_, (rfl : xs[k] = xs[k])⟩
      rw [hqe.out] at c0 c1 e0 e1 hq
      have cQ : Hid (∀ W, Below w.heap.size w W → Calls Tryz.prog 119 #[.agg #[.string q.name, .int .i64 q.ty], .agg #[.string q.name, .int .i64 q.ty]] W fun e w' => e = .returned (.bool true) ∧ Below W.heap.size W w') := fun W hW =>
        eqParam_same B q W (Nat.le_trans hB hW.size) hq
      obtain ⟨name, ty⟩ := q
      simp only at c0 c1 e0 e1 cQ
      clear hq
      have hba1 : ba < wr.heap.size := by have := hbw.size; omega
      have hbb1 : bb < wr.heap.size := by have := hbw.size; omega
      have d0 := (hbw.cell (p := ⟨ba, oa + k * 2, none⟩) (by show ba < _; omega)).trans c0
      have f0 := (hbw.cell (p := ⟨bb, ob + k * 2, none⟩) (by show bb < _; omega)).trans e0
      have d1 := (hbw.cell (p := ⟨ba, oa + k * 2 + 1, none⟩) (by show ba < _; omega)).trans c1
      have f1 := (hbw.cell (p := ⟨bb, ob + k * 2 + 1, none⟩) (by show bb < _; omega)).trans e1
      clear c0 c1 e0 e1
      go_wp2_with fail
      go_region_held3 (fun w' => (w'.cell? ⟨ba, oa + k * 2, none⟩ = some (.string name) ∧ w'.cell? ⟨ba, oa + k * 2 + 1, none⟩ = some (.int .i64 ty)) ∧ (w'.cell? ⟨bb, ob + k * 2, none⟩ = some (.string name) ∧ w'.cell? ⟨bb, ob + k * 2 + 1, none⟩ = some (.int .i64 ty))) (first | exact ⟨⟨d0, d1⟩, ⟨f0, f1⟩⟩ | exact ⟨⟨(hb1.cell (p := ⟨ba, oa + k * 2, none⟩) hba1).trans d0, (hb1.cell (p := ⟨ba, oa + k * 2 + 1, none⟩) hba1).trans d1⟩, ⟨(hb1.cell (p := ⟨bb, ob + k * 2, none⟩) hbb1).trans f0, (hb1.cell (p := ⟨bb, ob + k * 2 + 1, none⟩) hbb1).trans f1⟩⟩) ((go_at_call 119; refine Calls.mono (cQ.out _ hbw.drew) ?_; rintro e w1 ⟨rfl, hb1⟩))
      all_goals
        go_wp2
        go_roundw
        case rel => exact ⟨k + 1, by omega, by go_num, hbw.drew.trans (hb1.mono hbw.size)⟩
        case measure => simp [intOf]; omega
    · go_wp2
      go_ret
      exact ⟨rfl, hbw⟩

set_option maxRecDepth 100000 in
set_option maxHeartbeats 1600000 in
theorem szParam_sum (B : Nat) (q : Pm)  (left : Int) (w : World) (_hB : B ≤ w.heap.size)  (hok : okPm q) (h0 : 0 ≤ left) (h1 : left ≤ 1048576) :
    Calls Tryz.prog 105 #[.agg #[.string q.name, .int .i64 q.ty], .int .i64 left] w fun e w' => (∃ r : Int, e = .returned (.int .i64 r) ∧ (r = -1 ∨ (0 ≤ r ∧ r + (szPm q : Int) = left))) ∧ Below w.heap.size w w' := by
  have hs_name : q.name.size ≤ 9223372036854775807 := okPm_name hok
  have HZ : Hid ((szPm q : Int) = (q.name.size : Int)) := by
    show (_ : Int) = _
    unfold szPm
    push_cast
    rfl
  obtain ⟨name, ty⟩ := q
  simp only at *
  rw [HZ.out]
  clear HZ hok
  go_enter Tryz.func105, Tryz.ntmps105
  by_cases h_name : left - (name.size : Int) < 0
  · go_wp2
    go_ret
    exact ⟨⟨_, rfl, .inl rfl⟩, by go_grown⟩
  go_wp2
  go_ret
  exact ⟨⟨_, rfl, .inr ⟨by omega, by omega⟩⟩, by go_grown⟩

set_option maxRecDepth 100000 in
set_option maxHeartbeats 1600000 in
theorem szParamS_sum (B : Nat) (v : Value) (xs : List Pm) (left : Int) (w : World) (hB : B ≤ w.heap.size) (hv : PmR.Row w B v xs) (hok : okRow okPm xs) (h0 : 0 ≤ left) (h1 : left ≤ 1048576) :
    Calls Tryz.prog 73 #[v, .int .i64 left] w fun e w' => (∃ r : Int, e = .returned (.int .i64 r) ∧ (r = -1 ∨ (0 ≤ r ∧ r + (szRow szPm xs : Int) = left))) ∧ Below w.heap.size w w' := by
  obtain ⟨a, cap, rfl⟩ := hv.len
  obtain ⟨N, HN⟩ : ∃ N, Hid (xs.length = N) := ⟨_, (rfl : xs.length = xs.length)⟩
  have H : Hid (PmR.Row w B (.slice a N cap) xs) := by rw [← HN.out]; exact hv
  have HS : Hid (okRow okPm xs) := hok
  have hlen : N ≤ 9223372036854775807 := by rw [← HN.out]; exact hok.1
  rw [HN.out]
  clear hv hok
  by_cases hneg : left - (N : Int) < 0
  · go_enter Tryz.func73, Tryz.ntmps73
    go_wp2
    go_ret
    exact ⟨⟨_, rfl, .inl rfl⟩, Below.refl _ _⟩
  go_enter Tryz.func73, Tryz.ntmps73
  go_wp2
  go_loopw [1, 5] (fun l i wr => ∃ (k : Nat) (r : Int), k ≤ N ∧ i = .int .i64 (k : Int) ∧ l = .int .i64 r ∧ 0 ≤ r ∧ r ≤ 1048576 ∧ Hid (r + (N : Int) + (szTo szPm xs k : Int) = left) ∧ Below w.heap.size w wr) (fun _ i _ => N - (intOf i).toNat)
  case atStart => exact ⟨0, left - (N : Int), Nat.zero_le _, rfl, rfl, by omega, by omega, by show (_ : Int) = _; rw [szTo_zero]; omega, Below.refl _ _⟩
  case round =>
    obtain ⟨k, r, hk, rfl, rfl, hr0, hr1, HR, hbw⟩ := hrel
    by_cases hlt : k < N
    · have hk1 : (k : Int) < (N : Int) := by omega
      have hk0 : (0 : Int) ≤ (k : Int) := by omega
      have hkl : k < xs.length := by have := HN.out; omega
      obtain ⟨b, off, rfl, hb, c0, c1⟩ := PmR.at H.out k hkl
      have hq := HS.out.2 xs[k] (List.getElem_mem hkl)
      have HQ : Hid (szTo szPm xs (k + 1) = szTo szPm xs k + szPm xs[k]) := szTo_succ szPm xs k hkl
      obtain ⟨q, hqe⟩ : ∃ q, Hid (xs[k] = q) := ⟨_, (rfl : xs[k] = xs[k])⟩
      rw [hqe.out] at c0 c1 hq HQ
      have d0 := (hbw.cell (p := ⟨b, off + k * 2, none⟩) (by show b < _; omega)).trans c0
      have d1 := (hbw.cell (p := ⟨b, off + k * 2 + 1, none⟩) (by show b < _; omega)).trans c1
      have cQ : Hid (∀ W, Below w.heap.size w W → Calls Tryz.prog 105 #[.agg #[.string q.name, .int .i64 q.ty], .int .i64 r] W fun e w' => (∃ r' : Int, e = .returned (.int .i64 r') ∧ (r' = -1 ∨ (0 ≤ r' ∧ r' + (szPm q : Int) = r))) ∧ Below W.heap.size W w') := fun W hW => szParam_sum B q r W (Nat.le_trans hB hW.size) hq hr0 hr1
      clear c0 c1 hq
      go_wp2_with fail
      go_at_call 105
      refine Calls.mono (cQ.out _ hbw) ?_
      rintro e w1 ⟨⟨r', rfl, hr'⟩, hb1⟩
      clear cQ
      rcases hr' with rfl | ⟨hr0', hr2⟩
      · go_wp2
        go_ret
        exact ⟨⟨_, rfl, .inl rfl⟩, hbw.trans (hb1.mono hbw.size)⟩
      · have HR1 : Hid (r' + (N : Int) + (szTo szPm xs (k + 1) : Int) = left) := by
          show (_ : Int) = _
          rw [HQ.out]
          have := HR.out
          push_cast
          omega
        have hr3 : r' ≤ 1048576 := by omega
        have hrn : ¬ r' < 0 := by omega
        clear hr2
        go_wp2
        go_roundw
        case rel => exact ⟨k + 1, r', by omega, by go_num, rfl, hr0', hr3, HR1, hbw.trans (hb1.mono hbw.size)⟩
        case measure => simp [intOf]; omega
    · have hkN : Hid (k = N) := (by omega : k = N)
      have HF : Hid (r + (szRow szPm xs : Int) = left) := by
        show (_ : Int) = _
        have := HR.out
        rw [hkN.out, ← HN.out, szTo_all] at this
        unfold szRow
        push_cast
        omega
      go_wp2
      go_ret
      exact ⟨⟨_, rfl, .inr ⟨hr0, HF.out⟩⟩, hbw⟩

theorem toParam_any (q : Pm) (w : World) :
    Calls Tryz.prog 112 #[.agg #[.string q.name, .int .i64 q.ty]] w fun e w' => e = .returned (.agg #[.string q.name, .int .i64 q.ty]) ∧ Below w.heap.size w w' := by
  obtain ⟨name, ty⟩ := q
  simp only
  go_enter Tryz.func112, Tryz.ntmps112
  go_wp2
  go_returns
  exact ⟨rfl, by go_grown⟩

theorem PmR_phys {w : World} {B H : Nat} {v : Value} {xs : List Pm} (h : PmR.Own w B H v xs) : PmR.Phys w B v xs := by
  obtain ⟨ps, hl, hp, _⟩ := h
  obtain rfl : ps = xs := by rw [← hl]; exact (List.map_id ps).symm
  exact hp

theorem Tryz.infoPm : (Tryz.prog.info? 56).map (fun i => (i.zero, i.size, i.bytes)) = some (some (.agg #[.string ByteArray.empty, .int .i64 0]), 2, 24) := by kernel_rfl
def pmZ : Pm := ⟨ByteArray.empty, 0⟩

set_option maxRecDepth 100000 in
set_option maxHeartbeats 1600000 in
theorem toParamS_any (B : Nat) (v : Value) (xs : List Pm) (w : World) (hB : B ≤ w.heap.size) (hv : PmR.Row w B v xs) (hl : szRow szPm xs ≤ 1048576) :
    Calls Tryz.prog 80 #[v] w fun e w' => ∃ g cap, e = .returned (.slice (some ⟨g, 0, none⟩) xs.length cap) ∧ PmR.Own w' w.heap.size w'.heap.size (.slice (some ⟨g, 0, none⟩) xs.length cap) xs ∧ Below w.heap.size w w' := by
  obtain ⟨a, cap, rfl⟩ := hv.len
  obtain ⟨N, HN⟩ : ∃ N, Hid (xs.length = N) := ⟨_, (rfl : xs.length = xs.length)⟩
  have H : Hid (PmR.Row w B (.slice a N cap) xs) := by rw [← HN.out]; exact hv
  have HS : Hid (szRow szPm xs ≤ 1048576) := hl
  have hN : N ≤ 1048576 := by have := len_szRow szPm xs; have := HN.out; omega
  rw [HN.out]
  clear hv hl
  obtain ⟨i0, hi, hz0, hz1, hz2⟩ := info_parts Tryz.infoPm
  go_enter Tryz.func80, Tryz.ntmps80
  go_wp2_with (at_make; refine wpList_make_full _ rfl _ _ 52 rfl w.heap.size 56 i0 _ 2 Tryz.underlying52 hi hz0 hz1 _ _ _ _ N rfl rfl (by omega) (by omega) (by rw [hz2]; omega) (by unfold maxLen; omega) (Nat.le_refl _) ?_; intro w0 hown0 hg0)
  clear hi hz0 hz1 hz2
  go_loopw [4] (fun i wr => ∃ k : Nat, k ≤ N ∧ i = .int .i64 (k : Int) ∧ Hid (Made PmR w wr N pmZ xs k) ∧ Below w.heap.size w wr) (fun i _ => N - (intOf i).toNat)
  case atStart =>
    refine ⟨0, Nat.zero_le _, rfl, ?_, (Below.refl _ _).grown hg0 (Nat.le_refl _) (fun k hk => by cases hk)⟩
    show Made _ _ _ _ _ _ _
    refine Made.start xs ?_
    unfold OwnsR
    have hzc := zero_cells (enc := PmR.enc) (k := PmR.k) pmZ (.agg #[.string ByteArray.empty, .int .i64 0]) PmR.len (by decide) (by simp [Value.cells, PmR, pmC, pmZ]) N
    rw [List.length_replicate, ← hzc]
    exact hown0
  case round =>
    obtain ⟨k, hk, rfl, HM, hbw⟩ := hrel
    clear hown0 hg0
    by_cases hlt : k < N
    · have hk1 : (k : Int) < (N : Int) := by omega
      have hk0 : (0 : Int) ≤ (k : Int) := by omega
      have hkl : k < xs.length := by have := HN.out; omega
      obtain ⟨ba, oa, rfl, hba, c0, c1⟩ := PmR.at H.out k hkl
      have hq : szPm xs[k] ≤ 1048576 := Nat.le_trans (mem_szRow szPm (List.getElem_mem hkl)) HS.out
      obtain ⟨q, hqe⟩ : ∃ q, Hid (xs[k] = q) := ⟨_, (rfl : xs[k] = xs[k])⟩
      rw [hqe.out] at c0 c1 hq
      have d0 := (hbw.cell (p := ⟨ba, oa + k * 2, none⟩) (by show ba < _; omega)).trans c0
      have d1 := (hbw.cell (p := ⟨ba, oa + k * 2 + 1, none⟩) (by show ba < _; omega)).trans c1
      have cT : Hid (∀ W, Below w.heap.size w W → Calls Tryz.prog 112 #[.agg #[.string q.name, .int .i64 q.ty]] W fun e w' => e = .returned (.agg #[.string q.name, .int .i64 q.ty]) ∧ Below W.heap.size W w') := fun W _ => toParam_any q W
      clear c0 c1 hq
      go_wp2_with fail
      go_at_call 112
      refine Calls.mono (cT.out _ hbw) ?_
      rintro e w1 ⟨rfl, hb1⟩
      have S : Hid (Made PmR w (putCells w1 w.heap.size (k * 2) (pmC q)) N pmZ xs (k + 1)) := Made.step HM.out HN.out hlt hb1 q hqe.out.symm trivial (by simp [PmR, fps])
      obtain ⟨hc, hf⟩ := Made.cells HM.out HN.out hlt hb1
      have z0 : w1.cell? ⟨w.heap.size, k * 2, none⟩ = some (.string ByteArray.empty) := hc 0 (by decide)
      have f0 : w1.frozen? ⟨w.heap.size, k * 2, none⟩ = false := hf _
      have z1 : w1.cell? ⟨w.heap.size, k * 2 + 1, none⟩ = some (.int .i64 0) := hc 1 (by decide)
      have f1 : w1.frozen? ⟨w.heap.size, k * 2 + 1, none⟩ = false := hf _
      have HB1 : Hid (Below w.heap.size w w1) := hbw.trans (hb1.mono hbw.size)
      clear hc hf hb1 HM cT d0 d1
      go_wp2
      go_roundw
      case rel => exact ⟨k + 1, by omega, by go_num, S, putCells_below (Nat.le_refl _) (pmC q) _ _ _ HB1.out⟩
      case measure => simp [intOf]; omega
    · have hkN : Hid (k = N) := (by omega : k = N)
      have HF : Hid (PmR.Own wr w.heap.size wr.heap.size (.slice (some ⟨w.heap.size, 0, none⟩) N N) xs) := by
        have := HM.out
        rw [hkN.out] at this
        exact this.done HN.out
      go_wp2
      go_ret
      exact ⟨_, _, rfl, HF.out, hbw⟩

theorem Tryz.structPm : ∃ f0 f1 : Field, Tryz.prog.underlying 133 = some (.struct #[f0, f1]) ∧ f0.offset = 0 ∧ f1.offset = 1 ∧ f0.type = 9 ∧ f1.type = 3 := ⟨_, _, Tryz.underlying133, rfl, rfl, rfl, rfl⟩
theorem Tryz.cellsPm : Tryz.prog.cellsOf 133 = 2 := by kernel_rfl
theorem Tryz.cellsPms : Tryz.prog.cellsOf 77 = 1 := by kernel_rfl
theorem len_pm {γ : Type} {xs : List γ} (h : xs.length = 2) : ∃ x0 x1, xs = [x0, x1] := by
  match xs, h with
  | [x0, x1], _ => exact ⟨_, _, rfl⟩

/-- One Param out of its cells. -/
theorem open_pm1 {H : Type} {enc : TypeId × Value → H} {W : World} {fuel : Nat} {cs : List Value} {x : DataW H × List MemPlace}
    (h : DataW.trod enc Tryz.prog W 0 (fun _ => true) true fuel 133 cs = some x) :
    ∃ q : Pm, cs = pmC q ∧ PmR.rsub W W.heap.size q ∧ okPm (PmR.log q) := by
  obtain ⟨f0, f1, hst, o0, o1, t0, t1⟩ := Tryz.structPm
  obtain ⟨xs, k, _, _, hlen, hxl, hf⟩ := DataW.trod_struct hst h
  rw [Tryz.cellsPm] at hlen
  have hxl' : xs.length = 2 := hxl
  obtain ⟨y0, y1, rfl⟩ := len_pm hxl'
  obtain ⟨v0, v1, rfl⟩ := len_pm hlen
  have g0 := hf 0 f0 rfl
  rw [o0, t0, Tryz.cellsStr] at g0
  have g1 := hf 1 f1 rfl
  rw [o1, t1, Tryz.cellsInt] at g1
  simp at g0 g1
  obtain ⟨z0, e0, _, w0⟩ := DataW.trod_string Tryz.underlying9 g0
  simp at e0
  subst e0
  have w0' : z0.size ≤ 9223372036854775807 := Nat.le_trans w0 (by unfold maxLen; omega)
  obtain ⟨z1, e1, _, w1⟩ := DataW.trod_int Tryz.underlying3 g1
  simp at e1
  subst e1
  exact ⟨⟨z0, z1⟩, rfl, trivial, w0'⟩

theorem open_pms {H : Type} {enc : TypeId × Value → H} {W : World} {fuel : Nat} {v : Value} {x : DataW H × List MemPlace}
    (h : DataW.trod enc Tryz.prog W 0 (fun _ => true) true fuel 77 [v] = some x) :
    ∃ xs : List Pm, PmR.Row W W.heap.size v xs ∧ okRow okPm xs := by
  rcases Deep.open_slice Tryz.underlying77 h with ⟨h0, _⟩ | ⟨ad, len, cap, m, n, D, Pl, hcs, hb, hl, hm, hmm, _, hx⟩
  · simp at h0
    subst h0
    exact ⟨[], PmR.row_nil _ _ _ _, by simp [okRow]⟩
  · simp at hcs
    subst hcs
    simp at hmm
    subst hmm
    have each : ∀ i, i < len → ∃ q : Pm, (∀ j, j < 2 → W.cell? (ad.add (i * 2 + j)) = (pmC q)[j]?) ∧ PmR.rsub W W.heap.size q ∧ okPm (PmR.log q) := by
      intro i hi
      obtain ⟨cs', h1, h2⟩ := hx i (by omega)
      rw [Tryz.cellsPm] at h1
      obtain ⟨_, hlen, hcell⟩ := World.cells?_some h1
      obtain ⟨q, rfl, hs, hk⟩ := open_pm1 h2
      refine ⟨q, fun j hj => ?_, hs, hk⟩
      have c := hcell j hj
      rw [Deep.add_add] at c
      exact c
    obtain ⟨f, hf⟩ := @Deep.choose_lt (Pm) ⟨pmZ⟩ _ _ each
    refine ⟨((List.range len).map f).map PmR.log, ⟨_, rfl, rowR_of f hl (by decide) PmR.len (fun i hi j hj => (hf i hi).1 j hj), ?_⟩, ?_, ?_⟩
    · intro p hp
      obtain ⟨i, hi, rfl⟩ := List.mem_map.mp hp
      exact (hf i (by simpa using hi)).2.1
    · simp
      unfold maxLen at hm
      omega
    · intro x hx
      obtain ⟨p, hp, rfl⟩ := List.mem_map.mp hx
      obtain ⟨i, hi, rfl⟩ := List.mem_map.mp hp
      exact (hf i (by simpa using hi)).2.2

end Go.Proofs.YtljphnjmeckpbaaGreat
