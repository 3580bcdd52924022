/-
  What the laws' helpers answer of rows of Param: held against each other, measured, copied, marked. Written by mkrow.py.
  What the laws' helpers answer of rows of Fn: held against each other, measured, copied, marked. Written by mkrow.py.
  What the laws' helpers answer of programs: held against each other, measured, copied.
  A program that came in, opened.
  Rows of Param marked, as the laws do it. Written by mkmark.py.
  Rows of Node marked, as the laws do it. Written by mkmark.py.
  Rows of Fn marked, as the laws do it. Written by mkmark.py.
  Programs marked, as the laws do it: only blocks of the program turn.
  Rows of Node that were marked, looked at again, as the laws do it. Written by mkheld.py.
  Rows of nodes held against each other, each node of bounded size.
  Chapter 4, plainly: how much a copy of nodes holds. No program, no world.
-/
import Derived.Test.YtehdaliebloglaaOpen0
import Derived.Test.YtehdaliebloglaaPlain14
import Derived.Test.YtehdaliebloglaaRows3
import Derived.Handy
import Derived.BigQuiet
import Derived.Deep.QuietTactic
import Derived.Deep.RegionHeld3
import Derived.Test.YtehdaliebloglaaRowNode
import Derived.Test.YtehdaliebloglaaMarkInt
import Derived.Test.YtehdaliebloglaaBox
import Derived.Test.YtehdaliebloglaaPlain20
namespace Go.Proofs.Ytehdaliebloglaa
open Go.RowKit

def pmC (p : Pm) : List Value := [.string p.name, .int .i64 p.ty]
/-- Rows of Param. -/
def PmR : RowTy (Pm) Pm where
  enc := pmC
  k := 2
  T := 71
  sub := fun w B p => True
  rsub := fun w B p => True
  vals := fun p => []
  log := id
  len := fun _ => rfl
  sub_same := fun _ _ => trivial
  sub_base := fun _ _ => trivial
  sub_lt := fun _ g hg => by simp [fps] at hg
  sub_read := fun _ _ => trivial
  rsub_keep := fun _ _ => trivial
  rsub_up := fun _ _ => trivial
theorem PmR.at {w : World} {B : Nat} {a : Option Addr} {n cap : Nat} {xs : List Pm} (h : PmR.Row w B (.slice a n cap) xs) (i : Nat) (hi : i < xs.length) :
    ∃ b off, a = some ⟨b, off, none⟩ ∧ b < B ∧ w.cell? ⟨b, off + i * 2, none⟩ = some (.string xs[i].name) ∧ w.cell? ⟨b, off + i * 2 + 1, none⟩ = some (.int .i64 xs[i].ty) := by
  obtain ⟨b, off, p, ha, hb, hp, hk, hc⟩ := RowTy.Row.at h i hi
  obtain rfl : p = xs[i] := hp
  exact ⟨b, off, ha, hb, hc 0 (by decide), hc 1 (by decide)⟩

set_option maxRecDepth 100000 in
set_option maxHeartbeats 1600000 in
theorem eqParam_same (B : Nat) (q : Pm)  (w : World) (_hB : B ≤ w.heap.size)  (_hl : szPm q ≤ 1048576) :
    Calls Try.prog 71 #[.agg #[.string q.name, .int .i64 q.ty], .agg #[.string q.name, .int .i64 q.ty]] w fun e w' => e = .returned (.bool true) ∧ Below w.heap.size w w' := by
  obtain ⟨name, ty⟩ := q
  simp only
  go_enter Try.func71, Try.ntmps71
  go_wp2
  go_ret
  exact ⟨rfl, by go_grown⟩

set_option maxRecDepth 100000 in
set_option maxHeartbeats 1600000 in
theorem eqParamS_same (B : Nat) (va vb : Value) (xs : List Pm) (w : World) (hB : B ≤ w.heap.size) (ha : PmR.Row w B va xs) (hb : PmR.Row w B vb xs) (hl : szRow szPm xs ≤ 1048576) :
    Calls Try.prog 62 #[va, vb] w fun e w' => e = .returned (.bool true) ∧ Below w.heap.size w w' := by
  obtain ⟨a, ca, rfl⟩ := ha.len
  obtain ⟨b, cb, rfl⟩ := hb.len
  obtain ⟨N, HN⟩ : ∃ N, Hid (xs.length = N) := ⟨_, (rfl : xs.length = xs.length)⟩
  have H : Hid (PmR.Row w B (.slice a N ca) xs ∧ PmR.Row w B (.slice b N cb) xs) := by rw [← HN.out]; exact ⟨ha, hb⟩
  have HS : Hid (szRow szPm xs ≤ 1048576) := hl
  have hN : N ≤ 1048576 := by have := len_szRow szPm xs; have := HN.out; omega
  rw [HN.out]
  clear ha hb hl
  go_enter Try.func62, Try.ntmps62
  go_wp2
  go_loopw [5] (fun i wr => ∃ k : Nat, k ≤ N ∧ i = .int .i64 (k : Int) ∧ Below w.heap.size w wr) (fun i _ => N - (intOf i).toNat)
  case atStart => exact ⟨0, Nat.zero_le _, rfl, Below.refl _ _⟩
  case round =>
    obtain ⟨k, hk, rfl, hbw⟩ := hrel
    by_cases hlt : k < N
    · have hk1 : (k : Int) < (N : Int) := by omega
      have hk0 : (0 : Int) ≤ (k : Int) := by omega
      have hkl : k < xs.length := by have := HN.out; omega
      obtain ⟨ba, oa, rfl, hba, c0, c1⟩ := PmR.at H.out.1 k hkl
      obtain ⟨bb, ob, rfl, hbb, e0, e1⟩ := PmR.at H.out.2 k hkl
      have hq : szPm xs[k] ≤ 1048576 := Nat.le_trans (mem_szRow szPm (List.getElem_mem hkl)) HS.out
      obtain ⟨q, hqe⟩ : ∃ q, Hid (xs[k] = q) := ⟨_, (rfl : xs[k] = xs[k])⟩
      rw [hqe.out] at c0 c1 e0 e1 hq
      have cQ : Hid (∀ W, Below w.heap.size w W → Calls Try.prog 71 #[.agg #[.string q.name, .int .i64 q.ty], .agg #[.string q.name, .int .i64 q.ty]] W fun e w' => e = .returned (.bool true) ∧ Below W.heap.size W w') := fun W hW =>
        eqParam_same B q W (Nat.le_trans hB hW.size) hq
      obtain ⟨name, ty⟩ := q
      simp only at c0 c1 e0 e1 cQ
      clear hq
      have hba1 : ba < wr.heap.size := by have := hbw.size; omega
      have hbb1 : bb < wr.heap.size := by have := hbw.size; omega
      have d0 := (hbw.cell (p := ⟨ba, oa + k * 2, none⟩) (by show ba < _; omega)).trans c0
      have f0 := (hbw.cell (p := ⟨bb, ob + k * 2, none⟩) (by show bb < _; omega)).trans e0
      have d1 := (hbw.cell (p := ⟨ba, oa + k * 2 + 1, none⟩) (by show ba < _; omega)).trans c1
      have f1 := (hbw.cell (p := ⟨bb, ob + k * 2 + 1, none⟩) (by show bb < _; omega)).trans e1
      clear c0 c1 e0 e1
      go_wp2_with fail
      go_region_held3 (fun w' => (w'.cell? ⟨ba, oa + k * 2, none⟩ = some (.string name) ∧ w'.cell? ⟨ba, oa + k * 2 + 1, none⟩ = some (.int .i64 ty)) ∧ (w'.cell? ⟨bb, ob + k * 2, none⟩ = some (.string name) ∧ w'.cell? ⟨bb, ob + k * 2 + 1, none⟩ = some (.int .i64 ty))) (first | exact ⟨⟨d0, d1⟩, ⟨f0, f1⟩⟩ | exact ⟨⟨(hb1.cell (p := ⟨ba, oa + k * 2, none⟩) hba1).trans d0, (hb1.cell (p := ⟨ba, oa + k * 2 + 1, none⟩) hba1).trans d1⟩, ⟨(hb1.cell (p := ⟨bb, ob + k * 2, none⟩) hbb1).trans f0, (hb1.cell (p := ⟨bb, ob + k * 2 + 1, none⟩) hbb1).trans f1⟩⟩) ((go_at_call 71; refine Calls.mono (cQ.out _ hbw.drew) ?_; rintro e w1 ⟨rfl, hb1⟩))
      all_goals
        go_wp2
        go_roundw
        case rel => exact ⟨k + 1, by omega, by go_num, hbw.drew.trans (hb1.mono hbw.size)⟩
        case measure => simp [intOf]; omega
    · go_wp2
      go_ret
      exact ⟨rfl, hbw⟩

set_option maxRecDepth 100000 in
set_option maxHeartbeats 1600000 in
theorem szParam_sum (B : Nat) (q : Pm)  (left : Int) (w : World) (_hB : B ≤ w.heap.size)  (hok : okPm q) (h0 : 0 ≤ left) (h1 : left ≤ 1048576) :
    Calls Try.prog 63 #[.agg #[.string q.name, .int .i64 q.ty], .int .i64 left] w fun e w' => (∃ r : Int, e = .returned (.int .i64 r) ∧ (r = -1 ∨ (0 ≤ r ∧ r + (szPm q : Int) = left))) ∧ Below w.heap.size w w' := by
  have hs_name : q.name.size ≤ 9223372036854775807 := okPm_name hok
  have HZ : Hid ((szPm q : Int) = (q.name.size : Int)) := by
    show (_ : Int) = _
    unfold szPm
    push_cast
    rfl
  obtain ⟨name, ty⟩ := q
  simp only at *
  rw [HZ.out]
  clear HZ hok
  go_enter Try.func63, Try.ntmps63
  by_cases h_name : left - (name.size : Int) < 0
  · go_wp2
    go_ret
    exact ⟨⟨_, rfl, .inl rfl⟩, by go_grown⟩
  go_wp2
  go_ret
  exact ⟨⟨_, rfl, .inr ⟨by omega, by omega⟩⟩, by go_grown⟩

set_option maxRecDepth 100000 in
set_option maxHeartbeats 1600000 in
theorem szParamS_sum (B : Nat) (v : Value) (xs : List Pm) (left : Int) (w : World) (hB : B ≤ w.heap.size) (hv : PmR.Row w B v xs) (hok : okRow okPm xs) (h0 : 0 ≤ left) (h1 : left ≤ 1048576) :
    Calls Try.prog 55 #[v, .int .i64 left] w fun e w' => (∃ r : Int, e = .returned (.int .i64 r) ∧ (r = -1 ∨ (0 ≤ r ∧ r + (szRow szPm xs : Int) = left))) ∧ Below w.heap.size w w' := by
  obtain ⟨a, cap, rfl⟩ := hv.len
  obtain ⟨N, HN⟩ : ∃ N, Hid (xs.length = N) := ⟨_, (rfl : xs.length = xs.length)⟩
  have H : Hid (PmR.Row w B (.slice a N cap) xs) := by rw [← HN.out]; exact hv
  have HS : Hid (okRow okPm xs) := hok
  have hlen : N ≤ 9223372036854775807 := by rw [← HN.out]; exact hok.1
  rw [HN.out]
  clear hv hok
  by_cases hneg : left - (N : Int) < 0
  · go_enter Try.func55, Try.ntmps55
    go_wp2
    go_ret
    exact ⟨⟨_, rfl, .inl rfl⟩, Below.refl _ _⟩
  go_enter Try.func55, Try.ntmps55
  go_wp2
  go_loopw [1, 5] (fun l i wr => ∃ (k : Nat) (r : Int), k ≤ N ∧ i = .int .i64 (k : Int) ∧ l = .int .i64 r ∧ 0 ≤ r ∧ r ≤ 1048576 ∧ Hid (r + (N : Int) + (szTo szPm xs k : Int) = left) ∧ Below w.heap.size w wr) (fun _ i _ => N - (intOf i).toNat)
  case atStart => exact ⟨0, left - (N : Int), Nat.zero_le _, rfl, rfl, by omega, by omega, by show (_ : Int) = _; rw [szTo_zero]; omega, Below.refl _ _⟩
  case round =>
    obtain ⟨k, r, hk, rfl, rfl, hr0, hr1, HR, hbw⟩ := hrel
    by_cases hlt : k < N
    · have hk1 : (k : Int) < (N : Int) := by omega
      have hk0 : (0 : Int) ≤ (k : Int) := by omega
      have hkl : k < xs.length := by have := HN.out; omega
      obtain ⟨b, off, rfl, hb, c0, c1⟩ := PmR.at H.out k hkl
      have hq := HS.out.2 xs[k] (List.getElem_mem hkl)
      have HQ : Hid (szTo szPm xs (k + 1) = szTo szPm xs k + szPm xs[k]) := szTo_succ szPm xs k hkl
      obtain ⟨q, hqe⟩ : ∃ q, Hid (xs[k] = q) := ⟨_, (rfl : xs[k] = xs[k])⟩
      rw [hqe.out] at c0 c1 hq HQ
      have d0 := (hbw.cell (p := ⟨b, off + k * 2, none⟩) (by show b < _; omega)).trans c0
      have d1 := (hbw.cell (p := ⟨b, off + k * 2 + 1, none⟩) (by show b < _; omega)).trans c1
      have cQ : Hid (∀ W, Below w.heap.size w W → Calls Try.prog 63 #[.agg #[.string q.name, .int .i64 q.ty], .int .i64 r] W fun e w' => (∃ r' : Int, e = .returned (.int .i64 r') ∧ (r' = -1 ∨ (0 ≤ r' ∧ r' + (szPm q : Int) = r))) ∧ Below W.heap.size W w') := fun W hW => szParam_sum B q r W (Nat.le_trans hB hW.size) hq hr0 hr1
      clear c0 c1 hq
      go_wp2_with fail
      go_at_call 63
      refine Calls.mono (cQ.out _ hbw) ?_
      rintro e w1 ⟨⟨r', rfl, hr'⟩, hb1⟩
      clear cQ
      rcases hr' with rfl | ⟨hr0', hr2⟩
      · go_wp2
        go_ret
        exact ⟨⟨_, rfl, .inl rfl⟩, hbw.trans (hb1.mono hbw.size)⟩
      · have HR1 : Hid (r' + (N : Int) + (szTo szPm xs (k + 1) : Int) = left) := by
          show (_ : Int) = _
          rw [HQ.out]
          have := HR.out
          push_cast
          omega
        have hr3 : r' ≤ 1048576 := by omega
        have hrn : ¬ r' < 0 := by omega
        clear hr2
        go_wp2
        go_roundw
        case rel => exact ⟨k + 1, r', by omega, by go_num, rfl, hr0', hr3, HR1, hbw.trans (hb1.mono hbw.size)⟩
        case measure => simp [intOf]; omega
    · have hkN : Hid (k = N) := (by omega : k = N)
      have HF : Hid (r + (szRow szPm xs : Int) = left) := by
        show (_ : Int) = _
        have := HR.out
        rw [hkN.out, ← HN.out, szTo_all] at this
        unfold szRow
        push_cast
        omega
      go_wp2
      go_ret
      exact ⟨⟨_, rfl, .inr ⟨hr0, HF.out⟩⟩, hbw⟩

theorem toParam_any (q : Pm) (w : World) :
    Calls Try.prog 68 #[.agg #[.string q.name, .int .i64 q.ty]] w fun e w' => e = .returned (.agg #[.string q.name, .int .i64 q.ty]) ∧ Below w.heap.size w w' := by
  obtain ⟨name, ty⟩ := q
  simp only
  go_enter Try.func68, Try.ntmps68
  go_wp2
  go_returns
  exact ⟨rfl, by go_grown⟩

theorem PmR_phys {w : World} {B H : Nat} {v : Value} {xs : List Pm} (h : PmR.Own w B H v xs) : PmR.Phys w B v xs := by
  obtain ⟨ps, hl, hp, _⟩ := h
  obtain rfl : ps = xs := by rw [← hl]; exact (List.map_id ps).symm
  exact hp

theorem Try.infoPm : (Try.prog.info? 71).map (fun i => (i.zero, i.size, i.bytes)) = some (some (.agg #[.string ByteArray.empty, .int .i64 0]), 2, 24) := by kernel_rfl
def pmZ : Pm := ⟨ByteArray.empty, 0⟩

set_option maxRecDepth 100000 in
set_option maxHeartbeats 1600000 in
theorem toParamS_any (B : Nat) (v : Value) (xs : List Pm) (w : World) (hB : B ≤ w.heap.size) (hv : PmR.Row w B v xs) (hl : szRow szPm xs ≤ 1048576) :
    Calls Try.prog 57 #[v] w fun e w' => ∃ g cap, e = .returned (.slice (some ⟨g, 0, none⟩) xs.length cap) ∧ PmR.Own w' w.heap.size w'.heap.size (.slice (some ⟨g, 0, none⟩) xs.length cap) xs ∧ Below w.heap.size w w' := by
  obtain ⟨a, cap, rfl⟩ := hv.len
  obtain ⟨N, HN⟩ : ∃ N, Hid (xs.length = N) := ⟨_, (rfl : xs.length = xs.length)⟩
  have H : Hid (PmR.Row w B (.slice a N cap) xs) := by rw [← HN.out]; exact hv
  have HS : Hid (szRow szPm xs ≤ 1048576) := hl
  have hN : N ≤ 1048576 := by have := len_szRow szPm xs; have := HN.out; omega
  rw [HN.out]
  clear hv hl
  obtain ⟨i0, hi, hz0, hz1, hz2⟩ := info_parts Try.infoPm
  go_enter Try.func57, Try.ntmps57
  go_wp2_with (at_make; refine wpList_make_full _ rfl _ _ 67 rfl w.heap.size 71 i0 _ 2 Try.underlying67 hi hz0 hz1 _ _ _ _ N rfl rfl (by omega) (by omega) (by rw [hz2]; omega) (by unfold maxLen; omega) (Nat.le_refl _) ?_; intro w0 hown0 hg0)
  clear hi hz0 hz1 hz2
  go_loopw [4] (fun i wr => ∃ k : Nat, k ≤ N ∧ i = .int .i64 (k : Int) ∧ Hid (Made PmR w wr N pmZ xs k) ∧ Below w.heap.size w wr) (fun i _ => N - (intOf i).toNat)
  case atStart =>
    refine ⟨0, Nat.zero_le _, rfl, ?_, (Below.refl _ _).grown hg0 (Nat.le_refl _) (fun k hk => by cases hk)⟩
    show Made _ _ _ _ _ _ _
    refine Made.start xs ?_
    unfold OwnsR
    have hzc := zero_cells (enc := PmR.enc) (k := PmR.k) pmZ (.agg #[.string ByteArray.empty, .int .i64 0]) PmR.len (by decide) (by simp [Value.cells, PmR, pmC, pmZ]) N
    rw [List.length_replicate, ← hzc]
    exact hown0
  case round =>
    obtain ⟨k, hk, rfl, HM, hbw⟩ := hrel
    clear hown0 hg0
    by_cases hlt : k < N
    · have hk1 : (k : Int) < (N : Int) := by omega
      have hk0 : (0 : Int) ≤ (k : Int) := by omega
      have hkl : k < xs.length := by have := HN.out; omega
      obtain ⟨ba, oa, rfl, hba, c0, c1⟩ := PmR.at H.out k hkl
      have hq : szPm xs[k] ≤ 1048576 := Nat.le_trans (mem_szRow szPm (List.getElem_mem hkl)) HS.out
      obtain ⟨q, hqe⟩ : ∃ q, Hid (xs[k] = q) := ⟨_, (rfl : xs[k] = xs[k])⟩
      rw [hqe.out] at c0 c1 hq
      have d0 := (hbw.cell (p := ⟨ba, oa + k * 2, none⟩) (by show ba < _; omega)).trans c0
      have d1 := (hbw.cell (p := ⟨ba, oa + k * 2 + 1, none⟩) (by show ba < _; omega)).trans c1
      have cT : Hid (∀ W, Below w.heap.size w W → Calls Try.prog 68 #[.agg #[.string q.name, .int .i64 q.ty]] W fun e w' => e = .returned (.agg #[.string q.name, .int .i64 q.ty]) ∧ Below W.heap.size W w') := fun W _ => toParam_any q W
      clear c0 c1 hq
      go_wp2_with fail
      go_at_call 68
      refine Calls.mono (cT.out _ hbw) ?_
      rintro e w1 ⟨rfl, hb1⟩
      have S : Hid (Made PmR w (putCells w1 w.heap.size (k * 2) (pmC q)) N pmZ xs (k + 1)) := Made.step HM.out HN.out hlt hb1 q hqe.out.symm trivial (by simp [PmR, fps])
      obtain ⟨hc, hf⟩ := Made.cells HM.out HN.out hlt hb1
      have z0 : w1.cell? ⟨w.heap.size, k * 2, none⟩ = some (.string ByteArray.empty) := hc 0 (by decide)
      have f0 : w1.frozen? ⟨w.heap.size, k * 2, none⟩ = false := hf _
      have z1 : w1.cell? ⟨w.heap.size, k * 2 + 1, none⟩ = some (.int .i64 0) := hc 1 (by decide)
      have f1 : w1.frozen? ⟨w.heap.size, k * 2 + 1, none⟩ = false := hf _
      have HB1 : Hid (Below w.heap.size w w1) := hbw.trans (hb1.mono hbw.size)
      clear hc hf hb1 HM cT d0 d1
      go_wp2
      go_roundw
      case rel => exact ⟨k + 1, by omega, by go_num, S, putCells_below (Nat.le_refl _) (pmC q) _ _ _ HB1.out⟩
      case measure => simp [intOf]; omega
    · have hkN : Hid (k = N) := (by omega : k = N)
      have HF : Hid (PmR.Own wr w.heap.size wr.heap.size (.slice (some ⟨w.heap.size, 0, none⟩) N N) xs) := by
        have := HM.out
        rw [hkN.out] at this
        exact this.done HN.out
      go_wp2
      go_ret
      exact ⟨_, _, rfl, HF.out, hbw⟩

theorem Try.structPm : ∃ f0 f1 : Field, Try.prog.underlying 98 = some (.struct #[f0, f1]) ∧ f0.offset = 0 ∧ f1.offset = 1 ∧ f0.type = 9 ∧ f1.type = 3 := ⟨_, _, Try.underlying98, rfl, rfl, rfl, rfl⟩
theorem Try.cellsPm : Try.prog.cellsOf 98 = 2 := by kernel_rfl
theorem Try.cellsPms : Try.prog.cellsOf 74 = 1 := by kernel_rfl
theorem len_pm {γ : Type} {xs : List γ} (h : xs.length = 2) : ∃ x0 x1, xs = [x0, x1] := by
  match xs, h with
  | [x0, x1], _ => exact ⟨_, _, rfl⟩

/-- One Param out of its cells. -/
theorem open_pm1 {H : Type} {enc : TypeId × Value → H} {W : World} {fuel : Nat} {cs : List Value} {x : DataW H × List MemPlace}
    (h : DataW.trod enc Try.prog W 0 (fun _ => true) true fuel 98 cs = some x) :
    ∃ q : Pm, cs = pmC q ∧ PmR.rsub W W.heap.size q ∧ okPm (PmR.log q) := by
  obtain ⟨f0, f1, hst, o0, o1, t0, t1⟩ := Try.structPm
  obtain ⟨xs, k, _, _, hlen, hxl, hf⟩ := DataW.trod_struct hst h
  rw [Try.cellsPm] at hlen
  have hxl' : xs.length = 2 := hxl
  obtain ⟨y0, y1, rfl⟩ := len_pm hxl'
  obtain ⟨v0, v1, rfl⟩ := len_pm hlen
  have g0 := hf 0 f0 rfl
  rw [o0, t0, Try.cellsStr] at g0
  have g1 := hf 1 f1 rfl
  rw [o1, t1, Try.cellsInt] at g1
  simp at g0 g1
  obtain ⟨z0, e0, _, w0⟩ := DataW.trod_string Try.underlying9 g0
  simp at e0
  subst e0
  have w0' : z0.size ≤ 9223372036854775807 := Nat.le_trans w0 (by unfold maxLen; omega)
  obtain ⟨z1, e1, _, w1⟩ := DataW.trod_int Try.underlying3 g1
  simp at e1
  subst e1
  exact ⟨⟨z0, z1⟩, rfl, trivial, w0'⟩

theorem open_pms {H : Type} {enc : TypeId × Value → H} {W : World} {fuel : Nat} {v : Value} {x : DataW H × List MemPlace}
    (h : DataW.trod enc Try.prog W 0 (fun _ => true) true fuel 74 [v] = some x) :
    ∃ xs : List Pm, PmR.Row W W.heap.size v xs ∧ okRow okPm xs := by
  rcases Deep.open_slice Try.underlying74 h with ⟨h0, _⟩ | ⟨ad, len, cap, m, n, D, Pl, hcs, hb, hl, hm, hmm, _, hx⟩
  · simp at h0
    subst h0
    exact ⟨[], PmR.row_nil _ _ _ _, by simp [okRow]⟩
  · simp at hcs
    subst hcs
    simp at hmm
    subst hmm
    have each : ∀ i, i < len → ∃ q : Pm, (∀ j, j < 2 → W.cell? (ad.add (i * 2 + j)) = (pmC q)[j]?) ∧ PmR.rsub W W.heap.size q ∧ okPm (PmR.log q) := by
      intro i hi
      obtain ⟨cs', h1, h2⟩ := hx i (by omega)
      rw [Try.cellsPm] at h1
      obtain ⟨_, hlen, hcell⟩ := World.cells?_some h1
      obtain ⟨q, rfl, hs, hk⟩ := open_pm1 h2
      refine ⟨q, fun j hj => ?_, hs, hk⟩
      have c := hcell j hj
      rw [Deep.add_add] at c
      exact c
    obtain ⟨f, hf⟩ := @Deep.choose_lt (Pm) ⟨pmZ⟩ _ _ each
    refine ⟨((List.range len).map f).map PmR.log, ⟨_, rfl, rowR_of f hl (by decide) PmR.len (fun i hi j hj => (hf i hi).1 j hj), ?_⟩, ?_, ?_⟩
    · intro p hp
      obtain ⟨i, hi, rfl⟩ := List.mem_map.mp hp
      exact (hf i (by simpa using hi)).2.1
    · simp
      unfold maxLen at hm
      omega
    · intro x hx
      obtain ⟨p, hp, rfl⟩ := List.mem_map.mp hx
      obtain ⟨i, hi, rfl⟩ := List.mem_map.mp hp
      exact (hf i (by simpa using hi)).2.2

end Go.Proofs.Ytehdaliebloglaa

namespace Go.Proofs.Ytehdaliebloglaa
open Go.RowKit

def fcC (p : Fc × Value) : List Value := [.string p.1.name, p.2, .int .i64 p.1.res, .int .i64 p.1.body, .int .i64 p.1.ret]
theorem all_oneFc {v : Value} {ps : List Pm} {g : Nat} (h : g ∈ fps (PmR.all v ps)) : g ∈ fps [v] := by
  simpa [RowTy.all, PmR, flat_nil] using h
theorem one_allFc {v : Value} {ps : List Pm} {g : Nat} (h : g ∈ fps [v]) : g ∈ fps (PmR.all v ps) := by
  simpa [RowTy.all, PmR, flat_nil] using h
/-- Rows of Fn. -/
def FcR : RowTy (Fc × Value) Fc where
  enc := fcC
  k := 5
  T := 69
  sub := fun w B p => PmR.Phys w B p.2 p.1.params
  rsub := fun w B p => PmR.Row w B p.2 p.1.params
  vals := fun p => [p.2]
  log := Prod.fst
  len := fun _ => rfl
  sub_same := fun h hs => h.same (fun g hg => hs g (all_oneFc hg))
  sub_base := fun h hs => h.base (fun g hg => hs g (all_oneFc hg))
  sub_lt := fun h g hg => h.lt g (one_allFc hg)
  sub_read := fun h hs => by have := h.read (fun g hg => hs g (all_oneFc hg)); rwa [show ∀ ps : List Pm, ps.map PmR.log = ps from List.map_id] at this
  rsub_keep := fun h hb => h.keep hb
  rsub_up := fun h hB => h.up hB
theorem FcR.at {w : World} {B : Nat} {a : Option Addr} {n cap : Nat} {xs : List Fc} (h : FcR.Row w B (.slice a n cap) xs) (i : Nat) (hi : i < xs.length) :
    ∃ b off v0, a = some ⟨b, off, none⟩ ∧ b < B ∧ w.cell? ⟨b, off + i * 5, none⟩ = some (.string xs[i].name) ∧ w.cell? ⟨b, off + i * 5 + 1, none⟩ = some (v0) ∧ w.cell? ⟨b, off + i * 5 + 2, none⟩ = some (.int .i64 xs[i].res) ∧ w.cell? ⟨b, off + i * 5 + 3, none⟩ = some (.int .i64 xs[i].body) ∧ w.cell? ⟨b, off + i * 5 + 4, none⟩ = some (.int .i64 xs[i].ret) ∧ PmR.Row w B v0 xs[i].params := by
  obtain ⟨b, off, p, ha, hb, hp, hk, hc⟩ := RowTy.Row.at h i hi
  obtain ⟨q, v0⟩ := p
  obtain rfl : q = xs[i] := hp
  exact ⟨b, off, v0, ha, hb, hc 0 (by decide), hc 1 (by decide), hc 2 (by decide), hc 3 (by decide), hc 4 (by decide), hk⟩

set_option maxRecDepth 100000 in
set_option maxHeartbeats 1600000 in
theorem eqFn_same (B : Nat) (q : Fc) (a0 b0 : Value) (w : World) (hB : B ≤ w.heap.size) (ha0 : PmR.Row w B a0 q.params) (hb0 : PmR.Row w B b0 q.params) (hl : szFc q ≤ 1048576) :
    Calls Try.prog 52 #[.agg #[.string q.name, a0, .int .i64 q.res, .int .i64 q.body, .int .i64 q.ret], .agg #[.string q.name, b0, .int .i64 q.res, .int .i64 q.body, .int .i64 q.ret]] w fun e w' => e = .returned (.bool true) ∧ Below w.heap.size w w' := by
  have cE0 : Hid (∀ W, Below w.heap.size w W → Calls Try.prog 62 #[a0, b0] W fun e w' => e = .returned (.bool true) ∧ Below W.heap.size W w') := fun W hW =>
    eqParamS_same B _ _ q.params W (Nat.le_trans hB hW.size) (ha0.keep (hW.mono hB)) (hb0.keep (hW.mono hB)) (Nat.le_trans (le_szFc_params q) hl)
  obtain ⟨name, params, res, body, ret⟩ := q
  simp only
  clear hl ha0 hb0
  go_enter Try.func52, Try.ntmps52
  go_wp2_with fail
  go_at_call 62
  refine Calls.mono (cE0.out _ (by go_grown)) ?_
  rintro e w1 ⟨rfl, hb⟩
  have HB1 : Hid (Below w.heap.size w w1) := by
    have h0 : Below w.heap.size w ((w.alloc (.cells #[.string name, a0, .int .i64 res, .int .i64 body, .int .i64 ret] 69)).alloc (.cells #[.string name, b0, .int .i64 res, .int .i64 body, .int .i64 ret] 69)) := by go_grown
    exact h0.trans (hb.mono h0.size)
  have x1_2 : w1.cell? ⟨w.heap.size, 2, none⟩ = some (.int .i64 res) := (hb.cell (p := ⟨w.heap.size, 2, none⟩) (by show _ < _; first | (simp; done) | (simp; omega))).trans (by simp)
  have y1_2 : w1.cell? ⟨w.heap.size + 1, 2, none⟩ = some (.int .i64 res) := (hb.cell (p := ⟨w.heap.size + 1, 2, none⟩) (by show _ < _; first | (simp; done) | (simp; omega))).trans (by simp)
  have x1_3 : w1.cell? ⟨w.heap.size, 3, none⟩ = some (.int .i64 body) := (hb.cell (p := ⟨w.heap.size, 3, none⟩) (by show _ < _; first | (simp; done) | (simp; omega))).trans (by simp)
  have y1_3 : w1.cell? ⟨w.heap.size + 1, 3, none⟩ = some (.int .i64 body) := (hb.cell (p := ⟨w.heap.size + 1, 3, none⟩) (by show _ < _; first | (simp; done) | (simp; omega))).trans (by simp)
  have x1_4 : w1.cell? ⟨w.heap.size, 4, none⟩ = some (.int .i64 ret) := (hb.cell (p := ⟨w.heap.size, 4, none⟩) (by show _ < _; first | (simp; done) | (simp; omega))).trans (by simp)
  have y1_4 : w1.cell? ⟨w.heap.size + 1, 4, none⟩ = some (.int .i64 ret) := (hb.cell (p := ⟨w.heap.size + 1, 4, none⟩) (by show _ < _; first | (simp; done) | (simp; omega))).trans (by simp)
  have hs1 : ∀ x, x ≤ w.heap.size + 1 → x < w1.heap.size := fun x hx => by have := hb.size; simp at this; omega
  clear hb cE0
  have HS1 : Hid _ := hs1
  clear hs1
  go_wp2
  go_ret
  exact ⟨rfl, HB1.out⟩

set_option maxRecDepth 100000 in
set_option maxHeartbeats 1600000 in
theorem eqFnS_same (B : Nat) (va vb : Value) (xs : List Fc) (w : World) (hB : B ≤ w.heap.size) (ha : FcR.Row w B va xs) (hb : FcR.Row w B vb xs) (hl : szRow szFc xs ≤ 1048576) :
    Calls Try.prog 32 #[va, vb] w fun e w' => e = .returned (.bool true) ∧ Below w.heap.size w w' := by
  obtain ⟨a, ca, rfl⟩ := ha.len
  obtain ⟨b, cb, rfl⟩ := hb.len
  obtain ⟨N, HN⟩ : ∃ N, Hid (xs.length = N) := ⟨_, (rfl : xs.length = xs.length)⟩
  have H : Hid (FcR.Row w B (.slice a N ca) xs ∧ FcR.Row w B (.slice b N cb) xs) := by rw [← HN.out]; exact ⟨ha, hb⟩
  have HS : Hid (szRow szFc xs ≤ 1048576) := hl
  have hN : N ≤ 1048576 := by have := len_szRow szFc xs; have := HN.out; omega
  rw [HN.out]
  clear ha hb hl
  go_enter Try.func32, Try.ntmps32
  go_wp2
  go_loopw [5] (fun i wr => ∃ k : Nat, k ≤ N ∧ i = .int .i64 (k : Int) ∧ Below w.heap.size w wr) (fun i _ => N - (intOf i).toNat)
  case atStart => exact ⟨0, Nat.zero_le _, rfl, Below.refl _ _⟩
  case round =>
    obtain ⟨k, hk, rfl, hbw⟩ := hrel
    by_cases hlt : k < N
    · have hk1 : (k : Int) < (N : Int) := by omega
      have hk0 : (0 : Int) ≤ (k : Int) := by omega
      have hkl : k < xs.length := by have := HN.out; omega
      obtain ⟨ba, oa, a0, rfl, hba, c0, c1, c2, c3, c4, ra0⟩ := FcR.at H.out.1 k hkl
      obtain ⟨bb, ob, b0, rfl, hbb, e0, e1, e2, e3, e4, rb0⟩ := FcR.at H.out.2 k hkl
      have hq : szFc xs[k] ≤ 1048576 := Nat.le_trans (mem_szRow szFc (List.getElem_mem hkl)) HS.out
      obtain ⟨q, hqe⟩ : ∃ q, Hid (xs[k] = q) := ⟨_, (rfl : xs[k] = xs[k])⟩
      rw [hqe.out] at c0 c2 c3 c4 e0 e2 e3 e4 ra0 rb0 hq
      have cQ : Hid (∀ W, Below w.heap.size w W → Calls Try.prog 52 #[.agg #[.string q.name, a0, .int .i64 q.res, .int .i64 q.body, .int .i64 q.ret], .agg #[.string q.name, b0, .int .i64 q.res, .int .i64 q.body, .int .i64 q.ret]] W fun e w' => e = .returned (.bool true) ∧ Below W.heap.size W w') := fun W hW =>
        eqFn_same B q _ _ W (Nat.le_trans hB hW.size) (ra0.keep (hW.mono hB)) (rb0.keep (hW.mono hB)) hq
      obtain ⟨name, params, res, body, ret⟩ := q
      simp only at c0 c2 c3 c4 e0 e2 e3 e4 cQ
      clear hq ra0 rb0
      have hba1 : ba < wr.heap.size := by have := hbw.size; omega
      have hbb1 : bb < wr.heap.size := by have := hbw.size; omega
      have d0 := (hbw.cell (p := ⟨ba, oa + k * 5, none⟩) (by show ba < _; omega)).trans c0
      have f0 := (hbw.cell (p := ⟨bb, ob + k * 5, none⟩) (by show bb < _; omega)).trans e0
      have d1 := (hbw.cell (p := ⟨ba, oa + k * 5 + 1, none⟩) (by show ba < _; omega)).trans c1
      have f1 := (hbw.cell (p := ⟨bb, ob + k * 5 + 1, none⟩) (by show bb < _; omega)).trans e1
      have d2 := (hbw.cell (p := ⟨ba, oa + k * 5 + 2, none⟩) (by show ba < _; omega)).trans c2
      have f2 := (hbw.cell (p := ⟨bb, ob + k * 5 + 2, none⟩) (by show bb < _; omega)).trans e2
      have d3 := (hbw.cell (p := ⟨ba, oa + k * 5 + 3, none⟩) (by show ba < _; omega)).trans c3
      have f3 := (hbw.cell (p := ⟨bb, ob + k * 5 + 3, none⟩) (by show bb < _; omega)).trans e3
      have d4 := (hbw.cell (p := ⟨ba, oa + k * 5 + 4, none⟩) (by show ba < _; omega)).trans c4
      have f4 := (hbw.cell (p := ⟨bb, ob + k * 5 + 4, none⟩) (by show bb < _; omega)).trans e4
      clear c0 c1 c2 c3 c4 e0 e1 e2 e3 e4
      go_wp2_with fail
      go_region_held3 (fun w' => (w'.cell? ⟨ba, oa + k * 5, none⟩ = some (.string name) ∧ w'.cell? ⟨ba, oa + k * 5 + 1, none⟩ = some (a0) ∧ w'.cell? ⟨ba, oa + k * 5 + 2, none⟩ = some (.int .i64 res) ∧ w'.cell? ⟨ba, oa + k * 5 + 3, none⟩ = some (.int .i64 body) ∧ w'.cell? ⟨ba, oa + k * 5 + 4, none⟩ = some (.int .i64 ret)) ∧ (w'.cell? ⟨bb, ob + k * 5, none⟩ = some (.string name) ∧ w'.cell? ⟨bb, ob + k * 5 + 1, none⟩ = some (b0) ∧ w'.cell? ⟨bb, ob + k * 5 + 2, none⟩ = some (.int .i64 res) ∧ w'.cell? ⟨bb, ob + k * 5 + 3, none⟩ = some (.int .i64 body) ∧ w'.cell? ⟨bb, ob + k * 5 + 4, none⟩ = some (.int .i64 ret))) (first | exact ⟨⟨d0, d1, d2, d3, d4⟩, ⟨f0, f1, f2, f3, f4⟩⟩ | exact ⟨⟨(hb1.cell (p := ⟨ba, oa + k * 5, none⟩) hba1).trans d0, (hb1.cell (p := ⟨ba, oa + k * 5 + 1, none⟩) hba1).trans d1, (hb1.cell (p := ⟨ba, oa + k * 5 + 2, none⟩) hba1).trans d2, (hb1.cell (p := ⟨ba, oa + k * 5 + 3, none⟩) hba1).trans d3, (hb1.cell (p := ⟨ba, oa + k * 5 + 4, none⟩) hba1).trans d4⟩, ⟨(hb1.cell (p := ⟨bb, ob + k * 5, none⟩) hbb1).trans f0, (hb1.cell (p := ⟨bb, ob + k * 5 + 1, none⟩) hbb1).trans f1, (hb1.cell (p := ⟨bb, ob + k * 5 + 2, none⟩) hbb1).trans f2, (hb1.cell (p := ⟨bb, ob + k * 5 + 3, none⟩) hbb1).trans f3, (hb1.cell (p := ⟨bb, ob + k * 5 + 4, none⟩) hbb1).trans f4⟩⟩) ((go_at_call 52; refine Calls.mono (cQ.out _ hbw.drew) ?_; rintro e w1 ⟨rfl, hb1⟩))
      all_goals
        go_wp2
        go_roundw
        case rel => exact ⟨k + 1, by omega, by go_num, hbw.drew.trans (hb1.mono hbw.size)⟩
        case measure => simp [intOf]; omega
    · go_wp2
      go_ret
      exact ⟨rfl, hbw⟩

set_option maxRecDepth 100000 in
set_option maxHeartbeats 1600000 in
theorem szFn_sum (B : Nat) (q : Fc) (a0 : Value) (left : Int) (w : World) (hB : B ≤ w.heap.size) (ha0 : PmR.Row w B a0 q.params) (hok : okFc q) (h0 : 0 ≤ left) (h1 : left ≤ 1048576) :
    Calls Try.prog 41 #[.agg #[.string q.name, a0, .int .i64 q.res, .int .i64 q.body, .int .i64 q.ret], .int .i64 left] w fun e w' => (∃ r : Int, e = .returned (.int .i64 r) ∧ (r = -1 ∨ (0 ≤ r ∧ r + (szFc q : Int) = left))) ∧ Below w.heap.size w w' := by
  have cS0 : Hid (∀ W l, 0 ≤ l → l ≤ 1048576 → Below w.heap.size w W → Calls Try.prog 55 #[a0, .int .i64 l] W fun e w' => (∃ r : Int, e = .returned (.int .i64 r) ∧ (r = -1 ∨ (0 ≤ r ∧ r + (szRow szPm q.params : Int) = l))) ∧ Below W.heap.size W w') := fun W l hl0 hl1 hW =>
    szParamS_sum B _ q.params l W (Nat.le_trans hB hW.size) (ha0.keep (hW.mono hB)) (okFc_params hok) hl0 hl1
  have hs_name : q.name.size ≤ 9223372036854775807 := okFc_name hok
  have HZ : Hid ((szFc q : Int) = (q.name.size : Int) + (szRow szPm q.params : Int)) := by
    show (_ : Int) = _
    unfold szFc
    push_cast
    rfl
  obtain ⟨name, params, res, body, ret⟩ := q
  simp only at *
  obtain ⟨z0, hz0⟩ : ∃ z : Nat, Hid (szRow szPm params = z) := ⟨_, (rfl : szRow szPm params = szRow szPm params)⟩
  rw [hz0.out] at cS0 HZ
  rw [HZ.out]
  clear HZ hok ha0 hz0
  go_enter Try.func41, Try.ntmps41
  by_cases h_name : left - (name.size : Int) < 0
  · go_wp2
    go_ret
    exact ⟨⟨_, rfl, .inl rfl⟩, by go_grown⟩
  go_wp2_with fail
  go_at_call 55
  refine Calls.mono (cS0.out _ (left - (name.size : Int)) (by omega) (by omega) (by go_grown)) ?_
  rintro e w1 ⟨⟨r1, rfl, hr1⟩, hb⟩
  have HB1 : Hid (Below w.heap.size w w1) := by
    have h0 : Below w.heap.size w (w.alloc (.cells #[.string name, a0, .int .i64 res, .int .i64 body, .int .i64 ret] 76)) := by go_grown
    exact h0.trans (hb.mono h0.size)
  have hs1 : w.heap.size < w1.heap.size := by have := hb.size; simp at this; omega
  clear hb cS0
  rcases hr1 with rfl | ⟨hr1a, hr1b⟩
  · go_wp2
    go_ret
    exact ⟨⟨_, rfl, .inl rfl⟩, HB1.out⟩
  have hr1n : ¬ r1 < 0 := by omega
  go_wp2
  go_ret
  exact ⟨⟨_, rfl, .inr ⟨by omega, by omega⟩⟩, HB1.out⟩

set_option maxRecDepth 100000 in
set_option maxHeartbeats 1600000 in
theorem szFnS_sum (B : Nat) (v : Value) (xs : List Fc) (left : Int) (w : World) (hB : B ≤ w.heap.size) (hv : FcR.Row w B v xs) (hok : okRow okFc xs) (h0 : 0 ≤ left) (h1 : left ≤ 1048576) :
    Calls Try.prog 21 #[v, .int .i64 left] w fun e w' => (∃ r : Int, e = .returned (.int .i64 r) ∧ (r = -1 ∨ (0 ≤ r ∧ r + (szRow szFc xs : Int) = left))) ∧ Below w.heap.size w w' := by
  obtain ⟨a, cap, rfl⟩ := hv.len
  obtain ⟨N, HN⟩ : ∃ N, Hid (xs.length = N) := ⟨_, (rfl : xs.length = xs.length)⟩
  have H : Hid (FcR.Row w B (.slice a N cap) xs) := by rw [← HN.out]; exact hv
  have HS : Hid (okRow okFc xs) := hok
  have hlen : N ≤ 9223372036854775807 := by rw [← HN.out]; exact hok.1
  rw [HN.out]
  clear hv hok
  by_cases hneg : left - (N : Int) < 0
  · go_enter Try.func21, Try.ntmps21
    go_wp2
    go_ret
    exact ⟨⟨_, rfl, .inl rfl⟩, Below.refl _ _⟩
  go_enter Try.func21, Try.ntmps21
  go_wp2
  go_loopw [1, 5] (fun l i wr => ∃ (k : Nat) (r : Int), k ≤ N ∧ i = .int .i64 (k : Int) ∧ l = .int .i64 r ∧ 0 ≤ r ∧ r ≤ 1048576 ∧ Hid (r + (N : Int) + (szTo szFc xs k : Int) = left) ∧ Below w.heap.size w wr) (fun _ i _ => N - (intOf i).toNat)
  case atStart => exact ⟨0, left - (N : Int), Nat.zero_le _, rfl, rfl, by omega, by omega, by show (_ : Int) = _; rw [szTo_zero]; omega, Below.refl _ _⟩
  case round =>
    obtain ⟨k, r, hk, rfl, rfl, hr0, hr1, HR, hbw⟩ := hrel
    by_cases hlt : k < N
    · have hk1 : (k : Int) < (N : Int) := by omega
      have hk0 : (0 : Int) ≤ (k : Int) := by omega
      have hkl : k < xs.length := by have := HN.out; omega
      obtain ⟨b, off, a0, rfl, hb, c0, c1, c2, c3, c4, ra0⟩ := FcR.at H.out k hkl
      have hq := HS.out.2 xs[k] (List.getElem_mem hkl)
      have HQ : Hid (szTo szFc xs (k + 1) = szTo szFc xs k + szFc xs[k]) := szTo_succ szFc xs k hkl
      obtain ⟨q, hqe⟩ : ∃ q, Hid (xs[k] = q) := ⟨_, (rfl : xs[k] = xs[k])⟩
      rw [hqe.out] at c0 c2 c3 c4 ra0 hq HQ
      have d0 := (hbw.cell (p := ⟨b, off + k * 5, none⟩) (by show b < _; omega)).trans c0
      have d1 := (hbw.cell (p := ⟨b, off + k * 5 + 1, none⟩) (by show b < _; omega)).trans c1
      have d2 := (hbw.cell (p := ⟨b, off + k * 5 + 2, none⟩) (by show b < _; omega)).trans c2
      have d3 := (hbw.cell (p := ⟨b, off + k * 5 + 3, none⟩) (by show b < _; omega)).trans c3
      have d4 := (hbw.cell (p := ⟨b, off + k * 5 + 4, none⟩) (by show b < _; omega)).trans c4
      have cQ : Hid (∀ W, Below w.heap.size w W → Calls Try.prog 41 #[.agg #[.string q.name, a0, .int .i64 q.res, .int .i64 q.body, .int .i64 q.ret], .int .i64 r] W fun e w' => (∃ r' : Int, e = .returned (.int .i64 r') ∧ (r' = -1 ∨ (0 ≤ r' ∧ r' + (szFc q : Int) = r))) ∧ Below W.heap.size W w') := fun W hW => szFn_sum B q _ r W (Nat.le_trans hB hW.size) (ra0.keep (hW.mono hB)) hq hr0 hr1
      clear c0 c1 c2 c3 c4 hq ra0
      go_wp2_with fail
      go_at_call 41
      refine Calls.mono (cQ.out _ hbw) ?_
      rintro e w1 ⟨⟨r', rfl, hr'⟩, hb1⟩
      clear cQ
      rcases hr' with rfl | ⟨hr0', hr2⟩
      · go_wp2
        go_ret
        exact ⟨⟨_, rfl, .inl rfl⟩, hbw.trans (hb1.mono hbw.size)⟩
      · have HR1 : Hid (r' + (N : Int) + (szTo szFc xs (k + 1) : Int) = left) := by
          show (_ : Int) = _
          rw [HQ.out]
          have := HR.out
          push_cast
          omega
        have hr3 : r' ≤ 1048576 := by omega
        have hrn : ¬ r' < 0 := by omega
        clear hr2
        go_wp2
        go_roundw
        case rel => exact ⟨k + 1, r', by omega, by go_num, rfl, hr0', hr3, HR1, hbw.trans (hb1.mono hbw.size)⟩
        case measure => simp [intOf]; omega
    · have hkN : Hid (k = N) := (by omega : k = N)
      have HF : Hid (r + (szRow szFc xs : Int) = left) := by
        show (_ : Int) = _
        have := HR.out
        rw [hkN.out, ← HN.out, szTo_all] at this
        unfold szRow
        push_cast
        omega
      go_wp2
      go_ret
      exact ⟨⟨_, rfl, .inr ⟨hr0, HF.out⟩⟩, hbw⟩

set_option maxRecDepth 100000 in
set_option maxHeartbeats 1600000 in
theorem toFn_any (B : Nat) (q : Fc) (a0 : Value) (w : World) (hB : B ≤ w.heap.size) (ha0 : PmR.Row w B a0 q.params) (hl : szFc q ≤ 1048576) :
    Calls Try.prog 45 #[.agg #[.string q.name, a0, .int .i64 q.res, .int .i64 q.body, .int .i64 q.ret]] w fun e w' => ∃ g cap, e = .returned (.agg #[.string q.name, (.slice (some ⟨g, 0, none⟩) q.params.length cap), .int .i64 q.res, .int .i64 q.body, .int .i64 q.ret]) ∧ PmR.Phys w' w.heap.size (.slice (some ⟨g, 0, none⟩) q.params.length cap) q.params ∧ Below w.heap.size w w' := by
  have cT : Hid (∀ W, Below w.heap.size w W → Calls Try.prog 57 #[a0] W fun e w' => ∃ g cap, e = .returned (.slice (some ⟨g, 0, none⟩) q.params.length cap) ∧ PmR.Phys w' W.heap.size (.slice (some ⟨g, 0, none⟩) q.params.length cap) q.params ∧ Below W.heap.size W w') := fun W hW => by
    refine (toParamS_any B _ q.params W (Nat.le_trans hB hW.size) (ha0.keep (hW.mono hB)) (Nat.le_trans (le_szFc_params q) hl)).mono ?_
    rintro e w1 ⟨g, cap, rfl, ho, hb⟩
    exact ⟨g, cap, rfl, PmR_phys ho, hb⟩
  obtain ⟨name, params, res, body, ret⟩ := q
  simp only at cT ⊢
  obtain ⟨K, HK⟩ : ∃ K, Hid (params.length = K) := ⟨_, (rfl : params.length = params.length)⟩
  rw [HK.out] at cT ⊢
  clear ha0 hl
  go_enter Try.func45, Try.ntmps45
  go_wp2_with fail
  go_at_call 57
  refine Calls.mono (cT.out _ (by go_grown)) ?_
  rintro e w1 ⟨g, cap, rfl, ho, hb1⟩
  have hO := (hb1.block (w.heap.size + 2) (by first | (simp; done) | (simp; omega))).trans (third_new w _ _ _)
  have hR := (hb1.block (w.heap.size + 1) (by first | (simp; done) | (simp; omega))).trans (second_new w _ _ _)
  have hA := (hb1.block w.heap.size (by first | (simp; done) | (simp; omega))).trans (first_new w _ _ _)
  have o0 := cell_at hO 0
  have r0 := cell_at hR 0
  have f0 := free_at hR 0
  have o1 := cell_at hO 1
  have r1 := cell_at hR 1
  have f1 := free_at hR 1
  have o2 := cell_at hO 2
  have r2 := cell_at hR 2
  have f2 := free_at hR 2
  have o3 := cell_at hO 3
  have r3 := cell_at hR 3
  have f3 := free_at hR 3
  have o4 := cell_at hO 4
  have r4 := cell_at hR 4
  have f4 := free_at hR 4
  have p1 := free_at hO 1
  have p2 := free_at hO 2
  have p3 := free_at hO 3
  have p4 := free_at hO 4
  have a2' := cell_at hA 2
  have a3' := cell_at hA 3
  have a4' := cell_at hA 4
  have HE : Hid (∀ u1 u2 u3 u4 v0 v1 v2 v3 v4, (((((((((w1.setCell ⟨w.heap.size + 2, 1, none⟩ u1).setCell ⟨w.heap.size + 2, 2, none⟩ u2).setCell ⟨w.heap.size + 2, 3, none⟩ u3).setCell ⟨w.heap.size + 2, 4, none⟩ u4).setCell ⟨w.heap.size + 1, 0, none⟩ v0).setCell ⟨w.heap.size + 1, 1, none⟩ v1).setCell ⟨w.heap.size + 1, 2, none⟩ v2).setCell ⟨w.heap.size + 1, 3, none⟩ v3).setCell ⟨w.heap.size + 1, 4, none⟩ v4).heap[w.heap.size + 1]? = some (.cells #[v0, v1, v2, v3, v4] 69 (0, 0))) := fun u1 u2 u3 u4 v0 v1 v2 v3 v4 => by
    simp [World.setCell, Array.getElem?_modify, hR]
  have HN : Hid (∀ u1 u2 u3 u4 v0 v1 v2 v3 v4 x, x ≠ w.heap.size + 1 → x ≠ w.heap.size + 2 → (((((((((w1.setCell ⟨w.heap.size + 2, 1, none⟩ u1).setCell ⟨w.heap.size + 2, 2, none⟩ u2).setCell ⟨w.heap.size + 2, 3, none⟩ u3).setCell ⟨w.heap.size + 2, 4, none⟩ u4).setCell ⟨w.heap.size + 1, 0, none⟩ v0).setCell ⟨w.heap.size + 1, 1, none⟩ v1).setCell ⟨w.heap.size + 1, 2, none⟩ v2).setCell ⟨w.heap.size + 1, 3, none⟩ v3).setCell ⟨w.heap.size + 1, 4, none⟩ v4).heap[x]? = w1.heap[x]?) := fun u1 u2 u3 u4 v0 v1 v2 v3 v4 x h1 h2 => by
    simp only [kept_set h1, kept_set h2]
  simp at o0 r0 o1 r1 o2 r2 o3 r3 o4 r4 a2' a3' a4'
  have HO : Hid (PmR.Phys w1 w.heap.size (.slice (some ⟨g, 0, none⟩) K cap) params ∧ w.heap.size + 3 ≤ g) := by
    have h3 := ho.1.lt g (by simp [fpOf, Value.ownBlock])
    simp at h3
    refine ⟨ho.base (fun b hb => ?_), by omega⟩
    have : b = g := by simpa [RowTy.all, fps, fpOf, Value.ownBlock, flat_nil, PmR] using hb
    omega
  have HB : Hid (Below w.heap.size w w1) := by
    refine Below.trans ?_ (hb1.mono ?_)
    · go_grown
    · simp; omega
  clear hb1 hO hR hA ho cT
  go_wp2
  have e0 := fun u1 u2 u3 u4 v0 v1 v2 v3 v4 => cell_at (HE.out u1 u2 u3 u4 v0 v1 v2 v3 v4) 0
  have e1 := fun u1 u2 u3 u4 v0 v1 v2 v3 v4 => cell_at (HE.out u1 u2 u3 u4 v0 v1 v2 v3 v4) 1
  have e2 := fun u1 u2 u3 u4 v0 v1 v2 v3 v4 => cell_at (HE.out u1 u2 u3 u4 v0 v1 v2 v3 v4) 2
  have e3 := fun u1 u2 u3 u4 v0 v1 v2 v3 v4 => cell_at (HE.out u1 u2 u3 u4 v0 v1 v2 v3 v4) 3
  have e4 := fun u1 u2 u3 u4 v0 v1 v2 v3 v4 => cell_at (HE.out u1 u2 u3 u4 v0 v1 v2 v3 v4) 4
  simp at e0 e1 e2 e3 e4
  refine bodyPost_ret (by simp [results, Try.results45, go_sem, e0, e1, e2, e3, e4]; try rfl) rfl ?_
  refine ⟨g, cap, rfl, HO.out.1.same (fun b hb => ?_), ?_⟩
  · have hg := HO.out.2
    have : b = g := by simpa [RowTy.all, fps, fpOf, Value.ownBlock, flat_nil, PmR] using hb
    subst this
    exact HN.out _ _ _ _ _ _ _ _ _ b (by omega) (by omega)
  · have h1 := HB.out
    go_grown

theorem Try.infoFc : (Try.prog.info? 69).map (fun i => (i.zero, i.size, i.bytes)) = some (some (.agg #[.string ByteArray.empty, .slice none 0 0, .int .i64 0, .int .i64 0, .int .i64 0]), 5, 64) := by kernel_rfl
def fcZ : Fc × Value := (⟨ByteArray.empty, [], 0, 0, 0⟩, .slice none 0 0)

set_option maxRecDepth 100000 in
set_option maxHeartbeats 1600000 in
theorem toFnS_any (B : Nat) (v : Value) (xs : List Fc) (w : World) (hB : B ≤ w.heap.size) (hv : FcR.Row w B v xs) (hl : szRow szFc xs ≤ 1048576) :
    Calls Try.prog 26 #[v] w fun e w' => ∃ g cap, e = .returned (.slice (some ⟨g, 0, none⟩) xs.length cap) ∧ FcR.Own w' w.heap.size w'.heap.size (.slice (some ⟨g, 0, none⟩) xs.length cap) xs ∧ Below w.heap.size w w' := by
  obtain ⟨a, cap, rfl⟩ := hv.len
  obtain ⟨N, HN⟩ : ∃ N, Hid (xs.length = N) := ⟨_, (rfl : xs.length = xs.length)⟩
  have H : Hid (FcR.Row w B (.slice a N cap) xs) := by rw [← HN.out]; exact hv
  have HS : Hid (szRow szFc xs ≤ 1048576) := hl
  have hN : N ≤ 1048576 := by have := len_szRow szFc xs; have := HN.out; omega
  rw [HN.out]
  clear hv hl
  obtain ⟨i0, hi, hz0, hz1, hz2⟩ := info_parts Try.infoFc
  go_enter Try.func26, Try.ntmps26
  go_wp2_with (at_make; refine wpList_make_full _ rfl _ _ 31 rfl w.heap.size 69 i0 _ 5 Try.underlying31 hi hz0 hz1 _ _ _ _ N rfl rfl (by omega) (by omega) (by rw [hz2]; omega) (by unfold maxLen; omega) (Nat.le_refl _) ?_; intro w0 hown0 hg0)
  clear hi hz0 hz1 hz2
  go_loopw [4] (fun i wr => ∃ k : Nat, k ≤ N ∧ i = .int .i64 (k : Int) ∧ Hid (Made FcR w wr N fcZ xs k) ∧ Below w.heap.size w wr) (fun i _ => N - (intOf i).toNat)
  case atStart =>
    refine ⟨0, Nat.zero_le _, rfl, ?_, (Below.refl _ _).grown hg0 (Nat.le_refl _) (fun k hk => by cases hk)⟩
    show Made _ _ _ _ _ _ _
    refine Made.start xs ?_
    unfold OwnsR
    have hzc := zero_cells (enc := FcR.enc) (k := FcR.k) fcZ (.agg #[.string ByteArray.empty, .slice none 0 0, .int .i64 0, .int .i64 0, .int .i64 0]) FcR.len (by decide) (by simp [Value.cells, FcR, fcC, fcZ]) N
    rw [List.length_replicate, ← hzc]
    exact hown0
  case round =>
    obtain ⟨k, hk, rfl, HM, hbw⟩ := hrel
    clear hown0 hg0
    by_cases hlt : k < N
    · have hk1 : (k : Int) < (N : Int) := by omega
      have hk0 : (0 : Int) ≤ (k : Int) := by omega
      have hkl : k < xs.length := by have := HN.out; omega
      obtain ⟨ba, oa, a0, rfl, hba, c0, c1, c2, c3, c4, ra0⟩ := FcR.at H.out k hkl
      have hq : szFc xs[k] ≤ 1048576 := Nat.le_trans (mem_szRow szFc (List.getElem_mem hkl)) HS.out
      obtain ⟨q, hqe⟩ : ∃ q, Hid (xs[k] = q) := ⟨_, (rfl : xs[k] = xs[k])⟩
      rw [hqe.out] at c0 c2 c3 c4 ra0 hq
      have d0 := (hbw.cell (p := ⟨ba, oa + k * 5, none⟩) (by show ba < _; omega)).trans c0
      have d1 := (hbw.cell (p := ⟨ba, oa + k * 5 + 1, none⟩) (by show ba < _; omega)).trans c1
      have d2 := (hbw.cell (p := ⟨ba, oa + k * 5 + 2, none⟩) (by show ba < _; omega)).trans c2
      have d3 := (hbw.cell (p := ⟨ba, oa + k * 5 + 3, none⟩) (by show ba < _; omega)).trans c3
      have d4 := (hbw.cell (p := ⟨ba, oa + k * 5 + 4, none⟩) (by show ba < _; omega)).trans c4
      have cT : Hid (∀ W, Below w.heap.size w W → Calls Try.prog 45 #[.agg #[.string q.name, a0, .int .i64 q.res, .int .i64 q.body, .int .i64 q.ret]] W fun e w' => ∃ g cap, e = .returned (.agg #[.string q.name, (.slice (some ⟨g, 0, none⟩) q.params.length cap), .int .i64 q.res, .int .i64 q.body, .int .i64 q.ret]) ∧ PmR.Phys w' W.heap.size (.slice (some ⟨g, 0, none⟩) q.params.length cap) q.params ∧ Below W.heap.size W w') := fun W hW =>
        toFn_any B q _ W (Nat.le_trans hB hW.size) (ra0.keep (hW.mono hB)) hq
      clear c0 c1 c2 c3 c4 hq ra0
      go_wp2_with fail
      go_at_call 45
      refine Calls.mono (cT.out _ hbw) ?_
      rintro e w1 ⟨g, gc, rfl, ho, hb1⟩
      have S : Hid (Made FcR w (putCells w1 w.heap.size (k * 5) (fcC (q, .slice (some ⟨g, 0, none⟩) q.params.length gc))) N fcZ xs (k + 1)) := Made.step HM.out HN.out hlt hb1 (q, .slice (some ⟨g, 0, none⟩) q.params.length gc) hqe.out.symm ho (by simp [FcR, fps, fpOf, Value.ownBlock])
      clear ho
      obtain ⟨hc, hf⟩ := Made.cells HM.out HN.out hlt hb1
      have z0 : w1.cell? ⟨w.heap.size, k * 5, none⟩ = some (.string ByteArray.empty) := hc 0 (by decide)
      have f0 : w1.frozen? ⟨w.heap.size, k * 5, none⟩ = false := hf _
      have z1 : w1.cell? ⟨w.heap.size, k * 5 + 1, none⟩ = some (.slice none 0 0) := hc 1 (by decide)
      have f1 : w1.frozen? ⟨w.heap.size, k * 5 + 1, none⟩ = false := hf _
      have z2 : w1.cell? ⟨w.heap.size, k * 5 + 2, none⟩ = some (.int .i64 0) := hc 2 (by decide)
      have f2 : w1.frozen? ⟨w.heap.size, k * 5 + 2, none⟩ = false := hf _
      have z3 : w1.cell? ⟨w.heap.size, k * 5 + 3, none⟩ = some (.int .i64 0) := hc 3 (by decide)
      have f3 : w1.frozen? ⟨w.heap.size, k * 5 + 3, none⟩ = false := hf _
      have z4 : w1.cell? ⟨w.heap.size, k * 5 + 4, none⟩ = some (.int .i64 0) := hc 4 (by decide)
      have f4 : w1.frozen? ⟨w.heap.size, k * 5 + 4, none⟩ = false := hf _
      have HB1 : Hid (Below w.heap.size w w1) := hbw.trans (hb1.mono hbw.size)
      clear hc hf hb1 HM cT d0 d1 d2 d3 d4
      go_wp2
      go_roundw
      case rel => exact ⟨k + 1, by omega, by go_num, S, putCells_below (Nat.le_refl _) (fcC (q, _)) _ _ _ HB1.out⟩
      case measure => simp [intOf]; omega
    · have hkN : Hid (k = N) := (by omega : k = N)
      have HF : Hid (FcR.Own wr w.heap.size wr.heap.size (.slice (some ⟨w.heap.size, 0, none⟩) N N) xs) := by
        have := HM.out
        rw [hkN.out] at this
        exact this.done HN.out
      go_wp2
      go_ret
      exact ⟨_, _, rfl, HF.out, hbw⟩

theorem Try.structFc : ∃ f0 f1 f2 f3 f4 : Field, Try.prog.underlying 76 = some (.struct #[f0, f1, f2, f3, f4]) ∧ f0.offset = 0 ∧ f1.offset = 1 ∧ f2.offset = 2 ∧ f3.offset = 3 ∧ f4.offset = 4 ∧ f0.type = 9 ∧ f1.type = 74 ∧ f2.type = 3 ∧ f3.type = 3 ∧ f4.type = 3 := ⟨_, _, _, _, _, Try.underlying76, rfl, rfl, rfl, rfl, rfl, rfl, rfl, rfl, rfl, rfl⟩
theorem Try.cellsFc : Try.prog.cellsOf 76 = 5 := by kernel_rfl
theorem Try.cellsFcs : Try.prog.cellsOf 23 = 1 := by kernel_rfl
theorem len_fc {γ : Type} {xs : List γ} (h : xs.length = 5) : ∃ x0 x1 x2 x3 x4, xs = [x0, x1, x2, x3, x4] := by
  match xs, h with
  | [x0, x1, x2, x3, x4], _ => exact ⟨_, _, _, _, _, rfl⟩

/-- One Fn out of its cells. -/
theorem open_fc1 {H : Type} {enc : TypeId × Value → H} {W : World} {fuel : Nat} {cs : List Value} {x : DataW H × List MemPlace}
    (h : DataW.trod enc Try.prog W 0 (fun _ => true) true fuel 76 cs = some x) :
    ∃ q : Fc × Value, cs = fcC q ∧ FcR.rsub W W.heap.size q ∧ okFc (FcR.log q) := by
  obtain ⟨f0, f1, f2, f3, f4, hst, o0, o1, o2, o3, o4, t0, t1, t2, t3, t4⟩ := Try.structFc
  obtain ⟨xs, k, _, _, hlen, hxl, hf⟩ := DataW.trod_struct hst h
  rw [Try.cellsFc] at hlen
  have hxl' : xs.length = 5 := hxl
  obtain ⟨y0, y1, y2, y3, y4, rfl⟩ := len_fc hxl'
  obtain ⟨v0, v1, v2, v3, v4, rfl⟩ := len_fc hlen
  have g0 := hf 0 f0 rfl
  rw [o0, t0, Try.cellsStr] at g0
  have g1 := hf 1 f1 rfl
  rw [o1, t1, Try.cellsPms] at g1
  have g2 := hf 2 f2 rfl
  rw [o2, t2, Try.cellsInt] at g2
  have g3 := hf 3 f3 rfl
  rw [o3, t3, Try.cellsInt] at g3
  have g4 := hf 4 f4 rfl
  rw [o4, t4, Try.cellsInt] at g4
  simp at g0 g1 g2 g3 g4
  obtain ⟨z0, e0, _, w0⟩ := DataW.trod_string Try.underlying9 g0
  simp at e0
  subst e0
  have w0' : z0.size ≤ 9223372036854775807 := Nat.le_trans w0 (by unfold maxLen; omega)
  obtain ⟨z1, hr1, hl1⟩ := open_pms g1
  obtain ⟨z2, e2, _, w2⟩ := DataW.trod_int Try.underlying3 g2
  simp at e2
  subst e2
  obtain ⟨z3, e3, _, w3⟩ := DataW.trod_int Try.underlying3 g3
  simp at e3
  subst e3
  obtain ⟨z4, e4, _, w4⟩ := DataW.trod_int Try.underlying3 g4
  simp at e4
  subst e4
  exact ⟨(⟨z0, z1, z2, z3, z4⟩, v1), rfl, hr1, ⟨w0', hl1⟩⟩

theorem open_fcs {H : Type} {enc : TypeId × Value → H} {W : World} {fuel : Nat} {v : Value} {x : DataW H × List MemPlace}
    (h : DataW.trod enc Try.prog W 0 (fun _ => true) true fuel 23 [v] = some x) :
    ∃ xs : List Fc, FcR.Row W W.heap.size v xs ∧ okRow okFc xs := by
  rcases Deep.open_slice Try.underlying23 h with ⟨h0, _⟩ | ⟨ad, len, cap, m, n, D, Pl, hcs, hb, hl, hm, hmm, _, hx⟩
  · simp at h0
    subst h0
    exact ⟨[], FcR.row_nil _ _ _ _, by simp [okRow]⟩
  · simp at hcs
    subst hcs
    simp at hmm
    subst hmm
    have each : ∀ i, i < len → ∃ q : Fc × Value, (∀ j, j < 5 → W.cell? (ad.add (i * 5 + j)) = (fcC q)[j]?) ∧ FcR.rsub W W.heap.size q ∧ okFc (FcR.log q) := by
      intro i hi
      obtain ⟨cs', h1, h2⟩ := hx i (by omega)
      rw [Try.cellsFc] at h1
      obtain ⟨_, hlen, hcell⟩ := World.cells?_some h1
      obtain ⟨q, rfl, hs, hk⟩ := open_fc1 h2
      refine ⟨q, fun j hj => ?_, hs, hk⟩
      have c := hcell j hj
      rw [Deep.add_add] at c
      exact c
    obtain ⟨f, hf⟩ := @Deep.choose_lt (Fc × Value) ⟨fcZ⟩ _ _ each
    refine ⟨((List.range len).map f).map FcR.log, ⟨_, rfl, rowR_of f hl (by decide) FcR.len (fun i hi j hj => (hf i hi).1 j hj), ?_⟩, ?_, ?_⟩
    · intro p hp
      obtain ⟨i, hi, rfl⟩ := List.mem_map.mp hp
      exact (hf i (by simpa using hi)).2.1
    · simp
      unfold maxLen at hm
      omega
    · intro x hx
      obtain ⟨p, hp, rfl⟩ := List.mem_map.mp hx
      obtain ⟨i, hi, rfl⟩ := List.mem_map.mp hp
      exact (hf i (by simpa using hi)).2.2

end Go.Proofs.Ytehdaliebloglaa

namespace Go.Proofs.Ytehdaliebloglaa
open Go.RowKit

/-- A program that is read. -/
def RowPg (w : World) (B : Nat) (v0 v1 : Value) (p : Pg) : Prop := NdR.Row w B v0 p.nodes ∧ FcR.Row w B v1 p.fns
theorem RowPg.keep {w w' : World} {B : Nat} {v0 v1 : Value} {p : Pg} (h : RowPg w B v0 v1 p) (hb : Below B w w') : RowPg w' B v0 v1 p := ⟨h.1.keep hb, h.2.keep hb⟩
theorem RowPg.up {w : World} {B B' : Nat} {v0 v1 : Value} {p : Pg} (h : RowPg w B v0 v1 p) (hB : B ≤ B') : RowPg w B' v0 v1 p := ⟨h.1.up hB, h.2.up hB⟩
/-- A program that the call owns, in blocks B .. H. -/
def OwnPg (w : World) (B H : Nat) (v0 v1 : Value) (p : Pg) : Prop := ∃ M, B ≤ M ∧ M ≤ H ∧ NdR.Own w B M v0 p.nodes ∧ FcR.Own w M H v1 p.fns
theorem OwnPg.row {w : World} {B H : Nat} {v0 v1 : Value} {p : Pg} (h : OwnPg w B H v0 v1 p) : RowPg w H v0 v1 p := by
  obtain ⟨M, h1, h2, h3, h4⟩ := h
  exact ⟨h3.row.up h2, h4.row⟩
theorem OwnPg.same {w w' : World} {B H : Nat} {v0 v1 : Value} {p : Pg} (h : OwnPg w B H v0 v1 p) (hs : ∀ g, B ≤ g → g < H → w'.heap[g]? = w.heap[g]?) : OwnPg w' B H v0 v1 p := by
  obtain ⟨M, h1, h2, h3, h4⟩ := h
  exact ⟨M, h1, h2, h3.same (fun g a b => hs g a (by omega)), h4.same (fun g a b => hs g (by omega) b)⟩

theorem le_szPg_nodes (p : Pg) : szRow szNd p.nodes ≤ szPg p := Nat.le_add_right _ _
theorem le_szPg_fns (p : Pg) : szRow szFc p.fns ≤ szPg p := Nat.le_add_left _ _

set_option maxRecDepth 100000 in
set_option maxHeartbeats 1600000 in
theorem eqProgram_same (B : Nat) (p : Pg) (a0 a1 b0 b1 : Value) (w : World) (hB : B ≤ w.heap.size) (ha : RowPg w B a0 a1 p) (hb : RowPg w B b0 b1 p) (hl : szPg p ≤ 1048576) :
    Calls Try.prog 13 #[.agg #[a0, a1], .agg #[b0, b1]] w fun e w' => e = .returned (.bool true) ∧ Below w.heap.size w w' := by
  have cE0 : Hid (∀ W, Below w.heap.size w W → Calls Try.prog 12 #[a0, b0] W fun e w' => e = .returned (.bool true) ∧ Below W.heap.size W w') := fun W hW =>
    eqNodeS_same B _ _ p.nodes W (Nat.le_trans hB hW.size) (ha.1.keep (hW.mono hB)) (hb.1.keep (hW.mono hB)) (Nat.le_trans (le_szPg_nodes p) hl)
  have cE1 : Hid (∀ W, Below w.heap.size w W → Calls Try.prog 32 #[a1, b1] W fun e w' => e = .returned (.bool true) ∧ Below W.heap.size W w') := fun W hW =>
    eqFnS_same B _ _ p.fns W (Nat.le_trans hB hW.size) (ha.2.keep (hW.mono hB)) (hb.2.keep (hW.mono hB)) (Nat.le_trans (le_szPg_fns p) hl)
  clear ha hb hl
  go_enter Try.func13, Try.ntmps13
  go_wp2_with fail
  go_at_call 12
  refine Calls.mono (cE0.out _ (by go_grown)) ?_
  rintro e w1 ⟨rfl, hb⟩
  have HB1 : Hid (Below w.heap.size w w1) := by
    refine Below.trans ?_ (hb.mono ?_)
    · go_grown
    · simp; omega
  have x1 : w1.cell? ⟨w.heap.size, 1, none⟩ = some a1 := (hb.cell (p := ⟨w.heap.size, 1, none⟩) (by show _ < _; first | (simp; done) | (simp; omega))).trans (by simp)
  have y1 : w1.cell? ⟨w.heap.size + 1, 1, none⟩ = some b1 := (hb.cell (p := ⟨w.heap.size + 1, 1, none⟩) (by show _ < _; first | (simp; done) | (simp; omega))).trans (by simp)
  clear hb cE0
  go_wp2_with fail
  go_at_call 32
  refine Calls.mono (cE1.out _ HB1.out) ?_
  rintro e w2 ⟨rfl, hb⟩
  have HB2 : Hid (Below w.heap.size w w2) := HB1.out.trans (hb.mono HB1.out.size)
  clear hb cE1
  go_wp2
  go_ret
  exact ⟨rfl, HB2.out⟩

set_option maxRecDepth 100000 in
set_option maxHeartbeats 1600000 in
theorem szProgram_sum (B : Nat) (p : Pg) (a0 a1 : Value) (left : Int) (w : World) (hB : B ≤ w.heap.size) (ha : RowPg w B a0 a1 p) (hok : okPg p) (h0 : 0 ≤ left) (h1 : left ≤ 1048576) :
    Calls Try.prog 6 #[.agg #[a0, a1], .int .i64 left] w fun e w' => (∃ r : Int, e = .returned (.int .i64 r) ∧ (r = -1 ∨ (0 ≤ r ∧ r + (szPg p : Int) = left))) ∧ Below w.heap.size w w' := by
  have cS0 : Hid (∀ W l, 0 ≤ l → l ≤ 1048576 → Below w.heap.size w W → Calls Try.prog 7 #[a0, .int .i64 l] W fun e w' => (∃ r : Int, e = .returned (.int .i64 r) ∧ (r = -1 ∨ (0 ≤ r ∧ r + (szRow szNd p.nodes : Int) = l))) ∧ Below W.heap.size W w') := fun W l hl0 hl1 hW =>
    szNodeS_sum B _ p.nodes l W (Nat.le_trans hB hW.size) (ha.1.keep (hW.mono hB)) hok.1 hl0 hl1
  have cS1 : Hid (∀ W l, 0 ≤ l → l ≤ 1048576 → Below w.heap.size w W → Calls Try.prog 21 #[a1, .int .i64 l] W fun e w' => (∃ r : Int, e = .returned (.int .i64 r) ∧ (r = -1 ∨ (0 ≤ r ∧ r + (szRow szFc p.fns : Int) = l))) ∧ Below W.heap.size W w') := fun W l hl0 hl1 hW =>
    szFnS_sum B _ p.fns l W (Nat.le_trans hB hW.size) (ha.2.keep (hW.mono hB)) hok.2 hl0 hl1
  have HZ : Hid ((szPg p : Int) = (szRow szNd p.nodes : Int) + (szRow szFc p.fns : Int)) := by
    show (_ : Int) = _
    unfold szPg
    push_cast
    rfl
  obtain ⟨z0, hz0⟩ : ∃ z : Nat, Hid (szRow szNd p.nodes = z) := ⟨_, (rfl : szRow szNd p.nodes = szRow szNd p.nodes)⟩
  obtain ⟨z1, hz1⟩ : ∃ z : Nat, Hid (szRow szFc p.fns = z) := ⟨_, (rfl : szRow szFc p.fns = szRow szFc p.fns)⟩
  rw [hz0.out] at cS0 HZ
  rw [hz1.out] at cS1 HZ
  rw [HZ.out]
  clear HZ hok ha hz0 hz1
  go_enter Try.func6, Try.ntmps6
  go_wp2_with fail
  go_at_call 7
  refine Calls.mono (cS0.out _ left h0 h1 (by go_grown)) ?_
  rintro e w1 ⟨⟨r1, rfl, hr1⟩, hb⟩
  have HB1 : Hid (Below w.heap.size w w1) := by
    refine Below.trans ?_ (hb.mono ?_)
    · go_grown
    · simp
  have x1 : w1.cell? ⟨w.heap.size, 1, none⟩ = some a1 := (hb.cell (p := ⟨w.heap.size, 1, none⟩) (by show _ < _; first | (simp; done) | (simp; omega))).trans (by simp)
  clear hb cS0
  rcases hr1 with rfl | ⟨hr1a, hr1b⟩
  · go_wp2
    go_ret
    exact ⟨⟨_, rfl, .inl rfl⟩, HB1.out⟩
  have hr1n : ¬ r1 < 0 := by omega
  go_wp2_with fail
  go_at_call 21
  refine Calls.mono (cS1.out _ r1 hr1a (by omega) HB1.out) ?_
  rintro e w2 ⟨⟨r2, rfl, hr2⟩, hb⟩
  have HB2 : Hid (Below w.heap.size w w2) := HB1.out.trans (hb.mono HB1.out.size)
  clear hb cS1
  rcases hr2 with rfl | ⟨hr2a, hr2b⟩
  · go_wp2
    go_ret
    exact ⟨⟨_, rfl, .inl rfl⟩, HB2.out⟩
  have hr2n : ¬ r2 < 0 := by omega
  go_wp2
  go_ret
  exact ⟨⟨_, rfl, .inr ⟨by omega, by omega⟩⟩, HB2.out⟩

set_option maxRecDepth 100000 in
set_option maxHeartbeats 1600000 in
theorem toProgram_any (B : Nat) (p : Pg) (a0 a1 : Value) (w : World) (hB : B ≤ w.heap.size) (ha : RowPg w B a0 a1 p) (hl : szPg p ≤ 1048576) :
    Calls Try.prog 9 #[.agg #[a0, a1]] w fun e w' => ∃ g c g' c', e = .returned (.agg #[.slice (some ⟨g, 0, none⟩) p.nodes.length c, .slice (some ⟨g', 0, none⟩) p.fns.length c']) ∧ OwnPg w' w.heap.size w'.heap.size (.slice (some ⟨g, 0, none⟩) p.nodes.length c) (.slice (some ⟨g', 0, none⟩) p.fns.length c') p ∧ Below w.heap.size w w' := by
  have cT0 : Hid (∀ W, Below w.heap.size w W → Calls Try.prog 10 #[a0] W fun e w' => ∃ g cap, e = .returned (.slice (some ⟨g, 0, none⟩) p.nodes.length cap) ∧ NdR.Own w' W.heap.size w'.heap.size (.slice (some ⟨g, 0, none⟩) p.nodes.length cap) p.nodes ∧ Below W.heap.size W w') := fun W hW =>
    toNodeS_any B _ p.nodes W (Nat.le_trans hB hW.size) (ha.1.keep (hW.mono hB)) (Nat.le_trans (le_szPg_nodes p) hl)
  have cT1 : Hid (∀ W, Below w.heap.size w W → Calls Try.prog 26 #[a1] W fun e w' => ∃ g cap, e = .returned (.slice (some ⟨g, 0, none⟩) p.fns.length cap) ∧ FcR.Own w' W.heap.size w'.heap.size (.slice (some ⟨g, 0, none⟩) p.fns.length cap) p.fns ∧ Below W.heap.size W w') := fun W hW =>
    toFnS_any B _ p.fns W (Nat.le_trans hB hW.size) (ha.2.keep (hW.mono hB)) (Nat.le_trans (le_szPg_fns p) hl)
  obtain ⟨N0, H0⟩ : ∃ K, Hid (p.nodes.length = K) := ⟨_, (rfl : p.nodes.length = p.nodes.length)⟩
  obtain ⟨N1, H1⟩ : ∃ K, Hid (p.fns.length = K) := ⟨_, (rfl : p.fns.length = p.fns.length)⟩
  rw [H0.out] at cT0 ⊢
  rw [H1.out] at cT1 ⊢
  clear ha hl
  go_enter Try.func9, Try.ntmps9
  go_wp2_with fail
  go_at_call 10
  refine Calls.mono (cT0.out _ (by go_grown)) ?_
  rintro e w1 ⟨g, c, rfl, ho, hb1⟩
  have hO := (hb1.block (w.heap.size + 2) (by first | (simp; done) | (simp; omega))).trans (third_new w _ _ _)
  have hR := (hb1.block (w.heap.size + 1) (by first | (simp; done) | (simp; omega))).trans (second_new w _ _ _)
  have hA := (hb1.block w.heap.size (by first | (simp; done) | (simp; omega))).trans (first_new w _ _ _)
  have HO1 : Hid (NdR.Own w1 (w.heap.size + 3) w1.heap.size (.slice (some ⟨g, 0, none⟩) N0 c) p.nodes) := ho.wide (by simp) (Nat.le_refl _)
  have HB1 : Hid (Below w.heap.size w w1) := by
    refine Below.trans ?_ (hb1.mono ?_)
    · go_grown
    · simp; omega
  have hz1 : w.heap.size + 3 ≤ w1.heap.size := by have := hb1.size; simp at this; omega
  have a1' := cell_at hA 1
  have o0 := cell_at hO 0
  have p0 := free_at hO 0
  simp at a1' o0
  clear ho hb1 cT0
  have HO : Hid _ := hO
  have HR : Hid _ := hR
  clear hO hR hA
  go_wp2_with fail
  go_at_call 26
  refine Calls.mono (cT1.out _ (HB1.out.setCell (p := ⟨w.heap.size + 2, 0, none⟩) (by show _ ≤ _; simp) _)) ?_
  rintro e w2 ⟨g', c', rfl, ho, hb2⟩
  have hzz : (w1.setCell ⟨w.heap.size + 2, 0, none⟩ (.slice (some ⟨g, 0, none⟩) N0 c)).heap.size = w1.heap.size := by simp
  rw [hzz] at ho hb2
  have hO : w2.heap[w.heap.size + 2]? = some (.cells #[.slice (some ⟨g, 0, none⟩) N0 c, .slice none 0 0] 33 (0, 0)) := (hb2.block _ (by omega)).trans (by have := HO.out; simp [World.setCell, Array.getElem?_modify, this])
  have hR : w2.heap[w.heap.size + 1]? = some (.cells #[.slice none 0 0, .slice none 0 0] 33 (0, 0)) := (hb2.block _ (by omega)).trans ((kept_set (by omega)).trans HR.out)
  have HN1 : Hid (NdR.Own w2 (w.heap.size + 3) w1.heap.size (.slice (some ⟨g, 0, none⟩) N0 c) p.nodes) := HO1.out.same (fun x hx1 hx2 => (hb2.block x hx2).trans (kept_set (by omega)))
  have HN2 : Hid (FcR.Own w2 w1.heap.size w2.heap.size (.slice (some ⟨g', 0, none⟩) N1 c') p.fns) := ho
  have HB2 : Hid (Below w.heap.size w w2) := (HB1.out.setCell (p := ⟨w.heap.size + 2, 0, none⟩) (by show _ ≤ _; simp) _).trans (hb2.mono (by omega))
  have hz2 : w1.heap.size ≤ w2.heap.size := by have := hb2.size; simp at this; omega
  have q0 := cell_at hO 0
  have q1 := cell_at hO 1
  have p1 := free_at hO 1
  have r0 := cell_at hR 0
  have r1 := cell_at hR 1
  have f0 := free_at hR 0
  have f1 := free_at hR 1
  have HE : Hid (∀ u v0 v1, (((w2.setCell ⟨w.heap.size + 2, 1, none⟩ u).setCell ⟨w.heap.size + 1, 0, none⟩ v0).setCell ⟨w.heap.size + 1, 1, none⟩ v1).heap[w.heap.size + 1]? = some (.cells #[v0, v1] 33 (0, 0))) := fun u v0 v1 => by
    simp [World.setCell, Array.getElem?_modify, hR]
  have HN : Hid (∀ u v0 v1 x, x ≠ w.heap.size + 1 → x ≠ w.heap.size + 2 → (((w2.setCell ⟨w.heap.size + 2, 1, none⟩ u).setCell ⟨w.heap.size + 1, 0, none⟩ v0).setCell ⟨w.heap.size + 1, 1, none⟩ v1).heap[x]? = w2.heap[x]?) := fun u v0 v1 x h1 h2 => by
    simp only [kept_set h1, kept_set h2]
  simp at q0 q1 r0 r1
  clear ho hb2 hO hR cT1 HO HR HO1 HB1 o0 p0 a1' hzz
  go_wp2
  have e0 := fun u v0 v1 => cell_at (HE.out u v0 v1) 0
  have e1 := fun u v0 v1 => cell_at (HE.out u v0 v1) 1
  simp at e0 e1
  refine bodyPost_ret (by simp [results, Try.results9, go_sem, e0, e1]; try rfl) rfl ?_
  refine ⟨g, c, g', c', rfl, ⟨w1.heap.size, by omega, by simp; omega, ?_, ?_⟩, ?_⟩
  · exact (HN1.out.same (fun x hx1 hx2 => HN.out _ _ _ x (by omega) (by omega))).wide (by omega) (Nat.le_refl _)
  · exact (HN2.out.same (fun x hx1 hx2 => HN.out _ _ _ x (by omega) (by omega))).wide (Nat.le_refl _) (by simp)
  · have h1 := HB2.out
    go_grown

end Go.Proofs.Ytehdaliebloglaa

namespace Go.Proofs.Ytehdaliebloglaa
open Go.RowKit

theorem Try.structPg : ∃ f0 f1 : Field, Try.prog.underlying 25 = some (.struct #[f0, f1]) ∧ f0.offset = 0 ∧ f1.offset = 1 ∧ f0.type = 22 ∧ f1.type = 23 := ⟨_, _, Try.underlying25, rfl, rfl, rfl, rfl⟩
theorem Try.cellsPg : Try.prog.cellsOf 25 = 2 := by kernel_rfl
theorem open_pg {H : Type} {enc : TypeId × Value → H} {W : World} {fuel : Nat} {cs : Array Value} {x : DataW H × List MemPlace}
    (h : DataW.trod enc Try.prog W 0 (fun _ => true) true fuel 25 (Value.agg cs).cells.toList = some x) :
    ∃ v0 v1 p, cs = #[v0, v1] ∧ RowPg W W.heap.size v0 v1 p ∧ okPg p := by
  obtain ⟨f0, f1, hst, o0, o1, t0, t1⟩ := Try.structPg
  obtain ⟨xs, k, _, _, hlen, hxl, hf⟩ := DataW.trod_struct hst h
  rw [Try.cellsPg] at hlen
  have hxl' : xs.length = 2 := hxl
  obtain ⟨y0, y1, rfl⟩ := len_pm hxl'
  obtain ⟨v0, v1, hv⟩ := len_pm hlen
  have hcs : cs = #[v0, v1] := by
    have : cs.toList = [v0, v1] := hv
    rw [← this]
  subst hcs
  have g0 := hf 0 f0 rfl
  rw [o0, t0, Try.cellsNds, hv] at g0
  have g1 := hf 1 f1 rfl
  rw [o1, t1, Try.cellsFcs, hv] at g1
  simp at g0 g1
  obtain ⟨z0, r0, k0⟩ := open_nds g0
  obtain ⟨z1, r1, k1⟩ := open_fcs g1
  exact ⟨v0, v1, ⟨z0, z1⟩, rfl, ⟨r0, r1⟩, k0, k1⟩

end Go.Proofs.Ytehdaliebloglaa

namespace Go.Proofs.Ytehdaliebloglaa
open Go.RowKit

theorem all_flatPm (v : Value) (ps : List Pm) : PmR.all v ps = [v] := by simp [RowTy.all, PmR, flat_nil]
def mkPm (k : Nat) (_x : Pm) : Pm := ⟨mkT (k), ((k + 1 : Nat) : Int)⟩
def lnPm (_x : Pm) : Nat := 0 + 2

set_option maxRecDepth 100000 in
set_option maxHeartbeats 3200000 in
theorem markParamS_some (B g cap k n : Nat) (ps : List (Pm)) (w : World) (HN : Hid (n = ps.length)) (hb : k + markN lnPm ps ≤ 1000000000) (hk0 : 0 < k) (hown : PmR.Phys w B (.slice (some ⟨g, 0, none⟩) n cap) ps) (hA : (fps (PmR.all (.slice (some ⟨g, 0, none⟩) n cap) ps)).Nodup) :
    Calls Try.prog 53 #[.slice (some ⟨g, 0, none⟩) n cap, .int .i64 (k : Int)] w fun e' w' => e' = .returned (.int .i64 ((k + markN lnPm ps : Nat) : Int)) ∧ PmR.Phys w' B (.slice (some ⟨g, 0, none⟩) n cap) (markL mkPm lnPm k ps) ∧ Kept (PmR.all (.slice (some ⟨g, 0, none⟩) n cap) ps) w w' := by
  have hnl : n ≤ 1000000000 := by have h1 := len_markN lnPm (fun p => by unfold lnPm; omega) ps; have := HN.out; omega
  obtain ⟨VS, HVS⟩ : ∃ VS, Hid (PmR.all (.slice (some ⟨g, 0, none⟩) n cap) ps = VS) := ⟨_, (rfl : PmR.all (.slice (some ⟨g, 0, none⟩) n cap) ps = PmR.all (.slice (some ⟨g, 0, none⟩) n cap) ps)⟩
  have HO : Hid (MarkSt PmR w VS w B g n cap (markTo mkPm lnPm k ps 0)) := by
    rw [markTo_zero]
    exact ⟨hown, HVS.out, by rw [← HVS.out]; exact hA, HN.out, Kept.refl _ _⟩
  rw [HVS.out]
  clear hown hA
  go_enter Try.func53, Try.ntmps53
  go_wp2
  go_loopw [1, 5] (fun kk i wr => ∃ (j m : Nat), j ≤ n ∧ i = .int .i64 (j : Int) ∧ kk = .int .i64 (m : Int) ∧ Hid (m = k + markN lnPm (ps.take j)) ∧ Hid (MarkSt PmR w VS wr B g n cap (markTo mkPm lnPm k ps j)))
    (fun _ i _ => n - (intOf i).toNat)
  case atStart => exact ⟨0, k, Nat.zero_le _, rfl, rfl, by show _ = _; simp [markN], HO⟩
  case round =>
    obtain ⟨j, m, hj, rfl, rfl, HM, H0⟩ := hrel
    clear HO
    by_cases hlt : j < n
    · have hj0 : (0 : Int) ≤ (j : Int) := by omega
      have hj1 : (j : Int) < (n : Int) := by omega
      have hjp : j < ps.length := by have := HN.out; omega
      have hm0 : 0 < m := by have := HM.out; omega
      obtain ⟨q, hq⟩ : ∃ q, Hid (ps[j] = q) := ⟨_, (rfl : ps[j] = ps[j])⟩
      have hmb : m + lnPm q ≤ 1000000000 := by
        have h1 := markN_take lnPm ps j hjp
        have h2 := markN_take_le lnPm ps (j + 1)
        have := HM.out
        rw [hq.out] at h1
        omega
      have HNX : Hid (m + lnPm q = k + markN lnPm (ps.take (j + 1))) := by
        show _ = _
        rw [markN_take lnPm ps j hjp, hq.out, HM.out, Nat.add_assoc]
      have HST : Hid (∀ y, y = mkPm m q → (markTo mkPm lnPm k ps j).set j y = markTo mkPm lnPm k ps (j + 1)) := fun y hy => markTo_step mkPm lnPm k ps j hjp y (by rw [hy, hq.out, HM.out])
      have hCl : j < (markTo mkPm lnPm k ps j).length := by rw [markTo_len]; exact hjp
      have hC0 : (markTo mkPm lnPm k ps j).set j q = markTo mkPm lnPm k ps j := by
        have := markTo_at mkPm lnPm k ps j hjp
        rw [hq.out] at this
        rw [← this]
        exact List.set_getElem_self hCl
      obtain ⟨C, hC⟩ : ∃ C, Hid (markTo mkPm lnPm k ps j = C) := ⟨_, (rfl : markTo mkPm lnPm k ps j = markTo mkPm lnPm k ps j)⟩
      rw [hC.out] at H0 HST hCl hC0
      have hl : ∀ y, j < (C.set j y).length := fun y => by rw [List.length_set]; exact hCl
      have HLn : Hid (∀ y, j < (C.set j y).length) := hl
      have HAt : Hid (∀ y, (C.set j y)[j]'(HLn.out y) = y) := fun y => List.getElem_set_self _
      obtain ⟨name, ty⟩ := q
      have S0 : Hid (MarkSt PmR w VS wr B g n cap (C.set j (⟨name, ty⟩ : Pm))) := by rw [hC0]; exact H0.out
      simp only [lnPm] at hmb
      clear H0 hC0 hl hCl
      go_wp2_with fail
      go_at_call 34
      refine (markText_any (m) _ (by omega) (by omega)).mono ?_
      rintro e' w1 ⟨rfl, hbc⟩
      obtain ⟨T0, HT0⟩ : ∃ T, Hid (mkT (m) = T) := ⟨_, (rfl : mkT (m) = mkT (m))⟩
      rw [HT0.out]
      have S1 : Hid (MarkSt PmR w VS w1 B g n cap (C.set j (⟨name, ty⟩ : Pm))) := S0.out.below hbc
      clear hbc S0
      have c1_0 : w1.cell? ⟨g, j * 2, none⟩ = some (.string name) := by
        have := S1.out.cell j 0 (HLn.out _) (by decide)
        rw [HAt.out] at this
        exact this
      have fr1_0 : w1.frozen? ⟨g, j * 2, none⟩ = false := S1.out.free _
      have S2 : Hid (MarkSt PmR w VS (w1.setCell ⟨g, j * 2, none⟩ (.string T0)) B g n cap (C.set j (⟨T0, ty⟩ : Pm))) := by
        have := S1.out.field j 0 (HLn.out _) (by decide) (⟨T0, ty⟩ : Pm) (.string T0) (by rw [HAt.out]; rfl) (by rw [HAt.out]; rfl) (fun W B h => by rw [HAt.out] at h; exact h)
        rw [List.set_set] at this
        exact this
      have c2_1 : w1.cell? ⟨g, j * 2 + 1, none⟩ = some (.int .i64 ty) := by
        have := S1.out.cell j 1 (HLn.out _) (by decide)
        rw [HAt.out] at this
        exact this
      have fr2_1 : w1.frozen? ⟨g, j * 2 + 1, none⟩ = false := S1.out.free _
      have S3 : Hid (MarkSt PmR w VS ((w1.setCell ⟨g, j * 2, none⟩ (.string T0)).setCell ⟨g, j * 2 + 1, none⟩ (.int .i64 ((m + 1 : Nat) : Int))) B g n cap (C.set j (⟨T0, ((m + 1 : Nat) : Int)⟩ : Pm))) := by
        have := S2.out.field j 1 (HLn.out _) (by decide) (⟨T0, ((m + 1 : Nat) : Int)⟩ : Pm) (.int .i64 ((m + 1 : Nat) : Int)) (by rw [HAt.out]; rfl) (by rw [HAt.out]; rfl) (fun W B h => by rw [HAt.out] at h; exact h)
        rw [List.set_set] at this
        exact this
      clear S2
      have HF : Hid (MarkSt PmR w VS ((w1.setCell ⟨g, j * 2, none⟩ (.string T0)).setCell ⟨g, j * 2 + 1, none⟩ (.int .i64 ((m + 1 : Nat) : Int))) B g n cap (markTo mkPm lnPm k ps (j + 1))) := by
        have h1 := HST.out (⟨T0, ((m + 1 : Nat) : Int)⟩ : Pm) (by
          simp only [mkPm]
          rw [← HT0.out]
          try rw [lnI_len]
          try rfl)
        rw [← h1]
        exact S3.out
      have HE : Hid (m + 2 = k + markN lnPm (ps.take (j + 1))) := by
        show _ = _
        rw [← HNX.out]
        simp only [lnPm]
        try omega
      clear S3 S1
      go_wp2
      go_roundw
      case rel => exact ⟨j + 1, m + 2, by omega, by go_num, by go_num, HE, HF⟩
      case measure => simp [intOf]; omega
    · have hjn : Hid (j = n) := (by omega : j = n)
      have HE : Hid (m = k + markN lnPm ps) := by show _ = _; rw [HM.out, List.take_of_length_le (by have := HN.out; have := hjn.out; omega)]
      have HF : Hid (MarkSt PmR w VS wr B g n cap (markL mkPm lnPm k ps)) := by
        have := H0.out
        rw [markTo_all mkPm lnPm k ps j (by have := HN.out; have := hjn.out; omega)] at this
        exact this
      go_wp2
      go_ret
      exact ⟨by rw [← HE.out]; rfl, HF.out.phys, HF.out.kept⟩
theorem markParamS_none (ao : Option Addr) (c : Nat) (k : Int) (w : World) :
    Calls Try.prog 53 #[.slice ao 0 c, .int .i64 k] w fun e w' => e = .returned (.int .i64 k) ∧ w' = w := by
  go_enter Try.func53, Try.ntmps53
  go_wp2
  refine wp_loop_rounds 1 ?_
  rw [rounds_succ]
  go_wp2
  go_ret
  exact ⟨rfl, rfl⟩
theorem markParamS_any (B : Nat) (v : Value) (k : Nat) (ps : List (Pm)) (w : World) (hb : k + markN lnPm ps ≤ 1000000000) (hk0 : 0 < k) (hown : PmR.Phys w B v ps) (hA : (fps (PmR.all v ps)).Nodup) :
    Calls Try.prog 53 #[v, .int .i64 (k : Int)] w fun e' w' => e' = .returned (.int .i64 ((k + markN lnPm ps : Nat) : Int)) ∧ PmR.Phys w' B v (markL mkPm lnPm k ps) ∧ Kept (PmR.all v ps) w w' := by
  rcases OwnsR.form hown.1 with ⟨rfl, rfl⟩ | ⟨g, cap, rfl, _, _⟩
  · refine (markParamS_none none 0 k w).mono ?_
    rintro e' w' ⟨rfl, rfl⟩
    exact ⟨rfl, hown, Kept.refl _ _⟩
  · exact markParamS_some B g cap k _ ps w rfl hb hk0 hown hA

end Go.Proofs.Ytehdaliebloglaa

namespace Go.Proofs.Ytehdaliebloglaa
open Go.RowKit

def mkNd (k : Nat) (x : Nd) : Nd := ⟨((k : Nat) : Int), ((k + 1 : Nat) : Int), mkT (k + 2), markL mkI lnI (k + 3) x.kids⟩
def lnNd (x : Nd) : Nat := (0 + 3 + markN lnI x.kids)
def mkNdP (k : Nat) (p : Nd × Value) : Nd × Value := (mkNd k p.1, p.2)
def lnNdP (p : Nd × Value) : Nat := lnNd p.1

set_option maxRecDepth 100000 in
set_option maxHeartbeats 3200000 in
theorem markNodeS_some (B g cap k n : Nat) (ps : List (Nd × Value)) (w : World) (HN : Hid (n = ps.length)) (hb : k + markN lnNdP ps ≤ 1000000000) (hk0 : 0 < k) (hown : NdR.Phys w B (.slice (some ⟨g, 0, none⟩) n cap) ps) (hA : (fps (NdR.all (.slice (some ⟨g, 0, none⟩) n cap) ps)).Nodup) :
    Calls Try.prog 15 #[.slice (some ⟨g, 0, none⟩) n cap, .int .i64 (k : Int)] w fun e' w' => e' = .returned (.int .i64 ((k + markN lnNdP ps : Nat) : Int)) ∧ NdR.Phys w' B (.slice (some ⟨g, 0, none⟩) n cap) (markL mkNdP lnNdP k ps) ∧ Kept (NdR.all (.slice (some ⟨g, 0, none⟩) n cap) ps) w w' := by
  have hnl : n ≤ 1000000000 := by have h1 := len_markN lnNdP (fun p => by unfold lnNdP lnNd; omega) ps; have := HN.out; omega
  obtain ⟨VS, HVS⟩ : ∃ VS, Hid (NdR.all (.slice (some ⟨g, 0, none⟩) n cap) ps = VS) := ⟨_, (rfl : NdR.all (.slice (some ⟨g, 0, none⟩) n cap) ps = NdR.all (.slice (some ⟨g, 0, none⟩) n cap) ps)⟩
  have HO : Hid (MarkSt NdR w VS w B g n cap (markTo mkNdP lnNdP k ps 0)) := by
    rw [markTo_zero]
    exact ⟨hown, HVS.out, by rw [← HVS.out]; exact hA, HN.out, Kept.refl _ _⟩
  rw [HVS.out]
  clear hown hA
  go_enter Try.func15, Try.ntmps15
  go_wp2
  go_loopw [1, 5] (fun kk i wr => ∃ (j m : Nat), j ≤ n ∧ i = .int .i64 (j : Int) ∧ kk = .int .i64 (m : Int) ∧ Hid (m = k + markN lnNdP (ps.take j)) ∧ Hid (MarkSt NdR w VS wr B g n cap (markTo mkNdP lnNdP k ps j)))
    (fun _ i _ => n - (intOf i).toNat)
  case atStart => exact ⟨0, k, Nat.zero_le _, rfl, rfl, by show _ = _; simp [markN], HO⟩
  case round =>
    obtain ⟨j, m, hj, rfl, rfl, HM, H0⟩ := hrel
    clear HO
    by_cases hlt : j < n
    · have hj0 : (0 : Int) ≤ (j : Int) := by omega
      have hj1 : (j : Int) < (n : Int) := by omega
      have hjp : j < ps.length := by have := HN.out; omega
      have hm0 : 0 < m := by have := HM.out; omega
      obtain ⟨q, hq⟩ : ∃ q, Hid (ps[j] = q) := ⟨_, (rfl : ps[j] = ps[j])⟩
      have hmb : m + lnNdP q ≤ 1000000000 := by
        have h1 := markN_take lnNdP ps j hjp
        have h2 := markN_take_le lnNdP ps (j + 1)
        have := HM.out
        rw [hq.out] at h1
        omega
      have HNX : Hid (m + lnNdP q = k + markN lnNdP (ps.take (j + 1))) := by
        show _ = _
        rw [markN_take lnNdP ps j hjp, hq.out, HM.out, Nat.add_assoc]
      have HST : Hid (∀ y, y = mkNdP m q → (markTo mkNdP lnNdP k ps j).set j y = markTo mkNdP lnNdP k ps (j + 1)) := fun y hy => markTo_step mkNdP lnNdP k ps j hjp y (by rw [hy, hq.out, HM.out])
      have hCl : j < (markTo mkNdP lnNdP k ps j).length := by rw [markTo_len]; exact hjp
      have hC0 : (markTo mkNdP lnNdP k ps j).set j q = markTo mkNdP lnNdP k ps j := by
        have := markTo_at mkNdP lnNdP k ps j hjp
        rw [hq.out] at this
        rw [← this]
        exact List.set_getElem_self hCl
      obtain ⟨C, hC⟩ : ∃ C, Hid (markTo mkNdP lnNdP k ps j = C) := ⟨_, (rfl : markTo mkNdP lnNdP k ps j = markTo mkNdP lnNdP k ps j)⟩
      rw [hC.out] at H0 HST hCl hC0
      have hl : ∀ y, j < (C.set j y).length := fun y => by rw [List.length_set]; exact hCl
      have HLn : Hid (∀ y, j < (C.set j y).length) := hl
      have HAt : Hid (∀ y, (C.set j y)[j]'(HLn.out y) = y) := fun y => List.getElem_set_self _
      obtain ⟨⟨kind, num, name, kids⟩, v0⟩ := q
      have S0 : Hid (MarkSt NdR w VS wr B g n cap (C.set j ((⟨kind, num, name, kids⟩ : Nd), v0))) := by rw [hC0]; exact H0.out
      simp only [lnNdP, lnNd] at hmb
      clear H0 hC0 hl hCl
      have c0_0 : wr.cell? ⟨g, j * 4, none⟩ = some (.int .i64 kind) := by
        have := S0.out.cell j 0 (HLn.out _) (by decide)
        rw [HAt.out] at this
        exact this
      have fr0_0 : wr.frozen? ⟨g, j * 4, none⟩ = false := S0.out.free _
      have S1 : Hid (MarkSt NdR w VS (wr.setCell ⟨g, j * 4, none⟩ (.int .i64 ((m : Nat) : Int))) B g n cap (C.set j ((⟨((m : Nat) : Int), num, name, kids⟩ : Nd), v0))) := by
        have := S0.out.field j 0 (HLn.out _) (by decide) ((⟨((m : Nat) : Int), num, name, kids⟩ : Nd), v0) (.int .i64 ((m : Nat) : Int)) (by rw [HAt.out]; rfl) (by rw [HAt.out]; rfl) (fun W B h => by rw [HAt.out] at h; exact h)
        rw [List.set_set] at this
        exact this
      have c1_1 : wr.cell? ⟨g, j * 4 + 1, none⟩ = some (.int .i64 num) := by
        have := S0.out.cell j 1 (HLn.out _) (by decide)
        rw [HAt.out] at this
        exact this
      have fr1_1 : wr.frozen? ⟨g, j * 4 + 1, none⟩ = false := S0.out.free _
      have S2 : Hid (MarkSt NdR w VS ((wr.setCell ⟨g, j * 4, none⟩ (.int .i64 ((m : Nat) : Int))).setCell ⟨g, j * 4 + 1, none⟩ (.int .i64 ((m + 1 : Nat) : Int))) B g n cap (C.set j ((⟨((m : Nat) : Int), ((m + 1 : Nat) : Int), name, kids⟩ : Nd), v0))) := by
        have := S1.out.field j 1 (HLn.out _) (by decide) ((⟨((m : Nat) : Int), ((m + 1 : Nat) : Int), name, kids⟩ : Nd), v0) (.int .i64 ((m + 1 : Nat) : Int)) (by rw [HAt.out]; rfl) (by rw [HAt.out]; rfl) (fun W B h => by rw [HAt.out] at h; exact h)
        rw [List.set_set] at this
        exact this
      clear S1
      go_wp2_with fail
      clear c0_0 fr0_0 c1_1 fr1_1 S0
      go_at_call 34
      refine (markText_any (m + 2) _ (by omega) (by omega)).mono ?_
      rintro e' w1 ⟨rfl, hbc⟩
      obtain ⟨T0, HT0⟩ : ∃ T, Hid (mkT (m + 2) = T) := ⟨_, (rfl : mkT (m + 2) = mkT (m + 2))⟩
      rw [HT0.out]
      have S3 : Hid (MarkSt NdR w VS w1 B g n cap (C.set j ((⟨((m : Nat) : Int), ((m + 1 : Nat) : Int), name, kids⟩ : Nd), v0))) := S2.out.below hbc
      clear hbc S2
      have c3_2 : w1.cell? ⟨g, j * 4 + 2, none⟩ = some (.string name) := by
        have := S3.out.cell j 2 (HLn.out _) (by decide)
        rw [HAt.out] at this
        exact this
      have fr3_2 : w1.frozen? ⟨g, j * 4 + 2, none⟩ = false := S3.out.free _
      have S4 : Hid (MarkSt NdR w VS (w1.setCell ⟨g, j * 4 + 2, none⟩ (.string T0)) B g n cap (C.set j ((⟨((m : Nat) : Int), ((m + 1 : Nat) : Int), T0, kids⟩ : Nd), v0))) := by
        have := S3.out.field j 2 (HLn.out _) (by decide) ((⟨((m : Nat) : Int), ((m + 1 : Nat) : Int), T0, kids⟩ : Nd), v0) (.string T0) (by rw [HAt.out]; rfl) (by rw [HAt.out]; rfl) (fun W B h => by rw [HAt.out] at h; exact h)
        rw [List.set_set] at this
        exact this
      have c4_3 : w1.cell? ⟨g, j * 4 + 3, none⟩ = some (v0) := by
        have := S3.out.cell j 3 (HLn.out _) (by decide)
        rw [HAt.out] at this
        exact this
      go_wp2_with fail
      clear c3_2 fr3_2 c4_3 S3
      have hsub : OwnsI (w1.setCell ⟨g, j * 4 + 2, none⟩ (.string T0)) B v0 kids := by
        have := S4.out.phys.2 _ (List.getElem_mem (HLn.out _))
        rw [HAt.out] at this
        exact this
      go_at_call 35
      refine (markIntS_any B v0 (m + 3) kids _ (by first | omega | (rw [← lnI_len]; omega)) hsub).mono ?_
      rintro e' w2 ⟨rfl, hsub2, hk⟩
      obtain ⟨X3, HX3⟩ : ∃ X, Hid (markL mkI lnI (m + 3) kids = X) := ⟨_, (rfl : markL mkI lnI (m + 3) kids = _)⟩
      rw [HX3.out] at hsub2
      obtain ⟨m2, Hm2⟩ : ∃ x, Hid (m + 3 + kids.length = x) := ⟨_, (rfl : m + 3 + kids.length = _)⟩
      rw [Hm2.out]
      have hm2a : m2 + 0 ≤ 1000000000 := by rw [← Hm2.out]; first | omega | (rw [← lnI_len]; omega)
      have hm2b : 0 < m2 := by have := Hm2.out; omega
      have S5 : Hid (MarkSt NdR w VS w2 B g n cap (C.set j ((⟨((m : Nat) : Int), ((m + 1 : Nat) : Int), T0, X3⟩ : Nd), v0))) := by
        have := S4.out.inner j (HLn.out _) ((⟨((m : Nat) : Int), ((m + 1 : Nat) : Int), T0, X3⟩ : Nd), v0) (by rw [HAt.out]; rfl) (by rw [HAt.out]; rfl) (by rw [HAt.out]; exact hk) hsub2
        rw [List.set_set] at this
        exact this
      clear hsub hsub2 hk S4
      have HF : Hid (MarkSt NdR w VS w2 B g n cap (markTo mkNdP lnNdP k ps (j + 1))) := by
        have h1 := HST.out ((⟨((m : Nat) : Int), ((m + 1 : Nat) : Int), T0, X3⟩ : Nd), v0) (by
          simp only [mkNdP, mkNd]
          rw [← HT0.out, ← HX3.out]; try rw [← Hm2.out]
          try rw [lnI_len]
          try rfl)
        rw [← h1]
        exact S5.out
      have HE : Hid (m2 = k + markN lnNdP (ps.take (j + 1))) := by
        show _ = _
        rw [← HNX.out, ← Hm2.out]
        simp only [lnNdP, lnNd, lnI_len]
        try omega
      clear S5
      go_wp2
      go_roundw
      case rel => exact ⟨j + 1, m2, by omega, by go_num, by go_num, HE, HF⟩
      case measure => simp [intOf]; omega
    · have hjn : Hid (j = n) := (by omega : j = n)
      have HE : Hid (m = k + markN lnNdP ps) := by show _ = _; rw [HM.out, List.take_of_length_le (by have := HN.out; have := hjn.out; omega)]
      have HF : Hid (MarkSt NdR w VS wr B g n cap (markL mkNdP lnNdP k ps)) := by
        have := H0.out
        rw [markTo_all mkNdP lnNdP k ps j (by have := HN.out; have := hjn.out; omega)] at this
        exact this
      go_wp2
      go_ret
      exact ⟨by rw [← HE.out]; rfl, HF.out.phys, HF.out.kept⟩
theorem markNodeS_none (ao : Option Addr) (c : Nat) (k : Int) (w : World) :
    Calls Try.prog 15 #[.slice ao 0 c, .int .i64 k] w fun e w' => e = .returned (.int .i64 k) ∧ w' = w := by
  go_enter Try.func15, Try.ntmps15
  go_wp2
  refine wp_loop_rounds 1 ?_
  rw [rounds_succ]
  go_wp2
  go_ret
  exact ⟨rfl, rfl⟩
theorem markNodeS_any (B : Nat) (v : Value) (k : Nat) (ps : List (Nd × Value)) (w : World) (hb : k + markN lnNdP ps ≤ 1000000000) (hk0 : 0 < k) (hown : NdR.Phys w B v ps) (hA : (fps (NdR.all v ps)).Nodup) :
    Calls Try.prog 15 #[v, .int .i64 (k : Int)] w fun e' w' => e' = .returned (.int .i64 ((k + markN lnNdP ps : Nat) : Int)) ∧ NdR.Phys w' B v (markL mkNdP lnNdP k ps) ∧ Kept (NdR.all v ps) w w' := by
  rcases OwnsR.form hown.1 with ⟨rfl, rfl⟩ | ⟨g, cap, rfl, _, _⟩
  · refine (markNodeS_none none 0 k w).mono ?_
    rintro e' w' ⟨rfl, rfl⟩
    exact ⟨rfl, hown, Kept.refl _ _⟩
  · exact markNodeS_some B g cap k _ ps w rfl hb hk0 hown hA

end Go.Proofs.Ytehdaliebloglaa

namespace Go.Proofs.Ytehdaliebloglaa
open Go.RowKit

def mkFc (k : Nat) (x : Fc) : Fc := ⟨mkT (k), markL mkPm lnPm (k + 1) x.params, (((k + 1 + markN lnPm x.params) : Nat) : Int), (((k + 1 + markN lnPm x.params) + 1 : Nat) : Int), (((k + 1 + markN lnPm x.params) + 2 : Nat) : Int)⟩
def lnFc (x : Fc) : Nat := (0 + 1 + markN lnPm x.params) + 3
def mkFcP (k : Nat) (p : Fc × Value) : Fc × Value := (mkFc k p.1, p.2)
def lnFcP (p : Fc × Value) : Nat := lnFc p.1

set_option maxRecDepth 100000 in
set_option maxHeartbeats 3200000 in
theorem markFnS_some (B g cap k n : Nat) (ps : List (Fc × Value)) (w : World) (HN : Hid (n = ps.length)) (hb : k + markN lnFcP ps ≤ 1000000000) (hk0 : 0 < k) (hown : FcR.Phys w B (.slice (some ⟨g, 0, none⟩) n cap) ps) (hA : (fps (FcR.all (.slice (some ⟨g, 0, none⟩) n cap) ps)).Nodup) :
    Calls Try.prog 33 #[.slice (some ⟨g, 0, none⟩) n cap, .int .i64 (k : Int)] w fun e' w' => e' = .returned (.int .i64 ((k + markN lnFcP ps : Nat) : Int)) ∧ FcR.Phys w' B (.slice (some ⟨g, 0, none⟩) n cap) (markL mkFcP lnFcP k ps) ∧ Kept (FcR.all (.slice (some ⟨g, 0, none⟩) n cap) ps) w w' := by
  have hnl : n ≤ 1000000000 := by have h1 := len_markN lnFcP (fun p => by unfold lnFcP lnFc; omega) ps; have := HN.out; omega
  obtain ⟨VS, HVS⟩ : ∃ VS, Hid (FcR.all (.slice (some ⟨g, 0, none⟩) n cap) ps = VS) := ⟨_, (rfl : FcR.all (.slice (some ⟨g, 0, none⟩) n cap) ps = FcR.all (.slice (some ⟨g, 0, none⟩) n cap) ps)⟩
  have HO : Hid (MarkSt FcR w VS w B g n cap (markTo mkFcP lnFcP k ps 0)) := by
    rw [markTo_zero]
    exact ⟨hown, HVS.out, by rw [← HVS.out]; exact hA, HN.out, Kept.refl _ _⟩
  rw [HVS.out]
  clear hown hA
  go_enter Try.func33, Try.ntmps33
  go_wp2
  go_loopw [1, 5] (fun kk i wr => ∃ (j m : Nat), j ≤ n ∧ i = .int .i64 (j : Int) ∧ kk = .int .i64 (m : Int) ∧ Hid (m = k + markN lnFcP (ps.take j)) ∧ Hid (MarkSt FcR w VS wr B g n cap (markTo mkFcP lnFcP k ps j)))
    (fun _ i _ => n - (intOf i).toNat)
  case atStart => exact ⟨0, k, Nat.zero_le _, rfl, rfl, by show _ = _; simp [markN], HO⟩
  case round =>
    obtain ⟨j, m, hj, rfl, rfl, HM, H0⟩ := hrel
    clear HO
    by_cases hlt : j < n
    · have hj0 : (0 : Int) ≤ (j : Int) := by omega
      have hj1 : (j : Int) < (n : Int) := by omega
      have hjp : j < ps.length := by have := HN.out; omega
      have hm0 : 0 < m := by have := HM.out; omega
      obtain ⟨q, hq⟩ : ∃ q, Hid (ps[j] = q) := ⟨_, (rfl : ps[j] = ps[j])⟩
      have hmb : m + lnFcP q ≤ 1000000000 := by
        have h1 := markN_take lnFcP ps j hjp
        have h2 := markN_take_le lnFcP ps (j + 1)
        have := HM.out
        rw [hq.out] at h1
        omega
      have HNX : Hid (m + lnFcP q = k + markN lnFcP (ps.take (j + 1))) := by
        show _ = _
        rw [markN_take lnFcP ps j hjp, hq.out, HM.out, Nat.add_assoc]
      have HST : Hid (∀ y, y = mkFcP m q → (markTo mkFcP lnFcP k ps j).set j y = markTo mkFcP lnFcP k ps (j + 1)) := fun y hy => markTo_step mkFcP lnFcP k ps j hjp y (by rw [hy, hq.out, HM.out])
      have hCl : j < (markTo mkFcP lnFcP k ps j).length := by rw [markTo_len]; exact hjp
      have hC0 : (markTo mkFcP lnFcP k ps j).set j q = markTo mkFcP lnFcP k ps j := by
        have := markTo_at mkFcP lnFcP k ps j hjp
        rw [hq.out] at this
        rw [← this]
        exact List.set_getElem_self hCl
      obtain ⟨C, hC⟩ : ∃ C, Hid (markTo mkFcP lnFcP k ps j = C) := ⟨_, (rfl : markTo mkFcP lnFcP k ps j = markTo mkFcP lnFcP k ps j)⟩
      rw [hC.out] at H0 HST hCl hC0
      have hl : ∀ y, j < (C.set j y).length := fun y => by rw [List.length_set]; exact hCl
      have HLn : Hid (∀ y, j < (C.set j y).length) := hl
      have HAt : Hid (∀ y, (C.set j y)[j]'(HLn.out y) = y) := fun y => List.getElem_set_self _
      obtain ⟨⟨name, params, res, body, ret⟩, v0⟩ := q
      have S0 : Hid (MarkSt FcR w VS wr B g n cap (C.set j ((⟨name, params, res, body, ret⟩ : Fc), v0))) := by rw [hC0]; exact H0.out
      simp only [lnFcP, lnFc] at hmb
      clear H0 hC0 hl hCl
      go_wp2_with fail
      go_at_call 34
      refine (markText_any (m) _ (by omega) (by omega)).mono ?_
      rintro e' w1 ⟨rfl, hbc⟩
      obtain ⟨T0, HT0⟩ : ∃ T, Hid (mkT (m) = T) := ⟨_, (rfl : mkT (m) = mkT (m))⟩
      rw [HT0.out]
      have S1 : Hid (MarkSt FcR w VS w1 B g n cap (C.set j ((⟨name, params, res, body, ret⟩ : Fc), v0))) := S0.out.below hbc
      clear hbc S0
      have c1_0 : w1.cell? ⟨g, j * 5, none⟩ = some (.string name) := by
        have := S1.out.cell j 0 (HLn.out _) (by decide)
        rw [HAt.out] at this
        exact this
      have fr1_0 : w1.frozen? ⟨g, j * 5, none⟩ = false := S1.out.free _
      have S2 : Hid (MarkSt FcR w VS (w1.setCell ⟨g, j * 5, none⟩ (.string T0)) B g n cap (C.set j ((⟨T0, params, res, body, ret⟩ : Fc), v0))) := by
        have := S1.out.field j 0 (HLn.out _) (by decide) ((⟨T0, params, res, body, ret⟩ : Fc), v0) (.string T0) (by rw [HAt.out]; rfl) (by rw [HAt.out]; rfl) (fun W B h => by rw [HAt.out] at h; exact h)
        rw [List.set_set] at this
        exact this
      have c2_1 : w1.cell? ⟨g, j * 5 + 1, none⟩ = some (v0) := by
        have := S1.out.cell j 1 (HLn.out _) (by decide)
        rw [HAt.out] at this
        exact this
      go_wp2_with fail
      clear c1_0 fr1_0 c2_1 S1
      have hsub : PmR.Phys (w1.setCell ⟨g, j * 5, none⟩ (.string T0)) B v0 params := by
        have := S2.out.phys.2 _ (List.getElem_mem (HLn.out _))
        rw [HAt.out] at this
        exact this
      go_at_call 53
      refine (markParamS_any B v0 (m + 1) params _ (by omega) (by omega) hsub (by rw [all_flatPm]; exact fp_nodup v0)).mono ?_
      rintro e' w2 ⟨rfl, hsub2, hk⟩
      obtain ⟨X1, HX1⟩ : ∃ X, Hid (markL mkPm lnPm (m + 1) params = X) := ⟨_, (rfl : markL mkPm lnPm (m + 1) params = _)⟩
      rw [HX1.out] at hsub2
      obtain ⟨m2, Hm2⟩ : ∃ x, Hid (m + 1 + markN lnPm params = x) := ⟨_, (rfl : m + 1 + markN lnPm params = _)⟩
      rw [Hm2.out]
      have hm2a : m2 + 3 ≤ 1000000000 := by rw [← Hm2.out]; omega
      have hm2b : 0 < m2 := by have := Hm2.out; omega
      have S3 : Hid (MarkSt FcR w VS w2 B g n cap (C.set j ((⟨T0, X1, res, body, ret⟩ : Fc), v0))) := by
        have := S2.out.inner j (HLn.out _) ((⟨T0, X1, res, body, ret⟩ : Fc), v0) (by rw [HAt.out]; rfl) (by rw [HAt.out]; rfl) (by rw [HAt.out]; exact (by rw [all_flatPm] at hk; exact hk)) hsub2
        rw [List.set_set] at this
        exact this
      clear hsub hsub2 hk S2
      have c3_2 : w2.cell? ⟨g, j * 5 + 2, none⟩ = some (.int .i64 res) := by
        have := S3.out.cell j 2 (HLn.out _) (by decide)
        rw [HAt.out] at this
        exact this
      have fr3_2 : w2.frozen? ⟨g, j * 5 + 2, none⟩ = false := S3.out.free _
      have S4 : Hid (MarkSt FcR w VS (w2.setCell ⟨g, j * 5 + 2, none⟩ (.int .i64 ((m2 : Nat) : Int))) B g n cap (C.set j ((⟨T0, X1, ((m2 : Nat) : Int), body, ret⟩ : Fc), v0))) := by
        have := S3.out.field j 2 (HLn.out _) (by decide) ((⟨T0, X1, ((m2 : Nat) : Int), body, ret⟩ : Fc), v0) (.int .i64 ((m2 : Nat) : Int)) (by rw [HAt.out]; rfl) (by rw [HAt.out]; rfl) (fun W B h => by rw [HAt.out] at h; exact h)
        rw [List.set_set] at this
        exact this
      have c4_3 : w2.cell? ⟨g, j * 5 + 3, none⟩ = some (.int .i64 body) := by
        have := S3.out.cell j 3 (HLn.out _) (by decide)
        rw [HAt.out] at this
        exact this
      have fr4_3 : w2.frozen? ⟨g, j * 5 + 3, none⟩ = false := S3.out.free _
      have S5 : Hid (MarkSt FcR w VS ((w2.setCell ⟨g, j * 5 + 2, none⟩ (.int .i64 ((m2 : Nat) : Int))).setCell ⟨g, j * 5 + 3, none⟩ (.int .i64 ((m2 + 1 : Nat) : Int))) B g n cap (C.set j ((⟨T0, X1, ((m2 : Nat) : Int), ((m2 + 1 : Nat) : Int), ret⟩ : Fc), v0))) := by
        have := S4.out.field j 3 (HLn.out _) (by decide) ((⟨T0, X1, ((m2 : Nat) : Int), ((m2 + 1 : Nat) : Int), ret⟩ : Fc), v0) (.int .i64 ((m2 + 1 : Nat) : Int)) (by rw [HAt.out]; rfl) (by rw [HAt.out]; rfl) (fun W B h => by rw [HAt.out] at h; exact h)
        rw [List.set_set] at this
        exact this
      clear S4
      have c5_4 : w2.cell? ⟨g, j * 5 + 4, none⟩ = some (.int .i64 ret) := by
        have := S3.out.cell j 4 (HLn.out _) (by decide)
        rw [HAt.out] at this
        exact this
      have fr5_4 : w2.frozen? ⟨g, j * 5 + 4, none⟩ = false := S3.out.free _
      have S6 : Hid (MarkSt FcR w VS (((w2.setCell ⟨g, j * 5 + 2, none⟩ (.int .i64 ((m2 : Nat) : Int))).setCell ⟨g, j * 5 + 3, none⟩ (.int .i64 ((m2 + 1 : Nat) : Int))).setCell ⟨g, j * 5 + 4, none⟩ (.int .i64 ((m2 + 2 : Nat) : Int))) B g n cap (C.set j ((⟨T0, X1, ((m2 : Nat) : Int), ((m2 + 1 : Nat) : Int), ((m2 + 2 : Nat) : Int)⟩ : Fc), v0))) := by
        have := S5.out.field j 4 (HLn.out _) (by decide) ((⟨T0, X1, ((m2 : Nat) : Int), ((m2 + 1 : Nat) : Int), ((m2 + 2 : Nat) : Int)⟩ : Fc), v0) (.int .i64 ((m2 + 2 : Nat) : Int)) (by rw [HAt.out]; rfl) (by rw [HAt.out]; rfl) (fun W B h => by rw [HAt.out] at h; exact h)
        rw [List.set_set] at this
        exact this
      clear S5
      have HF : Hid (MarkSt FcR w VS (((w2.setCell ⟨g, j * 5 + 2, none⟩ (.int .i64 ((m2 : Nat) : Int))).setCell ⟨g, j * 5 + 3, none⟩ (.int .i64 ((m2 + 1 : Nat) : Int))).setCell ⟨g, j * 5 + 4, none⟩ (.int .i64 ((m2 + 2 : Nat) : Int))) B g n cap (markTo mkFcP lnFcP k ps (j + 1))) := by
        have h1 := HST.out ((⟨T0, X1, ((m2 : Nat) : Int), ((m2 + 1 : Nat) : Int), ((m2 + 2 : Nat) : Int)⟩ : Fc), v0) (by
          simp only [mkFcP, mkFc]
          rw [← HT0.out, ← HX1.out]; try rw [← Hm2.out]
          try rw [lnI_len]
          try rfl)
        rw [← h1]
        exact S6.out
      have HE : Hid (m2 + 3 = k + markN lnFcP (ps.take (j + 1))) := by
        show _ = _
        rw [← HNX.out, ← Hm2.out]
        simp only [lnFcP, lnFc]
        try omega
      clear S6 S3
      go_wp2
      go_roundw
      case rel => exact ⟨j + 1, m2 + 3, by omega, by go_num, by go_num, HE, HF⟩
      case measure => simp [intOf]; omega
    · have hjn : Hid (j = n) := (by omega : j = n)
      have HE : Hid (m = k + markN lnFcP ps) := by show _ = _; rw [HM.out, List.take_of_length_le (by have := HN.out; have := hjn.out; omega)]
      have HF : Hid (MarkSt FcR w VS wr B g n cap (markL mkFcP lnFcP k ps)) := by
        have := H0.out
        rw [markTo_all mkFcP lnFcP k ps j (by have := HN.out; have := hjn.out; omega)] at this
        exact this
      go_wp2
      go_ret
      exact ⟨by rw [← HE.out]; rfl, HF.out.phys, HF.out.kept⟩
theorem markFnS_none (ao : Option Addr) (c : Nat) (k : Int) (w : World) :
    Calls Try.prog 33 #[.slice ao 0 c, .int .i64 k] w fun e w' => e = .returned (.int .i64 k) ∧ w' = w := by
  go_enter Try.func33, Try.ntmps33
  go_wp2
  refine wp_loop_rounds 1 ?_
  rw [rounds_succ]
  go_wp2
  go_ret
  exact ⟨rfl, rfl⟩
theorem markFnS_any (B : Nat) (v : Value) (k : Nat) (ps : List (Fc × Value)) (w : World) (hb : k + markN lnFcP ps ≤ 1000000000) (hk0 : 0 < k) (hown : FcR.Phys w B v ps) (hA : (fps (FcR.all v ps)).Nodup) :
    Calls Try.prog 33 #[v, .int .i64 (k : Int)] w fun e' w' => e' = .returned (.int .i64 ((k + markN lnFcP ps : Nat) : Int)) ∧ FcR.Phys w' B v (markL mkFcP lnFcP k ps) ∧ Kept (FcR.all v ps) w w' := by
  rcases OwnsR.form hown.1 with ⟨rfl, rfl⟩ | ⟨g, cap, rfl, _, _⟩
  · refine (markFnS_none none 0 k w).mono ?_
    rintro e' w' ⟨rfl, rfl⟩
    exact ⟨rfl, hown, Kept.refl _ _⟩
  · exact markFnS_some B g cap k _ ps w rfl hb hk0 hown hA

end Go.Proofs.Ytehdaliebloglaa

namespace Go.Proofs.Ytehdaliebloglaa
open Go.RowKit

/-- Only blocks B .. H may have turned; new ones may be there. -/
structure Rim (B H : Nat) (w w' : World) : Prop where
  os : w'.os = w.os
  tape : w'.tape = w.tape
  output : w'.output = w.output
  size : w.heap.size ≤ w'.heap.size
  block : ∀ g, g < w.heap.size → g < B ∨ H ≤ g → w'.heap[g]? = w.heap[g]?
theorem Rim.refl (B H : Nat) (w : World) : Rim B H w w := ⟨rfl, rfl, rfl, Nat.le_refl _, fun _ _ _ => rfl⟩
theorem Rim.trans {B H : Nat} {a b c : World} (h : Rim B H a b) (k : Rim B H b c) : Rim B H a c :=
  ⟨k.os.trans h.os, k.tape.trans h.tape, k.output.trans h.output, Nat.le_trans h.size k.size, fun g hg hn => (k.block g (Nat.lt_of_lt_of_le hg h.size) hn).trans (h.block g hg hn)⟩
theorem Rim.of_kept {vs : List Value} {B H : Nat} {w w' : World} (h : Kept vs w w') (hf : ∀ g ∈ fps vs, B ≤ g ∧ g < H) : Rim B H w w' :=
  ⟨h.os, h.tape, h.output, h.size, fun g hg hn => h.block g hg (fun hm => by have := hf g hm; omega)⟩
theorem Rim.of_below {B H : Nat} {w w' : World} (h : Below w.heap.size w w') : Rim B H w w' := ⟨h.os, h.tape, h.output, h.size, fun g hg _ => h.block g hg⟩
theorem Rim.below {B H : Nat} {w w' : World} (h : Rim B H w w') (hB : B ≤ w.heap.size) : Below B w w' := ⟨h.os, h.tape, h.output, h.size, fun g hg => h.block g (by omega) (.inl hg)⟩

theorem markN_sz {α : Type} (ln sz : α → Nat) (h : ∀ x, ln x ≤ 4 + 4 * sz x) : ∀ xs : List α, markN ln xs ≤ 4 * szRow sz xs := by
  intro xs
  induction xs with
  | nil => exact Nat.zero_le _
  | cons x xs ih =>
    have := h x
    unfold szRow at ih ⊢
    simp only [markN, List.length_cons, List.map_cons, List.sum_cons]
    omega
theorem lnNd_sz (ns : List Nd) : markN lnNd ns ≤ 4 * szRow szNd ns := markN_sz lnNd szNd (fun x => by unfold lnNd szNd; rw [lnI_len]; omega) ns
theorem lnPm_sz (ps : List Pm) : markN lnPm ps ≤ 4 * szRow szPm ps := markN_sz lnPm szPm (fun x => by unfold lnPm; omega) ps
theorem lnFc_sz (fs : List Fc) : markN lnFc fs ≤ 4 * szRow szFc fs := markN_sz lnFc szFc (fun x => by unfold lnFc szFc; have := lnPm_sz x.params; omega) fs
theorem lnNdP_map (ps : List (Nd × Value)) : markN lnNdP ps = markN lnNd (ps.map Prod.fst) := markN_map (ln' := lnNd) (log := Prod.fst) (fun _ => rfl) ps
theorem lnFcP_map (ps : List (Fc × Value)) : markN lnFcP ps = markN lnFc (ps.map Prod.fst) := markN_map (ln' := lnFc) (log := Prod.fst) (fun _ => rfl) ps

set_option maxRecDepth 100000 in
set_option maxHeartbeats 1600000 in
theorem markProgram_any (B H : Nat) (v0 v1 : Value) (p : Pg) (w : World) (hO : OwnPg w B H v0 v1 p) (hH : H ≤ w.heap.size) (hl : szPg p ≤ 1048576) :
    Calls Try.prog 14 #[.agg #[v0, v1], .int .i64 1] w fun e w' => (∃ r : Nat, e = .returned (.int .i64 (r : Int)) ∧ r ≤ 10000000 ∧ 0 < r) ∧ Rim B H w w' := by
  obtain ⟨M, hBM, hMH, hN, hF⟩ := hO
  obtain ⟨ps, hps, hpp, hpn, hpb⟩ := hN
  obtain ⟨fs, hfs, hfp, hfn, hfb⟩ := hF
  have hb1 : 1 + markN lnNdP ps + markN lnFcP fs ≤ 10000000 := by
    have h1 := lnNd_sz p.nodes
    have h2 := lnFc_sz p.fns
    have e1 : markN lnNdP ps = markN lnNd p.nodes := by rw [lnNdP_map, ← hps]; rfl
    have e2 : markN lnFcP fs = markN lnFc p.fns := by rw [lnFcP_map, ← hfs]; rfl
    rw [e1, e2]
    unfold szPg at hl
    omega
  have cN : Hid (∀ W, Below w.heap.size w W → Calls Try.prog 15 #[v0, .int .i64 ((1 : Nat) : Int)] W fun e' w' => e' = .returned (.int .i64 ((1 + markN lnNdP ps : Nat) : Int)) ∧ NdR.Phys w' B v0 (markL mkNdP lnNdP 1 ps) ∧ Kept (NdR.all v0 ps) W w') := fun W hW =>
    markNodeS_any B v0 1 ps W (by omega) (by omega) (hpp.below hW) hpn
  have cF : Hid (∀ W, FcR.Phys W M v1 fs → Calls Try.prog 33 #[v1, .int .i64 ((1 + markN lnNdP ps : Nat) : Int)] W fun e' w' => e' = .returned (.int .i64 ((1 + markN lnNdP ps + markN lnFcP fs : Nat) : Int)) ∧ FcR.Phys w' M v1 (markL mkFcP lnFcP (1 + markN lnNdP ps) fs) ∧ Kept (FcR.all v1 fs) W w') := fun W hW =>
    markFnS_any M v1 (1 + markN lnNdP ps) fs W (by omega) (by omega) hW hfn
  obtain ⟨k1, hk1⟩ : ∃ k, Hid (1 + markN lnNdP ps = k) := ⟨_, (rfl : 1 + markN lnNdP ps = _)⟩
  rw [hk1.out] at cN cF hb1
  obtain ⟨k2, hk2⟩ : ∃ k, Hid (k1 + markN lnFcP fs = k) := ⟨_, (rfl : k1 + markN lnFcP fs = _)⟩
  rw [hk2.out] at cF hb1
  have HP : Hid (FcR.Phys w M v1 fs ∧ (∀ g ∈ fps (NdR.all v0 ps), B ≤ g ∧ g < M) ∧ ∀ g ∈ fps (FcR.all v1 fs), M ≤ g ∧ g < H) := ⟨hfp, hpb, hfb⟩
  clear hpp hpn hpb hfp hfn hfb hps hfs
  go_enter Try.func14, Try.ntmps14
  go_wp2_with fail
  go_at_call 15
  refine Calls.mono (cN.out _ (by go_grown)) ?_
  rintro e w1 ⟨rfl, _, hk⟩
  have R1 : Hid (Rim B H w w1) := (Rim.of_below ((Below.refl _ _).alloc (Nat.le_refl _) _)).trans (Rim.of_kept hk (fun g hg => by have := HP.out.2.1 g hg; omega))
  have P1 : Hid (FcR.Phys w1 M v1 fs) := (HP.out.1.below ((Below.refl _ _).alloc (Nat.le_refl _) _)).kept hk (fun g hg hm => by have := HP.out.2.1 g hm; have := HP.out.2.2 g hg; omega)
  have q1 : w1.cell? ⟨w.heap.size, 1, none⟩ = some v1 := by
    have h0 := hk.block w.heap.size (by simp) (fun hm => by have := HP.out.2.1 _ hm; omega)
    exact cell_at (h0.trans (heap_alloc_new _ _)) 1
  clear hk cN
  go_wp2_with fail
  go_at_call 33
  refine Calls.mono (cF.out _ P1.out) ?_
  rintro e w2 ⟨rfl, _, hk⟩
  have R2 : Hid (Rim B H w w2) := R1.out.trans (Rim.of_kept hk (fun g hg => by have := HP.out.2.2 g hg; omega))
  clear hk cF q1
  go_wp2
  go_ret
  exact ⟨⟨_, rfl, hb1, by have := hk1.out; have := hk2.out; omega⟩, R2.out⟩

end Go.Proofs.Ytehdaliebloglaa

namespace Go.Proofs.Ytehdaliebloglaa
open Go.RowKit

set_option maxRecDepth 100000 in
set_option maxHeartbeats 3200000 in
theorem heldNodeS_any (B : Nat) (v : Value) (k : Nat) (xs : List Nd) (w : World) (hB : B ≤ w.heap.size) (hb : k + markN lnNd xs ≤ 1000000000) (hk0 : 0 < k) (hv : NdR.Row w B v (markL mkNd lnNd k xs)) :
    Calls Try.prog 16 #[v, .int .i64 (k : Int)] w fun e' w' => e' = .returned (.int .i64 ((k + markN lnNd xs : Nat) : Int)) ∧ Below w.heap.size w w' := by
  obtain ⟨a, cap, rfl⟩ := hv.len
  obtain ⟨n, HN⟩ : ∃ n, Hid (n = xs.length) := ⟨_, (rfl : xs.length = xs.length)⟩
  rw [markL_len, ← HN.out] at hv ⊢
  have hnl : n ≤ 1000000000 := by have h1 := len_markN lnNd (fun p => by unfold lnNd; omega) xs; have := HN.out; omega
  have HV : Hid (NdR.Row w B (.slice a n cap) (markL mkNd lnNd k xs)) := hv
  clear hv
  go_enter Try.func16, Try.ntmps16
  go_wp2
  go_loopw [1, 5] (fun kk i wr => ∃ (j m : Nat), j ≤ n ∧ i = .int .i64 (j : Int) ∧ kk = .int .i64 (m : Int) ∧ Hid (m = k + markN lnNd (xs.take j)) ∧ Below w.heap.size w wr)
    (fun _ i _ => n - (intOf i).toNat)
  case atStart => exact ⟨0, k, Nat.zero_le _, rfl, rfl, by show _ = _; simp [markN], Below.refl _ _⟩
  case round =>
    obtain ⟨j, m, hj, rfl, rfl, HM, hnx⟩ := hrel
    have hsz := hnx.size
    by_cases hlt : j < n
    · have hj0 : (0 : Int) ≤ (j : Int) := by omega
      have hj1 : (j : Int) < (n : Int) := by omega
      have hjx : j < xs.length := by have := HN.out; omega
      have hm0 : 0 < m := by have := HM.out; omega
      obtain ⟨b, off, v0, rfl, hbB, c0, c1, c2, c3, r0⟩ := NdR.at HV.out j (by rw [markL_len]; exact hjx)
      rw [markL_at mkNd lnNd xs k j hjx, ← HM.out] at c0 c1 c2 r0
      have hmb : m + lnNd xs[j] ≤ 1000000000 := by
        have h1 := markN_take lnNd xs j hjx
        have h2 := markN_take_le lnNd xs (j + 1)
        have := HM.out
        omega
      have HNX : Hid (m + lnNd xs[j] = k + markN lnNd (xs.take (j + 1))) := by
        show _ = _
        rw [markN_take lnNd xs j hjx, HM.out, Nat.add_assoc]
      obtain ⟨x, hx⟩ : ∃ x, Hid (xs[j] = x) := ⟨_, (rfl : xs[j] = xs[j])⟩
      rw [hx.out] at c0 c1 c2 r0 hmb HNX
      simp only [mkNd] at c0 c1 c2 r0
      simp only [lnNd] at hmb
      have hbr : b < wr.heap.size := by omega
      have d0 := (hnx.cell (p := ⟨b, off + j * 4, none⟩) (by show b < _; omega)).trans c0
      have d1 := (hnx.cell (p := ⟨b, off + j * 4 + 1, none⟩) (by show b < _; omega)).trans c1
      have d2 := (hnx.cell (p := ⟨b, off + j * 4 + 2, none⟩) (by show b < _; omega)).trans c2
      have d3 := (hnx.cell (p := ⟨b, off + j * 4 + 3, none⟩) (by show b < _; omega)).trans c3
      clear c0 c1 c2 c3
      have HB0 : Hid (Below w.heap.size w wr) := hnx
      clear hnx
      obtain ⟨s2, hs2⟩ : ∃ s, Hid (mkT (m + 2) = s) := ⟨_, (rfl : mkT (m + 2) = mkT (m + 2))⟩
      rw [hs2.out] at d2
      go_wp2_with fail
      go_region_held3 (fun w' => w'.cell? ⟨b, off + j * 4 + 2, none⟩ = some (.string s2)) (first | go_keep | (show _ = _; rw [hbc.cell (p := ⟨b, off + j * 4 + 2, none⟩) hbr]; assumption)) ((go_at_call 34; refine (markText_any (m + 2) _ ?_ ?_).mono ?_; omega; omega; rw [hs2.out]; rintro e' w1 ⟨rfl, hbc⟩))
      all_goals
        have HB1 : Hid (Below w.heap.size w w1) := HB0.out.trans ((Below.refl _ _).drew.trans (hbc.mono HB0.out.size))
        have hlt1 : b < w1.heap.size := Nat.lt_of_lt_of_le hbr hbc.size
        have d1_3 := (hbc.cell (p := ⟨b, off + j * 4 + 3, none⟩) hbr).trans d3
        clear hbc d2 d3
        obtain ⟨m2, Hm2⟩ : ∃ y, Hid (m + 3 + x.kids.length = y) := ⟨_, (rfl : m + 3 + x.kids.length = _)⟩
        have cR3 : Hid (∀ W, Below w.heap.size w W → Calls Try.prog 36 #[v0, .int .i64 ((m + 3 : Nat) : Int)] W fun e' w' => e' = .returned (.int .i64 (m2 : Int)) ∧ Below W.heap.size W w') := fun W hW => by
          rw [← Hm2.out]
          exact heldIntS_any B _ (m + 3) x.kids W (Nat.le_trans hB hW.size) (by first | omega | (rw [← lnI_len]; omega)) (r0.keep (hW.mono hB))
        have hm2b : m2 + 0 ≤ 1000000000 := by rw [← Hm2.out]; first | omega | (rw [← lnI_len]; omega)
        have hm2p : 0 < m2 := by have := Hm2.out; omega
        have hm2n : ¬ (m2 : Int) < 0 := by omega
        go_wp2_with fail
        go_at_call 36
        refine Calls.mono (cR3.out _ HB1.out) ?_
        rintro e' w2 ⟨rfl, hbc⟩
        have HB2 : Hid (Below w.heap.size w w2) := HB1.out.trans (hbc.mono HB1.out.size)
        have hlt2 : b < w2.heap.size := Nat.lt_of_lt_of_le hlt1 hbc.size
        clear hbc cR3 d1_3
        have HE : Hid (m2 = k + markN lnNd (xs.take (j + 1))) := by
          show _ = _
          rw [← HNX.out, ← Hm2.out]
          simp only [lnNd, lnI_len]
          try omega
        have HBe : Hid (Below w.heap.size w w2) := HB2.out
        clear HB2 hlt2
        go_wp2
        go_roundw
        case rel => exact ⟨j + 1, m2, by omega, by go_num, by go_num, HE, HBe.out⟩
        case measure => simp [intOf]; omega
    · have hjn : Hid (j = n) := (by omega : j = n)
      have HE : Hid (m = k + markN lnNd xs) := by show _ = _; rw [HM.out, List.take_of_length_le (by have := HN.out; have := hjn.out; omega)]
      go_wp2
      go_ret
      exact ⟨by rw [← HE.out]; rfl, hnx⟩

end Go.Proofs.Ytehdaliebloglaa

namespace Go.Proofs.Ytehdaliebloglaa
open Go.RowKit

set_option maxRecDepth 100000 in
set_option maxHeartbeats 1600000 in
theorem eqNodeS_each (B : Nat) (va vb : Value) (xs : List Nd) (w : World) (hB : B ≤ w.heap.size) (ha : NdR.Row w B va xs) (hb : NdR.Row w B vb xs) (hN : xs.length ≤ 1048576) (hl : ∀ q ∈ xs, szNd q ≤ 1048576) :
    Calls Try.prog 12 #[va, vb] w fun e w' => e = .returned (.bool true) ∧ Below w.heap.size w w' := by
  obtain ⟨a, ca, rfl⟩ := ha.len
  obtain ⟨b, cb, rfl⟩ := hb.len
  obtain ⟨N, HN⟩ : ∃ N, Hid (xs.length = N) := ⟨_, (rfl : xs.length = xs.length)⟩
  have H : Hid (NdR.Row w B (.slice a N ca) xs ∧ NdR.Row w B (.slice b N cb) xs) := by rw [← HN.out]; exact ⟨ha, hb⟩
  have HS : Hid (∀ q ∈ xs, szNd q ≤ 1048576) := hl
  rw [HN.out] at hN ⊢
  clear ha hb hl
  go_enter Try.func12, Try.ntmps12
  go_wp2
  go_loopw [5] (fun i wr => ∃ k : Nat, k ≤ N ∧ i = .int .i64 (k : Int) ∧ Below w.heap.size w wr) (fun i _ => N - (intOf i).toNat)
  case atStart => exact ⟨0, Nat.zero_le _, rfl, Below.refl _ _⟩
  case round =>
    obtain ⟨k, hk, rfl, hbw⟩ := hrel
    by_cases hlt : k < N
    · have hk1 : (k : Int) < (N : Int) := by omega
      have hk0 : (0 : Int) ≤ (k : Int) := by omega
      have hkl : k < xs.length := by have := HN.out; omega
      obtain ⟨ba, oa, a0, rfl, hba, c0, c1, c2, c3, ra0⟩ := NdR.at H.out.1 k hkl
      obtain ⟨bb, ob, b0, rfl, hbb, e0, e1, e2, e3, rb0⟩ := NdR.at H.out.2 k hkl
      have hq : szNd xs[k] ≤ 1048576 := HS.out _ (List.getElem_mem hkl)
      obtain ⟨q, hqe⟩ : ∃ q, Hid (xs[k] = q) := ⟨_, (rfl : xs[k] = xs[k])⟩
      rw [hqe.out] at c0 c1 c2 e0 e1 e2 ra0 rb0 hq
      have cQ : Hid (∀ W, Below w.heap.size w W → Calls Try.prog 31 #[.agg #[.int .i64 q.kind, .int .i64 q.num, .string q.name, a0], .agg #[.int .i64 q.kind, .int .i64 q.num, .string q.name, b0]] W fun e w' => e = .returned (.bool true) ∧ Below W.heap.size W w') := fun W hW =>
        eqNode_same B q _ _ W (Nat.le_trans hB hW.size) (ra0.keep (hW.mono hB)) (rb0.keep (hW.mono hB)) hq
      obtain ⟨kind, num, name, kids⟩ := q
      simp only at c0 c1 c2 e0 e1 e2 cQ
      clear hq ra0 rb0
      have hba1 : ba < wr.heap.size := by have := hbw.size; omega
      have hbb1 : bb < wr.heap.size := by have := hbw.size; omega
      have d0 := (hbw.cell (p := ⟨ba, oa + k * 4, none⟩) (by show ba < _; omega)).trans c0
      have f0 := (hbw.cell (p := ⟨bb, ob + k * 4, none⟩) (by show bb < _; omega)).trans e0
      have d1 := (hbw.cell (p := ⟨ba, oa + k * 4 + 1, none⟩) (by show ba < _; omega)).trans c1
      have f1 := (hbw.cell (p := ⟨bb, ob + k * 4 + 1, none⟩) (by show bb < _; omega)).trans e1
      have d2 := (hbw.cell (p := ⟨ba, oa + k * 4 + 2, none⟩) (by show ba < _; omega)).trans c2
      have f2 := (hbw.cell (p := ⟨bb, ob + k * 4 + 2, none⟩) (by show bb < _; omega)).trans e2
      have d3 := (hbw.cell (p := ⟨ba, oa + k * 4 + 3, none⟩) (by show ba < _; omega)).trans c3
      have f3 := (hbw.cell (p := ⟨bb, ob + k * 4 + 3, none⟩) (by show bb < _; omega)).trans e3
      clear c0 c1 c2 c3 e0 e1 e2 e3
      go_wp2_with fail
      go_region_held3 (fun w' => (w'.cell? ⟨ba, oa + k * 4, none⟩ = some (.int .i64 kind) ∧ w'.cell? ⟨ba, oa + k * 4 + 1, none⟩ = some (.int .i64 num) ∧ w'.cell? ⟨ba, oa + k * 4 + 2, none⟩ = some (.string name) ∧ w'.cell? ⟨ba, oa + k * 4 + 3, none⟩ = some (a0)) ∧ (w'.cell? ⟨bb, ob + k * 4, none⟩ = some (.int .i64 kind) ∧ w'.cell? ⟨bb, ob + k * 4 + 1, none⟩ = some (.int .i64 num) ∧ w'.cell? ⟨bb, ob + k * 4 + 2, none⟩ = some (.string name) ∧ w'.cell? ⟨bb, ob + k * 4 + 3, none⟩ = some (b0))) (first | exact ⟨⟨d0, d1, d2, d3⟩, ⟨f0, f1, f2, f3⟩⟩ | exact ⟨⟨(hb1.cell (p := ⟨ba, oa + k * 4, none⟩) hba1).trans d0, (hb1.cell (p := ⟨ba, oa + k * 4 + 1, none⟩) hba1).trans d1, (hb1.cell (p := ⟨ba, oa + k * 4 + 2, none⟩) hba1).trans d2, (hb1.cell (p := ⟨ba, oa + k * 4 + 3, none⟩) hba1).trans d3⟩, ⟨(hb1.cell (p := ⟨bb, ob + k * 4, none⟩) hbb1).trans f0, (hb1.cell (p := ⟨bb, ob + k * 4 + 1, none⟩) hbb1).trans f1, (hb1.cell (p := ⟨bb, ob + k * 4 + 2, none⟩) hbb1).trans f2, (hb1.cell (p := ⟨bb, ob + k * 4 + 3, none⟩) hbb1).trans f3⟩⟩) ((go_at_call 31; refine Calls.mono (cQ.out _ hbw.drew) ?_; rintro e w1 ⟨rfl, hb1⟩))
      all_goals
        go_wp2
        go_roundw
        case rel => exact ⟨k + 1, by omega, by go_num, hbw.drew.trans (hb1.mono hbw.size)⟩
        case measure => simp [intOf]; omega
    · go_wp2
      go_ret
      exact ⟨rfl, hbw⟩

end Go.Proofs.Ytehdaliebloglaa

namespace Go.Proofs.Ytehdaliebloglaa

/-- A node that was copied off one of a row. -/
def OffRow (ns : List Nd) (q : Nd) : Prop := ∃ n ∈ ns, q.name = n.name ∧ q.kids.length = n.kids.length
theorem packL_from {ns : List Nd} {f : Int → List Nd → Option (List Nd × Int)} (hf : ∀ c tt r, f c tt = some r → ∃ qs, r.1 = tt ++ qs ∧ ∀ q ∈ qs, OffRow ns q) : ∀ (cs : List Int) (tt : List Nd) (r : List Nd × List Int), packL f cs tt = some r → ∃ qs, r.1 = tt ++ qs ∧ ∀ q ∈ qs, OffRow ns q := by
  intro cs
  induction cs with
  | nil => intro tt r h; simp [packL] at h; subst h; exact ⟨[], by simp, by simp⟩
  | cons c cs ih =>
    intro tt r h
    simp only [packL, Option.bind_eq_some_iff] at h
    obtain ⟨r1, h1, s, h2, h3⟩ := h
    cases h3
    obtain ⟨q1, e1, p1⟩ := hf c tt r1 h1
    obtain ⟨q2, e2, p2⟩ := ih r1.1 s h2
    refine ⟨q1 ++ q2, by rw [e2, e1, List.append_assoc], fun q hq => ?_⟩
    rcases List.mem_append.mp hq with h | h
    · exact p1 q h
    · exact p2 q h
theorem pack_from (ns : List Nd) : ∀ (d : Nat) (k : Int) (tt : List Nd) (r : List Nd × Int), pack ns d k tt = some r → ∃ qs, r.1 = tt ++ qs ∧ ∀ q ∈ qs, OffRow ns q := by
  intro d
  induction d with
  | zero => intro k tt r h; simp [pack] at h
  | succ d ih =>
    intro k tt r h
    simp only [pack] at h
    split at h
    · rename_i hin
      simp only [Option.bind_eq_some_iff] at h
      obtain ⟨s, h1, h2⟩ := h
      split at h2
      · cases h2
      · cases h2
        obtain ⟨qs, e1, p1⟩ := packL_from ih _ _ _ h1
        have hl := (packL_len (fun c tt r hr => Nat.le_of_lt (pack_pre ns d c tt r hr).1) _ _ _ h1).2
        have hk : k.toNat < ns.length := by simp [isIn] at hin; omega
        refine ⟨qs ++ [_], by simp only [e1, List.append_assoc]; rfl, fun q hq => ?_⟩
        rcases List.mem_append.mp hq with h | h
        · exact p1 q h
        · have : q = ⟨(ns.getD k.toNat nd0).kind, (ns.getD k.toNat nd0).num, (ns.getD k.toNat nd0).name, s.2⟩ := by simpa using h
          subst this
          refine ⟨ns[k.toNat], List.getElem_mem hk, ?_, ?_⟩
          · simp [List.getD, hk]
          · have h5 : ns.getD k.toNat nd0 = ns[k.toNat] := by simp [List.getD, hk]
            rw [h5] at hl
            exact hl
    · cases h

end Go.Proofs.Ytehdaliebloglaa
