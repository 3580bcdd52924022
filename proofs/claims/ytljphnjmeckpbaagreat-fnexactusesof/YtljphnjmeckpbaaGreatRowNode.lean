/-
  What the laws' helpers answer of rows of Node: held against each other, measured, copied, marked. Written by mkrow.py.
-/
import Derived.Test.YtljphnjmeckpbaaGreatOpen0
import Derived.Test.YtljphnjmeckpbaaGreatPlain14
import Derived.Test.YtljphnjmeckpbaaGreatRows3
import Derived.Handy
import Derived.BigQuiet
import Derived.Deep.QuietTactic
import Derived.Deep.RegionHeld3
namespace Go.Proofs.YtljphnjmeckpbaaGreat
open Go.RowKit

theorem NdR.at {w : World} {B : Nat} {a : Option Addr} {n cap : Nat} {xs : List Nd} (h : NdR.Row w B (.slice a n cap) xs) (i : Nat) (hi : i < xs.length) :
    ∃ b off v0, a = some ⟨b, off, none⟩ ∧ b < B ∧ w.cell? ⟨b, off + i * 4, none⟩ = some (.int .i64 xs[i].kind) ∧ w.cell? ⟨b, off + i * 4 + 1, none⟩ = some (.int .i64 xs[i].num) ∧ w.cell? ⟨b, off + i * 4 + 2, none⟩ = some (.string xs[i].name) ∧ w.cell? ⟨b, off + i * 4 + 3, none⟩ = some (v0) ∧ RowI w B v0 xs[i].kids := by
  obtain ⟨b, off, p, ha, hb, hp, hk, hc⟩ := RowTy.Row.at h i hi
  obtain ⟨q, v0⟩ := p
  obtain rfl : q = xs[i] := hp
  exact ⟨b, off, v0, ha, hb, hc 0 (by decide), hc 1 (by decide), hc 2 (by decide), hc 3 (by decide), hk⟩

set_option maxRecDepth 100000 in
set_option maxHeartbeats 1600000 in
theorem eqNode_same (B : Nat) (q : Nd) (a0 b0 : Value) (w : World) (hB : B ≤ w.heap.size) (ha0 : RowI w B a0 q.kids) (hb0 : RowI w B b0 q.kids) (hl : szNd q ≤ 1048576) :
    Calls Tryz.prog 64 #[.agg #[.int .i64 q.kind, .int .i64 q.num, .string q.name, a0], .agg #[.int .i64 q.kind, .int .i64 q.num, .string q.name, b0]] w fun e w' => e = .returned (.bool true) ∧ Below w.heap.size w w' := by
  have cE0 : Hid (∀ W, Below w.heap.size w W → Calls Tryz.prog 12 #[a0, b0] W fun e w' => e = .returned (.bool true) ∧ Below W.heap.size W w') := fun W hW =>
    eqIntS_same B _ _ q.kids W (Nat.le_trans hB hW.size) (ha0.keep (hW.mono hB)) (hb0.keep (hW.mono hB)) (Nat.le_trans (le_szNd_kids q) hl)
  obtain ⟨kind, num, name, kids⟩ := q
  simp only
  clear hl ha0 hb0
  go_enter Tryz.func64, Tryz.ntmps64
  go_wp2_with fail
  go_at_call 12
  refine Calls.mono (cE0.out _ (by go_grown)) ?_
  rintro e w1 ⟨rfl, hb⟩
  have HB1 : Hid (Below w.heap.size w w1) := by
    have h0 : Below w.heap.size w ((w.alloc (.cells #[.int .i64 kind, .int .i64 num, .string name, a0] 67)).alloc (.cells #[.int .i64 kind, .int .i64 num, .string name, b0] 67)) := by go_grown
    exact h0.trans (hb.mono h0.size)
  have hs1 : ∀ x, x ≤ w.heap.size + 1 → x < w1.heap.size := fun x hx => by have := hb.size; simp at this; omega
  clear hb cE0
  have HS1 : Hid _ := hs1
  clear hs1
  go_wp2
  go_ret
  exact ⟨rfl, HB1.out⟩

set_option maxRecDepth 100000 in
set_option maxHeartbeats 1600000 in
theorem eqNodeS_same (B : Nat) (va vb : Value) (xs : List Nd) (w : World) (hB : B ≤ w.heap.size) (ha : NdR.Row w B va xs) (hb : NdR.Row w B vb xs) (hl : szRow szNd xs ≤ 1048576) :
    Calls Tryz.prog 29 #[va, vb] w fun e w' => e = .returned (.bool true) ∧ Below w.heap.size w w' := by
  obtain ⟨a, ca, rfl⟩ := ha.len
  obtain ⟨b, cb, rfl⟩ := hb.len
  obtain ⟨N, HN⟩ : ∃ N, Hid (xs.length = N) := ⟨_, (rfl : xs.length = xs.length)⟩
  have H : Hid (NdR.Row w B (.slice a N ca) xs ∧ NdR.Row w B (.slice b N cb) xs) := by rw [← HN.out]; exact ⟨ha, hb⟩
  have HS : Hid (szRow szNd xs ≤ 1048576) := hl
  have hN : N ≤ 1048576 := by have := len_szRow szNd xs; have := HN.out; omega
  rw [HN.out]
  clear ha hb hl
  go_enter Tryz.func29, Tryz.ntmps29
  go_wp2
  go_loopw [5] (fun i wr => ∃ k : Nat, k ≤ N ∧ i = .int .i64 (k : Int) ∧ Below w.heap.size w wr) (fun i _ => N - (intOf i).toNat)
  case atStart => exact ⟨0, Nat.zero_le _, rfl, Below.refl _ _⟩
  case round =>
    obtain ⟨k, hk, rfl, hbw⟩ := hrel
    by_cases hlt : k < N
    · have hk1 : (k : Int) < (N : Int) := by omega
      have hk0 : (0 : Int) ≤ (k : Int) := by omega
      have hkl : k < xs.length := by have := HN.out; omega
      obtain ⟨ba, oa, a0, rfl, hba, c0, c1, c2, c3, ra0⟩ := NdR.at H.out.1 k hkl
      obtain ⟨bb, ob, b0, rfl, hbb, e0, e1, e2, e3, rb0⟩ := NdR.at H.out.2 k hkl
      have hq : szNd xs[k] ≤ 1048576 := Nat.le_trans (mem_szRow szNd (List.getElem_mem hkl)) HS.out
      obtain ⟨q, hqe⟩ : ∃ q, Hid (xs[k] = q) := ⟨_, (rfl : xs[k] = xs[k])⟩
      rw [hqe.out] at c0 c1 c2 e0 e1 e2 ra0 rb0 hq
      have cQ : Hid (∀ W, Below w.heap.size w W → Calls Tryz.prog 64 #[.agg #[.int .i64 q.kind, .int .i64 q.num, .string q.name, a0], .agg #[.int .i64 q.kind, .int .i64 q.num, .string q.name, b0]] W fun e w' => e = .returned (.bool true) ∧ Below W.heap.size W w') := fun W hW =>
        eqNode_same B q _ _ W (Nat.le_trans hB hW.size) (ra0.keep (hW.mono hB)) (rb0.keep (hW.mono hB)) hq
      obtain ⟨kind, num, name, kids⟩ := q
      simp only at c0 c1 c2 e0 e1 e2 cQ
      clear hq ra0 rb0
      have hba1 : ba < wr.heap.size := by have := hbw.size; omega
      have hbb1 : bb < wr.heap.size := by have := hbw.size; omega
      have d0 := (hbw.cell (p := ⟨ba, oa + k * 4, none⟩) (by show ba < _; omega)).trans c0
      have f0 := (hbw.cell (p := ⟨bb, ob + k * 4, none⟩) (by show bb < _; omega)).trans e0
      have d1 := (hbw.cell (p := ⟨ba, oa + k * 4 + 1, none⟩) (by show ba < _; omega)).trans c1
      have f1 := (hbw.cell (p := ⟨bb, ob + k * 4 + 1, none⟩) (by show bb < _; omega)).trans e1
      have d2 := (hbw.cell (p := ⟨ba, oa + k * 4 + 2, none⟩) (by show ba < _; omega)).trans c2
      have f2 := (hbw.cell (p := ⟨bb, ob + k * 4 + 2, none⟩) (by show bb < _; omega)).trans e2
      have d3 := (hbw.cell (p := ⟨ba, oa + k * 4 + 3, none⟩) (by show ba < _; omega)).trans c3
      have f3 := (hbw.cell (p := ⟨bb, ob + k * 4 + 3, none⟩) (by show bb < _; omega)).trans e3
      clear c0 c1 c2 c3 e0 e1 e2 e3
      go_wp2_with fail
      go_region_held3 (fun w' => (w'.cell? ⟨ba, oa + k * 4, none⟩ = some (.int .i64 kind) ∧ w'.cell? ⟨ba, oa + k * 4 + 1, none⟩ = some (.int .i64 num) ∧ w'.cell? ⟨ba, oa + k * 4 + 2, none⟩ = some (.string name) ∧ w'.cell? ⟨ba, oa + k * 4 + 3, none⟩ = some (a0)) ∧ (w'.cell? ⟨bb, ob + k * 4, none⟩ = some (.int .i64 kind) ∧ w'.cell? ⟨bb, ob + k * 4 + 1, none⟩ = some (.int .i64 num) ∧ w'.cell? ⟨bb, ob + k * 4 + 2, none⟩ = some (.string name) ∧ w'.cell? ⟨bb, ob + k * 4 + 3, none⟩ = some (b0))) (first | exact ⟨⟨d0, d1, d2, d3⟩, ⟨f0, f1, f2, f3⟩⟩ | exact ⟨⟨(hb1.cell (p := ⟨ba, oa + k * 4, none⟩) hba1).trans d0, (hb1.cell (p := ⟨ba, oa + k * 4 + 1, none⟩) hba1).trans d1, (hb1.cell (p := ⟨ba, oa + k * 4 + 2, none⟩) hba1).trans d2, (hb1.cell (p := ⟨ba, oa + k * 4 + 3, none⟩) hba1).trans d3⟩, ⟨(hb1.cell (p := ⟨bb, ob + k * 4, none⟩) hbb1).trans f0, (hb1.cell (p := ⟨bb, ob + k * 4 + 1, none⟩) hbb1).trans f1, (hb1.cell (p := ⟨bb, ob + k * 4 + 2, none⟩) hbb1).trans f2, (hb1.cell (p := ⟨bb, ob + k * 4 + 3, none⟩) hbb1).trans f3⟩⟩) ((go_at_call 64; refine Calls.mono (cQ.out _ hbw.drew) ?_; rintro e w1 ⟨rfl, hb1⟩))
      all_goals
        go_wp2
        go_roundw
        case rel => exact ⟨k + 1, by omega, by go_num, hbw.drew.trans (hb1.mono hbw.size)⟩
        case measure => simp [intOf]; omega
    · go_wp2
      go_ret
      exact ⟨rfl, hbw⟩

set_option maxRecDepth 100000 in
set_option maxHeartbeats 1600000 in
theorem szNode_sum (B : Nat) (q : Nd) (a0 : Value) (left : Int) (w : World) (hB : B ≤ w.heap.size) (ha0 : RowI w B a0 q.kids) (hok : okNd q) (h0 : 0 ≤ left) (h1 : left ≤ 1048576) :
    Calls Tryz.prog 43 #[.agg #[.int .i64 q.kind, .int .i64 q.num, .string q.name, a0], .int .i64 left] w fun e w' => (∃ r : Int, e = .returned (.int .i64 r) ∧ (r = -1 ∨ (0 ≤ r ∧ r + (szNd q : Int) = left))) ∧ Below w.heap.size w w' := by
  have cS0 : Hid (∀ W l, 0 ≤ l → l ≤ 1048576 → Below w.heap.size w W → Calls Tryz.prog 72 #[a0, .int .i64 l] W fun e w' => (∃ r : Int, e = .returned (.int .i64 r) ∧ (r = -1 ∨ (0 ≤ r ∧ r + (List.length q.kids : Int) = l))) ∧ Below W.heap.size W w') := fun W l hl0 hl1 hW =>
    szIntS_sum B _ q.kids l W (Nat.le_trans hB hW.size) (ha0.keep (hW.mono hB)) (okNd_kids hok) hl0 hl1
  have hs_name : q.name.size ≤ 9223372036854775807 := okNd_name hok
  have HZ : Hid ((szNd q : Int) = (q.name.size : Int) + (List.length q.kids : Int)) := by
    show (_ : Int) = _
    unfold szNd
    push_cast
    rfl
  obtain ⟨kind, num, name, kids⟩ := q
  simp only at *
  obtain ⟨z0, hz0⟩ : ∃ z : Nat, Hid (List.length kids = z) := ⟨_, (rfl : List.length kids = List.length kids)⟩
  rw [hz0.out] at cS0 HZ
  rw [HZ.out]
  clear HZ hok ha0 hz0
  go_enter Tryz.func43, Tryz.ntmps43
  by_cases h_name : left - (name.size : Int) < 0
  · go_wp2
    go_ret
    exact ⟨⟨_, rfl, .inl rfl⟩, by go_grown⟩
  go_wp2_with fail
  go_at_call 72
  refine Calls.mono (cS0.out _ (left - (name.size : Int)) (by omega) (by omega) (by go_grown)) ?_
  rintro e w1 ⟨⟨r1, rfl, hr1⟩, hb⟩
  have HB1 : Hid (Below w.heap.size w w1) := by
    have h0 : Below w.heap.size w (w.alloc (.cells #[.int .i64 kind, .int .i64 num, .string name, a0] 75)) := by go_grown
    exact h0.trans (hb.mono h0.size)
  have hs1 : w.heap.size < w1.heap.size := by have := hb.size; simp at this; omega
  clear hb cS0
  rcases hr1 with rfl | ⟨hr1a, hr1b⟩
  · go_wp2
    go_ret
    exact ⟨⟨_, rfl, .inl rfl⟩, HB1.out⟩
  have hr1n : ¬ r1 < 0 := by omega
  go_wp2
  go_ret
  exact ⟨⟨_, rfl, .inr ⟨by omega, by omega⟩⟩, HB1.out⟩

set_option maxRecDepth 100000 in
set_option maxHeartbeats 1600000 in
theorem szNodeS_sum (B : Nat) (v : Value) (xs : List Nd) (left : Int) (w : World) (hB : B ≤ w.heap.size) (hv : NdR.Row w B v xs) (hok : okRow okNd xs) (h0 : 0 ≤ left) (h1 : left ≤ 1048576) :
    Calls Tryz.prog 16 #[v, .int .i64 left] w fun e w' => (∃ r : Int, e = .returned (.int .i64 r) ∧ (r = -1 ∨ (0 ≤ r ∧ r + (szRow szNd xs : Int) = left))) ∧ Below w.heap.size w w' := by
  obtain ⟨a, cap, rfl⟩ := hv.len
  obtain ⟨N, HN⟩ : ∃ N, Hid (xs.length = N) := ⟨_, (rfl : xs.length = xs.length)⟩
  have H : Hid (NdR.Row w B (.slice a N cap) xs) := by rw [← HN.out]; exact hv
  have HS : Hid (okRow okNd xs) := hok
  have hlen : N ≤ 9223372036854775807 := by rw [← HN.out]; exact hok.1
  rw [HN.out]
  clear hv hok
  by_cases hneg : left - (N : Int) < 0
  · go_enter Tryz.func16, Tryz.ntmps16
    go_wp2
    go_ret
    exact ⟨⟨_, rfl, .inl rfl⟩, Below.refl _ _⟩
  go_enter Tryz.func16, Tryz.ntmps16
  go_wp2
  go_loopw [1, 5] (fun l i wr => ∃ (k : Nat) (r : Int), k ≤ N ∧ i = .int .i64 (k : Int) ∧ l = .int .i64 r ∧ 0 ≤ r ∧ r ≤ 1048576 ∧ Hid (r + (N : Int) + (szTo szNd xs k : Int) = left) ∧ Below w.heap.size w wr) (fun _ i _ => N - (intOf i).toNat)
  case atStart => exact ⟨0, left - (N : Int), Nat.zero_le _, rfl, rfl, by omega, by omega, by show (_ : Int) = _; rw [szTo_zero]; omega, Below.refl _ _⟩
  case round =>
    obtain ⟨k, r, hk, rfl, rfl, hr0, hr1, HR, hbw⟩ := hrel
    by_cases hlt : k < N
    · have hk1 : (k : Int) < (N : Int) := by omega
      have hk0 : (0 : Int) ≤ (k : Int) := by omega
      have hkl : k < xs.length := by have := HN.out; omega
      obtain ⟨b, off, a0, rfl, hb, c0, c1, c2, c3, ra0⟩ := NdR.at H.out k hkl
      have hq := HS.out.2 xs[k] (List.getElem_mem hkl)
      have HQ : Hid (szTo szNd xs (k + 1) = szTo szNd xs k + szNd xs[k]) := szTo_succ szNd xs k hkl
      obtain ⟨q, hqe⟩ : ∃ q, Hid (xs[k] = q) := ⟨_, (rfl : xs[k] = xs[k])⟩
      rw [hqe.out] at c0 c1 c2 ra0 hq HQ
      have d0 := (hbw.cell (p := ⟨b, off + k * 4, none⟩) (by show b < _; omega)).trans c0
      have d1 := (hbw.cell (p := ⟨b, off + k * 4 + 1, none⟩) (by show b < _; omega)).trans c1
      have d2 := (hbw.cell (p := ⟨b, off + k * 4 + 2, none⟩) (by show b < _; omega)).trans c2
      have d3 := (hbw.cell (p := ⟨b, off + k * 4 + 3, none⟩) (by show b < _; omega)).trans c3
      have cQ : Hid (∀ W, Below w.heap.size w W → Calls Tryz.prog 43 #[.agg #[.int .i64 q.kind, .int .i64 q.num, .string q.name, a0], .int .i64 r] W fun e w' => (∃ r' : Int, e = .returned (.int .i64 r') ∧ (r' = -1 ∨ (0 ≤ r' ∧ r' + (szNd q : Int) = r))) ∧ Below W.heap.size W w') := fun W hW => szNode_sum B q _ r W (Nat.le_trans hB hW.size) (ra0.keep (hW.mono hB)) hq hr0 hr1
      clear c0 c1 c2 c3 hq ra0
      go_wp2_with fail
      go_at_call 43
      refine Calls.mono (cQ.out _ hbw) ?_
      rintro e w1 ⟨⟨r', rfl, hr'⟩, hb1⟩
      clear cQ
      rcases hr' with rfl | ⟨hr0', hr2⟩
      · go_wp2
        go_ret
        exact ⟨⟨_, rfl, .inl rfl⟩, hbw.trans (hb1.mono hbw.size)⟩
      · have HR1 : Hid (r' + (N : Int) + (szTo szNd xs (k + 1) : Int) = left) := by
          show (_ : Int) = _
          rw [HQ.out]
          have := HR.out
          push_cast
          omega
        have hr3 : r' ≤ 1048576 := by omega
        have hrn : ¬ r' < 0 := by omega
        clear hr2
        go_wp2
        go_roundw
        case rel => exact ⟨k + 1, r', by omega, by go_num, rfl, hr0', hr3, HR1, hbw.trans (hb1.mono hbw.size)⟩
        case measure => simp [intOf]; omega
    · have hkN : Hid (k = N) := (by omega : k = N)
      have HF : Hid (r + (szRow szNd xs : Int) = left) := by
        show (_ : Int) = _
        have := HR.out
        rw [hkN.out, ← HN.out, szTo_all] at this
        unfold szRow
        push_cast
        omega
      go_wp2
      go_ret
      exact ⟨⟨_, rfl, .inr ⟨hr0, HF.out⟩⟩, hbw⟩

set_option maxRecDepth 100000 in
set_option maxHeartbeats 1600000 in
theorem toNode_any (B : Nat) (q : Nd) (a0 : Value) (w : World) (hB : B ≤ w.heap.size) (ha0 : RowI w B a0 q.kids) (hl : szNd q ≤ 1048576) :
    Calls Tryz.prog 53 #[.agg #[.int .i64 q.kind, .int .i64 q.num, .string q.name, a0]] w fun e w' => ∃ g cap, e = .returned (.agg #[.int .i64 q.kind, .int .i64 q.num, .string q.name, (.slice (some ⟨g, 0, none⟩) q.kids.length cap)]) ∧ OwnsI w' w.heap.size (.slice (some ⟨g, 0, none⟩) q.kids.length cap) q.kids ∧ Below w.heap.size w w' := by
  have cT : Hid (∀ W, Below w.heap.size w W → Calls Tryz.prog 79 #[a0] W fun e w' => ∃ g cap, e = .returned (.slice (some ⟨g, 0, none⟩) q.kids.length cap) ∧ OwnsI w' W.heap.size (.slice (some ⟨g, 0, none⟩) q.kids.length cap) q.kids ∧ Below W.heap.size W w') := fun W hW => by
    refine (toIntS_any B _ q.kids W (Nat.le_trans hB hW.size) (ha0.keep (hW.mono hB)) (Nat.le_trans (le_szNd_kids q) hl)).mono ?_
    rintro e w1 ⟨g, cap, rfl, ho, hb⟩
    exact ⟨g, cap, rfl, ho, hb⟩
  obtain ⟨kind, num, name, kids⟩ := q
  simp only at cT ⊢
  obtain ⟨K, HK⟩ : ∃ K, Hid (kids.length = K) := ⟨_, (rfl : kids.length = kids.length)⟩
  rw [HK.out] at cT ⊢
  clear ha0 hl
  go_enter Tryz.func53, Tryz.ntmps53
  go_wp2_with fail
  go_at_call 79
  refine Calls.mono (cT.out _ (by go_grown)) ?_
  rintro e w1 ⟨g, cap, rfl, ho, hb1⟩
  have hO := (hb1.block (w.heap.size + 2) (by first | (simp; done) | (simp; omega))).trans (third_new w _ _ _)
  have hR := (hb1.block (w.heap.size + 1) (by first | (simp; done) | (simp; omega))).trans (second_new w _ _ _)
  have hA := (hb1.block w.heap.size (by first | (simp; done) | (simp; omega))).trans (first_new w _ _ _)
  have o0 := cell_at hO 0
  have r0 := cell_at hR 0
  have f0 := free_at hR 0
  have o1 := cell_at hO 1
  have r1 := cell_at hR 1
  have f1 := free_at hR 1
  have o2 := cell_at hO 2
  have r2 := cell_at hR 2
  have f2 := free_at hR 2
  have o3 := cell_at hO 3
  have r3 := cell_at hR 3
  have f3 := free_at hR 3
  have p3 := free_at hO 3
  have HE : Hid (∀ u3 v0 v1 v2 v3, (((((w1.setCell ⟨w.heap.size + 2, 3, none⟩ u3).setCell ⟨w.heap.size + 1, 0, none⟩ v0).setCell ⟨w.heap.size + 1, 1, none⟩ v1).setCell ⟨w.heap.size + 1, 2, none⟩ v2).setCell ⟨w.heap.size + 1, 3, none⟩ v3).heap[w.heap.size + 1]? = some (.cells #[v0, v1, v2, v3] 67 (0, 0))) := fun u3 v0 v1 v2 v3 => by
    simp [World.setCell, Array.getElem?_modify, hR]
  have HN : Hid (∀ u3 v0 v1 v2 v3 x, x ≠ w.heap.size + 1 → x ≠ w.heap.size + 2 → (((((w1.setCell ⟨w.heap.size + 2, 3, none⟩ u3).setCell ⟨w.heap.size + 1, 0, none⟩ v0).setCell ⟨w.heap.size + 1, 1, none⟩ v1).setCell ⟨w.heap.size + 1, 2, none⟩ v2).setCell ⟨w.heap.size + 1, 3, none⟩ v3).heap[x]? = w1.heap[x]?) := fun u3 v0 v1 v2 v3 x h1 h2 => by
    simp only [kept_set h1, kept_set h2]
  simp at o0 r0 o1 r1 o2 r2 o3 r3
  have HO : Hid (OwnsI w1 w.heap.size (.slice (some ⟨g, 0, none⟩) K cap) kids ∧ w.heap.size + 3 ≤ g) := by
    have h3 := OwnsR.lt ho g (by simp [fpOf, Value.ownBlock])
    simp at h3
    refine ⟨OwnsR.base ho (fun b hb => ?_), by omega⟩
    have : b = g := by simpa [fpOf, Value.ownBlock] using hb
    omega
  have HB : Hid (Below w.heap.size w w1) := by
    refine Below.trans ?_ (hb1.mono ?_)
    · go_grown
    · simp; omega
  clear hb1 hO hR hA ho cT
  go_wp2
  have e0 := fun u3 v0 v1 v2 v3 => cell_at (HE.out u3 v0 v1 v2 v3) 0
  have e1 := fun u3 v0 v1 v2 v3 => cell_at (HE.out u3 v0 v1 v2 v3) 1
  have e2 := fun u3 v0 v1 v2 v3 => cell_at (HE.out u3 v0 v1 v2 v3) 2
  have e3 := fun u3 v0 v1 v2 v3 => cell_at (HE.out u3 v0 v1 v2 v3) 3
  simp at e0 e1 e2 e3
  refine bodyPost_ret (by simp [results, Tryz.results53, go_sem, e0, e1, e2, e3]; try rfl) rfl ?_
  refine ⟨g, cap, rfl, OwnsR.same HO.out.1 (fun b hb => ?_), ?_⟩
  · have hg := HO.out.2
    have : b = g := by simpa [fpOf, Value.ownBlock] using hb
    subst this
    exact HN.out _ _ _ _ _ b (by omega) (by omega)
  · have h1 := HB.out
    go_grown

theorem Tryz.infoNd : (Tryz.prog.info? 67).map (fun i => (i.zero, i.size, i.bytes)) = some (some (.agg #[.int .i64 0, .int .i64 0, .string ByteArray.empty, .slice none 0 0]), 4, 56) := by kernel_rfl
def ndZ : Nd × Value := (⟨0, 0, ByteArray.empty, []⟩, .slice none 0 0)

set_option maxRecDepth 100000 in
set_option maxHeartbeats 1600000 in
theorem toNodeS_any (B : Nat) (v : Value) (xs : List Nd) (w : World) (hB : B ≤ w.heap.size) (hv : NdR.Row w B v xs) (hl : szRow szNd xs ≤ 1048576) :
    Calls Tryz.prog 23 #[v] w fun e w' => ∃ g cap, e = .returned (.slice (some ⟨g, 0, none⟩) xs.length cap) ∧ NdR.Own w' w.heap.size w'.heap.size (.slice (some ⟨g, 0, none⟩) xs.length cap) xs ∧ Below w.heap.size w w' := by
  obtain ⟨a, cap, rfl⟩ := hv.len
  obtain ⟨N, HN⟩ : ∃ N, Hid (xs.length = N) := ⟨_, (rfl : xs.length = xs.length)⟩
  have H : Hid (NdR.Row w B (.slice a N cap) xs) := by rw [← HN.out]; exact hv
  have HS : Hid (szRow szNd xs ≤ 1048576) := hl
  have hN : N ≤ 1048576 := by have := len_szRow szNd xs; have := HN.out; omega
  rw [HN.out]
  clear hv hl
  obtain ⟨i0, hi, hz0, hz1, hz2⟩ := info_parts Tryz.infoNd
  go_enter Tryz.func23, Tryz.ntmps23
  go_wp2_with (at_make; refine wpList_make_full _ rfl _ _ 28 rfl w.heap.size 67 i0 _ 4 Tryz.underlying28 hi hz0 hz1 _ _ _ _ N rfl rfl (by omega) (by omega) (by rw [hz2]; omega) (by unfold maxLen; omega) (Nat.le_refl _) ?_; intro w0 hown0 hg0)
  clear hi hz0 hz1 hz2
  go_loopw [4] (fun i wr => ∃ k : Nat, k ≤ N ∧ i = .int .i64 (k : Int) ∧ Hid (Made NdR w wr N ndZ xs k) ∧ Below w.heap.size w wr) (fun i _ => N - (intOf i).toNat)
  case atStart =>
    refine ⟨0, Nat.zero_le _, rfl, ?_, (Below.refl _ _).grown hg0 (Nat.le_refl _) (fun k hk => by cases hk)⟩
    show Made _ _ _ _ _ _ _
    refine Made.start xs ?_
    unfold OwnsR
    have hzc := zero_cells (enc := NdR.enc) (k := NdR.k) ndZ (.agg #[.int .i64 0, .int .i64 0, .string ByteArray.empty, .slice none 0 0]) NdR.len (by decide) (by simp [Value.cells, NdR, ndC, ndZ]) N
    rw [List.length_replicate, ← hzc]
    exact hown0
  case round =>
    obtain ⟨k, hk, rfl, HM, hbw⟩ := hrel
    clear hown0 hg0
    by_cases hlt : k < N
    · have hk1 : (k : Int) < (N : Int) := by omega
      have hk0 : (0 : Int) ≤ (k : Int) := by omega
      have hkl : k < xs.length := by have := HN.out; omega
      obtain ⟨ba, oa, a0, rfl, hba, c0, c1, c2, c3, ra0⟩ := NdR.at H.out k hkl
      have hq : szNd xs[k] ≤ 1048576 := Nat.le_trans (mem_szRow szNd (List.getElem_mem hkl)) HS.out
      obtain ⟨q, hqe⟩ : ∃ q, Hid (xs[k] = q) := ⟨_, (rfl : xs[k] = xs[k])⟩
      rw [hqe.out] at c0 c1 c2 ra0 hq
      have d0 := (hbw.cell (p := ⟨ba, oa + k * 4, none⟩) (by show ba < _; omega)).trans c0
      have d1 := (hbw.cell (p := ⟨ba, oa + k * 4 + 1, none⟩) (by show ba < _; omega)).trans c1
      have d2 := (hbw.cell (p := ⟨ba, oa + k * 4 + 2, none⟩) (by show ba < _; omega)).trans c2
      have d3 := (hbw.cell (p := ⟨ba, oa + k * 4 + 3, none⟩) (by show ba < _; omega)).trans c3
      have cT : Hid (∀ W, Below w.heap.size w W → Calls Tryz.prog 53 #[.agg #[.int .i64 q.kind, .int .i64 q.num, .string q.name, a0]] W fun e w' => ∃ g cap, e = .returned (.agg #[.int .i64 q.kind, .int .i64 q.num, .string q.name, (.slice (some ⟨g, 0, none⟩) q.kids.length cap)]) ∧ OwnsI w' W.heap.size (.slice (some ⟨g, 0, none⟩) q.kids.length cap) q.kids ∧ Below W.heap.size W w') := fun W hW =>
        toNode_any B q _ W (Nat.le_trans hB hW.size) (ra0.keep (hW.mono hB)) hq
      clear c0 c1 c2 c3 hq ra0
      go_wp2_with fail
      go_at_call 53
      refine Calls.mono (cT.out _ hbw) ?_
      rintro e w1 ⟨g, gc, rfl, ho, hb1⟩
      have S : Hid (Made NdR w (putCells w1 w.heap.size (k * 4) (ndC (q, .slice (some ⟨g, 0, none⟩) q.kids.length gc))) N ndZ xs (k + 1)) := Made.step HM.out HN.out hlt hb1 (q, .slice (some ⟨g, 0, none⟩) q.kids.length gc) hqe.out.symm ho (by simp [NdR, fps, fpOf, Value.ownBlock])
      clear ho
      obtain ⟨hc, hf⟩ := Made.cells HM.out HN.out hlt hb1
      have z0 : w1.cell? ⟨w.heap.size, k * 4, none⟩ = some (.int .i64 0) := hc 0 (by decide)
      have f0 : w1.frozen? ⟨w.heap.size, k * 4, none⟩ = false := hf _
      have z1 : w1.cell? ⟨w.heap.size, k * 4 + 1, none⟩ = some (.int .i64 0) := hc 1 (by decide)
      have f1 : w1.frozen? ⟨w.heap.size, k * 4 + 1, none⟩ = false := hf _
      have z2 : w1.cell? ⟨w.heap.size, k * 4 + 2, none⟩ = some (.string ByteArray.empty) := hc 2 (by decide)
      have f2 : w1.frozen? ⟨w.heap.size, k * 4 + 2, none⟩ = false := hf _
      have z3 : w1.cell? ⟨w.heap.size, k * 4 + 3, none⟩ = some (.slice none 0 0) := hc 3 (by decide)
      have f3 : w1.frozen? ⟨w.heap.size, k * 4 + 3, none⟩ = false := hf _
      have HB1 : Hid (Below w.heap.size w w1) := hbw.trans (hb1.mono hbw.size)
      clear hc hf hb1 HM cT d0 d1 d2 d3
      go_wp2
      go_roundw
      case rel => exact ⟨k + 1, by omega, by go_num, S, putCells_below (Nat.le_refl _) (ndC (q, _)) _ _ _ HB1.out⟩
      case measure => simp [intOf]; omega
    · have hkN : Hid (k = N) := (by omega : k = N)
      have HF : Hid (NdR.Own wr w.heap.size wr.heap.size (.slice (some ⟨w.heap.size, 0, none⟩) N N) xs) := by
        have := HM.out
        rw [hkN.out] at this
        exact this.done HN.out
      go_wp2
      go_ret
      exact ⟨_, _, rfl, HF.out, hbw⟩

theorem Tryz.structNd : ∃ f0 f1 f2 f3 : Field, Tryz.prog.underlying 75 = some (.struct #[f0, f1, f2, f3]) ∧ f0.offset = 0 ∧ f1.offset = 1 ∧ f2.offset = 2 ∧ f3.offset = 3 ∧ f0.type = 3 ∧ f1.type = 3 ∧ f2.type = 9 ∧ f3.type = 35 := ⟨_, _, _, _, Tryz.underlying75, rfl, rfl, rfl, rfl, rfl, rfl, rfl, rfl⟩
theorem Tryz.cellsNd : Tryz.prog.cellsOf 75 = 4 := by kernel_rfl
theorem Tryz.cellsNds : Tryz.prog.cellsOf 22 = 1 := by kernel_rfl
theorem len_nd {γ : Type} {xs : List γ} (h : xs.length = 4) : ∃ x0 x1 x2 x3, xs = [x0, x1, x2, x3] := by
  match xs, h with
  | [x0, x1, x2, x3], _ => exact ⟨_, _, _, _, rfl⟩

/-- One Node out of its cells. -/
theorem open_nd1 {H : Type} {enc : TypeId × Value → H} {W : World} {fuel : Nat} {cs : List Value} {x : DataW H × List MemPlace}
    (h : DataW.trod enc Tryz.prog W 0 (fun _ => true) true fuel 75 cs = some x) :
    ∃ q : Nd × Value, cs = ndC q ∧ NdR.rsub W W.heap.size q ∧ okNd (NdR.log q) := by
  obtain ⟨f0, f1, f2, f3, hst, o0, o1, o2, o3, t0, t1, t2, t3⟩ := Tryz.structNd
  obtain ⟨xs, k, _, _, hlen, hxl, hf⟩ := DataW.trod_struct hst h
  rw [Tryz.cellsNd] at hlen
  have hxl' : xs.length = 4 := hxl
  obtain ⟨y0, y1, y2, y3, rfl⟩ := len_nd hxl'
  obtain ⟨v0, v1, v2, v3, rfl⟩ := len_nd hlen
  have g0 := hf 0 f0 rfl
  rw [o0, t0, Tryz.cellsInt] at g0
  have g1 := hf 1 f1 rfl
  rw [o1, t1, Tryz.cellsInt] at g1
  have g2 := hf 2 f2 rfl
  rw [o2, t2, Tryz.cellsStr] at g2
  have g3 := hf 3 f3 rfl
  rw [o3, t3, Tryz.cellsInts] at g3
  simp at g0 g1 g2 g3
  obtain ⟨z0, e0, _, w0⟩ := DataW.trod_int Tryz.underlying3 g0
  simp at e0
  subst e0
  obtain ⟨z1, e1, _, w1⟩ := DataW.trod_int Tryz.underlying3 g1
  simp at e1
  subst e1
  obtain ⟨z2, e2, _, w2⟩ := DataW.trod_string Tryz.underlying9 g2
  simp at e2
  subst e2
  have w2' : z2.size ≤ 9223372036854775807 := Nat.le_trans w2 (by unfold maxLen; omega)
  obtain ⟨z3, hr3, hl3, _⟩ := open_rowI g3
  exact ⟨(⟨z0, z1, z2, z3⟩, v3), rfl, hr3, ⟨w2', hl3⟩⟩

theorem open_nds {H : Type} {enc : TypeId × Value → H} {W : World} {fuel : Nat} {v : Value} {x : DataW H × List MemPlace}
    (h : DataW.trod enc Tryz.prog W 0 (fun _ => true) true fuel 22 [v] = some x) :
    ∃ xs : List Nd, NdR.Row W W.heap.size v xs ∧ okRow okNd xs := by
  rcases Deep.open_slice Tryz.underlying22 h with ⟨h0, _⟩ | ⟨ad, len, cap, m, n, D, Pl, hcs, hb, hl, hm, hmm, _, hx⟩
  · simp at h0
    subst h0
    exact ⟨[], NdR.row_nil _ _ _ _, by simp [okRow]⟩
  · simp at hcs
    subst hcs
    simp at hmm
    subst hmm
    have each : ∀ i, i < len → ∃ q : Nd × Value, (∀ j, j < 4 → W.cell? (ad.add (i * 4 + j)) = (ndC q)[j]?) ∧ NdR.rsub W W.heap.size q ∧ okNd (NdR.log q) := by
      intro i hi
      obtain ⟨cs', h1, h2⟩ := hx i (by omega)
      rw [Tryz.cellsNd] at h1
      obtain ⟨_, hlen, hcell⟩ := World.cells?_some h1
      obtain ⟨q, rfl, hs, hk⟩ := open_nd1 h2
      refine ⟨q, fun j hj => ?_, hs, hk⟩
      have c := hcell j hj
      rw [Deep.add_add] at c
      exact c
    obtain ⟨f, hf⟩ := @Deep.choose_lt (Nd × Value) ⟨ndZ⟩ _ _ each
    refine ⟨((List.range len).map f).map NdR.log, ⟨_, rfl, rowR_of f hl (by decide) NdR.len (fun i hi j hj => (hf i hi).1 j hj), ?_⟩, ?_, ?_⟩
    · intro p hp
      obtain ⟨i, hi, rfl⟩ := List.mem_map.mp hp
      exact (hf i (by simpa using hi)).2.1
    · simp
      unfold maxLen at hm
      omega
    · intro x hx
      obtain ⟨p, hp, rfl⟩ := List.mem_map.mp hx
      obtain ⟨i, hi, rfl⟩ := List.mem_map.mp hp
      exact (hf i (by simpa using hi)).2.2

end Go.Proofs.YtljphnjmeckpbaaGreat
