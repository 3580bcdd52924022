/-
  Rows of nodes held against each other, each node of bounded size.
-/
import Derived.Test.YtjafneaaefpefaaRa
namespace Go.Proofs.Ytjafneaaefpefaa
open Go.RowKit

set_option maxRecDepth 100000 in
set_option maxHeartbeats 1600000 in
theorem eqNodeS_each (B : Nat) (va vb : Value) (xs : List Nd) (w : World) (hB : B ≤ w.heap.size) (ha : NdR.Row w B va xs) (hb : NdR.Row w B vb xs) (hN : xs.length ≤ 1048576) (hl : ∀ q ∈ xs, szNd q ≤ 1048576) :
    Calls Try.prog 23 #[va, vb] w fun e w' => e = .returned (.bool true) ∧ Below w.heap.size w w' := by
  obtain ⟨a, ca, rfl⟩ := ha.len
  obtain ⟨b, cb, rfl⟩ := hb.len
  obtain ⟨N, HN⟩ : ∃ N, Hid (xs.length = N) := ⟨_, (rfl : xs.length = xs.length)⟩
  have H : Hid (NdR.Row w B (.slice a N ca) xs ∧ NdR.Row w B (.slice b N cb) xs) := by rw [← HN.out]; exact ⟨ha, hb⟩
  have HS : Hid (∀ q ∈ xs, szNd q ≤ 1048576) := hl
  rw [HN.out] at hN ⊢
  clear ha hb hl
  go_enter Try.func23, Try.ntmps23
  go_wp2
  go_loopw [5] (fun i wr => ∃ k : Nat, k ≤ N ∧ i = .int .i64 (k : Int) ∧ Below w.heap.size w wr) (fun i _ => N - (intOf i).toNat)
  case atStart => exact ⟨0, Nat.zero_le _, rfl, Below.refl _ _⟩
  case round =>
    obtain ⟨k, hk, rfl, hbw⟩ := hrel
    by_cases hlt : k < N
    · have hk1 : (k : Int) < (N : Int) := by omega
      have hk0 : (0 : Int) ≤ (k : Int) := by omega
      have hkl : k < xs.length := by have := HN.out; omega
      obtain ⟨ba, oa, a0, rfl, hba, c0, c1, c2, c3, ra0⟩ := NdR.at H.out.1 k hkl
      obtain ⟨bb, ob, b0, rfl, hbb, e0, e1, e2, e3, rb0⟩ := NdR.at H.out.2 k hkl
      have hq : szNd xs[k] ≤ 1048576 := HS.out _ (List.getElem_mem hkl)
      obtain ⟨q, hqe⟩ : ∃ q, Hid (xs[k] = q) := ⟨_, (rfl : xs[k] = xs[k])⟩
      rw [hqe.out] at c0 c1 c2 e0 e1 e2 ra0 rb0 hq
      have cQ : Hid (∀ W, Below w.heap.size w W → Calls Try.prog 64 #[.agg #[.int .i64 q.kind, .int .i64 q.num, .string q.name, a0], .agg #[.int .i64 q.kind, .int .i64 q.num, .string q.name, b0]] W fun e w' => e = .returned (.bool true) ∧ Below W.heap.size W w') := fun W hW =>
        eqNode_same B q _ _ W (Nat.le_trans hB hW.size) (ra0.keep (hW.mono hB)) (rb0.keep (hW.mono hB)) hq
      obtain ⟨kind, num, name, kids⟩ := q
      simp only at c0 c1 c2 e0 e1 e2 cQ
      clear hq ra0 rb0
      have hba1 : ba < wr.heap.size := by have := hbw.size; omega
      have hbb1 : bb < wr.heap.size := by have := hbw.size; omega
      have d0 := (hbw.cell (p := ⟨ba, oa + k * 4, none⟩) (by show ba < _; omega)).trans c0
      have f0 := (hbw.cell (p := ⟨bb, ob + k * 4, none⟩) (by show bb < _; omega)).trans e0
      have d1 := (hbw.cell (p := ⟨ba, oa + k * 4 + 1, none⟩) (by show ba < _; omega)).trans c1
      have f1 := (hbw.cell (p := ⟨bb, ob + k * 4 + 1, none⟩) (by show bb < _; omega)).trans e1
      have d2 := (hbw.cell (p := ⟨ba, oa + k * 4 + 2, none⟩) (by show ba < _; omega)).trans c2
      have f2 := (hbw.cell (p := ⟨bb, ob + k * 4 + 2, none⟩) (by show bb < _; omega)).trans e2
      have d3 := (hbw.cell (p := ⟨ba, oa + k * 4 + 3, none⟩) (by show ba < _; omega)).trans c3
      have f3 := (hbw.cell (p := ⟨bb, ob + k * 4 + 3, none⟩) (by show bb < _; omega)).trans e3
      clear c0 c1 c2 c3 e0 e1 e2 e3
      go_wp2_with fail
      go_region_held3 (fun w' => (w'.cell? ⟨ba, oa + k * 4, none⟩ = some (.int .i64 kind) ∧ w'.cell? ⟨ba, oa + k * 4 + 1, none⟩ = some (.int .i64 num) ∧ w'.cell? ⟨ba, oa + k * 4 + 2, none⟩ = some (.string name) ∧ w'.cell? ⟨ba, oa + k * 4 + 3, none⟩ = some (a0)) ∧ (w'.cell? ⟨bb, ob + k * 4, none⟩ = some (.int .i64 kind) ∧ w'.cell? ⟨bb, ob + k * 4 + 1, none⟩ = some (.int .i64 num) ∧ w'.cell? ⟨bb, ob + k * 4 + 2, none⟩ = some (.string name) ∧ w'.cell? ⟨bb, ob + k * 4 + 3, none⟩ = some (b0))) (first | exact ⟨⟨d0, d1, d2, d3⟩, ⟨f0, f1, f2, f3⟩⟩ | exact ⟨⟨(hb1.cell (p := ⟨ba, oa + k * 4, none⟩) hba1).trans d0, (hb1.cell (p := ⟨ba, oa + k * 4 + 1, none⟩) hba1).trans d1, (hb1.cell (p := ⟨ba, oa + k * 4 + 2, none⟩) hba1).trans d2, (hb1.cell (p := ⟨ba, oa + k * 4 + 3, none⟩) hba1).trans d3⟩, ⟨(hb1.cell (p := ⟨bb, ob + k * 4, none⟩) hbb1).trans f0, (hb1.cell (p := ⟨bb, ob + k * 4 + 1, none⟩) hbb1).trans f1, (hb1.cell (p := ⟨bb, ob + k * 4 + 2, none⟩) hbb1).trans f2, (hb1.cell (p := ⟨bb, ob + k * 4 + 3, none⟩) hbb1).trans f3⟩⟩) ((go_at_call 64; refine Calls.mono (cQ.out _ hbw.drew) ?_; rintro e w1 ⟨rfl, hb1⟩))
      all_goals
        go_wp2
        go_roundw
        case rel => exact ⟨k + 1, by omega, by go_num, hbw.drew.trans (hb1.mono hbw.size)⟩
        case measure => simp [intOf]; omega
    · go_wp2
      go_ret
      exact ⟨rfl, hbw⟩

end Go.Proofs.Ytjafneaaefpefaa
