/-
  The model's SameEnding, and the program's, over two rows of numbers each.
-/
import Derived.Test.YtabejilnpblogaaRowEnd
namespace Go.Proofs.Ytabejilnpblogaa
open Go.RowKit

theorem rows_eq {xs ys : List Int} {N : Nat} (hx : xs.length = N) (hy : ys.length = N) (h : ∀ j (h1 : j < xs.length) (h2 : j < ys.length), xs[j] = ys[j]) : xs = ys :=
  List.ext_getElem (by omega) h
theorem bool_of {z : Bool} {P : Prop} (h : z = true ↔ P) (hP : P) : z = true := h.mpr hP
theorem bool_no {z : Bool} {P : Prop} (h : z = true ↔ P) (hP : ¬ P) : z = false := by
  cases z
  · rfl
  · exact absurd (h.mp rfl) hP

set_option maxRecDepth 100000 in
set_option maxHeartbeats 1600000 in
theorem specSameEnding_any (va vb : Value) (p q : En) (z : Bool) (w : World) (ha : RowI w w.heap.size va p.out) (hb : RowI w w.heap.size vb q.out) (hlp : p.out.length ≤ 1048576) (hlq : q.out.length ≤ 1048576) (hz : z = true ↔ (p.stop = q.stop ∧ p.out = q.out)) :
    Calls Try.prog 36 #[.agg #[va, .int .i64 p.stop], .agg #[vb, .int .i64 q.stop]] w fun e w' => e = .returned (.bool z) ∧ Below w.heap.size w w' := by
  obtain ⟨a, ca, rfl⟩ := ha.len
  obtain ⟨b, cb, rfl⟩ := hb.len
  obtain ⟨xs, ps⟩ := p
  obtain ⟨ys, qs⟩ := q
  simp only at ha hb hlp hlq hz ⊢
  obtain ⟨N, HN⟩ : ∃ N, Hid (xs.length = N) := ⟨_, (rfl : xs.length = xs.length)⟩
  obtain ⟨M, HM⟩ : ∃ N, Hid (ys.length = N) := ⟨_, (rfl : ys.length = ys.length)⟩
  have H : Hid (RowI w w.heap.size (.slice a N ca) xs ∧ RowI w w.heap.size (.slice b M cb) ys) := by rw [← HN.out, ← HM.out]; exact ⟨ha, hb⟩
  rw [HN.out] at hlp ⊢
  rw [HM.out] at hlq ⊢
  have HZ : Hid (z = true ↔ (ps = qs ∧ xs = ys)) := hz
  clear ha hb hz
  by_cases h1 : ps = qs
  rotate_left
  · obtain rfl : z = false := bool_no HZ.out (fun h => h1 h.1)
    go_enter Try.func36, Try.ntmps36
    go_wp2
    go_ret
    exact ⟨rfl, by go_grown⟩
  subst h1
  by_cases h2 : N = M
  rotate_left
  · obtain rfl : z = false := bool_no HZ.out (fun h => h2 (by rw [← HN.out, ← HM.out, h.2]))
    have h3 : ¬ (N : Int) = (M : Int) := by omega
    go_enter Try.func36, Try.ntmps36
    go_wp2
    go_ret
    exact ⟨rfl, by go_grown⟩
  subst h2
  go_enter Try.func36, Try.ntmps36
  go_wp2
  go_loopw [5] (fun i wr => ∃ k : Nat, k ≤ N ∧ i = .int .i64 (k : Int) ∧ Below w.heap.size w wr ∧ w.heap.size + 1 < wr.heap.size ∧ (wr.cell? ⟨w.heap.size, 0, none⟩ = some (.slice a N ca)) ∧ (wr.cell? ⟨w.heap.size + 1, 0, none⟩ = some (.slice b N cb)) ∧ Hid (∀ j, j < k → ∀ (h1 : j < xs.length) (h2 : j < ys.length), xs[j] = ys[j])) (fun i _ => N - (intOf i).toNat)
  case atStart => exact ⟨0, Nat.zero_le _, rfl, by go_grown, by simp, by simp, by simp, fun j hj => absurd hj (Nat.not_lt_zero _)⟩
  case round =>
    obtain ⟨k, hk, rfl, hbw, hsz, x0, y0, hpre⟩ := hrel
    by_cases hlt : k < N
    · have hk1 : (k : Int) < (N : Int) := by omega
      have hk0 : (0 : Int) ≤ (k : Int) := by omega
      have hkx : k < xs.length := by have := HN.out; omega
      have hky : k < ys.length := by have := HM.out; omega
      obtain ⟨ba, oa, rfl, hba, c0⟩ := RowI.at H.out.1 k hkx
      obtain ⟨bb, ob, rfl, hbb, e0⟩ := RowI.at H.out.2 k hky
      have d0 := (hbw.cell (p := ⟨ba, oa + k, none⟩) hba).trans c0
      have f0 := (hbw.cell (p := ⟨bb, ob + k, none⟩) hbb).trans e0
      obtain ⟨x, hx⟩ : ∃ x, Hid (xs[k] = x) := ⟨_, (rfl : xs[k] = xs[k])⟩
      obtain ⟨y, hy⟩ : ∃ x, Hid (ys[k] = x) := ⟨_, (rfl : ys[k] = ys[k])⟩
      rw [hx.out] at d0
      rw [hy.out] at f0
      clear c0 e0
      by_cases hxy : x = y
      · subst hxy
        go_wp2_with fail
        go_region
        go_wp2
        go_roundw
        case rel =>
          refine ⟨k + 1, by omega, by go_num, hbw.drew, hsz, x0, y0, ?_⟩
          intro j hj h1 h2
          by_cases e : j = k
          · subst e
            rw [hx.out, hy.out]
          · exact hpre.out j (by omega) h1 h2
        case measure => simp [intOf]; omega
      · obtain rfl : z = false := bool_no HZ.out (fun h => hxy (by rw [← hx.out, ← hy.out]; simp only [h.2]))
        go_wp2_with fail
        go_region
        go_wp2
        go_ret
        exact ⟨rfl, hbw.drew⟩
    · have hk1 : ¬ (k : Int) < (N : Int) := by omega
      have hkN : k = N := by omega
      obtain rfl : z = true := bool_of HZ.out ⟨by first | trivial | rfl, rows_eq HN.out HM.out (fun j h1 h2 => hpre.out j (by have := HN.out; omega) h1 h2)⟩
      go_wp2
      go_ret
      exact ⟨rfl, hbw⟩

set_option maxRecDepth 100000 in
set_option maxHeartbeats 1600000 in
theorem equalInts_any (va vb : Value) (xs ys : List Int) (z : Bool) (w : World) (ha : RowI w w.heap.size va xs) (hb : RowI w w.heap.size vb ys) (hlp : xs.length ≤ 1048576) (hlq : ys.length ≤ 1048576) (hz : z = true ↔ xs = ys) :
    Calls Try.prog 80 #[va, vb] w fun e w' => e = .returned (.bool z) ∧ Below w.heap.size w w' := by
  obtain ⟨a, ca, rfl⟩ := ha.len
  obtain ⟨b, cb, rfl⟩ := hb.len
  obtain ⟨N, HN⟩ : ∃ N, Hid (xs.length = N) := ⟨_, (rfl : xs.length = xs.length)⟩
  obtain ⟨M, HM⟩ : ∃ N, Hid (ys.length = N) := ⟨_, (rfl : ys.length = ys.length)⟩
  have H : Hid (RowI w w.heap.size (.slice a N ca) xs ∧ RowI w w.heap.size (.slice b M cb) ys) := by rw [← HN.out, ← HM.out]; exact ⟨ha, hb⟩
  rw [HN.out] at hlp ⊢
  rw [HM.out] at hlq ⊢
  have HZ : Hid (z = true ↔ xs = ys) := hz
  clear ha hb hz
  by_cases h2 : N = M
  rotate_left
  · obtain rfl : z = false := bool_no HZ.out (fun h => h2 (by rw [← HN.out, ← HM.out, h]))
    have h3 : ¬ (N : Int) = (M : Int) := by omega
    go_enter Try.func80, Try.ntmps80
    go_wp2
    go_ret
    exact ⟨rfl, by go_grown⟩
  subst h2
  go_enter Try.func80, Try.ntmps80
  go_wp2
  go_loopw [13] (fun i wr => ∃ k : Nat, k ≤ N ∧ i = .int .i64 (k : Int) ∧ Below w.heap.size w wr ∧ Hid (∀ j, j < k → ∀ (h1 : j < xs.length) (h2 : j < ys.length), xs[j] = ys[j])) (fun i _ => N - (intOf i).toNat)
  case atStart => exact ⟨0, Nat.zero_le _, rfl, Below.refl _ _, fun j hj => absurd hj (Nat.not_lt_zero _)⟩
  case round =>
    obtain ⟨k, hk, rfl, hbw, hpre⟩ := hrel
    by_cases hlt : k < N
    · have hk1 : (k : Int) < (N : Int) := by omega
      have hk0 : (0 : Int) ≤ (k : Int) := by omega
      have hkx : k < xs.length := by have := HN.out; omega
      have hky : k < ys.length := by have := HM.out; omega
      obtain ⟨ba, oa, rfl, hba, c0⟩ := RowI.at H.out.1 k hkx
      obtain ⟨bb, ob, rfl, hbb, e0⟩ := RowI.at H.out.2 k hky
      have d0 := (hbw.cell (p := ⟨ba, oa + k, none⟩) hba).trans c0
      have f0 := (hbw.cell (p := ⟨bb, ob + k, none⟩) hbb).trans e0
      obtain ⟨x, hx⟩ : ∃ x, Hid (xs[k] = x) := ⟨_, (rfl : xs[k] = xs[k])⟩
      obtain ⟨y, hy⟩ : ∃ x, Hid (ys[k] = x) := ⟨_, (rfl : ys[k] = ys[k])⟩
      rw [hx.out] at d0
      rw [hy.out] at f0
      clear c0 e0
      by_cases hxy : x = y
      · subst hxy
        go_wp2_with fail
        go_region
        go_wp2
        go_roundw
        case rel =>
          refine ⟨k + 1, by omega, by go_num, hbw.drew, ?_⟩
          intro j hj h1 h2
          by_cases e : j = k
          · subst e
            rw [hx.out, hy.out]
          · exact hpre.out j (by omega) h1 h2
        case measure => simp [intOf]; omega
      · obtain rfl : z = false := bool_no HZ.out (fun h => hxy (by rw [← hx.out, ← hy.out]; simp only [h]))
        go_wp2_with fail
        go_region
        go_wp2
        go_ret
        exact ⟨rfl, hbw.drew⟩
    · have hk1 : ¬ (k : Int) < (N : Int) := by omega
      have hkN : k = N := by omega
      obtain rfl : z = true := bool_of HZ.out (rows_eq HN.out HM.out (fun j h1 h2 => hpre.out j (by have := HN.out; omega) h1 h2))
      go_wp2
      go_ret
      exact ⟨rfl, hbw⟩

set_option maxRecDepth 100000 in
set_option maxHeartbeats 1600000 in
theorem implSameEnding_any (va vb : Value) (p q : En) (z : Bool) (w : World) (ha : RowI w w.heap.size va p.out) (hb : RowI w w.heap.size vb q.out) (hlp : p.out.length ≤ 1048576) (hlq : q.out.length ≤ 1048576) (hz : z = true ↔ (p.stop = q.stop ∧ p.out = q.out)) :
    Calls Try.prog 38 #[.agg #[va, .int .i64 p.stop], .agg #[vb, .int .i64 q.stop]] w fun e w' => e = .returned (.bool z) ∧ Below w.heap.size w w' := by
  obtain ⟨a, ca, rfl⟩ := ha.len
  obtain ⟨b, cb, rfl⟩ := hb.len
  obtain ⟨xs, ps⟩ := p
  obtain ⟨ys, qs⟩ := q
  simp only at ha hb hlp hlq hz ⊢
  obtain ⟨y, hy⟩ : ∃ y : Bool, y = true ↔ xs = ys := ⟨decide (xs = ys), by simp⟩
  have cE : Hid (∀ W, Below w.heap.size w W → Calls Try.prog 80 #[.slice a xs.length ca, .slice b ys.length cb] W fun e w' => e = .returned (.bool y) ∧ Below W.heap.size W w') := fun W hW =>
    equalInts_any _ _ xs ys y W ((ha.keep hW).up hW.size) ((hb.keep hW).up hW.size) hlp hlq hy
  obtain ⟨N, HN⟩ : ∃ N, Hid (xs.length = N) := ⟨_, (rfl : xs.length = xs.length)⟩
  obtain ⟨M, HM⟩ : ∃ N, Hid (ys.length = N) := ⟨_, (rfl : ys.length = ys.length)⟩
  rw [HN.out, HM.out] at cE ⊢
  have HZ : Hid (z = true ↔ (ps = qs ∧ xs = ys)) := hz
  have HY : Hid (y = true ↔ xs = ys) := hy
  clear ha hb hz hlp hlq hy
  by_cases h1 : ps = qs
  rotate_left
  · obtain rfl : z = false := bool_no HZ.out (fun h => h1 h.1)
    go_enter Try.func38, Try.ntmps38
    go_wp2
    go_ret
    exact ⟨rfl, by go_grown⟩
  subst h1
  go_enter Try.func38, Try.ntmps38
  go_wp2_with fail
  go_at_call 80
  refine Calls.mono (cE.out _ (by go_grown)) ?_
  rintro e w1 ⟨rfl, hb⟩
  have HB : Hid (Below w.heap.size w w1) := by
    have h0 : Below w.heap.size w ((w.alloc (.cells #[.slice a N ca, .int .i64 ps] 55)).alloc (.cells #[.slice b M cb, .int .i64 ps] 55)) := by go_grown
    exact h0.trans (hb.mono h0.size)
  clear hb cE
  obtain rfl : z = y := by
    have h3 : z = true ↔ y = true := ⟨fun h => HY.out.mpr (HZ.out.mp h).2, fun h => HZ.out.mpr ⟨by first | trivial | rfl, HY.out.mp h⟩⟩
    cases z <;> cases y <;> simp at h3 ⊢
  go_wp2
  go_ret
  exact ⟨rfl, HB.out⟩

end Go.Proofs.Ytabejilnpblogaa
