/-
  FnAt, in the model and in the program: what it answers at every program and every name.
-/
import Derived.Test.YtccelfjlffoiiaaRowFn
import Derived.Test.YtccelfjlffoiiaaPlain15
namespace Go.Proofs.Ytccelfjlffoiiaa
open Go.RowKit

set_option maxRecDepth 100000 in
set_option maxHeartbeats 1600000 in
theorem specFnAt_any (B : Nat) (v0 v1 : Value) (fs : List Fc) (nm : ByteArray) (w : World) (hB : B ≤ w.heap.size) (hv : FcR.Row w B v1 fs) (hl : fs.length ≤ 1048576) :
    Calls Try.prog 21 #[.agg #[v0, v1], .string nm] w fun e w' => e = .returned (.int .i64 (fnAt fs nm)) ∧ Below w.heap.size w w' := by
  obtain ⟨a, cap, rfl⟩ := hv.len
  obtain ⟨N, HN⟩ : ∃ N, Hid (fs.length = N) := ⟨_, (rfl : fs.length = fs.length)⟩
  have H : Hid (FcR.Row w B (.slice a N cap) fs) := by rw [← HN.out]; exact hv
  rw [HN.out] at hl ⊢
  clear hv
  go_enter Try.func21, Try.ntmps21
  go_wp2
  go_loopw [5] (fun i wr => ∃ k : Nat, k ≤ N ∧ i = .int .i64 (k : Int) ∧ Hid (∀ j, (hj : j < fs.length) → j < k → sameB fs[j].name nm = false) ∧ Below (w.heap.size + 1) (w.alloc (.cells #[v0, .slice a N cap] 37)) wr) (fun i _ => N - (intOf i).toNat)
  case atStart => exact ⟨0, Nat.zero_le _, rfl, fun j _ hj => by omega, Below.refl _ _⟩
  case round =>
    obtain ⟨k, hk, rfl, HK, hbw⟩ := hrel
    have x1 : wr.cell? ⟨w.heap.size, 1, none⟩ = some (.slice a N cap) := (hbw.cell (p := ⟨w.heap.size, 1, none⟩) (by show _ < _; simp)).trans (by simp)
    have HB : Hid (Below w.heap.size w wr) := by
      refine Below.trans ?_ (hbw.mono (by omega))
      go_grown
    by_cases hlt : k < N
    · have hk1 : (k : Int) < (N : Int) := by omega
      have hk0 : (0 : Int) ≤ (k : Int) := by omega
      have hkl : k < fs.length := by have := HN.out; omega
      obtain ⟨b, off, pv, rfl, hb, c0, c1, c2, c3, c4, _⟩ := FcR.at H.out k hkl
      have d0 := (HB.out.cell (p := ⟨b, off + k * 5, none⟩) (by show b < _; omega)).trans c0
      obtain ⟨q, hqe⟩ : ∃ q, Hid (fs[k].name = q) := ⟨_, (rfl : fs[k].name = fs[k].name)⟩
      rw [hqe.out] at d0
      clear c0 c1 c2 c3 c4
      cases hs : sameB q nm
      · have HK1 : Hid (∀ j, (hj : j < fs.length) → j < k + 1 → sameB fs[j].name nm = false) := fun j hj hjk => by
          by_cases e : j = k
          · subst e
            rw [hqe.out]
            exact hs
          · exact HK.out j hj (by omega)
        unfold sameB at hs
        go_wp2
        go_roundw
        case rel => exact ⟨k + 1, by omega, by go_num, HK1, hbw⟩
        case measure => simp [intOf]; omega
      · have HF : Hid (fnAt fs nm = (k : Int)) := fnAt_at hkl HK.out (by rw [hqe.out]; exact hs)
        unfold sameB at hs
        go_wp2
        go_ret
        exact ⟨by rw [HF.out]; rfl, HB.out⟩
    · have HF : Hid (fnAt fs nm = -1) := fnAt_none (fun j hj => HK.out j hj (by have := HN.out; omega))
      go_wp2
      go_ret
      exact ⟨by rw [HF.out]; rfl, HB.out⟩

set_option maxRecDepth 100000 in
set_option maxHeartbeats 1600000 in
theorem implFnAt_any (B : Nat) (v0 v1 : Value) (fs : List Fc) (nm : ByteArray) (w : World) (hB : B ≤ w.heap.size) (hv : FcR.Row w B v1 fs) (hl : fs.length ≤ 1048576) :
    Calls Try.prog 22 #[.agg #[v0, v1], .string nm] w fun e w' => e = .returned (.int .i64 (fnAt fs nm)) ∧ Below w.heap.size w w' := by
  obtain ⟨a, cap, rfl⟩ := hv.len
  obtain ⟨N, HN⟩ : ∃ N, Hid (fs.length = N) := ⟨_, (rfl : fs.length = fs.length)⟩
  have H : Hid (FcR.Row w B (.slice a N cap) fs) := by rw [← HN.out]; exact hv
  rw [HN.out] at hl ⊢
  clear hv
  go_enter Try.func22, Try.ntmps22
  go_wp2
  go_loopw [10] (fun i wr => ∃ k : Nat, k ≤ N ∧ i = .int .i64 (k : Int) ∧ Hid (∀ j, (hj : j < fs.length) → j < k → sameB fs[j].name nm = false) ∧ Below w.heap.size w wr) (fun i _ => N - (intOf i).toNat)
  case atStart => exact ⟨0, Nat.zero_le _, rfl, fun j _ hj => by omega, by go_grown⟩
  case round =>
    obtain ⟨k, hk, rfl, HK, hbw⟩ := hrel
    by_cases hlt : k < N
    · have hk1 : (k : Int) < (N : Int) := by omega
      have hk0 : (0 : Int) ≤ (k : Int) := by omega
      have hkl : k < fs.length := by have := HN.out; omega
      obtain ⟨b, off, pv, rfl, hb, c0, c1, c2, c3, c4, hp⟩ := FcR.at H.out k hkl
      obtain ⟨pa, pc, rfl⟩ := hp.len
      have d0 := (hbw.cell (p := ⟨b, off + k * 5, none⟩) (by show b < _; omega)).trans c0
      have d1 := (hbw.cell (p := ⟨b, off + k * 5 + 1, none⟩) (by show b < _; omega)).trans c1
      have d2 := (hbw.cell (p := ⟨b, off + k * 5 + 2, none⟩) (by show b < _; omega)).trans c2
      have d3 := (hbw.cell (p := ⟨b, off + k * 5 + 3, none⟩) (by show b < _; omega)).trans c3
      have d4 := (hbw.cell (p := ⟨b, off + k * 5 + 4, none⟩) (by show b < _; omega)).trans c4
      obtain ⟨q, hqe⟩ : ∃ q, Hid (fs[k] = q) := ⟨_, (rfl : fs[k] = fs[k])⟩
      rw [hqe.out] at d0 d1 d2 d3 d4
      clear c0 c1 c2 c3 c4 hp
      obtain ⟨fn, fp, fr, fb, ft⟩ := q
      simp only at d0 d1 d2 d3 d4
      obtain ⟨pl, hpl⟩ : ∃ n, Hid (fp.length = n) := ⟨_, (rfl : fp.length = fp.length)⟩
      rw [hpl.out] at d1
      have hsz := hbw.size
      cases hs : sameB fn nm
      · have HK1 : Hid (∀ j, (hj : j < fs.length) → j < k + 1 → sameB fs[j].name nm = false) := fun j hj hjk => by
          by_cases e : j = k
          · subst e
            rw [hqe.out]
            exact hs
          · exact HK.out j hj (by omega)
        unfold sameB at hs
        go_wp2
        go_roundw
        case rel => exact ⟨k + 1, by omega, by go_num, HK1, hbw.alloc hsz _⟩
        case measure => simp [intOf]; omega
      · have HF : Hid (fnAt fs nm = (k : Int)) := fnAt_at hkl HK.out (by rw [hqe.out]; exact hs)
        unfold sameB at hs
        go_wp2
        go_ret
        exact ⟨by rw [HF.out]; rfl, hbw.alloc hsz _⟩
    · have HF : Hid (fnAt fs nm = -1) := fnAt_none (fun j hj => HK.out j hj (by have := HN.out; omega))
      go_wp2
      go_ret
      exact ⟨by rw [HF.out]; rfl, hbw⟩

end Go.Proofs.Ytccelfjlffoiiaa
