/-
  Rows of Var that were marked, looked at again, as the laws do it. Written by mkheld.py.
-/
import Derived.Test.YtjafneaaefpefaaMarkVar
namespace Go.Proofs.Ytjafneaaefpefaa
open Go.RowKit

set_option maxRecDepth 100000 in
set_option maxHeartbeats 3200000 in
theorem heldVarS_any (B : Nat) (v : Value) (k : Nat) (xs : List Vr) (w : World) (hB : B ≤ w.heap.size) (hb : k + markN lnVr xs ≤ 1000000000) (hk0 : 0 < k) (hv : VrR.Row w B v (markL mkVr lnVr k xs)) :
    Calls Try.prog 47 #[v, .int .i64 (k : Int)] w fun e' w' => e' = .returned (.int .i64 ((k + markN lnVr xs : Nat) : Int)) ∧ Below w.heap.size w w' := by
  obtain ⟨a, cap, rfl⟩ := hv.len
  obtain ⟨n, HN⟩ : ∃ n, Hid (n = xs.length) := ⟨_, (rfl : xs.length = xs.length)⟩
  rw [markL_len, ← HN.out] at hv ⊢
  have hnl : n ≤ 1000000000 := by have h1 := len_markN lnVr (fun p => by unfold lnVr; omega) xs; have := HN.out; omega
  have HV : Hid (VrR.Row w B (.slice a n cap) (markL mkVr lnVr k xs)) := hv
  clear hv
  go_enter Try.func47, Try.ntmps47
  go_wp2
  go_loopw [1, 5] (fun kk i wr => ∃ (j m : Nat), j ≤ n ∧ i = .int .i64 (j : Int) ∧ kk = .int .i64 (m : Int) ∧ Hid (m = k + markN lnVr (xs.take j)) ∧ Below w.heap.size w wr)
    (fun _ i _ => n - (intOf i).toNat)
  case atStart => exact ⟨0, k, Nat.zero_le _, rfl, rfl, by show _ = _; simp [markN], Below.refl _ _⟩
  case round =>
    obtain ⟨j, m, hj, rfl, rfl, HM, hnx⟩ := hrel
    have hsz := hnx.size
    by_cases hlt : j < n
    · have hj0 : (0 : Int) ≤ (j : Int) := by omega
      have hj1 : (j : Int) < (n : Int) := by omega
      have hjx : j < xs.length := by have := HN.out; omega
      have hm0 : 0 < m := by have := HM.out; omega
      obtain ⟨b, off, rfl, hbB, c0, c1, c2⟩ := VrR.at HV.out j (by rw [markL_len]; exact hjx)
      rw [markL_at mkVr lnVr xs k j hjx, ← HM.out] at c0 c1 c2
      have hmb : m + lnVr xs[j] ≤ 1000000000 := by
        have h1 := markN_take lnVr xs j hjx
        have h2 := markN_take_le lnVr xs (j + 1)
        have := HM.out
        omega
      have HNX : Hid (m + lnVr xs[j] = k + markN lnVr (xs.take (j + 1))) := by
        show _ = _
        rw [markN_take lnVr xs j hjx, HM.out, Nat.add_assoc]
      obtain ⟨x, hx⟩ : ∃ x, Hid (xs[j] = x) := ⟨_, (rfl : xs[j] = xs[j])⟩
      rw [hx.out] at c0 c1 c2 hmb HNX
      simp only [mkVr] at c0 c1 c2
      simp only [lnVr] at hmb
      have hbr : b < wr.heap.size := by omega
      have d0 := (hnx.cell (p := ⟨b, off + j * 3, none⟩) (by show b < _; omega)).trans c0
      have d1 := (hnx.cell (p := ⟨b, off + j * 3 + 1, none⟩) (by show b < _; omega)).trans c1
      have d2 := (hnx.cell (p := ⟨b, off + j * 3 + 2, none⟩) (by show b < _; omega)).trans c2
      clear c0 c1 c2
      have HB0 : Hid (Below w.heap.size w wr) := hnx
      clear hnx
      obtain ⟨s0, hs0⟩ : ∃ s, Hid (mkT (m) = s) := ⟨_, (rfl : mkT (m) = mkT (m))⟩
      rw [hs0.out] at d0
      go_wp2_with fail
      go_region_held3 (fun w' => w'.cell? ⟨b, off + j * 3, none⟩ = some (.string s0)) (first | go_keep | (show _ = _; rw [hbc.cell (p := ⟨b, off + j * 3, none⟩) hbr]; assumption)) ((go_at_call 80; refine (markText_any (m) _ ?_ ?_).mono ?_; omega; omega; rw [hs0.out]; rintro e' w1 ⟨rfl, hbc⟩))
      all_goals
        have HB1 : Hid (Below w.heap.size w w1) := HB0.out.trans ((Below.refl _ _).drew.trans (hbc.mono HB0.out.size))
        have hlt1 : b < w1.heap.size := Nat.lt_of_lt_of_le hbr hbc.size
        have d1_1 := (hbc.cell (p := ⟨b, off + j * 3 + 1, none⟩) hbr).trans d1
        have d1_2 := (hbc.cell (p := ⟨b, off + j * 3 + 2, none⟩) hbr).trans d2
        clear hbc d0 d1 d2
        have HE : Hid (m + 3 = k + markN lnVr (xs.take (j + 1))) := by
          show _ = _
          rw [← HNX.out]
          simp only [lnVr]
          try omega
        have HBe : Hid (Below w.heap.size w w1) := HB1.out
        clear HB1 hlt1
        go_wp2
        go_roundw
        case rel => exact ⟨j + 1, m + 3, by omega, by go_num, by go_num, HE, HBe.out⟩
        case measure => simp [intOf]; omega
    · have hjn : Hid (j = n) := (by omega : j = n)
      have HE : Hid (m = k + markN lnVr xs) := by show _ = _; rw [HM.out, List.take_of_length_le (by have := HN.out; have := hjn.out; omega)]
      go_wp2
      go_ret
      exact ⟨by rw [← HE.out]; rfl, hnx⟩

end Go.Proofs.Ytjafneaaefpefaa
