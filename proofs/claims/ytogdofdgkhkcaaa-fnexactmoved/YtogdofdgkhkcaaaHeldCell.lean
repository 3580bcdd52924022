/-
  Rows of Cell that were marked, looked at again, as the laws do it. Written by mkmarkcell.py.
-/
import Derived.Test.YtogdofdgkhkcaaaMarkCell
namespace Go.Proofs.Ytogdofdgkhkcaaa
open Go.RowKit

set_option maxRecDepth 100000 in
set_option maxHeartbeats 3200000 in
theorem heldCellS_any (B : Nat) (v : Value) (k : Nat) (xs : List Ce) (w : World) (hB : B ≤ w.heap.size) (hb : k + markN lnCe xs ≤ 1000000000) (hk0 : 0 < k) (hv : CeR.Row w B v (markL mkCe lnCe k xs)) :
    Calls Try.prog 95 #[v, .int .i64 (k : Int)] w fun e' w' => e' = .returned (.int .i64 ((k + markN lnCe xs : Nat) : Int)) ∧ Below w.heap.size w w' := by
  obtain ⟨a, cap, rfl⟩ := hv.len
  obtain ⟨n, HN⟩ : ∃ n, Hid (n = xs.length) := ⟨_, (rfl : xs.length = xs.length)⟩
  rw [markL_len, ← HN.out] at hv ⊢
  have hnl : n ≤ 1000000000 := by have h1 := len_markN lnCe (fun p => by unfold lnCe; omega) xs; have := HN.out; omega
  have HV : Hid (CeR.Row w B (.slice a n cap) (markL mkCe lnCe k xs)) := hv
  clear hv
  go_enter Try.func95, Try.ntmps95
  go_wp2
  go_loopw [1, 5] (fun kk i wr => ∃ (j m : Nat), j ≤ n ∧ i = .int .i64 (j : Int) ∧ kk = .int .i64 (m : Int) ∧ Hid (m = k + markN lnCe (xs.take j)) ∧ Below w.heap.size w wr)
    (fun _ i _ => n - (intOf i).toNat)
  case atStart => exact ⟨0, k, Nat.zero_le _, rfl, rfl, by show _ = _; simp [markN], Below.refl _ _⟩
  case round =>
    obtain ⟨j, m, hj, rfl, rfl, HM, hnx⟩ := hrel
    have hsz := hnx.size
    by_cases hlt : j < n
    · have hj0 : (0 : Int) ≤ (j : Int) := by omega
      have hj1 : (j : Int) < (n : Int) := by omega
      have hjx : j < xs.length := by have := HN.out; omega
      have hm0 : 0 < m := by have := HM.out; omega
      obtain ⟨b, off, rfl, hbB, c0, c1⟩ := CeR.at HV.out j (by rw [markL_len]; exact hjx)
      rw [markL_at mkCe lnCe xs k j hjx, ← HM.out] at c0 c1
      have hmb : m + lnCe xs[j] ≤ 1000000000 := by
        have h1 := markN_take lnCe xs j hjx
        have h2 := markN_take_le lnCe xs (j + 1)
        have := HM.out
        omega
      have HNX : Hid (m + lnCe xs[j] = k + markN lnCe (xs.take (j + 1))) := by
        show _ = _
        rw [markN_take lnCe xs j hjx, HM.out, Nat.add_assoc]
      obtain ⟨x, hx⟩ : ∃ x, Hid (xs[j] = x) := ⟨_, (rfl : xs[j] = xs[j])⟩
      rw [hx.out] at c0 c1 hmb HNX
      simp only [mkCe] at c0 c1
      simp only [lnCe] at hmb
      have hbr : b < wr.heap.size := by omega
      have d0 := (hnx.cell (p := ⟨b, off + j * 2, none⟩) (by show b < _; omega)).trans c0
      have d1 := (hnx.cell (p := ⟨b, off + j * 2 + 1, none⟩) (by show b < _; omega)).trans c1
      clear c0 c1
      have HB0 : Hid (Below w.heap.size w wr) := hnx
      clear hnx
      rcases mkB_cases m with ⟨hB, h3⟩ | ⟨hB, h3⟩
      · rw [hB] at d0
        clear hB
        have HE : Hid (m + 2 = k + markN lnCe (xs.take (j + 1))) := by
          show _ = _
          rw [← HNX.out]
          simp only [lnCe]
          try omega
        have HBe : Hid (Below w.heap.size w wr) := HB0.out
        clear HB0 
        go_wp2
        go_roundw
        case rel => exact ⟨j + 1, m + 2, by omega, by go_num, by go_num, HE, HBe.out⟩
        case measure => simp [intOf]; omega
      · rw [hB] at d0
        clear hB
        have HE : Hid (m + 2 = k + markN lnCe (xs.take (j + 1))) := by
          show _ = _
          rw [← HNX.out]
          simp only [lnCe]
          try omega
        have HBe : Hid (Below w.heap.size w wr) := HB0.out
        clear HB0 
        go_wp2
        go_roundw
        case rel => exact ⟨j + 1, m + 2, by omega, by go_num, by go_num, HE, HBe.out⟩
        case measure => simp [intOf]; omega
    · have hjn : Hid (j = n) := (by omega : j = n)
      have HE : Hid (m = k + markN lnCe xs) := by show _ = _; rw [HM.out, List.take_of_length_le (by have := HN.out; have := hjn.out; omega)]
      go_wp2
      go_ret
      exact ⟨by rw [← HE.out]; rfl, hnx⟩

end Go.Proofs.Ytogdofdgkhkcaaa
