/-
  Rows of Node that were marked, looked at again, as the laws do it. Written by mkheld.py.
-/
import Derived.Test.YtjafneaaefpefaaMk
namespace Go.Proofs.Ytjafneaaefpefaa
open Go.RowKit

set_option maxRecDepth 100000 in
set_option maxHeartbeats 3200000 in
theorem heldNodeS_any (B : Nat) (v : Value) (k : Nat) (xs : List Nd) (w : World) (hB : B ≤ w.heap.size) (hb : k + markN lnNd xs ≤ 1000000000) (hk0 : 0 < k) (hv : NdR.Row w B v (markL mkNd lnNd k xs)) :
    Calls Try.prog 40 #[v, .int .i64 (k : Int)] w fun e' w' => e' = .returned (.int .i64 ((k + markN lnNd xs : Nat) : Int)) ∧ Below w.heap.size w w' := by
  obtain ⟨a, cap, rfl⟩ := hv.len
  obtain ⟨n, HN⟩ : ∃ n, Hid (n = xs.length) := ⟨_, (rfl : xs.length = xs.length)⟩
  rw [markL_len, ← HN.out] at hv ⊢
  have hnl : n ≤ 1000000000 := by have h1 := len_markN lnNd (fun p => by unfold lnNd; omega) xs; have := HN.out; omega
  have HV : Hid (NdR.Row w B (.slice a n cap) (markL mkNd lnNd k xs)) := hv
  clear hv
  go_enter Try.func40, Try.ntmps40
  go_wp2
  go_loopw [1, 5] (fun kk i wr => ∃ (j m : Nat), j ≤ n ∧ i = .int .i64 (j : Int) ∧ kk = .int .i64 (m : Int) ∧ Hid (m = k + markN lnNd (xs.take j)) ∧ Below w.heap.size w wr)
    (fun _ i _ => n - (intOf i).toNat)
  case atStart => exact ⟨0, k, Nat.zero_le _, rfl, rfl, by show _ = _; simp [markN], Below.refl _ _⟩
  case round =>
    obtain ⟨j, m, hj, rfl, rfl, HM, hnx⟩ := hrel
    have hsz := hnx.size
    by_cases hlt : j < n
    · have hj0 : (0 : Int) ≤ (j : Int) := by omega
      have hj1 : (j : Int) < (n : Int) := by omega
      have hjx : j < xs.length := by have := HN.out; omega
      have hm0 : 0 < m := by have := HM.out; omega
      obtain ⟨b, off, v0, rfl, hbB, c0, c1, c2, c3, r0⟩ := NdR.at HV.out j (by rw [markL_len]; exact hjx)
      rw [markL_at mkNd lnNd xs k j hjx, ← HM.out] at c0 c1 c2 r0
      have hmb : m + lnNd xs[j] ≤ 1000000000 := by
        have h1 := markN_take lnNd xs j hjx
        have h2 := markN_take_le lnNd xs (j + 1)
        have := HM.out
        omega
      have HNX : Hid (m + lnNd xs[j] = k + markN lnNd (xs.take (j + 1))) := by
        show _ = _
        rw [markN_take lnNd xs j hjx, HM.out, Nat.add_assoc]
      obtain ⟨x, hx⟩ : ∃ x, Hid (xs[j] = x) := ⟨_, (rfl : xs[j] = xs[j])⟩
      rw [hx.out] at c0 c1 c2 r0 hmb HNX
      simp only [mkNd] at c0 c1 c2 r0
      simp only [lnNd] at hmb
      have hbr : b < wr.heap.size := by omega
      have d0 := (hnx.cell (p := ⟨b, off + j * 4, none⟩) (by show b < _; omega)).trans c0
      have d1 := (hnx.cell (p := ⟨b, off + j * 4 + 1, none⟩) (by show b < _; omega)).trans c1
      have d2 := (hnx.cell (p := ⟨b, off + j * 4 + 2, none⟩) (by show b < _; omega)).trans c2
      have d3 := (hnx.cell (p := ⟨b, off + j * 4 + 3, none⟩) (by show b < _; omega)).trans c3
      clear c0 c1 c2 c3
      have HB0 : Hid (Below w.heap.size w wr) := hnx
      clear hnx
      obtain ⟨s2, hs2⟩ : ∃ s, Hid (mkT (m + 2) = s) := ⟨_, (rfl : mkT (m + 2) = mkT (m + 2))⟩
      rw [hs2.out] at d2
      go_wp2_with fail
      go_region_held3 (fun w' => w'.cell? ⟨b, off + j * 4 + 2, none⟩ = some (.string s2)) (first | go_keep | (show _ = _; rw [hbc.cell (p := ⟨b, off + j * 4 + 2, none⟩) hbr]; assumption)) ((go_at_call 80; refine (markText_any (m + 2) _ ?_ ?_).mono ?_; omega; omega; rw [hs2.out]; rintro e' w1 ⟨rfl, hbc⟩))
      all_goals
        have HB1 : Hid (Below w.heap.size w w1) := HB0.out.trans ((Below.refl _ _).drew.trans (hbc.mono HB0.out.size))
        have hlt1 : b < w1.heap.size := Nat.lt_of_lt_of_le hbr hbc.size
        have d1_3 := (hbc.cell (p := ⟨b, off + j * 4 + 3, none⟩) hbr).trans d3
        clear hbc d2 d3
        obtain ⟨m2, Hm2⟩ : ∃ y, Hid (m + 3 + x.kids.length = y) := ⟨_, (rfl : m + 3 + x.kids.length = _)⟩
        have cR3 : Hid (∀ W, Below w.heap.size w W → Calls Try.prog 36 #[v0, .int .i64 ((m + 3 : Nat) : Int)] W fun e' w' => e' = .returned (.int .i64 (m2 : Int)) ∧ Below W.heap.size W w') := fun W hW => by
          rw [← Hm2.out]
          exact heldIntS_any B _ (m + 3) x.kids W (Nat.le_trans hB hW.size) (by first | omega | (rw [← lnI_len]; omega)) (r0.keep (hW.mono hB))
        have hm2b : m2 + 0 ≤ 1000000000 := by rw [← Hm2.out]; first | omega | (rw [← lnI_len]; omega)
        have hm2p : 0 < m2 := by have := Hm2.out; omega
        have hm2n : ¬ (m2 : Int) < 0 := by omega
        go_wp2_with fail
        go_at_call 36
        refine Calls.mono (cR3.out _ HB1.out) ?_
        rintro e' w2 ⟨rfl, hbc⟩
        have HB2 : Hid (Below w.heap.size w w2) := HB1.out.trans (hbc.mono HB1.out.size)
        have hlt2 : b < w2.heap.size := Nat.lt_of_lt_of_le hlt1 hbc.size
        clear hbc cR3 d1_3
        have HE : Hid (m2 = k + markN lnNd (xs.take (j + 1))) := by
          show _ = _
          rw [← HNX.out, ← Hm2.out]
          simp only [lnNd, lnI_len]
          try omega
        have HBe : Hid (Below w.heap.size w w2) := HB2.out
        clear HB2 hlt2
        go_wp2
        go_roundw
        case rel => exact ⟨j + 1, m2, by omega, by go_num, by go_num, HE, HBe.out⟩
        case measure => simp [intOf]; omega
    · have hjn : Hid (j = n) := (by omega : j = n)
      have HE : Hid (m = k + markN lnNd xs) := by show _ = _; rw [HM.out, List.take_of_length_le (by have := HN.out; have := hjn.out; omega)]
      go_wp2
      go_ret
      exact ⟨by rw [← HE.out]; rfl, hnx⟩

end Go.Proofs.Ytjafneaaefpefaa
