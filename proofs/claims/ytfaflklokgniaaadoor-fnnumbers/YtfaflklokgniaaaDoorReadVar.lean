/-
  ReadVar, in the program and in the model: what each answers at every text and place.
-/
import Derived.Test.YtfaflklokgniaaaDoorWords
import Derived.RegionTactic
import Derived.Deep.RegionHeld3
namespace Go.Proofs.YtfaflklokgniaaaDoor
open Go.RowKit

theorem pow_in {k : Nat} (hk : k < 5) : 1 ≤ 128 ^ k ∧ 128 ^ k ≤ 268435456 := by
  have : k = 0 ∨ k = 1 ∨ k = 2 ∨ k = 3 ∨ k = 4 := by omega
  rcases this with rfl | rfl | rfl | rfl | rfl <;> decide

theorem mul_in {c S : Nat} (hS : S ≤ 268435456) : 0 ≤ ((c : Int) % 128) * (S : Int) ∧ ((c : Int) % 128) * (S : Int) ≤ 127 * (S : Int) := by
  have h0 : 0 ≤ (c : Int) % 128 := by omega
  have h1 : (c : Int) % 128 ≤ 127 := by omega
  exact ⟨Int.mul_nonneg h0 (by omega), Int.mul_le_mul_of_nonneg_right h1 (by omega)⟩

theorem cast_mul (c S : Nat) : ((c % 128 * S : Nat) : Int) = (c : Int) % 128 * (S : Int) := by simp

set_option maxHeartbeats 800000 in
theorem implReadVar_in (t : ByteArray) (a : Nat) (w : World) (ht : t.size ≤ 1099511627776) (ha : a ≤ t.size) :
    Calls Tryd.prog 7 #[.string t, .int .i64 (a : Int)] w fun e w' => e = .returned (.tuple #[.int .i64 (rvOut (rvAt t a 0 0)).1, .int .i64 (rvOut (rvAt t a 0 0)).2.1, .bool (rvOut (rvAt t a 0 0)).2.2]) ∧ w' = w := by
  go_enter Tryd.func7, Tryd.ntmps7
  go_wp2
  go_loop [7, 8, 9] (fun x s i => ∃ (j n S : Nat), a ≤ j ∧ j ≤ a + 5 ∧ j ≤ t.size ∧ i = .int .i64 (j : Int) ∧ x = .int .i64 (n : Int) ∧ s = .int .i64 (S : Int) ∧ Hid (S = 128 ^ (j - a)) ∧ n < S ∧ Hid (rvAt t a 0 0 = rvAt t a (j - a) n))
    (fun _ _ i => t.size - (intOf i).toNat)
  case atStart => exact ⟨a, 0, 1, by omega, by omega, ha, rfl, rfl, rfl, by simp [Hid], by omega, by simp [Hid]⟩
  case round =>
    obtain ⟨j, n, S, h1, h2, h3, rfl, rfl, rfl, HS, hn, HR⟩ := hrel
    by_cases hlt : j < t.size
    · by_cases h5 : (j : Int) - a < 5
      · have hS := pow_in (show j - a < 5 by omega)
        rw [← HS.out] at hS
        have hm := mul_in (c := t[j].toNat) hS.2
        have hc : t[j].toNat < 256 := t[j].toNat_lt
        have hj : a + (j - a) = j := by omega
        by_cases hb : 127 < t[j].toNat
        · go_wp2
          go_round
          case rel =>
            refine ⟨j + 1, n + t[j].toNat % 128 * S, S * 128, by omega, by omega, by omega, by go_num, by simp, by simp, ?_, ?_, ?_⟩
            · show _ = _
              rw [show j + 1 - a = (j - a) + 1 by omega, Nat.pow_succ, ← HS.out]
            · have := Nat.mul_le_mul_right S (show t[j].toNat % 128 ≤ 127 by omega)
              omega
            · show _ = _
              rw [HR.out, rvAt_more hj (by omega) hlt (by omega), show j + 1 - a = (j - a) + 1 by omega, ← HS.out]
          case measure => simp [intOf]; omega
        · by_cases hz : t[j].toNat = 0
          · by_cases hja : a < j
            · go_wp2
              go_ret3
              exact ⟨by rw [HR.out, rvAt_bad hj (by omega) hlt (by omega) (.inl ⟨hz, by omega⟩)]; rfl, rfl⟩
            · have hn0 : n = 0 := by
                have e0 : j - a = 0 := by omega
                have := HS.out
                rw [e0] at this
                simp at this
                omega
              subst hn0
              have hv : Hid (rvAt t a 0 0 = some (0, j + 1)) := by
                show _ = _
                rw [HR.out, rvAt_good hj (by omega) hlt (by omega) (by simp [hz]; omega)]
                simp [hz]
              go_wp2
              go_ret3
              exact ⟨by rw [hv.out]; rfl, rfl⟩
          · by_cases hbig : 1000000000 < (n : Int) + (t[j].toNat : Int) % 128 * (S : Int)
            · have hv : Hid (rvAt t a 0 0 = none) := by
                show _ = _
                rw [HR.out, rvAt_bad hj (by omega) hlt (by omega) (.inr (by rw [← HS.out]; have := cast_mul t[j].toNat S; omega))]
              go_wp2
              go_ret3
              exact ⟨by rw [hv.out]; rfl, rfl⟩
            · have hv : Hid (rvAt t a 0 0 = some (n + t[j].toNat % 128 * S, j + 1)) := by
                show _ = _
                rw [HR.out, rvAt_good hj (by omega) hlt (by omega) (by rw [← HS.out]; have := cast_mul t[j].toNat S; omega), ← HS.out]
              go_wp2
              go_ret3
              exact ⟨by rw [hv.out]; simp [rvOut], rfl⟩
      · go_wp2
        go_ret3
        exact ⟨by rw [HR.out, rvAt_five (by omega)]; rfl, rfl⟩
    · go_wp2
      go_ret3
      exact ⟨by rw [HR.out, rvAt_end (by omega)]; rfl, rfl⟩

theorem implReadVar_out (t : ByteArray) (a : Int) (w : World) (ha : a < 0 ∨ (t.size : Int) < a) :
    Calls Tryd.prog 7 #[.string t, .int .i64 a] w fun e w' => e = .returned (.tuple #[.int .i64 0, .int .i64 0, .bool false]) ∧ w' = w := by
  by_cases h0 : a < 0
  · go_enter Tryd.func7, Tryd.ntmps7
    go_wp2
    go_ret3
    exact ⟨rfl, rfl⟩
  · have h1 : (t.size : Int) < a := by omega
    go_enter Tryd.func7, Tryd.ntmps7
    go_wp2
    go_ret3
    exact ⟨rfl, rfl⟩

/-- What a round of the model's loop keeps: the bytes read so far go on, they make n. -/
def RdRel (t : ByteArray) (a j n : Nat) : Prop := n = valB (seg t a j) ∧ (∀ c ∈ seg t a j, ¬ c.toNat < 128) ∧ rvAt t a 0 0 = rvAt t a (j - a) n

theorem rdRel_start (t : ByteArray) (a : Nat) : RdRel t a a 0 := by
  refine ⟨?_, ?_, ?_⟩
  · rw [seg_nil]; rfl
  · rw [seg_nil]; intro c hc; cases hc
  · rw [Nat.sub_self]
theorem rdRel_more {t : ByteArray} {a j n : Nat} (h : RdRel t a j n) (h1 : a ≤ j) (h5 : j < a + 5) (hlt : j < t.size) (hb : ¬ t[j].toNat < 128) : RdRel t a (j + 1) (n + t[j].toNat % 128 * 128 ^ (j - a)) := by
  obtain ⟨e, hs, hr⟩ := h
  refine ⟨?_, ?_, ?_⟩
  · rw [seg_snoc h1 hlt, valB_snoc, ← e, seg_length (by omega)]
  · rw [seg_snoc h1 hlt]
    intro c hc
    simp only [List.mem_append, List.mem_singleton] at hc
    rcases hc with hc | rfl
    · exact hs c hc
    · exact hb
  · rw [hr, rvAt_more (show a + (j - a) = j by omega) (by omega) hlt hb, show j + 1 - a = (j - a) + 1 by omega]
theorem rdRel_spelt {t : ByteArray} {a j n : Nat} (h : RdRel t a j n) (h1 : a ≤ j) (hlt : j < t.size) (hb : t[j].toNat < 128) :
    ((strOfNums (varB (n + t[j].toNat % 128 * 128 ^ (j - a)))).toList == (t.extract a (j + 1)).toList) = !(decide (t[j].toNat = 0 ∧ a < j)) := by
  obtain ⟨e, hs, hr⟩ := h
  have := same_spelling (seg t a j) t[j] hs hb
  rw [valB_snoc, ← e, seg_length (by omega)] at this
  rw [extract_seg, seg_snoc h1 hlt, this]
  congr 2
  have hl : (seg t a j).length = j - a := seg_length (by omega)
  have : (seg t a j ≠ []) ↔ a < j := by
    constructor
    · intro hne
      have := List.length_pos_iff.2 hne
      omega
    · intro hj h0
      rw [h0] at hl
      simp at hl
      omega
  rw [this]

theorem rvd_bad {t : ByteArray} {a j n S : Nat} {s q : ByteArray} (h : RdRel t a j n) (hS : S = 128 ^ (j - a)) (h1 : a ≤ j) (h5 : j < a + 5) (hlt : j < t.size) (hb : t[j].toNat < 128)
    (hs : strOfNums (varB ((n : Int) + (t[j].toNat : Int) % 128 * (S : Int)).toNat) = s) (hq : t.extract a (j + 1) = q) (hne : (!s.toList == q.toList) = true) : rvAt t a 0 0 = none := by
  have hc := cast_mul t[j].toNat S
  rw [show ((n : Int) + (t[j].toNat : Int) % 128 * (S : Int)).toNat = n + t[j].toNat % 128 * S by omega, hS] at hs
  have := rdRel_spelt h h1 hlt hb
  rw [hs, hq] at this
  rw [this] at hne
  simp at hne
  rw [h.2.2, rvAt_bad (show a + (j - a) = j by omega) (by omega) hlt hb (.inl ⟨hne.1, by omega⟩)]
theorem rvd_good {t : ByteArray} {a j n S : Nat} {s q : ByteArray} (h : RdRel t a j n) (hS : S = 128 ^ (j - a)) (h1 : a ≤ j) (h5 : j < a + 5) (hlt : j < t.size) (hb : t[j].toNat < 128)
    (hs : strOfNums (varB ((n : Int) + (t[j].toNat : Int) % 128 * (S : Int)).toNat) = s) (hq : t.extract a (j + 1) = q) (hne : (!s.toList == q.toList) = false)
    (hle : (n : Int) + (t[j].toNat : Int) % 128 * (S : Int) ≤ 1000000000) : rvAt t a 0 0 = some (n + t[j].toNat % 128 * S, j + 1) := by
  have hc := cast_mul t[j].toNat S
  rw [show ((n : Int) + (t[j].toNat : Int) % 128 * (S : Int)).toNat = n + t[j].toNat % 128 * S by omega, hS] at hs
  have := rdRel_spelt h h1 hlt hb
  rw [hs, hq] at this
  rw [this] at hne
  simp at hne
  rw [h.2.2, rvAt_good (show a + (j - a) = j by omega) (by omega) hlt hb (by rw [← hS]; intro hx; rcases hx with ⟨x1, x2⟩ | x <;> omega), hS]

end Go.Proofs.YtfaflklokgniaaaDoor
