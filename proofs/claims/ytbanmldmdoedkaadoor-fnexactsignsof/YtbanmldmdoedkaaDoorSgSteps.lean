/-
  How far a text's signs are read, rune by rune: plainly.
-/
import Derived.Test.YtbanmldmdoedkaaDoorSgAhead
namespace Go.Proofs.YtbanmldmdoedkaaDoor
open Go.RowKit

/-- The rune at k comes next; b is the end of the last sign; ss are the signs so far. -/
structure St (t : ByteArray) (k b : Nat) (ss : List Sg) : Prop where
  kle : k ≤ t.size
  ble : b ≤ t.size
  read : ReadTo t (max k b) ss
  len : ss.length ≤ max k b
  low : ∀ i, (hi : i < t.size) → k ≤ i → i < b → t[i].toNat < 128

theorem St.start (t : ByteArray) : St t 0 0 [] := ⟨Nat.zero_le _, Nat.zero_le _, readTo_start t, Nat.le_refl _, fun i _ _ h => by omega⟩
theorem St.skip {t : ByteArray} {k b : Nat} {ss : List Sg} (h : St t k b ss) (hb : k < b) : St t (k + 1) b ss := by
  have e : max (k + 1) b = max k b := by omega
  exact ⟨by have := h.ble; omega, h.ble, by rw [e]; exact h.read, by rw [e]; exact h.len, fun i hi h1 h2 => h.low i hi (by omega) h2⟩
theorem St.blank {t : ByteArray} {k b : Nat} {ss : List Sg} (h : St t k b ss) (hb : ¬ k < b) (hk : k < t.size) (hc : t[k] = 32 ∨ t[k] = 10) : St t (k + 1) b ss := by
  have e : max (k + 1) b = k + 1 := by omega
  have e' : max k b = k := by omega
  have hr := h.read
  have hl := h.len
  rw [e'] at hr hl
  exact ⟨hk, h.ble, by rw [e]; exact readTo_blank hr hk hc, by rw [e]; omega, fun i hi h1 h2 => by omega⟩
theorem sg_drop {t : ByteArray} {k : Nat} (hk : k < t.size) : t.data.toList.drop k = t[k] :: t.data.toList.drop (k + 1) := by
  have hl : k < t.data.toList.length := by simpa using hk
  rw [List.drop_eq_getElem_cons hl]
  rfl
theorem St.bad {t : ByteArray} {k b : Nat} {ss : List Sg} (h : St t k b ss) (hs : t.size ≤ 3000) (hb : ¬ k < b) (hk : k < t.size) (hc : ¬ (t[k] = 32 ∨ t[k] = 10)) (hn : (aheadOf (t.data.toList.drop k)).2 = 0) : signsOf t = ([], false) := by
  have e' : max k b = k := by omega
  have hr := h.read
  rw [e'] at hr
  refine readTo_bad hr hs ?_
  rw [sg_drop hk] at hn ⊢
  rw [signs_ahead hc, if_pos hn]
theorem St.low_at {t : ByteArray} {k i : Nat} (hk : k ≤ i) (hi : i < t.size) (hn : i < k + (aheadOf (t.data.toList.drop k)).2) : t[i].toNat < 128 := by
  refine ahead_low (t.data.toList.drop k) t[i] ?_
  have hl : i - k < ((t.data.toList.drop k).take (aheadOf (t.data.toList.drop k)).2).length := by
    have : t.data.toList.length = t.size := rfl
    simp only [List.length_take, List.length_drop, this]
    omega
  have : ((t.data.toList.drop k).take (aheadOf (t.data.toList.drop k)).2)[i - k] = t[i] := by
    rw [List.getElem_take, List.getElem_drop]
    have e : k + (i - k) = i := by omega
    simp only [e]
    rfl
  rw [← this]
  exact List.getElem_mem hl
theorem St.sign {t : ByteArray} {k b n : Nat} {ss : List Sg} {s : Sg} (h : St t k b ss) (hb : ¬ k < b) (hk : k < t.size) (hc : ¬ (t[k] = 32 ∨ t[k] = 10)) (ha : aheadOf (t.data.toList.drop k) = (s, n)) (hn : ¬ n = 0) : St t (k + 1) (k + n) (ss ++ [s]) ∧ t[k].toNat < 128 ∧ k + n ≤ t.size := by
  have e' : max k b = k := by omega
  have e : max (k + 1) (k + n) = k + n := by omega
  have hr := h.read
  have hl := h.len
  rw [e'] at hr hl
  have hle := ahead_le (t.data.toList.drop k)
  rw [ha] at hle
  have htl : t.data.toList.length = t.size := rfl
  simp only [List.length_drop, htl] at hle
  have hlow : ∀ i, (hi : i < t.size) → k ≤ i → i < k + n → t[i].toNat < 128 := fun i hi h1 h2 => St.low_at h1 hi (by rw [ha]; exact h2)
  refine ⟨⟨hk, by omega, ?_, by rw [e]; simp; omega, fun i hi h1 h2 => hlow i hi (by omega) h2⟩, hlow k hk (Nat.le_refl _) (by omega), by omega⟩
  rw [e]
  refine readTo_more hr ?_
  have hs := signs_ahead (r := t.data.toList.drop (k + 1)) hc
  rw [← sg_drop hk, ha] at hs
  simp only [hn, if_false] at hs
  rw [hs, List.drop_drop]
theorem St.end {t : ByteArray} {k b : Nat} {ss : List Sg} (h : St t k b ss) (hs : t.size ≤ 3000) (hk : ¬ k < t.size) : signsOf t = (ss, true) := by
  have h1 := h.kle
  have h2 := h.ble
  exact readTo_end h.read (by omega) hs

end Go.Proofs.YtbanmldmdoedkaaDoor
