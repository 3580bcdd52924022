/-
  The sign that a row of bytes begins with, plainly, and how signs go on behind it.
-/
import Derived.Test.YtbanmldmdoedkaaDoorNb
import Derived.Test.YtbanmldmdoedkaaDoorSgMark
import Derived.Test.YtbanmldmdoedkaaDoorSg
namespace Go.Proofs.YtbanmldmdoedkaaDoor
open Go.RowKit

/-- The sign that a row of bytes begins with, and its length; of none nothing, and 0. -/
def aheadOf (l : List UInt8) : Sg × Nat :=
  if 0 < wordLen l then (if 8 < wordLen l then (⟨0, ByteArray.empty, 0⟩, 0) else (⟨1, ⟨(l.take (wordLen l)).toArray⟩, 0⟩, wordLen l))
  else if 0 < runLen figR l then (if 10 < runLen figR l ∨ 1000000000 < valD (l.take (runLen figR l)) then (⟨0, ByteArray.empty, 0⟩, 0) else (⟨2, ByteArray.empty, (valD (l.take (runLen figR l)) : Int)⟩, runLen figR l))
  else (⟨(markRes l).1, (markRes l).2.1, 0⟩, (markRes l).2.2)

theorem take_takeWhile {p : UInt8 → Bool} : ∀ (l : List UInt8), l.take (l.takeWhile p).length = l.takeWhile p
  | [] => rfl
  | c :: r => by
    cases h : p c
    · simp [List.takeWhile, h]
    · simp [List.takeWhile, h, take_takeWhile r]
theorem drop_takeWhile {p : UInt8 → Bool} : ∀ (l : List UInt8), l.drop (l.takeWhile p).length = l.dropWhile p
  | [] => rfl
  | c :: r => by
    cases h : p c
    · simp [List.takeWhile, List.dropWhile, h]
    · simp [List.takeWhile, List.dropWhile, h, drop_takeWhile r]

theorem word_pos {c : UInt8} {r : List UInt8} (h : isLet c = true) : 0 < wordLen (c :: r) := by
  rw [wordLen_cons, if_pos h]
  simp [List.takeWhile, isLF_of_let h]
theorem word_zero {c : UInt8} {r : List UInt8} (h : ¬ isLet c = true) : wordLen (c :: r) = 0 := by
  rw [wordLen_cons, if_neg h]
theorem word_is {c : UInt8} {r : List UInt8} (h : isLet c = true) : wordLen (c :: r) = ((c :: r).takeWhile isLF).length := by
  rw [wordLen_cons, if_pos h]
theorem fig_pos {c : UInt8} {r : List UInt8} (h : isFig c = true) : 0 < runLen figR (c :: r) := by
  rw [runFig]
  simp [List.takeWhile, h]
theorem fig_zero {c : UInt8} {r : List UInt8} (h : ¬ isFig c = true) : runLen figR (c :: r) = 0 := by
  rw [runFig]
  simp [List.takeWhile, h]

theorem ahead_word {c : UInt8} {r : List UInt8} (h1 : isLet c = true) : aheadOf (c :: r) = if 8 < ((c :: r).takeWhile isLF).length then (⟨0, ByteArray.empty, 0⟩, 0) else (⟨1, ⟨((c :: r).takeWhile isLF).toArray⟩, 0⟩, ((c :: r).takeWhile isLF).length) := by
  unfold aheadOf
  rw [if_pos (word_pos h1), word_is h1, take_takeWhile]
theorem ahead_num {c : UInt8} {r : List UInt8} (h1 : ¬ isLet c = true) (h2 : isFig c = true) : aheadOf (c :: r) = if 10 < ((c :: r).takeWhile isFig).length ∨ 1000000000 < valD ((c :: r).takeWhile isFig) then (⟨0, ByteArray.empty, 0⟩, 0) else (⟨2, ByteArray.empty, (valD ((c :: r).takeWhile isFig) : Int)⟩, ((c :: r).takeWhile isFig).length) := by
  have hw : ¬ 0 < wordLen (c :: r) := by rw [word_zero h1]; omega
  unfold aheadOf
  rw [if_neg hw, if_pos (fig_pos h2), runFig, take_takeWhile]
theorem ahead_mark {c : UInt8} {r : List UInt8} (h1 : ¬ isLet c = true) (h2 : ¬ isFig c = true) : aheadOf (c :: r) = (⟨(markRes (c :: r)).1, (markRes (c :: r)).2.1, 0⟩, (markRes (c :: r)).2.2) := by
  have hw : ¬ 0 < wordLen (c :: r) := by rw [word_zero h1]; omega
  have hf : ¬ 0 < runLen figR (c :: r) := by rw [fig_zero h2]; omega
  unfold aheadOf
  rw [if_neg hw, if_neg hf]

theorem signs_ahead {c : UInt8} {r : List UInt8} (h0 : ¬ (c = 32 ∨ c = 10)) : signs (c :: r) = if (aheadOf (c :: r)).2 = 0 then none else (signs ((c :: r).drop (aheadOf (c :: r)).2)).map fun ss => (aheadOf (c :: r)).1 :: ss := by
  by_cases h1 : isLet c = true
  · have hp := word_pos (r := r) h1
    rw [word_is h1] at hp
    rw [signs_word h0 h1, ahead_word h1]
    by_cases h8 : 8 < ((c :: r).takeWhile isLF).length
    · simp only [if_pos h8, if_true]
    · simp only [if_neg h8]
      rw [if_neg (by omega), drop_takeWhile]
  · by_cases h2 : isFig c = true
    · have hp := fig_pos (r := r) h2
      rw [runFig] at hp
      rw [signs_num h0 h1 h2, ahead_num h1 h2]
      by_cases h8 : 10 < ((c :: r).takeWhile isFig).length ∨ 1000000000 < valD ((c :: r).takeWhile isFig)
      · simp only [if_pos h8, if_true]
      · simp only [if_neg h8]
        rw [if_neg (by omega), drop_takeWhile]
        rfl
    · rw [signs_mark h0 h1 h2, ahead_mark h1 h2]
      unfold markRes
      cases hm : markOf (c :: r) with
      | none => simp
      | some m =>
        have hz := (markOf_size hm).1
        simp only
        rw [if_neg (by omega)]

theorem ahead_le (l : List UInt8) : (aheadOf l).2 ≤ l.length := by
  unfold aheadOf
  split
  · split
    · exact Nat.zero_le _
    · exact wordLen_le l
  · split
    · split
      · exact Nat.zero_le _
      · exact runLen_le _ _
    · unfold markRes
      cases hm : markOf l with
      | none => exact Nat.zero_le _
      | some m => exact (markOf_size hm).2.2

theorem twAll {p : UInt8 → Bool} : ∀ (l : List UInt8), ∀ x ∈ l.takeWhile p, p x = true
  | [], x, hx => by simp at hx
  | c :: r, x, hx => by
    cases h : p c
    · simp [List.takeWhile, h] at hx
    · simp only [List.takeWhile, h, List.mem_cons] at hx
      rcases hx with rfl | hx
      · exact h
      · exact twAll r x hx

theorem marks_low : ∀ m ∈ marks3, ∀ c ∈ m.data.toList, c.toNat < 128 := by decide

/-- All bytes of a sign are below 128. -/
theorem ahead_low (l : List UInt8) : ∀ c ∈ l.take (aheadOf l).2, c.toNat < 128 := by
  unfold aheadOf
  split
  · rename_i hp
    split
    · intro c hc; simp at hc
    · cases l with
      | nil => intro c hc; simp at hc
      | cons c r =>
        intro x hx
        by_cases h1 : isLet c = true
        · simp only [word_is h1, take_takeWhile] at hx
          have := twAll _ x hx
          simp [isLF, isLet, isFig] at this
          omega
        · rw [word_zero h1] at hp
          omega
  · split
    · split
      · intro c hc; simp at hc
      · intro x hx
        simp only [runFig, take_takeWhile] at hx
        have := twAll _ x hx
        simp [isFig] at this
        omega
    · unfold markRes
      cases hm : markOf l with
      | none => intro c hc; simp at hc
      | some m =>
        intro x hx
        simp only at hx
        rw [← (markOf_size hm).2.1] at hx
        exact marks_low m (List.mem_of_find?_eq_some hm) x hx

end Go.Proofs.YtbanmldmdoedkaaDoor
