/-
  NameOk, in the program: what it answers at every text; the length of the word that a text begins with.
-/
import Derived.Test.YtljphnjmeckpbaaGreatSgKeys
import Derived.Test.YtljphnjmeckpbaaGreatSgRun
namespace Go.Proofs.YtljphnjmeckpbaaGreat
open Go.RowKit

theorem letR_let (c : UInt8) : letR (c.toNat : Int) = isLet c := by
  unfold letR isLet
  congr 1 <;> simp <;> omega
theorem figR_fig (c : UInt8) : figR (c.toNat : Int) = isFig c := by
  unfold figR isFig
  congr 1 <;> simp <;> omega
theorem lfR_lf (c : UInt8) : lfR (c.toNat : Int) = isLF c := by simp [lfR, isLF, letR_let, figR_fig]

/-- The length of the word that a row of bytes begins with. -/
def wordLen (l : List UInt8) : Nat := if runLen letR l = 0 then 0 else runLen lfR l

theorem runLet (l : List UInt8) : runLen letR l = (l.takeWhile isLet).length := by simp [runLen, letR_let]
theorem runFig (l : List UInt8) : runLen figR l = (l.takeWhile isFig).length := by simp [runLen, figR_fig]
theorem runLF (l : List UInt8) : runLen lfR l = (l.takeWhile isLF).length := by simp [runLen, lfR_lf]
theorem runLen_le (p : Int → Bool) (l : List UInt8) : runLen p l ≤ l.length := (List.takeWhile_sublist _).length_le
theorem wordLen_le (l : List UInt8) : wordLen l ≤ l.length := by
  unfold wordLen
  split
  · omega
  · exact runLen_le _ _
theorem wordLen_nil : wordLen [] = 0 := by simp [wordLen, runLen]
theorem wordLen_cons (c : UInt8) (r : List UInt8) : wordLen (c :: r) = if isLet c then ((c :: r).takeWhile isLF).length else 0 := by
  unfold wordLen
  rw [runLet, runLF]
  cases h : isLet c <;> simp [List.takeWhile, h]

theorem all_of_takeWhile {p : UInt8 → Bool} : ∀ (l : List UInt8), ((l.takeWhile p).length = l.length) ↔ l.all p = true
  | [] => by simp
  | c :: r => by
    have ih := all_of_takeWhile (p := p) r
    cases h : p c
    · simp [List.takeWhile, h]
    · simp only [List.takeWhile, h, List.length_cons, List.all_cons, Bool.true_and, Nat.add_right_cancel_iff]
      exact ih

theorem nameOk_word (s : ByteArray) : nameOk s = (decide (0 < s.size) && decide (s.size ≤ 8) && decide (wordLen s.data.toList = s.size) && !isKey s) := by
  have hz : s.size = s.data.toList.length := rfl
  unfold nameOk
  cases hl : s.data.toList with
  | nil =>
    rw [hl] at hz
    simp at hz
    simp [hz]
  | cons c r =>
    rw [hl] at hz
    have h1 : 0 < s.size := by rw [hz]; simp
    have h2 : 1 ≤ s.size := h1
    have h3 := all_of_takeWhile (p := isLF) (c :: r)
    rw [wordLen_cons, hz]
    cases hc : isLet c
    · simp [hc]
    · cases ha : (c :: r).all isLF
      · have : ¬ ((c :: r).takeWhile isLF).length = (c :: r).length := fun e => by rw [h3.1 e] at ha; cases ha
        simp only [if_true, this, decide_false, Bool.and_false, Bool.false_and]
      · have := h3.2 ha
        simp only [if_true, this, decide_true, Bool.and_true, List.head?_cons, Option.any_some, hc]
        simp

set_option maxHeartbeats 800000 in
theorem wordAhead_any (s : ByteArray) (w : World) :
    Calls Tryz.prog 116 #[.string s] w fun e w' => e = .returned (.int .i64 (wordLen s.data.toList : Int)) ∧ Below w.heap.size w w' := by
  go_enter Tryz.func116, Tryz.ntmps116
  obtain ⟨N, HN⟩ : ∃ N, Hid (runLen letR s.data.toList = N) := ⟨_, (rfl : runLen letR s.data.toList = runLen letR s.data.toList)⟩
  obtain ⟨M, HM⟩ : ∃ M, Hid (runLen lfR s.data.toList = M) := ⟨_, (rfl : runLen lfR s.data.toList = runLen lfR s.data.toList)⟩
  have HW : Hid (wordLen s.data.toList = if N = 0 then 0 else M) := by
    rw [← HN.out, ← HM.out]
    exact rfl
  go_wp2_with fail
  go_at_call 129
  refine (runAhead_letter s _).mono ?_
  rintro e w1 ⟨rfl, hb1⟩
  rw [HN.out]
  by_cases h0 : N = 0
  · subst h0
    go_wp2
    go_ret
    exact ⟨by rw [HW.out]; rfl, hb1⟩
  · have h0' : ¬ (N : Int) = 0 := by omega
    go_wp2_with fail
    go_at_call 129
    refine (runAhead_letterOrFigure s _).mono ?_
    rintro e w2 ⟨rfl, hb2⟩
    rw [HM.out]
    go_wp2
    go_ret
    exact ⟨by rw [HW.out, if_neg h0]; rfl, hb1.trans (hb2.mono hb1.size)⟩

set_option maxHeartbeats 800000 in
theorem implNameOk_any (s : ByteArray) (w : World) (hs : s.size ≤ maxLen) :
    Calls Tryz.prog 83 #[.string s] w fun e w' => e = .returned (.bool (nameOk s)) ∧ Below w.heap.size w w' := by
  obtain ⟨l, Hl⟩ : ∃ l, Hid (wordLen s.data.toList = l) := ⟨_, (rfl : wordLen s.data.toList = wordLen s.data.toList)⟩
  obtain ⟨k, Hk⟩ : ∃ k, Hid (isKey s = k) := ⟨_, (rfl : isKey s = isKey s)⟩
  have HB : Hid (nameOk s = (decide (0 < s.size) && decide (s.size ≤ 8) && decide (l = s.size) && !k)) := by
    rw [← Hl.out, ← Hk.out]
    exact nameOk_word s
  have hw : Hid (∀ W, Calls Tryz.prog 116 #[.string s] W fun e w' => e = .returned (.int .i64 (l : Int)) ∧ Below W.heap.size W w') := fun W => by
    rw [← Hl.out]; exact wordAhead_any s W
  have hk : Hid (∀ W, Calls Tryz.prog 117 #[.string s] W fun e w' => e = .returned (.bool k) ∧ Below W.heap.size W w') := fun W => by
    rw [← Hk.out]; exact implKeyWord_any s W hs
  by_cases h1 : 0 < s.size
  · have h1' : (0 : Int) < (s.size : Int) := by omega
    by_cases h2 : s.size ≤ 8
    · have h2' : (s.size : Int) ≤ 8 := by omega
      go_enter Tryz.func83, Tryz.ntmps83
      go_wp2_with fail
      go_at_call 116
      refine Calls.mono (hw.out _) ?_
      rintro e w1 ⟨rfl, hb1⟩
      by_cases h3 : (l : Int) = (s.size : Int)
      · have h3n : Hid (l = s.size) := (by omega : l = s.size)
        rw [h3]
        have h3' : Hid ((l : Int) = (s.size : Int)) := h3
        clear h3
        go_wp2_with fail
        go_at_call 117
        refine Calls.mono (hk.out _) ?_
        rintro e w2 ⟨rfl, hb2⟩
        cases k
        · go_wp2
          go_ret
          exact ⟨by rw [HB.out, h3n.out]; simp [h1, h2], hb1.trans (hb2.mono hb1.size)⟩
        · go_wp2
          go_ret
          exact ⟨by rw [HB.out]; simp, hb1.trans (hb2.mono hb1.size)⟩
      · have h3n : Hid (¬ l = s.size) := (by omega : ¬ l = s.size)
        go_wp2
        go_ret
        exact ⟨by rw [HB.out]; simp [h3n.out], hb1⟩
    · have h2' : ¬ (s.size : Int) ≤ 8 := by omega
      go_enter Tryz.func83, Tryz.ntmps83
      go_wp2
      go_ret
      exact ⟨by rw [HB.out]; simp [h2], Below.refl _ _⟩
  · have h1' : ¬ (0 : Int) < (s.size : Int) := by omega
    go_enter Tryz.func83, Tryz.ntmps83
    go_wp2
    go_ret
    exact ⟨by rw [HB.out]; simp [h1], Below.refl _ _⟩

end Go.Proofs.YtljphnjmeckpbaaGreat
