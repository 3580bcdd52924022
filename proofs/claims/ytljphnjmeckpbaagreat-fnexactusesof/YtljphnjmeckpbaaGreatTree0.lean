/-
  Chapter 4, in the model: which kinds are values, statements, named; how many kids a kind has, and which fit.
-/
import Derived.Test.YtljphnjmeckpbaaGreatWords
import Derived.Test.YtljphnjmeckpbaaGreatPlain13
namespace Go.Proofs.YtljphnjmeckpbaaGreat
open Go.RowKit

theorem l01In_is (x a b : Int) (w : World) :
    Calls Tryz.prog 45 #[.int .i64 x, .int .i64 a, .int .i64 b] w fun e w' => e = .returned (.bool (isIn x a b)) ∧ w' = w := by
  by_cases h : a ≤ x ∧ x ≤ b
  · have e : isIn x a b = true := by simp [isIn, h]
    rw [e]
    exact l01In_yes x a b w h.1 h.2
  · have e : isIn x a b = false := by
      simp only [isIn, Bool.and_eq_false_iff, decide_eq_false_iff_not]
      omega
    rw [e]
    exact l01In_no x a b w (by omega)

theorem l04Value_is (k : Int) (w : World) :
    Calls Tryz.prog 76 #[.int .i64 k] w fun e w' => e = .returned (.bool (isVal k)) ∧ w' = w := by
  have c := fun W => l01In_is k 1 12 W
  obtain ⟨b, hb⟩ : ∃ b, Hid (isIn k 1 12 = b) := ⟨_, (rfl : isIn k 1 12 = isIn k 1 12)⟩
  rw [hb.out] at c
  have hv : Hid (isVal k = b) := hb
  go_enter Tryz.func76, Tryz.ntmps76
  go_wp2_with (go_at_call 45; refine (c _).mono ?_; rintro e w1 ⟨rfl, rfl⟩)
  go_ret
  exact ⟨by rw [hv.out]; rfl, rfl⟩

theorem l04Statement_is (k : Int) (w : World) :
    Calls Tryz.prog 126 #[.int .i64 k] w fun e w' => e = .returned (.bool (isStm k)) ∧ w' = w := by
  have c := fun W => l01In_is k 13 19 W
  obtain ⟨b, hb⟩ : ∃ b, Hid (isIn k 13 19 = b) := ⟨_, (rfl : isIn k 13 19 = isIn k 13 19)⟩
  rw [hb.out] at c
  have hv : Hid (isStm k = b) := hb
  go_enter Tryz.func126, Tryz.ntmps126
  go_wp2_with (go_at_call 45; refine (c _).mono ?_; rintro e w1 ⟨rfl, rfl⟩)
  go_ret
  exact ⟨by rw [hv.out]; rfl, rfl⟩

set_option maxHeartbeats 800000 in
theorem l04Named_is (k : Int) (w : World) :
    Calls Tryz.prog 107 #[.int .i64 k] w fun e w' => e = .returned (.bool (isNamed k)) ∧ w' = w := by
  by_cases h : k = 2 ∨ k = 3 ∨ k = 4 ∨ k = 5 ∨ k = 6 ∨ k = 12 ∨ k = 13 ∨ k = 14 ∨ k = 15
  · have HN : Hid (isNamed k = true) := by show _ = _; unfold isNamed; simpa using h
    rcases h with rfl | rfl | rfl | rfl | rfl | rfl | rfl | rfl | rfl <;> go_enter Tryz.func107, Tryz.ntmps107 <;> go_wp2 <;> go_ret <;> exact ⟨by rw [HN.out]; rfl, rfl⟩
  · have HN : Hid (isNamed k = false) := by show _ = _; unfold isNamed; simpa using h
    have a1 : (k == 2) = false := by simp; omega
    have a2 : (k == 3) = false := by simp; omega
    have a3 : (k == 4) = false := by simp; omega
    have a4 : (k == 5) = false := by simp; omega
    have a5 : (k == 6) = false := by simp; omega
    have a6 : (k == 12) = false := by simp; omega
    have a7 : (k == 13) = false := by simp; omega
    have a8 : (k == 14) = false := by simp; omega
    have a9 : (k == 15) = false := by simp; omega
    clear h
    go_enter Tryz.func107, Tryz.ntmps107
    go_wp2
    go_ret
    exact ⟨by rw [HN.out]; rfl, rfl⟩

set_option maxHeartbeats 1600000 in
theorem l04Kids_is (k : Int) (w : World) :
    Calls Tryz.prog 106 #[.int .i64 k] w fun e w' => e = .returned (.tuple #[.int .i64 (kidsLow k), .int .i64 (kidsHigh k)]) ∧ w' = w := by
  by_cases h : k = 8 ∨ k = 9 ∨ k = 10 ∨ k = 11 ∨ k = 12 ∨ k = 13 ∨ k = 14 ∨ k = 15 ∨ k = 16 ∨ k = 17 ∨ k = 18 ∨ k = 19 ∨ k = 20
  · rcases h with rfl | rfl | rfl | rfl | rfl | rfl | rfl | rfl | rfl | rfl | rfl | rfl | rfl <;> go_enter Tryz.func106, Tryz.ntmps106 <;> go_wp2 <;> go_ret2 <;> exact ⟨rfl, rfl⟩
  · have HL : Hid (kidsLow k = 0) := by show _ = _; unfold kidsLow; repeat' (rw [if_neg (by omega)])
    have HH : Hid (kidsHigh k = 0) := by show _ = _; unfold kidsHigh; repeat' (rw [if_neg (by omega)])
    have a1 : (k == 8) = false := by simp; omega
    have a2 : (k == 9) = false := by simp; omega
    have a3 : (k == 10) = false := by simp; omega
    have a4 : (k == 11) = false := by simp; omega
    have a5 : (k == 12) = false := by simp; omega
    have a6 : (k == 13) = false := by simp; omega
    have a7 : (k == 14) = false := by simp; omega
    have a8 : (k == 15) = false := by simp; omega
    have a9 : (k == 16) = false := by simp; omega
    have b1 : (k == 17) = false := by simp; omega
    have b2 : (k == 18) = false := by simp; omega
    have b3 : (k == 19) = false := by simp; omega
    have b4 : (k == 20) = false := by simp; omega
    clear h
    rw [HL.out, HH.out]
    go_enter Tryz.func106, Tryz.ntmps106
    go_wp2
    go_ret2
    exact ⟨rfl, rfl⟩

set_option maxHeartbeats 1600000 in
theorem l04Fits_is (k i kid : Int) (w : World) :
    Calls Tryz.prog 108 #[.int .i64 k, .int .i64 i, .int .i64 kid] w fun e w' => e = .returned (.bool (fits k i kid)) ∧ w' = w := by
  have cv := fun W => l04Value_is kid W
  have cs := fun W => l04Statement_is kid W
  obtain ⟨bv, hbv⟩ : ∃ b, Hid (isVal kid = b) := ⟨_, (rfl : isVal kid = isVal kid)⟩
  obtain ⟨bs, hbs⟩ : ∃ b, Hid (isStm kid = b) := ⟨_, (rfl : isStm kid = isStm kid)⟩
  rw [hbv.out] at cv
  rw [hbs.out] at cs
  obtain ⟨f, hf⟩ : ∃ f, Hid (fits k i kid = f) := ⟨_, (rfl : fits k i kid = fits k i kid)⟩
  have HF := hf.out
  rw [HF]
  unfold fits at HF
  rw [hbv.out, hbs.out] at HF
  by_cases h20 : k = 20
  · rw [if_pos h20] at HF
    subst h20 HF
    go_enter Tryz.func108, Tryz.ntmps108
    go_wp2_with (go_at_call 126; refine (cs _).mono ?_; rintro e w1 ⟨rfl, rfl⟩)
    go_ret
    exact ⟨rfl, rfl⟩
  rw [if_neg h20] at HF
  have a1 : (k == 20) = false := by simpa using h20
  by_cases h67 : (k = 16 ∨ k = 17) ∧ 0 < i
  · rw [if_pos h67] at HF
    obtain ⟨h, hi⟩ := h67
    cases f
    · have hk : (kid == 20) = false := by simpa using HF
      rcases h with rfl | rfl <;> go_enter Tryz.func108, Tryz.ntmps108 <;> go_wp2 <;> go_ret <;> exact ⟨rfl, rfl⟩
    · have hk : kid = 20 := by simpa using HF
      subst hk
      rcases h with rfl | rfl <;> go_enter Tryz.func108, Tryz.ntmps108 <;> go_wp2 <;> go_ret <;> exact ⟨rfl, rfl⟩
  rw [if_neg h67] at HF
  by_cases h19 : k = 19
  · rw [if_pos h19] at HF
    subst h19
    cases f
    · have hk : (kid == 12) = false := by simpa using HF
      go_enter Tryz.func108, Tryz.ntmps108
      go_wp2
      go_ret
      exact ⟨rfl, rfl⟩
    · have hk : kid = 12 := by simpa using HF
      subst hk
      go_enter Tryz.func108, Tryz.ntmps108
      go_wp2
      go_ret
      exact ⟨rfl, rfl⟩
  rw [if_neg h19] at HF
  subst HF
  have a2 : (k == 19) = false := by simpa using h19
  by_cases h : k = 16 ∨ k = 17
  · have hi : ¬ 0 < i := fun e => h67 ⟨h, e⟩
    clear h67 a2 a1 h20 h19
    rcases h with rfl | rfl
    · go_enter Tryz.func108, Tryz.ntmps108
      go_wp2_with (go_at_call 76; refine (cv _).mono ?_; rintro e w1 ⟨rfl, rfl⟩)
      go_ret
      exact ⟨rfl, rfl⟩
    · go_enter Tryz.func108, Tryz.ntmps108
      go_wp2_with (go_at_call 76; refine (cv _).mono ?_; rintro e w1 ⟨rfl, rfl⟩)
      go_ret
      exact ⟨rfl, rfl⟩
  · have a3 : (k == 16) = false := by simp; omega
    have a4 : (k == 17) = false := by simp; omega
    clear h h67
    go_enter Tryz.func108, Tryz.ntmps108
    go_wp2_with (go_at_call 76; refine (cv _).mono ?_; rintro e w1 ⟨rfl, rfl⟩)
    go_ret
    exact ⟨rfl, rfl⟩

end Go.Proofs.YtljphnjmeckpbaaGreat
