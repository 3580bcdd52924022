/-
  KeyWord and NameOk: the program's answers are the model's, at every text.
-/
import Derived.Test.YtjafneaaefpefaaIm
import Derived.Test.YtjafneaaefpefaaTr
namespace Go.Proofs.Ytjafneaaefpefaa
open Go.RowKit

theorem lawKeyWordT (t : ByteArray) (w : World) :
    Calls Try.prog 4 #[.string t] w fun e w' => e = .returned (.bool true) ∧ Below w.heap.size w w' := by
  by_cases hbig : 1048576 < t.size
  · go_enter Try.func4, Try.ntmps4
    go_wp2
    go_ret
    exact ⟨rfl, Below.refl _ _⟩
  · have ht : t.size ≤ 1048576 := by omega
    have hm : t.size ≤ maxLen := Nat.le_trans ht (by decide)
    obtain ⟨k, Hk⟩ : ∃ k, Hid (isKey t = k) := ⟨_, (rfl : isKey t = isKey t)⟩
    go_enter Try.func4, Try.ntmps4
    go_wp2_with fail
    go_at_call 15
    refine (specKeyWord_any t _).mono ?_
    rintro e w1 ⟨rfl, hb1⟩
    rw [Hk.out]
    go_wp2_with fail
    go_at_call 16
    refine (implKeyWord_any t _ hm).mono ?_
    rintro e w2 ⟨rfl, hb2⟩
    rw [Hk.out]
    go_wp2
    go_ret
    exact ⟨rfl, hb1.trans (hb2.mono hb1.size)⟩

theorem lawNameOkT (t : ByteArray) (w : World) :
    Calls Try.prog 5 #[.string t] w fun e w' => e = .returned (.bool true) ∧ Below w.heap.size w w' := by
  by_cases hbig : 1048576 < t.size
  · go_enter Try.func5, Try.ntmps5
    go_wp2
    go_ret
    exact ⟨rfl, Below.refl _ _⟩
  · have ht : t.size ≤ 1048576 := by omega
    have hm : t.size ≤ maxLen := Nat.le_trans ht (by decide)
    obtain ⟨k, Hk⟩ : ∃ k, Hid (nameOk t = k) := ⟨_, (rfl : nameOk t = nameOk t)⟩
    go_enter Try.func5, Try.ntmps5
    go_wp2_with fail
    go_at_call 17
    refine (specNameOk_any t _ ht).mono ?_
    rintro e w1 ⟨rfl, hb1⟩
    rw [Hk.out]
    go_wp2_with fail
    go_at_call 18
    refine (implNameOk_any t _ hm).mono ?_
    rintro e w2 ⟨rfl, hb2⟩
    rw [Hk.out]
    go_wp2
    go_ret
    exact ⟨rfl, hb1.trans (hb2.mono hb1.size)⟩

end Go.Proofs.Ytjafneaaefpefaa
