/-
  SumMore and SumOf, in the model: what each answers at every sum and text.
-/
import Derived.Test.YtmmdpgjgfbhkhaaDoorBase
import Derived.Test.YtmmdpgjgfbhkhaaDoorPlain6
import Derived.Laws.BitsAllLaws
import Derived.Laws.Closers25b
namespace Go.Proofs.YtmmdpgjgfbhkhaaDoor
open Go.RowKit

theorem xor32 (a b : Nat) (ha : a < 4294967296) (hb : b < 4294967296) : bits .xor .u32 (a : Int) (b : Int) = ((a ^^^ b : Nat) : Int) := u32_xor_nat a b ha hb

set_option maxHeartbeats 800000 in
theorem specSumMore_any (s : Nat) (t : ByteArray) (w : World) (hs : s < 4294967296) (ht : t.size ≤ 1048576) :
    Calls Tryd.prog 15 #[.int .u32 (s : Int), .string t] w fun e w' => e = .returned (.int .u32 ((sumL s t.data.toList : Nat) : Int)) ∧ w' = w := by
  go_enter Tryd.func15, Tryd.ntmps15
  go_wp2
  go_loop [0, 5, 6, 7] (fun x i _ _ => ∃ (k m : Nat), k ≤ t.size ∧ i = .int .i64 (k : Int) ∧ x = .int .u32 (m : Int) ∧ m < 4294967296 ∧ Hid (m = sumL s (t.data.toList.take k)))
    (fun _ i _ _ => t.size - (intOf i).toNat)
  case atStart => exact ⟨0, s, Nat.zero_le _, rfl, rfl, hs, rfl⟩
  case round =>
    obtain ⟨k, m, hk, rfl, rfl, hm, Hm⟩ := hrel
    by_cases hlt : k < t.size
    · have hk1 : (k : Int) < (t.size : Int) := by omega
      have hk0 : (0 : Int) ≤ (k : Int) := by omega
      obtain ⟨c, hc⟩ : ∃ c : Nat, Hid (c = t[k].toNat) := ⟨t[k].toNat, (rfl : t[k].toNat = t[k].toNat)⟩
      have hcl : c < 256 := by have := t[k].toNat_lt; have := hc.out; omega
      have hix := index_at Tryd.underlying9 t k hlt (k : Int) (c : Int) rfl (by rw [hc.out])
      have hx := xor32 m c hm (by omega)
      have hw1 : IntKind.u32.wrap (c : Int) = (c : Int) := by rw [IntKind.wrap_u32']; omega
      go_wp2
      go_loop [0, 6, 7] (fun x j _ => ∃ (n r : Nat), n ≤ 8 ∧ j = .int .i64 (n : Int) ∧ x = .int .u32 (r : Int) ∧ r < 4294967296 ∧ Hid (sum1 m c = halves (8 - n) r))
        (fun _ j _ => 8 - (intOf j).toNat)
      case atStart => exact ⟨0, m ^^^ c, by omega, rfl, rfl, xor_lt32 hm (by omega), rfl⟩
      case round =>
        obtain ⟨n, r, hn, rfl, rfl, hr, Hr⟩ := hrel
        by_cases hn8 : n < 8
        · have hn1 : (n : Int) < 8 := by omega
          by_cases ho : r % 2 = 1
          · have ho1 : (r : Int) % 2 = 1 := by omega
            go_wp2
            go_round
            case rel => exact ⟨n + 1, (r / 2) ^^^ 3558460437, by omega, by go_num, by rw [← xor32 (r / 2) 3558460437 (by omega) (by omega)]; simp, xor_lt32 (by omega) (by omega), by rw [Hr.out, show 8 - n = (8 - (n + 1)) + 1 by omega, halves, half, if_pos ho]; rfl⟩
            case measure => simp [intOf]; omega
          · have ho1 : (r : Int) % 2 = 0 := by omega
            go_wp2
            go_round
            case rel => exact ⟨n + 1, r / 2, by omega, by go_num, by simp, by omega, by rw [Hr.out, show 8 - n = (8 - (n + 1)) + 1 by omega, halves, half, if_neg ho]; rfl⟩
            case measure => simp [intOf]; omega
        · have Hr' : Hid (r = sum1 m c) := by have := Hr.out; rw [show 8 - n = 0 by omega] at this; exact this.symm
          clear Hr
          go_wp2
          go_round
          case rel => exact ⟨k + 1, r, by omega, by go_num, rfl, hr, by rw [take_snoc hlt, sumL_snoc, ← Hm.out, ← hc.out]; exact Hr'.out⟩
          case measure => simp [intOf]; omega
    · have Hm' : Hid ((m : Int) = ((sumL s t.data.toList : Nat) : Int)) := by
        have := Hm.out
        rw [show k = t.size by omega, take_all] at this
        show (m : Int) = _
        rw [this]
      clear Hm
      go_wp2
      go_ret
      exact ⟨congrArg (fun z : Int => Ending.returned (.int .u32 z)) Hm'.out, rfl⟩

theorem specSumOf_any (t : ByteArray) (w : World) (ht : t.size ≤ 1048576) :
    Calls Tryd.prog 16 #[.string t] w fun e w' => e = .returned (.int .u32 ((sumL 4294967295 t.data.toList : Nat) : Int)) ∧ w' = w := by
  go_enter Tryd.func16, Tryd.ntmps16
  go_wp2_with (go_at_call 15; refine (specSumMore_any 4294967295 t _ (by omega) ht).mono ?_; rintro e w1 ⟨rfl, rfl⟩)
  go_ret
  exact ⟨rfl, rfl⟩

end Go.Proofs.YtmmdpgjgfbhkhaaDoor
