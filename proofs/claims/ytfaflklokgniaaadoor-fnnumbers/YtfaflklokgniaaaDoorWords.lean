/-
  Chapter 1's functions, by their contracts: what each call answers, and that it writes nothing that was there.
-/
import Derived.Test.YtfaflklokgniaaaDoorBase
import Derived.Test.YtfaflklokgniaaaDoorPlain1
namespace Go.Proofs.YtfaflklokgniaaaDoor
open Go.RowKit

theorem Tryd.mk5 (w : World) : (Instr.makeSlice 22 (.int .i64 0) (.int .i64 5)).run Tryd.prog w = .ok (.slice (some ⟨w.heap.size, 0, none⟩) 0 5) (w.alloc (.cells #[.int .u8 0, .int .u8 0, .int .u8 0, .int .u8 0, .int .u8 0] 5)) := by kernel_rfl

set_option maxHeartbeats 800000 in
theorem implVarText_yes (N : Nat) (w : World) (hN : N ≤ 1000000000) :
    Calls Tryd.prog 6 #[.int .i64 (N : Int)] w fun e w' => e = .returned (.tuple #[.string (strOfNums (varB N)), .bool true]) ∧ Below w.heap.size w w' := by
  have hlen := varB_len N
  have hmk := Tryd.mk5
  go_enter Tryd.func6, Tryd.ntmps6
  go_wp2
  go_loopw [0, 4] (fun n v wr => ∃ (m : Nat) (pre : List Int), m ≤ N ∧ n = .int .i64 (m : Int) ∧ Hid (pre ++ varB m = varB N) ∧ Owns8 wr w.heap.size 5 v pre ∧ Below w.heap.size w wr)
    (fun n _ _ => (intOf n).toNat)
  case atStart => exact ⟨N, [], Nat.le_refl _, rfl, rfl, World.ownsRow_made w _ 5 (Nat.le_refl _) (by decide) rfl, (Below.refl _ _).alloc (Nat.le_refl _) _⟩
  case round =>
    clear hmk
    obtain ⟨m, pre, hm, rfl, HV, hown, hnx⟩ := hrel
    have hpl : pre.length ≤ N + 1 := by have := congrArg List.length HV.out; simp at this; omega
    have hsz := hnx.size
    by_cases hlt : 127 < m
    · go_wp2_with (at_builtin; refine append8 rfl _ _ 22 rfl w.heap.size 5 Tryd.underlying22 Tryd.info8 hown [(m : Int) % 128 + 128] rfl 1 1 rfl rfl (by omega) hsz ?_; intro v1 w1 hown1 hb1 _)
      go_roundw
      case rel => exact ⟨m / 128, _, by omega, by go_num, by show _ = _; rw [← HV.out, varB_big (m := m) (by omega)]; simp, hown1, hb1 _ hnx⟩
      case measure => simp [intOf]; omega
    · go_wp2_with (at_builtin; refine append8 rfl _ _ 22 rfl w.heap.size 5 Tryd.underlying22 Tryd.info8 hown [(m : Int)] rfl 1 1 rfl rfl (by omega) hsz ?_; intro v1 w1 hown1 hb1 _; have hcv := own8_string hown1 (P := Tryd.prog) Tryd.underlying22 Tryd.underlying5 9 Tryd.underlying9)
      go_ret2
      exact ⟨by rw [← HV.out, varB_small (m := m) (by omega)]; rfl, hb1 _ hnx⟩

theorem implVarText_no (n : Int) (w : World) (h : n < 0 ∨ 1000000000 < n) :
    Calls Tryd.prog 6 #[.int .i64 n] w fun e w' => e = .returned (.tuple #[.string ⟨#[]⟩, .bool false]) ∧ w' = w := by
  by_cases h0 : n < 0
  · go_enter Tryd.func6, Tryd.ntmps6
    go_wp2
    go_ret2
    exact ⟨rfl, rfl⟩
  · have h1 : 1000000000 < n := by omega
    go_enter Tryd.func6, Tryd.ntmps6
    go_wp2
    go_ret2
    exact ⟨rfl, rfl⟩

end Go.Proofs.YtfaflklokgniaaaDoor
