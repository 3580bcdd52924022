/-
  Chapter 1's functions, by their contracts: what each call answers, and that it writes nothing that was there.
-/
import Derived.Test.YtojlnpiaijnfhaaChecked
import Derived.Test.YtojlnpiaijnfhaaKit
import Derived.Test.YtojlnpiaijnfhaaPlain1
namespace Go.Proofs.Ytojlnpiaijnfhaa
open Go.RowKit

theorem Try.info8 : (Try.prog.info? 5).map (fun i => (i.zero, i.size, i.bytes)) = some (some (.int .u8 0), 1, 1) := by kernel_rfl

set_option maxHeartbeats 800000 in
theorem l01Var_any (N : Nat) (w : World) (hN : N ≤ 1000000000) :
    Calls Try.prog 31 #[.int .i64 (N : Int)] w fun e w' => e = .returned (.string (strOfNums (varB N))) ∧ Below w.heap.size w w' := by
  have hlen := varB_len N
  go_enter Try.func31, Try.ntmps31
  go_wp2
  go_loopw [0, 3] (fun n v wr => ∃ (m : Nat) (pre : List Int), m ≤ N ∧ n = .int .i64 (m : Int) ∧ Hid (pre ++ varB m = varB N) ∧ Owns8 wr w.heap.size 5 v pre ∧ Below w.heap.size w wr)
    (fun n _ _ => (intOf n).toNat)
  case atStart => exact ⟨N, [], Nat.le_refl _, rfl, rfl, World.ownsRow_made w #[] 0 (Nat.le_refl _) (by decide) rfl, (Below.refl _ _).alloc (Nat.le_refl _) _⟩
  case round =>
    obtain ⟨m, pre, hm, rfl, HV, hown, hnx⟩ := hrel
    have hpl : pre.length ≤ N + 1 := by have := congrArg List.length HV.out; simp at this; omega
    have hsz := hnx.size
    by_cases hlt : 127 < m
    · go_wp2_with (at_builtin; go_must (refine append8 rfl _ _ 41 rfl w.heap.size 5 Try.underlying41 Try.info8 hown [(m : Int) % 128 + 128] rfl 1 1 rfl rfl (by omega) hsz ?_); intro v1 w1 hown1 hb1 _)
      go_roundw
      case rel => exact ⟨m / 128, _, by omega, by go_num, by show _ = _; rw [← HV.out, varB_big (m := m) (by omega)]; simp, hown1, hb1 _ hnx⟩
      case measure => simp [intOf]; omega
    · go_wp2_with (at_builtin; go_must (refine append8 rfl _ _ 41 rfl w.heap.size 5 Try.underlying41 Try.info8 hown [(m : Int)] rfl 1 1 rfl rfl (by omega) hsz ?_); intro v1 w1 hown1 hb1 _; have hcv := own8_string hown1 (P := Try.prog) Try.underlying41 Try.underlying5 9 Try.underlying9)
      go_ret
      exact ⟨by rw [← HV.out, varB_small (m := m) (by omega)]; rfl, hb1 _ hnx⟩

theorem l01Var_int (x : Int) (w : World) (h0 : 0 ≤ x) (h1 : x ≤ 1000000000) :
    Calls Try.prog 31 #[.int .i64 x] w fun e w' => e = .returned (.string (strOfNums (varB x.toNat))) ∧ Below w.heap.size w w' := by
  obtain ⟨N, rfl⟩ : ∃ N : Nat, x = N := ⟨x.toNat, by omega⟩
  exact l01Var_any N w (by omega)

theorem l01Var_str (x : Int) (s : ByteArray) (w : World) (h0 : 0 ≤ x) (h1 : x ≤ 1000000000) (hs : Hid (strOfNums (varB x.toNat) = s)) :
    Calls Try.prog 31 #[.int .i64 x] w fun e w' => e = .returned (.string s) ∧ Below w.heap.size w w' := by
  rw [← hs.out]
  exact l01Var_int x w h0 h1

theorem Try.mk5 (w : World) : (Instr.makeSlice 41 (.int .i64 0) (.int .i64 5)).run Try.prog w = .ok (.slice (some ⟨w.heap.size, 0, none⟩) 0 5) (w.alloc (.cells #[.int .u8 0, .int .u8 0, .int .u8 0, .int .u8 0, .int .u8 0] 5)) := by kernel_rfl

set_option maxHeartbeats 800000 in
theorem implVarText_yes (N : Nat) (w : World) (hN : N ≤ 1000000000) :
    Calls Try.prog 12 #[.int .i64 (N : Int)] w fun e w' => e = .returned (.tuple #[.string (strOfNums (varB N)), .bool true]) ∧ Below w.heap.size w w' := by
  have hlen := varB_len N
  have hmk := Try.mk5
  go_enter Try.func12, Try.ntmps12
  go_wp2
  go_loopw [0, 4] (fun n v wr => ∃ (m : Nat) (pre : List Int), m ≤ N ∧ n = .int .i64 (m : Int) ∧ Hid (pre ++ varB m = varB N) ∧ Owns8 wr w.heap.size 5 v pre ∧ Below w.heap.size w wr)
    (fun n _ _ => (intOf n).toNat)
  case atStart => exact ⟨N, [], Nat.le_refl _, rfl, rfl, World.ownsRow_made w _ 5 (Nat.le_refl _) (by decide) rfl, (Below.refl _ _).alloc (Nat.le_refl _) _⟩
  case round =>
    clear hmk
    obtain ⟨m, pre, hm, rfl, HV, hown, hnx⟩ := hrel
    have hpl : pre.length ≤ N + 1 := by have := congrArg List.length HV.out; simp at this; omega
    have hsz := hnx.size
    by_cases hlt : 127 < m
    · go_wp2_with (at_builtin; refine append8 rfl _ _ 41 rfl w.heap.size 5 Try.underlying41 Try.info8 hown [(m : Int) % 128 + 128] rfl 1 1 rfl rfl (by omega) hsz ?_; intro v1 w1 hown1 hb1 _)
      go_roundw
      case rel => exact ⟨m / 128, _, by omega, by go_num, by show _ = _; rw [← HV.out, varB_big (m := m) (by omega)]; simp, hown1, hb1 _ hnx⟩
      case measure => simp [intOf]; omega
    · go_wp2_with (at_builtin; refine append8 rfl _ _ 41 rfl w.heap.size 5 Try.underlying41 Try.info8 hown [(m : Int)] rfl 1 1 rfl rfl (by omega) hsz ?_; intro v1 w1 hown1 hb1 _; have hcv := own8_string hown1 (P := Try.prog) Try.underlying41 Try.underlying5 9 Try.underlying9)
      go_ret2
      exact ⟨by rw [← HV.out, varB_small (m := m) (by omega)]; rfl, hb1 _ hnx⟩

theorem implVarText_no (n : Int) (w : World) (h : n < 0 ∨ 1000000000 < n) :
    Calls Try.prog 12 #[.int .i64 n] w fun e w' => e = .returned (.tuple #[.string ⟨#[]⟩, .bool false]) ∧ w' = w := by
  by_cases h0 : n < 0
  · go_enter Try.func12, Try.ntmps12
    go_wp2
    go_ret2
    exact ⟨rfl, rfl⟩
  · have h1 : 1000000000 < n := by omega
    go_enter Try.func12, Try.ntmps12
    go_wp2
    go_ret2
    exact ⟨rfl, rfl⟩

theorem l01In_yes (x a b : Int) (w : World) (h1 : a ≤ x) (h2 : x ≤ b) :
    Calls Try.prog 30 #[.int .i64 x, .int .i64 a, .int .i64 b] w fun e w' => e = .returned (.bool true) ∧ w' = w := by
  go_enter Try.func30, Try.ntmps30
  go_wp2
  go_ret
  exact ⟨rfl, rfl⟩

theorem l01In_no (x a b : Int) (w : World) (h : x < a ∨ b < x) :
    Calls Try.prog 30 #[.int .i64 x, .int .i64 a, .int .i64 b] w fun e w' => e = .returned (.bool false) ∧ w' = w := by
  by_cases h1 : x < a
  · go_enter Try.func30, Try.ntmps30
    go_wp2
    go_ret
    exact ⟨rfl, rfl⟩
  · have h2 : ¬ x ≤ b := by omega
    go_enter Try.func30, Try.ntmps30
    go_wp2
    go_ret
    exact ⟨rfl, rfl⟩

theorem specVarText_no (n : Int) (w : World) (h : n < 0 ∨ 1000000000 < n) :
    Calls Try.prog 11 #[.int .i64 n] w fun e w' => e = .returned (.tuple #[.string ⟨#[]⟩, .bool false]) ∧ w' = w := by
  go_enter Try.func11, Try.ntmps11
  go_wp2_with (go_at_call 30; refine (l01In_no _ _ _ _ h).mono ?_; rintro e w1 ⟨rfl, rfl⟩)
  go_ret2
  exact ⟨rfl, rfl⟩

theorem specVarText_yes (N : Nat) (w : World) (hN : N ≤ 1000000000) :
    Calls Try.prog 11 #[.int .i64 (N : Int)] w fun e w' => e = .returned (.tuple #[.string (strOfNums (varB N)), .bool true]) ∧ Below w.heap.size w w' := by
  go_enter Try.func11, Try.ntmps11
  go_wp2_with (first | (go_at_call 31; refine (l01Var_any N _ hN).mono ?_; rintro e w1 ⟨rfl, hb1⟩) | (go_at_call 30; refine (l01In_yes _ _ _ _ (by omega) (by omega)).mono ?_; rintro e w1 ⟨rfl, rfl⟩))
  go_ret2
  exact ⟨rfl, hb1⟩

set_option maxHeartbeats 400000 in
theorem lawVarText (n : Int) (w : World) :
    Calls Try.prog 3 #[.int .i64 n] w fun e w' => e = .returned (.bool true) ∧ Below w.heap.size w w' := by
  by_cases h : n < 0 ∨ 1000000000 < n
  · go_enter Try.func3, Try.ntmps3
    go_wp2_with (first | (go_at_call 11; refine (specVarText_no n _ h).mono ?_; rintro e w1 ⟨rfl, rfl⟩) | (go_at_call 12; refine (implVarText_no n _ h).mono ?_; rintro e w1 ⟨rfl, rfl⟩))
    go_ret
    exact ⟨rfl, Below.refl _ _⟩
  · obtain ⟨N, rfl⟩ : ∃ N : Nat, n = N := ⟨n.toNat, by omega⟩
    have hN : N ≤ 1000000000 := by omega
    clear h
    go_enter Try.func3, Try.ntmps3
    go_wp2_with (first | (go_at_call 11; refine (specVarText_yes N _ hN).mono ?_; rintro e w1 ⟨rfl, hb1⟩) | (go_at_call 12; refine (implVarText_yes N _ hN).mono ?_; rintro e w2 ⟨rfl, hb2⟩))
    go_ret
    exact ⟨rfl, hb1.trans (hb2.mono hb1.size)⟩

end Go.Proofs.Ytojlnpiaijnfhaa
