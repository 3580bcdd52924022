/-
  ShortText and ReadShort, in the program and in the model: what each answers at every argument.
-/
import Derived.Test.YtfaflklokgniaaaDoorReadVar
import Derived.Test.YtfaflklokgniaaaDoorClone
namespace Go.Proofs.YtfaflklokgniaaaDoor
open Go.RowKit

theorem implShortText_no (s : ByteArray) (w : World) (h : 20000 < s.size) :
    Calls Tryd.prog 11 #[.string s] w fun e w' => e = .returned (.tuple #[.string ⟨#[]⟩, .bool false]) ∧ w' = w := by
  go_enter Tryd.func11, Tryd.ntmps11
  go_wp2
  go_ret2
  exact ⟨rfl, rfl⟩
theorem implShortText_yes (s : ByteArray) (w : World) (h : s.size ≤ 20000) :
    Calls Tryd.prog 11 #[.string s] w fun e w' => e = .returned (.tuple #[.string (strOfNums (varB s.size) ++ s), .bool true]) ∧ Below w.heap.size w w' := by
  have hl := varB_len s.size
  have hsz : (strOfNums (varB s.size)).size = (varB s.size).length := strOfNums_size _
  go_enter Tryd.func11, Tryd.ntmps11
  go_wp2_with (go_at_call 6; refine (implVarText_yes s.size _ (by omega)).mono ?_; rintro e w1 ⟨rfl, hb1⟩)
  go_ret2
  exact ⟨rfl, hb1⟩

/-! ReadVar by how it ends. -/
theorem implReadVar_some (t : ByteArray) (a n j : Nat) (w : World) (ht : t.size ≤ 1099511627776) (ha : a ≤ t.size) (h : Hid (rvAt t a 0 0 = some (n, j))) :
    Calls Tryd.prog 7 #[.string t, .int .i64 (a : Int)] w fun e w' => e = .returned (.tuple #[.int .i64 (n : Int), .int .i64 (j : Int), .bool true]) ∧ w' = w := by
  have := implReadVar_in t a w ht ha
  rw [h.out] at this
  exact this
theorem implReadVar_none (t : ByteArray) (a : Nat) (w : World) (ht : t.size ≤ 1099511627776) (ha : a ≤ t.size) (h : Hid (rvAt t a 0 0 = none)) :
    Calls Tryd.prog 7 #[.string t, .int .i64 (a : Int)] w fun e w' => e = .returned (.tuple #[.int .i64 0, .int .i64 0, .bool false]) ∧ w' = w := by
  have := implReadVar_in t a w ht ha
  rw [h.out] at this
  exact this
/-- When there is no text to be read. -/
def NoShort (t : ByteArray) (a : Int) : Prop := a < 0 ∨ (t.size : Int) < a ∨ (∃ N : Nat, a = N ∧ rvAt t N 0 0 = none) ∨ ∃ N n j : Nat, a = N ∧ rvAt t N 0 0 = some (n, j) ∧ (20000 < n ∨ t.size < j + n)

theorem implReadShort_no (t : ByteArray) (a : Int) (w : World) (ht : t.size ≤ 1099511627776) (h : NoShort t a) :
    Calls Tryd.prog 12 #[.string t, .int .i64 a] w fun e w' => e = .returned (.tuple #[.string ⟨#[]⟩, .int .i64 0, .bool false]) ∧ w' = w := by
  by_cases ho : a < 0 ∨ (t.size : Int) < a
  · clear h
    go_enter Tryd.func12, Tryd.ntmps12
    go_wp2_with (go_at_call 7; refine (implReadVar_out t a _ ho).mono ?_; rintro e w1 ⟨rfl, rfl⟩)
    go_ret3
    exact ⟨rfl, rfl⟩
  · rcases h with h | h | ⟨N, rfl, h⟩ | ⟨N, n, j, rfl, h, hx⟩
    · omega
    · omega
    · have hN : N ≤ t.size := by omega
      have H : Hid (rvAt t N 0 0 = none) := h
      clear h ho
      go_enter Tryd.func12, Tryd.ntmps12
      go_wp2_with (go_at_call 7; refine (implReadVar_none t N _ ht hN H).mono ?_; rintro e w1 ⟨rfl, rfl⟩)
      go_ret3
      exact ⟨rfl, rfl⟩
    · have hN : N ≤ t.size := by omega
      have H : Hid (rvAt t N 0 0 = some (n, j)) := h
      have hb := rvAt_bounds h
      clear h ho
      by_cases hn : 20000 < n
      · clear hx
        go_enter Tryd.func12, Tryd.ntmps12
        go_wp2_with (go_at_call 7; refine (implReadVar_some t N n j _ ht hN H).mono ?_; rintro e w1 ⟨rfl, rfl⟩)
        go_ret3
        exact ⟨rfl, rfl⟩
      · have hx2 : (t.size : Int) - (j : Int) < (n : Int) := by omega
        clear hx
        go_enter Tryd.func12, Tryd.ntmps12
        go_wp2_with (go_at_call 7; refine (implReadVar_some t N n j _ ht hN H).mono ?_; rintro e w1 ⟨rfl, rfl⟩)
        go_ret3
        exact ⟨rfl, rfl⟩

theorem slice_at (t : ByteArray) (j n : Nat) (h : j + n ≤ t.size) (wx : World) : (Instr.slice 9 (.string t) (some (.int .i64 (j : Int))) (some (.int .i64 ((j : Int) + (n : Int)))) none).run Tryd.prog wx = .ok (.string (t.extract j (j + n))) wx := by
  have := run_slice_string (P := Tryd.prog) wx 9 t .i64 .i64 (j : Int) ((j : Int) + (n : Int)) Tryd.underlying9 (by omega) (by omega) (by omega)
  rw [this]
  congr 3

theorem implReadShort_yes (t : ByteArray) (N n j : Nat) (w : World) (ht : t.size ≤ 1099511627776) (hN : N ≤ t.size) (h : rvAt t N 0 0 = some (n, j)) (h1 : n ≤ 20000) (h2 : j + n ≤ t.size) :
    Calls Tryd.prog 12 #[.string t, .int .i64 (N : Int)] w fun e w' => e = .returned (.tuple #[.string (t.extract j (j + n)), .int .i64 ((j : Int) + (n : Int)), .bool true]) ∧ Below w.heap.size w w' := by
  have H : Hid (rvAt t N 0 0 = some (n, j)) := h
  have hsl := slice_at t j n h2
  have hq : (t.extract j (j + n)).size ≤ 281474976710656 := by rw [ByteArray.size_extract]; omega
  clear h
  go_enter Tryd.func12, Tryd.ntmps12
  go_wp2_with (first | (go_at_call 7; refine (implReadVar_some t N n j _ ht hN H).mono ?_; rintro e w1 ⟨rfl, rfl⟩) | (go_at_call 22; refine (Clone_any _ _ hq).mono ?_; rintro e w1 ⟨rfl, hb1⟩))
  go_ret3
  exact ⟨rfl, hb1⟩

theorem short_cases (t : ByteArray) (a : Int) : NoShort t a ∨ ∃ N n j : Nat, a = N ∧ N ≤ t.size ∧ rvAt t N 0 0 = some (n, j) ∧ n ≤ 20000 ∧ j + n ≤ t.size := by
  by_cases ho : a < 0 ∨ (t.size : Int) < a
  · rcases ho with h | h
    · exact .inl (.inl h)
    · exact .inl (.inr (.inl h))
  · obtain ⟨N, rfl⟩ : ∃ N : Nat, a = N := ⟨a.toNat, by omega⟩
    cases h : rvAt t N 0 0 with
    | none => exact .inl (.inr (.inr (.inl ⟨N, rfl, h⟩)))
    | some p =>
      obtain ⟨n, j⟩ := p
      by_cases hx : 20000 < n ∨ t.size < j + n
      · exact .inl (.inr (.inr (.inr ⟨N, n, j, rfl, h, hx⟩)))
      · exact .inr ⟨N, n, j, rfl, by omega, h, by omega, by omega⟩

end Go.Proofs.YtfaflklokgniaaaDoor
