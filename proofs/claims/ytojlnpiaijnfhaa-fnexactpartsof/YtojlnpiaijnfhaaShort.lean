/-
  ShortText and ReadShort, in the program and in the model: what each answers at every argument.
-/
import Derived.Test.YtojlnpiaijnfhaaReadVar
import Derived.Test.YtojlnpiaijnfhaaShelf
namespace Go.Proofs.Ytojlnpiaijnfhaa
open Go.RowKit

theorem specShortText_no (s : ByteArray) (w : World) (h : 20000 < s.size) :
    Calls Try.prog 15 #[.string s] w fun e w' => e = .returned (.tuple #[.string ⟨#[]⟩, .bool false]) ∧ w' = w := by
  go_enter Try.func15, Try.ntmps15
  go_wp2
  go_ret2
  exact ⟨rfl, rfl⟩
theorem implShortText_no (s : ByteArray) (w : World) (h : 20000 < s.size) :
    Calls Try.prog 16 #[.string s] w fun e w' => e = .returned (.tuple #[.string ⟨#[]⟩, .bool false]) ∧ w' = w := by
  go_enter Try.func16, Try.ntmps16
  go_wp2
  go_ret2
  exact ⟨rfl, rfl⟩
theorem specShortText_yes (s : ByteArray) (w : World) (h : s.size ≤ 20000) :
    Calls Try.prog 15 #[.string s] w fun e w' => e = .returned (.tuple #[.string (strOfNums (varB s.size) ++ s), .bool true]) ∧ Below w.heap.size w w' := by
  have hl := varB_len s.size
  have hsz : (strOfNums (varB s.size)).size = (varB s.size).length := strOfNums_size _
  go_enter Try.func15, Try.ntmps15
  go_wp2_with (go_at_call 31; refine (l01Var_any s.size _ (by omega)).mono ?_; rintro e w1 ⟨rfl, hb1⟩)
  go_ret2
  exact ⟨rfl, hb1⟩

theorem implShortText_yes (s : ByteArray) (w : World) (h : s.size ≤ 20000) :
    Calls Try.prog 16 #[.string s] w fun e w' => e = .returned (.tuple #[.string (strOfNums (varB s.size) ++ s), .bool true]) ∧ Below w.heap.size w w' := by
  have hl := varB_len s.size
  have hsz : (strOfNums (varB s.size)).size = (varB s.size).length := strOfNums_size _
  go_enter Try.func16, Try.ntmps16
  go_wp2_with (go_at_call 12; refine (implVarText_yes s.size _ (by omega)).mono ?_; rintro e w1 ⟨rfl, hb1⟩)
  go_ret2
  exact ⟨rfl, hb1⟩

theorem lawShortText (s : ByteArray) (w : World) :
    Calls Try.prog 5 #[.string s] w fun e w' => e = .returned (.bool true) ∧ Below w.heap.size w w' := by
  by_cases hbig : 1048576 < s.size
  · go_enter Try.func5, Try.ntmps5
    go_wp2
    go_ret
    exact ⟨rfl, Below.refl _ _⟩
  · by_cases h : 20000 < s.size
    · go_enter Try.func5, Try.ntmps5
      go_wp2_with (first | (go_at_call 15; refine (specShortText_no s _ h).mono ?_; rintro e w1 ⟨rfl, rfl⟩) | (go_at_call 16; refine (implShortText_no s _ h).mono ?_; rintro e w1 ⟨rfl, rfl⟩))
      go_ret
      exact ⟨rfl, Below.refl _ _⟩
    · have h' : s.size ≤ 20000 := by omega
      go_enter Try.func5, Try.ntmps5
      go_wp2_with (first | (go_at_call 15; refine (specShortText_yes s _ h').mono ?_; rintro e w1 ⟨rfl, hb1⟩) | (go_at_call 16; refine (implShortText_yes s _ h').mono ?_; rintro e w2 ⟨rfl, hb2⟩))
      go_ret
      exact ⟨rfl, hb1.trans (hb2.mono hb1.size)⟩

/-! ReadVar by how it ends. -/
theorem implReadVar_some (t : ByteArray) (a n j : Nat) (w : World) (ht : t.size ≤ 1099511627776) (ha : a ≤ t.size) (h : Hid (rvAt t a 0 0 = some (n, j))) :
    Calls Try.prog 14 #[.string t, .int .i64 (a : Int)] w fun e w' => e = .returned (.tuple #[.int .i64 (n : Int), .int .i64 (j : Int), .bool true]) ∧ w' = w := by
  have := implReadVar_in t a w ht ha
  rw [h.out] at this
  exact this
theorem implReadVar_none (t : ByteArray) (a : Nat) (w : World) (ht : t.size ≤ 1099511627776) (ha : a ≤ t.size) (h : Hid (rvAt t a 0 0 = none)) :
    Calls Try.prog 14 #[.string t, .int .i64 (a : Int)] w fun e w' => e = .returned (.tuple #[.int .i64 0, .int .i64 0, .bool false]) ∧ w' = w := by
  have := implReadVar_in t a w ht ha
  rw [h.out] at this
  exact this
theorem specReadVar_some (t : ByteArray) (a n j : Nat) (w : World) (ht : t.size ≤ 1099511627776) (ha : a ≤ t.size) (h : Hid (rvAt t a 0 0 = some (n, j))) :
    Calls Try.prog 13 #[.string t, .int .i64 (a : Int)] w fun e w' => e = .returned (.tuple #[.int .i64 (n : Int), .int .i64 (j : Int), .bool true]) ∧ Below w.heap.size w w' := by
  have := specReadVar_in t a w ht ha
  rw [h.out] at this
  exact this
theorem specReadVar_none (t : ByteArray) (a : Nat) (w : World) (ht : t.size ≤ 1099511627776) (ha : a ≤ t.size) (h : Hid (rvAt t a 0 0 = none)) :
    Calls Try.prog 13 #[.string t, .int .i64 (a : Int)] w fun e w' => e = .returned (.tuple #[.int .i64 0, .int .i64 0, .bool false]) ∧ Below w.heap.size w w' := by
  have := specReadVar_in t a w ht ha
  rw [h.out] at this
  exact this

/-- When there is no text to be read. -/
def NoShort (t : ByteArray) (a : Int) : Prop := a < 0 ∨ (t.size : Int) < a ∨ (∃ N : Nat, a = N ∧ rvAt t N 0 0 = none) ∨ ∃ N n j : Nat, a = N ∧ rvAt t N 0 0 = some (n, j) ∧ (20000 < n ∨ t.size < j + n)

theorem specReadShort_no (t : ByteArray) (a : Int) (w : World) (ht : t.size ≤ 1099511627776) (h : NoShort t a) :
    Calls Try.prog 17 #[.string t, .int .i64 a] w fun e w' => e = .returned (.tuple #[.string ⟨#[]⟩, .int .i64 0, .bool false]) ∧ Below w.heap.size w w' := by
  by_cases ho : a < 0 ∨ (t.size : Int) < a
  · clear h
    go_enter Try.func17, Try.ntmps17
    go_wp2_with (go_at_call 13; refine (specReadVar_out t a _ ho).mono ?_; rintro e w1 ⟨rfl, rfl⟩)
    go_ret3
    exact ⟨rfl, Below.refl _ _⟩
  · rcases h with h | h | ⟨N, rfl, h⟩ | ⟨N, n, j, rfl, h, hx⟩
    · omega
    · omega
    · have hN : N ≤ t.size := by omega
      have H : Hid (rvAt t N 0 0 = none) := h
      clear h ho
      go_enter Try.func17, Try.ntmps17
      go_wp2_with (go_at_call 13; refine (specReadVar_none t N _ ht hN H).mono ?_; rintro e w1 ⟨rfl, hb1⟩)
      go_ret3
      exact ⟨rfl, hb1⟩
    · have hN : N ≤ t.size := by omega
      have H : Hid (rvAt t N 0 0 = some (n, j)) := h
      have hb := rvAt_bounds h
      clear h ho
      by_cases hn : 20000 < n
      · clear hx
        go_enter Try.func17, Try.ntmps17
        go_wp2_with (go_at_call 13; refine (specReadVar_some t N n j _ ht hN H).mono ?_; rintro e w1 ⟨rfl, hb1⟩)
        go_ret3
        exact ⟨rfl, hb1⟩
      · have hx2 : (t.size : Int) - (j : Int) < (n : Int) := by omega
        clear hx
        go_enter Try.func17, Try.ntmps17
        go_wp2_with (go_at_call 13; refine (specReadVar_some t N n j _ ht hN H).mono ?_; rintro e w1 ⟨rfl, hb1⟩)
        go_ret3
        exact ⟨rfl, hb1⟩

theorem implReadShort_no (t : ByteArray) (a : Int) (w : World) (ht : t.size ≤ 1099511627776) (h : NoShort t a) :
    Calls Try.prog 18 #[.string t, .int .i64 a] w fun e w' => e = .returned (.tuple #[.string ⟨#[]⟩, .int .i64 0, .bool false]) ∧ w' = w := by
  by_cases ho : a < 0 ∨ (t.size : Int) < a
  · clear h
    go_enter Try.func18, Try.ntmps18
    go_wp2_with (go_at_call 14; refine (implReadVar_out t a _ ho).mono ?_; rintro e w1 ⟨rfl, rfl⟩)
    go_ret3
    exact ⟨rfl, rfl⟩
  · rcases h with h | h | ⟨N, rfl, h⟩ | ⟨N, n, j, rfl, h, hx⟩
    · omega
    · omega
    · have hN : N ≤ t.size := by omega
      have H : Hid (rvAt t N 0 0 = none) := h
      clear h ho
      go_enter Try.func18, Try.ntmps18
      go_wp2_with (go_at_call 14; refine (implReadVar_none t N _ ht hN H).mono ?_; rintro e w1 ⟨rfl, rfl⟩)
      go_ret3
      exact ⟨rfl, rfl⟩
    · have hN : N ≤ t.size := by omega
      have H : Hid (rvAt t N 0 0 = some (n, j)) := h
      have hb := rvAt_bounds h
      clear h ho
      by_cases hn : 20000 < n
      · clear hx
        go_enter Try.func18, Try.ntmps18
        go_wp2_with (go_at_call 14; refine (implReadVar_some t N n j _ ht hN H).mono ?_; rintro e w1 ⟨rfl, rfl⟩)
        go_ret3
        exact ⟨rfl, rfl⟩
      · have hx2 : (t.size : Int) - (j : Int) < (n : Int) := by omega
        clear hx
        go_enter Try.func18, Try.ntmps18
        go_wp2_with (go_at_call 14; refine (implReadVar_some t N n j _ ht hN H).mono ?_; rintro e w1 ⟨rfl, rfl⟩)
        go_ret3
        exact ⟨rfl, rfl⟩

theorem slice_at (t : ByteArray) (j n : Nat) (h : j + n ≤ t.size) (wx : World) : (Instr.slice 9 (.string t) (some (.int .i64 (j : Int))) (some (.int .i64 ((j : Int) + (n : Int)))) none).run Try.prog wx = .ok (.string (t.extract j (j + n))) wx := by
  have := run_slice_string (P := Try.prog) wx 9 t .i64 .i64 (j : Int) ((j : Int) + (n : Int)) Try.underlying9 (by omega) (by omega) (by omega)
  rw [this]
  congr 3

theorem specReadShort_yes (t : ByteArray) (N n j : Nat) (w : World) (ht : t.size ≤ 1099511627776) (hN : N ≤ t.size) (h : rvAt t N 0 0 = some (n, j)) (h1 : n ≤ 20000) (h2 : j + n ≤ t.size) :
    Calls Try.prog 17 #[.string t, .int .i64 (N : Int)] w fun e w' => e = .returned (.tuple #[.string (t.extract j (j + n)), .int .i64 ((j : Int) + (n : Int)), .bool true]) ∧ Below w.heap.size w w' := by
  have H : Hid (rvAt t N 0 0 = some (n, j)) := h
  have hsl := slice_at t j n h2
  clear h
  go_enter Try.func17, Try.ntmps17
  go_wp2_with (go_at_call 13; refine (specReadVar_some t N n j _ ht hN H).mono ?_; rintro e w1 ⟨rfl, hb1⟩)
  go_ret3
  exact ⟨rfl, hb1⟩

theorem Clone_any (s : ByteArray) (w : World) (hlim : s.size ≤ 281474976710656) :
    Calls Try.prog 32 #[.string s] w fun e w' => e = .returned (.string s) ∧ Below w.heap.size w w' := by
  go_enter Try.func32, Try.ntmps32
  go_wp2_with (go_at_call 37; refine (Try.stringslite_Clone s _ hlim).mono ?_; rintro e w1 ⟨rfl, hb1⟩)
  go_ret
  exact ⟨rfl, hb1⟩

theorem implReadShort_yes (t : ByteArray) (N n j : Nat) (w : World) (ht : t.size ≤ 1099511627776) (hN : N ≤ t.size) (h : rvAt t N 0 0 = some (n, j)) (h1 : n ≤ 20000) (h2 : j + n ≤ t.size) :
    Calls Try.prog 18 #[.string t, .int .i64 (N : Int)] w fun e w' => e = .returned (.tuple #[.string (t.extract j (j + n)), .int .i64 ((j : Int) + (n : Int)), .bool true]) ∧ Below w.heap.size w w' := by
  have H : Hid (rvAt t N 0 0 = some (n, j)) := h
  have hsl := slice_at t j n h2
  have hq : (t.extract j (j + n)).size ≤ 281474976710656 := by rw [ByteArray.size_extract]; omega
  clear h
  go_enter Try.func18, Try.ntmps18
  go_wp2_with (first | (go_at_call 14; refine (implReadVar_some t N n j _ ht hN H).mono ?_; rintro e w1 ⟨rfl, rfl⟩) | (go_at_call 32; refine (Clone_any _ _ hq).mono ?_; rintro e w1 ⟨rfl, hb1⟩))
  go_ret3
  exact ⟨rfl, hb1⟩

theorem short_cases (t : ByteArray) (a : Int) : NoShort t a ∨ ∃ N n j : Nat, a = N ∧ N ≤ t.size ∧ rvAt t N 0 0 = some (n, j) ∧ n ≤ 20000 ∧ j + n ≤ t.size := by
  by_cases ho : a < 0 ∨ (t.size : Int) < a
  · rcases ho with h | h
    · exact .inl (.inl h)
    · exact .inl (.inr (.inl h))
  · obtain ⟨N, rfl⟩ : ∃ N : Nat, a = N := ⟨a.toNat, by omega⟩
    cases h : rvAt t N 0 0 with
    | none => exact .inl (.inr (.inr (.inl ⟨N, rfl, h⟩)))
    | some p =>
      obtain ⟨n, j⟩ := p
      by_cases hx : 20000 < n ∨ t.size < j + n
      · exact .inl (.inr (.inr (.inr ⟨N, n, j, rfl, h, hx⟩)))
      · exact .inr ⟨N, n, j, rfl, by omega, h, by omega, by omega⟩

theorem lawReadShort (t : ByteArray) (a : Int) (w : World) :
    Calls Try.prog 6 #[.string t, .int .i64 a] w fun e w' => e = .returned (.bool true) ∧ Below w.heap.size w w' := by
  by_cases hbig : 1048576 < t.size
  · go_enter Try.func6, Try.ntmps6
    go_wp2
    go_ret
    exact ⟨rfl, Below.refl _ _⟩
  · have ht : t.size ≤ 1099511627776 := by omega
    rcases short_cases t a with h | ⟨N, n, j, rfl, hN, h, h1, h2⟩
    · go_enter Try.func6, Try.ntmps6
      go_wp2_with (first | (go_at_call 17; refine (specReadShort_no t a _ ht h).mono ?_; rintro e w1 ⟨rfl, hb1⟩) | (go_at_call 18; refine (implReadShort_no t a _ ht h).mono ?_; rintro e w2 ⟨rfl, rfl⟩))
      go_ret
      exact ⟨rfl, hb1⟩
    · have H : Hid (rvAt t N 0 0 = some (n, j)) := h
      clear h
      go_enter Try.func6, Try.ntmps6
      go_wp2_with (first | (go_at_call 17; refine (specReadShort_yes t N n j _ ht hN H.out h1 h2).mono ?_; rintro e w1 ⟨rfl, hb1⟩) | (go_at_call 18; refine (implReadShort_yes t N n j _ ht hN H.out h1 h2).mono ?_; rintro e w2 ⟨rfl, hb2⟩))
      go_ret
      exact ⟨rfl, hb1.trans (hb2.mono hb1.size)⟩

end Go.Proofs.Ytojlnpiaijnfhaa
