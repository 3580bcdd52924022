/-
  Sealed and Unsealed, in the program and in the model: what each answers at every text, where the table of four halvings lies as the program's text lays it.
-/
import Derived.Test.YtmmdpgjgfbhkhaaDoorSumsI
import Derived.Test.YtmmdpgjgfbhkhaaDoorClone
import Derived.BigQuiet
namespace Go.Proofs.YtmmdpgjgfbhkhaaDoor
open Go.RowKit

/-- A row of bytes that was just built. -/
theorem made8 (w : World) (e : TypeId) (xs : List Int) (hm : xs.length ≤ maxLen) : Owns8 (w.alloc (.cells (u8s xs).toArray e)) w.heap.size e (.slice (some ⟨w.heap.size, 0, none⟩) xs.length xs.length) xs :=
  ⟨by rw [Nat.mul_one]; exact u8s_length xs, .inr ⟨w.heap.size, xs.length, (u8s xs).toArray, rfl, Nat.le_refl _, heap_alloc_new w _, Nat.le_refl _, hm, by simp [u8s_length], by rw [Nat.mul_one]; exact List.take_of_length_le (by simp [u8s_length])⟩⟩

theorem run_four (x : Nat) (w : World) : (convert 22 9 (.slice (some ⟨w.heap.size, 0, none⟩) 4 4)).run Tryd.prog (w.alloc (.cells #[.int .u8 ((x : Int) / 16777216 % 256), .int .u8 ((x : Int) / 65536 % 256), .int .u8 ((x : Int) / 256 % 256), .int .u8 ((x : Int) % 256)] 5)) =
    .ok (.string (strOfNums (four x))) (w.alloc (.cells #[.int .u8 ((x : Int) / 16777216 % 256), .int .u8 ((x : Int) / 65536 % 256), .int .u8 ((x : Int) / 256 % 256), .int .u8 ((x : Int) % 256)] 5)) :=
  own8_string (made8 w 5 (four x) (by simp [four, maxLen])) (P := Tryd.prog) Tryd.underlying22 Tryd.underlying5 9 Tryd.underlying9

theorem four_any (x : Nat) (w : World) :
    Calls Tryd.prog 26 #[.int .u32 (x : Int)] w fun e w' => e = .returned (.string (strOfNums (four x))) ∧ Below w.heap.size w w' := by
  have hcv := run_four x w
  go_enter Tryd.func26, Tryd.ntmps26
  go_wp2
  go_ret
  exact ⟨rfl, (Below.refl _ _).alloc (Nat.le_refl _) _⟩
theorem text_any (x : Nat) (w : World) :
    Calls Tryd.prog 23 #[.int .u32 (x : Int)] w fun e w' => e = .returned (.string (strOfNums (four x))) ∧ Below w.heap.size w w' := by
  have hcv := run_four x w
  go_enter Tryd.func23, Tryd.ntmps23
  go_wp2
  go_ret
  exact ⟨rfl, (Below.refl _ _).alloc (Nat.le_refl _) _⟩

theorem four_size (x : Nat) : (strOfNums (four x)).size = 4 := by rw [strOfNums_size]; rfl
/-- What a sealed text is. -/
def sealOf (t : ByteArray) : ByteArray := t ++ strOfNums (four (sumL 4294967295 t.data.toList))

theorem specSealed_no (t : ByteArray) (w : World) (h : 20000 < t.size) :
    Calls Tryd.prog 17 #[.string t] w fun e w' => e = .returned (.tuple #[.string ⟨#[]⟩, .bool false]) ∧ w' = w := by
  go_enter Tryd.func17, Tryd.ntmps17
  go_wp2
  go_ret2
  exact ⟨rfl, rfl⟩
theorem implSealed_no (t : ByteArray) (w : World) (h : 20000 < t.size) :
    Calls Tryd.prog 11 #[.string t] w fun e w' => e = .returned (.tuple #[.string ⟨#[]⟩, .bool false]) ∧ w' = w := by
  go_enter Tryd.func11, Tryd.ntmps11
  go_wp2
  go_ret2
  exact ⟨rfl, rfl⟩
theorem specSealed_yes (t : ByteArray) (w : World) (h : t.size ≤ 20000) :
    Calls Tryd.prog 17 #[.string t] w fun e w' => e = .returned (.tuple #[.string (sealOf t), .bool true]) ∧ Below w.heap.size w w' := by
  have h' : t.size ≤ 1048576 := by omega
  have hz : (strOfNums (four (sumL 4294967295 t.data.toList))).size = 4 := four_size _
  go_enter Tryd.func17, Tryd.ntmps17
  go_wp2_with (first | (go_at_call 16; refine (specSumOf_any t _ h').mono ?_; rintro e w1 ⟨rfl, rfl⟩) | (go_at_call 26; refine (four_any _ _).mono ?_; rintro e w1 ⟨rfl, hb1⟩))
  go_ret2
  exact ⟨rfl, hb1⟩
theorem implSealed_yes (t : ByteArray) (w : World) (h : t.size ≤ 20000) (ht : Tab4 w) :
    Calls Tryd.prog 11 #[.string t] w fun e w' => e = .returned (.tuple #[.string (sealOf t), .bool true]) ∧ Below w.heap.size w w' := by
  have Ht : Hid (Tab4 w) := ht
  have h' : t.size ≤ 1048576 := by omega
  have hz : (strOfNums (four (sumL 4294967295 t.data.toList))).size = 4 := four_size _
  clear ht
  go_enter Tryd.func11, Tryd.ntmps11
  go_wp2_with (first | (go_at_call 14; refine (implSumOf_any t _ h' Ht.out).mono ?_; rintro e w1 ⟨rfl, rfl⟩) | (go_at_call 23; refine (text_any _ _).mono ?_; rintro e w1 ⟨rfl, hb1⟩))
  go_ret2
  exact ⟨rfl, hb1⟩

theorem lawSealedT (t : ByteArray) (w : World) (h : Tab4 w) :
    Calls Tryd.prog 6 #[.string t] w fun e w' => e = .returned (.bool true) ∧ Below w.heap.size w w' := by
  have Ht : Hid (Tab4 w) := h
  clear h
  by_cases hbig : 1048576 < t.size
  · go_enter Tryd.func6, Tryd.ntmps6
    go_wp2
    go_ret
    exact ⟨rfl, Below.refl _ _⟩
  · by_cases h : 20000 < t.size
    · go_enter Tryd.func6, Tryd.ntmps6
      go_wp2_with (first | (go_at_call 17; refine (specSealed_no t _ h).mono ?_; rintro e w1 ⟨rfl, rfl⟩) | (go_at_call 11; refine (implSealed_no t _ h).mono ?_; rintro e w1 ⟨rfl, rfl⟩))
      go_ret
      exact ⟨rfl, Below.refl _ _⟩
    · have h' : t.size ≤ 20000 := by omega
      go_enter Tryd.func6, Tryd.ntmps6
      go_wp2_with (first | (go_at_call 17; refine (specSealed_yes t _ h').mono ?_; rintro e w1 ⟨rfl, hb1⟩) | (go_at_call 11; refine (implSealed_yes t _ h' (Ht.out.below hb1)).mono ?_; rintro e w2 ⟨rfl, hb2⟩))
      go_ret
      exact ⟨rfl, hb1.trans (hb2.mono hb1.size)⟩

/-! ### Unsealed -/
theorem specUnsealed_short (t : ByteArray) (w : World) (h : t.size < 4) :
    Calls Tryd.prog 18 #[.string t] w fun e w' => e = .returned (.tuple #[.string ⟨#[]⟩, .bool false]) ∧ Below w.heap.size w w' := by
  have h1 : decide ((t.size : Int) - 4 < 0) = true := by simp; omega
  go_enter Tryd.func18, Tryd.ntmps18
  go_wp2_with fail
  go_quiet (fail)
  go_wp2
  go_ret2
  exact ⟨rfl, ⟨rfl, rfl, rfl, Nat.le_refl _, fun _ _ => rfl⟩⟩
theorem specUnsealed_long (t : ByteArray) (w : World) (h : 20004 < t.size) (ht : t.size ≤ 1048576) :
    Calls Tryd.prog 18 #[.string t] w fun e w' => e = .returned (.tuple #[.string ⟨#[]⟩, .bool false]) ∧ Below w.heap.size w w' := by
  have h1 : decide ((t.size : Int) - 4 < 0) = false := by simp; omega
  have h2 : decide (20000 < (t.size : Int) - 4) = true := by simp; omega
  go_enter Tryd.func18, Tryd.ntmps18
  go_wp2_with fail
  go_quiet (fail)
  go_wp2
  go_ret2
  exact ⟨rfl, ⟨rfl, rfl, rfl, Nat.le_refl _, fun _ _ => rfl⟩⟩
theorem implUnsealed_short (t : ByteArray) (w : World) (h : t.size < 4) :
    Calls Tryd.prog 12 #[.string t] w fun e w' => e = .returned (.tuple #[.string ⟨#[]⟩, .bool false]) ∧ w' = w := by
  go_enter Tryd.func12, Tryd.ntmps12
  go_wp2
  go_ret2
  exact ⟨rfl, rfl⟩
theorem implUnsealed_long (t : ByteArray) (w : World) (h : 20004 < t.size) (ht : t.size ≤ 1048576) :
    Calls Tryd.prog 12 #[.string t] w fun e w' => e = .returned (.tuple #[.string ⟨#[]⟩, .bool false]) ∧ w' = w := by
  go_enter Tryd.func12, Tryd.ntmps12
  go_wp2
  go_ret2
  exact ⟨rfl, rfl⟩

theorem bytes_ext {a b : ByteArray} (h : a.toList = b.toList) : a = b := by
  rw [ByteArray.toList_eq, ByteArray.toList_eq] at h
  cases a; cases b
  simp at h
  rw [h]
theorem slice_from (t : ByteArray) (n : Nat) (h : n ≤ t.size) (wx : World) : (Instr.slice 9 (.string t) (some (.int .i64 (n : Int))) none none).run Tryd.prog wx = .ok (.string (t.extract n t.size)) wx := by
  have := run_slice_string_l (P := Tryd.prog) (w := wx) (t := 9) (s := t) Tryd.underlying9 .i64 (n : Int) (by omega) (by omega)
  simpa using this
theorem slice_upto (t : ByteArray) (n : Nat) (h : n ≤ t.size) (wx : World) : (Instr.slice 9 (.string t) none (some (.int .i64 (n : Int))) none).run Tryd.prog wx = .ok (.string (t.extract 0 n)) wx := by
  have := run_slice_string_h (P := Tryd.prog) (w := wx) (t := 9) (s := t) Tryd.underlying9 .i64 (n : Int) (by omega) (by omega)
  simpa using this

set_option maxHeartbeats 800000 in
theorem specUnsealed_yes (t a b : ByteArray) (n : Nat) (w : World) (hn : t.size = n + 4) (hN : n ≤ 20000) (ha : t.extract 0 n = a) (hb : t.extract n t.size = b) (hq : b = strOfNums (four (sumL 4294967295 a.data.toList))) :
    Calls Tryd.prog 18 #[.string t] w fun e w' => e = .returned (.tuple #[.string a, .bool true]) ∧ Below w.heap.size w w' := by
  have hs1 := slice_from t n (by omega)
  have hs2 := slice_upto t n (by omega)
  have hal : a.size ≤ 1048576 := by rw [← ha, ByteArray.size_extract]; omega
  have hac : a.size ≤ 281474976710656 := by omega
  rw [hb] at hs1
  rw [ha] at hs2
  clear ha hb
  have h1 : decide ((n : Int) < 0) = false := by simp
  have h2 : decide (20000 < (n : Int)) = false := by simp; omega
  go_enter Tryd.func18, Tryd.ntmps18
  go_wp2_with fail
  go_region_held3 (fun _ => True) (trivial) (first | (go_at_call 16; refine (specSumOf_any a _ hal).mono ?_; rintro e w1 ⟨rfl, rfl⟩) | (go_at_call 26; refine (four_any _ _).mono ?_; rintro e w1 ⟨rfl, hb1⟩))
  all_goals
    go_wp2
    go_ret2
    exact ⟨rfl, (Below.refl _ _).drew.trans hb1⟩

set_option maxHeartbeats 800000 in
theorem specUnsealed_no (t a b : ByteArray) (n : Nat) (w : World) (hn : t.size = n + 4) (hN : n ≤ 20000) (ha : t.extract 0 n = a) (hb : t.extract n t.size = b) (hq : ¬ b = strOfNums (four (sumL 4294967295 a.data.toList))) :
    Calls Tryd.prog 18 #[.string t] w fun e w' => e = .returned (.tuple #[.string ⟨#[]⟩, .bool false]) ∧ Below w.heap.size w w' := by
  have hs1 := slice_from t n (by omega)
  have hs2 := slice_upto t n (by omega)
  have hal : a.size ≤ 1048576 := by rw [← ha, ByteArray.size_extract]; omega
  have hac : a.size ≤ 281474976710656 := by omega
  rw [hb] at hs1
  rw [ha] at hs2
  clear ha hb
  have hqb : (b.toList == (strOfNums (four (sumL 4294967295 a.data.toList))).toList) = false := by simpa using fun he => hq (bytes_ext he)
  have h1 : decide ((n : Int) < 0) = false := by simp
  have h2 : decide (20000 < (n : Int)) = false := by simp; omega
  go_enter Tryd.func18, Tryd.ntmps18
  go_wp2_with fail
  go_region_held3 (fun _ => True) (trivial) (first | (go_at_call 16; refine (specSumOf_any a _ hal).mono ?_; rintro e w1 ⟨rfl, rfl⟩) | (go_at_call 26; refine (four_any _ _).mono ?_; rintro e w1 ⟨rfl, hb1⟩))
  all_goals
    go_wp2
    go_ret2
    exact ⟨rfl, (Below.refl _ _).drew.trans hb1⟩

set_option maxHeartbeats 800000 in
theorem implUnsealed_yes (t a b : ByteArray) (n : Nat) (w : World) (hn : t.size = n + 4) (hN : n ≤ 20000) (ha : t.extract 0 n = a) (hb : t.extract n t.size = b) (hq : b = strOfNums (four (sumL 4294967295 a.data.toList))) (ht : Tab4 w) :
    Calls Tryd.prog 12 #[.string t] w fun e w' => e = .returned (.tuple #[.string a, .bool true]) ∧ Below w.heap.size w w' := by
  have hs1 := slice_from t n (by omega)
  have hs2 := slice_upto t n (by omega)
  have hal : a.size ≤ 1048576 := by rw [← ha, ByteArray.size_extract]; omega
  have hac : a.size ≤ 281474976710656 := by omega
  rw [hb] at hs1
  rw [ha] at hs2
  clear ha hb
  have h1 : decide ((n : Int) < 0) = false := by simp
  have h2 : decide (20000 < (n : Int)) = false := by simp; omega
  have Ht : Hid (Tab4 w) := ht
  clear ht
  go_enter Tryd.func12, Tryd.ntmps12
  go_wp2_with fail
  go_region_held3 (fun _ => True) (trivial) (first | (go_at_call 14; refine (implSumOf_any a _ hal ?_).mono ?_; exact Ht.out; rintro e w1 ⟨rfl, rfl⟩) | (go_at_call 23; refine (text_any _ _).mono ?_; rintro e w1 ⟨rfl, hb1⟩))
  all_goals
    go_wp2_with (go_at_call 24; refine (Clone_any _ _ hac).mono ?_; rintro e w2 ⟨rfl, hb2⟩)
    go_ret2
    exact ⟨rfl, ((Below.refl _ _).drew.trans hb1).trans (hb2.mono hb1.size)⟩

set_option maxHeartbeats 800000 in
theorem implUnsealed_no (t a b : ByteArray) (n : Nat) (w : World) (hn : t.size = n + 4) (hN : n ≤ 20000) (ha : t.extract 0 n = a) (hb : t.extract n t.size = b) (hq : ¬ b = strOfNums (four (sumL 4294967295 a.data.toList))) (ht : Tab4 w) :
    Calls Tryd.prog 12 #[.string t] w fun e w' => e = .returned (.tuple #[.string ⟨#[]⟩, .bool false]) ∧ Below w.heap.size w w' := by
  have hs1 := slice_from t n (by omega)
  have hs2 := slice_upto t n (by omega)
  have hal : a.size ≤ 1048576 := by rw [← ha, ByteArray.size_extract]; omega
  have hac : a.size ≤ 281474976710656 := by omega
  rw [hb] at hs1
  rw [ha] at hs2
  clear ha hb
  have hqb : (b.toList == (strOfNums (four (sumL 4294967295 a.data.toList))).toList) = false := by simpa using fun he => hq (bytes_ext he)
  have h1 : decide ((n : Int) < 0) = false := by simp
  have h2 : decide (20000 < (n : Int)) = false := by simp; omega
  have Ht : Hid (Tab4 w) := ht
  clear ht
  go_enter Tryd.func12, Tryd.ntmps12
  go_wp2_with fail
  go_region_held3 (fun _ => True) (trivial) (first | (go_at_call 14; refine (implSumOf_any a _ hal ?_).mono ?_; exact Ht.out; rintro e w1 ⟨rfl, rfl⟩) | (go_at_call 23; refine (text_any _ _).mono ?_; rintro e w1 ⟨rfl, hb1⟩))
  all_goals
    go_wp2
    go_ret2
    exact ⟨rfl, (Below.refl _ _).drew.trans hb1⟩

theorem lawUnsealedT (t : ByteArray) (w : World) (h : Tab4 w) :
    Calls Tryd.prog 7 #[.string t] w fun e w' => e = .returned (.bool true) ∧ Below w.heap.size w w' := by
  have Ht : Hid (Tab4 w) := h
  clear h
  by_cases hbig : 1048576 < t.size
  · go_enter Tryd.func7, Tryd.ntmps7
    go_wp2
    go_ret
    exact ⟨rfl, Below.refl _ _⟩
  have hle : t.size ≤ 1048576 := by omega
  by_cases h0 : t.size < 4
  · go_enter Tryd.func7, Tryd.ntmps7
    go_wp2_with (first | (go_at_call 18; refine (specUnsealed_short t _ h0).mono ?_; rintro e w1 ⟨rfl, hb1⟩) | (go_at_call 12; refine (implUnsealed_short t _ h0).mono ?_; rintro e w2 ⟨rfl, rfl⟩))
    go_ret
    exact ⟨rfl, hb1⟩
  by_cases h1 : 20004 < t.size
  · go_enter Tryd.func7, Tryd.ntmps7
    go_wp2_with (first | (go_at_call 18; refine (specUnsealed_long t _ h1 hle).mono ?_; rintro e w1 ⟨rfl, hb1⟩) | (go_at_call 12; refine (implUnsealed_long t _ h1 hle).mono ?_; rintro e w2 ⟨rfl, rfl⟩))
    go_ret
    exact ⟨rfl, hb1⟩
  obtain ⟨n, hn⟩ : ∃ n : Nat, Hid (t.size = n + 4 ∧ n ≤ 20000) := ⟨t.size - 4, (by omega : t.size = t.size - 4 + 4 ∧ t.size - 4 ≤ 20000)⟩
  obtain ⟨a, ha⟩ : ∃ a, Hid (t.extract 0 n = a) := ⟨t.extract 0 n, (rfl : t.extract 0 n = t.extract 0 n)⟩
  obtain ⟨b, hb⟩ : ∃ b, Hid (t.extract n t.size = b) := ⟨t.extract n t.size, (rfl : t.extract n t.size = t.extract n t.size)⟩
  by_cases hq : b = strOfNums (four (sumL 4294967295 a.data.toList))
  · have Hq : Hid (b = strOfNums (four (sumL 4294967295 a.data.toList))) := hq
    clear hq
    go_enter Tryd.func7, Tryd.ntmps7
    go_wp2_with (first | (go_at_call 18; refine (specUnsealed_yes t a b n _ hn.out.1 hn.out.2 ha.out hb.out Hq.out).mono ?_; rintro e w1 ⟨rfl, hb1⟩) | (go_at_call 12; refine (implUnsealed_yes t a b n _ hn.out.1 hn.out.2 ha.out hb.out Hq.out (Ht.out.below hb1)).mono ?_; rintro e w2 ⟨rfl, hb2⟩))
    go_ret
    exact ⟨rfl, hb1.trans (hb2.mono hb1.size)⟩
  · have Hq : Hid (¬ b = strOfNums (four (sumL 4294967295 a.data.toList))) := hq
    clear hq
    go_enter Tryd.func7, Tryd.ntmps7
    go_wp2_with (first | (go_at_call 18; refine (specUnsealed_no t a b n _ hn.out.1 hn.out.2 ha.out hb.out Hq.out).mono ?_; rintro e w1 ⟨rfl, hb1⟩) | (go_at_call 12; refine (implUnsealed_no t a b n _ hn.out.1 hn.out.2 ha.out hb.out Hq.out (Ht.out.below hb1)).mono ?_; rintro e w2 ⟨rfl, hb2⟩))
    go_ret
    exact ⟨rfl, hb1.trans (hb2.mono hb1.size)⟩

end Go.Proofs.YtmmdpgjgfbhkhaaDoor
