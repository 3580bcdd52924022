/-
  KeyWord and NameOk, in the model: what each answers at every text.
-/
import Derived.Test.YtljphnjmeckpbaaGreatBase
import Derived.Test.YtljphnjmeckpbaaGreatPlain9
namespace Go.Proofs.YtljphnjmeckpbaaGreat
open Go.RowKit

/-- A row of texts that was just built. -/
theorem texts_made (w : World) (ss : List ByteArray) (e : TypeId) (i : Nat) (hi : i < ss.length) : (w.alloc (.cells (ss.map Value.string).toArray e)).cell? ⟨w.heap.size, i, none⟩ = some (.string (ss.getD i ByteArray.empty)) := by
  rw [World.cell?_alloc_mark]
  simp [List.getD, hi]

/-- A row of texts in a block. -/
def TextsAt (w : World) (b : Nat) (ss : List ByteArray) : Prop := ∀ i, i < ss.length → w.cell? ⟨b, i, none⟩ = some (.string (ss.getD i ByteArray.empty))

theorem l03Keys_any (w : World) :
    Calls Tryz.prog 127 #[] w fun e w' => e = .returned (.slice (some ⟨w.heap.size, 0, none⟩) 14 14) ∧ Hid (Below w.heap.size w w' ∧ TextsAt w' w.heap.size keys) := by
  go_enter Tryz.func127, Tryz.ntmps127
  go_wp2
  go_ret
  exact ⟨rfl, (Below.refl _ _).alloc (Nat.le_refl _) _, fun i hi => texts_made w keys _ i hi⟩

theorem any_at {s : ByteArray} {k : Nat} (hk : k < keys.length) (h : ((keys.getD k ByteArray.empty).toList == s.toList) = true) : isKey s = true := by
  unfold isKey
  rw [List.any_eq_true]
  refine ⟨keys[k], List.getElem_mem hk, ?_⟩
  have : keys.getD k ByteArray.empty = keys[k] := by simp [List.getD, hk]
  rw [this] at h
  exact h
theorem any_none {s : ByteArray} (h : ∀ j, j < 14 → ((keys.getD j ByteArray.empty).toList == s.toList) = false) : isKey s = false := by
  unfold isKey
  rw [List.any_eq_false]
  intro x hx
  obtain ⟨j, hj, rfl⟩ := List.getElem_of_mem hx
  have := h j hj
  rw [show keys.getD j ByteArray.empty = keys[j] by simp [List.getD, hj]] at this
  simp [this]

set_option maxHeartbeats 800000 in
theorem specKeyWord_any (s : ByteArray) (w : World) :
    Calls Tryz.prog 110 #[.string s] w fun e w' => e = .returned (.bool (isKey s)) ∧ Below w.heap.size w w' := by
  go_enter Tryz.func110, Tryz.ntmps110
  go_wp2_with (go_at_call 127; refine (l03Keys_any _).mono ?_; rintro e w1 ⟨rfl, hw1⟩)
  go_loop [4] (fun i => ∃ k : Nat, k ≤ 14 ∧ i = .int .i64 (k : Int) ∧ Hid (∀ j, j < k → ((keys.getD j ByteArray.empty).toList == s.toList) = false)) (fun i => 14 - (intOf i).toNat)
  case atStart => exact ⟨0, Nat.zero_le _, rfl, fun j hj => by omega⟩
  case round =>
    obtain ⟨k, hk, rfl, HK⟩ := hrel
    by_cases hlt : k < 14
    · have hk1 : (k : Int) < 14 := by omega
      have hk0 : (0 : Int) ≤ (k : Int) := by omega
      have hck := hw1.out.2 k hlt
      obtain ⟨q, hq⟩ : ∃ q, Hid (keys.getD k ByteArray.empty = q) := ⟨_, (rfl : keys.getD k ByteArray.empty = keys.getD k ByteArray.empty)⟩
      rw [hq.out] at hck
      by_cases he : (q.toList == s.toList) = true
      · go_wp2
        go_ret
        exact ⟨by rw [any_at (k := k) (s := s) hlt (by rw [hq.out]; exact he)]; rfl, hw1.out.1⟩
      · have he' : (q.toList == s.toList) = false := by simpa using he
        clear he
        go_wp2
        go_round
        case rel => exact ⟨k + 1, by omega, by go_num, fun j hj => by
          rcases Nat.lt_or_ge j k with h | h
          · exact HK.out j h
          · rw [show j = k by omega, hq.out]; exact he'⟩
        case measure => simp [intOf]; omega
    · have hkey : isKey s = false := any_none fun j hj => HK.out j (by omega)
      have HKy : Hid (isKey s = false) := hkey
      clear hkey
      go_wp2
      go_ret
      exact ⟨by rw [HKy.out]; rfl, hw1.out.1⟩

theorem l03Letter_any (c : UInt8) (w : World) :
    Calls Tryz.prog 109 #[.int .u8 (c.toNat : Int)] w fun e w' => e = .returned (.bool (isLet c)) ∧ w' = w := by
  obtain ⟨x, hx⟩ : ∃ x : Int, x = (c.toNat : Int) := ⟨_, rfl⟩
  have H : Hid (isLet c = (decide (97 ≤ x) && decide (x ≤ 122))) := by
    show _ = _
    unfold isLet
    rw [hx]
    congr 1 <;> simp <;> omega
  rw [← hx]
  clear hx
  by_cases h1 : 97 ≤ x
  · go_enter Tryz.func109, Tryz.ntmps109
    go_wp2
    go_ret
    exact ⟨by rw [H.out]; simp [h1], rfl⟩
  · go_enter Tryz.func109, Tryz.ntmps109
    go_wp2
    go_ret
    exact ⟨by rw [H.out, show decide (97 ≤ x) = false by simp; omega]; rfl, rfl⟩
theorem l03Figure_any (c : UInt8) (w : World) :
    Calls Tryz.prog 111 #[.int .u8 (c.toNat : Int)] w fun e w' => e = .returned (.bool (isFig c)) ∧ w' = w := by
  obtain ⟨x, hx⟩ : ∃ x : Int, x = (c.toNat : Int) := ⟨_, rfl⟩
  have H : Hid (isFig c = (decide (48 ≤ x) && decide (x ≤ 57))) := by
    show _ = _
    unfold isFig
    rw [hx]
    congr 1 <;> simp <;> omega
  rw [← hx]
  clear hx
  by_cases h1 : 48 ≤ x
  · go_enter Tryz.func111, Tryz.ntmps111
    go_wp2
    go_ret
    exact ⟨by rw [H.out]; simp [h1], rfl⟩
  · go_enter Tryz.func111, Tryz.ntmps111
    go_wp2
    go_ret
    exact ⟨by rw [H.out, show decide (48 ≤ x) = false by simp; omega]; rfl, rfl⟩
/-- The same, the byte under letters. -/
theorem l03Letter_at (c : UInt8) (x : Int) (b : Bool) (hx : Hid (x = (c.toNat : Int))) (hb : Hid (isLet c = b)) (w : World) :
    Calls Tryz.prog 109 #[.int .u8 x] w fun e w' => e = .returned (.bool b) ∧ w' = w := by
  rw [hx.out, ← hb.out]
  exact l03Letter_any c w
theorem l03Figure_at (c : UInt8) (x : Int) (b : Bool) (hx : Hid (x = (c.toNat : Int))) (hb : Hid (isFig c = b)) (w : World) :
    Calls Tryz.prog 111 #[.int .u8 x] w fun e w' => e = .returned (.bool b) ∧ w' = w := by
  rw [hx.out, ← hb.out]
  exact l03Figure_any c w

end Go.Proofs.YtljphnjmeckpbaaGreat
