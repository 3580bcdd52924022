/-
  The table's rows for bytes. No condition.
  Chapter 1's functions, by their contracts: what each call answers, and that it writes nothing that was there.
  KeyWord and NameOk, in the model: what each answers at every text.
  NameOk, in the model: what it answers at every text.
-/
import Derived.Test.YtbanmldmdoedkaaGreatDoorChecked
import Derived.Test.YtbanmldmdoedkaaGreatDoorKa
import Derived.Test.YtbanmldmdoedkaaGreatDoorPa
namespace Go.Proofs.YtbanmldmdoedkaaGreatDoor

theorem Tryz.info8 : (Tryz.prog.info? 5).map (fun i => (i.zero, i.size, i.bytes)) = some (some (.int .u8 0), 1, 1) := by kernel_rfl

end Go.Proofs.YtbanmldmdoedkaaGreatDoor

namespace Go.Proofs.YtbanmldmdoedkaaGreatDoor
open Go.RowKit

theorem Tryz.mk5 (w : World) : (Instr.makeSlice 22 (.int .i64 0) (.int .i64 5)).run Tryz.prog w = .ok (.slice (some ⟨w.heap.size, 0, none⟩) 0 5) (w.alloc (.cells #[.int .u8 0, .int .u8 0, .int .u8 0, .int .u8 0, .int .u8 0] 5)) := by kernel_rfl

theorem l01In_yes (x a b : Int) (w : World) (h1 : a ≤ x) (h2 : x ≤ b) :
    Calls Tryz.prog 63 #[.int .i64 x, .int .i64 a, .int .i64 b] w fun e w' => e = .returned (.bool true) ∧ w' = w := by
  go_enter Tryz.func63, Tryz.ntmps63
  go_wp2
  go_ret
  exact ⟨rfl, rfl⟩

theorem l01In_no (x a b : Int) (w : World) (h : x < a ∨ b < x) :
    Calls Tryz.prog 63 #[.int .i64 x, .int .i64 a, .int .i64 b] w fun e w' => e = .returned (.bool false) ∧ w' = w := by
  by_cases h1 : x < a
  · go_enter Tryz.func63, Tryz.ntmps63
    go_wp2
    go_ret
    exact ⟨rfl, rfl⟩
  · have h2 : ¬ x ≤ b := by omega
    go_enter Tryz.func63, Tryz.ntmps63
    go_wp2
    go_ret
    exact ⟨rfl, rfl⟩

end Go.Proofs.YtbanmldmdoedkaaGreatDoor

namespace Go.Proofs.YtbanmldmdoedkaaGreatDoor
open Go.RowKit

/-- A row of texts that was just built. -/
theorem texts_made (w : World) (ss : List ByteArray) (e : TypeId) (i : Nat) (hi : i < ss.length) : (w.alloc (.cells (ss.map Value.string).toArray e)).cell? ⟨w.heap.size, i, none⟩ = some (.string (ss.getD i ByteArray.empty)) := by
  rw [World.cell?_alloc_mark]
  simp [List.getD, hi]

/-- A row of texts in a block. -/
def TextsAt (w : World) (b : Nat) (ss : List ByteArray) : Prop := ∀ i, i < ss.length → w.cell? ⟨b, i, none⟩ = some (.string (ss.getD i ByteArray.empty))

theorem l03Keys_any (w : World) :
    Calls Tryz.prog 184 #[] w fun e w' => e = .returned (.slice (some ⟨w.heap.size, 0, none⟩) 14 14) ∧ Hid (Below w.heap.size w w' ∧ TextsAt w' w.heap.size keys) := by
  go_enter Tryz.func184, Tryz.ntmps184
  go_wp2
  go_ret
  exact ⟨rfl, (Below.refl _ _).alloc (Nat.le_refl _) _, fun i hi => texts_made w keys _ i hi⟩

theorem any_at {s : ByteArray} {k : Nat} (hk : k < keys.length) (h : ((keys.getD k ByteArray.empty).toList == s.toList) = true) : isKey s = true := by
  unfold isKey
  rw [List.any_eq_true]
  refine ⟨keys[k], List.getElem_mem hk, ?_⟩
  have : keys.getD k ByteArray.empty = keys[k] := by simp [List.getD, hk]
  rw [this] at h
  exact h
theorem any_none {s : ByteArray} (h : ∀ j, j < 14 → ((keys.getD j ByteArray.empty).toList == s.toList) = false) : isKey s = false := by
  unfold isKey
  rw [List.any_eq_false]
  intro x hx
  obtain ⟨j, hj, rfl⟩ := List.getElem_of_mem hx
  have := h j hj
  rw [show keys.getD j ByteArray.empty = keys[j] by simp [List.getD, hj]] at this
  simp [this]

set_option maxHeartbeats 800000 in
theorem specKeyWord_any (s : ByteArray) (w : World) :
    Calls Tryz.prog 159 #[.string s] w fun e w' => e = .returned (.bool (isKey s)) ∧ Below w.heap.size w w' := by
  go_enter Tryz.func159, Tryz.ntmps159
  go_wp2_with (go_at_call 184; refine (l03Keys_any _).mono ?_; rintro e w1 ⟨rfl, hw1⟩)
  go_loop [4] (fun i => ∃ k : Nat, k ≤ 14 ∧ i = .int .i64 (k : Int) ∧ Hid (∀ j, j < k → ((keys.getD j ByteArray.empty).toList == s.toList) = false)) (fun i => 14 - (intOf i).toNat)
  case atStart => exact ⟨0, Nat.zero_le _, rfl, fun j hj => by omega⟩
  case round =>
    obtain ⟨k, hk, rfl, HK⟩ := hrel
    by_cases hlt : k < 14
    · have hk1 : (k : Int) < 14 := by omega
      have hk0 : (0 : Int) ≤ (k : Int) := by omega
      have hck := hw1.out.2 k hlt
      obtain ⟨q, hq⟩ : ∃ q, Hid (keys.getD k ByteArray.empty = q) := ⟨_, (rfl : keys.getD k ByteArray.empty = keys.getD k ByteArray.empty)⟩
      rw [hq.out] at hck
      by_cases he : (q.toList == s.toList) = true
      · go_wp2
        go_ret
        exact ⟨by rw [any_at (k := k) (s := s) hlt (by rw [hq.out]; exact he)]; rfl, hw1.out.1⟩
      · have he' : (q.toList == s.toList) = false := by simpa using he
        clear he
        go_wp2
        go_round
        case rel => exact ⟨k + 1, by omega, by go_num, fun j hj => by
          rcases Nat.lt_or_ge j k with h | h
          · exact HK.out j h
          · rw [show j = k by omega, hq.out]; exact he'⟩
        case measure => simp [intOf]; omega
    · have hkey : isKey s = false := any_none fun j hj => HK.out j (by omega)
      have HKy : Hid (isKey s = false) := hkey
      clear hkey
      go_wp2
      go_ret
      exact ⟨by rw [HKy.out]; rfl, hw1.out.1⟩

theorem l03Letter_any (c : UInt8) (w : World) :
    Calls Tryz.prog 80 #[.int .u8 (c.toNat : Int)] w fun e w' => e = .returned (.bool (isLet c)) ∧ w' = w := by
  obtain ⟨x, hx⟩ : ∃ x : Int, x = (c.toNat : Int) := ⟨_, rfl⟩
  have H : Hid (isLet c = (decide (97 ≤ x) && decide (x ≤ 122))) := by
    show _ = _
    unfold isLet
    rw [hx]
    congr 1 <;> simp <;> omega
  rw [← hx]
  clear hx
  by_cases h1 : 97 ≤ x
  · go_enter Tryz.func80, Tryz.ntmps80
    go_wp2
    go_ret
    exact ⟨by rw [H.out]; simp [h1], rfl⟩
  · go_enter Tryz.func80, Tryz.ntmps80
    go_wp2
    go_ret
    exact ⟨by rw [H.out, show decide (97 ≤ x) = false by simp; omega]; rfl, rfl⟩
theorem l03Figure_any (c : UInt8) (w : World) :
    Calls Tryz.prog 81 #[.int .u8 (c.toNat : Int)] w fun e w' => e = .returned (.bool (isFig c)) ∧ w' = w := by
  obtain ⟨x, hx⟩ : ∃ x : Int, x = (c.toNat : Int) := ⟨_, rfl⟩
  have H : Hid (isFig c = (decide (48 ≤ x) && decide (x ≤ 57))) := by
    show _ = _
    unfold isFig
    rw [hx]
    congr 1 <;> simp <;> omega
  rw [← hx]
  clear hx
  by_cases h1 : 48 ≤ x
  · go_enter Tryz.func81, Tryz.ntmps81
    go_wp2
    go_ret
    exact ⟨by rw [H.out]; simp [h1], rfl⟩
  · go_enter Tryz.func81, Tryz.ntmps81
    go_wp2
    go_ret
    exact ⟨by rw [H.out, show decide (48 ≤ x) = false by simp; omega]; rfl, rfl⟩
/-- The same, the byte under letters. -/
theorem l03Letter_at (c : UInt8) (x : Int) (b : Bool) (hx : Hid (x = (c.toNat : Int))) (hb : Hid (isLet c = b)) (w : World) :
    Calls Tryz.prog 80 #[.int .u8 x] w fun e w' => e = .returned (.bool b) ∧ w' = w := by
  rw [hx.out, ← hb.out]
  exact l03Letter_any c w
theorem l03Figure_at (c : UInt8) (x : Int) (b : Bool) (hx : Hid (x = (c.toNat : Int))) (hb : Hid (isFig c = b)) (w : World) :
    Calls Tryz.prog 81 #[.int .u8 x] w fun e w' => e = .returned (.bool b) ∧ w' = w := by
  rw [hx.out, ← hb.out]
  exact l03Figure_any c w

end Go.Proofs.YtbanmldmdoedkaaGreatDoor

namespace Go.Proofs.YtbanmldmdoedkaaGreatDoor
open Go.RowKit

theorem nameOk_size {s : ByteArray} (h : s.size < 1 ∨ 8 < s.size) : nameOk s = false := by
  unfold nameOk
  rcases h with h | h
  · rw [decide_eq_false (p := 1 ≤ s.size) (by omega)]; rfl
  · rw [decide_eq_false (p := s.size ≤ 8) (by omega)]; simp
theorem nameOk_head {s : ByteArray} (h : 0 < s.size) (hl : isLet s[0] = false) : nameOk s = false := by
  unfold nameOk
  rw [head_at h]
  simp [hl]
theorem nameOk_key {s : ByteArray} (h : isKey s = true) : nameOk s = false := by
  unfold nameOk
  simp [h]
theorem nameOk_bad {s : ByteArray} {k : Nat} (hk : k < s.size) (h : isLF s[k] = false) : nameOk s = false := by
  have : s.data.toList.all isLF = false := by
    rw [List.all_eq_false]
    exact ⟨s[k], List.getElem_mem (by rw [tlen]; exact hk), by simp [h]⟩
  unfold nameOk
  simp [this]
theorem nameOk_good {s : ByteArray} (h0 : 0 < s.size) (h8 : s.size ≤ 8) (hl : isLet s[0] = true) (hk : isKey s = false) (h : ∀ j, (hj : j < s.size) → isLF s[j] = true) : nameOk s = true := by
  have : s.data.toList.all isLF = true := by
    rw [List.all_eq_true]
    intro x hx
    obtain ⟨j, hj, rfl⟩ := List.getElem_of_mem hx
    exact h j (by rw [tlen] at hj; exact hj)
  unfold nameOk
  rw [head_at h0]
  simp [hl, hk, this]
  omega

set_option maxHeartbeats 800000 in
theorem specNameOk_any (s : ByteArray) (w : World) (hs : s.size ≤ 1048576) :
    Calls Tryz.prog 110 #[.string s] w fun e w' => e = .returned (.bool (nameOk s)) ∧ Below w.heap.size w w' := by
  by_cases h18 : s.size < 1 ∨ 8 < s.size
  · have HN : Hid (nameOk s = false) := nameOk_size h18
    have h18' : (s.size : Int) < 1 ∨ 8 < (s.size : Int) := by omega
    go_enter Tryz.func110, Tryz.ntmps110
    go_wp2_with (go_at_call 63; refine (l01In_no _ _ _ _ h18').mono ?_; rintro e w1 ⟨rfl, rfl⟩)
    go_ret
    exact ⟨by rw [HN.out]; rfl, Below.refl _ _⟩
  have h1 : (1 : Int) ≤ (s.size : Int) := by omega
  have h8 : (s.size : Int) ≤ 8 := by omega
  have h0 : 0 < s.size := by omega
  obtain ⟨x0, hx0⟩ : ∃ x : Int, Hid (x = (s[0].toNat : Int)) := ⟨_, (rfl : (s[0].toNat : Int) = (s[0].toNat : Int))⟩
  have hi0 := index_at Tryz.underlying9 s 0 h0 0 x0 rfl hx0.out
  by_cases hl : isLet s[0] = true
  · have HL : Hid (isLet s[0] = true) := hl
    clear hl
    by_cases hk : isKey s = true
    · have HN : Hid (nameOk s = false) := nameOk_key hk
      have HK : Hid (isKey s = true) := hk
      clear hk
      go_enter Tryz.func110, Tryz.ntmps110
      go_wp2_with (first | (go_at_call 63; refine (l01In_yes _ _ _ _ h1 h8).mono ?_; rintro e w1 ⟨rfl, rfl⟩) | (go_at_call 80; refine (l03Letter_at s[0] x0 true hx0 HL _).mono ?_; rintro e w1 ⟨rfl, rfl⟩) | (go_at_call 159; refine (specKeyWord_any s _).mono ?_; rw [HK.out]; rintro e w2 ⟨rfl, hb2⟩))
      go_ret
      exact ⟨by rw [HN.out]; rfl, hb2⟩
    · have HK : Hid (isKey s = false) := (by simpa using hk : isKey s = false)
      clear hk
      go_enter Tryz.func110, Tryz.ntmps110
      go_wp2_with (first | (go_at_call 63; refine (l01In_yes _ _ _ _ h1 h8).mono ?_; rintro e w1 ⟨rfl, rfl⟩) | (go_at_call 80; refine (l03Letter_at s[0] x0 true hx0 HL _).mono ?_; rintro e w1 ⟨rfl, rfl⟩) | (go_at_call 159; refine (specKeyWord_any s _).mono ?_; rw [HK.out]; rintro e w2 ⟨rfl, hb2⟩))
      have HB : Hid (Below _ _ w2) := hb2
      clear hb2 hi0
      go_loop [3] (fun i => ∃ k : Nat, k ≤ s.size ∧ i = .int .i64 (k : Int) ∧ Hid (∀ j, (hj : j < s.size) → j < k → isLF s[j] = true)) (fun i => s.size - (intOf i).toNat)
      case atStart => exact ⟨0, Nat.zero_le _, rfl, fun j _ hj => by omega⟩
      case round =>
        obtain ⟨k, hk, rfl, HF⟩ := hrel
        by_cases hlt : k < s.size
        · have hk1 : (k : Int) < (s.size : Int) := by omega
          obtain ⟨x, hx⟩ : ∃ x : Int, Hid (x = (s[k].toNat : Int)) := ⟨_, (rfl : (s[k].toNat : Int) = (s[k].toNat : Int))⟩
          have hik := index_at Tryz.underlying9 s k hlt (k : Int) x rfl hx.out
          obtain ⟨b1, hb1⟩ : ∃ b, Hid (isLet s[k] = b) := ⟨_, (rfl : isLet s[k] = isLet s[k])⟩
          obtain ⟨b2, hb2⟩ : ∃ b, Hid (isFig s[k] = b) := ⟨_, (rfl : isFig s[k] = isFig s[k])⟩
          cases b1
          · cases b2
            · have HN : Hid (nameOk s = false) := nameOk_bad hlt (by simp [isLF, hb1.out, hb2.out])
              go_wp2_with (first | (go_at_call 80; refine (l03Letter_at s[k] x false hx hb1 _).mono ?_; rintro e w1 ⟨rfl, rfl⟩) | (go_at_call 81; refine (l03Figure_at s[k] x false hx hb2 _).mono ?_; rintro e w1 ⟨rfl, rfl⟩))
              go_ret
              exact ⟨by rw [HN.out]; rfl, HB.out⟩
            · go_wp2_with (first | (go_at_call 80; refine (l03Letter_at s[k] x false hx hb1 _).mono ?_; rintro e w1 ⟨rfl, rfl⟩) | (go_at_call 81; refine (l03Figure_at s[k] x true hx hb2 _).mono ?_; rintro e w1 ⟨rfl, rfl⟩))
              go_round
              case rel => exact ⟨k + 1, by omega, by go_num, fun j hj hjk => by
                rcases Nat.lt_or_ge j k with h | h
                · exact HF.out j hj h
                · obtain rfl : j = k := by omega
                  simp [isLF, hb1.out, hb2.out]⟩
              case measure => simp [intOf]; omega
          · go_wp2_with (first | (go_at_call 80; refine (l03Letter_at s[k] x true hx hb1 _).mono ?_; rintro e w1 ⟨rfl, rfl⟩) | (go_at_call 81; refine (l03Figure_at s[k] x b2 hx hb2 _).mono ?_; rintro e w1 ⟨rfl, rfl⟩))
            go_round
            case rel => exact ⟨k + 1, by omega, by go_num, fun j hj hjk => by
              rcases Nat.lt_or_ge j k with h | h
              · exact HF.out j hj h
              · obtain rfl : j = k := by omega
                simp [isLF, hb1.out]⟩
            case measure => simp [intOf]; omega
        · have HN : Hid (nameOk s = true) := nameOk_good h0 (by omega) HL.out HK.out (fun j hj => HF.out j hj (by omega))
          go_wp2
          go_ret
          exact ⟨by rw [HN.out]; rfl, HB.out⟩
  · have HL : Hid (isLet s[0] = false) := (by simpa using hl : isLet s[0] = false)
    have HN : Hid (nameOk s = false) := nameOk_head h0 HL.out
    clear hl
    go_enter Tryz.func110, Tryz.ntmps110
    go_wp2_with (first | (go_at_call 63; refine (l01In_yes _ _ _ _ h1 h8).mono ?_; rintro e w1 ⟨rfl, rfl⟩) | (go_at_call 80; refine (l03Letter_at s[0] x0 false hx0 HL _).mono ?_; rintro e w1 ⟨rfl, rfl⟩))
    go_ret
    exact ⟨by rw [HN.out]; rfl, Below.refl _ _⟩

end Go.Proofs.YtbanmldmdoedkaaGreatDoor
