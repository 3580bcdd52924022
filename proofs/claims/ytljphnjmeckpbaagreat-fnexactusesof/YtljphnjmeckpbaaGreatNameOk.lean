/-
  NameOk, in the model: what it answers at every text.
-/
import Derived.Test.YtljphnjmeckpbaaGreatNames
import Derived.Test.YtljphnjmeckpbaaGreatWords
namespace Go.Proofs.YtljphnjmeckpbaaGreat
open Go.RowKit

theorem nameOk_size {s : ByteArray} (h : s.size < 1 ∨ 8 < s.size) : nameOk s = false := by
  unfold nameOk
  rcases h with h | h
  · rw [decide_eq_false (p := 1 ≤ s.size) (by omega)]; rfl
  · rw [decide_eq_false (p := s.size ≤ 8) (by omega)]; simp
theorem nameOk_head {s : ByteArray} (h : 0 < s.size) (hl : isLet s[0] = false) : nameOk s = false := by
  unfold nameOk
  rw [head_at h]
  simp [hl]
theorem nameOk_key {s : ByteArray} (h : isKey s = true) : nameOk s = false := by
  unfold nameOk
  simp [h]
theorem nameOk_bad {s : ByteArray} {k : Nat} (hk : k < s.size) (h : isLF s[k] = false) : nameOk s = false := by
  have : s.data.toList.all isLF = false := by
    rw [List.all_eq_false]
    exact ⟨s[k], List.getElem_mem (by rw [tlen]; exact hk), by simp [h]⟩
  unfold nameOk
  simp [this]
theorem nameOk_good {s : ByteArray} (h0 : 0 < s.size) (h8 : s.size ≤ 8) (hl : isLet s[0] = true) (hk : isKey s = false) (h : ∀ j, (hj : j < s.size) → isLF s[j] = true) : nameOk s = true := by
  have : s.data.toList.all isLF = true := by
    rw [List.all_eq_true]
    intro x hx
    obtain ⟨j, hj, rfl⟩ := List.getElem_of_mem hx
    exact h j (by rw [tlen] at hj; exact hj)
  unfold nameOk
  rw [head_at h0]
  simp [hl, hk, this]
  omega

set_option maxHeartbeats 800000 in
theorem specNameOk_any (s : ByteArray) (w : World) (hs : s.size ≤ 1048576) :
    Calls Tryz.prog 75 #[.string s] w fun e w' => e = .returned (.bool (nameOk s)) ∧ Below w.heap.size w w' := by
  by_cases h18 : s.size < 1 ∨ 8 < s.size
  · have HN : Hid (nameOk s = false) := nameOk_size h18
    have h18' : (s.size : Int) < 1 ∨ 8 < (s.size : Int) := by omega
    go_enter Tryz.func75, Tryz.ntmps75
    go_wp2_with (go_at_call 45; refine (l01In_no _ _ _ _ h18').mono ?_; rintro e w1 ⟨rfl, rfl⟩)
    go_ret
    exact ⟨by rw [HN.out]; rfl, Below.refl _ _⟩
  have h1 : (1 : Int) ≤ (s.size : Int) := by omega
  have h8 : (s.size : Int) ≤ 8 := by omega
  have h0 : 0 < s.size := by omega
  obtain ⟨x0, hx0⟩ : ∃ x : Int, Hid (x = (s[0].toNat : Int)) := ⟨_, (rfl : (s[0].toNat : Int) = (s[0].toNat : Int))⟩
  have hi0 := index_at Tryz.underlying9 s 0 h0 0 x0 rfl hx0.out
  by_cases hl : isLet s[0] = true
  · have HL : Hid (isLet s[0] = true) := hl
    clear hl
    by_cases hk : isKey s = true
    · have HN : Hid (nameOk s = false) := nameOk_key hk
      have HK : Hid (isKey s = true) := hk
      clear hk
      go_enter Tryz.func75, Tryz.ntmps75
      go_wp2_with (first | (go_at_call 45; refine (l01In_yes _ _ _ _ h1 h8).mono ?_; rintro e w1 ⟨rfl, rfl⟩) | (go_at_call 109; refine (l03Letter_at s[0] x0 true hx0 HL _).mono ?_; rintro e w1 ⟨rfl, rfl⟩) | (go_at_call 110; refine (specKeyWord_any s _).mono ?_; rw [HK.out]; rintro e w2 ⟨rfl, hb2⟩))
      go_ret
      exact ⟨by rw [HN.out]; rfl, hb2⟩
    · have HK : Hid (isKey s = false) := (by simpa using hk : isKey s = false)
      clear hk
      go_enter Tryz.func75, Tryz.ntmps75
      go_wp2_with (first | (go_at_call 45; refine (l01In_yes _ _ _ _ h1 h8).mono ?_; rintro e w1 ⟨rfl, rfl⟩) | (go_at_call 109; refine (l03Letter_at s[0] x0 true hx0 HL _).mono ?_; rintro e w1 ⟨rfl, rfl⟩) | (go_at_call 110; refine (specKeyWord_any s _).mono ?_; rw [HK.out]; rintro e w2 ⟨rfl, hb2⟩))
      have HB : Hid (Below _ _ w2) := hb2
      clear hb2 hi0
      go_loop [3] (fun i => ∃ k : Nat, k ≤ s.size ∧ i = .int .i64 (k : Int) ∧ Hid (∀ j, (hj : j < s.size) → j < k → isLF s[j] = true)) (fun i => s.size - (intOf i).toNat)
      case atStart => exact ⟨0, Nat.zero_le _, rfl, fun j _ hj => by omega⟩
      case round =>
        obtain ⟨k, hk, rfl, HF⟩ := hrel
        by_cases hlt : k < s.size
        · have hk1 : (k : Int) < (s.size : Int) := by omega
          obtain ⟨x, hx⟩ : ∃ x : Int, Hid (x = (s[k].toNat : Int)) := ⟨_, (rfl : (s[k].toNat : Int) = (s[k].toNat : Int))⟩
          have hik := index_at Tryz.underlying9 s k hlt (k : Int) x rfl hx.out
          obtain ⟨b1, hb1⟩ : ∃ b, Hid (isLet s[k] = b) := ⟨_, (rfl : isLet s[k] = isLet s[k])⟩
          obtain ⟨b2, hb2⟩ : ∃ b, Hid (isFig s[k] = b) := ⟨_, (rfl : isFig s[k] = isFig s[k])⟩
          cases b1
          · cases b2
            · have HN : Hid (nameOk s = false) := nameOk_bad hlt (by simp [isLF, hb1.out, hb2.out])
              go_wp2_with (first | (go_at_call 109; refine (l03Letter_at s[k] x false hx hb1 _).mono ?_; rintro e w1 ⟨rfl, rfl⟩) | (go_at_call 111; refine (l03Figure_at s[k] x false hx hb2 _).mono ?_; rintro e w1 ⟨rfl, rfl⟩))
              go_ret
              exact ⟨by rw [HN.out]; rfl, HB.out⟩
            · go_wp2_with (first | (go_at_call 109; refine (l03Letter_at s[k] x false hx hb1 _).mono ?_; rintro e w1 ⟨rfl, rfl⟩) | (go_at_call 111; refine (l03Figure_at s[k] x true hx hb2 _).mono ?_; rintro e w1 ⟨rfl, rfl⟩))
              go_round
              case rel => exact ⟨k + 1, by omega, by go_num, fun j hj hjk => by
                rcases Nat.lt_or_ge j k with h | h
                · exact HF.out j hj h
                · obtain rfl : j = k := by omega
                  simp [isLF, hb1.out, hb2.out]⟩
              case measure => simp [intOf]; omega
          · go_wp2_with (first | (go_at_call 109; refine (l03Letter_at s[k] x true hx hb1 _).mono ?_; rintro e w1 ⟨rfl, rfl⟩) | (go_at_call 111; refine (l03Figure_at s[k] x b2 hx hb2 _).mono ?_; rintro e w1 ⟨rfl, rfl⟩))
            go_round
            case rel => exact ⟨k + 1, by omega, by go_num, fun j hj hjk => by
              rcases Nat.lt_or_ge j k with h | h
              · exact HF.out j hj h
              · obtain rfl : j = k := by omega
                simp [isLF, hb1.out]⟩
            case measure => simp [intOf]; omega
        · have HN : Hid (nameOk s = true) := nameOk_good h0 (by omega) HL.out HK.out (fun j hj => HF.out j hj (by omega))
          go_wp2
          go_ret
          exact ⟨by rw [HN.out]; rfl, HB.out⟩
  · have HL : Hid (isLet s[0] = false) := (by simpa using hl : isLet s[0] = false)
    have HN : Hid (nameOk s = false) := nameOk_head h0 HL.out
    clear hl
    go_enter Tryz.func75, Tryz.ntmps75
    go_wp2_with (first | (go_at_call 45; refine (l01In_yes _ _ _ _ h1 h8).mono ?_; rintro e w1 ⟨rfl, rfl⟩) | (go_at_call 109; refine (l03Letter_at s[0] x0 false hx0 HL _).mono ?_; rintro e w1 ⟨rfl, rfl⟩))
    go_ret
    exact ⟨by rw [HN.out]; rfl, Below.refl _ _⟩

end Go.Proofs.YtljphnjmeckpbaaGreat
