/-
  Chapter 1, plainly: numbers and texts come back from their spellings. No program, no world.
-/
import Derived.Test.YtbanmldmdoedkaaDoorPlain2
import Derived.Test.YtbanmldmdoedkaaDoorPa
namespace Go.Proofs.YtbanmldmdoedkaaDoor

/-! ### VarText -/
theorem drop_at {t : ByteArray} {j : Nat} {b : UInt8} {r : List UInt8} (h : t.data.toList.drop j = b :: r) : ∃ hj : j < t.size, t[j] = b ∧ t.data.toList.drop (j + 1) = r := by
  have hl : j < t.data.toList.length := by
    rcases Nat.lt_or_ge j t.data.toList.length with h' | h'
    · exact h'
    · rw [List.drop_eq_nil_of_le h'] at h
      cases h
  have hj : j < t.size := by rw [tlen] at hl; exact hl
  rw [List.drop_eq_getElem_cons hl] at h
  injection h with h1 h2
  exact ⟨hj, h1, h2⟩

theorem rvAt_var (t : ByteArray) (a : Nat) : ∀ (f m k n : Nat) (r : List UInt8), m ≤ f → (k = 0 ∨ 0 < m) → k < 5 → n + m * 128 ^ k ≤ 1000000000 →
    t.data.toList.drop (a + k) = ((varB m).map fun x => UInt8.ofNat x.toNat) ++ r → rvAt t a k n = some (n + m * 128 ^ k, a + k + (varB m).length) := by
  intro f
  induction f with
  | zero =>
    intro m k n r hm h0 hk hN hd
    obtain rfl : m = 0 := by omega
    rw [varB_small (by omega)] at hd ⊢
    obtain ⟨hj, hb, _⟩ := drop_at (b := 0) (r := r) (by simpa using hd)
    rw [rvAt_good rfl hk hj (by rw [hb]; decide) (by rw [hb]; simp; omega), hb]
    simp
  | succ f ih =>
    intro m k n r hm h0 hk hN hd
    by_cases h : m < 128
    · rw [varB_small h] at hd ⊢
      obtain ⟨hj, hb, _⟩ := drop_at (b := UInt8.ofNat m) (r := r) (by simpa using hd)
      have hbn : t[a + k].toNat = m := by rw [hb, UInt8.toNat_ofNat']; omega
      rw [rvAt_good rfl hk hj (by rw [hbn]; exact h) (by rw [hbn, Nat.mod_eq_of_lt h]; omega), hbn, Nat.mod_eq_of_lt h]
      simp
    · rw [varB_big h] at hd ⊢
      obtain ⟨hj, hb, hr⟩ := drop_at (t := t) (j := a + k) (b := UInt8.ofNat (m % 128 + 128)) (r := ((varB (m / 128)).map fun x => UInt8.ofNat x.toNat) ++ r) hd
      have hbn : t[a + k].toNat = m % 128 + 128 := by rw [hb, UInt8.toNat_ofNat']; omega
      have hp : 0 < 128 ^ k := Nat.pos_of_ne_zero (by simp)
      have hs : n + m % 128 * 128 ^ k + m / 128 * 128 ^ (k + 1) = n + m * 128 ^ k := by
        have : m * 128 ^ k = (128 * (m / 128) + m % 128) * 128 ^ k := by rw [Nat.div_add_mod]
        rw [this, Nat.pow_succ, Nat.add_mul, Nat.mul_comm 128 (m / 128), Nat.mul_assoc, Nat.mul_comm 128 (128 ^ k)]
        omega
      have hk4 : k + 1 < 5 := by
        rcases Nat.lt_or_ge k 4 with h' | h'
        · omega
        · obtain rfl : k = 4 := by omega
          have : 128 * 128 ^ 4 ≤ m * 128 ^ 4 := Nat.mul_le_mul_right _ (by omega)
          omega
      rw [rvAt_more rfl hk hj (by rw [hbn]; omega), hbn, show (m % 128 + 128) % 128 = m % 128 by omega,
        ih (m / 128) (k + 1) (n + m % 128 * 128 ^ k) r (by omega) (.inr (by omega)) hk4 (by rw [hs]; exact hN) (by rw [← Nat.add_assoc]; exact hr), hs]
      simp only [List.length_cons]
      congr 2
      omega

theorem rvAt_spelt (t : ByteArray) (a m : Nat) (r : List UInt8) (hm : m ≤ 1000000000) (hd : t.data.toList.drop a = (strOfNums (varB m)).data.toList ++ r) : rvAt t a 0 0 = some (m, a + (varB m).length) := by
  have := rvAt_var t a m m 0 0 r (Nat.le_refl _) (.inl rfl) (by omega) (by omega) (by rw [Nat.add_zero, hd, strOfNums_data])
  simpa using this

/-! ### Decimal -/
theorem valD_dec : ∀ (f m : Nat), m ≤ f → valD (Lib.decDigits m) = m ∧ (∀ c ∈ Lib.decDigits m, isFig c = true) ∧ ∀ k, 0 < k → m < 10 ^ k → (Lib.decDigits m).length ≤ k := by
  intro f
  induction f with
  | zero =>
    intro m hm
    obtain rfl : m = 0 := by omega
    have : Lib.decDigits 0 = [48] := by rw [Lib.decDigits, dif_pos (by omega)]; rfl
    rw [this]
    refine ⟨rfl, by decide, fun k hk _ => by simp; omega⟩
  | succ f ih =>
    intro m hm
    by_cases h : m < 10
    · have : Lib.decDigits m = [UInt8.ofNat (48 + m)] := by rw [Lib.decDigits, dif_pos h]
      rw [this]
      refine ⟨?_, ?_, fun k hk _ => by simp; omega⟩
      · simp [valD]
        omega
      · intro c hc
        simp at hc
        subst hc
        simp [isFig]
        omega
    · rw [dec_big h]
      obtain ⟨h1, h2, h3⟩ := ih (m / 10) (by omega)
      refine ⟨?_, ?_, ?_⟩
      · rw [valD_snoc, h1, UInt8.toNat_ofNat']
        omega
      · intro c hc
        rcases List.mem_append.mp hc with h | h
        · exact h2 c h
        · simp at h
          subst h
          simp [isFig]
          omega
      · intro k hk hlt
        cases k with
        | zero => omega
        | succ k =>
          rcases Nat.eq_zero_or_pos k with rfl | hk0
          · simp at hlt
            omega
          · have := h3 k hk0 (by rw [Nat.pow_succ] at hlt; omega)
            simp
            omega
theorem rd_dec (m : Nat) (hm : m ≤ 1000000000) : rdOut ⟨(Lib.decDigits m).toArray⟩ = ((m : Int), true) := by
  obtain ⟨h1, h2, h3⟩ := valD_dec m m (Nat.le_refl _)
  have hl : (Lib.decDigits m).length ≤ 10 := h3 10 (by omega) (by omega)
  have hs : (⟨(Lib.decDigits m).toArray⟩ : ByteArray).size = (Lib.decDigits m).length := by simp [ByteArray.size]
  have hne : 0 < (Lib.decDigits m).length := List.length_pos_iff.mpr (dec_ne m)
  rw [rd_good (by rw [hs]; exact hl) (by simpa using h2) (by rw [hs]; exact hne) ?_ (by simpa [h1] using hm)]
  · simp [h1]
  · rintro ⟨ha, hb⟩
    rcases Nat.eq_zero_or_pos m with rfl | hp
    · rw [hs] at hb
      have := h3 1 (by omega) (by omega)
      omega
    · exact dec_head hp (by simpa using ha)

/-! ### Hex -/
theorem valI_figI {x : Int} (h0 : 0 ≤ x) (h1 : x ≤ 15) : valI (((UInt8.ofNat (figI x).toNat).toNat : Nat) : Int) = x := by
  have : x = 0 ∨ x = 1 ∨ x = 2 ∨ x = 3 ∨ x = 4 ∨ x = 5 ∨ x = 6 ∨ x = 7 ∨ x = 8 ∨ x = 9 ∨ x = 10 ∨ x = 11 ∨ x = 12 ∨ x = 13 ∨ x = 14 ∨ x = 15 := by omega
  rcases this with rfl | rfl | rfl | rfl | rfl | rfl | rfl | rfl | rfl | rfl | rfl | rfl | rfl | rfl | rfl | rfl <;> decide

theorem hex_figs (l : List UInt8) : ∀ i, i < l.length → figAt (strOfNums (hexB l)) (2 * i) = ((l.getD i 0).toNat : Int) / 16 ∧ figAt (strOfNums (hexB l)) (2 * i + 1) = ((l.getD i 0).toNat : Int) % 16 := by
  induction l with
  | nil => intro i hi; simp at hi
  | cons c l ih =>
    intro i hi
    have hc := c.toNat_lt
    have hd : (strOfNums (hexB (c :: l))).data.toList = UInt8.ofNat (figI ((c.toNat : Int) / 16)).toNat :: UInt8.ofNat (figI ((c.toNat : Int) % 16)).toNat :: (strOfNums (hexB l)).data.toList := by
      rw [strOfNums_data, strOfNums_data]
      simp [hexB]
    unfold figAt
    rw [hd]
    cases i with
    | zero =>
      simp only [Nat.mul_zero, Nat.zero_add, List.getD_cons_zero, List.getD_cons_succ]
      exact ⟨valI_figI (by omega) (by omega), valI_figI (by omega) (by omega)⟩
    | succ i =>
      rw [show 2 * (i + 1) = (2 * i) + 1 + 1 by omega, show 2 * i + 1 + 1 + 1 = (2 * i + 1) + 1 + 1 by omega]
      simp only [List.getD_cons_succ]
      exact ih i (by simpa using hi)
theorem uh_hex (l : List UInt8) : uh (strOfNums (hexB l)) = (⟨l.toArray⟩, true) := by
  have hs : (strOfNums (hexB l)).size = 2 * l.length := by rw [strOfNums_size, hexB_len]
  have hf : Figs (strOfNums (hexB l)) (strOfNums (hexB l)).size := by
    intro i hi
    rw [hs] at hi
    obtain ⟨h1, h2⟩ := hex_figs l (i / 2) (by omega)
    rcases Nat.mod_two_eq_zero_or_one i with he | he
    · rw [show i = 2 * (i / 2) by omega, h1]
      omega
    · rw [show i = 2 * (i / 2) + 1 by omega, h2]
      omega
  rw [uh_good hf, hs, show 2 * l.length / 2 = l.length by omega]
  congr 1
  have : pairs (strOfNums (hexB l)) l.length = l.map fun b => (b.toNat : Int) := by
    unfold pairs
    apply List.ext_getElem
    · simp
    · intro i h1 h2
      simp only [List.length_map] at h2
      obtain ⟨e1, e2⟩ := hex_figs l i h2
      simp only [List.getElem_map, List.getElem_range]
      rw [e1, e2]
      simp [List.getD, h2]
      omega
  rw [this]
  unfold strOfNums
  rw [List.map_map]
  have : ((fun n : Int => UInt8.ofNat n.toNat) ∘ fun b : UInt8 => (b.toNat : Int)) = id := by
    funext b
    simp
  rw [this, List.map_id]

end Go.Proofs.YtbanmldmdoedkaaDoor
