/-
  Chapter 1, plainly: numbers as rows of bytes, figures. No program, no world.
-/
import Derived.Laws.BytesArg
import Derived.Laws.Strings
import Derived.Lib.Strings
namespace Go.Proofs.YtljphnjmeckpbaaGreat

/-- The bytes of a number, with fuel: seven bits each, the lowest first, 128 more on all but the last. -/
def varF : Nat → Nat → List Int
  | 0, m => [(m : Int)]
  | f + 1, m => if m < 128 then [(m : Int)] else ((m % 128 + 128 : Nat) : Int) :: varF f (m / 128)
def varB (m : Nat) : List Int := varF m m

theorem varF_eq : ∀ (f g m : Nat), m ≤ f → m ≤ g → varF f m = varF g m
  | 0, 0, _, _, _ => rfl
  | 0, g + 1, m, hf, _ => by
    have : m = 0 := by omega
    subst this
    simp [varF]
  | f + 1, 0, m, _, hg => by
    have : m = 0 := by omega
    subst this
    simp [varF]
  | f + 1, g + 1, m, hf, hg => by
    simp only [varF]
    by_cases h : m < 128
    · rw [if_pos h, if_pos h]
    · rw [if_neg h, if_neg h, varF_eq f g (m / 128) (by omega) (by omega)]
theorem varB_small {m : Nat} (h : m < 128) : varB m = [(m : Int)] := by
  unfold varB
  cases m with
  | zero => rfl
  | succ m => rw [varF, if_pos h]
theorem varB_big {m : Nat} (h : ¬ m < 128) : varB m = ((m % 128 + 128 : Nat) : Int) :: varB (m / 128) := by
  unfold varB
  cases m with
  | zero => omega
  | succ m =>
    rw [varF, if_neg h, varF_eq m ((m + 1) / 128) ((m + 1) / 128) (by omega) (Nat.le_refl _)]
theorem varB_len (m : Nat) : (varB m).length ≤ m + 1 := by
  induction m using Nat.strongRecOn with
  | _ m ih =>
    by_cases h : m < 128
    · rw [varB_small h]; simp
    · rw [varB_big h]
      have := ih (m / 128) (by omega)
      simp only [List.length_cons]
      omega

/-- A number read from place a on; k bytes have been read, they make n; f bytes more may be read. -/
def rvF : Nat → ByteArray → Nat → Nat → Nat → Option (Nat × Nat)
  | 0, _, _, _, _ => none
  | f + 1, t, a, k, n =>
    if h : a + k < t.size then
      if t[a + k].toNat < 128 then
        if (t[a + k].toNat = 0 ∧ 0 < k) ∨ 1000000000 < n + t[a + k].toNat % 128 * 128 ^ k then none else some (n + t[a + k].toNat % 128 * 128 ^ k, a + k + 1)
      else rvF f t a (k + 1) (n + t[a + k].toNat % 128 * 128 ^ k)
    else none
def rvAt (t : ByteArray) (a k n : Nat) : Option (Nat × Nat) := rvF (5 - k) t a k n

theorem rvAt_five {t : ByteArray} {a k n : Nat} (hk : ¬ k < 5) : rvAt t a k n = none := by
  unfold rvAt
  rw [show 5 - k = 0 by omega]
  rfl
theorem rvAt_step {t : ByteArray} {a k n : Nat} (hk : k < 5) : rvAt t a k n = if h : a + k < t.size then
      if t[a + k].toNat < 128 then
        if (t[a + k].toNat = 0 ∧ 0 < k) ∨ 1000000000 < n + t[a + k].toNat % 128 * 128 ^ k then none else some (n + t[a + k].toNat % 128 * 128 ^ k, a + k + 1)
      else rvAt t a (k + 1) (n + t[a + k].toNat % 128 * 128 ^ k)
    else none := by
  unfold rvAt
  rw [show 5 - k = (5 - (k + 1)) + 1 by omega, rvF]
theorem rvAt_end {t : ByteArray} {a k n : Nat} (h : ¬ a + k < t.size) : rvAt t a k n = none := by
  by_cases hk : k < 5
  · rw [rvAt_step hk, dif_neg h]
  · exact rvAt_five hk
theorem rvAt_more {t : ByteArray} {a k n j : Nat} (hj : a + k = j) (hk : k < 5) (h : j < t.size) (hb : ¬ t[j].toNat < 128) : rvAt t a k n = rvAt t a (k + 1) (n + t[j].toNat % 128 * 128 ^ k) := by
  subst hj
  rw [rvAt_step hk, dif_pos h, if_neg hb]
theorem rvAt_bad {t : ByteArray} {a k n j : Nat} (hj : a + k = j) (hk : k < 5) (h : j < t.size) (hb : t[j].toNat < 128) (hx : (t[j].toNat = 0 ∧ 0 < k) ∨ 1000000000 < n + t[j].toNat % 128 * 128 ^ k) :
    rvAt t a k n = none := by
  subst hj
  rw [rvAt_step hk, dif_pos h, if_pos hb, if_pos hx]
theorem rvAt_good {t : ByteArray} {a k n j : Nat} (hj : a + k = j) (hk : k < 5) (h : j < t.size) (hb : t[j].toNat < 128) (hx : ¬ ((t[j].toNat = 0 ∧ 0 < k) ∨ 1000000000 < n + t[j].toNat % 128 * 128 ^ k)) :
    rvAt t a k n = some (n + t[j].toNat % 128 * 128 ^ k, j + 1) := by
  subst hj
  rw [rvAt_step hk, dif_pos h, if_pos hb, if_neg hx]

/-- Three results, as they come: a number, the place behind it, true; or nothing, and false. -/
def rvOut : Option (Nat × Nat) → Int × Int × Bool
  | some (n, j) => ((n : Int), (j : Int), true)
  | none => (0, 0, false)

/-- The bytes of a text from place a up to place j. -/
def seg (t : ByteArray) (a j : Nat) : List UInt8 := (t.data.toList.drop a).take (j - a)
theorem seg_nil (t : ByteArray) (a : Nat) : seg t a a = [] := by simp [seg]
theorem seg_snoc {t : ByteArray} {a j : Nat} (ha : a ≤ j) (hj : j < t.size) : seg t a (j + 1) = seg t a j ++ [t[j]] := by
  unfold seg
  have hl : t.data.toList.length = t.size := by rw [Array.length_toList]; rfl
  have h1 : j - a < (t.data.toList.drop a).length := by simp only [List.length_drop]; omega
  rw [show j + 1 - a = (j - a) + 1 by omega, List.take_succ_eq_append_getElem h1]
  congr 2
  rw [List.getElem_drop]
  simp only [show a + (j - a) = j by omega]
  rfl
theorem seg_length {t : ByteArray} {a j : Nat} (hj : j ≤ t.size) : (seg t a j).length = j - a := by
  have hl : t.data.toList.length = t.size := by rw [Array.length_toList]; rfl
  unfold seg
  simp only [List.length_take, List.length_drop]
  omega
theorem extract_seg (t : ByteArray) (a j : Nat) : (t.extract a j).toList = seg t a j := by
  rw [ByteArray.toList_eq, Lib.extract_data]
  rfl

/-- What bytes make: seven bits each, the lowest first. -/
def valB : List UInt8 → Nat
  | [] => 0
  | b :: l => b.toNat % 128 + 128 * valB l
theorem valB_snoc (l : List UInt8) (b : UInt8) : valB (l ++ [b]) = valB l + b.toNat % 128 * 128 ^ l.length := by
  induction l with
  | nil => simp [valB]
  | cons c l ih =>
    simp only [List.cons_append, valB, ih, List.length_cons, Nat.pow_succ]
    rw [Nat.mul_add, Nat.add_assoc]
    congr 2
    rw [Nat.mul_comm 128 (b.toNat % 128 * 128 ^ l.length), Nat.mul_assoc]

theorem varB_last {m : Nat} (h : 0 < m) : (varB m).getLast? ≠ some 0 := by
  induction m using Nat.strongRecOn with
  | _ m ih =>
    by_cases hm : m < 128
    · rw [varB_small hm]
      simp
      omega
    · rw [varB_big hm]
      have := ih (m / 128) (by omega) (by omega)
      have hne : varB (m / 128) ≠ [] := by
        intro h0
        have h1 : (varB (m / 128)).length = 0 := by rw [h0]; rfl
        by_cases h2 : m / 128 < 128
        · rw [varB_small h2] at h1
          simp at h1
        · rw [varB_big h2] at h1
          simp at h1
      rw [List.getLast?_cons_of_ne_nil hne]
      exact this
theorem varB_valB (l : List UInt8) (b : UInt8) (hl : ∀ c ∈ l, ¬ c.toNat < 128) (hb : b.toNat < 128) (h0 : b.toNat ≠ 0) :
    varB (valB (l ++ [b])) = (l ++ [b]).map fun c => (c.toNat : Int) := by
  induction l with
  | nil =>
    simp only [List.nil_append, valB, List.map_cons, List.map_nil]
    rw [show b.toNat % 128 + 128 * 0 = b.toNat by omega, varB_small hb]
  | cons c l ih =>
    have ih := ih (fun d hd => hl d (List.mem_cons_of_mem _ hd))
    have hpos : 0 < valB (l ++ [b]) := by
      rw [valB_snoc]
      have : 0 < 128 ^ l.length := Nat.pow_pos (by decide)
      have : 0 < b.toNat % 128 * 128 ^ l.length := Nat.mul_pos (by omega) this
      omega
    have hc := hl c List.mem_cons_self
    have hc2 : c.toNat < 256 := c.toNat_lt
    have e1 : valB (c :: l ++ [b]) = c.toNat % 128 + 128 * valB (l ++ [b]) := rfl
    rw [e1, varB_big (by omega), show (c.toNat % 128 + 128 * valB (l ++ [b])) / 128 = valB (l ++ [b]) by omega, ih, show (c.toNat % 128 + 128 * valB (l ++ [b])) % 128 + 128 = c.toNat by omega]
    rfl
theorem varB_not {l : List UInt8} {b : UInt8} (hne : l ≠ []) (hb : b.toNat = 0) (m : Nat) : varB m ≠ (l ++ [b]).map fun c => (c.toNat : Int) := by
  intro h
  by_cases hm : m = 0
  · subst hm
    rw [varB_small (by omega)] at h
    have := congrArg List.length h
    simp at this
    exact hne this
  · have := varB_last (m := m) (by omega)
    rw [h] at this
    simp [hb] at this

/-- Is the number spelt as VarText spells it? -/
theorem same_spelling (l : List UInt8) (b : UInt8) (hl : ∀ c ∈ l, ¬ c.toNat < 128) (hb : b.toNat < 128) :
    ((strOfNums (varB (valB (l ++ [b])))).toList == (l ++ [b])) = !(decide (b.toNat = 0 ∧ l ≠ [])) := by
  rw [ByteArray.toList_eq, strOfNums_data]
  by_cases h : b.toNat = 0 ∧ l ≠ []
  · have hlt : ∀ x ∈ varB (valB (l ++ [b])), 0 ≤ x ∧ x < 256 := by
      generalize valB (l ++ [b]) = m
      induction m using Nat.strongRecOn with
      | _ m ih =>
        by_cases hm : m < 128
        · rw [varB_small hm]; intro x hx; simp at hx; omega
        · rw [varB_big hm]
          intro x hx
          simp only [List.mem_cons] at hx
          rcases hx with rfl | hx
          · omega
          · exact ih (m / 128) (by omega) x hx
    have hn := varB_not h.2 h.1 (valB (l ++ [b]))
    have : (varB (valB (l ++ [b]))).map (fun n => UInt8.ofNat n.toNat) ≠ l ++ [b] := by
      generalize varB (valB (l ++ [b])) = xs at hlt hn
      intro e
      apply hn
      rw [← e, List.map_map]
      conv => lhs; rw [← List.map_id xs]
      apply List.map_congr_left
      intro x hx
      have := hlt x hx
      simp only [id, Function.comp, UInt8.toNat_ofNat']
      omega
    simp [h, this]
  · have hv : varB (valB (l ++ [b])) = (l ++ [b]).map fun c => (c.toNat : Int) := by
      by_cases h0 : b.toNat = 0
      · have hl0 : l = [] := by
          by_cases e : l = []
          · exact e
          · exact absurd ⟨h0, e⟩ h
        subst hl0
        simp only [List.nil_append, valB, List.map_cons, List.map_nil]
        rw [show b.toNat % 128 + 128 * 0 = b.toNat by omega, varB_small hb]
      · exact varB_valB l b hl hb h0
    rw [hv, List.map_map]
    have : (List.map ((fun n : Int => UInt8.ofNat n.toNat) ∘ fun c : UInt8 => (c.toNat : Int)) (l ++ [b])) = l ++ [b] := by
      conv => rhs; rw [← List.map_id (l ++ [b])]
      apply List.map_congr_left
      intro x _
      simp
    rw [this]
    simp [h]

theorem rvF_bounds : ∀ (f : Nat) (t : ByteArray) (a k n m j : Nat), rvF f t a k n = some (m, j) → m ≤ 1000000000 ∧ a < j ∧ j ≤ t.size
  | 0, _, _, _, _, _, _, h => by simp [rvF] at h
  | f + 1, t, a, k, n, m, j, h => by
    rw [rvF] at h
    by_cases h1 : a + k < t.size
    · rw [dif_pos h1] at h
      by_cases h2 : t[a + k].toNat < 128
      · rw [if_pos h2] at h
        by_cases h3 : (t[a + k].toNat = 0 ∧ 0 < k) ∨ 1000000000 < n + t[a + k].toNat % 128 * 128 ^ k
        · rw [if_pos h3] at h
          cases h
        · rw [if_neg h3] at h
          have h4 := Option.some.inj h
          have h5 := congrArg Prod.fst h4
          have h6 := congrArg Prod.snd h4
          simp only at h5 h6
          omega
      · rw [if_neg h2] at h
        exact rvF_bounds f t a (k + 1) _ m j h
    · rw [dif_neg h1] at h
      cases h
theorem rvAt_bounds {t : ByteArray} {a m j : Nat} (h : rvAt t a 0 0 = some (m, j)) : m ≤ 1000000000 ∧ a < j ∧ j ≤ t.size := rvF_bounds _ _ _ _ _ _ _ h

/-- A figure, of sixteen. -/
def figI (x : Int) : Int := if x < 10 then 48 + x else 87 + x
/-- The two figures of each byte. -/
def hexB (l : List UInt8) : List Int := l.flatMap fun c => [figI ((c.toNat : Int) / 16), figI ((c.toNat : Int) % 16)]
theorem hexB_snoc (l : List UInt8) (c : UInt8) : hexB (l ++ [c]) = hexB l ++ [figI ((c.toNat : Int) / 16), figI ((c.toNat : Int) % 16)] := by simp [hexB]
theorem hexB_len (l : List UInt8) : (hexB l).length = 2 * l.length := by
  induction l with
  | nil => rfl
  | cons c l ih =>
    have : hexB (c :: l) = [figI ((c.toNat : Int) / 16), figI ((c.toNat : Int) % 16)] ++ hexB l := rfl
    rw [this, List.length_append, ih]
    simp only [List.length_cons, List.length_nil]
    omega
theorem take_snoc {t : ByteArray} {k : Nat} (h : k < t.size) : t.data.toList.take (k + 1) = t.data.toList.take k ++ [t[k]] := by
  rw [List.take_succ_eq_append_getElem (by rw [Array.length_toList]; exact h)]
  rfl
theorem take_all (t : ByteArray) : t.data.toList.take t.size = t.data.toList := List.take_of_length_le (by rw [Array.length_toList]; exact Nat.le_refl _)
theorem take_len {t : ByteArray} {k : Nat} (h : k ≤ t.size) : (t.data.toList.take k).length = k := by
  have : t.data.toList.length = t.size := by rw [Array.length_toList]; rfl
  rw [List.length_take]
  omega

end Go.Proofs.YtljphnjmeckpbaaGreat
