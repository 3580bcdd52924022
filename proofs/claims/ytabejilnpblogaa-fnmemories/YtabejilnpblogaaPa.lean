/-
  Chapter 1, plainly: numbers as rows of bytes, figures. No program, no world.
  Figures of ten, plainly. No program, no world.
  Numbers read from figures of ten, plainly. No program, no world.
  Chapter 3, plainly: key words, names, signs read from a text. No program, no world.
  Chapter 4, plainly: nodes, and which are right. No program, no world.
  Chapter 4, plainly: params, functions, programs; how much a row holds. No program, no world.
  Chapter 4, plainly: where a function stands. No program, no world.
  Chapter 4, plainly: a right node, part by part, is a right node. No program, no world.
  Chapter 4, plainly: how deep nodes are. No program, no world.
  Chapter 4, plainly: how often numbers stand in a list; right functions; right programs. No program, no world.
  Chapter 4, plainly: what lies under a node. No program, no world.
  Chapter 6, plainly: values in words. No program, no world.
  Chapter 6, plainly: statements in words. No program, no world.
  Chapter 6, plainly: programs in words. No program, no world.
-/
import Derived.Laws.BytesArg
import Derived.Laws.Strings
import Derived.Lib.Strings
import Derived.Lib.ItoaLen
import Derived.Lib.SmallJoins
namespace Go.Proofs.Ytabejilnpblogaa

/-- The bytes of a number, with fuel: seven bits each, the lowest first, 128 more on all but the last. -/
def varF : Nat → Nat → List Int
  | 0, m => [(m : Int)]
  | f + 1, m => if m < 128 then [(m : Int)] else ((m % 128 + 128 : Nat) : Int) :: varF f (m / 128)
def varB (m : Nat) : List Int := varF m m

theorem varF_eq : ∀ (f g m : Nat), m ≤ f → m ≤ g → varF f m = varF g m
  | 0, 0, _, _, _ => rfl
  | 0, g + 1, m, hf, _ => by
    have : m = 0 := by omega
    subst this
    simp [varF]
  | f + 1, 0, m, _, hg => by
    have : m = 0 := by omega
    subst this
    simp [varF]
  | f + 1, g + 1, m, hf, hg => by
    simp only [varF]
    by_cases h : m < 128
    · rw [if_pos h, if_pos h]
    · rw [if_neg h, if_neg h, varF_eq f g (m / 128) (by omega) (by omega)]
theorem varB_small {m : Nat} (h : m < 128) : varB m = [(m : Int)] := by
  unfold varB
  cases m with
  | zero => rfl
  | succ m => rw [varF, if_pos h]
theorem varB_big {m : Nat} (h : ¬ m < 128) : varB m = ((m % 128 + 128 : Nat) : Int) :: varB (m / 128) := by
  unfold varB
  cases m with
  | zero => omega
  | succ m =>
    rw [varF, if_neg h, varF_eq m ((m + 1) / 128) ((m + 1) / 128) (by omega) (Nat.le_refl _)]
theorem varB_len (m : Nat) : (varB m).length ≤ m + 1 := by
  induction m using Nat.strongRecOn with
  | _ m ih =>
    by_cases h : m < 128
    · rw [varB_small h]; simp
    · rw [varB_big h]
      have := ih (m / 128) (by omega)
      simp only [List.length_cons]
      omega

/-- A number read from place a on; k bytes have been read, they make n; f bytes more may be read. -/
def rvF : Nat → ByteArray → Nat → Nat → Nat → Option (Nat × Nat)
  | 0, _, _, _, _ => none
  | f + 1, t, a, k, n =>
    if h : a + k < t.size then
      if t[a + k].toNat < 128 then
        if (t[a + k].toNat = 0 ∧ 0 < k) ∨ 1000000000 < n + t[a + k].toNat % 128 * 128 ^ k then none else some (n + t[a + k].toNat % 128 * 128 ^ k, a + k + 1)
      else rvF f t a (k + 1) (n + t[a + k].toNat % 128 * 128 ^ k)
    else none
def rvAt (t : ByteArray) (a k n : Nat) : Option (Nat × Nat) := rvF (5 - k) t a k n

theorem rvAt_five {t : ByteArray} {a k n : Nat} (hk : ¬ k < 5) : rvAt t a k n = none := by
  unfold rvAt
  rw [show 5 - k = 0 by omega]
  rfl
theorem rvAt_step {t : ByteArray} {a k n : Nat} (hk : k < 5) : rvAt t a k n = if h : a + k < t.size then
      if t[a + k].toNat < 128 then
        if (t[a + k].toNat = 0 ∧ 0 < k) ∨ 1000000000 < n + t[a + k].toNat % 128 * 128 ^ k then none else some (n + t[a + k].toNat % 128 * 128 ^ k, a + k + 1)
      else rvAt t a (k + 1) (n + t[a + k].toNat % 128 * 128 ^ k)
    else none := by
  unfold rvAt
  rw [show 5 - k = (5 - (k + 1)) + 1 by omega, rvF]
theorem rvAt_end {t : ByteArray} {a k n : Nat} (h : ¬ a + k < t.size) : rvAt t a k n = none := by
  by_cases hk : k < 5
  · rw [rvAt_step hk, dif_neg h]
  · exact rvAt_five hk
theorem rvAt_more {t : ByteArray} {a k n j : Nat} (hj : a + k = j) (hk : k < 5) (h : j < t.size) (hb : ¬ t[j].toNat < 128) : rvAt t a k n = rvAt t a (k + 1) (n + t[j].toNat % 128 * 128 ^ k) := by
  subst hj
  rw [rvAt_step hk, dif_pos h, if_neg hb]
theorem rvAt_bad {t : ByteArray} {a k n j : Nat} (hj : a + k = j) (hk : k < 5) (h : j < t.size) (hb : t[j].toNat < 128) (hx : (t[j].toNat = 0 ∧ 0 < k) ∨ 1000000000 < n + t[j].toNat % 128 * 128 ^ k) :
    rvAt t a k n = none := by
  subst hj
  rw [rvAt_step hk, dif_pos h, if_pos hb, if_pos hx]
theorem rvAt_good {t : ByteArray} {a k n j : Nat} (hj : a + k = j) (hk : k < 5) (h : j < t.size) (hb : t[j].toNat < 128) (hx : ¬ ((t[j].toNat = 0 ∧ 0 < k) ∨ 1000000000 < n + t[j].toNat % 128 * 128 ^ k)) :
    rvAt t a k n = some (n + t[j].toNat % 128 * 128 ^ k, j + 1) := by
  subst hj
  rw [rvAt_step hk, dif_pos h, if_pos hb, if_neg hx]

/-- Three results, as they come: a number, the place behind it, true; or nothing, and false. -/
def rvOut : Option (Nat × Nat) → Int × Int × Bool
  | some (n, j) => ((n : Int), (j : Int), true)
  | none => (0, 0, false)

/-- The bytes of a text from place a up to place j. -/
def seg (t : ByteArray) (a j : Nat) : List UInt8 := (t.data.toList.drop a).take (j - a)
theorem seg_nil (t : ByteArray) (a : Nat) : seg t a a = [] := by simp [seg]
theorem seg_snoc {t : ByteArray} {a j : Nat} (ha : a ≤ j) (hj : j < t.size) : seg t a (j + 1) = seg t a j ++ [t[j]] := by
  unfold seg
  have hl : t.data.toList.length = t.size := by rw [Array.length_toList]; rfl
  have h1 : j - a < (t.data.toList.drop a).length := by simp only [List.length_drop]; omega
  rw [show j + 1 - a = (j - a) + 1 by omega, List.take_succ_eq_append_getElem h1]
  congr 2
  rw [List.getElem_drop]
  simp only [show a + (j - a) = j by omega]
  rfl
theorem seg_length {t : ByteArray} {a j : Nat} (hj : j ≤ t.size) : (seg t a j).length = j - a := by
  have hl : t.data.toList.length = t.size := by rw [Array.length_toList]; rfl
  unfold seg
  simp only [List.length_take, List.length_drop]
  omega
theorem extract_seg (t : ByteArray) (a j : Nat) : (t.extract a j).toList = seg t a j := by
  rw [ByteArray.toList_eq, Lib.extract_data]
  rfl

/-- What bytes make: seven bits each, the lowest first. -/
def valB : List UInt8 → Nat
  | [] => 0
  | b :: l => b.toNat % 128 + 128 * valB l
theorem valB_snoc (l : List UInt8) (b : UInt8) : valB (l ++ [b]) = valB l + b.toNat % 128 * 128 ^ l.length := by
  induction l with
  | nil => simp [valB]
  | cons c l ih =>
    simp only [List.cons_append, valB, ih, List.length_cons, Nat.pow_succ]
    rw [Nat.mul_add, Nat.add_assoc]
    congr 2
    rw [Nat.mul_comm 128 (b.toNat % 128 * 128 ^ l.length), Nat.mul_assoc]

theorem varB_last {m : Nat} (h : 0 < m) : (varB m).getLast? ≠ some 0 := by
  induction m using Nat.strongRecOn with
  | _ m ih =>
    by_cases hm : m < 128
    · rw [varB_small hm]
      simp
      omega
    · rw [varB_big hm]
      have := ih (m / 128) (by omega) (by omega)
      have hne : varB (m / 128) ≠ [] := by
        intro h0
        have h1 : (varB (m / 128)).length = 0 := by rw [h0]; rfl
        by_cases h2 : m / 128 < 128
        · rw [varB_small h2] at h1
          simp at h1
        · rw [varB_big h2] at h1
          simp at h1
      rw [List.getLast?_cons_of_ne_nil hne]
      exact this
theorem varB_valB (l : List UInt8) (b : UInt8) (hl : ∀ c ∈ l, ¬ c.toNat < 128) (hb : b.toNat < 128) (h0 : b.toNat ≠ 0) :
    varB (valB (l ++ [b])) = (l ++ [b]).map fun c => (c.toNat : Int) := by
  induction l with
  | nil =>
    simp only [List.nil_append, valB, List.map_cons, List.map_nil]
    rw [show b.toNat % 128 + 128 * 0 = b.toNat by omega, varB_small hb]
  | cons c l ih =>
    have ih := ih (fun d hd => hl d (List.mem_cons_of_mem _ hd))
    have hpos : 0 < valB (l ++ [b]) := by
      rw [valB_snoc]
      have : 0 < 128 ^ l.length := Nat.pow_pos (by decide)
      have : 0 < b.toNat % 128 * 128 ^ l.length := Nat.mul_pos (by omega) this
      omega
    have hc := hl c List.mem_cons_self
    have hc2 : c.toNat < 256 := c.toNat_lt
    have e1 : valB (c :: l ++ [b]) = c.toNat % 128 + 128 * valB (l ++ [b]) := rfl
    rw [e1, varB_big (by omega), show (c.toNat % 128 + 128 * valB (l ++ [b])) / 128 = valB (l ++ [b]) by omega, ih, show (c.toNat % 128 + 128 * valB (l ++ [b])) % 128 + 128 = c.toNat by omega]
    rfl
theorem varB_not {l : List UInt8} {b : UInt8} (hne : l ≠ []) (hb : b.toNat = 0) (m : Nat) : varB m ≠ (l ++ [b]).map fun c => (c.toNat : Int) := by
  intro h
  by_cases hm : m = 0
  · subst hm
    rw [varB_small (by omega)] at h
    have := congrArg List.length h
    simp at this
    exact hne this
  · have := varB_last (m := m) (by omega)
    rw [h] at this
    simp [hb] at this

/-- Is the number spelt as VarText spells it? -/
theorem same_spelling (l : List UInt8) (b : UInt8) (hl : ∀ c ∈ l, ¬ c.toNat < 128) (hb : b.toNat < 128) :
    ((strOfNums (varB (valB (l ++ [b])))).toList == (l ++ [b])) = !(decide (b.toNat = 0 ∧ l ≠ [])) := by
  rw [ByteArray.toList_eq, strOfNums_data]
  by_cases h : b.toNat = 0 ∧ l ≠ []
  · have hlt : ∀ x ∈ varB (valB (l ++ [b])), 0 ≤ x ∧ x < 256 := by
      generalize valB (l ++ [b]) = m
      induction m using Nat.strongRecOn with
      | _ m ih =>
        by_cases hm : m < 128
        · rw [varB_small hm]; intro x hx; simp at hx; omega
        · rw [varB_big hm]
          intro x hx
          simp only [List.mem_cons] at hx
          rcases hx with rfl | hx
          · omega
          · exact ih (m / 128) (by omega) x hx
    have hn := varB_not h.2 h.1 (valB (l ++ [b]))
    have : (varB (valB (l ++ [b]))).map (fun n => UInt8.ofNat n.toNat) ≠ l ++ [b] := by
      generalize varB (valB (l ++ [b])) = xs at hlt hn
      intro e
      apply hn
      rw [← e, List.map_map]
      conv => lhs; rw [← List.map_id xs]
      apply List.map_congr_left
      intro x hx
      have := hlt x hx
      simp only [id, Function.comp, UInt8.toNat_ofNat']
      omega
    simp [h, this]
  · have hv : varB (valB (l ++ [b])) = (l ++ [b]).map fun c => (c.toNat : Int) := by
      by_cases h0 : b.toNat = 0
      · have hl0 : l = [] := by
          by_cases e : l = []
          · exact e
          · exact absurd ⟨h0, e⟩ h
        subst hl0
        simp only [List.nil_append, valB, List.map_cons, List.map_nil]
        rw [show b.toNat % 128 + 128 * 0 = b.toNat by omega, varB_small hb]
      · exact varB_valB l b hl hb h0
    rw [hv, List.map_map]
    have : (List.map ((fun n : Int => UInt8.ofNat n.toNat) ∘ fun c : UInt8 => (c.toNat : Int)) (l ++ [b])) = l ++ [b] := by
      conv => rhs; rw [← List.map_id (l ++ [b])]
      apply List.map_congr_left
      intro x _
      simp
    rw [this]
    simp [h]

theorem rvF_bounds : ∀ (f : Nat) (t : ByteArray) (a k n m j : Nat), rvF f t a k n = some (m, j) → m ≤ 1000000000 ∧ a < j ∧ j ≤ t.size
  | 0, _, _, _, _, _, _, h => by simp [rvF] at h
  | f + 1, t, a, k, n, m, j, h => by
    rw [rvF] at h
    by_cases h1 : a + k < t.size
    · rw [dif_pos h1] at h
      by_cases h2 : t[a + k].toNat < 128
      · rw [if_pos h2] at h
        by_cases h3 : (t[a + k].toNat = 0 ∧ 0 < k) ∨ 1000000000 < n + t[a + k].toNat % 128 * 128 ^ k
        · rw [if_pos h3] at h
          cases h
        · rw [if_neg h3] at h
          have h4 := Option.some.inj h
          have h5 := congrArg Prod.fst h4
          have h6 := congrArg Prod.snd h4
          simp only at h5 h6
          omega
      · rw [if_neg h2] at h
        exact rvF_bounds f t a (k + 1) _ m j h
    · rw [dif_neg h1] at h
      cases h
theorem rvAt_bounds {t : ByteArray} {a m j : Nat} (h : rvAt t a 0 0 = some (m, j)) : m ≤ 1000000000 ∧ a < j ∧ j ≤ t.size := rvF_bounds _ _ _ _ _ _ _ h

/-- A figure, of sixteen. -/
def figI (x : Int) : Int := if x < 10 then 48 + x else 87 + x
/-- The two figures of each byte. -/
def hexB (l : List UInt8) : List Int := l.flatMap fun c => [figI ((c.toNat : Int) / 16), figI ((c.toNat : Int) % 16)]
theorem hexB_snoc (l : List UInt8) (c : UInt8) : hexB (l ++ [c]) = hexB l ++ [figI ((c.toNat : Int) / 16), figI ((c.toNat : Int) % 16)] := by simp [hexB]
theorem hexB_len (l : List UInt8) : (hexB l).length = 2 * l.length := by
  induction l with
  | nil => rfl
  | cons c l ih =>
    have : hexB (c :: l) = [figI ((c.toNat : Int) / 16), figI ((c.toNat : Int) % 16)] ++ hexB l := rfl
    rw [this, List.length_append, ih]
    simp only [List.length_cons, List.length_nil]
    omega
theorem take_snoc {t : ByteArray} {k : Nat} (h : k < t.size) : t.data.toList.take (k + 1) = t.data.toList.take k ++ [t[k]] := by
  rw [List.take_succ_eq_append_getElem (by rw [Array.length_toList]; exact h)]
  rfl
theorem take_all (t : ByteArray) : t.data.toList.take t.size = t.data.toList := List.take_of_length_le (by rw [Array.length_toList]; exact Nat.le_refl _)
theorem take_len {t : ByteArray} {k : Nat} (h : k ≤ t.size) : (t.data.toList.take k).length = k := by
  have : t.data.toList.length = t.size := by rw [Array.length_toList]; rfl
  rw [List.length_take]
  omega

end Go.Proofs.Ytabejilnpblogaa

namespace Go.Proofs.Ytabejilnpblogaa

/-- The figures of a number that is not 0; none of 0. -/
def digs (u : Nat) : List UInt8 := if u = 0 then [] else Lib.decDigits u
theorem digs_zero : digs 0 = [] := rfl
theorem digs_pos {u : Nat} (h : 0 < u) : digs u = digs (u / 10) ++ [UInt8.ofNat (48 + u % 10)] := by
  unfold digs
  rw [if_neg (by omega)]
  by_cases h1 : u < 10
  · rw [if_pos (by omega), Lib.decDigits_one h1, show u % 10 = u by omega]
    rfl
  · rw [if_neg (by omega), Lib.decDigits, dif_neg h1]
theorem digs_all {u : Nat} (h : 0 < u) : digs u = Lib.decDigits u := if_neg (by omega)
theorem decDigits_le {u : Nat} (h : u < 18446744073709551616) : (Lib.decDigits u).length ≤ 20 := by rw [Lib.decDigits_length]; exact Lib.nDigits_le20 u h

theorem join_fig (x : Int) (S : ByteArray) : (strOfNums [x] ++ S).data.toList = UInt8.ofNat x.toNat :: S.data.toList := by
  rw [Go.Joins.data_append, strOfNums_data]
  rfl
theorem str_eq {S : ByteArray} {l : List UInt8} (h : S.data.toList = l) : S = ⟨l.toArray⟩ := by
  apply ByteArray.ext
  apply Array.toList_inj.1
  rw [h]
theorem step_digs {N u : Nat} {S : ByteArray} (hu : 0 < u) (h : Lib.decDigits N = digs u ++ S.data.toList) (x : Int) (hx : x.toNat = 48 + u % 10) :
    Lib.decDigits N = digs (u / 10) ++ (strOfNums [x] ++ S).data.toList := by
  rw [join_fig, hx, h, digs_pos hu]
  simp
theorem digs_short {N u : Nat} {S : ByteArray} (hN : N < 18446744073709551616) (h : Lib.decDigits N = digs u ++ S.data.toList) : S.size ≤ 20 := by
  have h1 := decDigits_le hN
  rw [h, List.length_append] at h1
  have : S.data.toList.length = S.size := by rw [Array.length_toList]; rfl
  omega

end Go.Proofs.Ytabejilnpblogaa

namespace Go.Proofs.Ytabejilnpblogaa

/-- Is a byte a figure of ten? -/
def isFig (c : UInt8) : Bool := decide (48 ≤ c.toNat) && decide (c.toNat ≤ 57)
/-- What figures of ten make. -/
def valD (l : List UInt8) : Nat := l.foldl (fun n c => 10 * n + (c.toNat - 48)) 0
theorem valD_nil : valD [] = 0 := rfl
theorem valD_snoc (l : List UInt8) (c : UInt8) : valD (l ++ [c]) = 10 * valD l + (c.toNat - 48) := by simp [valD]

theorem head_app {p q : List UInt8} (h : p ≠ []) : (p ++ q).head? = p.head? := by
  cases p with
  | nil => exact absurd rfl h
  | cons a p => rfl

theorem dec_ne (m : Nat) : Lib.decDigits m ≠ [] := by
  intro h
  have := congrArg List.length h
  rw [Lib.decDigits_length] at this
  have := Lib.nDigits_pos m
  simp at *
  omega
theorem dec_big {m : Nat} (h : ¬ m < 10) : Lib.decDigits m = Lib.decDigits (m / 10) ++ [UInt8.ofNat (48 + m % 10)] := by rw [Lib.decDigits, dif_neg h]
theorem dec_head {m : Nat} (h : 0 < m) : (Lib.decDigits m).head? ≠ some 48 := by
  induction m using Nat.strongRecOn with
  | _ m ih =>
    by_cases hm : m < 10
    · rw [Lib.decDigits_one hm]
      simp only [List.head?_cons, ne_eq, Option.some.injEq]
      intro e
      have := congrArg UInt8.toNat e
      simp at this
      omega
    · rw [dec_big hm, head_app (dec_ne _)]
      exact ih (m / 10) (by omega) (by omega)

theorem snoc_cases (l : List UInt8) : l = [] ∨ ∃ p c, l = p ++ [c] := by
  rcases List.eq_nil_or_concat l with h | ⟨p, c, h⟩
  · exact .inl h
  · exact .inr ⟨p, c, by rw [h, List.concat_eq_append]⟩

theorem fig_back {c : UInt8} (h : isFig c = true) : UInt8.ofNat (48 + (c.toNat - 48)) = c := by
  simp [isFig] at h
  rw [show 48 + (c.toNat - 48) = c.toNat by omega]
  simp
theorem dec_valD : ∀ (n : Nat) (l : List UInt8), l.length = n → (∀ c ∈ l, isFig c = true) → l ≠ [] → ¬ (l.head? = some 48 ∧ 1 < l.length) → Lib.decDigits (valD l) = l
  | 0, l, hn, _, hne, _ => absurd (List.eq_nil_of_length_eq_zero hn) hne
  | n + 1, l, hn, hf, hne, hh => by
    rcases snoc_cases l with h | ⟨p, c, rfl⟩
    · exact absurd h hne
    · have hc : isFig c = true := hf c (by simp)
      have hc2 := hc
      simp [isFig] at hc2
      rw [valD_snoc]
      by_cases hp : p = []
      · subst hp
        rw [valD_nil, Lib.decDigits_one (by omega)]
        simp only [List.nil_append, Nat.mul_zero, Nat.zero_add]
        rw [fig_back hc]
      · have hpl : 0 < p.length := List.length_pos_iff.2 hp
        have hh2 : p.head? ≠ some 48 := by
          intro e
          apply hh
          rw [head_app hp]
          exact ⟨e, by simp; omega⟩
        have ih := dec_valD n p (by simp at hn; omega) (fun d hd => hf d (by simp [hd])) hp (fun e => hh2 e.1)
        have hv : 0 < valD p := by
          rcases Nat.eq_zero_or_pos (valD p) with e | e
          · rw [e, Lib.decDigits_one (by omega)] at ih
            rw [← ih] at hh2
            simp at hh2
          · exact e
        rw [dec_big (by omega), show (10 * valD p + (c.toNat - 48)) / 10 = valD p by omega, ih, show (10 * valD p + (c.toNat - 48)) % 10 = c.toNat - 48 by omega, fig_back hc]
theorem dec_spelt (l : List UInt8) (hf : ∀ c ∈ l, isFig c = true) : (Lib.decDigits (valD l) == l) = (decide (l ≠ []) && !decide (l.head? = some 48 ∧ 1 < l.length)) := by
  by_cases h0 : l = []
  · subst h0
    rw [beq_eq_false_iff_ne.2 (dec_ne _)]
    rfl
  · by_cases h1 : l.head? = some 48 ∧ 1 < l.length
    · have : Lib.decDigits (valD l) ≠ l := by
        intro e
        by_cases hm : valD l < 10
        · rw [Lib.decDigits_one hm] at e
          rw [← e] at h1
          simp at h1
        · have := dec_head (m := valD l) (by omega)
          rw [e] at this
          exact this h1.1
      rw [beq_eq_false_iff_ne.2 this]
      simp [h1]
    · rw [dec_valD _ l rfl hf h0 h1]
      simp only [BEq.rfl, h1, decide_eq_true (show l ≠ [] from h0)]
      rfl

/-- What a text is read as: a number, or nothing. -/
def rdOut (t : ByteArray) : Int × Bool :=
  if t.size ≤ 10 ∧ (∀ c ∈ t.data.toList, isFig c = true) ∧ t.data.toList ≠ [] ∧ ¬ (t.data.toList.head? = some 48 ∧ 1 < t.size) ∧ valD t.data.toList ≤ 1000000000 then ((valD t.data.toList : Int), true) else (0, false)

theorem tlen (t : ByteArray) : t.data.toList.length = t.size := by rw [Array.length_toList]; rfl
theorem rd_long {t : ByteArray} (h : 10 < t.size) : rdOut t = (0, false) := by
  unfold rdOut
  rw [if_neg (by omega)]
theorem rd_nofig {t : ByteArray} {i : Nat} (hi : i < t.size) (h : isFig t[i] = false) : rdOut t = (0, false) := by
  unfold rdOut
  rw [if_neg]
  intro hx
  have : t[i] ∈ t.data.toList := by
    have : t.data.toList[i]'(by rw [tlen]; exact hi) ∈ t.data.toList := List.getElem_mem _
    exact this
  have := hx.2.1 _ this
  rw [h] at this
  cases this
theorem rd_empty {t : ByteArray} (h : t.size = 0) : rdOut t = (0, false) := by
  unfold rdOut
  rw [if_neg]
  intro hx
  exact hx.2.2.1 (List.eq_nil_of_length_eq_zero (by rw [tlen]; exact h))
theorem head_at {t : ByteArray} (h : 0 < t.size) : t.data.toList.head? = some t[0] := by
  have : 0 < t.data.toList.length := by rw [tlen]; exact h
  rw [List.head?_eq_getElem?, List.getElem?_eq_getElem this]
  rfl
theorem rd_nought {t : ByteArray} (h : 1 < t.size) (h0 : t[0].toNat = 48) : rdOut t = (0, false) := by
  unfold rdOut
  rw [if_neg]
  intro hx
  apply hx.2.2.2.1
  refine ⟨?_, h⟩
  rw [head_at (by omega)]
  congr 1
  exact UInt8.toNat.inj h0
theorem rd_great {t : ByteArray} (h : 1000000000 < valD t.data.toList) : rdOut t = (0, false) := by
  unfold rdOut
  rw [if_neg (by omega)]
theorem rd_good {t : ByteArray} (h1 : t.size ≤ 10) (h2 : ∀ c ∈ t.data.toList, isFig c = true) (h3 : 0 < t.size) (h4 : ¬ (t.data.toList.head? = some 48 ∧ 1 < t.size)) (h5 : valD t.data.toList ≤ 1000000000) : rdOut t = ((valD t.data.toList : Int), true) := by
  unfold rdOut
  rw [if_pos ⟨h1, h2, fun e => by have := tlen t; rw [e] at this; simp at this; omega, h4, h5⟩]
/-- The model's last test: is the number spelt as Decimal spells it? -/
theorem rd_spelt {t : ByteArray} (h1 : t.size ≤ 10) (h2 : ∀ c ∈ t.data.toList, isFig c = true) (h5 : valD t.data.toList ≤ 1000000000) {s : ByteArray} (hs : s = ⟨(Lib.decDigits (valD t.data.toList)).toArray⟩) :
    rdOut t = if (s.toList == t.toList) = true then ((valD t.data.toList : Int), true) else (0, false) := by
  have e : s.toList = Lib.decDigits (valD t.data.toList) := by rw [ByteArray.toList_eq, hs]
  rw [e, ByteArray.toList_eq, dec_spelt _ h2, tlen]
  by_cases h3 : t.data.toList = []
  · rw [rd_empty (by rw [← tlen, h3]; rfl)]
    simp [h3]
  · have h3' : 0 < t.size := by
      have := List.length_pos_iff.2 h3
      rw [tlen] at this
      exact this
    by_cases h4 : t.data.toList.head? = some 48 ∧ 1 < t.size
    · rw [rd_nought h4.2 (by have := head_at h3'; rw [h4.1] at this; have := Option.some.inj this; rw [← this]; rfl)]
      simp [h4]
    · rw [rd_good h1 h2 h3' h4 h5]
      simp only [h4, decide_eq_true (show t.data.toList ≠ [] from h3)]
      rfl

/-- Behind k figures. -/
def Dig (t : ByteArray) (k n : Nat) : Prop := n = valD (t.data.toList.take k) ∧ ∀ c ∈ t.data.toList.take k, isFig c = true
theorem dig_zero (t : ByteArray) : Dig t 0 0 := ⟨by simp [valD], by simp⟩
theorem dig_succ {t : ByteArray} {k n : Nat} (h : Dig t k n) (hk : k < t.size) (hc : isFig t[k] = true) : Dig t (k + 1) (10 * n + (t[k].toNat - 48)) := by
  obtain ⟨h1, h2⟩ := h
  refine ⟨by rw [take_snoc hk, valD_snoc, ← h1], ?_⟩
  rw [take_snoc hk]
  intro c hx
  simp only [List.mem_append, List.mem_singleton] at hx
  rcases hx with hx | rfl
  · exact h2 c hx
  · exact hc
theorem dig_end {t : ByteArray} {k n : Nat} (h : Dig t k n) (hk : k = t.size) : n = valD t.data.toList ∧ ∀ c ∈ t.data.toList, isFig c = true := by
  have := h
  unfold Dig at this
  rw [hk, take_all] at this
  exact this

end Go.Proofs.Ytabejilnpblogaa

namespace Go.Proofs.Ytabejilnpblogaa

/-- A sign. -/
structure Sg where
  kind : Int
  text : ByteArray
  num : Int

def keys : List ByteArray := [⟨#[102, 110]⟩, ⟨#[108, 101, 116]⟩, ⟨#[105, 102]⟩, ⟨#[101, 108, 115, 101]⟩, ⟨#[119, 104, 105, 108, 101]⟩, ⟨#[112, 114, 105, 110, 116]⟩, ⟨#[100, 111]⟩, ⟨#[110, 101, 119]⟩, ⟨#[99, 108, 111, 110, 101]⟩, ⟨#[109, 117, 116]⟩, ⟨#[105, 110, 112, 117, 116]⟩, ⟨#[105, 110, 116]⟩, ⟨#[98, 111, 120]⟩, ⟨#[114, 101, 116]⟩]
def isLet (c : UInt8) : Bool := decide (97 ≤ c.toNat) && decide (c.toNat ≤ 122)
def isLF (c : UInt8) : Bool := isLet c || isFig c
def isKey (s : ByteArray) : Bool := keys.any fun k => k.toList == s.toList
def nameOk (s : ByteArray) : Bool := decide (1 ≤ s.size) && decide (s.size ≤ 8) && (s.data.toList.head?.any isLet) && !isKey s && s.data.toList.all isLF

def marks3 : List ByteArray := [⟨#[45, 62]⟩, ⟨#[61, 61]⟩, ⟨#[40]⟩, ⟨#[41]⟩, ⟨#[123]⟩, ⟨#[125]⟩, ⟨#[59]⟩, ⟨#[58]⟩, ⟨#[44]⟩, ⟨#[38]⟩, ⟨#[42]⟩, ⟨#[61]⟩, ⟨#[43]⟩, ⟨#[60]⟩]
/-- The mark that a row of bytes begins with, the longest. -/
def markOf (l : List UInt8) : Option ByteArray := marks3.find? fun m => m.data.toList.isPrefixOf l

/-- Signs of a row of bytes, with fuel. -/
def scan : Nat → List UInt8 → Option (List Sg)
  | 0, _ => some []
  | f + 1, l =>
    match l with
    | [] => some []
    | c :: r =>
      if c = 32 ∨ c = 10 then scan f r
      else if isLet c = true then
        if 8 < ((c :: r).takeWhile isLF).length then none
        else (scan f ((c :: r).dropWhile isLF)).map fun ss => ⟨1, ⟨((c :: r).takeWhile isLF).toArray⟩, 0⟩ :: ss
      else if isFig c = true then
        if 10 < ((c :: r).takeWhile isFig).length ∨ 1000000000 < valD ((c :: r).takeWhile isFig) then none
        else (scan f ((c :: r).dropWhile isFig)).map fun ss => ⟨2, ⟨#[]⟩, (valD ((c :: r).takeWhile isFig) : Int)⟩ :: ss
      else
        match markOf (c :: r) with
        | none => none
        | some m => (scan f ((c :: r).drop m.size)).map fun ss => ⟨3, m, 0⟩ :: ss

theorem markOf_size {l : List UInt8} {m : ByteArray} (h : markOf l = some m) : 0 < m.size ∧ m.data.toList = l.take m.size ∧ m.size ≤ l.length := by
  unfold markOf at h
  have h1 := List.mem_of_find?_eq_some h
  have h2 := List.find?_some h
  have h0 : ∀ m ∈ marks3, 0 < m.size := by decide
  have hp := List.isPrefixOf_iff_prefix.mp h2
  have hl : m.data.toList.length = m.size := tlen m
  exact ⟨h0 m h1, by rw [← hl]; exact List.prefix_iff_eq_take.mp hp, by rw [← hl]; exact hp.length_le⟩

theorem dropWhile_le {p : UInt8 → Bool} (l : List UInt8) : (l.dropWhile p).length ≤ l.length := (List.dropWhile_sublist p).length_le
theorem dropWhile_cons_lt {p : UInt8 → Bool} {c : UInt8} {r : List UInt8} (h : p c = true) : ((c :: r).dropWhile p).length ≤ r.length := by
  rw [List.dropWhile_cons, if_pos h]
  exact dropWhile_le r
theorem isLF_of_let {c : UInt8} (h : isLet c = true) : isLF c = true := by simp [isLF, h]

/-- Fuel beyond the length changes nothing. -/
theorem scan_fuel : ∀ (f g : Nat) (l : List UInt8), l.length ≤ f → l.length ≤ g → scan f l = scan g l
  | 0, 0, _, _, _ => rfl
  | 0, g + 1, l, hf, _ => by
    have : l = [] := List.eq_nil_of_length_eq_zero (by omega)
    subst this
    rfl
  | f + 1, 0, l, _, hg => by
    have : l = [] := List.eq_nil_of_length_eq_zero (by omega)
    subst this
    rfl
  | f + 1, g + 1, l, hf, hg => by
    match l, hf, hg with
    | [], _, _ => rfl
    | c :: r, hf, hg =>
      simp only [List.length_cons] at hf hg
      unfold scan
      by_cases h1 : c = 32 ∨ c = 10
      · simp only [if_pos h1]
        exact scan_fuel f g r (by omega) (by omega)
      · simp only [if_neg h1]
        by_cases h2 : isLet c = true
        · have := dropWhile_cons_lt (r := r) (isLF_of_let h2)
          simp only [if_pos h2]
          rw [scan_fuel f g _ (by omega) (by omega)]
        · simp only [if_neg h2]
          by_cases h3 : isFig c = true
          · have := dropWhile_cons_lt (r := r) h3
            simp only [if_pos h3]
            rw [scan_fuel f g _ (by omega) (by omega)]
          · simp only [if_neg h3]
            cases hm : markOf (c :: r) with
            | none => rfl
            | some m =>
              have := (markOf_size hm).1
              simp only
              rw [scan_fuel f g _ (by simp; omega) (by simp; omega)]

def signs (l : List UInt8) : Option (List Sg) := scan l.length l
theorem signs_nil : signs [] = some [] := rfl
theorem signs_blank {c : UInt8} {r : List UInt8} (h : c = 32 ∨ c = 10) : signs (c :: r) = signs r := by
  unfold signs
  rw [List.length_cons, scan]
  simp only [if_pos h]
theorem signs_word {c : UInt8} {r : List UInt8} (h0 : ¬ (c = 32 ∨ c = 10)) (h : isLet c = true) : signs (c :: r) =
    if 8 < ((c :: r).takeWhile isLF).length then none else (signs ((c :: r).dropWhile isLF)).map fun ss => ⟨1, ⟨((c :: r).takeWhile isLF).toArray⟩, 0⟩ :: ss := by
  have := dropWhile_cons_lt (r := r) (isLF_of_let h)
  unfold signs
  rw [List.length_cons, scan]
  simp only [if_neg h0, if_pos h]
  rw [scan_fuel r.length _ _ (by omega) (Nat.le_refl _)]
theorem signs_num {c : UInt8} {r : List UInt8} (h0 : ¬ (c = 32 ∨ c = 10)) (h1 : ¬ isLet c = true) (h : isFig c = true) : signs (c :: r) =
    if 10 < ((c :: r).takeWhile isFig).length ∨ 1000000000 < valD ((c :: r).takeWhile isFig) then none else (signs ((c :: r).dropWhile isFig)).map fun ss => ⟨2, ⟨#[]⟩, (valD ((c :: r).takeWhile isFig) : Int)⟩ :: ss := by
  have := dropWhile_cons_lt (r := r) h
  unfold signs
  rw [List.length_cons, scan]
  simp only [if_neg h0, if_neg h1, if_pos h]
  rw [scan_fuel r.length _ _ (by omega) (Nat.le_refl _)]
theorem signs_mark {c : UInt8} {r : List UInt8} (h0 : ¬ (c = 32 ∨ c = 10)) (h1 : ¬ isLet c = true) (h2 : ¬ isFig c = true) : signs (c :: r) =
    match markOf (c :: r) with
    | none => none
    | some m => (signs ((c :: r).drop m.size)).map fun ss => ⟨3, m, 0⟩ :: ss := by
  unfold signs
  rw [List.length_cons, scan]
  simp only [if_neg h0, if_neg h1, if_neg h2]
  cases hm : markOf (c :: r) with
  | none => rfl
  | some m =>
    have := (markOf_size hm).1
    simp only
    rw [scan_fuel r.length _ _ (by simp; omega) (Nat.le_refl _)]

/-- SignsOf: what comes out; nothing, and false, for a text that is too long or has anything else in it. -/
def signsOf (t : ByteArray) : List Sg × Bool := if 3000 < t.size then ([], false) else match signs t.data.toList with | some ss => (ss, true) | none => ([], false)

theorem scan_len : ∀ (f : Nat) (l : List UInt8) (ss : List Sg), l.length ≤ f → scan f l = some ss → ss.length ≤ l.length
  | 0, l, ss, _, h => by
    simp [scan] at h
    subst h
    simp
  | f + 1, l, ss, hf, h => by
    match l, hf, h with
    | [], _, h =>
      simp [scan] at h
      subst h
      simp
    | c :: r, hf, h =>
      simp only [List.length_cons] at hf ⊢
      unfold scan at h
      by_cases h1 : c = 32 ∨ c = 10
      · simp only [if_pos h1] at h
        have := scan_len f r ss (by omega) h
        omega
      · simp only [if_neg h1] at h
        by_cases h2 : isLet c = true
        · have hl := dropWhile_cons_lt (r := r) (isLF_of_let h2)
          simp only [if_pos h2] at h
          split at h
          · cases h
          · obtain ⟨ss', h4, rfl⟩ := Option.map_eq_some_iff.mp h
            have := scan_len f _ ss' (by omega) h4
            simp only [List.length_cons]
            omega
        · simp only [if_neg h2] at h
          by_cases h3 : isFig c = true
          · have hl := dropWhile_cons_lt (r := r) h3
            simp only [if_pos h3] at h
            split at h
            · cases h
            · obtain ⟨ss', h4, rfl⟩ := Option.map_eq_some_iff.mp h
              have := scan_len f _ ss' (by omega) h4
              simp only [List.length_cons]
              omega
          · simp only [if_neg h3] at h
            cases hm : markOf (c :: r) with
            | none => rw [hm] at h; cases h
            | some m =>
              rw [hm] at h
              have hms := markOf_size hm
              simp only at h
              obtain ⟨ss', h4, rfl⟩ := Option.map_eq_some_iff.mp h
              have := scan_len f _ ss' (by simp; omega) h4
              simp only [List.length_cons, List.length_drop] at this ⊢
              omega
theorem signsOf_len (t : ByteArray) : (signsOf t).1.length ≤ 3000 := by
  unfold signsOf
  split
  · simp
  · have := tlen t
    cases h : signs t.data.toList with
    | none => simp
    | some ss =>
      have := scan_len _ _ ss (Nat.le_refl _) h
      simp
      omega

end Go.Proofs.Ytabejilnpblogaa

namespace Go.Proofs.Ytabejilnpblogaa

/-- A node. -/
structure Nd where
  kind : Int
  num : Int
  name : ByteArray
  kids : List Int
def nd0 : Nd := ⟨0, 0, ⟨#[]⟩, []⟩

def isIn (x lo hi : Int) : Bool := decide (lo ≤ x) && decide (x ≤ hi)
def isVal (k : Int) : Bool := isIn k 1 12
def isStm (k : Int) : Bool := isIn k 13 19
def isNamed (k : Int) : Bool := decide (k = 2 ∨ k = 3 ∨ k = 4 ∨ k = 5 ∨ k = 6 ∨ k = 12 ∨ k = 13 ∨ k = 14 ∨ k = 15)
/-- How many kids a node has at least and at most. -/
def kidsLow (k : Int) : Int := if k = 8 ∨ k = 13 ∨ k = 14 ∨ k = 15 ∨ k = 18 ∨ k = 19 then 1 else if k = 9 ∨ k = 10 ∨ k = 11 ∨ k = 17 then 2 else if k = 16 then 3 else 0
def kidsHigh (k : Int) : Int := if k = 8 ∨ k = 13 ∨ k = 14 ∨ k = 15 ∨ k = 18 ∨ k = 19 then 1 else if k = 9 ∨ k = 10 ∨ k = 11 ∨ k = 17 then 2 else if k = 12 ∨ k = 16 then 3 else if k = 20 then 12 else 0
/-- May a node of one kind be the kid at a place of one of another? -/
def fits (k at' kid : Int) : Bool := if k = 20 then isStm kid else if (k = 16 ∨ k = 17) ∧ 0 < at' then decide (kid = 20) else if k = 19 then decide (kid = 12) else isVal kid

/-- Is the kid at place i right: a node ahead, that fits there, and none of the kids ahead of it? -/
def kidOk (ns : List Nd) (k : Int) (x : Nd) (i : Nat) : Bool :=
  isIn (x.kids.getD i 0) 0 (k - 1) && fits x.kind (i : Int) (ns.getD (x.kids.getD i 0).toNat nd0).kind && !((x.kids.take i).contains (x.kids.getD i 0))
/-- The first n kids are right. -/
def kidsTo (ns : List Nd) (k : Int) (x : Nd) : Nat → Bool
  | 0 => true
  | n + 1 => kidsTo ns k x n && kidOk ns k x n
/-- A right node, but for its kids. -/
def headOk (x : Nd) : Bool :=
  isIn x.kind 1 20 && isIn (x.kids.length : Int) (kidsLow x.kind) (kidsHigh x.kind) && isIn x.num 0 1000000000 && (decide (x.kind = 1) || decide (x.num = 0)) && (isNamed x.kind == decide (0 < x.name.size)) && (decide (x.name.size = 0) || nameOk x.name)
def nodeOk (ns : List Nd) (k : Int) : Bool :=
  isIn k 0 ((ns.length : Int) - 1) && headOk (ns.getD k.toNat nd0) && kidsTo ns k (ns.getD k.toNat nd0) (ns.getD k.toNat nd0).kids.length

theorem kidsTo_false {ns : List Nd} {k : Int} {x : Nd} {i n : Nat} (hi : i < n) (h : kidOk ns k x i = false) : kidsTo ns k x n = false := by
  induction n with
  | zero => omega
  | succ n ih =>
    rcases Nat.lt_or_ge i n with h1 | h1
    · simp [kidsTo, ih h1]
    · have : i = n := by omega
      subst this
      simp [kidsTo, h]
theorem kidsTo_at {ns : List Nd} {k : Int} {x : Nd} {n : Nat} (h : kidsTo ns k x n = true) : ∀ i, i < n → kidOk ns k x i = true := by
  intro i hi
  cases hk : kidOk ns k x i
  · rw [kidsTo_false hi hk] at h; cases h
  · rfl

end Go.Proofs.Ytabejilnpblogaa

namespace Go.Proofs.Ytabejilnpblogaa

structure Pm where
  name : ByteArray
  ty : Int
structure Fc where
  name : ByteArray
  params : List Pm
  res : Int
  body : Int
  ret : Int
structure Pg where
  nodes : List Nd
  fns : List Fc

section
variable {α : Type}
/-- How much the first k elements hold. -/
def szTo (f : α → Nat) (xs : List α) (k : Nat) : Nat := ((xs.take k).map f).sum
/-- How much a row holds. -/
def szRow (f : α → Nat) (xs : List α) : Nat := xs.length + (xs.map f).sum
theorem szTo_zero (f : α → Nat) (xs : List α) : szTo f xs 0 = 0 := rfl
theorem szTo_succ (f : α → Nat) (xs : List α) (k : Nat) (h : k < xs.length) : szTo f xs (k + 1) = szTo f xs k + f xs[k] := by
  unfold szTo
  rw [List.take_succ_eq_append_getElem h, List.map_append, List.sum_append]
  rfl
theorem szTo_all (f : α → Nat) (xs : List α) : szTo f xs xs.length = (xs.map f).sum := by simp [szTo]
theorem len_szRow (f : α → Nat) (xs : List α) : xs.length ≤ szRow f xs := Nat.le_add_right _ _
theorem mem_sum (f : α → Nat) : ∀ {xs : List α} {x : α}, x ∈ xs → f x ≤ (xs.map f).sum := by
  intro xs
  induction xs with
  | nil => intro x h; simp at h
  | cons y ys ih =>
    intro x h
    simp only [List.map_cons, List.sum_cons]
    rcases List.mem_cons.mp h with rfl | h
    · omega
    · have := ih h
      omega
theorem mem_szRow (f : α → Nat) {xs : List α} {x : α} (h : x ∈ xs) : f x ≤ szRow f xs := by
  have := mem_sum f h
  unfold szRow
  omega
/-- A row that came in: no longer than a machine holds. -/
def okRow (ok : α → Prop) (xs : List α) : Prop := xs.length ≤ 9223372036854775807 ∧ ∀ x ∈ xs, ok x
end

def szNd (x : Nd) : Nat := x.name.size + x.kids.length
def okNd (x : Nd) : Prop := x.name.size ≤ 9223372036854775807 ∧ x.kids.length ≤ 9223372036854775807
theorem okNd_name {x : Nd} (h : okNd x) : x.name.size ≤ 9223372036854775807 := h.1
theorem okNd_kids {x : Nd} (h : okNd x) : x.kids.length ≤ 9223372036854775807 := h.2
theorem le_szNd_name (x : Nd) : x.name.size ≤ szNd x := Nat.le_add_right _ _
theorem le_szNd_kids (x : Nd) : x.kids.length ≤ szNd x := Nat.le_add_left _ _
def szPm (x : Pm) : Nat := x.name.size
def okPm (x : Pm) : Prop := x.name.size ≤ 9223372036854775807
theorem okPm_name {x : Pm} (h : okPm x) : x.name.size ≤ 9223372036854775807 := h
theorem le_szPm_name (x : Pm) : x.name.size ≤ szPm x := Nat.le_refl _
def szFc (x : Fc) : Nat := x.name.size + szRow szPm x.params
def okFc (x : Fc) : Prop := x.name.size ≤ 9223372036854775807 ∧ okRow okPm x.params
theorem okFc_name {x : Fc} (h : okFc x) : x.name.size ≤ 9223372036854775807 := h.1
theorem okFc_params {x : Fc} (h : okFc x) : okRow okPm x.params := h.2
theorem le_szFc_name (x : Fc) : x.name.size ≤ szFc x := Nat.le_add_right _ _
theorem le_szFc_params (x : Fc) : szRow szPm x.params ≤ szFc x := Nat.le_add_left _ _
def szPg (p : Pg) : Nat := szRow szNd p.nodes + szRow szFc p.fns
def okPg (p : Pg) : Prop := okRow okNd p.nodes ∧ okRow okFc p.fns

end Go.Proofs.Ytabejilnpblogaa

namespace Go.Proofs.Ytabejilnpblogaa

def sameB (a b : ByteArray) : Bool := a.toList == b.toList
/-- The place of the first function with a name, or -1. -/
def fnAt (fs : List Fc) (name : ByteArray) : Int :=
  match fs.findIdx? (fun f => sameB f.name name) with
  | some i => (i : Int)
  | none => -1
theorem fnAt_at {fs : List Fc} {name : ByteArray} {k : Nat} (hk : k < fs.length) (h0 : ∀ j, (hj : j < fs.length) → j < k → sameB fs[j].name name = false) (h1 : sameB fs[k].name name = true) : fnAt fs name = (k : Int) := by
  unfold fnAt
  have : fs.findIdx? (fun f => sameB f.name name) = some k := by
    rw [List.findIdx?_eq_some_iff_getElem]
    refine ⟨hk, h1, fun j hj => ?_⟩
    rw [h0 j (by omega) hj]
    decide
  rw [this]
theorem fnAt_none {fs : List Fc} {name : ByteArray} (h0 : ∀ j, (hj : j < fs.length) → sameB fs[j].name name = false) : fnAt fs name = -1 := by
  unfold fnAt
  have : fs.findIdx? (fun f => sameB f.name name) = none := by
    rw [List.findIdx?_eq_none_iff]
    intro x hx
    obtain ⟨j, hj, rfl⟩ := List.getElem_of_mem hx
    exact h0 j hj
  rw [this]

end Go.Proofs.Ytabejilnpblogaa

namespace Go.Proofs.Ytabejilnpblogaa

def aheadOk (k : Int) (kids : List Int) (i : Nat) : Bool := isIn (kids.getD i 0) 0 (k - 1) && !((kids.take i).contains (kids.getD i 0))
/-- The first n kids are places ahead, no two the same. -/
def aheadTo (k : Int) (kids : List Int) : Nat → Bool
  | 0 => true
  | n + 1 => aheadTo k kids n && aheadOk k kids n
def kindsOf (ns : List Nd) (kids : List Int) : List Int := kids.map fun c => (ns.getD c.toNat nd0).kind
/-- The first n kids fit. -/
def fitsTo (kd : Int) (ks : List Int) : Nat → Bool
  | 0 => true
  | n + 1 => fitsTo kd ks n && fits kd (n : Int) (ks.getD n 0)
theorem kindsOf_len (ns : List Nd) (kids : List Int) : (kindsOf ns kids).length = kids.length := by simp [kindsOf]
theorem kindsOf_at (ns : List Nd) (kids : List Int) (i : Nat) (h : i < kids.length) : (kindsOf ns kids).getD i 0 = (ns.getD (kids.getD i 0).toNat nd0).kind := by
  simp [kindsOf, List.getD, h]
theorem kidsTo_split (ns : List Nd) (k : Int) (x : Nd) : ∀ n, n ≤ x.kids.length → kidsTo ns k x n = (aheadTo k x.kids n && fitsTo x.kind (kindsOf ns x.kids) n) := by
  intro n
  induction n with
  | zero => intro _; rfl
  | succ n ih =>
    intro h
    rw [kidsTo, aheadTo, fitsTo, ih (by omega), kidOk, aheadOk, kindsOf_at ns x.kids n (by omega)]
    generalize aheadTo k x.kids n = a
    generalize fitsTo x.kind (kindsOf ns x.kids) n = b
    generalize isIn (x.kids.getD n 0) 0 (k - 1) = c
    generalize fits x.kind (n : Int) (ns.getD (x.kids.getD n 0).toNat nd0).kind = d
    generalize (x.kids.take n).contains (x.kids.getD n 0) = e
    cases a <;> cases b <;> cases c <;> cases d <;> cases e <;> rfl
theorem fitsTo_all {kd : Int} {p : Int → Bool} (h : ∀ (i : Nat) x, fits kd (i : Int) x = p x) (ks : List Int) : ∀ n, n ≤ ks.length → fitsTo kd ks n = (ks.take n).all p := by
  intro n
  induction n with
  | zero => intro _; rfl
  | succ n ih =>
    intro hn
    rw [fitsTo, ih (by omega), h, List.take_succ_eq_append_getElem (by omega), List.all_append]
    simp [List.getD, show n < ks.length by omega]
theorem fitsTo_whole {kd : Int} {p : Int → Bool} (h : ∀ (i : Nat) x, fits kd (i : Int) x = p x) (ks : List Int) : fitsTo kd ks ks.length = ks.all p := by
  rw [fitsTo_all h ks _ (Nat.le_refl _), List.take_length]
theorem fits_val {kd : Int} (h : kd ≠ 20 ∧ kd ≠ 16 ∧ kd ≠ 17 ∧ kd ≠ 19) (i : Nat) (x : Int) : fits kd (i : Int) x = isVal x := by
  unfold fits
  rw [if_neg h.1, if_neg (by omega), if_neg h.2.2.2]
theorem fits_stm (i : Nat) (x : Int) : fits 20 (i : Int) x = isStm x := by simp [fits]

/-- What is asked of the head of a node beside its kind and its number of kids. -/
def headRest (kd nm : Int) (tx : ByteArray) : Bool := isIn nm 0 1000000000 && (decide (kd = 1) || decide (nm = 0)) && (isNamed kd == decide (0 < tx.size)) && (decide (tx.size = 0) || nameOk tx)
theorem headOk_parts (x : Nd) : headOk x = (isIn x.kind 1 20 && isIn (x.kids.length : Int) (kidsLow x.kind) (kidsHigh x.kind) && headRest x.kind x.num x.name) := by
  unfold headOk headRest
  simp only [Bool.and_assoc]
/-- A right node: what its part says, kids that are ahead, and what its part takes. -/
theorem nodeParts {ns : List Nd} {k : Int} {x : Nd} {says tk : Bool} (hk : isIn x.kind 1 20 = true) (hs : says = headRest x.kind x.num x.name) (ht : tk = (isIn (x.kids.length : Int) (kidsLow x.kind) (kidsHigh x.kind) && fitsTo x.kind (kindsOf ns x.kids) x.kids.length)) :
    (headOk x && kidsTo ns k x x.kids.length) = (says && ((decide (x.kids.length ≤ 12) && aheadTo k x.kids x.kids.length) && tk)) := by
  rw [headOk_parts, kidsTo_split ns k x _ (Nat.le_refl _), hk, hs, ht]
  have h12 : isIn (x.kids.length : Int) (kidsLow x.kind) (kidsHigh x.kind) = true → decide (x.kids.length ≤ 12) = true := by
    intro h
    simp only [isIn, Bool.and_eq_true, decide_eq_true_eq] at h
    have : kidsHigh x.kind ≤ 12 := by unfold kidsHigh; repeat' split <;> omega
    simp
    omega
  generalize isIn (x.kids.length : Int) (kidsLow x.kind) (kidsHigh x.kind) = a at h12 ⊢
  generalize decide (x.kids.length ≤ 12) = b at h12 ⊢
  generalize headRest x.kind x.num x.name = c
  generalize aheadTo k x.kids x.kids.length = d
  generalize fitsTo x.kind (kindsOf ns x.kids) x.kids.length = e
  cases a <;> cases b <;> cases c <;> cases d <;> cases e <;> simp_all

theorem aheadTo_false {k : Int} {ks : List Int} {i n : Nat} (hi : i < n) (h : aheadOk k ks i = false) : aheadTo k ks n = false := by
  induction n with
  | zero => omega
  | succ n ih =>
    rcases Nat.lt_or_ge i n with h1 | h1
    · simp [aheadTo, ih h1]
    · have : i = n := by omega
      subst this
      simp [aheadTo, h]
theorem aheadTo_at {k : Int} {ks : List Int} {n : Nat} (h : aheadTo k ks n = true) : ∀ i, i < n → aheadOk k ks i = true := by
  intro i hi
  cases hk : aheadOk k ks i
  · rw [aheadTo_false hi hk] at h; cases h
  · rfl
theorem nameOk_some {tx : ByteArray} (h : nameOk tx = true) : 0 < tx.size := by
  rcases Nat.eq_zero_or_pos tx.size with h0 | h0
  · exfalso
    obtain rfl : tx = ⟨#[]⟩ := by
      cases tx with | mk d => simp [ByteArray.size] at h0; simp [h0]
    revert h
    decide
  · exact h0

end Go.Proofs.Ytabejilnpblogaa

namespace Go.Proofs.Ytabejilnpblogaa

/-- The deepest of the first n kids. -/
def mxTo (ds kids : List Int) : Nat → Int
  | 0 => 0
  | n + 1 => max (mxTo ds kids n) (ds.getD (kids.getD n 0).toNat 0)
/-- May node i have a depth: it is right, and the one ahead of it has one. -/
def goOn (ns : List Nd) (ds : List Int) (i : Nat) : Bool := nodeOk ns (i : Int) && (decide (i = 0) || decide (ds.getD (i - 1) 0 ≠ 0))
def deepNext (ns : List Nd) (ds : List Int) (i : Nat) : Int :=
  if goOn ns ds i = true then (if 10 < mxTo ds (ns.getD i nd0).kids (ns.getD i nd0).kids.length + 1 then 0 else mxTo ds (ns.getD i nd0).kids (ns.getD i nd0).kids.length + 1) else 0
/-- The depths of the first n nodes. -/
def deeps (ns : List Nd) : Nat → List Int
  | 0 => []
  | n + 1 => deeps ns n ++ [deepNext ns (deeps ns n) n]
def deepOf (ns : List Nd) (k : Int) : Int := if isIn k 0 ((ns.length : Int) - 1) = true then (deeps ns (k.toNat + 1)).getD k.toNat 0 else 0

theorem deeps_len (ns : List Nd) (n : Nat) : (deeps ns n).length = n := by
  induction n with
  | zero => rfl
  | succ n ih => simp [deeps, ih]
theorem deeps_last (ns : List Nd) (n : Nat) : (deeps ns (n + 1)).getD n 0 = deepNext ns (deeps ns n) n := by
  simp [deeps, List.getD, deeps_len]
theorem deeps_more (ns : List Nd) {i n : Nat} (h : i < n) : (deeps ns (n + 1)).getD i 0 = (deeps ns n).getD i 0 := by
  simp only [deeps, List.getD]
  rw [List.getElem?_append_left (by rw [deeps_len]; exact h)]
theorem deeps_pre (ns : List Nd) {i n m : Nat} (h : i < n) (hm : n ≤ m) : (deeps ns m).getD i 0 = (deeps ns n).getD i 0 := by
  induction m with
  | zero => omega
  | succ m ih =>
    rcases Nat.lt_or_ge n (m + 1) with h1 | h1
    · rw [deeps_more ns (by omega), ih (by omega)]
    · have : n = m + 1 := by omega
      rw [this]
theorem mxTo_nn (ds kids : List Int) : ∀ n, 0 ≤ mxTo ds kids n := by
  intro n
  induction n with
  | zero => exact Int.le_refl _
  | succ n ih => simp only [mxTo]; omega
theorem deeps_bound (ns : List Nd) (n i : Nat) : 0 ≤ (deeps ns n).getD i 0 ∧ (deeps ns n).getD i 0 ≤ 10 := by
  induction n generalizing i with
  | zero => simp [deeps]
  | succ n ih =>
    rcases Nat.lt_trichotomy i n with h | h | h
    · rw [deeps_more ns h]; exact ih i
    · subst h
      rw [deeps_last]
      have := mxTo_nn (deeps ns i) (ns.getD i nd0).kids (ns.getD i nd0).kids.length
      unfold deepNext
      split
      · split
        · omega
        · omega
      · omega
    · rw [List.getD, List.getElem?_eq_none (by rw [deeps_len]; omega)]
      simp
theorem mxTo_bound {ds : List Int} (h : ∀ i, 0 ≤ ds.getD i 0 ∧ ds.getD i 0 ≤ 10) (kids : List Int) : ∀ n, 0 ≤ mxTo ds kids n ∧ mxTo ds kids n ≤ 10 := by
  intro n
  induction n with
  | zero => exact ⟨Int.le_refl _, by simp [mxTo]⟩
  | succ n ih => have := h (kids.getD n 0).toNat; simp only [mxTo]; omega
/-- Behind a node without a depth none has one. -/
theorem deeps_zero (ns : List Nd) {i : Nat} (h0 : (deeps ns (i + 1)).getD i 0 = 0) : ∀ j, i ≤ j → (deeps ns (j + 1)).getD j 0 = 0 := by
  intro j hj
  induction j with
  | zero =>
    have : i = 0 := by omega
    subst this
    exact h0
  | succ j ih =>
    rcases Nat.lt_or_ge i (j + 1) with h1 | h1
    · rw [deeps_last]
      have h2 := ih (by omega)
      unfold deepNext goOn
      rw [if_neg]
      have h3 : (deeps ns (j + 1))[j]?.getD 0 = 0 := h2
      simp [h3]
    · have : i = j + 1 := by omega
      subst this
      exact h0
theorem deepOf_in {ns : List Nd} {m : Nat} (h : m < ns.length) : deepOf ns (m : Int) = (deeps ns (m + 1)).getD m 0 := by
  unfold deepOf
  rw [if_pos (by simp [isIn]; omega)]
  simp
theorem deepOf_out {ns : List Nd} {k : Int} (h : k < 0 ∨ (ns.length : Int) ≤ k) : deepOf ns k = 0 := by
  unfold deepOf
  rw [if_neg]
  simp [isIn]
  omega
theorem deepOf_zero {ns : List Nd} {t m : Nat} (h : m < ns.length) (ht : t ≤ m) (h0 : deepNext ns (deeps ns t) t = 0) : deepOf ns (m : Int) = 0 := by
  rw [deepOf_in h]
  exact deeps_zero ns (by rw [deeps_last]; exact h0) m ht
theorem kid_lt {ns : List Nd} {t : Nat} (h : nodeOk ns (t : Int) = true) {j : Nat} (hj : j < (ns.getD t nd0).kids.length) : 0 ≤ (ns.getD t nd0).kids.getD j 0 ∧ (ns.getD t nd0).kids.getD j 0 < (t : Int) := by
  unfold nodeOk at h
  simp only [Bool.and_eq_true, Int.toNat_natCast] at h
  have := kidsTo_at h.2 j hj
  unfold kidOk at this
  simp only [Bool.and_eq_true] at this
  have h1 := this.1.1
  simp [isIn] at h1
  simp only [List.getD]
  omega

end Go.Proofs.Ytabejilnpblogaa

namespace Go.Proofs.Ytabejilnpblogaa

/-- How often each of 0 .. N - 1 stands in a list. -/
def cnt (l : List Int) (N : Nat) : List Int := (List.range N).map fun (j : Nat) => ((l.count (j : Int) : Nat) : Int)
theorem cnt_len (l : List Int) (N : Nat) : (cnt l N).length = N := by simp [cnt]
theorem cnt_at (l : List Int) (N j : Nat) (h : j < N) : (cnt l N)[j]'(by rw [cnt_len]; exact h) = ((l.count (j : Int) : Nat) : Int) := by simp [cnt]
theorem cnt_nil (N : Nat) : cnt [] N = List.replicate N 0 := by
  apply List.ext_getElem
  · simp [cnt]
  · intro i h1 h2
    simp [cnt]
theorem cnt_step (l : List Int) (N c : Nat) (h : c < N) (y : Int) (hy : (cnt l N)[c]'(by rw [cnt_len]; exact h) = y) : (cnt l N).set c (y + 1) = cnt (l ++ [(c : Int)]) N := by
  apply List.ext_getElem
  · simp [cnt]
  · intro i h1 h2
    have hi : i < N := by rw [cnt_len] at h2; exact h2
    rw [cnt_at _ _ _ hi, List.getElem_set]
    rw [cnt_at _ _ _ h] at hy
    by_cases e : c = i
    · subst e
      rw [if_pos rfl, ← hy]
      simp
    · rw [if_neg e, cnt_at _ _ _ hi]
      have : ¬ (c : Int) = (i : Int) := by omega
      simp [List.count_append, this]
theorem cnt_bound (l : List Int) (N c : Nat) (h : c < N) : 0 ≤ (cnt l N)[c]'(by rw [cnt_len]; exact h) ∧ (cnt l N)[c]'(by rw [cnt_len]; exact h) ≤ (l.length : Int) := by
  rw [cnt_at _ _ _ h]
  have := List.count_le_length (a := (c : Int)) (l := l)
  omega

def allKids (ns : List Nd) : List Int := ns.flatMap Nd.kids
theorem kids_le (ns : List Nd) : (allKids ns).length ≤ (ns.map szNd).sum := by
  induction ns with
  | nil => simp [allKids]
  | cons x xs ih =>
    unfold allKids at ih ⊢
    simp only [List.flatMap_cons, List.length_append, List.map_cons, List.sum_cons]
    have := le_szNd_kids x
    omega
theorem allKids_take (ns : List Nd) (t : Nat) (h : t < ns.length) : allKids (ns.take (t + 1)) = allKids (ns.take t) ++ ns[t].kids := by
  rw [List.take_succ_eq_append_getElem h]
  unfold allKids
  rw [List.flatMap_append, List.flatMap_cons, List.flatMap_nil, List.append_nil]
theorem pre_len (ns : List Nd) (t s : Nat) (h : t < ns.length) : (allKids (ns.take t) ++ ns[t].kids.take s).length ≤ szRow szNd ns := by
  have h1 := kids_le ns
  have h2 : allKids ns = allKids (ns.take t) ++ ns[t].kids ++ allKids (ns.drop (t + 1)) := by
    rw [← allKids_take ns t h]
    unfold allKids
    rw [← List.flatMap_append, List.take_append_drop]
  have h4 : (allKids ns).length = (allKids (ns.take t)).length + (ns[t].kids).length + (allKids (ns.drop (t + 1))).length := by rw [h2]; simp; omega
  have h6 : (ns[t].kids.take s).length ≤ ns[t].kids.length := (List.take_sublist _ _).length_le
  rw [List.length_append]
  unfold szRow
  omega

/-- A right param. -/
def pmOk (p : Pm) : Bool := nameOk p.name && isIn p.ty 1 4
/-- Body and Ret are what they should be. -/
def endsOkB (ns : List Nd) (f : Fc) : Bool :=
  isIn f.body 0 ((ns.length : Int) - 1) && decide ((ns.getD f.body.toNat nd0).kind = 20) &&
  (if f.res = 0 then decide (f.ret = -1) else if f.res = 1 ∨ f.res = 2 then isIn f.ret 0 ((ns.length : Int) - 1) && isVal (ns.getD f.ret.toNat nd0).kind else false)
def fnOk (ns : List Nd) (fs : List Fc) (i : Nat) (f : Fc) : Bool := nameOk f.name && decide (fnAt fs f.name = (i : Int)) && (decide (f.params.length ≤ 3) && f.params.all pmOk) && endsOkB ns f
/-- The first n functions are right. -/
def fnsTo (ns : List Nd) (fs : List Fc) : Nat → Bool
  | 0 => true
  | n + 1 => fnsTo ns fs n && fnOk ns fs n (fs.getD n ⟨ByteArray.empty, [], 0, 0, 0⟩)
def headsIn (f : Fc) : List Int := if 0 ≤ f.ret then [f.body, f.ret] else [f.body]
def heads (fs : List Fc) : List Int := fs.flatMap headsIn
/-- Each node hangs from one place. -/
def hangs (ns : List Nd) (fs : List Fc) : Bool := (List.range ns.length).all fun (j : Nat) => decide ((allKids ns).count (j : Int) + (heads fs).count (j : Int) = 1)
def programOk (p : Pg) : Bool :=
  isIn (p.nodes.length : Int) 1 300 && isIn (p.fns.length : Int) 1 8 && decide (deepOf p.nodes ((p.nodes.length : Int) - 1) ≠ 0) && fnsTo p.nodes p.fns p.fns.length && hangs p.nodes p.fns

theorem fnsTo_false {ns : List Nd} {fs : List Fc} {i n : Nat} (hi : i < n) (h : fnOk ns fs i (fs.getD i ⟨ByteArray.empty, [], 0, 0, 0⟩) = false) : fnsTo ns fs n = false := by
  induction n with
  | zero => omega
  | succ n ih =>
    rcases Nat.lt_or_ge i n with h1 | h1
    · simp [fnsTo, ih h1]
    · have : i = n := by omega
      subst this
      rw [fnsTo, h, Bool.and_false]
theorem fnsTo_at {ns : List Nd} {fs : List Fc} {n : Nat} (h : fnsTo ns fs n = true) : ∀ i, i < n → fnOk ns fs i (fs.getD i ⟨ByteArray.empty, [], 0, 0, 0⟩) = true := by
  intro i hi
  cases hk : fnOk ns fs i (fs.getD i ⟨ByteArray.empty, [], 0, 0, 0⟩)
  · rw [fnsTo_false hi hk] at h; cases h
  · rfl
theorem heads_take (fs : List Fc) (t : Nat) (h : t < fs.length) : heads (fs.take (t + 1)) = heads (fs.take t) ++ headsIn fs[t] := by
  rw [List.take_succ_eq_append_getElem h]
  unfold heads
  rw [List.flatMap_append, List.flatMap_cons, List.flatMap_nil, List.append_nil]

/-- Where all are right: every node is, and its kids are places ahead of it, each once. -/
theorem deep_nodes {ns : List Nd} {m : Nat} (hm : m < ns.length) (h : deepOf ns (m : Int) ≠ 0) : ∀ i, i ≤ m → nodeOk ns (i : Int) = true := by
  intro i hi
  cases hk : nodeOk ns (i : Int)
  · exact absurd (deepOf_zero (t := i) hm hi (by unfold deepNext goOn; rw [hk]; rfl)) h
  · rfl
theorem kids_in {ns : List Nd} {t : Nat} (ht : t < ns.length) (h : nodeOk ns (t : Int) = true) : ∀ c ∈ ns[t].kids, 0 ≤ c ∧ c < (t : Int) := by
  intro c hc
  obtain ⟨j, hj, rfl⟩ := List.getElem_of_mem hc
  have he : ns.getD t nd0 = ns[t] := by simp [List.getD, ht]
  have := kid_lt h (j := j) (by rw [he]; exact hj)
  rw [he] at this
  simpa [List.getD, hj] using this
theorem kids_once {ns : List Nd} {t : Nat} (ht : t < ns.length) (h : nodeOk ns (t : Int) = true) : ns[t].kids.Nodup := by
  have he : ns.getD t nd0 = ns[t] := by simp [List.getD, ht]
  unfold nodeOk at h
  simp only [Bool.and_eq_true, Int.toNat_natCast, he] at h
  have hk := kidsTo_at h.2
  rw [List.nodup_iff_pairwise_ne, List.pairwise_iff_getElem]
  intro i j hi hj hij e
  have h1 := hk j hj
  unfold kidOk at h1
  simp only [Bool.and_eq_true, Bool.not_eq_true'] at h1
  have h2 := h1.2
  have e2 : ns[t].kids.getD j 0 = ns[t].kids[j] := by simp [List.getD, hj]
  rw [e2, ← e, ← Bool.not_eq_true, List.contains_iff_mem] at h2
  apply h2
  have hl : i < (ns[t].kids.take j).length := by simp; omega
  rw [show ns[t].kids[i] = (ns[t].kids.take j)[i] by simp]
  exact List.getElem_mem hl
theorem count_kids {ns : List Nd} (h : ∀ t, (ht : t < ns.length) → ns[t].kids.Nodup) (c : Int) : (allKids ns).count c ≤ ns.length := by
  induction ns with
  | nil => simp [allKids]
  | cons x xs ih =>
    have h1 := ih (fun t ht => by have := h (t + 1) (by simpa using ht); simpa using this)
    have h2 : x.kids.Nodup := h 0 (by simp)
    have h3 : x.kids.count c ≤ 1 := List.nodup_iff_count.mp h2 c
    unfold allKids at h1 ⊢
    simp only [List.flatMap_cons, List.count_append, List.length_cons]
    omega

end Go.Proofs.Ytabejilnpblogaa

namespace Go.Proofs.Ytabejilnpblogaa

/-- Node j is node k, or lies below it. -/
inductive Reach (ns : List Nd) (k : Nat) : Nat → Prop
  | self : Reach ns k k
  | step {i c : Nat} : Reach ns k i → (c : Int) ∈ (ns.getD i nd0).kids → Reach ns k c
theorem Reach.trans {ns : List Nd} {a b c : Nat} (h : Reach ns a b) (h2 : Reach ns b c) : Reach ns a c := by
  induction h2 with
  | self => exact h
  | step _ hc ih => exact .step ih hc
theorem reach_head {ns : List Nd} {k j : Nat} : Reach ns k j ↔ j = k ∨ ∃ c : Nat, (c : Int) ∈ (ns.getD k nd0).kids ∧ Reach ns c j := by
  constructor
  · intro h
    induction h with
    | self => exact .inl rfl
    | step hi hc ih =>
      rename_i i c
      rcases ih with rfl | ⟨c0, h0, h1⟩
      · exact .inr ⟨_, hc, .self⟩
      · exact .inr ⟨c0, h0, .step h1 hc⟩
  · rintro (rfl | ⟨c, hc, h⟩)
    · exact .self
    · exact (Reach.step .self hc).trans h
/-- Kids stand ahead, up to node m. -/
def Ahead (ns : List Nd) (m : Nat) : Prop := ∀ i, i ≤ m → ∀ c ∈ (ns.getD i nd0).kids, 0 ≤ c ∧ c < (i : Int)
theorem reach_le {ns : List Nd} {m k j : Nat} (H : Ahead ns m) (hk : k ≤ m) (h : Reach ns k j) : j ≤ k := by
  induction h with
  | self => exact Nat.le_refl _
  | step hi hc ih =>
    have := H _ (by omega) _ hc
    omega
/-- What is marked up to node k is marked with all below it. -/
def Shut (ns : List Nd) (bs : List Bool) (k : Nat) : Prop := ∀ i, i ≤ k → bs.getD i false = true → ∀ c : Nat, (c : Int) ∈ (ns.getD i nd0).kids → bs.getD c false = true
theorem shut_reach {ns : List Nd} {bs : List Bool} {m k j : Nat} (H : Ahead ns m) (hk : k ≤ m) (hs : Shut ns bs k) (h0 : bs.getD k false = true) (h : Reach ns k j) : bs.getD j false = true := by
  induction h with
  | self => exact h0
  | step hi hc ih => exact hs _ (reach_le H hk hi) ih _ hc

/-- The places of what is marked, ascending. -/
def picks (bs : List Bool) (t : Nat) : List Int := ((List.range t).filter fun j => bs.getD j false).map fun (j : Nat) => (j : Int)
theorem picks_yes {bs : List Bool} {t : Nat} (h : bs.getD t false = true) : picks bs (t + 1) = picks bs t ++ [(t : Int)] := by
  unfold picks
  rw [List.range_succ, List.filter_append, List.map_append]
  simp only [List.getD] at h ⊢
  simp [h]
theorem picks_no {bs : List Bool} {t : Nat} (h : bs.getD t false = false) : picks bs (t + 1) = picks bs t := by
  unfold picks
  rw [List.range_succ, List.filter_append, List.map_append]
  simp only [List.getD] at h ⊢
  simp [h]
theorem picks_len (bs : List Bool) (t : Nat) : (picks bs t).length ≤ t := by
  unfold picks
  rw [List.length_map]
  have := List.length_filter_le (fun j => bs.getD j false) (List.range t)
  simpa using this
/-- The ascending list of all that lies under node k. -/
def IsUnder (ns : List Nd) (k : Nat) (xs : List Int) : Prop := xs.Pairwise (· < ·) ∧ ∀ x, x ∈ xs ↔ ∃ j : Nat, x = (j : Int) ∧ Reach ns k j
theorem picks_under {ns : List Nd} {bs : List Bool} {k t : Nat} (h : ∀ j, bs.getD j false = true ↔ Reach ns k j) (ht : ∀ j, Reach ns k j → j < t) : IsUnder ns k (picks bs t) := by
  constructor
  · unfold picks
    rw [List.pairwise_map]
    exact (List.pairwise_lt_range.filter _).imp (fun hab => by omega)
  · intro x
    unfold picks
    rw [List.mem_map]
    constructor
    · rintro ⟨j, hj, rfl⟩
      rw [List.mem_filter] at hj
      exact ⟨j, rfl, (h j).mp hj.2⟩
    · rintro ⟨j, rfl, hj⟩
      exact ⟨j, by rw [List.mem_filter]; exact ⟨by simpa using ht j hj, (h j).mpr hj⟩, rfl⟩
theorem sorted_ext : ∀ {xs ys : List Int}, xs.Pairwise (· < ·) → ys.Pairwise (· < ·) → (∀ x, x ∈ xs ↔ x ∈ ys) → xs = ys := by
  intro xs
  induction xs with
  | nil =>
    intro ys _ _ h
    cases ys with
    | nil => rfl
    | cons y ys => exact absurd ((h y).mpr (List.mem_cons_self ..)) (by simp)
  | cons x xs ih =>
    intro ys hx hy h
    cases ys with
    | nil => exact absurd ((h x).mp (List.mem_cons_self ..)) (by simp)
    | cons y ys =>
      rw [List.pairwise_cons] at hx hy
      have hxy : x = y := by
        rcases List.mem_cons.mp ((h x).mp (List.mem_cons_self ..)) with e | h1
        · exact e
        · rcases List.mem_cons.mp ((h y).mpr (List.mem_cons_self ..)) with e | h2
          · exact e.symm
          · have := hy.1 x h1
            have := hx.1 y h2
            omega
      subst hxy
      congr 1
      refine ih hx.2 hy.2 (fun z => ?_)
      constructor
      · intro hz
        rcases List.mem_cons.mp ((h z).mp (List.mem_cons_of_mem _ hz)) with e | h1
        · subst e
          have := hx.1 z hz
          omega
        · exact h1
      · intro hz
        rcases List.mem_cons.mp ((h z).mpr (List.mem_cons_of_mem _ hz)) with e | h1
        · subst e
          have := hy.1 z hz
          omega
        · exact h1
theorem under_one {ns : List Nd} {k : Nat} {xs ys : List Int} (h1 : IsUnder ns k xs) (h2 : IsUnder ns k ys) : xs = ys :=
  sorted_ext h1.1 h2.1 (fun x => (h1.2 x).trans (h2.2 x).symm)

theorem ahead_of {ns : List Nd} {m : Nat} (hm : m < ns.length) (h : deepOf ns (m : Int) ≠ 0) : Ahead ns m := by
  intro i hi c hc
  have hil : i < ns.length := by omega
  have he : ns.getD i nd0 = ns[i] := by simp [List.getD, hil]
  rw [he] at hc
  exact kids_in hil (deep_nodes hm h i hi) c hc

theorem getB_set (bs : List Bool) (i j : Nat) (h : i < bs.length) (b : Bool) : (bs.set i b).getD j false = if i = j then b else bs.getD j false := by
  simp only [List.getD]
  rw [List.getElem?_set]
  by_cases e : i = j
  · subst e
    simp [h]
  · simp [e]

end Go.Proofs.Ytabejilnpblogaa

namespace Go.Proofs.Ytabejilnpblogaa

def sgnL (k : Int) : List UInt8 := if k = 9 then [32, 43, 32] else if k = 10 then [32, 60, 32] else [32, 61, 61, 32]
/-- The first n of values, with a comma between. -/
def argTo (g : Int → List UInt8) (cs : List Int) : Nat → List UInt8
  | 0 => []
  | n + 1 => argTo g cs n ++ (if n = 0 then [] else [44, 32]) ++ g (cs.getD n 0)
/-- A value that stands in another one. -/
def parL (ns : List Nd) (g : Int → List UInt8) (c : Int) : List UInt8 := if isIn (ns.getD c.toNat nd0).kind 9 11 = true then [40] ++ g c ++ [41] else g c
/-- A value in words, what its kids say being given. -/
def valBody (ns : List Nd) (g : Int → List UInt8) (x : Nd) : List UInt8 :=
  if x.kind = 1 then Lib.itoa x.num
  else if x.kind = 2 then x.name.data.toList
  else if x.kind = 3 then [42] ++ x.name.data.toList
  else if x.kind = 4 then [99, 108, 111, 110, 101, 32] ++ x.name.data.toList
  else if x.kind = 5 then [38] ++ x.name.data.toList
  else if x.kind = 6 then [38, 109, 117, 116, 32] ++ x.name.data.toList
  else if x.kind = 7 then [105, 110, 112, 117, 116]
  else if x.kind = 8 then [110, 101, 119, 32] ++ parL ns g (x.kids.getD 0 0)
  else if x.kind = 12 then x.name.data.toList ++ [40] ++ argTo g x.kids x.kids.length ++ [41]
  else parL ns g (x.kids.getD 0 0) ++ sgnL x.kind ++ parL ns g (x.kids.getD 1 0)
def valF (ns : List Nd) : Nat → Int → List UInt8
  | 0, _ => []
  | f + 1, k => valBody ns (valF ns f) (ns.getD k.toNat nd0)
def valL (ns : List Nd) (k : Int) : List UInt8 := valF ns (k.toNat + 1) k

theorem argTo_congr {g h : Int → List UInt8} {cs : List Int} (H : ∀ c ∈ cs, g c = h c) : ∀ n, n ≤ cs.length → argTo g cs n = argTo h cs n := by
  intro n
  induction n with
  | zero => intro _; rfl
  | succ n ih =>
    intro hn
    have hm : cs.getD n 0 ∈ cs := by
      have : n < cs.length := by omega
      simp only [List.getD, List.getElem?_eq_getElem this, Option.getD_some]
      exact List.getElem_mem this
    simp only [argTo]
    rw [ih (by omega), H _ hm]
theorem getD_at {cs : List Int} {n : Nat} (h : n < cs.length) : cs.getD n 0 = cs[n] := by
  simp only [List.getD, List.getElem?_eq_getElem h, Option.getD_some]
theorem getD_mem {cs : List Int} {n : Nat} (h : n < cs.length) : cs.getD n 0 ∈ cs := by
  simp only [List.getD, List.getElem?_eq_getElem h, Option.getD_some]
  exact List.getElem_mem h
/-- The number of kids of a value. -/
structure ValKids (x : Nd) : Prop where
  val : 1 ≤ x.kind ∧ x.kind ≤ 12
  one : x.kind = 8 → x.kids.length = 1
  two : 9 ≤ x.kind → x.kind ≤ 11 → x.kids.length = 2
  few : x.kids.length ≤ 3
  num : 0 ≤ x.num ∧ x.num ≤ 1000000000
  name : x.name.size ≤ 8
theorem valKids {ns : List Nd} {k : Nat} (h : nodeOk ns (k : Int) = true) (hv : isVal (ns.getD k nd0).kind = true) : ValKids (ns.getD k nd0) := by
  unfold nodeOk at h
  simp only [Bool.and_eq_true, Int.toNat_natCast] at h
  have h2 := h.1.2
  unfold headOk at h2
  simp only [Bool.and_eq_true] at h2
  obtain ⟨⟨⟨⟨⟨a1, a2⟩, a3⟩, a4⟩, a5⟩, a6⟩ := h2
  generalize ns.getD k nd0 = x at hv a1 a2 a3 a4 a5 a6 ⊢
  have hk : 1 ≤ x.kind ∧ x.kind ≤ 12 := by simpa [isVal, isIn] using hv
  have ha2 : kidsLow x.kind ≤ (x.kids.length : Int) ∧ (x.kids.length : Int) ≤ kidsHigh x.kind := by simpa [isIn] using a2
  refine ⟨hk, fun e => ?_, fun e1 e2 => ?_, ?_, by simpa [isIn] using a3, ?_⟩
  · rw [e] at ha2
    simp [kidsLow, kidsHigh] at ha2
    omega
  · have : x.kind = 9 ∨ x.kind = 10 ∨ x.kind = 11 := by omega
    rcases this with e | e | e <;> (rw [e] at ha2; simp [kidsLow, kidsHigh] at ha2; omega)
  · have h3 : kidsHigh x.kind ≤ 3 := by
      unfold kidsHigh
      split
      · omega
      · split
        · omega
        · split
          · omega
          · split
            · omega
            · omega
    omega
  · rcases Bool.or_eq_true _ _ ▸ a6 with e | e
    · have : x.name.size = 0 := by simpa using e
      omega
    · unfold nameOk at e
      simp only [Bool.and_eq_true, decide_eq_true_eq] at e
      exact e.1.1.1.2
theorem valBody_congr {ns : List Nd} {g h : Int → List UInt8} {x : Nd} (hx : ValKids x) (H : ∀ c ∈ x.kids, g c = h c) : valBody ns g x = valBody ns h x := by
  have hp : ∀ c ∈ x.kids, parL ns g c = parL ns h c := fun c hc => by unfold parL; rw [H c hc]
  unfold valBody
  by_cases h8 : x.kind = 8
  · have := hp _ (getD_mem (cs := x.kids) (n := 0) (by rw [hx.one h8]; omega))
    rw [this]
    simp [h8]
  · by_cases h12 : x.kind = 12
    · rw [argTo_congr H _ (Nat.le_refl _)]
      simp [h12]
    · by_cases h9 : 9 ≤ x.kind
      · have hl := hx.two h9 (by have := hx.val; omega)
        rw [hp _ (getD_mem (cs := x.kids) (n := 0) (by omega)), hp _ (getD_mem (cs := x.kids) (n := 1) (by omega)), if_neg h8, if_neg h8, if_neg h12, if_neg h12]
      · have := hx.val
        have hc : x.kind = 1 ∨ x.kind = 2 ∨ x.kind = 3 ∨ x.kind = 4 ∨ x.kind = 5 ∨ x.kind = 6 ∨ x.kind = 7 := by omega
        rcases hc with e | e | e | e | e | e | e <;> simp [e]
/-- Kids of values are values. -/
theorem kid_val {ns : List Nd} {k : Nat} (h : nodeOk ns (k : Int) = true) (hv : isVal (ns.getD k nd0).kind = true) : ∀ c ∈ (ns.getD k nd0).kids, isVal (ns.getD c.toNat nd0).kind = true := by
  intro c hc
  unfold nodeOk at h
  simp only [Bool.and_eq_true, Int.toNat_natCast] at h
  obtain ⟨j, hj, hjc⟩ := List.getElem_of_mem hc
  have h1 := kidsTo_at h.2 j hj
  unfold kidOk at h1
  simp only [Bool.and_eq_true] at h1
  have h2 := h1.1.2
  have h3 : (ns.getD k nd0).kids.getD j 0 = c := (getD_at hj).trans hjc
  rw [h3] at h2
  have hk : 1 ≤ (ns.getD k nd0).kind ∧ (ns.getD k nd0).kind ≤ 12 := by simpa [isVal, isIn] using hv
  unfold fits at h2
  rw [if_neg (by omega), if_neg (by omega), if_neg (by omega)] at h2
  exact h2
theorem valF_eq {ns : List Nd} {m : Nat} (hm : m < ns.length) (hd : deepOf ns (m : Int) ≠ 0) : ∀ k : Nat, k ≤ m → isVal (ns.getD k nd0).kind = true → ∀ f g, k < f → k < g → valF ns f (k : Int) = valF ns g (k : Int) := by
  intro k
  induction k using Nat.strongRecOn with
  | _ k ih =>
    intro hk hv f g hf hg
    obtain ⟨f, rfl⟩ : ∃ f', f = f' + 1 := ⟨f - 1, by omega⟩
    obtain ⟨g, rfl⟩ : ∃ g', g = g' + 1 := ⟨g - 1, by omega⟩
    have hok := deep_nodes hm hd k hk
    simp only [valF, Int.toNat_natCast]
    refine valBody_congr (valKids hok hv) (fun c hc => ?_)
    have hb := ahead_of hm hd k hk c hc
    have hvc := kid_val hok hv c hc
    obtain ⟨n, rfl⟩ : ∃ n : Nat, c = (n : Int) := ⟨c.toNat, by omega⟩
    rw [Int.toNat_natCast] at hvc
    exact ih n (by omega) (by omega) hvc f g (by omega) (by omega)
/-- A value says what its kids say. -/
theorem valL_body {ns : List Nd} {m : Nat} (hm : m < ns.length) (hd : deepOf ns (m : Int) ≠ 0) {k : Nat} (hk : k ≤ m) (hv : isVal (ns.getD k nd0).kind = true) : valL ns (k : Int) = valBody ns (valL ns) (ns.getD k nd0) := by
  have hok := deep_nodes hm hd k hk
  unfold valL
  simp only [valF, Int.toNat_natCast]
  refine valBody_congr (valKids hok hv) (fun c hc => ?_)
  have hb := ahead_of hm hd k hk c hc
  have hvc := kid_val hok hv c hc
  obtain ⟨n, rfl⟩ : ∃ n : Nat, c = (n : Int) := ⟨c.toNat, by omega⟩
  rw [Int.toNat_natCast] at hvc
  exact valF_eq hm hd n (by omega) hvc k ((n : Int).toNat + 1) (by omega) (by rw [Int.toNat_natCast]; omega)

theorem mxTo_ge (ds kids : List Int) : ∀ n j, j < n → ds.getD (kids.getD j 0).toNat 0 ≤ mxTo ds kids n := by
  intro n
  induction n with
  | zero => intro j h; omega
  | succ n ih =>
    intro j hj
    simp only [mxTo]
    rcases Nat.lt_or_ge j n with h1 | h1
    · have := ih j h1
      omega
    · have : j = n := by omega
      subst this
      omega
/-- A node is deeper than its kids. -/
theorem deep_kid {ns : List Nd} {m : Nat} (hm : m < ns.length) (hd : deepOf ns (m : Int) ≠ 0) {k : Nat} (hk : k ≤ m) {c : Int} (hc : c ∈ (ns.getD k nd0).kids) : 0 < deepOf ns c ∧ deepOf ns c < deepOf ns (k : Int) ∧ deepOf ns (k : Int) ≤ 10 := by
  have hb := ahead_of hm hd k hk c hc
  obtain ⟨n, rfl⟩ : ∃ n : Nat, c = (n : Int) := ⟨c.toNat, by omega⟩
  have hnk : n < k := by omega
  have hkl : k < ns.length := by omega
  have hne : ∀ t, t ≤ m → deepNext ns (deeps ns t) t ≠ 0 := fun t ht h0 => hd (deepOf_zero hm ht h0)
  rw [deepOf_in hkl, deepOf_in (by omega), deeps_last, deeps_last]
  have e1 : deepNext ns (deeps ns n) n = (deeps ns k).getD n 0 := by rw [← deeps_last, deeps_pre ns (i := n) (n := n + 1) (m := k) (by omega) (by omega)]
  have hn0 := hne n (by omega)
  have hnn := (deeps_bound ns k n).1
  have hk0 := hne k hk
  rw [e1] at hn0 ⊢
  obtain ⟨j, hj, hjc⟩ := List.getElem_of_mem hc
  have hg := mxTo_ge (deeps ns k) (ns.getD k nd0).kids (ns.getD k nd0).kids.length j hj
  rw [(getD_at hj).trans hjc, Int.toNat_natCast] at hg
  unfold deepNext at hk0 ⊢
  split at hk0
  · rw [if_pos (by assumption)]
    split at hk0
    · exact absurd rfl hk0
    · rw [if_neg (by assumption)]
      omega
  · exact absurd rfl hk0
theorem argTo_len {g : Int → List UInt8} {cs : List Int} {b : Nat} (H : ∀ c ∈ cs, (g c).length ≤ b) : ∀ n, n ≤ cs.length → (argTo g cs n).length ≤ n * (b + 2) := by
  intro n
  induction n with
  | zero => intro _; simp [argTo]
  | succ n ih =>
    intro hn
    have h1 := ih (by omega)
    have h2 := H _ (getD_mem (cs := cs) (n := n) (by omega))
    simp only [argTo, List.length_append]
    have h3 : (if n = 0 then ([] : List UInt8) else [44, 32]).length ≤ 2 := by split <;> simp
    rw [Nat.add_mul]
    omega
theorem parL_len (ns : List Nd) (g : Int → List UInt8) (c : Int) : (parL ns g c).length ≤ (g c).length + 2 := by
  unfold parL
  split
  · simp
  · omega
theorem sgnL_len (k : Int) : (sgnL k).length ≤ 4 := by
  unfold sgnL
  split
  · simp
  · split <;> simp
theorem name_len (x : Nd) : x.name.data.toList.length = x.name.size := by rw [Array.length_toList]; rfl
theorem valBody_len {ns : List Nd} {g : Int → List UInt8} {x : Nd} {b : Nat} (hx : ValKids x) (hb : 20 ≤ b) (H : ∀ c ∈ x.kids, (g c).length ≤ b) : (valBody ns g x).length ≤ 4 * b := by
  have hn := hx.name
  rw [← name_len] at hn
  have hi := Lib.itoa_length_le x.num (by have := hx.num; omega) (by have := hx.num; omega)
  have h0 : x.kind = 8 ∨ (9 ≤ x.kind ∧ x.kind ≤ 11) → (parL ns g (x.kids.getD 0 0)).length ≤ b + 2 := fun h => by
    have h1 := H _ (getD_mem (cs := x.kids) (n := 0) (by rcases h with h | h; · rw [hx.one h]; omega
                                                         · rw [hx.two h.1 h.2]; omega))
    have := parL_len ns g (x.kids.getD 0 0)
    omega
  have h2 : (9 ≤ x.kind ∧ x.kind ≤ 11) → (parL ns g (x.kids.getD 1 0)).length ≤ b + 2 := fun h => by
    have h1 := H _ (getD_mem (cs := x.kids) (n := 1) (by rw [hx.two h.1 h.2]; omega))
    have := parL_len ns g (x.kids.getD 1 0)
    omega
  have ha := argTo_len H _ (Nat.le_refl _)
  have hf := hx.few
  have hs := sgnL_len x.kind
  have hv := hx.val
  have ha3 : (argTo g x.kids x.kids.length).length ≤ 3 * (b + 2) := Nat.le_trans ha (Nat.mul_le_mul_right _ hf)
  unfold valBody
  repeat' split
  all_goals try simp only [List.length_append, List.length_cons, List.length_nil]
  all_goals first | omega | (have := h0 (.inl (by assumption)); omega) | (have := h0 (.inr (by omega)); have := h2 (by omega); omega)
theorem valL_len {ns : List Nd} {m : Nat} (hm : m < ns.length) (hd : deepOf ns (m : Int) ≠ 0) : ∀ k : Nat, k ≤ m → isVal (ns.getD k nd0).kind = true → (valL ns (k : Int)).length ≤ 20 * 4 ^ (deepOf ns (k : Int)).toNat := by
  intro k
  induction k using Nat.strongRecOn with
  | _ k ih =>
    intro hk hv
    have hok := deep_nodes hm hd k hk
    rw [valL_body hm hd hk hv]
    have hkp : 0 < deepOf ns (k : Int) := by
      have h1 : deepOf ns (k : Int) ≠ 0 := fun h0 => hd (by
        rw [deepOf_in (show k < ns.length by omega)] at h0
        rw [deepOf_in hm]
        exact deeps_zero ns h0 m hk)
      have h2 : 0 ≤ deepOf ns (k : Int) := by rw [deepOf_in (show k < ns.length by omega)]; exact (deeps_bound ns _ _).1
      omega
    obtain ⟨D, hD⟩ : ∃ D, (deepOf ns (k : Int)).toNat = D + 1 := ⟨(deepOf ns (k : Int)).toNat - 1, by omega⟩
    rw [hD, Nat.pow_succ, show 20 * (4 ^ D * 4) = 4 * (20 * 4 ^ D) by omega]
    refine valBody_len (valKids hok hv) (by have : 1 ≤ 4 ^ D := Nat.one_le_pow _ _ (by omega); omega) (fun c hc => ?_)
    have hb := ahead_of hm hd k hk c hc
    have hvc := kid_val hok hv c hc
    have hdk := deep_kid hm hd hk hc
    obtain ⟨n, rfl⟩ : ∃ n : Nat, c = (n : Int) := ⟨c.toNat, by omega⟩
    rw [Int.toNat_natCast] at hvc
    refine Nat.le_trans (ih n (by omega) (by omega) hvc) ?_
    exact Nat.mul_le_mul_left _ (Nat.pow_le_pow_right (by omega) (by omega))

end Go.Proofs.Ytabejilnpblogaa

namespace Go.Proofs.Ytabejilnpblogaa

/-- Two blanks, at most twenty times. -/
def inL (i : Int) : List UInt8 := List.replicate (2 * (min i.toNat 20)) 32
/-- One more, as a machine counts. -/
def inNext (i : Int) : Int := if i = 9223372036854775807 then -9223372036854775808 else i + 1
/-- The first n statements of a row. -/
def stepsTo (S : Int → Int → List UInt8) (cs : List Int) (i : Int) : Nat → List UInt8
  | 0 => []
  | n + 1 => stepsTo S cs i n ++ S (cs.getD n 0) i
def blkL (ns : List Nd) (S : Int → Int → List UInt8) (c i : Int) : List UInt8 := stepsTo S (ns.getD c.toNat nd0).kids i (ns.getD c.toNat nd0).kids.length
/-- A statement in words, what its kids say being given. -/
def stepBody (ns : List Nd) (S : Int → Int → List UInt8) (x : Nd) (i : Int) : List UInt8 :=
  if x.kind = 13 then inL i ++ [108, 101, 116, 32] ++ x.name.data.toList ++ [32, 61, 32] ++ valL ns (x.kids.getD 0 0) ++ [59, 10]
  else if x.kind = 14 then inL i ++ x.name.data.toList ++ [32, 61, 32] ++ valL ns (x.kids.getD 0 0) ++ [59, 10]
  else if x.kind = 15 then inL i ++ [42] ++ x.name.data.toList ++ [32, 61, 32] ++ valL ns (x.kids.getD 0 0) ++ [59, 10]
  else if x.kind = 18 then inL i ++ [112, 114, 105, 110, 116, 32] ++ valL ns (x.kids.getD 0 0) ++ [59, 10]
  else if x.kind = 19 then inL i ++ [100, 111, 32] ++ valL ns (x.kids.getD 0 0) ++ [59, 10]
  else if x.kind = 16 then inL i ++ [105, 102, 32] ++ valL ns (x.kids.getD 0 0) ++ [32, 123, 10] ++ blkL ns S (x.kids.getD 1 0) (inNext i) ++ inL i ++ [125, 32, 101, 108, 115, 101, 32, 123, 10] ++ blkL ns S (x.kids.getD 2 0) (inNext i) ++ inL i ++ [125, 10]
  else inL i ++ [119, 104, 105, 108, 101, 32] ++ valL ns (x.kids.getD 0 0) ++ [32, 123, 10] ++ blkL ns S (x.kids.getD 1 0) (inNext i) ++ inL i ++ [125, 10]
def stepF (ns : List Nd) : Nat → Int → Int → List UInt8
  | 0, _, _ => []
  | f + 1, k, i => stepBody ns (stepF ns f) (ns.getD k.toNat nd0) i
def stepL (ns : List Nd) (k i : Int) : List UInt8 := stepF ns (k.toNat + 1) k i

theorem stepsTo_congr {S S' : Int → Int → List UInt8} {cs : List Int} {i : Int} (H : ∀ c ∈ cs, S c i = S' c i) : ∀ n, n ≤ cs.length → stepsTo S cs i n = stepsTo S' cs i n := by
  intro n
  induction n with
  | zero => intro _; rfl
  | succ n ih =>
    intro hn
    simp only [stepsTo]
    rw [ih (by omega), H _ (getD_mem (cs := cs) (n := n) (by omega))]
/-- The kids of a statement. -/
structure StmKids (ns : List Nd) (x : Nd) : Prop where
  stm : 13 ≤ x.kind ∧ x.kind ≤ 19
  some : 0 < x.kids.length
  two : x.kind = 17 → x.kids.length = 2
  three : x.kind = 16 → x.kids.length = 3
  one : x.kind ≠ 16 → x.kind ≠ 17 → x.kids.length = 1
  val : isVal (ns.getD (x.kids.getD 0 0).toNat nd0).kind = true
  blk : ∀ j, 0 < j → j < x.kids.length → (ns.getD (x.kids.getD j 0).toNat nd0).kind = 20
  name : x.name.size ≤ 8
theorem stmKids {ns : List Nd} {k : Nat} (h : nodeOk ns (k : Int) = true) (hv : isStm (ns.getD k nd0).kind = true) : StmKids ns (ns.getD k nd0) := by
  unfold nodeOk at h
  simp only [Bool.and_eq_true, Int.toNat_natCast] at h
  have h2 := h.1.2
  have hkt := h.2
  unfold headOk at h2
  simp only [Bool.and_eq_true] at h2
  obtain ⟨⟨⟨⟨⟨a1, a2⟩, a3⟩, a4⟩, a5⟩, a6⟩ := h2
  generalize ns.getD k nd0 = x at hv a1 a2 a3 a4 a5 a6 hkt ⊢
  have hk : 13 ≤ x.kind ∧ x.kind ≤ 19 := by simpa [isStm, isIn] using hv
  have ha2 : kidsLow x.kind ≤ (x.kids.length : Int) ∧ (x.kids.length : Int) ≤ kidsHigh x.kind := by simpa [isIn] using a2
  have hcase : x.kind = 13 ∨ x.kind = 14 ∨ x.kind = 15 ∨ x.kind = 16 ∨ x.kind = 17 ∨ x.kind = 18 ∨ x.kind = 19 := by omega
  have hlen : (x.kind = 17 → x.kids.length = 2) ∧ (x.kind = 16 → x.kids.length = 3) ∧ (x.kind ≠ 16 → x.kind ≠ 17 → x.kids.length = 1) := by
    rcases hcase with e | e | e | e | e | e | e <;> (rw [e] at ha2; simp [kidsLow, kidsHigh] at ha2; refine ⟨fun _ => ?_, fun _ => ?_, fun _ _ => ?_⟩ <;> omega)
  have hsome : 0 < x.kids.length := by
    by_cases h16 : x.kind = 16
    · rw [hlen.2.1 h16]; omega
    · by_cases h17 : x.kind = 17
      · rw [hlen.1 h17]; omega
      · rw [hlen.2.2 h16 h17]; omega
  have hfit : ∀ j, j < x.kids.length → fits x.kind (j : Int) (ns.getD (x.kids.getD j 0).toNat nd0).kind = true := fun j hj => by
    have h1 := kidsTo_at hkt j hj
    unfold kidOk at h1
    simp only [Bool.and_eq_true] at h1
    exact h1.1.2
  refine ⟨hk, hsome, hlen.1, hlen.2.1, hlen.2.2, ?_, fun j h0 hj => ?_, ?_⟩
  · have h1 := hfit 0 hsome
    unfold fits at h1
    rw [if_neg (by omega), if_neg (by simp)] at h1
    split at h1
    · have : (ns.getD (x.kids.getD 0 0).toNat nd0).kind = 12 := by simpa using h1
      rw [this]
      rfl
    · exact h1
  · have h1 := hfit j hj
    have h16 : x.kind = 16 ∨ x.kind = 17 := by
      by_cases h16 : x.kind = 16
      · exact .inl h16
      · by_cases h17 : x.kind = 17
        · exact .inr h17
        · have := hlen.2.2 h16 h17
          omega
    unfold fits at h1
    rw [if_neg (by omega), if_pos ⟨h16, by omega⟩] at h1
    simpa using h1
  · rcases Bool.or_eq_true _ _ ▸ a6 with e | e
    · have : x.name.size = 0 := by simpa using e
      omega
    · unfold nameOk at e
      simp only [Bool.and_eq_true, decide_eq_true_eq] at e
      exact e.1.1.1.2
theorem stepBody_congr {ns : List Nd} {S S' : Int → Int → List UInt8} {x : Nd} {i : Int} (hx : StmKids ns x) (H : ∀ c ∈ x.kids, ∀ e ∈ (ns.getD c.toNat nd0).kids, ∀ i, S e i = S' e i) : stepBody ns S x i = stepBody ns S' x i := by
  have hb : ∀ j, j < x.kids.length → blkL ns S (x.kids.getD j 0) (inNext i) = blkL ns S' (x.kids.getD j 0) (inNext i) := fun j hj => stepsTo_congr (fun e he => H _ (getD_mem hj) e he _) _ (Nat.le_refl _)
  unfold stepBody
  by_cases h16 : x.kind = 16
  · rw [hb 1 (by rw [hx.three h16]; omega), hb 2 (by rw [hx.three h16]; omega)]
  · by_cases h17 : x.kind = 17
    · rw [hb 1 (by rw [hx.two h17]; omega), if_neg h16, if_neg h16]
    · have := hx.stm
      have hc : x.kind = 13 ∨ x.kind = 14 ∨ x.kind = 15 ∨ x.kind = 18 ∨ x.kind = 19 := by omega
      rcases hc with e | e | e | e | e <;> simp [e]
/-- The kids of a block are statements. -/
theorem blk_kids {ns : List Nd} {k : Nat} (h : nodeOk ns (k : Int) = true) (hv : (ns.getD k nd0).kind = 20) : (ns.getD k nd0).kids.length ≤ 12 ∧ ∀ c ∈ (ns.getD k nd0).kids, isStm (ns.getD c.toNat nd0).kind = true := by
  unfold nodeOk at h
  simp only [Bool.and_eq_true, Int.toNat_natCast] at h
  constructor
  · have h2 := h.1.2
    unfold headOk at h2
    simp only [Bool.and_eq_true] at h2
    have ha2 := h2.1.1.1.1.2
    rw [hv] at ha2
    have : ((ns.getD k nd0).kids.length : Int) ≤ 12 := by simpa [isIn, kidsLow, kidsHigh] using ha2
    omega
  · intro c hc
    obtain ⟨j, hj, hjc⟩ := List.getElem_of_mem hc
    have h1 := kidsTo_at h.2 j hj
    unfold kidOk at h1
    simp only [Bool.and_eq_true] at h1
    have h2 := h1.1.2
    rw [(getD_at hj).trans hjc] at h2
    unfold fits at h2
    rw [if_pos hv] at h2
    exact h2
/-- What lies two below a statement: a statement again, ahead of it. -/
theorem two_below {ns : List Nd} {m : Nat} (hm : m < ns.length) (hd : deepOf ns (m : Int) ≠ 0) {k : Nat} (hk : k ≤ m) {j : Nat} (h0 : 0 < j) (hs : isStm (ns.getD k nd0).kind = true) (hj : j < (ns.getD k nd0).kids.length) :
    ∃ b : Nat, (ns.getD k nd0).kids.getD j 0 = (b : Int) ∧ b < k ∧ (ns.getD b nd0).kind = 20 ∧ (ns.getD b nd0).kids.length ≤ 12 ∧ ∀ e ∈ (ns.getD b nd0).kids, ∃ n : Nat, e = (n : Int) ∧ n < b ∧ isStm (ns.getD n nd0).kind = true ∧ 0 < deepOf ns (n : Int) ∧ deepOf ns (n : Int) + 2 ≤ deepOf ns (k : Int) := by
  have hok := deep_nodes hm hd k hk
  have hx := stmKids hok hs
  have hc := getD_mem hj
  have hb := ahead_of hm hd k hk _ hc
  have hd1 := deep_kid hm hd hk hc
  obtain ⟨b, hbe⟩ : ∃ b : Nat, (ns.getD k nd0).kids.getD j 0 = (b : Int) := ⟨((ns.getD k nd0).kids.getD j 0).toNat, by omega⟩
  have h20 := hx.blk j h0 hj
  rw [hbe, Int.toNat_natCast] at h20
  rw [hbe] at hb hd1
  have hbm : b ≤ m := by omega
  have hkb := blk_kids (deep_nodes hm hd b hbm) h20
  refine ⟨b, hbe, by omega, h20, hkb.1, fun e he => ?_⟩
  have hb2 := ahead_of hm hd b hbm e he
  have hd2 := deep_kid hm hd hbm he
  have hs2 := hkb.2 e he
  obtain ⟨n, rfl⟩ : ∃ n : Nat, e = (n : Int) := ⟨e.toNat, by omega⟩
  rw [Int.toNat_natCast] at hs2
  exact ⟨n, rfl, by omega, hs2, hd2.1, by omega⟩

/-- A value that is let, told or asked for. -/
theorem step_val {ns : List Nd} {m : Nat} (hm : m < ns.length) (hd : deepOf ns (m : Int) ≠ 0) {k : Nat} (hk : k ≤ m) (hs : isStm (ns.getD k nd0).kind = true) : ∃ n : Nat, (ns.getD k nd0).kids.getD 0 0 = (n : Int) ∧ n < k ∧ isVal (ns.getD n nd0).kind = true ∧ (valL ns (n : Int)).length ≤ 30000000 := by
  have hok := deep_nodes hm hd k hk
  have hx := stmKids hok hs
  have hc := getD_mem hx.some
  have hb := ahead_of hm hd k hk _ hc
  have hdk := deep_kid hm hd hk hc
  have hv := hx.val
  obtain ⟨n, hn⟩ : ∃ n : Nat, (ns.getD k nd0).kids.getD 0 0 = (n : Int) := ⟨((ns.getD k nd0).kids.getD 0 0).toNat, by omega⟩
  rw [hn] at hb hdk
  rw [hn, Int.toNat_natCast] at hv
  refine ⟨n, hn, by omega, hv, Nat.le_trans (valL_len hm hd n (by omega) hv) ?_⟩
  have h1 : 4 ^ (deepOf ns (n : Int)).toNat ≤ 4 ^ 10 := Nat.pow_le_pow_right (by omega) (by omega)
  have h2 : (4 : Nat) ^ 10 = 1048576 := by decide
  omega
/-- Only what stands two below in a block is looked at: more fuel says no more. -/
theorem stepF_eq {ns : List Nd} {m : Nat} (hm : m < ns.length) (hd : deepOf ns (m : Int) ≠ 0) : ∀ k : Nat, k ≤ m → isStm (ns.getD k nd0).kind = true → ∀ f g, k < f → k < g → ∀ i, stepF ns f (k : Int) i = stepF ns g (k : Int) i := by
  intro k
  induction k using Nat.strongRecOn with
  | _ k ih =>
    intro hk hs f g hf hg i
    obtain ⟨f, rfl⟩ : ∃ f', f = f' + 1 := ⟨f - 1, by omega⟩
    obtain ⟨g, rfl⟩ : ∃ g', g = g' + 1 := ⟨g - 1, by omega⟩
    have hx := stmKids (deep_nodes hm hd k hk) hs
    have hb : ∀ j, 0 < j → j < (ns.getD k nd0).kids.length → blkL ns (stepF ns f) ((ns.getD k nd0).kids.getD j 0) (inNext i) = blkL ns (stepF ns g) ((ns.getD k nd0).kids.getD j 0) (inNext i) := fun j h0 hj => by
      obtain ⟨b, hbe, hbk, _, _, hbe2⟩ := two_below hm hd hk h0 hs hj
      unfold blkL
      rw [hbe, Int.toNat_natCast]
      refine stepsTo_congr (fun e he => ?_) _ (Nat.le_refl _)
      obtain ⟨n, rfl, hn, hsn, _⟩ := hbe2 e he
      exact ih n (by omega) (by omega) hsn f g (by omega) (by omega) _
    simp only [stepF, Int.toNat_natCast]
    unfold stepBody
    by_cases h16 : (ns.getD k nd0).kind = 16
    · rw [hb 1 (by omega) (by rw [hx.three h16]; omega), hb 2 (by omega) (by rw [hx.three h16]; omega)]
    · by_cases h17 : (ns.getD k nd0).kind = 17
      · rw [hb 1 (by omega) (by rw [hx.two h17]; omega), if_neg h16, if_neg h16]
      · have := hx.stm
        have hc : (ns.getD k nd0).kind = 13 ∨ (ns.getD k nd0).kind = 14 ∨ (ns.getD k nd0).kind = 15 ∨ (ns.getD k nd0).kind = 18 ∨ (ns.getD k nd0).kind = 19 := by omega
        rcases hc with e | e | e | e | e <;> rw [e] <;> rfl
theorem stepL_body {ns : List Nd} {m : Nat} (hm : m < ns.length) (hd : deepOf ns (m : Int) ≠ 0) {k : Nat} (hk : k ≤ m) (hs : isStm (ns.getD k nd0).kind = true) (i : Int) : stepL ns (k : Int) i = stepBody ns (stepL ns) (ns.getD k nd0) i := by
  have hx := stmKids (deep_nodes hm hd k hk) hs
  have hb : ∀ j, 0 < j → j < (ns.getD k nd0).kids.length → blkL ns (stepF ns k) ((ns.getD k nd0).kids.getD j 0) (inNext i) = blkL ns (stepL ns) ((ns.getD k nd0).kids.getD j 0) (inNext i) := fun j h0 hj => by
    obtain ⟨b, hbe, hbk, _, _, hbe2⟩ := two_below hm hd hk h0 hs hj
    unfold blkL
    rw [hbe, Int.toNat_natCast]
    refine stepsTo_congr (fun e he => ?_) _ (Nat.le_refl _)
    obtain ⟨n, rfl, hn, hsn, _⟩ := hbe2 e he
    exact stepF_eq hm hd n (by omega) hsn k ((n : Int).toNat + 1) (by omega) (by rw [Int.toNat_natCast]; omega) _
  show stepF ns ((k : Int).toNat + 1) (k : Int) i = _
  simp only [stepF, Int.toNat_natCast]
  unfold stepBody
  by_cases h16 : (ns.getD k nd0).kind = 16
  · rw [hb 1 (by omega) (by rw [hx.three h16]; omega), hb 2 (by omega) (by rw [hx.three h16]; omega)]
  · by_cases h17 : (ns.getD k nd0).kind = 17
    · rw [hb 1 (by omega) (by rw [hx.two h17]; omega), if_neg h16, if_neg h16]
    · have := hx.stm
      have hc : (ns.getD k nd0).kind = 13 ∨ (ns.getD k nd0).kind = 14 ∨ (ns.getD k nd0).kind = 15 ∨ (ns.getD k nd0).kind = 18 ∨ (ns.getD k nd0).kind = 19 := by omega
      rcases hc with e | e | e | e | e <;> rw [e] <;> rfl
theorem inL_len (i : Int) : (inL i).length ≤ 40 := by
  unfold inL
  rw [List.length_replicate]
  omega
theorem stepsTo_len {S : Int → Int → List UInt8} {cs : List Int} {i : Int} {b : Nat} (H : ∀ c ∈ cs, (S c i).length ≤ b) : ∀ n, n ≤ cs.length → (stepsTo S cs i n).length ≤ n * b := by
  intro n
  induction n with
  | zero => intro _; simp [stepsTo]
  | succ n ih =>
    intro hn
    have h1 := ih (by omega)
    have h2 := H _ (getD_mem (cs := cs) (n := n) (by omega))
    simp only [stepsTo, List.length_append]
    rw [Nat.add_mul, Nat.one_mul]
    omega
theorem stepL_len {ns : List Nd} {m : Nat} (hm : m < ns.length) (hd : deepOf ns (m : Int) ≠ 0) : ∀ k : Nat, k ≤ m → isStm (ns.getD k nd0).kind = true → ∀ i, (stepL ns (k : Int) i).length ≤ 40000000 * 30 ^ ((deepOf ns (k : Int)).toNat / 2) := by
  intro k
  induction k using Nat.strongRecOn with
  | _ k ih =>
    intro hk hs i
    have hx := stmKids (deep_nodes hm hd k hk) hs
    rw [stepL_body hm hd hk hs]
    obtain ⟨n, hn, hnk, hnv, hnl⟩ := step_val hm hd hk hs
    have hdk := (deep_kid hm hd hk (getD_mem hx.some)).2.1
    have hd0 := (deep_kid hm hd hk (getD_mem hx.some)).1
    obtain ⟨D, hD⟩ : ∃ D, (deepOf ns (k : Int)).toNat / 2 = D + 1 := ⟨(deepOf ns (k : Int)).toNat / 2 - 1, by omega⟩
    rw [hD]
    have hpow : 40000000 * 30 ^ (D + 1) = 30 * (40000000 * 30 ^ D) := by rw [Nat.pow_succ]; omega
    have hp1 : 1 ≤ 30 ^ D := Nat.one_le_pow _ _ (by omega)
    rw [hpow]
    generalize hB : 40000000 * 30 ^ D = B
    have hB1 : 40000000 ≤ B := by omega
    have hbl : ∀ j, 0 < j → j < (ns.getD k nd0).kids.length → (blkL ns (stepL ns) ((ns.getD k nd0).kids.getD j 0) (inNext i)).length ≤ 12 * B := fun j h0 hj => by
      obtain ⟨b, hbe, hbk, _, h12, hbe2⟩ := two_below hm hd hk h0 hs hj
      unfold blkL
      rw [hbe, Int.toNat_natCast]
      refine Nat.le_trans (stepsTo_len (b := B) (fun e he => ?_) _ (Nat.le_refl _)) (Nat.mul_le_mul_right _ h12)
      obtain ⟨n, rfl, hn, hsn, hp, hq⟩ := hbe2 e he
      refine Nat.le_trans (ih n (by omega) (by omega) hsn _) ?_
      rw [← hB]
      exact Nat.mul_le_mul_left _ (Nat.pow_le_pow_right (by omega) (by omega))
    have hi := inL_len i
    have hnm := hx.name
    rw [← name_len] at hnm
    rw [← hn] at hnl
    have hst := hx.stm
    unfold stepBody
    by_cases h16 : (ns.getD k nd0).kind = 16
    · have b1 := hbl 1 (by omega) (by rw [hx.three h16]; omega)
      have b2 := hbl 2 (by omega) (by rw [hx.three h16]; omega)
      rw [if_neg (by omega), if_neg (by omega), if_neg (by omega), if_neg (by omega), if_neg (by omega), if_pos h16]
      simp only [List.length_append, List.length_cons, List.length_nil]
      omega
    · by_cases h17 : (ns.getD k nd0).kind = 17
      · have b1 := hbl 1 (by omega) (by rw [hx.two h17]; omega)
        rw [if_neg (by omega), if_neg (by omega), if_neg (by omega), if_neg (by omega), if_neg (by omega), if_neg h16]
        simp only [List.length_append, List.length_cons, List.length_nil]
        omega
      · have hc : (ns.getD k nd0).kind = 13 ∨ (ns.getD k nd0).kind = 14 ∨ (ns.getD k nd0).kind = 15 ∨ (ns.getD k nd0).kind = 18 ∨ (ns.getD k nd0).kind = 19 := by omega
        rcases hc with e | e | e | e | e
        · rw [if_pos e]
          simp only [List.length_append, List.length_cons, List.length_nil]
          omega
        · rw [if_neg (by omega), if_pos e]
          simp only [List.length_append, List.length_cons, List.length_nil]
          omega
        · rw [if_neg (by omega), if_neg (by omega), if_pos e]
          simp only [List.length_append, List.length_cons, List.length_nil]
          omega
        · rw [if_neg (by omega), if_neg (by omega), if_neg (by omega), if_pos e]
          simp only [List.length_append, List.length_cons, List.length_nil]
          omega
        · rw [if_neg (by omega), if_neg (by omega), if_neg (by omega), if_neg (by omega), if_pos e]
          simp only [List.length_append, List.length_cons, List.length_nil]
          omega

/-- A number that no text of a tree reaches. -/
theorem stepL_small {ns : List Nd} {m : Nat} (hm : m < ns.length) (hd : deepOf ns (m : Int) ≠ 0) (k : Nat) (hk : k ≤ m) (hs : isStm (ns.getD k nd0).kind = true) (i : Int) : (stepL ns (k : Int) i).length ≤ 1000000000000000 := by
  refine Nat.le_trans (stepL_len hm hd k hk hs i) ?_
  have hx := stmKids (deep_nodes hm hd k hk) hs
  have h10 := (deep_kid hm hd hk (getD_mem hx.some)).2.2
  have h1 : 30 ^ ((deepOf ns (k : Int)).toNat / 2) ≤ 30 ^ 5 := Nat.pow_le_pow_right (by omega) (by omega)
  have h2 : (30 : Nat) ^ 5 = 24300000 := by decide
  omega

end Go.Proofs.Ytabejilnpblogaa

namespace Go.Proofs.Ytabejilnpblogaa

def pm0 : Pm := ⟨ByteArray.empty, 0⟩
def fc0 : Fc := ⟨ByteArray.empty, [], 0, 0, 0⟩
def tyL (t : Int) : List UInt8 := if t = 1 then [105, 110, 116] else if t = 2 then [98, 111, 120] else if t = 3 then [38, 98, 111, 120] else [38, 109, 117, 116, 32, 98, 111, 120]
/-- The first n params, with a comma between. -/
def parTo (ps : List Pm) : Nat → List UInt8
  | 0 => []
  | n + 1 => parTo ps n ++ (if n = 0 then [] else [44, 32]) ++ (ps.getD n pm0).name.data.toList ++ [58, 32] ++ tyL (ps.getD n pm0).ty
def resL (f : Fc) : List UInt8 := if f.res = 0 then [] else [32, 45, 62, 32] ++ tyL f.res
def retL (ns : List Nd) (f : Fc) : List UInt8 := if 0 ≤ f.ret then [32, 32, 114, 101, 116, 32] ++ valL ns f.ret ++ [59, 10] else []
def fnT (ns : List Nd) (f : Fc) : List UInt8 := [102, 110, 32] ++ f.name.data.toList ++ [40] ++ parTo f.params f.params.length ++ [41] ++ resL f ++ [32, 123, 10] ++ blkL ns (stepL ns) f.body 1 ++ retL ns f ++ [125, 10]
/-- The first n functions. -/
def prgTo (p : Pg) : Nat → List UInt8
  | 0 => []
  | n + 1 => prgTo p n ++ fnT p.nodes (p.fns.getD n fc0)
/-- What ShowProgram answers. -/
def showPrg (p : Pg) : List UInt8 × Bool := if programOk p = true then (if 3000 < (prgTo p p.fns.length).length then ([], false) else (prgTo p p.fns.length, true)) else ([], false)

/-- What is known of a function of a right program. -/
structure FnFacts (ns : List Nd) (f : Fc) : Prop where
  name : f.name.size ≤ 8
  few : f.params.length ≤ 3
  pars : ∀ p ∈ f.params, p.name.size ≤ 8
  body : 0 ≤ f.body ∧ f.body < (ns.length : Int) ∧ (ns.getD f.body.toNat nd0).kind = 20
  none : f.res = 0 → f.ret = -1
  some : f.res ≠ 0 → 0 ≤ f.ret ∧ f.ret < (ns.length : Int) ∧ isVal (ns.getD f.ret.toNat nd0).kind = true
theorem name8 {s : ByteArray} (h : nameOk s = true) : s.size ≤ 8 := by
  unfold nameOk at h
  simp only [Bool.and_eq_true, decide_eq_true_eq] at h
  exact h.1.1.1.2
theorem fn_facts {p : Pg} (h : programOk p = true) {i : Nat} (hi : i < p.fns.length) : FnFacts p.nodes (p.fns.getD i fc0) := by
  unfold programOk at h
  simp only [Bool.and_eq_true] at h
  have h1 := fnsTo_at h.1.2 i hi
  show FnFacts p.nodes (p.fns.getD i ⟨ByteArray.empty, [], 0, 0, 0⟩)
  generalize p.fns.getD i ⟨ByteArray.empty, [], 0, 0, 0⟩ = f at h1 ⊢
  unfold fnOk endsOkB at h1
  simp only [Bool.and_eq_true, decide_eq_true_eq] at h1
  obtain ⟨⟨⟨a1, _⟩, a3, a4⟩, ⟨a5, a6⟩, a7⟩ := h1
  have hb : 0 ≤ f.body ∧ f.body ≤ (p.nodes.length : Int) - 1 := by simpa [isIn] using a5
  refine ⟨name8 a1, a3, fun q hq => ?_, ⟨hb.1, by omega, a6⟩, fun e => ?_, fun e => ?_⟩
  · have := List.all_eq_true.mp a4 q hq
    unfold pmOk at this
    simp only [Bool.and_eq_true] at this
    exact name8 this.1
  · rw [if_pos e] at a7
    simpa using a7
  · rw [if_neg e] at a7
    split at a7
    · simp only [Bool.and_eq_true] at a7
      have hr : 0 ≤ f.ret ∧ f.ret ≤ (p.nodes.length : Int) - 1 := by simpa [isIn] using a7.1
      exact ⟨hr.1, by omega, a7.2⟩
    · cases a7
theorem prog_deep {p : Pg} (h : programOk p = true) : 1 ≤ p.nodes.length ∧ p.fns.length ≤ 8 ∧ deepOf p.nodes ((p.nodes.length - 1 : Nat) : Int) ≠ 0 := by
  unfold programOk at h
  simp only [Bool.and_eq_true, decide_eq_true_eq] at h
  have h1 : 1 ≤ (p.nodes.length : Int) ∧ (p.nodes.length : Int) ≤ 300 := by simpa [isIn] using h.1.1.1.1
  have h2 : 1 ≤ (p.fns.length : Int) ∧ (p.fns.length : Int) ≤ 8 := by simpa [isIn] using h.1.1.1.2
  refine ⟨by omega, by omega, ?_⟩
  have h3 := h.1.1.2
  rwa [show ((p.nodes.length - 1 : Nat) : Int) = (p.nodes.length : Int) - 1 by omega]
theorem tyL_len (t : Int) : (tyL t).length ≤ 8 := by
  unfold tyL
  split
  · simp
  · split
    · simp
    · split <;> simp
theorem pm_getD {ps : List Pm} {n : Nat} (h : n < ps.length) : ps.getD n pm0 = ps[n] := by simp [List.getD, h]
theorem parTo_len {ps : List Pm} (H : ∀ p ∈ ps, p.name.size ≤ 8) : ∀ n, n ≤ ps.length → (parTo ps n).length ≤ n * 20 := by
  intro n
  induction n with
  | zero => intro _; simp [parTo]
  | succ n ih =>
    intro hn
    have h1 := ih (by omega)
    have hm : n < ps.length := by omega
    have h2 := H _ (List.getElem_mem hm)
    have h3 : (if n = 0 then ([] : List UInt8) else [44, 32]).length ≤ 2 := by split <;> simp
    have h4 := tyL_len (ps[n]).ty
    have h5 : ps[n].name.data.toList.length = ps[n].name.size := by rw [Array.length_toList]; rfl
    simp only [parTo, List.length_append, pm_getD hm, List.length_cons, List.length_nil]
    rw [Nat.add_mul]
    omega
/-- The statements of a function's block. -/
theorem body_kids {ns : List Nd} {m : Nat} (hm : m < ns.length) (hd : deepOf ns (m : Int) ≠ 0) {b : Nat} (hb : b ≤ m) (h20 : (ns.getD b nd0).kind = 20) : (ns.getD b nd0).kids.length ≤ 12 ∧ ∀ e ∈ (ns.getD b nd0).kids, ∃ n : Nat, e = (n : Int) ∧ n < b ∧ isStm (ns.getD n nd0).kind = true := by
  have hkb := blk_kids (deep_nodes hm hd b hb) h20
  refine ⟨hkb.1, fun e he => ?_⟩
  have hb2 := ahead_of hm hd b hb e he
  have hs2 := hkb.2 e he
  obtain ⟨n, rfl⟩ : ∃ n : Nat, e = (n : Int) := ⟨e.toNat, by omega⟩
  rw [Int.toNat_natCast] at hs2
  exact ⟨n, rfl, by omega, hs2⟩
theorem body_len {ns : List Nd} {m : Nat} (hm : m < ns.length) (hd : deepOf ns (m : Int) ≠ 0) {b : Nat} (hb : b ≤ m) (h20 : (ns.getD b nd0).kind = 20) (i : Int) : (blkL ns (stepL ns) (b : Int) i).length ≤ 12000000000000000 := by
  obtain ⟨h12, hk⟩ := body_kids hm hd hb h20
  unfold blkL
  rw [Int.toNat_natCast]
  refine Nat.le_trans (stepsTo_len (b := 1000000000000000) (fun e he => ?_) _ (Nat.le_refl _)) (Nat.mul_le_mul_right 1000000000000000 h12)
  obtain ⟨n, rfl, hn, hs⟩ := hk e he
  exact stepL_small hm hd n (by omega) hs i
theorem val_len {ns : List Nd} {m : Nat} (hm : m < ns.length) (hd : deepOf ns (m : Int) ≠ 0) {n : Nat} (hn : n ≤ m) (hv : isVal (ns.getD n nd0).kind = true) : (valL ns (n : Int)).length ≤ 30000000 := by
  refine Nat.le_trans (valL_len hm hd n hn hv) ?_
  have h10 : deepOf ns (n : Int) ≤ 10 := by rw [deepOf_in (show n < ns.length by omega)]; exact (deeps_bound ns _ _).2
  have h1 : 4 ^ (deepOf ns (n : Int)).toNat ≤ 4 ^ 10 := Nat.pow_le_pow_right (by omega) (by omega)
  have h2 : (4 : Nat) ^ 10 = 1048576 := by decide
  omega
theorem fnT_len {p : Pg} (h : programOk p = true) {i : Nat} (hi : i < p.fns.length) : (fnT p.nodes (p.fns.getD i fc0)).length ≤ 13000000000000000 := by
  have hf := fn_facts h hi
  obtain ⟨hN, _, hd⟩ := prog_deep h
  generalize p.fns.getD i fc0 = f at hf ⊢
  have hm : p.nodes.length - 1 < p.nodes.length := by omega
  have h1 := parTo_len hf.pars _ (Nat.le_refl _)
  have h2 := hf.few
  have h3 : f.params.length * 20 ≤ 3 * 20 := Nat.mul_le_mul_right _ h2
  have hb := hf.body
  obtain ⟨b, hbe⟩ : ∃ b : Nat, f.body = (b : Int) := ⟨f.body.toNat, by omega⟩
  have h4 := body_len hm hd (b := b) (by omega) (by rw [hbe, Int.toNat_natCast] at hb; exact hb.2.2) 1
  have h5 : (resL f).length ≤ 12 := by
    unfold resL
    split
    · simp
    · have := tyL_len f.res
      simp only [List.length_append, List.length_cons, List.length_nil]
      omega
  have h6 : (retL p.nodes f).length ≤ 30000008 := by
    unfold retL
    split
    · rename_i hr
      by_cases hz : f.res = 0
      · have := hf.none hz
        omega
      · have hs := hf.some hz
        obtain ⟨n, hn⟩ : ∃ n : Nat, f.ret = (n : Int) := ⟨f.ret.toNat, by omega⟩
        rw [hn, Int.toNat_natCast] at hs
        have := val_len hm hd (n := n) (by omega) hs.2.2
        rw [hn]
        simp only [List.length_append, List.length_cons, List.length_nil]
        omega
    · simp
  have h7 : f.name.data.toList.length ≤ 8 := by rw [Array.length_toList]; exact hf.name
  unfold fnT
  rw [hbe]
  simp only [List.length_append, List.length_cons, List.length_nil]
  omega
theorem prgTo_len {p : Pg} (h : programOk p = true) : ∀ n, n ≤ p.fns.length → (prgTo p n).length ≤ n * 13000000000000000 := by
  intro n
  induction n with
  | zero => intro _; simp [prgTo]
  | succ n ih =>
    intro hn
    have h1 := ih (by omega)
    have h2 := fnT_len h (show n < p.fns.length by omega)
    simp only [prgTo, List.length_append]
    rw [Nat.add_mul]
    omega

end Go.Proofs.Ytabejilnpblogaa
