/-
  Numbers read from figures of ten, plainly. No program, no world.
-/
import Derived.Test.YtljphnjmeckpbaaGreatPlain3
namespace Go.Proofs.YtljphnjmeckpbaaGreat

/-- Is a byte a figure of ten? -/
def isFig (c : UInt8) : Bool := decide (48 ≤ c.toNat) && decide (c.toNat ≤ 57)
/-- What figures of ten make. -/
def valD (l : List UInt8) : Nat := l.foldl (fun n c => 10 * n + (c.toNat - 48)) 0
theorem valD_nil : valD [] = 0 := rfl
theorem valD_snoc (l : List UInt8) (c : UInt8) : valD (l ++ [c]) = 10 * valD l + (c.toNat - 48) := by simp [valD]

theorem head_app {p q : List UInt8} (h : p ≠ []) : (p ++ q).head? = p.head? := by
  cases p with
  | nil => exact absurd rfl h
  | cons a p => rfl

theorem dec_ne (m : Nat) : Lib.decDigits m ≠ [] := by
  intro h
  have := congrArg List.length h
  rw [Lib.decDigits_length] at this
  have := Lib.nDigits_pos m
  simp at *
  omega
theorem dec_big {m : Nat} (h : ¬ m < 10) : Lib.decDigits m = Lib.decDigits (m / 10) ++ [UInt8.ofNat (48 + m % 10)] := by rw [Lib.decDigits, dif_neg h]
theorem dec_head {m : Nat} (h : 0 < m) : (Lib.decDigits m).head? ≠ some 48 := by
  induction m using Nat.strongRecOn with
  | _ m ih =>
    by_cases hm : m < 10
    · rw [Lib.decDigits_one hm]
      simp only [List.head?_cons, ne_eq, Option.some.injEq]
      intro e
      have := congrArg UInt8.toNat e
      simp at this
      omega
    · rw [dec_big hm, head_app (dec_ne _)]
      exact ih (m / 10) (by omega) (by omega)

theorem snoc_cases (l : List UInt8) : l = [] ∨ ∃ p c, l = p ++ [c] := by
  rcases List.eq_nil_or_concat l with h | ⟨p, c, h⟩
  · exact .inl h
  · exact .inr ⟨p, c, by rw [h, List.concat_eq_append]⟩

theorem fig_back {c : UInt8} (h : isFig c = true) : UInt8.ofNat (48 + (c.toNat - 48)) = c := by
  simp [isFig] at h
  rw [show 48 + (c.toNat - 48) = c.toNat by omega]
  simp
theorem dec_valD : ∀ (n : Nat) (l : List UInt8), l.length = n → (∀ c ∈ l, isFig c = true) → l ≠ [] → ¬ (l.head? = some 48 ∧ 1 < l.length) → Lib.decDigits (valD l) = l
  | 0, l, hn, _, hne, _ => absurd (List.eq_nil_of_length_eq_zero hn) hne
  | n + 1, l, hn, hf, hne, hh => by
    rcases snoc_cases l with h | ⟨p, c, rfl⟩
    · exact absurd h hne
    · have hc : isFig c = true := hf c (by simp)
      have hc2 := hc
      simp [isFig] at hc2
      rw [valD_snoc]
      by_cases hp : p = []
      · subst hp
        rw [valD_nil, Lib.decDigits_one (by omega)]
        simp only [List.nil_append, Nat.mul_zero, Nat.zero_add]
        rw [fig_back hc]
      · have hpl : 0 < p.length := List.length_pos_iff.2 hp
        have hh2 : p.head? ≠ some 48 := by
          intro e
          apply hh
          rw [head_app hp]
          exact ⟨e, by simp; omega⟩
        have ih := dec_valD n p (by simp at hn; omega) (fun d hd => hf d (by simp [hd])) hp (fun e => hh2 e.1)
        have hv : 0 < valD p := by
          rcases Nat.eq_zero_or_pos (valD p) with e | e
          · rw [e, Lib.decDigits_one (by omega)] at ih
            rw [← ih] at hh2
            simp at hh2
          · exact e
        rw [dec_big (by omega), show (10 * valD p + (c.toNat - 48)) / 10 = valD p by omega, ih, show (10 * valD p + (c.toNat - 48)) % 10 = c.toNat - 48 by omega, fig_back hc]
theorem dec_spelt (l : List UInt8) (hf : ∀ c ∈ l, isFig c = true) : (Lib.decDigits (valD l) == l) = (decide (l ≠ []) && !decide (l.head? = some 48 ∧ 1 < l.length)) := by
  by_cases h0 : l = []
  · subst h0
    rw [beq_eq_false_iff_ne.2 (dec_ne _)]
    rfl
  · by_cases h1 : l.head? = some 48 ∧ 1 < l.length
    · have : Lib.decDigits (valD l) ≠ l := by
        intro e
        by_cases hm : valD l < 10
        · rw [Lib.decDigits_one hm] at e
          rw [← e] at h1
          simp at h1
        · have := dec_head (m := valD l) (by omega)
          rw [e] at this
          exact this h1.1
      rw [beq_eq_false_iff_ne.2 this]
      simp [h1]
    · rw [dec_valD _ l rfl hf h0 h1]
      simp only [BEq.rfl, h1, decide_eq_true (show l ≠ [] from h0)]
      rfl

/-- What a text is read as: a number, or nothing. -/
def rdOut (t : ByteArray) : Int × Bool :=
  if t.size ≤ 10 ∧ (∀ c ∈ t.data.toList, isFig c = true) ∧ t.data.toList ≠ [] ∧ ¬ (t.data.toList.head? = some 48 ∧ 1 < t.size) ∧ valD t.data.toList ≤ 1000000000 then ((valD t.data.toList : Int), true) else (0, false)

theorem tlen (t : ByteArray) : t.data.toList.length = t.size := by rw [Array.length_toList]; rfl
theorem rd_long {t : ByteArray} (h : 10 < t.size) : rdOut t = (0, false) := by
  unfold rdOut
  rw [if_neg (by omega)]
theorem rd_nofig {t : ByteArray} {i : Nat} (hi : i < t.size) (h : isFig t[i] = false) : rdOut t = (0, false) := by
  unfold rdOut
  rw [if_neg]
  intro hx
  have : t[i] ∈ t.data.toList := by
    have : t.data.toList[i]'(by rw [tlen]; exact hi) ∈ t.data.toList := List.getElem_mem _
    exact this
  have := hx.2.1 _ this
  rw [h] at this
  cases this
theorem rd_empty {t : ByteArray} (h : t.size = 0) : rdOut t = (0, false) := by
  unfold rdOut
  rw [if_neg]
  intro hx
  exact hx.2.2.1 (List.eq_nil_of_length_eq_zero (by rw [tlen]; exact h))
theorem head_at {t : ByteArray} (h : 0 < t.size) : t.data.toList.head? = some t[0] := by
  have : 0 < t.data.toList.length := by rw [tlen]; exact h
  rw [List.head?_eq_getElem?, List.getElem?_eq_getElem this]
  rfl
theorem rd_nought {t : ByteArray} (h : 1 < t.size) (h0 : t[0].toNat = 48) : rdOut t = (0, false) := by
  unfold rdOut
  rw [if_neg]
  intro hx
  apply hx.2.2.2.1
  refine ⟨?_, h⟩
  rw [head_at (by omega)]
  congr 1
  exact UInt8.toNat.inj h0
theorem rd_great {t : ByteArray} (h : 1000000000 < valD t.data.toList) : rdOut t = (0, false) := by
  unfold rdOut
  rw [if_neg (by omega)]
theorem rd_good {t : ByteArray} (h1 : t.size ≤ 10) (h2 : ∀ c ∈ t.data.toList, isFig c = true) (h3 : 0 < t.size) (h4 : ¬ (t.data.toList.head? = some 48 ∧ 1 < t.size)) (h5 : valD t.data.toList ≤ 1000000000) : rdOut t = ((valD t.data.toList : Int), true) := by
  unfold rdOut
  rw [if_pos ⟨h1, h2, fun e => by have := tlen t; rw [e] at this; simp at this; omega, h4, h5⟩]
/-- The model's last test: is the number spelt as Decimal spells it? -/
theorem rd_spelt {t : ByteArray} (h1 : t.size ≤ 10) (h2 : ∀ c ∈ t.data.toList, isFig c = true) (h5 : valD t.data.toList ≤ 1000000000) {s : ByteArray} (hs : s = ⟨(Lib.decDigits (valD t.data.toList)).toArray⟩) :
    rdOut t = if (s.toList == t.toList) = true then ((valD t.data.toList : Int), true) else (0, false) := by
  have e : s.toList = Lib.decDigits (valD t.data.toList) := by rw [ByteArray.toList_eq, hs]
  rw [e, ByteArray.toList_eq, dec_spelt _ h2, tlen]
  by_cases h3 : t.data.toList = []
  · rw [rd_empty (by rw [← tlen, h3]; rfl)]
    simp [h3]
  · have h3' : 0 < t.size := by
      have := List.length_pos_iff.2 h3
      rw [tlen] at this
      exact this
    by_cases h4 : t.data.toList.head? = some 48 ∧ 1 < t.size
    · rw [rd_nought h4.2 (by have := head_at h3'; rw [h4.1] at this; have := Option.some.inj this; rw [← this]; rfl)]
      simp [h4]
    · rw [rd_good h1 h2 h3' h4 h5]
      simp only [h4, decide_eq_true (show t.data.toList ≠ [] from h3)]
      rfl

/-- Behind k figures. -/
def Dig (t : ByteArray) (k n : Nat) : Prop := n = valD (t.data.toList.take k) ∧ ∀ c ∈ t.data.toList.take k, isFig c = true
theorem dig_zero (t : ByteArray) : Dig t 0 0 := ⟨by simp [valD], by simp⟩
theorem dig_succ {t : ByteArray} {k n : Nat} (h : Dig t k n) (hk : k < t.size) (hc : isFig t[k] = true) : Dig t (k + 1) (10 * n + (t[k].toNat - 48)) := by
  obtain ⟨h1, h2⟩ := h
  refine ⟨by rw [take_snoc hk, valD_snoc, ← h1], ?_⟩
  rw [take_snoc hk]
  intro c hx
  simp only [List.mem_append, List.mem_singleton] at hx
  rcases hx with hx | rfl
  · exact h2 c hx
  · exact hc
theorem dig_end {t : ByteArray} {k n : Nat} (h : Dig t k n) (hk : k = t.size) : n = valD t.data.toList ∧ ∀ c ∈ t.data.toList, isFig c = true := by
  have := h
  unfold Dig at this
  rw [hk, take_all] at this
  exact this

end Go.Proofs.YtljphnjmeckpbaaGreat
