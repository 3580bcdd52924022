/-
  Chapter 3, plainly: how far a word or a number goes. No program, no world.
-/
import Derived.Test.YtepkcabeoennlaaDoorPlain9
namespace Go.Proofs.YtepkcabeoennlaaDoor

theorem take_while {p : UInt8 → Bool} : ∀ (l : List UInt8) (k : Nat), k ≤ l.length → (∀ i, (hi : i < l.length) → i < k → p l[i] = true) → (∀ hk : k < l.length, p l[k] = false) → l.takeWhile p = l.take k ∧ l.dropWhile p = l.drop k
  | [], k, hk, _, _ => by simp
  | c :: r, 0, _, _, h => by
    have := h (by simp)
    simp only [List.getElem_cons_zero] at this
    simp [this]
  | c :: r, k + 1, hk, ha, h => by
    have h0 := ha 0 (by simp) (by omega)
    simp only [List.getElem_cons_zero] at h0
    obtain ⟨h1, h2⟩ := take_while r k (by simpa using hk) (fun i hi hik => by have := ha (i + 1) (by simpa using hi) (by omega); simpa using this) (fun hk' => by have := h (by simpa using hk'); simpa using this)
    simp [h0, h1, h2]
theorem take_while_long {p : UInt8 → Bool} : ∀ (l : List UInt8) (k : Nat), k ≤ l.length → (∀ i, (hi : i < l.length) → i < k → p l[i] = true) → k ≤ (l.takeWhile p).length
  | [], k, hk, _ => by simpa using hk
  | c :: r, 0, _, _ => Nat.zero_le _
  | c :: r, k + 1, hk, ha => by
    have h0 := ha 0 (by simp) (by omega)
    simp only [List.getElem_cons_zero] at h0
    have := take_while_long r k (by simpa using hk) (fun i hi hik => by have := ha (i + 1) (by simpa using hi) (by omega); simpa using this)
    rw [List.takeWhile_cons, if_pos h0]
    simpa using this

/-- All bytes of a text from p up to j are of a kind. -/
def Run (P : UInt8 → Bool) (t : ByteArray) (p j : Nat) : Prop := ∀ i, (hi : i < t.size) → p ≤ i → i < j → P t[i] = true
theorem run_start (P : UInt8 → Bool) (t : ByteArray) (p : Nat) : Run P t p p := fun i _ h1 h2 => by omega
theorem run_succ {P : UInt8 → Bool} {t : ByteArray} {p j : Nat} (h : Run P t p j) (hj : j < t.size) (hP : P t[j] = true) : Run P t p (j + 1) := by
  intro i hi h1 h2
  rcases Nat.lt_or_ge i j with h3 | h3
  · exact h i hi h1 h3
  · obtain rfl : i = j := by omega
    exact hP
theorem drop_get {t : ByteArray} {p i : Nat} (hi : i < (t.data.toList.drop p).length) : ∃ h : p + i < t.size, (t.data.toList.drop p)[i] = t[p + i] := by
  have h1 : p + i < t.size := by have := tlen t; simp at hi; omega
  refine ⟨h1, ?_⟩
  rw [List.getElem_drop]
  rfl
theorem run_end {P : UInt8 → Bool} {t : ByteArray} {p j : Nat} (hp : p ≤ j) (hj : j ≤ t.size) (h : Run P t p j) (he : ∀ hj : j < t.size, P t[j] = false) :
    (t.data.toList.drop p).takeWhile P = (t.data.toList.drop p).take (j - p) ∧ (t.data.toList.drop p).dropWhile P = t.data.toList.drop j := by
  have hl := tlen t
  have := take_while (p := P) (t.data.toList.drop p) (j - p) (by simp; omega) (fun i hi hik => by
    obtain ⟨h1, h2⟩ := drop_get hi
    rw [h2]
    exact h _ h1 (by omega) (by omega)) (fun hk => by
    obtain ⟨h1, h2⟩ := drop_get hk
    rw [h2]
    have e : p + (j - p) = j := by omega
    simp only [e] at h1 ⊢
    exact he h1)
  rw [List.drop_drop, show p + (j - p) = j by omega] at this
  exact this
theorem run_long {P : UInt8 → Bool} {t : ByteArray} {p j : Nat} (hj : j ≤ t.size) (h : Run P t p j) : j - p ≤ ((t.data.toList.drop p).takeWhile P).length := by
  have hl := tlen t
  exact take_while_long (p := P) (t.data.toList.drop p) (j - p) (by simp; omega) (fun i hi hik => by
    obtain ⟨h1, h2⟩ := drop_get hi
    rw [h2]
    exact h _ h1 (by omega) (by omega))
theorem drop_cons {t : ByteArray} {p : Nat} (h : p < t.size) : t.data.toList.drop p = t[p] :: t.data.toList.drop (p + 1) := by
  rw [List.drop_eq_getElem_cons (by rw [tlen]; exact h)]
  rfl
theorem take_seg (t : ByteArray) (p j : Nat) : (⟨((t.data.toList.drop p).take (j - p)).toArray⟩ : ByteArray) = t.extract p j := by
  have h4 : (t.extract p j).data.toList = (t.data.toList.drop p).take (j - p) := Lib.extract_data t p j
  rw [← h4]

/-- What has been read: the signs of the whole are those so far and those of the rest. -/
def ReadTo (t : ByteArray) (p : Nat) (ss : List Sg) : Prop := signs t.data.toList = (signs (t.data.toList.drop p)).map (ss ++ ·)
theorem readTo_start (t : ByteArray) : ReadTo t 0 [] := by
  unfold ReadTo
  simp
theorem readTo_end {t : ByteArray} {p : Nat} {ss : List Sg} (h : ReadTo t p ss) (hp : p = t.size) (hs : t.size ≤ 3000) : signsOf t = (ss, true) := by
  unfold ReadTo at h
  rw [hp, ← tlen, List.drop_length, signs_nil] at h
  unfold signsOf
  rw [if_neg (by omega), h]
  simp
theorem readTo_bad {t : ByteArray} {p : Nat} {ss : List Sg} (h : ReadTo t p ss) (hs : t.size ≤ 3000) (hb : signs (t.data.toList.drop p) = none) : signsOf t = ([], false) := by
  unfold ReadTo at h
  rw [hb] at h
  unfold signsOf
  rw [if_neg (by omega), h]
  rfl
theorem readTo_blank {t : ByteArray} {p : Nat} {ss : List Sg} (h : ReadTo t p ss) (hp : p < t.size) (hc : t[p] = 32 ∨ t[p] = 10) : ReadTo t (p + 1) ss := by
  unfold ReadTo at h ⊢
  rw [drop_cons hp, signs_blank hc] at h
  exact h
theorem readTo_more {t : ByteArray} {p j : Nat} {ss : List Sg} {y : Sg} (h : ReadTo t p ss) (hy : signs (t.data.toList.drop p) = (signs (t.data.toList.drop j)).map (y :: ·)) : ReadTo t j (ss ++ [y]) := by
  unfold ReadTo at h ⊢
  rw [h, hy]
  cases signs (t.data.toList.drop j) <;> simp
theorem word_more {t : ByteArray} {p j : Nat} (hp : p < t.size) (hb : ¬ (t[p] = 32 ∨ t[p] = 10)) (hl : isLet t[p] = true) (hpj : p ≤ j) (hj : j ≤ t.size) (h : Run isLF t p j) (he : ∀ hj : j < t.size, isLF t[j] = false) :
    signs (t.data.toList.drop p) = if 8 < j - p then none else (signs (t.data.toList.drop j)).map (⟨1, t.extract p j, 0⟩ :: ·) := by
  obtain ⟨h1, h2⟩ := run_end hpj hj h he
  have hl' := tlen t
  have h3 : ((t.data.toList.drop p).take (j - p)).length = j - p := by simp; omega
  rw [drop_cons hp, signs_word hb hl, ← drop_cons hp, h1, h2, h3, take_seg t p j]
theorem num_more {t : ByteArray} {p j : Nat} (hp : p < t.size) (hb : ¬ (t[p] = 32 ∨ t[p] = 10)) (hl : ¬ isLet t[p] = true) (hf : isFig t[p] = true) (hpj : p ≤ j) (hj : j ≤ t.size) (h : Run isFig t p j) (he : ∀ hj : j < t.size, isFig t[j] = false) :
    signs (t.data.toList.drop p) = if 10 < j - p ∨ 1000000000 < valD ((t.data.toList.drop p).take (j - p)) then none else (signs (t.data.toList.drop j)).map (⟨2, ⟨#[]⟩, (valD ((t.data.toList.drop p).take (j - p)) : Int)⟩ :: ·) := by
  obtain ⟨h1, h2⟩ := run_end hpj hj h he
  have hl' := tlen t
  have h3 : ((t.data.toList.drop p).take (j - p)).length = j - p := by simp; omega
  rw [drop_cons hp, signs_num hb hl hf, ← drop_cons hp, h1, h2, h3]
theorem num_long {t : ByteArray} {p j : Nat} (hp : p < t.size) (hb : ¬ (t[p] = 32 ∨ t[p] = 10)) (hl : ¬ isLet t[p] = true) (hf : isFig t[p] = true) (hj : j ≤ t.size) (h : Run isFig t p j) (h11 : 10 < j - p) : signs (t.data.toList.drop p) = none := by
  have := run_long hj h
  rw [drop_cons hp, signs_num hb hl hf, ← drop_cons hp, if_pos (.inl (by omega))]
theorem mark_more {t : ByteArray} {p : Nat} (hp : p < t.size) (hb : ¬ (t[p] = 32 ∨ t[p] = 10)) (hl : ¬ isLet t[p] = true) (hf : ¬ isFig t[p] = true) {m : ByteArray} (hm : (markOf (t.data.toList.drop p)).getD ⟨#[]⟩ = m) :
    (m.size = 0 → signs (t.data.toList.drop p) = none) ∧ (0 < m.size → p + m.size ≤ t.size ∧ signs (t.data.toList.drop p) = (signs (t.data.toList.drop (p + m.size))).map (⟨3, m, 0⟩ :: ·)) := by
  have hl' := tlen t
  rw [drop_cons hp] at hm ⊢
  rw [signs_mark hb hl hf]
  cases h : markOf (t[p] :: t.data.toList.drop (p + 1)) with
  | none =>
    rw [h] at hm
    simp at hm
    subst hm
    exact ⟨fun _ => rfl, fun h => by simp [ByteArray.size] at h⟩
  | some q =>
    rw [h] at hm
    simp at hm
    subst hm
    obtain ⟨h1, _, h3⟩ := markOf_size h
    rw [← drop_cons hp] at h3 ⊢
    refine ⟨fun h => by omega, fun _ => ⟨by simp at h3; omega, ?_⟩⟩
    show (signs (List.drop q.size (List.drop p t.data.toList))).map _ = _
    rw [List.drop_drop]
theorem valD_run {t : ByteArray} {p j : Nat} (hpj : p ≤ j) (hj : j < t.size) : valD ((t.data.toList.drop p).take (j + 1 - p)) = 10 * valD ((t.data.toList.drop p).take (j - p)) + (t[j].toNat - 48) := by
  have hl := tlen t
  have h1 : j - p < (t.data.toList.drop p).length := by simp; omega
  rw [show j + 1 - p = (j - p) + 1 by omega, List.take_succ_eq_append_getElem h1, valD_snoc]
  obtain ⟨h2, h3⟩ := drop_get h1
  rw [h3]
  simp only [show p + (j - p) = j by omega]

end Go.Proofs.YtepkcabeoennlaaDoor
