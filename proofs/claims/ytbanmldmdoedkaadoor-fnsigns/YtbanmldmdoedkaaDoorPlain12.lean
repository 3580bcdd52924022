/-
  Chapter 3, plainly: right signs come back from their texts, with any blanks between. No program, no world.
-/
import Derived.Test.YtbanmldmdoedkaaDoorPlain8
import Derived.Test.YtbanmldmdoedkaaDoorSg
namespace Go.Proofs.YtbanmldmdoedkaaDoor

/-- A sign that SignsOf can give. -/
def RightSg (s : Sg) : Prop :=
  (s.kind = 1 ∧ s.num = 0 ∧ s.text.size ≤ 8 ∧ (∃ c r, s.text.data.toList = c :: r ∧ isLet c = true) ∧ ∀ c ∈ s.text.data.toList, isLF c = true) ∨
  (s.kind = 2 ∧ s.text = ⟨#[]⟩ ∧ 0 ≤ s.num ∧ s.num ≤ 1000000000) ∨
  (s.kind = 3 ∧ s.num = 0 ∧ s.text ∈ marks3)
/-- What may stand behind a sign's text. -/
def Blank (l : List UInt8) : Prop := l = [] ∨ ∃ r, l = 32 :: r ∨ l = 10 :: r

theorem take_blank {p : UInt8 → Bool} {l rest : List UInt8} (hl : ∀ c ∈ l, p c = true) (hb : Blank rest) (h32 : p 32 = false) (h10 : p 10 = false) : (l ++ rest).takeWhile p = l ∧ (l ++ rest).dropWhile p = rest := by
  induction l with
  | nil =>
    rcases hb with rfl | ⟨r, rfl | rfl⟩
    · simp
    · simp [h32]
    · simp [h10]
  | cons c l ih =>
    have hc := hl c (by simp)
    obtain ⟨h1, h2⟩ := ih (fun d hd => hl d (by simp [hd]))
    simp [hc, h1, h2]
theorem not_blank_let {c : UInt8} (h : isLet c = true) : ¬ (c = 32 ∨ c = 10) := by
  rintro (rfl | rfl) <;> simp [isLet] at h
theorem not_blank_fig {c : UInt8} (h : isFig c = true) : ¬ (c = 32 ∨ c = 10) := by
  rintro (rfl | rfl) <;> simp [isFig] at h
theorem not_let_fig {c : UInt8} (h : isFig c = true) : ¬ isLet c = true := by
  intro h2
  simp [isFig] at h
  simp [isLet] at h2
  omega
theorem bytes_back (t : ByteArray) : (⟨t.data.toList.toArray⟩ : ByteArray) = t := by cases t; simp

theorem mark_blank : ∀ m ∈ marks3, ∀ rest, Blank rest → ∃ c r, m.data.toList = c :: r ∧ ¬ (c = 32 ∨ c = 10) ∧ ¬ isLet c = true ∧ ¬ isFig c = true ∧ markOf (m.data.toList ++ rest) = some m := by
  intro m hm rest hb
  simp only [marks3, List.mem_cons, List.not_mem_nil, or_false] at hm
  rcases hm with rfl | rfl | rfl | rfl | rfl | rfl | rfl | rfl | rfl | rfl | rfl | rfl | rfl | rfl <;>
    exact ⟨_, _, rfl, by decide, by decide, by decide, by rcases hb with rfl | ⟨r, rfl | rfl⟩ <;> simp [markOf, marks3]⟩

theorem sign_back {s : Sg} (hs : RightSg s) {rest : List UInt8} (hb : Blank rest) : signs (sgT s ++ rest) = (signs rest).map (s :: ·) := by
  obtain ⟨k, t, n⟩ := s
  rcases hs with ⟨h1, h2, h3, ⟨c, r, h4, h5⟩, h6⟩ | ⟨h1, h2, h3, h4⟩ | ⟨h1, h2, h3⟩
  · simp only at h1 h2 h3 h4 h5 h6
    subst h1 h2
    obtain ⟨e1, e2⟩ := take_blank (p := isLF) h6 hb (by decide) (by decide)
    have hl := tlen t
    have hT : sgT ⟨1, t, 0⟩ = t.data.toList := by simp [sgT]
    rw [hT, h4, List.cons_append, signs_word (not_blank_let h5) h5, ← List.cons_append, ← h4, e1, e2, if_neg (by omega), bytes_back]
  · simp only at h1 h2 h3 h4
    subst h1 h2
    obtain ⟨v1, v2, v3⟩ := valD_dec n.toNat n.toNat (Nat.le_refl _)
    have hl := v3 10 (by omega) (by omega)
    obtain ⟨e1, e2⟩ := take_blank (p := isFig) v2 hb (by decide) (by decide)
    have hT : sgT ⟨2, ⟨#[]⟩, n⟩ = Lib.decDigits n.toNat := by simp [sgT]
    rw [hT]
    cases hd : Lib.decDigits n.toNat with
    | nil => exact absurd hd (dec_ne _)
    | cons c r =>
      have hc : isFig c = true := v2 c (by rw [hd]; simp)
      rw [List.cons_append, signs_num (not_blank_fig hc) (not_let_fig hc) hc, ← List.cons_append, ← hd, e1, e2, v1, if_neg (by omega), show ((n.toNat : Nat) : Int) = n by omega]
  · simp only at h1 h2 h3
    subst h1 h2
    obtain ⟨c, r, g1, g2, g3, g4, g5⟩ := mark_blank t h3 rest hb
    have hT : sgT ⟨3, t, 0⟩ = t.data.toList := by simp [sgT]
    rw [hT, g1, List.cons_append, signs_mark g2 g3 g4, ← List.cons_append, ← g1, g5]
    simp only
    rw [show t.size = t.data.toList.length from (tlen t).symm, List.drop_left]

theorem text_back (ss : List Sg) (hs : ∀ s ∈ ss, RightSg s) : ∀ (k : Nat), k ≤ ss.length → ∀ rest, Blank rest → signs (textTo ss k ++ rest) = (signs rest).map (ss.take k ++ ·) := by
  intro k
  induction k with
  | zero =>
    intro _ rest _
    simp [textTo]
  | succ k ih =>
    intro hk rest hb
    have hkl : k < ss.length := by omega
    have hg : ss.getD k sg0 = ss[k] := by simp [List.getD, hkl]
    have hr := hs ss[k] (List.getElem_mem hkl)
    rw [textTo, hg, List.append_assoc, List.append_assoc, List.take_succ_eq_append_getElem hkl]
    by_cases h0 : k = 0
    · subst h0
      rw [if_pos rfl, List.nil_append]
      simp only [textTo, List.nil_append, List.take_zero]
      rw [sign_back hr hb]
      rfl
    · rw [if_neg h0]
      have hb2 : Blank ([32] ++ (sgT ss[k] ++ rest)) := .inr ⟨_, .inl rfl⟩
      rw [ih (by omega) _ hb2]
      show (signs (32 :: (sgT ss[k] ++ rest))).map _ = _
      rw [signs_blank (.inl rfl), sign_back hr hb]
      cases signs rest with
      | none => rfl
      | some x => exact congrArg some (by show ss.take k ++ (ss[k] :: x) = ss.take k ++ [ss[k]] ++ x; rw [List.append_assoc]; rfl)

theorem signs_text (ss : List Sg) (hs : ∀ s ∈ ss, RightSg s) : signs (textTo ss ss.length) = some ss := by
  have := text_back ss hs ss.length (Nat.le_refl _) [] (.inl rfl)
  rw [List.append_nil, signs_nil, List.take_length] at this
  simpa using this
theorem signs_text_blanks (ss : List Sg) (hs : ∀ s ∈ ss, RightSg s) : signs ([32, 10] ++ textTo ss ss.length ++ [32, 32]) = some ss := by
  have := text_back ss hs ss.length (Nat.le_refl _) [32, 32] (.inr ⟨_, .inl rfl⟩)
  show signs (32 :: 10 :: (textTo ss ss.length ++ [32, 32])) = _
  rw [signs_blank (.inl rfl), signs_blank (.inr rfl), this, signs_blank (.inl rfl), signs_blank (.inl rfl), signs_nil, List.take_length]
  simp

theorem sgT_len {s : Sg} (hs : RightSg s) : (sgT s).length ≤ 10 := by
  obtain ⟨k, t, n⟩ := s
  rcases hs with ⟨h1, h2, h3, _, _⟩ | ⟨h1, h2, h3, h4⟩ | ⟨h1, h2, h3⟩
  · simp only at h1 h2 h3
    subst h1
    have := tlen t
    simp [sgT]
    simp at this
    omega
  · simp only at h1 h2 h3 h4
    subst h1
    obtain ⟨_, _, v3⟩ := valD_dec n.toNat n.toNat (Nat.le_refl _)
    have := v3 10 (by omega) (by omega)
    simpa [sgT] using this
  · simp only at h1 h2 h3
    subst h1
    have h0 : ∀ m ∈ marks3, m.data.toList.length ≤ 10 := by decide
    have := h0 t h3
    simpa [sgT] using this
theorem textTo_len (ss : List Sg) (hs : ∀ s ∈ ss, RightSg s) : ∀ k, k ≤ ss.length → (textTo ss k).length ≤ 11 * k
  | 0, _ => by simp [textTo]
  | k + 1, hk => by
    have h1 := textTo_len ss hs k (by omega)
    have hkl : k < ss.length := by omega
    have hg : ss.getD k sg0 = ss[k] := by simp [List.getD, hkl]
    have h2 := sgT_len (hs ss[k] (List.getElem_mem hkl))
    simp only [textTo, List.length_append, hg]
    split
    · simp only [List.length_nil]; omega
    · simp only [List.length_cons, List.length_nil]; omega
theorem right_num {s : Sg} (h : RightSg s) : 0 ≤ s.num ∧ s.num ≤ 1000000000 := by
  rcases h with ⟨_, h, _⟩ | ⟨_, _, h1, h2⟩ | ⟨_, h, _⟩
  · omega
  · exact ⟨h1, h2⟩
  · omega

theorem takeWhile_all {p : UInt8 → Bool} : ∀ (l : List UInt8), ∀ c ∈ l.takeWhile p, p c = true
  | [], c, hc => by simp at hc
  | a :: l, c, hc => by
    rw [List.takeWhile_cons] at hc
    split at hc
    · rcases List.mem_cons.mp hc with rfl | h
      · assumption
      · exact takeWhile_all l c h
    · simp at hc
theorem scan_right : ∀ (f : Nat) (l : List UInt8) (ss : List Sg), scan f l = some ss → ∀ s ∈ ss, RightSg s
  | 0, l, ss, h => by
    simp [scan] at h
    subst h
    simp
  | f + 1, l, ss, h => by
    match l, h with
    | [], h =>
      simp [scan] at h
      subst h
      simp
    | c :: r, h =>
      unfold scan at h
      by_cases h1 : c = 32 ∨ c = 10
      · simp only [if_pos h1] at h
        exact scan_right f r ss h
      · simp only [if_neg h1] at h
        by_cases h2 : isLet c = true
        · simp only [if_pos h2] at h
          split at h
          · cases h
          · rename_i h8
            obtain ⟨ss', h4, rfl⟩ := Option.map_eq_some_iff.mp h
            intro s hs
            rcases List.mem_cons.mp hs with rfl | hs
            · refine .inl ⟨rfl, rfl, by simp [ByteArray.size] at h8 ⊢; omega, ⟨c, r.takeWhile isLF, by simp [isLF_of_let h2], h2⟩, fun d hd => takeWhile_all (c :: r) d (by simpa using hd)⟩
            · exact scan_right f _ ss' h4 s hs
        · simp only [if_neg h2] at h
          by_cases h3 : isFig c = true
          · simp only [if_pos h3] at h
            split at h
            · cases h
            · rename_i h8
              obtain ⟨ss', h4, rfl⟩ := Option.map_eq_some_iff.mp h
              intro s hs
              rcases List.mem_cons.mp hs with rfl | hs
              · refine .inr (.inl ⟨rfl, rfl, by simp, ?_⟩)
                simp only [not_or] at h8
                have := h8.2
                show ((valD _ : Nat) : Int) ≤ 1000000000
                omega
              · exact scan_right f _ ss' h4 s hs
          · simp only [if_neg h3] at h
            cases hm : markOf (c :: r) with
            | none => rw [hm] at h; cases h
            | some m =>
              rw [hm] at h
              simp only at h
              obtain ⟨ss', h4, rfl⟩ := Option.map_eq_some_iff.mp h
              intro s hs
              rcases List.mem_cons.mp hs with rfl | hs
              · exact .inr (.inr ⟨rfl, rfl, List.mem_of_find?_eq_some hm⟩)
              · exact scan_right f _ ss' h4 s hs
theorem signsOf_right (t : ByteArray) : ∀ s ∈ (signsOf t).1, RightSg s := by
  unfold signsOf
  split
  · simp
  · cases h : signs t.data.toList with
    | none => simp
    | some ss => exact scan_right _ _ ss h
theorem signsOf_text (ss : List Sg) (hs : ∀ s ∈ ss, RightSg s) (hl : ss.length ≤ 8) : signsOf (signText ss) = (ss, true) ∧ signsOf ((⟨#[32, 10]⟩ : ByteArray) ++ signText ss ++ ⟨#[32, 32]⟩) = (ss, true) ∧ (signText ss).size ≤ 88 := by
  have h1 := textTo_len ss hs ss.length (Nat.le_refl _)
  have h2 : (signText ss).size = (textTo ss ss.length).length := by unfold signText; simp [ByteArray.size]
  have h3 : (signText ss).data.toList = textTo ss ss.length := rfl
  refine ⟨?_, ?_, by omega⟩
  · unfold signsOf
    rw [if_neg (by omega), h3, signs_text ss hs]
  · have h4 : ((⟨#[32, 10]⟩ : ByteArray) ++ signText ss ++ ⟨#[32, 32]⟩).size = (signText ss).size + 4 := by
      rw [ByteArray.size_append, ByteArray.size_append]
      have e1 : (⟨#[32, 10]⟩ : ByteArray).size = 2 := rfl
      have e2 : (⟨#[32, 32]⟩ : ByteArray).size = 2 := rfl
      omega
    unfold signsOf
    rw [if_neg (by omega), ByteArray.data_append, ByteArray.data_append, Array.toList_append, Array.toList_append, h3]
    have := signs_text_blanks ss hs
    rw [show ((⟨#[32, 10]⟩ : ByteArray).data.toList ++ textTo ss ss.length ++ (⟨#[32, 32]⟩ : ByteArray).data.toList) = [32, 10] ++ textTo ss ss.length ++ [32, 32] from rfl, this]

end Go.Proofs.YtbanmldmdoedkaaDoor
