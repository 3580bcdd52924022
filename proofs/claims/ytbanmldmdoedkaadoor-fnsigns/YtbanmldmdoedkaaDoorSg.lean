/-
  Chapter 3, plainly: the text of signs. No program, no world.
  Chapter 3, plainly: how far a word or a number goes. No program, no world.
  The mark that stands at a place of a text, in the model.
  SignsOf, in the model: what it answers at every text.
  SignText, in the model: what it answers at every row of signs.
  What the laws ask of rows of signs: held one against the other.
-/
import Derived.Test.YtbanmldmdoedkaaDoorPa
import Derived.Test.YtbanmldmdoedkaaDoorNa
import Derived.Deep.QuietTactic
import Derived.BigQuiet
import Derived.Test.YtbanmldmdoedkaaDoorKa
import Derived.Test.YtbanmldmdoedkaaDoorMa
namespace Go.Proofs.YtbanmldmdoedkaaDoor

/-- No sign. -/
def sg0 : Sg := ⟨0, ⟨#[]⟩, 0⟩
/-- A sign's own text, in the model: of a number below 0 the figure 0. -/
def sgT (s : Sg) : List UInt8 := if s.kind = 2 then Lib.decDigits s.num.toNat else s.text.data.toList
/-- The first k signs' texts, with a blank between. -/
def textTo (ss : List Sg) : Nat → List UInt8
  | 0 => []
  | k + 1 => textTo ss k ++ ((if k = 0 then [] else [32]) ++ sgT (ss.getD k sg0))
def signText (ss : List Sg) : ByteArray := ⟨(textTo ss ss.length).toArray⟩
theorem textTo_le (ss : List Sg) {k n : Nat} (h : k ≤ n) : (textTo ss k).length ≤ (textTo ss n).length := by
  induction n with
  | zero =>
    have : k = 0 := by omega
    subst this
    exact Nat.le_refl _
  | succ n ih =>
    rcases Nat.lt_or_ge k (n + 1) with h1 | h1
    · have := ih (by omega)
      simp only [textTo, List.length_append]
      omega
    · have : k = n + 1 := by omega
      subst this
      exact Nat.le_refl _

end Go.Proofs.YtbanmldmdoedkaaDoor

namespace Go.Proofs.YtbanmldmdoedkaaDoor

theorem take_while {p : UInt8 → Bool} : ∀ (l : List UInt8) (k : Nat), k ≤ l.length → (∀ i, (hi : i < l.length) → i < k → p l[i] = true) → (∀ hk : k < l.length, p l[k] = false) → l.takeWhile p = l.take k ∧ l.dropWhile p = l.drop k
  | [], k, hk, _, _ => by simp
  | c :: r, 0, _, _, h => by
    have := h (by simp)
    simp only [List.getElem_cons_zero] at this
    simp [this]
  | c :: r, k + 1, hk, ha, h => by
    have h0 := ha 0 (by simp) (by omega)
    simp only [List.getElem_cons_zero] at h0
    obtain ⟨h1, h2⟩ := take_while r k (by simpa using hk) (fun i hi hik => by have := ha (i + 1) (by simpa using hi) (by omega); simpa using this) (fun hk' => by have := h (by simpa using hk'); simpa using this)
    simp [h0, h1, h2]
theorem take_while_long {p : UInt8 → Bool} : ∀ (l : List UInt8) (k : Nat), k ≤ l.length → (∀ i, (hi : i < l.length) → i < k → p l[i] = true) → k ≤ (l.takeWhile p).length
  | [], k, hk, _ => by simpa using hk
  | c :: r, 0, _, _ => Nat.zero_le _
  | c :: r, k + 1, hk, ha => by
    have h0 := ha 0 (by simp) (by omega)
    simp only [List.getElem_cons_zero] at h0
    have := take_while_long r k (by simpa using hk) (fun i hi hik => by have := ha (i + 1) (by simpa using hi) (by omega); simpa using this)
    rw [List.takeWhile_cons, if_pos h0]
    simpa using this

/-- All bytes of a text from p up to j are of a kind. -/
def Run (P : UInt8 → Bool) (t : ByteArray) (p j : Nat) : Prop := ∀ i, (hi : i < t.size) → p ≤ i → i < j → P t[i] = true
theorem run_start (P : UInt8 → Bool) (t : ByteArray) (p : Nat) : Run P t p p := fun i _ h1 h2 => by omega
theorem run_succ {P : UInt8 → Bool} {t : ByteArray} {p j : Nat} (h : Run P t p j) (hj : j < t.size) (hP : P t[j] = true) : Run P t p (j + 1) := by
  intro i hi h1 h2
  rcases Nat.lt_or_ge i j with h3 | h3
  · exact h i hi h1 h3
  · obtain rfl : i = j := by omega
    exact hP
theorem drop_get {t : ByteArray} {p i : Nat} (hi : i < (t.data.toList.drop p).length) : ∃ h : p + i < t.size, (t.data.toList.drop p)[i] = t[p + i] := by
  have h1 : p + i < t.size := by have := tlen t; simp at hi; omega
  refine ⟨h1, ?_⟩
  rw [List.getElem_drop]
  rfl
theorem run_end {P : UInt8 → Bool} {t : ByteArray} {p j : Nat} (hp : p ≤ j) (hj : j ≤ t.size) (h : Run P t p j) (he : ∀ hj : j < t.size, P t[j] = false) :
    (t.data.toList.drop p).takeWhile P = (t.data.toList.drop p).take (j - p) ∧ (t.data.toList.drop p).dropWhile P = t.data.toList.drop j := by
  have hl := tlen t
  have := take_while (p := P) (t.data.toList.drop p) (j - p) (by simp; omega) (fun i hi hik => by
    obtain ⟨h1, h2⟩ := drop_get hi
    rw [h2]
    exact h _ h1 (by omega) (by omega)) (fun hk => by
    obtain ⟨h1, h2⟩ := drop_get hk
    rw [h2]
    have e : p + (j - p) = j := by omega
    simp only [e] at h1 ⊢
    exact he h1)
  rw [List.drop_drop, show p + (j - p) = j by omega] at this
  exact this
theorem run_long {P : UInt8 → Bool} {t : ByteArray} {p j : Nat} (hj : j ≤ t.size) (h : Run P t p j) : j - p ≤ ((t.data.toList.drop p).takeWhile P).length := by
  have hl := tlen t
  exact take_while_long (p := P) (t.data.toList.drop p) (j - p) (by simp; omega) (fun i hi hik => by
    obtain ⟨h1, h2⟩ := drop_get hi
    rw [h2]
    exact h _ h1 (by omega) (by omega))
theorem drop_cons {t : ByteArray} {p : Nat} (h : p < t.size) : t.data.toList.drop p = t[p] :: t.data.toList.drop (p + 1) := by
  rw [List.drop_eq_getElem_cons (by rw [tlen]; exact h)]
  rfl
theorem take_seg (t : ByteArray) (p j : Nat) : (⟨((t.data.toList.drop p).take (j - p)).toArray⟩ : ByteArray) = t.extract p j := by
  have h4 : (t.extract p j).data.toList = (t.data.toList.drop p).take (j - p) := Lib.extract_data t p j
  rw [← h4]

/-- What has been read: the signs of the whole are those so far and those of the rest. -/
def ReadTo (t : ByteArray) (p : Nat) (ss : List Sg) : Prop := signs t.data.toList = (signs (t.data.toList.drop p)).map (ss ++ ·)
theorem readTo_start (t : ByteArray) : ReadTo t 0 [] := by
  unfold ReadTo
  simp
theorem readTo_end {t : ByteArray} {p : Nat} {ss : List Sg} (h : ReadTo t p ss) (hp : p = t.size) (hs : t.size ≤ 3000) : signsOf t = (ss, true) := by
  unfold ReadTo at h
  rw [hp, ← tlen, List.drop_length, signs_nil] at h
  unfold signsOf
  rw [if_neg (by omega), h]
  simp
theorem readTo_bad {t : ByteArray} {p : Nat} {ss : List Sg} (h : ReadTo t p ss) (hs : t.size ≤ 3000) (hb : signs (t.data.toList.drop p) = none) : signsOf t = ([], false) := by
  unfold ReadTo at h
  rw [hb] at h
  unfold signsOf
  rw [if_neg (by omega), h]
  rfl
theorem readTo_blank {t : ByteArray} {p : Nat} {ss : List Sg} (h : ReadTo t p ss) (hp : p < t.size) (hc : t[p] = 32 ∨ t[p] = 10) : ReadTo t (p + 1) ss := by
  unfold ReadTo at h ⊢
  rw [drop_cons hp, signs_blank hc] at h
  exact h
theorem readTo_more {t : ByteArray} {p j : Nat} {ss : List Sg} {y : Sg} (h : ReadTo t p ss) (hy : signs (t.data.toList.drop p) = (signs (t.data.toList.drop j)).map (y :: ·)) : ReadTo t j (ss ++ [y]) := by
  unfold ReadTo at h ⊢
  rw [h, hy]
  cases signs (t.data.toList.drop j) <;> simp
theorem word_more {t : ByteArray} {p j : Nat} (hp : p < t.size) (hb : ¬ (t[p] = 32 ∨ t[p] = 10)) (hl : isLet t[p] = true) (hpj : p ≤ j) (hj : j ≤ t.size) (h : Run isLF t p j) (he : ∀ hj : j < t.size, isLF t[j] = false) :
    signs (t.data.toList.drop p) = if 8 < j - p then none else (signs (t.data.toList.drop j)).map (⟨1, t.extract p j, 0⟩ :: ·) := by
  obtain ⟨h1, h2⟩ := run_end hpj hj h he
  have hl' := tlen t
  have h3 : ((t.data.toList.drop p).take (j - p)).length = j - p := by simp; omega
  rw [drop_cons hp, signs_word hb hl, ← drop_cons hp, h1, h2, h3, take_seg t p j]
theorem num_more {t : ByteArray} {p j : Nat} (hp : p < t.size) (hb : ¬ (t[p] = 32 ∨ t[p] = 10)) (hl : ¬ isLet t[p] = true) (hf : isFig t[p] = true) (hpj : p ≤ j) (hj : j ≤ t.size) (h : Run isFig t p j) (he : ∀ hj : j < t.size, isFig t[j] = false) :
    signs (t.data.toList.drop p) = if 10 < j - p ∨ 1000000000 < valD ((t.data.toList.drop p).take (j - p)) then none else (signs (t.data.toList.drop j)).map (⟨2, ⟨#[]⟩, (valD ((t.data.toList.drop p).take (j - p)) : Int)⟩ :: ·) := by
  obtain ⟨h1, h2⟩ := run_end hpj hj h he
  have hl' := tlen t
  have h3 : ((t.data.toList.drop p).take (j - p)).length = j - p := by simp; omega
  rw [drop_cons hp, signs_num hb hl hf, ← drop_cons hp, h1, h2, h3]
theorem num_long {t : ByteArray} {p j : Nat} (hp : p < t.size) (hb : ¬ (t[p] = 32 ∨ t[p] = 10)) (hl : ¬ isLet t[p] = true) (hf : isFig t[p] = true) (hj : j ≤ t.size) (h : Run isFig t p j) (h11 : 10 < j - p) : signs (t.data.toList.drop p) = none := by
  have := run_long hj h
  rw [drop_cons hp, signs_num hb hl hf, ← drop_cons hp, if_pos (.inl (by omega))]
theorem mark_more {t : ByteArray} {p : Nat} (hp : p < t.size) (hb : ¬ (t[p] = 32 ∨ t[p] = 10)) (hl : ¬ isLet t[p] = true) (hf : ¬ isFig t[p] = true) {m : ByteArray} (hm : (markOf (t.data.toList.drop p)).getD ⟨#[]⟩ = m) :
    (m.size = 0 → signs (t.data.toList.drop p) = none) ∧ (0 < m.size → p + m.size ≤ t.size ∧ signs (t.data.toList.drop p) = (signs (t.data.toList.drop (p + m.size))).map (⟨3, m, 0⟩ :: ·)) := by
  have hl' := tlen t
  rw [drop_cons hp] at hm ⊢
  rw [signs_mark hb hl hf]
  cases h : markOf (t[p] :: t.data.toList.drop (p + 1)) with
  | none =>
    rw [h] at hm
    simp at hm
    subst hm
    exact ⟨fun _ => rfl, fun h => by simp [ByteArray.size] at h⟩
  | some q =>
    rw [h] at hm
    simp at hm
    subst hm
    obtain ⟨h1, _, h3⟩ := markOf_size h
    rw [← drop_cons hp] at h3 ⊢
    refine ⟨fun h => by omega, fun _ => ⟨by simp at h3; omega, ?_⟩⟩
    show (signs (List.drop q.size (List.drop p t.data.toList))).map _ = _
    rw [List.drop_drop]
theorem valD_run {t : ByteArray} {p j : Nat} (hpj : p ≤ j) (hj : j < t.size) : valD ((t.data.toList.drop p).take (j + 1 - p)) = 10 * valD ((t.data.toList.drop p).take (j - p)) + (t[j].toNat - 48) := by
  have hl := tlen t
  have h1 : j - p < (t.data.toList.drop p).length := by simp; omega
  rw [show j + 1 - p = (j - p) + 1 by omega, List.take_succ_eq_append_getElem h1, valD_snoc]
  obtain ⟨h2, h3⟩ := drop_get h1
  rw [h3]
  simp only [show p + (j - p) = j by omega]

end Go.Proofs.YtbanmldmdoedkaaDoor

namespace Go.Proofs.YtbanmldmdoedkaaDoor
open Go.RowKit

theorem l03Marks_any (w : World) :
    Calls Tryd.prog 42 #[] w fun e w' => e = .returned (.slice (some ⟨w.heap.size, 0, none⟩) 14 14) ∧ Hid (Below w.heap.size w w' ∧ TextsAt w' w.heap.size marks3) := by
  go_enter Tryd.func42, Tryd.ntmps42
  go_wp2
  go_ret
  exact ⟨rfl, (Below.refl _ _).alloc (Nat.le_refl _) _, fun i hi => texts_made w marks3 _ i hi⟩

/-- What l03Mark answers: the mark's text; none: the empty text. -/
def markT (l : List UInt8) : ByteArray := (markOf l).getD ⟨#[]⟩

theorem pre_iff (t q : ByteArray) (k : Nat) (hk : k ≤ t.size) : q.data.toList.isPrefixOf (t.data.toList.drop k) = true ↔ k + q.size ≤ t.size ∧ t.extract k (k + q.size) = q := by
  have hq := tlen q
  have ht := tlen t
  have hx : (t.extract k (k + q.size)).data.toList = (t.data.toList.drop k).take q.size := by rw [Lib.extract_data]; simp
  rw [List.isPrefixOf_iff_prefix, List.prefix_iff_eq_take, hq, ← hx]
  constructor
  · intro h
    have hl := congrArg List.length h
    rw [hx] at hl
    simp at hl
    refine ⟨by omega, ?_⟩
    generalize t.extract k (k + q.size) = u at h
    cases q; cases u
    simp at h
    rw [h]
  · rintro ⟨_, h⟩
    rw [h]

theorem find_at {p : ByteArray → Bool} : ∀ {ms : List ByteArray} {k : Nat}, k < ms.length → (∀ j, j < k → p (ms.getD j ByteArray.empty) = false) → p (ms.getD k ByteArray.empty) = true → ms.find? p = some (ms.getD k ByteArray.empty)
  | [], _, hk, _, _ => by simp at hk
  | m :: ms, 0, _, _, h => by
    simp only [List.getD_cons_zero] at h ⊢
    rw [List.find?_cons, h]
  | m :: ms, k + 1, hk, hp, h => by
    simp only [List.getD_cons_succ] at h ⊢
    have h0 := hp 0 (by omega)
    simp only [List.getD_cons_zero] at h0
    rw [List.find?_cons, h0]
    exact find_at (by simpa using hk) (fun j hj => by have := hp (j + 1) (by omega); simpa using this) h
theorem markT_at {l : List UInt8} {k : Nat} (hk : k < 14) (hp : ∀ j, j < k → (marks3.getD j ByteArray.empty).data.toList.isPrefixOf l = false) (h : (marks3.getD k ByteArray.empty).data.toList.isPrefixOf l = true) : markT l = marks3.getD k ByteArray.empty := by
  unfold markT markOf
  rw [find_at (p := fun m => m.data.toList.isPrefixOf l) hk hp h]
  rfl
theorem markT_none {l : List UInt8} (hp : ∀ j, j < 14 → (marks3.getD j ByteArray.empty).data.toList.isPrefixOf l = false) : markT l = ⟨#[]⟩ := by
  unfold markT markOf
  have : marks3.find? (fun m => m.data.toList.isPrefixOf l) = none := by
    rw [List.find?_eq_none]
    intro x hx
    obtain ⟨j, hj, rfl⟩ := List.getElem_of_mem hx
    have h1 := hp j hj
    rw [show marks3.getD j ByteArray.empty = marks3[j] by simp [List.getD, hj]] at h1
    simp [h1]
  rw [this]
  rfl
theorem texts_ext {a b : ByteArray} (h : (a.toList == b.toList) = true) : a = b := by
  have h' : a.toList = b.toList := by simpa using h
  rw [ByteArray.toList_eq, ByteArray.toList_eq] at h'
  cases a; cases b
  simp at h'
  rw [h']

set_option maxHeartbeats 800000 in
theorem l03Mark_any (t : ByteArray) (p : Nat) (w : World) (ht : t.size ≤ 3000) (hp : p ≤ t.size) :
    Calls Tryd.prog 24 #[.string t, .int .i64 (p : Int)] w fun e w' => e = .returned (.string (markT (t.data.toList.drop p))) ∧ Below w.heap.size w w' := by
  go_enter Tryd.func24, Tryd.ntmps24
  go_wp2_with (go_at_call 42; refine (l03Marks_any _).mono ?_; rintro e w1 ⟨rfl, hw1⟩)
  go_loopw [6, 7] (fun i _ wr => ∃ k : Nat, k ≤ 14 ∧ i = .int .i64 (k : Int) ∧ Hid (∀ j, j < k → (marks3.getD j ByteArray.empty).data.toList.isPrefixOf (t.data.toList.drop p) = false) ∧ Hid (Below w.heap.size w wr ∧ TextsAt wr w.heap.size marks3)) (fun i _ _ => 14 - (intOf i).toNat)
  case atStart => exact ⟨0, Nat.zero_le _, rfl, fun j hj => by omega, hw1⟩
  case round =>
    obtain ⟨k, hk, rfl, HK, HW⟩ := hrel
    by_cases hlt : k < 14
    · have hk1 : (k : Int) < 14 := by omega
      have hk0 : (0 : Int) ≤ (k : Int) := by omega
      have hck := HW.out.2 k hlt
      obtain ⟨q, hq⟩ : ∃ q, Hid (marks3.getD k ByteArray.empty = q) := ⟨_, (rfl : marks3.getD k ByteArray.empty = marks3.getD k ByteArray.empty)⟩
      have hq2 : q.size ≤ 2 := by
        have h0 : ∀ k, k < 14 → (marks3.getD k ByteArray.empty).size ≤ 2 := by decide
        rw [← hq.out]
        exact h0 k hlt
      rw [hq.out] at hck
      by_cases he1 : p + q.size ≤ t.size
      · have he1' : (p : Int) + (q.size : Int) ≤ (t.size : Int) := by omega
        have hsl : ∀ wx : World, (Instr.slice 9 (.string t) (some (.int .i64 (p : Int))) (some (.int .i64 ((p : Int) + (q.size : Int)))) none).run Tryd.prog wx = .ok (.string (t.extract p (p + q.size))) wx := by
          intro wx
          have := run_slice_string (P := Tryd.prog) wx 9 t .i64 .i64 (p : Int) ((p : Int) + (q.size : Int)) Tryd.underlying9 (by omega) (by omega) (by omega)
          rw [this]
          congr 3
        obtain ⟨u, hu⟩ : ∃ u, Hid (t.extract p (p + q.size) = u) := ⟨_, (rfl : t.extract p (p + q.size) = t.extract p (p + q.size))⟩
        rw [hu.out] at hsl
        by_cases he2 : (u.toList == q.toList) = true
        · have HE : Hid (markT (t.data.toList.drop p) = q) := by
            show _ = _
            rw [← hq.out]
            exact markT_at hlt HK.out (by rw [hq.out, pre_iff t q p hp]; exact ⟨he1, by rw [hu.out]; exact texts_ext he2⟩)
          go_wp2_with fail
          go_quiet (fail)
          go_wp2
          go_ret
          exact ⟨by rw [HE.out]; rfl, HW.out.1.trans ⟨rfl, rfl, rfl, Nat.le_refl _, fun _ _ => rfl⟩⟩
        · have he2' : (u.toList == q.toList) = false := by simpa using he2
          have HE : Hid ((marks3.getD k ByteArray.empty).data.toList.isPrefixOf (t.data.toList.drop p) = false) := by
            show _ = _
            rw [hq.out]
            cases hx : q.data.toList.isPrefixOf (t.data.toList.drop p) with
            | false => rfl
            | true =>
              have := ((pre_iff t q p hp).mp hx).2
              rw [hu.out] at this
              rw [this] at he2'
              simp at he2'
          clear he2
          go_wp2_with fail
          go_quiet (fail)
          go_wp2
          go_roundw
          case rel => exact ⟨k + 1, by omega, by go_num, fun j hj => by
            rcases Nat.lt_or_ge j k with h | h
            · exact HK.out j h
            · rw [show j = k by omega]; exact HE.out, HW.out.1.trans ⟨rfl, rfl, rfl, Nat.le_refl _, fun _ _ => rfl⟩, fun i hi => HW.out.2 i hi⟩
          case measure => simp [intOf]; omega
      · have he1' : decide ((p : Int) + (q.size : Int) ≤ (t.size : Int)) = false := decide_eq_false (by omega)
        have HE : Hid ((marks3.getD k ByteArray.empty).data.toList.isPrefixOf (t.data.toList.drop p) = false) := by
          show _ = _
          rw [hq.out]
          cases hx : q.data.toList.isPrefixOf (t.data.toList.drop p) with
          | false => rfl
          | true => exact absurd ((pre_iff t q p hp).mp hx).1 he1
        go_wp2_with fail
        go_quiet (fail)
        go_wp2
        go_roundw
        case rel => exact ⟨k + 1, by omega, by go_num, fun j hj => by
          rcases Nat.lt_or_ge j k with h | h
          · exact HK.out j h
          · rw [show j = k by omega]; exact HE.out, HW.out.1.trans ⟨rfl, rfl, rfl, Nat.le_refl _, fun _ _ => rfl⟩, fun i hi => HW.out.2 i hi⟩
        case measure => simp [intOf]; omega
    · have HE : Hid (markT (t.data.toList.drop p) = ⟨#[]⟩) := markT_none fun j hj => HK.out j (by omega)
      go_wp2
      go_ret
      exact ⟨by rw [HE.out]; rfl, HW.out.1⟩

end Go.Proofs.YtbanmldmdoedkaaDoor

namespace Go.Proofs.YtbanmldmdoedkaaDoor
open Go.RowKit

/-- A sign's cells. -/
def sgC (s : Sg) : List Value := [.int .i64 s.kind, .string s.text, .int .i64 s.num]
theorem sgC_len (s : Sg) : (sgC s).length = 3 := rfl
theorem sgC_ones (s : Sg) : ∀ u ∈ sgC s, u.oneCell' = true := by
  intro u hu
  simp [sgC] at hu
  rcases hu with rfl | rfl | rfl <;> rfl
theorem Tryd.infoSg : (Tryd.prog.info? 35).map (fun i => (i.zero, i.size, i.bytes)) = some (some (.agg #[.int .i64 0, .string ByteArray.empty, .int .i64 0]), 3, 32) := by kernel_rfl

/-- A row of signs that the call owns. -/
def OwnsSg (w : World) (B : Nat) (v : Value) (ss : List Sg) : Prop := OwnsR sgC 3 w B 35 v ss

theorem specSignsOf_long (t : ByteArray) (w : World) (h : 3000 < t.size) :
    Calls Tryd.prog 5 #[.string t] w fun e w' => ∃ v, e = .returned (.tuple #[v, .bool (signsOf t).2]) ∧ OwnsSg w' w.heap.size v (signsOf t).1 ∧ Below w.heap.size w w' := by
  have HS : Hid (signsOf t = ([], false)) := by show _ = _; unfold signsOf; rw [if_pos h]
  go_enter Tryd.func5, Tryd.ntmps5
  go_wp2
  go_ret2
  exact ⟨_, by rw [HS.out]; rfl, by rw [HS.out]; exact World.ownsRow_made w #[] 0 (Nat.le_refl _) (by decide) rfl, (Below.refl _ _).alloc (Nat.le_refl _) _⟩

set_option maxRecDepth 100000 in
set_option maxHeartbeats 1600000 in
theorem specSignsOf_short (t : ByteArray) (w : World) (h : t.size ≤ 3000) :
    Calls Tryd.prog 5 #[.string t] w fun e w' => ∃ v, e = .returned (.tuple #[v, .bool (signsOf t).2]) ∧ OwnsSg w' w.heap.size v (signsOf t).1 ∧ Below w.heap.size w w' := by
  go_enter Tryd.func5, Tryd.ntmps5
  go_wp2
  go_loopw [5, 6, 7, 8, 9] (fun o a _ _ _ wr => ∃ (p : Nat) (ss : List Sg), p ≤ t.size ∧ a = .int .i64 (p : Int) ∧ Hid (ReadTo t p ss ∧ ss.length ≤ p) ∧ OwnsR sgC 3 wr (w.heap.size + 1) 35 o ss ∧ Hid (Below w.heap.size w wr ∧ OwnsSg wr w.heap.size (.slice (some ⟨w.heap.size, 0, none⟩) 0 0) [] ∧ w.heap.size + 1 ≤ wr.heap.size))
    (fun _ a _ _ _ _ => t.size - (intOf a).toNat)
  case atStart => exact ⟨0, [], Nat.zero_le _, rfl, ⟨readTo_start t, Nat.le_refl _⟩, (by have h0 := World.ownsRow_made (base := w.heap.size + 1) (e := 35) (size := 3) (w.alloc (.cells #[] 35)) #[] 0 (by simp) (by decide) rfl; simpa [OwnsR] using h0), ⟨((Below.refl _ _).alloc (Nat.le_refl _) _).alloc (by simp) _, World.ownsRow.alloc (World.ownsRow_made w #[] 0 (Nat.le_refl _) (by decide) rfl) _, by simp⟩⟩
  case round =>
    obtain ⟨p, ss, hp, rfl, HR, hown, HW⟩ := hrel
    have hssl : ss.length ≤ 3000 := by have := HR.out.2; omega
    have hsz : w.heap.size + 1 ≤ wr.heap.size := HW.out.2.2
    by_cases hlt : p < t.size
    · have hp1 : (p : Int) < (t.size : Int) := by omega
      have hp0 : (0 : Int) ≤ (p : Int) := by omega
      obtain ⟨x, hx⟩ : ∃ x : Int, Hid (x = (t[p].toNat : Int)) := ⟨_, (rfl : (t[p].toNat : Int) = (t[p].toNat : Int))⟩
      have hix := index_at Tryd.underlying9 t p hlt (p : Int) x rfl hx.out
      by_cases hb : x = 32 ∨ x = 10
      · have HB : Hid (t[p] = 32 ∨ t[p] = 10) := by
          rcases hb with hb | hb
          · exact .inl (UInt8.toNat.inj (by have := hx.out; show t[p].toNat = 32; omega))
          · exact .inr (UInt8.toNat.inj (by have := hx.out; show t[p].toNat = 10; omega))
        rcases hb with rfl | rfl
        · go_wp2
          go_roundw
          case rel => exact ⟨p + 1, ss, by omega, by go_num, ⟨readTo_blank HR.out.1 hlt HB.out, by have := HR.out.2; omega⟩, hown, HW⟩
          case measure => simp [intOf]; omega
        · go_wp2
          go_roundw
          case rel => exact ⟨p + 1, ss, by omega, by go_num, ⟨readTo_blank HR.out.1 hlt HB.out, by have := HR.out.2; omega⟩, hown, HW⟩
          case measure => simp [intOf]; omega
      · have hb1 : (x == 32) = false := by simp; omega
        have hb2 : (x == 10) = false := by simp; omega
        have HB : Hid (¬ (t[p] = 32 ∨ t[p] = 10)) := by
          rintro (e | e)
          · exact hb (.inl (by rw [hx.out, e]; rfl))
          · exact hb (.inr (by rw [hx.out, e]; rfl))
        clear hb
        obtain ⟨bl, hbl⟩ : ∃ b, Hid (isLet t[p] = b) := ⟨_, (rfl : isLet t[p] = isLet t[p])⟩
        cases bl
        · obtain ⟨bf, hbf⟩ : ∃ b, Hid (isFig t[p] = b) := ⟨_, (rfl : isFig t[p] = isFig t[p])⟩
          cases bf
          · obtain ⟨M, HMk⟩ : ∃ M, Hid (markT (t.data.toList.drop p) = M) := ⟨_, (rfl : markT (t.data.toList.drop p) = markT (t.data.toList.drop p))⟩
            have HMore := mark_more hlt HB.out (by rw [hbl.out]; simp) (by rw [hbf.out]; simp) HMk.out
            by_cases hM0 : M.size = 0
            · have HE : Hid (signsOf t = ([], false)) := readTo_bad HR.out.1 h (HMore.1 hM0)
              clear HMore
              have hMe : M = ⟨#[]⟩ := by
                cases M
                simp [ByteArray.size] at hM0
                rw [hM0]
              subst hMe
              go_wp2_with (first | (go_at_call 22; refine (l03Letter_at t[p] x false hx hbl _).mono ?_; rintro e w1 ⟨rfl, rfl⟩) | (go_at_call 23; refine (l03Figure_at t[p] x false hx hbf _).mono ?_; rintro e w1 ⟨rfl, rfl⟩) | (go_at_call 24; refine (l03Mark_any t p _ h hp).mono ?_; rw [HMk.out]; rintro e w1 ⟨rfl, hbm⟩))
              go_ret2
              exact ⟨_, by rw [HE.out]; rfl, by rw [HE.out]; exact World.ownsRow.kept HW.out.2.1 (grown_of_below hbm) (Classical.em _), HW.out.1.trans (hbm.mono (by omega))⟩
            · have HM := (HMore.2 (by omega)).2
              have hMs := (HMore.2 (by omega)).1
              have HM' : Hid (signs (t.data.toList.drop p) = (signs (t.data.toList.drop (p + M.size))).map (⟨3, M, 0⟩ :: ·)) := HM
              clear HMore HM
              have hMn : (M.toList == []) = false := by
                rw [ByteArray.toList_eq]
                have h1 := tlen M
                cases hM : M.data.toList with
                | nil => rw [hM] at h1; simp at h1; omega
                | cons a b => rfl
              go_wp2_with (first | (go_at_call 22; refine (l03Letter_at t[p] x false hx hbl _).mono ?_; rintro e w1 ⟨rfl, rfl⟩) | (go_at_call 23; refine (l03Figure_at t[p] x false hx hbf _).mono ?_; rintro e w1 ⟨rfl, rfl⟩))
              go_at_call 24
              refine (l03Mark_any t p _ h hp).mono ?_
              rw [HMk.out]
              rintro e w3 ⟨rfl, hbm⟩
              have hown3 := hown.below hbm
              have hsz3 : w.heap.size + 1 ≤ w3.heap.size := Nat.le_trans hsz hbm.size
              have HW3 : Hid (Below w.heap.size w w3 ∧ OwnsSg w3 w.heap.size (.slice (some ⟨w.heap.size, 0, none⟩) 0 0) [] ∧ w.heap.size + 1 ≤ w3.heap.size) := ⟨HW.out.1.trans (hbm.mono (by omega)), World.ownsRow.kept HW.out.2.1 (grown_of_below hbm) (Classical.em _), hsz3⟩
              clear hbm hown hsz HW hix hb1 hb2
              go_wp2_with (at_builtin; go_must (refine appendR sgC_len rfl _ _ 22 rfl (w.heap.size + 1) 35 _ 32 Tryd.underlying22 Tryd.infoSg rfl (by decide) hown3 ⟨3, M, 0⟩ (sgC_ones _) rfl rfl (by omega) (by omega) hsz3 ?_); intro v2 w2 hown2 hb2 hs2 hg2)
              go_roundw
              case rel => exact ⟨p + M.size, ss ++ [⟨3, M, 0⟩], hMs, by go_num, ⟨readTo_more HR.out.1 HM'.out, by have := HR.out.2; simp; omega⟩, hown2, ⟨HW3.out.1.trans ((hb2 _ (Below.refl _ _)).mono (by omega)), World.ownsRow.kept HW3.out.2.1 hg2 (by rcases own_ne hown3 (show w.heap.size < w.heap.size + 1 by omega) with h | h; exact .inr (by rw [h]; simp [Value.ownBlock]); exact .inr (fun e => h e.symm)), by omega⟩⟩
              case measure => simp [intOf]; omega
          · go_wp2_with (first | (go_at_call 22; refine (l03Letter_at t[p] x false hx hbl _).mono ?_; rintro e w1 ⟨rfl, rfl⟩) | (go_at_call 23; refine (l03Figure_at t[p] x true hx hbf _).mono ?_; rintro e w1 ⟨rfl, rfl⟩))
            go_loop [7, 8] (fun n v => ∃ j m : Nat, p ≤ j ∧ j ≤ t.size ∧ j ≤ p + 11 ∧ n = .int .i64 (j : Int) ∧ v = .int .i64 (m : Int) ∧ m < 100000000000 ∧ Hid (m < 10 ^ (j - p)) ∧ Hid (Run isFig t p j ∧ m = valD ((t.data.toList.drop p).take (j - p)))) (fun n _ => t.size - (intOf n).toNat)
            case atStart => exact ⟨p, 0, Nat.le_refl _, hp, by omega, rfl, rfl, by omega, (by simp : 0 < 10 ^ (p - p)), run_start isFig t p, by simp [valD]⟩
            case round =>
              obtain ⟨j, m, hpj, hj, hj11, rfl, rfl, hm11, Hm10, HRun⟩ := hrel
              clear hix hb1 hb2
              by_cases hjl : j < t.size
              · have hjl' : (j : Int) < (t.size : Int) := by omega
                obtain ⟨y, hy⟩ : ∃ y : Int, Hid (y = (t[j].toNat : Int)) := ⟨_, (rfl : (t[j].toNat : Int) = (t[j].toNat : Int))⟩
                have hiy := index_at Tryd.underlying9 t j hjl (j : Int) y rfl hy.out
                obtain ⟨b2, hb2⟩ : ∃ b, Hid (isFig t[j] = b) := ⟨_, (rfl : isFig t[j] = isFig t[j])⟩
                cases b2
                · have he : Hid (∀ hj : j < t.size, isFig t[j] = false) := fun _ => hb2.out
                  have hpj1 : p < j := by
                    rcases Nat.lt_or_ge p j with h' | h'
                    · exact h'
                    · obtain rfl : j = p := by omega
                      have := he.out hlt
                      rw [hbf.out] at this
                      cases this
                  have HS := num_more hlt HB.out (by rw [hbl.out]; simp) hbf.out hpj hj HRun.out.1 he.out
                  rw [← HRun.out.2] at HS
                  by_cases h10 : 10 < j - p
                  · have HE : Hid (signsOf t = ([], false)) := readTo_bad HR.out.1 h (by rw [HS, if_pos (.inl h10)])
                    clear HS
                    have h10' : (10 : Int) < (j : Int) - (p : Int) := by omega
                    go_wp2_with (first | (go_at_call 23; refine (l03Figure_at t[j] y false hy hb2 _).mono ?_; rintro e w1 ⟨rfl, rfl⟩))
                    go_ret2
                    exact ⟨_, by rw [HE.out]; rfl, by rw [HE.out]; exact HW.out.2.1, HW.out.1⟩
                  · have h10' : ¬ (10 : Int) < (j : Int) - (p : Int) := by omega
                    by_cases hM : 1000000000 < m
                    · have HE : Hid (signsOf t = ([], false)) := readTo_bad HR.out.1 h (by rw [HS, if_pos (.inr hM)])
                      clear HS
                      have hM' : (1000000000 : Int) < (m : Int) := by omega
                      go_wp2_with (first | (go_at_call 23; refine (l03Figure_at t[j] y false hy hb2 _).mono ?_; rintro e w1 ⟨rfl, rfl⟩))
                      go_ret2
                      exact ⟨_, by rw [HE.out]; rfl, by rw [HE.out]; exact HW.out.2.1, HW.out.1⟩
                    · have HM : Hid (signs (t.data.toList.drop p) = (signs (t.data.toList.drop j)).map (⟨2, ⟨#[]⟩, (m : Int)⟩ :: ·)) := by show _ = _; rw [HS, if_neg (by omega)]
                      clear HS
                      have hM' : ¬ (1000000000 : Int) < (m : Int) := by omega
                      go_wp2_with (first | (go_at_call 23; refine (l03Figure_at t[j] y false hy hb2 _).mono ?_; rintro e w1 ⟨rfl, rfl⟩) | (at_builtin; go_must (refine appendR sgC_len rfl _ _ 22 rfl (w.heap.size + 1) 35 _ 32 Tryd.underlying22 Tryd.infoSg rfl (by decide) hown ⟨2, ⟨#[]⟩, (m : Int)⟩ (sgC_ones _) rfl rfl (by omega) (by omega) hsz ?_); intro v2 w2 hown2 hb2 hs2 hg2))
                      go_roundw
                      case rel => exact ⟨j, ss ++ [⟨2, ⟨#[]⟩, (m : Int)⟩], hj, by go_num, ⟨readTo_more HR.out.1 HM.out, by have := HR.out.2; simp; omega⟩, hown2, ⟨HW.out.1.trans ((hb2 _ (Below.refl _ _)).mono (by omega)), World.ownsRow.kept HW.out.2.1 hg2 (by rcases own_ne hown (show w.heap.size < w.heap.size + 1 by omega) with h | h; exact .inr (by rw [h]; simp [Value.ownBlock]); exact .inr (fun e => h e.symm)), by omega⟩⟩
                      case measure => simp [intOf]; omega
                · by_cases h10 : 10 < j - p
                  · have h10' : (10 : Int) < (j : Int) - (p : Int) := by omega
                    have HE : Hid (signsOf t = ([], false)) := readTo_bad HR.out.1 h (num_long hlt HB.out (by rw [hbl.out]; simp) hbf.out hj HRun.out.1 h10)
                    go_wp2_with (first | (go_at_call 23; refine (l03Figure_at t[j] y true hy hb2 _).mono ?_; rintro e w1 ⟨rfl, rfl⟩))
                    go_ret2
                    exact ⟨_, by rw [HE.out]; rfl, by rw [HE.out]; exact HW.out.2.1, HW.out.1⟩
                  · have h10' : ¬ (10 : Int) < (j : Int) - (p : Int) := by omega
                    have hfy : 48 ≤ y ∧ y ≤ 57 := by
                      have h1 := hb2.out
                      have h2 := hy.out
                      simp [isFig] at h1
                      omega
                    have HV : Hid (m < 10000000000 ∧ 10 * m + (t[j].toNat - 48) < 10 ^ (j + 1 - p)) := by
                      have h1 := Hm10.out
                      have h2 : 10 ^ (j - p) ≤ 10 ^ 10 := Nat.pow_le_pow_right (by omega) (by omega)
                      have h3 := hy.out
                      refine ⟨by omega, ?_⟩
                      rw [show j + 1 - p = (j - p) + 1 by omega, Nat.pow_succ]
                      omega
                    have hm10 : m < 10000000000 := HV.out.1
                    go_wp2_with (first | (go_at_call 23; refine (l03Figure_at t[j] y true hy hb2 _).mono ?_; rintro e w1 ⟨rfl, rfl⟩))
                    go_round
                    case rel => exact ⟨j + 1, 10 * m + (t[j].toNat - 48), by omega, by omega, by omega, by go_num, by have h2 := hy.out; congr 1; omega, by have h2 := hy.out; omega, HV.out.2, run_succ HRun.out.1 hjl hb2.out, by rw [valD_run hpj hjl, ← HRun.out.2]⟩
                    case measure => simp [intOf]; omega
              · have he : Hid (∀ hj : j < t.size, isFig t[j] = false) := fun hj => by omega
                have hpj1 : p < j := by
                  rcases Nat.lt_or_ge p j with h' | h'
                  · exact h'
                  · obtain rfl : j = p := by omega
                    have := he.out hlt
                    rw [hbf.out] at this
                    cases this
                have HS := num_more hlt HB.out (by rw [hbl.out]; simp) hbf.out hpj hj HRun.out.1 he.out
                rw [← HRun.out.2] at HS
                by_cases h10 : 10 < j - p
                · have HE : Hid (signsOf t = ([], false)) := readTo_bad HR.out.1 h (by rw [HS, if_pos (.inl h10)])
                  clear HS
                  have h10' : (10 : Int) < (j : Int) - (p : Int) := by omega
                  go_wp2
                  go_ret2
                  exact ⟨_, by rw [HE.out]; rfl, by rw [HE.out]; exact HW.out.2.1, HW.out.1⟩
                · have h10' : ¬ (10 : Int) < (j : Int) - (p : Int) := by omega
                  by_cases hM : 1000000000 < m
                  · have HE : Hid (signsOf t = ([], false)) := readTo_bad HR.out.1 h (by rw [HS, if_pos (.inr hM)])
                    clear HS
                    have hM' : (1000000000 : Int) < (m : Int) := by omega
                    go_wp2
                    go_ret2
                    exact ⟨_, by rw [HE.out]; rfl, by rw [HE.out]; exact HW.out.2.1, HW.out.1⟩
                  · have HM : Hid (signs (t.data.toList.drop p) = (signs (t.data.toList.drop j)).map (⟨2, ⟨#[]⟩, (m : Int)⟩ :: ·)) := by show _ = _; rw [HS, if_neg (by omega)]
                    clear HS
                    have hM' : ¬ (1000000000 : Int) < (m : Int) := by omega
                    go_wp2_with (at_builtin; go_must (refine appendR sgC_len rfl _ _ 22 rfl (w.heap.size + 1) 35 _ 32 Tryd.underlying22 Tryd.infoSg rfl (by decide) hown ⟨2, ⟨#[]⟩, (m : Int)⟩ (sgC_ones _) rfl rfl (by omega) (by omega) hsz ?_); intro v2 w2 hown2 hb2 hs2 hg2)
                    go_roundw
                    case rel => exact ⟨j, ss ++ [⟨2, ⟨#[]⟩, (m : Int)⟩], hj, by go_num, ⟨readTo_more HR.out.1 HM.out, by have := HR.out.2; simp; omega⟩, hown2, ⟨HW.out.1.trans ((hb2 _ (Below.refl _ _)).mono (by omega)), World.ownsRow.kept HW.out.2.1 hg2 (by rcases own_ne hown (show w.heap.size < w.heap.size + 1 by omega) with h | h; exact .inr (by rw [h]; simp [Value.ownBlock]); exact .inr (fun e => h e.symm)), by omega⟩⟩
                    case measure => simp [intOf]; omega
        · go_wp2_with (go_at_call 22; refine (l03Letter_at t[p] x true hx hbl _).mono ?_; rintro e w1 ⟨rfl, rfl⟩)
          go_loop [7] (fun n => ∃ j : Nat, p ≤ j ∧ j ≤ t.size ∧ n = .int .i64 (j : Int) ∧ Hid (Run isLF t p j)) (fun n => t.size - (intOf n).toNat)
          case atStart => exact ⟨p, Nat.le_refl _, hp, rfl, run_start isLF t p⟩
          case round =>
            obtain ⟨j, hpj, hj, rfl, HRun⟩ := hrel
            clear hix hb1 hb2
            by_cases hjl : j < t.size
            · have hjl' : (j : Int) < (t.size : Int) := by omega
              obtain ⟨y, hy⟩ : ∃ y : Int, Hid (y = (t[j].toNat : Int)) := ⟨_, (rfl : (t[j].toNat : Int) = (t[j].toNat : Int))⟩
              have hiy := index_at Tryd.underlying9 t j hjl (j : Int) y rfl hy.out
              obtain ⟨b1, hb1⟩ : ∃ b, Hid (isLet t[j] = b) := ⟨_, (rfl : isLet t[j] = isLet t[j])⟩
              obtain ⟨b2, hb2⟩ : ∃ b, Hid (isFig t[j] = b) := ⟨_, (rfl : isFig t[j] = isFig t[j])⟩
              cases b1
              · cases b2
                · have he : Hid (∀ hj : j < t.size, isLF t[j] = false) := fun _ => by simp [isLF, hb1.out, hb2.out]
                  have hpj1 : p < j := by
                    rcases Nat.lt_or_ge p j with h' | h'
                    · exact h'
                    · obtain rfl : j = p := by omega
                      have := he.out hlt
                      rw [isLF_of_let hbl.out] at this
                      cases this
                  have HS := word_more hlt HB.out hbl.out hpj hj HRun.out he.out
                  by_cases h8 : 8 < j - p
                  · have HE : Hid (signsOf t = ([], false)) := readTo_bad HR.out.1 h (by rw [HS, if_pos h8])
                    clear HS
                    have h8' : (8 : Int) < (j : Int) - (p : Int) := by omega
                    go_wp2_with (first | (go_at_call 22; refine (l03Letter_at t[j] y false hy hb1 _).mono ?_; rintro e w1 ⟨rfl, rfl⟩) | (go_at_call 23; refine (l03Figure_at t[j] y false hy hb2 _).mono ?_; rintro e w1 ⟨rfl, rfl⟩))
                    go_ret2
                    exact ⟨_, by rw [HE.out]; rfl, by rw [HE.out]; exact HW.out.2.1, HW.out.1⟩
                  · have HM : Hid (signs (t.data.toList.drop p) = (signs (t.data.toList.drop j)).map (⟨1, t.extract p j, 0⟩ :: ·)) := by show _ = _; rw [HS, if_neg h8]
                    clear HS
                    have h8' : ¬ (8 : Int) < (j : Int) - (p : Int) := by omega
                    have hj1 : (j : Int) ≤ (t.size : Int) := by omega
                    have hpj2 : (p : Int) ≤ (j : Int) := by omega
                    go_wp2_with (first | (go_at_call 22; refine (l03Letter_at t[j] y false hy hb1 _).mono ?_; rintro e w1 ⟨rfl, rfl⟩) | (go_at_call 23; refine (l03Figure_at t[j] y false hy hb2 _).mono ?_; rintro e w1 ⟨rfl, rfl⟩) | (at_builtin; go_must (refine appendR sgC_len rfl _ _ 22 rfl (w.heap.size + 1) 35 _ 32 Tryd.underlying22 Tryd.infoSg rfl (by decide) hown ⟨1, t.extract p j, 0⟩ (sgC_ones _) rfl rfl (by omega) (by omega) hsz ?_); intro v2 w2 hown2 hb2 hs2 hg2))
                    go_roundw
                    case rel => exact ⟨j, ss ++ [⟨1, t.extract p j, 0⟩], hj, by go_num, ⟨readTo_more HR.out.1 HM.out, by have := HR.out.2; simp; omega⟩, hown2, ⟨HW.out.1.trans ((hb2 _ (Below.refl _ _)).mono (by omega)), World.ownsRow.kept HW.out.2.1 hg2 (by rcases own_ne hown (show w.heap.size < w.heap.size + 1 by omega) with h | h; exact .inr (by rw [h]; simp [Value.ownBlock]); exact .inr (fun e => h e.symm)), by omega⟩⟩
                    case measure => simp [intOf]; omega
                · go_wp2_with (first | (go_at_call 22; refine (l03Letter_at t[j] y false hy hb1 _).mono ?_; rintro e w1 ⟨rfl, rfl⟩) | (go_at_call 23; refine (l03Figure_at t[j] y true hy hb2 _).mono ?_; rintro e w1 ⟨rfl, rfl⟩))
                  go_round
                  case rel => exact ⟨j + 1, by omega, by omega, by go_num, run_succ HRun.out hjl (by simp [isLF, hb1.out, hb2.out])⟩
                  case measure => simp [intOf]; omega
              · go_wp2_with (first | (go_at_call 22; refine (l03Letter_at t[j] y true hy hb1 _).mono ?_; rintro e w1 ⟨rfl, rfl⟩) | (go_at_call 23; refine (l03Figure_at t[j] y false hy hb2 _).mono ?_; rintro e w1 ⟨rfl, rfl⟩))
                go_round
                case rel => exact ⟨j + 1, by omega, by omega, by go_num, run_succ HRun.out hjl (by simp [isLF, hb1.out])⟩
                case measure => simp [intOf]; omega
            · have he : Hid (∀ hj : j < t.size, isLF t[j] = false) := fun hj => by omega
              have hpj1 : p < j := by
                rcases Nat.lt_or_ge p j with h' | h'
                · exact h'
                · obtain rfl : j = p := by omega
                  have := he.out hlt
                  rw [isLF_of_let hbl.out] at this
                  cases this
              have HS := word_more hlt HB.out hbl.out hpj hj HRun.out he.out
              by_cases h8 : 8 < j - p
              · have HE : Hid (signsOf t = ([], false)) := readTo_bad HR.out.1 h (by rw [HS, if_pos h8])
                clear HS
                have h8' : (8 : Int) < (j : Int) - (p : Int) := by omega
                go_wp2
                go_ret2
                exact ⟨_, by rw [HE.out]; rfl, by rw [HE.out]; exact HW.out.2.1, HW.out.1⟩
              · have HM : Hid (signs (t.data.toList.drop p) = (signs (t.data.toList.drop j)).map (⟨1, t.extract p j, 0⟩ :: ·)) := by show _ = _; rw [HS, if_neg h8]
                clear HS
                have h8' : ¬ (8 : Int) < (j : Int) - (p : Int) := by omega
                have hj1 : (j : Int) ≤ (t.size : Int) := by omega
                have hpj2 : (p : Int) ≤ (j : Int) := by omega
                go_wp2_with (at_builtin; go_must (refine appendR sgC_len rfl _ _ 22 rfl (w.heap.size + 1) 35 _ 32 Tryd.underlying22 Tryd.infoSg rfl (by decide) hown ⟨1, t.extract p j, 0⟩ (sgC_ones _) rfl rfl (by omega) (by omega) hsz ?_); intro v2 w2 hown2 hb2 hs2 hg2)
                go_roundw
                case rel => exact ⟨j, ss ++ [⟨1, t.extract p j, 0⟩], hj, by go_num, ⟨readTo_more HR.out.1 HM.out, by have := HR.out.2; simp; omega⟩, hown2, ⟨HW.out.1.trans ((hb2 _ (Below.refl _ _)).mono (by omega)), World.ownsRow.kept HW.out.2.1 hg2 (by rcases own_ne hown (show w.heap.size < w.heap.size + 1 by omega) with h | h; exact .inr (by rw [h]; simp [Value.ownBlock]); exact .inr (fun e => h e.symm)), by omega⟩⟩
                case measure => simp [intOf]; omega
    · have HE : Hid (signsOf t = (ss, true)) := readTo_end HR.out.1 (by omega) h
      go_wp2
      go_ret2
      exact ⟨_, by rw [HE.out]; rfl, by rw [HE.out]; exact owns_base hown (by omega), HW.out.1⟩

end Go.Proofs.YtbanmldmdoedkaaDoor

namespace Go.Proofs.YtbanmldmdoedkaaDoor
open Go.RowKit

/-- A row of signs that can be read: where its cells lie, below B. -/
def RowSg (w : World) (B : Nat) (v : Value) (ss : List Sg) : Prop :=
  ∃ a cap, v = .slice a ss.length cap ∧ (ss = [] ∨ ∃ b off, a = some ⟨b, off, none⟩ ∧ b < B ∧ ∀ i, (hi : i < ss.length) → w.cell? ⟨b, off + i * 3, none⟩ = some (.int .i64 ss[i].kind) ∧ w.cell? ⟨b, off + i * 3 + 1, none⟩ = some (.string ss[i].text) ∧ w.cell? ⟨b, off + i * 3 + 2, none⟩ = some (.int .i64 ss[i].num))
theorem OwnsSg.row {w : World} {B : Nat} {v : Value} {ss : List Sg} (h : OwnsSg w B v ss) : RowSg w w.heap.size v ss := by
  rcases OwnsR.form h with ⟨rfl, rfl⟩ | ⟨g, cap, rfl, hB, hg⟩
  · exact ⟨none, 0, rfl, .inl rfl⟩
  · refine ⟨_, cap, rfl, .inr ⟨g, 0, rfl, hg, fun i hi => ⟨?_, ?_, ?_⟩⟩⟩
    · have := OwnsR.cell sgC_len h rfl i 0 hi (by omega)
      simpa [sgC] using this
    · have := OwnsR.cell sgC_len h rfl i 1 hi (by omega)
      simpa [sgC] using this
    · have := OwnsR.cell sgC_len h rfl i 2 hi (by omega)
      simpa [sgC] using this
theorem RowSg.below {w w' : World} {B : Nat} {v : Value} {ss : List Sg} (h : RowSg w B v ss) (hb : Below B w w') : RowSg w' B v ss := by
  obtain ⟨a, cap, rfl, h⟩ := h
  refine ⟨a, cap, rfl, h.imp id ?_⟩
  rintro ⟨b, off, rfl, hB, h⟩
  refine ⟨b, off, rfl, hB, fun i hi => ?_⟩
  rw [hb.cell (p := ⟨b, off + i * 3, none⟩) hB, hb.cell (p := ⟨b, off + i * 3 + 1, none⟩) hB, hb.cell (p := ⟨b, off + i * 3 + 2, none⟩) hB]
  exact h i hi

theorem bytes_ext3 {l : List UInt8} {D : ByteArray} (h : l = D.data.toList) : (⟨l.toArray⟩ : ByteArray) = D := by
  cases D
  simp at h
  rw [h]
theorem sg_small {D : ByteArray} {q : Sg} {n k : Nat} (hD : D.data.toList = sgT q) (h : n + ((if k = 0 then [] else [32]) ++ sgT q).length ≤ 1000000000) : D.size ≤ 1000000000 := by
  have := tlen D
  rw [hD] at this
  rw [List.length_append] at h
  omega
theorem join_first {S D : ByteArray} {ss : List Sg} {k : Nat} {q : Sg} (hS : S.data.toList = textTo ss k) (hG : ss.getD k sg0 = q) (hD : D.data.toList = sgT q) (h : k = 0) : (S ++ D).data.toList = textTo ss (k + 1) := by
  rw [ByteArray.data_append, Array.toList_append, hS, hD, textTo, hG, if_pos h]
  rfl
theorem join_next {S D : ByteArray} {ss : List Sg} {k : Nat} {q : Sg} (hS : S.data.toList = textTo ss k) (hG : ss.getD k sg0 = q) (hD : D.data.toList = sgT q) (h : ¬ k = 0) : (S ++ ⟨#[32]⟩ ++ D).data.toList = textTo ss (k + 1) := by
  rw [ByteArray.data_append, ByteArray.data_append, Array.toList_append, Array.toList_append, hS, hD, textTo, hG, if_neg h, List.append_assoc]

set_option maxHeartbeats 800000 in
theorem specSignText_any (B : Nat) (v : Value) (ss : List Sg) (w : World) (hB : B ≤ w.heap.size) (hv : RowSg w B v ss) (hl : ss.length ≤ 1048576) (hn : ∀ s ∈ ss, -9223372036854775808 ≤ s.num ∧ s.num ≤ 9223372036854775807) (ht : (textTo ss ss.length).length ≤ 1000000000) :
    Calls Tryd.prog 21 #[v] w fun e w' => e = .returned (.string (signText ss)) ∧ Below w.heap.size w w' := by
  obtain ⟨a, cap, rfl, hv2⟩ := hv
  obtain ⟨N, hN⟩ : ∃ N, ss.length = N := ⟨_, rfl⟩
  have HV : Hid (ss = [] ∨ ∃ b off, a = some ⟨b, off, none⟩ ∧ b < B ∧ ∀ i, (hi : i < ss.length) → w.cell? ⟨b, off + i * 3, none⟩ = some (.int .i64 ss[i].kind) ∧ w.cell? ⟨b, off + i * 3 + 1, none⟩ = some (.string ss[i].text) ∧ w.cell? ⟨b, off + i * 3 + 2, none⟩ = some (.int .i64 ss[i].num)) := hv2
  have HN : Hid (ss.length = N) := hN
  have Hn : Hid (∀ s ∈ ss, -9223372036854775808 ≤ s.num ∧ s.num ≤ 9223372036854775807) := hn
  have Hl : Hid ((textTo ss N).length ≤ 1000000000) := by rw [← hN]; exact ht
  rw [hN] at hl ⊢
  clear hv2 hN hn ht
  go_enter Tryd.func21, Tryd.ntmps21
  go_wp2
  go_loopw [3, 4, 5] (fun s i _ wr => ∃ (k : Nat) (S : ByteArray), k ≤ N ∧ i = .int .i64 (k : Int) ∧ s = .string S ∧ Hid (S.data.toList = textTo ss k) ∧ Below w.heap.size w wr) (fun _ i _ _ => N - (intOf i).toNat)
  case atStart => exact ⟨0, ⟨#[]⟩, Nat.zero_le _, rfl, rfl, rfl, Below.refl _ _⟩
  case round =>
    obtain ⟨k, S, hk, rfl, rfl, HS, hbw⟩ := hrel
    by_cases hlt : k < N
    · have hk1 : (k : Int) < (N : Int) := by omega
      have hk0 : (0 : Int) ≤ (k : Int) := by omega
      have hkl : k < ss.length := by have := HN.out; omega
      rcases HV.out with hv2 | ⟨b, off, rfl, hbB, hv2⟩
      · rw [hv2] at hkl
        simp at hkl
      obtain ⟨c0, c1, c2⟩ := hv2 k hkl
      have d0 := (hbw.cell (p := ⟨b, off + k * 3, none⟩) (by show b < _; omega)).trans c0
      have d1 := (hbw.cell (p := ⟨b, off + k * 3 + 1, none⟩) (by show b < _; omega)).trans c1
      have d2 := (hbw.cell (p := ⟨b, off + k * 3 + 2, none⟩) (by show b < _; omega)).trans c2
      clear c0 c1 c2 hv2
      obtain ⟨q, hq⟩ : ∃ q, Hid (ss[k] = q) := ⟨_, (rfl : ss[k] = ss[k])⟩
      rw [hq.out] at d0 d1 d2
      have HG : Hid (ss.getD k sg0 = q) := by show _ = _; rw [← hq.out]; simp [List.getD, hkl]
      have hqn := Hn.out q (by rw [← hq.out]; exact List.getElem_mem hkl)
      have HL : Hid ((textTo ss k).length + ((if k = 0 then [] else [32]) ++ sgT q).length ≤ 1000000000) := by
        have h1 := textTo_le ss (show k + 1 ≤ N by omega)
        have h2 := Hl.out
        simp only [textTo, List.length_append, HG.out] at h1
        show _ ≤ _
        simp only [List.length_append]
        omega
      have hS : S.size ≤ 1000000000 := by have h1 := tlen S; have h2 := HL.out; rw [HS.out] at h1; omega
      by_cases hk00 : k = 0
      · have hk0' : ¬ (0 : Int) < (k : Int) := by omega
        have HK0 : Hid (k = 0) := hk00
        clear hk00
        have hD32 : (⟨#[32]⟩ : ByteArray).size = 1 := rfl
        by_cases hkind : q.kind = 2
        · have hkd : (q.kind == 2) = true := by simpa using hkind
          by_cases hneg : q.num < 0
          · obtain ⟨D, HD⟩ : ∃ D : ByteArray, Hid (D.data.toList = sgT q) := ⟨⟨(sgT q).toArray⟩, (rfl : (⟨(sgT q).toArray⟩ : ByteArray).data.toList = sgT q)⟩
            have hDs : D.size ≤ 1000000000 := sg_small HD.out HL.out
            have c : Hid (∀ wx, Calls Tryd.prog 41 #[.int .i64 0] wx fun e w' => e = .returned (.string D) ∧ Below wx.heap.size wx w') := fun wx => by
              have := specDecimal_any 0 wx (by omega) (by omega)
              rw [show (⟨(Lib.itoa 0).toArray⟩ : ByteArray) = D from bytes_ext3 (by rw [HD.out]; unfold sgT; rw [if_pos hkind, show q.num.toNat = 0 by omega]; exact Lib.itoa_nonneg 0)] at this
              exact this
            go_wp2_with (go_at_call 41; refine Calls.mono (c.out _) ?_; rintro e w2 ⟨rfl, hb2⟩)
            go_roundw
            case rel => exact ⟨k + 1, S ++ D, by omega, by go_num, rfl, join_first HS.out HG.out HD.out HK0.out, hbw.trans (hb2.mono hbw.size)⟩
            case measure => simp [intOf]; omega
          · obtain ⟨D, HD⟩ : ∃ D : ByteArray, Hid (D.data.toList = sgT q) := ⟨⟨(sgT q).toArray⟩, (rfl : (⟨(sgT q).toArray⟩ : ByteArray).data.toList = sgT q)⟩
            have hDs : D.size ≤ 1000000000 := sg_small HD.out HL.out
            have c : Hid (∀ wx, Calls Tryd.prog 41 #[.int .i64 q.num] wx fun e w' => e = .returned (.string D) ∧ Below wx.heap.size wx w') := fun wx => by
              have := specDecimal_any q.num wx (by omega) (by omega)
              rw [show (⟨(Lib.itoa q.num).toArray⟩ : ByteArray) = D from bytes_ext3 (by rw [HD.out]; unfold sgT Lib.itoa; rw [if_pos hkind, if_neg hneg])] at this
              exact this
            go_wp2_with (go_at_call 41; refine Calls.mono (c.out _) ?_; rintro e w2 ⟨rfl, hb2⟩)
            go_roundw
            case rel => exact ⟨k + 1, S ++ D, by omega, by go_num, rfl, join_first HS.out HG.out HD.out HK0.out, hbw.trans (hb2.mono hbw.size)⟩
            case measure => simp [intOf]; omega
        · have hkd : (q.kind == 2) = false := by simpa using hkind
          obtain ⟨D, HDt⟩ : ∃ D : ByteArray, Hid (q.text = D) := ⟨_, (rfl : q.text = q.text)⟩
          have HD : Hid (D.data.toList = sgT q) := by show _ = _; rw [← HDt.out]; unfold sgT; rw [if_neg hkind]
          have hDs : D.size ≤ 1000000000 := sg_small HD.out HL.out
          rw [HDt.out] at d1
          go_wp2
          go_roundw
          case rel => exact ⟨k + 1, S ++ D, by omega, by go_num, rfl, join_first HS.out HG.out HD.out HK0.out, hbw⟩
          case measure => simp [intOf]; omega
      · have hk0' : (0 : Int) < (k : Int) := by omega
        have hD32 : (⟨#[32]⟩ : ByteArray).size = 1 := rfl
        by_cases hkind : q.kind = 2
        · have hkd : (q.kind == 2) = true := by simpa using hkind
          by_cases hneg : q.num < 0
          · obtain ⟨D, HD⟩ : ∃ D : ByteArray, Hid (D.data.toList = sgT q) := ⟨⟨(sgT q).toArray⟩, (rfl : (⟨(sgT q).toArray⟩ : ByteArray).data.toList = sgT q)⟩
            have hDs : D.size ≤ 1000000000 := sg_small HD.out HL.out
            have c : Hid (∀ wx, Calls Tryd.prog 41 #[.int .i64 0] wx fun e w' => e = .returned (.string D) ∧ Below wx.heap.size wx w') := fun wx => by
              have := specDecimal_any 0 wx (by omega) (by omega)
              rw [show (⟨(Lib.itoa 0).toArray⟩ : ByteArray) = D from bytes_ext3 (by rw [HD.out]; unfold sgT; rw [if_pos hkind, show q.num.toNat = 0 by omega]; exact Lib.itoa_nonneg 0)] at this
              exact this
            go_wp2_with (go_at_call 41; refine Calls.mono (c.out _) ?_; rintro e w2 ⟨rfl, hb2⟩)
            go_roundw
            case rel => exact ⟨k + 1, S ++ (⟨#[32]⟩ : ByteArray) ++ D, by omega, by go_num, rfl, join_next HS.out HG.out HD.out hk00, hbw.trans (hb2.mono hbw.size)⟩
            case measure => simp [intOf]; omega
          · obtain ⟨D, HD⟩ : ∃ D : ByteArray, Hid (D.data.toList = sgT q) := ⟨⟨(sgT q).toArray⟩, (rfl : (⟨(sgT q).toArray⟩ : ByteArray).data.toList = sgT q)⟩
            have hDs : D.size ≤ 1000000000 := sg_small HD.out HL.out
            have c : Hid (∀ wx, Calls Tryd.prog 41 #[.int .i64 q.num] wx fun e w' => e = .returned (.string D) ∧ Below wx.heap.size wx w') := fun wx => by
              have := specDecimal_any q.num wx (by omega) (by omega)
              rw [show (⟨(Lib.itoa q.num).toArray⟩ : ByteArray) = D from bytes_ext3 (by rw [HD.out]; unfold sgT Lib.itoa; rw [if_pos hkind, if_neg hneg])] at this
              exact this
            go_wp2_with (go_at_call 41; refine Calls.mono (c.out _) ?_; rintro e w2 ⟨rfl, hb2⟩)
            go_roundw
            case rel => exact ⟨k + 1, S ++ (⟨#[32]⟩ : ByteArray) ++ D, by omega, by go_num, rfl, join_next HS.out HG.out HD.out hk00, hbw.trans (hb2.mono hbw.size)⟩
            case measure => simp [intOf]; omega
        · have hkd : (q.kind == 2) = false := by simpa using hkind
          obtain ⟨D, HDt⟩ : ∃ D : ByteArray, Hid (q.text = D) := ⟨_, (rfl : q.text = q.text)⟩
          have HD : Hid (D.data.toList = sgT q) := by show _ = _; rw [← HDt.out]; unfold sgT; rw [if_neg hkind]
          have hDs : D.size ≤ 1000000000 := sg_small HD.out HL.out
          rw [HDt.out] at d1
          go_wp2
          go_roundw
          case rel => exact ⟨k + 1, S ++ (⟨#[32]⟩ : ByteArray) ++ D, by omega, by go_num, rfl, join_next HS.out HG.out HD.out hk00, hbw⟩
          case measure => simp [intOf]; omega
    · have HF : Hid (S = signText ss) := by
        show S = _
        unfold signText
        rw [HN.out, show N = k by omega, ← HS.out]
      go_wp2
      go_ret
      exact ⟨congrArg (fun z : ByteArray => Ending.returned (.string z)) HF.out, hbw⟩

end Go.Proofs.YtbanmldmdoedkaaDoor

namespace Go.Proofs.YtbanmldmdoedkaaDoor
open Go.RowKit

def sgV (s : Sg) : Value := .agg #[.int .i64 s.kind, .string s.text, .int .i64 s.num]

theorem eqSign_same (s : Sg) (w : World) :
    Calls Tryd.prog 26 #[sgV s, sgV s] w fun e w' => e = .returned (.bool true) ∧ Below w.heap.size w w' := by
  obtain ⟨k, t, n⟩ := s
  unfold sgV
  go_enter Tryd.func26, Tryd.ntmps26
  go_wp2
  go_ret
  exact ⟨rfl, ((Below.refl _ _).alloc (Nat.le_refl _) _).alloc (by simp) _⟩

/-- The three cells of a sign in a row that can be read. -/
theorem RowSg.at {w : World} {B : Nat} {a : Option Addr} {n cap : Nat} {ss : List Sg} (h : RowSg w B (.slice a n cap) ss) (k : Nat) (hk : k < ss.length) :
    ∃ b off, a = some ⟨b, off, none⟩ ∧ b < B ∧ w.cell? ⟨b, off + k * 3, none⟩ = some (.int .i64 ss[k].kind) ∧ w.cell? ⟨b, off + k * 3 + 1, none⟩ = some (.string ss[k].text) ∧ w.cell? ⟨b, off + k * 3 + 2, none⟩ = some (.int .i64 ss[k].num) := by
  obtain ⟨a', cap', he, h⟩ := h
  cases he
  rcases h with rfl | ⟨b, off, rfl, hb, h⟩
  · simp at hk
  · exact ⟨b, off, rfl, hb, h k hk⟩
theorem RowSg.len {w : World} {B : Nat} {v : Value} {ss : List Sg} (h : RowSg w B v ss) : ∃ a cap, v = .slice a ss.length cap := by
  obtain ⟨a, cap, he, _⟩ := h
  exact ⟨a, cap, he⟩

set_option maxHeartbeats 800000 in
theorem eqSignS_same (B : Nat) (va vb : Value) (ss : List Sg) (w : World) (hB : B ≤ w.heap.size) (ha : RowSg w B va ss) (hb : RowSg w B vb ss) (hl : ss.length ≤ 1048576) :
    Calls Tryd.prog 7 #[va, vb] w fun e w' => e = .returned (.bool true) ∧ Below w.heap.size w w' := by
  obtain ⟨a, ca, rfl⟩ := ha.len
  obtain ⟨b, cb, rfl⟩ := hb.len
  obtain ⟨N, HN⟩ : ∃ N, Hid (ss.length = N) := ⟨_, (rfl : ss.length = ss.length)⟩
  have H : Hid (RowSg w B (.slice a N ca) ss ∧ RowSg w B (.slice b N cb) ss) := by rw [← HN.out]; exact ⟨ha, hb⟩
  rw [HN.out] at hl ⊢
  clear ha hb
  go_enter Tryd.func7, Tryd.ntmps7
  go_wp2
  go_loopw [5] (fun i wr => ∃ k : Nat, k ≤ N ∧ i = .int .i64 (k : Int) ∧ Below w.heap.size w wr) (fun i _ => N - (intOf i).toNat)
  case atStart => exact ⟨0, Nat.zero_le _, rfl, Below.refl _ _⟩
  case round =>
    obtain ⟨k, hk, rfl, hbw⟩ := hrel
    by_cases hlt : k < N
    · have hk1 : (k : Int) < (N : Int) := by omega
      have hk0 : (0 : Int) ≤ (k : Int) := by omega
      have hkl : k < ss.length := by have := HN.out; omega
      obtain ⟨ba, oa, rfl, hba, c0, c1, c2⟩ := H.out.1.at k hkl
      obtain ⟨bb, ob, rfl, hbb, e0, e1, e2⟩ := H.out.2.at k hkl
      obtain ⟨q, hq⟩ : ∃ q, Hid (ss[k] = q) := ⟨_, (rfl : ss[k] = ss[k])⟩
      have d0 := (hbw.cell (p := ⟨ba, oa + k * 3, none⟩) (by show ba < _; omega)).trans c0
      have d1 := (hbw.cell (p := ⟨ba, oa + k * 3 + 1, none⟩) (by show ba < _; omega)).trans c1
      have d2 := (hbw.cell (p := ⟨ba, oa + k * 3 + 2, none⟩) (by show ba < _; omega)).trans c2
      have f0 := (hbw.cell (p := ⟨bb, ob + k * 3, none⟩) (by show bb < _; omega)).trans e0
      have f1 := (hbw.cell (p := ⟨bb, ob + k * 3 + 1, none⟩) (by show bb < _; omega)).trans e1
      have f2 := (hbw.cell (p := ⟨bb, ob + k * 3 + 2, none⟩) (by show bb < _; omega)).trans e2
      rw [hq.out] at d0 d1 d2 f0 f1 f2
      clear c0 c1 c2 e0 e1 e2
      have hba1 : ba < wr.heap.size := by have := hbw.size; omega
      have hbb1 : bb < wr.heap.size := by have := hbw.size; omega
      go_wp2_with fail
      go_region_held3 (fun w' => (w'.cell? ⟨ba, oa + k * 3, none⟩ = some (.int .i64 q.kind) ∧ w'.cell? ⟨ba, oa + k * 3 + 1, none⟩ = some (.string q.text) ∧ w'.cell? ⟨ba, oa + k * 3 + 2, none⟩ = some (.int .i64 q.num)) ∧ (w'.cell? ⟨bb, ob + k * 3, none⟩ = some (.int .i64 q.kind) ∧ w'.cell? ⟨bb, ob + k * 3 + 1, none⟩ = some (.string q.text) ∧ w'.cell? ⟨bb, ob + k * 3 + 2, none⟩ = some (.int .i64 q.num))) (first | exact ⟨⟨d0, d1, d2⟩, f0, f1, f2⟩ | exact ⟨⟨(hb1.cell (p := ⟨ba, oa + k * 3, none⟩) hba1).trans d0, (hb1.cell (p := ⟨ba, oa + k * 3 + 1, none⟩) hba1).trans d1, (hb1.cell (p := ⟨ba, oa + k * 3 + 2, none⟩) hba1).trans d2⟩, (hb1.cell (p := ⟨bb, ob + k * 3, none⟩) hbb1).trans f0, (hb1.cell (p := ⟨bb, ob + k * 3 + 1, none⟩) hbb1).trans f1, (hb1.cell (p := ⟨bb, ob + k * 3 + 2, none⟩) hbb1).trans f2⟩) ((go_at_call 26; refine (eqSign_same q _).mono ?_; rintro e w1 ⟨rfl, hb1⟩))
      all_goals
        go_wp2
        go_roundw
        case rel => exact ⟨k + 1, by omega, by go_num, hbw.drew.trans (hb1.mono hbw.size)⟩
        case measure => simp [intOf]; omega
    · go_wp2
      go_ret
      exact ⟨rfl, hbw⟩

end Go.Proofs.YtbanmldmdoedkaaDoor
