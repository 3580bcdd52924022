/-
  KeyWord, in the program: a map of fourteen words is made and looked into: what it answers at every text.
  Letters and figures, and what a text begins with, in the program: what each answers at every rune and every text.
  NameOk, in the program: what it answers at every text; the length of the word that a text begins with.
-/
import Derived.Test.YtbanmldmdoedkaaGreatDoorNa
import Derived.Maps.Own
import Derived.Maps.OwnOps
import Derived.Maps.Views
namespace Go.Proofs.YtbanmldmdoedkaaGreatDoor
open Go.RowKit Go.Maps Go.WideMaps

/-- What a map of words answers at a word: a number above 0 or none. -/
def Look (D : DataW Unit) (l : List UInt8) (b : Bool) : Prop := IsMap D ∧ ∃ c : Int, D.atKey (.string l) (.lit (.int .i64 0)) = .lit (.int .i64 c) ∧ decide (0 < c) = b

theorem Look.none (l : List UInt8) : Look (.map []) l false := ⟨isMap_empty, 0, rfl, rfl⟩

theorem Look.put {D : DataW Unit} {l : List UInt8} {b : Bool} (h : Look D l b) (k : List UInt8) (v : Int) (hv : 0 < v) : Look (D.put (.string k) (.lit (.int .i64 v))) l (b || (k == l)) := by
  obtain ⟨hm, c, hc, hb⟩ := h
  refine ⟨hm.put _ _, ?_⟩
  by_cases e : k = l
  · subst e
    exact ⟨v, atKey_put_same hm (by simp [WideAt.IsKeyLit]) _ _, by simp [hv]⟩
  · refine ⟨c, (atKey_put_other (fun e' => e (by cases e'; rfl)) _ _).trans hc, ?_⟩
    rw [hb]
    have : (k == l) = false := by simpa using e
    simp [this]

/-- The map behind so many stores, and whether a word is among them. -/
def dK : Nat → DataW Unit
  | 0 => .map []
  | n + 1 => (dK n).put (.string ((keys.getD n ByteArray.empty).data.toList)) (.lit (.int .i64 ((n + 1 : Nat) : Int)))
def bK : Nat → List UInt8 → Bool
  | 0, _ => false
  | n + 1, l => bK n l || ((keys.getD n ByteArray.empty).data.toList == l)

theorem zeroI (w : World) : (zeroValue 3).run Tryz.prog w = .ok (.int .i64 0) w := by kernel_rfl
theorem lawK : Keyed Tryz.prog 9 := string_keyed Tryz.underlying9

set_option maxRecDepth 100000 in
set_option maxHeartbeats 800000 in
theorem keyWords_any (w : World) :
    Calls Tryz.prog 191 #[] w fun e w' => e = .returned (.map (some w.heap.size)) ∧ Hid (Below w.heap.size w w' ∧ ∃ D : DataW Unit, w'.ownsMap Tryz.prog 9 (plainElem Tryz.prog 3) w.heap.size 14 D ∧ ∀ l, Look D l (keys.any fun k => k.data.toList == l)) := by
  have hmm := @run_makeMap Tryz.prog
  have h0 : Hid ((w.alloc (.map #[] 0)).ownsMap Tryz.prog 9 (plainElem (H := Unit) Tryz.prog 3) w.heap.size 0 (dK 0) ∧ Below w.heap.size w (w.alloc (.map #[] 0)) ∧ ∀ l, Look (dK 0) l (bK 0 l)) := ⟨World.ownsMap_made _ _ _ _, (Below.refl _ _).alloc (Nat.le_refl _) _, Look.none⟩
  obtain ⟨w1, r1, o1, g1⟩ := h0.out.1.update lawK Tryz.underlying205 (by decide) (key := .string ⟨#[102, 110]⟩) (val := .int .i64 1) (keyOf_string_mk Tryz.underlying9 (by decide)) (plainElem_int Tryz.underlying3 (by decide))
  have h1 : Hid (w1.ownsMap Tryz.prog 9 (plainElem (H := Unit) Tryz.prog 3) w.heap.size 1 (dK 1) ∧ Below w.heap.size w w1 ∧ ∀ l, Look (dK 1) l (bK 1 l)) := ⟨o1, h0.out.2.1.grown g1 h0.out.2.1.size (fun j hj => by cases hj; exact Nat.le_refl _), fun l => (h0.out.2.2 l).put [102, 110] 1 (by decide)⟩
  clear o1 g1 h0
  obtain ⟨w2, r2, o2, g2⟩ := h1.out.1.update lawK Tryz.underlying205 (by decide) (key := .string ⟨#[108, 101, 116]⟩) (val := .int .i64 2) (keyOf_string_mk Tryz.underlying9 (by decide)) (plainElem_int Tryz.underlying3 (by decide))
  have h2 : Hid (w2.ownsMap Tryz.prog 9 (plainElem (H := Unit) Tryz.prog 3) w.heap.size 2 (dK 2) ∧ Below w.heap.size w w2 ∧ ∀ l, Look (dK 2) l (bK 2 l)) := ⟨o2, h1.out.2.1.grown g2 h1.out.2.1.size (fun j hj => by cases hj; exact Nat.le_refl _), fun l => (h1.out.2.2 l).put [108, 101, 116] 2 (by decide)⟩
  clear o2 g2 h1
  obtain ⟨w3, r3, o3, g3⟩ := h2.out.1.update lawK Tryz.underlying205 (by decide) (key := .string ⟨#[105, 102]⟩) (val := .int .i64 3) (keyOf_string_mk Tryz.underlying9 (by decide)) (plainElem_int Tryz.underlying3 (by decide))
  have h3 : Hid (w3.ownsMap Tryz.prog 9 (plainElem (H := Unit) Tryz.prog 3) w.heap.size 3 (dK 3) ∧ Below w.heap.size w w3 ∧ ∀ l, Look (dK 3) l (bK 3 l)) := ⟨o3, h2.out.2.1.grown g3 h2.out.2.1.size (fun j hj => by cases hj; exact Nat.le_refl _), fun l => (h2.out.2.2 l).put [105, 102] 3 (by decide)⟩
  clear o3 g3 h2
  obtain ⟨w4, r4, o4, g4⟩ := h3.out.1.update lawK Tryz.underlying205 (by decide) (key := .string ⟨#[101, 108, 115, 101]⟩) (val := .int .i64 4) (keyOf_string_mk Tryz.underlying9 (by decide)) (plainElem_int Tryz.underlying3 (by decide))
  have h4 : Hid (w4.ownsMap Tryz.prog 9 (plainElem (H := Unit) Tryz.prog 3) w.heap.size 4 (dK 4) ∧ Below w.heap.size w w4 ∧ ∀ l, Look (dK 4) l (bK 4 l)) := ⟨o4, h3.out.2.1.grown g4 h3.out.2.1.size (fun j hj => by cases hj; exact Nat.le_refl _), fun l => (h3.out.2.2 l).put [101, 108, 115, 101] 4 (by decide)⟩
  clear o4 g4 h3
  obtain ⟨w5, r5, o5, g5⟩ := h4.out.1.update lawK Tryz.underlying205 (by decide) (key := .string ⟨#[119, 104, 105, 108, 101]⟩) (val := .int .i64 5) (keyOf_string_mk Tryz.underlying9 (by decide)) (plainElem_int Tryz.underlying3 (by decide))
  have h5 : Hid (w5.ownsMap Tryz.prog 9 (plainElem (H := Unit) Tryz.prog 3) w.heap.size 5 (dK 5) ∧ Below w.heap.size w w5 ∧ ∀ l, Look (dK 5) l (bK 5 l)) := ⟨o5, h4.out.2.1.grown g5 h4.out.2.1.size (fun j hj => by cases hj; exact Nat.le_refl _), fun l => (h4.out.2.2 l).put [119, 104, 105, 108, 101] 5 (by decide)⟩
  clear o5 g5 h4
  obtain ⟨w6, r6, o6, g6⟩ := h5.out.1.update lawK Tryz.underlying205 (by decide) (key := .string ⟨#[112, 114, 105, 110, 116]⟩) (val := .int .i64 6) (keyOf_string_mk Tryz.underlying9 (by decide)) (plainElem_int Tryz.underlying3 (by decide))
  have h6 : Hid (w6.ownsMap Tryz.prog 9 (plainElem (H := Unit) Tryz.prog 3) w.heap.size 6 (dK 6) ∧ Below w.heap.size w w6 ∧ ∀ l, Look (dK 6) l (bK 6 l)) := ⟨o6, h5.out.2.1.grown g6 h5.out.2.1.size (fun j hj => by cases hj; exact Nat.le_refl _), fun l => (h5.out.2.2 l).put [112, 114, 105, 110, 116] 6 (by decide)⟩
  clear o6 g6 h5
  obtain ⟨w7, r7, o7, g7⟩ := h6.out.1.update lawK Tryz.underlying205 (by decide) (key := .string ⟨#[100, 111]⟩) (val := .int .i64 7) (keyOf_string_mk Tryz.underlying9 (by decide)) (plainElem_int Tryz.underlying3 (by decide))
  have h7 : Hid (w7.ownsMap Tryz.prog 9 (plainElem (H := Unit) Tryz.prog 3) w.heap.size 7 (dK 7) ∧ Below w.heap.size w w7 ∧ ∀ l, Look (dK 7) l (bK 7 l)) := ⟨o7, h6.out.2.1.grown g7 h6.out.2.1.size (fun j hj => by cases hj; exact Nat.le_refl _), fun l => (h6.out.2.2 l).put [100, 111] 7 (by decide)⟩
  clear o7 g7 h6
  obtain ⟨w8, r8, o8, g8⟩ := h7.out.1.update lawK Tryz.underlying205 (by decide) (key := .string ⟨#[110, 101, 119]⟩) (val := .int .i64 8) (keyOf_string_mk Tryz.underlying9 (by decide)) (plainElem_int Tryz.underlying3 (by decide))
  have h8 : Hid (w8.ownsMap Tryz.prog 9 (plainElem (H := Unit) Tryz.prog 3) w.heap.size 8 (dK 8) ∧ Below w.heap.size w w8 ∧ ∀ l, Look (dK 8) l (bK 8 l)) := ⟨o8, h7.out.2.1.grown g8 h7.out.2.1.size (fun j hj => by cases hj; exact Nat.le_refl _), fun l => (h7.out.2.2 l).put [110, 101, 119] 8 (by decide)⟩
  clear o8 g8 h7
  obtain ⟨w9, r9, o9, g9⟩ := h8.out.1.update lawK Tryz.underlying205 (by decide) (key := .string ⟨#[99, 108, 111, 110, 101]⟩) (val := .int .i64 9) (keyOf_string_mk Tryz.underlying9 (by decide)) (plainElem_int Tryz.underlying3 (by decide))
  have h9 : Hid (w9.ownsMap Tryz.prog 9 (plainElem (H := Unit) Tryz.prog 3) w.heap.size 9 (dK 9) ∧ Below w.heap.size w w9 ∧ ∀ l, Look (dK 9) l (bK 9 l)) := ⟨o9, h8.out.2.1.grown g9 h8.out.2.1.size (fun j hj => by cases hj; exact Nat.le_refl _), fun l => (h8.out.2.2 l).put [99, 108, 111, 110, 101] 9 (by decide)⟩
  clear o9 g9 h8
  obtain ⟨w10, r10, o10, g10⟩ := h9.out.1.update lawK Tryz.underlying205 (by decide) (key := .string ⟨#[109, 117, 116]⟩) (val := .int .i64 10) (keyOf_string_mk Tryz.underlying9 (by decide)) (plainElem_int Tryz.underlying3 (by decide))
  have h10 : Hid (w10.ownsMap Tryz.prog 9 (plainElem (H := Unit) Tryz.prog 3) w.heap.size 10 (dK 10) ∧ Below w.heap.size w w10 ∧ ∀ l, Look (dK 10) l (bK 10 l)) := ⟨o10, h9.out.2.1.grown g10 h9.out.2.1.size (fun j hj => by cases hj; exact Nat.le_refl _), fun l => (h9.out.2.2 l).put [109, 117, 116] 10 (by decide)⟩
  clear o10 g10 h9
  obtain ⟨w11, r11, o11, g11⟩ := h10.out.1.update lawK Tryz.underlying205 (by decide) (key := .string ⟨#[105, 110, 112, 117, 116]⟩) (val := .int .i64 11) (keyOf_string_mk Tryz.underlying9 (by decide)) (plainElem_int Tryz.underlying3 (by decide))
  have h11 : Hid (w11.ownsMap Tryz.prog 9 (plainElem (H := Unit) Tryz.prog 3) w.heap.size 11 (dK 11) ∧ Below w.heap.size w w11 ∧ ∀ l, Look (dK 11) l (bK 11 l)) := ⟨o11, h10.out.2.1.grown g11 h10.out.2.1.size (fun j hj => by cases hj; exact Nat.le_refl _), fun l => (h10.out.2.2 l).put [105, 110, 112, 117, 116] 11 (by decide)⟩
  clear o11 g11 h10
  obtain ⟨w12, r12, o12, g12⟩ := h11.out.1.update lawK Tryz.underlying205 (by decide) (key := .string ⟨#[105, 110, 116]⟩) (val := .int .i64 12) (keyOf_string_mk Tryz.underlying9 (by decide)) (plainElem_int Tryz.underlying3 (by decide))
  have h12 : Hid (w12.ownsMap Tryz.prog 9 (plainElem (H := Unit) Tryz.prog 3) w.heap.size 12 (dK 12) ∧ Below w.heap.size w w12 ∧ ∀ l, Look (dK 12) l (bK 12 l)) := ⟨o12, h11.out.2.1.grown g12 h11.out.2.1.size (fun j hj => by cases hj; exact Nat.le_refl _), fun l => (h11.out.2.2 l).put [105, 110, 116] 12 (by decide)⟩
  clear o12 g12 h11
  obtain ⟨w13, r13, o13, g13⟩ := h12.out.1.update lawK Tryz.underlying205 (by decide) (key := .string ⟨#[98, 111, 120]⟩) (val := .int .i64 13) (keyOf_string_mk Tryz.underlying9 (by decide)) (plainElem_int Tryz.underlying3 (by decide))
  have h13 : Hid (w13.ownsMap Tryz.prog 9 (plainElem (H := Unit) Tryz.prog 3) w.heap.size 13 (dK 13) ∧ Below w.heap.size w w13 ∧ ∀ l, Look (dK 13) l (bK 13 l)) := ⟨o13, h12.out.2.1.grown g13 h12.out.2.1.size (fun j hj => by cases hj; exact Nat.le_refl _), fun l => (h12.out.2.2 l).put [98, 111, 120] 13 (by decide)⟩
  clear o13 g13 h12
  obtain ⟨w14, r14, o14, g14⟩ := h13.out.1.update lawK Tryz.underlying205 (by decide) (key := .string ⟨#[114, 101, 116]⟩) (val := .int .i64 14) (keyOf_string_mk Tryz.underlying9 (by decide)) (plainElem_int Tryz.underlying3 (by decide))
  have h14 : Hid (w14.ownsMap Tryz.prog 9 (plainElem (H := Unit) Tryz.prog 3) w.heap.size 14 (dK 14) ∧ Below w.heap.size w w14 ∧ ∀ l, Look (dK 14) l (bK 14 l)) := ⟨o14, h13.out.2.1.grown g14 h13.out.2.1.size (fun j hj => by cases hj; exact Nat.le_refl _), fun l => (h13.out.2.2 l).put [114, 101, 116] 14 (by decide)⟩
  clear o14 g14 h13
  go_enter Tryz.func191, Tryz.ntmps191
  go_wp2
  go_ret
  refine ⟨rfl, h14.out.2.1, _, h14.out.1, fun l => ?_⟩
  have := h14.out.2.2 l
  simpa [keys, bK, Bool.or_assoc] using this

theorem isKey_data (s : ByteArray) : isKey s = keys.any fun k => k.data.toList == s.data.toList := by
  unfold isKey
  congr 1
  funext k
  simp [ByteArray.toList_eq]

theorem isKey_size {s : ByteArray} (h : isKey s = true) : 2 ≤ s.size ∧ s.size ≤ 5 := by
  rw [isKey_data, List.any_eq_true] at h
  obtain ⟨k, hk, he⟩ := h
  have e : k.data.toList.length = s.data.toList.length := by rw [eq_of_beq he]
  have a : ∀ k ∈ keys, 2 ≤ k.data.toList.length ∧ k.data.toList.length ≤ 5 := by decide
  have hs : s.data.toList.length = s.size := by simp
  have := a k hk
  omega

set_option maxHeartbeats 800000 in
theorem implKeyWord_any (s : ByteArray) (w : World) (hs : s.size ≤ maxLen) :
    Calls Tryz.prog 168 #[.string s] w fun e w' => e = .returned (.bool (isKey s)) ∧ Below w.heap.size w w' := by
  by_cases a1 : 2 ≤ s.size
  · by_cases a2 : s.size ≤ 5
    · go_enter Tryz.func168, Tryz.ntmps168
      go_wp2_with fail
      go_at_call 191
      refine (keyWords_any _).mono ?_
      rintro e w1 ⟨rfl, h1⟩
      obtain ⟨D, hD⟩ : ∃ D : DataW Unit, Hid (w1.ownsMap Tryz.prog 9 (plainElem Tryz.prog 3) w.heap.size 14 D ∧ ∀ l, Look D l (keys.any fun k => k.data.toList == l)) := by
        obtain ⟨D, h⟩ := h1.out.2
        exact ⟨D, h⟩
      obtain ⟨c, hrun, hat, hwc⟩ := hD.out.1.lookup_int lawK Tryz.underlying205 Tryz.underlying3 (zeroI _) (keyOf_string_mk Tryz.underlying9 hs)
      have hcb : Hid (decide (0 < c) = isKey s) := by
        obtain ⟨_, c', h2, h3⟩ := hD.out.2 s.data.toList
        rw [h2] at hat
        cases hat
        rw [isKey_data]
        exact h3
      clear hat hwc
      by_cases h0 : 0 < c
      · go_wp2
        go_ret
        exact ⟨by rw [← hcb.out]; simp [h0], h1.out.1⟩
      · go_wp2
        go_ret
        exact ⟨by rw [← hcb.out]; simp, h1.out.1⟩
    · have hk : isKey s = false := by
        rw [Bool.eq_false_iff]
        exact fun h => a2 (isKey_size h).2
      rw [hk]
      go_enter Tryz.func168, Tryz.ntmps168
      go_wp2
      go_ret
      exact ⟨rfl, Below.refl _ _⟩
  · have hk : isKey s = false := by
      rw [Bool.eq_false_iff]
      exact fun h => a1 (isKey_size h).1
    rw [hk]
    go_enter Tryz.func168, Tryz.ntmps168
    go_wp2
    go_ret
    exact ⟨rfl, Below.refl _ _⟩

end Go.Proofs.YtbanmldmdoedkaaGreatDoor

namespace Go.Proofs.YtbanmldmdoedkaaGreatDoor
open Go.RowKit

def letR (r : Int) : Bool := decide (97 ≤ r) && decide (r ≤ 122)
def figR (r : Int) : Bool := decide (48 ≤ r) && decide (r ≤ 57)
def lfR (r : Int) : Bool := letR r || figR r

theorem letter_any (r : Int) (w : World) :
    Calls Tryz.prog 160 #[.int .i32 r] w fun e w' => e = .returned (.bool (letR r)) ∧ w' = w := by
  go_enter Tryz.func160, Tryz.ntmps160
  by_cases h1 : 97 ≤ r
  · by_cases h2 : r ≤ 122
    · go_wp2
      go_ret
      exact ⟨by simp [letR, h1, h2], rfl⟩
    · go_wp2
      go_ret
      exact ⟨by simp [letR, h2], rfl⟩
  · go_wp2
    go_ret
    exact ⟨by simp [letR]; omega, rfl⟩

theorem figure_any (r : Int) (w : World) :
    Calls Tryz.prog 118 #[.int .i32 r] w fun e w' => e = .returned (.bool (figR r)) ∧ w' = w := by
  go_enter Tryz.func118, Tryz.ntmps118
  by_cases h1 : 48 ≤ r
  · by_cases h2 : r ≤ 57
    · go_wp2
      go_ret
      exact ⟨by simp [figR, h1, h2], rfl⟩
    · go_wp2
      go_ret
      exact ⟨by simp [figR, h2], rfl⟩
  · go_wp2
    go_ret
    exact ⟨by simp [figR]; omega, rfl⟩

theorem letterOrFigure_any (r : Int) (w : World) :
    Calls Tryz.prog 161 #[.int .i32 r] w fun e w' => e = .returned (.bool (lfR r)) ∧ w' = w := by
  have hl := fun w => letter_any r w
  have hf := fun w => figure_any r w
  go_enter Tryz.func161, Tryz.ntmps161
  cases hb : letR r
  · rw [hb] at hl
    go_wp2_with (first | (go_at_call 160; refine (hl _).mono ?_; rintro e w1 ⟨rfl, rfl⟩) | (go_at_call 118; refine (hf _).mono ?_; rintro e w2 ⟨rfl, rfl⟩))
    go_ret
    exact ⟨by simp [lfR, hb], rfl⟩
  · rw [hb] at hl
    go_wp2_with (go_at_call 160; refine (hl _).mono ?_; rintro e w1 ⟨rfl, rfl⟩)
    go_ret
    exact ⟨by simp [lfR, hb], rfl⟩

/-- How many bytes at the head hold throughout. -/
def runLen (p : Int → Bool) (l : List UInt8) : Nat := (l.takeWhile fun c => p (c.toNat : Int)).length

theorem takeWhile_whole {p : UInt8 → Bool} : ∀ (l : List UInt8), (∀ x ∈ l, p x = true) → l.takeWhile p = l
  | [], _ => rfl
  | c :: r, h => by
    rw [List.takeWhile, h c (by simp), takeWhile_whole r (fun x hx => h x (by simp [hx]))]

theorem runLen_end {p : Int → Bool} {s : ByteArray} {k : Nat} (hk : k = s.size) (h : ∀ j (hj : j < s.size), j < k → p (s[j].toNat : Int) = true) : runLen p s.data.toList = k := by
  unfold runLen
  rw [takeWhile_whole]
  · rw [hk]; rfl
  · intro x hx
    obtain ⟨j, hj, rfl⟩ := List.getElem_of_mem hx
    have hj' : j < s.size := by simpa using hj
    exact h j hj' (by omega)

theorem takeWhile_cut {p : UInt8 → Bool} : ∀ (l : List UInt8) (k : Nat) (hk : k < l.length), (∀ j (hj : j < l.length), j < k → p l[j] = true) → p l[k] = false → (l.takeWhile p).length = k
  | [], k, hk, _, _ => by simp at hk
  | c :: r, 0, _, _, hf => by
    have : p c = false := hf
    simp [List.takeWhile, this]
  | c :: r, k + 1, hk, ht, hf => by
    have h0 : p c = true := ht 0 (by simp) (by omega)
    have ih := takeWhile_cut r k (by simpa using hk) (fun j hj hlt => ht (j + 1) (by simpa using hj) (by omega)) (by simpa using hf)
    simp [List.takeWhile, h0, ih]

theorem runLen_cut {p : Int → Bool} {s : ByteArray} {k : Nat} (hk : k < s.size) (h : ∀ j (hj : j < s.size), j < k → p (s[j].toNat : Int) = true) (hf : p (s[k].toNat : Int) = false) : runLen p s.data.toList = k :=
  takeWhile_cut s.data.toList k (by simpa using hk) (fun j hj hlt => h j (by simpa using hj) hlt) hf

theorem high_letR (r : Int) (h : 128 ≤ r) : letR r = false := by simp [letR]; omega
theorem high_figR (r : Int) (h : 128 ≤ r) : figR r = false := by simp [figR]; omega
theorem high_lfR (r : Int) (h : 128 ≤ r) : lfR r = false := by simp [lfR, high_letR r h, high_figR r h]

set_option maxRecDepth 100000 in
set_option maxHeartbeats 800000 in
theorem runAhead_letter (s : ByteArray) (w : World) :
    Calls Tryz.prog 117 #[.string s, .func (.func 160) #[] #[]] w fun e w' => e = .returned (.int .i64 (runLen letR s.data.toList : Int)) ∧ Below w.heap.size w w' := by
  go_enter Tryz.func117, Tryz.ntmps117
  go_wp2
  go_loopw [5] (fun _ wr => ∃ k : Nat, k ≤ s.size ∧ wr = w.iter s k ∧ Hid (∀ j (hj : j < s.size), j < k → letR (s[j].toNat : Int) = true)) (fun _ wr => s.size - wr.iterPos w.heap.size)
  case atStart => exact ⟨0, Nat.zero_le _, rfl, fun j _ hj => by omega⟩
  case round =>
    obtain ⟨k, hk, rfl, HK⟩ := hrel
    have hbel : Hid (∀ q, Below w.heap.size w (w.iter s q)) := fun q => (Below.refl _ _).alloc (Nat.le_refl _) _
    by_cases hlt : k < s.size
    · obtain ⟨c, hc⟩ : ∃ c : Int, Hid ((s[k].toNat : Int) = c) := ⟨_, (rfl : (s[k].toNat : Int) = (s[k].toNat : Int))⟩
      obtain ⟨r, q, hrq, hr⟩ : ∃ (r : Int) (q : Nat), Hid (((Utf8.decode s k).1 : Int) = r ∧ (Utf8.decode s k).2 = q) ∧ Hid (letR r = letR c ∧ (letR r = true → q = 1)) := by
        refine ⟨_, _, ⟨rfl, rfl⟩, ?_⟩
        by_cases ha : s[k].toNat < 128
        · rw [decode_ascii s k hlt ha]
          exact ⟨by rw [← hc.out], fun _ => rfl⟩
        · have hd := decode_high s k hlt (by omega)
          have h1 : letR ((Utf8.decode s k).1 : Int) = false := high_letR _ (by omega)
          have h2 : letR c = false := high_letR _ (by rw [← hc.out]; omega)
          exact ⟨by rw [h1, h2], fun h => by rw [h1] at h; cases h⟩
      have hnx : ∀ ty, (Instr.next (.pointer (some ⟨w.heap.size, 0, none⟩)) true ty).run Tryz.prog (w.iter s k) = .ok (.tuple #[.bool true, .int .i64 k, .int .i32 r]) (w.iter s (k + q)) := fun ty => by
        rw [← hrq.out.1, ← hrq.out.2]
        exact run_next_any w s k ty hlt
      cases hb : letR r
      · have hcF : ∀ W, Calls Tryz.prog 160 #[.int .i32 r] W fun e w' => e = .returned (.bool false) ∧ w' = W := fun W => by rw [← hb]; exact letter_any r W
        have hend : Hid (runLen letR s.data.toList = k) := runLen_cut hlt HK.out (by rw [hc.out, ← hr.out.1]; exact hb)
        go_wp2_with (go_at_call 160; refine (hcF _).mono ?_; rintro e w1 ⟨rfl, rfl⟩)
        go_ret
        exact ⟨by rw [hend.out]; rfl, hbel.out _⟩
      · have hcF : ∀ W, Calls Tryz.prog 160 #[.int .i32 r] W fun e w' => e = .returned (.bool true) ∧ w' = W := fun W => by rw [← hb]; exact letter_any r W
        have hq1 := hr.out.2 hb
        subst hq1
        go_wp2_with (go_at_call 160; refine (hcF _).mono ?_; rintro e w1 ⟨rfl, rfl⟩)
        go_roundw
        case rel =>
          refine ⟨k + 1, by omega, rfl, fun j hj hjk => ?_⟩
          by_cases e : j = k
          · subst e
            rw [hc.out, ← hr.out.1]
            exact hb
          · exact HK.out j hj (by omega)
        case measure => simp; omega
    · have hke : Hid (k = s.size) := (by omega : k = s.size)
      have hnx : ∀ ty, (Instr.next (.pointer (some ⟨w.heap.size, 0, none⟩)) true ty).run Tryz.prog (w.iter s k) = _ := fun ty => run_next_end w s k ty hlt
      have hend : Hid (runLen letR s.data.toList = k) := runLen_end hke.out HK.out
      go_wp2
      go_ret
      exact ⟨by rw [hend.out, hke.out]; rfl, hbel.out _⟩

set_option maxRecDepth 100000 in
set_option maxHeartbeats 800000 in
theorem runAhead_letterOrFigure (s : ByteArray) (w : World) :
    Calls Tryz.prog 117 #[.string s, .func (.func 161) #[] #[]] w fun e w' => e = .returned (.int .i64 (runLen lfR s.data.toList : Int)) ∧ Below w.heap.size w w' := by
  go_enter Tryz.func117, Tryz.ntmps117
  go_wp2
  go_loopw [5] (fun _ wr => ∃ k : Nat, k ≤ s.size ∧ wr = w.iter s k ∧ Hid (∀ j (hj : j < s.size), j < k → lfR (s[j].toNat : Int) = true)) (fun _ wr => s.size - wr.iterPos w.heap.size)
  case atStart => exact ⟨0, Nat.zero_le _, rfl, fun j _ hj => by omega⟩
  case round =>
    obtain ⟨k, hk, rfl, HK⟩ := hrel
    have hbel : Hid (∀ q, Below w.heap.size w (w.iter s q)) := fun q => (Below.refl _ _).alloc (Nat.le_refl _) _
    by_cases hlt : k < s.size
    · obtain ⟨c, hc⟩ : ∃ c : Int, Hid ((s[k].toNat : Int) = c) := ⟨_, (rfl : (s[k].toNat : Int) = (s[k].toNat : Int))⟩
      obtain ⟨r, q, hrq, hr⟩ : ∃ (r : Int) (q : Nat), Hid (((Utf8.decode s k).1 : Int) = r ∧ (Utf8.decode s k).2 = q) ∧ Hid (lfR r = lfR c ∧ (lfR r = true → q = 1)) := by
        refine ⟨_, _, ⟨rfl, rfl⟩, ?_⟩
        by_cases ha : s[k].toNat < 128
        · rw [decode_ascii s k hlt ha]
          exact ⟨by rw [← hc.out], fun _ => rfl⟩
        · have hd := decode_high s k hlt (by omega)
          have h1 : lfR ((Utf8.decode s k).1 : Int) = false := high_lfR _ (by omega)
          have h2 : lfR c = false := high_lfR _ (by rw [← hc.out]; omega)
          exact ⟨by rw [h1, h2], fun h => by rw [h1] at h; cases h⟩
      have hnx : ∀ ty, (Instr.next (.pointer (some ⟨w.heap.size, 0, none⟩)) true ty).run Tryz.prog (w.iter s k) = .ok (.tuple #[.bool true, .int .i64 k, .int .i32 r]) (w.iter s (k + q)) := fun ty => by
        rw [← hrq.out.1, ← hrq.out.2]
        exact run_next_any w s k ty hlt
      cases hb : lfR r
      · have hcF : ∀ W, Calls Tryz.prog 161 #[.int .i32 r] W fun e w' => e = .returned (.bool false) ∧ w' = W := fun W => by rw [← hb]; exact letterOrFigure_any r W
        have hend : Hid (runLen lfR s.data.toList = k) := runLen_cut hlt HK.out (by rw [hc.out, ← hr.out.1]; exact hb)
        go_wp2_with (go_at_call 161; refine (hcF _).mono ?_; rintro e w1 ⟨rfl, rfl⟩)
        go_ret
        exact ⟨by rw [hend.out]; rfl, hbel.out _⟩
      · have hcF : ∀ W, Calls Tryz.prog 161 #[.int .i32 r] W fun e w' => e = .returned (.bool true) ∧ w' = W := fun W => by rw [← hb]; exact letterOrFigure_any r W
        have hq1 := hr.out.2 hb
        subst hq1
        go_wp2_with (go_at_call 161; refine (hcF _).mono ?_; rintro e w1 ⟨rfl, rfl⟩)
        go_roundw
        case rel =>
          refine ⟨k + 1, by omega, rfl, fun j hj hjk => ?_⟩
          by_cases e : j = k
          · subst e
            rw [hc.out, ← hr.out.1]
            exact hb
          · exact HK.out j hj (by omega)
        case measure => simp; omega
    · have hke : Hid (k = s.size) := (by omega : k = s.size)
      have hnx : ∀ ty, (Instr.next (.pointer (some ⟨w.heap.size, 0, none⟩)) true ty).run Tryz.prog (w.iter s k) = _ := fun ty => run_next_end w s k ty hlt
      have hend : Hid (runLen lfR s.data.toList = k) := runLen_end hke.out HK.out
      go_wp2
      go_ret
      exact ⟨by rw [hend.out, hke.out]; rfl, hbel.out _⟩

set_option maxRecDepth 100000 in
set_option maxHeartbeats 800000 in
theorem runAhead_figure (s : ByteArray) (w : World) :
    Calls Tryz.prog 117 #[.string s, .func (.func 118) #[] #[]] w fun e w' => e = .returned (.int .i64 (runLen figR s.data.toList : Int)) ∧ Below w.heap.size w w' := by
  go_enter Tryz.func117, Tryz.ntmps117
  go_wp2
  go_loopw [5] (fun _ wr => ∃ k : Nat, k ≤ s.size ∧ wr = w.iter s k ∧ Hid (∀ j (hj : j < s.size), j < k → figR (s[j].toNat : Int) = true)) (fun _ wr => s.size - wr.iterPos w.heap.size)
  case atStart => exact ⟨0, Nat.zero_le _, rfl, fun j _ hj => by omega⟩
  case round =>
    obtain ⟨k, hk, rfl, HK⟩ := hrel
    have hbel : Hid (∀ q, Below w.heap.size w (w.iter s q)) := fun q => (Below.refl _ _).alloc (Nat.le_refl _) _
    by_cases hlt : k < s.size
    · obtain ⟨c, hc⟩ : ∃ c : Int, Hid ((s[k].toNat : Int) = c) := ⟨_, (rfl : (s[k].toNat : Int) = (s[k].toNat : Int))⟩
      obtain ⟨r, q, hrq, hr⟩ : ∃ (r : Int) (q : Nat), Hid (((Utf8.decode s k).1 : Int) = r ∧ (Utf8.decode s k).2 = q) ∧ Hid (figR r = figR c ∧ (figR r = true → q = 1)) := by
        refine ⟨_, _, ⟨rfl, rfl⟩, ?_⟩
        by_cases ha : s[k].toNat < 128
        · rw [decode_ascii s k hlt ha]
          exact ⟨by rw [← hc.out], fun _ => rfl⟩
        · have hd := decode_high s k hlt (by omega)
          have h1 : figR ((Utf8.decode s k).1 : Int) = false := high_figR _ (by omega)
          have h2 : figR c = false := high_figR _ (by rw [← hc.out]; omega)
          exact ⟨by rw [h1, h2], fun h => by rw [h1] at h; cases h⟩
      have hnx : ∀ ty, (Instr.next (.pointer (some ⟨w.heap.size, 0, none⟩)) true ty).run Tryz.prog (w.iter s k) = .ok (.tuple #[.bool true, .int .i64 k, .int .i32 r]) (w.iter s (k + q)) := fun ty => by
        rw [← hrq.out.1, ← hrq.out.2]
        exact run_next_any w s k ty hlt
      cases hb : figR r
      · have hcF : ∀ W, Calls Tryz.prog 118 #[.int .i32 r] W fun e w' => e = .returned (.bool false) ∧ w' = W := fun W => by rw [← hb]; exact figure_any r W
        have hend : Hid (runLen figR s.data.toList = k) := runLen_cut hlt HK.out (by rw [hc.out, ← hr.out.1]; exact hb)
        go_wp2_with (go_at_call 118; refine (hcF _).mono ?_; rintro e w1 ⟨rfl, rfl⟩)
        go_ret
        exact ⟨by rw [hend.out]; rfl, hbel.out _⟩
      · have hcF : ∀ W, Calls Tryz.prog 118 #[.int .i32 r] W fun e w' => e = .returned (.bool true) ∧ w' = W := fun W => by rw [← hb]; exact figure_any r W
        have hq1 := hr.out.2 hb
        subst hq1
        go_wp2_with (go_at_call 118; refine (hcF _).mono ?_; rintro e w1 ⟨rfl, rfl⟩)
        go_roundw
        case rel =>
          refine ⟨k + 1, by omega, rfl, fun j hj hjk => ?_⟩
          by_cases e : j = k
          · subst e
            rw [hc.out, ← hr.out.1]
            exact hb
          · exact HK.out j hj (by omega)
        case measure => simp; omega
    · have hke : Hid (k = s.size) := (by omega : k = s.size)
      have hnx : ∀ ty, (Instr.next (.pointer (some ⟨w.heap.size, 0, none⟩)) true ty).run Tryz.prog (w.iter s k) = _ := fun ty => run_next_end w s k ty hlt
      have hend : Hid (runLen figR s.data.toList = k) := runLen_end hke.out HK.out
      go_wp2
      go_ret
      exact ⟨by rw [hend.out, hke.out]; rfl, hbel.out _⟩

end Go.Proofs.YtbanmldmdoedkaaGreatDoor

namespace Go.Proofs.YtbanmldmdoedkaaGreatDoor
open Go.RowKit

theorem letR_let (c : UInt8) : letR (c.toNat : Int) = isLet c := by
  unfold letR isLet
  congr 1 <;> simp <;> omega
theorem figR_fig (c : UInt8) : figR (c.toNat : Int) = isFig c := by
  unfold figR isFig
  congr 1 <;> simp <;> omega
theorem lfR_lf (c : UInt8) : lfR (c.toNat : Int) = isLF c := by simp [lfR, isLF, letR_let, figR_fig]

/-- The length of the word that a row of bytes begins with. -/
def wordLen (l : List UInt8) : Nat := if runLen letR l = 0 then 0 else runLen lfR l

theorem runLet (l : List UInt8) : runLen letR l = (l.takeWhile isLet).length := by simp [runLen, letR_let]
theorem runFig (l : List UInt8) : runLen figR l = (l.takeWhile isFig).length := by simp [runLen, figR_fig]
theorem runLF (l : List UInt8) : runLen lfR l = (l.takeWhile isLF).length := by simp [runLen, lfR_lf]
theorem runLen_le (p : Int → Bool) (l : List UInt8) : runLen p l ≤ l.length := (List.takeWhile_sublist _).length_le
theorem wordLen_le (l : List UInt8) : wordLen l ≤ l.length := by
  unfold wordLen
  split
  · omega
  · exact runLen_le _ _
theorem wordLen_nil : wordLen [] = 0 := by simp [wordLen, runLen]
theorem wordLen_cons (c : UInt8) (r : List UInt8) : wordLen (c :: r) = if isLet c then ((c :: r).takeWhile isLF).length else 0 := by
  unfold wordLen
  rw [runLet, runLF]
  cases h : isLet c <;> simp [List.takeWhile, h]

theorem all_of_takeWhile {p : UInt8 → Bool} : ∀ (l : List UInt8), ((l.takeWhile p).length = l.length) ↔ l.all p = true
  | [] => by simp
  | c :: r => by
    have ih := all_of_takeWhile (p := p) r
    cases h : p c
    · simp [List.takeWhile, h]
    · simp only [List.takeWhile, h, List.length_cons, List.all_cons, Bool.true_and, Nat.add_right_cancel_iff]
      exact ih

theorem nameOk_word (s : ByteArray) : nameOk s = (decide (0 < s.size) && decide (s.size ≤ 8) && decide (wordLen s.data.toList = s.size) && !isKey s) := by
  have hz : s.size = s.data.toList.length := rfl
  unfold nameOk
  cases hl : s.data.toList with
  | nil =>
    rw [hl] at hz
    simp at hz
    simp [hz]
  | cons c r =>
    rw [hl] at hz
    have h1 : 0 < s.size := by rw [hz]; simp
    have h2 : 1 ≤ s.size := h1
    have h3 := all_of_takeWhile (p := isLF) (c :: r)
    rw [wordLen_cons, hz]
    cases hc : isLet c
    · simp [hc]
    · cases ha : (c :: r).all isLF
      · have : ¬ ((c :: r).takeWhile isLF).length = (c :: r).length := fun e => by rw [h3.1 e] at ha; cases ha
        simp only [if_true, this, decide_false, Bool.and_false, Bool.false_and]
      · have := h3.2 ha
        simp only [if_true, this, decide_true, Bool.and_true, List.head?_cons, Option.any_some, hc]
        simp

set_option maxHeartbeats 800000 in
theorem wordAhead_any (s : ByteArray) (w : World) :
    Calls Tryz.prog 115 #[.string s] w fun e w' => e = .returned (.int .i64 (wordLen s.data.toList : Int)) ∧ Below w.heap.size w w' := by
  go_enter Tryz.func115, Tryz.ntmps115
  obtain ⟨N, HN⟩ : ∃ N, Hid (runLen letR s.data.toList = N) := ⟨_, (rfl : runLen letR s.data.toList = runLen letR s.data.toList)⟩
  obtain ⟨M, HM⟩ : ∃ M, Hid (runLen lfR s.data.toList = M) := ⟨_, (rfl : runLen lfR s.data.toList = runLen lfR s.data.toList)⟩
  have HW : Hid (wordLen s.data.toList = if N = 0 then 0 else M) := by
    rw [← HN.out, ← HM.out]
    exact rfl
  go_wp2_with fail
  go_at_call 117
  refine (runAhead_letter s _).mono ?_
  rintro e w1 ⟨rfl, hb1⟩
  rw [HN.out]
  by_cases h0 : N = 0
  · subst h0
    go_wp2
    go_ret
    exact ⟨by rw [HW.out]; rfl, hb1⟩
  · have h0' : ¬ (N : Int) = 0 := by omega
    go_wp2_with fail
    go_at_call 117
    refine (runAhead_letterOrFigure s _).mono ?_
    rintro e w2 ⟨rfl, hb2⟩
    rw [HM.out]
    go_wp2
    go_ret
    exact ⟨by rw [HW.out, if_neg h0]; rfl, hb1.trans (hb2.mono hb1.size)⟩

set_option maxHeartbeats 800000 in
theorem implNameOk_any (s : ByteArray) (w : World) (hs : s.size ≤ maxLen) :
    Calls Tryz.prog 129 #[.string s] w fun e w' => e = .returned (.bool (nameOk s)) ∧ Below w.heap.size w w' := by
  obtain ⟨l, Hl⟩ : ∃ l, Hid (wordLen s.data.toList = l) := ⟨_, (rfl : wordLen s.data.toList = wordLen s.data.toList)⟩
  obtain ⟨k, Hk⟩ : ∃ k, Hid (isKey s = k) := ⟨_, (rfl : isKey s = isKey s)⟩
  have HB : Hid (nameOk s = (decide (0 < s.size) && decide (s.size ≤ 8) && decide (l = s.size) && !k)) := by
    rw [← Hl.out, ← Hk.out]
    exact nameOk_word s
  have hw : Hid (∀ W, Calls Tryz.prog 115 #[.string s] W fun e w' => e = .returned (.int .i64 (l : Int)) ∧ Below W.heap.size W w') := fun W => by
    rw [← Hl.out]; exact wordAhead_any s W
  have hk : Hid (∀ W, Calls Tryz.prog 168 #[.string s] W fun e w' => e = .returned (.bool k) ∧ Below W.heap.size W w') := fun W => by
    rw [← Hk.out]; exact implKeyWord_any s W hs
  by_cases h1 : 0 < s.size
  · have h1' : (0 : Int) < (s.size : Int) := by omega
    by_cases h2 : s.size ≤ 8
    · have h2' : (s.size : Int) ≤ 8 := by omega
      go_enter Tryz.func129, Tryz.ntmps129
      go_wp2_with fail
      go_at_call 115
      refine Calls.mono (hw.out _) ?_
      rintro e w1 ⟨rfl, hb1⟩
      by_cases h3 : (l : Int) = (s.size : Int)
      · have h3n : Hid (l = s.size) := (by omega : l = s.size)
        rw [h3]
        have h3' : Hid ((l : Int) = (s.size : Int)) := h3
        clear h3
        go_wp2_with fail
        go_at_call 168
        refine Calls.mono (hk.out _) ?_
        rintro e w2 ⟨rfl, hb2⟩
        cases k
        · go_wp2
          go_ret
          exact ⟨by rw [HB.out, h3n.out]; simp [h1, h2], hb1.trans (hb2.mono hb1.size)⟩
        · go_wp2
          go_ret
          exact ⟨by rw [HB.out]; simp, hb1.trans (hb2.mono hb1.size)⟩
      · have h3n : Hid (¬ l = s.size) := (by omega : ¬ l = s.size)
        go_wp2
        go_ret
        exact ⟨by rw [HB.out]; simp [h3n.out], hb1⟩
    · have h2' : ¬ (s.size : Int) ≤ 8 := by omega
      go_enter Tryz.func129, Tryz.ntmps129
      go_wp2
      go_ret
      exact ⟨by rw [HB.out]; simp [h2], Below.refl _ _⟩
  · have h1' : ¬ (0 : Int) < (s.size : Int) := by omega
    go_enter Tryz.func129, Tryz.ntmps129
    go_wp2
    go_ret
    exact ⟨by rw [HB.out]; simp [h1], Below.refl _ _⟩

end Go.Proofs.YtbanmldmdoedkaaGreatDoor
