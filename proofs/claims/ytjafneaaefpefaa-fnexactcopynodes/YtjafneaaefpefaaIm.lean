/-
  KeyWord, in the program: a map of fourteen words is made and looked into: what it answers at every text.
  Letters and figures, and what a text begins with, in the program: what each answers at every rune and every text.
  NameOk, in the program: what it answers at every text; the length of the word that a text begins with.
  Chapter 4, in the program: places, kinds, rows of kinds, what the parts take.
  Chapter 4, in the program: nodes are types behind one interface. What partOf, saysRight and takes answer, type by type. Written by mkparts.py.
  Chapter 4, in the program: what the method takes answers, type by type. Written by mktakes.py.
  Chapter 4, in the program: the kinds of a node's kids.
-/
import Derived.Test.YtjafneaaefpefaaTr
import Derived.Maps.Own
import Derived.Maps.OwnOps
import Derived.Maps.Views
import Derived.Test.YtjafneaaefpefaaRa
import Derived.Handy
import Derived.BigQuiet
import Derived.Deep.QuietTactic
import Derived.Deep.RegionHeld3
import Derived.Test.YtjafneaaefpefaaPa
namespace Go.Proofs.Ytjafneaaefpefaa
open Go.RowKit Go.Maps Go.WideMaps

/-- What a map of words answers at a word: a number above 0 or none. -/
def Look (D : DataW Unit) (l : List UInt8) (b : Bool) : Prop := IsMap D ∧ ∃ c : Int, D.atKey (.string l) (.lit (.int .i64 0)) = .lit (.int .i64 c) ∧ decide (0 < c) = b

theorem Look.none (l : List UInt8) : Look (.map []) l false := ⟨isMap_empty, 0, rfl, rfl⟩

theorem Look.put {D : DataW Unit} {l : List UInt8} {b : Bool} (h : Look D l b) (k : List UInt8) (v : Int) (hv : 0 < v) : Look (D.put (.string k) (.lit (.int .i64 v))) l (b || (k == l)) := by
  obtain ⟨hm, c, hc, hb⟩ := h
  refine ⟨hm.put _ _, ?_⟩
  by_cases e : k = l
  · subst e
    exact ⟨v, atKey_put_same hm (by simp [WideAt.IsKeyLit]) _ _, by simp [hv]⟩
  · refine ⟨c, (atKey_put_other (fun e' => e (by cases e'; rfl)) _ _).trans hc, ?_⟩
    rw [hb]
    have : (k == l) = false := by simpa using e
    simp [this]

/-- The map behind so many stores, and whether a word is among them. -/
def dK : Nat → DataW Unit
  | 0 => .map []
  | n + 1 => (dK n).put (.string ((keys.getD n ByteArray.empty).data.toList)) (.lit (.int .i64 ((n + 1 : Nat) : Int)))
def bK : Nat → List UInt8 → Bool
  | 0, _ => false
  | n + 1, l => bK n l || ((keys.getD n ByteArray.empty).data.toList == l)

theorem zeroI (w : World) : (zeroValue 3).run Try.prog w = .ok (.int .i64 0) w := by kernel_rfl
theorem lawK : Keyed Try.prog 9 := string_keyed Try.underlying9

set_option maxRecDepth 100000 in
set_option maxHeartbeats 800000 in
theorem keyWords_any (w : World) :
    Calls Try.prog 50 #[] w fun e w' => e = .returned (.map (some w.heap.size)) ∧ Hid (Below w.heap.size w w' ∧ ∃ D : DataW Unit, w'.ownsMap Try.prog 9 (plainElem Try.prog 3) w.heap.size 14 D ∧ ∀ l, Look D l (keys.any fun k => k.data.toList == l)) := by
  have hmm := @run_makeMap Try.prog
  have h0 : Hid ((w.alloc (.map #[] 0)).ownsMap Try.prog 9 (plainElem (H := Unit) Try.prog 3) w.heap.size 0 (dK 0) ∧ Below w.heap.size w (w.alloc (.map #[] 0)) ∧ ∀ l, Look (dK 0) l (bK 0 l)) := ⟨World.ownsMap_made _ _ _ _, (Below.refl _ _).alloc (Nat.le_refl _) _, Look.none⟩
  obtain ⟨w1, r1, o1, g1⟩ := h0.out.1.update lawK Try.underlying62 (by decide) (key := .string ⟨#[102, 110]⟩) (val := .int .i64 1) (keyOf_string_mk Try.underlying9 (by decide)) (plainElem_int Try.underlying3 (by decide))
  have h1 : Hid (w1.ownsMap Try.prog 9 (plainElem (H := Unit) Try.prog 3) w.heap.size 1 (dK 1) ∧ Below w.heap.size w w1 ∧ ∀ l, Look (dK 1) l (bK 1 l)) := ⟨o1, h0.out.2.1.grown g1 h0.out.2.1.size (fun j hj => by cases hj; exact Nat.le_refl _), fun l => (h0.out.2.2 l).put [102, 110] 1 (by decide)⟩
  clear o1 g1 h0
  obtain ⟨w2, r2, o2, g2⟩ := h1.out.1.update lawK Try.underlying62 (by decide) (key := .string ⟨#[108, 101, 116]⟩) (val := .int .i64 2) (keyOf_string_mk Try.underlying9 (by decide)) (plainElem_int Try.underlying3 (by decide))
  have h2 : Hid (w2.ownsMap Try.prog 9 (plainElem (H := Unit) Try.prog 3) w.heap.size 2 (dK 2) ∧ Below w.heap.size w w2 ∧ ∀ l, Look (dK 2) l (bK 2 l)) := ⟨o2, h1.out.2.1.grown g2 h1.out.2.1.size (fun j hj => by cases hj; exact Nat.le_refl _), fun l => (h1.out.2.2 l).put [108, 101, 116] 2 (by decide)⟩
  clear o2 g2 h1
  obtain ⟨w3, r3, o3, g3⟩ := h2.out.1.update lawK Try.underlying62 (by decide) (key := .string ⟨#[105, 102]⟩) (val := .int .i64 3) (keyOf_string_mk Try.underlying9 (by decide)) (plainElem_int Try.underlying3 (by decide))
  have h3 : Hid (w3.ownsMap Try.prog 9 (plainElem (H := Unit) Try.prog 3) w.heap.size 3 (dK 3) ∧ Below w.heap.size w w3 ∧ ∀ l, Look (dK 3) l (bK 3 l)) := ⟨o3, h2.out.2.1.grown g3 h2.out.2.1.size (fun j hj => by cases hj; exact Nat.le_refl _), fun l => (h2.out.2.2 l).put [105, 102] 3 (by decide)⟩
  clear o3 g3 h2
  obtain ⟨w4, r4, o4, g4⟩ := h3.out.1.update lawK Try.underlying62 (by decide) (key := .string ⟨#[101, 108, 115, 101]⟩) (val := .int .i64 4) (keyOf_string_mk Try.underlying9 (by decide)) (plainElem_int Try.underlying3 (by decide))
  have h4 : Hid (w4.ownsMap Try.prog 9 (plainElem (H := Unit) Try.prog 3) w.heap.size 4 (dK 4) ∧ Below w.heap.size w w4 ∧ ∀ l, Look (dK 4) l (bK 4 l)) := ⟨o4, h3.out.2.1.grown g4 h3.out.2.1.size (fun j hj => by cases hj; exact Nat.le_refl _), fun l => (h3.out.2.2 l).put [101, 108, 115, 101] 4 (by decide)⟩
  clear o4 g4 h3
  obtain ⟨w5, r5, o5, g5⟩ := h4.out.1.update lawK Try.underlying62 (by decide) (key := .string ⟨#[119, 104, 105, 108, 101]⟩) (val := .int .i64 5) (keyOf_string_mk Try.underlying9 (by decide)) (plainElem_int Try.underlying3 (by decide))
  have h5 : Hid (w5.ownsMap Try.prog 9 (plainElem (H := Unit) Try.prog 3) w.heap.size 5 (dK 5) ∧ Below w.heap.size w w5 ∧ ∀ l, Look (dK 5) l (bK 5 l)) := ⟨o5, h4.out.2.1.grown g5 h4.out.2.1.size (fun j hj => by cases hj; exact Nat.le_refl _), fun l => (h4.out.2.2 l).put [119, 104, 105, 108, 101] 5 (by decide)⟩
  clear o5 g5 h4
  obtain ⟨w6, r6, o6, g6⟩ := h5.out.1.update lawK Try.underlying62 (by decide) (key := .string ⟨#[112, 114, 105, 110, 116]⟩) (val := .int .i64 6) (keyOf_string_mk Try.underlying9 (by decide)) (plainElem_int Try.underlying3 (by decide))
  have h6 : Hid (w6.ownsMap Try.prog 9 (plainElem (H := Unit) Try.prog 3) w.heap.size 6 (dK 6) ∧ Below w.heap.size w w6 ∧ ∀ l, Look (dK 6) l (bK 6 l)) := ⟨o6, h5.out.2.1.grown g6 h5.out.2.1.size (fun j hj => by cases hj; exact Nat.le_refl _), fun l => (h5.out.2.2 l).put [112, 114, 105, 110, 116] 6 (by decide)⟩
  clear o6 g6 h5
  obtain ⟨w7, r7, o7, g7⟩ := h6.out.1.update lawK Try.underlying62 (by decide) (key := .string ⟨#[100, 111]⟩) (val := .int .i64 7) (keyOf_string_mk Try.underlying9 (by decide)) (plainElem_int Try.underlying3 (by decide))
  have h7 : Hid (w7.ownsMap Try.prog 9 (plainElem (H := Unit) Try.prog 3) w.heap.size 7 (dK 7) ∧ Below w.heap.size w w7 ∧ ∀ l, Look (dK 7) l (bK 7 l)) := ⟨o7, h6.out.2.1.grown g7 h6.out.2.1.size (fun j hj => by cases hj; exact Nat.le_refl _), fun l => (h6.out.2.2 l).put [100, 111] 7 (by decide)⟩
  clear o7 g7 h6
  obtain ⟨w8, r8, o8, g8⟩ := h7.out.1.update lawK Try.underlying62 (by decide) (key := .string ⟨#[110, 101, 119]⟩) (val := .int .i64 8) (keyOf_string_mk Try.underlying9 (by decide)) (plainElem_int Try.underlying3 (by decide))
  have h8 : Hid (w8.ownsMap Try.prog 9 (plainElem (H := Unit) Try.prog 3) w.heap.size 8 (dK 8) ∧ Below w.heap.size w w8 ∧ ∀ l, Look (dK 8) l (bK 8 l)) := ⟨o8, h7.out.2.1.grown g8 h7.out.2.1.size (fun j hj => by cases hj; exact Nat.le_refl _), fun l => (h7.out.2.2 l).put [110, 101, 119] 8 (by decide)⟩
  clear o8 g8 h7
  obtain ⟨w9, r9, o9, g9⟩ := h8.out.1.update lawK Try.underlying62 (by decide) (key := .string ⟨#[99, 108, 111, 110, 101]⟩) (val := .int .i64 9) (keyOf_string_mk Try.underlying9 (by decide)) (plainElem_int Try.underlying3 (by decide))
  have h9 : Hid (w9.ownsMap Try.prog 9 (plainElem (H := Unit) Try.prog 3) w.heap.size 9 (dK 9) ∧ Below w.heap.size w w9 ∧ ∀ l, Look (dK 9) l (bK 9 l)) := ⟨o9, h8.out.2.1.grown g9 h8.out.2.1.size (fun j hj => by cases hj; exact Nat.le_refl _), fun l => (h8.out.2.2 l).put [99, 108, 111, 110, 101] 9 (by decide)⟩
  clear o9 g9 h8
  obtain ⟨w10, r10, o10, g10⟩ := h9.out.1.update lawK Try.underlying62 (by decide) (key := .string ⟨#[109, 117, 116]⟩) (val := .int .i64 10) (keyOf_string_mk Try.underlying9 (by decide)) (plainElem_int Try.underlying3 (by decide))
  have h10 : Hid (w10.ownsMap Try.prog 9 (plainElem (H := Unit) Try.prog 3) w.heap.size 10 (dK 10) ∧ Below w.heap.size w w10 ∧ ∀ l, Look (dK 10) l (bK 10 l)) := ⟨o10, h9.out.2.1.grown g10 h9.out.2.1.size (fun j hj => by cases hj; exact Nat.le_refl _), fun l => (h9.out.2.2 l).put [109, 117, 116] 10 (by decide)⟩
  clear o10 g10 h9
  obtain ⟨w11, r11, o11, g11⟩ := h10.out.1.update lawK Try.underlying62 (by decide) (key := .string ⟨#[105, 110, 112, 117, 116]⟩) (val := .int .i64 11) (keyOf_string_mk Try.underlying9 (by decide)) (plainElem_int Try.underlying3 (by decide))
  have h11 : Hid (w11.ownsMap Try.prog 9 (plainElem (H := Unit) Try.prog 3) w.heap.size 11 (dK 11) ∧ Below w.heap.size w w11 ∧ ∀ l, Look (dK 11) l (bK 11 l)) := ⟨o11, h10.out.2.1.grown g11 h10.out.2.1.size (fun j hj => by cases hj; exact Nat.le_refl _), fun l => (h10.out.2.2 l).put [105, 110, 112, 117, 116] 11 (by decide)⟩
  clear o11 g11 h10
  obtain ⟨w12, r12, o12, g12⟩ := h11.out.1.update lawK Try.underlying62 (by decide) (key := .string ⟨#[105, 110, 116]⟩) (val := .int .i64 12) (keyOf_string_mk Try.underlying9 (by decide)) (plainElem_int Try.underlying3 (by decide))
  have h12 : Hid (w12.ownsMap Try.prog 9 (plainElem (H := Unit) Try.prog 3) w.heap.size 12 (dK 12) ∧ Below w.heap.size w w12 ∧ ∀ l, Look (dK 12) l (bK 12 l)) := ⟨o12, h11.out.2.1.grown g12 h11.out.2.1.size (fun j hj => by cases hj; exact Nat.le_refl _), fun l => (h11.out.2.2 l).put [105, 110, 116] 12 (by decide)⟩
  clear o12 g12 h11
  obtain ⟨w13, r13, o13, g13⟩ := h12.out.1.update lawK Try.underlying62 (by decide) (key := .string ⟨#[98, 111, 120]⟩) (val := .int .i64 13) (keyOf_string_mk Try.underlying9 (by decide)) (plainElem_int Try.underlying3 (by decide))
  have h13 : Hid (w13.ownsMap Try.prog 9 (plainElem (H := Unit) Try.prog 3) w.heap.size 13 (dK 13) ∧ Below w.heap.size w w13 ∧ ∀ l, Look (dK 13) l (bK 13 l)) := ⟨o13, h12.out.2.1.grown g13 h12.out.2.1.size (fun j hj => by cases hj; exact Nat.le_refl _), fun l => (h12.out.2.2 l).put [98, 111, 120] 13 (by decide)⟩
  clear o13 g13 h12
  obtain ⟨w14, r14, o14, g14⟩ := h13.out.1.update lawK Try.underlying62 (by decide) (key := .string ⟨#[114, 101, 116]⟩) (val := .int .i64 14) (keyOf_string_mk Try.underlying9 (by decide)) (plainElem_int Try.underlying3 (by decide))
  have h14 : Hid (w14.ownsMap Try.prog 9 (plainElem (H := Unit) Try.prog 3) w.heap.size 14 (dK 14) ∧ Below w.heap.size w w14 ∧ ∀ l, Look (dK 14) l (bK 14 l)) := ⟨o14, h13.out.2.1.grown g14 h13.out.2.1.size (fun j hj => by cases hj; exact Nat.le_refl _), fun l => (h13.out.2.2 l).put [114, 101, 116] 14 (by decide)⟩
  clear o14 g14 h13
  go_enter Try.func50, Try.ntmps50
  go_wp2
  go_ret
  refine ⟨rfl, h14.out.2.1, _, h14.out.1, fun l => ?_⟩
  have := h14.out.2.2 l
  simpa [keys, bK, Bool.or_assoc] using this

theorem isKey_data (s : ByteArray) : isKey s = keys.any fun k => k.data.toList == s.data.toList := by
  unfold isKey
  congr 1
  funext k
  simp [ByteArray.toList_eq]

theorem isKey_size {s : ByteArray} (h : isKey s = true) : 2 ≤ s.size ∧ s.size ≤ 5 := by
  rw [isKey_data, List.any_eq_true] at h
  obtain ⟨k, hk, he⟩ := h
  have e : k.data.toList.length = s.data.toList.length := by rw [eq_of_beq he]
  have a : ∀ k ∈ keys, 2 ≤ k.data.toList.length ∧ k.data.toList.length ≤ 5 := by decide
  have hs : s.data.toList.length = s.size := by simp
  have := a k hk
  omega

set_option maxHeartbeats 800000 in
theorem implKeyWord_any (s : ByteArray) (w : World) (hs : s.size ≤ maxLen) :
    Calls Try.prog 16 #[.string s] w fun e w' => e = .returned (.bool (isKey s)) ∧ Below w.heap.size w w' := by
  by_cases a1 : 2 ≤ s.size
  · by_cases a2 : s.size ≤ 5
    · go_enter Try.func16, Try.ntmps16
      go_wp2_with fail
      go_at_call 50
      refine (keyWords_any _).mono ?_
      rintro e w1 ⟨rfl, h1⟩
      obtain ⟨D, hD⟩ : ∃ D : DataW Unit, Hid (w1.ownsMap Try.prog 9 (plainElem Try.prog 3) w.heap.size 14 D ∧ ∀ l, Look D l (keys.any fun k => k.data.toList == l)) := by
        obtain ⟨D, h⟩ := h1.out.2
        exact ⟨D, h⟩
      obtain ⟨c, hrun, hat, hwc⟩ := hD.out.1.lookup_int lawK Try.underlying62 Try.underlying3 (zeroI _) (keyOf_string_mk Try.underlying9 hs)
      have hcb : Hid (decide (0 < c) = isKey s) := by
        obtain ⟨_, c', h2, h3⟩ := hD.out.2 s.data.toList
        rw [h2] at hat
        cases hat
        rw [isKey_data]
        exact h3
      clear hat hwc
      by_cases h0 : 0 < c
      · go_wp2
        go_ret
        exact ⟨by rw [← hcb.out]; simp [h0], h1.out.1⟩
      · go_wp2
        go_ret
        exact ⟨by rw [← hcb.out]; simp, h1.out.1⟩
    · have hk : isKey s = false := by
        rw [Bool.eq_false_iff]
        exact fun h => a2 (isKey_size h).2
      rw [hk]
      go_enter Try.func16, Try.ntmps16
      go_wp2
      go_ret
      exact ⟨rfl, Below.refl _ _⟩
  · have hk : isKey s = false := by
      rw [Bool.eq_false_iff]
      exact fun h => a1 (isKey_size h).1
    rw [hk]
    go_enter Try.func16, Try.ntmps16
    go_wp2
    go_ret
    exact ⟨rfl, Below.refl _ _⟩

end Go.Proofs.Ytjafneaaefpefaa

namespace Go.Proofs.Ytjafneaaefpefaa
open Go.RowKit

def letR (r : Int) : Bool := decide (97 ≤ r) && decide (r ≤ 122)
def figR (r : Int) : Bool := decide (48 ≤ r) && decide (r ≤ 57)
def lfR (r : Int) : Bool := letR r || figR r

theorem letter_any (r : Int) (w : World) :
    Calls Try.prog 87 #[.int .i32 r] w fun e w' => e = .returned (.bool (letR r)) ∧ w' = w := by
  go_enter Try.func87, Try.ntmps87
  by_cases h1 : 97 ≤ r
  · by_cases h2 : r ≤ 122
    · go_wp2
      go_ret
      exact ⟨by simp [letR, h1, h2], rfl⟩
    · go_wp2
      go_ret
      exact ⟨by simp [letR, h2], rfl⟩
  · go_wp2
    go_ret
    exact ⟨by simp [letR]; omega, rfl⟩

theorem figure_any (r : Int) (w : World) :
    Calls Try.prog 104 #[.int .i32 r] w fun e w' => e = .returned (.bool (figR r)) ∧ w' = w := by
  go_enter Try.func104, Try.ntmps104
  by_cases h1 : 48 ≤ r
  · by_cases h2 : r ≤ 57
    · go_wp2
      go_ret
      exact ⟨by simp [figR, h1, h2], rfl⟩
    · go_wp2
      go_ret
      exact ⟨by simp [figR, h2], rfl⟩
  · go_wp2
    go_ret
    exact ⟨by simp [figR]; omega, rfl⟩

theorem letterOrFigure_any (r : Int) (w : World) :
    Calls Try.prog 88 #[.int .i32 r] w fun e w' => e = .returned (.bool (lfR r)) ∧ w' = w := by
  have hl := fun w => letter_any r w
  have hf := fun w => figure_any r w
  go_enter Try.func88, Try.ntmps88
  cases hb : letR r
  · rw [hb] at hl
    go_wp2_with (first | (go_at_call 87; refine (hl _).mono ?_; rintro e w1 ⟨rfl, rfl⟩) | (go_at_call 104; refine (hf _).mono ?_; rintro e w2 ⟨rfl, rfl⟩))
    go_ret
    exact ⟨by simp [lfR, hb], rfl⟩
  · rw [hb] at hl
    go_wp2_with (go_at_call 87; refine (hl _).mono ?_; rintro e w1 ⟨rfl, rfl⟩)
    go_ret
    exact ⟨by simp [lfR, hb], rfl⟩

/-- How many bytes at the head hold throughout. -/
def runLen (p : Int → Bool) (l : List UInt8) : Nat := (l.takeWhile fun c => p (c.toNat : Int)).length

theorem takeWhile_whole {p : UInt8 → Bool} : ∀ (l : List UInt8), (∀ x ∈ l, p x = true) → l.takeWhile p = l
  | [], _ => rfl
  | c :: r, h => by
    rw [List.takeWhile, h c (by simp), takeWhile_whole r (fun x hx => h x (by simp [hx]))]

theorem runLen_end {p : Int → Bool} {s : ByteArray} {k : Nat} (hk : k = s.size) (h : ∀ j (hj : j < s.size), j < k → p (s[j].toNat : Int) = true) : runLen p s.data.toList = k := by
  unfold runLen
  rw [takeWhile_whole]
  · rw [hk]; rfl
  · intro x hx
    obtain ⟨j, hj, rfl⟩ := List.getElem_of_mem hx
    have hj' : j < s.size := by simpa using hj
    exact h j hj' (by omega)

theorem takeWhile_cut {p : UInt8 → Bool} : ∀ (l : List UInt8) (k : Nat) (hk : k < l.length), (∀ j (hj : j < l.length), j < k → p l[j] = true) → p l[k] = false → (l.takeWhile p).length = k
  | [], k, hk, _, _ => by simp at hk
  | c :: r, 0, _, _, hf => by
    have : p c = false := hf
    simp [List.takeWhile, this]
  | c :: r, k + 1, hk, ht, hf => by
    have h0 : p c = true := ht 0 (by simp) (by omega)
    have ih := takeWhile_cut r k (by simpa using hk) (fun j hj hlt => ht (j + 1) (by simpa using hj) (by omega)) (by simpa using hf)
    simp [List.takeWhile, h0, ih]

theorem runLen_cut {p : Int → Bool} {s : ByteArray} {k : Nat} (hk : k < s.size) (h : ∀ j (hj : j < s.size), j < k → p (s[j].toNat : Int) = true) (hf : p (s[k].toNat : Int) = false) : runLen p s.data.toList = k :=
  takeWhile_cut s.data.toList k (by simpa using hk) (fun j hj hlt => h j (by simpa using hj) hlt) hf

theorem high_letR (r : Int) (h : 128 ≤ r) : letR r = false := by simp [letR]; omega
theorem high_figR (r : Int) (h : 128 ≤ r) : figR r = false := by simp [figR]; omega
theorem high_lfR (r : Int) (h : 128 ≤ r) : lfR r = false := by simp [lfR, high_letR r h, high_figR r h]

set_option maxRecDepth 100000 in
set_option maxHeartbeats 800000 in
theorem runAhead_letter (s : ByteArray) (w : World) :
    Calls Try.prog 86 #[.string s, .func (.func 87) #[] #[]] w fun e w' => e = .returned (.int .i64 (runLen letR s.data.toList : Int)) ∧ Below w.heap.size w w' := by
  go_enter Try.func86, Try.ntmps86
  go_wp2
  go_loopw [5] (fun _ wr => ∃ k : Nat, k ≤ s.size ∧ wr = w.iter s k ∧ Hid (∀ j (hj : j < s.size), j < k → letR (s[j].toNat : Int) = true)) (fun _ wr => s.size - wr.iterPos w.heap.size)
  case atStart => exact ⟨0, Nat.zero_le _, rfl, fun j _ hj => by omega⟩
  case round =>
    obtain ⟨k, hk, rfl, HK⟩ := hrel
    have hbel : Hid (∀ q, Below w.heap.size w (w.iter s q)) := fun q => (Below.refl _ _).alloc (Nat.le_refl _) _
    by_cases hlt : k < s.size
    · obtain ⟨c, hc⟩ : ∃ c : Int, Hid ((s[k].toNat : Int) = c) := ⟨_, (rfl : (s[k].toNat : Int) = (s[k].toNat : Int))⟩
      obtain ⟨r, q, hrq, hr⟩ : ∃ (r : Int) (q : Nat), Hid (((Utf8.decode s k).1 : Int) = r ∧ (Utf8.decode s k).2 = q) ∧ Hid (letR r = letR c ∧ (letR r = true → q = 1)) := by
        refine ⟨_, _, ⟨rfl, rfl⟩, ?_⟩
        by_cases ha : s[k].toNat < 128
        · rw [decode_ascii s k hlt ha]
          exact ⟨by rw [← hc.out], fun _ => rfl⟩
        · have hd := decode_high s k hlt (by omega)
          have h1 : letR ((Utf8.decode s k).1 : Int) = false := high_letR _ (by omega)
          have h2 : letR c = false := high_letR _ (by rw [← hc.out]; omega)
          exact ⟨by rw [h1, h2], fun h => by rw [h1] at h; cases h⟩
      have hnx : ∀ ty, (Instr.next (.pointer (some ⟨w.heap.size, 0, none⟩)) true ty).run Try.prog (w.iter s k) = .ok (.tuple #[.bool true, .int .i64 k, .int .i32 r]) (w.iter s (k + q)) := fun ty => by
        rw [← hrq.out.1, ← hrq.out.2]
        exact run_next_any w s k ty hlt
      cases hb : letR r
      · have hcF : ∀ W, Calls Try.prog 87 #[.int .i32 r] W fun e w' => e = .returned (.bool false) ∧ w' = W := fun W => by rw [← hb]; exact letter_any r W
        have hend : Hid (runLen letR s.data.toList = k) := runLen_cut hlt HK.out (by rw [hc.out, ← hr.out.1]; exact hb)
        go_wp2_with (go_at_call 87; refine (hcF _).mono ?_; rintro e w1 ⟨rfl, rfl⟩)
        go_ret
        exact ⟨by rw [hend.out]; rfl, hbel.out _⟩
      · have hcF : ∀ W, Calls Try.prog 87 #[.int .i32 r] W fun e w' => e = .returned (.bool true) ∧ w' = W := fun W => by rw [← hb]; exact letter_any r W
        have hq1 := hr.out.2 hb
        subst hq1
        go_wp2_with (go_at_call 87; refine (hcF _).mono ?_; rintro e w1 ⟨rfl, rfl⟩)
        go_roundw
        case rel =>
          refine ⟨k + 1, by omega, rfl, fun j hj hjk => ?_⟩
          by_cases e : j = k
          · subst e
            rw [hc.out, ← hr.out.1]
            exact hb
          · exact HK.out j hj (by omega)
        case measure => simp; omega
    · have hke : Hid (k = s.size) := (by omega : k = s.size)
      have hnx : ∀ ty, (Instr.next (.pointer (some ⟨w.heap.size, 0, none⟩)) true ty).run Try.prog (w.iter s k) = _ := fun ty => run_next_end w s k ty hlt
      have hend : Hid (runLen letR s.data.toList = k) := runLen_end hke.out HK.out
      go_wp2
      go_ret
      exact ⟨by rw [hend.out, hke.out]; rfl, hbel.out _⟩

set_option maxRecDepth 100000 in
set_option maxHeartbeats 800000 in
theorem runAhead_letterOrFigure (s : ByteArray) (w : World) :
    Calls Try.prog 86 #[.string s, .func (.func 88) #[] #[]] w fun e w' => e = .returned (.int .i64 (runLen lfR s.data.toList : Int)) ∧ Below w.heap.size w w' := by
  go_enter Try.func86, Try.ntmps86
  go_wp2
  go_loopw [5] (fun _ wr => ∃ k : Nat, k ≤ s.size ∧ wr = w.iter s k ∧ Hid (∀ j (hj : j < s.size), j < k → lfR (s[j].toNat : Int) = true)) (fun _ wr => s.size - wr.iterPos w.heap.size)
  case atStart => exact ⟨0, Nat.zero_le _, rfl, fun j _ hj => by omega⟩
  case round =>
    obtain ⟨k, hk, rfl, HK⟩ := hrel
    have hbel : Hid (∀ q, Below w.heap.size w (w.iter s q)) := fun q => (Below.refl _ _).alloc (Nat.le_refl _) _
    by_cases hlt : k < s.size
    · obtain ⟨c, hc⟩ : ∃ c : Int, Hid ((s[k].toNat : Int) = c) := ⟨_, (rfl : (s[k].toNat : Int) = (s[k].toNat : Int))⟩
      obtain ⟨r, q, hrq, hr⟩ : ∃ (r : Int) (q : Nat), Hid (((Utf8.decode s k).1 : Int) = r ∧ (Utf8.decode s k).2 = q) ∧ Hid (lfR r = lfR c ∧ (lfR r = true → q = 1)) := by
        refine ⟨_, _, ⟨rfl, rfl⟩, ?_⟩
        by_cases ha : s[k].toNat < 128
        · rw [decode_ascii s k hlt ha]
          exact ⟨by rw [← hc.out], fun _ => rfl⟩
        · have hd := decode_high s k hlt (by omega)
          have h1 : lfR ((Utf8.decode s k).1 : Int) = false := high_lfR _ (by omega)
          have h2 : lfR c = false := high_lfR _ (by rw [← hc.out]; omega)
          exact ⟨by rw [h1, h2], fun h => by rw [h1] at h; cases h⟩
      have hnx : ∀ ty, (Instr.next (.pointer (some ⟨w.heap.size, 0, none⟩)) true ty).run Try.prog (w.iter s k) = .ok (.tuple #[.bool true, .int .i64 k, .int .i32 r]) (w.iter s (k + q)) := fun ty => by
        rw [← hrq.out.1, ← hrq.out.2]
        exact run_next_any w s k ty hlt
      cases hb : lfR r
      · have hcF : ∀ W, Calls Try.prog 88 #[.int .i32 r] W fun e w' => e = .returned (.bool false) ∧ w' = W := fun W => by rw [← hb]; exact letterOrFigure_any r W
        have hend : Hid (runLen lfR s.data.toList = k) := runLen_cut hlt HK.out (by rw [hc.out, ← hr.out.1]; exact hb)
        go_wp2_with (go_at_call 88; refine (hcF _).mono ?_; rintro e w1 ⟨rfl, rfl⟩)
        go_ret
        exact ⟨by rw [hend.out]; rfl, hbel.out _⟩
      · have hcF : ∀ W, Calls Try.prog 88 #[.int .i32 r] W fun e w' => e = .returned (.bool true) ∧ w' = W := fun W => by rw [← hb]; exact letterOrFigure_any r W
        have hq1 := hr.out.2 hb
        subst hq1
        go_wp2_with (go_at_call 88; refine (hcF _).mono ?_; rintro e w1 ⟨rfl, rfl⟩)
        go_roundw
        case rel =>
          refine ⟨k + 1, by omega, rfl, fun j hj hjk => ?_⟩
          by_cases e : j = k
          · subst e
            rw [hc.out, ← hr.out.1]
            exact hb
          · exact HK.out j hj (by omega)
        case measure => simp; omega
    · have hke : Hid (k = s.size) := (by omega : k = s.size)
      have hnx : ∀ ty, (Instr.next (.pointer (some ⟨w.heap.size, 0, none⟩)) true ty).run Try.prog (w.iter s k) = _ := fun ty => run_next_end w s k ty hlt
      have hend : Hid (runLen lfR s.data.toList = k) := runLen_end hke.out HK.out
      go_wp2
      go_ret
      exact ⟨by rw [hend.out, hke.out]; rfl, hbel.out _⟩

set_option maxRecDepth 100000 in
set_option maxHeartbeats 800000 in
theorem runAhead_figure (s : ByteArray) (w : World) :
    Calls Try.prog 86 #[.string s, .func (.func 104) #[] #[]] w fun e w' => e = .returned (.int .i64 (runLen figR s.data.toList : Int)) ∧ Below w.heap.size w w' := by
  go_enter Try.func86, Try.ntmps86
  go_wp2
  go_loopw [5] (fun _ wr => ∃ k : Nat, k ≤ s.size ∧ wr = w.iter s k ∧ Hid (∀ j (hj : j < s.size), j < k → figR (s[j].toNat : Int) = true)) (fun _ wr => s.size - wr.iterPos w.heap.size)
  case atStart => exact ⟨0, Nat.zero_le _, rfl, fun j _ hj => by omega⟩
  case round =>
    obtain ⟨k, hk, rfl, HK⟩ := hrel
    have hbel : Hid (∀ q, Below w.heap.size w (w.iter s q)) := fun q => (Below.refl _ _).alloc (Nat.le_refl _) _
    by_cases hlt : k < s.size
    · obtain ⟨c, hc⟩ : ∃ c : Int, Hid ((s[k].toNat : Int) = c) := ⟨_, (rfl : (s[k].toNat : Int) = (s[k].toNat : Int))⟩
      obtain ⟨r, q, hrq, hr⟩ : ∃ (r : Int) (q : Nat), Hid (((Utf8.decode s k).1 : Int) = r ∧ (Utf8.decode s k).2 = q) ∧ Hid (figR r = figR c ∧ (figR r = true → q = 1)) := by
        refine ⟨_, _, ⟨rfl, rfl⟩, ?_⟩
        by_cases ha : s[k].toNat < 128
        · rw [decode_ascii s k hlt ha]
          exact ⟨by rw [← hc.out], fun _ => rfl⟩
        · have hd := decode_high s k hlt (by omega)
          have h1 : figR ((Utf8.decode s k).1 : Int) = false := high_figR _ (by omega)
          have h2 : figR c = false := high_figR _ (by rw [← hc.out]; omega)
          exact ⟨by rw [h1, h2], fun h => by rw [h1] at h; cases h⟩
      have hnx : ∀ ty, (Instr.next (.pointer (some ⟨w.heap.size, 0, none⟩)) true ty).run Try.prog (w.iter s k) = .ok (.tuple #[.bool true, .int .i64 k, .int .i32 r]) (w.iter s (k + q)) := fun ty => by
        rw [← hrq.out.1, ← hrq.out.2]
        exact run_next_any w s k ty hlt
      cases hb : figR r
      · have hcF : ∀ W, Calls Try.prog 104 #[.int .i32 r] W fun e w' => e = .returned (.bool false) ∧ w' = W := fun W => by rw [← hb]; exact figure_any r W
        have hend : Hid (runLen figR s.data.toList = k) := runLen_cut hlt HK.out (by rw [hc.out, ← hr.out.1]; exact hb)
        go_wp2_with (go_at_call 104; refine (hcF _).mono ?_; rintro e w1 ⟨rfl, rfl⟩)
        go_ret
        exact ⟨by rw [hend.out]; rfl, hbel.out _⟩
      · have hcF : ∀ W, Calls Try.prog 104 #[.int .i32 r] W fun e w' => e = .returned (.bool true) ∧ w' = W := fun W => by rw [← hb]; exact figure_any r W
        have hq1 := hr.out.2 hb
        subst hq1
        go_wp2_with (go_at_call 104; refine (hcF _).mono ?_; rintro e w1 ⟨rfl, rfl⟩)
        go_roundw
        case rel =>
          refine ⟨k + 1, by omega, rfl, fun j hj hjk => ?_⟩
          by_cases e : j = k
          · subst e
            rw [hc.out, ← hr.out.1]
            exact hb
          · exact HK.out j hj (by omega)
        case measure => simp; omega
    · have hke : Hid (k = s.size) := (by omega : k = s.size)
      have hnx : ∀ ty, (Instr.next (.pointer (some ⟨w.heap.size, 0, none⟩)) true ty).run Try.prog (w.iter s k) = _ := fun ty => run_next_end w s k ty hlt
      have hend : Hid (runLen figR s.data.toList = k) := runLen_end hke.out HK.out
      go_wp2
      go_ret
      exact ⟨by rw [hend.out, hke.out]; rfl, hbel.out _⟩

end Go.Proofs.Ytjafneaaefpefaa

namespace Go.Proofs.Ytjafneaaefpefaa
open Go.RowKit

theorem letR_let (c : UInt8) : letR (c.toNat : Int) = isLet c := by
  unfold letR isLet
  congr 1 <;> simp <;> omega
theorem figR_fig (c : UInt8) : figR (c.toNat : Int) = isFig c := by
  unfold figR isFig
  congr 1 <;> simp <;> omega
theorem lfR_lf (c : UInt8) : lfR (c.toNat : Int) = isLF c := by simp [lfR, isLF, letR_let, figR_fig]

/-- The length of the word that a row of bytes begins with. -/
def wordLen (l : List UInt8) : Nat := if runLen letR l = 0 then 0 else runLen lfR l

theorem runLet (l : List UInt8) : runLen letR l = (l.takeWhile isLet).length := by simp [runLen, letR_let]
theorem runFig (l : List UInt8) : runLen figR l = (l.takeWhile isFig).length := by simp [runLen, figR_fig]
theorem runLF (l : List UInt8) : runLen lfR l = (l.takeWhile isLF).length := by simp [runLen, lfR_lf]
theorem runLen_le (p : Int → Bool) (l : List UInt8) : runLen p l ≤ l.length := (List.takeWhile_sublist _).length_le
theorem wordLen_le (l : List UInt8) : wordLen l ≤ l.length := by
  unfold wordLen
  split
  · omega
  · exact runLen_le _ _
theorem wordLen_nil : wordLen [] = 0 := by simp [wordLen, runLen]
theorem wordLen_cons (c : UInt8) (r : List UInt8) : wordLen (c :: r) = if isLet c then ((c :: r).takeWhile isLF).length else 0 := by
  unfold wordLen
  rw [runLet, runLF]
  cases h : isLet c <;> simp [List.takeWhile, h]

theorem all_of_takeWhile {p : UInt8 → Bool} : ∀ (l : List UInt8), ((l.takeWhile p).length = l.length) ↔ l.all p = true
  | [] => by simp
  | c :: r => by
    have ih := all_of_takeWhile (p := p) r
    cases h : p c
    · simp [List.takeWhile, h]
    · simp only [List.takeWhile, h, List.length_cons, List.all_cons, Bool.true_and, Nat.add_right_cancel_iff]
      exact ih

theorem nameOk_word (s : ByteArray) : nameOk s = (decide (0 < s.size) && decide (s.size ≤ 8) && decide (wordLen s.data.toList = s.size) && !isKey s) := by
  have hz : s.size = s.data.toList.length := rfl
  unfold nameOk
  cases hl : s.data.toList with
  | nil =>
    rw [hl] at hz
    simp at hz
    simp [hz]
  | cons c r =>
    rw [hl] at hz
    have h1 : 0 < s.size := by rw [hz]; simp
    have h2 : 1 ≤ s.size := h1
    have h3 := all_of_takeWhile (p := isLF) (c :: r)
    rw [wordLen_cons, hz]
    cases hc : isLet c
    · simp [hc]
    · cases ha : (c :: r).all isLF
      · have : ¬ ((c :: r).takeWhile isLF).length = (c :: r).length := fun e => by rw [h3.1 e] at ha; cases ha
        simp only [if_true, this, decide_false, Bool.and_false, Bool.false_and]
      · have := h3.2 ha
        simp only [if_true, this, decide_true, Bool.and_true, List.head?_cons, Option.any_some, hc]
        simp

set_option maxHeartbeats 800000 in
theorem wordAhead_any (s : ByteArray) (w : World) :
    Calls Try.prog 54 #[.string s] w fun e w' => e = .returned (.int .i64 (wordLen s.data.toList : Int)) ∧ Below w.heap.size w w' := by
  go_enter Try.func54, Try.ntmps54
  obtain ⟨N, HN⟩ : ∃ N, Hid (runLen letR s.data.toList = N) := ⟨_, (rfl : runLen letR s.data.toList = runLen letR s.data.toList)⟩
  obtain ⟨M, HM⟩ : ∃ M, Hid (runLen lfR s.data.toList = M) := ⟨_, (rfl : runLen lfR s.data.toList = runLen lfR s.data.toList)⟩
  have HW : Hid (wordLen s.data.toList = if N = 0 then 0 else M) := by
    rw [← HN.out, ← HM.out]
    exact rfl
  go_wp2_with fail
  go_at_call 86
  refine (runAhead_letter s _).mono ?_
  rintro e w1 ⟨rfl, hb1⟩
  rw [HN.out]
  by_cases h0 : N = 0
  · subst h0
    go_wp2
    go_ret
    exact ⟨by rw [HW.out]; rfl, hb1⟩
  · have h0' : ¬ (N : Int) = 0 := by omega
    go_wp2_with fail
    go_at_call 86
    refine (runAhead_letterOrFigure s _).mono ?_
    rintro e w2 ⟨rfl, hb2⟩
    rw [HM.out]
    go_wp2
    go_ret
    exact ⟨by rw [HW.out, if_neg h0]; rfl, hb1.trans (hb2.mono hb1.size)⟩

set_option maxHeartbeats 800000 in
theorem implNameOk_any (s : ByteArray) (w : World) (hs : s.size ≤ maxLen) :
    Calls Try.prog 18 #[.string s] w fun e w' => e = .returned (.bool (nameOk s)) ∧ Below w.heap.size w w' := by
  obtain ⟨l, Hl⟩ : ∃ l, Hid (wordLen s.data.toList = l) := ⟨_, (rfl : wordLen s.data.toList = wordLen s.data.toList)⟩
  obtain ⟨k, Hk⟩ : ∃ k, Hid (isKey s = k) := ⟨_, (rfl : isKey s = isKey s)⟩
  have HB : Hid (nameOk s = (decide (0 < s.size) && decide (s.size ≤ 8) && decide (l = s.size) && !k)) := by
    rw [← Hl.out, ← Hk.out]
    exact nameOk_word s
  have hw : Hid (∀ W, Calls Try.prog 54 #[.string s] W fun e w' => e = .returned (.int .i64 (l : Int)) ∧ Below W.heap.size W w') := fun W => by
    rw [← Hl.out]; exact wordAhead_any s W
  have hk : Hid (∀ W, Calls Try.prog 16 #[.string s] W fun e w' => e = .returned (.bool k) ∧ Below W.heap.size W w') := fun W => by
    rw [← Hk.out]; exact implKeyWord_any s W hs
  by_cases h1 : 0 < s.size
  · have h1' : (0 : Int) < (s.size : Int) := by omega
    by_cases h2 : s.size ≤ 8
    · have h2' : (s.size : Int) ≤ 8 := by omega
      go_enter Try.func18, Try.ntmps18
      go_wp2_with fail
      go_at_call 54
      refine Calls.mono (hw.out _) ?_
      rintro e w1 ⟨rfl, hb1⟩
      by_cases h3 : (l : Int) = (s.size : Int)
      · have h3n : Hid (l = s.size) := (by omega : l = s.size)
        rw [h3]
        have h3' : Hid ((l : Int) = (s.size : Int)) := h3
        clear h3
        go_wp2_with fail
        go_at_call 16
        refine Calls.mono (hk.out _) ?_
        rintro e w2 ⟨rfl, hb2⟩
        cases k
        · go_wp2
          go_ret
          exact ⟨by rw [HB.out, h3n.out]; simp [h1, h2], hb1.trans (hb2.mono hb1.size)⟩
        · go_wp2
          go_ret
          exact ⟨by rw [HB.out]; simp, hb1.trans (hb2.mono hb1.size)⟩
      · have h3n : Hid (¬ l = s.size) := (by omega : ¬ l = s.size)
        go_wp2
        go_ret
        exact ⟨by rw [HB.out]; simp [h3n.out], hb1⟩
    · have h2' : ¬ (s.size : Int) ≤ 8 := by omega
      go_enter Try.func18, Try.ntmps18
      go_wp2
      go_ret
      exact ⟨by rw [HB.out]; simp [h2], Below.refl _ _⟩
  · have h1' : ¬ (0 : Int) < (s.size : Int) := by omega
    go_enter Try.func18, Try.ntmps18
    go_wp2
    go_ret
    exact ⟨by rw [HB.out]; simp [h1], Below.refl _ _⟩

end Go.Proofs.Ytjafneaaefpefaa

namespace Go.Proofs.Ytjafneaaefpefaa
open Go.RowKit

theorem isPlace_any (a : Option Addr) (N cap : Nat) (k : Int) (w : World) :
    Calls Try.prog 60 #[.slice a N cap, .int .i64 k] w fun e w' => e = .returned (.bool (isIn k 0 ((N : Int) - 1))) ∧ w' = w := by
  by_cases h0 : 0 ≤ k
  · by_cases h1 : k < (N : Int)
    · have HE : Hid (isIn k 0 ((N : Int) - 1) = true) := by show _ = _; simp [isIn]; omega
      go_enter Try.func60, Try.ntmps60
      go_wp2
      go_ret
      exact ⟨by rw [HE.out]; rfl, rfl⟩
    · have HE : Hid (isIn k 0 ((N : Int) - 1) = false) := by show _ = _; simp [isIn]; omega
      go_enter Try.func60, Try.ntmps60
      go_wp2
      go_ret
      exact ⟨by rw [HE.out]; rfl, rfl⟩
  · have HE : Hid (isIn k 0 ((N : Int) - 1) = false) := by show _ = _; simp [isIn]; omega
    go_enter Try.func60, Try.ntmps60
    go_wp2
    go_ret
    exact ⟨by rw [HE.out]; rfl, rfl⟩

theorem isValue_any (k : Int) (w : World) :
    Calls Try.prog 108 #[.int .i64 k] w fun e w' => e = .returned (.bool (isVal k)) ∧ w' = w := by
  by_cases h0 : 1 ≤ k
  · by_cases h1 : k ≤ 12
    · have HE : Hid (isVal k = true) := by show _ = _; simp [isVal, isIn]; omega
      go_enter Try.func108, Try.ntmps108
      go_wp2
      go_ret
      exact ⟨by rw [HE.out]; rfl, rfl⟩
    · have HE : Hid (isVal k = false) := by show _ = _; simp [isVal, isIn]; omega
      go_enter Try.func108, Try.ntmps108
      go_wp2
      go_ret
      exact ⟨by rw [HE.out]; rfl, rfl⟩
  · have HE : Hid (isVal k = false) := by show _ = _; simp [isVal, isIn]; omega
    go_enter Try.func108, Try.ntmps108
    go_wp2
    go_ret
    exact ⟨by rw [HE.out]; rfl, rfl⟩
theorem isStatement_any (k : Int) (w : World) :
    Calls Try.prog 142 #[.int .i64 k] w fun e w' => e = .returned (.bool (isStm k)) ∧ w' = w := by
  by_cases h0 : 13 ≤ k
  · by_cases h1 : k ≤ 19
    · have HE : Hid (isStm k = true) := by show _ = _; simp [isStm, isIn]; omega
      go_enter Try.func142, Try.ntmps142
      go_wp2
      go_ret
      exact ⟨by rw [HE.out]; rfl, rfl⟩
    · have HE : Hid (isStm k = false) := by show _ = _; simp [isStm, isIn]; omega
      go_enter Try.func142, Try.ntmps142
      go_wp2
      go_ret
      exact ⟨by rw [HE.out]; rfl, rfl⟩
  · have HE : Hid (isStm k = false) := by show _ = _; simp [isStm, isIn]; omega
    go_enter Try.func142, Try.ntmps142
    go_wp2
    go_ret
    exact ⟨by rw [HE.out]; rfl, rfl⟩

theorem all_false {xs : List Int} {p : Int → Bool} {k : Nat} (hk : k < xs.length) (h : p xs[k] = false) : xs.all p = false := by
  rw [← Bool.not_eq_true, List.all_eq_true]
  intro hh
  have := hh _ (List.getElem_mem hk)
  rw [h] at this
  cases this
theorem all_true {xs : List Int} {p : Int → Bool} (h : ∀ j, (hj : j < xs.length) → p xs[j] = true) : xs.all p = true := by
  rw [List.all_eq_true]
  intro x hx
  obtain ⟨j, hj, rfl⟩ := List.getElem_of_mem hx
  exact h j hj

set_option maxHeartbeats 800000 in
theorem allVal_any (B : Nat) (v : Value) (xs : List Int) (w : World) (hB : B ≤ w.heap.size) (hv : RowI w B v xs) (hl : xs.length ≤ 1048576) :
    Calls Try.prog 133 #[v, .func (.func 108) #[] #[]] w fun e w' => e = .returned (.bool (xs.all isVal)) ∧ Below w.heap.size w w' := by
  obtain ⟨a, cap, rfl⟩ := hv.len
  obtain ⟨N, HN⟩ : ∃ N, Hid (xs.length = N) := ⟨_, (rfl : xs.length = xs.length)⟩
  have H : Hid (RowI w B (.slice a N cap) xs) := by rw [← HN.out]; exact hv
  rw [HN.out] at hl ⊢
  clear hv
  go_enter Try.func133, Try.ntmps133
  go_wp2
  go_loopw [9] (fun i wr => ∃ k : Nat, k ≤ N ∧ i = .int .i64 (k : Int) ∧ Hid (∀ j, (hj : j < xs.length) → j < k → isVal xs[j] = true) ∧ Below w.heap.size w wr) (fun i _ => N - (intOf i).toNat)
  case atStart => exact ⟨0, Nat.zero_le _, rfl, fun j _ hj => by omega, Below.refl _ _⟩
  case round =>
    obtain ⟨k, hk, rfl, HK, hbw⟩ := hrel
    by_cases hlt : k < N
    · have hk1 : (k : Int) < (N : Int) := by omega
      have hk0 : (0 : Int) ≤ (k : Int) := by omega
      have hkl : k < xs.length := by have := HN.out; omega
      obtain ⟨b, off, rfl, hb, c0⟩ := H.out.at k hkl
      obtain ⟨q, hq⟩ : ∃ q, Hid (xs[k] = q) := ⟨_, (rfl : xs[k] = xs[k])⟩
      have d0 := (hbw.cell (p := ⟨b, off + k, none⟩) (by show b < _; omega)).trans c0
      rw [hq.out] at d0
      clear c0
      have cV : Hid (∀ W, Calls Try.prog 108 #[.int .i64 q] W fun e w' => e = .returned (.bool (isVal q)) ∧ w' = W) := fun W => isValue_any q W
      cases hs : isVal q
      · have HF : Hid (xs.all isVal = false) := all_false hkl (by rw [hq.out]; exact hs)
        rw [hs] at cV
        go_wp2_with (go_at_call 108; refine Calls.mono (cV.out _) ?_; rintro e w1 ⟨rfl, h⟩; obtain rfl := h.symm)
        go_ret
        exact ⟨by rw [HF.out]; rfl, hbw⟩
      · have HK1 : Hid (∀ j, (hj : j < xs.length) → j < k + 1 → isVal xs[j] = true) := fun j hj hjk => by
          by_cases e : j = k
          · subst e
            rw [hq.out]
            exact hs
          · exact HK.out j hj (by omega)
        rw [hs] at cV
        go_wp2_with (go_at_call 108; refine Calls.mono (cV.out _) ?_; rintro e w1 ⟨rfl, h⟩; obtain rfl := h.symm)
        go_roundw
        case rel => exact ⟨k + 1, by omega, by go_num, HK1, hbw⟩
        case measure => simp [intOf]; omega
    · have HF : Hid (xs.all isVal = true) := all_true (fun j hj => HK.out j hj (by have := HN.out; omega))
      go_wp2
      go_ret
      exact ⟨by rw [HF.out]; rfl, hbw⟩
set_option maxHeartbeats 800000 in
theorem allStm_any (B : Nat) (v : Value) (xs : List Int) (w : World) (hB : B ≤ w.heap.size) (hv : RowI w B v xs) (hl : xs.length ≤ 1048576) :
    Calls Try.prog 133 #[v, .func (.func 142) #[] #[]] w fun e w' => e = .returned (.bool (xs.all isStm)) ∧ Below w.heap.size w w' := by
  obtain ⟨a, cap, rfl⟩ := hv.len
  obtain ⟨N, HN⟩ : ∃ N, Hid (xs.length = N) := ⟨_, (rfl : xs.length = xs.length)⟩
  have H : Hid (RowI w B (.slice a N cap) xs) := by rw [← HN.out]; exact hv
  rw [HN.out] at hl ⊢
  clear hv
  go_enter Try.func133, Try.ntmps133
  go_wp2
  go_loopw [9] (fun i wr => ∃ k : Nat, k ≤ N ∧ i = .int .i64 (k : Int) ∧ Hid (∀ j, (hj : j < xs.length) → j < k → isStm xs[j] = true) ∧ Below w.heap.size w wr) (fun i _ => N - (intOf i).toNat)
  case atStart => exact ⟨0, Nat.zero_le _, rfl, fun j _ hj => by omega, Below.refl _ _⟩
  case round =>
    obtain ⟨k, hk, rfl, HK, hbw⟩ := hrel
    by_cases hlt : k < N
    · have hk1 : (k : Int) < (N : Int) := by omega
      have hk0 : (0 : Int) ≤ (k : Int) := by omega
      have hkl : k < xs.length := by have := HN.out; omega
      obtain ⟨b, off, rfl, hb, c0⟩ := H.out.at k hkl
      obtain ⟨q, hq⟩ : ∃ q, Hid (xs[k] = q) := ⟨_, (rfl : xs[k] = xs[k])⟩
      have d0 := (hbw.cell (p := ⟨b, off + k, none⟩) (by show b < _; omega)).trans c0
      rw [hq.out] at d0
      clear c0
      have cV : Hid (∀ W, Calls Try.prog 142 #[.int .i64 q] W fun e w' => e = .returned (.bool (isStm q)) ∧ w' = W) := fun W => isStatement_any q W
      cases hs : isStm q
      · have HF : Hid (xs.all isStm = false) := all_false hkl (by rw [hq.out]; exact hs)
        rw [hs] at cV
        go_wp2_with (go_at_call 142; refine Calls.mono (cV.out _) ?_; rintro e w1 ⟨rfl, h⟩; obtain rfl := h.symm)
        go_ret
        exact ⟨by rw [HF.out]; rfl, hbw⟩
      · have HK1 : Hid (∀ j, (hj : j < xs.length) → j < k + 1 → isStm xs[j] = true) := fun j hj hjk => by
          by_cases e : j = k
          · subst e
            rw [hq.out]
            exact hs
          · exact HK.out j hj (by omega)
        rw [hs] at cV
        go_wp2_with (go_at_call 142; refine Calls.mono (cV.out _) ?_; rintro e w1 ⟨rfl, h⟩; obtain rfl := h.symm)
        go_roundw
        case rel => exact ⟨k + 1, by omega, by go_num, HK1, hbw⟩
        case measure => simp [intOf]; omega
    · have HF : Hid (xs.all isStm = true) := all_true (fun j hj => HK.out j hj (by have := HN.out; omega))
      go_wp2
      go_ret
      exact ⟨by rw [HF.out]; rfl, hbw⟩

theorem has_no {xs : List Int} {c : Int} (h : ∀ j, (hj : j < xs.length) → ¬ c = xs[j]) : xs.contains c = false := by
  rw [← Bool.not_eq_true, List.contains_iff_mem]
  intro hm
  obtain ⟨j, hj, e⟩ := List.getElem_of_mem hm
  exact h j hj e.symm
theorem has_yes {xs : List Int} {c : Int} {k : Nat} (hk : k < xs.length) (h : c = xs[k]) : xs.contains c = true := by
  rw [List.contains_iff_mem, h]
  exact List.getElem_mem hk

set_option maxHeartbeats 800000 in
theorem index_any (B : Nat) (v : Value) (xs : List Int) (c : Int) (w : World) (hB : B ≤ w.heap.size) (hv : RowI w B v xs) (hl : xs.length ≤ 1048576) :
    Calls Try.prog 105 #[v, .int .i64 c] w fun e w' => (∃ r : Int, e = .returned (.int .i64 r) ∧ (xs.contains c = true ∧ 0 ≤ r ∨ xs.contains c = false ∧ r = -1)) ∧ Below w.heap.size w w' := by
  obtain ⟨a, cap, rfl⟩ := hv.len
  obtain ⟨N, HN⟩ : ∃ N, Hid (xs.length = N) := ⟨_, (rfl : xs.length = xs.length)⟩
  have H : Hid (RowI w B (.slice a N cap) xs) := by rw [← HN.out]; exact hv
  rw [HN.out] at hl ⊢
  clear hv
  go_enter Try.func105, Try.ntmps105
  go_wp2
  go_loopw [8] (fun i wr => ∃ k : Nat, k ≤ N ∧ i = .int .i64 (k : Int) ∧ Hid (∀ j, (hj : j < xs.length) → j < k → ¬ c = xs[j]) ∧ Below w.heap.size w wr) (fun i _ => N - (intOf i).toNat)
  case atStart => exact ⟨0, Nat.zero_le _, rfl, fun j _ hj => by omega, Below.refl _ _⟩
  case round =>
    obtain ⟨k, hk, rfl, HK, hbw⟩ := hrel
    by_cases hlt : k < N
    · have hk1 : (k : Int) < (N : Int) := by omega
      have hk0 : (0 : Int) ≤ (k : Int) := by omega
      have hkl : k < xs.length := by have := HN.out; omega
      obtain ⟨b, off, rfl, hb, c0⟩ := H.out.at k hkl
      obtain ⟨q, hq⟩ : ∃ q, Hid (xs[k] = q) := ⟨_, (rfl : xs[k] = xs[k])⟩
      have d0 := (hbw.cell (p := ⟨b, off + k, none⟩) (by show b < _; omega)).trans c0
      rw [hq.out] at d0
      clear c0
      by_cases hs : c = q
      · have HF : Hid (xs.contains c = true) := has_yes hkl (by rw [hq.out]; exact hs)
        subst hs
        go_wp2
        go_ret
        exact ⟨⟨_, rfl, .inl ⟨HF.out, hk0⟩⟩, hbw⟩
      · have HK1 : Hid (∀ j, (hj : j < xs.length) → j < k + 1 → ¬ c = xs[j]) := fun j hj hjk => by
          by_cases e : j = k
          · subst e
            rw [hq.out]
            exact hs
          · exact HK.out j hj (by omega)
        have hb1 : (c == q) = false := by simpa using hs
        clear hs
        go_wp2
        go_roundw
        case rel => exact ⟨k + 1, by omega, by go_num, HK1, hbw⟩
        case measure => simp [intOf]; omega
    · have HF : Hid (xs.contains c = false) := has_no (fun j hj => HK.out j hj (by have := HN.out; omega))
      go_wp2
      go_ret
      exact ⟨⟨_, rfl, .inr ⟨HF.out, rfl⟩⟩, hbw⟩
theorem contains_any (B : Nat) (v : Value) (xs : List Int) (c : Int) (w : World) (hB : B ≤ w.heap.size) (hv : RowI w B v xs) (hl : xs.length ≤ 1048576) :
    Calls Try.prog 93 #[v, .int .i64 c] w fun e w' => e = .returned (.bool (xs.contains c)) ∧ Below w.heap.size w w' := by
  have cI : Hid (∀ W, Below w.heap.size w W → Calls Try.prog 105 #[v, .int .i64 c] W fun e w' => (∃ r : Int, e = .returned (.int .i64 r) ∧ (xs.contains c = true ∧ 0 ≤ r ∨ xs.contains c = false ∧ r = -1)) ∧ Below W.heap.size W w') := fun W hW => index_any B v xs c W (Nat.le_trans hB hW.size) (hv.keep (hW.mono hB)) hl
  clear hv hl
  go_enter Try.func93, Try.ntmps93
  go_wp2_with fail
  go_at_call 105
  refine Calls.mono (cI.out _ (Below.refl _ _)) ?_
  rintro e w1 ⟨⟨r, rfl, hr⟩, hb⟩
  rcases hr with ⟨h1, h2⟩ | ⟨h1, rfl⟩
  · have HE : Hid (xs.contains c = true) := h1
    clear h1 cI
    go_wp2
    go_ret
    exact ⟨by rw [HE.out]; rfl, hb⟩
  · have HE : Hid (xs.contains c = false) := h1
    clear h1 cI
    go_wp2
    go_ret
    exact ⟨by rw [HE.out]; rfl, hb⟩

end Go.Proofs.Ytjafneaaefpefaa

namespace Go.Proofs.Ytjafneaaefpefaa
open Go.RowKit

set_option maxRecDepth 100000 in
set_option maxHeartbeats 1600000 in
theorem partOf_number (kd nm : Int) (tx : ByteArray) (kv : Value) (w : World) (h : kd = 1) :
    Calls Try.prog 61 #[.agg #[.int .i64 kd, .int .i64 nm, .string tx, kv]] w fun e w' => e = .returned (.iface 115 (.agg #[.int .i64 kd, .int .i64 nm, .string tx, kv])) ∧ Below w.heap.size w w' := by
  subst h
  all_goals
    go_enter Try.func61, Try.ntmps61
    go_wp2
    go_ret
    exact ⟨rfl, by go_grown⟩

set_option maxRecDepth 100000 in
set_option maxHeartbeats 1600000 in
theorem partOf_use (kd nm : Int) (tx : ByteArray) (kv : Value) (w : World) (h : kd = 2 ∨ kd = 3 ∨ kd = 4 ∨ kd = 5 ∨ kd = 6) :
    Calls Try.prog 61 #[.agg #[.int .i64 kd, .int .i64 nm, .string tx, kv]] w fun e w' => e = .returned (.iface 116 (.agg #[.int .i64 kd, .int .i64 nm, .string tx, kv])) ∧ Below w.heap.size w w' := by
  rcases h with rfl | rfl | rfl | rfl | rfl
  all_goals
    go_enter Try.func61, Try.ntmps61
    go_wp2
    go_ret
    exact ⟨rfl, by go_grown⟩

set_option maxRecDepth 100000 in
set_option maxHeartbeats 1600000 in
theorem partOf_input (kd nm : Int) (tx : ByteArray) (kv : Value) (w : World) (h : kd = 7) :
    Calls Try.prog 61 #[.agg #[.int .i64 kd, .int .i64 nm, .string tx, kv]] w fun e w' => e = .returned (.iface 117 (.agg #[.int .i64 kd, .int .i64 nm, .string tx, kv])) ∧ Below w.heap.size w w' := by
  subst h
  all_goals
    go_enter Try.func61, Try.ntmps61
    go_wp2
    go_ret
    exact ⟨rfl, by go_grown⟩

set_option maxRecDepth 100000 in
set_option maxHeartbeats 1600000 in
theorem partOf_new (kd nm : Int) (tx : ByteArray) (kv : Value) (w : World) (h : kd = 8) :
    Calls Try.prog 61 #[.agg #[.int .i64 kd, .int .i64 nm, .string tx, kv]] w fun e w' => e = .returned (.iface 118 (.agg #[.int .i64 kd, .int .i64 nm, .string tx, kv])) ∧ Below w.heap.size w w' := by
  subst h
  all_goals
    go_enter Try.func61, Try.ntmps61
    go_wp2
    go_ret
    exact ⟨rfl, by go_grown⟩

set_option maxRecDepth 100000 in
set_option maxHeartbeats 1600000 in
theorem partOf_pair (kd nm : Int) (tx : ByteArray) (kv : Value) (w : World) (h : kd = 9 ∨ kd = 10 ∨ kd = 11) :
    Calls Try.prog 61 #[.agg #[.int .i64 kd, .int .i64 nm, .string tx, kv]] w fun e w' => e = .returned (.iface 119 (.agg #[.int .i64 kd, .int .i64 nm, .string tx, kv])) ∧ Below w.heap.size w w' := by
  rcases h with rfl | rfl | rfl
  all_goals
    go_enter Try.func61, Try.ntmps61
    go_wp2
    go_ret
    exact ⟨rfl, by go_grown⟩

set_option maxRecDepth 100000 in
set_option maxHeartbeats 1600000 in
theorem partOf_call (kd nm : Int) (tx : ByteArray) (kv : Value) (w : World) (h : kd = 12) :
    Calls Try.prog 61 #[.agg #[.int .i64 kd, .int .i64 nm, .string tx, kv]] w fun e w' => e = .returned (.iface 120 (.agg #[.int .i64 kd, .int .i64 nm, .string tx, kv])) ∧ Below w.heap.size w w' := by
  subst h
  all_goals
    go_enter Try.func61, Try.ntmps61
    go_wp2
    go_ret
    exact ⟨rfl, by go_grown⟩

set_option maxRecDepth 100000 in
set_option maxHeartbeats 1600000 in
theorem partOf_hold (kd nm : Int) (tx : ByteArray) (kv : Value) (w : World) (h : kd = 13 ∨ kd = 14 ∨ kd = 15) :
    Calls Try.prog 61 #[.agg #[.int .i64 kd, .int .i64 nm, .string tx, kv]] w fun e w' => e = .returned (.iface 121 (.agg #[.int .i64 kd, .int .i64 nm, .string tx, kv])) ∧ Below w.heap.size w w' := by
  rcases h with rfl | rfl | rfl
  all_goals
    go_enter Try.func61, Try.ntmps61
    go_wp2
    go_ret
    exact ⟨rfl, by go_grown⟩

set_option maxRecDepth 100000 in
set_option maxHeartbeats 1600000 in
theorem partOf_if (kd nm : Int) (tx : ByteArray) (kv : Value) (w : World) (h : kd = 16) :
    Calls Try.prog 61 #[.agg #[.int .i64 kd, .int .i64 nm, .string tx, kv]] w fun e w' => e = .returned (.iface 122 (.agg #[.int .i64 kd, .int .i64 nm, .string tx, kv])) ∧ Below w.heap.size w w' := by
  subst h
  all_goals
    go_enter Try.func61, Try.ntmps61
    go_wp2
    go_ret
    exact ⟨rfl, by go_grown⟩

set_option maxRecDepth 100000 in
set_option maxHeartbeats 1600000 in
theorem partOf_while (kd nm : Int) (tx : ByteArray) (kv : Value) (w : World) (h : kd = 17) :
    Calls Try.prog 61 #[.agg #[.int .i64 kd, .int .i64 nm, .string tx, kv]] w fun e w' => e = .returned (.iface 123 (.agg #[.int .i64 kd, .int .i64 nm, .string tx, kv])) ∧ Below w.heap.size w w' := by
  subst h
  all_goals
    go_enter Try.func61, Try.ntmps61
    go_wp2
    go_ret
    exact ⟨rfl, by go_grown⟩

set_option maxRecDepth 100000 in
set_option maxHeartbeats 1600000 in
theorem partOf_print (kd nm : Int) (tx : ByteArray) (kv : Value) (w : World) (h : kd = 18) :
    Calls Try.prog 61 #[.agg #[.int .i64 kd, .int .i64 nm, .string tx, kv]] w fun e w' => e = .returned (.iface 124 (.agg #[.int .i64 kd, .int .i64 nm, .string tx, kv])) ∧ Below w.heap.size w w' := by
  subst h
  all_goals
    go_enter Try.func61, Try.ntmps61
    go_wp2
    go_ret
    exact ⟨rfl, by go_grown⟩

set_option maxRecDepth 100000 in
set_option maxHeartbeats 1600000 in
theorem partOf_do (kd nm : Int) (tx : ByteArray) (kv : Value) (w : World) (h : kd = 19) :
    Calls Try.prog 61 #[.agg #[.int .i64 kd, .int .i64 nm, .string tx, kv]] w fun e w' => e = .returned (.iface 125 (.agg #[.int .i64 kd, .int .i64 nm, .string tx, kv])) ∧ Below w.heap.size w w' := by
  subst h
  all_goals
    go_enter Try.func61, Try.ntmps61
    go_wp2
    go_ret
    exact ⟨rfl, by go_grown⟩

set_option maxRecDepth 100000 in
set_option maxHeartbeats 1600000 in
theorem partOf_block (kd nm : Int) (tx : ByteArray) (kv : Value) (w : World) (h : kd = 20) :
    Calls Try.prog 61 #[.agg #[.int .i64 kd, .int .i64 nm, .string tx, kv]] w fun e w' => e = .returned (.iface 126 (.agg #[.int .i64 kd, .int .i64 nm, .string tx, kv])) ∧ Below w.heap.size w w' := by
  subst h
  all_goals
    go_enter Try.func61, Try.ntmps61
    go_wp2
    go_ret
    exact ⟨rfl, by go_grown⟩

set_option maxRecDepth 100000 in
set_option maxHeartbeats 1600000 in
theorem partOf_none (kd nm : Int) (tx : ByteArray) (kv : Value) (w : World) (h : kd < 1 ∨ 20 < kd) :
    Calls Try.prog 61 #[.agg #[.int .i64 kd, .int .i64 nm, .string tx, kv]] w fun e w' => e = .returned .nilIface ∧ Below w.heap.size w w' := by
  have a1 : (kd == 1) = false := by simp; omega
  have a2 : (kd == 2) = false := by simp; omega
  have a3 : (kd == 3) = false := by simp; omega
  have a4 : (kd == 4) = false := by simp; omega
  have a5 : (kd == 5) = false := by simp; omega
  have a6 : (kd == 6) = false := by simp; omega
  have a7 : (kd == 7) = false := by simp; omega
  have a8 : (kd == 8) = false := by simp; omega
  have a9 : (kd == 9) = false := by simp; omega
  have a10 : (kd == 10) = false := by simp; omega
  have a11 : (kd == 11) = false := by simp; omega
  have a12 : (kd == 12) = false := by simp; omega
  have a13 : (kd == 13) = false := by simp; omega
  have a14 : (kd == 14) = false := by simp; omega
  have a15 : (kd == 15) = false := by simp; omega
  have a16 : (kd == 16) = false := by simp; omega
  have a17 : (kd == 17) = false := by simp; omega
  have a18 : (kd == 18) = false := by simp; omega
  have a19 : (kd == 19) = false := by simp; omega
  have a20 : (kd == 20) = false := by simp; omega
  clear h
  go_enter Try.func61, Try.ntmps61
  go_wp2
  go_ret
  exact ⟨rfl, by go_grown⟩

theorem as_same {P : Program} {a xT : TypeId} {fs : Array Field} (hu : P.underlying a = some (.struct fs)) (v : Value) (w : World) : (Instr.typeAssert (.iface a v) xT a true).run P w = .ok (.tuple #[v, .bool true]) w := by
  simp [Instr.typeAssert, run_underlying hu]
theorem as_other {P : Program} {t a xT : TypeId} {z : Value} {fs : Array Field} (hu : P.underlying a = some (.struct fs)) (hne : t ≠ a) (hz : (P.info? a).map (·.zero) = some (some z)) (v : Value) (w : World) : (Instr.typeAssert (.iface t v) xT a true).run P w = .ok (.tuple #[z, .bool false]) w := by
  obtain ⟨j, hj, hz'⟩ := Option.map_eq_some_iff.1 hz
  simp [Instr.typeAssert, run_underlying hu, hne, zeroValue, typeInfo, hj, hz']

/-- What saysRight asks. -/
def saysNum (nm : Int) (tx : ByteArray) : Bool := isIn nm 0 1000000000 && decide (tx.size = 0)
def saysName (nm : Int) (tx : ByteArray) : Bool := decide (nm = 0) && nameOk tx
def saysNone (nm : Int) (tx : ByteArray) : Bool := decide (nm = 0) && decide (tx.size = 0)
theorem empty_listB : (⟨#[]⟩ : ByteArray).toList = [] := by rw [ByteArray.toList_eq]
theorem text_none {tx : ByteArray} (h : tx.size = 0) : tx = ⟨#[]⟩ := by
  cases tx with | mk d => simp [ByteArray.size] at h; simp [h]
theorem text_some {tx : ByteArray} (h : ¬ tx.size = 0) : (tx.toList == []) = false := by
  rw [ByteArray.toList_eq, beq_eq_false_iff_ne]
  intro e
  exact h (by rw [(show tx.size = tx.data.toList.length from rfl), e]; rfl)

set_option maxRecDepth 100000 in
set_option maxHeartbeats 1600000 in
theorem says_number (kd nm : Int) (tx : ByteArray) (kv : Value) (w : World) :
    Calls Try.prog 62 #[.iface 115 (.agg #[.int .i64 kd, .int .i64 nm, .string tx, kv]), .agg #[.int .i64 kd, .int .i64 nm, .string tx, kv]] w fun e w' => e = .returned (.bool (saysNum nm tx)) ∧ Below w.heap.size w w' := by
  have as_number : ∀ (v : Value) (W : World), (Instr.typeAssert (.iface 115 v) 75 115 true).run Try.prog W = .ok (.tuple #[v, .bool true]) W := fun v W => as_same Try.underlying115 v W
  have as_use : ∀ (v : Value) (W : World), (Instr.typeAssert (.iface 115 v) 75 116 true).run Try.prog W = .ok (.tuple #[.agg #[.int .i64 0, .int .i64 0, .string ByteArray.empty, .slice none 0 0], .bool false]) W := fun v W => as_other Try.underlying116 (by decide) (by kernel_rfl) v W
  have as_call : ∀ (v : Value) (W : World), (Instr.typeAssert (.iface 115 v) 75 120 true).run Try.prog W = .ok (.tuple #[.agg #[.int .i64 0, .int .i64 0, .string ByteArray.empty, .slice none 0 0], .bool false]) W := fun v W => as_other Try.underlying120 (by decide) (by kernel_rfl) v W
  have as_hold : ∀ (v : Value) (W : World), (Instr.typeAssert (.iface 115 v) 75 121 true).run Try.prog W = .ok (.tuple #[.agg #[.int .i64 0, .int .i64 0, .string ByteArray.empty, .slice none 0 0], .bool false]) W := fun v W => as_other Try.underlying121 (by decide) (by kernel_rfl) v W
  by_cases h0 : 0 ≤ nm
  · by_cases h1 : nm ≤ 1000000000
    · by_cases h2 : tx.size = 0
      · have HE : Hid (saysNum nm tx = true) := by show _ = _; simp [saysNum, isIn, h0, h1, h2]
        obtain rfl := text_none h2
        clear h2
        go_enter Try.func62, Try.ntmps62
        go_wp2
        go_ret
        exact ⟨by rw [HE.out]; rfl, by go_grown⟩
      · have HE : Hid (saysNum nm tx = false) := by show _ = _; simp [saysNum, h2]
        have e1 := text_some h2
        have e2 : (tx.toList == (⟨#[]⟩ : ByteArray).toList) = false := by rw [empty_listB]; exact e1
        clear h2
        go_enter Try.func62, Try.ntmps62
        go_wp2
        go_ret
        exact ⟨by rw [HE.out]; rfl, by go_grown⟩
    · have HE : Hid (saysNum nm tx = false) := by show _ = _; simp [saysNum, isIn, h1]
      go_enter Try.func62, Try.ntmps62
      go_wp2
      go_ret
      exact ⟨by rw [HE.out]; rfl, by go_grown⟩
  · have HE : Hid (saysNum nm tx = false) := by show _ = _; simp [saysNum, isIn, h0]
    go_enter Try.func62, Try.ntmps62
    go_wp2
    go_ret
    exact ⟨by rw [HE.out]; rfl, by go_grown⟩

set_option maxRecDepth 100000 in
set_option maxHeartbeats 1600000 in
theorem says_use (kd nm : Int) (tx : ByteArray) (kv : Value) (w : World) (ht : tx.size ≤ 1048576) :
    Calls Try.prog 62 #[.iface 116 (.agg #[.int .i64 kd, .int .i64 nm, .string tx, kv]), .agg #[.int .i64 kd, .int .i64 nm, .string tx, kv]] w fun e w' => e = .returned (.bool (saysName nm tx)) ∧ Below w.heap.size w w' := by
  have as_number : ∀ (v : Value) (W : World), (Instr.typeAssert (.iface 116 v) 75 115 true).run Try.prog W = .ok (.tuple #[.agg #[.int .i64 0, .int .i64 0, .string ByteArray.empty, .slice none 0 0], .bool false]) W := fun v W => as_other Try.underlying115 (by decide) (by kernel_rfl) v W
  have as_use : ∀ (v : Value) (W : World), (Instr.typeAssert (.iface 116 v) 75 116 true).run Try.prog W = .ok (.tuple #[v, .bool true]) W := fun v W => as_same Try.underlying116 v W
  have as_call : ∀ (v : Value) (W : World), (Instr.typeAssert (.iface 116 v) 75 120 true).run Try.prog W = .ok (.tuple #[.agg #[.int .i64 0, .int .i64 0, .string ByteArray.empty, .slice none 0 0], .bool false]) W := fun v W => as_other Try.underlying120 (by decide) (by kernel_rfl) v W
  have as_hold : ∀ (v : Value) (W : World), (Instr.typeAssert (.iface 116 v) 75 121 true).run Try.prog W = .ok (.tuple #[.agg #[.int .i64 0, .int .i64 0, .string ByteArray.empty, .slice none 0 0], .bool false]) W := fun v W => as_other Try.underlying121 (by decide) (by kernel_rfl) v W
  by_cases h0 : nm = 0
  · obtain ⟨ok, hok⟩ : ∃ r, Hid (nameOk tx = r) := ⟨_, (rfl : nameOk tx = nameOk tx)⟩
    have cO : Hid (∀ W, Calls Try.prog 18 #[.string tx] W fun e w' => e = .returned (.bool ok) ∧ Below W.heap.size W w') := fun W => by rw [← hok.out]; exact implNameOk_any tx W (Nat.le_trans ht (by unfold maxLen; omega))
    have HE : Hid (saysName nm tx = ok) := by show _ = _; simp [saysName, h0, hok.out]
    subst h0
    go_enter Try.func62, Try.ntmps62
    go_wp2_with (go_at_call 18; refine Calls.mono (cO.out _) ?_; rintro e w1 ⟨rfl, hb⟩)
    go_ret
    exact ⟨by rw [HE.out]; rfl, ((Below.refl _ _).alloc (Nat.le_refl _) _).trans (hb.mono (by simp))⟩
  · have HE : Hid (saysName nm tx = false) := by show _ = _; simp [saysName, h0]
    have e1 : (nm == 0) = false := by simpa using h0
    clear h0
    go_enter Try.func62, Try.ntmps62
    go_wp2
    go_ret
    exact ⟨by rw [HE.out]; rfl, by go_grown⟩

set_option maxRecDepth 100000 in
set_option maxHeartbeats 1600000 in
theorem says_input (kd nm : Int) (tx : ByteArray) (kv : Value) (w : World) :
    Calls Try.prog 62 #[.iface 117 (.agg #[.int .i64 kd, .int .i64 nm, .string tx, kv]), .agg #[.int .i64 kd, .int .i64 nm, .string tx, kv]] w fun e w' => e = .returned (.bool (saysNone nm tx)) ∧ Below w.heap.size w w' := by
  have as_number : ∀ (v : Value) (W : World), (Instr.typeAssert (.iface 117 v) 75 115 true).run Try.prog W = .ok (.tuple #[.agg #[.int .i64 0, .int .i64 0, .string ByteArray.empty, .slice none 0 0], .bool false]) W := fun v W => as_other Try.underlying115 (by decide) (by kernel_rfl) v W
  have as_use : ∀ (v : Value) (W : World), (Instr.typeAssert (.iface 117 v) 75 116 true).run Try.prog W = .ok (.tuple #[.agg #[.int .i64 0, .int .i64 0, .string ByteArray.empty, .slice none 0 0], .bool false]) W := fun v W => as_other Try.underlying116 (by decide) (by kernel_rfl) v W
  have as_call : ∀ (v : Value) (W : World), (Instr.typeAssert (.iface 117 v) 75 120 true).run Try.prog W = .ok (.tuple #[.agg #[.int .i64 0, .int .i64 0, .string ByteArray.empty, .slice none 0 0], .bool false]) W := fun v W => as_other Try.underlying120 (by decide) (by kernel_rfl) v W
  have as_hold : ∀ (v : Value) (W : World), (Instr.typeAssert (.iface 117 v) 75 121 true).run Try.prog W = .ok (.tuple #[.agg #[.int .i64 0, .int .i64 0, .string ByteArray.empty, .slice none 0 0], .bool false]) W := fun v W => as_other Try.underlying121 (by decide) (by kernel_rfl) v W
  by_cases h0 : nm = 0
  · by_cases h2 : tx.size = 0
    · have HE : Hid (saysNone nm tx = true) := by show _ = _; simp [saysNone, h0, h2]
      obtain rfl := text_none h2
      subst h0
      clear h2
      go_enter Try.func62, Try.ntmps62
      go_wp2
      go_ret
      exact ⟨by rw [HE.out]; rfl, by go_grown⟩
    · have HE : Hid (saysNone nm tx = false) := by show _ = _; simp [saysNone, h2]
      have e1 := text_some h2
      have e2 : (tx.toList == (⟨#[]⟩ : ByteArray).toList) = false := by rw [empty_listB]; exact e1
      subst h0
      clear h2
      go_enter Try.func62, Try.ntmps62
      go_wp2
      go_ret
      exact ⟨by rw [HE.out]; rfl, by go_grown⟩
  · have HE : Hid (saysNone nm tx = false) := by show _ = _; simp [saysNone, h0]
    have e1 : (nm == 0) = false := by simpa using h0
    clear h0
    go_enter Try.func62, Try.ntmps62
    go_wp2
    go_ret
    exact ⟨by rw [HE.out]; rfl, by go_grown⟩

set_option maxRecDepth 100000 in
set_option maxHeartbeats 1600000 in
theorem says_new (kd nm : Int) (tx : ByteArray) (kv : Value) (w : World) :
    Calls Try.prog 62 #[.iface 118 (.agg #[.int .i64 kd, .int .i64 nm, .string tx, kv]), .agg #[.int .i64 kd, .int .i64 nm, .string tx, kv]] w fun e w' => e = .returned (.bool (saysNone nm tx)) ∧ Below w.heap.size w w' := by
  have as_number : ∀ (v : Value) (W : World), (Instr.typeAssert (.iface 118 v) 75 115 true).run Try.prog W = .ok (.tuple #[.agg #[.int .i64 0, .int .i64 0, .string ByteArray.empty, .slice none 0 0], .bool false]) W := fun v W => as_other Try.underlying115 (by decide) (by kernel_rfl) v W
  have as_use : ∀ (v : Value) (W : World), (Instr.typeAssert (.iface 118 v) 75 116 true).run Try.prog W = .ok (.tuple #[.agg #[.int .i64 0, .int .i64 0, .string ByteArray.empty, .slice none 0 0], .bool false]) W := fun v W => as_other Try.underlying116 (by decide) (by kernel_rfl) v W
  have as_call : ∀ (v : Value) (W : World), (Instr.typeAssert (.iface 118 v) 75 120 true).run Try.prog W = .ok (.tuple #[.agg #[.int .i64 0, .int .i64 0, .string ByteArray.empty, .slice none 0 0], .bool false]) W := fun v W => as_other Try.underlying120 (by decide) (by kernel_rfl) v W
  have as_hold : ∀ (v : Value) (W : World), (Instr.typeAssert (.iface 118 v) 75 121 true).run Try.prog W = .ok (.tuple #[.agg #[.int .i64 0, .int .i64 0, .string ByteArray.empty, .slice none 0 0], .bool false]) W := fun v W => as_other Try.underlying121 (by decide) (by kernel_rfl) v W
  by_cases h0 : nm = 0
  · by_cases h2 : tx.size = 0
    · have HE : Hid (saysNone nm tx = true) := by show _ = _; simp [saysNone, h0, h2]
      obtain rfl := text_none h2
      subst h0
      clear h2
      go_enter Try.func62, Try.ntmps62
      go_wp2
      go_ret
      exact ⟨by rw [HE.out]; rfl, by go_grown⟩
    · have HE : Hid (saysNone nm tx = false) := by show _ = _; simp [saysNone, h2]
      have e1 := text_some h2
      have e2 : (tx.toList == (⟨#[]⟩ : ByteArray).toList) = false := by rw [empty_listB]; exact e1
      subst h0
      clear h2
      go_enter Try.func62, Try.ntmps62
      go_wp2
      go_ret
      exact ⟨by rw [HE.out]; rfl, by go_grown⟩
  · have HE : Hid (saysNone nm tx = false) := by show _ = _; simp [saysNone, h0]
    have e1 : (nm == 0) = false := by simpa using h0
    clear h0
    go_enter Try.func62, Try.ntmps62
    go_wp2
    go_ret
    exact ⟨by rw [HE.out]; rfl, by go_grown⟩

set_option maxRecDepth 100000 in
set_option maxHeartbeats 1600000 in
theorem says_pair (kd nm : Int) (tx : ByteArray) (kv : Value) (w : World) :
    Calls Try.prog 62 #[.iface 119 (.agg #[.int .i64 kd, .int .i64 nm, .string tx, kv]), .agg #[.int .i64 kd, .int .i64 nm, .string tx, kv]] w fun e w' => e = .returned (.bool (saysNone nm tx)) ∧ Below w.heap.size w w' := by
  have as_number : ∀ (v : Value) (W : World), (Instr.typeAssert (.iface 119 v) 75 115 true).run Try.prog W = .ok (.tuple #[.agg #[.int .i64 0, .int .i64 0, .string ByteArray.empty, .slice none 0 0], .bool false]) W := fun v W => as_other Try.underlying115 (by decide) (by kernel_rfl) v W
  have as_use : ∀ (v : Value) (W : World), (Instr.typeAssert (.iface 119 v) 75 116 true).run Try.prog W = .ok (.tuple #[.agg #[.int .i64 0, .int .i64 0, .string ByteArray.empty, .slice none 0 0], .bool false]) W := fun v W => as_other Try.underlying116 (by decide) (by kernel_rfl) v W
  have as_call : ∀ (v : Value) (W : World), (Instr.typeAssert (.iface 119 v) 75 120 true).run Try.prog W = .ok (.tuple #[.agg #[.int .i64 0, .int .i64 0, .string ByteArray.empty, .slice none 0 0], .bool false]) W := fun v W => as_other Try.underlying120 (by decide) (by kernel_rfl) v W
  have as_hold : ∀ (v : Value) (W : World), (Instr.typeAssert (.iface 119 v) 75 121 true).run Try.prog W = .ok (.tuple #[.agg #[.int .i64 0, .int .i64 0, .string ByteArray.empty, .slice none 0 0], .bool false]) W := fun v W => as_other Try.underlying121 (by decide) (by kernel_rfl) v W
  by_cases h0 : nm = 0
  · by_cases h2 : tx.size = 0
    · have HE : Hid (saysNone nm tx = true) := by show _ = _; simp [saysNone, h0, h2]
      obtain rfl := text_none h2
      subst h0
      clear h2
      go_enter Try.func62, Try.ntmps62
      go_wp2
      go_ret
      exact ⟨by rw [HE.out]; rfl, by go_grown⟩
    · have HE : Hid (saysNone nm tx = false) := by show _ = _; simp [saysNone, h2]
      have e1 := text_some h2
      have e2 : (tx.toList == (⟨#[]⟩ : ByteArray).toList) = false := by rw [empty_listB]; exact e1
      subst h0
      clear h2
      go_enter Try.func62, Try.ntmps62
      go_wp2
      go_ret
      exact ⟨by rw [HE.out]; rfl, by go_grown⟩
  · have HE : Hid (saysNone nm tx = false) := by show _ = _; simp [saysNone, h0]
    have e1 : (nm == 0) = false := by simpa using h0
    clear h0
    go_enter Try.func62, Try.ntmps62
    go_wp2
    go_ret
    exact ⟨by rw [HE.out]; rfl, by go_grown⟩

set_option maxRecDepth 100000 in
set_option maxHeartbeats 1600000 in
theorem says_call (kd nm : Int) (tx : ByteArray) (kv : Value) (w : World) (ht : tx.size ≤ 1048576) :
    Calls Try.prog 62 #[.iface 120 (.agg #[.int .i64 kd, .int .i64 nm, .string tx, kv]), .agg #[.int .i64 kd, .int .i64 nm, .string tx, kv]] w fun e w' => e = .returned (.bool (saysName nm tx)) ∧ Below w.heap.size w w' := by
  have as_number : ∀ (v : Value) (W : World), (Instr.typeAssert (.iface 120 v) 75 115 true).run Try.prog W = .ok (.tuple #[.agg #[.int .i64 0, .int .i64 0, .string ByteArray.empty, .slice none 0 0], .bool false]) W := fun v W => as_other Try.underlying115 (by decide) (by kernel_rfl) v W
  have as_use : ∀ (v : Value) (W : World), (Instr.typeAssert (.iface 120 v) 75 116 true).run Try.prog W = .ok (.tuple #[.agg #[.int .i64 0, .int .i64 0, .string ByteArray.empty, .slice none 0 0], .bool false]) W := fun v W => as_other Try.underlying116 (by decide) (by kernel_rfl) v W
  have as_call : ∀ (v : Value) (W : World), (Instr.typeAssert (.iface 120 v) 75 120 true).run Try.prog W = .ok (.tuple #[v, .bool true]) W := fun v W => as_same Try.underlying120 v W
  have as_hold : ∀ (v : Value) (W : World), (Instr.typeAssert (.iface 120 v) 75 121 true).run Try.prog W = .ok (.tuple #[.agg #[.int .i64 0, .int .i64 0, .string ByteArray.empty, .slice none 0 0], .bool false]) W := fun v W => as_other Try.underlying121 (by decide) (by kernel_rfl) v W
  by_cases h0 : nm = 0
  · obtain ⟨ok, hok⟩ : ∃ r, Hid (nameOk tx = r) := ⟨_, (rfl : nameOk tx = nameOk tx)⟩
    have cO : Hid (∀ W, Calls Try.prog 18 #[.string tx] W fun e w' => e = .returned (.bool ok) ∧ Below W.heap.size W w') := fun W => by rw [← hok.out]; exact implNameOk_any tx W (Nat.le_trans ht (by unfold maxLen; omega))
    have HE : Hid (saysName nm tx = ok) := by show _ = _; simp [saysName, h0, hok.out]
    subst h0
    go_enter Try.func62, Try.ntmps62
    go_wp2_with (go_at_call 18; refine Calls.mono (cO.out _) ?_; rintro e w1 ⟨rfl, hb⟩)
    go_ret
    exact ⟨by rw [HE.out]; rfl, ((Below.refl _ _).alloc (Nat.le_refl _) _).trans (hb.mono (by simp))⟩
  · have HE : Hid (saysName nm tx = false) := by show _ = _; simp [saysName, h0]
    have e1 : (nm == 0) = false := by simpa using h0
    clear h0
    go_enter Try.func62, Try.ntmps62
    go_wp2
    go_ret
    exact ⟨by rw [HE.out]; rfl, by go_grown⟩

set_option maxRecDepth 100000 in
set_option maxHeartbeats 1600000 in
theorem says_hold (kd nm : Int) (tx : ByteArray) (kv : Value) (w : World) (ht : tx.size ≤ 1048576) :
    Calls Try.prog 62 #[.iface 121 (.agg #[.int .i64 kd, .int .i64 nm, .string tx, kv]), .agg #[.int .i64 kd, .int .i64 nm, .string tx, kv]] w fun e w' => e = .returned (.bool (saysName nm tx)) ∧ Below w.heap.size w w' := by
  have as_number : ∀ (v : Value) (W : World), (Instr.typeAssert (.iface 121 v) 75 115 true).run Try.prog W = .ok (.tuple #[.agg #[.int .i64 0, .int .i64 0, .string ByteArray.empty, .slice none 0 0], .bool false]) W := fun v W => as_other Try.underlying115 (by decide) (by kernel_rfl) v W
  have as_use : ∀ (v : Value) (W : World), (Instr.typeAssert (.iface 121 v) 75 116 true).run Try.prog W = .ok (.tuple #[.agg #[.int .i64 0, .int .i64 0, .string ByteArray.empty, .slice none 0 0], .bool false]) W := fun v W => as_other Try.underlying116 (by decide) (by kernel_rfl) v W
  have as_call : ∀ (v : Value) (W : World), (Instr.typeAssert (.iface 121 v) 75 120 true).run Try.prog W = .ok (.tuple #[.agg #[.int .i64 0, .int .i64 0, .string ByteArray.empty, .slice none 0 0], .bool false]) W := fun v W => as_other Try.underlying120 (by decide) (by kernel_rfl) v W
  have as_hold : ∀ (v : Value) (W : World), (Instr.typeAssert (.iface 121 v) 75 121 true).run Try.prog W = .ok (.tuple #[v, .bool true]) W := fun v W => as_same Try.underlying121 v W
  by_cases h0 : nm = 0
  · obtain ⟨ok, hok⟩ : ∃ r, Hid (nameOk tx = r) := ⟨_, (rfl : nameOk tx = nameOk tx)⟩
    have cO : Hid (∀ W, Calls Try.prog 18 #[.string tx] W fun e w' => e = .returned (.bool ok) ∧ Below W.heap.size W w') := fun W => by rw [← hok.out]; exact implNameOk_any tx W (Nat.le_trans ht (by unfold maxLen; omega))
    have HE : Hid (saysName nm tx = ok) := by show _ = _; simp [saysName, h0, hok.out]
    subst h0
    go_enter Try.func62, Try.ntmps62
    go_wp2_with (go_at_call 18; refine Calls.mono (cO.out _) ?_; rintro e w1 ⟨rfl, hb⟩)
    go_ret
    exact ⟨by rw [HE.out]; rfl, ((Below.refl _ _).alloc (Nat.le_refl _) _).trans (hb.mono (by simp))⟩
  · have HE : Hid (saysName nm tx = false) := by show _ = _; simp [saysName, h0]
    have e1 : (nm == 0) = false := by simpa using h0
    clear h0
    go_enter Try.func62, Try.ntmps62
    go_wp2
    go_ret
    exact ⟨by rw [HE.out]; rfl, by go_grown⟩

set_option maxRecDepth 100000 in
set_option maxHeartbeats 1600000 in
theorem says_if (kd nm : Int) (tx : ByteArray) (kv : Value) (w : World) :
    Calls Try.prog 62 #[.iface 122 (.agg #[.int .i64 kd, .int .i64 nm, .string tx, kv]), .agg #[.int .i64 kd, .int .i64 nm, .string tx, kv]] w fun e w' => e = .returned (.bool (saysNone nm tx)) ∧ Below w.heap.size w w' := by
  have as_number : ∀ (v : Value) (W : World), (Instr.typeAssert (.iface 122 v) 75 115 true).run Try.prog W = .ok (.tuple #[.agg #[.int .i64 0, .int .i64 0, .string ByteArray.empty, .slice none 0 0], .bool false]) W := fun v W => as_other Try.underlying115 (by decide) (by kernel_rfl) v W
  have as_use : ∀ (v : Value) (W : World), (Instr.typeAssert (.iface 122 v) 75 116 true).run Try.prog W = .ok (.tuple #[.agg #[.int .i64 0, .int .i64 0, .string ByteArray.empty, .slice none 0 0], .bool false]) W := fun v W => as_other Try.underlying116 (by decide) (by kernel_rfl) v W
  have as_call : ∀ (v : Value) (W : World), (Instr.typeAssert (.iface 122 v) 75 120 true).run Try.prog W = .ok (.tuple #[.agg #[.int .i64 0, .int .i64 0, .string ByteArray.empty, .slice none 0 0], .bool false]) W := fun v W => as_other Try.underlying120 (by decide) (by kernel_rfl) v W
  have as_hold : ∀ (v : Value) (W : World), (Instr.typeAssert (.iface 122 v) 75 121 true).run Try.prog W = .ok (.tuple #[.agg #[.int .i64 0, .int .i64 0, .string ByteArray.empty, .slice none 0 0], .bool false]) W := fun v W => as_other Try.underlying121 (by decide) (by kernel_rfl) v W
  by_cases h0 : nm = 0
  · by_cases h2 : tx.size = 0
    · have HE : Hid (saysNone nm tx = true) := by show _ = _; simp [saysNone, h0, h2]
      obtain rfl := text_none h2
      subst h0
      clear h2
      go_enter Try.func62, Try.ntmps62
      go_wp2
      go_ret
      exact ⟨by rw [HE.out]; rfl, by go_grown⟩
    · have HE : Hid (saysNone nm tx = false) := by show _ = _; simp [saysNone, h2]
      have e1 := text_some h2
      have e2 : (tx.toList == (⟨#[]⟩ : ByteArray).toList) = false := by rw [empty_listB]; exact e1
      subst h0
      clear h2
      go_enter Try.func62, Try.ntmps62
      go_wp2
      go_ret
      exact ⟨by rw [HE.out]; rfl, by go_grown⟩
  · have HE : Hid (saysNone nm tx = false) := by show _ = _; simp [saysNone, h0]
    have e1 : (nm == 0) = false := by simpa using h0
    clear h0
    go_enter Try.func62, Try.ntmps62
    go_wp2
    go_ret
    exact ⟨by rw [HE.out]; rfl, by go_grown⟩

set_option maxRecDepth 100000 in
set_option maxHeartbeats 1600000 in
theorem says_while (kd nm : Int) (tx : ByteArray) (kv : Value) (w : World) :
    Calls Try.prog 62 #[.iface 123 (.agg #[.int .i64 kd, .int .i64 nm, .string tx, kv]), .agg #[.int .i64 kd, .int .i64 nm, .string tx, kv]] w fun e w' => e = .returned (.bool (saysNone nm tx)) ∧ Below w.heap.size w w' := by
  have as_number : ∀ (v : Value) (W : World), (Instr.typeAssert (.iface 123 v) 75 115 true).run Try.prog W = .ok (.tuple #[.agg #[.int .i64 0, .int .i64 0, .string ByteArray.empty, .slice none 0 0], .bool false]) W := fun v W => as_other Try.underlying115 (by decide) (by kernel_rfl) v W
  have as_use : ∀ (v : Value) (W : World), (Instr.typeAssert (.iface 123 v) 75 116 true).run Try.prog W = .ok (.tuple #[.agg #[.int .i64 0, .int .i64 0, .string ByteArray.empty, .slice none 0 0], .bool false]) W := fun v W => as_other Try.underlying116 (by decide) (by kernel_rfl) v W
  have as_call : ∀ (v : Value) (W : World), (Instr.typeAssert (.iface 123 v) 75 120 true).run Try.prog W = .ok (.tuple #[.agg #[.int .i64 0, .int .i64 0, .string ByteArray.empty, .slice none 0 0], .bool false]) W := fun v W => as_other Try.underlying120 (by decide) (by kernel_rfl) v W
  have as_hold : ∀ (v : Value) (W : World), (Instr.typeAssert (.iface 123 v) 75 121 true).run Try.prog W = .ok (.tuple #[.agg #[.int .i64 0, .int .i64 0, .string ByteArray.empty, .slice none 0 0], .bool false]) W := fun v W => as_other Try.underlying121 (by decide) (by kernel_rfl) v W
  by_cases h0 : nm = 0
  · by_cases h2 : tx.size = 0
    · have HE : Hid (saysNone nm tx = true) := by show _ = _; simp [saysNone, h0, h2]
      obtain rfl := text_none h2
      subst h0
      clear h2
      go_enter Try.func62, Try.ntmps62
      go_wp2
      go_ret
      exact ⟨by rw [HE.out]; rfl, by go_grown⟩
    · have HE : Hid (saysNone nm tx = false) := by show _ = _; simp [saysNone, h2]
      have e1 := text_some h2
      have e2 : (tx.toList == (⟨#[]⟩ : ByteArray).toList) = false := by rw [empty_listB]; exact e1
      subst h0
      clear h2
      go_enter Try.func62, Try.ntmps62
      go_wp2
      go_ret
      exact ⟨by rw [HE.out]; rfl, by go_grown⟩
  · have HE : Hid (saysNone nm tx = false) := by show _ = _; simp [saysNone, h0]
    have e1 : (nm == 0) = false := by simpa using h0
    clear h0
    go_enter Try.func62, Try.ntmps62
    go_wp2
    go_ret
    exact ⟨by rw [HE.out]; rfl, by go_grown⟩

set_option maxRecDepth 100000 in
set_option maxHeartbeats 1600000 in
theorem says_print (kd nm : Int) (tx : ByteArray) (kv : Value) (w : World) :
    Calls Try.prog 62 #[.iface 124 (.agg #[.int .i64 kd, .int .i64 nm, .string tx, kv]), .agg #[.int .i64 kd, .int .i64 nm, .string tx, kv]] w fun e w' => e = .returned (.bool (saysNone nm tx)) ∧ Below w.heap.size w w' := by
  have as_number : ∀ (v : Value) (W : World), (Instr.typeAssert (.iface 124 v) 75 115 true).run Try.prog W = .ok (.tuple #[.agg #[.int .i64 0, .int .i64 0, .string ByteArray.empty, .slice none 0 0], .bool false]) W := fun v W => as_other Try.underlying115 (by decide) (by kernel_rfl) v W
  have as_use : ∀ (v : Value) (W : World), (Instr.typeAssert (.iface 124 v) 75 116 true).run Try.prog W = .ok (.tuple #[.agg #[.int .i64 0, .int .i64 0, .string ByteArray.empty, .slice none 0 0], .bool false]) W := fun v W => as_other Try.underlying116 (by decide) (by kernel_rfl) v W
  have as_call : ∀ (v : Value) (W : World), (Instr.typeAssert (.iface 124 v) 75 120 true).run Try.prog W = .ok (.tuple #[.agg #[.int .i64 0, .int .i64 0, .string ByteArray.empty, .slice none 0 0], .bool false]) W := fun v W => as_other Try.underlying120 (by decide) (by kernel_rfl) v W
  have as_hold : ∀ (v : Value) (W : World), (Instr.typeAssert (.iface 124 v) 75 121 true).run Try.prog W = .ok (.tuple #[.agg #[.int .i64 0, .int .i64 0, .string ByteArray.empty, .slice none 0 0], .bool false]) W := fun v W => as_other Try.underlying121 (by decide) (by kernel_rfl) v W
  by_cases h0 : nm = 0
  · by_cases h2 : tx.size = 0
    · have HE : Hid (saysNone nm tx = true) := by show _ = _; simp [saysNone, h0, h2]
      obtain rfl := text_none h2
      subst h0
      clear h2
      go_enter Try.func62, Try.ntmps62
      go_wp2
      go_ret
      exact ⟨by rw [HE.out]; rfl, by go_grown⟩
    · have HE : Hid (saysNone nm tx = false) := by show _ = _; simp [saysNone, h2]
      have e1 := text_some h2
      have e2 : (tx.toList == (⟨#[]⟩ : ByteArray).toList) = false := by rw [empty_listB]; exact e1
      subst h0
      clear h2
      go_enter Try.func62, Try.ntmps62
      go_wp2
      go_ret
      exact ⟨by rw [HE.out]; rfl, by go_grown⟩
  · have HE : Hid (saysNone nm tx = false) := by show _ = _; simp [saysNone, h0]
    have e1 : (nm == 0) = false := by simpa using h0
    clear h0
    go_enter Try.func62, Try.ntmps62
    go_wp2
    go_ret
    exact ⟨by rw [HE.out]; rfl, by go_grown⟩

set_option maxRecDepth 100000 in
set_option maxHeartbeats 1600000 in
theorem says_do (kd nm : Int) (tx : ByteArray) (kv : Value) (w : World) :
    Calls Try.prog 62 #[.iface 125 (.agg #[.int .i64 kd, .int .i64 nm, .string tx, kv]), .agg #[.int .i64 kd, .int .i64 nm, .string tx, kv]] w fun e w' => e = .returned (.bool (saysNone nm tx)) ∧ Below w.heap.size w w' := by
  have as_number : ∀ (v : Value) (W : World), (Instr.typeAssert (.iface 125 v) 75 115 true).run Try.prog W = .ok (.tuple #[.agg #[.int .i64 0, .int .i64 0, .string ByteArray.empty, .slice none 0 0], .bool false]) W := fun v W => as_other Try.underlying115 (by decide) (by kernel_rfl) v W
  have as_use : ∀ (v : Value) (W : World), (Instr.typeAssert (.iface 125 v) 75 116 true).run Try.prog W = .ok (.tuple #[.agg #[.int .i64 0, .int .i64 0, .string ByteArray.empty, .slice none 0 0], .bool false]) W := fun v W => as_other Try.underlying116 (by decide) (by kernel_rfl) v W
  have as_call : ∀ (v : Value) (W : World), (Instr.typeAssert (.iface 125 v) 75 120 true).run Try.prog W = .ok (.tuple #[.agg #[.int .i64 0, .int .i64 0, .string ByteArray.empty, .slice none 0 0], .bool false]) W := fun v W => as_other Try.underlying120 (by decide) (by kernel_rfl) v W
  have as_hold : ∀ (v : Value) (W : World), (Instr.typeAssert (.iface 125 v) 75 121 true).run Try.prog W = .ok (.tuple #[.agg #[.int .i64 0, .int .i64 0, .string ByteArray.empty, .slice none 0 0], .bool false]) W := fun v W => as_other Try.underlying121 (by decide) (by kernel_rfl) v W
  by_cases h0 : nm = 0
  · by_cases h2 : tx.size = 0
    · have HE : Hid (saysNone nm tx = true) := by show _ = _; simp [saysNone, h0, h2]
      obtain rfl := text_none h2
      subst h0
      clear h2
      go_enter Try.func62, Try.ntmps62
      go_wp2
      go_ret
      exact ⟨by rw [HE.out]; rfl, by go_grown⟩
    · have HE : Hid (saysNone nm tx = false) := by show _ = _; simp [saysNone, h2]
      have e1 := text_some h2
      have e2 : (tx.toList == (⟨#[]⟩ : ByteArray).toList) = false := by rw [empty_listB]; exact e1
      subst h0
      clear h2
      go_enter Try.func62, Try.ntmps62
      go_wp2
      go_ret
      exact ⟨by rw [HE.out]; rfl, by go_grown⟩
  · have HE : Hid (saysNone nm tx = false) := by show _ = _; simp [saysNone, h0]
    have e1 : (nm == 0) = false := by simpa using h0
    clear h0
    go_enter Try.func62, Try.ntmps62
    go_wp2
    go_ret
    exact ⟨by rw [HE.out]; rfl, by go_grown⟩

set_option maxRecDepth 100000 in
set_option maxHeartbeats 1600000 in
theorem says_block (kd nm : Int) (tx : ByteArray) (kv : Value) (w : World) :
    Calls Try.prog 62 #[.iface 126 (.agg #[.int .i64 kd, .int .i64 nm, .string tx, kv]), .agg #[.int .i64 kd, .int .i64 nm, .string tx, kv]] w fun e w' => e = .returned (.bool (saysNone nm tx)) ∧ Below w.heap.size w w' := by
  have as_number : ∀ (v : Value) (W : World), (Instr.typeAssert (.iface 126 v) 75 115 true).run Try.prog W = .ok (.tuple #[.agg #[.int .i64 0, .int .i64 0, .string ByteArray.empty, .slice none 0 0], .bool false]) W := fun v W => as_other Try.underlying115 (by decide) (by kernel_rfl) v W
  have as_use : ∀ (v : Value) (W : World), (Instr.typeAssert (.iface 126 v) 75 116 true).run Try.prog W = .ok (.tuple #[.agg #[.int .i64 0, .int .i64 0, .string ByteArray.empty, .slice none 0 0], .bool false]) W := fun v W => as_other Try.underlying116 (by decide) (by kernel_rfl) v W
  have as_call : ∀ (v : Value) (W : World), (Instr.typeAssert (.iface 126 v) 75 120 true).run Try.prog W = .ok (.tuple #[.agg #[.int .i64 0, .int .i64 0, .string ByteArray.empty, .slice none 0 0], .bool false]) W := fun v W => as_other Try.underlying120 (by decide) (by kernel_rfl) v W
  have as_hold : ∀ (v : Value) (W : World), (Instr.typeAssert (.iface 126 v) 75 121 true).run Try.prog W = .ok (.tuple #[.agg #[.int .i64 0, .int .i64 0, .string ByteArray.empty, .slice none 0 0], .bool false]) W := fun v W => as_other Try.underlying121 (by decide) (by kernel_rfl) v W
  by_cases h0 : nm = 0
  · by_cases h2 : tx.size = 0
    · have HE : Hid (saysNone nm tx = true) := by show _ = _; simp [saysNone, h0, h2]
      obtain rfl := text_none h2
      subst h0
      clear h2
      go_enter Try.func62, Try.ntmps62
      go_wp2
      go_ret
      exact ⟨by rw [HE.out]; rfl, by go_grown⟩
    · have HE : Hid (saysNone nm tx = false) := by show _ = _; simp [saysNone, h2]
      have e1 := text_some h2
      have e2 : (tx.toList == (⟨#[]⟩ : ByteArray).toList) = false := by rw [empty_listB]; exact e1
      subst h0
      clear h2
      go_enter Try.func62, Try.ntmps62
      go_wp2
      go_ret
      exact ⟨by rw [HE.out]; rfl, by go_grown⟩
  · have HE : Hid (saysNone nm tx = false) := by show _ = _; simp [saysNone, h0]
    have e1 : (nm == 0) = false := by simpa using h0
    clear h0
    go_enter Try.func62, Try.ntmps62
    go_wp2
    go_ret
    exact ⟨by rw [HE.out]; rfl, by go_grown⟩


end Go.Proofs.Ytjafneaaefpefaa

namespace Go.Proofs.Ytjafneaaefpefaa
open Go.RowKit

def tkLen0 (ks : List Int) : Bool := decide (ks.length = 0)
def tkVal (n : Nat) (ks : List Int) : Bool := decide (ks.length = n) && ks.all isVal
def tkCall (ks : List Int) : Bool := decide (ks.length ≤ 3) && ks.all isVal
def tkBlk (ks : List Int) : Bool := decide (ks.length ≤ 12) && ks.all isStm
def tkDo (ks : List Int) : Bool := decide (ks.length = 1) && decide (ks.getD 0 0 = 12)
def tkIf (ks : List Int) : Bool := decide (ks.length = 3) && isVal (ks.getD 0 0) && decide (ks.getD 1 0 = 20) && decide (ks.getD 2 0 = 20)
def tkWhile (ks : List Int) : Bool := decide (ks.length = 2) && isVal (ks.getD 0 0) && decide (ks.getD 1 0 = 20)

theorem cell_old (w : World) (o : Obj) {b j : Nat} (h : b < w.heap.size) : (w.alloc o).cell? ⟨b, j, none⟩ = w.cell? ⟨b, j, none⟩ := by
  simp [World.cell?, Below.heap_alloc w o b h]

set_option maxRecDepth 100000 in
set_option maxHeartbeats 1600000 in
theorem takes_number (B : Nat) (kd nm : Int) (tx : ByteArray) (kv v : Value) (ks : List Int) (w : World) (_hB : B ≤ w.heap.size) (hv : RowI w B v ks) (hl : ks.length ≤ 12) :
    Calls Try.prog 129 #[.agg #[.int .i64 kd, .int .i64 nm, .string tx, kv], v] w fun e w' => e = .returned (.bool (tkLen0 ks)) ∧ Below w.heap.size w w' := by
  obtain ⟨a, cap, rfl⟩ := hv.len
  obtain ⟨N, HN⟩ : ∃ N, Hid (ks.length = N) := ⟨_, (rfl : ks.length = ks.length)⟩
  have HE : Hid (tkLen0 ks = decide (N = 0)) := by show _ = _; simp [tkLen0, HN.out]
  rw [HN.out] at hl ⊢
  clear hv
  by_cases h : N = 0
  · subst h
    go_enter Try.func129, Try.ntmps129
    go_wp2
    go_ret
    exact ⟨by rw [HE.out]; rfl, by go_grown⟩
  · have HE2 : Hid (tkLen0 ks = false) := by show _ = _; rw [HE.out]; simpa using h
    have h1 : ((N : Int) == 0) = false := by simp; omega
    go_enter Try.func129, Try.ntmps129
    go_wp2
    go_ret
    exact ⟨by rw [HE2.out]; rfl, by go_grown⟩

set_option maxRecDepth 100000 in
set_option maxHeartbeats 1600000 in
theorem takes_use (B : Nat) (kd nm : Int) (tx : ByteArray) (kv v : Value) (ks : List Int) (w : World) (_hB : B ≤ w.heap.size) (hv : RowI w B v ks) (hl : ks.length ≤ 12) :
    Calls Try.prog 130 #[.agg #[.int .i64 kd, .int .i64 nm, .string tx, kv], v] w fun e w' => e = .returned (.bool (tkLen0 ks)) ∧ Below w.heap.size w w' := by
  obtain ⟨a, cap, rfl⟩ := hv.len
  obtain ⟨N, HN⟩ : ∃ N, Hid (ks.length = N) := ⟨_, (rfl : ks.length = ks.length)⟩
  have HE : Hid (tkLen0 ks = decide (N = 0)) := by show _ = _; simp [tkLen0, HN.out]
  rw [HN.out] at hl ⊢
  clear hv
  by_cases h : N = 0
  · subst h
    go_enter Try.func130, Try.ntmps130
    go_wp2
    go_ret
    exact ⟨by rw [HE.out]; rfl, by go_grown⟩
  · have HE2 : Hid (tkLen0 ks = false) := by show _ = _; rw [HE.out]; simpa using h
    have h1 : ((N : Int) == 0) = false := by simp; omega
    go_enter Try.func130, Try.ntmps130
    go_wp2
    go_ret
    exact ⟨by rw [HE2.out]; rfl, by go_grown⟩

set_option maxRecDepth 100000 in
set_option maxHeartbeats 1600000 in
theorem takes_input (B : Nat) (kd nm : Int) (tx : ByteArray) (kv v : Value) (ks : List Int) (w : World) (_hB : B ≤ w.heap.size) (hv : RowI w B v ks) (hl : ks.length ≤ 12) :
    Calls Try.prog 131 #[.agg #[.int .i64 kd, .int .i64 nm, .string tx, kv], v] w fun e w' => e = .returned (.bool (tkLen0 ks)) ∧ Below w.heap.size w w' := by
  obtain ⟨a, cap, rfl⟩ := hv.len
  obtain ⟨N, HN⟩ : ∃ N, Hid (ks.length = N) := ⟨_, (rfl : ks.length = ks.length)⟩
  have HE : Hid (tkLen0 ks = decide (N = 0)) := by show _ = _; simp [tkLen0, HN.out]
  rw [HN.out] at hl ⊢
  clear hv
  by_cases h : N = 0
  · subst h
    go_enter Try.func131, Try.ntmps131
    go_wp2
    go_ret
    exact ⟨by rw [HE.out]; rfl, by go_grown⟩
  · have HE2 : Hid (tkLen0 ks = false) := by show _ = _; rw [HE.out]; simpa using h
    have h1 : ((N : Int) == 0) = false := by simp; omega
    go_enter Try.func131, Try.ntmps131
    go_wp2
    go_ret
    exact ⟨by rw [HE2.out]; rfl, by go_grown⟩

set_option maxRecDepth 100000 in
set_option maxHeartbeats 1600000 in
theorem takes_new (B : Nat) (kd nm : Int) (tx : ByteArray) (kv v : Value) (ks : List Int) (w : World) (hB : B ≤ w.heap.size) (hv : RowI w B v ks) (hl : ks.length ≤ 12) :
    Calls Try.prog 132 #[.agg #[.int .i64 kd, .int .i64 nm, .string tx, kv], v] w fun e w' => e = .returned (.bool (tkVal 1 ks)) ∧ Below w.heap.size w w' := by
  obtain ⟨a, cap, rfl⟩ := hv.len
  obtain ⟨N, HN⟩ : ∃ N, Hid (ks.length = N) := ⟨_, (rfl : ks.length = ks.length)⟩
  obtain ⟨r, hr⟩ : ∃ r, Hid (ks.all isVal = r) := ⟨_, (rfl : ks.all isVal = ks.all isVal)⟩
  have cA : Hid (∀ W, Below w.heap.size w W → Calls Try.prog 133 #[.slice a N cap, .func (.func 108) #[] #[]] W fun e w' => e = .returned (.bool r) ∧ Below W.heap.size W w') := fun W hW => by
    rw [← hr.out, ← HN.out]
    exact allVal_any B _ ks W (Nat.le_trans hB hW.size) (hv.keep (hW.mono hB)) (by omega)
  have HE : Hid (tkVal 1 ks = (decide (N = 1) && r)) := by show _ = _; simp [tkVal, HN.out, hr.out]
  rw [HN.out] at hl ⊢
  clear hv
  by_cases h : N = 1
  · have HE2 : Hid (tkVal 1 ks = r) := by show _ = _; rw [HE.out]; simp [h]
    subst h
    go_enter Try.func132, Try.ntmps132
    go_wp2_with fail
    go_at_call 133
    refine Calls.mono (cA.out _ (by go_grown)) ?_
    rintro e w1 ⟨rfl, hb⟩
    have HB : Hid (Below w.heap.size w w1) := ((Below.refl _ _).alloc (Nat.le_refl _) _).trans (hb.mono (by simp))
    clear hb
    go_wp2
    go_ret
    exact ⟨by rw [HE2.out]; rfl, HB.out⟩
  · have HE2 : Hid (tkVal 1 ks = false) := by show _ = _; rw [HE.out]; simp [h]
    have h1 : ((N : Int) == 1) = false := by simp; omega
    go_enter Try.func132, Try.ntmps132
    go_wp2
    go_ret
    exact ⟨by rw [HE2.out]; rfl, by go_grown⟩

set_option maxRecDepth 100000 in
set_option maxHeartbeats 1600000 in
theorem takes_pair (B : Nat) (kd nm : Int) (tx : ByteArray) (kv v : Value) (ks : List Int) (w : World) (hB : B ≤ w.heap.size) (hv : RowI w B v ks) (hl : ks.length ≤ 12) :
    Calls Try.prog 134 #[.agg #[.int .i64 kd, .int .i64 nm, .string tx, kv], v] w fun e w' => e = .returned (.bool (tkVal 2 ks)) ∧ Below w.heap.size w w' := by
  obtain ⟨a, cap, rfl⟩ := hv.len
  obtain ⟨N, HN⟩ : ∃ N, Hid (ks.length = N) := ⟨_, (rfl : ks.length = ks.length)⟩
  obtain ⟨r, hr⟩ : ∃ r, Hid (ks.all isVal = r) := ⟨_, (rfl : ks.all isVal = ks.all isVal)⟩
  have cA : Hid (∀ W, Below w.heap.size w W → Calls Try.prog 133 #[.slice a N cap, .func (.func 108) #[] #[]] W fun e w' => e = .returned (.bool r) ∧ Below W.heap.size W w') := fun W hW => by
    rw [← hr.out, ← HN.out]
    exact allVal_any B _ ks W (Nat.le_trans hB hW.size) (hv.keep (hW.mono hB)) (by omega)
  have HE : Hid (tkVal 2 ks = (decide (N = 2) && r)) := by show _ = _; simp [tkVal, HN.out, hr.out]
  rw [HN.out] at hl ⊢
  clear hv
  by_cases h : N = 2
  · have HE2 : Hid (tkVal 2 ks = r) := by show _ = _; rw [HE.out]; simp [h]
    subst h
    go_enter Try.func134, Try.ntmps134
    go_wp2_with fail
    go_at_call 133
    refine Calls.mono (cA.out _ (by go_grown)) ?_
    rintro e w1 ⟨rfl, hb⟩
    have HB : Hid (Below w.heap.size w w1) := ((Below.refl _ _).alloc (Nat.le_refl _) _).trans (hb.mono (by simp))
    clear hb
    go_wp2
    go_ret
    exact ⟨by rw [HE2.out]; rfl, HB.out⟩
  · have HE2 : Hid (tkVal 2 ks = false) := by show _ = _; rw [HE.out]; simp [h]
    have h1 : ((N : Int) == 2) = false := by simp; omega
    go_enter Try.func134, Try.ntmps134
    go_wp2
    go_ret
    exact ⟨by rw [HE2.out]; rfl, by go_grown⟩

set_option maxRecDepth 100000 in
set_option maxHeartbeats 1600000 in
theorem takes_call (B : Nat) (kd nm : Int) (tx : ByteArray) (kv v : Value) (ks : List Int) (w : World) (hB : B ≤ w.heap.size) (hv : RowI w B v ks) (hl : ks.length ≤ 12) :
    Calls Try.prog 135 #[.agg #[.int .i64 kd, .int .i64 nm, .string tx, kv], v] w fun e w' => e = .returned (.bool (tkCall ks)) ∧ Below w.heap.size w w' := by
  obtain ⟨a, cap, rfl⟩ := hv.len
  obtain ⟨N, HN⟩ : ∃ N, Hid (ks.length = N) := ⟨_, (rfl : ks.length = ks.length)⟩
  obtain ⟨r, hr⟩ : ∃ r, Hid (ks.all isVal = r) := ⟨_, (rfl : ks.all isVal = ks.all isVal)⟩
  have cA : Hid (∀ W, Below w.heap.size w W → Calls Try.prog 133 #[.slice a N cap, .func (.func 108) #[] #[]] W fun e w' => e = .returned (.bool r) ∧ Below W.heap.size W w') := fun W hW => by
    rw [← hr.out, ← HN.out]
    exact allVal_any B _ ks W (Nat.le_trans hB hW.size) (hv.keep (hW.mono hB)) (by omega)
  have HE : Hid (tkCall ks = (decide (N ≤ 3) && r)) := by show _ = _; simp [tkCall, HN.out, hr.out]
  rw [HN.out] at hl ⊢
  clear hv
  by_cases h : N ≤ 3
  · have HE2 : Hid (tkCall ks = r) := by show _ = _; rw [HE.out]; simp [h]
    have h1 : (N : Int) ≤ 3 := by omega
    go_enter Try.func135, Try.ntmps135
    go_wp2_with fail
    go_at_call 133
    refine Calls.mono (cA.out _ (by go_grown)) ?_
    rintro e w1 ⟨rfl, hb⟩
    have HB : Hid (Below w.heap.size w w1) := ((Below.refl _ _).alloc (Nat.le_refl _) _).trans (hb.mono (by simp))
    clear hb
    go_wp2
    go_ret
    exact ⟨by rw [HE2.out]; rfl, HB.out⟩
  · have HE2 : Hid (tkCall ks = false) := by show _ = _; rw [HE.out]; simp [h]
    have h1 : ¬ (N : Int) ≤ 3 := by omega
    go_enter Try.func135, Try.ntmps135
    go_wp2
    go_ret
    exact ⟨by rw [HE2.out]; rfl, by go_grown⟩

set_option maxRecDepth 100000 in
set_option maxHeartbeats 1600000 in
theorem takes_hold (B : Nat) (kd nm : Int) (tx : ByteArray) (kv v : Value) (ks : List Int) (w : World) (hB : B ≤ w.heap.size) (hv : RowI w B v ks) (hl : ks.length ≤ 12) :
    Calls Try.prog 136 #[.agg #[.int .i64 kd, .int .i64 nm, .string tx, kv], v] w fun e w' => e = .returned (.bool (tkVal 1 ks)) ∧ Below w.heap.size w w' := by
  obtain ⟨a, cap, rfl⟩ := hv.len
  obtain ⟨N, HN⟩ : ∃ N, Hid (ks.length = N) := ⟨_, (rfl : ks.length = ks.length)⟩
  obtain ⟨r, hr⟩ : ∃ r, Hid (ks.all isVal = r) := ⟨_, (rfl : ks.all isVal = ks.all isVal)⟩
  have cA : Hid (∀ W, Below w.heap.size w W → Calls Try.prog 133 #[.slice a N cap, .func (.func 108) #[] #[]] W fun e w' => e = .returned (.bool r) ∧ Below W.heap.size W w') := fun W hW => by
    rw [← hr.out, ← HN.out]
    exact allVal_any B _ ks W (Nat.le_trans hB hW.size) (hv.keep (hW.mono hB)) (by omega)
  have HE : Hid (tkVal 1 ks = (decide (N = 1) && r)) := by show _ = _; simp [tkVal, HN.out, hr.out]
  rw [HN.out] at hl ⊢
  clear hv
  by_cases h : N = 1
  · have HE2 : Hid (tkVal 1 ks = r) := by show _ = _; rw [HE.out]; simp [h]
    subst h
    go_enter Try.func136, Try.ntmps136
    go_wp2_with fail
    go_at_call 133
    refine Calls.mono (cA.out _ (by go_grown)) ?_
    rintro e w1 ⟨rfl, hb⟩
    have HB : Hid (Below w.heap.size w w1) := ((Below.refl _ _).alloc (Nat.le_refl _) _).trans (hb.mono (by simp))
    clear hb
    go_wp2
    go_ret
    exact ⟨by rw [HE2.out]; rfl, HB.out⟩
  · have HE2 : Hid (tkVal 1 ks = false) := by show _ = _; rw [HE.out]; simp [h]
    have h1 : ((N : Int) == 1) = false := by simp; omega
    go_enter Try.func136, Try.ntmps136
    go_wp2
    go_ret
    exact ⟨by rw [HE2.out]; rfl, by go_grown⟩

set_option maxRecDepth 100000 in
set_option maxHeartbeats 1600000 in
theorem takes_if (B : Nat) (kd nm : Int) (tx : ByteArray) (kv v : Value) (ks : List Int) (w : World) (_hB : B ≤ w.heap.size) (hv : RowI w B v ks) (hl : ks.length ≤ 12) :
    Calls Try.prog 137 #[.agg #[.int .i64 kd, .int .i64 nm, .string tx, kv], v] w fun e w' => e = .returned (.bool (tkIf ks)) ∧ Below w.heap.size w w' := by
  obtain ⟨a, cap, rfl⟩ := hv.len
  by_cases hN : ks.length = 3
  · obtain ⟨x0, x1, x2, rfl⟩ : ∃ x0 x1 x2, ks = [x0, x1, x2] := by
      match ks, hN with
      | [x0, x1, x2], _ => exact ⟨_, _, _, rfl⟩
    obtain ⟨b, o, rfl, hb, c0⟩ := RowI.at hv 0 (by simp)
    obtain ⟨b1, o1, e1, hb1, c1⟩ := RowI.at hv 1 (by simp)
    cases e1
    obtain ⟨b2, o2, e2, hb2, c2⟩ := RowI.at hv 2 (by simp)
    cases e2
    simp only [List.getElem_cons_zero, List.getElem_cons_succ, Nat.add_zero] at c0 c1 c2
    clear hv hN hl
    simp only [List.length_cons, List.length_nil, Nat.zero_add, Nat.reduceAdd]
    have cV : Hid (∀ W, Calls Try.prog 108 #[.int .i64 x0] W fun e w' => e = .returned (.bool (isVal x0)) ∧ w' = W) := fun W => isValue_any x0 W
    cases hv0 : isVal x0
    · rw [hv0] at cV
      have HE : Hid (tkIf [x0, x1, x2] = false) := by show _ = _; simp [tkIf, hv0]
      have d0 : ∀ o1 : Obj, (w.alloc o1).cell? ⟨b, o, none⟩ = w.cell? ⟨b, o, none⟩ := fun o1 => cell_old w o1 (Nat.lt_of_lt_of_le hb _hB)
      have d1 : ∀ o1 : Obj, (w.alloc o1).cell? ⟨b, o + 1, none⟩ = w.cell? ⟨b, o + 1, none⟩ := fun o1 => cell_old w o1 (Nat.lt_of_lt_of_le hb _hB)
      have d2 : ∀ o1 : Obj, (w.alloc o1).cell? ⟨b, o + 2, none⟩ = w.cell? ⟨b, o + 2, none⟩ := fun o1 => cell_old w o1 (Nat.lt_of_lt_of_le hb _hB)
      go_enter Try.func137, Try.ntmps137
      go_wp2_with (go_at_call 108; refine Calls.mono (cV.out _) ?_; rintro e w1 ⟨rfl, h⟩; obtain rfl := h.symm)
      go_ret
      exact ⟨by rw [HE.out]; rfl, by go_grown⟩
    · rw [hv0] at cV
      by_cases h1 : x1 = 20
      · have g1 := h1
        by_cases h2 : x2 = 20
        · have g2 := h2
          have HE : Hid (tkIf [x0, x1, x2] = true) := by show _ = _; simp [tkIf, hv0, g1, g2]
          subst h1
          subst h2
          have d0 : ∀ o1 : Obj, (w.alloc o1).cell? ⟨b, o, none⟩ = w.cell? ⟨b, o, none⟩ := fun o1 => cell_old w o1 (Nat.lt_of_lt_of_le hb _hB)
          have d1 : ∀ o1 : Obj, (w.alloc o1).cell? ⟨b, o + 1, none⟩ = w.cell? ⟨b, o + 1, none⟩ := fun o1 => cell_old w o1 (Nat.lt_of_lt_of_le hb _hB)
          have d2 : ∀ o1 : Obj, (w.alloc o1).cell? ⟨b, o + 2, none⟩ = w.cell? ⟨b, o + 2, none⟩ := fun o1 => cell_old w o1 (Nat.lt_of_lt_of_le hb _hB)
          go_enter Try.func137, Try.ntmps137
          go_wp2_with (go_at_call 108; refine Calls.mono (cV.out _) ?_; rintro e w1 ⟨rfl, h⟩; obtain rfl := h.symm)
          go_ret
          exact ⟨by rw [HE.out]; rfl, by go_grown⟩
        · have HE : Hid (tkIf [x0, x1, x2] = false) := by show _ = _; simp [tkIf, h2]
          have g2 : (x2 == 20) = false := by simpa using h2
          clear h2
          subst h1
          have d0 : ∀ o1 : Obj, (w.alloc o1).cell? ⟨b, o, none⟩ = w.cell? ⟨b, o, none⟩ := fun o1 => cell_old w o1 (Nat.lt_of_lt_of_le hb _hB)
          have d1 : ∀ o1 : Obj, (w.alloc o1).cell? ⟨b, o + 1, none⟩ = w.cell? ⟨b, o + 1, none⟩ := fun o1 => cell_old w o1 (Nat.lt_of_lt_of_le hb _hB)
          have d2 : ∀ o1 : Obj, (w.alloc o1).cell? ⟨b, o + 2, none⟩ = w.cell? ⟨b, o + 2, none⟩ := fun o1 => cell_old w o1 (Nat.lt_of_lt_of_le hb _hB)
          go_enter Try.func137, Try.ntmps137
          go_wp2_with (go_at_call 108; refine Calls.mono (cV.out _) ?_; rintro e w1 ⟨rfl, h⟩; obtain rfl := h.symm)
          go_ret
          exact ⟨by rw [HE.out]; rfl, by go_grown⟩
      · have HE : Hid (tkIf [x0, x1, x2] = false) := by show _ = _; simp [tkIf, h1]
        have g1 : (x1 == 20) = false := by simpa using h1
        clear h1
        have d0 : ∀ o1 : Obj, (w.alloc o1).cell? ⟨b, o, none⟩ = w.cell? ⟨b, o, none⟩ := fun o1 => cell_old w o1 (Nat.lt_of_lt_of_le hb _hB)
        have d1 : ∀ o1 : Obj, (w.alloc o1).cell? ⟨b, o + 1, none⟩ = w.cell? ⟨b, o + 1, none⟩ := fun o1 => cell_old w o1 (Nat.lt_of_lt_of_le hb _hB)
        have d2 : ∀ o1 : Obj, (w.alloc o1).cell? ⟨b, o + 2, none⟩ = w.cell? ⟨b, o + 2, none⟩ := fun o1 => cell_old w o1 (Nat.lt_of_lt_of_le hb _hB)
        go_enter Try.func137, Try.ntmps137
        go_wp2_with (go_at_call 108; refine Calls.mono (cV.out _) ?_; rintro e w1 ⟨rfl, h⟩; obtain rfl := h.symm)
        go_ret
        exact ⟨by rw [HE.out]; rfl, by go_grown⟩
  · have HE : Hid (tkIf ks = false) := by show _ = _; simp [tkIf, hN]
    obtain ⟨N, HN⟩ : ∃ N, Hid (ks.length = N) := ⟨_, (rfl : ks.length = ks.length)⟩
    have h1 : (((N : Nat) : Int) == 3) = false := by simp; have := HN.out; omega
    rw [HN.out] at hl ⊢
    clear hv hN
    go_enter Try.func137, Try.ntmps137
    go_wp2
    go_ret
    exact ⟨by rw [HE.out]; rfl, by go_grown⟩

set_option maxRecDepth 100000 in
set_option maxHeartbeats 1600000 in
theorem takes_while (B : Nat) (kd nm : Int) (tx : ByteArray) (kv v : Value) (ks : List Int) (w : World) (_hB : B ≤ w.heap.size) (hv : RowI w B v ks) (hl : ks.length ≤ 12) :
    Calls Try.prog 138 #[.agg #[.int .i64 kd, .int .i64 nm, .string tx, kv], v] w fun e w' => e = .returned (.bool (tkWhile ks)) ∧ Below w.heap.size w w' := by
  obtain ⟨a, cap, rfl⟩ := hv.len
  by_cases hN : ks.length = 2
  · obtain ⟨x0, x1, rfl⟩ : ∃ x0 x1, ks = [x0, x1] := by
      match ks, hN with
      | [x0, x1], _ => exact ⟨_, _, rfl⟩
    obtain ⟨b, o, rfl, hb, c0⟩ := RowI.at hv 0 (by simp)
    obtain ⟨b1, o1, e1, hb1, c1⟩ := RowI.at hv 1 (by simp)
    cases e1
    simp only [List.getElem_cons_zero, List.getElem_cons_succ, Nat.add_zero] at c0 c1
    clear hv hN hl
    simp only [List.length_cons, List.length_nil, Nat.zero_add, Nat.reduceAdd]
    have cV : Hid (∀ W, Calls Try.prog 108 #[.int .i64 x0] W fun e w' => e = .returned (.bool (isVal x0)) ∧ w' = W) := fun W => isValue_any x0 W
    cases hv0 : isVal x0
    · rw [hv0] at cV
      have HE : Hid (tkWhile [x0, x1] = false) := by show _ = _; simp [tkWhile, hv0]
      have d0 : ∀ o1 : Obj, (w.alloc o1).cell? ⟨b, o, none⟩ = w.cell? ⟨b, o, none⟩ := fun o1 => cell_old w o1 (Nat.lt_of_lt_of_le hb _hB)
      have d1 : ∀ o1 : Obj, (w.alloc o1).cell? ⟨b, o + 1, none⟩ = w.cell? ⟨b, o + 1, none⟩ := fun o1 => cell_old w o1 (Nat.lt_of_lt_of_le hb _hB)
      go_enter Try.func138, Try.ntmps138
      go_wp2_with (go_at_call 108; refine Calls.mono (cV.out _) ?_; rintro e w1 ⟨rfl, h⟩; obtain rfl := h.symm)
      go_ret
      exact ⟨by rw [HE.out]; rfl, by go_grown⟩
    · rw [hv0] at cV
      by_cases h1 : x1 = 20
      · have g1 := h1
        have HE : Hid (tkWhile [x0, x1] = true) := by show _ = _; simp [tkWhile, hv0, g1]
        subst h1
        have d0 : ∀ o1 : Obj, (w.alloc o1).cell? ⟨b, o, none⟩ = w.cell? ⟨b, o, none⟩ := fun o1 => cell_old w o1 (Nat.lt_of_lt_of_le hb _hB)
        have d1 : ∀ o1 : Obj, (w.alloc o1).cell? ⟨b, o + 1, none⟩ = w.cell? ⟨b, o + 1, none⟩ := fun o1 => cell_old w o1 (Nat.lt_of_lt_of_le hb _hB)
        go_enter Try.func138, Try.ntmps138
        go_wp2_with (go_at_call 108; refine Calls.mono (cV.out _) ?_; rintro e w1 ⟨rfl, h⟩; obtain rfl := h.symm)
        go_ret
        exact ⟨by rw [HE.out]; rfl, by go_grown⟩
      · have HE : Hid (tkWhile [x0, x1] = false) := by show _ = _; simp [tkWhile, h1]
        have g1 : (x1 == 20) = false := by simpa using h1
        clear h1
        have d0 : ∀ o1 : Obj, (w.alloc o1).cell? ⟨b, o, none⟩ = w.cell? ⟨b, o, none⟩ := fun o1 => cell_old w o1 (Nat.lt_of_lt_of_le hb _hB)
        have d1 : ∀ o1 : Obj, (w.alloc o1).cell? ⟨b, o + 1, none⟩ = w.cell? ⟨b, o + 1, none⟩ := fun o1 => cell_old w o1 (Nat.lt_of_lt_of_le hb _hB)
        go_enter Try.func138, Try.ntmps138
        go_wp2_with (go_at_call 108; refine Calls.mono (cV.out _) ?_; rintro e w1 ⟨rfl, h⟩; obtain rfl := h.symm)
        go_ret
        exact ⟨by rw [HE.out]; rfl, by go_grown⟩
  · have HE : Hid (tkWhile ks = false) := by show _ = _; simp [tkWhile, hN]
    obtain ⟨N, HN⟩ : ∃ N, Hid (ks.length = N) := ⟨_, (rfl : ks.length = ks.length)⟩
    have h1 : (((N : Nat) : Int) == 2) = false := by simp; have := HN.out; omega
    rw [HN.out] at hl ⊢
    clear hv hN
    go_enter Try.func138, Try.ntmps138
    go_wp2
    go_ret
    exact ⟨by rw [HE.out]; rfl, by go_grown⟩

set_option maxRecDepth 100000 in
set_option maxHeartbeats 1600000 in
theorem takes_print (B : Nat) (kd nm : Int) (tx : ByteArray) (kv v : Value) (ks : List Int) (w : World) (hB : B ≤ w.heap.size) (hv : RowI w B v ks) (hl : ks.length ≤ 12) :
    Calls Try.prog 139 #[.agg #[.int .i64 kd, .int .i64 nm, .string tx, kv], v] w fun e w' => e = .returned (.bool (tkVal 1 ks)) ∧ Below w.heap.size w w' := by
  obtain ⟨a, cap, rfl⟩ := hv.len
  obtain ⟨N, HN⟩ : ∃ N, Hid (ks.length = N) := ⟨_, (rfl : ks.length = ks.length)⟩
  obtain ⟨r, hr⟩ : ∃ r, Hid (ks.all isVal = r) := ⟨_, (rfl : ks.all isVal = ks.all isVal)⟩
  have cA : Hid (∀ W, Below w.heap.size w W → Calls Try.prog 133 #[.slice a N cap, .func (.func 108) #[] #[]] W fun e w' => e = .returned (.bool r) ∧ Below W.heap.size W w') := fun W hW => by
    rw [← hr.out, ← HN.out]
    exact allVal_any B _ ks W (Nat.le_trans hB hW.size) (hv.keep (hW.mono hB)) (by omega)
  have HE : Hid (tkVal 1 ks = (decide (N = 1) && r)) := by show _ = _; simp [tkVal, HN.out, hr.out]
  rw [HN.out] at hl ⊢
  clear hv
  by_cases h : N = 1
  · have HE2 : Hid (tkVal 1 ks = r) := by show _ = _; rw [HE.out]; simp [h]
    subst h
    go_enter Try.func139, Try.ntmps139
    go_wp2_with fail
    go_at_call 133
    refine Calls.mono (cA.out _ (by go_grown)) ?_
    rintro e w1 ⟨rfl, hb⟩
    have HB : Hid (Below w.heap.size w w1) := ((Below.refl _ _).alloc (Nat.le_refl _) _).trans (hb.mono (by simp))
    clear hb
    go_wp2
    go_ret
    exact ⟨by rw [HE2.out]; rfl, HB.out⟩
  · have HE2 : Hid (tkVal 1 ks = false) := by show _ = _; rw [HE.out]; simp [h]
    have h1 : ((N : Int) == 1) = false := by simp; omega
    go_enter Try.func139, Try.ntmps139
    go_wp2
    go_ret
    exact ⟨by rw [HE2.out]; rfl, by go_grown⟩

set_option maxRecDepth 100000 in
set_option maxHeartbeats 1600000 in
theorem takes_do (B : Nat) (kd nm : Int) (tx : ByteArray) (kv v : Value) (ks : List Int) (w : World) (_hB : B ≤ w.heap.size) (hv : RowI w B v ks) (hl : ks.length ≤ 12) :
    Calls Try.prog 140 #[.agg #[.int .i64 kd, .int .i64 nm, .string tx, kv], v] w fun e w' => e = .returned (.bool (tkDo ks)) ∧ Below w.heap.size w w' := by
  obtain ⟨a, cap, rfl⟩ := hv.len
  by_cases hN : ks.length = 1
  · obtain ⟨x0, rfl⟩ : ∃ x0, ks = [x0] := by
      match ks, hN with
      | [x0], _ => exact ⟨_, rfl⟩
    obtain ⟨b, o, rfl, hb, c0⟩ := RowI.at hv 0 (by simp)
    simp only [List.getElem_cons_zero, Nat.add_zero] at c0
    clear hv hN hl
    simp only [List.length_cons, List.length_nil, Nat.zero_add]
    by_cases h0 : x0 = 12
    · have g0 := h0
      have HE : Hid (tkDo [x0] = true) := by show _ = _; simp [tkDo, g0]
      subst h0
      have d0 : ∀ o1 : Obj, (w.alloc o1).cell? ⟨b, o, none⟩ = w.cell? ⟨b, o, none⟩ := fun o1 => cell_old w o1 (Nat.lt_of_lt_of_le hb _hB)
      go_enter Try.func140, Try.ntmps140
      go_wp2
      go_ret
      exact ⟨by rw [HE.out]; rfl, by go_grown⟩
    · have HE : Hid (tkDo [x0] = false) := by show _ = _; simp [tkDo, h0]
      have g0 : (x0 == 12) = false := by simpa using h0
      clear h0
      have d0 : ∀ o1 : Obj, (w.alloc o1).cell? ⟨b, o, none⟩ = w.cell? ⟨b, o, none⟩ := fun o1 => cell_old w o1 (Nat.lt_of_lt_of_le hb _hB)
      go_enter Try.func140, Try.ntmps140
      go_wp2
      go_ret
      exact ⟨by rw [HE.out]; rfl, by go_grown⟩
  · have HE : Hid (tkDo ks = false) := by show _ = _; simp [tkDo, hN]
    obtain ⟨N, HN⟩ : ∃ N, Hid (ks.length = N) := ⟨_, (rfl : ks.length = ks.length)⟩
    have h1 : (((N : Nat) : Int) == 1) = false := by simp; have := HN.out; omega
    rw [HN.out] at hl ⊢
    clear hv hN
    go_enter Try.func140, Try.ntmps140
    go_wp2
    go_ret
    exact ⟨by rw [HE.out]; rfl, by go_grown⟩

set_option maxRecDepth 100000 in
set_option maxHeartbeats 1600000 in
theorem takes_block (B : Nat) (kd nm : Int) (tx : ByteArray) (kv v : Value) (ks : List Int) (w : World) (hB : B ≤ w.heap.size) (hv : RowI w B v ks) (hl : ks.length ≤ 12) :
    Calls Try.prog 141 #[.agg #[.int .i64 kd, .int .i64 nm, .string tx, kv], v] w fun e w' => e = .returned (.bool (tkBlk ks)) ∧ Below w.heap.size w w' := by
  obtain ⟨a, cap, rfl⟩ := hv.len
  obtain ⟨N, HN⟩ : ∃ N, Hid (ks.length = N) := ⟨_, (rfl : ks.length = ks.length)⟩
  obtain ⟨r, hr⟩ : ∃ r, Hid (ks.all isStm = r) := ⟨_, (rfl : ks.all isStm = ks.all isStm)⟩
  have cA : Hid (∀ W, Below w.heap.size w W → Calls Try.prog 133 #[.slice a N cap, .func (.func 142) #[] #[]] W fun e w' => e = .returned (.bool r) ∧ Below W.heap.size W w') := fun W hW => by
    rw [← hr.out, ← HN.out]
    exact allStm_any B _ ks W (Nat.le_trans hB hW.size) (hv.keep (hW.mono hB)) (by omega)
  have HE : Hid (tkBlk ks = (decide (N ≤ 12) && r)) := by show _ = _; simp [tkBlk, HN.out, hr.out]
  rw [HN.out] at hl ⊢
  clear hv
  by_cases h : N ≤ 12
  · have HE2 : Hid (tkBlk ks = r) := by show _ = _; rw [HE.out]; simp [h]
    have h1 : (N : Int) ≤ 12 := by omega
    go_enter Try.func141, Try.ntmps141
    go_wp2_with fail
    go_at_call 133
    refine Calls.mono (cA.out _ (by go_grown)) ?_
    rintro e w1 ⟨rfl, hb⟩
    have HB : Hid (Below w.heap.size w w1) := ((Below.refl _ _).alloc (Nat.le_refl _) _).trans (hb.mono (by simp))
    clear hb
    go_wp2
    go_ret
    exact ⟨by rw [HE2.out]; rfl, HB.out⟩
  · have HE2 : Hid (tkBlk ks = false) := by show _ = _; rw [HE.out]; simp [h]
    have h1 : ¬ (N : Int) ≤ 12 := by omega
    go_enter Try.func141, Try.ntmps141
    go_wp2
    go_ret
    exact ⟨by rw [HE2.out]; rfl, by go_grown⟩


end Go.Proofs.Ytjafneaaefpefaa

namespace Go.Proofs.Ytjafneaaefpefaa
open Go.RowKit

theorem inC_ones (x : Int) : ∀ u ∈ inC x, u.oneCell' = true := by
  intro u hu
  simp [inC] at hu
  subst hu
  rfl
theorem kindsOf_take (ns : List Nd) (ks : List Int) (t : Nat) (h : t < ks.length) (c : Int) (hc : ks[t] = c) (d : Int) (hd : (ns.getD c.toNat nd0).kind = d) : kindsOf ns (ks.take t) ++ [d] = kindsOf ns (ks.take (t + 1)) := by
  subst hc hd
  rw [List.take_succ_eq_append_getElem h]
  unfold kindsOf
  rw [List.map_append]
  rfl
theorem isIn_off {x a b : Int} (h : x < a ∨ b < x) : isIn x a b = false := by
  simp only [isIn, Bool.and_eq_false_iff, decide_eq_false_iff_not]
  omega
theorem rowI_take {w : World} {B : Nat} {b off n cap t : Nat} {xs : List Int} (h : RowI w B (.slice (some ⟨b, off, none⟩) n cap) xs) (ht : t ≤ xs.length) (c' : Nat) (hc : t ≤ c') : RowI w B (.slice (some ⟨b, off, none⟩) t c') (xs.take t) := by
  refine ⟨some ⟨b, off, none⟩, c', by rw [List.length_take, Nat.min_eq_left ht], by rw [List.length_take, Nat.min_eq_left ht]; exact hc, ?_⟩
  by_cases h0 : xs.take t = []
  · exact .inl h0
  · have hpos : 0 < xs.length := by
      rcases Nat.eq_zero_or_pos xs.length with e | e
      · exact absurd (by rw [List.eq_nil_of_length_eq_zero e]; simp) h0
      · exact e
    refine .inr ⟨b, off, rfl, ?_, fun i hi j hj => ?_⟩
    · obtain ⟨b', off', e, hb, _⟩ := RowR.at h 0 hpos
      cases e
      exact hb
    · have hi' : i < xs.length := by simp at hi; omega
      obtain ⟨b', off', e, hb, hc⟩ := RowR.at h i hi'
      cases e
      rw [List.getElem_take]
      exact hc j hj

/-- What kindsAhead answers. -/
structure AheadAns (ns : List Nd) (m : Nat) (kids : List Int) (w : World) (e : Ending) (w' : World) : Prop where
  ex : ∃ v r, e = .returned (.tuple #[v, .bool r]) ∧ r = (decide (kids.length ≤ 12) && aheadTo (m : Int) kids kids.length) ∧ (r = true → OwnsI w' w.heap.size v (kindsOf ns kids))

set_option maxRecDepth 100000 in
set_option maxHeartbeats 3200000 in
theorem kindsAhead_any (b off N cap m : Nat) (ns : List Nd) (q : Nd) (w : World) (_hl : N ≤ 1048576) (hR : NdR.Row w w.heap.size (.slice (some ⟨b, off, none⟩) N cap) ns) (hN : Hid (ns.length = N)) (hm : m < N) (hq : Hid (ns[m]'(by rw [hN.out]; exact hm) = q)) (hk : q.kids.length ≤ 1048576) :
    Calls Try.prog 63 #[.slice (some ⟨b, off, none⟩) N cap, .int .i64 (m : Int)] w fun e w' => AheadAns ns m q.kids w e w' ∧ Below w.heap.size w w' := by
  have hml : m < ns.length := by rw [hN.out]; exact hm
  obtain ⟨b', off', ka, kc, e, hb, c0, c1, c2, c3, hK⟩ := RowNd.at hR m hml
  cases e
  rw [hq.out] at c3 hK
  have HR : Hid (NdR.Row w w.heap.size (.slice (some ⟨b, off, none⟩) N cap) ns) := hR
  clear c0 c1 c2 hR
  obtain ⟨kd, nm, tx, ks⟩ := q
  simp only at c3 hK hk ⊢
  have hcap := hK.cap.2
  obtain ⟨K, HK⟩ : ∃ K, Hid (ks.length = K) := ⟨_, (rfl : ks.length = ks.length)⟩
  rw [HK.out] at c3 hK hk hcap
  have HI : Hid (RowI w w.heap.size (.slice ka K kc) ks) := hK
  clear hK
  have hm0 : (0 : Int) ≤ (m : Int) := by omega
  have hm1 : (m : Int) < (N : Int) := by omega
  by_cases h12 : (12 : Int) < (K : Int)
  · have HE : Hid (decide (K ≤ 12) = false) := by show _ = _; simp; omega
    go_enter Try.func63, Try.ntmps63
    go_wp2
    go_ret2
    exact ⟨⟨_, _, rfl, by rw [HK.out, HE.out]; rfl, fun h => by cases h⟩, Below.refl _ _⟩
  have HE : Hid (decide (K ≤ 12) = true) := by show _ = _; simp; omega
  have hk12 : K ≤ 12 := by omega
  go_enter Try.func63, Try.ntmps63
  go_wp2
  go_loopw [7, 20] (fun kv i wr => ∃ t : Nat, t ≤ K ∧ i = .int .i64 (t : Int) ∧ Hid (aheadTo (m : Int) ks t = true) ∧ Hid (OwnsI wr w.heap.size kv (kindsOf ns (ks.take t))) ∧ Below w.heap.size w wr) (fun _ i _ => K - (intOf i).toNat)
  case atStart => exact ⟨0, Nat.zero_le _, rfl, rfl, ownsR_nil _ _ _ _ _, Below.refl _ _⟩
  case round =>
    obtain ⟨t, ht, rfl, HT, HO, hbw⟩ := hrel
    by_cases hlt : t < K
    · have ht1 : (t : Int) < (K : Int) := by omega
      have ht0 : (0 : Int) ≤ (t : Int) := by omega
      have htl : t < ks.length := by have := HK.out; omega
      obtain ⟨kb, ko, rfl, hkb, d0⟩ := HI.out.at t htl
      obtain ⟨c, hc⟩ : ∃ c, Hid (ks[t] = c) := ⟨_, (rfl : ks[t] = ks[t])⟩
      have f0 := (hbw.cell (p := ⟨kb, ko + t, none⟩) (by show kb < _; omega)).trans d0
      rw [hc.out] at f0
      clear d0
      have hgd : Hid (ks.getD t 0 = c) := by show _ = _; rw [← hc.out]; simp [List.getD, htl]
      have hcap1 : t ≤ kc := by omega
      have hcap2 : (t : Int) ≤ (kc : Int) := by omega
      by_cases hc0 : c < 0
      · have HF : Hid (aheadTo (m : Int) ks K = false) := aheadTo_false hlt (by rw [aheadOk, hgd.out, isIn_off (by omega), Bool.false_and])
        go_wp2
        go_ret2
        exact ⟨⟨_, _, rfl, by rw [HK.out, HF.out, Bool.and_false], fun h => by cases h⟩, hbw⟩
      by_cases hc1 : (m : Int) ≤ c
      · have HF : Hid (aheadTo (m : Int) ks K = false) := aheadTo_false hlt (by rw [aheadOk, hgd.out, isIn_off (by omega), Bool.false_and])
        go_wp2
        go_ret2
        exact ⟨⟨_, _, rfl, by rw [HK.out, HF.out, Bool.and_false], fun h => by cases h⟩, hbw⟩
      have HRt : Hid (∀ W, Below w.heap.size w W → RowI W w.heap.size (.slice (some ⟨kb, ko, none⟩) t kc) (ks.take t)) := fun W hW => (rowI_take HI.out (by omega) kc hcap1).keep hW
      obtain ⟨r, hr⟩ : ∃ r, Hid ((ks.take t).contains c = r) := ⟨_, (rfl : (ks.take t).contains c = (ks.take t).contains c)⟩
      have cC : Hid (∀ W, Below w.heap.size w W → Calls Try.prog 93 #[.slice (some ⟨kb, ko, none⟩) t kc, .int .i64 c] W fun e w' => e = .returned (.bool r) ∧ Below W.heap.size W w') := fun W hW => by
        rw [← hr.out]
        exact contains_any w.heap.size _ _ c W hW.size (HRt.out W hW) (by simp; omega)
      cases r
      · have HT1 : Hid (aheadTo (m : Int) ks (t + 1) = true) := by
          show _ = _
          rw [aheadTo, HT.out, aheadOk, hgd.out, hr.out, isIn]
          simp
          omega
        obtain ⟨cn, hcn⟩ : ∃ n : Nat, c = (n : Int) := ⟨c.toNat, by omega⟩
        have hcl : cn < ns.length := by rw [hN.out]; omega
        have hcN : cn < N := by omega
        obtain ⟨b2, off2, ka2, kc2, e2, hb2, g0, _, _, _, _⟩ := RowNd.at HR.out cn hcl
        cases e2
        obtain ⟨d, hd⟩ : ∃ d, Hid (ns[cn].kind = d) := ⟨_, (rfl : ns[cn].kind = ns[cn].kind)⟩
        rw [hd.out] at g0
        have HD : Hid ((ns.getD c.toNat nd0).kind = d) := by show _ = _; rw [← hd.out, hcn]; simp [List.getD, hcl]
        subst hcn
        have hcn0 : (0 : Int) ≤ (cn : Int) := by omega
        have hcn1 : (cn : Int) < (N : Int) := by omega
        go_wp2_with fail
        go_at_call 93
        refine Calls.mono (cC.out _ hbw) ?_
        rintro e w1 ⟨rfl, hb1⟩
        have g1 := ((hbw.trans (hb1.mono hbw.size)).cell (p := ⟨b, off + cn * 4, none⟩) hb2).trans g0
        have hown : OwnsI w1 w.heap.size u7 (kindsOf ns (ks.take t)) := OwnsR.below HO.out hb1
        have hlen : (kindsOf ns (ks.take t)).length ≤ 12 := by rw [kindsOf_len]; simp; omega
        have hBw1 : Below w.heap.size w w1 := hbw.trans (hb1.mono hbw.size)
        have hsz := hBw1.size
        clear g0 cC hb1
        go_wp2_with (at_builtin; go_must (refine appendR inC_len rfl _ _ 43 rfl w.heap.size 3 _ 8 Try.underlying43 Try.infoInt rfl (by decide) hown d (inC_ones _) rfl (by first | rfl | (simp [Act.eval]; done)) (by omega) (by omega) hsz ?_); intro v4 w4 hown4 hb4 hs4 hg4)
        have HO4 : Hid (OwnsI w4 w.heap.size v4 (kindsOf ns (ks.take (t + 1)))) := by
          have := kindsOf_take ns ks t htl _ hc.out d HD.out
          rw [← this]
          exact hown4
        have HB4 : Hid (Below w.heap.size w w4) := hb4 w hBw1
        clear hown4 hb4 hs4 hg4 hown hBw1
        go_wp2
        go_roundw
        case rel => exact ⟨t + 1, by omega, by go_num, HT1, HO4, HB4.out⟩
        case measure => simp [intOf]; omega
      · have HF : Hid (aheadTo (m : Int) ks K = false) := aheadTo_false hlt (by rw [aheadOk, hgd.out, hr.out]; simp)
        go_wp2_with fail
        go_at_call 93
        refine Calls.mono (cC.out _ hbw) ?_
        rintro e w1 ⟨rfl, hb1⟩
        have HB1 : Hid (Below w.heap.size w w1) := hbw.trans (hb1.mono hbw.size)
        clear cC hb1
        go_wp2
        go_ret2
        exact ⟨⟨_, _, rfl, by rw [HK.out, HF.out, Bool.and_false], fun h => by cases h⟩, HB1.out⟩
    · have htK : Hid (t = K) := (by omega : t = K)
      have HF : Hid (aheadTo (m : Int) ks K = true) := by show _ = _; rw [← htK.out]; exact HT.out
      have HO2 : Hid (OwnsI wr w.heap.size u7 (kindsOf ns ks)) := by
        have := HO.out
        rw [htK.out, ← HK.out, List.take_length] at this
        exact this
      go_wp2
      go_ret2
      exact ⟨⟨_, _, rfl, by rw [HK.out, HF.out, HE.out]; rfl, fun _ => HO2.out⟩, hbw⟩

end Go.Proofs.Ytjafneaaefpefaa
