/-
  KeyWord, in the program: a map of fourteen words is made and looked into: what it answers at every text.
-/
import Derived.Test.YtljphnjmeckpbaaGreatNames
import Derived.Maps.Own
import Derived.Maps.OwnOps
import Derived.Maps.Views
namespace Go.Proofs.YtljphnjmeckpbaaGreat
open Go.RowKit Go.Maps Go.WideMaps

/-- What a map of words answers at a word: a number above 0 or none. -/
def Look (D : DataW Unit) (l : List UInt8) (b : Bool) : Prop := IsMap D ∧ ∃ c : Int, D.atKey (.string l) (.lit (.int .i64 0)) = .lit (.int .i64 c) ∧ decide (0 < c) = b

theorem Look.none (l : List UInt8) : Look (.map []) l false := ⟨isMap_empty, 0, rfl, rfl⟩

theorem Look.put {D : DataW Unit} {l : List UInt8} {b : Bool} (h : Look D l b) (k : List UInt8) (v : Int) (hv : 0 < v) : Look (D.put (.string k) (.lit (.int .i64 v))) l (b || (k == l)) := by
  obtain ⟨hm, c, hc, hb⟩ := h
  refine ⟨hm.put _ _, ?_⟩
  by_cases e : k = l
  · subst e
    exact ⟨v, atKey_put_same hm (by simp [WideAt.IsKeyLit]) _ _, by simp [hv]⟩
  · refine ⟨c, (atKey_put_other (fun e' => e (by cases e'; rfl)) _ _).trans hc, ?_⟩
    rw [hb]
    have : (k == l) = false := by simpa using e
    simp [this]

/-- The map behind so many stores, and whether a word is among them. -/
def dK : Nat → DataW Unit
  | 0 => .map []
  | n + 1 => (dK n).put (.string ((keys.getD n ByteArray.empty).data.toList)) (.lit (.int .i64 ((n + 1 : Nat) : Int)))
def bK : Nat → List UInt8 → Bool
  | 0, _ => false
  | n + 1, l => bK n l || ((keys.getD n ByteArray.empty).data.toList == l)

theorem zeroI (w : World) : (zeroValue 3).run Tryz.prog w = .ok (.int .i64 0) w := by kernel_rfl
theorem lawK : Keyed Tryz.prog 9 := string_keyed Tryz.underlying9

set_option maxRecDepth 100000 in
set_option maxHeartbeats 800000 in
theorem keyWords_any (w : World) :
    Calls Tryz.prog 132 #[] w fun e w' => e = .returned (.map (some w.heap.size)) ∧ Hid (Below w.heap.size w w' ∧ ∃ D : DataW Unit, w'.ownsMap Tryz.prog 9 (plainElem Tryz.prog 3) w.heap.size 14 D ∧ ∀ l, Look D l (keys.any fun k => k.data.toList == l)) := by
  have hmm := @run_makeMap Tryz.prog
  have h0 : Hid ((w.alloc (.map #[] 0)).ownsMap Tryz.prog 9 (plainElem (H := Unit) Tryz.prog 3) w.heap.size 0 (dK 0) ∧ Below w.heap.size w (w.alloc (.map #[] 0)) ∧ ∀ l, Look (dK 0) l (bK 0 l)) := ⟨World.ownsMap_made _ _ _ _, (Below.refl _ _).alloc (Nat.le_refl _) _, Look.none⟩
  obtain ⟨w1, r1, o1, g1⟩ := h0.out.1.update lawK Tryz.underlying171 (by decide) (key := .string ⟨#[102, 110]⟩) (val := .int .i64 1) (keyOf_string_mk Tryz.underlying9 (by decide)) (plainElem_int Tryz.underlying3 (by decide))
  have h1 : Hid (w1.ownsMap Tryz.prog 9 (plainElem (H := Unit) Tryz.prog 3) w.heap.size 1 (dK 1) ∧ Below w.heap.size w w1 ∧ ∀ l, Look (dK 1) l (bK 1 l)) := ⟨o1, h0.out.2.1.grown g1 h0.out.2.1.size (fun j hj => by cases hj; exact Nat.le_refl _), fun l => (h0.out.2.2 l).put [102, 110] 1 (by decide)⟩
  clear o1 g1 h0
  obtain ⟨w2, r2, o2, g2⟩ := h1.out.1.update lawK Tryz.underlying171 (by decide) (key := .string ⟨#[108, 101, 116]⟩) (val := .int .i64 2) (keyOf_string_mk Tryz.underlying9 (by decide)) (plainElem_int Tryz.underlying3 (by decide))
  have h2 : Hid (w2.ownsMap Tryz.prog 9 (plainElem (H := Unit) Tryz.prog 3) w.heap.size 2 (dK 2) ∧ Below w.heap.size w w2 ∧ ∀ l, Look (dK 2) l (bK 2 l)) := ⟨o2, h1.out.2.1.grown g2 h1.out.2.1.size (fun j hj => by cases hj; exact Nat.le_refl _), fun l => (h1.out.2.2 l).put [108, 101, 116] 2 (by decide)⟩
  clear o2 g2 h1
  obtain ⟨w3, r3, o3, g3⟩ := h2.out.1.update lawK Tryz.underlying171 (by decide) (key := .string ⟨#[105, 102]⟩) (val := .int .i64 3) (keyOf_string_mk Tryz.underlying9 (by decide)) (plainElem_int Tryz.underlying3 (by decide))
  have h3 : Hid (w3.ownsMap Tryz.prog 9 (plainElem (H := Unit) Tryz.prog 3) w.heap.size 3 (dK 3) ∧ Below w.heap.size w w3 ∧ ∀ l, Look (dK 3) l (bK 3 l)) := ⟨o3, h2.out.2.1.grown g3 h2.out.2.1.size (fun j hj => by cases hj; exact Nat.le_refl _), fun l => (h2.out.2.2 l).put [105, 102] 3 (by decide)⟩
  clear o3 g3 h2
  obtain ⟨w4, r4, o4, g4⟩ := h3.out.1.update lawK Tryz.underlying171 (by decide) (key := .string ⟨#[101, 108, 115, 101]⟩) (val := .int .i64 4) (keyOf_string_mk Tryz.underlying9 (by decide)) (plainElem_int Tryz.underlying3 (by decide))
  have h4 : Hid (w4.ownsMap Tryz.prog 9 (plainElem (H := Unit) Tryz.prog 3) w.heap.size 4 (dK 4) ∧ Below w.heap.size w w4 ∧ ∀ l, Look (dK 4) l (bK 4 l)) := ⟨o4, h3.out.2.1.grown g4 h3.out.2.1.size (fun j hj => by cases hj; exact Nat.le_refl _), fun l => (h3.out.2.2 l).put [101, 108, 115, 101] 4 (by decide)⟩
  clear o4 g4 h3
  obtain ⟨w5, r5, o5, g5⟩ := h4.out.1.update lawK Tryz.underlying171 (by decide) (key := .string ⟨#[119, 104, 105, 108, 101]⟩) (val := .int .i64 5) (keyOf_string_mk Tryz.underlying9 (by decide)) (plainElem_int Tryz.underlying3 (by decide))
  have h5 : Hid (w5.ownsMap Tryz.prog 9 (plainElem (H := Unit) Tryz.prog 3) w.heap.size 5 (dK 5) ∧ Below w.heap.size w w5 ∧ ∀ l, Look (dK 5) l (bK 5 l)) := ⟨o5, h4.out.2.1.grown g5 h4.out.2.1.size (fun j hj => by cases hj; exact Nat.le_refl _), fun l => (h4.out.2.2 l).put [119, 104, 105, 108, 101] 5 (by decide)⟩
  clear o5 g5 h4
  obtain ⟨w6, r6, o6, g6⟩ := h5.out.1.update lawK Tryz.underlying171 (by decide) (key := .string ⟨#[112, 114, 105, 110, 116]⟩) (val := .int .i64 6) (keyOf_string_mk Tryz.underlying9 (by decide)) (plainElem_int Tryz.underlying3 (by decide))
  have h6 : Hid (w6.ownsMap Tryz.prog 9 (plainElem (H := Unit) Tryz.prog 3) w.heap.size 6 (dK 6) ∧ Below w.heap.size w w6 ∧ ∀ l, Look (dK 6) l (bK 6 l)) := ⟨o6, h5.out.2.1.grown g6 h5.out.2.1.size (fun j hj => by cases hj; exact Nat.le_refl _), fun l => (h5.out.2.2 l).put [112, 114, 105, 110, 116] 6 (by decide)⟩
  clear o6 g6 h5
  obtain ⟨w7, r7, o7, g7⟩ := h6.out.1.update lawK Tryz.underlying171 (by decide) (key := .string ⟨#[100, 111]⟩) (val := .int .i64 7) (keyOf_string_mk Tryz.underlying9 (by decide)) (plainElem_int Tryz.underlying3 (by decide))
  have h7 : Hid (w7.ownsMap Tryz.prog 9 (plainElem (H := Unit) Tryz.prog 3) w.heap.size 7 (dK 7) ∧ Below w.heap.size w w7 ∧ ∀ l, Look (dK 7) l (bK 7 l)) := ⟨o7, h6.out.2.1.grown g7 h6.out.2.1.size (fun j hj => by cases hj; exact Nat.le_refl _), fun l => (h6.out.2.2 l).put [100, 111] 7 (by decide)⟩
  clear o7 g7 h6
  obtain ⟨w8, r8, o8, g8⟩ := h7.out.1.update lawK Tryz.underlying171 (by decide) (key := .string ⟨#[110, 101, 119]⟩) (val := .int .i64 8) (keyOf_string_mk Tryz.underlying9 (by decide)) (plainElem_int Tryz.underlying3 (by decide))
  have h8 : Hid (w8.ownsMap Tryz.prog 9 (plainElem (H := Unit) Tryz.prog 3) w.heap.size 8 (dK 8) ∧ Below w.heap.size w w8 ∧ ∀ l, Look (dK 8) l (bK 8 l)) := ⟨o8, h7.out.2.1.grown g8 h7.out.2.1.size (fun j hj => by cases hj; exact Nat.le_refl _), fun l => (h7.out.2.2 l).put [110, 101, 119] 8 (by decide)⟩
  clear o8 g8 h7
  obtain ⟨w9, r9, o9, g9⟩ := h8.out.1.update lawK Tryz.underlying171 (by decide) (key := .string ⟨#[99, 108, 111, 110, 101]⟩) (val := .int .i64 9) (keyOf_string_mk Tryz.underlying9 (by decide)) (plainElem_int Tryz.underlying3 (by decide))
  have h9 : Hid (w9.ownsMap Tryz.prog 9 (plainElem (H := Unit) Tryz.prog 3) w.heap.size 9 (dK 9) ∧ Below w.heap.size w w9 ∧ ∀ l, Look (dK 9) l (bK 9 l)) := ⟨o9, h8.out.2.1.grown g9 h8.out.2.1.size (fun j hj => by cases hj; exact Nat.le_refl _), fun l => (h8.out.2.2 l).put [99, 108, 111, 110, 101] 9 (by decide)⟩
  clear o9 g9 h8
  obtain ⟨w10, r10, o10, g10⟩ := h9.out.1.update lawK Tryz.underlying171 (by decide) (key := .string ⟨#[109, 117, 116]⟩) (val := .int .i64 10) (keyOf_string_mk Tryz.underlying9 (by decide)) (plainElem_int Tryz.underlying3 (by decide))
  have h10 : Hid (w10.ownsMap Tryz.prog 9 (plainElem (H := Unit) Tryz.prog 3) w.heap.size 10 (dK 10) ∧ Below w.heap.size w w10 ∧ ∀ l, Look (dK 10) l (bK 10 l)) := ⟨o10, h9.out.2.1.grown g10 h9.out.2.1.size (fun j hj => by cases hj; exact Nat.le_refl _), fun l => (h9.out.2.2 l).put [109, 117, 116] 10 (by decide)⟩
  clear o10 g10 h9
  obtain ⟨w11, r11, o11, g11⟩ := h10.out.1.update lawK Tryz.underlying171 (by decide) (key := .string ⟨#[105, 110, 112, 117, 116]⟩) (val := .int .i64 11) (keyOf_string_mk Tryz.underlying9 (by decide)) (plainElem_int Tryz.underlying3 (by decide))
  have h11 : Hid (w11.ownsMap Tryz.prog 9 (plainElem (H := Unit) Tryz.prog 3) w.heap.size 11 (dK 11) ∧ Below w.heap.size w w11 ∧ ∀ l, Look (dK 11) l (bK 11 l)) := ⟨o11, h10.out.2.1.grown g11 h10.out.2.1.size (fun j hj => by cases hj; exact Nat.le_refl _), fun l => (h10.out.2.2 l).put [105, 110, 112, 117, 116] 11 (by decide)⟩
  clear o11 g11 h10
  obtain ⟨w12, r12, o12, g12⟩ := h11.out.1.update lawK Tryz.underlying171 (by decide) (key := .string ⟨#[105, 110, 116]⟩) (val := .int .i64 12) (keyOf_string_mk Tryz.underlying9 (by decide)) (plainElem_int Tryz.underlying3 (by decide))
  have h12 : Hid (w12.ownsMap Tryz.prog 9 (plainElem (H := Unit) Tryz.prog 3) w.heap.size 12 (dK 12) ∧ Below w.heap.size w w12 ∧ ∀ l, Look (dK 12) l (bK 12 l)) := ⟨o12, h11.out.2.1.grown g12 h11.out.2.1.size (fun j hj => by cases hj; exact Nat.le_refl _), fun l => (h11.out.2.2 l).put [105, 110, 116] 12 (by decide)⟩
  clear o12 g12 h11
  obtain ⟨w13, r13, o13, g13⟩ := h12.out.1.update lawK Tryz.underlying171 (by decide) (key := .string ⟨#[98, 111, 120]⟩) (val := .int .i64 13) (keyOf_string_mk Tryz.underlying9 (by decide)) (plainElem_int Tryz.underlying3 (by decide))
  have h13 : Hid (w13.ownsMap Tryz.prog 9 (plainElem (H := Unit) Tryz.prog 3) w.heap.size 13 (dK 13) ∧ Below w.heap.size w w13 ∧ ∀ l, Look (dK 13) l (bK 13 l)) := ⟨o13, h12.out.2.1.grown g13 h12.out.2.1.size (fun j hj => by cases hj; exact Nat.le_refl _), fun l => (h12.out.2.2 l).put [98, 111, 120] 13 (by decide)⟩
  clear o13 g13 h12
  obtain ⟨w14, r14, o14, g14⟩ := h13.out.1.update lawK Tryz.underlying171 (by decide) (key := .string ⟨#[114, 101, 116]⟩) (val := .int .i64 14) (keyOf_string_mk Tryz.underlying9 (by decide)) (plainElem_int Tryz.underlying3 (by decide))
  have h14 : Hid (w14.ownsMap Tryz.prog 9 (plainElem (H := Unit) Tryz.prog 3) w.heap.size 14 (dK 14) ∧ Below w.heap.size w w14 ∧ ∀ l, Look (dK 14) l (bK 14 l)) := ⟨o14, h13.out.2.1.grown g14 h13.out.2.1.size (fun j hj => by cases hj; exact Nat.le_refl _), fun l => (h13.out.2.2 l).put [114, 101, 116] 14 (by decide)⟩
  clear o14 g14 h13
  go_enter Tryz.func132, Tryz.ntmps132
  go_wp2
  go_ret
  refine ⟨rfl, h14.out.2.1, _, h14.out.1, fun l => ?_⟩
  have := h14.out.2.2 l
  simpa [keys, bK, Bool.or_assoc] using this

theorem isKey_data (s : ByteArray) : isKey s = keys.any fun k => k.data.toList == s.data.toList := by
  unfold isKey
  congr 1
  funext k
  simp [ByteArray.toList_eq]

set_option maxHeartbeats 800000 in
theorem implKeyWord_any (s : ByteArray) (w : World) (hs : s.size ≤ maxLen) :
    Calls Tryz.prog 117 #[.string s] w fun e w' => e = .returned (.bool (isKey s)) ∧ Below w.heap.size w w' := by
  go_enter Tryz.func117, Tryz.ntmps117
  go_wp2_with fail
  go_at_call 132
  refine (keyWords_any _).mono ?_
  rintro e w1 ⟨rfl, h1⟩
  obtain ⟨D, hD⟩ : ∃ D : DataW Unit, Hid (w1.ownsMap Tryz.prog 9 (plainElem Tryz.prog 3) w.heap.size 14 D ∧ ∀ l, Look D l (keys.any fun k => k.data.toList == l)) := by
    obtain ⟨D, h⟩ := h1.out.2
    exact ⟨D, h⟩
  obtain ⟨c, hrun, hat, hwc⟩ := hD.out.1.lookup_int lawK Tryz.underlying171 Tryz.underlying3 (zeroI _) (keyOf_string_mk Tryz.underlying9 hs)
  have hcb : Hid (decide (0 < c) = isKey s) := by
    obtain ⟨_, c', h2, h3⟩ := hD.out.2 s.data.toList
    rw [h2] at hat
    cases hat
    rw [isKey_data]
    exact h3
  clear hat hwc
  by_cases h0 : 0 < c
  · go_wp2
    go_ret
    exact ⟨by rw [← hcb.out]; simp [h0], h1.out.1⟩
  · go_wp2
    go_ret
    exact ⟨by rw [← hcb.out]; simp, h1.out.1⟩

end Go.Proofs.YtljphnjmeckpbaaGreat
