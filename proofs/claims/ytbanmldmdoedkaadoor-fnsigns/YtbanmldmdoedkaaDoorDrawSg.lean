/-
  Chapter 3's drawing: right signs; texts. What each call answers, and that it writes its cursor alone.
-/
import Derived.Test.YtbanmldmdoedkaaDoorCu
import Derived.Test.YtbanmldmdoedkaaDoorPlain12
import Derived.Test.YtbanmldmdoedkaaDoorSg
namespace Go.Proofs.YtbanmldmdoedkaaDoor
open Go.RowKit

theorem l01Pick_any (ss : List ByteArray) (b B g : Nat) (v : Value) (n : Nat) (w : World) (hK0 : 0 < ss.length) (hK : ss.length ≤ 1000000) (hb : b < w.heap.size) (hbg : b ≠ g) (hI : TextsAt w b ss) (hB : B ≤ g) (hBw : B ≤ w.heap.size) (hn : n ≤ 1048576) (hv : Code8 w B v n) (hc : Cur w 67 g v n) :
    Calls Tryd.prog 35 #[.pointer (some ⟨g, 0, none⟩), .slice (some ⟨b, 0, none⟩) ss.length ss.length] w fun e w' => (∃ s, s ∈ ss ∧ e = .returned (.string s)) ∧ Cur w' 67 g v n ∧ w.grownBy w' (some g) := by
  have H : Hid (Code8 w B v n ∧ Cur w 67 g v n ∧ TextsAt w b ss) := ⟨hv, hc, hI⟩
  clear hv hc hI
  obtain ⟨K, hKe⟩ : ∃ K, Hid (ss.length = K) := ⟨_, (rfl : ss.length = ss.length)⟩
  rw [hKe.out] at hK0 hK ⊢
  go_enter Tryd.func35, Tryd.ntmps35
  go_wp2_with fail
  go_at_call 34
  refine (l01Below_any K B g v n _ hK0 (by omega) hB hBw hn H.out.1 H.out.2.1).mono ?_
  rintro e w1 ⟨⟨x, hx, rfl⟩, hc1, hg1⟩
  have hy := H.out.2.2 x (by rw [hKe.out]; exact hx)
  obtain ⟨y, hye⟩ : ∃ y, Hid (ss.getD x ByteArray.empty = y) := ⟨_, (rfl : ss.getD x ByteArray.empty = ss.getD x ByteArray.empty)⟩
  rw [hye.out] at hy
  have hy1 : w1.cell? ⟨b, x, none⟩ = some (.string y) := by rw [hg1.cell_far ⟨b, x, none⟩ hb (fun e => hbg (by simpa using e))]; exact hy
  have hx1 : (x : Int) < (K : Int) := by omega
  have hx0 : (0 : Int) ≤ (x : Int) := by omega
  have hm : Hid (y ∈ ss) := by
    have hxl : x < ss.length := by rw [hKe.out]; exact hx
    show y ∈ ss
    rw [← hye.out]
    simp [List.getD, hxl]
  clear hy
  go_wp2
  go_ret
  exact ⟨⟨y, hm.out, rfl⟩, hc1, hg1⟩

theorem l01Pick_draws (w0 : World) (ss : List ByteArray) (b g : Nat) (v : Value) (n : Nat) (w : World) (hK0 : 0 < ss.length) (hK : ss.length ≤ 1000000) (hb : b < w.heap.size) (hbg : b ≠ g) (hI : TextsAt w b ss) (hn : n ≤ 1048576) (h : Hid (Draws w0 w 67 g v n)) :
    Calls Tryd.prog 35 #[.pointer (some ⟨g, 0, none⟩), .slice (some ⟨b, 0, none⟩) ss.length ss.length] w fun e w' => (∃ s, s ∈ ss ∧ e = .returned (.string s)) ∧ Hid (Draws w0 w' 67 g v n ∧ w.grownBy w' (some g)) :=
  (l01Pick_any ss b w0.heap.size g v n w hK0 hK hb hbg hI h.out.2.1 h.out.1 hn h.out.2.2.1 h.out.2.2.2.1).mono fun _ _ ⟨h1, h2, h3⟩ => ⟨h1, h.out.next h2 h3, h3⟩

/-- The words that are drawn. -/
def drawn5 : List ByteArray := [⟨#[102, 110]⟩, ⟨#[97]⟩, ⟨#[108, 101, 116]⟩, ⟨#[97, 98, 99, 49, 50, 51, 52, 53]⟩, ⟨#[120, 49]⟩]
theorem drawn5_right : ∀ s ∈ drawn5, RightSg ⟨1, s, 0⟩ := by
  intro s hs
  simp only [drawn5, List.mem_cons, List.not_mem_nil, or_false] at hs
  rcases hs with rfl | rfl | rfl | rfl | rfl <;> exact .inl ⟨rfl, rfl, by decide, ⟨_, _, rfl, by decide⟩, by decide⟩
theorem texts_lt {w : World} {b : Nat} {ss : List ByteArray} (h : TextsAt w b ss) (hs : 0 < ss.length) : b < w.heap.size := by
  have h1 := h 0 hs
  rcases Nat.lt_or_ge b w.heap.size with h' | h'
  · exact h'
  · simp [World.cell?, Array.getElem?_eq_none h'] at h1
theorem texts_alloc (w : World) (ss : List ByteArray) (e : TypeId) : TextsAt (w.alloc (.cells (ss.map Value.string).toArray e)) w.heap.size ss := fun i hi => texts_made w ss e i hi

set_option maxHeartbeats 1600000 in
theorem l03Signs_draws (w0 : World) (g : Nat) (v : Value) (n : Nat) (w : World) (hn : n ≤ 1048576) (h : Hid (Draws w0 w 67 g v n)) :
    Calls Tryd.prog 28 #[.pointer (some ⟨g, 0, none⟩)] w fun e w' => (∃ (o : Value) (ss : List Sg), e = .returned o ∧ ss.length ≤ 8 ∧ (∀ s ∈ ss, RightSg s) ∧ OwnsSg w' w.heap.size o ss) ∧ Hid (Draws w0 w' 67 g v n) := by
  have hgl := h.out.2.2.2.1.lt
  have h00 := h.out.1
  go_enter Tryd.func28, Tryd.ntmps28
  go_wp2
  go_loopw [3, 4] (fun o i wr => ∃ (k : Nat) (ss : List Sg), k ≤ 8 ∧ i = .int .i64 (k : Int) ∧ Hid (ss.length = k ∧ ∀ s ∈ ss, RightSg s) ∧ OwnsR sgC 3 wr w.heap.size 35 o ss ∧ Hid (Draws w0 wr 67 g v n) ∧ w.heap.size ≤ wr.heap.size)
    (fun _ i _ => 8 - (intOf i).toNat)
  case atStart => exact ⟨0, [], by omega, rfl, ⟨rfl, by simp⟩, World.ownsRow_made w #[] 0 (Nat.le_refl _) (by decide) rfl, h.out.other (World.grownBy_alloc _ _ _), by simp⟩
  case round =>
    obtain ⟨k, ss, hk, rfl, HS, hown, HD, hsz⟩ := hrel
    have hkl : ss.length ≤ 8 := by have := HS.out.1; omega
    go_wp2_with fail
    go_at_call 34
    refine (l01Below_drawsG w0 9 g v n _ (by omega) (by omega) hn HD).mono ?_
    rintro e w1 ⟨⟨x, hx, rfl⟩, HD1⟩
    have hown1 := hown.kept HD1.out.2 (own_ne hown hgl)
    have hsz1 : w.heap.size ≤ w1.heap.size := Nat.le_trans hsz HD1.out.2.size
    clear hown hsz HD
    by_cases hkx : k < x
    · have hkx' : (k : Int) < (x : Int) := by omega
      go_wp2_with fail
      go_at_call 34
      refine (l01Below_drawsG w0 3 g v n _ (by omega) (by omega) hn (show Hid _ from HD1.out.1)).mono ?_
      rintro e w2 ⟨⟨y, hy, rfl⟩, HD2⟩
      have hown2 := hown1.kept HD2.out.2 (own_ne hown1 hgl)
      have hsz2 : w.heap.size ≤ w2.heap.size := Nat.le_trans hsz1 HD2.out.2.size
      clear hown1 hsz1 HD1
      have hy3 : y = 0 ∨ y = 1 ∨ y = 2 := by omega
      rcases hy3 with rfl | rfl | rfl
      · go_wp2_with fail
        go_at_call 35
        refine (l01Pick_draws w0 drawn5 w2.heap.size g v n _ (by decide) (by decide) (by simp) (by omega) (texts_alloc w2 drawn5 _) hn (show Hid _ from HD2.out.1.other (World.grownBy_alloc _ _ _))).mono ?_
        rintro e w3 ⟨⟨q, hq, rfl⟩, HD3⟩
        have hown3 := OwnsR.kept (OwnsR.kept hown2 (World.grownBy_alloc w2 _ none) (Classical.em _)) HD3.out.2 (own_ne hown2 hgl)
        have hsz3 : w.heap.size ≤ w3.heap.size := by have := HD3.out.2.size; simp at this; omega
        clear hown2 hsz2 HD2
        go_wp2_with (at_builtin; go_must (refine appendR sgC_len rfl _ _ 22 rfl w.heap.size 35 _ 32 Tryd.underlying22 Tryd.infoSg rfl (by decide) hown3 ⟨1, q, 0⟩ (sgC_ones _) rfl rfl (by omega) (by omega) hsz3 ?_); intro v4 w4 hown4 hb4 hs4 hg4)
        go_roundw
        case rel => exact ⟨k + 1, ss ++ [⟨1, q, 0⟩], by omega, by go_num, ⟨by simp [HS.out.1], fun s hs => by rcases List.mem_append.mp hs with h | h; exact HS.out.2 s h; simp at h; subst h; exact drawn5_right q hq⟩, hown4, HD3.out.1.below (hb4 _ (Below.refl _ _)) hgl h00, by omega⟩
        case measure => simp [intOf]; omega
      · go_wp2_with fail
        go_at_call 48
        refine (l01PickInt_draws w0 3 w2.heap.size g v n _ (by omega) (by omega) (by simp) (by omega) ?_ hn (show Hid _ from HD2.out.1.other (World.grownBy_alloc _ _ _))).mono ?_
        · intro i hi
          have : i = 0 ∨ i = 1 ∨ i = 2 := by omega
          rcases this with rfl | rfl | rfl <;> exact ⟨_, by rw [World.cell?_alloc_mark]; rfl⟩
        rintro e w3 ⟨⟨q, i, hi, hqc, rfl⟩, HD3⟩
        have hq : RightSg ⟨2, ⟨#[]⟩, q⟩ := by
          rw [World.cell?_alloc_mark] at hqc
          have : i = 0 ∨ i = 1 ∨ i = 2 := by omega
          rcases this with rfl | rfl | rfl <;> (simp at hqc; subst hqc; exact .inr (.inl ⟨rfl, rfl, by decide, by decide⟩))
        have hown3 := OwnsR.kept (OwnsR.kept hown2 (World.grownBy_alloc w2 _ none) (Classical.em _)) HD3.out.2 (own_ne hown2 hgl)
        have hsz3 : w.heap.size ≤ w3.heap.size := by have := HD3.out.2.size; simp at this; omega
        have HQ : Hid (RightSg ⟨2, ⟨#[]⟩, q⟩) := hq
        clear hown2 hsz2 HD2 hqc hq
        go_wp2_with (at_builtin; go_must (refine appendR sgC_len rfl _ _ 22 rfl w.heap.size 35 _ 32 Tryd.underlying22 Tryd.infoSg rfl (by decide) hown3 ⟨2, ⟨#[]⟩, q⟩ (sgC_ones _) rfl rfl (by omega) (by omega) hsz3 ?_); intro v4 w4 hown4 hb4 hs4 hg4)
        go_roundw
        case rel => exact ⟨k + 1, ss ++ [⟨2, ⟨#[]⟩, q⟩], by omega, by go_num, ⟨by simp [HS.out.1], fun s hs => by rcases List.mem_append.mp hs with h | h; exact HS.out.2 s h; simp at h; subst h; exact HQ.out⟩, hown4, HD3.out.1.below (hb4 _ (Below.refl _ _)) hgl h00, by omega⟩
        case measure => simp [intOf]; omega
      · go_wp2_with fail
        go_at_call 42
        refine (l03Marks_any _).mono ?_
        rintro e wm ⟨rfl, hwm⟩
        have hownm := OwnsR.below hown2 hwm.out.1
        have hszm : w.heap.size ≤ wm.heap.size := Nat.le_trans hsz2 hwm.out.1.size
        have HDm : Hid (Draws w0 wm 67 g v n) := HD2.out.1.other (grown_of_below hwm.out.1)
        clear hown2 HD2
        go_wp2_with fail
        go_at_call 35
        refine (l01Pick_draws w0 marks3 w2.heap.size g v n _ (by decide) (by decide) (texts_lt hwm.out.2 (by decide)) (by omega) hwm.out.2 hn HDm).mono ?_
        rintro e w3 ⟨⟨q, hq, rfl⟩, HD3⟩
        have hown3 := OwnsR.kept hownm HD3.out.2 (own_ne hownm hgl)
        have hsz3 : w.heap.size ≤ w3.heap.size := Nat.le_trans hszm HD3.out.2.size
        clear hownm hszm HDm hwm
        go_wp2_with (at_builtin; go_must (refine appendR sgC_len rfl _ _ 22 rfl w.heap.size 35 _ 32 Tryd.underlying22 Tryd.infoSg rfl (by decide) hown3 ⟨3, q, 0⟩ (sgC_ones _) rfl rfl (by omega) (by omega) hsz3 ?_); intro v4 w4 hown4 hb4 hs4 hg4)
        go_roundw
        case rel => exact ⟨k + 1, ss ++ [⟨3, q, 0⟩], by omega, by go_num, ⟨by simp [HS.out.1], fun s hs => by rcases List.mem_append.mp hs with h | h; exact HS.out.2 s h; simp at h; subst h; exact .inr (.inr ⟨rfl, rfl, hq⟩)⟩, hown4, HD3.out.1.below (hb4 _ (Below.refl _ _)) hgl h00, by omega⟩
        case measure => simp [intOf]; omega
    · have hkx' : ¬ (k : Int) < (x : Int) := by omega
      go_wp2
      go_ret
      exact ⟨⟨_, ss, rfl, hkl, HS.out.2, hown1⟩, HD1.out.1⟩

theorem DrawSigns_any (v : Value) (n : Nat) (w : World) (hn : n ≤ 1048576) (hv : Code8 w w.heap.size v n) :
    Calls Tryd.prog 11 #[v] w fun e w' => (∃ (o : Value) (ss : List Sg), e = .returned o ∧ ss.length ≤ 8 ∧ (∀ s ∈ ss, RightSg s) ∧ OwnsSg w' w.heap.size o ss) ∧ w.grownBy w' none := by
  have V : Hid (Code8 w w.heap.size v n) := hv
  clear hv
  go_enter Tryd.func11, Tryd.ntmps11
  go_wp2_with fail
  go_at_call 29
  refine (l01New_draws v n _ hn V.out).mono ?_
  rintro e w1 ⟨rfl, h1⟩
  have hs1 := h1.out.1
  go_wp2_with fail
  go_at_call 28
  refine (l03Signs_draws w w.heap.size v n _ hn h1).mono ?_
  rintro e w2 ⟨⟨o, ss, rfl, h2, h3, h4⟩, h5⟩
  have H : Hid (ss.length ≤ 8 ∧ (∀ s ∈ ss, RightSg s) ∧ OwnsSg w2 w1.heap.size o ss) := ⟨h2, h3, h4⟩
  clear h2 h3 h4
  go_wp2
  go_ret
  exact ⟨⟨o, ss, rfl, H.out.1, H.out.2.1, owns_base H.out.2.2 hs1⟩, h5.out.2.2.2.2⟩

theorem DrawKeyWord_any (v : Value) (n : Nat) (w : World) (hn : n ≤ 1048576) (hv : Code8 w w.heap.size v n) :
    Calls Tryd.prog 14 #[v] w fun e w' => (∃ s : ByteArray, s.size ≤ 100 ∧ e = .returned (.string s)) ∧ w.grownBy w' none := by
  have V : Hid (Code8 w w.heap.size v n) := hv
  clear hv
  go_enter Tryd.func14, Tryd.ntmps14
  go_wp2_with fail
  go_at_call 29
  refine (l01New_draws v n _ hn V.out).mono ?_
  rintro e w1 ⟨rfl, h1⟩
  have hlt := h1.out.2.2.2.1.lt
  go_wp2_with fail
  go_at_call 35
  refine (l01Pick_draws w [⟨#[102, 110]⟩, ⟨#[114, 101, 116]⟩, ⟨#[105, 110, 112, 117, 116]⟩, ⟨#[120]⟩, ⟨#[]⟩, ⟨#[76, 101, 116]⟩] w1.heap.size w.heap.size v n _ (by decide) (by decide) (by simp) (by omega) (texts_alloc w1 _ _) hn (show Hid _ from h1.out.other (World.grownBy_alloc _ _ _))).mono ?_
  rintro e w2 ⟨⟨s, hs, rfl⟩, h2⟩
  have hss : s.size ≤ 100 := by
    simp only [List.mem_cons, List.not_mem_nil, or_false] at hs
    rcases hs with rfl | rfl | rfl | rfl | rfl | rfl <;> decide
  clear hs
  go_wp2
  go_ret
  exact ⟨⟨s, hss, rfl⟩, h2.out.1.2.2.2.2⟩

theorem DrawNameOk_any (v : Value) (n : Nat) (w : World) (hn : n ≤ 1048576) (hv : Code8 w w.heap.size v n) :
    Calls Tryd.prog 15 #[v] w fun e w' => (∃ s : ByteArray, s.size ≤ 100 ∧ e = .returned (.string s)) ∧ w.grownBy w' none := by
  have V : Hid (Code8 w w.heap.size v n) := hv
  clear hv
  go_enter Tryd.func15, Tryd.ntmps15
  go_wp2_with fail
  go_at_call 29
  refine (l01New_draws v n _ hn V.out).mono ?_
  rintro e w1 ⟨rfl, h1⟩
  have hlt := h1.out.2.2.2.1.lt
  go_wp2_with fail
  go_at_call 35
  refine (l01Pick_draws w [⟨#[97]⟩, ⟨#[]⟩, ⟨#[97, 98, 99, 49, 50, 51, 52, 53]⟩, ⟨#[97, 98, 99, 49, 50, 51, 52, 53, 54]⟩, ⟨#[49, 97]⟩, ⟨#[108, 101, 116]⟩, ⟨#[65]⟩, ⟨#[120, 95]⟩] w1.heap.size w.heap.size v n _ (by decide) (by decide) (by simp) (by omega) (texts_alloc w1 _ _) hn (show Hid _ from h1.out.other (World.grownBy_alloc _ _ _))).mono ?_
  rintro e w2 ⟨⟨s, hs, rfl⟩, h2⟩
  have hss : s.size ≤ 100 := by
    simp only [List.mem_cons, List.not_mem_nil, or_false] at hs
    rcases hs with rfl | rfl | rfl | rfl | rfl | rfl | rfl | rfl <;> decide
  clear hs
  go_wp2
  go_ret
  exact ⟨⟨s, hss, rfl⟩, h2.out.1.2.2.2.2⟩

set_option maxHeartbeats 1600000 in
theorem DrawSignsOf_any (v : Value) (n : Nat) (w : World) (hn : n ≤ 1048576) (hv : Code8 w w.heap.size v n) :
    Calls Tryd.prog 13 #[v] w fun e w' => (∃ s : ByteArray, s.size ≤ 4000 ∧ e = .returned (.string s)) ∧ w.grownBy w' none := by
  have V : Hid (Code8 w w.heap.size v n) := hv
  clear hv
  go_enter Tryd.func13, Tryd.ntmps13
  go_wp2_with fail
  go_at_call 29
  refine (l01New_draws v n _ hn V.out).mono ?_
  rintro e w1 ⟨rfl, h1⟩
  have hs1 := h1.out.1
  go_wp2_with fail
  go_at_call 34
  refine (l01Below_draws w 6 w.heap.size v n _ (by omega) (by omega) hn h1).mono ?_
  rintro e w2 ⟨⟨x, hx, rfl⟩, h2⟩
  clear h1
  go_wp2_with fail
  go_at_call 28
  refine (l03Signs_draws w w.heap.size v n _ hn h2).mono ?_
  rintro e w3 ⟨⟨o, ss, rfl, hl3, hr3, ho3⟩, h3⟩
  have HT : Hid ((signText ss).size ≤ 100) := by
    have h1 := textTo_len ss hr3 ss.length (Nat.le_refl _)
    show (signText ss).size ≤ 100
    unfold signText
    simp [ByteArray.size]
    omega
  have CT : Hid (∀ wx, wx = w3 → Calls Tryd.prog 21 #[o] wx fun e w' => e = .returned (.string (signText ss)) ∧ Below wx.heap.size wx w') := fun wx hwx => by
    subst hwx
    have h1 := textTo_len ss hr3 ss.length (Nat.le_refl _)
    exact specSignText_any wx.heap.size o ss wx (Nat.le_refl _) ho3.row (by omega) (fun s hs => by have := right_num (hr3 s hs); omega) (by omega)
  clear h2 hr3 ho3 hl3
  obtain ⟨S, HS⟩ : ∃ S, Hid (signText ss = S) := ⟨_, (rfl : signText ss = signText ss)⟩
  have hSz : S.size ≤ 100 := by rw [← HS.out]; exact HT.out
  clear HT
  go_wp2_with fail
  go_at_call 21
  refine Calls.mono (CT.out _ rfl) ?_
  rw [HS.out]
  rintro e w4 ⟨rfl, hb4⟩
  have h4 : Hid (Draws w w4 67 w.heap.size v n) := h3.out.other (grown_of_below hb4)
  have hlt := h4.out.2.2.2.1.lt
  clear hb4 h3 CT
  have e10 : (⟨#[10]⟩ : ByteArray).size = 1 := rfl
  have e32 : (⟨#[32, 32]⟩ : ByteArray).size = 2 := rfl
  have hx6 : x = 0 ∨ x = 1 ∨ x = 2 ∨ 3 ≤ x := by omega
  rcases hx6 with rfl | rfl | rfl | hx3
  · go_wp2_with fail
    go_at_call 35
    refine (l01Pick_draws w [⟨#[65]⟩, ⟨#[45]⟩, ⟨#[9]⟩, ⟨#[49, 48, 48, 48, 48, 48, 48, 48, 48, 49]⟩, ⟨#[49, 50, 51, 52, 53, 54, 55, 56, 57, 48, 49]⟩, ⟨#[97, 98, 99, 100, 101, 102, 103, 104, 105]⟩, ⟨#[62]⟩] w4.heap.size w.heap.size v n _ (by decide) (by decide) (by simp) (by omega) (texts_alloc w4 _ _) hn (show Hid _ from h4.out.other (World.grownBy_alloc _ _ _))).mono ?_
    rintro e w5 ⟨⟨q, hq, rfl⟩, h5⟩
    have hqs : q.size ≤ 100 := by
      simp only [List.mem_cons, List.not_mem_nil, or_false] at hq
      rcases hq with rfl | rfl | rfl | rfl | rfl | rfl | rfl <;> decide
    clear hq
    go_wp2
    go_ret
    exact ⟨⟨S ++ q, by rw [ByteArray.size_append]; omega, rfl⟩, h5.out.1.2.2.2.2⟩
  · go_wp2
    go_ret
    exact ⟨⟨(⟨#[32, 32]⟩ : ByteArray) ++ S ++ ⟨#[10]⟩, by rw [ByteArray.size_append, ByteArray.size_append]; omega, rfl⟩, h4.out.2.2.2.2⟩
  · go_wp2_with fail
    go_at_call 34
    refine (l01Below_draws w 2 w.heap.size v n _ (by omega) (by omega) hn h4).mono ?_
    rintro e w5 ⟨⟨y, hy, rfl⟩, h5⟩
    go_wp2_with fail
    go_at_call 36
    refine (l01Long_draws w (3000 + y) 32 w.heap.size v n _ (by omega) h5).mono ?_
    rintro e w6 ⟨⟨q, hq, rfl⟩, h6⟩
    go_wp2
    go_ret
    exact ⟨⟨q, by omega, rfl⟩, h6.out.2.2.2.2⟩
  · have e0 : ((x : Int) == 0) = false := by simp; omega
    have e1 : ((x : Int) == 1) = false := by simp; omega
    have e2 : ((x : Int) == 2) = false := by simp; omega
    go_wp2
    go_ret
    exact ⟨⟨S, by omega, rfl⟩, h4.out.2.2.2.2⟩

end Go.Proofs.YtbanmldmdoedkaaDoor
