/-
  FnSigns: drawn signs come back from their texts, with any blanks between; the program answers as the model at drawn texts.
-/
import Derived.Test.YtbanmldmdoedkaaDoorDrawSg
import Derived.Test.YtbanmldmdoedkaaDoorSg
import Derived.Test.YtbanmldmdoedkaaDoorNa
import Derived.Test.YtbanmldmdoedkaaDoorSgDoor
import Derived.BigQuiet
import Derived.Deep.QuietTactic
namespace Go.Proofs.YtbanmldmdoedkaaDoor
open Go.RowKit

set_option maxHeartbeats 800000 in
theorem sameSigns_same (B : Nat) (va vb : Value) (ss : List Sg) (w : World) (hB : B ≤ w.heap.size) (ha : RowSg w B va ss) (hb : RowSg w B vb ss) (hl : ss.length ≤ 1048576) :
    Calls Tryd.prog 16 #[va, vb] w fun e w' => e = .returned (.bool true) ∧ Below w.heap.size w w' := by
  obtain ⟨a, ca, rfl⟩ := ha.len
  obtain ⟨b, cb, rfl⟩ := hb.len
  obtain ⟨N, HN⟩ : ∃ N, Hid (ss.length = N) := ⟨_, (rfl : ss.length = ss.length)⟩
  have H : Hid (RowSg w B (.slice a N ca) ss ∧ RowSg w B (.slice b N cb) ss) := by rw [← HN.out]; exact ⟨ha, hb⟩
  rw [HN.out] at hl ⊢
  clear ha hb
  go_enter Tryd.func16, Tryd.ntmps16
  go_wp2
  go_loopw [5] (fun i wr => ∃ k : Nat, k ≤ N ∧ i = .int .i64 (k : Int) ∧ Below w.heap.size w wr) (fun i _ => N - (intOf i).toNat)
  case atStart => exact ⟨0, Nat.zero_le _, rfl, Below.refl _ _⟩
  case round =>
    obtain ⟨k, hk, rfl, hbw⟩ := hrel
    by_cases hlt : k < N
    · have hk1 : (k : Int) < (N : Int) := by omega
      have hk0 : (0 : Int) ≤ (k : Int) := by omega
      have hkl : k < ss.length := by have := HN.out; omega
      obtain ⟨ba, oa, rfl, hba, c0, c1, c2⟩ := H.out.1.at k hkl
      obtain ⟨bb, ob, rfl, hbb, e0, e1, e2⟩ := H.out.2.at k hkl
      obtain ⟨q, hq⟩ : ∃ q, Hid (ss[k] = q) := ⟨_, (rfl : ss[k] = ss[k])⟩
      have d0 := (hbw.cell (p := ⟨ba, oa + k * 3, none⟩) (by show ba < _; omega)).trans c0
      have d1 := (hbw.cell (p := ⟨ba, oa + k * 3 + 1, none⟩) (by show ba < _; omega)).trans c1
      have d2 := (hbw.cell (p := ⟨ba, oa + k * 3 + 2, none⟩) (by show ba < _; omega)).trans c2
      have f0 := (hbw.cell (p := ⟨bb, ob + k * 3, none⟩) (by show bb < _; omega)).trans e0
      have f1 := (hbw.cell (p := ⟨bb, ob + k * 3 + 1, none⟩) (by show bb < _; omega)).trans e1
      have f2 := (hbw.cell (p := ⟨bb, ob + k * 3 + 2, none⟩) (by show bb < _; omega)).trans e2
      rw [hq.out] at d0 d1 d2 f0 f1 f2
      clear c0 c1 c2 e0 e1 e2
      go_wp2_with fail
      go_quiet (fail)
      go_wp2
      go_roundw
      case rel => exact ⟨k + 1, by omega, by go_num, hbw.trans ⟨rfl, rfl, rfl, Nat.le_refl _, fun _ _ => rfl⟩⟩
      case measure => simp [intOf]; omega
    · go_wp2
      go_ret
      exact ⟨rfl, hbw⟩

theorem specSignsOf_all (t : ByteArray) (w : World) :
    Calls Tryd.prog 5 #[.string t] w fun e w' => ∃ v, e = .returned (.tuple #[v, .bool (signsOf t).2]) ∧ OwnsSg w' w.heap.size v (signsOf t).1 ∧ Below w.heap.size w w' := by
  by_cases h : 3000 < t.size
  · exact specSignsOf_long t w h
  · exact specSignsOf_short t w (by omega)
theorem big_any3 (a : Option Addr) (n cap : Nat) (w : World) :
    Calls Tryd.prog 10 #[.slice a n cap] w fun e w' => e = .returned (.bool (decide (1048576 < (n : Int)))) ∧ w' = w := by
  go_enter Tryd.func10, Tryd.ntmps10
  go_wp2
  go_ret
  exact ⟨rfl, rfl⟩

set_option maxRecDepth 100000 in
set_option maxHeartbeats 1600000 in
theorem lawSignsT (v : Value) (n : Nat) (w : World) (hv : Code8 w w.heap.size v n) (hd : DoorOk2 w) :
    Calls Tryd.prog 4 #[v] w fun e w' => e = .returned (.bool true) ∧ Below w.heap.size w w' := by
  have V : Hid (Code8 w w.heap.size v n) := hv
  have Hd : Hid (DoorOk2 w) := hd
  obtain ⟨a, cap, rfl, _⟩ := hv
  clear hd
  by_cases hn : 1048576 < n
  · have hn' : (1048576 : Int) < (n : Int) := by omega
    go_enter Tryd.func4, Tryd.ntmps4
    go_wp2_with (go_at_call 10; refine (big_any3 a n cap _).mono ?_; rintro e w1 ⟨rfl, rfl⟩)
    go_ret
    exact ⟨rfl, Below.refl _ _⟩
  have hn1 : n ≤ 1048576 := by omega
  have hn' : ¬ (1048576 : Int) < (n : Int) := by omega
  go_enter Tryd.func4, Tryd.ntmps4
  go_wp2_with fail
  go_at_call 10
  refine (big_any3 a n cap _).mono ?_
  rintro e w0 ⟨rfl, rfl⟩
  go_wp2_with fail
  go_at_call 11
  refine (DrawSigns_any _ n _ hn1 V.out).mono ?_
  rintro e w1 ⟨⟨o, ss, rfl, hl, hr, ho⟩, hg1⟩
  obtain ⟨k1, k2, k3⟩ := signsOf_text ss hr hl
  obtain ⟨S, HS⟩ : ∃ S, Hid (signText ss = S) := ⟨_, (rfl : signText ss = signText ss)⟩
  rw [HS.out] at k1 k2 k3
  have H1 : Hid (Below w0.heap.size w0 w1 ∧ OwnsSg w1 w0.heap.size o ss ∧ ∀ s ∈ ss, RightSg s) := ⟨below_of_grown hg1, ho, hr⟩
  have hz1 := hg1.size
  have K : Hid (signsOf S = (ss, true) ∧ signsOf ((⟨#[32, 10]⟩ : ByteArray) ++ S ++ ⟨#[32, 32]⟩) = (ss, true)) := ⟨k1, k2⟩
  clear hg1 ho hr k1 k2
  have D1 : Hid (DoorOk2 w1) := Hd.out.below H1.out.1
  have CT : Hid (∀ wx, wx = w1 → Calls Tryd.prog 12 #[o] wx fun e w' => e = .returned (.string S) ∧ Below wx.heap.size wx w') := fun wx hwx => by
    subst hwx
    have h1 := textTo_len ss H1.out.2.2 ss.length (Nat.le_refl _)
    have := implSignText_2 wx.heap.size o ss wx (Nat.le_refl _) H1.out.2.1.row (by omega) (fun s hs => right_num (H1.out.2.2 s hs)) (by omega) D1.out
    rw [HS.out] at this
    exact this
  go_wp2_with fail
  go_at_call 12
  refine Calls.mono (CT.out _ rfl) ?_
  rintro e w2 ⟨rfl, hb2⟩
  have H2 : Hid (Below w0.heap.size w0 w2 ∧ OwnsSg w2 w0.heap.size o ss) := ⟨H1.out.1.trans (hb2.mono hz1), OwnsR.below H1.out.2.1 hb2⟩
  have hz2 := hb2.size
  clear hb2 CT D1
  have D2 : Hid (DoorOk2 w2) := Hd.out.below H2.out.1
  have CI : Hid (∀ wx, DoorOk2 wx → Calls Tryd.prog 6 #[.string S] wx fun e w' => ∃ v, e = .returned (.tuple #[v, .bool true]) ∧ OwnsSg w' wx.heap.size v ss ∧ Below wx.heap.size wx w') := fun wx hx => by
    have := implSignsOf_2 S wx (by omega) hx
    rw [K.out.1] at this
    exact this
  go_wp2_with fail
  go_at_call 6
  refine Calls.mono (CI.out _ D2.out) ?_
  rintro e w3 ⟨vx, rfl, hx3, hb3⟩
  have H3 : Hid (Below w0.heap.size w0 w3 ∧ OwnsSg w3 w0.heap.size o ss ∧ OwnsSg w3 w0.heap.size vx ss) := ⟨H2.out.1.trans (hb3.mono (by omega)), OwnsR.below H2.out.2 hb3, owns_base hx3 (by omega)⟩
  have hz3 := hb3.size
  clear hb3 hx3 H2 D2 CI
  have D3 : Hid (DoorOk2 w3) := Hd.out.below H3.out.1
  have s10 : (⟨#[32, 10]⟩ : ByteArray).size = 2 := rfl
  have s32 : (⟨#[32, 32]⟩ : ByteArray).size = 2 := rfl
  have CJ : Hid (∀ wx, DoorOk2 wx → Calls Tryd.prog 6 #[.string ((⟨#[32, 10]⟩ : ByteArray) ++ S ++ ⟨#[32, 32]⟩)] wx fun e w' => ∃ v, e = .returned (.tuple #[v, .bool true]) ∧ OwnsSg w' wx.heap.size v ss ∧ Below wx.heap.size wx w') := fun wx hx => by
    have := implSignsOf_2 ((⟨#[32, 10]⟩ : ByteArray) ++ S ++ ⟨#[32, 32]⟩) wx (by rw [ByteArray.size_append, ByteArray.size_append]; omega) hx
    rw [K.out.2] at this
    exact this
  go_wp2_with fail
  go_at_call 6
  refine Calls.mono (CJ.out _ D3.out) ?_
  rintro e w4 ⟨vy, rfl, hx4, hb4⟩
  have H4 : Hid (Below w0.heap.size w0 w4 ∧ OwnsSg w4 w0.heap.size o ss ∧ OwnsSg w4 w0.heap.size vx ss ∧ OwnsSg w4 w0.heap.size vy ss) := ⟨H3.out.1.trans (hb4.mono (by omega)), OwnsR.below H3.out.2.1 hb4, OwnsR.below H3.out.2.2 hb4, owns_base hx4 (by omega)⟩
  have hz4 := hb4.size
  clear hb4 hx4 H3 D3 CJ K
  have V4 : Hid (Code8 w4 w4.heap.size (.slice a n cap) n) := (V.out.kept (Nat.le_refl _) (grown_of_below H4.out.1) (fun k e => by cases e)).up H4.out.1.size
  go_wp2_with fail
  go_at_call 13
  refine Calls.mono (DrawSignsOf_any _ n _ hn1 V4.out) ?_
  rintro e w5 ⟨⟨U, hU, rfl⟩, hg5⟩
  have hb5 := below_of_grown hg5
  have H5 : Hid (Below w0.heap.size w0 w5 ∧ OwnsSg w5 w0.heap.size o ss ∧ OwnsSg w5 w0.heap.size vx ss ∧ OwnsSg w5 w0.heap.size vy ss) := ⟨H4.out.1.trans (hb5.mono (by omega)), OwnsR.below H4.out.2.1 hb5, OwnsR.below H4.out.2.2.1 hb5, OwnsR.below H4.out.2.2.2 hb5⟩
  have hz5 := hb5.size
  clear hb5 hg5 H4 V4
  have D5 : Hid (DoorOk2 w5) := Hd.out.below H5.out.1
  obtain ⟨A, HA⟩ : ∃ A, Hid ((signsOf U).1 = A) := ⟨_, (rfl : (signsOf U).1 = (signsOf U).1)⟩
  obtain ⟨bu, HB⟩ : ∃ b, Hid ((signsOf U).2 = b) := ⟨_, (rfl : (signsOf U).2 = (signsOf U).2)⟩
  have HAr : Hid (A.length ≤ 3000 ∧ ∀ s ∈ A, RightSg s) := by rw [← HA.out]; exact ⟨signsOf_len U, signsOf_right U⟩
  have C5 : Hid (∀ wx, DoorOk2 wx → Calls Tryd.prog 6 #[.string U] wx fun e w' => ∃ v, e = .returned (.tuple #[v, .bool bu]) ∧ OwnsSg w' wx.heap.size v A ∧ Below wx.heap.size wx w') := fun wx hx => by
    have := implSignsOf_2 U wx (by omega) hx
    rw [HA.out, HB.out] at this
    exact this
  have C6 : Hid (∀ wx, Calls Tryd.prog 5 #[.string U] wx fun e w' => ∃ v, e = .returned (.tuple #[v, .bool bu]) ∧ OwnsSg w' wx.heap.size v A ∧ Below wx.heap.size wx w') := fun wx => by
    have := specSignsOf_all U wx
    rw [HA.out, HB.out] at this
    exact this
  go_wp2_with fail
  go_at_call 6
  refine Calls.mono (C5.out _ D5.out) ?_
  rintro e w6 ⟨va, rfl, hx6, hb6⟩
  have H6 : Hid (Below w0.heap.size w0 w6 ∧ OwnsSg w6 w0.heap.size o ss ∧ OwnsSg w6 w0.heap.size vx ss ∧ OwnsSg w6 w0.heap.size vy ss ∧ OwnsSg w6 w0.heap.size va A) := ⟨H5.out.1.trans (hb6.mono (by omega)), OwnsR.below H5.out.2.1 hb6, OwnsR.below H5.out.2.2.1 hb6, OwnsR.below H5.out.2.2.2 hb6, owns_base hx6 (by omega)⟩
  have hz6 := hb6.size
  clear hb6 hx6 H5 D5 C5
  go_wp2_with fail
  go_at_call 5
  refine Calls.mono (C6.out _) ?_
  rintro e w7 ⟨vb, rfl, hx7, hb7⟩
  have H7 : Hid (Below w0.heap.size w0 w7 ∧ OwnsSg w7 w0.heap.size o ss ∧ OwnsSg w7 w0.heap.size vx ss ∧ OwnsSg w7 w0.heap.size vy ss ∧ OwnsSg w7 w0.heap.size va A ∧ OwnsSg w7 w0.heap.size vb A) := ⟨H6.out.1.trans (hb7.mono (by omega)), OwnsR.below H6.out.2.1 hb7, OwnsR.below H6.out.2.2.1 hb7, OwnsR.below H6.out.2.2.2.1 hb7, OwnsR.below H6.out.2.2.2.2 hb7, owns_base hx7 (by omega)⟩
  have hz7 := hb7.size
  clear hb7 hx7 H6 C6
  have V7 : Hid (Code8 w7 w7.heap.size (.slice a n cap) n) := (V.out.kept (Nat.le_refl _) (grown_of_below H7.out.1) (fun k e => by cases e)).up H7.out.1.size
  go_wp2_with fail
  go_at_call 14
  refine Calls.mono (DrawKeyWord_any _ n _ hn1 V7.out) ?_
  rintro e w8 ⟨⟨Kw, hKw, rfl⟩, hg8⟩
  have hb8 := below_of_grown hg8
  have H8 : Hid (Below w0.heap.size w0 w8 ∧ OwnsSg w8 w0.heap.size o ss ∧ OwnsSg w8 w0.heap.size vx ss ∧ OwnsSg w8 w0.heap.size vy ss ∧ OwnsSg w8 w0.heap.size va A ∧ OwnsSg w8 w0.heap.size vb A) := ⟨H7.out.1.trans (hb8.mono (by omega)), OwnsR.below H7.out.2.1 hb8, OwnsR.below H7.out.2.2.1 hb8, OwnsR.below H7.out.2.2.2.1 hb8, OwnsR.below H7.out.2.2.2.2.1 hb8, OwnsR.below H7.out.2.2.2.2.2 hb8⟩
  have hz8 := hb8.size
  clear hb8 hg8 H7 V7
  have V8 : Hid (Code8 w8 w8.heap.size (.slice a n cap) n) := (V.out.kept (Nat.le_refl _) (grown_of_below H8.out.1) (fun k e => by cases e)).up H8.out.1.size
  go_wp2_with fail
  go_at_call 15
  refine Calls.mono (DrawNameOk_any _ n _ hn1 V8.out) ?_
  rintro e w9 ⟨⟨Nm, hNm, rfl⟩, hg9⟩
  have hb9 := below_of_grown hg9
  have H9 : Hid (Below w0.heap.size w0 w9 ∧ OwnsSg w9 w0.heap.size o ss ∧ OwnsSg w9 w0.heap.size vx ss ∧ OwnsSg w9 w0.heap.size vy ss ∧ OwnsSg w9 w0.heap.size va A ∧ OwnsSg w9 w0.heap.size vb A) := ⟨H8.out.1.trans (hb9.mono (by omega)), OwnsR.below H8.out.2.1 hb9, OwnsR.below H8.out.2.2.1 hb9, OwnsR.below H8.out.2.2.2.1 hb9, OwnsR.below H8.out.2.2.2.2.1 hb9, OwnsR.below H8.out.2.2.2.2.2 hb9⟩
  have hz9 := hb9.size
  clear hb9 hg9 H8 V8
  have hAl : A.length ≤ 3000 := HAr.out.1
  go_wp2_with fail
  go_at_call 16
  refine Calls.mono (sameSigns_same w9.heap.size _ _ ss _ (Nat.le_refl _) H9.out.2.2.1.row H9.out.2.1.row (by omega)) ?_
  rintro e w10 ⟨rfl, hb10⟩
  have H10 : Hid (Below w0.heap.size w0 w10 ∧ OwnsSg w10 w0.heap.size o ss ∧ OwnsSg w10 w0.heap.size vy ss ∧ OwnsSg w10 w0.heap.size va A ∧ OwnsSg w10 w0.heap.size vb A) := ⟨H9.out.1.trans (hb10.mono (by omega)), OwnsR.below H9.out.2.1 hb10, OwnsR.below H9.out.2.2.2.1 hb10, OwnsR.below H9.out.2.2.2.2.1 hb10, OwnsR.below H9.out.2.2.2.2.2 hb10⟩
  have hz10 := hb10.size
  clear hb10 H9
  go_wp2_with fail
  go_at_call 16
  refine Calls.mono (sameSigns_same w10.heap.size _ _ ss _ (Nat.le_refl _) H10.out.2.2.1.row H10.out.2.1.row (by omega)) ?_
  rintro e w11 ⟨rfl, hb11⟩
  have H11 : Hid (Below w0.heap.size w0 w11 ∧ OwnsSg w11 w0.heap.size va A ∧ OwnsSg w11 w0.heap.size vb A) := ⟨H10.out.1.trans (hb11.mono (by omega)), OwnsR.below H10.out.2.2.2.1 hb11, OwnsR.below H10.out.2.2.2.2 hb11⟩
  have hz11 := hb11.size
  clear hb11 H10
  go_wp2_with fail
  go_at_call 16
  refine Calls.mono (sameSigns_same w11.heap.size _ _ A _ (Nat.le_refl _) H11.out.2.1.row H11.out.2.2.row (by omega)) ?_
  rintro e w12 ⟨rfl, hb12⟩
  have H12 : Hid (Below w0.heap.size w0 w12 ∧ OwnsSg w12 w0.heap.size va A ∧ OwnsSg w12 w0.heap.size vb A) := ⟨H11.out.1.trans (hb12.mono (by omega)), OwnsR.below H11.out.2.1 hb12, OwnsR.below H11.out.2.2 hb12⟩
  have hz12 := hb12.size
  clear hb12 H11
  have D12 : Hid (DoorOk2 w12) := Hd.out.below H12.out.1
  go_wp2_with fail
  go_at_call 17
  refine Calls.mono (implKeyWord_2 Kw _ (by omega) D12.out) ?_
  rintro e w13 ⟨rfl, hb13⟩
  have H13 : Hid (Below w0.heap.size w0 w13 ∧ OwnsSg w13 w0.heap.size va A ∧ OwnsSg w13 w0.heap.size vb A) := ⟨H12.out.1.trans (hb13.mono (by omega)), OwnsR.below H12.out.2.1 hb13, OwnsR.below H12.out.2.2 hb13⟩
  have hz13 := hb13.size
  clear hb13 H12 D12
  go_wp2_with fail
  go_at_call 18
  refine Calls.mono (specKeyWord_any Kw _) ?_
  rintro e w14 ⟨rfl, hb14⟩
  have H14 : Hid (Below w0.heap.size w0 w14 ∧ OwnsSg w14 w0.heap.size va A ∧ OwnsSg w14 w0.heap.size vb A) := ⟨H13.out.1.trans (hb14.mono (by omega)), OwnsR.below H13.out.2.1 hb14, OwnsR.below H13.out.2.2 hb14⟩
  have hz14 := hb14.size
  clear hb14 H13
  have D14 : Hid (DoorOk2 w14) := Hd.out.below H14.out.1
  generalize isKey Kw = bk
  go_wp2_with fail
  go_at_call 19
  refine Calls.mono (implNameOk_2 Nm _ (by omega) D14.out) ?_
  rintro e w15 ⟨rfl, hb15⟩
  have H15 : Hid (Below w0.heap.size w0 w15 ∧ OwnsSg w15 w0.heap.size va A ∧ OwnsSg w15 w0.heap.size vb A) := ⟨H14.out.1.trans (hb15.mono (by omega)), OwnsR.below H14.out.2.1 hb15, OwnsR.below H14.out.2.2 hb15⟩
  have hz15 := hb15.size
  clear hb15 H14 D14
  go_wp2_with fail
  go_at_call 20
  refine Calls.mono (specNameOk_any Nm _ (by omega)) ?_
  rintro e w16 ⟨rfl, hb16⟩
  have H16 : Hid (Below w0.heap.size w0 w16 ∧ OwnsSg w16 w0.heap.size va A ∧ OwnsSg w16 w0.heap.size vb A) := ⟨H15.out.1.trans (hb16.mono (by omega)), OwnsR.below H15.out.2.1 hb16, OwnsR.below H15.out.2.2 hb16⟩
  have hz16 := hb16.size
  clear hb16 H15
  have D16 : Hid (DoorOk2 w16) := Hd.out.below H16.out.1
  generalize nameOk Nm = bn
  have HAt : Hid ((textTo A A.length).length ≤ 1000000000) := by
    have h1 := textTo_len A HAr.out.2 A.length (Nat.le_refl _)
    show _ ≤ _
    omega
  go_wp2_with fail
  go_at_call 12
  refine Calls.mono (implSignText_2 w16.heap.size va A _ (Nat.le_refl _) H16.out.2.1.row (by omega) (fun s hs => right_num (HAr.out.2 s hs)) HAt.out D16.out) ?_
  rintro e w17 ⟨rfl, hb17⟩
  have H17 : Hid (Below w0.heap.size w0 w17 ∧ OwnsSg w17 w0.heap.size vb A) := ⟨H16.out.1.trans (hb17.mono (by omega)), OwnsR.below H16.out.2.2 hb17⟩
  have hz17 := hb17.size
  clear hb17 H16 D16
  obtain ⟨TA, HTA⟩ : ∃ T, Hid (signText A = T) := ⟨_, (rfl : signText A = signText A)⟩
  rw [HTA.out]
  have CS : Hid (∀ wx, wx = w17 → Calls Tryd.prog 21 #[vb] wx fun e w' => e = .returned (.string TA) ∧ Below wx.heap.size wx w') := fun wx hwx => by
    subst hwx
    have := specSignText_any wx.heap.size vb A wx (Nat.le_refl _) H17.out.2.row (by omega) (fun s hs => by have := right_num (HAr.out.2 s hs); omega) HAt.out
    rw [HTA.out] at this
    exact this
  go_wp2_with fail
  go_at_call 21
  refine Calls.mono (CS.out _ rfl) ?_
  rintro e w18 ⟨rfl, hb18⟩
  have H18 : Hid (Below w0.heap.size w0 w18) := H17.out.1.trans (hb18.mono (by omega))
  clear hb18 H17 CS
  go_wp2
  go_ret
  exact ⟨rfl, H18.out⟩

end Go.Proofs.YtbanmldmdoedkaaDoor
