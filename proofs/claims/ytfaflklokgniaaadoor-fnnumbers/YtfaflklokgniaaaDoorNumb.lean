/-
  Numbers and texts come back: the drawing, and the law's walk; where the library's table of powers of ten lies as its text lays it.
-/
import Derived.Test.YtfaflklokgniaaaDoorDraw2
import Derived.Test.YtfaflklokgniaaaDoorPlain8
import Derived.Test.YtfaflklokgniaaaDoorShort
import Derived.Test.YtfaflklokgniaaaDoorHex
import Derived.Test.YtfaflklokgniaaaDoorUnhex
import Derived.Test.YtfaflklokgniaaaDoorReadDec
import Derived.Test.YtfaflklokgniaaaDoorLawDec
import Derived.Deep.DeepCutAuto
import Derived.Deep.CutRange
namespace Go.Proofs.YtfaflklokgniaaaDoor
open Go.RowKit

theorem ints_made (w : World) (cs : Array Value) (e : TypeId) (hcs : ∀ i, i < cs.size → ∃ x : Int, cs[i]? = some (.int .i64 x)) : Ints (w.alloc (.cells cs e)) w.heap.size cs.size := by
  intro i hi
  obtain ⟨x, hx⟩ := hcs i hi
  exact ⟨x, by rw [World.cell?_alloc_mark]; exact hx⟩

set_option maxHeartbeats 800000 in
theorem l01Number_draws (w0 : World) (g : Nat) (v : Value) (n : Nat) (w : World) (hn : n ≤ 1048576) (h : Hid (Draws w0 w 47 g v n)) :
    Calls Tryd.prog 15 #[.pointer (some ⟨g, 0, none⟩)] w fun e w' => (∃ x : Int, e = .returned (.int .i64 x)) ∧ Hid (Draws w0 w' 47 g v n) := by
  go_enter Tryd.func15, Tryd.ntmps15
  go_wp2_with fail
  go_at_call 20
  refine (l01Below_draws w0 4 g v n _ (by omega) (by omega) hn h).mono ?_
  rintro e w1 ⟨⟨x, hx, rfl⟩, h1⟩
  clear h
  by_cases h0 : x = 0
  · subst h0
    go_wp2_with fail
    go_at_call 23
    have hg := h1.out.2.2.2.1.lt
    refine (l01PickInt_draws w0 10 w1.heap.size g v n _ (by omega) (by omega) (by simp) (by omega) (ints_made w1 _ _ ?_) hn (show Hid _ from h1.out.other (World.grownBy_alloc _ _ _))).mono ?_
    · intro i hi
      simp at hi
      have : i = 0 ∨ i = 1 ∨ i = 2 ∨ i = 3 ∨ i = 4 ∨ i = 5 ∨ i = 6 ∨ i = 7 ∨ i = 8 ∨ i = 9 := by omega
      rcases this with rfl | rfl | rfl | rfl | rfl | rfl | rfl | rfl | rfl | rfl <;> exact ⟨_, rfl⟩
    rintro e w2 ⟨⟨y, rfl⟩, h2⟩
    go_wp2
    go_ret
    exact ⟨⟨y, rfl⟩, h2⟩
  · have h0' : ((x : Int) == 0) = false := by simp; omega
    by_cases h1' : x = 1
    · subst h1'
      go_wp2_with (go_at_call 20; refine (l01Below_draws w0 1000000000 g v n _ (by omega) (by omega) hn h1).mono ?_; rintro e w2 ⟨⟨y, hy, rfl⟩, h2⟩)
      go_ret
      exact ⟨⟨_, rfl⟩, h2⟩
    · have h1'' : ((x : Int) == 1) = false := by simp; omega
      go_wp2_with (go_at_call 20; refine (l01Below_draws w0 400 g v n _ (by omega) (by omega) hn h1).mono ?_; rintro e w2 ⟨⟨y, hy, rfl⟩, h2⟩)
      go_ret
      exact ⟨⟨_, rfl⟩, h2⟩

theorem DrawVarText_any (v : Value) (n : Nat) (w : World) (hn : n ≤ 1048576) (hv : Code8 w w.heap.size v n) :
    Calls Tryd.prog 5 #[v] w fun e w' => (∃ x : Int, e = .returned (.int .i64 x)) ∧ w.grownBy w' none := by
  have V : Hid (Code8 w w.heap.size v n) := hv
  clear hv
  go_enter Tryd.func5, Tryd.ntmps5
  go_wp2_with (first | (go_at_call 16; refine (l01New_draws v n _ hn V.out).mono ?_; rintro e w1 ⟨rfl, h1⟩) | (go_at_call 15; refine (l01Number_draws w w.heap.size v n _ hn h1).mono ?_; rintro e w2 ⟨⟨x, rfl⟩, h2⟩))
  go_ret
  exact ⟨⟨x, rfl⟩, h2.out.2.2.2.2⟩

theorem DrawHex_any (v : Value) (n : Nat) (w : World) (hn : n ≤ 1048576) (hv : Code8 w w.heap.size v n) :
    Calls Tryd.prog 10 #[v] w fun e w' => (∃ s : ByteArray, s.size ≤ 20001 ∧ e = .returned (.string s)) ∧ w.grownBy w' none := by
  have V : Hid (Code8 w w.heap.size v n) := hv
  clear hv
  go_enter Tryd.func10, Tryd.ntmps10
  go_wp2_with fail
  go_at_call 16
  refine (l01New_draws v n _ hn V.out).mono ?_
  rintro e w1 ⟨rfl, h1⟩
  go_wp2_with fail
  go_at_call 18
  refine (l01Once_draws w 60 w.heap.size v n _ (by omega) (by omega) hn h1).mono ?_
  rintro e w2 ⟨⟨b, rfl⟩, h2⟩
  cases b
  · go_wp2_with (first | (go_at_call 20; refine (l01Below_draws w 30 w.heap.size v n _ (by omega) (by omega) hn h2).mono ?_; rintro e w3 ⟨⟨x, hx, rfl⟩, h3⟩) | (go_at_call 21; refine (l01Text_draws w x w.heap.size v n _ (by omega) hn h3).mono ?_; rintro e w4 ⟨⟨s, hs, rfl⟩, h4⟩))
    go_ret
    exact ⟨⟨s, by omega, rfl⟩, h4.out.2.2.2.2⟩
  · go_wp2_with fail
    go_at_call 20
    refine (l01Below_draws w 2 w.heap.size v n _ (by omega) (by omega) hn h2).mono ?_
    rintro e w3 ⟨⟨x, hx, rfl⟩, h3⟩
    go_wp2_with fail
    go_at_call 19
    refine (l01Long_draws w (20000 + x) 200 w.heap.size v n _ (by omega) h3).mono ?_
    rintro e w4 ⟨⟨s, hs, rfl⟩, h4⟩
    go_wp2
    go_ret
    exact ⟨⟨s, by omega, rfl⟩, h4.out.2.2.2.2⟩

theorem big_any' (a : Option Addr) (n cap : Nat) (w : World) :
    Calls Tryd.prog 4 #[.slice a n cap] w fun e w' => e = .returned (.bool (decide (1048576 < (n : Int)))) ∧ w' = w := by
  go_enter Tryd.func4, Tryd.ntmps4
  go_wp2
  go_ret
  exact ⟨rfl, rfl⟩

set_option maxHeartbeats 800000 in
theorem lawNumbersT (v : Value) (n : Nat) (w : World) (hv : Code8 w w.heap.size v n) (ht : Tab10 w) :
    Calls Tryd.prog 3 #[v] w fun e w' => e = .returned (.bool true) ∧ Below w.heap.size w w' := by
  have V : Hid (Code8 w w.heap.size v n) := hv
  have Ht : Hid (Tab10 w) := ht
  obtain ⟨a, cap, rfl, _⟩ := hv
  clear ht
  by_cases hn : 1048576 < n
  · have hn' : (1048576 : Int) < (n : Int) := by omega
    go_enter Tryd.func3, Tryd.ntmps3
    go_wp2_with (go_at_call 4; refine (big_any' a n cap _).mono ?_; rintro e w1 ⟨rfl, rfl⟩)
    go_ret
    exact ⟨rfl, Below.refl _ _⟩
  have hn1 : n ≤ 1048576 := by omega
  have hn' : ¬ (1048576 : Int) < (n : Int) := by omega
  go_enter Tryd.func3, Tryd.ntmps3
  go_wp2_with fail
  go_at_call 4
  refine (big_any' a n cap _).mono ?_
  rintro e w0 ⟨rfl, rfl⟩
  go_wp2_with fail
  go_at_call 5
  refine (DrawVarText_any _ n _ hn1 V.out).mono ?_
  rintro e w1 ⟨⟨x, rfl⟩, hg1⟩
  have H1 : Hid (Below w0.heap.size w0 w1 ∧ Code8 w1 w1.heap.size (.slice a n cap) n) := ⟨below_of_grown hg1, (V.out.kept (Nat.le_refl _) hg1 (fun k e => by cases e)).up hg1.size⟩
  clear hg1 V
  go_upto_region 4 with fail
  go_cut [30] from 25 to 30 (fun b wx => wx = w1 ∧ b = .bool (decide (x < 0 ∨ 1000000000 < x)))
  case first =>
    by_cases h0 : x < 0
    · go_wp2_with fail
      go_meet
      exact ⟨rfl, by simp [h0]⟩
    · by_cases h1 : 1000000000 < x
      · go_wp2_with fail
        go_meet
        exact ⟨rfl, by simp [h1]⟩
      · go_wp2_with fail
        go_meet
        exact ⟨rfl, by simp [h0, h1]⟩
  case rest =>
  obtain ⟨rfl, rfl⟩ := hcut
  go_upto_if 30 with fail
  go_cut [3] from 30 to 30 (fun s wx => wx = wc ∧ ∃ N : Nat, N ≤ 1000000000 ∧ s = .int .i64 (N : Int))
  case first =>
    by_cases h0 : x < 0 ∨ 1000000000 < x
    · go_wp2_with fail
      go_meet
      exact ⟨rfl, 12345, by omega, rfl⟩
    · go_wp2_with fail
      go_meet
      exact ⟨rfl, x.toNat, by omega, by congr 1; omega⟩
  case rest =>
  obtain ⟨rfl, N, hN, rfl⟩ := hcut
  have hvl := varB_len N
  obtain ⟨S, HS⟩ : ∃ S, Hid (strOfNums (varB N) = S) := ⟨_, (rfl : strOfNums (varB N) = strOfNums (varB N))⟩
  have hSn : S.size = (varB N).length := by rw [← HS.out, strOfNums_size]
  have hSz : S.size ≤ 1000000001 := by omega
  have h120 : (⟨#[120]⟩ : ByteArray).size = 1 := rfl
  have h121 : (⟨#[121]⟩ : ByteArray).size = 1 := rfl
  have hTz : ((⟨#[120]⟩ : ByteArray) ++ S ++ ⟨#[121]⟩).size = S.size + 2 := by rw [ByteArray.size_append, ByteArray.size_append, h120, h121]; omega
  have hrv : rvAt ((⟨#[120]⟩ : ByteArray) ++ S ++ ⟨#[121]⟩) 1 0 0 = some (N, S.size + 1) := by
    have := rvAt_spelt ((⟨#[120]⟩ : ByteArray) ++ S ++ ⟨#[121]⟩) 1 N [121] hN (by rw [HS.out, ByteArray.data_append, ByteArray.data_append]; simp)
    rw [this, hSn, Nat.add_comm]
  have c1 : Hid (∀ wx, Calls Tryd.prog 7 #[.string ((⟨#[120]⟩ : ByteArray) ++ S ++ ⟨#[121]⟩), .int .i64 1] wx fun e w' => e = .returned (.tuple #[.int .i64 (N : Int), .int .i64 ((S.size + 1 : Nat) : Int), .bool true]) ∧ w' = wx) :=
    fun wx => implReadVar_some _ 1 N (S.size + 1) wx (by omega) (by omega) hrv
  have c2 : Hid (∀ wx, Calls Tryd.prog 6 #[.int .i64 (N : Int)] wx fun e w' => e = .returned (.tuple #[.string S, .bool true]) ∧ Below wx.heap.size wx w') := fun wx => by
    have := implVarText_yes N wx hN
    rw [HS.out] at this
    exact this
  clear hrv hTz hSn hvl
  go_wp2_with fail
  go_at_call 6
  refine Calls.mono (c2.out _) ?_
  rintro e w2 ⟨rfl, hb2⟩
  have H2 : Hid (Below wc.heap.size wc w2) := hb2
  clear hb2 c2
  go_wp2_with fail
  go_at_call 7
  refine Calls.mono (c1.out _) ?_
  rintro e w2' ⟨rfl, rfl⟩
  clear c1
  obtain ⟨D, HD⟩ : ∃ D : ByteArray, Hid (D = ⟨(Lib.decDigits N).toArray⟩) := ⟨_, (rfl : (⟨(Lib.decDigits N).toArray⟩ : ByteArray) = ⟨(Lib.decDigits N).toArray⟩)⟩
  have c3 : Hid (∀ wx, Tab10 wx → Calls Tryd.prog 9 #[.int .i64 (N : Int)] wx fun e w' => e = .returned (.string D) ∧ Below wx.heap.size wx w') := fun wx ht => by
    have := implDecimal_any (N : Int) wx (by omega) (by omega) ht
    rw [Lib.itoa_nonneg, ← HD.out] at this
    exact this
  have c4 : Hid (∀ wx, Calls Tryd.prog 8 #[.string D] wx fun e w' => e = .returned (.tuple #[.int .i64 (N : Int), .bool true]) ∧ w' = wx) := fun wx => by
    obtain ⟨_, _, h3⟩ := valD_dec N N (Nat.le_refl _)
    have hl : (Lib.decDigits N).length ≤ 10 := h3 10 (by omega) (by omega)
    have hs : D.size = (Lib.decDigits N).length := by rw [HD.out]; simp [ByteArray.size]
    have hne : 0 < (Lib.decDigits N).length := List.length_pos_iff.mpr (dec_ne N)
    have hD0 : 0 < D.size := by omega
    have h0 : D[0].toNat ≠ 48 ∨ D.size = 1 := by
      rcases Nat.eq_zero_or_pos N with hN0 | hp
      · subst hN0
        have := h3 1 (by omega) (by omega)
        exact .inr (by omega)
      · refine .inl (fun e => dec_head hp ?_)
        have h5 := head_at hD0
        rw [show D.data.toList = Lib.decDigits N by rw [HD.out]] at h5
        rw [h5]
        congr 1
        exact UInt8.toNat.inj (by rw [e]; rfl)
    have := implReadDecimal_short D wx (by omega) hD0 h0
    rw [show rdOut D = ((N : Int), true) by rw [HD.out]; exact rd_dec N hN] at this
    exact this
  have T2 : Hid (Tab10 w2') := (Ht.out.below H1.out.1).below H2.out
  clear HD
  go_wp2_with fail
  go_at_call 9
  refine Calls.mono (c3.out _ T2.out) ?_
  rintro e w3 ⟨rfl, hb3⟩
  have H3 : Hid (Below wc.heap.size wc w3) := H2.out.trans (hb3.mono H2.out.size)
  clear hb3 c3 T2
  go_wp2_with fail
  go_at_call 8
  refine Calls.mono (c4.out _) ?_
  rintro e w3' ⟨rfl, rfl⟩
  clear c4
  have V3 : Hid (Code8 w3' w3'.heap.size (.slice a n cap) n) := (H1.out.2.kept (Nat.le_refl _) (grown_of_below H3.out) (fun k e => by cases e)).up H3.out.size
  go_wp2_with fail
  go_at_call 10
  refine Calls.mono (DrawHex_any _ n _ hn1 V3.out) ?_
  rintro e w4 ⟨⟨s4, hs4, rfl⟩, hg4⟩
  have H4 : Hid (Below wc.heap.size wc w4) := H3.out.trans ((below_of_grown hg4).mono H3.out.size)
  clear hg4 V3
  go_upto_if 54 with fail
  go_cut [11] from 54 to 54 (fun s wx => wx = w4 ∧ ∃ t : ByteArray, t.size ≤ 300 ∧ s = .string t)
  case first =>
    by_cases h0 : 300 < s4.size
    · have h0' : (300 : Int) < (s4.size : Int) := by omega
      go_wp2_with fail
      go_meet
      exact ⟨rfl, ⟨#[97, 98, 99]⟩, by decide, rfl⟩
    · have h0' : ¬ (300 : Int) < (s4.size : Int) := by omega
      go_wp2_with fail
      go_meet
      exact ⟨rfl, s4, by omega, rfl⟩
  case rest =>
  obtain ⟨rfl, t, ht, rfl⟩ := hcut
  obtain ⟨A, HA⟩ : ∃ A, Hid (strOfNums (varB t.size) ++ t = A) := ⟨_, (rfl : strOfNums (varB t.size) ++ t = strOfNums (varB t.size) ++ t)⟩
  obtain ⟨X, HX⟩ : ∃ X, Hid (strOfNums (hexB t.data.toList) = X) := ⟨_, (rfl : strOfNums (hexB t.data.toList) = strOfNums (hexB t.data.toList))⟩
  have c5 : Hid (∀ wx, Calls Tryd.prog 11 #[.string t] wx fun e w' => e = .returned (.tuple #[.string A, .bool true]) ∧ Below wx.heap.size wx w') := fun wx => by
    have := implShortText_yes t wx (by omega)
    rw [HA.out] at this
    exact this
  have hAz : A.size ≤ 700 := by
    have := varB_len t.size
    rw [← HA.out, ByteArray.size_append, strOfNums_size]
    omega
  have c6 : Hid (∀ wx, Calls Tryd.prog 12 #[.string A, .int .i64 0] wx fun e w' => e = .returned (.tuple #[.string t, .int .i64 (A.size : Int), .bool true]) ∧ Below wx.heap.size wx w') := fun wx => by
    have h1 : A.size = (varB t.size).length + t.size := by rw [← HA.out, ByteArray.size_append, strOfNums_size]
    have h2 : rvAt A 0 0 0 = some (t.size, (varB t.size).length) := by
      have := rvAt_spelt A 0 t.size t.data.toList (by omega) (by rw [← HA.out, ByteArray.data_append]; simp)
      simpa using this
    have := implReadShort_yes A 0 t.size (varB t.size).length wx (by omega) (by omega) h2 (by omega) (by omega)
    have h3 : A.extract (varB t.size).length ((varB t.size).length + t.size) = t := by
      have h4 : (A.extract (varB t.size).length ((varB t.size).length + t.size)).data.toList = t.data.toList := by
        rw [Lib.extract_data, ← HA.out, ByteArray.data_append, Array.toList_append, List.drop_left' (by rw [← strOfNums_size]; exact tlen _)]
        exact List.take_of_length_le (by rw [tlen]; omega)
      generalize A.extract (varB t.size).length ((varB t.size).length + t.size) = q at h4
      cases q
      cases t
      simp at h4
      rw [h4]
    rw [h3, show ((varB t.size).length : Int) + (t.size : Int) = (A.size : Int) by rw [h1]; simp] at this
    exact this
  have c7 : Hid (∀ wx, Calls Tryd.prog 13 #[.string t] wx fun e w' => e = .returned (.tuple #[.string X, .bool true]) ∧ Below wx.heap.size wx w') := fun wx => by
    have := implHex_yes t wx (by omega)
    rw [HX.out] at this
    exact this
  have c8 : Hid (∀ wx, Calls Tryd.prog 14 #[.string X] wx fun e w' => e = .returned (.tuple #[.string t, .bool true]) ∧ Below wx.heap.size wx w') := fun wx => by
    have h1 : X.size = 2 * t.size := by rw [← HX.out, strOfNums_size, hexB_len, tlen]
    have := implUnhex_yes X wx (by omega) (by omega)
    rw [show uh X = (t, true) by rw [← HX.out]; exact uh_hex t.data.toList] at this
    exact this
  clear HA HX
  go_wp2_with fail
  go_at_call 11
  refine Calls.mono (c5.out _) ?_
  rintro e w5 ⟨rfl, hb5⟩
  have H5 := H4.out.trans (hb5.mono H4.out.size)
  clear hb5 c5
  have H5' : Hid _ := H5
  clear H5
  go_wp2_with fail
  go_at_call 12
  refine Calls.mono (c6.out _) ?_
  rintro e w6 ⟨rfl, hb6⟩
  have H6 := H5'.out.trans (hb6.mono H5'.out.size)
  clear hb6 c6
  have H6' : Hid _ := H6
  clear H6
  go_wp2_with fail
  go_at_call 13
  refine Calls.mono (c7.out _) ?_
  rintro e w7 ⟨rfl, hb7⟩
  have H7 := H6'.out.trans (hb7.mono H6'.out.size)
  clear hb7 c7
  have H7' : Hid _ := H7
  clear H7
  go_wp2_with fail
  go_at_call 14
  refine Calls.mono (c8.out _) ?_
  rintro e w8 ⟨rfl, hb8⟩
  have H8 := H7'.out.trans (hb8.mono H7'.out.size)
  clear hb8 c8
  have H8' : Hid _ := H8
  clear H8
  go_wp2
  go_ret
  exact ⟨rfl, H1.out.1.trans (H8'.out.mono H1.out.1.size)⟩

theorem lawNumbers (v : Value) (n : Nat) (w : World) (hL : laidMetH Tryd.prog Rows.fnNumbersRow.laid w) (hv : Code8 w w.heap.size v n) :
    Calls Tryd.prog 3 #[v] w fun e w' => e = .returned (.bool true) ∧ Below w.heap.size w w' := by
  refine lawNumbersT v n w hv ?_
  rw [MakeChecks.laidMetH_plain _ _ _ (by kernel_rfl)] at hL
  have h3 : laidMet Tryd.prog [("internal/strconv.uint64pow10", Rows.laid_internal_strconv_uint64pow10)] w := hL.tail.tail
  rw [tab10_data] at h3
  exact Lib.tabIs_of_head (g := 0) (t := 59) (e := 52) (n := 20) (by kernel_rfl) (by kernel_rfl) Tryd.underlying59 Tryd.underlying52 (by kernel_rfl) (by kernel_rfl) h3

end Go.Proofs.YtfaflklokgniaaaDoor
