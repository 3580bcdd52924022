/-
  One byte that is turned: sealed texts come back, turned ones do not; the law's walk, where the table of four halvings lies as the program's text lays it.
-/
import Derived.Test.YtmmdpgjgfbhkhaaDoorSeal
import Derived.Test.YtmmdpgjgfbhkhaaDoorPlain7
import Derived.Test.YtmmdpgjgfbhkhaaDoorDraw
import Derived.Lib.ConvBytes
namespace Go.Proofs.YtmmdpgjgfbhkhaaDoor
open Go.RowKit

theorem sealOf_data (s : ByteArray) : (sealOf s).data.toList = sealL s.data.toList := by
  unfold sealOf sealL fourU
  rw [ByteArray.data_append, Array.toList_append]
  rfl
theorem sealOf_size (s : ByteArray) : (sealOf s).size = s.size + 4 := by
  unfold sealOf
  rw [ByteArray.size_append, four_size]
theorem size_list (s : ByteArray) : s.data.toList.length = s.size := by rw [Array.length_toList]; rfl
theorem extract_list (t : ByteArray) (a b : Nat) (h : a ≤ b) : (t.extract a b).data.toList = (t.data.toList.take b).drop a := by
  rw [Lib.extract_data]
  simp [List.take_drop, Nat.add_sub_cancel' h]

theorem implUnsealed_sealed (s : ByteArray) (w : World) (hs : s.size ≤ 20000) (ht : Tab4 w) :
    Calls Tryd.prog 12 #[.string (sealOf s)] w fun e w' => e = .returned (.tuple #[.string s, .bool true]) ∧ Below w.heap.size w w' := by
  refine implUnsealed_yes (sealOf s) s (strOfNums (four (sumL 4294967295 s.data.toList))) s.size w (sealOf_size s) hs (bytes_ext ?_) (bytes_ext ?_) rfl ht
  · rw [ByteArray.toList_eq, ByteArray.toList_eq, extract_list _ _ _ (Nat.zero_le _), sealOf_data, sealL, ← size_list, List.take_left, List.drop_zero]
  · rw [ByteArray.toList_eq, ByteArray.toList_eq, extract_list _ _ _ (by rw [sealOf_size]; omega), sealOf_data, ← size_list (sealOf s), sealOf_data, List.take_length, sealL, ← size_list s, List.drop_left]
    rfl
theorem implUnsealed_turned (t : ByteArray) (n : Nat) (w : World) (hn : t.size = n + 4) (hN : n ≤ 20000) (h : ∀ A : List UInt8, A.length = n → t.data.toList ≠ sealL A) (ht : Tab4 w) :
    Calls Tryd.prog 12 #[.string t] w fun e w' => e = .returned (.tuple #[.string ⟨#[]⟩, .bool false]) ∧ Below w.heap.size w w' := by
  refine implUnsealed_no t _ _ n w hn hN rfl rfl (fun e => ?_) ht
  have hl := size_list t
  refine h ((t.extract 0 n).data.toList) (by rw [extract_list _ _ _ (Nat.zero_le _)]; simp; omega) ?_
  have e2 := congrArg (fun x : ByteArray => x.data.toList) e
  unfold sealL fourU
  rw [← strOfNums_data, ← e2, extract_list _ _ _ (Nat.zero_le _), extract_list _ _ _ (by omega), List.drop_zero, ← hl, List.take_length, List.take_append_drop]

theorem big_any (a : Option Addr) (n cap : Nat) (w : World) :
    Calls Tryd.prog 8 #[.slice a n cap] w fun e w' => e = .returned (.bool (decide (1048576 < (n : Int)))) ∧ w' = w := by
  go_enter Tryd.func8, Tryd.ntmps8
  go_wp2
  go_ret
  exact ⟨rfl, rfl⟩

theorem getD_mem {l : List Int} {i : Nat} (h : i < l.length) : l.getD i 0 ∈ l := by
  simp [List.getD, h]
/-- A text made a row of bytes: new memory. -/
theorem conv_bytes (w : World) (s : ByteArray) : ∃ (w' : World) (cap : Nat), (convert 9 22 (.string s)).run Tryd.prog w = .ok (.slice (some ⟨w.heap.size, 0, none⟩) s.size cap) w' ∧ w.grownBy w' none ∧ w'.heap.size = w.heap.size + 1 ∧
    (∀ j (hj : j < s.size), w'.cell? ⟨w.heap.size, j, none⟩ = some (.int .u8 (s[j].toNat : Int)) ∧ w'.frozen? ⟨w.heap.size, j, none⟩ = false) := by
  refine ⟨Lib.bytesWorld w 5 s, _, Lib.run_convert_string_bytes w 9 22 5 s Tryd.underlying9 Tryd.underlying22 Tryd.underlying5, ⟨rfl, rfl, rfl, ?_, fun k hk _ => Lib.bytesWorld_at_old w _ s k hk⟩, Lib.bytesWorld_size w _ s, fun j hj => ⟨?_, ?_⟩⟩
  · rw [Lib.bytesWorld_size]; omega
  · rw [Lib.bytesWorld_cell w _ s j hj]
    have : j < s.data.toList.length := by rw [size_list]; exact hj
    simp [List.getD, hj]
    rfl
  · have h1 : (Lib.bytesCells w 5 s).size = s.size + (grownCap w s.size 0 5 - s.size) := by simp [Lib.bytesCells]
    simp only [World.frozen?, Lib.bytesWorld_at_new]
    simp
    omega

/-- A text as numbers, one of them turned. -/
def turnedB (t : ByteArray) (i z : Nat) : ByteArray := strOfNums ((t.data.toList.map fun b => (b.toNat : Int)).set i (z : Int))
theorem turnedB_data (t : ByteArray) (i z : Nat) : (turnedB t i z).data.toList = t.data.toList.set i (UInt8.ofNat z) := by
  unfold turnedB
  rw [strOfNums_data, List.map_set, List.map_map]
  have : ((fun n : Int => UInt8.ofNat n.toNat) ∘ fun b : UInt8 => (b.toNat : Int)) = id := by
    funext b
    simp
  rw [this, List.map_id]
  simp
theorem turnedB_size (t : ByteArray) (i z : Nat) : (turnedB t i z).size = t.size := by
  rw [← size_list, turnedB_data, List.length_set, size_list]
theorem conv_turned (w : World) (t : ByteArray) (G i z N cap : Nat) (hN : t.size = N) (hi : i < t.size) (hc : ∀ (j : Nat) (hj : j < t.size), w.cell? ⟨G, j, none⟩ = some (.int .u8 (t[j].toNat : Int))) :
    (convert 22 9 (.slice (some ⟨G, 0, none⟩) N cap)).run Tryd.prog (w.setCell ⟨G, i, none⟩ (.int .u8 (z : Int))).drew = .ok (.string (turnedB t i z)) (w.setCell ⟨G, i, none⟩ (.int .u8 (z : Int))).drew := by
  subst hN
  refine run_convert_bytes_arg _ 22 5 Tryd.underlying22 Tryd.underlying5 G 0 t.size cap _ (by simp) (fun j hj => ?_) 9 Tryd.underlying9
  show (w.setCell ⟨G, i, none⟩ (.int .u8 (z : Int))).cell? ⟨G, 0 + j, none⟩ = _
  rw [Nat.zero_add]
  by_cases h : i = j
  · subst h
    rw [World.cell?_setCell_same w ⟨G, i, none⟩ _ (hc i hi)]
    have : i < t.data.toList.length := by rw [size_list]; exact hi
    simp [List.getD, hi]
  · rw [World.cell?_setCell_other w ⟨G, i, none⟩ ⟨G, j, none⟩ _ (fun e => h (by injection e)), hc j hj]
    have : j < t.data.toList.length := by rw [size_list]; exact hj
    simp [List.getD, hj, h]
    rfl

set_option maxHeartbeats 800000 in
theorem lawTurnedT (v : Value) (n : Nat) (w : World) (hv : Code8 w w.heap.size v n) (ht : Tab4 w) :
    Calls Tryd.prog 3 #[v] w fun e w' => e = .returned (.bool true) ∧ Below w.heap.size w w' := by
  have V : Hid (Code8 w w.heap.size v n) := hv
  have Ht : Hid (Tab4 w) := ht
  obtain ⟨a, cap, rfl, _⟩ := hv
  clear ht
  by_cases hn : 1048576 < n
  · have hn' : (1048576 : Int) < (n : Int) := by omega
    go_enter Tryd.func3, Tryd.ntmps3
    go_wp2_with (go_at_call 8; refine (big_any a n cap _).mono ?_; rintro e w1 ⟨rfl, rfl⟩)
    go_ret
    exact ⟨rfl, Below.refl _ _⟩
  have hn1 : n ≤ 1048576 := by omega
  have hn' : ¬ (1048576 : Int) < (n : Int) := by omega
  go_enter Tryd.func3, Tryd.ntmps3
  go_wp2_with fail
  go_at_call 8
  refine (big_any a n cap _).mono ?_
  rintro e w0 ⟨rfl, rfl⟩
  go_wp2_with fail
  go_at_call 9
  refine (DrawSumOf_any _ n _ hn1 V.out).mono ?_
  rintro e w1 ⟨⟨s, hs, rfl⟩, hg1⟩
  have hs1 := hg1.size
  have H1 : Hid (Below w0.heap.size w0 w1 ∧ Code8 w1 w1.heap.size (.slice a n cap) n) := ⟨⟨hg1.os, hg1.tape, hg1.output, hg1.size, fun k hk => hg1.block k hk (by simp)⟩, (V.out.kept (Nat.le_refl _) hg1 (fun k e => by cases e)).up hs1⟩
  clear hg1 V
  go_wp2_with fail
  go_at_call 10
  refine (DrawPlaces_any _ n _ hn1 H1.out.2).mono ?_
  rintro e w2 ⟨⟨o, ps, rfl, hpl, hps, hpo⟩, hg2⟩
  have hs2 := hg2.size
  obtain ⟨go, cap2, rfl, hgo1, hgo2, hgc⟩ := hpo.form (by omega)
  obtain ⟨p0, hp0⟩ : ∃ p0 : Nat, ps.getD 0 0 = (p0 : Int) := ⟨(ps.getD 0 0).toNat, by have := hps _ (getD_mem (l := ps) (i := 0) (by omega)); omega⟩
  obtain ⟨p1, hp1⟩ : ∃ p1 : Nat, ps.getD 1 0 = (p1 : Int) := ⟨(ps.getD 1 0).toNat, by have := hps _ (getD_mem (l := ps) (i := 1) (by omega)); omega⟩
  have hq0 := hgc 0 (by omega)
  have hq1 := hgc 1 (by omega)
  rw [hp0] at hq0
  rw [hp1] at hq1
  rw [hpl]
  have H2 : Hid (Below w0.heap.size w0 w2) := H1.out.1.trans ((below_of_grown hg2).mono hs1)
  clear hpo hgc hps hpl hp0 hp1 H1 hg2
  have T2 : Hid (Tab4 w2) := Ht.out.below H2.out
  go_wp2_with fail
  go_at_call 11
  refine (implSealed_yes s _ (by omega) T2.out).mono ?_
  rintro e w3 ⟨rfl, hb3⟩
  obtain ⟨t, T⟩ : ∃ t, Hid (sealOf s = t) := ⟨sealOf s, (rfl : sealOf s = sealOf s)⟩
  have hs3 := hb3.size
  have H3 : Hid (Below w2.heap.size w2 w3) := hb3
  clear hb3
  go_wp2_with fail
  go_at_call 12
  refine (implUnsealed_sealed s _ (by omega) (T2.out.below H3.out)).mono ?_
  rintro e w4 ⟨rfl, hb4⟩
  have hs4 := hb4.size
  have H4 : Hid (Below w2.heap.size w2 w4) := H3.out.trans (hb4.mono hs3)
  clear hb4 H3
  rw [T.out]
  have hts : t.size = s.size + 4 := by rw [← T.out, sealOf_size]
  obtain ⟨w5, cap5, hcv, hg5, hz5, hc5⟩ := conv_bytes w4 t
  rw [hts] at hcv
  have hr0 := (H4.out.cell (p := ⟨go, 0, none⟩) hgo2).trans hq0
  have hr1 := (H4.out.cell (p := ⟨go, 1, none⟩) hgo2).trans hq1
  have hr0' : w5.cell? ⟨go, 0, none⟩ = some (.int .i64 (p0 : Int)) := by rw [hg5.cell_far ⟨go, 0, none⟩ (by show go < _; omega) (by simp)]; exact hr0
  have hr1' : w5.cell? ⟨go, 1, none⟩ = some (.int .i64 (p1 : Int)) := by rw [hg5.cell_far ⟨go, 1, none⟩ (by show go < _; omega) (by simp)]; exact hr1
  have G5 : Hid (w4.grownBy w5 none) := hg5
  obtain ⟨i, hi, hiz⟩ : ∃ i : Nat, i < s.size + 4 ∧ (p0 : Int) % ((s.size : Int) + 4) = (i : Int) := ⟨p0 % (s.size + 4), Nat.mod_lt _ (by omega), by simp⟩
  have hit : i < t.size := by omega
  obtain ⟨c, hcc⟩ : ∃ c : Nat, Hid (c = t[i].toNat) := ⟨t[i].toNat, (rfl : t[i].toNat = t[i].toNat)⟩
  have hcl : c < 256 := by have := t[i].toNat_lt; have := hcc.out; omega
  obtain ⟨hci, hfi⟩ := hc5 i hit
  rw [← hcc.out] at hci
  have C5 : Hid (∀ (j : Nat) (hj : j < t.size), w5.cell? ⟨w4.heap.size, j, none⟩ = some (.int .u8 (t[j].toNat : Int))) := fun j hj => (hc5 j hj).1
  obtain ⟨d, hd0, hd1, hdz⟩ : ∃ d : Nat, 0 < d ∧ d < 256 ∧ 1 + (p1 : Int) % 255 = (d : Int) := ⟨1 + p1 % 255, by omega, by omega, by simp⟩
  have hxz := u8_xor_nat c d hcl hd1
  have hzl : c ^^^ d < 256 := Nat.xor_lt_two_pow (n := 8) hcl hd1
  have HZ : Hid (c ^^^ d ≠ c) := fun e => by
    have : d = 0 := xor_left_inj (c := c) (by rw [Nat.xor_comm d c, e, Nat.zero_xor])
    omega
  generalize c ^^^ d = z at hxz hzl HZ
  clear hr0 hr1 hq0 hq1 hg5 hc5
  have hne : ((s.size : Int) + 4 == 0) = false := by simp; omega
  have hi1 : (i : Int) < (s.size : Int) + 4 := by omega
  go_wp2_with fail
  rw [hiz]
  clear hiz hne
  go_region
  have hcw := conv_turned w5 t w4.heap.size i z (s.size + 4) cap5 hts hit C5.out
  have B6 : Hid (Below w2.heap.size w2 (w5.setCell ⟨w4.heap.size, i, none⟩ (.int .u8 (z : Int))).drew) := ((H4.out.grown G5.out (by omega) (fun k e => by cases e)).setCell (p := ⟨w4.heap.size, i, none⟩) (by show w2.heap.size ≤ w4.heap.size; omega) _).drew
  generalize (w5.setCell ⟨w4.heap.size, i, none⟩ (.int .u8 (z : Int))).drew = w6 at hcw B6 ⊢
  clear hr0' hr1' hci hfi hxz hdz hi1 C5 G5 hcv
  have hs6 := B6.out.size
  have hfar : ∀ A : List UInt8, A.length = s.size → (turnedB t i z).data.toList ≠ sealL A := by
    intro A hA
    rw [turnedB_data, ← T.out, sealOf_data]
    refine sealL_far s.data.toList A i _ (by rw [hA, size_list]) (by rw [size_list]; exact hi) ?_
    intro he
    have h1 : t[i] = UInt8.ofNat z := by
      have h2 : t.data.toList[i]? = some (UInt8.ofNat z) := by rw [← T.out, sealOf_data]; exact he
      have h3 : t.data.toList[i]? = some t[i] := by
        rw [List.getElem?_eq_getElem (by rw [size_list]; exact hit)]
        rfl
      rw [h3] at h2
      exact Option.some.inj h2
    have h4 := congrArg UInt8.toNat h1
    rw [UInt8.toNat_ofNat', ← hcc.out] at h4
    exact HZ.out (by omega)
  have hsz : (turnedB t i z).size = s.size + 4 := by rw [turnedB_size, hts]
  have F6 : Hid ((turnedB t i z).size = s.size + 4 ∧ ∀ A : List UInt8, A.length = s.size → (turnedB t i z).data.toList ≠ sealL A) := ⟨hsz, hfar⟩
  clear hfar hsz
  generalize turnedB t i z = u at hcw F6
  go_wp2_with fail
  go_at_call 12
  refine (implUnsealed_turned u s.size _ F6.out.1 (by omega) F6.out.2 (T2.out.below B6.out)).mono ?_
  rintro e w7 ⟨rfl, hb7⟩
  have B7 : Hid (Below w2.heap.size w2 w7) := B6.out.trans (hb7.mono hs6)
  clear hb7
  have T7 : Hid (Tab4 w7) := T2.out.below B7.out
  have hsum : Hid (sumL 4294967295 s.data.toList < 4294967296) := sumL_lt _ (by omega : (4294967295 : Nat) < 4294967296)
  have hx1 : (⟨#[120]⟩ : ByteArray).size ≤ 1048576 := by decide
  have hx2 : (s ++ ⟨#[120]⟩ : ByteArray).size ≤ 1048576 := by rw [ByteArray.size_append]; have : (⟨#[120]⟩ : ByteArray).size = 1 := rfl; omega
  have hall : sumL 4294967295 (s ++ ⟨#[120]⟩ : ByteArray).data.toList = sumL (sumL 4294967295 s.data.toList) (⟨#[120]⟩ : ByteArray).data.toList := by
    rw [ByteArray.data_append, Array.toList_append, sumL_append]
  have c1 := implSumOf_any s w7 (by omega) T7.out
  have c2 := implSumMore_any (sumL 4294967295 s.data.toList) ⟨#[120]⟩ w7 hsum.out hx1 T7.out
  have c3 := implSumOf_any (s ++ ⟨#[120]⟩) w7 hx2 T7.out
  rw [hall] at c3
  clear hall hsum hx1
  generalize sumL (sumL 4294967295 s.data.toList) (⟨#[120]⟩ : ByteArray).data.toList = y at c2 c3
  generalize sumL 4294967295 s.data.toList = x at c1 c2
  have C1 : Hid _ := c1
  have C2 : Hid _ := c2
  have C3 : Hid _ := c3
  clear c1 c2 c3
  go_wp2_with fail
  go_at_call 14
  refine Calls.mono C1.out ?_
  rintro e w8 ⟨rfl, rfl⟩
  go_wp2_with fail
  go_at_call 13
  refine Calls.mono C2.out ?_
  rintro e w9 ⟨rfl, rfl⟩
  go_wp2_with fail
  go_at_call 14
  refine Calls.mono C3.out ?_
  rintro e w10 ⟨rfl, rfl⟩
  go_wp2
  go_ret
  exact ⟨rfl, H2.out.trans (B7.out.mono (by omega))⟩

end Go.Proofs.YtmmdpgjgfbhkhaaDoor
