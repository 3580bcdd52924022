/-
  The model's own drawing, further: picks out of a row, one time in so many, long texts. What each call answers lies in its range; it writes its cursor alone.
-/
import Derived.Test.YtepkcabeoennlaaDoorDraw
import Derived.Deep.AppendLies
namespace Go.Proofs.YtepkcabeoennlaaDoor
open Go.RowKit

/-- A row of numbers that was built: K of them, from the block's beginning on. -/
def Ints (w : World) (b K : Nat) : Prop := ∀ i, i < K → ∃ x : Int, w.cell? ⟨b, i, none⟩ = some (.int .i64 x)

theorem l01PickInt_any (K b B g : Nat) (v : Value) (n : Nat) (w : World) (hK0 : 0 < K) (hK : K ≤ 1000000) (hb : b < w.heap.size) (hbg : b ≠ g) (hI : Ints w b K) (hB : B ≤ g) (hBw : B ≤ w.heap.size) (hn : n ≤ 1048576) (hv : Code8 w B v n) (hc : Cur w 65 g v n) :
    Calls Tryd.prog 42 #[.pointer (some ⟨g, 0, none⟩), .slice (some ⟨b, 0, none⟩) K K] w fun e w' => (∃ (x : Int) (i : Nat), i < K ∧ w.cell? ⟨b, i, none⟩ = some (.int .i64 x) ∧ e = .returned (.int .i64 x)) ∧ Cur w' 65 g v n ∧ w.grownBy w' (some g) := by
  have H : Hid (Code8 w B v n ∧ Cur w 65 g v n ∧ Ints w b K) := ⟨hv, hc, hI⟩
  clear hv hc hI
  go_enter Tryd.func42, Tryd.ntmps42
  go_wp2_with fail
  go_at_call 29
  refine (l01Below_any K B g v n _ hK0 (by omega) hB hBw hn H.out.1 H.out.2.1).mono ?_
  rintro e w1 ⟨⟨x, hx, rfl⟩, hc1, hg1⟩
  obtain ⟨y, hy⟩ := H.out.2.2 x hx
  have hy1 : w1.cell? ⟨b, x, none⟩ = some (.int .i64 y) := by rw [hg1.cell_far ⟨b, x, none⟩ hb (fun e => hbg (by simpa using e))]; exact hy
  have hx1 : (x : Int) < (K : Int) := by omega
  have hx0 : (0 : Int) ≤ (x : Int) := by omega
  have HY : Hid (w.cell? ⟨b, x, none⟩ = some (.int .i64 y)) := hy
  clear hy
  go_wp2
  go_ret
  exact ⟨⟨y, x, hx, HY.out, rfl⟩, hc1, hg1⟩

theorem made_zeros8 (m : Nat) : (madeCells (Value.int .u8 0).cells (m * 1)).toList = u8s (List.replicate m 0) := by
  apply List.ext_getElem
  · rw [Array.length_toList, size_madeCells]; simp [u8s]
  · intro i h1 h2
    simp [madeCells, u8s, Value.cells, Nat.mod_one]

set_option maxHeartbeats 800000 in
theorem l01Long_any (m x : Nat) (w : World) (hm : m ≤ 1000000) :
    Calls Tryd.prog 31 #[.int .i64 (m : Int), .int .u8 (x : Int)] w fun e w' => (∃ s : ByteArray, s.size = m ∧ e = .returned (.string s)) ∧ w.grownBy w' none := by
  obtain ⟨i0, hi, hz0, hz1, hz2⟩ := info_parts Tryd.info8
  go_enter Tryd.func31, Tryd.ntmps31
  go_wp2_with (at_make; refine wpList_make_full _ rfl _ _ 22 rfl w.heap.size 5 i0 (.int .u8 0) 1 Tryd.underlying22 hi hz0 hz1 _ _ _ _ m rfl rfl (by omega) (by omega) (by rw [hz2]; omega) (by unfold maxLen; omega) (Nat.le_refl _) ?_; intro w0 hown0 hg0)
  clear hi hz0 hz1 hz2
  go_loopw [6] (fun i wr => ∃ (k : Nat) (xs : List Int), k ≤ m ∧ i = .int .i64 (k : Int) ∧ Hid (xs.length = m) ∧ wr.ownsRow w.heap.size 5 1 (.slice (some ⟨w.heap.size, 0, none⟩) m m) m (u8s xs) ∧ w.grownBy wr none)
    (fun i _ => m - (intOf i).toNat)
  case atStart => exact ⟨0, List.replicate m 0, Nat.zero_le _, rfl, (List.length_replicate : (List.replicate m (0 : Int)).length = m), by rw [← made_zeros8]; exact hown0, hg0⟩
  case round =>
    obtain ⟨k, xs, hk, rfl, HX, hown, hg⟩ := hrel
    by_cases hlt : k < m
    · have hk1 : (k : Int) < (m : Int) := by omega
      have hk0 : (0 : Int) ≤ (k : Int) := by omega
      have hkl : k < xs.length := by have := HX.out; omega
      have hcell : wr.cell? ⟨w.heap.size, k, none⟩ = some (.int .u8 (xs.getD k 0)) := by
        rw [hown.cellAt k (by omega)]
        simp [u8s, List.getD, hkl]
      have hfr : wr.frozen? ⟨w.heap.size, k, none⟩ = false := hown.frozenAt _
      go_wp2
      go_roundw
      case rel => exact ⟨k + 1, xs.set k (x : Int), by omega, by go_num, (by rw [List.length_set]; exact HX.out : (xs.set k (x : Int)).length = m), by
        have := (hown.stored k (.int .u8 (x : Int))).1
        have e1 : (u8s xs).set k (.int .u8 (x : Int)) = u8s (xs.set k (x : Int)) := by simp [u8s, List.map_set]
        rw [e1] at this
        exact this, ⟨hg.os, hg.tape, hg.output, Nat.le_trans hg.size (by simp [World.setCell]), fun j hj _ => (Below.heap_setCell wr ⟨w.heap.size, k, none⟩ _ j (by show j ≠ w.heap.size; omega)).trans (hg.block j hj (by simp))⟩⟩
      case measure => simp [intOf]; omega
    · have hcv := own8_string (P := Tryd.prog) (w := wr) (B := w.heap.size) (e := 5) (src := 22) (v := .slice (some ⟨w.heap.size, 0, none⟩) m m) (xs := xs) (by unfold Owns8; rw [HX.out]; exact hown) Tryd.underlying22 Tryd.underlying5 9 Tryd.underlying9
      go_wp2
      go_ret
      exact ⟨⟨strOfNums xs, by rw [strOfNums_size]; exact HX.out, rfl⟩, hg⟩

/-- What holds of a cursor in a world, from its making on. -/
def Draws (w0 w : World) (T : TypeId) (g : Nat) (v : Value) (n : Nat) : Prop := w0.heap.size ≤ w.heap.size ∧ w0.heap.size ≤ g ∧ Code8 w w0.heap.size v n ∧ Cur w T g v n ∧ w0.grownBy w none
theorem Draws.next {w0 w w' : World} {T : TypeId} {g : Nat} {v : Value} {n : Nat} (h : Draws w0 w T g v n) (hc : Cur w' T g v n) (hg : w.grownBy w' (some g)) : Draws w0 w' T g v n :=
  ⟨Nat.le_trans h.1 hg.size, h.2.1, h.2.2.1.kept h.1 hg (fun k e => by cases e; exact h.2.1), hc, h.2.2.2.2.andThen hg (fun j e => by cases e; exact .inl h.2.1)⟩
theorem Draws.other {w0 w w' : World} {T : TypeId} {g : Nat} {v : Value} {n : Nat} (h : Draws w0 w T g v n) (hg : w.grownBy w' none) : Draws w0 w' T g v n :=
  ⟨Nat.le_trans h.1 hg.size, h.2.1, h.2.2.1.kept h.1 hg (fun k e => by cases e), h.2.2.2.1.kept hg (by simp), h.2.2.2.2.trans hg⟩

theorem Draws.below {w0 w w' : World} {T : TypeId} {g : Nat} {v : Value} {n B : Nat} (h : Draws w0 w T g v n) (hb : Below B w w') (hg : g < B) (hB : w0.heap.size ≤ B) : Draws w0 w' T g v n := by
  refine ⟨Nat.le_trans h.1 hb.size, h.2.1, ?_, h.2.2.2.1.below hb hg, grown_then_below h.2.2.2.2 (hb.mono hB)⟩
  obtain ⟨a, cap, rfl, h2⟩ := h.2.2.1
  refine ⟨a, cap, rfl, h2.imp id ?_⟩
  rintro ⟨b, off, rfl, hb', h3⟩
  refine ⟨b, off, rfl, hb', fun i hi => ?_⟩
  obtain ⟨c, hc, hw⟩ := h3 i hi
  exact ⟨c, hc, by rw [hb.cell (p := ⟨b, off + i, none⟩) (by show b < B; omega)]; exact hw⟩

theorem l01New_draws (v : Value) (n : Nat) (w : World) (hn : n ≤ 1048576) (hv : Code8 w w.heap.size v n) :
    Calls Tryd.prog 23 #[v] w fun e w' => e = .returned (.pointer (some ⟨w.heap.size, 0, none⟩)) ∧ Hid (Draws w w' 65 w.heap.size v n) :=
  (l01New_any w.heap.size v n w hn hv).mono fun _ _ ⟨h1, h2, h3⟩ => ⟨h1, h3.size, Nat.le_refl _, hv.kept (Nat.le_refl _) h3 (fun k e => by cases e), h2, h3⟩
theorem l01Byte_draws (w0 : World) (g : Nat) (v : Value) (n : Nat) (w : World) (hn : n ≤ 1048576) (h : Hid (Draws w0 w 65 g v n)) :
    Calls Tryd.prog 51 #[.pointer (some ⟨g, 0, none⟩)] w fun e w' => (∃ x : Nat, x < 256 ∧ e = .returned (.int .i64 (x : Int))) ∧ Hid (Draws w0 w' 65 g v n) :=
  (l01Byte_any w0.heap.size g v n w h.out.2.1 hn h.out.2.2.1 h.out.2.2.2.1).mono fun _ _ ⟨h1, h2, h3⟩ => ⟨h1, h.out.next h2 h3⟩
theorem l01Below_draws (w0 : World) (m g : Nat) (v : Value) (n : Nat) (w : World) (hm0 : 0 < m) (hm : m ≤ 4294967296) (hn : n ≤ 1048576) (h : Hid (Draws w0 w 65 g v n)) :
    Calls Tryd.prog 29 #[.pointer (some ⟨g, 0, none⟩), .int .i64 (m : Int)] w fun e w' => (∃ x : Nat, x < m ∧ e = .returned (.int .i64 (x : Int))) ∧ Hid (Draws w0 w' 65 g v n) :=
  (l01Below_any m w0.heap.size g v n w hm0 hm h.out.2.1 h.out.1 hn h.out.2.2.1 h.out.2.2.2.1).mono fun _ _ ⟨h1, h2, h3⟩ => ⟨h1, h.out.next h2 h3⟩
theorem l01Below_drawsG (w0 : World) (m g : Nat) (v : Value) (n : Nat) (w : World) (hm0 : 0 < m) (hm : m ≤ 4294967296) (hn : n ≤ 1048576) (h : Hid (Draws w0 w 65 g v n)) :
    Calls Tryd.prog 29 #[.pointer (some ⟨g, 0, none⟩), .int .i64 (m : Int)] w fun e w' => (∃ x : Nat, x < m ∧ e = .returned (.int .i64 (x : Int))) ∧ Hid (Draws w0 w' 65 g v n ∧ w.grownBy w' (some g)) :=
  (l01Below_any m w0.heap.size g v n w hm0 hm h.out.2.1 h.out.1 hn h.out.2.2.1 h.out.2.2.2.1).mono fun _ _ ⟨h1, h2, h3⟩ => ⟨h1, h.out.next h2 h3, h3⟩
theorem l01PickInt_draws (w0 : World) (K b g : Nat) (v : Value) (n : Nat) (w : World) (hK0 : 0 < K) (hK : K ≤ 1000000) (hb : b < w.heap.size) (hbg : b ≠ g) (hI : Ints w b K) (hn : n ≤ 1048576) (h : Hid (Draws w0 w 65 g v n)) :
    Calls Tryd.prog 42 #[.pointer (some ⟨g, 0, none⟩), .slice (some ⟨b, 0, none⟩) K K] w fun e w' => (∃ (x : Int) (i : Nat), i < K ∧ w.cell? ⟨b, i, none⟩ = some (.int .i64 x) ∧ e = .returned (.int .i64 x)) ∧ Hid (Draws w0 w' 65 g v n ∧ w.grownBy w' (some g)) :=
  (l01PickInt_any K b w0.heap.size g v n w hK0 hK hb hbg hI h.out.2.1 h.out.1 hn h.out.2.2.1 h.out.2.2.2.1).mono fun _ _ ⟨h1, h2, h3⟩ => ⟨h1, h.out.next h2 h3, h3⟩
theorem l01Long_draws (w0 : World) (m x g : Nat) (v : Value) (n : Nat) (w : World) (hm : m ≤ 1000000) (h : Hid (Draws w0 w 65 g v n)) :
    Calls Tryd.prog 31 #[.int .i64 (m : Int), .int .u8 (x : Int)] w fun e w' => (∃ s : ByteArray, s.size = m ∧ e = .returned (.string s)) ∧ Hid (Draws w0 w' 65 g v n) :=
  (l01Long_any m x w hm).mono fun _ _ ⟨h1, h2⟩ => ⟨h1, h.out.other h2⟩

end Go.Proofs.YtepkcabeoennlaaDoor
