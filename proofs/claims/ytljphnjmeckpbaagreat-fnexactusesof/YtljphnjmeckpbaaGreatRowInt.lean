/-
  What the laws' helpers answer of rows of numbers.
-/
import Derived.Test.YtljphnjmeckpbaaGreatTree3
import Derived.Test.YtljphnjmeckpbaaGreatRows3
import Derived.Test.YtljphnjmeckpbaaGreatPlain14
namespace Go.Proofs.YtljphnjmeckpbaaGreat
open Go.RowKit

theorem szIntS_sum (B : Nat) (v : Value) (xs : List Int) (left : Int) (w : World) (_hB : B ≤ w.heap.size) (hv : RowI w B v xs) (hok : xs.length ≤ 9223372036854775807) (h0 : 0 ≤ left) (h1 : left ≤ 1048576) :
    Calls Tryz.prog 72 #[v, .int .i64 left] w fun e w' => (∃ r : Int, e = .returned (.int .i64 r) ∧ (r = -1 ∨ (0 ≤ r ∧ r + (xs.length : Int) = left))) ∧ Below w.heap.size w w' := by
  obtain ⟨a, cap, rfl⟩ := hv.len
  obtain ⟨n, HN⟩ : ∃ N, Hid (xs.length = N) := ⟨_, (rfl : xs.length = xs.length)⟩
  rw [HN.out] at hok ⊢
  clear hv
  by_cases h : left - (n : Int) < 0
  · go_enter Tryz.func72, Tryz.ntmps72
    go_wp2
    go_ret
    exact ⟨⟨_, rfl, .inl rfl⟩, Below.refl _ _⟩
  · go_enter Tryz.func72, Tryz.ntmps72
    go_wp2
    go_ret
    exact ⟨⟨_, rfl, .inr ⟨by omega, by omega⟩⟩, Below.refl _ _⟩

theorem Tryz.infoInt : (Tryz.prog.info? 3).map (fun i => (i.zero, i.size, i.bytes)) = some (some (.int .i64 0), 1, 8) := by kernel_rfl

theorem zero_ints (m : Nat) : (madeCells (Value.int .i64 0).cells (m * 1)).toList = (List.replicate m (0 : Int)).flatMap inC := by
  apply List.ext_getElem?
  intro i
  have hl : ((List.replicate m (0 : Int)).flatMap inC).length = m * 1 := by rw [flat_len inC_len, List.length_replicate]
  have hl2 : (madeCells (Value.int .i64 0).cells (m * 1)).toList.length = m * 1 := by rw [Array.length_toList, size_madeCells]
  by_cases hi : i < m * 1
  · have h1 : i < (List.replicate m (0 : Int)).length := by rw [List.length_replicate]; omega
    have h2 := flat_at inC_len (List.replicate m (0 : Int)) i 0 h1 (by omega)
    rw [Nat.mul_one, Nat.add_zero] at h2
    rw [h2, List.getElem?_eq_getElem (by omega)]
    simp [madeCells, inC, Value.cells, Nat.mod_one]
  · rw [List.getElem?_eq_none (by omega), List.getElem?_eq_none (by omega)]

theorem take_set {α : Type} (xs : List α) (z : α) (N k : Nat) (hN : xs.length = N) (hk : k < N) (x : α) (hx : xs[k]'(by omega) = x) :
    (xs.take k ++ List.replicate (N - k) z).set k x = xs.take (k + 1) ++ List.replicate (N - (k + 1)) z := by
  have hl1 : (xs.take k).length = k := by simp; omega
  rw [List.set_append_right _ _ (by omega), hl1, Nat.sub_self, show N - k = (N - (k + 1)) + 1 by omega, List.replicate_succ, List.set_cons_zero, List.take_succ_eq_append_getElem (by omega), hx, List.append_assoc]
  rfl

set_option maxHeartbeats 800000 in
theorem toIntS_any (B : Nat) (v : Value) (xs : List Int) (w : World) (hB : B ≤ w.heap.size) (hv : RowI w B v xs) (hlen : xs.length ≤ 1048576) :
    Calls Tryz.prog 79 #[v] w fun e w' => ∃ g cap, e = .returned (.slice (some ⟨g, 0, none⟩) xs.length cap) ∧ OwnsI w' w.heap.size (.slice (some ⟨g, 0, none⟩) xs.length cap) xs ∧ Below w.heap.size w w' := by
  obtain ⟨a, cap, rfl⟩ := hv.len
  obtain ⟨N, HN⟩ : ∃ N, Hid (xs.length = N) := ⟨_, (rfl : xs.length = xs.length)⟩
  have H : Hid (RowI w B (.slice a N cap) xs) := by rw [← HN.out]; exact hv
  rw [HN.out] at hlen ⊢
  clear hv
  obtain ⟨i0, hi, hz0, hz1, hz2⟩ := info_parts Tryz.infoInt
  go_enter Tryz.func79, Tryz.ntmps79
  go_wp2_with (at_make; refine wpList_make_full _ rfl _ _ 35 rfl w.heap.size 3 i0 _ 1 Tryz.underlying35 hi hz0 hz1 _ _ _ _ N rfl rfl (by omega) (by omega) (by rw [hz2]; omega) (by unfold maxLen; omega) (Nat.le_refl _) ?_; intro w0 hown0 hg0)
  clear hi hz0 hz1 hz2
  go_loopw [4] (fun i wr => ∃ k : Nat, k ≤ N ∧ i = .int .i64 (k : Int) ∧ Hid (OwnsI wr w.heap.size (.slice (some ⟨w.heap.size, 0, none⟩) N N) (xs.take k ++ List.replicate (N - k) 0)) ∧ Below w.heap.size w wr) (fun i _ => N - (intOf i).toNat)
  case atStart =>
    refine ⟨0, Nat.zero_le _, rfl, ?_, (Below.refl _ _).grown hg0 (Nat.le_refl _) (fun k hk => by cases hk)⟩
    show OwnsI _ _ _ _
    unfold OwnsI OwnsR
    rw [List.take_zero, List.nil_append, Nat.sub_zero, List.length_replicate, ← zero_ints]
    exact hown0
  case round =>
    obtain ⟨k, hk, rfl, HO, hbw⟩ := hrel
    clear hown0 hg0
    by_cases hlt : k < N
    · have hk1 : (k : Int) < (N : Int) := by omega
      have hk0 : (0 : Int) ≤ (k : Int) := by omega
      have hkl : k < xs.length := by have := HN.out; omega
      obtain ⟨ba, oa, rfl, hba, c0⟩ := H.out.at k hkl
      obtain ⟨q, hq⟩ : ∃ q, Hid (xs[k] = q) := ⟨_, (rfl : xs[k] = xs[k])⟩
      have d0 := (hbw.cell (p := ⟨ba, oa + k, none⟩) (by show ba < _; omega)).trans c0
      rw [hq.out] at d0
      clear c0
      have hxl : N = (xs.take k ++ List.replicate (N - k) (0 : Int)).length := by have := HN.out; simp; omega
      obtain ⟨z, b0⟩ : ∃ z, wr.cell? ⟨w.heap.size, k, none⟩ = some (.int .i64 z) := ⟨_, by have := OwnsR.cell inC_len HO.out hxl k 0 (by omega) (by omega); simp only [Nat.mul_one, Nat.add_zero, inC, List.getElem?_cons_zero] at this; exact this⟩
      have f0 := OwnsR.free HO.out hxl k
      have S2 : Hid _ := OwnsR.stored inC_len HO.out hxl k 0 (by omega) (by omega) q (.int .i64 q) (by simp [inC])
      rw [take_set xs 0 N k HN.out hlt q hq.out] at S2
      simp only [Nat.mul_one, Nat.add_zero] at S2
      have HB2 : Hid (Below w.heap.size w (wr.setCell ⟨w.heap.size, k, none⟩ (.int .i64 q))) := hbw.setCell (p := ⟨w.heap.size, k, none⟩) (Nat.le_refl _) _
      clear HO hxl
      go_wp2
      go_roundw
      case rel => exact ⟨k + 1, by omega, by go_num, S2, HB2.out⟩
      case measure => simp [intOf]; omega
    · have hkN : Hid (k = N) := (by omega : k = N)
      have HF : Hid (OwnsI wr w.heap.size (.slice (some ⟨w.heap.size, 0, none⟩) N N) xs) := by
        have := HO.out
        rw [hkN.out, Nat.sub_self, List.replicate_zero, List.append_nil, List.take_of_length_le (by rw [HN.out]; exact Nat.le_refl _)] at this
        exact this
      go_wp2
      go_ret
      exact ⟨_, _, rfl, HF.out, hbw⟩

end Go.Proofs.YtljphnjmeckpbaaGreat
