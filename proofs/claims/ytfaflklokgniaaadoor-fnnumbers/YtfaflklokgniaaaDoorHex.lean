/-
  Hex and Unhex, in the program and in the model: what each answers at every text.
-/
import Derived.Test.YtfaflklokgniaaaDoorFig
import Derived.Test.YtfaflklokgniaaaDoorPlain1
namespace Go.Proofs.YtfaflklokgniaaaDoor
open Go.RowKit

theorem implHex_no (t : ByteArray) (w : World) (h : 20000 < t.size) :
    Calls Tryd.prog 13 #[.string t] w fun e w' => e = .returned (.tuple #[.string ⟨#[]⟩, .bool false]) ∧ w' = w := by
  go_enter Tryd.func13, Tryd.ntmps13
  go_wp2
  go_ret2
  exact ⟨rfl, rfl⟩

theorem fig_at (x : Int) (h0 : 0 ≤ x) (h1 : x ≤ 15) (wx : World) :
    (Instr.index 9 (.string ⟨#[48, 49, 50, 51, 52, 53, 54, 55, 56, 57, 97, 98, 99, 100, 101, 102]⟩) (.int .u8 x)).run Tryd.prog wx = .ok (.int .u8 (figI x)) wx := by
  have : x = 0 ∨ x = 1 ∨ x = 2 ∨ x = 3 ∨ x = 4 ∨ x = 5 ∨ x = 6 ∨ x = 7 ∨ x = 8 ∨ x = 9 ∨ x = 10 ∨ x = 11 ∨ x = 12 ∨ x = 13 ∨ x = 14 ∨ x = 15 := by omega
  rcases this with rfl | rfl | rfl | rfl | rfl | rfl | rfl | rfl | rfl | rfl | rfl | rfl | rfl | rfl | rfl | rfl <;> (show _ = _; kernel_rfl)

set_option maxHeartbeats 800000 in
theorem implHex_yes (t : ByteArray) (w : World) (h : t.size ≤ 20000) :
    Calls Tryd.prog 13 #[.string t] w fun e w' => e = .returned (.tuple #[.string (strOfNums (hexB t.data.toList)), .bool true]) ∧ Below w.heap.size w w' := by
  obtain ⟨i0, hi, hz0, hz1, hz2⟩ := info_parts Tryd.info8
  go_enter Tryd.func13, Tryd.ntmps13
  go_wp2_with (at_make; refine wpList_make_own _ rfl _ _ 22 rfl w.heap.size 5 i0 (.int .u8 0) 1 Tryd.underlying22 hi hz0 hz1 _ _ _ (2 * t.size) rfl rfl (by omega) (by rw [hz2]; omega) (by unfold maxLen; omega) (Nat.le_refl _) ?_; intro w0 hown0 hg0)
  go_loopw [4, 15] (fun v i wr => ∃ k : Nat, k ≤ t.size ∧ i = .int .i64 (k : Int) ∧ Owns8 wr w.heap.size 5 v (hexB (t.data.toList.take k)) ∧ Below w.heap.size w wr)
    (fun _ i _ => t.size - (intOf i).toNat)
  case atStart => exact ⟨0, Nat.zero_le _, rfl, hown0, (Below.refl _ _).grown hg0 (Nat.le_refl _) (fun k hk => by cases hk)⟩
  case round =>
    obtain ⟨k, hk, rfl, hown, hnx⟩ := hrel
    have hsz := hnx.size
    by_cases hlt : k < t.size
    · have hk1 : (k : Int) < (t.size : Int) := by omega
      have hk0 : (0 : Int) ≤ (k : Int) := by omega
      have hl : (hexB (t.data.toList.take k)).length + 2 ≤ 140737488355328 := by rw [hexB_len, take_len hk]; omega
      have hc : (t[k].toNat : Int) ≤ 255 := by have := t[k].toNat_lt; omega
      have hc0 : (0 : Int) ≤ (t[k].toNat : Int) := by omega
      go_wp2_with fail
      have hw2 : IntKind.u8.wrap ((t[k].toNat : Int).tdiv 16) = (t[k].toNat : Int) / 16 := by rw [Int.tdiv_eq_ediv_of_nonneg hc0]; exact IntWalk.u8_in _ ⟨by omega, by omega⟩
      have hw3 : (t[k].toNat : Int).tmod 16 = (t[k].toNat : Int) % 16 := Int.tmod_eq_emod_of_nonneg hc0
      have hw4 : IntKind.u8.wrap ((t[k].toNat : Int) % 16) = (t[k].toNat : Int) % 16 := IntWalk.u8_in _ ⟨by omega, by omega⟩
      have hw5 : IntKind.u8.wrap ((t[k].toNat : Int) / 16) = (t[k].toNat : Int) / 16 := IntWalk.u8_in _ ⟨by omega, by omega⟩
      have hf1 := fig_at ((t[k].toNat : Int) / 16) (by omega) (by omega)
      have hf2 := fig_at ((t[k].toNat : Int) % 16) (by omega) (by omega)
      go_region_held3 (fun _ => True) (trivial) ((refine step_append8 rfl _ _ 22 rfl w.heap.size 5 Tryd.underlying22 Tryd.info8 ((World.ownsRow.alloc hown _).drew) [figI ((t[k].toNat : Int) / 16), figI ((t[k].toNat : Int) % 16)] wr.heap.size (0, 0) (heap_alloc_new wr _) rfl 2 2 rfl rfl hl ?_ ?_; simp; omega; intro v1 w1 hown1 hb1 hs1))
      all_goals
        clear hw2 hw3 hw4 hw5 hc hc0 hf1 hf2
        go_wp2
        go_roundw
        case rel => exact ⟨k + 1, by omega, by go_num, by rw [take_snoc hlt, hexB_snoc]; exact hown1, hb1 _ (hnx.alloc hsz _).drew⟩
        case measure => simp [intOf]; omega
    · have hkt : t.data.toList.take k = t.data.toList := by rw [show k = t.size by omega]; exact take_all t
      rw [hkt] at hown
      clear hkt
      have hcv := own8_string hown (P := Tryd.prog) Tryd.underlying22 Tryd.underlying5 9 Tryd.underlying9
      go_wp2
      go_ret2
      exact ⟨rfl, hnx⟩

end Go.Proofs.YtfaflklokgniaaaDoor
