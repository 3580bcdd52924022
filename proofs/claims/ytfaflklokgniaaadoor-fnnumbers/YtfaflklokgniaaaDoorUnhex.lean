/-
  Unhex, in the program and in the model: what each answers at every text.
-/
import Derived.Test.YtfaflklokgniaaaDoorBase
import Derived.Test.YtfaflklokgniaaaDoorPlain2
namespace Go.Proofs.YtfaflklokgniaaaDoor
open Go.RowKit

theorem implUnhex_no (t : ByteArray) (w : World) (hs : t.size ≤ 1099511627776) (h : 40000 < t.size ∨ t.size % 2 = 1) :
    Calls Tryd.prog 14 #[.string t] w fun e w' => e = .returned (.tuple #[.string ⟨#[]⟩, .bool false]) ∧ w' = w := by
  by_cases h1 : t.size % 2 = 1
  · have h2 : ((t.size : Int) % 2 != 0) = true := by simp; omega
    clear h
    go_enter Tryd.func14, Tryd.ntmps14
    go_wp2
    go_step3
    go_wp2
    (try rw [Exit.noGoto_ret])
    go_ret2
    exact ⟨rfl, rfl⟩
  · have h2 : ((t.size : Int) % 2 != 0) = false := by simp; omega
    have h3 : 40000 < t.size := by omega
    clear h
    go_enter Tryd.func14, Tryd.ntmps14
    go_wp2
    go_step3
    go_wp2
    (try rw [Exit.noGoto_ret])
    go_ret2
    exact ⟨rfl, rfl⟩

theorem made_zeros (m : Nat) : (madeCells (Value.int .u8 0).cells (m * 1)).toList = u8s (List.replicate m 0) := by
  apply List.ext_getElem
  · rw [Array.length_toList, size_madeCells]; simp [u8s]
  · intro i h1 h2
    simp [madeCells, u8s, Value.cells, Nat.mod_one]

theorem row_stored {wr : World} {B m k : Nat} {e : TypeId} {t : ByteArray} {r x : Int} (hown : wr.ownsRow B e 1 (.slice (some ⟨B, 0, none⟩) m m) m (u8s (rowOf t m k))) (hr : r = rowVal t k (k / 2)) (hx : x = r * 16 + figAt t k) :
    (wr.setCell ⟨B, k / 2, none⟩ (.int .u8 x)).ownsRow B e 1 (.slice (some ⟨B, 0, none⟩) m m) m (u8s (rowOf t m (k + 1))) := by
  have := (hown.stored (k / 2) (.int .u8 x)).1
  have e1 : (u8s (rowOf t m k)).set (k / 2) (.int .u8 x) = u8s (rowOf t m (k + 1)) := by
    rw [← rowOf_step, ← hr, ← hx]
    simp [u8s, List.map_set]
  rw [e1] at this
  exact this

set_option maxHeartbeats 800000 in
theorem implUnhex_yes (t : ByteArray) (w : World) (h : t.size ≤ 40000) (he : t.size % 2 = 0) :
    Calls Tryd.prog 14 #[.string t] w fun e w' => e = .returned (.tuple #[.string (uh t).1, .bool (uh t).2]) ∧ Below w.heap.size w w' := by
  have h2 : ((t.size : Int) % 2 != 0) = false := by simp; omega
  obtain ⟨m, hm⟩ : ∃ m, t.size / 2 = m := ⟨_, rfl⟩
  have HM : Hid (t.size = 2 * m) := by show _ = _; omega
  have hm2 : (t.size : Int) / 2 = (m : Int) := by omega
  clear hm
  obtain ⟨i0, hi, hz0, hz1, hz2⟩ := info_parts Tryd.info8
  go_enter Tryd.func14, Tryd.ntmps14
  go_wp2
  go_step3
  go_wp2_with (at_make; refine wpList_make_full _ rfl _ _ 22 rfl w.heap.size 5 i0 (.int .u8 0) 1 Tryd.underlying22 hi hz0 hz1 _ _ _ _ m rfl rfl (by omega) (by omega) (by rw [hz2]; have := HM.out; omega) (by unfold maxLen; have := HM.out; omega) (Nat.le_refl _) ?_; intro w0 hown0 hg0)
  go_step3
  go_wp2
  go_loopw [5, 6] (fun i _ wr => ∃ k : Nat, k ≤ t.size ∧ i = .int .i64 (k : Int) ∧ wr.ownsRow w.heap.size 5 1 (.slice (some ⟨w.heap.size, 0, none⟩) m m) m (u8s (rowOf t m k)) ∧ Hid (Figs t k) ∧ Below w.heap.size w wr)
    (fun i _ _ => t.size - (intOf i).toNat)
  case atStart => exact ⟨0, Nat.zero_le _, rfl, by rw [rowOf_start, ← made_zeros]; exact hown0, figs_zero t, (Below.refl _ _).grown hg0 (Nat.le_refl _) (fun k hk => by cases hk)⟩
  case round =>
    obtain ⟨k, hk, rfl, hown, HF, hnx⟩ := hrel
    have hsz := hnx.size
    clear h2 hm2
    by_cases hlt : k < t.size
    · obtain ⟨c, hc⟩ : ∃ c : Int, c = (t[k].toNat : Int) := ⟨_, rfl⟩
      have hc2 : 0 ≤ c ∧ c ≤ 255 := by have := t[k].toNat_lt; omega
      have hi1 := index_at (P := Tryd.prog) Tryd.underlying9 t k hlt _ _ rfl hc
      have HC : Hid (figAt t k = valI c) := by show _ = _; rw [figAt_eq hlt, hc]
      clear hc
      have hkm : k / 2 < m := by have := HM.out; omega
      obtain ⟨r, hr⟩ : ∃ r : Int, r = rowVal t k (k / 2) := ⟨_, rfl⟩
      have hr2 : 0 ≤ r ∧ r ≤ 15 := by rw [hr]; exact rowVal_in HF.out (by omega)
      have hcell : wr.cell? ⟨w.heap.size, k / 2, none⟩ = some (.int .u8 r) := by
        rw [hown.cellAt (k / 2) (by omega), hr]
        simp [u8s, rowOf_at hkm]
      have hfr : wr.frozen? ⟨w.heap.size, k / 2, none⟩ = false := hown.frozenAt _
      have HR : Hid (r = rowVal t k (k / 2)) := hr
      clear hr
      have hkm2 : (k : Int) / 2 < (m : Int) := by omega
      by_cases ha : 48 ≤ c ∧ c ≤ 57
      · have HV : Hid (valI c = c - 48) := by show _ = _; rw [valI, if_pos ha]
        go_wp2
        go_roundw
        case rel => exact ⟨k + 1, by omega, by go_num, row_stored hown HR.out (by rw [HC.out, HV.out]), figs_succ HF.out (by rw [HC.out, HV.out]; omega), hnx.setCell (Nat.le_refl _) _⟩
        case measure => simp [intOf]; omega
      · by_cases hb : 97 ≤ c ∧ c ≤ 102
        · have HV : Hid (valI c = c - 87) := by show _ = _; rw [valI, if_neg ha, if_pos hb]
          go_wp2
          go_roundw
          case rel => exact ⟨k + 1, by omega, by go_num, row_stored hown HR.out (by rw [HC.out, HV.out]), figs_succ HF.out (by rw [HC.out, HV.out]; omega), hnx.setCell (Nat.le_refl _) _⟩
          case measure => simp [intOf]; omega
        · have HV : Hid (uh t = (⟨#[]⟩, false)) := uh_bad hlt (by rw [HC.out, valI, if_neg ha, if_neg hb]; omega)
          go_wp2
          all_goals
            (try rw [Exit.noGoto_ret])
            go_ret2
            exact ⟨by rw [HV.out]; rfl, hnx⟩
    · have hkt : k = 2 * m := by have := HM.out; omega
      have HU : Hid (uh t = (strOfNums (pairs t m), true)) := by
        show _ = _
        have h1 := HM.out
        rw [uh_good (by rw [h1, ← hkt]; exact HF.out), show t.size / 2 = m by omega]
      rw [hkt, rowOf_end] at hown
      have ho8 : Owns8 wr w.heap.size 5 (.slice (some ⟨w.heap.size, 0, none⟩) m m) (pairs t m) := by
        unfold Owns8
        rw [pairs_len]
        exact hown
      have hcv := own8_string ho8 (P := Tryd.prog) Tryd.underlying22 Tryd.underlying5 9 Tryd.underlying9
      clear hkt
      go_wp2
      (try rw [Exit.noGoto_ret])
      go_ret2
      exact ⟨by rw [HU.out]; rfl, hnx⟩

end Go.Proofs.YtfaflklokgniaaaDoor
