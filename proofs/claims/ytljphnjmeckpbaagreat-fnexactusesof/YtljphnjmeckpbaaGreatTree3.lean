/-
  What the laws do with rows of nodes that are read: held against each other, measured.
-/
import Derived.Test.YtljphnjmeckpbaaGreatTree1
import Derived.Test.YtljphnjmeckpbaaGreatBase
import Derived.Handy
import Derived.BigQuiet
import Derived.Deep.QuietTactic
import Derived.Deep.RegionHeld3
namespace Go.Proofs.YtljphnjmeckpbaaGreat
open Go.RowKit

theorem below_drawn {B : Nat} {a w : World} (h : Below B a w) (n : Nat) : Below B a (w.drewN n) := h.trans ⟨rfl, rfl, rfl, Nat.le_refl _, fun _ _ => rfl⟩

set_option maxHeartbeats 800000 in
theorem eqIntS_same (B : Nat) (va vb : Value) (xs : List Int) (w : World) (hB : B ≤ w.heap.size) (ha : RowI w B va xs) (hb : RowI w B vb xs) (hl : xs.length ≤ 1048576) :
    Calls Tryz.prog 12 #[va, vb] w fun e w' => e = .returned (.bool true) ∧ Below w.heap.size w w' := by
  obtain ⟨a, ca, rfl⟩ := ha.len
  obtain ⟨b, cb, rfl⟩ := hb.len
  obtain ⟨N, HN⟩ : ∃ N, Hid (xs.length = N) := ⟨_, (rfl : xs.length = xs.length)⟩
  have H : Hid (RowI w B (.slice a N ca) xs ∧ RowI w B (.slice b N cb) xs) := by rw [← HN.out]; exact ⟨ha, hb⟩
  rw [HN.out] at hl ⊢
  clear ha hb
  go_enter Tryz.func12, Tryz.ntmps12
  go_wp2
  go_loopw [5] (fun i wr => ∃ k : Nat, k ≤ N ∧ i = .int .i64 (k : Int) ∧ Below w.heap.size w wr) (fun i _ => N - (intOf i).toNat)
  case atStart => exact ⟨0, Nat.zero_le _, rfl, Below.refl _ _⟩
  case round =>
    obtain ⟨k, hk, rfl, hbw⟩ := hrel
    by_cases hlt : k < N
    · have hk1 : (k : Int) < (N : Int) := by omega
      have hk0 : (0 : Int) ≤ (k : Int) := by omega
      have hkl : k < xs.length := by have := HN.out; omega
      obtain ⟨ba, oa, rfl, hba, c0⟩ := H.out.1.at k hkl
      obtain ⟨bb, ob, rfl, hbb, e0⟩ := H.out.2.at k hkl
      obtain ⟨q, hq⟩ : ∃ q, Hid (xs[k] = q) := ⟨_, (rfl : xs[k] = xs[k])⟩
      have d0 := (hbw.cell (p := ⟨ba, oa + k, none⟩) (by show ba < _; omega)).trans c0
      have f0 := (hbw.cell (p := ⟨bb, ob + k, none⟩) (by show bb < _; omega)).trans e0
      rw [hq.out] at d0 f0
      clear c0 e0
      go_wp2_with fail
      go_quiet (fail)
      go_wp2
      go_roundw
      case rel => exact ⟨k + 1, by omega, by go_num, below_drawn hbw _⟩
      case measure => simp [intOf]; omega
    · go_wp2
      go_ret
      exact ⟨rfl, hbw⟩

end Go.Proofs.YtljphnjmeckpbaaGreat
