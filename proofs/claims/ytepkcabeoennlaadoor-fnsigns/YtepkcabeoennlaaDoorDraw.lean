/-
  The model's own drawing, by contracts: what each call answers lies in its range, and that it writes its cursor alone.
-/
import Derived.Test.YtepkcabeoennlaaDoorBase
import Derived.Test.YtepkcabeoennlaaDoorCur
namespace Go.Proofs.YtepkcabeoennlaaDoor
open Go.RowKit

set_option maxHeartbeats 800000 in
theorem l01Byte_any (B g : Nat) (v : Value) (n : Nat) (w : World) (hB : B ≤ g) (hn : n ≤ 1048576) (hv : Code8 w B v n) (hc : Cur w 65 g v n) :
    Calls Tryd.prog 51 #[.pointer (some ⟨g, 0, none⟩)] w fun e w' => (∃ x : Nat, x < 256 ∧ e = .returned (.int .i64 (x : Int))) ∧ Cur w' 65 g v n ∧ w.grownBy w' (some g) := by
  have hlt := hc.lt
  obtain ⟨i, h, hi, hh⟩ := hc
  obtain ⟨hc0, hc1, hc2, hf1, hf2⟩ := cur_cells hh
  go_enter Tryd.func51, Tryd.ntmps51
  go_wp2_with fail
  generalize wrap64 (wrap64 (h * 6364136223846793005) + 1442695040888963407) = h1
  generalize wrap64 (h * 6364136223846793005) = h0
  have hh1 := cur_set2 hh (.int .i64 h1)
  have G1 : Hid (w.grownBy (w.setCell ⟨g, 2, none⟩ (.int .i64 h1)) (some g)) := grown_setCell w ⟨g, 2, none⟩ (.int .i64 h1)
  have V1 : Hid (Code8 (w.setCell ⟨g, 2, none⟩ (.int .i64 h1)) B v n) := hv.kept (by omega) G1.out (fun k e => by cases e; exact hB)
  generalize w.setCell ⟨g, 2, none⟩ (.int .i64 h1) = w1 at hh1 G1 V1 ⊢
  clear hh hc0 hc1 hc2 hf1 hf2 hv
  obtain ⟨hc0, hc1, hc2, hf1, hf2⟩ := cur_cells hh1
  go_quiet (fail)
  go_wp2_with fail
  obtain ⟨x, hx, hxe⟩ := and255 (bits .xor .i64 (h1 / 8589934592) (h1 / 35184372088832))
  rw [hxe]
  clear hxe
  generalize bits .xor .i64 (h1 / 8589934592) (h1 / 35184372088832) = z0
  obtain ⟨a, cap, rfl, hv2⟩ := V1.out
  clear V1
  have hi0 : (0 : Int) ≤ (i : Int) := by omega
  by_cases hin : i < n
  · rcases hv2 with hv2 | ⟨b, off, rfl, hbB, hv2⟩
    · omega
    obtain ⟨c, hcl, hcc⟩ := hv2 i hin
    clear hv2
    have hin1 : (i : Int) < (n : Int) := by omega
    go_quiet (fail)
    go_wp2_with fail
    go_quiet (fail)
    go_wp2
    obtain ⟨y, hy, hye⟩ := and255 ((x : Int) + (c : Int))
    rw [hye]
    clear hye
    go_ret
    refine ⟨⟨y, hy, rfl⟩, ⟨i + 1, h1, by omega, by simpa using cur_set1 (w := w1.drewN _) hh1 (.int .i64 ((i : Int) + 1))⟩, ?_⟩
    exact G1.out.trans ((World.grownBy.but (grown_drewN w1 _) _).trans (grown_setCell _ _ _))
  · go_quiet (fail)
    go_wp2
    go_ret
    exact ⟨⟨x, hx, rfl⟩, ⟨i, h1, hi, hh1⟩, G1.out.trans ⟨rfl, rfl, rfl, Nat.le_refl _, fun _ _ _ => rfl⟩⟩

theorem l01Below_small (m B g : Nat) (v : Value) (n : Nat) (w : World) (hm0 : 0 < m) (hm : m ≤ 256) (hB : B ≤ g) (hn : n ≤ 1048576) (hv : Code8 w B v n) (hc : Cur w 65 g v n) :
    Calls Tryd.prog 29 #[.pointer (some ⟨g, 0, none⟩), .int .i64 (m : Int)] w fun e w' => (∃ x : Nat, x < m ∧ e = .returned (.int .i64 (x : Int))) ∧ Cur w' 65 g v n ∧ w.grownBy w' (some g) := by
  have H : Hid (Code8 w B v n ∧ Cur w 65 g v n) := ⟨hv, hc⟩
  clear hv hc
  go_enter Tryd.func29, Tryd.ntmps29
  go_wp2_with (go_at_call 51; refine (l01Byte_any B g v n _ hB hn H.out.1 H.out.2).mono ?_; rintro e w1 ⟨⟨x, hx, rfl⟩, hc1, hg1⟩)
  go_ret
  exact ⟨⟨x % m, Nat.mod_lt _ hm0, by simp⟩, hc1, hg1⟩

set_option maxHeartbeats 800000 in
theorem l01Below_big (m B g : Nat) (v : Value) (n : Nat) (w : World) (hm0 : 256 < m) (hm : m ≤ 4294967296) (hB : B ≤ g) (hBw : B ≤ w.heap.size) (hn : n ≤ 1048576) (hv : Code8 w B v n) (hc : Cur w 65 g v n) :
    Calls Tryd.prog 29 #[.pointer (some ⟨g, 0, none⟩), .int .i64 (m : Int)] w fun e w' => (∃ x : Nat, x < m ∧ e = .returned (.int .i64 (x : Int))) ∧ Cur w' 65 g v n ∧ w.grownBy w' (some g) := by
  have H : Hid (Code8 w B v n ∧ Cur w 65 g v n) := ⟨hv, hc⟩
  have hr : ∀ k, (some g : Option Nat) = some k → B ≤ k := fun k e => by cases e; exact hB
  clear hv hc
  go_enter Tryd.func29, Tryd.ntmps29
  go_wp2_with fail
  go_at_call 51
  refine (l01Byte_any B g v n _ hB hn H.out.1 H.out.2).mono ?_
  rintro e w1 ⟨⟨x, hx, rfl⟩, hc1, hg1⟩
  have hv1 := H.out.1.kept hBw hg1 hr
  have hs1 := hg1.size
  clear H
  have H : Hid (Code8 w1 B v n ∧ Cur w1 65 g v n ∧ w.grownBy w1 (some g)) := ⟨hv1, hc1, hg1⟩
  clear hv1 hc1 hg1
  go_wp2_with fail
  go_at_call 51
  refine (l01Byte_any B g v n _ hB hn H.out.1 H.out.2.1).mono ?_
  rintro e w2 ⟨⟨y, hy, rfl⟩, hc2, hg2⟩
  have hv2 := H.out.1.kept (by omega) hg2 hr
  have hs2 := hg2.size
  have K : Hid (Code8 w2 B v n ∧ Cur w2 65 g v n ∧ w.grownBy w2 (some g)) := ⟨hv2, hc2, H.out.2.2.trans hg2⟩
  clear hv2 hc2 hg2 H
  go_wp2_with fail
  go_at_call 51
  refine (l01Byte_any B g v n _ hB hn K.out.1 K.out.2.1).mono ?_
  rintro e w3 ⟨⟨z, hz, rfl⟩, hc3, hg3⟩
  have hv3 := K.out.1.kept (by omega) hg3 hr
  have hs3 := hg3.size
  have L : Hid (Code8 w3 B v n ∧ Cur w3 65 g v n ∧ w.grownBy w3 (some g)) := ⟨hv3, hc3, K.out.2.2.trans hg3⟩
  clear hv3 hc3 hg3 K
  go_wp2_with fail
  go_at_call 51
  refine (l01Byte_any B g v n _ hB hn L.out.1 L.out.2.1).mono ?_
  rintro e w4 ⟨⟨u, hu, rfl⟩, hc4, hg4⟩
  go_wp2
  go_ret
  exact ⟨⟨(x * 16777216 + y * 65536 + z * 256 + u) % m, Nat.mod_lt _ (by omega), by simp⟩, hc4, L.out.2.2.trans hg4⟩

theorem l01Below_any (m B g : Nat) (v : Value) (n : Nat) (w : World) (hm0 : 0 < m) (hm : m ≤ 4294967296) (hB : B ≤ g) (hBw : B ≤ w.heap.size) (hn : n ≤ 1048576) (hv : Code8 w B v n) (hc : Cur w 65 g v n) :
    Calls Tryd.prog 29 #[.pointer (some ⟨g, 0, none⟩), .int .i64 (m : Int)] w fun e w' => (∃ x : Nat, x < m ∧ e = .returned (.int .i64 (x : Int))) ∧ Cur w' 65 g v n ∧ w.grownBy w' (some g) := by
  by_cases h : m ≤ 256
  · exact l01Below_small m B g v n w hm0 h hB hn hv hc
  · exact l01Below_big m B g v n w (by omega) hm hB hBw hn hv hc

set_option maxHeartbeats 800000 in
theorem l01New_any (B : Nat) (v : Value) (n : Nat) (w : World) (hn : n ≤ 1048576) (hv : Code8 w B v n) :
    Calls Tryd.prog 23 #[v] w fun e w' => e = .returned (.pointer (some ⟨w.heap.size, 0, none⟩)) ∧ Cur w' 65 w.heap.size v n ∧ w.grownBy w' none := by
  obtain ⟨a, cap, rfl, hv2⟩ := hv
  have V : Hid (n = 0 ∨ ∃ b off, a = some ⟨b, off, none⟩ ∧ b < B ∧ ∀ i, i < n → ∃ c : Nat, c < 256 ∧ w.cell? ⟨b, off + i, none⟩ = some (.int .u8 (c : Int))) := hv2
  clear hv2
  go_enter Tryd.func23, Tryd.ntmps23
  go_wp2
  go_loop [3, 4] (fun h i => ∃ (k : Nat) (hh : Int), k ≤ n ∧ i = .int .i64 (k : Int) ∧ h = .int .i64 hh) (fun _ i => n - (intOf i).toNat)
  case atStart => exact ⟨0, _, Nat.zero_le _, rfl, rfl⟩
  case round =>
    obtain ⟨k, hh, hk, rfl, rfl⟩ := hrel
    have hk0 : (0 : Int) ≤ (k : Int) := by omega
    by_cases h1 : k < n
    · have h1' : (k : Int) < (n : Int) := by omega
      by_cases h2 : k < 4000
      · have h2' : (k : Int) < 4000 := by omega
        rcases V.out with hv2 | ⟨b, off, rfl, hbB, hv2⟩
        · omega
        obtain ⟨c, hcl, hcc⟩ := hv2 k h1
        clear hv2
        go_wp2
        go_round
        case rel => exact ⟨k + 1, _, by omega, by go_num, rfl⟩
        case measure => simp [intOf]; omega
      · have h2' : ¬ (k : Int) < 4000 := by omega
        go_wp2
        go_ret
        exact ⟨rfl, ⟨0, hh, Nat.zero_le _, heap_alloc_new w _⟩, World.grownBy_alloc _ _ _⟩
    · go_wp2
      go_ret
      exact ⟨rfl, ⟨0, hh, Nat.zero_le _, heap_alloc_new w _⟩, World.grownBy_alloc _ _ _⟩

theorem Tryd.info64 : (Tryd.prog.info? 3).map (fun i => (i.zero, i.size, i.bytes)) = some (some (.int .i64 0), 1, 8) := by kernel_rfl

end Go.Proofs.YtepkcabeoennlaaDoor
