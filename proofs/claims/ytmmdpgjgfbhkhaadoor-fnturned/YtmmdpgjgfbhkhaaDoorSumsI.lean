/-
  SumMore and SumOf, in the program: what each answers at every sum and text, where the table of four halvings lies as the program's text lays it.
-/
import Derived.Test.YtmmdpgjgfbhkhaaDoorSums
import Derived.Lib.LaidTab
namespace Go.Proofs.YtmmdpgjgfbhkhaaDoor
open Go.RowKit

/-- The table of four halvings. -/
def Tab4 (w : World) : Prop := Lib.TabIs Tryd.prog w "loop.example/g00423/impl.fourHalvings" .u32 (tab4.map fun n : Nat => (n : Int))
theorem Tab4.below {w w1 : World} (h : Tab4 w) (hb : Below w.heap.size w w1) : Tab4 w1 := by
  unfold Tab4 Lib.TabIs World.var? at h ⊢
  cases hg : Tryd.prog.globalNamed "loop.example/g00423/impl.fourHalvings" with
  | none => simp [hg] at h
  | some g =>
    simp only [hg, Option.bind_some] at h ⊢
    have hlt : g < w.heap.size := by
      rcases Nat.lt_or_ge g w.heap.size with h' | h'
      · exact h'
      · simp [Array.getElem?_eq_none h'] at h
    rw [hb.block g hlt]
    exact h
theorem g4 : Tryd.prog.globalNamed "loop.example/g00423/impl.fourHalvings" = some 0 := by kernel_rfl
theorem tab4_lt : ∀ k, k < 16 → tab4.getD k 0 < 4294967296 := by decide
theorem Tab4.cell {w : World} (h : Tab4 w) (i : Nat) (hi : i < 16) : w.cell? ⟨0, i, none⟩ = some (.int .u32 ((tab4.getD i 0 : Nat) : Int)) := by
  have := Lib.TabIs.cell h g4 i (by simpa [tab4] using hi)
  rw [this]
  simp [List.getD, show i < tab4.length by simpa [tab4] using hi]

set_option maxHeartbeats 800000 in
theorem with_any (s b : Nat) (w : World) (hs : s < 4294967296) (hb : b < 256) (h : Tab4 w) :
    Calls Tryd.prog 25 #[.int .u32 (s : Int), .int .u8 (b : Int)] w fun e w' => e = .returned (.int .u32 ((sum1 s b : Nat) : Int)) ∧ w' = w := by
  have Ht : Hid (Tab4 w) := h
  have hx := xor32 s b hs (by omega)
  have hw1 : IntKind.u32.wrap (b : Int) = (b : Int) := by rw [IntKind.wrap_u32']; omega
  clear h
  go_enter Tryd.func25, Tryd.ntmps25
  go_wp2
  go_loop [0, 9] (fun x i => ∃ (k m : Nat), k ≤ 2 ∧ i = .int .i64 (k : Int) ∧ x = .int .u32 (m : Int) ∧ m < 4294967296 ∧ Hid (sum1 s b = halves (4 * (2 - k)) m))
    (fun _ i => 2 - (intOf i).toNat)
  case atStart => exact ⟨0, s ^^^ b, Nat.zero_le _, rfl, rfl, xor_lt32 hs (by omega), rfl⟩
  case round =>
    obtain ⟨k, m, hk, rfl, rfl, hm, Hm⟩ := hrel
    by_cases hlt : k < 2
    · have hk1 : (k : Int) < 2 := by omega
      obtain ⟨z, hz⟩ : ∃ z : Nat, Hid (z = tab4.getD (m % 16) 0) := ⟨tab4.getD (m % 16) 0, (rfl : tab4.getD (m % 16) 0 = tab4.getD (m % 16) 0)⟩
      have hc := Ht.out.cell (m % 16) (Nat.mod_lt _ (by omega))
      rw [← hz.out] at hc
      have hzl : z < 4294967296 := by rw [hz.out]; exact tab4_lt _ (Nat.mod_lt _ (by omega))
      go_wp2
      go_round
      case rel => exact ⟨k + 1, (m / 16) ^^^ z, by omega, by go_num, by rw [← xor32 (m / 16) z (by omega) hzl]; simp, xor_lt32 (by omega) hzl, by rw [Hm.out, show 4 * (2 - k) = 4 + 4 * (2 - (k + 1)) by omega, halves_add, halves_tab, hz.out]; rfl⟩
      case measure => simp [intOf]; omega
    · have Hm' : Hid ((m : Int) = ((sum1 s b : Nat) : Int)) := by
        have := Hm.out
        rw [show k = 2 by omega] at this
        show (m : Int) = _
        rw [this]
        rfl
      clear Hm
      go_wp2
      go_ret
      exact ⟨congrArg (fun z : Int => Ending.returned (.int .u32 z)) Hm'.out, rfl⟩

set_option maxHeartbeats 800000 in
theorem implSumMore_any (s : Nat) (t : ByteArray) (w : World) (hs : s < 4294967296) (ht : t.size ≤ 1048576) (h : Tab4 w) :
    Calls Tryd.prog 13 #[.int .u32 (s : Int), .string t] w fun e w' => e = .returned (.int .u32 ((sumL s t.data.toList : Nat) : Int)) ∧ w' = w := by
  have Ht : Hid (Tab4 w) := h
  clear h
  go_enter Tryd.func13, Tryd.ntmps13
  go_wp2
  go_loop [5, 6, 10] (fun x _ i => ∃ (k m : Nat), k ≤ t.size ∧ i = .int .i64 (k : Int) ∧ x = .int .u32 (m : Int) ∧ m < 4294967296 ∧ Hid (m = sumL s (t.data.toList.take k)))
    (fun _ _ i => t.size - (intOf i).toNat)
  case atStart => exact ⟨0, s, Nat.zero_le _, rfl, rfl, hs, (rfl : s = s)⟩
  case round =>
    obtain ⟨k, m, hk, rfl, rfl, hm, Hm⟩ := hrel
    by_cases hlt : k < t.size
    · have hk1 : (k : Int) < (t.size : Int) := by omega
      have hk0 : (0 : Int) ≤ (k : Int) := by omega
      obtain ⟨c, hc⟩ : ∃ c : Nat, Hid (c = t[k].toNat) := ⟨t[k].toNat, (rfl : t[k].toNat = t[k].toNat)⟩
      have hcl : c < 256 := by have := t[k].toNat_lt; have := hc.out; omega
      have hix := index_at Tryd.underlying9 t k hlt (k : Int) (c : Int) rfl (by rw [hc.out])
      go_wp2_with (go_at_call 25; refine (with_any m c _ hm hcl Ht.out).mono ?_; rintro e w1 ⟨rfl, rfl⟩)
      go_round
      case rel => exact ⟨k + 1, sum1 m c, by omega, by go_num, rfl, sum1_lt hm hcl, by rw [take_snoc hlt, sumL_snoc, ← Hm.out, ← hc.out]; rfl⟩
      case measure => simp [intOf]; omega
    · have Hm' : Hid ((m : Int) = ((sumL s t.data.toList : Nat) : Int)) := by
        have := Hm.out
        rw [show k = t.size by omega, take_all] at this
        show (m : Int) = _
        rw [this]
      clear Hm
      go_wp2
      go_ret
      exact ⟨congrArg (fun z : Int => Ending.returned (.int .u32 z)) Hm'.out, rfl⟩

theorem implSumOf_any (t : ByteArray) (w : World) (ht : t.size ≤ 1048576) (h : Tab4 w) :
    Calls Tryd.prog 14 #[.string t] w fun e w' => e = .returned (.int .u32 ((sumL 4294967295 t.data.toList : Nat) : Int)) ∧ w' = w := by
  have Ht : Hid (Tab4 w) := h
  clear h
  go_enter Tryd.func14, Tryd.ntmps14
  go_wp2_with (go_at_call 13; refine (implSumMore_any 4294967295 t _ (by omega) ht Ht.out).mono ?_; rintro e w1 ⟨rfl, rfl⟩)
  go_ret
  exact ⟨rfl, rfl⟩

/-! ### The laws -/
theorem bounds_u32 {n : Int} (h : (Lit.int .u32 n).wf = true) : 0 ≤ n ∧ n < 4294967296 := by
  simp [Lit.wf, IntKind.min, IntKind.max, IntKind.signed, IntKind.bits] at h
  omega

theorem lawSumMoreT (n : Int) (t : ByteArray) (w : World) (hn : (Lit.int .u32 n).wf = true) (h : Tab4 w) :
    Calls Tryd.prog 4 #[.int .u32 n, .string t] w fun e w' => e = .returned (.bool true) ∧ Below w.heap.size w w' := by
  have Ht : Hid (Tab4 w) := h
  obtain ⟨hn0, hn1⟩ := bounds_u32 hn
  clear h hn
  obtain ⟨s, rfl⟩ : ∃ s : Nat, n = (s : Int) := ⟨n.toNat, by omega⟩
  have Hs : Hid (s < 4294967296) := (by omega : s < 4294967296)
  clear hn0 hn1
  by_cases hbig : 1048576 < t.size
  · go_enter Tryd.func4, Tryd.ntmps4
    go_wp2
    go_ret
    exact ⟨rfl, Below.refl _ _⟩
  · have ht : t.size ≤ 1048576 := by omega
    go_enter Tryd.func4, Tryd.ntmps4
    go_wp2_with (first | (go_at_call 15; refine (specSumMore_any s t _ Hs.out ht).mono ?_; rintro e w1 ⟨rfl, rfl⟩) | (go_at_call 13; refine (implSumMore_any s t _ Hs.out ht Ht.out).mono ?_; rintro e w1 ⟨rfl, rfl⟩))
    go_ret
    exact ⟨rfl, Below.refl _ _⟩

theorem lawSumOfT (t : ByteArray) (w : World) (h : Tab4 w) :
    Calls Tryd.prog 5 #[.string t] w fun e w' => e = .returned (.bool true) ∧ Below w.heap.size w w' := by
  have Ht : Hid (Tab4 w) := h
  clear h
  by_cases hbig : 1048576 < t.size
  · go_enter Tryd.func5, Tryd.ntmps5
    go_wp2
    go_ret
    exact ⟨rfl, Below.refl _ _⟩
  · have ht : t.size ≤ 1048576 := by omega
    go_enter Tryd.func5, Tryd.ntmps5
    go_wp2_with (first | (go_at_call 16; refine (specSumOf_any t _ ht).mono ?_; rintro e w1 ⟨rfl, rfl⟩) | (go_at_call 14; refine (implSumOf_any t _ ht Ht.out).mono ?_; rintro e w1 ⟨rfl, rfl⟩))
    go_ret
    exact ⟨rfl, Below.refl _ _⟩

end Go.Proofs.YtmmdpgjgfbhkhaaDoor
