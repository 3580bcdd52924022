/-
  The model's memory: what is done to it in place.
-/
import Derived.Test.YtabejilnpblogaaSpAt
import Derived.Test.YtabejilnpblogaaNa
import Derived.BigQuiet
import Derived.Handy
namespace Go.Proofs.Ytabejilnpblogaa
open Go.RowKit

/-- What a call does to the memory at block p. -/
def SpDoes (f : Nat) (args : Array Value) (W : World) (K p : Nat) (m' : Mm) (ans : Value) : Prop :=
  Calls Try.prog f args W fun e w' => e = .returned ans ∧ (∃ x0 n0 c0 x1 n1 c1 x2 n2 c2, MmAt K w' p (.slice x0 n0 c0) (.slice x1 n1 c1) (.slice x2 n2 c2) m') ∧ Below K W w'

set_option maxRecDepth 100000 in
set_option maxHeartbeats 1600000 in
theorem l09Spend_any (K p : Nat) (x0 : Option Addr) (n0 c0 : Nat) (x1 : Option Addr) (n1 c1 : Nat) (x2 : Option Addr) (n2 c2 : Nat) (m : Mm) (W : World) (h : MmAt K W p (.slice x0 n0 c0) (.slice x1 n1 c1) (.slice x2 n2 c2) m) (hf : -9223372036854775808 ≤ m.fuel ∧ m.fuel ≤ 9223372036854775807) :
    SpDoes 71 #[.pointer (some ⟨p, 0, none⟩)] W K p (spendM m) (.tuple #[]) := by
  have HM : Hid (MmAt K W p (.slice x0 n0 c0) (.slice x1 n1 c1) (.slice x2 n2 c2) m) := h
  have u3 : W.cell? ⟨p, 3, none⟩ = some (.int .i64 m.fuel) := cell_at h.blk 3
  have u4 : W.cell? ⟨p, 4, none⟩ = some (.int .i64 m.bad) := cell_at h.blk 4
  have f3 := free_at h.blk 3
  have f4 := free_at h.blk 4
  have HB : Hid (Below K W (W.setCell ⟨p, 4, none⟩ (.int .i64 1)) ∧ Below K W (W.setCell ⟨p, 3, none⟩ (.int .i64 (m.fuel - 1)))) := ⟨h.set_below 4 _, h.set_below 3 _⟩
  have hf1 := hf.1
  have hf2 := hf.2
  obtain ⟨fu, hfu⟩ : ∃ f, Hid (m.fuel = f) := ⟨_, (rfl : m.fuel = m.fuel)⟩
  obtain ⟨bd, hbd⟩ : ∃ f, Hid (m.bad = f) := ⟨_, (rfl : m.bad = m.bad)⟩
  rw [hfu.out] at u3 HB hf1 hf2
  rw [hbd.out] at u4
  clear h hf
  unfold SpDoes
  by_cases hb : bd = 0
  · by_cases hz : fu ≤ 0
    · have HS : Hid (spendM m = { m with bad := 1 }) := by show _ = _; unfold spendM; rw [if_pos (by rw [hbd.out]; exact hb), if_pos (by rw [hfu.out]; exact hz)]
      rw [HS.out]
      go_enter Try.func71, Try.ntmps71
      go_wp2
      go_returns
      exact ⟨rfl, ⟨_, _, _, _, _, _, _, _, _, HM.out.badTo 1⟩, HB.out.1⟩
    · have HS : Hid (spendM m = { m with fuel := m.fuel - 1 }) := by show _ = _; unfold spendM; rw [if_pos (by rw [hbd.out]; exact hb), if_neg (by rw [hfu.out]; exact hz)]
      rw [HS.out]
      go_enter Try.func71, Try.ntmps71
      go_wp2
      go_returns
      exact ⟨rfl, ⟨_, _, _, _, _, _, _, _, _, by have := HM.out.fuelTo (m.fuel - 1); rw [hfu.out] at this ⊢; exact this⟩, HB.out.2⟩
  · have HS : Hid (spendM m = m) := by show _ = _; unfold spendM; rw [if_neg (by rw [hbd.out]; exact hb)]
    rw [HS.out]
    go_enter Try.func71, Try.ntmps71
    go_wp2
    go_returns
    exact ⟨rfl, ⟨_, _, _, _, _, _, _, _, _, HM.out⟩, Below.refl _ _⟩

set_option maxRecDepth 100000 in
set_option maxHeartbeats 1600000 in
theorem l09Told_any (K p : Nat) (x0 : Option Addr) (n0 c0 : Nat) (x1 : Option Addr) (n1 c1 : Nat) (x2 : Option Addr) (n2 c2 : Nat) (m : Mm) (k : Int) (W : World) (h : MmAt K W p (.slice x0 n0 c0) (.slice x1 n1 c1) (.slice x2 n2 c2) m) (hl : szMm m ≤ 2000000) :
    SpDoes 76 #[.pointer (some ⟨p, 0, none⟩), .int .i64 k] W K p (toldM m k) (.tuple #[]) := by
  have HM : Hid (MmAt K W p (.slice x0 n0 c0) (.slice x1 n1 c1) (.slice x2 n2 c2) m) := h
  have u2 : W.cell? ⟨p, 2, none⟩ = some (.slice x2 n2 c2) := cell_at h.blk 2
  have u4 : W.cell? ⟨p, 4, none⟩ = some (.int .i64 m.bad) := cell_at h.blk 4
  have f2 := free_at h.blk 2
  have hlt := h.lt
  have hKW : K ≤ W.heap.size := by have := h.low; omega
  have hol : m.out.length ≤ 10000000 := by unfold szMm at hl; omega
  have HO : Hid (OwnsI W K (.slice x2 n2 c2) m.out) := h.out
  obtain ⟨bd, hbd⟩ : ∃ f, Hid (m.bad = f) := ⟨_, (rfl : m.bad = m.bad)⟩
  rw [hbd.out] at u4
  clear h hl
  unfold SpDoes
  by_cases hb : bd = 0
  · have HS : Hid (toldM m k = { m with out := m.out ++ [k] }) := by show _ = _; unfold toldM; rw [if_pos (by rw [hbd.out]; exact hb)]
    rw [HS.out]
    go_enter Try.func76, Try.ntmps76
    go_wp2_with (at_builtin; go_must (refine appendRA inC_len rfl _ _ 25 rfl K 3 _ 8 Try.underlying25 Try.infoInt rfl (by decide) HO.out k (inC_one [k] k (by simp)) rfl rfl hol (by omega) hKW ?_); intro v2' w2 ho hg hat hv; obtain ⟨g', cap', rfl⟩ := hv; have hpb := (hg.block p hlt (fun e => by have := (of_nd HM.out.nd).2.2 p (by unfold fpOf; rw [← e]; simp); exact this rfl)).trans HM.out.blk; have a2 := cell_at hpb 2; have b2 := free_at hpb 2; have HR : Hid (MmAt K (w2.setCell ⟨p, 2, none⟩ (.slice (some ⟨g', 0, none⟩) (m.out.length + 1) cap')) p (.slice x0 n0 c0) (.slice x1 n1 c1) (.slice (some ⟨g', 0, none⟩) (m.out.length + 1) cap') { m with out := m.out ++ [k] }) := HM.out.grow2 ho hg hat; have HBl : Hid (Below K W (w2.setCell ⟨p, 2, none⟩ (.slice (some ⟨g', 0, none⟩) (m.out.length + 1) cap'))) := ((Below.refl K W).grown hg hKW (fun x hx => (OwnsR.lt HO.out x (by unfold fpOf; rw [hx]; simp)).1)).setCell (p := ⟨p, 2, none⟩) HM.out.low _; clear ho hg hat hpb; simp at a2)
    go_returns
    exact ⟨rfl, ⟨_, _, _, _, _, _, _, _, _, HR.out⟩, HBl.out⟩
  · have HS : Hid (toldM m k = m) := by show _ = _; unfold toldM; rw [if_neg (by rw [hbd.out]; exact hb)]
    rw [HS.out]
    go_enter Try.func76, Try.ntmps76
    go_wp2
    go_returns
    exact ⟨rfl, ⟨_, _, _, _, _, _, _, _, _, HM.out⟩, Below.refl _ _⟩

end Go.Proofs.Ytabejilnpblogaa
