/-
  The program's keeper of a memory: what is done to it in place.
-/
import Derived.Test.YtabejilnpblogaaKpBase
namespace Go.Proofs.Ytabejilnpblogaa
open Go.RowKit

/-- What a call does to the keeper at block p. -/
def KpDoes (f : Nat) (args : Array Value) (W : World) (K p : Nat) (m' : Mm) (ans : Value) : Prop :=
  Calls Try.prog f args W fun e w' => e = .returned ans ∧ (∃ x0 n0 c0 x1 n1 c1 x2 n2 c2 ads, KpAt K w' p (.slice x0 n0 c0) (.slice x1 n1 c1) (.slice x2 n2 c2) ads m') ∧ Below K W w'

set_option maxRecDepth 100000 in
set_option maxHeartbeats 1600000 in
theorem kpSpend_any (K p : Nat) (x0 : Option Addr) (n0 c0 : Nat) (x1 : Option Addr) (n1 c1 : Nat) (x2 : Option Addr) (n2 c2 : Nat) (ads : List (Nat × Nat)) (m : Mm) (W : World) (h : KpAt K W p (.slice x0 n0 c0) (.slice x1 n1 c1) (.slice x2 n2 c2) ads m) (hb : m.bad = 0) (hf : -9223372036854775808 ≤ m.fuel ∧ m.fuel ≤ 9223372036854775807) :
    KpDoes 70 #[.pointer (some ⟨p, 0, none⟩)] W K p (spendM m) (.tuple #[]) := by
  have HM : Hid (KpAt K W p (.slice x0 n0 c0) (.slice x1 n1 c1) (.slice x2 n2 c2) ads m) := h
  have u3 : W.cell? ⟨p, 3, none⟩ = some (.int .i64 m.fuel) := cell_at h.blk 3
  have u4 : W.cell? ⟨p, 4, none⟩ = some (.int .i64 m.bad) := cell_at h.blk 4
  have f3 := free_at h.blk 3
  have f4 := free_at h.blk 4
  have HB : Hid (Below K W (W.setCell ⟨p, 4, none⟩ (.int .i64 1)) ∧ Below K W (W.setCell ⟨p, 3, none⟩ (.int .i64 (m.fuel - 1)))) := ⟨h.set_below 4 _, h.set_below 3 _⟩
  have hf1 := hf.1
  have hf2 := hf.2
  obtain ⟨fu, hfu⟩ : ∃ f, Hid (m.fuel = f) := ⟨_, (rfl : m.fuel = m.fuel)⟩
  rw [hfu.out] at u3 HB hf1 hf2
  rw [hb] at u4
  have HBd : Hid (m.bad = 0) := hb
  clear h hf hb
  unfold KpDoes
  by_cases hz : fu > 0
  · have HS : Hid (spendM m = { m with fuel := m.fuel - 1 }) := by show _ = _; unfold spendM; rw [if_pos HBd.out, if_neg (by rw [hfu.out]; omega)]
    rw [HS.out]
    go_enter Try.func70, Try.ntmps70
    go_wp2
    go_returns
    exact ⟨rfl, ⟨_, _, _, _, _, _, _, _, _, _, by have := HM.out.fuelTo (m.fuel - 1); rw [hfu.out] at this ⊢; exact this⟩, HB.out.2⟩
  · have HS : Hid (spendM m = { m with bad := 1 }) := by show _ = _; unfold spendM; rw [if_pos HBd.out, if_pos (by rw [hfu.out]; omega)]
    rw [HS.out]
    go_enter Try.func70, Try.ntmps70
    go_wp2
    go_returns
    exact ⟨rfl, ⟨_, _, _, _, _, _, _, _, _, _, HM.out.badTo 1⟩, HB.out.1⟩

set_option maxRecDepth 100000 in
set_option maxHeartbeats 1600000 in
theorem kpTold_any (K p : Nat) (x0 : Option Addr) (n0 c0 : Nat) (x1 : Option Addr) (n1 c1 : Nat) (x2 : Option Addr) (n2 c2 : Nat) (ads : List (Nat × Nat)) (m : Mm) (k : Int) (W : World) (h : KpAt K W p (.slice x0 n0 c0) (.slice x1 n1 c1) (.slice x2 n2 c2) ads m) (hb : m.bad = 0) (hl : szMm m ≤ 2000000) :
    KpDoes 75 #[.pointer (some ⟨p, 0, none⟩), .int .i64 k] W K p (toldM m k) (.tuple #[]) := by
  have HM : Hid (KpAt K W p (.slice x0 n0 c0) (.slice x1 n1 c1) (.slice x2 n2 c2) ads m) := h
  have u2 : W.cell? ⟨p, 2, none⟩ = some (.slice x2 n2 c2) := cell_at h.blk 2
  have f2 := free_at h.blk 2
  have hlt := h.lt
  have hKW : K ≤ W.heap.size := by have := h.low; omega
  have hol : m.out.length ≤ 10000000 := by unfold szMm at hl; omega
  have HO : Hid (OwnsI W K (.slice x2 n2 c2) m.out) := h.out
  have HS : Hid (toldM m k = { m with out := m.out ++ [k] }) := by show _ = _; unfold toldM; rw [if_pos hb]
  rw [HS.out]
  clear h hl hb
  unfold KpDoes
  go_enter Try.func75, Try.ntmps75
  go_wp2_with (at_builtin; go_must (refine appendRA inC_len rfl _ _ 25 rfl K 3 _ 8 Try.underlying25 Try.infoInt rfl (by decide) HO.out k (inC_one [k] k (by simp)) rfl rfl hol (by omega) hKW ?_); intro v2' w2 ho hg hat hv; obtain ⟨g', cap', rfl⟩ := hv; have hpb := (hg.block p hlt (fun e => by have := (of_nd HM.out.nd).2.2 p (by unfold fpOf; rw [← e]; simp); exact this rfl)).trans HM.out.blk; have a2 := cell_at hpb 2; have b2 := free_at hpb 2; have HR : Hid (KpAt K (w2.setCell ⟨p, 2, none⟩ (.slice (some ⟨g', 0, none⟩) (m.out.length + 1) cap')) p (.slice x0 n0 c0) (.slice x1 n1 c1) (.slice (some ⟨g', 0, none⟩) (m.out.length + 1) cap') ads { m with out := m.out ++ [k] }) := HM.out.grow2 ho hg (fp_grown hat); have HBl : Hid (Below K W (w2.setCell ⟨p, 2, none⟩ (.slice (some ⟨g', 0, none⟩) (m.out.length + 1) cap'))) := ((Below.refl K W).grown hg hKW (fun x hx => (OwnsR.lt HO.out x (by unfold fpOf; rw [hx]; simp)).1)).setCell (p := ⟨p, 2, none⟩) HM.out.low _; clear ho hg hat hpb; simp at a2)
  go_returns
  exact ⟨rfl, ⟨_, _, _, _, _, _, _, _, _, _, HR.out⟩, HBl.out⟩

set_option maxRecDepth 100000 in
set_option maxHeartbeats 1600000 in
theorem kpAsked_any (K p : Nat) (x0 : Option Addr) (n0 c0 : Nat) (x1 : Option Addr) (n1 c1 : Nat) (x2 : Option Addr) (n2 c2 : Nat) (ads : List (Nat × Nat)) (m : Mm) (W : World) (h : KpAt K W p (.slice x0 n0 c0) (.slice x1 n1 c1) (.slice x2 n2 c2) ads m) (hi : OwnsI W K (.slice x1 n1 c1) m.input) (hb : m.bad = 0) (hl : szMm m ≤ 2000000) :
    KpDoes 63 #[.pointer (some ⟨p, 0, none⟩)] W K p (askedM m).1 (.int .i64 (askedM m).2) := by
  have HM : Hid (KpAt K W p (.slice x0 n0 c0) (.slice x1 n1 c1) (.slice x2 n2 c2) ads m) := h
  have HI : Hid (OwnsI W K (.slice x1 n1 c1) m.input) := hi
  have u1 : W.cell? ⟨p, 1, none⟩ = some (.slice x1 n1 c1) := cell_at h.blk 1
  have u4 : W.cell? ⟨p, 4, none⟩ = some (.int .i64 m.bad) := cell_at h.blk 4
  have f1 := free_at h.blk 1
  have f4 := free_at h.blk 4
  have hlt := h.lt
  have hil : m.input.length ≤ 2000000 := by unfold szMm at hl; omega
  have HB : Hid (Below K W (W.setCell ⟨p, 4, none⟩ (.int .i64 2))) := h.set_below 4 _
  rw [hb] at u4
  have hform := OwnsR.form hi
  have HBd : Hid (m.bad = 0) := hb
  clear h hl hi hb
  unfold KpDoes
  cases hin : m.input with
  | nil =>
    have HS : Hid (askedM m = ({ m with bad := 2 }, 0)) := by show _ = _; unfold askedM; rw [if_pos HBd.out, hin]
    rw [HS.out]
    have hn1 : n1 = 0 := by
      rcases hform with ⟨e, _⟩ | ⟨g, c, e, _⟩
      · injection e with _ e2 _
      · injection e with _ e2 _; rw [e2, hin]; rfl
    subst hn1
    clear hform hin HS
    go_enter Try.func63, Try.ntmps63
    go_wp2
    go_returns
    exact ⟨rfl, ⟨_, _, _, _, _, _, _, _, _, _, HM.out.badTo 2⟩, HB.out⟩
  | cons y ys =>
    have HS : Hid (askedM m = ({ m with input := ys }, y)) := by show _ = _; unfold askedM; rw [if_pos HBd.out, hin]
    rw [HS.out]
    obtain ⟨g, e, hc⟩ : ∃ g, Value.slice x1 n1 c1 = .slice (some ⟨g, 0, none⟩) m.input.length c1 ∧ m.input.length ≤ c1 := by
      rcases hform with ⟨_, e⟩ | ⟨g, c, e, h1, _⟩
      · rw [hin] at e; cases e
      · have := OwnsR.capOf (show OwnsR inC 1 W K 3 (.slice x1 n1 c1) m.input from HI.out)
        injection e with e1 e2 e3
        exact ⟨g, by rw [e1, e2], this⟩
    obtain ⟨rfl, hn⟩ : x1 = some ⟨g, 0, none⟩ ∧ n1 = m.input.length := by simpa using e
    have hn1 : n1 = ys.length + 1 := by rw [hn, hin]; rfl
    have HN : Hid (n1 = m.input.length) := hn
    have y0 : W.cell? ⟨g, 0, none⟩ = some (.int .i64 y) := by
      have := OwnsR.cell inC_len HI.out HN.out 0 0 (by rw [hin]; simp) (by decide)
      simp only [hin] at this
      exact this
    have hn0 : (0 : Int) < (n1 : Int) := by omega
    have hne : ¬ (n1 : Int) = 0 := by omega
    have hne2 : ¬ n1 = 0 := by omega
    have h1n : (1 : Int) ≤ (n1 : Int) := by omega
    have hc1 : (n1 : Int) ≤ (c1 : Int) := by omega
    have HR : Hid (KpAt K (W.setCell ⟨p, 1, none⟩ (.slice (if c1 = 1 then some ⟨g, 0, none⟩ else some ⟨g, 1, none⟩) (n1 - 1) (c1 - 1))) p (.slice x0 n0 c0) (.slice (if c1 = 1 then some ⟨g, 0, none⟩ else some ⟨g, 1, none⟩) (n1 - 1) (c1 - 1)) (.slice x2 n2 c2) ads { m with input := ys }) := by
      refine HM.out.next1 ?_ ?_
      · by_cases h1 : c1 = 1
        · rw [if_pos h1]
          have hy : ys = [] := List.eq_nil_of_length_eq_zero (by omega)
          refine .inr (.inr ⟨some ⟨g, 0, none⟩, by rw [hn1, h1, hy]; rfl, hy, fun x hx => ?_⟩)
          exact OwnsR.lt HI.out x (by simpa [fpOf, Value.ownBlock] using hx)
        · rw [if_neg h1]
          refine .inr (.inl ⟨g, c1 - 1, c1, [y], by simp; omega, by omega, by rw [hn1]; rfl, ?_⟩)
          have := HI.out
          rw [hn, hin] at this
          exact this
      · by_cases h1 : c1 = 1
        · rw [if_pos h1]; simp [fpOf, Value.ownBlock]
        · rw [if_neg h1]; simp [fpOf, Value.ownBlock]
    have HB2 : Hid (Below K W (W.setCell ⟨p, 1, none⟩ (.slice (if c1 = 1 then some ⟨g, 0, none⟩ else some ⟨g, 1, none⟩) (n1 - 1) (c1 - 1)))) := HM.out.set_below 1 _
    by_cases h1 : c1 = 1
    · subst h1
      have HR1 : Hid (KpAt K (W.setCell ⟨p, 1, none⟩ (.slice (some ⟨g, 0, none⟩) (n1 - 1) 0)) p (.slice x0 n0 c0) (.slice (some ⟨g, 0, none⟩) (n1 - 1) 0) (.slice x2 n2 c2) ads { m with input := ys }) := HR.out
      have HB3 : Hid (Below K W (W.setCell ⟨p, 1, none⟩ (.slice (some ⟨g, 0, none⟩) (n1 - 1) 0))) := HB2.out
      clear hform e hc hn hn1 hin HS HN HR HB2
      go_enter Try.func63, Try.ntmps63
      go_wp2
      go_returns
      exact ⟨rfl, ⟨_, _, _, _, _, _, _, _, _, _, HR1.out⟩, HB3.out⟩
    · have HR1 : Hid (KpAt K (W.setCell ⟨p, 1, none⟩ (.slice (some ⟨g, 1, none⟩) (n1 - 1) (c1 - 1))) p (.slice x0 n0 c0) (.slice (some ⟨g, 1, none⟩) (n1 - 1) (c1 - 1)) (.slice x2 n2 c2) ads { m with input := ys }) := by
        have := HR.out
        rw [if_neg h1] at this
        exact this
      have HB3 : Hid (Below K W (W.setCell ⟨p, 1, none⟩ (.slice (some ⟨g, 1, none⟩) (n1 - 1) (c1 - 1)))) := by
        have := HB2.out
        rw [if_neg h1] at this
        exact this
      clear hform e hc hn hn1 hin HS HN HR HB2
      go_enter Try.func63, Try.ntmps63
      go_wp2
      go_returns
      exact ⟨rfl, ⟨_, _, _, _, _, _, _, _, _, _, HR1.out⟩, HB3.out⟩

theorem isNumber_is (x : Int) (w : World) : Calls Try.prog 90 #[.int .i64 x] w fun e w' => e = .returned (.bool (decide (0 ≤ x ∧ x ≤ 1000000000))) ∧ w' = w := by
  by_cases h0 : 0 ≤ x
  · by_cases h1 : x ≤ 1000000000
    · rw [show decide (0 ≤ x ∧ x ≤ 1000000000) = true by simp [h0, h1]]
      go_enter Try.func90, Try.ntmps90
      go_wp2
      go_ret
      exact ⟨rfl, rfl⟩
    · rw [show decide (0 ≤ x ∧ x ≤ 1000000000) = false by simp [h1]]
      go_enter Try.func90, Try.ntmps90
      go_wp2
      go_ret
      exact ⟨rfl, rfl⟩
  · rw [show decide (0 ≤ x ∧ x ≤ 1000000000) = false by simp [h0]]
    go_enter Try.func90, Try.ntmps90
    go_wp2
    go_ret
    exact ⟨rfl, rfl⟩

set_option maxRecDepth 100000 in
set_option maxHeartbeats 1600000 in
theorem kpSummed_any (K p : Nat) (x0 : Option Addr) (n0 c0 : Nat) (x1 : Option Addr) (n1 c1 : Nat) (x2 : Option Addr) (n2 c2 : Nat) (ads : List (Nat × Nat)) (m : Mm) (a b : Int) (W : World) (h : KpAt K W p (.slice x0 n0 c0) (.slice x1 n1 c1) (.slice x2 n2 c2) ads m) (hb : m.bad = 0) :
    KpDoes 66 #[.pointer (some ⟨p, 0, none⟩), .int .i64 a, .int .i64 b] W K p (summedM m a b).1 (.int .i64 (summedM m a b).2) := by
  have HM : Hid (KpAt K W p (.slice x0 n0 c0) (.slice x1 n1 c1) (.slice x2 n2 c2) ads m) := h
  have u4 : W.cell? ⟨p, 4, none⟩ = some (.int .i64 m.bad) := cell_at h.blk 4
  have f4 := free_at h.blk 4
  have HB : Hid (Below K W (W.setCell ⟨p, 4, none⟩ (.int .i64 3))) := h.set_below 4 _
  have HBd : Hid (m.bad = 0) := hb
  rw [hb] at u4
  clear h hb
  have cA : Hid (∀ W', Calls Try.prog 90 #[.int .i64 a] W' fun e w' => e = .returned (.bool (decide (0 ≤ a ∧ a ≤ 1000000000))) ∧ w' = W') := fun W' => isNumber_is a W'
  have cB : Hid (∀ W', Calls Try.prog 90 #[.int .i64 b] W' fun e w' => e = .returned (.bool (decide (0 ≤ b ∧ b ≤ 1000000000))) ∧ w' = W') := fun W' => isNumber_is b W'
  have cS : Hid (∀ W', Calls Try.prog 90 #[.int .i64 (a + b)] W' fun e w' => e = .returned (.bool (decide (0 ≤ a + b ∧ a + b ≤ 1000000000))) ∧ w' = W') := fun W' => isNumber_is (a + b) W'
  unfold KpDoes
  by_cases ha : 0 ≤ a ∧ a ≤ 1000000000
  · rw [decide_eq_true ha] at cA
    by_cases hc : 0 ≤ b ∧ b ≤ 1000000000
    · rw [decide_eq_true hc] at cB
      have ha0 := ha.1
      have ha1 := ha.2
      have hb0 := hc.1
      have hb1 := hc.2
      by_cases hs : 0 ≤ a + b ∧ a + b ≤ 1000000000
      · rw [decide_eq_true hs] at cS
        have HS : Hid (summedM m a b = (m, a + b)) := by show _ = _; unfold summedM; rw [if_pos HBd.out, if_pos ⟨ha, hc, hs.2⟩]
        rw [HS.out]
        clear HS ha hc hs
        go_enter Try.func66, Try.ntmps66
        go_wp2_with fail
        go_at_call 90
        refine Calls.mono (cA.out _) ?_
        rintro e w1 ⟨rfl, rfl⟩
        go_wp2_with fail
        go_at_call 90
        refine Calls.mono (cB.out _) ?_
        rintro e w1 ⟨rfl, rfl⟩
        go_wp2_with fail
        go_at_call 90
        refine Calls.mono (cS.out _) ?_
        rintro e w1 ⟨rfl, rfl⟩
        go_wp2
        go_returns
        exact ⟨rfl, ⟨_, _, _, _, _, _, _, _, _, _, HM.out⟩, Below.refl _ _⟩
      · rw [decide_eq_false hs] at cS
        have HS : Hid (summedM m a b = ({ m with bad := 3 }, 0)) := by show _ = _; unfold summedM; rw [if_pos HBd.out, if_neg (fun h => hs ⟨by omega, h.2.2⟩)]
        rw [HS.out]
        clear HS ha hc hs
        go_enter Try.func66, Try.ntmps66
        go_wp2_with fail
        go_at_call 90
        refine Calls.mono (cA.out _) ?_
        rintro e w1 ⟨rfl, rfl⟩
        go_wp2_with fail
        go_at_call 90
        refine Calls.mono (cB.out _) ?_
        rintro e w1 ⟨rfl, rfl⟩
        go_wp2_with fail
        go_at_call 90
        refine Calls.mono (cS.out _) ?_
        rintro e w1 ⟨rfl, rfl⟩
        go_wp2
        go_returns
        exact ⟨rfl, ⟨_, _, _, _, _, _, _, _, _, _, HM.out.badTo 3⟩, HB.out⟩
    · rw [decide_eq_false hc] at cB
      have HS : Hid (summedM m a b = ({ m with bad := 3 }, 0)) := by show _ = _; unfold summedM; rw [if_pos HBd.out, if_neg (fun h => hc h.2.1)]
      rw [HS.out]
      clear HS ha hc
      go_enter Try.func66, Try.ntmps66
      go_wp2_with fail
      go_at_call 90
      refine Calls.mono (cA.out _) ?_
      rintro e w1 ⟨rfl, rfl⟩
      go_wp2_with fail
      go_at_call 90
      refine Calls.mono (cB.out _) ?_
      rintro e w1 ⟨rfl, rfl⟩
      go_wp2
      go_returns
      exact ⟨rfl, ⟨_, _, _, _, _, _, _, _, _, _, HM.out.badTo 3⟩, HB.out⟩
  · rw [decide_eq_false ha] at cA
    have HS : Hid (summedM m a b = ({ m with bad := 3 }, 0)) := by show _ = _; unfold summedM; rw [if_pos HBd.out, if_neg (fun h => ha h.1)]
    rw [HS.out]
    clear HS ha
    go_enter Try.func66, Try.ntmps66
    go_wp2_with fail
    go_at_call 90
    refine Calls.mono (cA.out _) ?_
    rintro e w1 ⟨rfl, rfl⟩
    go_wp2
    go_returns
    exact ⟨rfl, ⟨_, _, _, _, _, _, _, _, _, _, HM.out.badTo 3⟩, HB.out⟩

end Go.Proofs.Ytabejilnpblogaa
