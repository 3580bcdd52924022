/-
  The model's memory: what is asked for, and sums.
-/
import Derived.Test.YtabejilnpblogaaSpMove
namespace Go.Proofs.Ytabejilnpblogaa
open Go.RowKit

set_option maxRecDepth 100000 in
set_option maxHeartbeats 1600000 in
theorem l09Summed_any (K p : Nat) (x0 : Option Addr) (n0 c0 : Nat) (x1 : Option Addr) (n1 c1 : Nat) (x2 : Option Addr) (n2 c2 : Nat) (m : Mm) (a b : Int) (W : World) (h : MmAt K W p (.slice x0 n0 c0) (.slice x1 n1 c1) (.slice x2 n2 c2) m) :
    SpDoes 67 #[.pointer (some ⟨p, 0, none⟩), .int .i64 a, .int .i64 b] W K p (summedM m a b).1 (.int .i64 (summedM m a b).2) := by
  have HM : Hid (MmAt K W p (.slice x0 n0 c0) (.slice x1 n1 c1) (.slice x2 n2 c2) m) := h
  have u4 : W.cell? ⟨p, 4, none⟩ = some (.int .i64 m.bad) := cell_at h.blk 4
  have f4 := free_at h.blk 4
  have HB : Hid (Below K W (W.setCell ⟨p, 4, none⟩ (.int .i64 3))) := h.set_below 4 _
  obtain ⟨bd, hbd⟩ : ∃ f, Hid (m.bad = f) := ⟨_, (rfl : m.bad = m.bad)⟩
  rw [hbd.out] at u4
  clear h
  unfold SpDoes
  by_cases hb : bd = 0
  · subst hb
    by_cases ha : 0 ≤ a ∧ a ≤ 1000000000
    · by_cases hc : 0 ≤ b ∧ b ≤ 1000000000
      · have ha0 := ha.1
        have ha1 := ha.2
        have hb0 := hc.1
        have hb1 := hc.2
        by_cases hs : a + b ≤ 1000000000
        · have HS : Hid (summedM m a b = (m, a + b)) := by show _ = _; unfold summedM; rw [if_pos hbd.out, if_pos ⟨ha, hc, hs⟩]
          rw [HS.out]
          clear HS ha hc
          have hs1 : ¬ a + b > 1000000000 := by omega
          go_enter Try.func67, Try.ntmps67
          go_wp2_with (first | (go_at_call 91; refine Calls.mono (l01In_yes _ _ _ _ (by omega) (by omega)) ?_; rintro e w1 ⟨rfl, rfl⟩))
          go_returns
          exact ⟨rfl, ⟨_, _, _, _, _, _, _, _, _, HM.out⟩, Below.refl _ _⟩
        · have HS : Hid (summedM m a b = ({ m with bad := 3 }, 0)) := by show _ = _; unfold summedM; rw [if_pos hbd.out, if_neg (fun h => hs h.2.2)]
          rw [HS.out]
          clear HS ha hc
          have hs1 : a + b > 1000000000 := by omega
          go_enter Try.func67, Try.ntmps67
          go_wp2_with (first | (go_at_call 91; refine Calls.mono (l01In_yes _ _ _ _ (by omega) (by omega)) ?_; rintro e w1 ⟨rfl, rfl⟩))
          go_returns
          exact ⟨rfl, ⟨_, _, _, _, _, _, _, _, _, HM.out.badTo 3⟩, HB.out⟩
      · have HS : Hid (summedM m a b = ({ m with bad := 3 }, 0)) := by show _ = _; unfold summedM; rw [if_pos hbd.out, if_neg (fun h => hc h.2.1)]
        rw [HS.out]
        have ha0 := ha.1
        have ha1 := ha.2
        have cI1 : Hid (∀ W', Calls Try.prog 91 #[.int .i64 a, .int .i64 0, .int .i64 1000000000] W' fun e w' => e = .returned (.bool true) ∧ w' = W') := fun W' => l01In_yes _ _ _ _ ha0 ha1
        have cI2 : Hid (∀ W', Calls Try.prog 91 #[.int .i64 b, .int .i64 0, .int .i64 1000000000] W' fun e w' => e = .returned (.bool false) ∧ w' = W') := fun W' => l01In_no _ _ _ _ (by omega)
        clear HS ha hc
        go_enter Try.func67, Try.ntmps67
        go_wp2_with fail
        go_at_call 91
        refine Calls.mono (cI1.out _) ?_
        rintro e w1 ⟨rfl, rfl⟩
        go_wp2_with fail
        go_at_call 91
        refine Calls.mono (cI2.out _) ?_
        rintro e w1 ⟨rfl, rfl⟩
        go_wp2
        go_returns
        exact ⟨rfl, ⟨_, _, _, _, _, _, _, _, _, HM.out.badTo 3⟩, HB.out⟩
    · have HS : Hid (summedM m a b = ({ m with bad := 3 }, 0)) := by show _ = _; unfold summedM; rw [if_pos hbd.out, if_neg (fun h => ha h.1)]
      rw [HS.out]
      have cI1 : Hid (∀ W', Calls Try.prog 91 #[.int .i64 a, .int .i64 0, .int .i64 1000000000] W' fun e w' => e = .returned (.bool false) ∧ w' = W') := fun W' => l01In_no _ _ _ _ (by omega)
      clear HS ha
      go_enter Try.func67, Try.ntmps67
      go_wp2_with fail
      go_at_call 91
      refine Calls.mono (cI1.out _) ?_
      rintro e w1 ⟨rfl, rfl⟩
      go_wp2
      go_returns
      exact ⟨rfl, ⟨_, _, _, _, _, _, _, _, _, HM.out.badTo 3⟩, HB.out⟩
  · have HS : Hid (summedM m a b = (m, 0)) := by show _ = _; unfold summedM; rw [if_neg (by rw [hbd.out]; exact hb)]
    rw [HS.out]
    go_enter Try.func67, Try.ntmps67
    go_wp2
    go_returns
    exact ⟨rfl, ⟨_, _, _, _, _, _, _, _, _, HM.out⟩, Below.refl _ _⟩

set_option maxRecDepth 100000 in
set_option maxHeartbeats 1600000 in
theorem l09Asked_any (K p : Nat) (x0 : Option Addr) (n0 c0 : Nat) (x1 : Option Addr) (n1 c1 : Nat) (x2 : Option Addr) (n2 c2 : Nat) (m : Mm) (W : World) (h : MmAt K W p (.slice x0 n0 c0) (.slice x1 n1 c1) (.slice x2 n2 c2) m) (hl : szMm m ≤ 2000000) :
    SpDoes 64 #[.pointer (some ⟨p, 0, none⟩)] W K p (askedM m).1 (.int .i64 (askedM m).2) := by
  have HM : Hid (MmAt K W p (.slice x0 n0 c0) (.slice x1 n1 c1) (.slice x2 n2 c2) m) := h
  have u1 : W.cell? ⟨p, 1, none⟩ = some (.slice x1 n1 c1) := cell_at h.blk 1
  have u4 : W.cell? ⟨p, 4, none⟩ = some (.int .i64 m.bad) := cell_at h.blk 4
  have f1 := free_at h.blk 1
  have f4 := free_at h.blk 4
  have hlt := h.lt
  have hKW : K ≤ W.heap.size := by have := h.low; omega
  have hil : m.input.length ≤ 2000000 := by unfold szMm at hl; omega
  have HB : Hid (Below K W (W.setCell ⟨p, 4, none⟩ (.int .i64 2))) := h.set_below 4 _
  obtain ⟨bd, hbd⟩ : ∃ f, Hid (m.bad = f) := ⟨_, (rfl : m.bad = m.bad)⟩
  rw [hbd.out] at u4
  have hform := OwnsR.form h.input
  clear h hl
  unfold SpDoes
  by_cases hb : bd = 0
  · subst hb
    cases hin : m.input with
    | nil =>
      have HS : Hid (askedM m = ({ m with bad := 2 }, 0)) := by show _ = _; unfold askedM; rw [if_pos hbd.out, hin]
      rw [HS.out]
      have hn1 : n1 = 0 := by
        rcases hform with ⟨e, _⟩ | ⟨g, c, e, _⟩
        · injection e with _ e2 _
        · injection e with _ e2 _; rw [e2, hin]; rfl
      subst hn1
      clear hform hin HS
      go_enter Try.func64, Try.ntmps64
      go_wp2
      go_returns
      exact ⟨rfl, ⟨_, _, _, _, _, _, _, _, _, HM.out.badTo 2⟩, HB.out⟩
    | cons y ys =>
      have HS : Hid (askedM m = ({ m with input := ys }, y)) := by show _ = _; unfold askedM; rw [if_pos hbd.out, hin]
      rw [HS.out]
      obtain ⟨g, e, hc⟩ : ∃ g, Value.slice x1 n1 c1 = .slice (some ⟨g, 0, none⟩) m.input.length c1 ∧ m.input.length ≤ c1 := by
        rcases hform with ⟨_, e⟩ | ⟨g, c, e, h1, _⟩
        · rw [hin] at e; cases e
        · have := OwnsR.capOf (show OwnsR inC 1 W K 3 (.slice x1 n1 c1) m.input from HM.out.input)
          injection e with e1 e2 e3
          exact ⟨g, by rw [e1, e2], this⟩
      obtain ⟨rfl, hn⟩ : x1 = some ⟨g, 0, none⟩ ∧ n1 = m.input.length := by simpa using e
      have hn1 : n1 = ys.length + 1 := by rw [hn, hin]; rfl
      have HN : Hid (n1 = m.input.length) := hn
      have y0 : W.cell? ⟨g, 0, none⟩ = some (.int .i64 y) := by
        have := OwnsR.cell inC_len HM.out.input HN.out 0 0 (by rw [hin]; simp) (by decide)
        simp only [hin] at this
        exact this
      have hn0 : (0 : Int) < (n1 : Int) := by omega
      have hne : ¬ (n1 : Int) = 0 := by omega
      have hne2 : ¬ n1 = 0 := by omega
      have h1n : (1 : Int) ≤ (n1 : Int) := by omega
      have hc1 : (n1 : Int) ≤ (c1 : Int) := by omega
      clear hform e hc
      have HN1 : Hid (n1 = ys.length + 1) := hn1
      have HIN : Hid (m.input = y :: ys) := hin
      have HE : Hid (OwnsI (W.alloc (.cells #[] 3)) K (.slice (some ⟨W.heap.size, 0, none⟩) 0 0) []) := owns_emptyAt (heap_alloc_new _ _) hKW
      have HSrc : Hid (RowI (W.alloc (.cells #[] 3)) W.heap.size (.slice (if c1 = 1 then some ⟨g, 0, none⟩ else some ⟨g, 1, none⟩) (n1 - 1) (c1 - 1)) ys ∧ nilOk (.slice (if c1 = 1 then some ⟨g, 0, none⟩ else some ⟨g, 1, none⟩) (n1 - 1) (c1 - 1))) := by
        have hW : RowI W W.heap.size (.slice (if c1 = 1 then some ⟨g, 0, none⟩ else some ⟨g, 1, none⟩) (n1 - 1) (c1 - 1)) ys := by
          refine ⟨_, _, by rw [show n1 - 1 = ys.length by omega], by omega, ?_⟩
          by_cases h1 : c1 = 1
          · exact .inl (List.eq_nil_of_length_eq_zero (by omega))
          · refine .inr ⟨g, 1, by rw [if_neg h1], (OwnsR.lt HM.out.input g (by simp [fpOf, Value.ownBlock])).2, fun i hi j hj => ?_⟩
            obtain rfl : j = 0 := by omega
            have := OwnsR.cell inC_len HM.out.input HN.out (i + 1) 0 (by rw [hin]; simp; omega) (by decide)
            simp only [hin, List.getElem_cons_succ] at this
            rw [show 1 + i * 1 + 0 = (i + 1) * 1 + 0 by omega]
            exact this
        refine ⟨hW.keep ((Below.refl _ _).alloc (Nat.le_refl _) _), ?_⟩
        by_cases h1 : c1 = 1
        · rw [if_pos h1]; trivial
        · rw [if_neg h1]; trivial
      have hyl : ys.length ≤ 2000000 := by omega
      clear hn hn1 hin
      go_enter Try.func64, Try.ntmps64
      go_wp2_with (at_builtin; go_must (refine appendRow inC_len rfl _ _ 25 rfl K 3 _ 8 Try.underlying25 Try.infoInt rfl (by decide) HE.out ys W.heap.size _ _ _ HSrc.out.1 HSrc.out.2 (inC_one _) rfl rfl (by simp; omega) (by omega) (by simp; omega) ?_); intro a' n' c' w2 ho hg hat; have hfp := fp_app (W := W) (e := 3) hat rfl; have hb2 : Below W.heap.size W w2 := ((Below.refl _ _).alloc (Nat.le_refl _) _).grown hg (by simp) (fun x hx => by have h0 : x = W.heap.size := (Option.some.inj hx).symm; omega); have HR : Hid (MmAt K (w2.setCell ⟨p, 1, none⟩ (.slice a' n' c')) p (.slice x0 n0 c0) (.slice a' n' c') (.slice x2 n2 c2) { m with input := ys }) := HM.out.new1 ho hb2 hfp; have HB2 : Hid (Below K W (w2.setCell ⟨p, 1, none⟩ (.slice a' n' c'))) := (hb2.mono hKW).setCell (p := ⟨p, 1, none⟩) HM.out.low _; have hpb := (hb2.block p hlt).trans HM.out.blk; have a1 := cell_at hpb 1; have b1 := free_at hpb 1; simp at a1; clear ho hg hat hfp hb2 hpb HE HSrc)
      all_goals
        go_returns
        exact ⟨rfl, ⟨_, _, _, _, _, _, _, _, _, HR.out⟩, HB2.out⟩
  · have HS : Hid (askedM m = (m, 0)) := by show _ = _; unfold askedM; rw [if_neg (by rw [hbd.out]; exact hb)]
    rw [HS.out]
    clear hform
    go_enter Try.func64, Try.ntmps64
    go_wp2
    go_returns
    exact ⟨rfl, ⟨_, _, _, _, _, _, _, _, _, HM.out⟩, Below.refl _ _⟩

end Go.Proofs.Ytabejilnpblogaa
