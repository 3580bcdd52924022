/-
  slices.Grow of nothing, slices.Concat of two rows of numbers.
-/
import Derived.Test.YtjafneaaefpefaaGreatVb
import Derived.Test.YtjafneaaefpefaaGreatDe
import Derived.Lib.AppendZeros
import Derived.Laws.AppendOwnNone
namespace Go.Proofs.YtjafneaaefpefaaGreat
open Go.RowKit

set_option maxRecDepth 100000 in
set_option maxHeartbeats 3200000 in
/-- slices.Grow(nil, n): nothing, with room for n. -/
theorem growI_any (n : Nat) (w : World) (hl : n ≤ 4194304) :
    Calls Tryz.prog 66 #[.slice none 0 0, .int .i64 (n : Int)] w fun e w' => (∃ a cap, e = .returned (.slice a 0 cap) ∧ OwnsI w' w.heap.size (.slice a 0 cap) []) ∧ Below w.heap.size w w' := by
  by_cases h0 : n = 0
  · subst h0
    go_enter Tryz.func66, Tryz.ntmps66
    go_wp2
    go_ret
    exact ⟨⟨none, 0, rfl, ownsR_nil _ _ _ _ _⟩, Below.refl _ _⟩
  have hn0 : ¬ (n : Int) < 0 := by omega
  have hn1 : (0 : Int) < (n : Int) := by omega
  have hn2 : (n : Int) > 0 := by omega
  obtain ⟨i, hi, hz0, hz1, hz2⟩ := info_parts Tryz.infoInt
  have hr : ∀ ty, (Builtin.append_ #[35, 3] ty #[.slice none 0 0, .int .i64 (n : Int)]).run Tryz.prog w = .ok (.slice (some ⟨w.heap.size, 0, none⟩) n (grownCap w n 0 3)) (w.drew.alloc (.cells (Builtin.zeroCells (Value.int .i64 0).cells n ++ Builtin.zeroCells (Value.int .i64 0).cells (grownCap w n 0 3 - n)) 3)) := fun ty =>
    Lib.run_append_nil_zeros w _ _ ty _ i (.int .i64 0) .i64 .i64 Tryz.underlying35 Tryz.underlying3 hi hz0 n (by omega) (by omega) (by omega) (by rw [hz2]; omega)
  obtain ⟨C, hC⟩ : ∃ C, grownCap w n 0 3 = C := ⟨_, rfl⟩
  have hCn : n ≤ C ∧ C ≤ maxLen := by
    rw [← hC]
    exact ⟨grownCap_ge _ _ _ _, grownCap_le_maxLen _ _ _ _ (by unfold maxLen; omega)⟩
  rw [hC] at hr
  obtain ⟨W2, hW2⟩ : ∃ W2, w.drew.alloc (.cells (Builtin.zeroCells (Value.int .i64 0).cells n ++ Builtin.zeroCells (Value.int .i64 0).cells (C - n)) 3) = W2 := ⟨_, rfl⟩
  have HW : Hid (OwnsI W2 w.heap.size (.slice (some ⟨w.heap.size, 0, none⟩) 0 C) [] ∧ Below w.heap.size w W2) := by
    rw [← hW2]
    refine ⟨⟨rfl, .inr ⟨w.heap.size, C, _, rfl, Nat.le_refl _, heap_alloc_new _ _, Nat.zero_le _, hCn.2, ?_, rfl⟩⟩, by go_grown⟩
    have h1 : (Value.int .i64 0).cells.size = 1 := rfl
    simp [Builtin.zeroCells, h1]
    omega
  rw [hW2] at hr
  clear hi hz0 hz1 hz2 hW2
  have hC0 : (0 : Int) ≤ (C : Int) := by omega
  go_enter Tryz.func66, Tryz.ntmps66
  go_wp2_with (at_builtin; refine Lib.wpList_append_run _ rfl _ _ _ _ rfl _ _ rfl rfl _ _ (hr _) ?_)
  go_ret
  exact ⟨⟨_, _, rfl, HW.out.1⟩, HW.out.2⟩

/-- What stands ahead of place t of two rows. -/
def catTo (xs ys : List Int) : Nat → List Int
  | 0 => []
  | 1 => xs
  | _ => xs ++ ys

set_option maxRecDepth 100000 in
set_option maxHeartbeats 6400000 in
theorem concatI_any (pb cc : Nat) (a1 a2 : Option Addr) (n1 c1 n2 c2 : Nat) (xs ys : List Int) (w : World) (hpb : pb < w.heap.size)
    (h0 : w.cell? ⟨pb, 0, none⟩ = some (.slice a1 n1 c1)) (h1 : w.cell? ⟨pb, 1, none⟩ = some (.slice a2 n2 c2)) (hx : OwnsI w 0 (.slice a1 n1 c1) xs) (hy : OwnsI w 0 (.slice a2 n2 c2) ys) (hl1 : xs.length ≤ 1048576) (hl2 : ys.length ≤ 1048576) :
    Calls Tryz.prog 34 #[.slice (some ⟨pb, 0, none⟩) 2 cc] w fun e w' => (∃ a n c, e = .returned (.slice a n c) ∧ OwnsI w' w.heap.size (.slice a n c) (xs ++ ys)) ∧ Below w.heap.size w w' := by
  have hn1 := hx.row.cap.1
  have hn2 := hy.row.cap.1
  have HX : Hid (RowI w w.heap.size (.slice a1 n1 c1) xs ∧ RowI w w.heap.size (.slice a2 n2 c2) ys ∧ xs.length = n1 ∧ ys.length = n2) := ⟨hx.row, hy.row, hn1, hn2⟩
  have HZ1 : Hid (a1 = none → n1 = 0 ∧ c1 = 0 ∧ xs = []) := fun e => by
    rcases OwnsR.form hx with ⟨h2, h3⟩ | ⟨g, c, h2, _⟩
    · cases h2
      exact ⟨rfl, rfl, h3⟩
    · rw [e] at h2
      cases h2
  have HZ2 : Hid (a2 = none → n2 = 0 ∧ c2 = 0 ∧ ys = []) := fun e => by
    rcases OwnsR.form hy with ⟨h2, h3⟩ | ⟨g, c, h2, _⟩
    · cases h2
      exact ⟨rfl, rfl, h3⟩
    · rw [e] at h2
      cases h2
  have hl1' : n1 ≤ 1048576 := by omega
  have hl2' : n2 ≤ 1048576 := by omega
  have cG : Hid (∀ W, Calls Tryz.prog 66 #[.slice none 0 0, .int .i64 ((n1 : Int) + (n2 : Int))] W fun e w' => (∃ a cap, e = .returned (.slice a 0 cap) ∧ OwnsI w' W.heap.size (.slice a 0 cap) []) ∧ Below W.heap.size W w') := fun W => growI_any (n1 + n2) W (by omega)
  have HC : Hid (w.cell? ⟨pb, 0, none⟩ = some (.slice a1 n1 c1) ∧ w.cell? ⟨pb, 1, none⟩ = some (.slice a2 n2 c2)) := ⟨h0, h1⟩
  clear hx hy hn1 hn2 hl1 hl2
  go_enter Tryz.func34, Tryz.ntmps34
  go_wp2
  go_loopw [3, 11] (fun s i wr => ∃ t : Nat, t ≤ 2 ∧ i = .int .i64 (t : Int) ∧ s = .int .i64 (if t = 0 then 0 else if t = 1 then (n1 : Int) else (n1 : Int) + (n2 : Int)) ∧ Below w.heap.size w wr) (fun _ i _ => 2 - (intOf i).toNat)
  case atStart => exact ⟨0, by omega, rfl, rfl, Below.refl _ _⟩
  case round =>
    obtain ⟨t, ht, rfl, rfl, hbw⟩ := hrel
    have d0 := (hbw.cell (p := ⟨pb, 0, none⟩) hpb).trans HC.out.1
    have d1 := (hbw.cell (p := ⟨pb, 1, none⟩) hpb).trans HC.out.2
    have hs0 : ¬ (n1 : Int) < 0 := by omega
    have hs1 : ¬ (n1 : Int) + (n2 : Int) < 0 := by omega
    rcases (by omega : t = 0 ∨ t = 1 ∨ t = 2) with rfl | rfl | rfl
    · go_wp2
      go_roundw
      case rel => exact ⟨1, by omega, by go_num, by simp, hbw⟩
      case measure => simp [intOf]
    · go_wp2
      go_roundw
      case rel => exact ⟨2, by omega, by go_num, by simp, hbw⟩
      case measure => simp [intOf]
    have hsz0 := hbw.size
    have HBW : Hid (Below w.heap.size w wr) := hbw
    clear hbw d0 d1
    go_wp2_with fail
    go_at_call 66
    refine Calls.mono (cG.out _) ?_
    rintro e w2 ⟨⟨ga, gc, rfl, hog⟩, hb2⟩
    have HQ0 : Hid (OwnsI w2 w.heap.size (.slice ga 0 gc) [] ∧ Below w.heap.size w w2) := ⟨owns_base hog hsz0, HBW.out.trans (hb2.mono hsz0)⟩
    obtain ⟨i, hi, hz0, hz1, hz2⟩ := info_parts Tryz.infoInt
    clear hog hb2 HBW cG
    go_wp2_with fail
    go_loopw [6, 27] (fun o i wr => ∃ (t : Nat) (oa : Option Addr) (ol oc : Nat), t ≤ 2 ∧ i = .int .i64 (t : Int) ∧ o = .slice oa ol oc ∧ ol ≤ 2097152 ∧ Hid (OwnsI wr w.heap.size (.slice oa ol oc) (catTo xs ys t) ∧ Below w.heap.size w wr)) (fun _ i _ => 2 - (intOf i).toNat)
    case atStart => exact ⟨0, ga, 0, gc, by omega, rfl, rfl, by omega, HQ0.out⟩
    case round =>
      obtain ⟨t, oa, ol, oc, ht, rfl, rfl, hol, HQ⟩ := hrel
      clear HQ0
      have hsz : w.heap.size ≤ wr.heap.size := HQ.out.2.size
      rcases (by omega : t = 0 ∨ t = 1 ∨ t = 2) with rfl | rfl | rfl
      rotate_left
      rotate_left
      · have HZ : Hid (OwnsI wr w.heap.size (.slice oa ol oc) (xs ++ ys) ∧ Below w.heap.size w wr) := HQ.out
        clear HQ
        go_wp2
        go_ret
        exact ⟨⟨_, _, _, rfl, HZ.out.1⟩, HZ.out.2⟩
      · have e0 := (HQ.out.2.cell (p := ⟨pb, 0, none⟩) hpb).trans HC.out.1
        have HS0 : Hid (RowI wr w.heap.size (.slice a1 n1 c1) xs) := HX.out.1.keep HQ.out.2
        cases hc : a1 with
        | none =>
          obtain ⟨hz1, hz2, hz3⟩ := HZ1.out hc
          rw [hc, hz1, hz2] at e0
          have HQ2 : Hid (OwnsI wr w.heap.size (.slice oa ol oc) (catTo xs ys 1) ∧ Below w.heap.size w wr) := by
            have h9 := HQ.out
            simp only [catTo] at h9 ⊢
            rw [hz3]
            exact h9
          clear hz1 hz2 hz3 hc
          go_wp2_with (at_builtin; go_must (refine wpList_append_own_none rfl _ _ 35 rfl w.heap.size 3 _ 1 Tryz.underlying35 hi _ _ _ rfl HQ.out.1 rfl ?_))
          go_roundw
          case rel => first | exact ⟨1, oa, ol, oc, by omega, by go_num, rfl, hol, HQ2⟩ | ((repeat refine Exists.intro _ ?_); refine ⟨?_, rfl⟩; exact ⟨1, oa, ol, oc, by omega, by go_num, rfl, hol, HQ2⟩)
          case measure => simp [intOf]
        | some ad =>
          rw [hc] at e0
          have HS : Hid (RowI wr w.heap.size (.slice (some ad) n1 c1) xs) := by rw [← hc]; exact HS0.out
          have hln : (catTo xs ys 0).length + xs.length ≤ 10000000 := by
            have := HX.out.2.2.1
            have := HX.out.2.2.2
            simp only [catTo, List.length_nil]
            omega
          go_wp2_with (at_builtin; go_must (refine appendI rfl _ _ 35 rfl w.heap.size Tryz.underlying35 Tryz.infoInt HQ.out.1 xs w.heap.size ad n1 c1 HS.out rfl rfl hln hsz ?_); intro v4 w4 hown4 hg4 hn4; obtain ⟨qa, qc, rfl⟩ := RowR.len hown4.row)
          have HQ2 : Hid (OwnsI w4 w.heap.size (.slice qa (catTo xs ys 0 ++ xs).length qc) (catTo xs ys 1) ∧ Below w.heap.size w w4) := by
            have hb4 : Below w.heap.size w w4 := HQ.out.2.grown hg4 hsz (fun k hk => (OwnsR.lt HQ.out.1 k (by simp [fpOf, hk])).1)
            refine ⟨?_, hb4⟩
            have h9 := hown4
            simp only [catTo, List.nil_append] at h9 ⊢
            exact h9
          have hol2 : (catTo xs ys 0 ++ xs).length ≤ 2097152 := by
            have := HX.out.2.2.1
            have := HX.out.2.2.2
            simp only [catTo, List.length_append, List.length_nil]
            omega
          clear hown4 hg4 hn4
          rw [List.length_append] at HQ2 hol2
          go_wp2
          go_roundw
          case rel => first | exact ⟨1, qa, _, qc, by omega, by go_num, rfl, hol2, HQ2⟩ | (simp only [List.length_append]; exact ⟨1, qa, _, qc, by omega, by go_num, rfl, hol2, HQ2⟩)
          case measure => simp [intOf]
      · have e0 := (HQ.out.2.cell (p := ⟨pb, 1, none⟩) hpb).trans HC.out.2
        have HS0 : Hid (RowI wr w.heap.size (.slice a2 n2 c2) ys) := HX.out.2.1.keep HQ.out.2
        cases hc : a2 with
        | none =>
          obtain ⟨hz1, hz2, hz3⟩ := HZ2.out hc
          rw [hc, hz1, hz2] at e0
          have HQ2 : Hid (OwnsI wr w.heap.size (.slice oa ol oc) (catTo xs ys 2) ∧ Below w.heap.size w wr) := by
            have h9 := HQ.out
            simp only [catTo] at h9 ⊢
            rw [hz3]
            rw [List.append_nil]; exact h9
          clear hz1 hz2 hz3 hc
          go_wp2_with (at_builtin; go_must (refine wpList_append_own_none rfl _ _ 35 rfl w.heap.size 3 _ 1 Tryz.underlying35 hi _ _ _ rfl HQ.out.1 rfl ?_))
          go_roundw
          case rel => first | exact ⟨2, oa, ol, oc, by omega, by go_num, rfl, hol, HQ2⟩ | ((repeat refine Exists.intro _ ?_); refine ⟨?_, rfl⟩; exact ⟨2, oa, ol, oc, by omega, by go_num, rfl, hol, HQ2⟩)
          case measure => simp [intOf]
        | some ad =>
          rw [hc] at e0
          have HS : Hid (RowI wr w.heap.size (.slice (some ad) n2 c2) ys) := by rw [← hc]; exact HS0.out
          have hln : (catTo xs ys 1).length + ys.length ≤ 10000000 := by
            have := HX.out.2.2.1
            have := HX.out.2.2.2
            simp only [catTo]
            omega
          go_wp2_with (at_builtin; go_must (refine appendI rfl _ _ 35 rfl w.heap.size Tryz.underlying35 Tryz.infoInt HQ.out.1 ys w.heap.size ad n2 c2 HS.out rfl rfl hln hsz ?_); intro v4 w4 hown4 hg4 hn4; obtain ⟨qa, qc, rfl⟩ := RowR.len hown4.row)
          have HQ2 : Hid (OwnsI w4 w.heap.size (.slice qa (catTo xs ys 1 ++ ys).length qc) (catTo xs ys 2) ∧ Below w.heap.size w w4) := by
            have hb4 : Below w.heap.size w w4 := HQ.out.2.grown hg4 hsz (fun k hk => (OwnsR.lt HQ.out.1 k (by simp [fpOf, hk])).1)
            refine ⟨?_, hb4⟩
            have h9 := hown4
            simp only [catTo] at h9 ⊢
            exact h9
          have hol2 : (catTo xs ys 1 ++ ys).length ≤ 2097152 := by
            have := HX.out.2.2.1
            have := HX.out.2.2.2
            simp only [catTo, List.length_append]
            omega
          clear hown4 hg4 hn4
          rw [List.length_append] at HQ2 hol2
          go_wp2
          go_roundw
          case rel => first | exact ⟨2, qa, _, qc, by omega, by go_num, rfl, hol2, HQ2⟩ | (simp only [List.length_append]; exact ⟨2, qa, _, qc, by omega, by go_num, rfl, hol2, HQ2⟩)
          case measure => simp [intOf]

end Go.Proofs.YtjafneaaefpefaaGreat
