/-
  VarAt, in the model and in the program: what it answers at every list of vars and every name.
-/
import Derived.Test.YtljphnjmeckpbaaRowVar
namespace Go.Proofs.Ytljphnjmeckpbaa
open Go.RowKit

set_option maxRecDepth 100000 in
set_option maxHeartbeats 1600000 in
theorem specVarAt_any (B : Nat) (v : Value) (xs : List Vr) (nm : ByteArray) (w : World) (hB : B ≤ w.heap.size) (hv : VrR.Row w B v xs) (hl : xs.length ≤ 1048576) :
    Calls Try.prog 15 #[v, .string nm] w fun e w' => e = .returned (.int .i64 (varAt xs nm)) ∧ Below w.heap.size w w' := by
  obtain ⟨a, cap, rfl⟩ := hv.len
  obtain ⟨N, HN⟩ : ∃ N, Hid (xs.length = N) := ⟨_, (rfl : xs.length = xs.length)⟩
  have H : Hid (VrR.Row w B (.slice a N cap) xs) := by rw [← HN.out]; exact hv
  rw [HN.out] at hl ⊢
  clear hv
  go_enter Try.func15, Try.ntmps15
  go_wp2
  go_loopw [5] (fun i wr => ∃ k : Nat, k ≤ N ∧ i = .int .i64 (k : Int) ∧ Hid (∀ j, (hj : j < xs.length) → j < k → sameB xs[j].name nm = false) ∧ Below w.heap.size w wr) (fun i _ => N - (intOf i).toNat)
  case atStart => exact ⟨0, Nat.zero_le _, rfl, fun j _ hj => by omega, Below.refl _ _⟩
  case round =>
    obtain ⟨k, hk, rfl, HK, hbw⟩ := hrel
    by_cases hlt : k < N
    · have hk1 : (k : Int) < (N : Int) := by omega
      have hk0 : (0 : Int) ≤ (k : Int) := by omega
      have hkl : k < xs.length := by have := HN.out; omega
      obtain ⟨b, off, rfl, hb, c0, c1, c2⟩ := VrR.at H.out k hkl
      obtain ⟨q, hqe⟩ : ∃ q, Hid (xs[k].name = q) := ⟨_, (rfl : xs[k].name = xs[k].name)⟩
      rw [hqe.out] at c0
      have d0 := (hbw.cell (p := ⟨b, off + k * 3, none⟩) (by show b < _; omega)).trans c0
      clear c0 c1 c2
      cases hs : sameB q nm
      · have HK1 : Hid (∀ j, (hj : j < xs.length) → j < k + 1 → sameB xs[j].name nm = false) := fun j hj hjk => by
          by_cases e : j = k
          · subst e
            rw [hqe.out]
            exact hs
          · exact HK.out j hj (by omega)
        unfold sameB at hs
        go_wp2
        go_roundw
        case rel => exact ⟨k + 1, by omega, by go_num, HK1, hbw⟩
        case measure => simp [intOf]; omega
      · have HF : Hid (varAt xs nm = (k : Int)) := varAt_at hkl HK.out (by rw [hqe.out]; exact hs)
        unfold sameB at hs
        go_wp2
        go_ret
        exact ⟨by rw [HF.out]; rfl, hbw⟩
    · have HF : Hid (varAt xs nm = -1) := varAt_none (fun j hj => HK.out j hj (by have := HN.out; omega))
      go_wp2
      go_ret
      exact ⟨by rw [HF.out]; rfl, hbw⟩

/-- The test that VarAt hands over: whether a var has the name. -/
theorem varAt1_any (q : Vr) (nm : ByteArray) (bn : Nat) (w : World) (hbn : bn < w.heap.size) (hc : w.cell? ⟨bn, 0, none⟩ = some (.string nm)) :
    Calls Try.prog 36 #[.agg #[.string q.name, .int .i64 q.ty, .int .i64 q.node], .pointer (some ⟨bn, 0, none⟩)] w fun e w' => e = .returned (.bool (sameB q.name nm)) ∧ Below w.heap.size w w' := by
  obtain ⟨q0, q1, q2⟩ := q
  unfold sameB
  simp only
  have hne : bn ≠ w.heap.size := by omega
  have hcc : ∀ o, (w.alloc o).cell? ⟨bn, 0, none⟩ = some (.string nm) := fun o => ((Below.alloc (Below.refl w.heap.size w) (Nat.le_refl _) o).cell (p := ⟨bn, 0, none⟩) hbn).trans hc
  clear hc
  go_enter Try.func36, Try.ntmps36
  go_wp2
  go_ret
  exact ⟨rfl, by go_grown⟩

set_option maxRecDepth 100000 in
set_option maxHeartbeats 1600000 in
theorem indexVar_any (B : Nat) (v : Value) (xs : List Vr) (nm : ByteArray) (bn : Nat) (w : World) (hB : B ≤ w.heap.size) (hv : VrR.Row w B v xs) (hl : xs.length ≤ 1048576) (hbn : bn < w.heap.size) (hn : w.cell? ⟨bn, 0, none⟩ = some (.string nm)) :
    Calls Try.prog 35 #[v, .func (.func 36) #[] #[.pointer (some ⟨bn, 0, none⟩)]] w fun e w' => e = .returned (.int .i64 (varAt xs nm)) ∧ Below w.heap.size w w' := by
  obtain ⟨a, cap, rfl⟩ := hv.len
  obtain ⟨N, HN⟩ : ∃ N, Hid (xs.length = N) := ⟨_, (rfl : xs.length = xs.length)⟩
  have H : Hid (VrR.Row w B (.slice a N cap) xs) := by rw [← HN.out]; exact hv
  rw [HN.out] at hl ⊢
  have HNM : Hid (w.cell? ⟨bn, 0, none⟩ = some (.string nm)) := hn
  clear hv hn
  go_enter Try.func35, Try.ntmps35
  go_wp2
  go_loopw [8] (fun i wr => ∃ k : Nat, k ≤ N ∧ i = .int .i64 (k : Int) ∧ Hid (∀ j, (hj : j < xs.length) → j < k → sameB xs[j].name nm = false) ∧ Below w.heap.size w wr) (fun i _ => N - (intOf i).toNat)
  case atStart => exact ⟨0, Nat.zero_le _, rfl, fun j _ hj => by omega, Below.refl _ _⟩
  case round =>
    obtain ⟨k, hk, rfl, HK, hbw⟩ := hrel
    by_cases hlt : k < N
    · have hk1 : (k : Int) < (N : Int) := by omega
      have hk0 : (0 : Int) ≤ (k : Int) := by omega
      have hkl : k < xs.length := by have := HN.out; omega
      obtain ⟨b, off, rfl, hb, c0, c1, c2⟩ := VrR.at H.out k hkl
      obtain ⟨q, hqe⟩ : ∃ q, Hid (xs[k] = q) := ⟨_, (rfl : xs[k] = xs[k])⟩
      rw [hqe.out] at c0 c1 c2
      have d0 := (hbw.cell (p := ⟨b, off + k * 3, none⟩) (by show b < _; omega)).trans c0
      have d1 := (hbw.cell (p := ⟨b, off + k * 3 + 1, none⟩) (by show b < _; omega)).trans c1
      have d2 := (hbw.cell (p := ⟨b, off + k * 3 + 2, none⟩) (by show b < _; omega)).trans c2
      have hsz := hbw.size
      obtain ⟨r, hr⟩ : ∃ r, Hid (sameB q.name nm = r) := ⟨_, (rfl : sameB q.name nm = sameB q.name nm)⟩
      have cQ : Hid (Calls Try.prog 36 #[.agg #[.string q.name, .int .i64 q.ty, .int .i64 q.node], .pointer (some ⟨bn, 0, none⟩)] wr fun e w' => e = .returned (.bool r) ∧ Below wr.heap.size wr w') := by
        have := varAt1_any q nm bn wr (by omega) ((hbw.cell (p := ⟨bn, 0, none⟩) hbn).trans HNM.out)
        rw [hr.out] at this
        exact this
      clear c0 c1 c2
      obtain ⟨q0, q1, q2⟩ := q
      simp only at d0 d1 d2 cQ
      go_wp2_with fail
      go_at_call 36
      refine Calls.mono cQ.out ?_
      rintro e w1 ⟨rfl, hb1⟩
      have HB1 : Hid (Below w.heap.size w w1) := hbw.trans (hb1.mono hsz)
      clear hb1 cQ d0 d1 d2 hbw
      cases r
      · have HK1 : Hid (∀ j, (hj : j < xs.length) → j < k + 1 → sameB xs[j].name nm = false) := fun j hj hjk => by
          by_cases e : j = k
          · subst e
            rw [hqe.out]
            exact hr.out
          · exact HK.out j hj (by omega)
        go_wp2
        go_roundw
        case rel => exact ⟨k + 1, by omega, by go_num, HK1, HB1.out⟩
        case measure => simp [intOf]; omega
      · have HF : Hid (varAt xs nm = (k : Int)) := varAt_at hkl HK.out (by rw [hqe.out]; exact hr.out)
        go_wp2
        go_ret
        exact ⟨by rw [HF.out]; rfl, HB1.out⟩
    · have HF : Hid (varAt xs nm = -1) := varAt_none (fun j hj => HK.out j hj (by have := HN.out; omega))
      go_wp2
      go_ret
      exact ⟨by rw [HF.out]; rfl, hbw⟩

set_option maxRecDepth 100000 in
set_option maxHeartbeats 1600000 in
theorem implVarAt_any (B : Nat) (v : Value) (xs : List Vr) (nm : ByteArray) (w : World) (hB : B ≤ w.heap.size) (hv : VrR.Row w B v xs) (hl : xs.length ≤ 1048576) :
    Calls Try.prog 17 #[v, .string nm] w fun e w' => e = .returned (.int .i64 (varAt xs nm)) ∧ Below w.heap.size w w' := by
  obtain ⟨z, hz⟩ : ∃ z, Hid (varAt xs nm = z) := ⟨_, (rfl : varAt xs nm = varAt xs nm)⟩
  have cI : Hid (∀ W, Below w.heap.size w W → ∀ bn, bn < W.heap.size → W.cell? ⟨bn, 0, none⟩ = some (.string nm) → Calls Try.prog 35 #[v, .func (.func 36) #[] #[.pointer (some ⟨bn, 0, none⟩)]] W fun e w' => e = .returned (.int .i64 z) ∧ Below W.heap.size W w') := fun W hW bn h1 h2 => by
    rw [← hz.out]
    exact indexVar_any B v xs nm bn W (Nat.le_trans hB hW.size) (hv.keep (hW.mono hB)) hl h1 h2
  rw [hz.out]
  clear hv hl hz
  go_enter Try.func17, Try.ntmps17
  go_wp2_with fail
  go_at_call 35
  refine Calls.mono (cI.out _ (by go_grown) _ (by simp) (by simp)) ?_
  rintro e w1 ⟨rfl, hb⟩
  have HB : Hid (Below w.heap.size w w1) := by
    refine Below.trans ?_ (hb.mono (by simp))
    go_grown
  clear hb cI
  go_wp2
  go_ret
  exact ⟨rfl, HB.out⟩

end Go.Proofs.Ytljphnjmeckpbaa
