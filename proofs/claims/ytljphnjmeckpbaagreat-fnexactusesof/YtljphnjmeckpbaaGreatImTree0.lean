/-
  Chapter 4, in the program: places, kinds, rows of kinds, what the parts take.
-/
import Derived.Test.YtljphnjmeckpbaaGreatTree1
import Derived.Handy
import Derived.BigQuiet
import Derived.Deep.QuietTactic
import Derived.Deep.RegionHeld3
namespace Go.Proofs.YtljphnjmeckpbaaGreat
open Go.RowKit

theorem isPlace_any (a : Option Addr) (N cap : Nat) (k : Int) (w : World) :
    Calls Tryz.prog 81 #[.slice a N cap, .int .i64 k] w fun e w' => e = .returned (.bool (isIn k 0 ((N : Int) - 1))) ∧ w' = w := by
  by_cases h0 : 0 ≤ k
  · by_cases h1 : k < (N : Int)
    · have HE : Hid (isIn k 0 ((N : Int) - 1) = true) := by show _ = _; simp [isIn]; omega
      go_enter Tryz.func81, Tryz.ntmps81
      go_wp2
      go_ret
      exact ⟨by rw [HE.out]; rfl, rfl⟩
    · have HE : Hid (isIn k 0 ((N : Int) - 1) = false) := by show _ = _; simp [isIn]; omega
      go_enter Tryz.func81, Tryz.ntmps81
      go_wp2
      go_ret
      exact ⟨by rw [HE.out]; rfl, rfl⟩
  · have HE : Hid (isIn k 0 ((N : Int) - 1) = false) := by show _ = _; simp [isIn]; omega
    go_enter Tryz.func81, Tryz.ntmps81
    go_wp2
    go_ret
    exact ⟨by rw [HE.out]; rfl, rfl⟩

theorem isValue_any (k : Int) (w : World) :
    Calls Tryz.prog 118 #[.int .i64 k] w fun e w' => e = .returned (.bool (isVal k)) ∧ w' = w := by
  by_cases h0 : 1 ≤ k
  · by_cases h1 : k ≤ 12
    · have HE : Hid (isVal k = true) := by show _ = _; simp [isVal, isIn]; omega
      go_enter Tryz.func118, Tryz.ntmps118
      go_wp2
      go_ret
      exact ⟨by rw [HE.out]; rfl, rfl⟩
    · have HE : Hid (isVal k = false) := by show _ = _; simp [isVal, isIn]; omega
      go_enter Tryz.func118, Tryz.ntmps118
      go_wp2
      go_ret
      exact ⟨by rw [HE.out]; rfl, rfl⟩
  · have HE : Hid (isVal k = false) := by show _ = _; simp [isVal, isIn]; omega
    go_enter Tryz.func118, Tryz.ntmps118
    go_wp2
    go_ret
    exact ⟨by rw [HE.out]; rfl, rfl⟩
theorem isStatement_any (k : Int) (w : World) :
    Calls Tryz.prog 164 #[.int .i64 k] w fun e w' => e = .returned (.bool (isStm k)) ∧ w' = w := by
  by_cases h0 : 13 ≤ k
  · by_cases h1 : k ≤ 19
    · have HE : Hid (isStm k = true) := by show _ = _; simp [isStm, isIn]; omega
      go_enter Tryz.func164, Tryz.ntmps164
      go_wp2
      go_ret
      exact ⟨by rw [HE.out]; rfl, rfl⟩
    · have HE : Hid (isStm k = false) := by show _ = _; simp [isStm, isIn]; omega
      go_enter Tryz.func164, Tryz.ntmps164
      go_wp2
      go_ret
      exact ⟨by rw [HE.out]; rfl, rfl⟩
  · have HE : Hid (isStm k = false) := by show _ = _; simp [isStm, isIn]; omega
    go_enter Tryz.func164, Tryz.ntmps164
    go_wp2
    go_ret
    exact ⟨by rw [HE.out]; rfl, rfl⟩

theorem all_false {xs : List Int} {p : Int → Bool} {k : Nat} (hk : k < xs.length) (h : p xs[k] = false) : xs.all p = false := by
  rw [← Bool.not_eq_true, List.all_eq_true]
  intro hh
  have := hh _ (List.getElem_mem hk)
  rw [h] at this
  cases this
theorem all_true {xs : List Int} {p : Int → Bool} (h : ∀ j, (hj : j < xs.length) → p xs[j] = true) : xs.all p = true := by
  rw [List.all_eq_true]
  intro x hx
  obtain ⟨j, hj, rfl⟩ := List.getElem_of_mem hx
  exact h j hj

set_option maxHeartbeats 800000 in
theorem allVal_any (B : Nat) (v : Value) (xs : List Int) (w : World) (hB : B ≤ w.heap.size) (hv : RowI w B v xs) (hl : xs.length ≤ 1048576) :
    Calls Tryz.prog 155 #[v, .func (.func 118) #[] #[]] w fun e w' => e = .returned (.bool (xs.all isVal)) ∧ Below w.heap.size w w' := by
  obtain ⟨a, cap, rfl⟩ := hv.len
  obtain ⟨N, HN⟩ : ∃ N, Hid (xs.length = N) := ⟨_, (rfl : xs.length = xs.length)⟩
  have H : Hid (RowI w B (.slice a N cap) xs) := by rw [← HN.out]; exact hv
  rw [HN.out] at hl ⊢
  clear hv
  go_enter Tryz.func155, Tryz.ntmps155
  go_wp2
  go_loopw [9] (fun i wr => ∃ k : Nat, k ≤ N ∧ i = .int .i64 (k : Int) ∧ Hid (∀ j, (hj : j < xs.length) → j < k → isVal xs[j] = true) ∧ Below w.heap.size w wr) (fun i _ => N - (intOf i).toNat)
  case atStart => exact ⟨0, Nat.zero_le _, rfl, fun j _ hj => by omega, Below.refl _ _⟩
  case round =>
    obtain ⟨k, hk, rfl, HK, hbw⟩ := hrel
    by_cases hlt : k < N
    · have hk1 : (k : Int) < (N : Int) := by omega
      have hk0 : (0 : Int) ≤ (k : Int) := by omega
      have hkl : k < xs.length := by have := HN.out; omega
      obtain ⟨b, off, rfl, hb, c0⟩ := H.out.at k hkl
      obtain ⟨q, hq⟩ : ∃ q, Hid (xs[k] = q) := ⟨_, (rfl : xs[k] = xs[k])⟩
      have d0 := (hbw.cell (p := ⟨b, off + k, none⟩) (by show b < _; omega)).trans c0
      rw [hq.out] at d0
      clear c0
      have cV : Hid (∀ W, Calls Tryz.prog 118 #[.int .i64 q] W fun e w' => e = .returned (.bool (isVal q)) ∧ w' = W) := fun W => isValue_any q W
      cases hs : isVal q
      · have HF : Hid (xs.all isVal = false) := all_false hkl (by rw [hq.out]; exact hs)
        rw [hs] at cV
        go_wp2_with (go_at_call 118; refine Calls.mono (cV.out _) ?_; rintro e w1 ⟨rfl, h⟩; obtain rfl := h.symm)
        go_ret
        exact ⟨by rw [HF.out]; rfl, hbw⟩
      · have HK1 : Hid (∀ j, (hj : j < xs.length) → j < k + 1 → isVal xs[j] = true) := fun j hj hjk => by
          by_cases e : j = k
          · subst e
            rw [hq.out]
            exact hs
          · exact HK.out j hj (by omega)
        rw [hs] at cV
        go_wp2_with (go_at_call 118; refine Calls.mono (cV.out _) ?_; rintro e w1 ⟨rfl, h⟩; obtain rfl := h.symm)
        go_roundw
        case rel => exact ⟨k + 1, by omega, by go_num, HK1, hbw⟩
        case measure => simp [intOf]; omega
    · have HF : Hid (xs.all isVal = true) := all_true (fun j hj => HK.out j hj (by have := HN.out; omega))
      go_wp2
      go_ret
      exact ⟨by rw [HF.out]; rfl, hbw⟩
set_option maxHeartbeats 800000 in
theorem allStm_any (B : Nat) (v : Value) (xs : List Int) (w : World) (hB : B ≤ w.heap.size) (hv : RowI w B v xs) (hl : xs.length ≤ 1048576) :
    Calls Tryz.prog 155 #[v, .func (.func 164) #[] #[]] w fun e w' => e = .returned (.bool (xs.all isStm)) ∧ Below w.heap.size w w' := by
  obtain ⟨a, cap, rfl⟩ := hv.len
  obtain ⟨N, HN⟩ : ∃ N, Hid (xs.length = N) := ⟨_, (rfl : xs.length = xs.length)⟩
  have H : Hid (RowI w B (.slice a N cap) xs) := by rw [← HN.out]; exact hv
  rw [HN.out] at hl ⊢
  clear hv
  go_enter Tryz.func155, Tryz.ntmps155
  go_wp2
  go_loopw [9] (fun i wr => ∃ k : Nat, k ≤ N ∧ i = .int .i64 (k : Int) ∧ Hid (∀ j, (hj : j < xs.length) → j < k → isStm xs[j] = true) ∧ Below w.heap.size w wr) (fun i _ => N - (intOf i).toNat)
  case atStart => exact ⟨0, Nat.zero_le _, rfl, fun j _ hj => by omega, Below.refl _ _⟩
  case round =>
    obtain ⟨k, hk, rfl, HK, hbw⟩ := hrel
    by_cases hlt : k < N
    · have hk1 : (k : Int) < (N : Int) := by omega
      have hk0 : (0 : Int) ≤ (k : Int) := by omega
      have hkl : k < xs.length := by have := HN.out; omega
      obtain ⟨b, off, rfl, hb, c0⟩ := H.out.at k hkl
      obtain ⟨q, hq⟩ : ∃ q, Hid (xs[k] = q) := ⟨_, (rfl : xs[k] = xs[k])⟩
      have d0 := (hbw.cell (p := ⟨b, off + k, none⟩) (by show b < _; omega)).trans c0
      rw [hq.out] at d0
      clear c0
      have cV : Hid (∀ W, Calls Tryz.prog 164 #[.int .i64 q] W fun e w' => e = .returned (.bool (isStm q)) ∧ w' = W) := fun W => isStatement_any q W
      cases hs : isStm q
      · have HF : Hid (xs.all isStm = false) := all_false hkl (by rw [hq.out]; exact hs)
        rw [hs] at cV
        go_wp2_with (go_at_call 164; refine Calls.mono (cV.out _) ?_; rintro e w1 ⟨rfl, h⟩; obtain rfl := h.symm)
        go_ret
        exact ⟨by rw [HF.out]; rfl, hbw⟩
      · have HK1 : Hid (∀ j, (hj : j < xs.length) → j < k + 1 → isStm xs[j] = true) := fun j hj hjk => by
          by_cases e : j = k
          · subst e
            rw [hq.out]
            exact hs
          · exact HK.out j hj (by omega)
        rw [hs] at cV
        go_wp2_with (go_at_call 164; refine Calls.mono (cV.out _) ?_; rintro e w1 ⟨rfl, h⟩; obtain rfl := h.symm)
        go_roundw
        case rel => exact ⟨k + 1, by omega, by go_num, HK1, hbw⟩
        case measure => simp [intOf]; omega
    · have HF : Hid (xs.all isStm = true) := all_true (fun j hj => HK.out j hj (by have := HN.out; omega))
      go_wp2
      go_ret
      exact ⟨by rw [HF.out]; rfl, hbw⟩

theorem has_no {xs : List Int} {c : Int} (h : ∀ j, (hj : j < xs.length) → ¬ c = xs[j]) : xs.contains c = false := by
  rw [← Bool.not_eq_true, List.contains_iff_mem]
  intro hm
  obtain ⟨j, hj, e⟩ := List.getElem_of_mem hm
  exact h j hj e.symm
theorem has_yes {xs : List Int} {c : Int} {k : Nat} (hk : k < xs.length) (h : c = xs[k]) : xs.contains c = true := by
  rw [List.contains_iff_mem, h]
  exact List.getElem_mem hk

set_option maxHeartbeats 800000 in
theorem index_any (B : Nat) (v : Value) (xs : List Int) (c : Int) (w : World) (hB : B ≤ w.heap.size) (hv : RowI w B v xs) (hl : xs.length ≤ 1048576) :
    Calls Tryz.prog 134 #[v, .int .i64 c] w fun e w' => (∃ r : Int, e = .returned (.int .i64 r) ∧ (xs.contains c = true ∧ 0 ≤ r ∨ xs.contains c = false ∧ r = -1)) ∧ Below w.heap.size w w' := by
  obtain ⟨a, cap, rfl⟩ := hv.len
  obtain ⟨N, HN⟩ : ∃ N, Hid (xs.length = N) := ⟨_, (rfl : xs.length = xs.length)⟩
  have H : Hid (RowI w B (.slice a N cap) xs) := by rw [← HN.out]; exact hv
  rw [HN.out] at hl ⊢
  clear hv
  go_enter Tryz.func134, Tryz.ntmps134
  go_wp2
  go_loopw [8] (fun i wr => ∃ k : Nat, k ≤ N ∧ i = .int .i64 (k : Int) ∧ Hid (∀ j, (hj : j < xs.length) → j < k → ¬ c = xs[j]) ∧ Below w.heap.size w wr) (fun i _ => N - (intOf i).toNat)
  case atStart => exact ⟨0, Nat.zero_le _, rfl, fun j _ hj => by omega, Below.refl _ _⟩
  case round =>
    obtain ⟨k, hk, rfl, HK, hbw⟩ := hrel
    by_cases hlt : k < N
    · have hk1 : (k : Int) < (N : Int) := by omega
      have hk0 : (0 : Int) ≤ (k : Int) := by omega
      have hkl : k < xs.length := by have := HN.out; omega
      obtain ⟨b, off, rfl, hb, c0⟩ := H.out.at k hkl
      obtain ⟨q, hq⟩ : ∃ q, Hid (xs[k] = q) := ⟨_, (rfl : xs[k] = xs[k])⟩
      have d0 := (hbw.cell (p := ⟨b, off + k, none⟩) (by show b < _; omega)).trans c0
      rw [hq.out] at d0
      clear c0
      by_cases hs : c = q
      · have HF : Hid (xs.contains c = true) := has_yes hkl (by rw [hq.out]; exact hs)
        subst hs
        go_wp2
        go_ret
        exact ⟨⟨_, rfl, .inl ⟨HF.out, hk0⟩⟩, hbw⟩
      · have HK1 : Hid (∀ j, (hj : j < xs.length) → j < k + 1 → ¬ c = xs[j]) := fun j hj hjk => by
          by_cases e : j = k
          · subst e
            rw [hq.out]
            exact hs
          · exact HK.out j hj (by omega)
        have hb1 : (c == q) = false := by simpa using hs
        clear hs
        go_wp2
        go_roundw
        case rel => exact ⟨k + 1, by omega, by go_num, HK1, hbw⟩
        case measure => simp [intOf]; omega
    · have HF : Hid (xs.contains c = false) := has_no (fun j hj => HK.out j hj (by have := HN.out; omega))
      go_wp2
      go_ret
      exact ⟨⟨_, rfl, .inr ⟨HF.out, rfl⟩⟩, hbw⟩
theorem contains_any (B : Nat) (v : Value) (xs : List Int) (c : Int) (w : World) (hB : B ≤ w.heap.size) (hv : RowI w B v xs) (hl : xs.length ≤ 1048576) :
    Calls Tryz.prog 128 #[v, .int .i64 c] w fun e w' => e = .returned (.bool (xs.contains c)) ∧ Below w.heap.size w w' := by
  have cI : Hid (∀ W, Below w.heap.size w W → Calls Tryz.prog 134 #[v, .int .i64 c] W fun e w' => (∃ r : Int, e = .returned (.int .i64 r) ∧ (xs.contains c = true ∧ 0 ≤ r ∨ xs.contains c = false ∧ r = -1)) ∧ Below W.heap.size W w') := fun W hW => index_any B v xs c W (Nat.le_trans hB hW.size) (hv.keep (hW.mono hB)) hl
  clear hv hl
  go_enter Tryz.func128, Tryz.ntmps128
  go_wp2_with fail
  go_at_call 134
  refine Calls.mono (cI.out _ (Below.refl _ _)) ?_
  rintro e w1 ⟨⟨r, rfl, hr⟩, hb⟩
  rcases hr with ⟨h1, h2⟩ | ⟨h1, rfl⟩
  · have HE : Hid (xs.contains c = true) := h1
    clear h1 cI
    go_wp2
    go_ret
    exact ⟨by rw [HE.out]; rfl, hb⟩
  · have HE : Hid (xs.contains c = false) := h1
    clear h1 cI
    go_wp2
    go_ret
    exact ⟨by rw [HE.out]; rfl, hb⟩

end Go.Proofs.YtljphnjmeckpbaaGreat
