/-
  Chapter 4, in the program: places, kinds, rows of kinds, what the parts take.
  Chapter 4, in the program: nodes are types behind one interface. What partOf, saysRight and takes answer, type by type. Written by mkparts.py.
  Chapter 4, in the program: what the method takes answers, type by type. Written by mktakes.py.
  Chapter 4, in the program: the kinds of a node's kids.
-/
import Derived.Test.YtbanmldmdoedkaaGreatDoorRa
import Derived.Handy
import Derived.BigQuiet
import Derived.Deep.QuietTactic
import Derived.Deep.RegionHeld3
import Derived.Test.YtbanmldmdoedkaaGreatDoorNb
import Derived.Test.YtbanmldmdoedkaaGreatDoorPa
namespace Go.Proofs.YtbanmldmdoedkaaGreatDoor
open Go.RowKit

theorem isPlace_any (a : Option Addr) (N cap : Nat) (k : Int) (w : World) :
    Calls Tryz.prog 93 #[.slice a N cap, .int .i64 k] w fun e w' => e = .returned (.bool (isIn k 0 ((N : Int) - 1))) ∧ w' = w := by
  by_cases h0 : 0 ≤ k
  · by_cases h1 : k < (N : Int)
    · have HE : Hid (isIn k 0 ((N : Int) - 1) = true) := by show _ = _; simp [isIn]; omega
      go_enter Tryz.func93, Tryz.ntmps93
      go_wp2
      go_ret
      exact ⟨by rw [HE.out]; rfl, rfl⟩
    · have HE : Hid (isIn k 0 ((N : Int) - 1) = false) := by show _ = _; simp [isIn]; omega
      go_enter Tryz.func93, Tryz.ntmps93
      go_wp2
      go_ret
      exact ⟨by rw [HE.out]; rfl, rfl⟩
  · have HE : Hid (isIn k 0 ((N : Int) - 1) = false) := by show _ = _; simp [isIn]; omega
    go_enter Tryz.func93, Tryz.ntmps93
    go_wp2
    go_ret
    exact ⟨by rw [HE.out]; rfl, rfl⟩

theorem isValue_any (k : Int) (w : World) :
    Calls Tryz.prog 56 #[.int .i64 k] w fun e w' => e = .returned (.bool (isVal k)) ∧ w' = w := by
  by_cases h0 : 1 ≤ k
  · by_cases h1 : k ≤ 12
    · have HE : Hid (isVal k = true) := by show _ = _; simp [isVal, isIn]; omega
      go_enter Tryz.func56, Tryz.ntmps56
      go_wp2
      go_ret
      exact ⟨by rw [HE.out]; rfl, rfl⟩
    · have HE : Hid (isVal k = false) := by show _ = _; simp [isVal, isIn]; omega
      go_enter Tryz.func56, Tryz.ntmps56
      go_wp2
      go_ret
      exact ⟨by rw [HE.out]; rfl, rfl⟩
  · have HE : Hid (isVal k = false) := by show _ = _; simp [isVal, isIn]; omega
    go_enter Tryz.func56, Tryz.ntmps56
    go_wp2
    go_ret
    exact ⟨by rw [HE.out]; rfl, rfl⟩
theorem isStatement_any (k : Int) (w : World) :
    Calls Tryz.prog 246 #[.int .i64 k] w fun e w' => e = .returned (.bool (isStm k)) ∧ w' = w := by
  by_cases h0 : 13 ≤ k
  · by_cases h1 : k ≤ 19
    · have HE : Hid (isStm k = true) := by show _ = _; simp [isStm, isIn]; omega
      go_enter Tryz.func246, Tryz.ntmps246
      go_wp2
      go_ret
      exact ⟨by rw [HE.out]; rfl, rfl⟩
    · have HE : Hid (isStm k = false) := by show _ = _; simp [isStm, isIn]; omega
      go_enter Tryz.func246, Tryz.ntmps246
      go_wp2
      go_ret
      exact ⟨by rw [HE.out]; rfl, rfl⟩
  · have HE : Hid (isStm k = false) := by show _ = _; simp [isStm, isIn]; omega
    go_enter Tryz.func246, Tryz.ntmps246
    go_wp2
    go_ret
    exact ⟨by rw [HE.out]; rfl, rfl⟩

theorem all_false {xs : List Int} {p : Int → Bool} {k : Nat} (hk : k < xs.length) (h : p xs[k] = false) : xs.all p = false := by
  rw [← Bool.not_eq_true, List.all_eq_true]
  intro hh
  have := hh _ (List.getElem_mem hk)
  rw [h] at this
  cases this
theorem all_true {xs : List Int} {p : Int → Bool} (h : ∀ j, (hj : j < xs.length) → p xs[j] = true) : xs.all p = true := by
  rw [List.all_eq_true]
  intro x hx
  obtain ⟨j, hj, rfl⟩ := List.getElem_of_mem hx
  exact h j hj

set_option maxHeartbeats 800000 in
theorem allVal_any (B : Nat) (v : Value) (xs : List Int) (w : World) (hB : B ≤ w.heap.size) (hv : RowI w B v xs) (hl : xs.length ≤ 1048576) :
    Calls Tryz.prog 237 #[v, .func (.func 56) #[] #[]] w fun e w' => e = .returned (.bool (xs.all isVal)) ∧ Below w.heap.size w w' := by
  obtain ⟨a, cap, rfl⟩ := hv.len
  obtain ⟨N, HN⟩ : ∃ N, Hid (xs.length = N) := ⟨_, (rfl : xs.length = xs.length)⟩
  have H : Hid (RowI w B (.slice a N cap) xs) := by rw [← HN.out]; exact hv
  rw [HN.out] at hl ⊢
  clear hv
  go_enter Tryz.func237, Tryz.ntmps237
  go_wp2
  go_loopw [9] (fun i wr => ∃ k : Nat, k ≤ N ∧ i = .int .i64 (k : Int) ∧ Hid (∀ j, (hj : j < xs.length) → j < k → isVal xs[j] = true) ∧ Below w.heap.size w wr) (fun i _ => N - (intOf i).toNat)
  case atStart => exact ⟨0, Nat.zero_le _, rfl, fun j _ hj => by omega, Below.refl _ _⟩
  case round =>
    obtain ⟨k, hk, rfl, HK, hbw⟩ := hrel
    by_cases hlt : k < N
    · have hk1 : (k : Int) < (N : Int) := by omega
      have hk0 : (0 : Int) ≤ (k : Int) := by omega
      have hkl : k < xs.length := by have := HN.out; omega
      obtain ⟨b, off, rfl, hb, c0⟩ := H.out.at k hkl
      obtain ⟨q, hq⟩ : ∃ q, Hid (xs[k] = q) := ⟨_, (rfl : xs[k] = xs[k])⟩
      have d0 := (hbw.cell (p := ⟨b, off + k, none⟩) (by show b < _; omega)).trans c0
      rw [hq.out] at d0
      clear c0
      have cV : Hid (∀ W, Calls Tryz.prog 56 #[.int .i64 q] W fun e w' => e = .returned (.bool (isVal q)) ∧ w' = W) := fun W => isValue_any q W
      cases hs : isVal q
      · have HF : Hid (xs.all isVal = false) := all_false hkl (by rw [hq.out]; exact hs)
        rw [hs] at cV
        go_wp2_with (go_at_call 56; refine Calls.mono (cV.out _) ?_; rintro e w1 ⟨rfl, h⟩; obtain rfl := h.symm)
        go_ret
        exact ⟨by rw [HF.out]; rfl, hbw⟩
      · have HK1 : Hid (∀ j, (hj : j < xs.length) → j < k + 1 → isVal xs[j] = true) := fun j hj hjk => by
          by_cases e : j = k
          · subst e
            rw [hq.out]
            exact hs
          · exact HK.out j hj (by omega)
        rw [hs] at cV
        go_wp2_with (go_at_call 56; refine Calls.mono (cV.out _) ?_; rintro e w1 ⟨rfl, h⟩; obtain rfl := h.symm)
        go_roundw
        case rel => exact ⟨k + 1, by omega, by go_num, HK1, hbw⟩
        case measure => simp [intOf]; omega
    · have HF : Hid (xs.all isVal = true) := all_true (fun j hj => HK.out j hj (by have := HN.out; omega))
      go_wp2
      go_ret
      exact ⟨by rw [HF.out]; rfl, hbw⟩
set_option maxHeartbeats 800000 in
theorem allStm_any (B : Nat) (v : Value) (xs : List Int) (w : World) (hB : B ≤ w.heap.size) (hv : RowI w B v xs) (hl : xs.length ≤ 1048576) :
    Calls Tryz.prog 237 #[v, .func (.func 246) #[] #[]] w fun e w' => e = .returned (.bool (xs.all isStm)) ∧ Below w.heap.size w w' := by
  obtain ⟨a, cap, rfl⟩ := hv.len
  obtain ⟨N, HN⟩ : ∃ N, Hid (xs.length = N) := ⟨_, (rfl : xs.length = xs.length)⟩
  have H : Hid (RowI w B (.slice a N cap) xs) := by rw [← HN.out]; exact hv
  rw [HN.out] at hl ⊢
  clear hv
  go_enter Tryz.func237, Tryz.ntmps237
  go_wp2
  go_loopw [9] (fun i wr => ∃ k : Nat, k ≤ N ∧ i = .int .i64 (k : Int) ∧ Hid (∀ j, (hj : j < xs.length) → j < k → isStm xs[j] = true) ∧ Below w.heap.size w wr) (fun i _ => N - (intOf i).toNat)
  case atStart => exact ⟨0, Nat.zero_le _, rfl, fun j _ hj => by omega, Below.refl _ _⟩
  case round =>
    obtain ⟨k, hk, rfl, HK, hbw⟩ := hrel
    by_cases hlt : k < N
    · have hk1 : (k : Int) < (N : Int) := by omega
      have hk0 : (0 : Int) ≤ (k : Int) := by omega
      have hkl : k < xs.length := by have := HN.out; omega
      obtain ⟨b, off, rfl, hb, c0⟩ := H.out.at k hkl
      obtain ⟨q, hq⟩ : ∃ q, Hid (xs[k] = q) := ⟨_, (rfl : xs[k] = xs[k])⟩
      have d0 := (hbw.cell (p := ⟨b, off + k, none⟩) (by show b < _; omega)).trans c0
      rw [hq.out] at d0
      clear c0
      have cV : Hid (∀ W, Calls Tryz.prog 246 #[.int .i64 q] W fun e w' => e = .returned (.bool (isStm q)) ∧ w' = W) := fun W => isStatement_any q W
      cases hs : isStm q
      · have HF : Hid (xs.all isStm = false) := all_false hkl (by rw [hq.out]; exact hs)
        rw [hs] at cV
        go_wp2_with (go_at_call 246; refine Calls.mono (cV.out _) ?_; rintro e w1 ⟨rfl, h⟩; obtain rfl := h.symm)
        go_ret
        exact ⟨by rw [HF.out]; rfl, hbw⟩
      · have HK1 : Hid (∀ j, (hj : j < xs.length) → j < k + 1 → isStm xs[j] = true) := fun j hj hjk => by
          by_cases e : j = k
          · subst e
            rw [hq.out]
            exact hs
          · exact HK.out j hj (by omega)
        rw [hs] at cV
        go_wp2_with (go_at_call 246; refine Calls.mono (cV.out _) ?_; rintro e w1 ⟨rfl, h⟩; obtain rfl := h.symm)
        go_roundw
        case rel => exact ⟨k + 1, by omega, by go_num, HK1, hbw⟩
        case measure => simp [intOf]; omega
    · have HF : Hid (xs.all isStm = true) := all_true (fun j hj => HK.out j hj (by have := HN.out; omega))
      go_wp2
      go_ret
      exact ⟨by rw [HF.out]; rfl, hbw⟩

theorem has_no {xs : List Int} {c : Int} (h : ∀ j, (hj : j < xs.length) → ¬ c = xs[j]) : xs.contains c = false := by
  rw [← Bool.not_eq_true, List.contains_iff_mem]
  intro hm
  obtain ⟨j, hj, e⟩ := List.getElem_of_mem hm
  exact h j hj e.symm
theorem has_yes {xs : List Int} {c : Int} {k : Nat} (hk : k < xs.length) (h : c = xs[k]) : xs.contains c = true := by
  rw [List.contains_iff_mem, h]
  exact List.getElem_mem hk

set_option maxHeartbeats 800000 in
theorem index_any (B : Nat) (v : Value) (xs : List Int) (c : Int) (w : World) (hB : B ≤ w.heap.size) (hv : RowI w B v xs) (hl : xs.length ≤ 1048576) :
    Calls Tryz.prog 194 #[v, .int .i64 c] w fun e w' => (∃ r : Int, e = .returned (.int .i64 r) ∧ (xs.contains c = true ∧ 0 ≤ r ∨ xs.contains c = false ∧ r = -1)) ∧ Below w.heap.size w w' := by
  obtain ⟨a, cap, rfl⟩ := hv.len
  obtain ⟨N, HN⟩ : ∃ N, Hid (xs.length = N) := ⟨_, (rfl : xs.length = xs.length)⟩
  have H : Hid (RowI w B (.slice a N cap) xs) := by rw [← HN.out]; exact hv
  rw [HN.out] at hl ⊢
  clear hv
  go_enter Tryz.func194, Tryz.ntmps194
  go_wp2
  go_loopw [8] (fun i wr => ∃ k : Nat, k ≤ N ∧ i = .int .i64 (k : Int) ∧ Hid (∀ j, (hj : j < xs.length) → j < k → ¬ c = xs[j]) ∧ Below w.heap.size w wr) (fun i _ => N - (intOf i).toNat)
  case atStart => exact ⟨0, Nat.zero_le _, rfl, fun j _ hj => by omega, Below.refl _ _⟩
  case round =>
    obtain ⟨k, hk, rfl, HK, hbw⟩ := hrel
    by_cases hlt : k < N
    · have hk1 : (k : Int) < (N : Int) := by omega
      have hk0 : (0 : Int) ≤ (k : Int) := by omega
      have hkl : k < xs.length := by have := HN.out; omega
      obtain ⟨b, off, rfl, hb, c0⟩ := H.out.at k hkl
      obtain ⟨q, hq⟩ : ∃ q, Hid (xs[k] = q) := ⟨_, (rfl : xs[k] = xs[k])⟩
      have d0 := (hbw.cell (p := ⟨b, off + k, none⟩) (by show b < _; omega)).trans c0
      rw [hq.out] at d0
      clear c0
      by_cases hs : c = q
      · have HF : Hid (xs.contains c = true) := has_yes hkl (by rw [hq.out]; exact hs)
        subst hs
        go_wp2
        go_ret
        exact ⟨⟨_, rfl, .inl ⟨HF.out, hk0⟩⟩, hbw⟩
      · have HK1 : Hid (∀ j, (hj : j < xs.length) → j < k + 1 → ¬ c = xs[j]) := fun j hj hjk => by
          by_cases e : j = k
          · subst e
            rw [hq.out]
            exact hs
          · exact HK.out j hj (by omega)
        have hb1 : (c == q) = false := by simpa using hs
        clear hs
        go_wp2
        go_roundw
        case rel => exact ⟨k + 1, by omega, by go_num, HK1, hbw⟩
        case measure => simp [intOf]; omega
    · have HF : Hid (xs.contains c = false) := has_no (fun j hj => HK.out j hj (by have := HN.out; omega))
      go_wp2
      go_ret
      exact ⟨⟨_, rfl, .inr ⟨HF.out, rfl⟩⟩, hbw⟩
theorem contains_any (B : Nat) (v : Value) (xs : List Int) (c : Int) (w : World) (hB : B ≤ w.heap.size) (hv : RowI w B v xs) (hl : xs.length ≤ 1048576) :
    Calls Tryz.prog 174 #[v, .int .i64 c] w fun e w' => e = .returned (.bool (xs.contains c)) ∧ Below w.heap.size w w' := by
  have cI : Hid (∀ W, Below w.heap.size w W → Calls Tryz.prog 194 #[v, .int .i64 c] W fun e w' => (∃ r : Int, e = .returned (.int .i64 r) ∧ (xs.contains c = true ∧ 0 ≤ r ∨ xs.contains c = false ∧ r = -1)) ∧ Below W.heap.size W w') := fun W hW => index_any B v xs c W (Nat.le_trans hB hW.size) (hv.keep (hW.mono hB)) hl
  clear hv hl
  go_enter Tryz.func174, Tryz.ntmps174
  go_wp2_with fail
  go_at_call 194
  refine Calls.mono (cI.out _ (Below.refl _ _)) ?_
  rintro e w1 ⟨⟨r, rfl, hr⟩, hb⟩
  rcases hr with ⟨h1, h2⟩ | ⟨h1, rfl⟩
  · have HE : Hid (xs.contains c = true) := h1
    clear h1 cI
    go_wp2
    go_ret
    exact ⟨by rw [HE.out]; rfl, hb⟩
  · have HE : Hid (xs.contains c = false) := h1
    clear h1 cI
    go_wp2
    go_ret
    exact ⟨by rw [HE.out]; rfl, hb⟩

end Go.Proofs.YtbanmldmdoedkaaGreatDoor

namespace Go.Proofs.YtbanmldmdoedkaaGreatDoor
open Go.RowKit

set_option maxRecDepth 100000 in
set_option maxHeartbeats 1600000 in
theorem partOf_number (kd nm : Int) (tx : ByteArray) (kv : Value) (w : World) (h : kd = 1) :
    Calls Tryz.prog 143 #[.agg #[.int .i64 kd, .int .i64 nm, .string tx, kv]] w fun e w' => e = .returned (.iface 185 (.agg #[.int .i64 kd, .int .i64 nm, .string tx, kv])) ∧ Below w.heap.size w w' := by
  subst h
  all_goals
    go_enter Tryz.func143, Tryz.ntmps143
    go_wp2
    go_ret
    exact ⟨rfl, by go_grown⟩

set_option maxRecDepth 100000 in
set_option maxHeartbeats 1600000 in
theorem partOf_use (kd nm : Int) (tx : ByteArray) (kv : Value) (w : World) (h : kd = 2 ∨ kd = 3 ∨ kd = 4 ∨ kd = 5 ∨ kd = 6) :
    Calls Tryz.prog 143 #[.agg #[.int .i64 kd, .int .i64 nm, .string tx, kv]] w fun e w' => e = .returned (.iface 186 (.agg #[.int .i64 kd, .int .i64 nm, .string tx, kv])) ∧ Below w.heap.size w w' := by
  rcases h with rfl | rfl | rfl | rfl | rfl
  all_goals
    go_enter Tryz.func143, Tryz.ntmps143
    go_wp2
    go_ret
    exact ⟨rfl, by go_grown⟩

set_option maxRecDepth 100000 in
set_option maxHeartbeats 1600000 in
theorem partOf_input (kd nm : Int) (tx : ByteArray) (kv : Value) (w : World) (h : kd = 7) :
    Calls Tryz.prog 143 #[.agg #[.int .i64 kd, .int .i64 nm, .string tx, kv]] w fun e w' => e = .returned (.iface 187 (.agg #[.int .i64 kd, .int .i64 nm, .string tx, kv])) ∧ Below w.heap.size w w' := by
  subst h
  all_goals
    go_enter Tryz.func143, Tryz.ntmps143
    go_wp2
    go_ret
    exact ⟨rfl, by go_grown⟩

set_option maxRecDepth 100000 in
set_option maxHeartbeats 1600000 in
theorem partOf_new (kd nm : Int) (tx : ByteArray) (kv : Value) (w : World) (h : kd = 8) :
    Calls Tryz.prog 143 #[.agg #[.int .i64 kd, .int .i64 nm, .string tx, kv]] w fun e w' => e = .returned (.iface 188 (.agg #[.int .i64 kd, .int .i64 nm, .string tx, kv])) ∧ Below w.heap.size w w' := by
  subst h
  all_goals
    go_enter Tryz.func143, Tryz.ntmps143
    go_wp2
    go_ret
    exact ⟨rfl, by go_grown⟩

set_option maxRecDepth 100000 in
set_option maxHeartbeats 1600000 in
theorem partOf_pair (kd nm : Int) (tx : ByteArray) (kv : Value) (w : World) (h : kd = 9 ∨ kd = 10 ∨ kd = 11) :
    Calls Tryz.prog 143 #[.agg #[.int .i64 kd, .int .i64 nm, .string tx, kv]] w fun e w' => e = .returned (.iface 189 (.agg #[.int .i64 kd, .int .i64 nm, .string tx, kv])) ∧ Below w.heap.size w w' := by
  rcases h with rfl | rfl | rfl
  all_goals
    go_enter Tryz.func143, Tryz.ntmps143
    go_wp2
    go_ret
    exact ⟨rfl, by go_grown⟩

set_option maxRecDepth 100000 in
set_option maxHeartbeats 1600000 in
theorem partOf_call (kd nm : Int) (tx : ByteArray) (kv : Value) (w : World) (h : kd = 12) :
    Calls Tryz.prog 143 #[.agg #[.int .i64 kd, .int .i64 nm, .string tx, kv]] w fun e w' => e = .returned (.iface 190 (.agg #[.int .i64 kd, .int .i64 nm, .string tx, kv])) ∧ Below w.heap.size w w' := by
  subst h
  all_goals
    go_enter Tryz.func143, Tryz.ntmps143
    go_wp2
    go_ret
    exact ⟨rfl, by go_grown⟩

set_option maxRecDepth 100000 in
set_option maxHeartbeats 1600000 in
theorem partOf_hold (kd nm : Int) (tx : ByteArray) (kv : Value) (w : World) (h : kd = 13 ∨ kd = 14 ∨ kd = 15) :
    Calls Tryz.prog 143 #[.agg #[.int .i64 kd, .int .i64 nm, .string tx, kv]] w fun e w' => e = .returned (.iface 191 (.agg #[.int .i64 kd, .int .i64 nm, .string tx, kv])) ∧ Below w.heap.size w w' := by
  rcases h with rfl | rfl | rfl
  all_goals
    go_enter Tryz.func143, Tryz.ntmps143
    go_wp2
    go_ret
    exact ⟨rfl, by go_grown⟩

set_option maxRecDepth 100000 in
set_option maxHeartbeats 1600000 in
theorem partOf_if (kd nm : Int) (tx : ByteArray) (kv : Value) (w : World) (h : kd = 16) :
    Calls Tryz.prog 143 #[.agg #[.int .i64 kd, .int .i64 nm, .string tx, kv]] w fun e w' => e = .returned (.iface 192 (.agg #[.int .i64 kd, .int .i64 nm, .string tx, kv])) ∧ Below w.heap.size w w' := by
  subst h
  all_goals
    go_enter Tryz.func143, Tryz.ntmps143
    go_wp2
    go_ret
    exact ⟨rfl, by go_grown⟩

set_option maxRecDepth 100000 in
set_option maxHeartbeats 1600000 in
theorem partOf_while (kd nm : Int) (tx : ByteArray) (kv : Value) (w : World) (h : kd = 17) :
    Calls Tryz.prog 143 #[.agg #[.int .i64 kd, .int .i64 nm, .string tx, kv]] w fun e w' => e = .returned (.iface 193 (.agg #[.int .i64 kd, .int .i64 nm, .string tx, kv])) ∧ Below w.heap.size w w' := by
  subst h
  all_goals
    go_enter Tryz.func143, Tryz.ntmps143
    go_wp2
    go_ret
    exact ⟨rfl, by go_grown⟩

set_option maxRecDepth 100000 in
set_option maxHeartbeats 1600000 in
theorem partOf_print (kd nm : Int) (tx : ByteArray) (kv : Value) (w : World) (h : kd = 18) :
    Calls Tryz.prog 143 #[.agg #[.int .i64 kd, .int .i64 nm, .string tx, kv]] w fun e w' => e = .returned (.iface 194 (.agg #[.int .i64 kd, .int .i64 nm, .string tx, kv])) ∧ Below w.heap.size w w' := by
  subst h
  all_goals
    go_enter Tryz.func143, Tryz.ntmps143
    go_wp2
    go_ret
    exact ⟨rfl, by go_grown⟩

set_option maxRecDepth 100000 in
set_option maxHeartbeats 1600000 in
theorem partOf_do (kd nm : Int) (tx : ByteArray) (kv : Value) (w : World) (h : kd = 19) :
    Calls Tryz.prog 143 #[.agg #[.int .i64 kd, .int .i64 nm, .string tx, kv]] w fun e w' => e = .returned (.iface 195 (.agg #[.int .i64 kd, .int .i64 nm, .string tx, kv])) ∧ Below w.heap.size w w' := by
  subst h
  all_goals
    go_enter Tryz.func143, Tryz.ntmps143
    go_wp2
    go_ret
    exact ⟨rfl, by go_grown⟩

set_option maxRecDepth 100000 in
set_option maxHeartbeats 1600000 in
theorem partOf_block (kd nm : Int) (tx : ByteArray) (kv : Value) (w : World) (h : kd = 20) :
    Calls Tryz.prog 143 #[.agg #[.int .i64 kd, .int .i64 nm, .string tx, kv]] w fun e w' => e = .returned (.iface 196 (.agg #[.int .i64 kd, .int .i64 nm, .string tx, kv])) ∧ Below w.heap.size w w' := by
  subst h
  all_goals
    go_enter Tryz.func143, Tryz.ntmps143
    go_wp2
    go_ret
    exact ⟨rfl, by go_grown⟩

set_option maxRecDepth 100000 in
set_option maxHeartbeats 1600000 in
theorem partOf_none (kd nm : Int) (tx : ByteArray) (kv : Value) (w : World) (h : kd < 1 ∨ 20 < kd) :
    Calls Tryz.prog 143 #[.agg #[.int .i64 kd, .int .i64 nm, .string tx, kv]] w fun e w' => e = .returned .nilIface ∧ Below w.heap.size w w' := by
  have a1 : (kd == 1) = false := by simp; omega
  have a2 : (kd == 2) = false := by simp; omega
  have a3 : (kd == 3) = false := by simp; omega
  have a4 : (kd == 4) = false := by simp; omega
  have a5 : (kd == 5) = false := by simp; omega
  have a6 : (kd == 6) = false := by simp; omega
  have a7 : (kd == 7) = false := by simp; omega
  have a8 : (kd == 8) = false := by simp; omega
  have a9 : (kd == 9) = false := by simp; omega
  have a10 : (kd == 10) = false := by simp; omega
  have a11 : (kd == 11) = false := by simp; omega
  have a12 : (kd == 12) = false := by simp; omega
  have a13 : (kd == 13) = false := by simp; omega
  have a14 : (kd == 14) = false := by simp; omega
  have a15 : (kd == 15) = false := by simp; omega
  have a16 : (kd == 16) = false := by simp; omega
  have a17 : (kd == 17) = false := by simp; omega
  have a18 : (kd == 18) = false := by simp; omega
  have a19 : (kd == 19) = false := by simp; omega
  have a20 : (kd == 20) = false := by simp; omega
  clear h
  go_enter Tryz.func143, Tryz.ntmps143
  go_wp2
  go_ret
  exact ⟨rfl, by go_grown⟩

theorem as_same {P : Program} {a xT : TypeId} {fs : Array Field} (hu : P.underlying a = some (.struct fs)) (v : Value) (w : World) : (Instr.typeAssert (.iface a v) xT a true).run P w = .ok (.tuple #[v, .bool true]) w := by
  simp [Instr.typeAssert, run_underlying hu]
theorem as_other {P : Program} {t a xT : TypeId} {z : Value} {fs : Array Field} (hu : P.underlying a = some (.struct fs)) (hne : t ≠ a) (hz : (P.info? a).map (·.zero) = some (some z)) (v : Value) (w : World) : (Instr.typeAssert (.iface t v) xT a true).run P w = .ok (.tuple #[z, .bool false]) w := by
  obtain ⟨j, hj, hz'⟩ := Option.map_eq_some_iff.1 hz
  simp [Instr.typeAssert, run_underlying hu, hne, zeroValue, typeInfo, hj, hz']

/-- What saysRight asks. -/
def saysNum (nm : Int) (tx : ByteArray) : Bool := isIn nm 0 1000000000 && decide (tx.size = 0)
def saysName (nm : Int) (tx : ByteArray) : Bool := decide (nm = 0) && nameOk tx
def saysNone (nm : Int) (tx : ByteArray) : Bool := decide (nm = 0) && decide (tx.size = 0)
theorem empty_listB : (⟨#[]⟩ : ByteArray).toList = [] := by rw [ByteArray.toList_eq]
theorem text_none {tx : ByteArray} (h : tx.size = 0) : tx = ⟨#[]⟩ := by
  cases tx with | mk d => simp [ByteArray.size] at h; simp [h]
theorem text_some {tx : ByteArray} (h : ¬ tx.size = 0) : (tx.toList == []) = false := by
  rw [ByteArray.toList_eq, beq_eq_false_iff_ne]
  intro e
  exact h (by rw [(show tx.size = tx.data.toList.length from rfl), e]; rfl)

set_option maxRecDepth 100000 in
set_option maxHeartbeats 1600000 in
theorem says_number (kd nm : Int) (tx : ByteArray) (kv : Value) (w : World) :
    Calls Tryz.prog 144 #[.iface 185 (.agg #[.int .i64 kd, .int .i64 nm, .string tx, kv]), .agg #[.int .i64 kd, .int .i64 nm, .string tx, kv]] w fun e w' => e = .returned (.bool (saysNum nm tx)) ∧ Below w.heap.size w w' := by
  have as_number : ∀ (v : Value) (W : World), (Instr.typeAssert (.iface 185 v) 165 185 true).run Tryz.prog W = .ok (.tuple #[v, .bool true]) W := fun v W => as_same Tryz.underlying185 v W
  have as_use : ∀ (v : Value) (W : World), (Instr.typeAssert (.iface 185 v) 165 186 true).run Tryz.prog W = .ok (.tuple #[.agg #[.int .i64 0, .int .i64 0, .string ByteArray.empty, .slice none 0 0], .bool false]) W := fun v W => as_other Tryz.underlying186 (by decide) (by kernel_rfl) v W
  have as_call : ∀ (v : Value) (W : World), (Instr.typeAssert (.iface 185 v) 165 190 true).run Tryz.prog W = .ok (.tuple #[.agg #[.int .i64 0, .int .i64 0, .string ByteArray.empty, .slice none 0 0], .bool false]) W := fun v W => as_other Tryz.underlying190 (by decide) (by kernel_rfl) v W
  have as_hold : ∀ (v : Value) (W : World), (Instr.typeAssert (.iface 185 v) 165 191 true).run Tryz.prog W = .ok (.tuple #[.agg #[.int .i64 0, .int .i64 0, .string ByteArray.empty, .slice none 0 0], .bool false]) W := fun v W => as_other Tryz.underlying191 (by decide) (by kernel_rfl) v W
  by_cases h0 : 0 ≤ nm
  · by_cases h1 : nm ≤ 1000000000
    · by_cases h2 : tx.size = 0
      · have HE : Hid (saysNum nm tx = true) := by show _ = _; simp [saysNum, isIn, h0, h1, h2]
        obtain rfl := text_none h2
        clear h2
        go_enter Tryz.func144, Tryz.ntmps144
        go_wp2
        go_ret
        exact ⟨by rw [HE.out]; rfl, by go_grown⟩
      · have HE : Hid (saysNum nm tx = false) := by show _ = _; simp [saysNum, h2]
        have e1 := text_some h2
        have e2 : (tx.toList == (⟨#[]⟩ : ByteArray).toList) = false := by rw [empty_listB]; exact e1
        clear h2
        go_enter Tryz.func144, Tryz.ntmps144
        go_wp2
        go_ret
        exact ⟨by rw [HE.out]; rfl, by go_grown⟩
    · have HE : Hid (saysNum nm tx = false) := by show _ = _; simp [saysNum, isIn, h1]
      go_enter Tryz.func144, Tryz.ntmps144
      go_wp2
      go_ret
      exact ⟨by rw [HE.out]; rfl, by go_grown⟩
  · have HE : Hid (saysNum nm tx = false) := by show _ = _; simp [saysNum, isIn, h0]
    go_enter Tryz.func144, Tryz.ntmps144
    go_wp2
    go_ret
    exact ⟨by rw [HE.out]; rfl, by go_grown⟩

set_option maxRecDepth 100000 in
set_option maxHeartbeats 1600000 in
theorem says_use (kd nm : Int) (tx : ByteArray) (kv : Value) (w : World) (ht : tx.size ≤ 1048576) :
    Calls Tryz.prog 144 #[.iface 186 (.agg #[.int .i64 kd, .int .i64 nm, .string tx, kv]), .agg #[.int .i64 kd, .int .i64 nm, .string tx, kv]] w fun e w' => e = .returned (.bool (saysName nm tx)) ∧ Below w.heap.size w w' := by
  have as_number : ∀ (v : Value) (W : World), (Instr.typeAssert (.iface 186 v) 165 185 true).run Tryz.prog W = .ok (.tuple #[.agg #[.int .i64 0, .int .i64 0, .string ByteArray.empty, .slice none 0 0], .bool false]) W := fun v W => as_other Tryz.underlying185 (by decide) (by kernel_rfl) v W
  have as_use : ∀ (v : Value) (W : World), (Instr.typeAssert (.iface 186 v) 165 186 true).run Tryz.prog W = .ok (.tuple #[v, .bool true]) W := fun v W => as_same Tryz.underlying186 v W
  have as_call : ∀ (v : Value) (W : World), (Instr.typeAssert (.iface 186 v) 165 190 true).run Tryz.prog W = .ok (.tuple #[.agg #[.int .i64 0, .int .i64 0, .string ByteArray.empty, .slice none 0 0], .bool false]) W := fun v W => as_other Tryz.underlying190 (by decide) (by kernel_rfl) v W
  have as_hold : ∀ (v : Value) (W : World), (Instr.typeAssert (.iface 186 v) 165 191 true).run Tryz.prog W = .ok (.tuple #[.agg #[.int .i64 0, .int .i64 0, .string ByteArray.empty, .slice none 0 0], .bool false]) W := fun v W => as_other Tryz.underlying191 (by decide) (by kernel_rfl) v W
  by_cases h0 : nm = 0
  · obtain ⟨ok, hok⟩ : ∃ r, Hid (nameOk tx = r) := ⟨_, (rfl : nameOk tx = nameOk tx)⟩
    have cO : Hid (∀ W, Calls Tryz.prog 129 #[.string tx] W fun e w' => e = .returned (.bool ok) ∧ Below W.heap.size W w') := fun W => by rw [← hok.out]; exact implNameOk_any tx W (Nat.le_trans ht (by unfold maxLen; omega))
    have HE : Hid (saysName nm tx = ok) := by show _ = _; simp [saysName, h0, hok.out]
    subst h0
    go_enter Tryz.func144, Tryz.ntmps144
    go_wp2_with (go_at_call 129; refine Calls.mono (cO.out _) ?_; rintro e w1 ⟨rfl, hb⟩)
    go_ret
    exact ⟨by rw [HE.out]; rfl, ((Below.refl _ _).alloc (Nat.le_refl _) _).trans (hb.mono (by simp))⟩
  · have HE : Hid (saysName nm tx = false) := by show _ = _; simp [saysName, h0]
    have e1 : (nm == 0) = false := by simpa using h0
    clear h0
    go_enter Tryz.func144, Tryz.ntmps144
    go_wp2
    go_ret
    exact ⟨by rw [HE.out]; rfl, by go_grown⟩

set_option maxRecDepth 100000 in
set_option maxHeartbeats 1600000 in
theorem says_input (kd nm : Int) (tx : ByteArray) (kv : Value) (w : World) :
    Calls Tryz.prog 144 #[.iface 187 (.agg #[.int .i64 kd, .int .i64 nm, .string tx, kv]), .agg #[.int .i64 kd, .int .i64 nm, .string tx, kv]] w fun e w' => e = .returned (.bool (saysNone nm tx)) ∧ Below w.heap.size w w' := by
  have as_number : ∀ (v : Value) (W : World), (Instr.typeAssert (.iface 187 v) 165 185 true).run Tryz.prog W = .ok (.tuple #[.agg #[.int .i64 0, .int .i64 0, .string ByteArray.empty, .slice none 0 0], .bool false]) W := fun v W => as_other Tryz.underlying185 (by decide) (by kernel_rfl) v W
  have as_use : ∀ (v : Value) (W : World), (Instr.typeAssert (.iface 187 v) 165 186 true).run Tryz.prog W = .ok (.tuple #[.agg #[.int .i64 0, .int .i64 0, .string ByteArray.empty, .slice none 0 0], .bool false]) W := fun v W => as_other Tryz.underlying186 (by decide) (by kernel_rfl) v W
  have as_call : ∀ (v : Value) (W : World), (Instr.typeAssert (.iface 187 v) 165 190 true).run Tryz.prog W = .ok (.tuple #[.agg #[.int .i64 0, .int .i64 0, .string ByteArray.empty, .slice none 0 0], .bool false]) W := fun v W => as_other Tryz.underlying190 (by decide) (by kernel_rfl) v W
  have as_hold : ∀ (v : Value) (W : World), (Instr.typeAssert (.iface 187 v) 165 191 true).run Tryz.prog W = .ok (.tuple #[.agg #[.int .i64 0, .int .i64 0, .string ByteArray.empty, .slice none 0 0], .bool false]) W := fun v W => as_other Tryz.underlying191 (by decide) (by kernel_rfl) v W
  by_cases h0 : nm = 0
  · by_cases h2 : tx.size = 0
    · have HE : Hid (saysNone nm tx = true) := by show _ = _; simp [saysNone, h0, h2]
      obtain rfl := text_none h2
      subst h0
      clear h2
      go_enter Tryz.func144, Tryz.ntmps144
      go_wp2
      go_ret
      exact ⟨by rw [HE.out]; rfl, by go_grown⟩
    · have HE : Hid (saysNone nm tx = false) := by show _ = _; simp [saysNone, h2]
      have e1 := text_some h2
      have e2 : (tx.toList == (⟨#[]⟩ : ByteArray).toList) = false := by rw [empty_listB]; exact e1
      subst h0
      clear h2
      go_enter Tryz.func144, Tryz.ntmps144
      go_wp2
      go_ret
      exact ⟨by rw [HE.out]; rfl, by go_grown⟩
  · have HE : Hid (saysNone nm tx = false) := by show _ = _; simp [saysNone, h0]
    have e1 : (nm == 0) = false := by simpa using h0
    clear h0
    go_enter Tryz.func144, Tryz.ntmps144
    go_wp2
    go_ret
    exact ⟨by rw [HE.out]; rfl, by go_grown⟩

set_option maxRecDepth 100000 in
set_option maxHeartbeats 1600000 in
theorem says_new (kd nm : Int) (tx : ByteArray) (kv : Value) (w : World) :
    Calls Tryz.prog 144 #[.iface 188 (.agg #[.int .i64 kd, .int .i64 nm, .string tx, kv]), .agg #[.int .i64 kd, .int .i64 nm, .string tx, kv]] w fun e w' => e = .returned (.bool (saysNone nm tx)) ∧ Below w.heap.size w w' := by
  have as_number : ∀ (v : Value) (W : World), (Instr.typeAssert (.iface 188 v) 165 185 true).run Tryz.prog W = .ok (.tuple #[.agg #[.int .i64 0, .int .i64 0, .string ByteArray.empty, .slice none 0 0], .bool false]) W := fun v W => as_other Tryz.underlying185 (by decide) (by kernel_rfl) v W
  have as_use : ∀ (v : Value) (W : World), (Instr.typeAssert (.iface 188 v) 165 186 true).run Tryz.prog W = .ok (.tuple #[.agg #[.int .i64 0, .int .i64 0, .string ByteArray.empty, .slice none 0 0], .bool false]) W := fun v W => as_other Tryz.underlying186 (by decide) (by kernel_rfl) v W
  have as_call : ∀ (v : Value) (W : World), (Instr.typeAssert (.iface 188 v) 165 190 true).run Tryz.prog W = .ok (.tuple #[.agg #[.int .i64 0, .int .i64 0, .string ByteArray.empty, .slice none 0 0], .bool false]) W := fun v W => as_other Tryz.underlying190 (by decide) (by kernel_rfl) v W
  have as_hold : ∀ (v : Value) (W : World), (Instr.typeAssert (.iface 188 v) 165 191 true).run Tryz.prog W = .ok (.tuple #[.agg #[.int .i64 0, .int .i64 0, .string ByteArray.empty, .slice none 0 0], .bool false]) W := fun v W => as_other Tryz.underlying191 (by decide) (by kernel_rfl) v W
  by_cases h0 : nm = 0
  · by_cases h2 : tx.size = 0
    · have HE : Hid (saysNone nm tx = true) := by show _ = _; simp [saysNone, h0, h2]
      obtain rfl := text_none h2
      subst h0
      clear h2
      go_enter Tryz.func144, Tryz.ntmps144
      go_wp2
      go_ret
      exact ⟨by rw [HE.out]; rfl, by go_grown⟩
    · have HE : Hid (saysNone nm tx = false) := by show _ = _; simp [saysNone, h2]
      have e1 := text_some h2
      have e2 : (tx.toList == (⟨#[]⟩ : ByteArray).toList) = false := by rw [empty_listB]; exact e1
      subst h0
      clear h2
      go_enter Tryz.func144, Tryz.ntmps144
      go_wp2
      go_ret
      exact ⟨by rw [HE.out]; rfl, by go_grown⟩
  · have HE : Hid (saysNone nm tx = false) := by show _ = _; simp [saysNone, h0]
    have e1 : (nm == 0) = false := by simpa using h0
    clear h0
    go_enter Tryz.func144, Tryz.ntmps144
    go_wp2
    go_ret
    exact ⟨by rw [HE.out]; rfl, by go_grown⟩

set_option maxRecDepth 100000 in
set_option maxHeartbeats 1600000 in
theorem says_pair (kd nm : Int) (tx : ByteArray) (kv : Value) (w : World) :
    Calls Tryz.prog 144 #[.iface 189 (.agg #[.int .i64 kd, .int .i64 nm, .string tx, kv]), .agg #[.int .i64 kd, .int .i64 nm, .string tx, kv]] w fun e w' => e = .returned (.bool (saysNone nm tx)) ∧ Below w.heap.size w w' := by
  have as_number : ∀ (v : Value) (W : World), (Instr.typeAssert (.iface 189 v) 165 185 true).run Tryz.prog W = .ok (.tuple #[.agg #[.int .i64 0, .int .i64 0, .string ByteArray.empty, .slice none 0 0], .bool false]) W := fun v W => as_other Tryz.underlying185 (by decide) (by kernel_rfl) v W
  have as_use : ∀ (v : Value) (W : World), (Instr.typeAssert (.iface 189 v) 165 186 true).run Tryz.prog W = .ok (.tuple #[.agg #[.int .i64 0, .int .i64 0, .string ByteArray.empty, .slice none 0 0], .bool false]) W := fun v W => as_other Tryz.underlying186 (by decide) (by kernel_rfl) v W
  have as_call : ∀ (v : Value) (W : World), (Instr.typeAssert (.iface 189 v) 165 190 true).run Tryz.prog W = .ok (.tuple #[.agg #[.int .i64 0, .int .i64 0, .string ByteArray.empty, .slice none 0 0], .bool false]) W := fun v W => as_other Tryz.underlying190 (by decide) (by kernel_rfl) v W
  have as_hold : ∀ (v : Value) (W : World), (Instr.typeAssert (.iface 189 v) 165 191 true).run Tryz.prog W = .ok (.tuple #[.agg #[.int .i64 0, .int .i64 0, .string ByteArray.empty, .slice none 0 0], .bool false]) W := fun v W => as_other Tryz.underlying191 (by decide) (by kernel_rfl) v W
  by_cases h0 : nm = 0
  · by_cases h2 : tx.size = 0
    · have HE : Hid (saysNone nm tx = true) := by show _ = _; simp [saysNone, h0, h2]
      obtain rfl := text_none h2
      subst h0
      clear h2
      go_enter Tryz.func144, Tryz.ntmps144
      go_wp2
      go_ret
      exact ⟨by rw [HE.out]; rfl, by go_grown⟩
    · have HE : Hid (saysNone nm tx = false) := by show _ = _; simp [saysNone, h2]
      have e1 := text_some h2
      have e2 : (tx.toList == (⟨#[]⟩ : ByteArray).toList) = false := by rw [empty_listB]; exact e1
      subst h0
      clear h2
      go_enter Tryz.func144, Tryz.ntmps144
      go_wp2
      go_ret
      exact ⟨by rw [HE.out]; rfl, by go_grown⟩
  · have HE : Hid (saysNone nm tx = false) := by show _ = _; simp [saysNone, h0]
    have e1 : (nm == 0) = false := by simpa using h0
    clear h0
    go_enter Tryz.func144, Tryz.ntmps144
    go_wp2
    go_ret
    exact ⟨by rw [HE.out]; rfl, by go_grown⟩

set_option maxRecDepth 100000 in
set_option maxHeartbeats 1600000 in
theorem says_call (kd nm : Int) (tx : ByteArray) (kv : Value) (w : World) (ht : tx.size ≤ 1048576) :
    Calls Tryz.prog 144 #[.iface 190 (.agg #[.int .i64 kd, .int .i64 nm, .string tx, kv]), .agg #[.int .i64 kd, .int .i64 nm, .string tx, kv]] w fun e w' => e = .returned (.bool (saysName nm tx)) ∧ Below w.heap.size w w' := by
  have as_number : ∀ (v : Value) (W : World), (Instr.typeAssert (.iface 190 v) 165 185 true).run Tryz.prog W = .ok (.tuple #[.agg #[.int .i64 0, .int .i64 0, .string ByteArray.empty, .slice none 0 0], .bool false]) W := fun v W => as_other Tryz.underlying185 (by decide) (by kernel_rfl) v W
  have as_use : ∀ (v : Value) (W : World), (Instr.typeAssert (.iface 190 v) 165 186 true).run Tryz.prog W = .ok (.tuple #[.agg #[.int .i64 0, .int .i64 0, .string ByteArray.empty, .slice none 0 0], .bool false]) W := fun v W => as_other Tryz.underlying186 (by decide) (by kernel_rfl) v W
  have as_call : ∀ (v : Value) (W : World), (Instr.typeAssert (.iface 190 v) 165 190 true).run Tryz.prog W = .ok (.tuple #[v, .bool true]) W := fun v W => as_same Tryz.underlying190 v W
  have as_hold : ∀ (v : Value) (W : World), (Instr.typeAssert (.iface 190 v) 165 191 true).run Tryz.prog W = .ok (.tuple #[.agg #[.int .i64 0, .int .i64 0, .string ByteArray.empty, .slice none 0 0], .bool false]) W := fun v W => as_other Tryz.underlying191 (by decide) (by kernel_rfl) v W
  by_cases h0 : nm = 0
  · obtain ⟨ok, hok⟩ : ∃ r, Hid (nameOk tx = r) := ⟨_, (rfl : nameOk tx = nameOk tx)⟩
    have cO : Hid (∀ W, Calls Tryz.prog 129 #[.string tx] W fun e w' => e = .returned (.bool ok) ∧ Below W.heap.size W w') := fun W => by rw [← hok.out]; exact implNameOk_any tx W (Nat.le_trans ht (by unfold maxLen; omega))
    have HE : Hid (saysName nm tx = ok) := by show _ = _; simp [saysName, h0, hok.out]
    subst h0
    go_enter Tryz.func144, Tryz.ntmps144
    go_wp2_with (go_at_call 129; refine Calls.mono (cO.out _) ?_; rintro e w1 ⟨rfl, hb⟩)
    go_ret
    exact ⟨by rw [HE.out]; rfl, ((Below.refl _ _).alloc (Nat.le_refl _) _).trans (hb.mono (by simp))⟩
  · have HE : Hid (saysName nm tx = false) := by show _ = _; simp [saysName, h0]
    have e1 : (nm == 0) = false := by simpa using h0
    clear h0
    go_enter Tryz.func144, Tryz.ntmps144
    go_wp2
    go_ret
    exact ⟨by rw [HE.out]; rfl, by go_grown⟩

set_option maxRecDepth 100000 in
set_option maxHeartbeats 1600000 in
theorem says_hold (kd nm : Int) (tx : ByteArray) (kv : Value) (w : World) (ht : tx.size ≤ 1048576) :
    Calls Tryz.prog 144 #[.iface 191 (.agg #[.int .i64 kd, .int .i64 nm, .string tx, kv]), .agg #[.int .i64 kd, .int .i64 nm, .string tx, kv]] w fun e w' => e = .returned (.bool (saysName nm tx)) ∧ Below w.heap.size w w' := by
  have as_number : ∀ (v : Value) (W : World), (Instr.typeAssert (.iface 191 v) 165 185 true).run Tryz.prog W = .ok (.tuple #[.agg #[.int .i64 0, .int .i64 0, .string ByteArray.empty, .slice none 0 0], .bool false]) W := fun v W => as_other Tryz.underlying185 (by decide) (by kernel_rfl) v W
  have as_use : ∀ (v : Value) (W : World), (Instr.typeAssert (.iface 191 v) 165 186 true).run Tryz.prog W = .ok (.tuple #[.agg #[.int .i64 0, .int .i64 0, .string ByteArray.empty, .slice none 0 0], .bool false]) W := fun v W => as_other Tryz.underlying186 (by decide) (by kernel_rfl) v W
  have as_call : ∀ (v : Value) (W : World), (Instr.typeAssert (.iface 191 v) 165 190 true).run Tryz.prog W = .ok (.tuple #[.agg #[.int .i64 0, .int .i64 0, .string ByteArray.empty, .slice none 0 0], .bool false]) W := fun v W => as_other Tryz.underlying190 (by decide) (by kernel_rfl) v W
  have as_hold : ∀ (v : Value) (W : World), (Instr.typeAssert (.iface 191 v) 165 191 true).run Tryz.prog W = .ok (.tuple #[v, .bool true]) W := fun v W => as_same Tryz.underlying191 v W
  by_cases h0 : nm = 0
  · obtain ⟨ok, hok⟩ : ∃ r, Hid (nameOk tx = r) := ⟨_, (rfl : nameOk tx = nameOk tx)⟩
    have cO : Hid (∀ W, Calls Tryz.prog 129 #[.string tx] W fun e w' => e = .returned (.bool ok) ∧ Below W.heap.size W w') := fun W => by rw [← hok.out]; exact implNameOk_any tx W (Nat.le_trans ht (by unfold maxLen; omega))
    have HE : Hid (saysName nm tx = ok) := by show _ = _; simp [saysName, h0, hok.out]
    subst h0
    go_enter Tryz.func144, Tryz.ntmps144
    go_wp2_with (go_at_call 129; refine Calls.mono (cO.out _) ?_; rintro e w1 ⟨rfl, hb⟩)
    go_ret
    exact ⟨by rw [HE.out]; rfl, ((Below.refl _ _).alloc (Nat.le_refl _) _).trans (hb.mono (by simp))⟩
  · have HE : Hid (saysName nm tx = false) := by show _ = _; simp [saysName, h0]
    have e1 : (nm == 0) = false := by simpa using h0
    clear h0
    go_enter Tryz.func144, Tryz.ntmps144
    go_wp2
    go_ret
    exact ⟨by rw [HE.out]; rfl, by go_grown⟩

set_option maxRecDepth 100000 in
set_option maxHeartbeats 1600000 in
theorem says_if (kd nm : Int) (tx : ByteArray) (kv : Value) (w : World) :
    Calls Tryz.prog 144 #[.iface 192 (.agg #[.int .i64 kd, .int .i64 nm, .string tx, kv]), .agg #[.int .i64 kd, .int .i64 nm, .string tx, kv]] w fun e w' => e = .returned (.bool (saysNone nm tx)) ∧ Below w.heap.size w w' := by
  have as_number : ∀ (v : Value) (W : World), (Instr.typeAssert (.iface 192 v) 165 185 true).run Tryz.prog W = .ok (.tuple #[.agg #[.int .i64 0, .int .i64 0, .string ByteArray.empty, .slice none 0 0], .bool false]) W := fun v W => as_other Tryz.underlying185 (by decide) (by kernel_rfl) v W
  have as_use : ∀ (v : Value) (W : World), (Instr.typeAssert (.iface 192 v) 165 186 true).run Tryz.prog W = .ok (.tuple #[.agg #[.int .i64 0, .int .i64 0, .string ByteArray.empty, .slice none 0 0], .bool false]) W := fun v W => as_other Tryz.underlying186 (by decide) (by kernel_rfl) v W
  have as_call : ∀ (v : Value) (W : World), (Instr.typeAssert (.iface 192 v) 165 190 true).run Tryz.prog W = .ok (.tuple #[.agg #[.int .i64 0, .int .i64 0, .string ByteArray.empty, .slice none 0 0], .bool false]) W := fun v W => as_other Tryz.underlying190 (by decide) (by kernel_rfl) v W
  have as_hold : ∀ (v : Value) (W : World), (Instr.typeAssert (.iface 192 v) 165 191 true).run Tryz.prog W = .ok (.tuple #[.agg #[.int .i64 0, .int .i64 0, .string ByteArray.empty, .slice none 0 0], .bool false]) W := fun v W => as_other Tryz.underlying191 (by decide) (by kernel_rfl) v W
  by_cases h0 : nm = 0
  · by_cases h2 : tx.size = 0
    · have HE : Hid (saysNone nm tx = true) := by show _ = _; simp [saysNone, h0, h2]
      obtain rfl := text_none h2
      subst h0
      clear h2
      go_enter Tryz.func144, Tryz.ntmps144
      go_wp2
      go_ret
      exact ⟨by rw [HE.out]; rfl, by go_grown⟩
    · have HE : Hid (saysNone nm tx = false) := by show _ = _; simp [saysNone, h2]
      have e1 := text_some h2
      have e2 : (tx.toList == (⟨#[]⟩ : ByteArray).toList) = false := by rw [empty_listB]; exact e1
      subst h0
      clear h2
      go_enter Tryz.func144, Tryz.ntmps144
      go_wp2
      go_ret
      exact ⟨by rw [HE.out]; rfl, by go_grown⟩
  · have HE : Hid (saysNone nm tx = false) := by show _ = _; simp [saysNone, h0]
    have e1 : (nm == 0) = false := by simpa using h0
    clear h0
    go_enter Tryz.func144, Tryz.ntmps144
    go_wp2
    go_ret
    exact ⟨by rw [HE.out]; rfl, by go_grown⟩

set_option maxRecDepth 100000 in
set_option maxHeartbeats 1600000 in
theorem says_while (kd nm : Int) (tx : ByteArray) (kv : Value) (w : World) :
    Calls Tryz.prog 144 #[.iface 193 (.agg #[.int .i64 kd, .int .i64 nm, .string tx, kv]), .agg #[.int .i64 kd, .int .i64 nm, .string tx, kv]] w fun e w' => e = .returned (.bool (saysNone nm tx)) ∧ Below w.heap.size w w' := by
  have as_number : ∀ (v : Value) (W : World), (Instr.typeAssert (.iface 193 v) 165 185 true).run Tryz.prog W = .ok (.tuple #[.agg #[.int .i64 0, .int .i64 0, .string ByteArray.empty, .slice none 0 0], .bool false]) W := fun v W => as_other Tryz.underlying185 (by decide) (by kernel_rfl) v W
  have as_use : ∀ (v : Value) (W : World), (Instr.typeAssert (.iface 193 v) 165 186 true).run Tryz.prog W = .ok (.tuple #[.agg #[.int .i64 0, .int .i64 0, .string ByteArray.empty, .slice none 0 0], .bool false]) W := fun v W => as_other Tryz.underlying186 (by decide) (by kernel_rfl) v W
  have as_call : ∀ (v : Value) (W : World), (Instr.typeAssert (.iface 193 v) 165 190 true).run Tryz.prog W = .ok (.tuple #[.agg #[.int .i64 0, .int .i64 0, .string ByteArray.empty, .slice none 0 0], .bool false]) W := fun v W => as_other Tryz.underlying190 (by decide) (by kernel_rfl) v W
  have as_hold : ∀ (v : Value) (W : World), (Instr.typeAssert (.iface 193 v) 165 191 true).run Tryz.prog W = .ok (.tuple #[.agg #[.int .i64 0, .int .i64 0, .string ByteArray.empty, .slice none 0 0], .bool false]) W := fun v W => as_other Tryz.underlying191 (by decide) (by kernel_rfl) v W
  by_cases h0 : nm = 0
  · by_cases h2 : tx.size = 0
    · have HE : Hid (saysNone nm tx = true) := by show _ = _; simp [saysNone, h0, h2]
      obtain rfl := text_none h2
      subst h0
      clear h2
      go_enter Tryz.func144, Tryz.ntmps144
      go_wp2
      go_ret
      exact ⟨by rw [HE.out]; rfl, by go_grown⟩
    · have HE : Hid (saysNone nm tx = false) := by show _ = _; simp [saysNone, h2]
      have e1 := text_some h2
      have e2 : (tx.toList == (⟨#[]⟩ : ByteArray).toList) = false := by rw [empty_listB]; exact e1
      subst h0
      clear h2
      go_enter Tryz.func144, Tryz.ntmps144
      go_wp2
      go_ret
      exact ⟨by rw [HE.out]; rfl, by go_grown⟩
  · have HE : Hid (saysNone nm tx = false) := by show _ = _; simp [saysNone, h0]
    have e1 : (nm == 0) = false := by simpa using h0
    clear h0
    go_enter Tryz.func144, Tryz.ntmps144
    go_wp2
    go_ret
    exact ⟨by rw [HE.out]; rfl, by go_grown⟩

set_option maxRecDepth 100000 in
set_option maxHeartbeats 1600000 in
theorem says_print (kd nm : Int) (tx : ByteArray) (kv : Value) (w : World) :
    Calls Tryz.prog 144 #[.iface 194 (.agg #[.int .i64 kd, .int .i64 nm, .string tx, kv]), .agg #[.int .i64 kd, .int .i64 nm, .string tx, kv]] w fun e w' => e = .returned (.bool (saysNone nm tx)) ∧ Below w.heap.size w w' := by
  have as_number : ∀ (v : Value) (W : World), (Instr.typeAssert (.iface 194 v) 165 185 true).run Tryz.prog W = .ok (.tuple #[.agg #[.int .i64 0, .int .i64 0, .string ByteArray.empty, .slice none 0 0], .bool false]) W := fun v W => as_other Tryz.underlying185 (by decide) (by kernel_rfl) v W
  have as_use : ∀ (v : Value) (W : World), (Instr.typeAssert (.iface 194 v) 165 186 true).run Tryz.prog W = .ok (.tuple #[.agg #[.int .i64 0, .int .i64 0, .string ByteArray.empty, .slice none 0 0], .bool false]) W := fun v W => as_other Tryz.underlying186 (by decide) (by kernel_rfl) v W
  have as_call : ∀ (v : Value) (W : World), (Instr.typeAssert (.iface 194 v) 165 190 true).run Tryz.prog W = .ok (.tuple #[.agg #[.int .i64 0, .int .i64 0, .string ByteArray.empty, .slice none 0 0], .bool false]) W := fun v W => as_other Tryz.underlying190 (by decide) (by kernel_rfl) v W
  have as_hold : ∀ (v : Value) (W : World), (Instr.typeAssert (.iface 194 v) 165 191 true).run Tryz.prog W = .ok (.tuple #[.agg #[.int .i64 0, .int .i64 0, .string ByteArray.empty, .slice none 0 0], .bool false]) W := fun v W => as_other Tryz.underlying191 (by decide) (by kernel_rfl) v W
  by_cases h0 : nm = 0
  · by_cases h2 : tx.size = 0
    · have HE : Hid (saysNone nm tx = true) := by show _ = _; simp [saysNone, h0, h2]
      obtain rfl := text_none h2
      subst h0
      clear h2
      go_enter Tryz.func144, Tryz.ntmps144
      go_wp2
      go_ret
      exact ⟨by rw [HE.out]; rfl, by go_grown⟩
    · have HE : Hid (saysNone nm tx = false) := by show _ = _; simp [saysNone, h2]
      have e1 := text_some h2
      have e2 : (tx.toList == (⟨#[]⟩ : ByteArray).toList) = false := by rw [empty_listB]; exact e1
      subst h0
      clear h2
      go_enter Tryz.func144, Tryz.ntmps144
      go_wp2
      go_ret
      exact ⟨by rw [HE.out]; rfl, by go_grown⟩
  · have HE : Hid (saysNone nm tx = false) := by show _ = _; simp [saysNone, h0]
    have e1 : (nm == 0) = false := by simpa using h0
    clear h0
    go_enter Tryz.func144, Tryz.ntmps144
    go_wp2
    go_ret
    exact ⟨by rw [HE.out]; rfl, by go_grown⟩

set_option maxRecDepth 100000 in
set_option maxHeartbeats 1600000 in
theorem says_do (kd nm : Int) (tx : ByteArray) (kv : Value) (w : World) :
    Calls Tryz.prog 144 #[.iface 195 (.agg #[.int .i64 kd, .int .i64 nm, .string tx, kv]), .agg #[.int .i64 kd, .int .i64 nm, .string tx, kv]] w fun e w' => e = .returned (.bool (saysNone nm tx)) ∧ Below w.heap.size w w' := by
  have as_number : ∀ (v : Value) (W : World), (Instr.typeAssert (.iface 195 v) 165 185 true).run Tryz.prog W = .ok (.tuple #[.agg #[.int .i64 0, .int .i64 0, .string ByteArray.empty, .slice none 0 0], .bool false]) W := fun v W => as_other Tryz.underlying185 (by decide) (by kernel_rfl) v W
  have as_use : ∀ (v : Value) (W : World), (Instr.typeAssert (.iface 195 v) 165 186 true).run Tryz.prog W = .ok (.tuple #[.agg #[.int .i64 0, .int .i64 0, .string ByteArray.empty, .slice none 0 0], .bool false]) W := fun v W => as_other Tryz.underlying186 (by decide) (by kernel_rfl) v W
  have as_call : ∀ (v : Value) (W : World), (Instr.typeAssert (.iface 195 v) 165 190 true).run Tryz.prog W = .ok (.tuple #[.agg #[.int .i64 0, .int .i64 0, .string ByteArray.empty, .slice none 0 0], .bool false]) W := fun v W => as_other Tryz.underlying190 (by decide) (by kernel_rfl) v W
  have as_hold : ∀ (v : Value) (W : World), (Instr.typeAssert (.iface 195 v) 165 191 true).run Tryz.prog W = .ok (.tuple #[.agg #[.int .i64 0, .int .i64 0, .string ByteArray.empty, .slice none 0 0], .bool false]) W := fun v W => as_other Tryz.underlying191 (by decide) (by kernel_rfl) v W
  by_cases h0 : nm = 0
  · by_cases h2 : tx.size = 0
    · have HE : Hid (saysNone nm tx = true) := by show _ = _; simp [saysNone, h0, h2]
      obtain rfl := text_none h2
      subst h0
      clear h2
      go_enter Tryz.func144, Tryz.ntmps144
      go_wp2
      go_ret
      exact ⟨by rw [HE.out]; rfl, by go_grown⟩
    · have HE : Hid (saysNone nm tx = false) := by show _ = _; simp [saysNone, h2]
      have e1 := text_some h2
      have e2 : (tx.toList == (⟨#[]⟩ : ByteArray).toList) = false := by rw [empty_listB]; exact e1
      subst h0
      clear h2
      go_enter Tryz.func144, Tryz.ntmps144
      go_wp2
      go_ret
      exact ⟨by rw [HE.out]; rfl, by go_grown⟩
  · have HE : Hid (saysNone nm tx = false) := by show _ = _; simp [saysNone, h0]
    have e1 : (nm == 0) = false := by simpa using h0
    clear h0
    go_enter Tryz.func144, Tryz.ntmps144
    go_wp2
    go_ret
    exact ⟨by rw [HE.out]; rfl, by go_grown⟩

set_option maxRecDepth 100000 in
set_option maxHeartbeats 1600000 in
theorem says_block (kd nm : Int) (tx : ByteArray) (kv : Value) (w : World) :
    Calls Tryz.prog 144 #[.iface 196 (.agg #[.int .i64 kd, .int .i64 nm, .string tx, kv]), .agg #[.int .i64 kd, .int .i64 nm, .string tx, kv]] w fun e w' => e = .returned (.bool (saysNone nm tx)) ∧ Below w.heap.size w w' := by
  have as_number : ∀ (v : Value) (W : World), (Instr.typeAssert (.iface 196 v) 165 185 true).run Tryz.prog W = .ok (.tuple #[.agg #[.int .i64 0, .int .i64 0, .string ByteArray.empty, .slice none 0 0], .bool false]) W := fun v W => as_other Tryz.underlying185 (by decide) (by kernel_rfl) v W
  have as_use : ∀ (v : Value) (W : World), (Instr.typeAssert (.iface 196 v) 165 186 true).run Tryz.prog W = .ok (.tuple #[.agg #[.int .i64 0, .int .i64 0, .string ByteArray.empty, .slice none 0 0], .bool false]) W := fun v W => as_other Tryz.underlying186 (by decide) (by kernel_rfl) v W
  have as_call : ∀ (v : Value) (W : World), (Instr.typeAssert (.iface 196 v) 165 190 true).run Tryz.prog W = .ok (.tuple #[.agg #[.int .i64 0, .int .i64 0, .string ByteArray.empty, .slice none 0 0], .bool false]) W := fun v W => as_other Tryz.underlying190 (by decide) (by kernel_rfl) v W
  have as_hold : ∀ (v : Value) (W : World), (Instr.typeAssert (.iface 196 v) 165 191 true).run Tryz.prog W = .ok (.tuple #[.agg #[.int .i64 0, .int .i64 0, .string ByteArray.empty, .slice none 0 0], .bool false]) W := fun v W => as_other Tryz.underlying191 (by decide) (by kernel_rfl) v W
  by_cases h0 : nm = 0
  · by_cases h2 : tx.size = 0
    · have HE : Hid (saysNone nm tx = true) := by show _ = _; simp [saysNone, h0, h2]
      obtain rfl := text_none h2
      subst h0
      clear h2
      go_enter Tryz.func144, Tryz.ntmps144
      go_wp2
      go_ret
      exact ⟨by rw [HE.out]; rfl, by go_grown⟩
    · have HE : Hid (saysNone nm tx = false) := by show _ = _; simp [saysNone, h2]
      have e1 := text_some h2
      have e2 : (tx.toList == (⟨#[]⟩ : ByteArray).toList) = false := by rw [empty_listB]; exact e1
      subst h0
      clear h2
      go_enter Tryz.func144, Tryz.ntmps144
      go_wp2
      go_ret
      exact ⟨by rw [HE.out]; rfl, by go_grown⟩
  · have HE : Hid (saysNone nm tx = false) := by show _ = _; simp [saysNone, h0]
    have e1 : (nm == 0) = false := by simpa using h0
    clear h0
    go_enter Tryz.func144, Tryz.ntmps144
    go_wp2
    go_ret
    exact ⟨by rw [HE.out]; rfl, by go_grown⟩


end Go.Proofs.YtbanmldmdoedkaaGreatDoor

namespace Go.Proofs.YtbanmldmdoedkaaGreatDoor
open Go.RowKit

def tkLen0 (ks : List Int) : Bool := decide (ks.length = 0)
def tkVal (n : Nat) (ks : List Int) : Bool := decide (ks.length = n) && ks.all isVal
def tkCall (ks : List Int) : Bool := decide (ks.length ≤ 3) && ks.all isVal
def tkBlk (ks : List Int) : Bool := decide (ks.length ≤ 12) && ks.all isStm
def tkDo (ks : List Int) : Bool := decide (ks.length = 1) && decide (ks.getD 0 0 = 12)
def tkIf (ks : List Int) : Bool := decide (ks.length = 3) && isVal (ks.getD 0 0) && decide (ks.getD 1 0 = 20) && decide (ks.getD 2 0 = 20)
def tkWhile (ks : List Int) : Bool := decide (ks.length = 2) && isVal (ks.getD 0 0) && decide (ks.getD 1 0 = 20)

theorem cell_old (w : World) (o : Obj) {b j : Nat} (h : b < w.heap.size) : (w.alloc o).cell? ⟨b, j, none⟩ = w.cell? ⟨b, j, none⟩ := by
  simp [World.cell?, Below.heap_alloc w o b h]

set_option maxRecDepth 100000 in
set_option maxHeartbeats 1600000 in
theorem takes_number (B : Nat) (kd nm : Int) (tx : ByteArray) (kv v : Value) (ks : List Int) (w : World) (_hB : B ≤ w.heap.size) (hv : RowI w B v ks) (hl : ks.length ≤ 12) :
    Calls Tryz.prog 233 #[.agg #[.int .i64 kd, .int .i64 nm, .string tx, kv], v] w fun e w' => e = .returned (.bool (tkLen0 ks)) ∧ Below w.heap.size w w' := by
  obtain ⟨a, cap, rfl⟩ := hv.len
  obtain ⟨N, HN⟩ : ∃ N, Hid (ks.length = N) := ⟨_, (rfl : ks.length = ks.length)⟩
  have HE : Hid (tkLen0 ks = decide (N = 0)) := by show _ = _; simp [tkLen0, HN.out]
  rw [HN.out] at hl ⊢
  clear hv
  by_cases h : N = 0
  · subst h
    go_enter Tryz.func233, Tryz.ntmps233
    go_wp2
    go_ret
    exact ⟨by rw [HE.out]; rfl, by go_grown⟩
  · have HE2 : Hid (tkLen0 ks = false) := by show _ = _; rw [HE.out]; simpa using h
    have h1 : ((N : Int) == 0) = false := by simp; omega
    go_enter Tryz.func233, Tryz.ntmps233
    go_wp2
    go_ret
    exact ⟨by rw [HE2.out]; rfl, by go_grown⟩

set_option maxRecDepth 100000 in
set_option maxHeartbeats 1600000 in
theorem takes_use (B : Nat) (kd nm : Int) (tx : ByteArray) (kv v : Value) (ks : List Int) (w : World) (_hB : B ≤ w.heap.size) (hv : RowI w B v ks) (hl : ks.length ≤ 12) :
    Calls Tryz.prog 234 #[.agg #[.int .i64 kd, .int .i64 nm, .string tx, kv], v] w fun e w' => e = .returned (.bool (tkLen0 ks)) ∧ Below w.heap.size w w' := by
  obtain ⟨a, cap, rfl⟩ := hv.len
  obtain ⟨N, HN⟩ : ∃ N, Hid (ks.length = N) := ⟨_, (rfl : ks.length = ks.length)⟩
  have HE : Hid (tkLen0 ks = decide (N = 0)) := by show _ = _; simp [tkLen0, HN.out]
  rw [HN.out] at hl ⊢
  clear hv
  by_cases h : N = 0
  · subst h
    go_enter Tryz.func234, Tryz.ntmps234
    go_wp2
    go_ret
    exact ⟨by rw [HE.out]; rfl, by go_grown⟩
  · have HE2 : Hid (tkLen0 ks = false) := by show _ = _; rw [HE.out]; simpa using h
    have h1 : ((N : Int) == 0) = false := by simp; omega
    go_enter Tryz.func234, Tryz.ntmps234
    go_wp2
    go_ret
    exact ⟨by rw [HE2.out]; rfl, by go_grown⟩

set_option maxRecDepth 100000 in
set_option maxHeartbeats 1600000 in
theorem takes_input (B : Nat) (kd nm : Int) (tx : ByteArray) (kv v : Value) (ks : List Int) (w : World) (_hB : B ≤ w.heap.size) (hv : RowI w B v ks) (hl : ks.length ≤ 12) :
    Calls Tryz.prog 235 #[.agg #[.int .i64 kd, .int .i64 nm, .string tx, kv], v] w fun e w' => e = .returned (.bool (tkLen0 ks)) ∧ Below w.heap.size w w' := by
  obtain ⟨a, cap, rfl⟩ := hv.len
  obtain ⟨N, HN⟩ : ∃ N, Hid (ks.length = N) := ⟨_, (rfl : ks.length = ks.length)⟩
  have HE : Hid (tkLen0 ks = decide (N = 0)) := by show _ = _; simp [tkLen0, HN.out]
  rw [HN.out] at hl ⊢
  clear hv
  by_cases h : N = 0
  · subst h
    go_enter Tryz.func235, Tryz.ntmps235
    go_wp2
    go_ret
    exact ⟨by rw [HE.out]; rfl, by go_grown⟩
  · have HE2 : Hid (tkLen0 ks = false) := by show _ = _; rw [HE.out]; simpa using h
    have h1 : ((N : Int) == 0) = false := by simp; omega
    go_enter Tryz.func235, Tryz.ntmps235
    go_wp2
    go_ret
    exact ⟨by rw [HE2.out]; rfl, by go_grown⟩

set_option maxRecDepth 100000 in
set_option maxHeartbeats 1600000 in
theorem takes_new (B : Nat) (kd nm : Int) (tx : ByteArray) (kv v : Value) (ks : List Int) (w : World) (hB : B ≤ w.heap.size) (hv : RowI w B v ks) (hl : ks.length ≤ 12) :
    Calls Tryz.prog 236 #[.agg #[.int .i64 kd, .int .i64 nm, .string tx, kv], v] w fun e w' => e = .returned (.bool (tkVal 1 ks)) ∧ Below w.heap.size w w' := by
  obtain ⟨a, cap, rfl⟩ := hv.len
  obtain ⟨N, HN⟩ : ∃ N, Hid (ks.length = N) := ⟨_, (rfl : ks.length = ks.length)⟩
  obtain ⟨r, hr⟩ : ∃ r, Hid (ks.all isVal = r) := ⟨_, (rfl : ks.all isVal = ks.all isVal)⟩
  have cA : Hid (∀ W, Below w.heap.size w W → Calls Tryz.prog 237 #[.slice a N cap, .func (.func 56) #[] #[]] W fun e w' => e = .returned (.bool r) ∧ Below W.heap.size W w') := fun W hW => by
    rw [← hr.out, ← HN.out]
    exact allVal_any B _ ks W (Nat.le_trans hB hW.size) (hv.keep (hW.mono hB)) (by omega)
  have HE : Hid (tkVal 1 ks = (decide (N = 1) && r)) := by show _ = _; simp [tkVal, HN.out, hr.out]
  rw [HN.out] at hl ⊢
  clear hv
  by_cases h : N = 1
  · have HE2 : Hid (tkVal 1 ks = r) := by show _ = _; rw [HE.out]; simp [h]
    subst h
    go_enter Tryz.func236, Tryz.ntmps236
    go_wp2_with fail
    go_at_call 237
    refine Calls.mono (cA.out _ (by go_grown)) ?_
    rintro e w1 ⟨rfl, hb⟩
    have HB : Hid (Below w.heap.size w w1) := ((Below.refl _ _).alloc (Nat.le_refl _) _).trans (hb.mono (by simp))
    clear hb
    go_wp2
    go_ret
    exact ⟨by rw [HE2.out]; rfl, HB.out⟩
  · have HE2 : Hid (tkVal 1 ks = false) := by show _ = _; rw [HE.out]; simp [h]
    have h1 : ((N : Int) == 1) = false := by simp; omega
    go_enter Tryz.func236, Tryz.ntmps236
    go_wp2
    go_ret
    exact ⟨by rw [HE2.out]; rfl, by go_grown⟩

set_option maxRecDepth 100000 in
set_option maxHeartbeats 1600000 in
theorem takes_pair (B : Nat) (kd nm : Int) (tx : ByteArray) (kv v : Value) (ks : List Int) (w : World) (hB : B ≤ w.heap.size) (hv : RowI w B v ks) (hl : ks.length ≤ 12) :
    Calls Tryz.prog 238 #[.agg #[.int .i64 kd, .int .i64 nm, .string tx, kv], v] w fun e w' => e = .returned (.bool (tkVal 2 ks)) ∧ Below w.heap.size w w' := by
  obtain ⟨a, cap, rfl⟩ := hv.len
  obtain ⟨N, HN⟩ : ∃ N, Hid (ks.length = N) := ⟨_, (rfl : ks.length = ks.length)⟩
  obtain ⟨r, hr⟩ : ∃ r, Hid (ks.all isVal = r) := ⟨_, (rfl : ks.all isVal = ks.all isVal)⟩
  have cA : Hid (∀ W, Below w.heap.size w W → Calls Tryz.prog 237 #[.slice a N cap, .func (.func 56) #[] #[]] W fun e w' => e = .returned (.bool r) ∧ Below W.heap.size W w') := fun W hW => by
    rw [← hr.out, ← HN.out]
    exact allVal_any B _ ks W (Nat.le_trans hB hW.size) (hv.keep (hW.mono hB)) (by omega)
  have HE : Hid (tkVal 2 ks = (decide (N = 2) && r)) := by show _ = _; simp [tkVal, HN.out, hr.out]
  rw [HN.out] at hl ⊢
  clear hv
  by_cases h : N = 2
  · have HE2 : Hid (tkVal 2 ks = r) := by show _ = _; rw [HE.out]; simp [h]
    subst h
    go_enter Tryz.func238, Tryz.ntmps238
    go_wp2_with fail
    go_at_call 237
    refine Calls.mono (cA.out _ (by go_grown)) ?_
    rintro e w1 ⟨rfl, hb⟩
    have HB : Hid (Below w.heap.size w w1) := ((Below.refl _ _).alloc (Nat.le_refl _) _).trans (hb.mono (by simp))
    clear hb
    go_wp2
    go_ret
    exact ⟨by rw [HE2.out]; rfl, HB.out⟩
  · have HE2 : Hid (tkVal 2 ks = false) := by show _ = _; rw [HE.out]; simp [h]
    have h1 : ((N : Int) == 2) = false := by simp; omega
    go_enter Tryz.func238, Tryz.ntmps238
    go_wp2
    go_ret
    exact ⟨by rw [HE2.out]; rfl, by go_grown⟩

set_option maxRecDepth 100000 in
set_option maxHeartbeats 1600000 in
theorem takes_call (B : Nat) (kd nm : Int) (tx : ByteArray) (kv v : Value) (ks : List Int) (w : World) (hB : B ≤ w.heap.size) (hv : RowI w B v ks) (hl : ks.length ≤ 12) :
    Calls Tryz.prog 239 #[.agg #[.int .i64 kd, .int .i64 nm, .string tx, kv], v] w fun e w' => e = .returned (.bool (tkCall ks)) ∧ Below w.heap.size w w' := by
  obtain ⟨a, cap, rfl⟩ := hv.len
  obtain ⟨N, HN⟩ : ∃ N, Hid (ks.length = N) := ⟨_, (rfl : ks.length = ks.length)⟩
  obtain ⟨r, hr⟩ : ∃ r, Hid (ks.all isVal = r) := ⟨_, (rfl : ks.all isVal = ks.all isVal)⟩
  have cA : Hid (∀ W, Below w.heap.size w W → Calls Tryz.prog 237 #[.slice a N cap, .func (.func 56) #[] #[]] W fun e w' => e = .returned (.bool r) ∧ Below W.heap.size W w') := fun W hW => by
    rw [← hr.out, ← HN.out]
    exact allVal_any B _ ks W (Nat.le_trans hB hW.size) (hv.keep (hW.mono hB)) (by omega)
  have HE : Hid (tkCall ks = (decide (N ≤ 3) && r)) := by show _ = _; simp [tkCall, HN.out, hr.out]
  rw [HN.out] at hl ⊢
  clear hv
  by_cases h : N ≤ 3
  · have HE2 : Hid (tkCall ks = r) := by show _ = _; rw [HE.out]; simp [h]
    have h1 : (N : Int) ≤ 3 := by omega
    go_enter Tryz.func239, Tryz.ntmps239
    go_wp2_with fail
    go_at_call 237
    refine Calls.mono (cA.out _ (by go_grown)) ?_
    rintro e w1 ⟨rfl, hb⟩
    have HB : Hid (Below w.heap.size w w1) := ((Below.refl _ _).alloc (Nat.le_refl _) _).trans (hb.mono (by simp))
    clear hb
    go_wp2
    go_ret
    exact ⟨by rw [HE2.out]; rfl, HB.out⟩
  · have HE2 : Hid (tkCall ks = false) := by show _ = _; rw [HE.out]; simp [h]
    have h1 : ¬ (N : Int) ≤ 3 := by omega
    go_enter Tryz.func239, Tryz.ntmps239
    go_wp2
    go_ret
    exact ⟨by rw [HE2.out]; rfl, by go_grown⟩

set_option maxRecDepth 100000 in
set_option maxHeartbeats 1600000 in
theorem takes_hold (B : Nat) (kd nm : Int) (tx : ByteArray) (kv v : Value) (ks : List Int) (w : World) (hB : B ≤ w.heap.size) (hv : RowI w B v ks) (hl : ks.length ≤ 12) :
    Calls Tryz.prog 240 #[.agg #[.int .i64 kd, .int .i64 nm, .string tx, kv], v] w fun e w' => e = .returned (.bool (tkVal 1 ks)) ∧ Below w.heap.size w w' := by
  obtain ⟨a, cap, rfl⟩ := hv.len
  obtain ⟨N, HN⟩ : ∃ N, Hid (ks.length = N) := ⟨_, (rfl : ks.length = ks.length)⟩
  obtain ⟨r, hr⟩ : ∃ r, Hid (ks.all isVal = r) := ⟨_, (rfl : ks.all isVal = ks.all isVal)⟩
  have cA : Hid (∀ W, Below w.heap.size w W → Calls Tryz.prog 237 #[.slice a N cap, .func (.func 56) #[] #[]] W fun e w' => e = .returned (.bool r) ∧ Below W.heap.size W w') := fun W hW => by
    rw [← hr.out, ← HN.out]
    exact allVal_any B _ ks W (Nat.le_trans hB hW.size) (hv.keep (hW.mono hB)) (by omega)
  have HE : Hid (tkVal 1 ks = (decide (N = 1) && r)) := by show _ = _; simp [tkVal, HN.out, hr.out]
  rw [HN.out] at hl ⊢
  clear hv
  by_cases h : N = 1
  · have HE2 : Hid (tkVal 1 ks = r) := by show _ = _; rw [HE.out]; simp [h]
    subst h
    go_enter Tryz.func240, Tryz.ntmps240
    go_wp2_with fail
    go_at_call 237
    refine Calls.mono (cA.out _ (by go_grown)) ?_
    rintro e w1 ⟨rfl, hb⟩
    have HB : Hid (Below w.heap.size w w1) := ((Below.refl _ _).alloc (Nat.le_refl _) _).trans (hb.mono (by simp))
    clear hb
    go_wp2
    go_ret
    exact ⟨by rw [HE2.out]; rfl, HB.out⟩
  · have HE2 : Hid (tkVal 1 ks = false) := by show _ = _; rw [HE.out]; simp [h]
    have h1 : ((N : Int) == 1) = false := by simp; omega
    go_enter Tryz.func240, Tryz.ntmps240
    go_wp2
    go_ret
    exact ⟨by rw [HE2.out]; rfl, by go_grown⟩

set_option maxRecDepth 100000 in
set_option maxHeartbeats 1600000 in
theorem takes_if (B : Nat) (kd nm : Int) (tx : ByteArray) (kv v : Value) (ks : List Int) (w : World) (_hB : B ≤ w.heap.size) (hv : RowI w B v ks) (hl : ks.length ≤ 12) :
    Calls Tryz.prog 241 #[.agg #[.int .i64 kd, .int .i64 nm, .string tx, kv], v] w fun e w' => e = .returned (.bool (tkIf ks)) ∧ Below w.heap.size w w' := by
  obtain ⟨a, cap, rfl⟩ := hv.len
  by_cases hN : ks.length = 3
  · obtain ⟨x0, x1, x2, rfl⟩ : ∃ x0 x1 x2, ks = [x0, x1, x2] := by
      match ks, hN with
      | [x0, x1, x2], _ => exact ⟨_, _, _, rfl⟩
    obtain ⟨b, o, rfl, hb, c0⟩ := RowI.at hv 0 (by simp)
    obtain ⟨b1, o1, e1, hb1, c1⟩ := RowI.at hv 1 (by simp)
    cases e1
    obtain ⟨b2, o2, e2, hb2, c2⟩ := RowI.at hv 2 (by simp)
    cases e2
    simp only [List.getElem_cons_zero, List.getElem_cons_succ, Nat.add_zero] at c0 c1 c2
    clear hv hN hl
    simp only [List.length_cons, List.length_nil, Nat.zero_add, Nat.reduceAdd]
    have cV : Hid (∀ W, Calls Tryz.prog 56 #[.int .i64 x0] W fun e w' => e = .returned (.bool (isVal x0)) ∧ w' = W) := fun W => isValue_any x0 W
    cases hv0 : isVal x0
    · rw [hv0] at cV
      have HE : Hid (tkIf [x0, x1, x2] = false) := by show _ = _; simp [tkIf, hv0]
      have d0 : ∀ o1 : Obj, (w.alloc o1).cell? ⟨b, o, none⟩ = w.cell? ⟨b, o, none⟩ := fun o1 => cell_old w o1 (Nat.lt_of_lt_of_le hb _hB)
      have d1 : ∀ o1 : Obj, (w.alloc o1).cell? ⟨b, o + 1, none⟩ = w.cell? ⟨b, o + 1, none⟩ := fun o1 => cell_old w o1 (Nat.lt_of_lt_of_le hb _hB)
      have d2 : ∀ o1 : Obj, (w.alloc o1).cell? ⟨b, o + 2, none⟩ = w.cell? ⟨b, o + 2, none⟩ := fun o1 => cell_old w o1 (Nat.lt_of_lt_of_le hb _hB)
      go_enter Tryz.func241, Tryz.ntmps241
      go_wp2_with (go_at_call 56; refine Calls.mono (cV.out _) ?_; rintro e w1 ⟨rfl, h⟩; obtain rfl := h.symm)
      go_ret
      exact ⟨by rw [HE.out]; rfl, by go_grown⟩
    · rw [hv0] at cV
      by_cases h1 : x1 = 20
      · have g1 := h1
        by_cases h2 : x2 = 20
        · have g2 := h2
          have HE : Hid (tkIf [x0, x1, x2] = true) := by show _ = _; simp [tkIf, hv0, g1, g2]
          subst h1
          subst h2
          have d0 : ∀ o1 : Obj, (w.alloc o1).cell? ⟨b, o, none⟩ = w.cell? ⟨b, o, none⟩ := fun o1 => cell_old w o1 (Nat.lt_of_lt_of_le hb _hB)
          have d1 : ∀ o1 : Obj, (w.alloc o1).cell? ⟨b, o + 1, none⟩ = w.cell? ⟨b, o + 1, none⟩ := fun o1 => cell_old w o1 (Nat.lt_of_lt_of_le hb _hB)
          have d2 : ∀ o1 : Obj, (w.alloc o1).cell? ⟨b, o + 2, none⟩ = w.cell? ⟨b, o + 2, none⟩ := fun o1 => cell_old w o1 (Nat.lt_of_lt_of_le hb _hB)
          go_enter Tryz.func241, Tryz.ntmps241
          go_wp2_with (go_at_call 56; refine Calls.mono (cV.out _) ?_; rintro e w1 ⟨rfl, h⟩; obtain rfl := h.symm)
          go_ret
          exact ⟨by rw [HE.out]; rfl, by go_grown⟩
        · have HE : Hid (tkIf [x0, x1, x2] = false) := by show _ = _; simp [tkIf, h2]
          have g2 : (x2 == 20) = false := by simpa using h2
          clear h2
          subst h1
          have d0 : ∀ o1 : Obj, (w.alloc o1).cell? ⟨b, o, none⟩ = w.cell? ⟨b, o, none⟩ := fun o1 => cell_old w o1 (Nat.lt_of_lt_of_le hb _hB)
          have d1 : ∀ o1 : Obj, (w.alloc o1).cell? ⟨b, o + 1, none⟩ = w.cell? ⟨b, o + 1, none⟩ := fun o1 => cell_old w o1 (Nat.lt_of_lt_of_le hb _hB)
          have d2 : ∀ o1 : Obj, (w.alloc o1).cell? ⟨b, o + 2, none⟩ = w.cell? ⟨b, o + 2, none⟩ := fun o1 => cell_old w o1 (Nat.lt_of_lt_of_le hb _hB)
          go_enter Tryz.func241, Tryz.ntmps241
          go_wp2_with (go_at_call 56; refine Calls.mono (cV.out _) ?_; rintro e w1 ⟨rfl, h⟩; obtain rfl := h.symm)
          go_ret
          exact ⟨by rw [HE.out]; rfl, by go_grown⟩
      · have HE : Hid (tkIf [x0, x1, x2] = false) := by show _ = _; simp [tkIf, h1]
        have g1 : (x1 == 20) = false := by simpa using h1
        clear h1
        have d0 : ∀ o1 : Obj, (w.alloc o1).cell? ⟨b, o, none⟩ = w.cell? ⟨b, o, none⟩ := fun o1 => cell_old w o1 (Nat.lt_of_lt_of_le hb _hB)
        have d1 : ∀ o1 : Obj, (w.alloc o1).cell? ⟨b, o + 1, none⟩ = w.cell? ⟨b, o + 1, none⟩ := fun o1 => cell_old w o1 (Nat.lt_of_lt_of_le hb _hB)
        have d2 : ∀ o1 : Obj, (w.alloc o1).cell? ⟨b, o + 2, none⟩ = w.cell? ⟨b, o + 2, none⟩ := fun o1 => cell_old w o1 (Nat.lt_of_lt_of_le hb _hB)
        go_enter Tryz.func241, Tryz.ntmps241
        go_wp2_with (go_at_call 56; refine Calls.mono (cV.out _) ?_; rintro e w1 ⟨rfl, h⟩; obtain rfl := h.symm)
        go_ret
        exact ⟨by rw [HE.out]; rfl, by go_grown⟩
  · have HE : Hid (tkIf ks = false) := by show _ = _; simp [tkIf, hN]
    obtain ⟨N, HN⟩ : ∃ N, Hid (ks.length = N) := ⟨_, (rfl : ks.length = ks.length)⟩
    have h1 : (((N : Nat) : Int) == 3) = false := by simp; have := HN.out; omega
    rw [HN.out] at hl ⊢
    clear hv hN
    go_enter Tryz.func241, Tryz.ntmps241
    go_wp2
    go_ret
    exact ⟨by rw [HE.out]; rfl, by go_grown⟩

set_option maxRecDepth 100000 in
set_option maxHeartbeats 1600000 in
theorem takes_while (B : Nat) (kd nm : Int) (tx : ByteArray) (kv v : Value) (ks : List Int) (w : World) (_hB : B ≤ w.heap.size) (hv : RowI w B v ks) (hl : ks.length ≤ 12) :
    Calls Tryz.prog 242 #[.agg #[.int .i64 kd, .int .i64 nm, .string tx, kv], v] w fun e w' => e = .returned (.bool (tkWhile ks)) ∧ Below w.heap.size w w' := by
  obtain ⟨a, cap, rfl⟩ := hv.len
  by_cases hN : ks.length = 2
  · obtain ⟨x0, x1, rfl⟩ : ∃ x0 x1, ks = [x0, x1] := by
      match ks, hN with
      | [x0, x1], _ => exact ⟨_, _, rfl⟩
    obtain ⟨b, o, rfl, hb, c0⟩ := RowI.at hv 0 (by simp)
    obtain ⟨b1, o1, e1, hb1, c1⟩ := RowI.at hv 1 (by simp)
    cases e1
    simp only [List.getElem_cons_zero, List.getElem_cons_succ, Nat.add_zero] at c0 c1
    clear hv hN hl
    simp only [List.length_cons, List.length_nil, Nat.zero_add, Nat.reduceAdd]
    have cV : Hid (∀ W, Calls Tryz.prog 56 #[.int .i64 x0] W fun e w' => e = .returned (.bool (isVal x0)) ∧ w' = W) := fun W => isValue_any x0 W
    cases hv0 : isVal x0
    · rw [hv0] at cV
      have HE : Hid (tkWhile [x0, x1] = false) := by show _ = _; simp [tkWhile, hv0]
      have d0 : ∀ o1 : Obj, (w.alloc o1).cell? ⟨b, o, none⟩ = w.cell? ⟨b, o, none⟩ := fun o1 => cell_old w o1 (Nat.lt_of_lt_of_le hb _hB)
      have d1 : ∀ o1 : Obj, (w.alloc o1).cell? ⟨b, o + 1, none⟩ = w.cell? ⟨b, o + 1, none⟩ := fun o1 => cell_old w o1 (Nat.lt_of_lt_of_le hb _hB)
      go_enter Tryz.func242, Tryz.ntmps242
      go_wp2_with (go_at_call 56; refine Calls.mono (cV.out _) ?_; rintro e w1 ⟨rfl, h⟩; obtain rfl := h.symm)
      go_ret
      exact ⟨by rw [HE.out]; rfl, by go_grown⟩
    · rw [hv0] at cV
      by_cases h1 : x1 = 20
      · have g1 := h1
        have HE : Hid (tkWhile [x0, x1] = true) := by show _ = _; simp [tkWhile, hv0, g1]
        subst h1
        have d0 : ∀ o1 : Obj, (w.alloc o1).cell? ⟨b, o, none⟩ = w.cell? ⟨b, o, none⟩ := fun o1 => cell_old w o1 (Nat.lt_of_lt_of_le hb _hB)
        have d1 : ∀ o1 : Obj, (w.alloc o1).cell? ⟨b, o + 1, none⟩ = w.cell? ⟨b, o + 1, none⟩ := fun o1 => cell_old w o1 (Nat.lt_of_lt_of_le hb _hB)
        go_enter Tryz.func242, Tryz.ntmps242
        go_wp2_with (go_at_call 56; refine Calls.mono (cV.out _) ?_; rintro e w1 ⟨rfl, h⟩; obtain rfl := h.symm)
        go_ret
        exact ⟨by rw [HE.out]; rfl, by go_grown⟩
      · have HE : Hid (tkWhile [x0, x1] = false) := by show _ = _; simp [tkWhile, h1]
        have g1 : (x1 == 20) = false := by simpa using h1
        clear h1
        have d0 : ∀ o1 : Obj, (w.alloc o1).cell? ⟨b, o, none⟩ = w.cell? ⟨b, o, none⟩ := fun o1 => cell_old w o1 (Nat.lt_of_lt_of_le hb _hB)
        have d1 : ∀ o1 : Obj, (w.alloc o1).cell? ⟨b, o + 1, none⟩ = w.cell? ⟨b, o + 1, none⟩ := fun o1 => cell_old w o1 (Nat.lt_of_lt_of_le hb _hB)
        go_enter Tryz.func242, Tryz.ntmps242
        go_wp2_with (go_at_call 56; refine Calls.mono (cV.out _) ?_; rintro e w1 ⟨rfl, h⟩; obtain rfl := h.symm)
        go_ret
        exact ⟨by rw [HE.out]; rfl, by go_grown⟩
  · have HE : Hid (tkWhile ks = false) := by show _ = _; simp [tkWhile, hN]
    obtain ⟨N, HN⟩ : ∃ N, Hid (ks.length = N) := ⟨_, (rfl : ks.length = ks.length)⟩
    have h1 : (((N : Nat) : Int) == 2) = false := by simp; have := HN.out; omega
    rw [HN.out] at hl ⊢
    clear hv hN
    go_enter Tryz.func242, Tryz.ntmps242
    go_wp2
    go_ret
    exact ⟨by rw [HE.out]; rfl, by go_grown⟩

set_option maxRecDepth 100000 in
set_option maxHeartbeats 1600000 in
theorem takes_print (B : Nat) (kd nm : Int) (tx : ByteArray) (kv v : Value) (ks : List Int) (w : World) (hB : B ≤ w.heap.size) (hv : RowI w B v ks) (hl : ks.length ≤ 12) :
    Calls Tryz.prog 243 #[.agg #[.int .i64 kd, .int .i64 nm, .string tx, kv], v] w fun e w' => e = .returned (.bool (tkVal 1 ks)) ∧ Below w.heap.size w w' := by
  obtain ⟨a, cap, rfl⟩ := hv.len
  obtain ⟨N, HN⟩ : ∃ N, Hid (ks.length = N) := ⟨_, (rfl : ks.length = ks.length)⟩
  obtain ⟨r, hr⟩ : ∃ r, Hid (ks.all isVal = r) := ⟨_, (rfl : ks.all isVal = ks.all isVal)⟩
  have cA : Hid (∀ W, Below w.heap.size w W → Calls Tryz.prog 237 #[.slice a N cap, .func (.func 56) #[] #[]] W fun e w' => e = .returned (.bool r) ∧ Below W.heap.size W w') := fun W hW => by
    rw [← hr.out, ← HN.out]
    exact allVal_any B _ ks W (Nat.le_trans hB hW.size) (hv.keep (hW.mono hB)) (by omega)
  have HE : Hid (tkVal 1 ks = (decide (N = 1) && r)) := by show _ = _; simp [tkVal, HN.out, hr.out]
  rw [HN.out] at hl ⊢
  clear hv
  by_cases h : N = 1
  · have HE2 : Hid (tkVal 1 ks = r) := by show _ = _; rw [HE.out]; simp [h]
    subst h
    go_enter Tryz.func243, Tryz.ntmps243
    go_wp2_with fail
    go_at_call 237
    refine Calls.mono (cA.out _ (by go_grown)) ?_
    rintro e w1 ⟨rfl, hb⟩
    have HB : Hid (Below w.heap.size w w1) := ((Below.refl _ _).alloc (Nat.le_refl _) _).trans (hb.mono (by simp))
    clear hb
    go_wp2
    go_ret
    exact ⟨by rw [HE2.out]; rfl, HB.out⟩
  · have HE2 : Hid (tkVal 1 ks = false) := by show _ = _; rw [HE.out]; simp [h]
    have h1 : ((N : Int) == 1) = false := by simp; omega
    go_enter Tryz.func243, Tryz.ntmps243
    go_wp2
    go_ret
    exact ⟨by rw [HE2.out]; rfl, by go_grown⟩

set_option maxRecDepth 100000 in
set_option maxHeartbeats 1600000 in
theorem takes_do (B : Nat) (kd nm : Int) (tx : ByteArray) (kv v : Value) (ks : List Int) (w : World) (_hB : B ≤ w.heap.size) (hv : RowI w B v ks) (hl : ks.length ≤ 12) :
    Calls Tryz.prog 244 #[.agg #[.int .i64 kd, .int .i64 nm, .string tx, kv], v] w fun e w' => e = .returned (.bool (tkDo ks)) ∧ Below w.heap.size w w' := by
  obtain ⟨a, cap, rfl⟩ := hv.len
  by_cases hN : ks.length = 1
  · obtain ⟨x0, rfl⟩ : ∃ x0, ks = [x0] := by
      match ks, hN with
      | [x0], _ => exact ⟨_, rfl⟩
    obtain ⟨b, o, rfl, hb, c0⟩ := RowI.at hv 0 (by simp)
    simp only [List.getElem_cons_zero, Nat.add_zero] at c0
    clear hv hN hl
    simp only [List.length_cons, List.length_nil, Nat.zero_add]
    by_cases h0 : x0 = 12
    · have g0 := h0
      have HE : Hid (tkDo [x0] = true) := by show _ = _; simp [tkDo, g0]
      subst h0
      have d0 : ∀ o1 : Obj, (w.alloc o1).cell? ⟨b, o, none⟩ = w.cell? ⟨b, o, none⟩ := fun o1 => cell_old w o1 (Nat.lt_of_lt_of_le hb _hB)
      go_enter Tryz.func244, Tryz.ntmps244
      go_wp2
      go_ret
      exact ⟨by rw [HE.out]; rfl, by go_grown⟩
    · have HE : Hid (tkDo [x0] = false) := by show _ = _; simp [tkDo, h0]
      have g0 : (x0 == 12) = false := by simpa using h0
      clear h0
      have d0 : ∀ o1 : Obj, (w.alloc o1).cell? ⟨b, o, none⟩ = w.cell? ⟨b, o, none⟩ := fun o1 => cell_old w o1 (Nat.lt_of_lt_of_le hb _hB)
      go_enter Tryz.func244, Tryz.ntmps244
      go_wp2
      go_ret
      exact ⟨by rw [HE.out]; rfl, by go_grown⟩
  · have HE : Hid (tkDo ks = false) := by show _ = _; simp [tkDo, hN]
    obtain ⟨N, HN⟩ : ∃ N, Hid (ks.length = N) := ⟨_, (rfl : ks.length = ks.length)⟩
    have h1 : (((N : Nat) : Int) == 1) = false := by simp; have := HN.out; omega
    rw [HN.out] at hl ⊢
    clear hv hN
    go_enter Tryz.func244, Tryz.ntmps244
    go_wp2
    go_ret
    exact ⟨by rw [HE.out]; rfl, by go_grown⟩

set_option maxRecDepth 100000 in
set_option maxHeartbeats 1600000 in
theorem takes_block (B : Nat) (kd nm : Int) (tx : ByteArray) (kv v : Value) (ks : List Int) (w : World) (hB : B ≤ w.heap.size) (hv : RowI w B v ks) (hl : ks.length ≤ 12) :
    Calls Tryz.prog 245 #[.agg #[.int .i64 kd, .int .i64 nm, .string tx, kv], v] w fun e w' => e = .returned (.bool (tkBlk ks)) ∧ Below w.heap.size w w' := by
  obtain ⟨a, cap, rfl⟩ := hv.len
  obtain ⟨N, HN⟩ : ∃ N, Hid (ks.length = N) := ⟨_, (rfl : ks.length = ks.length)⟩
  obtain ⟨r, hr⟩ : ∃ r, Hid (ks.all isStm = r) := ⟨_, (rfl : ks.all isStm = ks.all isStm)⟩
  have cA : Hid (∀ W, Below w.heap.size w W → Calls Tryz.prog 237 #[.slice a N cap, .func (.func 246) #[] #[]] W fun e w' => e = .returned (.bool r) ∧ Below W.heap.size W w') := fun W hW => by
    rw [← hr.out, ← HN.out]
    exact allStm_any B _ ks W (Nat.le_trans hB hW.size) (hv.keep (hW.mono hB)) (by omega)
  have HE : Hid (tkBlk ks = (decide (N ≤ 12) && r)) := by show _ = _; simp [tkBlk, HN.out, hr.out]
  rw [HN.out] at hl ⊢
  clear hv
  by_cases h : N ≤ 12
  · have HE2 : Hid (tkBlk ks = r) := by show _ = _; rw [HE.out]; simp [h]
    have h1 : (N : Int) ≤ 12 := by omega
    go_enter Tryz.func245, Tryz.ntmps245
    go_wp2_with fail
    go_at_call 237
    refine Calls.mono (cA.out _ (by go_grown)) ?_
    rintro e w1 ⟨rfl, hb⟩
    have HB : Hid (Below w.heap.size w w1) := ((Below.refl _ _).alloc (Nat.le_refl _) _).trans (hb.mono (by simp))
    clear hb
    go_wp2
    go_ret
    exact ⟨by rw [HE2.out]; rfl, HB.out⟩
  · have HE2 : Hid (tkBlk ks = false) := by show _ = _; rw [HE.out]; simp [h]
    have h1 : ¬ (N : Int) ≤ 12 := by omega
    go_enter Tryz.func245, Tryz.ntmps245
    go_wp2
    go_ret
    exact ⟨by rw [HE2.out]; rfl, by go_grown⟩


end Go.Proofs.YtbanmldmdoedkaaGreatDoor

namespace Go.Proofs.YtbanmldmdoedkaaGreatDoor
open Go.RowKit

theorem inC_ones (x : Int) : ∀ u ∈ inC x, u.oneCell' = true := by
  intro u hu
  simp [inC] at hu
  subst hu
  rfl
theorem kindsOf_take (ns : List Nd) (ks : List Int) (t : Nat) (h : t < ks.length) (c : Int) (hc : ks[t] = c) (d : Int) (hd : (ns.getD c.toNat nd0).kind = d) : kindsOf ns (ks.take t) ++ [d] = kindsOf ns (ks.take (t + 1)) := by
  subst hc hd
  rw [List.take_succ_eq_append_getElem h]
  unfold kindsOf
  rw [List.map_append]
  rfl
theorem isIn_off {x a b : Int} (h : x < a ∨ b < x) : isIn x a b = false := by
  simp only [isIn, Bool.and_eq_false_iff, decide_eq_false_iff_not]
  omega
theorem rowI_take {w : World} {B : Nat} {b off n cap t : Nat} {xs : List Int} (h : RowI w B (.slice (some ⟨b, off, none⟩) n cap) xs) (ht : t ≤ xs.length) (c' : Nat) (hc : t ≤ c') : RowI w B (.slice (some ⟨b, off, none⟩) t c') (xs.take t) := by
  refine ⟨some ⟨b, off, none⟩, c', by rw [List.length_take, Nat.min_eq_left ht], by rw [List.length_take, Nat.min_eq_left ht]; exact hc, ?_⟩
  by_cases h0 : xs.take t = []
  · exact .inl h0
  · have hpos : 0 < xs.length := by
      rcases Nat.eq_zero_or_pos xs.length with e | e
      · exact absurd (by rw [List.eq_nil_of_length_eq_zero e]; simp) h0
      · exact e
    refine .inr ⟨b, off, rfl, ?_, fun i hi j hj => ?_⟩
    · obtain ⟨b', off', e, hb, _⟩ := RowR.at h 0 hpos
      cases e
      exact hb
    · have hi' : i < xs.length := by simp at hi; omega
      obtain ⟨b', off', e, hb, hc⟩ := RowR.at h i hi'
      cases e
      rw [List.getElem_take]
      exact hc j hj

/-- What kindsAhead answers. -/
structure AheadAns (ns : List Nd) (m : Nat) (kids : List Int) (w : World) (e : Ending) (w' : World) : Prop where
  ex : ∃ v r, e = .returned (.tuple #[v, .bool r]) ∧ r = (decide (kids.length ≤ 12) && aheadTo (m : Int) kids kids.length) ∧ (r = true → OwnsI w' w.heap.size v (kindsOf ns kids))

set_option maxRecDepth 100000 in
set_option maxHeartbeats 3200000 in
theorem kindsAhead_any (b off N cap m : Nat) (ns : List Nd) (q : Nd) (w : World) (_hl : N ≤ 1048576) (hR : NdR.Row w w.heap.size (.slice (some ⟨b, off, none⟩) N cap) ns) (hN : Hid (ns.length = N)) (hm : m < N) (hq : Hid (ns[m]'(by rw [hN.out]; exact hm) = q)) (hk : q.kids.length ≤ 1048576) :
    Calls Tryz.prog 145 #[.slice (some ⟨b, off, none⟩) N cap, .int .i64 (m : Int)] w fun e w' => AheadAns ns m q.kids w e w' ∧ Below w.heap.size w w' := by
  have hml : m < ns.length := by rw [hN.out]; exact hm
  obtain ⟨b', off', ka, kc, e, hb, c0, c1, c2, c3, hK⟩ := RowNd.at hR m hml
  cases e
  rw [hq.out] at c3 hK
  have HR : Hid (NdR.Row w w.heap.size (.slice (some ⟨b, off, none⟩) N cap) ns) := hR
  clear c0 c1 c2 hR
  obtain ⟨kd, nm, tx, ks⟩ := q
  simp only at c3 hK hk ⊢
  have hcap := hK.cap.2
  obtain ⟨K, HK⟩ : ∃ K, Hid (ks.length = K) := ⟨_, (rfl : ks.length = ks.length)⟩
  rw [HK.out] at c3 hK hk hcap
  have HI : Hid (RowI w w.heap.size (.slice ka K kc) ks) := hK
  clear hK
  have hm0 : (0 : Int) ≤ (m : Int) := by omega
  have hm1 : (m : Int) < (N : Int) := by omega
  by_cases h12 : (12 : Int) < (K : Int)
  · have HE : Hid (decide (K ≤ 12) = false) := by show _ = _; simp; omega
    go_enter Tryz.func145, Tryz.ntmps145
    go_wp2
    go_ret2
    exact ⟨⟨_, _, rfl, by rw [HK.out, HE.out]; rfl, fun h => by cases h⟩, Below.refl _ _⟩
  have HE : Hid (decide (K ≤ 12) = true) := by show _ = _; simp; omega
  have hk12 : K ≤ 12 := by omega
  go_enter Tryz.func145, Tryz.ntmps145
  go_wp2
  go_loopw [7, 20] (fun kv i wr => ∃ t : Nat, t ≤ K ∧ i = .int .i64 (t : Int) ∧ Hid (aheadTo (m : Int) ks t = true) ∧ Hid (OwnsI wr w.heap.size kv (kindsOf ns (ks.take t))) ∧ Below w.heap.size w wr) (fun _ i _ => K - (intOf i).toNat)
  case atStart => exact ⟨0, Nat.zero_le _, rfl, rfl, ownsR_nil _ _ _ _ _, Below.refl _ _⟩
  case round =>
    obtain ⟨t, ht, rfl, HT, HO, hbw⟩ := hrel
    by_cases hlt : t < K
    · have ht1 : (t : Int) < (K : Int) := by omega
      have ht0 : (0 : Int) ≤ (t : Int) := by omega
      have htl : t < ks.length := by have := HK.out; omega
      obtain ⟨kb, ko, rfl, hkb, d0⟩ := HI.out.at t htl
      obtain ⟨c, hc⟩ : ∃ c, Hid (ks[t] = c) := ⟨_, (rfl : ks[t] = ks[t])⟩
      have f0 := (hbw.cell (p := ⟨kb, ko + t, none⟩) (by show kb < _; omega)).trans d0
      rw [hc.out] at f0
      clear d0
      have hgd : Hid (ks.getD t 0 = c) := by show _ = _; rw [← hc.out]; simp [List.getD, htl]
      have hcap1 : t ≤ kc := by omega
      have hcap2 : (t : Int) ≤ (kc : Int) := by omega
      by_cases hc0 : c < 0
      · have HF : Hid (aheadTo (m : Int) ks K = false) := aheadTo_false hlt (by rw [aheadOk, hgd.out, isIn_off (by omega), Bool.false_and])
        go_wp2
        go_ret2
        exact ⟨⟨_, _, rfl, by rw [HK.out, HF.out, Bool.and_false], fun h => by cases h⟩, hbw⟩
      by_cases hc1 : (m : Int) ≤ c
      · have HF : Hid (aheadTo (m : Int) ks K = false) := aheadTo_false hlt (by rw [aheadOk, hgd.out, isIn_off (by omega), Bool.false_and])
        go_wp2
        go_ret2
        exact ⟨⟨_, _, rfl, by rw [HK.out, HF.out, Bool.and_false], fun h => by cases h⟩, hbw⟩
      have HRt : Hid (∀ W, Below w.heap.size w W → RowI W w.heap.size (.slice (some ⟨kb, ko, none⟩) t kc) (ks.take t)) := fun W hW => (rowI_take HI.out (by omega) kc hcap1).keep hW
      obtain ⟨r, hr⟩ : ∃ r, Hid ((ks.take t).contains c = r) := ⟨_, (rfl : (ks.take t).contains c = (ks.take t).contains c)⟩
      have cC : Hid (∀ W, Below w.heap.size w W → Calls Tryz.prog 174 #[.slice (some ⟨kb, ko, none⟩) t kc, .int .i64 c] W fun e w' => e = .returned (.bool r) ∧ Below W.heap.size W w') := fun W hW => by
        rw [← hr.out]
        exact contains_any w.heap.size _ _ c W hW.size (HRt.out W hW) (by simp; omega)
      cases r
      · have HT1 : Hid (aheadTo (m : Int) ks (t + 1) = true) := by
          show _ = _
          rw [aheadTo, HT.out, aheadOk, hgd.out, hr.out, isIn]
          simp
          omega
        obtain ⟨cn, hcn⟩ : ∃ n : Nat, c = (n : Int) := ⟨c.toNat, by omega⟩
        have hcl : cn < ns.length := by rw [hN.out]; omega
        have hcN : cn < N := by omega
        obtain ⟨b2, off2, ka2, kc2, e2, hb2, g0, _, _, _, _⟩ := RowNd.at HR.out cn hcl
        cases e2
        obtain ⟨d, hd⟩ : ∃ d, Hid (ns[cn].kind = d) := ⟨_, (rfl : ns[cn].kind = ns[cn].kind)⟩
        rw [hd.out] at g0
        have HD : Hid ((ns.getD c.toNat nd0).kind = d) := by show _ = _; rw [← hd.out, hcn]; simp [List.getD, hcl]
        subst hcn
        have hcn0 : (0 : Int) ≤ (cn : Int) := by omega
        have hcn1 : (cn : Int) < (N : Int) := by omega
        go_wp2_with fail
        go_at_call 174
        refine Calls.mono (cC.out _ hbw) ?_
        rintro e w1 ⟨rfl, hb1⟩
        have g1 := ((hbw.trans (hb1.mono hbw.size)).cell (p := ⟨b, off + cn * 4, none⟩) hb2).trans g0
        have hown : OwnsI w1 w.heap.size u7 (kindsOf ns (ks.take t)) := OwnsR.below HO.out hb1
        have hlen : (kindsOf ns (ks.take t)).length ≤ 12 := by rw [kindsOf_len]; simp; omega
        have hBw1 : Below w.heap.size w w1 := hbw.trans (hb1.mono hbw.size)
        have hsz := hBw1.size
        clear g0 cC hb1
        go_wp2_with (at_builtin; go_must (refine appendR inC_len rfl _ _ 85 rfl w.heap.size 3 _ 8 Tryz.underlying85 Tryz.infoInt rfl (by decide) hown d (inC_ones _) rfl (by first | rfl | (simp [Act.eval]; done)) (by omega) (by omega) hsz ?_); intro v4 w4 hown4 hb4 hs4 hg4)
        have HO4 : Hid (OwnsI w4 w.heap.size v4 (kindsOf ns (ks.take (t + 1)))) := by
          have := kindsOf_take ns ks t htl _ hc.out d HD.out
          rw [← this]
          exact hown4
        have HB4 : Hid (Below w.heap.size w w4) := hb4 w hBw1
        clear hown4 hb4 hs4 hg4 hown hBw1
        go_wp2
        go_roundw
        case rel => exact ⟨t + 1, by omega, by go_num, HT1, HO4, HB4.out⟩
        case measure => simp [intOf]; omega
      · have HF : Hid (aheadTo (m : Int) ks K = false) := aheadTo_false hlt (by rw [aheadOk, hgd.out, hr.out]; simp)
        go_wp2_with fail
        go_at_call 174
        refine Calls.mono (cC.out _ hbw) ?_
        rintro e w1 ⟨rfl, hb1⟩
        have HB1 : Hid (Below w.heap.size w w1) := hbw.trans (hb1.mono hbw.size)
        clear cC hb1
        go_wp2
        go_ret2
        exact ⟨⟨_, _, rfl, by rw [HK.out, HF.out, Bool.and_false], fun h => by cases h⟩, HB1.out⟩
    · have htK : Hid (t = K) := (by omega : t = K)
      have HF : Hid (aheadTo (m : Int) ks K = true) := by show _ = _; rw [← htK.out]; exact HT.out
      have HO2 : Hid (OwnsI wr w.heap.size u7 (kindsOf ns ks)) := by
        have := HO.out
        rw [htK.out, ← HK.out, List.take_length] at this
        exact this
      go_wp2
      go_ret2
      exact ⟨⟨_, _, rfl, by rw [HK.out, HF.out, HE.out]; rfl, fun _ => HO2.out⟩, hbw⟩

end Go.Proofs.YtbanmldmdoedkaaGreatDoor
