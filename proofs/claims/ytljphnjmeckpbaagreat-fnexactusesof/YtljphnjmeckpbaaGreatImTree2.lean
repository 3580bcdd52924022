/-
  Chapter 4, in the program: what the method takes answers, type by type. Written by mktakes.py.
-/
import Derived.Test.YtljphnjmeckpbaaGreatImTree1
namespace Go.Proofs.YtljphnjmeckpbaaGreat
open Go.RowKit

def tkLen0 (ks : List Int) : Bool := decide (ks.length = 0)
def tkVal (n : Nat) (ks : List Int) : Bool := decide (ks.length = n) && ks.all isVal
def tkCall (ks : List Int) : Bool := decide (ks.length ≤ 3) && ks.all isVal
def tkBlk (ks : List Int) : Bool := decide (ks.length ≤ 12) && ks.all isStm
def tkDo (ks : List Int) : Bool := decide (ks.length = 1) && decide (ks.getD 0 0 = 12)
def tkIf (ks : List Int) : Bool := decide (ks.length = 3) && isVal (ks.getD 0 0) && decide (ks.getD 1 0 = 20) && decide (ks.getD 2 0 = 20)
def tkWhile (ks : List Int) : Bool := decide (ks.length = 2) && isVal (ks.getD 0 0) && decide (ks.getD 1 0 = 20)

theorem cell_old (w : World) (o : Obj) {b j : Nat} (h : b < w.heap.size) : (w.alloc o).cell? ⟨b, j, none⟩ = w.cell? ⟨b, j, none⟩ := by
  simp [World.cell?, Below.heap_alloc w o b h]

set_option maxRecDepth 100000 in
set_option maxHeartbeats 1600000 in
theorem takes_number (B : Nat) (kd nm : Int) (tx : ByteArray) (kv v : Value) (ks : List Int) (w : World) (_hB : B ≤ w.heap.size) (hv : RowI w B v ks) (hl : ks.length ≤ 12) :
    Calls Tryz.prog 151 #[.agg #[.int .i64 kd, .int .i64 nm, .string tx, kv], v] w fun e w' => e = .returned (.bool (tkLen0 ks)) ∧ Below w.heap.size w w' := by
  obtain ⟨a, cap, rfl⟩ := hv.len
  obtain ⟨N, HN⟩ : ∃ N, Hid (ks.length = N) := ⟨_, (rfl : ks.length = ks.length)⟩
  have HE : Hid (tkLen0 ks = decide (N = 0)) := by show _ = _; simp [tkLen0, HN.out]
  rw [HN.out] at hl ⊢
  clear hv
  by_cases h : N = 0
  · subst h
    go_enter Tryz.func151, Tryz.ntmps151
    go_wp2
    go_ret
    exact ⟨by rw [HE.out]; rfl, by go_grown⟩
  · have HE2 : Hid (tkLen0 ks = false) := by show _ = _; rw [HE.out]; simpa using h
    have h1 : ((N : Int) == 0) = false := by simp; omega
    go_enter Tryz.func151, Tryz.ntmps151
    go_wp2
    go_ret
    exact ⟨by rw [HE2.out]; rfl, by go_grown⟩

set_option maxRecDepth 100000 in
set_option maxHeartbeats 1600000 in
theorem takes_use (B : Nat) (kd nm : Int) (tx : ByteArray) (kv v : Value) (ks : List Int) (w : World) (_hB : B ≤ w.heap.size) (hv : RowI w B v ks) (hl : ks.length ≤ 12) :
    Calls Tryz.prog 152 #[.agg #[.int .i64 kd, .int .i64 nm, .string tx, kv], v] w fun e w' => e = .returned (.bool (tkLen0 ks)) ∧ Below w.heap.size w w' := by
  obtain ⟨a, cap, rfl⟩ := hv.len
  obtain ⟨N, HN⟩ : ∃ N, Hid (ks.length = N) := ⟨_, (rfl : ks.length = ks.length)⟩
  have HE : Hid (tkLen0 ks = decide (N = 0)) := by show _ = _; simp [tkLen0, HN.out]
  rw [HN.out] at hl ⊢
  clear hv
  by_cases h : N = 0
  · subst h
    go_enter Tryz.func152, Tryz.ntmps152
    go_wp2
    go_ret
    exact ⟨by rw [HE.out]; rfl, by go_grown⟩
  · have HE2 : Hid (tkLen0 ks = false) := by show _ = _; rw [HE.out]; simpa using h
    have h1 : ((N : Int) == 0) = false := by simp; omega
    go_enter Tryz.func152, Tryz.ntmps152
    go_wp2
    go_ret
    exact ⟨by rw [HE2.out]; rfl, by go_grown⟩

set_option maxRecDepth 100000 in
set_option maxHeartbeats 1600000 in
theorem takes_input (B : Nat) (kd nm : Int) (tx : ByteArray) (kv v : Value) (ks : List Int) (w : World) (_hB : B ≤ w.heap.size) (hv : RowI w B v ks) (hl : ks.length ≤ 12) :
    Calls Tryz.prog 153 #[.agg #[.int .i64 kd, .int .i64 nm, .string tx, kv], v] w fun e w' => e = .returned (.bool (tkLen0 ks)) ∧ Below w.heap.size w w' := by
  obtain ⟨a, cap, rfl⟩ := hv.len
  obtain ⟨N, HN⟩ : ∃ N, Hid (ks.length = N) := ⟨_, (rfl : ks.length = ks.length)⟩
  have HE : Hid (tkLen0 ks = decide (N = 0)) := by show _ = _; simp [tkLen0, HN.out]
  rw [HN.out] at hl ⊢
  clear hv
  by_cases h : N = 0
  · subst h
    go_enter Tryz.func153, Tryz.ntmps153
    go_wp2
    go_ret
    exact ⟨by rw [HE.out]; rfl, by go_grown⟩
  · have HE2 : Hid (tkLen0 ks = false) := by show _ = _; rw [HE.out]; simpa using h
    have h1 : ((N : Int) == 0) = false := by simp; omega
    go_enter Tryz.func153, Tryz.ntmps153
    go_wp2
    go_ret
    exact ⟨by rw [HE2.out]; rfl, by go_grown⟩

set_option maxRecDepth 100000 in
set_option maxHeartbeats 1600000 in
theorem takes_new (B : Nat) (kd nm : Int) (tx : ByteArray) (kv v : Value) (ks : List Int) (w : World) (hB : B ≤ w.heap.size) (hv : RowI w B v ks) (hl : ks.length ≤ 12) :
    Calls Tryz.prog 154 #[.agg #[.int .i64 kd, .int .i64 nm, .string tx, kv], v] w fun e w' => e = .returned (.bool (tkVal 1 ks)) ∧ Below w.heap.size w w' := by
  obtain ⟨a, cap, rfl⟩ := hv.len
  obtain ⟨N, HN⟩ : ∃ N, Hid (ks.length = N) := ⟨_, (rfl : ks.length = ks.length)⟩
  obtain ⟨r, hr⟩ : ∃ r, Hid (ks.all isVal = r) := ⟨_, (rfl : ks.all isVal = ks.all isVal)⟩
  have cA : Hid (∀ W, Below w.heap.size w W → Calls Tryz.prog 155 #[.slice a N cap, .func (.func 118) #[] #[]] W fun e w' => e = .returned (.bool r) ∧ Below W.heap.size W w') := fun W hW => by
    rw [← hr.out, ← HN.out]
    exact allVal_any B _ ks W (Nat.le_trans hB hW.size) (hv.keep (hW.mono hB)) (by omega)
  have HE : Hid (tkVal 1 ks = (decide (N = 1) && r)) := by show _ = _; simp [tkVal, HN.out, hr.out]
  rw [HN.out] at hl ⊢
  clear hv
  by_cases h : N = 1
  · have HE2 : Hid (tkVal 1 ks = r) := by show _ = _; rw [HE.out]; simp [h]
    subst h
    go_enter Tryz.func154, Tryz.ntmps154
    go_wp2_with fail
    go_at_call 155
    refine Calls.mono (cA.out _ (by go_grown)) ?_
    rintro e w1 ⟨rfl, hb⟩
    have HB : Hid (Below w.heap.size w w1) := ((Below.refl _ _).alloc (Nat.le_refl _) _).trans (hb.mono (by simp))
    clear hb
    go_wp2
    go_ret
    exact ⟨by rw [HE2.out]; rfl, HB.out⟩
  · have HE2 : Hid (tkVal 1 ks = false) := by show _ = _; rw [HE.out]; simp [h]
    have h1 : ((N : Int) == 1) = false := by simp; omega
    go_enter Tryz.func154, Tryz.ntmps154
    go_wp2
    go_ret
    exact ⟨by rw [HE2.out]; rfl, by go_grown⟩

set_option maxRecDepth 100000 in
set_option maxHeartbeats 1600000 in
theorem takes_pair (B : Nat) (kd nm : Int) (tx : ByteArray) (kv v : Value) (ks : List Int) (w : World) (hB : B ≤ w.heap.size) (hv : RowI w B v ks) (hl : ks.length ≤ 12) :
    Calls Tryz.prog 156 #[.agg #[.int .i64 kd, .int .i64 nm, .string tx, kv], v] w fun e w' => e = .returned (.bool (tkVal 2 ks)) ∧ Below w.heap.size w w' := by
  obtain ⟨a, cap, rfl⟩ := hv.len
  obtain ⟨N, HN⟩ : ∃ N, Hid (ks.length = N) := ⟨_, (rfl : ks.length = ks.length)⟩
  obtain ⟨r, hr⟩ : ∃ r, Hid (ks.all isVal = r) := ⟨_, (rfl : ks.all isVal = ks.all isVal)⟩
  have cA : Hid (∀ W, Below w.heap.size w W → Calls Tryz.prog 155 #[.slice a N cap, .func (.func 118) #[] #[]] W fun e w' => e = .returned (.bool r) ∧ Below W.heap.size W w') := fun W hW => by
    rw [← hr.out, ← HN.out]
    exact allVal_any B _ ks W (Nat.le_trans hB hW.size) (hv.keep (hW.mono hB)) (by omega)
  have HE : Hid (tkVal 2 ks = (decide (N = 2) && r)) := by show _ = _; simp [tkVal, HN.out, hr.out]
  rw [HN.out] at hl ⊢
  clear hv
  by_cases h : N = 2
  · have HE2 : Hid (tkVal 2 ks = r) := by show _ = _; rw [HE.out]; simp [h]
    subst h
    go_enter Tryz.func156, Tryz.ntmps156
    go_wp2_with fail
    go_at_call 155
    refine Calls.mono (cA.out _ (by go_grown)) ?_
    rintro e w1 ⟨rfl, hb⟩
    have HB : Hid (Below w.heap.size w w1) := ((Below.refl _ _).alloc (Nat.le_refl _) _).trans (hb.mono (by simp))
    clear hb
    go_wp2
    go_ret
    exact ⟨by rw [HE2.out]; rfl, HB.out⟩
  · have HE2 : Hid (tkVal 2 ks = false) := by show _ = _; rw [HE.out]; simp [h]
    have h1 : ((N : Int) == 2) = false := by simp; omega
    go_enter Tryz.func156, Tryz.ntmps156
    go_wp2
    go_ret
    exact ⟨by rw [HE2.out]; rfl, by go_grown⟩

set_option maxRecDepth 100000 in
set_option maxHeartbeats 1600000 in
theorem takes_call (B : Nat) (kd nm : Int) (tx : ByteArray) (kv v : Value) (ks : List Int) (w : World) (hB : B ≤ w.heap.size) (hv : RowI w B v ks) (hl : ks.length ≤ 12) :
    Calls Tryz.prog 157 #[.agg #[.int .i64 kd, .int .i64 nm, .string tx, kv], v] w fun e w' => e = .returned (.bool (tkCall ks)) ∧ Below w.heap.size w w' := by
  obtain ⟨a, cap, rfl⟩ := hv.len
  obtain ⟨N, HN⟩ : ∃ N, Hid (ks.length = N) := ⟨_, (rfl : ks.length = ks.length)⟩
  obtain ⟨r, hr⟩ : ∃ r, Hid (ks.all isVal = r) := ⟨_, (rfl : ks.all isVal = ks.all isVal)⟩
  have cA : Hid (∀ W, Below w.heap.size w W → Calls Tryz.prog 155 #[.slice a N cap, .func (.func 118) #[] #[]] W fun e w' => e = .returned (.bool r) ∧ Below W.heap.size W w') := fun W hW => by
    rw [← hr.out, ← HN.out]
    exact allVal_any B _ ks W (Nat.le_trans hB hW.size) (hv.keep (hW.mono hB)) (by omega)
  have HE : Hid (tkCall ks = (decide (N ≤ 3) && r)) := by show _ = _; simp [tkCall, HN.out, hr.out]
  rw [HN.out] at hl ⊢
  clear hv
  by_cases h : N ≤ 3
  · have HE2 : Hid (tkCall ks = r) := by show _ = _; rw [HE.out]; simp [h]
    have h1 : (N : Int) ≤ 3 := by omega
    go_enter Tryz.func157, Tryz.ntmps157
    go_wp2_with fail
    go_at_call 155
    refine Calls.mono (cA.out _ (by go_grown)) ?_
    rintro e w1 ⟨rfl, hb⟩
    have HB : Hid (Below w.heap.size w w1) := ((Below.refl _ _).alloc (Nat.le_refl _) _).trans (hb.mono (by simp))
    clear hb
    go_wp2
    go_ret
    exact ⟨by rw [HE2.out]; rfl, HB.out⟩
  · have HE2 : Hid (tkCall ks = false) := by show _ = _; rw [HE.out]; simp [h]
    have h1 : ¬ (N : Int) ≤ 3 := by omega
    go_enter Tryz.func157, Tryz.ntmps157
    go_wp2
    go_ret
    exact ⟨by rw [HE2.out]; rfl, by go_grown⟩

set_option maxRecDepth 100000 in
set_option maxHeartbeats 1600000 in
theorem takes_hold (B : Nat) (kd nm : Int) (tx : ByteArray) (kv v : Value) (ks : List Int) (w : World) (hB : B ≤ w.heap.size) (hv : RowI w B v ks) (hl : ks.length ≤ 12) :
    Calls Tryz.prog 158 #[.agg #[.int .i64 kd, .int .i64 nm, .string tx, kv], v] w fun e w' => e = .returned (.bool (tkVal 1 ks)) ∧ Below w.heap.size w w' := by
  obtain ⟨a, cap, rfl⟩ := hv.len
  obtain ⟨N, HN⟩ : ∃ N, Hid (ks.length = N) := ⟨_, (rfl : ks.length = ks.length)⟩
  obtain ⟨r, hr⟩ : ∃ r, Hid (ks.all isVal = r) := ⟨_, (rfl : ks.all isVal = ks.all isVal)⟩
  have cA : Hid (∀ W, Below w.heap.size w W → Calls Tryz.prog 155 #[.slice a N cap, .func (.func 118) #[] #[]] W fun e w' => e = .returned (.bool r) ∧ Below W.heap.size W w') := fun W hW => by
    rw [← hr.out, ← HN.out]
    exact allVal_any B _ ks W (Nat.le_trans hB hW.size) (hv.keep (hW.mono hB)) (by omega)
  have HE : Hid (tkVal 1 ks = (decide (N = 1) && r)) := by show _ = _; simp [tkVal, HN.out, hr.out]
  rw [HN.out] at hl ⊢
  clear hv
  by_cases h : N = 1
  · have HE2 : Hid (tkVal 1 ks = r) := by show _ = _; rw [HE.out]; simp [h]
    subst h
    go_enter Tryz.func158, Tryz.ntmps158
    go_wp2_with fail
    go_at_call 155
    refine Calls.mono (cA.out _ (by go_grown)) ?_
    rintro e w1 ⟨rfl, hb⟩
    have HB : Hid (Below w.heap.size w w1) := ((Below.refl _ _).alloc (Nat.le_refl _) _).trans (hb.mono (by simp))
    clear hb
    go_wp2
    go_ret
    exact ⟨by rw [HE2.out]; rfl, HB.out⟩
  · have HE2 : Hid (tkVal 1 ks = false) := by show _ = _; rw [HE.out]; simp [h]
    have h1 : ((N : Int) == 1) = false := by simp; omega
    go_enter Tryz.func158, Tryz.ntmps158
    go_wp2
    go_ret
    exact ⟨by rw [HE2.out]; rfl, by go_grown⟩

set_option maxRecDepth 100000 in
set_option maxHeartbeats 1600000 in
theorem takes_if (B : Nat) (kd nm : Int) (tx : ByteArray) (kv v : Value) (ks : List Int) (w : World) (_hB : B ≤ w.heap.size) (hv : RowI w B v ks) (hl : ks.length ≤ 12) :
    Calls Tryz.prog 159 #[.agg #[.int .i64 kd, .int .i64 nm, .string tx, kv], v] w fun e w' => e = .returned (.bool (tkIf ks)) ∧ Below w.heap.size w w' := by
  obtain ⟨a, cap, rfl⟩ := hv.len
  by_cases hN : ks.length = 3
  · obtain ⟨x0, x1, x2, rfl⟩ : ∃ x0 x1 x2, ks = [x0, x1, x2] := by
      match ks, hN with
      | [x0, x1, x2], _ => exact ⟨_, _, _, rfl⟩
    obtain ⟨b, o, rfl, hb, c0⟩ := RowI.at hv 0 (by simp)
    obtain ⟨b1, o1, e1, hb1, c1⟩ := RowI.at hv 1 (by simp)
    cases e1
    obtain ⟨b2, o2, e2, hb2, c2⟩ := RowI.at hv 2 (by simp)
    cases e2
    simp only [List.getElem_cons_zero, List.getElem_cons_succ, Nat.add_zero] at c0 c1 c2
    clear hv hN hl
    simp only [List.length_cons, List.length_nil, Nat.zero_add, Nat.reduceAdd]
    have cV : Hid (∀ W, Calls Tryz.prog 118 #[.int .i64 x0] W fun e w' => e = .returned (.bool (isVal x0)) ∧ w' = W) := fun W => isValue_any x0 W
    cases hv0 : isVal x0
    · rw [hv0] at cV
      have HE : Hid (tkIf [x0, x1, x2] = false) := by show _ = _; simp [tkIf, hv0]
      have d0 : ∀ o1 : Obj, (w.alloc o1).cell? ⟨b, o, none⟩ = w.cell? ⟨b, o, none⟩ := fun o1 => cell_old w o1 (Nat.lt_of_lt_of_le hb _hB)
      have d1 : ∀ o1 : Obj, (w.alloc o1).cell? ⟨b, o + 1, none⟩ = w.cell? ⟨b, o + 1, none⟩ := fun o1 => cell_old w o1 (Nat.lt_of_lt_of_le hb _hB)
      have d2 : ∀ o1 : Obj, (w.alloc o1).cell? ⟨b, o + 2, none⟩ = w.cell? ⟨b, o + 2, none⟩ := fun o1 => cell_old w o1 (Nat.lt_of_lt_of_le hb _hB)
      go_enter Tryz.func159, Tryz.ntmps159
      go_wp2_with (go_at_call 118; refine Calls.mono (cV.out _) ?_; rintro e w1 ⟨rfl, h⟩; obtain rfl := h.symm)
      go_ret
      exact ⟨by rw [HE.out]; rfl, by go_grown⟩
    · rw [hv0] at cV
      by_cases h1 : x1 = 20
      · have g1 := h1
        by_cases h2 : x2 = 20
        · have g2 := h2
          have HE : Hid (tkIf [x0, x1, x2] = true) := by show _ = _; simp [tkIf, hv0, g1, g2]
          subst h1
          subst h2
          have d0 : ∀ o1 : Obj, (w.alloc o1).cell? ⟨b, o, none⟩ = w.cell? ⟨b, o, none⟩ := fun o1 => cell_old w o1 (Nat.lt_of_lt_of_le hb _hB)
          have d1 : ∀ o1 : Obj, (w.alloc o1).cell? ⟨b, o + 1, none⟩ = w.cell? ⟨b, o + 1, none⟩ := fun o1 => cell_old w o1 (Nat.lt_of_lt_of_le hb _hB)
          have d2 : ∀ o1 : Obj, (w.alloc o1).cell? ⟨b, o + 2, none⟩ = w.cell? ⟨b, o + 2, none⟩ := fun o1 => cell_old w o1 (Nat.lt_of_lt_of_le hb _hB)
          go_enter Tryz.func159, Tryz.ntmps159
          go_wp2_with (go_at_call 118; refine Calls.mono (cV.out _) ?_; rintro e w1 ⟨rfl, h⟩; obtain rfl := h.symm)
          go_ret
          exact ⟨by rw [HE.out]; rfl, by go_grown⟩
        · have HE : Hid (tkIf [x0, x1, x2] = false) := by show _ = _; simp [tkIf, h2]
          have g2 : (x2 == 20) = false := by simpa using h2
          clear h2
          subst h1
          have d0 : ∀ o1 : Obj, (w.alloc o1).cell? ⟨b, o, none⟩ = w.cell? ⟨b, o, none⟩ := fun o1 => cell_old w o1 (Nat.lt_of_lt_of_le hb _hB)
          have d1 : ∀ o1 : Obj, (w.alloc o1).cell? ⟨b, o + 1, none⟩ = w.cell? ⟨b, o + 1, none⟩ := fun o1 => cell_old w o1 (Nat.lt_of_lt_of_le hb _hB)
          have d2 : ∀ o1 : Obj, (w.alloc o1).cell? ⟨b, o + 2, none⟩ = w.cell? ⟨b, o + 2, none⟩ := fun o1 => cell_old w o1 (Nat.lt_of_lt_of_le hb _hB)
          go_enter Tryz.func159, Tryz.ntmps159
          go_wp2_with (go_at_call 118; refine Calls.mono (cV.out _) ?_; rintro e w1 ⟨rfl, h⟩; obtain rfl := h.symm)
          go_ret
          exact ⟨by rw [HE.out]; rfl, by go_grown⟩
      · have HE : Hid (tkIf [x0, x1, x2] = false) := by show _ = _; simp [tkIf, h1]
        have g1 : (x1 == 20) = false := by simpa using h1
        clear h1
        have d0 : ∀ o1 : Obj, (w.alloc o1).cell? ⟨b, o, none⟩ = w.cell? ⟨b, o, none⟩ := fun o1 => cell_old w o1 (Nat.lt_of_lt_of_le hb _hB)
        have d1 : ∀ o1 : Obj, (w.alloc o1).cell? ⟨b, o + 1, none⟩ = w.cell? ⟨b, o + 1, none⟩ := fun o1 => cell_old w o1 (Nat.lt_of_lt_of_le hb _hB)
        have d2 : ∀ o1 : Obj, (w.alloc o1).cell? ⟨b, o + 2, none⟩ = w.cell? ⟨b, o + 2, none⟩ := fun o1 => cell_old w o1 (Nat.lt_of_lt_of_le hb _hB)
        go_enter Tryz.func159, Tryz.ntmps159
        go_wp2_with (go_at_call 118; refine Calls.mono (cV.out _) ?_; rintro e w1 ⟨rfl, h⟩; obtain rfl := h.symm)
        go_ret
        exact ⟨by rw [HE.out]; rfl, by go_grown⟩
  · have HE : Hid (tkIf ks = false) := by show _ = _; simp [tkIf, hN]
    obtain ⟨N, HN⟩ : ∃ N, Hid (ks.length = N) := ⟨_, (rfl : ks.length = ks.length)⟩
    have h1 : (((N : Nat) : Int) == 3) = false := by simp; have := HN.out; omega
    rw [HN.out] at hl ⊢
    clear hv hN
    go_enter Tryz.func159, Tryz.ntmps159
    go_wp2
    go_ret
    exact ⟨by rw [HE.out]; rfl, by go_grown⟩

set_option maxRecDepth 100000 in
set_option maxHeartbeats 1600000 in
theorem takes_while (B : Nat) (kd nm : Int) (tx : ByteArray) (kv v : Value) (ks : List Int) (w : World) (_hB : B ≤ w.heap.size) (hv : RowI w B v ks) (hl : ks.length ≤ 12) :
    Calls Tryz.prog 160 #[.agg #[.int .i64 kd, .int .i64 nm, .string tx, kv], v] w fun e w' => e = .returned (.bool (tkWhile ks)) ∧ Below w.heap.size w w' := by
  obtain ⟨a, cap, rfl⟩ := hv.len
  by_cases hN : ks.length = 2
  · obtain ⟨x0, x1, rfl⟩ : ∃ x0 x1, ks = [x0, x1] := by
      match ks, hN with
      | [x0, x1], _ => exact ⟨_, _, rfl⟩
    obtain ⟨b, o, rfl, hb, c0⟩ := RowI.at hv 0 (by simp)
    obtain ⟨b1, o1, e1, hb1, c1⟩ := RowI.at hv 1 (by simp)
    cases e1
    simp only [List.getElem_cons_zero, List.getElem_cons_succ, Nat.add_zero] at c0 c1
    clear hv hN hl
    simp only [List.length_cons, List.length_nil, Nat.zero_add, Nat.reduceAdd]
    have cV : Hid (∀ W, Calls Tryz.prog 118 #[.int .i64 x0] W fun e w' => e = .returned (.bool (isVal x0)) ∧ w' = W) := fun W => isValue_any x0 W
    cases hv0 : isVal x0
    · rw [hv0] at cV
      have HE : Hid (tkWhile [x0, x1] = false) := by show _ = _; simp [tkWhile, hv0]
      have d0 : ∀ o1 : Obj, (w.alloc o1).cell? ⟨b, o, none⟩ = w.cell? ⟨b, o, none⟩ := fun o1 => cell_old w o1 (Nat.lt_of_lt_of_le hb _hB)
      have d1 : ∀ o1 : Obj, (w.alloc o1).cell? ⟨b, o + 1, none⟩ = w.cell? ⟨b, o + 1, none⟩ := fun o1 => cell_old w o1 (Nat.lt_of_lt_of_le hb _hB)
      go_enter Tryz.func160, Tryz.ntmps160
      go_wp2_with (go_at_call 118; refine Calls.mono (cV.out _) ?_; rintro e w1 ⟨rfl, h⟩; obtain rfl := h.symm)
      go_ret
      exact ⟨by rw [HE.out]; rfl, by go_grown⟩
    · rw [hv0] at cV
      by_cases h1 : x1 = 20
      · have g1 := h1
        have HE : Hid (tkWhile [x0, x1] = true) := by show _ = _; simp [tkWhile, hv0, g1]
        subst h1
        have d0 : ∀ o1 : Obj, (w.alloc o1).cell? ⟨b, o, none⟩ = w.cell? ⟨b, o, none⟩ := fun o1 => cell_old w o1 (Nat.lt_of_lt_of_le hb _hB)
        have d1 : ∀ o1 : Obj, (w.alloc o1).cell? ⟨b, o + 1, none⟩ = w.cell? ⟨b, o + 1, none⟩ := fun o1 => cell_old w o1 (Nat.lt_of_lt_of_le hb _hB)
        go_enter Tryz.func160, Tryz.ntmps160
        go_wp2_with (go_at_call 118; refine Calls.mono (cV.out _) ?_; rintro e w1 ⟨rfl, h⟩; obtain rfl := h.symm)
        go_ret
        exact ⟨by rw [HE.out]; rfl, by go_grown⟩
      · have HE : Hid (tkWhile [x0, x1] = false) := by show _ = _; simp [tkWhile, h1]
        have g1 : (x1 == 20) = false := by simpa using h1
        clear h1
        have d0 : ∀ o1 : Obj, (w.alloc o1).cell? ⟨b, o, none⟩ = w.cell? ⟨b, o, none⟩ := fun o1 => cell_old w o1 (Nat.lt_of_lt_of_le hb _hB)
        have d1 : ∀ o1 : Obj, (w.alloc o1).cell? ⟨b, o + 1, none⟩ = w.cell? ⟨b, o + 1, none⟩ := fun o1 => cell_old w o1 (Nat.lt_of_lt_of_le hb _hB)
        go_enter Tryz.func160, Tryz.ntmps160
        go_wp2_with (go_at_call 118; refine Calls.mono (cV.out _) ?_; rintro e w1 ⟨rfl, h⟩; obtain rfl := h.symm)
        go_ret
        exact ⟨by rw [HE.out]; rfl, by go_grown⟩
  · have HE : Hid (tkWhile ks = false) := by show _ = _; simp [tkWhile, hN]
    obtain ⟨N, HN⟩ : ∃ N, Hid (ks.length = N) := ⟨_, (rfl : ks.length = ks.length)⟩
    have h1 : (((N : Nat) : Int) == 2) = false := by simp; have := HN.out; omega
    rw [HN.out] at hl ⊢
    clear hv hN
    go_enter Tryz.func160, Tryz.ntmps160
    go_wp2
    go_ret
    exact ⟨by rw [HE.out]; rfl, by go_grown⟩

set_option maxRecDepth 100000 in
set_option maxHeartbeats 1600000 in
theorem takes_print (B : Nat) (kd nm : Int) (tx : ByteArray) (kv v : Value) (ks : List Int) (w : World) (hB : B ≤ w.heap.size) (hv : RowI w B v ks) (hl : ks.length ≤ 12) :
    Calls Tryz.prog 161 #[.agg #[.int .i64 kd, .int .i64 nm, .string tx, kv], v] w fun e w' => e = .returned (.bool (tkVal 1 ks)) ∧ Below w.heap.size w w' := by
  obtain ⟨a, cap, rfl⟩ := hv.len
  obtain ⟨N, HN⟩ : ∃ N, Hid (ks.length = N) := ⟨_, (rfl : ks.length = ks.length)⟩
  obtain ⟨r, hr⟩ : ∃ r, Hid (ks.all isVal = r) := ⟨_, (rfl : ks.all isVal = ks.all isVal)⟩
  have cA : Hid (∀ W, Below w.heap.size w W → Calls Tryz.prog 155 #[.slice a N cap, .func (.func 118) #[] #[]] W fun e w' => e = .returned (.bool r) ∧ Below W.heap.size W w') := fun W hW => by
    rw [← hr.out, ← HN.out]
    exact allVal_any B _ ks W (Nat.le_trans hB hW.size) (hv.keep (hW.mono hB)) (by omega)
  have HE : Hid (tkVal 1 ks = (decide (N = 1) && r)) := by show _ = _; simp [tkVal, HN.out, hr.out]
  rw [HN.out] at hl ⊢
  clear hv
  by_cases h : N = 1
  · have HE2 : Hid (tkVal 1 ks = r) := by show _ = _; rw [HE.out]; simp [h]
    subst h
    go_enter Tryz.func161, Tryz.ntmps161
    go_wp2_with fail
    go_at_call 155
    refine Calls.mono (cA.out _ (by go_grown)) ?_
    rintro e w1 ⟨rfl, hb⟩
    have HB : Hid (Below w.heap.size w w1) := ((Below.refl _ _).alloc (Nat.le_refl _) _).trans (hb.mono (by simp))
    clear hb
    go_wp2
    go_ret
    exact ⟨by rw [HE2.out]; rfl, HB.out⟩
  · have HE2 : Hid (tkVal 1 ks = false) := by show _ = _; rw [HE.out]; simp [h]
    have h1 : ((N : Int) == 1) = false := by simp; omega
    go_enter Tryz.func161, Tryz.ntmps161
    go_wp2
    go_ret
    exact ⟨by rw [HE2.out]; rfl, by go_grown⟩

set_option maxRecDepth 100000 in
set_option maxHeartbeats 1600000 in
theorem takes_do (B : Nat) (kd nm : Int) (tx : ByteArray) (kv v : Value) (ks : List Int) (w : World) (_hB : B ≤ w.heap.size) (hv : RowI w B v ks) (hl : ks.length ≤ 12) :
    Calls Tryz.prog 162 #[.agg #[.int .i64 kd, .int .i64 nm, .string tx, kv], v] w fun e w' => e = .returned (.bool (tkDo ks)) ∧ Below w.heap.size w w' := by
  obtain ⟨a, cap, rfl⟩ := hv.len
  by_cases hN : ks.length = 1
  · obtain ⟨x0, rfl⟩ : ∃ x0, ks = [x0] := by
      match ks, hN with
      | [x0], _ => exact ⟨_, rfl⟩
    obtain ⟨b, o, rfl, hb, c0⟩ := RowI.at hv 0 (by simp)
    simp only [List.getElem_cons_zero, Nat.add_zero] at c0
    clear hv hN hl
    simp only [List.length_cons, List.length_nil, Nat.zero_add]
    by_cases h0 : x0 = 12
    · have g0 := h0
      have HE : Hid (tkDo [x0] = true) := by show _ = _; simp [tkDo, g0]
      subst h0
      have d0 : ∀ o1 : Obj, (w.alloc o1).cell? ⟨b, o, none⟩ = w.cell? ⟨b, o, none⟩ := fun o1 => cell_old w o1 (Nat.lt_of_lt_of_le hb _hB)
      go_enter Tryz.func162, Tryz.ntmps162
      go_wp2
      go_ret
      exact ⟨by rw [HE.out]; rfl, by go_grown⟩
    · have HE : Hid (tkDo [x0] = false) := by show _ = _; simp [tkDo, h0]
      have g0 : (x0 == 12) = false := by simpa using h0
      clear h0
      have d0 : ∀ o1 : Obj, (w.alloc o1).cell? ⟨b, o, none⟩ = w.cell? ⟨b, o, none⟩ := fun o1 => cell_old w o1 (Nat.lt_of_lt_of_le hb _hB)
      go_enter Tryz.func162, Tryz.ntmps162
      go_wp2
      go_ret
      exact ⟨by rw [HE.out]; rfl, by go_grown⟩
  · have HE : Hid (tkDo ks = false) := by show _ = _; simp [tkDo, hN]
    obtain ⟨N, HN⟩ : ∃ N, Hid (ks.length = N) := ⟨_, (rfl : ks.length = ks.length)⟩
    have h1 : (((N : Nat) : Int) == 1) = false := by simp; have := HN.out; omega
    rw [HN.out] at hl ⊢
    clear hv hN
    go_enter Tryz.func162, Tryz.ntmps162
    go_wp2
    go_ret
    exact ⟨by rw [HE.out]; rfl, by go_grown⟩

set_option maxRecDepth 100000 in
set_option maxHeartbeats 1600000 in
theorem takes_block (B : Nat) (kd nm : Int) (tx : ByteArray) (kv v : Value) (ks : List Int) (w : World) (hB : B ≤ w.heap.size) (hv : RowI w B v ks) (hl : ks.length ≤ 12) :
    Calls Tryz.prog 163 #[.agg #[.int .i64 kd, .int .i64 nm, .string tx, kv], v] w fun e w' => e = .returned (.bool (tkBlk ks)) ∧ Below w.heap.size w w' := by
  obtain ⟨a, cap, rfl⟩ := hv.len
  obtain ⟨N, HN⟩ : ∃ N, Hid (ks.length = N) := ⟨_, (rfl : ks.length = ks.length)⟩
  obtain ⟨r, hr⟩ : ∃ r, Hid (ks.all isStm = r) := ⟨_, (rfl : ks.all isStm = ks.all isStm)⟩
  have cA : Hid (∀ W, Below w.heap.size w W → Calls Tryz.prog 155 #[.slice a N cap, .func (.func 164) #[] #[]] W fun e w' => e = .returned (.bool r) ∧ Below W.heap.size W w') := fun W hW => by
    rw [← hr.out, ← HN.out]
    exact allStm_any B _ ks W (Nat.le_trans hB hW.size) (hv.keep (hW.mono hB)) (by omega)
  have HE : Hid (tkBlk ks = (decide (N ≤ 12) && r)) := by show _ = _; simp [tkBlk, HN.out, hr.out]
  rw [HN.out] at hl ⊢
  clear hv
  by_cases h : N ≤ 12
  · have HE2 : Hid (tkBlk ks = r) := by show _ = _; rw [HE.out]; simp [h]
    have h1 : (N : Int) ≤ 12 := by omega
    go_enter Tryz.func163, Tryz.ntmps163
    go_wp2_with fail
    go_at_call 155
    refine Calls.mono (cA.out _ (by go_grown)) ?_
    rintro e w1 ⟨rfl, hb⟩
    have HB : Hid (Below w.heap.size w w1) := ((Below.refl _ _).alloc (Nat.le_refl _) _).trans (hb.mono (by simp))
    clear hb
    go_wp2
    go_ret
    exact ⟨by rw [HE2.out]; rfl, HB.out⟩
  · have HE2 : Hid (tkBlk ks = false) := by show _ = _; rw [HE.out]; simp [h]
    have h1 : ¬ (N : Int) ≤ 12 := by omega
    go_enter Tryz.func163, Tryz.ntmps163
    go_wp2
    go_ret
    exact ⟨by rw [HE2.out]; rfl, by go_grown⟩


end Go.Proofs.YtljphnjmeckpbaaGreat
