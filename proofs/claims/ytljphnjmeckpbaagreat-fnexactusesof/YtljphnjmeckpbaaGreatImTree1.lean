/-
  Chapter 4, in the program: nodes are types behind one interface. What partOf, saysRight and takes answer, type by type. Written by mkparts.py.
-/
import Derived.Test.YtljphnjmeckpbaaGreatImTree0
import Derived.Test.YtljphnjmeckpbaaGreatSgName
namespace Go.Proofs.YtljphnjmeckpbaaGreat
open Go.RowKit

set_option maxRecDepth 100000 in
set_option maxHeartbeats 1600000 in
theorem partOf_number (kd nm : Int) (tx : ByteArray) (kv : Value) (w : World) (h : kd = 1) :
    Calls Tryz.prog 113 #[.agg #[.int .i64 kd, .int .i64 nm, .string tx, kv]] w fun e w' => e = .returned (.iface 156 (.agg #[.int .i64 kd, .int .i64 nm, .string tx, kv])) ∧ Below w.heap.size w w' := by
  subst h
  all_goals
    go_enter Tryz.func113, Tryz.ntmps113
    go_wp2
    go_ret
    exact ⟨rfl, by go_grown⟩

set_option maxRecDepth 100000 in
set_option maxHeartbeats 1600000 in
theorem partOf_use (kd nm : Int) (tx : ByteArray) (kv : Value) (w : World) (h : kd = 2 ∨ kd = 3 ∨ kd = 4 ∨ kd = 5 ∨ kd = 6) :
    Calls Tryz.prog 113 #[.agg #[.int .i64 kd, .int .i64 nm, .string tx, kv]] w fun e w' => e = .returned (.iface 157 (.agg #[.int .i64 kd, .int .i64 nm, .string tx, kv])) ∧ Below w.heap.size w w' := by
  rcases h with rfl | rfl | rfl | rfl | rfl
  all_goals
    go_enter Tryz.func113, Tryz.ntmps113
    go_wp2
    go_ret
    exact ⟨rfl, by go_grown⟩

set_option maxRecDepth 100000 in
set_option maxHeartbeats 1600000 in
theorem partOf_input (kd nm : Int) (tx : ByteArray) (kv : Value) (w : World) (h : kd = 7) :
    Calls Tryz.prog 113 #[.agg #[.int .i64 kd, .int .i64 nm, .string tx, kv]] w fun e w' => e = .returned (.iface 158 (.agg #[.int .i64 kd, .int .i64 nm, .string tx, kv])) ∧ Below w.heap.size w w' := by
  subst h
  all_goals
    go_enter Tryz.func113, Tryz.ntmps113
    go_wp2
    go_ret
    exact ⟨rfl, by go_grown⟩

set_option maxRecDepth 100000 in
set_option maxHeartbeats 1600000 in
theorem partOf_new (kd nm : Int) (tx : ByteArray) (kv : Value) (w : World) (h : kd = 8) :
    Calls Tryz.prog 113 #[.agg #[.int .i64 kd, .int .i64 nm, .string tx, kv]] w fun e w' => e = .returned (.iface 159 (.agg #[.int .i64 kd, .int .i64 nm, .string tx, kv])) ∧ Below w.heap.size w w' := by
  subst h
  all_goals
    go_enter Tryz.func113, Tryz.ntmps113
    go_wp2
    go_ret
    exact ⟨rfl, by go_grown⟩

set_option maxRecDepth 100000 in
set_option maxHeartbeats 1600000 in
theorem partOf_pair (kd nm : Int) (tx : ByteArray) (kv : Value) (w : World) (h : kd = 9 ∨ kd = 10 ∨ kd = 11) :
    Calls Tryz.prog 113 #[.agg #[.int .i64 kd, .int .i64 nm, .string tx, kv]] w fun e w' => e = .returned (.iface 160 (.agg #[.int .i64 kd, .int .i64 nm, .string tx, kv])) ∧ Below w.heap.size w w' := by
  rcases h with rfl | rfl | rfl
  all_goals
    go_enter Tryz.func113, Tryz.ntmps113
    go_wp2
    go_ret
    exact ⟨rfl, by go_grown⟩

set_option maxRecDepth 100000 in
set_option maxHeartbeats 1600000 in
theorem partOf_call (kd nm : Int) (tx : ByteArray) (kv : Value) (w : World) (h : kd = 12) :
    Calls Tryz.prog 113 #[.agg #[.int .i64 kd, .int .i64 nm, .string tx, kv]] w fun e w' => e = .returned (.iface 161 (.agg #[.int .i64 kd, .int .i64 nm, .string tx, kv])) ∧ Below w.heap.size w w' := by
  subst h
  all_goals
    go_enter Tryz.func113, Tryz.ntmps113
    go_wp2
    go_ret
    exact ⟨rfl, by go_grown⟩

set_option maxRecDepth 100000 in
set_option maxHeartbeats 1600000 in
theorem partOf_hold (kd nm : Int) (tx : ByteArray) (kv : Value) (w : World) (h : kd = 13 ∨ kd = 14 ∨ kd = 15) :
    Calls Tryz.prog 113 #[.agg #[.int .i64 kd, .int .i64 nm, .string tx, kv]] w fun e w' => e = .returned (.iface 162 (.agg #[.int .i64 kd, .int .i64 nm, .string tx, kv])) ∧ Below w.heap.size w w' := by
  rcases h with rfl | rfl | rfl
  all_goals
    go_enter Tryz.func113, Tryz.ntmps113
    go_wp2
    go_ret
    exact ⟨rfl, by go_grown⟩

set_option maxRecDepth 100000 in
set_option maxHeartbeats 1600000 in
theorem partOf_if (kd nm : Int) (tx : ByteArray) (kv : Value) (w : World) (h : kd = 16) :
    Calls Tryz.prog 113 #[.agg #[.int .i64 kd, .int .i64 nm, .string tx, kv]] w fun e w' => e = .returned (.iface 163 (.agg #[.int .i64 kd, .int .i64 nm, .string tx, kv])) ∧ Below w.heap.size w w' := by
  subst h
  all_goals
    go_enter Tryz.func113, Tryz.ntmps113
    go_wp2
    go_ret
    exact ⟨rfl, by go_grown⟩

set_option maxRecDepth 100000 in
set_option maxHeartbeats 1600000 in
theorem partOf_while (kd nm : Int) (tx : ByteArray) (kv : Value) (w : World) (h : kd = 17) :
    Calls Tryz.prog 113 #[.agg #[.int .i64 kd, .int .i64 nm, .string tx, kv]] w fun e w' => e = .returned (.iface 164 (.agg #[.int .i64 kd, .int .i64 nm, .string tx, kv])) ∧ Below w.heap.size w w' := by
  subst h
  all_goals
    go_enter Tryz.func113, Tryz.ntmps113
    go_wp2
    go_ret
    exact ⟨rfl, by go_grown⟩

set_option maxRecDepth 100000 in
set_option maxHeartbeats 1600000 in
theorem partOf_print (kd nm : Int) (tx : ByteArray) (kv : Value) (w : World) (h : kd = 18) :
    Calls Tryz.prog 113 #[.agg #[.int .i64 kd, .int .i64 nm, .string tx, kv]] w fun e w' => e = .returned (.iface 165 (.agg #[.int .i64 kd, .int .i64 nm, .string tx, kv])) ∧ Below w.heap.size w w' := by
  subst h
  all_goals
    go_enter Tryz.func113, Tryz.ntmps113
    go_wp2
    go_ret
    exact ⟨rfl, by go_grown⟩

set_option maxRecDepth 100000 in
set_option maxHeartbeats 1600000 in
theorem partOf_do (kd nm : Int) (tx : ByteArray) (kv : Value) (w : World) (h : kd = 19) :
    Calls Tryz.prog 113 #[.agg #[.int .i64 kd, .int .i64 nm, .string tx, kv]] w fun e w' => e = .returned (.iface 166 (.agg #[.int .i64 kd, .int .i64 nm, .string tx, kv])) ∧ Below w.heap.size w w' := by
  subst h
  all_goals
    go_enter Tryz.func113, Tryz.ntmps113
    go_wp2
    go_ret
    exact ⟨rfl, by go_grown⟩

set_option maxRecDepth 100000 in
set_option maxHeartbeats 1600000 in
theorem partOf_block (kd nm : Int) (tx : ByteArray) (kv : Value) (w : World) (h : kd = 20) :
    Calls Tryz.prog 113 #[.agg #[.int .i64 kd, .int .i64 nm, .string tx, kv]] w fun e w' => e = .returned (.iface 167 (.agg #[.int .i64 kd, .int .i64 nm, .string tx, kv])) ∧ Below w.heap.size w w' := by
  subst h
  all_goals
    go_enter Tryz.func113, Tryz.ntmps113
    go_wp2
    go_ret
    exact ⟨rfl, by go_grown⟩

set_option maxRecDepth 100000 in
set_option maxHeartbeats 1600000 in
theorem partOf_none (kd nm : Int) (tx : ByteArray) (kv : Value) (w : World) (h : kd < 1 ∨ 20 < kd) :
    Calls Tryz.prog 113 #[.agg #[.int .i64 kd, .int .i64 nm, .string tx, kv]] w fun e w' => e = .returned .nilIface ∧ Below w.heap.size w w' := by
  have a1 : (kd == 1) = false := by simp; omega
  have a2 : (kd == 2) = false := by simp; omega
  have a3 : (kd == 3) = false := by simp; omega
  have a4 : (kd == 4) = false := by simp; omega
  have a5 : (kd == 5) = false := by simp; omega
  have a6 : (kd == 6) = false := by simp; omega
  have a7 : (kd == 7) = false := by simp; omega
  have a8 : (kd == 8) = false := by simp; omega
  have a9 : (kd == 9) = false := by simp; omega
  have a10 : (kd == 10) = false := by simp; omega
  have a11 : (kd == 11) = false := by simp; omega
  have a12 : (kd == 12) = false := by simp; omega
  have a13 : (kd == 13) = false := by simp; omega
  have a14 : (kd == 14) = false := by simp; omega
  have a15 : (kd == 15) = false := by simp; omega
  have a16 : (kd == 16) = false := by simp; omega
  have a17 : (kd == 17) = false := by simp; omega
  have a18 : (kd == 18) = false := by simp; omega
  have a19 : (kd == 19) = false := by simp; omega
  have a20 : (kd == 20) = false := by simp; omega
  clear h
  go_enter Tryz.func113, Tryz.ntmps113
  go_wp2
  go_ret
  exact ⟨rfl, by go_grown⟩

theorem as_same {P : Program} {a xT : TypeId} {fs : Array Field} (hu : P.underlying a = some (.struct fs)) (v : Value) (w : World) : (Instr.typeAssert (.iface a v) xT a true).run P w = .ok (.tuple #[v, .bool true]) w := by
  simp [Instr.typeAssert, run_underlying hu]
theorem as_other {P : Program} {t a xT : TypeId} {z : Value} {fs : Array Field} (hu : P.underlying a = some (.struct fs)) (hne : t ≠ a) (hz : (P.info? a).map (·.zero) = some (some z)) (v : Value) (w : World) : (Instr.typeAssert (.iface t v) xT a true).run P w = .ok (.tuple #[z, .bool false]) w := by
  obtain ⟨j, hj, hz'⟩ := Option.map_eq_some_iff.1 hz
  simp [Instr.typeAssert, run_underlying hu, hne, zeroValue, typeInfo, hj, hz']

/-- What saysRight asks. -/
def saysNum (nm : Int) (tx : ByteArray) : Bool := isIn nm 0 1000000000 && decide (tx.size = 0)
def saysName (nm : Int) (tx : ByteArray) : Bool := decide (nm = 0) && nameOk tx
def saysNone (nm : Int) (tx : ByteArray) : Bool := decide (nm = 0) && decide (tx.size = 0)
theorem empty_listB : (⟨#[]⟩ : ByteArray).toList = [] := by rw [ByteArray.toList_eq]
theorem text_none {tx : ByteArray} (h : tx.size = 0) : tx = ⟨#[]⟩ := by
  cases tx with | mk d => simp [ByteArray.size] at h; simp [h]
theorem text_some {tx : ByteArray} (h : ¬ tx.size = 0) : (tx.toList == []) = false := by
  rw [ByteArray.toList_eq, beq_eq_false_iff_ne]
  intro e
  exact h (by rw [(show tx.size = tx.data.toList.length from rfl), e]; rfl)

set_option maxRecDepth 100000 in
set_option maxHeartbeats 1600000 in
theorem says_number (kd nm : Int) (tx : ByteArray) (kv : Value) (w : World) :
    Calls Tryz.prog 114 #[.iface 156 (.agg #[.int .i64 kd, .int .i64 nm, .string tx, kv]), .agg #[.int .i64 kd, .int .i64 nm, .string tx, kv]] w fun e w' => e = .returned (.bool (saysNum nm tx)) ∧ Below w.heap.size w w' := by
  have as_number : ∀ (v : Value) (W : World), (Instr.typeAssert (.iface 156 v) 139 156 true).run Tryz.prog W = .ok (.tuple #[v, .bool true]) W := fun v W => as_same Tryz.underlying156 v W
  have as_use : ∀ (v : Value) (W : World), (Instr.typeAssert (.iface 156 v) 139 157 true).run Tryz.prog W = .ok (.tuple #[.agg #[.int .i64 0, .int .i64 0, .string ByteArray.empty, .slice none 0 0], .bool false]) W := fun v W => as_other Tryz.underlying157 (by decide) (by kernel_rfl) v W
  have as_call : ∀ (v : Value) (W : World), (Instr.typeAssert (.iface 156 v) 139 161 true).run Tryz.prog W = .ok (.tuple #[.agg #[.int .i64 0, .int .i64 0, .string ByteArray.empty, .slice none 0 0], .bool false]) W := fun v W => as_other Tryz.underlying161 (by decide) (by kernel_rfl) v W
  have as_hold : ∀ (v : Value) (W : World), (Instr.typeAssert (.iface 156 v) 139 162 true).run Tryz.prog W = .ok (.tuple #[.agg #[.int .i64 0, .int .i64 0, .string ByteArray.empty, .slice none 0 0], .bool false]) W := fun v W => as_other Tryz.underlying162 (by decide) (by kernel_rfl) v W
  by_cases h0 : 0 ≤ nm
  · by_cases h1 : nm ≤ 1000000000
    · by_cases h2 : tx.size = 0
      · have HE : Hid (saysNum nm tx = true) := by show _ = _; simp [saysNum, isIn, h0, h1, h2]
        obtain rfl := text_none h2
        clear h2
        go_enter Tryz.func114, Tryz.ntmps114
        go_wp2
        go_ret
        exact ⟨by rw [HE.out]; rfl, by go_grown⟩
      · have HE : Hid (saysNum nm tx = false) := by show _ = _; simp [saysNum, h2]
        have e1 := text_some h2
        have e2 : (tx.toList == (⟨#[]⟩ : ByteArray).toList) = false := by rw [empty_listB]; exact e1
        clear h2
        go_enter Tryz.func114, Tryz.ntmps114
        go_wp2
        go_ret
        exact ⟨by rw [HE.out]; rfl, by go_grown⟩
    · have HE : Hid (saysNum nm tx = false) := by show _ = _; simp [saysNum, isIn, h1]
      go_enter Tryz.func114, Tryz.ntmps114
      go_wp2
      go_ret
      exact ⟨by rw [HE.out]; rfl, by go_grown⟩
  · have HE : Hid (saysNum nm tx = false) := by show _ = _; simp [saysNum, isIn, h0]
    go_enter Tryz.func114, Tryz.ntmps114
    go_wp2
    go_ret
    exact ⟨by rw [HE.out]; rfl, by go_grown⟩

set_option maxRecDepth 100000 in
set_option maxHeartbeats 1600000 in
theorem says_use (kd nm : Int) (tx : ByteArray) (kv : Value) (w : World) (ht : tx.size ≤ 1048576) :
    Calls Tryz.prog 114 #[.iface 157 (.agg #[.int .i64 kd, .int .i64 nm, .string tx, kv]), .agg #[.int .i64 kd, .int .i64 nm, .string tx, kv]] w fun e w' => e = .returned (.bool (saysName nm tx)) ∧ Below w.heap.size w w' := by
  have as_number : ∀ (v : Value) (W : World), (Instr.typeAssert (.iface 157 v) 139 156 true).run Tryz.prog W = .ok (.tuple #[.agg #[.int .i64 0, .int .i64 0, .string ByteArray.empty, .slice none 0 0], .bool false]) W := fun v W => as_other Tryz.underlying156 (by decide) (by kernel_rfl) v W
  have as_use : ∀ (v : Value) (W : World), (Instr.typeAssert (.iface 157 v) 139 157 true).run Tryz.prog W = .ok (.tuple #[v, .bool true]) W := fun v W => as_same Tryz.underlying157 v W
  have as_call : ∀ (v : Value) (W : World), (Instr.typeAssert (.iface 157 v) 139 161 true).run Tryz.prog W = .ok (.tuple #[.agg #[.int .i64 0, .int .i64 0, .string ByteArray.empty, .slice none 0 0], .bool false]) W := fun v W => as_other Tryz.underlying161 (by decide) (by kernel_rfl) v W
  have as_hold : ∀ (v : Value) (W : World), (Instr.typeAssert (.iface 157 v) 139 162 true).run Tryz.prog W = .ok (.tuple #[.agg #[.int .i64 0, .int .i64 0, .string ByteArray.empty, .slice none 0 0], .bool false]) W := fun v W => as_other Tryz.underlying162 (by decide) (by kernel_rfl) v W
  by_cases h0 : nm = 0
  · obtain ⟨ok, hok⟩ : ∃ r, Hid (nameOk tx = r) := ⟨_, (rfl : nameOk tx = nameOk tx)⟩
    have cO : Hid (∀ W, Calls Tryz.prog 83 #[.string tx] W fun e w' => e = .returned (.bool ok) ∧ Below W.heap.size W w') := fun W => by rw [← hok.out]; exact implNameOk_any tx W (Nat.le_trans ht (by unfold maxLen; omega))
    have HE : Hid (saysName nm tx = ok) := by show _ = _; simp [saysName, h0, hok.out]
    subst h0
    go_enter Tryz.func114, Tryz.ntmps114
    go_wp2_with (go_at_call 83; refine Calls.mono (cO.out _) ?_; rintro e w1 ⟨rfl, hb⟩)
    go_ret
    exact ⟨by rw [HE.out]; rfl, ((Below.refl _ _).alloc (Nat.le_refl _) _).trans (hb.mono (by simp))⟩
  · have HE : Hid (saysName nm tx = false) := by show _ = _; simp [saysName, h0]
    have e1 : (nm == 0) = false := by simpa using h0
    clear h0
    go_enter Tryz.func114, Tryz.ntmps114
    go_wp2
    go_ret
    exact ⟨by rw [HE.out]; rfl, by go_grown⟩

set_option maxRecDepth 100000 in
set_option maxHeartbeats 1600000 in
theorem says_input (kd nm : Int) (tx : ByteArray) (kv : Value) (w : World) :
    Calls Tryz.prog 114 #[.iface 158 (.agg #[.int .i64 kd, .int .i64 nm, .string tx, kv]), .agg #[.int .i64 kd, .int .i64 nm, .string tx, kv]] w fun e w' => e = .returned (.bool (saysNone nm tx)) ∧ Below w.heap.size w w' := by
  have as_number : ∀ (v : Value) (W : World), (Instr.typeAssert (.iface 158 v) 139 156 true).run Tryz.prog W = .ok (.tuple #[.agg #[.int .i64 0, .int .i64 0, .string ByteArray.empty, .slice none 0 0], .bool false]) W := fun v W => as_other Tryz.underlying156 (by decide) (by kernel_rfl) v W
  have as_use : ∀ (v : Value) (W : World), (Instr.typeAssert (.iface 158 v) 139 157 true).run Tryz.prog W = .ok (.tuple #[.agg #[.int .i64 0, .int .i64 0, .string ByteArray.empty, .slice none 0 0], .bool false]) W := fun v W => as_other Tryz.underlying157 (by decide) (by kernel_rfl) v W
  have as_call : ∀ (v : Value) (W : World), (Instr.typeAssert (.iface 158 v) 139 161 true).run Tryz.prog W = .ok (.tuple #[.agg #[.int .i64 0, .int .i64 0, .string ByteArray.empty, .slice none 0 0], .bool false]) W := fun v W => as_other Tryz.underlying161 (by decide) (by kernel_rfl) v W
  have as_hold : ∀ (v : Value) (W : World), (Instr.typeAssert (.iface 158 v) 139 162 true).run Tryz.prog W = .ok (.tuple #[.agg #[.int .i64 0, .int .i64 0, .string ByteArray.empty, .slice none 0 0], .bool false]) W := fun v W => as_other Tryz.underlying162 (by decide) (by kernel_rfl) v W
  by_cases h0 : nm = 0
  · by_cases h2 : tx.size = 0
    · have HE : Hid (saysNone nm tx = true) := by show _ = _; simp [saysNone, h0, h2]
      obtain rfl := text_none h2
      subst h0
      clear h2
      go_enter Tryz.func114, Tryz.ntmps114
      go_wp2
      go_ret
      exact ⟨by rw [HE.out]; rfl, by go_grown⟩
    · have HE : Hid (saysNone nm tx = false) := by show _ = _; simp [saysNone, h2]
      have e1 := text_some h2
      have e2 : (tx.toList == (⟨#[]⟩ : ByteArray).toList) = false := by rw [empty_listB]; exact e1
      subst h0
      clear h2
      go_enter Tryz.func114, Tryz.ntmps114
      go_wp2
      go_ret
      exact ⟨by rw [HE.out]; rfl, by go_grown⟩
  · have HE : Hid (saysNone nm tx = false) := by show _ = _; simp [saysNone, h0]
    have e1 : (nm == 0) = false := by simpa using h0
    clear h0
    go_enter Tryz.func114, Tryz.ntmps114
    go_wp2
    go_ret
    exact ⟨by rw [HE.out]; rfl, by go_grown⟩

set_option maxRecDepth 100000 in
set_option maxHeartbeats 1600000 in
theorem says_new (kd nm : Int) (tx : ByteArray) (kv : Value) (w : World) :
    Calls Tryz.prog 114 #[.iface 159 (.agg #[.int .i64 kd, .int .i64 nm, .string tx, kv]), .agg #[.int .i64 kd, .int .i64 nm, .string tx, kv]] w fun e w' => e = .returned (.bool (saysNone nm tx)) ∧ Below w.heap.size w w' := by
  have as_number : ∀ (v : Value) (W : World), (Instr.typeAssert (.iface 159 v) 139 156 true).run Tryz.prog W = .ok (.tuple #[.agg #[.int .i64 0, .int .i64 0, .string ByteArray.empty, .slice none 0 0], .bool false]) W := fun v W => as_other Tryz.underlying156 (by decide) (by kernel_rfl) v W
  have as_use : ∀ (v : Value) (W : World), (Instr.typeAssert (.iface 159 v) 139 157 true).run Tryz.prog W = .ok (.tuple #[.agg #[.int .i64 0, .int .i64 0, .string ByteArray.empty, .slice none 0 0], .bool false]) W := fun v W => as_other Tryz.underlying157 (by decide) (by kernel_rfl) v W
  have as_call : ∀ (v : Value) (W : World), (Instr.typeAssert (.iface 159 v) 139 161 true).run Tryz.prog W = .ok (.tuple #[.agg #[.int .i64 0, .int .i64 0, .string ByteArray.empty, .slice none 0 0], .bool false]) W := fun v W => as_other Tryz.underlying161 (by decide) (by kernel_rfl) v W
  have as_hold : ∀ (v : Value) (W : World), (Instr.typeAssert (.iface 159 v) 139 162 true).run Tryz.prog W = .ok (.tuple #[.agg #[.int .i64 0, .int .i64 0, .string ByteArray.empty, .slice none 0 0], .bool false]) W := fun v W => as_other Tryz.underlying162 (by decide) (by kernel_rfl) v W
  by_cases h0 : nm = 0
  · by_cases h2 : tx.size = 0
    · have HE : Hid (saysNone nm tx = true) := by show _ = _; simp [saysNone, h0, h2]
      obtain rfl := text_none h2
      subst h0
      clear h2
      go_enter Tryz.func114, Tryz.ntmps114
      go_wp2
      go_ret
      exact ⟨by rw [HE.out]; rfl, by go_grown⟩
    · have HE : Hid (saysNone nm tx = false) := by show _ = _; simp [saysNone, h2]
      have e1 := text_some h2
      have e2 : (tx.toList == (⟨#[]⟩ : ByteArray).toList) = false := by rw [empty_listB]; exact e1
      subst h0
      clear h2
      go_enter Tryz.func114, Tryz.ntmps114
      go_wp2
      go_ret
      exact ⟨by rw [HE.out]; rfl, by go_grown⟩
  · have HE : Hid (saysNone nm tx = false) := by show _ = _; simp [saysNone, h0]
    have e1 : (nm == 0) = false := by simpa using h0
    clear h0
    go_enter Tryz.func114, Tryz.ntmps114
    go_wp2
    go_ret
    exact ⟨by rw [HE.out]; rfl, by go_grown⟩

set_option maxRecDepth 100000 in
set_option maxHeartbeats 1600000 in
theorem says_pair (kd nm : Int) (tx : ByteArray) (kv : Value) (w : World) :
    Calls Tryz.prog 114 #[.iface 160 (.agg #[.int .i64 kd, .int .i64 nm, .string tx, kv]), .agg #[.int .i64 kd, .int .i64 nm, .string tx, kv]] w fun e w' => e = .returned (.bool (saysNone nm tx)) ∧ Below w.heap.size w w' := by
  have as_number : ∀ (v : Value) (W : World), (Instr.typeAssert (.iface 160 v) 139 156 true).run Tryz.prog W = .ok (.tuple #[.agg #[.int .i64 0, .int .i64 0, .string ByteArray.empty, .slice none 0 0], .bool false]) W := fun v W => as_other Tryz.underlying156 (by decide) (by kernel_rfl) v W
  have as_use : ∀ (v : Value) (W : World), (Instr.typeAssert (.iface 160 v) 139 157 true).run Tryz.prog W = .ok (.tuple #[.agg #[.int .i64 0, .int .i64 0, .string ByteArray.empty, .slice none 0 0], .bool false]) W := fun v W => as_other Tryz.underlying157 (by decide) (by kernel_rfl) v W
  have as_call : ∀ (v : Value) (W : World), (Instr.typeAssert (.iface 160 v) 139 161 true).run Tryz.prog W = .ok (.tuple #[.agg #[.int .i64 0, .int .i64 0, .string ByteArray.empty, .slice none 0 0], .bool false]) W := fun v W => as_other Tryz.underlying161 (by decide) (by kernel_rfl) v W
  have as_hold : ∀ (v : Value) (W : World), (Instr.typeAssert (.iface 160 v) 139 162 true).run Tryz.prog W = .ok (.tuple #[.agg #[.int .i64 0, .int .i64 0, .string ByteArray.empty, .slice none 0 0], .bool false]) W := fun v W => as_other Tryz.underlying162 (by decide) (by kernel_rfl) v W
  by_cases h0 : nm = 0
  · by_cases h2 : tx.size = 0
    · have HE : Hid (saysNone nm tx = true) := by show _ = _; simp [saysNone, h0, h2]
      obtain rfl := text_none h2
      subst h0
      clear h2
      go_enter Tryz.func114, Tryz.ntmps114
      go_wp2
      go_ret
      exact ⟨by rw [HE.out]; rfl, by go_grown⟩
    · have HE : Hid (saysNone nm tx = false) := by show _ = _; simp [saysNone, h2]
      have e1 := text_some h2
      have e2 : (tx.toList == (⟨#[]⟩ : ByteArray).toList) = false := by rw [empty_listB]; exact e1
      subst h0
      clear h2
      go_enter Tryz.func114, Tryz.ntmps114
      go_wp2
      go_ret
      exact ⟨by rw [HE.out]; rfl, by go_grown⟩
  · have HE : Hid (saysNone nm tx = false) := by show _ = _; simp [saysNone, h0]
    have e1 : (nm == 0) = false := by simpa using h0
    clear h0
    go_enter Tryz.func114, Tryz.ntmps114
    go_wp2
    go_ret
    exact ⟨by rw [HE.out]; rfl, by go_grown⟩

set_option maxRecDepth 100000 in
set_option maxHeartbeats 1600000 in
theorem says_call (kd nm : Int) (tx : ByteArray) (kv : Value) (w : World) (ht : tx.size ≤ 1048576) :
    Calls Tryz.prog 114 #[.iface 161 (.agg #[.int .i64 kd, .int .i64 nm, .string tx, kv]), .agg #[.int .i64 kd, .int .i64 nm, .string tx, kv]] w fun e w' => e = .returned (.bool (saysName nm tx)) ∧ Below w.heap.size w w' := by
  have as_number : ∀ (v : Value) (W : World), (Instr.typeAssert (.iface 161 v) 139 156 true).run Tryz.prog W = .ok (.tuple #[.agg #[.int .i64 0, .int .i64 0, .string ByteArray.empty, .slice none 0 0], .bool false]) W := fun v W => as_other Tryz.underlying156 (by decide) (by kernel_rfl) v W
  have as_use : ∀ (v : Value) (W : World), (Instr.typeAssert (.iface 161 v) 139 157 true).run Tryz.prog W = .ok (.tuple #[.agg #[.int .i64 0, .int .i64 0, .string ByteArray.empty, .slice none 0 0], .bool false]) W := fun v W => as_other Tryz.underlying157 (by decide) (by kernel_rfl) v W
  have as_call : ∀ (v : Value) (W : World), (Instr.typeAssert (.iface 161 v) 139 161 true).run Tryz.prog W = .ok (.tuple #[v, .bool true]) W := fun v W => as_same Tryz.underlying161 v W
  have as_hold : ∀ (v : Value) (W : World), (Instr.typeAssert (.iface 161 v) 139 162 true).run Tryz.prog W = .ok (.tuple #[.agg #[.int .i64 0, .int .i64 0, .string ByteArray.empty, .slice none 0 0], .bool false]) W := fun v W => as_other Tryz.underlying162 (by decide) (by kernel_rfl) v W
  by_cases h0 : nm = 0
  · obtain ⟨ok, hok⟩ : ∃ r, Hid (nameOk tx = r) := ⟨_, (rfl : nameOk tx = nameOk tx)⟩
    have cO : Hid (∀ W, Calls Tryz.prog 83 #[.string tx] W fun e w' => e = .returned (.bool ok) ∧ Below W.heap.size W w') := fun W => by rw [← hok.out]; exact implNameOk_any tx W (Nat.le_trans ht (by unfold maxLen; omega))
    have HE : Hid (saysName nm tx = ok) := by show _ = _; simp [saysName, h0, hok.out]
    subst h0
    go_enter Tryz.func114, Tryz.ntmps114
    go_wp2_with (go_at_call 83; refine Calls.mono (cO.out _) ?_; rintro e w1 ⟨rfl, hb⟩)
    go_ret
    exact ⟨by rw [HE.out]; rfl, ((Below.refl _ _).alloc (Nat.le_refl _) _).trans (hb.mono (by simp))⟩
  · have HE : Hid (saysName nm tx = false) := by show _ = _; simp [saysName, h0]
    have e1 : (nm == 0) = false := by simpa using h0
    clear h0
    go_enter Tryz.func114, Tryz.ntmps114
    go_wp2
    go_ret
    exact ⟨by rw [HE.out]; rfl, by go_grown⟩

set_option maxRecDepth 100000 in
set_option maxHeartbeats 1600000 in
theorem says_hold (kd nm : Int) (tx : ByteArray) (kv : Value) (w : World) (ht : tx.size ≤ 1048576) :
    Calls Tryz.prog 114 #[.iface 162 (.agg #[.int .i64 kd, .int .i64 nm, .string tx, kv]), .agg #[.int .i64 kd, .int .i64 nm, .string tx, kv]] w fun e w' => e = .returned (.bool (saysName nm tx)) ∧ Below w.heap.size w w' := by
  have as_number : ∀ (v : Value) (W : World), (Instr.typeAssert (.iface 162 v) 139 156 true).run Tryz.prog W = .ok (.tuple #[.agg #[.int .i64 0, .int .i64 0, .string ByteArray.empty, .slice none 0 0], .bool false]) W := fun v W => as_other Tryz.underlying156 (by decide) (by kernel_rfl) v W
  have as_use : ∀ (v : Value) (W : World), (Instr.typeAssert (.iface 162 v) 139 157 true).run Tryz.prog W = .ok (.tuple #[.agg #[.int .i64 0, .int .i64 0, .string ByteArray.empty, .slice none 0 0], .bool false]) W := fun v W => as_other Tryz.underlying157 (by decide) (by kernel_rfl) v W
  have as_call : ∀ (v : Value) (W : World), (Instr.typeAssert (.iface 162 v) 139 161 true).run Tryz.prog W = .ok (.tuple #[.agg #[.int .i64 0, .int .i64 0, .string ByteArray.empty, .slice none 0 0], .bool false]) W := fun v W => as_other Tryz.underlying161 (by decide) (by kernel_rfl) v W
  have as_hold : ∀ (v : Value) (W : World), (Instr.typeAssert (.iface 162 v) 139 162 true).run Tryz.prog W = .ok (.tuple #[v, .bool true]) W := fun v W => as_same Tryz.underlying162 v W
  by_cases h0 : nm = 0
  · obtain ⟨ok, hok⟩ : ∃ r, Hid (nameOk tx = r) := ⟨_, (rfl : nameOk tx = nameOk tx)⟩
    have cO : Hid (∀ W, Calls Tryz.prog 83 #[.string tx] W fun e w' => e = .returned (.bool ok) ∧ Below W.heap.size W w') := fun W => by rw [← hok.out]; exact implNameOk_any tx W (Nat.le_trans ht (by unfold maxLen; omega))
    have HE : Hid (saysName nm tx = ok) := by show _ = _; simp [saysName, h0, hok.out]
    subst h0
    go_enter Tryz.func114, Tryz.ntmps114
    go_wp2_with (go_at_call 83; refine Calls.mono (cO.out _) ?_; rintro e w1 ⟨rfl, hb⟩)
    go_ret
    exact ⟨by rw [HE.out]; rfl, ((Below.refl _ _).alloc (Nat.le_refl _) _).trans (hb.mono (by simp))⟩
  · have HE : Hid (saysName nm tx = false) := by show _ = _; simp [saysName, h0]
    have e1 : (nm == 0) = false := by simpa using h0
    clear h0
    go_enter Tryz.func114, Tryz.ntmps114
    go_wp2
    go_ret
    exact ⟨by rw [HE.out]; rfl, by go_grown⟩

set_option maxRecDepth 100000 in
set_option maxHeartbeats 1600000 in
theorem says_if (kd nm : Int) (tx : ByteArray) (kv : Value) (w : World) :
    Calls Tryz.prog 114 #[.iface 163 (.agg #[.int .i64 kd, .int .i64 nm, .string tx, kv]), .agg #[.int .i64 kd, .int .i64 nm, .string tx, kv]] w fun e w' => e = .returned (.bool (saysNone nm tx)) ∧ Below w.heap.size w w' := by
  have as_number : ∀ (v : Value) (W : World), (Instr.typeAssert (.iface 163 v) 139 156 true).run Tryz.prog W = .ok (.tuple #[.agg #[.int .i64 0, .int .i64 0, .string ByteArray.empty, .slice none 0 0], .bool false]) W := fun v W => as_other Tryz.underlying156 (by decide) (by kernel_rfl) v W
  have as_use : ∀ (v : Value) (W : World), (Instr.typeAssert (.iface 163 v) 139 157 true).run Tryz.prog W = .ok (.tuple #[.agg #[.int .i64 0, .int .i64 0, .string ByteArray.empty, .slice none 0 0], .bool false]) W := fun v W => as_other Tryz.underlying157 (by decide) (by kernel_rfl) v W
  have as_call : ∀ (v : Value) (W : World), (Instr.typeAssert (.iface 163 v) 139 161 true).run Tryz.prog W = .ok (.tuple #[.agg #[.int .i64 0, .int .i64 0, .string ByteArray.empty, .slice none 0 0], .bool false]) W := fun v W => as_other Tryz.underlying161 (by decide) (by kernel_rfl) v W
  have as_hold : ∀ (v : Value) (W : World), (Instr.typeAssert (.iface 163 v) 139 162 true).run Tryz.prog W = .ok (.tuple #[.agg #[.int .i64 0, .int .i64 0, .string ByteArray.empty, .slice none 0 0], .bool false]) W := fun v W => as_other Tryz.underlying162 (by decide) (by kernel_rfl) v W
  by_cases h0 : nm = 0
  · by_cases h2 : tx.size = 0
    · have HE : Hid (saysNone nm tx = true) := by show _ = _; simp [saysNone, h0, h2]
      obtain rfl := text_none h2
      subst h0
      clear h2
      go_enter Tryz.func114, Tryz.ntmps114
      go_wp2
      go_ret
      exact ⟨by rw [HE.out]; rfl, by go_grown⟩
    · have HE : Hid (saysNone nm tx = false) := by show _ = _; simp [saysNone, h2]
      have e1 := text_some h2
      have e2 : (tx.toList == (⟨#[]⟩ : ByteArray).toList) = false := by rw [empty_listB]; exact e1
      subst h0
      clear h2
      go_enter Tryz.func114, Tryz.ntmps114
      go_wp2
      go_ret
      exact ⟨by rw [HE.out]; rfl, by go_grown⟩
  · have HE : Hid (saysNone nm tx = false) := by show _ = _; simp [saysNone, h0]
    have e1 : (nm == 0) = false := by simpa using h0
    clear h0
    go_enter Tryz.func114, Tryz.ntmps114
    go_wp2
    go_ret
    exact ⟨by rw [HE.out]; rfl, by go_grown⟩

set_option maxRecDepth 100000 in
set_option maxHeartbeats 1600000 in
theorem says_while (kd nm : Int) (tx : ByteArray) (kv : Value) (w : World) :
    Calls Tryz.prog 114 #[.iface 164 (.agg #[.int .i64 kd, .int .i64 nm, .string tx, kv]), .agg #[.int .i64 kd, .int .i64 nm, .string tx, kv]] w fun e w' => e = .returned (.bool (saysNone nm tx)) ∧ Below w.heap.size w w' := by
  have as_number : ∀ (v : Value) (W : World), (Instr.typeAssert (.iface 164 v) 139 156 true).run Tryz.prog W = .ok (.tuple #[.agg #[.int .i64 0, .int .i64 0, .string ByteArray.empty, .slice none 0 0], .bool false]) W := fun v W => as_other Tryz.underlying156 (by decide) (by kernel_rfl) v W
  have as_use : ∀ (v : Value) (W : World), (Instr.typeAssert (.iface 164 v) 139 157 true).run Tryz.prog W = .ok (.tuple #[.agg #[.int .i64 0, .int .i64 0, .string ByteArray.empty, .slice none 0 0], .bool false]) W := fun v W => as_other Tryz.underlying157 (by decide) (by kernel_rfl) v W
  have as_call : ∀ (v : Value) (W : World), (Instr.typeAssert (.iface 164 v) 139 161 true).run Tryz.prog W = .ok (.tuple #[.agg #[.int .i64 0, .int .i64 0, .string ByteArray.empty, .slice none 0 0], .bool false]) W := fun v W => as_other Tryz.underlying161 (by decide) (by kernel_rfl) v W
  have as_hold : ∀ (v : Value) (W : World), (Instr.typeAssert (.iface 164 v) 139 162 true).run Tryz.prog W = .ok (.tuple #[.agg #[.int .i64 0, .int .i64 0, .string ByteArray.empty, .slice none 0 0], .bool false]) W := fun v W => as_other Tryz.underlying162 (by decide) (by kernel_rfl) v W
  by_cases h0 : nm = 0
  · by_cases h2 : tx.size = 0
    · have HE : Hid (saysNone nm tx = true) := by show _ = _; simp [saysNone, h0, h2]
      obtain rfl := text_none h2
      subst h0
      clear h2
      go_enter Tryz.func114, Tryz.ntmps114
      go_wp2
      go_ret
      exact ⟨by rw [HE.out]; rfl, by go_grown⟩
    · have HE : Hid (saysNone nm tx = false) := by show _ = _; simp [saysNone, h2]
      have e1 := text_some h2
      have e2 : (tx.toList == (⟨#[]⟩ : ByteArray).toList) = false := by rw [empty_listB]; exact e1
      subst h0
      clear h2
      go_enter Tryz.func114, Tryz.ntmps114
      go_wp2
      go_ret
      exact ⟨by rw [HE.out]; rfl, by go_grown⟩
  · have HE : Hid (saysNone nm tx = false) := by show _ = _; simp [saysNone, h0]
    have e1 : (nm == 0) = false := by simpa using h0
    clear h0
    go_enter Tryz.func114, Tryz.ntmps114
    go_wp2
    go_ret
    exact ⟨by rw [HE.out]; rfl, by go_grown⟩

set_option maxRecDepth 100000 in
set_option maxHeartbeats 1600000 in
theorem says_print (kd nm : Int) (tx : ByteArray) (kv : Value) (w : World) :
    Calls Tryz.prog 114 #[.iface 165 (.agg #[.int .i64 kd, .int .i64 nm, .string tx, kv]), .agg #[.int .i64 kd, .int .i64 nm, .string tx, kv]] w fun e w' => e = .returned (.bool (saysNone nm tx)) ∧ Below w.heap.size w w' := by
  have as_number : ∀ (v : Value) (W : World), (Instr.typeAssert (.iface 165 v) 139 156 true).run Tryz.prog W = .ok (.tuple #[.agg #[.int .i64 0, .int .i64 0, .string ByteArray.empty, .slice none 0 0], .bool false]) W := fun v W => as_other Tryz.underlying156 (by decide) (by kernel_rfl) v W
  have as_use : ∀ (v : Value) (W : World), (Instr.typeAssert (.iface 165 v) 139 157 true).run Tryz.prog W = .ok (.tuple #[.agg #[.int .i64 0, .int .i64 0, .string ByteArray.empty, .slice none 0 0], .bool false]) W := fun v W => as_other Tryz.underlying157 (by decide) (by kernel_rfl) v W
  have as_call : ∀ (v : Value) (W : World), (Instr.typeAssert (.iface 165 v) 139 161 true).run Tryz.prog W = .ok (.tuple #[.agg #[.int .i64 0, .int .i64 0, .string ByteArray.empty, .slice none 0 0], .bool false]) W := fun v W => as_other Tryz.underlying161 (by decide) (by kernel_rfl) v W
  have as_hold : ∀ (v : Value) (W : World), (Instr.typeAssert (.iface 165 v) 139 162 true).run Tryz.prog W = .ok (.tuple #[.agg #[.int .i64 0, .int .i64 0, .string ByteArray.empty, .slice none 0 0], .bool false]) W := fun v W => as_other Tryz.underlying162 (by decide) (by kernel_rfl) v W
  by_cases h0 : nm = 0
  · by_cases h2 : tx.size = 0
    · have HE : Hid (saysNone nm tx = true) := by show _ = _; simp [saysNone, h0, h2]
      obtain rfl := text_none h2
      subst h0
      clear h2
      go_enter Tryz.func114, Tryz.ntmps114
      go_wp2
      go_ret
      exact ⟨by rw [HE.out]; rfl, by go_grown⟩
    · have HE : Hid (saysNone nm tx = false) := by show _ = _; simp [saysNone, h2]
      have e1 := text_some h2
      have e2 : (tx.toList == (⟨#[]⟩ : ByteArray).toList) = false := by rw [empty_listB]; exact e1
      subst h0
      clear h2
      go_enter Tryz.func114, Tryz.ntmps114
      go_wp2
      go_ret
      exact ⟨by rw [HE.out]; rfl, by go_grown⟩
  · have HE : Hid (saysNone nm tx = false) := by show _ = _; simp [saysNone, h0]
    have e1 : (nm == 0) = false := by simpa using h0
    clear h0
    go_enter Tryz.func114, Tryz.ntmps114
    go_wp2
    go_ret
    exact ⟨by rw [HE.out]; rfl, by go_grown⟩

set_option maxRecDepth 100000 in
set_option maxHeartbeats 1600000 in
theorem says_do (kd nm : Int) (tx : ByteArray) (kv : Value) (w : World) :
    Calls Tryz.prog 114 #[.iface 166 (.agg #[.int .i64 kd, .int .i64 nm, .string tx, kv]), .agg #[.int .i64 kd, .int .i64 nm, .string tx, kv]] w fun e w' => e = .returned (.bool (saysNone nm tx)) ∧ Below w.heap.size w w' := by
  have as_number : ∀ (v : Value) (W : World), (Instr.typeAssert (.iface 166 v) 139 156 true).run Tryz.prog W = .ok (.tuple #[.agg #[.int .i64 0, .int .i64 0, .string ByteArray.empty, .slice none 0 0], .bool false]) W := fun v W => as_other Tryz.underlying156 (by decide) (by kernel_rfl) v W
  have as_use : ∀ (v : Value) (W : World), (Instr.typeAssert (.iface 166 v) 139 157 true).run Tryz.prog W = .ok (.tuple #[.agg #[.int .i64 0, .int .i64 0, .string ByteArray.empty, .slice none 0 0], .bool false]) W := fun v W => as_other Tryz.underlying157 (by decide) (by kernel_rfl) v W
  have as_call : ∀ (v : Value) (W : World), (Instr.typeAssert (.iface 166 v) 139 161 true).run Tryz.prog W = .ok (.tuple #[.agg #[.int .i64 0, .int .i64 0, .string ByteArray.empty, .slice none 0 0], .bool false]) W := fun v W => as_other Tryz.underlying161 (by decide) (by kernel_rfl) v W
  have as_hold : ∀ (v : Value) (W : World), (Instr.typeAssert (.iface 166 v) 139 162 true).run Tryz.prog W = .ok (.tuple #[.agg #[.int .i64 0, .int .i64 0, .string ByteArray.empty, .slice none 0 0], .bool false]) W := fun v W => as_other Tryz.underlying162 (by decide) (by kernel_rfl) v W
  by_cases h0 : nm = 0
  · by_cases h2 : tx.size = 0
    · have HE : Hid (saysNone nm tx = true) := by show _ = _; simp [saysNone, h0, h2]
      obtain rfl := text_none h2
      subst h0
      clear h2
      go_enter Tryz.func114, Tryz.ntmps114
      go_wp2
      go_ret
      exact ⟨by rw [HE.out]; rfl, by go_grown⟩
    · have HE : Hid (saysNone nm tx = false) := by show _ = _; simp [saysNone, h2]
      have e1 := text_some h2
      have e2 : (tx.toList == (⟨#[]⟩ : ByteArray).toList) = false := by rw [empty_listB]; exact e1
      subst h0
      clear h2
      go_enter Tryz.func114, Tryz.ntmps114
      go_wp2
      go_ret
      exact ⟨by rw [HE.out]; rfl, by go_grown⟩
  · have HE : Hid (saysNone nm tx = false) := by show _ = _; simp [saysNone, h0]
    have e1 : (nm == 0) = false := by simpa using h0
    clear h0
    go_enter Tryz.func114, Tryz.ntmps114
    go_wp2
    go_ret
    exact ⟨by rw [HE.out]; rfl, by go_grown⟩

set_option maxRecDepth 100000 in
set_option maxHeartbeats 1600000 in
theorem says_block (kd nm : Int) (tx : ByteArray) (kv : Value) (w : World) :
    Calls Tryz.prog 114 #[.iface 167 (.agg #[.int .i64 kd, .int .i64 nm, .string tx, kv]), .agg #[.int .i64 kd, .int .i64 nm, .string tx, kv]] w fun e w' => e = .returned (.bool (saysNone nm tx)) ∧ Below w.heap.size w w' := by
  have as_number : ∀ (v : Value) (W : World), (Instr.typeAssert (.iface 167 v) 139 156 true).run Tryz.prog W = .ok (.tuple #[.agg #[.int .i64 0, .int .i64 0, .string ByteArray.empty, .slice none 0 0], .bool false]) W := fun v W => as_other Tryz.underlying156 (by decide) (by kernel_rfl) v W
  have as_use : ∀ (v : Value) (W : World), (Instr.typeAssert (.iface 167 v) 139 157 true).run Tryz.prog W = .ok (.tuple #[.agg #[.int .i64 0, .int .i64 0, .string ByteArray.empty, .slice none 0 0], .bool false]) W := fun v W => as_other Tryz.underlying157 (by decide) (by kernel_rfl) v W
  have as_call : ∀ (v : Value) (W : World), (Instr.typeAssert (.iface 167 v) 139 161 true).run Tryz.prog W = .ok (.tuple #[.agg #[.int .i64 0, .int .i64 0, .string ByteArray.empty, .slice none 0 0], .bool false]) W := fun v W => as_other Tryz.underlying161 (by decide) (by kernel_rfl) v W
  have as_hold : ∀ (v : Value) (W : World), (Instr.typeAssert (.iface 167 v) 139 162 true).run Tryz.prog W = .ok (.tuple #[.agg #[.int .i64 0, .int .i64 0, .string ByteArray.empty, .slice none 0 0], .bool false]) W := fun v W => as_other Tryz.underlying162 (by decide) (by kernel_rfl) v W
  by_cases h0 : nm = 0
  · by_cases h2 : tx.size = 0
    · have HE : Hid (saysNone nm tx = true) := by show _ = _; simp [saysNone, h0, h2]
      obtain rfl := text_none h2
      subst h0
      clear h2
      go_enter Tryz.func114, Tryz.ntmps114
      go_wp2
      go_ret
      exact ⟨by rw [HE.out]; rfl, by go_grown⟩
    · have HE : Hid (saysNone nm tx = false) := by show _ = _; simp [saysNone, h2]
      have e1 := text_some h2
      have e2 : (tx.toList == (⟨#[]⟩ : ByteArray).toList) = false := by rw [empty_listB]; exact e1
      subst h0
      clear h2
      go_enter Tryz.func114, Tryz.ntmps114
      go_wp2
      go_ret
      exact ⟨by rw [HE.out]; rfl, by go_grown⟩
  · have HE : Hid (saysNone nm tx = false) := by show _ = _; simp [saysNone, h0]
    have e1 : (nm == 0) = false := by simpa using h0
    clear h0
    go_enter Tryz.func114, Tryz.ntmps114
    go_wp2
    go_ret
    exact ⟨by rw [HE.out]; rfl, by go_grown⟩


end Go.Proofs.YtljphnjmeckpbaaGreat
