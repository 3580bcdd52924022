/-
  Chapter 4, in the program: nodes are types behind one interface. What partOf, saysRight and takes answer, type by type. Written by mkparts.py.
-/
import Derived.Test.YtljphnjmeckpbaaImTree0
import Derived.Test.YtljphnjmeckpbaaSgName
namespace Go.Proofs.Ytljphnjmeckpbaa
open Go.RowKit

set_option maxRecDepth 100000 in
set_option maxHeartbeats 1600000 in
theorem partOf_number (kd nm : Int) (tx : ByteArray) (kv : Value) (w : World) (h : kd = 1) :
    Calls Try.prog 61 #[.agg #[.int .i64 kd, .int .i64 nm, .string tx, kv]] w fun e w' => e = .returned (.iface 111 (.agg #[.int .i64 kd, .int .i64 nm, .string tx, kv])) ∧ Below w.heap.size w w' := by
  subst h
  all_goals
    go_enter Try.func61, Try.ntmps61
    go_wp2
    go_ret
    exact ⟨rfl, by go_grown⟩

set_option maxRecDepth 100000 in
set_option maxHeartbeats 1600000 in
theorem partOf_use (kd nm : Int) (tx : ByteArray) (kv : Value) (w : World) (h : kd = 2 ∨ kd = 3 ∨ kd = 4 ∨ kd = 5 ∨ kd = 6) :
    Calls Try.prog 61 #[.agg #[.int .i64 kd, .int .i64 nm, .string tx, kv]] w fun e w' => e = .returned (.iface 112 (.agg #[.int .i64 kd, .int .i64 nm, .string tx, kv])) ∧ Below w.heap.size w w' := by
  rcases h with rfl | rfl | rfl | rfl | rfl
  all_goals
    go_enter Try.func61, Try.ntmps61
    go_wp2
    go_ret
    exact ⟨rfl, by go_grown⟩

set_option maxRecDepth 100000 in
set_option maxHeartbeats 1600000 in
theorem partOf_input (kd nm : Int) (tx : ByteArray) (kv : Value) (w : World) (h : kd = 7) :
    Calls Try.prog 61 #[.agg #[.int .i64 kd, .int .i64 nm, .string tx, kv]] w fun e w' => e = .returned (.iface 113 (.agg #[.int .i64 kd, .int .i64 nm, .string tx, kv])) ∧ Below w.heap.size w w' := by
  subst h
  all_goals
    go_enter Try.func61, Try.ntmps61
    go_wp2
    go_ret
    exact ⟨rfl, by go_grown⟩

set_option maxRecDepth 100000 in
set_option maxHeartbeats 1600000 in
theorem partOf_new (kd nm : Int) (tx : ByteArray) (kv : Value) (w : World) (h : kd = 8) :
    Calls Try.prog 61 #[.agg #[.int .i64 kd, .int .i64 nm, .string tx, kv]] w fun e w' => e = .returned (.iface 114 (.agg #[.int .i64 kd, .int .i64 nm, .string tx, kv])) ∧ Below w.heap.size w w' := by
  subst h
  all_goals
    go_enter Try.func61, Try.ntmps61
    go_wp2
    go_ret
    exact ⟨rfl, by go_grown⟩

set_option maxRecDepth 100000 in
set_option maxHeartbeats 1600000 in
theorem partOf_pair (kd nm : Int) (tx : ByteArray) (kv : Value) (w : World) (h : kd = 9 ∨ kd = 10 ∨ kd = 11) :
    Calls Try.prog 61 #[.agg #[.int .i64 kd, .int .i64 nm, .string tx, kv]] w fun e w' => e = .returned (.iface 115 (.agg #[.int .i64 kd, .int .i64 nm, .string tx, kv])) ∧ Below w.heap.size w w' := by
  rcases h with rfl | rfl | rfl
  all_goals
    go_enter Try.func61, Try.ntmps61
    go_wp2
    go_ret
    exact ⟨rfl, by go_grown⟩

set_option maxRecDepth 100000 in
set_option maxHeartbeats 1600000 in
theorem partOf_call (kd nm : Int) (tx : ByteArray) (kv : Value) (w : World) (h : kd = 12) :
    Calls Try.prog 61 #[.agg #[.int .i64 kd, .int .i64 nm, .string tx, kv]] w fun e w' => e = .returned (.iface 116 (.agg #[.int .i64 kd, .int .i64 nm, .string tx, kv])) ∧ Below w.heap.size w w' := by
  subst h
  all_goals
    go_enter Try.func61, Try.ntmps61
    go_wp2
    go_ret
    exact ⟨rfl, by go_grown⟩

set_option maxRecDepth 100000 in
set_option maxHeartbeats 1600000 in
theorem partOf_hold (kd nm : Int) (tx : ByteArray) (kv : Value) (w : World) (h : kd = 13 ∨ kd = 14 ∨ kd = 15) :
    Calls Try.prog 61 #[.agg #[.int .i64 kd, .int .i64 nm, .string tx, kv]] w fun e w' => e = .returned (.iface 117 (.agg #[.int .i64 kd, .int .i64 nm, .string tx, kv])) ∧ Below w.heap.size w w' := by
  rcases h with rfl | rfl | rfl
  all_goals
    go_enter Try.func61, Try.ntmps61
    go_wp2
    go_ret
    exact ⟨rfl, by go_grown⟩

set_option maxRecDepth 100000 in
set_option maxHeartbeats 1600000 in
theorem partOf_if (kd nm : Int) (tx : ByteArray) (kv : Value) (w : World) (h : kd = 16) :
    Calls Try.prog 61 #[.agg #[.int .i64 kd, .int .i64 nm, .string tx, kv]] w fun e w' => e = .returned (.iface 118 (.agg #[.int .i64 kd, .int .i64 nm, .string tx, kv])) ∧ Below w.heap.size w w' := by
  subst h
  all_goals
    go_enter Try.func61, Try.ntmps61
    go_wp2
    go_ret
    exact ⟨rfl, by go_grown⟩

set_option maxRecDepth 100000 in
set_option maxHeartbeats 1600000 in
theorem partOf_while (kd nm : Int) (tx : ByteArray) (kv : Value) (w : World) (h : kd = 17) :
    Calls Try.prog 61 #[.agg #[.int .i64 kd, .int .i64 nm, .string tx, kv]] w fun e w' => e = .returned (.iface 119 (.agg #[.int .i64 kd, .int .i64 nm, .string tx, kv])) ∧ Below w.heap.size w w' := by
  subst h
  all_goals
    go_enter Try.func61, Try.ntmps61
    go_wp2
    go_ret
    exact ⟨rfl, by go_grown⟩

set_option maxRecDepth 100000 in
set_option maxHeartbeats 1600000 in
theorem partOf_print (kd nm : Int) (tx : ByteArray) (kv : Value) (w : World) (h : kd = 18) :
    Calls Try.prog 61 #[.agg #[.int .i64 kd, .int .i64 nm, .string tx, kv]] w fun e w' => e = .returned (.iface 120 (.agg #[.int .i64 kd, .int .i64 nm, .string tx, kv])) ∧ Below w.heap.size w w' := by
  subst h
  all_goals
    go_enter Try.func61, Try.ntmps61
    go_wp2
    go_ret
    exact ⟨rfl, by go_grown⟩

set_option maxRecDepth 100000 in
set_option maxHeartbeats 1600000 in
theorem partOf_do (kd nm : Int) (tx : ByteArray) (kv : Value) (w : World) (h : kd = 19) :
    Calls Try.prog 61 #[.agg #[.int .i64 kd, .int .i64 nm, .string tx, kv]] w fun e w' => e = .returned (.iface 121 (.agg #[.int .i64 kd, .int .i64 nm, .string tx, kv])) ∧ Below w.heap.size w w' := by
  subst h
  all_goals
    go_enter Try.func61, Try.ntmps61
    go_wp2
    go_ret
    exact ⟨rfl, by go_grown⟩

set_option maxRecDepth 100000 in
set_option maxHeartbeats 1600000 in
theorem partOf_block (kd nm : Int) (tx : ByteArray) (kv : Value) (w : World) (h : kd = 20) :
    Calls Try.prog 61 #[.agg #[.int .i64 kd, .int .i64 nm, .string tx, kv]] w fun e w' => e = .returned (.iface 122 (.agg #[.int .i64 kd, .int .i64 nm, .string tx, kv])) ∧ Below w.heap.size w w' := by
  subst h
  all_goals
    go_enter Try.func61, Try.ntmps61
    go_wp2
    go_ret
    exact ⟨rfl, by go_grown⟩

set_option maxRecDepth 100000 in
set_option maxHeartbeats 1600000 in
theorem partOf_none (kd nm : Int) (tx : ByteArray) (kv : Value) (w : World) (h : kd < 1 ∨ 20 < kd) :
    Calls Try.prog 61 #[.agg #[.int .i64 kd, .int .i64 nm, .string tx, kv]] w fun e w' => e = .returned .nilIface ∧ Below w.heap.size w w' := by
  have a1 : (kd == 1) = false := by simp; omega
  have a2 : (kd == 2) = false := by simp; omega
  have a3 : (kd == 3) = false := by simp; omega
  have a4 : (kd == 4) = false := by simp; omega
  have a5 : (kd == 5) = false := by simp; omega
  have a6 : (kd == 6) = false := by simp; omega
  have a7 : (kd == 7) = false := by simp; omega
  have a8 : (kd == 8) = false := by simp; omega
  have a9 : (kd == 9) = false := by simp; omega
  have a10 : (kd == 10) = false := by simp; omega
  have a11 : (kd == 11) = false := by simp; omega
  have a12 : (kd == 12) = false := by simp; omega
  have a13 : (kd == 13) = false := by simp; omega
  have a14 : (kd == 14) = false := by simp; omega
  have a15 : (kd == 15) = false := by simp; omega
  have a16 : (kd == 16) = false := by simp; omega
  have a17 : (kd == 17) = false := by simp; omega
  have a18 : (kd == 18) = false := by simp; omega
  have a19 : (kd == 19) = false := by simp; omega
  have a20 : (kd == 20) = false := by simp; omega
  clear h
  go_enter Try.func61, Try.ntmps61
  go_wp2
  go_ret
  exact ⟨rfl, by go_grown⟩

theorem as_same {P : Program} {a xT : TypeId} {fs : Array Field} (hu : P.underlying a = some (.struct fs)) (v : Value) (w : World) : (Instr.typeAssert (.iface a v) xT a true).run P w = .ok (.tuple #[v, .bool true]) w := by
  simp [Instr.typeAssert, run_underlying hu]
theorem as_other {P : Program} {t a xT : TypeId} {z : Value} {fs : Array Field} (hu : P.underlying a = some (.struct fs)) (hne : t ≠ a) (hz : (P.info? a).map (·.zero) = some (some z)) (v : Value) (w : World) : (Instr.typeAssert (.iface t v) xT a true).run P w = .ok (.tuple #[z, .bool false]) w := by
  obtain ⟨j, hj, hz'⟩ := Option.map_eq_some_iff.1 hz
  simp [Instr.typeAssert, run_underlying hu, hne, zeroValue, typeInfo, hj, hz']

/-- What saysRight asks. -/
def saysNum (nm : Int) (tx : ByteArray) : Bool := isIn nm 0 1000000000 && decide (tx.size = 0)
def saysName (nm : Int) (tx : ByteArray) : Bool := decide (nm = 0) && nameOk tx
def saysNone (nm : Int) (tx : ByteArray) : Bool := decide (nm = 0) && decide (tx.size = 0)
theorem empty_listB : (⟨#[]⟩ : ByteArray).toList = [] := by rw [ByteArray.toList_eq]
theorem text_none {tx : ByteArray} (h : tx.size = 0) : tx = ⟨#[]⟩ := by
  cases tx with | mk d => simp [ByteArray.size] at h; simp [h]
theorem text_some {tx : ByteArray} (h : ¬ tx.size = 0) : (tx.toList == []) = false := by
  rw [ByteArray.toList_eq, beq_eq_false_iff_ne]
  intro e
  exact h (by rw [(show tx.size = tx.data.toList.length from rfl), e]; rfl)

set_option maxRecDepth 100000 in
set_option maxHeartbeats 1600000 in
theorem says_number (kd nm : Int) (tx : ByteArray) (kv : Value) (w : World) :
    Calls Try.prog 62 #[.iface 111 (.agg #[.int .i64 kd, .int .i64 nm, .string tx, kv]), .agg #[.int .i64 kd, .int .i64 nm, .string tx, kv]] w fun e w' => e = .returned (.bool (saysNum nm tx)) ∧ Below w.heap.size w w' := by
  have as_number : ∀ (v : Value) (W : World), (Instr.typeAssert (.iface 111 v) 100 111 true).run Try.prog W = .ok (.tuple #[v, .bool true]) W := fun v W => as_same Try.underlying111 v W
  have as_use : ∀ (v : Value) (W : World), (Instr.typeAssert (.iface 111 v) 100 112 true).run Try.prog W = .ok (.tuple #[.agg #[.int .i64 0, .int .i64 0, .string ByteArray.empty, .slice none 0 0], .bool false]) W := fun v W => as_other Try.underlying112 (by decide) (by kernel_rfl) v W
  have as_call : ∀ (v : Value) (W : World), (Instr.typeAssert (.iface 111 v) 100 116 true).run Try.prog W = .ok (.tuple #[.agg #[.int .i64 0, .int .i64 0, .string ByteArray.empty, .slice none 0 0], .bool false]) W := fun v W => as_other Try.underlying116 (by decide) (by kernel_rfl) v W
  have as_hold : ∀ (v : Value) (W : World), (Instr.typeAssert (.iface 111 v) 100 117 true).run Try.prog W = .ok (.tuple #[.agg #[.int .i64 0, .int .i64 0, .string ByteArray.empty, .slice none 0 0], .bool false]) W := fun v W => as_other Try.underlying117 (by decide) (by kernel_rfl) v W
  by_cases h0 : 0 ≤ nm
  · by_cases h1 : nm ≤ 1000000000
    · by_cases h2 : tx.size = 0
      · have HE : Hid (saysNum nm tx = true) := by show _ = _; simp [saysNum, isIn, h0, h1, h2]
        obtain rfl := text_none h2
        clear h2
        go_enter Try.func62, Try.ntmps62
        go_wp2
        go_ret
        exact ⟨by rw [HE.out]; rfl, by go_grown⟩
      · have HE : Hid (saysNum nm tx = false) := by show _ = _; simp [saysNum, h2]
        have e1 := text_some h2
        have e2 : (tx.toList == (⟨#[]⟩ : ByteArray).toList) = false := by rw [empty_listB]; exact e1
        clear h2
        go_enter Try.func62, Try.ntmps62
        go_wp2
        go_ret
        exact ⟨by rw [HE.out]; rfl, by go_grown⟩
    · have HE : Hid (saysNum nm tx = false) := by show _ = _; simp [saysNum, isIn, h1]
      go_enter Try.func62, Try.ntmps62
      go_wp2
      go_ret
      exact ⟨by rw [HE.out]; rfl, by go_grown⟩
  · have HE : Hid (saysNum nm tx = false) := by show _ = _; simp [saysNum, isIn, h0]
    go_enter Try.func62, Try.ntmps62
    go_wp2
    go_ret
    exact ⟨by rw [HE.out]; rfl, by go_grown⟩

set_option maxRecDepth 100000 in
set_option maxHeartbeats 1600000 in
theorem says_use (kd nm : Int) (tx : ByteArray) (kv : Value) (w : World) (ht : tx.size ≤ 1048576) :
    Calls Try.prog 62 #[.iface 112 (.agg #[.int .i64 kd, .int .i64 nm, .string tx, kv]), .agg #[.int .i64 kd, .int .i64 nm, .string tx, kv]] w fun e w' => e = .returned (.bool (saysName nm tx)) ∧ Below w.heap.size w w' := by
  have as_number : ∀ (v : Value) (W : World), (Instr.typeAssert (.iface 112 v) 100 111 true).run Try.prog W = .ok (.tuple #[.agg #[.int .i64 0, .int .i64 0, .string ByteArray.empty, .slice none 0 0], .bool false]) W := fun v W => as_other Try.underlying111 (by decide) (by kernel_rfl) v W
  have as_use : ∀ (v : Value) (W : World), (Instr.typeAssert (.iface 112 v) 100 112 true).run Try.prog W = .ok (.tuple #[v, .bool true]) W := fun v W => as_same Try.underlying112 v W
  have as_call : ∀ (v : Value) (W : World), (Instr.typeAssert (.iface 112 v) 100 116 true).run Try.prog W = .ok (.tuple #[.agg #[.int .i64 0, .int .i64 0, .string ByteArray.empty, .slice none 0 0], .bool false]) W := fun v W => as_other Try.underlying116 (by decide) (by kernel_rfl) v W
  have as_hold : ∀ (v : Value) (W : World), (Instr.typeAssert (.iface 112 v) 100 117 true).run Try.prog W = .ok (.tuple #[.agg #[.int .i64 0, .int .i64 0, .string ByteArray.empty, .slice none 0 0], .bool false]) W := fun v W => as_other Try.underlying117 (by decide) (by kernel_rfl) v W
  by_cases h0 : nm = 0
  · obtain ⟨ok, hok⟩ : ∃ r, Hid (nameOk tx = r) := ⟨_, (rfl : nameOk tx = nameOk tx)⟩
    have cO : Hid (∀ W, Calls Try.prog 69 #[.string tx] W fun e w' => e = .returned (.bool ok) ∧ Below W.heap.size W w') := fun W => by rw [← hok.out]; exact implNameOk_any tx W (Nat.le_trans ht (by unfold maxLen; omega))
    have HE : Hid (saysName nm tx = ok) := by show _ = _; simp [saysName, h0, hok.out]
    subst h0
    go_enter Try.func62, Try.ntmps62
    go_wp2_with (go_at_call 69; refine Calls.mono (cO.out _) ?_; rintro e w1 ⟨rfl, hb⟩)
    go_ret
    exact ⟨by rw [HE.out]; rfl, ((Below.refl _ _).alloc (Nat.le_refl _) _).trans (hb.mono (by simp))⟩
  · have HE : Hid (saysName nm tx = false) := by show _ = _; simp [saysName, h0]
    have e1 : (nm == 0) = false := by simpa using h0
    clear h0
    go_enter Try.func62, Try.ntmps62
    go_wp2
    go_ret
    exact ⟨by rw [HE.out]; rfl, by go_grown⟩

set_option maxRecDepth 100000 in
set_option maxHeartbeats 1600000 in
theorem says_input (kd nm : Int) (tx : ByteArray) (kv : Value) (w : World) :
    Calls Try.prog 62 #[.iface 113 (.agg #[.int .i64 kd, .int .i64 nm, .string tx, kv]), .agg #[.int .i64 kd, .int .i64 nm, .string tx, kv]] w fun e w' => e = .returned (.bool (saysNone nm tx)) ∧ Below w.heap.size w w' := by
  have as_number : ∀ (v : Value) (W : World), (Instr.typeAssert (.iface 113 v) 100 111 true).run Try.prog W = .ok (.tuple #[.agg #[.int .i64 0, .int .i64 0, .string ByteArray.empty, .slice none 0 0], .bool false]) W := fun v W => as_other Try.underlying111 (by decide) (by kernel_rfl) v W
  have as_use : ∀ (v : Value) (W : World), (Instr.typeAssert (.iface 113 v) 100 112 true).run Try.prog W = .ok (.tuple #[.agg #[.int .i64 0, .int .i64 0, .string ByteArray.empty, .slice none 0 0], .bool false]) W := fun v W => as_other Try.underlying112 (by decide) (by kernel_rfl) v W
  have as_call : ∀ (v : Value) (W : World), (Instr.typeAssert (.iface 113 v) 100 116 true).run Try.prog W = .ok (.tuple #[.agg #[.int .i64 0, .int .i64 0, .string ByteArray.empty, .slice none 0 0], .bool false]) W := fun v W => as_other Try.underlying116 (by decide) (by kernel_rfl) v W
  have as_hold : ∀ (v : Value) (W : World), (Instr.typeAssert (.iface 113 v) 100 117 true).run Try.prog W = .ok (.tuple #[.agg #[.int .i64 0, .int .i64 0, .string ByteArray.empty, .slice none 0 0], .bool false]) W := fun v W => as_other Try.underlying117 (by decide) (by kernel_rfl) v W
  by_cases h0 : nm = 0
  · by_cases h2 : tx.size = 0
    · have HE : Hid (saysNone nm tx = true) := by show _ = _; simp [saysNone, h0, h2]
      obtain rfl := text_none h2
      subst h0
      clear h2
      go_enter Try.func62, Try.ntmps62
      go_wp2
      go_ret
      exact ⟨by rw [HE.out]; rfl, by go_grown⟩
    · have HE : Hid (saysNone nm tx = false) := by show _ = _; simp [saysNone, h2]
      have e1 := text_some h2
      have e2 : (tx.toList == (⟨#[]⟩ : ByteArray).toList) = false := by rw [empty_listB]; exact e1
      subst h0
      clear h2
      go_enter Try.func62, Try.ntmps62
      go_wp2
      go_ret
      exact ⟨by rw [HE.out]; rfl, by go_grown⟩
  · have HE : Hid (saysNone nm tx = false) := by show _ = _; simp [saysNone, h0]
    have e1 : (nm == 0) = false := by simpa using h0
    clear h0
    go_enter Try.func62, Try.ntmps62
    go_wp2
    go_ret
    exact ⟨by rw [HE.out]; rfl, by go_grown⟩

set_option maxRecDepth 100000 in
set_option maxHeartbeats 1600000 in
theorem says_new (kd nm : Int) (tx : ByteArray) (kv : Value) (w : World) :
    Calls Try.prog 62 #[.iface 114 (.agg #[.int .i64 kd, .int .i64 nm, .string tx, kv]), .agg #[.int .i64 kd, .int .i64 nm, .string tx, kv]] w fun e w' => e = .returned (.bool (saysNone nm tx)) ∧ Below w.heap.size w w' := by
  have as_number : ∀ (v : Value) (W : World), (Instr.typeAssert (.iface 114 v) 100 111 true).run Try.prog W = .ok (.tuple #[.agg #[.int .i64 0, .int .i64 0, .string ByteArray.empty, .slice none 0 0], .bool false]) W := fun v W => as_other Try.underlying111 (by decide) (by kernel_rfl) v W
  have as_use : ∀ (v : Value) (W : World), (Instr.typeAssert (.iface 114 v) 100 112 true).run Try.prog W = .ok (.tuple #[.agg #[.int .i64 0, .int .i64 0, .string ByteArray.empty, .slice none 0 0], .bool false]) W := fun v W => as_other Try.underlying112 (by decide) (by kernel_rfl) v W
  have as_call : ∀ (v : Value) (W : World), (Instr.typeAssert (.iface 114 v) 100 116 true).run Try.prog W = .ok (.tuple #[.agg #[.int .i64 0, .int .i64 0, .string ByteArray.empty, .slice none 0 0], .bool false]) W := fun v W => as_other Try.underlying116 (by decide) (by kernel_rfl) v W
  have as_hold : ∀ (v : Value) (W : World), (Instr.typeAssert (.iface 114 v) 100 117 true).run Try.prog W = .ok (.tuple #[.agg #[.int .i64 0, .int .i64 0, .string ByteArray.empty, .slice none 0 0], .bool false]) W := fun v W => as_other Try.underlying117 (by decide) (by kernel_rfl) v W
  by_cases h0 : nm = 0
  · by_cases h2 : tx.size = 0
    · have HE : Hid (saysNone nm tx = true) := by show _ = _; simp [saysNone, h0, h2]
      obtain rfl := text_none h2
      subst h0
      clear h2
      go_enter Try.func62, Try.ntmps62
      go_wp2
      go_ret
      exact ⟨by rw [HE.out]; rfl, by go_grown⟩
    · have HE : Hid (saysNone nm tx = false) := by show _ = _; simp [saysNone, h2]
      have e1 := text_some h2
      have e2 : (tx.toList == (⟨#[]⟩ : ByteArray).toList) = false := by rw [empty_listB]; exact e1
      subst h0
      clear h2
      go_enter Try.func62, Try.ntmps62
      go_wp2
      go_ret
      exact ⟨by rw [HE.out]; rfl, by go_grown⟩
  · have HE : Hid (saysNone nm tx = false) := by show _ = _; simp [saysNone, h0]
    have e1 : (nm == 0) = false := by simpa using h0
    clear h0
    go_enter Try.func62, Try.ntmps62
    go_wp2
    go_ret
    exact ⟨by rw [HE.out]; rfl, by go_grown⟩

set_option maxRecDepth 100000 in
set_option maxHeartbeats 1600000 in
theorem says_pair (kd nm : Int) (tx : ByteArray) (kv : Value) (w : World) :
    Calls Try.prog 62 #[.iface 115 (.agg #[.int .i64 kd, .int .i64 nm, .string tx, kv]), .agg #[.int .i64 kd, .int .i64 nm, .string tx, kv]] w fun e w' => e = .returned (.bool (saysNone nm tx)) ∧ Below w.heap.size w w' := by
  have as_number : ∀ (v : Value) (W : World), (Instr.typeAssert (.iface 115 v) 100 111 true).run Try.prog W = .ok (.tuple #[.agg #[.int .i64 0, .int .i64 0, .string ByteArray.empty, .slice none 0 0], .bool false]) W := fun v W => as_other Try.underlying111 (by decide) (by kernel_rfl) v W
  have as_use : ∀ (v : Value) (W : World), (Instr.typeAssert (.iface 115 v) 100 112 true).run Try.prog W = .ok (.tuple #[.agg #[.int .i64 0, .int .i64 0, .string ByteArray.empty, .slice none 0 0], .bool false]) W := fun v W => as_other Try.underlying112 (by decide) (by kernel_rfl) v W
  have as_call : ∀ (v : Value) (W : World), (Instr.typeAssert (.iface 115 v) 100 116 true).run Try.prog W = .ok (.tuple #[.agg #[.int .i64 0, .int .i64 0, .string ByteArray.empty, .slice none 0 0], .bool false]) W := fun v W => as_other Try.underlying116 (by decide) (by kernel_rfl) v W
  have as_hold : ∀ (v : Value) (W : World), (Instr.typeAssert (.iface 115 v) 100 117 true).run Try.prog W = .ok (.tuple #[.agg #[.int .i64 0, .int .i64 0, .string ByteArray.empty, .slice none 0 0], .bool false]) W := fun v W => as_other Try.underlying117 (by decide) (by kernel_rfl) v W
  by_cases h0 : nm = 0
  · by_cases h2 : tx.size = 0
    · have HE : Hid (saysNone nm tx = true) := by show _ = _; simp [saysNone, h0, h2]
      obtain rfl := text_none h2
      subst h0
      clear h2
      go_enter Try.func62, Try.ntmps62
      go_wp2
      go_ret
      exact ⟨by rw [HE.out]; rfl, by go_grown⟩
    · have HE : Hid (saysNone nm tx = false) := by show _ = _; simp [saysNone, h2]
      have e1 := text_some h2
      have e2 : (tx.toList == (⟨#[]⟩ : ByteArray).toList) = false := by rw [empty_listB]; exact e1
      subst h0
      clear h2
      go_enter Try.func62, Try.ntmps62
      go_wp2
      go_ret
      exact ⟨by rw [HE.out]; rfl, by go_grown⟩
  · have HE : Hid (saysNone nm tx = false) := by show _ = _; simp [saysNone, h0]
    have e1 : (nm == 0) = false := by simpa using h0
    clear h0
    go_enter Try.func62, Try.ntmps62
    go_wp2
    go_ret
    exact ⟨by rw [HE.out]; rfl, by go_grown⟩

set_option maxRecDepth 100000 in
set_option maxHeartbeats 1600000 in
theorem says_call (kd nm : Int) (tx : ByteArray) (kv : Value) (w : World) (ht : tx.size ≤ 1048576) :
    Calls Try.prog 62 #[.iface 116 (.agg #[.int .i64 kd, .int .i64 nm, .string tx, kv]), .agg #[.int .i64 kd, .int .i64 nm, .string tx, kv]] w fun e w' => e = .returned (.bool (saysName nm tx)) ∧ Below w.heap.size w w' := by
  have as_number : ∀ (v : Value) (W : World), (Instr.typeAssert (.iface 116 v) 100 111 true).run Try.prog W = .ok (.tuple #[.agg #[.int .i64 0, .int .i64 0, .string ByteArray.empty, .slice none 0 0], .bool false]) W := fun v W => as_other Try.underlying111 (by decide) (by kernel_rfl) v W
  have as_use : ∀ (v : Value) (W : World), (Instr.typeAssert (.iface 116 v) 100 112 true).run Try.prog W = .ok (.tuple #[.agg #[.int .i64 0, .int .i64 0, .string ByteArray.empty, .slice none 0 0], .bool false]) W := fun v W => as_other Try.underlying112 (by decide) (by kernel_rfl) v W
  have as_call : ∀ (v : Value) (W : World), (Instr.typeAssert (.iface 116 v) 100 116 true).run Try.prog W = .ok (.tuple #[v, .bool true]) W := fun v W => as_same Try.underlying116 v W
  have as_hold : ∀ (v : Value) (W : World), (Instr.typeAssert (.iface 116 v) 100 117 true).run Try.prog W = .ok (.tuple #[.agg #[.int .i64 0, .int .i64 0, .string ByteArray.empty, .slice none 0 0], .bool false]) W := fun v W => as_other Try.underlying117 (by decide) (by kernel_rfl) v W
  by_cases h0 : nm = 0
  · obtain ⟨ok, hok⟩ : ∃ r, Hid (nameOk tx = r) := ⟨_, (rfl : nameOk tx = nameOk tx)⟩
    have cO : Hid (∀ W, Calls Try.prog 69 #[.string tx] W fun e w' => e = .returned (.bool ok) ∧ Below W.heap.size W w') := fun W => by rw [← hok.out]; exact implNameOk_any tx W (Nat.le_trans ht (by unfold maxLen; omega))
    have HE : Hid (saysName nm tx = ok) := by show _ = _; simp [saysName, h0, hok.out]
    subst h0
    go_enter Try.func62, Try.ntmps62
    go_wp2_with (go_at_call 69; refine Calls.mono (cO.out _) ?_; rintro e w1 ⟨rfl, hb⟩)
    go_ret
    exact ⟨by rw [HE.out]; rfl, ((Below.refl _ _).alloc (Nat.le_refl _) _).trans (hb.mono (by simp))⟩
  · have HE : Hid (saysName nm tx = false) := by show _ = _; simp [saysName, h0]
    have e1 : (nm == 0) = false := by simpa using h0
    clear h0
    go_enter Try.func62, Try.ntmps62
    go_wp2
    go_ret
    exact ⟨by rw [HE.out]; rfl, by go_grown⟩

set_option maxRecDepth 100000 in
set_option maxHeartbeats 1600000 in
theorem says_hold (kd nm : Int) (tx : ByteArray) (kv : Value) (w : World) (ht : tx.size ≤ 1048576) :
    Calls Try.prog 62 #[.iface 117 (.agg #[.int .i64 kd, .int .i64 nm, .string tx, kv]), .agg #[.int .i64 kd, .int .i64 nm, .string tx, kv]] w fun e w' => e = .returned (.bool (saysName nm tx)) ∧ Below w.heap.size w w' := by
  have as_number : ∀ (v : Value) (W : World), (Instr.typeAssert (.iface 117 v) 100 111 true).run Try.prog W = .ok (.tuple #[.agg #[.int .i64 0, .int .i64 0, .string ByteArray.empty, .slice none 0 0], .bool false]) W := fun v W => as_other Try.underlying111 (by decide) (by kernel_rfl) v W
  have as_use : ∀ (v : Value) (W : World), (Instr.typeAssert (.iface 117 v) 100 112 true).run Try.prog W = .ok (.tuple #[.agg #[.int .i64 0, .int .i64 0, .string ByteArray.empty, .slice none 0 0], .bool false]) W := fun v W => as_other Try.underlying112 (by decide) (by kernel_rfl) v W
  have as_call : ∀ (v : Value) (W : World), (Instr.typeAssert (.iface 117 v) 100 116 true).run Try.prog W = .ok (.tuple #[.agg #[.int .i64 0, .int .i64 0, .string ByteArray.empty, .slice none 0 0], .bool false]) W := fun v W => as_other Try.underlying116 (by decide) (by kernel_rfl) v W
  have as_hold : ∀ (v : Value) (W : World), (Instr.typeAssert (.iface 117 v) 100 117 true).run Try.prog W = .ok (.tuple #[v, .bool true]) W := fun v W => as_same Try.underlying117 v W
  by_cases h0 : nm = 0
  · obtain ⟨ok, hok⟩ : ∃ r, Hid (nameOk tx = r) := ⟨_, (rfl : nameOk tx = nameOk tx)⟩
    have cO : Hid (∀ W, Calls Try.prog 69 #[.string tx] W fun e w' => e = .returned (.bool ok) ∧ Below W.heap.size W w') := fun W => by rw [← hok.out]; exact implNameOk_any tx W (Nat.le_trans ht (by unfold maxLen; omega))
    have HE : Hid (saysName nm tx = ok) := by show _ = _; simp [saysName, h0, hok.out]
    subst h0
    go_enter Try.func62, Try.ntmps62
    go_wp2_with (go_at_call 69; refine Calls.mono (cO.out _) ?_; rintro e w1 ⟨rfl, hb⟩)
    go_ret
    exact ⟨by rw [HE.out]; rfl, ((Below.refl _ _).alloc (Nat.le_refl _) _).trans (hb.mono (by simp))⟩
  · have HE : Hid (saysName nm tx = false) := by show _ = _; simp [saysName, h0]
    have e1 : (nm == 0) = false := by simpa using h0
    clear h0
    go_enter Try.func62, Try.ntmps62
    go_wp2
    go_ret
    exact ⟨by rw [HE.out]; rfl, by go_grown⟩

set_option maxRecDepth 100000 in
set_option maxHeartbeats 1600000 in
theorem says_if (kd nm : Int) (tx : ByteArray) (kv : Value) (w : World) :
    Calls Try.prog 62 #[.iface 118 (.agg #[.int .i64 kd, .int .i64 nm, .string tx, kv]), .agg #[.int .i64 kd, .int .i64 nm, .string tx, kv]] w fun e w' => e = .returned (.bool (saysNone nm tx)) ∧ Below w.heap.size w w' := by
  have as_number : ∀ (v : Value) (W : World), (Instr.typeAssert (.iface 118 v) 100 111 true).run Try.prog W = .ok (.tuple #[.agg #[.int .i64 0, .int .i64 0, .string ByteArray.empty, .slice none 0 0], .bool false]) W := fun v W => as_other Try.underlying111 (by decide) (by kernel_rfl) v W
  have as_use : ∀ (v : Value) (W : World), (Instr.typeAssert (.iface 118 v) 100 112 true).run Try.prog W = .ok (.tuple #[.agg #[.int .i64 0, .int .i64 0, .string ByteArray.empty, .slice none 0 0], .bool false]) W := fun v W => as_other Try.underlying112 (by decide) (by kernel_rfl) v W
  have as_call : ∀ (v : Value) (W : World), (Instr.typeAssert (.iface 118 v) 100 116 true).run Try.prog W = .ok (.tuple #[.agg #[.int .i64 0, .int .i64 0, .string ByteArray.empty, .slice none 0 0], .bool false]) W := fun v W => as_other Try.underlying116 (by decide) (by kernel_rfl) v W
  have as_hold : ∀ (v : Value) (W : World), (Instr.typeAssert (.iface 118 v) 100 117 true).run Try.prog W = .ok (.tuple #[.agg #[.int .i64 0, .int .i64 0, .string ByteArray.empty, .slice none 0 0], .bool false]) W := fun v W => as_other Try.underlying117 (by decide) (by kernel_rfl) v W
  by_cases h0 : nm = 0
  · by_cases h2 : tx.size = 0
    · have HE : Hid (saysNone nm tx = true) := by show _ = _; simp [saysNone, h0, h2]
      obtain rfl := text_none h2
      subst h0
      clear h2
      go_enter Try.func62, Try.ntmps62
      go_wp2
      go_ret
      exact ⟨by rw [HE.out]; rfl, by go_grown⟩
    · have HE : Hid (saysNone nm tx = false) := by show _ = _; simp [saysNone, h2]
      have e1 := text_some h2
      have e2 : (tx.toList == (⟨#[]⟩ : ByteArray).toList) = false := by rw [empty_listB]; exact e1
      subst h0
      clear h2
      go_enter Try.func62, Try.ntmps62
      go_wp2
      go_ret
      exact ⟨by rw [HE.out]; rfl, by go_grown⟩
  · have HE : Hid (saysNone nm tx = false) := by show _ = _; simp [saysNone, h0]
    have e1 : (nm == 0) = false := by simpa using h0
    clear h0
    go_enter Try.func62, Try.ntmps62
    go_wp2
    go_ret
    exact ⟨by rw [HE.out]; rfl, by go_grown⟩

set_option maxRecDepth 100000 in
set_option maxHeartbeats 1600000 in
theorem says_while (kd nm : Int) (tx : ByteArray) (kv : Value) (w : World) :
    Calls Try.prog 62 #[.iface 119 (.agg #[.int .i64 kd, .int .i64 nm, .string tx, kv]), .agg #[.int .i64 kd, .int .i64 nm, .string tx, kv]] w fun e w' => e = .returned (.bool (saysNone nm tx)) ∧ Below w.heap.size w w' := by
  have as_number : ∀ (v : Value) (W : World), (Instr.typeAssert (.iface 119 v) 100 111 true).run Try.prog W = .ok (.tuple #[.agg #[.int .i64 0, .int .i64 0, .string ByteArray.empty, .slice none 0 0], .bool false]) W := fun v W => as_other Try.underlying111 (by decide) (by kernel_rfl) v W
  have as_use : ∀ (v : Value) (W : World), (Instr.typeAssert (.iface 119 v) 100 112 true).run Try.prog W = .ok (.tuple #[.agg #[.int .i64 0, .int .i64 0, .string ByteArray.empty, .slice none 0 0], .bool false]) W := fun v W => as_other Try.underlying112 (by decide) (by kernel_rfl) v W
  have as_call : ∀ (v : Value) (W : World), (Instr.typeAssert (.iface 119 v) 100 116 true).run Try.prog W = .ok (.tuple #[.agg #[.int .i64 0, .int .i64 0, .string ByteArray.empty, .slice none 0 0], .bool false]) W := fun v W => as_other Try.underlying116 (by decide) (by kernel_rfl) v W
  have as_hold : ∀ (v : Value) (W : World), (Instr.typeAssert (.iface 119 v) 100 117 true).run Try.prog W = .ok (.tuple #[.agg #[.int .i64 0, .int .i64 0, .string ByteArray.empty, .slice none 0 0], .bool false]) W := fun v W => as_other Try.underlying117 (by decide) (by kernel_rfl) v W
  by_cases h0 : nm = 0
  · by_cases h2 : tx.size = 0
    · have HE : Hid (saysNone nm tx = true) := by show _ = _; simp [saysNone, h0, h2]
      obtain rfl := text_none h2
      subst h0
      clear h2
      go_enter Try.func62, Try.ntmps62
      go_wp2
      go_ret
      exact ⟨by rw [HE.out]; rfl, by go_grown⟩
    · have HE : Hid (saysNone nm tx = false) := by show _ = _; simp [saysNone, h2]
      have e1 := text_some h2
      have e2 : (tx.toList == (⟨#[]⟩ : ByteArray).toList) = false := by rw [empty_listB]; exact e1
      subst h0
      clear h2
      go_enter Try.func62, Try.ntmps62
      go_wp2
      go_ret
      exact ⟨by rw [HE.out]; rfl, by go_grown⟩
  · have HE : Hid (saysNone nm tx = false) := by show _ = _; simp [saysNone, h0]
    have e1 : (nm == 0) = false := by simpa using h0
    clear h0
    go_enter Try.func62, Try.ntmps62
    go_wp2
    go_ret
    exact ⟨by rw [HE.out]; rfl, by go_grown⟩

set_option maxRecDepth 100000 in
set_option maxHeartbeats 1600000 in
theorem says_print (kd nm : Int) (tx : ByteArray) (kv : Value) (w : World) :
    Calls Try.prog 62 #[.iface 120 (.agg #[.int .i64 kd, .int .i64 nm, .string tx, kv]), .agg #[.int .i64 kd, .int .i64 nm, .string tx, kv]] w fun e w' => e = .returned (.bool (saysNone nm tx)) ∧ Below w.heap.size w w' := by
  have as_number : ∀ (v : Value) (W : World), (Instr.typeAssert (.iface 120 v) 100 111 true).run Try.prog W = .ok (.tuple #[.agg #[.int .i64 0, .int .i64 0, .string ByteArray.empty, .slice none 0 0], .bool false]) W := fun v W => as_other Try.underlying111 (by decide) (by kernel_rfl) v W
  have as_use : ∀ (v : Value) (W : World), (Instr.typeAssert (.iface 120 v) 100 112 true).run Try.prog W = .ok (.tuple #[.agg #[.int .i64 0, .int .i64 0, .string ByteArray.empty, .slice none 0 0], .bool false]) W := fun v W => as_other Try.underlying112 (by decide) (by kernel_rfl) v W
  have as_call : ∀ (v : Value) (W : World), (Instr.typeAssert (.iface 120 v) 100 116 true).run Try.prog W = .ok (.tuple #[.agg #[.int .i64 0, .int .i64 0, .string ByteArray.empty, .slice none 0 0], .bool false]) W := fun v W => as_other Try.underlying116 (by decide) (by kernel_rfl) v W
  have as_hold : ∀ (v : Value) (W : World), (Instr.typeAssert (.iface 120 v) 100 117 true).run Try.prog W = .ok (.tuple #[.agg #[.int .i64 0, .int .i64 0, .string ByteArray.empty, .slice none 0 0], .bool false]) W := fun v W => as_other Try.underlying117 (by decide) (by kernel_rfl) v W
  by_cases h0 : nm = 0
  · by_cases h2 : tx.size = 0
    · have HE : Hid (saysNone nm tx = true) := by show _ = _; simp [saysNone, h0, h2]
      obtain rfl := text_none h2
      subst h0
      clear h2
      go_enter Try.func62, Try.ntmps62
      go_wp2
      go_ret
      exact ⟨by rw [HE.out]; rfl, by go_grown⟩
    · have HE : Hid (saysNone nm tx = false) := by show _ = _; simp [saysNone, h2]
      have e1 := text_some h2
      have e2 : (tx.toList == (⟨#[]⟩ : ByteArray).toList) = false := by rw [empty_listB]; exact e1
      subst h0
      clear h2
      go_enter Try.func62, Try.ntmps62
      go_wp2
      go_ret
      exact ⟨by rw [HE.out]; rfl, by go_grown⟩
  · have HE : Hid (saysNone nm tx = false) := by show _ = _; simp [saysNone, h0]
    have e1 : (nm == 0) = false := by simpa using h0
    clear h0
    go_enter Try.func62, Try.ntmps62
    go_wp2
    go_ret
    exact ⟨by rw [HE.out]; rfl, by go_grown⟩

set_option maxRecDepth 100000 in
set_option maxHeartbeats 1600000 in
theorem says_do (kd nm : Int) (tx : ByteArray) (kv : Value) (w : World) :
    Calls Try.prog 62 #[.iface 121 (.agg #[.int .i64 kd, .int .i64 nm, .string tx, kv]), .agg #[.int .i64 kd, .int .i64 nm, .string tx, kv]] w fun e w' => e = .returned (.bool (saysNone nm tx)) ∧ Below w.heap.size w w' := by
  have as_number : ∀ (v : Value) (W : World), (Instr.typeAssert (.iface 121 v) 100 111 true).run Try.prog W = .ok (.tuple #[.agg #[.int .i64 0, .int .i64 0, .string ByteArray.empty, .slice none 0 0], .bool false]) W := fun v W => as_other Try.underlying111 (by decide) (by kernel_rfl) v W
  have as_use : ∀ (v : Value) (W : World), (Instr.typeAssert (.iface 121 v) 100 112 true).run Try.prog W = .ok (.tuple #[.agg #[.int .i64 0, .int .i64 0, .string ByteArray.empty, .slice none 0 0], .bool false]) W := fun v W => as_other Try.underlying112 (by decide) (by kernel_rfl) v W
  have as_call : ∀ (v : Value) (W : World), (Instr.typeAssert (.iface 121 v) 100 116 true).run Try.prog W = .ok (.tuple #[.agg #[.int .i64 0, .int .i64 0, .string ByteArray.empty, .slice none 0 0], .bool false]) W := fun v W => as_other Try.underlying116 (by decide) (by kernel_rfl) v W
  have as_hold : ∀ (v : Value) (W : World), (Instr.typeAssert (.iface 121 v) 100 117 true).run Try.prog W = .ok (.tuple #[.agg #[.int .i64 0, .int .i64 0, .string ByteArray.empty, .slice none 0 0], .bool false]) W := fun v W => as_other Try.underlying117 (by decide) (by kernel_rfl) v W
  by_cases h0 : nm = 0
  · by_cases h2 : tx.size = 0
    · have HE : Hid (saysNone nm tx = true) := by show _ = _; simp [saysNone, h0, h2]
      obtain rfl := text_none h2
      subst h0
      clear h2
      go_enter Try.func62, Try.ntmps62
      go_wp2
      go_ret
      exact ⟨by rw [HE.out]; rfl, by go_grown⟩
    · have HE : Hid (saysNone nm tx = false) := by show _ = _; simp [saysNone, h2]
      have e1 := text_some h2
      have e2 : (tx.toList == (⟨#[]⟩ : ByteArray).toList) = false := by rw [empty_listB]; exact e1
      subst h0
      clear h2
      go_enter Try.func62, Try.ntmps62
      go_wp2
      go_ret
      exact ⟨by rw [HE.out]; rfl, by go_grown⟩
  · have HE : Hid (saysNone nm tx = false) := by show _ = _; simp [saysNone, h0]
    have e1 : (nm == 0) = false := by simpa using h0
    clear h0
    go_enter Try.func62, Try.ntmps62
    go_wp2
    go_ret
    exact ⟨by rw [HE.out]; rfl, by go_grown⟩

set_option maxRecDepth 100000 in
set_option maxHeartbeats 1600000 in
theorem says_block (kd nm : Int) (tx : ByteArray) (kv : Value) (w : World) :
    Calls Try.prog 62 #[.iface 122 (.agg #[.int .i64 kd, .int .i64 nm, .string tx, kv]), .agg #[.int .i64 kd, .int .i64 nm, .string tx, kv]] w fun e w' => e = .returned (.bool (saysNone nm tx)) ∧ Below w.heap.size w w' := by
  have as_number : ∀ (v : Value) (W : World), (Instr.typeAssert (.iface 122 v) 100 111 true).run Try.prog W = .ok (.tuple #[.agg #[.int .i64 0, .int .i64 0, .string ByteArray.empty, .slice none 0 0], .bool false]) W := fun v W => as_other Try.underlying111 (by decide) (by kernel_rfl) v W
  have as_use : ∀ (v : Value) (W : World), (Instr.typeAssert (.iface 122 v) 100 112 true).run Try.prog W = .ok (.tuple #[.agg #[.int .i64 0, .int .i64 0, .string ByteArray.empty, .slice none 0 0], .bool false]) W := fun v W => as_other Try.underlying112 (by decide) (by kernel_rfl) v W
  have as_call : ∀ (v : Value) (W : World), (Instr.typeAssert (.iface 122 v) 100 116 true).run Try.prog W = .ok (.tuple #[.agg #[.int .i64 0, .int .i64 0, .string ByteArray.empty, .slice none 0 0], .bool false]) W := fun v W => as_other Try.underlying116 (by decide) (by kernel_rfl) v W
  have as_hold : ∀ (v : Value) (W : World), (Instr.typeAssert (.iface 122 v) 100 117 true).run Try.prog W = .ok (.tuple #[.agg #[.int .i64 0, .int .i64 0, .string ByteArray.empty, .slice none 0 0], .bool false]) W := fun v W => as_other Try.underlying117 (by decide) (by kernel_rfl) v W
  by_cases h0 : nm = 0
  · by_cases h2 : tx.size = 0
    · have HE : Hid (saysNone nm tx = true) := by show _ = _; simp [saysNone, h0, h2]
      obtain rfl := text_none h2
      subst h0
      clear h2
      go_enter Try.func62, Try.ntmps62
      go_wp2
      go_ret
      exact ⟨by rw [HE.out]; rfl, by go_grown⟩
    · have HE : Hid (saysNone nm tx = false) := by show _ = _; simp [saysNone, h2]
      have e1 := text_some h2
      have e2 : (tx.toList == (⟨#[]⟩ : ByteArray).toList) = false := by rw [empty_listB]; exact e1
      subst h0
      clear h2
      go_enter Try.func62, Try.ntmps62
      go_wp2
      go_ret
      exact ⟨by rw [HE.out]; rfl, by go_grown⟩
  · have HE : Hid (saysNone nm tx = false) := by show _ = _; simp [saysNone, h0]
    have e1 : (nm == 0) = false := by simpa using h0
    clear h0
    go_enter Try.func62, Try.ntmps62
    go_wp2
    go_ret
    exact ⟨by rw [HE.out]; rfl, by go_grown⟩


end Go.Proofs.Ytljphnjmeckpbaa
