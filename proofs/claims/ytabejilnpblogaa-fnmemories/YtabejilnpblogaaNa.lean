/-
  The table's rows for bytes. No condition.
  Chapter 1's functions, by their contracts: what each call answers, and that it writes nothing that was there.
  KeyWord and NameOk, in the model: what each answers at every text.
  NameOk, in the model: what it answers at every text.
-/
import Derived.Test.YtabejilnpblogaaChecked
import Derived.Test.YtabejilnpblogaaKa
import Derived.Test.YtabejilnpblogaaPa
namespace Go.Proofs.Ytabejilnpblogaa

theorem Try.info8 : (Try.prog.info? 5).map (fun i => (i.zero, i.size, i.bytes)) = some (some (.int .u8 0), 1, 1) := by kernel_rfl

end Go.Proofs.Ytabejilnpblogaa

namespace Go.Proofs.Ytabejilnpblogaa
open Go.RowKit

theorem Try.mk5 (w : World) : (Instr.makeSlice 22 (.int .i64 0) (.int .i64 5)).run Try.prog w = .ok (.slice (some ⟨w.heap.size, 0, none⟩) 0 5) (w.alloc (.cells #[.int .u8 0, .int .u8 0, .int .u8 0, .int .u8 0, .int .u8 0] 5)) := by kernel_rfl

theorem l01In_yes (x a b : Int) (w : World) (h1 : a ≤ x) (h2 : x ≤ b) :
    Calls Try.prog 91 #[.int .i64 x, .int .i64 a, .int .i64 b] w fun e w' => e = .returned (.bool true) ∧ w' = w := by
  go_enter Try.func91, Try.ntmps91
  go_wp2
  go_ret
  exact ⟨rfl, rfl⟩

theorem l01In_no (x a b : Int) (w : World) (h : x < a ∨ b < x) :
    Calls Try.prog 91 #[.int .i64 x, .int .i64 a, .int .i64 b] w fun e w' => e = .returned (.bool false) ∧ w' = w := by
  by_cases h1 : x < a
  · go_enter Try.func91, Try.ntmps91
    go_wp2
    go_ret
    exact ⟨rfl, rfl⟩
  · have h2 : ¬ x ≤ b := by omega
    go_enter Try.func91, Try.ntmps91
    go_wp2
    go_ret
    exact ⟨rfl, rfl⟩

end Go.Proofs.Ytabejilnpblogaa

namespace Go.Proofs.Ytabejilnpblogaa
open Go.RowKit

/-- A row of texts that was just built. -/
theorem texts_made (w : World) (ss : List ByteArray) (e : TypeId) (i : Nat) (hi : i < ss.length) : (w.alloc (.cells (ss.map Value.string).toArray e)).cell? ⟨w.heap.size, i, none⟩ = some (.string (ss.getD i ByteArray.empty)) := by
  rw [World.cell?_alloc_mark]
  simp [List.getD, hi]

/-- A row of texts in a block. -/
def TextsAt (w : World) (b : Nat) (ss : List ByteArray) : Prop := ∀ i, i < ss.length → w.cell? ⟨b, i, none⟩ = some (.string (ss.getD i ByteArray.empty))

theorem any_at {s : ByteArray} {k : Nat} (hk : k < keys.length) (h : ((keys.getD k ByteArray.empty).toList == s.toList) = true) : isKey s = true := by
  unfold isKey
  rw [List.any_eq_true]
  refine ⟨keys[k], List.getElem_mem hk, ?_⟩
  have : keys.getD k ByteArray.empty = keys[k] := by simp [List.getD, hk]
  rw [this] at h
  exact h
theorem any_none {s : ByteArray} (h : ∀ j, j < 14 → ((keys.getD j ByteArray.empty).toList == s.toList) = false) : isKey s = false := by
  unfold isKey
  rw [List.any_eq_false]
  intro x hx
  obtain ⟨j, hj, rfl⟩ := List.getElem_of_mem hx
  have := h j hj
  rw [show keys.getD j ByteArray.empty = keys[j] by simp [List.getD, hj]] at this
  simp [this]

end Go.Proofs.Ytabejilnpblogaa

namespace Go.Proofs.Ytabejilnpblogaa
open Go.RowKit

theorem nameOk_size {s : ByteArray} (h : s.size < 1 ∨ 8 < s.size) : nameOk s = false := by
  unfold nameOk
  rcases h with h | h
  · rw [decide_eq_false (p := 1 ≤ s.size) (by omega)]; rfl
  · rw [decide_eq_false (p := s.size ≤ 8) (by omega)]; simp
theorem nameOk_head {s : ByteArray} (h : 0 < s.size) (hl : isLet s[0] = false) : nameOk s = false := by
  unfold nameOk
  rw [head_at h]
  simp [hl]
theorem nameOk_key {s : ByteArray} (h : isKey s = true) : nameOk s = false := by
  unfold nameOk
  simp [h]
theorem nameOk_bad {s : ByteArray} {k : Nat} (hk : k < s.size) (h : isLF s[k] = false) : nameOk s = false := by
  have : s.data.toList.all isLF = false := by
    rw [List.all_eq_false]
    exact ⟨s[k], List.getElem_mem (by rw [tlen]; exact hk), by simp [h]⟩
  unfold nameOk
  simp [this]
theorem nameOk_good {s : ByteArray} (h0 : 0 < s.size) (h8 : s.size ≤ 8) (hl : isLet s[0] = true) (hk : isKey s = false) (h : ∀ j, (hj : j < s.size) → isLF s[j] = true) : nameOk s = true := by
  have : s.data.toList.all isLF = true := by
    rw [List.all_eq_true]
    intro x hx
    obtain ⟨j, hj, rfl⟩ := List.getElem_of_mem hx
    exact h j (by rw [tlen] at hj; exact hj)
  unfold nameOk
  rw [head_at h0]
  simp [hl, hk, this]
  omega

end Go.Proofs.Ytabejilnpblogaa
