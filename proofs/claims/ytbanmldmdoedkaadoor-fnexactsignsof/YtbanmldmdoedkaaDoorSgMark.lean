/-
  The mark that a text begins with, in the program: what markSign answers at every text; where the table of marks lies as the program's text lays it.
-/
import Derived.Test.YtbanmldmdoedkaaDoorNa
import Derived.Test.YtbanmldmdoedkaaDoorShelf
import Derived.Handy
import Derived.Deep.MidRow
namespace Go.Proofs.YtbanmldmdoedkaaDoor
open Go.RowKit

/-- The table of marks lies as the program's text lays it. -/
def MarksOk (w : World) : Prop := ∀ i, i < 14 → w.cell? ⟨0, i, none⟩ = some (.string (marks3.getD i ByteArray.empty))

theorem MarksOk.below {w w1 : World} (h : MarksOk w) (hb : Below w.heap.size w w1) : MarksOk w1 := fun i hi =>
  (hb.cell (p := ⟨0, i, none⟩) (World.block_lt_of_cell? w _ (h i hi))).trans (h i hi)

theorem MarksOk.range {w : World} (h : MarksOk w) : w.rangeAt 0 0 (marks3.map Value.string) := by
  intro j v hj
  have hl : j < marks3.length := by
    have := (List.getElem?_eq_some_iff.1 hj).1
    simpa using this
  rw [Nat.zero_add, h j hl]
  simp only [List.getElem?_map] at hj
  rw [← hj]
  simp [List.getD, hl]

/-- What markSign answers: the kind, the text, the length; of none nothing. -/
def markRes (l : List UInt8) : Int × ByteArray × Nat := match markOf l with | none => (0, ByteArray.empty, 0) | some m => (3, m, m.size)

theorem markOf_none {l : List UInt8} (h : ∀ j, j < 14 → (marks3.getD j ByteArray.empty).data.toList.isPrefixOf l = false) : markOf l = none := by
  unfold markOf
  rw [List.find?_eq_none]
  intro x hx
  obtain ⟨j, hj, rfl⟩ := List.getElem_of_mem hx
  have := h j hj
  rw [show marks3.getD j ByteArray.empty = marks3[j] by simp [List.getD, hj]] at this
  simp [this]

theorem find_first {p : ByteArray → Bool} : ∀ (l : List ByteArray) (k : Nat) (hk : k < l.length), (∀ j (hj : j < l.length), j < k → p l[j] = false) → p l[k] = true → l.find? p = some l[k]
  | [], k, hk, _, _ => by simp at hk
  | c :: r, 0, _, _, hf => by
    have : p c = true := hf
    simp [List.find?, this]
  | c :: r, k + 1, hk, ht, hf => by
    have h0 : p c = false := ht 0 (by simp) (by omega)
    have ih := find_first r k (by simpa using hk) (fun j hj hlt => ht (j + 1) (by simpa using hj) (by omega)) (by simpa using hf)
    simp [List.find?, h0, ih]

theorem markOf_at {l : List UInt8} {k : Nat} (hk : k < 14) (h : ∀ j, j < k → (marks3.getD j ByteArray.empty).data.toList.isPrefixOf l = false) (hf : (marks3.getD k ByteArray.empty).data.toList.isPrefixOf l = true) : markOf l = some (marks3.getD k ByteArray.empty) := by
  have hk' : k < marks3.length := hk
  rw [show marks3.getD k ByteArray.empty = marks3[k] by simp [List.getD, hk']] at hf ⊢
  refine find_first marks3 k hk' (fun j hj hlt => ?_) hf
  have := h j hlt
  rw [show marks3.getD j ByteArray.empty = marks3[j] by simp [List.getD, hj]] at this
  exact this

theorem index_texts {P : Program} {t e : TypeId} {n : Nat} (ss : List ByteArray) (k : Nat) (hk : k < ss.length) (ht : P.underlying t = some (.array n e)) (hn : n = ss.length) (ha : ∀ w, (isAgg e).run P w = .ok false w) (hz : ∀ w, (sizeOf e).run P w = .ok 1 w) (w : World) :
    (Instr.index t (.agg (ss.map Value.string).toArray) (.int .i64 (k : Int))).run P w = .ok (.string (ss.getD k ByteArray.empty)) w := by
  have h1 : (0 : Int) ≤ (k : Int) ∧ (k : Int) < (n : Int) := by omega
  simp [Instr.index, run_underlying ht, asIntOf, go_sem, part, Sem.run_bind, ha, hz, hk, List.getD]
  intro h
  omega

set_option maxRecDepth 100000 in
set_option maxHeartbeats 800000 in
theorem markSign_any (t : ByteArray) (w : World) (hm : MarksOk w) (kd : Int) (tx : ByteArray) (ln : Nat) (HR : Hid (markRes t.data.toList = (kd, tx, ln))) :
    Calls Tryd.prog 47 #[.string t] w fun e w' => e = .returned (.tuple #[.agg #[.int .i64 kd, .string tx, .int .i64 0], .int .i64 (ln : Int)]) ∧ Below w.heap.size w w' := by
  have Hm : Hid (MarksOk w) := hm
  clear hm
  obtain ⟨L, HL⟩ : ∃ L, Hid (marks3.map Value.string = L) := ⟨_, (rfl : marks3.map Value.string = marks3.map Value.string)⟩
  have hlen : Hid ((Tryd.prog.info? 72).map (·.size) = some L.length) := by
    rw [← HL.out]
    exact (by kernel_rfl : (Tryd.prog.info? 72).map (·.size) = some (marks3.map Value.string).length)
  have hrg : Hid (∀ o, (w.alloc o).rangeAt 0 0 L) := fun o => by
    rw [← HL.out]
    exact (Hm.out.below ((Below.refl _ _).alloc (Nat.le_refl _) _)).range
  go_enter Tryd.func47, Tryd.ntmps47
  go_wp2_with (refine wpList_load_mid rfl 72 _ rfl 0 0 rfl L _ (hrg.out _) Tryd.underlying72 rfl hlen.out ?_)
  go_loop [7] (fun i => ∃ k : Nat, k ≤ 14 ∧ i = .int .i64 (k : Int) ∧ Hid (∀ j, j < k → (marks3.getD j ByteArray.empty).data.toList.isPrefixOf t.data.toList = false)) (fun i => 14 - (intOf i).toNat)
  case atStart => exact ⟨0, Nat.zero_le _, rfl, fun j hj => by omega⟩
  case round =>
    obtain ⟨k, hk, rfl, HK⟩ := hrel
    by_cases hlt : k < 14
    · have hk1 : (k : Int) < 14 := by omega
      have hk0 : (0 : Int) ≤ (k : Int) := by omega
      obtain ⟨q, hq⟩ : ∃ q, Hid (marks3.getD k ByteArray.empty = q) := ⟨_, (rfl : marks3.getD k ByteArray.empty = marks3.getD k ByteArray.empty)⟩
      have hix : ∀ W, (Instr.index 72 (.agg L.toArray) (.int .i64 (k : Int))).run Tryd.prog W = .ok (.string q) W := fun W => by
        rw [← HL.out, ← hq.out]
        exact index_texts marks3 k hlt Tryd.underlying72 rfl Tryd.isAgg9 Tryd.sizeOf9 W
      have hpf : ∀ W, Calls Tryd.prog 56 #[.string t, .string q] W fun e w' => e = .returned (.bool (q.data.toList.isPrefixOf t.data.toList)) ∧ w' = W := fun W => Tryd.strings_HasPrefix t q W
      cases hb : q.data.toList.isPrefixOf t.data.toList
      · rw [hb] at hpf
        have HK1 : Hid (∀ j, j < k + 1 → (marks3.getD j ByteArray.empty).data.toList.isPrefixOf t.data.toList = false) := fun j hj => by
          by_cases e : j = k
          · subst e
            rw [hq.out]
            exact hb
          · exact HK.out j (by omega)
        clear hb HK
        go_wp2_with (go_at_call 56; refine (hpf _).mono ?_; rintro e w1 ⟨rfl, rfl⟩)
        go_round
        case rel => exact ⟨k + 1, by omega, by go_num, HK1⟩
        case measure => simp [intOf]; omega
      · rw [hb] at hpf
        have HE : Hid ((3, q, q.size) = (kd, tx, ln)) := by
          rw [← HR.out]
          unfold markRes
          rw [markOf_at hlt HK.out (by rw [hq.out]; exact hb), hq.out]
          exact rfl
        clear hb HK HR
        obtain ⟨rfl, rfl, rfl⟩ : 3 = kd ∧ q = tx ∧ q.size = ln := by simpa using HE.out
        go_wp2_with (go_at_call 56; refine (hpf _).mono ?_; rintro e w1 ⟨rfl, rfl⟩)
        go_returns
        exact ⟨rfl, by go_grown⟩
    · have hke : Hid (k = 14) := (by omega : k = 14)
      have hk1 : ¬ (k : Int) < 14 := by omega
      have HE : Hid (((0 : Int), ByteArray.empty, 0) = (kd, tx, ln)) := by
        rw [← HR.out]
        unfold markRes
        rw [markOf_none (fun j hj => HK.out j (by rw [hke.out]; exact hj))]
        exact rfl
      clear HK HR
      obtain ⟨rfl, rfl, rfl⟩ : 0 = kd ∧ ByteArray.empty = tx ∧ 0 = ln := by simpa using HE.out
      go_wp2
      go_returns
      exact ⟨rfl, by go_grown⟩

end Go.Proofs.YtbanmldmdoedkaaDoor
