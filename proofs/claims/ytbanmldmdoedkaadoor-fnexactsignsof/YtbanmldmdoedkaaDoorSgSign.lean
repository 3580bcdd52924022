/-
  wordSign, numberSign, signAhead, in the program: what each answers.
-/
import Derived.Test.YtbanmldmdoedkaaDoorSgAhead
import Derived.Test.YtbanmldmdoedkaaDoorClone
import Derived.Lib.Builder
namespace Go.Proofs.YtbanmldmdoedkaaDoor
open Go.RowKit

/-- A block of the call's own, behind a callee that leaves what was there. -/
theorem own_block {w w1 : World} {cs : Array Value} {T : TypeId} (hb : Below (w.alloc (.cells cs T)).heap.size (w.alloc (.cells cs T)) w1) : w1.heap[w.heap.size]? = some (.cells cs T (0, 0)) := by
  rw [hb.block w.heap.size (by simp)]
  exact heap_alloc_new w _
theorem own_cell {w w1 : World} {cs : Array Value} {T : TypeId} (hb : Below (w.alloc (.cells cs T)).heap.size (w.alloc (.cells cs T)) w1) (j : Nat) : w1.cell? ⟨w.heap.size, j, none⟩ = cs[j]? := Lib.cell_of_heap (own_block hb) j
theorem own_free {w w1 : World} {cs : Array Value} {T : TypeId} (hb : Below (w.alloc (.cells cs T)).heap.size (w.alloc (.cells cs T)) w1) (j : Nat) : w1.frozen? ⟨w.heap.size, j, none⟩ = false := Lib.frozen_of_heap (own_block hb) j
theorem own_below {w w1 : World} {o : Obj} (hb : Below (w.alloc o).heap.size (w.alloc o) w1) : Below w.heap.size w w1 := ((Below.refl _ _).alloc (Nat.le_refl _) o).trans (hb.mono (by simp))

/-- Three stores into a block of three cells. -/
theorem three_cells {w1 : World} {b : Nat} {u0 u1 u2 v0 v1 v2 : Value} {T : TypeId} {fr : Nat × Nat} (hb : w1.heap[b]? = some (.cells #[u0, u1, u2] T fr)) :
    (((w1.setCell ⟨b, 0, none⟩ v0).setCell ⟨b, 1, none⟩ v1).setCell ⟨b, 2, none⟩ v2).heap[b]? = some (.cells #[v0, v1, v2] T fr) := by
  simp [World.setCell, Array.getElem?_modify, hb]

set_option maxHeartbeats 800000 in
theorem wordSign_long (t : ByteArray) (w : World) (h : 8 < t.size) :
    Calls Tryd.prog 43 #[.string t] w fun e w' => e = .returned (.tuple #[.agg #[.int .i64 0, .string ByteArray.empty, .int .i64 0], .int .i64 0]) ∧ Below w.heap.size w w' := by
  have h' : (8 : Int) < (t.size : Int) := by omega
  go_enter Tryd.func43, Tryd.ntmps43
  go_wp2
  go_returns
  exact ⟨rfl, by go_grown⟩

set_option maxHeartbeats 800000 in
theorem wordSign_short (t : ByteArray) (w : World) (h : ¬ 8 < t.size) :
    Calls Tryd.prog 43 #[.string t] w fun e w' => e = .returned (.tuple #[.agg #[.int .i64 1, .string t, .int .i64 0], .int .i64 (t.size : Int)]) ∧ Below w.heap.size w w' := by
  have h' : ¬ (8 : Int) < (t.size : Int) := by omega
  go_enter Tryd.func43, Tryd.ntmps43
  go_wp2_with fail
  go_at_call 55
  refine (Clone_any t _ (by omega)).mono ?_
  rintro e w1 ⟨rfl, hb1⟩
  have hc0 := own_cell hb1 0
  have hc1 := own_cell hb1 1
  have hc2 := own_cell hb1 2
  have hf0 := own_free hb1 0
  have hf1 := own_free hb1 1
  have hf2 := own_free hb1 2
  have HO := fun v0 v1 v2 => three_cells (v0 := v0) (v1 := v1) (v2 := v2) (own_block hb1)
  have e0 := fun v0 v1 v2 => Lib.cell_of_heap (HO v0 v1 v2) 0
  have e1 := fun v0 v1 v2 => Lib.cell_of_heap (HO v0 v1 v2) 1
  have e2 := fun v0 v1 v2 => Lib.cell_of_heap (HO v0 v1 v2) 2
  simp at e0 e1 e2
  have HB : Hid (Below w.heap.size w w1) := own_below hb1
  clear hb1 HO
  simp at hc0 hc1 hc2
  go_wp2
  refine bodyPost_ret (by simp [results, Tryd.results43, go_sem, e0, e1, e2]; try rfl) rfl ?_
  refine ⟨rfl, ?_⟩
  have := HB.out
  go_grown

set_option maxHeartbeats 800000 in
theorem numberSign_long (t : ByteArray) (w : World) (h : 10 < t.size) :
    Calls Tryd.prog 46 #[.string t] w fun e w' => e = .returned (.tuple #[.agg #[.int .i64 0, .string ByteArray.empty, .int .i64 0], .int .i64 0]) ∧ Below w.heap.size w w' := by
  have h' : (10 : Int) < (t.size : Int) := by omega
  go_enter Tryd.func46, Tryd.ntmps46
  go_wp2
  go_returns
  exact ⟨rfl, by go_grown⟩

theorem valD_bound : ∀ (n : Nat) (l : List UInt8), l.length = n → (∀ c ∈ l, isFig c = true) → valD l < 10 ^ n
  | 0, l, hl, _ => by
    obtain rfl := List.length_eq_zero_iff.1 hl
    simp [valD]
  | n + 1, l, hl, hf => by
    obtain ⟨p, c, rfl⟩ : ∃ p c, l = p ++ [c] := by
      rcases List.eq_nil_or_concat l with rfl | ⟨p, c, rfl⟩
      · simp at hl
      · exact ⟨p, c, by simp⟩
    have ih := valD_bound n p (by simpa using hl) (fun x hx => hf x (by simp [hx]))
    have hc := hf c (by simp)
    simp [isFig] at hc
    rw [valD_snoc, Nat.pow_succ]
    omega

theorem valD_take {t : ByteArray} {k : Nat} (hk : k < t.size) : valD (t.data.toList.take (k + 1)) = 10 * valD (t.data.toList.take k) + (t[k].toNat - 48) := by
  have hl : k < t.data.toList.length := by simpa using hk
  rw [List.take_succ_eq_append_getElem hl, valD_snoc]
  rfl

theorem iterPos_new (w : World) (o : Obj) (s : ByteArray) (p : Nat) : ((w.alloc o).iter s p).iterPos (w.heap.size + 1) = p := by
  have h : (w.alloc o).heap.size = w.heap.size + 1 := by simp
  rw [← h]
  exact World.iterPos_iter _ _ _

set_option maxRecDepth 100000 in
set_option maxHeartbeats 1600000 in
theorem numberSign_short (t : ByteArray) (w : World) (h : ¬ 10 < t.size) (hf : ∀ c ∈ t.data.toList, isFig c = true) (kd nm : Int) (ln : Nat)
    (HR : Hid ((if 1000000000 < valD t.data.toList then ((0 : Int), (0 : Int), 0) else (2, (valD t.data.toList : Int), t.size)) = (kd, nm, ln))) :
    Calls Tryd.prog 46 #[.string t] w fun e w' => e = .returned (.tuple #[.agg #[.int .i64 kd, .string ByteArray.empty, .int .i64 nm], .int .i64 (ln : Int)]) ∧ Below w.heap.size w w' := by
  have h' : ¬ (10 : Int) < (t.size : Int) := by omega
  have HF : Hid (∀ k (hk : k < t.size), 48 ≤ t[k].toNat ∧ t[k].toNat ≤ 57) := fun k hk => by
    have := hf t[k] (by exact List.getElem_mem (by simpa using hk))
    simpa [isFig] using this
  have HV : Hid (∀ k, k ≤ t.size → valD (t.data.toList.take k) < 10000000000) := fun k hk => by
    have := valD_bound k (t.data.toList.take k) (by simp; omega) (fun c hc => hf c (List.mem_of_mem_take hc))
    have h10 : 10 ^ k ≤ 10 ^ 10 := Nat.pow_le_pow_right (by omega) (by omega)
    omega
  clear hf
  go_enter Tryd.func46, Tryd.ntmps46
  go_wp2
  go_loopw [4] (fun n wr => ∃ (k x : Nat), k ≤ t.size ∧ wr = (w.alloc (.cells #[.int .i64 0, .string ⟨#[]⟩, .int .i64 0] 35)).iter t k ∧ n = .int .i64 (x : Int) ∧ Hid (valD (t.data.toList.take k) = x)) (fun _ wr => t.size - wr.iterPos (w.heap.size + 1))
  case atStart => exact ⟨0, 0, Nat.zero_le _, rfl, rfl, rfl⟩
  case round =>
    obtain ⟨k, x, hk, rfl, rfl, HX⟩ := hrel
    have hx : x < 10000000000 := by rw [← HX.out]; exact HV.out k hk
    have hsz : (w.alloc (.cells #[.int .i64 0, .string ⟨#[]⟩, .int .i64 0] 35)).heap.size = w.heap.size + 1 := by simp
    have hbel : Below (w.alloc (.cells #[.int .i64 0, .string ⟨#[]⟩, .int .i64 0] 35)).heap.size (w.alloc (.cells #[.int .i64 0, .string ⟨#[]⟩, .int .i64 0] 35)) ((w.alloc (.cells #[.int .i64 0, .string ⟨#[]⟩, .int .i64 0] 35)).iter t k) := (Below.refl _ _).alloc (Nat.le_refl _) _
    by_cases hlt : k < t.size
    · obtain ⟨c, hc⟩ : ∃ c : Int, Hid ((t[k].toNat : Int) = c) := ⟨_, (rfl : (t[k].toNat : Int) = (t[k].toNat : Int))⟩
      have hcr : 48 ≤ c ∧ c ≤ 57 := by have := HF.out k hlt; have := hc.out; omega
      have hc48 := hcr.1
      have hc57 := hcr.2
      have hnx : ∀ ty, (Instr.next (.pointer (some ⟨w.heap.size + 1, 0, none⟩)) true ty).run Tryd.prog ((w.alloc (.cells #[.int .i64 0, .string ⟨#[]⟩, .int .i64 0] 35)).iter t k) = .ok (.tuple #[.bool true, .int .i64 k, .int .i32 c]) ((w.alloc (.cells #[.int .i64 0, .string ⟨#[]⟩, .int .i64 0] 35)).iter t (k + 1)) := fun ty => by
        have := run_next_any (P := Tryd.prog) (w.alloc (.cells #[.int .i64 0, .string ⟨#[]⟩, .int .i64 0] 35)) t k ty hlt
        rw [decode_ascii t k hlt (by have := HF.out k hlt; omega), hsz] at this
        rw [← hc.out]
        exact this
      have HX1 : Hid (valD (t.data.toList.take (k + 1)) = 10 * x + (c.toNat - 48)) := by
        rw [valD_take hlt, HX.out]
        have := hc.out
        show _ = _
        omega
      clear hbel hsz hcr
      go_wp2
      go_roundw
      case rel =>
        refine ⟨k + 1, 10 * x + (c.toNat - 48), by omega, rfl, ?_, HX1⟩
        go_num
      case measure =>
        rw [iterPos_new, iterPos_new]
        omega
    · have hke : Hid (k = t.size) := (by omega : k = t.size)
      have hnx : ∀ ty, (Instr.next (.pointer (some ⟨w.heap.size + 1, 0, none⟩)) true ty).run Tryd.prog ((w.alloc (.cells #[.int .i64 0, .string ⟨#[]⟩, .int .i64 0] 35)).iter t k) = .ok (.tuple #[.bool false]) ((w.alloc (.cells #[.int .i64 0, .string ⟨#[]⟩, .int .i64 0] 35)).iter t k) := fun ty => by
        have := run_next_end (P := Tryd.prog) (w.alloc (.cells #[.int .i64 0, .string ⟨#[]⟩, .int .i64 0] 35)) t k ty hlt
        rw [hsz] at this
        exact this
      have HVx : Hid (valD t.data.toList = x) := by
        have := HX.out
        rw [hke.out, List.take_of_length_le (by simp)] at this
        exact this
      obtain ⟨W, HW⟩ : ∃ W, Hid ((w.alloc (.cells #[.int .i64 0, .string ⟨#[]⟩, .int .i64 0] 35)).iter t k = W) := ⟨_, (rfl : (w.alloc (.cells #[.int .i64 0, .string ⟨#[]⟩, .int .i64 0] 35)).iter t k = (w.alloc (.cells #[.int .i64 0, .string ⟨#[]⟩, .int .i64 0] 35)).iter t k)⟩
      rw [HW.out] at hnx hbel ⊢
      have hc0 := own_cell hbel 0
      have hc1 := own_cell hbel 1
      have hc2 := own_cell hbel 2
      have hf0 := own_free hbel 0
      have hf1 := own_free hbel 1
      have hf2 := own_free hbel 2
      have HO := fun v0 v1 v2 => three_cells (v0 := v0) (v1 := v1) (v2 := v2) (own_block hbel)
      have e0 := fun v0 v1 v2 => Lib.cell_of_heap (HO v0 v1 v2) 0
      have e1 := fun v0 v1 v2 => Lib.cell_of_heap (HO v0 v1 v2) 1
      have e2 := fun v0 v1 v2 => Lib.cell_of_heap (HO v0 v1 v2) 2
      simp at e0 e1 e2 hc0 hc1 hc2
      have HB : Hid (Below w.heap.size w W) := own_below hbel
      clear hbel HO HX hsz
      rw [HVx.out] at HR
      by_cases hm : 1000000000 < x
      · have hm' : (1000000000 : Int) < (x : Int) := by omega
        have HE : Hid (((0 : Int), (0 : Int), 0) = (kd, nm, ln)) := by
          have := HR.out
          rw [if_pos hm] at this
          exact this
        clear HR
        obtain ⟨rfl, rfl, rfl⟩ : 0 = kd ∧ 0 = nm ∧ 0 = ln := by simpa using HE.out
        go_wp2
        refine bodyPost_ret (by simp [results, Tryd.results46, go_sem, e0, e1, e2]; try rfl) rfl ?_
        refine ⟨rfl, ?_⟩
        have := HB.out
        go_grown
      · have hm' : ¬ (1000000000 : Int) < (x : Int) := by omega
        have HE : Hid (((2 : Int), (x : Int), t.size) = (kd, nm, ln)) := by
          have := HR.out
          rw [if_neg hm] at this
          exact this
        clear HR
        obtain ⟨rfl, rfl, rfl⟩ : 2 = kd ∧ (x : Int) = nm ∧ t.size = ln := by simpa using HE.out
        go_wp2
        refine bodyPost_ret (by simp [results, Tryd.results46, go_sem, e0, e1, e2]; try rfl) rfl ?_
        refine ⟨rfl, ?_⟩
        have := HB.out
        go_grown

end Go.Proofs.YtbanmldmdoedkaaDoor
