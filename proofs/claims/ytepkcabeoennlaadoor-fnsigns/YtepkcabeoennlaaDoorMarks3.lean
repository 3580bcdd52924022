/-
  The mark that stands at a place of a text, in the model.
-/
import Derived.Test.YtepkcabeoennlaaDoorNames
import Derived.Deep.QuietTactic
import Derived.BigQuiet
namespace Go.Proofs.YtepkcabeoennlaaDoor
open Go.RowKit

theorem l03Marks_any (w : World) :
    Calls Tryd.prog 43 #[] w fun e w' => e = .returned (.slice (some ⟨w.heap.size, 0, none⟩) 14 14) ∧ Hid (Below w.heap.size w w' ∧ TextsAt w' w.heap.size marks3) := by
  go_enter Tryd.func43, Tryd.ntmps43
  go_wp2
  go_ret
  exact ⟨rfl, (Below.refl _ _).alloc (Nat.le_refl _) _, fun i hi => texts_made w marks3 _ i hi⟩

/-- What l03Mark answers: the mark's text; none: the empty text. -/
def markT (l : List UInt8) : ByteArray := (markOf l).getD ⟨#[]⟩

theorem pre_iff (t q : ByteArray) (k : Nat) (hk : k ≤ t.size) : q.data.toList.isPrefixOf (t.data.toList.drop k) = true ↔ k + q.size ≤ t.size ∧ t.extract k (k + q.size) = q := by
  have hq := tlen q
  have ht := tlen t
  have hx : (t.extract k (k + q.size)).data.toList = (t.data.toList.drop k).take q.size := by rw [Lib.extract_data]; simp
  rw [List.isPrefixOf_iff_prefix, List.prefix_iff_eq_take, hq, ← hx]
  constructor
  · intro h
    have hl := congrArg List.length h
    rw [hx] at hl
    simp at hl
    refine ⟨by omega, ?_⟩
    generalize t.extract k (k + q.size) = u at h
    cases q; cases u
    simp at h
    rw [h]
  · rintro ⟨_, h⟩
    rw [h]

theorem find_at {p : ByteArray → Bool} : ∀ {ms : List ByteArray} {k : Nat}, k < ms.length → (∀ j, j < k → p (ms.getD j ByteArray.empty) = false) → p (ms.getD k ByteArray.empty) = true → ms.find? p = some (ms.getD k ByteArray.empty)
  | [], _, hk, _, _ => by simp at hk
  | m :: ms, 0, _, _, h => by
    simp only [List.getD_cons_zero] at h ⊢
    rw [List.find?_cons, h]
  | m :: ms, k + 1, hk, hp, h => by
    simp only [List.getD_cons_succ] at h ⊢
    have h0 := hp 0 (by omega)
    simp only [List.getD_cons_zero] at h0
    rw [List.find?_cons, h0]
    exact find_at (by simpa using hk) (fun j hj => by have := hp (j + 1) (by omega); simpa using this) h
theorem markT_at {l : List UInt8} {k : Nat} (hk : k < 14) (hp : ∀ j, j < k → (marks3.getD j ByteArray.empty).data.toList.isPrefixOf l = false) (h : (marks3.getD k ByteArray.empty).data.toList.isPrefixOf l = true) : markT l = marks3.getD k ByteArray.empty := by
  unfold markT markOf
  rw [find_at (p := fun m => m.data.toList.isPrefixOf l) hk hp h]
  rfl
theorem markT_none {l : List UInt8} (hp : ∀ j, j < 14 → (marks3.getD j ByteArray.empty).data.toList.isPrefixOf l = false) : markT l = ⟨#[]⟩ := by
  unfold markT markOf
  have : marks3.find? (fun m => m.data.toList.isPrefixOf l) = none := by
    rw [List.find?_eq_none]
    intro x hx
    obtain ⟨j, hj, rfl⟩ := List.getElem_of_mem hx
    have h1 := hp j hj
    rw [show marks3.getD j ByteArray.empty = marks3[j] by simp [List.getD, hj]] at h1
    simp [h1]
  rw [this]
  rfl
theorem texts_ext {a b : ByteArray} (h : (a.toList == b.toList) = true) : a = b := by
  have h' : a.toList = b.toList := by simpa using h
  rw [ByteArray.toList_eq, ByteArray.toList_eq] at h'
  cases a; cases b
  simp at h'
  rw [h']

set_option maxHeartbeats 800000 in
theorem l03Mark_any (t : ByteArray) (p : Nat) (w : World) (ht : t.size ≤ 3000) (hp : p ≤ t.size) :
    Calls Tryd.prog 34 #[.string t, .int .i64 (p : Int)] w fun e w' => e = .returned (.string (markT (t.data.toList.drop p))) ∧ Below w.heap.size w w' := by
  go_enter Tryd.func34, Tryd.ntmps34
  go_wp2_with (go_at_call 43; refine (l03Marks_any _).mono ?_; rintro e w1 ⟨rfl, hw1⟩)
  go_loopw [6, 7] (fun i _ wr => ∃ k : Nat, k ≤ 14 ∧ i = .int .i64 (k : Int) ∧ Hid (∀ j, j < k → (marks3.getD j ByteArray.empty).data.toList.isPrefixOf (t.data.toList.drop p) = false) ∧ Hid (Below w.heap.size w wr ∧ TextsAt wr w.heap.size marks3)) (fun i _ _ => 14 - (intOf i).toNat)
  case atStart => exact ⟨0, Nat.zero_le _, rfl, fun j hj => by omega, hw1⟩
  case round =>
    obtain ⟨k, hk, rfl, HK, HW⟩ := hrel
    by_cases hlt : k < 14
    · have hk1 : (k : Int) < 14 := by omega
      have hk0 : (0 : Int) ≤ (k : Int) := by omega
      have hck := HW.out.2 k hlt
      obtain ⟨q, hq⟩ : ∃ q, Hid (marks3.getD k ByteArray.empty = q) := ⟨_, (rfl : marks3.getD k ByteArray.empty = marks3.getD k ByteArray.empty)⟩
      have hq2 : q.size ≤ 2 := by
        have h0 : ∀ k, k < 14 → (marks3.getD k ByteArray.empty).size ≤ 2 := by decide
        rw [← hq.out]
        exact h0 k hlt
      rw [hq.out] at hck
      by_cases he1 : p + q.size ≤ t.size
      · have he1' : (p : Int) + (q.size : Int) ≤ (t.size : Int) := by omega
        have hsl : ∀ wx : World, (Instr.slice 9 (.string t) (some (.int .i64 (p : Int))) (some (.int .i64 ((p : Int) + (q.size : Int)))) none).run Tryd.prog wx = .ok (.string (t.extract p (p + q.size))) wx := by
          intro wx
          have := run_slice_string (P := Tryd.prog) wx 9 t .i64 .i64 (p : Int) ((p : Int) + (q.size : Int)) Tryd.underlying9 (by omega) (by omega) (by omega)
          rw [this]
          congr 3
        obtain ⟨u, hu⟩ : ∃ u, Hid (t.extract p (p + q.size) = u) := ⟨_, (rfl : t.extract p (p + q.size) = t.extract p (p + q.size))⟩
        rw [hu.out] at hsl
        by_cases he2 : (u.toList == q.toList) = true
        · have HE : Hid (markT (t.data.toList.drop p) = q) := by
            show _ = _
            rw [← hq.out]
            exact markT_at hlt HK.out (by rw [hq.out, pre_iff t q p hp]; exact ⟨he1, by rw [hu.out]; exact texts_ext he2⟩)
          go_wp2_with fail
          go_quiet (fail)
          go_wp2
          go_ret
          exact ⟨by rw [HE.out]; rfl, HW.out.1.trans ⟨rfl, rfl, rfl, Nat.le_refl _, fun _ _ => rfl⟩⟩
        · have he2' : (u.toList == q.toList) = false := by simpa using he2
          have HE : Hid ((marks3.getD k ByteArray.empty).data.toList.isPrefixOf (t.data.toList.drop p) = false) := by
            show _ = _
            rw [hq.out]
            cases hx : q.data.toList.isPrefixOf (t.data.toList.drop p) with
            | false => rfl
            | true =>
              have := ((pre_iff t q p hp).mp hx).2
              rw [hu.out] at this
              rw [this] at he2'
              simp at he2'
          clear he2
          go_wp2_with fail
          go_quiet (fail)
          go_wp2
          go_roundw
          case rel => exact ⟨k + 1, by omega, by go_num, fun j hj => by
            rcases Nat.lt_or_ge j k with h | h
            · exact HK.out j h
            · rw [show j = k by omega]; exact HE.out, HW.out.1.trans ⟨rfl, rfl, rfl, Nat.le_refl _, fun _ _ => rfl⟩, fun i hi => HW.out.2 i hi⟩
          case measure => simp [intOf]; omega
      · have he1' : decide ((p : Int) + (q.size : Int) ≤ (t.size : Int)) = false := decide_eq_false (by omega)
        have HE : Hid ((marks3.getD k ByteArray.empty).data.toList.isPrefixOf (t.data.toList.drop p) = false) := by
          show _ = _
          rw [hq.out]
          cases hx : q.data.toList.isPrefixOf (t.data.toList.drop p) with
          | false => rfl
          | true => exact absurd ((pre_iff t q p hp).mp hx).1 he1
        go_wp2_with fail
        go_quiet (fail)
        go_wp2
        go_roundw
        case rel => exact ⟨k + 1, by omega, by go_num, fun j hj => by
          rcases Nat.lt_or_ge j k with h | h
          · exact HK.out j h
          · rw [show j = k by omega]; exact HE.out, HW.out.1.trans ⟨rfl, rfl, rfl, Nat.le_refl _, fun _ _ => rfl⟩, fun i hi => HW.out.2 i hi⟩
        case measure => simp [intOf]; omega
    · have HE : Hid (markT (t.data.toList.drop p) = ⟨#[]⟩) := markT_none fun j hj => HK.out j (by omega)
      go_wp2
      go_ret
      exact ⟨by rw [HE.out]; rfl, HW.out.1⟩

end Go.Proofs.YtepkcabeoennlaaDoor
