/-
  Rows of numbers cloned (slices.Clone).
-/
import Derived.Test.YtjafneaaefpefaaDe
import Derived.Lib.SliceRun
namespace Go.Proofs.Ytjafneaaefpefaa
open Go.RowKit

set_option maxRecDepth 100000 in
set_option maxHeartbeats 1600000 in
theorem cloneI_any (B : Nat) (v : Value) (xs : List Int) (w : World) (hB : B ≤ w.heap.size) (hv : RowI w B v xs) (hl : xs.length ≤ 1048576) :
    Calls Try.prog 102 #[v] w fun e w' => ∃ a n cap, e = .returned (.slice a n cap) ∧ OwnsI w' w.heap.size (.slice a n cap) xs ∧ Below w.heap.size w w' := by
  have q43 : ∀ (w : World) (a : Option Addr) (n c n' c' : Nat), (binOp .eql 43 (.slice a n c) (.slice none n' c')).run Try.prog w = .ok (.bool a.isNone) w := fun w a n c n' c' => Lib.run_eql_slice_nil w _ _ a n c n' c' Try.underlying43
  obtain ⟨a, cap, rfl⟩ := hv.len
  obtain ⟨K, HK⟩ : ∃ K, Hid (xs.length = K) := ⟨_, (rfl : xs.length = xs.length)⟩
  have HI : Hid (RowI w B (.slice a K cap) xs) := by rw [← HK.out]; exact hv
  rw [HK.out] at hl ⊢
  clear hv
  cases a with
  | none =>
    have HK0 : Hid (xs = []) := by
      rcases Nat.eq_zero_or_pos xs.length with e | e
      · exact List.eq_nil_of_length_eq_zero e
      · obtain ⟨_, _, e2, _⟩ := HI.out.at 0 e
        cases e2
    have hK0 : K = 0 := by rw [← HK.out, HK0.out]; rfl
    subst hK0
    go_enter Try.func102, Try.ntmps102
    go_wp2
    go_ret
    exact ⟨_, _, _, rfl, by rw [HK0.out]; exact ownsR_nil _ _ _ _ _, Below.refl _ _⟩
  | some ad =>
    have HE0 : Hid (OwnsI (w.alloc (.cells #[] 3)) w.heap.size (.slice (some ⟨w.heap.size, 0, none⟩) 0 0) []) := owns_empty w
    have HS0 : Hid (RowI (w.alloc (.cells #[] 3)) B (.slice (some ad) K cap) xs) := HI.out.keep ((Below.refl _ _).alloc hB _)
    have hks : xs.length ≤ 1048576 := by have := HK.out; omega
    go_enter Try.func102, Try.ntmps102
    go_wp2_with (at_builtin; go_must (refine appendI rfl _ _ 43 rfl w.heap.size Try.underlying43 Try.infoInt HE0.out xs B ad K cap HS0.out rfl rfl (by simp; omega) (by simp) ?_); intro v4 w4 hown4 hg4 hn4; obtain ⟨g4, cap4, hv4⟩ := form_some hown4 (fun h0 => absurd (hn4.mp h0).1 (by simp)); rw [List.nil_append, HK.out] at hv4; subst hv4)
    have HF : Hid (OwnsI w4 w.heap.size (.slice (some ⟨g4, 0, none⟩) K cap4) xs ∧ Below w.heap.size w w4) := by
      refine ⟨hown4, ?_⟩
      have h1 : Below w.heap.size w (w.alloc (.cells #[] 3)) := by go_grown
      exact h1.trans ⟨hg4.os, hg4.tape, hg4.output, hg4.size, fun k hk => hg4.block k (by simp; omega) (by simp [Value.ownBlock]; omega)⟩
    clear hown4 hg4 hn4
    go_ret
    exact ⟨_, _, _, rfl, HF.out⟩

end Go.Proofs.Ytjafneaaefpefaa
