/-
  An ending that came in, opened.
-/
import Derived.Test.YtabejilnpblogaaRowEnd
namespace Go.Proofs.Ytabejilnpblogaa
open Go.RowKit

theorem Try.structEn : ∃ f0 f1 : Field, Try.prog.underlying 52 = some (.struct #[f0, f1]) ∧ (f0.offset = 0 ∧ f1.offset = 1) ∧ f0.type = 25 ∧ f1.type = 3 := ⟨_, _, Try.underlying52, ⟨rfl, rfl⟩, rfl, rfl⟩
theorem Try.cellsEn : Try.prog.cellsOf 52 = 2 := by kernel_rfl
theorem len_two {γ : Type} {xs : List γ} (h : xs.length = 2) : ∃ x0 x1, xs = [x0, x1] := by
  match xs, h with
  | [x0, x1], _ => exact ⟨_, _, rfl⟩
theorem open_en {H : Type} {enc : TypeId × Value → H} {W : World} {fuel : Nat} {cs : Array Value} {x : DataW H × List MemPlace}
    (h : DataW.trod enc Try.prog W 0 (fun _ => true) true fuel 52 (Value.agg cs).cells.toList = some x) :
    ∃ v0 q, cs = #[v0, .int .i64 q.stop] ∧ RowI W W.heap.size v0 q.out ∧ okEn q := by
  obtain ⟨f0, f1, hst, ⟨o0, o1⟩, t0, t1⟩ := Try.structEn
  obtain ⟨xs, k, _, _, hlen, hxl, hf⟩ := DataW.trod_struct hst h
  rw [Try.cellsEn] at hlen
  have hxl' : xs.length = 2 := hxl
  obtain ⟨y0, y1, rfl⟩ := len_two hxl'
  obtain ⟨v0, v1, hv⟩ := len_two hlen
  have hcs : cs = #[v0, v1] := by
    have : cs.toList = [v0, v1] := hv
    rw [← this]
  subst hcs
  have g0 := hf 0 f0 rfl
  rw [o0, t0, Try.cellsInts, hv] at g0
  have g1 := hf 1 f1 rfl
  rw [o1, t1, Try.cellsInt, hv] at g1
  simp at g0 g1
  obtain ⟨z0, r0, k0, _⟩ := open_rowI g0
  obtain ⟨z1, e1, _, w1⟩ := DataW.trod_int Try.underlying3 g1
  simp at e1
  subst e1
  exact ⟨v0, ⟨z0, z1⟩, rfl, r0, k0⟩

end Go.Proofs.Ytabejilnpblogaa
