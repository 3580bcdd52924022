/-
  A memory that came in, opened.
-/
import Derived.Test.YtogdofdgkhkcaaaRowMem
namespace Go.Proofs.Ytogdofdgkhkcaaa
open Go.RowKit

theorem Try.structMm : ∃ f0 f1 f2 f3 f4 : Field, Try.prog.underlying 58 = some (.struct #[f0, f1, f2, f3, f4]) ∧ (f0.offset = 0 ∧ f1.offset = 1 ∧ f2.offset = 2 ∧ f3.offset = 3 ∧ f4.offset = 4) ∧ f0.type = 56 ∧ f1.type = 25 ∧ f2.type = 25 ∧ f3.type = 3 ∧ f4.type = 3 := ⟨_, _, _, _, _, Try.underlying58, ⟨rfl, rfl, rfl, rfl, rfl⟩, rfl, rfl, rfl, rfl, rfl⟩
theorem Try.cellsMm : Try.prog.cellsOf 58 = 5 := by kernel_rfl
theorem len_five {γ : Type} {xs : List γ} (h : xs.length = 5) : ∃ x0 x1 x2 x3 x4, xs = [x0, x1, x2, x3, x4] := by
  match xs, h with
  | [x0, x1, x2, x3, x4], _ => exact ⟨_, _, _, _, _, rfl⟩
theorem open_mm {H : Type} {enc : TypeId × Value → H} {W : World} {fuel : Nat} {cs : Array Value} {x : DataW H × List MemPlace}
    (h : DataW.trod enc Try.prog W 0 (fun _ => true) true fuel 58 (Value.agg cs).cells.toList = some x) :
    ∃ v0 v1 v2 m, cs = #[v0, v1, v2, .int .i64 m.fuel, .int .i64 m.bad] ∧ RowMm W W.heap.size v0 v1 v2 m ∧ okMm m := by
  obtain ⟨f0, f1, f2, f3, f4, hst, ⟨o0, o1, o2, o3, o4⟩, t0, t1, t2, t3, t4⟩ := Try.structMm
  obtain ⟨xs, k, _, _, hlen, hxl, hf⟩ := DataW.trod_struct hst h
  rw [Try.cellsMm] at hlen
  have hxl' : xs.length = 5 := hxl
  obtain ⟨y0, y1, y2, y3, y4, rfl⟩ := len_five hxl'
  obtain ⟨v0, v1, v2, v3, v4, hv⟩ := len_five hlen
  have hcs : cs = #[v0, v1, v2, v3, v4] := by
    have : cs.toList = [v0, v1, v2, v3, v4] := hv
    rw [← this]
  subst hcs
  have g0 := hf 0 f0 rfl
  rw [o0, t0, Try.cellsCes, hv] at g0
  have g1 := hf 1 f1 rfl
  rw [o1, t1, Try.cellsInts, hv] at g1
  have g2 := hf 2 f2 rfl
  rw [o2, t2, Try.cellsInts, hv] at g2
  have g3 := hf 3 f3 rfl
  rw [o3, t3, Try.cellsInt, hv] at g3
  have g4 := hf 4 f4 rfl
  rw [o4, t4, Try.cellsInt, hv] at g4
  simp at g0 g1 g2 g3 g4
  obtain ⟨z0, r0, k0⟩ := open_ces g0
  obtain ⟨z1, r1, k1, _⟩ := open_rowI g1
  obtain ⟨z2, r2, k2, _⟩ := open_rowI g2
  obtain ⟨z3, e3, _, w3⟩ := DataW.trod_int Try.underlying3 g3
  simp at e3
  subst e3
  obtain ⟨z4, e4, _, w4⟩ := DataW.trod_int Try.underlying3 g4
  simp at e4
  subst e4
  have h3 := bounds_i64 w3
  exact ⟨v0, v1, v2, ⟨z0, z1, z2, z3, z4⟩, rfl, ⟨r0, r1, r2⟩, k0, k1, k2, h3.1, h3.2⟩

end Go.Proofs.Ytogdofdgkhkcaaa
