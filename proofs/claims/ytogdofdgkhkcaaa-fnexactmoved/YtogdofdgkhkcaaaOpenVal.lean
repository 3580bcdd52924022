/-
  A value that came in, opened.
-/
import Derived.Test.YtogdofdgkhkcaaaOpenMem
namespace Go.Proofs.Ytogdofdgkhkcaaa
open Go.RowKit

theorem Try.structVl : ∃ f0 f1 : Field, Try.prog.underlying 64 = some (.struct #[f0, f1]) ∧ (f0.offset = 0 ∧ f1.offset = 1) ∧ f0.type = 3 ∧ f1.type = 3 := ⟨_, _, Try.underlying64, ⟨rfl, rfl⟩, rfl, rfl⟩
theorem Try.cellsVl : Try.prog.cellsOf 64 = 2 := by kernel_rfl
theorem open_val {H : Type} {enc : TypeId × Value → H} {W : World} {fuel : Nat} {cs : Array Value} {x : DataW H × List MemPlace}
    (h : DataW.trod enc Try.prog W 0 (fun _ => true) true fuel 64 (Value.agg cs).cells.toList = some x) :
    ∃ t k : Int, cs = #[.int .i64 t, .int .i64 k] := by
  obtain ⟨f0, f1, hst, ⟨o0, o1⟩, t0, t1⟩ := Try.structVl
  obtain ⟨xs, k, _, _, hlen, hxl, hf⟩ := DataW.trod_struct hst h
  rw [Try.cellsVl] at hlen
  have hxl' : xs.length = 2 := hxl
  obtain ⟨y0, y1, rfl⟩ := len_pm hxl'
  obtain ⟨v0, v1, hv⟩ := len_pm hlen
  have hcs : cs = #[v0, v1] := by
    have : cs.toList = [v0, v1] := hv
    rw [← this]
  subst hcs
  have g0 := hf 0 f0 rfl
  rw [o0, t0, Try.cellsInt, hv] at g0
  have g1 := hf 1 f1 rfl
  rw [o1, t1, Try.cellsInt, hv] at g1
  simp at g0 g1
  obtain ⟨z0, e0, _, w0⟩ := DataW.trod_int Try.underlying3 g0
  simp at e0
  subst e0
  obtain ⟨z1, e1, _, w1⟩ := DataW.trod_int Try.underlying3 g1
  simp at e1
  subst e1
  exact ⟨z0, z1, rfl⟩

end Go.Proofs.Ytogdofdgkhkcaaa
