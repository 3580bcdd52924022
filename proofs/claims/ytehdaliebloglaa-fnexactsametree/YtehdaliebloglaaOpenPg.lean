/-
  A program that came in, opened.
-/
import Derived.Test.YtehdaliebloglaaRowProgram
namespace Go.Proofs.Ytehdaliebloglaa
open Go.RowKit

theorem Try.structPg : ∃ f0 f1 : Field, Try.prog.underlying 25 = some (.struct #[f0, f1]) ∧ f0.offset = 0 ∧ f1.offset = 1 ∧ f0.type = 22 ∧ f1.type = 23 := ⟨_, _, Try.underlying25, rfl, rfl, rfl, rfl⟩
theorem Try.cellsPg : Try.prog.cellsOf 25 = 2 := by kernel_rfl
theorem open_pg {H : Type} {enc : TypeId × Value → H} {W : World} {fuel : Nat} {cs : Array Value} {x : DataW H × List MemPlace}
    (h : DataW.trod enc Try.prog W 0 (fun _ => true) true fuel 25 (Value.agg cs).cells.toList = some x) :
    ∃ v0 v1 p, cs = #[v0, v1] ∧ RowPg W W.heap.size v0 v1 p ∧ okPg p := by
  obtain ⟨f0, f1, hst, o0, o1, t0, t1⟩ := Try.structPg
  obtain ⟨xs, k, _, _, hlen, hxl, hf⟩ := DataW.trod_struct hst h
  rw [Try.cellsPg] at hlen
  have hxl' : xs.length = 2 := hxl
  obtain ⟨y0, y1, rfl⟩ := len_pm hxl'
  obtain ⟨v0, v1, hv⟩ := len_pm hlen
  have hcs : cs = #[v0, v1] := by
    have : cs.toList = [v0, v1] := hv
    rw [← this]
  subst hcs
  have g0 := hf 0 f0 rfl
  rw [o0, t0, Try.cellsNds, hv] at g0
  have g1 := hf 1 f1 rfl
  rw [o1, t1, Try.cellsFcs, hv] at g1
  simp at g0 g1
  obtain ⟨z0, r0, k0⟩ := open_nds g0
  obtain ⟨z1, r1, k1⟩ := open_fcs g1
  exact ⟨v0, v1, ⟨z0, z1⟩, rfl, ⟨r0, r1⟩, k0, k1⟩

end Go.Proofs.Ytehdaliebloglaa
