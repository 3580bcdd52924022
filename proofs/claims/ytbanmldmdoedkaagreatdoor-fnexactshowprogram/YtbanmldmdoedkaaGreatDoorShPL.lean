/-
  The law of ShowProgram; where the texts of types and the powers of ten lie as their texts lay them.
-/
import Derived.Test.YtbanmldmdoedkaaGreatDoorRows
import Derived.Test.YtbanmldmdoedkaaGreatDoorLawShP
import Derived.MakeChecks
import Derived.Lib.LaidU8
namespace Go.Proofs.YtbanmldmdoedkaaGreatDoor
open Go.RowKit

def textDataS {H : Type} (ss : List ByteArray) : DataW H := .agg (ss.map fun s => .lit (.string s.data.toList))
theorem list_textS {a b : ByteArray} (h : a.data.toList = b.data.toList) : a = b := by
  cases a; cases b
  simp only [ByteArray.mk.injEq]
  exact Array.toList_inj.1 h
/-- An array of texts that reads as the table holds the table's texts, cell for cell. -/
theorem cells_of_textsS {H : Type} {enc : TypeId × Value → H} {P : Program} {w : World} {base : Nat} {sp : Nat → Bool} {held : Bool} {fuel : Nat} {t e : TypeId} {n : Nat} {cs : List Value} {zs : List ByteArray} {p : List MemPlace}
    (ht : P.underlying t = some (.array n e)) (he : P.underlying e = some .string) (hce : P.cellsOf e = 1) (hct : P.cellsOf t = n)
    (h : DataW.trod enc P w base sp held fuel t cs = some (textDataS zs, p)) : cs = zs.map Value.string := by
  cases fuel with
  | zero => simp [DataW.trod] at h
  | succ fuel =>
    simp only [DataW.trod, ht, hce, hct, Nat.mul_one] at h
    split at h
    · rename_i hl
      obtain ⟨xs, hm, hx⟩ := Option.map_eq_some_iff.1 h
      have hxs : xs.map (·.1) = zs.map fun z => (DataW.lit (.string z.data.toList) : DataW H) := by
        have := congrArg Prod.fst hx
        simpa [textDataS] using this
      have hxl : xs.length = n := by simpa using Lib.mapM_length hm
      have hzl : zs.length = n := by
        have := congrArg List.length hxs
        simp at this
        omega
      apply List.ext_getElem?
      intro i
      by_cases hi : i < n
      · obtain ⟨b, hb, hf⟩ := Lib.mapM_at hm i i (by simp [hi])
        obtain ⟨z, hc, rfl, _⟩ := DataW.trod_string he hf
        have h1 : cs[i]? = some (.string z) := by
          have := congrArg (·[0]?) hc
          simpa [List.getElem?_take, List.getElem?_drop] using this
        have h2 : (xs.map (·.1))[i]? = some (DataW.lit (.string z.data.toList) : DataW H) := by simp [hb]
        rw [hxs] at h2
        simp only [List.getElem?_map, Option.map_eq_some_iff, DataW.lit.injEq, Lit.string.injEq] at h2
        obtain ⟨z', hz', e⟩ := h2
        rw [h1, List.getElem?_map, hz', list_textS e]
        rfl
      · rw [List.getElem?_eq_none (by omega), List.getElem?_eq_none (by simp; omega)]
    · cases h
theorem types_reads {w : World} (h : Lib.VarReads Tryz.prog w "loop.example/g00423/impl.typeTexts" (textDataS types5)) : TypesOk w := by
  obtain ⟨g, t, cs, fuel, p, hg, ht, hvar, hd⟩ := h
  have hg' : Tryz.prog.globalNamed "loop.example/g00423/impl.typeTexts" = some 0 := by kernel_rfl
  have ht' : (Tryz.prog.globals[0]?).map (·.type) = some 144 := by kernel_rfl
  obtain rfl := Option.some.inj (hg'.symm.trans hg)
  obtain rfl := Option.some.inj (ht'.symm.trans ht)
  have hcs := cells_of_textsS Tryz.underlying144 Tryz.underlying9 (by kernel_rfl) (by kernel_rfl) hd
  intro i hi
  rw [World.var?_cell hg' hvar i]
  have hl : i < types5.length := hi
  have : cs[i]? = cs.toList[i]? := by simp
  rw [this, hcs]
  simp [List.getD, hl]
theorem types_data : (Rows.laid_loop_example_g00423_impl_typeTexts : DataW Unit) = textDataS types5 := by kernel_rfl

theorem lawShowProgram (a0 a1 : Value) (p : Pg) (w : World) (hL : laidMetH Tryz.prog Rows.fnExactShowProgramRow.laid w) (hp : RowPg w w.heap.size a0 a1 p ∧ okPg p) :
    Calls Tryz.prog 5 #[.agg #[a0, a1]] w fun e w' => e = .returned (.bool true) ∧ Below w.heap.size w w' := by
  rw [MakeChecks.laidMetH_plain _ _ _ (by kernel_rfl)] at hL
  have h1 := Lib.laidMet.reads hL (n := "loop.example/g00423/impl.typeTexts") (d := Rows.laid_loop_example_g00423_impl_typeTexts) (.tail _ (.tail _ (.tail _ (.head _))))
  rw [types_data] at h1
  have h3 : laidMet Tryz.prog [("internal/strconv.uint64pow10", Rows.laid_internal_strconv_uint64pow10), ("loop.example/g00423/impl.typeTexts", Rows.laid_loop_example_g00423_impl_typeTexts)] w := hL.tail.tail
  rw [tab10_data] at h3
  exact lawShowProgramT a0 a1 p w hp ⟨Lib.tabIs_of_head (g := 2) (t := 224) (e := 213) (n := 20) (by kernel_rfl) (by kernel_rfl) Tryz.underlying224 Tryz.underlying213 (by kernel_rfl) (by kernel_rfl) h3, types_reads h1⟩

end Go.Proofs.YtbanmldmdoedkaaGreatDoor
