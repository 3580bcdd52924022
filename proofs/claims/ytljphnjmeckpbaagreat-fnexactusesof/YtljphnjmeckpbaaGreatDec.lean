/-
  Decimal in the model: the figures of every number, behind a minus where it is below 0.
-/
import Derived.Test.YtljphnjmeckpbaaGreatFig
import Derived.Test.YtljphnjmeckpbaaGreatPlain3
namespace Go.Proofs.YtljphnjmeckpbaaGreat
open Go.RowKit

theorem lit_string (x : Int) (wx : World) : (convert 131 9 (.slice (some ⟨wx.heap.size, 0, none⟩) 1 1)).run Tryz.prog (wx.alloc (.cells #[.int .u8 x] 5)) = .ok (.string (strOfNums [x])) (wx.alloc (.cells #[.int .u8 x] 5)) := by
  have ho : Owns8 (wx.alloc (.cells #[.int .u8 x] 5)) wx.heap.size 5 (.slice (some ⟨wx.heap.size, 0, none⟩) 1 1) [x] := World.ownsRow_lit wx #[.int .u8 x] 1 (Nat.le_refl _) (by decide) rfl
  exact own8_string ho (P := Tryz.prog) Tryz.underlying131 Tryz.underlying5 9 Tryz.underlying9

theorem neg_mod (u : Nat) : (-(u : Int)).tmod 10 = -((u % 10 : Nat) : Int) := by
  rw [Int.neg_tmod, Int.tmod_eq_emod_of_nonneg (by omega)]
  omega
theorem neg_wrap (u : Nat) (hu : u ≤ 9223372036854775808) : wrap64 (-((u : Int) / 10)) = -((u / 10 : Nat) : Int) := by
  unfold wrap64
  omega
theorem neg_div (u : Nat) (hu : u ≤ 9223372036854775808) : IntKind.i64.wrap ((-(u : Int)).tdiv 10) = -((u / 10 : Nat) : Int) := by
  rw [Int.neg_tdiv, Int.tdiv_eq_ediv_of_nonneg (by omega), IntWalk.i64_in _ ⟨by omega, by omega⟩]
  omega

theorem itoa_zero : (⟨(Lib.itoa 0).toArray⟩ : ByteArray) = ⟨#[48]⟩ := by
  rw [Lib.itoa, if_neg (by omega), show (0 : Int).toNat = 0 from rfl, Lib.decDigits_one (by omega)]
  rfl

end Go.Proofs.YtljphnjmeckpbaaGreat
