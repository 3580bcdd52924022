/-
  A figure of sixteen, in the model. No condition but that the number is one of 0 .. 15.
  Decimal in the model: the figures of every number, behind a minus where it is below 0.
  What the laws ask of an answer's memory: rows of texts held one against the other, marked, and looked at again.
-/
import Derived.Test.YtabejilnpblogaaNa
import Derived.Test.YtabejilnpblogaaPa
import Derived.Deep.QuietTactic
import Derived.BigQuiet
namespace Go.Proofs.Ytabejilnpblogaa
open Go.RowKit

end Go.Proofs.Ytabejilnpblogaa

namespace Go.Proofs.Ytabejilnpblogaa
open Go.RowKit

theorem lit_string (x : Int) (wx : World) : (convert 22 9 (.slice (some ⟨wx.heap.size, 0, none⟩) 1 1)).run Try.prog (wx.alloc (.cells #[.int .u8 x] 5)) = .ok (.string (strOfNums [x])) (wx.alloc (.cells #[.int .u8 x] 5)) := by
  have ho : Owns8 (wx.alloc (.cells #[.int .u8 x] 5)) wx.heap.size 5 (.slice (some ⟨wx.heap.size, 0, none⟩) 1 1) [x] := World.ownsRow_lit wx #[.int .u8 x] 1 (Nat.le_refl _) (by decide) rfl
  exact own8_string ho (P := Try.prog) Try.underlying22 Try.underlying5 9 Try.underlying9

theorem neg_mod (u : Nat) : (-(u : Int)).tmod 10 = -((u % 10 : Nat) : Int) := by
  rw [Int.neg_tmod, Int.tmod_eq_emod_of_nonneg (by omega)]
  omega
theorem neg_wrap (u : Nat) (hu : u ≤ 9223372036854775808) : wrap64 (-((u : Int) / 10)) = -((u / 10 : Nat) : Int) := by
  unfold wrap64
  omega
theorem neg_div (u : Nat) (hu : u ≤ 9223372036854775808) : IntKind.i64.wrap ((-(u : Int)).tdiv 10) = -((u / 10 : Nat) : Int) := by
  rw [Int.neg_tdiv, Int.tdiv_eq_ediv_of_nonneg (by omega), IntWalk.i64_in _ ⟨by omega, by omega⟩]
  omega

theorem itoa_zero : (⟨(Lib.itoa 0).toArray⟩ : ByteArray) = ⟨#[48]⟩ := by
  rw [Lib.itoa, if_neg (by omega), show (0 : Int).toNat = 0 from rfl, Lib.decDigits_one (by omega)]
  rfl

end Go.Proofs.Ytabejilnpblogaa

namespace Go.Proofs.Ytabejilnpblogaa
open Go.RowKit

/-- The text of a mark. -/
def mkT (k : Nat) : ByteArray := ⟨#[109]⟩ ++ ⟨(Lib.decDigits k).toArray⟩

/-- A row of texts, in one form. -/
theorem OwnsS.any {w : World} {B : Nat} {e : TypeId} {v : Value} {ss : List ByteArray} (h : OwnsS w B e v ss) :
    ∃ ao cap, v = .slice ao ss.length cap ∧ (0 < ss.length → ∃ g, ao = some ⟨g, 0, none⟩ ∧ B ≤ g ∧ g < w.heap.size) := by
  rcases h.form with ⟨rfl, rfl⟩ | ⟨g, cap, rfl, h1, h2⟩
  · exact ⟨none, 0, rfl, fun h => by simp at h⟩
  · exact ⟨_, cap, rfl, fun _ => ⟨g, rfl, h1, h2⟩⟩

theorem grown_trans {a b c : World} {r r1 r2 : Option Nat} (h1 : a.grownBy b r1) (h2 : b.grownBy c r2) (e1 : r1 = none ∨ r1 = r) (e2 : r2 = none ∨ r2 = r) : a.grownBy c r := by
  refine ⟨h2.os.trans h1.os, h2.tape.trans h1.tape, h2.output.trans h1.output, Nat.le_trans h1.size h2.size, fun k hk hne => ?_⟩
  have n1 : some k ≠ r1 := by rcases e1 with rfl | rfl <;> simp_all
  have n2 : some k ≠ r2 := by rcases e2 with rfl | rfl <;> simp_all
  rw [h2.block k (Nat.lt_of_lt_of_le hk h1.size) n2, h1.block k hk n1]

/-- Marks from k on, n of them. -/
def marks (k n : Nat) : List ByteArray := (List.range n).map fun i => mkT (k + i)
theorem marks_len (k n : Nat) : (marks k n).length = n := by simp [marks]
theorem marks_step (k j : Nat) (ss : List ByteArray) (hj : j < ss.length) : (marks k j ++ ss.drop j).set j (mkT (k + j)) = marks k (j + 1) ++ ss.drop (j + 1) := by
  rw [List.set_append_right _ _ (by rw [marks_len]; exact Nat.le_refl _), marks_len, Nat.sub_self, List.drop_eq_getElem_cons hj, List.set_cons_zero]
  simp [marks, List.range_succ]
theorem marks_at {k n i : Nat} (h : i < n) : (marks k n).getD i ByteArray.empty = mkT (k + i) := by
  simp [marks, List.getD, h]

theorem OwnsS.put {w : World} {B : Nat} {e : TypeId} {g cap n : Nat} {ss : List ByteArray} (h : OwnsS w B e (.slice (some ⟨g, 0, none⟩) n cap) ss) (hn : n = ss.length) (j : Nat) (s : ByteArray) :
    OwnsS (w.setCell ⟨g, j, none⟩ (.string s)) B e (.slice (some ⟨g, 0, none⟩) n cap) (ss.set j s) ∧ w.grownBy (w.setCell ⟨g, j, none⟩ (.string s)) (some g) := by
  subst hn
  have := World.ownsRow.stored h j (.string s)
  refine ⟨?_, this.2⟩
  unfold OwnsS
  rw [List.length_set, List.map_set]
  exact this.1

theorem OwnsS.cellN {w : World} {B : Nat} {e : TypeId} {g cap n : Nat} {ss : List ByteArray} (h : OwnsS w B e (.slice (some ⟨g, 0, none⟩) n cap) ss) (hn : n = ss.length) {j : Nat} (hj : j < n) : w.cell? ⟨g, j, none⟩ = some (.string (ss.getD j ByteArray.empty)) := by
  subst hn
  exact h.cell hj

end Go.Proofs.Ytabejilnpblogaa
