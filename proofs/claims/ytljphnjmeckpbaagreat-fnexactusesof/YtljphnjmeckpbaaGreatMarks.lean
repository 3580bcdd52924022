/-
  What the laws ask of an answer's memory: rows of texts held one against the other, marked, and looked at again.
-/
import Derived.Test.YtljphnjmeckpbaaGreatDec
import Derived.Deep.QuietTactic
import Derived.BigQuiet
namespace Go.Proofs.YtljphnjmeckpbaaGreat
open Go.RowKit

/-- The text of a mark. -/
def mkT (k : Nat) : ByteArray := ⟨#[109]⟩ ++ ⟨(Lib.decDigits k).toArray⟩

set_option maxHeartbeats 800000 in
theorem markText_any (N : Nat) (w : World) (hN : N ≤ 1000000000) (h0 : 0 < N) :
    Calls Tryz.prog 70 #[.int .i64 (N : Int)] w fun e w' => e = .returned (.string (mkT N)) ∧ Below w.heap.size w w' := by
  have hls := lit_string
  have hl1 : ∀ x : Int, (strOfNums [x]).size = 1 := fun x => strOfNums_size [x]
  go_enter Tryz.func70, Tryz.ntmps70
  go_wp2
  go_loopw [0, 3] (fun n s wr => ∃ (u : Nat) (S : ByteArray), u ≤ N ∧ n = .int .i64 (u : Int) ∧ s = .string S ∧ Hid (Lib.decDigits N = digs u ++ S.data.toList) ∧ Below w.heap.size w wr)
    (fun n _ _ => (intOf n).toNat)
  case atStart => exact ⟨N, ⟨#[]⟩, Nat.le_refl _, rfl, rfl, by show _ = _; rw [digs_all h0]; simp, Below.refl _ _⟩
  case round =>
    obtain ⟨u, S, hu, rfl, rfl, HD, hnx⟩ := hrel
    have hsz := hnx.size
    have hS : S.size ≤ 20 := digs_short (by omega) HD.out
    by_cases hz : 0 < u
    · go_wp2
      go_roundw
      case rel => exact ⟨u / 10, _, by omega, by go_num, rfl, step_digs hz HD.out _ (by omega), hnx.alloc hsz _⟩
      case measure => simp [intOf]; omega
    · have hz3 : u = 0 := by omega
      subst hz3
      go_wp2
      go_ret
      exact ⟨by rw [mkT, HD.out, digs_zero, List.nil_append]; rfl, hnx⟩

/-- A row of texts, in one form. -/
theorem OwnsS.any {w : World} {B : Nat} {e : TypeId} {v : Value} {ss : List ByteArray} (h : OwnsS w B e v ss) :
    ∃ ao cap, v = .slice ao ss.length cap ∧ (0 < ss.length → ∃ g, ao = some ⟨g, 0, none⟩ ∧ B ≤ g ∧ g < w.heap.size) := by
  rcases h.form with ⟨rfl, rfl⟩ | ⟨g, cap, rfl, h1, h2⟩
  · exact ⟨none, 0, rfl, fun h => by simp at h⟩
  · exact ⟨_, cap, rfl, fun _ => ⟨g, rfl, h1, h2⟩⟩

theorem grown_trans {a b c : World} {r r1 r2 : Option Nat} (h1 : a.grownBy b r1) (h2 : b.grownBy c r2) (e1 : r1 = none ∨ r1 = r) (e2 : r2 = none ∨ r2 = r) : a.grownBy c r := by
  refine ⟨h2.os.trans h1.os, h2.tape.trans h1.tape, h2.output.trans h1.output, Nat.le_trans h1.size h2.size, fun k hk hne => ?_⟩
  have n1 : some k ≠ r1 := by rcases e1 with rfl | rfl <;> simp_all
  have n2 : some k ≠ r2 := by rcases e2 with rfl | rfl <;> simp_all
  rw [h2.block k (Nat.lt_of_lt_of_le hk h1.size) n2, h1.block k hk n1]

/-- Marks from k on, n of them. -/
def marks (k n : Nat) : List ByteArray := (List.range n).map fun i => mkT (k + i)
theorem marks_len (k n : Nat) : (marks k n).length = n := by simp [marks]
theorem marks_step (k j : Nat) (ss : List ByteArray) (hj : j < ss.length) : (marks k j ++ ss.drop j).set j (mkT (k + j)) = marks k (j + 1) ++ ss.drop (j + 1) := by
  rw [List.set_append_right _ _ (by rw [marks_len]; exact Nat.le_refl _), marks_len, Nat.sub_self, List.drop_eq_getElem_cons hj, List.set_cons_zero]
  simp [marks, List.range_succ]
theorem marks_at {k n i : Nat} (h : i < n) : (marks k n).getD i ByteArray.empty = mkT (k + i) := by
  simp [marks, List.getD, h]

theorem OwnsS.put {w : World} {B : Nat} {e : TypeId} {g cap n : Nat} {ss : List ByteArray} (h : OwnsS w B e (.slice (some ⟨g, 0, none⟩) n cap) ss) (hn : n = ss.length) (j : Nat) (s : ByteArray) :
    OwnsS (w.setCell ⟨g, j, none⟩ (.string s)) B e (.slice (some ⟨g, 0, none⟩) n cap) (ss.set j s) ∧ w.grownBy (w.setCell ⟨g, j, none⟩ (.string s)) (some g) := by
  subst hn
  have := World.ownsRow.stored h j (.string s)
  refine ⟨?_, this.2⟩
  unfold OwnsS
  rw [List.length_set, List.map_set]
  exact this.1

theorem OwnsS.cellN {w : World} {B : Nat} {e : TypeId} {g cap n : Nat} {ss : List ByteArray} (h : OwnsS w B e (.slice (some ⟨g, 0, none⟩) n cap) ss) (hn : n = ss.length) {j : Nat} (hj : j < n) : w.cell? ⟨g, j, none⟩ = some (.string (ss.getD j ByteArray.empty)) := by
  subst hn
  exact h.cell hj

end Go.Proofs.YtljphnjmeckpbaaGreat
