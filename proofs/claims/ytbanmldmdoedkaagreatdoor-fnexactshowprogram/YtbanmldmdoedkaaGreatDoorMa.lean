/-
  A figure of sixteen, in the model. No condition but that the number is one of 0 .. 15.
  Decimal in the model: the figures of every number, behind a minus where it is below 0.
  What the laws ask of an answer's memory: rows of texts held one against the other, marked, and looked at again.
-/
import Derived.Test.YtbanmldmdoedkaaGreatDoorNa
import Derived.Test.YtbanmldmdoedkaaGreatDoorPa
import Derived.Deep.QuietTactic
import Derived.BigQuiet
namespace Go.Proofs.YtbanmldmdoedkaaGreatDoor
open Go.RowKit

theorem l01Figure_any (x : Int) (w : World) (h0 : 0 ≤ x) (h1 : x ≤ 15) :
    Calls Tryz.prog 113 #[.int .i64 x] w fun e w' => e = .returned (.int .u8 (figI x)) ∧ w' = w := by
  by_cases h : x < 10
  · go_enter Tryz.func113, Tryz.ntmps113
    go_wp2
    go_ret
    exact ⟨by rw [figI, if_pos h]; rfl, rfl⟩
  · go_enter Tryz.func113, Tryz.ntmps113
    go_wp2
    go_ret
    exact ⟨by rw [figI, if_neg (by omega), show (87 : Int) + x = 97 + x - 10 by omega]; rfl, rfl⟩

end Go.Proofs.YtbanmldmdoedkaaGreatDoor

namespace Go.Proofs.YtbanmldmdoedkaaGreatDoor
open Go.RowKit

theorem lit_string (x : Int) (wx : World) : (convert 22 9 (.slice (some ⟨wx.heap.size, 0, none⟩) 1 1)).run Tryz.prog (wx.alloc (.cells #[.int .u8 x] 5)) = .ok (.string (strOfNums [x])) (wx.alloc (.cells #[.int .u8 x] 5)) := by
  have ho : Owns8 (wx.alloc (.cells #[.int .u8 x] 5)) wx.heap.size 5 (.slice (some ⟨wx.heap.size, 0, none⟩) 1 1) [x] := World.ownsRow_lit wx #[.int .u8 x] 1 (Nat.le_refl _) (by decide) rfl
  exact own8_string ho (P := Tryz.prog) Tryz.underlying22 Tryz.underlying5 9 Tryz.underlying9

set_option maxHeartbeats 800000 in
theorem specDecimal_pos (N : Nat) (w : World) (hN : N ≤ 9223372036854775807) (h0 : 0 < N) :
    Calls Tryz.prog 68 #[.int .i64 (N : Int)] w fun e w' => e = .returned (.string ⟨(Lib.decDigits N).toArray⟩) ∧ Below w.heap.size w w' := by
  have hn0 : ((N : Int) == 0) = false := by simp; omega
  have hls := lit_string
  have hl1 : ∀ x : Int, (strOfNums [x]).size = 1 := fun x => strOfNums_size [x]
  go_enter Tryz.func68, Tryz.ntmps68
  go_wp2
  go_loopw [0, 4, 5] (fun n s _ wr => ∃ (u : Nat) (S : ByteArray), u ≤ N ∧ n = .int .i64 (u : Int) ∧ s = .string S ∧ Hid (Lib.decDigits N = digs u ++ S.data.toList) ∧ Below w.heap.size w wr)
    (fun n _ _ _ => (intOf n).toNat)
  case atStart => exact ⟨N, ⟨#[]⟩, Nat.le_refl _, rfl, rfl, by show _ = _; rw [digs_all h0]; simp, Below.refl _ _⟩
  case round =>
    obtain ⟨u, S, hu, rfl, rfl, HD, hnx⟩ := hrel
    have hsz := hnx.size
    have hS : S.size ≤ 20 := digs_short (by omega) HD.out
    clear hn0
    by_cases hz : 0 < u
    · have hz2 : ((u : Int) != 0) = true := by simp; omega
      go_wp2_with (go_at_call 113; refine (l01Figure_any _ _ ?_ ?_).mono ?_; omega; omega; rintro e w' ⟨rfl, rfl⟩)
      go_roundw
      case rel => exact ⟨u / 10, _, by omega, by go_num, rfl, step_digs hz HD.out _ (by rw [figI, if_pos (by omega)]; omega), hnx.alloc hsz _⟩
      case measure => simp [intOf]; omega
    · have hz2 : ((u : Int) != 0) = false := by simp; omega
      have hz3 : u = 0 := by omega
      subst hz3
      go_wp2
      go_ret
      exact ⟨by rw [HD.out, digs_zero, List.nil_append]; rfl, hnx⟩

theorem specDecimal_zero (w : World) :
    Calls Tryz.prog 68 #[.int .i64 0] w fun e w' => e = .returned (.string ⟨#[48]⟩) ∧ w' = w := by
  go_enter Tryz.func68, Tryz.ntmps68
  go_wp2
  go_ret
  exact ⟨rfl, rfl⟩

theorem neg_mod (u : Nat) : (-(u : Int)).tmod 10 = -((u % 10 : Nat) : Int) := by
  rw [Int.neg_tmod, Int.tmod_eq_emod_of_nonneg (by omega)]
  omega
theorem neg_wrap (u : Nat) (hu : u ≤ 9223372036854775808) : wrap64 (-((u : Int) / 10)) = -((u / 10 : Nat) : Int) := by
  unfold wrap64
  omega
theorem neg_div (u : Nat) (hu : u ≤ 9223372036854775808) : IntKind.i64.wrap ((-(u : Int)).tdiv 10) = -((u / 10 : Nat) : Int) := by
  rw [Int.neg_tdiv, Int.tdiv_eq_ediv_of_nonneg (by omega), IntWalk.i64_in _ ⟨by omega, by omega⟩]
  omega

set_option maxHeartbeats 800000 in
theorem specDecimal_neg (N : Nat) (w : World) (hN : N ≤ 9223372036854775808) (h0 : 0 < N) :
    Calls Tryz.prog 68 #[.int .i64 (-(N : Int))] w fun e w' => e = .returned (.string (⟨#[45]⟩ ++ ⟨(Lib.decDigits N).toArray⟩)) ∧ Below w.heap.size w w' := by
  have hn0 : (-(N : Int) == 0) = false := by simp; omega
  have hn1 : -(N : Int) < 0 := by omega
  have hls := lit_string
  have hl1 : ∀ x : Int, (strOfNums [x]).size = 1 := fun x => strOfNums_size [x]
  have HN : Hid (N ≤ 9223372036854775808) := hN
  clear hN
  go_enter Tryz.func68, Tryz.ntmps68
  go_wp2
  go_loopw [0, 4, 5] (fun n s _ wr => ∃ (u : Nat) (S : ByteArray), u ≤ N ∧ n = .int .i64 (-(u : Int)) ∧ s = .string S ∧ Hid (Lib.decDigits N = digs u ++ S.data.toList) ∧ Below w.heap.size w wr)
    (fun n _ _ _ => (-(intOf n)).toNat)
  case atStart => exact ⟨N, ⟨#[]⟩, Nat.le_refl _, rfl, rfl, by show _ = _; rw [digs_all h0]; simp, Below.refl _ _⟩
  case round =>
    obtain ⟨u, S, hu, rfl, rfl, HD, hnx⟩ := hrel
    have hsz := hnx.size
    have hS : S.size ≤ 20 := digs_short (by have := HN.out; omega) HD.out
    clear hn0 hn1
    by_cases hz : 0 < u
    · have hz2 : (-(u : Int) != 0) = true := by simp; omega
      obtain ⟨d, hd⟩ : ∃ d : Nat, d = u % 10 := ⟨_, rfl⟩
      obtain ⟨q, hq⟩ : ∃ q : Nat, q = u / 10 := ⟨_, rfl⟩
      have hm := neg_mod u
      have hv := neg_div u (by have := HN.out; omega)
      rw [← hd] at hm
      rw [← hq] at hv
      have hd9 : d ≤ 9 := by omega
      have HQ : Hid (d = u % 10 ∧ q = u / 10) := ⟨hd, hq⟩
      clear hd hq
      go_wp2_with (go_at_call 113; refine (l01Figure_any _ _ ?_ ?_).mono ?_; omega; omega; rintro e w' ⟨rfl, rfl⟩)
      all_goals
        go_roundw
        case rel => exact ⟨u / 10, _, by omega, congrArg (Value.int .i64) (neg_wrap u (by have := HN.out; omega)), rfl, step_digs hz HD.out _ (by rw [figI, if_pos (by omega)]; have := HQ.out; omega), hnx.alloc hsz _⟩
        case measure => simp only [intOf]; rw [neg_wrap u (by have := HN.out; omega)]; omega
    · have hz2 : (-(u : Int) != 0) = false := by simp; omega
      have hz3 : u = 0 := by omega
      subst hz3
      go_wp2
      go_ret
      exact ⟨by rw [HD.out, digs_zero, List.nil_append]; rfl, hnx⟩

theorem itoa_zero : (⟨(Lib.itoa 0).toArray⟩ : ByteArray) = ⟨#[48]⟩ := by
  rw [Lib.itoa, if_neg (by omega), show (0 : Int).toNat = 0 from rfl, Lib.decDigits_one (by omega)]
  rfl

/-- Decimal in the model, at every number. -/
theorem specDecimal_any (n : Int) (w : World) (h0 : -9223372036854775808 ≤ n) (h1 : n ≤ 9223372036854775807) :
    Calls Tryz.prog 68 #[.int .i64 n] w fun e w' => e = .returned (.string ⟨(Lib.itoa n).toArray⟩) ∧ Below w.heap.size w w' := by
  by_cases hz : n = 0
  · subst hz
    refine (specDecimal_zero w).mono ?_
    rintro e w' ⟨rfl, rfl⟩
    exact ⟨by rw [itoa_zero], Below.refl _ _⟩
  · by_cases hp : 0 < n
    · obtain ⟨N, rfl⟩ : ∃ N : Nat, n = N := ⟨n.toNat, by omega⟩
      have := specDecimal_pos N w (by omega) (by omega)
      rw [Lib.itoa, if_neg (by omega)]
      exact this
    · obtain ⟨N, rfl⟩ : ∃ N : Nat, n = -(N : Int) := ⟨(-n).toNat, by omega⟩
      have := specDecimal_neg N w (by omega) (by omega)
      rw [Lib.itoa, if_pos (by omega), show (-(N : Int)).natAbs = N by omega]
      have e : (⟨(45 :: Lib.decDigits N).toArray⟩ : ByteArray) = ⟨#[45]⟩ ++ ⟨(Lib.decDigits N).toArray⟩ := by
        apply WideShapes.bytes_inj
        rw [Go.Joins.data_append]
        rfl
      rw [e]
      exact this

end Go.Proofs.YtbanmldmdoedkaaGreatDoor

namespace Go.Proofs.YtbanmldmdoedkaaGreatDoor
open Go.RowKit

/-- The text of a mark. -/
def mkT (k : Nat) : ByteArray := ⟨#[109]⟩ ++ ⟨(Lib.decDigits k).toArray⟩

/-- A row of texts, in one form. -/
theorem OwnsS.any {w : World} {B : Nat} {e : TypeId} {v : Value} {ss : List ByteArray} (h : OwnsS w B e v ss) :
    ∃ ao cap, v = .slice ao ss.length cap ∧ (0 < ss.length → ∃ g, ao = some ⟨g, 0, none⟩ ∧ B ≤ g ∧ g < w.heap.size) := by
  rcases h.form with ⟨rfl, rfl⟩ | ⟨g, cap, rfl, h1, h2⟩
  · exact ⟨none, 0, rfl, fun h => by simp at h⟩
  · exact ⟨_, cap, rfl, fun _ => ⟨g, rfl, h1, h2⟩⟩

theorem grown_trans {a b c : World} {r r1 r2 : Option Nat} (h1 : a.grownBy b r1) (h2 : b.grownBy c r2) (e1 : r1 = none ∨ r1 = r) (e2 : r2 = none ∨ r2 = r) : a.grownBy c r := by
  refine ⟨h2.os.trans h1.os, h2.tape.trans h1.tape, h2.output.trans h1.output, Nat.le_trans h1.size h2.size, fun k hk hne => ?_⟩
  have n1 : some k ≠ r1 := by rcases e1 with rfl | rfl <;> simp_all
  have n2 : some k ≠ r2 := by rcases e2 with rfl | rfl <;> simp_all
  rw [h2.block k (Nat.lt_of_lt_of_le hk h1.size) n2, h1.block k hk n1]

/-- Marks from k on, n of them. -/
def marks (k n : Nat) : List ByteArray := (List.range n).map fun i => mkT (k + i)
theorem marks_len (k n : Nat) : (marks k n).length = n := by simp [marks]
theorem marks_step (k j : Nat) (ss : List ByteArray) (hj : j < ss.length) : (marks k j ++ ss.drop j).set j (mkT (k + j)) = marks k (j + 1) ++ ss.drop (j + 1) := by
  rw [List.set_append_right _ _ (by rw [marks_len]; exact Nat.le_refl _), marks_len, Nat.sub_self, List.drop_eq_getElem_cons hj, List.set_cons_zero]
  simp [marks, List.range_succ]
theorem marks_at {k n i : Nat} (h : i < n) : (marks k n).getD i ByteArray.empty = mkT (k + i) := by
  simp [marks, List.getD, h]

theorem OwnsS.put {w : World} {B : Nat} {e : TypeId} {g cap n : Nat} {ss : List ByteArray} (h : OwnsS w B e (.slice (some ⟨g, 0, none⟩) n cap) ss) (hn : n = ss.length) (j : Nat) (s : ByteArray) :
    OwnsS (w.setCell ⟨g, j, none⟩ (.string s)) B e (.slice (some ⟨g, 0, none⟩) n cap) (ss.set j s) ∧ w.grownBy (w.setCell ⟨g, j, none⟩ (.string s)) (some g) := by
  subst hn
  have := World.ownsRow.stored h j (.string s)
  refine ⟨?_, this.2⟩
  unfold OwnsS
  rw [List.length_set, List.map_set]
  exact this.1

theorem OwnsS.cellN {w : World} {B : Nat} {e : TypeId} {g cap n : Nat} {ss : List ByteArray} (h : OwnsS w B e (.slice (some ⟨g, 0, none⟩) n cap) ss) (hn : n = ss.length) {j : Nat} (hj : j < n) : w.cell? ⟨g, j, none⟩ = some (.string (ss.getD j ByteArray.empty)) := by
  subst hn
  exact h.cell hj

end Go.Proofs.YtbanmldmdoedkaaGreatDoor
