/-
  A figure of sixteen, in the model. No condition but that the number is one of 0 .. 15.
  Decimal in the model: the figures of every number, behind a minus where it is below 0.
  What the laws ask of an answer's memory: rows of texts held one against the other, marked, and looked at again.
  Rows of numbers marked, and looked at again.
-/
import Derived.Test.YtjafneaaefpefaaRa
import Derived.Test.YtjafneaaefpefaaPa
import Derived.Deep.QuietTactic
import Derived.BigQuiet
import Derived.Test.YtjafneaaefpefaaKa
namespace Go.Proofs.Ytjafneaaefpefaa
open Go.RowKit

end Go.Proofs.Ytjafneaaefpefaa

namespace Go.Proofs.Ytjafneaaefpefaa
open Go.RowKit

theorem lit_string (x : Int) (wx : World) : (convert 139 9 (.slice (some ⟨wx.heap.size, 0, none⟩) 1 1)).run Try.prog (wx.alloc (.cells #[.int .u8 x] 5)) = .ok (.string (strOfNums [x])) (wx.alloc (.cells #[.int .u8 x] 5)) := by
  have ho : Owns8 (wx.alloc (.cells #[.int .u8 x] 5)) wx.heap.size 5 (.slice (some ⟨wx.heap.size, 0, none⟩) 1 1) [x] := World.ownsRow_lit wx #[.int .u8 x] 1 (Nat.le_refl _) (by decide) rfl
  exact own8_string ho (P := Try.prog) Try.underlying139 Try.underlying5 9 Try.underlying9

theorem neg_mod (u : Nat) : (-(u : Int)).tmod 10 = -((u % 10 : Nat) : Int) := by
  rw [Int.neg_tmod, Int.tmod_eq_emod_of_nonneg (by omega)]
  omega
theorem neg_wrap (u : Nat) (hu : u ≤ 9223372036854775808) : wrap64 (-((u : Int) / 10)) = -((u / 10 : Nat) : Int) := by
  unfold wrap64
  omega
theorem neg_div (u : Nat) (hu : u ≤ 9223372036854775808) : IntKind.i64.wrap ((-(u : Int)).tdiv 10) = -((u / 10 : Nat) : Int) := by
  rw [Int.neg_tdiv, Int.tdiv_eq_ediv_of_nonneg (by omega), IntWalk.i64_in _ ⟨by omega, by omega⟩]
  omega

theorem itoa_zero : (⟨(Lib.itoa 0).toArray⟩ : ByteArray) = ⟨#[48]⟩ := by
  rw [Lib.itoa, if_neg (by omega), show (0 : Int).toNat = 0 from rfl, Lib.decDigits_one (by omega)]
  rfl

end Go.Proofs.Ytjafneaaefpefaa

namespace Go.Proofs.Ytjafneaaefpefaa
open Go.RowKit

/-- The text of a mark. -/
def mkT (k : Nat) : ByteArray := ⟨#[109]⟩ ++ ⟨(Lib.decDigits k).toArray⟩

set_option maxHeartbeats 800000 in
theorem markText_any (N : Nat) (w : World) (hN : N ≤ 1000000000) (h0 : 0 < N) :
    Calls Try.prog 80 #[.int .i64 (N : Int)] w fun e w' => e = .returned (.string (mkT N)) ∧ Below w.heap.size w w' := by
  have hls := lit_string
  have hl1 : ∀ x : Int, (strOfNums [x]).size = 1 := fun x => strOfNums_size [x]
  go_enter Try.func80, Try.ntmps80
  go_wp2
  go_loopw [0, 3] (fun n s wr => ∃ (u : Nat) (S : ByteArray), u ≤ N ∧ n = .int .i64 (u : Int) ∧ s = .string S ∧ Hid (Lib.decDigits N = digs u ++ S.data.toList) ∧ Below w.heap.size w wr)
    (fun n _ _ => (intOf n).toNat)
  case atStart => exact ⟨N, ⟨#[]⟩, Nat.le_refl _, rfl, rfl, by show _ = _; rw [digs_all h0]; simp, Below.refl _ _⟩
  case round =>
    obtain ⟨u, S, hu, rfl, rfl, HD, hnx⟩ := hrel
    have hsz := hnx.size
    have hS : S.size ≤ 20 := digs_short (by omega) HD.out
    by_cases hz : 0 < u
    · go_wp2
      go_roundw
      case rel => exact ⟨u / 10, _, by omega, by go_num, rfl, step_digs hz HD.out _ (by omega), hnx.alloc hsz _⟩
      case measure => simp [intOf]; omega
    · have hz3 : u = 0 := by omega
      subst hz3
      go_wp2
      go_ret
      exact ⟨by rw [mkT, HD.out, digs_zero, List.nil_append]; rfl, hnx⟩

/-- A row of texts, in one form. -/
theorem OwnsS.any {w : World} {B : Nat} {e : TypeId} {v : Value} {ss : List ByteArray} (h : OwnsS w B e v ss) :
    ∃ ao cap, v = .slice ao ss.length cap ∧ (0 < ss.length → ∃ g, ao = some ⟨g, 0, none⟩ ∧ B ≤ g ∧ g < w.heap.size) := by
  rcases h.form with ⟨rfl, rfl⟩ | ⟨g, cap, rfl, h1, h2⟩
  · exact ⟨none, 0, rfl, fun h => by simp at h⟩
  · exact ⟨_, cap, rfl, fun _ => ⟨g, rfl, h1, h2⟩⟩

theorem grown_trans {a b c : World} {r r1 r2 : Option Nat} (h1 : a.grownBy b r1) (h2 : b.grownBy c r2) (e1 : r1 = none ∨ r1 = r) (e2 : r2 = none ∨ r2 = r) : a.grownBy c r := by
  refine ⟨h2.os.trans h1.os, h2.tape.trans h1.tape, h2.output.trans h1.output, Nat.le_trans h1.size h2.size, fun k hk hne => ?_⟩
  have n1 : some k ≠ r1 := by rcases e1 with rfl | rfl <;> simp_all
  have n2 : some k ≠ r2 := by rcases e2 with rfl | rfl <;> simp_all
  rw [h2.block k (Nat.lt_of_lt_of_le hk h1.size) n2, h1.block k hk n1]

/-- Marks from k on, n of them. -/
def marks (k n : Nat) : List ByteArray := (List.range n).map fun i => mkT (k + i)
theorem marks_len (k n : Nat) : (marks k n).length = n := by simp [marks]
theorem marks_step (k j : Nat) (ss : List ByteArray) (hj : j < ss.length) : (marks k j ++ ss.drop j).set j (mkT (k + j)) = marks k (j + 1) ++ ss.drop (j + 1) := by
  rw [List.set_append_right _ _ (by rw [marks_len]; exact Nat.le_refl _), marks_len, Nat.sub_self, List.drop_eq_getElem_cons hj, List.set_cons_zero]
  simp [marks, List.range_succ]
theorem marks_at {k n i : Nat} (h : i < n) : (marks k n).getD i ByteArray.empty = mkT (k + i) := by
  simp [marks, List.getD, h]

theorem OwnsS.put {w : World} {B : Nat} {e : TypeId} {g cap n : Nat} {ss : List ByteArray} (h : OwnsS w B e (.slice (some ⟨g, 0, none⟩) n cap) ss) (hn : n = ss.length) (j : Nat) (s : ByteArray) :
    OwnsS (w.setCell ⟨g, j, none⟩ (.string s)) B e (.slice (some ⟨g, 0, none⟩) n cap) (ss.set j s) ∧ w.grownBy (w.setCell ⟨g, j, none⟩ (.string s)) (some g) := by
  subst hn
  have := World.ownsRow.stored h j (.string s)
  refine ⟨?_, this.2⟩
  unfold OwnsS
  rw [List.length_set, List.map_set]
  exact this.1

theorem OwnsS.cellN {w : World} {B : Nat} {e : TypeId} {g cap n : Nat} {ss : List ByteArray} (h : OwnsS w B e (.slice (some ⟨g, 0, none⟩) n cap) ss) (hn : n = ss.length) {j : Nat} (hj : j < n) : w.cell? ⟨g, j, none⟩ = some (.string (ss.getD j ByteArray.empty)) := by
  subst hn
  exact h.cell hj

end Go.Proofs.Ytjafneaaefpefaa

namespace Go.Proofs.Ytjafneaaefpefaa
open Go.RowKit

theorem fp_nodup (v : Value) : (fps [v]).Nodup := by
  rw [fps_one]
  unfold fpOf
  cases v.ownBlock <;> simp
theorem kept_grown {v : Value} {w w' : World} {g : Nat} (h : w.grownBy w' (some g)) (hg : g ∈ fpOf v) : Kept [v] w w' :=
  ⟨h.os, h.tape, h.output, h.size, fun b hb hn => h.block b hb (fun e => hn (by cases e; rw [fps_one]; exact hg))⟩

set_option maxHeartbeats 800000 in
theorem markIntS_some (B g cap k n : Nat) (xs : List Int) (w : World) (HN : Hid (n = xs.length)) (hb : k + n ≤ 1000000000) (hown : OwnsI w B (.slice (some ⟨g, 0, none⟩) n cap) xs) :
    Calls Try.prog 35 #[.slice (some ⟨g, 0, none⟩) n cap, .int .i64 (k : Int)] w fun e' w' => e' = .returned (.int .i64 ((k + n : Nat) : Int)) ∧ OwnsI w' B (.slice (some ⟨g, 0, none⟩) n cap) (markL mkI lnI k xs) ∧ w.grownBy w' (some g) := by
  have HO : Hid (OwnsI w B (.slice (some ⟨g, 0, none⟩) n cap) (markTo mkI lnI k xs 0)) := by rw [markTo_zero]; exact hown
  clear hown
  go_enter Try.func35, Try.ntmps35
  go_wp2
  go_loopw [1, 5] (fun kk i wr => ∃ (j m : Nat), j ≤ n ∧ i = .int .i64 (j : Int) ∧ kk = .int .i64 (m : Int) ∧ Hid (m = k + j) ∧ Hid (OwnsI wr B (.slice (some ⟨g, 0, none⟩) n cap) (markTo mkI lnI k xs j)) ∧ Hid (w.grownBy wr (some g)))
    (fun _ i _ => n - (intOf i).toNat)
  case atStart => exact ⟨0, k, Nat.zero_le _, rfl, rfl, rfl, HO, World.grownBy.refl _ _⟩
  case round =>
    obtain ⟨j, m, hj, rfl, rfl, HM, H1, HG⟩ := hrel
    have hm : m ≤ 1000000000 := by have := HM.out; omega
    have HL : Hid (n = (markTo mkI lnI k xs j).length) := by show _ = _; rw [markTo_len]; exact HN.out
    by_cases hlt : j < n
    · have hj0 : (0 : Int) ≤ (j : Int) := by omega
      have hj1 : (j : Int) < (n : Int) := by omega
      have hjl : j < (markTo mkI lnI k xs j).length := by have := HL.out; omega
      obtain ⟨q, hq⟩ : ∃ q, Hid ((markTo mkI lnI k xs j)[j] = q) := ⟨_, (rfl : (markTo mkI lnI k xs j)[j] = (markTo mkI lnI k xs j)[j])⟩
      have c0 : wr.cell? ⟨g, j, none⟩ = some (.int .i64 q) := by
        have := OwnsR.cell inC_len H1.out HL.out j 0 hjl (by omega)
        rw [hq.out] at this
        simp only [Nat.mul_one, Nat.add_zero] at this
        exact this
      have f0 : wr.frozen? ⟨g, j, none⟩ = false := OwnsR.free H1.out HL.out _
      have S1 : Hid (OwnsI (wr.setCell ⟨g, j, none⟩ (.int .i64 (m : Int))) B (.slice (some ⟨g, 0, none⟩) n cap) (markTo mkI lnI k xs (j + 1))) := by
        have h0 := OwnsR.stored inC_len H1.out HL.out j 0 hjl (by omega) (m : Int) (.int .i64 (m : Int)) (by simp [inC])
        simp only [Nat.mul_one, Nat.add_zero] at h0
        rw [markTo_step mkI lnI k xs j (by have := HN.out; omega) (m : Int) (by rw [lnI_len, mkI, HM.out, List.length_take, Nat.min_eq_left (by have := HN.out; omega)])] at h0
        exact h0
      have G1 : Hid (w.grownBy (wr.setCell ⟨g, j, none⟩ (.int .i64 (m : Int))) (some g)) := grown_trans HG.out (grown_setCell wr ⟨g, j, none⟩ _) (.inr rfl) (.inr rfl)
      clear H1 HG hq
      go_wp2
      go_roundw
      case rel => exact ⟨j + 1, m + 1, by omega, by go_num, by go_num, by show _ = _; have := HM.out; omega, S1, G1⟩
      case measure => simp [intOf]; omega
    · have hjn : Hid (j = n) := (by omega : j = n)
      have HF : Hid (OwnsI wr B (.slice (some ⟨g, 0, none⟩) n cap) (markL mkI lnI k xs)) := by
        have := H1.out
        rw [markTo_all mkI lnI k xs j (by have := HN.out; have := hjn.out; omega)] at this
        exact this
      have HE : Hid (m = k + n) := by show _ = _; rw [HM.out, hjn.out]
      go_wp2
      go_ret
      exact ⟨by rw [← HE.out]; rfl, HF.out, HG.out⟩
theorem markIntS_none (ao : Option Addr) (c : Nat) (k : Int) (w : World) :
    Calls Try.prog 35 #[.slice ao 0 c, .int .i64 k] w fun e w' => e = .returned (.int .i64 k) ∧ w' = w := by
  go_enter Try.func35, Try.ntmps35
  go_wp2
  refine wp_loop_rounds 1 ?_
  rw [rounds_succ]
  go_wp2
  go_ret
  exact ⟨rfl, rfl⟩
theorem markIntS_any (B : Nat) (v : Value) (k : Nat) (xs : List Int) (w : World) (hb : k + xs.length ≤ 1000000000) (hown : OwnsI w B v xs) :
    Calls Try.prog 35 #[v, .int .i64 (k : Int)] w fun e' w' => e' = .returned (.int .i64 ((k + xs.length : Nat) : Int)) ∧ OwnsI w' B v (markL mkI lnI k xs) ∧ Kept [v] w w' := by
  rcases OwnsR.form hown with ⟨rfl, rfl⟩ | ⟨g, cap, rfl, _, _⟩
  · refine (markIntS_none none 0 k w).mono ?_
    rintro e' w' ⟨rfl, rfl⟩
    exact ⟨rfl, hown, Kept.refl _ _⟩
  · refine (markIntS_some B g cap k _ xs w rfl hb hown).mono ?_
    rintro e' w' ⟨rfl, h1, h2⟩
    exact ⟨rfl, h1, kept_grown h2 (by simp [fpOf, Value.ownBlock])⟩

theorem markI_at (k : Nat) (xs : List Int) (j : Nat) (h : j < xs.length) : (markL mkI lnI k xs)[j]'(by rw [markL_len]; exact h) = ((k + j : Nat) : Int) := by
  rw [markL_at mkI lnI xs k j h, lnI_len, mkI, List.length_take, Nat.min_eq_left (by omega)]

set_option maxHeartbeats 800000 in
theorem heldIntS_any (B : Nat) (v : Value) (k : Nat) (xs : List Int) (w : World) (hB : B ≤ w.heap.size) (hb : k + xs.length ≤ 1000000000) (hv : RowI w B v (markL mkI lnI k xs)) :
    Calls Try.prog 36 #[v, .int .i64 (k : Int)] w fun e' w' => e' = .returned (.int .i64 ((k + xs.length : Nat) : Int)) ∧ Below w.heap.size w w' := by
  obtain ⟨a, cap, rfl⟩ := hv.len
  obtain ⟨n, HN⟩ : ∃ n, Hid (n = xs.length) := ⟨_, (rfl : xs.length = xs.length)⟩
  rw [markL_len, ← HN.out] at hv ⊢
  rw [← HN.out] at hb
  have HV : Hid (RowI w B (.slice a n cap) (markL mkI lnI k xs)) := hv
  clear hv
  go_enter Try.func36, Try.ntmps36
  go_wp2
  go_loopw [1, 5] (fun kk i wr => ∃ (j m : Nat), j ≤ n ∧ i = .int .i64 (j : Int) ∧ kk = .int .i64 (m : Int) ∧ Hid (m = k + j) ∧ Below w.heap.size w wr)
    (fun _ i _ => n - (intOf i).toNat)
  case atStart => exact ⟨0, k, Nat.zero_le _, rfl, rfl, rfl, Below.refl _ _⟩
  case round =>
    obtain ⟨j, m, hj, rfl, rfl, HM, hbw⟩ := hrel
    have hm : m ≤ 1000000000 := by have := HM.out; omega
    by_cases hlt : j < n
    · have hj0 : (0 : Int) ≤ (j : Int) := by omega
      have hj1 : (j : Int) < (n : Int) := by omega
      have hjx : j < xs.length := by have := HN.out; omega
      obtain ⟨ba, oa, rfl, hba, c0⟩ := HV.out.at j (by rw [markL_len]; exact hjx)
      rw [markI_at k xs j hjx, ← HM.out] at c0
      have d0 := (hbw.cell (p := ⟨ba, oa + j, none⟩) (by show ba < _; omega)).trans c0
      clear c0
      go_wp2
      go_roundw
      case rel => exact ⟨j + 1, m + 1, by omega, by go_num, by go_num, by show _ = _; have := HM.out; omega, hbw⟩
      case measure => simp [intOf]; omega
    · have hjn : Hid (j = n) := (by omega : j = n)
      have HE : Hid (m = k + n) := by show _ = _; rw [HM.out, hjn.out]
      go_wp2
      go_ret
      exact ⟨by rw [← HE.out]; rfl, hbw⟩

end Go.Proofs.Ytjafneaaefpefaa
