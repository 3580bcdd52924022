/-
  Rows of numbers marked, and looked at again.
  Rows of Param marked, as the laws do it. Written by mkmark.py.
  Rows of Node marked, as the laws do it. Written by mkmark.py.
  Rows of Fn marked, as the laws do it. Written by mkmark.py.
  Programs marked, as the laws do it: only blocks of the program turn.
-/
import Derived.Test.YtogdofdgkhkcaaaKa
import Derived.Test.YtogdofdgkhkcaaaRa
import Derived.Test.YtogdofdgkhkcaaaMa
namespace Go.Proofs.Ytogdofdgkhkcaaa
open Go.RowKit

theorem fp_nodup (v : Value) : (fps [v]).Nodup := by
  rw [fps_one]
  unfold fpOf
  cases v.ownBlock <;> simp
theorem kept_grown {v : Value} {w w' : World} {g : Nat} (h : w.grownBy w' (some g)) (hg : g ∈ fpOf v) : Kept [v] w w' :=
  ⟨h.os, h.tape, h.output, h.size, fun b hb hn => h.block b hb (fun e => hn (by cases e; rw [fps_one]; exact hg))⟩

set_option maxHeartbeats 800000 in
theorem markIntS_some (B g cap k n : Nat) (xs : List Int) (w : World) (HN : Hid (n = xs.length)) (hb : k + n ≤ 1000000000) (hown : OwnsI w B (.slice (some ⟨g, 0, none⟩) n cap) xs) :
    Calls Try.prog 48 #[.slice (some ⟨g, 0, none⟩) n cap, .int .i64 (k : Int)] w fun e' w' => e' = .returned (.int .i64 ((k + n : Nat) : Int)) ∧ OwnsI w' B (.slice (some ⟨g, 0, none⟩) n cap) (markL mkI lnI k xs) ∧ w.grownBy w' (some g) := by
  have HO : Hid (OwnsI w B (.slice (some ⟨g, 0, none⟩) n cap) (markTo mkI lnI k xs 0)) := by rw [markTo_zero]; exact hown
  clear hown
  go_enter Try.func48, Try.ntmps48
  go_wp2
  go_loopw [1, 5] (fun kk i wr => ∃ (j m : Nat), j ≤ n ∧ i = .int .i64 (j : Int) ∧ kk = .int .i64 (m : Int) ∧ Hid (m = k + j) ∧ Hid (OwnsI wr B (.slice (some ⟨g, 0, none⟩) n cap) (markTo mkI lnI k xs j)) ∧ Hid (w.grownBy wr (some g)))
    (fun _ i _ => n - (intOf i).toNat)
  case atStart => exact ⟨0, k, Nat.zero_le _, rfl, rfl, rfl, HO, World.grownBy.refl _ _⟩
  case round =>
    obtain ⟨j, m, hj, rfl, rfl, HM, H1, HG⟩ := hrel
    have hm : m ≤ 1000000000 := by have := HM.out; omega
    have HL : Hid (n = (markTo mkI lnI k xs j).length) := by show _ = _; rw [markTo_len]; exact HN.out
    by_cases hlt : j < n
    · have hj0 : (0 : Int) ≤ (j : Int) := by omega
      have hj1 : (j : Int) < (n : Int) := by omega
      have hjl : j < (markTo mkI lnI k xs j).length := by have := HL.out; omega
      obtain ⟨q, hq⟩ : ∃ q, Hid ((markTo mkI lnI k xs j)[j] = q) := ⟨_, (rfl : (markTo mkI lnI k xs j)[j] = (markTo mkI lnI k xs j)[j])⟩
      have c0 : wr.cell? ⟨g, j, none⟩ = some (.int .i64 q) := by
        have := OwnsR.cell inC_len H1.out HL.out j 0 hjl (by omega)
        rw [hq.out] at this
        simp only [Nat.mul_one, Nat.add_zero] at this
        exact this
      have f0 : wr.frozen? ⟨g, j, none⟩ = false := OwnsR.free H1.out HL.out _
      have S1 : Hid (OwnsI (wr.setCell ⟨g, j, none⟩ (.int .i64 (m : Int))) B (.slice (some ⟨g, 0, none⟩) n cap) (markTo mkI lnI k xs (j + 1))) := by
        have h0 := OwnsR.stored inC_len H1.out HL.out j 0 hjl (by omega) (m : Int) (.int .i64 (m : Int)) (by simp [inC])
        simp only [Nat.mul_one, Nat.add_zero] at h0
        rw [markTo_step mkI lnI k xs j (by have := HN.out; omega) (m : Int) (by rw [lnI_len, mkI, HM.out, List.length_take, Nat.min_eq_left (by have := HN.out; omega)])] at h0
        exact h0
      have G1 : Hid (w.grownBy (wr.setCell ⟨g, j, none⟩ (.int .i64 (m : Int))) (some g)) := grown_trans HG.out (grown_setCell wr ⟨g, j, none⟩ _) (.inr rfl) (.inr rfl)
      clear H1 HG hq
      go_wp2
      go_roundw
      case rel => exact ⟨j + 1, m + 1, by omega, by go_num, by go_num, by show _ = _; have := HM.out; omega, S1, G1⟩
      case measure => simp [intOf]; omega
    · have hjn : Hid (j = n) := (by omega : j = n)
      have HF : Hid (OwnsI wr B (.slice (some ⟨g, 0, none⟩) n cap) (markL mkI lnI k xs)) := by
        have := H1.out
        rw [markTo_all mkI lnI k xs j (by have := HN.out; have := hjn.out; omega)] at this
        exact this
      have HE : Hid (m = k + n) := by show _ = _; rw [HM.out, hjn.out]
      go_wp2
      go_ret
      exact ⟨by rw [← HE.out]; rfl, HF.out, HG.out⟩
theorem markIntS_none (ao : Option Addr) (c : Nat) (k : Int) (w : World) :
    Calls Try.prog 48 #[.slice ao 0 c, .int .i64 k] w fun e w' => e = .returned (.int .i64 k) ∧ w' = w := by
  go_enter Try.func48, Try.ntmps48
  go_wp2
  refine wp_loop_rounds 1 ?_
  rw [rounds_succ]
  go_wp2
  go_ret
  exact ⟨rfl, rfl⟩
theorem markIntS_any (B : Nat) (v : Value) (k : Nat) (xs : List Int) (w : World) (hb : k + xs.length ≤ 1000000000) (hown : OwnsI w B v xs) :
    Calls Try.prog 48 #[v, .int .i64 (k : Int)] w fun e' w' => e' = .returned (.int .i64 ((k + xs.length : Nat) : Int)) ∧ OwnsI w' B v (markL mkI lnI k xs) ∧ Kept [v] w w' := by
  rcases OwnsR.form hown with ⟨rfl, rfl⟩ | ⟨g, cap, rfl, _, _⟩
  · refine (markIntS_none none 0 k w).mono ?_
    rintro e' w' ⟨rfl, rfl⟩
    exact ⟨rfl, hown, Kept.refl _ _⟩
  · refine (markIntS_some B g cap k _ xs w rfl hb hown).mono ?_
    rintro e' w' ⟨rfl, h1, h2⟩
    exact ⟨rfl, h1, kept_grown h2 (by simp [fpOf, Value.ownBlock])⟩

theorem markI_at (k : Nat) (xs : List Int) (j : Nat) (h : j < xs.length) : (markL mkI lnI k xs)[j]'(by rw [markL_len]; exact h) = ((k + j : Nat) : Int) := by
  rw [markL_at mkI lnI xs k j h, lnI_len, mkI, List.length_take, Nat.min_eq_left (by omega)]

set_option maxHeartbeats 800000 in
theorem heldIntS_any (B : Nat) (v : Value) (k : Nat) (xs : List Int) (w : World) (hB : B ≤ w.heap.size) (hb : k + xs.length ≤ 1000000000) (hv : RowI w B v (markL mkI lnI k xs)) :
    Calls Try.prog 96 #[v, .int .i64 (k : Int)] w fun e' w' => e' = .returned (.int .i64 ((k + xs.length : Nat) : Int)) ∧ Below w.heap.size w w' := by
  obtain ⟨a, cap, rfl⟩ := hv.len
  obtain ⟨n, HN⟩ : ∃ n, Hid (n = xs.length) := ⟨_, (rfl : xs.length = xs.length)⟩
  rw [markL_len, ← HN.out] at hv ⊢
  rw [← HN.out] at hb
  have HV : Hid (RowI w B (.slice a n cap) (markL mkI lnI k xs)) := hv
  clear hv
  go_enter Try.func96, Try.ntmps96
  go_wp2
  go_loopw [1, 5] (fun kk i wr => ∃ (j m : Nat), j ≤ n ∧ i = .int .i64 (j : Int) ∧ kk = .int .i64 (m : Int) ∧ Hid (m = k + j) ∧ Below w.heap.size w wr)
    (fun _ i _ => n - (intOf i).toNat)
  case atStart => exact ⟨0, k, Nat.zero_le _, rfl, rfl, rfl, Below.refl _ _⟩
  case round =>
    obtain ⟨j, m, hj, rfl, rfl, HM, hbw⟩ := hrel
    have hm : m ≤ 1000000000 := by have := HM.out; omega
    by_cases hlt : j < n
    · have hj0 : (0 : Int) ≤ (j : Int) := by omega
      have hj1 : (j : Int) < (n : Int) := by omega
      have hjx : j < xs.length := by have := HN.out; omega
      obtain ⟨ba, oa, rfl, hba, c0⟩ := HV.out.at j (by rw [markL_len]; exact hjx)
      rw [markI_at k xs j hjx, ← HM.out] at c0
      have d0 := (hbw.cell (p := ⟨ba, oa + j, none⟩) (by show ba < _; omega)).trans c0
      clear c0
      go_wp2
      go_roundw
      case rel => exact ⟨j + 1, m + 1, by omega, by go_num, by go_num, by show _ = _; have := HM.out; omega, hbw⟩
      case measure => simp [intOf]; omega
    · have hjn : Hid (j = n) := (by omega : j = n)
      have HE : Hid (m = k + n) := by show _ = _; rw [HM.out, hjn.out]
      go_wp2
      go_ret
      exact ⟨by rw [← HE.out]; rfl, hbw⟩

end Go.Proofs.Ytogdofdgkhkcaaa

namespace Go.Proofs.Ytogdofdgkhkcaaa
open Go.RowKit

def mkPm (k : Nat) (_x : Pm) : Pm := ⟨mkT (k), ((k + 1 : Nat) : Int)⟩
def lnPm (_x : Pm) : Nat := 0 + 2

end Go.Proofs.Ytogdofdgkhkcaaa

namespace Go.Proofs.Ytogdofdgkhkcaaa
open Go.RowKit

def mkNd (k : Nat) (x : Nd) : Nd := ⟨((k : Nat) : Int), ((k + 1 : Nat) : Int), mkT (k + 2), markL mkI lnI (k + 3) x.kids⟩
def lnNd (x : Nd) : Nat := (0 + 3 + markN lnI x.kids)
def mkNdP (k : Nat) (p : Nd × Value) : Nd × Value := (mkNd k p.1, p.2)
def lnNdP (p : Nd × Value) : Nat := lnNd p.1

end Go.Proofs.Ytogdofdgkhkcaaa

namespace Go.Proofs.Ytogdofdgkhkcaaa
open Go.RowKit

def mkFc (k : Nat) (x : Fc) : Fc := ⟨mkT (k), markL mkPm lnPm (k + 1) x.params, (((k + 1 + markN lnPm x.params) : Nat) : Int), (((k + 1 + markN lnPm x.params) + 1 : Nat) : Int), (((k + 1 + markN lnPm x.params) + 2 : Nat) : Int)⟩
def lnFc (x : Fc) : Nat := (0 + 1 + markN lnPm x.params) + 3
def mkFcP (k : Nat) (p : Fc × Value) : Fc × Value := (mkFc k p.1, p.2)
def lnFcP (p : Fc × Value) : Nat := lnFc p.1

end Go.Proofs.Ytogdofdgkhkcaaa

namespace Go.Proofs.Ytogdofdgkhkcaaa
open Go.RowKit

/-- Only blocks B .. H may have turned; new ones may be there. -/
structure Rim (B H : Nat) (w w' : World) : Prop where
  os : w'.os = w.os
  tape : w'.tape = w.tape
  output : w'.output = w.output
  size : w.heap.size ≤ w'.heap.size
  block : ∀ g, g < w.heap.size → g < B ∨ H ≤ g → w'.heap[g]? = w.heap[g]?
theorem Rim.refl (B H : Nat) (w : World) : Rim B H w w := ⟨rfl, rfl, rfl, Nat.le_refl _, fun _ _ _ => rfl⟩
theorem Rim.trans {B H : Nat} {a b c : World} (h : Rim B H a b) (k : Rim B H b c) : Rim B H a c :=
  ⟨k.os.trans h.os, k.tape.trans h.tape, k.output.trans h.output, Nat.le_trans h.size k.size, fun g hg hn => (k.block g (Nat.lt_of_lt_of_le hg h.size) hn).trans (h.block g hg hn)⟩
theorem Rim.of_kept {vs : List Value} {B H : Nat} {w w' : World} (h : Kept vs w w') (hf : ∀ g ∈ fps vs, B ≤ g ∧ g < H) : Rim B H w w' :=
  ⟨h.os, h.tape, h.output, h.size, fun g hg hn => h.block g hg (fun hm => by have := hf g hm; omega)⟩
theorem Rim.of_below {B H : Nat} {w w' : World} (h : Below w.heap.size w w') : Rim B H w w' := ⟨h.os, h.tape, h.output, h.size, fun g hg _ => h.block g hg⟩
theorem Rim.below {B H : Nat} {w w' : World} (h : Rim B H w w') (hB : B ≤ w.heap.size) : Below B w w' := ⟨h.os, h.tape, h.output, h.size, fun g hg => h.block g (by omega) (.inl hg)⟩

theorem markN_sz {α : Type} (ln sz : α → Nat) (h : ∀ x, ln x ≤ 4 + 4 * sz x) : ∀ xs : List α, markN ln xs ≤ 4 * szRow sz xs := by
  intro xs
  induction xs with
  | nil => exact Nat.zero_le _
  | cons x xs ih =>
    have := h x
    unfold szRow at ih ⊢
    simp only [markN, List.length_cons, List.map_cons, List.sum_cons]
    omega
theorem lnNd_sz (ns : List Nd) : markN lnNd ns ≤ 4 * szRow szNd ns := markN_sz lnNd szNd (fun x => by unfold lnNd szNd; rw [lnI_len]; omega) ns
theorem lnPm_sz (ps : List Pm) : markN lnPm ps ≤ 4 * szRow szPm ps := markN_sz lnPm szPm (fun x => by unfold lnPm; omega) ps
theorem lnFc_sz (fs : List Fc) : markN lnFc fs ≤ 4 * szRow szFc fs := markN_sz lnFc szFc (fun x => by unfold lnFc szFc; have := lnPm_sz x.params; omega) fs
theorem lnNdP_map (ps : List (Nd × Value)) : markN lnNdP ps = markN lnNd (ps.map Prod.fst) := markN_map (ln' := lnNd) (log := Prod.fst) (fun _ => rfl) ps
theorem lnFcP_map (ps : List (Fc × Value)) : markN lnFcP ps = markN lnFc (ps.map Prod.fst) := markN_map (ln' := lnFc) (log := Prod.fst) (fun _ => rfl) ps

end Go.Proofs.Ytogdofdgkhkcaaa
