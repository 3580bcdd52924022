/-
  Rows of Var marked, as the laws do it. Written by mkmark.py.
-/
import Derived.Test.YtjafneaaefpefaaVa
import Derived.Test.YtjafneaaefpefaaMa
namespace Go.Proofs.Ytjafneaaefpefaa
open Go.RowKit

theorem all_flatVr (v : Value) (ps : List Vr) : VrR.all v ps = [v] := by simp [RowTy.all, VrR, flat_nil]
def mkVr (k : Nat) (_x : Vr) : Vr := ⟨mkT (k), ((k + 1 : Nat) : Int), ((k + 2 : Nat) : Int)⟩
def lnVr (_x : Vr) : Nat := 0 + 3

set_option maxRecDepth 100000 in
set_option maxHeartbeats 3200000 in
theorem markVarS_some (B g cap k n : Nat) (ps : List (Vr)) (w : World) (HN : Hid (n = ps.length)) (hb : k + markN lnVr ps ≤ 1000000000) (hk0 : 0 < k) (hown : VrR.Phys w B (.slice (some ⟨g, 0, none⟩) n cap) ps) (hA : (fps (VrR.all (.slice (some ⟨g, 0, none⟩) n cap) ps)).Nodup) :
    Calls Try.prog 46 #[.slice (some ⟨g, 0, none⟩) n cap, .int .i64 (k : Int)] w fun e' w' => e' = .returned (.int .i64 ((k + markN lnVr ps : Nat) : Int)) ∧ VrR.Phys w' B (.slice (some ⟨g, 0, none⟩) n cap) (markL mkVr lnVr k ps) ∧ Kept (VrR.all (.slice (some ⟨g, 0, none⟩) n cap) ps) w w' := by
  have hnl : n ≤ 1000000000 := by have h1 := len_markN lnVr (fun p => by unfold lnVr; omega) ps; have := HN.out; omega
  obtain ⟨VS, HVS⟩ : ∃ VS, Hid (VrR.all (.slice (some ⟨g, 0, none⟩) n cap) ps = VS) := ⟨_, (rfl : VrR.all (.slice (some ⟨g, 0, none⟩) n cap) ps = VrR.all (.slice (some ⟨g, 0, none⟩) n cap) ps)⟩
  have HO : Hid (MarkSt VrR w VS w B g n cap (markTo mkVr lnVr k ps 0)) := by
    rw [markTo_zero]
    exact ⟨hown, HVS.out, by rw [← HVS.out]; exact hA, HN.out, Kept.refl _ _⟩
  rw [HVS.out]
  clear hown hA
  go_enter Try.func46, Try.ntmps46
  go_wp2
  go_loopw [1, 5] (fun kk i wr => ∃ (j m : Nat), j ≤ n ∧ i = .int .i64 (j : Int) ∧ kk = .int .i64 (m : Int) ∧ Hid (m = k + markN lnVr (ps.take j)) ∧ Hid (MarkSt VrR w VS wr B g n cap (markTo mkVr lnVr k ps j)))
    (fun _ i _ => n - (intOf i).toNat)
  case atStart => exact ⟨0, k, Nat.zero_le _, rfl, rfl, by show _ = _; simp [markN], HO⟩
  case round =>
    obtain ⟨j, m, hj, rfl, rfl, HM, H0⟩ := hrel
    clear HO
    by_cases hlt : j < n
    · have hj0 : (0 : Int) ≤ (j : Int) := by omega
      have hj1 : (j : Int) < (n : Int) := by omega
      have hjp : j < ps.length := by have := HN.out; omega
      have hm0 : 0 < m := by have := HM.out; omega
      obtain ⟨q, hq⟩ : ∃ q, Hid (ps[j] = q) := ⟨_, (rfl : ps[j] = ps[j])⟩
      have hmb : m + lnVr q ≤ 1000000000 := by
        have h1 := markN_take lnVr ps j hjp
        have h2 := markN_take_le lnVr ps (j + 1)
        have := HM.out
        rw [hq.out] at h1
        omega
      have HNX : Hid (m + lnVr q = k + markN lnVr (ps.take (j + 1))) := by
        show _ = _
        rw [markN_take lnVr ps j hjp, hq.out, HM.out, Nat.add_assoc]
      have HST : Hid (∀ y, y = mkVr m q → (markTo mkVr lnVr k ps j).set j y = markTo mkVr lnVr k ps (j + 1)) := fun y hy => markTo_step mkVr lnVr k ps j hjp y (by rw [hy, hq.out, HM.out])
      have hCl : j < (markTo mkVr lnVr k ps j).length := by rw [markTo_len]; exact hjp
      have hC0 : (markTo mkVr lnVr k ps j).set j q = markTo mkVr lnVr k ps j := by
        have := markTo_at mkVr lnVr k ps j hjp
        rw [hq.out] at this
        rw [← this]
        exact List.set_getElem_self hCl
      obtain ⟨C, hC⟩ : ∃ C, Hid (markTo mkVr lnVr k ps j = C) := ⟨_, (rfl : markTo mkVr lnVr k ps j = markTo mkVr lnVr k ps j)⟩
      rw [hC.out] at H0 HST hCl hC0
      have hl : ∀ y, j < (C.set j y).length := fun y => by rw [List.length_set]; exact hCl
      have HLn : Hid (∀ y, j < (C.set j y).length) := hl
      have HAt : Hid (∀ y, (C.set j y)[j]'(HLn.out y) = y) := fun y => List.getElem_set_self _
      obtain ⟨name, ty, node⟩ := q
      have S0 : Hid (MarkSt VrR w VS wr B g n cap (C.set j (⟨name, ty, node⟩ : Vr))) := by rw [hC0]; exact H0.out
      simp only [lnVr] at hmb
      clear H0 hC0 hl hCl
      go_wp2_with fail
      go_at_call 80
      refine (markText_any (m) _ (by omega) (by omega)).mono ?_
      rintro e' w1 ⟨rfl, hbc⟩
      obtain ⟨T0, HT0⟩ : ∃ T, Hid (mkT (m) = T) := ⟨_, (rfl : mkT (m) = mkT (m))⟩
      rw [HT0.out]
      have S1 : Hid (MarkSt VrR w VS w1 B g n cap (C.set j (⟨name, ty, node⟩ : Vr))) := S0.out.below hbc
      clear hbc S0
      have c1_0 : w1.cell? ⟨g, j * 3, none⟩ = some (.string name) := by
        have := S1.out.cell j 0 (HLn.out _) (by decide)
        rw [HAt.out] at this
        exact this
      have fr1_0 : w1.frozen? ⟨g, j * 3, none⟩ = false := S1.out.free _
      have S2 : Hid (MarkSt VrR w VS (w1.setCell ⟨g, j * 3, none⟩ (.string T0)) B g n cap (C.set j (⟨T0, ty, node⟩ : Vr))) := by
        have := S1.out.field j 0 (HLn.out _) (by decide) (⟨T0, ty, node⟩ : Vr) (.string T0) (by rw [HAt.out]; rfl) (by rw [HAt.out]; rfl) (fun W B h => by rw [HAt.out] at h; exact h)
        rw [List.set_set] at this
        exact this
      have c2_1 : w1.cell? ⟨g, j * 3 + 1, none⟩ = some (.int .i64 ty) := by
        have := S1.out.cell j 1 (HLn.out _) (by decide)
        rw [HAt.out] at this
        exact this
      have fr2_1 : w1.frozen? ⟨g, j * 3 + 1, none⟩ = false := S1.out.free _
      have S3 : Hid (MarkSt VrR w VS ((w1.setCell ⟨g, j * 3, none⟩ (.string T0)).setCell ⟨g, j * 3 + 1, none⟩ (.int .i64 ((m + 1 : Nat) : Int))) B g n cap (C.set j (⟨T0, ((m + 1 : Nat) : Int), node⟩ : Vr))) := by
        have := S2.out.field j 1 (HLn.out _) (by decide) (⟨T0, ((m + 1 : Nat) : Int), node⟩ : Vr) (.int .i64 ((m + 1 : Nat) : Int)) (by rw [HAt.out]; rfl) (by rw [HAt.out]; rfl) (fun W B h => by rw [HAt.out] at h; exact h)
        rw [List.set_set] at this
        exact this
      clear S2
      have c3_2 : w1.cell? ⟨g, j * 3 + 2, none⟩ = some (.int .i64 node) := by
        have := S1.out.cell j 2 (HLn.out _) (by decide)
        rw [HAt.out] at this
        exact this
      have fr3_2 : w1.frozen? ⟨g, j * 3 + 2, none⟩ = false := S1.out.free _
      have S4 : Hid (MarkSt VrR w VS (((w1.setCell ⟨g, j * 3, none⟩ (.string T0)).setCell ⟨g, j * 3 + 1, none⟩ (.int .i64 ((m + 1 : Nat) : Int))).setCell ⟨g, j * 3 + 2, none⟩ (.int .i64 ((m + 2 : Nat) : Int))) B g n cap (C.set j (⟨T0, ((m + 1 : Nat) : Int), ((m + 2 : Nat) : Int)⟩ : Vr))) := by
        have := S3.out.field j 2 (HLn.out _) (by decide) (⟨T0, ((m + 1 : Nat) : Int), ((m + 2 : Nat) : Int)⟩ : Vr) (.int .i64 ((m + 2 : Nat) : Int)) (by rw [HAt.out]; rfl) (by rw [HAt.out]; rfl) (fun W B h => by rw [HAt.out] at h; exact h)
        rw [List.set_set] at this
        exact this
      clear S3
      have HF : Hid (MarkSt VrR w VS (((w1.setCell ⟨g, j * 3, none⟩ (.string T0)).setCell ⟨g, j * 3 + 1, none⟩ (.int .i64 ((m + 1 : Nat) : Int))).setCell ⟨g, j * 3 + 2, none⟩ (.int .i64 ((m + 2 : Nat) : Int))) B g n cap (markTo mkVr lnVr k ps (j + 1))) := by
        have h1 := HST.out (⟨T0, ((m + 1 : Nat) : Int), ((m + 2 : Nat) : Int)⟩ : Vr) (by
          simp only [mkVr]
          rw [← HT0.out]
          try rw [lnI_len]
          try rfl)
        rw [← h1]
        exact S4.out
      have HE : Hid (m + 3 = k + markN lnVr (ps.take (j + 1))) := by
        show _ = _
        rw [← HNX.out]
        simp only [lnVr]
        try omega
      clear S4 S1
      go_wp2
      go_roundw
      case rel => exact ⟨j + 1, m + 3, by omega, by go_num, by go_num, HE, HF⟩
      case measure => simp [intOf]; omega
    · have hjn : Hid (j = n) := (by omega : j = n)
      have HE : Hid (m = k + markN lnVr ps) := by show _ = _; rw [HM.out, List.take_of_length_le (by have := HN.out; have := hjn.out; omega)]
      have HF : Hid (MarkSt VrR w VS wr B g n cap (markL mkVr lnVr k ps)) := by
        have := H0.out
        rw [markTo_all mkVr lnVr k ps j (by have := HN.out; have := hjn.out; omega)] at this
        exact this
      go_wp2
      go_ret
      exact ⟨by rw [← HE.out]; rfl, HF.out.phys, HF.out.kept⟩
theorem markVarS_none (ao : Option Addr) (c : Nat) (k : Int) (w : World) :
    Calls Try.prog 46 #[.slice ao 0 c, .int .i64 k] w fun e w' => e = .returned (.int .i64 k) ∧ w' = w := by
  go_enter Try.func46, Try.ntmps46
  go_wp2
  refine wp_loop_rounds 1 ?_
  rw [rounds_succ]
  go_wp2
  go_ret
  exact ⟨rfl, rfl⟩
theorem markVarS_any (B : Nat) (v : Value) (k : Nat) (ps : List (Vr)) (w : World) (hb : k + markN lnVr ps ≤ 1000000000) (hk0 : 0 < k) (hown : VrR.Phys w B v ps) (hA : (fps (VrR.all v ps)).Nodup) :
    Calls Try.prog 46 #[v, .int .i64 (k : Int)] w fun e' w' => e' = .returned (.int .i64 ((k + markN lnVr ps : Nat) : Int)) ∧ VrR.Phys w' B v (markL mkVr lnVr k ps) ∧ Kept (VrR.all v ps) w w' := by
  rcases OwnsR.form hown.1 with ⟨rfl, rfl⟩ | ⟨g, cap, rfl, _, _⟩
  · refine (markVarS_none none 0 k w).mono ?_
    rintro e' w' ⟨rfl, rfl⟩
    exact ⟨rfl, hown, Kept.refl _ _⟩
  · exact markVarS_some B g cap k _ ps w rfl hb hk0 hown hA

end Go.Proofs.Ytjafneaaefpefaa
