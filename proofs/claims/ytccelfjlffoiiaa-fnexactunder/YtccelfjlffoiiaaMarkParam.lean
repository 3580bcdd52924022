/-
  Rows of Param marked, as the laws do it. Written by mkmark.py.
-/
import Derived.Test.YtccelfjlffoiiaaRowParam
import Derived.Test.YtccelfjlffoiiaaMarkInt
namespace Go.Proofs.Ytccelfjlffoiiaa
open Go.RowKit

theorem all_flatPm (v : Value) (ps : List Pm) : PmR.all v ps = [v] := by simp [RowTy.all, PmR, flat_nil]
def mkPm (k : Nat) (_x : Pm) : Pm := ⟨mkT (k), ((k + 1 : Nat) : Int)⟩
def lnPm (_x : Pm) : Nat := 0 + 2

set_option maxRecDepth 100000 in
set_option maxHeartbeats 3200000 in
theorem markParamS_some (B g cap k n : Nat) (ps : List (Pm)) (w : World) (HN : Hid (n = ps.length)) (hb : k + markN lnPm ps ≤ 1000000000) (hk0 : 0 < k) (hown : PmR.Phys w B (.slice (some ⟨g, 0, none⟩) n cap) ps) (hA : (fps (PmR.all (.slice (some ⟨g, 0, none⟩) n cap) ps)).Nodup) :
    Calls Try.prog 75 #[.slice (some ⟨g, 0, none⟩) n cap, .int .i64 (k : Int)] w fun e' w' => e' = .returned (.int .i64 ((k + markN lnPm ps : Nat) : Int)) ∧ PmR.Phys w' B (.slice (some ⟨g, 0, none⟩) n cap) (markL mkPm lnPm k ps) ∧ Kept (PmR.all (.slice (some ⟨g, 0, none⟩) n cap) ps) w w' := by
  have hnl : n ≤ 1000000000 := by have h1 := len_markN lnPm (fun p => by unfold lnPm; omega) ps; have := HN.out; omega
  obtain ⟨VS, HVS⟩ : ∃ VS, Hid (PmR.all (.slice (some ⟨g, 0, none⟩) n cap) ps = VS) := ⟨_, (rfl : PmR.all (.slice (some ⟨g, 0, none⟩) n cap) ps = PmR.all (.slice (some ⟨g, 0, none⟩) n cap) ps)⟩
  have HO : Hid (MarkSt PmR w VS w B g n cap (markTo mkPm lnPm k ps 0)) := by
    rw [markTo_zero]
    exact ⟨hown, HVS.out, by rw [← HVS.out]; exact hA, HN.out, Kept.refl _ _⟩
  rw [HVS.out]
  clear hown hA
  go_enter Try.func75, Try.ntmps75
  go_wp2
  go_loopw [1, 5] (fun kk i wr => ∃ (j m : Nat), j ≤ n ∧ i = .int .i64 (j : Int) ∧ kk = .int .i64 (m : Int) ∧ Hid (m = k + markN lnPm (ps.take j)) ∧ Hid (MarkSt PmR w VS wr B g n cap (markTo mkPm lnPm k ps j)))
    (fun _ i _ => n - (intOf i).toNat)
  case atStart => exact ⟨0, k, Nat.zero_le _, rfl, rfl, by show _ = _; simp [markN], HO⟩
  case round =>
    obtain ⟨j, m, hj, rfl, rfl, HM, H0⟩ := hrel
    clear HO
    by_cases hlt : j < n
    · have hj0 : (0 : Int) ≤ (j : Int) := by omega
      have hj1 : (j : Int) < (n : Int) := by omega
      have hjp : j < ps.length := by have := HN.out; omega
      have hm0 : 0 < m := by have := HM.out; omega
      obtain ⟨q, hq⟩ : ∃ q, Hid (ps[j] = q) := ⟨_, (rfl : ps[j] = ps[j])⟩
      have hmb : m + lnPm q ≤ 1000000000 := by
        have h1 := markN_take lnPm ps j hjp
        have h2 := markN_take_le lnPm ps (j + 1)
        have := HM.out
        rw [hq.out] at h1
        omega
      have HNX : Hid (m + lnPm q = k + markN lnPm (ps.take (j + 1))) := by
        show _ = _
        rw [markN_take lnPm ps j hjp, hq.out, HM.out, Nat.add_assoc]
      have HST : Hid (∀ y, y = mkPm m q → (markTo mkPm lnPm k ps j).set j y = markTo mkPm lnPm k ps (j + 1)) := fun y hy => markTo_step mkPm lnPm k ps j hjp y (by rw [hy, hq.out, HM.out])
      have hCl : j < (markTo mkPm lnPm k ps j).length := by rw [markTo_len]; exact hjp
      have hC0 : (markTo mkPm lnPm k ps j).set j q = markTo mkPm lnPm k ps j := by
        have := markTo_at mkPm lnPm k ps j hjp
        rw [hq.out] at this
        rw [← this]
        exact List.set_getElem_self hCl
      obtain ⟨C, hC⟩ : ∃ C, Hid (markTo mkPm lnPm k ps j = C) := ⟨_, (rfl : markTo mkPm lnPm k ps j = markTo mkPm lnPm k ps j)⟩
      rw [hC.out] at H0 HST hCl hC0
      have hl : ∀ y, j < (C.set j y).length := fun y => by rw [List.length_set]; exact hCl
      have HLn : Hid (∀ y, j < (C.set j y).length) := hl
      have HAt : Hid (∀ y, (C.set j y)[j]'(HLn.out y) = y) := fun y => List.getElem_set_self _
      obtain ⟨name, ty⟩ := q
      have S0 : Hid (MarkSt PmR w VS wr B g n cap (C.set j (⟨name, ty⟩ : Pm))) := by rw [hC0]; exact H0.out
      simp only [lnPm] at hmb
      clear H0 hC0 hl hCl
      go_wp2_with fail
      go_at_call 60
      refine (markText_any (m) _ (by omega) (by omega)).mono ?_
      rintro e' w1 ⟨rfl, hbc⟩
      obtain ⟨T0, HT0⟩ : ∃ T, Hid (mkT (m) = T) := ⟨_, (rfl : mkT (m) = mkT (m))⟩
      rw [HT0.out]
      have S1 : Hid (MarkSt PmR w VS w1 B g n cap (C.set j (⟨name, ty⟩ : Pm))) := S0.out.below hbc
      clear hbc S0
      have c1_0 : w1.cell? ⟨g, j * 2, none⟩ = some (.string name) := by
        have := S1.out.cell j 0 (HLn.out _) (by decide)
        rw [HAt.out] at this
        exact this
      have fr1_0 : w1.frozen? ⟨g, j * 2, none⟩ = false := S1.out.free _
      have S2 : Hid (MarkSt PmR w VS (w1.setCell ⟨g, j * 2, none⟩ (.string T0)) B g n cap (C.set j (⟨T0, ty⟩ : Pm))) := by
        have := S1.out.field j 0 (HLn.out _) (by decide) (⟨T0, ty⟩ : Pm) (.string T0) (by rw [HAt.out]; rfl) (by rw [HAt.out]; rfl) (fun W B h => by rw [HAt.out] at h; exact h)
        rw [List.set_set] at this
        exact this
      have c2_1 : w1.cell? ⟨g, j * 2 + 1, none⟩ = some (.int .i64 ty) := by
        have := S1.out.cell j 1 (HLn.out _) (by decide)
        rw [HAt.out] at this
        exact this
      have fr2_1 : w1.frozen? ⟨g, j * 2 + 1, none⟩ = false := S1.out.free _
      have S3 : Hid (MarkSt PmR w VS ((w1.setCell ⟨g, j * 2, none⟩ (.string T0)).setCell ⟨g, j * 2 + 1, none⟩ (.int .i64 ((m + 1 : Nat) : Int))) B g n cap (C.set j (⟨T0, ((m + 1 : Nat) : Int)⟩ : Pm))) := by
        have := S2.out.field j 1 (HLn.out _) (by decide) (⟨T0, ((m + 1 : Nat) : Int)⟩ : Pm) (.int .i64 ((m + 1 : Nat) : Int)) (by rw [HAt.out]; rfl) (by rw [HAt.out]; rfl) (fun W B h => by rw [HAt.out] at h; exact h)
        rw [List.set_set] at this
        exact this
      clear S2
      have HF : Hid (MarkSt PmR w VS ((w1.setCell ⟨g, j * 2, none⟩ (.string T0)).setCell ⟨g, j * 2 + 1, none⟩ (.int .i64 ((m + 1 : Nat) : Int))) B g n cap (markTo mkPm lnPm k ps (j + 1))) := by
        have h1 := HST.out (⟨T0, ((m + 1 : Nat) : Int)⟩ : Pm) (by
          simp only [mkPm]
          rw [← HT0.out]
          try rw [lnI_len]
          try rfl)
        rw [← h1]
        exact S3.out
      have HE : Hid (m + 2 = k + markN lnPm (ps.take (j + 1))) := by
        show _ = _
        rw [← HNX.out]
        simp only [lnPm]
        try omega
      clear S3 S1
      go_wp2
      go_roundw
      case rel => exact ⟨j + 1, m + 2, by omega, by go_num, by go_num, HE, HF⟩
      case measure => simp [intOf]; omega
    · have hjn : Hid (j = n) := (by omega : j = n)
      have HE : Hid (m = k + markN lnPm ps) := by show _ = _; rw [HM.out, List.take_of_length_le (by have := HN.out; have := hjn.out; omega)]
      have HF : Hid (MarkSt PmR w VS wr B g n cap (markL mkPm lnPm k ps)) := by
        have := H0.out
        rw [markTo_all mkPm lnPm k ps j (by have := HN.out; have := hjn.out; omega)] at this
        exact this
      go_wp2
      go_ret
      exact ⟨by rw [← HE.out]; rfl, HF.out.phys, HF.out.kept⟩
theorem markParamS_none (ao : Option Addr) (c : Nat) (k : Int) (w : World) :
    Calls Try.prog 75 #[.slice ao 0 c, .int .i64 k] w fun e w' => e = .returned (.int .i64 k) ∧ w' = w := by
  go_enter Try.func75, Try.ntmps75
  go_wp2
  refine wp_loop_rounds 1 ?_
  rw [rounds_succ]
  go_wp2
  go_ret
  exact ⟨rfl, rfl⟩
theorem markParamS_any (B : Nat) (v : Value) (k : Nat) (ps : List (Pm)) (w : World) (hb : k + markN lnPm ps ≤ 1000000000) (hk0 : 0 < k) (hown : PmR.Phys w B v ps) (hA : (fps (PmR.all v ps)).Nodup) :
    Calls Try.prog 75 #[v, .int .i64 (k : Int)] w fun e' w' => e' = .returned (.int .i64 ((k + markN lnPm ps : Nat) : Int)) ∧ PmR.Phys w' B v (markL mkPm lnPm k ps) ∧ Kept (PmR.all v ps) w w' := by
  rcases OwnsR.form hown.1 with ⟨rfl, rfl⟩ | ⟨g, cap, rfl, _, _⟩
  · refine (markParamS_none none 0 k w).mono ?_
    rintro e' w' ⟨rfl, rfl⟩
    exact ⟨rfl, hown, Kept.refl _ _⟩
  · exact markParamS_some B g cap k _ ps w rfl hb hk0 hown hA

end Go.Proofs.Ytccelfjlffoiiaa
