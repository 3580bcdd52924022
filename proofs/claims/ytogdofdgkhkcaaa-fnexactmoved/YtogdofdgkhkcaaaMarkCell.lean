/-
  Rows of Cell marked, as the laws do it. Written by mkmarkcell.py.
-/
import Derived.Test.YtogdofdgkhkcaaaRowCell
import Derived.Test.YtogdofdgkhkcaaaMk
namespace Go.Proofs.Ytogdofdgkhkcaaa
open Go.RowKit

theorem all_flatCe (v : Value) (ps : List Ce) : CeR.all v ps = [v] := by simp [RowTy.all, CeR, flat_nil]
def mkB (k : Nat) : Bool := decide (k % 3 = 0)
theorem mkB_cases (k : Nat) : (mkB k = true ∧ (k : Int) % 3 = 0) ∨ (mkB k = false ∧ ¬ (k : Int) % 3 = 0) := by
  unfold mkB
  by_cases h : k % 3 = 0
  · exact .inl ⟨by simp [h], by omega⟩
  · exact .inr ⟨by simp [h], by omega⟩
def mkCe (k : Nat) (_x : Ce) : Ce := ⟨mkB k, ((k + 1 : Nat) : Int)⟩
def lnCe (_x : Ce) : Nat := 0 + 2

set_option maxRecDepth 100000 in
set_option maxHeartbeats 3200000 in
theorem markCellS_some (B g cap k n : Nat) (ps : List (Ce)) (w : World) (HN : Hid (n = ps.length)) (hb : k + markN lnCe ps ≤ 1000000000) (hk0 : 0 < k) (hown : CeR.Phys w B (.slice (some ⟨g, 0, none⟩) n cap) ps) (hA : (fps (CeR.all (.slice (some ⟨g, 0, none⟩) n cap) ps)).Nodup) :
    Calls Try.prog 94 #[.slice (some ⟨g, 0, none⟩) n cap, .int .i64 (k : Int)] w fun e' w' => e' = .returned (.int .i64 ((k + markN lnCe ps : Nat) : Int)) ∧ CeR.Phys w' B (.slice (some ⟨g, 0, none⟩) n cap) (markL mkCe lnCe k ps) ∧ Kept (CeR.all (.slice (some ⟨g, 0, none⟩) n cap) ps) w w' := by
  have hnl : n ≤ 1000000000 := by have h1 := len_markN lnCe (fun p => by unfold lnCe; omega) ps; have := HN.out; omega
  obtain ⟨VS, HVS⟩ : ∃ VS, Hid (CeR.all (.slice (some ⟨g, 0, none⟩) n cap) ps = VS) := ⟨_, (rfl : CeR.all (.slice (some ⟨g, 0, none⟩) n cap) ps = CeR.all (.slice (some ⟨g, 0, none⟩) n cap) ps)⟩
  have HO : Hid (MarkSt CeR w VS w B g n cap (markTo mkCe lnCe k ps 0)) := by
    rw [markTo_zero]
    exact ⟨hown, HVS.out, by rw [← HVS.out]; exact hA, HN.out, Kept.refl _ _⟩
  rw [HVS.out]
  clear hown hA
  go_enter Try.func94, Try.ntmps94
  go_wp2
  go_loopw [1, 5] (fun kk i wr => ∃ (j m : Nat), j ≤ n ∧ i = .int .i64 (j : Int) ∧ kk = .int .i64 (m : Int) ∧ Hid (m = k + markN lnCe (ps.take j)) ∧ Hid (MarkSt CeR w VS wr B g n cap (markTo mkCe lnCe k ps j)))
    (fun _ i _ => n - (intOf i).toNat)
  case atStart => exact ⟨0, k, Nat.zero_le _, rfl, rfl, by show _ = _; simp [markN], HO⟩
  case round =>
    obtain ⟨j, m, hj, rfl, rfl, HM, H0⟩ := hrel
    clear HO
    by_cases hlt : j < n
    · have hj0 : (0 : Int) ≤ (j : Int) := by omega
      have hj1 : (j : Int) < (n : Int) := by omega
      have hjp : j < ps.length := by have := HN.out; omega
      have hm0 : 0 < m := by have := HM.out; omega
      obtain ⟨q, hq⟩ : ∃ q, Hid (ps[j] = q) := ⟨_, (rfl : ps[j] = ps[j])⟩
      have hmb : m + lnCe q ≤ 1000000000 := by
        have h1 := markN_take lnCe ps j hjp
        have h2 := markN_take_le lnCe ps (j + 1)
        have := HM.out
        rw [hq.out] at h1
        omega
      have HNX : Hid (m + lnCe q = k + markN lnCe (ps.take (j + 1))) := by
        show _ = _
        rw [markN_take lnCe ps j hjp, hq.out, HM.out, Nat.add_assoc]
      have HST : Hid (∀ y, y = mkCe m q → (markTo mkCe lnCe k ps j).set j y = markTo mkCe lnCe k ps (j + 1)) := fun y hy => markTo_step mkCe lnCe k ps j hjp y (by rw [hy, hq.out, HM.out])
      have hCl : j < (markTo mkCe lnCe k ps j).length := by rw [markTo_len]; exact hjp
      have hC0 : (markTo mkCe lnCe k ps j).set j q = markTo mkCe lnCe k ps j := by
        have := markTo_at mkCe lnCe k ps j hjp
        rw [hq.out] at this
        rw [← this]
        exact List.set_getElem_self hCl
      obtain ⟨C, hC⟩ : ∃ C, Hid (markTo mkCe lnCe k ps j = C) := ⟨_, (rfl : markTo mkCe lnCe k ps j = markTo mkCe lnCe k ps j)⟩
      rw [hC.out] at H0 HST hCl hC0
      have hl : ∀ y, j < (C.set j y).length := fun y => by rw [List.length_set]; exact hCl
      have HLn : Hid (∀ y, j < (C.set j y).length) := hl
      have HAt : Hid (∀ y, (C.set j y)[j]'(HLn.out y) = y) := fun y => List.getElem_set_self _
      obtain ⟨live, num⟩ := q
      have S0 : Hid (MarkSt CeR w VS wr B g n cap (C.set j (⟨live, num⟩ : Ce))) := by rw [hC0]; exact H0.out
      simp only [lnCe] at hmb
      clear H0 hC0 hl hCl
      have hmr : 0 ≤ (m : Int) := by omega
      rcases mkB_cases m with ⟨hB, h3⟩ | ⟨hB, h3⟩
      · have hB3 : Hid (mkB m = true) := hB
        clear hB
        have c0_0 : wr.cell? ⟨g, j * 2, none⟩ = some (.bool live) := by
          have := S0.out.cell j 0 (HLn.out _) (by decide)
          rw [HAt.out] at this
          exact this
        have fr0_0 : wr.frozen? ⟨g, j * 2, none⟩ = false := S0.out.free _
        have S1 : Hid (MarkSt CeR w VS (wr.setCell ⟨g, j * 2, none⟩ (.bool true)) B g n cap (C.set j (⟨true, num⟩ : Ce))) := by
          have := S0.out.field j 0 (HLn.out _) (by decide) (⟨true, num⟩ : Ce) (.bool true) (by rw [HAt.out]; rfl) (by rw [HAt.out]; rfl) (fun W B h => by rw [HAt.out] at h; exact h)
          rw [List.set_set] at this
          exact this
        have c1_1 : wr.cell? ⟨g, j * 2 + 1, none⟩ = some (.int .i64 num) := by
          have := S0.out.cell j 1 (HLn.out _) (by decide)
          rw [HAt.out] at this
          exact this
        have fr1_1 : wr.frozen? ⟨g, j * 2 + 1, none⟩ = false := S0.out.free _
        have S2 : Hid (MarkSt CeR w VS ((wr.setCell ⟨g, j * 2, none⟩ (.bool true)).setCell ⟨g, j * 2 + 1, none⟩ (.int .i64 ((m + 1 : Nat) : Int))) B g n cap (C.set j (⟨true, ((m + 1 : Nat) : Int)⟩ : Ce))) := by
          have := S1.out.field j 1 (HLn.out _) (by decide) (⟨true, ((m + 1 : Nat) : Int)⟩ : Ce) (.int .i64 ((m + 1 : Nat) : Int)) (by rw [HAt.out]; rfl) (by rw [HAt.out]; rfl) (fun W B h => by rw [HAt.out] at h; exact h)
          rw [List.set_set] at this
          exact this
        clear S1
        have HF : Hid (MarkSt CeR w VS ((wr.setCell ⟨g, j * 2, none⟩ (.bool true)).setCell ⟨g, j * 2 + 1, none⟩ (.int .i64 ((m + 1 : Nat) : Int))) B g n cap (markTo mkCe lnCe k ps (j + 1))) := by
          have h1 := HST.out (⟨true, ((m + 1 : Nat) : Int)⟩ : Ce) (by
            simp only [mkCe, hB3.out]
            skip
            try rw [lnI_len]
            try rfl)
          rw [← h1]
          exact S2.out
        have HE : Hid (m + 2 = k + markN lnCe (ps.take (j + 1))) := by
          show _ = _
          rw [← HNX.out]
          simp only [lnCe]
          try omega
        clear S2 S0
        go_wp2
        go_roundw
        case rel =>
          refine ⟨j + 1, m + 2, by omega, by go_num, by go_num, HE, ?_⟩
          have hbe : ((m : Int) % 3 == 0) = true := by simp [h3]
          first | exact HF | (rw [hbe]; exact HF)
        case measure => simp [intOf]; omega
      · have hB3 : Hid (mkB m = false) := hB
        clear hB
        have c0_0 : wr.cell? ⟨g, j * 2, none⟩ = some (.bool live) := by
          have := S0.out.cell j 0 (HLn.out _) (by decide)
          rw [HAt.out] at this
          exact this
        have fr0_0 : wr.frozen? ⟨g, j * 2, none⟩ = false := S0.out.free _
        have S1 : Hid (MarkSt CeR w VS (wr.setCell ⟨g, j * 2, none⟩ (.bool false)) B g n cap (C.set j (⟨false, num⟩ : Ce))) := by
          have := S0.out.field j 0 (HLn.out _) (by decide) (⟨false, num⟩ : Ce) (.bool false) (by rw [HAt.out]; rfl) (by rw [HAt.out]; rfl) (fun W B h => by rw [HAt.out] at h; exact h)
          rw [List.set_set] at this
          exact this
        have c1_1 : wr.cell? ⟨g, j * 2 + 1, none⟩ = some (.int .i64 num) := by
          have := S0.out.cell j 1 (HLn.out _) (by decide)
          rw [HAt.out] at this
          exact this
        have fr1_1 : wr.frozen? ⟨g, j * 2 + 1, none⟩ = false := S0.out.free _
        have S2 : Hid (MarkSt CeR w VS ((wr.setCell ⟨g, j * 2, none⟩ (.bool false)).setCell ⟨g, j * 2 + 1, none⟩ (.int .i64 ((m + 1 : Nat) : Int))) B g n cap (C.set j (⟨false, ((m + 1 : Nat) : Int)⟩ : Ce))) := by
          have := S1.out.field j 1 (HLn.out _) (by decide) (⟨false, ((m + 1 : Nat) : Int)⟩ : Ce) (.int .i64 ((m + 1 : Nat) : Int)) (by rw [HAt.out]; rfl) (by rw [HAt.out]; rfl) (fun W B h => by rw [HAt.out] at h; exact h)
          rw [List.set_set] at this
          exact this
        clear S1
        have HF : Hid (MarkSt CeR w VS ((wr.setCell ⟨g, j * 2, none⟩ (.bool false)).setCell ⟨g, j * 2 + 1, none⟩ (.int .i64 ((m + 1 : Nat) : Int))) B g n cap (markTo mkCe lnCe k ps (j + 1))) := by
          have h1 := HST.out (⟨false, ((m + 1 : Nat) : Int)⟩ : Ce) (by
            simp only [mkCe, hB3.out]
            skip
            try rw [lnI_len]
            try rfl)
          rw [← h1]
          exact S2.out
        have HE : Hid (m + 2 = k + markN lnCe (ps.take (j + 1))) := by
          show _ = _
          rw [← HNX.out]
          simp only [lnCe]
          try omega
        clear S2 S0
        go_wp2
        go_roundw
        case rel =>
          refine ⟨j + 1, m + 2, by omega, by go_num, by go_num, HE, ?_⟩
          have hbe : ((m : Int) % 3 == 0) = false := by simp [h3]
          first | exact HF | (rw [hbe]; exact HF)
        case measure => simp [intOf]; omega
    · have hjn : Hid (j = n) := (by omega : j = n)
      have HE : Hid (m = k + markN lnCe ps) := by show _ = _; rw [HM.out, List.take_of_length_le (by have := HN.out; have := hjn.out; omega)]
      have HF : Hid (MarkSt CeR w VS wr B g n cap (markL mkCe lnCe k ps)) := by
        have := H0.out
        rw [markTo_all mkCe lnCe k ps j (by have := HN.out; have := hjn.out; omega)] at this
        exact this
      go_wp2
      go_ret
      exact ⟨by rw [← HE.out]; rfl, HF.out.phys, HF.out.kept⟩
theorem markCellS_none (ao : Option Addr) (c : Nat) (k : Int) (w : World) :
    Calls Try.prog 94 #[.slice ao 0 c, .int .i64 k] w fun e w' => e = .returned (.int .i64 k) ∧ w' = w := by
  go_enter Try.func94, Try.ntmps94
  go_wp2
  refine wp_loop_rounds 1 ?_
  rw [rounds_succ]
  go_wp2
  go_ret
  exact ⟨rfl, rfl⟩
theorem markCellS_any (B : Nat) (v : Value) (k : Nat) (ps : List (Ce)) (w : World) (hb : k + markN lnCe ps ≤ 1000000000) (hk0 : 0 < k) (hown : CeR.Phys w B v ps) (hA : (fps (CeR.all v ps)).Nodup) :
    Calls Try.prog 94 #[v, .int .i64 (k : Int)] w fun e' w' => e' = .returned (.int .i64 ((k + markN lnCe ps : Nat) : Int)) ∧ CeR.Phys w' B v (markL mkCe lnCe k ps) ∧ Kept (CeR.all v ps) w w' := by
  rcases OwnsR.form hown.1 with ⟨rfl, rfl⟩ | ⟨g, cap, rfl, _, _⟩
  · refine (markCellS_none none 0 k w).mono ?_
    rintro e' w' ⟨rfl, rfl⟩
    exact ⟨rfl, hown, Kept.refl _ _⟩
  · exact markCellS_some B g cap k _ ps w rfl hb hk0 hown hA

end Go.Proofs.Ytogdofdgkhkcaaa
