/-
  Rows of Fn marked, as the laws do it. Written by mkmark.py.
-/
import Derived.Test.YtccelfjlffoiiaaRowFn
import Derived.Test.YtccelfjlffoiiaaMarkInt
import Derived.Test.YtccelfjlffoiiaaMarkParam
namespace Go.Proofs.Ytccelfjlffoiiaa
open Go.RowKit

def mkFc (k : Nat) (x : Fc) : Fc := ⟨mkT (k), markL mkPm lnPm (k + 1) x.params, (((k + 1 + markN lnPm x.params) : Nat) : Int), (((k + 1 + markN lnPm x.params) + 1 : Nat) : Int), (((k + 1 + markN lnPm x.params) + 2 : Nat) : Int)⟩
def lnFc (x : Fc) : Nat := (0 + 1 + markN lnPm x.params) + 3
def mkFcP (k : Nat) (p : Fc × Value) : Fc × Value := (mkFc k p.1, p.2)
def lnFcP (p : Fc × Value) : Nat := lnFc p.1

set_option maxRecDepth 100000 in
set_option maxHeartbeats 3200000 in
theorem markFnS_some (B g cap k n : Nat) (ps : List (Fc × Value)) (w : World) (HN : Hid (n = ps.length)) (hb : k + markN lnFcP ps ≤ 1000000000) (hk0 : 0 < k) (hown : FcR.Phys w B (.slice (some ⟨g, 0, none⟩) n cap) ps) (hA : (fps (FcR.all (.slice (some ⟨g, 0, none⟩) n cap) ps)).Nodup) :
    Calls Try.prog 55 #[.slice (some ⟨g, 0, none⟩) n cap, .int .i64 (k : Int)] w fun e' w' => e' = .returned (.int .i64 ((k + markN lnFcP ps : Nat) : Int)) ∧ FcR.Phys w' B (.slice (some ⟨g, 0, none⟩) n cap) (markL mkFcP lnFcP k ps) ∧ Kept (FcR.all (.slice (some ⟨g, 0, none⟩) n cap) ps) w w' := by
  have hnl : n ≤ 1000000000 := by have h1 := len_markN lnFcP (fun p => by unfold lnFcP lnFc; omega) ps; have := HN.out; omega
  obtain ⟨VS, HVS⟩ : ∃ VS, Hid (FcR.all (.slice (some ⟨g, 0, none⟩) n cap) ps = VS) := ⟨_, (rfl : FcR.all (.slice (some ⟨g, 0, none⟩) n cap) ps = FcR.all (.slice (some ⟨g, 0, none⟩) n cap) ps)⟩
  have HO : Hid (MarkSt FcR w VS w B g n cap (markTo mkFcP lnFcP k ps 0)) := by
    rw [markTo_zero]
    exact ⟨hown, HVS.out, by rw [← HVS.out]; exact hA, HN.out, Kept.refl _ _⟩
  rw [HVS.out]
  clear hown hA
  go_enter Try.func55, Try.ntmps55
  go_wp2
  go_loopw [1, 5] (fun kk i wr => ∃ (j m : Nat), j ≤ n ∧ i = .int .i64 (j : Int) ∧ kk = .int .i64 (m : Int) ∧ Hid (m = k + markN lnFcP (ps.take j)) ∧ Hid (MarkSt FcR w VS wr B g n cap (markTo mkFcP lnFcP k ps j)))
    (fun _ i _ => n - (intOf i).toNat)
  case atStart => exact ⟨0, k, Nat.zero_le _, rfl, rfl, by show _ = _; simp [markN], HO⟩
  case round =>
    obtain ⟨j, m, hj, rfl, rfl, HM, H0⟩ := hrel
    clear HO
    by_cases hlt : j < n
    · have hj0 : (0 : Int) ≤ (j : Int) := by omega
      have hj1 : (j : Int) < (n : Int) := by omega
      have hjp : j < ps.length := by have := HN.out; omega
      have hm0 : 0 < m := by have := HM.out; omega
      obtain ⟨q, hq⟩ : ∃ q, Hid (ps[j] = q) := ⟨_, (rfl : ps[j] = ps[j])⟩
      have hmb : m + lnFcP q ≤ 1000000000 := by
        have h1 := markN_take lnFcP ps j hjp
        have h2 := markN_take_le lnFcP ps (j + 1)
        have := HM.out
        rw [hq.out] at h1
        omega
      have HNX : Hid (m + lnFcP q = k + markN lnFcP (ps.take (j + 1))) := by
        show _ = _
        rw [markN_take lnFcP ps j hjp, hq.out, HM.out, Nat.add_assoc]
      have HST : Hid (∀ y, y = mkFcP m q → (markTo mkFcP lnFcP k ps j).set j y = markTo mkFcP lnFcP k ps (j + 1)) := fun y hy => markTo_step mkFcP lnFcP k ps j hjp y (by rw [hy, hq.out, HM.out])
      have hCl : j < (markTo mkFcP lnFcP k ps j).length := by rw [markTo_len]; exact hjp
      have hC0 : (markTo mkFcP lnFcP k ps j).set j q = markTo mkFcP lnFcP k ps j := by
        have := markTo_at mkFcP lnFcP k ps j hjp
        rw [hq.out] at this
        rw [← this]
        exact List.set_getElem_self hCl
      obtain ⟨C, hC⟩ : ∃ C, Hid (markTo mkFcP lnFcP k ps j = C) := ⟨_, (rfl : markTo mkFcP lnFcP k ps j = markTo mkFcP lnFcP k ps j)⟩
      rw [hC.out] at H0 HST hCl hC0
      have hl : ∀ y, j < (C.set j y).length := fun y => by rw [List.length_set]; exact hCl
      have HLn : Hid (∀ y, j < (C.set j y).length) := hl
      have HAt : Hid (∀ y, (C.set j y)[j]'(HLn.out y) = y) := fun y => List.getElem_set_self _
      obtain ⟨⟨name, params, res, body, ret⟩, v0⟩ := q
      have S0 : Hid (MarkSt FcR w VS wr B g n cap (C.set j ((⟨name, params, res, body, ret⟩ : Fc), v0))) := by rw [hC0]; exact H0.out
      simp only [lnFcP, lnFc] at hmb
      clear H0 hC0 hl hCl
      go_wp2_with fail
      go_at_call 60
      refine (markText_any (m) _ (by omega) (by omega)).mono ?_
      rintro e' w1 ⟨rfl, hbc⟩
      obtain ⟨T0, HT0⟩ : ∃ T, Hid (mkT (m) = T) := ⟨_, (rfl : mkT (m) = mkT (m))⟩
      rw [HT0.out]
      have S1 : Hid (MarkSt FcR w VS w1 B g n cap (C.set j ((⟨name, params, res, body, ret⟩ : Fc), v0))) := S0.out.below hbc
      clear hbc S0
      have c1_0 : w1.cell? ⟨g, j * 5, none⟩ = some (.string name) := by
        have := S1.out.cell j 0 (HLn.out _) (by decide)
        rw [HAt.out] at this
        exact this
      have fr1_0 : w1.frozen? ⟨g, j * 5, none⟩ = false := S1.out.free _
      have S2 : Hid (MarkSt FcR w VS (w1.setCell ⟨g, j * 5, none⟩ (.string T0)) B g n cap (C.set j ((⟨T0, params, res, body, ret⟩ : Fc), v0))) := by
        have := S1.out.field j 0 (HLn.out _) (by decide) ((⟨T0, params, res, body, ret⟩ : Fc), v0) (.string T0) (by rw [HAt.out]; rfl) (by rw [HAt.out]; rfl) (fun W B h => by rw [HAt.out] at h; exact h)
        rw [List.set_set] at this
        exact this
      have c2_1 : w1.cell? ⟨g, j * 5 + 1, none⟩ = some (v0) := by
        have := S1.out.cell j 1 (HLn.out _) (by decide)
        rw [HAt.out] at this
        exact this
      go_wp2_with fail
      clear c1_0 fr1_0 c2_1 S1
      have hsub : PmR.Phys (w1.setCell ⟨g, j * 5, none⟩ (.string T0)) B v0 params := by
        have := S2.out.phys.2 _ (List.getElem_mem (HLn.out _))
        rw [HAt.out] at this
        exact this
      go_at_call 75
      refine (markParamS_any B v0 (m + 1) params _ (by omega) (by omega) hsub (by rw [all_flatPm]; exact fp_nodup v0)).mono ?_
      rintro e' w2 ⟨rfl, hsub2, hk⟩
      obtain ⟨X1, HX1⟩ : ∃ X, Hid (markL mkPm lnPm (m + 1) params = X) := ⟨_, (rfl : markL mkPm lnPm (m + 1) params = _)⟩
      rw [HX1.out] at hsub2
      obtain ⟨m2, Hm2⟩ : ∃ x, Hid (m + 1 + markN lnPm params = x) := ⟨_, (rfl : m + 1 + markN lnPm params = _)⟩
      rw [Hm2.out]
      have hm2a : m2 + 3 ≤ 1000000000 := by rw [← Hm2.out]; omega
      have hm2b : 0 < m2 := by have := Hm2.out; omega
      have S3 : Hid (MarkSt FcR w VS w2 B g n cap (C.set j ((⟨T0, X1, res, body, ret⟩ : Fc), v0))) := by
        have := S2.out.inner j (HLn.out _) ((⟨T0, X1, res, body, ret⟩ : Fc), v0) (by rw [HAt.out]; rfl) (by rw [HAt.out]; rfl) (by rw [HAt.out]; exact (by rw [all_flatPm] at hk; exact hk)) hsub2
        rw [List.set_set] at this
        exact this
      clear hsub hsub2 hk S2
      have c3_2 : w2.cell? ⟨g, j * 5 + 2, none⟩ = some (.int .i64 res) := by
        have := S3.out.cell j 2 (HLn.out _) (by decide)
        rw [HAt.out] at this
        exact this
      have fr3_2 : w2.frozen? ⟨g, j * 5 + 2, none⟩ = false := S3.out.free _
      have S4 : Hid (MarkSt FcR w VS (w2.setCell ⟨g, j * 5 + 2, none⟩ (.int .i64 ((m2 : Nat) : Int))) B g n cap (C.set j ((⟨T0, X1, ((m2 : Nat) : Int), body, ret⟩ : Fc), v0))) := by
        have := S3.out.field j 2 (HLn.out _) (by decide) ((⟨T0, X1, ((m2 : Nat) : Int), body, ret⟩ : Fc), v0) (.int .i64 ((m2 : Nat) : Int)) (by rw [HAt.out]; rfl) (by rw [HAt.out]; rfl) (fun W B h => by rw [HAt.out] at h; exact h)
        rw [List.set_set] at this
        exact this
      have c4_3 : w2.cell? ⟨g, j * 5 + 3, none⟩ = some (.int .i64 body) := by
        have := S3.out.cell j 3 (HLn.out _) (by decide)
        rw [HAt.out] at this
        exact this
      have fr4_3 : w2.frozen? ⟨g, j * 5 + 3, none⟩ = false := S3.out.free _
      have S5 : Hid (MarkSt FcR w VS ((w2.setCell ⟨g, j * 5 + 2, none⟩ (.int .i64 ((m2 : Nat) : Int))).setCell ⟨g, j * 5 + 3, none⟩ (.int .i64 ((m2 + 1 : Nat) : Int))) B g n cap (C.set j ((⟨T0, X1, ((m2 : Nat) : Int), ((m2 + 1 : Nat) : Int), ret⟩ : Fc), v0))) := by
        have := S4.out.field j 3 (HLn.out _) (by decide) ((⟨T0, X1, ((m2 : Nat) : Int), ((m2 + 1 : Nat) : Int), ret⟩ : Fc), v0) (.int .i64 ((m2 + 1 : Nat) : Int)) (by rw [HAt.out]; rfl) (by rw [HAt.out]; rfl) (fun W B h => by rw [HAt.out] at h; exact h)
        rw [List.set_set] at this
        exact this
      clear S4
      have c5_4 : w2.cell? ⟨g, j * 5 + 4, none⟩ = some (.int .i64 ret) := by
        have := S3.out.cell j 4 (HLn.out _) (by decide)
        rw [HAt.out] at this
        exact this
      have fr5_4 : w2.frozen? ⟨g, j * 5 + 4, none⟩ = false := S3.out.free _
      have S6 : Hid (MarkSt FcR w VS (((w2.setCell ⟨g, j * 5 + 2, none⟩ (.int .i64 ((m2 : Nat) : Int))).setCell ⟨g, j * 5 + 3, none⟩ (.int .i64 ((m2 + 1 : Nat) : Int))).setCell ⟨g, j * 5 + 4, none⟩ (.int .i64 ((m2 + 2 : Nat) : Int))) B g n cap (C.set j ((⟨T0, X1, ((m2 : Nat) : Int), ((m2 + 1 : Nat) : Int), ((m2 + 2 : Nat) : Int)⟩ : Fc), v0))) := by
        have := S5.out.field j 4 (HLn.out _) (by decide) ((⟨T0, X1, ((m2 : Nat) : Int), ((m2 + 1 : Nat) : Int), ((m2 + 2 : Nat) : Int)⟩ : Fc), v0) (.int .i64 ((m2 + 2 : Nat) : Int)) (by rw [HAt.out]; rfl) (by rw [HAt.out]; rfl) (fun W B h => by rw [HAt.out] at h; exact h)
        rw [List.set_set] at this
        exact this
      clear S5
      have HF : Hid (MarkSt FcR w VS (((w2.setCell ⟨g, j * 5 + 2, none⟩ (.int .i64 ((m2 : Nat) : Int))).setCell ⟨g, j * 5 + 3, none⟩ (.int .i64 ((m2 + 1 : Nat) : Int))).setCell ⟨g, j * 5 + 4, none⟩ (.int .i64 ((m2 + 2 : Nat) : Int))) B g n cap (markTo mkFcP lnFcP k ps (j + 1))) := by
        have h1 := HST.out ((⟨T0, X1, ((m2 : Nat) : Int), ((m2 + 1 : Nat) : Int), ((m2 + 2 : Nat) : Int)⟩ : Fc), v0) (by
          simp only [mkFcP, mkFc]
          rw [← HT0.out, ← HX1.out]; try rw [← Hm2.out]
          try rw [lnI_len]
          try rfl)
        rw [← h1]
        exact S6.out
      have HE : Hid (m2 + 3 = k + markN lnFcP (ps.take (j + 1))) := by
        show _ = _
        rw [← HNX.out, ← Hm2.out]
        simp only [lnFcP, lnFc]
        try omega
      clear S6 S3
      go_wp2
      go_roundw
      case rel => exact ⟨j + 1, m2 + 3, by omega, by go_num, by go_num, HE, HF⟩
      case measure => simp [intOf]; omega
    · have hjn : Hid (j = n) := (by omega : j = n)
      have HE : Hid (m = k + markN lnFcP ps) := by show _ = _; rw [HM.out, List.take_of_length_le (by have := HN.out; have := hjn.out; omega)]
      have HF : Hid (MarkSt FcR w VS wr B g n cap (markL mkFcP lnFcP k ps)) := by
        have := H0.out
        rw [markTo_all mkFcP lnFcP k ps j (by have := HN.out; have := hjn.out; omega)] at this
        exact this
      go_wp2
      go_ret
      exact ⟨by rw [← HE.out]; rfl, HF.out.phys, HF.out.kept⟩
theorem markFnS_none (ao : Option Addr) (c : Nat) (k : Int) (w : World) :
    Calls Try.prog 55 #[.slice ao 0 c, .int .i64 k] w fun e w' => e = .returned (.int .i64 k) ∧ w' = w := by
  go_enter Try.func55, Try.ntmps55
  go_wp2
  refine wp_loop_rounds 1 ?_
  rw [rounds_succ]
  go_wp2
  go_ret
  exact ⟨rfl, rfl⟩
theorem markFnS_any (B : Nat) (v : Value) (k : Nat) (ps : List (Fc × Value)) (w : World) (hb : k + markN lnFcP ps ≤ 1000000000) (hk0 : 0 < k) (hown : FcR.Phys w B v ps) (hA : (fps (FcR.all v ps)).Nodup) :
    Calls Try.prog 55 #[v, .int .i64 (k : Int)] w fun e' w' => e' = .returned (.int .i64 ((k + markN lnFcP ps : Nat) : Int)) ∧ FcR.Phys w' B v (markL mkFcP lnFcP k ps) ∧ Kept (FcR.all v ps) w w' := by
  rcases OwnsR.form hown.1 with ⟨rfl, rfl⟩ | ⟨g, cap, rfl, _, _⟩
  · refine (markFnS_none none 0 k w).mono ?_
    rintro e' w' ⟨rfl, rfl⟩
    exact ⟨rfl, hown, Kept.refl _ _⟩
  · exact markFnS_some B g cap k _ ps w rfl hb hk0 hown hA

end Go.Proofs.Ytccelfjlffoiiaa
