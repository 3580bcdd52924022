/-
  Rows of Param marked, as the laws do it. Written by mkmark.py.
  Rows of Node marked, as the laws do it. Written by mkmark.py.
  Rows of Fn marked, as the laws do it. Written by mkmark.py.
  Programs marked, as the laws do it: only blocks of the program turn.
-/
import Derived.Test.YtjafneaaefpefaaRa
import Derived.Test.YtjafneaaefpefaaMa
import Derived.Test.YtjafneaaefpefaaKa
namespace Go.Proofs.Ytjafneaaefpefaa
open Go.RowKit

theorem all_flatPm (v : Value) (ps : List Pm) : PmR.all v ps = [v] := by simp [RowTy.all, PmR, flat_nil]
def mkPm (k : Nat) (_x : Pm) : Pm := ⟨mkT (k), ((k + 1 : Nat) : Int)⟩
def lnPm (_x : Pm) : Nat := 0 + 2

set_option maxRecDepth 100000 in
set_option maxHeartbeats 3200000 in
theorem markParamS_some (B g cap k n : Nat) (ps : List (Pm)) (w : World) (HN : Hid (n = ps.length)) (hb : k + markN lnPm ps ≤ 1000000000) (hk0 : 0 < k) (hown : PmR.Phys w B (.slice (some ⟨g, 0, none⟩) n cap) ps) (hA : (fps (PmR.all (.slice (some ⟨g, 0, none⟩) n cap) ps)).Nodup) :
    Calls Try.prog 101 #[.slice (some ⟨g, 0, none⟩) n cap, .int .i64 (k : Int)] w fun e' w' => e' = .returned (.int .i64 ((k + markN lnPm ps : Nat) : Int)) ∧ PmR.Phys w' B (.slice (some ⟨g, 0, none⟩) n cap) (markL mkPm lnPm k ps) ∧ Kept (PmR.all (.slice (some ⟨g, 0, none⟩) n cap) ps) w w' := by
  have hnl : n ≤ 1000000000 := by have h1 := len_markN lnPm (fun p => by unfold lnPm; omega) ps; have := HN.out; omega
  obtain ⟨VS, HVS⟩ : ∃ VS, Hid (PmR.all (.slice (some ⟨g, 0, none⟩) n cap) ps = VS) := ⟨_, (rfl : PmR.all (.slice (some ⟨g, 0, none⟩) n cap) ps = PmR.all (.slice (some ⟨g, 0, none⟩) n cap) ps)⟩
  have HO : Hid (MarkSt PmR w VS w B g n cap (markTo mkPm lnPm k ps 0)) := by
    rw [markTo_zero]
    exact ⟨hown, HVS.out, by rw [← HVS.out]; exact hA, HN.out, Kept.refl _ _⟩
  rw [HVS.out]
  clear hown hA
  go_enter Try.func101, Try.ntmps101
  go_wp2
  go_loopw [1, 5] (fun kk i wr => ∃ (j m : Nat), j ≤ n ∧ i = .int .i64 (j : Int) ∧ kk = .int .i64 (m : Int) ∧ Hid (m = k + markN lnPm (ps.take j)) ∧ Hid (MarkSt PmR w VS wr B g n cap (markTo mkPm lnPm k ps j)))
    (fun _ i _ => n - (intOf i).toNat)
  case atStart => exact ⟨0, k, Nat.zero_le _, rfl, rfl, by show _ = _; simp [markN], HO⟩
  case round =>
    obtain ⟨j, m, hj, rfl, rfl, HM, H0⟩ := hrel
    clear HO
    by_cases hlt : j < n
    · have hj0 : (0 : Int) ≤ (j : Int) := by omega
      have hj1 : (j : Int) < (n : Int) := by omega
      have hjp : j < ps.length := by have := HN.out; omega
      have hm0 : 0 < m := by have := HM.out; omega
      obtain ⟨q, hq⟩ : ∃ q, Hid (ps[j] = q) := ⟨_, (rfl : ps[j] = ps[j])⟩
      have hmb : m + lnPm q ≤ 1000000000 := by
        have h1 := markN_take lnPm ps j hjp
        have h2 := markN_take_le lnPm ps (j + 1)
        have := HM.out
        rw [hq.out] at h1
        omega
      have HNX : Hid (m + lnPm q = k + markN lnPm (ps.take (j + 1))) := by
        show _ = _
        rw [markN_take lnPm ps j hjp, hq.out, HM.out, Nat.add_assoc]
      have HST : Hid (∀ y, y = mkPm m q → (markTo mkPm lnPm k ps j).set j y = markTo mkPm lnPm k ps (j + 1)) := fun y hy => markTo_step mkPm lnPm k ps j hjp y (by rw [hy, hq.out, HM.out])
      have hCl : j < (markTo mkPm lnPm k ps j).length := by rw [markTo_len]; exact hjp
      have hC0 : (markTo mkPm lnPm k ps j).set j q = markTo mkPm lnPm k ps j := by
        have := markTo_at mkPm lnPm k ps j hjp
        rw [hq.out] at this
        rw [← this]
        exact List.set_getElem_self hCl
      obtain ⟨C, hC⟩ : ∃ C, Hid (markTo mkPm lnPm k ps j = C) := ⟨_, (rfl : markTo mkPm lnPm k ps j = markTo mkPm lnPm k ps j)⟩
      rw [hC.out] at H0 HST hCl hC0
      have hl : ∀ y, j < (C.set j y).length := fun y => by rw [List.length_set]; exact hCl
      have HLn : Hid (∀ y, j < (C.set j y).length) := hl
      have HAt : Hid (∀ y, (C.set j y)[j]'(HLn.out y) = y) := fun y => List.getElem_set_self _
      obtain ⟨name, ty⟩ := q
      have S0 : Hid (MarkSt PmR w VS wr B g n cap (C.set j (⟨name, ty⟩ : Pm))) := by rw [hC0]; exact H0.out
      simp only [lnPm] at hmb
      clear H0 hC0 hl hCl
      go_wp2_with fail
      go_at_call 80
      refine (markText_any (m) _ (by omega) (by omega)).mono ?_
      rintro e' w1 ⟨rfl, hbc⟩
      obtain ⟨T0, HT0⟩ : ∃ T, Hid (mkT (m) = T) := ⟨_, (rfl : mkT (m) = mkT (m))⟩
      rw [HT0.out]
      have S1 : Hid (MarkSt PmR w VS w1 B g n cap (C.set j (⟨name, ty⟩ : Pm))) := S0.out.below hbc
      clear hbc S0
      have c1_0 : w1.cell? ⟨g, j * 2, none⟩ = some (.string name) := by
        have := S1.out.cell j 0 (HLn.out _) (by decide)
        rw [HAt.out] at this
        exact this
      have fr1_0 : w1.frozen? ⟨g, j * 2, none⟩ = false := S1.out.free _
      have S2 : Hid (MarkSt PmR w VS (w1.setCell ⟨g, j * 2, none⟩ (.string T0)) B g n cap (C.set j (⟨T0, ty⟩ : Pm))) := by
        have := S1.out.field j 0 (HLn.out _) (by decide) (⟨T0, ty⟩ : Pm) (.string T0) (by rw [HAt.out]; rfl) (by rw [HAt.out]; rfl) (fun W B h => by rw [HAt.out] at h; exact h)
        rw [List.set_set] at this
        exact this
      have c2_1 : w1.cell? ⟨g, j * 2 + 1, none⟩ = some (.int .i64 ty) := by
        have := S1.out.cell j 1 (HLn.out _) (by decide)
        rw [HAt.out] at this
        exact this
      have fr2_1 : w1.frozen? ⟨g, j * 2 + 1, none⟩ = false := S1.out.free _
      have S3 : Hid (MarkSt PmR w VS ((w1.setCell ⟨g, j * 2, none⟩ (.string T0)).setCell ⟨g, j * 2 + 1, none⟩ (.int .i64 ((m + 1 : Nat) : Int))) B g n cap (C.set j (⟨T0, ((m + 1 : Nat) : Int)⟩ : Pm))) := by
        have := S2.out.field j 1 (HLn.out _) (by decide) (⟨T0, ((m + 1 : Nat) : Int)⟩ : Pm) (.int .i64 ((m + 1 : Nat) : Int)) (by rw [HAt.out]; rfl) (by rw [HAt.out]; rfl) (fun W B h => by rw [HAt.out] at h; exact h)
        rw [List.set_set] at this
        exact this
      clear S2
      have HF : Hid (MarkSt PmR w VS ((w1.setCell ⟨g, j * 2, none⟩ (.string T0)).setCell ⟨g, j * 2 + 1, none⟩ (.int .i64 ((m + 1 : Nat) : Int))) B g n cap (markTo mkPm lnPm k ps (j + 1))) := by
        have h1 := HST.out (⟨T0, ((m + 1 : Nat) : Int)⟩ : Pm) (by
          simp only [mkPm]
          rw [← HT0.out]
          try rw [lnI_len]
          try rfl)
        rw [← h1]
        exact S3.out
      have HE : Hid (m + 2 = k + markN lnPm (ps.take (j + 1))) := by
        show _ = _
        rw [← HNX.out]
        simp only [lnPm]
        try omega
      clear S3 S1
      go_wp2
      go_roundw
      case rel => exact ⟨j + 1, m + 2, by omega, by go_num, by go_num, HE, HF⟩
      case measure => simp [intOf]; omega
    · have hjn : Hid (j = n) := (by omega : j = n)
      have HE : Hid (m = k + markN lnPm ps) := by show _ = _; rw [HM.out, List.take_of_length_le (by have := HN.out; have := hjn.out; omega)]
      have HF : Hid (MarkSt PmR w VS wr B g n cap (markL mkPm lnPm k ps)) := by
        have := H0.out
        rw [markTo_all mkPm lnPm k ps j (by have := HN.out; have := hjn.out; omega)] at this
        exact this
      go_wp2
      go_ret
      exact ⟨by rw [← HE.out]; rfl, HF.out.phys, HF.out.kept⟩
theorem markParamS_none (ao : Option Addr) (c : Nat) (k : Int) (w : World) :
    Calls Try.prog 101 #[.slice ao 0 c, .int .i64 k] w fun e w' => e = .returned (.int .i64 k) ∧ w' = w := by
  go_enter Try.func101, Try.ntmps101
  go_wp2
  refine wp_loop_rounds 1 ?_
  rw [rounds_succ]
  go_wp2
  go_ret
  exact ⟨rfl, rfl⟩
theorem markParamS_any (B : Nat) (v : Value) (k : Nat) (ps : List (Pm)) (w : World) (hb : k + markN lnPm ps ≤ 1000000000) (hk0 : 0 < k) (hown : PmR.Phys w B v ps) (hA : (fps (PmR.all v ps)).Nodup) :
    Calls Try.prog 101 #[v, .int .i64 (k : Int)] w fun e' w' => e' = .returned (.int .i64 ((k + markN lnPm ps : Nat) : Int)) ∧ PmR.Phys w' B v (markL mkPm lnPm k ps) ∧ Kept (PmR.all v ps) w w' := by
  rcases OwnsR.form hown.1 with ⟨rfl, rfl⟩ | ⟨g, cap, rfl, _, _⟩
  · refine (markParamS_none none 0 k w).mono ?_
    rintro e' w' ⟨rfl, rfl⟩
    exact ⟨rfl, hown, Kept.refl _ _⟩
  · exact markParamS_some B g cap k _ ps w rfl hb hk0 hown hA

end Go.Proofs.Ytjafneaaefpefaa

namespace Go.Proofs.Ytjafneaaefpefaa
open Go.RowKit

def mkNd (k : Nat) (x : Nd) : Nd := ⟨((k : Nat) : Int), ((k + 1 : Nat) : Int), mkT (k + 2), markL mkI lnI (k + 3) x.kids⟩
def lnNd (x : Nd) : Nat := (0 + 3 + markN lnI x.kids)
def mkNdP (k : Nat) (p : Nd × Value) : Nd × Value := (mkNd k p.1, p.2)
def lnNdP (p : Nd × Value) : Nat := lnNd p.1

set_option maxRecDepth 100000 in
set_option maxHeartbeats 3200000 in
theorem markNodeS_some (B g cap k n : Nat) (ps : List (Nd × Value)) (w : World) (HN : Hid (n = ps.length)) (hb : k + markN lnNdP ps ≤ 1000000000) (hk0 : 0 < k) (hown : NdR.Phys w B (.slice (some ⟨g, 0, none⟩) n cap) ps) (hA : (fps (NdR.all (.slice (some ⟨g, 0, none⟩) n cap) ps)).Nodup) :
    Calls Try.prog 39 #[.slice (some ⟨g, 0, none⟩) n cap, .int .i64 (k : Int)] w fun e' w' => e' = .returned (.int .i64 ((k + markN lnNdP ps : Nat) : Int)) ∧ NdR.Phys w' B (.slice (some ⟨g, 0, none⟩) n cap) (markL mkNdP lnNdP k ps) ∧ Kept (NdR.all (.slice (some ⟨g, 0, none⟩) n cap) ps) w w' := by
  have hnl : n ≤ 1000000000 := by have h1 := len_markN lnNdP (fun p => by unfold lnNdP lnNd; omega) ps; have := HN.out; omega
  obtain ⟨VS, HVS⟩ : ∃ VS, Hid (NdR.all (.slice (some ⟨g, 0, none⟩) n cap) ps = VS) := ⟨_, (rfl : NdR.all (.slice (some ⟨g, 0, none⟩) n cap) ps = NdR.all (.slice (some ⟨g, 0, none⟩) n cap) ps)⟩
  have HO : Hid (MarkSt NdR w VS w B g n cap (markTo mkNdP lnNdP k ps 0)) := by
    rw [markTo_zero]
    exact ⟨hown, HVS.out, by rw [← HVS.out]; exact hA, HN.out, Kept.refl _ _⟩
  rw [HVS.out]
  clear hown hA
  go_enter Try.func39, Try.ntmps39
  go_wp2
  go_loopw [1, 5] (fun kk i wr => ∃ (j m : Nat), j ≤ n ∧ i = .int .i64 (j : Int) ∧ kk = .int .i64 (m : Int) ∧ Hid (m = k + markN lnNdP (ps.take j)) ∧ Hid (MarkSt NdR w VS wr B g n cap (markTo mkNdP lnNdP k ps j)))
    (fun _ i _ => n - (intOf i).toNat)
  case atStart => exact ⟨0, k, Nat.zero_le _, rfl, rfl, by show _ = _; simp [markN], HO⟩
  case round =>
    obtain ⟨j, m, hj, rfl, rfl, HM, H0⟩ := hrel
    clear HO
    by_cases hlt : j < n
    · have hj0 : (0 : Int) ≤ (j : Int) := by omega
      have hj1 : (j : Int) < (n : Int) := by omega
      have hjp : j < ps.length := by have := HN.out; omega
      have hm0 : 0 < m := by have := HM.out; omega
      obtain ⟨q, hq⟩ : ∃ q, Hid (ps[j] = q) := ⟨_, (rfl : ps[j] = ps[j])⟩
      have hmb : m + lnNdP q ≤ 1000000000 := by
        have h1 := markN_take lnNdP ps j hjp
        have h2 := markN_take_le lnNdP ps (j + 1)
        have := HM.out
        rw [hq.out] at h1
        omega
      have HNX : Hid (m + lnNdP q = k + markN lnNdP (ps.take (j + 1))) := by
        show _ = _
        rw [markN_take lnNdP ps j hjp, hq.out, HM.out, Nat.add_assoc]
      have HST : Hid (∀ y, y = mkNdP m q → (markTo mkNdP lnNdP k ps j).set j y = markTo mkNdP lnNdP k ps (j + 1)) := fun y hy => markTo_step mkNdP lnNdP k ps j hjp y (by rw [hy, hq.out, HM.out])
      have hCl : j < (markTo mkNdP lnNdP k ps j).length := by rw [markTo_len]; exact hjp
      have hC0 : (markTo mkNdP lnNdP k ps j).set j q = markTo mkNdP lnNdP k ps j := by
        have := markTo_at mkNdP lnNdP k ps j hjp
        rw [hq.out] at this
        rw [← this]
        exact List.set_getElem_self hCl
      obtain ⟨C, hC⟩ : ∃ C, Hid (markTo mkNdP lnNdP k ps j = C) := ⟨_, (rfl : markTo mkNdP lnNdP k ps j = markTo mkNdP lnNdP k ps j)⟩
      rw [hC.out] at H0 HST hCl hC0
      have hl : ∀ y, j < (C.set j y).length := fun y => by rw [List.length_set]; exact hCl
      have HLn : Hid (∀ y, j < (C.set j y).length) := hl
      have HAt : Hid (∀ y, (C.set j y)[j]'(HLn.out y) = y) := fun y => List.getElem_set_self _
      obtain ⟨⟨kind, num, name, kids⟩, v0⟩ := q
      have S0 : Hid (MarkSt NdR w VS wr B g n cap (C.set j ((⟨kind, num, name, kids⟩ : Nd), v0))) := by rw [hC0]; exact H0.out
      simp only [lnNdP, lnNd] at hmb
      clear H0 hC0 hl hCl
      have c0_0 : wr.cell? ⟨g, j * 4, none⟩ = some (.int .i64 kind) := by
        have := S0.out.cell j 0 (HLn.out _) (by decide)
        rw [HAt.out] at this
        exact this
      have fr0_0 : wr.frozen? ⟨g, j * 4, none⟩ = false := S0.out.free _
      have S1 : Hid (MarkSt NdR w VS (wr.setCell ⟨g, j * 4, none⟩ (.int .i64 ((m : Nat) : Int))) B g n cap (C.set j ((⟨((m : Nat) : Int), num, name, kids⟩ : Nd), v0))) := by
        have := S0.out.field j 0 (HLn.out _) (by decide) ((⟨((m : Nat) : Int), num, name, kids⟩ : Nd), v0) (.int .i64 ((m : Nat) : Int)) (by rw [HAt.out]; rfl) (by rw [HAt.out]; rfl) (fun W B h => by rw [HAt.out] at h; exact h)
        rw [List.set_set] at this
        exact this
      have c1_1 : wr.cell? ⟨g, j * 4 + 1, none⟩ = some (.int .i64 num) := by
        have := S0.out.cell j 1 (HLn.out _) (by decide)
        rw [HAt.out] at this
        exact this
      have fr1_1 : wr.frozen? ⟨g, j * 4 + 1, none⟩ = false := S0.out.free _
      have S2 : Hid (MarkSt NdR w VS ((wr.setCell ⟨g, j * 4, none⟩ (.int .i64 ((m : Nat) : Int))).setCell ⟨g, j * 4 + 1, none⟩ (.int .i64 ((m + 1 : Nat) : Int))) B g n cap (C.set j ((⟨((m : Nat) : Int), ((m + 1 : Nat) : Int), name, kids⟩ : Nd), v0))) := by
        have := S1.out.field j 1 (HLn.out _) (by decide) ((⟨((m : Nat) : Int), ((m + 1 : Nat) : Int), name, kids⟩ : Nd), v0) (.int .i64 ((m + 1 : Nat) : Int)) (by rw [HAt.out]; rfl) (by rw [HAt.out]; rfl) (fun W B h => by rw [HAt.out] at h; exact h)
        rw [List.set_set] at this
        exact this
      clear S1
      go_wp2_with fail
      clear c0_0 fr0_0 c1_1 fr1_1 S0
      go_at_call 80
      refine (markText_any (m + 2) _ (by omega) (by omega)).mono ?_
      rintro e' w1 ⟨rfl, hbc⟩
      obtain ⟨T0, HT0⟩ : ∃ T, Hid (mkT (m + 2) = T) := ⟨_, (rfl : mkT (m + 2) = mkT (m + 2))⟩
      rw [HT0.out]
      have S3 : Hid (MarkSt NdR w VS w1 B g n cap (C.set j ((⟨((m : Nat) : Int), ((m + 1 : Nat) : Int), name, kids⟩ : Nd), v0))) := S2.out.below hbc
      clear hbc S2
      have c3_2 : w1.cell? ⟨g, j * 4 + 2, none⟩ = some (.string name) := by
        have := S3.out.cell j 2 (HLn.out _) (by decide)
        rw [HAt.out] at this
        exact this
      have fr3_2 : w1.frozen? ⟨g, j * 4 + 2, none⟩ = false := S3.out.free _
      have S4 : Hid (MarkSt NdR w VS (w1.setCell ⟨g, j * 4 + 2, none⟩ (.string T0)) B g n cap (C.set j ((⟨((m : Nat) : Int), ((m + 1 : Nat) : Int), T0, kids⟩ : Nd), v0))) := by
        have := S3.out.field j 2 (HLn.out _) (by decide) ((⟨((m : Nat) : Int), ((m + 1 : Nat) : Int), T0, kids⟩ : Nd), v0) (.string T0) (by rw [HAt.out]; rfl) (by rw [HAt.out]; rfl) (fun W B h => by rw [HAt.out] at h; exact h)
        rw [List.set_set] at this
        exact this
      have c4_3 : w1.cell? ⟨g, j * 4 + 3, none⟩ = some (v0) := by
        have := S3.out.cell j 3 (HLn.out _) (by decide)
        rw [HAt.out] at this
        exact this
      go_wp2_with fail
      clear c3_2 fr3_2 c4_3 S3
      have hsub : OwnsI (w1.setCell ⟨g, j * 4 + 2, none⟩ (.string T0)) B v0 kids := by
        have := S4.out.phys.2 _ (List.getElem_mem (HLn.out _))
        rw [HAt.out] at this
        exact this
      go_at_call 35
      refine (markIntS_any B v0 (m + 3) kids _ (by first | omega | (rw [← lnI_len]; omega)) hsub).mono ?_
      rintro e' w2 ⟨rfl, hsub2, hk⟩
      obtain ⟨X3, HX3⟩ : ∃ X, Hid (markL mkI lnI (m + 3) kids = X) := ⟨_, (rfl : markL mkI lnI (m + 3) kids = _)⟩
      rw [HX3.out] at hsub2
      obtain ⟨m2, Hm2⟩ : ∃ x, Hid (m + 3 + kids.length = x) := ⟨_, (rfl : m + 3 + kids.length = _)⟩
      rw [Hm2.out]
      have hm2a : m2 + 0 ≤ 1000000000 := by rw [← Hm2.out]; first | omega | (rw [← lnI_len]; omega)
      have hm2b : 0 < m2 := by have := Hm2.out; omega
      have S5 : Hid (MarkSt NdR w VS w2 B g n cap (C.set j ((⟨((m : Nat) : Int), ((m + 1 : Nat) : Int), T0, X3⟩ : Nd), v0))) := by
        have := S4.out.inner j (HLn.out _) ((⟨((m : Nat) : Int), ((m + 1 : Nat) : Int), T0, X3⟩ : Nd), v0) (by rw [HAt.out]; rfl) (by rw [HAt.out]; rfl) (by rw [HAt.out]; exact hk) hsub2
        rw [List.set_set] at this
        exact this
      clear hsub hsub2 hk S4
      have HF : Hid (MarkSt NdR w VS w2 B g n cap (markTo mkNdP lnNdP k ps (j + 1))) := by
        have h1 := HST.out ((⟨((m : Nat) : Int), ((m + 1 : Nat) : Int), T0, X3⟩ : Nd), v0) (by
          simp only [mkNdP, mkNd]
          rw [← HT0.out, ← HX3.out]; try rw [← Hm2.out]
          try rw [lnI_len]
          try rfl)
        rw [← h1]
        exact S5.out
      have HE : Hid (m2 = k + markN lnNdP (ps.take (j + 1))) := by
        show _ = _
        rw [← HNX.out, ← Hm2.out]
        simp only [lnNdP, lnNd, lnI_len]
        try omega
      clear S5
      go_wp2
      go_roundw
      case rel => exact ⟨j + 1, m2, by omega, by go_num, by go_num, HE, HF⟩
      case measure => simp [intOf]; omega
    · have hjn : Hid (j = n) := (by omega : j = n)
      have HE : Hid (m = k + markN lnNdP ps) := by show _ = _; rw [HM.out, List.take_of_length_le (by have := HN.out; have := hjn.out; omega)]
      have HF : Hid (MarkSt NdR w VS wr B g n cap (markL mkNdP lnNdP k ps)) := by
        have := H0.out
        rw [markTo_all mkNdP lnNdP k ps j (by have := HN.out; have := hjn.out; omega)] at this
        exact this
      go_wp2
      go_ret
      exact ⟨by rw [← HE.out]; rfl, HF.out.phys, HF.out.kept⟩
theorem markNodeS_none (ao : Option Addr) (c : Nat) (k : Int) (w : World) :
    Calls Try.prog 39 #[.slice ao 0 c, .int .i64 k] w fun e w' => e = .returned (.int .i64 k) ∧ w' = w := by
  go_enter Try.func39, Try.ntmps39
  go_wp2
  refine wp_loop_rounds 1 ?_
  rw [rounds_succ]
  go_wp2
  go_ret
  exact ⟨rfl, rfl⟩
theorem markNodeS_any (B : Nat) (v : Value) (k : Nat) (ps : List (Nd × Value)) (w : World) (hb : k + markN lnNdP ps ≤ 1000000000) (hk0 : 0 < k) (hown : NdR.Phys w B v ps) (hA : (fps (NdR.all v ps)).Nodup) :
    Calls Try.prog 39 #[v, .int .i64 (k : Int)] w fun e' w' => e' = .returned (.int .i64 ((k + markN lnNdP ps : Nat) : Int)) ∧ NdR.Phys w' B v (markL mkNdP lnNdP k ps) ∧ Kept (NdR.all v ps) w w' := by
  rcases OwnsR.form hown.1 with ⟨rfl, rfl⟩ | ⟨g, cap, rfl, _, _⟩
  · refine (markNodeS_none none 0 k w).mono ?_
    rintro e' w' ⟨rfl, rfl⟩
    exact ⟨rfl, hown, Kept.refl _ _⟩
  · exact markNodeS_some B g cap k _ ps w rfl hb hk0 hown hA

end Go.Proofs.Ytjafneaaefpefaa

namespace Go.Proofs.Ytjafneaaefpefaa
open Go.RowKit

def mkFc (k : Nat) (x : Fc) : Fc := ⟨mkT (k), markL mkPm lnPm (k + 1) x.params, (((k + 1 + markN lnPm x.params) : Nat) : Int), (((k + 1 + markN lnPm x.params) + 1 : Nat) : Int), (((k + 1 + markN lnPm x.params) + 2 : Nat) : Int)⟩
def lnFc (x : Fc) : Nat := (0 + 1 + markN lnPm x.params) + 3
def mkFcP (k : Nat) (p : Fc × Value) : Fc × Value := (mkFc k p.1, p.2)
def lnFcP (p : Fc × Value) : Nat := lnFc p.1

set_option maxRecDepth 100000 in
set_option maxHeartbeats 3200000 in
theorem markFnS_some (B g cap k n : Nat) (ps : List (Fc × Value)) (w : World) (HN : Hid (n = ps.length)) (hb : k + markN lnFcP ps ≤ 1000000000) (hk0 : 0 < k) (hown : FcR.Phys w B (.slice (some ⟨g, 0, none⟩) n cap) ps) (hA : (fps (FcR.all (.slice (some ⟨g, 0, none⟩) n cap) ps)).Nodup) :
    Calls Try.prog 75 #[.slice (some ⟨g, 0, none⟩) n cap, .int .i64 (k : Int)] w fun e' w' => e' = .returned (.int .i64 ((k + markN lnFcP ps : Nat) : Int)) ∧ FcR.Phys w' B (.slice (some ⟨g, 0, none⟩) n cap) (markL mkFcP lnFcP k ps) ∧ Kept (FcR.all (.slice (some ⟨g, 0, none⟩) n cap) ps) w w' := by
  have hnl : n ≤ 1000000000 := by have h1 := len_markN lnFcP (fun p => by unfold lnFcP lnFc; omega) ps; have := HN.out; omega
  obtain ⟨VS, HVS⟩ : ∃ VS, Hid (FcR.all (.slice (some ⟨g, 0, none⟩) n cap) ps = VS) := ⟨_, (rfl : FcR.all (.slice (some ⟨g, 0, none⟩) n cap) ps = FcR.all (.slice (some ⟨g, 0, none⟩) n cap) ps)⟩
  have HO : Hid (MarkSt FcR w VS w B g n cap (markTo mkFcP lnFcP k ps 0)) := by
    rw [markTo_zero]
    exact ⟨hown, HVS.out, by rw [← HVS.out]; exact hA, HN.out, Kept.refl _ _⟩
  rw [HVS.out]
  clear hown hA
  go_enter Try.func75, Try.ntmps75
  go_wp2
  go_loopw [1, 5] (fun kk i wr => ∃ (j m : Nat), j ≤ n ∧ i = .int .i64 (j : Int) ∧ kk = .int .i64 (m : Int) ∧ Hid (m = k + markN lnFcP (ps.take j)) ∧ Hid (MarkSt FcR w VS wr B g n cap (markTo mkFcP lnFcP k ps j)))
    (fun _ i _ => n - (intOf i).toNat)
  case atStart => exact ⟨0, k, Nat.zero_le _, rfl, rfl, by show _ = _; simp [markN], HO⟩
  case round =>
    obtain ⟨j, m, hj, rfl, rfl, HM, H0⟩ := hrel
    clear HO
    by_cases hlt : j < n
    · have hj0 : (0 : Int) ≤ (j : Int) := by omega
      have hj1 : (j : Int) < (n : Int) := by omega
      have hjp : j < ps.length := by have := HN.out; omega
      have hm0 : 0 < m := by have := HM.out; omega
      obtain ⟨q, hq⟩ : ∃ q, Hid (ps[j] = q) := ⟨_, (rfl : ps[j] = ps[j])⟩
      have hmb : m + lnFcP q ≤ 1000000000 := by
        have h1 := markN_take lnFcP ps j hjp
        have h2 := markN_take_le lnFcP ps (j + 1)
        have := HM.out
        rw [hq.out] at h1
        omega
      have HNX : Hid (m + lnFcP q = k + markN lnFcP (ps.take (j + 1))) := by
        show _ = _
        rw [markN_take lnFcP ps j hjp, hq.out, HM.out, Nat.add_assoc]
      have HST : Hid (∀ y, y = mkFcP m q → (markTo mkFcP lnFcP k ps j).set j y = markTo mkFcP lnFcP k ps (j + 1)) := fun y hy => markTo_step mkFcP lnFcP k ps j hjp y (by rw [hy, hq.out, HM.out])
      have hCl : j < (markTo mkFcP lnFcP k ps j).length := by rw [markTo_len]; exact hjp
      have hC0 : (markTo mkFcP lnFcP k ps j).set j q = markTo mkFcP lnFcP k ps j := by
        have := markTo_at mkFcP lnFcP k ps j hjp
        rw [hq.out] at this
        rw [← this]
        exact List.set_getElem_self hCl
      obtain ⟨C, hC⟩ : ∃ C, Hid (markTo mkFcP lnFcP k ps j = C) := ⟨_, (rfl : markTo mkFcP lnFcP k ps j = markTo mkFcP lnFcP k ps j)⟩
      rw [hC.out] at H0 HST hCl hC0
      have hl : ∀ y, j < (C.set j y).length := fun y => by rw [List.length_set]; exact hCl
      have HLn : Hid (∀ y, j < (C.set j y).length) := hl
      have HAt : Hid (∀ y, (C.set j y)[j]'(HLn.out y) = y) := fun y => List.getElem_set_self _
      obtain ⟨⟨name, params, res, body, ret⟩, v0⟩ := q
      have S0 : Hid (MarkSt FcR w VS wr B g n cap (C.set j ((⟨name, params, res, body, ret⟩ : Fc), v0))) := by rw [hC0]; exact H0.out
      simp only [lnFcP, lnFc] at hmb
      clear H0 hC0 hl hCl
      go_wp2_with fail
      go_at_call 80
      refine (markText_any (m) _ (by omega) (by omega)).mono ?_
      rintro e' w1 ⟨rfl, hbc⟩
      obtain ⟨T0, HT0⟩ : ∃ T, Hid (mkT (m) = T) := ⟨_, (rfl : mkT (m) = mkT (m))⟩
      rw [HT0.out]
      have S1 : Hid (MarkSt FcR w VS w1 B g n cap (C.set j ((⟨name, params, res, body, ret⟩ : Fc), v0))) := S0.out.below hbc
      clear hbc S0
      have c1_0 : w1.cell? ⟨g, j * 5, none⟩ = some (.string name) := by
        have := S1.out.cell j 0 (HLn.out _) (by decide)
        rw [HAt.out] at this
        exact this
      have fr1_0 : w1.frozen? ⟨g, j * 5, none⟩ = false := S1.out.free _
      have S2 : Hid (MarkSt FcR w VS (w1.setCell ⟨g, j * 5, none⟩ (.string T0)) B g n cap (C.set j ((⟨T0, params, res, body, ret⟩ : Fc), v0))) := by
        have := S1.out.field j 0 (HLn.out _) (by decide) ((⟨T0, params, res, body, ret⟩ : Fc), v0) (.string T0) (by rw [HAt.out]; rfl) (by rw [HAt.out]; rfl) (fun W B h => by rw [HAt.out] at h; exact h)
        rw [List.set_set] at this
        exact this
      have c2_1 : w1.cell? ⟨g, j * 5 + 1, none⟩ = some (v0) := by
        have := S1.out.cell j 1 (HLn.out _) (by decide)
        rw [HAt.out] at this
        exact this
      go_wp2_with fail
      clear c1_0 fr1_0 c2_1 S1
      have hsub : PmR.Phys (w1.setCell ⟨g, j * 5, none⟩ (.string T0)) B v0 params := by
        have := S2.out.phys.2 _ (List.getElem_mem (HLn.out _))
        rw [HAt.out] at this
        exact this
      go_at_call 101
      refine (markParamS_any B v0 (m + 1) params _ (by omega) (by omega) hsub (by rw [all_flatPm]; exact fp_nodup v0)).mono ?_
      rintro e' w2 ⟨rfl, hsub2, hk⟩
      obtain ⟨X1, HX1⟩ : ∃ X, Hid (markL mkPm lnPm (m + 1) params = X) := ⟨_, (rfl : markL mkPm lnPm (m + 1) params = _)⟩
      rw [HX1.out] at hsub2
      obtain ⟨m2, Hm2⟩ : ∃ x, Hid (m + 1 + markN lnPm params = x) := ⟨_, (rfl : m + 1 + markN lnPm params = _)⟩
      rw [Hm2.out]
      have hm2a : m2 + 3 ≤ 1000000000 := by rw [← Hm2.out]; omega
      have hm2b : 0 < m2 := by have := Hm2.out; omega
      have S3 : Hid (MarkSt FcR w VS w2 B g n cap (C.set j ((⟨T0, X1, res, body, ret⟩ : Fc), v0))) := by
        have := S2.out.inner j (HLn.out _) ((⟨T0, X1, res, body, ret⟩ : Fc), v0) (by rw [HAt.out]; rfl) (by rw [HAt.out]; rfl) (by rw [HAt.out]; exact (by rw [all_flatPm] at hk; exact hk)) hsub2
        rw [List.set_set] at this
        exact this
      clear hsub hsub2 hk S2
      have c3_2 : w2.cell? ⟨g, j * 5 + 2, none⟩ = some (.int .i64 res) := by
        have := S3.out.cell j 2 (HLn.out _) (by decide)
        rw [HAt.out] at this
        exact this
      have fr3_2 : w2.frozen? ⟨g, j * 5 + 2, none⟩ = false := S3.out.free _
      have S4 : Hid (MarkSt FcR w VS (w2.setCell ⟨g, j * 5 + 2, none⟩ (.int .i64 ((m2 : Nat) : Int))) B g n cap (C.set j ((⟨T0, X1, ((m2 : Nat) : Int), body, ret⟩ : Fc), v0))) := by
        have := S3.out.field j 2 (HLn.out _) (by decide) ((⟨T0, X1, ((m2 : Nat) : Int), body, ret⟩ : Fc), v0) (.int .i64 ((m2 : Nat) : Int)) (by rw [HAt.out]; rfl) (by rw [HAt.out]; rfl) (fun W B h => by rw [HAt.out] at h; exact h)
        rw [List.set_set] at this
        exact this
      have c4_3 : w2.cell? ⟨g, j * 5 + 3, none⟩ = some (.int .i64 body) := by
        have := S3.out.cell j 3 (HLn.out _) (by decide)
        rw [HAt.out] at this
        exact this
      have fr4_3 : w2.frozen? ⟨g, j * 5 + 3, none⟩ = false := S3.out.free _
      have S5 : Hid (MarkSt FcR w VS ((w2.setCell ⟨g, j * 5 + 2, none⟩ (.int .i64 ((m2 : Nat) : Int))).setCell ⟨g, j * 5 + 3, none⟩ (.int .i64 ((m2 + 1 : Nat) : Int))) B g n cap (C.set j ((⟨T0, X1, ((m2 : Nat) : Int), ((m2 + 1 : Nat) : Int), ret⟩ : Fc), v0))) := by
        have := S4.out.field j 3 (HLn.out _) (by decide) ((⟨T0, X1, ((m2 : Nat) : Int), ((m2 + 1 : Nat) : Int), ret⟩ : Fc), v0) (.int .i64 ((m2 + 1 : Nat) : Int)) (by rw [HAt.out]; rfl) (by rw [HAt.out]; rfl) (fun W B h => by rw [HAt.out] at h; exact h)
        rw [List.set_set] at this
        exact this
      clear S4
      have c5_4 : w2.cell? ⟨g, j * 5 + 4, none⟩ = some (.int .i64 ret) := by
        have := S3.out.cell j 4 (HLn.out _) (by decide)
        rw [HAt.out] at this
        exact this
      have fr5_4 : w2.frozen? ⟨g, j * 5 + 4, none⟩ = false := S3.out.free _
      have S6 : Hid (MarkSt FcR w VS (((w2.setCell ⟨g, j * 5 + 2, none⟩ (.int .i64 ((m2 : Nat) : Int))).setCell ⟨g, j * 5 + 3, none⟩ (.int .i64 ((m2 + 1 : Nat) : Int))).setCell ⟨g, j * 5 + 4, none⟩ (.int .i64 ((m2 + 2 : Nat) : Int))) B g n cap (C.set j ((⟨T0, X1, ((m2 : Nat) : Int), ((m2 + 1 : Nat) : Int), ((m2 + 2 : Nat) : Int)⟩ : Fc), v0))) := by
        have := S5.out.field j 4 (HLn.out _) (by decide) ((⟨T0, X1, ((m2 : Nat) : Int), ((m2 + 1 : Nat) : Int), ((m2 + 2 : Nat) : Int)⟩ : Fc), v0) (.int .i64 ((m2 + 2 : Nat) : Int)) (by rw [HAt.out]; rfl) (by rw [HAt.out]; rfl) (fun W B h => by rw [HAt.out] at h; exact h)
        rw [List.set_set] at this
        exact this
      clear S5
      have HF : Hid (MarkSt FcR w VS (((w2.setCell ⟨g, j * 5 + 2, none⟩ (.int .i64 ((m2 : Nat) : Int))).setCell ⟨g, j * 5 + 3, none⟩ (.int .i64 ((m2 + 1 : Nat) : Int))).setCell ⟨g, j * 5 + 4, none⟩ (.int .i64 ((m2 + 2 : Nat) : Int))) B g n cap (markTo mkFcP lnFcP k ps (j + 1))) := by
        have h1 := HST.out ((⟨T0, X1, ((m2 : Nat) : Int), ((m2 + 1 : Nat) : Int), ((m2 + 2 : Nat) : Int)⟩ : Fc), v0) (by
          simp only [mkFcP, mkFc]
          rw [← HT0.out, ← HX1.out]; try rw [← Hm2.out]
          try rw [lnI_len]
          try rfl)
        rw [← h1]
        exact S6.out
      have HE : Hid (m2 + 3 = k + markN lnFcP (ps.take (j + 1))) := by
        show _ = _
        rw [← HNX.out, ← Hm2.out]
        simp only [lnFcP, lnFc]
        try omega
      clear S6 S3
      go_wp2
      go_roundw
      case rel => exact ⟨j + 1, m2 + 3, by omega, by go_num, by go_num, HE, HF⟩
      case measure => simp [intOf]; omega
    · have hjn : Hid (j = n) := (by omega : j = n)
      have HE : Hid (m = k + markN lnFcP ps) := by show _ = _; rw [HM.out, List.take_of_length_le (by have := HN.out; have := hjn.out; omega)]
      have HF : Hid (MarkSt FcR w VS wr B g n cap (markL mkFcP lnFcP k ps)) := by
        have := H0.out
        rw [markTo_all mkFcP lnFcP k ps j (by have := HN.out; have := hjn.out; omega)] at this
        exact this
      go_wp2
      go_ret
      exact ⟨by rw [← HE.out]; rfl, HF.out.phys, HF.out.kept⟩
theorem markFnS_none (ao : Option Addr) (c : Nat) (k : Int) (w : World) :
    Calls Try.prog 75 #[.slice ao 0 c, .int .i64 k] w fun e w' => e = .returned (.int .i64 k) ∧ w' = w := by
  go_enter Try.func75, Try.ntmps75
  go_wp2
  refine wp_loop_rounds 1 ?_
  rw [rounds_succ]
  go_wp2
  go_ret
  exact ⟨rfl, rfl⟩
theorem markFnS_any (B : Nat) (v : Value) (k : Nat) (ps : List (Fc × Value)) (w : World) (hb : k + markN lnFcP ps ≤ 1000000000) (hk0 : 0 < k) (hown : FcR.Phys w B v ps) (hA : (fps (FcR.all v ps)).Nodup) :
    Calls Try.prog 75 #[v, .int .i64 (k : Int)] w fun e' w' => e' = .returned (.int .i64 ((k + markN lnFcP ps : Nat) : Int)) ∧ FcR.Phys w' B v (markL mkFcP lnFcP k ps) ∧ Kept (FcR.all v ps) w w' := by
  rcases OwnsR.form hown.1 with ⟨rfl, rfl⟩ | ⟨g, cap, rfl, _, _⟩
  · refine (markFnS_none none 0 k w).mono ?_
    rintro e' w' ⟨rfl, rfl⟩
    exact ⟨rfl, hown, Kept.refl _ _⟩
  · exact markFnS_some B g cap k _ ps w rfl hb hk0 hown hA

end Go.Proofs.Ytjafneaaefpefaa

namespace Go.Proofs.Ytjafneaaefpefaa
open Go.RowKit

/-- Only blocks B .. H may have turned; new ones may be there. -/
structure Rim (B H : Nat) (w w' : World) : Prop where
  os : w'.os = w.os
  tape : w'.tape = w.tape
  output : w'.output = w.output
  size : w.heap.size ≤ w'.heap.size
  block : ∀ g, g < w.heap.size → g < B ∨ H ≤ g → w'.heap[g]? = w.heap[g]?
theorem Rim.refl (B H : Nat) (w : World) : Rim B H w w := ⟨rfl, rfl, rfl, Nat.le_refl _, fun _ _ _ => rfl⟩
theorem Rim.trans {B H : Nat} {a b c : World} (h : Rim B H a b) (k : Rim B H b c) : Rim B H a c :=
  ⟨k.os.trans h.os, k.tape.trans h.tape, k.output.trans h.output, Nat.le_trans h.size k.size, fun g hg hn => (k.block g (Nat.lt_of_lt_of_le hg h.size) hn).trans (h.block g hg hn)⟩
theorem Rim.of_kept {vs : List Value} {B H : Nat} {w w' : World} (h : Kept vs w w') (hf : ∀ g ∈ fps vs, B ≤ g ∧ g < H) : Rim B H w w' :=
  ⟨h.os, h.tape, h.output, h.size, fun g hg hn => h.block g hg (fun hm => by have := hf g hm; omega)⟩
theorem Rim.of_below {B H : Nat} {w w' : World} (h : Below w.heap.size w w') : Rim B H w w' := ⟨h.os, h.tape, h.output, h.size, fun g hg _ => h.block g hg⟩
theorem Rim.below {B H : Nat} {w w' : World} (h : Rim B H w w') (hB : B ≤ w.heap.size) : Below B w w' := ⟨h.os, h.tape, h.output, h.size, fun g hg => h.block g (by omega) (.inl hg)⟩

theorem markN_sz {α : Type} (ln sz : α → Nat) (h : ∀ x, ln x ≤ 4 + 4 * sz x) : ∀ xs : List α, markN ln xs ≤ 4 * szRow sz xs := by
  intro xs
  induction xs with
  | nil => exact Nat.zero_le _
  | cons x xs ih =>
    have := h x
    unfold szRow at ih ⊢
    simp only [markN, List.length_cons, List.map_cons, List.sum_cons]
    omega
theorem lnNd_sz (ns : List Nd) : markN lnNd ns ≤ 4 * szRow szNd ns := markN_sz lnNd szNd (fun x => by unfold lnNd szNd; rw [lnI_len]; omega) ns
theorem lnPm_sz (ps : List Pm) : markN lnPm ps ≤ 4 * szRow szPm ps := markN_sz lnPm szPm (fun x => by unfold lnPm; omega) ps
theorem lnFc_sz (fs : List Fc) : markN lnFc fs ≤ 4 * szRow szFc fs := markN_sz lnFc szFc (fun x => by unfold lnFc szFc; have := lnPm_sz x.params; omega) fs
theorem lnNdP_map (ps : List (Nd × Value)) : markN lnNdP ps = markN lnNd (ps.map Prod.fst) := markN_map (ln' := lnNd) (log := Prod.fst) (fun _ => rfl) ps
theorem lnFcP_map (ps : List (Fc × Value)) : markN lnFcP ps = markN lnFc (ps.map Prod.fst) := markN_map (ln' := lnFc) (log := Prod.fst) (fun _ => rfl) ps

set_option maxRecDepth 100000 in
set_option maxHeartbeats 1600000 in
theorem markProgram_any (B H : Nat) (v0 v1 : Value) (p : Pg) (w : World) (hO : OwnPg w B H v0 v1 p) (hH : H ≤ w.heap.size) (hl : szPg p ≤ 1048576) :
    Calls Try.prog 34 #[.agg #[v0, v1], .int .i64 1] w fun e w' => (∃ r : Nat, e = .returned (.int .i64 (r : Int)) ∧ r ≤ 10000000 ∧ 0 < r) ∧ Rim B H w w' := by
  obtain ⟨M, hBM, hMH, hN, hF⟩ := hO
  obtain ⟨ps, hps, hpp, hpn, hpb⟩ := hN
  obtain ⟨fs, hfs, hfp, hfn, hfb⟩ := hF
  have hb1 : 1 + markN lnNdP ps + markN lnFcP fs ≤ 10000000 := by
    have h1 := lnNd_sz p.nodes
    have h2 := lnFc_sz p.fns
    have e1 : markN lnNdP ps = markN lnNd p.nodes := by rw [lnNdP_map, ← hps]; rfl
    have e2 : markN lnFcP fs = markN lnFc p.fns := by rw [lnFcP_map, ← hfs]; rfl
    rw [e1, e2]
    unfold szPg at hl
    omega
  have cN : Hid (∀ W, Below w.heap.size w W → Calls Try.prog 39 #[v0, .int .i64 ((1 : Nat) : Int)] W fun e' w' => e' = .returned (.int .i64 ((1 + markN lnNdP ps : Nat) : Int)) ∧ NdR.Phys w' B v0 (markL mkNdP lnNdP 1 ps) ∧ Kept (NdR.all v0 ps) W w') := fun W hW =>
    markNodeS_any B v0 1 ps W (by omega) (by omega) (hpp.below hW) hpn
  have cF : Hid (∀ W, FcR.Phys W M v1 fs → Calls Try.prog 75 #[v1, .int .i64 ((1 + markN lnNdP ps : Nat) : Int)] W fun e' w' => e' = .returned (.int .i64 ((1 + markN lnNdP ps + markN lnFcP fs : Nat) : Int)) ∧ FcR.Phys w' M v1 (markL mkFcP lnFcP (1 + markN lnNdP ps) fs) ∧ Kept (FcR.all v1 fs) W w') := fun W hW =>
    markFnS_any M v1 (1 + markN lnNdP ps) fs W (by omega) (by omega) hW hfn
  obtain ⟨k1, hk1⟩ : ∃ k, Hid (1 + markN lnNdP ps = k) := ⟨_, (rfl : 1 + markN lnNdP ps = _)⟩
  rw [hk1.out] at cN cF hb1
  obtain ⟨k2, hk2⟩ : ∃ k, Hid (k1 + markN lnFcP fs = k) := ⟨_, (rfl : k1 + markN lnFcP fs = _)⟩
  rw [hk2.out] at cF hb1
  have HP : Hid (FcR.Phys w M v1 fs ∧ (∀ g ∈ fps (NdR.all v0 ps), B ≤ g ∧ g < M) ∧ ∀ g ∈ fps (FcR.all v1 fs), M ≤ g ∧ g < H) := ⟨hfp, hpb, hfb⟩
  clear hpp hpn hpb hfp hfn hfb hps hfs
  go_enter Try.func34, Try.ntmps34
  go_wp2_with fail
  go_at_call 39
  refine Calls.mono (cN.out _ (by go_grown)) ?_
  rintro e w1 ⟨rfl, _, hk⟩
  have R1 : Hid (Rim B H w w1) := (Rim.of_below ((Below.refl _ _).alloc (Nat.le_refl _) _)).trans (Rim.of_kept hk (fun g hg => by have := HP.out.2.1 g hg; omega))
  have P1 : Hid (FcR.Phys w1 M v1 fs) := (HP.out.1.below ((Below.refl _ _).alloc (Nat.le_refl _) _)).kept hk (fun g hg hm => by have := HP.out.2.1 g hm; have := HP.out.2.2 g hg; omega)
  have q1 : w1.cell? ⟨w.heap.size, 1, none⟩ = some v1 := by
    have h0 := hk.block w.heap.size (by simp) (fun hm => by have := HP.out.2.1 _ hm; omega)
    exact cell_at (h0.trans (heap_alloc_new _ _)) 1
  clear hk cN
  go_wp2_with fail
  go_at_call 75
  refine Calls.mono (cF.out _ P1.out) ?_
  rintro e w2 ⟨rfl, _, hk⟩
  have R2 : Hid (Rim B H w w2) := R1.out.trans (Rim.of_kept hk (fun g hg => by have := HP.out.2.2 g hg; omega))
  clear hk cF q1
  go_wp2
  go_ret
  exact ⟨⟨_, rfl, hb1, by have := hk1.out; have := hk2.out; omega⟩, R2.out⟩

end Go.Proofs.Ytjafneaaefpefaa
