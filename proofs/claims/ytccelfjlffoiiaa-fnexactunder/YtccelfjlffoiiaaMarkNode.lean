/-
  Rows of Node marked, as the laws do it. Written by mkmark.py.
-/
import Derived.Test.YtccelfjlffoiiaaRowNode
import Derived.Test.YtccelfjlffoiiaaMarkInt
namespace Go.Proofs.Ytccelfjlffoiiaa
open Go.RowKit

def mkNd (k : Nat) (x : Nd) : Nd := ⟨((k : Nat) : Int), ((k + 1 : Nat) : Int), mkT (k + 2), markL mkI lnI (k + 3) x.kids⟩
def lnNd (x : Nd) : Nat := (0 + 3 + markN lnI x.kids)
def mkNdP (k : Nat) (p : Nd × Value) : Nd × Value := (mkNd k p.1, p.2)
def lnNdP (p : Nd × Value) : Nat := lnNd p.1

set_option maxRecDepth 100000 in
set_option maxHeartbeats 3200000 in
theorem markNodeS_some (B g cap k n : Nat) (ps : List (Nd × Value)) (w : World) (HN : Hid (n = ps.length)) (hb : k + markN lnNdP ps ≤ 1000000000) (hk0 : 0 < k) (hown : NdR.Phys w B (.slice (some ⟨g, 0, none⟩) n cap) ps) (hA : (fps (NdR.all (.slice (some ⟨g, 0, none⟩) n cap) ps)).Nodup) :
    Calls Try.prog 31 #[.slice (some ⟨g, 0, none⟩) n cap, .int .i64 (k : Int)] w fun e' w' => e' = .returned (.int .i64 ((k + markN lnNdP ps : Nat) : Int)) ∧ NdR.Phys w' B (.slice (some ⟨g, 0, none⟩) n cap) (markL mkNdP lnNdP k ps) ∧ Kept (NdR.all (.slice (some ⟨g, 0, none⟩) n cap) ps) w w' := by
  have hnl : n ≤ 1000000000 := by have h1 := len_markN lnNdP (fun p => by unfold lnNdP lnNd; omega) ps; have := HN.out; omega
  obtain ⟨VS, HVS⟩ : ∃ VS, Hid (NdR.all (.slice (some ⟨g, 0, none⟩) n cap) ps = VS) := ⟨_, (rfl : NdR.all (.slice (some ⟨g, 0, none⟩) n cap) ps = NdR.all (.slice (some ⟨g, 0, none⟩) n cap) ps)⟩
  have HO : Hid (MarkSt NdR w VS w B g n cap (markTo mkNdP lnNdP k ps 0)) := by
    rw [markTo_zero]
    exact ⟨hown, HVS.out, by rw [← HVS.out]; exact hA, HN.out, Kept.refl _ _⟩
  rw [HVS.out]
  clear hown hA
  go_enter Try.func31, Try.ntmps31
  go_wp2
  go_loopw [1, 5] (fun kk i wr => ∃ (j m : Nat), j ≤ n ∧ i = .int .i64 (j : Int) ∧ kk = .int .i64 (m : Int) ∧ Hid (m = k + markN lnNdP (ps.take j)) ∧ Hid (MarkSt NdR w VS wr B g n cap (markTo mkNdP lnNdP k ps j)))
    (fun _ i _ => n - (intOf i).toNat)
  case atStart => exact ⟨0, k, Nat.zero_le _, rfl, rfl, by show _ = _; simp [markN], HO⟩
  case round =>
    obtain ⟨j, m, hj, rfl, rfl, HM, H0⟩ := hrel
    clear HO
    by_cases hlt : j < n
    · have hj0 : (0 : Int) ≤ (j : Int) := by omega
      have hj1 : (j : Int) < (n : Int) := by omega
      have hjp : j < ps.length := by have := HN.out; omega
      have hm0 : 0 < m := by have := HM.out; omega
      obtain ⟨q, hq⟩ : ∃ q, Hid (ps[j] = q) := ⟨_, (rfl : ps[j] = ps[j])⟩
      have hmb : m + lnNdP q ≤ 1000000000 := by
        have h1 := markN_take lnNdP ps j hjp
        have h2 := markN_take_le lnNdP ps (j + 1)
        have := HM.out
        rw [hq.out] at h1
        omega
      have HNX : Hid (m + lnNdP q = k + markN lnNdP (ps.take (j + 1))) := by
        show _ = _
        rw [markN_take lnNdP ps j hjp, hq.out, HM.out, Nat.add_assoc]
      have HST : Hid (∀ y, y = mkNdP m q → (markTo mkNdP lnNdP k ps j).set j y = markTo mkNdP lnNdP k ps (j + 1)) := fun y hy => markTo_step mkNdP lnNdP k ps j hjp y (by rw [hy, hq.out, HM.out])
      have hCl : j < (markTo mkNdP lnNdP k ps j).length := by rw [markTo_len]; exact hjp
      have hC0 : (markTo mkNdP lnNdP k ps j).set j q = markTo mkNdP lnNdP k ps j := by
        have := markTo_at mkNdP lnNdP k ps j hjp
        rw [hq.out] at this
        rw [← this]
        exact List.set_getElem_self hCl
      obtain ⟨C, hC⟩ : ∃ C, Hid (markTo mkNdP lnNdP k ps j = C) := ⟨_, (rfl : markTo mkNdP lnNdP k ps j = markTo mkNdP lnNdP k ps j)⟩
      rw [hC.out] at H0 HST hCl hC0
      have hl : ∀ y, j < (C.set j y).length := fun y => by rw [List.length_set]; exact hCl
      have HLn : Hid (∀ y, j < (C.set j y).length) := hl
      have HAt : Hid (∀ y, (C.set j y)[j]'(HLn.out y) = y) := fun y => List.getElem_set_self _
      obtain ⟨⟨kind, num, name, kids⟩, v0⟩ := q
      have S0 : Hid (MarkSt NdR w VS wr B g n cap (C.set j ((⟨kind, num, name, kids⟩ : Nd), v0))) := by rw [hC0]; exact H0.out
      simp only [lnNdP, lnNd] at hmb
      clear H0 hC0 hl hCl
      have c0_0 : wr.cell? ⟨g, j * 4, none⟩ = some (.int .i64 kind) := by
        have := S0.out.cell j 0 (HLn.out _) (by decide)
        rw [HAt.out] at this
        exact this
      have fr0_0 : wr.frozen? ⟨g, j * 4, none⟩ = false := S0.out.free _
      have S1 : Hid (MarkSt NdR w VS (wr.setCell ⟨g, j * 4, none⟩ (.int .i64 ((m : Nat) : Int))) B g n cap (C.set j ((⟨((m : Nat) : Int), num, name, kids⟩ : Nd), v0))) := by
        have := S0.out.field j 0 (HLn.out _) (by decide) ((⟨((m : Nat) : Int), num, name, kids⟩ : Nd), v0) (.int .i64 ((m : Nat) : Int)) (by rw [HAt.out]; rfl) (by rw [HAt.out]; rfl) (fun W B h => by rw [HAt.out] at h; exact h)
        rw [List.set_set] at this
        exact this
      have c1_1 : wr.cell? ⟨g, j * 4 + 1, none⟩ = some (.int .i64 num) := by
        have := S0.out.cell j 1 (HLn.out _) (by decide)
        rw [HAt.out] at this
        exact this
      have fr1_1 : wr.frozen? ⟨g, j * 4 + 1, none⟩ = false := S0.out.free _
      have S2 : Hid (MarkSt NdR w VS ((wr.setCell ⟨g, j * 4, none⟩ (.int .i64 ((m : Nat) : Int))).setCell ⟨g, j * 4 + 1, none⟩ (.int .i64 ((m + 1 : Nat) : Int))) B g n cap (C.set j ((⟨((m : Nat) : Int), ((m + 1 : Nat) : Int), name, kids⟩ : Nd), v0))) := by
        have := S1.out.field j 1 (HLn.out _) (by decide) ((⟨((m : Nat) : Int), ((m + 1 : Nat) : Int), name, kids⟩ : Nd), v0) (.int .i64 ((m + 1 : Nat) : Int)) (by rw [HAt.out]; rfl) (by rw [HAt.out]; rfl) (fun W B h => by rw [HAt.out] at h; exact h)
        rw [List.set_set] at this
        exact this
      clear S1
      go_wp2_with fail
      clear c0_0 fr0_0 c1_1 fr1_1 S0
      go_at_call 60
      refine (markText_any (m + 2) _ (by omega) (by omega)).mono ?_
      rintro e' w1 ⟨rfl, hbc⟩
      obtain ⟨T0, HT0⟩ : ∃ T, Hid (mkT (m + 2) = T) := ⟨_, (rfl : mkT (m + 2) = mkT (m + 2))⟩
      rw [HT0.out]
      have S3 : Hid (MarkSt NdR w VS w1 B g n cap (C.set j ((⟨((m : Nat) : Int), ((m + 1 : Nat) : Int), name, kids⟩ : Nd), v0))) := S2.out.below hbc
      clear hbc S2
      have c3_2 : w1.cell? ⟨g, j * 4 + 2, none⟩ = some (.string name) := by
        have := S3.out.cell j 2 (HLn.out _) (by decide)
        rw [HAt.out] at this
        exact this
      have fr3_2 : w1.frozen? ⟨g, j * 4 + 2, none⟩ = false := S3.out.free _
      have S4 : Hid (MarkSt NdR w VS (w1.setCell ⟨g, j * 4 + 2, none⟩ (.string T0)) B g n cap (C.set j ((⟨((m : Nat) : Int), ((m + 1 : Nat) : Int), T0, kids⟩ : Nd), v0))) := by
        have := S3.out.field j 2 (HLn.out _) (by decide) ((⟨((m : Nat) : Int), ((m + 1 : Nat) : Int), T0, kids⟩ : Nd), v0) (.string T0) (by rw [HAt.out]; rfl) (by rw [HAt.out]; rfl) (fun W B h => by rw [HAt.out] at h; exact h)
        rw [List.set_set] at this
        exact this
      have c4_3 : w1.cell? ⟨g, j * 4 + 3, none⟩ = some (v0) := by
        have := S3.out.cell j 3 (HLn.out _) (by decide)
        rw [HAt.out] at this
        exact this
      go_wp2_with fail
      clear c3_2 fr3_2 c4_3 S3
      have hsub : OwnsI (w1.setCell ⟨g, j * 4 + 2, none⟩ (.string T0)) B v0 kids := by
        have := S4.out.phys.2 _ (List.getElem_mem (HLn.out _))
        rw [HAt.out] at this
        exact this
      go_at_call 27
      refine (markIntS_any B v0 (m + 3) kids _ (by first | omega | (rw [← lnI_len]; omega)) hsub).mono ?_
      rintro e' w2 ⟨rfl, hsub2, hk⟩
      obtain ⟨X3, HX3⟩ : ∃ X, Hid (markL mkI lnI (m + 3) kids = X) := ⟨_, (rfl : markL mkI lnI (m + 3) kids = _)⟩
      rw [HX3.out] at hsub2
      obtain ⟨m2, Hm2⟩ : ∃ x, Hid (m + 3 + kids.length = x) := ⟨_, (rfl : m + 3 + kids.length = _)⟩
      rw [Hm2.out]
      have hm2a : m2 + 0 ≤ 1000000000 := by rw [← Hm2.out]; first | omega | (rw [← lnI_len]; omega)
      have hm2b : 0 < m2 := by have := Hm2.out; omega
      have S5 : Hid (MarkSt NdR w VS w2 B g n cap (C.set j ((⟨((m : Nat) : Int), ((m + 1 : Nat) : Int), T0, X3⟩ : Nd), v0))) := by
        have := S4.out.inner j (HLn.out _) ((⟨((m : Nat) : Int), ((m + 1 : Nat) : Int), T0, X3⟩ : Nd), v0) (by rw [HAt.out]; rfl) (by rw [HAt.out]; rfl) (by rw [HAt.out]; exact hk) hsub2
        rw [List.set_set] at this
        exact this
      clear hsub hsub2 hk S4
      have HF : Hid (MarkSt NdR w VS w2 B g n cap (markTo mkNdP lnNdP k ps (j + 1))) := by
        have h1 := HST.out ((⟨((m : Nat) : Int), ((m + 1 : Nat) : Int), T0, X3⟩ : Nd), v0) (by
          simp only [mkNdP, mkNd]
          rw [← HT0.out, ← HX3.out]; try rw [← Hm2.out]
          try rw [lnI_len]
          try rfl)
        rw [← h1]
        exact S5.out
      have HE : Hid (m2 = k + markN lnNdP (ps.take (j + 1))) := by
        show _ = _
        rw [← HNX.out, ← Hm2.out]
        simp only [lnNdP, lnNd, lnI_len]
        try omega
      clear S5
      go_wp2
      go_roundw
      case rel => exact ⟨j + 1, m2, by omega, by go_num, by go_num, HE, HF⟩
      case measure => simp [intOf]; omega
    · have hjn : Hid (j = n) := (by omega : j = n)
      have HE : Hid (m = k + markN lnNdP ps) := by show _ = _; rw [HM.out, List.take_of_length_le (by have := HN.out; have := hjn.out; omega)]
      have HF : Hid (MarkSt NdR w VS wr B g n cap (markL mkNdP lnNdP k ps)) := by
        have := H0.out
        rw [markTo_all mkNdP lnNdP k ps j (by have := HN.out; have := hjn.out; omega)] at this
        exact this
      go_wp2
      go_ret
      exact ⟨by rw [← HE.out]; rfl, HF.out.phys, HF.out.kept⟩
theorem markNodeS_none (ao : Option Addr) (c : Nat) (k : Int) (w : World) :
    Calls Try.prog 31 #[.slice ao 0 c, .int .i64 k] w fun e w' => e = .returned (.int .i64 k) ∧ w' = w := by
  go_enter Try.func31, Try.ntmps31
  go_wp2
  refine wp_loop_rounds 1 ?_
  rw [rounds_succ]
  go_wp2
  go_ret
  exact ⟨rfl, rfl⟩
theorem markNodeS_any (B : Nat) (v : Value) (k : Nat) (ps : List (Nd × Value)) (w : World) (hb : k + markN lnNdP ps ≤ 1000000000) (hk0 : 0 < k) (hown : NdR.Phys w B v ps) (hA : (fps (NdR.all v ps)).Nodup) :
    Calls Try.prog 31 #[v, .int .i64 (k : Int)] w fun e' w' => e' = .returned (.int .i64 ((k + markN lnNdP ps : Nat) : Int)) ∧ NdR.Phys w' B v (markL mkNdP lnNdP k ps) ∧ Kept (NdR.all v ps) w w' := by
  rcases OwnsR.form hown.1 with ⟨rfl, rfl⟩ | ⟨g, cap, rfl, _, _⟩
  · refine (markNodeS_none none 0 k w).mono ?_
    rintro e' w' ⟨rfl, rfl⟩
    exact ⟨rfl, hown, Kept.refl _ _⟩
  · exact markNodeS_some B g cap k _ ps w rfl hb hk0 hown hA

end Go.Proofs.Ytccelfjlffoiiaa
