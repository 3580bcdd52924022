/-
  ShowProgram, in the program: a statement that has a depth is written as the model says it.
-/
import Derived.Test.YtbanmldmdoedkaaGreatDoorShPW
namespace Go.Proofs.YtbanmldmdoedkaaGreatDoor
open Go.RowKit

/-- Blocks, with a line between. -/
def sepTo (E : List UInt8) (g : Nat → List UInt8) : Nat → List UInt8
  | 0 => []
  | n + 1 => sepTo E g n ++ (if n = 0 then [] else E) ++ g n
theorem sepTo_mono (E : List UInt8) (g : Nat → List UInt8) (t K : Nat) (h : t ≤ K) : (sepTo E g t).length ≤ (sepTo E g K).length := by
  induction K with
  | zero =>
    have : t = 0 := by omega
    subst this
    omega
  | succ K ih =>
    rcases Nat.lt_or_ge t (K + 1) with h1 | h1
    · have := ih (by omega)
      simp only [sepTo, List.length_append]
      omega
    · have : t = K + 1 := by omega
      subst this
      omega
theorem inL_blk2 (i : Nat) : inL (i : Int) = blk2 (min i 20) := by unfold inL blk2; rw [Int.toNat_natCast]

set_option maxRecDepth 100000 in
set_option maxHeartbeats 6400000 in
theorem lwStep_any (va : Option Addr) (N nc m b : Nat) (ns : List Nd) (w0 : World) (nv : Value) (HNV : Hid (nv = .slice va N nc)) (HN : Hid (ns.length = N)) (hN9 : N < 1000000000) (hm : m < N) (HD : Hid (deepOf ns (m : Int) ≠ 0)) (HR : Hid (NdR.Row w0 w0.heap.size (.slice va N nc) ns)) (HT : Hid (Tab10 w0)) :
    ∀ k : Nat, k ≤ m → isStm (ns.getD k nd0).kind = true → ∀ i : Nat, i ≤ 21 → Writes Tryz.prog 154 #[.pointer (some ⟨b, 0, none⟩), .int .i64 (k : Int), .int .i64 (i : Int)] w0 b nv (stepL ns (k : Int) (i : Int)) := by
  intro k
  induction k using Nat.strongRecOn with
  | _ k ih =>
  intro hk hs i hi l w hB0 hlw hlen
  have hml : m < ns.length := by rw [HN.out]; exact hm
  have hkl : k < ns.length := by rw [HN.out]; omega
  have HSK := stmKids (deep_nodes hml HD.out k hk) hs
  have HB : Hid (stepL ns (k : Int) (i : Int) = stepBody ns (stepL ns) (ns.getD k nd0) (i : Int)) := stepL_body hml HD.out hk hs _
  obtain ⟨vn, hvn, hvk, hvv, _⟩ := step_val hml HD.out hk hs
  obtain ⟨q, hq⟩ : ∃ q, Hid (min i 20 = q) := ⟨_, (rfl : min i 20 = min i 20)⟩
  have hq20 : q ≤ 20 := by rw [← hq.out]; omega
  have hqi : q = i ∨ (q = 20 ∧ 20 ≤ i) := by rw [← hq.out]; omega
  have HBlk : Hid (∀ t, t + 1 < (ns.getD k nd0).kids.length → Writes Tryz.prog 106 #[.pointer (some ⟨b, 0, none⟩), .int .i64 ((ns.getD k nd0).kids.getD (t + 1) 0), .int .i64 ((q : Int) + 1)] w0 b nv (blkL ns (stepL ns) ((ns.getD k nd0).kids.getD (t + 1) 0) (inNext (i : Int)))) := fun t hj => by
    obtain ⟨c, hce, hck, _, h12, hbe2⟩ := two_below hml HD.out hk (show 0 < t + 1 by omega) hs hj
    have h1 := lwSteps_of va N nc b c (q + 1) ns w0 nv HNV HN (by omega) HR h12 (fun e he => by
      obtain ⟨n, rfl, hn, hsn, _⟩ := hbe2 e he
      exact ih n (by omega) (by omega) hsn (q + 1) (by omega))
    have h2 : blkL ns (stepL ns) (c : Int) (inNext (i : Int)) = blkL ns (stepL ns) (c : Int) ((q + 1 : Nat) : Int) := by
      rw [show inNext (i : Int) = (i : Int) + 1 by unfold inNext; rw [if_neg (by omega)]]
      exact blkL_clamp hml HD.out (by rw [HN.out]; exact hN9) (by omega) (by omega) (by omega) (by omega) (by omega) (by omega)
    rw [hce, h2]
    have h3 : ((q + 1 : Nat) : Int) = (q : Int) + 1 := by omega
    rw [h3] at h1 ⊢
    exact h1
  clear ih
  have hk0 : (0 : Int) ≤ (k : Int) := by omega
  have hk1 : (k : Int) < (N : Int) := by omega
  have hz : w0.heap.size ≤ w.heap.size := hB0.size
  obtain ⟨nb, off, ka, kc, rfl, hb, e0, e1, e2, e3, hK⟩ := RowNd.at HR.out k hkl
  obtain ⟨x, hx⟩ : ∃ x, Hid (ns[k] = x) := ⟨_, (rfl : ns[k] = ns[k])⟩
  have HX : Hid (ns.getD k nd0 = x) := by show _ = _; rw [← hx.out]; simp [List.getD, hkl]
  rw [hx.out] at e0 e1 e2 e3 hK
  rw [HX.out] at HSK HB HBlk hvn
  obtain ⟨kd, nm, tx, ks⟩ := x
  simp only at e0 e1 e2 e3 hK HBlk hvn
  obtain ⟨hst, hsome, htwo, hthree, hone, _, _, hname⟩ := HSK
  simp only at hst hsome htwo hthree hone hname
  obtain ⟨K, HK⟩ : ∃ K, Hid (ks.length = K) := ⟨_, (rfl : ks.length = ks.length)⟩
  rw [HK.out] at e3 hK hsome htwo hthree hone
  have HI : Hid (RowI w0 w0.heap.size (.slice ka K kc) ks) := hK
  have h0l : 0 < ks.length := by rw [HK.out]; exact hsome
  have hK0 : (0 : Int) < (K : Int) := by omega
  obtain ⟨kb, ko, rfl, hkb, t0⟩ := HI.out.at 0 h0l
  have HK00 : Hid (ks[0] = (vn : Int)) := (getD_at h0l).symm.trans hvn
  rw [HK00.out, Nat.add_zero] at t0
  have HT0 : Hid (w0.cell? ⟨kb, ko, none⟩ = some (.int .i64 (vn : Int)) ∧ kb < w0.heap.size) := ⟨t0, hkb⟩
  have f0 := (hB0.cell (p := ⟨nb, off + k * 4, none⟩) hb).trans e0
  have f1 := (hB0.cell (p := ⟨nb, off + k * 4 + 1, none⟩) hb).trans e1
  have f2 := (hB0.cell (p := ⟨nb, off + k * 4 + 2, none⟩) hb).trans e2
  have f3 := (hB0.cell (p := ⟨nb, off + k * 4 + 3, none⟩) hb).trans e3
  have n0 := hlw.nodes
  rw [HNV.out] at n0
  have cV : Hid (Writes Tryz.prog 57 #[.pointer (some ⟨b, 0, none⟩), .int .i64 (vn : Int)] w0 b nv (valL ns (vn : Int))) := lwValue_any _ N nc m b ns w0 nv HNV HN hm HD HR HT vn (by omega) hvv
  have cB : Hid (Writes Tryz.prog 107 #[.pointer (some ⟨b, 0, none⟩), .int .i64 (q : Int)] w0 b nv (blk2 q)) := lwBegin_of nv b q w0 (by omega)
  have cA : Hid (Writes Tryz.prog 180 #[.pointer (some ⟨b, 0, none⟩), .agg #[.int .i64 kd, .int .i64 nm, .string tx, .slice (some ⟨kb, ko, none⟩) K kc]] w0 b nv (catL (aheadT kd tx))) := lwAhead_of nv b K kc _ w0 kd nm tx hst
  obtain ⟨R, HRR⟩ : ∃ R, Hid (stepL ns (k : Int) (i : Int) = R) := ⟨_, (rfl : stepL ns (k : Int) (i : Int) = stepL ns (k : Int) (i : Int))⟩
  rw [HRR.out] at HB hlen ⊢
  have HZ : Hid (l.length + R.length ≤ 100000000000000) := hlen
  have HA : Hid (Laid w0 w b nv l #[.int .i64 kd, .int .i64 nm, .string tx, .slice (some ⟨kb, ko, none⟩) K kc] 87 (w.alloc (.cells #[.int .i64 kd, .int .i64 nm, .string tx, .slice (some ⟨kb, ko, none⟩) K kc] 87))) := Laid.make hB0 hlw _ _
  have HI0 : Hid (inL (i : Int) = blk2 q) := by show _ = _; rw [inL_blk2, hq.out]
  obtain ⟨V, hV⟩ : ∃ V, Hid (valL ns (vn : Int) = V) := ⟨_, (rfl : valL ns (vn : Int) = valL ns (vn : Int))⟩
  obtain ⟨A, hA⟩ : ∃ V, Hid (catL (aheadT kd tx) = V) := ⟨_, (rfl : catL (aheadT kd tx) = catL (aheadT kd tx))⟩
  rw [hV.out] at cV
  rw [hA.out] at cA
  clear e0 e1 e2 e3 hK hlen hlw hB0 hx HRR t0
  have hmin : min (i : Int) 20 = (q : Int) := by rw [← hq.out]; omega
  have hkc : K ≤ kc := by have := HI.out.cap; rw [HK.out] at this; exact this.2
  obtain ⟨g, hg⟩ : ∃ g : Nat → List UInt8, Hid ((fun t => blkL ns (stepL ns) (ks.getD (t + 1) 0) (inNext (i : Int))) = g) := ⟨_, (rfl : (fun t => blkL ns (stepL ns) (ks.getD (t + 1) 0) (inNext (i : Int))) = _)⟩
  have HG : Hid (∀ t, t + 1 < K → Writes Tryz.prog 106 #[.pointer (some ⟨b, 0, none⟩), .int .i64 (ks.getD (t + 1) 0), .int .i64 ((q : Int) + 1)] w0 b nv (g t)) := fun t ht => by
    rw [← hg.out]
    exact HBlk.out t (by rw [HK.out]; exact ht)
  obtain ⟨E, hE⟩ : ∃ E, Hid (blk2 q ++ catL [⟨#[125, 32, 101, 108, 115, 101, 32, 123]⟩, ⟨#[10]⟩] = E) := ⟨_, (rfl : blk2 q ++ catL [⟨#[125, 32, 101, 108, 115, 101, 32, 123]⟩, ⟨#[10]⟩] = _)⟩
  obtain ⟨Z, hZ⟩ : ∃ E, Hid (blk2 q ++ catL [⟨#[125]⟩, ⟨#[10]⟩] = E) := ⟨_, (rfl : blk2 q ++ catL [⟨#[125]⟩, ⟨#[10]⟩] = _)⟩
  have cE : Hid (Writes Tryz.prog 108 #[.pointer (some ⟨b, 0, none⟩), .int .i64 (q : Int), .string ⟨#[125, 32, 101, 108, 115, 101, 32, 123]⟩] w0 b nv E) := by rw [← hE.out]; exact lwLine_of nv b q w0 (by omega) _
  have cZ : Hid (Writes Tryz.prog 108 #[.pointer (some ⟨b, 0, none⟩), .int .i64 (q : Int), .string ⟨#[125]⟩] w0 b nv Z) := by rw [← hZ.out]; exact lwLine_of nv b q w0 (by omega) _
  have HRX : Hid (∃ X : List UInt8, R = blk2 q ++ A ++ V ++ X ∧ (K = 1 → X = [59, 10]) ∧ (1 < K → X = [32, 123, 10] ++ sepTo E g (K - 1) ++ Z)) := by
    show ∃ X : List UInt8, _
    rw [HB.out, ← hA.out, ← hV.out, ← hE.out, ← hZ.out, ← hg.out]
    have hcase : kd = 16 ∨ kd = 17 ∨ (kd ≠ 16 ∧ kd ≠ 17) := by omega
    rcases hcase with rfl | rfl | ⟨h16, h17⟩
    · have hK3 := hthree rfl
      subst hK3
      refine ⟨[32, 123, 10] ++ sepTo (blk2 q ++ catL [⟨#[125, 32, 101, 108, 115, 101, 32, 123]⟩, ⟨#[10]⟩]) (fun t => blkL ns (stepL ns) (ks.getD (t + 1) 0) (inNext (i : Int))) 2 ++ (blk2 q ++ catL [⟨#[125]⟩, ⟨#[10]⟩]), ?_, fun h => by omega, fun _ => rfl⟩
      show stepBody ns (stepL ns) ⟨16, nm, tx, ks⟩ (i : Int) = _
      unfold stepBody
      simp only [HI0.out, hvn, aheadT, catL, sepTo]
      simp [catL]
    · have hK2 := htwo rfl
      subst hK2
      refine ⟨[32, 123, 10] ++ sepTo (blk2 q ++ catL [⟨#[125, 32, 101, 108, 115, 101, 32, 123]⟩, ⟨#[10]⟩]) (fun t => blkL ns (stepL ns) (ks.getD (t + 1) 0) (inNext (i : Int))) 1 ++ (blk2 q ++ catL [⟨#[125]⟩, ⟨#[10]⟩]), ?_, fun h => by omega, fun _ => rfl⟩
      show stepBody ns (stepL ns) ⟨17, nm, tx, ks⟩ (i : Int) = _
      unfold stepBody
      simp only [HI0.out, hvn, aheadT, catL, sepTo]
      simp [catL]
    · have hK1 := hone h16 h17
      subst hK1
      refine ⟨[59, 10], ?_, fun _ => rfl, fun h => by omega⟩
      have hc : kd = 13 ∨ kd = 14 ∨ kd = 15 ∨ kd = 18 ∨ kd = 19 := by omega
      rcases hc with rfl | rfl | rfl | rfl | rfl
      all_goals
        unfold stepBody
        simp only [HI0.out, hvn, aheadT]
        simp [catL]
  obtain ⟨X, hX, hX1, hX2⟩ := HRX.out
  have HXR : Hid (R = blk2 q ++ A ++ V ++ X ∧ (K = 1 → X = [59, 10]) ∧ (1 < K → X = [32, 123, 10] ++ sepTo E g (K - 1) ++ Z)) := ⟨hX, hX1, hX2⟩
  have HX2 : Hid (l.length + (blk2 q).length ≤ 100000000000000 ∧ (l ++ blk2 q).length + A.length ≤ 100000000000000 ∧ (l ++ blk2 q ++ A).length + V.length ≤ 100000000000000 ∧ (l ++ blk2 q ++ A ++ V).length + X.length ≤ 100000000000000) := by
    have := HZ.out
    rw [hX] at this
    simp only [List.length_append] at this
    show _ ∧ _
    simp only [List.length_append]
    omega
  clear hX hX1 hX2 HRX hvn
  go_enter Tryz.func154, Tryz.ntmps154
  go_wp2_with fail
  clear hmin
  go_at_call 107
  refine Calls.mono (HA.out.stand.call HA.out.base cB.out HX2.out.1) ?_
  rintro e w1 ⟨rfl, s1⟩
  have S1 : Hid (Stand w0 (w.alloc (.cells #[.int .i64 kd, .int .i64 nm, .string tx, .slice (some ⟨kb, ko, none⟩) K kc] 87)) b nv (l ++ blk2 q) w1) := s1
  have y0 : w1.cell? ⟨w.heap.size, 0, none⟩ = some (.int .i64 kd) := s1.cell HA.out.cell (by decide) (by decide) 0
  have y1 : w1.cell? ⟨w.heap.size, 1, none⟩ = some (.int .i64 nm) := s1.cell HA.out.cell (by decide) (by decide) 1
  have y2 : w1.cell? ⟨w.heap.size, 2, none⟩ = some (.string tx) := s1.cell HA.out.cell (by decide) (by decide) 2
  have y3 : w1.cell? ⟨w.heap.size, 3, none⟩ = some (.slice (some ⟨kb, ko, none⟩) K kc) := s1.cell HA.out.cell (by decide) (by decide) 3
  clear s1
  go_wp2_with fail
  go_at_call 180
  refine Calls.mono (S1.out.call HA.out.base cA.out HX2.out.2.1) ?_
  rintro e w2 ⟨rfl, s2⟩
  have S2 : Hid (Stand w0 (w.alloc (.cells #[.int .i64 kd, .int .i64 nm, .string tx, .slice (some ⟨kb, ko, none⟩) K kc] 87)) b nv (l ++ blk2 q ++ A) w2) := s2
  have x3 : w2.cell? ⟨w.heap.size, 3, none⟩ = some (.slice (some ⟨kb, ko, none⟩) K kc) := s2.cell HA.out.cell (by decide) (by decide) 3
  have x4 := ((HA.out.base.trans s2.2.1).cell (p := ⟨kb, ko, none⟩) HT0.out.2).trans HT0.out.1
  clear s2 y0 y1 y2 y3
  go_wp2_with fail
  go_at_call 57
  refine Calls.mono (S2.out.call HA.out.base cV.out HX2.out.2.2.1) ?_
  rintro e w3 ⟨rfl, s3⟩
  have S3 : Hid (Stand w0 (w.alloc (.cells #[.int .i64 kd, .int .i64 nm, .string tx, .slice (some ⟨kb, ko, none⟩) K kc] 87)) b nv (l ++ blk2 q ++ A ++ V) w3) := s3
  have z3 : w3.cell? ⟨w.heap.size, 3, none⟩ = some (.slice (some ⟨kb, ko, none⟩) K kc) := s3.cell HA.out.cell (by decide) (by decide) 3
  clear s3 x3 x4
  by_cases hK1 : K = 1
  · have HX1 : Hid (X = [59, 10]) := HXR.out.2.1 hK1
    rw [HX1.out] at HX2 HXR
    have HF : Hid (l ++ blk2 q ++ A ++ V ++ [59, 10] = l ++ R) := by show _ = _; rw [HXR.out.1]; simp only [List.append_assoc]
    subst hK1
    go_wp2_with fail
    all_goals
      go_at_call 99
      refine Calls.mono (S3.out.texts HA.out.size [⟨#[59, 10]⟩] 1 rfl (by omega) HX2.out.2.2.2 rfl) ?_
      rintro e w4 ⟨rfl, s4⟩
      have S4 : Hid (Wrote w0.heap.size b nv (l ++ R) w (.returned (.tuple #[])) w4) := by rw [← HF.out]; exact s4.wrote hz HA.out.up
      clear s4
      go_wp2
      go_returns
      exact S4.out
  · obtain ⟨M, rfl⟩ : ∃ M, K = M + 2 := ⟨K - 2, by omega⟩
    have HX1 : Hid (X = [32, 123, 10] ++ sepTo E g (M + 1) ++ Z) := HXR.out.2.2 (by omega)
    rw [HX1.out] at HX2
    have hkc1 : ¬ kc = 1 := by omega
    have HY : Hid ((l ++ blk2 q ++ A ++ V).length + ([32, 123, 10] : List UInt8).length ≤ 100000000000000 ∧ (l ++ blk2 q ++ A ++ V ++ [32, 123, 10]).length + (sepTo E g (M + 1)).length + Z.length ≤ 100000000000000) := by
      have := HX2.out.2.2.2
      simp only [List.length_append] at this
      show _ ∧ _
      simp only [List.length_append]
      omega
    have HF : Hid (l ++ blk2 q ++ A ++ V ++ [32, 123, 10] ++ sepTo E g (M + 1) ++ Z = l ++ R) := by show _ = _; rw [HXR.out.1, HX1.out]; simp only [List.append_assoc]
    obtain ⟨l1, hl1⟩ : ∃ l1, Hid (l ++ blk2 q ++ A ++ V ++ [32, 123, 10] = l1) := ⟨_, (rfl : l ++ blk2 q ++ A ++ V ++ [32, 123, 10] = _)⟩
    rw [hl1.out] at HY HF
    go_wp2_with fail
    go_at_call 99
    refine Calls.mono (S3.out.texts HA.out.size [⟨#[32, 123, 10]⟩] 1 rfl (by omega) HY.out.1 rfl) ?_
    rintro e w4 ⟨rfl, s4⟩
    have S4 : Hid (Stand w0 (w.alloc (.cells #[.int .i64 kd, .int .i64 nm, .string tx, .slice (some ⟨kb, ko, none⟩) (M + 2) kc] 87)) b nv (l1 ++ sepTo E g 0) w4) := by
      show Stand _ _ _ _ _ _
      simp only [sepTo, List.append_nil]
      rw [← hl1.out]
      exact s4
    clear s4
    go_wp2
    generalize w.alloc (.cells #[.int .i64 kd, .int .i64 nm, .string tx, .slice (some ⟨kb, ko, none⟩) (M + 2) kc] 87) = a at HA S1 S2 S3 S4
    clear z3 S1 S2 S3 cB cA cV
    go_loopw [46] (fun j wr => ∃ t : Nat, t ≤ M + 1 ∧ j = .int .i64 (t : Int) ∧ Hid (Stand w0 a b nv (l1 ++ sepTo E g t) wr)) (fun j _ => M + 1 - (intOf j).toNat)
    case atStart => exact ⟨0, Nat.zero_le _, rfl, S4⟩
    case round =>
      obtain ⟨t, ht, rfl, HS⟩ := hrel
      by_cases hlt : t < M + 1
      · have ht0 : (0 : Int) ≤ (t : Int) := by omega
        have ht1 : (t : Int) < (M : Int) + 1 := by omega
        have ht2 : t < M + 1 := hlt
        have htl : t + 1 < ks.length := by rw [HK.out]; omega
        obtain ⟨kb', ko', heq, hkb', t0⟩ := HI.out.at (t + 1) htl
        obtain ⟨rfl, rfl⟩ : kb = kb' ∧ ko = ko' := by
          simp only [Option.some.injEq, Addr.mk.injEq] at heq
          exact ⟨heq.1, heq.2.1⟩
        obtain ⟨c, hc⟩ : ∃ c, Hid (ks.getD (t + 1) 0 = c) := ⟨_, (rfl : ks.getD (t + 1) 0 = _)⟩
        have f9 : wr.cell? ⟨kb, ko + 1 + t, none⟩ = some (.int .i64 c) := by
          rw [← hc.out, getD_at htl, show ko + 1 + t = ko + (t + 1) by omega]
          exact ((HA.out.base.trans HS.out.2.1).cell (p := ⟨kb, ko + (t + 1), none⟩) hkb').trans t0
        have cG : Hid (Writes Tryz.prog 106 #[.pointer (some ⟨b, 0, none⟩), .int .i64 c, .int .i64 ((q : Int) + 1)] w0 b nv (g t)) := by rw [← hc.out]; exact HG.out t (by omega)
        clear t0 heq
        by_cases htz : t = 0
        · subst htz
          have HE2 : Hid (l1 ++ sepTo E g (0 + 1) = l1 ++ sepTo E g 0 ++ g 0) := by
            show _ = _
            simp only [sepTo, if_true, List.append_nil, List.nil_append]
          have HZ2 : Hid ((l1 ++ sepTo E g 0).length + (g 0).length ≤ 100000000000000) := by
            show _ ≤ _
            have h1 := congrArg List.length HE2.out
            have h2 := sepTo_mono E g (0 + 1) (M + 1) (by omega)
            have h3 := HY.out.2
            simp only [List.length_append] at h1 h3 ⊢
            omega
          rw [Nat.add_zero] at f9
          have ht3 : (0 : Int) < (M : Int) + 1 := by omega
          go_wp2_with fail
          go_at_call 106
          refine Calls.mono (HS.out.call HA.out.base cG.out HZ2.out) ?_
          rintro e w5 ⟨rfl, s5⟩
          have S5 : Hid (Stand w0 a b nv (l1 ++ sepTo E g (0 + 1)) w5) := by rw [HE2.out]; exact s5
          clear s5
          go_wp2
          go_roundw
          case rel => exact ⟨0 + 1, by omega, by go_num, S5⟩
          case measure => simp [intOf]
        · have htp : (0 : Int) < (t : Int) := by omega
          have HE2 : Hid (l1 ++ sepTo E g (t + 1) = l1 ++ sepTo E g t ++ E ++ g t) := by
            show _ = _
            simp only [sepTo, if_neg htz, List.append_assoc]
          have HZ2 : Hid ((l1 ++ sepTo E g t).length + E.length ≤ 100000000000000 ∧ (l1 ++ sepTo E g t ++ E).length + (g t).length ≤ 100000000000000) := by
            show _ ∧ _
            have h1 := congrArg List.length HE2.out
            have h2 := sepTo_mono E g (t + 1) (M + 1) (by omega)
            have h3 := HY.out.2
            simp only [List.length_append] at h1 h3 ⊢
            omega
          go_wp2_with fail
          go_at_call 108
          refine Calls.mono (HS.out.call HA.out.base cE.out HZ2.out.1) ?_
          rintro e w5 ⟨rfl, s5⟩
          have S5 : Hid (Stand w0 a b nv (l1 ++ sepTo E g t ++ E) w5) := s5
          clear s5
          go_wp2_with fail
          go_at_call 106
          refine Calls.mono (S5.out.call HA.out.base cG.out HZ2.out.2) ?_
          rintro e w6 ⟨rfl, s6⟩
          have S6 : Hid (Stand w0 a b nv (l1 ++ sepTo E g (t + 1)) w6) := by rw [HE2.out]; exact s6
          clear s6
          go_wp2
          go_roundw
          case rel => exact ⟨t + 1, by omega, by go_num, S6⟩
          case measure => simp [intOf]; omega
      · have htM : t = M + 1 := by omega
        subst htM
        have hnl : ¬ ((M : Int) + 1 < (M : Int) + 1) := by omega
        have HZ3 : Hid ((l1 ++ sepTo E g (M + 1)).length + Z.length ≤ 100000000000000) := by
          have h3 := HY.out.2
          show _ ≤ _
          simp only [List.length_append] at h3 ⊢
          omega
        go_wp2_with fail
        go_at_call 108
        refine Calls.mono (HS.out.call HA.out.base cZ.out HZ3.out) ?_
        rintro e w5 ⟨rfl, s5⟩
        have S5 : Hid (Wrote w0.heap.size b nv (l ++ R) w (.returned (.tuple #[])) w5) := by rw [← HF.out]; exact s5.wrote hz HA.out.up
        clear s5
        go_wp2
        go_returns
        exact S5.out

end Go.Proofs.YtbanmldmdoedkaaGreatDoor
