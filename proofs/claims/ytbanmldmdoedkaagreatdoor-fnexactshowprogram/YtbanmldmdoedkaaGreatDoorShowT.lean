/-
  ShowStep, in the model: statements in words.
-/
import Derived.Test.YtbanmldmdoedkaaGreatDoorShowV
import Derived.Test.YtbanmldmdoedkaaGreatDoorPa
namespace Go.Proofs.YtbanmldmdoedkaaGreatDoor
open Go.RowKit

set_option maxHeartbeats 800000 in
theorem l06In_any (n : Int) (w : World) : Calls Tryz.prog 112 #[.int .i64 n] w fun e w' => e = .returned (.string (txt (inL n))) ∧ w' = w := by
  go_enter Tryz.func112, Tryz.ntmps112
  go_wp2
  go_loop [3, 4] (fun s i => ∃ (t : Nat) (S : ByteArray), t ≤ 20 ∧ (t = 0 ∨ (t : Int) ≤ n) ∧ i = .int .i64 (t : Int) ∧ s = .string S ∧ Hid (S = txt (List.replicate (2 * t) 32))) (fun _ i => 20 - (intOf i).toNat)
  case atStart => exact ⟨0, _, by omega, .inl rfl, rfl, rfl, rfl⟩
  case round =>
    obtain ⟨t, S, ht, htn, rfl, rfl, HS⟩ := hrel
    have hSs : S.size ≤ 40 := by rw [HS.out, txt_size, List.length_replicate]; omega
    by_cases hlt : (t : Int) < n
    · by_cases h20 : (t : Int) < 20
      · have HN : Hid (S ++ ⟨#[32, 32]⟩ = txt (List.replicate (2 * (t + 1)) 32)) := by
          show _ = _
          rw [HS.out, show 2 * (t + 1) = 2 * t + 2 by omega, ← List.replicate_append_replicate, ← txt_append]
          rfl
        go_wp2
        go_round
        case rel => exact ⟨t + 1, _, by omega, .inr (by omega), by go_num, rfl, HN⟩
        case measure => simp [intOf]; omega
      · have HF : Hid (txt (inL n) = S) := by
          show _ = _
          rw [HS.out]
          unfold inL
          rw [show min n.toNat 20 = t by omega]
        go_wp2
        go_ret
        exact ⟨by rw [HF.out]; rfl, rfl⟩
    · have HF : Hid (txt (inL n) = S) := by
        show _ = _
        rw [HS.out]
        unfold inL
        rw [show min n.toNat 20 = t by omega]
      go_wp2
      go_ret
      exact ⟨by rw [HF.out]; rfl, rfl⟩

set_option maxRecDepth 100000 in
set_option maxHeartbeats 1600000 in
theorem l06Block_of (va : Option Addr) (N nc B c : Nat) (i : Int) (ns : List Nd) (HN : Hid (ns.length = N)) (hc : c < N) (w : World) (hB : B ≤ w.heap.size) (hR : NdR.Row w B (.slice va N nc) ns) (hk12 : (ns.getD c nd0).kids.length ≤ 12) (hl : Hid (∀ e ∈ (ns.getD c nd0).kids, (stepL ns e i).length ≤ 1000000000000000))
    (cS : Hid (∀ e ∈ (ns.getD c nd0).kids, ∀ W, Below w.heap.size w W → Calls Tryz.prog 67 #[.slice va N nc, .int .i64 e, .int .i64 i] W (Tells (stepL ns e i) W))) (L : List UInt8) (HL : Hid (blkL ns (stepL ns) (c : Int) i = L)) :
    Calls Tryz.prog 29 #[.slice va N nc, .int .i64 (c : Int), .int .i64 i] w (Tells L w) := by
  have hcl : c < ns.length := by rw [HN.out]; exact hc
  obtain ⟨b, off, ka, kc, rfl, hb, _, _, _, e3, hK⟩ := RowNd.at hR c hcl
  obtain ⟨ks, hks⟩ : ∃ ks, Hid (ns[c].kids = ks) := ⟨_, (rfl : ns[c].kids = ns[c].kids)⟩
  have HKS : Hid ((ns.getD c nd0).kids = ks) := by show _ = _; rw [← hks.out]; simp [List.getD, hcl]
  rw [hks.out] at e3 hK
  rw [HKS.out] at hl cS hk12
  obtain ⟨K, HK⟩ : ∃ K, Hid (ks.length = K) := ⟨_, (rfl : ks.length = ks.length)⟩
  rw [HK.out] at e3 hK hk12
  have HI : Hid (RowI w B (.slice ka K kc) ks) := hK
  have HE : Hid (L = stepsTo (stepL ns) ks i K) := by
    show _ = _
    rw [← HL.out]
    unfold blkL
    rw [Int.toNat_natCast, HKS.out, HK.out]
  have hc0 : (0 : Int) ≤ (c : Int) := by omega
  have hc1 : (c : Int) < (N : Int) := by omega
  have HC3 : Hid (w.cell? ⟨b, off + c * 4 + 3, none⟩ = some (.slice ka K kc)) := e3
  clear hR hK
  go_enter Tryz.func29, Tryz.ntmps29
  go_wp2
  go_loopw [7, 8] (fun s j wr => ∃ (t : Nat) (S : ByteArray), t ≤ K ∧ j = .int .i64 (t : Int) ∧ s = .string S ∧ Hid (S = txt (stepsTo (stepL ns) ks i t)) ∧ Hid (Below w.heap.size w wr)) (fun _ j _ => K - (intOf j).toNat)
  case atStart => exact ⟨0, _, Nat.zero_le _, rfl, rfl, rfl, Below.refl _ _⟩
  case round =>
    obtain ⟨t, S, ht, rfl, rfl, HS, HW⟩ := hrel
    have g3 := (HW.out.cell (p := ⟨b, off + c * 4 + 3, none⟩) (by show b < _; omega)).trans HC3.out
    have hSs : S.size ≤ 12000000000000000 := by
      rw [HS.out, txt_size]
      have h1 := stepsTo_len hl.out t (by rw [HK.out]; exact ht)
      have h2 : t * 1000000000000000 ≤ 12 * 1000000000000000 := Nat.mul_le_mul_right _ (by omega)
      omega
    clear e3
    by_cases hlt : t < K
    · have ht0 : (0 : Int) ≤ (t : Int) := by omega
      have ht1 : (t : Int) < (K : Int) := by omega
      have htl : t < ks.length := by rw [HK.out]; exact hlt
      obtain ⟨kb, ko, rfl, hkb, t0⟩ := HI.out.at t htl
      obtain ⟨e, he⟩ : ∃ e, Hid (ks[t] = e) := ⟨_, (rfl : ks[t] = ks[t])⟩
      have f0 := (HW.out.cell (p := ⟨kb, ko + t, none⟩) (by show kb < _; omega)).trans t0
      rw [he.out] at f0
      have hem : e ∈ ks := by rw [← he.out]; exact List.getElem_mem htl
      obtain ⟨P, hP⟩ : ∃ P, Hid (txt (stepL ns e i) = P) := ⟨_, (rfl : txt (stepL ns e i) = txt (stepL ns e i))⟩
      have hPs : P.size ≤ 1000000000000000 := by rw [← hP.out, txt_size]; exact hl.out e hem
      have cK : Hid (∀ W, Below w.heap.size w W → Calls Tryz.prog 67 #[.slice (some ⟨b, off, none⟩) N nc, .int .i64 e, .int .i64 i] W fun e' w' => e' = .returned (.string P) ∧ Below W.heap.size W w') := fun W hW => by rw [← hP.out]; exact cS.out e hem W hW
      have HNX : Hid (S ++ P = txt (stepsTo (stepL ns) ks i (t + 1))) := by
        show _ = _
        simp only [stepsTo, getD_at htl, he.out]
        rw [← txt_append, HS.out, hP.out]
      clear t0
      go_wp2_with (go_at_call 67; refine Calls.mono (cK.out _ HW.out) ?_; rintro e' w2 ⟨rfl, hb2⟩; have HW2 : Hid (Below w.heap.size w w2) := HW.out.trans (hb2.mono HW.out.size))
      go_roundw
      case rel => exact ⟨t + 1, _, by omega, by go_num, rfl, HNX, HW2⟩
      case measure => simp [intOf]; omega
    · have HF : Hid (txt L = S) := by show _ = _; rw [HE.out, HS.out, show t = K by omega]
      go_wp2
      go_ret
      exact ⟨by rw [HF.out]; rfl, HW.out⟩

/-- What a call of l06Step says. -/
def StepCall (P : Program) (va : Option Addr) (N nc B : Nat) (ns : List Nd) (k : Nat) : Prop := ∀ (i : Int) (w : World), -9223372036854775808 ≤ i → i ≤ 9223372036854775807 → B ≤ w.heap.size → NdR.Row w B (.slice va N nc) ns → Calls P 67 #[.slice va N nc, .int .i64 (k : Int), .int .i64 i] w (Tells (stepL ns (k : Int) i) w)
theorem inNext_wrap (i : Int) (h0 : -9223372036854775808 ≤ i) (h1 : i ≤ 9223372036854775807) : IntKind.i64.wrap (i + 1) = inNext i ∧ -9223372036854775808 ≤ inNext i ∧ inNext i ≤ 9223372036854775807 := by
  unfold inNext
  by_cases h : i = 9223372036854775807
  · subst h
    rw [if_pos rfl]
    exact ⟨by decide, by omega, by omega⟩
  · rw [if_neg h]
    exact ⟨IntWalk.i64_in _ ⟨by omega, by omega⟩, by omega, by omega⟩

set_option maxRecDepth 100000 in
set_option maxHeartbeats 6400000 in
theorem l06Step_any (va : Option Addr) (N nc m B : Nat) (ns : List Nd) (HN : Hid (ns.length = N)) (hm : m < N) (HD : Hid (deepOf ns (m : Int) ≠ 0)) :
    ∀ k : Nat, k ≤ m → isStm (ns.getD k nd0).kind = true → StepCall Tryz.prog va N nc B ns k := by
  intro k
  induction k using Nat.strongRecOn with
  | _ k ih =>
  intro hk hs i w hi0 hi1 hBw hR
  have hml : m < ns.length := by rw [HN.out]; exact hm
  have hkl : k < ns.length := by rw [HN.out]; omega
  have HSK := stmKids (deep_nodes hml HD.out k hk) hs
  have HB : Hid (stepL ns (k : Int) i = stepBody ns (stepL ns) (ns.getD k nd0) i) := stepL_body hml HD.out hk hs i
  obtain ⟨vn, hvn, hvk, hvv, hvl⟩ := step_val hml HD.out hk hs
  obtain ⟨hwr, hj0, hj1⟩ := inNext_wrap i hi0 hi1
  obtain ⟨J, HJ⟩ : ∃ J, Hid (inNext i = J) := ⟨_, (rfl : inNext i = inNext i)⟩
  rw [HJ.out] at hwr hj0 hj1
  have HR : Hid (NdR.Row w B (.slice va N nc) ns) := hR
  have HBlk : Hid (∀ j, 0 < j → j < (ns.getD k nd0).kids.length → (blkL ns (stepL ns) ((ns.getD k nd0).kids.getD j 0) J).length ≤ 12000000000000000 ∧ ∀ W, Below w.heap.size w W → Calls Tryz.prog 29 #[.slice va N nc, .int .i64 ((ns.getD k nd0).kids.getD j 0), .int .i64 J] W (Tells (blkL ns (stepL ns) ((ns.getD k nd0).kids.getD j 0) J) W)) := fun j h0 hj => by
    obtain ⟨b, hbe, hbk, _, h12, hbe2⟩ := two_below hml HD.out hk h0 hs hj
    rw [hbe]
    have hsm : ∀ e ∈ (ns.getD b nd0).kids, (stepL ns e J).length ≤ 1000000000000000 := fun e he => by
      obtain ⟨n, rfl, hn, hsn, _⟩ := hbe2 e he
      exact stepL_small hml HD.out n (by omega) hsn J
    refine ⟨?_, fun W hW => ?_⟩
    · unfold blkL
      rw [Int.toNat_natCast]
      exact Nat.le_trans (stepsTo_len hsm _ (Nat.le_refl _)) (Nat.mul_le_mul_right 1000000000000000 h12)
    · refine l06Block_of va N nc B b J ns HN (by omega) W (Nat.le_trans hBw hW.size) (HR.out.keep (hW.mono hBw)) h12 hsm (fun e he W' hW' => ?_) _ (rfl : blkL ns (stepL ns) (b : Int) J = _)
      obtain ⟨n, rfl, hn, hsn, _⟩ := hbe2 e he
      exact ih n (by omega) (by omega) hsn J W' hj0 hj1 (Nat.le_trans hBw (Nat.le_trans hW.size hW'.size)) ((HR.out.keep (hW.mono hBw)).keep (hW'.mono (Nat.le_trans hBw hW.size)))
  clear ih
  have hk0 : (0 : Int) ≤ (k : Int) := by omega
  have hk1 : (k : Int) < (N : Int) := by omega
  obtain ⟨b, off, ka, kc, rfl, hb, e0, e1, e2, e3, hK⟩ := RowNd.at hR k hkl
  obtain ⟨x, hx⟩ : ∃ x, Hid (ns[k] = x) := ⟨_, (rfl : ns[k] = ns[k])⟩
  have HX : Hid (ns.getD k nd0 = x) := by show _ = _; rw [← hx.out]; simp [List.getD, hkl]
  rw [hx.out] at e0 e1 e2 e3 hK
  rw [HX.out] at HSK HB HBlk hvn
  obtain ⟨kd, nm, tx, ks⟩ := x
  simp only at e0 e1 e2 e3 hK HBlk hvn
  obtain ⟨hst, hsome, htwo, hthree, hone, _, _, hname⟩ := HSK
  simp only at hst hsome htwo hthree hone hname
  obtain ⟨K, HK⟩ : ∃ K, Hid (ks.length = K) := ⟨_, (rfl : ks.length = ks.length)⟩
  rw [HK.out] at e3 hK hsome htwo hthree hone
  have HI : Hid (RowI w B (.slice ka K kc) ks) := hK
  have hbw : b < w.heap.size := by omega
  have htx : Hid (txt tx.data.toList = tx) := txt_data tx
  have h0l : 0 < ks.length := by rw [HK.out]; exact hsome
  have hK0 : (0 : Int) < (K : Int) := by omega
  obtain ⟨kb, ko, rfl, hkb, t0⟩ := HI.out.at 0 h0l
  have HK00 : Hid (ks[0] = (vn : Int)) := (getD_at h0l).symm.trans hvn
  rw [HK00.out, Nat.add_zero] at t0
  have hkw : kb < w.heap.size := by omega
  obtain ⟨V, hV⟩ : ∃ V, Hid (txt (valL ns (vn : Int)) = V) := ⟨_, (rfl : txt (valL ns (vn : Int)) = txt (valL ns (vn : Int)))⟩
  have hVs : V.size ≤ 30000000 := by rw [← hV.out, txt_size]; exact hvl
  have cV : Hid (∀ W, Below w.heap.size w W → Calls Tryz.prog 30 #[.slice (some ⟨b, off, none⟩) N nc, .int .i64 (vn : Int)] W fun e w' => e = .returned (.string V) ∧ Below W.heap.size W w') := fun W hW => by
    rw [← hV.out]
    exact l06Value_any _ N nc m B ns HN hm HD vn (by omega) hvv W (Nat.le_trans hBw hW.size) (HR.out.keep (hW.mono hBw))
  obtain ⟨I, hI⟩ : ∃ I, Hid (txt (inL i) = I) := ⟨_, (rfl : txt (inL i) = txt (inL i))⟩
  have hIs : I.size ≤ 40 := by rw [← hI.out, txt_size]; exact inL_len i
  have cI : Hid (∀ W, Calls Tryz.prog 112 #[.int .i64 i] W fun e w' => e = .returned (.string I) ∧ w' = W) := fun W => by rw [← hI.out]; exact l06In_any i W
  obtain ⟨R, HRR⟩ : ∃ R, Hid (stepL ns (k : Int) i = R) := ⟨_, (rfl : stepL ns (k : Int) i = stepL ns (k : Int) i)⟩
  rw [HRR.out] at HB ⊢
  have HV0 : Hid (ks.getD 0 0 = (vn : Int)) := hvn
  clear hR hK hvn
  have hcase : kd = 13 ∨ kd = 14 ∨ kd = 15 ∨ kd = 18 ∨ kd = 19 ∨ kd = 16 ∨ kd = 17 := by omega
  rcases hcase with rfl | rfl | rfl | rfl | rfl | rfl | rfl
  · have hK1 : K = 1 := hone (by decide) (by decide)
    subst hK1
    have HE : Hid (txt R = I ++ ⟨#[108, 101, 116, 32]⟩ ++ tx ++ ⟨#[32, 61, 32]⟩ ++ V ++ ⟨#[59, 10]⟩) := by
      show _ = _
      rw [HB.out]
      show txt (inL i ++ [108, 101, 116, 32] ++ tx.data.toList ++ [32, 61, 32] ++ valL ns (ks.getD 0 0) ++ [59, 10]) = _
      simp only [← txt_append]
      rw [HV0.out, hV.out, hI.out, htx.out]
      rfl
    have B0 : Hid (Box w (.cells #[.int .i64 13, .int .i64 nm, .string tx, .slice (some ⟨kb, ko, none⟩) 1 kc] 87) (w.alloc (.cells #[.int .i64 13, .int .i64 nm, .string tx, .slice (some ⟨kb, ko, none⟩) 1 kc] 87))) := Box.first _ _
    have hs0 : ¬ 9223372036854775807 < I.size + 4 := by omega
    have hs1 : ¬ 9223372036854775807 < I.size + 4 + tx.size := by omega
    have hs2 : ¬ 9223372036854775807 < I.size + 4 + tx.size + 3 := by omega
    have hs3 : ¬ 9223372036854775807 < I.size + 4 + tx.size + 3 + V.size := by omega
    have hs4 : ¬ 9223372036854775807 < I.size + 4 + tx.size + 3 + V.size + 2 := by omega
    have HS : Hid (∀ W, Box w (.cells #[.int .i64 13, .int .i64 nm, .string tx, .slice (some ⟨kb, ko, none⟩) 1 kc] 87) W → (W.cell? ⟨w.heap.size, 2, none⟩ = some (.string tx) ∧ W.cell? ⟨w.heap.size, 3, none⟩ = some (.slice (some ⟨kb, ko, none⟩) 1 kc)) ∧ W.cell? ⟨kb, ko, none⟩ = some (.int .i64 (vn : Int))) := fun W h => ⟨⟨h.cell 2, h.cell 3⟩, (h.below.cell (p := ⟨kb, ko, none⟩) hkw).trans t0⟩
    go_enter Tryz.func67, Tryz.ntmps67
    go_wp2_with (go_at_call 112; refine Calls.mono (cI.out _) ?_; rintro e wI ⟨rfl, hwI⟩; have hwI2 := hwI.symm; subst hwI2)
    go_region_held3 (fun w' => (w'.cell? ⟨w.heap.size, 2, none⟩ = some (.string tx) ∧ w'.cell? ⟨w.heap.size, 3, none⟩ = some (.slice (some ⟨kb, ko, none⟩) 1 kc)) ∧ w'.cell? ⟨kb, ko, none⟩ = some (.int .i64 (vn : Int))) (first | exact HS.out _ DA | exact HS.out _ B0.out.drew) ((go_at_call 30; refine Calls.mono (cV.out _ B0.out.drew.below) ?_; rintro e wA ⟨rfl, hbA⟩; have DA := B0.out.drew.next hbA))
    all_goals
      have HF : Hid (Below w.heap.size w wA) := DA.below
      clear DA hbA
      go_wp2
      go_ret
      exact ⟨by rw [HE.out]; rfl, HF.out⟩
  · have hK1 : K = 1 := hone (by decide) (by decide)
    subst hK1
    have HE : Hid (txt R = I ++ tx ++ ⟨#[32, 61, 32]⟩ ++ V ++ ⟨#[59, 10]⟩) := by
      show _ = _
      rw [HB.out]
      show txt (inL i ++ tx.data.toList ++ [32, 61, 32] ++ valL ns (ks.getD 0 0) ++ [59, 10]) = _
      simp only [← txt_append]
      rw [HV0.out, hV.out, hI.out, htx.out]
      rfl
    have B0 : Hid (Box w (.cells #[.int .i64 14, .int .i64 nm, .string tx, .slice (some ⟨kb, ko, none⟩) 1 kc] 87) (w.alloc (.cells #[.int .i64 14, .int .i64 nm, .string tx, .slice (some ⟨kb, ko, none⟩) 1 kc] 87))) := Box.first _ _
    have hs0 : ¬ 9223372036854775807 < I.size + tx.size := by omega
    have hs1 : ¬ 9223372036854775807 < I.size + tx.size + 3 := by omega
    have hs2 : ¬ 9223372036854775807 < I.size + tx.size + 3 + V.size := by omega
    have hs3 : ¬ 9223372036854775807 < I.size + tx.size + 3 + V.size + 2 := by omega
    have HS : Hid (∀ W, Box w (.cells #[.int .i64 14, .int .i64 nm, .string tx, .slice (some ⟨kb, ko, none⟩) 1 kc] 87) W → (W.cell? ⟨w.heap.size, 2, none⟩ = some (.string tx) ∧ W.cell? ⟨w.heap.size, 3, none⟩ = some (.slice (some ⟨kb, ko, none⟩) 1 kc)) ∧ W.cell? ⟨kb, ko, none⟩ = some (.int .i64 (vn : Int))) := fun W h => ⟨⟨h.cell 2, h.cell 3⟩, (h.below.cell (p := ⟨kb, ko, none⟩) hkw).trans t0⟩
    go_enter Tryz.func67, Tryz.ntmps67
    go_wp2_with (go_at_call 112; refine Calls.mono (cI.out _) ?_; rintro e wI ⟨rfl, hwI⟩; have hwI2 := hwI.symm; subst hwI2)
    go_region_held3 (fun w' => (w'.cell? ⟨w.heap.size, 2, none⟩ = some (.string tx) ∧ w'.cell? ⟨w.heap.size, 3, none⟩ = some (.slice (some ⟨kb, ko, none⟩) 1 kc)) ∧ w'.cell? ⟨kb, ko, none⟩ = some (.int .i64 (vn : Int))) (first | exact HS.out _ DA | exact HS.out _ B0.out.drew) ((go_at_call 30; refine Calls.mono (cV.out _ B0.out.drew.below) ?_; rintro e wA ⟨rfl, hbA⟩; have DA := B0.out.drew.next hbA))
    all_goals
      have HF : Hid (Below w.heap.size w wA) := DA.below
      clear DA hbA
      go_wp2
      go_ret
      exact ⟨by rw [HE.out]; rfl, HF.out⟩
  · have hK1 : K = 1 := hone (by decide) (by decide)
    subst hK1
    have HE : Hid (txt R = I ++ ⟨#[42]⟩ ++ tx ++ ⟨#[32, 61, 32]⟩ ++ V ++ ⟨#[59, 10]⟩) := by
      show _ = _
      rw [HB.out]
      show txt (inL i ++ [42] ++ tx.data.toList ++ [32, 61, 32] ++ valL ns (ks.getD 0 0) ++ [59, 10]) = _
      simp only [← txt_append]
      rw [HV0.out, hV.out, hI.out, htx.out]
      rfl
    have B0 : Hid (Box w (.cells #[.int .i64 15, .int .i64 nm, .string tx, .slice (some ⟨kb, ko, none⟩) 1 kc] 87) (w.alloc (.cells #[.int .i64 15, .int .i64 nm, .string tx, .slice (some ⟨kb, ko, none⟩) 1 kc] 87))) := Box.first _ _
    have hs0 : ¬ 9223372036854775807 < I.size + 1 := by omega
    have hs1 : ¬ 9223372036854775807 < I.size + 1 + tx.size := by omega
    have hs2 : ¬ 9223372036854775807 < I.size + 1 + tx.size + 3 := by omega
    have hs3 : ¬ 9223372036854775807 < I.size + 1 + tx.size + 3 + V.size := by omega
    have hs4 : ¬ 9223372036854775807 < I.size + 1 + tx.size + 3 + V.size + 2 := by omega
    have HS : Hid (∀ W, Box w (.cells #[.int .i64 15, .int .i64 nm, .string tx, .slice (some ⟨kb, ko, none⟩) 1 kc] 87) W → (W.cell? ⟨w.heap.size, 2, none⟩ = some (.string tx) ∧ W.cell? ⟨w.heap.size, 3, none⟩ = some (.slice (some ⟨kb, ko, none⟩) 1 kc)) ∧ W.cell? ⟨kb, ko, none⟩ = some (.int .i64 (vn : Int))) := fun W h => ⟨⟨h.cell 2, h.cell 3⟩, (h.below.cell (p := ⟨kb, ko, none⟩) hkw).trans t0⟩
    go_enter Tryz.func67, Tryz.ntmps67
    go_wp2_with (go_at_call 112; refine Calls.mono (cI.out _) ?_; rintro e wI ⟨rfl, hwI⟩; have hwI2 := hwI.symm; subst hwI2)
    go_region_held3 (fun w' => (w'.cell? ⟨w.heap.size, 2, none⟩ = some (.string tx) ∧ w'.cell? ⟨w.heap.size, 3, none⟩ = some (.slice (some ⟨kb, ko, none⟩) 1 kc)) ∧ w'.cell? ⟨kb, ko, none⟩ = some (.int .i64 (vn : Int))) (first | exact HS.out _ DA | exact HS.out _ B0.out.drew) ((go_at_call 30; refine Calls.mono (cV.out _ B0.out.drew.below) ?_; rintro e wA ⟨rfl, hbA⟩; have DA := B0.out.drew.next hbA))
    all_goals
      have HF : Hid (Below w.heap.size w wA) := DA.below
      clear DA hbA
      go_wp2
      go_ret
      exact ⟨by rw [HE.out]; rfl, HF.out⟩
  · have hK1 : K = 1 := hone (by decide) (by decide)
    subst hK1
    have HE : Hid (txt R = I ++ ⟨#[112, 114, 105, 110, 116, 32]⟩ ++ V ++ ⟨#[59, 10]⟩) := by
      show _ = _
      rw [HB.out]
      show txt (inL i ++ [112, 114, 105, 110, 116, 32] ++ valL ns (ks.getD 0 0) ++ [59, 10]) = _
      simp only [← txt_append]
      rw [HV0.out, hV.out, hI.out]
      rfl
    have B0 : Hid (Box w (.cells #[.int .i64 18, .int .i64 nm, .string tx, .slice (some ⟨kb, ko, none⟩) 1 kc] 87) (w.alloc (.cells #[.int .i64 18, .int .i64 nm, .string tx, .slice (some ⟨kb, ko, none⟩) 1 kc] 87))) := Box.first _ _
    have hs0 : ¬ 9223372036854775807 < I.size + 6 := by omega
    have hs1 : ¬ 9223372036854775807 < I.size + 6 + V.size := by omega
    have hs2 : ¬ 9223372036854775807 < I.size + 6 + V.size + 2 := by omega
    go_enter Tryz.func67, Tryz.ntmps67
    go_wp2_with (first | (go_at_call 112; refine Calls.mono (cI.out _) ?_; rintro e wI ⟨rfl, hwI⟩; have hwI2 := hwI.symm; subst hwI2) | (go_at_call 30; refine Calls.mono (cV.out _ B0.out.below) ?_; rintro e wA ⟨rfl, hbA⟩; have DA := B0.out.next hbA))
    go_ret
    exact ⟨by rw [HE.out]; rfl, DA.below⟩
  · have hK1 : K = 1 := hone (by decide) (by decide)
    subst hK1
    have HE : Hid (txt R = I ++ ⟨#[100, 111, 32]⟩ ++ V ++ ⟨#[59, 10]⟩) := by
      show _ = _
      rw [HB.out]
      show txt (inL i ++ [100, 111, 32] ++ valL ns (ks.getD 0 0) ++ [59, 10]) = _
      simp only [← txt_append]
      rw [HV0.out, hV.out, hI.out]
      rfl
    have B0 : Hid (Box w (.cells #[.int .i64 19, .int .i64 nm, .string tx, .slice (some ⟨kb, ko, none⟩) 1 kc] 87) (w.alloc (.cells #[.int .i64 19, .int .i64 nm, .string tx, .slice (some ⟨kb, ko, none⟩) 1 kc] 87))) := Box.first _ _
    have hs0 : ¬ 9223372036854775807 < I.size + 3 := by omega
    have hs1 : ¬ 9223372036854775807 < I.size + 3 + V.size := by omega
    have hs2 : ¬ 9223372036854775807 < I.size + 3 + V.size + 2 := by omega
    go_enter Tryz.func67, Tryz.ntmps67
    go_wp2_with (first | (go_at_call 112; refine Calls.mono (cI.out _) ?_; rintro e wI ⟨rfl, hwI⟩; have hwI2 := hwI.symm; subst hwI2) | (go_at_call 30; refine Calls.mono (cV.out _ B0.out.below) ?_; rintro e wA ⟨rfl, hbA⟩; have DA := B0.out.next hbA))
    go_ret
    exact ⟨by rw [HE.out]; rfl, DA.below⟩
  · have hKK : K = 3 := hthree rfl
    subst hKK
    have h1l : 1 < ks.length := by rw [HK.out]; omega
    obtain ⟨kb1, ko1, had1, _, t1⟩ := HI.out.at 1 h1l
    cases had1
    obtain ⟨c1, hc1⟩ : ∃ c, Hid (ks[1] = c) := ⟨_, (rfl : ks[1] = ks[1])⟩
    rw [hc1.out] at t1
    have HG1 : Hid (ks.getD 1 0 = c1) := by show _ = _; rw [getD_at h1l, hc1.out]
    obtain ⟨Q1, hQ1⟩ : ∃ P, Hid (txt (blkL ns (stepL ns) c1 J) = P) := ⟨_, (rfl : txt (blkL ns (stepL ns) c1 J) = txt (blkL ns (stepL ns) c1 J))⟩
    have hbk1 := HBlk.out 1 (by omega) h1l
    rw [HG1.out] at hbk1
    have hQs1 : Q1.size ≤ 12000000000000000 := by rw [← hQ1.out, txt_size]; exact hbk1.1
    have cB1 : Hid (∀ W, Below w.heap.size w W → Calls Tryz.prog 29 #[.slice (some ⟨b, off, none⟩) N nc, .int .i64 c1, .int .i64 J] W fun e w' => e = .returned (.string Q1) ∧ Below W.heap.size W w') := fun W hW => by rw [← hQ1.out]; exact hbk1.2 W hW
    clear hbk1
    have h2l : 2 < ks.length := by rw [HK.out]; omega
    obtain ⟨kb2, ko2, had2, _, t2⟩ := HI.out.at 2 h2l
    cases had2
    obtain ⟨c2, hc2⟩ : ∃ c, Hid (ks[2] = c) := ⟨_, (rfl : ks[2] = ks[2])⟩
    rw [hc2.out] at t2
    have HG2 : Hid (ks.getD 2 0 = c2) := by show _ = _; rw [getD_at h2l, hc2.out]
    obtain ⟨Q2, hQ2⟩ : ∃ P, Hid (txt (blkL ns (stepL ns) c2 J) = P) := ⟨_, (rfl : txt (blkL ns (stepL ns) c2 J) = txt (blkL ns (stepL ns) c2 J))⟩
    have hbk2 := HBlk.out 2 (by omega) h2l
    rw [HG2.out] at hbk2
    have hQs2 : Q2.size ≤ 12000000000000000 := by rw [← hQ2.out, txt_size]; exact hbk2.1
    have cB2 : Hid (∀ W, Below w.heap.size w W → Calls Tryz.prog 29 #[.slice (some ⟨b, off, none⟩) N nc, .int .i64 c2, .int .i64 J] W fun e w' => e = .returned (.string Q2) ∧ Below W.heap.size W w') := fun W hW => by rw [← hQ2.out]; exact hbk2.2 W hW
    clear hbk2
    have HE : Hid (txt R = I ++ ⟨#[105, 102, 32]⟩ ++ V ++ ⟨#[32, 123, 10]⟩ ++ Q1 ++ I ++ ⟨#[125, 32, 101, 108, 115, 101, 32, 123, 10]⟩ ++ Q2 ++ I ++ ⟨#[125, 10]⟩) := by
      show _ = _
      rw [HB.out]
      show txt (inL i ++ [105, 102, 32] ++ valL ns (ks.getD 0 0) ++ [32, 123, 10] ++ blkL ns (stepL ns) (ks.getD 1 0) (inNext i) ++ inL i ++ [125, 32, 101, 108, 115, 101, 32, 123, 10] ++ blkL ns (stepL ns) (ks.getD 2 0) (inNext i) ++ inL i ++ [125, 10]) = _
      simp only [← txt_append]
      rw [HV0.out, hV.out, hI.out, HJ.out, HG1.out, hQ1.out, HG2.out, hQ2.out]
      rfl
    have B0 : Hid (Box w (.cells #[.int .i64 16, .int .i64 nm, .string tx, .slice (some ⟨kb, ko, none⟩) 3 kc] 87) (w.alloc (.cells #[.int .i64 16, .int .i64 nm, .string tx, .slice (some ⟨kb, ko, none⟩) 3 kc] 87))) := Box.first _ _
    have hs0 : ¬ 9223372036854775807 < I.size + 3 := by omega
    have hs1 : ¬ 9223372036854775807 < I.size + 3 + V.size := by omega
    have hs2 : ¬ 9223372036854775807 < I.size + 3 + V.size + 3 := by omega
    have hs3 : ¬ 9223372036854775807 < I.size + 3 + V.size + 3 + Q1.size := by omega
    have hs4 : ¬ 9223372036854775807 < I.size + 3 + V.size + 3 + Q1.size + I.size := by omega
    have hs5 : ¬ 9223372036854775807 < I.size + 3 + V.size + 3 + Q1.size + I.size + 9 := by omega
    have hs6 : ¬ 9223372036854775807 < I.size + 3 + V.size + 3 + Q1.size + I.size + 9 + Q2.size := by omega
    have hs7 : ¬ 9223372036854775807 < I.size + 3 + V.size + 3 + Q1.size + I.size + 9 + Q2.size + I.size := by omega
    have hs8 : ¬ 9223372036854775807 < I.size + 3 + V.size + 3 + Q1.size + I.size + 9 + Q2.size + I.size + 2 := by omega
    have HS : Hid (∀ W, Box w (.cells #[.int .i64 16, .int .i64 nm, .string tx, .slice (some ⟨kb, ko, none⟩) 3 kc] 87) W → W.cell? ⟨w.heap.size, 3, none⟩ = some (.slice (some ⟨kb, ko, none⟩) 3 kc) ∧ W.cell? ⟨kb, ko, none⟩ = some (.int .i64 (vn : Int)) ∧ W.cell? ⟨kb, ko + 1, none⟩ = some (.int .i64 c1) ∧ W.cell? ⟨kb, ko + 2, none⟩ = some (.int .i64 c2)) := fun W h => ⟨h.cell 3, (h.below.cell (p := ⟨kb, ko, none⟩) hkw).trans t0, (h.below.cell (p := ⟨kb, ko + 1, none⟩) hkw).trans t1, (h.below.cell (p := ⟨kb, ko + 2, none⟩) hkw).trans t2⟩
    clear hs htwo hthree hone
    go_enter Tryz.func67, Tryz.ntmps67
    go_wp2_with (go_at_call 112; refine Calls.mono (cI.out _) ?_; rintro e wI ⟨rfl, hwI⟩; have hwI2 := hwI.symm; subst hwI2)
    go_region_held3 (fun W => W.cell? ⟨w.heap.size, 3, none⟩ = some (.slice (some ⟨kb, ko, none⟩) 3 kc) ∧ W.cell? ⟨kb, ko, none⟩ = some (.int .i64 (vn : Int)) ∧ W.cell? ⟨kb, ko + 1, none⟩ = some (.int .i64 c1) ∧ W.cell? ⟨kb, ko + 2, none⟩ = some (.int .i64 c2)) (first | exact HS.out _ DD | exact HS.out _ DB | exact HS.out _ DA | exact HS.out _ B0.out.drew) (first | (have _z := DB; go_at_call 29; refine Calls.mono (cB2.out _ DB.below) ?_; rintro e wD ⟨rfl, hbD⟩; have DD := DB.next hbD) | (have _z := DA; go_at_call 29; refine Calls.mono (cB1.out _ DA.below) ?_; rintro e wB ⟨rfl, hbB⟩; have DB := DA.next hbB) | (go_at_call 30; refine Calls.mono (cV.out _ B0.out.drew.below) ?_; rintro e wA ⟨rfl, hbA⟩; have DA := B0.out.drew.next hbA))
    all_goals
      have HF : Hid (Below w.heap.size w wD) := DD.below
      clear DA DB hbA hbB DD hbD
      go_wp2
      go_ret
      exact ⟨by rw [HE.out]; rfl, HF.out⟩
  · have hKK : K = 2 := htwo rfl
    subst hKK
    have h1l : 1 < ks.length := by rw [HK.out]; omega
    obtain ⟨kb1, ko1, had1, _, t1⟩ := HI.out.at 1 h1l
    cases had1
    obtain ⟨c1, hc1⟩ : ∃ c, Hid (ks[1] = c) := ⟨_, (rfl : ks[1] = ks[1])⟩
    rw [hc1.out] at t1
    have HG1 : Hid (ks.getD 1 0 = c1) := by show _ = _; rw [getD_at h1l, hc1.out]
    obtain ⟨Q1, hQ1⟩ : ∃ P, Hid (txt (blkL ns (stepL ns) c1 J) = P) := ⟨_, (rfl : txt (blkL ns (stepL ns) c1 J) = txt (blkL ns (stepL ns) c1 J))⟩
    have hbk1 := HBlk.out 1 (by omega) h1l
    rw [HG1.out] at hbk1
    have hQs1 : Q1.size ≤ 12000000000000000 := by rw [← hQ1.out, txt_size]; exact hbk1.1
    have cB1 : Hid (∀ W, Below w.heap.size w W → Calls Tryz.prog 29 #[.slice (some ⟨b, off, none⟩) N nc, .int .i64 c1, .int .i64 J] W fun e w' => e = .returned (.string Q1) ∧ Below W.heap.size W w') := fun W hW => by rw [← hQ1.out]; exact hbk1.2 W hW
    clear hbk1
    have HE : Hid (txt R = I ++ ⟨#[119, 104, 105, 108, 101, 32]⟩ ++ V ++ ⟨#[32, 123, 10]⟩ ++ Q1 ++ I ++ ⟨#[125, 10]⟩) := by
      show _ = _
      rw [HB.out]
      show txt (inL i ++ [119, 104, 105, 108, 101, 32] ++ valL ns (ks.getD 0 0) ++ [32, 123, 10] ++ blkL ns (stepL ns) (ks.getD 1 0) (inNext i) ++ inL i ++ [125, 10]) = _
      simp only [← txt_append]
      rw [HV0.out, hV.out, hI.out, HJ.out, HG1.out, hQ1.out]
      rfl
    have B0 : Hid (Box w (.cells #[.int .i64 17, .int .i64 nm, .string tx, .slice (some ⟨kb, ko, none⟩) 2 kc] 87) (w.alloc (.cells #[.int .i64 17, .int .i64 nm, .string tx, .slice (some ⟨kb, ko, none⟩) 2 kc] 87))) := Box.first _ _
    have hs0 : ¬ 9223372036854775807 < I.size + 6 := by omega
    have hs1 : ¬ 9223372036854775807 < I.size + 6 + V.size := by omega
    have hs2 : ¬ 9223372036854775807 < I.size + 6 + V.size + 3 := by omega
    have hs3 : ¬ 9223372036854775807 < I.size + 6 + V.size + 3 + Q1.size := by omega
    have hs4 : ¬ 9223372036854775807 < I.size + 6 + V.size + 3 + Q1.size + I.size := by omega
    have hs5 : ¬ 9223372036854775807 < I.size + 6 + V.size + 3 + Q1.size + I.size + 2 := by omega
    have HS : Hid (∀ W, Box w (.cells #[.int .i64 17, .int .i64 nm, .string tx, .slice (some ⟨kb, ko, none⟩) 2 kc] 87) W → W.cell? ⟨w.heap.size, 3, none⟩ = some (.slice (some ⟨kb, ko, none⟩) 2 kc) ∧ W.cell? ⟨kb, ko, none⟩ = some (.int .i64 (vn : Int)) ∧ W.cell? ⟨kb, ko + 1, none⟩ = some (.int .i64 c1)) := fun W h => ⟨h.cell 3, (h.below.cell (p := ⟨kb, ko, none⟩) hkw).trans t0, (h.below.cell (p := ⟨kb, ko + 1, none⟩) hkw).trans t1⟩
    clear hs htwo hthree hone
    go_enter Tryz.func67, Tryz.ntmps67
    go_wp2_with (go_at_call 112; refine Calls.mono (cI.out _) ?_; rintro e wI ⟨rfl, hwI⟩; have hwI2 := hwI.symm; subst hwI2)
    go_region_held3 (fun W => W.cell? ⟨w.heap.size, 3, none⟩ = some (.slice (some ⟨kb, ko, none⟩) 2 kc) ∧ W.cell? ⟨kb, ko, none⟩ = some (.int .i64 (vn : Int)) ∧ W.cell? ⟨kb, ko + 1, none⟩ = some (.int .i64 c1)) (first | exact HS.out _ DB | exact HS.out _ DA | exact HS.out _ B0.out.drew) (first | (have _z := DA; go_at_call 29; refine Calls.mono (cB1.out _ DA.below) ?_; rintro e wB ⟨rfl, hbB⟩; have DB := DA.next hbB) | (go_at_call 30; refine Calls.mono (cV.out _ B0.out.drew.below) ?_; rintro e wA ⟨rfl, hbA⟩; have DA := B0.out.drew.next hbA))
    all_goals
      have HF : Hid (Below w.heap.size w wB) := DB.below
      clear DA DB hbA hbB
      go_wp2
      go_ret
      exact ⟨by rw [HE.out]; rfl, HF.out⟩

end Go.Proofs.YtbanmldmdoedkaaGreatDoor
