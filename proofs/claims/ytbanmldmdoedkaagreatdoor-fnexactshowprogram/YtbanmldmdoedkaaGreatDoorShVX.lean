/-
  ShowValue, in the program: a value that has a depth is written as the model says it.
-/
import Derived.Test.YtbanmldmdoedkaaGreatDoorShVW
namespace Go.Proofs.YtbanmldmdoedkaaGreatDoor
open Go.RowKit

/-- A block of its own, just laid beside a line writer. -/
structure Laid (w0 w : World) (b : Nat) (nv : Value) (l : List UInt8) (cs : Array Value) (T : TypeId) (a : World) : Prop where
  up : Below w.heap.size w a
  cell : a.heap[w.heap.size]? = some (.cells cs T (0, 0))
  base : Below w0.heap.size w0 a
  stand : Stand w0 a b nv l a
  size : w0.heap.size ≤ a.heap.size
theorem Laid.make {w0 w : World} {b : Nat} {nv : Value} {l : List UInt8} (hb : Below w0.heap.size w0 w) (h : Lw w0.heap.size b nv l w) (cs : Array Value) (T : TypeId) : Laid w0 w b nv l cs T (w.alloc (.cells cs T)) :=
  ⟨(Below.refl _ _).alloc (Nat.le_refl _) _, heap_alloc_new _ _, hb.trans (((Below.refl _ _).alloc (Nat.le_refl _) _).mono hb.size), Stand.first (h.alloc _), (hb.trans (((Below.refl _ _).alloc (Nat.le_refl _) _).mono hb.size)).size⟩

set_option maxRecDepth 100000 in
set_option maxHeartbeats 6400000 in
theorem lwValue_any (va : Option Addr) (N nc m b : Nat) (ns : List Nd) (w0 : World) (nv : Value) (HNV : Hid (nv = .slice va N nc)) (HN : Hid (ns.length = N)) (hm : m < N) (HD : Hid (deepOf ns (m : Int) ≠ 0)) (HR : Hid (NdR.Row w0 w0.heap.size (.slice va N nc) ns)) (HT : Hid (Tab10 w0)) :
    ∀ k : Nat, k ≤ m → isVal (ns.getD k nd0).kind = true → Writes Tryz.prog 57 #[.pointer (some ⟨b, 0, none⟩), .int .i64 (k : Int)] w0 b nv (valL ns (k : Int)) := by
  intro k
  induction k using Nat.strongRecOn with
  | _ k ih =>
  intro hk hv l w hB0 hlw hlen
  have hml : m < ns.length := by rw [HN.out]; exact hm
  have hkl : k < ns.length := by rw [HN.out]; omega
  have hok := deep_nodes hml HD.out k hk
  have HVK := valKids hok hv
  have HB : Hid (valL ns (k : Int) = valBody ns (valL ns) (ns.getD k nd0)) := valL_body hml HD.out hk hv
  have HKid : Hid (∀ c ∈ (ns.getD k nd0).kids, 0 ≤ c ∧ c < (k : Int) ∧ isVal (ns.getD c.toNat nd0).kind = true) := fun c hc => by
    have hb := ahead_of hml HD.out k hk c hc
    exact ⟨hb.1, hb.2, kid_val hok hv c hc⟩
  have HVal : Hid (∀ c ∈ (ns.getD k nd0).kids, Writes Tryz.prog 57 #[.pointer (some ⟨b, 0, none⟩), .int .i64 c] w0 b nv (valL ns c)) := fun c hc => by
    obtain ⟨h0, h1, h2⟩ := HKid.out c hc
    obtain ⟨n, rfl⟩ : ∃ n : Nat, c = (n : Int) := ⟨c.toNat, by omega⟩
    rw [Int.toNat_natCast] at h2
    exact ih n (by omega) (by omega) h2
  have HTerm : Hid (∀ c ∈ (ns.getD k nd0).kids, Writes Tryz.prog 101 #[.pointer (some ⟨b, 0, none⟩), .int .i64 c] w0 b nv (parL ns (valL ns) c)) := fun c hc => by
    have h3 := HVal.out c hc
    obtain ⟨h0, h1, h2⟩ := HKid.out c hc
    obtain ⟨n, rfl⟩ : ∃ n : Nat, c = (n : Int) := ⟨c.toNat, by omega⟩
    rw [HNV.out] at h3 ⊢
    exact lwTerm_of va N nc b n ns HN (by omega) w0 HR.out h3
  clear ih
  have hk0 : (0 : Int) ≤ (k : Int) := by omega
  have hk1 : (k : Int) < (N : Int) := by omega
  have hz : w0.heap.size ≤ w.heap.size := hB0.size
  obtain ⟨nb, off, ka, kc, rfl, hb, e0, e1, e2, e3, hK⟩ := RowNd.at HR.out k hkl
  obtain ⟨x, hx⟩ : ∃ x, Hid (ns[k] = x) := ⟨_, (rfl : ns[k] = ns[k])⟩
  have HX : Hid (ns.getD k nd0 = x) := by show _ = _; rw [← hx.out]; simp [List.getD, hkl]
  rw [hx.out] at e0 e1 e2 e3 hK
  rw [HX.out] at HVK HB HKid HVal HTerm
  obtain ⟨kd, nm, tx, ks⟩ := x
  simp only at e0 e1 e2 e3 hK
  obtain ⟨hv1, hone, htwo, hfew, hnum, hname⟩ := HVK
  simp only at hv1 hone htwo hfew hnum hname HVal HTerm
  obtain ⟨K, HK⟩ : ∃ K, Hid (ks.length = K) := ⟨_, (rfl : ks.length = ks.length)⟩
  rw [HK.out] at e3 hK hone htwo hfew
  have HI : Hid (RowI w0 w0.heap.size (.slice ka K kc) ks) := hK
  have f0 := (hB0.cell (p := ⟨nb, off + k * 4, none⟩) hb).trans e0
  have f1 := (hB0.cell (p := ⟨nb, off + k * 4 + 1, none⟩) hb).trans e1
  have f2 := (hB0.cell (p := ⟨nb, off + k * 4 + 2, none⟩) hb).trans e2
  have f3 := (hB0.cell (p := ⟨nb, off + k * 4 + 3, none⟩) hb).trans e3
  have n0 := hlw.nodes
  rw [HNV.out] at n0
  obtain ⟨R, HRR⟩ : ∃ R, Hid (valL ns (k : Int) = R) := ⟨_, (rfl : valL ns (k : Int) = valL ns (k : Int))⟩
  rw [HRR.out] at HB hlen ⊢
  have HZ : Hid (l.length + R.length ≤ 100000000000000) := hlen
  have HW : Hid (Below w0.heap.size w0 w ∧ Lw w0.heap.size b nv l w) := ⟨hB0, hlw⟩
  clear e0 e1 e2 e3 hK hlen hlw hB0 hx HRR
  have hcase : kd = 1 ∨ kd = 2 ∨ kd = 3 ∨ kd = 4 ∨ kd = 5 ∨ kd = 6 ∨ kd = 7 ∨ kd = 8 ∨ kd = 12 ∨ (9 ≤ kd ∧ kd ≤ 11) := by omega
  have HA : Hid (Laid w0 w b nv l #[.int .i64 kd, .int .i64 nm, .string tx, .slice ka K kc] 87 (w.alloc (.cells #[.int .i64 kd, .int .i64 nm, .string tx, .slice ka K kc] 87))) := Laid.make HW.out.1 HW.out.2 _ _
  rcases hcase with rfl | rfl | rfl | rfl | rfl | rfl | rfl | rfl | rfl | hpr
  · have HE : Hid (catL [⟨(Lib.itoa nm).toArray⟩] = R) := by
      show _ = _
      rw [HB.out]
      simp [catL, valBody]
    rw [← HE.out] at HZ ⊢
    obtain ⟨D, hD⟩ : ∃ D : ByteArray, Hid ((⟨(Lib.itoa nm).toArray⟩ : ByteArray) = D) := ⟨_, (rfl : (⟨(Lib.itoa nm).toArray⟩ : ByteArray) = ⟨(Lib.itoa nm).toArray⟩)⟩
    rw [hD.out] at HZ ⊢
    have cD : Hid (∀ W, Below w0.heap.size w0 W → Calls Tryz.prog 100 #[.int .i64 nm] W fun e w' => e = .returned (.string D) ∧ Below W.heap.size W w') := fun W hW => by rw [← hD.out]; exact implDecimal_any nm W (by omega) (by omega) (HT.out.below hW)
    go_enter Tryz.func57, Tryz.ntmps57
    go_wp2_with fail
    go_at_call 100
    refine Calls.mono (cD.out _ HA.out.base) ?_
    rintro e w1 ⟨rfl, hb1⟩
    have S1 : Hid (Stand w0 (w.alloc (.cells #[.int .i64 1, .int .i64 nm, .string tx, .slice ka K kc] 87)) b nv l w1) := HA.out.stand.next HA.out.size hb1
    clear hb1
    go_wp2_with fail
    go_at_call 99
    refine Calls.mono (S1.out.texts HA.out.size [D] 1 rfl (by omega) HZ.out rfl) ?_
    rintro e w2 ⟨rfl, s2⟩
    have S2 : Hid (Wrote w0.heap.size b nv (l ++ catL [D]) w (.returned (.tuple #[])) w2) := s2.wrote hz HA.out.up
    clear s2
    go_wp2
    go_returns
    exact S2.out
  · have HE : Hid (catL [tx] = R) := by
      show _ = _
      rw [HB.out]
      simp [catL, valBody]
    rw [← HE.out] at HZ ⊢
    go_enter Tryz.func57, Tryz.ntmps57
    go_wp2_with fail
    go_at_call 99
    refine Calls.mono (HA.out.stand.texts HA.out.size [tx] 1 rfl (by omega) HZ.out (by simp)) ?_
    rintro e w2 ⟨rfl, s2⟩
    have S2 : Hid (Wrote w0.heap.size b nv (l ++ catL [tx]) w (.returned (.tuple #[])) w2) := s2.wrote hz HA.out.up
    clear s2
    go_wp2
    go_returns
    exact S2.out
  · have HE : Hid (catL [⟨#[42]⟩, tx] = R) := by
      show _ = _
      rw [HB.out]
      simp [catL, valBody]
    rw [← HE.out] at HZ ⊢
    go_enter Tryz.func57, Tryz.ntmps57
    go_wp2_with fail
    go_at_call 99
    refine Calls.mono (HA.out.stand.texts HA.out.size [⟨#[42]⟩, tx] 2 rfl (by omega) HZ.out (by simp)) ?_
    rintro e w2 ⟨rfl, s2⟩
    have S2 : Hid (Wrote w0.heap.size b nv (l ++ catL [⟨#[42]⟩, tx]) w (.returned (.tuple #[])) w2) := s2.wrote hz HA.out.up
    clear s2
    go_wp2
    go_returns
    exact S2.out
  · have HE : Hid (catL [⟨#[99, 108, 111, 110, 101, 32]⟩, tx] = R) := by
      show _ = _
      rw [HB.out]
      simp [catL, valBody]
    rw [← HE.out] at HZ ⊢
    go_enter Tryz.func57, Tryz.ntmps57
    go_wp2_with fail
    go_at_call 99
    refine Calls.mono (HA.out.stand.texts HA.out.size [⟨#[99, 108, 111, 110, 101, 32]⟩, tx] 2 rfl (by omega) HZ.out (by simp)) ?_
    rintro e w2 ⟨rfl, s2⟩
    have S2 : Hid (Wrote w0.heap.size b nv (l ++ catL [⟨#[99, 108, 111, 110, 101, 32]⟩, tx]) w (.returned (.tuple #[])) w2) := s2.wrote hz HA.out.up
    clear s2
    go_wp2
    go_returns
    exact S2.out
  · have HE : Hid (catL [⟨#[38]⟩, tx] = R) := by
      show _ = _
      rw [HB.out]
      simp [catL, valBody]
    rw [← HE.out] at HZ ⊢
    go_enter Tryz.func57, Tryz.ntmps57
    go_wp2_with fail
    go_at_call 99
    refine Calls.mono (HA.out.stand.texts HA.out.size [⟨#[38]⟩, tx] 2 rfl (by omega) HZ.out (by simp)) ?_
    rintro e w2 ⟨rfl, s2⟩
    have S2 : Hid (Wrote w0.heap.size b nv (l ++ catL [⟨#[38]⟩, tx]) w (.returned (.tuple #[])) w2) := s2.wrote hz HA.out.up
    clear s2
    go_wp2
    go_returns
    exact S2.out
  · have HE : Hid (catL [⟨#[38, 109, 117, 116, 32]⟩, tx] = R) := by
      show _ = _
      rw [HB.out]
      simp [catL, valBody]
    rw [← HE.out] at HZ ⊢
    go_enter Tryz.func57, Tryz.ntmps57
    go_wp2_with fail
    go_at_call 99
    refine Calls.mono (HA.out.stand.texts HA.out.size [⟨#[38, 109, 117, 116, 32]⟩, tx] 2 rfl (by omega) HZ.out (by simp)) ?_
    rintro e w2 ⟨rfl, s2⟩
    have S2 : Hid (Wrote w0.heap.size b nv (l ++ catL [⟨#[38, 109, 117, 116, 32]⟩, tx]) w (.returned (.tuple #[])) w2) := s2.wrote hz HA.out.up
    clear s2
    go_wp2
    go_returns
    exact S2.out
  · have HE : Hid (catL [⟨#[105, 110, 112, 117, 116]⟩] = R) := by
      show _ = _
      rw [HB.out]
      simp [catL, valBody]
    rw [← HE.out] at HZ ⊢
    go_enter Tryz.func57, Tryz.ntmps57
    go_wp2_with fail
    go_at_call 99
    refine Calls.mono (HA.out.stand.texts HA.out.size [⟨#[105, 110, 112, 117, 116]⟩] 1 rfl (by omega) HZ.out (by simp)) ?_
    rintro e w2 ⟨rfl, s2⟩
    have S2 : Hid (Wrote w0.heap.size b nv (l ++ catL [⟨#[105, 110, 112, 117, 116]⟩]) w (.returned (.tuple #[])) w2) := s2.wrote hz HA.out.up
    clear s2
    go_wp2
    go_returns
    exact S2.out
  · -- new
    have hK1 : K = 1 := hone rfl
    subst hK1
    have h0l : 0 < ks.length := by rw [HK.out]; omega
    obtain ⟨kb, ko, rfl, hkb, t0⟩ := HI.out.at 0 h0l
    obtain ⟨c, hc⟩ : ∃ c, Hid (ks[0] = c) := ⟨_, (rfl : ks[0] = ks[0])⟩
    rw [hc.out, Nat.add_zero] at t0
    have hcm : c ∈ ks := by rw [← hc.out]; exact List.getElem_mem h0l
    obtain ⟨P, hP⟩ : ∃ P, Hid (parL ns (valL ns) c = P) := ⟨_, (rfl : parL ns (valL ns) c = parL ns (valL ns) c)⟩
    have HE : Hid (R = [110, 101, 119, 32] ++ P) := by
      show _ = _
      rw [HB.out]
      show [110, 101, 119, 32] ++ parL ns (valL ns) (ks.getD 0 0) = _
      rw [getD_at h0l, hc.out, hP.out]
    have cP : Hid (Writes Tryz.prog 101 #[.pointer (some ⟨b, 0, none⟩), .int .i64 c] w0 b nv P) := by rw [← hP.out]; exact HTerm.out c hcm
    rw [HE.out] at HZ
    have HZ2 : Hid (l.length + ([110, 101, 119, 32] : List UInt8).length ≤ 100000000000000 ∧ (l ++ [110, 101, 119, 32]).length + P.length ≤ 100000000000000) := len2 HZ.out
    have HL : Hid (l ++ R = l ++ [110, 101, 119, 32] ++ P) := by show _ = _; rw [HE.out, List.append_assoc]
    rw [HL.out]
    go_enter Tryz.func57, Tryz.ntmps57
    go_wp2_with fail
    go_at_call 99
    refine Calls.mono (HA.out.stand.texts HA.out.size [⟨#[110, 101, 119, 32]⟩] 1 rfl (by omega) HZ2.out.1 (by simp)) ?_
    rintro e w2 ⟨rfl, s2⟩
    have S2 : Hid (Stand w0 (w.alloc (.cells #[.int .i64 8, .int .i64 nm, .string tx, .slice (some ⟨kb, ko, none⟩) 1 kc] 87)) b nv (l ++ [110, 101, 119, 32]) w2) := s2
    have y3 : w2.cell? ⟨w.heap.size, 3, none⟩ = some (.slice (some ⟨kb, ko, none⟩) 1 kc) := s2.cell HA.out.cell (by decide) (by decide) 3
    have y4 := ((HA.out.base.trans s2.2.1).cell (p := ⟨kb, ko, none⟩) hkb).trans t0
    clear s2
    go_wp2_with fail
    go_at_call 101
    refine Calls.mono (S2.out.call HA.out.base cP.out HZ2.out.2) ?_
    rintro e w3 ⟨rfl, s3⟩
    have S3 : Hid (Wrote w0.heap.size b nv (l ++ [110, 101, 119, 32] ++ P) w (.returned (.tuple #[])) w3) := s3.wrote hz HA.out.up
    clear s3
    go_wp2
    go_returns
    exact S3.out
  · -- a call
    have HE : Hid (R = tx.data.toList ++ [40] ++ argTo (valL ns) ks K ++ [41]) := by
      show _ = _
      rw [HB.out, ← HK.out]
      rfl
    have cP : Hid (Writes Tryz.prog 103 #[.pointer (some ⟨b, 0, none⟩), .agg #[.int .i64 12, .int .i64 nm, .string tx, .slice ka K kc]] w0 b nv R) := by
      rw [HE.out]
      exact lwCall_of nv b K kc ka w0 nm tx ks (valL ns) HK hfew HI HVal
    go_enter Tryz.func57, Tryz.ntmps57
    go_wp2_with fail
    go_at_call 103
    refine Calls.mono (HA.out.stand.call HA.out.base cP.out HZ.out) ?_
    rintro e w3 ⟨rfl, s3⟩
    have S3 : Hid (Wrote w0.heap.size b nv (l ++ R) w (.returned (.tuple #[])) w3) := s3.wrote hz HA.out.up
    clear s3
    go_wp2
    go_returns
    exact S3.out
  · -- one of two
    have hK2 : K = 2 := htwo hpr.1 hpr.2
    subst hK2
    have h0l : 0 < ks.length := by rw [HK.out]; omega
    have h1l : 1 < ks.length := by rw [HK.out]; omega
    obtain ⟨kb, ko, rfl, hkb, t0⟩ := HI.out.at 0 h0l
    obtain ⟨kb', ko', heq, hkb', t1⟩ := HI.out.at 1 h1l
    obtain ⟨rfl, rfl⟩ : kb = kb' ∧ ko = ko' := by
      simp only [Option.some.injEq, Addr.mk.injEq] at heq
      exact ⟨heq.1, heq.2.1⟩
    obtain ⟨c, hc⟩ : ∃ c, Hid (ks[0] = c) := ⟨_, (rfl : ks[0] = ks[0])⟩
    obtain ⟨d, hd⟩ : ∃ c, Hid (ks[1] = c) := ⟨_, (rfl : ks[1] = ks[1])⟩
    rw [hc.out, Nat.add_zero] at t0
    rw [hd.out] at t1
    have hcm : c ∈ ks := by rw [← hc.out]; exact List.getElem_mem h0l
    have hdm : d ∈ ks := by rw [← hd.out]; exact List.getElem_mem h1l
    obtain ⟨P, hP⟩ : ∃ P, Hid (parL ns (valL ns) c = P) := ⟨_, (rfl : parL ns (valL ns) c = parL ns (valL ns) c)⟩
    obtain ⟨Q, hQ⟩ : ∃ P, Hid (parL ns (valL ns) d = P) := ⟨_, (rfl : parL ns (valL ns) d = parL ns (valL ns) d)⟩
    have HE : Hid (R = P ++ sgnL kd ++ Q) := by
      show _ = _
      rw [HB.out, ← hP.out, ← hQ.out, ← hc.out, ← hd.out, ← getD_at h0l, ← getD_at h1l]
      unfold valBody
      simp only
      rw [if_neg (by omega), if_neg (by omega), if_neg (by omega), if_neg (by omega), if_neg (by omega), if_neg (by omega), if_neg (by omega), if_neg (by omega), if_neg (by omega)]
    have cP : Hid (∀ G, Writes Tryz.prog 102 #[.pointer (some ⟨b, 0, none⟩), .slice (some ⟨kb, ko, none⟩) 2 kc, .string G] w0 b nv (P ++ catL [G] ++ Q)) := fun G =>
      lwPair_of nv b w0 kb ko kc c d G P Q hkb t0 t1 (by rw [← hP.out]; exact HTerm.out c hcm) (by rw [← hQ.out]; exact HTerm.out d hdm)
    have hkk : kd = 9 ∨ kd = 10 ∨ kd = 11 := by omega
    rcases hkk with rfl | rfl | rfl
    all_goals
      clear hpr t0 t1
      go_enter Tryz.func57, Tryz.ntmps57
      go_wp2_with fail
      go_at_call 102
      refine Calls.mono (HA.out.stand.call HA.out.base (cP.out _) (by rw [HE.out] at HZ; exact HZ.out)) ?_
      rintro e w3 ⟨rfl, s3⟩
      have S3 : Hid (Wrote w0.heap.size b nv (l ++ R) w (.returned (.tuple #[])) w3) := by rw [HE.out]; exact s3.wrote hz HA.out.up
      clear s3
      go_wp2
      go_returns
      exact S3.out

end Go.Proofs.YtbanmldmdoedkaaGreatDoor
