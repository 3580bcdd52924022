/-
  ShowValue, in the model: values in words.
-/
import Derived.Test.YtbanmldmdoedkaaGreatDoorDe
import Derived.Test.YtbanmldmdoedkaaGreatDoorMa
import Derived.Test.YtbanmldmdoedkaaGreatDoorPa
import Derived.Test.YtbanmldmdoedkaaGreatDoorKa
import Derived.Test.YtbanmldmdoedkaaGreatDoorRa
namespace Go.Proofs.YtbanmldmdoedkaaGreatDoor
open Go.RowKit

/-- Bytes as a text. -/
def txt (l : List UInt8) : ByteArray := ⟨l.toArray⟩
theorem txt_append (a b : List UInt8) : txt a ++ txt b = txt (a ++ b) := by
  apply ByteArray.ext
  simp [txt, ByteArray.data_append]
theorem txt_data (s : ByteArray) : txt s.data.toList = s := by
  apply ByteArray.ext
  simp [txt]
theorem txt_size (l : List UInt8) : (txt l).size = l.length := by simp [txt, ByteArray.size]
/-- What a call says. -/
def Tells (L : List UInt8) (w : World) (e : Ending) (w' : World) : Prop := e = .returned (.string (txt L)) ∧ Below w.heap.size w w'

theorem l06Pair_any (k : Int) (w : World) : Calls Tryz.prog 114 #[.int .i64 k] w fun e w' => e = .returned (.bool (isIn k 9 11)) ∧ w' = w := by
  obtain ⟨r, hr⟩ : ∃ r, Hid (isIn k 9 11 = r) := ⟨_, (rfl : isIn k 9 11 = isIn k 9 11)⟩
  rw [hr.out]
  go_enter Tryz.func114, Tryz.ntmps114
  go_wp2_with (go_at_call 63; refine (l01In_is _ _ _ _).mono ?_; rintro e w1 ⟨rfl, hw1⟩; have hw2 := hw1.symm; subst hw2; rw [hr.out])
  go_ret
  exact ⟨rfl, rfl⟩
theorem l06Sign_any (k : Int) (w : World) : Calls Tryz.prog 70 #[.int .i64 k] w fun e w' => e = .returned (.string (txt (sgnL k))) ∧ w' = w := by
  by_cases h9 : k = 9
  · subst h9
    go_enter Tryz.func70, Tryz.ntmps70
    go_wp2
    go_ret
    exact ⟨rfl, rfl⟩
  by_cases h10 : k = 10
  · subst h10
    go_enter Tryz.func70, Tryz.ntmps70
    go_wp2
    go_ret
    exact ⟨rfl, rfl⟩
  have e9 : (k == 9) = false := by simpa using h9
  have e10 : (k == 10) = false := by simpa using h10
  have HE : Hid (sgnL k = [32, 61, 61, 32]) := by show _ = _; unfold sgnL; rw [if_neg h9, if_neg h10]
  rw [HE.out]
  go_enter Tryz.func70, Tryz.ntmps70
  go_wp2
  go_ret
  exact ⟨rfl, rfl⟩

set_option maxRecDepth 100000 in
set_option maxHeartbeats 1600000 in
theorem l06Kid_of (va : Option Addr) (N nc B c : Nat) (ns : List Nd) (HN : Hid (ns.length = N)) (hc : c < N) (w : World) (hR : NdR.Row w B (.slice va N nc) ns) (hl : (valL ns (c : Int)).length ≤ 100000000)
    (cV : Hid (∀ W, Below w.heap.size w W → Calls Tryz.prog 30 #[.slice va N nc, .int .i64 (c : Int)] W (Tells (valL ns (c : Int)) W))) :
    Calls Tryz.prog 69 #[.slice va N nc, .int .i64 (c : Int)] w (Tells (parL ns (valL ns) (c : Int)) w) := by
  have hcl : c < ns.length := by rw [HN.out]; exact hc
  obtain ⟨b, off, ka, kc, rfl, hb, e0, _, _, _, _⟩ := RowNd.at hR c hcl
  obtain ⟨kd, hkd⟩ : ∃ kd, Hid (ns[c].kind = kd) := ⟨_, (rfl : ns[c].kind = ns[c].kind)⟩
  rw [hkd.out] at e0
  have HK : Hid ((ns.getD (c : Int).toNat nd0).kind = kd) := by show _ = _; rw [← hkd.out, Int.toNat_natCast]; simp [List.getD, hcl]
  have hc0 : (0 : Int) ≤ (c : Int) := by omega
  have hc1 : (c : Int) < (N : Int) := by omega
  obtain ⟨L, hL⟩ : ∃ L, Hid (valL ns (c : Int) = L) := ⟨_, (rfl : valL ns (c : Int) = valL ns (c : Int))⟩
  rw [hL.out] at cV hl
  clear hR
  cases hp : isIn kd 9 11
  · have HE : Hid (parL ns (valL ns) (c : Int) = L) := by show _ = _; unfold parL; rw [HK.out, hp, hL.out]; rfl
    rw [HE.out]
    go_enter Tryz.func69, Tryz.ntmps69
    go_wp2_with (first | (go_at_call 114; refine (l06Pair_any _ _).mono ?_; rintro e w1 ⟨rfl, hw1⟩; have hw2 := hw1.symm; subst hw2; rw [hp]) | (go_at_call 30; refine Calls.mono (cV.out _ (Below.refl _ _)) ?_; rintro e w2 ⟨rfl, hb2⟩))
    go_ret
    exact ⟨rfl, hb2⟩
  · obtain ⟨R, HE⟩ : ∃ R, Hid (parL ns (valL ns) (c : Int) = R) := ⟨_, (rfl : parL ns (valL ns) (c : Int) = parL ns (valL ns) (c : Int))⟩
    have HR : Hid (txt R = txt [40] ++ txt L ++ txt [41]) := by
      show _ = _
      rw [← HE.out, txt_append, txt_append]
      unfold parL
      rw [HK.out, hp, hL.out]
      rfl
    obtain ⟨S, hS⟩ : ∃ S, Hid (txt L = S) := ⟨_, (rfl : txt L = txt L)⟩
    have hSz : S.size ≤ 100000000 := by rw [← hS.out, txt_size]; exact hl
    have cV2 : Hid (Calls Tryz.prog 30 #[.slice (some ⟨b, off, none⟩) N nc, .int .i64 (c : Int)] w fun e w' => e = .returned (.string S) ∧ Below w.heap.size w w') := by rw [← hS.out]; exact cV.out _ (Below.refl _ _)
    rw [HE.out]
    go_enter Tryz.func69, Tryz.ntmps69
    go_wp2_with (first | (go_at_call 114; refine (l06Pair_any _ _).mono ?_; rintro e w1 ⟨rfl, hw1⟩; have hw2 := hw1.symm; subst hw2; rw [hp]) | (go_at_call 30; refine Calls.mono cV2.out ?_; rintro e w2 ⟨rfl, hb2⟩))
    go_ret
    refine ⟨?_, hb2⟩
    rw [HR.out, hS.out]
    rfl

/-- What a call of l06Value says. -/
def ValCall (P : Program) (va : Option Addr) (N nc B : Nat) (ns : List Nd) (k : Nat) : Prop := ∀ w : World, B ≤ w.heap.size → NdR.Row w B (.slice va N nc) ns → Calls P 30 #[.slice va N nc, .int .i64 (k : Int)] w (Tells (valL ns (k : Int)) w)

set_option maxRecDepth 100000 in
set_option maxHeartbeats 6400000 in
theorem l06Value_any (va : Option Addr) (N nc m B : Nat) (ns : List Nd) (HN : Hid (ns.length = N)) (hm : m < N) (HD : Hid (deepOf ns (m : Int) ≠ 0)) :
    ∀ k : Nat, k ≤ m → isVal (ns.getD k nd0).kind = true → ValCall Tryz.prog va N nc B ns k := by
  intro k
  induction k using Nat.strongRecOn with
  | _ k ih =>
  intro hk hv w hBw hR
  have hml : m < ns.length := by rw [HN.out]; exact hm
  have hkl : k < ns.length := by rw [HN.out]; omega
  have hok := deep_nodes hml HD.out k hk
  have HVK := valKids hok hv
  have HB : Hid (valL ns (k : Int) = valBody ns (valL ns) (ns.getD k nd0)) := valL_body hml HD.out hk hv
  have HLen : Hid (∀ c ∈ (ns.getD k nd0).kids, 0 ≤ c ∧ c < (k : Int) ∧ isVal (ns.getD c.toNat nd0).kind = true ∧ (valL ns c).length ≤ 30000000) := fun c hc => by
    have hb := ahead_of hml HD.out k hk c hc
    have hvc := kid_val hok hv c hc
    have hdk := deep_kid hml HD.out hk hc
    refine ⟨hb.1, hb.2, hvc, ?_⟩
    obtain ⟨n, rfl⟩ : ∃ n : Nat, c = (n : Int) := ⟨c.toNat, by omega⟩
    rw [Int.toNat_natCast] at hvc
    refine Nat.le_trans (valL_len hml HD.out n (by omega) hvc) ?_
    have h1 : 4 ^ (deepOf ns (n : Int)).toNat ≤ 4 ^ 10 := Nat.pow_le_pow_right (by omega) (by omega)
    have h2 : (4 : Nat) ^ 10 = 1048576 := by decide
    omega
  have IH : Hid (∀ c : Nat, c < k → isVal (ns.getD c nd0).kind = true → ValCall Tryz.prog va N nc B ns c) := fun c hc h => ih c hc (by omega) h
  clear ih
  have hk0 : (0 : Int) ≤ (k : Int) := by omega
  have hk1 : (k : Int) < (N : Int) := by omega
  have HR : Hid (NdR.Row w B (.slice va N nc) ns) := hR
  obtain ⟨b, off, ka, kc, rfl, hb, e0, e1, e2, e3, hK⟩ := RowNd.at hR k hkl
  obtain ⟨x, hx⟩ : ∃ x, Hid (ns[k] = x) := ⟨_, (rfl : ns[k] = ns[k])⟩
  have HX : Hid (ns.getD k nd0 = x) := by show _ = _; rw [← hx.out]; simp [List.getD, hkl]
  rw [hx.out] at e0 e1 e2 e3 hK
  rw [HX.out] at HVK HB HLen
  obtain ⟨kd, nm, tx, ks⟩ := x
  simp only at e0 e1 e2 e3 hK
  obtain ⟨hv1, hone, htwo, hfew, hnum, hname⟩ := HVK
  simp only at hv1 hone htwo hfew hnum hname HLen
  obtain ⟨K, HK⟩ : ∃ K, Hid (ks.length = K) := ⟨_, (rfl : ks.length = ks.length)⟩
  rw [HK.out] at e3 hK hone htwo hfew
  have HI : Hid (RowI w B (.slice ka K kc) ks) := hK
  have hbw : b < w.heap.size := by omega
  have htx : Hid (txt tx.data.toList = tx) := txt_data tx
  obtain ⟨R, HRR⟩ : ∃ R, Hid (valL ns (k : Int) = R) := ⟨_, (rfl : valL ns (k : Int) = valL ns (k : Int))⟩
  rw [HRR.out] at HB ⊢
  have HVal : Hid (∀ c ∈ ks, ∀ W, Below w.heap.size w W → Calls Tryz.prog 30 #[.slice (some ⟨b, off, none⟩) N nc, .int .i64 c] W (Tells (valL ns c) W)) := fun c hc W hW => by
    obtain ⟨h0, h1, h2, _⟩ := HLen.out c hc
    obtain ⟨n, rfl⟩ : ∃ n : Nat, c = (n : Int) := ⟨c.toNat, by omega⟩
    rw [Int.toNat_natCast] at h2
    exact IH.out n (by omega) h2 W (Nat.le_trans hBw hW.size) (HR.out.keep (hW.mono hBw))
  have HKid : Hid (∀ c ∈ ks, ∀ W, Below w.heap.size w W → Calls Tryz.prog 69 #[.slice (some ⟨b, off, none⟩) N nc, .int .i64 c] W (Tells (parL ns (valL ns) c) W)) := fun c hc W hW => by
    obtain ⟨h0, h1, h2, h3⟩ := HLen.out c hc
    obtain ⟨n, rfl⟩ : ∃ n : Nat, c = (n : Int) := ⟨c.toNat, by omega⟩
    exact l06Kid_of _ N nc B n ns HN (by omega) W (HR.out.keep (hW.mono hBw)) (by omega) (fun W' hW' => HVal.out _ hc W' (hW.trans (hW'.mono hW.size)))
  have HPar : Hid (∀ c ∈ ks, (parL ns (valL ns) c).length ≤ 30000002) := fun c hc => by have := parL_len ns (valL ns) c; have := (HLen.out c hc).2.2.2; omega
  clear hR hK
  have hcase : kd = 1 ∨ kd = 2 ∨ kd = 3 ∨ kd = 4 ∨ kd = 5 ∨ kd = 6 ∨ kd = 7 ∨ kd = 8 ∨ kd = 12 ∨ (9 ≤ kd ∧ kd ≤ 11) := by omega
  rcases hcase with rfl | rfl | rfl | rfl | rfl | rfl | rfl | rfl | rfl | hpr
  · have HE : Hid (R = Lib.itoa nm) := HB.out
    have cD : Hid (∀ W, Calls Tryz.prog 68 #[.int .i64 nm] W fun e w' => e = .returned (.string (txt R)) ∧ Below W.heap.size W w') := fun W => by rw [HE.out]; exact specDecimal_any nm W (by omega) (by omega)
    go_enter Tryz.func30, Tryz.ntmps30
    go_wp2_with (go_at_call 68; refine Calls.mono (cD.out _) ?_; rintro e w2 ⟨rfl, hb2⟩)
    go_ret
    exact ⟨rfl, by have h0 : Below w.heap.size w (w.alloc (.cells #[.int .i64 1, .int .i64 nm, .string tx, .slice ka K kc] 87)) := (by go_grown); exact h0.trans (hb2.mono h0.size)⟩
  · have HE : Hid (txt R = tx) := by
      show _ = _
      rw [HB.out]
      show txt tx.data.toList = _
      exact htx.out
    go_enter Tryz.func30, Tryz.ntmps30
    go_wp2
    go_ret
    exact ⟨by rw [HE.out]; rfl, by go_grown⟩
  · have HE : Hid (txt R = ⟨#[42]⟩ ++ tx) := by
      show _ = _
      rw [HB.out]
      show txt ([42] ++ tx.data.toList) = _
      rw [← txt_append, htx.out]
      rfl
    go_enter Tryz.func30, Tryz.ntmps30
    go_wp2
    go_ret
    exact ⟨by rw [HE.out]; rfl, by go_grown⟩
  · have HE : Hid (txt R = ⟨#[99, 108, 111, 110, 101, 32]⟩ ++ tx) := by
      show _ = _
      rw [HB.out]
      show txt ([99, 108, 111, 110, 101, 32] ++ tx.data.toList) = _
      rw [← txt_append, htx.out]
      rfl
    go_enter Tryz.func30, Tryz.ntmps30
    go_wp2
    go_ret
    exact ⟨by rw [HE.out]; rfl, by go_grown⟩
  · have HE : Hid (txt R = ⟨#[38]⟩ ++ tx) := by
      show _ = _
      rw [HB.out]
      show txt ([38] ++ tx.data.toList) = _
      rw [← txt_append, htx.out]
      rfl
    go_enter Tryz.func30, Tryz.ntmps30
    go_wp2
    go_ret
    exact ⟨by rw [HE.out]; rfl, by go_grown⟩
  · have HE : Hid (txt R = ⟨#[38, 109, 117, 116, 32]⟩ ++ tx) := by
      show _ = _
      rw [HB.out]
      show txt ([38, 109, 117, 116, 32] ++ tx.data.toList) = _
      rw [← txt_append, htx.out]
      rfl
    go_enter Tryz.func30, Tryz.ntmps30
    go_wp2
    go_ret
    exact ⟨by rw [HE.out]; rfl, by go_grown⟩
  · have HE : Hid (txt R = ⟨#[105, 110, 112, 117, 116]⟩) := by
      show _ = _
      rw [HB.out]
      rfl
    go_enter Tryz.func30, Tryz.ntmps30
    go_wp2
    go_ret
    exact ⟨by rw [HE.out]; rfl, by go_grown⟩
  · -- new
    have hK1 : K = 1 := hone rfl
    subst hK1
    have h0l : 0 < ks.length := by rw [HK.out]; omega
    obtain ⟨kb, ko, rfl, hkb, t0⟩ := HI.out.at 0 h0l
    obtain ⟨c, hc⟩ : ∃ c, Hid (ks[0] = c) := ⟨_, (rfl : ks[0] = ks[0])⟩
    rw [hc.out, Nat.add_zero] at t0
    have hcm : c ∈ ks := by rw [← hc.out]; exact List.getElem_mem h0l
    have HG : Hid (ks.getD 0 0 = c) := by show _ = _; rw [getD_at h0l, hc.out]
    obtain ⟨P, hP⟩ : ∃ P, Hid (txt (parL ns (valL ns) c) = P) := ⟨_, (rfl : txt (parL ns (valL ns) c) = txt (parL ns (valL ns) c))⟩
    have hPs : P.size ≤ 30000002 := by rw [← hP.out, txt_size]; exact HPar.out c hcm
    have HE : Hid (txt R = ⟨#[110, 101, 119, 32]⟩ ++ P) := by
      show _ = _
      rw [HB.out]
      show txt ([110, 101, 119, 32] ++ parL ns (valL ns) (ks.getD 0 0)) = _
      rw [← txt_append, HG.out, hP.out]
      rfl
    have cK : Hid (∀ W, Below w.heap.size w W → Calls Tryz.prog 69 #[.slice (some ⟨b, off, none⟩) N nc, .int .i64 c] W fun e w' => e = .returned (.string P) ∧ Below W.heap.size W w') := fun W hW => by rw [← hP.out]; exact HKid.out c hcm W hW
    have hkw : kb < w.heap.size := by omega
    go_enter Tryz.func30, Tryz.ntmps30
    go_wp2_with (go_at_call 69; refine Calls.mono (cK.out _ (by go_grown)) ?_; rintro e w2 ⟨rfl, hb2⟩)
    go_ret
    exact ⟨by rw [HE.out]; rfl, by have h0 : Below w.heap.size w (w.alloc (.cells #[.int .i64 8, .int .i64 nm, .string tx, .slice (some ⟨kb, ko, none⟩) 1 kc] 87)) := (by go_grown); exact h0.trans (hb2.mono h0.size)⟩
  · -- a call
    have HE : Hid (txt R = txt (tx.data.toList ++ [40] ++ argTo (valL ns) ks K) ++ ⟨#[41]⟩) := by
      show _ = _
      rw [HB.out]
      show txt (tx.data.toList ++ [40] ++ argTo (valL ns) ks ks.length ++ [41]) = _
      rw [← txt_append, HK.out]
      rfl
    have HA : Hid (∀ t, t ≤ K → (argTo (valL ns) ks t).length ≤ 100000000) := fun t ht => by
      have h1 := argTo_len (b := 30000000) (fun c hc => (HLen.out c hc).2.2.2) t (by rw [HK.out]; exact ht)
      have h2 : t * (30000000 + 2) ≤ 3 * (30000000 + 2) := Nat.mul_le_mul_right _ (by omega)
      omega
    have hnl : tx.data.toList.length ≤ 8 := by rw [Array.length_toList]; exact hname
    have H0 : Hid (tx ++ ⟨#[40]⟩ = txt (tx.data.toList ++ [40] ++ argTo (valL ns) ks 0)) := by
      show _ = _
      simp only [argTo, List.append_nil]
      rw [← txt_append, htx.out]
      rfl
    have B0 : Hid (Box w (.cells #[.int .i64 12, .int .i64 nm, .string tx, .slice ka K kc] 87) (w.alloc (.cells #[.int .i64 12, .int .i64 nm, .string tx, .slice ka K kc] 87))) := Box.first _ _
    go_enter Tryz.func30, Tryz.ntmps30
    go_wp2
    go_loopw [6, 7] (fun s i wr => ∃ (t : Nat) (S : ByteArray), t ≤ K ∧ i = .int .i64 (t : Int) ∧ s = .string S ∧ Hid (S = txt (tx.data.toList ++ [40] ++ argTo (valL ns) ks t)) ∧ Hid (Box w (.cells #[.int .i64 12, .int .i64 nm, .string tx, .slice ka K kc] 87) wr)) (fun _ i _ => K - (intOf i).toNat)
    case atStart => exact ⟨0, _, Nat.zero_le _, rfl, rfl, H0, B0⟩
    case round =>
      obtain ⟨t, S, ht, rfl, rfl, HS, HW⟩ := hrel
      have y3 : wr.cell? ⟨w.heap.size, 3, none⟩ = some (.slice ka K kc) := HW.out.cell 3
      have hSs : S.size ≤ 100000009 := by
        rw [HS.out, txt_size, List.length_append, List.length_append]
        have := HA.out t ht
        simp
        omega
      clear e0 e1 e2 e3
      by_cases hlt : t < K
      · have ht0 : (0 : Int) ≤ (t : Int) := by omega
        have ht1 : (t : Int) < (K : Int) := by omega
        have htl : t < ks.length := by rw [HK.out]; exact hlt
        obtain ⟨kb, ko, rfl, hkb, t0⟩ := HI.out.at t htl
        obtain ⟨c, hc⟩ : ∃ c, Hid (ks[t] = c) := ⟨_, (rfl : ks[t] = ks[t])⟩
        have f0 := (HW.out.below.cell (p := ⟨kb, ko + t, none⟩) (by show kb < _; omega)).trans t0
        rw [hc.out] at f0
        have hcm : c ∈ ks := by rw [← hc.out]; exact List.getElem_mem htl
        obtain ⟨P, hP⟩ : ∃ P, Hid (txt (valL ns c) = P) := ⟨_, (rfl : txt (valL ns c) = txt (valL ns c))⟩
        have hPs : P.size ≤ 30000000 := by rw [← hP.out, txt_size]; exact (HLen.out c hcm).2.2.2
        have cK : Hid (∀ W, Below w.heap.size w W → Calls Tryz.prog 30 #[.slice (some ⟨b, off, none⟩) N nc, .int .i64 c] W fun e w' => e = .returned (.string P) ∧ Below W.heap.size W w') := fun W hW => by rw [← hP.out]; exact HVal.out c hcm W hW
        have HNX : Hid (txt (tx.data.toList ++ [40] ++ argTo (valL ns) ks (t + 1)) = S ++ txt (if t = 0 then [] else [44, 32]) ++ P) := by
          show _ = _
          rw [HS.out, ← hP.out, txt_append, txt_append]
          simp only [argTo, getD_at htl, hc.out, List.append_assoc]
        clear t0
        by_cases htz : t = 0
        · subst htz
          rw [Nat.add_zero] at f0
          have HN2 : Hid (S ++ P = txt (tx.data.toList ++ [40] ++ argTo (valL ns) ks (0 + 1))) := by
            show _ = _
            rw [HNX.out, HS.out, if_pos rfl, txt_append, List.append_nil]
          go_wp2_with (go_at_call 30; refine Calls.mono (cK.out _ HW.out.below) ?_; rintro e w2 ⟨rfl, hb2⟩; have HW2 : Hid (Box w (.cells #[.int .i64 12, .int .i64 nm, .string tx, .slice (some ⟨kb, ko, none⟩) K kc] 87) w2) := HW.out.next hb2)
          go_roundw
          case rel => exact ⟨0 + 1, _, by omega, by go_num, rfl, HN2, HW2⟩
          case measure => simp [intOf]; omega
        · have htp : (0 : Int) < (t : Int) := by omega
          have HN2 : Hid (S ++ ⟨#[44, 32]⟩ ++ P = txt (tx.data.toList ++ [40] ++ argTo (valL ns) ks (t + 1))) := by
            show _ = _
            rw [HNX.out, if_neg htz]
            rfl
          go_wp2_with (go_at_call 30; refine Calls.mono (cK.out _ HW.out.below) ?_; rintro e w2 ⟨rfl, hb2⟩; have HW2 : Hid (Box w (.cells #[.int .i64 12, .int .i64 nm, .string tx, .slice (some ⟨kb, ko, none⟩) K kc] 87) w2) := HW.out.next hb2)
          go_roundw
          case rel => exact ⟨t + 1, _, by omega, by go_num, rfl, HN2, HW2⟩
          case measure => simp [intOf]; omega
      · have HtK : Hid (t = K) := (by omega : t = K)
        have HF : Hid (txt R = S ++ ⟨#[41]⟩) := by show _ = _; rw [HE.out, HS.out, HtK.out]
        go_wp2
        go_ret
        exact ⟨by rw [HF.out]; rfl, HW.out.below⟩
  · -- one of two
    have hK2 : K = 2 := htwo hpr.1 hpr.2
    subst hK2
    have h0l : 0 < ks.length := by rw [HK.out]; omega
    have h1l : 1 < ks.length := by rw [HK.out]; omega
    obtain ⟨kb, ko, rfl, hkb, t0⟩ := HI.out.at 0 h0l
    obtain ⟨kb', ko', had, _, t1⟩ := HI.out.at 1 h1l
    cases had
    obtain ⟨c, hc⟩ : ∃ c, Hid (ks[0] = c) := ⟨_, (rfl : ks[0] = ks[0])⟩
    obtain ⟨d, hd⟩ : ∃ d, Hid (ks[1] = d) := ⟨_, (rfl : ks[1] = ks[1])⟩
    rw [hc.out, Nat.add_zero] at t0
    rw [hd.out] at t1
    have hcm : c ∈ ks := by rw [← hc.out]; exact List.getElem_mem h0l
    have hdm : d ∈ ks := by rw [← hd.out]; exact List.getElem_mem h1l
    have HG : Hid (ks.getD 0 0 = c ∧ ks.getD 1 0 = d) := ⟨by rw [getD_at h0l, hc.out], by rw [getD_at h1l, hd.out]⟩
    obtain ⟨P, hP⟩ : ∃ P, Hid (txt (parL ns (valL ns) c) = P) := ⟨_, (rfl : txt (parL ns (valL ns) c) = txt (parL ns (valL ns) c))⟩
    obtain ⟨Q, hQ⟩ : ∃ P, Hid (txt (parL ns (valL ns) d) = P) := ⟨_, (rfl : txt (parL ns (valL ns) d) = txt (parL ns (valL ns) d))⟩
    obtain ⟨G, hG⟩ : ∃ P, Hid (txt (sgnL kd) = P) := ⟨_, (rfl : txt (sgnL kd) = txt (sgnL kd))⟩
    have hPs : P.size ≤ 30000002 := by rw [← hP.out, txt_size]; exact HPar.out c hcm
    have hQs : Q.size ≤ 30000002 := by rw [← hQ.out, txt_size]; exact HPar.out d hdm
    have hGs : G.size ≤ 4 := by rw [← hG.out, txt_size]; exact sgnL_len kd
    have HE : Hid (txt R = P ++ G ++ Q) := by
      show _ = _
      rw [HB.out]
      have hv : valBody ns (valL ns) ⟨kd, nm, tx, ks⟩ = parL ns (valL ns) (ks.getD 0 0) ++ sgnL kd ++ parL ns (valL ns) (ks.getD 1 0) := by
        unfold valBody
        simp only
        rw [if_neg (by omega), if_neg (by omega), if_neg (by omega), if_neg (by omega), if_neg (by omega), if_neg (by omega), if_neg (by omega), if_neg (by omega), if_neg (by omega)]
      rw [hv, ← txt_append, ← txt_append, HG.out.1, HG.out.2, hP.out, hQ.out, hG.out]
    have cK : Hid (∀ W, Below w.heap.size w W → Calls Tryz.prog 69 #[.slice (some ⟨b, off, none⟩) N nc, .int .i64 c] W fun e w' => e = .returned (.string P) ∧ Below W.heap.size W w') := fun W hW => by rw [← hP.out]; exact HKid.out c hcm W hW
    have cL : Hid (∀ W, Below w.heap.size w W → Calls Tryz.prog 69 #[.slice (some ⟨b, off, none⟩) N nc, .int .i64 d] W fun e w' => e = .returned (.string Q) ∧ Below W.heap.size W w') := fun W hW => by rw [← hQ.out]; exact HKid.out d hdm W hW
    have cG : Hid (∀ W, Calls Tryz.prog 70 #[.int .i64 kd] W fun e w' => e = .returned (.string G) ∧ w' = W) := fun W => by rw [← hG.out]; exact l06Sign_any kd W
    have hs1 : ¬ 9223372036854775807 < P.size + G.size := by omega
    have hs2 : ¬ 9223372036854775807 < P.size + G.size + Q.size := by omega
    have hkw : kb < w.heap.size := by omega
    have n1 : (kd == 1) = false := by simp; omega
    have n2 : (kd == 2) = false := by simp; omega
    have n3 : (kd == 3) = false := by simp; omega
    have n4 : (kd == 4) = false := by simp; omega
    have n5 : (kd == 5) = false := by simp; omega
    have n6 : (kd == 6) = false := by simp; omega
    have n7 : (kd == 7) = false := by simp; omega
    have n8 : (kd == 8) = false := by simp; omega
    have n12 : (kd == 12) = false := by simp; omega
    go_enter Tryz.func30, Tryz.ntmps30
    have B0 : Hid (Box w (.cells #[.int .i64 kd, .int .i64 nm, .string tx, .slice (some ⟨kb, ko, none⟩) 2 kc] 87) (w.alloc (.cells #[.int .i64 kd, .int .i64 nm, .string tx, .slice (some ⟨kb, ko, none⟩) 2 kc] 87))) := Box.first _ _
    have HS : Hid (∀ W, Box w (.cells #[.int .i64 kd, .int .i64 nm, .string tx, .slice (some ⟨kb, ko, none⟩) 2 kc] 87) W → (W.cell? ⟨w.heap.size, 0, none⟩ = some (.int .i64 kd) ∧ W.cell? ⟨w.heap.size, 3, none⟩ = some (.slice (some ⟨kb, ko, none⟩) 2 kc)) ∧ W.cell? ⟨kb, ko, none⟩ = some (.int .i64 c) ∧ W.cell? ⟨kb, ko + 1, none⟩ = some (.int .i64 d)) := fun W h => ⟨⟨h.cell 0, h.cell 3⟩, (h.below.cell (p := ⟨kb, ko, none⟩) hkw).trans t0, (h.below.cell (p := ⟨kb, ko + 1, none⟩) hkw).trans t1⟩
    go_wp2_with fail
    go_region_held3 (fun w' => (w'.cell? ⟨w.heap.size, 0, none⟩ = some (.int .i64 kd) ∧ w'.cell? ⟨w.heap.size, 3, none⟩ = some (.slice (some ⟨kb, ko, none⟩) 2 kc)) ∧ w'.cell? ⟨kb, ko, none⟩ = some (.int .i64 c) ∧ w'.cell? ⟨kb, ko + 1, none⟩ = some (.int .i64 d)) (first | exact HS.out _ DB | exact HS.out _ DA | exact HS.out _ B0.out.drew) (first | (go_at_call 70; refine Calls.mono (cG.out _) ?_; rintro e wG ⟨rfl, hwG⟩; have hwG2 := hwG.symm; subst hwG2) | (have _z := DA; go_at_call 69; refine Calls.mono (cL.out _ DA.below) ?_; rintro e wB ⟨rfl, hbB⟩; have DB := DA.next hbB) | (go_at_call 69; refine Calls.mono (cK.out _ B0.out.drew.below) ?_; rintro e wA ⟨rfl, hbA⟩; have DA := B0.out.drew.next hbA))
    all_goals
      have HF : Hid (Below w.heap.size w wB) := DB.below
      clear DA DB hbA hbB
      go_wp2
      go_ret
      exact ⟨by rw [HE.out]; rfl, HF.out⟩

end Go.Proofs.YtbanmldmdoedkaaGreatDoor
