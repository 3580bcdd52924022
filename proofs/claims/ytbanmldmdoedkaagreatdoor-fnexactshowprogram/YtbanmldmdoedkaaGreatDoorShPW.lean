/-
  ShowProgram, in the program: lines, and statements of a block, written by a line writer.
-/
import Derived.Test.YtbanmldmdoedkaaGreatDoorShVX
import Derived.Test.YtbanmldmdoedkaaGreatDoorPlain26
import Derived.Lib.Repeat
namespace Go.Proofs.YtbanmldmdoedkaaGreatDoor
open Go.RowKit

/-- So many times two blanks. -/
def blk2 (c : Nat) : List UInt8 := List.replicate (2 * c) 32
theorem blk2_repeat (c : Nat) : Lib.repeatL [32, 32] c = blk2 c := by
  have := Lib.repeatL_replicate 32 2 c
  unfold blk2
  rw [Nat.mul_comm]
  exact this
theorem catL_one (L : List UInt8) : catL [⟨L.toArray⟩] = L := by simp [catL]

set_option maxRecDepth 100000 in
theorem lwBegin_of (nv : Value) (b c : Nat) (w0 : World) (hc : c ≤ 21) : Writes Tryz.prog 107 #[.pointer (some ⟨b, 0, none⟩), .int .i64 (c : Int)] w0 b nv (blk2 c) := by
  intro l w hB0 hlw hlen
  have hz : w0.heap.size ≤ w.heap.size := hB0.size
  have S0 : Hid (Stand w0 w b nv l w) := Stand.first hlw
  obtain ⟨D, hD⟩ : ∃ D : ByteArray, Hid ((⟨(blk2 c).toArray⟩ : ByteArray) = D) := ⟨_, (rfl : (⟨(blk2 c).toArray⟩ : ByteArray) = ⟨(blk2 c).toArray⟩)⟩
  have HE : Hid (catL [D] = blk2 c) := by rw [← hD.out]; exact catL_one _
  rw [← HE.out] at hlen ⊢
  have HZ : Hid (l.length + (catL [D]).length ≤ 100000000000000) := hlen
  have cR : Hid (∀ W, Calls Tryz.prog 155 #[.string ⟨#[32, 32]⟩, .int .i64 (c : Int)] W fun e w' => e = .returned (.string D) ∧ Below W.heap.size W w') := fun W => by
    rw [← hD.out, ← blk2_repeat]
    exact Tryz.strings_Repeat ⟨#[32, 32]⟩ c W (by omega) (by show 2 * c ≤ _; omega)
  clear hlen hlw hB0
  go_enter Tryz.func107, Tryz.ntmps107
  go_wp2_with fail
  go_at_call 155
  refine Calls.mono (cR.out _) ?_
  rintro e w1 ⟨rfl, hb1⟩
  have S1 : Hid (Stand w0 w b nv l w1) := S0.out.next hz hb1
  clear hb1
  go_wp2_with fail
  go_at_call 99
  refine Calls.mono (S1.out.texts hz [D] 1 rfl (by omega) HZ.out rfl) ?_
  rintro e w2 ⟨rfl, s2⟩
  have S2 : Hid (Wrote w0.heap.size b nv (l ++ catL [D]) w (.returned (.tuple #[])) w2) := s2.wrote hz (Below.refl _ _)
  clear s2
  go_wp2
  go_returns
  exact S2.out

set_option maxRecDepth 100000 in
theorem lwLine_of (nv : Value) (b c : Nat) (w0 : World) (hc : c ≤ 21) (X : ByteArray) : Writes Tryz.prog 108 #[.pointer (some ⟨b, 0, none⟩), .int .i64 (c : Int), .string X] w0 b nv (blk2 c ++ catL [X, ⟨#[10]⟩]) := by
  intro l w hB0 hlw hlen
  have HB : Hid (Below w0.heap.size w0 w) := hB0
  have hz : w0.heap.size ≤ w.heap.size := hB0.size
  have S0 : Hid (Stand w0 w b nv l w) := Stand.first hlw
  have HZ : Hid (l.length + (blk2 c).length ≤ 100000000000000 ∧ (l ++ blk2 c).length + (catL [X, ⟨#[10]⟩]).length ≤ 100000000000000) := len2 hlen
  have cB : Hid (Writes Tryz.prog 107 #[.pointer (some ⟨b, 0, none⟩), .int .i64 (c : Int)] w0 b nv (blk2 c)) := lwBegin_of nv b c w0 hc
  have HL : Hid (l ++ (blk2 c ++ catL [X, ⟨#[10]⟩]) = l ++ blk2 c ++ catL [X, ⟨#[10]⟩]) := by show _ = _; rw [List.append_assoc]
  rw [HL.out]
  clear hlen hlw hB0
  go_enter Tryz.func108, Tryz.ntmps108
  go_wp2_with fail
  go_at_call 107
  refine Calls.mono (S0.out.call HB.out cB.out HZ.out.1) ?_
  rintro e w1 ⟨rfl, s1⟩
  have S1 : Hid (Stand w0 w b nv (l ++ blk2 c) w1) := s1
  clear s1
  go_wp2_with fail
  go_at_call 99
  refine Calls.mono (S1.out.texts hz [X, ⟨#[10]⟩] 2 rfl (by omega) HZ.out.2 rfl) ?_
  rintro e w2 ⟨rfl, s2⟩
  have S2 : Hid (Wrote w0.heap.size b nv (l ++ blk2 c ++ catL [X, ⟨#[10]⟩]) w (.returned (.tuple #[])) w2) := s2.wrote hz (Below.refl _ _)
  clear s2
  go_wp2
  go_returns
  exact S2.out

/-- How a statement begins. -/
def aheadT (kd : Int) (tx : ByteArray) : List ByteArray :=
  if kd = 13 then [⟨#[108, 101, 116, 32]⟩, tx, ⟨#[32, 61, 32]⟩]
  else if kd = 14 then [tx, ⟨#[32, 61, 32]⟩]
  else if kd = 15 then [⟨#[42]⟩, tx, ⟨#[32, 61, 32]⟩]
  else if kd = 16 then [⟨#[105, 102, 32]⟩]
  else if kd = 17 then [⟨#[119, 104, 105, 108, 101, 32]⟩]
  else if kd = 18 then [⟨#[112, 114, 105, 110, 116, 32]⟩]
  else [⟨#[100, 111, 32]⟩]

set_option maxRecDepth 100000 in
set_option maxHeartbeats 1600000 in
theorem lwAhead_of (nv : Value) (b K kc : Nat) (ka : Option Addr) (w0 : World) (kd nm : Int) (tx : ByteArray) (hk : 13 ≤ kd ∧ kd ≤ 19) :
    Writes Tryz.prog 180 #[.pointer (some ⟨b, 0, none⟩), .agg #[.int .i64 kd, .int .i64 nm, .string tx, .slice ka K kc]] w0 b nv (catL (aheadT kd tx)) := by
  intro l w hB0 hlw hlen
  have hz : w0.heap.size ≤ w.heap.size := hB0.size
  have HA : Hid (Laid w0 w b nv l #[.int .i64 kd, .int .i64 nm, .string tx, .slice ka K kc] 87 (w.alloc (.cells #[.int .i64 kd, .int .i64 nm, .string tx, .slice ka K kc] 87))) := Laid.make hB0 hlw _ _
  have HZ0 : Hid (l.length + (catL (aheadT kd tx)).length ≤ 100000000000000) := hlen
  clear hB0 hlw hlen
  have hcase : kd = 13 ∨ kd = 14 ∨ kd = 15 ∨ kd = 16 ∨ kd = 17 ∨ kd = 18 ∨ kd = 19 := by omega
  rcases hcase with rfl | rfl | rfl | rfl | rfl | rfl | rfl
  · have HZ : Hid (l.length + (catL [⟨#[108, 101, 116, 32]⟩, tx, ⟨#[32, 61, 32]⟩]).length ≤ 100000000000000) := HZ0.out
    show Calls _ _ _ _ (Wrote w0.heap.size b nv (l ++ catL [⟨#[108, 101, 116, 32]⟩, tx, ⟨#[32, 61, 32]⟩]) w)
    go_enter Tryz.func180, Tryz.ntmps180
    go_wp2_with fail
    go_at_call 99
    refine Calls.mono (HA.out.stand.texts HA.out.size [⟨#[108, 101, 116, 32]⟩, tx, ⟨#[32, 61, 32]⟩] 3 rfl (by omega) HZ.out (by simp)) ?_
    rintro e w2 ⟨rfl, s2⟩
    have S2 : Hid (Wrote w0.heap.size b nv (l ++ catL [⟨#[108, 101, 116, 32]⟩, tx, ⟨#[32, 61, 32]⟩]) w (.returned (.tuple #[])) w2) := s2.wrote hz HA.out.up
    clear s2
    go_wp2
    go_returns
    exact S2.out
  · have HZ : Hid (l.length + (catL [tx, ⟨#[32, 61, 32]⟩]).length ≤ 100000000000000) := HZ0.out
    show Calls _ _ _ _ (Wrote w0.heap.size b nv (l ++ catL [tx, ⟨#[32, 61, 32]⟩]) w)
    go_enter Tryz.func180, Tryz.ntmps180
    go_wp2_with fail
    go_at_call 99
    refine Calls.mono (HA.out.stand.texts HA.out.size [tx, ⟨#[32, 61, 32]⟩] 2 rfl (by omega) HZ.out (by simp)) ?_
    rintro e w2 ⟨rfl, s2⟩
    have S2 : Hid (Wrote w0.heap.size b nv (l ++ catL [tx, ⟨#[32, 61, 32]⟩]) w (.returned (.tuple #[])) w2) := s2.wrote hz HA.out.up
    clear s2
    go_wp2
    go_returns
    exact S2.out
  · have HZ : Hid (l.length + (catL [⟨#[42]⟩, tx, ⟨#[32, 61, 32]⟩]).length ≤ 100000000000000) := HZ0.out
    show Calls _ _ _ _ (Wrote w0.heap.size b nv (l ++ catL [⟨#[42]⟩, tx, ⟨#[32, 61, 32]⟩]) w)
    go_enter Tryz.func180, Tryz.ntmps180
    go_wp2_with fail
    go_at_call 99
    refine Calls.mono (HA.out.stand.texts HA.out.size [⟨#[42]⟩, tx, ⟨#[32, 61, 32]⟩] 3 rfl (by omega) HZ.out (by simp)) ?_
    rintro e w2 ⟨rfl, s2⟩
    have S2 : Hid (Wrote w0.heap.size b nv (l ++ catL [⟨#[42]⟩, tx, ⟨#[32, 61, 32]⟩]) w (.returned (.tuple #[])) w2) := s2.wrote hz HA.out.up
    clear s2
    go_wp2
    go_returns
    exact S2.out
  · have HZ : Hid (l.length + (catL [⟨#[105, 102, 32]⟩]).length ≤ 100000000000000) := HZ0.out
    show Calls _ _ _ _ (Wrote w0.heap.size b nv (l ++ catL [⟨#[105, 102, 32]⟩]) w)
    go_enter Tryz.func180, Tryz.ntmps180
    go_wp2_with fail
    go_at_call 99
    refine Calls.mono (HA.out.stand.texts HA.out.size [⟨#[105, 102, 32]⟩] 1 rfl (by omega) HZ.out (by simp)) ?_
    rintro e w2 ⟨rfl, s2⟩
    have S2 : Hid (Wrote w0.heap.size b nv (l ++ catL [⟨#[105, 102, 32]⟩]) w (.returned (.tuple #[])) w2) := s2.wrote hz HA.out.up
    clear s2
    go_wp2
    go_returns
    exact S2.out
  · have HZ : Hid (l.length + (catL [⟨#[119, 104, 105, 108, 101, 32]⟩]).length ≤ 100000000000000) := HZ0.out
    show Calls _ _ _ _ (Wrote w0.heap.size b nv (l ++ catL [⟨#[119, 104, 105, 108, 101, 32]⟩]) w)
    go_enter Tryz.func180, Tryz.ntmps180
    go_wp2_with fail
    go_at_call 99
    refine Calls.mono (HA.out.stand.texts HA.out.size [⟨#[119, 104, 105, 108, 101, 32]⟩] 1 rfl (by omega) HZ.out (by simp)) ?_
    rintro e w2 ⟨rfl, s2⟩
    have S2 : Hid (Wrote w0.heap.size b nv (l ++ catL [⟨#[119, 104, 105, 108, 101, 32]⟩]) w (.returned (.tuple #[])) w2) := s2.wrote hz HA.out.up
    clear s2
    go_wp2
    go_returns
    exact S2.out
  · have HZ : Hid (l.length + (catL [⟨#[112, 114, 105, 110, 116, 32]⟩]).length ≤ 100000000000000) := HZ0.out
    show Calls _ _ _ _ (Wrote w0.heap.size b nv (l ++ catL [⟨#[112, 114, 105, 110, 116, 32]⟩]) w)
    go_enter Tryz.func180, Tryz.ntmps180
    go_wp2_with fail
    go_at_call 99
    refine Calls.mono (HA.out.stand.texts HA.out.size [⟨#[112, 114, 105, 110, 116, 32]⟩] 1 rfl (by omega) HZ.out (by simp)) ?_
    rintro e w2 ⟨rfl, s2⟩
    have S2 : Hid (Wrote w0.heap.size b nv (l ++ catL [⟨#[112, 114, 105, 110, 116, 32]⟩]) w (.returned (.tuple #[])) w2) := s2.wrote hz HA.out.up
    clear s2
    go_wp2
    go_returns
    exact S2.out
  · have HZ : Hid (l.length + (catL [⟨#[100, 111, 32]⟩]).length ≤ 100000000000000) := HZ0.out
    show Calls _ _ _ _ (Wrote w0.heap.size b nv (l ++ catL [⟨#[100, 111, 32]⟩]) w)
    go_enter Tryz.func180, Tryz.ntmps180
    go_wp2_with fail
    go_at_call 99
    refine Calls.mono (HA.out.stand.texts HA.out.size [⟨#[100, 111, 32]⟩] 1 rfl (by omega) HZ.out (by simp)) ?_
    rintro e w2 ⟨rfl, s2⟩
    have S2 : Hid (Wrote w0.heap.size b nv (l ++ catL [⟨#[100, 111, 32]⟩]) w (.returned (.tuple #[])) w2) := s2.wrote hz HA.out.up
    clear s2
    go_wp2
    go_returns
    exact S2.out

set_option maxRecDepth 100000 in
set_option maxHeartbeats 1600000 in
theorem lwSteps_of (va : Option Addr) (N nc b c i : Nat) (ns : List Nd) (w0 : World) (nv : Value) (HNV : Hid (nv = .slice va N nc)) (HN : Hid (ns.length = N)) (hc : c < N) (HR : Hid (NdR.Row w0 w0.heap.size (.slice va N nc) ns)) (hk12 : (ns.getD c nd0).kids.length ≤ 12)
    (cS : Hid (∀ e ∈ (ns.getD c nd0).kids, Writes Tryz.prog 154 #[.pointer (some ⟨b, 0, none⟩), .int .i64 e, .int .i64 (i : Int)] w0 b nv (stepL ns e (i : Int)))) :
    Writes Tryz.prog 106 #[.pointer (some ⟨b, 0, none⟩), .int .i64 (c : Int), .int .i64 (i : Int)] w0 b nv (blkL ns (stepL ns) (c : Int) (i : Int)) := by
  intro l w hB0 hlw hlen
  have HB : Hid (Below w0.heap.size w0 w) := hB0
  have hz : w0.heap.size ≤ w.heap.size := hB0.size
  have hcl : c < ns.length := by rw [HN.out]; exact hc
  obtain ⟨nb, off, ka, kc, rfl, hb, _, _, _, e3, hK⟩ := RowNd.at HR.out c hcl
  obtain ⟨ks, hks⟩ : ∃ ks, Hid (ns[c].kids = ks) := ⟨_, (rfl : ns[c].kids = ns[c].kids)⟩
  have HKS : Hid ((ns.getD c nd0).kids = ks) := by show _ = _; rw [← hks.out]; simp [List.getD, hcl]
  rw [hks.out] at e3 hK
  rw [HKS.out] at cS hk12
  obtain ⟨K, HK⟩ : ∃ K, Hid (ks.length = K) := ⟨_, (rfl : ks.length = ks.length)⟩
  rw [HK.out] at e3 hK hk12
  have HI : Hid (RowI w0 w0.heap.size (.slice ka K kc) ks) := hK
  have HE : Hid (blkL ns (stepL ns) (c : Int) (i : Int) = stepsTo (stepL ns) ks (i : Int) K) := by
    show _ = _
    unfold blkL
    rw [Int.toNat_natCast, HKS.out, HK.out]
  rw [HE.out] at hlen ⊢
  have HZ : Hid (l.length + (stepsTo (stepL ns) ks (i : Int) K).length ≤ 100000000000000) := hlen
  have hc0 : (0 : Int) ≤ (c : Int) := by omega
  have hc1 : (c : Int) < (N : Int) := by omega
  have f3 := (hB0.cell (p := ⟨nb, off + c * 4 + 3, none⟩) hb).trans e3
  have n0 := hlw.nodes
  rw [HNV.out] at n0
  have S0 : Hid (Stand w0 w b nv (l ++ stepsTo (stepL ns) ks (i : Int) 0) w) := by show Stand _ _ _ _ _ _; simp only [stepsTo, List.append_nil]; exact Stand.first hlw
  clear hK e3 hB0 hlw hlen
  go_enter Tryz.func106, Tryz.ntmps106
  go_wp2
  go_loopw [17] (fun j wr => ∃ t : Nat, t ≤ K ∧ j = .int .i64 (t : Int) ∧ Hid (Stand w0 w b nv (l ++ stepsTo (stepL ns) ks (i : Int) t) wr)) (fun j _ => K - (intOf j).toNat)
  case atStart => exact ⟨0, Nat.zero_le _, rfl, S0⟩
  case round =>
    obtain ⟨t, ht, rfl, HS⟩ := hrel
    clear f3 n0
    by_cases hlt : t < K
    · have ht0 : (0 : Int) ≤ (t : Int) := by omega
      have ht1 : (t : Int) < (K : Int) := by omega
      have htl : t < ks.length := by rw [HK.out]; exact hlt
      obtain ⟨kb, ko, rfl, hkb, t0⟩ := HI.out.at t htl
      obtain ⟨e, he⟩ : ∃ e, Hid (ks[t] = e) := ⟨_, (rfl : ks[t] = ks[t])⟩
      have f0 := ((HB.out.trans HS.out.2.1).cell (p := ⟨kb, ko + t, none⟩) (by show kb < _; omega)).trans t0
      rw [he.out] at f0
      have hem : e ∈ ks := by rw [← he.out]; exact List.getElem_mem htl
      have HE2 : Hid (l ++ stepsTo (stepL ns) ks (i : Int) (t + 1) = l ++ stepsTo (stepL ns) ks (i : Int) t ++ stepL ns e (i : Int)) := by
        show _ = _
        simp only [stepsTo, getD_at htl, he.out, List.append_assoc]
      have HZ2 : Hid ((l ++ stepsTo (stepL ns) ks (i : Int) t).length + (stepL ns e (i : Int)).length ≤ 100000000000000) := by
        show _ ≤ _
        have h1 := congrArg List.length HE2.out
        have h2 := stepsTo_mono (stepL ns) ks (i : Int) (t + 1) K (by omega)
        have h3 := HZ.out
        simp only [List.length_append] at h1 ⊢
        omega
      clear t0
      go_wp2_with fail
      go_at_call 154
      refine Calls.mono (HS.out.call HB.out (cS.out e hem) HZ2.out) ?_
      rintro e' w2 ⟨rfl, s2⟩
      have S2 : Hid (Stand w0 w b nv (l ++ stepsTo (stepL ns) ks (i : Int) (t + 1)) w2) := by rw [HE2.out]; exact s2
      clear s2
      go_wp2
      go_roundw
      case rel => exact ⟨t + 1, by omega, by go_num, S2⟩
      case measure => simp [intOf]; omega
    · have htK : t = K := by omega
      subst htK
      go_wp2
      go_returns
      exact HS.out.wrote hz (Below.refl _ _)

end Go.Proofs.YtbanmldmdoedkaaGreatDoor
