/-
  ShowValue, in the program: values written by a line writer; where the powers of ten lie as the library's text lays them.
-/
import Derived.Test.YtbanmldmdoedkaaGreatDoorLineW
import Derived.Test.YtbanmldmdoedkaaGreatDoorShowV
import Derived.Test.YtbanmldmdoedkaaGreatDoorLawDec
namespace Go.Proofs.YtbanmldmdoedkaaGreatDoor
open Go.RowKit

/-- A call that writes L more. -/
def Writes (P : Program) (F : FuncId) (args : Array Value) (w0 : World) (b : Nat) (nv : Value) (L : List UInt8) : Prop :=
  ∀ (l : List UInt8) (w : World), Below w0.heap.size w0 w → Lw w0.heap.size b nv l w → l.length + L.length ≤ 100000000000000 → Calls P F args w (Wrote w0.heap.size b nv (l ++ L) w)

/-- Behind a: a line writer that holds L; nothing below w0's blocks has turned, nor any block of another kind. -/
def Stand (w0 a : World) (b : Nat) (nv : Value) (L : List UInt8) (W : World) : Prop := Lw w0.heap.size b nv L W ∧ Below w0.heap.size a W ∧ KeepsW a W
theorem Stand.first {w0 a : World} {b : Nat} {nv : Value} {L : List UInt8} (h : Lw w0.heap.size b nv L a) : Stand w0 a b nv L a := ⟨h, Below.refl _ _, KeepsW.refl _⟩
theorem Stand.next {w0 a : World} {b : Nat} {nv : Value} {L : List UInt8} {W W' : World} (ha : w0.heap.size ≤ a.heap.size) (h : Stand w0 a b nv L W) (hb : Below W.heap.size W W') : Stand w0 a b nv L W' := ⟨h.1.below hb, h.2.1.trans (hb.mono (Nat.le_trans ha h.2.1.size)), h.2.2.trans (keepsW_below hb)⟩
theorem Stand.alloc {w0 a : World} {b : Nat} {nv : Value} {L : List UInt8} {W : World} (ha : w0.heap.size ≤ a.heap.size) (h : Stand w0 a b nv L W) (o : Obj) : Stand w0 a b nv L (W.alloc o) := h.next ha ((Below.refl _ _).alloc (Nat.le_refl _) _)
theorem Stand.drew {w0 a : World} {b : Nat} {nv : Value} {L : List UInt8} {W : World} (ha : w0.heap.size ≤ a.heap.size) (h : Stand w0 a b nv L W) : Stand w0 a b nv L W.drew := h.next ha (Below.refl _ _).drew
theorem Stand.wrote {w0 w a : World} {b : Nat} {nv : Value} {L : List UInt8} {W : World} (h : Stand w0 a b nv L W) (h0 : w0.heap.size ≤ w.heap.size) (ha : Below w.heap.size w a) : Wrote w0.heap.size b nv L w (.returned (.tuple #[])) W := ⟨rfl, h.1, (ha.mono h0).trans h.2.1, (keepsW_below ha).trans h.2.2⟩
theorem Stand.cell {w0 a : World} {b : Nat} {nv : Value} {L : List UInt8} {W : World} (h : Stand w0 a b nv L W) {y : Nat} {cs : Array Value} {T : TypeId} (hy : a.heap[y]? = some (.cells cs T (0, 0))) (h1 : T ≠ 5) (h2 : T ≠ 94) (j : Nat) : W.cell? ⟨y, j, none⟩ = cs[j]? := Lib.cell_of_heap (h.2.2 y cs T _ h1 h2 hy) j
/-- Texts written at once: at a world that has just laid them. -/
theorem Stand.texts {w0 a : World} {b : Nat} {nv : Value} {L : List UInt8} {W : World} (ha : w0.heap.size ≤ a.heap.size) (h : Stand w0 a b nv L W) (ss : List ByteArray) (n : Nat) (hn : ss.length = n) (h8 : n ≤ 8) (hl : L.length + (catL ss).length ≤ 100000000000000) {g : Nat} (hg : W.heap.size = g) :
    Calls Tryz.prog 99 #[.pointer (some ⟨b, 0, none⟩), .slice (some ⟨g, 0, none⟩) n n] (W.alloc (.cells (ss.map Value.string).toArray 9)) fun e w' => e = .returned (.tuple #[]) ∧ Stand w0 a b nv (L ++ catL ss) w' := by
  subst hg
  have hs := h.alloc ha (.cells (ss.map Value.string).toArray 9)
  refine (lwWrite_any w0.heap.size b W.heap.size nv L ss n _ hs.1 hn (heap_alloc_new _ _) h8 hl (Nat.le_trans ha hs.2.1.size)).mono ?_
  rintro e w' ⟨rfl, h1, h2, h3⟩
  exact ⟨rfl, h1, hs.2.1.trans h2, hs.2.2.trans h3⟩
theorem Stand.call {P : Program} {F : FuncId} {args : Array Value} {w0 a : World} {b : Nat} {nv : Value} {L X : List UInt8} {W : World} (h : Stand w0 a b nv L W) (hb : Below w0.heap.size w0 a) (c : Writes P F args w0 b nv X) (hl : L.length + X.length ≤ 100000000000000) :
    Calls P F args W fun e w' => e = .returned (.tuple #[]) ∧ Stand w0 a b nv (L ++ X) w' := by
  refine (c L W (hb.trans h.2.1) h.1 hl).mono ?_
  rintro e w' ⟨rfl, h1, h2, h3⟩
  exact ⟨rfl, h1, h.2.1.trans h2, h.2.2.trans h3⟩
theorem len3 {l A B C : List UInt8} (h : l.length + (A ++ B ++ C).length ≤ 100000000000000) : l.length + A.length ≤ 100000000000000 ∧ (l ++ A).length + B.length ≤ 100000000000000 ∧ (l ++ A ++ B).length + C.length ≤ 100000000000000 := by
  simp only [List.length_append] at h ⊢
  omega
theorem len2 {l A B : List UInt8} (h : l.length + (A ++ B).length ≤ 100000000000000) : l.length + A.length ≤ 100000000000000 ∧ (l ++ A).length + B.length ≤ 100000000000000 := by
  simp only [List.length_append] at h ⊢
  omega

set_option maxRecDepth 100000 in
set_option maxHeartbeats 1600000 in
theorem lwTerm_of (va : Option Addr) (N nc b c : Nat) (ns : List Nd) (HN : Hid (ns.length = N)) (hc : c < N) (w0 : World) (hR : NdR.Row w0 w0.heap.size (.slice va N nc) ns)
    (cV : Hid (Writes Tryz.prog 57 #[.pointer (some ⟨b, 0, none⟩), .int .i64 (c : Int)] w0 b (.slice va N nc) (valL ns (c : Int)))) :
    Writes Tryz.prog 101 #[.pointer (some ⟨b, 0, none⟩), .int .i64 (c : Int)] w0 b (.slice va N nc) (parL ns (valL ns) (c : Int)) := by
  intro l w hB0 hlw hlen
  have hcl : c < ns.length := by rw [HN.out]; exact hc
  have HB : Hid (Below w0.heap.size w0 w) := hB0
  have hz : w0.heap.size ≤ w.heap.size := hB0.size
  obtain ⟨nb, off, ka, kc, rfl, hb, e0, _, _, _, _⟩ := RowNd.at hR c hcl
  obtain ⟨kd, hkd⟩ : ∃ kd, Hid (ns[c].kind = kd) := ⟨_, (rfl : ns[c].kind = ns[c].kind)⟩
  rw [hkd.out] at e0
  have HK : Hid ((ns.getD (c : Int).toNat nd0).kind = kd) := by show _ = _; rw [← hkd.out, Int.toNat_natCast]; simp [List.getD, hcl]
  have hc0 : (0 : Int) ≤ (c : Int) := by omega
  have hc1 : (c : Int) < (N : Int) := by omega
  have f0 := (HB.out.cell (p := ⟨nb, off + c * 4, none⟩) hb).trans e0
  have n0 := hlw.nodes
  obtain ⟨nv, hnv⟩ : ∃ nv : Value, Hid (nv = .slice (some ⟨nb, off, none⟩) N nc) := ⟨_, (rfl : Value.slice (some ⟨nb, off, none⟩) N nc = _)⟩
  have S0 : Hid (Stand w0 w b nv l w) := by rw [hnv.out]; exact Stand.first hlw
  obtain ⟨L, hL⟩ : ∃ L, Hid (valL ns (c : Int) = L) := ⟨_, (rfl : valL ns (c : Int) = valL ns (c : Int))⟩
  rw [hL.out, ← hnv.out] at cV
  rw [← hnv.out]
  have Hlen : Hid (l.length + (parL ns (valL ns) (c : Int)).length ≤ 100000000000000) := hlen
  clear hR e0 hB0 hlw hlen
  by_cases hp : isIn kd 9 11 = true
  · have HP : Hid (parL ns (valL ns) (c : Int) = [40] ++ L ++ [41]) := by show _ = _; unfold parL; rw [HK.out, hp, hL.out]; rfl
    rw [HP.out] at Hlen ⊢
    have hkk : kd = 9 ∨ kd = 10 ∨ kd = 11 := by
      have : 9 ≤ kd ∧ kd ≤ 11 := by simpa [isIn] using hp
      omega
    have HZ : Hid (l.length + ([40] : List UInt8).length ≤ 100000000000000 ∧ (l ++ [40]).length + L.length ≤ 100000000000000 ∧ (l ++ [40] ++ L).length + ([41] : List UInt8).length ≤ 100000000000000) := len3 Hlen.out
    have HQ : Hid (l ++ ([40] ++ L ++ [41]) = l ++ [40] ++ L ++ [41]) := by show _ = _; simp
    rw [HQ.out]
    rcases hkk with rfl | rfl | rfl
    all_goals
      clear hp
      go_enter Tryz.func101, Tryz.ntmps101
      go_wp2_with fail
      go_at_call 99
      refine Calls.mono (S0.out.texts hz [⟨#[40]⟩] 1 rfl (by omega) HZ.out.1 rfl) ?_
      rintro e w1 ⟨rfl, s1⟩
      have S1 : Hid (Stand w0 w b nv (l ++ [40]) w1) := s1
      clear s1
      go_wp2_with fail
      go_at_call 57
      refine Calls.mono (S1.out.call HB.out cV.out HZ.out.2.1) ?_
      rintro e w2 ⟨rfl, s2⟩
      have S2 : Hid (Stand w0 w b nv (l ++ [40] ++ L) w2) := s2
      clear s2
      go_wp2_with fail
      go_at_call 99
      refine Calls.mono (S2.out.texts hz [⟨#[41]⟩] 1 rfl (by omega) HZ.out.2.2 rfl) ?_
      rintro e w3 ⟨rfl, s3⟩
      have S3 : Hid (Stand w0 w b nv (l ++ [40] ++ L ++ [41]) w3) := s3
      clear s3
      go_wp2
      go_returns
      exact S3.out.wrote hz (Below.refl _ _)
  · have HP : Hid (parL ns (valL ns) (c : Int) = L) := by show _ = _; unfold parL; rw [HK.out, if_neg hp, hL.out]
    rw [HP.out] at Hlen ⊢
    have hq : ¬ (9 ≤ kd ∧ kd ≤ 11) := fun h => hp (by simpa [isIn] using h)
    have n9 : (kd == 9) = false := by simp; omega
    have n10 : (kd == 10) = false := by simp; omega
    have n11 : (kd == 11) = false := by simp; omega
    clear hp hq
    go_enter Tryz.func101, Tryz.ntmps101
    go_wp2_with fail
    go_at_call 57
    refine Calls.mono (S0.out.call HB.out cV.out Hlen.out) ?_
    rintro e w2 ⟨rfl, s2⟩
    have S2 : Hid (Stand w0 w b nv (l ++ L) w2) := s2
    clear s2
    go_wp2
    go_returns
    exact S2.out.wrote hz (Below.refl _ _)

theorem argTo_mono (g : Int → List UInt8) (cs : List Int) (t K : Nat) (h : t ≤ K) : (argTo g cs t).length ≤ (argTo g cs K).length := by
  induction K with
  | zero =>
    have : t = 0 := by omega
    subst this
    omega
  | succ K ih =>
    rcases Nat.lt_or_ge t (K + 1) with h1 | h1
    · have := ih (by omega)
      simp only [argTo, List.length_append]
      omega
    · have : t = K + 1 := by omega
      subst this
      omega
/-- Two terms and what stands between them. -/
theorem lwPair_of (nv : Value) (b : Nat) (w0 : World) (kb ko kc : Nat) (c d : Int) (G : ByteArray) (P Q : List UInt8) (hkb : kb < w0.heap.size) (t0 : w0.cell? ⟨kb, ko, none⟩ = some (.int .i64 c)) (t1 : w0.cell? ⟨kb, ko + 1, none⟩ = some (.int .i64 d))
    (cP : Hid (Writes Tryz.prog 101 #[.pointer (some ⟨b, 0, none⟩), .int .i64 c] w0 b nv P)) (cQ : Hid (Writes Tryz.prog 101 #[.pointer (some ⟨b, 0, none⟩), .int .i64 d] w0 b nv Q)) :
    Writes Tryz.prog 102 #[.pointer (some ⟨b, 0, none⟩), .slice (some ⟨kb, ko, none⟩) 2 kc, .string G] w0 b nv (P ++ catL [G] ++ Q) := by
  intro l w hB0 hlw hlen
  have HB : Hid (Below w0.heap.size w0 w) := hB0
  have hz : w0.heap.size ≤ w.heap.size := hB0.size
  have S0 : Hid (Stand w0 w b nv l w) := Stand.first hlw
  have HZ : Hid (l.length + P.length ≤ 100000000000000 ∧ (l ++ P).length + (catL [G]).length ≤ 100000000000000 ∧ (l ++ P ++ catL [G]).length + Q.length ≤ 100000000000000) := len3 hlen
  have HQ : Hid (l ++ (P ++ catL [G] ++ Q) = l ++ P ++ catL [G] ++ Q) := by show _ = _; simp
  have HT : Hid (∀ W, Stand w0 w b nv l W ∨ True → Below w0.heap.size w W → W.cell? ⟨kb, ko, none⟩ = some (.int .i64 c) ∧ W.cell? ⟨kb, ko + 1, none⟩ = some (.int .i64 d)) := fun W _ h => ⟨((HB.out.trans h).cell (p := ⟨kb, ko, none⟩) hkb).trans t0, ((HB.out.trans h).cell (p := ⟨kb, ko + 1, none⟩) hkb).trans t1⟩
  rw [HQ.out]
  clear hB0 hlw hlen t0 t1
  obtain ⟨x0, _⟩ := HT.out w (.inr trivial) (Below.refl _ _)
  go_enter Tryz.func102, Tryz.ntmps102
  go_wp2_with fail
  go_at_call 101
  refine Calls.mono (S0.out.call HB.out cP.out HZ.out.1) ?_
  rintro e w1 ⟨rfl, s1⟩
  have S1 : Hid (Stand w0 w b nv (l ++ P) w1) := s1
  clear s1
  go_wp2_with fail
  go_at_call 99
  refine Calls.mono (S1.out.texts hz [G] 1 rfl (by omega) HZ.out.2.1 rfl) ?_
  rintro e w2 ⟨rfl, s2⟩
  have S2 : Hid (Stand w0 w b nv (l ++ P ++ catL [G]) w2) := s2
  obtain ⟨_, y1⟩ := HT.out w2 (.inr trivial) s2.2.1
  clear s2
  go_wp2_with fail
  go_at_call 101
  refine Calls.mono (S2.out.call HB.out cQ.out HZ.out.2.2) ?_
  rintro e w3 ⟨rfl, s3⟩
  have S3 : Hid (Stand w0 w b nv (l ++ P ++ catL [G] ++ Q) w3) := s3
  clear s3
  go_wp2
  go_returns
  exact S3.out.wrote hz (Below.refl _ _)

set_option maxRecDepth 100000 in
set_option maxHeartbeats 1600000 in
theorem lwCall_of (nv : Value) (b K kc : Nat) (ka : Option Addr) (w0 : World) (nm : Int) (tx : ByteArray) (ks : List Int) (g : Int → List UInt8) (HK : Hid (ks.length = K)) (hK3 : K ≤ 3) (HI : Hid (RowI w0 w0.heap.size (.slice ka K kc) ks))
    (cV : Hid (∀ c ∈ ks, Writes Tryz.prog 57 #[.pointer (some ⟨b, 0, none⟩), .int .i64 c] w0 b nv (g c))) :
    Writes Tryz.prog 103 #[.pointer (some ⟨b, 0, none⟩), .agg #[.int .i64 12, .int .i64 nm, .string tx, .slice ka K kc]] w0 b nv (tx.data.toList ++ [40] ++ argTo g ks K ++ [41]) := by
  intro l w hB0 hlw hlen
  have HB : Hid (Below w0.heap.size w0 w) := hB0
  have hz : w0.heap.size ≤ w.heap.size := hB0.size
  have HA : Hid (Below w.heap.size w (w.alloc (.cells #[.int .i64 12, .int .i64 nm, .string tx, .slice ka K kc] 87)) ∧ (w.alloc (.cells #[.int .i64 12, .int .i64 nm, .string tx, .slice ka K kc] 87)).heap[w.heap.size]? = some (.cells #[.int .i64 12, .int .i64 nm, .string tx, .slice ka K kc] 87 (0, 0)) ∧ Below w0.heap.size w0 (w.alloc (.cells #[.int .i64 12, .int .i64 nm, .string tx, .slice ka K kc] 87)) ∧ Stand w0 (w.alloc (.cells #[.int .i64 12, .int .i64 nm, .string tx, .slice ka K kc] 87)) b nv l (w.alloc (.cells #[.int .i64 12, .int .i64 nm, .string tx, .slice ka K kc] 87))) :=
    ⟨(Below.refl _ _).alloc (Nat.le_refl _) _, heap_alloc_new _ _, hB0.trans (((Below.refl _ _).alloc (Nat.le_refl _) _).mono hz), Stand.first (hlw.alloc _)⟩
  have hza : Hid (w0.heap.size ≤ (w.alloc (.cells #[.int .i64 12, .int .i64 nm, .string tx, .slice ka K kc] 87)).heap.size) := HA.out.2.2.1.size
  obtain ⟨T, hT⟩ : ∃ T, Hid (tx.data.toList ++ [40] = T) := ⟨_, (rfl : tx.data.toList ++ [40] = tx.data.toList ++ [40])⟩
  have HC : Hid (catL [tx, ⟨#[40]⟩] = T) := by rw [← hT.out]; exact rfl
  rw [hT.out] at hlen ⊢
  have HZ : Hid (l.length + T.length + (argTo g ks K).length + 1 ≤ 100000000000000) := by simp only [List.length_append, List.length_cons, List.length_nil] at hlen; show _ ≤ _; omega
  have HM : Hid (∀ t, t < K → (argTo g ks (t + 1)).length ≤ (argTo g ks K).length) := fun t ht => argTo_mono g ks (t + 1) K (by omega)
  obtain ⟨R, hR⟩ : ∃ R, Hid (l ++ (T ++ argTo g ks K ++ [41]) = R) := ⟨_, (rfl : l ++ (T ++ argTo g ks K ++ [41]) = l ++ (T ++ argTo g ks K ++ [41]))⟩
  rw [hR.out]
  clear hlen hB0 hlw
  go_enter Tryz.func103, Tryz.ntmps103
  go_wp2_with fail
  go_at_call 99
  refine Calls.mono (HA.out.2.2.2.texts hza.out [tx, ⟨#[40]⟩] 2 rfl (by omega) (by rw [HC.out]; have := HZ.out; omega) (by simp)) ?_
  rintro e w1 ⟨rfl, s1⟩
  rw [HC.out] at s1
  generalize w.alloc (.cells #[.int .i64 12, .int .i64 nm, .string tx, .slice ka K kc] 87) = a at HA hza s1 ⊢
  have S1 : Hid (Stand w0 a b nv (l ++ T ++ argTo g ks 0) w1) := by show Stand _ _ _ _ _ _; simp only [argTo, List.append_nil]; exact s1
  have y3 : w1.cell? ⟨w.heap.size, 3, none⟩ = some (.slice ka K kc) := s1.cell HA.out.2.1 (by decide) (by decide) 3
  clear s1
  go_wp2
  go_loopw [14] (fun i wr => ∃ t : Nat, t ≤ K ∧ i = .int .i64 (t : Int) ∧ Hid (Stand w0 a b nv (l ++ T ++ argTo g ks t) wr)) (fun i _ => K - (intOf i).toNat)
  case atStart => exact ⟨0, Nat.zero_le _, rfl, S1⟩
  case round =>
    obtain ⟨t, ht, rfl, HS⟩ := hrel
    clear y3
    by_cases hlt : t < K
    · have ht0 : (0 : Int) ≤ (t : Int) := by omega
      have ht1 : (t : Int) < (K : Int) := by omega
      have htl : t < ks.length := by rw [HK.out]; exact hlt
      obtain ⟨kb, ko, rfl, hkb, t0⟩ := HI.out.at t htl
      obtain ⟨c, hc⟩ : ∃ c, Hid (ks[t] = c) := ⟨_, (rfl : ks[t] = ks[t])⟩
      have f0 := ((HA.out.2.2.1.trans HS.out.2.1).cell (p := ⟨kb, ko + t, none⟩) (by show kb < _; omega)).trans t0
      rw [hc.out] at f0
      have hcm : c ∈ ks := by rw [← hc.out]; exact List.getElem_mem htl
      clear t0
      by_cases htz : t = 0
      · subst htz
        have HE : Hid (l ++ T ++ argTo g ks (0 + 1) = l ++ T ++ argTo g ks 0 ++ g c) := by
          show _ = _
          simp only [argTo, getD_at htl, hc.out, if_true, List.append_nil, List.nil_append, List.append_assoc]
        rw [Nat.add_zero] at f0
        have ht2 : (0 : Int) < (K : Int) := by omega
        have HZ2 : Hid ((l ++ T ++ argTo g ks 0).length + (g c).length ≤ 100000000000000) := by
          show _ ≤ _
          have h1 := congrArg List.length HE.out
          simp only [List.length_append] at h1 ⊢
          have h2 := HM.out 0 hlt
          have h3 := HZ.out
          omega
        go_wp2_with fail
        go_at_call 57
        refine Calls.mono (HS.out.call HA.out.2.2.1 (cV.out c hcm) HZ2.out) ?_
        rintro e w2 ⟨rfl, s2⟩
        have S2 : Hid (Stand w0 a b nv (l ++ T ++ argTo g ks (0 + 1)) w2) := by rw [HE.out]; exact s2
        clear s2
        go_wp2
        go_roundw
        case rel => exact ⟨0 + 1, by omega, by go_num, S2⟩
        case measure => simp [intOf]; omega
      · have htp : (0 : Int) < (t : Int) := by omega
        have HE : Hid (l ++ T ++ argTo g ks (t + 1) = l ++ T ++ argTo g ks t ++ [44, 32] ++ g c) := by
          show _ = _
          simp only [argTo, getD_at htl, hc.out, if_neg htz, List.append_assoc]
        have HZ2 : Hid ((l ++ T ++ argTo g ks t).length + ([44, 32] : List UInt8).length ≤ 100000000000000 ∧ (l ++ T ++ argTo g ks t ++ [44, 32]).length + (g c).length ≤ 100000000000000) := by
          show _ ∧ _
          have h1 := congrArg List.length HE.out
          simp only [List.length_append] at h1 ⊢
          have h2 := HM.out t hlt
          have h3 := HZ.out
          omega
        go_wp2_with fail
        go_at_call 99
        refine Calls.mono (HS.out.texts hza.out [⟨#[44, 32]⟩] 1 rfl (by omega) HZ2.out.1 rfl) ?_
        rintro e w2 ⟨rfl, s2⟩
        have S2 : Hid (Stand w0 a b nv (l ++ T ++ argTo g ks t ++ [44, 32]) w2) := s2
        clear s2
        go_wp2_with fail
        go_at_call 57
        refine Calls.mono (S2.out.call HA.out.2.2.1 (cV.out c hcm) HZ2.out.2) ?_
        rintro e w3 ⟨rfl, s3⟩
        have S3 : Hid (Stand w0 a b nv (l ++ T ++ argTo g ks (t + 1)) w3) := by rw [HE.out]; exact s3
        clear s3
        go_wp2
        go_roundw
        case rel => exact ⟨t + 1, by omega, by go_num, S3⟩
        case measure => simp [intOf]; omega
    · have htK : t = K := by omega
      subst htK
      have HZ3 : Hid ((l ++ T ++ argTo g ks t).length + ([41] : List UInt8).length ≤ 100000000000000) := by
        show _ ≤ _
        have h3 := HZ.out
        simp only [List.length_append, List.length_cons, List.length_nil]
        omega
      go_wp2_with fail
      go_at_call 99
      refine Calls.mono (HS.out.texts hza.out [⟨#[41]⟩] 1 rfl (by omega) HZ3.out rfl) ?_
      rintro e w2 ⟨rfl, s2⟩
      have S2 : Hid (Stand w0 a b nv R w2) := by rw [← hR.out, ← List.append_assoc, ← List.append_assoc]; exact s2
      clear s2
      go_wp2
      go_returns
      exact S2.out.wrote hz HA.out.1

end Go.Proofs.YtbanmldmdoedkaaGreatDoor
