/-
  ShowValue, in the program: values written by a line writer; where the powers of ten lie as the library's text lays them.
  ShowValue, in the program: a value that has a depth is written as the model says it.
  ShowValue, in the program: what it answers at every program and every place; where the powers of ten lie as the library's text lays them.
  A program that came in, opened.
  The law of ShowValue: at every argument it answers true.
  The law of ShowValue; where the powers of ten lie as the library's text lays them.
-/
import Derived.Test.YtancoijbcobafaaGreatDoorLineW
import Derived.Test.YtancoijbcobafaaGreatDoorShowV
import Derived.Test.YtancoijbcobafaaGreatDoorLawDec
import Derived.Test.YtancoijbcobafaaGreatDoorImTree0
import Derived.Test.YtancoijbcobafaaGreatDoorRowProgram
import Derived.Test.YtancoijbcobafaaGreatDoorRows
import Derived.MakeChecks
namespace Go.Proofs.YtancoijbcobafaaGreatDoor
open Go.RowKit

/-- A call that writes L more. -/
def Writes (P : Program) (F : FuncId) (args : Array Value) (w0 : World) (b : Nat) (nv : Value) (L : List UInt8) : Prop :=
  ∀ (l : List UInt8) (w : World), Below w0.heap.size w0 w → Lw w0.heap.size b nv l w → l.length + L.length ≤ 100000000000000 → Calls P F args w (Wrote w0.heap.size b nv (l ++ L) w)

/-- Behind a: a line writer that holds L; nothing below w0's blocks has turned, nor any block of another kind. -/
def Stand (w0 a : World) (b : Nat) (nv : Value) (L : List UInt8) (W : World) : Prop := Lw w0.heap.size b nv L W ∧ Below w0.heap.size a W ∧ KeepsW a W
theorem Stand.first {w0 a : World} {b : Nat} {nv : Value} {L : List UInt8} (h : Lw w0.heap.size b nv L a) : Stand w0 a b nv L a := ⟨h, Below.refl _ _, KeepsW.refl _⟩
theorem Stand.next {w0 a : World} {b : Nat} {nv : Value} {L : List UInt8} {W W' : World} (ha : w0.heap.size ≤ a.heap.size) (h : Stand w0 a b nv L W) (hb : Below W.heap.size W W') : Stand w0 a b nv L W' := ⟨h.1.below hb, h.2.1.trans (hb.mono (Nat.le_trans ha h.2.1.size)), h.2.2.trans (keepsW_below hb)⟩
theorem Stand.alloc {w0 a : World} {b : Nat} {nv : Value} {L : List UInt8} {W : World} (ha : w0.heap.size ≤ a.heap.size) (h : Stand w0 a b nv L W) (o : Obj) : Stand w0 a b nv L (W.alloc o) := h.next ha ((Below.refl _ _).alloc (Nat.le_refl _) _)
theorem Stand.drew {w0 a : World} {b : Nat} {nv : Value} {L : List UInt8} {W : World} (ha : w0.heap.size ≤ a.heap.size) (h : Stand w0 a b nv L W) : Stand w0 a b nv L W.drew := h.next ha (Below.refl _ _).drew
theorem Stand.wrote {w0 w a : World} {b : Nat} {nv : Value} {L : List UInt8} {W : World} (h : Stand w0 a b nv L W) (h0 : w0.heap.size ≤ w.heap.size) (ha : Below w.heap.size w a) : Wrote w0.heap.size b nv L w (.returned (.tuple #[])) W := ⟨rfl, h.1, (ha.mono h0).trans h.2.1, (keepsW_below ha).trans h.2.2⟩
theorem Stand.cell {w0 a : World} {b : Nat} {nv : Value} {L : List UInt8} {W : World} (h : Stand w0 a b nv L W) {y : Nat} {cs : Array Value} {T : TypeId} (hy : a.heap[y]? = some (.cells cs T (0, 0))) (h1 : T ≠ 5) (h2 : T ≠ 55) (j : Nat) : W.cell? ⟨y, j, none⟩ = cs[j]? := Lib.cell_of_heap (h.2.2 y cs T _ h1 h2 hy) j
/-- Texts written at once: at a world that has just laid them. -/
theorem Stand.texts {w0 a : World} {b : Nat} {nv : Value} {L : List UInt8} {W : World} (ha : w0.heap.size ≤ a.heap.size) (h : Stand w0 a b nv L W) (ss : List ByteArray) (n : Nat) (hn : ss.length = n) (h8 : n ≤ 8) (hl : L.length + (catL ss).length ≤ 100000000000000) {g : Nat} (hg : W.heap.size = g) :
    Calls Tryz.prog 49 #[.pointer (some ⟨b, 0, none⟩), .slice (some ⟨g, 0, none⟩) n n] (W.alloc (.cells (ss.map Value.string).toArray 9)) fun e w' => e = .returned (.tuple #[]) ∧ Stand w0 a b nv (L ++ catL ss) w' := by
  subst hg
  have hs := h.alloc ha (.cells (ss.map Value.string).toArray 9)
  refine (lwWrite_any w0.heap.size b W.heap.size nv L ss n _ hs.1 hn (heap_alloc_new _ _) h8 hl (Nat.le_trans ha hs.2.1.size)).mono ?_
  rintro e w' ⟨rfl, h1, h2, h3⟩
  exact ⟨rfl, h1, hs.2.1.trans h2, hs.2.2.trans h3⟩
theorem Stand.call {P : Program} {F : FuncId} {args : Array Value} {w0 a : World} {b : Nat} {nv : Value} {L X : List UInt8} {W : World} (h : Stand w0 a b nv L W) (hb : Below w0.heap.size w0 a) (c : Writes P F args w0 b nv X) (hl : L.length + X.length ≤ 100000000000000) :
    Calls P F args W fun e w' => e = .returned (.tuple #[]) ∧ Stand w0 a b nv (L ++ X) w' := by
  refine (c L W (hb.trans h.2.1) h.1 hl).mono ?_
  rintro e w' ⟨rfl, h1, h2, h3⟩
  exact ⟨rfl, h1, h.2.1.trans h2, h.2.2.trans h3⟩
theorem len3 {l A B C : List UInt8} (h : l.length + (A ++ B ++ C).length ≤ 100000000000000) : l.length + A.length ≤ 100000000000000 ∧ (l ++ A).length + B.length ≤ 100000000000000 ∧ (l ++ A ++ B).length + C.length ≤ 100000000000000 := by
  simp only [List.length_append] at h ⊢
  omega
theorem len2 {l A B : List UInt8} (h : l.length + (A ++ B).length ≤ 100000000000000) : l.length + A.length ≤ 100000000000000 ∧ (l ++ A).length + B.length ≤ 100000000000000 := by
  simp only [List.length_append] at h ⊢
  omega

set_option maxRecDepth 100000 in
set_option maxHeartbeats 1600000 in
theorem lwTerm_of (va : Option Addr) (N nc b c : Nat) (ns : List Nd) (HN : Hid (ns.length = N)) (hc : c < N) (w0 : World) (hR : NdR.Row w0 w0.heap.size (.slice va N nc) ns)
    (cV : Hid (Writes Tryz.prog 24 #[.pointer (some ⟨b, 0, none⟩), .int .i64 (c : Int)] w0 b (.slice va N nc) (valL ns (c : Int)))) :
    Writes Tryz.prog 51 #[.pointer (some ⟨b, 0, none⟩), .int .i64 (c : Int)] w0 b (.slice va N nc) (parL ns (valL ns) (c : Int)) := by
  intro l w hB0 hlw hlen
  have hcl : c < ns.length := by rw [HN.out]; exact hc
  have HB : Hid (Below w0.heap.size w0 w) := hB0
  have hz : w0.heap.size ≤ w.heap.size := hB0.size
  obtain ⟨nb, off, ka, kc, rfl, hb, e0, _, _, _, _⟩ := RowNd.at hR c hcl
  obtain ⟨kd, hkd⟩ : ∃ kd, Hid (ns[c].kind = kd) := ⟨_, (rfl : ns[c].kind = ns[c].kind)⟩
  rw [hkd.out] at e0
  have HK : Hid ((ns.getD (c : Int).toNat nd0).kind = kd) := by show _ = _; rw [← hkd.out, Int.toNat_natCast]; simp [List.getD, hcl]
  have hc0 : (0 : Int) ≤ (c : Int) := by omega
  have hc1 : (c : Int) < (N : Int) := by omega
  have f0 := (HB.out.cell (p := ⟨nb, off + c * 4, none⟩) hb).trans e0
  have n0 := hlw.nodes
  obtain ⟨nv, hnv⟩ : ∃ nv : Value, Hid (nv = .slice (some ⟨nb, off, none⟩) N nc) := ⟨_, (rfl : Value.slice (some ⟨nb, off, none⟩) N nc = _)⟩
  have S0 : Hid (Stand w0 w b nv l w) := by rw [hnv.out]; exact Stand.first hlw
  obtain ⟨L, hL⟩ : ∃ L, Hid (valL ns (c : Int) = L) := ⟨_, (rfl : valL ns (c : Int) = valL ns (c : Int))⟩
  rw [hL.out, ← hnv.out] at cV
  rw [← hnv.out]
  have Hlen : Hid (l.length + (parL ns (valL ns) (c : Int)).length ≤ 100000000000000) := hlen
  clear hR e0 hB0 hlw hlen
  by_cases hp : isIn kd 9 11 = true
  · have HP : Hid (parL ns (valL ns) (c : Int) = [40] ++ L ++ [41]) := by show _ = _; unfold parL; rw [HK.out, hp, hL.out]; rfl
    rw [HP.out] at Hlen ⊢
    have hkk : kd = 9 ∨ kd = 10 ∨ kd = 11 := by
      have : 9 ≤ kd ∧ kd ≤ 11 := by simpa [isIn] using hp
      omega
    have HZ : Hid (l.length + ([40] : List UInt8).length ≤ 100000000000000 ∧ (l ++ [40]).length + L.length ≤ 100000000000000 ∧ (l ++ [40] ++ L).length + ([41] : List UInt8).length ≤ 100000000000000) := len3 Hlen.out
    have HQ : Hid (l ++ ([40] ++ L ++ [41]) = l ++ [40] ++ L ++ [41]) := by show _ = _; simp
    rw [HQ.out]
    rcases hkk with rfl | rfl | rfl
    all_goals
      clear hp
      go_enter Tryz.func51, Tryz.ntmps51
      go_wp2_with fail
      go_at_call 49
      refine Calls.mono (S0.out.texts hz [⟨#[40]⟩] 1 rfl (by omega) HZ.out.1 rfl) ?_
      rintro e w1 ⟨rfl, s1⟩
      have S1 : Hid (Stand w0 w b nv (l ++ [40]) w1) := s1
      clear s1
      go_wp2_with fail
      go_at_call 24
      refine Calls.mono (S1.out.call HB.out cV.out HZ.out.2.1) ?_
      rintro e w2 ⟨rfl, s2⟩
      have S2 : Hid (Stand w0 w b nv (l ++ [40] ++ L) w2) := s2
      clear s2
      go_wp2_with fail
      go_at_call 49
      refine Calls.mono (S2.out.texts hz [⟨#[41]⟩] 1 rfl (by omega) HZ.out.2.2 rfl) ?_
      rintro e w3 ⟨rfl, s3⟩
      have S3 : Hid (Stand w0 w b nv (l ++ [40] ++ L ++ [41]) w3) := s3
      clear s3
      go_wp2
      go_returns
      exact S3.out.wrote hz (Below.refl _ _)
  · have HP : Hid (parL ns (valL ns) (c : Int) = L) := by show _ = _; unfold parL; rw [HK.out, if_neg hp, hL.out]
    rw [HP.out] at Hlen ⊢
    have hq : ¬ (9 ≤ kd ∧ kd ≤ 11) := fun h => hp (by simpa [isIn] using h)
    have n9 : (kd == 9) = false := by simp; omega
    have n10 : (kd == 10) = false := by simp; omega
    have n11 : (kd == 11) = false := by simp; omega
    clear hp hq
    go_enter Tryz.func51, Tryz.ntmps51
    go_wp2_with fail
    go_at_call 24
    refine Calls.mono (S0.out.call HB.out cV.out Hlen.out) ?_
    rintro e w2 ⟨rfl, s2⟩
    have S2 : Hid (Stand w0 w b nv (l ++ L) w2) := s2
    clear s2
    go_wp2
    go_returns
    exact S2.out.wrote hz (Below.refl _ _)

theorem argTo_mono (g : Int → List UInt8) (cs : List Int) (t K : Nat) (h : t ≤ K) : (argTo g cs t).length ≤ (argTo g cs K).length := by
  induction K with
  | zero =>
    have : t = 0 := by omega
    subst this
    omega
  | succ K ih =>
    rcases Nat.lt_or_ge t (K + 1) with h1 | h1
    · have := ih (by omega)
      simp only [argTo, List.length_append]
      omega
    · have : t = K + 1 := by omega
      subst this
      omega
/-- Two terms and what stands between them. -/
theorem lwPair_of (nv : Value) (b : Nat) (w0 : World) (kb ko kc : Nat) (c d : Int) (G : ByteArray) (P Q : List UInt8) (hkb : kb < w0.heap.size) (t0 : w0.cell? ⟨kb, ko, none⟩ = some (.int .i64 c)) (t1 : w0.cell? ⟨kb, ko + 1, none⟩ = some (.int .i64 d))
    (cP : Hid (Writes Tryz.prog 51 #[.pointer (some ⟨b, 0, none⟩), .int .i64 c] w0 b nv P)) (cQ : Hid (Writes Tryz.prog 51 #[.pointer (some ⟨b, 0, none⟩), .int .i64 d] w0 b nv Q)) :
    Writes Tryz.prog 52 #[.pointer (some ⟨b, 0, none⟩), .slice (some ⟨kb, ko, none⟩) 2 kc, .string G] w0 b nv (P ++ catL [G] ++ Q) := by
  intro l w hB0 hlw hlen
  have HB : Hid (Below w0.heap.size w0 w) := hB0
  have hz : w0.heap.size ≤ w.heap.size := hB0.size
  have S0 : Hid (Stand w0 w b nv l w) := Stand.first hlw
  have HZ : Hid (l.length + P.length ≤ 100000000000000 ∧ (l ++ P).length + (catL [G]).length ≤ 100000000000000 ∧ (l ++ P ++ catL [G]).length + Q.length ≤ 100000000000000) := len3 hlen
  have HQ : Hid (l ++ (P ++ catL [G] ++ Q) = l ++ P ++ catL [G] ++ Q) := by show _ = _; simp
  have HT : Hid (∀ W, Stand w0 w b nv l W ∨ True → Below w0.heap.size w W → W.cell? ⟨kb, ko, none⟩ = some (.int .i64 c) ∧ W.cell? ⟨kb, ko + 1, none⟩ = some (.int .i64 d)) := fun W _ h => ⟨((HB.out.trans h).cell (p := ⟨kb, ko, none⟩) hkb).trans t0, ((HB.out.trans h).cell (p := ⟨kb, ko + 1, none⟩) hkb).trans t1⟩
  rw [HQ.out]
  clear hB0 hlw hlen t0 t1
  obtain ⟨x0, _⟩ := HT.out w (.inr trivial) (Below.refl _ _)
  go_enter Tryz.func52, Tryz.ntmps52
  go_wp2_with fail
  go_at_call 51
  refine Calls.mono (S0.out.call HB.out cP.out HZ.out.1) ?_
  rintro e w1 ⟨rfl, s1⟩
  have S1 : Hid (Stand w0 w b nv (l ++ P) w1) := s1
  clear s1
  go_wp2_with fail
  go_at_call 49
  refine Calls.mono (S1.out.texts hz [G] 1 rfl (by omega) HZ.out.2.1 rfl) ?_
  rintro e w2 ⟨rfl, s2⟩
  have S2 : Hid (Stand w0 w b nv (l ++ P ++ catL [G]) w2) := s2
  obtain ⟨_, y1⟩ := HT.out w2 (.inr trivial) s2.2.1
  clear s2
  go_wp2_with fail
  go_at_call 51
  refine Calls.mono (S2.out.call HB.out cQ.out HZ.out.2.2) ?_
  rintro e w3 ⟨rfl, s3⟩
  have S3 : Hid (Stand w0 w b nv (l ++ P ++ catL [G] ++ Q) w3) := s3
  clear s3
  go_wp2
  go_returns
  exact S3.out.wrote hz (Below.refl _ _)

set_option maxRecDepth 100000 in
set_option maxHeartbeats 1600000 in
theorem lwCall_of (nv : Value) (b K kc : Nat) (ka : Option Addr) (w0 : World) (nm : Int) (tx : ByteArray) (ks : List Int) (g : Int → List UInt8) (HK : Hid (ks.length = K)) (hK3 : K ≤ 3) (HI : Hid (RowI w0 w0.heap.size (.slice ka K kc) ks))
    (cV : Hid (∀ c ∈ ks, Writes Tryz.prog 24 #[.pointer (some ⟨b, 0, none⟩), .int .i64 c] w0 b nv (g c))) :
    Writes Tryz.prog 53 #[.pointer (some ⟨b, 0, none⟩), .agg #[.int .i64 12, .int .i64 nm, .string tx, .slice ka K kc]] w0 b nv (tx.data.toList ++ [40] ++ argTo g ks K ++ [41]) := by
  intro l w hB0 hlw hlen
  have HB : Hid (Below w0.heap.size w0 w) := hB0
  have hz : w0.heap.size ≤ w.heap.size := hB0.size
  have HA : Hid (Below w.heap.size w (w.alloc (.cells #[.int .i64 12, .int .i64 nm, .string tx, .slice ka K kc] 46)) ∧ (w.alloc (.cells #[.int .i64 12, .int .i64 nm, .string tx, .slice ka K kc] 46)).heap[w.heap.size]? = some (.cells #[.int .i64 12, .int .i64 nm, .string tx, .slice ka K kc] 46 (0, 0)) ∧ Below w0.heap.size w0 (w.alloc (.cells #[.int .i64 12, .int .i64 nm, .string tx, .slice ka K kc] 46)) ∧ Stand w0 (w.alloc (.cells #[.int .i64 12, .int .i64 nm, .string tx, .slice ka K kc] 46)) b nv l (w.alloc (.cells #[.int .i64 12, .int .i64 nm, .string tx, .slice ka K kc] 46))) :=
    ⟨(Below.refl _ _).alloc (Nat.le_refl _) _, heap_alloc_new _ _, hB0.trans (((Below.refl _ _).alloc (Nat.le_refl _) _).mono hz), Stand.first (hlw.alloc _)⟩
  have hza : Hid (w0.heap.size ≤ (w.alloc (.cells #[.int .i64 12, .int .i64 nm, .string tx, .slice ka K kc] 46)).heap.size) := HA.out.2.2.1.size
  obtain ⟨T, hT⟩ : ∃ T, Hid (tx.data.toList ++ [40] = T) := ⟨_, (rfl : tx.data.toList ++ [40] = tx.data.toList ++ [40])⟩
  have HC : Hid (catL [tx, ⟨#[40]⟩] = T) := by rw [← hT.out]; exact rfl
  rw [hT.out] at hlen ⊢
  have HZ : Hid (l.length + T.length + (argTo g ks K).length + 1 ≤ 100000000000000) := by simp only [List.length_append, List.length_cons, List.length_nil] at hlen; show _ ≤ _; omega
  have HM : Hid (∀ t, t < K → (argTo g ks (t + 1)).length ≤ (argTo g ks K).length) := fun t ht => argTo_mono g ks (t + 1) K (by omega)
  obtain ⟨R, hR⟩ : ∃ R, Hid (l ++ (T ++ argTo g ks K ++ [41]) = R) := ⟨_, (rfl : l ++ (T ++ argTo g ks K ++ [41]) = l ++ (T ++ argTo g ks K ++ [41]))⟩
  rw [hR.out]
  clear hlen hB0 hlw
  go_enter Tryz.func53, Tryz.ntmps53
  go_wp2_with fail
  go_at_call 49
  refine Calls.mono (HA.out.2.2.2.texts hza.out [tx, ⟨#[40]⟩] 2 rfl (by omega) (by rw [HC.out]; have := HZ.out; omega) (by simp)) ?_
  rintro e w1 ⟨rfl, s1⟩
  rw [HC.out] at s1
  generalize w.alloc (.cells #[.int .i64 12, .int .i64 nm, .string tx, .slice ka K kc] 46) = a at HA hza s1 ⊢
  have S1 : Hid (Stand w0 a b nv (l ++ T ++ argTo g ks 0) w1) := by show Stand _ _ _ _ _ _; simp only [argTo, List.append_nil]; exact s1
  have y3 : w1.cell? ⟨w.heap.size, 3, none⟩ = some (.slice ka K kc) := s1.cell HA.out.2.1 (by decide) (by decide) 3
  clear s1
  go_wp2
  go_loopw [14] (fun i wr => ∃ t : Nat, t ≤ K ∧ i = .int .i64 (t : Int) ∧ Hid (Stand w0 a b nv (l ++ T ++ argTo g ks t) wr)) (fun i _ => K - (intOf i).toNat)
  case atStart => exact ⟨0, Nat.zero_le _, rfl, S1⟩
  case round =>
    obtain ⟨t, ht, rfl, HS⟩ := hrel
    clear y3
    by_cases hlt : t < K
    · have ht0 : (0 : Int) ≤ (t : Int) := by omega
      have ht1 : (t : Int) < (K : Int) := by omega
      have htl : t < ks.length := by rw [HK.out]; exact hlt
      obtain ⟨kb, ko, rfl, hkb, t0⟩ := HI.out.at t htl
      obtain ⟨c, hc⟩ : ∃ c, Hid (ks[t] = c) := ⟨_, (rfl : ks[t] = ks[t])⟩
      have f0 := ((HA.out.2.2.1.trans HS.out.2.1).cell (p := ⟨kb, ko + t, none⟩) (by show kb < _; omega)).trans t0
      rw [hc.out] at f0
      have hcm : c ∈ ks := by rw [← hc.out]; exact List.getElem_mem htl
      clear t0
      by_cases htz : t = 0
      · subst htz
        have HE : Hid (l ++ T ++ argTo g ks (0 + 1) = l ++ T ++ argTo g ks 0 ++ g c) := by
          show _ = _
          simp only [argTo, getD_at htl, hc.out, if_true, List.append_nil, List.nil_append, List.append_assoc]
        rw [Nat.add_zero] at f0
        have ht2 : (0 : Int) < (K : Int) := by omega
        have HZ2 : Hid ((l ++ T ++ argTo g ks 0).length + (g c).length ≤ 100000000000000) := by
          show _ ≤ _
          have h1 := congrArg List.length HE.out
          simp only [List.length_append] at h1 ⊢
          have h2 := HM.out 0 hlt
          have h3 := HZ.out
          omega
        go_wp2_with fail
        go_at_call 24
        refine Calls.mono (HS.out.call HA.out.2.2.1 (cV.out c hcm) HZ2.out) ?_
        rintro e w2 ⟨rfl, s2⟩
        have S2 : Hid (Stand w0 a b nv (l ++ T ++ argTo g ks (0 + 1)) w2) := by rw [HE.out]; exact s2
        clear s2
        go_wp2
        go_roundw
        case rel => exact ⟨0 + 1, by omega, by go_num, S2⟩
        case measure => simp [intOf]; omega
      · have htp : (0 : Int) < (t : Int) := by omega
        have HE : Hid (l ++ T ++ argTo g ks (t + 1) = l ++ T ++ argTo g ks t ++ [44, 32] ++ g c) := by
          show _ = _
          simp only [argTo, getD_at htl, hc.out, if_neg htz, List.append_assoc]
        have HZ2 : Hid ((l ++ T ++ argTo g ks t).length + ([44, 32] : List UInt8).length ≤ 100000000000000 ∧ (l ++ T ++ argTo g ks t ++ [44, 32]).length + (g c).length ≤ 100000000000000) := by
          show _ ∧ _
          have h1 := congrArg List.length HE.out
          simp only [List.length_append] at h1 ⊢
          have h2 := HM.out t hlt
          have h3 := HZ.out
          omega
        go_wp2_with fail
        go_at_call 49
        refine Calls.mono (HS.out.texts hza.out [⟨#[44, 32]⟩] 1 rfl (by omega) HZ2.out.1 rfl) ?_
        rintro e w2 ⟨rfl, s2⟩
        have S2 : Hid (Stand w0 a b nv (l ++ T ++ argTo g ks t ++ [44, 32]) w2) := s2
        clear s2
        go_wp2_with fail
        go_at_call 24
        refine Calls.mono (S2.out.call HA.out.2.2.1 (cV.out c hcm) HZ2.out.2) ?_
        rintro e w3 ⟨rfl, s3⟩
        have S3 : Hid (Stand w0 a b nv (l ++ T ++ argTo g ks (t + 1)) w3) := by rw [HE.out]; exact s3
        clear s3
        go_wp2
        go_roundw
        case rel => exact ⟨t + 1, by omega, by go_num, S3⟩
        case measure => simp [intOf]; omega
    · have htK : t = K := by omega
      subst htK
      have HZ3 : Hid ((l ++ T ++ argTo g ks t).length + ([41] : List UInt8).length ≤ 100000000000000) := by
        show _ ≤ _
        have h3 := HZ.out
        simp only [List.length_append, List.length_cons, List.length_nil]
        omega
      go_wp2_with fail
      go_at_call 49
      refine Calls.mono (HS.out.texts hza.out [⟨#[41]⟩] 1 rfl (by omega) HZ3.out rfl) ?_
      rintro e w2 ⟨rfl, s2⟩
      have S2 : Hid (Stand w0 a b nv R w2) := by rw [← hR.out, ← List.append_assoc, ← List.append_assoc]; exact s2
      clear s2
      go_wp2
      go_returns
      exact S2.out.wrote hz HA.out.1

end Go.Proofs.YtancoijbcobafaaGreatDoor

namespace Go.Proofs.YtancoijbcobafaaGreatDoor
open Go.RowKit

/-- A block of its own, just laid beside a line writer. -/
structure Laid (w0 w : World) (b : Nat) (nv : Value) (l : List UInt8) (cs : Array Value) (T : TypeId) (a : World) : Prop where
  up : Below w.heap.size w a
  cell : a.heap[w.heap.size]? = some (.cells cs T (0, 0))
  base : Below w0.heap.size w0 a
  stand : Stand w0 a b nv l a
  size : w0.heap.size ≤ a.heap.size
theorem Laid.make {w0 w : World} {b : Nat} {nv : Value} {l : List UInt8} (hb : Below w0.heap.size w0 w) (h : Lw w0.heap.size b nv l w) (cs : Array Value) (T : TypeId) : Laid w0 w b nv l cs T (w.alloc (.cells cs T)) :=
  ⟨(Below.refl _ _).alloc (Nat.le_refl _) _, heap_alloc_new _ _, hb.trans (((Below.refl _ _).alloc (Nat.le_refl _) _).mono hb.size), Stand.first (h.alloc _), (hb.trans (((Below.refl _ _).alloc (Nat.le_refl _) _).mono hb.size)).size⟩

set_option maxRecDepth 100000 in
set_option maxHeartbeats 6400000 in
theorem lwValue_any (va : Option Addr) (N nc m b : Nat) (ns : List Nd) (w0 : World) (nv : Value) (HNV : Hid (nv = .slice va N nc)) (HN : Hid (ns.length = N)) (hm : m < N) (HD : Hid (deepOf ns (m : Int) ≠ 0)) (HR : Hid (NdR.Row w0 w0.heap.size (.slice va N nc) ns)) (HT : Hid (Tab10 w0)) :
    ∀ k : Nat, k ≤ m → isVal (ns.getD k nd0).kind = true → Writes Tryz.prog 24 #[.pointer (some ⟨b, 0, none⟩), .int .i64 (k : Int)] w0 b nv (valL ns (k : Int)) := by
  intro k
  induction k using Nat.strongRecOn with
  | _ k ih =>
  intro hk hv l w hB0 hlw hlen
  have hml : m < ns.length := by rw [HN.out]; exact hm
  have hkl : k < ns.length := by rw [HN.out]; omega
  have hok := deep_nodes hml HD.out k hk
  have HVK := valKids hok hv
  have HB : Hid (valL ns (k : Int) = valBody ns (valL ns) (ns.getD k nd0)) := valL_body hml HD.out hk hv
  have HKid : Hid (∀ c ∈ (ns.getD k nd0).kids, 0 ≤ c ∧ c < (k : Int) ∧ isVal (ns.getD c.toNat nd0).kind = true) := fun c hc => by
    have hb := ahead_of hml HD.out k hk c hc
    exact ⟨hb.1, hb.2, kid_val hok hv c hc⟩
  have HVal : Hid (∀ c ∈ (ns.getD k nd0).kids, Writes Tryz.prog 24 #[.pointer (some ⟨b, 0, none⟩), .int .i64 c] w0 b nv (valL ns c)) := fun c hc => by
    obtain ⟨h0, h1, h2⟩ := HKid.out c hc
    obtain ⟨n, rfl⟩ : ∃ n : Nat, c = (n : Int) := ⟨c.toNat, by omega⟩
    rw [Int.toNat_natCast] at h2
    exact ih n (by omega) (by omega) h2
  have HTerm : Hid (∀ c ∈ (ns.getD k nd0).kids, Writes Tryz.prog 51 #[.pointer (some ⟨b, 0, none⟩), .int .i64 c] w0 b nv (parL ns (valL ns) c)) := fun c hc => by
    have h3 := HVal.out c hc
    obtain ⟨h0, h1, h2⟩ := HKid.out c hc
    obtain ⟨n, rfl⟩ : ∃ n : Nat, c = (n : Int) := ⟨c.toNat, by omega⟩
    rw [HNV.out] at h3 ⊢
    exact lwTerm_of va N nc b n ns HN (by omega) w0 HR.out h3
  clear ih
  have hk0 : (0 : Int) ≤ (k : Int) := by omega
  have hk1 : (k : Int) < (N : Int) := by omega
  have hz : w0.heap.size ≤ w.heap.size := hB0.size
  obtain ⟨nb, off, ka, kc, rfl, hb, e0, e1, e2, e3, hK⟩ := RowNd.at HR.out k hkl
  obtain ⟨x, hx⟩ : ∃ x, Hid (ns[k] = x) := ⟨_, (rfl : ns[k] = ns[k])⟩
  have HX : Hid (ns.getD k nd0 = x) := by show _ = _; rw [← hx.out]; simp [List.getD, hkl]
  rw [hx.out] at e0 e1 e2 e3 hK
  rw [HX.out] at HVK HB HKid HVal HTerm
  obtain ⟨kd, nm, tx, ks⟩ := x
  simp only at e0 e1 e2 e3 hK
  obtain ⟨hv1, hone, htwo, hfew, hnum, hname⟩ := HVK
  simp only at hv1 hone htwo hfew hnum hname HVal HTerm
  obtain ⟨K, HK⟩ : ∃ K, Hid (ks.length = K) := ⟨_, (rfl : ks.length = ks.length)⟩
  rw [HK.out] at e3 hK hone htwo hfew
  have HI : Hid (RowI w0 w0.heap.size (.slice ka K kc) ks) := hK
  have f0 := (hB0.cell (p := ⟨nb, off + k * 4, none⟩) hb).trans e0
  have f1 := (hB0.cell (p := ⟨nb, off + k * 4 + 1, none⟩) hb).trans e1
  have f2 := (hB0.cell (p := ⟨nb, off + k * 4 + 2, none⟩) hb).trans e2
  have f3 := (hB0.cell (p := ⟨nb, off + k * 4 + 3, none⟩) hb).trans e3
  have n0 := hlw.nodes
  rw [HNV.out] at n0
  obtain ⟨R, HRR⟩ : ∃ R, Hid (valL ns (k : Int) = R) := ⟨_, (rfl : valL ns (k : Int) = valL ns (k : Int))⟩
  rw [HRR.out] at HB hlen ⊢
  have HZ : Hid (l.length + R.length ≤ 100000000000000) := hlen
  have HW : Hid (Below w0.heap.size w0 w ∧ Lw w0.heap.size b nv l w) := ⟨hB0, hlw⟩
  clear e0 e1 e2 e3 hK hlen hlw hB0 hx HRR
  have hcase : kd = 1 ∨ kd = 2 ∨ kd = 3 ∨ kd = 4 ∨ kd = 5 ∨ kd = 6 ∨ kd = 7 ∨ kd = 8 ∨ kd = 12 ∨ (9 ≤ kd ∧ kd ≤ 11) := by omega
  have HA : Hid (Laid w0 w b nv l #[.int .i64 kd, .int .i64 nm, .string tx, .slice ka K kc] 46 (w.alloc (.cells #[.int .i64 kd, .int .i64 nm, .string tx, .slice ka K kc] 46))) := Laid.make HW.out.1 HW.out.2 _ _
  rcases hcase with rfl | rfl | rfl | rfl | rfl | rfl | rfl | rfl | rfl | hpr
  · have HE : Hid (catL [⟨(Lib.itoa nm).toArray⟩] = R) := by
      show _ = _
      rw [HB.out]
      simp [catL, valBody]
    rw [← HE.out] at HZ ⊢
    obtain ⟨D, hD⟩ : ∃ D : ByteArray, Hid ((⟨(Lib.itoa nm).toArray⟩ : ByteArray) = D) := ⟨_, (rfl : (⟨(Lib.itoa nm).toArray⟩ : ByteArray) = ⟨(Lib.itoa nm).toArray⟩)⟩
    rw [hD.out] at HZ ⊢
    have cD : Hid (∀ W, Below w0.heap.size w0 W → Calls Tryz.prog 50 #[.int .i64 nm] W fun e w' => e = .returned (.string D) ∧ Below W.heap.size W w') := fun W hW => by rw [← hD.out]; exact implDecimal_any nm W (by omega) (by omega) (HT.out.below hW)
    go_enter Tryz.func24, Tryz.ntmps24
    go_wp2_with fail
    go_at_call 50
    refine Calls.mono (cD.out _ HA.out.base) ?_
    rintro e w1 ⟨rfl, hb1⟩
    have S1 : Hid (Stand w0 (w.alloc (.cells #[.int .i64 1, .int .i64 nm, .string tx, .slice ka K kc] 46)) b nv l w1) := HA.out.stand.next HA.out.size hb1
    clear hb1
    go_wp2_with fail
    go_at_call 49
    refine Calls.mono (S1.out.texts HA.out.size [D] 1 rfl (by omega) HZ.out rfl) ?_
    rintro e w2 ⟨rfl, s2⟩
    have S2 : Hid (Wrote w0.heap.size b nv (l ++ catL [D]) w (.returned (.tuple #[])) w2) := s2.wrote hz HA.out.up
    clear s2
    go_wp2
    go_returns
    exact S2.out
  · have HE : Hid (catL [tx] = R) := by
      show _ = _
      rw [HB.out]
      simp [catL, valBody]
    rw [← HE.out] at HZ ⊢
    go_enter Tryz.func24, Tryz.ntmps24
    go_wp2_with fail
    go_at_call 49
    refine Calls.mono (HA.out.stand.texts HA.out.size [tx] 1 rfl (by omega) HZ.out (by simp)) ?_
    rintro e w2 ⟨rfl, s2⟩
    have S2 : Hid (Wrote w0.heap.size b nv (l ++ catL [tx]) w (.returned (.tuple #[])) w2) := s2.wrote hz HA.out.up
    clear s2
    go_wp2
    go_returns
    exact S2.out
  · have HE : Hid (catL [⟨#[42]⟩, tx] = R) := by
      show _ = _
      rw [HB.out]
      simp [catL, valBody]
    rw [← HE.out] at HZ ⊢
    go_enter Tryz.func24, Tryz.ntmps24
    go_wp2_with fail
    go_at_call 49
    refine Calls.mono (HA.out.stand.texts HA.out.size [⟨#[42]⟩, tx] 2 rfl (by omega) HZ.out (by simp)) ?_
    rintro e w2 ⟨rfl, s2⟩
    have S2 : Hid (Wrote w0.heap.size b nv (l ++ catL [⟨#[42]⟩, tx]) w (.returned (.tuple #[])) w2) := s2.wrote hz HA.out.up
    clear s2
    go_wp2
    go_returns
    exact S2.out
  · have HE : Hid (catL [⟨#[99, 108, 111, 110, 101, 32]⟩, tx] = R) := by
      show _ = _
      rw [HB.out]
      simp [catL, valBody]
    rw [← HE.out] at HZ ⊢
    go_enter Tryz.func24, Tryz.ntmps24
    go_wp2_with fail
    go_at_call 49
    refine Calls.mono (HA.out.stand.texts HA.out.size [⟨#[99, 108, 111, 110, 101, 32]⟩, tx] 2 rfl (by omega) HZ.out (by simp)) ?_
    rintro e w2 ⟨rfl, s2⟩
    have S2 : Hid (Wrote w0.heap.size b nv (l ++ catL [⟨#[99, 108, 111, 110, 101, 32]⟩, tx]) w (.returned (.tuple #[])) w2) := s2.wrote hz HA.out.up
    clear s2
    go_wp2
    go_returns
    exact S2.out
  · have HE : Hid (catL [⟨#[38]⟩, tx] = R) := by
      show _ = _
      rw [HB.out]
      simp [catL, valBody]
    rw [← HE.out] at HZ ⊢
    go_enter Tryz.func24, Tryz.ntmps24
    go_wp2_with fail
    go_at_call 49
    refine Calls.mono (HA.out.stand.texts HA.out.size [⟨#[38]⟩, tx] 2 rfl (by omega) HZ.out (by simp)) ?_
    rintro e w2 ⟨rfl, s2⟩
    have S2 : Hid (Wrote w0.heap.size b nv (l ++ catL [⟨#[38]⟩, tx]) w (.returned (.tuple #[])) w2) := s2.wrote hz HA.out.up
    clear s2
    go_wp2
    go_returns
    exact S2.out
  · have HE : Hid (catL [⟨#[38, 109, 117, 116, 32]⟩, tx] = R) := by
      show _ = _
      rw [HB.out]
      simp [catL, valBody]
    rw [← HE.out] at HZ ⊢
    go_enter Tryz.func24, Tryz.ntmps24
    go_wp2_with fail
    go_at_call 49
    refine Calls.mono (HA.out.stand.texts HA.out.size [⟨#[38, 109, 117, 116, 32]⟩, tx] 2 rfl (by omega) HZ.out (by simp)) ?_
    rintro e w2 ⟨rfl, s2⟩
    have S2 : Hid (Wrote w0.heap.size b nv (l ++ catL [⟨#[38, 109, 117, 116, 32]⟩, tx]) w (.returned (.tuple #[])) w2) := s2.wrote hz HA.out.up
    clear s2
    go_wp2
    go_returns
    exact S2.out
  · have HE : Hid (catL [⟨#[105, 110, 112, 117, 116]⟩] = R) := by
      show _ = _
      rw [HB.out]
      simp [catL, valBody]
    rw [← HE.out] at HZ ⊢
    go_enter Tryz.func24, Tryz.ntmps24
    go_wp2_with fail
    go_at_call 49
    refine Calls.mono (HA.out.stand.texts HA.out.size [⟨#[105, 110, 112, 117, 116]⟩] 1 rfl (by omega) HZ.out (by simp)) ?_
    rintro e w2 ⟨rfl, s2⟩
    have S2 : Hid (Wrote w0.heap.size b nv (l ++ catL [⟨#[105, 110, 112, 117, 116]⟩]) w (.returned (.tuple #[])) w2) := s2.wrote hz HA.out.up
    clear s2
    go_wp2
    go_returns
    exact S2.out
  · -- new
    have hK1 : K = 1 := hone rfl
    subst hK1
    have h0l : 0 < ks.length := by rw [HK.out]; omega
    obtain ⟨kb, ko, rfl, hkb, t0⟩ := HI.out.at 0 h0l
    obtain ⟨c, hc⟩ : ∃ c, Hid (ks[0] = c) := ⟨_, (rfl : ks[0] = ks[0])⟩
    rw [hc.out, Nat.add_zero] at t0
    have hcm : c ∈ ks := by rw [← hc.out]; exact List.getElem_mem h0l
    obtain ⟨P, hP⟩ : ∃ P, Hid (parL ns (valL ns) c = P) := ⟨_, (rfl : parL ns (valL ns) c = parL ns (valL ns) c)⟩
    have HE : Hid (R = [110, 101, 119, 32] ++ P) := by
      show _ = _
      rw [HB.out]
      show [110, 101, 119, 32] ++ parL ns (valL ns) (ks.getD 0 0) = _
      rw [getD_at h0l, hc.out, hP.out]
    have cP : Hid (Writes Tryz.prog 51 #[.pointer (some ⟨b, 0, none⟩), .int .i64 c] w0 b nv P) := by rw [← hP.out]; exact HTerm.out c hcm
    rw [HE.out] at HZ
    have HZ2 : Hid (l.length + ([110, 101, 119, 32] : List UInt8).length ≤ 100000000000000 ∧ (l ++ [110, 101, 119, 32]).length + P.length ≤ 100000000000000) := len2 HZ.out
    have HL : Hid (l ++ R = l ++ [110, 101, 119, 32] ++ P) := by show _ = _; rw [HE.out, List.append_assoc]
    rw [HL.out]
    go_enter Tryz.func24, Tryz.ntmps24
    go_wp2_with fail
    go_at_call 49
    refine Calls.mono (HA.out.stand.texts HA.out.size [⟨#[110, 101, 119, 32]⟩] 1 rfl (by omega) HZ2.out.1 (by simp)) ?_
    rintro e w2 ⟨rfl, s2⟩
    have S2 : Hid (Stand w0 (w.alloc (.cells #[.int .i64 8, .int .i64 nm, .string tx, .slice (some ⟨kb, ko, none⟩) 1 kc] 46)) b nv (l ++ [110, 101, 119, 32]) w2) := s2
    have y3 : w2.cell? ⟨w.heap.size, 3, none⟩ = some (.slice (some ⟨kb, ko, none⟩) 1 kc) := s2.cell HA.out.cell (by decide) (by decide) 3
    have y4 := ((HA.out.base.trans s2.2.1).cell (p := ⟨kb, ko, none⟩) hkb).trans t0
    clear s2
    go_wp2_with fail
    go_at_call 51
    refine Calls.mono (S2.out.call HA.out.base cP.out HZ2.out.2) ?_
    rintro e w3 ⟨rfl, s3⟩
    have S3 : Hid (Wrote w0.heap.size b nv (l ++ [110, 101, 119, 32] ++ P) w (.returned (.tuple #[])) w3) := s3.wrote hz HA.out.up
    clear s3
    go_wp2
    go_returns
    exact S3.out
  · -- a call
    have HE : Hid (R = tx.data.toList ++ [40] ++ argTo (valL ns) ks K ++ [41]) := by
      show _ = _
      rw [HB.out, ← HK.out]
      rfl
    have cP : Hid (Writes Tryz.prog 53 #[.pointer (some ⟨b, 0, none⟩), .agg #[.int .i64 12, .int .i64 nm, .string tx, .slice ka K kc]] w0 b nv R) := by
      rw [HE.out]
      exact lwCall_of nv b K kc ka w0 nm tx ks (valL ns) HK hfew HI HVal
    go_enter Tryz.func24, Tryz.ntmps24
    go_wp2_with fail
    go_at_call 53
    refine Calls.mono (HA.out.stand.call HA.out.base cP.out HZ.out) ?_
    rintro e w3 ⟨rfl, s3⟩
    have S3 : Hid (Wrote w0.heap.size b nv (l ++ R) w (.returned (.tuple #[])) w3) := s3.wrote hz HA.out.up
    clear s3
    go_wp2
    go_returns
    exact S3.out
  · -- one of two
    have hK2 : K = 2 := htwo hpr.1 hpr.2
    subst hK2
    have h0l : 0 < ks.length := by rw [HK.out]; omega
    have h1l : 1 < ks.length := by rw [HK.out]; omega
    obtain ⟨kb, ko, rfl, hkb, t0⟩ := HI.out.at 0 h0l
    obtain ⟨kb', ko', heq, hkb', t1⟩ := HI.out.at 1 h1l
    obtain ⟨rfl, rfl⟩ : kb = kb' ∧ ko = ko' := by
      simp only [Option.some.injEq, Addr.mk.injEq] at heq
      exact ⟨heq.1, heq.2.1⟩
    obtain ⟨c, hc⟩ : ∃ c, Hid (ks[0] = c) := ⟨_, (rfl : ks[0] = ks[0])⟩
    obtain ⟨d, hd⟩ : ∃ c, Hid (ks[1] = c) := ⟨_, (rfl : ks[1] = ks[1])⟩
    rw [hc.out, Nat.add_zero] at t0
    rw [hd.out] at t1
    have hcm : c ∈ ks := by rw [← hc.out]; exact List.getElem_mem h0l
    have hdm : d ∈ ks := by rw [← hd.out]; exact List.getElem_mem h1l
    obtain ⟨P, hP⟩ : ∃ P, Hid (parL ns (valL ns) c = P) := ⟨_, (rfl : parL ns (valL ns) c = parL ns (valL ns) c)⟩
    obtain ⟨Q, hQ⟩ : ∃ P, Hid (parL ns (valL ns) d = P) := ⟨_, (rfl : parL ns (valL ns) d = parL ns (valL ns) d)⟩
    have HE : Hid (R = P ++ sgnL kd ++ Q) := by
      show _ = _
      rw [HB.out, ← hP.out, ← hQ.out, ← hc.out, ← hd.out, ← getD_at h0l, ← getD_at h1l]
      unfold valBody
      simp only
      rw [if_neg (by omega), if_neg (by omega), if_neg (by omega), if_neg (by omega), if_neg (by omega), if_neg (by omega), if_neg (by omega), if_neg (by omega), if_neg (by omega)]
    have cP : Hid (∀ G, Writes Tryz.prog 52 #[.pointer (some ⟨b, 0, none⟩), .slice (some ⟨kb, ko, none⟩) 2 kc, .string G] w0 b nv (P ++ catL [G] ++ Q)) := fun G =>
      lwPair_of nv b w0 kb ko kc c d G P Q hkb t0 t1 (by rw [← hP.out]; exact HTerm.out c hcm) (by rw [← hQ.out]; exact HTerm.out d hdm)
    have hkk : kd = 9 ∨ kd = 10 ∨ kd = 11 := by omega
    rcases hkk with rfl | rfl | rfl
    all_goals
      clear hpr t0 t1
      go_enter Tryz.func24, Tryz.ntmps24
      go_wp2_with fail
      go_at_call 52
      refine Calls.mono (HA.out.stand.call HA.out.base (cP.out _) (by rw [HE.out] at HZ; exact HZ.out)) ?_
      rintro e w3 ⟨rfl, s3⟩
      have S3 : Hid (Wrote w0.heap.size b nv (l ++ R) w (.returned (.tuple #[])) w3) := by rw [HE.out]; exact s3.wrote hz HA.out.up
      clear s3
      go_wp2
      go_returns
      exact S3.out

end Go.Proofs.YtancoijbcobafaaGreatDoor

namespace Go.Proofs.YtancoijbcobafaaGreatDoor
open Go.RowKit

set_option maxRecDepth 100000 in
set_option maxHeartbeats 3200000 in
theorem implShowValue_any (v0 v1 : Value) (ns : List Nd) (k : Int) (w : World) (hR : NdR.Row w w.heap.size v0 ns) (hl : szRow szNd ns ≤ 1048576) (L : List UInt8) (hL : Hid (showVal ns k = L)) (ht : Tab10 w) :
    Calls Tryz.prog 9 #[.agg #[v0, v1], .int .i64 k] w (Tells L w) := by
  obtain ⟨na, nc, rfl⟩ := hR.len
  obtain ⟨N, HN⟩ : ∃ N, Hid (ns.length = N) := ⟨_, (rfl : ns.length = ns.length)⟩
  have HV : Hid (NdR.Row w w.heap.size (.slice na N nc) ns) := by rw [← HN.out]; exact hR
  have HL : Hid (szRow szNd ns ≤ 1048576) := hl
  have HT : Hid (Tab10 w) := ht
  rw [HN.out]
  obtain ⟨d, hd⟩ : ∃ d, Hid (deepOf ns k = d) := ⟨_, (rfl : deepOf ns k = deepOf ns k)⟩
  have cD : Hid (∀ W, Below w.heap.size w W → Calls Tryz.prog 22 #[.slice na N nc, .int .i64 k] W fun e w' => e = .returned (.int .i64 d) ∧ Below W.heap.size W w') := fun W hW => by
    rw [← hd.out]
    exact implDeepOf_any _ ns _ W ((HV.out.keep hW).up hW.size) HL.out
  clear hR hl ht
  go_enter Tryz.func9, Tryz.ntmps9
  go_wp2_with fail
  go_at_call 22
  refine Calls.mono (cD.out _ (by go_grown)) ?_
  rintro e w1 ⟨rfl, hb1⟩
  have B1 : Hid (Box w (.cells #[.slice na N nc, v1] 31) w1) := (Box.first _ _).next hb1
  clear hb1 cD
  by_cases hdz : d = 0
  · have HE : Hid (txt L = ⟨#[]⟩) := by show _ = _; rw [← hL.out]; unfold showVal; rw [if_pos (by rw [hd.out]; exact hdz)]; rfl
    subst hdz
    go_wp2
    go_ret
    exact ⟨by rw [HE.out]; rfl, B1.out.below⟩
  have hne : deepOf ns k ≠ 0 := by rw [hd.out]; exact hdz
  have hkb := deep_inside hne
  rw [HN.out] at hkb
  obtain ⟨m, rfl⟩ : ∃ m : Nat, k = (m : Int) := ⟨k.toNat, by omega⟩
  have hm : m < N := by omega
  have hml : m < ns.length := by rw [HN.out]; exact hm
  have hd1 : (d == 0) = false := by simpa using hdz
  have hm0 : (0 : Int) ≤ (m : Int) := by omega
  have hm1 : (m : Int) < (N : Int) := by omega
  obtain ⟨b, off, ka, kc, rfl, hb, e0, _, _, _, _⟩ := RowNd.at HV.out m hml
  obtain ⟨kd, hkd⟩ : ∃ kd, Hid (ns[m].kind = kd) := ⟨_, (rfl : ns[m].kind = ns[m].kind)⟩
  rw [hkd.out] at e0
  have HK : Hid ((ns.getD m nd0).kind = kd) := by show _ = _; rw [← hkd.out]; simp [List.getD, hml]
  have HL2 : Hid (L = if isVal kd = true then valL ns (m : Int) else []) := by
    show _ = _
    rw [← hL.out]
    unfold showVal
    rw [if_neg hne, Int.toNat_natCast, HK.out]
  have p0 := B1.out.cell 0
  simp at p0
  have f0 := (B1.out.below.cell (p := ⟨b, off + m * 4, none⟩) hb).trans e0
  have HNE : Hid (deepOf ns (m : Int) ≠ 0) := hne
  clear hne hkb e0
  cases hv : isVal kd
  · have HE : Hid (txt L = ⟨#[]⟩) := by show _ = _; rw [HL2.out, hv]; rfl
    go_wp2_with (go_at_call 23; refine (isValue_any _ _).mono ?_; rintro e w2 ⟨rfl, hw1⟩; have hw2 := hw1.symm; subst hw2; rw [hv])
    go_ret
    exact ⟨by rw [HE.out]; rfl, B1.out.below⟩
  · have HE : Hid (L = valL ns (m : Int)) := by show _ = _; rw [HL2.out, hv]; rfl
    have HB1 : Hid (Below w.heap.size w w1 ∧ w.heap.size ≤ w1.heap.size) := ⟨B1.out.below, Nat.le_of_lt B1.out.lt⟩
    have HLen : Hid (([] : List UInt8).length + L.length ≤ 100000000000000) := by
      show _ ≤ _
      rw [HE.out]
      have h1 := valL_len hml HNE.out m (Nat.le_refl _) (by rw [HK.out]; exact hv)
      have h10 : deepOf ns (m : Int) ≤ 10 := by rw [deepOf_in hml]; exact (deeps_bound ns _ _).2
      have h2 : 4 ^ (deepOf ns (m : Int)).toNat ≤ 4 ^ 10 := Nat.pow_le_pow_right (by omega) (by omega)
      have h3 : (4 : Nat) ^ 10 = 1048576 := by decide
      simp only [List.length_nil]
      omega
    have cV : Hid (Writes Tryz.prog 24 #[.pointer (some ⟨w1.heap.size, 0, none⟩), .int .i64 (m : Int)] w1 w1.heap.size (.slice (some ⟨b, off, none⟩) N nc) L) := by
      rw [HE.out]
      exact lwValue_any _ N nc m w1.heap.size ns w1 _ (rfl : (Value.slice (some ⟨b, off, none⟩) N nc) = _) HN hm HNE ((HV.out.keep HB1.out.1).up HB1.out.2) (HT.out.below HB1.out.1) m (Nat.le_refl _) (by rw [HK.out]; exact hv)
    have S0 : Hid (Stand w1 (w1.alloc (.cells #[.slice (some ⟨b, off, none⟩) N nc, .pointer none, .slice none 0 0] 55)) w1.heap.size (.slice (some ⟨b, off, none⟩) N nc) [] (w1.alloc (.cells #[.slice (some ⟨b, off, none⟩) N nc, .pointer none, .slice none 0 0] 55))) := Stand.first (Lw.fresh w1 _)
    have H0 : Hid (Below w1.heap.size w1 (w1.alloc (.cells #[.slice (some ⟨b, off, none⟩) N nc, .pointer none, .slice none 0 0] 55))) := (Below.refl _ _).alloc (Nat.le_refl _) _
    go_wp2_with (go_at_call 23; refine (isValue_any _ _).mono ?_; rintro e w2 ⟨rfl, hw1⟩; have hw2 := hw1.symm; subst hw2; rw [hv])
    go_at_call 24
    refine Calls.mono (S0.out.call H0.out cV.out HLen.out) ?_
    rintro e w2 ⟨rfl, s2⟩
    have HS : Hid (Below w1.heap.size w1 w2 ∧ Lw w1.heap.size w1.heap.size (.slice (some ⟨b, off, none⟩) N nc) L w2) := ⟨H0.out.trans s2.2.1, s2.1⟩
    clear s2
    go_wp2_with fail
    go_at_call 25
    refine Calls.mono (lwText_any w1.heap.size w1.heap.size _ L _ HS.out.2 HS.out.1.size) ?_
    rintro e w3 ⟨rfl, hb3⟩
    have HF : Hid (Below w.heap.size w w3) := HB1.out.1.trans ((HS.out.1.trans hb3).mono HB1.out.2)
    clear hb3
    go_wp2
    go_ret
    exact ⟨rfl, HF.out⟩

end Go.Proofs.YtancoijbcobafaaGreatDoor

namespace Go.Proofs.YtancoijbcobafaaGreatDoor
open Go.RowKit

theorem Tryz.structPg : ∃ f0 f1 : Field, Tryz.prog.underlying 25 = some (.struct #[f0, f1]) ∧ f0.offset = 0 ∧ f1.offset = 1 ∧ f0.type = 22 ∧ f1.type = 23 := ⟨_, _, Tryz.underlying25, rfl, rfl, rfl, rfl⟩
theorem Tryz.cellsPg : Tryz.prog.cellsOf 25 = 2 := by kernel_rfl
theorem open_pg {H : Type} {enc : TypeId × Value → H} {W : World} {fuel : Nat} {cs : Array Value} {x : DataW H × List MemPlace}
    (h : DataW.trod enc Tryz.prog W 0 (fun _ => true) true fuel 25 (Value.agg cs).cells.toList = some x) :
    ∃ v0 v1 p, cs = #[v0, v1] ∧ RowPg W W.heap.size v0 v1 p ∧ okPg p := by
  obtain ⟨f0, f1, hst, o0, o1, t0, t1⟩ := Tryz.structPg
  obtain ⟨xs, k, _, _, hlen, hxl, hf⟩ := DataW.trod_struct hst h
  rw [Tryz.cellsPg] at hlen
  have hxl' : xs.length = 2 := hxl
  obtain ⟨y0, y1, rfl⟩ := len_pm hxl'
  obtain ⟨v0, v1, hv⟩ := len_pm hlen
  have hcs : cs = #[v0, v1] := by
    have : cs.toList = [v0, v1] := hv
    rw [← this]
  subst hcs
  have g0 := hf 0 f0 rfl
  rw [o0, t0, Tryz.cellsNds, hv] at g0
  have g1 := hf 1 f1 rfl
  rw [o1, t1, Tryz.cellsFcs, hv] at g1
  simp at g0 g1
  obtain ⟨z0, r0, k0⟩ := open_nds g0
  obtain ⟨z1, r1, k1⟩ := open_fcs g1
  exact ⟨v0, v1, ⟨z0, z1⟩, rfl, ⟨r0, r1⟩, k0, k1⟩

end Go.Proofs.YtancoijbcobafaaGreatDoor

namespace Go.Proofs.YtancoijbcobafaaGreatDoor
open Go.RowKit

set_option maxRecDepth 100000 in
set_option maxHeartbeats 3200000 in
theorem lawShowValueT (a0 a1 : Value) (p : Pg) (k : Int) (w : World) (hp : RowPg w w.heap.size a0 a1 p ∧ okPg p) (hd : Tab10 w) :
    Calls Tryz.prog 3 #[.agg #[a0, a1], .int .i64 k] w fun e w' => e = .returned (.bool true) ∧ Below w.heap.size w w' := by
  have cZ : Hid (∀ W, Below w.heap.size w W → Calls Tryz.prog 6 #[.agg #[a0, a1], .int .i64 1048576] W fun e w' => (∃ r : Int, e = .returned (.int .i64 r) ∧ (r = -1 ∨ (0 ≤ r ∧ r + (szPg p : Int) = 1048576))) ∧ Below W.heap.size W w') := fun W hW =>
    szProgram_sum w.heap.size p a0 a1 1048576 W hW.size (hp.1.keep hW) hp.2 (by omega) (by omega)
  have HP : Hid (RowPg w w.heap.size a0 a1 p) := hp.1
  have HDO : Hid (Tab10 w) := hd
  clear hd
  clear hp
  go_enter Tryz.func3, Tryz.ntmps3
  go_wp2_with fail
  go_at_call 6
  refine Calls.mono (cZ.out _ (by go_grown)) ?_
  rintro e w1 ⟨⟨r, rfl, hr⟩, hb⟩
  have B1 : Hid (Box w (.cells #[a0, a1] 25) w1) := (Box.first _ _).next hb
  clear cZ hb
  rcases hr with rfl | ⟨hr0, hr1⟩
  · go_wp2
    go_ret
    exact ⟨rfl, B1.out.below⟩
  have hrn : ¬ r < 0 := by omega
  have hl : szPg p ≤ 1048576 := by omega
  have HL : Hid (szPg p ≤ 1048576 ∧ szRow szNd p.nodes ≤ 1048576) := ⟨hl, Nat.le_trans (le_szPg_nodes p) hl⟩
  obtain ⟨N0, H0⟩ : ∃ K, Hid (p.nodes.length = K) := ⟨_, (rfl : p.nodes.length = p.nodes.length)⟩
  obtain ⟨N1, H1⟩ : ∃ K, Hid (p.fns.length = K) := ⟨_, (rfl : p.fns.length = p.fns.length)⟩
  have cT : Hid (∀ W, Below w.heap.size w W → Calls Tryz.prog 8 #[.agg #[a0, a1]] W fun e w' => ∃ g c g' c', e = .returned (.agg #[.slice (some ⟨g, 0, none⟩) N0 c, .slice (some ⟨g', 0, none⟩) N1 c']) ∧ OwnPg w' W.heap.size w'.heap.size (.slice (some ⟨g, 0, none⟩) N0 c) (.slice (some ⟨g', 0, none⟩) N1 c') p ∧ Below W.heap.size W w') := fun W hW => by
    rw [← H0.out, ← H1.out]
    exact toProgram_any w.heap.size p a0 a1 W hW.size (HP.out.keep hW) hl
  obtain ⟨L, hL⟩ : ∃ L, Hid (showVal p.nodes k = L) := ⟨_, (rfl : showVal p.nodes k = showVal p.nodes k)⟩
  obtain ⟨T, hT⟩ : ∃ T, Hid (txt L = T) := ⟨_, (rfl : txt L = txt L)⟩
  have cS : Hid (∀ W v0 v1, RowPg W W.heap.size v0 v1 p → Calls Tryz.prog 7 #[.agg #[v0, v1], .int .i64 k] W fun e w' => e = .returned (.string T) ∧ Below W.heap.size W w') := fun W v0 v1 h => by rw [← hT.out]; exact specShowValue_any v0 v1 p.nodes k W h.1 HL.out.2 L hL
  have cI : Hid (∀ W v0 v1, Below w.heap.size w W → RowPg W W.heap.size v0 v1 p → Calls Tryz.prog 9 #[.agg #[v0, v1], .int .i64 k] W fun e w' => e = .returned (.string T) ∧ Below W.heap.size W w') := fun W v0 v1 hW h => by rw [← hT.out]; exact implShowValue_any v0 v1 p.nodes k W h.1 HL.out.2 L hL (HDO.out.below hW)
  clear hl hr0 hr1
  have x0 : w1.cell? ⟨w.heap.size, 0, none⟩ = some a0 := B1.out.cell 0
  have x1 : w1.cell? ⟨w.heap.size, 1, none⟩ = some a1 := B1.out.cell 1
  go_wp2_with fail
  go_at_call 8
  refine Calls.mono (cT.out _ B1.out.below) ?_
  rintro e w2 ⟨g, c, g', c', rfl, ho, hb⟩
  have B2 : Hid (Box w (.cells #[a0, a1] 25) w2) := B1.out.next hb
  clear hb B1 x0 x1
  go_wp2_with fail
  go_at_call 7
  refine Calls.mono (cS.out _ _ _ ho.row) ?_
  rintro e w3 ⟨rfl, hb⟩
  have B3 : Hid (Box w (.cells #[a0, a1] 25) w3) := B2.out.next hb
  clear hb B2 ho cS
  have x0 : w3.cell? ⟨w.heap.size, 0, none⟩ = some a0 := B3.out.cell 0
  have x1 : w3.cell? ⟨w.heap.size, 1, none⟩ = some a1 := B3.out.cell 1
  go_wp2_with fail
  go_at_call 8
  refine Calls.mono (cT.out _ B3.out.below) ?_
  rintro e w4 ⟨g2, c2, g2', c2', rfl, ho, hb⟩
  have B4 : Hid (Box w (.cells #[a0, a1] 25) w4) := B3.out.next hb
  have R4 : Hid (RowPg w4 w4.heap.size (.slice (some ⟨g2, 0, none⟩) N0 c2) (.slice (some ⟨g2', 0, none⟩) N1 c2') p) := ho.row
  clear hb B3 x0 x1 ho
  go_wp2_with fail
  go_at_call 9
  refine Calls.mono (cI.out _ _ _ (B4.out.alloc _).below ((R4.out.keep ((Below.refl _ _).alloc (Nat.le_refl _) _)).up (by simp))) ?_
  rintro e w5 ⟨rfl, hb⟩
  have B5 : Hid (Box w (.cells #[a0, a1] 25) w5) := (B4.out.alloc _).next hb
  have X5 : Hid (Box w4 (.cells #[.slice (some ⟨g2, 0, none⟩) N0 c2, .slice (some ⟨g2', 0, none⟩) N1 c2'] 31) w5) := (Box.first _ _).next hb
  have R5 : Hid (RowPg w5 w4.heap.size (.slice (some ⟨g2, 0, none⟩) N0 c2) (.slice (some ⟨g2', 0, none⟩) N1 c2') p) := R4.out.keep X5.out.below
  have hz5 : w4.heap.size ≤ w5.heap.size := Nat.le_of_lt X5.out.lt
  clear hb B4 R4 cI
  have z0 : w5.cell? ⟨w4.heap.size, 0, none⟩ = some (.slice (some ⟨g2, 0, none⟩) N0 c2) := X5.out.cell 0
  have z1 : w5.cell? ⟨w4.heap.size, 1, none⟩ = some (.slice (some ⟨g2', 0, none⟩) N1 c2') := X5.out.cell 1
  have x0 : w5.cell? ⟨w.heap.size, 0, none⟩ = some a0 := B5.out.cell 0
  have x1 : w5.cell? ⟨w.heap.size, 1, none⟩ = some a1 := B5.out.cell 1
  go_wp2_with fail
  go_region_held3 (fun w' => (w'.cell? ⟨w4.heap.size, 0, none⟩ = some (.slice (some ⟨g2, 0, none⟩) N0 c2) ∧ w'.cell? ⟨w4.heap.size, 1, none⟩ = some (.slice (some ⟨g2', 0, none⟩) N1 c2')) ∧ w'.cell? ⟨w.heap.size, 0, none⟩ = some a0 ∧ w'.cell? ⟨w.heap.size, 1, none⟩ = some a1) (first | exact ⟨⟨XB.cell 0, XB.cell 1⟩, DB.cell 0, DB.cell 1⟩ | exact ⟨⟨XA.cell 0, XA.cell 1⟩, DA.cell 0, DA.cell 1⟩ | exact ⟨⟨X5.out.drew.cell 0, X5.out.drew.cell 1⟩, B5.out.drew.cell 0, B5.out.drew.cell 1⟩) (first | (go_at_call 8; refine Calls.mono (cT.out _ B5.out.drew.below) ?_; rintro e wA ⟨gA, cA, gA', cA', rfl, hoA, hbA⟩; have DA := B5.out.drew.next hbA; have XA := X5.out.drew.next hbA) | (go_at_call 10; refine Calls.mono (eqProgram_same wA.heap.size p _ _ _ _ wA (Nat.le_refl _) ((R5.out.keep ((Below.refl _ _).drew.trans (hbA.mono hz5))).up (Nat.le_trans hz5 hbA.size)) hoA.row HL.out.1) ?_; rintro e wB ⟨rfl, hbB⟩; have DB := DA.next hbB; have XB := XA.next hbB))
  have HB : Hid (Below w.heap.size w wB) := DB.below
  clear DA DB XA XB hbA hbB hoA z0 z1 x0 x1
  go_wp2
  go_ret
  exact ⟨rfl, HB.out⟩

end Go.Proofs.YtancoijbcobafaaGreatDoor

namespace Go.Proofs.YtancoijbcobafaaGreatDoor
open Go.RowKit

theorem lawShowValue (a0 a1 : Value) (p : Pg) (k : Int) (w : World) (hL : laidMetH Tryz.prog Rows.fnExactShowValueRow.laid w) (hp : RowPg w w.heap.size a0 a1 p ∧ okPg p) :
    Calls Tryz.prog 3 #[.agg #[a0, a1], .int .i64 k] w fun e w' => e = .returned (.bool true) ∧ Below w.heap.size w w' := by
  refine lawShowValueT a0 a1 p k w hp ?_
  rw [MakeChecks.laidMetH_plain _ _ _ (by kernel_rfl)] at hL
  have h3 : laidMet Tryz.prog [("internal/strconv.uint64pow10", Rows.laid_internal_strconv_uint64pow10)] w := hL.tail.tail
  rw [tab10_data] at h3
  exact Lib.tabIs_of_head (g := 1) (t := 165) (e := 149) (n := 20) (by kernel_rfl) (by kernel_rfl) Tryz.underlying165 Tryz.underlying149 (by kernel_rfl) (by kernel_rfl) h3

end Go.Proofs.YtancoijbcobafaaGreatDoor
