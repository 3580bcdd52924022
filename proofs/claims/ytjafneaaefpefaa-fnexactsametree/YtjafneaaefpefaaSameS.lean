/-
  SameTree, in the model: what it answers at every two programs and every two places.
-/
import Derived.Test.YtjafneaaefpefaaDe
import Derived.Test.YtjafneaaefpefaaPlain21
import Derived.Test.YtjafneaaefpefaaKa
import Derived.Test.YtjafneaaefpefaaRa
namespace Go.Proofs.Ytjafneaaefpefaa
open Go.RowKit

/-- What a call on two nodes answers, two rows being given. -/
def SameCall (P : Program) (f : Nat) (va vb : Option Addr) (N nc M mc B : Nat) (ns ms : List Nd) (a b : Nat) : Prop :=
  ∀ (w : World) (r : Bool), B ≤ w.heap.size → NdR.Row w B (.slice va N nc) ns → NdR.Row w B (.slice vb M mc) ms → (r = true ↔ SameNd ns ms a b) →
    Calls P f #[.slice va N nc, .int .i64 (a : Int), .slice vb M mc, .int .i64 (b : Int)] w fun e w' => e = .returned (.bool r) ∧ Below w.heap.size w w'

theorem deepOf_nn (ns : List Nd) (k : Int) : 0 ≤ deepOf ns k := by
  unfold deepOf
  split
  · exact (deeps_bound ns _ _).1
  · exact Int.le_refl _
theorem deep_within {ns : List Nd} {k : Int} (h : deepOf ns k ≠ 0) : 0 ≤ k ∧ k < (ns.length : Int) := by
  by_cases h1 : k < 0 ∨ (ns.length : Int) ≤ k
  · exact absurd (deepOf_out h1) h
  · omega

set_option maxRecDepth 100000 in
set_option maxHeartbeats 3200000 in
theorem l05Same_any (va vb : Option Addr) (N nc M mc m n B : Nat) (ns ms : List Nd) (HN : Hid (ns.length = N)) (HM : Hid (ms.length = M)) (hm : m < N) (hn : n < M) (HA : Hid (Ahead ns m)) (HB : Hid (Ahead ms n)) (hkl : Hid (∀ q ∈ ns, q.kids.length ≤ 1048576)) :
    ∀ a : Nat, a ≤ m → ∀ b : Nat, b ≤ n → SameCall Try.prog 81 va vb N nc M mc B ns ms a b := by
  intro a
  induction a using Nat.strongRecOn with
  | _ a ih =>
  intro ha b hb w r hBw hR hS hr
  have IH : Hid (∀ c : Nat, c < a → ∀ d : Nat, d ≤ n → SameCall Try.prog 81 va vb N nc M mc B ns ms c d) := fun c hc => ih c hc (by omega)
  clear ih
  have ha0 : (0 : Int) ≤ (a : Int) := by omega
  have ha1 : (a : Int) < (N : Int) := by omega
  have hb0 : (0 : Int) ≤ (b : Int) := by omega
  have hb1 : (b : Int) < (M : Int) := by omega
  have hal : a < ns.length := by rw [HN.out]; omega
  have hbl : b < ms.length := by rw [HM.out]; omega
  have HR : Hid (NdR.Row w B (.slice va N nc) ns ∧ NdR.Row w B (.slice vb M mc) ms) := ⟨hR, hS⟩
  obtain ⟨xb, xo, xa, xc, rfl, hxb, x0, x1, x2, x3, hX⟩ := RowNd.at hR a hal
  obtain ⟨yb, yo, ya, yc, rfl, hyb, y0, y1, y2, y3, hY⟩ := RowNd.at hS b hbl
  have HE : Hid ((ns.getD a nd0) = ns[a] ∧ (ms.getD b nd0) = ms[b]) := ⟨by simp [List.getD, hal], by simp [List.getD, hbl]⟩
  have hkx := hkl.out ns[a] (List.getElem_mem hal)
  obtain ⟨x, hx⟩ : ∃ x, Hid (ns[a] = x) := ⟨_, (rfl : ns[a] = ns[a])⟩
  obtain ⟨y, hy⟩ : ∃ y, Hid (ms[b] = y) := ⟨_, (rfl : ms[b] = ms[b])⟩
  rw [hx.out] at x0 x1 x2 x3 hX hkx HE
  rw [hy.out] at y0 y1 y2 y3 hY HE
  have HQ : Hid (r = true ↔ x.kind = y.kind ∧ x.num = y.num ∧ sameB x.name y.name = true ∧ x.kids.length = y.kids.length ∧ ∀ i, i < x.kids.length → SameNd ns ms (x.kids.getD i 0).toNat (y.kids.getD i 0).toNat) := by
    show _ ↔ _
    rw [hr, sameNd_iff, HE.out.1, HE.out.2]
  have HAx : Hid (∀ c ∈ x.kids, 0 ≤ c ∧ c < (a : Int)) := by have := HA.out a ha; rw [HE.out.1] at this; exact this
  have HBy : Hid (∀ c ∈ y.kids, 0 ≤ c ∧ c < (b : Int)) := by have := HB.out b hb; rw [HE.out.2] at this; exact this
  obtain ⟨k1, n1, t1, ks⟩ := x
  obtain ⟨k2, n2, t2, ls⟩ := y
  simp only at x0 x1 x2 x3 hX hkx y0 y1 y2 y3 hY HQ HAx HBy
  obtain ⟨K, HK⟩ : ∃ K, Hid (ks.length = K) := ⟨_, (rfl : ks.length = ks.length)⟩
  obtain ⟨L, HL⟩ : ∃ L, Hid (ls.length = L) := ⟨_, (rfl : ls.length = ls.length)⟩
  rw [HK.out] at x3 hX hkx HQ
  rw [HL.out] at y3 hY HQ
  have HX : Hid (RowI w B (.slice xa K xc) ks ∧ RowI w B (.slice ya L yc) ls) := ⟨hX, hY⟩
  have hxw : xb < w.heap.size := by omega
  have hyw : yb < w.heap.size := by omega
  clear hR hS hX hY hr HE
  by_cases hk : k1 = k2
  rotate_left
  · have HF : Hid (r = false) := Bool.eq_false_iff.mpr (fun h => hk (HQ.out.mp h).1)
    have hk' : (k1 == k2) = false := by simpa using hk
    go_enter Try.func81, Try.ntmps81
    go_wp2
    go_ret
    exact ⟨by rw [HF.out]; rfl, by go_grown⟩
  by_cases hnu : n1 = n2
  rotate_left
  · have HF : Hid (r = false) := Bool.eq_false_iff.mpr (fun h => hnu (HQ.out.mp h).2.1)
    have hk' : (n1 == n2) = false := by simpa using hnu
    subst hk
    go_enter Try.func81, Try.ntmps81
    go_wp2
    go_ret
    exact ⟨by rw [HF.out]; rfl, by go_grown⟩
  cases hst : sameB t1 t2
  · have HF : Hid (r = false) := Bool.eq_false_iff.mpr (fun h => by have := (HQ.out.mp h).2.2.1; rw [hst] at this; cases this)
    subst hk hnu
    unfold sameB at hst
    go_enter Try.func81, Try.ntmps81
    go_wp2
    go_ret
    exact ⟨by rw [HF.out]; rfl, by go_grown⟩
  have HST : Hid (sameB t1 t2 = true) := hst
  unfold sameB at hst
  by_cases hle : K = L
  rotate_left
  · have HF : Hid (r = false) := Bool.eq_false_iff.mpr (fun h => hle (HQ.out.mp h).2.2.2.1)
    have hk' : ((K : Int) == (L : Int)) = false := by simp; omega
    subst hk hnu
    go_enter Try.func81, Try.ntmps81
    go_wp2
    go_ret
    exact ⟨by rw [HF.out]; rfl, by go_grown⟩
  subst hk hnu hle
  have HG : Hid (r = true ↔ ∀ i, i < K → SameNd ns ms (ks.getD i 0).toNat (ls.getD i 0).toNat) := by
    show _ ↔ _
    rw [HQ.out]
    exact ⟨fun h => h.2.2.2.2, fun h => ⟨rfl, rfl, HST.out, rfl, h⟩⟩
  clear HQ
  go_enter Try.func81, Try.ntmps81
  go_wp2
  go_loopw [11] (fun i wr => ∃ s : Nat, s ≤ K ∧ i = .int .i64 (s : Int) ∧ Hid ((∀ i, i < s → SameNd ns ms (ks.getD i 0).toNat (ls.getD i 0).toNat) ∧ Below (w.heap.size + 2) ((w.alloc (.cells #[.int .i64 k1, .int .i64 n1, .string t1, .slice xa K xc] 70)).alloc (.cells #[.int .i64 k1, .int .i64 n1, .string t2, .slice ya K yc] 70)) wr)) (fun i _ => K - (intOf i).toNat)
  case atStart => exact ⟨0, Nat.zero_le _, rfl, fun i hi => by omega, Below.refl _ _⟩
  case round =>
    obtain ⟨s, hs, rfl, HJ⟩ := hrel
    have hw2 : w.heap.size + 2 ≤ wr.heap.size := by have := HJ.out.2.size; simp at this; omega
    have HBw : Hid (Below w.heap.size w wr) := by
      have h1 : Below w.heap.size w ((w.alloc (.cells #[.int .i64 k1, .int .i64 n1, .string t1, .slice xa K xc] 70)).alloc (.cells #[.int .i64 k1, .int .i64 n1, .string t2, .slice ya K yc] 70)) := by go_grown
      exact h1.trans (HJ.out.2.mono (by omega))
    have u3 : wr.cell? ⟨w.heap.size, 3, none⟩ = some (.slice xa K xc) := (HJ.out.2.cell (p := ⟨w.heap.size, 3, none⟩) (by show w.heap.size < _; omega)).trans (by simp)
    have v3 : wr.cell? ⟨w.heap.size + 1, 3, none⟩ = some (.slice ya K yc) := (HJ.out.2.cell (p := ⟨w.heap.size + 1, 3, none⟩) (by show w.heap.size + 1 < _; omega)).trans (by simp)
    clear x0 x1 x2 x3 y0 y1 y2 y3
    by_cases hsl : s < K
    · have hs0 : (0 : Int) ≤ (s : Int) := by omega
      have hs1 : (s : Int) < (K : Int) := by omega
      have hsk : s < ks.length := by have := HK.out; omega
      have hsm : s < ls.length := by have := HL.out; omega
      obtain ⟨kb, ko, rfl, hkb, e0⟩ := HX.out.1.at s hsk
      obtain ⟨lb, lo, rfl, hlb, e1⟩ := HX.out.2.at s hsm
      obtain ⟨c, hc⟩ : ∃ c, Hid (ks[s] = c) := ⟨_, (rfl : ks[s] = ks[s])⟩
      obtain ⟨d, hd⟩ : ∃ d, Hid (ls[s] = d) := ⟨_, (rfl : ls[s] = ls[s])⟩
      have f0 := (HBw.out.cell (p := ⟨kb, ko + s, none⟩) (by show kb < _; omega)).trans e0
      have f1 := (HBw.out.cell (p := ⟨lb, lo + s, none⟩) (by show lb < _; omega)).trans e1
      rw [hc.out] at f0
      rw [hd.out] at f1
      have hcb : 0 ≤ c ∧ c < (a : Int) := HAx.out c (by rw [← hc.out]; exact List.getElem_mem hsk)
      have hdb : 0 ≤ d ∧ d < (b : Int) := HBy.out d (by rw [← hd.out]; exact List.getElem_mem hsm)
      obtain ⟨cn, rfl⟩ : ∃ cn : Nat, c = (cn : Int) := ⟨c.toNat, by omega⟩
      obtain ⟨dn, rfl⟩ : ∃ dn : Nat, d = (dn : Int) := ⟨d.toNat, by omega⟩
      obtain ⟨q, hq⟩ : ∃ q : Bool, Hid (q = true ↔ SameNd ns ms cn dn) := some_bool _
      have HC : Hid ((ks.getD s 0).toNat = cn ∧ (ls.getD s 0).toNat = dn) := by
        constructor
        · rw [getD_in hsk, hc.out]; rfl
        · rw [getD_in hsm, hd.out]; rfl
      have cR : Hid (∀ W, Below w.heap.size w W → Calls Try.prog 81 #[.slice (some ⟨xb, xo, none⟩) N nc, .int .i64 (cn : Int), .slice (some ⟨yb, yo, none⟩) M mc, .int .i64 (dn : Int)] W fun e w' => e = .returned (.bool q) ∧ Below W.heap.size W w') := fun W hW =>
        IH.out cn (by omega) dn (by omega) W q (Nat.le_trans hBw hW.size) (HR.out.1.keep (hW.mono hBw)) (HR.out.2.keep (hW.mono hBw)) hq.out
      have hz0 : w.heap.size < wr.heap.size := by omega
      have hz1 : w.heap.size + 1 < wr.heap.size := by omega
      have hz2 : kb < wr.heap.size := by omega
      have hz3 : lb < wr.heap.size := by omega
      clear e0 e1 hcb hdb
      go_wp2_with fail
      go_region_held3 (fun w' => (w'.cell? ⟨w.heap.size, 3, none⟩ = some (.slice (some ⟨kb, ko, none⟩) K xc) ∧ w'.cell? ⟨w.heap.size + 1, 3, none⟩ = some (.slice (some ⟨lb, lo, none⟩) K yc)) ∧ w'.cell? ⟨kb, ko + s, none⟩ = some (.int .i64 (cn : Int)) ∧ w'.cell? ⟨lb, lo + s, none⟩ = some (.int .i64 (dn : Int))) (first | exact ⟨⟨u3, v3⟩, f0, f1⟩ | exact ⟨⟨(hb1.cell (p := ⟨w.heap.size, 3, none⟩) hz0).trans u3, (hb1.cell (p := ⟨w.heap.size + 1, 3, none⟩) hz1).trans v3⟩, (hb1.cell (p := ⟨kb, ko + s, none⟩) hz2).trans f0, (hb1.cell (p := ⟨lb, lo + s, none⟩) hz3).trans f1⟩) ((go_at_call 81; refine Calls.mono (cR.out _ HBw.out.drew) ?_; rintro e w1 ⟨rfl, hb1⟩))
      replace hb1 : Below wr.heap.size wr w1 := (Below.refl _ _).drew.trans hb1
      have HB1 : Hid (Below (w.heap.size + 2) ((w.alloc (.cells #[.int .i64 k1, .int .i64 n1, .string t1, .slice (some ⟨kb, ko, none⟩) K xc] 70)).alloc (.cells #[.int .i64 k1, .int .i64 n1, .string t2, .slice (some ⟨lb, lo, none⟩) K yc] 70)) w1 ∧ Below w.heap.size w w1) := ⟨HJ.out.2.trans (hb1.mono hw2), HBw.out.trans (hb1.mono (by omega))⟩
      clear hb1 cR u3 v3 f0 f1
      cases q
      · have HF : Hid (r = false) := Bool.eq_false_iff.mpr (fun h => by
          have h1 := HG.out.mp h s hsl
          rw [HC.out.1, HC.out.2] at h1
          exact absurd (hq.out.mpr h1) (by simp))
        go_wp2
        go_ret
        exact ⟨by rw [HF.out]; rfl, HB1.out.2⟩
      · have HJ1 : Hid (∀ i, i < s + 1 → SameNd ns ms (ks.getD i 0).toNat (ls.getD i 0).toNat) := fun i hi => by
          by_cases e : i = s
          · subst e
            rw [HC.out.1, HC.out.2]
            exact hq.out.mp rfl
          · exact HJ.out.1 i (by omega)
        clear HJ
        go_wp2
        go_roundw
        case rel => exact ⟨s + 1, by omega, by go_num, HJ1.out, HB1.out.1⟩
        case measure => simp [intOf]; omega
    · have HF : Hid (r = true) := HG.out.mpr (fun i hi => HJ.out.1 i (by omega))
      clear HJ
      go_wp2
      go_ret
      exact ⟨by rw [HF.out]; rfl, HBw.out⟩

set_option maxRecDepth 100000 in
set_option maxHeartbeats 3200000 in
theorem specSameTree_any (v0 v1 u0 u1 : Value) (ns ms : List Nd) (a b : Int) (r : Bool) (w : World) (hR : NdR.Row w w.heap.size v0 ns) (hS : NdR.Row w w.heap.size u0 ms) (hl : szRow szNd ns ≤ 1048576) (hl2 : szRow szNd ms ≤ 1048576) (hr : r = true ↔ SameTr ns a ms b) :
    Calls Try.prog 41 #[.agg #[v0, v1], .int .i64 a, .agg #[u0, u1], .int .i64 b] w fun e w' => e = .returned (.bool r) ∧ Below w.heap.size w w' := by
  obtain ⟨na, nc, rfl⟩ := hR.len
  obtain ⟨ma, mc, rfl⟩ := hS.len
  obtain ⟨N, HN⟩ : ∃ N, Hid (ns.length = N) := ⟨_, (rfl : ns.length = ns.length)⟩
  obtain ⟨M, HM⟩ : ∃ M, Hid (ms.length = M) := ⟨_, (rfl : ms.length = ms.length)⟩
  have HV : Hid (NdR.Row w w.heap.size (.slice na N nc) ns ∧ NdR.Row w w.heap.size (.slice ma M mc) ms) := by rw [← HN.out, ← HM.out]; exact ⟨hR, hS⟩
  have HL : Hid (szRow szNd ns ≤ 1048576 ∧ szRow szNd ms ≤ 1048576) := ⟨hl, hl2⟩
  have HRR : Hid (r = true ↔ SameTr ns a ms b) := hr
  rw [HN.out, HM.out]
  obtain ⟨d, hd⟩ : ∃ d, Hid (deepOf ns a = d) := ⟨_, (rfl : deepOf ns a = deepOf ns a)⟩
  obtain ⟨f, hf⟩ : ∃ f, Hid (deepOf ms b = f) := ⟨_, (rfl : deepOf ms b = deepOf ms b)⟩
  have hd0 : 0 ≤ d := by rw [← hd.out]; exact deepOf_nn _ _
  have hf0 : 0 ≤ f := by rw [← hf.out]; exact deepOf_nn _ _
  have cD : Hid (∀ W, Below w.heap.size w W → Calls Try.prog 24 #[.slice na N nc, .int .i64 a] W fun e w' => e = .returned (.int .i64 d) ∧ Below W.heap.size W w') := fun W hW => by
    rw [← hd.out]
    exact specDeepOf_any _ ns _ W ((HV.out.1.keep hW).up hW.size) HL.out.1
  have cF : Hid (∀ W, Below w.heap.size w W → Calls Try.prog 24 #[.slice ma M mc, .int .i64 b] W fun e w' => e = .returned (.int .i64 f) ∧ Below W.heap.size W w') := fun W hW => by
    rw [← hf.out]
    exact specDeepOf_any _ ms _ W ((HV.out.2.keep hW).up hW.size) HL.out.2
  clear hR hS hl hl2 hr
  go_enter Try.func41, Try.ntmps41
  go_wp2_with fail
  go_at_call 24
  refine Calls.mono (cD.out _ (by go_grown)) ?_
  rintro e w1 ⟨rfl, hb1⟩
  have P1 : Hid (Box w (.cells #[.slice na N nc, v1] 39) w1) := ((Box.first _ _).alloc _).next hb1
  have Q1 : Hid (Box (w.alloc (.cells #[.slice na N nc, v1] 39)) (.cells #[.slice ma M mc, u1] 39) w1) := (Box.first _ _).next hb1
  clear hb1 cD
  by_cases hdz : d = 0
  · have HF : Hid (r = false) := Bool.eq_false_iff.mpr (fun h => (HRR.out.mp h).1 (by rw [hd.out]; exact hdz))
    subst hdz
    go_wp2
    go_ret
    exact ⟨by rw [HF.out]; rfl, P1.out.below⟩
  have hd1 : 0 < d := by omega
  have q0 := Q1.out.cell 0
  simp at q0
  go_wp2_with fail
  go_at_call 24
  refine Calls.mono (cF.out _ P1.out.below) ?_
  rintro e w2 ⟨rfl, hb1⟩
  have P2 : Hid (Box w (.cells #[.slice na N nc, v1] 39) w2) := P1.out.next hb1
  have Q2 : Hid (Box (w.alloc (.cells #[.slice na N nc, v1] 39)) (.cells #[.slice ma M mc, u1] 39) w2) := Q1.out.next hb1
  clear hb1 cF P1 Q1 q0
  by_cases hfz : f = 0
  · have HF : Hid (r = false) := Bool.eq_false_iff.mpr (fun h => (HRR.out.mp h).2.1 (by rw [hf.out]; exact hfz))
    subst hfz
    go_wp2
    go_ret
    exact ⟨by rw [HF.out]; rfl, P2.out.below⟩
  have hf1 : 0 < f := by omega
  have hne : deepOf ns a ≠ 0 := by rw [hd.out]; exact hdz
  have hnf : deepOf ms b ≠ 0 := by rw [hf.out]; exact hfz
  have ha := deep_within hne
  have hb := deep_within hnf
  rw [HN.out] at ha
  rw [HM.out] at hb
  obtain ⟨m, rfl⟩ : ∃ m : Nat, a = (m : Int) := ⟨a.toNat, by omega⟩
  obtain ⟨n, rfl⟩ : ∃ n : Nat, b = (n : Int) := ⟨b.toNat, by omega⟩
  have cS : Hid (Calls Try.prog 81 #[.slice na N nc, .int .i64 (m : Int), .slice ma M mc, .int .i64 (n : Int)] w2 fun e w' => e = .returned (.bool r) ∧ Below w2.heap.size w2 w') :=
    l05Same_any na ma N nc M mc m n w.heap.size ns ms HN HM (by omega) (by omega) (ahead_of (by rw [HN.out]; omega) hne) (ahead_of (by rw [HM.out]; omega) hnf) (fun q hq => Nat.le_trans (Nat.le_trans (le_szNd_kids q) (mem_szRow szNd hq)) HL.out.1) m (Nat.le_refl _) n (Nat.le_refl _) w2 r (Nat.le_of_lt P2.out.lt) (HV.out.1.keep P2.out.below) (HV.out.2.keep P2.out.below) (by
      rw [HRR.out]
      exact ⟨fun h => h.2.2, fun h => ⟨hne, hnf, h⟩⟩)
  have p0 := P2.out.cell 0
  have q0 := Q2.out.cell 0
  simp at p0 q0
  clear ha hb hne hnf
  go_wp2_with fail
  go_at_call 81
  refine Calls.mono cS.out ?_
  rintro e w3 ⟨rfl, hb1⟩
  have HB : Hid (Below w.heap.size w w3) := P2.out.below.trans (hb1.mono (Nat.le_of_lt P2.out.lt))
  clear hb1 p0 q0
  go_wp2
  go_ret
  exact ⟨rfl, HB.out⟩

end Go.Proofs.Ytjafneaaefpefaa
