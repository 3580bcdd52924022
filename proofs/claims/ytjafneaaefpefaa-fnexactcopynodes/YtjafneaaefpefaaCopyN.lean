/-
  CopyNodes, in the model: what it answers at every program, place and row of nodes.
-/
import Derived.Test.YtjafneaaefpefaaPackT
namespace Go.Proofs.Ytjafneaaefpefaa
open Go.RowKit

/-- What CopyNodes answers. -/
def copyAns (ns ms : List Nd) (k : Int) : List Nd × Int := if deepOf ns k = 0 then (ms, -1) else (pack ns 10 k ms).getD (ms, -1)
theorem copyAns_zero {ns ms : List Nd} {k : Int} (h : deepOf ns k = 0) : copyAns ns ms k = (ms, -1) := if_pos h
theorem copyAns_none {ns ms : List Nd} {k : Int} (h : pack ns 10 k ms = none) : copyAns ns ms k = (ms, -1) := by
  unfold copyAns
  split
  · rfl
  · rw [h]; rfl
theorem copyAns_some {ns ms : List Nd} {k : Int} {r : List Nd × Int} (hd : deepOf ns k ≠ 0) (h : pack ns 10 k ms = some r) : copyAns ns ms k = r := by
  unfold copyAns
  rw [if_neg hd, h]
  rfl
theorem pack_long {ns ms : List Nd} {k : Int} {d : Nat} (h : 300 < ms.length) : pack ns d k ms = none := by
  cases hp : pack ns d k ms with
  | none => rfl
  | some r =>
    have := pack_pre ns d k ms r hp
    omega
theorem PutIn.own {x B B0 : Nat} {o : Obj} {w : World} {v : Value} {ps : List (Nd × Value)} (h : PutIn x B o w v ps) (hB : B0 ≤ B) : NdR.Own w B0 w.heap.size v (ps.map Prod.fst) :=
  ⟨ps, rfl, h.phys.base (fun g hg => Nat.le_trans hB (h.phys.lt g hg).1), nd_apart h.phys h.nd, fun g hg => ⟨Nat.le_trans hB (h.phys.lt g hg).1, (h.phys.lt g hg).2⟩⟩
/-- The answer, as a call gives it. -/
def CopyRes (xs : List Nd) (z : Int) (w : World) (e : Ending) (w' : World) : Prop :=
  ∃ (a : Option Addr) (n c : Nat), e = .returned (.tuple #[.slice a n c, .int .i64 z]) ∧ NdR.Own w' w.heap.size w'.heap.size (.slice a n c) xs ∧ Below w.heap.size w w'

set_option maxRecDepth 100000 in
set_option maxHeartbeats 6400000 in
theorem specCopyNodes_any (v0 v1 u : Value) (ns ms : List Nd) (k : Int) (w : World) (hR : NdR.Row w w.heap.size v0 ns) (hS : NdR.Row w w.heap.size u ms) (hl : szRow szNd ns ≤ 1048576) (hl2 : szRow szNd ms ≤ 1048576) (xs : List Nd) (z : Int) (hz : Hid (copyAns ns ms k = (xs, z))) :
    Calls Try.prog 37 #[.agg #[v0, v1], .int .i64 k, u] w (CopyRes xs z w) := by
  obtain ⟨na, nc, rfl⟩ := hR.len
  obtain ⟨ma, mc, rfl⟩ := hS.len
  obtain ⟨N, HN⟩ : ∃ N, Hid (ns.length = N) := ⟨_, (rfl : ns.length = ns.length)⟩
  obtain ⟨M, HM⟩ : ∃ M, Hid (ms.length = M) := ⟨_, (rfl : ms.length = ms.length)⟩
  have HV : Hid (NdR.Row w w.heap.size (.slice na N nc) ns ∧ NdR.Row w w.heap.size (.slice ma M mc) ms) := by rw [← HN.out, ← HM.out]; exact ⟨hR, hS⟩
  have HL : Hid (szRow szNd ns ≤ 1048576 ∧ szRow szNd ms ≤ 1048576) := ⟨hl, hl2⟩
  have hNl : N ≤ 1048576 := by have := len_szRow szNd ns; have := HN.out; omega
  have hMl : M ≤ 1048576 := by have := len_szRow szNd ms; have := HM.out; omega
  rw [HN.out, HM.out]
  obtain ⟨d, hd⟩ : ∃ d, Hid (deepOf ns k = d) := ⟨_, (rfl : deepOf ns k = deepOf ns k)⟩
  have cD : Hid (∀ W, Below w.heap.size w W → Calls Try.prog 24 #[.slice na N nc, .int .i64 k] W fun e w' => e = .returned (.int .i64 d) ∧ Below W.heap.size W w') := fun W hW => by
    rw [← hd.out]
    exact specDeepOf_any _ ns _ W ((HV.out.1.keep hW).up hW.size) HL.out.1
  have cN : Hid (∀ W, Below w.heap.size w W → Calls Try.prog 76 #[.slice ma M mc] W fun e w' => ∃ g cap, e = .returned (.slice (some ⟨g, 0, none⟩) M cap) ∧ (∃ ps, ps.map Prod.fst = ms ∧ Grows W w' (.slice (some ⟨g, 0, none⟩) M cap) ps)) := fun W hW => by
    have h1 := l04Nodes_any (.slice ma M mc) ms W ((HV.out.2.keep hW).up hW.size) HL.out.2
    rw [HM.out] at h1
    exact h1
  clear hR hS hl hl2
  go_enter Try.func37, Try.ntmps37
  go_wp2_with fail
  go_at_call 24
  refine Calls.mono (cD.out _ (by go_grown)) ?_
  rintro e w1 ⟨rfl, hb1⟩
  have P1 : Hid (Box w (.cells #[.slice na N nc, v1] 39) w1) := (Box.first _ _).next hb1
  clear hb1 cD
  have HNO : Hid ((xs, z) = (ms, (-1 : Int)) → ∀ W W' g cap, Below w.heap.size w W → (∃ ps, ps.map Prod.fst = ms ∧ Grows W W' (.slice (some ⟨g, 0, none⟩) M cap) ps) → CopyRes xs z w (.returned (.tuple #[.slice (some ⟨g, 0, none⟩) M cap, .int .i64 (-1)])) W') := by
    rintro hc W W' g cap hW ⟨ps, hps, hg⟩
    cases hc
    refine ⟨_, _, _, rfl, ?_, hW.trans (hg.below.mono hW.size)⟩
    have h1 := hg.own
    rw [hps] at h1
    exact h1.wide hW.size (Nat.le_refl _)
  by_cases hdz : d = 0
  · have HC : Hid ((xs, z) = (ms, (-1 : Int))) := hz.out.symm.trans (copyAns_zero (by rw [hd.out]; exact hdz))
    subst hdz
    go_wp2_with fail
    go_at_call 76
    refine Calls.mono (cN.out _ P1.out.below) ?_
    rintro e w2 ⟨g, cap, rfl, hg⟩
    have HF : Hid (CopyRes xs z w (.returned (.tuple #[.slice (some ⟨g, 0, none⟩) M cap, .int .i64 (-1)])) w2) := HNO.out HC.out _ _ _ _ P1.out.below hg
    clear hg HNO
    go_wp2
    go_ret2
    exact HF.out
  have hd1 : (d == 0) = false := by simpa using hdz
  by_cases hM : 300 < M
  · have HC : Hid ((xs, z) = (ms, (-1 : Int))) := hz.out.symm.trans (copyAns_none (pack_long (by rw [HM.out]; exact hM)))
    have hM1 : (300 : Int) < (M : Int) := by omega
    go_wp2_with fail
    go_at_call 76
    refine Calls.mono (cN.out _ P1.out.below) ?_
    rintro e w2 ⟨g, cap, rfl, hg⟩
    have HF : Hid (CopyRes xs z w (.returned (.tuple #[.slice (some ⟨g, 0, none⟩) M cap, .int .i64 (-1)])) w2) := HNO.out HC.out _ _ _ _ P1.out.below hg
    clear hg HNO
    go_wp2
    go_ret2
    exact HF.out
  have hM1 : ¬ (300 : Int) < (M : Int) := by omega
  have p0 := P1.out.cell 0
  simp at p0
  have hp1 : w.heap.size < w1.heap.size := P1.out.lt
  go_wp2_with fail
  go_region_held3 (fun w' => w'.cell? ⟨w.heap.size, 0, none⟩ = some (.slice na N nc)) (first | exact p0 | exact p2 | go_keep) ((go_at_call 76; refine Calls.mono (cN.out _ P1.out.below.drew) ?_; rintro e w2 ⟨g, cap, rfl, hg⟩; have hgb := (match hg with | ⟨_, _, h⟩ => h.below); have p2 := (hgb.cell (p := ⟨w.heap.size, 0, none⟩) hp1).trans p0))
  obtain ⟨ps, hps, hgr⟩ := hg
  obtain ⟨T, HT⟩ : ∃ T : Nat, Hid (10 = T) := ⟨10, (rfl : 10 = 10)⟩
  have HPL : Hid (ps.length = M) := by show _ = _; have := congrArg List.length hps; simp at this; rw [this, HM.out]
  have HPS : Hid (ps.map Prod.fst = ms) := hps
  have hw2 : w1.heap.size ≤ w2.heap.size := hgb.size
  have HB3 : Hid (Below w.heap.size w (w2.alloc (.cells #[.slice na N nc, .slice (some ⟨g, 0, none⟩) M cap, .bool false] 98))) := by
    have h1 : Below w1.heap.size w1 w2 := (Below.refl _ _).drew.trans hgb
    have h2 : Below w.heap.size w w2 := P1.out.below.trans (h1.mono (by omega))
    exact h2.alloc (by omega) _
  have HPI : Hid (PutIn w2.heap.size w1.heap.size (.cells #[.slice na N nc, .slice (some ⟨g, 0, none⟩) M cap, .bool false] 98) (w2.alloc (.cells #[.slice na N nc, .slice (some ⟨g, 0, none⟩) M cap, .bool false] 98)) (.slice (some ⟨g, 0, none⟩) M cap) ps) := by
    have hb : Below w2.heap.size w2 (w2.alloc (.cells #[.slice na N nc, .slice (some ⟨g, 0, none⟩) M cap, .bool false] 98)) := by go_grown
    refine ⟨heap_alloc_new _ _, hw2, fun hm => ?_, hgr.phys.below hb, hgr.nd⟩
    have := (hgr.phys.lt _ hm).2
    omega
  have cP : Hid (Calls Try.prog 77 #[.pointer (some ⟨w2.heap.size, 0, none⟩), .int .i64 k, .int .i64 1] (w2.alloc (.cells #[.slice na N nc, .slice (some ⟨g, 0, none⟩) M cap, .bool false] 98)) (PackPost ns w2.heap.size w1.heap.size N nc na T k (w2.alloc (.cells #[.slice na N nc, .slice (some ⟨g, 0, none⟩) M cap, .bool false] 98)) (.slice (some ⟨g, 0, none⟩) M cap) ps false)) := by
    have h1 := packPut_any ns w2.heap.size w1.heap.size N nc na HN hNl (fun q hq => Nat.le_trans (Nat.le_trans (le_szNd_kids q) (mem_szRow szNd hq)) HL.out.1) T (by have := HT.out; omega) k (w2.alloc (.cells #[.slice na N nc, .slice (some ⟨g, 0, none⟩) M cap, .bool false] 98)) (some ⟨g, 0, none⟩) cap ps false (by simp; omega) ((HV.out.1.keep HB3.out).up (by omega)) (by rw [HPL.out]; exact HPI.out) (by have := HPL.out; omega)
    rw [HPL.out, show (11 : Int) - (T : Int) = 1 by have := HT.out; omega] at h1
    exact h1
  clear hgr hps hgb p2 p0
  go_wp2_with fail
  go_at_call 77
  refine Calls.mono cP.out ?_
  rintro e w4 ⟨at_, va, vc, ps', bad, rfl, hI4, hT4, hl4, hP4⟩
  have B4 : Hid (Below w.heap.size w w4) := HB3.out.trans ((hT4.below HPI.out).mono (by omega))
  obtain ⟨L, HL4⟩ : ∃ n, Hid (ps'.length = n) := ⟨_, (rfl : ps'.length = ps'.length)⟩
  have g1 := cell_at hI4.at_ 1
  have g2 := cell_at hI4.at_ 2
  simp at g1 g2
  rw [HL4.out] at g1
  have hxr : w2.heap.size < w4.heap.size := heap_in hI4.at_
  have H4 : Hid (PutIn w2.heap.size w1.heap.size (.cells #[.slice na N nc, .slice va ps'.length vc, .bool bad] 98 (0, 0)) w4 (.slice va ps'.length vc) ps' ∧ PackSays ns T k false ps bad ps' at_) := ⟨hI4, hP4⟩
  clear hI4 hT4 hl4 hP4 cP
  have HNN : Hid (bad = true ∨ 300 < ps'.length → pack ns T k ms = none) := fun h => by
    cases hp : pack ns T k ms with
    | none => rfl
    | some r =>
      exfalso
      have h1 := H4.out.2.1 r rfl (by have := HPL.out; omega) (by rw [HPS.out]; exact hp)
      have h2 := pack_pre ns T k ms r hp
      have h3 := congrArg List.length h1.2.1
      simp at h3
      rcases h with h | h
      · rw [h1.1] at h; cases h
      · omega
  cases bad
  rotate_left
  · have HC : Hid ((xs, z) = (ms, (-1 : Int))) := hz.out.symm.trans (copyAns_none (by rw [HT.out]; exact HNN.out (.inl rfl)))
    go_wp2_with fail
    go_at_call 76
    refine Calls.mono (cN.out _ B4.out) ?_
    rintro e w5 ⟨g5, cap5, rfl, hg⟩
    have HF : Hid (CopyRes xs z w (.returned (.tuple #[.slice (some ⟨g5, 0, none⟩) M cap5, .int .i64 (-1)])) w5) := HNO.out HC.out _ _ _ _ B4.out hg
    clear hg HNO
    go_wp2
    go_ret2
    exact HF.out
  by_cases hL : 300 < L
  · have HC : Hid ((xs, z) = (ms, (-1 : Int))) := hz.out.symm.trans (copyAns_none (by rw [HT.out]; exact HNN.out (.inr (by rw [HL4.out]; exact hL))))
    have hL1 : (300 : Int) < (L : Int) := by omega
    go_wp2_with fail
    go_at_call 76
    refine Calls.mono (cN.out _ B4.out) ?_
    rintro e w5 ⟨g5, cap5, rfl, hg⟩
    have HF : Hid (CopyRes xs z w (.returned (.tuple #[.slice (some ⟨g5, 0, none⟩) M cap5, .int .i64 (-1)])) w5) := HNO.out HC.out _ _ _ _ B4.out hg
    clear hg HNO
    go_wp2
    go_ret2
    exact HF.out
  have hL1 : ¬ (300 : Int) < (L : Int) := by omega
  have HC : Hid (xs = ps'.map Prod.fst ∧ z = at_) := by
    cases hp : pack ns T k ms with
    | none =>
      exfalso
      rcases H4.out.2.2 (.inr (.inr (by rw [HPS.out]; exact hp))) with h | h
      · cases h
      · rw [HL4.out] at h; exact hL h
    | some r =>
      have h1 := H4.out.2.1 r rfl (by have := HPL.out; omega) (by rw [HPS.out]; exact hp)
      have h2 := hz.out.symm.trans (copyAns_some (by rw [hd.out]; exact hdz) (by rw [HT.out]; exact hp))
      obtain ⟨r1, r2⟩ := r
      cases h2
      exact ⟨h1.2.1.symm, h1.2.2.symm⟩
  have HF : Hid (CopyRes xs z w (.returned (.tuple #[.slice va L vc, .int .i64 at_])) w4) := by
    refine ⟨va, L, vc, by rw [HC.out.2], ?_, B4.out⟩
    have h1 := H4.out.1.own (B0 := w.heap.size) (by omega)
    rw [HL4.out] at h1
    rw [HC.out.1]
    exact h1
  clear HNO
  go_wp2
  go_ret2
  exact HF.out

end Go.Proofs.Ytjafneaaefpefaa
