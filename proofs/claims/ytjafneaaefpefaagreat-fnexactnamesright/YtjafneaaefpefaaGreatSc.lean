/-
  Whose names, in the model: what is looked at, one value after the other.
-/
import Derived.Test.YtjafneaaefpefaaGreatDe
import Derived.Test.YtjafneaaefpefaaGreatRa
import Derived.Test.YtjafneaaefpefaaGreatKa
import Derived.Test.YtjafneaaefpefaaGreatPb
import Derived.BigRegion
import Derived.Deep.RegionLaw
namespace Go.Proofs.YtjafneaaefpefaaGreat
open Go.RowKit

theorem OwnsS.at' {w : World} {B : Nat} {e : TypeId} {tv : Value} {th : List ByteArray} (h : OwnsS w B e tv th) : ∃ a cap, tv = .slice a th.length cap ∧ ∀ i, (hi : i < th.length) → ∃ g, a = some ⟨g, 0, none⟩ ∧ w.cell? ⟨g, i, none⟩ = some (.string th[i]) := by
  rcases OwnsS.form h with ⟨rfl, rfl⟩ | ⟨g, cap, rfl, _, _⟩
  · exact ⟨none, 0, rfl, fun i hi => by simp at hi⟩
  · refine ⟨_, cap, rfl, fun i hi => ⟨g, rfl, ?_⟩⟩
    rw [OwnsS.cell h hi]
    simp [List.getD, hi]

set_option maxRecDepth 100000 in
set_option maxHeartbeats 1600000 in
theorem l07Has_any (B : Nat) (tv : Value) (th : List ByteArray) (nm : ByteArray) (w : World) (h : OwnsS w B 9 tv th) (hl : th.length ≤ 1000) :
    Calls Tryz.prog 51 #[tv, .string nm] w fun e w' => e = .returned (.bool (scHas th nm)) ∧ w' = w := by
  obtain ⟨a, cap, rfl, hc⟩ := h.at'
  obtain ⟨N, HN⟩ : ∃ N, Hid (th.length = N) := ⟨_, (rfl : th.length = th.length)⟩
  have HC : Hid (∀ i, (hi : i < th.length) → ∃ g, a = some ⟨g, 0, none⟩ ∧ w.cell? ⟨g, i, none⟩ = some (.string th[i])) := hc
  rw [HN.out] at hl ⊢
  clear hc h
  go_enter Tryz.func51, Tryz.ntmps51
  go_wp2
  go_loopw [5] (fun i wr => ∃ k : Nat, k ≤ N ∧ i = .int .i64 (k : Int) ∧ Hid (∀ j, (hj : j < th.length) → j < k → sameB th[j] nm = false) ∧ Hid (Below w.heap.size w wr ∧ wr = w)) (fun i _ => N - (intOf i).toNat)
  case atStart => exact ⟨0, Nat.zero_le _, rfl, fun j _ hj => by omega, Below.refl _ _, rfl⟩
  case round =>
    obtain ⟨k, hk, rfl, HK, HW⟩ := hrel
    have hw := HW.out.2
    subst hw
    by_cases hlt : k < N
    · have hk1 : (k : Int) < (N : Int) := by omega
      have hk0 : (0 : Int) ≤ (k : Int) := by omega
      have hkl : k < th.length := by have := HN.out; omega
      obtain ⟨g, rfl, c0⟩ := HC.out k hkl
      obtain ⟨q, hqe⟩ : ∃ q, Hid (th[k] = q) := ⟨_, (rfl : th[k] = th[k])⟩
      rw [hqe.out] at c0
      cases hs : sameB q nm
      · have HK1 : Hid (∀ j, (hj : j < th.length) → j < k + 1 → sameB th[j] nm = false) := fun j hj hjk => by
          by_cases e : j = k
          · subst e
            rw [hqe.out]
            exact hs
          · exact HK.out j hj (by omega)
        unfold sameB at hs
        go_wp2
        go_roundw
        case rel => exact ⟨k + 1, by omega, by go_num, HK1, by first | exact ⟨Below.refl _ _, rfl⟩ | exact ⟨Below.refl _ _, trivial⟩⟩
        case measure => simp [intOf]; omega
      · have HF : Hid (scHas th nm = true) := by
          show _ = _
          unfold scHas
          rw [List.any_eq_true]
          exact ⟨q, by rw [← hqe.out]; exact List.getElem_mem hkl, hs⟩
        unfold sameB at hs
        go_wp2
        go_ret
        exact ⟨by rw [HF.out]; rfl, rfl⟩
    · have HF : Hid (scHas th nm = false) := by
        show _ = _
        unfold scHas
        rw [List.any_eq_false]
        intro x hx
        obtain ⟨j, hj, rfl⟩ := List.getElem_of_mem hx
        have := HK.out j hj (by have := HN.out; omega)
        rw [this]
        decide
      go_wp2
      go_ret
      exact ⟨by rw [HF.out]; rfl, rfl⟩

/-- What looks at names: its block, and the names in sight. -/
structure Seen (w : World) (rb : Nat) (v0 v1 : Value) (fn : Int) (tv : Value) (th : List ByteArray) (bad : Bool) : Prop where
  at_ : w.heap[rb]? = some (.cells #[v0, v1, .int .i64 fn, tv, .bool bad] 51 (0, 0))
  own : OwnsS w (rb + 1) 9 tv th
theorem Seen.lt {w : World} {rb : Nat} {v0 v1 : Value} {fn : Int} {tv : Value} {th : List ByteArray} {bad : Bool} (h : Seen w rb v0 v1 fn tv th bad) : rb < w.heap.size := by
  rcases Nat.lt_or_ge rb w.heap.size with h' | h'
  · exact h'
  · have := h.at_
    simp [Array.getElem?_eq_none h'] at this
theorem Seen.below {w w' : World} {rb : Nat} {v0 v1 : Value} {fn : Int} {tv : Value} {th : List ByteArray} {bad : Bool} (h : Seen w rb v0 v1 fn tv th bad) (hb : Below w.heap.size w w') : Seen w' rb v0 v1 fn tv th bad :=
  ⟨(hb.block _ h.lt).trans h.at_, h.own.below hb⟩

theorem prog_fns {p : Pg} (h : programOk p = true) : 1 ≤ p.fns.length ∧ p.fns.length ≤ 8 := by
  unfold programOk at h
  simp only [Bool.and_eq_true, isIn, decide_eq_true_eq] at h
  omega
theorem fnAt_bound (fs : List Fc) (name : ByteArray) : -1 ≤ fnAt fs name ∧ fnAt fs name < (fs.length : Int) := by
  unfold fnAt
  cases h : fs.findIdx? (fun f => sameB f.name name) with
  | none => exact ⟨by simp, by simp; omega⟩
  | some i =>
    rw [List.findIdx?_eq_some_iff_getElem] at h
    obtain ⟨hi, _⟩ := h
    show -1 ≤ (i : Int) ∧ (i : Int) < (fs.length : Int)
    exact ⟨by omega, by omega⟩
theorem Seen.store {w : World} {rb : Nat} {v0 v1 : Value} {fn : Int} {tv : Value} {th : List ByteArray} {bad : Bool} (h : Seen w rb v0 v1 fn tv th bad) (b : Bool) : Seen (w.setCell ⟨rb, 4, none⟩ (.bool b)) rb v0 v1 fn tv th b := by
  refine ⟨?_, OwnsS.kept h.own (grown_setCell w ⟨rb, 4, none⟩ _) (own_ne h.own (by show rb < _; omega))⟩
  have := h.at_
  simp [World.setCell, Array.getElem?_modify, this]
theorem Seen.grown {w w' : World} {rb : Nat} {v0 v1 : Value} {fn : Int} {tv : Value} {th : List ByteArray} {bad : Bool} (h : Seen w rb v0 v1 fn tv th bad) (hg : w.grownBy w' none) : Seen w' rb v0 v1 fn tv th bad := h.below (below_grown hg)
theorem Seen.drew {w : World} {rb : Nat} {v0 v1 : Value} {fn : Int} {tv : Value} {th : List ByteArray} {bad : Bool} (h : Seen w rb v0 v1 fn tv th bad) : Seen w.drew rb v0 v1 fn tv th bad := h.grown (grown_drewN w 1)

set_option maxRecDepth 100000 in
set_option maxHeartbeats 12800000 in
theorem value_any (p : Pg) (na fa : Option Addr) (N nc F fcap rb : Nat) (fn : Int) (tv : Value) (th : List ByteArray) (hp : programOk p = true) (HN : Hid (p.nodes.length = N)) (HFn : Hid (p.fns.length = F)) (hth : th.length ≤ 1000) (_hfn : 0 ≤ fn ∧ fn < (F : Int)) : ∀ k : Nat, k < N → isVal (p.nodes.getD k nd0).kind = true →
    ∀ (w : World) (bad : Bool), NdR.Row w rb (.slice na N nc) p.nodes → FcR.Row w rb (.slice fa F fcap) p.fns → Seen w rb (.slice na N nc) (.slice fa F fcap) fn tv th (bad) →
    Calls Tryz.prog 22 #[.pointer (some ⟨rb, 0, none⟩), .int .i64 (k : Int)] w fun e w' => e = .returned (.tuple #[]) ∧ Seen w' rb (.slice na N nc) (.slice fa F fcap) fn tv th (bad || !scVal p fn th k) ∧ w.grownBy w' (some rb) := by
  have hl := prog_last hp
  have HA := prog_ahead hp
  have hN3 : N ≤ 300 := by have := HN.out; omega
  intro k
  induction k using Nat.strongRecOn with
  | _ k ih =>
    intro hk hv w bad hR hRF hS
    have IH : Hid (∀ c, c < k → isVal (p.nodes.getD c nd0).kind = true → ∀ (w : World) (bad : Bool), NdR.Row w rb (.slice na N nc) p.nodes → FcR.Row w rb (.slice fa F fcap) p.fns → Seen w rb (.slice na N nc) (.slice fa F fcap) fn tv th (bad) →
      Calls Tryz.prog 22 #[.pointer (some ⟨rb, 0, none⟩), .int .i64 (c : Int)] w fun e w' => e = .returned (.tuple #[]) ∧ Seen w' rb (.slice na N nc) (.slice fa F fcap) fn tv th (bad || !scVal p fn th c) ∧ w.grownBy w' (some rb)) := fun c hc => ih c hc (by omega)
    clear ih
    have hkl : k < p.nodes.length := by have := HN.out; omega
    have hk0 : (0 : Int) ≤ (k : Int) := by omega
    have hk1 : (k : Int) < (N : Int) := by omega
    have hok := deep_nodes (m := p.nodes.length - 1) (by omega) hl.2.2 k (by omega)
    have hVK := valKids hok hv
    have hKV : Hid (∀ c ∈ (p.nodes.getD k nd0).kids, 0 ≤ c ∧ c < (k : Int) ∧ isVal (p.nodes.getD c.toNat nd0).kind = true) := fun c hc => ⟨(HA k (by omega) c hc).1, (HA k (by omega) c hc).2, kid_val hok hv c hc⟩
    have hE : scVal p fn th k = _ := scVal_eq HA (k := k) (by omega)
    have hgd : p.nodes.getD k nd0 = p.nodes[k] := by simp [List.getD, hkl]
    rw [hgd] at hKV hE hVK
    rw [hE]
    obtain ⟨b, off, ka, kc, rfl, hb, n0, n1, n2, n3, hKR⟩ := RowNd.at hR k hkl
    obtain ⟨q, hq⟩ : ∃ q, Hid (p.nodes[k] = q) := ⟨_, (rfl : p.nodes[k] = p.nodes[k])⟩
    have hK3 : p.nodes[k].kids.length ≤ 3 := hVK.few
    obtain ⟨K, HK⟩ : ∃ K, Hid (p.nodes[k].kids.length = K) := ⟨_, (rfl : p.nodes[k].kids.length = p.nodes[k].kids.length)⟩
    rw [HK.out] at n3 hKR hK3
    rw [hq.out] at n0 n1 n2 hKR hKV HK hVK ⊢
    obtain ⟨kx, mx, nx, ks⟩ := q
    simp only at n0 n1 n2 hKR hKV HK
    have HKR : Hid (RowI w rb (.slice ka K kc) ks) := hKR
    have HR : Hid (NdR.Row w rb (.slice (some ⟨b, off, none⟩) N nc) p.nodes ∧ FcR.Row w rb (.slice fa F fcap) p.fns) := ⟨hR, hRF⟩
    have hbr : b < rb := hb
    have hrl := hS.lt
    have hbw : b < w.heap.size := by omega
    have x0 := cell_at hS.at_ 0
    simp at x0
    have HS0 : Hid (Seen w rb (.slice (some ⟨b, off, none⟩) N nc) (.slice fa F fcap) fn tv th (bad)) := hS
    have hkind := hVK.val
    simp only at hkind
    obtain ⟨ta, tc, hta, _⟩ := hS.own.at'
    obtain ⟨tn, htn⟩ : ∃ n, th.length = n := ⟨_, rfl⟩
    rw [htn] at hta
    subst hta
    clear hR hRF hKR hb hVK hE hgd hok hS htn hv
    go_enter Tryz.func22, Tryz.ntmps22
    go_wp2
    go_loopw [5] (fun i wr => ∃ t : Nat, t ≤ K ∧ i = .int .i64 (t : Int) ∧ Hid (Seen wr rb (.slice (some ⟨b, off, none⟩) N nc) (.slice fa F fcap) fn (.slice ta tn tc) th (bad || !((ks.take t).all fun c => scVal p fn th c.toNat)) ∧ w.grownBy wr (some rb) ∧ wr.heap[w.heap.size]? = some (.cells #[.int .i64 kx, .int .i64 mx, .string nx, .slice ka K kc] 67))) (fun i _ => K - (intOf i).toNat)
    case atStart =>
      refine ⟨0, Nat.zero_le _, rfl, ?_, World.grownBy_alloc w _ _, heap_alloc_new _ _⟩
      simp only [List.take_zero, List.all_nil, Bool.not_true, Bool.or_false]
      exact HS0.out.below ((Below.refl _ _).alloc (Nat.le_refl _) _)
    case round =>
      obtain ⟨t, ht, rfl, HS⟩ := hrel
      clear HS0 x0
      have y3 := cell_at HS.out.2.2 3
      simp at y3
      have hBr : Below rb w wr := below_of_grown HS.out.2.1 (Nat.le_refl _) (by omega)
      by_cases hlt : t < K
      · have ht0 : (0 : Int) ≤ (t : Int) := by omega
        have ht1 : (t : Int) < (K : Int) := by omega
        have htl : t < ks.length := by have := HK.out; omega
        obtain ⟨kb, ko, rfl, hkb, e0⟩ := HKR.out.at t htl
        have f0 := (hBr.cell (p := ⟨kb, ko + t, none⟩) hkb).trans e0
        have hcc := hKV.out ks[t] (List.getElem_mem htl)
        obtain ⟨c, hc⟩ : ∃ c : Nat, Hid (ks[t] = (c : Int)) := ⟨ks[t].toNat, (by show _ = _; omega)⟩
        rw [hc.out] at f0 hcc
        rw [Int.toNat_natCast] at hcc
        have hX : Hid (((ks.take (t + 1)).all fun c => scVal p fn th c.toNat) = (((ks.take t).all fun c => scVal p fn th c.toNat) && scVal p fn th c)) := by
          show _ = _
          rw [List.take_succ_eq_append_getElem htl, List.all_append, hc.out]
          simp
        obtain ⟨b0, hb0⟩ : ∃ b0, Hid ((bad || !((ks.take t).all fun c => scVal p fn th c.toNat)) = b0) := ⟨_, (rfl : (bad || !((ks.take t).all fun c => scVal p fn th c.toNat)) = _)⟩
        have cV : Hid (Calls Tryz.prog 22 #[.pointer (some ⟨rb, 0, none⟩), .int .i64 (c : Int)] wr fun e w' => e = .returned (.tuple #[]) ∧ Seen w' rb (.slice (some ⟨b, off, none⟩) N nc) (.slice fa F fcap) fn (.slice ta tn tc) th (b0 || !scVal p fn th c) ∧ wr.grownBy w' (some rb)) := by
          have h1 := HS.out.1
          rw [hb0.out] at h1
          exact IH.out c (by omega) hcc.2.2 wr b0 (HR.out.1.keep hBr) (HR.out.2.keep hBr) h1
        clear e0 hcc
        go_wp2_with fail
        go_at_call 22
        refine Calls.mono cV.out ?_
        rintro e w1 ⟨rfl, hs1, hg1⟩
        have HS1 : Hid (Seen w1 rb (.slice (some ⟨b, off, none⟩) N nc) (.slice fa F fcap) fn (.slice ta tn tc) th (bad || !((ks.take (t + 1)).all fun c => scVal p fn th c.toNat)) ∧ w.grownBy w1 (some rb) ∧ w1.heap[w.heap.size]? = some (.cells #[.int .i64 kx, .int .i64 mx, .string nx, .slice (some ⟨kb, ko, none⟩) K kc] 67)) := by
          refine ⟨?_, grown_trans HS.out.2.1 hg1 (.inr rfl) (.inr rfl), (hg1.block _ ?_ ?_).trans HS.out.2.2⟩
          · rw [hX.out]
            have h2 : (bad || !(((ks.take t).all fun c => scVal p fn th c.toNat) && scVal p fn th c)) = (b0 || !scVal p fn th c) := by
              rw [← hb0.out]
              generalize ((ks.take t).all fun c => scVal p fn th c.toNat) = u
              generalize scVal p fn th c = v
              cases bad <;> cases u <;> cases v <;> rfl
            rw [h2]
            exact hs1
          · rcases Nat.lt_or_ge w.heap.size wr.heap.size with h' | h'
            · exact h'
            · have := HS.out.2.2
              simp [Array.getElem?_eq_none h'] at this
          · intro e
            have : w.heap.size = rb := by simpa using e
            omega
        clear cV hs1 hg1 HS f0 y3 hBr
        go_wp2
        go_roundw
        case rel => exact ⟨t + 1, by omega, by go_num, HS1⟩
        case measure => simp [intOf]; omega
      · have htK : t = K := by omega
        subst htK
        rw [List.take_of_length_le (by have := HK.out; omega)] at HS
        obtain ⟨A, hA⟩ : ∃ A, Hid ((ks.all fun c => scVal p fn th c.toNat) = A) := ⟨_, (rfl : (ks.all fun c => scVal p fn th c.toNat) = _)⟩
        rw [hA.out] at HS
        obtain ⟨b1, hB1⟩ : ∃ b1, Hid ((bad || !A) = b1) := ⟨_, (rfl : (bad || !A) = _)⟩
        rw [hB1.out] at HS
        rcases (by omega : kx = 2 ∨ kx = 3 ∨ kx = 4 ∨ kx = 5 ∨ kx = 6 ∨ kx = 12 ∨ (kx = 1 ∨ (7 ≤ kx ∧ kx ≤ 11))) with rfl | rfl | rfl | rfl | rfl | rfl | hkx
        · have hO : Hid (scOwn p fn th ⟨2, mx, nx, ks⟩ = scHas th nx) := by show _ = _; simp [scOwn]
          have x3 := cell_at HS.out.1.at_ 3
          have x4 := cell_at HS.out.1.at_ 4
          have f4 := free_at HS.out.1.at_ 4
          have y0 := cell_at HS.out.2.2 0
          have y2 := cell_at HS.out.2.2 2
          simp at x3 x4 y0 y2
          cases hb : b1
          · have cH : Hid (∀ W, Below wr.heap.size wr W → Calls Tryz.prog 51 #[.slice ta tn tc, .string nx] W fun e w' => e = .returned (.bool (scHas th nx)) ∧ w' = W) := fun W hW => l07Has_any (rb + 1) _ th nx W (HS.out.1.own.below hW) hth
            cases hh : scHas th nx
            · rw [hh] at cH
              have HF : Hid (Seen (wr.setCell ⟨rb, 4, none⟩ (.bool true)) rb (.slice (some ⟨b, off, none⟩) N nc) (.slice fa F fcap) fn (.slice ta tn tc) th (bad || !((ks.all fun c => scVal p fn th c.toNat) && scOwn p fn th ⟨2, mx, nx, ks⟩)) ∧ w.grownBy (wr.setCell ⟨rb, 4, none⟩ (.bool true)) (some rb)) := by
                have h1 : (bad || !((ks.all fun c => scVal p fn th c.toNat) && scOwn p fn th ⟨2, mx, nx, ks⟩)) = true := by
                  have h2 := hB1.out
                  rw [hb] at h2
                  rw [hA.out, hO.out, hh]
                  revert h2
                  cases bad <;> cases A <;> simp
                rw [h1]
                exact ⟨HS.out.1.store true, grown_trans HS.out.2.1 (grown_setCell wr ⟨rb, 4, none⟩ _) (.inr rfl) (.inr rfl)⟩
              rw [hb] at x4
              clear HS hb hh hO HR HKR
              go_wp2_with fail
              go_region_with (go_at_call 51; refine Calls.mono (cH.out _ (by go_grown)) ?_; rintro e w1 ⟨rfl, rfl⟩)
              all_goals
                go_wp2
                go_end0
                exact ⟨rfl, Seen.drew HF.out.1, grown_trans HF.out.2 (grown_drewN _ 1) (.inr rfl) (.inl rfl)⟩
            · rw [hh] at cH
              have HF : Hid (Seen (wr.setCell ⟨rb, 4, none⟩ (.bool false)) rb (.slice (some ⟨b, off, none⟩) N nc) (.slice fa F fcap) fn (.slice ta tn tc) th (bad || !((ks.all fun c => scVal p fn th c.toNat) && scOwn p fn th ⟨2, mx, nx, ks⟩)) ∧ w.grownBy (wr.setCell ⟨rb, 4, none⟩ (.bool false)) (some rb)) := by
                have h1 : (bad || !((ks.all fun c => scVal p fn th c.toNat) && scOwn p fn th ⟨2, mx, nx, ks⟩)) = false := by
                  have h2 := hB1.out
                  rw [hb] at h2
                  rw [hA.out, hO.out, hh]
                  revert h2
                  cases bad <;> cases A <;> simp
                rw [h1]
                exact ⟨HS.out.1.store false, grown_trans HS.out.2.1 (grown_setCell wr ⟨rb, 4, none⟩ _) (.inr rfl) (.inr rfl)⟩
              rw [hb] at x4
              clear HS hb hh hO HR HKR
              go_wp2_with fail
              go_region_with (go_at_call 51; refine Calls.mono (cH.out _ (by go_grown)) ?_; rintro e w1 ⟨rfl, rfl⟩)
              all_goals
                go_wp2
                go_end0
                exact ⟨rfl, Seen.drew HF.out.1, grown_trans HF.out.2 (grown_drewN _ 1) (.inr rfl) (.inl rfl)⟩
          · have HF : Hid (Seen (wr.setCell ⟨rb, 4, none⟩ (.bool true)) rb (.slice (some ⟨b, off, none⟩) N nc) (.slice fa F fcap) fn (.slice ta tn tc) th (bad || !((ks.all fun c => scVal p fn th c.toNat) && scOwn p fn th ⟨2, mx, nx, ks⟩)) ∧ w.grownBy (wr.setCell ⟨rb, 4, none⟩ (.bool true)) (some rb)) := by
              have h1 : (bad || !((ks.all fun c => scVal p fn th c.toNat) && scOwn p fn th ⟨2, mx, nx, ks⟩)) = true := by
                have h2 := hB1.out
                rw [hb] at h2
                rw [hA.out, hO.out]
                revert h2
                cases bad <;> cases A <;> simp
              rw [h1]
              exact ⟨HS.out.1.store true, grown_trans HS.out.2.1 (grown_setCell wr ⟨rb, 4, none⟩ _) (.inr rfl) (.inr rfl)⟩
            rw [hb] at x4
            clear HS hb hO HR HKR
            go_wp2_with fail
            go_region
            all_goals
              go_wp2
              go_end0
              exact ⟨rfl, Seen.drew HF.out.1, grown_trans HF.out.2 (grown_drewN _ 1) (.inr rfl) (.inl rfl)⟩
        · have hO : Hid (scOwn p fn th ⟨3, mx, nx, ks⟩ = scHas th nx) := by show _ = _; simp [scOwn]
          have x3 := cell_at HS.out.1.at_ 3
          have x4 := cell_at HS.out.1.at_ 4
          have f4 := free_at HS.out.1.at_ 4
          have y0 := cell_at HS.out.2.2 0
          have y2 := cell_at HS.out.2.2 2
          simp at x3 x4 y0 y2
          cases hb : b1
          · have cH : Hid (∀ W, Below wr.heap.size wr W → Calls Tryz.prog 51 #[.slice ta tn tc, .string nx] W fun e w' => e = .returned (.bool (scHas th nx)) ∧ w' = W) := fun W hW => l07Has_any (rb + 1) _ th nx W (HS.out.1.own.below hW) hth
            cases hh : scHas th nx
            · rw [hh] at cH
              have HF : Hid (Seen (wr.setCell ⟨rb, 4, none⟩ (.bool true)) rb (.slice (some ⟨b, off, none⟩) N nc) (.slice fa F fcap) fn (.slice ta tn tc) th (bad || !((ks.all fun c => scVal p fn th c.toNat) && scOwn p fn th ⟨3, mx, nx, ks⟩)) ∧ w.grownBy (wr.setCell ⟨rb, 4, none⟩ (.bool true)) (some rb)) := by
                have h1 : (bad || !((ks.all fun c => scVal p fn th c.toNat) && scOwn p fn th ⟨3, mx, nx, ks⟩)) = true := by
                  have h2 := hB1.out
                  rw [hb] at h2
                  rw [hA.out, hO.out, hh]
                  revert h2
                  cases bad <;> cases A <;> simp
                rw [h1]
                exact ⟨HS.out.1.store true, grown_trans HS.out.2.1 (grown_setCell wr ⟨rb, 4, none⟩ _) (.inr rfl) (.inr rfl)⟩
              rw [hb] at x4
              clear HS hb hh hO HR HKR
              go_wp2_with fail
              go_region_with (go_at_call 51; refine Calls.mono (cH.out _ (by go_grown)) ?_; rintro e w1 ⟨rfl, rfl⟩)
              all_goals
                go_wp2
                go_end0
                exact ⟨rfl, Seen.drew HF.out.1, grown_trans HF.out.2 (grown_drewN _ 1) (.inr rfl) (.inl rfl)⟩
            · rw [hh] at cH
              have HF : Hid (Seen (wr.setCell ⟨rb, 4, none⟩ (.bool false)) rb (.slice (some ⟨b, off, none⟩) N nc) (.slice fa F fcap) fn (.slice ta tn tc) th (bad || !((ks.all fun c => scVal p fn th c.toNat) && scOwn p fn th ⟨3, mx, nx, ks⟩)) ∧ w.grownBy (wr.setCell ⟨rb, 4, none⟩ (.bool false)) (some rb)) := by
                have h1 : (bad || !((ks.all fun c => scVal p fn th c.toNat) && scOwn p fn th ⟨3, mx, nx, ks⟩)) = false := by
                  have h2 := hB1.out
                  rw [hb] at h2
                  rw [hA.out, hO.out, hh]
                  revert h2
                  cases bad <;> cases A <;> simp
                rw [h1]
                exact ⟨HS.out.1.store false, grown_trans HS.out.2.1 (grown_setCell wr ⟨rb, 4, none⟩ _) (.inr rfl) (.inr rfl)⟩
              rw [hb] at x4
              clear HS hb hh hO HR HKR
              go_wp2_with fail
              go_region_with (go_at_call 51; refine Calls.mono (cH.out _ (by go_grown)) ?_; rintro e w1 ⟨rfl, rfl⟩)
              all_goals
                go_wp2
                go_end0
                exact ⟨rfl, Seen.drew HF.out.1, grown_trans HF.out.2 (grown_drewN _ 1) (.inr rfl) (.inl rfl)⟩
          · have HF : Hid (Seen (wr.setCell ⟨rb, 4, none⟩ (.bool true)) rb (.slice (some ⟨b, off, none⟩) N nc) (.slice fa F fcap) fn (.slice ta tn tc) th (bad || !((ks.all fun c => scVal p fn th c.toNat) && scOwn p fn th ⟨3, mx, nx, ks⟩)) ∧ w.grownBy (wr.setCell ⟨rb, 4, none⟩ (.bool true)) (some rb)) := by
              have h1 : (bad || !((ks.all fun c => scVal p fn th c.toNat) && scOwn p fn th ⟨3, mx, nx, ks⟩)) = true := by
                have h2 := hB1.out
                rw [hb] at h2
                rw [hA.out, hO.out]
                revert h2
                cases bad <;> cases A <;> simp
              rw [h1]
              exact ⟨HS.out.1.store true, grown_trans HS.out.2.1 (grown_setCell wr ⟨rb, 4, none⟩ _) (.inr rfl) (.inr rfl)⟩
            rw [hb] at x4
            clear HS hb hO HR HKR
            go_wp2_with fail
            go_region
            all_goals
              go_wp2
              go_end0
              exact ⟨rfl, Seen.drew HF.out.1, grown_trans HF.out.2 (grown_drewN _ 1) (.inr rfl) (.inl rfl)⟩
        · have hO : Hid (scOwn p fn th ⟨4, mx, nx, ks⟩ = scHas th nx) := by show _ = _; simp [scOwn]
          have x3 := cell_at HS.out.1.at_ 3
          have x4 := cell_at HS.out.1.at_ 4
          have f4 := free_at HS.out.1.at_ 4
          have y0 := cell_at HS.out.2.2 0
          have y2 := cell_at HS.out.2.2 2
          simp at x3 x4 y0 y2
          cases hb : b1
          · have cH : Hid (∀ W, Below wr.heap.size wr W → Calls Tryz.prog 51 #[.slice ta tn tc, .string nx] W fun e w' => e = .returned (.bool (scHas th nx)) ∧ w' = W) := fun W hW => l07Has_any (rb + 1) _ th nx W (HS.out.1.own.below hW) hth
            cases hh : scHas th nx
            · rw [hh] at cH
              have HF : Hid (Seen (wr.setCell ⟨rb, 4, none⟩ (.bool true)) rb (.slice (some ⟨b, off, none⟩) N nc) (.slice fa F fcap) fn (.slice ta tn tc) th (bad || !((ks.all fun c => scVal p fn th c.toNat) && scOwn p fn th ⟨4, mx, nx, ks⟩)) ∧ w.grownBy (wr.setCell ⟨rb, 4, none⟩ (.bool true)) (some rb)) := by
                have h1 : (bad || !((ks.all fun c => scVal p fn th c.toNat) && scOwn p fn th ⟨4, mx, nx, ks⟩)) = true := by
                  have h2 := hB1.out
                  rw [hb] at h2
                  rw [hA.out, hO.out, hh]
                  revert h2
                  cases bad <;> cases A <;> simp
                rw [h1]
                exact ⟨HS.out.1.store true, grown_trans HS.out.2.1 (grown_setCell wr ⟨rb, 4, none⟩ _) (.inr rfl) (.inr rfl)⟩
              rw [hb] at x4
              clear HS hb hh hO HR HKR
              go_wp2_with fail
              go_region_with (go_at_call 51; refine Calls.mono (cH.out _ (by go_grown)) ?_; rintro e w1 ⟨rfl, rfl⟩)
              all_goals
                go_wp2
                go_end0
                exact ⟨rfl, Seen.drew HF.out.1, grown_trans HF.out.2 (grown_drewN _ 1) (.inr rfl) (.inl rfl)⟩
            · rw [hh] at cH
              have HF : Hid (Seen (wr.setCell ⟨rb, 4, none⟩ (.bool false)) rb (.slice (some ⟨b, off, none⟩) N nc) (.slice fa F fcap) fn (.slice ta tn tc) th (bad || !((ks.all fun c => scVal p fn th c.toNat) && scOwn p fn th ⟨4, mx, nx, ks⟩)) ∧ w.grownBy (wr.setCell ⟨rb, 4, none⟩ (.bool false)) (some rb)) := by
                have h1 : (bad || !((ks.all fun c => scVal p fn th c.toNat) && scOwn p fn th ⟨4, mx, nx, ks⟩)) = false := by
                  have h2 := hB1.out
                  rw [hb] at h2
                  rw [hA.out, hO.out, hh]
                  revert h2
                  cases bad <;> cases A <;> simp
                rw [h1]
                exact ⟨HS.out.1.store false, grown_trans HS.out.2.1 (grown_setCell wr ⟨rb, 4, none⟩ _) (.inr rfl) (.inr rfl)⟩
              rw [hb] at x4
              clear HS hb hh hO HR HKR
              go_wp2_with fail
              go_region_with (go_at_call 51; refine Calls.mono (cH.out _ (by go_grown)) ?_; rintro e w1 ⟨rfl, rfl⟩)
              all_goals
                go_wp2
                go_end0
                exact ⟨rfl, Seen.drew HF.out.1, grown_trans HF.out.2 (grown_drewN _ 1) (.inr rfl) (.inl rfl)⟩
          · have HF : Hid (Seen (wr.setCell ⟨rb, 4, none⟩ (.bool true)) rb (.slice (some ⟨b, off, none⟩) N nc) (.slice fa F fcap) fn (.slice ta tn tc) th (bad || !((ks.all fun c => scVal p fn th c.toNat) && scOwn p fn th ⟨4, mx, nx, ks⟩)) ∧ w.grownBy (wr.setCell ⟨rb, 4, none⟩ (.bool true)) (some rb)) := by
              have h1 : (bad || !((ks.all fun c => scVal p fn th c.toNat) && scOwn p fn th ⟨4, mx, nx, ks⟩)) = true := by
                have h2 := hB1.out
                rw [hb] at h2
                rw [hA.out, hO.out]
                revert h2
                cases bad <;> cases A <;> simp
              rw [h1]
              exact ⟨HS.out.1.store true, grown_trans HS.out.2.1 (grown_setCell wr ⟨rb, 4, none⟩ _) (.inr rfl) (.inr rfl)⟩
            rw [hb] at x4
            clear HS hb hO HR HKR
            go_wp2_with fail
            go_region
            all_goals
              go_wp2
              go_end0
              exact ⟨rfl, Seen.drew HF.out.1, grown_trans HF.out.2 (grown_drewN _ 1) (.inr rfl) (.inl rfl)⟩
        · have hO : Hid (scOwn p fn th ⟨5, mx, nx, ks⟩ = scHas th nx) := by show _ = _; simp [scOwn]
          have x3 := cell_at HS.out.1.at_ 3
          have x4 := cell_at HS.out.1.at_ 4
          have f4 := free_at HS.out.1.at_ 4
          have y0 := cell_at HS.out.2.2 0
          have y2 := cell_at HS.out.2.2 2
          simp at x3 x4 y0 y2
          cases hb : b1
          · have cH : Hid (∀ W, Below wr.heap.size wr W → Calls Tryz.prog 51 #[.slice ta tn tc, .string nx] W fun e w' => e = .returned (.bool (scHas th nx)) ∧ w' = W) := fun W hW => l07Has_any (rb + 1) _ th nx W (HS.out.1.own.below hW) hth
            cases hh : scHas th nx
            · rw [hh] at cH
              have HF : Hid (Seen (wr.setCell ⟨rb, 4, none⟩ (.bool true)) rb (.slice (some ⟨b, off, none⟩) N nc) (.slice fa F fcap) fn (.slice ta tn tc) th (bad || !((ks.all fun c => scVal p fn th c.toNat) && scOwn p fn th ⟨5, mx, nx, ks⟩)) ∧ w.grownBy (wr.setCell ⟨rb, 4, none⟩ (.bool true)) (some rb)) := by
                have h1 : (bad || !((ks.all fun c => scVal p fn th c.toNat) && scOwn p fn th ⟨5, mx, nx, ks⟩)) = true := by
                  have h2 := hB1.out
                  rw [hb] at h2
                  rw [hA.out, hO.out, hh]
                  revert h2
                  cases bad <;> cases A <;> simp
                rw [h1]
                exact ⟨HS.out.1.store true, grown_trans HS.out.2.1 (grown_setCell wr ⟨rb, 4, none⟩ _) (.inr rfl) (.inr rfl)⟩
              rw [hb] at x4
              clear HS hb hh hO HR HKR
              go_wp2_with fail
              go_region_with (go_at_call 51; refine Calls.mono (cH.out _ (by go_grown)) ?_; rintro e w1 ⟨rfl, rfl⟩)
              all_goals
                go_wp2
                go_end0
                exact ⟨rfl, Seen.drew HF.out.1, grown_trans HF.out.2 (grown_drewN _ 1) (.inr rfl) (.inl rfl)⟩
            · rw [hh] at cH
              have HF : Hid (Seen (wr.setCell ⟨rb, 4, none⟩ (.bool false)) rb (.slice (some ⟨b, off, none⟩) N nc) (.slice fa F fcap) fn (.slice ta tn tc) th (bad || !((ks.all fun c => scVal p fn th c.toNat) && scOwn p fn th ⟨5, mx, nx, ks⟩)) ∧ w.grownBy (wr.setCell ⟨rb, 4, none⟩ (.bool false)) (some rb)) := by
                have h1 : (bad || !((ks.all fun c => scVal p fn th c.toNat) && scOwn p fn th ⟨5, mx, nx, ks⟩)) = false := by
                  have h2 := hB1.out
                  rw [hb] at h2
                  rw [hA.out, hO.out, hh]
                  revert h2
                  cases bad <;> cases A <;> simp
                rw [h1]
                exact ⟨HS.out.1.store false, grown_trans HS.out.2.1 (grown_setCell wr ⟨rb, 4, none⟩ _) (.inr rfl) (.inr rfl)⟩
              rw [hb] at x4
              clear HS hb hh hO HR HKR
              go_wp2_with fail
              go_region_with (go_at_call 51; refine Calls.mono (cH.out _ (by go_grown)) ?_; rintro e w1 ⟨rfl, rfl⟩)
              all_goals
                go_wp2
                go_end0
                exact ⟨rfl, Seen.drew HF.out.1, grown_trans HF.out.2 (grown_drewN _ 1) (.inr rfl) (.inl rfl)⟩
          · have HF : Hid (Seen (wr.setCell ⟨rb, 4, none⟩ (.bool true)) rb (.slice (some ⟨b, off, none⟩) N nc) (.slice fa F fcap) fn (.slice ta tn tc) th (bad || !((ks.all fun c => scVal p fn th c.toNat) && scOwn p fn th ⟨5, mx, nx, ks⟩)) ∧ w.grownBy (wr.setCell ⟨rb, 4, none⟩ (.bool true)) (some rb)) := by
              have h1 : (bad || !((ks.all fun c => scVal p fn th c.toNat) && scOwn p fn th ⟨5, mx, nx, ks⟩)) = true := by
                have h2 := hB1.out
                rw [hb] at h2
                rw [hA.out, hO.out]
                revert h2
                cases bad <;> cases A <;> simp
              rw [h1]
              exact ⟨HS.out.1.store true, grown_trans HS.out.2.1 (grown_setCell wr ⟨rb, 4, none⟩ _) (.inr rfl) (.inr rfl)⟩
            rw [hb] at x4
            clear HS hb hO HR HKR
            go_wp2_with fail
            go_region
            all_goals
              go_wp2
              go_end0
              exact ⟨rfl, Seen.drew HF.out.1, grown_trans HF.out.2 (grown_drewN _ 1) (.inr rfl) (.inl rfl)⟩
        · have hO : Hid (scOwn p fn th ⟨6, mx, nx, ks⟩ = scHas th nx) := by show _ = _; simp [scOwn]
          have x3 := cell_at HS.out.1.at_ 3
          have x4 := cell_at HS.out.1.at_ 4
          have f4 := free_at HS.out.1.at_ 4
          have y0 := cell_at HS.out.2.2 0
          have y2 := cell_at HS.out.2.2 2
          simp at x3 x4 y0 y2
          cases hb : b1
          · have cH : Hid (∀ W, Below wr.heap.size wr W → Calls Tryz.prog 51 #[.slice ta tn tc, .string nx] W fun e w' => e = .returned (.bool (scHas th nx)) ∧ w' = W) := fun W hW => l07Has_any (rb + 1) _ th nx W (HS.out.1.own.below hW) hth
            cases hh : scHas th nx
            · rw [hh] at cH
              have HF : Hid (Seen (wr.setCell ⟨rb, 4, none⟩ (.bool true)) rb (.slice (some ⟨b, off, none⟩) N nc) (.slice fa F fcap) fn (.slice ta tn tc) th (bad || !((ks.all fun c => scVal p fn th c.toNat) && scOwn p fn th ⟨6, mx, nx, ks⟩)) ∧ w.grownBy (wr.setCell ⟨rb, 4, none⟩ (.bool true)) (some rb)) := by
                have h1 : (bad || !((ks.all fun c => scVal p fn th c.toNat) && scOwn p fn th ⟨6, mx, nx, ks⟩)) = true := by
                  have h2 := hB1.out
                  rw [hb] at h2
                  rw [hA.out, hO.out, hh]
                  revert h2
                  cases bad <;> cases A <;> simp
                rw [h1]
                exact ⟨HS.out.1.store true, grown_trans HS.out.2.1 (grown_setCell wr ⟨rb, 4, none⟩ _) (.inr rfl) (.inr rfl)⟩
              rw [hb] at x4
              clear HS hb hh hO HR HKR
              go_wp2_with fail
              go_region_with (go_at_call 51; refine Calls.mono (cH.out _ (by go_grown)) ?_; rintro e w1 ⟨rfl, rfl⟩)
              all_goals
                go_wp2
                go_end0
                exact ⟨rfl, Seen.drew HF.out.1, grown_trans HF.out.2 (grown_drewN _ 1) (.inr rfl) (.inl rfl)⟩
            · rw [hh] at cH
              have HF : Hid (Seen (wr.setCell ⟨rb, 4, none⟩ (.bool false)) rb (.slice (some ⟨b, off, none⟩) N nc) (.slice fa F fcap) fn (.slice ta tn tc) th (bad || !((ks.all fun c => scVal p fn th c.toNat) && scOwn p fn th ⟨6, mx, nx, ks⟩)) ∧ w.grownBy (wr.setCell ⟨rb, 4, none⟩ (.bool false)) (some rb)) := by
                have h1 : (bad || !((ks.all fun c => scVal p fn th c.toNat) && scOwn p fn th ⟨6, mx, nx, ks⟩)) = false := by
                  have h2 := hB1.out
                  rw [hb] at h2
                  rw [hA.out, hO.out, hh]
                  revert h2
                  cases bad <;> cases A <;> simp
                rw [h1]
                exact ⟨HS.out.1.store false, grown_trans HS.out.2.1 (grown_setCell wr ⟨rb, 4, none⟩ _) (.inr rfl) (.inr rfl)⟩
              rw [hb] at x4
              clear HS hb hh hO HR HKR
              go_wp2_with fail
              go_region_with (go_at_call 51; refine Calls.mono (cH.out _ (by go_grown)) ?_; rintro e w1 ⟨rfl, rfl⟩)
              all_goals
                go_wp2
                go_end0
                exact ⟨rfl, Seen.drew HF.out.1, grown_trans HF.out.2 (grown_drewN _ 1) (.inr rfl) (.inl rfl)⟩
          · have HF : Hid (Seen (wr.setCell ⟨rb, 4, none⟩ (.bool true)) rb (.slice (some ⟨b, off, none⟩) N nc) (.slice fa F fcap) fn (.slice ta tn tc) th (bad || !((ks.all fun c => scVal p fn th c.toNat) && scOwn p fn th ⟨6, mx, nx, ks⟩)) ∧ w.grownBy (wr.setCell ⟨rb, 4, none⟩ (.bool true)) (some rb)) := by
              have h1 : (bad || !((ks.all fun c => scVal p fn th c.toNat) && scOwn p fn th ⟨6, mx, nx, ks⟩)) = true := by
                have h2 := hB1.out
                rw [hb] at h2
                rw [hA.out, hO.out]
                revert h2
                cases bad <;> cases A <;> simp
              rw [h1]
              exact ⟨HS.out.1.store true, grown_trans HS.out.2.1 (grown_setCell wr ⟨rb, 4, none⟩ _) (.inr rfl) (.inr rfl)⟩
            rw [hb] at x4
            clear HS hb hO HR HKR
            go_wp2_with fail
            go_region
            all_goals
              go_wp2
              go_end0
              exact ⟨rfl, Seen.drew HF.out.1, grown_trans HF.out.2 (grown_drewN _ 1) (.inr rfl) (.inl rfl)⟩
        · have hO : Hid (scOwn p fn th ⟨12, mx, nx, ks⟩ = scCall p fn nx ks.length) := by show _ = _; simp [scOwn]
          have x0 := cell_at HS.out.1.at_ 0
          have x1 := cell_at HS.out.1.at_ 1
          have y0 := cell_at HS.out.2.2 0
          have y2 := cell_at HS.out.2.2 2
          simp at x0 x1 y0 y2
          have hrr := HS.out.1.lt
          have hcr : w.heap.size < wr.heap.size := by
            rcases Nat.lt_or_ge w.heap.size wr.heap.size with h' | h'
            · exact h'
            · have := HS.out.2.2
              simp [Array.getElem?_eq_none h'] at this
          have hFl : p.fns.length ≤ 1048576 := by
            have := prog_fns hp
            omega
          obtain ⟨fi, hfi⟩ : ∃ i, Hid (fnAt p.fns nx = i) := ⟨_, (rfl : fnAt p.fns nx = fnAt p.fns nx)⟩
          have hfb : -1 ≤ fi ∧ fi < (F : Int) := by
            have := fnAt_bound p.fns nx
            rw [hfi.out, HFn.out] at this
            exact this
          have cF : Hid (∀ W, Below rb w W → rb ≤ W.heap.size → Calls Tryz.prog 52 #[.agg #[.slice (some ⟨b, off, none⟩) N nc, .slice fa F fcap], .string nx] W fun e w' => e = .returned (.int .i64 fi) ∧ Below W.heap.size W w') := fun W hW hz => by
            rw [← hfi.out]
            exact specFnAt_any rb _ _ p.fns nx W hz (HR.out.2.keep hW) hFl
          go_wp2_with fail
          go_region_held3 (fun w' => (w'.cell? ⟨rb, 0, none⟩ = some (.slice (some ⟨b, off, none⟩) N nc) ∧ w'.cell? ⟨rb, 1, none⟩ = some (.slice fa F fcap)) ∧ w'.cell? ⟨w.heap.size, 2, none⟩ = some (.string nx)) (first | exact ⟨⟨x0, x1⟩, y2⟩ | exact ⟨⟨(hb2.cell (p := ⟨rb, 0, none⟩) hrr).trans x0, (hb2.cell (p := ⟨rb, 1, none⟩) hrr).trans x1⟩, (hb2.cell (p := ⟨w.heap.size, 2, none⟩) hcr).trans y2⟩ | go_keep) ((go_at_call 52; refine Calls.mono (cF.out _ hBr.drew (Nat.le_of_lt hrr)) ?_; rintro e w2 ⟨rfl, hb2⟩))
          have HS2 : Hid (Seen w2 rb (.slice (some ⟨b, off, none⟩) N nc) (.slice fa F fcap) fn (.slice ta tn tc) th b1 ∧ w.grownBy w2 (some rb) ∧ w2.heap[w.heap.size]? = some (.cells #[.int .i64 12, .int .i64 mx, .string nx, .slice ka t kc] 67) ∧ Below rb w w2) := by
            have h0 : Below wr.heap.size wr w2 := (Below.refl _ _).drew.trans hb2
            have h1 : wr.grownBy w2 none := grown_of_below h0
            exact ⟨HS.out.1.below h0, grown_trans HS.out.2.1 h1 (.inr rfl) (.inl rfl), (h0.block _ hcr).trans HS.out.2.2, hBr.trans (h0.mono (by omega))⟩
          clear hb2 HS x0 x1 y0 y2 hrr hcr cF hBr
          have x1 := cell_at HS2.out.1.at_ 1
          have x2 := cell_at HS2.out.1.at_ 2
          have x4 := cell_at HS2.out.1.at_ 4
          have f4 := free_at HS2.out.1.at_ 4
          have y2 := cell_at HS2.out.2.2.1 2
          have y3 := cell_at HS2.out.2.2.1 3
          simp at x1 x2 x4 y2 y3
          cases hb : b1
          rotate_left
          · have hX := hb
            have HF : Hid (Seen (w2.setCell ⟨rb, 4, none⟩ (.bool true)) rb (.slice (some ⟨b, off, none⟩) N nc) (.slice fa F fcap) fn (.slice ta tn tc) th (bad || !((ks.all fun c => scVal p fn th c.toNat) && scOwn p fn th ⟨12, mx, nx, ks⟩)) ∧ w.grownBy (w2.setCell ⟨rb, 4, none⟩ (.bool true)) (some rb)) := by
              have h1 : (bad || !((ks.all fun c => scVal p fn th c.toNat) && scOwn p fn th ⟨12, mx, nx, ks⟩)) = true := by
                have h2 := hB1.out
                rw [hA.out, hO.out]
                rw [hX] at h2
                revert h2
                cases bad <;> cases A <;> simp_all
              rw [h1]
              exact ⟨HS2.out.1.store true, grown_trans HS2.out.2.1 (grown_setCell w2 ⟨rb, 4, none⟩ _) (.inr rfl) (.inr rfl)⟩
            rw [hb] at x4
            clear HS2 hb hX hO HR HKR
            go_wp2_with fail
            go_region
            all_goals
              go_wp2
              go_end0
              exact ⟨rfl, Seen.drew HF.out.1, grown_trans HF.out.2 (grown_drewN _ 1) (.inr rfl) (.inl rfl)⟩
          by_cases hi0 : fi < 0
          · have hX : scCall p fn nx ks.length = false := by
              unfold scCall
              rw [hfi.out]
              have : decide (0 ≤ fi) = false := by simp; omega
              rw [this]
              rfl
            have HF : Hid (Seen (w2.setCell ⟨rb, 4, none⟩ (.bool true)) rb (.slice (some ⟨b, off, none⟩) N nc) (.slice fa F fcap) fn (.slice ta tn tc) th (bad || !((ks.all fun c => scVal p fn th c.toNat) && scOwn p fn th ⟨12, mx, nx, ks⟩)) ∧ w.grownBy (w2.setCell ⟨rb, 4, none⟩ (.bool true)) (some rb)) := by
              have h1 : (bad || !((ks.all fun c => scVal p fn th c.toNat) && scOwn p fn th ⟨12, mx, nx, ks⟩)) = true := by
                have h2 := hB1.out
                rw [hA.out, hO.out]
                rw [hX]
                revert h2
                cases bad <;> cases A <;> simp_all
              rw [h1]
              exact ⟨HS2.out.1.store true, grown_trans HS2.out.2.1 (grown_setCell w2 ⟨rb, 4, none⟩ _) (.inr rfl) (.inr rfl)⟩
            rw [hb] at x4
            have d1 : decide (fi < 0) = true := by simpa using hi0
            clear HS2 hb hX hO HR HKR
            go_wp2_with fail
            go_region
            all_goals
              go_wp2
              go_end0
              exact ⟨rfl, Seen.drew HF.out.1, grown_trans HF.out.2 (grown_drewN _ 1) (.inr rfl) (.inl rfl)⟩
          by_cases hi1 : fn ≤ fi
          · have hX : scCall p fn nx ks.length = false := by
              unfold scCall
              rw [hfi.out]
              have : decide (fi < fn) = false := by simp; omega
              rw [this]
              simp
            have HF : Hid (Seen (w2.setCell ⟨rb, 4, none⟩ (.bool true)) rb (.slice (some ⟨b, off, none⟩) N nc) (.slice fa F fcap) fn (.slice ta tn tc) th (bad || !((ks.all fun c => scVal p fn th c.toNat) && scOwn p fn th ⟨12, mx, nx, ks⟩)) ∧ w.grownBy (w2.setCell ⟨rb, 4, none⟩ (.bool true)) (some rb)) := by
              have h1 : (bad || !((ks.all fun c => scVal p fn th c.toNat) && scOwn p fn th ⟨12, mx, nx, ks⟩)) = true := by
                have h2 := hB1.out
                rw [hA.out, hO.out]
                rw [hX]
                revert h2
                cases bad <;> cases A <;> simp_all
              rw [h1]
              exact ⟨HS2.out.1.store true, grown_trans HS2.out.2.1 (grown_setCell w2 ⟨rb, 4, none⟩ _) (.inr rfl) (.inr rfl)⟩
            rw [hb] at x4
            have d1 : decide (fi < 0) = false := by simp; omega
            have d2 : decide (fn ≤ fi) = true := by simpa using hi1
            clear HS2 hb hX hO HR HKR
            go_wp2_with fail
            go_region
            all_goals
              go_wp2
              go_end0
              exact ⟨rfl, Seen.drew HF.out.1, grown_trans HF.out.2 (grown_drewN _ 1) (.inr rfl) (.inl rfl)⟩
          · have d1 : decide (fi < 0) = false := by simp; omega
            have d2 : decide (fn ≤ fi) = false := by simp; omega
            obtain ⟨fj, rfl⟩ : ∃ j : Nat, fi = (j : Int) := ⟨fi.toNat, by omega⟩
            have hfj0 : (0 : Int) ≤ (fj : Int) := by omega
            have hfj1 : (fj : Int) < (F : Int) := by omega
            have hfjl : fj < p.fns.length := by have := HFn.out; omega
            obtain ⟨fb', fo', pv, rfl, hfbb, g0, g1, g2, g3, g4, hPv⟩ := FcR.at HR.out.2 fj hfjl
            obtain ⟨pa, pc, rfl⟩ := hPv.len
            have g1' := (HS2.out.2.2.2.cell (p := ⟨fb', fo' + fj * 5 + 1, none⟩) hfbb).trans g1
            obtain ⟨pl, hpl⟩ : ∃ n, Hid (p.fns[fj].params.length = n) := ⟨_, (rfl : p.fns[fj].params.length = _)⟩
            rw [hpl.out] at g1'
            have hXX : scCall p fn nx ks.length = decide (pl = t) := by
              unfold scCall
              rw [hfi.out, Int.toNat_natCast]
              have h3 : decide (0 ≤ (fj : Int)) = true := by simp
              have h4 : decide ((fj : Int) < fn) = true := by simp; omega
              rw [h3, h4, HK.out]
              simp [List.getD, hfjl, hpl.out]
            clear g0 g1 g2 g3 g4 hPv
            by_cases hpt : pl = t
            · have hX : scCall p fn nx ks.length = true := by rw [hXX]; simpa using hpt
              subst hpt
              have HF : Hid (Seen (w2.setCell ⟨rb, 4, none⟩ (.bool false)) rb (.slice (some ⟨b, off, none⟩) N nc) (.slice (some ⟨fb', fo', none⟩) F fcap) fn (.slice ta tn tc) th (bad || !((ks.all fun c => scVal p fn th c.toNat) && scOwn p fn th ⟨12, mx, nx, ks⟩)) ∧ w.grownBy (w2.setCell ⟨rb, 4, none⟩ (.bool false)) (some rb)) := by
                have h1 : (bad || !((ks.all fun c => scVal p fn th c.toNat) && scOwn p fn th ⟨12, mx, nx, ks⟩)) = false := by
                  have h2 := hB1.out
                  rw [hA.out, hO.out]
                  rw [hX]; rw [hb] at h2
                  revert h2
                  cases bad <;> cases A <;> simp_all
                rw [h1]
                exact ⟨HS2.out.1.store false, grown_trans HS2.out.2.1 (grown_setCell w2 ⟨rb, 4, none⟩ _) (.inr rfl) (.inr rfl)⟩
              rw [hb] at x4
              clear HS2 hb hX hXX hO HR HKR
              go_wp2_with fail
              go_region
              all_goals
                go_wp2
                go_end0
                exact ⟨rfl, Seen.drew HF.out.1, grown_trans HF.out.2 (grown_drewN _ 1) (.inr rfl) (.inl rfl)⟩
            · have hX : scCall p fn nx ks.length = false := by rw [hXX]; simpa using hpt
              have hpt1 : ((pl : Int) == (t : Int)) = false := by simp; omega
              have hpt2 : ¬ (pl : Int) = (t : Int) := by omega
              have hpt3 : ((pl : Int) != (t : Int)) = true := by simp; omega
              have HF : Hid (Seen (w2.setCell ⟨rb, 4, none⟩ (.bool true)) rb (.slice (some ⟨b, off, none⟩) N nc) (.slice (some ⟨fb', fo', none⟩) F fcap) fn (.slice ta tn tc) th (bad || !((ks.all fun c => scVal p fn th c.toNat) && scOwn p fn th ⟨12, mx, nx, ks⟩)) ∧ w.grownBy (w2.setCell ⟨rb, 4, none⟩ (.bool true)) (some rb)) := by
                have h1 : (bad || !((ks.all fun c => scVal p fn th c.toNat) && scOwn p fn th ⟨12, mx, nx, ks⟩)) = true := by
                  have h2 := hB1.out
                  rw [hA.out, hO.out]
                  rw [hX]
                  revert h2
                  cases bad <;> cases A <;> simp_all
                rw [h1]
                exact ⟨HS2.out.1.store true, grown_trans HS2.out.2.1 (grown_setCell w2 ⟨rb, 4, none⟩ _) (.inr rfl) (.inr rfl)⟩
              rw [hb] at x4
              clear HS2 hb hX hXX hO HR HKR
              go_wp2_with fail
              go_region
              all_goals
                go_wp2
                go_end0
                exact ⟨rfl, Seen.drew HF.out.1, grown_trans HF.out.2 (grown_drewN _ 1) (.inr rfl) (.inl rfl)⟩
        · have hO : Hid (scOwn p fn th ⟨kx, mx, nx, ks⟩ = true) := by
            show _ = _
            unfold scOwn
            rw [if_neg (by simp only; omega), if_neg (by simp only; omega)]
          have y0 := cell_at HS.out.2.2 0
          simp at y0
          have HF : Hid (Seen wr rb (.slice (some ⟨b, off, none⟩) N nc) (.slice fa F fcap) fn (.slice ta tn tc) th (bad || !((ks.all fun c => scVal p fn th c.toNat) && scOwn p fn th ⟨kx, mx, nx, ks⟩)) ∧ w.grownBy wr (some rb)) := by
            rw [hO.out, Bool.and_true, hA.out, hB1.out]
            exact ⟨HS.out.1, HS.out.2.1⟩
          have g2 : (kx == 2) = false := by simp; omega
          have g3 : (kx == 3) = false := by simp; omega
          have g4 : (kx == 4) = false := by simp; omega
          have g5 : (kx == 5) = false := by simp; omega
          have g6 : (kx == 6) = false := by simp; omega
          have g7 : (kx == 12) = false := by simp; omega
          clear HS hO
          go_wp2
          go_end0
          exact ⟨rfl, HF.out.1, HF.out.2⟩

end Go.Proofs.YtjafneaaefpefaaGreat
