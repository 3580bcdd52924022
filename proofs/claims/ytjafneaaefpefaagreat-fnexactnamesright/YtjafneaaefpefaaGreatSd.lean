/-
  Whose names, in the model: statements and blocks. Written by mkscopet.py.
  NamesRight, in the model.
-/
import Derived.Test.YtjafneaaefpefaaGreatSc
import Derived.Test.YtjafneaaefpefaaGreatKa
import Derived.BigRegion
import Derived.Deep.RegionLaw
import Derived.Test.YtjafneaaefpefaaGreatPr
import Derived.Test.YtjafneaaefpefaaGreatVa
namespace Go.Proofs.YtjafneaaefpefaaGreat
open Go.RowKit

theorem Tryz.infoStr : (Tryz.prog.info? 9).map (fun i => (i.zero, i.size, i.bytes)) = some (some (.string ByteArray.empty), 1, 16) := by kernel_rfl
theorem scBody_len (p : Pg) (fn : Int) (blk : Nat → List ByteArray → Bool × List ByteArray) (x : Nd) (th : List ByteArray) : (scBody p fn blk x th).2.length ≤ th.length + 1 := by
  unfold scBody
  split
  · simp
  · split
    · simp
    · split
      · simp
      · simp
theorem scStep_len (p : Pg) (fn : Int) (k : Nat) (th : List ByteArray) : (scStep p fn k th).2.length ≤ th.length + 1 := by
  unfold scStep
  simp only [scSt]
  exact scBody_len _ _ _ _ _
theorem scFold_len (p : Pg) (fn : Int) : ∀ (cs : List Int) (th : List ByteArray), (scFold (scStep p fn) cs th).2.length ≤ th.length + cs.length := by
  intro cs
  induction cs with
  | nil => intro th; simp [scFold]
  | cons c cs ih =>
    intro th
    simp only [scFold, List.length_cons]
    have h1 := ih (scStep p fn c.toNat th).2
    have h2 := scStep_len p fn c.toNat th
    omega
theorem Seen.setTv {w W : World} {rb : Nat} {v0 v1 : Value} {fn : Int} {tv v' : Value} {th th' : List ByteArray} {bad : Bool} (h : Seen w rb v0 v1 fn tv th bad) (hg : w.grownBy W none) (ho : OwnsS W (rb + 1) 9 v' th') : Seen (W.setCell ⟨rb, 3, none⟩ v') rb v0 v1 fn v' th' bad := by
  refine ⟨?_, OwnsS.kept ho (grown_setCell W ⟨rb, 3, none⟩ _) (own_ne ho (by show rb < _; omega))⟩
  have := (hg.block rb h.lt (by simp)).trans h.at_
  simp [World.setCell, Array.getElem?_modify, this]

set_option maxRecDepth 100000 in
set_option maxHeartbeats 12800000 in
theorem scope_any (p : Pg) (na fa : Option Addr) (N nc F fcap rb : Nat) (fn : Int) (hp : programOk p = true) (HN : Hid (p.nodes.length = N)) (HFn : Hid (p.fns.length = F)) (hfn : 0 ≤ fn ∧ fn < (F : Int)) : ∀ k : Nat, k < N → (isStm (p.nodes.getD k nd0).kind = true → ∀ (w : World) (bad : Bool) (tv : Value) (th : List ByteArray), th.length + 12 * (deepOf p.nodes (k : Int)).toNat ≤ 1000 → NdR.Row w rb (.slice na N nc) p.nodes → FcR.Row w rb (.slice fa F fcap) p.fns → Seen w rb (.slice na N nc) (.slice fa F fcap) fn tv th (bad) → Calls Tryz.prog 50 #[.pointer (some ⟨rb, 0, none⟩), .int .i64 (k : Int)] w fun e w' => e = .returned (.tuple #[]) ∧ (∃ tv', Seen w' rb (.slice na N nc) (.slice fa F fcap) fn tv' (scStep p fn k th).2 (bad || !(scStep p fn k th).1)) ∧ w.grownBy w' (some rb)) ∧ ((p.nodes.getD k nd0).kind = 20 → ∀ (w : World) (bad : Bool) (tv : Value) (th : List ByteArray), th.length + 12 * (deepOf p.nodes (k : Int)).toNat ≤ 1000 → NdR.Row w rb (.slice na N nc) p.nodes → FcR.Row w rb (.slice fa F fcap) p.fns → Seen w rb (.slice na N nc) (.slice fa F fcap) fn tv th (bad) → Calls Tryz.prog 21 #[.pointer (some ⟨rb, 0, none⟩), .int .i64 (k : Int)] w fun e w' => e = .returned (.tuple #[]) ∧ (∃ tv', Seen w' rb (.slice na N nc) (.slice fa F fcap) fn tv' (scBlk p fn k th).2 (bad || !(scBlk p fn k th).1)) ∧ w.grownBy w' (some rb)) := by
  have hl := prog_last hp
  have HA := prog_ahead hp
  have hN3 : N ≤ 300 := by have := HN.out; omega
  intro k
  induction k using Nat.strongRecOn with
  | _ k ih =>
    intro hk
    have IH : Hid (∀ c, c < k → (isStm (p.nodes.getD c nd0).kind = true → ∀ (w : World) (bad : Bool) (tv : Value) (th : List ByteArray), th.length + 12 * (deepOf p.nodes (c : Int)).toNat ≤ 1000 → NdR.Row w rb (.slice na N nc) p.nodes → FcR.Row w rb (.slice fa F fcap) p.fns → Seen w rb (.slice na N nc) (.slice fa F fcap) fn tv th (bad) → Calls Tryz.prog 50 #[.pointer (some ⟨rb, 0, none⟩), .int .i64 (c : Int)] w fun e w' => e = .returned (.tuple #[]) ∧ (∃ tv', Seen w' rb (.slice na N nc) (.slice fa F fcap) fn tv' (scStep p fn c th).2 (bad || !(scStep p fn c th).1)) ∧ w.grownBy w' (some rb)) ∧ ((p.nodes.getD c nd0).kind = 20 → ∀ (w : World) (bad : Bool) (tv : Value) (th : List ByteArray), th.length + 12 * (deepOf p.nodes (c : Int)).toNat ≤ 1000 → NdR.Row w rb (.slice na N nc) p.nodes → FcR.Row w rb (.slice fa F fcap) p.fns → Seen w rb (.slice na N nc) (.slice fa F fcap) fn tv th (bad) → Calls Tryz.prog 21 #[.pointer (some ⟨rb, 0, none⟩), .int .i64 (c : Int)] w fun e w' => e = .returned (.tuple #[]) ∧ (∃ tv', Seen w' rb (.slice na N nc) (.slice fa F fcap) fn tv' (scBlk p fn c th).2 (bad || !(scBlk p fn c th).1)) ∧ w.grownBy w' (some rb))) := fun c hc => ih c hc (by omega)
    clear ih
    have hkl : k < p.nodes.length := by have := HN.out; omega
    have hk0 : (0 : Int) ≤ (k : Int) := by omega
    have hk1 : (k : Int) < (N : Int) := by omega
    have hok := deep_nodes (m := p.nodes.length - 1) (by omega) hl.2.2 k (by omega)
    have hgd : p.nodes.getD k nd0 = p.nodes[k] := by simp [List.getD, hkl]
    constructor
    · intro hv w bad tv th hth hR hRF hS
      have hSK := stmKids hok hv
      have hv0 := getD_mem hSK.some
      have hvb := HA k (by omega) _ hv0
      have hvv := hSK.val
      have hE : scStep p fn k th = _ := scStep_eq HA (k := k) (by omega) th
      have hDK : Hid (∀ c ∈ (p.nodes.getD k nd0).kids, 0 ≤ c ∧ c < (k : Int) ∧ (deepOf p.nodes c).toNat + 1 ≤ (deepOf p.nodes (k : Int)).toNat) := fun c hc => by
        have h1 := deep_kid (m := p.nodes.length - 1) (by omega) hl.2.2 (k := k) (by omega) hc
        have h2 := HA k (by omega) c hc
        exact ⟨h2.1, h2.2, by omega⟩
      have hBK : Hid (∀ j, 0 < j → j < (p.nodes.getD k nd0).kids.length → (p.nodes.getD ((p.nodes.getD k nd0).kids.getD j 0).toNat nd0).kind = 20) := hSK.blk
      rw [hE]
      rw [hgd] at hDK hBK hSK hv0 hvb hvv ⊢
      obtain ⟨b, off, ka, kc, rfl, hb, n0, n1, n2, n3, hKR⟩ := RowNd.at hR k hkl
      obtain ⟨q, hq⟩ : ∃ q, Hid (p.nodes[k] = q) := ⟨_, (rfl : p.nodes[k] = p.nodes[k])⟩
      obtain ⟨K, HK⟩ : ∃ K, Hid (p.nodes[k].kids.length = K) := ⟨_, (rfl : p.nodes[k].kids.length = p.nodes[k].kids.length)⟩
      rw [HK.out] at n3 hKR
      rw [hq.out] at n0 n1 n2 hKR hDK hBK HK hSK hv0 hvb hvv ⊢
      obtain ⟨kx, mx, nx, ks⟩ := q
      have hk13 := hSK.stm
      have hsome := hSK.some
      have h17 := hSK.two
      have h16 := hSK.three
      have h1x := hSK.one
      simp only at n0 n1 n2 hKR hDK hBK HK hv0 hvb hvv hk13 hsome h17 h16 h1x
      have HKR : Hid (RowI w rb (.slice ka K kc) ks) := hKR
      have HR : Hid (NdR.Row w rb (.slice (some ⟨b, off, none⟩) N nc) p.nodes ∧ FcR.Row w rb (.slice fa F fcap) p.fns) := ⟨hR, hRF⟩
      have hrl := hS.lt
      have hbw : b < w.heap.size := by omega
      have hK0 : 0 < K := by have := HK.out; omega
      have hK1 : (0 : Int) < (K : Int) := by omega
      have x0 := cell_at hS.at_ 0
      simp at x0
      have HS0 : Hid (Seen w rb (.slice (some ⟨b, off, none⟩) N nc) (.slice fa F fcap) fn tv th bad) := hS
      obtain ⟨c0, hc0⟩ : ∃ c : Nat, Hid (ks.getD 0 0 = (c : Int)) := ⟨(ks.getD 0 0).toNat, (by show _ = _; omega)⟩
      rw [hc0.out] at hvb hvv
      rw [Int.toNat_natCast] at hvv
      obtain ⟨kb, ko, rfl, hkb, e0⟩ := HKR.out.at 0 hsome
      have he0 : ks[0] = (c0 : Int) := by rw [← hc0.out]; simp [List.getD, hsome]
      rw [he0, Nat.add_zero] at e0
      have f0 : (w.alloc (.cells #[.int .i64 kx, .int .i64 mx, .string nx, .slice (some ⟨kb, ko, none⟩) K kc] 67)).cell? ⟨kb, ko, none⟩ = some (.int .i64 (c0 : Int)) := (Below.cell (p := ⟨kb, ko, none⟩) ((Below.refl w.heap.size w).alloc (Nat.le_refl _) _) (by show kb < _; omega)).trans e0
      have cV : Hid (∀ W, Below w.heap.size w W → Calls Tryz.prog 22 #[.pointer (some ⟨rb, 0, none⟩), .int .i64 (c0 : Int)] W fun e w' => e = .returned (.tuple #[]) ∧ Seen w' rb (.slice (some ⟨b, off, none⟩) N nc) (.slice fa F fcap) fn tv th (bad || !scVal p fn th c0) ∧ W.grownBy w' (some rb)) := fun W hW =>
        value_any p _ fa N nc F fcap rb fn tv th hp HN HFn (by omega) hfn c0 (by omega) hvv W bad (HR.out.1.keep (hW.mono (by omega))) (HR.out.2.keep (hW.mono (by omega))) (HS0.out.below hW)
      obtain ⟨ta, tc, hta, _⟩ := hS.own.at'
      obtain ⟨tn, htn⟩ : ∃ n, th.length = n := ⟨_, rfl⟩
      rw [htn] at hta
      subst hta
      clear hR hRF hKR hb hE hgd hok hS hv hSK hv0 e0
      go_enter Tryz.func50, Tryz.ntmps50
      go_wp2_with fail
      go_at_call 22
      refine Calls.mono (cV.out _ (by go_grown)) ?_
      rintro e wr ⟨rfl, hs1, hg1⟩
      obtain ⟨A, hA⟩ : ∃ A, Hid (scVal p fn th (ks.getD 0 0).toNat = A) := ⟨_, (rfl : scVal p fn th (ks.getD 0 0).toNat = _)⟩
      have hA0 : scVal p fn th c0 = A := by rw [← hA.out, hc0.out, Int.toNat_natCast]
      rw [hA0] at hs1
      obtain ⟨b1, hB1⟩ : ∃ b1, Hid ((bad || !A) = b1) := ⟨_, (rfl : (bad || !A) = _)⟩
      rw [hB1.out] at hs1
      have HS : Hid (Seen wr rb (.slice (some ⟨b, off, none⟩) N nc) (.slice fa F fcap) fn (.slice ta tn tc) th b1 ∧ w.grownBy wr (some rb) ∧ wr.heap[w.heap.size]? = some (.cells #[.int .i64 kx, .int .i64 mx, .string nx, .slice (some ⟨kb, ko, none⟩) K kc] 67)) := by
        refine ⟨hs1, grown_trans (World.grownBy_alloc w _ none) hg1 (.inl rfl) (.inr rfl), (hg1.block _ (by simp) ?_).trans (heap_alloc_new _ _)⟩
        intro e
        have : w.heap.size = rb := by simpa using e
        omega
      have hBr : Below rb w wr := below_of_grown HS.out.2.1 (Nat.le_refl _) (by omega)
      clear hs1 hg1 cV HS0 f0 hA0 he0 x0
      rcases (by omega : kx = 13 ∨ kx = 14 ∨ kx = 15 ∨ kx = 16 ∨ kx = 17 ∨ kx = 18 ∨ kx = 19) with rfl | rfl | rfl | rfl | rfl | rfl | rfl
      · have hO : Hid (scBody p fn (scBlk p fn) ⟨13, mx, nx, ks⟩ th = (A, th ++ [nx])) := by show _ = _; unfold scBody; rw [if_pos rfl]; show (scVal p fn th (ks.getD 0 0).toNat, th ++ [nx]) = _; rw [hA.out]
        have x3 := cell_at HS.out.1.at_ 3
        have f3 := free_at HS.out.1.at_ 3
        have y0 := cell_at HS.out.2.2 0
        have y2 := cell_at HS.out.2.2 2
        simp at x3 y0 y2
        have HFin : Hid (∀ W v', wr.grownBy W none → OwnsS W (rb + 1) 9 v' (th ++ [nx]) → (∃ tv', Seen (W.setCell ⟨rb, 3, none⟩ v') rb (.slice (some ⟨b, off, none⟩) N nc) (.slice fa F fcap) fn tv' (scBody p fn (scBlk p fn) ⟨13, mx, nx, ks⟩ th).2 (bad || !(scBody p fn (scBlk p fn) ⟨13, mx, nx, ks⟩ th).1)) ∧ w.grownBy (W.setCell ⟨rb, 3, none⟩ v') (some rb)) := fun W v' hg ho => by
          rw [hO.out, hB1.out]
          exact ⟨⟨v', HS.out.1.setTv hg ho⟩, grown_trans HS.out.2.1 (grown_trans hg (grown_setCell W ⟨rb, 3, none⟩ v') (.inl rfl) (.inr rfl)) (.inr rfl) (.inr rfl)⟩
        have hrr := HS.out.1.lt
        have hcl : w.heap.size < wr.heap.size := by
          rcases Nat.lt_or_ge w.heap.size wr.heap.size with h' | h'
          · exact h'
          · have := HS.out.2.2
            simp [Array.getElem?_eq_none h'] at this
        have HOw : Hid (OwnsS wr (rb + 1) 9 (.slice ta tn tc) th) := HS.out.1.own
        have HAt : Hid (wr.heap[rb]? = some (.cells #[(.slice (some ⟨b, off, none⟩) N nc), (.slice fa F fcap), .int .i64 fn, .slice ta tn tc, .bool b1] 51 (0, 0))) := HS.out.1.at_
        have hthl : th.length ≤ 1000 := by omega
        clear hO HR HKR
        go_wp2_with fail
        go_region_law (first | (have _z := hb4; refine step_catS rfl _ _ 49 rfl wr.heap.size 9 Tryz.underlying49 Tryz.infoStr (ho4.below (by go_grown)) (C := 0) (ownsS_lit (nm := nx) (by first | exact heap_alloc_new _ _ | exact (hg4.block _ (by first | (simp; done) | (simp; omega)) (by first | (simp [Value.ownBlock]; done) | (simp [Value.ownBlock]; omega))).trans (snd_new _ _ _) | exact (hg4.block _ (by first | (simp; done) | (simp; omega)) (by first | (simp [Value.ownBlock]; done) | (simp [Value.ownBlock]; omega))).trans (fst_new _ _ _) | exact (hg4.block _ (by first | (simp; done) | (simp; omega)) (by first | (simp [Value.ownBlock]; done) | (simp [Value.ownBlock]; omega))).trans (heap_alloc_new _ _)) (Nat.zero_le _)) rfl rfl (by simp; omega) (by have := hb4.size; first | omega | (simp; omega)) ?_; intro v5 w5 ho5 hg5; obtain ⟨g5, n5, c5, rfl⟩ := ownsS_some ho5 (by simp); have hb5 : Below wr.heap.size wr w5 := Below.grown (by first | exact hb4 | exact hb4.drew | exact hb4.alloc hb4.size _ | exact (hb4.alloc hb4.size _).drew | exact hb4.drew.alloc hb4.size _) hg5 (by have := hb4.size; first | omega | (simp; omega)) (fun q hq => by have := (ownsS_lt ho4 q hq).1; omega); have z3 := cell_at ((hb5.block rb hrr).trans HAt.out) 3; have zf := free_at ((hb5.block rb hrr).trans HAt.out) 3; simp at z3) | (refine step_catS rfl _ _ 49 rfl wr.heap.size 9 Tryz.underlying49 Tryz.infoStr (ownsS_emptyAt (by first | exact heap_alloc_new _ _ | exact fst_new _ _ _ | exact snd_new _ _ _) (by first | exact Nat.le_refl _ | exact Nat.le_succ _ | (simp; done) | (simp; omega))) (HOw.out.below (by go_grown)) rfl rfl (by simp; omega) (by first | exact Nat.le_refl _ | (simp; done) | (simp; omega)) ?_; intro v4 w4 ho4 hg4; have hb4 : Below wr.heap.size wr w4 := Below.grown (by go_grown) hg4 (by first | exact Nat.le_refl _ | (simp; done) | (simp; omega)) (fun q hq => by simp [Value.ownBlock] at hq; omega); have z2 := (hb4.cell (p := ⟨w.heap.size, 2, none⟩) hcl).trans y2))
        all_goals
          have hF := HFin.out w5 _ (grown_of_below hb5) (by have h9 := ho5; rw [List.nil_append] at h9; exact owns_base h9 (by omega))
          have HF : Hid _ := hF
          clear hF hb5 hb4 ho5 ho4 hg5 hg4 z2 z3 zf HFin HOw HAt HS
          go_wp2
          go_end0
          first | exact ⟨rfl, HF.out.1, HF.out.2⟩ | exact ⟨rfl, HF.out.1.imp fun _ h => Seen.drew h, grown_trans HF.out.2 (grown_drewN _ 1) (.inr rfl) (.inl rfl)⟩
      · have hO : Hid (scBody p fn (scBlk p fn) ⟨14, mx, nx, ks⟩ th = (A && scHas th nx, th)) := by show _ = _; unfold scBody; rw [if_neg (by simp), if_pos (by simp)]; show (scVal p fn th (ks.getD 0 0).toNat && scHas th nx, th) = _; rw [hA.out]
        have x3 := cell_at HS.out.1.at_ 3
        have x4 := cell_at HS.out.1.at_ 4
        have f4 := free_at HS.out.1.at_ 4
        have y0 := cell_at HS.out.2.2 0
        have y2 := cell_at HS.out.2.2 2
        simp at x3 x4 y0 y2
        cases hb : b1
        · have cH : Hid (∀ W, Below wr.heap.size wr W → Calls Tryz.prog 51 #[.slice ta tn tc, .string nx] W fun e w' => e = .returned (.bool (scHas th nx)) ∧ w' = W) := fun W hW => l07Has_any (rb + 1) _ th nx W (HS.out.1.own.below hW) (by omega)
          cases hh : scHas th nx
          · rw [hh] at cH
            have HF : Hid ((∃ tv', Seen ((wr.setCell ⟨rb, 4, none⟩ (.bool true)).drew) rb (.slice (some ⟨b, off, none⟩) N nc) (.slice fa F fcap) fn tv' (scBody p fn (scBlk p fn) ⟨14, mx, nx, ks⟩ th).2 (bad || !(scBody p fn (scBlk p fn) ⟨14, mx, nx, ks⟩ th).1)) ∧ w.grownBy ((wr.setCell ⟨rb, 4, none⟩ (.bool true)).drew) (some rb)) := by
              have h1 : (bad || !(A && scHas th nx)) = true := by
                have h2 := hB1.out
                rw [hb] at h2
                rw [hh]
                revert h2
                cases bad <;> cases A <;> simp
              rw [hO.out]
              simp only
              rw [h1]
              exact ⟨⟨_, Seen.drew (HS.out.1.store true)⟩, grown_trans (grown_trans HS.out.2.1 (grown_setCell wr ⟨rb, 4, none⟩ _) (.inr rfl) (.inr rfl)) (grown_drewN _ 1) (.inr rfl) (.inl rfl)⟩
            rw [hb] at x4
            clear HS hb hh hO HR HKR
            go_wp2_with fail
            go_region_with (go_at_call 51; refine Calls.mono (cH.out _ (by go_grown)) ?_; rintro e w1 ⟨rfl, rfl⟩)
            all_goals
              go_wp2
              go_end0
              exact ⟨rfl, HF.out.1, HF.out.2⟩
          · rw [hh] at cH
            have HF : Hid ((∃ tv', Seen ((wr.setCell ⟨rb, 4, none⟩ (.bool false)).drew) rb (.slice (some ⟨b, off, none⟩) N nc) (.slice fa F fcap) fn tv' (scBody p fn (scBlk p fn) ⟨14, mx, nx, ks⟩ th).2 (bad || !(scBody p fn (scBlk p fn) ⟨14, mx, nx, ks⟩ th).1)) ∧ w.grownBy ((wr.setCell ⟨rb, 4, none⟩ (.bool false)).drew) (some rb)) := by
              have h1 : (bad || !(A && scHas th nx)) = false := by
                have h2 := hB1.out
                rw [hb] at h2
                rw [hh]
                revert h2
                cases bad <;> cases A <;> simp
              rw [hO.out]
              simp only
              rw [h1]
              exact ⟨⟨_, Seen.drew (HS.out.1.store false)⟩, grown_trans (grown_trans HS.out.2.1 (grown_setCell wr ⟨rb, 4, none⟩ _) (.inr rfl) (.inr rfl)) (grown_drewN _ 1) (.inr rfl) (.inl rfl)⟩
            rw [hb] at x4
            clear HS hb hh hO HR HKR
            go_wp2_with fail
            go_region_with (go_at_call 51; refine Calls.mono (cH.out _ (by go_grown)) ?_; rintro e w1 ⟨rfl, rfl⟩)
            all_goals
              go_wp2
              go_end0
              exact ⟨rfl, HF.out.1, HF.out.2⟩
        · have HF : Hid ((∃ tv', Seen ((wr.setCell ⟨rb, 4, none⟩ (.bool true)).drew) rb (.slice (some ⟨b, off, none⟩) N nc) (.slice fa F fcap) fn tv' (scBody p fn (scBlk p fn) ⟨14, mx, nx, ks⟩ th).2 (bad || !(scBody p fn (scBlk p fn) ⟨14, mx, nx, ks⟩ th).1)) ∧ w.grownBy ((wr.setCell ⟨rb, 4, none⟩ (.bool true)).drew) (some rb)) := by
            have h1 : (bad || !(A && scHas th nx)) = true := by
              have h2 := hB1.out
              rw [hb] at h2
              skip
              revert h2
              cases bad <;> cases A <;> simp
            rw [hO.out]
            simp only
            rw [h1]
            exact ⟨⟨_, Seen.drew (HS.out.1.store true)⟩, grown_trans (grown_trans HS.out.2.1 (grown_setCell wr ⟨rb, 4, none⟩ _) (.inr rfl) (.inr rfl)) (grown_drewN _ 1) (.inr rfl) (.inl rfl)⟩
          rw [hb] at x4
          clear HS hb hO HR HKR
          go_wp2_with fail
          go_region
          all_goals
            go_wp2
            go_end0
            exact ⟨rfl, HF.out.1, HF.out.2⟩
      · have hO : Hid (scBody p fn (scBlk p fn) ⟨15, mx, nx, ks⟩ th = (A && scHas th nx, th)) := by show _ = _; unfold scBody; rw [if_neg (by simp), if_pos (by simp)]; show (scVal p fn th (ks.getD 0 0).toNat && scHas th nx, th) = _; rw [hA.out]
        have x3 := cell_at HS.out.1.at_ 3
        have x4 := cell_at HS.out.1.at_ 4
        have f4 := free_at HS.out.1.at_ 4
        have y0 := cell_at HS.out.2.2 0
        have y2 := cell_at HS.out.2.2 2
        simp at x3 x4 y0 y2
        cases hb : b1
        · have cH : Hid (∀ W, Below wr.heap.size wr W → Calls Tryz.prog 51 #[.slice ta tn tc, .string nx] W fun e w' => e = .returned (.bool (scHas th nx)) ∧ w' = W) := fun W hW => l07Has_any (rb + 1) _ th nx W (HS.out.1.own.below hW) (by omega)
          cases hh : scHas th nx
          · rw [hh] at cH
            have HF : Hid ((∃ tv', Seen ((wr.setCell ⟨rb, 4, none⟩ (.bool true)).drew) rb (.slice (some ⟨b, off, none⟩) N nc) (.slice fa F fcap) fn tv' (scBody p fn (scBlk p fn) ⟨15, mx, nx, ks⟩ th).2 (bad || !(scBody p fn (scBlk p fn) ⟨15, mx, nx, ks⟩ th).1)) ∧ w.grownBy ((wr.setCell ⟨rb, 4, none⟩ (.bool true)).drew) (some rb)) := by
              have h1 : (bad || !(A && scHas th nx)) = true := by
                have h2 := hB1.out
                rw [hb] at h2
                rw [hh]
                revert h2
                cases bad <;> cases A <;> simp
              rw [hO.out]
              simp only
              rw [h1]
              exact ⟨⟨_, Seen.drew (HS.out.1.store true)⟩, grown_trans (grown_trans HS.out.2.1 (grown_setCell wr ⟨rb, 4, none⟩ _) (.inr rfl) (.inr rfl)) (grown_drewN _ 1) (.inr rfl) (.inl rfl)⟩
            rw [hb] at x4
            clear HS hb hh hO HR HKR
            go_wp2_with fail
            go_region_with (go_at_call 51; refine Calls.mono (cH.out _ (by go_grown)) ?_; rintro e w1 ⟨rfl, rfl⟩)
            all_goals
              go_wp2
              go_end0
              exact ⟨rfl, HF.out.1, HF.out.2⟩
          · rw [hh] at cH
            have HF : Hid ((∃ tv', Seen ((wr.setCell ⟨rb, 4, none⟩ (.bool false)).drew) rb (.slice (some ⟨b, off, none⟩) N nc) (.slice fa F fcap) fn tv' (scBody p fn (scBlk p fn) ⟨15, mx, nx, ks⟩ th).2 (bad || !(scBody p fn (scBlk p fn) ⟨15, mx, nx, ks⟩ th).1)) ∧ w.grownBy ((wr.setCell ⟨rb, 4, none⟩ (.bool false)).drew) (some rb)) := by
              have h1 : (bad || !(A && scHas th nx)) = false := by
                have h2 := hB1.out
                rw [hb] at h2
                rw [hh]
                revert h2
                cases bad <;> cases A <;> simp
              rw [hO.out]
              simp only
              rw [h1]
              exact ⟨⟨_, Seen.drew (HS.out.1.store false)⟩, grown_trans (grown_trans HS.out.2.1 (grown_setCell wr ⟨rb, 4, none⟩ _) (.inr rfl) (.inr rfl)) (grown_drewN _ 1) (.inr rfl) (.inl rfl)⟩
            rw [hb] at x4
            clear HS hb hh hO HR HKR
            go_wp2_with fail
            go_region_with (go_at_call 51; refine Calls.mono (cH.out _ (by go_grown)) ?_; rintro e w1 ⟨rfl, rfl⟩)
            all_goals
              go_wp2
              go_end0
              exact ⟨rfl, HF.out.1, HF.out.2⟩
        · have HF : Hid ((∃ tv', Seen ((wr.setCell ⟨rb, 4, none⟩ (.bool true)).drew) rb (.slice (some ⟨b, off, none⟩) N nc) (.slice fa F fcap) fn tv' (scBody p fn (scBlk p fn) ⟨15, mx, nx, ks⟩ th).2 (bad || !(scBody p fn (scBlk p fn) ⟨15, mx, nx, ks⟩ th).1)) ∧ w.grownBy ((wr.setCell ⟨rb, 4, none⟩ (.bool true)).drew) (some rb)) := by
            have h1 : (bad || !(A && scHas th nx)) = true := by
              have h2 := hB1.out
              rw [hb] at h2
              skip
              revert h2
              cases bad <;> cases A <;> simp
            rw [hO.out]
            simp only
            rw [h1]
            exact ⟨⟨_, Seen.drew (HS.out.1.store true)⟩, grown_trans (grown_trans HS.out.2.1 (grown_setCell wr ⟨rb, 4, none⟩ _) (.inr rfl) (.inr rfl)) (grown_drewN _ 1) (.inr rfl) (.inl rfl)⟩
          rw [hb] at x4
          clear HS hb hO HR HKR
          go_wp2_with fail
          go_region
          all_goals
            go_wp2
            go_end0
            exact ⟨rfl, HF.out.1, HF.out.2⟩
      · have hO : Hid (scBody p fn (scBlk p fn) ⟨16, mx, nx, ks⟩ th = (A && (ks.drop 1).all (fun c => (scBlk p fn c.toNat th).1), th)) := by show _ = _; unfold scBody; rw [if_neg (by simp), if_neg (by simp), if_pos (by simp)]; show (scVal p fn th (ks.getD 0 0).toNat && (ks.drop 1).all (fun c => (scBlk p fn c.toNat th).1), th) = _; rw [hA.out]
        have y0 := cell_at HS.out.2.2 0
        simp at y0
        have hrr := HS.out.1.lt
        have hcw : w.heap.size ≠ rb := by omega
        have hK3 : K ≤ 3 := by have := HK.out; first | (have := h16 rfl; omega) | (have := h17 rfl; omega)
        have HS1 : Hid ((Seen wr rb (.slice (some ⟨b, off, none⟩) N nc) (.slice fa F fcap) fn (.slice ta tn tc) th (b1 || !((ks.take 1).drop 1).all (fun c => (scBlk p fn c.toNat th).1))) ∧ w.grownBy wr (some rb) ∧ wr.heap[w.heap.size]? = some (.cells #[.int .i64 16, .int .i64 mx, .string nx, .slice (some ⟨kb, ko, none⟩) K kc] 67)) := by
          refine ⟨?_, HS.out.2.1, HS.out.2.2⟩
          have : (ks.take 1).drop 1 = [] := by
            apply List.eq_nil_of_length_eq_zero
            simp
          rw [this]
          simpa using HS.out.1
        clear HS hBr
        go_wp2_with fail
        go_loopw [5] (fun i wr => ∃ t : Nat, 1 ≤ t ∧ t ≤ K ∧ i = .int .i64 (t : Int) ∧ Hid ((Seen wr rb (.slice (some ⟨b, off, none⟩) N nc) (.slice fa F fcap) fn (.slice ta tn tc) th (b1 || !((ks.take t).drop 1).all (fun c => (scBlk p fn c.toNat th).1))) ∧ w.grownBy wr (some rb) ∧ wr.heap[w.heap.size]? = some (.cells #[.int .i64 16, .int .i64 mx, .string nx, .slice (some ⟨kb, ko, none⟩) K kc] 67))) (fun i _ => K - (intOf i).toNat)
        case atStart => exact ⟨1, by omega, by omega, by go_num, HS1.out⟩
        case round =>
          obtain ⟨t, ht1, ht, rfl, HS⟩ := hrel
          clear HS1
          have y3 := cell_at HS.out.2.2 3
          have x3 := cell_at HS.out.1.at_ 3
          simp at y3 x3
          have hBr : Below rb w wr := below_of_grown HS.out.2.1 (Nat.le_refl _) (by omega)
          by_cases hlt : t < K
          · have hT0 : (0 : Int) ≤ (t : Int) := by omega
            have hT1 : (t : Int) < (K : Int) := by omega
            have htl : t < ks.length := by have := HK.out; omega
            obtain ⟨kb2, ko2, he, hkb2, e0⟩ := HKR.out.at t htl
            cases he
            have f0 := (hBr.cell (p := ⟨kb, ko + t, none⟩) hkb2).trans e0
            have hcc := hDK.out ks[t] (List.getElem_mem htl)
            have h20 := hBK.out t ht1 htl
            obtain ⟨c, hc⟩ : ∃ c : Nat, Hid (ks[t] = (c : Int)) := ⟨ks[t].toNat, (by show _ = _; omega)⟩
            have hgt : ks.getD t 0 = (c : Int) := by rw [← hc.out]; simp [List.getD, htl]
            rw [hgt, Int.toNat_natCast] at h20
            rw [hc.out] at f0 hcc
            have hX : Hid (((ks.take (t + 1)).drop 1).all (fun c => (scBlk p fn c.toNat th).1) = (((ks.take t).drop 1).all (fun c => (scBlk p fn c.toNat th).1) && (scBlk p fn c th).1)) := by
              show _ = _
              rw [List.take_succ_eq_append_getElem htl, List.drop_append_of_le_length (by rw [List.length_take]; omega), List.all_append, hc.out]
              simp
            obtain ⟨b0, hb0⟩ : ∃ b0, Hid ((b1 || !((ks.take t).drop 1).all (fun c => (scBlk p fn c.toNat th).1)) = b0) := ⟨_, (rfl : (b1 || !((ks.take t).drop 1).all (fun c => (scBlk p fn c.toNat th).1)) = _)⟩
            have cB : Hid (Calls Tryz.prog 21 #[.pointer (some ⟨rb, 0, none⟩), .int .i64 (c : Int)] wr fun e w' => e = .returned (.tuple #[]) ∧ (∃ tv', Seen w' rb (.slice (some ⟨b, off, none⟩) N nc) (.slice fa F fcap) fn tv' (scBlk p fn c th).2 (b0 || !(scBlk p fn c th).1)) ∧ wr.grownBy w' (some rb)) := by
              have h1 := HS.out.1
              rw [hb0.out] at h1
              exact (IH.out c (by omega)).2 h20 wr b0 _ th (by omega) (HR.out.1.keep hBr) (HR.out.2.keep hBr) h1
            clear e0 hcc h20 hgt
            go_wp2_with fail
            go_at_call 21
            refine Calls.mono cB.out ?_
            rintro e w1 ⟨rfl, ⟨tv1, hs1⟩, hg1⟩
            have hs2 : Seen (w1.setCell ⟨rb, 3, none⟩ (.slice ta tn tc)) rb (.slice (some ⟨b, off, none⟩) N nc) (.slice fa F fcap) fn (.slice ta tn tc) th (b1 || !((ks.take (t + 1)).drop 1).all (fun c => (scBlk p fn c.toNat th).1)) := by
              have ho1 : OwnsS w1 (rb + 1) 9 (.slice ta tn tc) th := OwnsS.kept HS.out.1.own hg1 (own_ne HS.out.1.own (by omega))
              have h2 : (b1 || !((ks.take (t + 1)).drop 1).all (fun c => (scBlk p fn c.toNat th).1)) = (b0 || !(scBlk p fn c th).1) := by
                rw [hX.out, ← hb0.out]
                generalize ((ks.take t).drop 1).all (fun c => (scBlk p fn c.toNat th).1) = u
                generalize (scBlk p fn c th).1 = v
                cases b1 <;> cases u <;> cases v <;> rfl
              rw [h2]
              exact hs1.setTv (World.grownBy.refl _ _) ho1
            have HS1 : Hid ((Seen (w1.setCell ⟨rb, 3, none⟩ (.slice ta tn tc)) rb (.slice (some ⟨b, off, none⟩) N nc) (.slice fa F fcap) fn (.slice ta tn tc) th (b1 || !((ks.take (t + 1)).drop 1).all (fun c => (scBlk p fn c.toNat th).1))) ∧ w.grownBy (w1.setCell ⟨rb, 3, none⟩ (.slice ta tn tc)) (some rb) ∧ (w1.setCell ⟨rb, 3, none⟩ (.slice ta tn tc)).heap[w.heap.size]? = some (.cells #[.int .i64 16, .int .i64 mx, .string nx, .slice (some ⟨kb, ko, none⟩) K kc] 67)) := by
              have hcl : w.heap.size < wr.heap.size := by
                rcases Nat.lt_or_ge w.heap.size wr.heap.size with h' | h'
                · exact h'
                · have := HS.out.2.2
                  simp [Array.getElem?_eq_none h'] at this
              refine ⟨hs2, grown_trans HS.out.2.1 (grown_trans hg1 (grown_setCell w1 ⟨rb, 3, none⟩ _) (.inr rfl) (.inr rfl)) (.inr rfl) (.inr rfl), ?_⟩
              exact (kept_set hcw).trans ((hg1.block _ hcl (fun e => hcw (by simpa using e))).trans HS.out.2.2)
            have x3' := cell_at hs1.at_ 3
            have f3' := free_at hs1.at_ 3
            simp at x3'
            clear cB hs1 hs2 hg1 HS f0 y3 x3 hBr
            go_wp2
            go_roundw
            case rel => exact ⟨t + 1, by omega, by omega, by go_num, HS1⟩
            case measure => simp [intOf]; omega
          · have HF : Hid ((∃ tv', Seen wr rb (.slice (some ⟨b, off, none⟩) N nc) (.slice fa F fcap) fn tv' (scBody p fn (scBlk p fn) ⟨16, mx, nx, ks⟩ th).2 (bad || !(scBody p fn (scBlk p fn) ⟨16, mx, nx, ks⟩ th).1)) ∧ w.grownBy wr (some rb)) := by
              have h1 := HS.out.1
              rw [List.take_of_length_le (by have := HK.out; omega), ← hB1.out] at h1
              rw [hO.out]
              simp only
              have h2 : (bad || !(A && (ks.drop 1).all (fun c => (scBlk p fn c.toNat th).1))) = ((bad || !A) || !(ks.drop 1).all (fun c => (scBlk p fn c.toNat th).1)) := by
                generalize (ks.drop 1).all (fun c => (scBlk p fn c.toNat th).1) = u
                cases bad <;> cases A <;> cases u <;> rfl
              rw [h2]
              exact ⟨⟨_, h1⟩, HS.out.2.1⟩
            clear HS hBr x3
            go_wp2
            go_end0
            exact ⟨rfl, HF.out.1, HF.out.2⟩
      · have hO : Hid (scBody p fn (scBlk p fn) ⟨17, mx, nx, ks⟩ th = (A && (ks.drop 1).all (fun c => (scBlk p fn c.toNat th).1), th)) := by show _ = _; unfold scBody; rw [if_neg (by simp), if_neg (by simp), if_pos (by simp)]; show (scVal p fn th (ks.getD 0 0).toNat && (ks.drop 1).all (fun c => (scBlk p fn c.toNat th).1), th) = _; rw [hA.out]
        have y0 := cell_at HS.out.2.2 0
        simp at y0
        have hrr := HS.out.1.lt
        have hcw : w.heap.size ≠ rb := by omega
        have hK3 : K ≤ 3 := by have := HK.out; first | (have := h16 rfl; omega) | (have := h17 rfl; omega)
        have HS1 : Hid ((Seen wr rb (.slice (some ⟨b, off, none⟩) N nc) (.slice fa F fcap) fn (.slice ta tn tc) th (b1 || !((ks.take 1).drop 1).all (fun c => (scBlk p fn c.toNat th).1))) ∧ w.grownBy wr (some rb) ∧ wr.heap[w.heap.size]? = some (.cells #[.int .i64 17, .int .i64 mx, .string nx, .slice (some ⟨kb, ko, none⟩) K kc] 67)) := by
          refine ⟨?_, HS.out.2.1, HS.out.2.2⟩
          have : (ks.take 1).drop 1 = [] := by
            apply List.eq_nil_of_length_eq_zero
            simp
          rw [this]
          simpa using HS.out.1
        clear HS hBr
        go_wp2_with fail
        go_loopw [5] (fun i wr => ∃ t : Nat, 1 ≤ t ∧ t ≤ K ∧ i = .int .i64 (t : Int) ∧ Hid ((Seen wr rb (.slice (some ⟨b, off, none⟩) N nc) (.slice fa F fcap) fn (.slice ta tn tc) th (b1 || !((ks.take t).drop 1).all (fun c => (scBlk p fn c.toNat th).1))) ∧ w.grownBy wr (some rb) ∧ wr.heap[w.heap.size]? = some (.cells #[.int .i64 17, .int .i64 mx, .string nx, .slice (some ⟨kb, ko, none⟩) K kc] 67))) (fun i _ => K - (intOf i).toNat)
        case atStart => exact ⟨1, by omega, by omega, by go_num, HS1.out⟩
        case round =>
          obtain ⟨t, ht1, ht, rfl, HS⟩ := hrel
          clear HS1
          have y3 := cell_at HS.out.2.2 3
          have x3 := cell_at HS.out.1.at_ 3
          simp at y3 x3
          have hBr : Below rb w wr := below_of_grown HS.out.2.1 (Nat.le_refl _) (by omega)
          by_cases hlt : t < K
          · have hT0 : (0 : Int) ≤ (t : Int) := by omega
            have hT1 : (t : Int) < (K : Int) := by omega
            have htl : t < ks.length := by have := HK.out; omega
            obtain ⟨kb2, ko2, he, hkb2, e0⟩ := HKR.out.at t htl
            cases he
            have f0 := (hBr.cell (p := ⟨kb, ko + t, none⟩) hkb2).trans e0
            have hcc := hDK.out ks[t] (List.getElem_mem htl)
            have h20 := hBK.out t ht1 htl
            obtain ⟨c, hc⟩ : ∃ c : Nat, Hid (ks[t] = (c : Int)) := ⟨ks[t].toNat, (by show _ = _; omega)⟩
            have hgt : ks.getD t 0 = (c : Int) := by rw [← hc.out]; simp [List.getD, htl]
            rw [hgt, Int.toNat_natCast] at h20
            rw [hc.out] at f0 hcc
            have hX : Hid (((ks.take (t + 1)).drop 1).all (fun c => (scBlk p fn c.toNat th).1) = (((ks.take t).drop 1).all (fun c => (scBlk p fn c.toNat th).1) && (scBlk p fn c th).1)) := by
              show _ = _
              rw [List.take_succ_eq_append_getElem htl, List.drop_append_of_le_length (by rw [List.length_take]; omega), List.all_append, hc.out]
              simp
            obtain ⟨b0, hb0⟩ : ∃ b0, Hid ((b1 || !((ks.take t).drop 1).all (fun c => (scBlk p fn c.toNat th).1)) = b0) := ⟨_, (rfl : (b1 || !((ks.take t).drop 1).all (fun c => (scBlk p fn c.toNat th).1)) = _)⟩
            have cB : Hid (Calls Tryz.prog 21 #[.pointer (some ⟨rb, 0, none⟩), .int .i64 (c : Int)] wr fun e w' => e = .returned (.tuple #[]) ∧ (∃ tv', Seen w' rb (.slice (some ⟨b, off, none⟩) N nc) (.slice fa F fcap) fn tv' (scBlk p fn c th).2 (b0 || !(scBlk p fn c th).1)) ∧ wr.grownBy w' (some rb)) := by
              have h1 := HS.out.1
              rw [hb0.out] at h1
              exact (IH.out c (by omega)).2 h20 wr b0 _ th (by omega) (HR.out.1.keep hBr) (HR.out.2.keep hBr) h1
            clear e0 hcc h20 hgt
            go_wp2_with fail
            go_at_call 21
            refine Calls.mono cB.out ?_
            rintro e w1 ⟨rfl, ⟨tv1, hs1⟩, hg1⟩
            have hs2 : Seen (w1.setCell ⟨rb, 3, none⟩ (.slice ta tn tc)) rb (.slice (some ⟨b, off, none⟩) N nc) (.slice fa F fcap) fn (.slice ta tn tc) th (b1 || !((ks.take (t + 1)).drop 1).all (fun c => (scBlk p fn c.toNat th).1)) := by
              have ho1 : OwnsS w1 (rb + 1) 9 (.slice ta tn tc) th := OwnsS.kept HS.out.1.own hg1 (own_ne HS.out.1.own (by omega))
              have h2 : (b1 || !((ks.take (t + 1)).drop 1).all (fun c => (scBlk p fn c.toNat th).1)) = (b0 || !(scBlk p fn c th).1) := by
                rw [hX.out, ← hb0.out]
                generalize ((ks.take t).drop 1).all (fun c => (scBlk p fn c.toNat th).1) = u
                generalize (scBlk p fn c th).1 = v
                cases b1 <;> cases u <;> cases v <;> rfl
              rw [h2]
              exact hs1.setTv (World.grownBy.refl _ _) ho1
            have HS1 : Hid ((Seen (w1.setCell ⟨rb, 3, none⟩ (.slice ta tn tc)) rb (.slice (some ⟨b, off, none⟩) N nc) (.slice fa F fcap) fn (.slice ta tn tc) th (b1 || !((ks.take (t + 1)).drop 1).all (fun c => (scBlk p fn c.toNat th).1))) ∧ w.grownBy (w1.setCell ⟨rb, 3, none⟩ (.slice ta tn tc)) (some rb) ∧ (w1.setCell ⟨rb, 3, none⟩ (.slice ta tn tc)).heap[w.heap.size]? = some (.cells #[.int .i64 17, .int .i64 mx, .string nx, .slice (some ⟨kb, ko, none⟩) K kc] 67)) := by
              have hcl : w.heap.size < wr.heap.size := by
                rcases Nat.lt_or_ge w.heap.size wr.heap.size with h' | h'
                · exact h'
                · have := HS.out.2.2
                  simp [Array.getElem?_eq_none h'] at this
              refine ⟨hs2, grown_trans HS.out.2.1 (grown_trans hg1 (grown_setCell w1 ⟨rb, 3, none⟩ _) (.inr rfl) (.inr rfl)) (.inr rfl) (.inr rfl), ?_⟩
              exact (kept_set hcw).trans ((hg1.block _ hcl (fun e => hcw (by simpa using e))).trans HS.out.2.2)
            have x3' := cell_at hs1.at_ 3
            have f3' := free_at hs1.at_ 3
            simp at x3'
            clear cB hs1 hs2 hg1 HS f0 y3 x3 hBr
            go_wp2
            go_roundw
            case rel => exact ⟨t + 1, by omega, by omega, by go_num, HS1⟩
            case measure => simp [intOf]; omega
          · have HF : Hid ((∃ tv', Seen wr rb (.slice (some ⟨b, off, none⟩) N nc) (.slice fa F fcap) fn tv' (scBody p fn (scBlk p fn) ⟨17, mx, nx, ks⟩ th).2 (bad || !(scBody p fn (scBlk p fn) ⟨17, mx, nx, ks⟩ th).1)) ∧ w.grownBy wr (some rb)) := by
              have h1 := HS.out.1
              rw [List.take_of_length_le (by have := HK.out; omega), ← hB1.out] at h1
              rw [hO.out]
              simp only
              have h2 : (bad || !(A && (ks.drop 1).all (fun c => (scBlk p fn c.toNat th).1))) = ((bad || !A) || !(ks.drop 1).all (fun c => (scBlk p fn c.toNat th).1)) := by
                generalize (ks.drop 1).all (fun c => (scBlk p fn c.toNat th).1) = u
                cases bad <;> cases A <;> cases u <;> rfl
              rw [h2]
              exact ⟨⟨_, h1⟩, HS.out.2.1⟩
            clear HS hBr x3
            go_wp2
            go_end0
            exact ⟨rfl, HF.out.1, HF.out.2⟩
      · have hO : Hid (scBody p fn (scBlk p fn) ⟨18, mx, nx, ks⟩ th = (A, th)) := by show _ = _; unfold scBody; rw [if_neg (by simp), if_neg (by simp), if_neg (by simp)]; show (scVal p fn th (ks.getD 0 0).toNat, th) = _; rw [hA.out]
        have y0 := cell_at HS.out.2.2 0
        simp at y0
        have HF : Hid ((∃ tv', Seen wr rb (.slice (some ⟨b, off, none⟩) N nc) (.slice fa F fcap) fn tv' (scBody p fn (scBlk p fn) ⟨18, mx, nx, ks⟩ th).2 (bad || !(scBody p fn (scBlk p fn) ⟨18, mx, nx, ks⟩ th).1)) ∧ w.grownBy wr (some rb)) := by
          rw [hO.out]
          simp only
          rw [hB1.out]
          exact ⟨⟨_, HS.out.1⟩, HS.out.2.1⟩
        clear HS hO
        go_wp2
        go_end0
        exact ⟨rfl, HF.out.1, HF.out.2⟩
      · have hO : Hid (scBody p fn (scBlk p fn) ⟨19, mx, nx, ks⟩ th = (A, th)) := by show _ = _; unfold scBody; rw [if_neg (by simp), if_neg (by simp), if_neg (by simp)]; show (scVal p fn th (ks.getD 0 0).toNat, th) = _; rw [hA.out]
        have y0 := cell_at HS.out.2.2 0
        simp at y0
        have HF : Hid ((∃ tv', Seen wr rb (.slice (some ⟨b, off, none⟩) N nc) (.slice fa F fcap) fn tv' (scBody p fn (scBlk p fn) ⟨19, mx, nx, ks⟩ th).2 (bad || !(scBody p fn (scBlk p fn) ⟨19, mx, nx, ks⟩ th).1)) ∧ w.grownBy wr (some rb)) := by
          rw [hO.out]
          simp only
          rw [hB1.out]
          exact ⟨⟨_, HS.out.1⟩, HS.out.2.1⟩
        clear HS hO
        go_wp2
        go_end0
        exact ⟨rfl, HF.out.1, HF.out.2⟩
    · intro hv w bad tv th hth hR hRF hS
      have hKB := blk_kids hok hv
      have hDK : Hid (∀ c ∈ (p.nodes.getD k nd0).kids, 0 ≤ c ∧ c < (k : Int) ∧ (deepOf p.nodes c).toNat + 1 ≤ (deepOf p.nodes (k : Int)).toNat ∧ isStm (p.nodes.getD c.toNat nd0).kind = true) := fun c hc => by
        have h1 := deep_kid (m := p.nodes.length - 1) (by omega) hl.2.2 (k := k) (by omega) hc
        have h2 := HA k (by omega) c hc
        exact ⟨h2.1, h2.2, by omega, hKB.2 c hc⟩
      have hE : scBlk p fn k th = scFold (scStep p fn) (p.nodes.getD k nd0).kids th := rfl
      rw [hE]
      have h12 := hKB.1
      rw [hgd] at hDK h12 ⊢
      obtain ⟨b, off, ka, kc, rfl, hb, n0, n1, n2, n3, hKR⟩ := RowNd.at hR k hkl
      obtain ⟨ks, hks⟩ : ∃ ks, Hid (p.nodes[k].kids = ks) := ⟨_, (rfl : p.nodes[k].kids = p.nodes[k].kids)⟩
      rw [hks.out] at n3 hKR hDK h12 ⊢
      obtain ⟨K, HK⟩ : ∃ K, Hid (ks.length = K) := ⟨_, (rfl : ks.length = ks.length)⟩
      rw [HK.out] at n3 hKR h12
      have HKR : Hid (RowI w rb (.slice ka K kc) ks) := hKR
      have HN3 : Hid (w.cell? ⟨b, off + k * 4 + 3, none⟩ = some (.slice ka K kc)) := n3
      have HR : Hid (NdR.Row w rb (.slice (some ⟨b, off, none⟩) N nc) p.nodes ∧ FcR.Row w rb (.slice fa F fcap) p.fns) := ⟨hR, hRF⟩
      have hrl := hS.lt
      have HS0 : Hid ((∃ tv', Seen w rb (.slice (some ⟨b, off, none⟩) N nc) (.slice fa F fcap) fn tv' (scFold (scStep p fn) (ks.take 0) th).2 (bad || !(scFold (scStep p fn) (ks.take 0) th).1)) ∧ w.grownBy w (some rb)) := by
        refine ⟨⟨tv, ?_⟩, World.grownBy.refl _ _⟩
        simpa [scFold] using hS
      clear hR hRF hKR hE hgd hok hS hv hKB n0 n1 n2 n3
      go_enter Tryz.func21, Tryz.ntmps21
      go_wp2
      go_loopw [4] (fun i wr => ∃ t : Nat, t ≤ K ∧ i = .int .i64 (t : Int) ∧ Hid ((∃ tv', Seen wr rb (.slice (some ⟨b, off, none⟩) N nc) (.slice fa F fcap) fn tv' (scFold (scStep p fn) (ks.take t) th).2 (bad || !(scFold (scStep p fn) (ks.take t) th).1)) ∧ w.grownBy wr (some rb))) (fun i _ => K - (intOf i).toNat)
      case atStart => exact ⟨0, Nat.zero_le _, rfl, HS0.out⟩
      case round =>
        obtain ⟨t, ht, rfl, HS⟩ := hrel
        clear HS0
        obtain ⟨⟨tv1, hs0⟩, hg0⟩ := HS.out
        have HT : Hid (Seen wr rb (.slice (some ⟨b, off, none⟩) N nc) (.slice fa F fcap) fn tv1 (scFold (scStep p fn) (ks.take t) th).2 (bad || !(scFold (scStep p fn) (ks.take t) th).1) ∧ w.grownBy wr (some rb)) := ⟨hs0, hg0⟩
        have x0 := cell_at hs0.at_ 0
        simp at x0
        have hBr : Below rb w wr := below_of_grown hg0 (Nat.le_refl _) (by omega)
        have d3 := (hBr.cell (p := ⟨b, off + k * 4 + 3, none⟩) hb).trans HN3.out
        clear hs0 hg0
        by_cases hlt : t < K
        · have hT0 : (0 : Int) ≤ (t : Int) := by omega
          have hT1 : (t : Int) < (K : Int) := by omega
          have htl : t < ks.length := by have := HK.out; omega
          obtain ⟨kb, ko, rfl, hkb, e0⟩ := HKR.out.at t htl
          have f0 := (hBr.cell (p := ⟨kb, ko + t, none⟩) hkb).trans e0
          have hcc := hDK.out ks[t] (List.getElem_mem htl)
          obtain ⟨c, hc⟩ : ∃ c : Nat, Hid (ks[t] = (c : Int)) := ⟨ks[t].toNat, (by show _ = _; omega)⟩
          rw [hc.out] at f0 hcc
          rw [Int.toNat_natCast] at hcc
          obtain ⟨th0, hth0⟩ : ∃ q, Hid ((scFold (scStep p fn) (ks.take t) th).2 = q) := ⟨_, (rfl : (scFold (scStep p fn) (ks.take t) th).2 = _)⟩
          obtain ⟨b0, hb0⟩ : ∃ q, Hid ((bad || !(scFold (scStep p fn) (ks.take t) th).1) = q) := ⟨_, (rfl : (bad || !(scFold (scStep p fn) (ks.take t) th).1) = _)⟩
          have hlen : th0.length ≤ th.length + 12 := by
            rw [← hth0.out]
            have h1 := scFold_len p fn (ks.take t) th
            rw [List.length_take] at h1
            omega
          have cB : Hid (Calls Tryz.prog 50 #[.pointer (some ⟨rb, 0, none⟩), .int .i64 (c : Int)] wr fun e w' => e = .returned (.tuple #[]) ∧ (∃ tv', Seen w' rb (.slice (some ⟨b, off, none⟩) N nc) (.slice fa F fcap) fn tv' (scStep p fn c th0).2 (b0 || !(scStep p fn c th0).1)) ∧ wr.grownBy w' (some rb)) := by
            have h1 := HT.out.1
            rw [hth0.out, hb0.out] at h1
            exact (IH.out c (by omega)).1 hcc.2.2.2 wr b0 _ th0 (by omega) (HR.out.1.keep hBr) (HR.out.2.keep hBr) h1
          have hX : Hid ((scFold (scStep p fn) (ks.take (t + 1)) th) = ((scFold (scStep p fn) (ks.take t) th).1 && (scStep p fn c th0).1, (scStep p fn c th0).2)) := by
            show _ = _
            rw [List.take_succ_eq_append_getElem htl, scFold_snoc, hc.out, Int.toNat_natCast, hth0.out]
          clear e0 hcc HS
          go_wp2_with fail
          go_at_call 50
          refine Calls.mono cB.out ?_
          rintro e w1 ⟨rfl, ⟨tv2, hs1⟩, hg1⟩
          have HS1 : Hid ((∃ tv', Seen w1 rb (.slice (some ⟨b, off, none⟩) N nc) (.slice fa F fcap) fn tv' (scFold (scStep p fn) (ks.take (t + 1)) th).2 (bad || !(scFold (scStep p fn) (ks.take (t + 1)) th).1)) ∧ w.grownBy w1 (some rb)) := by
            refine ⟨⟨tv2, ?_⟩, grown_trans HT.out.2 hg1 (.inr rfl) (.inr rfl)⟩
            rw [hX.out]
            simp only
            have h2 : (bad || !((scFold (scStep p fn) (ks.take t) th).1 && (scStep p fn c th0).1)) = (b0 || !(scStep p fn c th0).1) := by
              rw [← hb0.out]
              generalize (scFold (scStep p fn) (ks.take t) th).1 = u
              generalize (scStep p fn c th0).1 = v
              cases bad <;> cases u <;> cases v <;> rfl
            rw [h2]
            exact hs1
          clear cB hs1 hg1 HT f0 x0 d3 hBr
          go_wp2
          go_roundw
          case rel => exact ⟨t + 1, by omega, by go_num, HS1⟩
          case measure => simp [intOf]; omega
        · have HF : Hid ((∃ tv', Seen wr rb (.slice (some ⟨b, off, none⟩) N nc) (.slice fa F fcap) fn tv' (scFold (scStep p fn) ks th).2 (bad || !(scFold (scStep p fn) ks th).1)) ∧ w.grownBy wr (some rb)) := by
            have h1 := HT.out
            rw [List.take_of_length_le (by have := HK.out; omega)] at h1
            exact ⟨⟨_, h1.1⟩, h1.2⟩
          clear HS HT hBr
          go_wp2
          go_end0
          exact ⟨rfl, HF.out.1, HF.out.2⟩

end Go.Proofs.YtjafneaaefpefaaGreat

namespace Go.Proofs.YtjafneaaefpefaaGreat
open Go.RowKit

theorem ownsS_len {w : World} {B : Nat} {e : TypeId} {v : Value} {xs : List ByteArray} (h : OwnsS w B e v xs) (hx : xs ≠ []) : ∃ g cap, v = .slice (some ⟨g, 0, none⟩) xs.length cap := by
  rcases OwnsS.form h with ⟨_, h0⟩ | ⟨g, cap, h1, _⟩
  · exact absurd h0 hx
  · exact ⟨g, cap, h1⟩
theorem Box.grownS {w W W' : World} {o : Obj} (h : Box w o W) {own : Option Nat} (hg : W.grownBy W' own) (ho : ∀ q, own = some q → w.heap.size < q) : Box w o W' :=
  ⟨Below.grown h.b hg (by have := h.lt; omega) (fun q hq => by have := ho q hq; omega)⟩
theorem OwnsV.seen {w : World} {B : Nat} {v : Value} {xs : List Vr} (h : OwnsV w B v xs) : VrR.Row w w.heap.size v xs := ⟨xs, List.map_id _, OwnsR.read vrC_len h (fun g hg => (OwnsR.lt h g hg).2), fun _ _ => trivial⟩
theorem namesTo_false {p : Pg} {i n : Nat} (hi : i < n) (h : (onceB (varsOf p (i : Int)) && seenB p i) = false) : namesTo p n = false := by
  induction n with
  | zero => omega
  | succ n ih =>
    rcases Nat.lt_or_ge i n with h1 | h1
    · simp [namesTo, ih h1]
    · have : i = n := by omega
      subst this
      simp only [namesTo, h, Bool.and_false]
/-- What a right program says of one of its functions. -/
structure FnRight (p : Pg) (f : Fc) : Prop where
  few : f.params.length ≤ 3
  body : 0 ≤ f.body ∧ f.body < (p.nodes.length : Int)
  blk : (p.nodes.getD f.body.toNat nd0).kind = 20
  ret : f.ret = -1 ∨ (0 ≤ f.ret ∧ f.ret < (p.nodes.length : Int) ∧ isVal (p.nodes.getD f.ret.toNat nd0).kind = true)
theorem fnRight {p : Pg} (h : programOk p = true) {i : Nat} (hi : i < p.fns.length) : FnRight p p.fns[i] := by
  unfold programOk at h
  simp only [Bool.and_eq_true] at h
  have h1 := fnsTo_at h.1.2 i hi
  have hg : p.fns.getD i ⟨ByteArray.empty, [], 0, 0, 0⟩ = p.fns[i] := by simp [List.getD, hi]
  rw [hg] at h1
  unfold fnOk at h1
  simp only [Bool.and_eq_true, decide_eq_true_eq] at h1
  obtain ⟨⟨_, h2, _⟩, h3⟩ := h1
  unfold endsOkB at h3
  simp only [Bool.and_eq_true, decide_eq_true_eq] at h3
  obtain ⟨⟨h4, h5⟩, h6⟩ := h3
  have h7 : 0 ≤ p.fns[i].body ∧ p.fns[i].body ≤ (p.nodes.length : Int) - 1 := by simpa [isIn] using h4
  refine ⟨h2, ⟨h7.1, by omega⟩, h5, ?_⟩
  split at h6
  · exact .inl (by simpa using h6)
  · split at h6
    · simp only [Bool.and_eq_true] at h6
      have h8 : 0 ≤ p.fns[i].ret ∧ p.fns[i].ret ≤ (p.nodes.length : Int) - 1 := by simpa [isIn] using h6.1
      exact .inr ⟨h8.1, by omega, h6.2⟩
    · cases h6

set_option maxRecDepth 100000 in
set_option maxHeartbeats 12800000 in
theorem specNamesRight_any (v0 v1 : Value) (p : Pg) (w : World) (hR : RowPg w w.heap.size v0 v1 p) (hl : szPg p ≤ 1048576) :
    Calls Tryz.prog 6 #[.agg #[v0, v1]] w fun e w' => e = .returned (.bool (namesRight p)) ∧ Below w.heap.size w w' := by
  obtain ⟨na, nc, rfl⟩ := hR.1.len
  obtain ⟨fa, fcap, rfl⟩ := hR.2.len
  obtain ⟨N, HN⟩ : ∃ N, Hid (p.nodes.length = N) := ⟨_, (rfl : p.nodes.length = p.nodes.length)⟩
  obtain ⟨F, HF⟩ : ∃ N, Hid (p.fns.length = N) := ⟨_, (rfl : p.fns.length = p.fns.length)⟩
  have HV : Hid (RowPg w w.heap.size (.slice na N nc) (.slice fa F fcap) p) := by rw [← HN.out, ← HF.out]; exact hR
  have HL : Hid (szPg p ≤ 1048576) := hl
  have hFl : F ≤ 1048576 := by have := len_szRow szFc p.fns; have := le_szPg_fns p; have := HF.out; omega
  rw [HN.out, HF.out]
  have cP : Hid (∀ W, Below w.heap.size w W → Calls Tryz.prog 18 #[.agg #[.slice na N nc, .slice fa F fcap]] W fun e w' => e = .returned (.bool (programOk p)) ∧ Below W.heap.size W w') := fun W hW => specProgramOk_any _ _ p W ((HV.out.keep hW).up hW.size) HL.out
  cases hp : programOk p
  · have HE : Hid (namesRight p = false) := by show _ = _; unfold namesRight; rw [hp]; rfl
    rw [HE.out]
    rw [hp] at cP
    clear hR hl hp
    go_enter Tryz.func6, Tryz.ntmps6
    go_wp2_with fail
    go_at_call 18
    refine Calls.mono (cP.out _ (by go_grown)) ?_
    rintro e w1 ⟨rfl, hb⟩
    have B1 : Hid (Box w (.cells #[.slice na N nc, .slice fa F fcap] 31) w1) := (Box.first _ _).next hb
    clear hb cP
    go_wp2
    go_ret
    exact ⟨rfl, B1.out.below⟩
  rw [hp] at cP
  have HE : Hid (namesRight p = namesTo p F) := by show _ = _; unfold namesRight; rw [hp, HF.out]; rfl
  rw [HE.out]
  have HP : Hid (programOk p = true) := hp
  have hpl := prog_last hp
  have hN3 : N ≤ 300 := by have := HN.out; omega
  clear hR hl
  go_enter Tryz.func6, Tryz.ntmps6
  go_wp2_with fail
  go_at_call 18
  refine Calls.mono (cP.out _ (by go_grown)) ?_
  rintro e w1 ⟨rfl, hb⟩
  have B1 : Hid (Box w (.cells #[.slice na N nc, .slice fa F fcap] 31) w1) := (Box.first _ _).next hb
  clear hb cP
  go_wp2_with fail
  go_loopw [3] (fun i wr => ∃ t : Nat, t ≤ F ∧ i = .int .i64 (t : Int) ∧ Hid (namesTo p t = true ∧ Box w (.cells #[.slice na N nc, .slice fa F fcap] 31) wr)) (fun i _ => F - (intOf i).toNat)
  case atStart => exact ⟨0, Nat.zero_le _, rfl, rfl, B1.out⟩
  case round =>
    obtain ⟨t, ht, rfl, HJ⟩ := hrel
    clear B1
    have x0 := HJ.out.2.cell 0
    have x1 := HJ.out.2.cell 1
    simp at x0 x1
    by_cases hlt : t < F
    rotate_left
    · have htF : t = F := by omega
      subst htF
      have HZ : Hid (namesTo p t = true ∧ Below w.heap.size w wr) := ⟨HJ.out.1, HJ.out.2.below⟩
      clear HJ
      go_wp2
      go_ret
      exact ⟨by rw [HZ.out.1]; rfl, HZ.out.2⟩
    have ht0 : (0 : Int) ≤ (t : Int) := by omega
    have ht1 : (t : Int) < (F : Int) := by omega
    have htf : t < p.fns.length := by have := HF.out; omega
    obtain ⟨vs, hvs⟩ : ∃ vs, Hid (varsOf p (t : Int) = vs) := ⟨_, (rfl : varsOf p (t : Int) = varsOf p (t : Int))⟩
    obtain ⟨X, HX⟩ : ∃ X, Hid (vs.length = X) := ⟨_, (rfl : vs.length = vs.length)⟩
    have cV : Hid (Calls Tryz.prog 19 #[.agg #[.slice na N nc, .slice fa F fcap], .int .i64 (t : Int)] wr fun e w' => (∃ g cap, e = .returned (.slice (some ⟨g, 0, none⟩) X cap) ∧ OwnsV w' wr.heap.size (.slice (some ⟨g, 0, none⟩) X cap) vs ∧ X ≤ 2097152) ∧ Below wr.heap.size wr w') := by
      have h1 := specVarsOf_any _ _ p (t : Int) wr ((HV.out.keep HJ.out.2.below).up HJ.out.2.below.size) HL.out
      rw [hvs.out, HX.out] at h1
      exact h1
    go_wp2_with fail
    go_at_call 19
    refine Calls.mono cV.out ?_
    rintro e w2 ⟨⟨gs, cs, rfl, hos, hxl⟩, hb2⟩
    have HW2 : Hid (Box w (.cells #[.slice na N nc, .slice fa F fcap] 31) w2 ∧ OwnsV w2 0 (.slice (some ⟨gs, 0, none⟩) X cs) vs) := ⟨HJ.out.2.next hb2, owns_base hos (Nat.zero_le _)⟩
    have HNT : Hid (namesTo p t = true) := HJ.out.1
    have hvl : vs.length ≤ 2097152 := by have := HX.out; omega
    clear hos hb2 cV x0 x1 HJ
    go_wp2_with fail
    go_loopw [5] (fun i wr => ∃ k : Nat, k ≤ X ∧ i = .int .i64 (k : Int) ∧ Hid ((∀ j, (hj : j < vs.length) → j < k → varAt vs vs[j].name = (j : Int)) ∧ Box w (.cells #[.slice na N nc, .slice fa F fcap] 31) wr ∧ OwnsV wr 0 (.slice (some ⟨gs, 0, none⟩) X cs) vs)) (fun i _ => X - (intOf i).toNat)
    case atStart => exact ⟨0, Nat.zero_le _, rfl, fun j _ hj => by omega, HW2.out.1, HW2.out.2⟩
    case round =>
      obtain ⟨k, hk, rfl, HQ⟩ := hrel
      clear HW2
      by_cases hkx : k < X
      · have hk0 : (0 : Int) ≤ (k : Int) := by omega
        have hk1 : (k : Int) < (X : Int) := by omega
        have hkl : k < vs.length := by have := HX.out; omega
        obtain ⟨vb, vo, he, hvb, c0, c1, c2⟩ := VrR.at HQ.out.2.2.seen k hkl
        cases he
        simp only [Nat.zero_add] at c0
        obtain ⟨nm, hnm⟩ : ∃ n, Hid (vs[k].name = n) := ⟨_, (rfl : vs[k].name = vs[k].name)⟩
        rw [hnm.out] at c0
        obtain ⟨z, hz⟩ : ∃ z, Hid (varAt vs nm = z) := ⟨_, (rfl : varAt vs nm = varAt vs nm)⟩
        have cA : Hid (Calls Tryz.prog 20 #[.slice (some ⟨gs, 0, none⟩) X cs, .string nm] wr fun e w' => e = .returned (.int .i64 z) ∧ Below wr.heap.size wr w') := by
          have h1 := specVarAt_any wr.heap.size _ vs nm wr (Nat.le_refl _) HQ.out.2.2.seen (by omega)
          rw [hz.out] at h1
          exact h1
        clear c1 c2
        go_wp2_with fail
        go_at_call 20
        refine Calls.mono cA.out ?_
        rintro e w3 ⟨rfl, hb3⟩
        have HQ3 : Hid (Box w (.cells #[.slice na N nc, .slice fa F fcap] 31) w3 ∧ OwnsV w3 0 (.slice (some ⟨gs, 0, none⟩) X cs) vs) := ⟨HQ.out.2.1.next hb3, OwnsR.below HQ.out.2.2 hb3⟩
        have HQ1 : Hid (∀ j, (hj : j < vs.length) → j < k → varAt vs vs[j].name = (j : Int)) := HQ.out.1
        clear hb3 cA c0 HQ
        by_cases hzk : z = (k : Int)
        · have HQ4 : Hid ((∀ j, (hj : j < vs.length) → j < k + 1 → varAt vs vs[j].name = (j : Int)) ∧ Box w (.cells #[.slice na N nc, .slice fa F fcap] 31) w3 ∧ OwnsV w3 0 (.slice (some ⟨gs, 0, none⟩) X cs) vs) := by
            refine ⟨fun j hj hjk => ?_, HQ3.out.1, HQ3.out.2⟩
            by_cases e : j = k
            · subst e
              rw [hnm.out, hz.out, hzk]
            · exact HQ1.out j hj (by omega)
          clear HQ3 HQ1
          subst hzk
          go_wp2
          go_roundw
          case rel => exact ⟨k + 1, by omega, by go_num, HQ4⟩
          case measure => simp [intOf]; omega
        · have HF2 : Hid (namesTo p F = false ∧ Below w.heap.size w w3) := by
            refine ⟨namesTo_false hlt ?_, HQ3.out.1.below⟩
            have h1 : onceB (varsOf p (t : Int)) = false := by
              rw [hvs.out]
              cases ho : onceB vs
              · rfl
              · exfalso
                unfold onceB at ho
                rw [List.all_eq_true] at ho
                have h2 := ho k (List.mem_range.mpr hkl)
                simp only [decide_eq_true_eq] at h2
                have h3 : vs.getD k ⟨ByteArray.empty, 0, 0⟩ = vs[k] := by simp [List.getD, hkl]
                rw [h3, hnm.out, hz.out] at h2
                exact hzk h2
            rw [h1]
            rfl
          have hzb : (z == (k : Int)) = false := by simpa using hzk
          clear HQ3 HQ1
          go_wp2
          go_ret
          exact ⟨by rw [HF2.out.1]; rfl, HF2.out.2⟩
      · have HOn : Hid (onceB (varsOf p (t : Int)) = true) := by
          show _ = _
          rw [hvs.out]
          unfold onceB
          rw [List.all_eq_true]
          intro j hj
          have hj' := List.mem_range.mp hj
          have h3 : vs.getD j ⟨ByteArray.empty, 0, 0⟩ = vs[j] := by simp [List.getD, hj']
          rw [h3]
          simpa using HQ.out.1 j hj' (by have := HX.out; omega)
        have HB : Hid (Box w (.cells #[.slice na N nc, .slice fa F fcap] 31) wr) := HQ.out.2.1
        clear HQ
        have hfr := fnRight HP.out htf
        obtain ⟨b, off, pv, rfl, hbw, c0, c1, c2, c3, c4, hPm⟩ := FcR.at HV.out.2 t htf
        have hseen : Hid (seenB p t = ((scBlk p (t : Int) p.fns[t].body.toNat (p.fns[t].params.map Pm.name)).1 && (decide (p.fns[t].ret < 0) || scVal p (t : Int) (scBlk p (t : Int) p.fns[t].body.toNat (p.fns[t].params.map Pm.name)).2 p.fns[t].ret.toNat))) := by
          show _ = _
          unfold seenB
          have : p.fns.getD t fc1 = p.fns[t] := by simp [List.getD, htf]
          simp only [this]
        obtain ⟨q, hq⟩ : ∃ q, Hid (p.fns[t] = q) := ⟨_, (rfl : p.fns[t] = p.fns[t])⟩
        rw [hq.out] at c0 c2 c3 c4 hPm hfr hseen
        obtain ⟨fnn, fp, fr, fb, ft⟩ := q
        obtain ⟨pa, pc, rfl⟩ := hPm.len
        have hfew := hfr.few
        have hbody := hfr.body
        have hblk := hfr.blk
        have hret := hfr.ret
        simp only at c0 c1 c2 c3 c4 hPm hfew hbody hblk hret hseen
        obtain ⟨K, HK⟩ : ∃ K, Hid (fp.length = K) := ⟨_, (rfl : fp.length = fp.length)⟩
        rw [HK.out] at c1 hPm hfew
        have HPm : Hid (PmR.Row w w.heap.size (.slice pa K pc) fp) := hPm
        obtain ⟨bd, rfl⟩ : ∃ bd : Nat, fb = (bd : Int) := ⟨fb.toNat, by omega⟩
        rw [Int.toNat_natCast] at hblk hseen
        have HC : Hid (w.cell? ⟨b, off + t * 5 + 1, none⟩ = some (.slice pa K pc) ∧ w.cell? ⟨b, off + t * 5 + 3, none⟩ = some (.int .i64 (bd : Int)) ∧ w.cell? ⟨b, off + t * 5 + 4, none⟩ = some (.int .i64 ft)) := ⟨c1, c3, c4⟩
        have x0 := HB.out.cell 0
        have x1 := HB.out.cell 1
        simp at x0 x1
        have hwr := HB.out.lt
        obtain ⟨rb, hrb⟩ : ∃ rb, wr.heap.size = rb := ⟨_, rfl⟩
        have HS0 : Hid ((∃ tv, Seen (wr.alloc (.cells #[.slice na N nc, .slice (some ⟨b, off, none⟩) F fcap, .int .i64 (t : Int), .slice none 0 0, .bool false] 51)) rb (.slice na N nc) (.slice (some ⟨b, off, none⟩) F fcap) (t : Int) tv ((fp.take 0).map Pm.name) false ∧ (∃ ta tc, tv = .slice ta 0 tc)) ∧ Box w (.cells #[.slice na N nc, .slice (some ⟨b, off, none⟩) F fcap] 31) (wr.alloc (.cells #[.slice na N nc, .slice (some ⟨b, off, none⟩) F fcap, .int .i64 (t : Int), .slice none 0 0, .bool false] 51))) := by
          rw [← hrb]
          exact ⟨⟨.slice none 0 0, ⟨heap_alloc_new _ _, ⟨rfl, .inl ⟨rfl, rfl⟩⟩⟩, none, 0, rfl⟩, HB.out.alloc _⟩
        have hrbw : w.heap.size < rb := by omega
        clear c0 c1 c2 c3 c4 hPm hfr HB
        go_wp2_with fail
        go_loopw [7] (fun i wr => ∃ u : Nat, u ≤ K ∧ i = .int .i64 (u : Int) ∧ Hid ((∃ tv, Seen wr rb (.slice na N nc) (.slice (some ⟨b, off, none⟩) F fcap) (t : Int) tv ((fp.take u).map Pm.name) false ∧ (∃ ta tc, tv = .slice ta u tc)) ∧ Box w (.cells #[.slice na N nc, .slice (some ⟨b, off, none⟩) F fcap] 31) wr)) (fun i _ => K - (intOf i).toNat)
        case atStart => exact ⟨0, Nat.zero_le _, rfl, HS0.out⟩
        case round =>
          obtain ⟨u, hu, rfl, HS⟩ := hrel
          clear HS0 x0 x1
          obtain ⟨⟨tv, hs, ta, tc, rfl⟩, hbx⟩ := HS.out
          have HT : Hid (Seen wr rb (.slice na N nc) (.slice (some ⟨b, off, none⟩) F fcap) (t : Int) (.slice ta u tc) ((fp.take u).map Pm.name) false ∧ Box w (.cells #[.slice na N nc, .slice (some ⟨b, off, none⟩) F fcap] 31) wr) := ⟨hs, hbx⟩
          have x0 := hbx.cell 0
          have x1 := hbx.cell 1
          simp at x0 x1
          have d1 := (hbx.below.cell (p := ⟨b, off + t * 5 + 1, none⟩) hbw).trans HC.out.1
          clear HS hs hbx
          by_cases hlu : u < K
          · have hu0 : (0 : Int) ≤ (u : Int) := by omega
            have hu1 : (u : Int) < (K : Int) := by omega
            have hul : u < fp.length := by have := HK.out; omega
            obtain ⟨pb, po, rfl, hpb, e0, _⟩ := PmR.at HPm.out u hul
            have d0 := (HT.out.2.below.cell (p := ⟨pb, po + u * 2, none⟩) hpb).trans e0
            obtain ⟨xn, hxn⟩ : ∃ n, Hid (fp[u].name = n) := ⟨_, (rfl : fp[u].name = fp[u].name)⟩
            rw [hxn.out] at d0
            have x3 := cell_at HT.out.1.at_ 3
            simp at x3
            have hrl := HT.out.1.lt
            have HNx : Hid ((fp.take (u + 1)).map Pm.name = (fp.take u).map Pm.name ++ [xn]) := by
              show _ = _
              rw [List.take_succ_eq_append_getElem hul, List.map_append, ← hxn.out]
              rfl
            have HOw : Hid (OwnsS wr (rb + 1) 9 (.slice ta u tc) ((fp.take u).map Pm.name)) := HT.out.1.own
            have HAt : Hid (wr.heap[rb]? = some (.cells #[.slice na N nc, .slice (some ⟨b, off, none⟩) F fcap, .int .i64 (t : Int), .slice ta u tc, .bool false] 51 (0, 0))) := HT.out.1.at_
            have hne : some rb ≠ (Value.slice ta u tc).ownBlock := fun e => by have := (ownsS_lt HOw.out rb e.symm).1; omega
            have hul2 : ((fp.take u).map Pm.name).length = u := by simp; omega
            have HZ9 : Hid (((fp.take u).map Pm.name ++ [xn]).length = u + 1) := by show _ = _; rw [List.length_append, hul2]; rfl
            clear e0
            go_wp2_with fail
            go_region_law (refine step_catS rfl _ _ 49 rfl (rb + 1) 9 Tryz.underlying49 Tryz.infoStr (HOw.out.below (by go_grown)) (C := 0) (ownsS_lit (nm := xn) (heap_alloc_new _ _) (Nat.zero_le _)) rfl rfl (by rw [hul2]; simp; omega) (by first | omega | (simp; omega)) ?_; intro v5 w5 ho5 hg5; obtain ⟨g5, c5, rfl⟩ : ∃ g c, v5 = .slice (some ⟨g, 0, none⟩) (u + 1) c := (by have h9 := ownsS_len ho5 (by simp); rw [HZ9.out] at h9; exact h9); have hat5 := (hg5.block rb (by first | omega | (simp; omega)) hne).trans (((show Below wr.heap.size wr _ by go_grown).block rb hrl).trans HAt.out); have z3 := cell_at hat5 3; have zf := free_at hat5 3; simp at z3)
            all_goals
              have HS1 : Hid ((∃ tv, Seen (w5.setCell ⟨rb, 3, none⟩ (.slice (some ⟨g5, 0, none⟩) (u + 1) c5)) rb (.slice na N nc) (.slice (some ⟨b, off, none⟩) F fcap) (t : Int) tv ((fp.take (u + 1)).map Pm.name) false ∧ (∃ ta tc, tv = .slice ta (u + 1) tc)) ∧ Box w (.cells #[.slice na N nc, .slice (some ⟨b, off, none⟩) F fcap] 31) (w5.setCell ⟨rb, 3, none⟩ (.slice (some ⟨g5, 0, none⟩) (u + 1) c5))) := by
                rw [HNx.out]
                refine ⟨⟨_, ⟨?_, OwnsS.kept ho5 (grown_setCell w5 ⟨rb, 3, none⟩ _) (own_ne ho5 (by show rb < _; omega))⟩, some ⟨g5, 0, none⟩, c5, rfl⟩, ?_⟩
                · simp [World.setCell, Array.getElem?_modify, hat5]
                · exact Box.setCell (Box.grownS (by first | exact HT.out.2.alloc _ | exact (HT.out.2.alloc _).drew | exact HT.out.2.drew.alloc _) hg5 (fun q hq => by have := (ownsS_lt HOw.out q hq).1; omega)) hrbw _
              clear HT HOw HAt HNx hat5 hg5 ho5 hne
              go_wp2
              go_roundw
              case rel => exact ⟨u + 1, by omega, by go_num, HS1⟩
              case measure => simp [intOf]; omega
          · have huK : u = K := by omega
            subst huK
            have hpm : (fp.take u).map Pm.name = fp.map Pm.name := by rw [List.take_of_length_le (by have := HK.out; omega)]
            obtain ⟨ns0, hns0⟩ : ∃ q, Hid (fp.map Pm.name = q) := ⟨_, (rfl : fp.map Pm.name = _)⟩
            have hnl : ns0.length ≤ 3 := by rw [← hns0.out, List.length_map]; have := HK.out; omega
            rw [hpm] at HT
            rw [hns0.out] at HT hseen
            obtain ⟨r1, r2, hr⟩ : ∃ r1 r2, Hid (scBlk p (t : Int) bd ns0 = (r1, r2)) := ⟨_, _, (rfl : scBlk p (t : Int) bd ns0 = (_, _))⟩
            have hbdN : bd < N := by have := HN.out; omega
            have hda := prog_deep_all HP.out (k := bd) (by omega)
            have hr2 : r2.length ≤ 1000 := by
              have h1 := scFold_len p (t : Int) (p.nodes.getD bd nd0).kids ns0
              have h2 : scFold (scStep p (t : Int)) (p.nodes.getD bd nd0).kids ns0 = (r1, r2) := hr.out
              rw [h2] at h1
              have h3 := (blk_kids (deep_nodes (m := p.nodes.length - 1) (by omega) hpl.2.2 bd (by omega)) hblk).1
              simp only at h1
              omega
            have hrw : w.heap.size ≤ rb := by omega
            have HRw : Hid (RowPg wr rb (.slice na N nc) (.slice (some ⟨b, off, none⟩) F fcap) p) := (HV.out.keep HT.out.2.below).up hrw
            have cB : Hid (Calls Tryz.prog 21 #[.pointer (some ⟨rb, 0, none⟩), .int .i64 (bd : Int)] wr fun e w' => e = .returned (.tuple #[]) ∧ (∃ tv', Seen w' rb (.slice na N nc) (.slice (some ⟨b, off, none⟩) F fcap) (t : Int) tv' r2 (!r1)) ∧ wr.grownBy w' (some rb)) := by
              have h1 := (scope_any p na (some ⟨b, off, none⟩) N nc F fcap rb (t : Int) HP.out HN HF ⟨ht0, ht1⟩ bd hbdN).2 hblk wr false _ ns0 (by omega) HRw.out.1 HRw.out.2 HT.out.1
              rw [hr.out] at h1
              simp only [Bool.false_or] at h1
              exact h1
            have d3 := (HT.out.2.below.cell (p := ⟨b, off + t * 5 + 3, none⟩) hbw).trans HC.out.2.1
            clear hpm
            go_wp2_with fail
            go_at_call 21
            refine Calls.mono cB.out ?_
            rintro e w1 ⟨rfl, ⟨tv1, hs1⟩, hg1⟩
            have HT1 : Hid (Seen w1 rb (.slice na N nc) (.slice (some ⟨b, off, none⟩) F fcap) (t : Int) tv1 r2 (!r1) ∧ Box w (.cells #[.slice na N nc, .slice (some ⟨b, off, none⟩) F fcap] 31) w1) := ⟨hs1, Box.grownS HT.out.2 hg1 (fun q hq => by cases hq; exact hrbw)⟩
            clear cB hs1 hg1 HT HRw d3 d1 x0 x1
            have x0 := HT1.out.2.cell 0
            have x1 := HT1.out.2.cell 1
            simp at x0 x1
            have d4 := (HT1.out.2.below.cell (p := ⟨b, off + t * 5 + 4, none⟩) hbw).trans HC.out.2.2
            rcases hret with rfl | ⟨hr0, hrN, hrv⟩
            · have HEnd : Hid ((∃ tv th, Seen w1 rb (.slice na N nc) (.slice (some ⟨b, off, none⟩) F fcap) (t : Int) tv th (!(seenB p t))) ∧ Box w (.cells #[.slice na N nc, .slice (some ⟨b, off, none⟩) F fcap] 31) w1) := by
                refine ⟨⟨tv1, r2, ?_⟩, HT1.out.2⟩
                rw [hseen.out, hr.out]
                simpa using HT1.out.1
              cases hsb : seenB p t
              · have HX : Hid (namesTo p F = false ∧ Below w.heap.size w w1) := ⟨namesTo_false hlt (by rw [hsb]; simp), HEnd.out.2.below⟩
                obtain ⟨tv9, th9, hs9⟩ := HEnd.out.1
                have x4 := cell_at hs9.at_ 4
                simp [hsb] at x4
                clear hs9 HEnd hsb
                go_wp2
                go_ret
                exact ⟨by rw [HX.out.1]; rfl, HX.out.2⟩
              · have HX : Hid (namesTo p (t + 1) = true ∧ Box w (.cells #[.slice na N nc, .slice (some ⟨b, off, none⟩) F fcap] 31) w1) := ⟨by show _ = _; simp [namesTo, HNT.out, HOn.out, hsb], HEnd.out.2⟩
                obtain ⟨tv9, th9, hs9⟩ := HEnd.out.1
                have x4 := cell_at hs9.at_ 4
                simp [hsb] at x4
                clear hs9 HEnd hsb
                go_wp2
                go_roundw
                case rel => exact ⟨t + 1, by omega, by go_num, HX⟩
                case measure => simp [intOf]; omega
            · obtain ⟨rt, rfl⟩ : ∃ rt : Nat, ft = (rt : Int) := ⟨ft.toNat, by omega⟩
              rw [Int.toNat_natCast] at hrv hseen
              have hrtN : rt < N := by have := HN.out; omega
              have HRw : Hid (RowPg w1 rb (.slice na N nc) (.slice (some ⟨b, off, none⟩) F fcap) p) := (HV.out.keep HT1.out.2.below).up hrw
              have cV : Hid (Calls Tryz.prog 22 #[.pointer (some ⟨rb, 0, none⟩), .int .i64 (rt : Int)] w1 fun e w' => e = .returned (.tuple #[]) ∧ Seen w' rb (.slice na N nc) (.slice (some ⟨b, off, none⟩) F fcap) (t : Int) tv1 r2 (!r1 || !scVal p (t : Int) r2 rt) ∧ w1.grownBy w' (some rb)) :=
                value_any p na (some ⟨b, off, none⟩) N nc F fcap rb (t : Int) tv1 r2 HP.out HN HF hr2 ⟨ht0, ht1⟩ rt hrtN hrv w1 (!r1) HRw.out.1 HRw.out.2 HT1.out.1
              have hd : decide ((rt : Int) < 0) = false := by simp
              go_wp2_with fail
              go_at_call 22
              refine Calls.mono cV.out ?_
              rintro e w2 ⟨rfl, hs2, hg2⟩
              clear cV HRw x0 x1 d4
              have HEnd : Hid ((∃ tv th, Seen w2 rb (.slice na N nc) (.slice (some ⟨b, off, none⟩) F fcap) (t : Int) tv th (!(seenB p t))) ∧ Box w (.cells #[.slice na N nc, .slice (some ⟨b, off, none⟩) F fcap] 31) w2) := by
                refine ⟨⟨tv1, r2, ?_⟩, Box.grownS HT1.out.2 hg2 (fun q hq => by cases hq; exact hrbw)⟩
                rw [hseen.out, hr.out]
                have h1 := hs2
                simp only [hd, Bool.false_or]
                rw [Bool.not_and]
                exact h1
              clear hs2 hg2 HT1
              cases hsb : seenB p t
              · have HX : Hid (namesTo p F = false ∧ Below w.heap.size w w2) := ⟨namesTo_false hlt (by rw [hsb]; simp), HEnd.out.2.below⟩
                obtain ⟨tv9, th9, hs9⟩ := HEnd.out.1
                have x4 := cell_at hs9.at_ 4
                simp [hsb] at x4
                clear hs9 HEnd hsb
                go_wp2
                go_ret
                exact ⟨by rw [HX.out.1]; rfl, HX.out.2⟩
              · have HX : Hid (namesTo p (t + 1) = true ∧ Box w (.cells #[.slice na N nc, .slice (some ⟨b, off, none⟩) F fcap] 31) w2) := ⟨by show _ = _; simp [namesTo, HNT.out, HOn.out, hsb], HEnd.out.2⟩
                obtain ⟨tv9, th9, hs9⟩ := HEnd.out.1
                have x4 := cell_at hs9.at_ 4
                simp [hsb] at x4
                clear hs9 HEnd hsb
                go_wp2
                go_roundw
                case rel => exact ⟨t + 1, by omega, by go_num, HX⟩
                case measure => simp [intOf]; omega

end Go.Proofs.YtjafneaaefpefaaGreat
