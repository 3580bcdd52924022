/-
  Rows of nodes made anew, in the program.
-/
import Derived.Test.YtjafneaaefpefaaCopyI0
import Derived.Test.YtjafneaaefpefaaPack
import Derived.Test.YtjafneaaefpefaaClone
namespace Go.Proofs.Ytjafneaaefpefaa
open Go.RowKit

theorem ndC_onesC (q : Nd) (a : Option Addr) (n c : Nat) : ∀ u ∈ ndC (q, .slice a n c), u.oneCell' = true := by
  intro u hu
  simp [ndC] at hu
  rcases hu with rfl | rfl | rfl | rfl <;> rfl

theorem cell_eqA {w w' : World} {b : Nat} (h : w'.heap[b]? = w.heap[b]?) (j : Nat) : w'.cell? ⟨b, j, none⟩ = w.cell? ⟨b, j, none⟩ := by
  unfold World.cell?
  rw [show (⟨b, j, none⟩ : Addr).block = b from rfl, h]

set_option maxRecDepth 100000 in
set_option maxHeartbeats 6400000 in
theorem nodesAnew_any (v : Value) (ns : List Nd) (w : World) (hR : NdR.Row w w.heap.size v ns) (hl : szRow szNd ns ≤ 1048576) :
    Calls Try.prog 78 #[v] w fun e w' => ∃ a n c, e = .returned (.slice a n c) ∧ (∃ ps, ps.map Prod.fst = ns ∧ Grows w w' (.slice a n c) ps) := by
  obtain ⟨a, cap, rfl⟩ := hR.len
  obtain ⟨N, HN⟩ : ∃ N, Hid (ns.length = N) := ⟨_, (rfl : ns.length = ns.length)⟩
  have H : Hid (NdR.Row w w.heap.size (.slice a N cap) ns) := by rw [← HN.out]; exact hR
  have HL : Hid (szRow szNd ns ≤ 1048576) := hl
  have hNl : N ≤ 1048576 := by have := len_szRow szNd ns; have := HN.out; omega
  rw [HN.out]
  clear hR hl
  go_enter Try.func78, Try.ntmps78
  go_wp2
  go_loopw [3, 8] (fun o i wr => ∃ t : Nat, t ≤ N ∧ i = .int .i64 (t : Int) ∧ ∃ (oa : Option Addr) (on oc : Nat), o = .slice oa on oc ∧ Hid (∃ ps, ps.map Prod.fst = ns.take t ∧ Grows w wr o ps)) (fun _ i _ => N - (intOf i).toNat)
  case atStart => exact ⟨0, Nat.zero_le _, rfl, none, 0, 0, rfl, [], by simp, ⟨ownsR_nil _ _ _ _ _, by simp⟩, by simp [fps], Below.refl _ _⟩
  case round =>
    obtain ⟨t, ht, rfl, oa, on, oc, rfl, HJ⟩ := hrel
    obtain ⟨ps, hps, hg⟩ := HJ.out
    by_cases hlt : t < N
    · have ht0 : (0 : Int) ≤ (t : Int) := by omega
      have ht1 : (t : Int) < (N : Int) := by omega
      have htl : t < ns.length := by have := HN.out; omega
      obtain ⟨b, off, ka, kc, rfl, hb, c0, c1, c2, c3, hK⟩ := RowNd.at H.out t htl
      have hq : szNd ns[t] ≤ 1048576 := Nat.le_trans (mem_szRow szNd (List.getElem_mem htl)) HL.out
      obtain ⟨q, hqe⟩ : ∃ q, Hid (ns[t] = q) := ⟨_, (rfl : ns[t] = ns[t])⟩
      have hnx : Hid (ns.take (t + 1) = ns.take t ++ [q]) := by show _ = _; rw [List.take_succ_eq_append_getElem htl, hqe.out]
      rw [hqe.out] at c0 c1 c2 c3 hK hq
      have hbw := hg.below
      have d0 := (hbw.cell (p := ⟨b, off + t * 4, none⟩) hb).trans c0
      have d1 := (hbw.cell (p := ⟨b, off + t * 4 + 1, none⟩) hb).trans c1
      have d2 := (hbw.cell (p := ⟨b, off + t * 4 + 2, none⟩) hb).trans c2
      have d3 := (hbw.cell (p := ⟨b, off + t * 4 + 3, none⟩) hb).trans c3
      have hkl : q.kids.length ≤ 1048576 := Nat.le_trans (le_szNd_kids q) hq
      have hnl : q.name.size ≤ 281474976710656 := by have := le_szNd_name q; omega
      have hsz := hbw.size
      have HG : Hid (Grows w wr (.slice oa on oc) ps ∧ ps.map Prod.fst = ns.take t) := ⟨hg, hps⟩
      obtain ⟨kd, nm, tx, ks⟩ := q
      simp only at d0 d1 d2 d3 hK hkl hnl
      obtain ⟨K, HK⟩ : ∃ K, Hid (ks.length = K) := ⟨_, (rfl : ks.length = ks.length)⟩
      rw [HK.out] at d3 hK
      have HI : Hid (RowI w w.heap.size (.slice ka K kc) ks) := hK
      have hpl : ps.length ≤ 10000000 := by
        have h1 := congrArg List.length HG.out.2
        simp at h1
        omega
      have HBn : Hid (Below wr.heap.size wr (wr.alloc (.cells #[.int .i64 kd, .int .i64 nm, .string tx, .slice ka K kc] 70))) := by show Below _ _ _; go_grown
      have HX1 : Hid (Box wr (.cells #[.int .i64 kd, .int .i64 nm, .string tx, .slice ka K kc] 70) (wr.alloc (.cells #[.int .i64 kd, .int .i64 nm, .string tx, .slice ka K kc] 70))) := Box.first _ _
      have cK : Hid (∀ W, Below w.heap.size w W → Calls Try.prog 102 #[.slice ka K kc] W fun e w' => ∃ a n c, e = .returned (.slice a n c) ∧ OwnsI w' W.heap.size (.slice a n c) ks ∧ Below W.heap.size W w') := fun W hW => cloneI_any w.heap.size _ ks W hW.size (HI.out.keep hW) hkl
      clear c0 c1 c2 c3 hK hq hg hps HJ hbw
      go_wp2_with fail
      generalize hWn : wr.alloc (.cells #[.int .i64 kd, .int .i64 nm, .string tx, .slice ka K kc] 70) = Wn at HX1 HBn ⊢
      have x0 : Wn.cell? ⟨wr.heap.size, 0, none⟩ = some (.int .i64 kd) := HX1.out.cell 0
      have x1 : Wn.cell? ⟨wr.heap.size, 1, none⟩ = some (.int .i64 nm) := HX1.out.cell 1
      have x2 : Wn.cell? ⟨wr.heap.size, 2, none⟩ = some (.string tx) := HX1.out.cell 2
      have x3 : Wn.cell? ⟨wr.heap.size, 3, none⟩ = some (.slice ka K kc) := HX1.out.cell 3
      have hlw : wr.heap.size < Wn.heap.size := HX1.out.lt
      have HBw : Hid (Below w.heap.size w Wn) := HG.out.1.below.trans (HBn.out.mono hsz)
      clear hWn d0 d1 d2 d3
      go_region_held3 (fun w' => w'.cell? ⟨wr.heap.size, 0, none⟩ = some (.int .i64 kd) ∧ w'.cell? ⟨wr.heap.size, 1, none⟩ = some (.int .i64 nm) ∧ w'.cell? ⟨wr.heap.size, 2, none⟩ = some (.string tx) ∧ w'.cell? ⟨wr.heap.size, 3, none⟩ = some (.slice ka K kc)) (first | exact ⟨u0, u1, u2, u3⟩ | exact ⟨s0, s1, s2, s3⟩ | exact ⟨r0, r1, r2, r3⟩ | exact ⟨x0, x1, x2, x3⟩ | go_keep) (first | (go_at_call 84; refine Calls.mono (Clone_any tx _ hnl) ?_; rintro e wC ⟨rfl, hbC⟩; have hbC1 : Below Wn.heap.size Wn wC := (Below.refl _ _).drew.trans hbC; have r0 := (hbC1.cell (p := ⟨wr.heap.size, 0, none⟩) hlw).trans x0; have r1 := (hbC1.cell (p := ⟨wr.heap.size, 1, none⟩) hlw).trans x1; have r2 := (hbC1.cell (p := ⟨wr.heap.size, 2, none⟩) hlw).trans x2; have r3 := (hbC1.cell (p := ⟨wr.heap.size, 3, none⟩) hlw).trans x3; have hlC : wr.heap.size < wC.heap.size := Nat.lt_of_lt_of_le hlw hbC1.size) | (go_at_call 102; refine Calls.mono (cK.out wC (HBw.out.trans (hbC1.mono HBw.out.size))) ?_; rintro e wK ⟨qa, qn, qc, rfl, hqo, hbK⟩; have s0 := (hbK.cell (p := ⟨wr.heap.size, 0, none⟩) hlC).trans r0; have s1 := (hbK.cell (p := ⟨wr.heap.size, 1, none⟩) hlC).trans r1; have s2 := (hbK.cell (p := ⟨wr.heap.size, 2, none⟩) hlC).trans r2; have s3 := (hbK.cell (p := ⟨wr.heap.size, 3, none⟩) hlC).trans r3; have hlK : wr.heap.size < wK.heap.size := Nat.lt_of_lt_of_le hlC hbK.size; have hBK : Below wr.heap.size wr wK := HBn.out.trans ((hbC1.trans (hbK.mono hbC1.size)).mono HBn.out.size)) | (refine step_appendRA (enc := ndC) (k := 4) (fun _ => rfl) rfl _ _ 27 rfl w.heap.size 70 _ 56 Try.underlying27 Try.infoNode rfl (by decide) (OwnsR.below HG.out.1.phys.1 (hBK.alloc hBK.size (.cells #[.int .i64 kd, .int .i64 nm, .string tx, .slice qa qn qc] 70))) (⟨kd, nm, tx, ks⟩, .slice qa qn qc) (ndC_onesC _ _ _ _) wK.heap.size (0, 0) (heap_alloc_new _ _) rfl rfl hpl (by omega) (by have := hBK.size; simp; omega) ?_; intro v5 w5 hown5 hg5 hat5 hv5; obtain ⟨g5, cap5, rfl⟩ := hv5; have h5b := fun (j : Nat) (hj : j < wK.heap.size) (hne : some j ≠ (Value.slice oa on oc).ownBlock) => (hg5.block j (by simp; omega) hne).trans (Below.heap_alloc wK (.cells #[.int .i64 kd, .int .i64 nm, .string tx, .slice qa qn qc] 70) j hj); have hneq : some wr.heap.size ≠ (Value.slice oa on oc).ownBlock := (fun e => by have := (OwnsR.lt HG.out.1.phys.1 wr.heap.size (by simp [fpOf, ← e])).2; omega); have h5c := h5b wr.heap.size hlK hneq; have u0 : w5.cell? ⟨wr.heap.size, 0, none⟩ = some (.int .i64 kd) := (cell_eqA h5c 0).trans s0; have u1 : w5.cell? ⟨wr.heap.size, 1, none⟩ = some (.int .i64 nm) := (cell_eqA h5c 1).trans s1; have u2 : w5.cell? ⟨wr.heap.size, 2, none⟩ = some (.string tx) := (cell_eqA h5c 2).trans s2; have u3 : w5.cell? ⟨wr.heap.size, 3, none⟩ = some (.slice ka K kc) := (cell_eqA h5c 3).trans s3))
      have HN5 : Hid (Grows w w5 (.slice (some ⟨g5, 0, none⟩) (ps.length + 1) cap5) (ps ++ [(⟨kd, nm, tx, ks⟩, .slice qa qn qc)])) := by
        refine HG.out.1.more (hBK.alloc hBK.size _) ?_ hown5 hg5 ?_
        · exact owns_base (OwnsR.below hqo (by go_grown)) (by omega)
        · have h0 : Below w.heap.size w (wK.alloc (.cells #[.int .i64 kd, .int .i64 nm, .string tx, .slice qa qn qc] 70)) := HG.out.1.below.trans ((hBK.alloc hBK.size _).mono hsz)
          exact h0.grown hg5 h0.size (fun k hk => (OwnsR.lt HG.out.1.phys.1 k (by simp [fpOf, hk])).1)
      have HJ5 : Hid (∃ ps', ps'.map Prod.fst = ns.take (t + 1) ∧ Grows w w5 (.slice (some ⟨g5, 0, none⟩) (ps.length + 1) cap5) ps') := ⟨_, by rw [List.map_append, HG.out.2, hnx.out]; rfl, HN5.out⟩
      clear hown5 hg5 hat5 HN5 HG u0 u1 u2 u3 s0 s1 s2 s3 r0 r1 r2 r3 x0 x1 x2 x3 hbC hbC1 hbK hBK hqo h5b h5c
      go_wp2
      go_roundw
      case rel => exact ⟨t + 1, by omega, by go_num, _, _, _, rfl, HJ5⟩
      case measure => simp [intOf]; omega
    · have HF : Hid (∃ ps, ps.map Prod.fst = ns ∧ Grows w wr (.slice oa on oc) ps) := ⟨ps, by rw [hps, show t = ns.length by have := HN.out; omega, List.take_length], hg⟩
      clear hps hg HJ
      go_wp2
      go_ret
      exact ⟨oa, on, oc, rfl, HF.out⟩

end Go.Proofs.Ytjafneaaefpefaa
