/-
  Rows of nodes copied, in the model.
-/
import Derived.Test.YtehdaliebloglaaDeepI
import Derived.Test.YtehdaliebloglaaBox
import Derived.Test.YtehdaliebloglaaMarkInt
namespace Go.Proofs.Ytehdaliebloglaa
open Go.RowKit

/-- 'append(a, b...)' of rows of numbers, the first of which the call owns. -/
theorem appendI {P : Program} {w0 : World} {ops : Array Oper} {rest : List Oper} {o : Oper} {a : Act} {Q : Exit → Act → World → Prop}
    (hgd : o.guard = none) (s x : Operand) (t : TypeId) (ho : o.op = .call { callee := .builtin .append, args := #[s, x], argTypes := #[t, t] })
    (B : Nat) (ht : P.underlying t = some (.slice 3)) (hi : (P.info? 3).map (fun i => (i.zero, i.size, i.bytes)) = some (some (.int .i64 0), 1, 8))
    {v : Value} {xs : List Int} (hown : OwnsI w0 B v xs) (ys : List Int) (H : Nat) (ad : Addr) (m c : Nat) (hsrc : RowI w0 H (.slice (some ad) m c) ys) (hs : a.eval s = v) (hx : a.eval x = .slice (some ad) m c)
    (hlen : xs.length + ys.length ≤ 10000000) (hB : B ≤ w0.heap.size)
    (h : ∀ v' w', OwnsI w' B v' (xs ++ ys) → w0.grownBy w' v.ownBlock → (v' = .slice none 0 0 ↔ v = .slice none 0 0 ∧ m = 0) → wpList P ops Q rest (a.put o.dst v') w') :
    wpList P ops Q (o :: rest) a w0 := by
  obtain ⟨i, hi, hz0, hz1, hz2⟩ := info_parts hi
  have hm := hsrc.cap.1
  refine wpList_append_own _ hgd s x t ho B 3 i (.int .i64 0) 1 8 ht hi hz0 hz1 hz2 rfl (by decide) v xs.length (xs.flatMap inC) hs hown ad m c (ys.flatMap inC) hx (by rw [flat_len inC_len, hm]) ?_ ?_ (by unfold maxLen; omega) (by omega) hB ?_
  · intro j u hj
    have hjl : j < ys.length := by
      rcases Nat.lt_or_ge j ys.length with h1 | h1
      · exact h1
      · rw [List.getElem?_eq_none (by rw [flat_len inC_len]; omega)] at hj
        cases hj
    obtain ⟨b, off, e, _, hc⟩ := RowI.at hsrc j hjl
    cases e
    have h2 := flat_at inC_len ys j 0 hjl (by omega)
    rw [Nat.mul_one, Nat.add_zero] at h2
    rw [h2] at hj
    have hu : u = .int .i64 ys[j] := by simp [inC] at hj; exact hj.symm
    have ha : (⟨b, off, none⟩ : Addr).add j = ⟨b, off + j, none⟩ := by unfold Addr.add; split <;> simp_all
    rw [ha, hc, hu]
  · intro u hu
    obtain ⟨y, _, hy⟩ := List.mem_flatMap.mp hu
    simp [inC] at hy
    subst hy
    rfl
  intro v' w' h1 h2 h3
  refine h v' w' ?_ h2 h3
  unfold OwnsI OwnsR
  rw [List.flatMap_append, List.length_append, show xs.length + ys.length = xs.length + m by rw [hm]]
  exact h1

theorem form_some {w : World} {B : Nat} {v : Value} {xs : List Int} (h : OwnsI w B v xs) (hn : ¬ v = .slice none 0 0) : ∃ g cap, v = .slice (some ⟨g, 0, none⟩) xs.length cap := by
  rcases OwnsR.form h with ⟨h0, _⟩ | ⟨g4, cap4, h4, _⟩
  · exact absurd h0 hn
  · exact ⟨g4, cap4, h4⟩
theorem ndC_ones (q : Nd) (g n c : Nat) : ∀ u ∈ ndC (q, .slice (some ⟨g, 0, none⟩) n c), u.oneCell' = true := by
  intro u hu
  simp [ndC] at hu
  rcases hu with rfl | rfl | rfl | rfl <;> rfl
theorem ndC_ones0 (q : Nd) : ∀ u ∈ ndC (q, .slice none 0 0), u.oneCell' = true := by
  intro u hu
  simp [ndC] at hu
  rcases hu with rfl | rfl | rfl | rfl <;> rfl

/-- Rows of nodes lie apart from their kids: other types. -/
theorem nd_apart {w : World} {B : Nat} {v : Value} {ps : List (Nd × Value)} (h : NdR.Phys w B v ps) (hn : (fps (ps.flatMap NdR.vals)).Nodup) : (fps (NdR.all v ps)).Nodup := by
  unfold RowTy.all
  rw [fps_cons, List.nodup_append]
  refine ⟨by have := fp_nodup v; rw [fps_one] at this; exact this, hn, ?_⟩
  intro a ha b hb e
  subst e
  obtain ⟨u, hu, hau⟩ := List.mem_flatMap.mp hb
  obtain ⟨q, hq1, hq2⟩ := List.mem_flatMap.mp hu
  have hu2 : u = q.2 := by simpa [NdR] using hq2
  subst hu2
  have hs : OwnsI w B q.2 q.1.kids := h.2 q hq1
  rcases h.1.2 with ⟨rfl, _⟩ | ⟨g, cap, cur, rfl, _, hg, _⟩
  · simp [fpOf, Value.ownBlock] at ha
  · rcases hs.2 with ⟨e0, _⟩ | ⟨g2, cap2, cur2, e2, _, hg2, _⟩
    · rw [e0] at hau
      simp [fpOf, Value.ownBlock] at hau
    · rw [e2] at hau
      have h1 : a = g := by simpa [fpOf, Value.ownBlock] using ha
      have h2 : a = g2 := by simpa [fpOf, Value.ownBlock] using hau
      subst h1 h2
      rw [hg] at hg2
      injection hg2 with h3
      injection h3 with _ h4
      exact absurd h4 (by decide)

/-- A row of nodes that grows node by node. -/
structure Grows (w wr : World) (v : Value) (ps : List (Nd × Value)) : Prop where
  phys : NdR.Phys wr w.heap.size v ps
  nd : (fps (ps.flatMap NdR.vals)).Nodup
  below : Below w.heap.size w wr
theorem Grows.own {w wr : World} {v : Value} {ps : List (Nd × Value)} (h : Grows w wr v ps) : NdR.Own wr w.heap.size wr.heap.size v (ps.map Prod.fst) :=
  ⟨ps, rfl, h.phys, nd_apart h.phys h.nd, h.phys.lt⟩
/-- One more node, its kids in a row that was made since. -/
theorem Grows.more {w wr w1 w2 : World} {v v' : Value} {ps : List (Nd × Value)} {p : Nd × Value} (h : Grows w wr v ps) (hb : Below wr.heap.size wr w1) (hs : OwnsI w1 wr.heap.size p.2 p.1.kids) (ho : OwnsR ndC 4 w2 w.heap.size 55 v' (ps ++ [p])) (hg : w1.grownBy w2 v.ownBlock) (hB : Below w.heap.size w w2) : Grows w w2 v' (ps ++ [p]) := by
  have hv : ∀ q ∈ ps, ∀ g ∈ fps (NdR.vals q), w2.heap[g]? = wr.heap[g]? := fun q hq g hgq => by
    have hlt := (NdR.sub_lt (h.phys.2 q hq) g hgq).2
    have hq2 : g ∈ fpOf q.2 := by simpa [NdR, fps_one] using hgq
    have hne : some g ≠ v.ownBlock := by
      intro e
      have h1 : g ∈ fpOf v := by simp [fpOf, ← e]
      have := nd_apart h.phys h.nd
      unfold RowTy.all at this
      rw [fps_cons, List.nodup_append] at this
      refine this.2.2 g h1 g ?_ rfl
      obtain ⟨u, hu, hgu⟩ := List.mem_flatMap.mp hgq
      exact mem_fps (List.mem_flatMap.mpr ⟨q, hq, hu⟩) hgu
    rw [hg.block g (by have := hb.size; omega) hne]
    exact hb.block g hlt
  have hpn : ∀ g ∈ fpOf p.2, some g ≠ v.ownBlock ∧ wr.heap.size ≤ g ∧ g < w1.heap.size := fun g hgp => by
    have h1 := OwnsR.lt hs g hgp
    refine ⟨fun e => ?_, h1.1, h1.2⟩
    have h2 : g ∈ fpOf v := by simp [fpOf, ← e]
    have := (h.phys.1.lt g h2).2
    omega
  refine ⟨⟨ho, fun q hq => ?_⟩, ?_, hB⟩
  · rcases List.mem_append.mp hq with h1 | h1
    · exact NdR.sub_same (h.phys.2 q h1) (hv q h1)
    · have : q = p := by simpa using h1
      subst this
      have h2 : OwnsI w2 w.heap.size q.2 q.1.kids := OwnsR.same (OwnsR.base hs (fun g hgq => by have := (hpn g hgq).2.1; have := h.below.size; omega)) (fun g hgq => hg.block g (hpn g hgq).2.2 (hpn g hgq).1)
      exact h2
  · rw [List.flatMap_append, fps_append, List.nodup_append]
    refine ⟨h.nd, by have := fp_nodup p.2; simpa [NdR] using this, ?_⟩
    intro a ha b hb' e
    subst e
    obtain ⟨u, hu, hau⟩ := List.mem_flatMap.mp ha
    obtain ⟨q, hq1, hq2⟩ := List.mem_flatMap.mp hu
    have h1 := (NdR.sub_lt (h.phys.2 q hq1) a (mem_fps hq2 hau)).2
    have h2 : a ∈ fpOf p.2 := by simpa [NdR, fps_one] using hb'
    have := (hpn a h2).2.1
    omega

theorem owns_emptyN (w : World) : OwnsR ndC 4 (w.alloc (.cells #[] 55)) w.heap.size 55 (.slice (some ⟨w.heap.size, 0, none⟩) 0 0) [] :=
  ⟨rfl, .inr ⟨w.heap.size, 0, #[], rfl, Nat.le_refl _, heap_alloc_new _ _, Nat.le_refl _, Nat.zero_le _, rfl, rfl⟩⟩
theorem Try.infoNode : (Try.prog.info? 55).map (fun i => (i.zero, i.size, i.bytes)) = some (some (.agg #[.int .i64 0, .int .i64 0, .string ByteArray.empty, .slice none 0 0]), 4, 56) := by kernel_rfl

set_option maxRecDepth 100000 in
set_option maxHeartbeats 3200000 in
theorem l04Nodes_any (v : Value) (ns : List Nd) (w : World) (hR : NdR.Row w w.heap.size v ns) (hl : szRow szNd ns ≤ 1048576) :
    Calls Try.prog 24 #[v] w fun e w' => ∃ g cap, e = .returned (.slice (some ⟨g, 0, none⟩) ns.length cap) ∧ (∃ ps, ps.map Prod.fst = ns ∧ Grows w w' (.slice (some ⟨g, 0, none⟩) ns.length cap) ps) := by
  obtain ⟨a, cap, rfl⟩ := hR.len
  obtain ⟨N, HN⟩ : ∃ N, Hid (ns.length = N) := ⟨_, (rfl : ns.length = ns.length)⟩
  have H : Hid (NdR.Row w w.heap.size (.slice a N cap) ns) := by rw [← HN.out]; exact hR
  have HL : Hid (szRow szNd ns ≤ 1048576) := hl
  have hNl : N ≤ 1048576 := by have := len_szRow szNd ns; have := HN.out; omega
  rw [HN.out]
  clear hR hl
  go_enter Try.func24, Try.ntmps24
  go_wp2
  go_loopw [3, 4] (fun o i wr => ∃ t : Nat, t ≤ N ∧ i = .int .i64 (t : Int) ∧ (∃ og oc : Nat, o = .slice (some ⟨og, 0, none⟩) t oc) ∧ Hid (∃ ps, ps.map Prod.fst = ns.take t ∧ Grows w wr o ps)) (fun _ i _ => N - (intOf i).toNat)
  case atStart => exact ⟨0, Nat.zero_le _, rfl, ⟨_, _, rfl⟩, [], by simp, ⟨owns_emptyN w, by simp⟩, by simp [fps], by go_grown⟩
  case round =>
    obtain ⟨t, ht, rfl, ⟨og, oc, rfl⟩, HJ⟩ := hrel
    obtain ⟨ps, hps, hg⟩ := HJ.out
    by_cases hlt : t < N
    · have ht0 : (0 : Int) ≤ (t : Int) := by omega
      have ht1 : (t : Int) < (N : Int) := by omega
      have htl : t < ns.length := by have := HN.out; omega
      obtain ⟨b, off, ka, kc, rfl, hb, c0, c1, c2, c3, hK⟩ := RowNd.at H.out t htl
      have hq : szNd ns[t] ≤ 1048576 := Nat.le_trans (mem_szRow szNd (List.getElem_mem htl)) HL.out
      obtain ⟨q, hqe⟩ : ∃ q, Hid (ns[t] = q) := ⟨_, (rfl : ns[t] = ns[t])⟩
      have hnx : Hid (ns.take (t + 1) = ns.take t ++ [q]) := by show _ = _; rw [List.take_succ_eq_append_getElem htl, hqe.out]
      rw [hqe.out] at c0 c1 c2 c3 hK hq
      have hbw := hg.below
      have d0 := (hbw.cell (p := ⟨b, off + t * 4, none⟩) hb).trans c0
      have d1 := (hbw.cell (p := ⟨b, off + t * 4 + 1, none⟩) hb).trans c1
      have d2 := (hbw.cell (p := ⟨b, off + t * 4 + 2, none⟩) hb).trans c2
      have d3 := (hbw.cell (p := ⟨b, off + t * 4 + 3, none⟩) hb).trans c3
      have hkl : q.kids.length ≤ 1048576 := Nat.le_trans (le_szNd_kids q) hq
      have hsz := hbw.size
      have HG : Hid (Grows w wr (.slice (some ⟨og, 0, none⟩) t oc) ps ∧ ps.map Prod.fst = ns.take t) := ⟨hg, hps⟩
      obtain ⟨kd, nm, tx, ks⟩ := q
      simp only at d0 d1 d2 d3 hK hkl
      obtain ⟨K, HK⟩ : ∃ K, Hid (ks.length = K) := ⟨_, (rfl : ks.length = ks.length)⟩
      rw [HK.out] at d3 hK hkl
      have HI : Hid (RowI w w.heap.size (.slice ka K kc) ks) := hK
      clear c0 c1 c2 c3 hK hq hg hps HJ hbw
      have HOn : Hid (∀ W, Below wr.heap.size wr W → OwnsR ndC 4 W w.heap.size 55 (.slice (some ⟨og, 0, none⟩) t oc) ps) := fun W hW => OwnsR.below HG.out.1.phys.1 hW
      have hpl : ps.length ≤ 10000000 := by
        have h1 := congrArg List.length HG.out.2
        simp at h1
        omega
      cases ka with
      | none =>
        have HK0 : Hid (ks = []) := by
          rcases Nat.eq_zero_or_pos ks.length with e | e
          · exact List.eq_nil_of_length_eq_zero e
          · obtain ⟨_, _, e2, _⟩ := HI.out.at 0 e
            cases e2
        have hK0 : K = 0 := by rw [← HK.out, HK0.out]; rfl
        subst hK0
        go_wp2_with (at_builtin; (refine appendR (enc := ndC) (k := 4) (fun _ => rfl) rfl _ _ 28 rfl w.heap.size 55 _ 56 Try.underlying28 Try.infoNode rfl (by decide) (HOn.out ((wr.alloc (.cells #[.int .i64 kd, .int .i64 nm, .string tx, .slice (some ⟨wr.heap.size + 1, 0, none⟩) 0 0] 55)).alloc (.cells #[] 3)) (by go_grown)) (⟨kd, nm, tx, ks⟩, .slice (some ⟨wr.heap.size + 1, 0, none⟩) 0 0) (ndC_ones _ _ _ _) rfl (by first | rfl | (simp [Act.eval]; done)) hpl (by omega) (by go_size) ?_); intro v5 w5 hown5 hb5 hs5 hg5)
        have HN5 : Hid (Grows w w5 v5 (ps ++ [(⟨kd, nm, tx, ks⟩, .slice (some ⟨wr.heap.size + 1, 0, none⟩) 0 0)])) := by
          refine HG.out.1.more ?_ ?_ hown5 hg5 (hb5 w ?_)
          · go_grown
          · rw [HK0.out]
            have h0 := owns_empty (wr.alloc (.cells #[.int .i64 kd, .int .i64 nm, .string tx, .slice (some ⟨wr.heap.size + 1, 0, none⟩) 0 0] 55))
            have hsz2 : (wr.alloc (.cells #[.int .i64 kd, .int .i64 nm, .string tx, .slice (some ⟨wr.heap.size + 1, 0, none⟩) 0 0] 55)).heap.size = wr.heap.size + 1 := by simp
            rw [hsz2] at h0
            exact owns_base h0.out (by omega)
          · have h0 := HG.out.1.below
            go_grown
        have HV5 : Hid (∃ og oc : Nat, v5 = .slice (some ⟨og, 0, none⟩) (t + 1) oc) := by
          rcases OwnsR.form HN5.out.phys.1 with ⟨_, h0⟩ | ⟨g5, cap5, h5, _⟩
          · simp at h0
          · refine ⟨g5, cap5, h5.trans ?_⟩
            have h1 := congrArg List.length HG.out.2
            simp at h1
            rw [List.length_append, List.length_singleton, show ps.length = t by omega]
        have HJ5 : Hid (∃ ps, ps.map Prod.fst = ns.take (t + 1) ∧ Grows w w5 v5 ps) := ⟨_, by rw [List.map_append, HG.out.2, hnx.out]; rfl, HN5.out⟩
        clear hown5 hb5 hs5 hg5 HN5 HG HOn
        go_wp2
        go_roundw
        case rel => exact ⟨t + 1, by omega, by go_num, HV5.out, HJ5⟩
        case measure => simp [intOf]; omega
      | some ad =>
        have hX0 : (wr.alloc (.cells #[.int .i64 kd, .int .i64 nm, .string tx, .slice (some ad) K kc] 55)).heap.size = wr.heap.size + 1 := by simp
        have HE0 : Hid (OwnsI ((wr.alloc (.cells #[.int .i64 kd, .int .i64 nm, .string tx, .slice (some ad) K kc] 55)).alloc (.cells #[] 3)) (wr.heap.size + 1) (.slice (some ⟨wr.heap.size + 1, 0, none⟩) 0 0) []) := by
          have h0 := owns_empty (wr.alloc (.cells #[.int .i64 kd, .int .i64 nm, .string tx, .slice (some ad) K kc] 55))
          rw [hX0] at h0
          exact h0
        have HS0 : Hid (RowI ((wr.alloc (.cells #[.int .i64 kd, .int .i64 nm, .string tx, .slice (some ad) K kc] 55)).alloc (.cells #[] 3)) w.heap.size (.slice (some ad) K kc) ks) := HI.out.keep (by have h0 := HG.out.1.below; go_grown)
        have HX1 : Hid (((wr.alloc (.cells #[.int .i64 kd, .int .i64 nm, .string tx, .slice (some ad) K kc] 55)).alloc (.cells #[] 3)).heap[wr.heap.size]? = some (.cells #[.int .i64 kd, .int .i64 nm, .string tx, .slice (some ad) K kc] 55 (0, 0))) := (Below.heap_alloc _ _ _ (by simp)).trans (heap_alloc_new _ _)
        have hks : ks.length ≤ 1048576 := by have := HK.out; omega
        clear hX0
        go_wp2_with (first | (at_builtin; (refine appendI rfl _ _ 46 rfl (wr.heap.size + 1) Try.underlying46 Try.infoInt HE0.out ks w.heap.size ad K kc HS0.out rfl rfl (by simp; omega) (by simp) ?_); intro v4 w4 hown4 hg4 hn4; obtain ⟨g4, cap4, hv4⟩ := form_some hown4 (fun h0 => absurd (hn4.mp h0).1 (by simp)); rw [List.nil_append, HK.out] at hv4; subst hv4; have hX := (hg4.block wr.heap.size (by simp; omega) (by simp [Value.ownBlock])).trans HX1.out; have x0 := cell_at hX 0; have x1 := cell_at hX 1; have x2 := cell_at hX 2; have x3 := cell_at hX 3; have fr := free_at hX 3; simp at x0 x1 x2 x3; have hz4 : wr.heap.size + 1 < w4.heap.size := (by have := hg4.size; simp at this; omega); have HO4 : Hid (OwnsI w4 (wr.heap.size + 1) (.slice (some ⟨g4, 0, none⟩) K cap4) ks ∧ Below wr.heap.size wr w4) := ⟨hown4, (by have h1 : Below wr.heap.size wr ((wr.alloc (.cells #[.int .i64 kd, .int .i64 nm, .string tx, .slice (some ad) K kc] 55)).alloc (.cells #[] 3)) := (by go_grown); exact h1.trans ⟨hg4.os, hg4.tape, hg4.output, hg4.size, fun k hk => hg4.block k (by simp; omega) (by simp [Value.ownBlock]; omega)⟩)⟩; clear hown4 hg4 hn4 hX) | (at_builtin; (refine appendR (enc := ndC) (k := 4) (fun _ => rfl) rfl _ _ 28 rfl w.heap.size 55 _ 56 Try.underlying28 Try.infoNode rfl (by decide) (HOn.out (w4.setCell ⟨wr.heap.size, 3, none⟩ (.slice (some ⟨g4, 0, none⟩) K cap4)) (HO4.out.2.setCell (p := ⟨wr.heap.size, 3, none⟩) (Nat.le_refl _) _)) (⟨kd, nm, tx, ks⟩, .slice (some ⟨g4, 0, none⟩) K cap4) (ndC_ones _ _ _ _) rfl (by first | rfl | (simp [Act.eval]; done)) hpl (by omega) (by simp; omega) ?_); intro v5 w5 hown5 hb5 hs5 hg5))
        have HN5 : Hid (Grows w w5 v5 (ps ++ [(⟨kd, nm, tx, ks⟩, .slice (some ⟨g4, 0, none⟩) K cap4)])) := by
          refine HG.out.1.more (HO4.out.2.setCell (p := ⟨wr.heap.size, 3, none⟩) (Nat.le_refl _) _) ?_ hown5 hg5 (hb5 w ?_)
          · have h4 := (OwnsR.lt HO4.out.1 g4 (by simp [fpOf, Value.ownBlock])).1
            have h5 : OwnsI (w4.setCell ⟨wr.heap.size, 3, none⟩ (.slice (some ⟨g4, 0, none⟩) K cap4)) (wr.heap.size + 1) (.slice (some ⟨g4, 0, none⟩) K cap4) ks := OwnsR.same HO4.out.1 (fun g hg => by
              have : g = g4 := by simpa [fpOf, Value.ownBlock] using hg
              exact kept_set (by omega))
            exact owns_base h5 (by omega)
          · have h0 := HG.out.1.below
            exact (h0.trans (HO4.out.2.mono hsz)).setCell (p := ⟨wr.heap.size, 3, none⟩) hsz _
        have HV5 : Hid (∃ og oc : Nat, v5 = .slice (some ⟨og, 0, none⟩) (t + 1) oc) := by
          rcases OwnsR.form HN5.out.phys.1 with ⟨_, h0⟩ | ⟨g5, cap5, h5, _⟩
          · simp at h0
          · refine ⟨g5, cap5, h5.trans ?_⟩
            have h1 := congrArg List.length HG.out.2
            simp at h1
            rw [List.length_append, List.length_singleton, show ps.length = t by omega]
        have HJ5 : Hid (∃ ps, ps.map Prod.fst = ns.take (t + 1) ∧ Grows w w5 v5 ps) := ⟨_, by rw [List.map_append, HG.out.2, hnx.out]; rfl, HN5.out⟩
        clear hown5 hb5 hs5 hg5 HN5 HG HOn HO4 x0 x1 x2 x3 fr
        go_wp2
        go_roundw
        case rel => exact ⟨t + 1, by omega, by go_num, HV5.out, HJ5⟩
        case measure => simp [intOf]; omega
    · have htN : Hid (t = N) := (by omega : t = N)
      have HF : Hid (∃ ps, ps.map Prod.fst = ns ∧ Grows w wr (.slice (some ⟨og, 0, none⟩) t oc) ps) := ⟨ps, by rw [hps, htN.out, ← HN.out, List.take_length], hg⟩
      rw [htN.out] at HF ⊢
      clear hps hg HJ
      go_wp2
      go_ret
      exact ⟨og, oc, rfl, HF.out⟩

end Go.Proofs.Ytehdaliebloglaa
