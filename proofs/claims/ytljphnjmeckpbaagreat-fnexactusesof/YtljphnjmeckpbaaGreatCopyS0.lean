/-
  Rows of nodes copied, in the model.
-/
import Derived.Test.YtljphnjmeckpbaaGreatDeepI
import Derived.Test.YtljphnjmeckpbaaGreatBox
import Derived.Test.YtljphnjmeckpbaaGreatMarkInt
namespace Go.Proofs.YtljphnjmeckpbaaGreat
open Go.RowKit

/-- 'append(a, b...)' of rows of numbers, the first of which the call owns. -/
theorem appendI {P : Program} {w0 : World} {ops : Array Oper} {rest : List Oper} {o : Oper} {a : Act} {Q : Exit → Act → World → Prop}
    (hgd : o.guard = none) (s x : Operand) (t : TypeId) (ho : o.op = .call { callee := .builtin .append, args := #[s, x], argTypes := #[t, t] })
    (B : Nat) (ht : P.underlying t = some (.slice 3)) (hi : (P.info? 3).map (fun i => (i.zero, i.size, i.bytes)) = some (some (.int .i64 0), 1, 8))
    {v : Value} {xs : List Int} (hown : OwnsI w0 B v xs) (ys : List Int) (H : Nat) (ad : Addr) (m c : Nat) (hsrc : RowI w0 H (.slice (some ad) m c) ys) (hs : a.eval s = v) (hx : a.eval x = .slice (some ad) m c)
    (hlen : xs.length + ys.length ≤ 10000000) (hB : B ≤ w0.heap.size)
    (h : ∀ v' w', OwnsI w' B v' (xs ++ ys) → w0.grownBy w' v.ownBlock → (v' = .slice none 0 0 ↔ v = .slice none 0 0 ∧ m = 0) → wpList P ops Q rest (a.put o.dst v') w') :
    wpList P ops Q (o :: rest) a w0 := by
  obtain ⟨i, hi, hz0, hz1, hz2⟩ := info_parts hi
  have hm := hsrc.cap.1
  refine wpList_append_own _ hgd s x t ho B 3 i (.int .i64 0) 1 8 ht hi hz0 hz1 hz2 rfl (by decide) v xs.length (xs.flatMap inC) hs hown ad m c (ys.flatMap inC) hx (by rw [flat_len inC_len, hm]) ?_ ?_ (by unfold maxLen; omega) (by omega) hB ?_
  · intro j u hj
    have hjl : j < ys.length := by
      rcases Nat.lt_or_ge j ys.length with h1 | h1
      · exact h1
      · rw [List.getElem?_eq_none (by rw [flat_len inC_len]; omega)] at hj
        cases hj
    obtain ⟨b, off, e, _, hc⟩ := RowI.at hsrc j hjl
    cases e
    have h2 := flat_at inC_len ys j 0 hjl (by omega)
    rw [Nat.mul_one, Nat.add_zero] at h2
    rw [h2] at hj
    have hu : u = .int .i64 ys[j] := by simp [inC] at hj; exact hj.symm
    have ha : (⟨b, off, none⟩ : Addr).add j = ⟨b, off + j, none⟩ := by unfold Addr.add; split <;> simp_all
    rw [ha, hc, hu]
  · intro u hu
    obtain ⟨y, _, hy⟩ := List.mem_flatMap.mp hu
    simp [inC] at hy
    subst hy
    rfl
  intro v' w' h1 h2 h3
  refine h v' w' ?_ h2 h3
  unfold OwnsI OwnsR
  rw [List.flatMap_append, List.length_append, show xs.length + ys.length = xs.length + m by rw [hm]]
  exact h1

theorem form_some {w : World} {B : Nat} {v : Value} {xs : List Int} (h : OwnsI w B v xs) (hn : ¬ v = .slice none 0 0) : ∃ g cap, v = .slice (some ⟨g, 0, none⟩) xs.length cap := by
  rcases OwnsR.form h with ⟨h0, _⟩ | ⟨g4, cap4, h4, _⟩
  · exact absurd h0 hn
  · exact ⟨g4, cap4, h4⟩
theorem ndC_ones (q : Nd) (g n c : Nat) : ∀ u ∈ ndC (q, .slice (some ⟨g, 0, none⟩) n c), u.oneCell' = true := by
  intro u hu
  simp [ndC] at hu
  rcases hu with rfl | rfl | rfl | rfl <;> rfl
theorem ndC_ones0 (q : Nd) : ∀ u ∈ ndC (q, .slice none 0 0), u.oneCell' = true := by
  intro u hu
  simp [ndC] at hu
  rcases hu with rfl | rfl | rfl | rfl <;> rfl

/-- Rows of nodes lie apart from their kids: other types. -/
theorem nd_apart {w : World} {B : Nat} {v : Value} {ps : List (Nd × Value)} (h : NdR.Phys w B v ps) (hn : (fps (ps.flatMap NdR.vals)).Nodup) : (fps (NdR.all v ps)).Nodup := by
  unfold RowTy.all
  rw [fps_cons, List.nodup_append]
  refine ⟨by have := fp_nodup v; rw [fps_one] at this; exact this, hn, ?_⟩
  intro a ha b hb e
  subst e
  obtain ⟨u, hu, hau⟩ := List.mem_flatMap.mp hb
  obtain ⟨q, hq1, hq2⟩ := List.mem_flatMap.mp hu
  have hu2 : u = q.2 := by simpa [NdR] using hq2
  subst hu2
  have hs : OwnsI w B q.2 q.1.kids := h.2 q hq1
  rcases h.1.2 with ⟨rfl, _⟩ | ⟨g, cap, cur, rfl, _, hg, _⟩
  · simp [fpOf, Value.ownBlock] at ha
  · rcases hs.2 with ⟨e0, _⟩ | ⟨g2, cap2, cur2, e2, _, hg2, _⟩
    · rw [e0] at hau
      simp [fpOf, Value.ownBlock] at hau
    · rw [e2] at hau
      have h1 : a = g := by simpa [fpOf, Value.ownBlock] using ha
      have h2 : a = g2 := by simpa [fpOf, Value.ownBlock] using hau
      subst h1 h2
      rw [hg] at hg2
      injection hg2 with h3
      injection h3 with _ h4
      exact absurd h4 (by decide)

/-- A row of nodes that grows node by node. -/
structure Grows (w wr : World) (v : Value) (ps : List (Nd × Value)) : Prop where
  phys : NdR.Phys wr w.heap.size v ps
  nd : (fps (ps.flatMap NdR.vals)).Nodup
  below : Below w.heap.size w wr
theorem Grows.own {w wr : World} {v : Value} {ps : List (Nd × Value)} (h : Grows w wr v ps) : NdR.Own wr w.heap.size wr.heap.size v (ps.map Prod.fst) :=
  ⟨ps, rfl, h.phys, nd_apart h.phys h.nd, h.phys.lt⟩
/-- One more node, its kids in a row that was made since. -/
theorem Grows.more {w wr w1 w2 : World} {v v' : Value} {ps : List (Nd × Value)} {p : Nd × Value} (h : Grows w wr v ps) (hb : Below wr.heap.size wr w1) (hs : OwnsI w1 wr.heap.size p.2 p.1.kids) (ho : OwnsR ndC 4 w2 w.heap.size 67 v' (ps ++ [p])) (hg : w1.grownBy w2 v.ownBlock) (hB : Below w.heap.size w w2) : Grows w w2 v' (ps ++ [p]) := by
  have hv : ∀ q ∈ ps, ∀ g ∈ fps (NdR.vals q), w2.heap[g]? = wr.heap[g]? := fun q hq g hgq => by
    have hlt := (NdR.sub_lt (h.phys.2 q hq) g hgq).2
    have hq2 : g ∈ fpOf q.2 := by simpa [NdR, fps_one] using hgq
    have hne : some g ≠ v.ownBlock := by
      intro e
      have h1 : g ∈ fpOf v := by simp [fpOf, ← e]
      have := nd_apart h.phys h.nd
      unfold RowTy.all at this
      rw [fps_cons, List.nodup_append] at this
      refine this.2.2 g h1 g ?_ rfl
      obtain ⟨u, hu, hgu⟩ := List.mem_flatMap.mp hgq
      exact mem_fps (List.mem_flatMap.mpr ⟨q, hq, hu⟩) hgu
    rw [hg.block g (by have := hb.size; omega) hne]
    exact hb.block g hlt
  have hpn : ∀ g ∈ fpOf p.2, some g ≠ v.ownBlock ∧ wr.heap.size ≤ g ∧ g < w1.heap.size := fun g hgp => by
    have h1 := OwnsR.lt hs g hgp
    refine ⟨fun e => ?_, h1.1, h1.2⟩
    have h2 : g ∈ fpOf v := by simp [fpOf, ← e]
    have := (h.phys.1.lt g h2).2
    omega
  refine ⟨⟨ho, fun q hq => ?_⟩, ?_, hB⟩
  · rcases List.mem_append.mp hq with h1 | h1
    · exact NdR.sub_same (h.phys.2 q h1) (hv q h1)
    · have : q = p := by simpa using h1
      subst this
      have h2 : OwnsI w2 w.heap.size q.2 q.1.kids := OwnsR.same (OwnsR.base hs (fun g hgq => by have := (hpn g hgq).2.1; have := h.below.size; omega)) (fun g hgq => hg.block g (hpn g hgq).2.2 (hpn g hgq).1)
      exact h2
  · rw [List.flatMap_append, fps_append, List.nodup_append]
    refine ⟨h.nd, by have := fp_nodup p.2; simpa [NdR] using this, ?_⟩
    intro a ha b hb' e
    subst e
    obtain ⟨u, hu, hau⟩ := List.mem_flatMap.mp ha
    obtain ⟨q, hq1, hq2⟩ := List.mem_flatMap.mp hu
    have h1 := (NdR.sub_lt (h.phys.2 q hq1) a (mem_fps hq2 hau)).2
    have h2 : a ∈ fpOf p.2 := by simpa [NdR, fps_one] using hb'
    have := (hpn a h2).2.1
    omega

theorem owns_emptyN (w : World) : OwnsR ndC 4 (w.alloc (.cells #[] 67)) w.heap.size 67 (.slice (some ⟨w.heap.size, 0, none⟩) 0 0) [] :=
  ⟨rfl, .inr ⟨w.heap.size, 0, #[], rfl, Nat.le_refl _, heap_alloc_new _ _, Nat.le_refl _, Nat.zero_le _, rfl, rfl⟩⟩
theorem Tryz.infoNode : (Tryz.prog.info? 67).map (fun i => (i.zero, i.size, i.bytes)) = some (some (.agg #[.int .i64 0, .int .i64 0, .string ByteArray.empty, .slice none 0 0]), 4, 56) := by kernel_rfl

end Go.Proofs.YtljphnjmeckpbaaGreat
