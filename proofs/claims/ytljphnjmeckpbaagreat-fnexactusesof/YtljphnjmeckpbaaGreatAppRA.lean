/-
  Append of one record to a row of the call's own: what it leaves, and where the row lies then. No program is named here.
-/
import Derived.Test.YtljphnjmeckpbaaGreatRecs
import Derived.Maps.AppendAt
namespace Go.Proofs.YtljphnjmeckpbaaGreat
open Go.RowKit

/-- 'append' of one record, and where the row lies then. -/
theorem appendRA {α : Type} {k : Nat} {enc : α → List Value} (henc : ∀ x, (enc x).length = k) {P : Program} {w0 : World} {ops : Array Oper} {rest : List Oper} {o : Oper} {a : Act} {Q : Exit → Act → World → Prop}
    (hgd : o.guard = none) (s x : Operand) (t : TypeId) (ho : o.op = .call { callee := .builtin .append, args := #[s, x], argTypes := #[t, t] })
    (B : Nat) (e : TypeId) (z : Value) (bytes : Nat) (ht : P.underlying t = some (.slice e)) (hi : (P.info? e).map (fun i => (i.zero, i.size, i.bytes)) = some (some z, k, bytes)) (hzs : z.cells.size = k) (hk : 0 < k)
    {v : Value} {xs : List α} (hown : OwnsR enc k w0 B e v xs) (y : α) (h1 : ∀ u ∈ enc y, u.oneCell' = true) (hs : a.eval s = v) (hx : a.eval x = .slice (some ⟨w0.heap.size, 0, none⟩) 1 1)
    (hlen : xs.length ≤ 10000000) (hby : bytes ≤ 1000) (hB : B ≤ w0.heap.size)
    (h : ∀ v' w', OwnsR enc k w' B e v' (xs ++ [y]) → w0.grownBy w' v.ownBlock → (v'.ownBlock = v.ownBlock ∨ ∃ b, v'.ownBlock = some b ∧ w0.heap.size ≤ b) → (∃ g cap, v' = .slice (some ⟨g, 0, none⟩) (xs.length + 1) cap) → wpList P ops Q rest (a.put o.dst v') w') :
    wpList P ops Q (o :: rest) a (w0.alloc (.cells (enc y).toArray e)) := by
  obtain ⟨i, hi, hz0, hz1, hz2⟩ := info_parts hi
  refine wpList_append_own_at _ hgd s x t ho B e i z k bytes ht hi hz0 hz1 hz2 hzs hk v xs.length (xs.flatMap enc) hs (World.ownsRow.alloc hown _) ⟨w0.heap.size, 0, none⟩ 1 1 (enc y) hx (by rw [henc, Nat.one_mul]) (news_block w0 _ e) h1 (by unfold maxLen; omega) ?_ (by simp; omega) ?_
  · have : (xs.length + 1) * bytes ≤ 10000001 * 1000 := Nat.mul_le_mul (by omega) hby
    omega
  intro v' w' ho' hg hn hat
  have ho2 : OwnsR enc k w' B e v' (xs ++ [y]) := by
    unfold OwnsR
    rw [List.flatMap_append, List.length_append]
    simpa using ho'
  refine h v' w' ho2 ?_ ?_ ?_
  · refine ⟨hg.os, hg.tape, hg.output, ?_, fun j hj hne => ?_⟩
    · have := hg.size
      simp at this
      omega
    · rw [hg.block j (by simp; omega) hne]
      exact Below.heap_alloc w0 _ j hj
  · rcases hat with e | e
    · exact .inl e
    · exact .inr ⟨_, e, by simp⟩
  · rcases OwnsR.form ho2 with ⟨_, h0⟩ | ⟨g5, cap5, h5, _⟩
    · simp at h0
    · refine ⟨g5, cap5, ?_⟩
      rw [h5, List.length_append, List.length_singleton]

/-- The same at a step of a region that draws its order. -/
theorem step_appendRA {α : Type} {k : Nat} {enc : α → List Value} (henc : ∀ x, (enc x).length = k) {P : Program} {w : World} {ops : Array Oper} {o : Oper} {a : Act} {K : Act → World → Prop} {Q : Exit → Act → World → Prop} {E : Prop}
    (hgd : o.guard = none) (s x : Operand) (t : TypeId) (ho : o.op = .call { callee := .builtin .append, args := #[s, x], argTypes := #[t, t] })
    (B : Nat) (e : TypeId) (z : Value) (bytes : Nat) (ht : P.underlying t = some (.slice e)) (hi : (P.info? e).map (fun i => (i.zero, i.size, i.bytes)) = some (some z, k, bytes)) (hzs : z.cells.size = k) (hk : 0 < k)
    {v : Value} {xs : List α} (hown : OwnsR enc k w B e v xs) (y : α) (h1 : ∀ u ∈ enc y, u.oneCell' = true) (b : Nat) (fr : Nat × Nat) (hb : w.heap[b]? = some (.cells (enc y).toArray e fr)) (hs : a.eval s = v) (hx : a.eval x = .slice (some ⟨b, 0, none⟩) 1 1)
    (hlen : xs.length ≤ 10000000) (hby : bytes ≤ 1000) (hB : B ≤ w.heap.size)
    (h : ∀ v' w', OwnsR enc k w' B e v' (xs ++ [y]) → w.grownBy w' v.ownBlock → (v'.ownBlock = v.ownBlock ∨ ∃ b, v'.ownBlock = some b ∧ w.heap.size ≤ b) → (∃ g cap, v' = .slice (some ⟨g, 0, none⟩) (xs.length + 1) cap) → K (a.put o.dst v') w') :
    if Region.wanted o (yielded ops a.tmps) = true then Oper.wp P o a w K Q else E := by
  have hw : Region.wanted o (yielded ops a.tmps) = true := by simp [Region.wanted, hgd]
  rw [if_pos hw]
  obtain ⟨i, hi, hz0, hz1, hz2⟩ := info_parts hi
  have hbt : (xs.length + 1) * bytes ≤ 140737488355328 := by
    have : (xs.length + 1) * bytes ≤ 10000001 * 1000 := Nat.mul_le_mul (by omega) hby
    omega
  have hnews : ∀ j u, (enc y)[j]? = some u → w.cell? ((⟨b, 0, none⟩ : Addr).add j) = some u := by
    have := World.news_of_block hb
    simpa using this
  obtain ⟨v', w', hr, h2, h3, h4, h5⟩ := run_append_own_at (P := P) w B t o.type e i z k bytes ht hi hz0 hz1 hz2 hzs hk v xs.length (xs.flatMap enc) hown ⟨b, 0, none⟩ 1 1 (enc y) (by rw [henc, Nat.one_mul]) hnews h1 (by unfold maxLen; omega) hbt hB
  have ho2 : OwnsR enc k w' B e v' (xs ++ [y]) := by
    unfold OwnsR
    rw [List.flatMap_append, List.length_append]
    simpa using h2
  unfold Oper.wp execOp
  simp only [ho, resolve, invoke, builtin, Sem.run_bind, Sem.run_pure, Result.andThen_ok, List.map_toArray, List.map_cons, List.map_nil, hs, hx, hr]
  refine h v' w' ho2 h3 ?_ ?_
  · rcases h5 with e | e
    · exact .inl e
    · exact .inr ⟨_, e, Nat.le_refl _⟩
  · rcases OwnsR.form ho2 with ⟨_, h0⟩ | ⟨g5, cap5, h6, _⟩
    · simp at h0
    · refine ⟨g5, cap5, ?_⟩
      rw [h6, List.length_append, List.length_singleton]

end Go.Proofs.YtljphnjmeckpbaaGreat
