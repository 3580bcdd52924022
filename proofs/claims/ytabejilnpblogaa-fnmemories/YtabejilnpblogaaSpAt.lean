/-
  A memory that lies at a block of its own: what stores leave.
-/
import Derived.Test.YtabejilnpblogaaSpMem
import Derived.Test.YtabejilnpblogaaKa
namespace Go.Proofs.Ytabejilnpblogaa
open Go.RowKit

theorem nd_of {p : Nat} {v0 v1 v2 : Value} (h0 : ∀ g ∈ fpOf v0, g ≠ p ∧ g ∉ fpOf v1 ∧ g ∉ fpOf v2) (h1 : ∀ g ∈ fpOf v1, g ≠ p ∧ g ∉ fpOf v2) (h2 : ∀ g ∈ fpOf v2, g ≠ p) : (p :: fps [v0, v1, v2]).Nodup := by
  rw [show fps [v0, v1, v2] = fpOf v0 ++ (fpOf v1 ++ fpOf v2) by simp [fps], List.nodup_cons, List.nodup_append, List.nodup_append]
  have hn : ∀ v : Value, (fpOf v).Nodup := fun v => by
    rcases fp_one v with e | ⟨g, e⟩ <;> rw [e] <;> simp
  refine ⟨fun hm => ?_, hn _, ⟨hn _, hn _, fun a ha b hb e => (h1 a ha).2 (e ▸ hb)⟩, fun a ha b hb e => ?_⟩
  · rcases List.mem_append.mp hm with h | h
    · exact (h0 p h).1 rfl
    · rcases List.mem_append.mp h with h | h
      · exact (h1 p h).1 rfl
      · exact (h2 p h) rfl
  · subst e
    rcases List.mem_append.mp hb with h | h
    · exact (h0 a ha).2.1 h
    · exact (h0 a ha).2.2 h
theorem of_nd {p : Nat} {v0 v1 v2 : Value} (h : (p :: fps [v0, v1, v2]).Nodup) : (∀ g ∈ fpOf v0, g ≠ p ∧ g ∉ fpOf v1 ∧ g ∉ fpOf v2) ∧ (∀ g ∈ fpOf v1, g ≠ p ∧ g ∉ fpOf v2) ∧ ∀ g ∈ fpOf v2, g ≠ p := by
  rw [show fps [v0, v1, v2] = fpOf v0 ++ (fpOf v1 ++ fpOf v2) by simp [fps], List.nodup_cons, List.nodup_append, List.nodup_append] at h
  obtain ⟨hp, _, ⟨_, _, h12⟩, h0⟩ := h
  refine ⟨fun g hg => ⟨fun e => hp (e ▸ List.mem_append_left _ hg), fun h => h0 g hg g (List.mem_append_left _ h) rfl, fun h => h0 g hg g (List.mem_append_right _ h) rfl⟩, fun g hg => ⟨fun e => hp (e ▸ List.mem_append_right _ (List.mem_append_left _ hg)), fun h => h12 g hg g h rfl⟩, fun g hg e => hp (e ▸ List.mem_append_right _ (List.mem_append_right _ hg))⟩

variable {K p : Nat} {W W' : World} {v0 v1 v2 : Value} {m : Mm}

theorem MmAt.lt (h : MmAt K W p v0 v1 v2 m) : p < W.heap.size := by
  rcases Nat.lt_or_ge p W.heap.size with h1 | h1
  · exact h1
  · have := h.blk
    rw [Array.getElem?_eq_none h1] at this
    cases this
theorem MmAt.below (h : MmAt K W p v0 v1 v2 m) (hb : Below W.heap.size W W') : MmAt K W' p v0 v1 v2 m :=
  ⟨(hb.block p h.lt).trans h.blk, OwnsR.below h.cells hb, OwnsR.below h.input hb, OwnsR.below h.out hb, h.nd, h.low⟩
theorem MmAt.row (h : MmAt K W p v0 v1 v2 m) : RowMm W W.heap.size v0 v1 v2 m :=
  ⟨CeR.read1 h.cells (fun g hg => (OwnsR.lt h.cells g hg).2), OwnsI.row h.input, OwnsI.row h.out⟩
/-- One store into the memory's own block, its rows the same. -/
theorem MmAt.put (h : MmAt K W p v0 v1 v2 m) (j : Nat) (u : Value) (m' : Mm) (hc : m'.cells = m.cells ∧ m'.input = m.input ∧ m'.out = m.out) (he : Array.setIfInBounds #[v0, v1, v2, .int .i64 m.fuel, .int .i64 m.bad] j u = #[v0, v1, v2, .int .i64 m'.fuel, .int .i64 m'.bad]) : MmAt K (W.setCell ⟨p, j, none⟩ u) p v0 v1 v2 m' := by
  have ha := of_nd h.nd
  refine ⟨by rw [heap_set h.blk, he], ?_, ?_, ?_, h.nd, h.low⟩
  · rw [hc.1]; exact OwnsR.same h.cells (fun g hg => kept_set (ha.1 g hg).1)
  · rw [hc.2.1]; exact OwnsR.same h.input (fun g hg => kept_set (ha.2.1 g hg).1)
  · rw [hc.2.2]; exact OwnsR.same h.out (fun g hg => kept_set (ha.2.2 g hg))
theorem MmAt.fuelTo (h : MmAt K W p v0 v1 v2 m) (f : Int) : MmAt K (W.setCell ⟨p, 3, none⟩ (.int .i64 f)) p v0 v1 v2 { m with fuel := f } := h.put 3 _ _ ⟨rfl, rfl, rfl⟩ rfl
theorem MmAt.badTo (h : MmAt K W p v0 v1 v2 m) (b : Int) : MmAt K (W.setCell ⟨p, 4, none⟩ (.int .i64 b)) p v0 v1 v2 { m with bad := b } := h.put 4 _ _ ⟨rfl, rfl, rfl⟩ rfl
theorem MmAt.set_below (h : MmAt K W p v0 v1 v2 m) (j : Nat) (u : Value) : Below K W (W.setCell ⟨p, j, none⟩ u) := (Below.refl K W).setCell (p := ⟨p, j, none⟩) h.low u
theorem fp_grown {v v' : Value} {n : Nat} (h : v'.ownBlock = v.ownBlock ∨ ∃ b, v'.ownBlock = some b ∧ n ≤ b) : ∀ g ∈ fpOf v', g ∈ fpOf v ∨ n ≤ g := by
  intro g hg
  unfold fpOf at hg ⊢
  rcases h with h | ⟨b, h, hn⟩
  · rw [h] at hg; exact .inl hg
  · rw [h] at hg
    simp at hg
    exact .inr (by omega)
/-- A row that grew: the cells. -/
theorem MmAt.grow0 {a' : Option Addr} {n' c' : Nat} {cs : List Ce} {W2 : World} (h : MmAt K W p v0 v1 v2 m) (ho : OwnsR ceC 2 W2 K 82 (.slice a' n' c') cs) (hg : W.grownBy W2 v0.ownBlock) (hat : (Value.slice a' n' c').ownBlock = v0.ownBlock ∨ ∃ b, (Value.slice a' n' c').ownBlock = some b ∧ W.heap.size ≤ b) :
    MmAt K (W2.setCell ⟨p, 0, none⟩ (.slice a' n' c')) p (.slice a' n' c') v1 v2 { m with cells := cs } := by
  have ha := of_nd h.nd
  have hp := h.lt
  have hf := fp_grown hat
  have hk : ∀ g, g < W.heap.size → g ∉ fpOf v0 → W2.heap[g]? = W.heap[g]? := fun g hl hn => hg.block g hl (fun e => hn (by unfold fpOf; rw [← e]; simp))
  have hb : W2.heap[p]? = some (.cells #[v0, v1, v2, .int .i64 m.fuel, .int .i64 m.bad] 27 (0, 0)) := (hk p hp (fun hm => (ha.1 p hm).1 rfl)).trans h.blk
  have l1 : ∀ g ∈ fpOf v1, g < W.heap.size := fun g hg => (OwnsR.lt h.input g hg).2
  have l2 : ∀ g ∈ fpOf v2, g < W.heap.size := fun g hg => (OwnsR.lt h.out g hg).2
  refine ⟨by rw [heap_set hb]; rfl, OwnsR.same ho (fun g hg' => kept_set (fun e => ?_)), OwnsR.same h.input (fun g hg' => (kept_set (ha.2.1 g hg').1).trans (hk g (l1 g hg') (fun hm => (ha.1 g hm).2.1 hg'))), OwnsR.same h.out (fun g hg' => (kept_set (ha.2.2 g hg')).trans (hk g (l2 g hg') (fun hm => (ha.1 g hm).2.2 hg'))), ?_, h.low⟩
  · subst e
    rcases hf g hg' with h1 | h1
    · exact (ha.1 g h1).1 rfl
    · omega
  · refine nd_of (fun g hg' => ?_) ha.2.1 ha.2.2
    rcases hf g hg' with h1 | h1
    · exact ha.1 g h1
    · exact ⟨by omega, fun hm => by have := l1 g hm; omega, fun hm => by have := l2 g hm; omega⟩
/-- The same: what was told. -/
theorem MmAt.grow2 {a' : Option Addr} {n' c' : Nat} {cs : List Int} {W2 : World} (h : MmAt K W p v0 v1 v2 m) (ho : OwnsI W2 K (.slice a' n' c') cs) (hg : W.grownBy W2 v2.ownBlock) (hat : (Value.slice a' n' c').ownBlock = v2.ownBlock ∨ ∃ b, (Value.slice a' n' c').ownBlock = some b ∧ W.heap.size ≤ b) :
    MmAt K (W2.setCell ⟨p, 2, none⟩ (.slice a' n' c')) p v0 v1 (.slice a' n' c') { m with out := cs } := by
  have ha := of_nd h.nd
  have hp := h.lt
  have hf := fp_grown hat
  have hk : ∀ g, g < W.heap.size → g ∉ fpOf v2 → W2.heap[g]? = W.heap[g]? := fun g hl hn => hg.block g hl (fun e => hn (by unfold fpOf; rw [← e]; simp))
  have hb : W2.heap[p]? = some (.cells #[v0, v1, v2, .int .i64 m.fuel, .int .i64 m.bad] 27 (0, 0)) := (hk p hp (fun hm => ha.2.2 p hm rfl)).trans h.blk
  have l0 : ∀ g ∈ fpOf v0, g < W.heap.size := fun g hg => (OwnsR.lt h.cells g hg).2
  have l1 : ∀ g ∈ fpOf v1, g < W.heap.size := fun g hg => (OwnsR.lt h.input g hg).2
  refine ⟨by rw [heap_set hb]; rfl, OwnsR.same h.cells (fun g hg' => (kept_set (ha.1 g hg').1).trans (hk g (l0 g hg') (fun hm => (ha.1 g hg').2.2 hm))), OwnsR.same h.input (fun g hg' => (kept_set (ha.2.1 g hg').1).trans (hk g (l1 g hg') (fun hm => (ha.2.1 g hg').2 hm))), OwnsR.same ho (fun g hg' => kept_set (fun e => ?_)), ?_, h.low⟩
  · subst e
    rcases hf g hg' with h1 | h1
    · exact ha.2.2 g h1 rfl
    · omega
  · refine nd_of (fun g hg' => ⟨(ha.1 g hg').1, (ha.1 g hg').2.1, fun hm => ?_⟩) (fun g hg' => ⟨(ha.2.1 g hg').1, fun hm => ?_⟩) (fun g hg' => ?_)
    · rcases hf g hm with h1 | h1
      · exact (ha.1 g hg').2.2 h1
      · have := l0 g hg'; omega
    · rcases hf g hm with h1 | h1
      · exact (ha.2.1 g hg').2 h1
      · have := l1 g hg'; omega
    · rcases hf g hg' with h1 | h1
      · exact ha.2.2 g h1
      · omega
/-- A new row: what is asked for. -/
theorem MmAt.new1 {a' : Option Addr} {n' c' : Nat} {cs : List Int} {W2 : World} (h : MmAt K W p v0 v1 v2 m) (ho : OwnsI W2 K (.slice a' n' c') cs) (hb : Below W.heap.size W W2) (hat : ∀ g ∈ fpOf (.slice a' n' c'), W.heap.size ≤ g) :
    MmAt K (W2.setCell ⟨p, 1, none⟩ (.slice a' n' c')) p v0 (.slice a' n' c') v2 { m with input := cs } := by
  have ha := of_nd h.nd
  have hp := h.lt
  have h2 := h.below hb
  have l0 : ∀ g ∈ fpOf v0, g < W.heap.size := fun g hg => (OwnsR.lt h.cells g hg).2
  have l2 : ∀ g ∈ fpOf v2, g < W.heap.size := fun g hg => (OwnsR.lt h.out g hg).2
  refine ⟨by rw [heap_set h2.blk]; rfl, OwnsR.same h2.cells (fun g hg' => kept_set (ha.1 g hg').1), OwnsR.same ho (fun g hg' => kept_set (by have := hat g hg'; omega)), OwnsR.same h2.out (fun g hg' => kept_set (ha.2.2 g hg')), ?_, h.low⟩
  refine nd_of (fun g hg' => ⟨(ha.1 g hg').1, fun hm => ?_, (ha.1 g hg').2.2⟩) (fun g hg' => ⟨by have := hat g hg'; omega, fun hm => ?_⟩) ha.2.2
  · have := hat g hm; have := l0 g hg'; omega
  · have := hat g hg'; have := l2 g hm; omega
/-- One store into a cell. -/
theorem MmAt.cellTo {g n cap : Nat} (h : MmAt K W p (.slice (some ⟨g, 0, none⟩) n cap) v1 v2 m) (k j : Nat) (hk : k < m.cells.length) (hj : j < 2) (c : Ce) (u : Value) (he : ceC c = (ceC m.cells[k]).set j u) :
    MmAt K (W.setCell ⟨g, k * 2 + j, none⟩ u) p (.slice (some ⟨g, 0, none⟩) n cap) v1 v2 { m with cells := m.cells.set k c } := by
  have ha := of_nd h.nd
  have hg : g ∈ fpOf (Value.slice (some ⟨g, 0, none⟩) n cap) := by simp [fpOf, Value.ownBlock]
  have hn : n = m.cells.length := by
    rcases OwnsR.form h.cells with ⟨e, _⟩ | ⟨g', c', e, _⟩
    · cases e
    · cases e; rfl
  exact ⟨(kept_set (Ne.symm (ha.1 g hg).1)).trans h.blk, OwnsR.stored CeR.len h.cells hn k j hk hj c u he, OwnsR.same h.input (fun x hx => kept_set (fun e => (ha.1 g hg).2.1 (e ▸ hx))), OwnsR.same h.out (fun x hx => kept_set (fun e => (ha.1 g hg).2.2 (e ▸ hx))), h.nd, h.low⟩
theorem MmAt.form (h : MmAt K W p v0 v1 v2 m) : (m.cells = [] ∧ v0 = .slice none 0 0) ∨ ∃ g cap, v0 = .slice (some ⟨g, 0, none⟩) m.cells.length cap ∧ K ≤ g ∧ g < W.heap.size := by
  rcases OwnsR.form h.cells with ⟨e, e'⟩ | ⟨g', c', e, h1⟩
  · exact .inl ⟨e', e⟩
  · exact .inr ⟨g', c', e, OwnsR.lt h.cells g' (by rw [e]; simp [fpOf, Value.ownBlock])⟩

end Go.Proofs.Ytabejilnpblogaa
