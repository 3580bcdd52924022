/-
  The program's keeper of a memory: cells behind pointers.
-/
import Derived.Test.YtabejilnpblogaaSpX
namespace Go.Proofs.Ytabejilnpblogaa
open Go.RowKit

def ptC (a : Nat × Nat) : List Value := [.pointer (some ⟨a.1, a.2, none⟩)]
theorem ptC_len (a : Nat × Nat) : (ptC a).length = 1 := rfl
theorem ptC_one (ads : List (Nat × Nat)) : ∀ y ∈ ads, ∀ u ∈ ptC y, u.oneCell' = true := by
  intro y _ u hu
  simp [ptC] at hu
  subst hu
  rfl
theorem Try.infoPt : (Try.prog.info? 99).map (fun i => (i.zero, i.size, i.bytes)) = some (some (.pointer none), 1, 8) := by kernel_rfl

/-- A keeper at block p: its rows, and where its cells lie. -/
structure KpAt (K : Nat) (W : World) (p : Nat) (v0 v1 v2 : Value) (ads : List (Nat × Nat)) (m : Mm) : Prop where
  blk : W.heap[p]? = some (.cells #[v0, v1, v2, .int .i64 m.fuel, .int .i64 m.bad] 97 (0, 0))
  ptrs : OwnsR ptC 1 W K 99 v0 ads
  len : ads.length = m.cells.length
  cell : ∀ i (h : i < ads.length) (h' : i < m.cells.length), W.cell? ⟨(ads[i]).1, (ads[i]).2, none⟩ = some (.bool (m.cells[i]).live) ∧ W.cell? ⟨(ads[i]).1, (ads[i]).2 + 1, none⟩ = some (.int .i64 (m.cells[i]).num) ∧ W.frozen? ⟨(ads[i]).1, (ads[i]).2, none⟩ = false ∧ W.frozen? ⟨(ads[i]).1, (ads[i]).2 + 1, none⟩ = false
  far : ∀ a ∈ ads, (K ≤ a.1 ∧ a.1 < W.heap.size ∧ a.1 ≠ p) ∧ a.1 ∉ fpOf v0 ∧ a.1 ∉ fpOf v1 ∧ a.1 ∉ fpOf v2
  apart : ∀ i j (hi : i < ads.length) (hj : j < ads.length), i < j → (ads[i]).1 ≠ (ads[j]).1 ∨ (ads[i]).2 + 2 ≤ (ads[j]).2
  input : OffI W K v1 m.input
  out : OwnsI W K v2 m.out
  nd : (p :: fps [v0, v1, v2]).Nodup
  low : K ≤ p

variable {K p : Nat} {W W' : World} {v0 v1 v2 : Value} {ads : List (Nat × Nat)} {m : Mm}

theorem KpAt.lt (h : KpAt K W p v0 v1 v2 ads m) : p < W.heap.size := by
  rcases Nat.lt_or_ge p W.heap.size with h1 | h1
  · exact h1
  · have := h.blk
    rw [Array.getElem?_eq_none h1] at this
    cases this
theorem cell_same {W W' : World} {b : Nat} (h : W'.heap[b]? = W.heap[b]?) (j : Nat) : W'.cell? ⟨b, j, none⟩ = W.cell? ⟨b, j, none⟩ := by
  unfold World.cell?
  rw [h]
theorem frozen_same {W W' : World} {b : Nat} (h : W'.heap[b]? = W.heap[b]?) (j : Nat) : W'.frozen? ⟨b, j, none⟩ = W.frozen? ⟨b, j, none⟩ := by
  unfold World.frozen?
  rw [h]
theorem OffI.below {w w' : World} {B : Nat} {v : Value} {xs : List Int} (h : OffI w B v xs) (hb : Below w.heap.size w w') : OffI w' B v xs := h.same (fun g hg => hb.block g (h.lt g hg).2)
/-- What keeps all blocks of the keeper keeps the keeper. -/
theorem KpAt.same (h : KpAt K W p v0 v1 v2 ads m) (hs : ∀ g, g = p ∨ g ∈ fpOf v0 ∨ g ∈ fpOf v1 ∨ g ∈ fpOf v2 ∨ (∃ a ∈ ads, g = a.1) → W'.heap[g]? = W.heap[g]?) (hz : W.heap.size ≤ W'.heap.size) : KpAt K W' p v0 v1 v2 ads m := by
  have hc : ∀ i (h : i < ads.length), W'.heap[(ads[i]).1]? = W.heap[(ads[i]).1]? := fun i hi => hs _ (.inr (.inr (.inr (.inr ⟨_, List.getElem_mem hi, rfl⟩))))
  refine ⟨(hs p (.inl rfl)).trans h.blk, OwnsR.same h.ptrs (fun g hg => hs g (.inr (.inl hg))), h.len, fun i hi hi' => ?_, fun a ha => ?_, h.apart, h.input.same (fun g hg => hs g (.inr (.inr (.inl hg)))), OwnsR.same h.out (fun g hg => hs g (.inr (.inr (.inr (.inl hg))))), h.nd, h.low⟩
  · rw [cell_same (hc i hi), cell_same (hc i hi), frozen_same (hc i hi), frozen_same (hc i hi)]
    exact h.cell i hi hi'
  · have := h.far a ha
    exact ⟨⟨this.1.1, by omega, this.1.2.2⟩, this.2⟩
theorem KpAt.blocks (h : KpAt K W p v0 v1 v2 ads m) : ∀ g, g = p ∨ g ∈ fpOf v0 ∨ g ∈ fpOf v1 ∨ g ∈ fpOf v2 ∨ (∃ a ∈ ads, g = a.1) → K ≤ g ∧ g < W.heap.size := by
  intro g hg
  rcases hg with rfl | hg | hg | hg | ⟨a, ha, rfl⟩
  · exact ⟨h.low, h.lt⟩
  · exact OwnsR.lt h.ptrs g hg
  · exact h.input.lt g hg
  · exact OwnsR.lt h.out g hg
  · exact ⟨(h.far a ha).1.1, (h.far a ha).1.2.1⟩
theorem KpAt.below (h : KpAt K W p v0 v1 v2 ads m) (hb : Below W.heap.size W W') : KpAt K W' p v0 v1 v2 ads m :=
  h.same (fun g hg => hb.block g (h.blocks g hg).2) hb.size
/-- One store into the keeper's own block, its rows the same. -/
theorem KpAt.put (h : KpAt K W p v0 v1 v2 ads m) (j : Nat) (u : Value) (m' : Mm) (hc : m'.cells = m.cells ∧ m'.input = m.input ∧ m'.out = m.out) (he : Array.setIfInBounds #[v0, v1, v2, .int .i64 m.fuel, .int .i64 m.bad] j u = #[v0, v1, v2, .int .i64 m'.fuel, .int .i64 m'.bad]) : KpAt K (W.setCell ⟨p, j, none⟩ u) p v0 v1 v2 ads m' := by
  have ha := of_nd h.nd
  have hk : ∀ i (hi : i < ads.length), (W.setCell ⟨p, j, none⟩ u).heap[(ads[i]).1]? = W.heap[(ads[i]).1]? := fun i hi => kept_set (h.far _ (List.getElem_mem hi)).1.2.2
  obtain ⟨c1, c2, c3⟩ := hc
  refine ⟨by rw [heap_set h.blk, he], OwnsR.same h.ptrs (fun g hg => kept_set (ha.1 g hg).1), by rw [c1]; exact h.len, fun i hi hi' => ?_, fun a hm => by have := h.far a hm; simpa using this, h.apart, ?_, ?_, h.nd, h.low⟩
  · rw [cell_same (hk i hi), cell_same (hk i hi), frozen_same (hk i hi), frozen_same (hk i hi)]
    simp only [c1]
    exact h.cell i hi (by rw [← c1]; exact hi')
  · rw [c2]; exact h.input.same (fun g hg => kept_set (ha.2.1 g hg).1)
  · rw [c3]; exact OwnsR.same h.out (fun g hg => kept_set (ha.2.2 g hg))
theorem KpAt.fuelTo (h : KpAt K W p v0 v1 v2 ads m) (f : Int) : KpAt K (W.setCell ⟨p, 3, none⟩ (.int .i64 f)) p v0 v1 v2 ads { m with fuel := f } := h.put 3 _ _ ⟨rfl, rfl, rfl⟩ rfl
theorem KpAt.badTo (h : KpAt K W p v0 v1 v2 ads m) (b : Int) : KpAt K (W.setCell ⟨p, 4, none⟩ (.int .i64 b)) p v0 v1 v2 ads { m with bad := b } := h.put 4 _ _ ⟨rfl, rfl, rfl⟩ rfl
theorem KpAt.set_below (h : KpAt K W p v0 v1 v2 ads m) (j : Nat) (u : Value) : Below K W (W.setCell ⟨p, j, none⟩ u) := (Below.refl K W).setCell (p := ⟨p, j, none⟩) h.low u
theorem cell_set {W : World} {b j c k : Nat} {u : Value} (h : b ≠ c ∨ j ≠ k) : (W.setCell ⟨c, k, none⟩ u).cell? ⟨b, j, none⟩ = W.cell? ⟨b, j, none⟩ :=
  by
  apply World.cell?_setCell_other
  intro e
  injection e with e1 e2
  rcases h with h | h
  · exact h e1.symm
  · exact h e2.symm
/-- One store into a cell. -/
theorem KpAt.cellTo (h : KpAt K W p v0 v1 v2 ads m) (k : Nat) (hk : k < ads.length) (hk' : k < m.cells.length) (f : Nat) (c : Ce) (u : Value) (hf : (f = 0 ∧ u = .bool c.live ∧ c.num = (m.cells[k]).num) ∨ (f = 1 ∧ u = .int .i64 c.num ∧ c.live = (m.cells[k]).live)) :
    KpAt K (W.setCell ⟨(ads[k]).1, (ads[k]).2 + f, none⟩ u) p v0 v1 v2 ads { m with cells := m.cells.set k c } := by
  have hf1 : f ≤ 1 := by rcases hf with h | h <;> omega
  have hk0 := h.far _ (List.getElem_mem hk)
  refine ⟨(kept_set (Ne.symm hk0.1.2.2)).trans h.blk, OwnsR.same h.ptrs (fun g hg => kept_set (fun e => hk0.2.1 (e ▸ hg))), by simp only [List.length_set]; exact h.len, fun i hi hi' => ?_, fun a ha => by have := h.far a ha; simpa using this, h.apart, h.input.same (fun g hg => kept_set (fun e => hk0.2.2.1 (e ▸ hg))), OwnsR.same h.out (fun g hg => kept_set (fun e => hk0.2.2.2 (e ▸ hg))), h.nd, h.low⟩
  have hi2 : i < m.cells.length := by rw [List.length_set] at hi'; exact hi'
  have hc := h.cell i hi hi2
  simp only [World.frozen?_setCell]
  by_cases e : i = k
  · subst e
    simp only [List.getElem_set_self]
    rcases hf with ⟨rfl, rfl, hn⟩ | ⟨rfl, rfl, hl⟩
    · rw [Nat.add_zero]
      exact ⟨by apply World.cell?_setCell_same; exact hc.1, by rw [cell_set (.inr (by omega)), hn]; exact hc.2.1, hc.2.2.1, hc.2.2.2⟩
    · exact ⟨by rw [cell_set (.inr (by omega)), hl]; exact hc.1, by apply World.cell?_setCell_same; exact hc.2.1, hc.2.2.1, hc.2.2.2⟩
  · simp only [List.getElem_set_ne (Ne.symm e)]
    have hap : (ads[i]).1 ≠ (ads[k]).1 ∨ (ads[i]).2 + 2 ≤ (ads[k]).2 ∨ (ads[k]).2 + 2 ≤ (ads[i]).2 := by
      rcases Nat.lt_or_ge i k with h1 | h1
      · rcases h.apart i k hi hk h1 with h2 | h2
        · exact .inl h2
        · exact .inr (.inl h2)
      · rcases h.apart k i hk hi (by omega) with h2 | h2
        · exact .inl (Ne.symm h2)
        · exact .inr (.inr h2)
    have hne : ∀ q, q ≤ 1 → (ads[i]).1 ≠ (ads[k]).1 ∨ (ads[i]).2 + q ≠ (ads[k]).2 + f := fun q hq => by
      rcases hap with h1 | h1 | h1
      · exact .inl h1
      · exact .inr (by omega)
      · exact .inr (by omega)
    have hne0 : (ads[i]).1 ≠ (ads[k]).1 ∨ (ads[i]).2 ≠ (ads[k]).2 + f := by simpa using hne 0 (by omega)
    exact ⟨by rw [cell_set hne0]; exact hc.1, by rw [cell_set (hne 1 (by omega))]; exact hc.2.1, hc.2.2.1, hc.2.2.2⟩
/-- A new cell behind all. -/
theorem KpAt.grow {W2 : World} {a' : Option Addr} {n' c' b : Nat} {n : Int} (h : KpAt K W p v0 v1 v2 ads m) (ho : OwnsR ptC 1 W2 K 99 (.slice a' n' c') (ads ++ [(b, 0)])) (hk : ∀ g, g < W.heap.size → g ∉ fpOf v0 → W2.heap[g]? = W.heap[g]?) (hb : W.heap.size ≤ b) (hbk : W2.heap[b]? = some (.cells #[.bool true, .int .i64 n] 82 (0, 0))) (hat : ∀ g ∈ fpOf (.slice a' n' c'), g ∈ fpOf v0 ∨ W.heap.size ≤ g) (hbn : b ∉ fpOf (.slice a' n' c')) :
    KpAt K (W2.setCell ⟨p, 0, none⟩ (.slice a' n' c')) p (.slice a' n' c') v1 v2 (ads ++ [(b, 0)]) (pushM m n) := by
  have ha := of_nd h.nd
  have hp := h.lt
  have hlow := h.low
  have hpb : W2.heap[p]? = some (.cells #[v0, v1, v2, .int .i64 m.fuel, .int .i64 m.bad] 97 (0, 0)) := (hk p hp (fun hm => (ha.1 p hm).1 rfl)).trans h.blk
  have l1 : ∀ g ∈ fpOf v1, g < W.heap.size := fun g hg => (h.input.lt g hg).2
  have l2 : ∀ g ∈ fpOf v2, g < W.heap.size := fun g hg => (OwnsR.lt h.out g hg).2
  have hbW : b < W2.heap.size := by
    rcases Nat.lt_or_ge b W2.heap.size with h1 | h1
    · exact h1
    · rw [Array.getElem?_eq_none h1] at hbk; cases hbk
  have hnp : ∀ g ∈ fpOf (.slice a' n' c'), g ≠ p := fun g hg e => by
    rcases hat g hg with h1 | h1
    · exact (ha.1 g h1).1 e
    · omega
  have hold : ∀ a ∈ ads, (W2.setCell ⟨p, 0, none⟩ (.slice a' n' c')).heap[a.1]? = W.heap[a.1]? := fun a hm => (kept_set (h.far a hm).1.2.2).trans (hk _ (h.far a hm).1.2.1 (h.far a hm).2.1)
  have hnew : (W2.setCell ⟨p, 0, none⟩ (.slice a' n' c')).heap[b]? = some (.cells #[.bool true, .int .i64 n] 82 (0, 0)) := (kept_set (by omega)).trans hbk
  refine ⟨by rw [heap_set hpb]; rfl, OwnsR.same ho (fun g hg => kept_set (hnp g hg)), by unfold pushM; simp [h.len], fun i hi hi' => ?_, fun a hm => ?_, fun i j hi hj hij => ?_, h.input.same (fun g hg => (kept_set (ha.2.1 g hg).1).trans (hk g (l1 g hg) (fun hm => (ha.1 g hm).2.1 hg))), OwnsR.same h.out (fun g hg => (kept_set (ha.2.2 g hg)).trans (hk g (l2 g hg) (fun hm => (ha.1 g hm).2.2 hg))), ?_, h.low⟩
  · by_cases hl : i < ads.length
    · have hl' : i < m.cells.length := by rw [← h.len]; exact hl
      have hh := hold _ (List.getElem_mem hl)
      have e1 : (pushM m n).cells[i] = m.cells[i] := List.getElem_append_left hl'
      simp only [List.getElem_append_left hl, e1]
      rw [cell_same hh, cell_same hh, frozen_same hh, frozen_same hh]
      exact h.cell i hl hl'
    · have e : i = ads.length := by rw [List.length_append, List.length_singleton] at hi; omega
      have e1 : (ads ++ [(b, 0)])[i] = (b, 0) := by subst e; exact List.getElem_concat_length rfl _
      have e2 : (pushM m n).cells[i] = ⟨true, n⟩ := by
        show (m.cells ++ [(⟨true, n⟩ : Ce)])[i] = _
        have e3 : i = m.cells.length := by rw [e, h.len]
        subst e3
        exact List.getElem_concat_length rfl _
      simp only [e1, e2]
      exact ⟨cell_at hnew 0, cell_at hnew 1, free_at hnew 0, free_at hnew 1⟩
  · rcases List.mem_append.mp hm with hm | hm
    · have := h.far a hm
      refine ⟨⟨this.1.1, by simp; omega, this.1.2.2⟩, fun hm2 => ?_, this.2.2⟩
      rcases hat _ hm2 with h1 | h1
      · exact this.2.1 h1
      · omega
    · obtain rfl := List.mem_singleton.mp hm
      exact ⟨⟨by show K ≤ b; omega, by simpa using hbW, by show b ≠ p; omega⟩, hbn, fun hm => by have : b < W.heap.size := l1 b hm; omega, fun hm => by have : b < W.heap.size := l2 b hm; omega⟩
  · by_cases hl : j < ads.length
    · have hl' : i < ads.length := by omega
      simp only [List.getElem_append_left hl, List.getElem_append_left hl']
      exact h.apart i j hl' hl hij
    · have e : j = ads.length := by rw [List.length_append, List.length_singleton] at hj; omega
      have hi2 : i < ads.length := by omega
      have e1 : (ads ++ [(b, 0)])[j] = (b, 0) := by subst e; exact List.getElem_concat_length rfl _
      simp only [e1, List.getElem_append_left hi2]
      have := (h.far _ (List.getElem_mem hi2)).1.2.1
      exact .inl (by omega)
  · refine nd_of (fun g hg => ?_) ha.2.1 ha.2.2
    rcases hat g hg with h1 | h1
    · exact ha.1 g h1
    · exact ⟨hnp g hg, fun hm => by have := l1 g hm; omega, fun hm => by have := l2 g hm; omega⟩
/-- The same: what was told. -/
theorem KpAt.grow2 {a' : Option Addr} {n' c' : Nat} {cs : List Int} {W2 : World} (h : KpAt K W p v0 v1 v2 ads m) (ho : OwnsI W2 K (.slice a' n' c') cs) (hg : W.grownBy W2 v2.ownBlock) (hat : ∀ g ∈ fpOf (.slice a' n' c'), g ∈ fpOf v2 ∨ W.heap.size ≤ g) :
    KpAt K (W2.setCell ⟨p, 2, none⟩ (.slice a' n' c')) p v0 v1 (.slice a' n' c') ads { m with out := cs } := by
  have ha := of_nd h.nd
  have hp := h.lt
  have hk : ∀ g, g < W.heap.size → g ∉ fpOf v2 → W2.heap[g]? = W.heap[g]? := fun g hl hn => hg.block g hl (fun e => hn (by unfold fpOf; rw [← e]; simp))
  have hpb : W2.heap[p]? = some (.cells #[v0, v1, v2, .int .i64 m.fuel, .int .i64 m.bad] 97 (0, 0)) := (hk p hp (fun hm => ha.2.2 p hm rfl)).trans h.blk
  have l0 : ∀ g ∈ fpOf v0, g < W.heap.size := fun g hg => (OwnsR.lt h.ptrs g hg).2
  have l1 : ∀ g ∈ fpOf v1, g < W.heap.size := fun g hg => (h.input.lt g hg).2
  have hnp : ∀ g ∈ fpOf (.slice a' n' c'), g ≠ p := fun g hg e => by
    rcases hat g hg with h1 | h1
    · exact ha.2.2 g h1 e
    · omega
  have hold : ∀ a ∈ ads, (W2.setCell ⟨p, 2, none⟩ (.slice a' n' c')).heap[a.1]? = W.heap[a.1]? := fun a hm => (kept_set (h.far a hm).1.2.2).trans (hk _ (h.far a hm).1.2.1 (h.far a hm).2.2.2)
  refine ⟨by rw [heap_set hpb]; rfl, OwnsR.same h.ptrs (fun g hg => (kept_set (ha.1 g hg).1).trans (hk g (l0 g hg) (ha.1 g hg).2.2)), h.len, fun i hi hi' => ?_, fun a hm => ?_, h.apart, h.input.same (fun g hg => (kept_set (ha.2.1 g hg).1).trans (hk g (l1 g hg) (ha.2.1 g hg).2)), OwnsR.same ho (fun g hg => kept_set (hnp g hg)), ?_, h.low⟩
  · have hh := hold _ (List.getElem_mem hi)
    rw [cell_same hh, cell_same hh, frozen_same hh, frozen_same hh]
    exact h.cell i hi hi'
  · have := h.far a hm
    have hz := hg.size
    refine ⟨⟨this.1.1, by simp; omega, this.1.2.2⟩, this.2.1, this.2.2.1, fun hm2 => ?_⟩
    rcases hat _ hm2 with h1 | h1
    · exact this.2.2.2 h1
    · omega
  · refine nd_of (fun g hg => ⟨(ha.1 g hg).1, (ha.1 g hg).2.1, fun hm => ?_⟩) (fun g hg => ⟨(ha.2.1 g hg).1, fun hm => ?_⟩) hnp
    · rcases hat g hm with h1 | h1
      · exact (ha.1 g hg).2.2 h1
      · have := l0 g hg; omega
    · rcases hat g hm with h1 | h1
      · exact (ha.2.1 g hg).2 h1
      · have := l1 g hg; omega
/-- The same row, further on: what is asked for. -/
theorem KpAt.next1 {v1' : Value} {xs : List Int} (h : KpAt K W p v0 v1 v2 ads m) (ho : OffI W K v1' xs) (hv : fpOf v1' = fpOf v1) :
    KpAt K (W.setCell ⟨p, 1, none⟩ v1') p v0 v1' v2 ads { m with input := xs } := by
  have ha := of_nd h.nd
  have hold : ∀ a ∈ ads, (W.setCell ⟨p, 1, none⟩ v1').heap[a.1]? = W.heap[a.1]? := fun a hm => kept_set (h.far a hm).1.2.2
  refine ⟨by rw [heap_set h.blk]; rfl, OwnsR.same h.ptrs (fun g hg => kept_set (ha.1 g hg).1), h.len, fun i hi hi' => ?_, fun a hm => ?_, h.apart, ho.same (fun g hg => kept_set (ha.2.1 g (hv ▸ hg)).1), OwnsR.same h.out (fun g hg => kept_set (ha.2.2 g hg)), ?_, h.low⟩
  · have hh := hold _ (List.getElem_mem hi)
    rw [cell_same hh, cell_same hh, frozen_same hh, frozen_same hh]
    exact h.cell i hi hi'
  · have := h.far a hm
    rw [hv]
    simpa using this
  · have := h.nd
    rw [show fps [v0, v1', v2] = fps [v0, v1, v2] by simp [fps, hv]]
    exact this

end Go.Proofs.Ytabejilnpblogaa
