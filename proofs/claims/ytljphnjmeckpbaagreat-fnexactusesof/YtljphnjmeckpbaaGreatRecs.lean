/-
  Rows of records: each element is so many cells. What a call owns of them, what one append leaves, one store into a field. No program is named here.
-/
import Derived.Test.YtljphnjmeckpbaaGreatKit
import Derived.Laws.OwnMore
namespace Go.Proofs.YtljphnjmeckpbaaGreat
open Go.RowKit

section
variable {α : Type} {k : Nat}

theorem flat_len {enc : α → List Value} (henc : ∀ x, (enc x).length = k) (xs : List α) : (xs.flatMap enc).length = xs.length * k := by
  induction xs with
  | nil => simp
  | cons x xs ih => rw [List.flatMap_cons, List.length_append, henc, ih, List.length_cons, Nat.add_mul, Nat.one_mul, Nat.add_comm]
theorem flat_at {enc : α → List Value} (henc : ∀ x, (enc x).length = k) (xs : List α) : ∀ (i j : Nat) (hi : i < xs.length), j < k → (xs.flatMap enc)[i * k + j]? = (enc xs[i])[j]? := by
  induction xs with
  | nil => intro i j hi; simp at hi
  | cons x xs ih =>
    intro i j hi hj
    rw [List.flatMap_cons]
    cases i with
    | zero =>
      rw [Nat.zero_mul, Nat.zero_add, List.getElem?_append_left (by rw [henc]; exact hj)]
      rfl
    | succ i =>
      rw [List.getElem?_append_right (by rw [henc, Nat.add_mul, Nat.one_mul]; omega), henc, show (i + 1) * k + j - k = i * k + j by rw [Nat.add_mul, Nat.one_mul]; omega]
      exact ih i j (by simpa using hi) hj
theorem flat_set {enc : α → List Value} (henc : ∀ x, (enc x).length = k) (xs : List α) : ∀ (i j : Nat) (hi : i < xs.length) (y : α) (u : Value), j < k → enc y = (enc xs[i]).set j u → (xs.flatMap enc).set (i * k + j) u = (xs.set i y).flatMap enc := by
  induction xs with
  | nil => intro i j hi; simp at hi
  | cons x xs ih =>
    intro i j hi y u hj he
    cases i with
    | zero =>
      rw [List.flatMap_cons, Nat.zero_mul, Nat.zero_add, List.set_append_left _ _ (by rw [henc]; exact hj), List.set_cons_zero, List.flatMap_cons, he]
      rfl
    | succ i =>
      rw [List.flatMap_cons, List.set_append_right _ _ (by rw [henc, Nat.add_mul, Nat.one_mul]; omega), henc, show (i + 1) * k + j - k = i * k + j by rw [Nat.add_mul, Nat.one_mul]; omega, List.set_cons_succ, List.flatMap_cons]
      rw [ih i j (by simpa using hi) y u hj he]

/-- A row of records that the call owns. -/
def OwnsR (enc : α → List Value) (k : Nat) (w : World) (B : Nat) (e : TypeId) (v : Value) (xs : List α) : Prop := w.ownsRow B e k v xs.length (xs.flatMap enc)

theorem OwnsR.kept {enc : α → List Value} {w w' : World} {B : Nat} {e : TypeId} {v : Value} {xs : List α} {row : Option Nat} (h : OwnsR enc k w B e v xs) (hg : w.grownBy w' row) (hne : v.ownBlock = none ∨ v.ownBlock ≠ row) : OwnsR enc k w' B e v xs := World.ownsRow.kept h hg hne
theorem OwnsR.below {enc : α → List Value} {w w' : World} {B : Nat} {e : TypeId} {v : Value} {xs : List α} (h : OwnsR enc k w B e v xs) (hb : Below w.heap.size w w') : OwnsR enc k w' B e v xs := h.kept (grown_of_below hb) (Classical.em _)
theorem ownsR_nil (enc : α → List Value) (k : Nat) (w : World) (B : Nat) (e : TypeId) : OwnsR enc k w B e (.slice none 0 0) ([] : List α) := ⟨by simp, .inl ⟨rfl, rfl⟩⟩
theorem OwnsR.form {enc : α → List Value} {w : World} {B : Nat} {e : TypeId} {v : Value} {xs : List α} (h : OwnsR enc k w B e v xs) :
    (v = .slice none 0 0 ∧ xs = []) ∨ ∃ g cap, v = .slice (some ⟨g, 0, none⟩) xs.length cap ∧ B ≤ g ∧ g < w.heap.size := by
  have h' := h
  obtain ⟨hl, h2⟩ := h'
  rcases h2 with ⟨rfl, h0⟩ | ⟨g, cap, cur, rfl, hbg, hg, hnc, hcm, hcs, htake⟩
  · exact .inl ⟨rfl, List.eq_nil_of_length_eq_zero h0⟩
  · refine .inr ⟨g, cap, rfl, hbg, ?_⟩
    rcases Nat.lt_or_ge g w.heap.size with h' | h'
    · exact h'
    · simp [Array.getElem?_eq_none h'] at hg
theorem OwnsR.cell {enc : α → List Value} (henc : ∀ x, (enc x).length = k) {w : World} {B : Nat} {e : TypeId} {g cap n : Nat} {xs : List α} (h : OwnsR enc k w B e (.slice (some ⟨g, 0, none⟩) n cap) xs) (hn : n = xs.length) (i j : Nat) (hi : i < xs.length) (hj : j < k) : w.cell? ⟨g, i * k + j, none⟩ = (enc xs[i])[j]? := by
  subst hn
  have hij : i * k + j < xs.length * k := by
    have : (i + 1) * k ≤ xs.length * k := Nat.mul_le_mul_right _ hi
    rw [Nat.add_mul, Nat.one_mul] at this
    omega
  rw [World.ownsRow.cellAt h _ hij, flat_at henc xs i j hi hj]
theorem OwnsR.free {enc : α → List Value} {w : World} {B : Nat} {e : TypeId} {g cap n : Nat} {xs : List α} (h : OwnsR enc k w B e (.slice (some ⟨g, 0, none⟩) n cap) xs) (hn : n = xs.length) (i : Nat) : w.frozen? ⟨g, i, none⟩ = false := by
  subst hn
  exact World.ownsRow.frozenAt h i

theorem news_block (w : World) (ys : List Value) (e : TypeId) : ∀ j u, ys[j]? = some u → (w.alloc (.cells ys.toArray e)).cell? ((⟨w.heap.size, 0, none⟩ : Addr).add j) = some u := by
  intro j u hj
  have ha : (⟨w.heap.size, 0, none⟩ : Addr).add j = ⟨w.heap.size, j, none⟩ := by unfold Addr.add; split <;> simp_all
  rw [ha, World.cell?_alloc_mark]
  simpa using hj

/-- 'out = append(out, y)', out a row of records that the call owns, the record laid in a new block right ahead. -/
theorem appendR {enc : α → List Value} (henc : ∀ x, (enc x).length = k) {P : Program} {w0 : World} {ops : Array Oper} {rest : List Oper} {o : Oper} {a : Act} {Q : Exit → Act → World → Prop}
    (hgd : o.guard = none) (s x : Operand) (t : TypeId) (ho : o.op = .call { callee := .builtin .append, args := #[s, x], argTypes := #[t, t] })
    (B : Nat) (e : TypeId) (z : Value) (bytes : Nat) (ht : P.underlying t = some (.slice e)) (hi : (P.info? e).map (fun i => (i.zero, i.size, i.bytes)) = some (some z, k, bytes)) (hzs : z.cells.size = k) (hk : 0 < k)
    {v : Value} {xs : List α} (hown : OwnsR enc k w0 B e v xs) (y : α) (h1 : ∀ u ∈ enc y, u.oneCell' = true) (hs : a.eval s = v) (hx : a.eval x = .slice (some ⟨w0.heap.size, 0, none⟩) 1 1)
    (hlen : xs.length ≤ 10000000) (hby : bytes ≤ 1000) (hB : B ≤ w0.heap.size)
    (h : ∀ v' w', OwnsR enc k w' B e v' (xs ++ [y]) → (∀ W, Below B W w0 → Below B W w') → w0.heap.size ≤ w'.heap.size → w0.grownBy w' v.ownBlock → wpList P ops Q rest (a.put o.dst v') w') :
    wpList P ops Q (o :: rest) a (w0.alloc (.cells (enc y).toArray e)) := by
  obtain ⟨i, hi, hz0, hz1, hz2⟩ := info_parts hi
  refine wpList_append_own _ hgd s x t ho B e i z k bytes ht hi hz0 hz1 hz2 hzs hk v xs.length (xs.flatMap enc) hs (World.ownsRow.alloc hown _) ⟨w0.heap.size, 0, none⟩ 1 1 (enc y) hx (by rw [henc, Nat.one_mul]) (news_block w0 _ e) h1 (by unfold maxLen; omega) ?_ (by simp; omega) ?_
  · have : (xs.length + 1) * bytes ≤ 10000001 * 1000 := Nat.mul_le_mul (by omega) hby
    omega
  intro v' w' ho' hg _
  refine h v' w' ?_ ?_ ?_ ?_
  · unfold OwnsR
    rw [List.flatMap_append, List.length_append]
    simpa using ho'
  · intro W hW
    exact (hW.alloc hB _).grown hg (by simp; omega) (fun k hk => toNat_lt_of_own hown k hk)
  · have := hg.size
    simp at this
    omega
  · refine ⟨hg.os, hg.tape, hg.output, ?_, fun j hj hne => ?_⟩
    · have := hg.size
      simp at this
      omega
    · rw [hg.block j (by simp; omega) hne]
      exact Below.heap_alloc w0 _ j hj

/-- One store into a field of a record that the call owns. -/
theorem OwnsR.stored {enc : α → List Value} (henc : ∀ x, (enc x).length = k) {w : World} {B : Nat} {e : TypeId} {g cap n : Nat} {xs : List α} (h : OwnsR enc k w B e (.slice (some ⟨g, 0, none⟩) n cap) xs) (hn : n = xs.length) (i j : Nat) (hi : i < xs.length) (hj : j < k) (y : α) (u : Value) (he : enc y = (enc xs[i]).set j u) :
    OwnsR enc k (w.setCell ⟨g, i * k + j, none⟩ u) B e (.slice (some ⟨g, 0, none⟩) n cap) (xs.set i y) := by
  subst hn
  have := (World.ownsRow.stored h (i * k + j) u).1
  rw [flat_set henc xs i j hi y u hj he] at this
  unfold OwnsR
  rw [List.length_set]
  exact this
end

end Go.Proofs.YtljphnjmeckpbaaGreat
