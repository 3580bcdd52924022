/-
  The cursor that draws, as memory: the bytes that a law is handed, a block of three cells that a call made. No program is named here.
-/
import Derived.Test.YtepkcabeoennlaaDoorKit
import Derived.BigQuiet
import Derived.Deep.QuietTactic
import Derived.Laws.Bits128
namespace Go.Proofs.YtepkcabeoennlaaDoor
open Go.RowKit

/-- The bytes that a law is handed: n of them, in a block below B, or none. -/
def Code8 (w : World) (B : Nat) (v : Value) (n : Nat) : Prop :=
  ∃ a cap, v = .slice a n cap ∧ (n = 0 ∨ ∃ b off, a = some ⟨b, off, none⟩ ∧ b < B ∧ ∀ i, i < n → ∃ c : Nat, c < 256 ∧ w.cell? ⟨b, off + i, none⟩ = some (.int .u8 (c : Int)))
theorem Code8.kept {w w' : World} {B : Nat} {v : Value} {n : Nat} (h : Code8 w B v n) (hB : B ≤ w.heap.size) {row : Option Nat} (hg : w.grownBy w' row) (hr : ∀ k, row = some k → B ≤ k) : Code8 w' B v n := by
  obtain ⟨a, cap, rfl, h⟩ := h
  refine ⟨a, cap, rfl, h.imp id ?_⟩
  rintro ⟨b, off, rfl, hb, h⟩
  refine ⟨b, off, rfl, hb, fun i hi => ?_⟩
  obtain ⟨c, hc, hw⟩ := h i hi
  exact ⟨c, hc, by rw [hg.cell_far ⟨b, off + i, none⟩ (by show b < _; omega) (fun e => by have := hr b (by rw [← e]); omega)]; exact hw⟩

/-- The cursor's block: the bytes, how many are used up, the number that it mixes. -/
def Cur (w : World) (T : TypeId) (g : Nat) (v : Value) (n : Nat) : Prop := ∃ (i : Nat) (h : Int), i ≤ n ∧ w.heap[g]? = some (.cells #[v, .int .i64 (i : Int), .int .i64 h] T)
theorem Cur.lt {w : World} {T : TypeId} {g : Nat} {v : Value} {n : Nat} (h : Cur w T g v n) : g < w.heap.size := by
  obtain ⟨i, h, _, hh⟩ := h
  rcases Nat.lt_or_ge g w.heap.size with h' | h'
  · exact h'
  · simp [Array.getElem?_eq_none h'] at hh
theorem Cur.kept {w w' : World} {T : TypeId} {g : Nat} {v : Value} {n : Nat} (h : Cur w T g v n) {row : Option Nat} (hg : w.grownBy w' row) (hr : row ≠ some g) : Cur w' T g v n := by
  have hlt := h.lt
  obtain ⟨i, h, hi, hh⟩ := h
  exact ⟨i, h, hi, by rw [hg.block g hlt (fun e => hr e.symm)]; exact hh⟩

theorem cur_cells {w : World} {T : TypeId} {g : Nat} {a b c : Value} (h : w.heap[g]? = some (.cells #[a, b, c] T)) :
    w.cell? ⟨g, 0, none⟩ = some a ∧ w.cell? ⟨g, 1, none⟩ = some b ∧ w.cell? ⟨g, 2, none⟩ = some c ∧ w.frozen? ⟨g, 1, none⟩ = false ∧ w.frozen? ⟨g, 2, none⟩ = false := by
  simp [World.cell?, World.frozen?, h]
theorem cur_set1 {w : World} {T : TypeId} {g : Nat} {a b c : Value} (h : w.heap[g]? = some (.cells #[a, b, c] T)) (x : Value) : (w.setCell ⟨g, 1, none⟩ x).heap[g]? = some (.cells #[a, x, c] T) := by
  simp [World.setCell, Array.getElem?_modify, h]
theorem cur_set2 {w : World} {T : TypeId} {g : Nat} {a b c : Value} (h : w.heap[g]? = some (.cells #[a, b, c] T)) (x : Value) : (w.setCell ⟨g, 2, none⟩ x).heap[g]? = some (.cells #[a, b, x] T) := by
  simp [World.setCell, Array.getElem?_modify, h]

/-- A number under the mask 255. -/
theorem i64_and255 (n : Int) : bits .and .i64 n 255 = n % 256 := by
  have h255 : (BitVec.ofInt 64 255).toNat = 2 ^ 8 - 1 := by decide
  have key : (BitVec.ofInt 64 n &&& BitVec.ofInt 64 255).toNat = (n % ((2 ^ 64 : Nat) : Int)).toNat % 2 ^ 8 := by
    rw [BitVec.toNat_and, BitVec.toNat_ofInt, h255, Nat.and_two_pow_sub_one_eq_mod]
  show IntKind.i64.wrap ((BitVec.ofInt 64 n &&& BitVec.ofInt 64 255).toNat : Nat) = n % 256
  rw [key, IntKind.wrap_i64]
  omega
theorem and255 (a : Int) : ∃ c : Nat, c < 256 ∧ bits .and .i64 a 255 = (c : Int) := ⟨(a % 256).toNat, by omega, by rw [i64_and255]; omega⟩

theorem grown_then_below {w w1 w' : World} {row : Option Nat} (h : w.grownBy w1 row) (hb : Below w.heap.size w1 w') : w.grownBy w' row :=
  ⟨hb.os.trans h.os, hb.tape.trans h.tape, hb.output.trans h.output, Nat.le_trans h.size hb.size, fun k hk hne => (hb.block k hk).trans (h.block k hk hne)⟩
theorem Cur.below {w w' : World} {T : TypeId} {g : Nat} {v : Value} {n B : Nat} (h : Cur w T g v n) (hb : Below B w w') (hg : g < B) : Cur w' T g v n := by
  obtain ⟨i, h, hi, hh⟩ := h
  exact ⟨i, h, hi, by rw [hb.block g hg]; exact hh⟩
/-! ### Rows of numbers -/
def Owns64 (w : World) (B : Nat) (e : TypeId) (v : Value) (xs : List Int) : Prop := w.ownsRow B e 1 v xs.length (xs.map (Value.int .i64))

/-- 'out = append(out, y)', out a row of numbers that the call owns, the number laid in a new block right ahead. -/
theorem append64 {P : Program} {w0 : World} {ops : Array Oper} {rest : List Oper} {o : Oper} {a : Act} {Q : Exit → Act → World → Prop}
    (hgd : o.guard = none) (s x : Operand) (t : TypeId) (ho : o.op = .call { callee := .builtin .append, args := #[s, x], argTypes := #[t, t] })
    (B : Nat) (e : TypeId) (ht : P.underlying t = some (.slice e)) (hi : (P.info? e).map (fun i => (i.zero, i.size, i.bytes)) = some (some (.int .i64 0), 1, 8))
    {v : Value} {xs : List Int} (hown : Owns64 w0 B e v xs) (y : Int) (hs : a.eval s = v) (hx : a.eval x = .slice (some ⟨w0.heap.size, 0, none⟩) 1 1)
    (hlen : xs.length ≤ 1000000) (hB : B ≤ w0.heap.size)
    (h : ∀ v' w', Owns64 w' B e v' (xs ++ [y]) → (∀ W, Below B W w0 → Below B W w') → w0.heap.size ≤ w'.heap.size → wpList P ops Q rest (a.put o.dst v') w') :
    wpList P ops Q (o :: rest) a (w0.alloc (.cells #[.int .i64 y] e)) := by
  obtain ⟨i, hi, hz0, hz1, hz2⟩ := info_parts hi
  refine wpList_append_own _ hgd s x t ho B e i (.int .i64 0) 1 8 ht hi hz0 hz1 hz2 rfl (by decide) v xs.length (xs.map (Value.int .i64)) hs (World.ownsRow.alloc hown _) ⟨w0.heap.size, 0, none⟩ 1 1 [.int .i64 y] hx rfl (one_new_cell w0 _ e) (ones_int _ [y]) (by unfold maxLen; omega) (by omega) (by simp; omega) ?_
  intro v' w' ho' hg _
  refine h v' w' ?_ ?_ ?_
  · unfold Owns64
    rw [List.map_append, List.length_append]
    exact ho'
  · intro W hW
    exact (hW.alloc hB _).grown hg (by simp; omega) (fun k hk => toNat_lt_of_own hown k hk)
  · have := hg.size
    simp at this
    omega

theorem owns_down {w : World} {base base' : Nat} {e : TypeId} {size : Nat} {v : Value} {n : Nat} {xs : List Value} (h : w.ownsRow base e size v n xs) (hb : base' ≤ base) : w.ownsRow base' e size v n xs := by
  refine ⟨h.1, h.2.imp id ?_⟩
  rintro ⟨g, cap, cur, h1, h2, h3⟩
  exact ⟨g, cap, cur, h1, Nat.le_trans hb h2, h3⟩

theorem Code8.up {w : World} {B B' : Nat} {v : Value} {n : Nat} (h : Code8 w B v n) (hb : B ≤ B') : Code8 w B' v n := by
  obtain ⟨a, cap, rfl, h⟩ := h
  refine ⟨a, cap, rfl, h.imp id ?_⟩
  rintro ⟨b, off, rfl, hb', h⟩
  exact ⟨b, off, rfl, by omega, h⟩
theorem below_of_grown {w w' : World} (h : w.grownBy w' none) : Below w.heap.size w w' := ⟨h.os, h.tape, h.output, h.size, fun k hk => h.block k hk (by simp)⟩

/-- A row of numbers that is not empty: where it lies, and what it holds. -/
theorem Owns64.form {w : World} {B : Nat} {e : TypeId} {v : Value} {xs : List Int} (h : Owns64 w B e v xs) (hx : 0 < xs.length) :
    ∃ g cap, v = .slice (some ⟨g, 0, none⟩) xs.length cap ∧ B ≤ g ∧ g < w.heap.size ∧ ∀ i, i < xs.length → w.cell? ⟨g, i, none⟩ = some (.int .i64 (xs.getD i 0)) := by
  have h' := h
  obtain ⟨hl, h2⟩ := h'
  rcases h2 with ⟨rfl, h0⟩ | ⟨g, cap, cur, rfl, hbg, hg, hnc, hcm, hcs, htake⟩
  · omega
  · refine ⟨g, cap, rfl, hbg, ?_, fun i hi => ?_⟩
    · rcases Nat.lt_or_ge g w.heap.size with h' | h'
      · exact h'
      · simp [Array.getElem?_eq_none h'] at hg
    · rw [World.ownsRow.cellAt h i (by omega)]
      simp [List.getD, hi]

/-- A slice of bytes that came in, as its reading opens it. -/
theorem code8_of {w : World} {x : Addr} {l c : Nat} {zs : List Int} (hl : l ≤ c) (hz : zs.length = c) (hcell : ∀ i, i < zs.length → w.cell? (x.add i) = some (.int .u8 (zs.getD i 0))) (hwz : ∀ n ∈ zs, (Lit.int .u8 n).wf = true) :
    Code8 w w.heap.size (.slice (some x) l c) l := by
  refine ⟨some x, c, rfl, ?_⟩
  by_cases h0 : l = 0
  · exact .inl h0
  obtain ⟨b, off, spot⟩ := x
  have hc := hcell 0 (by omega)
  have hspot : spot = none := by simpa [Addr.add] using World.cell?_spot hc
  subst hspot
  have hadd : ∀ i, (⟨b, off, none⟩ : Addr).add i = ⟨b, off + i, none⟩ := fun i => by unfold Addr.add; split <;> simp_all
  refine .inr ⟨b, off, rfl, ?_, fun i hi => ?_⟩
  · rcases Nat.lt_or_ge b w.heap.size with h' | h'
    · exact h'
    · rw [hadd] at hc
      simp [World.cell?, Array.getElem?_eq_none h'] at hc
  · have h1 := hcell i (by omega)
    rw [hadd] at h1
    have h2 := hwz (zs.getD i 0) (by simp [List.getD, show i < zs.length by omega])
    have h3 : 0 ≤ zs.getD i 0 ∧ zs.getD i 0 < 256 := by
      generalize zs.getD i 0 = q at h2
      simp [Lit.wf, IntKind.min, IntKind.max, IntKind.signed, IntKind.bits] at h2
      omega
    exact ⟨(zs.getD i 0).toNat, by omega, by rw [h1]; congr 2; omega⟩

end Go.Proofs.YtepkcabeoennlaaDoor
