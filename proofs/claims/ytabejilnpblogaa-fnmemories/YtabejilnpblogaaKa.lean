/-
  Small helps of my own for the walks of this seat: rows of bytes that a call made, read as texts; what one append of bytes leaves. No program is named here.
  Rows of records: each element is so many cells. What a call owns of them, what one append leaves, one store into a field. No program is named here.
  Rows of records whose fields may be rows: what is read of them, what a call owns of them, which blocks that takes, and what stays when other blocks are written. No program is named here.
  Rows of records: whole elements stored one behind the other, rows made of nothing, rows that are filled element by element. No program is named here.
  Rows of records that are marked: one store into a field, rows behind an element marked. No program is named here.
  A block that a call made, whatever came behind: what it holds. No program is named here.
  Append of one record to a row of the call's own: what it leaves, and where the row lies then. No program is named here.
  Append of a row of texts to one of the call's own, at a step of a region that draws its order. No program is named here.
-/
import Derived.WalkKit
import Derived.WalkSpells
import Derived.WalkLawsBesides
import Derived.Laws.BytesArg
import Derived.RegionTactic
import Derived.Deep.RegionHeld3
import Derived.Deep.AppendLies
import Derived.Laws.OwnMore
import Derived.Maps.AppendAt
namespace Go.Proofs.Ytabejilnpblogaa
open Go.RowKit

/-- The cells of a row of numbers that are bytes. -/
def u8s (xs : List Int) : List Value := xs.map (Value.int .u8)

theorem u8s_append (xs ys : List Int) : u8s (xs ++ ys) = u8s xs ++ u8s ys := by simp [u8s]
theorem u8s_length (xs : List Int) : (u8s xs).length = xs.length := by simp [u8s]

/-- A row of bytes that the call owns. -/
def Owns8 (w : World) (B : Nat) (e : TypeId) (v : Value) (xs : List Int) : Prop := w.ownsRow B e 1 v xs.length (u8s xs)

/-- 'string(b)' of a row of bytes that the call owns. -/
theorem own8_string {P : Program} {w : World} {B : Nat} {e src : TypeId} {v : Value} {xs : List Int} (h : Owns8 w B e v xs)
    (hs : P.underlying src = some (.slice e)) (he : P.underlying e = some (.int .u8)) :
    ∀ dst, P.underlying dst = some .string → (convert src dst v).run P w = .ok (.string (strOfNums xs)) w := by
  intro dst hd
  have h' := h
  obtain ⟨hl, h2⟩ := h'
  rcases h2 with ⟨rfl, h0⟩ | ⟨g, cap, cur, rfl, hbg, hg, hnc, hcm, hcs, htake⟩
  · have hx : xs = [] := List.eq_nil_of_length_eq_zero h0
    subst hx
    rw [run_convert_bytes_nil w src e hs he 0 0 dst hd]
    rfl
  · refine run_convert_bytes_arg w src e hs he g 0 xs.length cap xs rfl (fun i hi => ?_) dst hd
    have := World.ownsRow.cells h (g := g) rfl i (.int .u8 (xs.getD i 0)) (by simp [u8s, List.getD, hi])
    have ha : (⟨g, 0, none⟩ : Addr).add i = ⟨g, 0 + i, none⟩ := by unfold Addr.add; split <;> simp_all
    rw [ha] at this
    exact this

theorem one_new_cell (w : World) (v : Value) (e : TypeId) : ∀ j u, [v][j]? = some u → (w.alloc (.cells #[v] e)).cell? ((⟨w.heap.size, 0, none⟩ : Addr).add j) = some u := by
  intro j u hj
  match j, hj with
  | 0, hj => simp at hj; subst hj; simp [Addr.add]

theorem ones_int (k : IntKind) (xs : List Int) : ∀ u ∈ xs.map (Value.int k), u.oneCell' = true := by
  intro u hu
  simp at hu
  obtain ⟨a, _, rfl⟩ := hu
  rfl

theorem toNat_lt_of_own {w : World} {B : Nat} {e : TypeId} {size : Nat} {v : Value} {n : Nat} {xs : List Value} (h : w.ownsRow B e size v n xs) : ∀ k, v.ownBlock = some k → B ≤ k := fun k hk => (h.lt k hk).1

theorem news_cells (w : World) (ys : List Int) (e : TypeId) : ∀ j u, (u8s ys)[j]? = some u → (w.alloc (.cells (u8s ys).toArray e)).cell? ((⟨w.heap.size, 0, none⟩ : Addr).add j) = some u := by
  intro j u hj
  have ha : (⟨w.heap.size, 0, none⟩ : Addr).add j = ⟨w.heap.size, j, none⟩ := by unfold Addr.add; split <;> simp_all
  rw [ha, World.cell?_alloc_mark]
  simpa using hj

/-- 'out = append(out, bytes)', out a row of bytes that the call owns, the bytes laid in a new block right ahead. -/
theorem append8 {P : Program} {w0 : World} {ops : Array Oper} {rest : List Oper} {o : Oper} {a : Act} {Q : Exit → Act → World → Prop}
    (hgd : o.guard = none) (s x : Operand) (t : TypeId) (ho : o.op = .call { callee := .builtin .append, args := #[s, x], argTypes := #[t, t] })
    (B : Nat) (e : TypeId) (ht : P.underlying t = some (.slice e)) (hi : (P.info? e).map (fun i => (i.zero, i.size, i.bytes)) = some (some (.int .u8 0), 1, 1))
    {v : Value} {xs : List Int} (hown : Owns8 w0 B e v xs) (ys : List Int) (hs : a.eval s = v) (m c : Nat) (hm : ys.length = m) (hx : a.eval x = .slice (some ⟨w0.heap.size, 0, none⟩) m c)
    (hlen : xs.length + m ≤ 140737488355328) (hB : B ≤ w0.heap.size)
    (h : ∀ v' w', Owns8 w' B e v' (xs ++ ys) → (∀ W, Below B W w0 → Below B W w') → w0.heap.size ≤ w'.heap.size → wpList P ops Q rest (a.put o.dst v') w') :
    wpList P ops Q (o :: rest) a (w0.alloc (.cells (u8s ys).toArray e)) := by
  obtain ⟨i, hi, hz0, hz1, hz2⟩ := info_parts hi
  subst hm
  refine wpList_append_own _ hgd s x t ho B e i (.int .u8 0) 1 1 ht hi hz0 hz1 hz2 rfl (by decide) v xs.length (u8s xs) hs (World.ownsRow.alloc hown _) ⟨w0.heap.size, 0, none⟩ ys.length c (u8s ys) hx (by simp [u8s_length]) (news_cells w0 ys e) (ones_int _ _) (by unfold maxLen; omega) (by omega) (by simp; omega) ?_
  intro v' w' ho' hg _
  refine h v' w' ?_ ?_ ?_
  · unfold Owns8
    rw [u8s_append, List.length_append]
    exact ho'
  · intro W hW
    exact (hW.alloc hB _).grown hg (by simp; omega) (fun k hk => toNat_lt_of_own hown k hk)
  · have := hg.size
    simp at this
    omega

/-- The same at a step of a region that draws its order: the bytes lie in a block that is known whole. -/
theorem step_append8 {P : Program} {w : World} {ops : Array Oper} {o : Oper} {a : Act} {K : Act → World → Prop} {Q : Exit → Act → World → Prop} {E : Prop}
    (hgd : o.guard = none) (s x : Operand) (t : TypeId) (ho : o.op = .call { callee := .builtin .append, args := #[s, x], argTypes := #[t, t] })
    (B : Nat) (e : TypeId) (ht : P.underlying t = some (.slice e)) (hi : (P.info? e).map (fun i => (i.zero, i.size, i.bytes)) = some (some (.int .u8 0), 1, 1))
    {v : Value} {xs : List Int} (hown : Owns8 w B e v xs) (ys : List Int) (b : Nat) (fr : Nat × Nat) (hb : w.heap[b]? = some (.cells (u8s ys).toArray e fr)) (hs : a.eval s = v) (m c : Nat) (hm : ys.length = m) (hx : a.eval x = .slice (some ⟨b, 0, none⟩) m c)
    (hlen : xs.length + m ≤ 140737488355328) (hB : B ≤ w.heap.size)
    (h : ∀ v' w', Owns8 w' B e v' (xs ++ ys) → (∀ W, Below B W w → Below B W w') → w.heap.size ≤ w'.heap.size → K (a.put o.dst v') w') :
    if Region.wanted o (yielded ops a.tmps) = true then Oper.wp P o a w K Q else E := by
  have hw : Region.wanted o (yielded ops a.tmps) = true := by simp [Region.wanted, hgd]
  rw [if_pos hw]
  obtain ⟨i, hi, hz0, hz1, hz2⟩ := info_parts hi
  subst hm
  refine wp_append_own _ s x t ho B e i (.int .u8 0) 1 1 ht hi hz0 hz1 hz2 rfl (by decide) v xs.length (u8s xs) hs hown ⟨b, 0, none⟩ ys.length c (u8s ys) hx (by simp [u8s_length]) ?_ (ones_int _ _) (by unfold maxLen; omega) (by omega) hB ?_
  · have := World.news_of_block hb
    simpa using this
  intro v' w' ho' hg _
  refine h v' w' ?_ ?_ ?_
  · unfold Owns8
    rw [u8s_append, List.length_append]
    exact ho'
  · intro W hW
    exact hW.grown hg hB (fun k hk => toNat_lt_of_own hown k hk)
  · exact hg.size

/-- A byte of a text, under a name of its own. -/
theorem index_at {P : Program} {t : TypeId} (ht : P.underlying t = some .string) (s : ByteArray) (i : Nat) (h : i < s.size) (x c : Int) (hx : x = (i : Int)) (hc : c = (s[i].toNat : Int)) :
    ∀ wx : World, (Instr.index t (.string s) (.int .i64 x)).run P wx = .ok (.int .u8 c) wx := by
  intro wx
  subst hx hc
  rw [run_index_string wx t s .i64 _ ht, dif_pos ⟨by omega, by omega⟩]
  simp

/-! ### Rows of texts -/
/-- A row of texts that the call owns. -/
def OwnsS (w : World) (B : Nat) (e : TypeId) (v : Value) (ss : List ByteArray) : Prop := w.ownsRow B e 1 v ss.length (ss.map Value.string)

theorem ones_str (ss : List ByteArray) : ∀ u ∈ ss.map Value.string, u.oneCell' = true := by
  intro u hu
  simp at hu
  obtain ⟨a, _, rfl⟩ := hu
  rfl

/-- 'out = append(out, s)', out a row of texts that the call owns, the text laid in a new block right ahead. -/
theorem appendS {P : Program} {w0 : World} {ops : Array Oper} {rest : List Oper} {o : Oper} {a : Act} {Q : Exit → Act → World → Prop}
    (hgd : o.guard = none) (s x : Operand) (t : TypeId) (ho : o.op = .call { callee := .builtin .append, args := #[s, x], argTypes := #[t, t] })
    (B : Nat) (e : TypeId) (ht : P.underlying t = some (.slice e)) (hi : (P.info? e).map (fun i => (i.zero, i.size, i.bytes)) = some (some (.string ByteArray.empty), 1, 16))
    {v : Value} {xs : List ByteArray} (hown : OwnsS w0 B e v xs) (y : ByteArray) (hs : a.eval s = v) (hx : a.eval x = .slice (some ⟨w0.heap.size, 0, none⟩) 1 1)
    (hlen : xs.length ≤ 1000000) (hB : B ≤ w0.heap.size)
    (h : ∀ v' w', OwnsS w' B e v' (xs ++ [y]) → (∀ W, Below B W w0 → Below B W w') → w0.heap.size ≤ w'.heap.size → wpList P ops Q rest (a.put o.dst v') w') :
    wpList P ops Q (o :: rest) a (w0.alloc (.cells #[.string y] e)) := by
  obtain ⟨i, hi, hz0, hz1, hz2⟩ := info_parts hi
  refine wpList_append_own _ hgd s x t ho B e i (.string ByteArray.empty) 1 16 ht hi hz0 hz1 hz2 rfl (by decide) v xs.length (xs.map Value.string) hs (World.ownsRow.alloc hown _) ⟨w0.heap.size, 0, none⟩ 1 1 [.string y] hx rfl (one_new_cell w0 _ e) (ones_str [y]) (by unfold maxLen; omega) (by omega) (by simp; omega) ?_
  intro v' w' ho' hg _
  refine h v' w' ?_ ?_ ?_
  · unfold OwnsS
    rw [List.map_append, List.length_append]
    exact ho'
  · intro W hW
    exact (hW.alloc hB _).grown hg (by simp; omega) (fun k hk => toNat_lt_of_own hown k hk)
  · have := hg.size
    simp at this
    omega

theorem OwnsS.kept {w w' : World} {B : Nat} {e : TypeId} {v : Value} {ss : List ByteArray} {row : Option Nat} (h : OwnsS w B e v ss) (hg : w.grownBy w' row) (hne : v.ownBlock = none ∨ v.ownBlock ≠ row) : OwnsS w' B e v ss := World.ownsRow.kept h hg hne
theorem grown_of_below {w w' : World} (h : Below w.heap.size w w') : w.grownBy w' none := ⟨h.os, h.tape, h.output, h.size, fun k hk _ => h.block k hk⟩
theorem OwnsS.below {w w' : World} {B : Nat} {e : TypeId} {v : Value} {ss : List ByteArray} (h : OwnsS w B e v ss) (hb : Below w.heap.size w w') : OwnsS w' B e v ss := h.kept (grown_of_below hb) (Classical.em _)

/-- A row of texts: nothing at all, or cells that hold them. -/
theorem OwnsS.form {w : World} {B : Nat} {e : TypeId} {v : Value} {ss : List ByteArray} (h : OwnsS w B e v ss) :
    (v = .slice none 0 0 ∧ ss = []) ∨ ∃ g cap, v = .slice (some ⟨g, 0, none⟩) ss.length cap ∧ B ≤ g ∧ g < w.heap.size := by
  have h' := h
  obtain ⟨hl, h2⟩ := h'
  rcases h2 with ⟨rfl, h0⟩ | ⟨g, cap, cur, rfl, hbg, hg, hnc, hcm, hcs, htake⟩
  · exact .inl ⟨rfl, List.eq_nil_of_length_eq_zero h0⟩
  · refine .inr ⟨g, cap, rfl, hbg, ?_⟩
    rcases Nat.lt_or_ge g w.heap.size with h' | h'
    · exact h'
    · simp [Array.getElem?_eq_none h'] at hg
theorem OwnsS.cell {w : World} {B : Nat} {e : TypeId} {g cap : Nat} {ss : List ByteArray} (h : OwnsS w B e (.slice (some ⟨g, 0, none⟩) ss.length cap) ss) {i : Nat} (hi : i < ss.length) : w.cell? ⟨g, i, none⟩ = some (.string (ss.getD i ByteArray.empty)) := by
  rw [World.ownsRow.cellAt h i (by omega)]
  simp [List.getD, hi]
theorem OwnsS.free {w : World} {B : Nat} {e : TypeId} {g cap n : Nat} {ss : List ByteArray} (h : OwnsS w B e (.slice (some ⟨g, 0, none⟩) n cap) ss) (hn : n = ss.length) (i : Nat) : w.frozen? ⟨g, i, none⟩ = false := by
  subst hn
  exact World.ownsRow.frozenAt h i

theorem own_ne {w : World} {B : Nat} {e : TypeId} {size : Nat} {v : Value} {n : Nat} {xs : List Value} (h : w.ownsRow B e size v n xs) {g : Nat} (hg : g < B) : v.ownBlock = none ∨ v.ownBlock ≠ some g := by
  cases hv : v.ownBlock with
  | none => exact .inl rfl
  | some k => exact .inr (fun e => by have := (h.lt k hv).1; cases e; omega)

theorem owns_base {w : World} {base base' : Nat} {e : TypeId} {size : Nat} {v : Value} {n : Nat} {xs : List Value} (h : w.ownsRow base e size v n xs) (hb : base' ≤ base) : w.ownsRow base' e size v n xs := by
  refine ⟨h.1, h.2.imp id ?_⟩
  rintro ⟨g, cap, cur, h1, h2, h3⟩
  exact ⟨g, cap, cur, h1, Nat.le_trans hb h2, h3⟩

theorem grown_setCell (w : World) (a : Addr) (u : Value) : w.grownBy (w.setCell a u) (some a.block) :=
  ⟨rfl, rfl, rfl, by simp [World.setCell], fun k _ hne => Below.heap_setCell w a u k (fun e => hne (by rw [e]))⟩
theorem grown_drewN (w : World) (q : Nat) : w.grownBy (w.drewN q) none := ⟨rfl, rfl, rfl, Nat.le_refl _, fun _ _ _ => rfl⟩

end Go.Proofs.Ytabejilnpblogaa

namespace Go.Proofs.Ytabejilnpblogaa
open Go.RowKit

section
variable {α : Type} {k : Nat}

theorem flat_len {enc : α → List Value} (henc : ∀ x, (enc x).length = k) (xs : List α) : (xs.flatMap enc).length = xs.length * k := by
  induction xs with
  | nil => simp
  | cons x xs ih => rw [List.flatMap_cons, List.length_append, henc, ih, List.length_cons, Nat.add_mul, Nat.one_mul, Nat.add_comm]
theorem flat_at {enc : α → List Value} (henc : ∀ x, (enc x).length = k) (xs : List α) : ∀ (i j : Nat) (hi : i < xs.length), j < k → (xs.flatMap enc)[i * k + j]? = (enc xs[i])[j]? := by
  induction xs with
  | nil => intro i j hi; simp at hi
  | cons x xs ih =>
    intro i j hi hj
    rw [List.flatMap_cons]
    cases i with
    | zero =>
      rw [Nat.zero_mul, Nat.zero_add, List.getElem?_append_left (by rw [henc]; exact hj)]
      rfl
    | succ i =>
      rw [List.getElem?_append_right (by rw [henc, Nat.add_mul, Nat.one_mul]; omega), henc, show (i + 1) * k + j - k = i * k + j by rw [Nat.add_mul, Nat.one_mul]; omega]
      exact ih i j (by simpa using hi) hj
theorem flat_set {enc : α → List Value} (henc : ∀ x, (enc x).length = k) (xs : List α) : ∀ (i j : Nat) (hi : i < xs.length) (y : α) (u : Value), j < k → enc y = (enc xs[i]).set j u → (xs.flatMap enc).set (i * k + j) u = (xs.set i y).flatMap enc := by
  induction xs with
  | nil => intro i j hi; simp at hi
  | cons x xs ih =>
    intro i j hi y u hj he
    cases i with
    | zero =>
      rw [List.flatMap_cons, Nat.zero_mul, Nat.zero_add, List.set_append_left _ _ (by rw [henc]; exact hj), List.set_cons_zero, List.flatMap_cons, he]
      rfl
    | succ i =>
      rw [List.flatMap_cons, List.set_append_right _ _ (by rw [henc, Nat.add_mul, Nat.one_mul]; omega), henc, show (i + 1) * k + j - k = i * k + j by rw [Nat.add_mul, Nat.one_mul]; omega, List.set_cons_succ, List.flatMap_cons]
      rw [ih i j (by simpa using hi) y u hj he]

/-- A row of records that the call owns. -/
def OwnsR (enc : α → List Value) (k : Nat) (w : World) (B : Nat) (e : TypeId) (v : Value) (xs : List α) : Prop := w.ownsRow B e k v xs.length (xs.flatMap enc)

theorem OwnsR.kept {enc : α → List Value} {w w' : World} {B : Nat} {e : TypeId} {v : Value} {xs : List α} {row : Option Nat} (h : OwnsR enc k w B e v xs) (hg : w.grownBy w' row) (hne : v.ownBlock = none ∨ v.ownBlock ≠ row) : OwnsR enc k w' B e v xs := World.ownsRow.kept h hg hne
theorem OwnsR.below {enc : α → List Value} {w w' : World} {B : Nat} {e : TypeId} {v : Value} {xs : List α} (h : OwnsR enc k w B e v xs) (hb : Below w.heap.size w w') : OwnsR enc k w' B e v xs := h.kept (grown_of_below hb) (Classical.em _)
theorem ownsR_nil (enc : α → List Value) (k : Nat) (w : World) (B : Nat) (e : TypeId) : OwnsR enc k w B e (.slice none 0 0) ([] : List α) := ⟨by simp, .inl ⟨rfl, rfl⟩⟩
theorem OwnsR.form {enc : α → List Value} {w : World} {B : Nat} {e : TypeId} {v : Value} {xs : List α} (h : OwnsR enc k w B e v xs) :
    (v = .slice none 0 0 ∧ xs = []) ∨ ∃ g cap, v = .slice (some ⟨g, 0, none⟩) xs.length cap ∧ B ≤ g ∧ g < w.heap.size := by
  have h' := h
  obtain ⟨hl, h2⟩ := h'
  rcases h2 with ⟨rfl, h0⟩ | ⟨g, cap, cur, rfl, hbg, hg, hnc, hcm, hcs, htake⟩
  · exact .inl ⟨rfl, List.eq_nil_of_length_eq_zero h0⟩
  · refine .inr ⟨g, cap, rfl, hbg, ?_⟩
    rcases Nat.lt_or_ge g w.heap.size with h' | h'
    · exact h'
    · simp [Array.getElem?_eq_none h'] at hg
theorem OwnsR.cell {enc : α → List Value} (henc : ∀ x, (enc x).length = k) {w : World} {B : Nat} {e : TypeId} {g cap n : Nat} {xs : List α} (h : OwnsR enc k w B e (.slice (some ⟨g, 0, none⟩) n cap) xs) (hn : n = xs.length) (i j : Nat) (hi : i < xs.length) (hj : j < k) : w.cell? ⟨g, i * k + j, none⟩ = (enc xs[i])[j]? := by
  subst hn
  have hij : i * k + j < xs.length * k := by
    have : (i + 1) * k ≤ xs.length * k := Nat.mul_le_mul_right _ hi
    rw [Nat.add_mul, Nat.one_mul] at this
    omega
  rw [World.ownsRow.cellAt h _ hij, flat_at henc xs i j hi hj]
theorem OwnsR.free {enc : α → List Value} {w : World} {B : Nat} {e : TypeId} {g cap n : Nat} {xs : List α} (h : OwnsR enc k w B e (.slice (some ⟨g, 0, none⟩) n cap) xs) (hn : n = xs.length) (i : Nat) : w.frozen? ⟨g, i, none⟩ = false := by
  subst hn
  exact World.ownsRow.frozenAt h i

theorem news_block (w : World) (ys : List Value) (e : TypeId) : ∀ j u, ys[j]? = some u → (w.alloc (.cells ys.toArray e)).cell? ((⟨w.heap.size, 0, none⟩ : Addr).add j) = some u := by
  intro j u hj
  have ha : (⟨w.heap.size, 0, none⟩ : Addr).add j = ⟨w.heap.size, j, none⟩ := by unfold Addr.add; split <;> simp_all
  rw [ha, World.cell?_alloc_mark]
  simpa using hj

/-- 'out = append(out, y)', out a row of records that the call owns, the record laid in a new block right ahead. -/
theorem appendR {enc : α → List Value} (henc : ∀ x, (enc x).length = k) {P : Program} {w0 : World} {ops : Array Oper} {rest : List Oper} {o : Oper} {a : Act} {Q : Exit → Act → World → Prop}
    (hgd : o.guard = none) (s x : Operand) (t : TypeId) (ho : o.op = .call { callee := .builtin .append, args := #[s, x], argTypes := #[t, t] })
    (B : Nat) (e : TypeId) (z : Value) (bytes : Nat) (ht : P.underlying t = some (.slice e)) (hi : (P.info? e).map (fun i => (i.zero, i.size, i.bytes)) = some (some z, k, bytes)) (hzs : z.cells.size = k) (hk : 0 < k)
    {v : Value} {xs : List α} (hown : OwnsR enc k w0 B e v xs) (y : α) (h1 : ∀ u ∈ enc y, u.oneCell' = true) (hs : a.eval s = v) (hx : a.eval x = .slice (some ⟨w0.heap.size, 0, none⟩) 1 1)
    (hlen : xs.length ≤ 10000000) (hby : bytes ≤ 1000) (hB : B ≤ w0.heap.size)
    (h : ∀ v' w', OwnsR enc k w' B e v' (xs ++ [y]) → (∀ W, Below B W w0 → Below B W w') → w0.heap.size ≤ w'.heap.size → w0.grownBy w' v.ownBlock → wpList P ops Q rest (a.put o.dst v') w') :
    wpList P ops Q (o :: rest) a (w0.alloc (.cells (enc y).toArray e)) := by
  obtain ⟨i, hi, hz0, hz1, hz2⟩ := info_parts hi
  refine wpList_append_own _ hgd s x t ho B e i z k bytes ht hi hz0 hz1 hz2 hzs hk v xs.length (xs.flatMap enc) hs (World.ownsRow.alloc hown _) ⟨w0.heap.size, 0, none⟩ 1 1 (enc y) hx (by rw [henc, Nat.one_mul]) (news_block w0 _ e) h1 (by unfold maxLen; omega) ?_ (by simp; omega) ?_
  · have : (xs.length + 1) * bytes ≤ 10000001 * 1000 := Nat.mul_le_mul (by omega) hby
    omega
  intro v' w' ho' hg _
  refine h v' w' ?_ ?_ ?_ ?_
  · unfold OwnsR
    rw [List.flatMap_append, List.length_append]
    simpa using ho'
  · intro W hW
    exact (hW.alloc hB _).grown hg (by simp; omega) (fun k hk => toNat_lt_of_own hown k hk)
  · have := hg.size
    simp at this
    omega
  · refine ⟨hg.os, hg.tape, hg.output, ?_, fun j hj hne => ?_⟩
    · have := hg.size
      simp at this
      omega
    · rw [hg.block j (by simp; omega) hne]
      exact Below.heap_alloc w0 _ j hj

/-- One store into a field of a record that the call owns. -/
theorem OwnsR.stored {enc : α → List Value} (henc : ∀ x, (enc x).length = k) {w : World} {B : Nat} {e : TypeId} {g cap n : Nat} {xs : List α} (h : OwnsR enc k w B e (.slice (some ⟨g, 0, none⟩) n cap) xs) (hn : n = xs.length) (i j : Nat) (hi : i < xs.length) (hj : j < k) (y : α) (u : Value) (he : enc y = (enc xs[i]).set j u) :
    OwnsR enc k (w.setCell ⟨g, i * k + j, none⟩ u) B e (.slice (some ⟨g, 0, none⟩) n cap) (xs.set i y) := by
  subst hn
  have := (World.ownsRow.stored h (i * k + j) u).1
  rw [flat_set henc xs i j hi y u hj he] at this
  unfold OwnsR
  rw [List.length_set]
  exact this
end

end Go.Proofs.Ytabejilnpblogaa

namespace Go.Proofs.Ytabejilnpblogaa
open Go.RowKit

/-- The blocks of a list of rows. -/
def fpOf (v : Value) : List Nat := v.ownBlock.toList
def fps (vs : List Value) : List Nat := vs.flatMap fpOf

/-- Only the blocks of these rows may have turned; new ones may be there. -/
structure Kept (vs : List Value) (w w' : World) : Prop where
  os : w'.os = w.os
  tape : w'.tape = w.tape
  output : w'.output = w.output
  size : w.heap.size ≤ w'.heap.size
  block : ∀ g, g < w.heap.size → g ∉ fps vs → w'.heap[g]? = w.heap[g]?

theorem Kept.refl (vs : List Value) (w : World) : Kept vs w w := ⟨rfl, rfl, rfl, Nat.le_refl _, fun _ _ _ => rfl⟩
theorem Kept.trans {vs : List Value} {a b c : World} (h : Kept vs a b) (k : Kept vs b c) : Kept vs a c :=
  ⟨k.os.trans h.os, k.tape.trans h.tape, k.output.trans h.output, Nat.le_trans h.size k.size, fun g hg hn => (k.block g (Nat.lt_of_lt_of_le hg h.size) hn).trans (h.block g hg hn)⟩
theorem Kept.wide {vs us : List Value} {a b : World} (h : Kept vs a b) (hs : ∀ g, g ∈ fps vs → g ∈ fps us) : Kept us a b :=
  ⟨h.os, h.tape, h.output, h.size, fun g hg hn => h.block g hg (fun hm => hn (hs g hm))⟩
theorem Kept.of_below {vs : List Value} {a b : World} (h : Below a.heap.size a b) : Kept vs a b := ⟨h.os, h.tape, h.output, h.size, fun g hg _ => h.block g hg⟩
theorem Kept.of_set {vs : List Value} {w : World} {g j : Nat} {u : Value} (h : g ∈ fps vs) : Kept vs w (w.setCell ⟨g, j, none⟩ u) :=
  ⟨rfl, rfl, rfl, by simp [World.setCell], fun b _ hn => Below.heap_setCell w _ u b (fun e => hn (by rw [← show g = b from e.symm ▸ rfl]; exact h))⟩
theorem Kept.below {vs : List Value} {w w' : World} {B : Nat} (h : Kept vs w w') (hB : B ≤ w.heap.size) (hf : ∀ g ∈ fps vs, B ≤ g) : Below B w w' :=
  ⟨h.os, h.tape, h.output, h.size, fun g hg => h.block g (by omega) (fun hm => by have := hf g hm; omega)⟩

section
variable {α β : Type}

/-- A row of records that is read: where its cells lie. -/
def RowR (enc : α → List Value) (k : Nat) (w : World) (B : Nat) (v : Value) (ps : List α) : Prop :=
  ∃ a cap, v = .slice a ps.length cap ∧ ps.length ≤ cap ∧ (ps = [] ∨ ∃ b off, a = some ⟨b, off, none⟩ ∧ b < B ∧ ∀ i, (hi : i < ps.length) → ∀ j, j < k → w.cell? ⟨b, off + i * k + j, none⟩ = (enc ps[i])[j]?)
theorem RowR.keep {enc : α → List Value} {k : Nat} {w w' : World} {B : Nat} {v : Value} {ps : List α} (h : RowR enc k w B v ps) (hb : Below B w w') : RowR enc k w' B v ps := by
  obtain ⟨a, cap, hv, hcap, h⟩ := h
  refine ⟨a, cap, hv, hcap, ?_⟩
  rcases h with h | ⟨b, off, ha, hbB, hc⟩
  · exact .inl h
  · exact .inr ⟨b, off, ha, hbB, fun i hi j hj => (hb.cell (p := ⟨b, off + i * k + j, none⟩) hbB).trans (hc i hi j hj)⟩
theorem RowR.up {enc : α → List Value} {k : Nat} {w : World} {B B' : Nat} {v : Value} {ps : List α} (h : RowR enc k w B v ps) (hB : B ≤ B') : RowR enc k w B' v ps := by
  obtain ⟨a, cap, hv, hcap, h⟩ := h
  refine ⟨a, cap, hv, hcap, ?_⟩
  rcases h with h | ⟨b, off, ha, hbB, hc⟩
  · exact .inl h
  · exact .inr ⟨b, off, ha, by omega, hc⟩
theorem RowR.cap {enc : α → List Value} {k : Nat} {w : World} {B : Nat} {a : Option Addr} {n cap : Nat} {ps : List α} (h : RowR enc k w B (.slice a n cap) ps) : ps.length = n ∧ n ≤ cap := by
  obtain ⟨a', cap', hv, hcap, _⟩ := h
  cases hv
  exact ⟨rfl, hcap⟩
theorem RowR.len {enc : α → List Value} {k : Nat} {w : World} {B : Nat} {v : Value} {ps : List α} (h : RowR enc k w B v ps) : ∃ a cap, v = .slice a ps.length cap := by
  obtain ⟨a, cap, hv, _⟩ := h
  exact ⟨a, cap, hv⟩
theorem RowR.at {enc : α → List Value} {k : Nat} {w : World} {B : Nat} {a : Option Addr} {n cap : Nat} {ps : List α} (h : RowR enc k w B (.slice a n cap) ps) (i : Nat) (hi : i < ps.length) : ∃ b off, a = some ⟨b, off, none⟩ ∧ b < B ∧ ∀ j, j < k → w.cell? ⟨b, off + i * k + j, none⟩ = (enc ps[i])[j]? := by
  obtain ⟨a', cap', hv, _, h⟩ := h
  cases hv
  rcases h with h | ⟨b, off, ha, hbB, hc⟩
  · subst h
    simp at hi
  · exact ⟨b, off, ha, hbB, hc i hi⟩
theorem OwnsR.capOf {enc : α → List Value} {k : Nat} {w : World} {B : Nat} {e : TypeId} {a : Option Addr} {n cap : Nat} {ps : List α} (h : OwnsR enc k w B e (.slice a n cap) ps) : ps.length ≤ cap := by
  obtain ⟨hl, h2⟩ := h
  rcases h2 with ⟨h0, h1⟩ | ⟨g, cap', cur, hv, hbg, hg, hnc, hr⟩
  · omega
  · cases hv
    exact hnc
theorem OwnsR.read {enc : α → List Value} {k : Nat} (henc : ∀ x, (enc x).length = k) {w : World} {B : Nat} {e : TypeId} {v : Value} {ps : List α} (h : OwnsR enc k w B e v ps) {H : Nat} (hH : ∀ g ∈ fpOf v, g < H) : RowR enc k w H v ps := by
  rcases OwnsR.form h with ⟨rfl, rfl⟩ | ⟨g, cap, rfl, hB, hg⟩
  · exact ⟨none, 0, rfl, Nat.le_refl _, .inl rfl⟩
  · refine ⟨_, cap, rfl, h.capOf, .inr ⟨g, 0, rfl, hH g (by simp [fpOf, Value.ownBlock]), fun i hi j hj => ?_⟩⟩
    have := OwnsR.cell henc h rfl i j hi hj
    simpa using this
theorem OwnsR.same {enc : α → List Value} {k : Nat} {w w' : World} {B : Nat} {e : TypeId} {v : Value} {ps : List α} (h : OwnsR enc k w B e v ps) (hs : ∀ g ∈ fpOf v, w'.heap[g]? = w.heap[g]?) : OwnsR enc k w' B e v ps := by
  obtain ⟨hl, h2⟩ := h
  refine ⟨hl, ?_⟩
  rcases h2 with h0 | ⟨g, cap, cur, rfl, hbg, hg, hr⟩
  · exact .inl h0
  · exact .inr ⟨g, cap, cur, rfl, hbg, (hs g (by simp [fpOf, Value.ownBlock])).trans hg, hr⟩
theorem OwnsR.lt {enc : α → List Value} {k : Nat} {w : World} {B : Nat} {e : TypeId} {v : Value} {ps : List α} (h : OwnsR enc k w B e v ps) : ∀ g ∈ fpOf v, B ≤ g ∧ g < w.heap.size := by
  intro g hg
  have : v.ownBlock = some g := by
    unfold fpOf at hg
    cases hv : v.ownBlock with
    | none => simp [hv] at hg
    | some x => simp [hv] at hg; rw [hg]
  exact World.ownsRow.lt h g this
theorem OwnsR.base {enc : α → List Value} {k : Nat} {w : World} {B B' : Nat} {e : TypeId} {v : Value} {ps : List α} (h : OwnsR enc k w B e v ps) (hB : ∀ g ∈ fpOf v, B' ≤ g) : OwnsR enc k w B' e v ps := by
  obtain ⟨hl, h2⟩ := h
  refine ⟨hl, ?_⟩
  rcases h2 with h0 | ⟨g, cap, cur, rfl, hbg, hg, hr⟩
  · exact .inl h0
  · exact .inr ⟨g, cap, cur, rfl, hB g (by simp [fpOf, Value.ownBlock]), hg, hr⟩

/-- A kind of rows: the cells of an element, what lies behind it, and what it tells. -/
structure RowTy (α β : Type) where
  enc : α → List Value
  k : Nat
  T : TypeId
  sub : World → Nat → α → Prop
  rsub : World → Nat → α → Prop
  vals : α → List Value
  log : α → β
  len : ∀ x, (enc x).length = k
  sub_same : ∀ {w w' : World} {B : Nat} {p : α}, sub w B p → (∀ g ∈ fps (vals p), w'.heap[g]? = w.heap[g]?) → sub w' B p
  sub_base : ∀ {w : World} {B B' : Nat} {p : α}, sub w B p → (∀ g ∈ fps (vals p), B' ≤ g) → sub w B' p
  sub_lt : ∀ {w : World} {B : Nat} {p : α}, sub w B p → ∀ g ∈ fps (vals p), B ≤ g ∧ g < w.heap.size
  sub_read : ∀ {w : World} {B H : Nat} {p : α}, sub w B p → (∀ g ∈ fps (vals p), g < H) → rsub w H p
  rsub_keep : ∀ {w w' : World} {B : Nat} {p : α}, rsub w B p → Below B w w' → rsub w' B p
  rsub_up : ∀ {w : World} {B B' : Nat} {p : α}, rsub w B p → B ≤ B' → rsub w B' p

/-- Read: the row and what lies behind it. -/
def RowTy.Row (R : RowTy α β) (w : World) (B : Nat) (v : Value) (xs : List β) : Prop := ∃ ps : List α, ps.map R.log = xs ∧ RowR R.enc R.k w B v ps ∧ ∀ p ∈ ps, R.rsub w B p
theorem RowTy.Row.keep {R : RowTy α β} {w w' : World} {B : Nat} {v : Value} {xs : List β} (h : R.Row w B v xs) (hb : Below B w w') : R.Row w' B v xs := by
  obtain ⟨ps, hl, hr, hs⟩ := h
  exact ⟨ps, hl, hr.keep hb, fun p hp => R.rsub_keep (hs p hp) hb⟩
theorem RowTy.Row.up {R : RowTy α β} {w : World} {B B' : Nat} {v : Value} {xs : List β} (h : R.Row w B v xs) (hB : B ≤ B') : R.Row w B' v xs := by
  obtain ⟨ps, hl, hr, hs⟩ := h
  exact ⟨ps, hl, hr.up hB, fun p hp => R.rsub_up (hs p hp) hB⟩
theorem RowTy.Row.len {R : RowTy α β} {w : World} {B : Nat} {v : Value} {xs : List β} (h : R.Row w B v xs) : ∃ a cap, v = .slice a xs.length cap := by
  obtain ⟨ps, hl, hr, _⟩ := h
  obtain ⟨a, cap, hv⟩ := hr.len
  refine ⟨a, cap, ?_⟩
  rw [hv, ← hl, List.length_map]
theorem RowTy.Row.at {R : RowTy α β} {w : World} {B : Nat} {a : Option Addr} {n cap : Nat} {xs : List β} (h : R.Row w B (.slice a n cap) xs) (i : Nat) (hi : i < xs.length) :
    ∃ b off p, a = some ⟨b, off, none⟩ ∧ b < B ∧ R.log p = xs[i] ∧ R.rsub w B p ∧ ∀ j, j < R.k → w.cell? ⟨b, off + i * R.k + j, none⟩ = (R.enc p)[j]? := by
  obtain ⟨ps, hl, hr, hs⟩ := h
  have hi' : i < ps.length := by rw [← hl, List.length_map] at hi; exact hi
  obtain ⟨b, off, ha, hb, hc⟩ := hr.at i hi'
  refine ⟨b, off, ps[i], ha, hb, ?_, hs _ (List.getElem_mem hi'), hc⟩
  subst hl
  simp
theorem RowTy.row_nil (R : RowTy α β) (w : World) (B : Nat) (a : Option Addr) (cap : Nat) : R.Row w B (.slice a 0 cap) [] := ⟨[], rfl, ⟨a, cap, rfl, Nat.zero_le _, .inl rfl⟩, by simp⟩

/-- Owned: the row, and what lies behind each of its elements. -/
def RowTy.Phys (R : RowTy α β) (w : World) (B : Nat) (v : Value) (ps : List α) : Prop := OwnsR R.enc R.k w B R.T v ps ∧ ∀ p ∈ ps, R.sub w B p
/-- All rows of it. -/
def RowTy.all (R : RowTy α β) (v : Value) (ps : List α) : List Value := v :: ps.flatMap R.vals

theorem mem_fps {vs : List Value} {v : Value} (h : v ∈ vs) {g : Nat} (hg : g ∈ fpOf v) : g ∈ fps vs := List.mem_flatMap.mpr ⟨v, h, hg⟩
theorem fps_cons (v : Value) (vs : List Value) : fps (v :: vs) = fpOf v ++ fps vs := rfl
theorem fps_append (us vs : List Value) : fps (us ++ vs) = fps us ++ fps vs := by simp [fps]
theorem RowTy.mem_all {R : RowTy α β} {v : Value} {ps : List α} {p : α} (hp : p ∈ ps) {g : Nat} (hg : g ∈ fps (R.vals p)) : g ∈ fps (R.all v ps) := by
  obtain ⟨u, hu, hgu⟩ := List.mem_flatMap.mp hg
  exact mem_fps (List.mem_cons_of_mem _ (List.mem_flatMap.mpr ⟨p, hp, hu⟩)) hgu
theorem RowTy.mem_head {R : RowTy α β} {v : Value} {ps : List α} {g : Nat} (hg : g ∈ fpOf v) : g ∈ fps (R.all v ps) := mem_fps (List.mem_cons_self ..) hg

theorem RowTy.Phys.same {R : RowTy α β} {w w' : World} {B : Nat} {v : Value} {ps : List α} (h : R.Phys w B v ps) (hs : ∀ g ∈ fps (R.all v ps), w'.heap[g]? = w.heap[g]?) : R.Phys w' B v ps :=
  ⟨h.1.same (fun g hg => hs g (R.mem_head hg)), fun p hp => R.sub_same (h.2 p hp) (fun g hg => hs g (R.mem_all hp hg))⟩
theorem RowTy.Phys.lt {R : RowTy α β} {w : World} {B : Nat} {v : Value} {ps : List α} (h : R.Phys w B v ps) : ∀ g ∈ fps (R.all v ps), B ≤ g ∧ g < w.heap.size := by
  intro g hg
  obtain ⟨u, hu, hgu⟩ := List.mem_flatMap.mp hg
  rcases List.mem_cons.mp hu with rfl | hu
  · exact h.1.lt g hgu
  · obtain ⟨p, hp, hup⟩ := List.mem_flatMap.mp hu
    exact R.sub_lt (h.2 p hp) g (mem_fps hup hgu)
theorem RowTy.Phys.below {R : RowTy α β} {w w' : World} {B : Nat} {v : Value} {ps : List α} (h : R.Phys w B v ps) (hb : Below w.heap.size w w') : R.Phys w' B v ps :=
  h.same (fun g hg => hb.block g (h.lt g hg).2)
theorem RowTy.Phys.kept {R : RowTy α β} {w w' : World} {B : Nat} {v : Value} {ps : List α} {vs : List Value} (h : R.Phys w B v ps) (hk : Kept vs w w') (hd : ∀ g ∈ fps (R.all v ps), g ∉ fps vs) : R.Phys w' B v ps :=
  h.same (fun g hg => hk.block g (h.lt g hg).2 (hd g hg))
theorem RowTy.Phys.base {R : RowTy α β} {w : World} {B B' : Nat} {v : Value} {ps : List α} (h : R.Phys w B v ps) (hB : ∀ g ∈ fps (R.all v ps), B' ≤ g) : R.Phys w B' v ps :=
  ⟨h.1.base (fun g hg => hB g (R.mem_head hg)), fun p hp => R.sub_base (h.2 p hp) (fun g hg => hB g (R.mem_all hp hg))⟩
theorem RowTy.Phys.read {R : RowTy α β} {w : World} {B : Nat} {v : Value} {ps : List α} (h : R.Phys w B v ps) {H : Nat} (hH : ∀ g ∈ fps (R.all v ps), g < H) : R.Row w H v (ps.map R.log) :=
  ⟨ps, rfl, h.1.read R.len (fun g hg => hH g (R.mem_head hg)), fun p hp => R.sub_read (h.2 p hp) (fun g hg => hH g (R.mem_all hp hg))⟩

/-- Owned, all rows apart from each other, in blocks B .. H. -/
def RowTy.Own (R : RowTy α β) (w : World) (B H : Nat) (v : Value) (xs : List β) : Prop := ∃ ps : List α, ps.map R.log = xs ∧ R.Phys w B v ps ∧ (fps (R.all v ps)).Nodup ∧ ∀ g ∈ fps (R.all v ps), B ≤ g ∧ g < H
theorem RowTy.Own.row {R : RowTy α β} {w : World} {B H : Nat} {v : Value} {xs : List β} (h : R.Own w B H v xs) : R.Row w H v xs := by
  obtain ⟨ps, rfl, hp, _, hh⟩ := h
  exact hp.read (fun g hg => (hh g hg).2)
theorem RowTy.Own.same {R : RowTy α β} {w w' : World} {B H : Nat} {v : Value} {xs : List β} (h : R.Own w B H v xs) (hs : ∀ g, B ≤ g → g < H → w'.heap[g]? = w.heap[g]?) : R.Own w' B H v xs := by
  obtain ⟨ps, rfl, hp, hn, hh⟩ := h
  exact ⟨ps, rfl, hp.same (fun g hg => hs g (hh g hg).1 (hh g hg).2), hn, hh⟩
theorem RowTy.Own.below {R : RowTy α β} {w w' : World} {B H K : Nat} {v : Value} {xs : List β} (h : R.Own w B H v xs) (hb : Below K w w') (hK : H ≤ K) : R.Own w' B H v xs := h.same (fun g _ hg => hb.block g (by omega))
theorem RowTy.Own.wide {R : RowTy α β} {w : World} {B H B' H' : Nat} {v : Value} {xs : List β} (h : R.Own w B H v xs) (hB : B' ≤ B) (hH : H ≤ H') : R.Own w B' H' v xs := by
  obtain ⟨ps, rfl, hp, hn, hh⟩ := h
  exact ⟨ps, rfl, hp.base (fun g hg => by have := (hh g hg).1; omega), hn, fun g hg => ⟨by have := (hh g hg).1; omega, by have := (hh g hg).2; omega⟩⟩

/-! ### marks -/
variable (mk : Nat → α → α) (ln : α → Nat)
def markL : Nat → List α → List α
  | _, [] => []
  | k, x :: xs => mk k x :: markL (k + ln x) xs
def markN : List α → Nat
  | [] => 0
  | x :: xs => ln x + markN xs
theorem markL_len : ∀ (xs : List α) (k : Nat), (markL mk ln k xs).length = xs.length := by
  intro xs
  induction xs with
  | nil => intro k; rfl
  | cons x xs ih => intro k; simp [markL, ih]
theorem markN_append (xs ys : List α) : markN ln (xs ++ ys) = markN ln xs + markN ln ys := by
  induction xs with
  | nil => simp [markN]
  | cons x xs ih => simp [markN, ih, Nat.add_assoc]
theorem markL_append : ∀ (xs ys : List α) (k : Nat), markL mk ln k (xs ++ ys) = markL mk ln k xs ++ markL mk ln (k + markN ln xs) ys := by
  intro xs
  induction xs with
  | nil => intro ys k; simp [markL, markN]
  | cons x xs ih => intro ys k; simp [markL, markN, ih, Nat.add_assoc]
theorem markN_take (xs : List α) (i : Nat) (h : i < xs.length) : markN ln (xs.take (i + 1)) = markN ln (xs.take i) + ln xs[i] := by
  rw [List.take_succ_eq_append_getElem h, markN_append]
  simp [markN]
theorem markN_take_le (xs : List α) (i : Nat) : markN ln (xs.take i) ≤ markN ln xs := by
  have := markN_append ln (xs.take i) (xs.drop i)
  rw [List.take_append_drop] at this
  omega
/-- The first i are marked, the others are as they were. -/
def markTo (k : Nat) (xs : List α) (i : Nat) : List α := markL mk ln k (xs.take i) ++ xs.drop i
theorem markTo_len (k : Nat) (xs : List α) (i : Nat) : (markTo mk ln k xs i).length = xs.length := by
  simp [markTo, markL_len]
  omega
theorem markTo_zero (k : Nat) (xs : List α) : markTo mk ln k xs 0 = xs := by simp [markTo, markL]
theorem markTo_all (k : Nat) (xs : List α) (i : Nat) (h : xs.length ≤ i) : markTo mk ln k xs i = markL mk ln k xs := by
  simp [markTo, List.take_of_length_le h, List.drop_of_length_le h]
theorem markTo_at (k : Nat) (xs : List α) (i : Nat) (h : i < xs.length) : (markTo mk ln k xs i)[i]'(by rw [markTo_len]; exact h) = xs[i] := by
  unfold markTo
  have hl : (markL mk ln k (xs.take i)).length = i := by rw [markL_len]; simp; omega
  rw [List.getElem_append_right (by omega)]
  simp [hl]
theorem markTo_step (k : Nat) (xs : List α) (i : Nat) (h : i < xs.length) (y : α) (hy : y = mk (k + markN ln (xs.take i)) xs[i]) : (markTo mk ln k xs i).set i y = markTo mk ln k xs (i + 1) := by
  subst hy
  unfold markTo
  have hl : (markL mk ln k (xs.take i)).length = i := by rw [markL_len]; simp; omega
  rw [List.set_append_right _ _ (by omega), hl, Nat.sub_self, List.drop_eq_getElem_cons h, List.set_cons_zero, List.take_succ_eq_append_getElem h, markL_append]
  simp [markL]
theorem markL_at : ∀ (xs : List α) (k i : Nat) (h : i < xs.length), (markL mk ln k xs)[i]'(by rw [markL_len]; exact h) = mk (k + markN ln (xs.take i)) xs[i] := by
  intro xs
  induction xs with
  | nil => intro k i h; simp at h
  | cons x xs ih =>
    intro k i h
    cases i with
    | zero => simp [markL, markN]
    | succ i =>
      simp only [markL, markN, List.take_succ_cons, List.getElem_cons_succ]
      rw [ih _ _ (by simpa using h), Nat.add_assoc]
end

theorem set_mem {α : Type} {xs : List α} {i : Nat} {y x : α} (h : x ∈ xs.set i y) : x ∈ xs ∨ x = y := by
  rcases List.mem_or_eq_of_mem_set h with h | h
  · exact .inl h
  · exact .inr h

end Go.Proofs.Ytabejilnpblogaa

namespace Go.Proofs.Ytabejilnpblogaa
open Go.RowKit

/-- Cells stored one behind the other. -/
def putCells (w : World) (g : Nat) : Nat → List Value → World
  | _, [] => w
  | off, u :: us => putCells (w.setCell ⟨g, off, none⟩ u) g (off + 1) us
def setMany {γ : Type} : List γ → Nat → List γ → List γ
  | xs, _, [] => xs
  | xs, off, u :: us => setMany (xs.set off u) (off + 1) us
theorem setMany_len {γ : Type} : ∀ (us xs : List γ) (off : Nat), (setMany xs off us).length = xs.length := by
  intro us
  induction us with
  | nil => intro xs off; rfl
  | cons u us ih => intro xs off; rw [setMany, ih, List.length_set]
theorem setMany_app {γ : Type} : ∀ (us a b c : List γ), b.length = us.length → setMany (a ++ b ++ c) a.length us = a ++ us ++ c := by
  intro us
  induction us with
  | nil =>
    intro a b c h
    have : b = [] := List.eq_nil_of_length_eq_zero h
    subst this
    rfl
  | cons u us ih =>
    intro a b c h
    cases b with
    | nil => simp at h
    | cons b0 b =>
      rw [setMany, List.append_assoc, List.cons_append, List.set_append_right _ _ (Nat.le_refl _), Nat.sub_self, List.set_cons_zero]
      have := ih (a ++ [u]) b c (by simpa using h)
      simpa [List.append_assoc] using this
theorem flat_put {α : Type} {k : Nat} {enc : α → List Value} (henc : ∀ x, (enc x).length = k) (xs : List α) (i : Nat) (hi : i < xs.length) (y : α) : setMany (xs.flatMap enc) (i * k) (enc y) = (xs.set i y).flatMap enc := by
  have h1 : xs = xs.take i ++ xs[i] :: xs.drop (i + 1) := by rw [← List.drop_eq_getElem_cons hi, List.take_append_drop]
  have h2 : (xs.flatMap enc) = (xs.take i).flatMap enc ++ enc xs[i] ++ (xs.drop (i + 1)).flatMap enc := by
    conv => lhs; rw [h1]
    rw [List.flatMap_append, List.flatMap_cons, List.append_assoc]
  have h3 : ((xs.take i).flatMap enc).length = i * k := by rw [flat_len henc, List.length_take, Nat.min_eq_left (by omega)]
  rw [h2, ← h3, setMany_app _ _ _ _ (by rw [henc, henc])]
  have h4 : xs.set i y = xs.take i ++ y :: xs.drop (i + 1) := by
    conv => lhs; rw [h1]
    have hl : (xs.take i).length = i := by simp; omega
    rw [List.set_append_right _ _ (by omega), hl, Nat.sub_self, List.set_cons_zero]
  rw [h4]
  simp [List.append_assoc]

theorem putCells_owns {e : TypeId} {k : Nat} {B g cap n : Nat} : ∀ (us : List Value) (w : World) (off : Nat) (cs : List Value), w.ownsRow B e k (.slice (some ⟨g, 0, none⟩) n cap) n cs → (putCells w g off us).ownsRow B e k (.slice (some ⟨g, 0, none⟩) n cap) n (setMany cs off us) := by
  intro us
  induction us with
  | nil => intro w off cs h; exact h
  | cons u us ih => intro w off cs h; exact ih _ _ _ (World.ownsRow.stored h off u).1
theorem putCells_other {g b : Nat} (h : b ≠ g) : ∀ (us : List Value) (w : World) (off : Nat), (putCells w g off us).heap[b]? = w.heap[b]? := by
  intro us
  induction us with
  | nil => intro w off; rfl
  | cons u us ih => intro w off; rw [putCells, ih]; exact Below.heap_setCell _ _ _ _ h
theorem putCells_size {g : Nat} : ∀ (us : List Value) (w : World) (off : Nat), (putCells w g off us).heap.size = w.heap.size := by
  intro us
  induction us with
  | nil => intro w off; rfl
  | cons u us ih => intro w off; rw [putCells, ih]; simp [World.setCell]
theorem putCells_below {B g : Nat} (h : B ≤ g) : ∀ (us : List Value) (w0 w : World) (off : Nat), Below B w0 w → Below B w0 (putCells w g off us) := by
  intro us
  induction us with
  | nil => intro w0 w off hb; exact hb
  | cons u us ih => intro w0 w off hb; exact ih _ _ _ (hb.setCell (p := ⟨g, off, none⟩) h _)

section
variable {α β : Type} {k : Nat}
theorem OwnsR.put {enc : α → List Value} (henc : ∀ x, (enc x).length = k) {w : World} {B : Nat} {e : TypeId} {g cap n : Nat} {xs : List α} (h : OwnsR enc k w B e (.slice (some ⟨g, 0, none⟩) n cap) xs) (hn : n = xs.length) (i : Nat) (hi : i < xs.length) (y : α) :
    OwnsR enc k (putCells w g (i * k) (enc y)) B e (.slice (some ⟨g, 0, none⟩) n cap) (xs.set i y) := by
  subst hn
  have := putCells_owns (enc y) w (i * k) (xs.flatMap enc) h
  rw [flat_put henc xs i hi y] at this
  unfold OwnsR
  rw [List.length_set]
  exact this

theorem zero_cells {enc : α → List Value} (z : α) (zv : Value) (henc : ∀ x, (enc x).length = k) (hk : 0 < k) (hz : zv.cells = (enc z).toArray) (m : Nat) : (madeCells zv.cells (m * k)).toList = (List.replicate m z).flatMap enc := by
  apply List.ext_getElem?
  intro i
  have hl : ((List.replicate m z).flatMap enc).length = m * k := by rw [flat_len henc, List.length_replicate]
  have hl2 : (madeCells zv.cells (m * k)).toList.length = m * k := by rw [Array.length_toList, size_madeCells]
  have hs : zv.cells.size = k := by rw [hz]; simp [henc]
  by_cases hi : i < m * k
  · have hd : i / k < m := Nat.div_lt_of_lt_mul (by rw [Nat.mul_comm]; exact hi)
    have h2 := flat_at henc (List.replicate m z) (i / k) (i % k) (by simpa using hd) (Nat.mod_lt _ hk)
    rw [show i / k * k + i % k = i by rw [Nat.mul_comm]; exact Nat.div_add_mod i k] at h2
    rw [h2, List.getElem?_eq_getElem (by omega)]
    have hm : i % k < zv.cells.size := by rw [hs]; exact Nat.mod_lt _ hk
    have hm2 : i % k < (enc z).length := by rw [henc]; exact Nat.mod_lt _ hk
    simp only [List.getElem_replicate]
    rw [List.getElem?_eq_getElem hm2]
    have he : (enc z).length = k := henc z
    simp only [madeCells, hz, Array.getElem_toList, Array.getElem_map, Array.getElem_range, List.size_toArray, he]
    rw [getElem!_pos _ _ (by simpa using hm2)]
    simp
  · rw [List.getElem?_eq_none (by omega), List.getElem?_eq_none (by omega)]

/-- A row of N that is filled element by element: the first m are there, each with rows of its own. -/
def Made (R : RowTy α β) (w wr : World) (N : Nat) (z : α) (xs : List β) (m : Nat) : Prop :=
  ∃ qs : List α, qs.map R.log = xs.take m ∧ OwnsR R.enc R.k wr w.heap.size R.T (.slice (some ⟨w.heap.size, 0, none⟩) N N) (qs ++ List.replicate (N - m) z) ∧ (∀ p ∈ qs, R.sub wr w.heap.size p) ∧ (fps (qs.flatMap R.vals)).Nodup ∧ ∀ g ∈ fps (qs.flatMap R.vals), w.heap.size < g

theorem made_len {R : RowTy α β} {N : Nat} {xs : List β} {m : Nat} (hN : xs.length = N) (hm : m ≤ N) {qs : List α} (h : qs.map R.log = xs.take m) : qs.length = m := by
  have := congrArg List.length h
  simp at this
  omega
theorem Made.start {R : RowTy α β} {w w0 : World} {N : Nat} {z : α} (xs : List β) (h : OwnsR R.enc R.k w0 w.heap.size R.T (.slice (some ⟨w.heap.size, 0, none⟩) N N) (List.replicate N z)) : Made R w w0 N z xs 0 :=
  ⟨[], by simp, by simpa using h, by simp, by simp [fps], by simp [fps]⟩
/-- The place of the next element: its cells are there. -/
theorem Made.cells {R : RowTy α β} {w wr w1 : World} {N : Nat} {z : α} {xs : List β} {m : Nat} (h : Made R w wr N z xs m) (hN : xs.length = N) (hm : m < N) (hb : Below wr.heap.size wr w1) :
    (∀ j, j < R.k → w1.cell? ⟨w.heap.size, m * R.k + j, none⟩ = (R.enc z)[j]?) ∧ ∀ j, w1.frozen? ⟨w.heap.size, j, none⟩ = false := by
  obtain ⟨qs, hq, ho, _⟩ := h
  have hl : qs.length = m := made_len hN (by omega) hq
  have ho1 : OwnsR R.enc R.k w1 w.heap.size R.T (.slice (some ⟨w.heap.size, 0, none⟩) N N) (qs ++ List.replicate (N - m) z) := OwnsR.below ho hb
  have hll : N = (qs ++ List.replicate (N - m) z).length := by simp; omega
  refine ⟨fun j hj => ?_, fun j => OwnsR.free ho1 hll j⟩
  rw [OwnsR.cell R.len ho1 hll m j (by omega) hj]
  congr 2
  rw [List.getElem_append_right (by omega)]
  simp
theorem Made.lt {R : RowTy α β} {w wr : World} {N : Nat} {z : α} {xs : List β} {m : Nat} (h : Made R w wr N z xs m) : w.heap.size < wr.heap.size := by
  obtain ⟨qs, hq, ho, _⟩ := h
  exact (OwnsR.lt ho w.heap.size (by simp [fpOf, Value.ownBlock])).2
theorem Made.step {R : RowTy α β} {w wr w1 : World} {N : Nat} {z : α} {xs : List β} {m : Nat} (h : Made R w wr N z xs m) (hN : xs.length = N) (hm : m < N) (hb : Below wr.heap.size wr w1) (p : α) (hp : R.log p = xs[m]'(by omega)) (hs : R.sub w1 wr.heap.size p) (hn : (fps (R.vals p)).Nodup) :
    Made R w (putCells w1 w.heap.size (m * R.k) (R.enc p)) N z xs (m + 1) := by
  have hlt := h.lt
  obtain ⟨qs, hq, ho, hsub, hnd, hgt⟩ := h
  have hl : qs.length = m := made_len hN (by omega) hq
  have ho1 : OwnsR R.enc R.k w1 w.heap.size R.T (.slice (some ⟨w.heap.size, 0, none⟩) N N) (qs ++ List.replicate (N - m) z) := OwnsR.below ho hb
  have hll : N = (qs ++ List.replicate (N - m) z).length := by simp; omega
  have hset : (qs ++ List.replicate (N - m) z).set m p = (qs ++ [p]) ++ List.replicate (N - (m + 1)) z := by
    rw [List.set_append_right _ _ (by omega), hl, Nat.sub_self, show N - m = (N - (m + 1)) + 1 by omega, List.replicate_succ, List.set_cons_zero, List.append_assoc]
    rfl
  have hpv : ∀ g ∈ fps (R.vals p), wr.heap.size ≤ g := fun g hg => (R.sub_lt hs g hg).1
  refine ⟨qs ++ [p], ?_, ?_, ?_, ?_, ?_⟩
  · rw [List.map_append, hq, List.take_succ_eq_append_getElem (by omega), List.map_cons, List.map_nil, hp]
  · rw [← hset]
    exact OwnsR.put R.len ho1 hll m (by omega) p
  · intro q hq'
    rcases List.mem_append.mp hq' with h1 | h1
    · refine R.sub_same (hsub q h1) (fun g hg => ?_)
      have hg1 := R.sub_lt (hsub q h1) g hg
      have hg2 : w.heap.size < g := hgt g (by
        obtain ⟨u, hu, hgu⟩ := List.mem_flatMap.mp hg
        exact mem_fps (List.mem_flatMap.mpr ⟨q, h1, hu⟩) hgu)
      rw [putCells_other (by omega)]
      exact hb.block g hg1.2
    · have : q = p := by simpa using h1
      subst this
      refine R.sub_same (R.sub_base hs (fun g hg => by have := hpv g hg; omega)) (fun g hg => ?_)
      have := hpv g hg
      rw [putCells_other (by omega)]
  · rw [List.flatMap_append, fps_append, List.nodup_append]
    refine ⟨hnd, by simpa using hn, ?_⟩
    intro a ha b hb' e
    subst e
    have h1 : a ∈ fps (R.vals p) := by simpa using hb'
    obtain ⟨u, hu, hau⟩ := List.mem_flatMap.mp ha
    obtain ⟨q, hq1, hq2⟩ := List.mem_flatMap.mp hu
    have h2 := (R.sub_lt (hsub q hq1) a (mem_fps hq2 hau)).2
    have := hpv a h1
    omega
  · intro g hg
    rw [List.flatMap_append, fps_append] at hg
    rcases List.mem_append.mp hg with h1 | h1
    · exact hgt g h1
    · have := hpv g (by simpa using h1)
      omega
theorem Made.done {R : RowTy α β} {w wr : World} {N : Nat} {z : α} {xs : List β} (h : Made R w wr N z xs N) (hN : xs.length = N) : R.Own wr w.heap.size wr.heap.size (.slice (some ⟨w.heap.size, 0, none⟩) N N) xs := by
  obtain ⟨qs, hq, ho, hsub, hnd, hgt⟩ := h
  rw [Nat.sub_self, List.replicate_zero, List.append_nil] at ho
  rw [List.take_of_length_le (by omega)] at hq
  have hP : R.Phys wr w.heap.size (.slice (some ⟨w.heap.size, 0, none⟩) N N) qs := ⟨ho, hsub⟩
  refine ⟨qs, hq, hP, ?_, hP.lt⟩
  unfold RowTy.all
  rw [fps_cons, List.nodup_append]
  refine ⟨by simp [fpOf, Value.ownBlock], hnd, ?_⟩
  intro a ha b hb e
  subst e
  have h1 : a = w.heap.size := by simpa [fpOf, Value.ownBlock] using ha
  have h2 := hgt a hb
  omega
end

theorem flat_nil {α : Type} (ps : List α) : ps.flatMap (fun _ => ([] : List Value)) = [] := by
  induction ps with
  | nil => rfl
  | cons x xs ih => simp [ih]
theorem kept_set {w : World} {b c j : Nat} {u : Value} (h : b ≠ c) : (w.setCell ⟨c, j, none⟩ u).heap[b]? = w.heap[b]? := Below.heap_setCell _ _ _ _ h
theorem cell_at {w : World} {b : Nat} {cs : Array Value} {T : TypeId} {fr : Nat × Nat} (hb : w.heap[b]? = some (.cells cs T fr)) (j : Nat) : w.cell? ⟨b, j, none⟩ = cs[j]? := by
  simp [World.cell?, hb]
theorem free_at {w : World} {b : Nat} {cs : Array Value} {T : TypeId} (hb : w.heap[b]? = some (.cells cs T (0, 0))) (j : Nat) : w.frozen? ⟨b, j, none⟩ = false := by
  simp [World.frozen?, hb]
theorem third_new (w : World) (o1 o2 o3 : Obj) : (((w.alloc o1).alloc o2).alloc o3).heap[w.heap.size + 2]? = some o3 := by
  have h : ((w.alloc o1).alloc o2).heap.size = w.heap.size + 2 := by simp
  rw [← h]
  exact heap_alloc_new _ _
theorem second_new (w : World) (o1 o2 o3 : Obj) : (((w.alloc o1).alloc o2).alloc o3).heap[w.heap.size + 1]? = some o2 := by
  have h : (w.alloc o1).heap.size = w.heap.size + 1 := by simp
  rw [Below.heap_alloc _ _ _ (by simp), ← h]
  exact heap_alloc_new _ _
theorem first_new (w : World) (o1 o2 o3 : Obj) : (((w.alloc o1).alloc o2).alloc o3).heap[w.heap.size]? = some o1 := by
  rw [Below.heap_alloc _ _ _ (by simp; omega), Below.heap_alloc _ _ _ (by simp)]
  exact heap_alloc_new _ _

end Go.Proofs.Ytabejilnpblogaa

namespace Go.Proofs.Ytabejilnpblogaa
open Go.RowKit

section
variable {α β : Type}

theorem RowTy.all_set {R : RowTy α β} {v : Value} {ps : List α} {i : Nat} (hi : i < ps.length) {p' : α} (hv : R.vals p' = R.vals ps[i]) : R.all v (ps.set i p') = R.all v ps := by
  unfold RowTy.all
  congr 1
  have h1 : ps = ps.take i ++ ps[i] :: ps.drop (i + 1) := by rw [← List.drop_eq_getElem_cons hi, List.take_append_drop]
  have h4 : ps.set i p' = ps.take i ++ p' :: ps.drop (i + 1) := by
    conv => lhs; rw [h1]
    have hl : (ps.take i).length = i := by simp; omega
    rw [List.set_append_right _ _ (by omega), hl, Nat.sub_self, List.set_cons_zero]
  rw [h4]
  conv => rhs; rw [h1]
  rw [List.flatMap_append, List.flatMap_append, List.flatMap_cons, List.flatMap_cons, hv]
theorem fps_flat (vals : α → List Value) (ps : List α) : fps (ps.flatMap vals) = ps.flatMap (fun p => fps (vals p)) := by
  unfold fps
  rw [List.flatMap_assoc]
theorem flat_apart {vals : α → List Value} : ∀ {ps : List α} {a b : Nat} (ha : a < ps.length) (hb : b < ps.length), (fps (ps.flatMap vals)).Nodup → a ≠ b → ∀ g, g ∈ fps (vals ps[a]) → g ∉ fps (vals ps[b]) := by
  intro ps
  induction ps with
  | nil => intro a b ha; simp at ha
  | cons x xs ih =>
    intro a b ha hb hn hab g hga hgb
    rw [List.flatMap_cons, fps_append, List.nodup_append] at hn
    have hin : ∀ c (hc : c < xs.length), ∀ g, g ∈ fps (vals xs[c]) → g ∈ fps (xs.flatMap vals) := fun c hc g hg => by
      rw [fps_flat]
      exact List.mem_flatMap.mpr ⟨xs[c], List.getElem_mem hc, hg⟩
    cases a with
    | zero =>
      cases b with
      | zero => exact hab rfl
      | succ b => exact hn.2.2 g (by simpa using hga) g (hin b (by simpa using hb) g (by simpa using hgb)) rfl
    | succ a =>
      cases b with
      | zero => exact hn.2.2 g (by simpa using hgb) g (hin a (by simpa using ha) g (by simpa using hga)) rfl
      | succ b => exact ih (by simpa using ha) (by simpa using hb) hn.2.1 (by omega) g (by simpa using hga) (by simpa using hgb)

/-- A row that is being marked. -/
structure MarkSt (R : RowTy α β) (w0 : World) (VS : List Value) (W : World) (B g n cap : Nat) (L : List α) : Prop where
  phys : R.Phys W B (.slice (some ⟨g, 0, none⟩) n cap) L
  all : R.all (.slice (some ⟨g, 0, none⟩) n cap) L = VS
  nd : (fps VS).Nodup
  len : n = L.length
  kept : Kept VS w0 W

theorem MarkSt.cell {R : RowTy α β} {w0 W : World} {VS : List Value} {B g n cap : Nat} {L : List α} (h : MarkSt R w0 VS W B g n cap L) (i j : Nat) (hi : i < L.length) (hj : j < R.k) : W.cell? ⟨g, i * R.k + j, none⟩ = (R.enc L[i])[j]? := OwnsR.cell R.len h.phys.1 h.len i j hi hj
theorem MarkSt.free {R : RowTy α β} {w0 W : World} {VS : List Value} {B g n cap : Nat} {L : List α} (h : MarkSt R w0 VS W B g n cap L) (j : Nat) : W.frozen? ⟨g, j, none⟩ = false := OwnsR.free h.phys.1 h.len j
theorem MarkSt.below {R : RowTy α β} {w0 W W' : World} {VS : List Value} {B g n cap : Nat} {L : List α} (h : MarkSt R w0 VS W B g n cap L) (hb : Below W.heap.size W W') : MarkSt R w0 VS W' B g n cap L :=
  ⟨h.phys.below hb, h.all, h.nd, h.len, h.kept.trans (Kept.of_below hb)⟩
theorem MarkSt.field {R : RowTy α β} {w0 W : World} {VS : List Value} {B g n cap : Nat} {L : List α} (h : MarkSt R w0 VS W B g n cap L) (i j : Nat) (hi : i < L.length) (hj : j < R.k) (p' : α) (u : Value) (he : R.enc p' = (R.enc L[i]).set j u) (hv : R.vals p' = R.vals L[i]) (hs : ∀ W B, R.sub W B L[i] → R.sub W B p') :
    MarkSt R w0 VS (W.setCell ⟨g, i * R.k + j, none⟩ u) B g n cap (L.set i p') := by
  have hg : g ∈ fpOf (Value.slice (some ⟨g, 0, none⟩) n cap) := by simp [fpOf, Value.ownBlock]
  have hgV : g ∈ fps VS := by rw [← h.all]; exact R.mem_head hg
  have hnd := h.nd
  rw [← h.all] at hnd
  unfold RowTy.all at hnd
  rw [fps_cons, List.nodup_append] at hnd
  have hsub : ∀ p ∈ L, R.sub (W.setCell ⟨g, i * R.k + j, none⟩ u) B p := fun p hp => R.sub_same (h.phys.2 p hp) (fun x hx => by
    have : x ≠ g := fun e => hnd.2.2 g hg x (by
      obtain ⟨y, hy, hyx⟩ := List.mem_flatMap.mp hx
      exact mem_fps (List.mem_flatMap.mpr ⟨p, hp, hy⟩) hyx) e.symm
    exact kept_set this)
  refine ⟨⟨OwnsR.stored R.len h.phys.1 h.len i j hi hj p' u he, ?_⟩, ?_, h.nd, by rw [List.length_set]; exact h.len, h.kept.trans (Kept.of_set hgV)⟩
  · intro p hp
    rcases set_mem hp with hp | rfl
    · exact hsub p hp
    · exact hs _ _ (hsub _ (List.getElem_mem hi))
  · rw [R.all_set hi hv]
    exact h.all
theorem MarkSt.inner {R : RowTy α β} {w0 W W' : World} {VS : List Value} {B g n cap : Nat} {L : List α} (h : MarkSt R w0 VS W B g n cap L) (i : Nat) (hi : i < L.length) (p' : α) (he : R.enc p' = R.enc L[i]) (hv : R.vals p' = R.vals L[i]) (hk : Kept (R.vals L[i]) W W') (hs : R.sub W' B p') :
    MarkSt R w0 VS W' B g n cap (L.set i p') := by
  have hg : g ∈ fpOf (Value.slice (some ⟨g, 0, none⟩) n cap) := by simp [fpOf, Value.ownBlock]
  have hnd := h.nd
  rw [← h.all] at hnd
  unfold RowTy.all at hnd
  rw [fps_cons, List.nodup_append] at hnd
  have hin : ∀ a (ha : a < L.length), ∀ x ∈ fps (R.vals L[a]), x ∈ fps (L.flatMap R.vals) := fun a ha x hx => by
    rw [fps_flat]
    exact List.mem_flatMap.mpr ⟨L[a], List.getElem_mem ha, hx⟩
  have hsame : (L.set i p').flatMap R.enc = L.flatMap R.enc := by
    have h1 : L = L.take i ++ L[i] :: L.drop (i + 1) := by rw [← List.drop_eq_getElem_cons hi, List.take_append_drop]
    have h4 : L.set i p' = L.take i ++ p' :: L.drop (i + 1) := by
      conv => lhs; rw [h1]
      have hl : (L.take i).length = i := by simp; omega
      rw [List.set_append_right _ _ (by omega), hl, Nat.sub_self, List.set_cons_zero]
    rw [h4]
    conv => rhs; rw [h1]
    rw [List.flatMap_append, List.flatMap_append, List.flatMap_cons, List.flatMap_cons, he]
  refine ⟨⟨?_, ?_⟩, ?_, h.nd, by rw [List.length_set]; exact h.len, h.kept.trans (hk.wide (fun x hx => by rw [← h.all]; exact R.mem_all (List.getElem_mem hi) hx))⟩
  · have h0 : OwnsR R.enc R.k W' B R.T (.slice (some ⟨g, 0, none⟩) n cap) L := h.phys.1.same (fun x hx => hk.block x (h.phys.1.lt x hx).2 (fun hm => hnd.2.2 x hx x (hin i hi x hm) rfl))
    unfold OwnsR at h0 ⊢
    rw [hsame, List.length_set]
    exact h0
  · intro p hp
    obtain ⟨a, ha, rfl⟩ := List.getElem_of_mem hp
    rw [List.length_set] at ha
    rw [List.getElem_set]
    by_cases e : i = a
    · rw [if_pos e]
      exact hs
    · rw [if_neg e]
      exact R.sub_same (h.phys.2 _ (List.getElem_mem ha)) (fun x hx => hk.block x (R.sub_lt (h.phys.2 _ (List.getElem_mem ha)) x hx).2 (fun hm => flat_apart hi ha hnd.2.1 e x hm hx))
  · rw [R.all_set hi hv]
    exact h.all

theorem markTo_vals {R : RowTy α β} {mk : Nat → α → α} {ln : α → Nat} (hv : ∀ k p, R.vals (mk k p) = R.vals p) : ∀ (ps : List α) (k : Nat), (markL mk ln k ps).flatMap R.vals = ps.flatMap R.vals := by
  intro ps
  induction ps with
  | nil => intro k; rfl
  | cons p ps ih => intro k; rw [markL, List.flatMap_cons, List.flatMap_cons, hv, ih]
theorem markTo_map {mk : Nat → α → α} {ln : α → Nat} {mk' : Nat → β → β} {ln' : β → Nat} {log : α → β} (hm : ∀ k p, log (mk k p) = mk' k (log p)) (hl : ∀ p, ln p = ln' (log p)) : ∀ (ps : List α) (k : Nat), (markL mk ln k ps).map log = markL mk' ln' k (ps.map log) := by
  intro ps
  induction ps with
  | nil => intro k; rfl
  | cons p ps ih => intro k; simp only [markL, List.map_cons]; rw [hm, ih, hl]
theorem markN_map {ln : α → Nat} {ln' : β → Nat} {log : α → β} (hl : ∀ p, ln p = ln' (log p)) : ∀ (ps : List α), markN ln ps = markN ln' (ps.map log) := by
  intro ps
  induction ps with
  | nil => rfl
  | cons p ps ih => simp only [markN, List.map_cons]; rw [ih, hl]
theorem len_markN (ln : α → Nat) (h : ∀ p, 1 ≤ ln p) : ∀ (ps : List α), ps.length ≤ markN ln ps := by
  intro ps
  induction ps with
  | nil => exact Nat.zero_le _
  | cons p ps ih => have := h p; simp only [markN, List.length_cons]; omega
/-- Marked, and still owned. -/
theorem RowTy.Own.marked {R : RowTy α β} {mk : Nat → α → α} {ln : α → Nat} (hv : ∀ k p, R.vals (mk k p) = R.vals p) {w w' : World} {B H k : Nat} {v : Value} {ps : List α} (hp : R.Phys w' B v (markL mk ln k ps)) (hn : (fps (R.all v ps)).Nodup) (hh : ∀ g ∈ fps (R.all v ps), B ≤ g ∧ g < H) (_hk : Kept (R.all v ps) w w') : R.Own w' B H v ((markL mk ln k ps).map R.log) := by
  have he : R.all v (markL mk ln k ps) = R.all v ps := by unfold RowTy.all; rw [markTo_vals hv]
  exact ⟨_, rfl, hp, by rw [he]; exact hn, by rw [he]; exact hh⟩
end

def mkI (k : Nat) (_ : Int) : Int := (k : Int)
def lnI (_ : Int) : Nat := 1
theorem lnI_len (xs : List Int) : markN lnI xs = xs.length := by
  induction xs with
  | nil => rfl
  | cons x xs ih => rw [markN, ih, lnI, List.length_cons, Nat.add_comm]

end Go.Proofs.Ytabejilnpblogaa

namespace Go.Proofs.Ytabejilnpblogaa
open Go.RowKit

theorem below_grown {w w' : World} (h : w.grownBy w' none) : Below w.heap.size w w' := ⟨h.os, h.tape, h.output, h.size, fun k hk => h.block k hk (by simp)⟩

structure Box (w : World) (o : Obj) (W : World) : Prop where
  b : Below (w.heap.size + 1) (w.alloc o) W
theorem Box.cell {w W : World} {cs : Array Value} {T : TypeId} {fr : Nat × Nat} (h : Box w (.cells cs T fr) W) (j : Nat) : W.cell? ⟨w.heap.size, j, none⟩ = cs[j]? :=
  (h.b.cell (p := ⟨w.heap.size, j, none⟩) (Nat.lt_succ_self _)).trans (cell_at (heap_alloc_new _ _) j)
theorem Box.lt {w W : World} {o : Obj} (h : Box w o W) : w.heap.size < W.heap.size := by have := h.b.size; simp at this; omega
theorem Box.below {w W : World} {o : Obj} (h : Box w o W) : Below w.heap.size w W := ((Below.refl _ _).alloc (Nat.le_refl _) _).trans (h.b.mono (by omega))
theorem Box.next {w W W' : World} {o : Obj} (h : Box w o W) (hb : Below W.heap.size W W') : Box w o W' := ⟨h.b.trans (hb.mono (by have := h.lt; omega))⟩
theorem Box.first (w : World) (o : Obj) : Box w o (w.alloc o) := ⟨Below.refl _ _⟩
theorem Box.alloc {w W : World} {o : Obj} (h : Box w o W) (o' : Obj) : Box w o (W.alloc o') := h.next ((Below.refl _ _).alloc (Nat.le_refl _) _)
theorem Box.drew {w W : World} {o : Obj} (h : Box w o W) : Box w o W.drew := ⟨h.b.drew⟩
theorem Box.setCell {w W : World} {o : Obj} (h : Box w o W) {g j : Nat} (hg : w.heap.size < g) (u : Value) : Box w o (W.setCell ⟨g, j, none⟩ u) := ⟨h.b.setCell (p := ⟨g, j, none⟩) hg u⟩
/-- A box that was there when another was made. -/
theorem Box.under {w w1 W : World} {o o' : Obj} (h : Box w o w1) (h' : Box w1 o' W) : Box w o W := h.next h'.below

end Go.Proofs.Ytabejilnpblogaa

namespace Go.Proofs.Ytabejilnpblogaa
open Go.RowKit

/-- 'append' of one record, and where the row lies then. -/
theorem appendRA {α : Type} {k : Nat} {enc : α → List Value} (henc : ∀ x, (enc x).length = k) {P : Program} {w0 : World} {ops : Array Oper} {rest : List Oper} {o : Oper} {a : Act} {Q : Exit → Act → World → Prop}
    (hgd : o.guard = none) (s x : Operand) (t : TypeId) (ho : o.op = .call { callee := .builtin .append, args := #[s, x], argTypes := #[t, t] })
    (B : Nat) (e : TypeId) (z : Value) (bytes : Nat) (ht : P.underlying t = some (.slice e)) (hi : (P.info? e).map (fun i => (i.zero, i.size, i.bytes)) = some (some z, k, bytes)) (hzs : z.cells.size = k) (hk : 0 < k)
    {v : Value} {xs : List α} (hown : OwnsR enc k w0 B e v xs) (y : α) (h1 : ∀ u ∈ enc y, u.oneCell' = true) (hs : a.eval s = v) (hx : a.eval x = .slice (some ⟨w0.heap.size, 0, none⟩) 1 1)
    (hlen : xs.length ≤ 10000000) (hby : bytes ≤ 1000) (hB : B ≤ w0.heap.size)
    (h : ∀ v' w', OwnsR enc k w' B e v' (xs ++ [y]) → w0.grownBy w' v.ownBlock → (v'.ownBlock = v.ownBlock ∨ ∃ b, v'.ownBlock = some b ∧ w0.heap.size ≤ b) → (∃ g cap, v' = .slice (some ⟨g, 0, none⟩) (xs.length + 1) cap) → wpList P ops Q rest (a.put o.dst v') w') :
    wpList P ops Q (o :: rest) a (w0.alloc (.cells (enc y).toArray e)) := by
  obtain ⟨i, hi, hz0, hz1, hz2⟩ := info_parts hi
  refine wpList_append_own_at _ hgd s x t ho B e i z k bytes ht hi hz0 hz1 hz2 hzs hk v xs.length (xs.flatMap enc) hs (World.ownsRow.alloc hown _) ⟨w0.heap.size, 0, none⟩ 1 1 (enc y) hx (by rw [henc, Nat.one_mul]) (news_block w0 _ e) h1 (by unfold maxLen; omega) ?_ (by simp; omega) ?_
  · have : (xs.length + 1) * bytes ≤ 10000001 * 1000 := Nat.mul_le_mul (by omega) hby
    omega
  intro v' w' ho' hg hn hat
  have ho2 : OwnsR enc k w' B e v' (xs ++ [y]) := by
    unfold OwnsR
    rw [List.flatMap_append, List.length_append]
    simpa using ho'
  refine h v' w' ho2 ?_ ?_ ?_
  · refine ⟨hg.os, hg.tape, hg.output, ?_, fun j hj hne => ?_⟩
    · have := hg.size
      simp at this
      omega
    · rw [hg.block j (by simp; omega) hne]
      exact Below.heap_alloc w0 _ j hj
  · rcases hat with e | e
    · exact .inl e
    · exact .inr ⟨_, e, by simp⟩
  · rcases OwnsR.form ho2 with ⟨_, h0⟩ | ⟨g5, cap5, h5, _⟩
    · simp at h0
    · refine ⟨g5, cap5, ?_⟩
      rw [h5, List.length_append, List.length_singleton]

/-- The same at a step of a region that draws its order. -/
theorem step_appendRA {α : Type} {k : Nat} {enc : α → List Value} (henc : ∀ x, (enc x).length = k) {P : Program} {w : World} {ops : Array Oper} {o : Oper} {a : Act} {K : Act → World → Prop} {Q : Exit → Act → World → Prop} {E : Prop}
    (hgd : o.guard = none) (s x : Operand) (t : TypeId) (ho : o.op = .call { callee := .builtin .append, args := #[s, x], argTypes := #[t, t] })
    (B : Nat) (e : TypeId) (z : Value) (bytes : Nat) (ht : P.underlying t = some (.slice e)) (hi : (P.info? e).map (fun i => (i.zero, i.size, i.bytes)) = some (some z, k, bytes)) (hzs : z.cells.size = k) (hk : 0 < k)
    {v : Value} {xs : List α} (hown : OwnsR enc k w B e v xs) (y : α) (h1 : ∀ u ∈ enc y, u.oneCell' = true) (b : Nat) (fr : Nat × Nat) (hb : w.heap[b]? = some (.cells (enc y).toArray e fr)) (hs : a.eval s = v) (hx : a.eval x = .slice (some ⟨b, 0, none⟩) 1 1)
    (hlen : xs.length ≤ 10000000) (hby : bytes ≤ 1000) (hB : B ≤ w.heap.size)
    (h : ∀ v' w', OwnsR enc k w' B e v' (xs ++ [y]) → w.grownBy w' v.ownBlock → (v'.ownBlock = v.ownBlock ∨ ∃ b, v'.ownBlock = some b ∧ w.heap.size ≤ b) → (∃ g cap, v' = .slice (some ⟨g, 0, none⟩) (xs.length + 1) cap) → K (a.put o.dst v') w') :
    if Region.wanted o (yielded ops a.tmps) = true then Oper.wp P o a w K Q else E := by
  have hw : Region.wanted o (yielded ops a.tmps) = true := by simp [Region.wanted, hgd]
  rw [if_pos hw]
  obtain ⟨i, hi, hz0, hz1, hz2⟩ := info_parts hi
  have hbt : (xs.length + 1) * bytes ≤ 140737488355328 := by
    have : (xs.length + 1) * bytes ≤ 10000001 * 1000 := Nat.mul_le_mul (by omega) hby
    omega
  have hnews : ∀ j u, (enc y)[j]? = some u → w.cell? ((⟨b, 0, none⟩ : Addr).add j) = some u := by
    have := World.news_of_block hb
    simpa using this
  obtain ⟨v', w', hr, h2, h3, h4, h5⟩ := run_append_own_at (P := P) w B t o.type e i z k bytes ht hi hz0 hz1 hz2 hzs hk v xs.length (xs.flatMap enc) hown ⟨b, 0, none⟩ 1 1 (enc y) (by rw [henc, Nat.one_mul]) hnews h1 (by unfold maxLen; omega) hbt hB
  have ho2 : OwnsR enc k w' B e v' (xs ++ [y]) := by
    unfold OwnsR
    rw [List.flatMap_append, List.length_append]
    simpa using h2
  unfold Oper.wp execOp
  simp only [ho, resolve, invoke, builtin, Sem.run_bind, Sem.run_pure, Result.andThen_ok, List.map_toArray, List.map_cons, List.map_nil, hs, hx, hr]
  refine h v' w' ho2 h3 ?_ ?_
  · rcases h5 with e | e
    · exact .inl e
    · exact .inr ⟨_, e, Nat.le_refl _⟩
  · rcases OwnsR.form ho2 with ⟨_, h0⟩ | ⟨g5, cap5, h6, _⟩
    · simp at h0
    · refine ⟨g5, cap5, ?_⟩
      rw [h6, List.length_append, List.length_singleton]

end Go.Proofs.Ytabejilnpblogaa

namespace Go.Proofs.Ytabejilnpblogaa
open Go.RowKit

theorem step_catS {P : Program} {w : World} {ops : Array Oper} {o : Oper} {a : Act} {K : Act → World → Prop} {Q : Exit → Act → World → Prop} {E : Prop}
    (hgd : o.guard = none) (s x : Operand) (t : TypeId) (ho : o.op = .call { callee := .builtin .append, args := #[s, x], argTypes := #[t, t] })
    (B : Nat) (e : TypeId) (ht : P.underlying t = some (.slice e)) (hi : (P.info? e).map (fun i => (i.zero, i.size, i.bytes)) = some (some (.string ByteArray.empty), 1, 16))
    {v : Value} {xs : List ByteArray} (hown : OwnsS w B e v xs) {C : Nat} {u : Value} {ys : List ByteArray} (hsrc : OwnsS w C e u ys) (hs : a.eval s = v) (hx : a.eval x = u)
    (hlen : xs.length + ys.length ≤ 1000000) (hB : B ≤ w.heap.size)
    (h : ∀ v' w', OwnsS w' B e v' (xs ++ ys) → w.grownBy w' v.ownBlock → K (a.put o.dst v') w') :
    if Region.wanted o (yielded ops a.tmps) = true then Oper.wp P o a w K Q else E := by
  have hw : Region.wanted o (yielded ops a.tmps) = true := by simp [Region.wanted, hgd]
  rw [if_pos hw]
  obtain ⟨i, hi, hz0, hz1, hz2⟩ := info_parts hi
  rcases OwnsS.form hsrc with ⟨rfl, rfl⟩ | ⟨g, cap, rfl, _, hg⟩
  · have hrun := run_append_owned_none (P := P) (w := w) B t o.type e i 1 ht hi v xs.length (xs.map Value.string) hown
    unfold Oper.wp
    simp [execOp, ho, resolve, invoke, builtin, hs, hx, hrun, Result.andThen]
    exact h v w (by simpa using hown) (World.grownBy.refl _ _)
  · refine wp_append_own _ s x t ho B e i (.string ByteArray.empty) 1 16 ht hi hz0 hz1 hz2 rfl (by decide) v xs.length (xs.map Value.string) hs hown ⟨g, 0, none⟩ ys.length cap (ys.map Value.string) hx (by simp) ?_ (ones_str _) (by unfold maxLen; omega) (by omega) hB ?_
    · intro j q hj
      have hjl : j < ys.length := by
        rcases Nat.lt_or_ge j ys.length with h1 | h1
        · exact h1
        · rw [List.getElem?_eq_none (by simpa using h1)] at hj
          cases hj
      have ha : (⟨g, 0, none⟩ : Addr).add j = ⟨g, j, none⟩ := by unfold Addr.add; split <;> simp_all
      rw [ha, OwnsS.cell hsrc hjl, ← hj]
      simp [List.getD, hjl]
    · intro v' w' ho' hg' _
      refine h v' w' ?_ hg'
      unfold OwnsS
      rw [List.map_append, List.length_append]
      exact ho'
theorem ownsS_lt {w : World} {B : Nat} {e : TypeId} {v : Value} {xs : List ByteArray} (h : OwnsS w B e v xs) : ∀ g, v.ownBlock = some g → B ≤ g ∧ g < w.heap.size := fun g hg => World.ownsRow.lt h g hg
theorem ownsS_some {w : World} {B : Nat} {e : TypeId} {v : Value} {xs : List ByteArray} (h : OwnsS w B e v xs) (hx : xs ≠ []) : ∃ g n cap, v = .slice (some ⟨g, 0, none⟩) n cap := by
  rcases OwnsS.form h with ⟨_, h0⟩ | ⟨g, cap, h1, _⟩
  · exact absurd h0 hx
  · exact ⟨g, _, cap, h1⟩
theorem fst_new (w : World) (a b : Obj) : ((w.alloc a).alloc b).heap[w.heap.size]? = some a := by
  rw [Below.heap_alloc _ _ _ (by simp)]
  exact heap_alloc_new w a
theorem snd_new (w : World) (a b : Obj) : ((w.alloc a).alloc b).heap[w.heap.size + 1]? = some b := by
  have h := heap_alloc_new (w.alloc a) b
  have hz : (w.alloc a).heap.size = w.heap.size + 1 := by simp
  rw [hz] at h
  exact h
theorem ownsS_lit {w : World} {B b : Nat} {e : TypeId} {nm : ByteArray} (h : w.heap[b]? = some (.cells #[.string nm] e (0, 0))) (hb : B ≤ b) : OwnsS w B e (.slice (some ⟨b, 0, none⟩) 1 1) [nm] :=
  ⟨rfl, .inr ⟨b, 1, _, rfl, hb, h, Nat.le_refl _, by unfold maxLen; decide, rfl, rfl⟩⟩
theorem ownsS_emptyAt {w : World} {B b : Nat} {e : TypeId} (h : w.heap[b]? = some (.cells #[] e (0, 0))) (hb : B ≤ b) : OwnsS w B e (.slice (some ⟨b, 0, none⟩) 0 0) [] :=
  ⟨rfl, .inr ⟨b, 0, _, rfl, hb, h, Nat.le_refl _, Nat.zero_le _, rfl, rfl⟩⟩

end Go.Proofs.Ytabejilnpblogaa
