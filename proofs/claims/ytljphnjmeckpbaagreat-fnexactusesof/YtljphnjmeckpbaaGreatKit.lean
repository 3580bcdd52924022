/-
  Small helps of my own for the walks of this seat: rows of bytes that a call made, read as texts; what one append of bytes leaves. No program is named here.
-/
import Derived.WalkKit
import Derived.WalkSpells
import Derived.WalkLawsBesides
import Derived.Laws.BytesArg
import Derived.RegionTactic
import Derived.Deep.RegionHeld3
import Derived.Deep.AppendLies
namespace Go.Proofs.YtljphnjmeckpbaaGreat
open Go.RowKit

/-- The cells of a row of numbers that are bytes. -/
def u8s (xs : List Int) : List Value := xs.map (Value.int .u8)

theorem u8s_append (xs ys : List Int) : u8s (xs ++ ys) = u8s xs ++ u8s ys := by simp [u8s]
theorem u8s_length (xs : List Int) : (u8s xs).length = xs.length := by simp [u8s]

/-- A row of bytes that the call owns. -/
def Owns8 (w : World) (B : Nat) (e : TypeId) (v : Value) (xs : List Int) : Prop := w.ownsRow B e 1 v xs.length (u8s xs)

/-- 'string(b)' of a row of bytes that the call owns. -/
theorem own8_string {P : Program} {w : World} {B : Nat} {e src : TypeId} {v : Value} {xs : List Int} (h : Owns8 w B e v xs)
    (hs : P.underlying src = some (.slice e)) (he : P.underlying e = some (.int .u8)) :
    ∀ dst, P.underlying dst = some .string → (convert src dst v).run P w = .ok (.string (strOfNums xs)) w := by
  intro dst hd
  have h' := h
  obtain ⟨hl, h2⟩ := h'
  rcases h2 with ⟨rfl, h0⟩ | ⟨g, cap, cur, rfl, hbg, hg, hnc, hcm, hcs, htake⟩
  · have hx : xs = [] := List.eq_nil_of_length_eq_zero h0
    subst hx
    rw [run_convert_bytes_nil w src e hs he 0 0 dst hd]
    rfl
  · refine run_convert_bytes_arg w src e hs he g 0 xs.length cap xs rfl (fun i hi => ?_) dst hd
    have := World.ownsRow.cells h (g := g) rfl i (.int .u8 (xs.getD i 0)) (by simp [u8s, List.getD, hi])
    have ha : (⟨g, 0, none⟩ : Addr).add i = ⟨g, 0 + i, none⟩ := by unfold Addr.add; split <;> simp_all
    rw [ha] at this
    exact this

theorem one_new_cell (w : World) (v : Value) (e : TypeId) : ∀ j u, [v][j]? = some u → (w.alloc (.cells #[v] e)).cell? ((⟨w.heap.size, 0, none⟩ : Addr).add j) = some u := by
  intro j u hj
  match j, hj with
  | 0, hj => simp at hj; subst hj; simp [Addr.add]

theorem ones_int (k : IntKind) (xs : List Int) : ∀ u ∈ xs.map (Value.int k), u.oneCell' = true := by
  intro u hu
  simp at hu
  obtain ⟨a, _, rfl⟩ := hu
  rfl

theorem toNat_lt_of_own {w : World} {B : Nat} {e : TypeId} {size : Nat} {v : Value} {n : Nat} {xs : List Value} (h : w.ownsRow B e size v n xs) : ∀ k, v.ownBlock = some k → B ≤ k := fun k hk => (h.lt k hk).1

theorem news_cells (w : World) (ys : List Int) (e : TypeId) : ∀ j u, (u8s ys)[j]? = some u → (w.alloc (.cells (u8s ys).toArray e)).cell? ((⟨w.heap.size, 0, none⟩ : Addr).add j) = some u := by
  intro j u hj
  have ha : (⟨w.heap.size, 0, none⟩ : Addr).add j = ⟨w.heap.size, j, none⟩ := by unfold Addr.add; split <;> simp_all
  rw [ha, World.cell?_alloc_mark]
  simpa using hj

/-- 'out = append(out, bytes)', out a row of bytes that the call owns, the bytes laid in a new block right ahead. -/
theorem append8 {P : Program} {w0 : World} {ops : Array Oper} {rest : List Oper} {o : Oper} {a : Act} {Q : Exit → Act → World → Prop}
    (hgd : o.guard = none) (s x : Operand) (t : TypeId) (ho : o.op = .call { callee := .builtin .append, args := #[s, x], argTypes := #[t, t] })
    (B : Nat) (e : TypeId) (ht : P.underlying t = some (.slice e)) (hi : (P.info? e).map (fun i => (i.zero, i.size, i.bytes)) = some (some (.int .u8 0), 1, 1))
    {v : Value} {xs : List Int} (hown : Owns8 w0 B e v xs) (ys : List Int) (hs : a.eval s = v) (m c : Nat) (hm : ys.length = m) (hx : a.eval x = .slice (some ⟨w0.heap.size, 0, none⟩) m c)
    (hlen : xs.length + m ≤ 140737488355328) (hB : B ≤ w0.heap.size)
    (h : ∀ v' w', Owns8 w' B e v' (xs ++ ys) → (∀ W, Below B W w0 → Below B W w') → w0.heap.size ≤ w'.heap.size → wpList P ops Q rest (a.put o.dst v') w') :
    wpList P ops Q (o :: rest) a (w0.alloc (.cells (u8s ys).toArray e)) := by
  obtain ⟨i, hi, hz0, hz1, hz2⟩ := info_parts hi
  subst hm
  refine wpList_append_own _ hgd s x t ho B e i (.int .u8 0) 1 1 ht hi hz0 hz1 hz2 rfl (by decide) v xs.length (u8s xs) hs (World.ownsRow.alloc hown _) ⟨w0.heap.size, 0, none⟩ ys.length c (u8s ys) hx (by simp [u8s_length]) (news_cells w0 ys e) (ones_int _ _) (by unfold maxLen; omega) (by omega) (by simp; omega) ?_
  intro v' w' ho' hg _
  refine h v' w' ?_ ?_ ?_
  · unfold Owns8
    rw [u8s_append, List.length_append]
    exact ho'
  · intro W hW
    exact (hW.alloc hB _).grown hg (by simp; omega) (fun k hk => toNat_lt_of_own hown k hk)
  · have := hg.size
    simp at this
    omega

/-- The same at a step of a region that draws its order: the bytes lie in a block that is known whole. -/
theorem step_append8 {P : Program} {w : World} {ops : Array Oper} {o : Oper} {a : Act} {K : Act → World → Prop} {Q : Exit → Act → World → Prop} {E : Prop}
    (hgd : o.guard = none) (s x : Operand) (t : TypeId) (ho : o.op = .call { callee := .builtin .append, args := #[s, x], argTypes := #[t, t] })
    (B : Nat) (e : TypeId) (ht : P.underlying t = some (.slice e)) (hi : (P.info? e).map (fun i => (i.zero, i.size, i.bytes)) = some (some (.int .u8 0), 1, 1))
    {v : Value} {xs : List Int} (hown : Owns8 w B e v xs) (ys : List Int) (b : Nat) (fr : Nat × Nat) (hb : w.heap[b]? = some (.cells (u8s ys).toArray e fr)) (hs : a.eval s = v) (m c : Nat) (hm : ys.length = m) (hx : a.eval x = .slice (some ⟨b, 0, none⟩) m c)
    (hlen : xs.length + m ≤ 140737488355328) (hB : B ≤ w.heap.size)
    (h : ∀ v' w', Owns8 w' B e v' (xs ++ ys) → (∀ W, Below B W w → Below B W w') → w.heap.size ≤ w'.heap.size → K (a.put o.dst v') w') :
    if Region.wanted o (yielded ops a.tmps) = true then Oper.wp P o a w K Q else E := by
  have hw : Region.wanted o (yielded ops a.tmps) = true := by simp [Region.wanted, hgd]
  rw [if_pos hw]
  obtain ⟨i, hi, hz0, hz1, hz2⟩ := info_parts hi
  subst hm
  refine wp_append_own _ s x t ho B e i (.int .u8 0) 1 1 ht hi hz0 hz1 hz2 rfl (by decide) v xs.length (u8s xs) hs hown ⟨b, 0, none⟩ ys.length c (u8s ys) hx (by simp [u8s_length]) ?_ (ones_int _ _) (by unfold maxLen; omega) (by omega) hB ?_
  · have := World.news_of_block hb
    simpa using this
  intro v' w' ho' hg _
  refine h v' w' ?_ ?_ ?_
  · unfold Owns8
    rw [u8s_append, List.length_append]
    exact ho'
  · intro W hW
    exact hW.grown hg hB (fun k hk => toNat_lt_of_own hown k hk)
  · exact hg.size

/-- A byte of a text, under a name of its own. -/
theorem index_at {P : Program} {t : TypeId} (ht : P.underlying t = some .string) (s : ByteArray) (i : Nat) (h : i < s.size) (x c : Int) (hx : x = (i : Int)) (hc : c = (s[i].toNat : Int)) :
    ∀ wx : World, (Instr.index t (.string s) (.int .i64 x)).run P wx = .ok (.int .u8 c) wx := by
  intro wx
  subst hx hc
  rw [run_index_string wx t s .i64 _ ht, dif_pos ⟨by omega, by omega⟩]
  simp

/-! ### Rows of texts -/
/-- A row of texts that the call owns. -/
def OwnsS (w : World) (B : Nat) (e : TypeId) (v : Value) (ss : List ByteArray) : Prop := w.ownsRow B e 1 v ss.length (ss.map Value.string)

theorem ones_str (ss : List ByteArray) : ∀ u ∈ ss.map Value.string, u.oneCell' = true := by
  intro u hu
  simp at hu
  obtain ⟨a, _, rfl⟩ := hu
  rfl

/-- 'out = append(out, s)', out a row of texts that the call owns, the text laid in a new block right ahead. -/
theorem appendS {P : Program} {w0 : World} {ops : Array Oper} {rest : List Oper} {o : Oper} {a : Act} {Q : Exit → Act → World → Prop}
    (hgd : o.guard = none) (s x : Operand) (t : TypeId) (ho : o.op = .call { callee := .builtin .append, args := #[s, x], argTypes := #[t, t] })
    (B : Nat) (e : TypeId) (ht : P.underlying t = some (.slice e)) (hi : (P.info? e).map (fun i => (i.zero, i.size, i.bytes)) = some (some (.string ByteArray.empty), 1, 16))
    {v : Value} {xs : List ByteArray} (hown : OwnsS w0 B e v xs) (y : ByteArray) (hs : a.eval s = v) (hx : a.eval x = .slice (some ⟨w0.heap.size, 0, none⟩) 1 1)
    (hlen : xs.length ≤ 1000000) (hB : B ≤ w0.heap.size)
    (h : ∀ v' w', OwnsS w' B e v' (xs ++ [y]) → (∀ W, Below B W w0 → Below B W w') → w0.heap.size ≤ w'.heap.size → wpList P ops Q rest (a.put o.dst v') w') :
    wpList P ops Q (o :: rest) a (w0.alloc (.cells #[.string y] e)) := by
  obtain ⟨i, hi, hz0, hz1, hz2⟩ := info_parts hi
  refine wpList_append_own _ hgd s x t ho B e i (.string ByteArray.empty) 1 16 ht hi hz0 hz1 hz2 rfl (by decide) v xs.length (xs.map Value.string) hs (World.ownsRow.alloc hown _) ⟨w0.heap.size, 0, none⟩ 1 1 [.string y] hx rfl (one_new_cell w0 _ e) (ones_str [y]) (by unfold maxLen; omega) (by omega) (by simp; omega) ?_
  intro v' w' ho' hg _
  refine h v' w' ?_ ?_ ?_
  · unfold OwnsS
    rw [List.map_append, List.length_append]
    exact ho'
  · intro W hW
    exact (hW.alloc hB _).grown hg (by simp; omega) (fun k hk => toNat_lt_of_own hown k hk)
  · have := hg.size
    simp at this
    omega

theorem OwnsS.kept {w w' : World} {B : Nat} {e : TypeId} {v : Value} {ss : List ByteArray} {row : Option Nat} (h : OwnsS w B e v ss) (hg : w.grownBy w' row) (hne : v.ownBlock = none ∨ v.ownBlock ≠ row) : OwnsS w' B e v ss := World.ownsRow.kept h hg hne
theorem grown_of_below {w w' : World} (h : Below w.heap.size w w') : w.grownBy w' none := ⟨h.os, h.tape, h.output, h.size, fun k hk _ => h.block k hk⟩
theorem OwnsS.below {w w' : World} {B : Nat} {e : TypeId} {v : Value} {ss : List ByteArray} (h : OwnsS w B e v ss) (hb : Below w.heap.size w w') : OwnsS w' B e v ss := h.kept (grown_of_below hb) (Classical.em _)

/-- A row of texts: nothing at all, or cells that hold them. -/
theorem OwnsS.form {w : World} {B : Nat} {e : TypeId} {v : Value} {ss : List ByteArray} (h : OwnsS w B e v ss) :
    (v = .slice none 0 0 ∧ ss = []) ∨ ∃ g cap, v = .slice (some ⟨g, 0, none⟩) ss.length cap ∧ B ≤ g ∧ g < w.heap.size := by
  have h' := h
  obtain ⟨hl, h2⟩ := h'
  rcases h2 with ⟨rfl, h0⟩ | ⟨g, cap, cur, rfl, hbg, hg, hnc, hcm, hcs, htake⟩
  · exact .inl ⟨rfl, List.eq_nil_of_length_eq_zero h0⟩
  · refine .inr ⟨g, cap, rfl, hbg, ?_⟩
    rcases Nat.lt_or_ge g w.heap.size with h' | h'
    · exact h'
    · simp [Array.getElem?_eq_none h'] at hg
theorem OwnsS.cell {w : World} {B : Nat} {e : TypeId} {g cap : Nat} {ss : List ByteArray} (h : OwnsS w B e (.slice (some ⟨g, 0, none⟩) ss.length cap) ss) {i : Nat} (hi : i < ss.length) : w.cell? ⟨g, i, none⟩ = some (.string (ss.getD i ByteArray.empty)) := by
  rw [World.ownsRow.cellAt h i (by omega)]
  simp [List.getD, hi]
theorem OwnsS.free {w : World} {B : Nat} {e : TypeId} {g cap n : Nat} {ss : List ByteArray} (h : OwnsS w B e (.slice (some ⟨g, 0, none⟩) n cap) ss) (hn : n = ss.length) (i : Nat) : w.frozen? ⟨g, i, none⟩ = false := by
  subst hn
  exact World.ownsRow.frozenAt h i

theorem own_ne {w : World} {B : Nat} {e : TypeId} {size : Nat} {v : Value} {n : Nat} {xs : List Value} (h : w.ownsRow B e size v n xs) {g : Nat} (hg : g < B) : v.ownBlock = none ∨ v.ownBlock ≠ some g := by
  cases hv : v.ownBlock with
  | none => exact .inl rfl
  | some k => exact .inr (fun e => by have := (h.lt k hv).1; cases e; omega)

theorem owns_base {w : World} {base base' : Nat} {e : TypeId} {size : Nat} {v : Value} {n : Nat} {xs : List Value} (h : w.ownsRow base e size v n xs) (hb : base' ≤ base) : w.ownsRow base' e size v n xs := by
  refine ⟨h.1, h.2.imp id ?_⟩
  rintro ⟨g, cap, cur, h1, h2, h3⟩
  exact ⟨g, cap, cur, h1, Nat.le_trans hb h2, h3⟩

theorem grown_setCell (w : World) (a : Addr) (u : Value) : w.grownBy (w.setCell a u) (some a.block) :=
  ⟨rfl, rfl, rfl, by simp [World.setCell], fun k _ hne => Below.heap_setCell w a u k (fun e => hne (by rw [e]))⟩
theorem grown_drewN (w : World) (q : Nat) : w.grownBy (w.drewN q) none := ⟨rfl, rfl, rfl, Nat.le_refl _, fun _ _ _ => rfl⟩

end Go.Proofs.YtljphnjmeckpbaaGreat
