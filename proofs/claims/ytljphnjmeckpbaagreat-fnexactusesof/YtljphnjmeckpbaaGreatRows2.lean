/-
  Rows of records whose fields may be rows: what is read of them, what a call owns of them, which blocks that takes, and what stays when other blocks are written. No program is named here.
-/
import Derived.Test.YtljphnjmeckpbaaGreatRecs
namespace Go.Proofs.YtljphnjmeckpbaaGreat
open Go.RowKit

/-- The blocks of a list of rows. -/
def fpOf (v : Value) : List Nat := v.ownBlock.toList
def fps (vs : List Value) : List Nat := vs.flatMap fpOf

/-- Only the blocks of these rows may have turned; new ones may be there. -/
structure Kept (vs : List Value) (w w' : World) : Prop where
  os : w'.os = w.os
  tape : w'.tape = w.tape
  output : w'.output = w.output
  size : w.heap.size ≤ w'.heap.size
  block : ∀ g, g < w.heap.size → g ∉ fps vs → w'.heap[g]? = w.heap[g]?

theorem Kept.refl (vs : List Value) (w : World) : Kept vs w w := ⟨rfl, rfl, rfl, Nat.le_refl _, fun _ _ _ => rfl⟩
theorem Kept.trans {vs : List Value} {a b c : World} (h : Kept vs a b) (k : Kept vs b c) : Kept vs a c :=
  ⟨k.os.trans h.os, k.tape.trans h.tape, k.output.trans h.output, Nat.le_trans h.size k.size, fun g hg hn => (k.block g (Nat.lt_of_lt_of_le hg h.size) hn).trans (h.block g hg hn)⟩
theorem Kept.wide {vs us : List Value} {a b : World} (h : Kept vs a b) (hs : ∀ g, g ∈ fps vs → g ∈ fps us) : Kept us a b :=
  ⟨h.os, h.tape, h.output, h.size, fun g hg hn => h.block g hg (fun hm => hn (hs g hm))⟩
theorem Kept.of_below {vs : List Value} {a b : World} (h : Below a.heap.size a b) : Kept vs a b := ⟨h.os, h.tape, h.output, h.size, fun g hg _ => h.block g hg⟩
theorem Kept.of_set {vs : List Value} {w : World} {g j : Nat} {u : Value} (h : g ∈ fps vs) : Kept vs w (w.setCell ⟨g, j, none⟩ u) :=
  ⟨rfl, rfl, rfl, by simp [World.setCell], fun b _ hn => Below.heap_setCell w _ u b (fun e => hn (by rw [← show g = b from e.symm ▸ rfl]; exact h))⟩
theorem Kept.below {vs : List Value} {w w' : World} {B : Nat} (h : Kept vs w w') (hB : B ≤ w.heap.size) (hf : ∀ g ∈ fps vs, B ≤ g) : Below B w w' :=
  ⟨h.os, h.tape, h.output, h.size, fun g hg => h.block g (by omega) (fun hm => by have := hf g hm; omega)⟩

section
variable {α β : Type}

/-- A row of records that is read: where its cells lie. -/
def RowR (enc : α → List Value) (k : Nat) (w : World) (B : Nat) (v : Value) (ps : List α) : Prop :=
  ∃ a cap, v = .slice a ps.length cap ∧ ps.length ≤ cap ∧ (ps = [] ∨ ∃ b off, a = some ⟨b, off, none⟩ ∧ b < B ∧ ∀ i, (hi : i < ps.length) → ∀ j, j < k → w.cell? ⟨b, off + i * k + j, none⟩ = (enc ps[i])[j]?)
theorem RowR.keep {enc : α → List Value} {k : Nat} {w w' : World} {B : Nat} {v : Value} {ps : List α} (h : RowR enc k w B v ps) (hb : Below B w w') : RowR enc k w' B v ps := by
  obtain ⟨a, cap, hv, hcap, h⟩ := h
  refine ⟨a, cap, hv, hcap, ?_⟩
  rcases h with h | ⟨b, off, ha, hbB, hc⟩
  · exact .inl h
  · exact .inr ⟨b, off, ha, hbB, fun i hi j hj => (hb.cell (p := ⟨b, off + i * k + j, none⟩) hbB).trans (hc i hi j hj)⟩
theorem RowR.up {enc : α → List Value} {k : Nat} {w : World} {B B' : Nat} {v : Value} {ps : List α} (h : RowR enc k w B v ps) (hB : B ≤ B') : RowR enc k w B' v ps := by
  obtain ⟨a, cap, hv, hcap, h⟩ := h
  refine ⟨a, cap, hv, hcap, ?_⟩
  rcases h with h | ⟨b, off, ha, hbB, hc⟩
  · exact .inl h
  · exact .inr ⟨b, off, ha, by omega, hc⟩
theorem RowR.cap {enc : α → List Value} {k : Nat} {w : World} {B : Nat} {a : Option Addr} {n cap : Nat} {ps : List α} (h : RowR enc k w B (.slice a n cap) ps) : ps.length = n ∧ n ≤ cap := by
  obtain ⟨a', cap', hv, hcap, _⟩ := h
  cases hv
  exact ⟨rfl, hcap⟩
theorem RowR.len {enc : α → List Value} {k : Nat} {w : World} {B : Nat} {v : Value} {ps : List α} (h : RowR enc k w B v ps) : ∃ a cap, v = .slice a ps.length cap := by
  obtain ⟨a, cap, hv, _⟩ := h
  exact ⟨a, cap, hv⟩
theorem RowR.at {enc : α → List Value} {k : Nat} {w : World} {B : Nat} {a : Option Addr} {n cap : Nat} {ps : List α} (h : RowR enc k w B (.slice a n cap) ps) (i : Nat) (hi : i < ps.length) : ∃ b off, a = some ⟨b, off, none⟩ ∧ b < B ∧ ∀ j, j < k → w.cell? ⟨b, off + i * k + j, none⟩ = (enc ps[i])[j]? := by
  obtain ⟨a', cap', hv, _, h⟩ := h
  cases hv
  rcases h with h | ⟨b, off, ha, hbB, hc⟩
  · subst h
    simp at hi
  · exact ⟨b, off, ha, hbB, hc i hi⟩
theorem OwnsR.capOf {enc : α → List Value} {k : Nat} {w : World} {B : Nat} {e : TypeId} {a : Option Addr} {n cap : Nat} {ps : List α} (h : OwnsR enc k w B e (.slice a n cap) ps) : ps.length ≤ cap := by
  obtain ⟨hl, h2⟩ := h
  rcases h2 with ⟨h0, h1⟩ | ⟨g, cap', cur, hv, hbg, hg, hnc, hr⟩
  · omega
  · cases hv
    exact hnc
theorem OwnsR.read {enc : α → List Value} {k : Nat} (henc : ∀ x, (enc x).length = k) {w : World} {B : Nat} {e : TypeId} {v : Value} {ps : List α} (h : OwnsR enc k w B e v ps) {H : Nat} (hH : ∀ g ∈ fpOf v, g < H) : RowR enc k w H v ps := by
  rcases OwnsR.form h with ⟨rfl, rfl⟩ | ⟨g, cap, rfl, hB, hg⟩
  · exact ⟨none, 0, rfl, Nat.le_refl _, .inl rfl⟩
  · refine ⟨_, cap, rfl, h.capOf, .inr ⟨g, 0, rfl, hH g (by simp [fpOf, Value.ownBlock]), fun i hi j hj => ?_⟩⟩
    have := OwnsR.cell henc h rfl i j hi hj
    simpa using this
theorem OwnsR.same {enc : α → List Value} {k : Nat} {w w' : World} {B : Nat} {e : TypeId} {v : Value} {ps : List α} (h : OwnsR enc k w B e v ps) (hs : ∀ g ∈ fpOf v, w'.heap[g]? = w.heap[g]?) : OwnsR enc k w' B e v ps := by
  obtain ⟨hl, h2⟩ := h
  refine ⟨hl, ?_⟩
  rcases h2 with h0 | ⟨g, cap, cur, rfl, hbg, hg, hr⟩
  · exact .inl h0
  · exact .inr ⟨g, cap, cur, rfl, hbg, (hs g (by simp [fpOf, Value.ownBlock])).trans hg, hr⟩
theorem OwnsR.lt {enc : α → List Value} {k : Nat} {w : World} {B : Nat} {e : TypeId} {v : Value} {ps : List α} (h : OwnsR enc k w B e v ps) : ∀ g ∈ fpOf v, B ≤ g ∧ g < w.heap.size := by
  intro g hg
  have : v.ownBlock = some g := by
    unfold fpOf at hg
    cases hv : v.ownBlock with
    | none => simp [hv] at hg
    | some x => simp [hv] at hg; rw [hg]
  exact World.ownsRow.lt h g this
theorem OwnsR.base {enc : α → List Value} {k : Nat} {w : World} {B B' : Nat} {e : TypeId} {v : Value} {ps : List α} (h : OwnsR enc k w B e v ps) (hB : ∀ g ∈ fpOf v, B' ≤ g) : OwnsR enc k w B' e v ps := by
  obtain ⟨hl, h2⟩ := h
  refine ⟨hl, ?_⟩
  rcases h2 with h0 | ⟨g, cap, cur, rfl, hbg, hg, hr⟩
  · exact .inl h0
  · exact .inr ⟨g, cap, cur, rfl, hB g (by simp [fpOf, Value.ownBlock]), hg, hr⟩

/-- A kind of rows: the cells of an element, what lies behind it, and what it tells. -/
structure RowTy (α β : Type) where
  enc : α → List Value
  k : Nat
  T : TypeId
  sub : World → Nat → α → Prop
  rsub : World → Nat → α → Prop
  vals : α → List Value
  log : α → β
  len : ∀ x, (enc x).length = k
  sub_same : ∀ {w w' : World} {B : Nat} {p : α}, sub w B p → (∀ g ∈ fps (vals p), w'.heap[g]? = w.heap[g]?) → sub w' B p
  sub_base : ∀ {w : World} {B B' : Nat} {p : α}, sub w B p → (∀ g ∈ fps (vals p), B' ≤ g) → sub w B' p
  sub_lt : ∀ {w : World} {B : Nat} {p : α}, sub w B p → ∀ g ∈ fps (vals p), B ≤ g ∧ g < w.heap.size
  sub_read : ∀ {w : World} {B H : Nat} {p : α}, sub w B p → (∀ g ∈ fps (vals p), g < H) → rsub w H p
  rsub_keep : ∀ {w w' : World} {B : Nat} {p : α}, rsub w B p → Below B w w' → rsub w' B p
  rsub_up : ∀ {w : World} {B B' : Nat} {p : α}, rsub w B p → B ≤ B' → rsub w B' p

/-- Read: the row and what lies behind it. -/
def RowTy.Row (R : RowTy α β) (w : World) (B : Nat) (v : Value) (xs : List β) : Prop := ∃ ps : List α, ps.map R.log = xs ∧ RowR R.enc R.k w B v ps ∧ ∀ p ∈ ps, R.rsub w B p
theorem RowTy.Row.keep {R : RowTy α β} {w w' : World} {B : Nat} {v : Value} {xs : List β} (h : R.Row w B v xs) (hb : Below B w w') : R.Row w' B v xs := by
  obtain ⟨ps, hl, hr, hs⟩ := h
  exact ⟨ps, hl, hr.keep hb, fun p hp => R.rsub_keep (hs p hp) hb⟩
theorem RowTy.Row.up {R : RowTy α β} {w : World} {B B' : Nat} {v : Value} {xs : List β} (h : R.Row w B v xs) (hB : B ≤ B') : R.Row w B' v xs := by
  obtain ⟨ps, hl, hr, hs⟩ := h
  exact ⟨ps, hl, hr.up hB, fun p hp => R.rsub_up (hs p hp) hB⟩
theorem RowTy.Row.len {R : RowTy α β} {w : World} {B : Nat} {v : Value} {xs : List β} (h : R.Row w B v xs) : ∃ a cap, v = .slice a xs.length cap := by
  obtain ⟨ps, hl, hr, _⟩ := h
  obtain ⟨a, cap, hv⟩ := hr.len
  refine ⟨a, cap, ?_⟩
  rw [hv, ← hl, List.length_map]
theorem RowTy.Row.at {R : RowTy α β} {w : World} {B : Nat} {a : Option Addr} {n cap : Nat} {xs : List β} (h : R.Row w B (.slice a n cap) xs) (i : Nat) (hi : i < xs.length) :
    ∃ b off p, a = some ⟨b, off, none⟩ ∧ b < B ∧ R.log p = xs[i] ∧ R.rsub w B p ∧ ∀ j, j < R.k → w.cell? ⟨b, off + i * R.k + j, none⟩ = (R.enc p)[j]? := by
  obtain ⟨ps, hl, hr, hs⟩ := h
  have hi' : i < ps.length := by rw [← hl, List.length_map] at hi; exact hi
  obtain ⟨b, off, ha, hb, hc⟩ := hr.at i hi'
  refine ⟨b, off, ps[i], ha, hb, ?_, hs _ (List.getElem_mem hi'), hc⟩
  subst hl
  simp
theorem RowTy.row_nil (R : RowTy α β) (w : World) (B : Nat) (a : Option Addr) (cap : Nat) : R.Row w B (.slice a 0 cap) [] := ⟨[], rfl, ⟨a, cap, rfl, Nat.zero_le _, .inl rfl⟩, by simp⟩

/-- Owned: the row, and what lies behind each of its elements. -/
def RowTy.Phys (R : RowTy α β) (w : World) (B : Nat) (v : Value) (ps : List α) : Prop := OwnsR R.enc R.k w B R.T v ps ∧ ∀ p ∈ ps, R.sub w B p
/-- All rows of it. -/
def RowTy.all (R : RowTy α β) (v : Value) (ps : List α) : List Value := v :: ps.flatMap R.vals

theorem mem_fps {vs : List Value} {v : Value} (h : v ∈ vs) {g : Nat} (hg : g ∈ fpOf v) : g ∈ fps vs := List.mem_flatMap.mpr ⟨v, h, hg⟩
theorem fps_cons (v : Value) (vs : List Value) : fps (v :: vs) = fpOf v ++ fps vs := rfl
theorem fps_append (us vs : List Value) : fps (us ++ vs) = fps us ++ fps vs := by simp [fps]
theorem RowTy.mem_all {R : RowTy α β} {v : Value} {ps : List α} {p : α} (hp : p ∈ ps) {g : Nat} (hg : g ∈ fps (R.vals p)) : g ∈ fps (R.all v ps) := by
  obtain ⟨u, hu, hgu⟩ := List.mem_flatMap.mp hg
  exact mem_fps (List.mem_cons_of_mem _ (List.mem_flatMap.mpr ⟨p, hp, hu⟩)) hgu
theorem RowTy.mem_head {R : RowTy α β} {v : Value} {ps : List α} {g : Nat} (hg : g ∈ fpOf v) : g ∈ fps (R.all v ps) := mem_fps (List.mem_cons_self ..) hg

theorem RowTy.Phys.same {R : RowTy α β} {w w' : World} {B : Nat} {v : Value} {ps : List α} (h : R.Phys w B v ps) (hs : ∀ g ∈ fps (R.all v ps), w'.heap[g]? = w.heap[g]?) : R.Phys w' B v ps :=
  ⟨h.1.same (fun g hg => hs g (R.mem_head hg)), fun p hp => R.sub_same (h.2 p hp) (fun g hg => hs g (R.mem_all hp hg))⟩
theorem RowTy.Phys.lt {R : RowTy α β} {w : World} {B : Nat} {v : Value} {ps : List α} (h : R.Phys w B v ps) : ∀ g ∈ fps (R.all v ps), B ≤ g ∧ g < w.heap.size := by
  intro g hg
  obtain ⟨u, hu, hgu⟩ := List.mem_flatMap.mp hg
  rcases List.mem_cons.mp hu with rfl | hu
  · exact h.1.lt g hgu
  · obtain ⟨p, hp, hup⟩ := List.mem_flatMap.mp hu
    exact R.sub_lt (h.2 p hp) g (mem_fps hup hgu)
theorem RowTy.Phys.below {R : RowTy α β} {w w' : World} {B : Nat} {v : Value} {ps : List α} (h : R.Phys w B v ps) (hb : Below w.heap.size w w') : R.Phys w' B v ps :=
  h.same (fun g hg => hb.block g (h.lt g hg).2)
theorem RowTy.Phys.kept {R : RowTy α β} {w w' : World} {B : Nat} {v : Value} {ps : List α} {vs : List Value} (h : R.Phys w B v ps) (hk : Kept vs w w') (hd : ∀ g ∈ fps (R.all v ps), g ∉ fps vs) : R.Phys w' B v ps :=
  h.same (fun g hg => hk.block g (h.lt g hg).2 (hd g hg))
theorem RowTy.Phys.base {R : RowTy α β} {w : World} {B B' : Nat} {v : Value} {ps : List α} (h : R.Phys w B v ps) (hB : ∀ g ∈ fps (R.all v ps), B' ≤ g) : R.Phys w B' v ps :=
  ⟨h.1.base (fun g hg => hB g (R.mem_head hg)), fun p hp => R.sub_base (h.2 p hp) (fun g hg => hB g (R.mem_all hp hg))⟩
theorem RowTy.Phys.read {R : RowTy α β} {w : World} {B : Nat} {v : Value} {ps : List α} (h : R.Phys w B v ps) {H : Nat} (hH : ∀ g ∈ fps (R.all v ps), g < H) : R.Row w H v (ps.map R.log) :=
  ⟨ps, rfl, h.1.read R.len (fun g hg => hH g (R.mem_head hg)), fun p hp => R.sub_read (h.2 p hp) (fun g hg => hH g (R.mem_all hp hg))⟩

/-- Owned, all rows apart from each other, in blocks B .. H. -/
def RowTy.Own (R : RowTy α β) (w : World) (B H : Nat) (v : Value) (xs : List β) : Prop := ∃ ps : List α, ps.map R.log = xs ∧ R.Phys w B v ps ∧ (fps (R.all v ps)).Nodup ∧ ∀ g ∈ fps (R.all v ps), B ≤ g ∧ g < H
theorem RowTy.Own.row {R : RowTy α β} {w : World} {B H : Nat} {v : Value} {xs : List β} (h : R.Own w B H v xs) : R.Row w H v xs := by
  obtain ⟨ps, rfl, hp, _, hh⟩ := h
  exact hp.read (fun g hg => (hh g hg).2)
theorem RowTy.Own.same {R : RowTy α β} {w w' : World} {B H : Nat} {v : Value} {xs : List β} (h : R.Own w B H v xs) (hs : ∀ g, B ≤ g → g < H → w'.heap[g]? = w.heap[g]?) : R.Own w' B H v xs := by
  obtain ⟨ps, rfl, hp, hn, hh⟩ := h
  exact ⟨ps, rfl, hp.same (fun g hg => hs g (hh g hg).1 (hh g hg).2), hn, hh⟩
theorem RowTy.Own.below {R : RowTy α β} {w w' : World} {B H K : Nat} {v : Value} {xs : List β} (h : R.Own w B H v xs) (hb : Below K w w') (hK : H ≤ K) : R.Own w' B H v xs := h.same (fun g _ hg => hb.block g (by omega))
theorem RowTy.Own.wide {R : RowTy α β} {w : World} {B H B' H' : Nat} {v : Value} {xs : List β} (h : R.Own w B H v xs) (hB : B' ≤ B) (hH : H ≤ H') : R.Own w B' H' v xs := by
  obtain ⟨ps, rfl, hp, hn, hh⟩ := h
  exact ⟨ps, rfl, hp.base (fun g hg => by have := (hh g hg).1; omega), hn, fun g hg => ⟨by have := (hh g hg).1; omega, by have := (hh g hg).2; omega⟩⟩

/-! ### marks -/
variable (mk : Nat → α → α) (ln : α → Nat)
def markL : Nat → List α → List α
  | _, [] => []
  | k, x :: xs => mk k x :: markL (k + ln x) xs
def markN : List α → Nat
  | [] => 0
  | x :: xs => ln x + markN xs
theorem markL_len : ∀ (xs : List α) (k : Nat), (markL mk ln k xs).length = xs.length := by
  intro xs
  induction xs with
  | nil => intro k; rfl
  | cons x xs ih => intro k; simp [markL, ih]
theorem markN_append (xs ys : List α) : markN ln (xs ++ ys) = markN ln xs + markN ln ys := by
  induction xs with
  | nil => simp [markN]
  | cons x xs ih => simp [markN, ih, Nat.add_assoc]
theorem markL_append : ∀ (xs ys : List α) (k : Nat), markL mk ln k (xs ++ ys) = markL mk ln k xs ++ markL mk ln (k + markN ln xs) ys := by
  intro xs
  induction xs with
  | nil => intro ys k; simp [markL, markN]
  | cons x xs ih => intro ys k; simp [markL, markN, ih, Nat.add_assoc]
theorem markN_take (xs : List α) (i : Nat) (h : i < xs.length) : markN ln (xs.take (i + 1)) = markN ln (xs.take i) + ln xs[i] := by
  rw [List.take_succ_eq_append_getElem h, markN_append]
  simp [markN]
theorem markN_take_le (xs : List α) (i : Nat) : markN ln (xs.take i) ≤ markN ln xs := by
  have := markN_append ln (xs.take i) (xs.drop i)
  rw [List.take_append_drop] at this
  omega
/-- The first i are marked, the others are as they were. -/
def markTo (k : Nat) (xs : List α) (i : Nat) : List α := markL mk ln k (xs.take i) ++ xs.drop i
theorem markTo_len (k : Nat) (xs : List α) (i : Nat) : (markTo mk ln k xs i).length = xs.length := by
  simp [markTo, markL_len]
  omega
theorem markTo_zero (k : Nat) (xs : List α) : markTo mk ln k xs 0 = xs := by simp [markTo, markL]
theorem markTo_all (k : Nat) (xs : List α) (i : Nat) (h : xs.length ≤ i) : markTo mk ln k xs i = markL mk ln k xs := by
  simp [markTo, List.take_of_length_le h, List.drop_of_length_le h]
theorem markTo_at (k : Nat) (xs : List α) (i : Nat) (h : i < xs.length) : (markTo mk ln k xs i)[i]'(by rw [markTo_len]; exact h) = xs[i] := by
  unfold markTo
  have hl : (markL mk ln k (xs.take i)).length = i := by rw [markL_len]; simp; omega
  rw [List.getElem_append_right (by omega)]
  simp [hl]
theorem markTo_step (k : Nat) (xs : List α) (i : Nat) (h : i < xs.length) (y : α) (hy : y = mk (k + markN ln (xs.take i)) xs[i]) : (markTo mk ln k xs i).set i y = markTo mk ln k xs (i + 1) := by
  subst hy
  unfold markTo
  have hl : (markL mk ln k (xs.take i)).length = i := by rw [markL_len]; simp; omega
  rw [List.set_append_right _ _ (by omega), hl, Nat.sub_self, List.drop_eq_getElem_cons h, List.set_cons_zero, List.take_succ_eq_append_getElem h, markL_append]
  simp [markL]
theorem markL_at : ∀ (xs : List α) (k i : Nat) (h : i < xs.length), (markL mk ln k xs)[i]'(by rw [markL_len]; exact h) = mk (k + markN ln (xs.take i)) xs[i] := by
  intro xs
  induction xs with
  | nil => intro k i h; simp at h
  | cons x xs ih =>
    intro k i h
    cases i with
    | zero => simp [markL, markN]
    | succ i =>
      simp only [markL, markN, List.take_succ_cons, List.getElem_cons_succ]
      rw [ih _ _ (by simpa using h), Nat.add_assoc]
end

theorem set_mem {α : Type} {xs : List α} {i : Nat} {y x : α} (h : x ∈ xs.set i y) : x ∈ xs ∨ x = y := by
  rcases List.mem_or_eq_of_mem_set h with h | h
  · exact .inl h
  · exact .inr h

end Go.Proofs.YtljphnjmeckpbaaGreat
