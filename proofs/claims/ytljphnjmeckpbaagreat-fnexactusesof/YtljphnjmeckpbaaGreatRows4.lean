/-
  Rows of records that are marked: one store into a field, rows behind an element marked. No program is named here.
-/
import Derived.Test.YtljphnjmeckpbaaGreatRows3
namespace Go.Proofs.YtljphnjmeckpbaaGreat
open Go.RowKit

section
variable {α β : Type}

theorem RowTy.all_set {R : RowTy α β} {v : Value} {ps : List α} {i : Nat} (hi : i < ps.length) {p' : α} (hv : R.vals p' = R.vals ps[i]) : R.all v (ps.set i p') = R.all v ps := by
  unfold RowTy.all
  congr 1
  have h1 : ps = ps.take i ++ ps[i] :: ps.drop (i + 1) := by rw [← List.drop_eq_getElem_cons hi, List.take_append_drop]
  have h4 : ps.set i p' = ps.take i ++ p' :: ps.drop (i + 1) := by
    conv => lhs; rw [h1]
    have hl : (ps.take i).length = i := by simp; omega
    rw [List.set_append_right _ _ (by omega), hl, Nat.sub_self, List.set_cons_zero]
  rw [h4]
  conv => rhs; rw [h1]
  rw [List.flatMap_append, List.flatMap_append, List.flatMap_cons, List.flatMap_cons, hv]
theorem fps_flat (vals : α → List Value) (ps : List α) : fps (ps.flatMap vals) = ps.flatMap (fun p => fps (vals p)) := by
  unfold fps
  rw [List.flatMap_assoc]
theorem flat_apart {vals : α → List Value} : ∀ {ps : List α} {a b : Nat} (ha : a < ps.length) (hb : b < ps.length), (fps (ps.flatMap vals)).Nodup → a ≠ b → ∀ g, g ∈ fps (vals ps[a]) → g ∉ fps (vals ps[b]) := by
  intro ps
  induction ps with
  | nil => intro a b ha; simp at ha
  | cons x xs ih =>
    intro a b ha hb hn hab g hga hgb
    rw [List.flatMap_cons, fps_append, List.nodup_append] at hn
    have hin : ∀ c (hc : c < xs.length), ∀ g, g ∈ fps (vals xs[c]) → g ∈ fps (xs.flatMap vals) := fun c hc g hg => by
      rw [fps_flat]
      exact List.mem_flatMap.mpr ⟨xs[c], List.getElem_mem hc, hg⟩
    cases a with
    | zero =>
      cases b with
      | zero => exact hab rfl
      | succ b => exact hn.2.2 g (by simpa using hga) g (hin b (by simpa using hb) g (by simpa using hgb)) rfl
    | succ a =>
      cases b with
      | zero => exact hn.2.2 g (by simpa using hgb) g (hin a (by simpa using ha) g (by simpa using hga)) rfl
      | succ b => exact ih (by simpa using ha) (by simpa using hb) hn.2.1 (by omega) g (by simpa using hga) (by simpa using hgb)

/-- A row that is being marked. -/
structure MarkSt (R : RowTy α β) (w0 : World) (VS : List Value) (W : World) (B g n cap : Nat) (L : List α) : Prop where
  phys : R.Phys W B (.slice (some ⟨g, 0, none⟩) n cap) L
  all : R.all (.slice (some ⟨g, 0, none⟩) n cap) L = VS
  nd : (fps VS).Nodup
  len : n = L.length
  kept : Kept VS w0 W

theorem MarkSt.cell {R : RowTy α β} {w0 W : World} {VS : List Value} {B g n cap : Nat} {L : List α} (h : MarkSt R w0 VS W B g n cap L) (i j : Nat) (hi : i < L.length) (hj : j < R.k) : W.cell? ⟨g, i * R.k + j, none⟩ = (R.enc L[i])[j]? := OwnsR.cell R.len h.phys.1 h.len i j hi hj
theorem MarkSt.free {R : RowTy α β} {w0 W : World} {VS : List Value} {B g n cap : Nat} {L : List α} (h : MarkSt R w0 VS W B g n cap L) (j : Nat) : W.frozen? ⟨g, j, none⟩ = false := OwnsR.free h.phys.1 h.len j
theorem MarkSt.below {R : RowTy α β} {w0 W W' : World} {VS : List Value} {B g n cap : Nat} {L : List α} (h : MarkSt R w0 VS W B g n cap L) (hb : Below W.heap.size W W') : MarkSt R w0 VS W' B g n cap L :=
  ⟨h.phys.below hb, h.all, h.nd, h.len, h.kept.trans (Kept.of_below hb)⟩
theorem MarkSt.field {R : RowTy α β} {w0 W : World} {VS : List Value} {B g n cap : Nat} {L : List α} (h : MarkSt R w0 VS W B g n cap L) (i j : Nat) (hi : i < L.length) (hj : j < R.k) (p' : α) (u : Value) (he : R.enc p' = (R.enc L[i]).set j u) (hv : R.vals p' = R.vals L[i]) (hs : ∀ W B, R.sub W B L[i] → R.sub W B p') :
    MarkSt R w0 VS (W.setCell ⟨g, i * R.k + j, none⟩ u) B g n cap (L.set i p') := by
  have hg : g ∈ fpOf (Value.slice (some ⟨g, 0, none⟩) n cap) := by simp [fpOf, Value.ownBlock]
  have hgV : g ∈ fps VS := by rw [← h.all]; exact R.mem_head hg
  have hnd := h.nd
  rw [← h.all] at hnd
  unfold RowTy.all at hnd
  rw [fps_cons, List.nodup_append] at hnd
  have hsub : ∀ p ∈ L, R.sub (W.setCell ⟨g, i * R.k + j, none⟩ u) B p := fun p hp => R.sub_same (h.phys.2 p hp) (fun x hx => by
    have : x ≠ g := fun e => hnd.2.2 g hg x (by
      obtain ⟨y, hy, hyx⟩ := List.mem_flatMap.mp hx
      exact mem_fps (List.mem_flatMap.mpr ⟨p, hp, hy⟩) hyx) e.symm
    exact kept_set this)
  refine ⟨⟨OwnsR.stored R.len h.phys.1 h.len i j hi hj p' u he, ?_⟩, ?_, h.nd, by rw [List.length_set]; exact h.len, h.kept.trans (Kept.of_set hgV)⟩
  · intro p hp
    rcases set_mem hp with hp | rfl
    · exact hsub p hp
    · exact hs _ _ (hsub _ (List.getElem_mem hi))
  · rw [R.all_set hi hv]
    exact h.all
theorem MarkSt.inner {R : RowTy α β} {w0 W W' : World} {VS : List Value} {B g n cap : Nat} {L : List α} (h : MarkSt R w0 VS W B g n cap L) (i : Nat) (hi : i < L.length) (p' : α) (he : R.enc p' = R.enc L[i]) (hv : R.vals p' = R.vals L[i]) (hk : Kept (R.vals L[i]) W W') (hs : R.sub W' B p') :
    MarkSt R w0 VS W' B g n cap (L.set i p') := by
  have hg : g ∈ fpOf (Value.slice (some ⟨g, 0, none⟩) n cap) := by simp [fpOf, Value.ownBlock]
  have hnd := h.nd
  rw [← h.all] at hnd
  unfold RowTy.all at hnd
  rw [fps_cons, List.nodup_append] at hnd
  have hin : ∀ a (ha : a < L.length), ∀ x ∈ fps (R.vals L[a]), x ∈ fps (L.flatMap R.vals) := fun a ha x hx => by
    rw [fps_flat]
    exact List.mem_flatMap.mpr ⟨L[a], List.getElem_mem ha, hx⟩
  have hsame : (L.set i p').flatMap R.enc = L.flatMap R.enc := by
    have h1 : L = L.take i ++ L[i] :: L.drop (i + 1) := by rw [← List.drop_eq_getElem_cons hi, List.take_append_drop]
    have h4 : L.set i p' = L.take i ++ p' :: L.drop (i + 1) := by
      conv => lhs; rw [h1]
      have hl : (L.take i).length = i := by simp; omega
      rw [List.set_append_right _ _ (by omega), hl, Nat.sub_self, List.set_cons_zero]
    rw [h4]
    conv => rhs; rw [h1]
    rw [List.flatMap_append, List.flatMap_append, List.flatMap_cons, List.flatMap_cons, he]
  refine ⟨⟨?_, ?_⟩, ?_, h.nd, by rw [List.length_set]; exact h.len, h.kept.trans (hk.wide (fun x hx => by rw [← h.all]; exact R.mem_all (List.getElem_mem hi) hx))⟩
  · have h0 : OwnsR R.enc R.k W' B R.T (.slice (some ⟨g, 0, none⟩) n cap) L := h.phys.1.same (fun x hx => hk.block x (h.phys.1.lt x hx).2 (fun hm => hnd.2.2 x hx x (hin i hi x hm) rfl))
    unfold OwnsR at h0 ⊢
    rw [hsame, List.length_set]
    exact h0
  · intro p hp
    obtain ⟨a, ha, rfl⟩ := List.getElem_of_mem hp
    rw [List.length_set] at ha
    rw [List.getElem_set]
    by_cases e : i = a
    · rw [if_pos e]
      exact hs
    · rw [if_neg e]
      exact R.sub_same (h.phys.2 _ (List.getElem_mem ha)) (fun x hx => hk.block x (R.sub_lt (h.phys.2 _ (List.getElem_mem ha)) x hx).2 (fun hm => flat_apart hi ha hnd.2.1 e x hm hx))
  · rw [R.all_set hi hv]
    exact h.all

theorem markTo_vals {R : RowTy α β} {mk : Nat → α → α} {ln : α → Nat} (hv : ∀ k p, R.vals (mk k p) = R.vals p) : ∀ (ps : List α) (k : Nat), (markL mk ln k ps).flatMap R.vals = ps.flatMap R.vals := by
  intro ps
  induction ps with
  | nil => intro k; rfl
  | cons p ps ih => intro k; rw [markL, List.flatMap_cons, List.flatMap_cons, hv, ih]
theorem markTo_map {mk : Nat → α → α} {ln : α → Nat} {mk' : Nat → β → β} {ln' : β → Nat} {log : α → β} (hm : ∀ k p, log (mk k p) = mk' k (log p)) (hl : ∀ p, ln p = ln' (log p)) : ∀ (ps : List α) (k : Nat), (markL mk ln k ps).map log = markL mk' ln' k (ps.map log) := by
  intro ps
  induction ps with
  | nil => intro k; rfl
  | cons p ps ih => intro k; simp only [markL, List.map_cons]; rw [hm, ih, hl]
theorem markN_map {ln : α → Nat} {ln' : β → Nat} {log : α → β} (hl : ∀ p, ln p = ln' (log p)) : ∀ (ps : List α), markN ln ps = markN ln' (ps.map log) := by
  intro ps
  induction ps with
  | nil => rfl
  | cons p ps ih => simp only [markN, List.map_cons]; rw [ih, hl]
theorem len_markN (ln : α → Nat) (h : ∀ p, 1 ≤ ln p) : ∀ (ps : List α), ps.length ≤ markN ln ps := by
  intro ps
  induction ps with
  | nil => exact Nat.zero_le _
  | cons p ps ih => have := h p; simp only [markN, List.length_cons]; omega
/-- Marked, and still owned. -/
theorem RowTy.Own.marked {R : RowTy α β} {mk : Nat → α → α} {ln : α → Nat} (hv : ∀ k p, R.vals (mk k p) = R.vals p) {w w' : World} {B H k : Nat} {v : Value} {ps : List α} (hp : R.Phys w' B v (markL mk ln k ps)) (hn : (fps (R.all v ps)).Nodup) (hh : ∀ g ∈ fps (R.all v ps), B ≤ g ∧ g < H) (_hk : Kept (R.all v ps) w w') : R.Own w' B H v ((markL mk ln k ps).map R.log) := by
  have he : R.all v (markL mk ln k ps) = R.all v ps := by unfold RowTy.all; rw [markTo_vals hv]
  exact ⟨_, rfl, hp, by rw [he]; exact hn, by rw [he]; exact hh⟩
end

def mkI (k : Nat) (_ : Int) : Int := (k : Int)
def lnI (_ : Int) : Nat := 1
theorem lnI_len (xs : List Int) : markN lnI xs = xs.length := by
  induction xs with
  | nil => rfl
  | cons x xs ih => rw [markN, ih, lnI, List.length_cons, Nat.add_comm]

end Go.Proofs.YtljphnjmeckpbaaGreat
