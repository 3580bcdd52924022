/-
  What the laws' helpers answer of rows of Var: held against each other, measured, copied, marked. Written by mkrow.py.
-/
import Derived.Test.YtljphnjmeckpbaaGreatOpen0
import Derived.Test.YtljphnjmeckpbaaGreatPlain33
import Derived.Test.YtljphnjmeckpbaaGreatRows3
import Derived.Handy
import Derived.BigQuiet
import Derived.Deep.QuietTactic
import Derived.Deep.RegionHeld3
namespace Go.Proofs.YtljphnjmeckpbaaGreat
open Go.RowKit

def vrC (p : Vr) : List Value := [.string p.name, .int .i64 p.ty, .int .i64 p.node]
/-- Rows of Var. -/
def VrR : RowTy (Vr) Vr where
  enc := vrC
  k := 3
  T := 47
  sub := fun w B p => True
  rsub := fun w B p => True
  vals := fun p => []
  log := id
  len := fun _ => rfl
  sub_same := fun _ _ => trivial
  sub_base := fun _ _ => trivial
  sub_lt := fun _ g hg => by simp [fps] at hg
  sub_read := fun _ _ => trivial
  rsub_keep := fun _ _ => trivial
  rsub_up := fun _ _ => trivial
theorem VrR.at {w : World} {B : Nat} {a : Option Addr} {n cap : Nat} {xs : List Vr} (h : VrR.Row w B (.slice a n cap) xs) (i : Nat) (hi : i < xs.length) :
    ∃ b off, a = some ⟨b, off, none⟩ ∧ b < B ∧ w.cell? ⟨b, off + i * 3, none⟩ = some (.string xs[i].name) ∧ w.cell? ⟨b, off + i * 3 + 1, none⟩ = some (.int .i64 xs[i].ty) ∧ w.cell? ⟨b, off + i * 3 + 2, none⟩ = some (.int .i64 xs[i].node) := by
  obtain ⟨b, off, p, ha, hb, hp, hk, hc⟩ := RowTy.Row.at h i hi
  obtain rfl : p = xs[i] := hp
  exact ⟨b, off, ha, hb, hc 0 (by decide), hc 1 (by decide), hc 2 (by decide)⟩

theorem VrR_phys {w : World} {B H : Nat} {v : Value} {xs : List Vr} (h : VrR.Own w B H v xs) : VrR.Phys w B v xs := by
  obtain ⟨ps, hl, hp, _⟩ := h
  obtain rfl : ps = xs := by rw [← hl]; exact (List.map_id ps).symm
  exact hp

theorem Tryz.infoVr : (Tryz.prog.info? 47).map (fun i => (i.zero, i.size, i.bytes)) = some (some (.agg #[.string ByteArray.empty, .int .i64 0, .int .i64 0]), 3, 32) := by kernel_rfl
def vrZ : Vr := ⟨ByteArray.empty, 0, 0⟩

theorem len_vr {γ : Type} {xs : List γ} (h : xs.length = 3) : ∃ x0 x1 x2, xs = [x0, x1, x2] := by
  match xs, h with
  | [x0, x1, x2], _ => exact ⟨_, _, _, rfl⟩

end Go.Proofs.YtljphnjmeckpbaaGreat
