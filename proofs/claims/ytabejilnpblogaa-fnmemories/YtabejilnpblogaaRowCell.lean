/-
  What the laws' helpers answer of rows of Cell: held against each other, measured, copied, marked. Written by mkrow.py.
-/
import Derived.Test.YtabejilnpblogaaRa
import Derived.Test.YtabejilnpblogaaPlain43
import Derived.Test.YtabejilnpblogaaKa
import Derived.Handy
import Derived.BigQuiet
import Derived.Deep.QuietTactic
import Derived.Deep.RegionHeld3
namespace Go.Proofs.Ytabejilnpblogaa
open Go.RowKit

def ceC (p : Ce) : List Value := [.bool p.live, .int .i64 p.num]
/-- Rows of Cell. -/
def CeR : RowTy (Ce) Ce where
  enc := ceC
  k := 2
  T := 82
  sub := fun w B p => True
  rsub := fun w B p => True
  vals := fun p => []
  log := id
  len := fun _ => rfl
  sub_same := fun _ _ => trivial
  sub_base := fun _ _ => trivial
  sub_lt := fun _ g hg => by simp [fps] at hg
  sub_read := fun _ _ => trivial
  rsub_keep := fun _ _ => trivial
  rsub_up := fun _ _ => trivial
theorem CeR.at {w : World} {B : Nat} {a : Option Addr} {n cap : Nat} {xs : List Ce} (h : CeR.Row w B (.slice a n cap) xs) (i : Nat) (hi : i < xs.length) :
    ∃ b off, a = some ⟨b, off, none⟩ ∧ b < B ∧ w.cell? ⟨b, off + i * 2, none⟩ = some (.bool xs[i].live) ∧ w.cell? ⟨b, off + i * 2 + 1, none⟩ = some (.int .i64 xs[i].num) := by
  obtain ⟨b, off, p, ha, hb, hp, hk, hc⟩ := RowTy.Row.at h i hi
  obtain rfl : p = xs[i] := hp
  exact ⟨b, off, ha, hb, hc 0 (by decide), hc 1 (by decide)⟩

theorem CeR_phys {w : World} {B H : Nat} {v : Value} {xs : List Ce} (h : CeR.Own w B H v xs) : CeR.Phys w B v xs := by
  obtain ⟨ps, hl, hp, _⟩ := h
  obtain rfl : ps = xs := by rw [← hl]; exact (List.map_id ps).symm
  exact hp

theorem Try.infoCe : (Try.prog.info? 82).map (fun i => (i.zero, i.size, i.bytes)) = some (some (.agg #[.bool false, .int .i64 0]), 2, 16) := by kernel_rfl
def ceZ : Ce := ⟨false, 0⟩

theorem Try.cellsBool : Try.prog.cellsOf 4 = 1 := by kernel_rfl
theorem len_ce {γ : Type} {xs : List γ} (h : xs.length = 2) : ∃ x0 x1, xs = [x0, x1] := by
  match xs, h with
  | [x0, x1], _ => exact ⟨_, _, rfl⟩

end Go.Proofs.Ytabejilnpblogaa
