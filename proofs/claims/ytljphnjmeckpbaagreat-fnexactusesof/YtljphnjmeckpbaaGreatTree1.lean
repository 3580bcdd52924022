/-
  Rows of numbers, and rows of nodes: what is read of them, and what a call owns.
-/
import Derived.Test.YtljphnjmeckpbaaGreatRows2
import Derived.Test.YtljphnjmeckpbaaGreatPlain13
import Derived.Test.YtljphnjmeckpbaaGreatBase
namespace Go.Proofs.YtljphnjmeckpbaaGreat
open Go.RowKit

def inC (x : Int) : List Value := [.int .i64 x]
theorem inC_len (x : Int) : (inC x).length = 1 := rfl
/-- A row of numbers below block B. -/
def RowI (w : World) (B : Nat) (v : Value) (xs : List Int) : Prop := RowR inC 1 w B v xs
theorem RowI.keep {w w' : World} {B : Nat} {v : Value} {xs : List Int} (h : RowI w B v xs) (hb : Below B w w') : RowI w' B v xs := RowR.keep h hb
theorem RowI.up {w : World} {B B' : Nat} {v : Value} {xs : List Int} (h : RowI w B v xs) (hB : B ≤ B') : RowI w B' v xs := RowR.up h hB
theorem RowI.len {w : World} {B : Nat} {v : Value} {xs : List Int} (h : RowI w B v xs) : ∃ a cap, v = .slice a xs.length cap := RowR.len h
theorem RowI.at {w : World} {B : Nat} {a : Option Addr} {n cap : Nat} {xs : List Int} (h : RowI w B (.slice a n cap) xs) (i : Nat) (hi : i < xs.length) : ∃ b off, a = some ⟨b, off, none⟩ ∧ b < B ∧ w.cell? ⟨b, off + i, none⟩ = some (.int .i64 xs[i]) := by
  obtain ⟨b, off, ha, hb, hc⟩ := RowR.at h i hi
  have := hc 0 (by omega)
  simp only [Nat.mul_one, Nat.add_zero] at this
  exact ⟨b, off, ha, hb, this⟩
theorem RowI.cap {w : World} {B : Nat} {a : Option Addr} {n cap : Nat} {xs : List Int} (h : RowI w B (.slice a n cap) xs) : xs.length = n ∧ n ≤ cap := RowR.cap h
/-- A row of numbers that the call owns. -/
def OwnsI (w : World) (B : Nat) (v : Value) (xs : List Int) : Prop := OwnsR inC 1 w B 3 v xs
theorem OwnsI.row {w : World} {B : Nat} {v : Value} {xs : List Int} (h : OwnsI w B v xs) : RowI w w.heap.size v xs := OwnsR.read inC_len h (fun g hg => (OwnsR.lt h g hg).2)

theorem fps_one (v : Value) : fps [v] = fpOf v := by simp [fps]

def ndC (p : Nd × Value) : List Value := [.int .i64 p.1.kind, .int .i64 p.1.num, .string p.1.name, p.2]
/-- Rows of nodes. -/
def NdR : RowTy (Nd × Value) Nd where
  enc := ndC
  k := 4
  T := 67
  sub := fun w B p => OwnsI w B p.2 p.1.kids
  rsub := fun w B p => RowI w B p.2 p.1.kids
  vals := fun p => [p.2]
  log := Prod.fst
  len := fun _ => rfl
  sub_same := fun h hs => OwnsR.same h (fun g hg => hs g (by rw [fps_one]; exact hg))
  sub_base := fun h hs => OwnsR.base h (fun g hg => hs g (by rw [fps_one]; exact hg))
  sub_lt := fun h g hg => OwnsR.lt h g (by rw [fps_one] at hg; exact hg)
  sub_read := fun h hs => OwnsR.read inC_len h (fun g hg => hs g (by rw [fps_one]; exact hg))
  rsub_keep := fun h hb => h.keep hb
  rsub_up := fun h hB => h.up hB

/-- A row of nodes below block B, their kids too. -/
def RowNd (w : World) (B : Nat) (v : Value) (ns : List Nd) : Prop := NdR.Row w B v ns
theorem RowNd.keep {w w' : World} {B : Nat} {v : Value} {ns : List Nd} (h : RowNd w B v ns) (hb : Below B w w') : RowNd w' B v ns := RowTy.Row.keep h hb
theorem RowNd.up {w : World} {B B' : Nat} {v : Value} {ns : List Nd} (h : RowNd w B v ns) (hB : B ≤ B') : RowNd w B' v ns := RowTy.Row.up h hB
theorem RowNd.len {w : World} {B : Nat} {v : Value} {ns : List Nd} (h : RowNd w B v ns) : ∃ a cap, v = .slice a ns.length cap := RowTy.Row.len h
/-- One node of the row: its cells, and where its kids' cells lie. -/
theorem RowNd.at {w : World} {B : Nat} {a : Option Addr} {n cap : Nat} {ns : List Nd} (h : RowNd w B (.slice a n cap) ns) (i : Nat) (hi : i < ns.length) :
    ∃ b off ka kc, a = some ⟨b, off, none⟩ ∧ b < B ∧ w.cell? ⟨b, off + i * 4, none⟩ = some (.int .i64 ns[i].kind) ∧ w.cell? ⟨b, off + i * 4 + 1, none⟩ = some (.int .i64 ns[i].num) ∧ w.cell? ⟨b, off + i * 4 + 2, none⟩ = some (.string ns[i].name) ∧
      w.cell? ⟨b, off + i * 4 + 3, none⟩ = some (.slice ka ns[i].kids.length kc) ∧ RowI w B (.slice ka ns[i].kids.length kc) ns[i].kids := by
  obtain ⟨b, off, p, ha, hb, hp, hk, hc⟩ := RowTy.Row.at h i hi
  obtain ⟨q, kv⟩ := p
  obtain rfl : q = ns[i] := hp
  have hk' : RowI w B kv ns[i].kids := hk
  obtain ⟨ka, kc, rfl⟩ := hk'.len
  exact ⟨b, off, ka, kc, ha, hb, hc 0 (by decide), hc 1 (by decide), hc 2 (by decide), hc 3 (by decide), hk'⟩

end Go.Proofs.YtljphnjmeckpbaaGreat
